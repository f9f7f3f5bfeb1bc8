/- The walk of the law ChachaBack. -/
import Derived.Test.YthbmagnajliabaaChN
namespace Go.Proofs.Ythbmagnajliabaa
open Go Go.RowKit

theorem getD_ext {xs ys : List UInt8} (hl : xs.length = ys.length) (h : ∀ i, i < xs.length → xs.getD i 0 = ys.getD i 0) : xs = ys := by
  apply List.ext_getElem hl
  intro i h1 h2
  have := h i h1
  simpa [h1, h2] using this
theorem xb_at (key : List UInt8) (ctr : Int) (nonce xs ys : List UInt8) (i : Nat) (h : xs.getD i 0 = ys.getD i 0) : xb key ctr nonce xs i = xb key ctr nonce ys i := by
  unfold xb
  rw [h]
theorem xor_twice (key : List UInt8) (ctr : Int) (nonce xs : List UInt8) : xorL key ctr nonce (xorL key ctr nonce xs) = xs := by
  apply getD_ext
  · rw [xorL_length, xorL_length]
  · intro i hi
    rw [xorL_length, xorL_length] at hi
    rw [xorL_getD _ _ _ _ _ (by rw [xorL_length]; exact hi)]
    unfold xb
    rw [xorL_getD _ _ _ _ _ hi]
    unfold xb
    rw [UInt8.xor_assoc, UInt8.xor_self, UInt8.xor_zero]
theorem xor_pieces (key : List UInt8) (ctr : Int) (nonce xs : List UInt8) (k : Nat) (hk : 64 * k ≤ xs.length) :
    xorL key ctr nonce xs = xorL key ctr nonce (xs.take (64 * k)) ++ xorL key ((ctr + (k : Int)) % 4294967296) nonce (xs.drop (64 * k)) := by
  apply getD_ext
  · simp [xorL_length]; omega
  · intro i hi
    rw [xorL_length] at hi
    rw [xorL_getD _ _ _ _ _ hi]
    by_cases h : i < 64 * k
    · rw [List.getD_eq_getElem?_getD, List.getElem?_append_left (by rw [xorL_length]; simp; omega), ← List.getD_eq_getElem?_getD, xorL_getD _ _ _ _ _ (by simp; omega)]
      exact xb_at _ _ _ _ _ _ (by simp [h])
    · rw [List.getD_eq_getElem?_getD, List.getElem?_append_right (by rw [xorL_length]; simp; omega), ← List.getD_eq_getElem?_getD, xorL_length, List.length_take, Nat.min_eq_left hk, xorL_getD _ _ _ _ _ (by simp; omega)]
      unfold xb
      rw [show (i - 64 * k) % 64 = i % 64 by omega]
      have e1 : (ctr + (k : Int)) % 4294967296 + (((i - 64 * k) / 64 : Nat) : Int) = (ctr + (k : Int)) % 4294967296 + (((i - 64 * k) / 64 : Nat) : Int) := rfl
      rw [Int.emod_add_emod, show ctr + (k : Int) + (((i - 64 * k) / 64 : Nat) : Int) = ctr + ((i / 64 : Nat) : Int) by omega]
      congr 1
      simp
      congr 2
      omega
theorem xb_turned (key : List UInt8) (ctr : Int) (nonce xs : List UInt8) (n i : Nat) (t : UInt8) (hn : n < xs.length) :
    xb key ctr nonce (xs.set n (xs.getD n 0 ^^^ t)) i = if i = n then xb key ctr nonce xs i ^^^ t else xb key ctr nonce xs i := by
  unfold xb
  by_cases h : i = n
  · subst h
    rw [if_pos rfl]
    simp only [List.getD_eq_getElem?_getD, List.getElem?_set_self hn, Option.getD_some]
    rw [UInt8.xor_assoc, UInt8.xor_comm t, ← UInt8.xor_assoc]
  · rw [if_neg h]
    simp only [List.getD_eq_getElem?_getD, List.getElem?_set_ne (Ne.symm h)]

theorem bsl_empty (w : World) (ao : Option Addr) (cap : Nat) (hc : cap ≤ maxLen) (hn : ao = none → cap = 0) : BSl w (.slice ao 0 cap) [] :=
  ⟨ao, cap, rfl, by simp, hc, fun e => ⟨rfl, hn e⟩, fun _ _ h => absurd rfl h⟩
theorem xorL_nil (key : List UInt8) (ctr : Int) (nonce : List UInt8) : xorL key ctr nonce [] = [] := rfl
theorem cat_bytes (a b : List UInt8) : (⟨(a ++ b).toArray⟩ : ByteArray) = ⟨a.toArray⟩ ++ ⟨b.toArray⟩ := by
  apply ByteArray.ext
  simp

set_option maxHeartbeats 3200000 in
set_option maxRecDepth 100000 in
theorem chachaBack_c (v0 v1 v2 : Value) (z0 z1 z2 : List UInt8) (ctr cut at_ : Int) (turn : UInt8) (hc0 : 0 ≤ ctr) (hc1 : ctr < 4294967296) (w : World) (h0 : BSl w v0 z0) (h1 : BSl w v1 z1) (h2 : BSl w v2 z2) :
    Calls Try.prog 5 #[v0, v1, v2, .int .u32 ctr, .int .i64 cut, .int .i64 at_, .int .u8 turn.toNat] w fun e w' => e = .returned (.bool true) ∧ Below w.heap.size w w' := by
  have HC0 := hidden hc0
  have HC1 := hidden hc1
  have H1 := hidden h1
  have H2 := hidden h2
  have HS0 := hidden (sized_b 32 (by omega) v0 z0 w h0)
  obtain ⟨a0, n0, rfl⟩ := h0.len
  obtain ⟨a1, n1, rfl⟩ := h1.len
  obtain ⟨a2, n2, rfl⟩ := h2.len
  clear h0 h1 h2 hc0 hc1
  go_enter Try.func5, Try.ntmps5
  go_wp2_with fail
  refine HS0.out.mono ?_
  rintro e w1 ⟨rfl, hk, hb1⟩
  have hkl := sizedL_length z0 32
  generalize sizedL z0 32 = key at hk hkl
  have HK := hidden hk
  have HKL := hidden hkl
  have HB1 := hidden hb1
  clear HS0 hk hkl hb1
  go_wp2_with fail
  refine (sized_b 12 (by omega) _ z1 w1 (H1.out.fresh HB1.out)).mono ?_
  rintro e w2 ⟨rfl, hn, hb2⟩
  have hnl := sizedL_length z1 12
  generalize sizedL z1 12 = nonce at hn hnl
  have HN := hidden hn
  have HNL := hidden hnl
  have HB2 := hidden (HB1.out.trans (hb2.mono HB1.out.size))
  have HK2 := hidden (HK.out.fresh hb2)
  clear hn hnl hb2 HB1 HK H1
  go_wp2_with fail
  refine (cut_c 400 (by omega) _ z2 w2 (H2.out.fresh HB2.out)).mono ?_
  rintro e w2' ⟨va, rfl, ha, hob, rfl⟩
  have hal : (z2.take 400).length ≤ 400 := by simp; omega
  generalize z2.take 400 = xs at ha hal
  obtain ⟨ao, ac, rfl, hac, hac2, _⟩ := id ha
  unfold maxLen at hac2
  have HA := hidden ha
  clear ha H2 hob
  go_wp2_with fail
  refine (Xor_c _ _ _ key nonce xs ctr HC0.out HC1.out (by omega) w2' HK2.out HN.out HA.out).mono ?_
  rintro e w3 hT
  obtain ⟨hb3, vx, rfl, hx, hfx⟩ := hT.ok HKL.out HNL.out
  clear hT
  have hxl := xorL_length key ctr nonce xs
  obtain ⟨xo, xc, rfl⟩ := hx.len
  rw [hxl] at hx ⊢
  have HX := hidden hx
  have HB3 := hidden (HB2.out.trans (hb3.mono HB2.out.size))
  have HK3 := hidden (HK2.out.fresh hb3)
  have HN3 := hidden (HN.out.fresh hb3)
  have HA3 := hidden (HA.out.fresh hb3)
  clear hx hfx hb3 hxl HK2 HN HA HB2
  go_wp2_with fail
  refine (Xor_c _ _ _ key nonce _ ctr HC0.out HC1.out (by rw [xorL_length]; omega) w3 HK3.out HN3.out HX.out).mono ?_
  rintro e w4 hT
  obtain ⟨hb4, vy, rfl, hy, hfy⟩ := hT.ok HKL.out HNL.out
  clear hT
  rw [xor_twice] at hy
  obtain ⟨yo, yc, rfl⟩ := hy.len
  have HY := hidden hy
  have HB4 := hidden (HB3.out.trans (hb4.mono HB3.out.size))
  have HK4 := hidden (HK3.out.fresh hb4)
  have HN4 := hidden (HN3.out.fresh hb4)
  have HA4 := hidden (HA3.out.fresh hb4)
  have HX4 := hidden (HX.out.fresh hb4)
  clear hy hfy hb4 HK3 HN3 HA3 HX HB3
  obtain ⟨m, hm⟩ : ∃ m, m = xs.length / 64 := ⟨_, rfl⟩
  have hmd : ((xs.length : Int)).tdiv 64 = (m : Int) := by rw [Int.tdiv_eq_ediv_of_nonneg (by omega)]; omega
  have HM := hidden hm
  have hm6 : m ≤ 6 := by omega
  clear hm
  go_wp2_with fail
  refine (within_c cut m (by have := HM.out; omega) w4).mono ?_
  rintro e w4' ⟨k, rfl, hk, rfl⟩
  have hk2 : 64 * k ≤ xs.length := by have := HM.out; omega
  obtain ⟨t, ht⟩ : ∃ t, t = 64 * k := ⟨_, rfl⟩
  have htk : 64 * (k : Int) = (t : Int) := by omega
  have HT := hidden ht
  have hta : (t : Int) ≤ (xs.length : Int) := by omega
  have htc : (t : Int) ≤ (ac : Int) := by omega
  have hk32 : IntKind.u32.wrap (k : Int) = (k : Int) := by rw [show IntKind.u32.wrap (k : Int) = (k : Int) % 4294967296 from rfl]; omega
  have hk6 : k ≤ 6 := by omega
  clear ht hk hk2
  by_cases hne : xs = []
  · subst hne
    obtain rfl : t = 0 := by simp at hta; omega
    obtain rfl : k = 0 := by have := HT.out; omega
    cases ao with
    | none =>
      go_wp2_with fail
      refine (Xor_c _ _ _ key nonce [] ctr HC0.out HC1.out (by simp) _ HK4.out HN4.out (bsl_empty _ _ _ (by simp [maxLen]) (fun _ => rfl))).mono ?_
      rintro e w5 hT
      obtain ⟨hb5, vp, rfl, hp5, hfp⟩ := hT.ok HKL.out HNL.out
      clear hT
      have HP5 := hidden hp5
      have HB5 := hidden (HB4.out.trans (hb5.mono HB4.out.size))
      have HK5 := hidden (HK4.out.fresh hb5)
      have HN5 := hidden (HN4.out.fresh hb5)
      have HX5 := hidden (HX4.out.fresh hb5)
      have HY5 := hidden (HY.out.fresh hb5)
      clear hp5 hfp hb5 HK4 HN4 HA4 HX4 HY HB4
      go_wp2_with fail
      refine (Xor_c _ _ _ key nonce [] _ (by have := HC0.out; have := HC1.out; omega) (by have := HC0.out; have := HC1.out; omega) (by simp) _ HK5.out HN5.out (bsl_empty _ _ _ (by simp [maxLen]) (fun _ => rfl))).mono ?_
      rintro e w6 hT
      obtain ⟨hb6, vq, rfl, hq6, hfq⟩ := hT.ok HKL.out HNL.out
      clear hT
      rw [xorL_nil] at hq6
      have hp6 := HP5.out.fresh hb6
      rw [xorL_nil] at hp6
      have hx6 := HX5.out.fresh hb6
      rw [xorL_nil] at hx6
      have r1 := run_string hx6
      have r2 := run_string (HY5.out.fresh hb6)
      have r4 := run_string hp6
      have r5 := run_string hq6
      have r3 := run_string (bsl_empty w6 none 0 (by simp [maxLen]) (fun _ => rfl))
      try simp only [List.length_nil] at r1
      try simp only [List.length_nil] at r2
      try simp only [List.length_nil] at r3
      try simp only [List.length_nil] at r4
      try simp only [List.length_nil] at r5
      have hcat : (⟨([] : List UInt8).toArray⟩ : ByteArray) ++ ⟨([] : List UInt8).toArray⟩ = ⟨([] : List UInt8).toArray⟩ := rfl
      have hsz : (⟨([] : List UInt8).toArray⟩ : ByteArray).size = 0 := rfl
      generalize (⟨([] : List UInt8).toArray⟩ : ByteArray) = s0 at r1 r2 r3 r4 r5 hcat hsz
      have HB6 := hidden (HB5.out.trans (hb6.mono HB5.out.size))
      clear hp6 hx6 hq6 hfq hb6 HK5 HN5 HX5 HY5 HP5 HB5
      go_wp2_with fail
      refine (known_c _).mono ?_
      rintro e w10 ⟨rfl, hb10⟩
      go_wp2
      go_ret
      exact ⟨rfl, HB6.out.trans (hb10.mono HB6.out.size)⟩
    | some ad =>
      by_cases hc0 : ac = 0
      · subst hc0
        go_wp2_with fail
        refine (Xor_c _ _ _ key nonce [] ctr HC0.out HC1.out (by simp) _ HK4.out HN4.out (bsl_empty _ _ _ (by simp [maxLen]) (fun e => by cases e))).mono ?_
        rintro e w5 hT
        obtain ⟨hb5, vp, rfl, hp5, hfp⟩ := hT.ok HKL.out HNL.out
        clear hT
        have HP5 := hidden hp5
        have HB5 := hidden (HB4.out.trans (hb5.mono HB4.out.size))
        have HK5 := hidden (HK4.out.fresh hb5)
        have HN5 := hidden (HN4.out.fresh hb5)
        have HX5 := hidden (HX4.out.fresh hb5)
        have HY5 := hidden (HY.out.fresh hb5)
        clear hp5 hfp hb5 HK4 HN4 HA4 HX4 HY HB4
        go_wp2_with fail
        refine (Xor_c _ _ _ key nonce [] _ (by have := HC0.out; have := HC1.out; omega) (by have := HC0.out; have := HC1.out; omega) (by simp) _ HK5.out HN5.out (bsl_empty _ _ _ (by simp [maxLen]) (fun e => by cases e))).mono ?_
        rintro e w6 hT
        obtain ⟨hb6, vq, rfl, hq6, hfq⟩ := hT.ok HKL.out HNL.out
        clear hT
        rw [xorL_nil] at hq6
        have hp6 := HP5.out.fresh hb6
        rw [xorL_nil] at hp6
        have hx6 := HX5.out.fresh hb6
        rw [xorL_nil] at hx6
        have r1 := run_string hx6
        have r2 := run_string (HY5.out.fresh hb6)
        have r4 := run_string hp6
        have r5 := run_string hq6
        have r3 := run_string (bsl_empty w6 (some ad) 0 (by simp [maxLen]) (fun e => by cases e))
        try simp only [List.length_nil] at r1
        try simp only [List.length_nil] at r2
        try simp only [List.length_nil] at r3
        try simp only [List.length_nil] at r4
        try simp only [List.length_nil] at r5
        have hcat : (⟨([] : List UInt8).toArray⟩ : ByteArray) ++ ⟨([] : List UInt8).toArray⟩ = ⟨([] : List UInt8).toArray⟩ := rfl
        have hsz : (⟨([] : List UInt8).toArray⟩ : ByteArray).size = 0 := rfl
        generalize (⟨([] : List UInt8).toArray⟩ : ByteArray) = s0 at r1 r2 r3 r4 r5 hcat hsz
        have HB6 := hidden (HB5.out.trans (hb6.mono HB5.out.size))
        clear hp6 hx6 hq6 hfq hb6 HK5 HN5 HX5 HY5 HP5 HB5
        go_wp2_with fail
        refine (known_c _).mono ?_
        rintro e w10 ⟨rfl, hb10⟩
        go_wp2
        go_ret
        exact ⟨rfl, HB6.out.trans (hb10.mono HB6.out.size)⟩
      · go_wp2_with fail
        refine (Xor_c _ _ _ key nonce [] ctr HC0.out HC1.out (by simp) _ HK4.out HN4.out (bsl_empty _ _ _ (by unfold maxLen; omega) (fun e => by cases e))).mono ?_
        rintro e w5 hT
        obtain ⟨hb5, vp, rfl, hp5, hfp⟩ := hT.ok HKL.out HNL.out
        clear hT
        have HP5 := hidden hp5
        have HB5 := hidden (HB4.out.trans (hb5.mono HB4.out.size))
        have HK5 := hidden (HK4.out.fresh hb5)
        have HN5 := hidden (HN4.out.fresh hb5)
        have HX5 := hidden (HX4.out.fresh hb5)
        have HY5 := hidden (HY.out.fresh hb5)
        clear hp5 hfp hb5 HK4 HN4 HA4 HX4 HY HB4
        go_wp2_with fail
        refine (Xor_c _ _ _ key nonce [] _ (by have := HC0.out; have := HC1.out; omega) (by have := HC0.out; have := HC1.out; omega) (by simp) _ HK5.out HN5.out (bsl_empty _ _ _ (by unfold maxLen; omega) (fun e => by cases e))).mono ?_
        rintro e w6 hT
        obtain ⟨hb6, vq, rfl, hq6, hfq⟩ := hT.ok HKL.out HNL.out
        clear hT
        rw [xorL_nil] at hq6
        have hp6 := HP5.out.fresh hb6
        rw [xorL_nil] at hp6
        have hx6 := HX5.out.fresh hb6
        rw [xorL_nil] at hx6
        have r1 := run_string hx6
        have r2 := run_string (HY5.out.fresh hb6)
        have r4 := run_string hp6
        have r5 := run_string hq6
        have r3 := run_string (bsl_empty w6 (some ad) ac (by unfold maxLen; omega) (fun e => by cases e))
        try simp only [List.length_nil] at r1
        try simp only [List.length_nil] at r2
        try simp only [List.length_nil] at r3
        try simp only [List.length_nil] at r4
        try simp only [List.length_nil] at r5
        have hcat : (⟨([] : List UInt8).toArray⟩ : ByteArray) ++ ⟨([] : List UInt8).toArray⟩ = ⟨([] : List UInt8).toArray⟩ := rfl
        have hsz : (⟨([] : List UInt8).toArray⟩ : ByteArray).size = 0 := rfl
        generalize (⟨([] : List UInt8).toArray⟩ : ByteArray) = s0 at r1 r2 r3 r4 r5 hcat hsz
        have HB6 := hidden (HB5.out.trans (hb6.mono HB5.out.size))
        clear hp6 hx6 hq6 hfq hb6 HK5 HN5 HX5 HY5 HP5 HB5
        go_wp2_with fail
        refine (known_c _).mono ?_
        rintro e w10 ⟨rfl, hb10⟩
        go_wp2
        go_ret
        exact ⟨rfl, HB6.out.trans (hb10.mono HB6.out.size)⟩
  · obtain ⟨b, o, rfl⟩ := HA4.out.addr hne
    have hl0 : ((xs.length : Int) == 0) = false := by have := List.length_pos_iff.2 hne; simp; omega
    have hl1 : 1 ≤ xs.length := List.length_pos_iff.2 hne
    go_wp2_with fail
    have hp := HA4.out.part (i := 0) (j := t) (by omega)
    rw [List.drop_zero, Nat.add_zero, Nat.sub_zero] at hp
    refine (Xor_c _ _ _ key nonce _ ctr HC0.out HC1.out (by rw [List.length_take]; omega) _ HK4.out HN4.out hp).mono ?_
    rintro e w5 hT
    obtain ⟨hb5, vp, rfl, hp5, hfp⟩ := hT.ok HKL.out HNL.out
    clear hT hp
    have HP5 := hidden hp5
    have HB5 := hidden (HB4.out.trans (hb5.mono HB4.out.size))
    have HK5 := hidden (HK4.out.fresh hb5)
    have HN5 := hidden (HN4.out.fresh hb5)
    have HA5 := hidden (HA4.out.fresh hb5)
    have HX5 := hidden (HX4.out.fresh hb5)
    have HY5 := hidden (HY.out.fresh hb5)
    clear hp5 hfp hb5 HK4 HN4 HA4 HX4 HY HB4
    by_cases hat : ac = t
    · have hxt : xs.length = t := by omega
      have hdr : xs.drop t = [] := by rw [← hxt]; exact List.drop_length
      have hq : BSl w5 (.slice (some ⟨b, o, none⟩) 0 0) (xs.drop t) := by
        rw [hdr]
        exact ⟨_, 0, rfl, by simp, by simp [maxLen], (fun e => by cases e), fun ad e h => absurd rfl h⟩
      have HQ := hidden hq
      have HXT := hidden hxt
      clear hq hdr hxt
      obtain rfl : t = ac := hat.symm
      have hz1 : xs.length - t = 0 := by omega
      have hz2 : t - t = 0 := by omega
      go_wp2_with fail
      refine (Xor_c _ _ _ key nonce _ _ (by omega) (by omega) (by rw [List.length_drop]; omega) _ HK5.out HN5.out HQ.out).mono ?_
      rintro e w6 hT
      obtain ⟨hb6, vq, rfl, hq6, hfq⟩ := hT.ok HKL.out HNL.out
      clear hT
      have hx6 := HX5.out.fresh hb6
      have hy6 := HY5.out.fresh hb6
      have ha6 := HA5.out.fresh hb6
      have hp6 := HP5.out.fresh hb6
      have r1 := run_string hx6
      have r2 := run_string hy6
      have r3 := run_string ha6
      have r4 := run_string hp6
      have r5 := run_string hq6
      have hcat : (⟨(xorL key ctr nonce (xs.take t)).toArray⟩ : ByteArray) ++ ⟨(xorL key ((ctr + (k : Int)) % 4294967296) nonce (xs.drop t)).toArray⟩ = ⟨(xorL key ctr nonce xs).toArray⟩ := by
        rw [← cat_bytes, HT.out, ← xor_pieces key ctr nonce xs k (by have := HT.out; omega)]
      have hsz : (⟨(xorL key ctr nonce (xs.take t)).toArray⟩ : ByteArray).size + (⟨(xorL key ((ctr + (k : Int)) % 4294967296) nonce (xs.drop t)).toArray⟩ : ByteArray).size ≤ 800 := by
        rw [size_list, size_list, xorL_length, xorL_length, List.length_take, List.length_drop]
        omega
      have HX6 := hidden hx6
      have HA6 := hidden ha6
      have HB6 := hidden (HB5.out.trans (hb6.mono HB5.out.size))
      have HK6 := hidden (HK5.out.fresh hb6)
      have HN6 := hidden (HN5.out.fresh hb6)
      clear hx6 hy6 ha6 hp6 hq6 hfq hb6 HK5 HN5 HA5 HX5 HY5 HP5 HB5
      generalize (⟨(xorL key ctr nonce (xs.take t)).toArray⟩ : ByteArray) = s4 at r4 hcat hsz
      generalize (⟨(xorL key ((ctr + (k : Int)) % 4294967296) nonce (xs.drop t)).toArray⟩ : ByteArray) = s5 at r5 hcat hsz
      generalize (⟨(xorL key ctr nonce xs).toArray⟩ : ByteArray) = s1 at r1 hcat
      generalize (⟨xs.toArray⟩ : ByteArray) = s2 at r2 r3
      obtain ⟨i0, hi, hz0, hzz1, hz2'⟩ := info_parts Try.infoU8
      go_wp2_with (refine wpList_append_src _ rfl (.tmp 117) (.tmp 118) 22 22 rfl w6.heap.size 5 i0 _ 1 Try.underlying22 hi hz0 hzz1 hz2' rfl (.slice (some ⟨w6.heap.size, 0, none⟩) 0 0) 0 _ rfl (own_empty w6) _ xs.length _ rfl ((HA6.out.alloc _).src) (by unfold maxLen; omega) (by omega) (by simp) (w6.heap.size + 1) (by simp) ?_)
      intro v7 w7 hown hgrow hnil hat7
      obtain ⟨g7, c7, rfl, hor⟩ := ORow.ofOwns hown hne
      have hb7 : Below w6.heap.size w6 w7 := ((Below.refl _ w6).alloc (Nat.le_refl _) _).grown hgrow (by simp) (fun k hk => by simp [Value.ownBlock] at hk; omega)
      have HO7 := hidden hor
      have HB7 := hidden hb7
      clear hown hgrow hnil hat7 hor hb7 r1 r2 r3 r4 r5 hcat hsz hi hz0 hzz1 hz2'
      obtain ⟨l1, hl1'⟩ : ∃ l1, xs.length = l1 + 1 := ⟨xs.length - 1, by omega⟩
      have hlm : (xs.length : Int) - 1 = (l1 : Int) := by omega
      have HL1 := hidden hl1'
      clear hl1'
      go_wp2_with fail
      refine (within_c at_ l1 (by have := HL1.out; omega) w7).mono ?_
      rintro e w7' ⟨n, rfl, hn, rfl⟩
      have hnl : n < xs.length := by have := HL1.out; omega
      have hnl' : (n : Int) < (xs.length : Int) := by omega
      have hcn := HO7.out.cell n hnl
      have hfz := HO7.out.frozen n
      obtain ⟨y, hy⟩ : ∃ y, y = xs.getD n 0 ^^^ turn := ⟨_, rfl⟩
      have hxb : bits BinOp.xor IntKind.u8 ((xs.getD n 0).toNat : Int) (turn.toNat : Int) = (y.toNat : Int) := by rw [xbyte, hy]
      have HYY := hidden hy
      clear hy hn hlm
      generalize (xs.getD n 0).toNat = u0 at hcn hxb
      go_wp2_with fail
      have ho8 := HO7.out.set n y
      have hb8 := HB7.out.setCell (p := ⟨g7, n, none⟩) HO7.out.1 (.int .u8 y.toNat)
      have hzz := ho8.bsl
      rw [List.length_set] at hzz
      have HB8 := hidden (HB6.out.trans (hb8.mono HB6.out.size))
      refine (Xor_c _ _ _ key nonce _ ctr HC0.out HC1.out (by rw [List.length_set]; omega) _ (HK6.out.fresh hb8) (HN6.out.fresh hb8) hzz).mono ?_
      rintro e w9 hT
      obtain ⟨hb9, vz, rfl, hz9, hfz9⟩ := hT.ok HKL.out HNL.out
      clear hT
      have hzl := xorL_length key ctr nonce (xs.set n y)
      rw [List.length_set] at hzl
      obtain ⟨zo, zc, rfl⟩ := hz9.len
      rw [hzl] at hz9 ⊢
      have HZ9 := hidden hz9
      have HB9 := hidden (HB8.out.trans (hb9.mono HB8.out.size))
      have HX9 := hidden ((HX6.out.fresh hb8).fresh hb9)
      clear ho8 hb8 hzz hb9 hz9 hfz9 hzl HB8 HX6 HA6 HK6 HN6 HB6 HO7 HB7 hcn hfz hxb
      go_wp2_with fail
      go_loopw [28] (fun i wr => ∃ j : Nat, j ≤ xs.length ∧ i = .int .i64 j ∧ wr = w9) (fun i _ => xs.length - (intOf i).toNat)
      case atStart => exact ⟨0, Nat.zero_le _, rfl, rfl⟩
      case round =>
        obtain ⟨j, hj, rfl, rfl⟩ := hrel
        by_cases hlt : j < xs.length
        · have hxx := xorL_length key ctr nonce xs
          have hyy := xorL_length key ctr nonce (xs.set n y)
          rw [List.length_set] at hyy
          obtain ⟨b2, o2, rfl⟩ := HX9.out.addr (by intro e; rw [e] at hxx; simp at hxx; omega)
          obtain ⟨b3, o3, rfl⟩ := HZ9.out.addr (by intro e; rw [e] at hyy; simp at hyy; omega)
          have c3 := HX9.out.cellD j (by omega)
          have c4 := HZ9.out.cellD j (by omega)
          rw [xorL_getD _ _ _ _ _ (by first | omega | (rw [List.length_set]; omega))] at c3 c4
          rw [HYY.out, xb_turned key ctr nonce xs n j turn hnl] at c4
          have hi1 : (j : Int) < (xs.length : Int) := by omega
          clear hxx hyy
          by_cases hjn : j = n
          · subst hjn
            rw [if_pos rfl] at c4
            have hq9 : bits BinOp.xor IntKind.u8 ((xb key ctr nonce xs j).toNat : Int) (turn.toNat : Int) = ((xb key ctr nonce xs j ^^^ turn).toNat : Int) := xbyte _ _
            generalize (xb key ctr nonce xs j ^^^ turn).toNat = q2 at hq9 c4
            generalize (xb key ctr nonce xs j).toNat = q1 at hq9 c3
            go_wp2
            go_roundw
            case rel => exact ⟨j + 1, by omega, by go_num, trivial⟩
            case measure => simp [intOf]; omega
          · rw [if_neg hjn] at c4
            have hj2 : ((j : Int) == (n : Int)) = false := by simp; omega
            generalize (xb key ctr nonce xs j).toNat = q1 at c3 c4
            clear hjn
            go_wp2
            go_roundw
            case rel => exact ⟨j + 1, by omega, by go_num, trivial⟩
            case measure => simp [intOf]; omega
        · have hi1 : ¬ (j : Int) < (xs.length : Int) := by omega
          go_wp2_with fail
          refine (known_c _).mono ?_
          rintro e w10 ⟨rfl, hb10⟩
          go_wp2
          go_ret
          exact ⟨rfl, HB9.out.trans (hb10.mono HB9.out.size)⟩
    · go_wp2_with fail
      have hq : BSl w5 (.slice (some ⟨b, o + t, none⟩) (xs.length - t) (ac - t)) (xs.drop t) := HA5.out.dropS (k := t) (by omega)
      refine (Xor_c _ _ _ key nonce _ _ (by omega) (by omega) (by rw [List.length_drop]; omega) _ HK5.out HN5.out hq).mono ?_
      rintro e w6 hT
      obtain ⟨hb6, vq, rfl, hq6, hfq⟩ := hT.ok HKL.out HNL.out
      clear hT
      have hx6 := HX5.out.fresh hb6
      have hy6 := HY5.out.fresh hb6
      have ha6 := HA5.out.fresh hb6
      have hp6 := HP5.out.fresh hb6
      have r1 := run_string hx6
      have r2 := run_string hy6
      have r3 := run_string ha6
      have r4 := run_string hp6
      have r5 := run_string hq6
      have hcat : (⟨(xorL key ctr nonce (xs.take t)).toArray⟩ : ByteArray) ++ ⟨(xorL key ((ctr + (k : Int)) % 4294967296) nonce (xs.drop t)).toArray⟩ = ⟨(xorL key ctr nonce xs).toArray⟩ := by
        rw [← cat_bytes, HT.out, ← xor_pieces key ctr nonce xs k (by have := HT.out; omega)]
      have hsz : (⟨(xorL key ctr nonce (xs.take t)).toArray⟩ : ByteArray).size + (⟨(xorL key ((ctr + (k : Int)) % 4294967296) nonce (xs.drop t)).toArray⟩ : ByteArray).size ≤ 800 := by
        rw [size_list, size_list, xorL_length, xorL_length, List.length_take, List.length_drop]
        omega
      have HX6 := hidden hx6
      have HA6 := hidden ha6
      have HB6 := hidden (HB5.out.trans (hb6.mono HB5.out.size))
      have HK6 := hidden (HK5.out.fresh hb6)
      have HN6 := hidden (HN5.out.fresh hb6)
      clear hx6 hy6 ha6 hp6 hq6 hfq hb6 HK5 HN5 HA5 HX5 HY5 HP5 HB5
      generalize (⟨(xorL key ctr nonce (xs.take t)).toArray⟩ : ByteArray) = s4 at r4 hcat hsz
      generalize (⟨(xorL key ((ctr + (k : Int)) % 4294967296) nonce (xs.drop t)).toArray⟩ : ByteArray) = s5 at r5 hcat hsz
      generalize (⟨(xorL key ctr nonce xs).toArray⟩ : ByteArray) = s1 at r1 hcat
      generalize (⟨xs.toArray⟩ : ByteArray) = s2 at r2 r3
      obtain ⟨i0, hi, hz0, hzz1, hz2'⟩ := info_parts Try.infoU8
      go_wp2_with (refine wpList_append_src _ rfl (.tmp 117) (.tmp 118) 22 22 rfl w6.heap.size 5 i0 _ 1 Try.underlying22 hi hz0 hzz1 hz2' rfl (.slice (some ⟨w6.heap.size, 0, none⟩) 0 0) 0 _ rfl (own_empty w6) _ xs.length _ rfl ((HA6.out.alloc _).src) (by unfold maxLen; omega) (by omega) (by simp) (w6.heap.size + 1) (by simp) ?_)
      intro v7 w7 hown hgrow hnil hat7
      obtain ⟨g7, c7, rfl, hor⟩ := ORow.ofOwns hown hne
      have hb7 : Below w6.heap.size w6 w7 := ((Below.refl _ w6).alloc (Nat.le_refl _) _).grown hgrow (by simp) (fun k hk => by simp [Value.ownBlock] at hk; omega)
      have HO7 := hidden hor
      have HB7 := hidden hb7
      clear hown hgrow hnil hat7 hor hb7 r1 r2 r3 r4 r5 hcat hsz hi hz0 hzz1 hz2'
      obtain ⟨l1, hl1'⟩ : ∃ l1, xs.length = l1 + 1 := ⟨xs.length - 1, by omega⟩
      have hlm : (xs.length : Int) - 1 = (l1 : Int) := by omega
      have HL1 := hidden hl1'
      clear hl1'
      go_wp2_with fail
      refine (within_c at_ l1 (by have := HL1.out; omega) w7).mono ?_
      rintro e w7' ⟨n, rfl, hn, rfl⟩
      have hnl : n < xs.length := by have := HL1.out; omega
      have hnl' : (n : Int) < (xs.length : Int) := by omega
      have hcn := HO7.out.cell n hnl
      have hfz := HO7.out.frozen n
      obtain ⟨y, hy⟩ : ∃ y, y = xs.getD n 0 ^^^ turn := ⟨_, rfl⟩
      have hxb : bits BinOp.xor IntKind.u8 ((xs.getD n 0).toNat : Int) (turn.toNat : Int) = (y.toNat : Int) := by rw [xbyte, hy]
      have HYY := hidden hy
      clear hy hn hlm
      generalize (xs.getD n 0).toNat = u0 at hcn hxb
      go_wp2_with fail
      have ho8 := HO7.out.set n y
      have hb8 := HB7.out.setCell (p := ⟨g7, n, none⟩) HO7.out.1 (.int .u8 y.toNat)
      have hzz := ho8.bsl
      rw [List.length_set] at hzz
      have HB8 := hidden (HB6.out.trans (hb8.mono HB6.out.size))
      refine (Xor_c _ _ _ key nonce _ ctr HC0.out HC1.out (by rw [List.length_set]; omega) _ (HK6.out.fresh hb8) (HN6.out.fresh hb8) hzz).mono ?_
      rintro e w9 hT
      obtain ⟨hb9, vz, rfl, hz9, hfz9⟩ := hT.ok HKL.out HNL.out
      clear hT
      have hzl := xorL_length key ctr nonce (xs.set n y)
      rw [List.length_set] at hzl
      obtain ⟨zo, zc, rfl⟩ := hz9.len
      rw [hzl] at hz9 ⊢
      have HZ9 := hidden hz9
      have HB9 := hidden (HB8.out.trans (hb9.mono HB8.out.size))
      have HX9 := hidden ((HX6.out.fresh hb8).fresh hb9)
      clear ho8 hb8 hzz hb9 hz9 hfz9 hzl HB8 HX6 HA6 HK6 HN6 HB6 HO7 HB7 hcn hfz hxb
      go_wp2_with fail
      go_loopw [28] (fun i wr => ∃ j : Nat, j ≤ xs.length ∧ i = .int .i64 j ∧ wr = w9) (fun i _ => xs.length - (intOf i).toNat)
      case atStart => exact ⟨0, Nat.zero_le _, rfl, rfl⟩
      case round =>
        obtain ⟨j, hj, rfl, rfl⟩ := hrel
        by_cases hlt : j < xs.length
        · have hxx := xorL_length key ctr nonce xs
          have hyy := xorL_length key ctr nonce (xs.set n y)
          rw [List.length_set] at hyy
          obtain ⟨b2, o2, rfl⟩ := HX9.out.addr (by intro e; rw [e] at hxx; simp at hxx; omega)
          obtain ⟨b3, o3, rfl⟩ := HZ9.out.addr (by intro e; rw [e] at hyy; simp at hyy; omega)
          have c3 := HX9.out.cellD j (by omega)
          have c4 := HZ9.out.cellD j (by omega)
          rw [xorL_getD _ _ _ _ _ (by first | omega | (rw [List.length_set]; omega))] at c3 c4
          rw [HYY.out, xb_turned key ctr nonce xs n j turn hnl] at c4
          have hi1 : (j : Int) < (xs.length : Int) := by omega
          clear hxx hyy
          by_cases hjn : j = n
          · subst hjn
            rw [if_pos rfl] at c4
            have hq9 : bits BinOp.xor IntKind.u8 ((xb key ctr nonce xs j).toNat : Int) (turn.toNat : Int) = ((xb key ctr nonce xs j ^^^ turn).toNat : Int) := xbyte _ _
            generalize (xb key ctr nonce xs j ^^^ turn).toNat = q2 at hq9 c4
            generalize (xb key ctr nonce xs j).toNat = q1 at hq9 c3
            go_wp2
            go_roundw
            case rel => exact ⟨j + 1, by omega, by go_num, trivial⟩
            case measure => simp [intOf]; omega
          · rw [if_neg hjn] at c4
            have hj2 : ((j : Int) == (n : Int)) = false := by simp; omega
            generalize (xb key ctr nonce xs j).toNat = q1 at c3 c4
            clear hjn
            go_wp2
            go_roundw
            case rel => exact ⟨j + 1, by omega, by go_num, trivial⟩
            case measure => simp [intOf]; omega
        · have hi1 : ¬ (j : Int) < (xs.length : Int) := by omega
          go_wp2_with fail
          refine (known_c _).mono ?_
          rintro e w10 ⟨rfl, hb10⟩
          go_wp2
          go_ret
          exact ⟨rfl, HB9.out.trans (hb10.mono HB9.out.size)⟩
end Go.Proofs.Ythbmagnajliabaa
