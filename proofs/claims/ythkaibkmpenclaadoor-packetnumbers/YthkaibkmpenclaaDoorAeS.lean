/- The document's Seal and Open, told. -/
import Derived.Test.YthkaibkmpenclaaDoorAeR
namespace Go.Proofs.YthkaibkmpenclaaDoor
open Go Go.RowKit

theorem own_mono {w : World} {a b : Nat} {v : Value} {n : Nat} {l : List Value} (h : w.ownsRow b 5 1 v n l) (hab : a ≤ b) : w.ownsRow a 5 1 v n l := by
  refine ⟨h.1, ?_⟩
  rcases h.2 with h5 | ⟨g, cap, cur, h6, h7, rest⟩
  · exact .inl h5
  · exact .inr ⟨g, cap, cur, h6, Nat.le_trans hab h7, rest⟩
theorem str_eqS (a b : List UInt8) : ((⟨a.toArray⟩ : ByteArray).toList == (⟨b.toArray⟩ : ByteArray).toList) = decide (a = b) := by
  rw [ByteArray.toList_mk, ByteArray.toList_mk]
  exact Bool.eq_iff_iff.2 (by simp)

set_option maxHeartbeats 1600000 in
set_option maxRecDepth 100000 in
theorem rSeal_c (v1 v2 v3 v4 : Value) (key nonce beside b : List UInt8) (w : World) (hsl : beside.length ≤ 10000) (hbl : b.length ≤ 10000) (h1 : BSl w v1 key) (h2 : BSl w v2 nonce) (h3 : BSl w v3 beside) (h4 : BSl w v4 b) :
    Calls Tryd.prog 36 #[v1, v2, v3, v4] w fun e w' => OTold w (sealE key nonce) (sealT key nonce beside b) e w' := by
  have HX := hidden (rXor_c v1 v2 v4 key nonce b 1 (by omega) (by omega) (by omega) w h1 h2 h4)
  have H1 := hidden h1
  have H2 := hidden h2
  have H3 := hidden h3
  clear h1 h2 h3 h4
  by_cases hk : okSizes key nonce = true
  · have HK := hidden hk
    clear hk
    obtain ⟨i0, hi, hz0, hz1, hz2⟩ := info_parts Tryd.infoU8
    go_enter Tryd.func36, Tryd.ntmps36
    go_wp2_with fail
    refine HX.out.mono ?_
    rintro e w1 hT
    obtain ⟨hb1, vx, rfl, hx1, _⟩ := hT.okS HK.out
    have HXE : Hid (sealT key nonce beside b = xorL key 1 nonce b ++ tagL key nonce beside (xorL key 1 nonce b)) := by show _ = _; rw [sealT, if_pos HK.out]
    have HSE : Hid (sealE key nonce = 0) := by show _ = _; rw [sealE, if_pos HK.out]
    have hxl := xorL_length key 1 nonce b
    generalize xorL key 1 nonce b = X at hx1 hxl HXE
    obtain ⟨xa, xc, rfl⟩ := hx1.len
    obtain ⟨n, hn⟩ : ∃ n, n = X.length := ⟨_, rfl⟩
    have HN := hidden hn
    have hnb : n ≤ 10000 := by omega
    rw [← hn] at hx1 ⊢
    have HX1 := hidden hx1
    have HB1 := hidden hb1
    clear hT hb1 hx1 hn hxl HX
    go_wp2_with (refine wpList_cloneO _ rfl (.tmp 21) (.tmp 22) rfl rfl _ X rfl HX1.out (by have := HN.out; omega) ?_)
    intro ca cc w2 ho2 hb2
    rw [← HN.out] at ho2 ⊢
    have HO2 := hidden ho2
    have HB2 := hidden (HB1.out.trans (hb2.mono HB1.out.size))
    have HX2 := hidden (HX1.out.fresh hb2)
    have HW12 := hidden hb2
    clear ho2 hb2 HX1
    go_wp2_with fail
    refine (rsum_c _ _ _ _ key nonce beside X w2 HK.out (by omega) (by have := HN.out; omega) (H1.out.fresh HB2.out) (H2.out.fresh HB2.out) (H3.out.fresh HB2.out) HX2.out).mono ?_
    rintro e w3 ⟨hb3, ta, tc, rfl, ht3⟩
    have hso := ht3.src
    rw [tagL_length] at hso ht3 ⊢
    have HSO := hidden hso
    have HO3 := hidden ((Keeps.ofFresh (S := fun _ => False) hb3).row HO2.out (fun _ _ h => h))
    have HB3 := hidden (HB2.out.trans (hb3.mono HB2.out.size))
    have hsz3 : w1.heap.size ≤ w3.heap.size := Nat.le_trans HW12.out.size hb3.size
    clear hb3 ht3 hso HO2 HX2 HB2 HW12
    go_wp2_with (refine wpList_append_src _ rfl (.tmp 23) (.tmp 28) 22 22 rfl w1.heap.size 5 i0 _ 1 Tryd.underlying22 hi hz0 hz1 hz2 rfl (.slice ca n cc) n _ rfl HO3.out _ 16 _ rfl HSO.out (by unfold maxLen; omega) (by omega) hsz3 w3.heap.size rfl ?_)
    intro v' w9 hown hgrow hnil hat
    have hb9 : Below w.heap.size w w9 := HB3.out.grown hgrow HB3.out.size (fun k hk => Nat.le_trans HB1.out.size (HO3.out.lt k hk).1)
    have HF : Hid (OTold w (sealE key nonce) (sealT key nonce beside b) (.returned (.tuple #[v', .int .i64 0])) w9) := by
      rw [HXE.out, HSE.out]
      refine ⟨hb9, v', rfl, own_mono (b := w1.heap.size) ?_ HB1.out.size⟩
      rw [List.length_append, tagL_length, bcells_append, ← HN.out]
      exact hown
    clear hown hgrow hnil hat hb9
    go_wp2
    go_ret2
    exact HF.out
  · have hk' : okSizes key nonce = false := by simpa using hk
    go_enter Tryd.func36, Tryd.ntmps36
    go_wp2_with fail
    refine HX.out.mono ?_
    rintro e w1 hT
    obtain ⟨hb, rfl⟩ := hT.noS hk'
    have HF : Hid (OTold w (sealE key nonce) (sealT key nonce beside b) (.returned (.tuple #[.slice none 0 0, .int .i64 1])) w1) := by
      rw [sealE, sealT, hk']
      exact OTold.nil hb
    clear hT hb hk hk' HX
    go_wp2
    go_ret2
    exact HF.out

set_option maxHeartbeats 1600000 in
set_option maxRecDepth 100000 in
theorem rOpen_c (v1 v2 v3 v4 : Value) (key nonce beside b : List UInt8) (w : World) (hsl : beside.length ≤ 10000) (hbl : b.length ≤ 10000) (h1 : BSl w v1 key) (h2 : BSl w v2 nonce) (h3 : BSl w v3 beside) (h4 : BSl w v4 b) :
    Calls Tryd.prog 56 #[v1, v2, v3, v4] w fun e w' => ETold w (openE key nonce beside b) (openT key nonce beside b) e w' := by
  have H1 := hidden h1
  have H2 := hidden h2
  have H3 := hidden h3
  have H4 := hidden h4
  obtain ⟨a1, c1, rfl⟩ := h1.len
  obtain ⟨a2, c2, rfl⟩ := h2.len
  obtain ⟨a4, c4, rfl, hc4, hm4, _⟩ := h4
  unfold maxLen at hm4
  clear h1 h2 h3
  by_cases hk : okSizes key nonce = true
  · have HK := hidden hk
    have hkl := (of_ok hk).1
    have hnl := (of_ok hk).2
    rw [hkl] at H1 ⊢
    rw [hnl] at H2 ⊢
    clear hkl hnl
    by_cases hsh : b.length < 16
    · have hsh' : (b.length : Int) < 16 := by omega
      have HF : Hid (ETold w (openE key nonce beside b) (openT key nonce beside b) (.returned (.tuple #[.slice none 0 0, .int .i64 10])) w) := by
        have hE := open_short beside b hk hsh
        rw [openT_not (by rw [hE]; omega), hE]
        exact ETold.nil (Below.refl _ _)
      clear hk
      go_enter Tryd.func56, Tryd.ntmps56
      go_wp2
      go_ret2
      exact HF.out
    · have hsh' : ¬ (b.length : Int) < 16 := by omega
      have hOE : openE key nonce beside b = if tagL key nonce beside (b.take (b.length - 16)) = b.drop (b.length - 16) then 0 else 14 := by rw [openE, if_pos hk, if_neg hsh]
      have hne : b ≠ [] := by intro e; rw [e] at hsh; simp at hsh
      obtain ⟨b4, o4, rfl⟩ := H4.out.addr hne
      obtain ⟨n, hn⟩ : ∃ n, n = b.length - 16 := ⟨_, rfl⟩
      have hnb : b.length = n + 16 := by omega
      have HC := hidden (H4.out.head' (n := n) (by omega))
      have HD : Hid (BSl w (.slice (some ⟨b4, o4 + n, none⟩) 16 (c4 - n)) (b.drop n)) := by
        have := H4.out.dropS (k := n) (by omega)
        rw [hnb, Nat.add_sub_cancel_left] at this
        exact this
      have hCl : (b.take n).length = n := by rw [List.length_take]; omega
      have hOT : openT key nonce beside b = if openE key nonce beside b = 0 then xorL key 1 nonce (b.take n) else [] := by rw [openT, hn]
      rw [← hn] at hOE
      obtain ⟨m, hm⟩ : ∃ m, m = b.length := ⟨_, rfl⟩
      rw [← hm] at hc4 hbl hsh' hnb ⊢
      have HOE := hidden hOE
      have HOT := hidden hOT
      have HCL' := hidden hCl
      generalize b.take n = C at HC HOE HOT HCL'
      generalize b.drop n = D at HD HOE
      have hs2 : (m : Int) - 16 = (n : Int) := by omega
      have hs2w : IntKind.i64.wrap (n : Int) = (n : Int) := by rw [IntKind.wrap_i64]; omega
      have hs3 : (n : Int) ≤ (c4 : Int) := by omega
      have hs4 : (n : Int) ≤ (m : Int) := by omega
      have hs4' : (m : Int) ≤ (c4 : Int) := by omega
      have hs5 : m - n = 16 := by omega
      have hcn : ¬ c4 = n := by omega
      have hcn' : c4 ≠ n := by omega
      obtain ⟨SD, hSD⟩ : ∃ S : ByteArray, S = ⟨D.toArray⟩ := ⟨_, rfl⟩
      obtain ⟨ST, hST⟩ : ∃ S : ByteArray, S = ⟨(tagL key nonce beside C).toArray⟩ := ⟨_, rfl⟩
      have HSM : Hid (∀ w', Below w.heap.size w w' → Calls Tryd.prog 53 #[.slice a1 32 c1, .slice a2 12 c2, v3, .slice (some ⟨b4, o4, none⟩) n c4] w' fun e w'' => Below w.heap.size w w'' ∧ ∃ ta tc, e = .returned (.slice ta 16 tc) ∧ (convert 22 9 (.slice ta 16 tc)).run Tryd.prog w'' = .ok (.string ST) w'') := by
        intro w' hb
        refine (rsum_c _ _ _ _ key nonce beside C w' HK.out (by omega) (by have := HCL'.out; omega) (H1.out.fresh hb) (H2.out.fresh hb) (H3.out.fresh hb) (HC.out.fresh hb)).mono ?_
        rintro e w'' ⟨h5, ta, tc, h6, h7⟩
        rw [tagL_length] at h6 h7
        refine ⟨hb.trans (h5.mono hb.size), ta, tc, h6, ?_⟩
        rw [hST]
        exact run_string h7
      have hD : ∀ w', Below w.heap.size w w' → (convert 22 9 (.slice (some ⟨b4, o4 + n, none⟩) 16 (c4 - n))).run Tryd.prog w' = .ok (.string SD) w' := by
        intro w' hb
        rw [hSD]
        exact run_string (HD.out.fresh hb)
      have hq : (ST.toList == SD.toList) = decide (tagL key nonce beside C = D) := by rw [hST, hSD]; exact str_eqS _ _
      have hbd : Below w.heap.size w w.drew := (Below.refl _ _).drew
      clear hk hne hsh H4 hOE hOT hn hnb hCl hSD hST HD hm
      by_cases hs : tagL key nonce beside C = D
      · have HE : Hid (openE key nonce beside b = 0) := by show _ = _; rw [HOE.out, if_pos hs]
        have HT : Hid (openT key nonce beside b = xorL key 1 nonce C) := by show _ = _; rw [HOT.out, if_pos HE.out]
        rw [decide_eq_true hs] at hq
        clear hs HOE HOT
        go_enter Tryd.func56, Tryd.ntmps56
        go_wp2_with fail
        go_region_with (first | (go_at_call 53; refine (HSM.out _ hbd).mono ?_; rintro e w3 ⟨hb3, ta, tc, rfl, hs9⟩))
        all_goals clear HSM hD
        all_goals
          go_wp2_with fail
          refine (rXor_c _ _ _ key nonce C 1 (by omega) (by omega) (by have := HCL'.out; omega) w3 (H1.out.fresh hb3) (H2.out.fresh hb3) (HC.out.fresh hb3)).mono ?_
          rintro e w6 hT
          obtain ⟨hb6, vx, rfl, hx, hxo⟩ := hT.okS HK.out
          have HF : Hid (ETold w (openE key nonce beside b) (openT key nonce beside b) (.returned (.tuple #[vx, .int .i64 0])) w6) := by
            rw [HE.out, HT.out]
            exact ⟨hb3.trans (hb6.mono hb3.size), vx, rfl, hx, fun g e => ⟨Nat.le_trans hb3.size (hxo g e).1, (hxo g e).2⟩⟩
          clear hT hb6 hx hxo hb3 hs9
          go_wp2
          go_ret2
          exact HF.out
      · have HE : Hid (openE key nonce beside b = 14) := by show _ = _; rw [HOE.out, if_neg hs]
        rw [decide_eq_false hs] at hq
        clear hs HOE HOT
        go_enter Tryd.func56, Tryd.ntmps56
        go_wp2_with fail
        go_region_with (first | (go_at_call 53; refine (HSM.out _ hbd).mono ?_; rintro e w3 ⟨hb3, ta, tc, rfl, hs9⟩))
        all_goals
          have HF : Hid (ETold w (openE key nonce beside b) (openT key nonce beside b) (.returned (.tuple #[.slice none 0 0, .int .i64 14])) w3) := by
            rw [openT_not (by rw [HE.out]; omega), HE.out]
            exact ETold.nil hb3
          clear HSM hD hb3 hs9
          go_wp2
          go_ret2
          exact HF.out
  · have hk' : okSizes key nonce = false := by simpa using hk
    have HF : Hid (ETold w (openE key nonce beside b) (openT key nonce beside b) (.returned (.tuple #[.slice none 0 0, .int .i64 1])) w) := by
      have hE : openE key nonce beside b = 1 := by rw [openE, hk']; rfl
      rw [openT_not (by rw [hE]; omega), hE]
      exact ETold.nil (Below.refl _ _)
    by_cases hl : key.length = 32
    · have hl2 : nonce.length ≠ 12 := by intro e; simp [okSizes, hl, e] at hk
      rw [hl]
      have e2 : ((nonce.length : Int) == 12) = false := by simp; omega
      have e3 : ((nonce.length : Int) != 12) = true := by simp; omega
      generalize nonce.length = n at e2 e3 ⊢
      clear hk hk' hl hl2 H1 H2 H3 H4
      go_enter Tryd.func56, Tryd.ntmps56
      go_wp2
      go_ret2
      exact HF.out
    · have e2 : ((key.length : Int) == 32) = false := by simp; omega
      have e3 : ((key.length : Int) != 32) = true := by simp; omega
      generalize key.length = n at e2 e3 ⊢
      clear hk hk' hl H1 H2 H3 H4
      go_enter Tryd.func56, Tryd.ntmps56
      go_wp2
      go_ret2
      exact HF.out
end Go.Proofs.YthkaibkmpenclaaDoor
