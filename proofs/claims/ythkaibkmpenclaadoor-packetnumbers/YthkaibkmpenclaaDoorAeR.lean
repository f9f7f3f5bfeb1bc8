/- The document's Seal and Open. -/
import Derived.Test.YthkaibkmpenclaaDoorAeB
import Derived.Test.YthkaibkmpenclaaDoorChJ
import Derived.Test.YthkaibkmpenclaaDoorPoV
import Derived.Deep.RegionHeld3
namespace Go.Proofs.YthkaibkmpenclaaDoor
open Go Go.RowKit

set_option maxHeartbeats 800000 in
set_option maxRecDepth 100000 in
theorem pad_c (w0 : World) (v1 : Value) (L : List UInt8) (w : World) (hLl : L.length ≤ 200000) (hb0 : Below w0.heap.size w0 w)
    (h1 : w.ownsRow w0.heap.size 5 1 v1 L.length (bcells L)) :
    Calls Tryd.prog 64 #[v1] w fun e w' => Grew w0 (padL L) e w' := by
  obtain ⟨i0, hi, hz0, hz1, hz2⟩ := info_parts Tryd.infoU8
  have H1 := hidden h1
  have HB0 := hidden hb0
  have HP := hidden (padL_length L)
  obtain ⟨p, hp⟩ : ∃ p, p = padN L.length := ⟨_, rfl⟩
  have hpe : p = (16 - L.length % 16) % 16 := hp
  have HPE := hidden hp
  clear h1 hb0 hp
  go_enter Tryd.func64, Tryd.ntmps64
  go_wp2_with fail
  go_loopw [0] (fun b wr => ∃ j : Nat, j ≤ p ∧ wr.ownsRow w0.heap.size 5 1 b (L.length + j) (bcells (L ++ List.replicate j 0)) ∧ Below w0.heap.size w0 wr) (fun b _ => match b with | .slice _ m _ => L.length + p - m | _ => 0)
  case atStart => exact ⟨0, by omega, by simpa using H1.out, HB0.out⟩
  case round =>
    clear H1 HB0
    obtain ⟨j, hj, ho, hb⟩ := hrel
    have HO := hidden ho
    have HB := hidden hb
    obtain ⟨ao, cp, rfl⟩ := ownsRow_shape ho
    have hsz : w0.heap.size ≤ wr.heap.size := hb.size
    clear ho hb
    by_cases hjp : j < p
    · obtain ⟨m, hm⟩ : ∃ m, m = L.length + j := ⟨_, rfl⟩
      have hm16 : ((m : Int) % 16 == 0) = false := by
        simp
        omega
      have hm16' : ((m : Int) % 16 != 0) = true := by simp [bne, hm16]
      have HM := hidden hm
      rw [← hm] at HO ⊢
      have hmb : m ≤ 200100 := by omega
      clear hm
      go_wp2_with (refine wpList_append_src _ rfl (.tmp 7) (.tmp 8) 22 22 rfl w0.heap.size 5 i0 _ 1 Tryd.underlying22 hi hz0 hz1 hz2 rfl (.slice ao m cp) m _ rfl (HO.out.alloc _) _ 1 _ rfl (srcAt (by rfl) (heap_alloc_new wr _)) (by unfold maxLen; omega) (by omega) (by simp; omega) (wr.heap.size + 1) (by simp) ?_)
      intro v' w9 hown hgrow hnil hat
      have hb9 : Below w0.heap.size w0 w9 := ((HB.out.alloc hsz _)).grown hgrow (by simp; omega) (fun k hk => (HO.out.lt k hk).1)
      have HO9 : Hid (w9.ownsRow w0.heap.size 5 1 v' (L.length + (j + 1)) (bcells (L ++ List.replicate (j + 1) 0))) := by
        show World.ownsRow _ _ _ _ _ _ _
        rw [List.replicate_succ', ← List.append_assoc, bcells_append (L ++ List.replicate j 0), ← Nat.add_assoc, ← HM.out]
        exact hown
      have HB9 := hidden hb9
      obtain ⟨ao9, cp9, rfl⟩ := ownsRow_shape hown
      clear hown hgrow hnil hat hb9
      go_wp2
      go_roundw
      case rel => exact ⟨j + 1, by omega, HO9.out, HB9.out⟩
      case measure => simp; have := HM.out; omega
    · obtain rfl : j = p := by omega
      obtain ⟨m, hm⟩ : ∃ m, m = L.length + j := ⟨_, rfl⟩
      have hm16 : ((m : Int) % 16 == 0) = true := by
        simp
        omega
      have hm16' : ((m : Int) % 16 != 0) = false := by simp [bne, hm16]
      have HF : Hid (Grew w0 (padL L) (.returned (.slice ao m cp)) wr) := by
        refine ⟨_, rfl, ?_, HB.out⟩
        rw [HP.out, ← HPE.out]
        have := HO.out
        rw [hm]
        rw [padL, ← HPE.out]
        exact this
      rw [← hm]
      clear HO hm
      go_wp2
      go_ret
      exact HF.out

theorem shr_form (n k : Nat) : ((n : Int) / 2 ^ (8 * k) % 256) = ((n / 256 ^ k % 256 : Nat) : Int) := by
  have h : (2 : Int) ^ (8 * k) = ((256 ^ k : Nat) : Int) := by
    rw [Int.pow_mul]
    simp
  rw [h]
  simp

set_option maxHeartbeats 800000 in
set_option maxRecDepth 100000 in
theorem long_c (n : Nat) (w : World) (hn : n ≤ 1000000) :
    Calls Tryd.prog 65 #[.int .i64 (n : Int)] w fun e w' => Fresh w (lowB n 8) e w' := by
  obtain ⟨i0, hi, hz0, hz1, hz2⟩ := info_parts Tryd.infoU8
  have hn64 : (n : Int) % 18446744073709551616 = (n : Int) := by omega
  go_enter Tryd.func65, Tryd.ntmps65
  go_wp2_with fail
  go_loopw [3, 4] (fun b i wr => ∃ k : Nat, k ≤ 8 ∧ i = .int .u64 (k : Int) ∧ wr.ownsRow w.heap.size 5 1 b k (bcells (lowB n k)) ∧ Below w.heap.size w wr) (fun _ i _ => 8 - (intOf i).toNat)
  case atStart => exact ⟨0, by omega, rfl, World.ownsRow_nil _ _ _ _, Below.refl _ _⟩
  case round =>
    obtain ⟨k, hk, rfl, ho, hb⟩ := hrel
    have HO := hidden ho
    have HB := hidden hb
    obtain ⟨ao, cp, rfl⟩ := ownsRow_shape ho
    have hsz : w.heap.size ≤ wr.heap.size := hb.size
    clear ho hb
    by_cases hlt : k < 8
    · have hlt' : (k : Int) < 8 := by omega
      have HE : Hid (bcells (lowB n k) ++ [.int .u8 ((n / 256 ^ k % 256 : Nat) : Int)] = bcells (lowB n (k + 1))) := by
        show _ = _
        rw [lowB_succ, bcells_append (lowB n k)]
        have : ((UInt8.ofNat (n / 256 ^ k % 256)).toNat : Int) = ((n / 256 ^ k % 256 : Nat) : Int) := by simp
        simp only [bcells, List.map_cons, List.map_nil, this]
      go_wp2_with (refine wpList_append_src _ rfl (.tmp 9) (.tmp 16) 22 22 rfl w.heap.size 5 i0 _ 1 Tryd.underlying22 hi hz0 hz1 hz2 rfl (.slice ao k cp) k _ rfl (HO.out.alloc _) _ 1 _ rfl (srcAt (by rfl) (heap_alloc_new wr _)) (by unfold maxLen; omega) (by omega) (by simp; omega) (wr.heap.size + 1) (by simp) ?_)
      intro v' w9 hown hgrow hnil hat
      have hb9 : Below w.heap.size w w9 := ((HB.out.alloc hsz _)).grown hgrow (by simp; omega) (fun k hk => (HO.out.lt k hk).1)
      rw [shr_form, HE.out] at hown
      have HO9 := hidden hown
      have HB9 := hidden hb9
      clear hown hgrow hnil hat hb9
      go_wp2
      go_roundw
      case rel => exact ⟨k + 1, by omega, by go_num, HO9.out, HB9.out⟩
      case measure => simp [intOf]; omega
    · have hlt' : ¬ (k : Int) < 8 := by omega
      obtain rfl : k = 8 := by omega
      have HF : Hid (Fresh w (lowB n 8) (.returned (.slice ao 8 cp)) wr) := by
        refine ⟨_, rfl, ?_, HB.out⟩
        rw [lowB_length]
        exact HO.out
      clear HO
      go_wp2
      go_ret
      exact HF.out

/-- What is handed back: bytes. -/
def Gave (w : World) (xs : List UInt8) (e : Ending) (w' : World) : Prop := Below w.heap.size w w' ∧ ∃ ao cap, e = .returned (.slice ao xs.length cap) ∧ BSl w' (.slice ao xs.length cap) xs
theorem wpList_cloneO (w : World) {ops : Array Oper} {rest : List Oper} {o : Oper} {a : Act} {Q : Exit → Act → World → Prop} (hgd : o.guard = none) (s xo : Operand)
    (ho : o.op = .call { callee := .builtin .append, args := #[s, xo], argTypes := #[22, 22] }) (hsv : a.eval s = .slice (some ⟨w.heap.size, 0, none⟩) 0 0)
    (x : Value) (xs : List UInt8) (hx : a.eval xo = x) (hb : BSl w x xs) (hl : xs.length ≤ 1000000)
    (h : ∀ ao cap w', w'.ownsRow w.heap.size 5 1 (.slice ao xs.length cap) xs.length (bcells xs) → Below w.heap.size w w' → wpList Tryd.prog ops Q rest (a.put o.dst (.slice ao xs.length cap)) w') :
    wpList Tryd.prog ops Q (o :: rest) a (w.alloc (.cells #[] 5)) := by
  refine wpList_clone w hgd s xo ho hsv x xs hx hb hl fun v' w' h1 h2 => ?_
  obtain ⟨ao, cap, rfl⟩ := ownsRow_shape h1
  exact h ao cap w' h1 h2

set_option maxHeartbeats 1600000 in
set_option maxRecDepth 100000 in
theorem rsum_c (v1 v2 v3 v4 : Value) (key nonce beside c : List UInt8) (w : World) (hok : okSizes key nonce = true) (hsl : beside.length ≤ 10000) (hbl : c.length ≤ 10000) (h1 : BSl w v1 key) (h2 : BSl w v2 nonce) (h3 : BSl w v3 beside) (h4 : BSl w v4 c) :
    Calls Tryd.prog 53 #[v1, v2, v3, v4] w fun e w' => Gave w (tagL key nonce beside c) e w' := by
  obtain ⟨i0, hi, hz0, hz1, hz2⟩ := info_parts Tryd.infoU8
  have HBk := hidden (rBlock_c v1 v2 key nonce 0 w h1 h2)
  have HOK := hidden hok
  have H3 := hidden h3
  have H4 := hidden h4
  obtain ⟨a3, c3, rfl⟩ := h3.len
  obtain ⟨a4, c4, rfl⟩ := h4.len
  clear h1 h2 h3 h4 hok
  go_enter Tryd.func53, Tryd.ntmps53
  go_wp2_with fail
  refine HBk.out.mono ?_
  rintro e w1 hT
  obtain ⟨hb1, vk, rfl, hbs, _⟩ := hT.okS HOK.out
  have hbkl := bk_length key 0 nonce
  obtain ⟨ka, kc, e, hkc, _⟩ := id hbs
  have hh : BSl w1 (.slice ka 32 kc) (skL key nonce) := by
    rw [e] at hbs
    exact hbs.head' (by omega)
  rw [hbkl] at e hkc
  subst e
  have hkc' : (32 : Int) ≤ (kc : Int) := by omega
  have HK1 := hidden hh
  have HB1 := hidden hb1
  have HS1 := hidden (H3.out.fresh hb1)
  have HC1 := hidden (H4.out.fresh hb1)
  clear hT hb1 hbs hh hbkl hkc HBk H3 H4
  obtain ⟨nb, hnb⟩ : ∃ n, n = beside.length := ⟨_, rfl⟩
  obtain ⟨nc, hnc⟩ : ∃ n, n = c.length := ⟨_, rfl⟩
  have HNB := hidden hnb
  have HNC := hidden hnc
  rw [← hnb] at hsl HS1 ⊢
  rw [← hnc] at hbl HC1 ⊢
  clear hnb hnc
  go_wp2_with (refine wpList_cloneO _ rfl (.tmp 20) (.tmp 21) rfl rfl _ beside rfl HS1.out (by have := HNB.out; omega) ?_)
  intro ba bc w2 ho2 hb2
  have HO2 := hidden ho2
  have HB2 := hidden hb2
  clear ho2 hb2
  go_wp2_with fail
  refine (pad_c w1 _ beside w2 (by have := HNB.out; omega) HB2.out HO2.out).mono ?_
  rintro e w3 ⟨v3, rfl, ho3, hb3⟩
  have HP1 := hidden (padL_length beside)
  have HQ1 := hidden (padN_le beside.length)
  obtain ⟨pa, pc, rfl⟩ := ownsRow_shape ho3
  obtain ⟨P1, hP1⟩ : ∃ P, P = padL beside := ⟨_, rfl⟩
  rw [← hP1] at ho3 HP1 ⊢
  have HPE := hidden hP1
  have HO3 := hidden ho3
  have HB3 := hidden hb3
  have HSC := hidden (HC1.out.fresh hb3).src
  rw [← HNC.out] at HSC
  have hsz3 : w1.heap.size ≤ w3.heap.size := hb3.size
  have hp1 : P1.length ≤ 10015 := by have := HP1.out; have := HQ1.out; have := HNB.out; omega
  clear ho3 hb3 HO2 HB2 hP1
  go_wp2_with (refine wpList_append_src _ rfl (.tmp 24) (.tmp 25) 22 22 rfl w1.heap.size 5 i0 _ 1 Tryd.underlying22 hi hz0 hz1 hz2 rfl (.slice pa P1.length pc) P1.length _ rfl HO3.out _ nc _ rfl HSC.out (by unfold maxLen; omega) (by omega) hsz3 w3.heap.size rfl ?_)
  intro v4 w4 ho4 hgr4 _ _
  have hb4 : Below w1.heap.size w1 w4 := HB3.out.grown hgr4 hsz3 (fun k hk => (HO3.out.lt k hk).1)
  have HO4 : Hid (w4.ownsRow w1.heap.size 5 1 v4 (P1 ++ c).length (bcells (P1 ++ c))) := by
    show World.ownsRow _ _ _ _ _ _ _
    rw [List.length_append, bcells_append, ← HNC.out]
    exact ho4
  have HB4 := hidden hb4
  clear ho4 hgr4 hb4 HO3 HB3 HSC hsz3
  go_wp2_with fail
  refine (pad_c w1 _ (P1 ++ c) w4 (by rw [List.length_append]; have := HNC.out; omega) HB4.out HO4.out).mono ?_
  rintro e w5 ⟨v5, rfl, ho5, hb5⟩
  have HP2 := hidden (padL_length (P1 ++ c))
  have HQ2 := hidden (padN_le (P1 ++ c).length)
  obtain ⟨qa, qc, rfl⟩ := ownsRow_shape ho5
  obtain ⟨P2, hP2⟩ : ∃ P, P = padL (P1 ++ c) := ⟨_, rfl⟩
  rw [← hP2] at ho5 HP2 ⊢
  have hp2 : P2.length ≤ 20030 := by have := HP2.out; have := HQ2.out; rw [List.length_append] at this; have := HP2.out; rw [List.length_append] at this; have := HNC.out; omega
  have HPE2 := hidden hP2
  have HO5 := hidden ho5
  have HB5 := hidden hb5
  clear ho5 hb5 HO4 HB4 hP2 HP1 HP2 HQ1 HQ2
  go_wp2_with fail
  refine (long_c nb w5 (by omega)).mono ?_
  rintro e w6 ⟨v6, rfl, ho6, hb6⟩
  have hso := (BSl.ofRow ho6).src
  rw [lowB_length] at hso
  have HSO := hidden hso
  have HO6 := hidden ((Keeps.ofFresh (S := fun _ => False) hb6).row HO5.out (fun _ _ h => h))
  have HB6 := hidden (HB5.out.trans (hb6.mono HB5.out.size))
  have hsz6 : w1.heap.size ≤ w6.heap.size := HB6.out.size
  obtain ⟨la, lc, rfl⟩ := ownsRow_shape ho6
  clear ho6 hb6 hso HO5 HB5
  go_wp2_with (refine wpList_append_src _ rfl (.tmp 28) (.tmp 31) 22 22 rfl w1.heap.size 5 i0 _ 1 Tryd.underlying22 hi hz0 hz1 hz2 rfl (.slice qa P2.length qc) P2.length _ rfl HO6.out _ 8 _ rfl HSO.out (by unfold maxLen; omega) (by omega) hsz6 w6.heap.size rfl ?_)
  intro v7 w7 ho7 hgr7 _ _
  have hb7 : Below w1.heap.size w1 w7 := HB6.out.grown hgr7 hsz6 (fun k hk => (HO6.out.lt k hk).1)
  rw [← bcells_append] at ho7
  obtain ⟨ra, rc, rfl⟩ := ownsRow_shape ho7
  have HO7 := hidden ho7
  have HB7 := hidden hb7
  clear ho7 hgr7 hb7 HO6 HB6 HSO hsz6
  go_wp2_with fail
  refine (long_c nc w7 (by omega)).mono ?_
  rintro e w8 ⟨v8, rfl, ho8, hb8⟩
  have hso := (BSl.ofRow ho8).src
  rw [lowB_length] at hso
  have HSO := hidden hso
  have HO8 := hidden ((Keeps.ofFresh (S := fun _ => False) hb8).row HO7.out (fun _ _ h => h))
  have HB8 := hidden (HB7.out.trans (hb8.mono HB7.out.size))
  have hsz8 : w1.heap.size ≤ w8.heap.size := HB8.out.size
  obtain ⟨sa, sc, rfl⟩ := ownsRow_shape ho8
  clear ho8 hb8 hso HO7 HB7
  go_wp2_with (refine wpList_append_src _ rfl (.tmp 32) (.tmp 35) 22 22 rfl w1.heap.size 5 i0 _ 1 Tryd.underlying22 hi hz0 hz1 hz2 rfl (.slice ra (P2.length + 8) rc) (P2.length + 8) _ rfl HO8.out _ 8 _ rfl HSO.out (by unfold maxLen; omega) (by omega) hsz8 w8.heap.size rfl ?_)
  intro v9 w9 ho9 hgr9 _ _
  have hb9 : Below w1.heap.size w1 w9 := HB8.out.grown hgr9 hsz8 (fun k hk => (HO8.out.lt k hk).1)
  have HM9 : Hid (BSl w9 v9 (macL beside c)) := by
    rw [← bcells_append] at ho9
    have := BSl.ofRow ho9
    rw [List.append_assoc, HPE2.out, HPE.out, HNB.out, HNC.out] at this
    exact this
  have HML := hidden (macL_length beside c)
  have HB9 := hidden hb9
  clear ho9 hgr9 hb9 HO8 HB8 HSO hsz8 hi hz0 hz1 hz2
  go_wp2_with fail
  refine (rSum_c _ _ (skL key nonce) (macL beside c) (by have := HML.out; have := HNB.out; have := HNC.out; omega) w9 (HK1.out.fresh HB9.out) HM9.out).mono ?_
  rintro e w10 ⟨hb10, hT⟩
  rcases hT with ⟨_, v, rfl, hv, _⟩ | ⟨hno, _⟩
  · obtain ⟨ta, tc, rfl⟩ := hv.len
    have HF : Hid (Gave w (tagL key nonce beside c) (.returned (.slice ta (polyL (skL key nonce) (macL beside c)).length tc)) w10) :=
      ⟨(HB1.out.trans (HB9.out.mono HB1.out.size)).trans (hb10.mono (Nat.le_trans HB1.out.size HB9.out.size)), ta, tc, rfl, hv⟩
    generalize (polyL (skL key nonce) (macL beside c)).length = q at HF ⊢
    clear hb10 hv HB9 HM9
    go_wp2
    go_ret
    exact HF.out
  · exact absurd (skL_length key nonce) hno
end Go.Proofs.YthkaibkmpenclaaDoor
