/- bytes.Clone, and slices.Concat of any few. -/
import Derived.Test.YthkaibkmpenclaaDoorPkB
import Derived.Laws.Cover3
namespace Go.Proofs.YthkaibkmpenclaaDoor
open Go Go.RowKit

theorem eq_nil (w : World) (a : Option Addr) (l c : Nat) : (binOp .eql 22 (.slice a l c) (.slice none 0 0)).run Tryd.prog w = .ok (.bool a.isNone) w := by
  simp only [binOp]
  simp [run_equal_slice_nil w 22 5 a l c Tryd.underlying22]
set_option maxHeartbeats 400000 in
set_option maxRecDepth 100000 in
theorem clone_c (v : Value) (xs : List UInt8) (w : World) (hv : BSl w v xs) (hl : xs.length ≤ 1000000000) :
    Calls Tryd.prog 51 #[v] w fun e w' => ∃ v', e = .returned v' ∧ Own w w' v' xs := by
  have HV := hidden hv
  obtain ⟨ao, cap, rfl, hc1, hc2, hn, _⟩ := hv
  cases ao with
  | none =>
    obtain ⟨rfl, rfl⟩ := hn rfl
    have HO := hidden (Own.nothing w)
    clear hn
    simp only [List.length_nil]
    have hq := eq_nil w none 0 0
    simp only [Option.isNone_none] at hq
    go_enter Tryd.func51, Tryd.ntmps51
    go_wp2
    go_ret
    exact ⟨_, rfl, HO.out⟩
  | some a =>
    have HS := hidden ((HV.out.alloc (.cells #[] 5)).src)
    have HO : Hid (Own w (w.alloc (.cells #[] 5)) (.slice (some ⟨w.heap.size, 0, none⟩) 0 0) []) := ⟨own_empty w, (Below.refl _ w).alloc (Nat.le_refl _) _⟩
    have hq := eq_nil w (some a) xs.length cap
    simp only [Option.isNone_some] at hq
    clear hn hc1 hc2
    go_enter Tryd.func51, Tryd.ntmps51
    go_wp2_with (at_builtin; (refine wpList_own _ rfl (.tmp 5) (.tmp 6) 22 rfl w _ [] rfl HO.out _ xs rfl HS.out (by simp; omega) ?_))
    intro v4 w4 o4 _ _
    have O4 := hidden o4
    clear o4
    go_wp2
    go_ret
    exact ⟨_, rfl, O4.out⟩

/-- The first rows, one behind the other. -/
def cat (X : Nat → List UInt8) : Nat → List UInt8
  | 0 => []
  | j + 1 => cat X j ++ X j
theorem cat_le (X : Nat → List UInt8) (j n : Nat) (h : j ≤ n) : (cat X j).length ≤ (cat X n).length := by
  induction n with
  | zero =>
    have : j = 0 := by omega
    rw [this]; exact Nat.le_refl _
  | succ n ih =>
    by_cases e : j = n + 1
    · rw [e]; exact Nat.le_refl _
    · have := ih (by omega); rw [cat, List.length_append]; omega
set_option maxHeartbeats 800000 in
set_option maxRecDepth 100000 in
theorem concat_n (B n : Nat) (hn : n ≤ 100) (V : Nat → Value) (X : Nat → List UInt8) (hl : (cat X n).length ≤ 400000000) (w : World) (hk : ∀ j, j < n → w.cell? ⟨B, j, none⟩ = some (V j)) (hx : ∀ j, j < n → BSl w (V j) (X j)) :
    Calls Tryd.prog 32 #[.slice (some ⟨B, 0, none⟩) n n] w fun e w' => ∃ v', e = .returned v' ∧ Own w w' v' (cat X n) := by
  have HK := hidden hk
  have HX := hidden hx
  have HL := hidden hl
  clear hk hx hl
  go_enter Tryd.func32, Tryd.ntmps32
  go_wp2_with fail
  go_loopw [3, 11] (fun s c wr => ∃ j : Nat, j ≤ n ∧ c = .int .i64 (j : Int) ∧ s = .int .i64 ((cat X j).length : Int) ∧ wr = w) (fun _ c _ => n - (intOf c).toNat)
  case atStart => exact ⟨0, by omega, rfl, rfl, rfl⟩
  case round =>
    obtain ⟨j, hj, rfl, rfl, rfl⟩ := hrel
    by_cases hlt : j < n
    · have hlt' : (j : Int) < (n : Int) := by omega
      have hc := HK.out j hlt
      have hb := HX.out j hlt
      obtain ⟨a0, c0, e0⟩ := hb.len
      rw [e0] at hc
      have hs : (cat X (j + 1)).length = (cat X j).length + (X j).length := by rw [cat, List.length_append]
      have hle := cat_le X (j + 1) n (by omega)
      have h1 := HL.out
      have HS := hidden hs
      have hsm : (cat X j).length + (X j).length ≤ 400000000 := by omega
      clear hs hle h1 hb e0
      generalize (cat X j).length = m at HS hsm ⊢
      generalize (X j).length = q at HS hsm hc ⊢
      go_wp2_with fail
      go_roundw
      case rel => exact ⟨j + 1, by omega, by go_num, by rw [HS.out]; go_num, trivial⟩
      case measure => simp [intOf]; omega
    · have hlt' : ¬ (j : Int) < (n : Int) := by omega
      obtain rfl : j = n := by omega
      obtain ⟨wo, e⟩ : ∃ x, x = wr := ⟨wr, rfl⟩
      subst e
      have HG := hidden (grow_c (cat X j).length (by have := HL.out; omega) wo)
      generalize hm : (cat X j).length = m at HG ⊢
      have HM := hidden hm
      clear hm
      go_wp2_with fail
      refine HG.out.mono ?_
      rintro e w1 ⟨v, rfl, ho1⟩
      have HO1 := hidden ho1
      clear ho1 HG
      go_wp2_with fail
      go_loopw [6, 27] (fun s c wx => ∃ i : Nat, i ≤ j ∧ c = .int .i64 (i : Int) ∧ Own wo wx s (cat X i)) (fun _ c _ => j - (intOf c).toNat)
      case atStart => exact ⟨0, by omega, rfl, HO1.out⟩
      case round =>
        clear HO1
        obtain ⟨i, hi, rfl, ho⟩ := hrel
        have HO := hidden ho
        clear ho
        by_cases hilt : i < j
        · have hilt' : (i : Int) < (j : Int) := by omega
          have hc := cell_kept (HK.out i hilt) HO.out.b
          have HS := hidden ((HX.out i hilt).fresh HO.out.b).src
          have HT : Hid ((cat X i).length + (X i).length ≤ 400000000) := by
            have h1 := HL.out
            have h2 := cat_le X (i + 1) j (by omega)
            rw [cat, List.length_append] at h2
            show _ ≤ _
            omega
          go_wp2_with (at_builtin; (refine wpList_own _ rfl (.tmp 31) (.tmp 32) 22 rfl wo _ (cat X i) rfl HO.out _ (X i) rfl HS.out (by have := HT.out; omega) ?_))
          intro v4 w4 o4 _ _
          have O4 := hidden o4
          clear o4
          go_wp2
          go_roundw
          case rel => exact ⟨i + 1, by omega, by go_num, O4.out⟩
          case measure => simp [intOf]; omega
        · have hilt' : ¬ (i : Int) < (j : Int) := by omega
          obtain rfl : i = j := by omega
          go_wp2
          go_ret
          exact ⟨_, rfl, HO.out⟩
/-- Two of them. -/
theorem concat2 (B : Nat) (v0 v1 : Value) (xs ys : List UInt8) (hl : xs.length + ys.length ≤ 400000000) (w : World) (k0 : w.cell? ⟨B, 0, none⟩ = some v0) (k1 : w.cell? ⟨B, 1, none⟩ = some v1) (h0 : BSl w v0 xs) (h1 : BSl w v1 ys) :
    Calls Tryd.prog 32 #[.slice (some ⟨B, 0, none⟩) 2 2] w fun e w' => ∃ v', e = .returned v' ∧ Own w w' v' (xs ++ ys) := by
  have e : cat (fun j => if j = 0 then xs else ys) 2 = xs ++ ys := by simp [cat]
  have h := concat_n B 2 (by omega) (fun j => if j = 0 then v0 else v1) (fun j => if j = 0 then xs else ys) (by rw [e, List.length_append]; exact hl) w
    (fun j hj => by match j, hj with | 0, _ => exact k0 | 1, _ => exact k1) (fun j hj => by match j, hj with | 0, _ => exact h0 | 1, _ => exact h1)
  rw [e] at h
  exact h
/-- Three of them. -/
theorem concat3 (B : Nat) (v0 v1 v2 : Value) (xs ys zs : List UInt8) (hl : xs.length + ys.length + zs.length ≤ 400000000) (w : World) (k0 : w.cell? ⟨B, 0, none⟩ = some v0) (k1 : w.cell? ⟨B, 1, none⟩ = some v1) (k2 : w.cell? ⟨B, 2, none⟩ = some v2) (h0 : BSl w v0 xs) (h1 : BSl w v1 ys) (h2 : BSl w v2 zs) :
    Calls Tryd.prog 32 #[.slice (some ⟨B, 0, none⟩) 3 3] w fun e w' => ∃ v', e = .returned v' ∧ Own w w' v' (xs ++ ys ++ zs) := by
  have e : cat (fun j => if j = 0 then xs else if j = 1 then ys else zs) 3 = xs ++ ys ++ zs := by simp [cat]
  have h := concat_n B 3 (by omega) (fun j => if j = 0 then v0 else if j = 1 then v1 else v2) (fun j => if j = 0 then xs else if j = 1 then ys else zs) (by rw [e, List.length_append, List.length_append]; exact hl) w
    (fun j hj => by match j, hj with | 0, _ => exact k0 | 1, _ => exact k1 | 2, _ => exact k2) (fun j hj => by match j, hj with | 0, _ => exact h0 | 1, _ => exact h1 | 2, _ => exact h2)
  rw [e] at h
  exact h
end Go.Proofs.YthkaibkmpenclaaDoor
