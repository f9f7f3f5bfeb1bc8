/- slices.Grow of nothing, and slices.Concat of two. -/
import Derived.Test.YtllkafhooapcbaaDoorKdL
namespace Go.Proofs.YtllkafhooapcbaaDoor
open Go Go.RowKit

theorem Own.nothing (w : World) : Own w w (.slice none 0 0) [] := ⟨World.ownsRow_nil _ _ _ _, Below.refl _ _⟩
set_option maxHeartbeats 400000 in
set_option maxRecDepth 100000 in
theorem grow_c (n : Nat) (hn : n ≤ 1000000000) (w : World) :
    Calls Tryd.prog 46 #[.slice none 0 0, .int .i64 n] w fun e w' => ∃ v, e = .returned v ∧ Own w w' v [] := by
  obtain ⟨i0, hi, hz0, hz1, hz2⟩ := info_parts Tryd.infoU8
  by_cases h0 : n = 0
  · subst h0
    have HO := hidden (Own.nothing w)
    go_enter Tryd.func46, Tryd.ntmps46
    go_wp2
    go_ret
    exact ⟨_, rfl, HO.out⟩
  · have h1 : (0 : Int) < (n : Int) := by omega
    have hrun := Lib.run_append_nil_zeros (P := Tryd.prog) w 22 3 22 5 i0 (.int .u8 0) .i64 .i64 Tryd.underlying22 Tryd.underlying3 hi hz0 n (by omega) (by omega) (by omega) (by rw [hz2]; omega)
    have hge := grownCap_ge w n 0 5
    have hcm : grownCap w n 0 5 ≤ maxLen := grownCap_le_maxLen w n 0 _ (by unfold maxLen; omega)
    have HO : Hid (Own w (w.drew.alloc (.cells (Builtin.zeroCells (Value.int .u8 0).cells n ++ Builtin.zeroCells (Value.int .u8 0).cells (grownCap w n 0 5 - n)) 5)) (.slice (some ⟨w.heap.size, 0, none⟩) 0 (grownCap w n 0 5)) []) := by
      refine ⟨⟨rfl, .inr ⟨w.heap.size, _, _, rfl, Nat.le_refl _, heap_alloc_new w.drew _, Nat.zero_le _, hcm, ?_, ?_⟩⟩, ((Below.refl _ w).drew).alloc (Nat.le_refl _) _⟩
      · simp only [Array.size_append, size_zeroCells]
        simp [Value.cells]
        omega
      · rfl
    have HR := hidden hrun
    have hcap : 0 ≤ grownCap w n 0 5 := Nat.zero_le _
    clear hrun hcm
    generalize grownCap w n 0 5 = C at HO HR hge hcap
    generalize (w.drew.alloc (.cells (Builtin.zeroCells (Value.int .u8 0).cells n ++ Builtin.zeroCells (Value.int .u8 0).cells (C - n)) 5)) = w1 at HO HR
    go_enter Tryd.func46, Tryd.ntmps46
    go_wp2_with (at_builtin; refine Lib.wpList_append_run _ rfl (.tmp 20) (.tmp 21) 22 3 rfl _ _ rfl rfl _ _ HR.out ?_)
    go_ret
    exact ⟨_, rfl, HO.out⟩

def pre2 (xs ys : List UInt8) : Nat → List UInt8
  | 0 => []
  | 1 => xs
  | _ => xs ++ ys
theorem cell_kept {w w' : World} {a : Addr} {v : Value} (h : w.cell? a = some v) (hb : Below w.heap.size w w') : w'.cell? a = some v := (Keeps.ofFresh (S := fun _ => False) hb).cell h (fun h => h)
set_option maxHeartbeats 800000 in
set_option maxRecDepth 100000 in
theorem concat_c (B : Nat) (v0 v1 : Value) (xs ys : List UInt8) (hx : xs.length ≤ 400000000) (hy : ys.length ≤ 400000000) (w : World) (k0 : w.cell? ⟨B, 0, none⟩ = some v0) (k1 : w.cell? ⟨B, 1, none⟩ = some v1) (h0 : BSl w v0 xs) (h1 : BSl w v1 ys) :
    Calls Tryd.prog 36 #[.slice (some ⟨B, 0, none⟩) 2 2] w fun e w' => Fresh w (xs ++ ys) e w' := by
  have H0 := hidden h0
  have H1 := hidden h1
  have K0 := hidden k0
  have K1 := hidden k1
  obtain ⟨a0, c0, rfl⟩ := h0.len
  obtain ⟨a1, c1, rfl⟩ := h1.len
  clear h0 h1
  go_enter Tryd.func36, Tryd.ntmps36
  go_wp2_with fail
  go_loopw [3, 11] (fun s c wr => ∃ j : Nat, j ≤ 2 ∧ c = .int .i64 (j : Int) ∧ s = .int .i64 ((pre2 xs ys j).length : Int) ∧ wr = w) (fun _ c _ => 2 - (intOf c).toNat)
  case atStart => exact ⟨0, by omega, rfl, rfl, rfl⟩
  case round =>
    obtain ⟨j, hj, rfl, rfl, rfl⟩ := hrel
    match j, hj with
    | 0, _ =>
      simp only [pre2, List.length_nil]
      go_wp2_with fail
      go_roundw
      case rel => exact ⟨1, by omega, rfl, rfl, trivial⟩
      case measure => simp [intOf]
    | 1, _ =>
      simp only [pre2]
      go_wp2_with fail
      go_roundw
      case rel => exact ⟨2, by omega, rfl, by simp, trivial⟩
      case measure => simp [intOf]
    | 2, _ =>
      simp only [pre2]
      obtain ⟨wo, e⟩ : ∃ x, x = wr := ⟨wr, rfl⟩
      subst e
      have HL : Hid ((xs ++ ys).length = xs.length + ys.length) := List.length_append
      rw [HL.out]
      go_wp2_with fail
      refine (grow_c (xs.length + ys.length) (by omega) wo).mono ?_
      rintro e w1 ⟨v, rfl, ho1⟩
      have HO1 := hidden ho1
      clear ho1
      go_wp2_with fail
      go_loopw [6, 27] (fun s c wx => ∃ j : Nat, j ≤ 2 ∧ c = .int .i64 (j : Int) ∧ Own wo wx s (pre2 xs ys j)) (fun _ c _ => 2 - (intOf c).toNat)
      case atStart => exact ⟨0, by omega, rfl, HO1.out⟩
      case round =>
        clear HO1
        obtain ⟨j, hj, rfl, ho⟩ := hrel
        have HO := hidden ho
        clear ho
        match j, hj with
        | 0, _ =>
          simp only [pre2] at HO
          have hc := cell_kept K0.out HO.out.b
          have HS := hidden (H0.out.fresh HO.out.b).src
          clear k0 k1
          go_wp2_with (at_builtin; (refine wpList_own _ rfl (.tmp 31) (.tmp 32) 22 rfl wo _ [] rfl HO.out _ xs rfl HS.out (by simp; omega) ?_))
          intro v4 w4 o4 _ _
          have O4 := hidden o4
          clear o4
          go_wp2
          go_roundw
          case rel => exact ⟨1, by omega, rfl, O4.out⟩
          case measure => simp [intOf]
        | 1, _ =>
          simp only [pre2] at HO
          have hc := cell_kept K1.out HO.out.b
          have HS := hidden (H1.out.fresh HO.out.b).src
          clear k0 k1
          go_wp2_with (at_builtin; (refine wpList_own _ rfl (.tmp 31) (.tmp 32) 22 rfl wo _ xs rfl HO.out _ ys rfl HS.out (by omega) ?_))
          intro v4 w4 o4 _ _
          have O4 := hidden o4
          clear o4
          go_wp2
          go_roundw
          case rel => exact ⟨2, by omega, rfl, O4.out⟩
          case measure => simp [intOf]
        | 2, _ =>
          simp only [pre2] at HO
          go_wp2
          go_ret
          exact HO.out.fresh
end Go.Proofs.YtllkafhooapcbaaDoor
