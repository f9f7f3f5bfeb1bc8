/- known, and slices.Grow of nothing. -/
import Derived.Test.YtllkafhooapcbaaDoorKdK
import Derived.Lib.SmallJoins
import Derived.Lib.AppendZeros
namespace Go.Proofs.YtllkafhooapcbaaDoor
open Go Go.RowKit

theorem bsl_const (w : World) (xs : List UInt8) (hl : xs.length ≤ 1000) (fr : Nat × Nat) : BSl (w.alloc (.cells (bcells xs).toArray 5 fr)) (.slice (some ⟨w.heap.size, 0, none⟩) xs.length xs.length) xs := by
  refine ⟨_, _, rfl, Nat.le_refl _, by unfold maxLen; omega, (fun e => by cases e), fun ad e _ => ⟨w.heap.size, 0, by cases e; rfl, fun j u hu => ?_⟩⟩
  rw [Nat.zero_add, World.cell?_alloc_mark]
  simpa using hu
theorem hcv : ∀ (w : World) (C : Array Value) (n c : Nat), (convert 22 22 (.slice (some ⟨w.heap.size, 0, none⟩) n c)).run Tryd.prog (w.alloc (.cells C 5)) = .ok (.slice (some ⟨w.heap.size, 0, none⟩) n c) (w.alloc (.cells C 5 (C.size, C.size + 1))) :=
  fun w C n c => Lib.run_convert_bytes_const w _ _ C n c Tryd.underlying22 Tryd.underlying5

set_option maxHeartbeats 400000 in
set_option maxRecDepth 100000 in
theorem known_c (w : World) (hr : Rw w) : Calls Tryd.prog 15 #[] w fun e w' => e = .returned (.bool true) ∧ Below w.heap.size w w' := by
  have HR := hidden hr
  have hcv := hcv
  clear hr
  go_enter Tryd.func15, Tryd.ntmps15
  go_wp2_with fail
  have h2 := bsl_const w [97, 98, 99] (by decide) (3, 4)
  have hb2 : Below w.heap.size w (w.alloc (.cells (bcells [97, 98, 99]).toArray 5 (3, 4))) := (Below.refl _ w).alloc (by omega) _
  refine (Sum_c _ [97, 98, 99] (by decide) (w.alloc (.cells (bcells [97, 98, 99]).toArray 5 (3, 4))) (HR.out.fresh hb2) h2).mono ?_
  rintro e w3 ⟨v3, rfl, ho3, hb3⟩
  have HB3 := hidden (hb2.trans (hb3.mono hb2.size))
  have HV3 := hidden (BSl.ofRow ho3)
  have hl3 := sumL_length [97, 98, 99]
  rw [hl3] at ho3
  obtain ⟨ao, cap, rfl⟩ := ownsRow_shape ho3
  rw [← hl3] at HV3
  have h8 := HV3.out.head' (n := 8) (by rw [hl3]; omega)
  have hc : 8 ≤ cap := by obtain ⟨_, _, e, h, _⟩ := HV3.out; cases e; omega
  rw [sum_abc] at h8
  have hs := run_string h8
  simp only [List.take_succ_cons, List.take_zero] at hs
  clear h2 hb2 hb3 ho3 h8 HV3 hl3 hcv HR
  go_wp2
  go_ret
  exact ⟨rfl, HB3.out⟩
end Go.Proofs.YtllkafhooapcbaaDoor
