/- The law's helpers: put, same, known. -/
import Derived.Test.YtkbfgfpdchgjpaaAtH
import Derived.Test.YtkbfgfpdchgjpaaAtI
import Derived.Test.YtkbfgfpdchgjpaaAtB
import Derived.Test.YtkbfgfpdchgjpaaAtC
namespace Go.Proofs.Ytkbfgfpdchgjpaa
open Go Go.RowKit

set_option maxHeartbeats 800000 in
set_option maxRecDepth 100000 in
theorem lput_c (x : At) (hx : x.Ok) (w : World) : Calls Try.prog 8 #[x.v] w fun e w' => Fresh w (putA x) e w' := by
  have hz : (w.alloc (.cells x.cells 25)).heap.size = w.heap.size + 1 := by simp
  have hb0 : Below w.heap.size w ((w.alloc (.cells x.cells 25)).alloc (.cells #[.slice none 0 0] 68)) := ((Below.refl _ w).alloc (Nat.le_refl _) _).alloc (by simp) _
  have HS := WS.new (w.alloc (.cells x.cells 25)) (base := w.heap.size) (by simp)
  rw [hz] at HS
  have HP := put_c x hx _ HS (by simp)
  have hl := putA_le x
  obtain ⟨W1, hW1⟩ : ∃ W, W = (w.alloc (.cells x.cells 25)).alloc (.cells #[.slice none 0 0] 68) := ⟨_, rfl⟩
  rw [← hW1] at HS HP hb0
  have HP2 := hidden HP
  have HW := hidden hW1
  clear HP hW1
  unfold At.v At.cells at *
  go_enter Try.func8, Try.ntmps8
  go_wp2_with fail
  refine (newWriter_c _).mono ?_
  rintro e w1 ⟨rfl, rfl⟩
  go_wp2_with fail
  rw [← HW.out]
  refine HP2.out.mono ?_
  rintro e w2 ⟨rfl, g', h1, h2⟩
  have hb2 : Below w.heap.size w w2 := hb0.trans (h2.below HS)
  rw [List.nil_append] at h1
  go_wp2_with fail
  refine (done_c w2 h1 (by omega)).mono ?_
  rintro e w3 ⟨v3, rfl, h3, h4⟩
  go_wp2_with fail
  go_ret
  exact Fresh.next hb2 ⟨v3, rfl, h3, h4⟩

theorem At.mk_v (f s u g m a t : Nat) : (At.mk f s u g m a t).v = .agg #[.int .u32 f, .int .u64 s, .int .u32 u, .int .u32 g, .int .u32 m, .int .u32 a, .int .u32 t] := rfl
theorem known_put : putA ⟨4, 0, 0, 0, 420, 0, 0⟩ = [0, 0, 0, 4, 0, 0, 1, 164] := by decide +kernel

set_option maxHeartbeats 800000 in
set_option maxRecDepth 100000 in
theorem known_c (w : World) : Calls Try.prog 15 #[] w fun e w' => e = .returned (.bool true) ∧ Below w.heap.size w w' := by
  have h1 := fun w => lput_c ⟨4, 0, 0, 0, 420, 0, 0⟩ ⟨by decide, by decide, by decide, by decide, by decide, by decide, by decide⟩ w
  have h2 := fun w => right_c zeroA zero_ok w
  have h3 := get_nil
  have hr : rightA zeroA = true := by decide +kernel
  rw [known_put] at h1
  rw [hr] at h2
  have H1 := hidden h1
  have H2 := hidden h2
  have H3 := hidden h3
  clear h1 h2 h3 hr
  go_enter Try.func15, Try.ntmps15
  go_wp2_with fail
  refine (H1.out _).mono ?_
  rintro e w1 ⟨v1, rfl, ho1, hb1⟩
  have hs1 := run_string (BSl.ofRow ho1)
  go_wp2_with fail
  refine (H2.out _).mono ?_
  rintro e w2 ⟨rfl, hb2⟩
  go_wp2_with fail
  refine (H3.out _).mono ?_
  rintro e w3 ⟨rfl, hb3⟩
  unfold zeroA At.v At.cells
  go_wp2_with fail
  go_ret
  exact ⟨rfl, hb1.trans ((hb2.mono hb1.size).trans (hb3.mono (Nat.le_trans hb1.size hb2.size)))⟩

end Go.Proofs.Ytkbfgfpdchgjpaa
