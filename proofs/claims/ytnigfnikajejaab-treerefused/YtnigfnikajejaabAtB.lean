/- What attr's Right answers. -/
import Derived.Test.YtnigfnikajejaabAtA
namespace Go.Proofs.Ytnigfnikajejaab
open Go Go.RowKit


set_option maxHeartbeats 1600000 in
set_option maxRecDepth 100000 in
theorem right_c (x : At) (hx : x.Ok) (w : World) : Calls Try.prog 42 #[x.v] w fun e w' => e = .returned (.bool (rightA x)) ∧ Below w.heap.size w w' := by
  obtain ⟨f, s, u, g, m, a, t⟩ := x
  obtain ⟨e1, e2, e4, e8, n1, n2, n4, n8⟩ := bits_of f hx.f
  unfold rightA At.v At.cells
  clear hx
  generalize bt 1 f = b1 at *
  generalize bt 2 f = b2 at *
  generalize bt 4 f = b4 at *
  generalize bt 8 f = b8 at *
  have f1 : ∀ n : Nat, ¬ n = 0 → ((n : Int) != 0) = true := fun n h => by simpa using h
  have c1 := f1 s
  have c2 := f1 u
  have c3 := f1 g
  have c4 := f1 m
  have c5 := f1 a
  have c6 := f1 t
  clear f1
  go_enter Try.func42, Try.ntmps42
  go_wp2_with fail
  all_goals
    go_ret
    refine ⟨?_, (Below.refl _ w).alloc (Nat.le_refl _) _⟩
    clear c1 c2 c3 c4 c5 c6 e1 e2 e4 e8 n1 n2 n4 n8
    first | (simp_all; done) | (simp_all; omega)

end Go.Proofs.Ytnigfnikajejaab
