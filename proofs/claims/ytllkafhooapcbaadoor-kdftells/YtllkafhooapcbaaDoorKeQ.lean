/- More operations that the law region_free takes. -/
import Derived.Test.YtllkafhooapcbaaDoorKeB
import Derived.Test.YtllkafhooapcbaaDoorKdT
namespace Go.Proofs.YtllkafhooapcbaaDoor
open Go Go.RowKit
section
variable {o : Oper} {ρ : Operand → Value} {w w0 : World} {x y z : Operand} {v vx vy vz : Value} {Φ : Value → World → Prop}
theorem gives_load {a : Addr} (ho : o.op = .load 22 x) (hx : ρ x = .pointer (some a)) (hc : w.cell? a = some v) (h : Φ v w) : Gives Tryd.prog o ρ w Φ := by
  refine Gives.value (w' := w) (v := v) ?_ h
  unfold execOp
  simp only [ho]
  rw [hx]
  simp [Instr.loadAt, loadVar, Instr.sureAddr, hc]
theorem gives_idx {T j : Nat} (hj : j < 5) (ho : o.op = .indexAddr 31 x (.const (.int .i64 (j : Int)))) (hx : ρ x = .pointer (some ⟨T, 0, none⟩)) (hy : ρ (.const (.int .i64 (j : Int))) = .int .i64 (j : Int)) (h : Φ (.pointer (some ⟨T, j, none⟩)) w) : Gives Tryd.prog o ρ w Φ := by
  refine Gives.value (w' := w) (v := .pointer (some ⟨T, j, none⟩)) ?_ h
  unfold execOp
  simp only [ho]
  rw [hx, hy]
  have e : j = 0 ∨ j = 1 ∨ j = 2 ∨ j = 3 ∨ j = 4 := by omega
  rcases e with rfl | rfl | rfl | rfl | rfl <;> rfl
theorem gives_exec (hr : (execOp ρ o).run Tryd.prog w = .ok (.value v) w) (h : Φ v w) : Gives Tryd.prog o ρ w Φ := Gives.value hr h
end
end Go.Proofs.YtllkafhooapcbaaDoor
