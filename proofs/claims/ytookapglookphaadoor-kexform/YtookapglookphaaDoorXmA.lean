/- Bytes of a literal: the mark that they bear turns no cell. -/
import Derived.Test.YtookapglookphaaDoorXkW
import Derived.Test.YtookapglookphaaDoorXkC
namespace Go.Proofs.YtookapglookphaaDoor
section
open Go Go.RowKit
section
variable {B : Nat} {x y z : World}
end
/-- The mark: no cell turns. -/
theorem freeze_cell (w : World) (p a : Addr) (n : Nat) : (w.freeze p n).cell? a = w.cell? a := by
  unfold World.freeze
  split
  · rfl
  · unfold World.cell?
    simp only [Array.getElem?_modify]
    by_cases h : p.block = a.block
    · rw [if_pos h]
      cases hg : w.heap[a.block]? with
      | none => simp
      | some o => cases o <;> simp
    · rw [if_neg h]
theorem freeze_keeps (w : World) (p : Addr) (n : Nat) : Keeps (fun k => k = p.block) w (w.freeze p n) := by
  unfold World.freeze
  split
  · exact Keeps.refl _ _
  · refine ⟨rfl, rfl, rfl, by simp, fun k hk hn => ?_⟩
    simp only [Array.getElem?_modify]
    rw [if_neg (fun e => hn e.symm)]
theorem run_mark (w : World) (g off n c : Nat) : ∃ w', (convert 22 22 (.slice (some ⟨g, off, none⟩) n c)).run Tryd.prog w = .ok (.slice (some ⟨g, off, none⟩) n c) w' ∧ (∀ a, w'.cell? a = w.cell? a) ∧ Keeps (fun k => k = g) w w' := by
  cases hs : w.shape? g with
  | none =>
    refine ⟨w, ?_, fun _ => rfl, Keeps.refl _ _⟩
    simp [convert, run_underlying Tryd.underlying22, run_underlying Tryd.underlying5, markStringish, shape, Sem.run, hs]
  | some p =>
    obtain ⟨t, m⟩ := p
    refine ⟨w.freeze ⟨g, m, none⟩ 1, ?_, fun _ => freeze_cell _ _ _ _, freeze_keeps w ⟨g, m, none⟩ 1⟩
    simp [convert, run_underlying Tryd.underlying22, run_underlying Tryd.underlying5, markStringish, shape, freeze, Sem.run, hs]

section
variable {o : Oper} {ρ : Operand → Value} {w : World} {x : Operand} {v : Value}
end
end
open Go Go.RowKit
theorem BSl.cells {w w' : World} {v : Value} {xs : List UInt8} (h : BSl w v xs) (hc : ∀ a, w'.cell? a = w.cell? a) : BSl w' v xs := by
  obtain ⟨ao, cap, rfl, h1, h2, h3, h4⟩ := h
  refine ⟨ao, cap, rfl, h1, h2, h3, ?_⟩
  rintro ad rfl hx
  obtain ⟨b, off, rfl, hcell⟩ := h4 ad rfl hx
  exact ⟨b, off, rfl, fun j u hu => (hc _).trans (hcell j u hu)⟩
theorem lit_mark (w : World) (xs : List UInt8) (hl : xs.length ≤ 1000) : ∃ w2, (convert 22 22 (.slice (some ⟨w.heap.size, 0, none⟩) xs.length xs.length)).run Tryd.prog (w.alloc (.cells (bcells xs).toArray 5)) = .ok (.slice (some ⟨w.heap.size, 0, none⟩) xs.length xs.length) w2 ∧ BSl w2 (.slice (some ⟨w.heap.size, 0, none⟩) xs.length xs.length) xs ∧ Below w.heap.size w w2 := by
  obtain ⟨w2, h1, h2, h3⟩ := run_mark (w.alloc (.cells (bcells xs).toArray 5)) w.heap.size 0 xs.length xs.length
  refine ⟨w2, h1, (bsl_lit w xs hl).cells h2, ((Below.refl _ w).alloc (Nat.le_refl _) _).trans (h3.below (B := w.heap.size) (by simp) (by intro k e; omega))⟩
end Go.Proofs.YtookapglookphaaDoor
