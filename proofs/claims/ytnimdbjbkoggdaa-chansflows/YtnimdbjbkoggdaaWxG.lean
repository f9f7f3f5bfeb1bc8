/- Split in one word; the walk of the law WindowTwice. -/
import Derived.Test.YtnimdbjbkoggdaaWxF
namespace Go.Proofs.Ytnimdbjbkoggdaa
open Go Go.RowKit

/-- The slice value v reads as the numbers L. -/
def ISl (w : World) (v : Value) (L : List Nat) : Prop := (v = .slice none 0 0 ∧ L = []) ∨ ∃ g, v = .slice (some ⟨g, 0, none⟩) L.length L.length ∧ IB w g L
theorem ISl.fresh {w w' : World} {v : Value} {L : List Nat} (h : ISl w v L) (hb : Below w.heap.size w w') : ISl w' v L := by
  rcases h with h | ⟨g, h1, h2⟩
  · exact .inl h
  · exact .inr ⟨g, h1, h2.fresh hb⟩

theorem split_u {x y a b : Nat} (h : Win x y true a b) (n k c : Nat) (hkm : k ≤ 1000000) (hk : k = min n a) (hc : c = (k + b - 1) / b) (w : World) :
    Calls Try.prog 48 #[.complex .f64 x y, .int .i64 (n : Int)] w fun e w' => ∃ v, e = .returned (.tuple #[v, .complex .f64 (nb (a - k)) (nb b)]) ∧ ISl w' v (pcs k b c) ∧ (∀ j, v.ownBlock = some j → j = w.heap.size) ∧ Below w.heap.size w w' := by
  obtain ⟨e1, e2, _, hb1, _⟩ := h.right rfl
  by_cases h0 : k = 0
  · have hc0 : c = 0 := by rw [hc, h0]; exact Nat.div_eq_of_lt (by omega)
    subst h0
    refine (split_none h n (by omega) w).mono ?_
    rintro e w' ⟨rfl, rfl⟩
    exact ⟨.slice none 0 0, by rw [e1, e2]; rfl, .inl ⟨rfl, by rw [hc0]; rfl⟩, (fun j e => by simp [Value.ownBlock] at e), Below.refl _ _⟩
  · refine (split_c h n k c hkm hk (by omega) hc w).mono ?_
    rintro e w' ⟨rfl, h1, h2⟩
    exact ⟨_, rfl, .inr ⟨_, by rw [pcs_length], h1⟩, (fun j e => by simp [Value.ownBlock] at e; exact e.symm), h2⟩


end Go.Proofs.Ytnimdbjbkoggdaa
