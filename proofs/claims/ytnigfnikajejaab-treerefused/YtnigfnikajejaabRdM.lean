/- What the Reader's Mpint does. -/
import Derived.Test.YtnigfnikajejaabRdD
namespace Go.Proofs.Ytnigfnikajejaab
open Go Go.RowKit

theorem tk_ok1 {bs : List UInt8} {p : Nat} {why : Int} {n : Nat} (h : (tk bs p why n).1 ≠ []) : why = 0 ∧ (tk bs p why n).2.2 = 0 := by
  unfold tk at h ⊢
  by_cases hw : why = 0
  · rw [if_pos hw] at h ⊢
    by_cases hl : bs.length - p < n
    · rw [if_pos hl] at h; simp at h
    · rw [if_neg hl]; exact ⟨hw, rfl⟩
  · rw [if_neg hw] at h; simp at h
theorem tx_ok1 {bs : List UInt8} {p : Nat} {why : Int} {most : Int} (h : (tx bs p why most).1 ≠ []) : why = 0 ∧ (tx bs p why most).2.2 = 0 := by
  unfold tx at h ⊢
  by_cases hl : most.toNat < val (tk bs p why 4).1
  · rw [if_pos hl] at h; simp at h
  · rw [if_neg hl] at h ⊢
    have h1 := tk_ok1 h
    refine ⟨?_, h1.2⟩
    by_cases hw : why = 0
    · exact hw
    · have h2 := h1.1
      unfold tk at h2
      rw [if_neg hw] at h2
      exact absurd h2 hw
theorem tx_len (bs : List UInt8) (p : Nat) (why : Int) (most : Int) : (tx bs p why most).1.length ≤ most.toNat := by
  unfold tx
  split
  · simp
  · rename_i h
    have := tk_len bs (tk bs p why 4).2.1 (tk bs p why 4).2.2 (val (tk bs p why 4).1)
    omega

/-- The number's bytes, if the Text may be one. -/
def mpOf : List UInt8 → Option (List UInt8)
  | [] => some []
  | x :: t => if 128 ≤ x.toNat then none else if x = 0 then (match t with | [] => none | y :: r => if 128 ≤ y.toNat then some (y :: r) else none) else some (x :: t)

def mx (bs : List UInt8) (p : Nat) (why : Int) (most : Int) : List UInt8 × Nat × Int :=
  match mpOf (tx bs p why most).1 with
  | some ys => (ys, (tx bs p why most).2)
  | none => ([], p, 12)


end Go.Proofs.Ytnigfnikajejaab
