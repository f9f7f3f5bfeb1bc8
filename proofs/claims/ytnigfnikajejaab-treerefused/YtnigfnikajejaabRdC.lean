/- What the Reader's Byte, Bool, U32, U64, Text, Raw, Rest, Fail, End and NewReader do. -/
import Derived.Test.YtnigfnikajejaabRdB
namespace Go.Proofs.Ytnigfnikajejaab
open Go Go.RowKit

theorem valFrom_lt (xs : List UInt8) : ∀ m, valFrom m xs < (m + 1) * 256 ^ xs.length := by
  induction xs with
  | nil => intro m; simp [valFrom]
  | cons x xs ih =>
    intro m
    have hx := x.toNat_lt
    have := ih (m * 256 + x.toNat)
    refine Nat.lt_of_lt_of_le this ?_
    rw [List.length_cons, Nat.pow_succ]
    have h2 : (m * 256 + x.toNat + 1) ≤ (m + 1) * 256 := by omega
    calc (m * 256 + x.toNat + 1) * 256 ^ xs.length ≤ (m + 1) * 256 * 256 ^ xs.length := Nat.mul_le_mul_right _ h2
      _ = (m + 1) * (256 ^ xs.length * 256) := by rw [Nat.mul_assoc, Nat.mul_comm 256]
theorem val_lt (xs : List UInt8) (k : Nat) (h : xs.length ≤ k) : val xs < 256 ^ k := by
  have := valFrom_lt xs 0
  simp at this
  exact Nat.lt_of_lt_of_le this (Nat.pow_le_pow_right (by omega) h)
theorem tk_len (bs : List UInt8) (p : Nat) (why : Int) (n : Nat) : (tk bs p why n).1.length ≤ n := by unfold tk; split <;> (try split) <;> simp <;> omega






/-- What text answers, and where the Reader stands behind it. -/
def tx (bs : List UInt8) (p : Nat) (why : Int) (most : Int) : List UInt8 × Nat × Int :=
  if most.toNat < val (tk bs p why 4).1 then ([], p, 3) else tk bs (tk bs p why 4).2.1 (tk bs p why 4).2.2 (val (tk bs p why 4).1)

theorem tk_ok {bs : List UInt8} {p : Nat} {why : Int} {n : Nat} (h : 0 < val (tk bs p why n).1) : why = 0 ∧ (tk bs p why n).2.2 = 0 := by
  unfold tk at h ⊢
  by_cases hw : why = 0
  · rw [if_pos hw] at h ⊢
    by_cases hl : bs.length - p < n
    · rw [if_pos hl] at h; simp [val, valFrom] at h
    · rw [if_neg hl]; exact ⟨hw, rfl⟩
  · rw [if_neg hw] at h; simp [val, valFrom] at h







end Go.Proofs.Ytnigfnikajejaab
