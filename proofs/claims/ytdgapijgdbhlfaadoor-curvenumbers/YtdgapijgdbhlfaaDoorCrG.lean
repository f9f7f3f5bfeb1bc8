/- The document's read. -/
import Derived.Test.YtdgapijgdbhlfaaDoorCrE
import Derived.Test.YtdgapijgdbhlfaaDoorCuO
namespace Go.Proofs.YtdgapijgdbhlfaaDoor
open Go Go.RowKit

/-- The parts behind i rounds. -/
def rdTo (S : List UInt8) : Nat → List Int
  | 0 => Z16
  | i + 1 => (rdTo S i).set i (((S.getD (2 * i) 0).toNat : Int) + ((S.getD (2 * i + 1) 0).toNat : Int) * 256)
theorem rdTo_length (S : List UInt8) (i : Nat) : (rdTo S i).length = 16 := by
  induction i with
  | zero => rfl
  | succ i ih => simp [rdTo, ih]
theorem Z16_zero (k : Nat) : Z16.getD k 0 = 0 := by
  by_cases h : k < 16
  · have : ∀ k : Fin 16, Z16.getD k.val 0 = 0 := by decide
    exact this ⟨k, h⟩
  · rw [List.getD_eq_getElem?_getD, List.getElem?_eq_none (by simp [Z16]; omega)]; rfl
theorem rdTo_bd (S : List UInt8) (i k : Nat) : 0 ≤ (rdTo S i).getD k 0 ∧ (rdTo S i).getD k 0 ≤ 65535 := by
  induction i with
  | zero => rw [rdTo, Z16_zero]; omega
  | succ i ih =>
    have h1 := (S.getD (2 * i) 0).toNat_lt
    have h2 := (S.getD (2 * i + 1) 0).toNat_lt
    rw [rdTo, getD_setI]
    split <;> omega
theorem rdTo_off (S : List UInt8) (i k : Nat) (h : i ≤ k) : (rdTo S i).getD k 0 = 0 := by
  induction i with
  | zero => exact Z16_zero k
  | succ i ih => rw [rdTo, getD_setI, if_neg (by omega), ih (by omega)]
theorem zero_val16 (n : Nat) : vI Z16 n = 0 := by
  induction n with
  | zero => rfl
  | succ n ih => rw [vI_succ, ih, Z16_zero]; simp
theorem rdTo_val (S : List UInt8) (i : Nat) (hi : i ≤ 16) : vI (rdTo S i) 16 = (leV S (2 * i) : Int) := by
  induction i with
  | zero => rw [rdTo, zero_val16]; rfl
  | succ i ih =>
    have hl := rdTo_length S i
    rw [rdTo, vI_set _ i _ 16 (by omega) (by omega), ih (by omega), rdTo_off S i i (Nat.le_refl _), show 2 * (i + 1) = 2 * i + 1 + 1 from rfl, leV, leV]
    have e : (256 : Nat) ^ (2 * i + 1) = 256 * 256 ^ (2 * i) := by rw [Nat.pow_succ, Nat.mul_comm]
    have e2 : ((256 : Nat) : Int) ^ (2 * i) = 65536 ^ i := by rw [Int.pow_mul]; rfl
    simp only [Int.natCast_add, Int.natCast_mul, Int.natCast_pow, e]
    rw [e2]
    generalize ((S.getD (2 * i) 0).toNat : Int) = x
    generalize ((S.getD (2 * i + 1) 0).toNat : Int) = y
    generalize (65536 : Int) ^ i = P
    rw [Int.sub_zero, Int.add_mul, Int.mul_assoc y]
    have : y * (256 * P) = y * (((256 : Nat) : Int) * P) := rfl
    omega
/-- The number that is read. -/
theorem read_rc (S : List UInt8) (x : Int) (hx : x = (rdTo S 16).getD 15 0 % 32768) : Rc ((rdTo S 16).set 15 x) (numV S % pC) := by
  have hl := rdTo_length S 16
  have hb := rdTo_bd S 16
  have hb15 := hb 15
  refine ⟨by rw [List.length_set]; exact hl, ?_, ?_, ?_⟩
  · have := hb 0
    rw [getD_setI, if_neg (by omega)]
    omega
  · intro i hi
    have := hb i
    rw [getD_setI]
    split <;> omega
  · have hv := rdTo_val S 16 (by omega)
    have e := vI_set (rdTo S 16) 15 x 16 (by omega) (by omega)
    rw [show (65536 : Int) ^ 15 = 1766847064778384329583297500742918515827483896875618958121606201292619776 by decide +kernel, hv] at e
    have hn : vI ((rdTo S 16).set 15 x) 16 = (numV S : Int) := by
      have h0 : ∀ n, n ≤ 15 → 0 ≤ vI (rdTo S 16) n ∧ vI (rdTo S 16) n < 65536 ^ n := by
        intro n hn
        induction n with
        | zero => simp [vI]
        | succ n ih =>
          have h1 := ih (by omega)
          have h2 := hb n
          rw [vI_succ, pow_step]
          generalize (65536 : Int) ^ n = P at *
          have h3 : 0 ≤ (rdTo S 16).getD n 0 * P := Int.mul_nonneg h2.1 (by omega)
          have h4 : (rdTo S 16).getD n 0 * P ≤ 65535 * P := Int.mul_le_mul_of_nonneg_right h2.2 (by omega)
          omega
      have h15 := h0 15 (by omega)
      have hs : vI (rdTo S 16) 16 = vI (rdTo S 16) 15 + (rdTo S 16).getD 15 0 * 65536 ^ 15 := vI_succ _ 15
      rw [hv] at hs
      rw [show (65536 : Int) ^ 15 = 1766847064778384329583297500742918515827483896875618958121606201292619776 by decide +kernel] at h15 hs
      rw [e]
      unfold numV
      rw [show 2 * 16 = 32 from rfl] at *
      generalize leV S 32 = V at *
      generalize (rdTo S 16).getD 15 0 = y at *
      generalize vI (rdTo S 16) 15 = U at *
      have hq : y / 32768 = 0 ∨ y / 32768 = 1 := by omega
      rcases hq with hq | hq
      · have : x = y := by omega
        omega
      · have : x = y - 32768 := by omega
        omega
    rw [hn]
    exact (Int.natCast_emod _ _).symm
end Go.Proofs.YtdgapijgdbhlfaaDoor
