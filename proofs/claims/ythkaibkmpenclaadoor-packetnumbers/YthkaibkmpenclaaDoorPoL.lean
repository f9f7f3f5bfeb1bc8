/- Plain facts for the law PolyLine. -/
import Derived.Test.YthkaibkmpenclaaDoorPoJ
import Derived.Test.YthkaibkmpenclaaDoorZer
namespace Go.Proofs.YthkaibkmpenclaaDoor
open Go Go.RowKit

theorem le_byte (xs : List UInt8) (n i : Nat) (hi : i < n) : leTo xs n / 256 ^ i % 256 = (xs.getD i 0).toNat := by
  induction n with
  | zero => omega
  | succ n ih =>
    have hb := UInt8.toNat_lt (xs.getD n 0)
    have hpos : 0 < 256 ^ i := Nat.pow_pos (by omega)
    rw [leTo]
    by_cases h : i < n
    · obtain ⟨d, rfl⟩ : ∃ d, n = i + (d + 1) := ⟨n - i - 1, by omega⟩
      rw [Nat.pow_add, ← Nat.mul_assoc, Nat.mul_comm _ (256 ^ i), Nat.mul_assoc, Nat.add_mul_div_left _ _ hpos, Nat.pow_succ]
      rw [Nat.mul_comm (256 ^ d) 256, Nat.mul_left_comm, Nat.add_mul_mod_self_left]
      exact ih h
    · obtain rfl : i = n := by omega
      rw [Nat.mul_comm, Nat.add_mul_div_left _ _ hpos, Nat.div_eq_of_lt (leTo_lt xs i)]
      omega
theorem lowB_le (xs : List UInt8) : lowB (leTo xs xs.length) xs.length = xs := by
  apply List.ext_getElem
  · rw [lowB_length]
  · intro i h1 h2
    simp only [lowB, List.getElem_map, List.getElem_range]
    rw [le_byte xs xs.length i h2]
    simp [h2]
theorem low_getD (V n i : Nat) (hi : i < n) : ((lowB V n).getD i 0).toNat = V / 256 ^ i % 256 := by
  simp [lowB, hi]
/-- What is carried into byte i of a sum. -/
def cyAt (A S i : Nat) : Nat := (A % 256 ^ i + S % 256 ^ i) / 256 ^ i
theorem cyAt_le (A S i : Nat) : cyAt A S i ≤ 1 := by
  unfold cyAt
  have hpos : 0 < 256 ^ i := Nat.pow_pos (by omega)
  have h1 := Nat.mod_lt A hpos
  have h2 := Nat.mod_lt S hpos
  have : (A % 256 ^ i + S % 256 ^ i) / 256 ^ i < 2 := (Nat.div_lt_iff_lt_mul hpos).2 (by omega)
  omega
theorem cy_byte (A S i : Nat) : (cyAt A S i + A / 256 ^ i % 256 + S / 256 ^ i % 256) % 256 = (A + S) / 256 ^ i % 256 := by
  have hpos : 0 < 256 ^ i := Nat.pow_pos (by omega)
  have h : (A + S) / 256 ^ i = A / 256 ^ i + S / 256 ^ i + cyAt A S i := by
    unfold cyAt
    have hA := Nat.div_add_mod A (256 ^ i)
    have hS := Nat.div_add_mod S (256 ^ i)
    have e : A + S = (A % 256 ^ i + S % 256 ^ i) + 256 ^ i * (A / 256 ^ i + S / 256 ^ i) := by rw [Nat.mul_add]; omega
    rw [e, Nat.add_mul_div_left _ _ hpos]
    omega
  rw [h]
  omega
theorem cy_next (A S i : Nat) : (cyAt A S i + A / 256 ^ i % 256 + S / 256 ^ i % 256) / 256 = cyAt A S (i + 1) := by
  have hpos : 0 < 256 ^ i := Nat.pow_pos (by omega)
  unfold cyAt
  rw [Nat.pow_succ, Nat.mod_mul, Nat.mod_mul, ← Nat.div_div_eq_div_mul]
  congr 1
  rw [show A % 256 ^ i + 256 ^ i * (A / 256 ^ i % 256) + (S % 256 ^ i + 256 ^ i * (S / 256 ^ i % 256)) = (A % 256 ^ i + S % 256 ^ i) + 256 ^ i * (A / 256 ^ i % 256 + S / 256 ^ i % 256) by rw [Nat.mul_add]; omega, Nat.add_mul_div_left _ _ hpos]
  omega
theorem acc_zero (b : List UInt8) (k : Nat) : accTo 0 b k = 0 := by
  cases k with
  | zero => rfl
  | succ k => simp [accTo]
theorem leTo_zeros (n m : Nat) : leTo (List.replicate n 0) m = 0 := by
  induction m with
  | zero => rfl
  | succ m ih =>
    have h : (List.replicate n (0 : UInt8)).getD m 0 = 0 := by
      simp only [List.getD_eq_getElem?_getD, List.getElem?_replicate]
      split <;> rfl
    rw [leTo, ih, h]
    simp
theorem leTo_congr {xs ys : List UInt8} (n : Nat) (h : ∀ i, i < n → xs.getD i 0 = ys.getD i 0) : leTo xs n = leTo ys n := by
  induction n with
  | zero => rfl
  | succ n ih => rw [leTo, leTo, ih (fun i hi => h i (by omega)), h n (by omega)]
theorem poly_zero {key : List UInt8} (hk : key.length = 32) (b : List UInt8) : polyL (key.take 16 ++ List.replicate 16 0) b = lowB (accTo (factor key) b ((b.length + 15) / 16)) 16 := by
  have hl : (key.take 16).length = 16 := by simp [hk]
  have h1 : factor (key.take 16 ++ List.replicate 16 0) = factor key := by
    unfold factor
    rw [List.take_append_of_le_length (by omega), List.take_of_length_le (by omega)]
  have h2 : second (key.take 16 ++ List.replicate 16 0) = 0 := by
    unfold second
    rw [List.drop_append_of_le_length (by omega), List.drop_of_length_le (by omega), List.nil_append, leTo_zeros]
  unfold polyL polyV
  rw [h1, h2, Nat.add_zero]
theorem poly_none {key : List UInt8} (hk : key.length = 32) (b : List UInt8) : polyL (List.replicate 16 0 ++ key.drop 16) b = key.drop 16 := by
  have hl : (key.drop 16).length = 16 := by simp [hk]
  have h1 : factor (List.replicate 16 0 ++ key.drop 16) = 0 := by
    unfold factor
    rw [List.take_append_of_le_length (by simp), List.take_of_length_le (by simp)]
    decide +kernel
  have h2 : second (List.replicate 16 0 ++ key.drop 16) = leTo (key.drop 16) 16 := by
    unfold second
    rw [List.drop_append_of_le_length (by simp), List.drop_of_length_le (by simp), List.nil_append]
  unfold polyL polyV
  rw [h1, h2, acc_zero, Nat.zero_add]
  have := lowB_le (key.drop 16)
  rwa [hl] at this
end Go.Proofs.YthkaibkmpenclaaDoor
