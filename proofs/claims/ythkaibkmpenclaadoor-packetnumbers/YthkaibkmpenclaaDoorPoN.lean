/- Plain facts for the law PolyOne. -/
import Derived.Test.YthkaibkmpenclaaDoorPoL
namespace Go.Proofs.YthkaibkmpenclaaDoor
open Go Go.RowKit

def valTo (D : List Nat) : Nat → Nat
  | 0 => 0
  | n + 1 => valTo D n + D.getD n 0 * 256 ^ n
theorem val_off (D : List Nat) (k x n : Nat) (h : n ≤ k) : valTo (D.set k x) n = valTo D n := by
  induction n with
  | zero => rfl
  | succ n ih => rw [valTo, valTo, ih (by omega), getD_set, if_neg (by omega)]
theorem val_set (D : List Nat) (k x n : Nat) (hk : k < n) (hl : k < D.length) : valTo (D.set k x) n + D.getD k 0 * 256 ^ k = valTo D n + x * 256 ^ k := by
  induction n with
  | zero => omega
  | succ n ih =>
    rw [valTo, valTo, getD_set]
    by_cases h : n = k
    · subst h
      rw [if_pos ⟨rfl, hl⟩, val_off _ _ _ _ (Nat.le_refl _)]
      omega
    · rw [if_neg (by omega)]
      have := ih (by omega)
      omega
theorem val_lt (D : List Nat) (n : Nat) (h : ∀ i, i < n → D.getD i 0 ≤ 255) : valTo D n < 256 ^ n := by
  induction n with
  | zero => simp [valTo]
  | succ n ih =>
    have h1 := ih (fun i hi => h i (by omega))
    have h2 : D.getD n 0 * 256 ^ n ≤ 255 * 256 ^ n := Nat.mul_le_mul_right _ (h n (by omega))
    rw [valTo, Nat.pow_succ]
    omega
theorem val_digit (D : List Nat) (n j : Nat) (hj : j < n) (h : ∀ i, i ≤ j → D.getD i 0 ≤ 255) : valTo D n / 256 ^ j % 256 = D.getD j 0 := by
  have hpos : 0 < 256 ^ j := Nat.pow_pos (by omega)
  induction n with
  | zero => omega
  | succ n ih =>
    rw [valTo]
    by_cases hn : j < n
    · obtain ⟨d, rfl⟩ : ∃ d, n = j + (d + 1) := ⟨n - j - 1, by omega⟩
      rw [Nat.pow_add, ← Nat.mul_assoc, Nat.mul_comm _ (256 ^ j), Nat.mul_assoc, Nat.add_mul_div_left _ _ hpos, Nat.pow_succ, Nat.mul_comm (256 ^ d) 256, Nat.mul_left_comm, Nat.add_mul_mod_self_left]
      exact ih hn
    · obtain rfl : j = n := by omega
      rw [Nat.mul_comm, Nat.add_mul_div_left _ _ hpos, Nat.div_eq_of_lt (val_lt D j (fun i hi => h i (by omega)))]
      have := h j (Nat.le_refl _)
      omega
def sumB (xs : List UInt8) : Nat → Nat
  | 0 => 0
  | k + 1 => sumB xs k + blk (pieceAt xs k)
theorem acc_one (xs : List UInt8) (k : Nat) : accTo 1 xs k = sumB xs k % pP := by
  induction k with
  | zero => rfl
  | succ k ih => rw [accTo, sumB, ih, Nat.mul_one, Nat.mod_add_mod]
theorem piece_le (xs : List UInt8) (k : Nat) : (pieceAt xs k).length ≤ 16 := by unfold pieceAt; simp; omega
theorem blk_le (xs : List UInt8) (h : xs.length ≤ 16) : blk xs < 680564733841876926926749214863536422912 := by
  have h1 := leTo_lt xs xs.length
  have h2 : 256 ^ xs.length ≤ 256 ^ 16 := Nat.pow_le_pow_right (by omega) h
  rw [pow16] at h2
  unfold blk
  omega
theorem sumB_le (xs : List UInt8) (k : Nat) : sumB xs k ≤ k * 680564733841876926926749214863536422912 := by
  induction k with
  | zero => simp [sumB]
  | succ k ih =>
    have := blk_le (pieceAt xs k) (piece_le xs k)
    rw [sumB]
    omega
def keyOne : List UInt8 := 1 :: List.replicate 31 0
theorem keyOne_length : keyOne.length = 32 := rfl
theorem one_factor : factor keyOne = 1 := by decide +kernel
theorem one_second : second keyOne = 0 := by decide +kernel
theorem poly_one (xs : List UInt8) : polyL keyOne xs = lowB (sumB xs ((xs.length + 15) / 16) % pP) 16 := by
  unfold polyL polyV
  rw [one_factor, one_second, acc_one, Nat.add_zero]
/-- What the law's last look says. -/
theorem one_small (D : List Nat) (U : Nat) (hU : valTo D 18 = U) (hb : U ≤ 4 * 680564733841876926926749214863536422912) (hd : ∀ i, i < 17 → D.getD i 0 ≤ 255) (h16 : D.getD 16 0 ≤ 3) (h15 : ¬ (D.getD 16 0 = 3 ∧ D.getD 15 0 = 255)) : U % pP = U := by
  have h1 := val_lt D 15 (fun i hi => hd i (by omega))
  have e15 : (256 : Nat) ^ 15 = 1329227995784915872903807060280344576 := rfl
  have e16 : (256 : Nat) ^ 16 = 340282366920938463463374607431768211456 := rfl
  have e17 : (256 : Nat) ^ 17 = 87112285931760246646623899502532662132736 := rfl
  have hv : valTo D 18 = valTo D 15 + D.getD 15 0 * 256 ^ 15 + D.getD 16 0 * 256 ^ 16 + D.getD 17 0 * 256 ^ 17 := rfl
  rw [e15] at h1 hv
  rw [e16, e17] at hv
  have h15b := hd 15 (by omega)
  generalize valTo D 15 = V at h1 hv
  generalize D.getD 15 0 = d15 at hv h15b h15
  generalize D.getD 16 0 = d16 at hv h16 h15
  generalize D.getD 17 0 = d17 at hv
  rw [hU] at hv
  have h17 : d17 = 0 := by omega
  subst h17
  apply Nat.mod_eq_of_lt
  unfold pP
  rcases (show d16 ≤ 2 ∨ d16 = 3 by omega) with h | h
  · omega
  · subst h
    have : d15 ≤ 254 := by
      by_cases h : d15 = 255
      · exact absurd ⟨rfl, h⟩ h15
      · omega
    omega
end Go.Proofs.YthkaibkmpenclaaDoor
