/- Limbs: carries, folds and products, plainly. -/
import Derived.Test.YthkaibkmpenclaaDoorKp
namespace Go.Proofs.YthkaibkmpenclaaDoor
open Go Go.RowKit

/-- The carry: the limbs behind i rounds, and what goes on. -/
def cyTo (L : List Nat) : Nat → List Nat × Nat
  | 0 => (L, 0)
  | i + 1 => ((cyTo L i).1.set i (((cyTo L i).2 + (cyTo L i).1.getD i 0) % 67108864), ((cyTo L i).2 + (cyTo L i).1.getD i 0) / 67108864)
theorem cyTo_length (L : List Nat) (i : Nat) : (cyTo L i).1.length = L.length := by
  induction i with
  | zero => rfl
  | succ i ih => simp [cyTo, ih]
theorem cyTo_off (L : List Nat) (i j : Nat) (h : i ≤ j) : (cyTo L i).1.getD j 0 = L.getD j 0 := by
  induction i with
  | zero => rfl
  | succ i ih =>
    simp only [cyTo, List.getD_eq_getElem?_getD]
    rw [List.getElem?_set_ne (by omega), ← List.getD_eq_getElem?_getD, ih (by omega), List.getD_eq_getElem?_getD]
theorem cyTo_small (L : List Nat) (h : ∀ i, i < 5 → L.getD i 0 ≤ 1152921504606846976) (i : Nat) (hi : i < 5) : (cyTo L i).2 ≤ 34359738368 ∧ (cyTo L i).1.getD i 0 ≤ 1152921504606846976 := by
  refine ⟨?_, by rw [cyTo_off L i i (Nat.le_refl _)]; exact h i hi⟩
  induction i with
  | zero => simp [cyTo]
  | succ i ih =>
    have h1 := ih (by omega)
    have h2 : (cyTo L i).1.getD i 0 ≤ 1152921504606846976 := by rw [cyTo_off L i i (Nat.le_refl _)]; exact h i (by omega)
    simp only [cyTo]
    omega
theorem mask26 (s : Nat) (hs : s ≤ 9000000000000000000) : bits BinOp.and IntKind.u64 (s : Int) 67108863 = ((s % 67108864 : Nat) : Int) := by
  have := u64_and_nat s 67108863 (by omega) (by omega)
  rw [show ((67108863 : Nat) : Int) = 67108863 from rfl] at this
  rw [this, show (67108863 : Nat) = 2 ^ 26 - 1 from rfl, Nat.and_two_pow_sub_one_eq_mod]
def addTo (L M : List Nat) : Nat → List Nat
  | 0 => L
  | i + 1 => (addTo L M i).set i (L.getD i 0 + M.getD i 0)
theorem addTo_length (L M : List Nat) (i : Nat) : (addTo L M i).length = L.length := by
  induction i with
  | zero => rfl
  | succ i ih => simp [addTo, ih]
theorem addTo_off (L M : List Nat) (i j : Nat) (h : i ≤ j) : (addTo L M i).getD j 0 = L.getD j 0 := by
  induction i with
  | zero => rfl
  | succ i ih =>
    simp only [addTo, List.getD_eq_getElem?_getD]
    rw [List.getElem?_set_ne (by omega), ← List.getD_eq_getElem?_getD, ih (by omega), List.getD_eq_getElem?_getD]
/-- What foldTop leaves. -/
def foldL (L : List Nat) : List Nat := (cyTo L 5).1.set 0 ((cyTo L 5).1.getD 0 0 + 5 * (cyTo L 5).2)
theorem foldL_length (L : List Nat) : (foldL L).length = L.length := by simp [foldL, cyTo_length]
def mulStep (n m P : List Nat) (i j : Nat) : List Nat :=
  if i + j < 5 then P.set (i + j) (P.getD (i + j) 0 + n.getD i 0 * m.getD j 0) else P.set (i + j - 5) (P.getD (i + j - 5) 0 + 5 * n.getD i 0 * m.getD j 0)
def mulRow (n m P : List Nat) (i : Nat) : Nat → List Nat
  | 0 => P
  | j + 1 => mulStep n m (mulRow n m P i j) i j
def mulTo (n m : List Nat) : Nat → List Nat
  | 0 => [0, 0, 0, 0, 0]
  | i + 1 => mulRow n m (mulTo n m i) i 5
theorem mulStep_length (n m P : List Nat) (i j : Nat) : (mulStep n m P i j).length = P.length := by unfold mulStep; split <;> simp
theorem mulRow_length (n m P : List Nat) (i j : Nat) : (mulRow n m P i j).length = P.length := by
  induction j with
  | zero => rfl
  | succ j ih => rw [mulRow, mulStep_length, ih]
theorem mulTo_length (n m : List Nat) (i : Nat) : (mulTo n m i).length = 5 := by
  induction i with
  | zero => rfl
  | succ i ih => rw [mulTo, mulRow_length, ih]
/-- Limbs that may be multiplied. -/
def Small (n : List Nat) (b : Nat) : Prop := ∀ i, i < 5 → n.getD i 0 ≤ b
theorem prod_le {n m : List Nat} (hn : Small n 134217736) (hm : Small m 67108863) {i j : Nat} (hi : i < 5) (hj : j < 5) : n.getD i 0 * m.getD j 0 ≤ 9007199657951768 := by
  have h := Nat.mul_le_mul (hn i hi) (hm j hj)
  exact Nat.le_trans h (by decide)
theorem getD_set (P : List Nat) (k x l : Nat) : (P.set k x).getD l 0 = if l = k ∧ k < P.length then x else P.getD l 0 := by
  simp only [List.getD_eq_getElem?_getD, List.getElem?_set]
  by_cases h : k = l
  · subst h
    by_cases h2 : k < P.length
    · simp [h2]
    · rw [if_pos rfl, if_neg h2, if_neg (fun h3 => h2 h3.2), List.getElem?_eq_none (by omega)]
  · rw [if_neg h, if_neg (fun h3 => h h3.1.symm)]
theorem mulStep_le {n m P : List Nat} {B : Nat} (hn : Small n 134217736) (hm : Small m 67108863) (hP : ∀ k, P.getD k 0 ≤ B) {i j : Nat} (hi : i < 5) (hj : j < 5) (k : Nat) : (mulStep n m P i j).getD k 0 ≤ B + 45035998289758840 := by
  have h := prod_le hn hm hi hj
  have hk := hP k
  have h1 := hP (i + j)
  have h2 := hP (i + j - 5)
  have h3 : 5 * n.getD i 0 * m.getD j 0 = 5 * (n.getD i 0 * m.getD j 0) := Nat.mul_assoc _ _ _
  unfold mulStep
  split <;> rw [getD_set] <;> split <;> omega
theorem mulRow_le {n m P : List Nat} {B : Nat} (hn : Small n 134217736) (hm : Small m 67108863) (hP : ∀ k, P.getD k 0 ≤ B) {i : Nat} (hi : i < 5) (j : Nat) (hj : j ≤ 5) (k : Nat) : (mulRow n m P i j).getD k 0 ≤ B + j * 45035998289758840 := by
  induction j generalizing k with
  | zero => simpa [mulRow] using hP k
  | succ j ih =>
    have := mulStep_le (B := B + j * 45035998289758840) hn hm (fun k => ih (by omega) k) hi (show j < 5 by omega) k
    rw [mulRow]
    omega
theorem mulTo_le {n m : List Nat} (hn : Small n 134217736) (hm : Small m 67108863) (i : Nat) (hi : i ≤ 5) (k : Nat) : (mulTo n m i).getD k 0 ≤ i * 225179991448794200 := by
  induction i generalizing k with
  | zero =>
    match k with
    | 0 | 1 | 2 | 3 | 4 => simp [mulTo]
    | k + 5 => simp [mulTo]
  | succ i ih =>
    have := mulRow_le (B := i * 225179991448794200) hn hm (fun k => ih (by omega) k) (show i < 5 by omega) 5 (by omega) k
    rw [mulTo]
    omega
/-- The product, folded twice. -/
def timesL (n m : List Nat) : List Nat := foldL (foldL (mulTo n m 5))
end Go.Proofs.YthkaibkmpenclaaDoor
