/- The document's product: plain facts. -/
import Derived.Test.YtdgapijgdbhlfaaDoorCrB
namespace Go.Proofs.YtdgapijgdbhlfaaDoor
open Go Go.RowKit

theorem vI_succ (L : List Int) (n : Nat) : vI L (n + 1) = vI L n + L.getD n 0 * 65536 ^ n := rfl
def Z31 : List Int := [0, 0, 0, 0, 0, 0, 0, 0, 0, 0, 0, 0, 0, 0, 0, 0, 0, 0, 0, 0, 0, 0, 0, 0, 0, 0, 0, 0, 0, 0, 0]
def muR (a b T : List Int) (i : Nat) : Nat → List Int
  | 0 => T
  | j + 1 => (muR a b T i j).set (i + j) ((muR a b T i j).getD (i + j) 0 + a.getD i 0 * b.getD j 0)
def muT (a b : List Int) : Nat → List Int
  | 0 => Z31
  | i + 1 => muR a b (muT a b i) i 16
theorem muR_length (a b T : List Int) (i j : Nat) : (muR a b T i j).length = T.length := by
  induction j with
  | zero => rfl
  | succ j ih => simp [muR, ih]
theorem muT_length (a b : List Int) (i : Nat) : (muT a b i).length = 31 := by
  induction i with
  | zero => rfl
  | succ i ih => rw [muT, muR_length, ih]
theorem prod_bd {x y : Int} (hx : -131146 ≤ x ∧ x ≤ 131146) (hy : -131146 ≤ y ∧ y ≤ 131146) : -17200000000 ≤ x * y ∧ x * y ≤ 17200000000 := by
  have h1 := Int.mul_nonneg (show 0 ≤ 131146 - x by omega) (show 0 ≤ 131146 - y by omega)
  have h2 := Int.mul_nonneg (show 0 ≤ 131146 + x by omega) (show 0 ≤ 131146 + y by omega)
  have h3 := Int.mul_nonneg (show 0 ≤ 131146 - x by omega) (show 0 ≤ 131146 + y by omega)
  have h4 := Int.mul_nonneg (show 0 ≤ 131146 + x by omega) (show 0 ≤ 131146 - y by omega)
  simp only [Int.sub_mul, Int.add_mul, Int.mul_sub, Int.mul_add] at h1 h2 h3 h4
  omega
theorem muR_bd {a b T : List Int} {B : Int} (ha : ∀ i, -131146 ≤ a.getD i 0 ∧ a.getD i 0 ≤ 131146) (hb : ∀ i, -131146 ≤ b.getD i 0 ∧ b.getD i 0 ≤ 131146) (hT : ∀ k, -B ≤ T.getD k 0 ∧ T.getD k 0 ≤ B) (i j k : Nat) : -(B + 17200000000 * j) ≤ (muR a b T i j).getD k 0 ∧ (muR a b T i j).getD k 0 ≤ B + 17200000000 * j := by
  induction j generalizing k with
  | zero => have := hT k; rw [muR]; omega
  | succ j ih =>
    have h1 := ih k
    have h2 := ih (i + j)
    have h3 := prod_bd (ha i) (hb j)
    rw [muR, getD_setI]
    split <;> omega
theorem muT_bd {a b : List Int} (ha : ∀ i, -131146 ≤ a.getD i 0 ∧ a.getD i 0 ≤ 131146) (hb : ∀ i, -131146 ≤ b.getD i 0 ∧ b.getD i 0 ≤ 131146) (i k : Nat) : -(275200000000 * i) ≤ (muT a b i).getD k 0 ∧ (muT a b i).getD k 0 ≤ 275200000000 * (i : Int) := by
  induction i generalizing k with
  | zero =>
    have : Z31.getD k 0 = 0 := by
      by_cases h : k < 31
      · have : ∀ k : Fin 31, Z31.getD k.val 0 = 0 := by decide
        exact this ⟨k, h⟩
      · rw [List.getD_eq_getElem?_getD, List.getElem?_eq_none (by simp [Z31]; omega)]; rfl
    rw [muT, this]
    omega
  | succ i ih =>
    have := muR_bd (B := 275200000000 * (i : Int)) ha hb (fun k => ih k) i 16 k
    rw [muT]
    omega
theorem muR_val {a b T : List Int} (hT : T.length = 31) (i j : Nat) (hi : i < 16) (hj : j ≤ 16) : vI (muR a b T i j) 31 = vI T 31 + a.getD i 0 * 65536 ^ i * vI b j := by
  induction j with
  | zero => simp [muR, vI]
  | succ j ih =>
    have hl := muR_length a b T i j
    rw [muR, vI_set _ (i + j) _ 31 (by omega) (by omega), ih (by omega), vI_succ b j]
    generalize (muR a b T i j).getD (i + j) 0 = x
    rw [show x + a.getD i 0 * b.getD j 0 - x = a.getD i 0 * b.getD j 0 by omega, Int.pow_add, Int.mul_add]
    have e : a.getD i 0 * b.getD j 0 * ((65536 : Int) ^ i * 65536 ^ j) = a.getD i 0 * 65536 ^ i * (b.getD j 0 * 65536 ^ j) := by
      rw [Int.mul_assoc, Int.mul_assoc, Int.mul_left_comm (b.getD j 0)]
    rw [e]
    omega
theorem zero_valI (n : Nat) : vI Z31 n = 0 := by
  induction n with
  | zero => rfl
  | succ n ih =>
    have : Z31.getD n 0 = 0 := by
      by_cases h : n < 31
      · have : ∀ k : Fin 31, Z31.getD k.val 0 = 0 := by decide
        exact this ⟨n, h⟩
      · rw [List.getD_eq_getElem?_getD, List.getElem?_eq_none (by simp [Z31]; omega)]; rfl
    rw [vI, ih, this]
    simp
theorem muT_val (a b : List Int) (i : Nat) (hi : i ≤ 16) : vI (muT a b i) 31 = vI a i * vI b 16 := by
  induction i with
  | zero => rw [muT, zero_valI, vI, Int.zero_mul]
  | succ i ih => rw [muT, muR_val (muT_length a b i) i 16 (by omega) (by omega), ih (by omega), vI_succ a i, Int.add_mul]
/-- The upper parts brought in again, behind i rounds. -/
def fdTo (T : List Int) : Nat → List Int
  | 0 => T
  | i + 1 => (fdTo T i).set i (T.getD i 0 + 38 * T.getD (i + 16) 0)
theorem fdTo_length (T : List Int) (i : Nat) : (fdTo T i).length = T.length := by
  induction i with
  | zero => rfl
  | succ i ih => simp [fdTo, ih]
theorem fdTo_off (T : List Int) (i j : Nat) (h : i ≤ j) : (fdTo T i).getD j 0 = T.getD j 0 := by
  induction i with
  | zero => rfl
  | succ i ih => rw [fdTo, getD_setI, if_neg (by omega), ih (by omega)]
theorem fdTo_on (T : List Int) (i j : Nat) (h : j < i) (hl : j < T.length) : (fdTo T i).getD j 0 = T.getD j 0 + 38 * T.getD (j + 16) 0 := by
  induction i with
  | zero => omega
  | succ i ih =>
    rw [fdTo, getD_setI]
    split
    · rename_i e; rw [e.1]
    · exact ih (by rename_i e; rw [fdTo_length] at e; omega)
theorem vI_split (T : List Int) (n : Nat) : vI T (16 + n) = vI T 16 + 65536 ^ 16 * vI (T.drop 16) n := by
  induction n with
  | zero => simp [vI]
  | succ n ih =>
    have e : (T.drop 16).getD n 0 = T.getD (16 + n) 0 := by rw [List.getD_eq_getElem?_getD, List.getElem?_drop, ← List.getD_eq_getElem?_getD]
    rw [← Nat.add_assoc, vI_succ T (16 + n), ih, vI_succ (T.drop 16) n, e, Int.pow_add, Int.mul_add, Int.mul_left_comm]
    omega
theorem vI_fold (T : List Int) (hT : T.length = 31) : vI (fdTo T 15) 16 = vI T 16 + 38 * vI (T.drop 16) 15 := by
  have h : ∀ i, i ≤ 15 → vI (fdTo T i) 16 = vI T 16 + 38 * vI (T.drop 16) i := by
    intro i hi
    induction i with
    | zero => simp [fdTo, vI]
    | succ i ih =>
      have hl := fdTo_length T i
      have e : (T.drop 16).getD i 0 = T.getD (i + 16) 0 := by rw [List.getD_eq_getElem?_getD, List.getElem?_drop, Nat.add_comm, ← List.getD_eq_getElem?_getD]
      rw [fdTo, vI_set _ i _ 16 (by omega) (by omega), ih (by omega), fdTo_off T i i (Nat.le_refl _), vI_succ (T.drop 16) i, e]
      generalize T.getD i 0 = x
      rw [show x + 38 * T.getD (i + 16) 0 - x = 38 * T.getD (i + 16) 0 by omega, Int.mul_add, Int.mul_assoc]
      omega
  exact h 15 (by omega)
/-- What is carried at last. -/
def cpI (T : List Int) : List Int := zpTo (fun _ y => y) Z16 (fdTo T 15) 16
theorem mulI_val {a b : List Int} {x y : Nat} (ha : Rb a x) (hb : Rb b y) :
    (cpI (muT a b 16)).length = 16 ∧ (∀ j, -200000000000000 ≤ (cpI (muT a b 16)).getD j 0 ∧ (cpI (muT a b 16)).getD j 0 ≤ 200000000000000) ∧ (∀ j, -200000000000 ≤ (crTo (cpI (muT a b 16)) 16).getD j 0 ∧ (crTo (cpI (muT a b 16)) 16).getD j 0 ≤ 200000000000) ∧ Rc (crTo (crTo (cpI (muT a b 16)) 16) 16) (fmul x y) := by
  obtain ⟨T, hT⟩ : ∃ T, T = muT a b 16 := ⟨_, rfl⟩
  have hTl : T.length = 31 := by rw [hT]; exact muT_length a b 16
  have hTb : ∀ k, -4403200000000 ≤ T.getD k 0 ∧ T.getD k 0 ≤ 4403200000000 := fun k => by have := muT_bd ha.bd hb.bd 16 k; rw [hT]; omega
  have hTv : vI T 31 = vI a 16 * vI b 16 := by rw [hT]; exact muT_val a b 16 (by omega)
  rw [← hT]
  have hl : (cpI T).length = 16 := by unfold cpI; rw [zpTo_length]; rfl
  have hon : ∀ i, i < 16 → (cpI T).getD i 0 = (fdTo T 15).getD i 0 := fun i hi => zpTo_on (fun _ y => y) Z16 (fdTo T 15) 16 i hi hi
  have hbd : ∀ j, -200000000000000 ≤ (cpI T).getD j 0 ∧ (cpI T).getD j 0 ≤ 200000000000000 := by
    intro j
    by_cases hj : j < 16
    · rw [hon j hj]
      have h1 := hTb j
      have h2 := hTb (j + 16)
      by_cases h15 : j < 15
      · rw [fdTo_on T 15 j h15 (by omega)]; omega
      · rw [fdTo_off T 15 j (by omega)]; omega
    · rw [List.getD_eq_getElem?_getD, List.getElem?_eq_none (by omega)]; simp
  obtain ⟨c1, z, c2, c3⟩ := carry_twice hl hbd
  refine ⟨hl, hbd, c1, ?_⟩
  have hz : z = fmul x y := by
    have h1 : vI (cpI T) 16 = vI (fdTo T 15) 16 := vI_congr 16 hon
    have h2 := vI_fold T hTl
    have h3 := vI_split T 15
    rw [show 16 + 15 = 31 from rfl, hTv] at h3
    have h4 : vI (cpI T) 16 = vI a 16 * vI b 16 - (pC : Int) * (2 * vI (T.drop 16) 15) := by
      rw [h1, h2, h3, show (65536 : Int) ^ 16 = 115792089237316195423570985008687907853269984665640564039457584007913129639936 by decide +kernel, show (pC : Int) = 57896044618658097711785492504343953926634992332820282019728792003956564819949 from rfl]
      omega
    rw [h4, Int.sub_mul_emod_self_left, Int.mul_emod, ha.val, hb.val] at c3
    have h5 : ((fmul x y : Nat) : Int) = (x : Int) * (y : Int) % (pC : Int) := by unfold fmul; rw [Int.natCast_emod, Int.natCast_mul]
    omega
  rw [← hz]
  exact c2
end Go.Proofs.YtdgapijgdbhlfaaDoor
