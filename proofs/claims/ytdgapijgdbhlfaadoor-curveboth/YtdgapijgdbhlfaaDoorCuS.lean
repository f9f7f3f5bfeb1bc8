/- Limbs of 51 bits: carries, folds and products, plainly. -/
import Derived.Test.YtdgapijgdbhlfaaDoorKp
namespace Go.Proofs.YtdgapijgdbhlfaaDoor
open Go Go.RowKit

/-- The carry: the limbs behind i rounds, and what goes on. -/
def cyTo (L : List Nat) : Nat → List Nat × Nat
  | 0 => (L, 0)
  | i + 1 => ((cyTo L i).1.set i (((cyTo L i).2 + (cyTo L i).1.getD i 0) % 2251799813685248), ((cyTo L i).2 + (cyTo L i).1.getD i 0) / 2251799813685248)
theorem cyTo_length (L : List Nat) (i : Nat) : (cyTo L i).1.length = L.length := by
  induction i with
  | zero => rfl
  | succ i ih => simp [cyTo, ih]
theorem cyTo_off (L : List Nat) (i j : Nat) (h : i ≤ j) : (cyTo L i).1.getD j 0 = L.getD j 0 := by
  induction i with
  | zero => rfl
  | succ i ih =>
    simp only [cyTo, List.getD_eq_getElem?_getD]
    rw [List.getElem?_set_ne (by omega), ← List.getD_eq_getElem?_getD, ih (by omega), List.getD_eq_getElem?_getD]
theorem cyTo_small (L : List Nat) (h : ∀ i, i < 5 → L.getD i 0 ≤ 1152921504606846976) (i : Nat) (hi : i < 5) : (cyTo L i).2 ≤ 1024 ∧ (cyTo L i).1.getD i 0 ≤ 1152921504606846976 := by
  refine ⟨?_, by rw [cyTo_off L i i (Nat.le_refl _)]; exact h i hi⟩
  induction i with
  | zero => simp [cyTo]
  | succ i ih =>
    have h1 := ih (by omega)
    have h2 : (cyTo L i).1.getD i 0 ≤ 1152921504606846976 := by rw [cyTo_off L i i (Nat.le_refl _)]; exact h i (by omega)
    simp only [cyTo]
    omega
theorem mask51 (s : Nat) (hs : s ≤ 18446744073709551615) : bits BinOp.and IntKind.u64 (s : Int) 2251799813685247 = ((s % 2251799813685248 : Nat) : Int) := by
  have := u64_and_nat s 2251799813685247 (by omega) (by omega)
  rw [show ((2251799813685247 : Nat) : Int) = 2251799813685247 from rfl] at this
  rw [this, show (2251799813685247 : Nat) = 2 ^ 51 - 1 from rfl, Nat.and_two_pow_sub_one_eq_mod]
def addTo (L M : List Nat) : Nat → List Nat
  | 0 => L
  | i + 1 => (addTo L M i).set i (L.getD i 0 + M.getD i 0)
theorem addTo_length (L M : List Nat) (i : Nat) : (addTo L M i).length = L.length := by
  induction i with
  | zero => rfl
  | succ i ih => simp [addTo, ih]
theorem addTo_off (L M : List Nat) (i j : Nat) (h : i ≤ j) : (addTo L M i).getD j 0 = L.getD j 0 := by
  induction i with
  | zero => rfl
  | succ i ih =>
    simp only [addTo, List.getD_eq_getElem?_getD]
    rw [List.getElem?_set_ne (by omega), ← List.getD_eq_getElem?_getD, ih (by omega), List.getD_eq_getElem?_getD]
theorem getD_set (P : List Nat) (k x l : Nat) : (P.set k x).getD l 0 = if l = k ∧ k < P.length then x else P.getD l 0 := by
  simp only [List.getD_eq_getElem?_getD, List.getElem?_set]
  by_cases h : k = l
  · subst h
    by_cases h2 : k < P.length
    · simp [h2]
    · rw [if_pos rfl, if_neg h2, if_neg (fun h3 => h2 h3.2), List.getElem?_eq_none (by omega)]
  · rw [if_neg h, if_neg (fun h3 => h h3.1.symm)]
theorem addTo_on (L M : List Nat) (i j : Nat) (h : j < i) (hl : j < L.length) : (addTo L M i).getD j 0 = L.getD j 0 + M.getD j 0 := by
  induction i with
  | zero => omega
  | succ i ih =>
    rw [addTo, getD_set]
    split
    · rename_i e; rw [e.1]
    · exact ih (by rename_i e; rw [addTo_length] at e; omega)
/-- What foldTop leaves. -/
def foldL (L : List Nat) : List Nat := (cyTo L 5).1.set 0 ((cyTo L 5).1.getD 0 0 + 19 * (cyTo L 5).2)
theorem foldL_length (L : List Nat) : (foldL L).length = L.length := by simp [foldL, cyTo_length]
theorem list5 {L : List Nat} (h : L.length = 5) : ∃ a b c d e, L = [a, b, c, d, e] := by
  match L, h with
  | [a, b, c, d, e], _ => exact ⟨a, b, c, d, e, rfl⟩
/-- What five limbs are worth. -/
def V5 (L : List Nat) : Nat := L.getD 0 0 + 2251799813685248 * L.getD 1 0 + 5070602400912917605986812821504 * L.getD 2 0 + 11417981541647679048466287755595961091061972992 * L.getD 3 0 + 25711008708143844408671393477458601640355247900524685364822016 * L.getD 4 0
theorem V5_list (a b c d e : Nat) : V5 [a, b, c, d, e] = a + 2251799813685248 * b + 5070602400912917605986812821504 * c + 11417981541647679048466287755595961091061972992 * d + 25711008708143844408671393477458601640355247900524685364822016 * e := rfl
/-- 2^255 - 19. -/
def pC : Nat := 57896044618658097711785492504343953926634992332820282019728792003956564819949
theorem cy_list (a b c d e : Nat) : ∃ a' b' c' d' e' o, cyTo [a, b, c, d, e] 5 = ([a', b', c', d', e'], o) ∧ a' ≤ 2251799813685247 ∧ b' ≤ 2251799813685247 ∧ c' ≤ 2251799813685247 ∧ d' ≤ 2251799813685247 ∧ e' ≤ 2251799813685247 ∧
    V5 [a', b', c', d', e'] + 57896044618658097711785492504343953926634992332820282019728792003956564819968 * o = V5 [a, b, c, d, e] := by
  refine ⟨(0 + a) % 2251799813685248, ((0 + a) / 2251799813685248 + b) % 2251799813685248, (((0 + a) / 2251799813685248 + b) / 2251799813685248 + c) % 2251799813685248, ((((0 + a) / 2251799813685248 + b) / 2251799813685248 + c) / 2251799813685248 + d) % 2251799813685248, (((((0 + a) / 2251799813685248 + b) / 2251799813685248 + c) / 2251799813685248 + d) / 2251799813685248 + e) % 2251799813685248, (((((0 + a) / 2251799813685248 + b) / 2251799813685248 + c) / 2251799813685248 + d) / 2251799813685248 + e) / 2251799813685248, rfl, ?_, ?_, ?_, ?_, ?_, ?_⟩
  · omega
  · omega
  · omega
  · omega
  · omega
  · rw [V5_list, V5_list]
    obtain ⟨x1, h1⟩ : ∃ x, x = (0 + a) / 2251799813685248 := ⟨_, rfl⟩
    rw [← h1]
    obtain ⟨x2, h2⟩ : ∃ x, x = (x1 + b) / 2251799813685248 := ⟨_, rfl⟩
    rw [← h2]
    obtain ⟨x3, h3⟩ : ∃ x, x = (x2 + c) / 2251799813685248 := ⟨_, rfl⟩
    rw [← h3]
    obtain ⟨x4, h4⟩ : ∃ x, x = (x3 + d) / 2251799813685248 := ⟨_, rfl⟩
    rw [← h4]
    omega
/-- Limbs as they stand between two reckonings, worth a. -/
structure Tm (L : List Nat) (a : Nat) : Prop where
  len : L.length = 5
  low : L.getD 0 0 ≤ 2251799813685285
  rest : ∀ i, 0 < i → L.getD i 0 ≤ 2251799813685247
  val : V5 L % pC = a
theorem Tm.all {L : List Nat} {a : Nat} (h : Tm L a) (i : Nat) : L.getD i 0 ≤ 2251799813685285 := by
  by_cases hi : i = 0
  · subst hi; exact h.low
  · have := h.rest i (by omega); omega
theorem Tm.lt {L : List Nat} {a : Nat} (h : Tm L a) : a < pC := by rw [← h.val]; exact Nat.mod_lt _ (by decide)
/-- A fold of what is below three times 2^255. -/
theorem fold_tm {L : List Nat} (hL : L.length = 5) (hb : V5 L < 173688133855974293135356477513031861779904976998460846059186376011869694459904) :
    (cyTo L 5).2 ≤ 2 ∧ (cyTo L 5).1.getD 0 0 ≤ 2251799813685247 ∧ Tm (foldL L) (V5 L % pC) := by
  obtain ⟨a, b, c, d, e, rfl⟩ := list5 hL
  obtain ⟨a', b', c', d', e', o, h, h1, h2, h3, h4, h5, h6⟩ := cy_list a b c d e
  have hf : foldL [a, b, c, d, e] = [a' + 19 * o, b', c', d', e'] := by
    unfold foldL
    rw [h]
    rfl
  have ho : o ≤ 2 := by rw [V5_list] at h6; omega
  refine ⟨by rw [h]; exact ho, by rw [h]; exact h1, ?_⟩
  rw [hf]
  refine ⟨rfl, ?_, ?_, ?_⟩
  · show a' + 19 * o ≤ _; omega
  · intro i hi
    match i, hi with
    | 1, _ => exact h2
    | 2, _ => exact h3
    | 3, _ => exact h4
    | 4, _ => exact h5
    | k + 5, _ => simp
  · have e : V5 [a, b, c, d, e] = V5 [a' + 19 * o, b', c', d', e'] + pC * o := by
      rw [← h6, V5_list, V5_list]; unfold pC; omega
    rw [e, Nat.add_mul_mod_self_left]
theorem V5_small {L : List Nat} {a : Nat} (h : Tm L a) : V5 L ≤ 57896044618658097711785492504343953926634992332820282019728792003956564820005 := by
  have h0 := h.low
  have h1 := h.rest 1 (by omega)
  have h2 := h.rest 2 (by omega)
  have h3 := h.rest 3 (by omega)
  have h4 := h.rest 4 (by omega)
  unfold V5
  omega
/-- The sum. -/
theorem plus_tm {L M : List Nat} {a b : Nat} (h : Tm L a) (k : Tm M b) : (cyTo (addTo L M 5) 5).2 ≤ 2 ∧ (cyTo (addTo L M 5) 5).1.getD 0 0 ≤ 2251799813685247 ∧ Tm (foldL (addTo L M 5)) ((a + b) % pC) := by
  have hl : (addTo L M 5).length = 5 := by rw [addTo_length]; exact h.len
  have hv : V5 (addTo L M 5) = V5 L + V5 M := by
    have hL := h.len
    unfold V5
    rw [addTo_on L M 5 0 (by omega) (by omega), addTo_on L M 5 1 (by omega) (by omega), addTo_on L M 5 2 (by omega) (by omega), addTo_on L M 5 3 (by omega) (by omega), addTo_on L M 5 4 (by omega) (by omega)]
    omega
  have h1 := V5_small h
  have h2 := V5_small k
  obtain ⟨f1, f2, f3⟩ := fold_tm hl (by rw [hv]; omega)
  refine ⟨f1, f2, ?_⟩
  rw [← h.val, ← k.val, ← Nat.add_mod, ← hv]
  exact f3
/-- Twice 2^255 - 19, limb by limb. -/
def tpL : List Nat := [4503599627370458, 4503599627370494, 4503599627370494, 4503599627370494, 4503599627370494]
theorem tpL_lt (i : Nat) (h : i < 5) : 4503599627370458 ≤ tpL.getD i 0 ∧ tpL.getD i 0 ≤ 4503599627370494 := by
  match i, h with
  | 0, _ | 1, _ | 2, _ | 3, _ | 4, _ => decide
def subTo (L M : List Nat) : Nat → List Nat
  | 0 => L
  | i + 1 => (subTo L M i).set i (L.getD i 0 + (tpL.getD i 0 - M.getD i 0))
theorem subTo_length (L M : List Nat) (i : Nat) : (subTo L M i).length = L.length := by
  induction i with
  | zero => rfl
  | succ i ih => simp [subTo, ih]
theorem subTo_off (L M : List Nat) (i j : Nat) (h : i ≤ j) : (subTo L M i).getD j 0 = L.getD j 0 := by
  induction i with
  | zero => rfl
  | succ i ih =>
    simp only [subTo, List.getD_eq_getElem?_getD]
    rw [List.getElem?_set_ne (by omega), ← List.getD_eq_getElem?_getD, ih (by omega), List.getD_eq_getElem?_getD]
theorem subTo_on (L M : List Nat) (i j : Nat) (h : j < i) (hl : j < L.length) : (subTo L M i).getD j 0 = L.getD j 0 + (tpL.getD j 0 - M.getD j 0) := by
  induction i with
  | zero => omega
  | succ i ih =>
    rw [subTo, getD_set]
    split
    · rename_i e; rw [e.1]
    · exact ih (by rename_i e; rw [subTo_length] at e; omega)
/-- The difference. -/
theorem minus_tm {L M : List Nat} {a b : Nat} (h : Tm L a) (k : Tm M b) : (cyTo (subTo L M 5) 5).2 ≤ 2 ∧ (cyTo (subTo L M 5) 5).1.getD 0 0 ≤ 2251799813685247 ∧ Tm (foldL (subTo L M 5)) ((a + (pC - b)) % pC) := by
  have hl : (subTo L M 5).length = 5 := by rw [subTo_length]; exact h.len
  have hv : V5 (subTo L M 5) + V5 M = V5 L + pC * 2 := by
    have hL := h.len
    have k0 := k.low
    have k1 := k.rest 1 (by omega)
    have k2 := k.rest 2 (by omega)
    have k3 := k.rest 3 (by omega)
    have k4 := k.rest 4 (by omega)
    unfold V5
    rw [subTo_on L M 5 0 (by omega) (by omega), subTo_on L M 5 1 (by omega) (by omega), subTo_on L M 5 2 (by omega) (by omega), subTo_on L M 5 3 (by omega) (by omega), subTo_on L M 5 4 (by omega) (by omega)]
    rw [show tpL.getD 0 0 = 4503599627370458 from rfl, show tpL.getD 1 0 = 4503599627370494 from rfl, show tpL.getD 2 0 = 4503599627370494 from rfl, show tpL.getD 3 0 = 4503599627370494 from rfl, show tpL.getD 4 0 = 4503599627370494 from rfl]
    unfold pC
    omega
  have h1 := V5_small h
  have hp : pC = 57896044618658097711785492504343953926634992332820282019728792003956564819949 := rfl
  obtain ⟨f1, f2, f3⟩ := fold_tm hl (by omega)
  refine ⟨f1, f2, ?_⟩
  have hb := k.lt
  have hm : V5 (subTo L M 5) % pC = (a + (pC - b)) % pC := by
    have e1 : (V5 (subTo L M 5) + V5 M) % pC = V5 L % pC := by rw [hv, Nat.add_mul_mod_self_left]
    rw [Nat.add_mod, k.val, h.val] at e1
    have hx := Nat.mod_lt (V5 (subTo L M 5)) (show 0 < pC by decide)
    have ha := h.lt
    generalize V5 (subTo L M 5) % pC = x at e1 hx ⊢
    unfold pC at e1 hx ha hb ⊢
    omega
  rw [← hm]
  exact f3
/-- One of the five products that make limb k. -/
def tm (x y : List Nat) (k i : Nat) : Nat := if i ≤ k then x.getD i 0 * y.getD (k - i) 0 else x.getD i 0 * (19 * y.getD (k + 5 - i) 0)
def tmS (x y : List Nat) (k : Nat) : Nat → Nat
  | 0 => 0
  | n + 1 => tmS x y k n + tm x y k n
def prL (x y : List Nat) : Nat → List Nat × Nat
  | 0 => ([0, 0, 0, 0, 0], 0)
  | k + 1 => ((prL x y k).1.set k (((prL x y k).2 + tmS x y k 5) % 2251799813685248), ((prL x y k).2 + tmS x y k 5) / 2251799813685248)
theorem prL_length (x y : List Nat) (k : Nat) : (prL x y k).1.length = 5 := by
  induction k with
  | zero => rfl
  | succ k ih => simp [prL, ih]
theorem tm_le {x y : List Nat} (hx : ∀ i, x.getD i 0 ≤ 2251799813685285) (hy : ∀ i, y.getD i 0 ≤ 2251799813685285) (k i : Nat) : tm x y k i ≤ 100000000000000000000000000000000 := by
  unfold tm
  split
  · exact Nat.le_trans (Nat.mul_le_mul (hx i) (hy _)) (by decide)
  · exact Nat.le_trans (Nat.mul_le_mul (hx i) (Nat.mul_le_mul (Nat.le_refl 19) (hy _))) (by decide)
theorem tmS_le {x y : List Nat} (hx : ∀ i, x.getD i 0 ≤ 2251799813685285) (hy : ∀ i, y.getD i 0 ≤ 2251799813685285) (k n : Nat) (hn : n ≤ 5) : tmS x y k n ≤ n * 100000000000000000000000000000000 := by
  induction n with
  | zero => simp [tmS]
  | succ n ih =>
    have := ih (by omega)
    have := tm_le hx hy k n
    rw [tmS]
    omega
theorem prL_small {x y : List Nat} (hx : ∀ i, x.getD i 0 ≤ 2251799813685285) (hy : ∀ i, y.getD i 0 ≤ 2251799813685285) (k : Nat) : (prL x y k).2 ≤ 300000000000000000 := by
  induction k with
  | zero => simp [prL]
  | succ k ih =>
    have := tmS_le hx hy k 5 (by omega)
    show ((prL x y k).2 + tmS x y k 5) / _ ≤ _
    omega
theorem row5 (x m0 m1 m2 m3 m4 : Nat) : x * (m0 + 2251799813685248 * m1 + 5070602400912917605986812821504 * m2 + 11417981541647679048466287755595961091061972992 * m3 + 25711008708143844408671393477458601640355247900524685364822016 * m4) = x * m0 + 2251799813685248 * (x * m1) + 5070602400912917605986812821504 * (x * m2) + 11417981541647679048466287755595961091061972992 * (x * m3) + 25711008708143844408671393477458601640355247900524685364822016 * (x * m4) := by
  simp only [Nat.mul_add, Nat.mul_left_comm x]
theorem rows5 (n0 n1 n2 n3 n4 M : Nat) : (n0 + 2251799813685248 * n1 + 5070602400912917605986812821504 * n2 + 11417981541647679048466287755595961091061972992 * n3 + 25711008708143844408671393477458601640355247900524685364822016 * n4) * M = n0 * M + 2251799813685248 * (n1 * M) + 5070602400912917605986812821504 * (n2 * M) + 11417981541647679048466287755595961091061972992 * (n3 * M) + 25711008708143844408671393477458601640355247900524685364822016 * (n4 * M) := by
  simp only [Nat.add_mul, Nat.mul_assoc]
/-- What the carried product is worth. -/
theorem prL_val (x y : List Nat) : V5 (prL x y 5).1 + 57896044618658097711785492504343953926634992332820282019728792003956564819968 * (prL x y 5).2 = tmS x y 0 5 + 2251799813685248 * tmS x y 1 5 + 5070602400912917605986812821504 * tmS x y 2 5 + 11417981541647679048466287755595961091061972992 * tmS x y 3 5 + 25711008708143844408671393477458601640355247900524685364822016 * tmS x y 4 5 := by
  simp only [prL]
  generalize tmS x y 0 5 = t0
  generalize tmS x y 1 5 = t1
  generalize tmS x y 2 5 = t2
  generalize tmS x y 3 5 = t3
  generalize tmS x y 4 5 = t4
  show V5 [(0 + t0) % 2251799813685248, _, _, _, _] + _ = _
  rw [V5_list]
  obtain ⟨x1, h1⟩ : ∃ x, x = (0 + t0) / 2251799813685248 := ⟨_, rfl⟩
  rw [← h1]
  obtain ⟨x2, h2⟩ : ∃ x, x = (x1 + t1) / 2251799813685248 := ⟨_, rfl⟩
  rw [← h2]
  obtain ⟨x3, h3⟩ : ∃ x, x = (x2 + t2) / 2251799813685248 := ⟨_, rfl⟩
  rw [← h3]
  obtain ⟨x4, h4⟩ : ∃ x, x = (x3 + t3) / 2251799813685248 := ⟨_, rfl⟩
  rw [← h4]
  omega
theorem prL_digit (x y : List Nat) (i : Nat) : (prL x y 5).1.getD i 0 ≤ 2251799813685247 := by
  have h : ∀ k i, (prL x y k).1.getD i 0 ≤ 2251799813685247 := by
    intro k
    induction k with
    | zero =>
      intro i
      match i with
      | 0 | 1 | 2 | 3 | 4 => simp [prL]
      | k + 5 => simp [prL]
    | succ k ih =>
      intro i
      rw [prL, getD_set]
      split
      · omega
      · exact ih i
  exact h 5 i
/-- What 'times' folds at last. -/
def preL (x y : List Nat) : List Nat := (prL x y 5).1.set 0 ((prL x y 5).1.getD 0 0 + 19 * (prL x y 5).2)
theorem mul_val {x y : List Nat} (hn : x.length = 5) (hm : y.length = 5) : ∃ Q, tmS x y 0 5 + 2251799813685248 * tmS x y 1 5 + 5070602400912917605986812821504 * tmS x y 2 5 + 11417981541647679048466287755595961091061972992 * tmS x y 3 5 + 25711008708143844408671393477458601640355247900524685364822016 * tmS x y 4 5 + pC * Q = V5 x * V5 y := by
  obtain ⟨n0, n1, n2, n3, n4, rfl⟩ := list5 hn
  obtain ⟨m0, m1, m2, m3, m4, rfl⟩ := list5 hm
  have t0 : tmS [n0, n1, n2, n3, n4] [m0, m1, m2, m3, m4] 0 5 = 0 + n0 * m0 + n1 * (19 * m4) + n2 * (19 * m3) + n3 * (19 * m2) + n4 * (19 * m1) := rfl
  have t1 : tmS [n0, n1, n2, n3, n4] [m0, m1, m2, m3, m4] 1 5 = 0 + n0 * m1 + n1 * m0 + n2 * (19 * m4) + n3 * (19 * m3) + n4 * (19 * m2) := rfl
  have t2 : tmS [n0, n1, n2, n3, n4] [m0, m1, m2, m3, m4] 2 5 = 0 + n0 * m2 + n1 * m1 + n2 * m0 + n3 * (19 * m4) + n4 * (19 * m3) := rfl
  have t3 : tmS [n0, n1, n2, n3, n4] [m0, m1, m2, m3, m4] 3 5 = 0 + n0 * m3 + n1 * m2 + n2 * m1 + n3 * m0 + n4 * (19 * m4) := rfl
  have t4 : tmS [n0, n1, n2, n3, n4] [m0, m1, m2, m3, m4] 4 5 = 0 + n0 * m4 + n1 * m3 + n2 * m2 + n3 * m1 + n4 * m0 := rfl
  rw [t0, t1, t2, t3, t4, V5_list, V5_list, rows5, row5 n0, row5 n1, row5 n2, row5 n3, row5 n4]
  simp only [Nat.mul_left_comm _ 19]
  refine ⟨n1 * m4 + n2 * m3 + n3 * m2 + n4 * m1 + 2251799813685248 * (n2 * m4 + n3 * m3 + n4 * m2) + 5070602400912917605986812821504 * (n3 * m4 + n4 * m3) + 11417981541647679048466287755595961091061972992 * (n4 * m4), ?_⟩
  unfold pC
  omega
theorem times_tm {L M : List Nat} {a b : Nat} (h : Tm L a) (k : Tm M b) :
    (∀ i, i < 5 → (preL L M).getD i 0 ≤ 1152921504606846976) ∧ (preL L M).length = 5 ∧ (cyTo (preL L M) 5).2 ≤ 2 ∧ (cyTo (preL L M) 5).1.getD 0 0 ≤ 2251799813685247 ∧ (prL L M 5).2 ≤ 55000000000000000 ∧ Tm (foldL (preL L M)) (a * b % pC) := by
  have hl : (preL L M).length = 5 := by rw [preL, List.length_set, prL_length]
  have hd := prL_digit L M
  have hv := prL_val L M
  obtain ⟨Q, hQ⟩ := mul_val h.len k.len
  have t4 : tmS L M 4 5 ≤ 5 * 5070602400914000000000000000000 := by
    have hp : ∀ i j, L.getD i 0 * M.getD j 0 ≤ 5070602400914000000000000000000 := fun i j => Nat.le_trans (Nat.mul_le_mul (h.all i) (k.all j)) (by decide)
    have e : tmS L M 4 5 = 0 + L.getD 0 0 * M.getD 4 0 + L.getD 1 0 * M.getD 3 0 + L.getD 2 0 * M.getD 2 0 + L.getD 3 0 * M.getD 1 0 + L.getD 4 0 * M.getD 0 0 := rfl
    have := hp 0 4
    have := hp 1 3
    have := hp 2 2
    have := hp 3 1
    have := hp 4 0
    omega
  have ho : (prL L M 5).2 ≤ 55000000000000000 := by
    have h4 := prL_small h.all k.all 4
    show ((prL L M 4).2 + tmS L M 4 5) / 2251799813685248 ≤ _
    omega
  have hp5 := prL_length L M 5
  have e0 : (preL L M).getD 0 0 = (prL L M 5).1.getD 0 0 + 19 * (prL L M 5).2 := by rw [preL, getD_set, if_pos ⟨rfl, by omega⟩]
  have ei : ∀ i, 0 < i → (preL L M).getD i 0 = (prL L M 5).1.getD i 0 := by intro i hi; rw [preL, getD_set, if_neg (by omega)]
  have hV : V5 (preL L M) = V5 (prL L M 5).1 + 19 * (prL L M 5).2 := by
    unfold V5
    rw [e0, ei 1 (by omega), ei 2 (by omega), ei 3 (by omega), ei 4 (by omega)]
    omega
  have hVs : V5 (prL L M 5).1 ≤ 57896044618658097711785492504343953926634992332820282019728792003956564819967 := by
    have := hd 0
    have := hd 1
    have := hd 2
    have := hd 3
    have := hd 4
    unfold V5
    omega
  obtain ⟨f1, f2, f3⟩ := fold_tm hl (by omega)
  refine ⟨?_, hl, f1, f2, ho, ?_⟩
  · intro i hi
    by_cases h0 : i = 0
    · subst h0; rw [e0]; have := hd 0; omega
    · rw [ei i (by omega)]; have := hd i; omega
  · have e : V5 L * V5 M = V5 (preL L M) + pC * ((prL L M 5).2 + Q) := by
      rw [hV, Nat.mul_add, ← hQ]
      have : pC * (prL L M 5).2 + 19 * (prL L M 5).2 = 57896044618658097711785492504343953926634992332820282019728792003956564819968 * (prL L M 5).2 := by unfold pC; omega
      omega
    have e2 : V5 (preL L M) % pC = a * b % pC := by
      rw [← h.val, ← k.val, ← Nat.mul_mod, e, Nat.add_mul_mod_self_left]
    rw [← e2]
    exact f3
/-- The product. -/
def timesL (x y : List Nat) : List Nat := foldL (preL x y)
end Go.Proofs.YtdgapijgdbhlfaaDoor
