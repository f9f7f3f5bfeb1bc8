/- curve: limbs, sums, differences, products. -/
import Derived.Test.YtookapglookphaaDoorXaA
import Derived.Deep.RegionWith
import Derived.Deep.Cut
import Derived.Deep.CutRange
import Derived.Lib.Mul64
import Derived.Laws.Bits64b
import Derived.Laws.Externs
import Derived.Deep.Quiet
import Derived.Deep.MidRow
namespace Go.Proofs.YtookapglookphaaDoor
section
open Go Go.RowKit

/-- The carry: the limbs behind i rounds, and what goes on. -/
def cyTo (L : List Nat) : Nat → List Nat × Nat
  | 0 => (L, 0)
  | i + 1 => ((cyTo L i).1.set i (((cyTo L i).2 + (cyTo L i).1.getD i 0) % 2251799813685248), ((cyTo L i).2 + (cyTo L i).1.getD i 0) / 2251799813685248)
theorem cyTo_length (L : List Nat) (i : Nat) : (cyTo L i).1.length = L.length := by
  induction i with
  | zero => rfl
  | succ i ih => simp [cyTo, ih]
theorem cyTo_off (L : List Nat) (i j : Nat) (h : i ≤ j) : (cyTo L i).1.getD j 0 = L.getD j 0 := by
  induction i with
  | zero => rfl
  | succ i ih =>
    simp only [cyTo, List.getD_eq_getElem?_getD]
    rw [List.getElem?_set_ne (by omega), ← List.getD_eq_getElem?_getD, ih (by omega), List.getD_eq_getElem?_getD]
theorem cyTo_small (L : List Nat) (h : ∀ i, i < 5 → L.getD i 0 ≤ 1152921504606846976) (i : Nat) (hi : i < 5) : (cyTo L i).2 ≤ 1024 ∧ (cyTo L i).1.getD i 0 ≤ 1152921504606846976 := by
  refine ⟨?_, by rw [cyTo_off L i i (Nat.le_refl _)]; exact h i hi⟩
  induction i with
  | zero => simp [cyTo]
  | succ i ih =>
    have h1 := ih (by omega)
    have h2 : (cyTo L i).1.getD i 0 ≤ 1152921504606846976 := by rw [cyTo_off L i i (Nat.le_refl _)]; exact h i (by omega)
    simp only [cyTo]
    omega
theorem mask51 (s : Nat) (hs : s ≤ 18446744073709551615) : bits BinOp.and IntKind.u64 (s : Int) 2251799813685247 = ((s % 2251799813685248 : Nat) : Int) := by
  have := u64_and_nat s 2251799813685247 (by omega) (by omega)
  rw [show ((2251799813685247 : Nat) : Int) = 2251799813685247 from rfl] at this
  rw [this, show (2251799813685247 : Nat) = 2 ^ 51 - 1 from rfl, Nat.and_two_pow_sub_one_eq_mod]
def addTo (L M : List Nat) : Nat → List Nat
  | 0 => L
  | i + 1 => (addTo L M i).set i (L.getD i 0 + M.getD i 0)
theorem addTo_length (L M : List Nat) (i : Nat) : (addTo L M i).length = L.length := by
  induction i with
  | zero => rfl
  | succ i ih => simp [addTo, ih]
theorem addTo_off (L M : List Nat) (i j : Nat) (h : i ≤ j) : (addTo L M i).getD j 0 = L.getD j 0 := by
  induction i with
  | zero => rfl
  | succ i ih =>
    simp only [addTo, List.getD_eq_getElem?_getD]
    rw [List.getElem?_set_ne (by omega), ← List.getD_eq_getElem?_getD, ih (by omega), List.getD_eq_getElem?_getD]
theorem getD_set (P : List Nat) (k x l : Nat) : (P.set k x).getD l 0 = if l = k ∧ k < P.length then x else P.getD l 0 := by
  simp only [List.getD_eq_getElem?_getD, List.getElem?_set]
  by_cases h : k = l
  · subst h
    by_cases h2 : k < P.length
    · simp [h2]
    · rw [if_pos rfl, if_neg h2, if_neg (fun h3 => h2 h3.2), List.getElem?_eq_none (by omega)]
  · rw [if_neg h, if_neg (fun h3 => h h3.1.symm)]
theorem addTo_on (L M : List Nat) (i j : Nat) (h : j < i) (hl : j < L.length) : (addTo L M i).getD j 0 = L.getD j 0 + M.getD j 0 := by
  induction i with
  | zero => omega
  | succ i ih =>
    rw [addTo, getD_set]
    split
    · rename_i e; rw [e.1]
    · exact ih (by rename_i e; rw [addTo_length] at e; omega)
/-- What foldTop leaves. -/
def foldL (L : List Nat) : List Nat := (cyTo L 5).1.set 0 ((cyTo L 5).1.getD 0 0 + 19 * (cyTo L 5).2)
theorem foldL_length (L : List Nat) : (foldL L).length = L.length := by simp [foldL, cyTo_length]
theorem list5 {L : List Nat} (h : L.length = 5) : ∃ a b c d e, L = [a, b, c, d, e] := by
  match L, h with
  | [a, b, c, d, e], _ => exact ⟨a, b, c, d, e, rfl⟩
/-- What five limbs are worth. -/
def V5 (L : List Nat) : Nat := L.getD 0 0 + 2251799813685248 * L.getD 1 0 + 5070602400912917605986812821504 * L.getD 2 0 + 11417981541647679048466287755595961091061972992 * L.getD 3 0 + 25711008708143844408671393477458601640355247900524685364822016 * L.getD 4 0
theorem V5_list (a b c d e : Nat) : V5 [a, b, c, d, e] = a + 2251799813685248 * b + 5070602400912917605986812821504 * c + 11417981541647679048466287755595961091061972992 * d + 25711008708143844408671393477458601640355247900524685364822016 * e := rfl
/-- 2^255 - 19. -/
def pC : Nat := 57896044618658097711785492504343953926634992332820282019728792003956564819949
theorem cy_list (a b c d e : Nat) : ∃ a' b' c' d' e' o, cyTo [a, b, c, d, e] 5 = ([a', b', c', d', e'], o) ∧ a' ≤ 2251799813685247 ∧ b' ≤ 2251799813685247 ∧ c' ≤ 2251799813685247 ∧ d' ≤ 2251799813685247 ∧ e' ≤ 2251799813685247 ∧
    V5 [a', b', c', d', e'] + 57896044618658097711785492504343953926634992332820282019728792003956564819968 * o = V5 [a, b, c, d, e] := by
  refine ⟨(0 + a) % 2251799813685248, ((0 + a) / 2251799813685248 + b) % 2251799813685248, (((0 + a) / 2251799813685248 + b) / 2251799813685248 + c) % 2251799813685248, ((((0 + a) / 2251799813685248 + b) / 2251799813685248 + c) / 2251799813685248 + d) % 2251799813685248, (((((0 + a) / 2251799813685248 + b) / 2251799813685248 + c) / 2251799813685248 + d) / 2251799813685248 + e) % 2251799813685248, (((((0 + a) / 2251799813685248 + b) / 2251799813685248 + c) / 2251799813685248 + d) / 2251799813685248 + e) / 2251799813685248, rfl, ?_, ?_, ?_, ?_, ?_, ?_⟩
  · omega
  · omega
  · omega
  · omega
  · omega
  · rw [V5_list, V5_list]
    obtain ⟨x1, h1⟩ : ∃ x, x = (0 + a) / 2251799813685248 := ⟨_, rfl⟩
    rw [← h1]
    obtain ⟨x2, h2⟩ : ∃ x, x = (x1 + b) / 2251799813685248 := ⟨_, rfl⟩
    rw [← h2]
    obtain ⟨x3, h3⟩ : ∃ x, x = (x2 + c) / 2251799813685248 := ⟨_, rfl⟩
    rw [← h3]
    obtain ⟨x4, h4⟩ : ∃ x, x = (x3 + d) / 2251799813685248 := ⟨_, rfl⟩
    rw [← h4]
    omega
/-- Limbs as they stand between two reckonings, worth a. -/
structure Tm (L : List Nat) (a : Nat) : Prop where
  len : L.length = 5
  low : L.getD 0 0 ≤ 2251799813685285
  rest : ∀ i, 0 < i → L.getD i 0 ≤ 2251799813685247
  val : V5 L % pC = a
theorem Tm.all {L : List Nat} {a : Nat} (h : Tm L a) (i : Nat) : L.getD i 0 ≤ 2251799813685285 := by
  by_cases hi : i = 0
  · subst hi; exact h.low
  · have := h.rest i (by omega); omega
theorem Tm.lt {L : List Nat} {a : Nat} (h : Tm L a) : a < pC := by rw [← h.val]; exact Nat.mod_lt _ (by decide)
/-- A fold of what is below three times 2^255. -/
theorem fold_tm {L : List Nat} (hL : L.length = 5) (hb : V5 L < 173688133855974293135356477513031861779904976998460846059186376011869694459904) :
    (cyTo L 5).2 ≤ 2 ∧ (cyTo L 5).1.getD 0 0 ≤ 2251799813685247 ∧ Tm (foldL L) (V5 L % pC) := by
  obtain ⟨a, b, c, d, e, rfl⟩ := list5 hL
  obtain ⟨a', b', c', d', e', o, h, h1, h2, h3, h4, h5, h6⟩ := cy_list a b c d e
  have hf : foldL [a, b, c, d, e] = [a' + 19 * o, b', c', d', e'] := by
    unfold foldL
    rw [h]
    rfl
  have ho : o ≤ 2 := by rw [V5_list] at h6; omega
  refine ⟨by rw [h]; exact ho, by rw [h]; exact h1, ?_⟩
  rw [hf]
  refine ⟨rfl, ?_, ?_, ?_⟩
  · show a' + 19 * o ≤ _; omega
  · intro i hi
    match i, hi with
    | 1, _ => exact h2
    | 2, _ => exact h3
    | 3, _ => exact h4
    | 4, _ => exact h5
    | k + 5, _ => simp
  · have e : V5 [a, b, c, d, e] = V5 [a' + 19 * o, b', c', d', e'] + pC * o := by
      rw [← h6, V5_list, V5_list]; unfold pC; omega
    rw [e, Nat.add_mul_mod_self_left]
theorem V5_small {L : List Nat} {a : Nat} (h : Tm L a) : V5 L ≤ 57896044618658097711785492504343953926634992332820282019728792003956564820005 := by
  have h0 := h.low
  have h1 := h.rest 1 (by omega)
  have h2 := h.rest 2 (by omega)
  have h3 := h.rest 3 (by omega)
  have h4 := h.rest 4 (by omega)
  unfold V5
  omega
/-- The sum. -/
theorem plus_tm {L M : List Nat} {a b : Nat} (h : Tm L a) (k : Tm M b) : (cyTo (addTo L M 5) 5).2 ≤ 2 ∧ (cyTo (addTo L M 5) 5).1.getD 0 0 ≤ 2251799813685247 ∧ Tm (foldL (addTo L M 5)) ((a + b) % pC) := by
  have hl : (addTo L M 5).length = 5 := by rw [addTo_length]; exact h.len
  have hv : V5 (addTo L M 5) = V5 L + V5 M := by
    have hL := h.len
    unfold V5
    rw [addTo_on L M 5 0 (by omega) (by omega), addTo_on L M 5 1 (by omega) (by omega), addTo_on L M 5 2 (by omega) (by omega), addTo_on L M 5 3 (by omega) (by omega), addTo_on L M 5 4 (by omega) (by omega)]
    omega
  have h1 := V5_small h
  have h2 := V5_small k
  obtain ⟨f1, f2, f3⟩ := fold_tm hl (by rw [hv]; omega)
  refine ⟨f1, f2, ?_⟩
  rw [← h.val, ← k.val, ← Nat.add_mod, ← hv]
  exact f3
/-- Twice 2^255 - 19, limb by limb. -/
def tpL : List Nat := [4503599627370458, 4503599627370494, 4503599627370494, 4503599627370494, 4503599627370494]
theorem tpL_lt (i : Nat) (h : i < 5) : 4503599627370458 ≤ tpL.getD i 0 ∧ tpL.getD i 0 ≤ 4503599627370494 := by
  match i, h with
  | 0, _ | 1, _ | 2, _ | 3, _ | 4, _ => decide
def subTo (L M : List Nat) : Nat → List Nat
  | 0 => L
  | i + 1 => (subTo L M i).set i (L.getD i 0 + (tpL.getD i 0 - M.getD i 0))
theorem subTo_length (L M : List Nat) (i : Nat) : (subTo L M i).length = L.length := by
  induction i with
  | zero => rfl
  | succ i ih => simp [subTo, ih]
theorem subTo_off (L M : List Nat) (i j : Nat) (h : i ≤ j) : (subTo L M i).getD j 0 = L.getD j 0 := by
  induction i with
  | zero => rfl
  | succ i ih =>
    simp only [subTo, List.getD_eq_getElem?_getD]
    rw [List.getElem?_set_ne (by omega), ← List.getD_eq_getElem?_getD, ih (by omega), List.getD_eq_getElem?_getD]
theorem subTo_on (L M : List Nat) (i j : Nat) (h : j < i) (hl : j < L.length) : (subTo L M i).getD j 0 = L.getD j 0 + (tpL.getD j 0 - M.getD j 0) := by
  induction i with
  | zero => omega
  | succ i ih =>
    rw [subTo, getD_set]
    split
    · rename_i e; rw [e.1]
    · exact ih (by rename_i e; rw [subTo_length] at e; omega)
/-- The difference. -/
theorem minus_tm {L M : List Nat} {a b : Nat} (h : Tm L a) (k : Tm M b) : (cyTo (subTo L M 5) 5).2 ≤ 2 ∧ (cyTo (subTo L M 5) 5).1.getD 0 0 ≤ 2251799813685247 ∧ Tm (foldL (subTo L M 5)) ((a + (pC - b)) % pC) := by
  have hl : (subTo L M 5).length = 5 := by rw [subTo_length]; exact h.len
  have hv : V5 (subTo L M 5) + V5 M = V5 L + pC * 2 := by
    have hL := h.len
    have k0 := k.low
    have k1 := k.rest 1 (by omega)
    have k2 := k.rest 2 (by omega)
    have k3 := k.rest 3 (by omega)
    have k4 := k.rest 4 (by omega)
    unfold V5
    rw [subTo_on L M 5 0 (by omega) (by omega), subTo_on L M 5 1 (by omega) (by omega), subTo_on L M 5 2 (by omega) (by omega), subTo_on L M 5 3 (by omega) (by omega), subTo_on L M 5 4 (by omega) (by omega)]
    rw [show tpL.getD 0 0 = 4503599627370458 from rfl, show tpL.getD 1 0 = 4503599627370494 from rfl, show tpL.getD 2 0 = 4503599627370494 from rfl, show tpL.getD 3 0 = 4503599627370494 from rfl, show tpL.getD 4 0 = 4503599627370494 from rfl]
    unfold pC
    omega
  have h1 := V5_small h
  have hp : pC = 57896044618658097711785492504343953926634992332820282019728792003956564819949 := rfl
  obtain ⟨f1, f2, f3⟩ := fold_tm hl (by omega)
  refine ⟨f1, f2, ?_⟩
  have hb := k.lt
  have hm : V5 (subTo L M 5) % pC = (a + (pC - b)) % pC := by
    have e1 : (V5 (subTo L M 5) + V5 M) % pC = V5 L % pC := by rw [hv, Nat.add_mul_mod_self_left]
    rw [Nat.add_mod, k.val, h.val] at e1
    have hx := Nat.mod_lt (V5 (subTo L M 5)) (show 0 < pC by decide)
    have ha := h.lt
    generalize V5 (subTo L M 5) % pC = x at e1 hx ⊢
    unfold pC at e1 hx ha hb ⊢
    omega
  rw [← hm]
  exact f3
/-- One of the five products that make limb k. -/
def tm (x y : List Nat) (k i : Nat) : Nat := if i ≤ k then x.getD i 0 * y.getD (k - i) 0 else x.getD i 0 * (19 * y.getD (k + 5 - i) 0)
def tmS (x y : List Nat) (k : Nat) : Nat → Nat
  | 0 => 0
  | n + 1 => tmS x y k n + tm x y k n
def prL (x y : List Nat) : Nat → List Nat × Nat
  | 0 => ([0, 0, 0, 0, 0], 0)
  | k + 1 => ((prL x y k).1.set k (((prL x y k).2 + tmS x y k 5) % 2251799813685248), ((prL x y k).2 + tmS x y k 5) / 2251799813685248)
theorem prL_length (x y : List Nat) (k : Nat) : (prL x y k).1.length = 5 := by
  induction k with
  | zero => rfl
  | succ k ih => simp [prL, ih]
theorem tm_le {x y : List Nat} (hx : ∀ i, x.getD i 0 ≤ 2251799813685285) (hy : ∀ i, y.getD i 0 ≤ 2251799813685285) (k i : Nat) : tm x y k i ≤ 100000000000000000000000000000000 := by
  unfold tm
  split
  · exact Nat.le_trans (Nat.mul_le_mul (hx i) (hy _)) (by decide)
  · exact Nat.le_trans (Nat.mul_le_mul (hx i) (Nat.mul_le_mul (Nat.le_refl 19) (hy _))) (by decide)
theorem tmS_le {x y : List Nat} (hx : ∀ i, x.getD i 0 ≤ 2251799813685285) (hy : ∀ i, y.getD i 0 ≤ 2251799813685285) (k n : Nat) (hn : n ≤ 5) : tmS x y k n ≤ n * 100000000000000000000000000000000 := by
  induction n with
  | zero => simp [tmS]
  | succ n ih =>
    have := ih (by omega)
    have := tm_le hx hy k n
    rw [tmS]
    omega
theorem prL_small {x y : List Nat} (hx : ∀ i, x.getD i 0 ≤ 2251799813685285) (hy : ∀ i, y.getD i 0 ≤ 2251799813685285) (k : Nat) : (prL x y k).2 ≤ 300000000000000000 := by
  induction k with
  | zero => simp [prL]
  | succ k ih =>
    have := tmS_le hx hy k 5 (by omega)
    show ((prL x y k).2 + tmS x y k 5) / _ ≤ _
    omega
theorem row5 (x m0 m1 m2 m3 m4 : Nat) : x * (m0 + 2251799813685248 * m1 + 5070602400912917605986812821504 * m2 + 11417981541647679048466287755595961091061972992 * m3 + 25711008708143844408671393477458601640355247900524685364822016 * m4) = x * m0 + 2251799813685248 * (x * m1) + 5070602400912917605986812821504 * (x * m2) + 11417981541647679048466287755595961091061972992 * (x * m3) + 25711008708143844408671393477458601640355247900524685364822016 * (x * m4) := by
  simp only [Nat.mul_add, Nat.mul_left_comm x]
theorem rows5 (n0 n1 n2 n3 n4 M : Nat) : (n0 + 2251799813685248 * n1 + 5070602400912917605986812821504 * n2 + 11417981541647679048466287755595961091061972992 * n3 + 25711008708143844408671393477458601640355247900524685364822016 * n4) * M = n0 * M + 2251799813685248 * (n1 * M) + 5070602400912917605986812821504 * (n2 * M) + 11417981541647679048466287755595961091061972992 * (n3 * M) + 25711008708143844408671393477458601640355247900524685364822016 * (n4 * M) := by
  simp only [Nat.add_mul, Nat.mul_assoc]
/-- What the carried product is worth. -/
theorem prL_val (x y : List Nat) : V5 (prL x y 5).1 + 57896044618658097711785492504343953926634992332820282019728792003956564819968 * (prL x y 5).2 = tmS x y 0 5 + 2251799813685248 * tmS x y 1 5 + 5070602400912917605986812821504 * tmS x y 2 5 + 11417981541647679048466287755595961091061972992 * tmS x y 3 5 + 25711008708143844408671393477458601640355247900524685364822016 * tmS x y 4 5 := by
  simp only [prL]
  generalize tmS x y 0 5 = t0
  generalize tmS x y 1 5 = t1
  generalize tmS x y 2 5 = t2
  generalize tmS x y 3 5 = t3
  generalize tmS x y 4 5 = t4
  show V5 [(0 + t0) % 2251799813685248, _, _, _, _] + _ = _
  rw [V5_list]
  obtain ⟨x1, h1⟩ : ∃ x, x = (0 + t0) / 2251799813685248 := ⟨_, rfl⟩
  rw [← h1]
  obtain ⟨x2, h2⟩ : ∃ x, x = (x1 + t1) / 2251799813685248 := ⟨_, rfl⟩
  rw [← h2]
  obtain ⟨x3, h3⟩ : ∃ x, x = (x2 + t2) / 2251799813685248 := ⟨_, rfl⟩
  rw [← h3]
  obtain ⟨x4, h4⟩ : ∃ x, x = (x3 + t3) / 2251799813685248 := ⟨_, rfl⟩
  rw [← h4]
  omega
theorem prL_digit (x y : List Nat) (i : Nat) : (prL x y 5).1.getD i 0 ≤ 2251799813685247 := by
  have h : ∀ k i, (prL x y k).1.getD i 0 ≤ 2251799813685247 := by
    intro k
    induction k with
    | zero =>
      intro i
      match i with
      | 0 | 1 | 2 | 3 | 4 => simp [prL]
      | k + 5 => simp [prL]
    | succ k ih =>
      intro i
      rw [prL, getD_set]
      split
      · omega
      · exact ih i
  exact h 5 i
/-- What 'times' folds at last. -/
def preL (x y : List Nat) : List Nat := (prL x y 5).1.set 0 ((prL x y 5).1.getD 0 0 + 19 * (prL x y 5).2)
theorem mul_val {x y : List Nat} (hn : x.length = 5) (hm : y.length = 5) : ∃ Q, tmS x y 0 5 + 2251799813685248 * tmS x y 1 5 + 5070602400912917605986812821504 * tmS x y 2 5 + 11417981541647679048466287755595961091061972992 * tmS x y 3 5 + 25711008708143844408671393477458601640355247900524685364822016 * tmS x y 4 5 + pC * Q = V5 x * V5 y := by
  obtain ⟨n0, n1, n2, n3, n4, rfl⟩ := list5 hn
  obtain ⟨m0, m1, m2, m3, m4, rfl⟩ := list5 hm
  have t0 : tmS [n0, n1, n2, n3, n4] [m0, m1, m2, m3, m4] 0 5 = 0 + n0 * m0 + n1 * (19 * m4) + n2 * (19 * m3) + n3 * (19 * m2) + n4 * (19 * m1) := rfl
  have t1 : tmS [n0, n1, n2, n3, n4] [m0, m1, m2, m3, m4] 1 5 = 0 + n0 * m1 + n1 * m0 + n2 * (19 * m4) + n3 * (19 * m3) + n4 * (19 * m2) := rfl
  have t2 : tmS [n0, n1, n2, n3, n4] [m0, m1, m2, m3, m4] 2 5 = 0 + n0 * m2 + n1 * m1 + n2 * m0 + n3 * (19 * m4) + n4 * (19 * m3) := rfl
  have t3 : tmS [n0, n1, n2, n3, n4] [m0, m1, m2, m3, m4] 3 5 = 0 + n0 * m3 + n1 * m2 + n2 * m1 + n3 * m0 + n4 * (19 * m4) := rfl
  have t4 : tmS [n0, n1, n2, n3, n4] [m0, m1, m2, m3, m4] 4 5 = 0 + n0 * m4 + n1 * m3 + n2 * m2 + n3 * m1 + n4 * m0 := rfl
  rw [t0, t1, t2, t3, t4, V5_list, V5_list, rows5, row5 n0, row5 n1, row5 n2, row5 n3, row5 n4]
  simp only [Nat.mul_left_comm _ 19]
  refine ⟨n1 * m4 + n2 * m3 + n3 * m2 + n4 * m1 + 2251799813685248 * (n2 * m4 + n3 * m3 + n4 * m2) + 5070602400912917605986812821504 * (n3 * m4 + n4 * m3) + 11417981541647679048466287755595961091061972992 * (n4 * m4), ?_⟩
  unfold pC
  omega
theorem times_tm {L M : List Nat} {a b : Nat} (h : Tm L a) (k : Tm M b) :
    (∀ i, i < 5 → (preL L M).getD i 0 ≤ 1152921504606846976) ∧ (preL L M).length = 5 ∧ (cyTo (preL L M) 5).2 ≤ 2 ∧ (cyTo (preL L M) 5).1.getD 0 0 ≤ 2251799813685247 ∧ (prL L M 5).2 ≤ 55000000000000000 ∧ Tm (foldL (preL L M)) (a * b % pC) := by
  have hl : (preL L M).length = 5 := by rw [preL, List.length_set, prL_length]
  have hd := prL_digit L M
  have hv := prL_val L M
  obtain ⟨Q, hQ⟩ := mul_val h.len k.len
  have t4 : tmS L M 4 5 ≤ 5 * 5070602400914000000000000000000 := by
    have hp : ∀ i j, L.getD i 0 * M.getD j 0 ≤ 5070602400914000000000000000000 := fun i j => Nat.le_trans (Nat.mul_le_mul (h.all i) (k.all j)) (by decide)
    have e : tmS L M 4 5 = 0 + L.getD 0 0 * M.getD 4 0 + L.getD 1 0 * M.getD 3 0 + L.getD 2 0 * M.getD 2 0 + L.getD 3 0 * M.getD 1 0 + L.getD 4 0 * M.getD 0 0 := rfl
    have := hp 0 4
    have := hp 1 3
    have := hp 2 2
    have := hp 3 1
    have := hp 4 0
    omega
  have ho : (prL L M 5).2 ≤ 55000000000000000 := by
    have h4 := prL_small h.all k.all 4
    show ((prL L M 4).2 + tmS L M 4 5) / 2251799813685248 ≤ _
    omega
  have hp5 := prL_length L M 5
  have e0 : (preL L M).getD 0 0 = (prL L M 5).1.getD 0 0 + 19 * (prL L M 5).2 := by rw [preL, getD_set, if_pos ⟨rfl, by omega⟩]
  have ei : ∀ i, 0 < i → (preL L M).getD i 0 = (prL L M 5).1.getD i 0 := by intro i hi; rw [preL, getD_set, if_neg (by omega)]
  have hV : V5 (preL L M) = V5 (prL L M 5).1 + 19 * (prL L M 5).2 := by
    unfold V5
    rw [e0, ei 1 (by omega), ei 2 (by omega), ei 3 (by omega), ei 4 (by omega)]
    omega
  have hVs : V5 (prL L M 5).1 ≤ 57896044618658097711785492504343953926634992332820282019728792003956564819967 := by
    have := hd 0
    have := hd 1
    have := hd 2
    have := hd 3
    have := hd 4
    unfold V5
    omega
  obtain ⟨f1, f2, f3⟩ := fold_tm hl (by omega)
  refine ⟨?_, hl, f1, f2, ho, ?_⟩
  · intro i hi
    by_cases h0 : i = 0
    · subst h0; rw [e0]; have := hd 0; omega
    · rw [ei i (by omega)]; have := hd i; omega
  · have e : V5 L * V5 M = V5 (preL L M) + pC * ((prL L M 5).2 + Q) := by
      rw [hV, Nat.mul_add, ← hQ]
      have : pC * (prL L M 5).2 + 19 * (prL L M 5).2 = 57896044618658097711785492504343953926634992332820282019728792003956564819968 * (prL L M 5).2 := by unfold pC; omega
      omega
    have e2 : V5 (preL L M) % pC = a * b % pC := by
      rw [← h.val, ← k.val, ← Nat.mul_mod, e, Nat.add_mul_mod_self_left]
    rw [← e2]
    exact f3
/-- The product. -/
def timesL (x y : List Nat) : List Nat := foldL (preL x y)
end
section
open Go Go.RowKit

def ncells (k : IntKind) (L : List Nat) : List Value := L.map fun x : Nat => Value.int k (x : Int)
theorem ncells_length (k : IntKind) (L : List Nat) : (ncells k L).length = L.length := by simp [ncells]
/-- The block g holds the words L. -/
def NB (k : IntKind) (w : World) (g : Nat) (t : TypeId) (L : List Nat) : Prop := w.heap[g]? = some (.cells (ncells k L).toArray t (0, 0))
section
variable {k : IntKind} {w : World} {g : Nat} {t : TypeId} {L : List Nat}
theorem NB.lt (h : NB k w g t L) : g < w.heap.size := lt_of_block h
theorem NB.cell (h : NB k w g t L) (i : Nat) (hi : i < L.length) : w.cell? ⟨g, i, none⟩ = some (.int k (L.getD i 0 : Nat)) := by
  rw [cell_row h]
  simp [ncells, hi]
theorem NB.frozen (h : NB k w g t L) (i : Nat) : w.frozen? ⟨g, i, none⟩ = false := frozen_row h i
theorem NB.set (h : NB k w g t L) (i : Nat) (x : Nat) : NB k (w.setCell ⟨g, i, none⟩ (.int k (x : Int))) g t (L.set i x) := by
  unfold NB
  rw [heap_setCell_same _ _ _ _ _ _ h]
  simp [ncells, List.map_set]
theorem NB.keep {S : Nat → Prop} {w' : World} (h : NB k w g t L) (hk : Keeps S w w') (hn : ¬ S g) : NB k w' g t L := (hk.block g (lt_of_block h) hn).trans h
theorem NB.fresh {w' : World} (h : NB k w g t L) (hb : Below w.heap.size w w') : NB k w' g t L := h.keep (S := fun _ => False) (Keeps.ofFresh hb) (fun h => h)
theorem NB.new (w : World) (L : List Nat) : NB k (w.alloc (.cells (ncells k L).toArray t)) w.heap.size t L := heap_alloc_new w _
end

theorem m64N (a : Nat) (ha : a < 18446744073709551616) : bits .and .u64 (a : Int) 4294967295 = ((a % 4294967296 : Nat) : Int) := by
  have h := bits_and_u64_nat a 4294967295 ha (by omega)
  have e : a &&& 4294967295 = a % 4294967296 := Nat.and_two_pow_sub_one_eq_mod a 32
  rw [e] at h
  exact h
theorem m64d (a : Nat) : (a : Int) / 4294967296 = ((a / 4294967296 : Nat) : Int) := by omega
theorem m64m (a b : Nat) : (a : Int) * (b : Int) = ((a * b : Nat) : Int) := (Int.natCast_mul a b).symm
theorem m64a (a b : Nat) : (a : Int) + (b : Int) = ((a + b : Nat) : Int) := (Int.natCast_add a b).symm
theorem m64w (a : Nat) (ha : a < 18446744073709551616) : IntKind.u64.wrap (a : Int) = (a : Int) := by rw [IntKind.wrap_u64]; omega
theorem m64r (a : Nat) : IntKind.u64.wrap (a : Int) = ((a % 18446744073709551616 : Nat) : Int) := by rw [IntKind.wrap_u64]; omega

set_option maxHeartbeats 1000000 in
theorem mul64_c (x y : Nat) (hx : x < 18446744073709551616) (hy : y < 18446744073709551616) (w : World) :
    Calls Tryd.prog 106 #[.int .u64 x, .int .u64 y] w fun e w' => e = .returned (.tuple #[.int .u64 ((x * y / 18446744073709551616 : Nat) : Int), .int .u64 ((x * y % 18446744073709551616 : Nat) : Int)]) ∧ w' = w := by
  obtain ⟨bd, bt, bw, hhi⟩ := Lib.mul64_hi x y hx hy
  have ba := Lib.half_mul_le (a := x / 4294967296) (b := y / 4294967296) (by omega) (by omega)
  have bb := Lib.half_mul_le (a := x / 4294967296) (b := y % 4294967296) (by omega) (by omega)
  have bc := Lib.half_mul_le (a := x % 4294967296) (b := y / 4294967296) (by omega) (by omega)
  have ba' : x / 4294967296 * (y / 4294967296) < 18446744073709551616 := by omega
  have bb' : x / 4294967296 * (y % 4294967296) < 18446744073709551616 := by omega
  have bc' : x % 4294967296 * (y / 4294967296) < 18446744073709551616 := by omega
  have bh1 : x / 4294967296 * (y / 4294967296) + (x / 4294967296 * (y % 4294967296) + x % 4294967296 * (y % 4294967296) / 4294967296) / 4294967296 < 18446744073709551616 := by omega
  have bh : x / 4294967296 * (y / 4294967296) + (x / 4294967296 * (y % 4294967296) + x % 4294967296 * (y % 4294967296) / 4294967296) / 4294967296 + ((x / 4294967296 * (y % 4294967296) + x % 4294967296 * (y % 4294967296) / 4294967296) % 4294967296 + x % 4294967296 * (y / 4294967296)) / 4294967296 < 18446744073709551616 := by omega
  go_enter Tryd.func106, Tryd.ntmps106
  go_wp2
  simp only [m64N x hx, m64N y hy, m64d, m64m, m64a, m64w _ bd, m64w _ bb', m64w _ bt, m64N _ bt, m64w _ bc', m64w _ bw, m64w _ ba', m64w _ bh1, m64w _ bh, m64r (x * y)]
  rw [hhi]
  go_ret2
  exact ⟨rfl, rfl⟩

theorem add64_run (x y : Nat) (w : World) :
    (callFunc 107 #[.int .u64 x, .int .u64 y, .int .u64 0]).run Tryd.prog w =
      .ok (.value (.tuple #[.int .u64 (((x + y) % 18446744073709551616 : Nat) : Int), .int .u64 (((x + y) / 18446744073709551616 : Nat) : Int)])) w := by
  rw [run_callFunc_extern Tryd.func107 (by kernel_rfl) (by kernel_rfl) (by kernel_rfl) (e := add64Entry) (by kernel_rfl), run_add64 x y 0 (by omega) (by omega) (by omega) (by omega)]
  simp only [Result.andThen]
  congr 5 <;> omega

set_option maxHeartbeats 800000 in
set_option maxRecDepth 100000 in
/-- A product is added to what two words hold. -/
theorem addProduct_c (g s x y : Nat) (hx : x ≤ 18446744073709551615) (hy : y ≤ 18446744073709551615) (hs : s + x * y < 340282366920938463463374607431768211456) (w : World) (h : NB .u64 w g 144 [s / 18446744073709551616, s % 18446744073709551616]) :
    Calls Tryd.prog 102 #[.pointer (some ⟨g, 0, none⟩), .int .u64 (x : Int), .int .u64 (y : Int)] w fun e w' => e = .returned (.tuple #[]) ∧ NB .u64 w' g 144 [(s + x * y) / 18446744073709551616, (s + x * y) % 18446744073709551616] ∧ Keeps (fun k => k = g) w w' := by
  have HM := hidden (mul64_c x y (by omega) (by omega) w)
  obtain ⟨p, hp⟩ : ∃ p, p = x * y := ⟨_, rfl⟩
  rw [← hp] at HM hs ⊢
  obtain ⟨ph, hph⟩ : ∃ z, z = p / 18446744073709551616 := ⟨_, rfl⟩
  obtain ⟨pl, hpl⟩ : ∃ z, z = p % 18446744073709551616 := ⟨_, rfl⟩
  obtain ⟨sh, hsh⟩ : ∃ z, z = s / 18446744073709551616 := ⟨_, rfl⟩
  obtain ⟨sl, hsl⟩ : ∃ z, z = s % 18446744073709551616 := ⟨_, rfl⟩
  rw [← hph, ← hpl] at HM
  rw [← hsh, ← hsl] at h
  have HA := add64_run sl pl
  obtain ⟨rl, hrl⟩ : ∃ z, z = (sl + pl) % 18446744073709551616 := ⟨_, rfl⟩
  obtain ⟨ro, hro⟩ : ∃ z, z = (sl + pl) / 18446744073709551616 := ⟨_, rfl⟩
  rw [← hrl, ← hro] at HA
  have e1 : (s + p) / 18446744073709551616 = sh + (ph + ro) := by omega
  have e2 : (s + p) % 18446744073709551616 = rl := by omega
  have hb1 : ph + ro ≤ 18446744073709551615 := by omega
  have hb2 : sh + (ph + ro) ≤ 18446744073709551615 := by omega
  rw [e1, e2]
  have hi1 : (ph : Int) + (ro : Int) = ((ph + ro : Nat) : Int) := by omega
  have hi2 : (sh : Int) + ((ph + ro : Nat) : Int) = ((sh + (ph + ro) : Nat) : Int) := by omega
  generalize ph + ro = po at hb1 hb2 hi1 hi2 ⊢
  generalize sh + po = so at hb2 hi2 ⊢
  have hw1 := m64w po (by omega)
  have hw2 := m64w so (by omega)
  have hc0 := h.cell 0 (by simp)
  have hc1 := h.cell 1 (by simp)
  rw [show [sh, sl].getD 0 0 = sh from rfl] at hc0
  rw [show [sh, sl].getD 1 0 = sl from rfl] at hc1
  have hf := h.frozen
  have H := hidden h
  have HA' := HA w
  clear h HA hp hph hpl hsh hsl hrl hro hs e1 e2 hx hy hb1 hb2
  go_enter Tryd.func102, Tryd.ntmps102
  go_wp2_with fail
  refine HM.out.mono ?_
  rintro e w' ⟨rfl, hw⟩
  rw [hw]
  go_wp2
  go_end0
  refine ⟨rfl, ?_, ?_⟩
  · exact (H.out.set 1 rl).set 0 so
  · exact ((Keeps.refl (fun k => k = g) w).setCell (p := ⟨g, 1, none⟩) (.inl rfl) _).setCell (p := ⟨g, 0, none⟩) (.inl rfl) _

set_option maxHeartbeats 800000 in
set_option maxRecDepth 100000 in
theorem carry_c (g : Nat) (L : List Nat) (hL : L.length = 5) (hb : ∀ i, i < 5 → L.getD i 0 ≤ 1152921504606846976) (w : World) (h : NB .u64 w g 118 L) :
    Calls Tryd.prog 104 #[.pointer (some ⟨g, 0, none⟩)] w fun e w' => e = .returned (.int .u64 ((cyTo L 5).2 : Nat)) ∧ NB .u64 w' g 118 (cyTo L 5).1 ∧ Keeps (fun k => k = g) w w' := by
  have HB := hidden hb
  have H := hidden h
  clear hb h
  go_enter Tryd.func104, Tryd.ntmps104
  go_wp2_with fail
  go_loopw [3, 5] (fun o c wr => ∃ i : Nat, i ≤ 5 ∧ c = .int .i64 (i : Int) ∧ o = .int .u64 ((cyTo L i).2 : Nat) ∧ NB .u64 wr g 118 (cyTo L i).1 ∧ Keeps (fun k => k = g) w wr) (fun _ c _ => 5 - (intOf c).toNat)
  case atStart => exact ⟨0, by omega, rfl, rfl, H.out, Keeps.refl _ _⟩
  case round =>
    obtain ⟨i, hi, rfl, rfl, hn, hk⟩ := hrel
    have HN := hidden hn
    have HK := hidden hk
    clear hn hk
    by_cases hlt : i < 5
    · have hlt' : (i : Int) < 5 := by omega
      have hlen := cyTo_length L i
      have hc := HN.out.cell i (by omega)
      have hf := HN.out.frozen i
      have hbd := cyTo_small L HB.out i hlt
      obtain ⟨s, hs⟩ : ∃ s, s = (cyTo L i).2 + (cyTo L i).1.getD i 0 := ⟨_, rfl⟩
      have hs2 : s ≤ 1300000000000000000 := by omega
      have hand := mask51 s (by omega)
      have HS : Hid (cyTo L (i + 1) = ((cyTo L i).1.set i (s % 2251799813685248), s / 2251799813685248)) := by rw [hs]; rfl
      have hs3 : (((cyTo L i).2 : Nat) : Int) + (((cyTo L i).1.getD i 0 : Nat) : Int) = (s : Int) := by omega
      generalize (cyTo L i).1.getD i 0 = x at hc hs3
      generalize (cyTo L i).2 = o at hs3 ⊢
      clear hbd hs hlen
      go_wp2
      go_roundw
      case rel =>
        refine ⟨i + 1, by omega, by go_num, ?_, ?_, HK.out.setCell (p := ⟨g, i, none⟩) (.inl rfl) _⟩
        · rw [HS.out]; go_num
        · rw [HS.out]; exact HN.out.set i (s % 2251799813685248)
      case measure => simp [intOf]; omega
    · have hlt' : ¬ (i : Int) < 5 := by omega
      obtain rfl : i = 5 := by omega
      go_wp2
      go_ret
      exact ⟨rfl, HN.out, HK.out⟩
set_option maxHeartbeats 800000 in
set_option maxRecDepth 100000 in
theorem foldTop_c (g : Nat) (L : List Nat) (hL : L.length = 5) (hb : ∀ i, i < 5 → L.getD i 0 ≤ 1152921504606846976) (ho : (cyTo L 5).2 ≤ 2) (h0 : (cyTo L 5).1.getD 0 0 ≤ 2251799813685247) (w : World) (h : NB .u64 w g 118 L) :
    Calls Tryd.prog 103 #[.pointer (some ⟨g, 0, none⟩)] w fun e w' => e = .returned (.tuple #[]) ∧ NB .u64 w' g 118 (foldL L) ∧ Keeps (fun k => k = g) w w' := by
  have HC := hidden (carry_c g L hL hb w h)
  have hlen := cyTo_length L 5
  have HF : Hid (foldL L = (cyTo L 5).1.set 0 ((cyTo L 5).1.getD 0 0 + 19 * (cyTo L 5).2)) := rfl
  clear h hb
  go_enter Tryd.func103, Tryd.ntmps103
  go_wp2_with fail
  refine HC.out.mono ?_
  rintro e w1 ⟨rfl, hn, hk⟩
  have hc := hn.cell 0 (by omega)
  have hf := hn.frozen 0
  have HN := hidden hn
  have HK := hidden hk
  clear hn hk HC
  obtain ⟨s, hs⟩ : ∃ s, s = (cyTo L 5).1.getD 0 0 + 19 * (cyTo L 5).2 := ⟨_, rfl⟩
  rw [← hs] at HF
  have hs3 : (((cyTo L 5).1.getD 0 0 : Nat) : Int) + 19 * (((cyTo L 5).2 : Nat) : Int) = (s : Int) := by omega
  have hs2 : s ≤ 3000000000000000 := by omega
  generalize (cyTo L 5).1.getD 0 0 = x at hc hs3 h0
  generalize (cyTo L 5).2 = o at ho hs3 ⊢
  clear hs hlen
  go_wp2_with fail
  go_region
  go_end0
  refine ⟨rfl, ?_, (HK.out.setCell (p := ⟨g, 0, none⟩) (.inl rfl) _).drew⟩
  rw [HF.out]
  exact HN.out.set 0 s
end
section
open Go Go.RowKit

/-- Twice the prime, in its variable. -/
def Tp (w : World) : Prop := 0 < w.heap.size ∧ ∀ i, i < 5 → w.cell? ⟨1, i, none⟩ = some (.int .u64 (tpL.getD i 0 : Nat))
theorem Tp.keep {S : Nat → Prop} {w w' : World} (h : Tp w) (hk : Keeps S w w') (hn : ¬ S 1) : Tp w' :=
  ⟨by have := hk.size; have := h.1; omega, fun i hi => by exact hk.cell (h.2 i hi) hn⟩
theorem Tp.fresh {w w' : World} (h : Tp w) (hb : Below w.heap.size w w') : Tp w' := h.keep (S := fun _ => False) (Keeps.ofFresh hb) (fun h => h)

/-- The two factors and the answer's place. -/
structure PI (w : World) (m : List Nat) (wr : World) (P : List Nat) : Prop where
  n : NB .u64 wr w.heap.size 118 P
  m : NB .u64 wr (w.heap.size + 1) 118 m
  r : NB .u64 wr (w.heap.size + 2) 118 [0, 0, 0, 0, 0]
  b : Below w.heap.size w wr
theorem PI.start (w : World) (n m : List Nat) :
    PI w m (((w.alloc (.cells (ncells .u64 n).toArray 118)).alloc (.cells (ncells .u64 m).toArray 118)).alloc (.cells (ncells .u64 [0, 0, 0, 0, 0]).toArray 118)) n := by
  have b1 : Below w.heap.size w (w.alloc (.cells (ncells .u64 n).toArray 118)) := (Below.refl _ w).alloc (by omega) _
  have b2 := b1.alloc (by simp) (.cells (ncells .u64 m).toArray 118)
  have b3 := b2.alloc (by simp; omega) (.cells (ncells .u64 [0, 0, 0, 0, 0]).toArray 118)
  refine ⟨?_, ?_, ?_, b3⟩
  · unfold NB
    rw [Below.heap_alloc _ _ _ (by simp; omega), Below.heap_alloc _ _ _ (by simp)]
    exact heap_alloc_new w _
  · unfold NB
    rw [Below.heap_alloc _ _ _ (by simp)]
    have := heap_alloc_new (w.alloc (.cells (ncells .u64 n).toArray 118)) (.cells (ncells .u64 m).toArray 118)
    rwa [show (w.alloc (.cells (ncells .u64 n).toArray 118)).heap.size = w.heap.size + 1 by simp] at this
  · unfold NB
    have := heap_alloc_new ((w.alloc (.cells (ncells .u64 n).toArray 118)).alloc (.cells (ncells .u64 m).toArray 118)) (.cells (ncells .u64 [0, 0, 0, 0, 0]).toArray 118)
    rwa [show ((w.alloc (.cells (ncells .u64 n).toArray 118)).alloc (.cells (ncells .u64 m).toArray 118)).heap.size = w.heap.size + 2 by simp] at this
theorem PI.keep {w : World} {m : List Nat} {wr wr' : World} {P P' : List Nat} (h : PI w m wr P) (hk : Keeps (fun k => k = w.heap.size) wr wr') (hp : NB .u64 wr' w.heap.size 118 P') : PI w m wr' P' :=
  ⟨hp, h.m.keep hk (by omega), h.r.keep hk (by omega), h.b.trans (hk.below (B := w.heap.size) h.b.size (by intro k e; omega))⟩
theorem PI.set {w : World} {m : List Nat} {wr : World} {P : List Nat} (h : PI w m wr P) (i x : Nat) : PI w m (wr.setCell ⟨w.heap.size, i, none⟩ (.int .u64 (x : Int))).drew (P.set i x) :=
  h.keep ((Keeps.refl (fun k => k = w.heap.size) wr).setCell (p := ⟨w.heap.size, i, none⟩) (.inl rfl) _).drew (h.n.set i x)

/-- The end of 'plus' and 'minus': what lies in the first block is told. -/
theorem row_facts (R0 : List Nat) (h : R0.length = 5) : (Tryd.prog.info? 118).map (·.size) = some (ncells .u64 R0).toArray.size ∧ (ncells .u64 R0).toArray.all (·.oneCell') = true ∧ (ncells .u64 [0, 0, 0, 0, 0]).toArray.size = (ncells .u64 R0).toArray.size := by
  have hpl : (ncells .u64 R0).toArray.size = 5 := by rw [List.size_toArray, ncells_length]; omega
  exact ⟨by rw [hpl]; kernel_rfl, by simp [ncells, Value.oneCell'], by rw [hpl]; rfl⟩

set_option maxHeartbeats 800000 in
set_option maxRecDepth 100000 in
theorem plus_l (L M : List Nat) (a b : Nat) (h : Tm L a) (k : Tm M b) (w : World) :
    Calls Tryd.prog 100 #[.agg (ncells .u64 L).toArray, .agg (ncells .u64 M).toArray] w fun e w' => e = .returned (.agg (ncells .u64 (foldL (addTo L M 5))).toArray) ∧ Below w.heap.size w w' := by
  have HL := hidden h.all
  have HM := hidden k.all
  have hL := h.len
  have hM := k.len
  obtain ⟨f1, f2, f3⟩ := plus_tm h k
  have HF1 := hidden f1
  have HF2 := hidden f2
  have H := hidden (PI.start w L M)

  clear h k f1 f2 f3
  go_enter Tryd.func100, Tryd.ntmps100
  go_upto_region 1 with fail
  change Code.wp _ _ _ _ (((w.alloc (.cells (ncells .u64 L).toArray 118)).alloc (.cells (ncells .u64 M).toArray 118)).alloc (.cells (ncells .u64 [0, 0, 0, 0, 0]).toArray 118))
  generalize ((w.alloc (.cells (ncells .u64 L).toArray 118)).alloc (.cells (ncells .u64 M).toArray 118)).alloc (.cells (ncells .u64 [0, 0, 0, 0, 0]).toArray 118) = w3 at H ⊢
  generalize (ncells .u64 M).toArray = MA
  generalize (ncells .u64 L).toArray = LA
  go_wp2_with fail
  go_loopw [6] (fun c wr => ∃ i : Nat, i ≤ 5 ∧ c = .int .i64 (i : Int) ∧ PI w M wr (addTo L M i)) (fun c _ => 5 - (intOf c).toNat)
  case atStart => exact ⟨0, by omega, rfl, H.out⟩
  case round =>
    clear H
    obtain ⟨i, hi, rfl, ht⟩ := hrel
    have HT := hidden ht
    clear ht
    by_cases hlt : i < 5
    · have hlt' : (i : Int) < 5 := by omega
      have hlen := addTo_length L M i
      have hc := HT.out.n.cell i (by omega)
      have hc2 := HT.out.m.cell i (by omega)
      have hf := HT.out.n.frozen i
      rw [addTo_off L M i i (Nat.le_refl _)] at hc
      have hb1 := HL.out i
      have hb2 := HM.out i
      obtain ⟨s, hs⟩ : ∃ s, s = L.getD i 0 + M.getD i 0 := ⟨_, rfl⟩
      have hs2 : s ≤ 1152921504606846976 := by omega
      have HS : Hid (addTo L M (i + 1) = (addTo L M i).set i s) := by rw [hs]; rfl
      have hs3 : ((L.getD i 0 : Nat) : Int) + ((M.getD i 0 : Nat) : Int) = (s : Int) := by omega
      generalize L.getD i 0 = x at hc hs3
      generalize M.getD i 0 = y at hc2 hs3
      clear hb1 hb2 hs hlen
      go_wp2_with fail
      go_region
      go_wp2
      go_roundw
      case rel =>
        refine ⟨i + 1, by omega, by go_num, ?_⟩
        rw [HS.out]
        exact HT.out.set i s
      case measure => simp [intOf]; omega
    · have hlt' : ¬ (i : Int) < 5 := by omega
      obtain rfl : i = 5 := by omega
      have hb : ∀ i, i < 5 → (addTo L M 5).getD i 0 ≤ 1152921504606846976 := by
        intro i hi
        rw [addTo_on L M 5 i hi (by omega)]
        have := HL.out i
        have := HM.out i
        omega
      have hP5 := addTo_length L M 5
      have HC := hidden (foldTop_c w.heap.size (addTo L M 5) (by omega) hb HF1.out HF2.out wr HT.out.n)
      have hF5 := foldL_length (addTo L M 5)
      obtain ⟨P, hP⟩ : ∃ P, P = addTo L M 5 := ⟨_, rfl⟩
      rw [← hP] at HC HT hF5 hP5
      have HPE := hidden hP
      clear hb HF1 HF2 HL HM hP
      go_wp2_with fail
      refine HC.out.mono ?_
      rintro e w4 ⟨rfl, hp4, hk4⟩
      have H4 := hidden (HT.out.keep hk4 hp4)
      clear HT hp4 hk4 HC
      obtain ⟨hsz, hone, hdd⟩ := row_facts (foldL P) (by omega)
      have HPP : Hid (w4.heap[w.heap.size]? = some (.cells (ncells .u64 (foldL P)).toArray 118 (0, 0))) := H4.out.n
      have HRR : Hid (w4.heap[w.heap.size + 2]? = some (.cells (ncells .u64 [0, 0, 0, 0, 0]).toArray 118 (0, 0))) := H4.out.r
      have HB4 := hidden H4.out.b
      obtain ⟨R, hR⟩ : ∃ R, R = (ncells .u64 (foldL P)).toArray := ⟨_, rfl⟩
      rw [← hR] at hsz hone hdd HPP
      have HRE := hidden hR
      have HSZ := hidden hsz
      have HON := hidden hone
      have HD := hidden hdd
      have HR1 : Hid ((w4.setRow (w.heap.size + 2) R).heap[w.heap.size + 2]? = some (.cells R 118 (0, 0))) := setRow_heap w4 (w.heap.size + 2) _ _ _ _ HRR.out
      have HL1 : Hid (Below w.heap.size w (w4.setRow (w.heap.size + 2) R)) := below_setRow HB4.out (by omega) _
      clear hsz hone hdd H4 hR
      go_wp2_with (first
        | (refine wpList_loadRow rfl 118 (.tmp 2) rfl w.heap.size R 118 (0, 0) 5 87 rfl HPP.out Tryd.underlying118 HSZ.out ?_)
        | (refine wpList_store_row rfl 118 (.tmp 4) (.tmp 19) rfl (w.heap.size + 2) R rfl rfl 118 _ HRR.out HSZ.out HD.out HON.out ?_))
      (try simp only [Exit.inBlock, Exit.then])
      refine bodyPost_ret (results_cell1 rfl _ _ _ (w.heap.size + 2) R 118 (0, 0) 5 87 rfl HR1.out Tryd.underlying118 HSZ.out) rfl ?_
      exact ⟨by rw [HRE.out, HPE.out], HL1.out⟩
set_option maxHeartbeats 800000 in
set_option maxRecDepth 100000 in
theorem minus_l (L M : List Nat) (a b : Nat) (h : Tm L a) (k : Tm M b) (w : World) (htp : Tp w) :
    Calls Tryd.prog 101 #[.agg (ncells .u64 L).toArray, .agg (ncells .u64 M).toArray] w fun e w' => e = .returned (.agg (ncells .u64 (foldL (subTo L M 5))).toArray) ∧ Below w.heap.size w w' := by
  have HL := hidden h.all
  have HM := hidden k.all
  have hL := h.len
  have hM := k.len
  obtain ⟨f1, f2, f3⟩ := minus_tm h k
  have HF1 := hidden f1
  have HF2 := hidden f2
  have H := hidden (PI.start w L M)
  have HTP := hidden htp
  clear h k f1 f2 f3 htp
  go_enter Tryd.func101, Tryd.ntmps101
  go_upto_region 1 with fail
  change Code.wp _ _ _ _ (((w.alloc (.cells (ncells .u64 L).toArray 118)).alloc (.cells (ncells .u64 M).toArray 118)).alloc (.cells (ncells .u64 [0, 0, 0, 0, 0]).toArray 118))
  generalize ((w.alloc (.cells (ncells .u64 L).toArray 118)).alloc (.cells (ncells .u64 M).toArray 118)).alloc (.cells (ncells .u64 [0, 0, 0, 0, 0]).toArray 118) = w3 at H ⊢
  generalize (ncells .u64 M).toArray = MA
  generalize (ncells .u64 L).toArray = LA
  go_wp2_with fail
  go_loopw [6] (fun c wr => ∃ i : Nat, i ≤ 5 ∧ c = .int .i64 (i : Int) ∧ PI w M wr (subTo L M i)) (fun c _ => 5 - (intOf c).toNat)
  case atStart => exact ⟨0, by omega, rfl, H.out⟩
  case round =>
    clear H
    obtain ⟨i, hi, rfl, ht⟩ := hrel
    have HT := hidden ht
    clear ht
    by_cases hlt : i < 5
    · have hlt' : (i : Int) < 5 := by omega
      have hlen := subTo_length L M i
      have hc := HT.out.n.cell i (by omega)
      have hc2 := HT.out.m.cell i (by omega)
      have hf := HT.out.n.frozen i
      rw [subTo_off L M i i (Nat.le_refl _)] at hc
      have hb1 := HL.out i
      have hb2 := HM.out i
      have hg := (HTP.out.fresh HT.out.b).2 i hlt
      obtain ⟨hg1, hg2⟩ := tpL_lt i hlt
      obtain ⟨u, hu⟩ : ∃ u, u = tpL.getD i 0 - M.getD i 0 := ⟨_, rfl⟩
      obtain ⟨s, hs⟩ : ∃ s, s = L.getD i 0 + u := ⟨_, rfl⟩
      have hu2 : u ≤ 4503599627370494 := by omega
      have hs2 : s ≤ 1152921504606846976 := by omega
      have HS : Hid (subTo L M (i + 1) = (subTo L M i).set i s) := by rw [hs, hu]; rfl
      have hu3 : ((tpL.getD i 0 : Nat) : Int) - ((M.getD i 0 : Nat) : Int) = (u : Int) := by omega
      have hs3 : ((L.getD i 0 : Nat) : Int) + (u : Int) = (s : Int) := by omega
      generalize L.getD i 0 = x at hc hs3
      generalize M.getD i 0 = y at hc2 hu3
      generalize tpL.getD i 0 = z at hg hu3
      clear hb1 hb2 hs hu hlen hg1 hg2
      go_wp2_with fail
      go_region
      go_wp2
      go_roundw
      case rel =>
        refine ⟨i + 1, by omega, by go_num, ?_⟩
        rw [HS.out]
        exact HT.out.set i s
      case measure => simp [intOf]; omega
    · have hlt' : ¬ (i : Int) < 5 := by omega
      obtain rfl : i = 5 := by omega
      have hb : ∀ i, i < 5 → (subTo L M 5).getD i 0 ≤ 1152921504606846976 := by
        intro i hi
        rw [subTo_on L M 5 i hi (by omega)]
        have := HL.out i
        have := HM.out i
        have := tpL_lt i hi
        omega
      have hP5 := subTo_length L M 5
      have HC := hidden (foldTop_c w.heap.size (subTo L M 5) (by omega) hb HF1.out HF2.out wr HT.out.n)
      have hF5 := foldL_length (subTo L M 5)
      obtain ⟨P, hP⟩ : ∃ P, P = subTo L M 5 := ⟨_, rfl⟩
      rw [← hP] at HC HT hF5 hP5
      have HPE := hidden hP
      clear hb HF1 HF2 HL HM hP
      go_wp2_with fail
      refine HC.out.mono ?_
      rintro e w4 ⟨rfl, hp4, hk4⟩
      have H4 := hidden (HT.out.keep hk4 hp4)
      clear HT hp4 hk4 HC
      obtain ⟨hsz, hone, hdd⟩ := row_facts (foldL P) (by omega)
      have HPP : Hid (w4.heap[w.heap.size]? = some (.cells (ncells .u64 (foldL P)).toArray 118 (0, 0))) := H4.out.n
      have HRR : Hid (w4.heap[w.heap.size + 2]? = some (.cells (ncells .u64 [0, 0, 0, 0, 0]).toArray 118 (0, 0))) := H4.out.r
      have HB4 := hidden H4.out.b
      obtain ⟨R, hR⟩ : ∃ R, R = (ncells .u64 (foldL P)).toArray := ⟨_, rfl⟩
      rw [← hR] at hsz hone hdd HPP
      have HRE := hidden hR
      have HSZ := hidden hsz
      have HON := hidden hone
      have HD := hidden hdd
      have HR1 : Hid ((w4.setRow (w.heap.size + 2) R).heap[w.heap.size + 2]? = some (.cells R 118 (0, 0))) := setRow_heap w4 (w.heap.size + 2) _ _ _ _ HRR.out
      have HL1 : Hid (Below w.heap.size w (w4.setRow (w.heap.size + 2) R)) := below_setRow HB4.out (by omega) _
      clear hsz hone hdd H4 hR
      go_wp2_with (first
        | (refine wpList_loadRow rfl 118 (.tmp 2) rfl w.heap.size R 118 (0, 0) 5 87 rfl HPP.out Tryd.underlying118 HSZ.out ?_)
        | (refine wpList_store_row rfl 118 (.tmp 4) (.tmp 23) rfl (w.heap.size + 2) R rfl rfl 118 _ HRR.out HSZ.out HD.out HON.out ?_))
      (try simp only [Exit.inBlock, Exit.then])
      refine bodyPost_ret (results_cell1 rfl _ _ _ (w.heap.size + 2) R 118 (0, 0) 5 87 rfl HR1.out Tryd.underlying118 HSZ.out) rfl ?_
      exact ⟨by rw [HRE.out, HPE.out], HL1.out⟩
theorem plus_c {L M : List Nat} {a b : Nat} (h : Tm L a) (k : Tm M b) (w : World) :
    Calls Tryd.prog 100 #[.agg (ncells .u64 L).toArray, .agg (ncells .u64 M).toArray] w fun e w' => ∃ R, e = .returned (.agg (ncells .u64 R).toArray) ∧ Tm R ((a + b) % pC) ∧ Below w.heap.size w w' :=
  (plus_l L M a b h k w).mono fun _ _ ⟨h1, h2⟩ => ⟨_, h1, (plus_tm h k).2.2, h2⟩
theorem minus_c {L M : List Nat} {a b : Nat} (h : Tm L a) (k : Tm M b) (w : World) (htp : Tp w) :
    Calls Tryd.prog 101 #[.agg (ncells .u64 L).toArray, .agg (ncells .u64 M).toArray] w fun e w' => ∃ R, e = .returned (.agg (ncells .u64 R).toArray) ∧ Tm R ((a + (pC - b)) % pC) ∧ Below w.heap.size w w' :=
  (minus_l L M a b h k w htp).mono fun _ _ ⟨h1, h2⟩ => ⟨_, h1, (minus_tm h k).2.2, h2⟩
end
section
open Go Go.RowKit

/-- What lies ready while a product is made: both factors, the answer's place, the product. -/
structure TI (w : World) (n m : List Nat) (wr : World) (P : List Nat) : Prop where
  n : NB .u64 wr w.heap.size 118 n
  m : NB .u64 wr (w.heap.size + 1) 118 m
  r : NB .u64 wr (w.heap.size + 2) 118 [0, 0, 0, 0, 0]
  p : NB .u64 wr (w.heap.size + 3) 118 P
  b : Below w.heap.size w wr
theorem TI.start (w : World) (n m : List Nat) :
    TI w n m ((((w.alloc (.cells (ncells .u64 n).toArray 118)).alloc (.cells (ncells .u64 m).toArray 118)).alloc (.cells (ncells .u64 [0, 0, 0, 0, 0]).toArray 118)).alloc (.cells (ncells .u64 [0, 0, 0, 0, 0]).toArray 118)) [0, 0, 0, 0, 0] := by
  have h := PI.start w n m
  generalize hw : ((w.alloc (.cells (ncells .u64 n).toArray 118)).alloc (.cells (ncells .u64 m).toArray 118)).alloc (.cells (ncells .u64 [0, 0, 0, 0, 0]).toArray 118) = w3 at h ⊢
  have hs : w3.heap.size = w.heap.size + 3 := by rw [← hw]; simp
  have hk : Keeps (fun _ => False) w3 (w3.alloc (.cells (ncells .u64 [0, 0, 0, 0, 0]).toArray 118)) := (Keeps.refl _ w3).alloc _
  refine ⟨h.n.keep hk (fun h => h), h.m.keep hk (fun h => h), h.r.keep hk (fun h => h), ?_, h.b.alloc (by omega) _⟩
  rw [← hs]
  exact NB.new w3 _
theorem TI.keep {w : World} {n m : List Nat} {wr wr' : World} {P P' : List Nat} (h : TI w n m wr P) {S : Nat → Prop} (hS : ∀ k, S k → w.heap.size + 3 ≤ k) (hk : Keeps S wr wr') (hp : NB .u64 wr' (w.heap.size + 3) 118 P') : TI w n m wr' P' :=
  ⟨h.n.keep hk (fun e => by have := hS _ e; omega), h.m.keep hk (fun e => by have := hS _ e; omega), h.r.keep hk (fun e => by have := hS _ e; omega), hp, h.b.trans (hk.below (B := w.heap.size) h.b.size (by intro k e; have := hS _ e; omega))⟩
theorem TI.set {w : World} {n m : List Nat} {wr : World} {P : List Nat} (h : TI w n m wr P) (i x : Nat) : TI w n m (wr.setCell ⟨w.heap.size + 3, i, none⟩ (.int .u64 (x : Int))) (P.set i x) :=
  h.keep (S := fun k => k = w.heap.size + 3) (by omega) ((Keeps.refl (fun k => k = w.heap.size + 3) wr).setCell (p := ⟨w.heap.size + 3, i, none⟩) (.inl rfl) _) (h.p.set i x)
theorem shift_join (s : Nat) (hs : s < 41538374868278621028243970633760768) : bits BinOp.or IntKind.u64 ((s / 18446744073709551616 * 8192 : Nat) : Int) ((s % 18446744073709551616 / 2251799813685248 : Nat) : Int) = ((s / 2251799813685248 : Nat) : Int) := by
  rw [u64_or_nat _ _ (by omega) (by omega), nat_join 13 _ _ (by omega) (by omega)]
  congr 1
  omega

set_option maxHeartbeats 800000 in
set_option maxRecDepth 100000 in
theorem times_l (L M : List Nat) (a b : Nat) (h : Tm L a) (k : Tm M b) (w : World) :
    Calls Tryd.prog 94 #[.agg (ncells .u64 L).toArray, .agg (ncells .u64 M).toArray] w fun e w' => e = .returned (.agg (ncells .u64 (timesL L M)).toArray) ∧ Below w.heap.size w w' := by
  have HL := hidden h.all
  have HM := hidden k.all
  have hL := h.len
  have hM := k.len
  have HF := hidden (times_tm h k)
  have H := hidden (TI.start w L M)
  clear h k
  go_enter Tryd.func94, Tryd.ntmps94
  go_upto_region 2 with fail
  change Code.wp _ _ _ _ ((((w.alloc (.cells (ncells .u64 L).toArray 118)).alloc (.cells (ncells .u64 M).toArray 118)).alloc (.cells (ncells .u64 [0, 0, 0, 0, 0]).toArray 118)).alloc (.cells (ncells .u64 [0, 0, 0, 0, 0]).toArray 118))
  generalize (((w.alloc (.cells (ncells .u64 L).toArray 118)).alloc (.cells (ncells .u64 M).toArray 118)).alloc (.cells (ncells .u64 [0, 0, 0, 0, 0]).toArray 118)).alloc (.cells (ncells .u64 [0, 0, 0, 0, 0]).toArray 118) = w3 at H ⊢
  generalize (ncells .u64 M).toArray = MA
  generalize (ncells .u64 L).toArray = LA
  go_wp2_with fail
  go_loopw [6, 10] (fun o c wr => ∃ i : Nat, i ≤ 5 ∧ c = .int .i64 (i : Int) ∧ o = .int .u64 ((prL L M i).2 : Nat) ∧ TI w L M wr (prL L M i).1) (fun _ c _ => 5 - (intOf c).toNat)
  case atStart => exact ⟨0, by omega, rfl, rfl, H.out⟩
  case round =>
    clear H
    obtain ⟨i, hi, rfl, rfl, ht⟩ := hrel
    have HT := hidden ht
    clear ht
    by_cases hlt : i < 5
    · have hlt' : (i : Int) < 5 := by omega
      have hob := prL_small HL.out HM.out i
      obtain ⟨o, ho⟩ : ∃ o, o = (prL L M i).2 := ⟨_, rfl⟩
      have hPl := prL_length L M i
      obtain ⟨P, hP⟩ : ∃ P, P = (prL L M i).1 := ⟨_, rfl⟩
      have HP1 : Hid (prL L M (i + 1) = (P.set i ((o + tmS L M i 5) % 2251799813685248), (o + tmS L M i 5) / 2251799813685248)) := by rw [hP, ho]; rfl
      rw [← ho] at hob ⊢
      rw [← hP] at HT hPl
      have HPo := hidden ho
      have HPp := hidden hP
      clear ho hP
      go_upto_region 7 with fail
      have hsz : w.heap.size + 4 ≤ wr.heap.size := by have := HT.out.p.lt; omega
      obtain ⟨g, hg⟩ : ∃ g, g = wr.heap.size := ⟨_, rfl⟩
      have HTA : Hid (TI w L M (wr.alloc (.cells #[.int .u64 0, .int .u64 (o : Int)] 144)) P) :=
        HT.out.keep (S := fun _ => False) (fun _ h => h.elim) ((Keeps.refl _ wr).alloc _) (HT.out.p.keep (S := fun _ => False) ((Keeps.refl _ wr).alloc _) (fun h => h))
      have HNA : Hid (NB .u64 (wr.alloc (.cells #[.int .u64 0, .int .u64 (o : Int)] 144)) g 144 [(o + tmS L M i 0) / 18446744073709551616, (o + tmS L M i 0) % 18446744073709551616]) := by
        show NB _ _ _ _ _
        rw [show (o + tmS L M i 0) = o from rfl, show o / 18446744073709551616 = 0 by omega, show o % 18446744073709551616 = o by omega, hg]
        exact NB.new wr [0, o]
      rw [← hg]
      generalize wr.alloc (.cells #[.int .u64 0, .int .u64 (o : Int)] 144) = wa at HTA HNA ⊢
      have hg4 : w.heap.size + 4 ≤ g := by omega
      have hTS := tmS_le HL.out HM.out i
      have HTS := hidden hTS
      clear HT hg hsz hTS
      go_wp2_with fail
      go_loopw [15] (fun c wr => ∃ j : Nat, j ≤ 5 ∧ c = .int .i64 (j : Int) ∧ TI w L M wr P ∧ NB .u64 wr g 144 [(o + tmS L M i j) / 18446744073709551616, (o + tmS L M i j) % 18446744073709551616]) (fun c _ => 5 - (intOf c).toNat)
      case atStart => exact ⟨0, by omega, rfl, HTA.out, HNA.out⟩
      case round =>
        clear HTA HNA
        obtain ⟨j, hj, rfl, ht, hn⟩ := hrel
        have HT := hidden ht
        have HN := hidden hn
        clear ht hn
        by_cases hltj : j < 5
        · have hltj' : (j : Int) < 5 := by omega
          have hb1 := HTS.out j (by omega)
          have hb2 := tm_le HL.out HM.out i j
          have hx := HL.out j
          have HS : Hid (o + tmS L M i (j + 1) = o + tmS L M i j + tm L M i j) := (Nat.add_assoc _ _ _).symm
          obtain ⟨s, hs⟩ : ∃ s, s = o + tmS L M i j := ⟨_, rfl⟩
          rw [← hs] at HN HS
          have hsb : s ≤ 600000000000000000000000000000000 := by omega
          have hcx := HT.out.n.cell j (by omega)
          by_cases hle : j ≤ i
          · have hle' : (j : Int) ≤ (i : Int) := by omega
            obtain ⟨d, hd⟩ : ∃ d, d = i - j := ⟨_, rfl⟩
            have hd2 : (i : Int) - (j : Int) = (d : Int) := by omega
            have hd5 : (d : Int) < 5 := by omega
            have hwd : IntKind.i64.wrap (d : Int) = (d : Int) := by rw [IntKind.wrap_i64]; omega
            have hy := HM.out d
            have hcy := HT.out.m.cell d (by omega)
            have HTM : Hid (tm L M i j = L.getD j 0 * M.getD d 0) := by show tm _ _ _ _ = _; unfold tm; rw [if_pos hle, hd]
            rw [HTM.out] at hb2 HS
            have HC := hidden (addProduct_c g s (L.getD j 0) (M.getD d 0) (by omega) (by omega) (by omega) wr.drew HN.out)
            generalize L.getD j 0 = x at hcx hx HC HS HTM
            generalize M.getD d 0 = y at hcy hy HC HS HTM
            clear hd hb1 hb2 hs HTM hle HN
            go_wp2_with fail
            go_region_with (go_at_call 102; refine HC.out.mono ?_; rintro e w5 ⟨rfl, hn5, hk5⟩)
            all_goals
              go_wp2
              go_roundw
              case rel =>
                refine ⟨j + 1, by omega, by go_num, ?_, ?_⟩
                · exact HT.out.keep (S := fun k => k = g) (by omega) (Keeps.trans (b := wr.drew) (Keeps.refl _ wr).drew hk5) (HT.out.p.keep (Keeps.trans (b := wr.drew) (Keeps.refl (fun k => k = g) wr).drew hk5) (by omega))
                · rw [HS.out]; exact hn5
              case measure => simp [intOf]; omega
          · have hle' : ¬ (j : Int) ≤ (i : Int) := by omega
            obtain ⟨d, hd⟩ : ∃ d, d = i + 5 - j := ⟨_, rfl⟩
            have hd2 : (i : Int) + 5 - (j : Int) = (d : Int) := by omega
            have hd5 : (d : Int) < 5 := by omega
            have hwd : IntKind.i64.wrap (d : Int) = (d : Int) := by rw [IntKind.wrap_i64]; omega
            have hwi : IntKind.i64.wrap ((i : Int) + 5) = (i : Int) + 5 := by rw [IntKind.wrap_i64]; omega
            have hy := HM.out d
            have hcy := HT.out.m.cell d (by omega)
            have HTM : Hid (tm L M i j = L.getD j 0 * (19 * M.getD d 0)) := by show tm _ _ _ _ = _; unfold tm; rw [if_neg hle, hd]
            rw [HTM.out] at hb2 HS
            obtain ⟨z, hz⟩ : ∃ z, z = 19 * M.getD d 0 := ⟨_, rfl⟩
            rw [← hz] at hb2 HS HTM
            have hz2 : 19 * ((M.getD d 0 : Nat) : Int) = (z : Int) := by omega
            have hzw := m64w z (by omega)
            have HC := hidden (addProduct_c g s (L.getD j 0) z (by omega) (by omega) (by omega) wr.drew HN.out)
            generalize L.getD j 0 = x at hcx hx HC HS HTM
            generalize M.getD d 0 = y at hcy hy hz2
            clear hd hb1 hb2 hs HTM hle HN hz
            go_wp2_with fail
            go_region_with (go_at_call 102; refine HC.out.mono ?_; rintro e w5 ⟨rfl, hn5, hk5⟩)
            all_goals
              go_wp2
              go_roundw
              case rel =>
                refine ⟨j + 1, by omega, by go_num, ?_, ?_⟩
                · exact HT.out.keep (S := fun k => k = g) (by omega) (Keeps.trans (b := wr.drew) (Keeps.refl _ wr).drew hk5) (HT.out.p.keep (Keeps.trans (b := wr.drew) (Keeps.refl (fun k => k = g) wr).drew hk5) (by omega))
                · rw [HS.out]; exact hn5
              case measure => simp [intOf]; omega
        · have hltj' : ¬ (j : Int) < 5 := by omega
          obtain rfl : j = 5 := by omega
          have hb1 := HTS.out 5 (by omega)
          obtain ⟨s, hs⟩ : ∃ s, s = o + tmS L M i 5 := ⟨_, rfl⟩
          rw [← hs] at HN HP1
          have hsb : s ≤ 600000000000000000000000000000000 := by omega
          have hc0 := HN.out.cell 0 (by simp)
          have hc1 := HN.out.cell 1 (by simp)
          rw [show [s / 18446744073709551616, s % 18446744073709551616].getD 0 0 = s / 18446744073709551616 from rfl] at hc0
          rw [show [s / 18446744073709551616, s % 18446744073709551616].getD 1 0 = s % 18446744073709551616 from rfl] at hc1
          have hf := HT.out.p.frozen i
          have hcp := HT.out.p.cell i (by omega)
          have hand := mask51 (s % 18446744073709551616) (by omega)
          have hor := shift_join s (by omega)
          have hdv : ((s % 18446744073709551616 : Nat) : Int) / 2251799813685248 = ((s % 18446744073709551616 / 2251799813685248 : Nat) : Int) := by omega
          have hml : ((s / 18446744073709551616 : Nat) : Int) * 8192 = ((s / 18446744073709551616 * 8192 : Nat) : Int) := by omega
          have hmw := m64w (s / 18446744073709551616 * 8192) (by omega)
          rw [show s % 18446744073709551616 % 2251799813685248 = s % 2251799813685248 by omega] at hand
          have hp4 : ∀ v, (wr.setCell ⟨w.heap.size + 3, i, none⟩ v).cell? ⟨g, 0, none⟩ = wr.cell? ⟨g, 0, none⟩ := fun v => World.cell?_setCell_other _ _ _ _ (by intro e; cases e; omega)
          have hp5 : ∀ v, (wr.setCell ⟨w.heap.size + 3, i, none⟩ v).cell? ⟨g, 1, none⟩ = wr.cell? ⟨g, 1, none⟩ := fun v => World.cell?_setCell_other _ _ _ _ (by intro e; cases e; omega)
          generalize P.getD i 0 = pi at hcp
          generalize s % 18446744073709551616 / 2251799813685248 = lo at hor hdv
          generalize s / 18446744073709551616 * 8192 = hi8 at hor hml hmw
          generalize s % 18446744073709551616 = sl at hc1 hand hdv
          generalize s / 18446744073709551616 = sh at hc0 hml
          have HSet := hidden (HT.out.set i (s % 2251799813685248))
          generalize s % 2251799813685248 = sm at hand HSet HP1
          generalize s / 2251799813685248 = sd at hor HP1
          clear hb1 hs hsb HN HT
          go_wp2
          go_roundw
          case rel => 
            refine ⟨i + 1, by omega, by go_num, ?_, ?_⟩
            · rw [HP1.out]
            · rw [HP1.out]; exact HSet.out
          case measure => simp [intOf]; omega
    · have hlt' : ¬ (i : Int) < 5 := by omega
      obtain rfl : i = 5 := by omega
      obtain ⟨f1, f2, f3, f4, f5, f6⟩ := HF.out
      have hPl := prL_length L M 5
      have hdg := prL_digit L M 0
      have HPR : Hid (preL L M = (prL L M 5).1.set 0 ((prL L M 5).1.getD 0 0 + 19 * (prL L M 5).2)) := rfl
      obtain ⟨o, ho⟩ : ∃ o, o = (prL L M 5).2 := ⟨_, rfl⟩
      obtain ⟨P, hP⟩ : ∃ P, P = (prL L M 5).1 := ⟨_, rfl⟩
      rw [← ho] at f5 HPR ⊢
      rw [← hP] at HT hPl hdg HPR
      have hcp := HT.out.p.cell 0 (by omega)
      have hf := HT.out.p.frozen 0
      obtain ⟨z, hz⟩ : ∃ z, z = 19 * o := ⟨_, rfl⟩
      obtain ⟨s, hs⟩ : ∃ s, s = P.getD 0 0 + z := ⟨_, rfl⟩
      rw [← hz, ← hs] at HPR
      have hz2 : 19 * (o : Int) = (z : Int) := by omega
      have hzw := m64w z (by omega)
      have hs2 : ((P.getD 0 0 : Nat) : Int) + (z : Int) = (s : Int) := by omega
      have hsw := m64w s (by omega)
      generalize P.getD 0 0 = p0 at hcp hs2
      have HSet := hidden (HT.out.set 0 s)
      have HPe : Hid (P.set 0 s = preL L M) := HPR.out.symm
      rw [HPe.out] at HSet
      have HF1 := hidden f1
      have HF2 := hidden f2
      have HF3 := hidden f3
      have HF4 := hidden f4
      clear HF f1 f2 f3 f4 f6 hdg ho hP hz hs HPR HT HPe
      go_upto_region 18 with fail
      generalize wr.setCell ⟨w.heap.size + 3, 0, none⟩ (.int .u64 (s : Int)) = w4 at HSet ⊢
      have HC := hidden (foldTop_c (w.heap.size + 3) (preL L M) HF2.out HF1.out HF3.out HF4.out w4 HSet.out.p)
      have hF5 : (foldL (preL L M)).length = 5 := by rw [foldL_length]; exact HF2.out
      clear HF1 HF2 HF3 HF4
      go_wp2_with fail
      refine HC.out.mono ?_
      rintro e w5 ⟨rfl, hp5, hk5⟩
      have H5 := hidden (HSet.out.keep (S := fun k => k = w.heap.size + 3) (by omega) hk5 hp5)
      clear hp5 hk5 HC HSet
      obtain ⟨hsz, hone, hdd⟩ := row_facts (foldL (preL L M)) hF5
      have HPP : Hid (w5.heap[w.heap.size + 3]? = some (.cells (ncells .u64 (foldL (preL L M))).toArray 118 (0, 0))) := H5.out.p
      have HRR : Hid (w5.heap[w.heap.size + 2]? = some (.cells (ncells .u64 [0, 0, 0, 0, 0]).toArray 118 (0, 0))) := H5.out.r
      have HB5 := hidden H5.out.b
      obtain ⟨R, hR⟩ : ∃ R, R = (ncells .u64 (foldL (preL L M))).toArray := ⟨_, rfl⟩
      rw [← hR] at hsz hone hdd HPP
      have HRE := hidden hR
      have HSZ := hidden hsz
      have HON := hidden hone
      have HD := hidden hdd
      have HR1 : Hid ((w5.setRow (w.heap.size + 2) R).heap[w.heap.size + 2]? = some (.cells R 118 (0, 0))) := setRow_heap w5 (w.heap.size + 2) _ _ _ _ HRR.out
      have HL1 : Hid (Below w.heap.size w (w5.setRow (w.heap.size + 2) R)) := below_setRow HB5.out (by omega) _
      clear hsz hone hdd H5 hR
      go_wp2_with (first
        | (refine wpList_loadRow rfl 118 (.tmp 5) rfl (w.heap.size + 3) R 118 (0, 0) 5 87 rfl HPP.out Tryd.underlying118 HSZ.out ?_)
        | (refine wpList_store_row rfl 118 (.tmp 4) (.tmp 62) rfl (w.heap.size + 2) R rfl rfl 118 _ HRR.out HSZ.out HD.out HON.out ?_))
      (try simp only [Exit.inBlock, Exit.then])
      refine bodyPost_ret (results_cell1 rfl _ _ _ (w.heap.size + 2) R 118 (0, 0) 5 87 rfl HR1.out Tryd.underlying118 HSZ.out) rfl ?_
      exact ⟨by rw [HRE.out]; rfl, HL1.out⟩
theorem times_c {L M : List Nat} {a b : Nat} (h : Tm L a) (k : Tm M b) (w : World) :
    Calls Tryd.prog 94 #[.agg (ncells .u64 L).toArray, .agg (ncells .u64 M).toArray] w fun e w' => ∃ R, e = .returned (.agg (ncells .u64 R).toArray) ∧ Tm R (a * b % pC) ∧ Below w.heap.size w w' :=
  (times_l L M a b h k w).mono fun _ _ ⟨h1, h2⟩ => ⟨_, h1, (times_tm h k).2.2.2.2.2, h2⟩
end
section
open Go Go.RowKit

/-- Only new memory. -/
def Ex (w w' : World) : Prop := Below w.heap.size w w'
theorem Ex.trans {a b c : World} (h : Ex a b) (k : Ex b c) : Ex a c := Below.trans h (Below.mono k h.size)
theorem Ex.drew (w : World) : Ex w w.drew := (Below.refl _ w).drew
theorem Ex.refl (w : World) : Ex w w := Below.refl _ w
theorem Ex.alloc (w : World) (o : Obj) : Ex w (w.alloc o) := (Below.refl _ w).alloc (Nat.le_refl _) o

theorem NB.rangeL {k : IntKind} {w : World} {g : Nat} {t : TypeId} {X Z : List Nat} (h : NB k w g t (X ++ Z)) : w.rangeAt g 0 (ncells k X) := fun j v hv => by
  have hj : j < X.length := by have := (List.getElem?_eq_some_iff.1 hv).1; rwa [ncells_length] at this
  rw [Nat.zero_add, cell_row h, ncells, List.map_append, List.getElem?_append_left (by simpa using hj)]
  exact hv
theorem NB.rangeR {k : IntKind} {w : World} {g : Nat} {t : TypeId} {X Z : List Nat} (h : NB k w g t (X ++ Z)) (hx : X.length = 5) : w.rangeAt g 5 (ncells k Z) := fun j v hv => by
  rw [cell_row h, ncells, List.map_append, List.getElem?_append_right (by simp [hx])]
  simpa [hx, ncells] using hv
theorem NB.range {k : IntKind} {w : World} {g : Nat} {t : TypeId} {X : List Nat} (h : NB k w g t X) : w.rangeAt g 0 (ncells k X) := by
  have := NB.rangeL (X := X) (Z := []) (by rwa [List.append_nil])
  exact this
theorem num_size (X : List Nat) (h : X.length = 5) : (Tryd.prog.info? 118).map (·.size) = some (ncells .u64 X).length := by rw [ncells_length, h]; kernel_rfl

/-- The value of a number worth a. -/
def IsN (v : Value) (a : Nat) : Prop := ∃ R, v = .agg (ncells .u64 R).toArray ∧ Tm R a
/-- The block g holds a number worth a. -/
def N5 (w : World) (g a : Nat) : Prop := ∃ R, NB .u64 w g 118 R ∧ Tm R a
theorem N5.ext {w w' : World} {g a : Nat} (h : N5 w g a) (he : Ex w w') : N5 w' g a := by
  obtain ⟨R, h1, h2⟩ := h
  exact ⟨R, h1.fresh he, h2⟩
theorem N5.keep {S : Nat → Prop} {w w' : World} {g a : Nat} (h : N5 w g a) (hk : Keeps S w w') (hn : ¬ S g) : N5 w' g a := by
  obtain ⟨R, h1, h2⟩ := h
  exact ⟨R, h1.keep hk hn, h2⟩
theorem N5.lt {w : World} {g a : Nat} (h : N5 w g a) : g < w.heap.size := by obtain ⟨R, h1, _⟩ := h; exact h1.lt

theorem gives_load {o : Oper} {ρ : Operand → Value} {w : World} {x : Operand} {g off : Nat} {X : List Nat} {Φ : Value → World → Prop} (ho : o.op = .load 118 x) (hx : ρ x = .pointer (some ⟨g, off, none⟩))
    (hr : w.rangeAt g off (ncells .u64 X)) (hl : X.length = 5) (h : Φ (.agg (ncells .u64 X).toArray) w) : Gives Tryd.prog o ρ w Φ := by
  refine Gives.value (w' := w) (v := .agg (ncells .u64 X).toArray) ?_ h
  unfold execOp
  simp only [ho, hx]
  rw [Sem.run_bind, run_loadAt_mid w g off 118 _ _ hr Tryd.underlying118 rfl (num_size X hl)]
  rfl
theorem gives_load5 {o : Oper} {ρ : Operand → Value} {w : World} {x : Operand} {g a : Nat} {Φ : Value → World → Prop} (ho : o.op = .load 118 x) (hx : ρ x = .pointer (some ⟨g, 0, none⟩))
    (hr : N5 w g a) (h : ∀ v, IsN v a → Φ v w) : Gives Tryd.prog o ρ w Φ := by
  obtain ⟨R, h1, h2⟩ := hr
  exact gives_load ho hx h1.range h2.len (h _ ⟨R, rfl, h2⟩)
theorem gives_field {o : Oper} {ρ : Operand → Value} {w : World} {x : Operand} {g f off : Nat} {Φ : Value → World → Prop} (ho : o.op = .fieldAddr 133 x f) (hx : ρ x = .pointer (some ⟨g, 0, none⟩))
    (hf : (f = 0 ∧ off = 0) ∨ (f = 1 ∧ off = 5)) (h : Φ (.pointer (some ⟨g, off, none⟩)) w) : Gives Tryd.prog o ρ w Φ := by
  refine Gives.value (w' := w) (v := .pointer (some ⟨g, off, none⟩)) ?_ h
  unfold execOp
  simp only [ho, hx]
  rcases hf with ⟨rfl, rfl⟩ | ⟨rfl, rfl⟩
  · simp [Instr.fieldAt, run_underlying Tryd.underlying133, Instr.sureAddr, fieldPlace, Addr.add]
  · simp [Instr.fieldAt, run_underlying Tryd.underlying133, Instr.sureAddr, fieldPlace, Addr.add]
theorem enters_f {P : Program} {f : FuncId} {fn : Func} {c : Code} (hf : P.funcs[f]? = some fn) (hname : (fn.name == "runtime.NumGoroutine") = false) (hb : fn.body = some c) (args : Array Value) (w : World) : (callFunc f args).run P w = .ok (.enter f args) w := by
  have h1 : fn.name ≠ "runtime.NumGoroutine" := by simpa using hname
  simp [callFunc, hf, h1, hb, mark]
theorem gives_call {o : Oper} {ρ : Operand → Value} {w : World} {f : FuncId} {xs : Array Operand} {ts : Array TypeId} {vs : Array Value} {fn : Func} {Φ : Value → World → Prop} (ho : o.op = .call { callee := .value (.func f), args := xs, argTypes := ts }) (hρ : ρ (.func f) = .func (.func f) #[] #[])
    (hv : xs.map ρ = vs) (hf : Tryd.prog.funcs[f]? = some fn) (hname : (fn.name == "runtime.NumGoroutine") = false) (hb : fn.body.isSome = true) (h : Calls Tryd.prog f vs w fun e w' => ∃ v, e = .returned v ∧ Φ v w') : Gives Tryd.prog o ρ w Φ := by
  obtain ⟨c, hb⟩ := Option.isSome_iff_exists.1 hb
  refine Gives.enter (w' := w) (f := f) (args := vs) ?_ h
  unfold execOp
  simp only [ho]
  simp [resolve, hρ, hv, Deferred.ofValue, invoke, enters_f hf hname hb]
theorem gives_alloc {o : Oper} {ρ : Operand → Value} {w : World} {Φ : Value → World → Prop} (ho : o.op = .alloc 118)
    (h : Φ (.pointer (some ⟨w.heap.size, 0, none⟩)) (w.alloc (.cells (ncells .u64 [0, 0, 0, 0, 0]).toArray 118))) : Gives Tryd.prog o ρ w Φ := by
  refine Gives.value ?_ h
  unfold execOp
  simp only [ho]
  have hz : (zeroValue 118).run Tryd.prog w = .ok (.agg (ncells .u64 [0, 0, 0, 0, 0]).toArray) w := (zero_of_info (P := Tryd.prog) (t := 118) (v := .agg (ncells .u64 [0, 0, 0, 0, 0]).toArray) (n := 5) (by kernel_rfl)).1 w
  simp [Instr.alloc, hz, newVar]
  rfl
theorem plus_g {va vb : Value} {a b : Nat} (h : IsN va a) (k : IsN vb b) (w : World) : Calls Tryd.prog 100 #[va, vb] w fun e w' => ∃ v, e = .returned v ∧ IsN v ((a + b) % pC) ∧ Ex w w' := by
  obtain ⟨L, rfl, hL⟩ := h
  obtain ⟨M, rfl, hM⟩ := k
  exact (plus_c hL hM w).mono fun e w' ⟨R, h1, h2, h3⟩ => ⟨_, h1, ⟨R, rfl, h2⟩, h3⟩
theorem minus_g {va vb : Value} {a b : Nat} (h : IsN va a) (k : IsN vb b) (w : World) (ht : Tp w) : Calls Tryd.prog 101 #[va, vb] w fun e w' => ∃ v, e = .returned v ∧ IsN v ((a + (pC - b)) % pC) ∧ Ex w w' := by
  obtain ⟨L, rfl, hL⟩ := h
  obtain ⟨M, rfl, hM⟩ := k
  exact (minus_c hL hM w ht).mono fun e w' ⟨R, h1, h2, h3⟩ => ⟨_, h1, ⟨R, rfl, h2⟩, h3⟩
theorem times_g {va vb : Value} {a b : Nat} (h : IsN va a) (k : IsN vb b) (w : World) : Calls Tryd.prog 94 #[va, vb] w fun e w' => ∃ v, e = .returned v ∧ IsN v (a * b % pC) ∧ Ex w w' := by
  obtain ⟨L, rfl, hL⟩ := h
  obtain ⟨M, rfl, hM⟩ := k
  exact (times_c hL hM w).mono fun e w' ⟨R, h1, h2, h3⟩ => ⟨_, h1, ⟨R, rfl, h2⟩, h3⟩

/-- What each of a list of operations must show. -/
def eachL (p : Nat → Oper → Prop) : Nat → List Oper → Prop
  | _, [] => True
  | i, o :: r => p i o ∧ eachL p (i + 1) r
theorem eachL_at {p : Nat → Oper → Prop} : ∀ (l : List Oper) (k : Nat), eachL p k l → ∀ (i : Nat) (o : Oper), l[i]? = some o → p (k + i) o
  | [], k, _, i, o, h => by simp at h
  | x :: r, k, hl, 0, o, h => by simp at h; subst h; exact hl.1
  | x :: r, k, hl, i + 1, o, h => by
    have := eachL_at r (k + 1) hl.2 i o (by simpa using h)
    rwa [show k + 1 + i = k + (i + 1) by omega] at this
/-- The law of Grow, for this program, with new memory alone, and operations one by one. -/
theorem region_ex {id : Nat} {l : List Oper} {Q : Exit → Act → World → Prop} (U : Nat) {a : Act} {w : World} (hk : growOk l.toArray U = true)
    (F : Nat → Value → World → Prop) (hst : ∀ i v x y, Ex x y → F i v x → F i v y) (Sep : Nat → Value → Nat → Value → Prop)
    (hU : eachL (fun i o => ∀ vs w1, Ex w w1 → (∀ j, j < U → (edgesOf o).contains j = true → F j (vs j) w1) → Gives Tryd.prog o (actsTo l.toArray a (fun _ => true) vs U).eval w1 fun v w2 => Ex w1 w2 ∧ F i v w2 ∧ ∀ j u, j < U → F j u w1 → Sep j u i v) 0 (l.take U))
    (hrest : ∀ vs w1, Ex w w1 → (∀ i, i < U → F i (vs i) w1) → (∀ i j, i < U → j < U → i ≠ j → Sep i (vs i) j (vs j) ∨ Sep j (vs j) i (vs i)) → wpAny Tryd.prog .any l.toArray Q (l.length - U) (listedU l.length U) (actsTo l.toArray a (fun _ => true) vs U) w1) :
    (Code.region id l.toArray true).wp Tryd.prog Q a w := by
  refine region_grow U (by kernel_rfl) hk Ex (Ex.drew w) (fun _ _ _ => Ex.trans) F hst Sep (fun i o ho hi vs w1 he hd => ?_) hrest
  have hg : (l.take U)[i]? = some o := by
    rw [List.getElem?_take, if_pos hi]
    simpa using ho
  have := eachL_at (l.take U) 0 hU i o hg vs w1 he (fun j hj hjc => hd j hj (by simpa using hjc))
  rwa [Nat.zero_add] at this
end
section
open Go Go.RowKit

def fadd (a b : Nat) : Nat := (a + b) % pC
def fsub (a b : Nat) : Nat := (a + (pC - b)) % pC
def fmul (a b : Nat) : Nat := a * b % pC

/-- The value of a ratio. -/
def IsR (v : Value) (x z : Nat) : Prop := ∃ X Z, v = .agg (ncells .u64 (X ++ Z)).toArray ∧ Tm X x ∧ Tm Z z
/-- The block g holds a ratio. -/
def R10 (w : World) (g x z : Nat) : Prop := ∃ X Z, NB .u64 w g 133 (X ++ Z) ∧ Tm X x ∧ Tm Z z
theorem R10.ext {w w' : World} {g x z : Nat} (h : R10 w g x z) (he : Ex w w') : R10 w' g x z := by
  obtain ⟨X, Z, h1, h2, h3⟩ := h
  exact ⟨X, Z, h1.fresh he, h2, h3⟩
theorem R10.keep {S : Nat → Prop} {w w' : World} {g x z : Nat} (h : R10 w g x z) (hk : Keeps S w w') (hn : ¬ S g) : R10 w' g x z := by
  obtain ⟨X, Z, h1, h2, h3⟩ := h
  exact ⟨X, Z, h1.keep hk hn, h2, h3⟩
theorem R10.lt {w : World} {g x z : Nat} (h : R10 w g x z) : g < w.heap.size := by obtain ⟨X, Z, h1, _⟩ := h; exact h1.lt

/-- What is known of what an operation left. -/
inductive Kd
  | any
  | ptr (g off : Nat)
  | num (a : Nat)
  | rat (x z : Nat)
  | blk (B : Nat)
def Kd.isBlk : Kd → Bool
  | .blk _ => true
  | _ => false
def Kd.holds : Kd → Value → World → Prop
  | .any, _, _ => True
  | .ptr g off, v, _ => v = .pointer (some ⟨g, off, none⟩)
  | .num a, v, _ => IsN v a
  | .rat x z, v, _ => IsR v x z
  | .blk B, v, w => ∃ g, v = .pointer (some ⟨g, 0, none⟩) ∧ B ≤ g ∧ NB .u64 w g 118 [0, 0, 0, 0, 0]
theorem Kd.ext (k : Kd) {v : Value} {w w' : World} (he : Ex w w') (h : k.holds v w) : k.holds v w' := by
  cases k with
  | blk B => obtain ⟨g, h1, h2, h3⟩ := h; exact ⟨g, h1, h2, h3.fresh he⟩
  | _ => exact h
def Kd.sep (a : Kd) (u : Value) (b : Kd) (v : Value) : Prop := a.isBlk = true → b.isBlk = true → u ≠ v
/-- What each operation of such a region must give. -/
def GP (ks : List Kd) (U : Nat) (k : Kd) (w1 : World) (v : Value) (w2 : World) : Prop :=
  Ex w1 w2 ∧ k.holds v w2 ∧ ∀ j u, j < U → (ks.getD j .any).holds u w1 → (ks.getD j .any).sep u k v
theorem GP.plain {ks : List Kd} {U : Nat} {k : Kd} {w1 w2 : World} {v : Value} (he : Ex w1 w2) (h : k.holds v w2) (hb : k.isBlk = false) : GP ks U k w1 v w2 :=
  ⟨he, h, fun _ _ _ _ _ h2 => by rw [hb] at h2; cases h2⟩

section
variable {ks : List Kd} {U : Nat} {o : Oper} {ρ : Operand → Value} {w : World} {x y : Operand}
theorem kd_field {g f off : Nat} (ho : o.op = .fieldAddr 133 x f) (hx : ρ x = .pointer (some ⟨g, 0, none⟩)) (hf : (f = 0 ∧ off = 0) ∨ (f = 1 ∧ off = 5)) : Gives Tryd.prog o ρ w (GP ks U (.ptr g off) w) :=
  gives_field ho hx hf (GP.plain (Ex.refl w) rfl rfl)
theorem kd_load {g a : Nat} (ho : o.op = .load 118 x) (hx : ρ x = .pointer (some ⟨g, 0, none⟩)) (hb : N5 w g a) : Gives Tryd.prog o ρ w (GP ks U (.num a) w) :=
  gives_load5 ho hx hb fun _ h => GP.plain (Ex.refl w) h rfl
theorem kd_loadX {g a b : Nat} (ho : o.op = .load 118 x) (hx : ρ x = .pointer (some ⟨g, 0, none⟩)) (hb : R10 w g a b) : Gives Tryd.prog o ρ w (GP ks U (.num a) w) := by
  obtain ⟨X, Z, h1, h2, h3⟩ := hb
  exact gives_load ho hx h1.rangeL h2.len (GP.plain (Ex.refl w) ⟨X, rfl, h2⟩ rfl)
theorem kd_loadZ {g a b : Nat} (ho : o.op = .load 118 x) (hx : ρ x = .pointer (some ⟨g, 5, none⟩)) (hb : R10 w g a b) : Gives Tryd.prog o ρ w (GP ks U (.num b) w) := by
  obtain ⟨X, Z, h1, h2, h3⟩ := hb
  exact gives_load ho hx (h1.rangeR h2.len) h3.len (GP.plain (Ex.refl w) ⟨Z, rfl, h3⟩ rfl)
theorem kd_plus {a b : Nat} {ts : Array TypeId} (ho : o.op = .call { callee := .value (.func 100), args := #[x, y], argTypes := ts }) (hρ : ρ (.func 100) = .func (.func 100) #[] #[]) {vx vy : Value} (ex : ρ x = vx) (hx : IsN vx a) (ey : ρ y = vy) (hy : IsN vy b) : Gives Tryd.prog o ρ w (GP ks U (.num (fadd a b)) w) :=
  gives_call (vs := #[vx, vy]) ho hρ (by simp [ex, ey]) Tryd.func100 (by kernel_rfl) (by kernel_rfl) ((plus_g hx hy w).mono fun _ _ ⟨v, h1, h2, h3⟩ => ⟨v, h1, GP.plain h3 h2 rfl⟩)
theorem kd_minus {a b : Nat} {ts : Array TypeId} (ho : o.op = .call { callee := .value (.func 101), args := #[x, y], argTypes := ts }) (hρ : ρ (.func 101) = .func (.func 101) #[] #[]) {vx vy : Value} (ex : ρ x = vx) (hx : IsN vx a) (ey : ρ y = vy) (hy : IsN vy b) (ht : Tp w) : Gives Tryd.prog o ρ w (GP ks U (.num (fsub a b)) w) :=
  gives_call (vs := #[vx, vy]) ho hρ (by simp [ex, ey]) Tryd.func101 (by kernel_rfl) (by kernel_rfl) ((minus_g hx hy w ht).mono fun _ _ ⟨v, h1, h2, h3⟩ => ⟨v, h1, GP.plain h3 h2 rfl⟩)
theorem kd_times {a b : Nat} {ts : Array TypeId} (ho : o.op = .call { callee := .value (.func 94), args := #[x, y], argTypes := ts }) (hρ : ρ (.func 94) = .func (.func 94) #[] #[]) {vx vy : Value} (ex : ρ x = vx) (hx : IsN vx a) (ey : ρ y = vy) (hy : IsN vy b) : Gives Tryd.prog o ρ w (GP ks U (.num (fmul a b)) w) :=
  gives_call (vs := #[vx, vy]) ho hρ (by simp [ex, ey]) Tryd.func94 (by kernel_rfl) (by kernel_rfl) ((times_g hx hy w).mono fun _ _ ⟨v, h1, h2, h3⟩ => ⟨v, h1, GP.plain h3 h2 rfl⟩)
theorem kd_alloc {B : Nat} (ho : o.op = .alloc 118) (hB : B ≤ w.heap.size) : Gives Tryd.prog o ρ w (GP ks U (.blk B) w) := by
  refine gives_alloc ho ⟨Ex.alloc w _, ⟨_, rfl, hB, NB.new w _⟩, fun j u hj hh hb _ => ?_⟩
  generalize ks.getD j .any = k at hh hb
  cases k with
  | blk B' =>
    obtain ⟨g, rfl, _, h3⟩ := hh
    have := h3.lt
    intro e
    injection e with e
    injection e with e
    injection e with e
    omega
  | _ => cases hb
/-- The number that 121665 is. -/
theorem tm_quarter : Tm [121665, 0, 0, 0, 0] 121665 := ⟨rfl, by decide, fun i hi => by
  match i, hi with
  | 1, _ | 2, _ | 3, _ | 4, _ => simp
  | k + 5, _ => simp, by decide⟩
theorem kd_build (ho : o.op = .build 118 #[(0, .const (.int .u64 121665))]) (hρ : ρ (.const (.int .u64 121665)) = .int .u64 121665) : Gives Tryd.prog o ρ w (GP ks U (.num 121665) w) := by
  refine Gives.value (w' := w) (v := .agg (ncells .u64 [121665, 0, 0, 0, 0]).toArray) ?_ (GP.plain (Ex.refl w) ⟨_, rfl, tm_quarter⟩ rfl)
  unfold execOp
  simp only [ho]
  have hb : (Instr.build 118 (#[((0 : Nat), Operand.const (.int .u64 121665))].map fun (i, x) => (i, ρ x))).run Tryd.prog w = .ok (.agg (ncells .u64 [121665, 0, 0, 0, 0]).toArray) w := by
    refine run_build w _ _ _ ?_
    have e : (#[((0 : Nat), Operand.const (.int .u64 121665))].map fun (i, x) => (i, ρ x)).toList = [(0, .int .u64 121665)] := by simp [hρ]
    rw [e]
    show Tryd.prog.built 118 [(0, .int .u64 121665)] = some (ncells .u64 [121665, 0, 0, 0, 0]).toArray
    kernel_rfl
  rw [Sem.run_bind, hb]
  rfl
end

theorem wpAny_one {l : List Oper} {Q : Exit → Act → World → Prop} {i fuel : Nat} {listed : Array Bool} {o : Oper} {a : Act} {w : World} (hr : Region.ready .any l.toArray listed = [i]) (ho : l[i]? = some o) (hg : o.guard = none)
    (h : o.wp Tryd.prog a w (wpAny Tryd.prog .any l.toArray Q fuel (listed.setIfInBounds i true)) Q) : wpAny Tryd.prog .any l.toArray Q (fuel + 1) listed a w := by
  refine wpAny_all hr (by simp) fun j hj => ?_
  obtain rfl := List.mem_singleton.1 hj
  unfold wpOp
  rw [show l.toArray[j]? = some o by simpa using ho]
  simp only [Region.wanted, hg, if_true]
  exact .inl h

/-- What operation i of a region must show. -/
def Req (l : List Oper) (ks : List Kd) (U : Nat) (a : Act) (w : World) (i : Nat) (o : Oper) : Prop :=
  ∀ vs w1, Ex w w1 → (∀ j, j < U → (edgesOf o).contains j = true → (ks.getD j .any).holds (vs j) w1) → Gives Tryd.prog o (actsTo l.toArray a (fun _ => true) vs U).eval w1 (GP ks U (ks.getD i .any) w1)
theorem req_op {l : List Oper} {ks : List Kd} {U : Nat} {a : Act} {w : World} {i : Nat} {o : Oper} (k : Kd) (hk : ks.getD i .any = k)
    (h : ∀ vs w1, Ex w w1 → (∀ j (k : Kd), j < U → (edgesOf o).contains j = true → ks.getD j .any = k → k.holds (vs j) w1) → Gives Tryd.prog o (actsTo l.toArray a (fun _ => true) vs U).eval w1 (GP ks U k w1)) : Req l ks U a w i o := fun vs w1 he hd => by
  rw [hk]
  exact h vs w1 he fun j k h1 h2 h3 => by have := hd j h1 h2; rwa [h3] at this
def isStore (t : TypeId) (d e : Tmp) (o : Option Oper) : Prop := o.map (fun o => (o.op, o.guard, o.dst)) = some (.store t (.tmp d) (.tmp e), none, none)
theorem isStore.spec {t : TypeId} {d e : Tmp} {o : Option Oper} (h : isStore t d e o) : ∃ o1, o = some o1 ∧ o1.op = .store t (.tmp d) (.tmp e) ∧ o1.guard = none ∧ o1.dst = none := by
  unfold isStore at h
  cases o with
  | none => simp at h
  | some o1 => simp at h; exact ⟨o1, rfl, h⟩
/-- Loads, two calls, two new places, two stores. -/
theorem region_two {id : Nat} {l : List Oper} {Q : Exit → Act → World → Prop} (U p1 p2 c1 c2 a1 a2 : Nat) {a : Act} {w : World} (ks : List Kd) (d1 e1 d2 e2 : Tmp)
    (hk : growOk l.toArray U = true) (hp : p1 < U ∧ p2 < U ∧ c1 < U ∧ c2 < U ∧ p1 ≠ p2) (hlen : l.length = U + 2)
    (k1 : ks.getD p1 .any = .blk w.heap.size) (k2 : ks.getD p2 .any = .blk w.heap.size) (k3 : ks.getD c1 .any = .num a1) (k4 : ks.getD c2 .any = .num a2)
    (hU : eachL (Req l ks U a w) 0 (l.take U))
    (hs1 : isStore 118 d1 e1 l[U]?) (hs2 : isStore 118 d2 e2 l[U + 1]?)
    (r1 : Region.ready .any l.toArray (listedU (U + 2) U) = [U]) (r2 : Region.ready .any l.toArray ((listedU (U + 2) U).setIfInBounds U true) = [U + 1]) (r3 : Region.ready .any l.toArray (((listedU (U + 2) U).setIfInBounds U true).setIfInBounds (U + 1) true) = [])
    (ev : ∀ vs, (actsTo l.toArray a (fun _ => true) vs U).eval (.tmp d1) = vs p1 ∧ (actsTo l.toArray a (fun _ => true) vs U).eval (.tmp e1) = vs c1 ∧ (actsTo l.toArray a (fun _ => true) vs U).eval (.tmp d2) = vs p2 ∧ (actsTo l.toArray a (fun _ => true) vs U).eval (.tmp e2) = vs c2)
    (hcont : ∀ vs w' g1 g2, Ex w w' → vs p1 = .pointer (some ⟨g1, 0, none⟩) → vs p2 = .pointer (some ⟨g2, 0, none⟩) → N5 w' g1 a1 → N5 w' g2 a2 → w.heap.size ≤ g1 → w.heap.size ≤ g2 → Q .normal (actsTo l.toArray a (fun _ => true) vs U) w') :
    (Code.region id l.toArray true).wp Tryd.prog Q a w := by
  obtain ⟨h1, h2, h3, h4, h5⟩ := hp
  obtain ⟨o1, ho1, hs1⟩ := hs1.spec
  obtain ⟨o2, ho2, hs2⟩ := hs2.spec
  refine region_ex U hk (fun i => (ks.getD i .any).holds) (fun i v x y he h => Kd.ext _ he h) (fun j u i v => (ks.getD j .any).sep u (ks.getD i .any) v) hU fun vs w1 he hF hS => ?_
  obtain ⟨e1', e2', e3', e4'⟩ := ev vs
  have f1 := hF p1 h1
  have f2 := hF p2 h2
  have f3 := hF c1 h3
  have f4 := hF c2 h4
  rw [k1] at f1
  rw [k2] at f2
  rw [k3] at f3
  rw [k4] at f4
  obtain ⟨g1, hg1, hb1, hn1⟩ := f1
  obtain ⟨g2, hg2, hb2, hn2⟩ := f2
  obtain ⟨R1, hv1, ht1⟩ := f3
  obtain ⟨R2, hv2, ht2⟩ := f4
  have hne : g1 ≠ g2 := by
    intro e
    subst e
    rcases hS p1 p2 h1 h2 h5 with h | h
    · exact h (by rw [k1]; rfl) (by rw [k2]; rfl) (hg1.trans hg2.symm)
    · exact h (by rw [k2]; rfl) (by rw [k1]; rfl) (hg2.trans hg1.symm)
  obtain ⟨z1, y1, x1⟩ := row_facts R1 ht1.len
  obtain ⟨z2, y2, x2⟩ := row_facts R2 ht2.len
  rw [hlen, show U + 2 - U = 1 + 1 by omega]
  refine wpAny_one r1 ho1 hs1.2.1 ?_
  refine wp_store_row 118 _ _ hs1.1 g1 (ncells .u64 R1).toArray (e1'.trans hg1) (e2'.trans hv1) 118 _ hn1 z1 x1 y1 ?_
  rw [hs1.2.2]
  refine wpAny_one r2 ho2 hs2.2.1 ?_
  have hn2' : (w1.setRow g1 (ncells .u64 R1).toArray).heap[g2]? = some (.cells (ncells .u64 [0, 0, 0, 0, 0]).toArray 118 (0, 0)) := by rw [setRow_other _ _ _ _ (Ne.symm hne)]; exact hn2
  refine wp_store_row 118 _ _ hs2.1 g2 (ncells .u64 R2).toArray (e3'.trans hg2) (e4'.trans hv2) 118 _ hn2' z2 x2 y2 ?_
  rw [hs2.2.2]
  refine wpAny_done r3 ?_ 0
  refine hcont vs _ g1 g2 ?_ hg1 hg2 ⟨R1, ?_, ht1⟩ ⟨R2, ?_, ht2⟩ hb1 hb2
  · exact below_setRow (below_setRow he hb1 _) hb2 _
  · unfold NB
    rw [setRow_other _ _ _ _ hne, setRow_heap _ _ _ _ _ _ hn1]
  · unfold NB
    rw [setRow_heap _ _ _ _ _ _ hn2']

theorem eachL_take {p : Nat → Oper → Prop} {k n : Nat} {o : Oper} {r : List Oper} (h : p k o) (t : eachL p (k + 1) (r.take n)) : eachL p k ((o :: r).take (n + 1)) := by
  rw [List.take_succ_cons]
  exact ⟨h, t⟩
theorem eachL_zero {p : Nat → Oper → Prop} {k : Nat} {l : List Oper} : eachL p k (l.take 0) := by
  rw [List.take_zero]
  exact trivial
theorem req_take {l : List Oper} {ks : List Kd} {U : Nat} {a : Act} {w : World} {i n : Nat} {o : Oper} {r : List Oper} (k : Kd) (hk : ks.getD i .any = k)
    (h : ∀ vs w1, Ex w w1 → (∀ j (k : Kd), j < U → (edgesOf o).contains j = true → ks.getD j .any = k → k.holds (vs j) w1) → Gives Tryd.prog o (actsTo l.toArray a (fun _ => true) vs U).eval w1 (GP ks U k w1))
    (t : eachL (Req l ks U a w) (i + 1) (r.take n)) : eachL (Req l ks U a w) i ((o :: r).take (n + 1)) := eachL_take (req_op k hk h) t
theorem wpList_gives {ops : Array Oper} {rest : List Oper} {o : Oper} {a : Act} {w : World} {Q : Exit → Act → World → Prop} {Φ : Value → World → Prop} (hg : o.guard = none) (h : Gives Tryd.prog o a.eval w Φ) (hK : ∀ v w', Φ v w' → wpList Tryd.prog ops Q rest (a.put o.dst v) w') : wpList Tryd.prog ops Q (o :: rest) a w :=
  wpList_plain hg fun _ hk => h.wp fun v w' hv => hk _ _ (hK v w' hv)
/-- Some cells of a row, set anew. -/
def setL : List Nat → Nat → List Nat → List Nat
  | D, _, [] => D
  | D, o, r :: rs => setL (D.set o r) (o + 1) rs
theorem NB.setCells {k : IntKind} {g : Nat} {t : TypeId} : ∀ (R D : List Nat) (o : Nat) (w : World), NB k w g t D → NB k (w.setCells g o (ncells k R)) g t (setL D o R)
  | [], _, _, _, h => h
  | r :: rs, D, o, _, h => NB.setCells rs (D.set o r) (o + 1) _ (h.set o r)
theorem Keeps.setCells {S : Nat → Prop} {g : Nat} (hg : S g) : ∀ (vs : List Value) (o : Nat) (a w : World), Keeps S a w → Keeps S a (w.setCells g o vs)
  | [], _, _, _, h => h
  | v :: r, o, a, _, h => Keeps.setCells hg r (o + 1) a _ (h.setCell (p := ⟨g, o, none⟩) (.inl hg) v)
theorem NB.there {k : IntKind} {w : World} {g : Nat} {t : TypeId} {D : List Nat} (h : NB k w g t D) (o n : Nat) (hn : o + n ≤ D.length) : w.there g o n := fun j hj => by
  refine ⟨?_, h.frozen _⟩
  rw [h.cell (o + j) (by omega)]
  rfl
theorem num_one (R : List Nat) : (ncells .u64 R).toArray.all (·.oneCell') = true := by simp [ncells, Value.oneCell']
theorem num_size' (X : List Nat) (h : X.length = 5) : (Tryd.prog.info? 118).map (·.size) = some (ncells .u64 X).toArray.size := by rw [List.size_toArray, ncells_length, h]; kernel_rfl
/-- Loads, calls, and one store into the middle of a block. -/
theorem region_mid {id : Nat} {l : List Oper} {Q : Exit → Act → World → Prop} (U p1 c1 a1 g off : Nat) {a : Act} {w : World} (ks : List Kd) (d1 e1 : Tmp) (t : TypeId) (D : List Nat)
    (hk : growOk l.toArray U = true) (hp : p1 < U ∧ c1 < U) (hlen : l.length = U + 1)
    (k1 : ks.getD p1 .any = .ptr g off) (k3 : ks.getD c1 .any = .num a1)
    (hU : eachL (Req l ks U a w) 0 (l.take U))
    (hs1 : isStore 118 d1 e1 l[U]?)
    (r1 : Region.ready .any l.toArray (listedU (U + 1) U) = [U]) (r2 : Region.ready .any l.toArray ((listedU (U + 1) U).setIfInBounds U true) = [])
    (ev : ∀ vs, (actsTo l.toArray a (fun _ => true) vs U).eval (.tmp d1) = vs p1 ∧ (actsTo l.toArray a (fun _ => true) vs U).eval (.tmp e1) = vs c1)
    (hD : NB .u64 w g t D) (hDl : off + 5 ≤ D.length)
    (hcont : ∀ vs w' R, Keeps (fun k => k = g) w w' → Tm R a1 → NB .u64 w' g t (setL D off R) → Q .normal (actsTo l.toArray a (fun _ => true) vs U) w') :
    (Code.region id l.toArray true).wp Tryd.prog Q a w := by
  obtain ⟨o1, ho1, hs1⟩ := hs1.spec
  refine region_ex U hk (fun i => (ks.getD i .any).holds) (fun i v x y he h => Kd.ext _ he h) (fun j u i v => (ks.getD j .any).sep u (ks.getD i .any) v) hU fun vs w1 he hF hS => ?_
  obtain ⟨e1', e2'⟩ := ev vs
  have f1 := hF p1 hp.1
  have f3 := hF c1 hp.2
  rw [k1] at f1
  rw [k3] at f3
  obtain ⟨R1, hv1, ht1⟩ := f3
  have hD1 := hD.fresh he
  rw [hlen, show U + 1 - U = 0 + 1 by omega]
  refine wpAny_one r1 ho1 hs1.2.1 ?_
  refine wp_store_mid 118 _ _ hs1.1 g off (ncells .u64 R1).toArray (e1'.trans f1) (e2'.trans hv1) (by rw [List.size_toArray, ncells_length, ht1.len]; exact hD1.there off 5 hDl) (num_size' R1 ht1.len) (num_one R1) ?_
  rw [hs1.2.2]
  refine wpAny_done r2 ?_ 0
  exact hcont vs _ R1 (Keeps.setCells (S := fun k => k = g) (g := g) rfl _ _ _ _ (Keeps.ofFresh he)) ht1 (NB.setCells R1 D off w1 hD1)
theorem rat_size (X Z : List Nat) (h : X.length = 5) (h2 : Z.length = 5) : (Tryd.prog.info? 133).map (·.size) = some (ncells .u64 (X ++ Z)).toArray.size := by rw [List.size_toArray, ncells_length, List.length_append, h, h2]; kernel_rfl
theorem gives_loadR {o : Oper} {ρ : Operand → Value} {w : World} {x : Operand} {g : Nat} {X Z : List Nat} {Φ : Value → World → Prop} (ho : o.op = .load 133 x) (hx : ρ x = .pointer (some ⟨g, 0, none⟩))
    (hr : NB .u64 w g 133 (X ++ Z)) (hl : X.length = 5) (hl2 : Z.length = 5) (h : Φ (.agg (ncells .u64 (X ++ Z)).toArray) w) : Gives Tryd.prog o ρ w Φ := by
  refine Gives.value (w' := w) (v := .agg (ncells .u64 (X ++ Z)).toArray) ?_ h
  unfold execOp
  simp only [ho, hx]
  rw [Sem.run_bind, run_loadAt_mid w g 0 133 _ _ hr.range Tryd.underlying133 rfl (by rw [rat_size X Z hl hl2, List.size_toArray])]
  rfl
theorem Ex.trans' {w wr wr' : World} {g : Nat} (h : Ex w wr) (hk : Keeps (fun k => k = w.heap.size + g) wr wr') : Ex w wr' := Below.trans h (hk.below (B := w.heap.size) h.size (by intro k e; omega))
/-- What lies ready in 'step'. -/
structure ST (w wr : World) (x2 z2 x3 z3 u : Nat) (D S : List Nat) : Prop where
  a : R10 wr w.heap.size x2 z2
  b : R10 wr (w.heap.size + 1) x3 z3
  u : N5 wr (w.heap.size + 2) u
  d : NB .u64 wr (w.heap.size + 3) 133 D
  s : NB .u64 wr (w.heap.size + 4) 133 S
  e : Ex w wr
  t : Tp wr
theorem ST.ext {w wr wr' : World} {x2 z2 x3 z3 u : Nat} {D S : List Nat} (h : ST w wr x2 z2 x3 z3 u D S) (he : Ex wr wr') : ST w wr' x2 z2 x3 z3 u D S :=
  ⟨h.a.ext he, h.b.ext he, h.u.ext he, h.d.fresh he, h.s.fresh he, h.e.trans he, h.t.fresh he⟩
theorem ST.size {w wr : World} {x2 z2 x3 z3 u : Nat} {D S : List Nat} (h : ST w wr x2 z2 x3 z3 u D S) : w.heap.size + 5 ≤ wr.heap.size := by have := h.s.lt; omega
theorem ST.setD {w wr wr' : World} {x2 z2 x3 z3 u : Nat} {D S D' : List Nat} (h : ST w wr x2 z2 x3 z3 u D S) (h0 : 0 < w.heap.size) (hk : Keeps (fun k => k = w.heap.size + 3) wr wr') (hd : NB .u64 wr' (w.heap.size + 3) 133 D') : ST w wr' x2 z2 x3 z3 u D' S :=
  ⟨h.a.keep hk (by omega), h.b.keep hk (by omega), h.u.keep hk (by omega), hd, h.s.keep hk (by omega), h.e.trans' hk, h.t.keep hk (by omega)⟩
theorem ST.setS {w wr wr' : World} {x2 z2 x3 z3 u : Nat} {D S S' : List Nat} (h : ST w wr x2 z2 x3 z3 u D S) (h0 : 0 < w.heap.size) (hk : Keeps (fun k => k = w.heap.size + 4) wr wr') (hd : NB .u64 wr' (w.heap.size + 4) 133 S') : ST w wr' x2 z2 x3 z3 u D S' :=
  ⟨h.a.keep hk (by omega), h.b.keep hk (by omega), h.u.keep hk (by omega), h.d.keep hk (by omega), hd, h.e.trans' hk, h.t.keep hk (by omega)⟩
end
end Go.Proofs.YtookapglookphaaDoor
