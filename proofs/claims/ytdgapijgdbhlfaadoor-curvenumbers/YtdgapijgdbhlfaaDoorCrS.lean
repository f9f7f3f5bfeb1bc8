/- The document's numbers: sixteen parts of sixteen bits, plainly. -/
import Derived.Test.YtdgapijgdbhlfaaDoorCuE
namespace Go.Proofs.YtdgapijgdbhlfaaDoor
open Go Go.RowKit

/-- What the first n parts are worth. -/
def vI (L : List Int) : Nat → Int
  | 0 => 0
  | n + 1 => vI L n + L.getD n 0 * 65536 ^ n
theorem getD_setI (P : List Int) (k : Nat) (x : Int) (l : Nat) : (P.set k x).getD l 0 = if l = k ∧ k < P.length then x else P.getD l 0 := by
  simp only [List.getD_eq_getElem?_getD, List.getElem?_set]
  by_cases h : k = l
  · subst h
    by_cases h2 : k < P.length
    · simp [h2]
    · rw [if_pos rfl, if_neg h2, if_neg (fun h3 => h2 h3.2), List.getElem?_eq_none (by omega)]
  · rw [if_neg h, if_neg (fun h3 => h h3.1.symm)]
theorem vI_congr {L M : List Int} (n : Nat) (h : ∀ i, i < n → L.getD i 0 = M.getD i 0) : vI L n = vI M n := by
  induction n with
  | zero => rfl
  | succ n ih => rw [vI, vI, ih (fun i hi => h i (by omega)), h n (by omega)]
theorem vI_set (L : List Int) (k : Nat) (x : Int) (n : Nat) (hk : k < n) (hl : k < L.length) : vI (L.set k x) n = vI L n + (x - L.getD k 0) * 65536 ^ k := by
  induction n with
  | zero => omega
  | succ n ih =>
    rw [vI, vI]
    by_cases h : k = n
    · subst h
      rw [getD_setI, if_pos ⟨rfl, hl⟩, vI_congr (L := L.set k x) (M := L) k (fun i hi => by rw [getD_setI, if_neg (by omega)]), Int.sub_mul]
      omega
    · rw [ih (by omega), getD_setI, if_neg (by omega)]
      omega
/-- What goes on into part i. -/
def qp (L : List Int) : Nat → Int
  | 0 => 0
  | i + 1 => (L.getD i 0 + qp L i) / 65536
/-- The carry, behind i rounds. -/
def crTo (L : List Int) : Nat → List Int
  | 0 => L
  | i + 1 =>
    if i < 15 then ((crTo L i).set (i + 1) ((crTo L i).getD (i + 1) 0 + (crTo L i).getD i 0 / 65536)).set i ((crTo L i).getD i 0 - 65536 * ((crTo L i).getD i 0 / 65536))
    else ((crTo L i).set 0 ((crTo L i).getD 0 0 + 38 * ((crTo L i).getD i 0 / 65536))).set i ((crTo L i).getD i 0 - 65536 * ((crTo L i).getD i 0 / 65536))
theorem crTo_length (L : List Int) (i : Nat) : (crTo L i).length = L.length := by
  induction i with
  | zero => rfl
  | succ i ih => unfold crTo; split <;> simp [ih]
theorem crTo_form (L : List Int) (hL : L.length = 16) (i : Nat) (hi : i ≤ 15) (j : Nat) : (crTo L i).getD j 0 = if j < i then (L.getD j 0 + qp L j) % 65536 else if j = i then L.getD j 0 + qp L j else L.getD j 0 := by
  induction i generalizing j with
  | zero =>
    show L.getD j 0 = _
    rw [if_neg (by omega)]
    split
    · rename_i h; subst h; simp [qp]
    · rfl
  | succ i ih =>
    have hl := crTo_length L i
    have e1 := ih (by omega) i
    rw [if_neg (by omega), if_pos rfl] at e1
    have e2 := ih (by omega) (i + 1)
    rw [if_neg (by omega), if_neg (by omega)] at e2
    have ej := ih (by omega) j
    unfold crTo
    rw [if_pos (by omega), getD_setI, getD_setI, e1, e2, ej, List.length_set, hl, hL]
    by_cases h1 : j = i
    · subst h1
      rw [if_pos ⟨rfl, by omega⟩, if_pos (by omega)]
      omega
    · rw [if_neg (by omega)]
      by_cases h2 : j = i + 1
      · subst h2
        rw [if_pos ⟨rfl, by omega⟩, if_neg (by omega), if_pos rfl]
        rfl
      · rw [if_neg (by omega)]
        by_cases h3 : j < i
        · rw [if_pos h3, if_pos (by omega)]
        · rw [if_neg h3, if_neg h1, if_neg (by omega), if_neg h2]
theorem crTo_end (L : List Int) (hL : L.length = 16) (j : Nat) (hj : j < 16) : (crTo L 16).getD j 0 = if j = 0 then (L.getD 0 0 + qp L 0) % 65536 + 38 * qp L 16 else (L.getD j 0 + qp L j) % 65536 := by
  have hl := crTo_length L 15
  have e1 := crTo_form L hL 15 (by omega) 15
  rw [if_neg (by omega), if_pos rfl] at e1
  have e0 := crTo_form L hL 15 (by omega) 0
  rw [if_pos (by omega)] at e0
  have ej := crTo_form L hL 15 (by omega) j
  have hq : qp L 16 = (L.getD 15 0 + qp L 15) / 65536 := rfl
  rw [crTo, if_neg (by omega), getD_setI, getD_setI, e1, e0, ej, List.length_set, hl, hL, ← hq]
  by_cases h1 : j = 15
  · subst h1
    rw [if_pos ⟨rfl, by omega⟩, if_neg (by omega)]
    omega
  · rw [if_neg (by omega)]
    by_cases h2 : j = 0
    · subst h2
      rw [if_pos ⟨rfl, by omega⟩, if_pos rfl]
    · rw [if_neg (by omega), if_pos (by omega), if_neg h2]
theorem pow_step (i : Nat) : (65536 : Int) ^ (i + 1) = 65536 * 65536 ^ i := by rw [Int.pow_succ, Int.mul_comm]
/-- The carry leaves what the parts are worth, but for a multiple of twice the prime. -/
theorem crTo_val15 (L : List Int) (hL : L.length = 16) (i : Nat) (hi : i ≤ 15) : vI (crTo L i) 16 = vI L 16 := by
  induction i with
  | zero => rfl
  | succ i ih =>
    have hl := crTo_length L i
    have h := ih (by omega)
    unfold crTo
    rw [if_pos (by omega), vI_set _ i _ 16 (by omega) (by rw [List.length_set]; omega), vI_set _ (i + 1) _ 16 (by omega) (by omega), h, getD_setI, if_neg (by omega), pow_step]
    generalize (crTo L i).getD i 0 / 65536 = q
    generalize (crTo L i).getD i 0 = x
    generalize (crTo L i).getD (i + 1) 0 = y
    generalize (65536 : Int) ^ i = P
    rw [show y + q - y = q by omega, show x - 65536 * q - x = -(65536 * q) by omega, Int.neg_mul, Int.mul_comm 65536 q, Int.mul_assoc]
    omega
theorem crTo_val (L : List Int) (hL : L.length = 16) : vI (crTo L 16) 16 = vI L 16 - qp L 16 * 115792089237316195423570985008687907853269984665640564039457584007913129639898 := by
  have hl := crTo_length L 15
  have h := crTo_val15 L hL 15 (by omega)
  have e1 := crTo_form L hL 15 (by omega) 15
  rw [if_neg (by omega), if_pos rfl] at e1
  have hq : qp L 16 = (L.getD 15 0 + qp L 15) / 65536 := rfl
  rw [crTo, if_neg (by omega), vI_set _ 15 _ 16 (by omega) (by rw [List.length_set]; omega), vI_set _ 0 _ 16 (by omega) (by omega), h, getD_setI, if_neg (by omega), e1, ← hq]
  rw [show (65536 : Int) ^ 15 = 1766847064778384329583297500742918515827483896875618958121606201292619776 by decide +kernel, show (65536 : Int) ^ 0 = 1 from rfl]
  omega
theorem qp_bound (L : List Int) (M K : Int) (hM : ∀ j, -M ≤ L.getD j 0 ∧ L.getD j 0 ≤ M) (hK : M + K ≤ 65536 * K) (h0 : 0 ≤ K) (i : Nat) : -K ≤ qp L i ∧ qp L i ≤ K := by
  induction i with
  | zero => simp [qp]; omega
  | succ i ih =>
    have := hM i
    unfold qp
    omega
/-- A number that may be added, taken away or multiplied by itself. -/
structure Rb (L : List Int) (a : Nat) : Prop where
  len : L.length = 16
  bd : ∀ i, -131146 ≤ L.getD i 0 ∧ L.getD i 0 ≤ 131146
  val : vI L 16 % (pC : Int) = (a : Int)
/-- A number as a product leaves it. -/
structure Rc (L : List Int) (a : Nat) : Prop where
  len : L.length = 16
  low : -38 ≤ L.getD 0 0 ∧ L.getD 0 0 ≤ 65573
  rest : ∀ i, 0 < i → 0 ≤ L.getD i 0 ∧ L.getD i 0 ≤ 65535
  val : vI L 16 % (pC : Int) = (a : Int)
theorem Rc.all {L : List Int} {a : Nat} (h : Rc L a) (i : Nat) : -38 ≤ L.getD i 0 ∧ L.getD i 0 ≤ 65573 := by
  by_cases hi : i = 0
  · subst hi; exact h.low
  · have := h.rest i (by omega); omega
theorem Rc.rb {L : List Int} {a : Nat} (h : Rc L a) : Rb L a := ⟨h.len, fun i => by have := h.all i; omega, h.val⟩
theorem Rb.lt {L : List Int} {a : Nat} (h : Rb L a) : a < pC := by
  have := Int.emod_lt_of_pos (vI L 16) (show (0 : Int) < (pC : Int) by decide)
  rw [h.val] at this
  omega
/-- Two carries. -/
theorem carry_twice {L : List Int} (hL : L.length = 16) (hb : ∀ j, -200000000000000 ≤ L.getD j 0 ∧ L.getD j 0 ≤ 200000000000000) :
    (∀ j, -200000000000 ≤ (crTo L 16).getD j 0 ∧ (crTo L 16).getD j 0 ≤ 200000000000) ∧ ∃ a, Rc (crTo (crTo L 16) 16) a ∧ vI L 16 % (pC : Int) = (a : Int) := by
  have q1 := qp_bound L 200000000000000 3100000000 hb (by omega) (by omega)
  have hl := crTo_length L 16
  have f1 : ∀ j, j < 16 → (crTo L 16).getD j 0 = if j = 0 then (L.getD 0 0 + qp L 0) % 65536 + 38 * qp L 16 else (L.getD j 0 + qp L j) % 65536 := crTo_end L hL
  have b1 : ∀ j, 0 < j → 0 ≤ (crTo L 16).getD j 0 ∧ (crTo L 16).getD j 0 ≤ 65535 := by
    intro j hj
    by_cases h16 : j < 16
    · rw [f1 j h16, if_neg (by omega)]; omega
    · rw [List.getD_eq_getElem?_getD, List.getElem?_eq_none (by omega)]; simp
  have b0 : -200000000000 ≤ (crTo L 16).getD 0 0 ∧ (crTo L 16).getD 0 0 ≤ 200000000000 := by
    have := q1 16
    rw [f1 0 (by omega), if_pos rfl]
    omega
  have ball : ∀ j, -200000000000 ≤ (crTo L 16).getD j 0 ∧ (crTo L 16).getD j 0 ≤ 200000000000 := by
    intro j
    by_cases h : j = 0
    · subst h; exact b0
    · have := b1 j (by omega); omega
  refine ⟨ball, ?_⟩
  generalize hM : crTo L 16 = M at *
  have hl2 := crTo_length M 16
  have f2 := crTo_end M (by omega)
  have k1 : -3200000 ≤ qp M 1 ∧ qp M 1 ≤ 3200000 := by show -3200000 ≤ (M.getD 0 0 + 0) / 65536 ∧ (M.getD 0 0 + 0) / 65536 ≤ _; omega
  have k2 : -50 ≤ qp M 2 ∧ qp M 2 ≤ 50 := by have := b1 1 (by omega); show -50 ≤ (M.getD 1 0 + qp M 1) / 65536 ∧ (M.getD 1 0 + qp M 1) / 65536 ≤ _; omega
  have k3 : ∀ i, -1 ≤ qp M (i + 3) ∧ qp M (i + 3) ≤ 1 := by
    intro i
    induction i with
    | zero => have := b1 2 (by omega); show -1 ≤ (M.getD 2 0 + qp M 2) / 65536 ∧ (M.getD 2 0 + qp M 2) / 65536 ≤ _; omega
    | succ i ih => have := b1 (i + 3) (by omega); show -1 ≤ (M.getD (i + 3) 0 + qp M (i + 3)) / 65536 ∧ (M.getD (i + 3) 0 + qp M (i + 3)) / 65536 ≤ _; omega
  have k16 : -1 ≤ qp M 16 ∧ qp M 16 ≤ 1 := k3 13
  have v1 := crTo_val L hL
  have v2 := crTo_val M (by omega)
  rw [hM] at v1
  have hv : vI (crTo M 16) 16 % (pC : Int) = vI L 16 % (pC : Int) := by
    have : vI (crTo M 16) 16 = vI L 16 - (pC : Int) * (2 * qp L 16 + 2 * qp M 16) := by
      rw [v2, v1, show (pC : Int) = 57896044618658097711785492504343953926634992332820282019728792003956564819949 from rfl]
      omega
    rw [this, Int.sub_mul_emod_self_left]
  refine ⟨(vI L 16 % (pC : Int)).toNat, ⟨by omega, ?_, ?_, ?_⟩, ?_⟩
  · rw [f2 0 (by omega), if_pos rfl]
    omega
  · intro j hj
    by_cases h16 : j < 16
    · rw [f2 j h16, if_neg (by omega)]; omega
    · rw [List.getD_eq_getElem?_getD, List.getElem?_eq_none (by omega)]; simp
  · rw [hv, Int.toNat_of_nonneg (Int.emod_nonneg _ (by decide))]
  · rw [Int.toNat_of_nonneg (Int.emod_nonneg _ (by decide))]
end Go.Proofs.YtdgapijgdbhlfaaDoor
