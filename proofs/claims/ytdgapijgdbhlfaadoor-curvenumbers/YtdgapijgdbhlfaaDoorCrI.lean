/- The document's write: plain facts. -/
import Derived.Test.YtdgapijgdbhlfaaDoorCrH
import Derived.Test.YtdgapijgdbhlfaaDoorCuR
namespace Go.Proofs.YtdgapijgdbhlfaaDoor
open Go Go.RowKit

/-- All parts in their bounds. -/
structure Cn (L : List Int) : Prop where
  len : L.length = 16
  bd : ∀ j, 0 ≤ L.getD j 0 ∧ L.getD j 0 ≤ 65535
theorem qp_zero {L : List Int} (h : Cn L) (i : Nat) : qp L i = 0 := by
  induction i with
  | zero => rfl
  | succ i ih => have := h.bd i; unfold qp; rw [ih]; omega
theorem Cn.carry {L : List Int} (h : Cn L) : Cn (crTo L 16) ∧ vI (crTo L 16) 16 = vI L 16 := by
  have hl := crTo_length L 16
  have hL := h.len
  refine ⟨⟨by omega, fun j => ?_⟩, ?_⟩
  · by_cases hj : j < 16
    · rw [crTo_end L h.len j hj, qp_zero h, qp_zero h, qp_zero h]
      have := h.bd j
      split <;> omega
    · rw [List.getD_eq_getElem?_getD, List.getElem?_eq_none (by omega)]; simp
  · rw [crTo_val L h.len, qp_zero h, Int.zero_mul, Int.sub_zero]
theorem Rc.carry {L : List Int} {a : Nat} (h : Rc L a) : Cn (crTo L 16) ∧ vI (crTo L 16) 16 % (pC : Int) = (a : Int) := by
  have hl := crTo_length L 16
  have hL := h.len
  have h0 := h.low
  have q1 : qp L 1 = (L.getD 0 0 + 0) / 65536 := rfl
  have key : ∀ i, (-1 ≤ qp L (i + 1) ∧ qp L (i + 1) ≤ 1) ∧ (qp L (i + 1) = 1 → qp L 1 = 1) ∧ (qp L (i + 1) = -1 → qp L 1 = -1) := by
    intro i
    induction i with
    | zero => exact ⟨by rw [q1]; omega, fun h => h, fun h => h⟩
    | succ i ih =>
      have hr := h.rest (i + 1) (by omega)
      have hq : qp L (i + 1 + 1) = (L.getD (i + 1) 0 + qp L (i + 1)) / 65536 := rfl
      obtain ⟨i1, i2, i3⟩ := ih
      refine ⟨by rw [hq]; omega, fun e => i2 (by rw [hq] at e; omega), fun e => i3 (by rw [hq] at e; omega)⟩
  obtain ⟨k1, k2, k3⟩ := key 15
  refine ⟨⟨by omega, fun j => ?_⟩, ?_⟩
  · by_cases hj : j < 16
    · rw [crTo_end L h.len j hj]
      by_cases h2 : j = 0
      · subst h2
        rw [if_pos rfl, show qp L 0 = 0 from rfl]
        have e16 : qp L (15 + 1) = qp L 16 := rfl
        rw [e16] at k1 k2 k3
        by_cases hp : qp L 16 = 1
        · have := k2 hp; rw [q1] at this; omega
        · by_cases hm : qp L 16 = -1
          · have := k3 hm; rw [q1] at this; omega
          · omega
      · rw [if_neg h2]; omega
    · rw [List.getD_eq_getElem?_getD, List.getElem?_eq_none (by omega)]; simp
  · rw [crTo_val L h.len, show vI L 16 - qp L 16 * 115792089237316195423570985008687907853269984665640564039457584007913129639898 = vI L 16 - (pC : Int) * (2 * qp L 16) by rw [show (pC : Int) = 57896044618658097711785492504343953926634992332820282019728792003956564819949 from rfl]; omega, Int.sub_mul_emod_self_left]
    exact h.val
theorem Cn.val {L : List Int} (h : Cn L) (n : Nat) : 0 ≤ vI L n ∧ vI L n < 65536 ^ n := by
  induction n with
  | zero => simp [vI]
  | succ n ih =>
    have h2 := h.bd n
    rw [vI_succ, pow_step]
    generalize (65536 : Int) ^ n = P at *
    have h3 : 0 ≤ L.getD n 0 * P := Int.mul_nonneg h2.1 (by omega)
    have h4 : L.getD n 0 * P ≤ 65535 * P := Int.mul_le_mul_of_nonneg_right h2.2 (by omega)
    omega
/-- The prime's parts. -/
def pL : List Int := [65517, 65535, 65535, 65535, 65535, 65535, 65535, 65535, 65535, 65535, 65535, 65535, 65535, 65535, 65535, 32767]
/-- What is borrowed ahead of part i. -/
def bw (T : List Int) : Nat → Int
  | 0 => 0
  | i + 1 => (T.getD i 0 - pL.getD i 0 - bw T i) / 65536 % 2
theorem pL_bd (i : Nat) (h : i < 16) : 32767 ≤ pL.getD i 0 ∧ pL.getD i 0 ≤ 65535 := by
  have : ∀ k : Fin 16, 32767 ≤ pL.getD k.val 0 ∧ pL.getD k.val 0 ≤ 65535 := by decide
  exact this ⟨i, h⟩
/-- The difference, part by part. -/
def sb (T : List Int) (i : Nat) : Int := T.getD i 0 - pL.getD i 0 - bw T i
theorem bw_bd {T : List Int} (_ : Cn T) (i : Nat) (_ : i ≤ 16) : (bw T i = 0 ∨ bw T i = 1) := by
  cases i with
  | zero => exact .inl rfl
  | succ i => show (_ / 65536 % 2 = 0 ∨ _ / 65536 % 2 = 1); omega
theorem sb_bd {T : List Int} (h : Cn T) (i : Nat) (hi : i < 16) : -65536 ≤ sb T i ∧ sb T i ≤ 32768 := by
  have h1 := h.bd i
  have h2 := pL_bd i hi
  have h3 := bw_bd h i (by omega)
  unfold sb
  omega
theorem bw_eq {T : List Int} (h : Cn T) (i : Nat) (hi : i < 16) : sb T i = sb T i % 65536 - 65536 * bw T (i + 1) := by
  have := sb_bd h i hi
  have e : bw T (i + 1) = sb T i / 65536 % 2 := rfl
  omega
/-- The list of the difference. -/
def mL (T : List Int) : List Int := [sb T 0 % 65536, sb T 1 % 65536, sb T 2 % 65536, sb T 3 % 65536, sb T 4 % 65536, sb T 5 % 65536, sb T 6 % 65536, sb T 7 % 65536, sb T 8 % 65536, sb T 9 % 65536, sb T 10 % 65536, sb T 11 % 65536, sb T 12 % 65536, sb T 13 % 65536, sb T 14 % 65536, sb T 15]
theorem mL_low (T : List Int) (i : Nat) (h : i < 15) : (mL T).getD i 0 = sb T i % 65536 := by
  have e : ∀ k : Fin 15, (mL T).getD k.val 0 = sb T k.val % 65536 := by
    intro k
    match k with
    | ⟨0, _⟩ | ⟨1, _⟩ | ⟨2, _⟩ | ⟨3, _⟩ | ⟨4, _⟩ | ⟨5, _⟩ | ⟨6, _⟩ | ⟨7, _⟩ | ⟨8, _⟩ | ⟨9, _⟩ | ⟨10, _⟩ | ⟨11, _⟩ | ⟨12, _⟩ | ⟨13, _⟩ | ⟨14, _⟩ => rfl
  exact e ⟨i, h⟩
theorem mL_val {T : List Int} (h : Cn T) (n : Nat) (hn : n ≤ 15) : vI (mL T) n = vI T n - vI pL n + bw T n * 65536 ^ n := by
  induction n with
  | zero => rfl
  | succ n ih =>
    have e := bw_eq h n (by omega)
    have e2 : sb T n = T.getD n 0 - pL.getD n 0 - bw T n := rfl
    rw [vI_succ, vI_succ, vI_succ, ih (by omega), mL_low T n (by omega), pow_step, show sb T n % 65536 = T.getD n 0 - pL.getD n 0 - bw T n + 65536 * bw T (n + 1) by omega]
    generalize (65536 : Int) ^ n = P
    generalize T.getD n 0 = t
    generalize pL.getD n 0 = q
    generalize bw T n = b0
    generalize bw T (n + 1) = b1
    rw [Int.add_mul, Int.sub_mul, Int.sub_mul, Int.mul_left_comm b1, ← Int.mul_assoc]
    omega
theorem pL_val : vI pL 16 = (pC : Int) := by decide +kernel
theorem mL_full {T : List Int} (h : Cn T) : vI (mL T) 16 = vI T 16 - (pC : Int) := by
  rw [← pL_val]
  rw [vI_succ (mL T) 15, vI_succ T 15, vI_succ pL 15, mL_val h 15 (by omega), show (mL T).getD 15 0 = T.getD 15 0 - pL.getD 15 0 - bw T 15 from rfl, Int.sub_mul, Int.sub_mul]
  omega
/-- What one round of taking the prime away leaves. -/
def nxL (T : List Int) : List Int := if sb T 15 / 65536 % 2 = 0 then mL T else T
theorem nx_val {T : List Int} (h : Cn T) : Cn (nxL T) ∧ vI (nxL T) 16 = if vI T 16 < (pC : Int) then vI T 16 else vI T 16 - (pC : Int) := by
  have hs := sb_bd h 15 (by omega)
  have hm := mL_full h
  have hlow : 0 ≤ vI (mL T) 15 ∧ vI (mL T) 15 < 65536 ^ 15 := by
    have : ∀ n, n ≤ 15 → 0 ≤ vI (mL T) n ∧ vI (mL T) n < 65536 ^ n := by
      intro n hn
      induction n with
      | zero => simp [vI]
      | succ n ih =>
        have h1 := ih (by omega)
        have h2 := mL_low T n (by omega)
        rw [vI_succ, pow_step, h2]
        generalize (65536 : Int) ^ n = P at *
        have h3 : 0 ≤ sb T n % 65536 * P := Int.mul_nonneg (by omega) (by omega)
        have h4 : sb T n % 65536 * P ≤ 65535 * P := Int.mul_le_mul_of_nonneg_right (by omega) (by omega)
        omega
    exact this 15 (by omega)
  have hsp : vI (mL T) 16 = vI (mL T) 15 + sb T 15 * 65536 ^ 15 := vI_succ _ 15
  rw [show (65536 : Int) ^ 15 = 1766847064778384329583297500742918515827483896875618958121606201292619776 by decide +kernel] at hlow hsp
  unfold nxL
  by_cases hb : sb T 15 / 65536 % 2 = 0
  · rw [if_pos hb, if_neg (by omega)]
    refine ⟨⟨rfl, fun j => ?_⟩, hm⟩
    by_cases hj : j < 15
    · rw [mL_low T j hj]; omega
    · by_cases h15 : j = 15
      · subst h15; show 0 ≤ sb T 15 ∧ sb T 15 ≤ 65535; omega
      · rw [List.getD_eq_getElem?_getD, List.getElem?_eq_none (by show 16 ≤ j; omega)]; simp
  · rw [if_neg hb, if_pos (by omega)]
    exact ⟨h, rfl⟩
/-- What is written. -/
theorem write_val {R : List Int} {a : Nat} (h : Rc R a) : Cn (nxL (nxL (crTo (crTo (crTo R 16) 16) 16))) ∧ vI (nxL (nxL (crTo (crTo (crTo R 16) 16) 16))) 16 = (a : Int) ∧ Cn (crTo (crTo (crTo R 16) 16) 16) ∧ Cn (nxL (crTo (crTo (crTo R 16) 16) 16)) ∧ Cn (crTo R 16) ∧ Cn (crTo (crTo R 16) 16) := by
  obtain ⟨c1, v1⟩ := h.carry
  obtain ⟨c2, v2⟩ := c1.carry
  obtain ⟨c3, v3⟩ := c2.carry
  obtain ⟨c4, v4⟩ := nx_val c3
  obtain ⟨c5, v5⟩ := nx_val c4
  refine ⟨c5, ?_, c3, c4, c1, c2⟩
  have hv := c3.val 16
  rw [v3, v2] at v4 hv
  rw [show (65536 : Int) ^ 16 = 115792089237316195423570985008687907853269984665640564039457584007913129639936 by decide +kernel] at hv
  rw [show (pC : Int) = 57896044618658097711785492504343953926634992332820282019728792003956564819949 from rfl] at v1 v4 v5
  generalize vI (crTo R 16) 16 = V at *
  rw [v5]
  have ha : (a : Int) = V % 57896044618658097711785492504343953926634992332820282019728792003956564819949 := v1.symm
  rw [ha]
  clear v5 c5 c4 v3 v2 c3 c2 c1 h ha v1
  generalize vI (nxL (crTo (crTo (crTo R 16) 16) 16)) 16 = V1 at v4 ⊢
  by_cases h1 : V < 57896044618658097711785492504343953926634992332820282019728792003956564819949
  · rw [if_pos h1] at v4
    rw [v4, if_pos h1]
    omega
  · rw [if_neg h1] at v4
    rw [v4]
    by_cases h2 : V - 57896044618658097711785492504343953926634992332820282019728792003956564819949 < 57896044618658097711785492504343953926634992332820282019728792003956564819949
    · rw [if_pos h2]
      omega
    · rw [if_neg h2]
      omega
/-- The bytes of a part. -/
theorem part_val {L : List Int} (h : Cn L) (a : Nat) (hv : vI L 16 = (a : Int)) (i : Nat) (hi : i < 16) : L.getD i 0 % 256 = ((a / 256 ^ (2 * i) % 256 : Nat) : Int) ∧ L.getD i 0 / 256 % 256 = ((a / 256 ^ (2 * i + 1) % 256 : Nat) : Int) := by
  have hd : ∀ n, i < n → n ≤ 16 → ∃ U, vI L n = vI L i + (L.getD i 0 + 65536 * U) * 65536 ^ i := by
    intro n hn hn2
    induction n with
    | zero => omega
    | succ n ih =>
      by_cases hin : i = n
      · subst hin
        exact ⟨0, by rw [vI_succ, Int.mul_zero, Int.add_zero]⟩
      · obtain ⟨U, hU⟩ := ih (by omega) (by omega)
        obtain ⟨d, hd⟩ : ∃ d, n = i + (d + 1) := ⟨n - i - 1, by omega⟩
        refine ⟨U + L.getD n 0 * 65536 ^ d, ?_⟩
        rw [vI_succ, hU]
        conv => lhs; rw [show (65536 : Int) ^ n = 65536 * 65536 ^ d * 65536 ^ i by rw [hd, Int.pow_add, pow_step, Int.mul_comm]]
        generalize (65536 : Int) ^ d = D
        generalize (65536 : Int) ^ i = P
        generalize L.getD n 0 = y
        generalize L.getD i 0 = z
        rw [Int.add_assoc, ← Int.mul_assoc y, ← Int.add_mul]
        congr 2
        rw [Int.mul_add, Int.mul_left_comm y, Int.add_assoc]
  obtain ⟨U, hU⟩ := hd 16 hi (by omega)
  have hl := h.val i
  have hb := h.bd i
  rw [hv] at hU
  have e1 : ((a / 256 ^ (2 * i) : Nat) : Int) = L.getD i 0 + 65536 * U := by
    rw [Int.natCast_ediv, Int.natCast_pow, show (((256 : Nat) : Int)) ^ (2 * i) = 65536 ^ i by rw [Int.pow_mul]; rfl, hU, Int.add_mul_ediv_right _ _ (by omega), Int.ediv_eq_zero_of_lt hl.1 hl.2]
    omega
  have e2 : a / 256 ^ (2 * i + 1) = a / 256 ^ (2 * i) / 256 := by rw [Nat.pow_succ, Nat.div_div_eq_div_mul]
  rw [e2]
  generalize a / 256 ^ (2 * i) = q at *
  omega
end Go.Proofs.YtdgapijgdbhlfaaDoor
