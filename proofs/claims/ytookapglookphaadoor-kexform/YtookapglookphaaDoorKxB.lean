/- kex: payloads read. -/
import Derived.Test.YtookapglookphaaDoorKxA
namespace Go.Proofs.YtookapglookphaaDoor
open Go Go.RowKit

/-- Where the Reader stands behind the kind and so many Texts, and why it refused. -/
def st (kind : Nat) (b : List UInt8) : Nat → Nat × Int
  | 0 => ((tk b 0 0 1).2.1, if val (tk b 0 0 1).1 = kind then (tk b 0 0 1).2.2 else if (tk b 0 0 1).2.2 = 0 then 12 else (tk b 0 0 1).2.2)
  | j + 1 => ((tx b (st kind b j).1 (st kind b j).2 32).2.1, if (tx b (st kind b j).1 (st kind b j).2 32).1.length = 32 then (tx b (st kind b j).1 (st kind b j).2 32).2.2 else if (tx b (st kind b j).1 (st kind b j).2 32).2.2 = 0 then 12 else (tx b (st kind b j).1 (st kind b j).2 32).2.2)
def txt (kind : Nat) (b : List UInt8) (j : Nat) : List UInt8 := (tx b (st kind b j).1 (st kind b j).2 32).1
/-- So far the payload is right. -/
structure OkTo (kind : Nat) (b : List UInt8) (j : Nat) : Prop where
  len : 1 + 36 * j ≤ b.length
  head : val (b.take 1) = kind
  sizes : ∀ i, i < j → val ((b.drop (1 + 36 * i)).take 4) = 32
/-- A payload of that kind, of so many Texts of 32 bytes. -/
structure Wf (kind n : Nat) (b : List UInt8) : Prop where
  len : b.length = 1 + 36 * n
  head : val (b.take 1) = kind
  sizes : ∀ i, i < n → val ((b.drop (1 + 36 * i)).take 4) = 32
/-- Its Texts. -/
def part (b : List UInt8) (j : Nat) : List UInt8 := (b.drop (5 + 36 * j)).take 32
theorem tk_yes {b : List UInt8} {p n : Nat} (h : n ≤ b.length - p) : tk b p 0 n = ((b.drop p).take n, p + n, 0) := by
  unfold tk
  rw [if_pos rfl, if_neg (by omega)]
theorem tk_no {b : List UInt8} {p n : Nat} (h : b.length - p < n) : tk b p 0 n = ([], b.length, 10) := by
  unfold tk
  rw [if_pos rfl, if_pos h]
theorem tk_why {b : List UInt8} {p n : Nat} {y : Int} (h : y ≠ 0) : tk b p y n = ([], p, y) := by
  unfold tk
  rw [if_neg h]
theorem tx_why {b : List UInt8} {p : Nat} {y : Int} (h : y ≠ 0) : tx b p y 32 = ([], p, y) := by
  unfold tx
  rw [tk_why h]
  rw [if_neg (show ¬ (32 : Int).toNat < val (([], p, y) : List UInt8 × Nat × Int).1 from show ¬ 32 < 0 by decide), tk_why (by exact h)]
theorem tx_yes {b : List UInt8} {p : Nat} (h : 36 ≤ b.length - p) (hv : val ((b.drop p).take 4) = 32) : tx b p 0 32 = ((b.drop (p + 4)).take 32, p + 36, 0) := by
  unfold tx
  rw [tk_yes (show 4 ≤ b.length - p by omega)]
  simp only
  rw [hv, if_neg (by decide), tk_yes (by omega)]
/-- A Text that is not of 32 bytes is refused, or shorter. -/
theorem tx_no {b : List UInt8} {p : Nat} (h : ¬ (36 ≤ b.length - p ∧ val ((b.drop p).take 4) = 32)) : (tx b p 0 32).2.2 ≠ 0 ∨ (tx b p 0 32).1.length ≠ 32 := by
  by_cases h4 : 4 ≤ b.length - p
  · unfold tx
    rw [tk_yes h4]
    simp only
    by_cases h32 : (32 : Int).toNat < val ((b.drop p).take 4)
    · rw [if_pos h32]
      exact .inl (show (3 : Int) ≠ 0 by decide)
    · rw [if_neg h32]
      have h33 : val ((b.drop p).take 4) ≤ 32 := Nat.le_of_not_lt h32
      by_cases hl : val ((b.drop p).take 4) ≤ b.length - (p + 4)
      · rw [tk_yes hl]
        refine .inr ?_
        simp only [List.length_take, List.length_drop]
        omega
      · rw [tk_no (by omega)]
        exact .inl (show (10 : Int) ≠ 0 by decide)
  · unfold tx
    rw [tk_no (by omega)]
    rw [if_neg (show ¬ (32 : Int).toNat < val (([], b.length, 10) : List UInt8 × Nat × Int).1 from show ¬ 32 < 0 by decide), tk_why (show (10 : Int) ≠ 0 by decide)]
    exact .inl (show (10 : Int) ≠ 0 by decide)
theorem st_ok {kind : Nat} {b : List UInt8} : ∀ {j : Nat}, OkTo kind b j → st kind b j = (1 + 36 * j, 0)
  | 0, h => by
    have h1 := h.len
    rw [st, tk_yes (show 1 ≤ b.length - 0 by omega)]
    simp only [List.drop_zero]
    rw [if_pos h.head]
  | j + 1, h => by
    have h1 := h.len
    have ih := st_ok (j := j) ⟨by omega, h.head, fun i hi => h.sizes i (by omega)⟩
    rw [st, ih, tx_yes (p := 1 + 36 * j) (by omega) (h.sizes j (by omega))]
    simp only
    rw [if_pos (by simp only [List.length_take, List.length_drop]; omega)]
    rw [show 1 + 36 * j + 36 = 1 + 36 * (j + 1) by omega]
theorem txt_ok {kind : Nat} {b : List UInt8} {j : Nat} (h : OkTo kind b (j + 1)) : txt kind b j = part b j := by
  have h1 := h.len
  rw [txt, st_ok (j := j) ⟨by omega, h.head, fun i hi => h.sizes i (by omega)⟩, tx_yes (p := 1 + 36 * j) (by omega) (h.sizes j (by omega)), part]
  simp only
  rw [show 1 + 36 * j + 4 = 5 + 36 * j by omega]
theorem st_no {kind : Nat} {b : List UInt8} : ∀ {j : Nat}, ¬ OkTo kind b j → (st kind b j).2 ≠ 0
  | 0, h => by
    rw [st]
    by_cases hl : 1 ≤ b.length - 0
    · rw [tk_yes hl]
      simp only [List.drop_zero]
      by_cases hk : val (b.take 1) = kind
      · exact absurd ⟨by omega, hk, fun i hi => absurd hi (by omega)⟩ h
      · rw [if_neg hk]
        decide
    · rw [tk_no (by omega)]
      simp only
      split <;> decide
  | j + 1, h => by
    rw [st]
    by_cases hj : OkTo kind b j
    · rw [st_ok hj]
      have hn : ¬ (36 ≤ b.length - (1 + 36 * j) ∧ val ((b.drop (1 + 36 * j)).take 4) = 32) := fun ⟨h1, h2⟩ =>
        h ⟨by omega, hj.head, fun i hi => by
          by_cases e : i = j
          · rw [e]; exact h2
          · exact hj.sizes i (by omega)⟩
      rcases tx_no hn with h1 | h1
      · simp only
        split
        · exact h1
        · first | exact h1 | (rw [if_neg h1]; exact h1)
      · simp only
        rw [if_neg h1]
        split
        · decide
        · assumption
    · have hy := st_no hj
      rw [tx_why hy]
      simp only
      rw [if_neg (by decide), if_neg hy]
      exact hy
theorem ends_iff (kind n : Nat) (b : List UInt8) : (ends b (st kind b n).1 (st kind b n).2).1 = 0 ↔ Wf kind n b := by
  constructor
  · intro h
    by_cases hj : OkTo kind b n
    · rw [st_ok hj] at h
      unfold ends at h
      rw [if_pos rfl] at h
      have h1 := hj.len
      by_cases hl : 1 + 36 * n < b.length
      · rw [if_pos hl] at h
        exact absurd h (show ¬ (11 : Int) = 0 by decide)
      · exact ⟨by omega, hj.head, hj.sizes⟩
    · have hy := st_no hj
      unfold ends at h
      rw [if_neg hy] at h
      exact absurd h hy
  · intro h
    rw [st_ok ⟨by rw [h.len]; omega, h.head, h.sizes⟩]
    unfold ends
    rw [if_pos rfl, if_neg (by rw [h.len]; omega)]
theorem Wf.txt {kind n : Nat} {b : List UInt8} (h : Wf kind n b) {j : Nat} (hj : j < n) : txt kind b j = part b j :=
  txt_ok ⟨by rw [h.len]; omega, h.head, fun i hi => h.sizes i (by omega)⟩
theorem Wf.part_length {kind n : Nat} {b : List UInt8} (h : Wf kind n b) {j : Nat} (hj : j < n) : (part b j).length = 32 := by
  rw [part, List.length_take, List.length_drop, h.len]
  omega
theorem txt_le (kind : Nat) (b : List UInt8) (j : Nat) : (txt kind b j).length ≤ 32 := by
  unfold txt tx
  split
  · simp
  · rename_i h
    have := tk_len b (tk b (st kind b j).1 (st kind b j).2 4).2.1 (tk b (st kind b j).1 (st kind b j).2 4).2.2 (val (tk b (st kind b j).1 (st kind b j).2 4).1)
    have h32 : (32 : Int).toNat = 32 := rfl
    omega
end Go.Proofs.YtookapglookphaaDoor
