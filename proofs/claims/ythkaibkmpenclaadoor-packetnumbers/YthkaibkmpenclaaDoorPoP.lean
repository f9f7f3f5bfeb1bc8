/- Plain facts on limbs: what a carry, a fold and a product are worth. -/
import Derived.Test.YthkaibkmpenclaaDoorPoS
namespace Go.Proofs.YthkaibkmpenclaaDoor
open Go Go.RowKit

theorem list5 {L : List Nat} (h : L.length = 5) : ∃ a b c d e, L = [a, b, c, d, e] := by
  match L, h with
  | [a, b, c, d, e], _ => exact ⟨a, b, c, d, e, rfl⟩
/-- What five limbs are worth. -/
def V5 (L : List Nat) : Nat := L.getD 0 0 + 67108864 * L.getD 1 0 + 4503599627370496 * L.getD 2 0 + 302231454903657293676544 * L.getD 3 0 + 20282409603651670423947251286016 * L.getD 4 0
theorem V5_list (a b c d e : Nat) : V5 [a, b, c, d, e] = a + 67108864 * b + 4503599627370496 * c + 302231454903657293676544 * d + 20282409603651670423947251286016 * e := rfl
/-- 2^130 - 5. -/
def pP : Nat := 1361129467683753853853498429727072845819
theorem cy_list (a b c d e : Nat) : ∃ a' b' c' d' e' o, cyTo [a, b, c, d, e] 5 = ([a', b', c', d', e'], o) ∧ a' ≤ 67108863 ∧ b' ≤ 67108863 ∧ c' ≤ 67108863 ∧ d' ≤ 67108863 ∧ e' ≤ 67108863 ∧
    V5 [a', b', c', d', e'] + 1361129467683753853853498429727072845824 * o = V5 [a, b, c, d, e] := by
  refine ⟨(0 + a) % 67108864, ((0 + a) / 67108864 + b) % 67108864, (((0 + a) / 67108864 + b) / 67108864 + c) % 67108864, ((((0 + a) / 67108864 + b) / 67108864 + c) / 67108864 + d) % 67108864, (((((0 + a) / 67108864 + b) / 67108864 + c) / 67108864 + d) / 67108864 + e) % 67108864, (((((0 + a) / 67108864 + b) / 67108864 + c) / 67108864 + d) / 67108864 + e) / 67108864, rfl, ?_, ?_, ?_, ?_, ?_, ?_⟩
  · omega
  · omega
  · omega
  · omega
  · omega
  · rw [V5_list, V5_list]
    obtain ⟨x1, h1⟩ : ∃ x, x = (0 + a) / 67108864 := ⟨_, rfl⟩
    rw [← h1]
    obtain ⟨x2, h2⟩ : ∃ x, x = (x1 + b) / 67108864 := ⟨_, rfl⟩
    rw [← h2]
    obtain ⟨x3, h3⟩ : ∃ x, x = (x2 + c) / 67108864 := ⟨_, rfl⟩
    rw [← h3]
    obtain ⟨x4, h4⟩ : ∃ x, x = (x3 + d) / 67108864 := ⟨_, rfl⟩
    rw [← h4]
    omega
/-- A fold. -/
theorem fold_list (a b c d e : Nat) : ∃ a' b' c' d' e' o, foldL [a, b, c, d, e] = [a' + 5 * o, b', c', d', e'] ∧ a' ≤ 67108863 ∧ b' ≤ 67108863 ∧ c' ≤ 67108863 ∧ d' ≤ 67108863 ∧ e' ≤ 67108863 ∧ (cyTo [a, b, c, d, e] 5).2 = o ∧ (cyTo [a, b, c, d, e] 5).1.getD 0 0 = a' ∧
    V5 [a', b', c', d', e'] + 1361129467683753853853498429727072845824 * o = V5 [a, b, c, d, e] := by
  obtain ⟨a', b', c', d', e', o, h, h1, h2, h3, h4, h5, h6⟩ := cy_list a b c d e
  refine ⟨a', b', c', d', e', o, ?_, h1, h2, h3, h4, h5, by rw [h], by rw [h]; rfl, h6⟩
  unfold foldL
  rw [h]
  rfl
/-- Two folds. -/
theorem fold_twice {L : List Nat} (hL : L.length = 5) (hb : ∀ k, L.getD k 0 ≤ 1125899957243971000) :
    (cyTo L 5).2 ≤ 34359738368 ∧ (cyTo L 5).1.getD 0 0 ≤ 67108863 ∧ (∀ i, i < 5 → (foldL L).getD i 0 ≤ 1152921504606846976) ∧ (cyTo (foldL L) 5).2 ≤ 34359738368 ∧ (cyTo (foldL L) 5).1.getD 0 0 ≤ 67108863 ∧
    ∃ a b c d e q, foldL (foldL L) = [a, b, c, d, e] ∧ a ≤ 67108868 ∧ b ≤ 67108863 ∧ c ≤ 67108863 ∧ d ≤ 67108863 ∧ e ≤ 67108863 ∧ V5 [a, b, c, d, e] + pP * q = V5 L ∧ V5 [a, b, c, d, e] < 1361129467683753853853498429727072845824 := by
  obtain ⟨a0, b0, c0, d0, e0, rfl⟩ := list5 hL
  have k0 := hb 0
  have k1 := hb 1
  have k2 := hb 2
  have k3 := hb 3
  have k4 := hb 4
  simp only [List.getD_cons_zero, List.getD_cons_succ] at k0 k1 k2 k3 k4
  obtain ⟨a1, b1, c1, d1, e1, o1, h, h1, h2, h3, h4, h5, g1, g2, h6⟩ := fold_list a0 b0 c0 d0 e0
  rw [h]
  rw [V5_list, V5_list] at h6
  have ho : o1 ≤ 17000000000 := by omega
  obtain ⟨a2, b2, c2, d2, e2, o2, i, i1, i2, i3, i4, i5, j1, j2, i6⟩ := fold_list (a1 + 5 * o1) b1 c1 d1 e1
  rw [i]
  rw [V5_list, V5_list] at i6
  have ho2 : o2 ≤ 1 := by omega
  refine ⟨by omega, by omega, ?_, by omega, by omega, a2 + 5 * o2, b2, c2, d2, e2, o1 + o2, rfl, by omega, i2, i3, i4, i5, ?_, ?_⟩
  · intro k hk
    match k, hk with
    | 0, _ => show a1 + 5 * o1 ≤ _; omega
    | 1, _ => show b1 ≤ _; omega
    | 2, _ => show c1 ≤ _; omega
    | 3, _ => show d1 ≤ _; omega
    | 4, _ => show e1 ≤ _; omega
  · rw [V5_list, V5_list]; unfold pP; omega
  · rw [V5_list]; omega
theorem row5 (x m0 m1 m2 m3 m4 : Nat) : x * (m0 + 67108864 * m1 + 4503599627370496 * m2 + 302231454903657293676544 * m3 + 20282409603651670423947251286016 * m4) = x * m0 + 67108864 * (x * m1) + 4503599627370496 * (x * m2) + 302231454903657293676544 * (x * m3) + 20282409603651670423947251286016 * (x * m4) := by
  simp only [Nat.mul_add, Nat.mul_left_comm x]
theorem rows5 (n0 n1 n2 n3 n4 M : Nat) : (n0 + 67108864 * n1 + 4503599627370496 * n2 + 302231454903657293676544 * n3 + 20282409603651670423947251286016 * n4) * M = n0 * M + 67108864 * (n1 * M) + 4503599627370496 * (n2 * M) + 302231454903657293676544 * (n3 * M) + 20282409603651670423947251286016 * (n4 * M) := by
  simp only [Nat.add_mul, Nat.mul_assoc]
theorem mrow0 (n0 n1 n2 n3 n4 m0 m1 m2 m3 m4 p0 p1 p2 p3 p4 : Nat) : mulRow [n0, n1, n2, n3, n4] [m0, m1, m2, m3, m4] [p0, p1, p2, p3, p4] 0 5 = [p0 + n0 * m0, p1 + n0 * m1, p2 + n0 * m2, p3 + n0 * m3, p4 + n0 * m4] := by
  simp [mulRow, mulStep]
theorem mrow1 (n0 n1 n2 n3 n4 m0 m1 m2 m3 m4 p0 p1 p2 p3 p4 : Nat) : mulRow [n0, n1, n2, n3, n4] [m0, m1, m2, m3, m4] [p0, p1, p2, p3, p4] 1 5 = [p0 + 5 * n1 * m4, p1 + n1 * m0, p2 + n1 * m1, p3 + n1 * m2, p4 + n1 * m3] := by
  simp [mulRow, mulStep]
theorem mrow2 (n0 n1 n2 n3 n4 m0 m1 m2 m3 m4 p0 p1 p2 p3 p4 : Nat) : mulRow [n0, n1, n2, n3, n4] [m0, m1, m2, m3, m4] [p0, p1, p2, p3, p4] 2 5 = [p0 + 5 * n2 * m3, p1 + 5 * n2 * m4, p2 + n2 * m0, p3 + n2 * m1, p4 + n2 * m2] := by
  simp [mulRow, mulStep]
theorem mrow3 (n0 n1 n2 n3 n4 m0 m1 m2 m3 m4 p0 p1 p2 p3 p4 : Nat) : mulRow [n0, n1, n2, n3, n4] [m0, m1, m2, m3, m4] [p0, p1, p2, p3, p4] 3 5 = [p0 + 5 * n3 * m2, p1 + 5 * n3 * m3, p2 + 5 * n3 * m4, p3 + n3 * m0, p4 + n3 * m1] := by
  simp [mulRow, mulStep]
theorem mrow4 (n0 n1 n2 n3 n4 m0 m1 m2 m3 m4 p0 p1 p2 p3 p4 : Nat) : mulRow [n0, n1, n2, n3, n4] [m0, m1, m2, m3, m4] [p0, p1, p2, p3, p4] 4 5 = [p0 + 5 * n4 * m1, p1 + 5 * n4 * m2, p2 + 5 * n4 * m3, p3 + 5 * n4 * m4, p4 + n4 * m0] := by
  simp [mulRow, mulStep]
/-- A product. -/
theorem mul_val {n m : List Nat} (hn : n.length = 5) (hm : m.length = 5) : ∃ Q, V5 (mulTo n m 5) + pP * Q = V5 n * V5 m := by
  obtain ⟨n0, n1, n2, n3, n4, rfl⟩ := list5 hn
  obtain ⟨m0, m1, m2, m3, m4, rfl⟩ := list5 hm
  have h : mulTo [n0, n1, n2, n3, n4] [m0, m1, m2, m3, m4] 5 = [0 + n0 * m0 + 5 * n1 * m4 + 5 * n2 * m3 + 5 * n3 * m2 + 5 * n4 * m1, 0 + n0 * m1 + n1 * m0 + 5 * n2 * m4 + 5 * n3 * m3 + 5 * n4 * m2, 0 + n0 * m2 + n1 * m1 + n2 * m0 + 5 * n3 * m4 + 5 * n4 * m3, 0 + n0 * m3 + n1 * m2 + n2 * m1 + n3 * m0 + 5 * n4 * m4, 0 + n0 * m4 + n1 * m3 + n2 * m2 + n3 * m1 + n4 * m0] := by
    rw [show mulTo [n0, n1, n2, n3, n4] [m0, m1, m2, m3, m4] 5 = mulRow _ _ (mulRow _ _ (mulRow _ _ (mulRow _ _ (mulRow _ _ [0, 0, 0, 0, 0] 0 5) 1 5) 2 5) 3 5) 4 5 from rfl, mrow0, mrow1, mrow2, mrow3, mrow4]
  rw [h, V5_list, V5_list, V5_list, rows5, row5 n0, row5 n1, row5 n2, row5 n3, row5 n4]
  simp only [Nat.mul_assoc 5]
  refine ⟨n1 * m4 + n2 * m3 + n3 * m2 + n4 * m1 + 67108864 * (n2 * m4 + n3 * m3 + n4 * m2) + 4503599627370496 * (n3 * m4 + n4 * m3) + 302231454903657293676544 * (n4 * m4), ?_⟩
  unfold pP
  omega
end Go.Proofs.YthkaibkmpenclaaDoor
