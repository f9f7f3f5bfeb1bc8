/- Split in one word; the walk of the law WindowTwice. -/
import Derived.Test.YtjkjejconcggpaaWiF
namespace Go.Proofs.Ytjkjejconcggpaa
open Go Go.RowKit

/-- The slice value v reads as the numbers L. -/
def ISl (w : World) (v : Value) (L : List Nat) : Prop := (v = .slice none 0 0 ∧ L = []) ∨ ∃ g, v = .slice (some ⟨g, 0, none⟩) L.length L.length ∧ IB w g L
theorem ISl.fresh {w w' : World} {v : Value} {L : List Nat} (h : ISl w v L) (hb : Below w.heap.size w w') : ISl w' v L := by
  rcases h with h | ⟨g, h1, h2⟩
  · exact .inl h
  · exact .inr ⟨g, h1, h2.fresh hb⟩

theorem split_u {x y a b : Nat} (h : Win x y true a b) (n k c : Nat) (ha : a ≤ 1000000) (hk : k = min n a) (hc : c = (k + b - 1) / b) (w : World) :
    Calls Try.prog 20 #[.complex .f64 x y, .int .i64 (n : Int)] w fun e w' => ∃ v, e = .returned (.tuple #[v, .complex .f64 (nb (a - k)) (nb b)]) ∧ ISl w' v (pcs k b c) ∧ Below w.heap.size w w' := by
  obtain ⟨e1, e2, _, hb1, _⟩ := h.right rfl
  by_cases h0 : k = 0
  · have hc0 : c = 0 := by rw [hc, h0]; exact Nat.div_eq_of_lt (by omega)
    subst h0
    refine (split_none h n (by omega) w).mono ?_
    rintro e w' ⟨rfl, rfl⟩
    exact ⟨.slice none 0 0, by rw [e1, e2]; rfl, .inl ⟨rfl, by rw [hc0]; rfl⟩, Below.refl _ _⟩
  · refine (split_c h n k c ha hk (by omega) hc w).mono ?_
    rintro e w' ⟨rfl, h1, h2⟩
    exact ⟨_, rfl, .inr ⟨_, by rw [pcs_length], h1⟩, h2⟩

set_option maxHeartbeats 1600000 in
set_option maxRecDepth 100000 in
theorem windowTwice_c (left most a b more : Int) (w : World) :
    Calls Try.prog 5 #[.int .i64 left, .int .i64 most, .int .i64 a, .int .i64 b, .int .i64 more] w fun e w' => e = .returned (.bool true) ∧ Below w.heap.size w w' := by
  go_enter Try.func5, Try.ntmps5
  go_wp2_with fail
  refine (within_c left 5000 (by omega) w).mono ?_
  rintro e w' ⟨L, rfl, hL, rfl⟩
  go_wp2_with fail
  refine (within_c most 99 (by omega) w').mono ?_
  rintro e w1 ⟨M, rfl, hM, rfl⟩
  have hM1 : 1 + (M : Int) = ((M + 1 : Nat) : Int) := by omega
  obtain ⟨B, hB⟩ : ∃ B, B = M + 1 := ⟨_, rfl⟩
  rw [← hB] at hM1
  have hB1 : 1 ≤ B := by omega
  have hB2 : B ≤ 100 := by omega
  clear hB
  go_wp2_with fail
  refine (within_c a L (by omega) w1).mono ?_
  rintro e w2 ⟨A, rfl, hA, rfl⟩
  go_wp2_with fail
  refine (within_c more 5000 (by omega) w2).mono ?_
  rintro e w3 ⟨R, rfl, hR, rfl⟩
  obtain ⟨D, hD⟩ : ∃ D, D = L - A := ⟨_, rfl⟩
  obtain ⟨T, hT⟩ : ∃ T, T = D + R := ⟨_, rfl⟩
  have hD1 : (L : Int) - (A : Int) = (D : Int) := by omega
  have hT1 : (D : Int) + (R : Int) = (T : Int) := by omega
  have hTm : T ≤ 10000 := by omega
  have hDm : D ≤ 5000 := by omega
  have HD := hidden hD
  have HT := hidden hT
  clear hD hT
  go_wp2_with fail
  refine (within_c b T (by omega) w3).mono ?_
  rintro e w4 ⟨K, rfl, hK, rfl⟩
  go_wp2_with fail
  refine (of_c L B (by omega) w4).mono ?_
  rintro e w5 ⟨rfl, rfl⟩
  have W1 := Win.mk' L B (by omega) hB1 (by omega)
  have W2 := Win.mk' D B (by omega) hB1 (by omega)
  have W3 := Win.mk' T B (by omega) hB1 (by omega)
  have W4 := Win.mk' (T - K) B (by omega) hB1 (by omega)
  have s1 := fun w => split_u W1 A A _ (by omega) (by omega) rfl w
  rw [← HD.out] at s1
  have a1 := fun w => add_yes W2 R (by omega) w
  rw [← HT.out] at a1
  have s2 := fun w => split_u W3 K K _ (by omega) (by omega) rfl w
  have l1 := fun w => left_w W4 w
  have m1 := fun w => most_w W4 w
  have hZ1 : (T : Int) - (K : Int) = ((T - K : Nat) : Int) := by omega
  have S1 := hidden s1
  have A1 := hidden a1
  have S2 := hidden s2
  have L1 := hidden l1
  have M1 := hidden m1
  clear s1 a1 s2 l1 m1 W1 W2 W3 W4 HD HT
  generalize T - K = Z at *
  generalize nb L = xL at *
  generalize nb B = xB at *
  generalize nb D = xD at *
  generalize nb T = xT at *
  generalize nb Z = xZ at *
  go_wp2_with fail
  refine (S1.out _).mono ?_
  rintro e w6 ⟨v1, rfl, hv1, hb1⟩
  have HB1 := hidden hb1
  clear hv1 hb1 S1
  go_wp2_with fail
  refine (A1.out _).mono ?_
  rintro e w7 ⟨rfl, rfl⟩
  clear A1
  go_wp2_with fail
  refine (S2.out _).mono ?_
  rintro e w8 ⟨v2, rfl, hv2, hb2⟩
  have HB2 := hidden (HB1.out.trans (hb2.mono HB1.out.size))
  clear hv2 hb2 S2 HB1
  go_wp2_with fail
  refine (L1.out _).mono ?_
  rintro e w9 ⟨rfl, rfl⟩
  clear L1
  go_wp2_with fail
  refine (M1.out _).mono ?_
  rintro e w9 ⟨rfl, rfl⟩
  clear M1
  go_wp2_with fail
  refine (known_c _).mono ?_
  rintro e w10 ⟨rfl, hb⟩
  have HB3 := hidden (HB2.out.trans (hb.mono HB2.out.size))
  clear hb HB2
  go_wp2_with fail
  go_ret
  exact ⟨rfl, HB3.out⟩
end Go.Proofs.Ytjkjejconcggpaa
