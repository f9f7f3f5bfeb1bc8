/- The walk of the law WindowRules. -/
import Derived.Test.YtjkjejconcggpaaWiG
namespace Go.Proofs.Ytjkjejconcggpaa
open Go Go.RowKit

theorem ceil_lt {K B c i : Nat} (hB : 1 ≤ B) (hc : c = (K + B - 1) / B) (hi : i < c) : i * B < K := by
  have h1 : i + 1 ≤ (K + B - 1) / B := by omega
  have h2 := (Nat.le_div_iff_mul_le (by omega : 0 < B)).1 h1
  rw [Nat.add_mul] at h2
  omega
theorem ceil_ge {K B c : Nat} (hB : 1 ≤ B) (hc : c = (K + B - 1) / B) : K ≤ c * B := by
  have h1 : (K + B - 1) / B < c + 1 := by omega
  have h2 := (Nat.div_lt_iff_lt_mul (by omega : 0 < B)).1 h1
  rw [Nat.add_mul] at h2
  omega
theorem pcs_get (K B c i : Nat) (h : i < c) : (pcs K B c).getD i 0 = min (K - i * B) B := by
  simp [pcs, h]

set_option maxHeartbeats 1600000 in
set_option maxRecDepth 100000 in
theorem windowRules_c (left most n : Int) (w : World) :
    Calls Try.prog 4 #[.int .i64 left, .int .i64 most, .int .i64 n] w fun e w' => e = .returned (.bool true) ∧ Below w.heap.size w w' := by
  go_enter Try.func4, Try.ntmps4
  go_wp2_with fail
  refine (within_c left 5000 (by omega) w).mono ?_
  rintro e w' ⟨L, rfl, hL, rfl⟩
  go_wp2_with fail
  refine (within_c most 99 (by omega) w').mono ?_
  rintro e w1 ⟨M, rfl, hM, rfl⟩
  have hM1 : 1 + (M : Int) = ((M + 1 : Nat) : Int) := by omega
  obtain ⟨B, hB⟩ : ∃ B, B = M + 1 := ⟨_, rfl⟩
  rw [← hB] at hM1
  have hB1 : 1 ≤ B := by omega
  have hB2 : B ≤ 100 := by omega
  clear hB
  go_wp2_with fail
  refine (within_c n 6000 (by omega) w1).mono ?_
  rintro e w2 ⟨N, rfl, hN, rfl⟩
  go_wp2_with fail
  refine (of_c L B (by omega) w2).mono ?_
  rintro e w3 ⟨rfl, rfl⟩
  obtain ⟨K, hK⟩ : ∃ K, K = min N L := ⟨_, rfl⟩
  obtain ⟨c, hc⟩ : ∃ c, c = (K + B - 1) / B := ⟨_, rfl⟩
  have W1 := Win.mk' L B (by omega) hB1 (by omega)
  have W2 := Win.mk' (L - K) B (by omega) hB1 (by omega)
  have s1 := fun w => split_u W1 N K c (by omega) hK hc w
  have t1 := fun w => take_yes W1 K (by omega) w
  have a1 := fun w => add_yes W2 K (by omega) w
  rw [show L - K + K = L by omega] at a1
  have r1 := fun w => right_w W2 w
  have q1 := ord_refl L (by omega)
  have q2 := ord_refl B (by omega)
  have q3 := ord_refl (L - K) (by omega)
  have hcm : c ≤ 5000 := by
    have h1 : c ≤ K := by
      rw [hc]
      refine Nat.le_of_lt_succ ((Nat.div_lt_iff_lt_mul (by omega)).2 ?_)
      rw [Nat.succ_mul]
      have : K * 1 ≤ K * B := Nat.mul_le_mul_left _ hB1
      omega
    omega
  have hKm : K ≤ 5000 := by omega
  have S1 := hidden s1
  have T1 := hidden t1
  have A1 := hidden a1
  have R1 := hidden r1
  have HK := hidden hK
  have HC := hidden hc
  clear s1 t1 a1 r1 hK hc W1 W2
  generalize nb L = xL at *
  generalize nb B = xB at *
  generalize nb (L - K) = xD at *
  go_wp2_with fail
  refine (S1.out _).mono ?_
  rintro e w4 ⟨v, rfl, hv, hb⟩
  have HV := hidden hv
  have HB := hidden hb
  obtain ⟨ao, rfl⟩ : ∃ ao, v = .slice ao c c := by
    rcases hv with ⟨rfl, h⟩ | ⟨g, rfl, h⟩
    · have : c = 0 := by have := congrArg List.length h; rw [pcs_length] at this; exact this
      subst this
      exact ⟨none, rfl⟩
    · rw [pcs_length]; exact ⟨_, rfl⟩
  clear hv hb S1
  go_wp2_with fail
  go_loopw [10, 11] (fun sm i wr => ∃ j : Nat, j ≤ c ∧ i = .int .i64 (j : Int) ∧ sm = .int .i64 ((K - (K - j * B) : Nat) : Int) ∧ wr = w4) (fun _ i _ => c - (intOf i).toNat)
  case atStart => exact ⟨0, by omega, rfl, by simp, rfl⟩
  case round =>
    obtain ⟨j, hj, rfl, rfl, rfl⟩ := hrel
    have hKm : K ≤ 5000 := by have := HK.out; omega
    by_cases hlt : j < c
    · have hlt' : (j : Int) < (c : Int) := by omega
      have hjB := ceil_lt hB1 HC.out hlt
      obtain ⟨g, rfl, hg⟩ : ∃ g, ao = some ⟨g, 0, none⟩ ∧ IB wr g (pcs K B c) := by
        rcases HV.out with ⟨h, h2⟩ | ⟨g, h, h2⟩
        · exfalso
          have := congrArg List.length h2
          rw [pcs_length] at this
          simp at this
          omega
        · rw [pcs_length] at h
          cases h
          exact ⟨g, rfl, h2⟩
      have hcell := hg.cell j (by rw [pcs_length]; exact hlt)
      rw [pcs_get K B c j hlt] at hcell
      obtain ⟨q, hq⟩ : ∃ q, q = K - (K - j * B) := ⟨_, rfl⟩
      obtain ⟨p, hp⟩ : ∃ p, p = min (K - j * B) B := ⟨_, rfl⟩
      rw [← hp] at hcell
      rw [← hq]
      have HQ := hidden (show q + p = K - (K - (j + 1) * B) by rw [Nat.add_mul]; omega)
      have hp1 : ¬ (p : Int) < 1 := by omega
      have hp2 : ¬ (B : Int) < (p : Int) := by omega
      have hqm : q ≤ 5000 := by omega
      have hpm : p ≤ 100 := by omega
      by_cases hl : j + 1 < c
      · have hl' : (j : Int) < (c : Int) - 1 := by omega
        have hpB : p = B := by
          have := ceil_lt hB1 HC.out hl
          rw [Nat.add_mul] at this
          omega
        have hne : ((p : Int) != (B : Int)) = false := by subst hpB; simp
        clear hg hq hp hjB hpB
        go_wp2_with fail
        refine ⟨⟨j + 1, by omega, by go_num, by rw [← HQ.out]; simp, trivial⟩, ?_⟩
        simp [intOf]; omega
      · have hl' : ¬ (j : Int) < (c : Int) - 1 := by omega
        clear hg hq hp hjB
        go_wp2_with fail
        refine ⟨⟨j + 1, by omega, by go_num, by rw [← HQ.out]; simp, trivial⟩, ?_⟩
        simp [intOf]; omega
    · have hjc : j = c := by omega
      subst hjc
      have hlt' : ¬ (j : Int) < (j : Int) := by omega
      have hge := ceil_ge hB1 HC.out
      rw [show K - (K - j * B) = K by omega]
      by_cases hLN : L < N
      · have hLN' : (L : Int) < (N : Int) := by omega
        have hLK : L = K := by have := HK.out; omega
        subst hLK
        clear hge
        go_wp2_with fail
        refine (T1.out _).mono ?_
        rintro e w5 ⟨rfl, rfl⟩
        clear T1
        go_wp2_with fail
        refine (A1.out _).mono ?_
        rintro e w6 ⟨rfl, rfl⟩
        clear A1
        go_wp2_with fail
        refine (R1.out _).mono ?_
        rintro e w7 ⟨rfl, rfl⟩
        clear R1
        go_wp2_with fail
        refine (known_c _).mono ?_
        rintro e w8 ⟨rfl, hb⟩
        have HB3 := hidden (HB.out.trans (hb.mono HB.out.size))
        clear hb HB
        go_wp2_with fail
        go_ret
        exact ⟨rfl, HB3.out⟩
      · have hLN' : ¬ (L : Int) < (N : Int) := by omega
        have hLK : N = K := by have := HK.out; omega
        subst hLK
        clear hge
        go_wp2_with fail
        refine (T1.out _).mono ?_
        rintro e w5 ⟨rfl, rfl⟩
        clear T1
        go_wp2_with fail
        refine (A1.out _).mono ?_
        rintro e w6 ⟨rfl, rfl⟩
        clear A1
        go_wp2_with fail
        refine (R1.out _).mono ?_
        rintro e w7 ⟨rfl, rfl⟩
        clear R1
        go_wp2_with fail
        refine (known_c _).mono ?_
        rintro e w8 ⟨rfl, hb⟩
        have HB3 := hidden (HB.out.trans (hb.mono HB.out.size))
        clear hb HB
        go_wp2_with fail
        go_ret
        exact ⟨rfl, HB3.out⟩
end Go.Proofs.Ytjkjejconcggpaa
