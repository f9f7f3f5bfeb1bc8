/- The walk of the law WindowEnds. -/
import Derived.Test.YtjkjejconcggpaaWiG
import Derived.Laws.BitsLemmas
namespace Go.Proofs.Ytjkjejconcggpaa
open Go Go.RowKit

theorem and_low (x : Int) : ∃ L : Nat, L ≤ 4294967295 ∧ bits .and .i64 x 4294967295 = (L : Int) := by
  refine ⟨(BitVec.ofInt 64 x &&& BitVec.ofInt 64 4294967295).toNat, ?_, ?_⟩
  · rw [BitVec.toNat_and]
    have : (BitVec.ofInt 64 4294967295).toNat = 4294967295 := by decide
    rw [this]
    exact Nat.and_le_right
  · have h : (BitVec.ofInt 64 x &&& BitVec.ofInt 64 4294967295).toNat ≤ 4294967295 := by
      rw [BitVec.toNat_and]
      have : (BitVec.ofInt 64 4294967295).toNat = 4294967295 := by decide
      rw [this]
      exact Nat.and_le_right
    show IntKind.i64.wrap ((BitVec.ofInt 64 x &&& BitVec.ofInt 64 4294967295).toNat : Int) = _
    generalize (BitVec.ofInt 64 x &&& BitVec.ofInt 64 4294967295).toNat = y at *
    rw [IntKind.wrap_i64]
    omega

set_option maxHeartbeats 3200000 in
set_option maxRecDepth 100000 in
theorem windowEnds_c (left n m most : Int) (w : World) :
    Calls Try.prog 6 #[.int .i64 left, .int .i64 n, .int .i64 m, .int .i64 most] w fun e w' => e = .returned (.bool true) ∧ Below w.heap.size w w' := by
  obtain ⟨L, hL, eL⟩ := and_low left
  obtain ⟨N, hN, eN⟩ := and_low n
  obtain ⟨M, hM, eM⟩ := and_low m
  have q0 : FloatKind.f64.format.order 0 0 = some .eq := by rw [zero_nb]; exact ord_refl 0 (by omega)
  go_enter Try.func6, Try.ntmps6
  go_wp2_with fail
  refine (within_c most 32767 (by omega) w).mono ?_
  rintro e w1 ⟨K, rfl, hK, rfl⟩
  have hK1 : 1 + (K : Int) = ((K + 1 : Nat) : Int) := by omega
  obtain ⟨B, hB⟩ : ∃ B, B = K + 1 := ⟨_, rfl⟩
  rw [← hB] at hK1
  have hB1 : 1 ≤ B := by omega
  have hB2 : B ≤ 32768 := by omega
  clear hB
  go_wp2_with fail
  refine (of_c L B (by omega) w1).mono ?_
  rintro e w2 ⟨rfl, rfl⟩
  obtain ⟨S, hS⟩ : ∃ S, S = L + M := ⟨_, rfl⟩
  have hS1 : (L : Int) + (M : Int) = (S : Int) := by omega
  have hSm : S ≤ 8589934590 := by omega
  have W0 := Win.mk' L B hL hB1 hB2
  have qB := ord_refl B (by omega)
  clear eL eN eM hK1
  by_cases hok : N ≤ L
  · by_cases his : L + M ≤ 4294967295
    · have his' : S ≤ 4294967295 := by omega
      have t1 := fun w => take_yes W0 N hok w
      have a1 := fun w => add_yes W0 M his w
      have hn1 : (N : Int) ≤ (L : Int) := by omega
      have hs1 : (S : Int) ≤ 4294967295 := by omega
      obtain ⟨D, hD⟩ : ∃ D, D = L - N := ⟨_, rfl⟩
      have hD1 : (L : Int) - (N : Int) = (D : Int) := by omega
      have WA := Win.mk' D B (by omega) hB1 hB2
      rw [← hD] at t1
      have la := fun w => left_w WA w
      have ma := fun w => most_w WA w
      have LA := hidden la
      have MA := hidden ma
      clear la ma
      have WB := Win.mk' S B his' hB1 hB2
      rw [← hS] at a1
      have lb := fun w => left_w WB w
      have mb := fun w => most_w WB w
      have LB := hidden lb
      have MB := hidden mb
      clear lb mb
      obtain ⟨E, hE⟩ : ∃ E, E = D + M := ⟨_, rfl⟩
      have hE1 : (D : Int) + (M : Int) = (E : Int) := by omega
      have hE2 : S - N = E := by omega
      have hDm : D ≤ 4294967295 := by omega
      have ac := fun w => add_yes WA M (by omega) w
      have td := fun w => take_yes WB N (by omega) w
      rw [← hE] at ac
      rw [hE2] at td
      have lc := fun w => left_w (Win.mk' E B (by omega) hB1 hB2) w
      have qE := ord_refl E (by omega)
      have AC := hidden ac
      have TD := hidden td
      have LC := hidden lc
      clear ac td lc hE hE2
      have T1 := hidden t1
      have A1 := hidden a1
      clear t1 a1 hok his W0 WA hD WB his' hS
      generalize nb L = xL at *
      generalize nb B = xB at *
      generalize nb D = xD at *
      generalize nb S = xS at *
      generalize nb E = xE at *
      go_wp2_with fail
      refine (T1.out _).mono ?_
      rintro e w9 ⟨rfl, rfl⟩
      clear T1
      go_wp2_with fail
      refine (LA.out _).mono ?_
      rintro e w9 ⟨rfl, rfl⟩
      go_wp2_with fail
      refine (MA.out _).mono ?_
      rintro e w9 ⟨rfl, rfl⟩
      go_wp2_with fail
      refine (A1.out _).mono ?_
      rintro e w9 ⟨rfl, rfl⟩
      clear A1
      go_wp2_with fail
      refine (LB.out _).mono ?_
      rintro e w9 ⟨rfl, rfl⟩
      go_wp2_with fail
      refine (MB.out _).mono ?_
      rintro e w9 ⟨rfl, rfl⟩
      go_wp2_with fail
      refine (AC.out _).mono ?_
      rintro e w9 ⟨rfl, rfl⟩
      clear AC
      go_wp2_with fail
      refine (TD.out _).mono ?_
      rintro e w9 ⟨rfl, rfl⟩
      clear TD
      go_wp2_with fail
      refine (LC.out _).mono ?_
      rintro e w9 ⟨rfl, rfl⟩
      clear LC
      go_wp2_with fail
      refine (known_c _).mono ?_
      rintro e w10 ⟨rfl, hb⟩
      have HB := hidden hb
      clear hb
      go_wp2_with fail
      go_ret
      exact ⟨rfl, HB.out⟩
    · have t1 := fun w => take_yes W0 N hok w
      have a1 := fun w => add_no W0 (M : Int) (.inr (.inr (by omega))) w
      have hn1 : (N : Int) ≤ (L : Int) := by omega
      have hs1 : ¬ (S : Int) ≤ 4294967295 := by omega
      obtain ⟨D, hD⟩ : ∃ D, D = L - N := ⟨_, rfl⟩
      have hD1 : (L : Int) - (N : Int) = (D : Int) := by omega
      have WA := Win.mk' D B (by omega) hB1 hB2
      rw [← hD] at t1
      have la := fun w => left_w WA w
      have ma := fun w => most_w WA w
      have LA := hidden la
      have MA := hidden ma
      clear la ma
      have T1 := hidden t1
      have A1 := hidden a1
      clear t1 a1 hok his W0 WA hD hS
      generalize nb L = xL at *
      generalize nb B = xB at *
      generalize nb D = xD at *
      go_wp2_with fail
      refine (T1.out _).mono ?_
      rintro e w9 ⟨rfl, rfl⟩
      clear T1
      go_wp2_with fail
      refine (LA.out _).mono ?_
      rintro e w9 ⟨rfl, rfl⟩
      go_wp2_with fail
      refine (MA.out _).mono ?_
      rintro e w9 ⟨rfl, rfl⟩
      go_wp2_with fail
      refine (A1.out _).mono ?_
      rintro e w9 ⟨rfl, rfl⟩
      clear A1
      go_wp2_with fail
      refine (known_c _).mono ?_
      rintro e w10 ⟨rfl, hb⟩
      have HB := hidden hb
      clear hb
      go_wp2_with fail
      go_ret
      exact ⟨rfl, HB.out⟩
  · by_cases his : L + M ≤ 4294967295
    · have his' : S ≤ 4294967295 := by omega
      have t1 := fun w => take_no W0 (N : Int) (.inr (.inr (by omega))) w
      have a1 := fun w => add_yes W0 M his w
      have hn1 : ¬ (N : Int) ≤ (L : Int) := by omega
      have hs1 : (S : Int) ≤ 4294967295 := by omega
      have WB := Win.mk' S B his' hB1 hB2
      rw [← hS] at a1
      have lb := fun w => left_w WB w
      have mb := fun w => most_w WB w
      have LB := hidden lb
      have MB := hidden mb
      clear lb mb
      have T1 := hidden t1
      have A1 := hidden a1
      clear t1 a1 hok his W0 WB his' hS
      generalize nb L = xL at *
      generalize nb B = xB at *
      generalize nb S = xS at *
      go_wp2_with fail
      refine (T1.out _).mono ?_
      rintro e w9 ⟨rfl, rfl⟩
      clear T1
      go_wp2_with fail
      refine (A1.out _).mono ?_
      rintro e w9 ⟨rfl, rfl⟩
      clear A1
      go_wp2_with fail
      refine (LB.out _).mono ?_
      rintro e w9 ⟨rfl, rfl⟩
      go_wp2_with fail
      refine (MB.out _).mono ?_
      rintro e w9 ⟨rfl, rfl⟩
      go_wp2_with fail
      refine (known_c _).mono ?_
      rintro e w10 ⟨rfl, hb⟩
      have HB := hidden hb
      clear hb
      go_wp2_with fail
      go_ret
      exact ⟨rfl, HB.out⟩
    · have t1 := fun w => take_no W0 (N : Int) (.inr (.inr (by omega))) w
      have a1 := fun w => add_no W0 (M : Int) (.inr (.inr (by omega))) w
      have hn1 : ¬ (N : Int) ≤ (L : Int) := by omega
      have hs1 : ¬ (S : Int) ≤ 4294967295 := by omega
      have T1 := hidden t1
      have A1 := hidden a1
      clear t1 a1 hok his W0 hS
      generalize nb L = xL at *
      generalize nb B = xB at *
      go_wp2_with fail
      refine (T1.out _).mono ?_
      rintro e w9 ⟨rfl, rfl⟩
      clear T1
      go_wp2_with fail
      refine (A1.out _).mono ?_
      rintro e w9 ⟨rfl, rfl⟩
      clear A1
      go_wp2_with fail
      refine (known_c _).mono ?_
      rintro e w10 ⟨rfl, hb⟩
      have HB := hidden hb
      clear hb
      go_wp2_with fail
      go_ret
      exact ⟨rfl, HB.out⟩
end Go.Proofs.Ytjkjejconcggpaa
