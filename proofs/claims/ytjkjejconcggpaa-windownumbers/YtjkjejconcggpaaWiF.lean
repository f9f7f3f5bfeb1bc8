/- Same of numbers, and what is known. -/
import Derived.Test.YtjkjejconcggpaaWiE
namespace Go.Proofs.Ytjkjejconcggpaa
open Go Go.RowKit

theorem Keeps.drewN {S : Nat → Prop} {a w : World} (h : Keeps S a w) (n : Nat) : Keeps S a (w.drewN n) := ⟨h.os, h.tape, h.output, h.size, h.block⟩

set_option maxHeartbeats 400000 in
theorem same_i (g1 g2 n : Nat) (L : List Nat) (hn : n = L.length) (hl : L.length ≤ 1000000) (w : World) (ha : IB w g1 L) (hb : IB w g2 L) :
    Calls Try.prog 24 #[.slice (some ⟨g1, 0, none⟩) n n, .slice (some ⟨g2, 0, none⟩) n n] w fun e w' => e = .returned (.bool true) ∧ Keeps (fun _ => False) w w' := by
  have HA := hidden ha
  have HB := hidden hb
  have hnm : n ≤ 1000000 := by omega
  have HN := hidden hn
  clear ha hb hn hl
  go_enter Try.func24, Try.ntmps24
  go_wp2
  go_loopw [5] (fun i wr => ∃ k : Nat, k ≤ n ∧ i = .int .i64 k ∧ Keeps (fun _ => False) w wr) (fun i _ => n - (intOf i).toNat)
  case atStart => exact ⟨0, Nat.zero_le _, rfl, Keeps.refl _ _⟩
  case round =>
    obtain ⟨k, hk, rfl, hkp⟩ := hrel
    by_cases hlt : k < n
    · have k1 := (HA.out.keep hkp (fun h => h)).cell k (by have := HN.out; omega)
      have k2 := (HB.out.keep hkp (fun h => h)).cell k (by have := HN.out; omega)
      have hi0 : (0 : Int) ≤ (k : Int) := Int.natCast_nonneg _
      have hi1 : (k : Int) < (n : Int) := by omega
      go_wp2_with fail
      go_quiet (fail)
      go_wp2
      go_roundw
      case rel => exact ⟨k + 1, by omega, by go_num, hkp.drewN nq⟩
      case measure => simp [intOf]; omega
    · go_wp2
      go_ret
      exact ⟨rfl, hkp⟩

theorem ord_refl (a : Nat) (h : a < 9007199254740992) : FloatKind.f64.format.order (nb a) (nb a) = some .eq := by
  rw [ordK, order_nb a a h h, Nat.compare_eq_eq.2 rfl]

set_option maxHeartbeats 800000 in
theorem known_c (w : World) : Calls Try.prog 18 #[] w fun e w' => e = .returned (.bool true) ∧ Below w.heap.size w w' := by
  have W52 : Win (nb 5) (nb 2) true 5 2 := Win.mk' 5 2 (by omega) (by omega) (by omega)
  have o52 : ∀ w, Calls Try.prog 17 #[.int .i64 5, .int .i64 2] w fun e w' => e = .returned (.complex .f64 (nb 5) (nb 2)) ∧ w' = w := fun w => of_c 5 2 (by omega) w
  have o02 : ∀ w, Calls Try.prog 17 #[.int .i64 0, .int .i64 2] w fun e w' => e = .returned (.complex .f64 (nb 0) (nb 2)) ∧ w' = w := fun w => of_c 0 2 (by omega) w
  have o10 : ∀ w, Calls Try.prog 17 #[.int .i64 1, .int .i64 0] w fun e w' => e = .returned (.complex .f64 (nb 1) (nb 0)) ∧ w' = w := fun w => of_c 1 0 (by omega) w
  have s5 : Calls Try.prog 20 #[.complex .f64 (nb 5) (nb 2), .int .i64 9] w fun e w' => e = .returned (.tuple #[.slice (some ⟨w.heap.size, 0, none⟩) 3 3, .complex .f64 (nb 0) (nb 2)]) ∧ IB w' w.heap.size [2, 2, 1] ∧ Below w.heap.size w w' := split_c W52 9 5 3 (by omega) (by decide) (by omega) (by decide) w
  have t6 : ∀ w, Calls Try.prog 13 #[.complex .f64 (nb 5) (nb 2), .int .i64 6] w fun e w' => e = .returned (.tuple #[.complex .f64 0 0, .bool false]) ∧ w' = w := fun w => take_no W52 6 (.inr (.inr (by omega))) w
  have hR : rB (nb 1) (nb 0) = false := by rw [rB_nb 1 0 (by omega) (by omega)]; decide
  have r10 : ∀ w, Calls Try.prog 7 #[.complex .f64 (nb 1) (nb 0)] w fun e w' => e = .returned (.bool false) ∧ w' = w := by
    intro w
    rw [← hR]
    exact right_c _ _ (isNaN_nb 1 (by omega)) (isNaN_nb 0 (by omega)) w
  have q0 := ord_refl 0 (by omega)
  have q2 := ord_refl 2 (by omega)
  have H52 := hidden o52
  have H02 := hidden o02
  have H10 := hidden o10
  have HS := hidden s5
  have HT := hidden t6
  have HR := hidden r10
  clear W52 o52 o02 o10 s5 t6 hR r10
  generalize nb 5 = n5 at *
  generalize nb 2 = n2 at *
  generalize nb 0 = n0 at *
  generalize nb 1 = n1 at *
  go_enter Try.func18, Try.ntmps18
  go_wp2_with fail
  refine (H52.out _).mono ?_
  rintro e wa ⟨rfl, rfl⟩
  go_wp2_with fail
  refine HS.out.mono ?_
  rintro e w1 ⟨rfl, hg, hb⟩
  have HG := hidden hg
  have HB := hidden hb
  clear hg hb HS
  go_wp2_with fail
  refine (H52.out _).mono ?_
  rintro e wb ⟨rfl, rfl⟩
  go_wp2_with fail
  refine (HT.out _).mono ?_
  rintro e wb' ⟨rfl, rfl⟩
  go_wp2_with fail
  have hb2 : Below wb'.heap.size wb' (wb'.alloc (.cells (icells [2, 2, 1]).toArray 2)) := (Below.refl _ wb').alloc (by omega) _
  have hg2 : IB (wb'.alloc (.cells (icells [2, 2, 1]).toArray 2)) wb'.heap.size [2, 2, 1] := heap_alloc_new wb' _
  refine (same_i wa.heap.size wb'.heap.size 3 [2, 2, 1] rfl (by decide) _ (HG.out.fresh hb2) hg2).mono ?_
  rintro e wc ⟨rfl, hk⟩
  have HB2 := hidden ((HB.out.trans (hb2.mono HB.out.size)).trans ((Keeps.below hk (Nat.le_refl _) (fun _ h => h.elim)).mono (Nat.le_trans HB.out.size hb2.size)))
  clear hb2 hg2 hk HG HB
  go_wp2_with fail
  refine (H02.out _).mono ?_
  rintro e wd ⟨rfl, rfl⟩
  go_wp2_with fail
  refine (H10.out _).mono ?_
  rintro e wd ⟨rfl, rfl⟩
  go_wp2_with fail
  refine (HR.out _).mono ?_
  rintro e wd ⟨rfl, rfl⟩
  go_wp2_with fail
  go_ret
  exact ⟨rfl, HB2.out⟩
end Go.Proofs.Ytjkjejconcggpaa
