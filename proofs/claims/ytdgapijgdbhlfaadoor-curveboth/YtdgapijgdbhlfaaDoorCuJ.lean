/- The swap of two points. -/
import Derived.Test.YtdgapijgdbhlfaaDoorCuH
import Derived.Deep.QuietTactic
import Derived.BigQuiet
namespace Go.Proofs.YtdgapijgdbhlfaaDoor
open Go Go.RowKit

/-- Behind i rounds: the first places of both halves are those of B. -/
def swTo (A B : List Nat) : Nat → List Nat
  | 0 => A
  | i + 1 => ((swTo A B i).set i (B.getD i 0)).set (5 + i) (B.getD (5 + i) 0)
theorem swTo_length (A B : List Nat) (i : Nat) : (swTo A B i).length = A.length := by
  induction i with
  | zero => rfl
  | succ i ih => simp [swTo, ih]
theorem swTo_off (A B : List Nat) (i j : Nat) (hi : i ≤ 5) (h : i ≤ j) (h5 : j < 5 ∨ 5 + i ≤ j) : (swTo A B i).getD j 0 = A.getD j 0 := by
  induction i with
  | zero => rfl
  | succ i ih =>
    rw [swTo, getD_set, if_neg (by omega), getD_set, if_neg (by omega), ih (by omega) (by omega) (by omega)]
theorem swTo_end {A B : List Nat} (hA : A.length = 10) (hB : B.length = 10) : swTo A B 5 = B := by
  match A, hA, B, hB with
  | [_, _, _, _, _, _, _, _, _, _], _, [_, _, _, _, _, _, _, _, _, _], _ => rfl
theorem xor_self_left (a c : Nat) : a ^^^ (a ^^^ c) = c := by rw [← Nat.xor_assoc, Nat.xor_self, Nat.zero_xor]
theorem xor_self_right (a c : Nat) : c ^^^ (a ^^^ c) = a := by rw [Nat.xor_comm a c, xor_self_left]
/-- What the four lines of a round reckon. -/
theorem swap_num (b m a c : Nat) (hb : (b = 0 ∧ m = 0) ∨ (b = 1 ∧ m = 18446744073709551615)) (ha : a ≤ 18446744073709551615) (hc : c ≤ 18446744073709551615) :
    ∃ y x : Nat, bits .xor .u64 (a : Int) (c : Int) = (y : Int) ∧ bits .and .u64 (m : Int) (y : Int) = (x : Int) ∧ bits .xor .u64 (a : Int) (x : Int) = ((if b = 1 then c else a : Nat) : Int) ∧ bits .xor .u64 (c : Int) (x : Int) = ((if b = 1 then a else c : Nat) : Int) := by
  have hy : a ^^^ c < 18446744073709551616 := Nat.xor_lt_two_pow (n := 64) (by omega) (by omega)
  refine ⟨a ^^^ c, m &&& (a ^^^ c), u64_xor_nat a c (by omega) (by omega), u64_and_nat m _ (by omega) hy, ?_⟩
  rcases hb with ⟨rfl, rfl⟩ | ⟨rfl, rfl⟩
  · rw [Nat.zero_and, u64_xor_nat a 0 (by omega) (by omega), u64_xor_nat c 0 (by omega) (by omega)]
    simp
  · have e : 18446744073709551615 &&& (a ^^^ c) = a ^^^ c := by rw [Nat.and_comm, show 18446744073709551615 = 2 ^ 64 - 1 from rfl, Nat.and_two_pow_sub_one_eq_mod, Nat.mod_eq_of_lt hy]
    rw [e, u64_xor_nat a _ (by omega) hy, u64_xor_nat c _ (by omega) hy, xor_self_left, xor_self_right]
    simp

set_option maxHeartbeats 800000 in
set_option maxRecDepth 100000 in
theorem swap_l (g1 g2 b : Nat) (hb : b ≤ 1) (A B : List Nat) (hA : A.length = 10) (hB : B.length = 10) (bA : ∀ i, A.getD i 0 ≤ 18446744073709551615) (bB : ∀ i, B.getD i 0 ≤ 18446744073709551615) (hne : g1 ≠ g2) (w : World) (h1 : NB .u64 w g1 55 A) (h2 : NB .u64 w g2 55 B) :
    Calls Tryd.prog 27 #[.pointer (some ⟨g1, 0, none⟩), .pointer (some ⟨g2, 0, none⟩), .int .u64 (b : Int)] w fun e w' => e = .returned (.tuple #[]) ∧ NB .u64 w' g1 55 (if b = 1 then B else A) ∧ NB .u64 w' g2 55 (if b = 1 then A else B) ∧ Keeps (fun k => k = g1 ∨ k = g2) w w' := by
  obtain ⟨m, hm, hw⟩ : ∃ m : Nat, ((b = 0 ∧ m = 0) ∨ (b = 1 ∧ m = 18446744073709551615)) ∧ IntKind.u64.wrap (-(b : Int)) = (m : Int) := by
    rcases (show b = 0 ∨ b = 1 by omega) with rfl | rfl
    · exact ⟨0, .inl ⟨rfl, rfl⟩, by decide⟩
    · exact ⟨18446744073709551615, .inr ⟨rfl, rfl⟩, by decide⟩
  obtain ⟨C, hC⟩ : ∃ C, C = if b = 1 then B else A := ⟨_, rfl⟩
  obtain ⟨D, hD⟩ : ∃ D, D = if b = 1 then A else B := ⟨_, rfl⟩
  rw [← hC, ← hD]
  have lC : C.length = 10 := by rw [hC]; split <;> assumption
  have lD : D.length = 10 := by rw [hD]; split <;> assumption
  have HNUM : Hid (∀ i, ∃ y x : Nat, bits .xor .u64 ((A.getD i 0 : Nat) : Int) ((B.getD i 0 : Nat) : Int) = (y : Int) ∧ bits .and .u64 (m : Int) (y : Int) = (x : Int) ∧ bits .xor .u64 ((A.getD i 0 : Nat) : Int) (x : Int) = ((C.getD i 0 : Nat) : Int) ∧ bits .xor .u64 ((B.getD i 0 : Nat) : Int) (x : Int) = ((D.getD i 0 : Nat) : Int)) := fun i => by
    obtain ⟨y, x, e1, e2, e3, e4⟩ := swap_num b m (A.getD i 0) (B.getD i 0) hm (bA i) (bB i)
    refine ⟨y, x, e1, e2, ?_, ?_⟩
    · rw [e3, hC]; split <;> rfl
    · rw [e4, hD]; split <;> rfl
  have HEC := hidden (swTo_end hA lC)
  have HED := hidden (swTo_end hB lD)
  have H1 := hidden h1
  have H2 := hidden h2
  clear h1 h2 hm bA bB hC hD hb
  go_enter Tryd.func27, Tryd.ntmps27
  go_wp2_with fail
  go_loopw [12] (fun c wr => ∃ i : Nat, i ≤ 5 ∧ c = .int .i64 (i : Int) ∧ NB .u64 wr g1 55 (swTo A C i) ∧ NB .u64 wr g2 55 (swTo B D i) ∧ Keeps (fun k => k = g1 ∨ k = g2) w wr) (fun c _ => 5 - (intOf c).toNat)
  case atStart => exact ⟨0, by omega, rfl, H1.out, H2.out, Keeps.refl _ w⟩
  case round =>
    clear H1 H2
    obtain ⟨i, hi, rfl, n1, n2, hk⟩ := hrel
    have HK := hidden hk
    have H1 := hidden n1
    have H2 := hidden n2
    clear hk n1 n2
    by_cases hlt : i < 5
    · have hlt' : (i : Int) < 5 := by omega
      have l1 := swTo_length A C i
      have l2 := swTo_length B D i
      have c1 := H1.out.cell i (by omega)
      have c2 := H2.out.cell i (by omega)
      rw [swTo_off A C i i hi (Nat.le_refl _) (.inl hlt)] at c1
      rw [swTo_off B D i i hi (Nat.le_refl _) (.inl hlt)] at c2
      obtain ⟨y, x, e1, e2, e3, e4⟩ := HNUM.out i
      have f1 := H1.out.frozen
      have f2 := H2.out.frozen
      have HS1 : Hid (swTo A C (i + 1) = ((swTo A C i).set i (C.getD i 0)).set (5 + i) (C.getD (5 + i) 0)) := rfl
      have HS2 : Hid (swTo B D (i + 1) = ((swTo B D i).set i (D.getD i 0)).set (5 + i) (D.getD (5 + i) 0)) := rfl
      generalize hAi : A.getD i 0 = ai at c1 e1 e3
      generalize hBi : B.getD i 0 = bi at c2 e1 e4
      generalize C.getD i 0 = ci at e3 HS1
      generalize D.getD i 0 = di at e4 HS2
      clear hAi hBi
      go_wp2_with fail
      go_quiet (fail)
      go_wp2_with fail
      have K1 : Hid (NB .u64 (wr.drewN nq) g1 55 (swTo A C i)) := H1.out
      have K2 : Hid (NB .u64 (wr.drewN nq) g2 55 (swTo B D i)) := H2.out
      have KK : Hid (Keeps (fun k => k = g1 ∨ k = g2) w (wr.drewN nq)) := HK.out.drewN nq
      have d1 : (wr.drewN nq).cell? ⟨g1, i, none⟩ = some (.int .u64 (ai : Int)) := c1
      have d2 : (wr.drewN nq).cell? ⟨g2, i, none⟩ = some (.int .u64 (bi : Int)) := c2
      have q1 : ∀ j, (wr.drewN nq).frozen? ⟨g1, j, none⟩ = false := f1
      clear c1 c2 f1 f2 H1 H2 HK
      generalize wr.drewN nq = wq at K1 K2 KK d1 d2 q1 ⊢
      go_region
      go_wp2_with fail
      have P1 : Hid (NB .u64 (wq.setCell ⟨g1, i, none⟩ (.int .u64 (ci : Int))).drew g1 55 ((swTo A C i).set i ci)) := K1.out.set i ci
      have hs : Keeps (fun k => k = g1) wq (wq.setCell ⟨g1, i, none⟩ (.int .u64 (ci : Int))).drew := ((Keeps.refl (fun k => k = g1) wq).setCell (p := ⟨g1, i, none⟩) (.inl rfl) _).drew
      have P2 := hidden (K2.out.keep hs (fun e => hne e.symm))
      have PK : Hid (Keeps (fun k => k = g1 ∨ k = g2) w (wq.setCell ⟨g1, i, none⟩ (.int .u64 (ci : Int))).drew) := (KK.out.setCell (p := ⟨g1, i, none⟩) (.inl (.inl rfl)) _).drew
      have p2 := hs.cell d2 (fun e => hne e.symm)
      clear d1 d2 q1 K1 K2 KK hs
      generalize (wq.setCell ⟨g1, i, none⟩ (.int .u64 (ci : Int))).drew = ws at P1 P2 PK p2 ⊢
      have q2 := P2.out.frozen
      go_region
      go_wp2_with fail
      have Q2 : Hid (NB .u64 (ws.setCell ⟨g2, i, none⟩ (.int .u64 (di : Int))).drew g2 55 ((swTo B D i).set i di)) := P2.out.set i di
      have hs : Keeps (fun k => k = g2) ws (ws.setCell ⟨g2, i, none⟩ (.int .u64 (di : Int))).drew := ((Keeps.refl (fun k => k = g2) ws).setCell (p := ⟨g2, i, none⟩) (.inl rfl) _).drew
      have Q1 := hidden (P1.out.keep hs hne)
      have QK : Hid (Keeps (fun k => k = g1 ∨ k = g2) w (ws.setCell ⟨g2, i, none⟩ (.int .u64 (di : Int))).drew) := (PK.out.setCell (p := ⟨g2, i, none⟩) (.inl (.inr rfl)) _).drew
      clear p2 q2 P1 P2 PK hs e1 e2 e3 e4
      generalize (ws.setCell ⟨g2, i, none⟩ (.int .u64 (di : Int))).drew = wt at Q1 Q2 QK ⊢
      have c1 := Q1.out.cell (5 + i) (by rw [List.length_set]; omega)
      have c2 := Q2.out.cell (5 + i) (by rw [List.length_set]; omega)
      rw [getD_set, if_neg (by omega), swTo_off A C i (5 + i) hi (by omega) (.inr (by omega))] at c1
      rw [getD_set, if_neg (by omega), swTo_off B D i (5 + i) hi (by omega) (.inr (by omega))] at c2
      have f1 := Q1.out.frozen
      have f2 := Q2.out.frozen
      obtain ⟨y', x', e1, e2, e3, e4⟩ := HNUM.out (5 + i)
      generalize A.getD (5 + i) 0 = ai' at c1 e1 e3
      generalize B.getD (5 + i) 0 = bi' at c2 e1 e4
      generalize C.getD (5 + i) 0 = ci' at e3 HS1
      generalize D.getD (5 + i) 0 = di' at e4 HS2
      go_quiet (fail)
      go_wp2_with fail
      have K1 : Hid (NB .u64 (wt.drewN nq) g1 55 ((swTo A C i).set i ci)) := Q1.out
      have K2 : Hid (NB .u64 (wt.drewN nq) g2 55 ((swTo B D i).set i di)) := Q2.out
      have KK : Hid (Keeps (fun k => k = g1 ∨ k = g2) w (wt.drewN nq)) := QK.out.drewN nq
      have d1 : (wt.drewN nq).cell? ⟨g1, 5 + i, none⟩ = some (.int .u64 (ai' : Int)) := c1
      have d2 : (wt.drewN nq).cell? ⟨g2, 5 + i, none⟩ = some (.int .u64 (bi' : Int)) := c2
      have q1 : ∀ j, (wt.drewN nq).frozen? ⟨g1, j, none⟩ = false := f1
      clear c1 c2 f1 f2 Q1 Q2 QK
      generalize wt.drewN nq = wu at K1 K2 KK d1 d2 q1 ⊢
      go_region
      go_wp2_with fail
      have P1 : Hid (NB .u64 (wu.setCell ⟨g1, 5 + i, none⟩ (.int .u64 (ci' : Int))).drew g1 55 (((swTo A C i).set i ci).set (5 + i) ci')) := K1.out.set (5 + i) ci'
      have hs : Keeps (fun k => k = g1) wu (wu.setCell ⟨g1, 5 + i, none⟩ (.int .u64 (ci' : Int))).drew := ((Keeps.refl (fun k => k = g1) wu).setCell (p := ⟨g1, 5 + i, none⟩) (.inl rfl) _).drew
      have P2 := hidden (K2.out.keep hs (fun e => hne e.symm))
      have PK : Hid (Keeps (fun k => k = g1 ∨ k = g2) w (wu.setCell ⟨g1, 5 + i, none⟩ (.int .u64 (ci' : Int))).drew) := (KK.out.setCell (p := ⟨g1, 5 + i, none⟩) (.inl (.inl rfl)) _).drew
      have p2 := hs.cell d2 (fun e => hne e.symm)
      clear d1 d2 q1 K1 K2 KK hs
      generalize (wu.setCell ⟨g1, 5 + i, none⟩ (.int .u64 (ci' : Int))).drew = wv at P1 P2 PK p2 ⊢
      have q2 := P2.out.frozen
      go_region
      go_wp2
      go_roundw
      case rel =>
        refine ⟨i + 1, by omega, by go_num, ?_, ?_, (PK.out.setCell (p := ⟨g2, 5 + i, none⟩) (.inl (.inr rfl)) _).drew⟩
        · rw [HS1.out]
          exact P1.out.keep (S := fun k => k = g2) ((Keeps.refl (fun k => k = g2) wv).setCell (p := ⟨g2, 5 + i, none⟩) (.inl rfl) _).drew hne
        · rw [HS2.out]
          exact P2.out.set (5 + i) di'
      case measure => simp [intOf]; omega
    · have hlt' : ¬ (i : Int) < 5 := by omega
      obtain rfl : i = 5 := by omega
      go_wp2
      go_end0
      exact ⟨rfl, by rw [← HEC.out]; exact H1.out, by rw [← HED.out]; exact H2.out, HK.out⟩
end Go.Proofs.YtdgapijgdbhlfaaDoor
