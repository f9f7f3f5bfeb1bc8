/- ChaCha's rounds over sixteen words in memory. -/
import Derived.Test.YthkaibkmpenclaaDoorChA
import Derived.Test.YthkaibkmpenclaaDoorOrdB
import Derived.Deep.RegionWith
import Derived.Deep.Cut
import Derived.Deep.CutRange
namespace Go.Proofs.YthkaibkmpenclaaDoor
open Go Go.RowKit

def wcells (L : List Int) : List Value := L.map (Value.int .u32)
/-- Block g holds the words L. -/
def WB (w : World) (g : Nat) (t : TypeId) (L : List Int) : Prop := w.heap[g]? = some (.cells (wcells L).toArray t (0, 0))

theorem WB.cell {w : World} {g : Nat} {t : TypeId} {L : List Int} (h : WB w g t L) (i : Nat) (hi : i < L.length) : w.cell? ⟨g, i, none⟩ = some (.int .u32 (L.getD i 0)) := by
  have h' : w.heap[g]? = some (.cells (wcells L).toArray t (0, 0)) := h
  simp [World.cell?, h', wcells, List.getElem?_eq_getElem hi]
theorem WB.frozen {w : World} {g : Nat} {t : TypeId} {L : List Int} (h : WB w g t L) (i : Nat) : w.frozen? ⟨g, i, none⟩ = false := by
  have h' : w.heap[g]? = some (.cells (wcells L).toArray t (0, 0)) := h
  simp [World.frozen?, h']
theorem WB.set {w : World} {g : Nat} {t : TypeId} {L : List Int} (h : WB w g t L) (i : Nat) (x : Int) : WB (w.setCell ⟨g, i, none⟩ (.int .u32 x)) g t (L.set i x) := by
  unfold WB at *
  rw [heap_setCell_same _ _ _ _ _ _ h]
  simp [wcells, List.map_set]
theorem WB.drew {w : World} {g : Nat} {t : TypeId} {L : List Int} (h : WB w g t L) : WB w.drew g t L := h
theorem WB.keep {S : Nat → Prop} {w w' : World} {g : Nat} {t : TypeId} {L : List Int} (h : WB w g t L) (hk : Keeps S w w') (hn : ¬ S g) : WB w' g t L :=
  (hk.block g (lt_of_block h) hn).trans h

/-- The quarter round on four of the words. -/
def quarterAt (L : List Int) (a b c d : Nat) : List Int :=
  (((L.set a (qa (L.getD a 0) (L.getD b 0) (L.getD c 0) (L.getD d 0))).set b (qb (L.getD a 0) (L.getD b 0) (L.getD c 0) (L.getD d 0))).set c (qc (L.getD a 0) (L.getD b 0) (L.getD c 0) (L.getD d 0))).set d (qd (L.getD a 0) (L.getD b 0) (L.getD c 0) (L.getD d 0))
def stepAt (s i : Nat) (L : List Int) : List Int := quarterAt L i (4 + (i + s) % 4) (8 + (i + 2 * s) % 4) (12 + (i + 3 * s) % 4)
def rndTo (s : Nat) : Nat → List Int → List Int
  | 0, L => L
  | j + 1, L => stepAt s j (rndTo s j L)
theorem quarterAt_length (L : List Int) (a b c d : Nat) : (quarterAt L a b c d).length = L.length := by simp [quarterAt]
theorem rndTo_length (s j : Nat) (L : List Int) : (rndTo s j L).length = L.length := by
  induction j with
  | zero => rfl
  | succ j ih => rw [rndTo, stepAt, quarterAt_length, ih]

theorem tmod4 (n : Nat) : ((n : Int)).tmod 4 = ((n % 4 : Nat) : Int) := by
  rw [Int.tmod_eq_emod_of_nonneg (by omega)]; rfl

set_option maxHeartbeats 1600000 in
set_option maxRecDepth 100000 in
theorem round_c (s : Nat) (hs : s ≤ 1) (g : Nat) (L : List Int) (hL : L.length = 16) (w : World) (h : WB w g 98 L) :
    Calls Tryd.prog 86 #[.pointer (some ⟨g, 0, none⟩), .int .i64 s] w fun e w' => e = .returned (.tuple #[]) ∧ WB w' g 98 (rndTo s 4 L) ∧ Keeps (fun k => k = g) w w' := by
  go_enter Tryd.func86, Tryd.ntmps86
  go_wp2_with fail
  go_loopw [8] (fun i wr => ∃ j : Nat, j ≤ 4 ∧ i = .int .i64 (j : Int) ∧ WB wr g 98 (rndTo s j L) ∧ Keeps (fun k => k = g) w wr) (fun i _ => 4 - (intOf i).toNat)
  case atStart => exact ⟨0, by omega, by simp, h, Keeps.refl _ _⟩
  case round =>
    obtain ⟨j, hj, rfl, hw, hk⟩ := hrel
    clear h
    have hl := rndTo_length s j L
    by_cases hlt : j < 4
    · have hlt' : (j : Int) < 4 := by omega
      have HN : Hid (rndTo s (j + 1) L = quarterAt (rndTo s j L) j (4 + (j + s) % 4) (8 + (j + 2 * s) % 4) (12 + (j + 3 * s) % 4)) := rfl
      have e1 : (4 + ((j : Int) + (s : Int)) % 4) = ((4 + (j + s) % 4 : Nat) : Int) := by omega
      have e2 : (8 + ((j : Int) + 2 * (s : Int)) % 4) = ((8 + (j + 2 * s) % 4 : Nat) : Int) := by omega
      have e3 : (12 + ((j : Int) + 3 * (s : Int)) % 4) = ((12 + (j + 3 * s) % 4 : Nat) : Int) := by omega
      have E1 := hidden e1
      have E2 := hidden e2
      have E3 := hidden e3
      clear e1 e2 e3
      go_wp2_with fail
      rw [E1.out, E2.out, E3.out]
      clear E1 E2 E3
      obtain ⟨b, hb⟩ : ∃ b, b = 4 + (j + s) % 4 := ⟨_, rfl⟩
      obtain ⟨c, hc⟩ : ∃ b, b = 8 + (j + 2 * s) % 4 := ⟨_, rfl⟩
      obtain ⟨d, hd⟩ : ∃ b, b = 12 + (j + 3 * s) % 4 := ⟨_, rfl⟩
      have hb1 : 4 ≤ b := by omega
      have hb2 : b < 8 := by omega
      have hc1 : 8 ≤ c := by omega
      have hc2 : c < 12 := by omega
      have hd1 : 12 ≤ d := by omega
      have hd2 : d < 16 := by omega
      rw [← hb, ← hc, ← hd] at HN ⊢
      clear hb hc hd
      have HK : Hid (Keeps (fun k => k = g) w wr) := hk
      have HW : Hid (WB wr g 98 (rndTo s j L)) := hw
      have c0 := hw.cell j (by omega)
      have c1 := hw.cell b (by omega)
      have c2 := hw.cell c (by omega)
      have c3 := hw.cell d (by omega)
      have fz := hw.frozen
      clear hw hk hl
      obtain ⟨x0, X0⟩ : ∃ x, Hid ((rndTo s j L).getD j 0 = x) := ⟨_, rfl⟩
      obtain ⟨x1, X1⟩ : ∃ x, Hid ((rndTo s j L).getD b 0 = x) := ⟨_, rfl⟩
      obtain ⟨x2, X2⟩ : ∃ x, Hid ((rndTo s j L).getD c 0 = x) := ⟨_, rfl⟩
      obtain ⟨x3, X3⟩ : ∃ x, Hid ((rndTo s j L).getD d 0 = x) := ⟨_, rfl⟩
      rw [X0.out] at c0
      rw [X1.out] at c1
      rw [X2.out] at c2
      rw [X3.out] at c3
      refine region_ord [0,1,2,3,4,5,6,7,8,9,10,11,13,14,15,16,18,19,20,21,23,24,25,26,34,37,40,43,12,17,22,27,28,29,30,31,32,33,35,36,38,39,41,42,44,45] (by kernel_rfl) (by kernel_rfl) fun K9 H9 => ?_
      simp only [List.filterMap_cons, List.filterMap_nil, List.getElem?_toArray, List.getElem?_cons_succ, List.getElem?_cons_zero]
      go_wp2_with (go_at_call 90; refine (quarter_c _ _ _ _ _).mono ?_; rintro e w1 ⟨rfl, rfl⟩)
      go_roundw
      case rel =>
        refine ⟨j + 1, by omega, by go_num, ?_, ?_⟩
        · rw [HN.out]
          unfold quarterAt
          rw [X0.out, X1.out, X2.out, X3.out]
          exact ((((HW.out.set j _).set b _).set c _).set d _).drew
        · exact ((((HK.out.setCell (.inl rfl) _).setCell (.inl rfl) _).setCell (.inl rfl) _).setCell (.inl rfl) _).drew
      case measure => simp [intOf]; omega
    · have hlt' : ¬ (j : Int) < 4 := by omega
      obtain rfl : j = 4 := by omega
      go_wp2
      go_end0
      exact ⟨rfl, hw, hk⟩

end Go.Proofs.YthkaibkmpenclaaDoor
