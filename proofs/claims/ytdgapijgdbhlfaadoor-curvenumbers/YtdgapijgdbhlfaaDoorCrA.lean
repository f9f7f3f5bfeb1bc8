/- The document's carry. -/
import Derived.Test.YtdgapijgdbhlfaaDoorCrS
import Derived.Deep.QuietTactic
import Derived.BigQuiet
namespace Go.Proofs.YtdgapijgdbhlfaaDoor
open Go Go.RowKit

def icells (L : List Int) : List Value := L.map fun x : Int => Value.int .i64 x
theorem icells_length (L : List Int) : (icells L).length = L.length := by simp [icells]
/-- The block g holds the numbers L. -/
def IB (w : World) (g : Nat) (t : TypeId) (L : List Int) : Prop := w.heap[g]? = some (.cells (icells L).toArray t (0, 0))
section
variable {w : World} {g : Nat} {t : TypeId} {L : List Int}
theorem IB.lt (h : IB w g t L) : g < w.heap.size := lt_of_block h
theorem IB.cell (h : IB w g t L) (i : Nat) (hi : i < L.length) : w.cell? ⟨g, i, none⟩ = some (.int .i64 (L.getD i 0)) := by
  rw [cell_row h]
  simp [icells, hi]
theorem IB.frozen (h : IB w g t L) (i : Nat) : w.frozen? ⟨g, i, none⟩ = false := frozen_row h i
theorem IB.set (h : IB w g t L) (i : Nat) (x : Int) : IB (w.setCell ⟨g, i, none⟩ (.int .i64 x)) g t (L.set i x) := by
  unfold IB
  rw [heap_setCell_same _ _ _ _ _ _ h]
  simp [icells, List.map_set]
theorem IB.keep {S : Nat → Prop} {w' : World} (h : IB w g t L) (hk : Keeps S w w') (hn : ¬ S g) : IB w' g t L := (hk.block g (lt_of_block h) hn).trans h
theorem IB.fresh {w' : World} (h : IB w g t L) (hb : Below w.heap.size w w') : IB w' g t L := h.keep (S := fun _ => False) (Keeps.ofFresh hb) (fun h => h)
theorem IB.new (w : World) (L : List Int) : IB (w.alloc (.cells (icells L).toArray t)) w.heap.size t L := heap_alloc_new w _
end
theorem i64w (x : Int) (h : -9000000000000000000 ≤ x ∧ x ≤ 9000000000000000000) : IntKind.i64.wrap x = x := by rw [IntKind.wrap_i64]; omega
theorem crTo_bd (L : List Int) (M : Int) (hM : ∀ j, -M ≤ L.getD j 0 ∧ L.getD j 0 ≤ M) (h0 : 0 ≤ M) (hL : L.length = 16) (i : Nat) (hi : i ≤ 15) (j : Nat) : -(2 * M + 65536) ≤ (crTo L i).getD j 0 ∧ (crTo L i).getD j 0 ≤ 2 * M + 65536 := by
  have hq := qp_bound L M M hM (by omega) h0
  rw [crTo_form L hL i hi j]
  have := hM j
  have := hq j
  split
  · omega
  · split <;> omega

set_option maxHeartbeats 800000 in
set_option maxRecDepth 100000 in
theorem rcarry_c (g : Nat) (L : List Int) (hL : L.length = 16) (hb : ∀ j, -200000000000000 ≤ L.getD j 0 ∧ L.getD j 0 ≤ 200000000000000) (w : World) (h : IB w g 46 L) :
    Calls Tryd.prog 32 #[.pointer (some ⟨g, 0, none⟩)] w fun e w' => e = .returned (.tuple #[]) ∧ IB w' g 46 (crTo L 16) ∧ Keeps (fun k => k = g) w w' := by
  have HB := hidden (crTo_bd L 200000000000000 hb (by omega) hL)
  have H := hidden h
  clear hb h
  go_enter Tryd.func32, Tryd.ntmps32
  go_wp2_with fail
  go_loopw [2] (fun c wr => ∃ i : Nat, i ≤ 16 ∧ c = .int .i64 (i : Int) ∧ IB wr g 46 (crTo L i) ∧ Keeps (fun k => k = g) w wr) (fun c _ => 16 - (intOf c).toNat)
  case atStart => exact ⟨0, by omega, rfl, H.out, Keeps.refl _ w⟩
  case round =>
    clear H
    obtain ⟨i, hi, rfl, hn, hk⟩ := hrel
    have HN := hidden hn
    have HK := hidden hk
    clear hn hk
    by_cases hlt : i < 16
    · have hlt' : (i : Int) < 16 := by omega
      have hlen := crTo_length L i
      have hc := HN.out.cell i (by omega)
      have hf := HN.out.frozen
      have hbx := HB.out i (by omega) i
      obtain ⟨x, hx⟩ : ∃ x, x = (crTo L i).getD i 0 := ⟨_, rfl⟩
      rw [← hx] at hc hbx
      obtain ⟨x1, hx1⟩ : ∃ x1, x1 = x + 65536 := ⟨_, rfl⟩
      have hx12 : x + 65536 = x1 := hx1.symm
      have hw1 := i64w x1 (by omega)
      have HN1 : Hid (IB (wr.setCell ⟨g, i, none⟩ (.int .i64 x1)).drew g 46 ((crTo L i).set i x1)) := HN.out.set i _
      have HK1 : Hid (Keeps (fun k => k = g) w (wr.setCell ⟨g, i, none⟩ (.int .i64 x1)).drew) := (HK.out.setCell (p := ⟨g, i, none⟩) (.inl rfl) _).drew
      have HX := hidden hx
      obtain ⟨c, hc1⟩ : ∃ c, c = x1 / 65536 := ⟨_, rfl⟩
      have hcq : x1 / 65536 = c := hc1.symm
      have hcq1 : c = x / 65536 + 1 := by omega
      obtain ⟨cs, hcs1⟩ : ∃ cs, cs = c * 65536 := ⟨_, rfl⟩
      have hcs : c * 65536 = cs := hcs1.symm
      have hwc := i64w cs (by omega)
      obtain ⟨z, hz1⟩ : ∃ z, z = x1 - cs := ⟨_, rfl⟩
      have hz : x1 - cs = z := hz1.symm
      have hwzz := i64w z (by omega)
      clear hx
      have HX1 := hidden hx1
      have HC1 := hidden hc1
      have HCS1 := hidden hcs1
      have HZ1 := hidden hz1
      by_cases h15 : i < 15
      · have h15' : (i : Int) < 15 := by omega
        have hw0 : IntKind.i64.wrap ((i : Int) + 1) = (i : Int) + 1 := i64w _ (by omega)
        have hi1 : (i : Int) + 1 < 16 := by omega
        have HS : Hid (crTo L (i + 1) = ((crTo L i).set (i + 1) ((crTo L i).getD (i + 1) 0 + x / 65536)).set i (x - 65536 * (x / 65536))) := by
          show _ = _
          rw [crTo, if_pos h15, ← HX.out]
        have hby := HB.out i (by omega) (i + 1)
        obtain ⟨y, hy⟩ : ∃ y, y = (crTo L i).getD (i + 1) 0 := ⟨_, rfl⟩
        rw [← hy] at HS hby
        obtain ⟨yc, hyc⟩ : ∃ yc, yc = y + c := ⟨_, rfl⟩
        have hyc2 : y + c = yc := hyc.symm
        obtain ⟨y2, hy2⟩ : ∃ y2, y2 = yc - 1 := ⟨_, rfl⟩
        have hy3 : yc - 1 = y2 := hy2.symm
        have hwy := i64w yc (by omega)
        have hwz := i64w y2 (by omega)
        rw [show y + x / 65536 = y2 by omega, show x - 65536 * (x / 65536) = z by omega] at HS
        have HY := hidden hy
        clear hy hyc hy2
        clear hcq1 hbx hby hx1 hc1 hcs1 hz1
        go_wp2_with fail
        go_region
        go_upto_region 4 with fail
        generalize (wr.setCell ⟨g, i, none⟩ (.int .i64 x1)).drew = w1 at HN1 HK1 ⊢
        have d1 := HN1.out.cell i (by rw [List.length_set]; omega)
        rw [getD_setI, if_pos ⟨rfl, by omega⟩] at d1
        have d2 := HN1.out.cell (i + 1) (by rw [List.length_set]; omega)
        rw [getD_setI, if_neg (by omega), ← HY.out] at d2
        have f1 := HN1.out.frozen
        clear hc hf HN HK
        go_wp2_with fail
        go_region
        go_upto_region 8 with fail
        have HN2 : Hid (IB (w1.setCell ⟨g, i + 1, none⟩ (.int .i64 y2)).drew g 46 (((crTo L i).set i x1).set (i + 1) y2)) := HN1.out.set (i + 1) _
        have HK2 : Hid (Keeps (fun k => k = g) w (w1.setCell ⟨g, i + 1, none⟩ (.int .i64 y2)).drew) := (HK1.out.setCell (p := ⟨g, i + 1, none⟩) (.inl rfl) _).drew
        generalize (w1.setCell ⟨g, i + 1, none⟩ (.int .i64 y2)).drew = w2 at HN2 HK2 ⊢
        have d3 := HN2.out.cell i (by rw [List.length_set, List.length_set]; omega)
        rw [getD_setI, if_neg (by omega), getD_setI, if_pos ⟨rfl, by omega⟩] at d3
        have f2 := HN2.out.frozen
        clear d1 d2 f1 HN1 HK1
        go_wp2_with fail
        go_region
        go_wp2
        go_roundw
        case rel =>
          refine ⟨i + 1, by omega, by go_num, ?_, (HK2.out.setCell (p := ⟨g, i, none⟩) (.inl rfl) _).drew⟩
          rw [HS.out]
          have hset := HN2.out.set i z
          rw [show (((crTo L i).set i x1).set (i + 1) y2).set i z = ((crTo L i).set (i + 1) y2).set i z by rw [List.set_comm x1 y2 (by omega), List.set_set]] at hset
          exact hset
        case measure => simp [intOf]; omega
      · have h15' : ¬ (i : Int) < 15 := by omega
        obtain rfl : i = 15 := by omega
        have HS : Hid (crTo L 16 = ((crTo L 15).set 0 ((crTo L 15).getD 0 0 + 38 * (x / 65536))).set 15 (x - 65536 * (x / 65536))) := by
          show _ = _
          rw [crTo, if_neg h15, ← HX.out]
        have hby := HB.out 15 (by omega) 0
        obtain ⟨y, hy⟩ : ∃ y, y = (crTo L 15).getD 0 0 := ⟨_, rfl⟩
        rw [← hy] at HS hby
        obtain ⟨yc, hyc⟩ : ∃ yc, yc = c - 1 := ⟨_, rfl⟩
        have hyc2 : c - 1 = yc := hyc.symm
        obtain ⟨y1, hy1⟩ : ∃ y1, y1 = 38 * yc := ⟨_, rfl⟩
        have hy12 : 38 * yc = y1 := hy1.symm
        obtain ⟨y2, hy2⟩ : ∃ y2, y2 = y + y1 := ⟨_, rfl⟩
        have hy3 : y + y1 = y2 := hy2.symm
        have hwy := i64w yc (by omega)
        have hwy1 := i64w y1 (by omega)
        have hwz := i64w y2 (by omega)
        rw [show y + 38 * (x / 65536) = y2 by omega, show x - 65536 * (x / 65536) = z by omega] at HS
        have HY := hidden hy
        clear hy hyc hy1 hy2
        clear hcq1 hbx hby hx1 hc1 hcs1 hz1
        go_wp2_with fail
        go_region
        go_upto_region 4 with fail
        generalize (wr.setCell ⟨g, 15, none⟩ (.int .i64 x1)).drew = w1 at HN1 HK1 ⊢
        have d1 := HN1.out.cell 15 (by rw [List.length_set]; omega)
        rw [getD_setI, if_pos ⟨rfl, by omega⟩] at d1
        have d2 := HN1.out.cell 0 (by rw [List.length_set]; omega)
        rw [getD_setI, if_neg (by omega), ← HY.out] at d2
        have f1 := HN1.out.frozen
        clear hc hf HN HK
        go_wp2_with fail
        go_region
        go_upto_region 8 with fail
        have HN2 : Hid (IB (w1.setCell ⟨g, 0, none⟩ (.int .i64 y2)).drew g 46 (((crTo L 15).set 15 x1).set 0 y2)) := HN1.out.set 0 _
        have HK2 : Hid (Keeps (fun k => k = g) w (w1.setCell ⟨g, 0, none⟩ (.int .i64 y2)).drew) := (HK1.out.setCell (p := ⟨g, 0, none⟩) (.inl rfl) _).drew
        generalize (w1.setCell ⟨g, 0, none⟩ (.int .i64 y2)).drew = w2 at HN2 HK2 ⊢
        have d3 := HN2.out.cell 15 (by rw [List.length_set, List.length_set]; omega)
        rw [getD_setI, if_neg (by omega), getD_setI, if_pos ⟨rfl, by omega⟩] at d3
        have f2 := HN2.out.frozen
        clear d1 d2 f1 HN1 HK1
        go_wp2_with fail
        go_region
        go_wp2
        go_roundw
        case rel =>
          refine ⟨15 + 1, by omega, by go_num, ?_, (HK2.out.setCell (p := ⟨g, 15, none⟩) (.inl rfl) _).drew⟩
          rw [show 15 + 1 = 16 from rfl, HS.out]
          have hset := HN2.out.set 15 z
          rw [show (((crTo L 15).set 15 x1).set 0 y2).set 15 z = ((crTo L 15).set 0 y2).set 15 z by rw [List.set_comm x1 y2 (by omega), List.set_set]] at hset
          exact hset
        case measure => simp [intOf]
    · have hlt' : ¬ (i : Int) < 16 := by omega
      obtain rfl : i = 16 := by omega
      go_wp2
      go_end0
      exact ⟨rfl, HN.out, HK.out⟩
end Go.Proofs.YtdgapijgdbhlfaaDoor
