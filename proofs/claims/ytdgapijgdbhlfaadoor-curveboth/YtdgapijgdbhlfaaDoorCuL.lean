/- The scalar with its bits set by rule. -/
import Derived.Test.YtdgapijgdbhlfaaDoorCuA
namespace Go.Proofs.YtdgapijgdbhlfaaDoor
open Go Go.RowKit

/-- The scalar's bits set. -/
def clampL (S : List UInt8) : List UInt8 := (S.set 0 (S.getD 0 0 &&& 248)).set 31 ((S.getD 31 0 &&& 127) ||| 64)
theorem clampL_length (S : List UInt8) : (clampL S).length = S.length := by simp [clampL]

/-- Behind i rounds. -/
def cpTo (S : List UInt8) (i : Nat) : List UInt8 := S.take i ++ List.replicate (32 - i) 0
theorem cpTo_set (S : List UInt8) (hS : S.length = 32) (i : Nat) (hi : i < 32) : (bcells (cpTo S i)).toArray.setIfInBounds i (.int .u8 ((S.getD i 0).toNat)) = (bcells (cpTo S (i + 1))).toArray := by
  unfold cpTo
  rw [bcells_append, set_next _ _ _ _ (by simp [bcells_length]; omega) (by rw [show 32 - i = (32 - (i + 1)) + 1 by omega, List.replicate_succ]; simp [bcells])]
  rw [show 32 - i = (32 - (i + 1)) + 1 by omega, List.replicate_succ, List.take_succ_eq_append_getElem (by omega)]
  simp only [bcells, List.map_append, List.map_cons, List.append_assoc, List.singleton_append, List.drop_succ_cons, List.drop_zero, List.getD_eq_getElem?_getD, List.getElem?_eq_getElem (show i < S.length by omega), Option.getD_some]
/-- A block of bytes. -/
def BB (w : World) (g : Nat) (S : List UInt8) : Prop := w.heap[g]? = some (.cells (bcells S).toArray 42 (0, 0))
theorem BB.cell {w : World} {g : Nat} {S : List UInt8} (h : BB w g S) (i : Nat) (hi : i < S.length) : w.cell? ⟨g, i, none⟩ = some (.int .u8 ((S.getD i 0).toNat : Nat)) := by
  rw [cell_row h]
  simp [bcells, List.getElem?_eq_getElem hi]
theorem BB.set {w : World} {g : Nat} {S : List UInt8} (h : BB w g S) (i : Nat) (y : UInt8) : BB (w.setCell ⟨g, i, none⟩ (.int .u8 (y.toNat : Nat))) g (S.set i y) := by
  unfold BB
  rw [heap_setCell_same _ _ _ _ _ _ h]
  simp [bcells, List.map_set]
theorem BB.frozen {w : World} {g : Nat} {S : List UInt8} (h : BB w g S) (i : Nat) : w.frozen? ⟨g, i, none⟩ = false := frozen_row h i

set_option maxHeartbeats 800000 in
set_option maxRecDepth 100000 in
theorem clamped_c (v : Value) (S : List UInt8) (hS : S.length = 32) (w : World) (h : BSl w v S) :
    Calls Tryd.prog 17 #[v] w fun e w' => e = .returned (.agg (bcells (clampL S)).toArray) ∧ Below w.heap.size w w' := by
  have HV := hidden h
  obtain ⟨ao, cap, rfl, hc1, hc2, _⟩ := h
  rw [hS] at hc1
  have hz : (bcells (List.replicate 32 0)).toArray = (bcells (cpTo S 0)).toArray := by simp [cpTo]
  go_enter Tryd.func17, Tryd.ntmps17
  go_upto_region 2 with fail
  change Code.wp _ _ _ _ ((w.alloc (.cells (bcells (List.replicate 32 0)).toArray 42)).alloc (.cells (bcells (List.replicate 32 0)).toArray 42))
  obtain ⟨w1, e1⟩ : ∃ x, x = w.alloc (.cells (bcells (List.replicate 32 0)).toArray 42) := ⟨_, rfl⟩
  obtain ⟨w2, e2⟩ : ∃ x, x = w1.alloc (.cells (bcells (List.replicate 32 0)).toArray 42) := ⟨_, rfl⟩
  rw [← e1, ← e2]
  have s1 : w1.heap.size = w.heap.size + 1 := by rw [e1]; simp
  have n1 : BB w1 w.heap.size (List.replicate 32 0) := by rw [e1]; exact heap_alloc_new w _
  have n2 : BB w2 (w.heap.size + 1) (List.replicate 32 0) := by rw [e2, ← s1]; exact heap_alloc_new w1 _
  have x1 : Below w.heap.size w w1 := by rw [e1]; exact (Below.refl _ w).alloc (Nat.le_refl _) _
  have x2 : Below w1.heap.size w1 w2 := by rw [e2]; exact (Below.refl _ w1).alloc (Nat.le_refl _) _
  have m1 : BB w2 w.heap.size (List.replicate 32 0) := by unfold BB; rw [x2.block _ (by omega)]; exact n1
  have HM := hidden (And.intro m1 (And.intro n2 (x1.trans (x2.mono (by omega)))))
  have HSL := hidden hS
  rw [hS]
  clear e1 e2 s1 n1 n2 x1 x2 m1 hz hS
  go_wp2_with fail
  go_loopw [8] (fun c wr => ∃ i : Nat, i ≤ 32 ∧ c = .int .i64 (i : Int) ∧ BB wr w.heap.size (List.replicate 32 0) ∧ BB wr (w.heap.size + 1) (cpTo S i) ∧ Below w.heap.size w wr) (fun c _ => 32 - (intOf c).toNat)
  case atStart => exact ⟨0, by omega, rfl, HM.out.1, HM.out.2.1, HM.out.2.2⟩
  case round =>
    clear HM
    obtain ⟨i, hi, rfl, n1, n2, hb⟩ := hrel
    have H1 := hidden n1
    have H2 := hidden n2
    have HB := hidden hb
    clear n1 n2 hb
    by_cases hlt : i < 32
    · have hlt' : (i : Int) < 32 := by omega
      have hv := HV.out.fresh HB.out
      obtain ⟨bb, oo, cp, e, hbl⟩ := hv.nonnil (by intro e; rw [e] at HSL; have := HSL.out; simp at this)
      rw [HSL.out] at e
      cases e
      have cb := hv.cellD i (by rw [HSL.out]; exact hlt)
      have lc : (cpTo S i).length = 32 := by unfold cpTo; rw [List.length_append, List.length_take, List.length_replicate, HSL.out]; omega
      have c2 := H2.out.cell i (by omega)
      have f2 := H2.out.frozen i
      have HS := hidden (cpTo_set S HSL.out i hlt)
      generalize (S.getD i 0).toNat = y at cb HS
      generalize ((cpTo S i).getD i 0).toNat = z at c2
      clear hv lc
      go_wp2
      go_roundw
      case rel =>
        refine ⟨i + 1, by omega, by go_num, ?_, ?_, HB.out.setCell (by show w.heap.size ≤ w.heap.size + 1; omega) _⟩
        · unfold BB
          rw [heap_setCell_other _ _ _ _ (by show w.heap.size ≠ w.heap.size + 1; omega)]
          exact H1.out
        · unfold BB
          rw [heap_setCell_same _ _ _ _ _ _ H2.out, HS.out]
      case measure => simp [intOf]; omega
    · have hlt' : ¬ (i : Int) < 32 := by omega
      obtain rfl : i = 32 := by omega
      have hcp : cpTo S 32 = S := by unfold cpTo; rw [List.take_of_length_le (by rw [HSL.out]; omega)]; simp
      rw [hcp] at H2
      have c0 := H2.out.cell 0 (by rw [HSL.out]; omega)
      have c31 := H2.out.cell 31 (by rw [HSL.out]; omega)
      have hf := H2.out.frozen
      have a0 : bits .and .u8 ((S.getD 0 0).toNat : Int) 248 = ((S.getD 0 0 &&& 248).toNat : Nat) := by
        have := u8_and_nat (S.getD 0 0).toNat 248 (S.getD 0 0).toNat_lt (by omega)
        rw [show ((248 : Nat) : Int) = 248 from rfl] at this
        rw [this, UInt8.toNat_and]
        rfl
      have a1 : bits .and .u8 ((S.getD 31 0).toNat : Int) 127 = ((S.getD 31 0 &&& 127).toNat : Nat) := by
        have := u8_and_nat (S.getD 31 0).toNat 127 (S.getD 31 0).toNat_lt (by omega)
        rw [show ((127 : Nat) : Int) = 127 from rfl] at this
        rw [this, UInt8.toNat_and]
        rfl
      have a2 : bits .or .u8 ((S.getD 31 0 &&& 127).toNat : Int) 64 = (((S.getD 31 0 &&& 127) ||| 64).toNat : Nat) := by
        have := u8_or_nat (S.getD 31 0 &&& 127).toNat 64 (S.getD 31 0 &&& 127).toNat_lt (by omega)
        rw [show ((64 : Nat) : Int) = 64 from rfl] at this
        rw [this, UInt8.toNat_or]
        rfl
      have HK0 : Hid (BB (wr.setCell ⟨w.heap.size + 1, 0, none⟩ (.int .u8 ((S.getD 0 0 &&& 248).toNat : Nat))) (w.heap.size + 1) (S.set 0 (S.getD 0 0 &&& 248))) := H2.out.set 0 _
      have HK1 := hidden (HK0.out.set 31 (S.getD 31 0 &&& 127))
      have HK2 := hidden (HK1.out.set 31 ((S.getD 31 0 &&& 127) ||| 64))
      have hcl : ((S.set 0 (S.getD 0 0 &&& 248)).set 31 (S.getD 31 0 &&& 127)).set 31 ((S.getD 31 0 &&& 127) ||| 64) = clampL S := by rw [List.set_set]; rfl
      rw [hcl] at HK2
      have hl32 : (clampL S).length = 32 := by rw [clampL_length]; exact HSL.out
      clear hcp hcl HK0
      generalize (S.getD 0 0 &&& 248).toNat = y0 at a0 HK1 HK2
      generalize ((S.getD 31 0 &&& 127) ||| 64).toNat = y2 at a2 HK2
      generalize (S.getD 31 0 &&& 127).toNat = y1 at a1 a2 HK1 HK2
      generalize (S.getD 0 0).toNat = x0 at c0 a0
      generalize (S.getD 31 0).toNat = x1 at c31 a1
      go_upto_region 10 with fail
      have HZ1 : Hid (BB (((wr.setCell ⟨w.heap.size + 1, 0, none⟩ (.int .u8 (y0 : Int))).setCell ⟨w.heap.size + 1, 31, none⟩ (.int .u8 (y1 : Int))).setCell ⟨w.heap.size + 1, 31, none⟩ (.int .u8 (y2 : Int))) w.heap.size (List.replicate 32 0)) := by
        unfold BB
        rw [heap_setCell_other _ _ _ _ (by show w.heap.size ≠ w.heap.size + 1; omega), heap_setCell_other _ _ _ _ (by show w.heap.size ≠ w.heap.size + 1; omega), heap_setCell_other _ _ _ _ (by show w.heap.size ≠ w.heap.size + 1; omega)]
        exact H1.out
      have HB2 : Hid (Below w.heap.size w (((wr.setCell ⟨w.heap.size + 1, 0, none⟩ (.int .u8 (y0 : Int))).setCell ⟨w.heap.size + 1, 31, none⟩ (.int .u8 (y1 : Int))).setCell ⟨w.heap.size + 1, 31, none⟩ (.int .u8 (y2 : Int)))) :=
        ((HB.out.setCell (by show w.heap.size ≤ w.heap.size + 1; omega) _).setCell (by show w.heap.size ≤ w.heap.size + 1; omega) _).setCell (by show w.heap.size ≤ w.heap.size + 1; omega) _
      generalize ((wr.setCell ⟨w.heap.size + 1, 0, none⟩ (.int .u8 (y0 : Int))).setCell ⟨w.heap.size + 1, 31, none⟩ (.int .u8 (y1 : Int))).setCell ⟨w.heap.size + 1, 31, none⟩ (.int .u8 (y2 : Int)) = w4 at HK2 HZ1 HB2 ⊢
      clear c0 c31 hf a0 a1 a2 HK1 H1 H2 HB
      have hsz : (Tryd.prog.info? 42).map (·.size) = some (bcells (clampL S)).toArray.size := by rw [List.size_toArray, bcells_length, hl32]; kernel_rfl
      have hone : (bcells (clampL S)).toArray.all (·.oneCell') = true := by simp [bcells, Value.oneCell']
      have hdd : (bcells (List.replicate 32 0)).toArray.size = (bcells (clampL S)).toArray.size := by rw [List.size_toArray, List.size_toArray, bcells_length, bcells_length, hl32]; rfl
      obtain ⟨R, hR⟩ : ∃ R, R = (bcells (clampL S)).toArray := ⟨_, rfl⟩
      have HRE := hidden hR
      have HPP : Hid (w4.heap[w.heap.size + 1]? = some (.cells R 42 (0, 0))) := by show _ = _; rw [hR]; exact HK2.out
      rw [← hR] at hsz hone hdd
      have HSZ := hidden hsz
      have HON := hidden hone
      have HD := hidden hdd
      have HRR : Hid (w4.heap[w.heap.size]? = some (.cells (bcells (List.replicate 32 0)).toArray 42 (0, 0))) := HZ1.out
      have HR1 : Hid ((w4.setRow w.heap.size R).heap[w.heap.size]? = some (.cells R 42 (0, 0))) := setRow_heap w4 w.heap.size _ _ _ _ HRR.out
      have HL1 : Hid (Below w.heap.size w (w4.setRow w.heap.size R)) := below_setRow HB2.out (Nat.le_refl _) _
      clear hsz hone hdd hR HK2 HZ1 hl32
      go_wp2_with (first
        | (refine wpList_loadRow rfl 42 (.tmp 3) rfl (w.heap.size + 1) R 42 (0, 0) 32 5 rfl HPP.out Tryd.underlying42 HSZ.out ?_)
        | (refine wpList_store_row rfl 42 (.tmp 2) (.tmp 29) rfl w.heap.size R rfl rfl 42 _ HRR.out HSZ.out HD.out HON.out ?_))
      (try simp only [Exit.inBlock, Exit.then])
      refine bodyPost_ret (results_cell1 rfl _ _ _ w.heap.size R 42 (0, 0) 32 5 rfl HR1.out Tryd.underlying42 HSZ.out) rfl ?_
      exact ⟨by rw [HRE.out], HL1.out⟩
end Go.Proofs.YtdgapijgdbhlfaaDoor
