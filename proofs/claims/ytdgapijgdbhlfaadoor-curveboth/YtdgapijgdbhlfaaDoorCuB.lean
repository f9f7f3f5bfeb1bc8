/- Sums, differences and products of numbers. -/
import Derived.Test.YtdgapijgdbhlfaaDoorCuA
import Derived.Deep.Quiet
namespace Go.Proofs.YtdgapijgdbhlfaaDoor
open Go Go.RowKit

/-- Twice the prime, in its variable. -/
def Tp (w : World) : Prop := 0 < w.heap.size ∧ ∀ i, i < 5 → w.cell? ⟨0, i, none⟩ = some (.int .u64 (tpL.getD i 0 : Nat))
theorem Tp.keep {S : Nat → Prop} {w w' : World} (h : Tp w) (hk : Keeps S w w') (hn : ¬ S 0) : Tp w' :=
  ⟨by have := hk.size; have := h.1; omega, fun i hi => by exact hk.cell (h.2 i hi) hn⟩
theorem Tp.fresh {w w' : World} (h : Tp w) (hb : Below w.heap.size w w') : Tp w' := h.keep (S := fun _ => False) (Keeps.ofFresh hb) (fun h => h)

/-- The two factors and the answer's place. -/
structure PI (w : World) (m : List Nat) (wr : World) (P : List Nat) : Prop where
  n : NB .u64 wr w.heap.size 40 P
  m : NB .u64 wr (w.heap.size + 1) 40 m
  r : NB .u64 wr (w.heap.size + 2) 40 [0, 0, 0, 0, 0]
  b : Below w.heap.size w wr
theorem PI.start (w : World) (n m : List Nat) :
    PI w m (((w.alloc (.cells (ncells .u64 n).toArray 40)).alloc (.cells (ncells .u64 m).toArray 40)).alloc (.cells (ncells .u64 [0, 0, 0, 0, 0]).toArray 40)) n := by
  have b1 : Below w.heap.size w (w.alloc (.cells (ncells .u64 n).toArray 40)) := (Below.refl _ w).alloc (by omega) _
  have b2 := b1.alloc (by simp) (.cells (ncells .u64 m).toArray 40)
  have b3 := b2.alloc (by simp; omega) (.cells (ncells .u64 [0, 0, 0, 0, 0]).toArray 40)
  refine ⟨?_, ?_, ?_, b3⟩
  · unfold NB
    rw [Below.heap_alloc _ _ _ (by simp; omega), Below.heap_alloc _ _ _ (by simp)]
    exact heap_alloc_new w _
  · unfold NB
    rw [Below.heap_alloc _ _ _ (by simp)]
    have := heap_alloc_new (w.alloc (.cells (ncells .u64 n).toArray 40)) (.cells (ncells .u64 m).toArray 40)
    rwa [show (w.alloc (.cells (ncells .u64 n).toArray 40)).heap.size = w.heap.size + 1 by simp] at this
  · unfold NB
    have := heap_alloc_new ((w.alloc (.cells (ncells .u64 n).toArray 40)).alloc (.cells (ncells .u64 m).toArray 40)) (.cells (ncells .u64 [0, 0, 0, 0, 0]).toArray 40)
    rwa [show ((w.alloc (.cells (ncells .u64 n).toArray 40)).alloc (.cells (ncells .u64 m).toArray 40)).heap.size = w.heap.size + 2 by simp] at this
theorem PI.keep {w : World} {m : List Nat} {wr wr' : World} {P P' : List Nat} (h : PI w m wr P) (hk : Keeps (fun k => k = w.heap.size) wr wr') (hp : NB .u64 wr' w.heap.size 40 P') : PI w m wr' P' :=
  ⟨hp, h.m.keep hk (by omega), h.r.keep hk (by omega), h.b.trans (hk.below (B := w.heap.size) h.b.size (by intro k e; omega))⟩
theorem PI.set {w : World} {m : List Nat} {wr : World} {P : List Nat} (h : PI w m wr P) (i x : Nat) : PI w m (wr.setCell ⟨w.heap.size, i, none⟩ (.int .u64 (x : Int))).drew (P.set i x) :=
  h.keep ((Keeps.refl (fun k => k = w.heap.size) wr).setCell (p := ⟨w.heap.size, i, none⟩) (.inl rfl) _).drew (h.n.set i x)

/-- The end of 'plus' and 'minus': what lies in the first block is told. -/
theorem row_facts (R0 : List Nat) (h : R0.length = 5) : (Tryd.prog.info? 40).map (·.size) = some (ncells .u64 R0).toArray.size ∧ (ncells .u64 R0).toArray.all (·.oneCell') = true ∧ (ncells .u64 [0, 0, 0, 0, 0]).toArray.size = (ncells .u64 R0).toArray.size := by
  have hpl : (ncells .u64 R0).toArray.size = 5 := by rw [List.size_toArray, ncells_length]; omega
  exact ⟨by rw [hpl]; kernel_rfl, by simp [ncells, Value.oneCell'], by rw [hpl]; rfl⟩

set_option maxHeartbeats 800000 in
set_option maxRecDepth 100000 in
theorem plus_l (L M : List Nat) (a b : Nat) (h : Tm L a) (k : Tm M b) (w : World) :
    Calls Tryd.prog 33 #[.agg (ncells .u64 L).toArray, .agg (ncells .u64 M).toArray] w fun e w' => e = .returned (.agg (ncells .u64 (foldL (addTo L M 5))).toArray) ∧ Below w.heap.size w w' := by
  have HL := hidden h.all
  have HM := hidden k.all
  have hL := h.len
  have hM := k.len
  obtain ⟨f1, f2, f3⟩ := plus_tm h k
  have HF1 := hidden f1
  have HF2 := hidden f2
  have H := hidden (PI.start w L M)

  clear h k f1 f2 f3
  go_enter Tryd.func33, Tryd.ntmps33
  go_upto_region 1 with fail
  change Code.wp _ _ _ _ (((w.alloc (.cells (ncells .u64 L).toArray 40)).alloc (.cells (ncells .u64 M).toArray 40)).alloc (.cells (ncells .u64 [0, 0, 0, 0, 0]).toArray 40))
  generalize ((w.alloc (.cells (ncells .u64 L).toArray 40)).alloc (.cells (ncells .u64 M).toArray 40)).alloc (.cells (ncells .u64 [0, 0, 0, 0, 0]).toArray 40) = w3 at H ⊢
  generalize (ncells .u64 M).toArray = MA
  generalize (ncells .u64 L).toArray = LA
  go_wp2_with fail
  go_loopw [6] (fun c wr => ∃ i : Nat, i ≤ 5 ∧ c = .int .i64 (i : Int) ∧ PI w M wr (addTo L M i)) (fun c _ => 5 - (intOf c).toNat)
  case atStart => exact ⟨0, by omega, rfl, H.out⟩
  case round =>
    clear H
    obtain ⟨i, hi, rfl, ht⟩ := hrel
    have HT := hidden ht
    clear ht
    by_cases hlt : i < 5
    · have hlt' : (i : Int) < 5 := by omega
      have hlen := addTo_length L M i
      have hc := HT.out.n.cell i (by omega)
      have hc2 := HT.out.m.cell i (by omega)
      have hf := HT.out.n.frozen i
      rw [addTo_off L M i i (Nat.le_refl _)] at hc
      have hb1 := HL.out i
      have hb2 := HM.out i
      obtain ⟨s, hs⟩ : ∃ s, s = L.getD i 0 + M.getD i 0 := ⟨_, rfl⟩
      have hs2 : s ≤ 1152921504606846976 := by omega
      have HS : Hid (addTo L M (i + 1) = (addTo L M i).set i s) := by rw [hs]; rfl
      have hs3 : ((L.getD i 0 : Nat) : Int) + ((M.getD i 0 : Nat) : Int) = (s : Int) := by omega
      generalize L.getD i 0 = x at hc hs3
      generalize M.getD i 0 = y at hc2 hs3
      clear hb1 hb2 hs hlen
      go_wp2_with fail
      go_region
      go_wp2
      go_roundw
      case rel =>
        refine ⟨i + 1, by omega, by go_num, ?_⟩
        rw [HS.out]
        exact HT.out.set i s
      case measure => simp [intOf]; omega
    · have hlt' : ¬ (i : Int) < 5 := by omega
      obtain rfl : i = 5 := by omega
      have hb : ∀ i, i < 5 → (addTo L M 5).getD i 0 ≤ 1152921504606846976 := by
        intro i hi
        rw [addTo_on L M 5 i hi (by omega)]
        have := HL.out i
        have := HM.out i
        omega
      have hP5 := addTo_length L M 5
      have HC := hidden (foldTop_c w.heap.size (addTo L M 5) (by omega) hb HF1.out HF2.out wr HT.out.n)
      have hF5 := foldL_length (addTo L M 5)
      obtain ⟨P, hP⟩ : ∃ P, P = addTo L M 5 := ⟨_, rfl⟩
      rw [← hP] at HC HT hF5 hP5
      have HPE := hidden hP
      clear hb HF1 HF2 HL HM hP
      go_wp2_with fail
      refine HC.out.mono ?_
      rintro e w4 ⟨rfl, hp4, hk4⟩
      have H4 := hidden (HT.out.keep hk4 hp4)
      clear HT hp4 hk4 HC
      obtain ⟨hsz, hone, hdd⟩ := row_facts (foldL P) (by omega)
      have HPP : Hid (w4.heap[w.heap.size]? = some (.cells (ncells .u64 (foldL P)).toArray 40 (0, 0))) := H4.out.n
      have HRR : Hid (w4.heap[w.heap.size + 2]? = some (.cells (ncells .u64 [0, 0, 0, 0, 0]).toArray 40 (0, 0))) := H4.out.r
      have HB4 := hidden H4.out.b
      obtain ⟨R, hR⟩ : ∃ R, R = (ncells .u64 (foldL P)).toArray := ⟨_, rfl⟩
      rw [← hR] at hsz hone hdd HPP
      have HRE := hidden hR
      have HSZ := hidden hsz
      have HON := hidden hone
      have HD := hidden hdd
      have HR1 : Hid ((w4.setRow (w.heap.size + 2) R).heap[w.heap.size + 2]? = some (.cells R 40 (0, 0))) := setRow_heap w4 (w.heap.size + 2) _ _ _ _ HRR.out
      have HL1 : Hid (Below w.heap.size w (w4.setRow (w.heap.size + 2) R)) := below_setRow HB4.out (by omega) _
      clear hsz hone hdd H4 hR
      go_wp2_with (first
        | (refine wpList_loadRow rfl 40 (.tmp 2) rfl w.heap.size R 40 (0, 0) 5 38 rfl HPP.out Tryd.underlying40 HSZ.out ?_)
        | (refine wpList_store_row rfl 40 (.tmp 4) (.tmp 19) rfl (w.heap.size + 2) R rfl rfl 40 _ HRR.out HSZ.out HD.out HON.out ?_))
      (try simp only [Exit.inBlock, Exit.then])
      refine bodyPost_ret (results_cell1 rfl _ _ _ (w.heap.size + 2) R 40 (0, 0) 5 38 rfl HR1.out Tryd.underlying40 HSZ.out) rfl ?_
      exact ⟨by rw [HRE.out, HPE.out], HL1.out⟩
set_option maxHeartbeats 800000 in
set_option maxRecDepth 100000 in
theorem minus_l (L M : List Nat) (a b : Nat) (h : Tm L a) (k : Tm M b) (w : World) (htp : Tp w) :
    Calls Tryd.prog 34 #[.agg (ncells .u64 L).toArray, .agg (ncells .u64 M).toArray] w fun e w' => e = .returned (.agg (ncells .u64 (foldL (subTo L M 5))).toArray) ∧ Below w.heap.size w w' := by
  have HL := hidden h.all
  have HM := hidden k.all
  have hL := h.len
  have hM := k.len
  obtain ⟨f1, f2, f3⟩ := minus_tm h k
  have HF1 := hidden f1
  have HF2 := hidden f2
  have H := hidden (PI.start w L M)
  have HTP := hidden htp
  clear h k f1 f2 f3 htp
  go_enter Tryd.func34, Tryd.ntmps34
  go_upto_region 1 with fail
  change Code.wp _ _ _ _ (((w.alloc (.cells (ncells .u64 L).toArray 40)).alloc (.cells (ncells .u64 M).toArray 40)).alloc (.cells (ncells .u64 [0, 0, 0, 0, 0]).toArray 40))
  generalize ((w.alloc (.cells (ncells .u64 L).toArray 40)).alloc (.cells (ncells .u64 M).toArray 40)).alloc (.cells (ncells .u64 [0, 0, 0, 0, 0]).toArray 40) = w3 at H ⊢
  generalize (ncells .u64 M).toArray = MA
  generalize (ncells .u64 L).toArray = LA
  go_wp2_with fail
  go_loopw [6] (fun c wr => ∃ i : Nat, i ≤ 5 ∧ c = .int .i64 (i : Int) ∧ PI w M wr (subTo L M i)) (fun c _ => 5 - (intOf c).toNat)
  case atStart => exact ⟨0, by omega, rfl, H.out⟩
  case round =>
    clear H
    obtain ⟨i, hi, rfl, ht⟩ := hrel
    have HT := hidden ht
    clear ht
    by_cases hlt : i < 5
    · have hlt' : (i : Int) < 5 := by omega
      have hlen := subTo_length L M i
      have hc := HT.out.n.cell i (by omega)
      have hc2 := HT.out.m.cell i (by omega)
      have hf := HT.out.n.frozen i
      rw [subTo_off L M i i (Nat.le_refl _)] at hc
      have hb1 := HL.out i
      have hb2 := HM.out i
      have hg := (HTP.out.fresh HT.out.b).2 i hlt
      obtain ⟨hg1, hg2⟩ := tpL_lt i hlt
      obtain ⟨u, hu⟩ : ∃ u, u = tpL.getD i 0 - M.getD i 0 := ⟨_, rfl⟩
      obtain ⟨s, hs⟩ : ∃ s, s = L.getD i 0 + u := ⟨_, rfl⟩
      have hu2 : u ≤ 4503599627370494 := by omega
      have hs2 : s ≤ 1152921504606846976 := by omega
      have HS : Hid (subTo L M (i + 1) = (subTo L M i).set i s) := by rw [hs, hu]; rfl
      have hu3 : ((tpL.getD i 0 : Nat) : Int) - ((M.getD i 0 : Nat) : Int) = (u : Int) := by omega
      have hs3 : ((L.getD i 0 : Nat) : Int) + (u : Int) = (s : Int) := by omega
      generalize L.getD i 0 = x at hc hs3
      generalize M.getD i 0 = y at hc2 hu3
      generalize tpL.getD i 0 = z at hg hu3
      clear hb1 hb2 hs hu hlen hg1 hg2
      go_wp2_with fail
      go_region
      go_wp2
      go_roundw
      case rel =>
        refine ⟨i + 1, by omega, by go_num, ?_⟩
        rw [HS.out]
        exact HT.out.set i s
      case measure => simp [intOf]; omega
    · have hlt' : ¬ (i : Int) < 5 := by omega
      obtain rfl : i = 5 := by omega
      have hb : ∀ i, i < 5 → (subTo L M 5).getD i 0 ≤ 1152921504606846976 := by
        intro i hi
        rw [subTo_on L M 5 i hi (by omega)]
        have := HL.out i
        have := HM.out i
        have := tpL_lt i hi
        omega
      have hP5 := subTo_length L M 5
      have HC := hidden (foldTop_c w.heap.size (subTo L M 5) (by omega) hb HF1.out HF2.out wr HT.out.n)
      have hF5 := foldL_length (subTo L M 5)
      obtain ⟨P, hP⟩ : ∃ P, P = subTo L M 5 := ⟨_, rfl⟩
      rw [← hP] at HC HT hF5 hP5
      have HPE := hidden hP
      clear hb HF1 HF2 HL HM hP
      go_wp2_with fail
      refine HC.out.mono ?_
      rintro e w4 ⟨rfl, hp4, hk4⟩
      have H4 := hidden (HT.out.keep hk4 hp4)
      clear HT hp4 hk4 HC
      obtain ⟨hsz, hone, hdd⟩ := row_facts (foldL P) (by omega)
      have HPP : Hid (w4.heap[w.heap.size]? = some (.cells (ncells .u64 (foldL P)).toArray 40 (0, 0))) := H4.out.n
      have HRR : Hid (w4.heap[w.heap.size + 2]? = some (.cells (ncells .u64 [0, 0, 0, 0, 0]).toArray 40 (0, 0))) := H4.out.r
      have HB4 := hidden H4.out.b
      obtain ⟨R, hR⟩ : ∃ R, R = (ncells .u64 (foldL P)).toArray := ⟨_, rfl⟩
      rw [← hR] at hsz hone hdd HPP
      have HRE := hidden hR
      have HSZ := hidden hsz
      have HON := hidden hone
      have HD := hidden hdd
      have HR1 : Hid ((w4.setRow (w.heap.size + 2) R).heap[w.heap.size + 2]? = some (.cells R 40 (0, 0))) := setRow_heap w4 (w.heap.size + 2) _ _ _ _ HRR.out
      have HL1 : Hid (Below w.heap.size w (w4.setRow (w.heap.size + 2) R)) := below_setRow HB4.out (by omega) _
      clear hsz hone hdd H4 hR
      go_wp2_with (first
        | (refine wpList_loadRow rfl 40 (.tmp 2) rfl w.heap.size R 40 (0, 0) 5 38 rfl HPP.out Tryd.underlying40 HSZ.out ?_)
        | (refine wpList_store_row rfl 40 (.tmp 4) (.tmp 23) rfl (w.heap.size + 2) R rfl rfl 40 _ HRR.out HSZ.out HD.out HON.out ?_))
      (try simp only [Exit.inBlock, Exit.then])
      refine bodyPost_ret (results_cell1 rfl _ _ _ (w.heap.size + 2) R 40 (0, 0) 5 38 rfl HR1.out Tryd.underlying40 HSZ.out) rfl ?_
      exact ⟨by rw [HRE.out, HPE.out], HL1.out⟩
theorem plus_c {L M : List Nat} {a b : Nat} (h : Tm L a) (k : Tm M b) (w : World) :
    Calls Tryd.prog 33 #[.agg (ncells .u64 L).toArray, .agg (ncells .u64 M).toArray] w fun e w' => ∃ R, e = .returned (.agg (ncells .u64 R).toArray) ∧ Tm R ((a + b) % pC) ∧ Below w.heap.size w w' :=
  (plus_l L M a b h k w).mono fun _ _ ⟨h1, h2⟩ => ⟨_, h1, (plus_tm h k).2.2, h2⟩
theorem minus_c {L M : List Nat} {a b : Nat} (h : Tm L a) (k : Tm M b) (w : World) (htp : Tp w) :
    Calls Tryd.prog 34 #[.agg (ncells .u64 L).toArray, .agg (ncells .u64 M).toArray] w fun e w' => ∃ R, e = .returned (.agg (ncells .u64 R).toArray) ∧ Tm R ((a + (pC - b)) % pC) ∧ Below w.heap.size w w' :=
  (minus_l L M a b h k w htp).mono fun _ _ ⟨h1, h2⟩ => ⟨_, h1, (minus_tm h k).2.2, h2⟩
end Go.Proofs.YtdgapijgdbhlfaaDoor
