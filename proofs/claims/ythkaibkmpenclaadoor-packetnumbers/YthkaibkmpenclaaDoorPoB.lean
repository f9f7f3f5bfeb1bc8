/- Sums, folds and products of limbs. -/
import Derived.Test.YthkaibkmpenclaaDoorPoA
import Derived.Test.YthkaibkmpenclaaDoorPoP
import Derived.Test.YthkaibkmpenclaaDoorRowl
import Derived.Test.YthkaibkmpenclaaDoorOrdB
import Derived.Deep.RegionWith
import Derived.Deep.Cut
import Derived.Deep.CutRange
namespace Go.Proofs.YthkaibkmpenclaaDoor
open Go Go.RowKit


set_option maxHeartbeats 800000 in
set_option maxRecDepth 100000 in
theorem add_c (g : Nat) (L M : List Nat) (hL : L.length = 5) (hM : M.length = 5) (hb : ∀ i, i < 5 → L.getD i 0 + M.getD i 0 ≤ 1152921504606846976) (w : World) (h : NB .u64 w g 103 L) :
    Calls Tryd.prog 73 #[.pointer (some ⟨g, 0, none⟩), .agg (ncells .u64 M).toArray] w fun e w' => e = .returned (.tuple #[]) ∧ NB .u64 w' g 103 (addTo L M 5) ∧ Keeps (fun k => k = g) w w' := by
  have HB := hidden hb
  have h0 := h.lt
  have H := hidden (h.keep (S := fun _ => False) ((Keeps.refl _ w).alloc (.cells (ncells .u64 M).toArray 103)) (fun h => h))
  have HM := hidden (NB.new (k := .u64) (t := 103) w M)
  clear hb h
  go_enter Tryd.func73, Tryd.ntmps73
  go_wp2_with fail
  go_loopw [5] (fun c wr => ∃ i : Nat, i ≤ 5 ∧ c = .int .i64 (i : Int) ∧ NB .u64 wr g 103 (addTo L M i) ∧ NB .u64 wr w.heap.size 103 M ∧ Keeps (fun k => k = g) w wr) (fun c _ => 5 - (intOf c).toNat)
  case atStart => exact ⟨0, by omega, rfl, H.out, HM.out, (Keeps.refl _ w).alloc _⟩
  case round =>
    clear H HM
    obtain ⟨i, hi, rfl, hn, hm, hk⟩ := hrel
    have HN := hidden hn
    have HM := hidden hm
    have HK := hidden hk
    clear hn hm hk
    by_cases hlt : i < 5
    · have hlt' : (i : Int) < 5 := by omega
      have hlen := addTo_length L M i
      have hc := HN.out.cell i (by omega)
      have hc2 := HM.out.cell i (by omega)
      have hf := HN.out.frozen i
      rw [addTo_off L M i i (Nat.le_refl _)] at hc
      have hbd := HB.out i hlt
      obtain ⟨s, hs⟩ : ∃ s, s = L.getD i 0 + M.getD i 0 := ⟨_, rfl⟩
      have hs2 : s ≤ 1152921504606846976 := by omega
      have HS : Hid (addTo L M (i + 1) = (addTo L M i).set i s) := by rw [hs]; rfl
      have hs3 : ((L.getD i 0 : Nat) : Int) + ((M.getD i 0 : Nat) : Int) = (s : Int) := by omega
      generalize L.getD i 0 = x at hc hs3
      generalize M.getD i 0 = y at hc2 hs3
      clear hbd hs hlen
      go_wp2_with fail
      refine region_ord [0,1,2,3,5,6,9,4,7,8,10,11] (by kernel_rfl) (by kernel_rfl) fun K9 H9 => ?_
      simp only [List.filterMap_cons, List.filterMap_nil, List.getElem?_toArray, List.getElem?_cons_succ, List.getElem?_cons_zero]
      go_wp2
      go_roundw
      case rel =>
        refine ⟨i + 1, by omega, by go_num, ?_, ?_, HK.out.drew.setCell (p := ⟨g, i, none⟩) (.inl rfl) _⟩
        · rw [HS.out]; exact NB.set (w := wr.drew) HN.out i s
        · exact NB.keep (S := fun k => k = g) HM.out ((Keeps.refl (fun k => k = g) wr).setCell (p := ⟨g, i, none⟩) (.inl rfl) _).drew (by omega)
      case measure => simp [intOf]; omega
    · have hlt' : ¬ (i : Int) < 5 := by omega
      obtain rfl : i = 5 := by omega
      go_wp2
      go_end0
      exact ⟨rfl, HN.out, HK.out⟩

set_option maxHeartbeats 800000 in
set_option maxRecDepth 100000 in
theorem foldTop_c (g : Nat) (L : List Nat) (hL : L.length = 5) (hb : ∀ i, i < 5 → L.getD i 0 ≤ 1152921504606846976) (ho : (cyTo L 5).2 ≤ 34359738368) (h0 : (cyTo L 5).1.getD 0 0 ≤ 67108863) (w : World) (h : NB .u64 w g 103 L) :
    Calls Tryd.prog 88 #[.pointer (some ⟨g, 0, none⟩)] w fun e w' => e = .returned (.tuple #[]) ∧ NB .u64 w' g 103 (foldL L) ∧ Keeps (fun k => k = g) w w' := by
  have HC := hidden (carry_c g L hL hb w h)
  have hlen := cyTo_length L 5
  have HF : Hid (foldL L = (cyTo L 5).1.set 0 ((cyTo L 5).1.getD 0 0 + 5 * (cyTo L 5).2)) := rfl
  clear h hb
  go_enter Tryd.func88, Tryd.ntmps88
  go_wp2_with fail
  refine HC.out.mono ?_
  rintro e w1 ⟨rfl, hn, hk⟩
  have hc := hn.cell 0 (by omega)
  have hf := hn.frozen 0
  have HN := hidden hn
  have HK := hidden hk
  clear hn hk HC
  obtain ⟨s, hs⟩ : ∃ s, s = (cyTo L 5).1.getD 0 0 + 5 * (cyTo L 5).2 := ⟨_, rfl⟩
  rw [← hs] at HF
  have hs3 : (((cyTo L 5).1.getD 0 0 : Nat) : Int) + 5 * (((cyTo L 5).2 : Nat) : Int) = (s : Int) := by omega
  have hs2 : s ≤ 300000000000 := by omega
  generalize (cyTo L 5).1.getD 0 0 = x at hc hs3 h0
  generalize (cyTo L 5).2 = o at ho hs3 ⊢
  clear hs hlen
  go_wp2_with fail
  go_region
  go_end0
  refine ⟨rfl, ?_, (HK.out.setCell (p := ⟨g, 0, none⟩) (.inl rfl) _).drew⟩
  rw [HF.out]
  exact HN.out.set 0 s


/-- What lies ready while a product is made: the second factor at H, the answer's place behind it, the product behind that. -/
structure TI (w : World) (g : Nat) (n m : List Nat) (wr : World) (P : List Nat) : Prop where
  n : NB .u64 wr g 103 n
  m : NB .u64 wr w.heap.size 103 m
  r : NB .u64 wr (w.heap.size + 1) 103 [0, 0, 0, 0, 0]
  p : NB .u64 wr (w.heap.size + 2) 103 P
  b : Below w.heap.size w wr
theorem TI.start {w : World} {g : Nat} {n : List Nat} (m : List Nat) (h : NB .u64 w g 103 n) :
    TI w g n m (((w.alloc (.cells (ncells .u64 m).toArray 103)).alloc (.cells (ncells .u64 [0, 0, 0, 0, 0]).toArray 103)).alloc (.cells (ncells .u64 [0, 0, 0, 0, 0]).toArray 103)) [0, 0, 0, 0, 0] := by
  have b1 : Below w.heap.size w (w.alloc (.cells (ncells .u64 m).toArray 103)) := (Below.refl _ w).alloc (by omega) _
  have b2 := b1.alloc (by simp) (.cells (ncells .u64 [0, 0, 0, 0, 0]).toArray 103)
  have b3 := b2.alloc (by simp; omega) (.cells (ncells .u64 [0, 0, 0, 0, 0]).toArray 103)
  refine ⟨h.fresh b3, ?_, ?_, ?_, b3⟩
  · unfold NB
    rw [Below.heap_alloc _ _ _ (by simp; omega), Below.heap_alloc _ _ _ (by simp)]
    exact heap_alloc_new w _
  · unfold NB
    rw [Below.heap_alloc _ _ _ (by simp)]
    have := heap_alloc_new (w.alloc (.cells (ncells .u64 m).toArray 103)) (.cells (ncells .u64 [0, 0, 0, 0, 0]).toArray 103)
    rwa [show (w.alloc (.cells (ncells .u64 m).toArray 103)).heap.size = w.heap.size + 1 by simp] at this
  · unfold NB
    have := heap_alloc_new ((w.alloc (.cells (ncells .u64 m).toArray 103)).alloc (.cells (ncells .u64 [0, 0, 0, 0, 0]).toArray 103)) (.cells (ncells .u64 [0, 0, 0, 0, 0]).toArray 103)
    rwa [show ((w.alloc (.cells (ncells .u64 m).toArray 103)).alloc (.cells (ncells .u64 [0, 0, 0, 0, 0]).toArray 103)).heap.size = w.heap.size + 2 by simp] at this
theorem TI.keep {w : World} {g : Nat} {n m : List Nat} {wr wr' : World} {P P' : List Nat} (h : TI w g n m wr P) (hg : g < w.heap.size) (hk : Keeps (fun k => k = w.heap.size + 2) wr wr') (hp : NB .u64 wr' (w.heap.size + 2) 103 P') : TI w g n m wr' P' :=
  ⟨h.n.keep hk (by omega), h.m.keep hk (by omega), h.r.keep hk (by omega), hp, h.b.trans (hk.below (B := w.heap.size) h.b.size (by intro k e; omega))⟩
theorem TI.set {w : World} {g : Nat} {n m : List Nat} {wr : World} {P : List Nat} (h : TI w g n m wr P) (hg : g < w.heap.size) (i x : Nat) : TI w g n m (wr.setCell ⟨w.heap.size + 2, i, none⟩ (.int .u64 (x : Int))).drew (P.set i x) :=
  h.keep hg ((Keeps.refl (fun k => k = w.heap.size + 2) wr).setCell (p := ⟨w.heap.size + 2, i, none⟩) (.inl rfl) _).drew (h.p.set i x)

set_option maxHeartbeats 400000 in
set_option maxRecDepth 100000 in
theorem times_c (g : Nat) (n m : List Nat) (hn5 : n.length = 5) (hm5 : m.length = 5) (hn : Small n 134217736) (hm : Small m 67108863) (w : World) (h : NB .u64 w g 103 n) :
    Calls Tryd.prog 75 #[.pointer (some ⟨g, 0, none⟩), .agg (ncells .u64 m).toArray] w fun e w' => e = .returned (.agg (ncells .u64 (timesL n m)).toArray) ∧ Below w.heap.size w w' := by
  have HSN := hidden hn
  have HSM := hidden hm
  have h0 := h.lt
  have H := hidden (TI.start m h)
  clear h hn hm
  go_enter Tryd.func75, Tryd.ntmps75
  go_upto_region 2 with fail
  change Code.wp _ _ _ _ (((w.alloc (.cells (ncells .u64 m).toArray 103)).alloc (.cells (ncells .u64 [0, 0, 0, 0, 0]).toArray 103)).alloc (.cells (ncells .u64 [0, 0, 0, 0, 0]).toArray 103))
  generalize ((w.alloc (.cells (ncells .u64 m).toArray 103)).alloc (.cells (ncells .u64 [0, 0, 0, 0, 0]).toArray 103)).alloc (.cells (ncells .u64 [0, 0, 0, 0, 0]).toArray 103) = w3 at H ⊢
  generalize (ncells .u64 m).toArray = MA
  go_wp2_with fail
  go_loopw [8] (fun c wr => ∃ i : Nat, i ≤ 5 ∧ c = .int .i64 (i : Int) ∧ TI w g n m wr (mulTo n m i)) (fun c _ => 5 - (intOf c).toNat)
  case atStart => exact ⟨0, by omega, rfl, H.out⟩
  case round =>
    clear H
    obtain ⟨i, hi, rfl, ht⟩ := hrel
    have HT := hidden ht
    clear ht
    by_cases hlt : i < 5
    · have hlt' : (i : Int) < 5 := by omega
      go_wp2_with fail
      obtain ⟨wo, ewo⟩ : ∃ x, x = wr := ⟨wr, rfl⟩
      subst ewo
      go_loopw [11] (fun c wr => ∃ j : Nat, j ≤ 5 ∧ c = .int .i64 (j : Int) ∧ TI w g n m wr (mulRow n m (mulTo n m i) i j)) (fun c _ => 5 - (intOf c).toNat)
      case atStart => exact ⟨0, by omega, rfl, HT.out⟩
      case round =>
        clear HT
        obtain ⟨j, hj, rfl, ht⟩ := hrel
        have HT := hidden ht
        clear ht
        by_cases hltj : j < 5
        · have hltj' : (j : Int) < 5 := by omega
          have hq := prod_le HSN.out HSM.out hlt hltj
          obtain ⟨P, hP⟩ : ∃ P, P = mulRow n m (mulTo n m i) i j := ⟨_, rfl⟩
          have hPl : P.length = 5 := by rw [hP, mulRow_length, mulTo_length]
          have hPb : ∀ k, P.getD k 0 ≤ 1150000000000000000 := by
            intro k
            rw [hP]
            have h1 := mulRow_le (B := i * 225179991448794200) HSN.out HSM.out (fun k => mulTo_le HSN.out HSM.out i (by omega) k) hlt j (by omega) k
            have : i * 225179991448794200 ≤ 4 * 225179991448794200 := Nat.mul_le_mul_right _ (by omega)
            have : j * 45035998289758840 ≤ 4 * 45035998289758840 := Nat.mul_le_mul_right _ (by omega)
            omega
          have HS : Hid (mulRow n m (mulTo n m i) i (j + 1) = mulStep n m P i j) := by rw [hP]; rfl
          rw [← hP] at HT
          have hcn := HT.out.n.cell i (by omega)
          have hcm := HT.out.m.cell j (by omega)
          have hfz := HT.out.p.frozen
          obtain ⟨q, hqe⟩ : ∃ q, q = n.getD i 0 * m.getD j 0 := ⟨_, rfl⟩
          clear hP
          by_cases hs : i + j < 5
          · have hs' : (i : Int) + (j : Int) < 5 := by omega
            obtain ⟨k, hk⟩ : ∃ k, k = i + j := ⟨_, rfl⟩
            have hk2 : (i : Int) + (j : Int) = (k : Int) := by omega
            have hk5 : (k : Int) < 5 := by omega
            have hcp := HT.out.p.cell k (by omega)
            have hpk := hPb k
            obtain ⟨s, hse⟩ : ∃ s, s = P.getD k 0 + q := ⟨_, rfl⟩
            have HS2 : Hid (mulStep n m P i j = P.set k s) := by
              show _ = _
              unfold mulStep
              rw [if_pos hs, hse, hqe, hk]
            have hq2 : ((n.getD i 0 : Nat) : Int) * ((m.getD j 0 : Nat) : Int) = (q : Int) := by rw [hqe]; exact (Int.natCast_mul _ _).symm
            have hs3 : ((P.getD k 0 : Nat) : Int) + (q : Int) = (s : Int) := by omega
            have hsb : s ≤ 1160000000000000000 := by omega
            have hqb : q ≤ 9007199657951768 := by omega
            generalize n.getD i 0 = xn at hcn hq2
            generalize m.getD j 0 = xm at hcm hq2
            generalize P.getD k 0 = xp at hcp hs3
            clear hse hqe hk hpk hPb hs hq hPl
            go_wp2_with fail
            go_region
            go_wp2
            go_roundw
            case rel =>
              refine ⟨j + 1, by omega, by go_num, ?_⟩
              rw [HS.out, HS2.out]
              exact HT.out.set h0 k s
            case measure => simp [intOf]; omega
          · have hs' : ¬ (i : Int) + (j : Int) < 5 := by omega
            obtain ⟨k, hk⟩ : ∃ k, k = i + j - 5 := ⟨_, rfl⟩
            have hk2 : (i : Int) + (j : Int) - 5 = (k : Int) := by omega
            have hk5 : (k : Int) < 5 := by omega
            have hcp := HT.out.p.cell k (by omega)
            have hpk := hPb k
            obtain ⟨q5, hq5e⟩ : ∃ q5, q5 = 5 * n.getD i 0 * m.getD j 0 := ⟨_, rfl⟩
            have hq5b : q5 = 5 * q := by rw [hq5e, hqe, Nat.mul_assoc]
            obtain ⟨s, hse⟩ : ∃ s, s = P.getD k 0 + q5 := ⟨_, rfl⟩
            have HS2 : Hid (mulStep n m P i j = P.set k s) := by
              show _ = _
              unfold mulStep
              rw [if_neg hs, hse, hq5e, hk]
            obtain ⟨p5, hp5⟩ : ∃ p5, p5 = 5 * n.getD i 0 := ⟨_, rfl⟩
            have hp5b : p5 ≤ 671088680 := by have := HSN.out i hlt; omega
            have hp52 : 5 * ((n.getD i 0 : Nat) : Int) = (p5 : Int) := by omega
            have hq2 : (p5 : Int) * ((m.getD j 0 : Nat) : Int) = (q5 : Int) := by rw [hq5e, hp5]; exact (Int.natCast_mul _ _).symm
            have hs3 : ((P.getD k 0 : Nat) : Int) + (q5 : Int) = (s : Int) := by omega
            have hsb : s ≤ 1200000000000000000 := by omega
            have hqb : q5 ≤ 45035998289758840 := by omega
            generalize n.getD i 0 = xn at hcn hp52
            generalize m.getD j 0 = xm at hcm hq2
            generalize P.getD k 0 = xp at hcp hs3
            clear hse hqe hq5e hq5b hp5 hk hpk hPb hs hq hPl
            go_wp2_with fail
            go_region
            go_wp2
            go_roundw
            case rel =>
              refine ⟨j + 1, by omega, by go_num, ?_⟩
              rw [HS.out, HS2.out]
              exact HT.out.set h0 k s
            case measure => simp [intOf]; omega
        · have hltj' : ¬ (j : Int) < 5 := by omega
          obtain rfl : j = 5 := by omega
          go_wp2
          go_roundw
          case rel => exact ⟨i + 1, by omega, by go_num, HT.out⟩
          case measure => simp [intOf]; omega
    · have hlt' : ¬ (i : Int) < 5 := by omega
      obtain rfl : i = 5 := by omega
      have hPb : ∀ k, (mulTo n m 5).getD k 0 ≤ 1125899957243971000 := mulTo_le HSN.out HSM.out 5 (by omega)
      obtain ⟨f1, f2, f3, f4, f5, _⟩ := fold_twice (mulTo_length n m 5) hPb
      have hP5 := mulTo_length n m 5
      have HTL : Hid (timesL n m = foldL (foldL (mulTo n m 5))) := rfl
      generalize mulTo n m 5 = P at hPb f1 f2 f3 f4 f5 hP5 HTL HT
      have HC1 := hidden (foldTop_c (w.heap.size + 2) P hP5 (fun i _ => Nat.le_trans (hPb i) (by omega)) f1 f2 wr HT.out.p)
      have hF5 := foldL_length P
      generalize foldL P = Q at f3 f4 f5 HTL HC1 hF5
      have HF3 := hidden f3
      have HF4 := hidden f4
      have HF5 := hidden f5
      have hR5 := foldL_length Q
      clear f1 f2 f3 f4 f5 hPb
      go_wp2_with fail
      refine HC1.out.mono ?_
      rintro e w4 ⟨rfl, hp4, hk4⟩
      have H4 := hidden (HT.out.keep h0 hk4 hp4)
      clear HT hp4 hk4 HC1
      have HC2 := hidden (foldTop_c (w.heap.size + 2) Q (by omega) HF3.out HF4.out HF5.out w4 H4.out.p)
      generalize foldL Q = R0 at HTL HC2 hR5
      go_wp2_with fail
      refine HC2.out.mono ?_
      rintro e w5 ⟨rfl, hp5, hk5⟩
      have H5 := hidden (H4.out.keep h0 hk5 hp5)
      clear H4 hp5 hk5 HC2 HF3 HF4 HF5
      have hpl : (ncells .u64 R0).toArray.size = 5 := by rw [List.size_toArray, ncells_length]; omega
      have hsz : (Tryd.prog.info? 103).map (·.size) = some (ncells .u64 R0).toArray.size := by rw [hpl]; kernel_rfl
      have hone : (ncells .u64 R0).toArray.all (·.oneCell') = true := by simp [ncells, Value.oneCell']
      have hpp : w5.heap[w.heap.size + 2]? = some (.cells (ncells .u64 R0).toArray 103 (0, 0)) := H5.out.p
      have hrr : w5.heap[w.heap.size + 1]? = some (.cells (ncells .u64 [0, 0, 0, 0, 0]).toArray 103 (0, 0)) := H5.out.r
      generalize hRe : (ncells .u64 R0).toArray = R at hpl hsz hone hpp
      have HRE := hidden hRe
      clear hRe
      have HPL := hidden hpl
      have HSZ := hidden hsz
      have HON := hidden hone
      have HPP := hidden hpp
      have HRR := hidden hrr
      have HB5 := hidden H5.out.b
      clear hpl hsz hone hpp hrr H5
      have hres : (w5.setRow (w.heap.size + 1) R).heap[w.heap.size + 1]? = some (.cells R 103 (0, 0)) := setRow_heap w5 (w.heap.size + 1) _ _ _ _ HRR.out
      have hbel : Below w.heap.size w (w5.setRow (w.heap.size + 1) R) := below_setRow HB5.out (by omega) _
      have HR1 := hidden hres
      have HL1 := hidden hbel
      have HD : Hid ((ncells .u64 [0, 0, 0, 0, 0]).toArray.size = R.size) := by show _ = _; rw [HPL.out]; rfl
      clear hres hbel
      go_wp2_with (first
        | (refine wpList_loadRow rfl 103 (.tmp 5) rfl (w.heap.size + 2) R 103 (0, 0) 5 27 rfl HPP.out Tryd.underlying103 HSZ.out ?_)
        | (refine wpList_store_row rfl 103 (.tmp 4) (.tmp 56) rfl (w.heap.size + 1) R rfl rfl 103 _ HRR.out HSZ.out HD.out HON.out ?_))
      (try simp only [Exit.inBlock, Exit.then])
      refine bodyPost_ret (results_cell1 rfl _ _ _ (w.heap.size + 1) R 103 (0, 0) 5 27 rfl HR1.out Tryd.underlying103 HSZ.out) rfl ?_
      exact ⟨by rw [HTL.out, HRE.out], HL1.out⟩
end Go.Proofs.YthkaibkmpenclaaDoor
