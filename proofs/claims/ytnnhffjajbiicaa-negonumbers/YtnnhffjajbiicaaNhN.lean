/- The walk of the law NegoNumbers. -/
import Derived.Test.YtnnhffjajbiicaaNhE
import Derived.Deep.CutBlock
import Derived.Deep.CutRange
namespace Go.Proofs.Ytnnhffjajbiicaa
open Go Go.RowKit

set_option maxHeartbeats 1600000 in
set_option maxRecDepth 100000 in
theorem negoNumbers_c (w : World) : Calls Try.prog 3 #[] w fun e w' => e = .returned (.bool true) ∧ Below w.heap.size w w' := by
  obtain ⟨i0, hi, hz0, hz1, hz2⟩ := info_parts Try.infoU8
  obtain ⟨j0, ji, jz0, jz1, jz2⟩ := info_parts Try.infoStr
  have kc := fun (w : World) (C : Array Value) (n c : Nat) => Lib.run_convert_bytes_const (P := Try.prog) w 22 5 C n c Try.underlying22 Try.underlying5
  have hv0 := bsl_mark w [97] (1, 2) (by simp)
  have hb0 : Below w.heap.size w (w.alloc (.cells (bcells [97]).toArray 5 (1, 2))) := (Below.refl _ w).alloc (Nat.le_refl _) _
  go_enter Try.func3, Try.ntmps3
  go_wp2_with fail
  refine (sized_b 300 (by omega) _ [97] _ hv0).mono ?_
  rintro e w1 ⟨rfl, hbs1, hb1⟩
  have hz1' : (w.alloc (.cells (bcells [97]).toArray 5 (1, 2))).heap.size = w.heap.size + 1 := by simp
  have hst := run_string hbs1
  rw [hz1'] at hst
  have hls : (⟨(sizedL [97] 300).toArray⟩ : ByteArray).size = 300 := by show (sizedL [97] 300).toArray.size = 300; rw [List.size_toArray, sizedL_length]
  have HB1 := hidden (hb0.trans (hb1.mono hb0.size))
  generalize (⟨(sizedL [97] 300).toArray⟩ : ByteArray) = long at hst hls
  have HLS := hidden hls
  have HX1 : Hid (startB.size + (long.extract 0 245).size ≤ 300) := by show _ ≤ _; rw [ByteArray.size_extract, hls]; simp [startB, ByteArray.size]
  have HX2 : Hid (startB.size + (long.extract 0 246).size ≤ 300) := by show _ ≤ _; rw [ByteArray.size_extract, hls]; simp [startB, ByteArray.size]
  obtain ⟨A1, hA1⟩ : ∃ A1, A1 = startB ++ long.extract 0 245 := ⟨_, rfl⟩
  obtain ⟨A2, hA2⟩ : ∃ A2, A2 = startB ++ long.extract 0 246 := ⟨_, rfl⟩
  have HA1 := hidden hA1
  have HA2 := hidden hA2
  have HTS := hidden (T10_size (A := A1) (B := A2) (by rw [hA1, ByteArray.size_append]; exact HX1.out) (by rw [hA2, ByteArray.size_append]; exact HX2.out))
  clear hb0 hv0 hbs1 hb1 hls hz1' hA1 hA2
  go_upto_region 2 with fail
  refine region_free [(.val (.string long)), (.val (.string (long.extract 0 245))), (.val (.string A1)), (.val (.string long)), (.val (.string (long.extract 0 246))), (.val (.string A2)), (.strs (T10 A1 A2)), (.val (.int .i64 10)), (.val (.int .i64 0))] (by kernel_rfl) ?_ ?_
  · refine req_cons (.val (.string long)) (by kernel_rfl) (fun vs w1 he hd => StepG.plain (by kernel_rfl) (gives_move (x := .tmp 1) (v := .string long) (by kernel_rfl) (Eq.trans (off_eval 1 (by kernel_rfl)) (by kernel_rfl)) ⟨Ex.refl _, rfl⟩)) ?_
    refine req_cons (.val (.string (long.extract 0 245))) (by kernel_rfl) (fun vs w1 he hd => StepG.plain (by kernel_rfl) (gives_headS (x := .tmp 49) (y := .const (.int .i64 245)) (s := long) (n := 245) (by have := HLS.out; omega) (by kernel_rfl) (Eq.trans (b := vs 0) (at_eval 49 0 (by kernel_rfl) (by kernel_rfl)) (hd 0 (.val (.string long)) (by kernel_rfl) (by kernel_rfl))) (by kernel_rfl) ⟨Ex.refl _, rfl⟩)) ?_
    refine req_cons (.val (.string A1)) (by kernel_rfl) (fun vs w1 he hd => StepG.plain (by kernel_rfl) (gives_addS (x := .const (.string ⟨#[83, 83, 72, 45, 50, 46, 48, 45]⟩)) (y := .tmp 50) (a := startB) (b := long.extract 0 245) (by have := HX1.out; omega) (by kernel_rfl) (by kernel_rfl) (Eq.trans (b := vs 1) (at_eval 50 1 (by kernel_rfl) (by kernel_rfl)) (hd 1 (.val (.string (long.extract 0 245))) (by kernel_rfl) (by kernel_rfl))) ⟨Ex.refl _, by rw [HA1.out]; rfl⟩)) ?_
    refine req_cons (.val (.string long)) (by kernel_rfl) (fun vs w1 he hd => StepG.plain (by kernel_rfl) (gives_move (x := .tmp 1) (v := .string long) (by kernel_rfl) (Eq.trans (off_eval 1 (by kernel_rfl)) (by kernel_rfl)) ⟨Ex.refl _, rfl⟩)) ?_
    refine req_cons (.val (.string (long.extract 0 246))) (by kernel_rfl) (fun vs w1 he hd => StepG.plain (by kernel_rfl) (gives_headS (x := .tmp 52) (y := .const (.int .i64 246)) (s := long) (n := 246) (by have := HLS.out; omega) (by kernel_rfl) (Eq.trans (b := vs 3) (at_eval 52 3 (by kernel_rfl) (by kernel_rfl)) (hd 3 (.val (.string long)) (by kernel_rfl) (by kernel_rfl))) (by kernel_rfl) ⟨Ex.refl _, rfl⟩)) ?_
    refine req_cons (.val (.string A2)) (by kernel_rfl) (fun vs w1 he hd => StepG.plain (by kernel_rfl) (gives_addS (x := .const (.string ⟨#[83, 83, 72, 45, 50, 46, 48, 45]⟩)) (y := .tmp 53) (a := startB) (b := long.extract 0 246) (by have := HX2.out; omega) (by kernel_rfl) (by kernel_rfl) (Eq.trans (b := vs 4) (at_eval 53 4 (by kernel_rfl) (by kernel_rfl)) (hd 4 (.val (.string (long.extract 0 246))) (by kernel_rfl) (by kernel_rfl))) ⟨Ex.refl _, by rw [HA2.out]; rfl⟩)) ?_
    refine req_cons (.strs (T10 A1 A2)) (by kernel_rfl) (fun vs w1 he hd => StepG.plain (by kernel_rfl) (gives_T10 (A := A1) (B := A2) (by kernel_rfl) (fun _ => rfl) (Eq.trans (b := vs 2) (at_eval 51 2 (by kernel_rfl) (by kernel_rfl)) (hd 2 (.val (.string A1)) (by kernel_rfl) (by kernel_rfl))) (Eq.trans (b := vs 5) (at_eval 54 5 (by kernel_rfl) (by kernel_rfl)) (hd 5 (.val (.string A2)) (by kernel_rfl) (by kernel_rfl))) ⟨Ex.alloc _ _, _, rfl, LBox.new _ _ _⟩)) ?_
    refine req_cons (.val (.int .i64 10)) (by kernel_rfl) (fun vs w1 he hd => (by obtain ⟨g, e, _⟩ := hd 6 (.strs (T10 A1 A2)) (by kernel_rfl) (by kernel_rfl); exact StepG.plain (by kernel_rfl) (gives_len (ty := 24) (x := .tmp 55) (n := 10) (by kernel_rfl) ((at_eval 55 6 (by kernel_rfl) (by kernel_rfl)).trans e) ⟨_, Try.underlying24⟩ ⟨Ex.refl _, rfl⟩))) ?_
    refine req_cons (.val (.int .i64 0)) (by kernel_rfl) (fun vs w1 he hd => StepG.plain (by kernel_rfl) (gives_move (x := .const (.int .i64 0)) (v := .int .i64 0) (by kernel_rfl) (by kernel_rfl) ⟨Ex.refl _, rfl⟩)) ?_
    exact req_nil
  intro vs w2 hx hF
  have e0 : vs 0 = (.string long) := told_at hF 0 (.val (.string long)) (by decide) (by kernel_rfl)
  have e1 : vs 1 = (.string (long.extract 0 245)) := told_at hF 1 (.val (.string (long.extract 0 245))) (by decide) (by kernel_rfl)
  have e2 : vs 2 = (.string A1) := told_at hF 2 (.val (.string A1)) (by decide) (by kernel_rfl)
  have e3 : vs 3 = (.string long) := told_at hF 3 (.val (.string long)) (by decide) (by kernel_rfl)
  have e4 : vs 4 = (.string (long.extract 0 246)) := told_at hF 4 (.val (.string (long.extract 0 246))) (by decide) (by kernel_rfl)
  have e5 : vs 5 = (.string A2) := told_at hF 5 (.val (.string A2)) (by decide) (by kernel_rfl)
  have e7 : vs 7 = (.int .i64 10) := told_at hF 7 (.val (.int .i64 10)) (by decide) (by kernel_rfl)
  have e8 : vs 8 = (.int .i64 0) := told_at hF 8 (.val (.int .i64 0)) (by decide) (by kernel_rfl)
  obtain ⟨g, e6', hg2⟩ := told_at hF 6 (.strs (T10 A1 A2)) (by decide) (by kernel_rfl)
  have e6 : vs 6 = .slice (some ⟨g, 0, none⟩) 10 10 := e6'
  simp only [List.length_cons, List.length_nil, actsTo, if_true, dstOf, List.getElem?_toArray, List.getElem?_cons_succ, List.getElem?_cons_zero, Option.bind_some, Act.put, List.setIfInBounds_toArray, List.set_cons_zero, List.set_cons_succ]
  simp only [e0, e1, e2, e3, e4, e5, e6, e7, e8]
  have HG2 := hidden hg2
  have HB2 := hidden (HB1.out.trans (Below.mono hx HB1.out.size))
  have HTL := hidden (T10_len A1 A2)
  generalize T10 A1 A2 = T at HG2 HTS HTL
  clear hF e0 e1 e2 e3 e4 e5 e6 e6' e7 e8 vs hx hg2 HB1 hst
  clear kc
  go_upto_region 3 with fail
  go_loopw [57] (fun i wr => ∃ k : Nat, k ≤ 10 ∧ i = .int .i64 k ∧ LBox wr g 9 (T.map Value.string) ∧ Below w.heap.size w wr) (fun i _ => 10 - (intOf i).toNat)
  case atStart => exact ⟨0, by omega, rfl, HG2.out, HB2.out⟩
  case round =>
    clear HG2 HB2
    obtain ⟨k, hk, rfl, hg, hb⟩ := hrel
    have HG := hidden hg
    have HB := hidden hb
    clear hg hb
    by_cases hlt : k < 10
    · have hik : (k : Int) < 10 := by omega
      have hc := HG.out.cell (strs_at (T := T) (k := k) (by have := HTL.out; omega))
      have hsz := HTS.out _ (strs_mem (T := T) (k := k) (by have := HTL.out; omega))
      generalize T.getD k ⟨#[]⟩ = s at hc hsz
      go_wp2_with fail
      refine (line_c s _ (by omega)).mono ?_
      rintro e w3 ⟨p, rfl, hp3, _, hb3⟩
      have HP3 := hidden hp3
      have HG3 := hidden (HG.out.fresh hb3)
      have HB3 := hidden (HB.out.trans (hb3.mono HB.out.size))
      clear hp3 hb3 HG HB hc
      go_wp2_with fail
      refine (rline_c s _ (by omega)).mono ?_
      rintro e w4 ⟨q, rfl, hq4, hb4⟩
      have hp4 := HP3.out.fresh hb4
      obtain ⟨pa, pc, rfl, hpc1, hpc2, _⟩ := id hp4
      obtain ⟨qa, qc, rfl, hqc1, hqc2, _⟩ := id hq4
      have hs1 := run_string hp4
      have hs2 := run_string hq4
      have HG4 := hidden (HG3.out.fresh hb4)
      have HB4 := hidden (HB3.out.trans (hb4.mono HB3.out.size))
      generalize (⟨(lineL s).toArray⟩ : ByteArray) = PS at hs1 hs2
      generalize (lineL s).length = pl at hs1 hs2 hpc1 hqc1 ⊢
      generalize lineE s = pe
      clear hp4 hq4 hb4 HP3 HG3 HB3
      go_upto_region 10 with fail
      have HV0 := hidden (LBox.new w4 9 (tails6.map Value.string))
      have hbn : Below w4.heap.size w4 (w4.alloc (.cells (tails6.map Value.string).toArray 9)) := (Below.refl _ w4).alloc (Nat.le_refl _) _
      have HG5 := hidden (HG4.out.fresh hbn)
      have HB5 := hidden (HB4.out.trans (hbn.mono HB4.out.size))
      change Code.wp _ _ _ _ (w4.alloc (.cells (tails6.map Value.string).toArray 9))
      have HVS := hidden tails6_size
      have HVL : Hid (tails6.length = 6) := rfl
      generalize tails6 = V6 at HV0 HG5 HB5 HVS HVL hbn ⊢
      generalize w4.alloc (.cells (V6.map Value.string).toArray 9) = w5 at HV0 HG5 HB5 ⊢
      generalize w4.heap.size = g6 at HV0 ⊢
      clear hbn HG4 HB4 hs1 hs2
      go_loopw [83] (fun i wr => ∃ j : Nat, j ≤ 6 ∧ i = .int .i64 j ∧ LBox wr g6 9 (V6.map Value.string) ∧ LBox wr g 9 (T.map Value.string) ∧ Below w.heap.size w wr) (fun i _ => 6 - (intOf i).toNat)
      case atStart => exact ⟨0, by omega, rfl, HV0.out, HG5.out, HB5.out⟩
      case round =>
        clear HV0 HG5 HB5
        obtain ⟨j, hj, rfl, hv, hg, hb⟩ := hrel
        have HV := hidden hv
        have HG := hidden hg
        have HB := hidden hb
        clear hv hg hb
        by_cases hjt : j < 6
        · have hij : (j : Int) < 6 := by omega
          have hc := HV.out.cell (strs_at (T := V6) (k := j) (by have := HVL.out; omega))
          have htz := HVS.out _ (strs_mem (T := V6) (k := j) (by have := HVL.out; omega))
          generalize V6.getD j ⟨#[]⟩ = t at hc htz
          have hsum : (s.size : Int) + (t.size : Int) ≤ 9223372036854775807 := by omega
          obtain ⟨st, hst⟩ : ∃ st, st = s ++ t := ⟨_, rfl⟩
          have hstz : st.size ≤ 1000 := by rw [hst, ByteArray.size_append]; omega
          have HST := hidden hst
          have hadd : ∀ V : World, (Op.stringOp .add s t).run Try.prog V = .ok (.string st) V := fun V => by rw [HST.out]; exact run_string_add_sum V s t (by omega)
          have HVR : Hid (∀ V v, BSl V v st.data.toList → Calls Try.prog 12 #[v] V fun e w' => e = .returned (versionV (versionT st.data.toList)) ∧ w' = V) := fun V v hV => rversion_c _ _ V hV
          have HVN : Hid (∀ V v, BSl V v st.data.toList → Calls Try.prog 11 #[v] V fun e w' => e = .returned (versionV (versionT st.data.toList)) ∧ Still V w') := fun V v hV => version_c _ _ V hV
          generalize versionT st.data.toList = vt at HVR HVN
          obtain ⟨vs1, vk, ve⟩ := vt
          simp only [versionV] at HVR HVN
          obtain ⟨c6, w6, hr6, hb6, hl6⟩ := ready_v st hstz wr
          clear hst
          go_wp2_with fail
          refine (HVN.out _ _ hb6).mono ?_
          rintro e w7 ⟨rfl, hs7⟩
          have hl7 : Below wr.heap.size wr w7 := hl6.trans ((still_below hs7 (Nat.le_refl _)).mono hl6.size)
          obtain ⟨c8, w8, hr8, hb8, hl8⟩ := ready_v st hstz w7
          have hl9 : Below wr.heap.size wr w8 := hl7.trans (hl8.mono hl7.size)
          have HV9 := hidden (HV.out.fresh hl9)
          have HG9 := hidden (HG.out.fresh hl9)
          have HB9 := hidden (HB.out.trans (hl9.mono HB.out.size))
          clear hr6 hb6 hl6 hs7 hl7 hl8 hl9 HV HG HB HVN
          go_wp2_with fail
          refine (HVR.out _ _ hb8).mono ?_
          rintro e w9 ⟨rfl, rfl⟩
          clear hr8 hb8 HVR hadd
          go_wp2_with fail
          go_roundw
          case rel => exact ⟨j + 1, by omega, by go_num, HV9.out, HG9.out, HB9.out⟩
          case measure => simp [intOf]; omega
        · have hij : ¬ (j : Int) < 6 := by omega
          go_wp2_with fail
          go_roundw
          case rel => exact ⟨k + 1, by omega, by go_num, HG.out, HB.out⟩
          case measure => simp [intOf]; omega
    · have hik : ¬ (k : Int) < 10 := by omega
      go_upto_region 19 with fail
      have HN0 := hidden (LBox.new wr 3 (nCells ns5))
      have hbn : Below wr.heap.size wr (wr.alloc (.cells (nCells ns5).toArray 3)) := (Below.refl _ wr).alloc (Nat.le_refl _) _
      have HB3 := hidden (HB.out.trans (hbn.mono HB.out.size))
      change Code.wp _ _ _ _ (wr.alloc (.cells (nCells ns5).toArray 3))
      have HNS := hidden ns5_le
      have HNL : Hid (ns5.length = 5) := rfl
      generalize ns5 = N5 at HN0 HB3 HNS HNL hbn ⊢
      generalize wr.alloc (.cells (nCells N5).toArray 3) = w3 at HN0 HB3 ⊢
      generalize wr.heap.size = g5 at HN0 ⊢
      clear hbn HG HB HTS HTL
      go_loopw [122] (fun i wr => ∃ k : Nat, k ≤ 5 ∧ i = .int .i64 k ∧ LBox wr g5 3 (nCells N5) ∧ Below w.heap.size w wr) (fun i _ => 5 - (intOf i).toNat)
      case atStart => exact ⟨0, by omega, rfl, HN0.out, HB3.out⟩
      case round =>
        clear HN0 HB3
        obtain ⟨k2, hk2, rfl, hg, hb⟩ := hrel
        have HG := hidden hg
        have HB := hidden hb
        clear hg hb
        by_cases hlt2 : k2 < 5
        · have hik2 : (k2 : Int) < 5 := by omega
          have hc := HG.out.cell (ns_at (T := N5) (k := k2) (by have := HNL.out; omega))
          have hnz := HNS.out _ (ns_mem (T := N5) (k := k2) (by have := HNL.out; omega))
          generalize N5.getD k2 0 = n at hc hnz
          go_upto_region 22 with fail
          have HV0 := hidden (LBox.new wr 9 (tails3.map Value.string))
          have hbn : Below wr.heap.size wr (wr.alloc (.cells (tails3.map Value.string).toArray 9)) := (Below.refl _ wr).alloc (Nat.le_refl _) _
          have HG5 := hidden (HG.out.fresh hbn)
          have HB5 := hidden (HB.out.trans (hbn.mono HB.out.size))
          change Code.wp _ _ _ _ (wr.alloc (.cells (tails3.map Value.string).toArray 9))
          have HVS := hidden tails3_size
          have HVL : Hid (tails3.length = 3) := rfl
          generalize tails3 = V3 at HV0 HG5 HB5 HVS HVL hbn ⊢
          generalize wr.alloc (.cells (V3.map Value.string).toArray 9) = w5 at HV0 HG5 HB5 ⊢
          generalize wr.heap.size = g6 at HV0 ⊢
          clear hbn HG HB hc
          have hn1 : (n : Int) ≤ (long.size : Int) := by have := HLS.out; omega
          have hn0 : (0 : Int) ≤ (n : Int) := Int.natCast_nonneg _
          have hsz : (long.extract 0 n).size ≤ 300 := by rw [ByteArray.size_extract]; omega
          obtain ⟨s, hsx⟩ : ∃ s, long.extract 0 n = s := ⟨_, rfl⟩
          rw [hsx] at hsz
          go_loopw [128] (fun i wr => ∃ j : Nat, j ≤ 3 ∧ i = .int .i64 j ∧ LBox wr g6 9 (V3.map Value.string) ∧ LBox wr g5 3 (nCells N5) ∧ Below w.heap.size w wr) (fun i _ => 3 - (intOf i).toNat)
          case atStart => exact ⟨0, by omega, rfl, HV0.out, HG5.out, HB5.out⟩
          case round =>
            clear HV0 HG5 HB5
            obtain ⟨j, hj, rfl, hv, hg, hb⟩ := hrel
            have HV := hidden hv
            have HG := hidden hg
            have HB := hidden hb
            clear hv hg hb
            by_cases hjt : j < 3
            · have hij : (j : Int) < 3 := by omega
              have hc := HV.out.cell (strs_at (T := V3) (k := j) (by have := HVL.out; omega))
              have htz := HVS.out _ (strs_mem (T := V3) (k := j) (by have := HVL.out; omega))
              generalize V3.getD j ⟨#[]⟩ = t at hc htz
              have hsum : (s.size : Int) + (t.size : Int) ≤ 9223372036854775807 := by omega
              obtain ⟨st, hst⟩ : ∃ st, st = s ++ t := ⟨_, rfl⟩
              have hstz : st.size ≤ 1000 := by rw [hst, ByteArray.size_append]; omega
              have HST := hidden hst
              have hadd : ∀ V : World, (Op.stringOp .add s t).run Try.prog V = .ok (.string st) V := fun V => by rw [HST.out]; exact run_string_add_sum V s t (by omega)
              have HVR : Hid (∀ V v, BSl V v st.data.toList → Calls Try.prog 12 #[v] V fun e w' => e = .returned (versionV (versionT st.data.toList)) ∧ w' = V) := fun V v hV => rversion_c _ _ V hV
              have HVN : Hid (∀ V v, BSl V v st.data.toList → Calls Try.prog 11 #[v] V fun e w' => e = .returned (versionV (versionT st.data.toList)) ∧ Still V w') := fun V v hV => version_c _ _ V hV
              generalize versionT st.data.toList = vt at HVR HVN
              obtain ⟨vs1, vk, ve⟩ := vt
              simp only [versionV] at HVR HVN
              obtain ⟨c6, w6, hr6, hb6, hl6⟩ := ready_v st hstz wr
              clear hst
              go_wp2_with fail
              refine (HVN.out _ _ hb6).mono ?_
              rintro e w7 ⟨rfl, hs7⟩
              have hl7 : Below wr.heap.size wr w7 := hl6.trans ((still_below hs7 (Nat.le_refl _)).mono hl6.size)
              obtain ⟨c8, w8, hr8, hb8, hl8⟩ := ready_v st hstz w7
              have hl9 : Below wr.heap.size wr w8 := hl7.trans (hl8.mono hl7.size)
              have HV9 := hidden (HV.out.fresh hl9)
              have HG9 := hidden (HG.out.fresh hl9)
              have HB9 := hidden (HB.out.trans (hl9.mono HB.out.size))
              clear hr6 hb6 hl6 hs7 hl7 hl8 hl9 HV HG HB HVN
              go_wp2_with fail
              refine (HVR.out _ _ hb8).mono ?_
              rintro e w9 ⟨rfl, rfl⟩
              clear hr8 hb8 HVR hadd
              go_wp2_with fail
              go_roundw
              case rel => exact ⟨j + 1, by omega, by go_num, HV9.out, HG9.out, HB9.out⟩
              case measure => simp [intOf]; omega
            · have hij : ¬ (j : Int) < 3 := by omega
              go_wp2_with fail
              go_roundw
              case rel => exact ⟨k2 + 1, by omega, by go_num, HG.out, HB.out⟩
              case measure => simp [intOf]; omega
        · have hik2 : ¬ (k2 : Int) < 5 := by omega
          go_upto_region 30 with fail
          have HB0 := hidden HB.out
          clear HG HB HNS HNL
          go_wp2_with fail
          refine (encode_c (.slice none 0 0) (List.replicate 10 (.slice none 0 0)) false [] (List.replicate 10 []) _ (lrd_none _) tame_none).mono ?_
          rintro e w10 ⟨x10, rfl, _, _, hb10⟩
          rw [encE_none]
          have HB10 := hidden (HB0.out.trans (hb10.mono HB0.out.size))
          clear hb10 HB0
          obtain ⟨ZC, hZC⟩ : ∃ ZC, ZC = (bcells z16).toArray := ⟨_, rfl⟩
          have hmk : ∀ V : World, (Instr.makeSlice 22 (.int .i64 16) (.int .i64 16)).run Try.prog V = .ok (.slice (some ⟨V.heap.size, 0, none⟩) 16 16) (V.alloc (.cells ZC 5)) := fun V => by rw [hZC]; exact made16 V
          have HZ : Hid (∀ V : World, BSl (V.alloc (.cells ZC 5)) (.slice (some ⟨V.heap.size, 0, none⟩) 16 16) z16) := fun V => by rw [hZC]; exact bsl16 V
          clear hZC
          go_wp2_with fail
          have hck := (HZ.out w10).alloc (.cells #[.string ⟨#[97, 44, 98]⟩] 9)
          have hsz10 : (w10.alloc (.cells ZC 5)).heap.size = w10.heap.size + 1 := by simp
          have hsl : SSl ((w10.alloc (.cells ZC 5)).alloc (.cells #[.string ⟨#[97, 44, 98]⟩] 9)) (.slice (some ⟨w10.heap.size + 1, 0, none⟩) 1 1) [⟨#[97, 44, 98]⟩] := by
            have := ssl_lit (w10.alloc (.cells ZC 5)) [⟨#[97, 44, 98]⟩] (by simp)
            rw [hsz10] at this
            exact this
          refine (encode_c _ _ false z16 ([⟨#[97, 44, 98]⟩] :: [] :: List.replicate 8 []) _ (lrd_pair (l1 := []) hck hsl (ssl_none _)) (tame_pair ⟨by simp, fun s hs => by simp at hs; subst hs; simp [ByteArray.size]⟩ ⟨by simp, fun s hs => by simp at hs⟩)).mono ?_
          rintro e w11 ⟨x11, rfl, _, _, hb11⟩
          rw [encE_comma]
          have HB11 : Hid (Below w.heap.size w w11) := by
            have h1 : Below w.heap.size w ((w10.alloc (.cells ZC 5)).alloc (.cells #[.string ⟨#[97, 44, 98]⟩] 9)) := (HB10.out.alloc HB10.out.size _).alloc (by have := HB10.out.size; simp; omega) _
            exact h1.trans (hb11.mono h1.size)
          clear hb11 HB10 hck hsl hsz10
          go_upto_region 34 with fail
          have h60 : (60 : Int) ≤ (long.size : Int) := by have := HLS.out; omega
          have hs60 : (long.extract 0 60).size = 60 := by rw [ByteArray.size_extract, HLS.out]; rfl
          obtain ⟨s6, hsx6⟩ : ∃ s6, long.extract 0 60 = s6 := ⟨_, rfl⟩
          rw [hsx6] at hs60
          have HS6 := hidden hs60
          clear hs60
          go_loopw [30, 31] (fun o i wr => ∃ j : Nat, j ≤ 17 ∧ i = .int .i64 j ∧ SOwn wr w11.heap.size o (List.replicate j s6) ∧ Below w11.heap.size w11 wr) (fun _ i _ => 17 - (intOf i).toNat)
          case atStart => exact ⟨0, by omega, rfl, World.ownsRow_nil _ _ _ _, Below.refl _ _⟩
          case round =>
            obtain ⟨j, hj, rfl, ho, hb⟩ := hrel
            have HO := hidden ho
            have HB := hidden hb
            clear ho hb
            obtain ⟨oa, oc, rfl⟩ := ownsRow_shape HO.out
            by_cases hjl : j < 17
            · have hij : (j : Int) < 17 := by omega
              have hFl : (List.replicate j s6).length ≤ 17 := by simpa using hj
              obtain ⟨F, hF⟩ : ∃ F, F = List.replicate j s6 := ⟨_, rfl⟩
              rw [← hF] at HO hFl ⊢
              have HF := hidden hF
              clear hF
              have hown := HO.out
              unfold SOwn at hown
              go_wp2_with (at_builtin; refine wpList_append_src _ rfl (.tmp 186) (.tmp 189) 24 24 rfl w11.heap.size 9 j0 _ 16 Try.underlying24 ji jz0 jz1 jz2 rfl _ _ _ rfl (hown.alloc _) _ 1 [.string s6] rfl (srcStr1 s6) (by unfold maxLen; omega) (by omega) (by have := HB.out.size; simp; omega) (wr.heap.size + 1) (by simp) ?_)
              intro v' w21 hown' hgrow hnil hat
              obtain ⟨ao', cp', rfl⟩ := ownsRow_shape hown'
              have HO2 := hidden hown'
              have HG2 := hidden hgrow
              clear hown' hgrow hnil hat hown
              go_wp2
              go_roundw
              case rel =>
                refine ⟨j + 1, by omega, by go_num, ?_, ?_⟩
                · unfold SOwn
                  rw [List.replicate_succ', ← HF.out, List.length_append, List.map_append]
                  exact HO2.out
                · exact (HB.out.alloc HB.out.size _).grown HG2.out (by have := HB.out.size; simp; omega) (fun g hg => (HO.out.lt g hg).1)
              case measure => simp [intOf]; omega
            · have hij : ¬ (j : Int) < 17 := by omega
              obtain rfl : j = 17 := by omega
              have hsm : SSl wr (.slice oa (List.replicate 17 s6).length oc) (List.replicate 17 s6) := SSl.ofRow HO.out
              have HBw := hidden (HB11.out.trans (HB.out.mono HB11.out.size))
              clear HO HB HB11 hj
              have HTM : Hid (Tame ([] :: List.replicate 17 s6 :: List.replicate 8 [])) := tame_pair ⟨by simp, fun s hs => by simp at hs⟩ ⟨by simp, fun s hs => by rw [(List.mem_replicate.1 hs).2, HS6.out]; omega⟩
              have HEM := hidden (encE_many HS6.out)
              generalize List.replicate 17 s6 = M at hsm HTM HEM ⊢
              have HSM := hidden hsm
              clear hsm
              go_wp2_with fail
              have hck := (HZ.out wr).alloc (.cells #[] 9)
              have hsz10 : (wr.alloc (.cells ZC 5)).heap.size = wr.heap.size + 1 := by simp
              have hsl : SSl ((wr.alloc (.cells ZC 5)).alloc (.cells #[] 9)) (.slice (some ⟨wr.heap.size + 1, 0, none⟩) 0 0) [] := by
                have := ssl_lit (wr.alloc (.cells ZC 5)) [] (by simp)
                rw [hsz10] at this
                exact this
              refine (encode_c _ _ false z16 ([] :: M :: List.replicate 8 []) _ (lrd_pair (l0 := []) hck hsl ((HSM.out.alloc _).alloc _)) HTM.out).mono ?_
              rintro e w12 ⟨x12, rfl, _, _, hb12⟩
              rw [HEM.out]
              have HB12 : Hid (Below w.heap.size w w12) := by
                have h1 : Below w.heap.size w ((wr.alloc (.cells ZC 5)).alloc (.cells #[] 9)) := (HBw.out.alloc HBw.out.size _).alloc (by have := HBw.out.size; simp; omega) _
                exact h1.trans (hb12.mono h1.size)
              clear hb12 HBw hck hsl hsz10 HTM HEM HSM
              go_wp2_with fail
              refine (decode_c (.slice none 0 0) [] _ (bsl_none _) (by simp)).mono ?_
              rintro e w13 ⟨dck, dnm, rfl, hrd13, _, _, hb13⟩
              rw [decE_nil]
              obtain ⟨CC, hCC⟩ : ∃ CC, CC = lcells dck dnm (decF []) := ⟨_, rfl⟩
              have HS13 : Hid ((Try.prog.info? 38).map (·.size) = some CC.toArray.size) := by rw [hCC]; exact size_lcells hrd13.nl
              have HO13 : Hid (CC.toArray.all (·.oneCell') = true) := by rw [hCC]; exact hrd13.one
              have HE13 : Hid (noL.toArray.size = CC.toArray.size) := by rw [hCC]; exact noL_same hrd13.nl
              have HN13 := hidden (LBox.new w13 38 noL)
              have hb14 := below_place w13 38 noL CC
              have HB14 : Hid (Below w.heap.size w ((w13.alloc (.cells noL.toArray 38)).setRow w13.heap.size CC.toArray)) := by
                have h1 := HB12.out.trans (hb13.mono HB12.out.size)
                exact h1.trans (hb14.mono h1.size)
              rw [← hCC]
              clear hCC hrd13 hb13 hb14 HB12
              go_upto_region 39 with (refine wpList_store_row rfl 38 (.tmp 34) (.tmp 202) rfl w13.heap.size CC.toArray rfl rfl 38 _ HN13.out HS13.out HE13.out HO13.out ?_)
              change Code.wp _ _ _ _ ((w13.alloc (.cells noL.toArray 38)).setRow w13.heap.size CC.toArray)
              clear HN13 HE13 HO13 HS13
              generalize (w13.alloc (.cells noL.toArray 38)).setRow w13.heap.size CC.toArray = w14 at HB14 ⊢
              go_wp2_with fail
              refine (ours_c _ z16 _ (HZ.out w14) (by simp [z16])).mono ?_
              rintro e w15 ⟨ock, onm, rfl, hrd15, hb15⟩
              obtain ⟨CO, hCO⟩ : ∃ CO, CO = lcells ock onm false := ⟨_, rfl⟩
              have HCO := hidden hCO
              have HS15 : Hid ((Try.prog.info? 38).map (·.size) = some CO.toArray.size) := by rw [HCO.out]; exact size_lcells hrd15.nl
              have HO15 : Hid (CO.toArray.all (·.oneCell') = true) := by rw [HCO.out]; exact hrd15.one
              have HE15 : Hid (noL.toArray.size = CO.toArray.size) := by rw [HCO.out]; exact noL_same hrd15.nl
              have HN15 := hidden (LBox.new w15 38 noL)
              have hb16 := below_place w15 38 noL CO
              have HX16 := hidden (HN15.out.row CO)
              have HR16 := hidden (hrd15.fresh hb16)
              have HB16 : Hid (Below w.heap.size w ((w15.alloc (.cells noL.toArray 38)).setRow w15.heap.size CO.toArray)) := by
                have h0 := HB14.out.alloc HB14.out.size (.cells ZC 5)
                have h1 := h0.trans (hb15.mono h0.size)
                exact h1.trans (hb16.mono h1.size)
              rw [← hCO]
              clear hCO hrd15 hb15 hb16 HB14
              go_upto_region 40 with (refine wpList_store_row rfl 38 (.tmp 36) (.tmp 205) rfl w15.heap.size CO.toArray rfl rfl 38 _ HN15.out HS15.out HE15.out HO15.out ?_)
              change Code.wp _ _ _ _ ((w15.alloc (.cells noL.toArray 38)).setRow w15.heap.size CO.toArray)
              clear HN15 HE15 HO15
              generalize (w15.alloc (.cells noL.toArray 38)).setRow w15.heap.size CO.toArray = w16 at HX16 HR16 HB16 ⊢
              generalize w15.heap.size = g36 at HX16 ⊢
              go_wp2_with (first
                | (refine wpList_loadAgg rfl 38 (.tmp 36) rfl g36 CO.toArray 38 (0, 0) rfl HX16.out Try.underlying38 HS15.out ?_))
              rw [HCO.out]
              refine (encode_c ock onm false z16 oursL _ HR16.out tame_ours).mono ?_
              rintro e w17 ⟨x, rfl, hx17, _, hb17⟩
              rw [encE_ours, ← HCO.out]
              have HX17 := hidden (HX16.out.fresh hb17)
              have HR17 := hidden (HR16.out.fresh hb17)
              have HB17 := hidden (HB16.out.trans (hb17.mono HB16.out.size))
              have HXB17 := hidden hx17
              clear hb17 hx17 HX16 HR16 HB16
              go_wp2_with fail
              have hbz : Below w17.heap.size w17 (w17.alloc (.cells ZC 5)) := (Below.refl _ w17).alloc (Nat.le_refl _) _
              refine (rours_c _ z16 _ (HZ.out w17) (by simp [z16])).mono ?_
              rintro e w18 ⟨rck, rnm, rfl, hrd18, hb18⟩
              have hb18' : Below w17.heap.size w17 w18 := hbz.trans (hb18.mono hbz.size)
              have HX18 := hidden (HX17.out.fresh hb18')
              have HR18 := hidden (HR17.out.fresh hb18')
              have HB18 := hidden (HB17.out.trans (hb18'.mono HB17.out.size))
              have HXB18 := hidden (HXB17.out.fresh hb18')
              have HRR := hidden hrd18
              clear hbz hb18 hb18' hrd18 HX17 HR17 HB17 HXB17
              go_wp2_with fail
              refine (rencode_c rck rnm false z16 oursL _ HRR.out tame_ours).mono ?_
              rintro e w19 ⟨y, rfl, hy19, hb19⟩
              have HX19 := hidden (HX18.out.fresh hb19)
              have HR19 := hidden (HR18.out.fresh hb19)
              have HB19 := hidden (HB18.out.trans (hb19.mono HB18.out.size))
              have HXB19 := hidden (HXB18.out.fresh hb19)
              have HYB19 := hidden (BSl.ofRow hy19)
              clear hb19 hy19 HX18 HR18 HB18 HXB18 HRR
              generalize encB z16 oursL false = XB at HXB19 HYB19
              generalize encE z16 oursL = xe2
              obtain ⟨xa, xc, rfl, hxc1, hxc2, _⟩ := id HXB19.out
              obtain ⟨ya, yc, rfl, hyc1, hyc2, _⟩ := id HYB19.out
              go_wp2_with (first
                | (refine wpList_loadAgg rfl 38 (.tmp 36) rfl g36 CO.toArray 38 (0, 0) rfl HX19.out Try.underlying38 HS15.out ?_))
              rw [HCO.out]
              refine (agree_c ock ock onm onm false false z16 z16 oursL oursL _ HR19.out HR19.out).mono ?_
              rintro e w20 ⟨rfl, hb20⟩
              rw [agE_ours, ← HCO.out]
              have HA8 := hidden (size_agC oursL oursL)
              have HA1 := hidden (one_agC oursL oursL)
              have HAF := hidden agC_first
              have HAL := hidden agC_last
              generalize agC oursL oursL = AC at HA8 HA1 HAF HAL ⊢
              have HAS : Hid ((Try.prog.info? 45).map (·.size) = some AC.toArray.size) := by rw [List.size_toArray, HA8.out]; exact size8
              have HA0 : Hid (no8.toArray.size = AC.toArray.size) := by rw [List.size_toArray, List.size_toArray, HA8.out]; rfl
              have HN20 := hidden (LBox.new w20 45 no8)
              have hb21 := below_place w20 45 no8 AC
              have hb21' : Below w19.heap.size w19 ((w20.alloc (.cells no8.toArray 45)).setRow w20.heap.size AC.toArray) := hb20.trans (hb21.mono hb20.size)
              have HX21 := hidden (HX19.out.fresh hb21')
              have HR21 := hidden (HR19.out.fresh hb21')
              have HB21 := hidden (HB19.out.trans (hb21'.mono HB19.out.size))
              have HXB21 := hidden (HXB19.out.fresh hb21')
              have HYB21 := hidden (HYB19.out.fresh hb21')
              have HG21 := hidden (HN20.out.row AC)
              clear hb20 hb21 hb21' HX19 HR19 HB19 HXB19 HYB19
              go_upto_region 43 with (refine wpList_store_row rfl 45 (.tmp 41) (.tmp 221) rfl w20.heap.size AC.toArray rfl rfl 45 _ HN20.out HAS.out HA0.out HA1.out ?_)
              change Code.wp _ _ _ _ ((w20.alloc (.cells no8.toArray 45)).setRow w20.heap.size AC.toArray)
              clear HN20 HAS HA0 HA1
              generalize (w20.alloc (.cells no8.toArray 45)).setRow w20.heap.size AC.toArray = w21 at HX21 HR21 HB21 HXB21 HYB21 HG21 ⊢
              generalize w20.heap.size = g41 at HG21 ⊢
              go_wp2_with (first
                | (refine wpList_loadAgg rfl 38 (.tmp 36) rfl g36 CO.toArray 38 (0, 0) rfl HX21.out Try.underlying38 HS15.out ?_))
              rw [HCO.out]
              refine (agree_c ock (.slice none 0 0) onm (List.replicate 10 (.slice none 0 0)) false false z16 [] oursL (List.replicate 10 []) _ HR21.out (lrd_none _)).mono ?_
              rintro e w22 ⟨rfl, hb22⟩
              rw [agE_none, ← HCO.out]
              have HA8' := hidden (size_agC oursL (List.replicate 10 []))
              have HA1' := hidden (one_agC oursL (List.replicate 10 []))
              generalize agC oursL (List.replicate 10 []) = AD at HA8' HA1' ⊢
              have HAS' : Hid ((Try.prog.info? 45).map (·.size) = some AD.toArray.size) := by rw [List.size_toArray, HA8'.out]; exact size8
              have HA0' : Hid (no8.toArray.size = AD.toArray.size) := by rw [List.size_toArray, List.size_toArray, HA8'.out]; rfl
              have HN22 := hidden (LBox.new w22 45 no8)
              have hb23 := below_place w22 45 no8 AD
              have hb23' : Below w21.heap.size w21 ((w22.alloc (.cells no8.toArray 45)).setRow w22.heap.size AD.toArray) := hb22.trans (hb23.mono hb22.size)
              have HB23 := hidden (HB21.out.trans (hb23'.mono HB21.out.size))
              have hs1 := run_string (HXB21.out.fresh hb23')
              have hs2 := run_string (HYB21.out.fresh hb23')
              have hc0 := (HG21.out.fresh hb23').cell HAF.out
              have hc7 := (HG21.out.fresh hb23').cell HAL.out
              clear hb22 hb23 hb23' HX21 HR21 HB21 HXB21 HYB21 HG21
              go_upto_region 44 with (refine wpList_store_row rfl 45 (.tmp 43) (.tmp 227) rfl w22.heap.size AD.toArray rfl rfl 45 _ HN22.out HAS'.out HA0'.out HA1'.out ?_)
              change Code.wp _ _ _ _ ((w22.alloc (.cells no8.toArray 45)).setRow w22.heap.size AD.toArray)
              clear HN22 HAS' HA0' HA1'
              generalize (w22.alloc (.cells no8.toArray 45)).setRow w22.heap.size AD.toArray = w23 at HB23 hs1 hs2 hc0 hc7 ⊢
              generalize (⟨XB.toArray⟩ : ByteArray) = XS at hs1 hs2
              generalize XB.length = xl at hs1 hs2 hxc1 hyc1 ⊢
              go_wp2_with fail
              refine (known_c _).mono ?_
              rintro e w30 ⟨rfl, hb30⟩
              have HB30 := hidden (HB23.out.trans (hb30.mono HB23.out.size))
              go_wp2
              go_ret
              exact ⟨rfl, HB30.out⟩
end Go.Proofs.Ytnnhffjajbiicaa
