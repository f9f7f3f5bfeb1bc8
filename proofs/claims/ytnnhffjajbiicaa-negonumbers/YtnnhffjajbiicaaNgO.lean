/- The walk of the law NegoCuts. -/
import Derived.Test.YtnnhffjajbiicaaNgN
import Derived.Deep.Cut
namespace Go.Proofs.Ytnnhffjajbiicaa
open Go Go.RowKit

theorem noL_eq : noL = [.slice none 0 0, .slice none 0 0, .slice none 0 0, .slice none 0 0, .slice none 0 0, .slice none 0 0, .slice none 0 0, .slice none 0 0, .slice none 0 0, .slice none 0 0, .slice none 0 0, .bool false] := rfl
theorem LBox.zero (w : World) : LBox (w.alloc (.cells #[.slice none 0 0, .slice none 0 0, .slice none 0 0, .slice none 0 0, .slice none 0 0, .slice none 0 0, .slice none 0 0, .slice none 0 0, .slice none 0 0, .slice none 0 0, .slice none 0 0, .bool false] 38)) w.heap.size 38 noL := LBox.new w 38 noL
theorem size_lcells {ck : Value} {nm : List Value} {fo : Bool} (h : nm.length = 10) : (Try.prog.info? 38).map (·.size) = some (lcells ck nm fo).toArray.size := by
  rw [sizeL]; simp [lcells_len h]
theorem size_same {ck dk : Value} {nm om : List Value} {fo go : Bool} (h : nm.length = 10) (h' : om.length = 10) : (lcells ck nm fo).toArray.size = (lcells dk om go).toArray.size := by
  simp [lcells_len h, lcells_len h']
theorem noL_same {ck : Value} {nm : List Value} {fo : Bool} (h : nm.length = 10) : noL.toArray.size = (lcells ck nm fo).toArray.size := by
  simp [lcells_len h, noL_len]

set_option maxHeartbeats 1600000 in
set_option maxRecDepth 100000 in
theorem negoCuts_c (s0 : ByteArray) (ck : Value) (nm : List Value) (fo : Bool) (bs : List UInt8) (ls : List (List ByteArray)) (cut : Int) (mv : Value) (mo : List UInt8) (w : World) (h : LRd w ck nm bs ls) (hm : BSl w mv mo) (hml : mo.length ≤ 140737488351232) :
    Calls Try.prog 6 #[.string s0, .agg (lcells ck nm fo).toArray, .int .i64 cut, mv] w fun e w' => e = .returned (.bool true) ∧ Below w.heap.size w w' := by
  obtain ⟨i0, hi, hz0, hz1, hz2⟩ := info_parts Try.infoU8
  have HH := hidden h
  have HM := hidden hm
  have hx0 := LBox.new w 38 (lcells ck nm fo)
  have hbx : Below w.heap.size w (w.alloc (.cells (lcells ck nm fo).toArray 38)) := (Below.refl _ w).alloc (Nat.le_refl _) _
  obtain ⟨ma, mc, rfl, hmc1, hmc2, _⟩ := id hm
  clear h hm
  have HSC := hidden (size_lcells (ck := ck) (fo := fo) HH.out.nl)
  go_enter Try.func6, Try.ntmps6
  go_wp2_with fail
  generalize hCS : lcells ck nm fo = cs at hx0 hbx HSC ⊢
  have HCS := hidden hCS
  clear hCS
  generalize w.alloc (.cells cs.toArray 38) = W1 at hx0 hbx ⊢
  refine (head_c s0 260 (by omega) _).mono ?_
  rintro e w2 ⟨rfl, rfl⟩
  have hss : (s0.extract 0 260).size ≤ 260 := by simp; omega
  generalize s0.extract 0 260 = s at hss ⊢
  go_wp2_with fail
  refine (line_c s _ (by omega)).mono ?_
  rintro e w3 ⟨v3, rfl, hv3, ho3, hb3⟩
  have hx3 := hx0.fresh hb3
  have hb3' := hbx.trans (hb3.mono hbx.size)
  clear hx0 hbx hb3 ho3
  cases hr : rightV s with
  | false =>
    have e1 : lineE s = 12 := by simp [lineE, hr]
    rw [e1]
    clear hv3 e1
    obtain ⟨W, hW⟩ : ∃ W, W = w3 := ⟨_, rfl⟩
    subst hW
    have HX := hidden hx3
    have HB := hidden hb3'
    clear hx3 hb3'
    go_wp2_with (first
      | (refine wpList_loadAgg rfl 38 (.tmp 5) rfl w.heap.size cs.toArray 38 (0, 0) rfl HX.out Try.underlying38 HSC.out ?_))
    rw [← HCS.out]
    refine (short_c ck nm fo bs ls _ (HH.out.fresh HB.out)).mono ?_
    rintro e w6 ⟨ck6, nm6, rfl, hcu6, hrd6, how6, hb6⟩
    have HL6 := hidden (short_tame (ls := ls))
    have HX6 := hidden (few_six (ls := ls))
    have HLL : Hid ((ls.map fun l => fewL l 6 66).length = 10) := hrd6.ll
    generalize (ls.map fun l => fewL l 6 66) = l6 at hrd6 HL6 HX6 HLL
    have hbx6 := HX.out.fresh hb6
    have hbw6 := HB.out.trans (hb6.mono HB.out.size)
    have hWsz : w.heap.size < W.heap.size := HX.out.lt
    have HNB : Hid (∀ i, i < 10 → ∀ k, (nm6.getD i undef).ownBlock = some k → ¬ k = w.heap.size) := fun i hi k e => by have := how6 i hi k e; omega
    have HCK6 : Hid (BSl w ck6 (bs.take 20)) := hcu6 w HH.out.ck
    have hnl6 := hrd6.nl
    have HSZ6 := hidden (size_lcells (ck := ck6) (fo := fo) hnl6)
    have HON6 := hidden (hrd6.one (fo := fo))
    have HOLD : Hid (cs.toArray.size = (lcells ck6 nm6 fo).toArray.size) := by rw [← HCS.out]; exact size_same HH.out.nl hnl6
    have HBX6 := hidden hbx6
    have hrow := hbx6.row (lcells ck6 nm6 fo)
    have hbr := below_setRow hbw6 (Nat.le_refl _) (lcells ck6 nm6 fo).toArray
    have hnm7 : ∀ i, i < 10 → SSl (w6.setRow w.heap.size (lcells ck6 nm6 fo).toArray) (nm6.getD i undef) (l6.getD i []) := fun i hi => (hrd6.nm i hi).keep (keeps_row w6 w.heap.size _) (fun k e => HNB.out i hi k e)
    have HNM7 := hidden hnm7
    have hc7 := hrow.cell (show (lcells ck6 nm6 fo)[0]? = some ck6 from rfl)
    clear hcu6 hrd6 how6 hb6 hbx6 hbw6 HX HB hnm7
    go_wp2_with (refine wpList_store_row rfl 38 (.tmp 5) (.tmp 46) rfl w.heap.size (lcells ck6 nm6 fo).toArray rfl rfl 38 _ HBX6.out HSZ6.out HOLD.out HON6.out ?_)
    generalize w6.setRow w.heap.size (lcells ck6 nm6 fo).toArray = W7 at hrow hbr HNM7 hc7 ⊢
    refine (sized_b 16 (by omega) ck6 (bs.take 20) _ (HCK6.out.fresh hbr)).mono ?_
    rintro e w8 ⟨rfl, hbs8, hb8⟩
    have h16 : (sizedL (bs.take 20) 16).length = 16 := sizedL_length _ _
    generalize sizedL (bs.take 20) 16 = B at hbs8 h16
    have hx8 := hrow.fresh hb8
    have hcl8 := hx8.cell (show (lcells ck6 nm6 fo)[0]? = some ck6 from rfl)
    have hfr8 := hx8.free
    have hszH : w.heap.size < W7.heap.size := hrow.lt
    have hnm8 : ∀ i, i < 10 → SSl w8 (nm6.getD i undef) (l6.getD i []) := fun i hi => (HNM7.out i hi).fresh hb8
    have hb8' := hbr.trans (hb8.mono (Nat.le_of_lt hszH))
    clear hb8
    generalize W7.heap.size = H at hbs8 hszH ⊢
    have hset := keeps_set w8 w.heap.size 0 (.slice (some ⟨H, 0, none⟩) 16 16)
    have hrd9 : LRd (w8.setCell ⟨w.heap.size, 0, none⟩ (.slice (some ⟨H, 0, none⟩) 16 16)) (.slice (some ⟨H, 0, none⟩) 16 16) nm6 B l6 :=
      ⟨hbs8.keep hset (fun k e e2 => by have : H = k := by simpa [Value.ownBlock] using e
                                        omega), hnl6, HLL.out, fun i hi => (hnm8 i hi).keep hset (fun k e => HNB.out i hi k e)⟩
    have hx9 := hx8.set 0 (.slice (some ⟨H, 0, none⟩) 16 16)
    rw [lcells_ck] at hx9
    have hb9 := hb8'.setCell (p := ⟨w.heap.size, 0, none⟩) (Nat.le_refl _) (.slice (some ⟨H, 0, none⟩) 16 16)
    have HRD9 := hidden hrd9
    have HX9 := hidden hx9
    have HB9 := hidden hb9
    have HSZ9 := hidden (size_lcells (ck := .slice (some ⟨H, 0, none⟩) 16 16) (fo := fo) hnl6)
    have H16 := hidden h16
    clear hrd9 hx9 hb9 hset hnm8 hb8' hbs8 hrow hbr hc7 HNM7 hx8 h16
    go_wp2_with (first
      | (refine wpList_loadAgg rfl 38 (.tmp 5) rfl w.heap.size (lcells (.slice (some ⟨H, 0, none⟩) 16 16) nm6 fo).toArray 38 (0, 0) rfl HX9.out Try.underlying38 HSZ9.out ?_))
    generalize w8.setCell ⟨w.heap.size, 0, none⟩ (.slice (some ⟨H, 0, none⟩) 16 16) = W9 at HRD9 HX9 HB9 ⊢
    refine (encode_c _ nm6 fo B l6 _ HRD9.out HL6.out).mono ?_
    rintro e w10 ⟨v10, rfl, hbs10, ho10, hb10⟩
    have HB10 := hidden (HB9.out.trans (hb10.mono HB9.out.size))
    have HEN := hidden (enc_ok (ls := l6) H16.out)
    have hbs10' : (∀ l ∈ l6, rightNs l = true) → BSl w10 v10 (encL B l6 fo) := fun h => by rw [encB_ok H16.out h fo] at hbs10; exact hbs10
    have HBS10 := hidden hbs10'
    obtain ⟨a10, c10, e10, hc101, hc102, _⟩ := id hbs10
    generalize (encB B l6 fo).length = n10 at e10 hc101
    subst e10
    clear hbs10 hbs10' ho10 hb10
    generalize encE B l6 = E at HEN ⊢
    by_cases hE : E = 0
    · have hq : (E != 0) = false := by rw [hE]; rfl
      have hall := HEN.out.1 hE
      have hbs := HBS10.out hall
      have hsix := encL_six (fo := fo) H16.out HLL.out (fun l hl => ⟨hall l hl, HX6.out l hl⟩)
      have HCU : Hid (∀ k, k < (encL B l6 fo).length → decOk ((encL B l6 fo).take k) = false) := fun k hk => dec_cut H16.out HLL.out hall k hk
      have HLO : Hid (∀ C : List UInt8, decOk (encL B l6 fo ++ C) = decide (C.length = 0)) := fun C => dec_longer H16.out HLL.out hall C
      generalize encL B l6 fo = X at hbs hsix HCU HLO
      have hnX : X.length = n10 := by obtain ⟨_, _, e, _⟩ := id hbs; cases e; rfl
      obtain ⟨m10, hm10⟩ : ∃ m, n10 = m + 1 := ⟨n10 - 1, by omega⟩
      have hm10b : m10 ≤ 4000 := by omega
      have hn10b : n10 ≤ 4000 := by omega
      have hn0 : ((n10 : Int) == 0) = false := by rw [beq_eq_false_iff_ne]; omega
      have hn1 : (n10 : Int) - 1 = (m10 : Int) := by omega
      have HM10 := hidden hm10
      have HXL := hidden hnX
      have HSIX := hidden hsix.1
      have HBS := hidden hbs
      clear hE hall hbs hsix HEN HBS10 hnX hm10
      go_wp2_with fail
      refine (within_c cut m10 (by omega) _).mono ?_
      rintro e w11 ⟨k, rfl, hk, rfl⟩
      have hkl : k < X.length := by have := HXL.out; have := HM10.out; omega
      have hk1 : (k : Int) ≤ (c10 : Int) := by have := HM10.out; omega
      have HCK := hidden (HCU.out k hkl)
      have hv11 := HBS.out.head'' (m := k) (by have := HM10.out; omega)
      go_wp2_with fail
      refine (decode_c _ _ _ hv11 (by rw [List.length_take]; have := HSIX.out; omega)).mono ?_
      rintro e w12 ⟨ckd, nmd, rfl, hrdd, _, _, hb12⟩
      have hdE : decE (X.take k) = 12 := by simp [decE, HCK.out]
      rw [hdE]
      generalize decF (X.take k) = fd
      have HSD := hidden (size_lcells (ck := ckd) (fo := fd) hrdd.nl)
      have HOD := hidden (hrdd.one (fo := fd))
      have HND := hidden (noL_same (ck := ckd) (fo := fd) hrdd.nl)
      have HZD := hidden (LBox.zero w12)
      have hb12' := HB10.out.trans (hb12.mono HB10.out.size)
      have hB13 : Below w.heap.size w ((w12.alloc (.cells #[.slice none 0 0, .slice none 0 0, .slice none 0 0, .slice none 0 0, .slice none 0 0, .slice none 0 0, .slice none 0 0, .slice none 0 0, .slice none 0 0, .slice none 0 0, .slice none 0 0, .bool false] 38)).setRow w12.heap.size (lcells ckd nmd fd).toArray) := below_setRow (hb12'.alloc hb12'.size _) hb12'.size _
      have hK13 : Below w12.heap.size w12 ((w12.alloc (.cells #[.slice none 0 0, .slice none 0 0, .slice none 0 0, .slice none 0 0, .slice none 0 0, .slice none 0 0, .slice none 0 0, .slice none 0 0, .slice none 0 0, .slice none 0 0, .slice none 0 0, .bool false] 38)).setRow w12.heap.size (lcells ckd nmd fd).toArray) := below_setRow ((Below.refl _ _).alloc (Nat.le_refl _) _) (Nat.le_refl _) _
      have hBS13 := (HBS.out.fresh hb12).fresh hK13
      clear hrdd hb12 hb12' hK13 hv11 HCU HCK hkl hk1
      go_upto_region 16 with (refine wpList_store_row rfl 38 (.tmp 16) (.tmp 71) rfl w12.heap.size (lcells ckd nmd fd).toArray rfl rfl 38 _ HZD.out HSD.out HND.out HOD.out ?_)
      generalize (w12.alloc (.cells #[.slice none 0 0, .slice none 0 0, .slice none 0 0, .slice none 0 0, .slice none 0 0, .slice none 0 0, .slice none 0 0, .slice none 0 0, .slice none 0 0, .slice none 0 0, .slice none 0 0, .bool false] 38)).setRow w12.heap.size (lcells ckd nmd fd).toArray = W13 at hB13 hBS13 ⊢
      have HB13 := hidden hB13
      have HBS13 := hidden hBS13
      have HM13 := hidden (HM.out.fresh hB13)
      clear hB13 hBS13 HZD HSD HOD HND
      have hxm : X.length + mo.length ≤ 140737488355328 := by have := HSIX.out; omega
      go_wp2_with (at_builtin; refine wpList_append_src _ rfl (.tmp 74) (.tmp 75) 22 22 rfl W13.heap.size 5 i0 _ 1 Try.underlying22 hi hz0 hz1 hz2 rfl _ 0 [] rfl (own_empty W13) _ X.length (bcells X) rfl (HBS13.out.alloc _).src (by unfold maxLen; omega) (by omega) (by simp) (W13.heap.size + 1) (by simp) ?_)
      intro v14 w14 hown14 hgrow14 hnil14 hat14
      obtain ⟨a14, c14, rfl⟩ := ownsRow_shape hown14
      have hb14 : Below W13.heap.size W13 w14 := ((Below.refl _ W13).alloc (Nat.le_refl _) _).grown hgrow14 (by simp) (fun g hg => by simp [Value.ownBlock] at hg; omega)
      have hm14 := HM13.out.fresh hb14
      have HO14 := hidden hown14
      have HB14 := hidden hb14
      clear hown14 hgrow14 hnil14 hat14 hb14
      go_wp2_with (at_builtin; refine wpList_append_src _ rfl (.tmp 76) (.tmp 77) 22 22 rfl W13.heap.size 5 i0 _ 1 Try.underlying22 hi hz0 hz1 hz2 rfl _ _ _ rfl HO14.out _ mo.length (bcells mo) rfl hm14.src (by unfold maxLen; omega) (by omega) HB14.out.size w14.heap.size rfl ?_)
      intro v15 w15 hown15 hgrow15 hnil15 hat15
      have hb15 : Below W13.heap.size W13 w15 := HB14.out.grown hgrow15 HB14.out.size (fun g hg => (HO14.out.lt g hg).1)
      have hbs15 : BSl w15 v15 (X ++ mo) := by
        refine BSl.ofRow (base := W13.heap.size) (n := 0 + X.length + mo.length) ?_
        rw [bcells_append]
        simpa using hown15
      have HB15 := hidden (HB13.out.trans (hb15.mono HB13.out.size))
      clear hown15 hgrow15 hnil15 hat15 hb15 hm14 HO14 HB14
      go_wp2_with fail
      refine (decode_c _ _ _ hbs15 (by rw [List.length_append]; exact hxm)).mono ?_
      rintro e w16 ⟨cke, nme, rfl, hrde, _, _, hb16⟩
      have hdE2 : decE (X ++ mo) = if mo.length = 0 then 0 else 12 := by
        unfold decE
        rw [HLO.out mo]
        simp
      rw [hdE2]
      generalize decF (X ++ mo) = fe
      have HSE := hidden (size_lcells (ck := cke) (fo := fe) hrde.nl)
      have HOE := hidden (hrde.one (fo := fe))
      have HNE := hidden (noL_same (ck := cke) (fo := fe) hrde.nl)
      have HZE := hidden (LBox.zero w16)
      have hb16' := HB15.out.trans (hb16.mono HB15.out.size)
      have hB17 : Below w.heap.size w ((w16.alloc (.cells #[.slice none 0 0, .slice none 0 0, .slice none 0 0, .slice none 0 0, .slice none 0 0, .slice none 0 0, .slice none 0 0, .slice none 0 0, .slice none 0 0, .slice none 0 0, .slice none 0 0, .bool false] 38)).setRow w16.heap.size (lcells cke nme fe).toArray) := below_setRow (hb16'.alloc hb16'.size _) hb16'.size _
      clear hrde hb16 hb16' hbs15
      obtain ⟨ee, hee⟩ : ∃ ee : Int, ee = if mo.length = 0 then 0 else 12 := ⟨_, rfl⟩
      rw [← hee]
      have HEE : Hid ((ee == 0) = ((mo.length : Int) == 0)) := by
        show _ = _
        rw [hee]
        by_cases h0 : mo.length = 0
        · rw [if_pos h0, h0]; rfl
        · have hz : ((mo.length : Int) == 0) = false := by rw [beq_eq_false_iff_ne]; omega
          rw [if_neg h0, hz]; rfl
      clear hee hdE2
      go_upto_region 17 with (refine wpList_store_row rfl 38 (.tmp 18) (.tmp 80) rfl w16.heap.size (lcells cke nme fe).toArray rfl rfl 38 _ HZE.out HSE.out HNE.out HOE.out ?_)
      generalize (w16.alloc (.cells #[.slice none 0 0, .slice none 0 0, .slice none 0 0, .slice none 0 0, .slice none 0 0, .slice none 0 0, .slice none 0 0, .slice none 0 0, .slice none 0 0, .slice none 0 0, .slice none 0 0, .bool false] 38)).setRow w16.heap.size (lcells cke nme fe).toArray = W17 at hB17 ⊢
      cases hbb : (mo.length : Int) == 0 with
      | false =>
        have hef : (ee == 0) = false := by rw [HEE.out, hbb]
        go_wp2_with fail
        refine (known_c _).mono ?_
        rintro e w18 ⟨rfl, hb18⟩
        have HB18 := hidden (hB17.trans (hb18.mono hB17.size))
        go_wp2
        go_ret
        exact ⟨rfl, HB18.out⟩
      | true =>
        have hef : (ee == 0) = true := by rw [HEE.out, hbb]
        go_wp2_with fail
        refine (known_c _).mono ?_
        rintro e w18 ⟨rfl, hb18⟩
        have HB18 := hidden (hB17.trans (hb18.mono hB17.size))
        go_wp2
        go_ret
        exact ⟨rfl, HB18.out⟩
    · have hq : (E != 0) = true := by rw [bne_iff_ne]; exact hE
      go_wp2_with fail
      refine (known_c _).mono ?_
      rintro e w11 ⟨rfl, hb11⟩
      have HB11 := hidden (HB10.out.trans (hb11.mono HB10.out.size))
      go_wp2
      go_ret
      exact ⟨rfl, HB11.out⟩
  | true =>
    have e1 : lineE s = 0 := by simp [lineE, hr]
    rw [e1]
    have hln := lineL_len hr
    have HCUT : Hid (∀ k, k < (lineL s).length → (versionT ((lineL s).take k)).2.2 = 10) := version_cut hr
    generalize lineL s = L at hv3 hln HCUT
    obtain ⟨a3, c3, rfl, hc31, hc32, _⟩ := id hv3
    have hL0 : ((L.length : Int) == 0) = false := by rw [beq_eq_false_iff_ne]; omega
    obtain ⟨m, hm⟩ : ∃ m, L.length = m + 1 := ⟨L.length - 1, by omega⟩
    have HMM := hidden hm
    have hLp : (L.length : Int) - 1 = (m : Int) := by omega
    have hmb : m ≤ 1000 := by omega
    clear hm
    have HV3 := hidden hv3
    have HX := hidden hx3
    have HB := hidden hb3'
    have HLN := hidden hln
    clear hv3 hx3 hb3' e1 hln
    go_wp2_with fail
    refine (within_c cut m (by omega) _).mono ?_
    rintro e w4 ⟨k, rfl, hk, rfl⟩
    have hkl : k < L.length := by have := HMM.out; omega
    have hk1 : (k : Int) ≤ (c3 : Int) := by omega
    have HCK := hidden (HCUT.out k hkl)
    have hv4 := HV3.out.head' (n := k) (by omega)
    go_wp2_with fail
    refine (version_c _ _ _ hv4).mono ?_
    rintro e w5 ⟨rfl, hs5⟩
    have HX5 := hidden (HX.out.still hs5)
    have HB5 := hidden (HB.out.trans (still_below hs5 HB.out.size))
    generalize versionT (L.take k) = T at HCK ⊢
    obtain ⟨t1, t2, t3⟩ := T
    obtain rfl : t3 = 10 := HCK.out
    simp only [versionV]
    clear hs5 hv4 HV3 HCUT HX HB HCK hLp hL0 hk1
    have HX := HX5
    have HB := HB5
    clear HX5 HB5
    obtain ⟨W, hW⟩ : ∃ W, W = w5 := ⟨_, rfl⟩
    subst hW
    go_wp2_with (first
      | (refine wpList_loadAgg rfl 38 (.tmp 5) rfl w.heap.size cs.toArray 38 (0, 0) rfl HX.out Try.underlying38 HSC.out ?_))
    rw [← HCS.out]
    refine (short_c ck nm fo bs ls _ (HH.out.fresh HB.out)).mono ?_
    rintro e w6 ⟨ck6, nm6, rfl, hcu6, hrd6, how6, hb6⟩
    have HL6 := hidden (short_tame (ls := ls))
    have HX6 := hidden (few_six (ls := ls))
    have HLL : Hid ((ls.map fun l => fewL l 6 66).length = 10) := hrd6.ll
    generalize (ls.map fun l => fewL l 6 66) = l6 at hrd6 HL6 HX6 HLL
    have hbx6 := HX.out.fresh hb6
    have hbw6 := HB.out.trans (hb6.mono HB.out.size)
    have hWsz : w.heap.size < W.heap.size := HX.out.lt
    have HNB : Hid (∀ i, i < 10 → ∀ k, (nm6.getD i undef).ownBlock = some k → ¬ k = w.heap.size) := fun i hi k e => by have := how6 i hi k e; omega
    have HCK6 : Hid (BSl w ck6 (bs.take 20)) := hcu6 w HH.out.ck
    have hnl6 := hrd6.nl
    have HSZ6 := hidden (size_lcells (ck := ck6) (fo := fo) hnl6)
    have HON6 := hidden (hrd6.one (fo := fo))
    have HOLD : Hid (cs.toArray.size = (lcells ck6 nm6 fo).toArray.size) := by rw [← HCS.out]; exact size_same HH.out.nl hnl6
    have HBX6 := hidden hbx6
    have hrow := hbx6.row (lcells ck6 nm6 fo)
    have hbr := below_setRow hbw6 (Nat.le_refl _) (lcells ck6 nm6 fo).toArray
    have hnm7 : ∀ i, i < 10 → SSl (w6.setRow w.heap.size (lcells ck6 nm6 fo).toArray) (nm6.getD i undef) (l6.getD i []) := fun i hi => (hrd6.nm i hi).keep (keeps_row w6 w.heap.size _) (fun k e => HNB.out i hi k e)
    have HNM7 := hidden hnm7
    have hc7 := hrow.cell (show (lcells ck6 nm6 fo)[0]? = some ck6 from rfl)
    clear hcu6 hrd6 how6 hb6 hbx6 hbw6 HX HB hnm7
    go_wp2_with (refine wpList_store_row rfl 38 (.tmp 5) (.tmp 46) rfl w.heap.size (lcells ck6 nm6 fo).toArray rfl rfl 38 _ HBX6.out HSZ6.out HOLD.out HON6.out ?_)
    generalize w6.setRow w.heap.size (lcells ck6 nm6 fo).toArray = W7 at hrow hbr HNM7 hc7 ⊢
    refine (sized_b 16 (by omega) ck6 (bs.take 20) _ (HCK6.out.fresh hbr)).mono ?_
    rintro e w8 ⟨rfl, hbs8, hb8⟩
    have h16 : (sizedL (bs.take 20) 16).length = 16 := sizedL_length _ _
    generalize sizedL (bs.take 20) 16 = B at hbs8 h16
    have hx8 := hrow.fresh hb8
    have hcl8 := hx8.cell (show (lcells ck6 nm6 fo)[0]? = some ck6 from rfl)
    have hfr8 := hx8.free
    have hszH : w.heap.size < W7.heap.size := hrow.lt
    have hnm8 : ∀ i, i < 10 → SSl w8 (nm6.getD i undef) (l6.getD i []) := fun i hi => (HNM7.out i hi).fresh hb8
    have hb8' := hbr.trans (hb8.mono (Nat.le_of_lt hszH))
    clear hb8
    generalize W7.heap.size = H at hbs8 hszH ⊢
    have hset := keeps_set w8 w.heap.size 0 (.slice (some ⟨H, 0, none⟩) 16 16)
    have hrd9 : LRd (w8.setCell ⟨w.heap.size, 0, none⟩ (.slice (some ⟨H, 0, none⟩) 16 16)) (.slice (some ⟨H, 0, none⟩) 16 16) nm6 B l6 :=
      ⟨hbs8.keep hset (fun k e e2 => by have : H = k := by simpa [Value.ownBlock] using e
                                        omega), hnl6, HLL.out, fun i hi => (hnm8 i hi).keep hset (fun k e => HNB.out i hi k e)⟩
    have hx9 := hx8.set 0 (.slice (some ⟨H, 0, none⟩) 16 16)
    rw [lcells_ck] at hx9
    have hb9 := hb8'.setCell (p := ⟨w.heap.size, 0, none⟩) (Nat.le_refl _) (.slice (some ⟨H, 0, none⟩) 16 16)
    have HRD9 := hidden hrd9
    have HX9 := hidden hx9
    have HB9 := hidden hb9
    have HSZ9 := hidden (size_lcells (ck := .slice (some ⟨H, 0, none⟩) 16 16) (fo := fo) hnl6)
    have H16 := hidden h16
    clear hrd9 hx9 hb9 hset hnm8 hb8' hbs8 hrow hbr hc7 HNM7 hx8 h16
    go_wp2_with (first
      | (refine wpList_loadAgg rfl 38 (.tmp 5) rfl w.heap.size (lcells (.slice (some ⟨H, 0, none⟩) 16 16) nm6 fo).toArray 38 (0, 0) rfl HX9.out Try.underlying38 HSZ9.out ?_))
    generalize w8.setCell ⟨w.heap.size, 0, none⟩ (.slice (some ⟨H, 0, none⟩) 16 16) = W9 at HRD9 HX9 HB9 ⊢
    refine (encode_c _ nm6 fo B l6 _ HRD9.out HL6.out).mono ?_
    rintro e w10 ⟨v10, rfl, hbs10, ho10, hb10⟩
    have HB10 := hidden (HB9.out.trans (hb10.mono HB9.out.size))
    have HEN := hidden (enc_ok (ls := l6) H16.out)
    have hbs10' : (∀ l ∈ l6, rightNs l = true) → BSl w10 v10 (encL B l6 fo) := fun h => by rw [encB_ok H16.out h fo] at hbs10; exact hbs10
    have HBS10 := hidden hbs10'
    obtain ⟨a10, c10, e10, hc101, hc102, _⟩ := id hbs10
    generalize (encB B l6 fo).length = n10 at e10 hc101
    subst e10
    clear hbs10 hbs10' ho10 hb10
    generalize encE B l6 = E at HEN ⊢
    by_cases hE : E = 0
    · have hq : (E != 0) = false := by rw [hE]; rfl
      have hall := HEN.out.1 hE
      have hbs := HBS10.out hall
      have hsix := encL_six (fo := fo) H16.out HLL.out (fun l hl => ⟨hall l hl, HX6.out l hl⟩)
      have HCU : Hid (∀ k, k < (encL B l6 fo).length → decOk ((encL B l6 fo).take k) = false) := fun k hk => dec_cut H16.out HLL.out hall k hk
      have HLO : Hid (∀ C : List UInt8, decOk (encL B l6 fo ++ C) = decide (C.length = 0)) := fun C => dec_longer H16.out HLL.out hall C
      generalize encL B l6 fo = X at hbs hsix HCU HLO
      have hnX : X.length = n10 := by obtain ⟨_, _, e, _⟩ := id hbs; cases e; rfl
      obtain ⟨m10, hm10⟩ : ∃ m, n10 = m + 1 := ⟨n10 - 1, by omega⟩
      have hm10b : m10 ≤ 4000 := by omega
      have hn10b : n10 ≤ 4000 := by omega
      have hn0 : ((n10 : Int) == 0) = false := by rw [beq_eq_false_iff_ne]; omega
      have hn1 : (n10 : Int) - 1 = (m10 : Int) := by omega
      have HM10 := hidden hm10
      have HXL := hidden hnX
      have HSIX := hidden hsix.1
      have HBS := hidden hbs
      clear hE hall hbs hsix HEN HBS10 hnX hm10
      go_wp2_with fail
      refine (within_c cut m10 (by omega) _).mono ?_
      rintro e w11 ⟨k, rfl, hk, rfl⟩
      have hkl : k < X.length := by have := HXL.out; have := HM10.out; omega
      have hk1 : (k : Int) ≤ (c10 : Int) := by have := HM10.out; omega
      have HCK := hidden (HCU.out k hkl)
      have hv11 := HBS.out.head'' (m := k) (by have := HM10.out; omega)
      go_wp2_with fail
      refine (decode_c _ _ _ hv11 (by rw [List.length_take]; have := HSIX.out; omega)).mono ?_
      rintro e w12 ⟨ckd, nmd, rfl, hrdd, _, _, hb12⟩
      have hdE : decE (X.take k) = 12 := by simp [decE, HCK.out]
      rw [hdE]
      generalize decF (X.take k) = fd
      have HSD := hidden (size_lcells (ck := ckd) (fo := fd) hrdd.nl)
      have HOD := hidden (hrdd.one (fo := fd))
      have HND := hidden (noL_same (ck := ckd) (fo := fd) hrdd.nl)
      have HZD := hidden (LBox.zero w12)
      have hb12' := HB10.out.trans (hb12.mono HB10.out.size)
      have hB13 : Below w.heap.size w ((w12.alloc (.cells #[.slice none 0 0, .slice none 0 0, .slice none 0 0, .slice none 0 0, .slice none 0 0, .slice none 0 0, .slice none 0 0, .slice none 0 0, .slice none 0 0, .slice none 0 0, .slice none 0 0, .bool false] 38)).setRow w12.heap.size (lcells ckd nmd fd).toArray) := below_setRow (hb12'.alloc hb12'.size _) hb12'.size _
      have hK13 : Below w12.heap.size w12 ((w12.alloc (.cells #[.slice none 0 0, .slice none 0 0, .slice none 0 0, .slice none 0 0, .slice none 0 0, .slice none 0 0, .slice none 0 0, .slice none 0 0, .slice none 0 0, .slice none 0 0, .slice none 0 0, .bool false] 38)).setRow w12.heap.size (lcells ckd nmd fd).toArray) := below_setRow ((Below.refl _ _).alloc (Nat.le_refl _) _) (Nat.le_refl _) _
      have hBS13 := (HBS.out.fresh hb12).fresh hK13
      clear hrdd hb12 hb12' hK13 hv11 HCU HCK hkl hk1
      go_upto_region 16 with (refine wpList_store_row rfl 38 (.tmp 16) (.tmp 71) rfl w12.heap.size (lcells ckd nmd fd).toArray rfl rfl 38 _ HZD.out HSD.out HND.out HOD.out ?_)
      generalize (w12.alloc (.cells #[.slice none 0 0, .slice none 0 0, .slice none 0 0, .slice none 0 0, .slice none 0 0, .slice none 0 0, .slice none 0 0, .slice none 0 0, .slice none 0 0, .slice none 0 0, .slice none 0 0, .bool false] 38)).setRow w12.heap.size (lcells ckd nmd fd).toArray = W13 at hB13 hBS13 ⊢
      have HB13 := hidden hB13
      have HBS13 := hidden hBS13
      have HM13 := hidden (HM.out.fresh hB13)
      clear hB13 hBS13 HZD HSD HOD HND
      have hxm : X.length + mo.length ≤ 140737488355328 := by have := HSIX.out; omega
      go_wp2_with (at_builtin; refine wpList_append_src _ rfl (.tmp 74) (.tmp 75) 22 22 rfl W13.heap.size 5 i0 _ 1 Try.underlying22 hi hz0 hz1 hz2 rfl _ 0 [] rfl (own_empty W13) _ X.length (bcells X) rfl (HBS13.out.alloc _).src (by unfold maxLen; omega) (by omega) (by simp) (W13.heap.size + 1) (by simp) ?_)
      intro v14 w14 hown14 hgrow14 hnil14 hat14
      obtain ⟨a14, c14, rfl⟩ := ownsRow_shape hown14
      have hb14 : Below W13.heap.size W13 w14 := ((Below.refl _ W13).alloc (Nat.le_refl _) _).grown hgrow14 (by simp) (fun g hg => by simp [Value.ownBlock] at hg; omega)
      have hm14 := HM13.out.fresh hb14
      have HO14 := hidden hown14
      have HB14 := hidden hb14
      clear hown14 hgrow14 hnil14 hat14 hb14
      go_wp2_with (at_builtin; refine wpList_append_src _ rfl (.tmp 76) (.tmp 77) 22 22 rfl W13.heap.size 5 i0 _ 1 Try.underlying22 hi hz0 hz1 hz2 rfl _ _ _ rfl HO14.out _ mo.length (bcells mo) rfl hm14.src (by unfold maxLen; omega) (by omega) HB14.out.size w14.heap.size rfl ?_)
      intro v15 w15 hown15 hgrow15 hnil15 hat15
      have hb15 : Below W13.heap.size W13 w15 := HB14.out.grown hgrow15 HB14.out.size (fun g hg => (HO14.out.lt g hg).1)
      have hbs15 : BSl w15 v15 (X ++ mo) := by
        refine BSl.ofRow (base := W13.heap.size) (n := 0 + X.length + mo.length) ?_
        rw [bcells_append]
        simpa using hown15
      have HB15 := hidden (HB13.out.trans (hb15.mono HB13.out.size))
      clear hown15 hgrow15 hnil15 hat15 hb15 hm14 HO14 HB14
      go_wp2_with fail
      refine (decode_c _ _ _ hbs15 (by rw [List.length_append]; exact hxm)).mono ?_
      rintro e w16 ⟨cke, nme, rfl, hrde, _, _, hb16⟩
      have hdE2 : decE (X ++ mo) = if mo.length = 0 then 0 else 12 := by
        unfold decE
        rw [HLO.out mo]
        simp
      rw [hdE2]
      generalize decF (X ++ mo) = fe
      have HSE := hidden (size_lcells (ck := cke) (fo := fe) hrde.nl)
      have HOE := hidden (hrde.one (fo := fe))
      have HNE := hidden (noL_same (ck := cke) (fo := fe) hrde.nl)
      have HZE := hidden (LBox.zero w16)
      have hb16' := HB15.out.trans (hb16.mono HB15.out.size)
      have hB17 : Below w.heap.size w ((w16.alloc (.cells #[.slice none 0 0, .slice none 0 0, .slice none 0 0, .slice none 0 0, .slice none 0 0, .slice none 0 0, .slice none 0 0, .slice none 0 0, .slice none 0 0, .slice none 0 0, .slice none 0 0, .bool false] 38)).setRow w16.heap.size (lcells cke nme fe).toArray) := below_setRow (hb16'.alloc hb16'.size _) hb16'.size _
      clear hrde hb16 hb16' hbs15
      obtain ⟨ee, hee⟩ : ∃ ee : Int, ee = if mo.length = 0 then 0 else 12 := ⟨_, rfl⟩
      rw [← hee]
      have HEE : Hid ((ee == 0) = ((mo.length : Int) == 0)) := by
        show _ = _
        rw [hee]
        by_cases h0 : mo.length = 0
        · rw [if_pos h0, h0]; rfl
        · have hz : ((mo.length : Int) == 0) = false := by rw [beq_eq_false_iff_ne]; omega
          rw [if_neg h0, hz]; rfl
      clear hee hdE2
      go_upto_region 17 with (refine wpList_store_row rfl 38 (.tmp 18) (.tmp 80) rfl w16.heap.size (lcells cke nme fe).toArray rfl rfl 38 _ HZE.out HSE.out HNE.out HOE.out ?_)
      generalize (w16.alloc (.cells #[.slice none 0 0, .slice none 0 0, .slice none 0 0, .slice none 0 0, .slice none 0 0, .slice none 0 0, .slice none 0 0, .slice none 0 0, .slice none 0 0, .slice none 0 0, .slice none 0 0, .bool false] 38)).setRow w16.heap.size (lcells cke nme fe).toArray = W17 at hB17 ⊢
      cases hbb : (mo.length : Int) == 0 with
      | false =>
        have hef : (ee == 0) = false := by rw [HEE.out, hbb]
        go_wp2_with fail
        refine (known_c _).mono ?_
        rintro e w18 ⟨rfl, hb18⟩
        have HB18 := hidden (hB17.trans (hb18.mono hB17.size))
        go_wp2
        go_ret
        exact ⟨rfl, HB18.out⟩
      | true =>
        have hef : (ee == 0) = true := by rw [HEE.out, hbb]
        go_wp2_with fail
        refine (known_c _).mono ?_
        rintro e w18 ⟨rfl, hb18⟩
        have HB18 := hidden (hB17.trans (hb18.mono hB17.size))
        go_wp2
        go_ret
        exact ⟨rfl, HB18.out⟩
    · have hq : (E != 0) = true := by rw [bne_iff_ne]; exact hE
      go_wp2_with fail
      refine (known_c _).mono ?_
      rintro e w11 ⟨rfl, hb11⟩
      have HB11 := hidden (HB10.out.trans (hb11.mono HB10.out.size))
      go_wp2
      go_ret
      exact ⟨rfl, HB11.out⟩
end Go.Proofs.Ytnnhffjajbiicaa
