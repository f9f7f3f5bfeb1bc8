/- The walk of the law NegoTells. -/
import Derived.Test.YtnnhffjajbiicaaNhD
import Derived.Deep.CutBlock
import Derived.Deep.CutRange
namespace Go.Proofs.Ytnnhffjajbiicaa
open Go Go.RowKit

set_option maxHeartbeats 1600000 in
set_option maxRecDepth 100000 in
theorem negoTells_c (s0 : ByteArray) (bv : Value) (be0 : List UInt8) (ck : Value) (nm : List Value) (fo : Bool) (bs : List UInt8) (ls : List (List ByteArray)) (dk : Value) (om : List Value) (fp : Bool) (cs : List UInt8) (os : List (List ByteArray)) (whole : Bool) (at0 : Int) (turn : UInt8) (w : World) (hb : BSl w bv be0) (hbb : ∀ k, bv.ownBlock = some k → k < w.heap.size) (h : LRd w ck nm bs ls) (g : LRd w dk om cs os) :
    Calls Try.prog 4 #[.string s0, bv, .agg (lcells ck nm fo).toArray, .agg (lcells dk om fp).toArray, .bool whole, .int .i64 at0, .int .u8 turn.toNat] w fun e w' => e = .returned (.bool true) ∧ Below w.heap.size w w' := by
  obtain ⟨i0, hi, hz0, hz1, hz2⟩ := info_parts Try.infoU8
  have HH := hidden h
  have HG := hidden g
  have HV := hidden hb
  obtain ⟨ba, bc, rfl, hbc1, hbc2, _⟩ := id hb
  have HBB := hidden hbb
  clear h g hb hbb
  have HSC := hidden (size_lcells (ck := ck) (fo := fo) HH.out.nl)
  have HSD := hidden (size_lcells (ck := dk) (fo := fp) HG.out.nl)
  obtain ⟨hx6, hx7, hbx, hsz⟩ := box_two w 38 38 (lcells ck nm fo) (lcells dk om fp)
  go_enter Try.func4, Try.ntmps4
  go_upto_region 1 with fail
  generalize (w.alloc (.cells (lcells ck nm fo).toArray 38)).alloc (.cells (lcells dk om fp).toArray 38) = W at hx6 hx7 hbx hsz ⊢
  go_wp2_with (first
    | (refine wpList_loadAgg rfl 38 (.tmp 9) rfl w.heap.size (lcells ck nm fo).toArray 38 (0, 0) rfl hx6 Try.underlying38 HSC.out ?_))
  refine (short_c ck nm fo bs ls _ (HH.out.fresh hbx)).mono ?_
  rintro e w1 ⟨ck1, nm1, rfl, hcu1, hrd1, how1, hb1⟩
  have HTM1 := hidden (short_tame (ls := ls))
  have HS1 := hidden (size_lcells (ck := ck1) (fo := fo) hrd1.nl)
  have HO1 := hidden (hrd1.one (fo := fo))
  have HE1 := hidden (size_same (ck := ck) (dk := ck1) (fo := fo) (go := fo) HH.out.nl hrd1.nl)
  have HB1 := hidden (hx6.fresh hb1)
  have hsz1 : w.heap.size + 2 ≤ w1.heap.size := by have := hb1.size; omega
  have hrd2 : LRd (w1.setRow w.heap.size (lcells ck1 nm1 fo).toArray) ck1 nm1 (bs.take 20) (ls.map fun l => fewL l 6 66) := by
    have hbb : Below w.heap.size w (w1.setRow w.heap.size (lcells ck1 nm1 fo).toArray) := below_setRow (hbx.trans (hb1.mono hbx.size)) (Nat.le_refl _) _
    exact ⟨(hcu1 w HH.out.ck).fresh hbb, hrd1.nl, hrd1.ll, fun i hi => (hrd1.nm i hi).keep (keeps_row w1 w.heap.size _) (fun k e e2 => by have := how1 i hi k e; omega)⟩
  have hbw2 : Below w.heap.size w (w1.setRow w.heap.size (lcells ck1 nm1 fo).toArray) := below_setRow (hbx.trans (hb1.mono hbx.size)) (Nat.le_refl _) _
  have h62 : LBox (w1.setRow w.heap.size (lcells ck1 nm1 fo).toArray) w.heap.size 38 (lcells ck1 nm1 fo) := HB1.out.row _
  have h72 : LBox (w1.setRow w.heap.size (lcells ck1 nm1 fo).toArray) (w.heap.size + 1) 38 (lcells dk om fp) := (hx7.fresh hb1).keep (keeps_row w1 w.heap.size _) (by omega)
  have HCU : Hid (BSl w ck1 (bs.take 20)) := hcu1 w HH.out.ck
  have HN1 : Hid (∀ i, i < 10 → ∀ k, (nm1.getD i undef).ownBlock = some k → w.heap.size + 2 ≤ k) := fun i hi k e => by have := how1 i hi k e; omega
  have hL1 : (ls.map fun l => fewL l 6 66).length = 10 := hrd1.ll
  generalize (ls.map fun l => fewL l 6 66) = l1 at hrd2 HTM1 hL1
  clear hx6 hx7 hbx hb1 hcu1 hrd1 how1
  go_upto_region 2 with (refine wpList_store_row rfl 38 (.tmp 9) (.tmp 44) rfl w.heap.size (lcells ck1 nm1 fo).toArray rfl rfl 38 _ HB1.out HS1.out HE1.out HO1.out ?_)
  have hszW : w.heap.size + 2 ≤ (w1.setRow w.heap.size (lcells ck1 nm1 fo).toArray).heap.size := by simpa using hsz1
  generalize w1.setRow w.heap.size (lcells ck1 nm1 fo).toArray = w2 at hrd2 hbw2 h62 h72 hszW ⊢
  clear HS1 HO1 HE1 HB1 hsz1
  go_wp2_with (first
    | (refine wpList_loadAgg rfl 38 (.tmp 10) rfl (w.heap.size + 1) (lcells dk om fp).toArray 38 (0, 0) rfl h72 Try.underlying38 HSD.out ?_))
  refine (short_c dk om fp cs os _ (HG.out.fresh hbw2)).mono ?_
  rintro e w3 ⟨dk1, om1, rfl, hcu3, hrd3, how3, hb3⟩
  have HS1 := hidden (size_lcells (ck := dk1) (fo := fp) hrd3.nl)
  have HO1 := hidden (hrd3.one (fo := fp))
  have HE1 := hidden (size_same (ck := dk) (dk := dk1) (fo := fp) (go := fp) HG.out.nl hrd3.nl)
  have HB1 := hidden (h72.fresh hb3)
  have hsz3 : w.heap.size + 2 ≤ w3.heap.size := Nat.le_trans hszW hb3.size
  have h63 : LBox (w3.setRow (w.heap.size + 1) (lcells dk1 om1 fp).toArray) w.heap.size 38 (lcells ck1 nm1 fo) := (h62.fresh hb3).keep (keeps_row w3 (w.heap.size + 1) _) (by omega)
  have h73 : LBox (w3.setRow (w.heap.size + 1) (lcells dk1 om1 fp).toArray) (w.heap.size + 1) 38 (lcells dk1 om1 fp) := HB1.out.row _
  have hbw4 : Below w.heap.size w (w3.setRow (w.heap.size + 1) (lcells dk1 om1 fp).toArray) := below_setRow (hbw2.trans (hb3.mono hbw2.size)) (by omega) _
  have hnm4 : ∀ i, i < 10 → SSl (w3.setRow (w.heap.size + 1) (lcells dk1 om1 fp).toArray) (nm1.getD i undef) (l1.getD i []) := fun i hi => ((hrd2.fresh hb3).nm i hi).keep (keeps_row w3 (w.heap.size + 1) _) (fun k e e2 => by have := HN1.out i hi k e; omega)
  have hom4 : ∀ i, i < 10 → SSl (w3.setRow (w.heap.size + 1) (lcells dk1 om1 fp).toArray) (om1.getD i undef) ((os.map fun l => fewL l 6 66).getD i []) := fun i hi => (hrd3.nm i hi).keep (keeps_row w3 (w.heap.size + 1) _) (fun k e e2 => by have := how3 i hi k e; omega)
  have HON : Hid (∀ i, i < 10 → ∀ k, (om1.getD i undef).ownBlock = some k → w.heap.size + 2 ≤ k) := fun i hi k e => by have := how3 i hi k e; omega
  have hnl1 := hrd2.nl
  have hol1 := hrd3.nl
  have hoL : (os.map fun l => fewL l 6 66).length = 10 := hrd3.ll
  have HCD : Hid (BSl w dk1 (cs.take 20)) := hcu3 w HG.out.ck
  have hcd4 : BSl (w3.setRow (w.heap.size + 1) (lcells dk1 om1 fp).toArray) dk1 (cs.take 20) := (hcu3 w HG.out.ck).fresh hbw4
  generalize (os.map fun l => fewL l 6 66) = o1 at hom4 hoL
  clear h72 h62 hbw2 hb3 hcu3 hrd3 how3 hrd2 hszW
  go_upto_region 3 with (refine wpList_store_row rfl 38 (.tmp 10) (.tmp 46) rfl (w.heap.size + 1) (lcells dk1 om1 fp).toArray rfl rfl 38 _ HB1.out HS1.out HE1.out HO1.out ?_)
  have hszW : w.heap.size + 2 ≤ (w3.setRow (w.heap.size + 1) (lcells dk1 om1 fp).toArray).heap.size := by simpa using hsz3
  generalize w3.setRow (w.heap.size + 1) (lcells dk1 om1 fp).toArray = w4 at h63 h73 hbw4 hnm4 hom4 hcd4 hszW ⊢
  have TW : TT w w4 ck1 nm1 fo (bs.take 20) l1 dk1 om1 fp (cs.take 20) o1 := ⟨h63, h73, ⟨HCU.out.fresh hbw4, hnl1, hL1, hnm4⟩, ⟨hcd4, hol1, hoL, hom4⟩, hbw4⟩
  have HTW := hidden TW
  have hc4 := h63.cell (show (lcells ck1 nm1 fo)[0]? = some ck1 from rfl)
  have HNM4 := hidden hnm4
  clear TW h63 h73 hnm4 hom4 hcd4 HB1 HS1 HO1 HE1 hL1 hol1 hsz3 hoL
  go_upto_if 47 with fail
  go_cut [31] from 48 to 51 (fun _ wx => ∃ ck2 B, B.length ≤ 20 ∧ TT w wx ck2 nm1 fo B l1 dk1 om1 fp (cs.take 20) o1)
  case first =>
    cases whole with
    | false =>
      go_wp2_with fail
      go_meet
      case rel => exact ⟨ck1, bs.take 20, by rw [List.length_take]; omega, HTW.out⟩
    | true =>
      go_wp2_with fail
      refine (sized_b 16 (by omega) ck1 (bs.take 20) _ (HCU.out.fresh hbw4)).mono ?_
      rintro e w5 ⟨rfl, hbs5, hb5⟩
      have h16 : (sizedL (bs.take 20) 16).length = 16 := sizedL_length _ _
      generalize sizedL (bs.take 20) 16 = B at hbs5 h16
      have hx5 := HTW.out.b9.fresh hb5
      have hcl5 := hx5.cell (show (lcells ck1 nm1 fo)[0]? = some ck1 from rfl)
      have hfr5 := hx5.free
      have hset := keeps_set w5 w.heap.size 0 (.slice (some ⟨w4.heap.size, 0, none⟩) 16 16)
      have h65 := hx5.set 0 (.slice (some ⟨w4.heap.size, 0, none⟩) 16 16)
      rw [lcells_ck] at h65
      have hbw6 := (hbw4.trans (hb5.mono hbw4.size)).setCell (p := ⟨w.heap.size, 0, none⟩) (Nat.le_refl _) (.slice (some ⟨w4.heap.size, 0, none⟩) 16 16)
      have hcd6 : BSl (w5.setCell ⟨w.heap.size, 0, none⟩ (.slice (some ⟨w4.heap.size, 0, none⟩) 16 16)) dk1 (cs.take 20) := HCD.out.fresh hbw6
      have hck6 : BSl (w5.setCell ⟨w.heap.size, 0, none⟩ (.slice (some ⟨w4.heap.size, 0, none⟩) 16 16)) (.slice (some ⟨w4.heap.size, 0, none⟩) 16 16) B := hbs5.keep hset (fun k e e2 => by
        have : w4.heap.size = k := by simpa [Value.ownBlock] using e
        omega)
      have TW : TT w (w5.setCell ⟨w.heap.size, 0, none⟩ (.slice (some ⟨w4.heap.size, 0, none⟩) 16 16)) (.slice (some ⟨w4.heap.size, 0, none⟩) 16 16) nm1 fo B l1 dk1 om1 fp (cs.take 20) o1 := by
        refine ⟨h65, (HTW.out.b10.fresh hb5).other (by omega) _ _, ⟨hck6, HTW.out.rd.nl, HTW.out.rd.ll, fun i hi => ((HTW.out.rd.nm i hi).fresh hb5).keep hset (fun k e e2 => by have := HN1.out i hi k e; omega)⟩, ⟨hcd6, HTW.out.ro.nl, HTW.out.ro.ll, fun i hi => ((HTW.out.ro.nm i hi).fresh hb5).keep hset (fun k e e2 => by have := HON.out i hi k e; omega)⟩, hbw6⟩
      have HTW6 := hidden TW
      have H16 := hidden h16
      clear TW h65 hbw6 hset hx5 hbs5 hb5 h16 hcd6 hck6
      go_wp2_with fail
      go_meet
      case rel => exact ⟨_, B, by have := H16.out; omega, HTW6.out⟩
  case rest =>
    obtain ⟨ck2, B, hB20, htw⟩ := hcut
    have HT := hidden htw
    clear htw HTW hc4 HNM4 HCU HCD HN1 HON hbw4 hszW hnl1
    have HBE : Hid (BSl w (.slice ba (min be0.length 400) bc) (be0.take 400)) := HV.out.cutS 400
    have HBK : Hid (∀ k, (Value.slice ba (min be0.length 400) bc).ownBlock = some k → k < w.heap.size) := fun k e => HBB.out k (by cases ba <;> exact e)
    have hmn : min be0.length 400 = (be0.take 400).length := by rw [List.length_take]; omega
    have hbl : (be0.take 400).length ≤ 400 := by rw [List.length_take]; omega
    have hbc3 : (be0.take 400).length ≤ bc := by rw [List.length_take]; omega
    go_wp2_with fail
    refine (head_c s0 300 (by omega) _).mono ?_
    rintro e w5 ⟨rfl, rfl⟩
    have hss : (s0.extract 0 300).size ≤ 300 := by simp; omega
    generalize s0.extract 0 300 = S at hss ⊢
    go_wp2_with fail
    refine (cut_s 400 (by omega) ba be0.length bc hbc1 _).mono ?_
    rintro e w6 ⟨rfl, rfl⟩
    rw [hmn] at HBE HBK ⊢
    generalize be0.take 400 = be at HBE HBK hbl hbc3 ⊢
    clear hmn HV HBB hbc1
    go_wp2_with fail
    refine (line_c S _ (by omega)).mono ?_
    rintro e w7 ⟨p, rfl, hp7, _, hb7⟩
    have HT7 := hidden (HT.out.fresh hb7)
    clear hb7 HT
    go_wp2_with fail
    refine (rline_c S _ (by omega)).mono ?_
    rintro e w8 ⟨q, rfl, hq8, hb8⟩
    have HT8 := hidden (HT7.out.fresh hb8)
    have HP8 := hidden (hp7.fresh hb8)
    have HQ8 := hidden hq8
    clear hb8 HT7 hp7 hq8
    generalize lineL S = PL at HP8 HQ8
    generalize lineE S = pe
    obtain ⟨pa, pc, rfl, hpc1, hpc2, _⟩ := id HP8.out
    obtain ⟨qa, qc, rfl, hqc1, hqc2, _⟩ := id HQ8.out
    go_wp2_with fail
    refine (version_c _ be _ (HBE.out.fresh HT8.out.bel)).mono ?_
    rintro e w9 ⟨rfl, hs9⟩
    have HVR : Hid (∀ V, BSl V (.slice ba be.length bc) be → Calls Try.prog 12 #[.slice ba be.length bc] V fun e w' => e = .returned (versionV (versionT be)) ∧ w' = V) := fun V hV => rversion_c _ be V hV
    generalize versionT be = vt at HVR
    obtain ⟨vs1, vk, ve⟩ := vt
    simp only [versionV] at HVR ⊢
    have HT9 := hidden (HT8.out.still hs9)
    have HP9 := hidden (HP8.out.fresh (still_below hs9 (Nat.le_refl _)))
    have HQ9 := hidden (HQ8.out.fresh (still_below hs9 (Nat.le_refl _)))
    clear hs9 HT8 HP8 HQ8
    go_wp2_with fail
    refine (HVR.out _ (HBE.out.fresh HT9.out.bel)).mono ?_
    rintro e w10 ⟨rfl, rfl⟩
    clear HVR
    have HSZ := hidden (size_lcells (ck := ck2) (fo := fo) HT9.out.rd.nl)
    have HSY := hidden (size_lcells (ck := dk1) (fo := fp) HT9.out.ro.nl)
    go_wp2_with (first
      | (refine wpList_loadAgg rfl 38 (.tmp 9) rfl w.heap.size (lcells ck2 nm1 fo).toArray 38 (0, 0) rfl HT9.out.b9 Try.underlying38 HSZ.out ?_))
    refine (encode_c ck2 nm1 fo B l1 _ HT9.out.rd HTM1.out).mono ?_
    rintro e w11 ⟨x, rfl, hx11, _, hb11⟩
    have HT11 := hidden (HT9.out.fresh hb11)
    have HP11 := hidden (HP9.out.fresh hb11)
    have HQ11 := hidden (HQ9.out.fresh hb11)
    clear hb11 HT9 HP9 HQ9
    go_wp2_with (first
      | (refine wpList_loadAgg rfl 38 (.tmp 9) rfl w.heap.size (lcells ck2 nm1 fo).toArray 38 (0, 0) rfl HT11.out.b9 Try.underlying38 HSZ.out ?_))
    refine (in_c ck2 nm1 fo B l1 _ HT11.out.rd).mono ?_
    rintro e w12 ⟨rfl, hb12⟩
    have HT12 := hidden (HT11.out.fresh hb12)
    have HP12 := hidden (HP11.out.fresh hb12)
    have HQ12 := hidden (HQ11.out.fresh hb12)
    have HX12 := hidden (hx11.fresh hb12)
    clear hb12 HT11 HP11 HQ11 hx11
    go_wp2_with fail
    refine (rencode_c ck2 nm1 fo B l1 _ HT12.out.rd HTM1.out).mono ?_
    rintro e w13 ⟨y, rfl, hy13, hb13⟩
    have HY13 : Hid (w13.ownsRow (w.heap.size + 2) 5 1 y (encB B l1 fo).length (bcells (encB B l1 fo))) := own_le hy13 (Nat.succ_le_of_lt HT12.out.b10.lt)
    have HL13 : Hid (Tel w w13 ck2 nm1 fo B l1 dk1 om1 fp (cs.take 20) o1 (.slice pa PL.length pc) (.slice qa PL.length qc) x y PL (encB B l1 fo)) := ⟨HT12.out.fresh hb13, HP12.out.fresh hb13, HQ12.out.fresh hb13, HX12.out.fresh hb13, YOwn.of HY13.out⟩
    have hel := encB_len (bs := B) (ls := l1) (fo := fo) HT12.out.rd.ll
    clear hb13 HT12 HP12 HQ12 HX12 hy13 HY13
    generalize encE B l1 = xe
    generalize encB B l1 fo = XB at HL13 hel
    obtain ⟨xa, xc, rfl, hxc1, hxc2, _⟩ := id HL13.out.x
    obtain ⟨ya, yc, rfl, hyc1, hyc2, _⟩ := id HL13.out.y.bsl
    go_wp2_with (first
      | (refine wpList_loadAgg rfl 38 (.tmp 9) rfl w.heap.size (lcells ck2 nm1 fo).toArray 38 (0, 0) rfl HL13.out.tt.b9 Try.underlying38 HSZ.out ?_)
      | (refine wpList_loadAgg rfl 38 (.tmp 10) rfl (w.heap.size + 1) (lcells dk1 om1 fp).toArray 38 (0, 0) rfl HL13.out.tt.b10 Try.underlying38 HSY.out ?_))
    refine (agree_c ck2 dk1 nm1 om1 fo fp B (cs.take 20) l1 o1 _ HL13.out.tt.rd HL13.out.tt.ro).mono ?_
    rintro e w14 ⟨rfl, hb14⟩
    have HL14 := hidden (HL13.out.fresh hb14)
    have HA8 := hidden (size_agC l1 o1)
    have HA1 := hidden (one_agC l1 o1)
    have HAG : Hid (∀ V, LRd V ck2 nm1 B l1 → LRd V dk1 om1 (cs.take 20) o1 → Calls Try.prog 24 #[.agg (lcells ck2 nm1 fo).toArray, .agg (lcells dk1 om1 fp).toArray] V fun e w' => e = .returned (.tuple #[.agg (agC l1 o1).toArray, .int .i64 (agE l1 o1)]) ∧ Below V.heap.size V w') := fun V h1 h2 => ragree_c ck2 dk1 nm1 om1 fo fp B (cs.take 20) l1 o1 V h1 h2
    have HNE : Hid (∀ V, (binOp .neq 45 (.agg (agC l1 o1).toArray) (.agg (agC l1 o1).toArray)).run Try.prog V = .ok (.bool false) V) := agC_ne l1 o1
    generalize agC l1 o1 = AC at HA8 HA1 HAG HNE
    generalize agE l1 o1 = ae at HAG
    have HAS : Hid ((Try.prog.info? 45).map (·.size) = some AC.toArray.size) := by rw [List.size_toArray, HA8.out]; exact size8
    have HA0 : Hid (no8.toArray.size = AC.toArray.size) := by rw [List.size_toArray, List.size_toArray, HA8.out]; rfl
    have HN8 := hidden (LBox.new w14 45 no8)
    clear hb14 HL13
    go_wp2_with (first
      | (refine wpList_store_row rfl 45 (.tmp 29) (.tmp 93) rfl w14.heap.size AC.toArray rfl rfl 45 _ HN8.out HAS.out HA0.out HA1.out ?_))
    change Code.wp _ _ _ _ ((w14.alloc (.cells no8.toArray 45)).setRow w14.heap.size AC.toArray)
    have HL15 := hidden (HL14.out.fresh (below_place w14 45 no8 AC))
    have HB15 := hidden (HN8.out.row AC)
    have HGA : Hid (w.heap.size + 2 ≤ w14.heap.size) := Nat.succ_le_of_lt HL14.out.tt.b10.lt
    generalize (w14.alloc (.cells no8.toArray 45)).setRow w14.heap.size AC.toArray = w15 at HL15 HB15 ⊢
    generalize w14.heap.size = ga at HB15 HGA ⊢
    refine region_place (fun i => [(.agg (lcells ck2 nm1 fo).toArray), (.agg (lcells ck2 nm1 fo).toArray), (.agg (lcells dk1 om1 fp).toArray), (.agg (lcells dk1 om1 fp).toArray), (.tuple #[.agg AC.toArray, .int .i64 ae]), (.tuple #[.agg AC.toArray, .int .i64 ae]), (.agg AC.toArray), (.int .i64 ae), undef, undef, (.int .i64 ae)].getD i undef) 45 no8.toArray AC.toArray 31 101 (by kernel_rfl) (by kernel_rfl) zero8 HAS.out HA0.out HA1.out rfl (by kernel_rfl) (by kernel_rfl) (fun o ho => by cases ho; exact ⟨(by kernel_rfl), (by kernel_rfl)⟩) (fun vs => ⟨(by kernel_rfl), (by kernel_rfl)⟩) ?_ ?_
    · refine ⟨fun _ _ vs w1 hb hd => StepG.plain (by kernel_rfl) (gives_loadAgg (x := .tmp 9) (cs := (lcells ck2 nm1 fo).toArray) (by kernel_rfl) (by kernel_rfl) (HL15.out.fresh hb).tt.b9 Try.underlying38 HSZ.out ⟨Ex.refl _, rfl⟩), ?_⟩
      refine ⟨fun _ _ vs w1 hb hd => StepG.plain (by kernel_rfl) (gives_call (f := 23) (xs := #[.tmp 96]) (ts := #[38]) (vs := #[vs 0]) (by kernel_rfl) (by kernel_rfl) (by kernel_rfl) Try.func23 (by kernel_rfl) (by kernel_rfl) (by rw [show vs 0 = (.agg (lcells ck2 nm1 fo).toArray) from hd 0 (by kernel_rfl) (by omega) (by omega)]; exact (in_c ck2 nm1 fo B l1 _ (HL15.out.fresh hb).tt.rd).mono fun e w2 ⟨h1, h2⟩ => ⟨_, h1, h2, rfl⟩)), ?_⟩
      refine ⟨fun _ _ vs w1 hb hd => StepG.plain (by kernel_rfl) (gives_loadAgg (x := .tmp 10) (cs := (lcells dk1 om1 fp).toArray) (by kernel_rfl) (by kernel_rfl) (HL15.out.fresh hb).tt.b10 Try.underlying38 HSY.out ⟨Ex.refl _, rfl⟩), ?_⟩
      refine ⟨fun _ _ vs w1 hb hd => StepG.plain (by kernel_rfl) (gives_call (f := 23) (xs := #[.tmp 98]) (ts := #[38]) (vs := #[vs 2]) (by kernel_rfl) (by kernel_rfl) (by kernel_rfl) Try.func23 (by kernel_rfl) (by kernel_rfl) (by rw [show vs 2 = (.agg (lcells dk1 om1 fp).toArray) from hd 2 (by kernel_rfl) (by omega) (by omega)]; exact (in_c dk1 om1 fp (cs.take 20) o1 _ (HL15.out.fresh hb).tt.ro).mono fun e w2 ⟨h1, h2⟩ => ⟨_, h1, h2, rfl⟩)), ?_⟩
      refine ⟨fun _ _ vs w1 hb hd => StepG.plain (by kernel_rfl) (gives_call (f := 24) (xs := #[.tmp 97, .tmp 99]) (ts := #[43, 43]) (vs := #[vs 1, vs 3]) (by kernel_rfl) (by kernel_rfl) (by kernel_rfl) Try.func24 (by kernel_rfl) (by kernel_rfl) (by rw [show vs 1 = (.agg (lcells ck2 nm1 fo).toArray) from hd 1 (by kernel_rfl) (by omega) (by omega), show vs 3 = (.agg (lcells dk1 om1 fp).toArray) from hd 3 (by kernel_rfl) (by omega) (by omega)]; exact (HAG.out _ (HL15.out.fresh hb).tt.rd (HL15.out.fresh hb).tt.ro).mono fun e w2 ⟨h1, h2⟩ => ⟨_, h1, h2, rfl⟩)), ?_⟩
      refine ⟨fun _ _ vs w1 hb hd => StepG.plain (by kernel_rfl) (gives_move (x := .tmp 100) (v := (.tuple #[.agg AC.toArray, .int .i64 ae])) (by kernel_rfl) (Eq.trans (b := vs 4) (by kernel_rfl) (show vs 4 = (.tuple #[.agg AC.toArray, .int .i64 ae]) from hd 4 (by kernel_rfl) (by omega) (by omega))) ⟨Ex.refl _, rfl⟩), ?_⟩
      refine ⟨fun _ _ vs w1 hb hd => StepG.plain (by kernel_rfl) (gives_ext (x := .tmp 95) (i := 0) (us := #[.agg AC.toArray, .int .i64 ae]) (v := .agg AC.toArray) (by kernel_rfl) (Eq.trans (b := vs 5) (by kernel_rfl) (show vs 5 = (.tuple #[.agg AC.toArray, .int .i64 ae]) from hd 5 (by kernel_rfl) (by omega) (by omega))) rfl ⟨Ex.refl _, rfl⟩), ?_⟩
      refine ⟨fun _ _ vs w1 hb hd => StepG.plain (by kernel_rfl) (gives_ext (x := .tmp 95) (i := 1) (us := #[.agg AC.toArray, .int .i64 ae]) (v := .int .i64 ae) (by kernel_rfl) (Eq.trans (b := vs 5) (by kernel_rfl) (show vs 5 = (.tuple #[.agg AC.toArray, .int .i64 ae]) from hd 5 (by kernel_rfl) (by omega) (by omega))) rfl ⟨Ex.refl _, rfl⟩), ?_⟩
      refine ⟨fun h _ => absurd rfl h, ?_⟩
      refine ⟨fun _ h => absurd rfl h, ?_⟩
      refine ⟨fun _ _ vs w1 hb hd => StepG.plain (by kernel_rfl) (gives_assign (x := .tmp 102) (v := .int .i64 ae) (by kernel_rfl) (Eq.trans (b := vs 7) (by kernel_rfl) (show vs 7 = (.int .i64 ae) from hd 7 (by kernel_rfl) (by omega) (by omega))) ⟨Ex.refl _, rfl⟩), ?_⟩
      exact trivial
    intro vs w16 gb hb16 hX h8 hgb hg16
    have e0 : vs 0 = (.agg (lcells ck2 nm1 fo).toArray) := hX 0 (by omega) (by omega) (by omega)
    have e1 : vs 1 = (.agg (lcells ck2 nm1 fo).toArray) := hX 1 (by omega) (by omega) (by omega)
    have e2 : vs 2 = (.agg (lcells dk1 om1 fp).toArray) := hX 2 (by omega) (by omega) (by omega)
    have e3 : vs 3 = (.agg (lcells dk1 om1 fp).toArray) := hX 3 (by omega) (by omega) (by omega)
    have e4 : vs 4 = (.tuple #[.agg AC.toArray, .int .i64 ae]) := hX 4 (by omega) (by omega) (by omega)
    have e5 : vs 5 = (.tuple #[.agg AC.toArray, .int .i64 ae]) := hX 5 (by omega) (by omega) (by omega)
    have e6 : vs 6 = (.agg AC.toArray) := hX 6 (by omega) (by omega) (by omega)
    have e7 : vs 7 = (.int .i64 ae) := hX 7 (by omega) (by omega) (by omega)
    have e10 : vs 10 = (.int .i64 ae) := hX 10 (by omega) (by omega) (by omega)
    simp only [List.length_cons, List.length_nil, actsTo, if_true, dstOf, List.getElem?_toArray, List.getElem?_cons_succ, List.getElem?_cons_zero, Option.bind_some, Act.put, List.setIfInBounds_toArray, List.set_cons_zero, List.set_cons_succ]
    simp only [e0, e1, e2, e3, e4, e5, e6, e7, h8, e10]
    have HL16 := hidden (HL15.out.fresh hb16)
    have HB16 := hidden (HB15.out.fresh hb16)
    have HC16 : Hid (LBox w16 gb 45 AC) := hg16
    clear hX e0 e1 e2 e3 e4 e5 e6 e7 h8 e10 hb16 hg16 HL15 HB15 vs HAG HA0 HN8 HL14
    have hc9 : w16.cell? ⟨w.heap.size, 1, none⟩ = some (nm1.getD 0 undef) := HL16.out.tt.b9.cell (lcells_at HL16.out.tt.rd.nl (i := 0) (by omega))
    have hc10 : w16.cell? ⟨w.heap.size + 1, 1, none⟩ = some (om1.getD 0 undef) := HL16.out.tt.b10.cell (lcells_at HL16.out.tt.ro.nl (i := 0) (by omega))
    have s1 := HL16.out.tt.rd.nm 0 (by omega)
    have s2 := HL16.out.tt.ro.nm 0 (by omega)
    generalize nm1.getD 0 undef = v1 at hc9 s1
    generalize om1.getD 0 undef = v2 at hc10 s2
    generalize l1.getD 0 [] = cl at s1
    generalize o1.getD 0 [] = sv at s2
    obtain ⟨a1, p1, rfl, hp1, hp1m, _⟩ := id s1
    obtain ⟨a2, p2, rfl, hp2, hp2m, _⟩ := id s2
    obtain ⟨zs, ze, hzx⟩ : ∃ zs ze, chosenV (chooseO cl sv) = .tuple #[.string zs, .int .i64 ze] := by cases chooseO cl sv <;> exact ⟨_, _, rfl⟩
    have HZX := hidden hzx
    clear hzx
    have HS1 := hidden s1
    have HS2 := hidden s2
    clear s1 s2
    go_wp2_with fail
    refine (choose_c _ _ cl sv _ HS1.out HS2.out).mono ?_
    rintro e w17 ⟨rfl, rfl⟩
    rw [HZX.out]
    go_wp2_with fail
    refine (rchoose_c _ _ cl sv _ HS1.out HS2.out).mono ?_
    rintro e w18 ⟨rfl, m18, rfl⟩
    rw [HZX.out]
    have HL18 : Hid (Tel w (w17.drewN m18) ck2 nm1 fo B l1 dk1 om1 fp (cs.take 20) o1 (.slice pa PL.length pc) (.slice qa PL.length qc) (.slice xa XB.length xc) (.slice ya XB.length yc) PL XB) := HL16.out.fresh (still_below ((Keeps.refl _ _).drewN m18) (Nat.le_refl _))
    have HB18 : Hid (LBox (w17.drewN m18) ga 45 AC) := HB16.out
    have HC18 : Hid (LBox (w17.drewN m18) gb 45 AC) := HC16.out
    clear HL16 HB16 HC16 HS1 HS2 HZX hc9 hc10
    generalize w17.drewN m18 = w18 at HL18 HB18 HC18 ⊢
    go_wp2_with fail
    simp only [List.append_eq, List.cons_append, List.nil_append]
    refine region_free [(.val (.slice pa PL.length pc)), (.val (.string ⟨(List.toArray PL)⟩)), (.val (.slice qa PL.length qc)), (.val (.string ⟨(List.toArray PL)⟩)), (.val (.bool false)), (.val (.bool false)), (.val (.int .i64 pe)), (.val (.int .i64 pe)), (.val (.bool false)), (.val (.bool false)), (.val (.bool false)), (.val (.string vs1)), (.val (.string vs1)), (.val (.bool false)), (.val (.bool false)), (.val (.bool false)), (.val (.int .i64 (vk : Int))), (.val (.int .i64 (vk : Int))), (.val (.bool false)), (.val (.bool false)), (.val (.bool false)), (.val (.int .i64 ve)), (.val (.int .i64 ve)), (.val (.bool false)), (.val (.bool false)), (.val (.bool false)), (.val (.slice xa XB.length xc)), (.val (.string ⟨(List.toArray XB)⟩)), (.val (.slice ya XB.length yc)), (.val (.string ⟨(List.toArray XB)⟩)), (.val (.bool false)), (.val (.bool false)), (.val (.bool false)), (.val (.int .i64 xe)), (.val (.int .i64 xe)), (.val (.bool false)), (.val (.bool false)), (.val (.bool false)), (.val (.agg AC.toArray)), (.val (.agg AC.toArray)), (.val (.bool false)), (.val (.bool false)), (.val (.bool false)), (.val (.int .i64 ae)), (.val (.int .i64 ae)), (.val (.bool false)), (.val (.bool false)), (.val (.bool false)), (.val (.string zs)), (.val (.string zs)), (.val (.bool false)), (.val (.bool false)), (.val (.bool false)), (.val (.int .i64 ze)), (.val (.int .i64 ze)), (.val (.bool false)), (.val (.bool false)), (.val (.bool false)), (.val (.pointer (some ⟨w.heap.size, 0, none⟩))), (.val ck2), (.ours B), (.val (.pointer (some ⟨w.heap.size, 0, none⟩))), (.val ck2), (.ours B), (.val (.bool true)), (.val (.bool false)), (.val (.bool false))] (by kernel_rfl) ?_ ?_
    · refine req_cons (.val (.slice pa PL.length pc)) (by kernel_rfl) (fun vs w1 he hd => StepG.plain (by kernel_rfl) (gives_move (x := (.tmp 15)) (v := (.slice pa PL.length pc)) (by kernel_rfl) (Eq.trans (off_eval 15 (by kernel_rfl)) (by kernel_rfl)) ⟨Ex.refl _, rfl⟩)) ?_
      refine req_cons (.val (.string ⟨(List.toArray PL)⟩)) (by kernel_rfl) (fun vs w1 he hd => StepG.plain (by kernel_rfl) (gives_str (x := (.tmp 123)) (v := (.slice pa PL.length pc)) (xs := PL) (by kernel_rfl) (Eq.trans (b := vs 0) (at_eval 123 0 (by kernel_rfl) (by kernel_rfl)) (hd 0 (.val (.slice pa PL.length pc)) (by kernel_rfl) (by kernel_rfl))) ((HL18.out.fresh he).p) ⟨Ex.refl _, rfl⟩)) ?_
      refine req_cons (.val (.slice qa PL.length qc)) (by kernel_rfl) (fun vs w1 he hd => StepG.plain (by kernel_rfl) (gives_move (x := (.tmp 17)) (v := (.slice qa PL.length qc)) (by kernel_rfl) (Eq.trans (off_eval 17 (by kernel_rfl)) (by kernel_rfl)) ⟨Ex.refl _, rfl⟩)) ?_
      refine req_cons (.val (.string ⟨(List.toArray PL)⟩)) (by kernel_rfl) (fun vs w1 he hd => StepG.plain (by kernel_rfl) (gives_str (x := (.tmp 125)) (v := (.slice qa PL.length qc)) (xs := PL) (by kernel_rfl) (Eq.trans (b := vs 2) (at_eval 125 2 (by kernel_rfl) (by kernel_rfl)) (hd 2 (.val (.slice qa PL.length qc)) (by kernel_rfl) (by kernel_rfl))) ((HL18.out.fresh he).q) ⟨Ex.refl _, rfl⟩)) ?_
      refine req_cons (.val (.bool false)) (by kernel_rfl) (fun vs w1 he hd => StepG.plain (by kernel_rfl) (gives_neS (x := (.tmp 124)) (y := (.tmp 126)) (xs := PL) (ys := PL) (r := false) (by kernel_rfl) (Eq.trans (b := vs 1) (at_eval 124 1 (by kernel_rfl) (by kernel_rfl)) (hd 1 (.val (.string ⟨(List.toArray PL)⟩)) (by kernel_rfl) (by kernel_rfl))) (Eq.trans (b := vs 3) (at_eval 126 3 (by kernel_rfl) (by kernel_rfl)) (hd 3 (.val (.string ⟨(List.toArray PL)⟩)) (by kernel_rfl) (by kernel_rfl))) (by simp) ⟨Ex.refl _, rfl⟩)) ?_
      refine req_cons (.val (.bool false)) (by kernel_rfl) (fun vs w1 he hd => StepG.plain (by kernel_rfl) (gives_move (x := (.tmp 127)) (v := (.bool false)) (by kernel_rfl) (Eq.trans (b := vs 4) (at_eval 127 4 (by kernel_rfl) (by kernel_rfl)) (hd 4 (.val (.bool false)) (by kernel_rfl) (by kernel_rfl))) ⟨Ex.refl _, rfl⟩)) ?_
      refine req_cons (.val (.int .i64 pe)) (by kernel_rfl) (fun vs w1 he hd => StepG.on (g := 5) (d := 128) (x := false) (v := vs 5) (by kernel_rfl) (by kernel_rfl) (at_tmps 128 5 (by kernel_rfl) (by kernel_rfl)) (hd 5 (.val (.bool false)) (by kernel_rfl) (by kernel_rfl)) (gives_move (x := (.tmp 16)) (v := (.int .i64 pe)) (by kernel_rfl) (Eq.trans (off_eval 16 (by kernel_rfl)) (by kernel_rfl)) ⟨Ex.refl _, rfl⟩)) ?_
      refine req_cons (.val (.int .i64 pe)) (by kernel_rfl) (fun vs w1 he hd => StepG.on (g := 5) (d := 128) (x := false) (v := vs 5) (by kernel_rfl) (by kernel_rfl) (at_tmps 128 5 (by kernel_rfl) (by kernel_rfl)) (hd 5 (.val (.bool false)) (by kernel_rfl) (by kernel_rfl)) (gives_move (x := (.tmp 18)) (v := (.int .i64 pe)) (by kernel_rfl) (Eq.trans (off_eval 18 (by kernel_rfl)) (by kernel_rfl)) ⟨Ex.refl _, rfl⟩)) ?_
      refine req_cons (.val (.bool false)) (by kernel_rfl) (fun vs w1 he hd => StepG.on (g := 5) (d := 128) (x := false) (v := vs 5) (by kernel_rfl) (by kernel_rfl) (at_tmps 128 5 (by kernel_rfl) (by kernel_rfl)) (hd 5 (.val (.bool false)) (by kernel_rfl) (by kernel_rfl)) (gives_neI (t := 3) (k := .i64) (a := pe) (b := pe) (x := (.tmp 129)) (y := (.tmp 130)) (r := false) (by kernel_rfl) (Eq.trans (b := vs 6) (at_eval 129 6 (by kernel_rfl) (by kernel_rfl)) (hd 6 (.val (.int .i64 pe)) (by kernel_rfl) (by kernel_rfl))) (Eq.trans (b := vs 7) (at_eval 130 7 (by kernel_rfl) (by kernel_rfl)) (hd 7 (.val (.int .i64 pe)) (by kernel_rfl) (by kernel_rfl))) (by simp) ⟨Ex.refl _, rfl⟩)) ?_
      refine req_cons (.val (.bool false)) (by kernel_rfl) (fun vs w1 he hd => StepG.plain (by kernel_rfl) (gives_pick_f (x := (.tmp 128)) (y := (.const (.bool true))) (z := (.tmp 131)) (v := (.bool false)) (by kernel_rfl) (Eq.trans (b := vs 5) (at_eval 128 5 (by kernel_rfl) (by kernel_rfl)) (hd 5 (.val (.bool false)) (by kernel_rfl) (by kernel_rfl))) (Eq.trans (b := vs 8) (at_eval 131 8 (by kernel_rfl) (by kernel_rfl)) (hd 8 (.val (.bool false)) (by kernel_rfl) (by kernel_rfl))) ⟨Ex.refl _, rfl⟩)) ?_
      refine req_cons (.val (.bool false)) (by kernel_rfl) (fun vs w1 he hd => StepG.plain (by kernel_rfl) (gives_move (x := (.tmp 132)) (v := (.bool false)) (by kernel_rfl) (Eq.trans (b := vs 9) (at_eval 132 9 (by kernel_rfl) (by kernel_rfl)) (hd 9 (.val (.bool false)) (by kernel_rfl) (by kernel_rfl))) ⟨Ex.refl _, rfl⟩)) ?_
      refine req_cons (.val (.string vs1)) (by kernel_rfl) (fun vs w1 he hd => StepG.on (g := 10) (d := 133) (x := false) (v := vs 10) (by kernel_rfl) (by kernel_rfl) (at_tmps 133 10 (by kernel_rfl) (by kernel_rfl)) (hd 10 (.val (.bool false)) (by kernel_rfl) (by kernel_rfl)) (gives_move (x := (.tmp 19)) (v := (.string vs1)) (by kernel_rfl) (Eq.trans (off_eval 19 (by kernel_rfl)) (by kernel_rfl)) ⟨Ex.refl _, rfl⟩)) ?_
      refine req_cons (.val (.string vs1)) (by kernel_rfl) (fun vs w1 he hd => StepG.on (g := 10) (d := 133) (x := false) (v := vs 10) (by kernel_rfl) (by kernel_rfl) (at_tmps 133 10 (by kernel_rfl) (by kernel_rfl)) (hd 10 (.val (.bool false)) (by kernel_rfl) (by kernel_rfl)) (gives_move (x := (.tmp 22)) (v := (.string vs1)) (by kernel_rfl) (Eq.trans (off_eval 22 (by kernel_rfl)) (by kernel_rfl)) ⟨Ex.refl _, rfl⟩)) ?_
      refine req_cons (.val (.bool false)) (by kernel_rfl) (fun vs w1 he hd => StepG.on (g := 10) (d := 133) (x := false) (v := vs 10) (by kernel_rfl) (by kernel_rfl) (at_tmps 133 10 (by kernel_rfl) (by kernel_rfl)) (hd 10 (.val (.bool false)) (by kernel_rfl) (by kernel_rfl)) (gives_neB (x := (.tmp 134)) (y := (.tmp 135)) (a := vs1) (b := vs1) (r := false) (by kernel_rfl) (Eq.trans (b := vs 11) (at_eval 134 11 (by kernel_rfl) (by kernel_rfl)) (hd 11 (.val (.string vs1)) (by kernel_rfl) (by kernel_rfl))) (Eq.trans (b := vs 12) (at_eval 135 12 (by kernel_rfl) (by kernel_rfl)) (hd 12 (.val (.string vs1)) (by kernel_rfl) (by kernel_rfl))) (by simp) ⟨Ex.refl _, rfl⟩)) ?_
      refine req_cons (.val (.bool false)) (by kernel_rfl) (fun vs w1 he hd => StepG.plain (by kernel_rfl) (gives_pick_f (x := (.tmp 133)) (y := (.const (.bool true))) (z := (.tmp 136)) (v := (.bool false)) (by kernel_rfl) (Eq.trans (b := vs 10) (at_eval 133 10 (by kernel_rfl) (by kernel_rfl)) (hd 10 (.val (.bool false)) (by kernel_rfl) (by kernel_rfl))) (Eq.trans (b := vs 13) (at_eval 136 13 (by kernel_rfl) (by kernel_rfl)) (hd 13 (.val (.bool false)) (by kernel_rfl) (by kernel_rfl))) ⟨Ex.refl _, rfl⟩)) ?_
      refine req_cons (.val (.bool false)) (by kernel_rfl) (fun vs w1 he hd => StepG.plain (by kernel_rfl) (gives_move (x := (.tmp 137)) (v := (.bool false)) (by kernel_rfl) (Eq.trans (b := vs 14) (at_eval 137 14 (by kernel_rfl) (by kernel_rfl)) (hd 14 (.val (.bool false)) (by kernel_rfl) (by kernel_rfl))) ⟨Ex.refl _, rfl⟩)) ?_
      refine req_cons (.val (.int .i64 (vk : Int))) (by kernel_rfl) (fun vs w1 he hd => StepG.on (g := 15) (d := 138) (x := false) (v := vs 15) (by kernel_rfl) (by kernel_rfl) (at_tmps 138 15 (by kernel_rfl) (by kernel_rfl)) (hd 15 (.val (.bool false)) (by kernel_rfl) (by kernel_rfl)) (gives_move (x := (.tmp 20)) (v := (.int .i64 (vk : Int))) (by kernel_rfl) (Eq.trans (off_eval 20 (by kernel_rfl)) (by kernel_rfl)) ⟨Ex.refl _, rfl⟩)) ?_
      refine req_cons (.val (.int .i64 (vk : Int))) (by kernel_rfl) (fun vs w1 he hd => StepG.on (g := 15) (d := 138) (x := false) (v := vs 15) (by kernel_rfl) (by kernel_rfl) (at_tmps 138 15 (by kernel_rfl) (by kernel_rfl)) (hd 15 (.val (.bool false)) (by kernel_rfl) (by kernel_rfl)) (gives_move (x := (.tmp 23)) (v := (.int .i64 (vk : Int))) (by kernel_rfl) (Eq.trans (off_eval 23 (by kernel_rfl)) (by kernel_rfl)) ⟨Ex.refl _, rfl⟩)) ?_
      refine req_cons (.val (.bool false)) (by kernel_rfl) (fun vs w1 he hd => StepG.on (g := 15) (d := 138) (x := false) (v := vs 15) (by kernel_rfl) (by kernel_rfl) (at_tmps 138 15 (by kernel_rfl) (by kernel_rfl)) (hd 15 (.val (.bool false)) (by kernel_rfl) (by kernel_rfl)) (gives_neI (t := 3) (k := .i64) (a := (vk : Int)) (b := (vk : Int)) (x := (.tmp 139)) (y := (.tmp 140)) (r := false) (by kernel_rfl) (Eq.trans (b := vs 16) (at_eval 139 16 (by kernel_rfl) (by kernel_rfl)) (hd 16 (.val (.int .i64 (vk : Int))) (by kernel_rfl) (by kernel_rfl))) (Eq.trans (b := vs 17) (at_eval 140 17 (by kernel_rfl) (by kernel_rfl)) (hd 17 (.val (.int .i64 (vk : Int))) (by kernel_rfl) (by kernel_rfl))) (by simp) ⟨Ex.refl _, rfl⟩)) ?_
      refine req_cons (.val (.bool false)) (by kernel_rfl) (fun vs w1 he hd => StepG.plain (by kernel_rfl) (gives_pick_f (x := (.tmp 138)) (y := (.const (.bool true))) (z := (.tmp 141)) (v := (.bool false)) (by kernel_rfl) (Eq.trans (b := vs 15) (at_eval 138 15 (by kernel_rfl) (by kernel_rfl)) (hd 15 (.val (.bool false)) (by kernel_rfl) (by kernel_rfl))) (Eq.trans (b := vs 18) (at_eval 141 18 (by kernel_rfl) (by kernel_rfl)) (hd 18 (.val (.bool false)) (by kernel_rfl) (by kernel_rfl))) ⟨Ex.refl _, rfl⟩)) ?_
      refine req_cons (.val (.bool false)) (by kernel_rfl) (fun vs w1 he hd => StepG.plain (by kernel_rfl) (gives_move (x := (.tmp 142)) (v := (.bool false)) (by kernel_rfl) (Eq.trans (b := vs 19) (at_eval 142 19 (by kernel_rfl) (by kernel_rfl)) (hd 19 (.val (.bool false)) (by kernel_rfl) (by kernel_rfl))) ⟨Ex.refl _, rfl⟩)) ?_
      refine req_cons (.val (.int .i64 ve)) (by kernel_rfl) (fun vs w1 he hd => StepG.on (g := 20) (d := 143) (x := false) (v := vs 20) (by kernel_rfl) (by kernel_rfl) (at_tmps 143 20 (by kernel_rfl) (by kernel_rfl)) (hd 20 (.val (.bool false)) (by kernel_rfl) (by kernel_rfl)) (gives_move (x := (.tmp 21)) (v := (.int .i64 ve)) (by kernel_rfl) (Eq.trans (off_eval 21 (by kernel_rfl)) (by kernel_rfl)) ⟨Ex.refl _, rfl⟩)) ?_
      refine req_cons (.val (.int .i64 ve)) (by kernel_rfl) (fun vs w1 he hd => StepG.on (g := 20) (d := 143) (x := false) (v := vs 20) (by kernel_rfl) (by kernel_rfl) (at_tmps 143 20 (by kernel_rfl) (by kernel_rfl)) (hd 20 (.val (.bool false)) (by kernel_rfl) (by kernel_rfl)) (gives_move (x := (.tmp 24)) (v := (.int .i64 ve)) (by kernel_rfl) (Eq.trans (off_eval 24 (by kernel_rfl)) (by kernel_rfl)) ⟨Ex.refl _, rfl⟩)) ?_
      refine req_cons (.val (.bool false)) (by kernel_rfl) (fun vs w1 he hd => StepG.on (g := 20) (d := 143) (x := false) (v := vs 20) (by kernel_rfl) (by kernel_rfl) (at_tmps 143 20 (by kernel_rfl) (by kernel_rfl)) (hd 20 (.val (.bool false)) (by kernel_rfl) (by kernel_rfl)) (gives_neI (t := 3) (k := .i64) (a := ve) (b := ve) (x := (.tmp 144)) (y := (.tmp 145)) (r := false) (by kernel_rfl) (Eq.trans (b := vs 21) (at_eval 144 21 (by kernel_rfl) (by kernel_rfl)) (hd 21 (.val (.int .i64 ve)) (by kernel_rfl) (by kernel_rfl))) (Eq.trans (b := vs 22) (at_eval 145 22 (by kernel_rfl) (by kernel_rfl)) (hd 22 (.val (.int .i64 ve)) (by kernel_rfl) (by kernel_rfl))) (by simp) ⟨Ex.refl _, rfl⟩)) ?_
      refine req_cons (.val (.bool false)) (by kernel_rfl) (fun vs w1 he hd => StepG.plain (by kernel_rfl) (gives_pick_f (x := (.tmp 143)) (y := (.const (.bool true))) (z := (.tmp 146)) (v := (.bool false)) (by kernel_rfl) (Eq.trans (b := vs 20) (at_eval 143 20 (by kernel_rfl) (by kernel_rfl)) (hd 20 (.val (.bool false)) (by kernel_rfl) (by kernel_rfl))) (Eq.trans (b := vs 23) (at_eval 146 23 (by kernel_rfl) (by kernel_rfl)) (hd 23 (.val (.bool false)) (by kernel_rfl) (by kernel_rfl))) ⟨Ex.refl _, rfl⟩)) ?_
      refine req_cons (.val (.bool false)) (by kernel_rfl) (fun vs w1 he hd => StepG.plain (by kernel_rfl) (gives_move (x := (.tmp 147)) (v := (.bool false)) (by kernel_rfl) (Eq.trans (b := vs 24) (at_eval 147 24 (by kernel_rfl) (by kernel_rfl)) (hd 24 (.val (.bool false)) (by kernel_rfl) (by kernel_rfl))) ⟨Ex.refl _, rfl⟩)) ?_
      refine req_cons (.val (.slice xa XB.length xc)) (by kernel_rfl) (fun vs w1 he hd => StepG.on (g := 25) (d := 148) (x := false) (v := vs 25) (by kernel_rfl) (by kernel_rfl) (at_tmps 148 25 (by kernel_rfl) (by kernel_rfl)) (hd 25 (.val (.bool false)) (by kernel_rfl) (by kernel_rfl)) (gives_move (x := (.tmp 25)) (v := (.slice xa XB.length xc)) (by kernel_rfl) (Eq.trans (off_eval 25 (by kernel_rfl)) (by kernel_rfl)) ⟨Ex.refl _, rfl⟩)) ?_
      refine req_cons (.val (.string ⟨(List.toArray XB)⟩)) (by kernel_rfl) (fun vs w1 he hd => StepG.on (g := 25) (d := 148) (x := false) (v := vs 25) (by kernel_rfl) (by kernel_rfl) (at_tmps 148 25 (by kernel_rfl) (by kernel_rfl)) (hd 25 (.val (.bool false)) (by kernel_rfl) (by kernel_rfl)) (gives_str (x := (.tmp 149)) (v := (.slice xa XB.length xc)) (xs := XB) (by kernel_rfl) (Eq.trans (b := vs 26) (at_eval 149 26 (by kernel_rfl) (by kernel_rfl)) (hd 26 (.val (.slice xa XB.length xc)) (by kernel_rfl) (by kernel_rfl))) ((HL18.out.fresh he).x) ⟨Ex.refl _, rfl⟩)) ?_
      refine req_cons (.val (.slice ya XB.length yc)) (by kernel_rfl) (fun vs w1 he hd => StepG.on (g := 25) (d := 148) (x := false) (v := vs 25) (by kernel_rfl) (by kernel_rfl) (at_tmps 148 25 (by kernel_rfl) (by kernel_rfl)) (hd 25 (.val (.bool false)) (by kernel_rfl) (by kernel_rfl)) (gives_move (x := (.tmp 27)) (v := (.slice ya XB.length yc)) (by kernel_rfl) (Eq.trans (off_eval 27 (by kernel_rfl)) (by kernel_rfl)) ⟨Ex.refl _, rfl⟩)) ?_
      refine req_cons (.val (.string ⟨(List.toArray XB)⟩)) (by kernel_rfl) (fun vs w1 he hd => StepG.on (g := 25) (d := 148) (x := false) (v := vs 25) (by kernel_rfl) (by kernel_rfl) (at_tmps 148 25 (by kernel_rfl) (by kernel_rfl)) (hd 25 (.val (.bool false)) (by kernel_rfl) (by kernel_rfl)) (gives_str (x := (.tmp 151)) (v := (.slice ya XB.length yc)) (xs := XB) (by kernel_rfl) (Eq.trans (b := vs 28) (at_eval 151 28 (by kernel_rfl) (by kernel_rfl)) (hd 28 (.val (.slice ya XB.length yc)) (by kernel_rfl) (by kernel_rfl))) ((HL18.out.fresh he).y.bsl) ⟨Ex.refl _, rfl⟩)) ?_
      refine req_cons (.val (.bool false)) (by kernel_rfl) (fun vs w1 he hd => StepG.on (g := 25) (d := 148) (x := false) (v := vs 25) (by kernel_rfl) (by kernel_rfl) (at_tmps 148 25 (by kernel_rfl) (by kernel_rfl)) (hd 25 (.val (.bool false)) (by kernel_rfl) (by kernel_rfl)) (gives_neS (x := (.tmp 150)) (y := (.tmp 152)) (xs := XB) (ys := XB) (r := false) (by kernel_rfl) (Eq.trans (b := vs 27) (at_eval 150 27 (by kernel_rfl) (by kernel_rfl)) (hd 27 (.val (.string ⟨(List.toArray XB)⟩)) (by kernel_rfl) (by kernel_rfl))) (Eq.trans (b := vs 29) (at_eval 152 29 (by kernel_rfl) (by kernel_rfl)) (hd 29 (.val (.string ⟨(List.toArray XB)⟩)) (by kernel_rfl) (by kernel_rfl))) (by simp) ⟨Ex.refl _, rfl⟩)) ?_
      refine req_cons (.val (.bool false)) (by kernel_rfl) (fun vs w1 he hd => StepG.plain (by kernel_rfl) (gives_pick_f (x := (.tmp 148)) (y := (.const (.bool true))) (z := (.tmp 153)) (v := (.bool false)) (by kernel_rfl) (Eq.trans (b := vs 25) (at_eval 148 25 (by kernel_rfl) (by kernel_rfl)) (hd 25 (.val (.bool false)) (by kernel_rfl) (by kernel_rfl))) (Eq.trans (b := vs 30) (at_eval 153 30 (by kernel_rfl) (by kernel_rfl)) (hd 30 (.val (.bool false)) (by kernel_rfl) (by kernel_rfl))) ⟨Ex.refl _, rfl⟩)) ?_
      refine req_cons (.val (.bool false)) (by kernel_rfl) (fun vs w1 he hd => StepG.plain (by kernel_rfl) (gives_move (x := (.tmp 154)) (v := (.bool false)) (by kernel_rfl) (Eq.trans (b := vs 31) (at_eval 154 31 (by kernel_rfl) (by kernel_rfl)) (hd 31 (.val (.bool false)) (by kernel_rfl) (by kernel_rfl))) ⟨Ex.refl _, rfl⟩)) ?_
      refine req_cons (.val (.int .i64 xe)) (by kernel_rfl) (fun vs w1 he hd => StepG.on (g := 32) (d := 155) (x := false) (v := vs 32) (by kernel_rfl) (by kernel_rfl) (at_tmps 155 32 (by kernel_rfl) (by kernel_rfl)) (hd 32 (.val (.bool false)) (by kernel_rfl) (by kernel_rfl)) (gives_move (x := (.tmp 26)) (v := (.int .i64 xe)) (by kernel_rfl) (Eq.trans (off_eval 26 (by kernel_rfl)) (by kernel_rfl)) ⟨Ex.refl _, rfl⟩)) ?_
      refine req_cons (.val (.int .i64 xe)) (by kernel_rfl) (fun vs w1 he hd => StepG.on (g := 32) (d := 155) (x := false) (v := vs 32) (by kernel_rfl) (by kernel_rfl) (at_tmps 155 32 (by kernel_rfl) (by kernel_rfl)) (hd 32 (.val (.bool false)) (by kernel_rfl) (by kernel_rfl)) (gives_move (x := (.tmp 28)) (v := (.int .i64 xe)) (by kernel_rfl) (Eq.trans (off_eval 28 (by kernel_rfl)) (by kernel_rfl)) ⟨Ex.refl _, rfl⟩)) ?_
      refine req_cons (.val (.bool false)) (by kernel_rfl) (fun vs w1 he hd => StepG.on (g := 32) (d := 155) (x := false) (v := vs 32) (by kernel_rfl) (by kernel_rfl) (at_tmps 155 32 (by kernel_rfl) (by kernel_rfl)) (hd 32 (.val (.bool false)) (by kernel_rfl) (by kernel_rfl)) (gives_neI (t := 3) (k := .i64) (a := xe) (b := xe) (x := (.tmp 156)) (y := (.tmp 157)) (r := false) (by kernel_rfl) (Eq.trans (b := vs 33) (at_eval 156 33 (by kernel_rfl) (by kernel_rfl)) (hd 33 (.val (.int .i64 xe)) (by kernel_rfl) (by kernel_rfl))) (Eq.trans (b := vs 34) (at_eval 157 34 (by kernel_rfl) (by kernel_rfl)) (hd 34 (.val (.int .i64 xe)) (by kernel_rfl) (by kernel_rfl))) (by simp) ⟨Ex.refl _, rfl⟩)) ?_
      refine req_cons (.val (.bool false)) (by kernel_rfl) (fun vs w1 he hd => StepG.plain (by kernel_rfl) (gives_pick_f (x := (.tmp 155)) (y := (.const (.bool true))) (z := (.tmp 158)) (v := (.bool false)) (by kernel_rfl) (Eq.trans (b := vs 32) (at_eval 155 32 (by kernel_rfl) (by kernel_rfl)) (hd 32 (.val (.bool false)) (by kernel_rfl) (by kernel_rfl))) (Eq.trans (b := vs 35) (at_eval 158 35 (by kernel_rfl) (by kernel_rfl)) (hd 35 (.val (.bool false)) (by kernel_rfl) (by kernel_rfl))) ⟨Ex.refl _, rfl⟩)) ?_
      refine req_cons (.val (.bool false)) (by kernel_rfl) (fun vs w1 he hd => StepG.plain (by kernel_rfl) (gives_move (x := (.tmp 159)) (v := (.bool false)) (by kernel_rfl) (Eq.trans (b := vs 36) (at_eval 159 36 (by kernel_rfl) (by kernel_rfl)) (hd 36 (.val (.bool false)) (by kernel_rfl) (by kernel_rfl))) ⟨Ex.refl _, rfl⟩)) ?_
      refine req_cons (.val (.agg AC.toArray)) (by kernel_rfl) (fun vs w1 he hd => StepG.on (g := 37) (d := 160) (x := false) (v := vs 37) (by kernel_rfl) (by kernel_rfl) (at_tmps 160 37 (by kernel_rfl) (by kernel_rfl)) (hd 37 (.val (.bool false)) (by kernel_rfl) (by kernel_rfl)) (gives_loadArr (x := .tmp 29) (cs := AC.toArray) (by kernel_rfl) (Eq.trans (off_eval 29 (by kernel_rfl)) (by kernel_rfl)) (HB18.out.fresh he) Try.underlying45 HAS.out ⟨Ex.refl _, rfl⟩)) ?_
      refine req_cons (.val (.agg AC.toArray)) (by kernel_rfl) (fun vs w1 he hd => StepG.on (g := 37) (d := 160) (x := false) (v := vs 37) (by kernel_rfl) (by kernel_rfl) (at_tmps 160 37 (by kernel_rfl) (by kernel_rfl)) (hd 37 (.val (.bool false)) (by kernel_rfl) (by kernel_rfl)) (gives_loadArr (x := .tmp 31) (cs := AC.toArray) (by kernel_rfl) (Eq.trans (off_eval 31 (by kernel_rfl)) (by kernel_rfl)) (HC18.out.fresh he) Try.underlying45 HAS.out ⟨Ex.refl _, rfl⟩)) ?_
      refine req_cons (.val (.bool false)) (by kernel_rfl) (fun vs w1 he hd => StepG.on (g := 37) (d := 160) (x := false) (v := vs 37) (by kernel_rfl) (by kernel_rfl) (at_tmps 160 37 (by kernel_rfl) (by kernel_rfl)) (hd 37 (.val (.bool false)) (by kernel_rfl) (by kernel_rfl)) (gives_neAgg (t := 45) (t' := 45) (x := (.tmp 161)) (y := (.tmp 162)) (v := .bool false) (by kernel_rfl) (Eq.trans (b := vs 38) (at_eval 161 38 (by kernel_rfl) (by kernel_rfl)) (hd 38 (.val (.agg AC.toArray)) (by kernel_rfl) (by kernel_rfl))) (Eq.trans (b := vs 39) (at_eval 162 39 (by kernel_rfl) (by kernel_rfl)) (hd 39 (.val (.agg AC.toArray)) (by kernel_rfl) (by kernel_rfl))) (by kernel_rfl) (HNE.out _) ⟨Ex.refl _, rfl⟩)) ?_
      refine req_cons (.val (.bool false)) (by kernel_rfl) (fun vs w1 he hd => StepG.plain (by kernel_rfl) (gives_pick_f (x := (.tmp 160)) (y := (.const (.bool true))) (z := (.tmp 163)) (v := (.bool false)) (by kernel_rfl) (Eq.trans (b := vs 37) (at_eval 160 37 (by kernel_rfl) (by kernel_rfl)) (hd 37 (.val (.bool false)) (by kernel_rfl) (by kernel_rfl))) (Eq.trans (b := vs 40) (at_eval 163 40 (by kernel_rfl) (by kernel_rfl)) (hd 40 (.val (.bool false)) (by kernel_rfl) (by kernel_rfl))) ⟨Ex.refl _, rfl⟩)) ?_
      refine req_cons (.val (.bool false)) (by kernel_rfl) (fun vs w1 he hd => StepG.plain (by kernel_rfl) (gives_move (x := (.tmp 164)) (v := (.bool false)) (by kernel_rfl) (Eq.trans (b := vs 41) (at_eval 164 41 (by kernel_rfl) (by kernel_rfl)) (hd 41 (.val (.bool false)) (by kernel_rfl) (by kernel_rfl))) ⟨Ex.refl _, rfl⟩)) ?_
      refine req_cons (.val (.int .i64 ae)) (by kernel_rfl) (fun vs w1 he hd => StepG.on (g := 42) (d := 165) (x := false) (v := vs 42) (by kernel_rfl) (by kernel_rfl) (at_tmps 165 42 (by kernel_rfl) (by kernel_rfl)) (hd 42 (.val (.bool false)) (by kernel_rfl) (by kernel_rfl)) (gives_move (x := (.tmp 30)) (v := (.int .i64 ae)) (by kernel_rfl) (Eq.trans (off_eval 30 (by kernel_rfl)) (by kernel_rfl)) ⟨Ex.refl _, rfl⟩)) ?_
      refine req_cons (.val (.int .i64 ae)) (by kernel_rfl) (fun vs w1 he hd => StepG.on (g := 42) (d := 165) (x := false) (v := vs 42) (by kernel_rfl) (by kernel_rfl) (at_tmps 165 42 (by kernel_rfl) (by kernel_rfl)) (hd 42 (.val (.bool false)) (by kernel_rfl) (by kernel_rfl)) (gives_move (x := (.tmp 32)) (v := (.int .i64 ae)) (by kernel_rfl) (Eq.trans (off_eval 32 (by kernel_rfl)) (by kernel_rfl)) ⟨Ex.refl _, rfl⟩)) ?_
      refine req_cons (.val (.bool false)) (by kernel_rfl) (fun vs w1 he hd => StepG.on (g := 42) (d := 165) (x := false) (v := vs 42) (by kernel_rfl) (by kernel_rfl) (at_tmps 165 42 (by kernel_rfl) (by kernel_rfl)) (hd 42 (.val (.bool false)) (by kernel_rfl) (by kernel_rfl)) (gives_neI (t := 3) (k := .i64) (a := ae) (b := ae) (x := (.tmp 166)) (y := (.tmp 167)) (r := false) (by kernel_rfl) (Eq.trans (b := vs 43) (at_eval 166 43 (by kernel_rfl) (by kernel_rfl)) (hd 43 (.val (.int .i64 ae)) (by kernel_rfl) (by kernel_rfl))) (Eq.trans (b := vs 44) (at_eval 167 44 (by kernel_rfl) (by kernel_rfl)) (hd 44 (.val (.int .i64 ae)) (by kernel_rfl) (by kernel_rfl))) (by simp) ⟨Ex.refl _, rfl⟩)) ?_
      refine req_cons (.val (.bool false)) (by kernel_rfl) (fun vs w1 he hd => StepG.plain (by kernel_rfl) (gives_pick_f (x := (.tmp 165)) (y := (.const (.bool true))) (z := (.tmp 168)) (v := (.bool false)) (by kernel_rfl) (Eq.trans (b := vs 42) (at_eval 165 42 (by kernel_rfl) (by kernel_rfl)) (hd 42 (.val (.bool false)) (by kernel_rfl) (by kernel_rfl))) (Eq.trans (b := vs 45) (at_eval 168 45 (by kernel_rfl) (by kernel_rfl)) (hd 45 (.val (.bool false)) (by kernel_rfl) (by kernel_rfl))) ⟨Ex.refl _, rfl⟩)) ?_
      refine req_cons (.val (.bool false)) (by kernel_rfl) (fun vs w1 he hd => StepG.plain (by kernel_rfl) (gives_move (x := (.tmp 169)) (v := (.bool false)) (by kernel_rfl) (Eq.trans (b := vs 46) (at_eval 169 46 (by kernel_rfl) (by kernel_rfl)) (hd 46 (.val (.bool false)) (by kernel_rfl) (by kernel_rfl))) ⟨Ex.refl _, rfl⟩)) ?_
      refine req_cons (.val (.string zs)) (by kernel_rfl) (fun vs w1 he hd => StepG.on (g := 47) (d := 170) (x := false) (v := vs 47) (by kernel_rfl) (by kernel_rfl) (at_tmps 170 47 (by kernel_rfl) (by kernel_rfl)) (hd 47 (.val (.bool false)) (by kernel_rfl) (by kernel_rfl)) (gives_move (x := (.tmp 33)) (v := (.string zs)) (by kernel_rfl) (Eq.trans (off_eval 33 (by kernel_rfl)) (by kernel_rfl)) ⟨Ex.refl _, rfl⟩)) ?_
      refine req_cons (.val (.string zs)) (by kernel_rfl) (fun vs w1 he hd => StepG.on (g := 47) (d := 170) (x := false) (v := vs 47) (by kernel_rfl) (by kernel_rfl) (at_tmps 170 47 (by kernel_rfl) (by kernel_rfl)) (hd 47 (.val (.bool false)) (by kernel_rfl) (by kernel_rfl)) (gives_move (x := (.tmp 35)) (v := (.string zs)) (by kernel_rfl) (Eq.trans (off_eval 35 (by kernel_rfl)) (by kernel_rfl)) ⟨Ex.refl _, rfl⟩)) ?_
      refine req_cons (.val (.bool false)) (by kernel_rfl) (fun vs w1 he hd => StepG.on (g := 47) (d := 170) (x := false) (v := vs 47) (by kernel_rfl) (by kernel_rfl) (at_tmps 170 47 (by kernel_rfl) (by kernel_rfl)) (hd 47 (.val (.bool false)) (by kernel_rfl) (by kernel_rfl)) (gives_neB (x := (.tmp 171)) (y := (.tmp 172)) (a := zs) (b := zs) (r := false) (by kernel_rfl) (Eq.trans (b := vs 48) (at_eval 171 48 (by kernel_rfl) (by kernel_rfl)) (hd 48 (.val (.string zs)) (by kernel_rfl) (by kernel_rfl))) (Eq.trans (b := vs 49) (at_eval 172 49 (by kernel_rfl) (by kernel_rfl)) (hd 49 (.val (.string zs)) (by kernel_rfl) (by kernel_rfl))) (by simp) ⟨Ex.refl _, rfl⟩)) ?_
      refine req_cons (.val (.bool false)) (by kernel_rfl) (fun vs w1 he hd => StepG.plain (by kernel_rfl) (gives_pick_f (x := (.tmp 170)) (y := (.const (.bool true))) (z := (.tmp 173)) (v := (.bool false)) (by kernel_rfl) (Eq.trans (b := vs 47) (at_eval 170 47 (by kernel_rfl) (by kernel_rfl)) (hd 47 (.val (.bool false)) (by kernel_rfl) (by kernel_rfl))) (Eq.trans (b := vs 50) (at_eval 173 50 (by kernel_rfl) (by kernel_rfl)) (hd 50 (.val (.bool false)) (by kernel_rfl) (by kernel_rfl))) ⟨Ex.refl _, rfl⟩)) ?_
      refine req_cons (.val (.bool false)) (by kernel_rfl) (fun vs w1 he hd => StepG.plain (by kernel_rfl) (gives_move (x := (.tmp 174)) (v := (.bool false)) (by kernel_rfl) (Eq.trans (b := vs 51) (at_eval 174 51 (by kernel_rfl) (by kernel_rfl)) (hd 51 (.val (.bool false)) (by kernel_rfl) (by kernel_rfl))) ⟨Ex.refl _, rfl⟩)) ?_
      refine req_cons (.val (.int .i64 ze)) (by kernel_rfl) (fun vs w1 he hd => StepG.on (g := 52) (d := 175) (x := false) (v := vs 52) (by kernel_rfl) (by kernel_rfl) (at_tmps 175 52 (by kernel_rfl) (by kernel_rfl)) (hd 52 (.val (.bool false)) (by kernel_rfl) (by kernel_rfl)) (gives_move (x := (.tmp 34)) (v := (.int .i64 ze)) (by kernel_rfl) (Eq.trans (off_eval 34 (by kernel_rfl)) (by kernel_rfl)) ⟨Ex.refl _, rfl⟩)) ?_
      refine req_cons (.val (.int .i64 ze)) (by kernel_rfl) (fun vs w1 he hd => StepG.on (g := 52) (d := 175) (x := false) (v := vs 52) (by kernel_rfl) (by kernel_rfl) (at_tmps 175 52 (by kernel_rfl) (by kernel_rfl)) (hd 52 (.val (.bool false)) (by kernel_rfl) (by kernel_rfl)) (gives_move (x := (.tmp 36)) (v := (.int .i64 ze)) (by kernel_rfl) (Eq.trans (off_eval 36 (by kernel_rfl)) (by kernel_rfl)) ⟨Ex.refl _, rfl⟩)) ?_
      refine req_cons (.val (.bool false)) (by kernel_rfl) (fun vs w1 he hd => StepG.on (g := 52) (d := 175) (x := false) (v := vs 52) (by kernel_rfl) (by kernel_rfl) (at_tmps 175 52 (by kernel_rfl) (by kernel_rfl)) (hd 52 (.val (.bool false)) (by kernel_rfl) (by kernel_rfl)) (gives_neI (t := 3) (k := .i64) (a := ze) (b := ze) (x := (.tmp 176)) (y := (.tmp 177)) (r := false) (by kernel_rfl) (Eq.trans (b := vs 53) (at_eval 176 53 (by kernel_rfl) (by kernel_rfl)) (hd 53 (.val (.int .i64 ze)) (by kernel_rfl) (by kernel_rfl))) (Eq.trans (b := vs 54) (at_eval 177 54 (by kernel_rfl) (by kernel_rfl)) (hd 54 (.val (.int .i64 ze)) (by kernel_rfl) (by kernel_rfl))) (by simp) ⟨Ex.refl _, rfl⟩)) ?_
      refine req_cons (.val (.bool false)) (by kernel_rfl) (fun vs w1 he hd => StepG.plain (by kernel_rfl) (gives_pick_f (x := (.tmp 175)) (y := (.const (.bool true))) (z := (.tmp 178)) (v := (.bool false)) (by kernel_rfl) (Eq.trans (b := vs 52) (at_eval 175 52 (by kernel_rfl) (by kernel_rfl)) (hd 52 (.val (.bool false)) (by kernel_rfl) (by kernel_rfl))) (Eq.trans (b := vs 55) (at_eval 178 55 (by kernel_rfl) (by kernel_rfl)) (hd 55 (.val (.bool false)) (by kernel_rfl) (by kernel_rfl))) ⟨Ex.refl _, rfl⟩)) ?_
      refine req_cons (.val (.bool false)) (by kernel_rfl) (fun vs w1 he hd => StepG.plain (by kernel_rfl) (gives_move (x := (.tmp 179)) (v := (.bool false)) (by kernel_rfl) (Eq.trans (b := vs 56) (at_eval 179 56 (by kernel_rfl) (by kernel_rfl)) (hd 56 (.val (.bool false)) (by kernel_rfl) (by kernel_rfl))) ⟨Ex.refl _, rfl⟩)) ?_
      refine req_cons (.val (.pointer (some ⟨w.heap.size, 0, none⟩))) (by kernel_rfl) (fun vs w1 he hd => StepG.on (g := 57) (d := 180) (x := false) (v := vs 57) (by kernel_rfl) (by kernel_rfl) (at_tmps 180 57 (by kernel_rfl) (by kernel_rfl)) (hd 57 (.val (.bool false)) (by kernel_rfl) (by kernel_rfl)) (gives_fieldN (x := .tmp 9) (g := w.heap.size) (by kernel_rfl) (Eq.trans (off_eval 9 (by kernel_rfl)) (by kernel_rfl)) ⟨Ex.refl _, rfl⟩)) ?_
      refine req_cons (.val ck2) (by kernel_rfl) (fun vs w1 he hd => StepG.on (g := 57) (d := 180) (x := false) (v := vs 57) (by kernel_rfl) (by kernel_rfl) (at_tmps 180 57 (by kernel_rfl) (by kernel_rfl)) (hd 57 (.val (.bool false)) (by kernel_rfl) (by kernel_rfl)) (gives_loadB (x := (.tmp 181)) (a := ⟨w.heap.size, 0, none⟩) (v := ck2) (by kernel_rfl) (Eq.trans (b := vs 58) (at_eval 181 58 (by kernel_rfl) (by kernel_rfl)) (hd 58 (.val (.pointer (some ⟨w.heap.size, 0, none⟩))) (by kernel_rfl) (by kernel_rfl))) ((HL18.out.fresh he).tt.b9.cell (i := 0) rfl) ⟨Ex.refl _, rfl⟩)) ?_
      refine req_cons (.ours B) (by kernel_rfl) (fun vs w1 he hd => StepG.on (g := 57) (d := 180) (x := false) (v := vs 57) (by kernel_rfl) (by kernel_rfl) (at_tmps 180 57 (by kernel_rfl) (by kernel_rfl)) (hd 57 (.val (.bool false)) (by kernel_rfl) (by kernel_rfl)) (gives_call (f := 15) (xs := #[(.tmp 182)]) (ts := #[22]) (vs := #[(vs 59)]) (by kernel_rfl) (by kernel_rfl) (by simp only [List.map_toArray, List.map_cons, List.map_nil]; rw [at_eval 182 59 (by kernel_rfl) (by kernel_rfl)]) Try.func15 (by kernel_rfl) (by kernel_rfl) (by rw [show vs 59 = ck2 from (hd 59 (.val ck2) (by kernel_rfl) (by kernel_rfl))]; exact told_ours (ours_c ck2 B _ (HL18.out.fresh he).tt.rd.ck (by omega))))) ?_
      refine req_cons (.val (.pointer (some ⟨w.heap.size, 0, none⟩))) (by kernel_rfl) (fun vs w1 he hd => StepG.on (g := 57) (d := 180) (x := false) (v := vs 57) (by kernel_rfl) (by kernel_rfl) (at_tmps 180 57 (by kernel_rfl) (by kernel_rfl)) (hd 57 (.val (.bool false)) (by kernel_rfl) (by kernel_rfl)) (gives_fieldN (x := .tmp 9) (g := w.heap.size) (by kernel_rfl) (Eq.trans (off_eval 9 (by kernel_rfl)) (by kernel_rfl)) ⟨Ex.refl _, rfl⟩)) ?_
      refine req_cons (.val ck2) (by kernel_rfl) (fun vs w1 he hd => StepG.on (g := 57) (d := 180) (x := false) (v := vs 57) (by kernel_rfl) (by kernel_rfl) (at_tmps 180 57 (by kernel_rfl) (by kernel_rfl)) (hd 57 (.val (.bool false)) (by kernel_rfl) (by kernel_rfl)) (gives_loadB (x := (.tmp 184)) (a := ⟨w.heap.size, 0, none⟩) (v := ck2) (by kernel_rfl) (Eq.trans (b := vs 61) (at_eval 184 61 (by kernel_rfl) (by kernel_rfl)) (hd 61 (.val (.pointer (some ⟨w.heap.size, 0, none⟩))) (by kernel_rfl) (by kernel_rfl))) ((HL18.out.fresh he).tt.b9.cell (i := 0) rfl) ⟨Ex.refl _, rfl⟩)) ?_
      refine req_cons (.ours B) (by kernel_rfl) (fun vs w1 he hd => StepG.on (g := 57) (d := 180) (x := false) (v := vs 57) (by kernel_rfl) (by kernel_rfl) (at_tmps 180 57 (by kernel_rfl) (by kernel_rfl)) (hd 57 (.val (.bool false)) (by kernel_rfl) (by kernel_rfl)) (gives_call (f := 17) (xs := #[(.tmp 185)]) (ts := #[22]) (vs := #[(vs 62)]) (by kernel_rfl) (by kernel_rfl) (by simp only [List.map_toArray, List.map_cons, List.map_nil]; rw [at_eval 185 62 (by kernel_rfl) (by kernel_rfl)]) Try.func17 (by kernel_rfl) (by kernel_rfl) (by rw [show vs 62 = ck2 from (hd 62 (.val ck2) (by kernel_rfl) (by kernel_rfl))]; exact told_ours (rours_c ck2 B _ (HL18.out.fresh he).tt.rd.ck (by omega))))) ?_
      refine req_cons (.val (.bool true)) (by kernel_rfl) (fun vs w1 he hd => StepG.on (g := 57) (d := 180) (x := false) (v := vs 57) (by kernel_rfl) (by kernel_rfl) (at_tmps 180 57 (by kernel_rfl) (by kernel_rfl)) (hd 57 (.val (.bool false)) (by kernel_rfl) (by kernel_rfl)) (gives_call (f := 27) (xs := #[(.tmp 183), (.tmp 186)]) (ts := #[38, 43]) (vs := #[(vs 60), (vs 63)]) (by kernel_rfl) (by kernel_rfl) (by simp only [List.map_toArray, List.map_cons, List.map_nil]; rw [at_eval 183 60 (by kernel_rfl) (by kernel_rfl), at_eval 186 63 (by kernel_rfl) (by kernel_rfl)]) Try.func27 (by kernel_rfl) (by kernel_rfl) (same_ours (hd 60 (.ours B) (by kernel_rfl) (by kernel_rfl)) (hd 63 (.ours B) (by kernel_rfl) (by kernel_rfl))))) ?_
      refine req_cons (.val (.bool false)) (by kernel_rfl) (fun vs w1 he hd => StepG.on (g := 57) (d := 180) (x := false) (v := vs 57) (by kernel_rfl) (by kernel_rfl) (at_tmps 180 57 (by kernel_rfl) (by kernel_rfl)) (hd 57 (.val (.bool false)) (by kernel_rfl) (by kernel_rfl)) (gives_not (t := 4) (b := true) (x := (.tmp 187)) (by kernel_rfl) (Eq.trans (b := vs 64) (at_eval 187 64 (by kernel_rfl) (by kernel_rfl)) (hd 64 (.val (.bool true)) (by kernel_rfl) (by kernel_rfl))) ⟨Ex.refl _, rfl⟩)) ?_
      refine req_cons (.val (.bool false)) (by kernel_rfl) (fun vs w1 he hd => StepG.plain (by kernel_rfl) (gives_pick_f (x := (.tmp 180)) (y := (.const (.bool true))) (z := (.tmp 188)) (v := (.bool false)) (by kernel_rfl) (Eq.trans (b := vs 57) (at_eval 180 57 (by kernel_rfl) (by kernel_rfl)) (hd 57 (.val (.bool false)) (by kernel_rfl) (by kernel_rfl))) (Eq.trans (b := vs 65) (at_eval 188 65 (by kernel_rfl) (by kernel_rfl)) (hd 65 (.val (.bool false)) (by kernel_rfl) (by kernel_rfl))) ⟨Ex.refl _, rfl⟩)) ?_
      exact req_nil
    intro vs w19 hx hF
    have e0 : vs 0 = (.slice pa PL.length pc) := told_at hF 0 (.val (.slice pa PL.length pc)) (by decide) (by kernel_rfl)
    have e1 : vs 1 = (.string ⟨(List.toArray PL)⟩) := told_at hF 1 (.val (.string ⟨(List.toArray PL)⟩)) (by decide) (by kernel_rfl)
    have e2 : vs 2 = (.slice qa PL.length qc) := told_at hF 2 (.val (.slice qa PL.length qc)) (by decide) (by kernel_rfl)
    have e3 : vs 3 = (.string ⟨(List.toArray PL)⟩) := told_at hF 3 (.val (.string ⟨(List.toArray PL)⟩)) (by decide) (by kernel_rfl)
    have e4 : vs 4 = (.bool false) := told_at hF 4 (.val (.bool false)) (by decide) (by kernel_rfl)
    have e5 : vs 5 = (.bool false) := told_at hF 5 (.val (.bool false)) (by decide) (by kernel_rfl)
    have e6 : vs 6 = (.int .i64 pe) := told_at hF 6 (.val (.int .i64 pe)) (by decide) (by kernel_rfl)
    have e7 : vs 7 = (.int .i64 pe) := told_at hF 7 (.val (.int .i64 pe)) (by decide) (by kernel_rfl)
    have e8 : vs 8 = (.bool false) := told_at hF 8 (.val (.bool false)) (by decide) (by kernel_rfl)
    have e9 : vs 9 = (.bool false) := told_at hF 9 (.val (.bool false)) (by decide) (by kernel_rfl)
    have e10 : vs 10 = (.bool false) := told_at hF 10 (.val (.bool false)) (by decide) (by kernel_rfl)
    have e11 : vs 11 = (.string vs1) := told_at hF 11 (.val (.string vs1)) (by decide) (by kernel_rfl)
    have e12 : vs 12 = (.string vs1) := told_at hF 12 (.val (.string vs1)) (by decide) (by kernel_rfl)
    have e13 : vs 13 = (.bool false) := told_at hF 13 (.val (.bool false)) (by decide) (by kernel_rfl)
    have e14 : vs 14 = (.bool false) := told_at hF 14 (.val (.bool false)) (by decide) (by kernel_rfl)
    have e15 : vs 15 = (.bool false) := told_at hF 15 (.val (.bool false)) (by decide) (by kernel_rfl)
    have e16 : vs 16 = (.int .i64 (vk : Int)) := told_at hF 16 (.val (.int .i64 (vk : Int))) (by decide) (by kernel_rfl)
    have e17 : vs 17 = (.int .i64 (vk : Int)) := told_at hF 17 (.val (.int .i64 (vk : Int))) (by decide) (by kernel_rfl)
    have e18 : vs 18 = (.bool false) := told_at hF 18 (.val (.bool false)) (by decide) (by kernel_rfl)
    have e19 : vs 19 = (.bool false) := told_at hF 19 (.val (.bool false)) (by decide) (by kernel_rfl)
    have e20 : vs 20 = (.bool false) := told_at hF 20 (.val (.bool false)) (by decide) (by kernel_rfl)
    have e21 : vs 21 = (.int .i64 ve) := told_at hF 21 (.val (.int .i64 ve)) (by decide) (by kernel_rfl)
    have e22 : vs 22 = (.int .i64 ve) := told_at hF 22 (.val (.int .i64 ve)) (by decide) (by kernel_rfl)
    have e23 : vs 23 = (.bool false) := told_at hF 23 (.val (.bool false)) (by decide) (by kernel_rfl)
    have e24 : vs 24 = (.bool false) := told_at hF 24 (.val (.bool false)) (by decide) (by kernel_rfl)
    have e25 : vs 25 = (.bool false) := told_at hF 25 (.val (.bool false)) (by decide) (by kernel_rfl)
    have e26 : vs 26 = (.slice xa XB.length xc) := told_at hF 26 (.val (.slice xa XB.length xc)) (by decide) (by kernel_rfl)
    have e27 : vs 27 = (.string ⟨(List.toArray XB)⟩) := told_at hF 27 (.val (.string ⟨(List.toArray XB)⟩)) (by decide) (by kernel_rfl)
    have e28 : vs 28 = (.slice ya XB.length yc) := told_at hF 28 (.val (.slice ya XB.length yc)) (by decide) (by kernel_rfl)
    have e29 : vs 29 = (.string ⟨(List.toArray XB)⟩) := told_at hF 29 (.val (.string ⟨(List.toArray XB)⟩)) (by decide) (by kernel_rfl)
    have e30 : vs 30 = (.bool false) := told_at hF 30 (.val (.bool false)) (by decide) (by kernel_rfl)
    have e31 : vs 31 = (.bool false) := told_at hF 31 (.val (.bool false)) (by decide) (by kernel_rfl)
    have e32 : vs 32 = (.bool false) := told_at hF 32 (.val (.bool false)) (by decide) (by kernel_rfl)
    have e33 : vs 33 = (.int .i64 xe) := told_at hF 33 (.val (.int .i64 xe)) (by decide) (by kernel_rfl)
    have e34 : vs 34 = (.int .i64 xe) := told_at hF 34 (.val (.int .i64 xe)) (by decide) (by kernel_rfl)
    have e35 : vs 35 = (.bool false) := told_at hF 35 (.val (.bool false)) (by decide) (by kernel_rfl)
    have e36 : vs 36 = (.bool false) := told_at hF 36 (.val (.bool false)) (by decide) (by kernel_rfl)
    have e37 : vs 37 = (.bool false) := told_at hF 37 (.val (.bool false)) (by decide) (by kernel_rfl)
    have e38 : vs 38 = (.agg AC.toArray) := told_at hF 38 (.val (.agg AC.toArray)) (by decide) (by kernel_rfl)
    have e39 : vs 39 = (.agg AC.toArray) := told_at hF 39 (.val (.agg AC.toArray)) (by decide) (by kernel_rfl)
    have e40 : vs 40 = (.bool false) := told_at hF 40 (.val (.bool false)) (by decide) (by kernel_rfl)
    have e41 : vs 41 = (.bool false) := told_at hF 41 (.val (.bool false)) (by decide) (by kernel_rfl)
    have e42 : vs 42 = (.bool false) := told_at hF 42 (.val (.bool false)) (by decide) (by kernel_rfl)
    have e43 : vs 43 = (.int .i64 ae) := told_at hF 43 (.val (.int .i64 ae)) (by decide) (by kernel_rfl)
    have e44 : vs 44 = (.int .i64 ae) := told_at hF 44 (.val (.int .i64 ae)) (by decide) (by kernel_rfl)
    have e45 : vs 45 = (.bool false) := told_at hF 45 (.val (.bool false)) (by decide) (by kernel_rfl)
    have e46 : vs 46 = (.bool false) := told_at hF 46 (.val (.bool false)) (by decide) (by kernel_rfl)
    have e47 : vs 47 = (.bool false) := told_at hF 47 (.val (.bool false)) (by decide) (by kernel_rfl)
    have e48 : vs 48 = (.string zs) := told_at hF 48 (.val (.string zs)) (by decide) (by kernel_rfl)
    have e49 : vs 49 = (.string zs) := told_at hF 49 (.val (.string zs)) (by decide) (by kernel_rfl)
    have e50 : vs 50 = (.bool false) := told_at hF 50 (.val (.bool false)) (by decide) (by kernel_rfl)
    have e51 : vs 51 = (.bool false) := told_at hF 51 (.val (.bool false)) (by decide) (by kernel_rfl)
    have e52 : vs 52 = (.bool false) := told_at hF 52 (.val (.bool false)) (by decide) (by kernel_rfl)
    have e53 : vs 53 = (.int .i64 ze) := told_at hF 53 (.val (.int .i64 ze)) (by decide) (by kernel_rfl)
    have e54 : vs 54 = (.int .i64 ze) := told_at hF 54 (.val (.int .i64 ze)) (by decide) (by kernel_rfl)
    have e55 : vs 55 = (.bool false) := told_at hF 55 (.val (.bool false)) (by decide) (by kernel_rfl)
    have e56 : vs 56 = (.bool false) := told_at hF 56 (.val (.bool false)) (by decide) (by kernel_rfl)
    have e57 : vs 57 = (.bool false) := told_at hF 57 (.val (.bool false)) (by decide) (by kernel_rfl)
    have e58 : vs 58 = (.pointer (some ⟨w.heap.size, 0, none⟩)) := told_at hF 58 (.val (.pointer (some ⟨w.heap.size, 0, none⟩))) (by decide) (by kernel_rfl)
    have e59 : vs 59 = ck2 := told_at hF 59 (.val ck2) (by decide) (by kernel_rfl)
    have e61 : vs 61 = (.pointer (some ⟨w.heap.size, 0, none⟩)) := told_at hF 61 (.val (.pointer (some ⟨w.heap.size, 0, none⟩))) (by decide) (by kernel_rfl)
    have e62 : vs 62 = ck2 := told_at hF 62 (.val ck2) (by decide) (by kernel_rfl)
    have e64 : vs 64 = (.bool true) := told_at hF 64 (.val (.bool true)) (by decide) (by kernel_rfl)
    have e65 : vs 65 = (.bool false) := told_at hF 65 (.val (.bool false)) (by decide) (by kernel_rfl)
    have e66 : vs 66 = (.bool false) := told_at hF 66 (.val (.bool false)) (by decide) (by kernel_rfl)
    simp only [List.length_cons, List.length_nil, actsTo, if_true, dstOf, List.getElem?_toArray, List.getElem?_cons_succ, List.getElem?_cons_zero, Option.bind_some, Act.put, List.setIfInBounds_toArray, List.set_cons_zero, List.set_cons_succ]
    simp only [e0, e1, e2, e3, e4, e5, e6, e7, e8, e9, e10, e11, e12, e13, e14, e15, e16, e17, e18, e19, e20, e21, e22, e23, e24, e25, e26, e27, e28, e29, e30, e31, e32, e33, e34, e35, e36, e37, e38, e39, e40, e41, e42, e43, e44, e45, e46, e47, e48, e49, e50, e51, e52, e53, e54, e55, e56, e57, e58, e59, e61, e62, e64, e65, e66]
    generalize vs 60 = y60
    generalize vs 63 = y63
    clear hF e0 e1 e2 e3 e4 e5 e6 e7 e8 e9 e10 e11 e12 e13 e14 e15 e16 e17 e18 e19 e20 e21 e22 e23 e24 e25 e26 e27 e28 e29 e30 e31 e32 e33 e34 e35 e36 e37 e38 e39 e40 e41 e42 e43 e44 e45 e46 e47 e48 e49 e50 e51 e52 e53 e54 e55 e56 e57 e58 e59 e61 e62 e64 e65 e66 vs
    have HL19 := hidden (HL18.out.fresh hx)
    clear hx HL18 HB18 HC18 HNE HAS HA1 HA8
    obtain ⟨L, hL⟩ : ∃ L, L = XB.length := ⟨_, rfl⟩
    rw [← hL] at HL19 hel ⊢
    have HL := hidden hL
    clear hL
    go_upto_if 192 with fail
    go_cut [38] from 192 to 203 (fun _ wx => ∃ Y : List UInt8, Y.length = L ∧ BSl wx (.slice ya L yc) Y ∧ (∀ k, (Value.slice ya L yc).ownBlock = some k → k < wx.heap.size) ∧ Below w.heap.size w wx)
    case first =>
      by_cases hpos : 0 < L
      rotate_left
      · have hneg : ¬ ((0 : Int) < (L : Int)) := by omega
        go_wp2_with fail
        go_meet
        case rel => exact ⟨XB, HL.out.symm, HL19.out.y.bsl, fun k e => (HL19.out.y.lt k e).2, HL19.out.tt.bel⟩
      · have hposi : (0 : Int) < (L : Int) := by omega
        obtain ⟨g, cap, hsl, hor⟩ := HL19.out.y.row (fun h => by have h2 := HL.out; rw [h] at h2; simp at h2; omega)
        injection hsl with q1 q2 q3
        subst q1
        subst q3
        clear q2
        obtain ⟨L1, hL1⟩ : ∃ L1, L = L1 + 1 := ⟨L - 1, by omega⟩
        have hL1i : (L : Int) - 1 = (L1 : Int) := by omega
        have hL1w : IntKind.i64.wrap (L1 : Int) = (L1 : Int) := by rw [IntKind.wrap_i64]; omega
        have hL1b : L1 ≤ 20000 := by omega
        have HLL : Hid (L1 < L) := by show _ < _; omega
        have HOR := hidden hor
        have HY := hidden HL19.out.y.lt
        have HB19 := hidden HL19.out.tt.bel
        clear hL1 hor HL19
        go_wp2_with fail
        refine (within_c at0 L1 (by omega) _).mono ?_
        rintro e w20 ⟨k, rfl, hk, rfl⟩
        have hkL : (k : Int) < (L : Int) := by have := HLL.out; omega
        have hc8 := HOR.out.cell k (by rw [← HL.out]; omega)
        have hf8 := HOR.out.frozen k
        have hxb := xbyte (XB.getD k 0) turn
        have HR9 := hidden (HOR.out.set k (XB.getD k 0 ^^^ turn))
        have HL9 : Hid ((XB.set k (XB.getD k 0 ^^^ turn)).length = L) := by show _ = _; rw [List.length_set]; exact HL.out.symm
        generalize (XB.getD k 0).toNat = y0 at hc8 hxb
        generalize XB.set k (XB.getD k 0 ^^^ turn) = S9 at HR9 HL9
        generalize (XB.getD k 0 ^^^ turn).toNat = y1 at hxb HR9
        have hgy : w.heap.size + 2 ≤ g := HOR.out.1
        have HB9 := hidden (Below.setCell (p := ⟨g, k, none⟩) HB19.out (by show w.heap.size ≤ g; omega) (.int .u8 (y1 : Int)))
        have HLT9 : Hid (∀ k', (Value.slice (some ⟨g, 0, none⟩) L yc).ownBlock = some k' → k' < (w20.setCell ⟨g, k, none⟩ (.int .u8 (y1 : Int))).heap.size) := fun k' e => by simpa using (HY.out k' e).2
        clear HB19 HOR HY hk
        go_wp2_with fail
        go_meet
        case rel =>
          refine ⟨S9, HL9.out, ?_, HLT9.out, HB9.out⟩
          have := HR9.out.bsl
          rwa [HL9.out] at this
    case rest =>
      obtain ⟨Y, hY, hy, hyb, hbx⟩ := hcut
      clear HL19
      have HYL := hidden hY
      have HYS := hidden hy
      have HYB := hidden hyb
      have HBX := hidden hbx
      clear hY hy hyb hbx
      go_upto_region 22 with fail
      have HG0 := hidden (LBox.new wc 22 [.slice ya L yc, .slice ba be.length bc])
      have hbn : Below wc.heap.size wc (wc.alloc (.cells #[.slice ya L yc, .slice ba be.length bc] 22)) := (Below.refl _ wc).alloc (Nat.le_refl _) _
      have HY1 := hidden (HYS.out.fresh hbn)
      have HYB1 : Hid (∀ k, (Value.slice ya L yc).ownBlock = some k → k < (wc.alloc (.cells #[.slice ya L yc, .slice ba be.length bc] 22)).heap.size) := fun k e => Nat.lt_of_lt_of_le (HYB.out k e) hbn.size
      have HB1 := hidden (HBX.out.trans (hbn.mono HBX.out.size))
      change Code.wp _ _ _ _ (wc.alloc (.cells #[.slice ya L yc, .slice ba be.length bc] 22))
      change Hid (LBox (wc.alloc (.cells #[.slice ya L yc, .slice ba be.length bc] 22)) _ _ _) at HG0
      clear hbn HYS HYB HBX
      generalize wc.alloc (.cells #[.slice ya L yc, .slice ba be.length bc] 22) = w21 at HG0 HY1 HYB1 HB1 ⊢
      generalize wc.heap.size = G at HG0 ⊢
      have hbel : be.length ≤ 400 := hbl
      go_loopw [208] (fun i wr => ∃ k : Nat, k ≤ 2 ∧ i = .int .i64 k ∧ LBox wr G 22 [.slice ya L yc, .slice ba be.length bc] ∧ BSl wr (.slice ya L yc) Y ∧ (∀ k, (Value.slice ya L yc).ownBlock = some k → k < wr.heap.size) ∧ Below w.heap.size w wr) (fun i _ => 2 - (intOf i).toNat)
      case atStart => exact ⟨0, by omega, rfl, HG0.out, HY1.out, HYB1.out, HB1.out⟩
      case round =>
        clear HG0 HY1 HYB1 HB1
        obtain ⟨k, hk, rfl, hg, hy, hyb, hb⟩ := hrel
        have HGR := hidden hg
        have HY := hidden hy
        have HYB := hidden hyb
        have HB := hidden hb
        clear hg hy hyb hb
        by_cases hlt : k < 2
        · have hik : (k : Int) < 2 := by omega
          obtain ⟨u, xs, hcu, hux, hxl, hub⟩ : ∃ u xs, wr.cell? ⟨G, k, none⟩ = some u ∧ BSl wr u xs ∧ xs.length ≤ 20000 ∧ (∀ k, u.ownBlock = some k → k < wr.heap.size) := by
            rcases (show k = 0 ∨ k = 1 by omega) with rfl | rfl
            · exact ⟨_, Y, HGR.out.cell (i := 0) rfl, HY.out, by rw [HYL.out]; exact hel, HYB.out⟩
            · exact ⟨_, be, HGR.out.cell (i := 1) rfl, HBE.out.fresh HB.out, by omega, fun j e => Nat.lt_of_lt_of_le (HBK.out j e) HB.out.size⟩
          obtain ⟨ua, uc, rfl, huc1, huc2, _⟩ := id hux
          have HUX := hidden hux
          have HUB := hidden hub
          clear hux hub
          generalize hxn : xs.length = n at hxl hcu HUX HUB huc1 ⊢
          have HXN := hidden hxn
          clear hxn
          go_wp2_with fail
          refine (decode_c _ xs _ HUX.out (by have := HXN.out; omega)).mono ?_
          rintro e w22 ⟨dck, dnm, rfl, hrd22, _, _, hb22⟩
          have HR22 := hidden hrd22
          have HB22 := hidden (HB.out.trans (hb22.mono HB.out.size))
          have HG22 := hidden (HGR.out.fresh hb22)
          have HY22 := hidden (HY.out.fresh hb22)
          have HU22 := hidden (HUX.out.fresh hb22)
          have HYB22 : Hid (∀ k, (Value.slice ya L yc).ownBlock = some k → k < w22.heap.size) := fun k e => Nat.lt_of_lt_of_le (HYB.out k e) hb22.size
          have HUB22 : Hid (∀ k, (Value.slice ua n uc).ownBlock = some k → k < w22.heap.size) := fun k e => Nat.lt_of_lt_of_le (HUB.out k e) hb22.size
          have HS22 := hidden (size_lcells (ck := dck) (fo := decF xs) hrd22.nl)
          have HO22 := hidden (hrd22.one (fo := decF xs))
          have HE22 := hidden (noL_same (ck := dck) (fo := decF xs) hrd22.nl)
          have HN22 := hidden (LBox.new w22 38 noL)
          obtain ⟨CC, hCC⟩ : ∃ CC, CC = lcells dck dnm (decF xs) := ⟨_, rfl⟩
          rw [← hCC] at HS22 HO22 HE22 ⊢
          have HCC := hidden hCC
          have hb23 := below_place w22 38 noL CC
          have HX23 := hidden (HN22.out.row CC)
          have HR23 := hidden (HR22.out.fresh hb23)
          have HB23 := hidden (HB22.out.trans (hb23.mono HB22.out.size))
          have HG23 := hidden (HG22.out.fresh hb23)
          have HY23 := hidden (HY22.out.fresh hb23)
          have HU23 := hidden (HU22.out.fresh hb23)
          have HYB23 : Hid (∀ k, (Value.slice ya L yc).ownBlock = some k → k < ((w22.alloc (.cells noL.toArray 38)).setRow w22.heap.size CC.toArray).heap.size) := fun k e => Nat.lt_of_lt_of_le (HYB22.out k e) hb23.size
          have HUB23 : Hid (∀ k, (Value.slice ua n uc).ownBlock = some k → k < ((w22.alloc (.cells noL.toArray 38)).setRow w22.heap.size CC.toArray).heap.size) := fun k e => Nat.lt_of_lt_of_le (HUB22.out k e) hb23.size
          clear hCC hrd22 hb22 HR22 HB22 HG22 HY22 HU22 HYB22 HUB22 hb23 HB HGR HY HYB HUX HUB hcu
          go_upto_region 25 with (refine wpList_store_row rfl 38 (.tmp 39) (.tmp 215) rfl w22.heap.size CC.toArray rfl rfl 38 _ HN22.out HS22.out HE22.out HO22.out ?_)
          change Code.wp _ _ _ _ ((w22.alloc (.cells noL.toArray 38)).setRow w22.heap.size CC.toArray)
          clear HN22 HE22 HO22
          generalize (w22.alloc (.cells noL.toArray 38)).setRow w22.heap.size CC.toArray = w23 at HX23 HR23 HB23 HG23 HY23 HU23 HYB23 HUB23 ⊢
          generalize w22.heap.size = g39 at HX23 ⊢
          go_wp2_with fail
          refine (rdecode_c _ xs _ HU23.out (by have := HXN.out; omega) HUB23.out).mono ?_
          rintro e w24 ⟨eck, enm, rfl, hrd24, _, _, hb24⟩
          obtain ⟨CD, hCD⟩ : ∃ CD, CD = lcells eck enm (decF xs) := ⟨_, rfl⟩
          have HCD := hidden hCD
          have HS24 : Hid ((Try.prog.info? 43).map (·.size) = some CD.toArray.size) := by rw [HCD.out, List.size_toArray, lcells_len hrd24.nl]; exact sizeR
          have HO24 : Hid (CD.toArray.all (·.oneCell') = true) := by rw [HCD.out]; exact hrd24.one (fo := decF xs)
          have HE24 : Hid (noL.toArray.size = CD.toArray.size) := by rw [HCD.out]; exact noL_same (ck := eck) (fo := decF xs) hrd24.nl
          have HN24 := hidden (LBox.new w24 43 noL)
          have hb25 := below_place w24 43 noL CD
          have hb26 : Below w23.heap.size w23 ((w24.alloc (.cells noL.toArray 43)).setRow w24.heap.size CD.toArray) := hb24.trans (hb25.mono hb24.size)
          have HZ25 := hidden (HN24.out.row CD)
          have HX25 := hidden (HX23.out.fresh hb26)
          have HR25 := hidden (HR23.out.fresh hb26)
          have HQ25 := hidden (hrd24.fresh hb25)
          have HB25 := hidden (HB23.out.trans (hb26.mono HB23.out.size))
          have HG25 := hidden (HG23.out.fresh hb26)
          have HY25 := hidden (HY23.out.fresh hb26)
          have HYB25 : Hid (∀ k, (Value.slice ya L yc).ownBlock = some k → k < ((w24.alloc (.cells noL.toArray 43)).setRow w24.heap.size CD.toArray).heap.size) := fun k e => Nat.lt_of_lt_of_le (HYB23.out k e) hb26.size
          rw [← hCD]
          clear hCD hrd24 hb24 hb25 hb26 HX23 HR23 HB23 HG23 HY23 HU23 HYB23 HUB23
          go_upto_region 26 with (refine wpList_store_row rfl 43 (.tmp 41) (.tmp 220) rfl w24.heap.size CD.toArray rfl rfl 43 _ HN24.out HS24.out HE24.out HO24.out ?_)
          change Code.wp _ _ _ _ ((w24.alloc (.cells noL.toArray 43)).setRow w24.heap.size CD.toArray)
          clear HN24 HE24 HO24
          generalize (w24.alloc (.cells noL.toArray 43)).setRow w24.heap.size CD.toArray = w25 at HZ25 HX25 HR25 HQ25 HB25 HG25 HY25 HYB25 ⊢
          generalize w24.heap.size = g41 at HZ25 ⊢
          generalize decE xs = de
          go_wp2_with (first
            | (refine wpList_loadAgg rfl 38 (.tmp 39) rfl g39 CC.toArray 38 (0, 0) rfl HX25.out Try.underlying38 HS22.out ?_)
            | (refine wpList_loadAgg rfl 43 (.tmp 41) rfl g41 CD.toArray 43 (0, 0) rfl HZ25.out Try.underlying43 HS24.out ?_))
          rw [HCC.out, HCD.out]
          refine (same_c dck eck dnm enm (decF xs) (decC xs) (decN xs) _ HR25.out HQ25.out).mono ?_
          rintro e w26 ⟨rfl, hb26⟩
          have HB26 := hidden (HB25.out.trans (hb26.mono HB25.out.size))
          have HG26 := hidden (HG25.out.fresh hb26)
          have HY26 := hidden (HY25.out.fresh hb26)
          have HYB26 : Hid (∀ k, (Value.slice ya L yc).ownBlock = some k → k < w26.heap.size) := fun k e => Nat.lt_of_lt_of_le (HYB25.out k e) hb26.size
          clear hb26 HX25 HZ25 HR25 HQ25 HB25 HG25 HY25 HYB25 HS22 HS24
          go_wp2_with fail
          go_roundw
          case rel => exact ⟨k + 1, by omega, by go_num, HG26.out, HY26.out, HYB26.out, HB26.out⟩
          case measure => simp [intOf]; omega
        · have hik : ¬ (k : Int) < 2 := by omega
          go_wp2_with fail
          refine (known_c _).mono ?_
          rintro e w30 ⟨rfl, hb30⟩
          have HB30 := hidden (HB.out.trans (hb30.mono HB.out.size))
          go_wp2
          go_ret
          exact ⟨rfl, HB30.out⟩
end Go.Proofs.Ytnnhffjajbiicaa
