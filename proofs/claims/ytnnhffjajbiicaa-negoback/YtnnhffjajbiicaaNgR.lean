/- The walk of the law NegoBack. -/
import Derived.Test.YtnnhffjajbiicaaNgQ
import Derived.Deep.CutBlock
import Derived.Deep.CutRange
namespace Go.Proofs.Ytnnhffjajbiicaa
open Go Go.RowKit

/-- What the law holds in its two boxes: both Lists, made short. -/
structure Two (w W : World) (ck : Value) (nm : List Value) (fo : Bool) (B : List UInt8) (ls : List (List ByteArray)) (dk : Value) (om : List Value) (fp : Bool) (os : List (List ByteArray)) : Prop where
  b6 : LBox W w.heap.size 38 (lcells ck nm fo)
  b7 : LBox W (w.heap.size + 1) 38 (lcells dk om fp)
  rd : LRd W ck nm B ls
  on : om.length = 10
  os : ∀ i, i < 10 → SSl W (om.getD i undef) (os.getD i [])
  ock : ∀ k, ck.ownBlock = some k → w.heap.size + 2 ≤ k
  onm : ∀ i, i < 10 → ∀ k, (nm.getD i undef).ownBlock = some k → w.heap.size + 2 ≤ k
  oom : ∀ i, i < 10 → ∀ k, (om.getD i undef).ownBlock = some k → w.heap.size + 2 ≤ k
  bel : Below w.heap.size w W
theorem Two.fresh {w W W' : World} {ck : Value} {nm : List Value} {fo : Bool} {B : List UInt8} {ls : List (List ByteArray)} {dk : Value} {om : List Value} {fp : Bool} {os : List (List ByteArray)} (h : Two w W ck nm fo B ls dk om fp os) (hb : Below W.heap.size W W') : Two w W' ck nm fo B ls dk om fp os :=
  ⟨h.b6.fresh hb, h.b7.fresh hb, h.rd.fresh hb, h.on, fun i hi => (h.os i hi).fresh hb, h.ock, h.onm, h.oom, h.bel.trans (hb.mono h.bel.size)⟩
theorem Two.still {w W W' : World} {ck : Value} {nm : List Value} {fo : Bool} {B : List UInt8} {ls : List (List ByteArray)} {dk : Value} {om : List Value} {fp : Bool} {os : List (List ByteArray)} (h : Two w W ck nm fo B ls dk om fp os) (hb : Still W W') : Two w W' ck nm fo B ls dk om fp os :=
  h.fresh (still_below hb (Nat.le_refl _))

theorem Two.set {w W : World} {ck : Value} {nm : List Value} {fo : Bool} {B : List UInt8} {ls : List (List ByteArray)} {dk : Value} {om : List Value} {fp : Bool} {os : List (List ByteArray)} (h : Two w W ck nm fo B ls dk om fp os) {k : Nat} (hk : k < 10) {v : Value} {l : List ByteArray} (hv : SSl W v l) (ho : ∀ j, v.ownBlock = some j → w.heap.size + 2 ≤ j) :
    Two w (W.setCell ⟨w.heap.size, 1 + k, none⟩ v) ck (nm.set k v) fo B (ls.set k l) dk om fp os := by
  have hset := keeps_set W w.heap.size (1 + k) v
  have hnl := h.rd.nl
  have hll := h.rd.ll
  refine ⟨?_, h.b7.other (by omega) _ _, ⟨h.rd.ck.keep hset (fun j e e2 => by have := h.ock j e; omega), by simpa using hnl, by simpa using hll, fun i hi => ?_⟩, h.on, fun i hi => (h.os i hi).keep hset (fun j e e2 => by have := h.oom i hi j e; omega), h.ock, fun i hi j e => ?_, h.oom, h.bel.setCell (p := ⟨w.heap.size, 1 + k, none⟩) (Nat.le_refl _) _⟩
  · have := h.b6.set (1 + k) v
    rwa [lcells_set hnl hk] at this
  · rw [getD_set_list]
    by_cases e : k = i
    · subst e
      rw [getD_set_eq (by omega), if_pos ⟨rfl, by omega⟩]
      exact hv.keep hset (fun j e e2 => by have := ho j e; omega)
    · rw [getD_set_ne e, if_neg (fun h => e h.1)]
      exact (h.rd.nm i hi).keep hset (fun j e e2 => by have := h.onm i hi j e; omega)
  · by_cases e' : k = i
    · subst e'
      rw [getD_set_eq (by omega)] at e
      exact ho j e
    · rw [getD_set_ne e'] at e
      exact h.onm i hi j e

set_option maxHeartbeats 1600000 in
set_option maxRecDepth 100000 in
theorem negoBack_c (s0 : ByteArray) (bv : Value) (be0 : List UInt8) (ck : Value) (nm : List Value) (fo : Bool) (bs : List UInt8) (ls : List (List ByteArray)) (dk : Value) (om : List Value) (fp : Bool) (cs : List UInt8) (os : List (List ByteArray)) (w : World) (hb : BSl w bv be0) (hbl : be0.length ≤ 140737488351232) (h : LRd w ck nm bs ls) (g : LRd w dk om cs os) :
    Calls Try.prog 5 #[.string s0, bv, .agg (lcells ck nm fo).toArray, .agg (lcells dk om fp).toArray] w fun e w' => e = .returned (.bool true) ∧ Below w.heap.size w w' := by
  obtain ⟨i0, hi, hz0, hz1, hz2⟩ := info_parts Try.infoU8
  obtain ⟨j0, ji, jz0, jz1, jz2⟩ := info_parts Try.infoStr
  have HH := hidden h
  have HG := hidden g
  have HV := hidden hb
  obtain ⟨ba, bc, rfl, hbc1, hbc2, _⟩ := id hb
  clear h g hb
  have HSC := hidden (size_lcells (ck := ck) (fo := fo) HH.out.nl)
  have HSD := hidden (size_lcells (ck := dk) (fo := fp) HG.out.nl)
  obtain ⟨hx6, hx7, hbx, hsz⟩ := box_two w 38 38 (lcells ck nm fo) (lcells dk om fp)
  go_enter Try.func5, Try.ntmps5
  go_upto_region 1 with fail
  generalize (w.alloc (.cells (lcells ck nm fo).toArray 38)).alloc (.cells (lcells dk om fp).toArray 38) = W at hx6 hx7 hbx hsz ⊢
  go_wp2_with (first
    | (refine wpList_loadAgg rfl 38 (.tmp 6) rfl w.heap.size (lcells ck nm fo).toArray 38 (0, 0) rfl hx6 Try.underlying38 HSC.out ?_))
  refine (short_c ck nm fo bs ls _ (HH.out.fresh hbx)).mono ?_
  rintro e w1 ⟨ck1, nm1, rfl, hcu1, hrd1, how1, hb1⟩
  have HX6 := hidden (few_six (ls := ls))
  have HTM1 := hidden (short_tame (ls := ls))
  have HS1 := hidden (size_lcells (ck := ck1) (fo := fo) hrd1.nl)
  have HO1 := hidden (hrd1.one (fo := fo))
  have HE1 := hidden (size_same (ck := ck) (dk := ck1) (fo := fo) (go := fo) HH.out.nl hrd1.nl)
  have HB1 := hidden (hx6.fresh hb1)
  have hsz1 : w.heap.size + 2 ≤ w1.heap.size := by have := hb1.size; omega
  have hrd2 : LRd (w1.setRow w.heap.size (lcells ck1 nm1 fo).toArray) ck1 nm1 (bs.take 20) (ls.map fun l => fewL l 6 66) := by
    have hbb : Below w.heap.size w (w1.setRow w.heap.size (lcells ck1 nm1 fo).toArray) := below_setRow (hbx.trans (hb1.mono hbx.size)) (Nat.le_refl _) _
    exact ⟨(hcu1 w HH.out.ck).fresh hbb, hrd1.nl, hrd1.ll, fun i hi => (hrd1.nm i hi).keep (keeps_row w1 w.heap.size _) (fun k e e2 => by have := how1 i hi k e; omega)⟩
  have hbw2 : Below w.heap.size w (w1.setRow w.heap.size (lcells ck1 nm1 fo).toArray) := below_setRow (hbx.trans (hb1.mono hbx.size)) (Nat.le_refl _) _
  have h62 : LBox (w1.setRow w.heap.size (lcells ck1 nm1 fo).toArray) w.heap.size 38 (lcells ck1 nm1 fo) := HB1.out.row _
  have h72 : LBox (w1.setRow w.heap.size (lcells ck1 nm1 fo).toArray) (w.heap.size + 1) 38 (lcells dk om fp) := (hx7.fresh hb1).keep (keeps_row w1 w.heap.size _) (by omega)
  have HCU : Hid (BSl w ck1 (bs.take 20)) := hcu1 w HH.out.ck
  have HN1 : Hid (∀ i, i < 10 → ∀ k, (nm1.getD i undef).ownBlock = some k → w.heap.size + 2 ≤ k) := fun i hi k e => by have := how1 i hi k e; omega
  have hL1 : (ls.map fun l => fewL l 6 66).length = 10 := hrd1.ll
  generalize (ls.map fun l => fewL l 6 66) = l1 at hrd2 HX6 HTM1 hL1
  clear hx6 hx7 hbx hb1 hcu1 hrd1 how1
  go_upto_region 2 with (refine wpList_store_row rfl 38 (.tmp 6) (.tmp 28) rfl w.heap.size (lcells ck1 nm1 fo).toArray rfl rfl 38 _ HB1.out HS1.out HE1.out HO1.out ?_)
  have hszW : w.heap.size + 2 ≤ (w1.setRow w.heap.size (lcells ck1 nm1 fo).toArray).heap.size := by simpa using hsz1
  generalize w1.setRow w.heap.size (lcells ck1 nm1 fo).toArray = w2 at hrd2 hbw2 h62 h72 hszW ⊢
  clear HS1 HO1 HE1 HB1 hsz1
  go_wp2_with (first
    | (refine wpList_loadAgg rfl 38 (.tmp 7) rfl (w.heap.size + 1) (lcells dk om fp).toArray 38 (0, 0) rfl h72 Try.underlying38 HSD.out ?_))
  refine (short_c dk om fp cs os _ (HG.out.fresh hbw2)).mono ?_
  rintro e w3 ⟨dk1, om1, rfl, hcu3, hrd3, how3, hb3⟩
  have HS1 := hidden (size_lcells (ck := dk1) (fo := fp) hrd3.nl)
  have HO1 := hidden (hrd3.one (fo := fp))
  have HE1 := hidden (size_same (ck := dk) (dk := dk1) (fo := fp) (go := fp) HG.out.nl hrd3.nl)
  have HB1 := hidden (h72.fresh hb3)
  have hsz3 : w.heap.size + 2 ≤ w3.heap.size := Nat.le_trans hszW hb3.size
  have h63 : LBox (w3.setRow (w.heap.size + 1) (lcells dk1 om1 fp).toArray) w.heap.size 38 (lcells ck1 nm1 fo) := (h62.fresh hb3).keep (keeps_row w3 (w.heap.size + 1) _) (by omega)
  have h73 : LBox (w3.setRow (w.heap.size + 1) (lcells dk1 om1 fp).toArray) (w.heap.size + 1) 38 (lcells dk1 om1 fp) := HB1.out.row _
  have hbw4 : Below w.heap.size w (w3.setRow (w.heap.size + 1) (lcells dk1 om1 fp).toArray) := below_setRow (hbw2.trans (hb3.mono hbw2.size)) (by omega) _
  have hnm4 : ∀ i, i < 10 → SSl (w3.setRow (w.heap.size + 1) (lcells dk1 om1 fp).toArray) (nm1.getD i undef) (l1.getD i []) := fun i hi => ((hrd2.fresh hb3).nm i hi).keep (keeps_row w3 (w.heap.size + 1) _) (fun k e e2 => by have := HN1.out i hi k e; omega)
  have hom4 : ∀ i, i < 10 → SSl (w3.setRow (w.heap.size + 1) (lcells dk1 om1 fp).toArray) (om1.getD i undef) ((os.map fun l => fewL l 6 66).getD i []) := fun i hi => (hrd3.nm i hi).keep (keeps_row w3 (w.heap.size + 1) _) (fun k e e2 => by have := how3 i hi k e; omega)
  have HON : Hid (∀ i, i < 10 → ∀ k, (om1.getD i undef).ownBlock = some k → w.heap.size + 2 ≤ k) := fun i hi k e => by have := how3 i hi k e; omega
  have hnl1 := hrd2.nl
  have hol1 := hrd3.nl
  generalize (os.map fun l => fewL l 6 66) = o1 at hom4
  clear h72 h62 hbw2 hb3 hcu3 hrd3 how3 hrd2 hszW
  go_upto_region 3 with (refine wpList_store_row rfl 38 (.tmp 7) (.tmp 30) rfl (w.heap.size + 1) (lcells dk1 om1 fp).toArray rfl rfl 38 _ HB1.out HS1.out HE1.out HO1.out ?_)
  have hszW : w.heap.size + 2 ≤ (w3.setRow (w.heap.size + 1) (lcells dk1 om1 fp).toArray).heap.size := by simpa using hsz3
  generalize w3.setRow (w.heap.size + 1) (lcells dk1 om1 fp).toArray = w4 at h63 h73 hbw4 hnm4 hom4 hszW ⊢
  have hc4 := h63.cell (show (lcells ck1 nm1 fo)[0]? = some ck1 from rfl)
  go_wp2_with fail
  refine (sized_b 16 (by omega) ck1 (bs.take 20) _ (HCU.out.fresh hbw4)).mono ?_
  rintro e w5 ⟨rfl, hbs5, hb5⟩
  have h16 : (sizedL (bs.take 20) 16).length = 16 := sizedL_length _ _
  generalize sizedL (bs.take 20) 16 = B at hbs5 h16
  have hx5 := h63.fresh hb5
  have hcl5 := hx5.cell (show (lcells ck1 nm1 fo)[0]? = some ck1 from rfl)
  have hfr5 := hx5.free
  have h75 := (h73.fresh hb5).other (C := w.heap.size) (by omega) 0 (.slice (some ⟨w4.heap.size, 0, none⟩) 16 16)
  have hset := keeps_set w5 w.heap.size 0 (.slice (some ⟨w4.heap.size, 0, none⟩) 16 16)
  have h65 := hx5.set 0 (.slice (some ⟨w4.heap.size, 0, none⟩) 16 16)
  rw [lcells_ck] at h65
  have hbw6 := (hbw4.trans (hb5.mono hbw4.size)).setCell (p := ⟨w.heap.size, 0, none⟩) (Nat.le_refl _) (.slice (some ⟨w4.heap.size, 0, none⟩) 16 16)
  have TW : Two w (w5.setCell ⟨w.heap.size, 0, none⟩ (.slice (some ⟨w4.heap.size, 0, none⟩) 16 16)) (.slice (some ⟨w4.heap.size, 0, none⟩) 16 16) nm1 fo B l1 dk1 om1 fp o1 := by
    refine ⟨h65, h75, ⟨hbs5.keep hset (fun k e e2 => by have : w4.heap.size = k := by simpa [Value.ownBlock] using e
                                                        omega), hnl1, hL1, fun i hi => ((hnm4 i hi).fresh hb5).keep hset (fun k e e2 => by have := HN1.out i hi k e; omega)⟩, hol1, fun i hi => ((hom4 i hi).fresh hb5).keep hset (fun k e e2 => by have := HON.out i hi k e; omega), fun k e => ?_, HN1.out, HON.out, hbw6⟩
    have : w4.heap.size = k := by simpa [Value.ownBlock] using e
    omega
  have HTW := hidden TW
  have H16 := hidden h16
  clear TW h65 h75 hbw6 hset hx5 hbs5 hb5 hc4 h63 h73 hbw4 hnm4 hom4 HN1 HON HCU HB1 HS1 HO1 HE1 h16 hL1 hnl1 hol1 hsz3 hszW
  go_upto_region 4 with fail
  generalize w5.setCell ⟨w.heap.size, 0, none⟩ (.slice (some ⟨w4.heap.size, 0, none⟩) 16 16) = w6 at HTW ⊢
  generalize (Value.slice (some ⟨w4.heap.size, 0, none⟩) 16 16) = ck2 at HTW ⊢
  go_wp2_with fail
  refine (head_c s0 260 (by omega) _).mono ?_
  rintro e w7 ⟨rfl, rfl⟩
  have HHR := hidden (@head_right s0)
  have hss : (s0.extract 0 260).size ≤ 260 := by simp; omega
  generalize s0.extract 0 260 = s at hss HHR ⊢
  go_wp2_with fail
  refine (line_c s _ (by omega)).mono ?_
  rintro e w8 ⟨v8, rfl, hv8, ho8, hb8⟩
  have HTW8 := hidden (HTW.out.fresh hb8)
  obtain ⟨lv, hlv⟩ : ∃ lv, lv = lineL s := ⟨_, rfl⟩
  rw [← hlv] at hv8
  obtain ⟨va, vc, rfl, hvc1, hvc2, _⟩ := id hv8
  have HV8 := hidden hv8
  have HLV := hidden hlv
  clear hv8 ho8 hb8 HTW hlv hcl5 hfr5
  obtain ⟨el, hel⟩ : ∃ el, el = lineE s := ⟨_, rfl⟩
  rw [← hel]
  have HEL := hidden hel
  clear hel
  obtain ⟨q, hq⟩ : ∃ q, (el == 0) = q := ⟨_, rfl⟩
  go_upto_if 42 with fail
  have HQ := hidden hq
  clear hq
  go_cut [11, 12, 13] from 43 to 65 (fun _ _ _ wx => Two w wx ck2 nm1 fo B l1 dk1 om1 fp o1)
  case first =>
    cases hr : rightV s with
    | false =>
      obtain rfl : q = false := by rw [← HQ.out, HEL.out]; simp [lineE, hr]
      go_wp2_with fail
      go_meet
      case rel => exact HTW8.out
    | true =>
      obtain rfl : q = true := by rw [← HQ.out, HEL.out]; simp [lineE, hr]
      have HS0 := hidden (HHR.out hr)
      have HVB := hidden (fun C => version_back hr C)
      have hln := lineL_len hr
      have hsz := rightV_size hr
      rw [← HLV.out] at HVB hln
      have hbe : BSl w8 (.slice ba be0.length bc) be0 := HV.out.fresh HTW8.out.bel
      have hxm : lv.length + be0.length ≤ 140737488355328 := by omega
      have hlv2 : lv.length ≤ 300 := by omega
      have HLN := hidden hln
      clear hln HHR
      go_wp2_with (at_builtin; refine wpList_append_src _ rfl (.tmp 44) (.tmp 45) 22 22 rfl w8.heap.size 5 i0 _ 1 Try.underlying22 hi hz0 hz1 hz2 rfl _ 0 [] rfl (own_empty w8) _ lv.length (bcells lv) rfl (HV8.out.alloc _).src (by unfold maxLen; omega) (by omega) (by simp) (w8.heap.size + 1) (by simp) ?_)
      intro v14 w14 hown14 hgrow14 hnil14 hat14
      obtain ⟨a14, c14, rfl⟩ := ownsRow_shape hown14
      have hb14 : Below w8.heap.size w8 w14 := ((Below.refl _ w8).alloc (Nat.le_refl _) _).grown hgrow14 (by simp) (fun g hg => by simp [Value.ownBlock] at hg; omega)
      have hm14 := hbe.fresh hb14
      have HO14 := hidden hown14
      have HB14 := hidden hb14
      clear hown14 hgrow14 hnil14 hat14 hb14 hbe
      go_wp2_with (at_builtin; refine wpList_append_src _ rfl (.tmp 46) (.tmp 47) 22 22 rfl w8.heap.size 5 i0 _ 1 Try.underlying22 hi hz0 hz1 hz2 rfl _ _ _ rfl HO14.out _ be0.length (bcells be0) rfl hm14.src (by unfold maxLen; omega) (by omega) HB14.out.size w14.heap.size rfl ?_)
      intro v15 w15 hown15 hgrow15 hnil15 hat15
      have hb15 : Below w8.heap.size w8 w15 := HB14.out.grown hgrow15 HB14.out.size (fun g hg => (HO14.out.lt g hg).1)
      have hbs15 : BSl w15 v15 (lv ++ be0) := by
        refine BSl.ofRow (base := w8.heap.size) (n := 0 + lv.length + be0.length) ?_
        rw [bcells_append]
        simpa using hown15
      have HTW15 := hidden (HTW8.out.fresh hb15)
      clear hown15 hgrow15 hnil15 hat15 hb15 hm14 HO14 HB14 HTW8
      go_wp2_with fail
      refine (version_c _ _ _ hbs15).mono ?_
      rintro e w16 ⟨rfl, hs16⟩
      rw [HVB.out be0]
      simp only [versionV]
      have HTW16 := hidden (HTW15.out.still hs16)
      have hq1 : (s.toList == s0.toList) = true := by rw [HS0.out]; simp
      have hq2 : (((s.size + 2 : Nat) : Int) == (lv.length : Int)) = true := by rw [HLN.out]; simp
      have hq3 : (((s.size + 2 : Nat) : Int) != (lv.length : Int)) = false := by rw [HLN.out]; simp
      obtain ⟨n2, hn2⟩ : ∃ n2 : Nat, n2 = s.size + 2 := ⟨_, rfl⟩
      rw [← hn2] at hq2 hq3 ⊢
      clear hs16 hbs15 HTW15 hn2 HVB
      go_wp2_with fail
      go_meet
      case rel => exact HTW16.out
  case rest =>
    have HTWc := hidden hcut
    clear hcut HTW8 HEL HHR HLV HV8 HQ
    have HLL1 : Hid (l1.length = 10) := HTWc.out.rd.ll
    go_wp2_with fail
    go_loopw [14] (fun i wr => ∃ (k : Nat) (nm2 : List Value), k ≤ 10 ∧ i = .int .i64 k ∧ Two w wr ck2 nm2 fo B (filtTo l1 k) dk1 om1 fp o1) (fun i _ => 10 - (intOf i).toNat)
    case atStart => exact ⟨0, nm1, by omega, rfl, HTWc.out⟩
    case round =>
      clear HTWc
      obtain ⟨k, nm2, hk, rfl, htw⟩ := hrel
      have HT := hidden htw
      clear htw
      obtain ⟨wo, ewo⟩ : ∃ x, x = wr := ⟨wr, rfl⟩
      subst ewo
      by_cases hlt : k < 10
      · have hik : (k : Int) < 10 := by omega
        have hcell := HT.out.b6.cell (lcells_at HT.out.rd.nl hlt)
        have hsl := HT.out.rd.nm k hlt
        rw [filtTo_getD (by have := HLL1.out; omega)] at hsl
        obtain ⟨L, hL⟩ : ∃ L, L = l1.getD k [] := ⟨_, rfl⟩
        rw [← hL] at hsl
        have hL6 : L.length ≤ 6 := by
          rw [hL, List.getD_eq_getElem?_getD, List.getElem?_eq_getElem (by have := HLL1.out; omega)]
          exact HX6.out _ (List.getElem_mem _)
        have HLk := hidden hL
        generalize nm2.getD k undef = lv2 at hcell hsl
        obtain ⟨la, lc, rfl, hlc1, hlc2, _⟩ := id hsl
        unfold maxLen at hlc2
        have HSL := hidden hsl
        have HC6 := hidden hcell
        clear hsl hL hcell
        go_wp2_with fail
        go_loopw [15, 16] (fun o i wr => ∃ j : Nat, j ≤ L.length ∧ i = .int .i64 j ∧ SOwn wr wo.heap.size o ((L.take j).filter okS) ∧ Below wo.heap.size wo wr) (fun _ i _ => L.length - (intOf i).toNat)
        case atStart => exact ⟨0, Nat.zero_le _, rfl, World.ownsRow_nil _ _ _ _, Below.refl _ _⟩
        case round =>
          obtain ⟨j, hj, rfl, ho, hb⟩ := hrel
          have HO := hidden ho
          have HB := hidden hb
          have hcell : wr.cell? ⟨w.heap.size, 1 + k, none⟩ = some (.slice la L.length lc) := (Keeps.ofFresh (S := fun _ => False) hb).cell HC6.out (fun h => h)
          clear ho hb
          obtain ⟨oa, oc, rfl⟩ := ownsRow_shape HO.out
          by_cases hjl : j < L.length
          · have hj1 : (j : Int) < (L.length : Int) := by omega
            have hne : L ≠ [] := by rintro rfl; simp at hjl
            have hs2 := HSL.out.fresh HB.out
            obtain ⟨b1, o1', rfl⟩ := hs2.addr' hne
            have k1 := hs2.cellAt j hjl
            have HN := hidden (filter_next hjl)
            have hsz : (L[j]).size ≤ 1000 := by
              have h1 : L ∈ l1 := by
                rw [HLk.out, List.getD_eq_getElem?_getD, List.getElem?_eq_getElem (by have := HLL1.out; omega)]
                exact List.getElem_mem _
              exact (HTM1.out L h1).2 _ (List.getElem_mem hjl)
            generalize L[j] = s1 at k1 HN hsz
            have hfl : ((L.take j).filter okS).length ≤ 6 := Nat.le_trans (List.length_filter_le _ _) (by rw [List.length_take]; omega)
            generalize (L.take j).filter okS = F at HO HN hfl
            clear hs2
            go_wp2_with fail
            refine (right_c s1 (by omega) _).mono ?_
            rintro e w20 ⟨rfl, rfl⟩
            rw [show okName s1.data.toList = okS s1 from rfl]
            cases hq : okS s1 with
            | false =>
              rw [hq] at HN
              go_wp2
              go_roundw
              case rel => exact ⟨j + 1, by omega, by go_num, by rw [HN.out]; simpa using HO.out, HB.out⟩
              case measure => simp [intOf]; omega
            | true =>
              rw [hq] at HN
              have hown := HO.out
              unfold SOwn at hown
              go_wp2_with (at_builtin; refine wpList_append_src _ rfl (.tmp 87) (.tmp 95) 24 24 rfl wo.heap.size 9 j0 _ 16 Try.underlying24 ji jz0 jz1 jz2 rfl _ _ _ rfl (hown.alloc _) _ 1 [.string s1] rfl (srcStr1 s1) (by unfold maxLen; omega) (by omega) (by have := HB.out.size; simp; omega) (w20.heap.size + 1) (by simp) ?_)
              intro v' w21 hown' hgrow hnil hat
              obtain ⟨ao', cp', rfl⟩ := ownsRow_shape hown'
              have HO2 := hidden hown'
              have HG2 := hidden hgrow
              clear hown' hgrow hnil hat hown
              go_wp2
              go_roundw
              case rel =>
                refine ⟨j + 1, by omega, by go_num, ?_, ?_⟩
                · unfold SOwn
                  rw [HN.out, if_pos trivial, List.length_append, List.map_append]
                  exact HO2.out
                · exact (HB.out.alloc HB.out.size _).grown HG2.out (by have := HB.out.size; simp; omega) (fun g hg => (HO.out.lt g hg).1)
              case measure => simp [intOf]; omega
          · have hj1 : ¬ (j : Int) < (L.length : Int) := by omega
            have hke : j = L.length := by omega
            have HO3 : Hid (SOwn wr wo.heap.size (.slice oa ((L.take j).filter okS).length oc) (L.filter okS)) := by
              have := HO.out
              rw [hke, List.take_length] at this ⊢
              exact this
            clear hke
            generalize ((L.take j).filter okS).length = nF at HO3
            have HT2 := hidden (HT.out.fresh HB.out)
            have hcl := HT2.out.b6.cell (lcells_at HT2.out.rd.nl hlt)
            have hfr := HT2.out.b6.free
            have hsF : SSl wr (.slice oa nF oc) (L.filter okS) := SSl.ofRow HO3.out
            have hwz := HT.out.b7.lt
            have HT3 := hidden (HT2.out.set hlt hsF (fun q e => by have := (HO3.out.lt q e).1; omega))
            rw [HLk.out, filtTo_set (by have := HLL1.out; omega)] at HT3
            generalize nm2.getD k undef = u at hcl
            clear hsF HT2 HO HO3
            go_wp2
            go_roundw
            case rel => exact ⟨k + 1, _, by omega, by go_num, HT3.out⟩
            case measure => simp [intOf]; omega
      · have hik : ¬ (k : Int) < 10 := by omega
        obtain rfl : k = 10 := by omega
        have hF := filtTo_all HX6.out
        rw [HLL1.out] at hF
        have HTL := hidden (filtTo_len l1 10)
        generalize filtTo l1 10 = l2 at HT hF HTL
        have HF := hidden hF
        have hl2 : l2.length = 10 := HT.out.rd.ll
        have HL2 := hidden hl2
        clear hF hl2 HTL HX6 HTM1 HLL1
        have HSZ2 := hidden (size_lcells (ck := ck2) (fo := fo) HT.out.rd.nl)
        have HTM2 : Hid (Tame l2) := fun l hl => ⟨by have := (HF.out l hl).2; omega, fun s hs => by have := okS_size (rightNs_names (HF.out l hl).1 s hs); omega⟩
        go_wp2_with (first
          | (refine wpList_loadAgg rfl 38 (.tmp 6) rfl w.heap.size (lcells ck2 nm2 fo).toArray 38 (0, 0) rfl HT.out.b6 Try.underlying38 HSZ2.out ?_))
        refine (encode_c ck2 nm2 fo B l2 _ HT.out.rd HTM2.out).mono ?_
        rintro e w22 ⟨v22, rfl, hbs22, ho22, hb22⟩
        have hall : ∀ l ∈ l2, rightNs l = true := fun l hl => (HF.out l hl).1
        rw [(enc_ok H16.out).2 hall]
        rw [encB_ok H16.out hall fo] at hbs22
        have HDB := hidden (dec_back (fo := fo) H16.out HL2.out hall)
        have hsix := (encL_six (fo := fo) H16.out HL2.out HF.out).1
        generalize encL B l2 fo = X at hbs22 HDB hsix
        have HT22 := hidden (HT.out.fresh hb22)
        obtain ⟨xa, xc, rfl, hxc1, hxc2, _⟩ := id hbs22
        clear HT ho22 hb22 HSZ2
        go_wp2_with fail
        refine (decode_c _ _ _ hbs22 (by omega)).mono ?_
        rintro e w23 ⟨ckd, nmd, rfl, hrdd, hcd, hnd, hb23⟩
        rw [show decE X = 0 from by simp [decE, HDB.out.1]]
        rw [HDB.out.2.1, HDB.out.2.2.1] at hrdd
        rw [HDB.out.2.2.2]
        have HT23 := hidden (HT22.out.fresh hb23)
        have HSD3 := hidden (size_lcells (ck := ckd) (fo := fo) hrdd.nl)
        have HOD3 := hidden (hrdd.one (fo := fo))
        have HND3 := hidden (noL_same (ck := ckd) (fo := fo) hrdd.nl)
        have HZD3 := hidden (LBox.zero w23)
        have hK24 : Below w23.heap.size w23 ((w23.alloc (.cells #[.slice none 0 0, .slice none 0 0, .slice none 0 0, .slice none 0 0, .slice none 0 0, .slice none 0 0, .slice none 0 0, .slice none 0 0, .slice none 0 0, .slice none 0 0, .slice none 0 0, .bool false] 38)).setRow w23.heap.size (lcells ckd nmd fo).toArray) := below_setRow ((Below.refl _ _).alloc (Nat.le_refl _) _) (Nat.le_refl _) _
        have hB19 : LBox ((w23.alloc (.cells #[.slice none 0 0, .slice none 0 0, .slice none 0 0, .slice none 0 0, .slice none 0 0, .slice none 0 0, .slice none 0 0, .slice none 0 0, .slice none 0 0, .slice none 0 0, .slice none 0 0, .bool false] 38)).setRow w23.heap.size (lcells ckd nmd fo).toArray) w23.heap.size 38 (lcells ckd nmd fo) := HZD3.out.row _
        have hrd24 := hrdd.fresh hK24
        have HT24 := hidden (HT23.out.fresh hK24)
        clear hrdd hcd hnd hb23 hK24 hbs22 HT22 HT23
        go_upto_region 21 with (refine wpList_store_row rfl 38 (.tmp 19) (.tmp 109) rfl w23.heap.size (lcells ckd nmd fo).toArray rfl rfl 38 _ HZD3.out HSD3.out HND3.out HOD3.out ?_)
        generalize (w23.alloc (.cells #[.slice none 0 0, .slice none 0 0, .slice none 0 0, .slice none 0 0, .slice none 0 0, .slice none 0 0, .slice none 0 0, .slice none 0 0, .slice none 0 0, .slice none 0 0, .slice none 0 0, .bool false] 38)).setRow w23.heap.size (lcells ckd nmd fo).toArray = W24 at hB19 hrd24 HT24 ⊢
        generalize w23.heap.size = b19 at hB19 ⊢
        have HRD := hidden hrd24
        have HB19 := hidden hB19
        have HLD : Hid (∀ V, Below W24.heap.size W24 V → (loadVar 38 ⟨b19, 0, none⟩).run Try.prog V = .ok (.agg (lcells ckd nmd fo).toArray) V ∧ (loadVar 38 ⟨w.heap.size, 0, none⟩).run Try.prog V = .ok (.agg (lcells ck2 nm2 fo).toArray) V) := fun V hV =>
          ⟨run_loadVar_row V b19 _ _ _ (0, 0) _ (HB19.out.fresh hV) Try.underlying38 rfl (size_lcells HRD.out.nl), run_loadVar_row V w.heap.size _ _ _ (0, 0) _ (HT24.out.b6.fresh hV) Try.underlying38 rfl (size_lcells HT24.out.rd.nl)⟩
        clear hrd24 hB19 HSD3 HOD3 HND3 HZD3
        go_cut [123] from 111 to 122 (fun b wx => b = .bool false ∧ Two w wx ck2 nm2 fo B l2 dk1 om1 fp o1)
        case first =>
          obtain ⟨d0, d1, d2, d3, d4, d5, d6, d7, d8, d9, ed⟩ := ten HRD.out.nl
          obtain ⟨q0, q1, q2, q3, q4, q5, q6, q7, q8, q9, eq⟩ := ten HT24.out.rd.nl
          subst ed eq
          have e0 := (HB19.out).cell (show (lcells ckd [d0, d1, d2, d3, d4, d5, d6, d7, d8, d9] fo)[0]? = some _ from rfl); have e1 := (HB19.out).cell (show (lcells ckd [d0, d1, d2, d3, d4, d5, d6, d7, d8, d9] fo)[1]? = some _ from rfl); have e2 := (HB19.out).cell (show (lcells ckd [d0, d1, d2, d3, d4, d5, d6, d7, d8, d9] fo)[2]? = some _ from rfl); have e3 := (HB19.out).cell (show (lcells ckd [d0, d1, d2, d3, d4, d5, d6, d7, d8, d9] fo)[3]? = some _ from rfl); have e4 := (HB19.out).cell (show (lcells ckd [d0, d1, d2, d3, d4, d5, d6, d7, d8, d9] fo)[4]? = some _ from rfl); have e5 := (HB19.out).cell (show (lcells ckd [d0, d1, d2, d3, d4, d5, d6, d7, d8, d9] fo)[5]? = some _ from rfl); have e6 := (HB19.out).cell (show (lcells ckd [d0, d1, d2, d3, d4, d5, d6, d7, d8, d9] fo)[6]? = some _ from rfl); have e7 := (HB19.out).cell (show (lcells ckd [d0, d1, d2, d3, d4, d5, d6, d7, d8, d9] fo)[7]? = some _ from rfl); have e8 := (HB19.out).cell (show (lcells ckd [d0, d1, d2, d3, d4, d5, d6, d7, d8, d9] fo)[8]? = some _ from rfl); have e9 := (HB19.out).cell (show (lcells ckd [d0, d1, d2, d3, d4, d5, d6, d7, d8, d9] fo)[9]? = some _ from rfl); have e10 := (HB19.out).cell (show (lcells ckd [d0, d1, d2, d3, d4, d5, d6, d7, d8, d9] fo)[10]? = some _ from rfl); have e11 := (HB19.out).cell (show (lcells ckd [d0, d1, d2, d3, d4, d5, d6, d7, d8, d9] fo)[11]? = some _ from rfl)
          have g0 := (HT24.out.b6).cell (show (lcells ck2 [q0, q1, q2, q3, q4, q5, q6, q7, q8, q9] fo)[0]? = some _ from rfl); have g1 := (HT24.out.b6).cell (show (lcells ck2 [q0, q1, q2, q3, q4, q5, q6, q7, q8, q9] fo)[1]? = some _ from rfl); have g2 := (HT24.out.b6).cell (show (lcells ck2 [q0, q1, q2, q3, q4, q5, q6, q7, q8, q9] fo)[2]? = some _ from rfl); have g3 := (HT24.out.b6).cell (show (lcells ck2 [q0, q1, q2, q3, q4, q5, q6, q7, q8, q9] fo)[3]? = some _ from rfl); have g4 := (HT24.out.b6).cell (show (lcells ck2 [q0, q1, q2, q3, q4, q5, q6, q7, q8, q9] fo)[4]? = some _ from rfl); have g5 := (HT24.out.b6).cell (show (lcells ck2 [q0, q1, q2, q3, q4, q5, q6, q7, q8, q9] fo)[5]? = some _ from rfl); have g6 := (HT24.out.b6).cell (show (lcells ck2 [q0, q1, q2, q3, q4, q5, q6, q7, q8, q9] fo)[6]? = some _ from rfl); have g7 := (HT24.out.b6).cell (show (lcells ck2 [q0, q1, q2, q3, q4, q5, q6, q7, q8, q9] fo)[7]? = some _ from rfl); have g8 := (HT24.out.b6).cell (show (lcells ck2 [q0, q1, q2, q3, q4, q5, q6, q7, q8, q9] fo)[8]? = some _ from rfl); have g9 := (HT24.out.b6).cell (show (lcells ck2 [q0, q1, q2, q3, q4, q5, q6, q7, q8, q9] fo)[9]? = some _ from rfl); have g10 := (HT24.out.b6).cell (show (lcells ck2 [q0, q1, q2, q3, q4, q5, q6, q7, q8, q9] fo)[10]? = some _ from rfl); have g11 := (HT24.out.b6).cell (show (lcells ck2 [q0, q1, q2, q3, q4, q5, q6, q7, q8, q9] fo)[11]? = some _ from rfl)
          go_region_with (first
            | (go_at_call 23; refine (in_c ck2 [q0, q1, q2, q3, q4, q5, q6, q7, q8, q9] fo B l2 _ (HT24.out.rd.fresh (Below.refl _ _).drew)).mono ?_; rintro e w25 ⟨rfl, hb25⟩; have hb25' := (Below.refl W24.heap.size W24).drew.trans hb25; have HB25 := hidden hb25'; clear hb25 hb25'; have x0 := (HB19.out.fresh HB25.out).cell (show (lcells ckd [d0, d1, d2, d3, d4, d5, d6, d7, d8, d9] fo)[0]? = some _ from rfl); have x1 := (HB19.out.fresh HB25.out).cell (show (lcells ckd [d0, d1, d2, d3, d4, d5, d6, d7, d8, d9] fo)[1]? = some _ from rfl); have x2 := (HB19.out.fresh HB25.out).cell (show (lcells ckd [d0, d1, d2, d3, d4, d5, d6, d7, d8, d9] fo)[2]? = some _ from rfl); have x3 := (HB19.out.fresh HB25.out).cell (show (lcells ckd [d0, d1, d2, d3, d4, d5, d6, d7, d8, d9] fo)[3]? = some _ from rfl); have x4 := (HB19.out.fresh HB25.out).cell (show (lcells ckd [d0, d1, d2, d3, d4, d5, d6, d7, d8, d9] fo)[4]? = some _ from rfl); have x5 := (HB19.out.fresh HB25.out).cell (show (lcells ckd [d0, d1, d2, d3, d4, d5, d6, d7, d8, d9] fo)[5]? = some _ from rfl); have x6 := (HB19.out.fresh HB25.out).cell (show (lcells ckd [d0, d1, d2, d3, d4, d5, d6, d7, d8, d9] fo)[6]? = some _ from rfl); have x7 := (HB19.out.fresh HB25.out).cell (show (lcells ckd [d0, d1, d2, d3, d4, d5, d6, d7, d8, d9] fo)[7]? = some _ from rfl); have x8 := (HB19.out.fresh HB25.out).cell (show (lcells ckd [d0, d1, d2, d3, d4, d5, d6, d7, d8, d9] fo)[8]? = some _ from rfl); have x9 := (HB19.out.fresh HB25.out).cell (show (lcells ckd [d0, d1, d2, d3, d4, d5, d6, d7, d8, d9] fo)[9]? = some _ from rfl); have x10 := (HB19.out.fresh HB25.out).cell (show (lcells ckd [d0, d1, d2, d3, d4, d5, d6, d7, d8, d9] fo)[10]? = some _ from rfl); have x11 := (HB19.out.fresh HB25.out).cell (show (lcells ckd [d0, d1, d2, d3, d4, d5, d6, d7, d8, d9] fo)[11]? = some _ from rfl))
            | (go_at_call 27; refine (same_c ckd ck2 [d0, d1, d2, d3, d4, d5, d6, d7, d8, d9] [q0, q1, q2, q3, q4, q5, q6, q7, q8, q9] fo B l2 _ (HRD.out.fresh HB25.out) (HT24.out.rd.fresh HB25.out)).mono ?_; rintro e w26 ⟨rfl, hb26⟩; have HT26 := hidden (HT24.out.fresh (HB25.out.trans (hb26.mono HB25.out.size)))))
          all_goals (go_wp2_with fail; go_meet; exact ⟨rfl, HT26.out⟩)
        case rest =>
          obtain ⟨hcb, hct⟩ := hcut
          subst hcb
          have HTr := hidden hct
          clear hct HT24 HRD HB19 HLD HDB HF HTM2
          go_wp2_with fail
          go_loopw [21] (fun i wr => ∃ k : Nat, k ≤ 8 ∧ i = .int .i64 k ∧ Two w wr ck2 nm2 fo B l2 dk1 om1 fp o1) (fun i _ => 8 - (intOf i).toNat)
          case atStart => exact ⟨0, by omega, rfl, HTr.out⟩
          case round =>
            clear HTr
            obtain ⟨k, hk, rfl, htw⟩ := hrel
            have HT := hidden htw
            clear htw
            by_cases hlt : k < 8
            · have hik : (k : Int) < 8 := by omega
              have hik2 : (k : Int) < 10 := by omega
              have c1 := HT.out.b6.cell (lcells_at HT.out.rd.nl (show k < 10 by omega))
              have c2 := HT.out.b7.cell (lcells_at HT.out.on (show k < 10 by omega))
              have s1 := HT.out.rd.nm k (by omega)
              have s2 := HT.out.os k (by omega)
              generalize nm2.getD k undef = v1 at c1 s1
              generalize om1.getD k undef = v2 at c2 s2
              generalize l2.getD k [] = cl at s1
              generalize o1.getD k [] = sv at s2
              obtain ⟨a1, p1, rfl, hp1, hp1m, _⟩ := id s1
              obtain ⟨a2, p2, rfl, hp2, hp2m, _⟩ := id s2
              unfold maxLen at hp1m hp2m
              obtain ⟨xs, xe, hx⟩ : ∃ xs xe, chosenV (chooseO cl sv) = .tuple #[.string xs, .int .i64 xe] := by cases chooseO cl sv <;> exact ⟨_, _, rfl⟩
              have HX := hidden hx
              have HCH : Hid (∀ V, SSl V (.slice a1 cl.length p1) cl → SSl V (.slice a2 sv.length p2) sv → Calls Try.prog 25 #[.slice a1 cl.length p1, .slice a2 sv.length p2] V fun e w' => e = .returned (.tuple #[.string xs, .int .i64 xe]) ∧ w' = V) := fun V g1 g2 => by rw [← HX.out]; exact choose_c _ _ cl sv V g1 g2
              have HS1 := hidden s1
              have HS2 := hidden s2
              clear s1 s2 hx
              go_wp2_with fail
              go_quiet (first | (go_at_call 25; exact Calls.quiet_of_same (HCH.out _ (HS1.out.drewN _) (HS2.out.drewN _))))
              have HT2 : Hid (Two w (wr.drewN nq) ck2 nm2 fo B l2 dk1 om1 fp o1) := HT.out.still ((Keeps.refl _ _).drewN nq)
              have HR1 : Hid (SSl (wr.drewN nq) (.slice a1 cl.length p1) cl) := HS1.out.drewN nq
              have HR2 : Hid (SSl (wr.drewN nq) (.slice a2 sv.length p2) sv) := HS2.out.drewN nq
              have C1 : Hid ((wr.drewN nq).cell? ⟨w.heap.size, 1 + k, none⟩ = some (.slice a1 cl.length p1)) := c1
              have C2 : Hid ((wr.drewN nq).cell? ⟨w.heap.size + 1, 1 + k, none⟩ = some (.slice a2 sv.length p2)) := c2
              clear HT HS1 HS2 c1 c2 HCH
              generalize wr.drewN nq = wo2 at HT2 HR1 HR2 C1 C2 ⊢
              have c1 := C1.out
              have c2 := C2.out
              go_wp2_with fail
              go_loopw [24, 25] (fun f i wr => ∃ (m : Nat) (fv : Int), m ≤ cl.length ∧ i = .int .i64 ((m : Int) - 1) ∧ f = .int .i64 fv ∧ Least cl sv m fv ∧ Still wo2 wr) (fun _ i _ => (intOf i + 1).toNat)
              case atStart => exact ⟨cl.length, -1, Nat.le_refl _, rfl, rfl, Least.start cl sv, Keeps.refl _ _⟩
              case round =>
                clear c1 c2
                obtain ⟨m, fv, hm, rfl, rfl, hle, hst⟩ := hrel
                have HLE := hidden hle
                have HST := hidden hst
                clear hle hst
                cases m with
                | succ m =>
                  have hml : m < cl.length := by omega
                  have hml1 : (m : Int) < (cl.length : Int) := by omega
                  have hne : cl ≠ [] := by rintro rfl; simp at hml
                  obtain ⟨b1, f1, rfl⟩ := HR1.out.addr' hne
                  have HK1 := hidden (HR1.out.cellAt m hml)
                  have HNO := hidden (HLE.out.no hml)
                  have HYE := hidden (Least.yes (sv := sv) hml)
                  generalize cl[m] = s1 at HK1 HNO HYE
                  rw [show (((m + 1 : Nat) : Int) - 1) = (m : Int) from by omega]
                  obtain ⟨wo3, ewo3⟩ : ∃ x, x = wr := ⟨wr, rfl⟩
                  subst ewo3
                  go_wp2_with fail
                  go_loopw [24, 26] (fun f i wr => ∃ (j : Nat) (fw : Int), j ≤ sv.length ∧ i = .int .i64 j ∧ f = .int .i64 fw ∧ ((fw = (m : Int) ∧ s1 ∈ sv) ∨ (fw = fv ∧ ∀ y ∈ sv.take j, s1 ≠ y)) ∧ Still wo2 wr) (fun _ i _ => sv.length - (intOf i).toNat)
                  case atStart => exact ⟨0, fv, Nat.zero_le _, rfl, rfl, .inr ⟨rfl, by simp⟩, HST.out⟩
                  case round =>
                    obtain ⟨j, fw, hj, rfl, rfl, hor, hst⟩ := hrel
                    have HOR := hidden hor
                    have HS3 := hidden hst
                    have c1 := hst.cell C1.out (fun h => h)
                    have c2 := hst.cell C2.out (fun h => h)
                    have k1 := hst.cell HK1.out (fun h => h)
                    clear hor hst
                    by_cases hjl : j < sv.length
                    · have hj1 : (j : Int) < (sv.length : Int) := by omega
                      have hne2 : sv ≠ [] := by rintro rfl; simp at hjl
                      obtain ⟨b2, f2, rfl⟩ := HR2.out.addr' hne2
                      have k2 := HS3.out.cell (HR2.out.cellAt j hjl) (fun h => h)
                      have HM : Hid (s1 = sv[j] → s1 ∈ sv) := fun h => h ▸ List.getElem_mem hjl
                      have HJ2 : Hid ((fw = fv ∧ ∀ y ∈ sv.take j, s1 ≠ y) → s1 ≠ sv[j] → ∀ y ∈ sv.take (j + 1), s1 ≠ y) := fun h g => take_next hjl h.2 g
                      generalize sv[j] = t at k2 HM HJ2
                      go_wp2_with fail
                      go_quiet (fail)
                      go_wp2
                      · rename_i hq
                        go_roundw
                        case rel => exact ⟨j + 1, (m : Int), by omega, by go_num, rfl, .inl ⟨rfl, HM.out ((str_eq t s1).1 hq).symm⟩, HS3.out.drewN nq⟩
                        case measure => simp [intOf]; omega
                      · rename_i hq
                        go_roundw
                        case rel =>
                          refine ⟨j + 1, fw, by omega, by go_num, rfl, ?_, HS3.out.drewN nq⟩
                          rcases HOR.out with h | h
                          · exact .inl h
                          · exact .inr ⟨h.1, HJ2.out h (fun e => str_ne hq e.symm)⟩
                        case measure => simp [intOf]; omega
                    · have hj1 : ¬ (j : Int) < (sv.length : Int) := by omega
                      have HL2 : Hid (Least cl sv m fw) := by
                        rcases HOR.out with ⟨rfl, h⟩ | ⟨rfl, h⟩
                        · exact HYE.out h
                        · refine HNO.out (fun h2 => ?_)
                          have hj2 : j = sv.length := by omega
                          rw [hj2, List.take_length] at h
                          exact h s1 h2 rfl
                      go_wp2
                      go_roundw
                      case rel => exact ⟨m, fw, by omega, by go_num, rfl, HL2.out, HS3.out⟩
                      case measure => simp [intOf]
                | zero =>
                  rw [show (((0 : Nat) : Int) - 1) = -1 from rfl]
                  have HTe := hidden (HT2.out.still HST.out)
                  rcases HLE.out.end with ⟨rfl, hco⟩ | ⟨j, hjl, rfl, hco⟩
                  · have hx2 := HX.out
                    rw [hco] at hx2
                    simp only [chosenV, Value.tuple.injEq, Array.mk.injEq, List.cons.injEq, Value.string.injEq, Value.int.injEq, and_true, true_and] at hx2
                    obtain ⟨rfl, rfl⟩ := hx2
                    go_wp2
                    go_roundw
                    case rel => exact ⟨k + 1, by omega, by go_num, HTe.out⟩
                    case measure => simp [intOf]; omega
                  · have hx2 := HX.out
                    rw [hco] at hx2
                    simp only [chosenV, Value.tuple.injEq, Array.mk.injEq, List.cons.injEq, Value.string.injEq, Value.int.injEq, and_true, true_and] at hx2
                    obtain ⟨hxs, rfl⟩ := hx2
                    have hne : cl ≠ [] := by rintro rfl; simp at hjl
                    obtain ⟨b1, f1, rfl⟩ := HR1.out.addr' hne
                    have k1 := HST.out.cell (HR1.out.cellAt j hjl) (fun h => h)
                    rw [hxs] at k1
                    have c1 := HST.out.cell C1.out (fun h => h)
                    have hj1 : (j : Int) < (cl.length : Int) := by omega
                    have hj0 : (0 : Int) ≤ (j : Int) := Int.natCast_nonneg _
                    have hxx : (xs.toList == xs.toList) = true := by simp
                    clear hxs hco HX
                    go_wp2
                    go_roundw
                    case rel => exact ⟨k + 1, by omega, by go_num, HTe.out⟩
                    case measure => simp [intOf]; omega
            · have hik : ¬ (k : Int) < 8 := by omega
              go_wp2_with fail
              refine (known_c _).mono ?_
              rintro e w30 ⟨rfl, hb30⟩
              have HB30 := hidden (HT.out.bel.trans (hb30.mono HT.out.bel.size))
              go_wp2
              go_ret
              exact ⟨rfl, HB30.out⟩
end Go.Proofs.Ytnnhffjajbiicaa
