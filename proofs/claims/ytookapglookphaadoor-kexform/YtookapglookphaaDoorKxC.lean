/- kex: textsOf. -/
import Derived.Test.YtookapglookphaaDoorKxB
import Derived.Deep.CutRange
import Derived.Deep.Cut
namespace Go.Proofs.YtookapglookphaaDoor
open Go Go.RowKit

theorem infoSl : (Tryd.prog.info? 22).map (fun i => (i.zero, i.size, i.bytes)) = some (some (.slice none 0 0), 1, 24) := by kernel_rfl
theorem made_sl (m : Nat) (hm : m ≤ 1000) (w : World) : (Instr.makeSlice 35 (.int .i64 (m : Int)) (.int .i64 (m : Int))).run Tryd.prog w = .ok (.slice (some ⟨w.heap.size, 0, none⟩) m m) (w.alloc (.cells (List.replicate m (.slice none 0 0)).toArray 22)) := by
  have h := run_make_row' (P := Tryd.prog) 35 22 (.slice none 0 0) 24 Tryd.underlying35 infoSl rfl .i64 .i64 m (by omega) (by omega) w
  have e : madeCells #[Value.slice none 0 0] m = (List.replicate m (.slice none 0 0)).toArray := by
    apply Array.toList_inj.1
    rw [toList_madeCells_one]
  rw [h, e]
/-- What stands while Texts are read: the Reader, and the row of those that were read. -/
structure TR (w wr : World) (a : Nat) (g : Option Nat) (B n kind : Nat) (b : List UInt8) (j : Nat) (pvs : List Value) (p : Nat) (y : Int) : Prop where
  ws : WR wr a g b p y
  row : wr.heap[B]? = some (.cells pvs.toArray 22 (0, 0))
  len : pvs.length = n
  each : ∀ i, i < j → ∃ v, pvs[i]? = some v ∧ BSl wr v (txt kind b i) ∧ (∀ k, v.ownBlock = some k → k ≠ a ∧ k ≠ B)
  bel : Below w.heap.size w wr
  ne : B ≠ a
  ng : g ≠ some B
  lb : w.heap.size ≤ B
  la : w.heap.size ≤ a
/-- What textsOf tells. -/
structure TOf (w : World) (kind n : Nat) (b : List UInt8) (e : Ending) (w' : World) : Prop where
  bel : Below w.heap.size w w'
  y : Wf kind n b → ∃ (B : Nat) (pv : Nat → Value), e = .returned (.tuple #[.slice (some ⟨B, 0, none⟩) n n, .int .i64 0]) ∧ w.heap.size ≤ B ∧ B < w'.heap.size ∧ ∀ j, j < n → w'.cell? ⟨B, j, none⟩ = some (pv j) ∧ BSl w' (pv j) (part b j)
  n : ¬ Wf kind n b → e = .returned (.tuple #[.slice none 0 0, .int .i64 12])

theorem TR.took {w wr wr' : World} {a : Nat} {g : Option Nat} {B n kind : Nat} {b : List UInt8} {j : Nat} {pvs : List Value} {p p' : Nat} {y y' : Int} (h : TR w wr a g B n kind b j pvs p y) (ht : Took a g b p' y' wr wr') : TR w wr' a g B n kind b j pvs p' y' := by
  refine ⟨ht.state, (ht.keeps.block B (lt_of_block h.row) h.ne).trans h.row, h.len, fun i hi => ?_, h.bel.trans (ht.keeps.below (B := w.heap.size) h.bel.size (by intro k e; rw [e]; exact h.la)), h.ne, h.ng, h.lb, h.la⟩
  obtain ⟨v, h1, h2, h3⟩ := h.each i hi
  exact ⟨v, h1, h2.keep ht.keeps (fun k e => (h3 k e).1), h3⟩
theorem TR.stored {w wr : World} {a : Nat} {g : Option Nat} {B n kind : Nat} {b : List UInt8} {j : Nat} {pvs : List Value} {p : Nat} {y : Int} (h : TR w wr a g B n kind b j pvs p y) (hj : j < n) (S : ByteArray) (hS : S.data.toList = txt kind b j) :
    TR w ((bytesW wr S).setCell ⟨B, j, none⟩ (bytesV wr S)) a g B n kind b (j + 1) (pvs.set j (bytesV wr S)) p y := by
  have hsz : S.size ≤ 32 := by
    have h1 := txt_le kind b j
    rw [← hS, Array.length_toList] at h1
    exact h1
  have hB := lt_of_block h.row
  have hA := h.ws.lt
  have hb1 := bytesW_below wr S
  have hk : Keeps (fun k => k = B) wr ((bytesW wr S).setCell ⟨B, j, none⟩ (bytesV wr S)) := (Keeps.ofFresh (S := fun k => k = B) hb1).setCell (p := ⟨B, j, none⟩) (.inl rfl) _
  have hs : Keeps (fun k => k = B) (bytesW wr S) ((bytesW wr S).setCell ⟨B, j, none⟩ (bytesV wr S)) := (Keeps.refl (fun k => k = B) _).setCell (p := ⟨B, j, none⟩) (.inl rfl) _
  have hown : (bytesV wr S).ownBlock = some wr.heap.size := rfl
  refine ⟨h.ws.keep hk (Ne.symm h.ne) (fun k e e2 => h.ng (by rw [e, e2])), ?_, by rw [List.length_set]; exact h.len, fun i hi => ?_, h.bel.trans (hk.below (B := w.heap.size) h.bel.size (by intro k e; rw [e]; exact h.lb)), h.ne, h.ng, h.lb, h.la⟩
  · rw [heap_setCell_same _ _ _ _ _ _ ((hb1.block B hB).trans h.row)]
    simp
  · by_cases e : i = j
    · subst e
      refine ⟨bytesV wr S, by rw [List.getElem?_set_self (by rw [h.len]; exact hj)], ?_, fun k e => ?_⟩
      · rw [← hS]
        exact (bytes_bsl wr S (by omega)).keep hs (fun k e e2 => by rw [hown] at e; cases e; omega)
      · rw [hown] at e
        cases e
        exact ⟨by omega, by omega⟩
    · obtain ⟨v, h1, h2, h3⟩ := h.each i (by omega)
      exact ⟨v, by rw [List.getElem?_set_ne (by omega)]; exact h1, h2.keep hk (fun k e => (h3 k e).2), h3⟩

set_option maxHeartbeats 1600000 in
set_option maxRecDepth 100000 in
theorem textsOf_c (kind n : Nat) (hn : n ≤ 4) (v : Value) (b : List UInt8) (hb : b.length ≤ 140737488355328) (w : World) (hv : BSl w v b) :
    Calls Tryd.prog 22 #[.int .i64 kind, .int .i64 n, v] w (TOf w kind n b) := by
  have HV := hidden hv
  have HB := hidden hb
  obtain ⟨a0, c0, rfl⟩ := hv.len
  clear hv hb
  go_enter Tryd.func22, Tryd.ntmps22
  go_wp2_with fail
  refine (newReader_c _ b w HV.out HB.out).mono ?_
  rintro e w1 ⟨a, g, rfl, hw1, hla, hlg, hb1⟩
  have HW1 := hidden hw1
  have HB1 := hidden hb1
  have HG := hidden hlg
  clear hw1 hb1 hlg HV
  go_wp2_with fail
  refine (byte_r w1 HW1.out).mono ?_
  rintro e w2 ⟨rfl, ht2⟩
  have HT2 := hidden ht2
  have HB2 : Hid (Below w.heap.size w w2) := HB1.out.trans (ht2.keeps.below (B := w.heap.size) HB1.out.size (by intro k e; rw [e]; exact hla))
  have HV2 : Hid (val (tk b 0 0 1).1 < 256) := val_lt _ 1 (tk_len b 0 0 1)
  have HS0 : Hid (st kind b 0 = ((tk b 0 0 1).2.1, if val (tk b 0 0 1).1 = kind then (tk b 0 0 1).2.2 else if (tk b 0 0 1).2.2 = 0 then 12 else (tk b 0 0 1).2.2)) := rfl
  clear ht2 HW1 HB1
  generalize tk b 0 0 1 = R at HT2 HV2 HS0 ⊢
  obtain ⟨xs, p1, y1⟩ := R
  simp only at HT2 HV2 HS0 ⊢
  generalize val xs = x at HV2 HS0 ⊢
  have HM := hidden (made_sl n (by omega))
  obtain ⟨q, hq⟩ : ∃ q, ((x : Int) != (kind : Int)) = q := ⟨_, rfl⟩
  go_upto_if 18 with fail
  have HQ := hidden hq
  clear hq
  go_cut [20] from 19 to 20 (fun _ wx => Took a g b (st kind b 0).1 (st kind b 0).2 w1 wx ∧ Below w.heap.size w wx)
  case first =>
    by_cases hx : x = kind
    · obtain rfl : q = false := by rw [← HQ.out, hx]; simp
      have HE : Hid (st kind b 0 = (p1, y1)) := by show _ = _; rw [HS0.out, if_pos hx]
      clear HQ hx
      go_wp2_with fail
      go_meet
      case rel => rw [HE.out]; exact ⟨HT2.out, HB2.out⟩
    · obtain rfl : q = true := by rw [← HQ.out, bne_iff_ne]; omega
      have HE : Hid (st kind b 0 = (p1, if y1 = 0 then 12 else y1)) := by show _ = _; rw [HS0.out, if_neg hx]
      clear HQ hx
      go_wp2_with fail
      refine (fail_r 12 w2 HT2.out.state).mono ?_
      rintro e w3 ⟨rfl, ht3⟩
      have HT3 := hidden ht3
      clear ht3
      go_wp2_with fail
      go_meet
      case rel =>
        rw [HE.out]
        exact ⟨HT2.out.trans HT3.out, HB2.out.trans (HT3.out.keeps.below (B := w.heap.size) HB2.out.size (by intro k e; rw [e]; exact hla))⟩
  case rest =>
  obtain ⟨ht3, hb3⟩ := hcut
  have HI : Hid (TR w (wc.alloc (.cells (List.replicate n (.slice none 0 0)).toArray 22)) a g wc.heap.size n kind b 0 (List.replicate n (.slice none 0 0)) (st kind b 0).1 (st kind b 0).2) := by
    refine ⟨ht3.state.same ((Keeps.refl _ wc).alloc _), heap_alloc_new wc _, by simp, fun i hi => absurd hi (by omega), hb3.alloc (by have := hb3.size; omega) _, ?_, ?_, hb3.size, hla⟩
    · have := ht3.state.lt
      omega
    · intro e
      have h1 := (HG.out _ e).2
      have h2 := ht3.state.lt
      omega
  have hmk := HM.out wc
  clear ht3 hb3 HT2 HB2 HS0 HV2 HM HQ
  generalize wc.alloc (.cells (List.replicate n (.slice none 0 0)).toArray 22) = w4 at HI hmk
  generalize wc.heap.size = B at HI hmk
  go_wp2_with fail
  go_loopw [25] (fun c wr => ∃ (j : Nat) (pvs : List Value), j ≤ n ∧ c = .int .i64 (j : Int) ∧ TR w wr a g B n kind b j pvs (st kind b j).1 (st kind b j).2) (fun c _ => n - (intOf c).toNat)
  case atStart => exact ⟨0, _, by omega, rfl, HI.out⟩
  case round =>
    clear HI hmk
    obtain ⟨j, pvs, hj, rfl, ht⟩ := hrel
    have HH := hidden ht
    clear ht
    by_cases hlt : j < n
    · have hlt' : (j : Int) < (n : Int) := by omega
      have HST : Hid (st kind b (j + 1) = ((tx b (st kind b j).1 (st kind b j).2 32).2.1, if (tx b (st kind b j).1 (st kind b j).2 32).1.length = 32 then (tx b (st kind b j).1 (st kind b j).2 32).2.2 else if (tx b (st kind b j).1 (st kind b j).2 32).2.2 = 0 then 12 else (tx b (st kind b j).1 (st kind b j).2 32).2.2)) := rfl
      have HTX : Hid (txt kind b j = (tx b (st kind b j).1 (st kind b j).2 32).1) := rfl
      have HLE := hidden (txt_le kind b j)
      have HR := hidden (textS_r wr HH.out.ws)
      generalize tx b (st kind b j).1 (st kind b j).2 32 = R at HST HTX HR
      obtain ⟨xt, p5, y5⟩ := R
      simp only at HST HTX HR
      rw [HTX.out] at HLE
      obtain ⟨S, hS, hSl, hSz⟩ : ∃ S : ByteArray, S = ⟨xt.toArray⟩ ∧ S.data.toList = xt ∧ S.size = xt.length := ⟨_, rfl, rfl, size_list xt⟩
      rw [← hS] at HR
      have HSL := hidden hSl
      have HSZ := hidden hSz
      clear hS hSl hSz
      go_wp2_with fail
      refine HR.out.mono ?_
      rintro e w5 ⟨rfl, ht5⟩
      have HH5 := hidden (HH.out.took ht5)
      have HH6 := hidden (HH5.out.stored hlt S (by rw [HTX.out, HSL.out]))
      clear ht5 HH HR
      have hcv := run_bytes S w5
      have hrow : (bytesW w5 S).heap[B]? = some (.cells pvs.toArray 22 (0, 0)) := ((bytesW_below w5 S).block B (lt_of_block HH5.out.row)).trans HH5.out.row
      obtain ⟨u0, hu0⟩ : ∃ u, pvs[j]? = some u := ⟨_, List.getElem?_eq_getElem (by rw [HH5.out.len]; exact hlt)⟩
      have hcell := cell_row hrow j
      rw [hu0] at hcell
      have hfr := frozen_row hrow j
      have hnf : (bytesV w5 S) = .slice (some ⟨w5.heap.size, 0, none⟩) S.size (grownCap w5 S.size 0 5) := rfl
      rw [hnf] at hcv HH6
      generalize grownCap w5 S.size 0 5 = cp at hcv HH6
      generalize bytesW w5 S = w6 at hcv hrow hcell hfr HH6
      generalize w5.heap.size = q5 at hcv HH6
      clear hrow hu0 hnf HH5
      by_cases h32 : S.size = 32
      · have ht32 : ((S.size : Int) != 32) = false := by rw [h32]; rfl
        have HE : Hid (st kind b (j + 1) = (p5, y5)) := by show _ = _; rw [HST.out, if_pos (by rw [← HSZ.out]; exact h32)]
        clear h32
        go_wp2_with fail
        go_roundw
        case rel => exact ⟨j + 1, _, by omega, by go_num, by rw [HE.out]; exact HH6.out⟩
        case measure => simp [intOf]; omega
      · have ht32 : ((S.size : Int) != 32) = true := by rw [bne_iff_ne]; omega
        have HE : Hid (st kind b (j + 1) = (p5, if y5 = 0 then 12 else y5)) := by show _ = _; rw [HST.out, if_neg (by rw [← HSZ.out]; exact h32)]
        clear h32
        go_wp2_with fail
        refine (fail_r 12 _ HH6.out.ws).mono ?_
        rintro e w7 ⟨rfl, ht7⟩
        have HH7 := hidden (HH6.out.took ht7)
        clear ht7 HH6 hcell hfr hcv
        go_wp2_with fail
        go_roundw
        case rel => exact ⟨j + 1, _, by omega, by go_num, by rw [HE.out]; exact HH7.out⟩
        case measure => simp [intOf]; omega
    · have hlt' : ¬ (j : Int) < (n : Int) := by omega
      obtain rfl : j = n := by omega
      have HEN := hidden (ends_iff kind j b)
      go_wp2_with fail
      refine (end_r wr HH.out.ws).mono ?_
      rintro e w8 ⟨rfl, hk8⟩
      have HB8 : Hid (Below w.heap.size w w8) := HH.out.bel.trans (hk8.below (B := w.heap.size) HH.out.bel.size (by intro k e; exact absurd e (by simp)))
      have HK8 := hidden hk8
      generalize (ends b (st kind b j).1 (st kind b j).2) = E at HEN ⊢
      obtain ⟨ey, ep⟩ := E
      simp only at HEN ⊢
      clear hk8
      by_cases hey : ey = 0
      · subst hey
        have hwf := HEN.out.1 rfl
        have HWF := hidden hwf
        clear hwf HEN
        go_wp2_with fail
        go_ret2
        refine ⟨HB8.out, fun _ => ⟨B, fun i => (pvs[i]?).getD (.slice none 0 0), rfl, HH.out.lb, by have := lt_of_block HH.out.row; have := HK8.out.size; omega, fun i hi => ?_⟩, fun h => absurd HWF.out h⟩
        obtain ⟨v, h1, h2, h3⟩ := HH.out.each i hi
        simp only [h1, Option.getD_some]
        refine ⟨HK8.out.cell (by rw [cell_row HH.out.row, h1]) (fun h => h), ?_⟩
        rw [← HWF.out.txt hi]
        exact h2.keep HK8.out (fun _ _ h => h)
      · have hne : (ey != 0) = true := by rw [bne_iff_ne]; exact hey
        have HWF : Hid (¬ Wf kind j b) := fun h => hey (HEN.out.2 h)
        clear HEN hey
        go_wp2_with fail
        go_ret2
        exact ⟨HB8.out, fun h => absurd h HWF.out, fun _ => rfl⟩
end Go.Proofs.YtookapglookphaaDoor
