/- kex: talk. -/
import Derived.Test.YtookapglookphaaDoorKxD
import Derived.Test.YtookapglookphaaDoorKxF
namespace Go.Proofs.YtookapglookphaaDoor
open Go Go.RowKit

theorem side_box (w : World) (a1 a2 a3 a4 : Option Addr) (l1 l2 l3 l4 c1 c2 c3 c4 : Nat) (s0 s1 : ByteArray) :
    ((w.alloc (.cells #[.slice a1 l1 c1, .slice a2 l2 c2, .string s0, .string s1, .slice a3 l3 c3, .slice a4 l4 c4] 25)).alloc (.cells #[.string ⟨#[]⟩, .string ⟨#[]⟩, .slice none 0 0, .slice none 0 0, .slice none 0 0, .slice none 0 0, .slice none 0 0] 58)).heap[w.heap.size]? = some (.cells #[.slice a1 l1 c1, .slice a2 l2 c2, .string s0, .string s1, .slice a3 l3 c3, .slice a4 l4 c4] 25 (0, 0)) ∧ Below w.heap.size w ((w.alloc (.cells #[.slice a1 l1 c1, .slice a2 l2 c2, .string s0, .string s1, .slice a3 l3 c3, .slice a4 l4 c4] 25)).alloc (.cells #[.string ⟨#[]⟩, .string ⟨#[]⟩, .slice none 0 0, .slice none 0 0, .slice none 0 0, .slice none 0 0, .slice none 0 0] 58)) := by
  refine ⟨?_, ((Below.refl _ w).alloc (Nat.le_refl _) _).alloc (by simp) _⟩
  rw [Below.heap_alloc _ _ _ (by simp)]
  exact heap_alloc_new w _
theorem talk_row (w : World) (a1 a2 a3 a4 : Option Addr) (l1 l2 l3 l4 c1 c2 c3 c4 : Nat) (s0 s1 : ByteArray) :
    ((w.alloc (.cells #[.slice a1 l1 c1, .slice a2 l2 c2, .string s0, .string s1, .slice a3 l3 c3, .slice a4 l4 c4] 25)).alloc (.cells #[.string ⟨#[]⟩, .string ⟨#[]⟩, .slice none 0 0, .slice none 0 0, .slice none 0 0, .slice none 0 0, .slice none 0 0] 58)).heap[w.heap.size + 1]? = some (.cells #[.string ⟨#[]⟩, .string ⟨#[]⟩, .slice none 0 0, .slice none 0 0, .slice none 0 0, .slice none 0 0, .slice none 0 0] 58 (0, 0)) := by
  have h := heap_alloc_new (w.alloc (.cells #[.slice a1 l1 c1, .slice a2 l2 c2, .string s0, .string s1, .slice a3 l3 c3, .slice a4 l4 c4] 25)) (.cells #[.string ⟨#[]⟩, .string ⟨#[]⟩, .slice none 0 0, .slice none 0 0, .slice none 0 0, .slice none 0 0, .slice none 0 0] 58)
  simpa using h
theorem box_cells {w : World} {B : Nat} {t : TypeId} {x0 x1 x2 x3 x4 x5 : Value} (h : w.heap[B]? = some (.cells #[x0, x1, x2, x3, x4, x5] t (0, 0))) : w.cell? ⟨B, 1, none⟩ = some x1 ∧ w.cell? ⟨B, 2, none⟩ = some x2 ∧ w.cell? ⟨B, 3, none⟩ = some x3 ∧ w.cell? ⟨B, 4, none⟩ = some x4 ∧ w.cell? ⟨B, 5, none⟩ = some x5 := by
  refine ⟨?_, ?_, ?_, ?_, ?_⟩ <;> simp [World.cell?, h]
theorem build_talk (s0 s1 : ByteArray) (a3 a4 a5 a6 a7 : Option Addr) (n3 n4 n5 n6 n7 c3 c4 c5 c6 c7 : Nat) : Tryd.prog.built 58 [(0, .string s0), (1, .string s1), (2, .slice a3 n3 c3), (3, .slice a4 n4 c4), (4, .slice a5 n5 c5), (5, .slice a6 n6 c6), (6, .slice a7 n7 c7)] = some #[.string s0, .string s1, .slice a3 n3 c3, .slice a4 n4 c4, .slice a5 n5 c5, .slice a6 n6 c6, .slice a7 n7 c7] := by kernel_rfl
set_option maxHeartbeats 1600000 in
set_option maxRecDepth 100000 in
theorem talk_c (pr pin ic is v1 v2 : Value) (s0 s1 : ByteArray) (k p i1 i2 : List UInt8) (hp : p.length ≤ 1000) (w : World) (hr : Rw w) (hs : SideS w pr pin ic is k p i1 i2) (x1 x2 : List UInt8) (h1 : BSl w v1 x1) (h2 : BSl w v2 x2) :
    Calls Tryd.prog 25 #[.agg (sideV pr pin s0 s1 ic is), v1, v2] w fun e w' => ∃ v3, e = .returned (.agg #[.string s0, .string s1, ic, is, v3, v1, v2]) ∧ BSl w' v3 (sumL p) ∧ Below w.heap.size w w' := by
  have HS := hidden hs
  have HR := hidden hr
  obtain ⟨a1, c1, e1⟩ := hs.pr.len
  obtain ⟨a2, c2, e2⟩ := hs.pin.len
  obtain ⟨a3, c3, e3⟩ := hs.ic.len
  obtain ⟨a4, c4, e4⟩ := hs.is.len
  subst e1 e2 e3 e4
  unfold sideV
  clear hs hr
  obtain ⟨a6, c6, e6⟩ := h1.len
  obtain ⟨a7, c7, e7⟩ := h2.len
  subst e6 e7
  clear h1 h2
  obtain ⟨W2, hW2⟩ : ∃ W, W = (w.alloc (.cells #[.slice a1 k.length c1, .slice a2 p.length c2, .string s0, .string s1, .slice a3 i1.length c3, .slice a4 i2.length c4] 25)).alloc (.cells #[.string ⟨#[]⟩, .string ⟨#[]⟩, .slice none 0 0, .slice none 0 0, .slice none 0 0, .slice none 0 0, .slice none 0 0] 58) := ⟨_, rfl⟩
  have hbox := side_box w a1 a2 a3 a4 k.length p.length i1.length i2.length c1 c2 c3 c4 s0 s1
  have hrow := talk_row w a1 a2 a3 a4 k.length p.length i1.length i2.length c1 c2 c3 c4 s0 s1
  rw [← hW2] at hbox hrow
  go_enter Tryd.func25, Tryd.ntmps25
  go_wp2_with fail
  rw [← hW2]
  have HBW : Hid (Below w.heap.size w W2) := hbox.2
  have HSZ : Hid (w.heap.size + 2 ≤ W2.heap.size) := lt_of_block hrow
  have HWS : Hid (w.heap.size = w.heap.size) := rfl
  have hb0 := hbox.1
  clear hW2 hbox
  generalize hBe : w.heap.size = B at hb0 hrow HSZ ⊢
  have HBE := hidden hBe
  clear HWS hBe
  obtain ⟨hc1, hc2, hc3, hc4, hc5⟩ := box_cells hb0
  have HC1 := hidden hc1
  have HC2 := hidden hc2
  have HC3 := hidden hc3
  have HC4 := hidden hc4
  have HC5 := hidden hc5
  have HROW := hidden hrow
  have HB0 := hidden hb0
  clear hc1 hc2 hc3 hc4 hc5 hrow hb0
  refine region_store [(.val (.pointer (some ⟨B, 2, none⟩))), (.val (.string s0)), (.val (.pointer (some ⟨B, 3, none⟩))), (.val (.string s1)), (.val (.pointer (some ⟨B, 4, none⟩))), (.val (.slice a3 i1.length c3)), (.val (.pointer (some ⟨B, 5, none⟩))), (.val (.slice a4 i2.length c4)), (.val (.pointer (some ⟨B, 1, none⟩))), (.val (.slice a2 p.length c2)), (.low (B + 2) (sumL p)), (.val (.slice a6 x1.length c6)), (.val (.slice a7 x2.length c7)), ⟨fun v w => ∃ v3, v = .agg #[.string s0, .string s1, .slice a3 i1.length c3, .slice a4 i2.length c4, v3, .slice a6 x1.length c6, .slice a7 x2.length c7] ∧ BSl w v3 (sumL p) ∧ ∀ k, v3.ownBlock = some k → B + 2 ≤ k, fun _ _ _ he ⟨v3, h1, h2, h3⟩ => ⟨v3, h1, h2.fresh he, h3⟩⟩] 14 rfl (by kernel_rfl) ?_ (by kernel_rfl) (by kernel_rfl) 58 6 20 (by show _ = _; kernel_rfl) ?_
  · refine reqU_cons (.val (.pointer (some ⟨B, 2, none⟩))) (by kernel_rfl) (fun vs w1 he hd => gives_side (x := .tmp 3) 2 (by decide) (by kernel_rfl) (by kernel_rfl) ⟨Ex.refl _, rfl⟩) ?_
    refine reqU_cons (.val (.string s0)) (by kernel_rfl) (fun vs w1 he hd => gives_ldS (x := .tmp 7) (by kernel_rfl) (Eq.trans (b := vs 0) (by kernel_rfl) (hd 0 (.val (.pointer (some ⟨B, 2, none⟩))) (by decide) (by kernel_rfl) (by kernel_rfl))) (cell_kept HC2.out he) ⟨Ex.refl _, rfl⟩) ?_
    refine reqU_cons (.val (.pointer (some ⟨B, 3, none⟩))) (by kernel_rfl) (fun vs w1 he hd => gives_side (x := .tmp 3) 3 (by decide) (by kernel_rfl) (by kernel_rfl) ⟨Ex.refl _, rfl⟩) ?_
    refine reqU_cons (.val (.string s1)) (by kernel_rfl) (fun vs w1 he hd => gives_ldS (x := .tmp 9) (by kernel_rfl) (Eq.trans (b := vs 2) (by kernel_rfl) (hd 2 (.val (.pointer (some ⟨B, 3, none⟩))) (by decide) (by kernel_rfl) (by kernel_rfl))) (cell_kept HC3.out he) ⟨Ex.refl _, rfl⟩) ?_
    refine reqU_cons (.val (.pointer (some ⟨B, 4, none⟩))) (by kernel_rfl) (fun vs w1 he hd => gives_side (x := .tmp 3) 4 (by decide) (by kernel_rfl) (by kernel_rfl) ⟨Ex.refl _, rfl⟩) ?_
    refine reqU_cons (.val (.slice a3 i1.length c3)) (by kernel_rfl) (fun vs w1 he hd => gives_ldB (x := .tmp 11) (by kernel_rfl) (Eq.trans (b := vs 4) (by kernel_rfl) (hd 4 (.val (.pointer (some ⟨B, 4, none⟩))) (by decide) (by kernel_rfl) (by kernel_rfl))) (cell_kept HC4.out he) ⟨Ex.refl _, rfl⟩) ?_
    refine reqU_cons (.val (.pointer (some ⟨B, 5, none⟩))) (by kernel_rfl) (fun vs w1 he hd => gives_side (x := .tmp 3) 5 (by decide) (by kernel_rfl) (by kernel_rfl) ⟨Ex.refl _, rfl⟩) ?_
    refine reqU_cons (.val (.slice a4 i2.length c4)) (by kernel_rfl) (fun vs w1 he hd => gives_ldB (x := .tmp 13) (by kernel_rfl) (Eq.trans (b := vs 6) (by kernel_rfl) (hd 6 (.val (.pointer (some ⟨B, 5, none⟩))) (by decide) (by kernel_rfl) (by kernel_rfl))) (cell_kept HC5.out he) ⟨Ex.refl _, rfl⟩) ?_
    refine reqU_cons (.val (.pointer (some ⟨B, 1, none⟩))) (by kernel_rfl) (fun vs w1 he hd => gives_side (x := .tmp 3) 1 (by decide) (by kernel_rfl) (by kernel_rfl) ⟨Ex.refl _, rfl⟩) ?_
    refine reqU_cons (.val (.slice a2 p.length c2)) (by kernel_rfl) (fun vs w1 he hd => gives_ldB (x := .tmp 15) (by kernel_rfl) (Eq.trans (b := vs 8) (by kernel_rfl) (hd 8 (.val (.pointer (some ⟨B, 1, none⟩))) (by decide) (by kernel_rfl) (by kernel_rfl))) (cell_kept HC1.out he) ⟨Ex.refl _, rfl⟩) ?_
    refine reqU_cons (.low (B + 2) (sumL p)) (by kernel_rfl) (fun vs w1 he hd => gives_call (fn := Tryd.f26) (f := 26) (xs := #[.tmp 16]) (ts := #[22]) (vs := #[(.slice a2 p.length c2)]) (by kernel_rfl) (by kernel_rfl) (Eq.trans (b := #[vs 9]) (by kernel_rfl) (congrArg (fun x => #[x]) (hd 9 (.val (.slice a2 p.length c2)) (by decide) (by kernel_rfl) (by kernel_rfl)))) (by kernel_rfl) (by kernel_rfl) (by kernel_rfl) (told_low (Nat.le_trans HSZ.out (Below.size he)) (Print_c _ p (by omega) w1 ((HR.out.fresh HBW.out).fresh he) ((HS.out.pin.fresh HBW.out).fresh he)))) ?_
    refine reqU_cons (.val (.slice a6 x1.length c6)) (by kernel_rfl) (fun vs w1 he hd => gives_move (x := .tmp 1) (by kernel_rfl) (by kernel_rfl) ⟨Ex.refl _, rfl⟩) ?_
    refine reqU_cons (.val (.slice a7 x2.length c7)) (by kernel_rfl) (fun vs w1 he hd => gives_move (x := .tmp 2) (by kernel_rfl) (by kernel_rfl) ⟨Ex.refl _, rfl⟩) ?_
    refine reqU_cons ⟨fun v w => ∃ v3, v = .agg #[.string s0, .string s1, .slice a3 i1.length c3, .slice a4 i2.length c4, v3, .slice a6 x1.length c6, .slice a7 x2.length c7] ∧ BSl w v3 (sumL p) ∧ ∀ k, v3.ownBlock = some k → B + 2 ≤ k, fun _ _ _ he ⟨v3, h1, h2, h3⟩ => ⟨v3, h1, h2.fresh he, h3⟩⟩ (by kernel_rfl) (fun vs w1 he hd => ?_) reqU_nil
    obtain ⟨a5, c5, e5⟩ := BSl.len (show BSl w1 (vs 10) (sumL p) from (hd 10 (.low (B + 2) (sumL p)) (by decide) (by kernel_rfl) (by kernel_rfl)).1)
    refine gives_build (t := 58) (parts := #[(0, .tmp 8), (1, .tmp 10), (2, .tmp 12), (3, .tmp 14), (4, .tmp 17), (5, .tmp 18), (6, .tmp 19)]) (cells := #[.string s0, .string s1, .slice a3 i1.length c3, .slice a4 i2.length c4, vs 10, .slice a6 x1.length c6, .slice a7 x2.length c7]) (by kernel_rfl) ?_ ⟨Ex.refl _, _, rfl, (hd 10 (.low (B + 2) (sumL p)) (by decide) (by kernel_rfl) (by kernel_rfl))⟩
    have e1 : vs 1 = (.string s0) := (hd 1 (.val (.string s0)) (by decide) (by kernel_rfl) (by kernel_rfl))
    have e3 : vs 3 = (.string s1) := (hd 3 (.val (.string s1)) (by decide) (by kernel_rfl) (by kernel_rfl))
    have e5' : vs 5 = (.slice a3 i1.length c3) := (hd 5 (.val (.slice a3 i1.length c3)) (by decide) (by kernel_rfl) (by kernel_rfl))
    have e7 : vs 7 = (.slice a4 i2.length c4) := (hd 7 (.val (.slice a4 i2.length c4)) (by decide) (by kernel_rfl) (by kernel_rfl))
    have e11 : vs 11 = (.slice a6 x1.length c6) := (hd 11 (.val (.slice a6 x1.length c6)) (by decide) (by kernel_rfl) (by kernel_rfl))
    have e12 : vs 12 = (.slice a7 x2.length c7) := (hd 12 (.val (.slice a7 x2.length c7)) (by decide) (by kernel_rfl) (by kernel_rfl))
    refine Eq.trans (b := Tryd.prog.built 58 [(0, vs 1), (1, vs 3), (2, vs 5), (3, vs 7), (4, vs 10), (5, vs 11), (6, vs 12)]) (by kernel_rfl) ?_
    rw [e1, e3, e5', e7, e11, e12, e5]
    exact build_talk s0 s1 a3 a4 a5 a6 a7 _ _ _ _ _ c3 c4 c5 c6 c7
  · intro vs w1 o he hF ho hdst
    obtain ⟨v3, e13, hv3, hlo3⟩ := told_at hF 13 ⟨fun v w => ∃ v3, v = .agg #[.string s0, .string s1, .slice a3 i1.length c3, .slice a4 i2.length c4, v3, .slice a6 x1.length c6, .slice a7 x2.length c7] ∧ BSl w v3 (sumL p) ∧ ∀ k, v3.ownBlock = some k → B + 2 ≤ k, fun _ _ _ he ⟨v3, h1, h2, h3⟩ => ⟨v3, h1, h2.fresh he, h3⟩⟩ (by decide) (by kernel_rfl)
    obtain ⟨a5, c5, rfl⟩ := hv3.len
    refine wp_store_row 58 (.tmp 6) (.tmp 20) ho (B + 1) #[.string s0, .string s1, .slice a3 i1.length c3, .slice a4 i2.length c4, .slice a5 (sumL p).length c5, .slice a6 x1.length c6, .slice a7 x2.length c7] (by kernel_rfl) (Eq.trans (b := vs 13) (by kernel_rfl) e13) 58 _ ((Below.block he (B + 1) (lt_of_block HROW.out)).trans HROW.out) (by kernel_rfl) rfl (by simp [Value.oneCell']) ?_
    rw [hdst]
    have hrw : (w1.setRow (B + 1) #[.string s0, .string s1, .slice a3 i1.length c3, .slice a4 i2.length c4, .slice a5 (sumL p).length c5, .slice a6 x1.length c6, .slice a7 x2.length c7]).heap[B + 1]? = some (.cells #[.string s0, .string s1, .slice a3 i1.length c3, .slice a4 i2.length c4, .slice a5 (sumL p).length c5, .slice a6 x1.length c6, .slice a7 x2.length c7] 58 (0, 0)) := setRow_heap w1 (B + 1) _ _ _ _ ((Below.block he (B + 1) (lt_of_block HROW.out)).trans HROW.out)
    have HRW := hidden hrw
    have hks : Keeps (fun k => k = B + 1) w1 (w1.setRow (B + 1) #[.string s0, .string s1, .slice a3 i1.length c3, .slice a4 i2.length c4, .slice a5 (sumL p).length c5, .slice a6 x1.length c6, .slice a7 x2.length c7]) := (Keeps.refl (fun k => k = B + 1) w1).setRow (g := B + 1) rfl _
    have HV5 := hidden (hv3.keep hks (fun k e e2 => by have := hlo3 k e; omega))
    have HB5 : Hid (Below w.heap.size w (w1.setRow (B + 1) #[.string s0, .string s1, .slice a3 i1.length c3, .slice a4 i2.length c4, .slice a5 (sumL p).length c5, .slice a6 x1.length c6, .slice a7 x2.length c7])) := below_setRow (HBW.out.trans (Below.mono he HBW.out.size)) (by have := HBE.out; omega) _
    simp only [actsTo, if_true, dstOf, List.getElem?_toArray, List.getElem?_cons_succ, List.getElem?_cons_zero, Option.bind_some, Act.put, List.setIfInBounds_toArray, List.set_cons_zero, List.set_cons_succ]
    clear hF e13 hv3 he hrw hks hlo3
    generalize w1.setRow (B + 1) #[.string s0, .string s1, .slice a3 i1.length c3, .slice a4 i2.length c4, .slice a5 (sumL p).length c5, .slice a6 x1.length c6, .slice a7 x2.length c7] = w5 at HRW HV5 HB5 ⊢
    go_wp2
    refine bodyPost_ret (results_agg1 rfl _ _ _ (B + 1) _ 58 (0, 0) rfl HRW.out Tryd.underlying58 (by kernel_rfl)) rfl ?_
    exact ⟨_, rfl, HV5.out, HB5.out⟩
end Go.Proofs.YtookapglookphaaDoor
