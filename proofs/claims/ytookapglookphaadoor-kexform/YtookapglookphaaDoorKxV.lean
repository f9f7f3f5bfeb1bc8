/- The law's side(). -/
import Derived.Test.YtookapglookphaaDoorKxI
namespace Go.Proofs.YtookapglookphaaDoor
open Go Go.RowKit

/-- The private key that side makes of bytes. -/
def privL (whole : Bool) (k : List UInt8) : List UInt8 := if whole then sizedL (k.take 40) 32 else k.take 40
theorem privL_le (b : Bool) (k : List UInt8) : (privL b k).length ≤ 40 := by
  unfold privL
  split
  · rw [sizedL_length]; omega
  · rw [List.length_take]; omega
theorem privL_32 (k : List UInt8) : (privL true k).length = 32 := sizedL_length _ _
def headS (s : ByteArray) : ByteArray := s.extract 0 50
theorem headS_le (s : ByteArray) : (headS s).size ≤ 50 := by
  unfold headS
  rw [ByteArray.size_extract]
  omega
/-- What side tells. -/
structure SidePost (w : World) (whole : Bool) (k p : List UInt8) (s0 s1 : ByteArray) (i1 i2 : List UInt8) (e : Ending) (w' : World) : Prop where
  bel : Below w.heap.size w w'
  told : ∃ pr pin ic is, e = .returned (.agg (sideV pr pin (headS s0) (headS s1) ic is)) ∧ SideS w' pr pin ic is (privL whole k) (p.take 80) (i1.take 100) (i2.take 100)
theorem BSl.setRowA {w : World} {R : Nat} {v : Value} {cs : Array Value} {t : TypeId} {xs : List UInt8} (h : BSl w v xs) (hr : w.heap[R]? = some (.cells cs t (0, 0))) (h0 : ∀ (i : Nat) (n : Int), cs[i]? ≠ some (.int .u8 n)) (ds : Array Value) : BSl (w.setRow R ds) v xs := by
  by_cases hne : xs = []
  · subst hne
    exact h.nothing
  · refine h.keep ((Keeps.refl (fun k => k = R) w).setRow (g := R) rfl ds) (fun k e e2 => ?_)
    obtain ⟨x, r, rfl⟩ := List.exists_cons_of_ne_nil hne
    obtain ⟨b, off, cap, rfl, _, _, hb⟩ := h.cons
    have hc := h.head
    rw [hb] at e
    cases e
    subst e2
    unfold World.cell? at hc
    simp only [hr] at hc
    exact h0 off _ (by simpa using hc)
set_option maxHeartbeats 1600000 in
set_option maxRecDepth 100000 in
theorem side_c (whole : Bool) (v0 v1 v4 v5 : Value) (s0 s1 : ByteArray) (k p i1 i2 : List UInt8) (w : World) (h0 : BSl w v0 k) (h1 : BSl w v1 p) (h4 : BSl w v4 i1) (h5 : BSl w v5 i2) :
    Calls Tryd.prog 15 #[v0, v1, .string s0, .string s1, v4, v5, .bool whole] w (SidePost w whole k p s0 s1 i1 i2) := by
  have H0 := hidden h0
  have H1 := hidden h1
  have H4 := hidden h4
  have H5 := hidden h5
  have hbw : Below w.heap.size w (w.alloc (.cells #[.slice none 0 0, .slice none 0 0, .string ⟨#[]⟩, .string ⟨#[]⟩, .slice none 0 0, .slice none 0 0] 25)) := (Below.refl _ w).alloc (Nat.le_refl _) _
  have hrw : (w.alloc (.cells #[.slice none 0 0, .slice none 0 0, .string ⟨#[]⟩, .string ⟨#[]⟩, .slice none 0 0, .slice none 0 0] 25)).heap[w.heap.size]? = some (.cells #[.slice none 0 0, .slice none 0 0, .string ⟨#[]⟩, .string ⟨#[]⟩, .slice none 0 0, .slice none 0 0] 25 (0, 0)) := heap_alloc_new w _
  clear h0 h1 h4 h5
  go_enter Tryd.func15, Tryd.ntmps15
  go_wp2_with fail
  have HB := hidden hbw
  have HW := hidden hrw
  generalize w.alloc (.cells #[.slice none 0 0, .slice none 0 0, .string ⟨#[]⟩, .string ⟨#[]⟩, .slice none 0 0, .slice none 0 0] 25) = w1 at HB HW ⊢
  clear hbw hrw
  refine (cut_c 40 (by omega) _ k w1 (H0.out.fresh HB.out)).mono ?_
  rintro e w2 ⟨u0, rfl, hu0, _, rfl⟩
  have HU0 := hidden hu0
  obtain ⟨a0, c0, rfl⟩ := hu0.len
  clear hu0
  have HPf : Hid (privL false k = k.take 40) := rfl
  have HPt : Hid (privL true k = sizedL (k.take 40) 32) := rfl
  generalize k.take 40 = k40 at HU0 HPf HPt ⊢
  obtain ⟨PL, hPL⟩ : ∃ PL, privL whole k = PL := ⟨_, rfl⟩
  have HPL := hidden hPL
  clear hPL
  go_upto_if 17 with fail
  go_cut [0] from 18 to 19 (fun u wx => BSl wx u PL ∧ Below w2.heap.size w2 wx)
  case first =>
    cases whole with
    | false =>
      go_wp2_with fail
      go_meet
      case rel => exact ⟨by rw [← HPL.out, HPf.out]; exact HU0.out, Below.refl _ _⟩
    | true =>
      go_wp2_with fail
      refine (sized_b 32 (by omega) _ k40 w2 HU0.out).mono ?_
      rintro e w3 ⟨rfl, hv3, hb3⟩
      have HV3 := hidden hv3
      have HB3 := hidden hb3
      clear hv3 hb3
      go_wp2_with fail
      go_meet
      case rel => exact ⟨by rw [← HPL.out, HPt.out]; exact HV3.out, HB3.out⟩
  case rest =>
  obtain ⟨hu, hbc⟩ := hcut
  have HU := hidden hu
  obtain ⟨ap, cp, rfl⟩ := hu.len
  have HBc := hidden (HB.out.trans (hbc.mono HB.out.size))
  have HWc : Hid (wc.heap[w.heap.size]? = some (.cells #[.slice none 0 0, .slice none 0 0, .string ⟨#[]⟩, .string ⟨#[]⟩, .slice none 0 0, .slice none 0 0] 25 (0, 0))) := (hbc.block _ (lt_of_block HW.out)).trans HW.out
  clear hu hbc HU0 HB HW HPf HPt
  generalize PL.length = lp at HU ⊢
  go_wp2_with fail
  refine (cut_c 80 (by omega) _ p wc (H1.out.fresh HBc.out)).mono ?_
  rintro e w3 ⟨u1, rfl, hu1, _, rfl⟩
  have HU1 := hidden hu1
  obtain ⟨a1, c1, rfl⟩ := hu1.len
  clear hu1
  generalize hp80 : p.take 80 = p80 at HU1 ⊢
  have HP80 := hidden hp80
  clear hp80
  generalize p80.length = lp1 at HU1 ⊢
  go_wp2_with fail
  refine (head_c s0 50 (by omega) w3).mono ?_
  rintro e w4 ⟨rfl, rfl⟩
  rw [show s0.extract 0 50 = headS s0 from rfl]
  generalize hT0 : headS s0 = t0
  have HT0 := hidden hT0
  clear hT0
  go_wp2_with fail
  refine (head_c s1 50 (by omega) w4).mono ?_
  rintro e w5 ⟨rfl, rfl⟩
  rw [show s1.extract 0 50 = headS s1 from rfl]
  generalize hT1 : headS s1 = t1
  have HT1 := hidden hT1
  clear hT1
  go_wp2_with fail
  refine (cut_c 100 (by omega) _ i1 w5 (H4.out.fresh HBc.out)).mono ?_
  rintro e w6 ⟨u4, rfl, hu4, _, rfl⟩
  have HU4 := hidden hu4
  obtain ⟨a4, c4, rfl⟩ := hu4.len
  clear hu4
  generalize hp4 : i1.take 100 = j1 at HU4 ⊢
  have HP4 := hidden hp4
  clear hp4
  generalize j1.length = lp4 at HU4 ⊢
  go_wp2_with fail
  refine (cut_c 100 (by omega) _ i2 w6 (H5.out.fresh HBc.out)).mono ?_
  rintro e w7 ⟨u5, rfl, hu5, _, rfl⟩
  have HU5 := hidden hu5
  obtain ⟨a5, c5, rfl⟩ := hu5.len
  clear hu5
  generalize hp5 : i2.take 100 = j2 at HU5 ⊢
  have HP5 := hidden hp5
  clear hp5
  generalize j2.length = lp5 at HU5 ⊢
  go_wp2_with (first | (refine wpList_store_row rfl 25 (.tmp 14) (.tmp 31) rfl w.heap.size #[.slice ap lp cp, .slice a1 lp1 c1, .string t0, .string t1, .slice a4 lp4 c4, .slice a5 lp5 c5] rfl rfl 25 _ HWc.out (by kernel_rfl) rfl (by simp [Value.oneCell']) ?_))
  have hrow := setRow_heap w7 w.heap.size _ #[.slice ap lp cp, .slice a1 lp1 c1, .string t0, .string t1, .slice a4 lp4 c4, .slice a5 lp5 c5] _ _ HWc.out
  refine bodyPost_ret (results_agg1 rfl _ _ _ w.heap.size _ 25 (0, 0) rfl hrow Tryd.underlying25 (by kernel_rfl)) rfl ?_
  have hst : ∀ v xs, BSl w7 v xs → BSl (w7.setRow w.heap.size #[.slice ap lp cp, .slice a1 lp1 c1, .string t0, .string t1, .slice a4 lp4 c4, .slice a5 lp5 c5]) v xs := fun v xs hv => hv.setRowA HWc.out (fun i n => by
    match i with
    | 0 => simp
    | 1 => simp
    | 2 => simp
    | 3 => simp
    | 4 => simp
    | 5 => simp
    | k + 6 => simp) _
  refine ⟨below_setRow HBc.out (Nat.le_refl _) _, .slice ap lp cp, .slice a1 lp1 c1, .slice a4 lp4 c4, .slice a5 lp5 c5, ?_, ?_⟩
  · rw [HT0.out, HT1.out]
    rfl
  · rw [HPL.out, HP80.out, HP4.out, HP5.out]
    exact ⟨hst _ _ HU.out, hst _ _ HU1.out, hst _ _ HU4.out, hst _ _ HU5.out⟩
end Go.Proofs.YtookapglookphaaDoor
