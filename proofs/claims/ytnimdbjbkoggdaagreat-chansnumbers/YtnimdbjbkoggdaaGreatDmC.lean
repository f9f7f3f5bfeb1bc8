/- What the document does with a 94 or 98 of an open channel. -/
import Derived.Test.YtnimdbjbkoggdaaGreatDmB
namespace Go.Proofs.YtnimdbjbkoggdaaGreat
open Go Go.RowKit

theorem strB_size (l : List UInt8) : (strB l).size = l.length := by simp [strB, ByteArray.size]

set_option maxHeartbeats 1600000 in
set_option maxRecDepth 100000 in
theorem on94_q (w : World) {L : Nat} {P : Nat → Prop} {a rb i : Nat} {S : MS} {c : Ch} {g : Option Nat} {bs : List UInt8} {p : Nat} {why : Int} (h : QX w P a S) (hok : OkM L S) (_hL : L ≤ 1000000) (hi : i < 4) (hc : S.cs.getD i none = some c) (hr : QR w rb g bs p why) (har : a < rb) (hPR : ¬ P rb) :
    Calls Tryz.prog 44 #[.pointer (some ⟨a, 0, none⟩), .int .i64 (i : Int), .int .i64 94, .pointer (some ⟨rb, 0, none⟩)] w fun e w' => QDPost w P a (fun k => k = a ∨ k = rb) ((putC S i (dataO c i bs p why)).getD (⟨S.cs, true⟩, [byeL 2], [])) e w' := by
  have HM := hidden h
  have HPR := hidden hPR
  have hal := h.aLt
  have hS := hok.four
  have HKC := hidden (hok.each i c hc)
  have hth := (hok.each i c hc).th
  have g1 : (i : Int) < 4 := by omega
  have g0 : ¬ (i : Int) < 0 := by omega
  have hol := (hok.each i c hc).ol
  unfold dataO
  have HT : Hid (Calls Tryz.prog 63 #[.pointer (some ⟨rb, 0, none⟩), .int .i64 32768] w fun e w' => QPost rb g bs (tx bs p why 32768) (.string (strB (tx bs p why 32768).1)) w e w') := hidden (qtext_c 32768 (by omega) (by omega) w hr)
  have hlen := tx_len bs p why 32768
  generalize tx bs p why 32768 = tt at *
  generalize hd : wholeB bs tt.2.1 tt.2.2 = d at *
  have HW : Hid (∀ w', QR w' rb g bs tt.2.1 tt.2.2 → Calls Tryz.prog 67 #[.pointer (some ⟨rb, 0, none⟩)] w' fun e w2 => e = .returned (.bool d) ∧ Keeps (fun _ => False) w' w2) := hidden fun w' h' => by rw [← hd]; exact fine_c w' h'
  obtain ⟨t, ht⟩ : ∃ t, t = tt.1 := ⟨_, rfl⟩
  rw [← ht] at HT hlen ⊢
  obtain ⟨X, hX⟩ : ∃ X, X = strB t := ⟨_, rfl⟩
  rw [← hX] at HT
  obtain ⟨n, hn⟩ : ∃ n, n = t.length := ⟨_, rfl⟩
  have hXs : X.size = n := by rw [hX, strB_size, hn]
  have hnl : n ≤ 32768 := by rw [hn]; exact hlen
  have HXL : Hid (X.data.toList = t) := hidden (by rw [hX]; simp [strB])
  have HN := hidden hn
  have HXS := hidden hXs
  rw [← hn]
  clear ht hX h hr hPR hd hok _hL hn hXs hlen
  generalize hen : c.en = en at *
  have HEN := hidden hen
  clear hen
  cases d
  · rw [if_neg (by rintro ⟨h, _⟩; cases h), show putC S i none = none from rfl, Option.getD_none]
    go_enter Tryz.func44, Tryz.ntmps44
    go_wp2_with fail
    refine HT.out.mono ?_
    rintro e w1 ⟨rfl, t1⟩
    have HK1 := hidden t1.keeps
    have HR1 := hidden t1.state
    have HM1 := hidden (HM.out.read har HPR.out t1.keeps)
    clear t1 HT HM
    have q8 := run_bytes X w1
    have HBB := hidden (bytes_bsl w1 X (by rw [HXS.out]; omega))
    have hbl := bytesW_below w1 X
    unfold bytesV at q8 HBB
    rw [HXS.out] at q8 HBB
    rw [HXL.out] at HBB
    generalize grownCap w1 n 0 5 = K8 at *
    generalize bytesW w1 X = w2 at *
    obtain ⟨g8, hg8⟩ : ∃ g8, g8 = w1.heap.size := ⟨_, rfl⟩
    rw [← hg8] at q8 HBB
    have hg8w : w.heap.size ≤ g8 := by rw [hg8]; exact HK1.out.size
    have HBL := hidden hbl
    have HR2 := hidden (HR1.out.fresh hbl)
    clear hbl
    go_upto_region 21 with fail
    rw [← hg8]
    clear q8 hg8
    go_wp2_with fail
    refine (HW.out _ HR2.out).mono ?_
    rintro e w3 ⟨rfl, hk3⟩
    have HKw : Hid (Keeps (fun k => k = rb) w w3) := hidden ((HK1.out.trans (Keeps.ofFresh HBL.out)).trans (hk3.mono (fun k _ h => h.elim)))
    have HMw := hidden ((HM1.out.fresh HBL.out).still hk3)
    have HB3 := hidden (HBB.out.keep hk3 (fun k _ h => h))
    clear hk3 HW HR1 HR2 HM1 HK1 HBL HBB
    go_upto_region 22 with fail
    go_wp2_with fail
    refine (bye_q _ HMw.out).mono ?_
    rintro e w9 hq
    have HQ := hidden (hq.after HKw.out)
    obtain ⟨u1, u2, rfl, _⟩ := hq
    clear HMw HKw
    go_wp2_with fail
    go_ret2
    exact HQ.out
  · cases en
    · by_cases hle : n ≤ c.ol
      · rw [if_pos ⟨rfl, hle, rfl⟩]
        rw [show putC S i (some (some (refillO (used c (c.ol - n))).1, (refillO (used c (c.ol - n))).2, if c.od = true ∧ t ≠ [] then [⟨2, i, t⟩] else [])) = some (⟨S.cs.set i (some (refillO (used c (c.ol - n))).1), S.dead⟩, (refillO (used c (c.ol - n))).2, if c.od = true ∧ t ≠ [] then [⟨2, i, t⟩] else []) from rfl, Option.getD_some]
        generalize hod : c.od = od at *
        have HOD := hidden hod
        clear hod
        cases od
        · rw [if_neg (fun h => by cases h.1)]
          by_cases hlow : c.ol - n < 32768
          · have hgt : ¬ (c.ol : Int) < (n : Int) := by omega
            obtain ⟨m, hm⟩ : ∃ m, m = c.ol - n := ⟨_, rfl⟩
            have HM1X : Hid ((c.ol : Int) - (n : Int) = (m : Int)) := hidden (by omega)
            have hm2 : m ≤ 65536 := by omega
            rw [← hm] at hlow ⊢
            clear hm
            have hlo : (m : Int) < 32768 := by omega
            obtain ⟨q, hq⟩ : ∃ q, q = 65536 - m := ⟨_, rfl⟩
            have hq1 : (65536 : Int) - (m : Int) = (q : Int) := by omega
            have hq2 : q ≤ 65536 := by omega
            have HRF : Hid (refillO (used c m) = (used c 65536, [numL 93 [c.th, q]])) := hidden (by unfold refillO; rw [if_pos (show (used c m).ol < 32768 from hlow), hq]; rfl)
            rw [HRF.out]
            clear hq hlow HRF
            have HQ1 := hidden hq1
            have HLO := hidden hlo
            clear hq1 hlo
            go_enter Tryz.func44, Tryz.ntmps44
            go_wp2_with fail
            refine HT.out.mono ?_
            rintro e w1 ⟨rfl, t1⟩
            have HK1 := hidden t1.keeps
            have HR1 := hidden t1.state
            have HM1 := hidden (HM.out.read har HPR.out t1.keeps)
            clear t1 HT HM
            have q8 := run_bytes X w1
            have HBB := hidden (bytes_bsl w1 X (by rw [HXS.out]; omega))
            have hbl := bytesW_below w1 X
            unfold bytesV at q8 HBB
            rw [HXS.out] at q8 HBB
            rw [HXL.out] at HBB
            generalize grownCap w1 n 0 5 = K8 at *
            generalize bytesW w1 X = w2 at *
            obtain ⟨g8, hg8⟩ : ∃ g8, g8 = w1.heap.size := ⟨_, rfl⟩
            rw [← hg8] at q8 HBB
            have hg8w : w.heap.size ≤ g8 := by rw [hg8]; exact HK1.out.size
            have HBL := hidden hbl
            have HR2 := hidden (HR1.out.fresh hbl)
            clear hbl
            go_upto_region 21 with fail
            rw [← hg8]
            clear q8 hg8
            go_wp2_with fail
            refine (HW.out _ HR2.out).mono ?_
            rintro e w3 ⟨rfl, hk3⟩
            have HKw : Hid (Keeps (fun k => k = rb) w w3) := hidden ((HK1.out.trans (Keeps.ofFresh HBL.out)).trans (hk3.mono (fun k _ h => h.elim)))
            have HMw := hidden ((HM1.out.fresh HBL.out).still hk3)
            have HB3 := hidden (HBB.out.keep hk3 (fun k _ h => h))
            clear hk3 HW HR1 HR2 HM1 HK1 HBL HBB
            obtain ⟨v, A, Z, hx, hvP, hput⟩ := HMw.out.putD hS hi hc
            have HPUT := hidden hput
            have HVP := hidden hvP
            obtain ⟨c0, c1, c2, c3, c4, c5, c6, c7, cf⟩ := hx.cells
            have HX := hidden hx
            clear hx hvP hput
            rw [HEN.out] at c2
            have HX4 := hidden (HX.out.set 6 (by omega) (.int .i64 (m : Int)) (used c m) v rfl HX.out.held HX.out.own)
            have HK4 := hidden (keepsSet w3 a (i * 8 + 6) (.int .i64 (m : Int)))
            have HGT := hidden hgt
            clear hgt
            go_upto_if 116 with fail
            have hd1 : decide ((c.ol : Int) < (n : Int)) = false := decide_eq_false (by have := HGT.out; omega)
            have hd2 : decide (c.ol < n) = false := decide_eq_false (by have := HGT.out; omega)
            first | rw [hd1] | rw [hd2]
            clear hd1 hd2
            go_upto_region 23 with fail
            have hm1 := HM1X.out
            clear HM1X
            go_upto_region 24 with fail
            clear c0 c1 c2 c3 c4 c5 c6 c7 cf hm1
            generalize w3.setCell ⟨a, i * 8 + 6, none⟩ (.int .i64 (m : Int)) = w4 at *
            have HKB := HK4
            obtain ⟨c0, c1, c2, c3, c4, c5, c6, c7, cf⟩ := HX4.out.cells
            rw [show (used c m).th = c.th from rfl] at c4
            rw [show (used c m).ol = m from rfl] at c6
            rw [show (used c m).od = c.od from rfl, HOD.out] at c1
            have hq1 := HQ1.out
            have hlo := HLO.out
            have HS : Hid (∀ w', Keeps (fun _ => False) w4 w' → w'.cell? ⟨a, i * 8 + 4, none⟩ = some (.int .u32 (c.th : Int)) ∧ w'.cell? ⟨a, i * 8 + 6, none⟩ = some (.int .i64 (m : Int))) := hidden fun w' hb => ⟨hb.cell c4 (fun h => h), hb.cell c6 (fun h => h)⟩
            have HNL : Hid (NSl (w4.alloc (.cells #[.int .u32 (c.th : Int), .int .u32 (q : Int)] 30)).drew (.slice (some ⟨w4.heap.size, 0, none⟩) 2 2) [c.th, q]) := hidden (nsl_lit w4 [c.th, q])
            clear c0 c2 c3 c5 c7
            have hw1 : IntKind.i64.wrap (q : Int) = (q : Int) := wrap_small _ (by omega) (by omega)
            have hw2 : IntKind.u32.wrap (q : Int) = (q : Int) := by rw [wrap_u]; unfold u32n; omega
            go_upto_region 26 with fail
            go_region_held3 (fun w' => w'.cell? ⟨a, i * 8 + 4, none⟩ = some (.int .u32 (c.th : Int)) ∧ w'.cell? ⟨a, i * 8 + 6, none⟩ = some (.int .i64 (m : Int)))
              (first | exact HS.out _ (Keeps.refl _ _) | exact HS.out _ (Keeps.refl _ _).drew | exact HS.out _ ((Keeps.refl _ _).alloc _) | exact HS.out _ ((Keeps.refl _ _).drew.alloc _) | exact HS.out _ ((Keeps.refl _ _).alloc _).drew | exact HS.out _ hkR | exact HS.out _ (hkR.alloc _) | go_keep)
              (first
                | (go_at_call 31; refine (uq_c 93 _ [c.th, q] _ HNL.out (by intro j hj; match j, hj with | 0, _ => exact hth | 1, _ => exact Nat.le_trans hq2 (by omega)) (by simp) (by simp)).mono ?_; rintro e w5 ⟨v5, rfl, ho5, hb5⟩; obtain ⟨a5, p5, e5⟩ := ownsRow_shape ho5; subst e5; have hkR : Keeps (fun _ => False) w4 w5 := Keeps.ofFresh (below_alloc (below_undrew hb5))))
            have hk5 : Keeps (fun _ => False) w4 (w5.alloc (.cells #[.slice a5 (numL (byteOf ((93 : Nat) : Int)) [c.th, q]).length p5] 22)) := hkR.alloc _
            have HL5 : Hid (Lst w4.heap.size (w5.alloc (.cells #[.slice a5 (numL (byteOf ((93 : Nat) : Int)) [c.th, q]).length p5] 22)) (.slice (some ⟨w5.heap.size, 0, none⟩) 1 1) [numL 93 [c.th, q]]) := hidden (Lst.one ho5 (by simp) hb5.size)
            have HX5 := hidden (HX4.out.still hk5)
            have HK5 := hidden (HK4.out.trans (hk5.mono (S' := fun k => k = a) (fun k _ h => h.elim)))
            clear ho5 hb5 hkR hk5 HS HNL c1 c4 c6 cf HX4 HK4
            rw [show ((93 : Nat) : Int) = 93 from rfl] at HL5 HX5 HK5
            generalize (numL (byteOf 93) [c.th, q]).length = n5 at *
            obtain ⟨g5, hg5⟩ : ∃ g5, g5 = w5.heap.size := ⟨_, rfl⟩
            rw [← hg5] at HL5
            rw [← hg5]
            clear hg5
            generalize w5.alloc (.cells #[.slice a5 n5 p5] 22) = w5b at *
            obtain ⟨c0, c1, c2, c3, c4, c5, c6, c7, cf⟩ := HX5.out.cells
            rw [show (used c m).ol = m from rfl] at c6
            have HX6 := hidden (HX5.out.set 6 (by omega) (.int .i64 65536) (used c 65536) v rfl HX5.out.held HX5.out.own)
            have HKs := keepsSet w5b a (i * 8 + 6) (.int .i64 65536)
            have HK6 := hidden (HK5.out.trans HKs)
            have HL6 : Hid (Lst w3.heap.size (w5b.setCell ⟨a, i * 8 + 6, none⟩ (.int .i64 65536)) (.slice (some ⟨g5, 0, none⟩) 1 1) [numL 93 [c.th, q]]) := hidden ((HL5.out.mono HKB.out.size).keep HKs (fun k e => by have := HMw.out.aLt; omega))
            clear HKs HX5 HK5 HL5
            go_upto_region 28 with fail
            clear c0 c1 c2 c3 c4 c5 c6 c7 cf
            generalize w5b.setCell ⟨a, i * 8 + 6, none⟩ (.int .i64 65536) = w6 at *
            obtain ⟨c0, c1, c2, c3, c4, c5, c6, c7, cf⟩ := HX6.out.cells
            rw [show (used c 65536).od = c.od from rfl, HOD.out] at c1
            have HP : Hid (QDPost w P a (fun k => k = a ∨ k = rb) (⟨S.cs.set i (some (used c 65536)), S.dead⟩, [numL 93 [c.th, q]], []) (.returned (.tuple #[.slice (some ⟨g5, 0, none⟩) 1 1, .slice none 0 0])) w6) := by
              have hk9 : Keeps (fun _ => False) w6 w6 := Keeps.refl _ _
              have hev : Evs 95 w.heap.size w6 (.slice none 0 0) [] := Evs.nil' _ _ _
              have hkB := HK6.out.trans (hk9.mono (S' := fun k => k = a) (fun k _ h => h.elim))
              have hx9 := HX6.out.still hk9
              have hal3 := HMw.out.aLt
              refine hidden ⟨_, _, rfl, (HL6.out.keep hk9 (fun k e => e.elim)).mono HKw.out.size, hev, ?_, (HKw.out.mono (fun k _ e => Or.inr e)).trans (hkB.mono (fun k _ e => Or.inl e))⟩
              exact HPUT.out _ _ v hx9.blk (fun c' e => by cases e; exact hx9.held) hkB HVP.out
            clear HX6 HL6 HK6 HPUT HVP HMw HKw HB3 c0 c2 c3 c4 c5 c6 c7
            go_wp2_with fail
            go_ret2
            exact HP.out
          · have hgt : ¬ (c.ol : Int) < (n : Int) := by omega
            obtain ⟨m, hm⟩ : ∃ m, m = c.ol - n := ⟨_, rfl⟩
            have HM1X : Hid ((c.ol : Int) - (n : Int) = (m : Int)) := hidden (by omega)
            have hm2 : m ≤ 65536 := by omega
            rw [← hm] at hlow ⊢
            clear hm
            have hlo : ¬ (m : Int) < 32768 := by omega
            have HRF : Hid (refillO (used c m) = (used c m, [])) := hidden (by unfold refillO; rw [if_neg (show ¬ (used c m).ol < 32768 from hlow)])
            rw [HRF.out]
            clear hlow HRF
            have HLO := hidden hlo
            clear hlo
            go_enter Tryz.func44, Tryz.ntmps44
            go_wp2_with fail
            refine HT.out.mono ?_
            rintro e w1 ⟨rfl, t1⟩
            have HK1 := hidden t1.keeps
            have HR1 := hidden t1.state
            have HM1 := hidden (HM.out.read har HPR.out t1.keeps)
            clear t1 HT HM
            have q8 := run_bytes X w1
            have HBB := hidden (bytes_bsl w1 X (by rw [HXS.out]; omega))
            have hbl := bytesW_below w1 X
            unfold bytesV at q8 HBB
            rw [HXS.out] at q8 HBB
            rw [HXL.out] at HBB
            generalize grownCap w1 n 0 5 = K8 at *
            generalize bytesW w1 X = w2 at *
            obtain ⟨g8, hg8⟩ : ∃ g8, g8 = w1.heap.size := ⟨_, rfl⟩
            rw [← hg8] at q8 HBB
            have hg8w : w.heap.size ≤ g8 := by rw [hg8]; exact HK1.out.size
            have HBL := hidden hbl
            have HR2 := hidden (HR1.out.fresh hbl)
            clear hbl
            go_upto_region 21 with fail
            rw [← hg8]
            clear q8 hg8
            go_wp2_with fail
            refine (HW.out _ HR2.out).mono ?_
            rintro e w3 ⟨rfl, hk3⟩
            have HKw : Hid (Keeps (fun k => k = rb) w w3) := hidden ((HK1.out.trans (Keeps.ofFresh HBL.out)).trans (hk3.mono (fun k _ h => h.elim)))
            have HMw := hidden ((HM1.out.fresh HBL.out).still hk3)
            have HB3 := hidden (HBB.out.keep hk3 (fun k _ h => h))
            clear hk3 HW HR1 HR2 HM1 HK1 HBL HBB
            obtain ⟨v, A, Z, hx, hvP, hput⟩ := HMw.out.putD hS hi hc
            have HPUT := hidden hput
            have HVP := hidden hvP
            obtain ⟨c0, c1, c2, c3, c4, c5, c6, c7, cf⟩ := hx.cells
            have HX := hidden hx
            clear hx hvP hput
            rw [HEN.out] at c2
            have HX4 := hidden (HX.out.set 6 (by omega) (.int .i64 (m : Int)) (used c m) v rfl HX.out.held HX.out.own)
            have HK4 := hidden (keepsSet w3 a (i * 8 + 6) (.int .i64 (m : Int)))
            have HGT := hidden hgt
            clear hgt
            go_upto_if 116 with fail
            have hd1 : decide ((c.ol : Int) < (n : Int)) = false := decide_eq_false (by have := HGT.out; omega)
            have hd2 : decide (c.ol < n) = false := decide_eq_false (by have := HGT.out; omega)
            first | rw [hd1] | rw [hd2]
            clear hd1 hd2
            go_upto_region 23 with fail
            have hm1 := HM1X.out
            clear HM1X
            go_upto_region 24 with fail
            clear c0 c1 c2 c3 c4 c5 c6 c7 cf hm1
            generalize w3.setCell ⟨a, i * 8 + 6, none⟩ (.int .i64 (m : Int)) = w4 at *
            obtain ⟨c0, c1, c2, c3, c4, c5, c6, c7, cf⟩ := HX4.out.cells
            rw [show (used c m).th = c.th from rfl] at c4
            rw [show (used c m).ol = m from rfl] at c6
            rw [show (used c m).od = c.od from rfl, HOD.out] at c1
            have HX6 := HX4
            have HK6 := HK4
            have HL6 : Hid (Lst w3.heap.size w4 (.slice none 0 0) []) := hidden (Lst.nil' _ _)
            clear HX4 HK4
            go_upto_if 135 with fail
            have hd1 : decide ((m : Int) < 32768) = false := decide_eq_false (by have := HLO.out; omega)
            have hd2 : decide (m < 32768) = false := decide_eq_false (by have := HLO.out; omega)
            first | rw [hd1] | rw [hd2]
            clear hd1 hd2
            go_upto_region 28 with fail
            obtain ⟨w6, hw6⟩ : ∃ x, x = w4 := ⟨_, rfl⟩
            rw [← hw6] at HX6 HK6 HL6 c0 c1 c2 c3 c4 c5 c6 c7 cf ⊢
            clear hw6
            have HP : Hid (QDPost w P a (fun k => k = a ∨ k = rb) (⟨S.cs.set i (some (used c m)), S.dead⟩, [], []) (.returned (.tuple #[.slice none 0 0, .slice none 0 0])) w6) := by
              have hk9 : Keeps (fun _ => False) w6 w6 := Keeps.refl _ _
              have hev : Evs 95 w.heap.size w6 (.slice none 0 0) [] := Evs.nil' _ _ _
              have hkB := HK6.out.trans (hk9.mono (S' := fun k => k = a) (fun k _ h => h.elim))
              have hx9 := HX6.out.still hk9
              have hal3 := HMw.out.aLt
              refine hidden ⟨_, _, rfl, (HL6.out.keep hk9 (fun k e => e.elim)).mono HKw.out.size, hev, ?_, (HKw.out.mono (fun k _ e => Or.inr e)).trans (hkB.mono (fun k _ e => Or.inl e))⟩
              exact HPUT.out _ _ v hx9.blk (fun c' e => by cases e; exact hx9.held) hkB HVP.out
            clear HX6 HL6 HK6 HPUT HVP HMw HKw HB3 c0 c2 c3 c4 c5 c6 c7
            go_wp2_with fail
            go_ret2
            exact HP.out
        · by_cases hnz : n = 0
          · have hte : t = [] := List.eq_nil_of_length_eq_zero (by rw [← HN.out]; exact hnz)
            rw [if_neg (fun h => h.2 hte)]
            have hz0 : ((n : Int) == 0) = true := by simp; omega
            clear hte hnz
            by_cases hlow : c.ol - n < 32768
            · have hgt : ¬ (c.ol : Int) < (n : Int) := by omega
              obtain ⟨m, hm⟩ : ∃ m, m = c.ol - n := ⟨_, rfl⟩
              have HM1X : Hid ((c.ol : Int) - (n : Int) = (m : Int)) := hidden (by omega)
              have hm2 : m ≤ 65536 := by omega
              rw [← hm] at hlow ⊢
              clear hm
              have hlo : (m : Int) < 32768 := by omega
              obtain ⟨q, hq⟩ : ∃ q, q = 65536 - m := ⟨_, rfl⟩
              have hq1 : (65536 : Int) - (m : Int) = (q : Int) := by omega
              have hq2 : q ≤ 65536 := by omega
              have HRF : Hid (refillO (used c m) = (used c 65536, [numL 93 [c.th, q]])) := hidden (by unfold refillO; rw [if_pos (show (used c m).ol < 32768 from hlow), hq]; rfl)
              rw [HRF.out]
              clear hq hlow HRF
              have HQ1 := hidden hq1
              have HLO := hidden hlo
              clear hq1 hlo
              go_enter Tryz.func44, Tryz.ntmps44
              go_wp2_with fail
              refine HT.out.mono ?_
              rintro e w1 ⟨rfl, t1⟩
              have HK1 := hidden t1.keeps
              have HR1 := hidden t1.state
              have HM1 := hidden (HM.out.read har HPR.out t1.keeps)
              clear t1 HT HM
              have q8 := run_bytes X w1
              have HBB := hidden (bytes_bsl w1 X (by rw [HXS.out]; omega))
              have hbl := bytesW_below w1 X
              unfold bytesV at q8 HBB
              rw [HXS.out] at q8 HBB
              rw [HXL.out] at HBB
              generalize grownCap w1 n 0 5 = K8 at *
              generalize bytesW w1 X = w2 at *
              obtain ⟨g8, hg8⟩ : ∃ g8, g8 = w1.heap.size := ⟨_, rfl⟩
              rw [← hg8] at q8 HBB
              have hg8w : w.heap.size ≤ g8 := by rw [hg8]; exact HK1.out.size
              have HBL := hidden hbl
              have HR2 := hidden (HR1.out.fresh hbl)
              clear hbl
              go_upto_region 21 with fail
              rw [← hg8]
              clear q8 hg8
              go_wp2_with fail
              refine (HW.out _ HR2.out).mono ?_
              rintro e w3 ⟨rfl, hk3⟩
              have HKw : Hid (Keeps (fun k => k = rb) w w3) := hidden ((HK1.out.trans (Keeps.ofFresh HBL.out)).trans (hk3.mono (fun k _ h => h.elim)))
              have HMw := hidden ((HM1.out.fresh HBL.out).still hk3)
              have HB3 := hidden (HBB.out.keep hk3 (fun k _ h => h))
              clear hk3 HW HR1 HR2 HM1 HK1 HBL HBB
              obtain ⟨v, A, Z, hx, hvP, hput⟩ := HMw.out.putD hS hi hc
              have HPUT := hidden hput
              have HVP := hidden hvP
              obtain ⟨c0, c1, c2, c3, c4, c5, c6, c7, cf⟩ := hx.cells
              have HX := hidden hx
              clear hx hvP hput
              rw [HEN.out] at c2
              have HX4 := hidden (HX.out.set 6 (by omega) (.int .i64 (m : Int)) (used c m) v rfl HX.out.held HX.out.own)
              have HK4 := hidden (keepsSet w3 a (i * 8 + 6) (.int .i64 (m : Int)))
              have HGT := hidden hgt
              clear hgt
              go_upto_if 116 with fail
              have hd1 : decide ((c.ol : Int) < (n : Int)) = false := decide_eq_false (by have := HGT.out; omega)
              have hd2 : decide (c.ol < n) = false := decide_eq_false (by have := HGT.out; omega)
              first | rw [hd1] | rw [hd2]
              clear hd1 hd2
              go_upto_region 23 with fail
              have hm1 := HM1X.out
              clear HM1X
              go_upto_region 24 with fail
              clear c0 c1 c2 c3 c4 c5 c6 c7 cf hm1
              generalize w3.setCell ⟨a, i * 8 + 6, none⟩ (.int .i64 (m : Int)) = w4 at *
              have HKB := HK4
              obtain ⟨c0, c1, c2, c3, c4, c5, c6, c7, cf⟩ := HX4.out.cells
              rw [show (used c m).th = c.th from rfl] at c4
              rw [show (used c m).ol = m from rfl] at c6
              rw [show (used c m).od = c.od from rfl, HOD.out] at c1
              have hq1 := HQ1.out
              have hlo := HLO.out
              have HS : Hid (∀ w', Keeps (fun _ => False) w4 w' → w'.cell? ⟨a, i * 8 + 4, none⟩ = some (.int .u32 (c.th : Int)) ∧ w'.cell? ⟨a, i * 8 + 6, none⟩ = some (.int .i64 (m : Int))) := hidden fun w' hb => ⟨hb.cell c4 (fun h => h), hb.cell c6 (fun h => h)⟩
              have HNL : Hid (NSl (w4.alloc (.cells #[.int .u32 (c.th : Int), .int .u32 (q : Int)] 30)).drew (.slice (some ⟨w4.heap.size, 0, none⟩) 2 2) [c.th, q]) := hidden (nsl_lit w4 [c.th, q])
              clear c0 c2 c3 c5 c7
              have hw1 : IntKind.i64.wrap (q : Int) = (q : Int) := wrap_small _ (by omega) (by omega)
              have hw2 : IntKind.u32.wrap (q : Int) = (q : Int) := by rw [wrap_u]; unfold u32n; omega
              go_upto_region 26 with fail
              go_region_held3 (fun w' => w'.cell? ⟨a, i * 8 + 4, none⟩ = some (.int .u32 (c.th : Int)) ∧ w'.cell? ⟨a, i * 8 + 6, none⟩ = some (.int .i64 (m : Int)))
                (first | exact HS.out _ (Keeps.refl _ _) | exact HS.out _ (Keeps.refl _ _).drew | exact HS.out _ ((Keeps.refl _ _).alloc _) | exact HS.out _ ((Keeps.refl _ _).drew.alloc _) | exact HS.out _ ((Keeps.refl _ _).alloc _).drew | exact HS.out _ hkR | exact HS.out _ (hkR.alloc _) | go_keep)
                (first
                  | (go_at_call 31; refine (uq_c 93 _ [c.th, q] _ HNL.out (by intro j hj; match j, hj with | 0, _ => exact hth | 1, _ => exact Nat.le_trans hq2 (by omega)) (by simp) (by simp)).mono ?_; rintro e w5 ⟨v5, rfl, ho5, hb5⟩; obtain ⟨a5, p5, e5⟩ := ownsRow_shape ho5; subst e5; have hkR : Keeps (fun _ => False) w4 w5 := Keeps.ofFresh (below_alloc (below_undrew hb5))))
              have hk5 : Keeps (fun _ => False) w4 (w5.alloc (.cells #[.slice a5 (numL (byteOf ((93 : Nat) : Int)) [c.th, q]).length p5] 22)) := hkR.alloc _
              have HL5 : Hid (Lst w4.heap.size (w5.alloc (.cells #[.slice a5 (numL (byteOf ((93 : Nat) : Int)) [c.th, q]).length p5] 22)) (.slice (some ⟨w5.heap.size, 0, none⟩) 1 1) [numL 93 [c.th, q]]) := hidden (Lst.one ho5 (by simp) hb5.size)
              have HX5 := hidden (HX4.out.still hk5)
              have HK5 := hidden (HK4.out.trans (hk5.mono (S' := fun k => k = a) (fun k _ h => h.elim)))
              clear ho5 hb5 hkR hk5 HS HNL c1 c4 c6 cf HX4 HK4
              rw [show ((93 : Nat) : Int) = 93 from rfl] at HL5 HX5 HK5
              generalize (numL (byteOf 93) [c.th, q]).length = n5 at *
              obtain ⟨g5, hg5⟩ : ∃ g5, g5 = w5.heap.size := ⟨_, rfl⟩
              rw [← hg5] at HL5
              rw [← hg5]
              clear hg5
              generalize w5.alloc (.cells #[.slice a5 n5 p5] 22) = w5b at *
              obtain ⟨c0, c1, c2, c3, c4, c5, c6, c7, cf⟩ := HX5.out.cells
              rw [show (used c m).ol = m from rfl] at c6
              have HX6 := hidden (HX5.out.set 6 (by omega) (.int .i64 65536) (used c 65536) v rfl HX5.out.held HX5.out.own)
              have HKs := keepsSet w5b a (i * 8 + 6) (.int .i64 65536)
              have HK6 := hidden (HK5.out.trans HKs)
              have HL6 : Hid (Lst w3.heap.size (w5b.setCell ⟨a, i * 8 + 6, none⟩ (.int .i64 65536)) (.slice (some ⟨g5, 0, none⟩) 1 1) [numL 93 [c.th, q]]) := hidden ((HL5.out.mono HKB.out.size).keep HKs (fun k e => by have := HMw.out.aLt; omega))
              clear HKs HX5 HK5 HL5
              go_upto_region 28 with fail
              clear c0 c1 c2 c3 c4 c5 c6 c7 cf
              generalize w5b.setCell ⟨a, i * 8 + 6, none⟩ (.int .i64 65536) = w6 at *
              obtain ⟨c0, c1, c2, c3, c4, c5, c6, c7, cf⟩ := HX6.out.cells
              rw [show (used c 65536).od = c.od from rfl, HOD.out] at c1
              have HP : Hid (QDPost w P a (fun k => k = a ∨ k = rb) (⟨S.cs.set i (some (used c 65536)), S.dead⟩, [numL 93 [c.th, q]], []) (.returned (.tuple #[.slice (some ⟨g5, 0, none⟩) 1 1, .slice none 0 0])) w6) := by
                have hk9 : Keeps (fun _ => False) w6 w6 := Keeps.refl _ _
                have hev : Evs 95 w.heap.size w6 (.slice none 0 0) [] := Evs.nil' _ _ _
                have hkB := HK6.out.trans (hk9.mono (S' := fun k => k = a) (fun k _ h => h.elim))
                have hx9 := HX6.out.still hk9
                have hal3 := HMw.out.aLt
                refine hidden ⟨_, _, rfl, (HL6.out.keep hk9 (fun k e => e.elim)).mono HKw.out.size, hev, ?_, (HKw.out.mono (fun k _ e => Or.inr e)).trans (hkB.mono (fun k _ e => Or.inl e))⟩
                exact HPUT.out _ _ v hx9.blk (fun c' e => by cases e; exact hx9.held) hkB HVP.out
              clear HX6 HL6 HK6 HPUT HVP HMw HKw HB3 c0 c2 c3 c4 c5 c6 c7
              go_wp2_with fail
              go_ret2
              exact HP.out
            · have hgt : ¬ (c.ol : Int) < (n : Int) := by omega
              obtain ⟨m, hm⟩ : ∃ m, m = c.ol - n := ⟨_, rfl⟩
              have HM1X : Hid ((c.ol : Int) - (n : Int) = (m : Int)) := hidden (by omega)
              have hm2 : m ≤ 65536 := by omega
              rw [← hm] at hlow ⊢
              clear hm
              have hlo : ¬ (m : Int) < 32768 := by omega
              have HRF : Hid (refillO (used c m) = (used c m, [])) := hidden (by unfold refillO; rw [if_neg (show ¬ (used c m).ol < 32768 from hlow)])
              rw [HRF.out]
              clear hlow HRF
              have HLO := hidden hlo
              clear hlo
              go_enter Tryz.func44, Tryz.ntmps44
              go_wp2_with fail
              refine HT.out.mono ?_
              rintro e w1 ⟨rfl, t1⟩
              have HK1 := hidden t1.keeps
              have HR1 := hidden t1.state
              have HM1 := hidden (HM.out.read har HPR.out t1.keeps)
              clear t1 HT HM
              have q8 := run_bytes X w1
              have HBB := hidden (bytes_bsl w1 X (by rw [HXS.out]; omega))
              have hbl := bytesW_below w1 X
              unfold bytesV at q8 HBB
              rw [HXS.out] at q8 HBB
              rw [HXL.out] at HBB
              generalize grownCap w1 n 0 5 = K8 at *
              generalize bytesW w1 X = w2 at *
              obtain ⟨g8, hg8⟩ : ∃ g8, g8 = w1.heap.size := ⟨_, rfl⟩
              rw [← hg8] at q8 HBB
              have hg8w : w.heap.size ≤ g8 := by rw [hg8]; exact HK1.out.size
              have HBL := hidden hbl
              have HR2 := hidden (HR1.out.fresh hbl)
              clear hbl
              go_upto_region 21 with fail
              rw [← hg8]
              clear q8 hg8
              go_wp2_with fail
              refine (HW.out _ HR2.out).mono ?_
              rintro e w3 ⟨rfl, hk3⟩
              have HKw : Hid (Keeps (fun k => k = rb) w w3) := hidden ((HK1.out.trans (Keeps.ofFresh HBL.out)).trans (hk3.mono (fun k _ h => h.elim)))
              have HMw := hidden ((HM1.out.fresh HBL.out).still hk3)
              have HB3 := hidden (HBB.out.keep hk3 (fun k _ h => h))
              clear hk3 HW HR1 HR2 HM1 HK1 HBL HBB
              obtain ⟨v, A, Z, hx, hvP, hput⟩ := HMw.out.putD hS hi hc
              have HPUT := hidden hput
              have HVP := hidden hvP
              obtain ⟨c0, c1, c2, c3, c4, c5, c6, c7, cf⟩ := hx.cells
              have HX := hidden hx
              clear hx hvP hput
              rw [HEN.out] at c2
              have HX4 := hidden (HX.out.set 6 (by omega) (.int .i64 (m : Int)) (used c m) v rfl HX.out.held HX.out.own)
              have HK4 := hidden (keepsSet w3 a (i * 8 + 6) (.int .i64 (m : Int)))
              have HGT := hidden hgt
              clear hgt
              go_upto_if 116 with fail
              have hd1 : decide ((c.ol : Int) < (n : Int)) = false := decide_eq_false (by have := HGT.out; omega)
              have hd2 : decide (c.ol < n) = false := decide_eq_false (by have := HGT.out; omega)
              first | rw [hd1] | rw [hd2]
              clear hd1 hd2
              go_upto_region 23 with fail
              have hm1 := HM1X.out
              clear HM1X
              go_upto_region 24 with fail
              clear c0 c1 c2 c3 c4 c5 c6 c7 cf hm1
              generalize w3.setCell ⟨a, i * 8 + 6, none⟩ (.int .i64 (m : Int)) = w4 at *
              obtain ⟨c0, c1, c2, c3, c4, c5, c6, c7, cf⟩ := HX4.out.cells
              rw [show (used c m).th = c.th from rfl] at c4
              rw [show (used c m).ol = m from rfl] at c6
              rw [show (used c m).od = c.od from rfl, HOD.out] at c1
              have HX6 := HX4
              have HK6 := HK4
              have HL6 : Hid (Lst w3.heap.size w4 (.slice none 0 0) []) := hidden (Lst.nil' _ _)
              clear HX4 HK4
              go_upto_if 135 with fail
              have hd1 : decide ((m : Int) < 32768) = false := decide_eq_false (by have := HLO.out; omega)
              have hd2 : decide (m < 32768) = false := decide_eq_false (by have := HLO.out; omega)
              first | rw [hd1] | rw [hd2]
              clear hd1 hd2
              go_upto_region 28 with fail
              obtain ⟨w6, hw6⟩ : ∃ x, x = w4 := ⟨_, rfl⟩
              rw [← hw6] at HX6 HK6 HL6 c0 c1 c2 c3 c4 c5 c6 c7 cf ⊢
              clear hw6
              have HP : Hid (QDPost w P a (fun k => k = a ∨ k = rb) (⟨S.cs.set i (some (used c m)), S.dead⟩, [], []) (.returned (.tuple #[.slice none 0 0, .slice none 0 0])) w6) := by
                have hk9 : Keeps (fun _ => False) w6 w6 := Keeps.refl _ _
                have hev : Evs 95 w.heap.size w6 (.slice none 0 0) [] := Evs.nil' _ _ _
                have hkB := HK6.out.trans (hk9.mono (S' := fun k => k = a) (fun k _ h => h.elim))
                have hx9 := HX6.out.still hk9
                have hal3 := HMw.out.aLt
                refine hidden ⟨_, _, rfl, (HL6.out.keep hk9 (fun k e => e.elim)).mono HKw.out.size, hev, ?_, (HKw.out.mono (fun k _ e => Or.inr e)).trans (hkB.mono (fun k _ e => Or.inl e))⟩
                exact HPUT.out _ _ v hx9.blk (fun c' e => by cases e; exact hx9.held) hkB HVP.out
              clear HX6 HL6 HK6 HPUT HVP HMw HKw HB3 c0 c2 c3 c4 c5 c6 c7
              go_wp2_with fail
              go_ret2
              exact HP.out
          · have hte : t ≠ [] := fun e => hnz (by rw [HN.out, e]; rfl)
            rw [if_pos ⟨rfl, hte⟩]
            have hz0 : ((n : Int) == 0) = false := by simp; omega
            clear hte hnz
            by_cases hlow : c.ol - n < 32768
            · have hgt : ¬ (c.ol : Int) < (n : Int) := by omega
              obtain ⟨m, hm⟩ : ∃ m, m = c.ol - n := ⟨_, rfl⟩
              have HM1X : Hid ((c.ol : Int) - (n : Int) = (m : Int)) := hidden (by omega)
              have hm2 : m ≤ 65536 := by omega
              rw [← hm] at hlow ⊢
              clear hm
              have hlo : (m : Int) < 32768 := by omega
              obtain ⟨q, hq⟩ : ∃ q, q = 65536 - m := ⟨_, rfl⟩
              have hq1 : (65536 : Int) - (m : Int) = (q : Int) := by omega
              have hq2 : q ≤ 65536 := by omega
              have HRF : Hid (refillO (used c m) = (used c 65536, [numL 93 [c.th, q]])) := hidden (by unfold refillO; rw [if_pos (show (used c m).ol < 32768 from hlow), hq]; rfl)
              rw [HRF.out]
              clear hq hlow HRF
              have HQ1 := hidden hq1
              have HLO := hidden hlo
              clear hq1 hlo
              go_enter Tryz.func44, Tryz.ntmps44
              go_wp2_with fail
              refine HT.out.mono ?_
              rintro e w1 ⟨rfl, t1⟩
              have HK1 := hidden t1.keeps
              have HR1 := hidden t1.state
              have HM1 := hidden (HM.out.read har HPR.out t1.keeps)
              clear t1 HT HM
              have q8 := run_bytes X w1
              have HBB := hidden (bytes_bsl w1 X (by rw [HXS.out]; omega))
              have hbl := bytesW_below w1 X
              unfold bytesV at q8 HBB
              rw [HXS.out] at q8 HBB
              rw [HXL.out] at HBB
              generalize grownCap w1 n 0 5 = K8 at *
              generalize bytesW w1 X = w2 at *
              obtain ⟨g8, hg8⟩ : ∃ g8, g8 = w1.heap.size := ⟨_, rfl⟩
              rw [← hg8] at q8 HBB
              have hg8w : w.heap.size ≤ g8 := by rw [hg8]; exact HK1.out.size
              have HBL := hidden hbl
              have HR2 := hidden (HR1.out.fresh hbl)
              clear hbl
              go_upto_region 21 with fail
              rw [← hg8]
              clear q8 hg8
              go_wp2_with fail
              refine (HW.out _ HR2.out).mono ?_
              rintro e w3 ⟨rfl, hk3⟩
              have HKw : Hid (Keeps (fun k => k = rb) w w3) := hidden ((HK1.out.trans (Keeps.ofFresh HBL.out)).trans (hk3.mono (fun k _ h => h.elim)))
              have HMw := hidden ((HM1.out.fresh HBL.out).still hk3)
              have HB3 := hidden (HBB.out.keep hk3 (fun k _ h => h))
              clear hk3 HW HR1 HR2 HM1 HK1 HBL HBB
              obtain ⟨v, A, Z, hx, hvP, hput⟩ := HMw.out.putD hS hi hc
              have HPUT := hidden hput
              have HVP := hidden hvP
              obtain ⟨c0, c1, c2, c3, c4, c5, c6, c7, cf⟩ := hx.cells
              have HX := hidden hx
              clear hx hvP hput
              rw [HEN.out] at c2
              have HX4 := hidden (HX.out.set 6 (by omega) (.int .i64 (m : Int)) (used c m) v rfl HX.out.held HX.out.own)
              have HK4 := hidden (keepsSet w3 a (i * 8 + 6) (.int .i64 (m : Int)))
              have HGT := hidden hgt
              clear hgt
              go_upto_if 116 with fail
              have hd1 : decide ((c.ol : Int) < (n : Int)) = false := decide_eq_false (by have := HGT.out; omega)
              have hd2 : decide (c.ol < n) = false := decide_eq_false (by have := HGT.out; omega)
              first | rw [hd1] | rw [hd2]
              clear hd1 hd2
              go_upto_region 23 with fail
              have hm1 := HM1X.out
              clear HM1X
              go_upto_region 24 with fail
              clear c0 c1 c2 c3 c4 c5 c6 c7 cf hm1
              generalize w3.setCell ⟨a, i * 8 + 6, none⟩ (.int .i64 (m : Int)) = w4 at *
              have HKB := HK4
              obtain ⟨c0, c1, c2, c3, c4, c5, c6, c7, cf⟩ := HX4.out.cells
              rw [show (used c m).th = c.th from rfl] at c4
              rw [show (used c m).ol = m from rfl] at c6
              rw [show (used c m).od = c.od from rfl, HOD.out] at c1
              have hq1 := HQ1.out
              have hlo := HLO.out
              have HS : Hid (∀ w', Keeps (fun _ => False) w4 w' → w'.cell? ⟨a, i * 8 + 4, none⟩ = some (.int .u32 (c.th : Int)) ∧ w'.cell? ⟨a, i * 8 + 6, none⟩ = some (.int .i64 (m : Int))) := hidden fun w' hb => ⟨hb.cell c4 (fun h => h), hb.cell c6 (fun h => h)⟩
              have HNL : Hid (NSl (w4.alloc (.cells #[.int .u32 (c.th : Int), .int .u32 (q : Int)] 30)).drew (.slice (some ⟨w4.heap.size, 0, none⟩) 2 2) [c.th, q]) := hidden (nsl_lit w4 [c.th, q])
              clear c0 c2 c3 c5 c7
              have hw1 : IntKind.i64.wrap (q : Int) = (q : Int) := wrap_small _ (by omega) (by omega)
              have hw2 : IntKind.u32.wrap (q : Int) = (q : Int) := by rw [wrap_u]; unfold u32n; omega
              go_upto_region 26 with fail
              go_region_held3 (fun w' => w'.cell? ⟨a, i * 8 + 4, none⟩ = some (.int .u32 (c.th : Int)) ∧ w'.cell? ⟨a, i * 8 + 6, none⟩ = some (.int .i64 (m : Int)))
                (first | exact HS.out _ (Keeps.refl _ _) | exact HS.out _ (Keeps.refl _ _).drew | exact HS.out _ ((Keeps.refl _ _).alloc _) | exact HS.out _ ((Keeps.refl _ _).drew.alloc _) | exact HS.out _ ((Keeps.refl _ _).alloc _).drew | exact HS.out _ hkR | exact HS.out _ (hkR.alloc _) | go_keep)
                (first
                  | (go_at_call 31; refine (uq_c 93 _ [c.th, q] _ HNL.out (by intro j hj; match j, hj with | 0, _ => exact hth | 1, _ => exact Nat.le_trans hq2 (by omega)) (by simp) (by simp)).mono ?_; rintro e w5 ⟨v5, rfl, ho5, hb5⟩; obtain ⟨a5, p5, e5⟩ := ownsRow_shape ho5; subst e5; have hkR : Keeps (fun _ => False) w4 w5 := Keeps.ofFresh (below_alloc (below_undrew hb5))))
              have hk5 : Keeps (fun _ => False) w4 (w5.alloc (.cells #[.slice a5 (numL (byteOf ((93 : Nat) : Int)) [c.th, q]).length p5] 22)) := hkR.alloc _
              have HL5 : Hid (Lst w4.heap.size (w5.alloc (.cells #[.slice a5 (numL (byteOf ((93 : Nat) : Int)) [c.th, q]).length p5] 22)) (.slice (some ⟨w5.heap.size, 0, none⟩) 1 1) [numL 93 [c.th, q]]) := hidden (Lst.one ho5 (by simp) hb5.size)
              have HX5 := hidden (HX4.out.still hk5)
              have HK5 := hidden (HK4.out.trans (hk5.mono (S' := fun k => k = a) (fun k _ h => h.elim)))
              clear ho5 hb5 hkR hk5 HS HNL c1 c4 c6 cf HX4 HK4
              rw [show ((93 : Nat) : Int) = 93 from rfl] at HL5 HX5 HK5
              generalize (numL (byteOf 93) [c.th, q]).length = n5 at *
              obtain ⟨g5, hg5⟩ : ∃ g5, g5 = w5.heap.size := ⟨_, rfl⟩
              rw [← hg5] at HL5
              rw [← hg5]
              clear hg5
              generalize w5.alloc (.cells #[.slice a5 n5 p5] 22) = w5b at *
              obtain ⟨c0, c1, c2, c3, c4, c5, c6, c7, cf⟩ := HX5.out.cells
              rw [show (used c m).ol = m from rfl] at c6
              have HX6 := hidden (HX5.out.set 6 (by omega) (.int .i64 65536) (used c 65536) v rfl HX5.out.held HX5.out.own)
              have HKs := keepsSet w5b a (i * 8 + 6) (.int .i64 65536)
              have HK6 := hidden (HK5.out.trans HKs)
              have HL6 : Hid (Lst w3.heap.size (w5b.setCell ⟨a, i * 8 + 6, none⟩ (.int .i64 65536)) (.slice (some ⟨g5, 0, none⟩) 1 1) [numL 93 [c.th, q]]) := hidden ((HL5.out.mono HKB.out.size).keep HKs (fun k e => by have := HMw.out.aLt; omega))
              clear HKs HX5 HK5 HL5
              go_upto_region 28 with fail
              clear c0 c1 c2 c3 c4 c5 c6 c7 cf
              generalize w5b.setCell ⟨a, i * 8 + 6, none⟩ (.int .i64 65536) = w6 at *
              obtain ⟨c0, c1, c2, c3, c4, c5, c6, c7, cf⟩ := HX6.out.cells
              rw [show (used c 65536).od = c.od from rfl, HOD.out] at c1
              have HP : Hid (QDPost w P a (fun k => k = a ∨ k = rb) (⟨S.cs.set i (some (used c 65536)), S.dead⟩, [numL 93 [c.th, q]], [⟨2, i, t⟩]) (.returned (.tuple #[.slice (some ⟨g5, 0, none⟩) 1 1, .slice (some ⟨w6.heap.size, 0, none⟩) 1 1])) (w6.alloc (.cells #[.int .i64 2, .int .i64 (i : Int), .slice (some ⟨g8, 0, none⟩) n K8] 95))) := by
                have hk9 : Keeps (fun _ => False) w6 (w6.alloc (.cells #[.int .i64 2, .int .i64 (i : Int), .slice (some ⟨g8, 0, none⟩) n K8] 95)) := (Keeps.refl _ _).alloc _
                have hB7 : BSl (w6.alloc (.cells #[.int .i64 2, .int .i64 (i : Int), .slice (some ⟨g8, 0, none⟩) n K8] 95)) (.slice (some ⟨g8, 0, none⟩) n K8) t := (HB3.out.keep HK6.out (fun k e e2 => by simp [Value.ownBlock] at e; omega)).keep hk9 (fun k _ h => h)
                have hws := HKw.out.size
                have hev : Evs 95 w.heap.size (w6.alloc (.cells #[.int .i64 2, .int .i64 (i : Int), .slice (some ⟨g8, 0, none⟩) n K8] 95)) (.slice (some ⟨w6.heap.size, 0, none⟩) 1 1) [⟨2, i, t⟩] := .inr ⟨⟨2, i, t⟩, w6.heap.size, _, rfl, rfl, heap_alloc_new _ _, hB7, Nat.le_trans HKw.out.size HK6.out.size, fun k e => by simp [Value.ownBlock] at e; omega⟩
                have hkB := HK6.out.trans (hk9.mono (S' := fun k => k = a) (fun k _ h => h.elim))
                have hx9 := HX6.out.still hk9
                have hal3 := HMw.out.aLt
                refine hidden ⟨_, _, rfl, (HL6.out.keep hk9 (fun k e => e.elim)).mono HKw.out.size, hev, ?_, (HKw.out.mono (fun k _ e => Or.inr e)).trans (hkB.mono (fun k _ e => Or.inl e))⟩
                exact HPUT.out _ _ v hx9.blk (fun c' e => by cases e; exact hx9.held) hkB HVP.out
              clear HX6 HL6 HK6 HPUT HVP HMw HKw HB3 c0 c2 c3 c4 c5 c6 c7
              go_wp2_with fail
              go_ret2
              exact HP.out
            · have hgt : ¬ (c.ol : Int) < (n : Int) := by omega
              obtain ⟨m, hm⟩ : ∃ m, m = c.ol - n := ⟨_, rfl⟩
              have HM1X : Hid ((c.ol : Int) - (n : Int) = (m : Int)) := hidden (by omega)
              have hm2 : m ≤ 65536 := by omega
              rw [← hm] at hlow ⊢
              clear hm
              have hlo : ¬ (m : Int) < 32768 := by omega
              have HRF : Hid (refillO (used c m) = (used c m, [])) := hidden (by unfold refillO; rw [if_neg (show ¬ (used c m).ol < 32768 from hlow)])
              rw [HRF.out]
              clear hlow HRF
              have HLO := hidden hlo
              clear hlo
              go_enter Tryz.func44, Tryz.ntmps44
              go_wp2_with fail
              refine HT.out.mono ?_
              rintro e w1 ⟨rfl, t1⟩
              have HK1 := hidden t1.keeps
              have HR1 := hidden t1.state
              have HM1 := hidden (HM.out.read har HPR.out t1.keeps)
              clear t1 HT HM
              have q8 := run_bytes X w1
              have HBB := hidden (bytes_bsl w1 X (by rw [HXS.out]; omega))
              have hbl := bytesW_below w1 X
              unfold bytesV at q8 HBB
              rw [HXS.out] at q8 HBB
              rw [HXL.out] at HBB
              generalize grownCap w1 n 0 5 = K8 at *
              generalize bytesW w1 X = w2 at *
              obtain ⟨g8, hg8⟩ : ∃ g8, g8 = w1.heap.size := ⟨_, rfl⟩
              rw [← hg8] at q8 HBB
              have hg8w : w.heap.size ≤ g8 := by rw [hg8]; exact HK1.out.size
              have HBL := hidden hbl
              have HR2 := hidden (HR1.out.fresh hbl)
              clear hbl
              go_upto_region 21 with fail
              rw [← hg8]
              clear q8 hg8
              go_wp2_with fail
              refine (HW.out _ HR2.out).mono ?_
              rintro e w3 ⟨rfl, hk3⟩
              have HKw : Hid (Keeps (fun k => k = rb) w w3) := hidden ((HK1.out.trans (Keeps.ofFresh HBL.out)).trans (hk3.mono (fun k _ h => h.elim)))
              have HMw := hidden ((HM1.out.fresh HBL.out).still hk3)
              have HB3 := hidden (HBB.out.keep hk3 (fun k _ h => h))
              clear hk3 HW HR1 HR2 HM1 HK1 HBL HBB
              obtain ⟨v, A, Z, hx, hvP, hput⟩ := HMw.out.putD hS hi hc
              have HPUT := hidden hput
              have HVP := hidden hvP
              obtain ⟨c0, c1, c2, c3, c4, c5, c6, c7, cf⟩ := hx.cells
              have HX := hidden hx
              clear hx hvP hput
              rw [HEN.out] at c2
              have HX4 := hidden (HX.out.set 6 (by omega) (.int .i64 (m : Int)) (used c m) v rfl HX.out.held HX.out.own)
              have HK4 := hidden (keepsSet w3 a (i * 8 + 6) (.int .i64 (m : Int)))
              have HGT := hidden hgt
              clear hgt
              go_upto_if 116 with fail
              have hd1 : decide ((c.ol : Int) < (n : Int)) = false := decide_eq_false (by have := HGT.out; omega)
              have hd2 : decide (c.ol < n) = false := decide_eq_false (by have := HGT.out; omega)
              first | rw [hd1] | rw [hd2]
              clear hd1 hd2
              go_upto_region 23 with fail
              have hm1 := HM1X.out
              clear HM1X
              go_upto_region 24 with fail
              clear c0 c1 c2 c3 c4 c5 c6 c7 cf hm1
              generalize w3.setCell ⟨a, i * 8 + 6, none⟩ (.int .i64 (m : Int)) = w4 at *
              obtain ⟨c0, c1, c2, c3, c4, c5, c6, c7, cf⟩ := HX4.out.cells
              rw [show (used c m).th = c.th from rfl] at c4
              rw [show (used c m).ol = m from rfl] at c6
              rw [show (used c m).od = c.od from rfl, HOD.out] at c1
              have HX6 := HX4
              have HK6 := HK4
              have HL6 : Hid (Lst w3.heap.size w4 (.slice none 0 0) []) := hidden (Lst.nil' _ _)
              clear HX4 HK4
              go_upto_if 135 with fail
              have hd1 : decide ((m : Int) < 32768) = false := decide_eq_false (by have := HLO.out; omega)
              have hd2 : decide (m < 32768) = false := decide_eq_false (by have := HLO.out; omega)
              first | rw [hd1] | rw [hd2]
              clear hd1 hd2
              go_upto_region 28 with fail
              obtain ⟨w6, hw6⟩ : ∃ x, x = w4 := ⟨_, rfl⟩
              rw [← hw6] at HX6 HK6 HL6 c0 c1 c2 c3 c4 c5 c6 c7 cf ⊢
              clear hw6
              have HP : Hid (QDPost w P a (fun k => k = a ∨ k = rb) (⟨S.cs.set i (some (used c m)), S.dead⟩, [], [⟨2, i, t⟩]) (.returned (.tuple #[.slice none 0 0, .slice (some ⟨w6.heap.size, 0, none⟩) 1 1])) (w6.alloc (.cells #[.int .i64 2, .int .i64 (i : Int), .slice (some ⟨g8, 0, none⟩) n K8] 95))) := by
                have hk9 : Keeps (fun _ => False) w6 (w6.alloc (.cells #[.int .i64 2, .int .i64 (i : Int), .slice (some ⟨g8, 0, none⟩) n K8] 95)) := (Keeps.refl _ _).alloc _
                have hB7 : BSl (w6.alloc (.cells #[.int .i64 2, .int .i64 (i : Int), .slice (some ⟨g8, 0, none⟩) n K8] 95)) (.slice (some ⟨g8, 0, none⟩) n K8) t := (HB3.out.keep HK6.out (fun k e e2 => by simp [Value.ownBlock] at e; omega)).keep hk9 (fun k _ h => h)
                have hws := HKw.out.size
                have hev : Evs 95 w.heap.size (w6.alloc (.cells #[.int .i64 2, .int .i64 (i : Int), .slice (some ⟨g8, 0, none⟩) n K8] 95)) (.slice (some ⟨w6.heap.size, 0, none⟩) 1 1) [⟨2, i, t⟩] := .inr ⟨⟨2, i, t⟩, w6.heap.size, _, rfl, rfl, heap_alloc_new _ _, hB7, Nat.le_trans HKw.out.size HK6.out.size, fun k e => by simp [Value.ownBlock] at e; omega⟩
                have hkB := HK6.out.trans (hk9.mono (S' := fun k => k = a) (fun k _ h => h.elim))
                have hx9 := HX6.out.still hk9
                have hal3 := HMw.out.aLt
                refine hidden ⟨_, _, rfl, (HL6.out.keep hk9 (fun k e => e.elim)).mono HKw.out.size, hev, ?_, (HKw.out.mono (fun k _ e => Or.inr e)).trans (hkB.mono (fun k _ e => Or.inl e))⟩
                exact HPUT.out _ _ v hx9.blk (fun c' e => by cases e; exact hx9.held) hkB HVP.out
              clear HX6 HL6 HK6 HPUT HVP HMw HKw HB3 c0 c2 c3 c4 c5 c6 c7
              go_wp2_with fail
              go_ret2
              exact HP.out
      · rw [if_neg (fun h => hle h.2.1), show putC S i none = none from rfl, Option.getD_none]
        go_enter Tryz.func44, Tryz.ntmps44
        go_wp2_with fail
        refine HT.out.mono ?_
        rintro e w1 ⟨rfl, t1⟩
        have HK1 := hidden t1.keeps
        have HR1 := hidden t1.state
        have HM1 := hidden (HM.out.read har HPR.out t1.keeps)
        clear t1 HT HM
        have q8 := run_bytes X w1
        have HBB := hidden (bytes_bsl w1 X (by rw [HXS.out]; omega))
        have hbl := bytesW_below w1 X
        unfold bytesV at q8 HBB
        rw [HXS.out] at q8 HBB
        rw [HXL.out] at HBB
        generalize grownCap w1 n 0 5 = K8 at *
        generalize bytesW w1 X = w2 at *
        obtain ⟨g8, hg8⟩ : ∃ g8, g8 = w1.heap.size := ⟨_, rfl⟩
        rw [← hg8] at q8 HBB
        have hg8w : w.heap.size ≤ g8 := by rw [hg8]; exact HK1.out.size
        have HBL := hidden hbl
        have HR2 := hidden (HR1.out.fresh hbl)
        clear hbl
        go_upto_region 21 with fail
        rw [← hg8]
        clear q8 hg8
        go_wp2_with fail
        refine (HW.out _ HR2.out).mono ?_
        rintro e w3 ⟨rfl, hk3⟩
        have HKw : Hid (Keeps (fun k => k = rb) w w3) := hidden ((HK1.out.trans (Keeps.ofFresh HBL.out)).trans (hk3.mono (fun k _ h => h.elim)))
        have HMw := hidden ((HM1.out.fresh HBL.out).still hk3)
        have HB3 := hidden (HBB.out.keep hk3 (fun k _ h => h))
        clear hk3 HW HR1 HR2 HM1 HK1 HBL HBB
        obtain ⟨v, A, Z, hx, hvP, hput⟩ := HMw.out.putD hS hi hc
        have HPUT := hidden hput
        have HVP := hidden hvP
        obtain ⟨c0, c1, c2, c3, c4, c5, c6, c7, cf⟩ := hx.cells
        have HX := hidden hx
        clear hx hvP hput
        rw [HEN.out] at c2
        have hgt : (c.ol : Int) < (n : Int) := by omega
        go_upto_region 22 with fail
        clear c0 c1 c2 c3 c4 c5 c6 c7 cf HX HPUT HVP
        go_wp2_with fail
        refine (bye_q _ HMw.out).mono ?_
        rintro e w9 hq
        have HQ := hidden (hq.after HKw.out)
        obtain ⟨u1, u2, rfl, _⟩ := hq
        clear HMw HKw
        go_wp2_with fail
        go_ret2
        exact HQ.out
    · rw [if_neg (by rintro ⟨_, _, h⟩; cases h), show putC S i none = none from rfl, Option.getD_none]
      go_enter Tryz.func44, Tryz.ntmps44
      go_wp2_with fail
      refine HT.out.mono ?_
      rintro e w1 ⟨rfl, t1⟩
      have HK1 := hidden t1.keeps
      have HR1 := hidden t1.state
      have HM1 := hidden (HM.out.read har HPR.out t1.keeps)
      clear t1 HT HM
      have q8 := run_bytes X w1
      have HBB := hidden (bytes_bsl w1 X (by rw [HXS.out]; omega))
      have hbl := bytesW_below w1 X
      unfold bytesV at q8 HBB
      rw [HXS.out] at q8 HBB
      rw [HXL.out] at HBB
      generalize grownCap w1 n 0 5 = K8 at *
      generalize bytesW w1 X = w2 at *
      obtain ⟨g8, hg8⟩ : ∃ g8, g8 = w1.heap.size := ⟨_, rfl⟩
      rw [← hg8] at q8 HBB
      have hg8w : w.heap.size ≤ g8 := by rw [hg8]; exact HK1.out.size
      have HBL := hidden hbl
      have HR2 := hidden (HR1.out.fresh hbl)
      clear hbl
      go_upto_region 21 with fail
      rw [← hg8]
      clear q8 hg8
      go_wp2_with fail
      refine (HW.out _ HR2.out).mono ?_
      rintro e w3 ⟨rfl, hk3⟩
      have HKw : Hid (Keeps (fun k => k = rb) w w3) := hidden ((HK1.out.trans (Keeps.ofFresh HBL.out)).trans (hk3.mono (fun k _ h => h.elim)))
      have HMw := hidden ((HM1.out.fresh HBL.out).still hk3)
      have HB3 := hidden (HBB.out.keep hk3 (fun k _ h => h))
      clear hk3 HW HR1 HR2 HM1 HK1 HBL HBB
      obtain ⟨v, A, Z, hx, hvP, hput⟩ := HMw.out.putD hS hi hc
      have HPUT := hidden hput
      have HVP := hidden hvP
      obtain ⟨c0, c1, c2, c3, c4, c5, c6, c7, cf⟩ := hx.cells
      have HX := hidden hx
      clear hx hvP hput
      rw [HEN.out] at c2
      go_upto_region 22 with fail
      clear c0 c1 c2 c3 c4 c5 c6 c7 cf HX HPUT HVP
      go_wp2_with fail
      refine (bye_q _ HMw.out).mono ?_
      rintro e w9 hq
      have HQ := hidden (hq.after HKw.out)
      obtain ⟨u1, u2, rfl, _⟩ := hq
      clear HMw HKw
      go_wp2_with fail
      go_ret2
      exact HQ.out

theorem strB_inj {a b : List UInt8} (h : strB a = strB b) : a = b := by
  have := congrArg (fun x : ByteArray => x.data.toList) h
  simpa [strB] using this
theorem tx_small (rest : List UInt8) : (wholeB rest (tx rest 0 0 64).2.1 (tx rest 0 0 64).2.2 && decide (strB (tx rest 0 0 64).1 = strB sftpB)) = filesB rest := by
  unfold filesB
  by_cases h4 : val (tk rest 0 0 4).1 ≤ 4
  · have e1 : tx rest 0 0 64 = tx rest 0 0 4 := by
      unfold tx
      rw [if_neg (show ¬ (64 : Int).toNat < _ by simp; omega), if_neg (show ¬ (4 : Int).toNat < _ by simp; omega)]
    rw [e1]
  · have e4 : tx rest 0 0 4 = ([], 0, 3) := by
      unfold tx
      rw [if_pos (show (4 : Int).toNat < _ by simp; omega)]
    have hw : wholeB rest 0 3 = false := by simp [wholeB, ends]
    rw [e4]
    dsimp only
    rw [hw, Bool.false_and]
    have hne : strB (tx rest 0 0 64).1 ≠ strB sftpB := fun e => by
      have e2 := strB_inj e
      unfold tx at e2
      by_cases h64 : (64 : Int).toNat < val (tk rest 0 0 4).1
      · rw [if_pos h64] at e2
        simp [sftpB] at e2
      · rw [if_neg h64] at e2
        generalize val (tk rest 0 0 4).1 = k at *
        generalize (tk rest 0 0 4).2.1 = p at *
        generalize (tk rest 0 0 4).2.2 = y at *
        unfold tk at e2
        split at e2
        · split at e2
          · simp [sftpB] at e2
          · have := congrArg List.length e2
            simp [sftpB] at this
            omega
        · simp [sftpB] at e2
    rw [decide_eq_false hne, Bool.and_false]
theorem rq_le {bs : List UInt8} {p : Nat} {why : Int} (h : (rqW bs p why).2.2 = 0) : (rqW bs p why).2.1 ≤ bs.length := by
  unfold rqW at h ⊢
  generalize (tx bs p why 64).2.1 = q at *
  generalize (tx bs p why 64).2.2 = y at *
  unfold tk at h ⊢
  by_cases hy : y = 0
  · rw [if_pos hy] at h ⊢
    by_cases hl : bs.length - q < 1
    · rw [if_pos hl] at h; cases h
    · rw [if_neg hl]
      show q + 1 ≤ _
      omega
  · rw [if_neg hy] at h
    exact absurd h hy
theorem files_q {bs : List UInt8} {p : Nat} {why : Int} (h : (rqW bs p why).2.2 = 0) : filesB (rqRest bs p why) = (wholeB bs (tx bs (rqW bs p why).2.1 0 64).2.1 (tx bs (rqW bs p why).2.1 0 64).2.2 && decide (strB (tx bs (rqW bs p why).2.1 0 64).1 = strB sftpB)) := by
  have hq := rq_le h
  unfold rqRest
  rw [if_pos h, ← tx_small]
  generalize (rqW bs p why).2.1 = q at *
  have e := tx_shift bs q 0 hq 0 64
  rw [Nat.add_zero] at e
  rw [e]
  dsimp only
  rw [whole_shift bs q _ hq]

set_option maxHeartbeats 1600000 in
set_option maxRecDepth 100000 in
theorem on98_q (w : World) {L : Nat} {P : Nat → Prop} {a rb i : Nat} {S : MS} {c : Ch} {g : Option Nat} {bs : List UInt8} {p : Nat} {why : Int} (h : QX w P a S) (hok : OkM L S) (_hL : L ≤ 1000000) (hi : i < 4) (hc : S.cs.getD i none = some c) (hr : QR w rb g bs p why) (har : a < rb) (hPR : ¬ P rb) :
    Calls Tryz.prog 44 #[.pointer (some ⟨a, 0, none⟩), .int .i64 (i : Int), .int .i64 98, .pointer (some ⟨rb, 0, none⟩)] w fun e w' => QDPost w P a (fun k => k = a ∨ k = rb) ((putC S i (reqO c i bs p why)).getD (⟨S.cs, true⟩, [byeL 2], [])) e w' := by
  have HM := hidden h
  have HPR := hidden hPR
  have hal := h.aLt
  have hS := hok.four
  have HKC := hidden (hok.each i c hc)
  have hth := (hok.each i c hc).th
  have g1 : (i : Int) < 4 := by omega
  have g0 : ¬ (i : Int) < 0 := by omega
  unfold reqO reqQ
  have HT : Hid (Calls Tryz.prog 63 #[.pointer (some ⟨rb, 0, none⟩), .int .i64 64] w fun e w' => QPost rb g bs (tx bs p why 64) (.string (strB (tx bs p why 64).1)) w e w') := hidden (qtext_c 64 (by omega) (by omega) w hr)
  have HB : Hid (∀ w', QR w' rb g bs (tx bs p why 64).2.1 (tx bs p why 64).2.2 → Calls Tryz.prog 66 #[.pointer (some ⟨rb, 0, none⟩)] w' fun e w2 => QPost rb g bs (rqW bs p why) (.bool (wantB bs p why)) w' e w2) := hidden fun w' h' => qbool_c w' h'
  clear h hr hPR hok _hL
  by_cases hy : (rqW bs p why).2.2 = 0
  · rw [if_pos hy]
    have HF := hidden (files_q hy)
    have HT2 : Hid (∀ w', QR w' rb g bs (rqW bs p why).2.1 (rqW bs p why).2.2 → Calls Tryz.prog 63 #[.pointer (some ⟨rb, 0, none⟩), .int .i64 64] w' fun e w2 => QPost rb g bs (tx bs (rqW bs p why).2.1 0 64) (.string (strB (tx bs (rqW bs p why).2.1 0 64).1)) w' e w2) := hidden fun w' h' => by
      rw [hy] at h'
      exact qtext_c 64 (by omega) (by omega) w' h'
    have HST : Hid (startsB c bs p why = (!c.od && decide (strB (tx bs p why 64).1 = strB subB) && filesB (rqRest bs p why))) := hidden rfl
    generalize hst : startsB c bs p why = st at *
    clear hst
    generalize filesB (rqRest bs p why) = fb at *
    generalize wantB bs p why = wa at *
    generalize hT : tx bs (rqW bs p why).2.1 0 64 = T at *
    clear hT
    generalize rqW bs p why = rq at *
    generalize tx bs p why 64 = tt at *
    generalize hd : wholeB bs T.2.1 T.2.2 = d at *
    have HW : Hid (∀ w', QR w' rb g bs T.2.1 T.2.2 → Calls Tryz.prog 67 #[.pointer (some ⟨rb, 0, none⟩)] w' fun e w2 => e = .returned (.bool d) ∧ Keeps (fun _ => False) w' w2) := hidden fun w' h' => by rw [← hd]; exact fine_c w' h'
    clear hd
    generalize strB tt.1 = NM at *
    generalize strB T.1 = SS at *
    obtain ⟨od, hod⟩ : ∃ od, od = c.od := ⟨_, rfl⟩
    have HOD : Hid (c.od = od) := hidden hod.symm
    clear hod
    by_cases hNM : NM = strB subB
    · have hnb : (NM.toList == [115, 117, 98, 115, 121, 115, 116, 101, 109]) = true := by rw [str_lit]; exact decide_eq_true hNM
      cases d
      · have hst : st = false := by rw [HST.out, HF.out]; simp []
        subst hst
        clear HST HF hNM
        cases wa
        · show Calls _ _ _ _ (fun e w' => QDPost w P a (fun k => k = a ∨ k = rb) (⟨S.cs.set i (some c), S.dead⟩, [], []) e w')
          go_enter Tryz.func44, Tryz.ntmps44
          go_wp2_with fail
          refine HT.out.mono ?_
          rintro e w1 ⟨rfl, t1⟩
          have HK1 := hidden t1.keeps
          have HR1 := hidden t1.state
          clear t1 HT
          go_wp2_with fail
          refine (HB.out _ HR1.out).mono ?_
          rintro e w2 ⟨rfl, t2⟩
          have HKw : Hid (Keeps (fun k => k = rb) w w2) := hidden (HK1.out.trans t2.keeps)
          have HR2 := hidden t2.state
          have HMw := hidden (HM.out.read har HPR.out HKw.out)
          obtain ⟨q4, rf, r1, r2, r3, r4⟩ := t2.state.cell2
          clear t2 HB HR1 HK1 HM
          have hrf := (r3 hy).1
          subst hrf
          clear r1 r3 r4
          go_wp2_with fail
          refine (HT2.out _ HR2.out).mono ?_
          rintro e w3 ⟨rfl, t3⟩
          have HR3 := hidden t3.state
          have HKx : Hid (Keeps (fun k => k = rb) w w3) := hidden (HKw.out.trans t3.keeps)
          have HMx := hidden (HMw.out.read har HPR.out t3.keeps)
          clear t3 HT2 HR2 HKw HMw r2
          go_wp2_with fail
          refine (HW.out _ HR3.out).mono ?_
          rintro e w4 ⟨rfl, hk4⟩
          have HKw : Hid (Keeps (fun k => k = rb) w w4) := hidden (HKx.out.trans (hk4.mono (fun k _ h => h.elim)))
          have HMw := hidden (HMx.out.still hk4)
          clear hk4 HW HR3 HKx HMx
          obtain ⟨v, A, Z, hx, hvP, hput⟩ := HMw.out.putD hS hi hc
          have HPUT := hidden hput
          have HVP := hidden hvP
          obtain ⟨c0, c1, c2, c3, c4, c5, c6, c7, cf⟩ := hx.cells
          have HX := hidden hx
          clear hx hvP hput
          rw [HOD.out] at c1
          go_upto_region 15 with fail
          obtain ⟨w7, hw7⟩ : ∃ x, x = w4 := ⟨_, rfl⟩
          have HX7 := HX
          have HK7 : Hid (Keeps (fun _ => False) w4 w7) := hidden (by rw [hw7]; exact Keeps.refl _ _)
          have HLS : Hid (Lst w4.heap.size w7 (.slice none 0 0) []) := hidden (Lst.nil' _ _)
          rw [← hw7] at HX7
          rw [← hw7]
          clear hw7 c0 c1 c2 c3 c4 c5 c6 c7 cf
          have HP : Hid (QDPost w P a (fun k => k = a ∨ k = rb) (⟨S.cs.set i (some c), S.dead⟩, [], []) (.returned (.tuple #[.slice none 0 0, .slice none 0 0])) w7) := by
            have hkA := HK7.out.mono (S' := fun k => k = a) (fun k _ h => h.elim)
            refine hidden (QDPost.after HKw.out ⟨_, _, rfl, HLS.out, Evs.nil' _ _ _, ?_, hkA⟩)
            exact HPUT.out _ _ v HX7.out.blk (fun c' e => by cases e; exact HX7.out.held) hkA HVP.out
          clear HX HX7 HK7 HLS HPUT HVP HMw HKw
          go_wp2_with fail
          go_ret2
          exact HP.out
        · show Calls _ _ _ _ (fun e w' => QDPost w P a (fun k => k = a ∨ k = rb) (⟨S.cs.set i (some c), S.dead⟩, [numL 100 [c.th]], []) e w')
          go_enter Tryz.func44, Tryz.ntmps44
          go_wp2_with fail
          refine HT.out.mono ?_
          rintro e w1 ⟨rfl, t1⟩
          have HK1 := hidden t1.keeps
          have HR1 := hidden t1.state
          clear t1 HT
          go_wp2_with fail
          refine (HB.out _ HR1.out).mono ?_
          rintro e w2 ⟨rfl, t2⟩
          have HKw : Hid (Keeps (fun k => k = rb) w w2) := hidden (HK1.out.trans t2.keeps)
          have HR2 := hidden t2.state
          have HMw := hidden (HM.out.read har HPR.out HKw.out)
          obtain ⟨q4, rf, r1, r2, r3, r4⟩ := t2.state.cell2
          clear t2 HB HR1 HK1 HM
          have hrf := (r3 hy).1
          subst hrf
          clear r1 r3 r4
          go_wp2_with fail
          refine (HT2.out _ HR2.out).mono ?_
          rintro e w3 ⟨rfl, t3⟩
          have HR3 := hidden t3.state
          have HKx : Hid (Keeps (fun k => k = rb) w w3) := hidden (HKw.out.trans t3.keeps)
          have HMx := hidden (HMw.out.read har HPR.out t3.keeps)
          clear t3 HT2 HR2 HKw HMw r2
          go_wp2_with fail
          refine (HW.out _ HR3.out).mono ?_
          rintro e w4 ⟨rfl, hk4⟩
          have HKw : Hid (Keeps (fun k => k = rb) w w4) := hidden (HKx.out.trans (hk4.mono (fun k _ h => h.elim)))
          have HMw := hidden (HMx.out.still hk4)
          clear hk4 HW HR3 HKx HMx
          obtain ⟨v, A, Z, hx, hvP, hput⟩ := HMw.out.putD hS hi hc
          have HPUT := hidden hput
          have HVP := hidden hvP
          obtain ⟨c0, c1, c2, c3, c4, c5, c6, c7, cf⟩ := hx.cells
          have HX := hidden hx
          clear hx hvP hput
          rw [HOD.out] at c1
          have HN := hidden (nsl_lit w4 [c.th])
          go_wp2_with fail
          refine (uq_c 100 _ [c.th] _ HN.out (by intro j hj; match j, hj with | 0, _ => exact hth) (by simp) (by simp)).mono ?_
          rintro e w6 ⟨v6, rfl, ho6, hb6⟩
          obtain ⟨a6, p6, e6⟩ := ownsRow_shape ho6
          subst e6
          rw [show byteOf ((100 : Nat) : Int) = 100 from rfl] at ho6 ⊢
          have HK7 : Hid (Keeps (fun _ => False) w4 (w6.alloc (.cells #[.slice a6 (numL 100 [c.th]).length p6] 22))) := hidden ((Keeps.ofFresh (below_alloc hb6)).alloc _)
          have HLS : Hid (Lst w4.heap.size (w6.alloc (.cells #[.slice a6 (numL 100 [c.th]).length p6] 22)) (.slice (some ⟨w6.heap.size, 0, none⟩) 1 1) [numL 100 [c.th]]) := hidden (Lst.one ho6 (by simp) hb6.size)
          have HX7 := hidden (HX.out.still HK7.out)
          clear ho6 hb6 HN c0 c1 c2 c3 c4 c5 c6 c7 cf
          generalize (numL 100 [c.th]).length = n6 at *
          obtain ⟨g6, hg6⟩ : ∃ g6, g6 = w6.heap.size := ⟨_, rfl⟩
          rw [← hg6] at HLS
          go_upto_region 15 with fail
          rw [← hg6]
          clear hg6
          generalize w6.alloc (.cells #[.slice a6 n6 p6] 22) = w7 at *
          have HP : Hid (QDPost w P a (fun k => k = a ∨ k = rb) (⟨S.cs.set i (some c), S.dead⟩, [numL 100 [c.th]], []) (.returned (.tuple #[.slice (some ⟨g6, 0, none⟩) 1 1, .slice none 0 0])) w7) := by
            have hkA := HK7.out.mono (S' := fun k => k = a) (fun k _ h => h.elim)
            refine hidden (QDPost.after HKw.out ⟨_, _, rfl, HLS.out, Evs.nil' _ _ _, ?_, hkA⟩)
            exact HPUT.out _ _ v HX7.out.blk (fun c' e => by cases e; exact HX7.out.held) hkA HVP.out
          clear HX HX7 HK7 HLS HPUT HVP HMw HKw
          go_wp2_with fail
          go_ret2
          exact HP.out
      · by_cases hSS : SS = strB sftpB
        · have hsb : (SS.toList == [115, 102, 116, 112]) = true := by rw [str_lit]; exact decide_eq_true hSS
          cases od
          · have hst : st = true := by rw [HST.out, HF.out]; simp [HOD.out, hNM, hSS]
            subst hst
            clear HST HF hNM hSS
            cases wa
            · show Calls _ _ _ _ (fun e w' => QDPost w P a (fun k => k = a ∨ k = rb) (⟨S.cs.set i (some ⟨true, c.en, c.cl, c.th, c.wl, c.wm, c.ol, c.wt⟩), S.dead⟩, [], [⟨1, i, []⟩]) e w')
              go_enter Tryz.func44, Tryz.ntmps44
              go_wp2_with fail
              refine HT.out.mono ?_
              rintro e w1 ⟨rfl, t1⟩
              have HK1 := hidden t1.keeps
              have HR1 := hidden t1.state
              clear t1 HT
              go_wp2_with fail
              refine (HB.out _ HR1.out).mono ?_
              rintro e w2 ⟨rfl, t2⟩
              have HKw : Hid (Keeps (fun k => k = rb) w w2) := hidden (HK1.out.trans t2.keeps)
              have HR2 := hidden t2.state
              have HMw := hidden (HM.out.read har HPR.out HKw.out)
              obtain ⟨q4, rf, r1, r2, r3, r4⟩ := t2.state.cell2
              clear t2 HB HR1 HK1 HM
              have hrf := (r3 hy).1
              subst hrf
              clear r1 r3 r4
              go_wp2_with fail
              refine (HT2.out _ HR2.out).mono ?_
              rintro e w3 ⟨rfl, t3⟩
              have HR3 := hidden t3.state
              have HKx : Hid (Keeps (fun k => k = rb) w w3) := hidden (HKw.out.trans t3.keeps)
              have HMx := hidden (HMw.out.read har HPR.out t3.keeps)
              clear t3 HT2 HR2 HKw HMw r2
              go_wp2_with fail
              refine (HW.out _ HR3.out).mono ?_
              rintro e w4 ⟨rfl, hk4⟩
              have HKw : Hid (Keeps (fun k => k = rb) w w4) := hidden (HKx.out.trans (hk4.mono (fun k _ h => h.elim)))
              have HMw := hidden (HMx.out.still hk4)
              clear hk4 HW HR3 HKx HMx
              obtain ⟨v, A, Z, hx, hvP, hput⟩ := HMw.out.putD hS hi hc
              have HPUT := hidden hput
              have HVP := hidden hvP
              obtain ⟨c0, c1, c2, c3, c4, c5, c6, c7, cf⟩ := hx.cells
              have HX := hidden hx
              clear hx hvP hput
              rw [HOD.out] at c1
              go_upto_region 15 with fail
              obtain ⟨w7, hw7⟩ : ∃ x, x = w4 := ⟨_, rfl⟩
              have HX7 := HX
              have HK7 : Hid (Keeps (fun _ => False) w4 w7) := hidden (by rw [hw7]; exact Keeps.refl _ _)
              have HLS : Hid (Lst w4.heap.size w7 (.slice none 0 0) []) := hidden (Lst.nil' _ _)
              rw [← hw7] at HX7
              rw [← hw7]
              clear hw7 c0 c1 c2 c3 c4 c5 c6 c7 cf
              obtain ⟨c0, c1, c2, c3, c4, c5, c6, c7, cf⟩ := HX7.out.cells
              have HX8 := hidden (HX7.out.set 1 (by omega) (.bool true) ⟨true, c.en, c.cl, c.th, c.wl, c.wm, c.ol, c.wt⟩ v rfl HX7.out.held HX7.out.own)
              have HK8 := hidden (keepsSet w7 a (i * 8 + 1) (.bool true))
              go_upto_region 18 with fail
              clear c0 c1 c2 c3 c4 c5 c6 c7 cf
              generalize w7.setCell ⟨a, i * 8 + 1, none⟩ (.bool true) = w8 at *
              have HP : Hid (QDPost w P a (fun k => k = a ∨ k = rb) (⟨S.cs.set i (some ⟨true, c.en, c.cl, c.th, c.wl, c.wm, c.ol, c.wt⟩), S.dead⟩, [], [⟨1, i, []⟩]) (.returned (.tuple #[.slice none 0 0, .slice (some ⟨w8.heap.size, 0, none⟩) 1 1])) (w8.alloc (.cells #[.int .i64 1, .int .i64 (i : Int), .slice none 0 0] 95))) := by
                have hk9 : Keeps (fun _ => False) w8 (w8.alloc (.cells #[.int .i64 1, .int .i64 (i : Int), .slice none 0 0] 95)) := (Keeps.refl _ _).alloc _
                have hkA := (HK7.out.mono (S' := fun k => k = a) (fun k _ h => h.elim)).trans HK8.out
                have hkB := hkA.trans (hk9.mono (fun k _ h => h.elim))
                have hx9 := HX8.out.still hk9
                have hal3 := HMw.out.aLt
                refine hidden (QDPost.after HKw.out ⟨_, _, rfl, (HLS.out.keep HK8.out (fun k e => by omega)).keep hk9 (fun k e => e.elim), Evs.ofQ (heap_alloc_new _ _) hkA.size, ?_, hkB⟩)
                exact HPUT.out _ _ v hx9.blk (fun c' e => by cases e; exact hx9.held) hkB HVP.out
              clear HX HX7 HX8 HK7 HK8 HLS HPUT HVP HMw HKw
              go_wp2_with fail
              go_ret2
              exact HP.out
            · show Calls _ _ _ _ (fun e w' => QDPost w P a (fun k => k = a ∨ k = rb) (⟨S.cs.set i (some ⟨true, c.en, c.cl, c.th, c.wl, c.wm, c.ol, c.wt⟩), S.dead⟩, [numL 99 [c.th]], [⟨1, i, []⟩]) e w')
              go_enter Tryz.func44, Tryz.ntmps44
              go_wp2_with fail
              refine HT.out.mono ?_
              rintro e w1 ⟨rfl, t1⟩
              have HK1 := hidden t1.keeps
              have HR1 := hidden t1.state
              clear t1 HT
              go_wp2_with fail
              refine (HB.out _ HR1.out).mono ?_
              rintro e w2 ⟨rfl, t2⟩
              have HKw : Hid (Keeps (fun k => k = rb) w w2) := hidden (HK1.out.trans t2.keeps)
              have HR2 := hidden t2.state
              have HMw := hidden (HM.out.read har HPR.out HKw.out)
              obtain ⟨q4, rf, r1, r2, r3, r4⟩ := t2.state.cell2
              clear t2 HB HR1 HK1 HM
              have hrf := (r3 hy).1
              subst hrf
              clear r1 r3 r4
              go_wp2_with fail
              refine (HT2.out _ HR2.out).mono ?_
              rintro e w3 ⟨rfl, t3⟩
              have HR3 := hidden t3.state
              have HKx : Hid (Keeps (fun k => k = rb) w w3) := hidden (HKw.out.trans t3.keeps)
              have HMx := hidden (HMw.out.read har HPR.out t3.keeps)
              clear t3 HT2 HR2 HKw HMw r2
              go_wp2_with fail
              refine (HW.out _ HR3.out).mono ?_
              rintro e w4 ⟨rfl, hk4⟩
              have HKw : Hid (Keeps (fun k => k = rb) w w4) := hidden (HKx.out.trans (hk4.mono (fun k _ h => h.elim)))
              have HMw := hidden (HMx.out.still hk4)
              clear hk4 HW HR3 HKx HMx
              obtain ⟨v, A, Z, hx, hvP, hput⟩ := HMw.out.putD hS hi hc
              have HPUT := hidden hput
              have HVP := hidden hvP
              obtain ⟨c0, c1, c2, c3, c4, c5, c6, c7, cf⟩ := hx.cells
              have HX := hidden hx
              clear hx hvP hput
              rw [HOD.out] at c1
              have HN := hidden (nsl_lit w4 [c.th])
              go_wp2_with fail
              refine (uq_c 99 _ [c.th] _ HN.out (by intro j hj; match j, hj with | 0, _ => exact hth) (by simp) (by simp)).mono ?_
              rintro e w6 ⟨v6, rfl, ho6, hb6⟩
              obtain ⟨a6, p6, e6⟩ := ownsRow_shape ho6
              subst e6
              rw [show byteOf ((99 : Nat) : Int) = 99 from rfl] at ho6 ⊢
              have HK7 : Hid (Keeps (fun _ => False) w4 (w6.alloc (.cells #[.slice a6 (numL 99 [c.th]).length p6] 22))) := hidden ((Keeps.ofFresh (below_alloc hb6)).alloc _)
              have HLS : Hid (Lst w4.heap.size (w6.alloc (.cells #[.slice a6 (numL 99 [c.th]).length p6] 22)) (.slice (some ⟨w6.heap.size, 0, none⟩) 1 1) [numL 99 [c.th]]) := hidden (Lst.one ho6 (by simp) hb6.size)
              have HX7 := hidden (HX.out.still HK7.out)
              clear ho6 hb6 HN c0 c1 c2 c3 c4 c5 c6 c7 cf
              generalize (numL 99 [c.th]).length = n6 at *
              obtain ⟨g6, hg6⟩ : ∃ g6, g6 = w6.heap.size := ⟨_, rfl⟩
              rw [← hg6] at HLS
              go_upto_region 15 with fail
              rw [← hg6]
              clear hg6
              generalize w6.alloc (.cells #[.slice a6 n6 p6] 22) = w7 at *
              obtain ⟨c0, c1, c2, c3, c4, c5, c6, c7, cf⟩ := HX7.out.cells
              have HX8 := hidden (HX7.out.set 1 (by omega) (.bool true) ⟨true, c.en, c.cl, c.th, c.wl, c.wm, c.ol, c.wt⟩ v rfl HX7.out.held HX7.out.own)
              have HK8 := hidden (keepsSet w7 a (i * 8 + 1) (.bool true))
              go_upto_region 18 with fail
              clear c0 c1 c2 c3 c4 c5 c6 c7 cf
              generalize w7.setCell ⟨a, i * 8 + 1, none⟩ (.bool true) = w8 at *
              have HP : Hid (QDPost w P a (fun k => k = a ∨ k = rb) (⟨S.cs.set i (some ⟨true, c.en, c.cl, c.th, c.wl, c.wm, c.ol, c.wt⟩), S.dead⟩, [numL 99 [c.th]], [⟨1, i, []⟩]) (.returned (.tuple #[.slice (some ⟨g6, 0, none⟩) 1 1, .slice (some ⟨w8.heap.size, 0, none⟩) 1 1])) (w8.alloc (.cells #[.int .i64 1, .int .i64 (i : Int), .slice none 0 0] 95))) := by
                have hk9 : Keeps (fun _ => False) w8 (w8.alloc (.cells #[.int .i64 1, .int .i64 (i : Int), .slice none 0 0] 95)) := (Keeps.refl _ _).alloc _
                have hkA := (HK7.out.mono (S' := fun k => k = a) (fun k _ h => h.elim)).trans HK8.out
                have hkB := hkA.trans (hk9.mono (fun k _ h => h.elim))
                have hx9 := HX8.out.still hk9
                have hal3 := HMw.out.aLt
                refine hidden (QDPost.after HKw.out ⟨_, _, rfl, (HLS.out.keep HK8.out (fun k e => by omega)).keep hk9 (fun k e => e.elim), Evs.ofQ (heap_alloc_new _ _) hkA.size, ?_, hkB⟩)
                exact HPUT.out _ _ v hx9.blk (fun c' e => by cases e; exact hx9.held) hkB HVP.out
              clear HX HX7 HX8 HK7 HK8 HLS HPUT HVP HMw HKw
              go_wp2_with fail
              go_ret2
              exact HP.out
          · have hst : st = false := by rw [HST.out, HF.out]; simp [HOD.out]
            subst hst
            clear HST HF hNM hSS
            cases wa
            · show Calls _ _ _ _ (fun e w' => QDPost w P a (fun k => k = a ∨ k = rb) (⟨S.cs.set i (some c), S.dead⟩, [], []) e w')
              go_enter Tryz.func44, Tryz.ntmps44
              go_wp2_with fail
              refine HT.out.mono ?_
              rintro e w1 ⟨rfl, t1⟩
              have HK1 := hidden t1.keeps
              have HR1 := hidden t1.state
              clear t1 HT
              go_wp2_with fail
              refine (HB.out _ HR1.out).mono ?_
              rintro e w2 ⟨rfl, t2⟩
              have HKw : Hid (Keeps (fun k => k = rb) w w2) := hidden (HK1.out.trans t2.keeps)
              have HR2 := hidden t2.state
              have HMw := hidden (HM.out.read har HPR.out HKw.out)
              obtain ⟨q4, rf, r1, r2, r3, r4⟩ := t2.state.cell2
              clear t2 HB HR1 HK1 HM
              have hrf := (r3 hy).1
              subst hrf
              clear r1 r3 r4
              go_wp2_with fail
              refine (HT2.out _ HR2.out).mono ?_
              rintro e w3 ⟨rfl, t3⟩
              have HR3 := hidden t3.state
              have HKx : Hid (Keeps (fun k => k = rb) w w3) := hidden (HKw.out.trans t3.keeps)
              have HMx := hidden (HMw.out.read har HPR.out t3.keeps)
              clear t3 HT2 HR2 HKw HMw r2
              go_wp2_with fail
              refine (HW.out _ HR3.out).mono ?_
              rintro e w4 ⟨rfl, hk4⟩
              have HKw : Hid (Keeps (fun k => k = rb) w w4) := hidden (HKx.out.trans (hk4.mono (fun k _ h => h.elim)))
              have HMw := hidden (HMx.out.still hk4)
              clear hk4 HW HR3 HKx HMx
              obtain ⟨v, A, Z, hx, hvP, hput⟩ := HMw.out.putD hS hi hc
              have HPUT := hidden hput
              have HVP := hidden hvP
              obtain ⟨c0, c1, c2, c3, c4, c5, c6, c7, cf⟩ := hx.cells
              have HX := hidden hx
              clear hx hvP hput
              rw [HOD.out] at c1
              go_upto_region 15 with fail
              obtain ⟨w7, hw7⟩ : ∃ x, x = w4 := ⟨_, rfl⟩
              have HX7 := HX
              have HK7 : Hid (Keeps (fun _ => False) w4 w7) := hidden (by rw [hw7]; exact Keeps.refl _ _)
              have HLS : Hid (Lst w4.heap.size w7 (.slice none 0 0) []) := hidden (Lst.nil' _ _)
              rw [← hw7] at HX7
              rw [← hw7]
              clear hw7 c0 c1 c2 c3 c4 c5 c6 c7 cf
              have HP : Hid (QDPost w P a (fun k => k = a ∨ k = rb) (⟨S.cs.set i (some c), S.dead⟩, [], []) (.returned (.tuple #[.slice none 0 0, .slice none 0 0])) w7) := by
                have hkA := HK7.out.mono (S' := fun k => k = a) (fun k _ h => h.elim)
                refine hidden (QDPost.after HKw.out ⟨_, _, rfl, HLS.out, Evs.nil' _ _ _, ?_, hkA⟩)
                exact HPUT.out _ _ v HX7.out.blk (fun c' e => by cases e; exact HX7.out.held) hkA HVP.out
              clear HX HX7 HK7 HLS HPUT HVP HMw HKw
              go_wp2_with fail
              go_ret2
              exact HP.out
            · show Calls _ _ _ _ (fun e w' => QDPost w P a (fun k => k = a ∨ k = rb) (⟨S.cs.set i (some c), S.dead⟩, [numL 100 [c.th]], []) e w')
              go_enter Tryz.func44, Tryz.ntmps44
              go_wp2_with fail
              refine HT.out.mono ?_
              rintro e w1 ⟨rfl, t1⟩
              have HK1 := hidden t1.keeps
              have HR1 := hidden t1.state
              clear t1 HT
              go_wp2_with fail
              refine (HB.out _ HR1.out).mono ?_
              rintro e w2 ⟨rfl, t2⟩
              have HKw : Hid (Keeps (fun k => k = rb) w w2) := hidden (HK1.out.trans t2.keeps)
              have HR2 := hidden t2.state
              have HMw := hidden (HM.out.read har HPR.out HKw.out)
              obtain ⟨q4, rf, r1, r2, r3, r4⟩ := t2.state.cell2
              clear t2 HB HR1 HK1 HM
              have hrf := (r3 hy).1
              subst hrf
              clear r1 r3 r4
              go_wp2_with fail
              refine (HT2.out _ HR2.out).mono ?_
              rintro e w3 ⟨rfl, t3⟩
              have HR3 := hidden t3.state
              have HKx : Hid (Keeps (fun k => k = rb) w w3) := hidden (HKw.out.trans t3.keeps)
              have HMx := hidden (HMw.out.read har HPR.out t3.keeps)
              clear t3 HT2 HR2 HKw HMw r2
              go_wp2_with fail
              refine (HW.out _ HR3.out).mono ?_
              rintro e w4 ⟨rfl, hk4⟩
              have HKw : Hid (Keeps (fun k => k = rb) w w4) := hidden (HKx.out.trans (hk4.mono (fun k _ h => h.elim)))
              have HMw := hidden (HMx.out.still hk4)
              clear hk4 HW HR3 HKx HMx
              obtain ⟨v, A, Z, hx, hvP, hput⟩ := HMw.out.putD hS hi hc
              have HPUT := hidden hput
              have HVP := hidden hvP
              obtain ⟨c0, c1, c2, c3, c4, c5, c6, c7, cf⟩ := hx.cells
              have HX := hidden hx
              clear hx hvP hput
              rw [HOD.out] at c1
              have HN := hidden (nsl_lit w4 [c.th])
              go_wp2_with fail
              refine (uq_c 100 _ [c.th] _ HN.out (by intro j hj; match j, hj with | 0, _ => exact hth) (by simp) (by simp)).mono ?_
              rintro e w6 ⟨v6, rfl, ho6, hb6⟩
              obtain ⟨a6, p6, e6⟩ := ownsRow_shape ho6
              subst e6
              rw [show byteOf ((100 : Nat) : Int) = 100 from rfl] at ho6 ⊢
              have HK7 : Hid (Keeps (fun _ => False) w4 (w6.alloc (.cells #[.slice a6 (numL 100 [c.th]).length p6] 22))) := hidden ((Keeps.ofFresh (below_alloc hb6)).alloc _)
              have HLS : Hid (Lst w4.heap.size (w6.alloc (.cells #[.slice a6 (numL 100 [c.th]).length p6] 22)) (.slice (some ⟨w6.heap.size, 0, none⟩) 1 1) [numL 100 [c.th]]) := hidden (Lst.one ho6 (by simp) hb6.size)
              have HX7 := hidden (HX.out.still HK7.out)
              clear ho6 hb6 HN c0 c1 c2 c3 c4 c5 c6 c7 cf
              generalize (numL 100 [c.th]).length = n6 at *
              obtain ⟨g6, hg6⟩ : ∃ g6, g6 = w6.heap.size := ⟨_, rfl⟩
              rw [← hg6] at HLS
              go_upto_region 15 with fail
              rw [← hg6]
              clear hg6
              generalize w6.alloc (.cells #[.slice a6 n6 p6] 22) = w7 at *
              have HP : Hid (QDPost w P a (fun k => k = a ∨ k = rb) (⟨S.cs.set i (some c), S.dead⟩, [numL 100 [c.th]], []) (.returned (.tuple #[.slice (some ⟨g6, 0, none⟩) 1 1, .slice none 0 0])) w7) := by
                have hkA := HK7.out.mono (S' := fun k => k = a) (fun k _ h => h.elim)
                refine hidden (QDPost.after HKw.out ⟨_, _, rfl, HLS.out, Evs.nil' _ _ _, ?_, hkA⟩)
                exact HPUT.out _ _ v HX7.out.blk (fun c' e => by cases e; exact HX7.out.held) hkA HVP.out
              clear HX HX7 HK7 HLS HPUT HVP HMw HKw
              go_wp2_with fail
              go_ret2
              exact HP.out
        · have hsb : (SS.toList == [115, 102, 116, 112]) = false := by rw [str_lit]; exact decide_eq_false hSS
          have hst : st = false := by rw [HST.out, HF.out]; simp [hSS]
          subst hst
          clear HST HF hNM hSS
          cases wa
          · show Calls _ _ _ _ (fun e w' => QDPost w P a (fun k => k = a ∨ k = rb) (⟨S.cs.set i (some c), S.dead⟩, [], []) e w')
            go_enter Tryz.func44, Tryz.ntmps44
            go_wp2_with fail
            refine HT.out.mono ?_
            rintro e w1 ⟨rfl, t1⟩
            have HK1 := hidden t1.keeps
            have HR1 := hidden t1.state
            clear t1 HT
            go_wp2_with fail
            refine (HB.out _ HR1.out).mono ?_
            rintro e w2 ⟨rfl, t2⟩
            have HKw : Hid (Keeps (fun k => k = rb) w w2) := hidden (HK1.out.trans t2.keeps)
            have HR2 := hidden t2.state
            have HMw := hidden (HM.out.read har HPR.out HKw.out)
            obtain ⟨q4, rf, r1, r2, r3, r4⟩ := t2.state.cell2
            clear t2 HB HR1 HK1 HM
            have hrf := (r3 hy).1
            subst hrf
            clear r1 r3 r4
            go_wp2_with fail
            refine (HT2.out _ HR2.out).mono ?_
            rintro e w3 ⟨rfl, t3⟩
            have HR3 := hidden t3.state
            have HKx : Hid (Keeps (fun k => k = rb) w w3) := hidden (HKw.out.trans t3.keeps)
            have HMx := hidden (HMw.out.read har HPR.out t3.keeps)
            clear t3 HT2 HR2 HKw HMw r2
            go_wp2_with fail
            refine (HW.out _ HR3.out).mono ?_
            rintro e w4 ⟨rfl, hk4⟩
            have HKw : Hid (Keeps (fun k => k = rb) w w4) := hidden (HKx.out.trans (hk4.mono (fun k _ h => h.elim)))
            have HMw := hidden (HMx.out.still hk4)
            clear hk4 HW HR3 HKx HMx
            obtain ⟨v, A, Z, hx, hvP, hput⟩ := HMw.out.putD hS hi hc
            have HPUT := hidden hput
            have HVP := hidden hvP
            obtain ⟨c0, c1, c2, c3, c4, c5, c6, c7, cf⟩ := hx.cells
            have HX := hidden hx
            clear hx hvP hput
            rw [HOD.out] at c1
            go_upto_region 15 with fail
            obtain ⟨w7, hw7⟩ : ∃ x, x = w4 := ⟨_, rfl⟩
            have HX7 := HX
            have HK7 : Hid (Keeps (fun _ => False) w4 w7) := hidden (by rw [hw7]; exact Keeps.refl _ _)
            have HLS : Hid (Lst w4.heap.size w7 (.slice none 0 0) []) := hidden (Lst.nil' _ _)
            rw [← hw7] at HX7
            rw [← hw7]
            clear hw7 c0 c1 c2 c3 c4 c5 c6 c7 cf
            have HP : Hid (QDPost w P a (fun k => k = a ∨ k = rb) (⟨S.cs.set i (some c), S.dead⟩, [], []) (.returned (.tuple #[.slice none 0 0, .slice none 0 0])) w7) := by
              have hkA := HK7.out.mono (S' := fun k => k = a) (fun k _ h => h.elim)
              refine hidden (QDPost.after HKw.out ⟨_, _, rfl, HLS.out, Evs.nil' _ _ _, ?_, hkA⟩)
              exact HPUT.out _ _ v HX7.out.blk (fun c' e => by cases e; exact HX7.out.held) hkA HVP.out
            clear HX HX7 HK7 HLS HPUT HVP HMw HKw
            go_wp2_with fail
            go_ret2
            exact HP.out
          · show Calls _ _ _ _ (fun e w' => QDPost w P a (fun k => k = a ∨ k = rb) (⟨S.cs.set i (some c), S.dead⟩, [numL 100 [c.th]], []) e w')
            go_enter Tryz.func44, Tryz.ntmps44
            go_wp2_with fail
            refine HT.out.mono ?_
            rintro e w1 ⟨rfl, t1⟩
            have HK1 := hidden t1.keeps
            have HR1 := hidden t1.state
            clear t1 HT
            go_wp2_with fail
            refine (HB.out _ HR1.out).mono ?_
            rintro e w2 ⟨rfl, t2⟩
            have HKw : Hid (Keeps (fun k => k = rb) w w2) := hidden (HK1.out.trans t2.keeps)
            have HR2 := hidden t2.state
            have HMw := hidden (HM.out.read har HPR.out HKw.out)
            obtain ⟨q4, rf, r1, r2, r3, r4⟩ := t2.state.cell2
            clear t2 HB HR1 HK1 HM
            have hrf := (r3 hy).1
            subst hrf
            clear r1 r3 r4
            go_wp2_with fail
            refine (HT2.out _ HR2.out).mono ?_
            rintro e w3 ⟨rfl, t3⟩
            have HR3 := hidden t3.state
            have HKx : Hid (Keeps (fun k => k = rb) w w3) := hidden (HKw.out.trans t3.keeps)
            have HMx := hidden (HMw.out.read har HPR.out t3.keeps)
            clear t3 HT2 HR2 HKw HMw r2
            go_wp2_with fail
            refine (HW.out _ HR3.out).mono ?_
            rintro e w4 ⟨rfl, hk4⟩
            have HKw : Hid (Keeps (fun k => k = rb) w w4) := hidden (HKx.out.trans (hk4.mono (fun k _ h => h.elim)))
            have HMw := hidden (HMx.out.still hk4)
            clear hk4 HW HR3 HKx HMx
            obtain ⟨v, A, Z, hx, hvP, hput⟩ := HMw.out.putD hS hi hc
            have HPUT := hidden hput
            have HVP := hidden hvP
            obtain ⟨c0, c1, c2, c3, c4, c5, c6, c7, cf⟩ := hx.cells
            have HX := hidden hx
            clear hx hvP hput
            rw [HOD.out] at c1
            have HN := hidden (nsl_lit w4 [c.th])
            go_wp2_with fail
            refine (uq_c 100 _ [c.th] _ HN.out (by intro j hj; match j, hj with | 0, _ => exact hth) (by simp) (by simp)).mono ?_
            rintro e w6 ⟨v6, rfl, ho6, hb6⟩
            obtain ⟨a6, p6, e6⟩ := ownsRow_shape ho6
            subst e6
            rw [show byteOf ((100 : Nat) : Int) = 100 from rfl] at ho6 ⊢
            have HK7 : Hid (Keeps (fun _ => False) w4 (w6.alloc (.cells #[.slice a6 (numL 100 [c.th]).length p6] 22))) := hidden ((Keeps.ofFresh (below_alloc hb6)).alloc _)
            have HLS : Hid (Lst w4.heap.size (w6.alloc (.cells #[.slice a6 (numL 100 [c.th]).length p6] 22)) (.slice (some ⟨w6.heap.size, 0, none⟩) 1 1) [numL 100 [c.th]]) := hidden (Lst.one ho6 (by simp) hb6.size)
            have HX7 := hidden (HX.out.still HK7.out)
            clear ho6 hb6 HN c0 c1 c2 c3 c4 c5 c6 c7 cf
            generalize (numL 100 [c.th]).length = n6 at *
            obtain ⟨g6, hg6⟩ : ∃ g6, g6 = w6.heap.size := ⟨_, rfl⟩
            rw [← hg6] at HLS
            go_upto_region 15 with fail
            rw [← hg6]
            clear hg6
            generalize w6.alloc (.cells #[.slice a6 n6 p6] 22) = w7 at *
            have HP : Hid (QDPost w P a (fun k => k = a ∨ k = rb) (⟨S.cs.set i (some c), S.dead⟩, [numL 100 [c.th]], []) (.returned (.tuple #[.slice (some ⟨g6, 0, none⟩) 1 1, .slice none 0 0])) w7) := by
              have hkA := HK7.out.mono (S' := fun k => k = a) (fun k _ h => h.elim)
              refine hidden (QDPost.after HKw.out ⟨_, _, rfl, HLS.out, Evs.nil' _ _ _, ?_, hkA⟩)
              exact HPUT.out _ _ v HX7.out.blk (fun c' e => by cases e; exact HX7.out.held) hkA HVP.out
            clear HX HX7 HK7 HLS HPUT HVP HMw HKw
            go_wp2_with fail
            go_ret2
            exact HP.out
    · have hnb : (NM.toList == [115, 117, 98, 115, 121, 115, 116, 101, 109]) = false := by rw [str_lit]; exact decide_eq_false hNM
      have hst : st = false := by rw [HST.out, HF.out]; simp [hNM]
      subst hst
      clear HST HF hNM
      cases wa
      · show Calls _ _ _ _ (fun e w' => QDPost w P a (fun k => k = a ∨ k = rb) (⟨S.cs.set i (some c), S.dead⟩, [], []) e w')
        go_enter Tryz.func44, Tryz.ntmps44
        go_wp2_with fail
        refine HT.out.mono ?_
        rintro e w1 ⟨rfl, t1⟩
        have HK1 := hidden t1.keeps
        have HR1 := hidden t1.state
        clear t1 HT
        go_wp2_with fail
        refine (HB.out _ HR1.out).mono ?_
        rintro e w2 ⟨rfl, t2⟩
        have HKw : Hid (Keeps (fun k => k = rb) w w2) := hidden (HK1.out.trans t2.keeps)
        have HR2 := hidden t2.state
        have HMw := hidden (HM.out.read har HPR.out HKw.out)
        obtain ⟨q4, rf, r1, r2, r3, r4⟩ := t2.state.cell2
        clear t2 HB HR1 HK1 HM
        have hrf := (r3 hy).1
        subst hrf
        clear r1 r3 r4
        go_wp2_with fail
        refine (HT2.out _ HR2.out).mono ?_
        rintro e w3 ⟨rfl, t3⟩
        have HR3 := hidden t3.state
        have HKx : Hid (Keeps (fun k => k = rb) w w3) := hidden (HKw.out.trans t3.keeps)
        have HMx := hidden (HMw.out.read har HPR.out t3.keeps)
        clear t3 HT2 HR2 HKw HMw r2
        go_upto_region 10 with fail
        obtain ⟨w4, hw4⟩ : ∃ x, x = w3 := ⟨_, rfl⟩
        rw [← hw4] at HKx HMx ⊢
        have HKw := HKx
        have HMw := HMx
        clear hw4 HW HR3 HKx HMx
        obtain ⟨v, A, Z, hx, hvP, hput⟩ := HMw.out.putD hS hi hc
        have HPUT := hidden hput
        have HVP := hidden hvP
        obtain ⟨c0, c1, c2, c3, c4, c5, c6, c7, cf⟩ := hx.cells
        have HX := hidden hx
        clear hx hvP hput
        rw [HOD.out] at c1
        go_upto_region 15 with fail
        obtain ⟨w7, hw7⟩ : ∃ x, x = w4 := ⟨_, rfl⟩
        have HX7 := HX
        have HK7 : Hid (Keeps (fun _ => False) w4 w7) := hidden (by rw [hw7]; exact Keeps.refl _ _)
        have HLS : Hid (Lst w4.heap.size w7 (.slice none 0 0) []) := hidden (Lst.nil' _ _)
        rw [← hw7] at HX7
        rw [← hw7]
        clear hw7 c0 c1 c2 c3 c4 c5 c6 c7 cf
        have HP : Hid (QDPost w P a (fun k => k = a ∨ k = rb) (⟨S.cs.set i (some c), S.dead⟩, [], []) (.returned (.tuple #[.slice none 0 0, .slice none 0 0])) w7) := by
          have hkA := HK7.out.mono (S' := fun k => k = a) (fun k _ h => h.elim)
          refine hidden (QDPost.after HKw.out ⟨_, _, rfl, HLS.out, Evs.nil' _ _ _, ?_, hkA⟩)
          exact HPUT.out _ _ v HX7.out.blk (fun c' e => by cases e; exact HX7.out.held) hkA HVP.out
        clear HX HX7 HK7 HLS HPUT HVP HMw HKw
        go_wp2_with fail
        go_ret2
        exact HP.out
      · show Calls _ _ _ _ (fun e w' => QDPost w P a (fun k => k = a ∨ k = rb) (⟨S.cs.set i (some c), S.dead⟩, [numL 100 [c.th]], []) e w')
        go_enter Tryz.func44, Tryz.ntmps44
        go_wp2_with fail
        refine HT.out.mono ?_
        rintro e w1 ⟨rfl, t1⟩
        have HK1 := hidden t1.keeps
        have HR1 := hidden t1.state
        clear t1 HT
        go_wp2_with fail
        refine (HB.out _ HR1.out).mono ?_
        rintro e w2 ⟨rfl, t2⟩
        have HKw : Hid (Keeps (fun k => k = rb) w w2) := hidden (HK1.out.trans t2.keeps)
        have HR2 := hidden t2.state
        have HMw := hidden (HM.out.read har HPR.out HKw.out)
        obtain ⟨q4, rf, r1, r2, r3, r4⟩ := t2.state.cell2
        clear t2 HB HR1 HK1 HM
        have hrf := (r3 hy).1
        subst hrf
        clear r1 r3 r4
        go_wp2_with fail
        refine (HT2.out _ HR2.out).mono ?_
        rintro e w3 ⟨rfl, t3⟩
        have HR3 := hidden t3.state
        have HKx : Hid (Keeps (fun k => k = rb) w w3) := hidden (HKw.out.trans t3.keeps)
        have HMx := hidden (HMw.out.read har HPR.out t3.keeps)
        clear t3 HT2 HR2 HKw HMw r2
        go_upto_region 10 with fail
        obtain ⟨w4, hw4⟩ : ∃ x, x = w3 := ⟨_, rfl⟩
        rw [← hw4] at HKx HMx ⊢
        have HKw := HKx
        have HMw := HMx
        clear hw4 HW HR3 HKx HMx
        obtain ⟨v, A, Z, hx, hvP, hput⟩ := HMw.out.putD hS hi hc
        have HPUT := hidden hput
        have HVP := hidden hvP
        obtain ⟨c0, c1, c2, c3, c4, c5, c6, c7, cf⟩ := hx.cells
        have HX := hidden hx
        clear hx hvP hput
        rw [HOD.out] at c1
        have HN := hidden (nsl_lit w4 [c.th])
        go_wp2_with fail
        refine (uq_c 100 _ [c.th] _ HN.out (by intro j hj; match j, hj with | 0, _ => exact hth) (by simp) (by simp)).mono ?_
        rintro e w6 ⟨v6, rfl, ho6, hb6⟩
        obtain ⟨a6, p6, e6⟩ := ownsRow_shape ho6
        subst e6
        rw [show byteOf ((100 : Nat) : Int) = 100 from rfl] at ho6 ⊢
        have HK7 : Hid (Keeps (fun _ => False) w4 (w6.alloc (.cells #[.slice a6 (numL 100 [c.th]).length p6] 22))) := hidden ((Keeps.ofFresh (below_alloc hb6)).alloc _)
        have HLS : Hid (Lst w4.heap.size (w6.alloc (.cells #[.slice a6 (numL 100 [c.th]).length p6] 22)) (.slice (some ⟨w6.heap.size, 0, none⟩) 1 1) [numL 100 [c.th]]) := hidden (Lst.one ho6 (by simp) hb6.size)
        have HX7 := hidden (HX.out.still HK7.out)
        clear ho6 hb6 HN c0 c1 c2 c3 c4 c5 c6 c7 cf
        generalize (numL 100 [c.th]).length = n6 at *
        obtain ⟨g6, hg6⟩ : ∃ g6, g6 = w6.heap.size := ⟨_, rfl⟩
        rw [← hg6] at HLS
        go_upto_region 15 with fail
        rw [← hg6]
        clear hg6
        generalize w6.alloc (.cells #[.slice a6 n6 p6] 22) = w7 at *
        have HP : Hid (QDPost w P a (fun k => k = a ∨ k = rb) (⟨S.cs.set i (some c), S.dead⟩, [numL 100 [c.th]], []) (.returned (.tuple #[.slice (some ⟨g6, 0, none⟩) 1 1, .slice none 0 0])) w7) := by
          have hkA := HK7.out.mono (S' := fun k => k = a) (fun k _ h => h.elim)
          refine hidden (QDPost.after HKw.out ⟨_, _, rfl, HLS.out, Evs.nil' _ _ _, ?_, hkA⟩)
          exact HPUT.out _ _ v HX7.out.blk (fun c' e => by cases e; exact HX7.out.held) hkA HVP.out
        clear HX HX7 HK7 HLS HPUT HVP HMw HKw
        go_wp2_with fail
        go_ret2
        exact HP.out
  · rw [if_neg hy, show putC S i none = none from rfl, Option.getD_none]
    generalize tx bs p why 64 = tt at *
    generalize wantB bs p why = wa at *
    generalize strB tt.1 = NM at *
    go_enter Tryz.func44, Tryz.ntmps44
    go_wp2_with fail
    refine HT.out.mono ?_
    rintro e w1 ⟨rfl, t1⟩
    have HK1 := hidden t1.keeps
    have HR1 := hidden t1.state
    clear t1 HT
    go_wp2_with fail
    refine (HB.out _ HR1.out).mono ?_
    rintro e w2 ⟨rfl, t2⟩
    have HKw : Hid (Keeps (fun k => k = rb) w w2) := hidden (HK1.out.trans t2.keeps)
    have HR2 := hidden t2.state
    have HMw := hidden (HM.out.read har HPR.out HKw.out)
    obtain ⟨q4, rf, r1, r2, r3, r4⟩ := t2.state.cell2
    clear t2 HB HR1 HK1 HM
    have hrf := r4 hy
    subst hrf
    clear r1 r3 r4 HR2
    go_wp2_with fail
    refine (bye_q _ HMw.out).mono ?_
    rintro e w9 hq
    have HQ := hidden (hq.after HKw.out)
    obtain ⟨u1, u2, rfl, _⟩ := hq
    clear HMw HKw
    go_wp2_with fail
    go_ret2
    exact HQ.out
end Go.Proofs.YtnimdbjbkoggdaaGreat
