/- The document's own block. -/
import Derived.Test.YthkaibkmpenclaaDoorChH
namespace Go.Proofs.YthkaibkmpenclaaDoor
open Go Go.RowKit

theorem wordAt_drop (xs : List UInt8) (k : Nat) : wordAt (xs.drop k) 0 = wordAt xs k := by
  simp [wordAt, List.getElem?_drop]

/-- Two rounds, as the document lays them. -/
def drnd (L : List Int) : List Int :=
  quarterAt (quarterAt (quarterAt (quarterAt (quarterAt (quarterAt (quarterAt (quarterAt L 0 4 8 12) 1 5 9 13) 2 6 10 14) 3 7 11 15) 0 5 10 15) 1 6 11 12) 2 7 8 13) 3 4 9 14
theorem drnd_eq (L : List Int) (j : Nat) : mixTo L (2 * (j + 1)) = drnd (mixTo L (2 * j)) := by
  rw [show 2 * (j + 1) = 2 * j + 1 + 1 by omega]
  simp only [mixTo]
  rw [show (2 * j + 1) % 2 = 1 by omega, show 2 * j % 2 = 0 by omega]
  rfl

set_option maxHeartbeats 1600000 in
set_option maxRecDepth 100000 in
theorem rBlock_c (v1 v2 : Value) (key nonce : List UInt8) (ctr : Int) (w : World) (h1 : BSl w v1 key) (h2 : BSl w v2 nonce) :
    Calls Tryd.prog 63 #[v1, .int .u32 ctr, v2] w fun e w' => Told w key nonce (bk key ctr nonce) e w' := by
  by_cases hk : okSizes key nonce = true
  · have hk' : key.length = 32 ∧ nonce.length = 12 := by simpa [okSizes] using hk
    obtain ⟨b1, o1, c1, rfl, l1⟩ := h1.nonnil (by intro e; rw [e] at hk'; simp at hk')
    obtain ⟨b2, o2, c2, rfl, l2⟩ := h2.nonnil (by intro e; rw [e] at hk'; simp at hk')
    have hm1 : 32 ≤ c1 := by obtain ⟨_, _, e, h, _⟩ := h1; cases e; omega
    have hm2 : 12 ≤ c2 := by obtain ⟨_, _, e, h, _⟩ := h2; cases e; omega
    have hm3 : c1 ≤ 9223372036854775807 := by obtain ⟨_, _, e, _, h, _⟩ := h1; cases e; unfold maxLen at h; omega
    have hm4 : c2 ≤ 9223372036854775807 := by obtain ⟨_, _, e, _, h, _⟩ := h2; cases e; unfold maxLen at h; omega
    rw [hk'.1] at h1 ⊢
    rw [hk'.2] at h2 ⊢
    have HK := hidden hk
    have H1 := hidden h1
    have H2 := hidden h2
    have HL1 : Hid (key.length = 32) := hk'.1
    have HL2 : Hid (nonce.length = 12) := hk'.2
    clear h1 h2 hk hk'
    go_enter Tryd.func63, Tryd.ntmps63
    go_wp2_with fail
    change Code.wp _ _ _ _ (w.alloc (.cells (wcells base16).toArray 97))
    have hw1 : WB (w.alloc (.cells (wcells base16).toArray 97)) w.heap.size 97 base16 := heap_alloc_new w _
    have hb1 : Below w.heap.size w (w.alloc (.cells (wcells base16).toArray 97)) := (Below.refl _ w).alloc (Nat.le_refl _) _
    generalize w.alloc (.cells (wcells base16).toArray 97) = w1 at hw1 hb1 ⊢
    go_loopw [9] (fun i wr => ∃ j : Nat, j ≤ 8 ∧ i = .int .i64 (j : Int) ∧ WB wr w.heap.size 97 (putL base16 4 key j) ∧ Below w.heap.size w wr) (fun i _ => 8 - (intOf i).toNat)
    case atStart => exact ⟨0, by omega, by simp, hw1, hb1⟩
    case round =>
      clear hw1 hb1
      obtain ⟨j, hj, rfl, hw2, hb2⟩ := hrel
      by_cases hlt : j < 8
      · have hlt' : (j : Int) < 8 := by omega
        have c4 := hw2.cell (4 + j) (by rw [putL_length]; show 4 + j < 16; omega)
        have f4 := hw2.frozen (4 + j)
        have HW2 := hidden hw2
        have HB2 := hidden hb2
        clear hw2 hb2
        go_wp2_with fail
        refine (get_c b1 (o1 + 4 * j) _ _ (key.drop (4 * j)) (by rw [List.length_drop, HL1.out]; omega) (by rw [List.length_drop, HL1.out]) wr ((H1.out.fresh HB2.out).dropS (by omega))).mono ?_
        rintro e w3 ⟨rfl, hk3⟩
        rw [wordAt_drop]
        have c5 := hk3.cell c4 (fun h => h)
        have hw3 := HW2.out.keep hk3 (fun h => h)
        have f5 := hw3.frozen (4 + j)
        have HB3 := hidden (HB2.out.trans (hk3.below (B := w.heap.size) HB2.out.size (by intro k h; exact h.elim)))
        have HW3 := hidden hw3
        clear c4 f4 hk3 hw3
        go_wp2
        go_roundw
        case rel => exact ⟨j + 1, by omega, by go_num, HW3.out.set (4 + j) _, HB3.out.setCell (Nat.le_refl _) _⟩
        case measure => simp [intOf]; omega
      · have hlt' : ¬ (j : Int) < 8 := by omega
        obtain rfl : j = 8 := by omega
        have c12 := hw2.cell 12 (by rw [putL_length]; decide)
        have f12 := hw2.frozen 12
        have HW2 := hidden hw2
        have HB2 := hidden hb2
        clear hw2 hb2
        go_wp2_with fail
        have hw3 := HW2.out.set 12 ctr
        have hb3 : Below w.heap.size w (wr.setCell ⟨w.heap.size, 12, none⟩ (.int .u32 ctr)) := HB2.out.setCell (Nat.le_refl _) _
        generalize wr.setCell ⟨w.heap.size, 12, none⟩ (.int .u32 ctr) = w3 at hw3 hb3 ⊢
        have HX : Hid (((putL base16 4 key 8).set 12 ctr).length = 16) := by show _ = 16; rw [List.length_set, putL_length]; rfl
        have HIn : Hid (putL ((putL base16 4 key 8).set 12 ctr) 13 nonce 3 = initL key ctr nonce) := rfl
        clear c12 f12 HW2 HB2
        generalize (putL base16 4 key 8).set 12 ctr = X at hw3 HX HIn
        go_loopw [10] (fun i wr => ∃ j : Nat, j ≤ 3 ∧ i = .int .i64 (j : Int) ∧ WB wr w.heap.size 97 (putL X 13 nonce j) ∧ Below w.heap.size w wr) (fun i _ => 3 - (intOf i).toNat)
        case atStart => exact ⟨0, by omega, by simp, hw3, hb3⟩
        case round =>
          clear hw3 hb3
          obtain ⟨j, hj, rfl, hw2, hb2⟩ := hrel
          by_cases hlt : j < 3
          · have hlt' : (j : Int) < 3 := by omega
            have c4 := hw2.cell (13 + j) (by rw [putL_length, HX.out]; omega)
            have f4 := hw2.frozen (13 + j)
            have HW2 := hidden hw2
            have HB2 := hidden hb2
            clear hw2 hb2
            go_wp2_with fail
            refine (get_c b2 (o2 + 4 * j) _ _ (nonce.drop (4 * j)) (by rw [List.length_drop, HL2.out]; omega) (by rw [List.length_drop, HL2.out]) wr ((H2.out.fresh HB2.out).dropS (by omega))).mono ?_
            rintro e w3 ⟨rfl, hk3⟩
            rw [wordAt_drop]
            have c5 := hk3.cell c4 (fun h => h)
            have hw3 := HW2.out.keep hk3 (fun h => h)
            have f5 := hw3.frozen (13 + j)
            have HB3 := hidden (HB2.out.trans (hk3.below (B := w.heap.size) HB2.out.size (by intro k h; exact h.elim)))
            have HW3 := hidden hw3
            clear c4 f4 hk3 hw3
            go_wp2
            go_roundw
            case rel => exact ⟨j + 1, by omega, by go_num, HW3.out.set (13 + j) _, HB3.out.setCell (Nat.le_refl _) _⟩
            case measure => simp [intOf]; omega
          · have hlt' : ¬ (j : Int) < 3 := by omega
            obtain rfl : j = 3 := by omega
            rw [HIn.out] at hw2
            have hLl := initL_length key ctr nonce
            have HLl := hidden hLl
            have HBk : Hid (bk key ctr nonce = outB (mixTo (initL key ctr nonce) 20) (initL key ctr nonce) 16) := rfl
            generalize initL key ctr nonce = L at hw2 HLl HBk
            clear hLl
            have HS : Hid ((Tryd.prog.info? 97).map (·.size) = some (wcells L).toArray.size) := by
              show _ = _
              rw [show (wcells L).toArray.size = 16 by simp [wcells, HLl.out]]
              kernel_rfl
            have HAS : Hid (16 = (wcells L).toArray.size) := by simp [wcells, HLl.out, Hid]
            have HO : Hid ((wcells L).toArray.all (·.oneCell') = true) := by simp [wcells, Value.oneCell', Hid]
            have HW2 := hidden hw2
            have HB2 := hidden hb2
            clear hw2 hb2
            have hw4 : WB (wr.alloc (.cells (wcells L).toArray 97)) wr.heap.size 97 L := heap_alloc_new wr _
            have hs4 : WB (wr.alloc (.cells (wcells L).toArray 97)) w.heap.size 97 L := by
              unfold WB
              rw [Below.heap_alloc _ _ _ (lt_of_block HW2.out)]
              exact HW2.out
            have hb4 : Below w.heap.size w (wr.alloc (.cells (wcells L).toArray 97)) := HB2.out.alloc HB2.out.size _
            have HG : Hid (w.heap.size < wr.heap.size) := lt_of_block HW2.out
            generalize hAe : (wcells L).toArray = A at HS HO HAS hw4 hs4 hb4
            have hrow : wr.heap[w.heap.size]? = some (.cells A 97 (0, 0)) := by rw [← hAe]; exact HW2.out
            have HR := hidden hrow
            clear hAe hrow
            go_upto_region 15 with (first
              | (refine wpList_loadRow rfl 97 (.tmp 8) rfl w.heap.size A 97 (0, 0) 16 70 rfl HR.out Tryd.underlying97 HS.out ?_)
              | (refine wpList_store_row rfl 97 (.tmp 11) (.tmp 54) rfl wr.heap.size A rfl rfl 97 _ (heap_alloc_new wr _) HS.out HAS.out HO.out ?_))
            rw [World.setRow_alloc_new]
            generalize wr.alloc (.cells A 97) = w4 at hw4 hs4 hb4 ⊢
            generalize wr.heap.size = G at hw4 HG ⊢
            clear HW2 HB2 HR HS HAS HO
            go_wp2_with fail
            go_loopw [12] (fun i wr => ∃ j : Nat, j ≤ 10 ∧ i = .int .i64 (j : Int) ∧ WB wr G 97 (mixTo L (2 * j)) ∧ WB wr w.heap.size 97 L ∧ Below w.heap.size w wr) (fun i _ => 10 - (intOf i).toNat)
            case atStart => exact ⟨0, by omega, by simp, hw4, hs4, hb4⟩
            case round =>
              clear hw4 hs4 hb4
              obtain ⟨j, hj, rfl, hw5, hs5, hb5⟩ := hrel
              have HS5 := hidden hs5
              have HB5 := hidden hb5
              have hM : (mixTo L (2 * j)).length = 16 := by rw [mixTo_length]; exact HLl.out
              by_cases hlt : j < 10
              · have hlt' : (j : Int) < 10 := by omega
                have HDr : Hid (mixTo L (2 * (j + 1)) = drnd (mixTo L (2 * j))) := drnd_eq L j
                have HW0 := hidden hw5
                have HM0 := hidden hM
                have HK0 : Hid (Keeps (fun k => k = G) wr wr) := Keeps.refl _ _
                obtain ⟨M0, hM0⟩ : ∃ x, x = mixTo L (2 * j) := ⟨_, rfl⟩
                rw [← hM0] at HW0 HM0 HDr
                clear hw5 hs5 hb5 hM hM0
                obtain ⟨wx0, ewx0⟩ : ∃ x, x = wr := ⟨wr, rfl⟩
                rw [← ewx0] at HW0
                go_wp2_with fail
                refine (rquarter_c 0 4 8 12 G (by omega) (by omega) (by omega) (by omega) (by omega) (by omega) (by omega) M0 HM0.out wr (by rw [← ewx0]; exact HW0.out)).mono ?_
                rintro e wx1 ⟨rfl, hwx, hkx⟩
                have HW1 := hidden hwx
                have HK1 := hidden (HK0.out.trans hkx)
                have HM1 : Hid ((quarterAt M0 0 4 8 12).length = 16) := by show _ = 16; rw [quarterAt_length]; exact HM0.out
                clear hwx hkx
                go_wp2_with fail
                refine (rquarter_c 1 5 9 13 G (by omega) (by omega) (by omega) (by omega) (by omega) (by omega) (by omega) (quarterAt M0 0 4 8 12) HM1.out wx1 HW1.out).mono ?_
                rintro e wx2 ⟨rfl, hwx, hkx⟩
                have HW2 := hidden hwx
                have HK2 := hidden (HK1.out.trans hkx)
                have HM2 : Hid ((quarterAt (quarterAt M0 0 4 8 12) 1 5 9 13).length = 16) := by show _ = 16; rw [quarterAt_length]; exact HM1.out
                clear hwx hkx
                go_wp2_with fail
                refine (rquarter_c 2 6 10 14 G (by omega) (by omega) (by omega) (by omega) (by omega) (by omega) (by omega) (quarterAt (quarterAt M0 0 4 8 12) 1 5 9 13) HM2.out wx2 HW2.out).mono ?_
                rintro e wx3 ⟨rfl, hwx, hkx⟩
                have HW3 := hidden hwx
                have HK3 := hidden (HK2.out.trans hkx)
                have HM3 : Hid ((quarterAt (quarterAt (quarterAt M0 0 4 8 12) 1 5 9 13) 2 6 10 14).length = 16) := by show _ = 16; rw [quarterAt_length]; exact HM2.out
                clear hwx hkx
                go_wp2_with fail
                refine (rquarter_c 3 7 11 15 G (by omega) (by omega) (by omega) (by omega) (by omega) (by omega) (by omega) (quarterAt (quarterAt (quarterAt M0 0 4 8 12) 1 5 9 13) 2 6 10 14) HM3.out wx3 HW3.out).mono ?_
                rintro e wx4 ⟨rfl, hwx, hkx⟩
                have HW4 := hidden hwx
                have HK4 := hidden (HK3.out.trans hkx)
                have HM4 : Hid ((quarterAt (quarterAt (quarterAt (quarterAt M0 0 4 8 12) 1 5 9 13) 2 6 10 14) 3 7 11 15).length = 16) := by show _ = 16; rw [quarterAt_length]; exact HM3.out
                clear hwx hkx
                go_wp2_with fail
                refine (rquarter_c 0 5 10 15 G (by omega) (by omega) (by omega) (by omega) (by omega) (by omega) (by omega) (quarterAt (quarterAt (quarterAt (quarterAt M0 0 4 8 12) 1 5 9 13) 2 6 10 14) 3 7 11 15) HM4.out wx4 HW4.out).mono ?_
                rintro e wx5 ⟨rfl, hwx, hkx⟩
                have HW5 := hidden hwx
                have HK5 := hidden (HK4.out.trans hkx)
                have HM5 : Hid ((quarterAt (quarterAt (quarterAt (quarterAt (quarterAt M0 0 4 8 12) 1 5 9 13) 2 6 10 14) 3 7 11 15) 0 5 10 15).length = 16) := by show _ = 16; rw [quarterAt_length]; exact HM4.out
                clear hwx hkx
                go_wp2_with fail
                refine (rquarter_c 1 6 11 12 G (by omega) (by omega) (by omega) (by omega) (by omega) (by omega) (by omega) (quarterAt (quarterAt (quarterAt (quarterAt (quarterAt M0 0 4 8 12) 1 5 9 13) 2 6 10 14) 3 7 11 15) 0 5 10 15) HM5.out wx5 HW5.out).mono ?_
                rintro e wx6 ⟨rfl, hwx, hkx⟩
                have HW6 := hidden hwx
                have HK6 := hidden (HK5.out.trans hkx)
                have HM6 : Hid ((quarterAt (quarterAt (quarterAt (quarterAt (quarterAt (quarterAt M0 0 4 8 12) 1 5 9 13) 2 6 10 14) 3 7 11 15) 0 5 10 15) 1 6 11 12).length = 16) := by show _ = 16; rw [quarterAt_length]; exact HM5.out
                clear hwx hkx
                go_wp2_with fail
                refine (rquarter_c 2 7 8 13 G (by omega) (by omega) (by omega) (by omega) (by omega) (by omega) (by omega) (quarterAt (quarterAt (quarterAt (quarterAt (quarterAt (quarterAt M0 0 4 8 12) 1 5 9 13) 2 6 10 14) 3 7 11 15) 0 5 10 15) 1 6 11 12) HM6.out wx6 HW6.out).mono ?_
                rintro e wx7 ⟨rfl, hwx, hkx⟩
                have HW7 := hidden hwx
                have HK7 := hidden (HK6.out.trans hkx)
                have HM7 : Hid ((quarterAt (quarterAt (quarterAt (quarterAt (quarterAt (quarterAt (quarterAt M0 0 4 8 12) 1 5 9 13) 2 6 10 14) 3 7 11 15) 0 5 10 15) 1 6 11 12) 2 7 8 13).length = 16) := by show _ = 16; rw [quarterAt_length]; exact HM6.out
                clear hwx hkx
                go_wp2_with fail
                refine (rquarter_c 3 4 9 14 G (by omega) (by omega) (by omega) (by omega) (by omega) (by omega) (by omega) (quarterAt (quarterAt (quarterAt (quarterAt (quarterAt (quarterAt (quarterAt M0 0 4 8 12) 1 5 9 13) 2 6 10 14) 3 7 11 15) 0 5 10 15) 1 6 11 12) 2 7 8 13) HM7.out wx7 HW7.out).mono ?_
                rintro e wx8 ⟨rfl, hwx, hkx⟩
                have HW8 := hidden hwx
                have HK8 := hidden (HK7.out.trans hkx)
                have HM8 : Hid ((quarterAt (quarterAt (quarterAt (quarterAt (quarterAt (quarterAt (quarterAt (quarterAt M0 0 4 8 12) 1 5 9 13) 2 6 10 14) 3 7 11 15) 0 5 10 15) 1 6 11 12) 2 7 8 13) 3 4 9 14).length = 16) := by show _ = 16; rw [quarterAt_length]; exact HM7.out
                clear hwx hkx
                go_wp2
                go_roundw
                case rel =>
                  have hG := HG.out
                  refine ⟨j + 1, by omega, by go_num, ?_, HS5.out.keep HK8.out (by omega), HB5.out.trans (HK8.out.below (B := w.heap.size) HB5.out.size (by intro k e; omega))⟩
                  rw [HDr.out]
                  exact HW8.out
                case measure => simp [intOf]; omega
              · have hlt' : ¬ (j : Int) < 10 := by omega
                obtain rfl : j = 10 := by omega
                have HM := hidden hM
                have HW5 := hidden hw5
                rw [show 2 * 10 = 20 from rfl] at HM HW5
                generalize mixTo L 20 = M at HM HW5 HBk
                clear hw5 hs5 hb5 hM
                obtain ⟨i0, hi, hz0, hz1, hz2⟩ := info_parts Tryd.infoU8
                have HI := hidden hi
                have HZ0 := hidden hz0
                have HZ1 := hidden hz1
                have HZ2 := hidden hz2
                clear hi hz0 hz1 hz2
                go_wp2_with fail
                obtain ⟨wk, ewk⟩ : ∃ x, x = wr := ⟨wr, rfl⟩
                subst ewk
                go_loopw [13, 14] (fun out i wx => ∃ j : Nat, j ≤ 16 ∧ i = .int .i64 (j : Int) ∧ wx.ownsRow wk.heap.size 5 1 out (4 * j) (bcells (outB M L j)) ∧ Below wk.heap.size wk wx) (fun _ i _ => 16 - (intOf i).toNat)
                case atStart => exact ⟨0, by omega, by simp, World.ownsRow_nil _ _ _ _, Below.refl _ _⟩
                case round =>
                  obtain ⟨j, hj, rfl, ho6, hb6⟩ := hrel
                  by_cases hlt : j < 16
                  · have hlt' : (j : Int) < 16 := by omega
                    have hkk : Keeps (fun _ => False) wk wr := Keeps.ofFresh hb6
                    have cm := (HW5.out.keep hkk (fun h => h)).cell j (by rw [HM.out]; omega)
                    have cl := (HS5.out.keep hkk (fun h => h)).cell j (by rw [HLl.out]; omega)
                    have HNx : Hid (outB M L (j + 1) = outB M L j ++ wordB ((M.getD j 0 + L.getD j 0) % 4294967296)) := rfl
                    generalize M.getD j 0 = m at cm HNx
                    generalize L.getD j 0 = l at cl HNx
                    have HO6 := hidden ho6
                    have HB6 := hidden hb6
                    have hsz6 : wk.heap.size ≤ wr.heap.size := hb6.size
                    clear ho6 hb6 hkk
                    go_wp2_with fail
                    go_big_region
                    go_wp2_with (at_builtin; refine wpList_append_src _ rfl (.tmp 78) (.tmp 90) 22 22 rfl wk.heap.size 5 i0 _ 1 Tryd.underlying22 HI.out HZ0.out HZ1.out HZ2.out rfl _ _ _ rfl ((HO6.out.alloc _).drew) _ 4 (bcells (wordB ((m + l) % 4294967296))) rfl ?qs (by unfold maxLen; omega) (by omega) (by simp; omega) (wr.heap.size + 1) (by simp) ?_)
                    case qs => exact srcBlock (xs := wordB ((m + l) % 4294967296)) (by rw [wordB_cells]) (heap_alloc_new wr _)
                    intro v7 w7 ho7 hgr7 hnil7 hat7
                    have hb7 : Below wk.heap.size wk w7 := ((HB6.out.alloc hsz6 _).drew).grown hgr7 (by simp; omega) (fun k hk => (HO6.out.lt k hk).1)
                    have HO7 := hidden ho7
                    have HB7 := hidden hb7
                    clear ho7 hgr7 hnil7 hat7 hb7
                    go_wp2
                    go_roundw
                    case rel =>
                      refine ⟨j + 1, by omega, by go_num, ?_, HB7.out⟩
                      rw [HNx.out, bcells_append, show 4 * (j + 1) = 4 * j + 4 by omega]
                      exact HO7.out
                    case measure => simp [intOf]; omega
                  · have hlt' : ¬ (j : Int) < 16 := by omega
                    obtain rfl : j = 16 := by omega
                    rw [← HBk.out] at ho6
                    have HV := hidden (BSl.ofRow ho6)
                    have HLt := hidden ho6.lt
                    have HSz := hidden HB5.out.size
                    have HB7 := hidden (HB5.out.trans (hb6.mono HB5.out.size))
                    clear ho6 hb6
                    go_wp2
                    go_ret2
                    exact ⟨HB7.out, .inl ⟨HK.out, _, rfl, HV.out, fun g e => ⟨Nat.le_trans HSz.out (HLt.out g e).1, (HLt.out g e).2⟩⟩⟩
  · have HK : Hid (okSizes key nonce = false) := by simpa [Hid] using hk
    obtain ⟨a1, c1, rfl⟩ := h1.len
    obtain ⟨a2, c2, rfl⟩ := h2.len
    clear h1 h2
    by_cases hl : key.length = 32
    · have hl2 : nonce.length ≠ 12 := by intro e; simp [okSizes, hl, e] at hk
      rw [hl]
      have e2 : ((nonce.length : Int) == 12) = false := by simp; omega
      have e3 : ((nonce.length : Int) != 12) = true := by simp; omega
      generalize nonce.length = n at e2 e3 ⊢
      clear hk hl hl2
      go_enter Tryd.func63, Tryd.ntmps63
      go_wp2
      go_ret2
      exact ⟨Below.refl _ _, .inr ⟨HK.out, rfl⟩⟩
    · have e2 : ((key.length : Int) == 32) = false := by simp; omega
      have e3 : ((key.length : Int) != 32) = true := by simp; omega
      generalize key.length = n at e2 e3 ⊢
      clear hk hl
      go_enter Tryd.func63, Tryd.ntmps63
      go_wp2
      go_ret2
      exact ⟨Below.refl _ _, .inr ⟨HK.out, rfl⟩⟩
end Go.Proofs.YthkaibkmpenclaaDoor
