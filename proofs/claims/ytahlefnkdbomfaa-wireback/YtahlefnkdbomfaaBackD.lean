/- The walk of the law WireBack (under way: the writing half). -/
import Derived.Test.YtahlefnkdbomfaaBackR
import Derived.Deep.CutBlock
namespace Go.Proofs.Ytahlefnkdbomfaa
open Go Go.RowKit

set_option maxHeartbeats 3200000 in
set_option maxRecDepth 100000 in
theorem wireBack_c (v : Value) (ps : List PartD) (w : World) (hv : PSl w v ps) :
    Calls Try.prog 3 #[v] w fun e w' => e = .returned (.bool true) ∧ Below w.heap.size w w' := by
  obtain ⟨i0, hi, hz0, hz1, hz2⟩ := info_parts Try.infoStr
  have HV : Hid (PSl w v ps) := hv
  obtain ⟨ao, cap, rfl, hc1, hc2, h9⟩ := hv
  unfold maxLen at hc2
  clear h9
  go_enter Try.func3, Try.ntmps3
  go_wp2_with fail
  refine (newWriter_c _).mono ?_
  rintro e w1 ⟨rfl, rfl⟩
  have hw1 := WS.new w (Nat.le_refl _)
  have hb1 : Below w.heap.size w (w.alloc (.cells #[.slice none 0 0] 56)) := (Below.refl _ _).alloc (Nat.le_refl _) _
  generalize w.alloc (.cells #[.slice none 0 0] 56) = w1 at hw1 hb1 ⊢
  go_upto_block 0 with fail
  go_cut [4, 5, 6, 7] from 19 to 92 (fun _ _ _ _ wx => ∃ (k : Nat) (g : Option Nat), k ≤ ps.length ∧ k ≤ 20 ∧ (k = ps.length ∨ k = 20) ∧ ((ps.take k).flatMap piece).length ≤ k * 20000 ∧ WS wx w.heap.size w.heap.size g ((ps.take k).flatMap piece) ∧ Below w.heap.size w wx)
  case first =>
    go_wp2_with fail
    go_loopw [4] (fun i wr => ∃ (k : Nat) (g : Option Nat), k ≤ ps.length ∧ k ≤ 20 ∧ i = .int .i64 k ∧ ((ps.take k).flatMap piece).length ≤ k * 20000 ∧ WS wr w.heap.size w.heap.size g ((ps.take k).flatMap piece) ∧ Below w.heap.size w wr) (fun i _ => ps.length - (intOf i).toNat)
    case atStart => exact ⟨0, none, Nat.zero_le _, by omega, rfl, by simp, by simpa using hw1, hb1⟩
    case round =>
      clear hw1 hb1
      obtain ⟨k, g, hk, hk20, rfl, hlen, hws, hb⟩ := hrel
      by_cases hlt : k < ps.length
      · by_cases hlt8 : k < 20
        · obtain ⟨b, off, rfl, c0, c1, c2, c3, hn0, hn1, hss⟩ := (HV.out.fresh hb).at k hlt
          obtain ⟨pk, hpk⟩ : ∃ p, p = ps[k] := ⟨_, rfl⟩
          have HT : Hid ((ps.take (k + 1)).flatMap piece = (ps.take k).flatMap piece ++ piece pk) := by show _ = _; rw [List.take_succ_eq_append_getElem hlt, List.flatMap_append, hpk, List.flatMap_cons, List.flatMap_nil, List.append_nil]
          rw [← hpk] at c0 c1 c2 c3 hn0 hn1 hss
          clear hpk
          obtain ⟨kk, n, s, l, ss⟩ := pk
          simp only at c0 c1 c2 c3 hn0 hn1 hss
          obtain ⟨lo, lc, rfl, _⟩ := id hss
          have h30 : (k : Int) < 20 := by omega
          generalize (ps.take k).flatMap piece = bs at *
          obtain ⟨bs2, hbs2⟩ : ∃ b, b = (ps.take (k + 1)).flatMap piece := ⟨_, rfl⟩
          rw [← hbs2] at HT
          have HBS2 := hid_b hbs2
          clear hbs2
          go_wp2_with fail
          refine (short_c kk n s _ ss wr hss).mono ?_
          rintro e w2 ⟨l2, rfl, hl2, hlb2, hb2⟩
          have HWS2 := hid_b (hws.keep (S := fun _ => False) (Keeps.ofFresh hb2) (fun h => h) (fun _ _ h => h))
          have hs2 : (s.extract 0 200).size ≤ 200 := by simp; omega
          unfold piece at HT
          simp only at HT
          generalize s.extract 0 200 = s2 at hs2 HT ⊢
          have HB2 := hid_b (hb.trans (hb2.mono hb.size))
          have HLB := hid_b hlb2
          have HL2 := hid_b hl2
          obtain ⟨lo2, lc2, rfl, hq1, hq2, _⟩ := hl2
          have hfl := few_len ss
          clear hss c0 c1 c2 c3 hws hb hb2 hlb2
          unfold part
          go_wp2_with fail
          have HBX := hid_b (heap_alloc_new w2 (.cells #[.int .i64 kk, .int .u64 n, .string s2, .slice lo2 (few ss).length lc2] 28))
          have HW3 := hid_b (HWS2.out.alloc (.cells #[.int .i64 kk, .int .u64 n, .string s2, .slice lo2 (few ss).length lc2] 28))
          have HL3 := hid_b (HL2.out.fresh ((Below.refl _ w2).alloc (Nat.le_refl _) (.cells #[.int .i64 kk, .int .u64 n, .string s2, .slice lo2 (few ss).length lc2] 28)))
          have HB3 := hid_b (HB2.out.alloc HB2.out.size (.cells #[.int .i64 kk, .int .u64 n, .string s2, .slice lo2 (few ss).length lc2] 28))
          have HBA : Hid (w.heap.size < w2.heap.size) := HWS2.out.lt
          have HGB : Hid (∀ k, g = some k → k < w2.heap.size) := fun k hk => (HWS2.out.rowLt k hk).2
          unfold nms at HT
          generalize w2.alloc (.cells #[.int .i64 kk, .int .u64 n, .string s2, .slice lo2 (few ss).length lc2] 28) = w3 at *
          have HLT3 := hid_b (lt_of_block HBX.out)
          generalize w2.heap.size = B at *
          have hj8 : ∀ s ∈ few ss, s.size ≤ 1000 := by
            intro s hs
            obtain ⟨x, _, rfl⟩ := List.mem_map.1 hs
            simp; omega
          have HJ := hid_b hj8
          generalize few ss = fs at *
          clear HL2 HLB HWS2 HB2 hj8
          go_loopw [6, 7] (fun o i wq => ∃ j : Nat, j ≤ fs.length ∧ i = .int .i64 j ∧ wq.ownsRow w3.heap.size 9 1 o ((fs.take j).filter okS).length (((fs.take j).filter okS).map Value.string) ∧ Below w3.heap.size w3 wq) (fun _ i _ => fs.length - (intOf i).toNat)
          case atStart => exact ⟨0, Nat.zero_le _, rfl, World.ownsRow_nil _ _ _ _, Below.refl _ _⟩
          case round =>
            obtain ⟨w9, ew⟩ : ∃ x, x = wr := ⟨wr, rfl⟩
            subst ew
            obtain ⟨j, hj, rfl, ho, hb⟩ := hrel
            have HB9 := hid_b hb
            have hbx : w9.heap[B]? = _ := ((Keeps.ofFresh (S := fun _ => False) hb).block B HLT3.out (fun h => h)).trans HBX.out
            obtain ⟨c1, c2, c3⟩ := box4 hbx
            have HBX9 := hid_b hbx
            clear hb hbx
            by_cases hjl : j < fs.length
            · have hjl' : (j : Int) < (fs.length : Int) := by omega
              have HL9 := hid_b (HL3.out.fresh HB9.out)
              obtain ⟨b2, o2, rfl⟩ := SSl.addr HL9.out (by rintro rfl; simp at hjl)
              have hcell := HL9.out.cellAt j hjl
              have HF : Hid (fs.take (j + 1) = fs.take j ++ [fs[j]]) := List.take_succ_eq_append_getElem hjl
              have hfj : fs[j].size ≤ 1000 := HJ.out _ (List.getElem_mem hjl)
              have hfl9 : ((fs.take j).filter okS).length ≤ 8 := by have := List.length_filter_le okS (fs.take j); simp at this; omega
              generalize fs[j] = fj at *
              clear c1 c2
              go_wp2_with fail
              refine (right_c fj (by omega) _).mono ?_
              rintro e w10 ⟨rfl, rfl⟩
              by_cases hr : okName fj.data.toList = true
              · rw [hr]
                have hsrc := srcStr (heap_alloc_new w10 (.cells #[.string fj] 9))
                have hs9 := HB9.out.size
                go_wp2_with (at_builtin; go_loud (refine wpList_append_src _ rfl (.tmp 47) (.tmp 53) 26 26 rfl w3.heap.size 9 i0 _ 16 Try.underlying26 hi hz0 hz1 hz2 rfl _ _ _ rfl (ho.alloc _) _ 1 _ rfl hsrc (by unfold maxLen; omega) (by omega) (by simp; omega) (w10.heap.size + 1) (by simp) ?_))
                intro v1 w11 ho1 hgrow1 hnil1 hat1
                have hb11 : Below w3.heap.size w3 w11 := (HB9.out.alloc hs9 _).grown hgrow1 (by simp; omega) (fun k hk => (ho.lt k hk).1)
                clear hgrow1 hnil1 hat1 hsrc
                go_wp2
                go_roundw
                case rel => exact ⟨j + 1, by omega, by go_num, by rw [HF.out]; simpa [List.filter_append, okS, hr] using ho1, hb11⟩
                case measure => simp [intOf]; omega
              · have hr' : okName fj.data.toList = false := by simpa using hr
                rw [hr']
                go_wp2
                go_roundw
                case rel => exact ⟨j + 1, by omega, by go_num, by rw [HF.out]; simpa [List.filter_append, okS, hr'] using ho, HB9.out⟩
                case measure => simp [intOf]; omega
            · obtain rfl : j = fs.length := by omega
              have hjl' : ¬ (fs.length : Int) < (fs.length : Int) := by omega
              rw [List.take_length] at ho
              have HBS : Hid (Beside w9 w.heap.size B g (.cells #[.int .i64 kk, .int .u64 n, .string s2, .slice lo2 fs.length lc2] 28) u6 (fs.filter okS)) :=
                ⟨HBX9.out, by have := HBA.out; omega, fun e => by have := HGB.out _ e; omega, SSl.ofRow ho, fun k hk => (ho.lt k hk).2, fun e => by have h1 := (ho.lt _ e).1; have h2 := HBA.out; have h3 := HLT3.out; omega, fun k hk e => by have h1 := (ho.lt _ e).1; have h2 := HGB.out k hk; have h3 := HLT3.out; omega⟩
              have HW9 := hid_b (HW3.out.keep (S := fun _ => False) (Keeps.ofFresh HB9.out) (fun h => h) (fun _ _ h => h))
              have HB9' := hid_b (HB3.out.trans (HB9.out.mono HB3.out.size))
              have hml : (fs.filter okS).length ≤ 8 := by have := List.length_filter_le okS fs; omega
              obtain ⟨mo, mc, rfl⟩ := ownsRow_shape ho
              clear ho HB9 HBX9 HB3 HW3 HBX HBA HGB HLT3 HL3
              go_wp2_with fail
              have HS0 := HBS
              have HB0 := HB9'
              have HW0 := HW9
              clear HBS HB9' HW9 c1 c2 c3
              have hcv := run_bytes s2
              have hbl : bs.length ≤ 400000 := by omega
              have hsz : s2.data.toList.length = s2.size := by rw [Array.length_toList]; rfl
              have hjn := joined_ok hml
              have hmp := mp_len s2.data.toList
              refine (byte_c (n % 256) _ HW0.out (by omega)).mono ?_
              rintro e x1 ⟨rfl, g1, hw, hwr⟩
              have HS1 := hid_b (HS0.out.next hwr)
              have HB1 := hid_b (HB0.out.trans (hwr.below HW0.out))
              have HW1 := hid_b hw
              clear hw hwr HS0 HB0 HW0
              obtain ⟨c1, c2, c3⟩ := box4 HS1.out.box
              go_wp2_with fail
              clear c1 c2 c3
              refine (u32_c (n % 4294967296) (by omega) (by omega) _ HW1.out (by simp; omega)).mono ?_
              rintro e x2 ⟨rfl, g2, hw, hwr⟩
              have HS2 := hid_b (HS1.out.next hwr)
              have HB2 := hid_b (HB1.out.trans (hwr.below HW1.out))
              have HW2 := hid_b hw
              clear hw hwr HS1 HB1 HW1
              obtain ⟨c1, c2, c3⟩ := box4 HS2.out.box
              go_wp2_with fail
              clear c1 c2 c3
              refine (u64_c n hn0 hn1 _ HW2.out (by simp [be_length]; omega)).mono ?_
              rintro e x3 ⟨rfl, g3, hw, hwr⟩
              have HS3 := hid_b (HS2.out.next hwr)
              have HB3 := hid_b (HB2.out.trans (hwr.below HW2.out))
              have HW3 := hid_b hw
              clear hw hwr HS2 HB2 HW2
              obtain ⟨c1, c2, c3⟩ := box4 HS3.out.box
              go_wp2_with fail
              clear c1 c2 c3
              refine (text_c s2 (by omega) _ HW3.out (by simp [be_length]; omega)).mono ?_
              rintro e x4 ⟨rfl, g4, hw, hwr⟩
              have HS4 := hid_b (HS3.out.next hwr)
              have HB4 := hid_b (HB3.out.trans (hwr.below HW3.out))
              have HW4 := hid_b hw
              clear hw hwr HS3 HB3 HW3
              obtain ⟨c1, c2, c3⟩ := box4 HS4.out.box
              go_wp2_with fail
              clear c1 c2 c3
              have HZ5 := hid_b (bytesW_below x4 s2)
              have HY5 := hid_b (HW4.out.keep (S := fun _ => False) (Keeps.ofFresh HZ5.out) (fun h => h) (fun _ _ h => h))
              refine (mpint_c _ s2.data.toList (by omega) _ (bytes_bsl _ s2 (by omega)) HY5.out (bytes_apart HW4.out) (by simp [be_length, textBytes]; omega)).mono ?_
              rintro e x5 ⟨rfl, g5, hw, hwr⟩
              have HS5 := hid_b ((HS4.out.fresh HZ5.out).next hwr)
              have HB5 := hid_b ((HB4.out.trans (HZ5.out.mono HB4.out.size)).trans (hwr.below HY5.out))
              have HW5 := hid_b hw
              clear hw hwr HS4 HB4 HZ5 HY5 HW4
              obtain ⟨c1, c2, c3⟩ := box4 HS5.out.box
              go_wp2_with fail
              clear c1 c2 c3
              refine (names_c _ _ _ HS5.out.names (by omega) (by omega) HW5.out (by simp [be_length, textBytes]; omega)).mono ?_
              rintro e x6 ⟨rfl, g6, hw, hwr⟩
              have HS6 := hid_b (HS5.out.next hwr)
              have HB6 := hid_b (HB5.out.trans (hwr.below HW5.out))
              have HW6 := hid_b hw
              clear hw hwr HS5 HB5 HW5
              obtain ⟨c1, c2, c3⟩ := box4 HS6.out.box
              go_wp2_with fail
              clear c1 c2 c3
              refine (bool_c (n % 2 == 1) _ HW6.out (by simp [be_length, textBytes]; omega)).mono ?_
              rintro e x7 ⟨rfl, g7, hw, hwr⟩
              have HS7 := hid_b (HS6.out.next hwr)
              have HB7 := hid_b (HB6.out.trans (hwr.below HW6.out))
              have HW7 := hid_b hw
              clear hw hwr HS6 HB6 HW6
              obtain ⟨c1, c2, c3⟩ := box4 HS7.out.box
              go_wp2_with fail
              clear c1 c2 c3
              have HZ8 := hid_b (bytesW_below x7 s2)
              have HY8 := hid_b (HW7.out.keep (S := fun _ => False) (Keeps.ofFresh HZ8.out) (fun h => h) (fun _ _ h => h))
              refine (raw_c _ s2.data.toList _ (bytes_bsl _ s2 (by omega)) HY8.out (by simp [be_length, textBytes]; omega)).mono ?_
              rintro e x8 ⟨rfl, g8, hw, hwr⟩
              have HS8 := hid_b ((HS7.out.fresh HZ8.out).next hwr)
              have HB8 := hid_b ((HB7.out.trans (HZ8.out.mono HB7.out.size)).trans (hwr.below HY8.out))
              have HW8 := hid_b hw
              clear hw hwr HS7 HB7 HZ8 HY8 HW7
              have HTT : Hid (bs2 = _) := HT
              go_wp2
              go_roundw
              case rel =>
                refine ⟨k + 1, g8, by omega, by omega, by go_num, ?_, ?_, HB8.out⟩
                · rw [← HBS2.out, HTT.out]; simp [be_length, textBytes]; omega
                · rw [← HBS2.out, HTT.out]; simpa using HW8.out
              case measure => simp [intOf]; omega
        · have h30 : ¬ (k : Int) < 20 := by omega
          go_wp2_with fail
          go_meet
          case rel => exact ⟨k, g, hk, hk20, Or.inr (by omega), hlen, hws, hb⟩
      · have h30 : ¬ (k : Int) < (ps.length : Int) := by omega
        go_wp2_with fail
        go_meet
        case rel => exact ⟨k, g, hk, hk20, Or.inl (by omega), hlen, hws, hb⟩
  case rest =>
    clear hw1 hb1
    obtain ⟨k, g, hk, hk20, hor, hlen, hws, hb⟩ := hcut
    have HOR := hid_b hor
    clear hor
    obtain ⟨BS, hBS⟩ : ∃ b, (ps.take k).flatMap piece = b := ⟨_, rfl⟩
    rw [hBS] at hws hlen
    have HBS := hid_b hBS
    clear hBS
    go_wp2_with fail
    refine (done_c _ hws (by omega)).mono ?_
    rintro e w2 ⟨v2, rfl, ho2, hb2⟩
    have HB2 := hid_b (hb.trans (hb2.mono hb.size))
    clear hws hb hb2
    go_wp2_with fail
    refine (newReader_d v2 BS _ (BSl.ofRow ho2) (by omega)).mono ?_
    rintro e w3 ⟨a, gr, rfl, hr3, ha3, hg3, hb3⟩
    have HB3 := hid_b (HB2.out.trans (hb3.mono HB2.out.size))
    have HA : Hid (w.heap.size ≤ a) := Nat.le_trans HB2.out.size ha3
    clear hb3 HB2 ha3 hg3 ho2
    go_wp2_with fail
    go_loopw [9] (fun i wq => ∃ j : Nat, j ≤ k ∧ i = .int .i64 j ∧ WR wq a gr BS ((ps.take j).flatMap piece).length 0 ∧ Below w.heap.size w wq) (fun i _ => ps.length - (intOf i).toNat)
    case atStart => exact ⟨0, Nat.zero_le _, rfl, by simpa using hr3, HB3.out⟩
    case round =>
      clear hr3 HB3
      obtain ⟨j, hj, rfl, hr, hb⟩ := hrel
      by_cases hjk : j < k
      · have hjp : j < ps.length := by omega
        have hjp' : (j : Int) < (ps.length : Int) := by omega
        obtain ⟨b, off, rfl, c0, c1, c2, c3, hn0, hn1, hss⟩ := (HV.out.fresh hb).at j hjp
        obtain ⟨pk, hpk⟩ : ∃ p, p = ps[j] := ⟨_, rfl⟩
        have HAT : Hid (At BS ((ps.take j).flatMap piece).length (piece pk)) := by
          show At _ _ _
          rw [← HBS.out]
          refine ⟨(ps.take j).flatMap piece, ((ps.take k).drop (j + 1)).flatMap piece, ?_, rfl⟩
          have h1 : ps.take k = ps.take j ++ (pk :: (ps.take k).drop (j + 1)) := by
            have h2 : j < (ps.take k).length := by simp; omega
            have h3 : (ps.take k)[j] = pk := by rw [List.getElem_take, hpk]
            have h4 := List.take_append_drop j (ps.take k)
            rw [List.take_take, Nat.min_eq_left (by omega), List.drop_eq_getElem_cons h2, h3] at h4
            exact h4.symm
          have h5 := congrArg (List.flatMap piece) h1
          rw [List.flatMap_append, List.flatMap_cons] at h5
          exact h5
        have HT : Hid (((ps.take (j + 1)).flatMap piece).length = ((ps.take j).flatMap piece).length + (piece pk).length) := by show _ = _; rw [List.take_succ_eq_append_getElem hjp, List.flatMap_append, hpk, List.flatMap_cons, List.flatMap_nil, List.append_nil, List.length_append]
        rw [← hpk] at c0 c1 c2 c3 hn0 hn1 hss
        clear hpk
        obtain ⟨kk, n, s, l, ss⟩ := pk
        simp only at c0 c1 c2 c3 hn0 hn1 hss
        obtain ⟨lo, lc, rfl, _⟩ := id hss
        have hj20 : (j : Int) < 20 := by omega
        obtain ⟨p, hp⟩ : ∃ p, p = ((ps.take j).flatMap piece).length := ⟨_, rfl⟩
        obtain ⟨p2, hp2⟩ : ∃ p, p = ((ps.take (j + 1)).flatMap piece).length := ⟨_, rfl⟩
        rw [← hp] at hr HAT HT
        rw [← hp2] at HT
        have HP2 := hid_b hp2
        clear hp hp2
        have HR0 := hid_b hr
        have HB0 := hid_b hb
        clear hr
        go_wp2_with fail
        refine (short_c kk n s _ ss wr hss).mono ?_
        rintro e w2 ⟨l2, rfl, hl2, hlb2, hb2⟩
        have HR2 := hid_b (HR0.out.keep (S := fun _ => False) (Keeps.ofFresh hb2) (fun h => h) (fun _ _ h => h))
        have hs2 : (s.extract 0 200).size ≤ 200 := by simp; omega
        unfold piece at HT HAT
        simp only at HT HAT
        generalize s.extract 0 200 = s2 at hs2 HT HAT ⊢
        have HB2 := hid_b (hb.trans (hb2.mono hb.size))
        have HL2 := hid_b hl2
        obtain ⟨lo2, lc2, rfl, hq1, hq2, _⟩ := hl2
        have hfl := few_len ss
        clear hss c0 c1 c2 c3 hb hb2 hlb2 HB0 HR0
        unfold part
        go_wp2_with fail
        have HBX := hid_b (heap_alloc_new w2 (.cells #[.int .i64 kk, .int .u64 n, .string s2, .slice lo2 (few ss).length lc2] 28))
        have HR3 := hid_b (HR2.out.same ((Keeps.refl _ w2).alloc (.cells #[.int .i64 kk, .int .u64 n, .string s2, .slice lo2 (few ss).length lc2] 28)))
        have HL3 := hid_b (HL2.out.fresh ((Below.refl _ w2).alloc (Nat.le_refl _) (.cells #[.int .i64 kk, .int .u64 n, .string s2, .slice lo2 (few ss).length lc2] 28)))
        have HB3 := hid_b (HB2.out.alloc HB2.out.size (.cells #[.int .i64 kk, .int .u64 n, .string s2, .slice lo2 (few ss).length lc2] 28))
        have HBA : Hid (a < w2.heap.size) := HR2.out.lt
        unfold nms at HT HAT
        generalize w2.alloc (.cells #[.int .i64 kk, .int .u64 n, .string s2, .slice lo2 (few ss).length lc2] 28) = w3 at *
        have HLT3 := hid_b (lt_of_block HBX.out)
        generalize w2.heap.size = B at *
        have hj8 : ∀ s ∈ few ss, s.size ≤ 1000 := by
          intro s hs
          obtain ⟨x, _, rfl⟩ := List.mem_map.1 hs
          simp; omega
        have HJ := hid_b hj8
        generalize few ss = fs at *
        clear HL2 HR2 HB2 hj8
        go_loopw [11, 12] (fun o i wq => ∃ j : Nat, j ≤ fs.length ∧ i = .int .i64 j ∧ wq.ownsRow w3.heap.size 9 1 o ((fs.take j).filter okS).length (((fs.take j).filter okS).map Value.string) ∧ Below w3.heap.size w3 wq) (fun _ i _ => fs.length - (intOf i).toNat)
        case atStart => exact ⟨0, Nat.zero_le _, rfl, World.ownsRow_nil _ _ _ _, Below.refl _ _⟩
        case round =>
          obtain ⟨w9, ew⟩ : ∃ x, x = wr := ⟨wr, rfl⟩
          subst ew
          obtain ⟨i, hi', rfl, ho, hb⟩ := hrel
          have HB9 := hid_b hb
          have hbx : w9.heap[B]? = _ := ((Keeps.ofFresh (S := fun _ => False) hb).block B HLT3.out (fun h => h)).trans HBX.out
          obtain ⟨c1, c2, c3⟩ := box4 hbx
          have HBX9 := hid_b hbx
          clear hb hbx
          by_cases hjl : i < fs.length
          · have hjl' : (i : Int) < (fs.length : Int) := by omega
            have HL9 := hid_b (HL3.out.fresh HB9.out)
            obtain ⟨b2, o2, rfl⟩ := SSl.addr HL9.out (by rintro rfl; simp at hjl)
            have hcell := HL9.out.cellAt i hjl
            have HF : Hid (fs.take (i + 1) = fs.take i ++ [fs[i]]) := List.take_succ_eq_append_getElem hjl
            have hfj : fs[i].size ≤ 1000 := HJ.out _ (List.getElem_mem hjl)
            have hfl9 : ((fs.take i).filter okS).length ≤ 8 := by have := List.length_filter_le okS (fs.take i); simp at this; omega
            generalize fs[i] = fj at *
            clear c1 c2
            go_wp2_with fail
            refine (right_c fj (by omega) _).mono ?_
            rintro e w10 ⟨rfl, rfl⟩
            by_cases hr : okName fj.data.toList = true
            · rw [hr]
              have hsrc := srcStr (heap_alloc_new w10 (.cells #[.string fj] 9))
              have hs9 := HB9.out.size
              go_wp2_with (at_builtin; go_loud (refine wpList_append_src _ rfl (.tmp 126) (.tmp 132) 26 26 rfl w3.heap.size 9 i0 _ 16 Try.underlying26 hi hz0 hz1 hz2 rfl _ _ _ rfl (ho.alloc _) _ 1 _ rfl hsrc (by unfold maxLen; omega) (by omega) (by simp; omega) (w10.heap.size + 1) (by simp) ?_))
              intro v1 w11 ho1 hgrow1 hnil1 hat1
              have hb11 : Below w3.heap.size w3 w11 := (HB9.out.alloc hs9 _).grown hgrow1 (by simp; omega) (fun k hk => (ho.lt k hk).1)
              clear hgrow1 hnil1 hat1 hsrc
              go_wp2
              go_roundw
              case rel => exact ⟨i + 1, by omega, by go_num, by rw [HF.out]; simpa [List.filter_append, okS, hr] using ho1, hb11⟩
              case measure => simp [intOf]; omega
            · have hr' : okName fj.data.toList = false := by simpa using hr
              rw [hr']
              go_wp2
              go_roundw
              case rel => exact ⟨i + 1, by omega, by go_num, by rw [HF.out]; simpa [List.filter_append, okS, hr'] using ho, HB9.out⟩
              case measure => simp [intOf]; omega
          · obtain rfl : i = fs.length := by omega
            have hjl' : ¬ (fs.length : Int) < (fs.length : Int) := by omega
            rw [List.take_length] at ho
            have HR9 := hid_b (HR3.out.keep (S := fun _ => False) (Keeps.ofFresh HB9.out) (fun h => h) (fun _ _ h => h))
            have HB9' := hid_b (HB3.out.trans (HB9.out.mono HB3.out.size))
            have HNM := hid_b (SSl.ofRow ho)
            have hml : (fs.filter okS).length ≤ 8 := by have := List.length_filter_le okS fs; omega
            have hcv := run_bytes s2
            obtain ⟨mo, mc, rfl⟩ := ownsRow_shape ho
            have HNA : Hid ((Value.slice mo (fs.filter okS).length mc).ownBlock ≠ some a) := by
              intro e
              have h1 := (ho.lt _ e).1
              have h2 := HBA.out
              have h3 := HLT3.out
              omega
            have HVN : Hid ((bytesV w9 s2).ownBlock ≠ some a) := bytesV_new (HR9.out.lt)
            clear ho HB9 HB3 HR3 HBX HLT3 HL3
            go_upto_block 8 with fail
            clear hcv
            have HV0 := hid_b (bytes_bsl w9 s2 (by omega))
            have HWB := hid_b (bytesW_below w9 s2)
            have hsz : s2.data.toList.length = s2.size := by rw [Array.length_toList]; rfl
            generalize bytesV w9 s2 = vb at *
            generalize bytesW w9 s2 = wb at *
            go_cut [13] from 137 to 147 (fun v wx => ∃ T : List UInt8, BSl wb v T ∧ bare s2.data.toList = T ∧ T.length ≤ 200 ∧ wx = wb ∧ v.ownBlock ≠ some a)
            case first =>
              go_wp2_with fail
              go_loopw [13] (fun v wq => ∃ t : List UInt8, BSl wb v t ∧ bare t = bare s2.data.toList ∧ t.length ≤ 200 ∧ wq = wb ∧ v.ownBlock ≠ some a) (fun v _ => sliceLen v)
              case atStart => exact ⟨s2.data.toList, HV0.out, rfl, by omega, rfl, HVN.out⟩
              case round =>
                clear HV0
                obtain ⟨t, hy, hbt, hyl, hwq, hva⟩ := hrel
                subst hwq
                have HY := hid_b hy
                have HT2 := hid_b hbt
                have HVA := hid_b hva
                clear hbt hva
                cases t with
                | nil =>
                  obtain ⟨ao', cap', rfl⟩ := hy.nil
                  clear hy
                  have htb : bare s2.data.toList = [] := by rw [← HT2.out]; rfl
                  have HTB := hid_b htb
                  clear htb
                  go_wp2_with fail
                  go_meet
                  case rel => exact ⟨[], HY.out, HTB.out, by simp, rfl, HVA.out⟩
                | cons y ys =>
                  obtain ⟨b3, off3, cap3, rfl, hd1, hd2, hob⟩ := hy.cons
                  clear hy hob
                  have hh0 := HY.out.head
                  simp only [List.length_cons] at hyl hd1
                  unfold maxLen at hd2
                  by_cases hy0 : y = 0
                  · subst hy0
                    go_wp2_with fail
                    go_roundw
                    case rel => exact ⟨ys, HY.out.tail.1, by rw [← HT2.out]; simp [bare], by omega, trivial, by rw [HY.out.tail.2]; simpa [Value.ownBlock] using HVA.out⟩
                    case measure => simp [sliceLen]
                  · have hy1 : ((y.toNat : Int) == 0) = false := by
                      have : y.toNat ≠ 0 := fun h => hy0 (UInt8.toNat_inj.1 h)
                      simp [this]
                    have htb : bare s2.data.toList = y :: ys := by rw [← HT2.out]; simp [bare, hy0]
                    have HTB := hid_b htb
                    have HYL := hid_b hyl
                    clear htb
                    go_wp2_with fail
                    go_meet
                    case rel => exact ⟨y :: ys, HY.out, HTB.out, by simpa using HYL.out, rfl, HVA.out⟩
            case rest =>
              obtain ⟨T, hy, htb, hTl, hwc, hva⟩ := hcut
              obtain ⟨ta, tc, e13⟩ : ∃ ta tc, u13 = .slice ta T.length tc := by obtain ⟨ao, cap, e, _⟩ := hy; exact ⟨ao, cap, e⟩
              rw [e13] at hy hva ⊢
              clear e13
              rw [← hwc] at hy HWB
              obtain ⟨tl, htl⟩ : ∃ tl, tl = T.length := ⟨_, rfl⟩
              rw [← htl] at hy hva hTl ⊢
              have HY := hid_b hy
              have HVA := hid_b hva
              clear hy hva htl HV0 HVN hwc
              go_wp2_with fail
              have hrb : RB w wc.drew a B gr BS p n s2 (Value.slice ta tl tc) T (.slice mo (fs.filter okS).length mc) (fs.filter okS) := by
                refine RB.drew ⟨HR9.out.keep (S := fun _ => False) (Keeps.ofFresh HWB.out) (fun h => h) (fun _ _ h => h), (Keeps.ofFresh (S := fun _ => False) HWB.out).cell c1 (fun h => h), (Keeps.ofFresh (S := fun _ => False) HWB.out).cell c2 (fun h => h), by have := HBA.out; omega, HY.out, HVA.out, HNM.out.fresh HWB.out, HNA.out, HA.out, HB9'.out.trans (HWB.out.mono HB9'.out.size)⟩
              obtain ⟨hat1, hat2, hat3, hat4, hat5, hat6, hat7, hat8⟩ := pieces HAT.out
              have HAT1 := hid_b hat1
              have HAT2 := hid_b hat2
              have HAT3 := hid_b hat3
              have HAT4 := hid_b hat4
              have HAT5 := hid_b hat5
              have HAT6 := hid_b hat6
              have HAT7 := hid_b hat7
              have HAT8 := hid_b hat8
              have HJL : Hid ((joined (fs.filter okS)).length ≤ 1000) := by have := joined_ok hml; show _ ≤ _; omega
              have HJO : Hid (∀ s ∈ fs.filter okS, okName s.data.toList = true) := fun s hs => (List.mem_filter.1 hs).2
              have HPOS : Hid (((ps.take (j + 1)).flatMap piece).length = p + 1 + 4 + 8 + (textBytes s2.data.toList).length + (mpBytes s2.data.toList).length + (textBytes (joined (fs.filter okS))).length + 1 + s2.size) := by
                have h1 := HT.out
                have h2 := HP2.out
                have h3 := str_len s2
                simp only [List.length_append, List.length_cons, List.length_nil, be_length] at h1
                show _ = _
                omega
              have HTB := hid_b htb
              have ht256 : n.tmod 256 = n % 256 := Int.tmod_eq_emod_of_nonneg hn0
              have ht2 : n.tmod 2 = n % 2 := Int.tmod_eq_emod_of_nonneg hn0
              have hw256 : IntKind.i64.wrap (n % 256) = n % 256 := by rw [IntKind.wrap_i64]; omega
              have hw32 : IntKind.u32.wrap n = n % 4294967296 := by rw [IntKind.wrap_u32]
              have hcA : cvA = Op.convert 37 9 (.tmp 182) := rfl
              have hcB : cvB = Op.convert 37 9 (.tmp 209) := rfl
              clear hat1 hat2 hat3 hat4 hat5 hat6 hat7 hat8 HAT HT HP2 c1 c2 c3 HY HVA HNM HR9 HBX9 htb
              try simp only [List.append_eq, List.cons_append, List.nil_append]
              rw [show (Op.convert 37 9 (.tmp 182)) = cvA from rfl, show (Op.convert 37 9 (.tmp 209)) = cvB from rfl]
              go_region_held3 (fun w' => w'.cell? ⟨B, 1, none⟩ = some (.int .u64 n) ∧ w'.cell? ⟨B, 2, none⟩ = some (.string s2) ∧ (convert 37 9 (Value.slice ta tl tc)).run Try.prog w' = .ok (.string ⟨T.toArray⟩) w')
                (exact RB.held hrb)
                (first | (go_at_call 17; refine (hrb.byte HAT1.out).mono ?_; rintro e w41 ⟨rfl, hrb⟩) | (go_at_call 18; refine (hrb.u32 HAT2.out).mono ?_; rintro e w42 ⟨rfl, hrb⟩) | (go_at_call 19; refine (hrb.u64 hn0 hn1 HAT3.out).mono ?_; rintro e w43 ⟨rfl, hrb⟩) | (go_at_call 20; refine (hrb.text hs2 HAT4.out).mono ?_; rintro e w44 ⟨rfl, hrb⟩) | (go_at_call 21; refine (hrb.mpint hs2 HTB.out HAT5.out).mono ?_; rintro e w45 ⟨ma, mq, rfl, hcv5, hrb⟩) | (go_at_call 23; refine (hrb.namesOf HJL.out HJO.out HAT6.out).mono ?_; rintro e w46 ⟨v46, rfl, hv46, hrb⟩) | (go_at_call 22; refine (hrb.textsOf hv46).mono ?_; rintro e w47 ⟨rfl, hrb⟩) | (go_at_call 24; refine (hrb.bool HAT7.out).mono ?_; rintro e w48 ⟨rfl, hrb⟩) | (go_at_call 25; refine (hrb.raw hs2 HAT8.out).mono ?_; rintro e w49 ⟨ra, rq, rfl, hcv9, hrb⟩))
              go_wp2
              go_roundw
              case rel => exact ⟨j + 1, by omega, by go_num, by rw [HPOS.out]; exact hrb.st, hrb.bel⟩
              case measure => simp [intOf]; omega
      · obtain rfl : j = k := by omega
        by_cases hj1 : j < ps.length
        · have hj2 : (j : Int) < (ps.length : Int) := by omega
          have hj3 : ¬ (j : Int) < 20 := by have := HOR.out; omega
          have HR := hid_b hr
          have HBB := hid_b hb
          clear hr hb
          rw [HBS.out] at HR
          go_wp2_with fail
          refine (end_r _ HR.out).mono ?_
          rintro e w5 ⟨rfl, hk5⟩
          rw [show ends BS BS.length 0 = (0, 0) from by simp [ends]]
          go_wp2_with fail
          refine (known_c _).mono ?_
          rintro e w7 ⟨rfl, hb7⟩
          have HB7 : Hid (Below w.heap.size w w7) := (HBB.out.trans (hk5.below HBB.out.size fun _ h => h.elim)).trans (hb7.mono (Nat.le_trans HBB.out.size hk5.size))
          go_wp2
          go_ret
          exact ⟨rfl, HB7.out⟩
        · have hj2 : ¬ (j : Int) < (ps.length : Int) := by omega
          have HR := hid_b hr
          have HBB := hid_b hb
          clear hr hb
          rw [HBS.out] at HR
          go_wp2_with fail
          refine (end_r _ HR.out).mono ?_
          rintro e w5 ⟨rfl, hk5⟩
          rw [show ends BS BS.length 0 = (0, 0) from by simp [ends]]
          go_wp2_with fail
          refine (known_c _).mono ?_
          rintro e w7 ⟨rfl, hb7⟩
          have HB7 : Hid (Below w.heap.size w w7) := (HBB.out.trans (hk5.below HBB.out.size fun _ h => h.elim)).trans (hb7.mono (Nat.le_trans HBB.out.size hk5.size))
          go_wp2
          go_ret
          exact ⟨rfl, HB7.out⟩

end Go.Proofs.Ytahlefnkdbomfaa
