/- What request and take do. -/
import Derived.Test.YtnimdbjbkoggdaaCnG
namespace Go.Proofs.Ytnimdbjbkoggdaa
open Go Go.RowKit


set_option maxHeartbeats 3200000 in
set_option maxRecDepth 100000 in
theorem request_c (w : World) {L a o i rb : Nat} {c : Ch} {v : Value} {A Z : List Value} {g : Option Nat} {bs : List UInt8} {p : Nat} {why : Int} (h : CX w a o i c v A Z) (hok : Ok L c) (hr : WR w rb g bs p why) (har : a < rb) (hvr : ∀ k, v.ownBlock = some k → k < rb) (hne : bs ≠ []) (hbl : bs.length ≤ 1000000) :
    Calls Try.prog 60 #[.pointer (some ⟨a, o, none⟩), .pointer (some ⟨rb, 0, none⟩)] w fun e w' => OutP w a rb i v A Z (reqO c i bs p why) e w' := by
  have hal := h.lt
  have hth := hok.th
  have HVL := hidden h.held.lt
  have hrl := hr.lt
  have HRQ := hidden (readRequest_c (boxO w) (hr.same (boxO_keeps w)) hne)
  have HBX := hidden (boxO_at w)
  have HCX0 := hidden (h.still (boxO_keeps w))
  have HK0 := hidden (boxO_keeps w)
  have HSZ := hidden (boxO_size w)
  have hrest' : (rqRest bs p why).length ≤ 1000000 := by
    unfold rqRest
    split
    · rw [List.length_drop]; omega
    · simp
  unfold reqO startsB
  clear h hr hok hne hbl
  generalize rqRest bs p why = rest at *
  have hrest := hrest'
  generalize wantB bs p why = wa at *
  generalize strB (tx bs p why 64).1 = S at *
  generalize (rqW bs p why).2.2 = y at *
  unfold boxO at HRQ HBX HCX0 HK0 HSZ
  by_cases hy : y = 0
  · rw [if_pos hy]
    rw [decide_eq_true hy] at HRQ
    clear hy
    cases hod : c.od
    · by_cases hS : S = strB subB
      · have hst : (S.toList == [115, 117, 98, 115, 121, 115, 116, 101, 109]) = true := by rw [str_lit]; exact decide_eq_true hS
        rw [decide_eq_true hS]
        clear hS
        cases hfi : filesB rest
        · cases wa
          · go_enter Try.func60, Try.ntmps60
            go_wp2_with fail
            generalize w.alloc (.cells #[.slice none 0 0, .slice none 0 0, .bool false] 65) = w0 at *
            refine HRQ.out.mono ?_
            rintro e w1 ⟨v1, rfl, hb1, ho1, hk1⟩
            have HK1 := hidden ((HK0.out.mono (S' := fun k => k = rb) (fun k _ h => h.elim)).trans hk1)
            have HBX1 := hidden ((hk1.block _ (lt_of_block HBX.out) (by omega)).trans HBX.out)
            have HCX1 := hidden (HCX0.out.keep hk1 (by omega) (fun k e e2 => by have := hvr k e; omega))
            have HS1 := hidden (Nat.le_trans (Nat.le_of_eq HSZ.out.symm) hk1.size)
            have HV1 := hidden hb1
            obtain ⟨a1, c1, e1⟩ := hb1.len
            subst e1
            clear hb1 ho1 hk1 HRQ HCX0 HBX HK0 HSZ
            generalize hrn : rest.length = rn at HV1 hrest ⊢
            clear hrn
            have HF2 : Hid (Keeps (fun _ => False) w1 (w1.alloc (.cells #[.string S, .bool false, .slice a1 rn c1] 120))) := hidden ((Keeps.refl _ _).alloc _)
            have HQ2 := hidden (heap_alloc_new w1 (.cells #[.string S, .bool false, .slice a1 rn c1] 120))
            obtain ⟨bq, hbq⟩ : ∃ bq, bq = w1.heap.size := ⟨_, rfl⟩
            have hbq1 : w1.heap.size ≤ bq := by omega
            rw [← hbq] at HQ2
            have HCX2 := hidden (HCX1.out.still HF2.out)
            have HBL := hidden (HV1.out.alloc (.cells #[.string S, .bool false, .slice a1 rn c1] 120))
            go_upto_region 4 with fail
            rw [← hbq]
            clear hbq HV1
            generalize w1.alloc (.cells #[.string S, .bool false, .slice a1 rn c1] 120) = w2 at *
            obtain ⟨c0, c1', c2, c3, c4, c5, c6, c7, c8, cf⟩ := HCX2.out.cells
            rw [hod] at c1'
            obtain ⟨q0, q1, q2, qf⟩ := cells3i HQ2.out
            go_wp2_with fail
            refine (isFiles_c _ rest w2 HBL.out hrest').mono ?_
            rintro e w3 ⟨rfl, hb3⟩
            rw [hfi]
            have HF3 := hidden (HF2.out.trans (Keeps.ofFresh hb3))
            have HQ3 := hidden ((hb3.block _ (lt_of_block HQ2.out)).trans HQ2.out)
            have HCX3 := hidden (HCX2.out.fresh hb3)
            clear hb3 HF2 HQ2 HCX2 HBL c0 c1' c2 c3 c4 c5 c6 c7 c8 cf q0 q1 q2 qf
            go_upto_region 5 with fail
            have HF4 : Hid (Keeps (fun _ => False) w1 (w3.alloc (.cells #[.slice none 0 0, .slice none 0 0, .bool false] 65))) := hidden (HF3.out.alloc _)
            have HO4 := hidden (heap_alloc_new w3 (.cells #[.slice none 0 0, .slice none 0 0, .bool false] 65))
            have HQ4 := hidden ((Below.heap_alloc w3 (.cells #[.slice none 0 0, .slice none 0 0, .bool false] 65) _ (lt_of_block HQ3.out)).trans HQ3.out)
            obtain ⟨bo, hbo⟩ : ∃ bo, bo = w3.heap.size := ⟨_, rfl⟩
            have hbo1 : w1.heap.size ≤ bo := by rw [hbo]; exact HF3.out.size
            have hbq2 : bq < bo := by rw [hbo]; exact lt_of_block HQ3.out
            have hal1 := HCX1.out.lt
            have hwl1 := HS1.out
            rw [← hbo] at HO4
            go_upto_region 6 with fail
            rw [← hbo]
            clear hbo HF3 HQ3 HCX3
            generalize w3.alloc (.cells #[.slice none 0 0, .slice none 0 0, .bool false] 65) = w4 at *
            have HO7 := HO4
            have HQ7 := HQ4
            have HCX5 := HCX1
            have HBX5 := HBX1
            have HK5 := hidden (HK1.out.mono (S' := fun k => k = a ∨ k = rb) (fun k _ h => Or.inr h))
            have HG7 := hidden (HF4.out.mono (S' := fun k => k = bo) (fun k _ h => h.elim))
            clear HO4 HQ4 HCX1 HBX1 HK1 HF4
            have HCX7 := hidden (HCX5.out.keep HG7.out (by omega) (fun k e e2 => by have := HVL.out k e; omega))
            obtain ⟨c0, c1', c2, c3, c4, c5, c6, c7, c8, cf⟩ := HCX7.out.cells
            obtain ⟨q0, q1, q2, qf⟩ := cells3i HQ7.out
            have HOA := HO7
            have HGA := HG7
            skip
            clear HO7 HG7
            go_upto_region 13 with fail
            clear c0 c1' c2 c3 c4 c5 c6 c7 c8 cf q0 q1 q2 qf HCX7
            obtain ⟨b0, b1, b2, bf⟩ := cells3i HOA.out
            have HBXw := hidden ((HGA.out.block _ (lt_of_block HBX5.out) (by omega)).trans HBX5.out)
            have HKA : Hid (Keeps (fun k => k = a ∨ k = rb) w w4) := hidden ⟨HGA.out.os.trans HK5.out.os, HGA.out.tape.trans HK5.out.tape, HGA.out.output.trans HK5.out.output, Nat.le_trans HK5.out.size HGA.out.size, fun k h1 h2 => (HGA.out.block k (Nat.lt_of_lt_of_le h1 HK5.out.size) (by omega)).trans (HK5.out.block k h1 h2)⟩
            have HCXA := hidden (HCX5.out.keep HGA.out (by omega) (fun k e e2 => by have := HVL.out k e; omega))
            have HP := hidden (OutP.right (w := w) (w1 := w4) (rb := rb) (v := v) (v' := v) (oc := some c) (es := []) HKA.out hal (Lst.nil' _ _) (Evs.nil' _ _ _) HCXA.out.blk (fun c e => by cases e; exact HCXA.out.held) (fun k e => e) HVL.out)
            clear HKA HCXA HGA HOA HCX5 HBX5 HK5
            obtain ⟨y0', y1', y2', yf'⟩ := cells3i HBXw.out
            have hy := putO_at (.slice none 0 0) (.slice none 0 0) false HBXw.out
            unfold putO at HP hy
            go_wp2_with fail
            generalize ((w4.setCell ⟨w.heap.size, 0, none⟩ (.slice none 0 0)).setCell ⟨w.heap.size, 1, none⟩ (.slice none 0 0)).setCell ⟨w.heap.size, 2, none⟩ (.bool false) = wz at HP hy ⊢
            obtain ⟨y0, y1, y2, yf⟩ := cells3i hy
            refine bodyPost_ret (v := .agg #[.slice none 0 0, .slice none 0 0, .bool false]) (by simp [results, Try.results60, go_sem, y0, y1, y2]) rfl HP.out
          · go_enter Try.func60, Try.ntmps60
            go_wp2_with fail
            generalize w.alloc (.cells #[.slice none 0 0, .slice none 0 0, .bool false] 65) = w0 at *
            refine HRQ.out.mono ?_
            rintro e w1 ⟨v1, rfl, hb1, ho1, hk1⟩
            have HK1 := hidden ((HK0.out.mono (S' := fun k => k = rb) (fun k _ h => h.elim)).trans hk1)
            have HBX1 := hidden ((hk1.block _ (lt_of_block HBX.out) (by omega)).trans HBX.out)
            have HCX1 := hidden (HCX0.out.keep hk1 (by omega) (fun k e e2 => by have := hvr k e; omega))
            have HS1 := hidden (Nat.le_trans (Nat.le_of_eq HSZ.out.symm) hk1.size)
            have HV1 := hidden hb1
            obtain ⟨a1, c1, e1⟩ := hb1.len
            subst e1
            clear hb1 ho1 hk1 HRQ HCX0 HBX HK0 HSZ
            generalize hrn : rest.length = rn at HV1 hrest ⊢
            clear hrn
            have HF2 : Hid (Keeps (fun _ => False) w1 (w1.alloc (.cells #[.string S, .bool true, .slice a1 rn c1] 120))) := hidden ((Keeps.refl _ _).alloc _)
            have HQ2 := hidden (heap_alloc_new w1 (.cells #[.string S, .bool true, .slice a1 rn c1] 120))
            obtain ⟨bq, hbq⟩ : ∃ bq, bq = w1.heap.size := ⟨_, rfl⟩
            have hbq1 : w1.heap.size ≤ bq := by omega
            rw [← hbq] at HQ2
            have HCX2 := hidden (HCX1.out.still HF2.out)
            have HBL := hidden (HV1.out.alloc (.cells #[.string S, .bool true, .slice a1 rn c1] 120))
            go_upto_region 4 with fail
            rw [← hbq]
            clear hbq HV1
            generalize w1.alloc (.cells #[.string S, .bool true, .slice a1 rn c1] 120) = w2 at *
            obtain ⟨c0, c1', c2, c3, c4, c5, c6, c7, c8, cf⟩ := HCX2.out.cells
            rw [hod] at c1'
            obtain ⟨q0, q1, q2, qf⟩ := cells3i HQ2.out
            go_wp2_with fail
            refine (isFiles_c _ rest w2 HBL.out hrest').mono ?_
            rintro e w3 ⟨rfl, hb3⟩
            rw [hfi]
            have HF3 := hidden (HF2.out.trans (Keeps.ofFresh hb3))
            have HQ3 := hidden ((hb3.block _ (lt_of_block HQ2.out)).trans HQ2.out)
            have HCX3 := hidden (HCX2.out.fresh hb3)
            clear hb3 HF2 HQ2 HCX2 HBL c0 c1' c2 c3 c4 c5 c6 c7 c8 cf q0 q1 q2 qf
            go_upto_region 5 with fail
            have HF4 : Hid (Keeps (fun _ => False) w1 (w3.alloc (.cells #[.slice none 0 0, .slice none 0 0, .bool false] 65))) := hidden (HF3.out.alloc _)
            have HO4 := hidden (heap_alloc_new w3 (.cells #[.slice none 0 0, .slice none 0 0, .bool false] 65))
            have HQ4 := hidden ((Below.heap_alloc w3 (.cells #[.slice none 0 0, .slice none 0 0, .bool false] 65) _ (lt_of_block HQ3.out)).trans HQ3.out)
            obtain ⟨bo, hbo⟩ : ∃ bo, bo = w3.heap.size := ⟨_, rfl⟩
            have hbo1 : w1.heap.size ≤ bo := by rw [hbo]; exact HF3.out.size
            have hbq2 : bq < bo := by rw [hbo]; exact lt_of_block HQ3.out
            have hal1 := HCX1.out.lt
            have hwl1 := HS1.out
            rw [← hbo] at HO4
            go_upto_region 6 with fail
            rw [← hbo]
            clear hbo HF3 HQ3 HCX3
            generalize w3.alloc (.cells #[.slice none 0 0, .slice none 0 0, .bool false] 65) = w4 at *
            have HO7 := HO4
            have HQ7 := HQ4
            have HCX5 := HCX1
            have HBX5 := HBX1
            have HK5 := hidden (HK1.out.mono (S' := fun k => k = a ∨ k = rb) (fun k _ h => Or.inr h))
            have HG7 := hidden (HF4.out.mono (S' := fun k => k = bo) (fun k _ h => h.elim))
            clear HO4 HQ4 HCX1 HBX1 HK1 HF4
            have HCX7 := hidden (HCX5.out.keep HG7.out (by omega) (fun k e e2 => by have := HVL.out k e; omega))
            obtain ⟨c0, c1', c2, c3, c4, c5, c6, c7, c8, cf⟩ := HCX7.out.cells
            obtain ⟨q0, q1, q2, qf⟩ := cells3i HQ7.out
            go_upto_region 12 with fail
            have HN := hidden (nsl_lit w4 [c.th])
            go_wp2_with fail
            refine (numbers_c 100 _ [c.th] _ HN.out (by intro j hj; match j, hj with | 0, _ => exact hth) (by simp)).mono ?_
            rintro e w8 ⟨v8, rfl, ho8, hb8⟩
            obtain ⟨a8, p8, e8⟩ := ownsRow_shape ho8
            subst e8
            rw [show byteOf ((100 : Nat) : Int) = 100 from rfl] at ho8 ⊢
            have hk9 : Keeps (fun _ => False) w4 (w8.alloc (.cells #[.slice a8 (numL 100 [c.th]).length p8] 30)) := (Keeps.ofFresh (below_alloc hb8)).alloc _
            have HLS := hidden (Lst.one (B := w4.heap.size) ho8 (by simp) hb8.size)
            have hbo7 := lt_of_block HO7.out
            have HO9 := hidden ((hk9.block _ (lt_of_block HO7.out) (fun h => h)).trans HO7.out)
            skip
            have HG9 := hidden (HG7.out.trans (hk9.mono (S' := fun k => k = bo) (fun k _ h => h.elim)))
            clear ho8 hb8 hk9 HN HO7 HQ7 HG7 HCX7 c0 c1' c2 c3 c4 c5 c6 c7 c8 cf q0 q1 q2 qf
            generalize (numL 100 [c.th]).length = n8 at *
            obtain ⟨g8, hg8⟩ : ∃ g8, g8 = w8.heap.size := ⟨_, rfl⟩
            rw [← hg8] at HLS
            obtain ⟨b0, b1, b2, bf⟩ := cells3i HO9.out
            go_upto_region 13 with fail
            rw [← hg8]
            clear hg8
            generalize w8.alloc (.cells #[.slice a8 n8 p8] 30) = w9 at *
            have HOA := hidden (set3i HO9.out (.slice (some ⟨g8, 0, none⟩) 1 1)).1
            have HLA := hidden (HLS.out.keep (keepsSet w9 bo 0 (.slice (some ⟨g8, 0, none⟩) 1 1)) (fun k e => by omega))
            skip
            have HGA := hidden (HG9.out.trans (keepsSet w9 bo 0 (.slice (some ⟨g8, 0, none⟩) 1 1)))
            have hwa := HG9.out.size
            clear HO9 HLS HG9 b0 b1 b2 bf
            generalize w9.setCell ⟨bo, 0, none⟩ (.slice (some ⟨g8, 0, none⟩) 1 1) = wA at *
            obtain ⟨b0, b1, b2, bf⟩ := cells3i HOA.out
            have HBXw := hidden ((HGA.out.block _ (lt_of_block HBX5.out) (by omega)).trans HBX5.out)
            have HKA : Hid (Keeps (fun k => k = a ∨ k = rb) w wA) := hidden ⟨HGA.out.os.trans HK5.out.os, HGA.out.tape.trans HK5.out.tape, HGA.out.output.trans HK5.out.output, Nat.le_trans HK5.out.size HGA.out.size, fun k h1 h2 => (HGA.out.block k (Nat.lt_of_lt_of_le h1 HK5.out.size) (by omega)).trans (HK5.out.block k h1 h2)⟩
            have HCXA := hidden (HCX5.out.keep HGA.out (by omega) (fun k e e2 => by have := HVL.out k e; omega))
            have HP := hidden (OutP.right (w := w) (w1 := wA) (rb := rb) (v := v) (v' := v) (oc := some c) (es := []) HKA.out hal (HLA.out.mono (by omega)) (Evs.nil' _ _ _) HCXA.out.blk (fun c e => by cases e; exact HCXA.out.held) (fun k e => e) HVL.out)
            clear HKA HCXA HGA HOA HCX5 HBX5 HK5
            obtain ⟨y0', y1', y2', yf'⟩ := cells3i HBXw.out
            have hy := putO_at (.slice (some ⟨g8, 0, none⟩) 1 1) (.slice none 0 0) false HBXw.out
            unfold putO at HP hy
            go_wp2_with fail
            generalize ((wA.setCell ⟨w.heap.size, 0, none⟩ (.slice (some ⟨g8, 0, none⟩) 1 1)).setCell ⟨w.heap.size, 1, none⟩ (.slice none 0 0)).setCell ⟨w.heap.size, 2, none⟩ (.bool false) = wz at HP hy ⊢
            obtain ⟨y0, y1, y2, yf⟩ := cells3i hy
            refine bodyPost_ret (v := .agg #[.slice (some ⟨g8, 0, none⟩) 1 1, .slice none 0 0, .bool false]) (by simp [results, Try.results60, go_sem, y0, y1, y2]) rfl HP.out
        · cases wa
          · go_enter Try.func60, Try.ntmps60
            go_wp2_with fail
            generalize w.alloc (.cells #[.slice none 0 0, .slice none 0 0, .bool false] 65) = w0 at *
            refine HRQ.out.mono ?_
            rintro e w1 ⟨v1, rfl, hb1, ho1, hk1⟩
            have HK1 := hidden ((HK0.out.mono (S' := fun k => k = rb) (fun k _ h => h.elim)).trans hk1)
            have HBX1 := hidden ((hk1.block _ (lt_of_block HBX.out) (by omega)).trans HBX.out)
            have HCX1 := hidden (HCX0.out.keep hk1 (by omega) (fun k e e2 => by have := hvr k e; omega))
            have HS1 := hidden (Nat.le_trans (Nat.le_of_eq HSZ.out.symm) hk1.size)
            have HV1 := hidden hb1
            obtain ⟨a1, c1, e1⟩ := hb1.len
            subst e1
            clear hb1 ho1 hk1 HRQ HCX0 HBX HK0 HSZ
            generalize hrn : rest.length = rn at HV1 hrest ⊢
            clear hrn
            have HF2 : Hid (Keeps (fun _ => False) w1 (w1.alloc (.cells #[.string S, .bool false, .slice a1 rn c1] 120))) := hidden ((Keeps.refl _ _).alloc _)
            have HQ2 := hidden (heap_alloc_new w1 (.cells #[.string S, .bool false, .slice a1 rn c1] 120))
            obtain ⟨bq, hbq⟩ : ∃ bq, bq = w1.heap.size := ⟨_, rfl⟩
            have hbq1 : w1.heap.size ≤ bq := by omega
            rw [← hbq] at HQ2
            have HCX2 := hidden (HCX1.out.still HF2.out)
            have HBL := hidden (HV1.out.alloc (.cells #[.string S, .bool false, .slice a1 rn c1] 120))
            go_upto_region 4 with fail
            rw [← hbq]
            clear hbq HV1
            generalize w1.alloc (.cells #[.string S, .bool false, .slice a1 rn c1] 120) = w2 at *
            obtain ⟨c0, c1', c2, c3, c4, c5, c6, c7, c8, cf⟩ := HCX2.out.cells
            rw [hod] at c1'
            obtain ⟨q0, q1, q2, qf⟩ := cells3i HQ2.out
            go_wp2_with fail
            refine (isFiles_c _ rest w2 HBL.out hrest').mono ?_
            rintro e w3 ⟨rfl, hb3⟩
            rw [hfi]
            have HF3 := hidden (HF2.out.trans (Keeps.ofFresh hb3))
            have HQ3 := hidden ((hb3.block _ (lt_of_block HQ2.out)).trans HQ2.out)
            have HCX3 := hidden (HCX2.out.fresh hb3)
            clear hb3 HF2 HQ2 HCX2 HBL c0 c1' c2 c3 c4 c5 c6 c7 c8 cf q0 q1 q2 qf
            go_upto_region 5 with fail
            have HF4 : Hid (Keeps (fun _ => False) w1 (w3.alloc (.cells #[.slice none 0 0, .slice none 0 0, .bool false] 65))) := hidden (HF3.out.alloc _)
            have HO4 := hidden (heap_alloc_new w3 (.cells #[.slice none 0 0, .slice none 0 0, .bool false] 65))
            have HQ4 := hidden ((Below.heap_alloc w3 (.cells #[.slice none 0 0, .slice none 0 0, .bool false] 65) _ (lt_of_block HQ3.out)).trans HQ3.out)
            obtain ⟨bo, hbo⟩ : ∃ bo, bo = w3.heap.size := ⟨_, rfl⟩
            have hbo1 : w1.heap.size ≤ bo := by rw [hbo]; exact HF3.out.size
            have hbq2 : bq < bo := by rw [hbo]; exact lt_of_block HQ3.out
            have hal1 := HCX1.out.lt
            have hwl1 := HS1.out
            rw [← hbo] at HO4
            go_upto_region 6 with fail
            rw [← hbo]
            clear hbo HF3 HQ3 HCX3
            generalize w3.alloc (.cells #[.slice none 0 0, .slice none 0 0, .bool false] 65) = w4 at *
            have HCX4 := hidden (HCX1.out.still HF4.out)
            obtain ⟨c0, c1', c2, c3, c4, c5, c6, c7, c8, cf⟩ := HCX4.out.cells
            go_upto_region 8 with fail
            have hk5 := keepsSet w4 a (o + 1) (.bool true)
            have HCX5 := hidden (HCX4.out.set 1 (by omega) (.bool true) ⟨true, c.en, c.cl, c.th, c.wl, c.wm, c.ol, c.wt⟩ v rfl HCX4.out.held (fun k e => e))
            have HK5 : Hid (Keeps (fun k => k = a ∨ k = rb) w (w4.setCell ⟨a, o + 1, none⟩ (.bool true))) := hidden (((HK1.out.trans (HF4.out.mono (S' := fun k => k = rb) (fun k _ h => h.elim))).mono (S' := fun k => k = a ∨ k = rb) (fun k _ h => Or.inr h)).trans (hk5.mono (fun k _ h => Or.inl h)))
            have HBX5 := hidden ((hk5.block _ (Nat.lt_of_lt_of_le (lt_of_block HBX1.out) HF4.out.size) (by omega)).trans ((HF4.out.block _ (lt_of_block HBX1.out) (fun h => h)).trans HBX1.out))
            have HO5 := hidden ((hk5.block _ (lt_of_block HO4.out) (by omega)).trans HO4.out)
            have HQ5 := hidden ((hk5.block _ (lt_of_block HQ4.out) (by omega)).trans HQ4.out)
            have hw5 : w.heap.size + 1 ≤ (w4.setCell ⟨a, o + 1, none⟩ (.bool true)).heap.size := Nat.le_trans hwl1 (Nat.le_trans HF4.out.size hk5.size)
            have hbo5 := lt_of_block HO5.out
            clear hk5 HCX4 HF4 HO4 HQ4 HCX1 HK1 HBX1 c0 c1' c2 c3 c4 c5 c6 c7 c8 cf
            generalize w4.setCell ⟨a, o + 1, none⟩ (.bool true) = w5 at *
            go_wp2_with fail
            refine (tell_c 1 w5 HCX5.out).mono ?_
            rintro e w6 ⟨rfl, rfl⟩
            have HE6 := hidden (heap_alloc_new w5 (.cells #[.int .i64 1, .int .i64 i, .slice none 0 0] 51))
            have HF6 : Hid (Keeps (fun _ => False) w5 (w5.alloc (.cells #[.int .i64 1, .int .i64 i, .slice none 0 0] 51))) := hidden ((Keeps.refl _ _).alloc _)
            have HO6 := hidden ((HF6.out.block _ (lt_of_block HO5.out) (fun h => h)).trans HO5.out)
            have HQ6 := hidden ((HF6.out.block _ (lt_of_block HQ5.out) (fun h => h)).trans HQ5.out)
            obtain ⟨g6, hg6⟩ : ∃ g6, g6 = w5.heap.size := ⟨_, rfl⟩
            have hg6a : w5.heap.size ≤ g6 := by omega
            rw [← hg6] at HE6 ⊢
            clear HO5 HQ5 hg6
            generalize w5.alloc (.cells #[.int .i64 1, .int .i64 i, .slice none 0 0] 51) = w6 at *
            obtain ⟨x0, x1, x2, xf⟩ := cells3i HO6.out
            go_upto_region 9 with fail
            have HO7 := hidden (set3i HO6.out (.slice (some ⟨g6, 0, none⟩) 1 1)).2.1
            have HQ7 := hidden (((keepsSet w6 bo 1 (.slice (some ⟨g6, 0, none⟩) 1 1)).block _ (lt_of_block HQ6.out) (by omega)).trans HQ6.out)
            have HE7 := hidden (((keepsSet w6 bo 1 (.slice (some ⟨g6, 0, none⟩) 1 1)).block _ (lt_of_block HE6.out) (by omega)).trans HE6.out)
            have HT7 : Hid (∃ S : Nat → Prop, Keeps S w5 (w6.setCell ⟨bo, 1, none⟩ (.slice (some ⟨g6, 0, none⟩) 1 1)) ∧ S = fun k => k = bo) := hidden ⟨_, (HF6.out.mono (S' := fun k => k = bo) (fun k _ h => h.elim)).trans (keepsSet w6 bo 1 (.slice (some ⟨g6, 0, none⟩) 1 1)), rfl⟩
            have HG7 : Hid (Keeps (fun k => k = bo) w5 (w6.setCell ⟨bo, 1, none⟩ (.slice (some ⟨g6, 0, none⟩) 1 1))) := by
              obtain ⟨S, h1, h2⟩ := HT7.out
              subst h2
              exact hidden h1
            clear x0 x1 x2 xf HO6 HQ6 HE6 HF6 HT7
            generalize w6.setCell ⟨bo, 1, none⟩ (.slice (some ⟨g6, 0, none⟩) 1 1) = w7 at *
            have HCX7 := hidden (HCX5.out.keep HG7.out (by omega) (fun k e e2 => by have := HVL.out k e; omega))
            obtain ⟨c0, c1', c2, c3, c4, c5, c6, c7, c8, cf⟩ := HCX7.out.cells
            obtain ⟨q0, q1, q2, qf⟩ := cells3i HQ7.out
            have HOA := HO7
            have HGA := HG7
            have HEA := HE7
            clear HO7 HG7
            go_upto_region 13 with fail
            clear c0 c1' c2 c3 c4 c5 c6 c7 c8 cf q0 q1 q2 qf HCX7
            obtain ⟨b0, b1, b2, bf⟩ := cells3i HOA.out
            have HBXw := hidden ((HGA.out.block _ (lt_of_block HBX5.out) (by omega)).trans HBX5.out)
            have HKA : Hid (Keeps (fun k => k = a ∨ k = rb) w w7) := hidden ⟨HGA.out.os.trans HK5.out.os, HGA.out.tape.trans HK5.out.tape, HGA.out.output.trans HK5.out.output, Nat.le_trans HK5.out.size HGA.out.size, fun k h1 h2 => (HGA.out.block k (Nat.lt_of_lt_of_le h1 HK5.out.size) (by omega)).trans (HK5.out.block k h1 h2)⟩
            have HCXA := hidden (HCX5.out.keep HGA.out (by omega) (fun k e e2 => by have := HVL.out k e; omega))
            have HP := hidden (OutP.right (w := w) (w1 := w7) (rb := rb) (v := v) (v' := v) (oc := some ⟨true, c.en, c.cl, c.th, c.wl, c.wm, c.ol, c.wt⟩) (es := [⟨1, i, []⟩]) HKA.out hal (Lst.nil' _ _) (Evs.ofBlk HEA.out (by omega)) HCXA.out.blk (fun c e => by cases e; exact HCXA.out.held) (fun k e => e) HVL.out)
            clear HKA HCXA HGA HOA HCX5 HBX5 HK5
            obtain ⟨y0', y1', y2', yf'⟩ := cells3i HBXw.out
            have hy := putO_at (.slice none 0 0) (.slice (some ⟨g6, 0, none⟩) 1 1) false HBXw.out
            unfold putO at HP hy
            go_wp2_with fail
            generalize ((w7.setCell ⟨w.heap.size, 0, none⟩ (.slice none 0 0)).setCell ⟨w.heap.size, 1, none⟩ (.slice (some ⟨g6, 0, none⟩) 1 1)).setCell ⟨w.heap.size, 2, none⟩ (.bool false) = wz at HP hy ⊢
            obtain ⟨y0, y1, y2, yf⟩ := cells3i hy
            refine bodyPost_ret (v := .agg #[.slice none 0 0, .slice (some ⟨g6, 0, none⟩) 1 1, .bool false]) (by simp [results, Try.results60, go_sem, y0, y1, y2]) rfl HP.out
          · go_enter Try.func60, Try.ntmps60
            go_wp2_with fail
            generalize w.alloc (.cells #[.slice none 0 0, .slice none 0 0, .bool false] 65) = w0 at *
            refine HRQ.out.mono ?_
            rintro e w1 ⟨v1, rfl, hb1, ho1, hk1⟩
            have HK1 := hidden ((HK0.out.mono (S' := fun k => k = rb) (fun k _ h => h.elim)).trans hk1)
            have HBX1 := hidden ((hk1.block _ (lt_of_block HBX.out) (by omega)).trans HBX.out)
            have HCX1 := hidden (HCX0.out.keep hk1 (by omega) (fun k e e2 => by have := hvr k e; omega))
            have HS1 := hidden (Nat.le_trans (Nat.le_of_eq HSZ.out.symm) hk1.size)
            have HV1 := hidden hb1
            obtain ⟨a1, c1, e1⟩ := hb1.len
            subst e1
            clear hb1 ho1 hk1 HRQ HCX0 HBX HK0 HSZ
            generalize hrn : rest.length = rn at HV1 hrest ⊢
            clear hrn
            have HF2 : Hid (Keeps (fun _ => False) w1 (w1.alloc (.cells #[.string S, .bool true, .slice a1 rn c1] 120))) := hidden ((Keeps.refl _ _).alloc _)
            have HQ2 := hidden (heap_alloc_new w1 (.cells #[.string S, .bool true, .slice a1 rn c1] 120))
            obtain ⟨bq, hbq⟩ : ∃ bq, bq = w1.heap.size := ⟨_, rfl⟩
            have hbq1 : w1.heap.size ≤ bq := by omega
            rw [← hbq] at HQ2
            have HCX2 := hidden (HCX1.out.still HF2.out)
            have HBL := hidden (HV1.out.alloc (.cells #[.string S, .bool true, .slice a1 rn c1] 120))
            go_upto_region 4 with fail
            rw [← hbq]
            clear hbq HV1
            generalize w1.alloc (.cells #[.string S, .bool true, .slice a1 rn c1] 120) = w2 at *
            obtain ⟨c0, c1', c2, c3, c4, c5, c6, c7, c8, cf⟩ := HCX2.out.cells
            rw [hod] at c1'
            obtain ⟨q0, q1, q2, qf⟩ := cells3i HQ2.out
            go_wp2_with fail
            refine (isFiles_c _ rest w2 HBL.out hrest').mono ?_
            rintro e w3 ⟨rfl, hb3⟩
            rw [hfi]
            have HF3 := hidden (HF2.out.trans (Keeps.ofFresh hb3))
            have HQ3 := hidden ((hb3.block _ (lt_of_block HQ2.out)).trans HQ2.out)
            have HCX3 := hidden (HCX2.out.fresh hb3)
            clear hb3 HF2 HQ2 HCX2 HBL c0 c1' c2 c3 c4 c5 c6 c7 c8 cf q0 q1 q2 qf
            go_upto_region 5 with fail
            have HF4 : Hid (Keeps (fun _ => False) w1 (w3.alloc (.cells #[.slice none 0 0, .slice none 0 0, .bool false] 65))) := hidden (HF3.out.alloc _)
            have HO4 := hidden (heap_alloc_new w3 (.cells #[.slice none 0 0, .slice none 0 0, .bool false] 65))
            have HQ4 := hidden ((Below.heap_alloc w3 (.cells #[.slice none 0 0, .slice none 0 0, .bool false] 65) _ (lt_of_block HQ3.out)).trans HQ3.out)
            obtain ⟨bo, hbo⟩ : ∃ bo, bo = w3.heap.size := ⟨_, rfl⟩
            have hbo1 : w1.heap.size ≤ bo := by rw [hbo]; exact HF3.out.size
            have hbq2 : bq < bo := by rw [hbo]; exact lt_of_block HQ3.out
            have hal1 := HCX1.out.lt
            have hwl1 := HS1.out
            rw [← hbo] at HO4
            go_upto_region 6 with fail
            rw [← hbo]
            clear hbo HF3 HQ3 HCX3
            generalize w3.alloc (.cells #[.slice none 0 0, .slice none 0 0, .bool false] 65) = w4 at *
            have HCX4 := hidden (HCX1.out.still HF4.out)
            obtain ⟨c0, c1', c2, c3, c4, c5, c6, c7, c8, cf⟩ := HCX4.out.cells
            go_upto_region 8 with fail
            have hk5 := keepsSet w4 a (o + 1) (.bool true)
            have HCX5 := hidden (HCX4.out.set 1 (by omega) (.bool true) ⟨true, c.en, c.cl, c.th, c.wl, c.wm, c.ol, c.wt⟩ v rfl HCX4.out.held (fun k e => e))
            have HK5 : Hid (Keeps (fun k => k = a ∨ k = rb) w (w4.setCell ⟨a, o + 1, none⟩ (.bool true))) := hidden (((HK1.out.trans (HF4.out.mono (S' := fun k => k = rb) (fun k _ h => h.elim))).mono (S' := fun k => k = a ∨ k = rb) (fun k _ h => Or.inr h)).trans (hk5.mono (fun k _ h => Or.inl h)))
            have HBX5 := hidden ((hk5.block _ (Nat.lt_of_lt_of_le (lt_of_block HBX1.out) HF4.out.size) (by omega)).trans ((HF4.out.block _ (lt_of_block HBX1.out) (fun h => h)).trans HBX1.out))
            have HO5 := hidden ((hk5.block _ (lt_of_block HO4.out) (by omega)).trans HO4.out)
            have HQ5 := hidden ((hk5.block _ (lt_of_block HQ4.out) (by omega)).trans HQ4.out)
            have hw5 : w.heap.size + 1 ≤ (w4.setCell ⟨a, o + 1, none⟩ (.bool true)).heap.size := Nat.le_trans hwl1 (Nat.le_trans HF4.out.size hk5.size)
            have hbo5 := lt_of_block HO5.out
            clear hk5 HCX4 HF4 HO4 HQ4 HCX1 HK1 HBX1 c0 c1' c2 c3 c4 c5 c6 c7 c8 cf
            generalize w4.setCell ⟨a, o + 1, none⟩ (.bool true) = w5 at *
            go_wp2_with fail
            refine (tell_c 1 w5 HCX5.out).mono ?_
            rintro e w6 ⟨rfl, rfl⟩
            have HE6 := hidden (heap_alloc_new w5 (.cells #[.int .i64 1, .int .i64 i, .slice none 0 0] 51))
            have HF6 : Hid (Keeps (fun _ => False) w5 (w5.alloc (.cells #[.int .i64 1, .int .i64 i, .slice none 0 0] 51))) := hidden ((Keeps.refl _ _).alloc _)
            have HO6 := hidden ((HF6.out.block _ (lt_of_block HO5.out) (fun h => h)).trans HO5.out)
            have HQ6 := hidden ((HF6.out.block _ (lt_of_block HQ5.out) (fun h => h)).trans HQ5.out)
            obtain ⟨g6, hg6⟩ : ∃ g6, g6 = w5.heap.size := ⟨_, rfl⟩
            have hg6a : w5.heap.size ≤ g6 := by omega
            rw [← hg6] at HE6 ⊢
            clear HO5 HQ5 hg6
            generalize w5.alloc (.cells #[.int .i64 1, .int .i64 i, .slice none 0 0] 51) = w6 at *
            obtain ⟨x0, x1, x2, xf⟩ := cells3i HO6.out
            go_upto_region 9 with fail
            have HO7 := hidden (set3i HO6.out (.slice (some ⟨g6, 0, none⟩) 1 1)).2.1
            have HQ7 := hidden (((keepsSet w6 bo 1 (.slice (some ⟨g6, 0, none⟩) 1 1)).block _ (lt_of_block HQ6.out) (by omega)).trans HQ6.out)
            have HE7 := hidden (((keepsSet w6 bo 1 (.slice (some ⟨g6, 0, none⟩) 1 1)).block _ (lt_of_block HE6.out) (by omega)).trans HE6.out)
            have HT7 : Hid (∃ S : Nat → Prop, Keeps S w5 (w6.setCell ⟨bo, 1, none⟩ (.slice (some ⟨g6, 0, none⟩) 1 1)) ∧ S = fun k => k = bo) := hidden ⟨_, (HF6.out.mono (S' := fun k => k = bo) (fun k _ h => h.elim)).trans (keepsSet w6 bo 1 (.slice (some ⟨g6, 0, none⟩) 1 1)), rfl⟩
            have HG7 : Hid (Keeps (fun k => k = bo) w5 (w6.setCell ⟨bo, 1, none⟩ (.slice (some ⟨g6, 0, none⟩) 1 1))) := by
              obtain ⟨S, h1, h2⟩ := HT7.out
              subst h2
              exact hidden h1
            clear x0 x1 x2 xf HO6 HQ6 HE6 HF6 HT7
            generalize w6.setCell ⟨bo, 1, none⟩ (.slice (some ⟨g6, 0, none⟩) 1 1) = w7 at *
            have HCX7 := hidden (HCX5.out.keep HG7.out (by omega) (fun k e e2 => by have := HVL.out k e; omega))
            obtain ⟨c0, c1', c2, c3, c4, c5, c6, c7, c8, cf⟩ := HCX7.out.cells
            obtain ⟨q0, q1, q2, qf⟩ := cells3i HQ7.out
            go_upto_region 10 with fail
            have HN := hidden (nsl_lit w7 [c.th])
            go_wp2_with fail
            refine (numbers_c 99 _ [c.th] _ HN.out (by intro j hj; match j, hj with | 0, _ => exact hth) (by simp)).mono ?_
            rintro e w8 ⟨v8, rfl, ho8, hb8⟩
            obtain ⟨a8, p8, e8⟩ := ownsRow_shape ho8
            subst e8
            rw [show byteOf ((99 : Nat) : Int) = 99 from rfl] at ho8 ⊢
            have hk9 : Keeps (fun _ => False) w7 (w8.alloc (.cells #[.slice a8 (numL 99 [c.th]).length p8] 30)) := (Keeps.ofFresh (below_alloc hb8)).alloc _
            have HLS := hidden (Lst.one (B := w7.heap.size) ho8 (by simp) hb8.size)
            have hbo7 := lt_of_block HO7.out
            have HO9 := hidden ((hk9.block _ (lt_of_block HO7.out) (fun h => h)).trans HO7.out)
            have HE9 := hidden ((hk9.block _ (lt_of_block HE7.out) (fun h => h)).trans HE7.out)
            have HG9 := hidden (HG7.out.trans (hk9.mono (S' := fun k => k = bo) (fun k _ h => h.elim)))
            clear ho8 hb8 hk9 HN HO7 HQ7 HG7 HCX7 c0 c1' c2 c3 c4 c5 c6 c7 c8 cf q0 q1 q2 qf
            generalize (numL 99 [c.th]).length = n8 at *
            obtain ⟨g8, hg8⟩ : ∃ g8, g8 = w8.heap.size := ⟨_, rfl⟩
            rw [← hg8] at HLS
            obtain ⟨b0, b1, b2, bf⟩ := cells3i HO9.out
            go_upto_region 13 with fail
            rw [← hg8]
            clear hg8
            generalize w8.alloc (.cells #[.slice a8 n8 p8] 30) = w9 at *
            have HOA := hidden (set3i HO9.out (.slice (some ⟨g8, 0, none⟩) 1 1)).1
            have HLA := hidden (HLS.out.keep (keepsSet w9 bo 0 (.slice (some ⟨g8, 0, none⟩) 1 1)) (fun k e => by omega))
            have HEA := hidden (((keepsSet w9 bo 0 (.slice (some ⟨g8, 0, none⟩) 1 1)).block _ (lt_of_block HE9.out) (by omega)).trans HE9.out)
            have HGA := hidden (HG9.out.trans (keepsSet w9 bo 0 (.slice (some ⟨g8, 0, none⟩) 1 1)))
            have hwa := HG9.out.size
            clear HO9 HLS HG9 b0 b1 b2 bf
            generalize w9.setCell ⟨bo, 0, none⟩ (.slice (some ⟨g8, 0, none⟩) 1 1) = wA at *
            obtain ⟨b0, b1, b2, bf⟩ := cells3i HOA.out
            have HBXw := hidden ((HGA.out.block _ (lt_of_block HBX5.out) (by omega)).trans HBX5.out)
            have HKA : Hid (Keeps (fun k => k = a ∨ k = rb) w wA) := hidden ⟨HGA.out.os.trans HK5.out.os, HGA.out.tape.trans HK5.out.tape, HGA.out.output.trans HK5.out.output, Nat.le_trans HK5.out.size HGA.out.size, fun k h1 h2 => (HGA.out.block k (Nat.lt_of_lt_of_le h1 HK5.out.size) (by omega)).trans (HK5.out.block k h1 h2)⟩
            have HCXA := hidden (HCX5.out.keep HGA.out (by omega) (fun k e e2 => by have := HVL.out k e; omega))
            have HP := hidden (OutP.right (w := w) (w1 := wA) (rb := rb) (v := v) (v' := v) (oc := some ⟨true, c.en, c.cl, c.th, c.wl, c.wm, c.ol, c.wt⟩) (es := [⟨1, i, []⟩]) HKA.out hal (HLA.out.mono (by omega)) (Evs.ofBlk HEA.out (by omega)) HCXA.out.blk (fun c e => by cases e; exact HCXA.out.held) (fun k e => e) HVL.out)
            clear HKA HCXA HGA HOA HCX5 HBX5 HK5
            obtain ⟨y0', y1', y2', yf'⟩ := cells3i HBXw.out
            have hy := putO_at (.slice (some ⟨g8, 0, none⟩) 1 1) (.slice (some ⟨g6, 0, none⟩) 1 1) false HBXw.out
            unfold putO at HP hy
            go_wp2_with fail
            generalize ((wA.setCell ⟨w.heap.size, 0, none⟩ (.slice (some ⟨g8, 0, none⟩) 1 1)).setCell ⟨w.heap.size, 1, none⟩ (.slice (some ⟨g6, 0, none⟩) 1 1)).setCell ⟨w.heap.size, 2, none⟩ (.bool false) = wz at HP hy ⊢
            obtain ⟨y0, y1, y2, yf⟩ := cells3i hy
            refine bodyPost_ret (v := .agg #[.slice (some ⟨g8, 0, none⟩) 1 1, .slice (some ⟨g6, 0, none⟩) 1 1, .bool false]) (by simp [results, Try.results60, go_sem, y0, y1, y2]) rfl HP.out
      · have hst : (S.toList == [115, 117, 98, 115, 121, 115, 116, 101, 109]) = false := by rw [str_lit]; exact decide_eq_false hS
        rw [decide_eq_false hS]
        clear hS
        cases wa
        · go_enter Try.func60, Try.ntmps60
          go_wp2_with fail
          generalize w.alloc (.cells #[.slice none 0 0, .slice none 0 0, .bool false] 65) = w0 at *
          refine HRQ.out.mono ?_
          rintro e w1 ⟨v1, rfl, hb1, ho1, hk1⟩
          have HK1 := hidden ((HK0.out.mono (S' := fun k => k = rb) (fun k _ h => h.elim)).trans hk1)
          have HBX1 := hidden ((hk1.block _ (lt_of_block HBX.out) (by omega)).trans HBX.out)
          have HCX1 := hidden (HCX0.out.keep hk1 (by omega) (fun k e e2 => by have := hvr k e; omega))
          have HS1 := hidden (Nat.le_trans (Nat.le_of_eq HSZ.out.symm) hk1.size)
          have HV1 := hidden hb1
          obtain ⟨a1, c1, e1⟩ := hb1.len
          subst e1
          clear hb1 ho1 hk1 HRQ HCX0 HBX HK0 HSZ
          generalize hrn : rest.length = rn at HV1 hrest ⊢
          clear hrn
          have HF2 : Hid (Keeps (fun _ => False) w1 (w1.alloc (.cells #[.string S, .bool false, .slice a1 rn c1] 120))) := hidden ((Keeps.refl _ _).alloc _)
          have HQ2 := hidden (heap_alloc_new w1 (.cells #[.string S, .bool false, .slice a1 rn c1] 120))
          obtain ⟨bq, hbq⟩ : ∃ bq, bq = w1.heap.size := ⟨_, rfl⟩
          have hbq1 : w1.heap.size ≤ bq := by omega
          rw [← hbq] at HQ2
          have HCX2 := hidden (HCX1.out.still HF2.out)
          have HBL := hidden (HV1.out.alloc (.cells #[.string S, .bool false, .slice a1 rn c1] 120))
          go_upto_region 4 with fail
          rw [← hbq]
          clear hbq HV1
          generalize w1.alloc (.cells #[.string S, .bool false, .slice a1 rn c1] 120) = w2 at *
          obtain ⟨c0, c1', c2, c3, c4, c5, c6, c7, c8, cf⟩ := HCX2.out.cells
          rw [hod] at c1'
          obtain ⟨q0, q1, q2, qf⟩ := cells3i HQ2.out
          go_upto_region 5 with fail
          clear c0 c1' c2 c3 c4 c5 c6 c7 c8 cf q0 q1 q2 qf
          have HF3 := HF2
          have HQ3 := HQ2
          have HCX3 := HCX2
          clear HF2 HQ2 HCX2 HBL
          have HF4 : Hid (Keeps (fun _ => False) w1 (w2.alloc (.cells #[.slice none 0 0, .slice none 0 0, .bool false] 65))) := hidden (HF3.out.alloc _)
          have HO4 := hidden (heap_alloc_new w2 (.cells #[.slice none 0 0, .slice none 0 0, .bool false] 65))
          have HQ4 := hidden ((Below.heap_alloc w2 (.cells #[.slice none 0 0, .slice none 0 0, .bool false] 65) _ (lt_of_block HQ3.out)).trans HQ3.out)
          obtain ⟨bo, hbo⟩ : ∃ bo, bo = w2.heap.size := ⟨_, rfl⟩
          have hbo1 : w1.heap.size ≤ bo := by rw [hbo]; exact HF3.out.size
          have hbq2 : bq < bo := by rw [hbo]; exact lt_of_block HQ3.out
          have hal1 := HCX1.out.lt
          have hwl1 := HS1.out
          rw [← hbo] at HO4
          go_upto_region 6 with fail
          rw [← hbo]
          clear hbo HF3 HQ3 HCX3
          generalize w2.alloc (.cells #[.slice none 0 0, .slice none 0 0, .bool false] 65) = w4 at *
          have HO7 := HO4
          have HQ7 := HQ4
          have HCX5 := HCX1
          have HBX5 := HBX1
          have HK5 := hidden (HK1.out.mono (S' := fun k => k = a ∨ k = rb) (fun k _ h => Or.inr h))
          have HG7 := hidden (HF4.out.mono (S' := fun k => k = bo) (fun k _ h => h.elim))
          clear HO4 HQ4 HCX1 HBX1 HK1 HF4
          have HCX7 := hidden (HCX5.out.keep HG7.out (by omega) (fun k e e2 => by have := HVL.out k e; omega))
          obtain ⟨c0, c1', c2, c3, c4, c5, c6, c7, c8, cf⟩ := HCX7.out.cells
          obtain ⟨q0, q1, q2, qf⟩ := cells3i HQ7.out
          have HOA := HO7
          have HGA := HG7
          skip
          clear HO7 HG7
          go_upto_region 13 with fail
          clear c0 c1' c2 c3 c4 c5 c6 c7 c8 cf q0 q1 q2 qf HCX7
          obtain ⟨b0, b1, b2, bf⟩ := cells3i HOA.out
          have HBXw := hidden ((HGA.out.block _ (lt_of_block HBX5.out) (by omega)).trans HBX5.out)
          have HKA : Hid (Keeps (fun k => k = a ∨ k = rb) w w4) := hidden ⟨HGA.out.os.trans HK5.out.os, HGA.out.tape.trans HK5.out.tape, HGA.out.output.trans HK5.out.output, Nat.le_trans HK5.out.size HGA.out.size, fun k h1 h2 => (HGA.out.block k (Nat.lt_of_lt_of_le h1 HK5.out.size) (by omega)).trans (HK5.out.block k h1 h2)⟩
          have HCXA := hidden (HCX5.out.keep HGA.out (by omega) (fun k e e2 => by have := HVL.out k e; omega))
          have HP := hidden (OutP.right (w := w) (w1 := w4) (rb := rb) (v := v) (v' := v) (oc := some c) (es := []) HKA.out hal (Lst.nil' _ _) (Evs.nil' _ _ _) HCXA.out.blk (fun c e => by cases e; exact HCXA.out.held) (fun k e => e) HVL.out)
          clear HKA HCXA HGA HOA HCX5 HBX5 HK5
          obtain ⟨y0', y1', y2', yf'⟩ := cells3i HBXw.out
          have hy := putO_at (.slice none 0 0) (.slice none 0 0) false HBXw.out
          unfold putO at HP hy
          go_wp2_with fail
          generalize ((w4.setCell ⟨w.heap.size, 0, none⟩ (.slice none 0 0)).setCell ⟨w.heap.size, 1, none⟩ (.slice none 0 0)).setCell ⟨w.heap.size, 2, none⟩ (.bool false) = wz at HP hy ⊢
          obtain ⟨y0, y1, y2, yf⟩ := cells3i hy
          refine bodyPost_ret (v := .agg #[.slice none 0 0, .slice none 0 0, .bool false]) (by simp [results, Try.results60, go_sem, y0, y1, y2]) rfl HP.out
        · go_enter Try.func60, Try.ntmps60
          go_wp2_with fail
          generalize w.alloc (.cells #[.slice none 0 0, .slice none 0 0, .bool false] 65) = w0 at *
          refine HRQ.out.mono ?_
          rintro e w1 ⟨v1, rfl, hb1, ho1, hk1⟩
          have HK1 := hidden ((HK0.out.mono (S' := fun k => k = rb) (fun k _ h => h.elim)).trans hk1)
          have HBX1 := hidden ((hk1.block _ (lt_of_block HBX.out) (by omega)).trans HBX.out)
          have HCX1 := hidden (HCX0.out.keep hk1 (by omega) (fun k e e2 => by have := hvr k e; omega))
          have HS1 := hidden (Nat.le_trans (Nat.le_of_eq HSZ.out.symm) hk1.size)
          have HV1 := hidden hb1
          obtain ⟨a1, c1, e1⟩ := hb1.len
          subst e1
          clear hb1 ho1 hk1 HRQ HCX0 HBX HK0 HSZ
          generalize hrn : rest.length = rn at HV1 hrest ⊢
          clear hrn
          have HF2 : Hid (Keeps (fun _ => False) w1 (w1.alloc (.cells #[.string S, .bool true, .slice a1 rn c1] 120))) := hidden ((Keeps.refl _ _).alloc _)
          have HQ2 := hidden (heap_alloc_new w1 (.cells #[.string S, .bool true, .slice a1 rn c1] 120))
          obtain ⟨bq, hbq⟩ : ∃ bq, bq = w1.heap.size := ⟨_, rfl⟩
          have hbq1 : w1.heap.size ≤ bq := by omega
          rw [← hbq] at HQ2
          have HCX2 := hidden (HCX1.out.still HF2.out)
          have HBL := hidden (HV1.out.alloc (.cells #[.string S, .bool true, .slice a1 rn c1] 120))
          go_upto_region 4 with fail
          rw [← hbq]
          clear hbq HV1
          generalize w1.alloc (.cells #[.string S, .bool true, .slice a1 rn c1] 120) = w2 at *
          obtain ⟨c0, c1', c2, c3, c4, c5, c6, c7, c8, cf⟩ := HCX2.out.cells
          rw [hod] at c1'
          obtain ⟨q0, q1, q2, qf⟩ := cells3i HQ2.out
          go_upto_region 5 with fail
          clear c0 c1' c2 c3 c4 c5 c6 c7 c8 cf q0 q1 q2 qf
          have HF3 := HF2
          have HQ3 := HQ2
          have HCX3 := HCX2
          clear HF2 HQ2 HCX2 HBL
          have HF4 : Hid (Keeps (fun _ => False) w1 (w2.alloc (.cells #[.slice none 0 0, .slice none 0 0, .bool false] 65))) := hidden (HF3.out.alloc _)
          have HO4 := hidden (heap_alloc_new w2 (.cells #[.slice none 0 0, .slice none 0 0, .bool false] 65))
          have HQ4 := hidden ((Below.heap_alloc w2 (.cells #[.slice none 0 0, .slice none 0 0, .bool false] 65) _ (lt_of_block HQ3.out)).trans HQ3.out)
          obtain ⟨bo, hbo⟩ : ∃ bo, bo = w2.heap.size := ⟨_, rfl⟩
          have hbo1 : w1.heap.size ≤ bo := by rw [hbo]; exact HF3.out.size
          have hbq2 : bq < bo := by rw [hbo]; exact lt_of_block HQ3.out
          have hal1 := HCX1.out.lt
          have hwl1 := HS1.out
          rw [← hbo] at HO4
          go_upto_region 6 with fail
          rw [← hbo]
          clear hbo HF3 HQ3 HCX3
          generalize w2.alloc (.cells #[.slice none 0 0, .slice none 0 0, .bool false] 65) = w4 at *
          have HO7 := HO4
          have HQ7 := HQ4
          have HCX5 := HCX1
          have HBX5 := HBX1
          have HK5 := hidden (HK1.out.mono (S' := fun k => k = a ∨ k = rb) (fun k _ h => Or.inr h))
          have HG7 := hidden (HF4.out.mono (S' := fun k => k = bo) (fun k _ h => h.elim))
          clear HO4 HQ4 HCX1 HBX1 HK1 HF4
          have HCX7 := hidden (HCX5.out.keep HG7.out (by omega) (fun k e e2 => by have := HVL.out k e; omega))
          obtain ⟨c0, c1', c2, c3, c4, c5, c6, c7, c8, cf⟩ := HCX7.out.cells
          obtain ⟨q0, q1, q2, qf⟩ := cells3i HQ7.out
          go_upto_region 12 with fail
          have HN := hidden (nsl_lit w4 [c.th])
          go_wp2_with fail
          refine (numbers_c 100 _ [c.th] _ HN.out (by intro j hj; match j, hj with | 0, _ => exact hth) (by simp)).mono ?_
          rintro e w8 ⟨v8, rfl, ho8, hb8⟩
          obtain ⟨a8, p8, e8⟩ := ownsRow_shape ho8
          subst e8
          rw [show byteOf ((100 : Nat) : Int) = 100 from rfl] at ho8 ⊢
          have hk9 : Keeps (fun _ => False) w4 (w8.alloc (.cells #[.slice a8 (numL 100 [c.th]).length p8] 30)) := (Keeps.ofFresh (below_alloc hb8)).alloc _
          have HLS := hidden (Lst.one (B := w4.heap.size) ho8 (by simp) hb8.size)
          have hbo7 := lt_of_block HO7.out
          have HO9 := hidden ((hk9.block _ (lt_of_block HO7.out) (fun h => h)).trans HO7.out)
          skip
          have HG9 := hidden (HG7.out.trans (hk9.mono (S' := fun k => k = bo) (fun k _ h => h.elim)))
          clear ho8 hb8 hk9 HN HO7 HQ7 HG7 HCX7 c0 c1' c2 c3 c4 c5 c6 c7 c8 cf q0 q1 q2 qf
          generalize (numL 100 [c.th]).length = n8 at *
          obtain ⟨g8, hg8⟩ : ∃ g8, g8 = w8.heap.size := ⟨_, rfl⟩
          rw [← hg8] at HLS
          obtain ⟨b0, b1, b2, bf⟩ := cells3i HO9.out
          go_upto_region 13 with fail
          rw [← hg8]
          clear hg8
          generalize w8.alloc (.cells #[.slice a8 n8 p8] 30) = w9 at *
          have HOA := hidden (set3i HO9.out (.slice (some ⟨g8, 0, none⟩) 1 1)).1
          have HLA := hidden (HLS.out.keep (keepsSet w9 bo 0 (.slice (some ⟨g8, 0, none⟩) 1 1)) (fun k e => by omega))
          skip
          have HGA := hidden (HG9.out.trans (keepsSet w9 bo 0 (.slice (some ⟨g8, 0, none⟩) 1 1)))
          have hwa := HG9.out.size
          clear HO9 HLS HG9 b0 b1 b2 bf
          generalize w9.setCell ⟨bo, 0, none⟩ (.slice (some ⟨g8, 0, none⟩) 1 1) = wA at *
          obtain ⟨b0, b1, b2, bf⟩ := cells3i HOA.out
          have HBXw := hidden ((HGA.out.block _ (lt_of_block HBX5.out) (by omega)).trans HBX5.out)
          have HKA : Hid (Keeps (fun k => k = a ∨ k = rb) w wA) := hidden ⟨HGA.out.os.trans HK5.out.os, HGA.out.tape.trans HK5.out.tape, HGA.out.output.trans HK5.out.output, Nat.le_trans HK5.out.size HGA.out.size, fun k h1 h2 => (HGA.out.block k (Nat.lt_of_lt_of_le h1 HK5.out.size) (by omega)).trans (HK5.out.block k h1 h2)⟩
          have HCXA := hidden (HCX5.out.keep HGA.out (by omega) (fun k e e2 => by have := HVL.out k e; omega))
          have HP := hidden (OutP.right (w := w) (w1 := wA) (rb := rb) (v := v) (v' := v) (oc := some c) (es := []) HKA.out hal (HLA.out.mono (by omega)) (Evs.nil' _ _ _) HCXA.out.blk (fun c e => by cases e; exact HCXA.out.held) (fun k e => e) HVL.out)
          clear HKA HCXA HGA HOA HCX5 HBX5 HK5
          obtain ⟨y0', y1', y2', yf'⟩ := cells3i HBXw.out
          have hy := putO_at (.slice (some ⟨g8, 0, none⟩) 1 1) (.slice none 0 0) false HBXw.out
          unfold putO at HP hy
          go_wp2_with fail
          generalize ((wA.setCell ⟨w.heap.size, 0, none⟩ (.slice (some ⟨g8, 0, none⟩) 1 1)).setCell ⟨w.heap.size, 1, none⟩ (.slice none 0 0)).setCell ⟨w.heap.size, 2, none⟩ (.bool false) = wz at HP hy ⊢
          obtain ⟨y0, y1, y2, yf⟩ := cells3i hy
          refine bodyPost_ret (v := .agg #[.slice (some ⟨g8, 0, none⟩) 1 1, .slice none 0 0, .bool false]) (by simp [results, Try.results60, go_sem, y0, y1, y2]) rfl HP.out
    · generalize (decide (S = strB subB)) = dd
      clear hrest'
      cases wa
      · go_enter Try.func60, Try.ntmps60
        go_wp2_with fail
        generalize w.alloc (.cells #[.slice none 0 0, .slice none 0 0, .bool false] 65) = w0 at *
        refine HRQ.out.mono ?_
        rintro e w1 ⟨v1, rfl, hb1, ho1, hk1⟩
        have HK1 := hidden ((HK0.out.mono (S' := fun k => k = rb) (fun k _ h => h.elim)).trans hk1)
        have HBX1 := hidden ((hk1.block _ (lt_of_block HBX.out) (by omega)).trans HBX.out)
        have HCX1 := hidden (HCX0.out.keep hk1 (by omega) (fun k e e2 => by have := hvr k e; omega))
        have HS1 := hidden (Nat.le_trans (Nat.le_of_eq HSZ.out.symm) hk1.size)
        have HV1 := hidden hb1
        obtain ⟨a1, c1, e1⟩ := hb1.len
        subst e1
        clear hb1 ho1 hk1 HRQ HCX0 HBX HK0 HSZ
        generalize hrn : rest.length = rn at HV1 hrest ⊢
        clear hrn
        have HF2 : Hid (Keeps (fun _ => False) w1 (w1.alloc (.cells #[.string S, .bool false, .slice a1 rn c1] 120))) := hidden ((Keeps.refl _ _).alloc _)
        have HQ2 := hidden (heap_alloc_new w1 (.cells #[.string S, .bool false, .slice a1 rn c1] 120))
        obtain ⟨bq, hbq⟩ : ∃ bq, bq = w1.heap.size := ⟨_, rfl⟩
        have hbq1 : w1.heap.size ≤ bq := by omega
        rw [← hbq] at HQ2
        have HCX2 := hidden (HCX1.out.still HF2.out)
        have HBL := hidden (HV1.out.alloc (.cells #[.string S, .bool false, .slice a1 rn c1] 120))
        go_upto_region 4 with fail
        rw [← hbq]
        clear hbq HV1
        generalize w1.alloc (.cells #[.string S, .bool false, .slice a1 rn c1] 120) = w2 at *
        obtain ⟨c0, c1', c2, c3, c4, c5, c6, c7, c8, cf⟩ := HCX2.out.cells
        rw [hod] at c1'
        obtain ⟨q0, q1, q2, qf⟩ := cells3i HQ2.out
        go_upto_region 5 with fail
        clear c0 c1' c2 c3 c4 c5 c6 c7 c8 cf q0 q1 q2 qf
        have HF3 := HF2
        have HQ3 := HQ2
        have HCX3 := HCX2
        clear HF2 HQ2 HCX2 HBL
        have HF4 : Hid (Keeps (fun _ => False) w1 (w2.alloc (.cells #[.slice none 0 0, .slice none 0 0, .bool false] 65))) := hidden (HF3.out.alloc _)
        have HO4 := hidden (heap_alloc_new w2 (.cells #[.slice none 0 0, .slice none 0 0, .bool false] 65))
        have HQ4 := hidden ((Below.heap_alloc w2 (.cells #[.slice none 0 0, .slice none 0 0, .bool false] 65) _ (lt_of_block HQ3.out)).trans HQ3.out)
        obtain ⟨bo, hbo⟩ : ∃ bo, bo = w2.heap.size := ⟨_, rfl⟩
        have hbo1 : w1.heap.size ≤ bo := by rw [hbo]; exact HF3.out.size
        have hbq2 : bq < bo := by rw [hbo]; exact lt_of_block HQ3.out
        have hal1 := HCX1.out.lt
        have hwl1 := HS1.out
        rw [← hbo] at HO4
        go_upto_region 6 with fail
        rw [← hbo]
        clear hbo HF3 HQ3 HCX3
        generalize w2.alloc (.cells #[.slice none 0 0, .slice none 0 0, .bool false] 65) = w4 at *
        have HO7 := HO4
        have HQ7 := HQ4
        have HCX5 := HCX1
        have HBX5 := HBX1
        have HK5 := hidden (HK1.out.mono (S' := fun k => k = a ∨ k = rb) (fun k _ h => Or.inr h))
        have HG7 := hidden (HF4.out.mono (S' := fun k => k = bo) (fun k _ h => h.elim))
        clear HO4 HQ4 HCX1 HBX1 HK1 HF4
        have HCX7 := hidden (HCX5.out.keep HG7.out (by omega) (fun k e e2 => by have := HVL.out k e; omega))
        obtain ⟨c0, c1', c2, c3, c4, c5, c6, c7, c8, cf⟩ := HCX7.out.cells
        obtain ⟨q0, q1, q2, qf⟩ := cells3i HQ7.out
        have HOA := HO7
        have HGA := HG7
        skip
        clear HO7 HG7
        go_upto_region 13 with fail
        clear c0 c1' c2 c3 c4 c5 c6 c7 c8 cf q0 q1 q2 qf HCX7
        obtain ⟨b0, b1, b2, bf⟩ := cells3i HOA.out
        have HBXw := hidden ((HGA.out.block _ (lt_of_block HBX5.out) (by omega)).trans HBX5.out)
        have HKA : Hid (Keeps (fun k => k = a ∨ k = rb) w w4) := hidden ⟨HGA.out.os.trans HK5.out.os, HGA.out.tape.trans HK5.out.tape, HGA.out.output.trans HK5.out.output, Nat.le_trans HK5.out.size HGA.out.size, fun k h1 h2 => (HGA.out.block k (Nat.lt_of_lt_of_le h1 HK5.out.size) (by omega)).trans (HK5.out.block k h1 h2)⟩
        have HCXA := hidden (HCX5.out.keep HGA.out (by omega) (fun k e e2 => by have := HVL.out k e; omega))
        have HP := hidden (OutP.right (w := w) (w1 := w4) (rb := rb) (v := v) (v' := v) (oc := some c) (es := []) HKA.out hal (Lst.nil' _ _) (Evs.nil' _ _ _) HCXA.out.blk (fun c e => by cases e; exact HCXA.out.held) (fun k e => e) HVL.out)
        clear HKA HCXA HGA HOA HCX5 HBX5 HK5
        obtain ⟨y0', y1', y2', yf'⟩ := cells3i HBXw.out
        have hy := putO_at (.slice none 0 0) (.slice none 0 0) false HBXw.out
        unfold putO at HP hy
        go_wp2_with fail
        generalize ((w4.setCell ⟨w.heap.size, 0, none⟩ (.slice none 0 0)).setCell ⟨w.heap.size, 1, none⟩ (.slice none 0 0)).setCell ⟨w.heap.size, 2, none⟩ (.bool false) = wz at HP hy ⊢
        obtain ⟨y0, y1, y2, yf⟩ := cells3i hy
        refine bodyPost_ret (v := .agg #[.slice none 0 0, .slice none 0 0, .bool false]) (by simp [results, Try.results60, go_sem, y0, y1, y2]) rfl HP.out
      · go_enter Try.func60, Try.ntmps60
        go_wp2_with fail
        generalize w.alloc (.cells #[.slice none 0 0, .slice none 0 0, .bool false] 65) = w0 at *
        refine HRQ.out.mono ?_
        rintro e w1 ⟨v1, rfl, hb1, ho1, hk1⟩
        have HK1 := hidden ((HK0.out.mono (S' := fun k => k = rb) (fun k _ h => h.elim)).trans hk1)
        have HBX1 := hidden ((hk1.block _ (lt_of_block HBX.out) (by omega)).trans HBX.out)
        have HCX1 := hidden (HCX0.out.keep hk1 (by omega) (fun k e e2 => by have := hvr k e; omega))
        have HS1 := hidden (Nat.le_trans (Nat.le_of_eq HSZ.out.symm) hk1.size)
        have HV1 := hidden hb1
        obtain ⟨a1, c1, e1⟩ := hb1.len
        subst e1
        clear hb1 ho1 hk1 HRQ HCX0 HBX HK0 HSZ
        generalize hrn : rest.length = rn at HV1 hrest ⊢
        clear hrn
        have HF2 : Hid (Keeps (fun _ => False) w1 (w1.alloc (.cells #[.string S, .bool true, .slice a1 rn c1] 120))) := hidden ((Keeps.refl _ _).alloc _)
        have HQ2 := hidden (heap_alloc_new w1 (.cells #[.string S, .bool true, .slice a1 rn c1] 120))
        obtain ⟨bq, hbq⟩ : ∃ bq, bq = w1.heap.size := ⟨_, rfl⟩
        have hbq1 : w1.heap.size ≤ bq := by omega
        rw [← hbq] at HQ2
        have HCX2 := hidden (HCX1.out.still HF2.out)
        have HBL := hidden (HV1.out.alloc (.cells #[.string S, .bool true, .slice a1 rn c1] 120))
        go_upto_region 4 with fail
        rw [← hbq]
        clear hbq HV1
        generalize w1.alloc (.cells #[.string S, .bool true, .slice a1 rn c1] 120) = w2 at *
        obtain ⟨c0, c1', c2, c3, c4, c5, c6, c7, c8, cf⟩ := HCX2.out.cells
        rw [hod] at c1'
        obtain ⟨q0, q1, q2, qf⟩ := cells3i HQ2.out
        go_upto_region 5 with fail
        clear c0 c1' c2 c3 c4 c5 c6 c7 c8 cf q0 q1 q2 qf
        have HF3 := HF2
        have HQ3 := HQ2
        have HCX3 := HCX2
        clear HF2 HQ2 HCX2 HBL
        have HF4 : Hid (Keeps (fun _ => False) w1 (w2.alloc (.cells #[.slice none 0 0, .slice none 0 0, .bool false] 65))) := hidden (HF3.out.alloc _)
        have HO4 := hidden (heap_alloc_new w2 (.cells #[.slice none 0 0, .slice none 0 0, .bool false] 65))
        have HQ4 := hidden ((Below.heap_alloc w2 (.cells #[.slice none 0 0, .slice none 0 0, .bool false] 65) _ (lt_of_block HQ3.out)).trans HQ3.out)
        obtain ⟨bo, hbo⟩ : ∃ bo, bo = w2.heap.size := ⟨_, rfl⟩
        have hbo1 : w1.heap.size ≤ bo := by rw [hbo]; exact HF3.out.size
        have hbq2 : bq < bo := by rw [hbo]; exact lt_of_block HQ3.out
        have hal1 := HCX1.out.lt
        have hwl1 := HS1.out
        rw [← hbo] at HO4
        go_upto_region 6 with fail
        rw [← hbo]
        clear hbo HF3 HQ3 HCX3
        generalize w2.alloc (.cells #[.slice none 0 0, .slice none 0 0, .bool false] 65) = w4 at *
        have HO7 := HO4
        have HQ7 := HQ4
        have HCX5 := HCX1
        have HBX5 := HBX1
        have HK5 := hidden (HK1.out.mono (S' := fun k => k = a ∨ k = rb) (fun k _ h => Or.inr h))
        have HG7 := hidden (HF4.out.mono (S' := fun k => k = bo) (fun k _ h => h.elim))
        clear HO4 HQ4 HCX1 HBX1 HK1 HF4
        have HCX7 := hidden (HCX5.out.keep HG7.out (by omega) (fun k e e2 => by have := HVL.out k e; omega))
        obtain ⟨c0, c1', c2, c3, c4, c5, c6, c7, c8, cf⟩ := HCX7.out.cells
        obtain ⟨q0, q1, q2, qf⟩ := cells3i HQ7.out
        go_upto_region 12 with fail
        have HN := hidden (nsl_lit w4 [c.th])
        go_wp2_with fail
        refine (numbers_c 100 _ [c.th] _ HN.out (by intro j hj; match j, hj with | 0, _ => exact hth) (by simp)).mono ?_
        rintro e w8 ⟨v8, rfl, ho8, hb8⟩
        obtain ⟨a8, p8, e8⟩ := ownsRow_shape ho8
        subst e8
        rw [show byteOf ((100 : Nat) : Int) = 100 from rfl] at ho8 ⊢
        have hk9 : Keeps (fun _ => False) w4 (w8.alloc (.cells #[.slice a8 (numL 100 [c.th]).length p8] 30)) := (Keeps.ofFresh (below_alloc hb8)).alloc _
        have HLS := hidden (Lst.one (B := w4.heap.size) ho8 (by simp) hb8.size)
        have hbo7 := lt_of_block HO7.out
        have HO9 := hidden ((hk9.block _ (lt_of_block HO7.out) (fun h => h)).trans HO7.out)
        skip
        have HG9 := hidden (HG7.out.trans (hk9.mono (S' := fun k => k = bo) (fun k _ h => h.elim)))
        clear ho8 hb8 hk9 HN HO7 HQ7 HG7 HCX7 c0 c1' c2 c3 c4 c5 c6 c7 c8 cf q0 q1 q2 qf
        generalize (numL 100 [c.th]).length = n8 at *
        obtain ⟨g8, hg8⟩ : ∃ g8, g8 = w8.heap.size := ⟨_, rfl⟩
        rw [← hg8] at HLS
        obtain ⟨b0, b1, b2, bf⟩ := cells3i HO9.out
        go_upto_region 13 with fail
        rw [← hg8]
        clear hg8
        generalize w8.alloc (.cells #[.slice a8 n8 p8] 30) = w9 at *
        have HOA := hidden (set3i HO9.out (.slice (some ⟨g8, 0, none⟩) 1 1)).1
        have HLA := hidden (HLS.out.keep (keepsSet w9 bo 0 (.slice (some ⟨g8, 0, none⟩) 1 1)) (fun k e => by omega))
        skip
        have HGA := hidden (HG9.out.trans (keepsSet w9 bo 0 (.slice (some ⟨g8, 0, none⟩) 1 1)))
        have hwa := HG9.out.size
        clear HO9 HLS HG9 b0 b1 b2 bf
        generalize w9.setCell ⟨bo, 0, none⟩ (.slice (some ⟨g8, 0, none⟩) 1 1) = wA at *
        obtain ⟨b0, b1, b2, bf⟩ := cells3i HOA.out
        have HBXw := hidden ((HGA.out.block _ (lt_of_block HBX5.out) (by omega)).trans HBX5.out)
        have HKA : Hid (Keeps (fun k => k = a ∨ k = rb) w wA) := hidden ⟨HGA.out.os.trans HK5.out.os, HGA.out.tape.trans HK5.out.tape, HGA.out.output.trans HK5.out.output, Nat.le_trans HK5.out.size HGA.out.size, fun k h1 h2 => (HGA.out.block k (Nat.lt_of_lt_of_le h1 HK5.out.size) (by omega)).trans (HK5.out.block k h1 h2)⟩
        have HCXA := hidden (HCX5.out.keep HGA.out (by omega) (fun k e e2 => by have := HVL.out k e; omega))
        have HP := hidden (OutP.right (w := w) (w1 := wA) (rb := rb) (v := v) (v' := v) (oc := some c) (es := []) HKA.out hal (HLA.out.mono (by omega)) (Evs.nil' _ _ _) HCXA.out.blk (fun c e => by cases e; exact HCXA.out.held) (fun k e => e) HVL.out)
        clear HKA HCXA HGA HOA HCX5 HBX5 HK5
        obtain ⟨y0', y1', y2', yf'⟩ := cells3i HBXw.out
        have hy := putO_at (.slice (some ⟨g8, 0, none⟩) 1 1) (.slice none 0 0) false HBXw.out
        unfold putO at HP hy
        go_wp2_with fail
        generalize ((wA.setCell ⟨w.heap.size, 0, none⟩ (.slice (some ⟨g8, 0, none⟩) 1 1)).setCell ⟨w.heap.size, 1, none⟩ (.slice none 0 0)).setCell ⟨w.heap.size, 2, none⟩ (.bool false) = wz at HP hy ⊢
        obtain ⟨y0, y1, y2, yf⟩ := cells3i hy
        refine bodyPost_ret (v := .agg #[.slice (some ⟨g8, 0, none⟩) 1 1, .slice none 0 0, .bool false]) (by simp [results, Try.results60, go_sem, y0, y1, y2]) rfl HP.out
  · rw [if_neg hy]
    rw [decide_eq_false hy] at HRQ
    clear hy hrest' hrest
    go_enter Try.func60, Try.ntmps60
    go_wp2_with fail
    generalize w.alloc (.cells #[.slice none 0 0, .slice none 0 0, .bool false] 65) = w0 at *
    refine HRQ.out.mono ?_
    rintro e w1 ⟨v1, rfl, hb1, ho1, hk1⟩
    have HK1 := hidden ((HK0.out.mono (S' := fun k => k = rb) (fun k _ h => h.elim)).trans hk1)
    have HBX1 := hidden ((hk1.block _ (lt_of_block HBX.out) (by omega)).trans HBX.out)
    obtain ⟨a1, c1, e1⟩ := hb1.len
    subst e1
    have HBXw := hidden ((Below.heap_alloc w1 (.cells #[.string S, .bool wa, .slice a1 rest.length c1] 120) _ (lt_of_block HBX1.out)).trans HBX1.out)
    have HKw := hidden (HK1.out.alloc (.cells #[.string S, .bool wa, .slice a1 rest.length c1] 120))
    clear hb1 ho1 hk1 HRQ HCX0 HBX HK0 HSZ HK1 HBX1
    generalize rest.length = rn at *
    go_upto_region 2 with fail
    generalize w1.alloc (.cells #[.string S, .bool wa, .slice a1 rn c1] 120) = w3 at *
    have HP := hidden (OutP.wrong (i := i) (v := v) (A := A) (Z := Z) HKw.out (show a ≠ rb by omega) hal)
    obtain ⟨b0, b1, b2, bf⟩ := cells3i HBXw.out
    have hy := putO_at (.slice none 0 0) (.slice none 0 0) true HBXw.out
    unfold putO at HP hy
    go_wp2_with fail
    generalize ((w3.setCell ⟨w.heap.size, 0, none⟩ (.slice none 0 0)).setCell ⟨w.heap.size, 1, none⟩ (.slice none 0 0)).setCell ⟨w.heap.size, 2, none⟩ (.bool true) = wz at HP hy ⊢
    obtain ⟨y0, y1, y2, yf⟩ := cells3i hy
    refine bodyPost_ret (v := .agg #[.slice none 0 0, .slice none 0 0, .bool true]) (by simp [results, Try.results60, go_sem, y0, y1, y2]) rfl HP.out

/-- A box was made ahead of the call: what the call leaves, put into it. -/
theorem OutP.boxed {w w0 w1 : World} {a rb i : Nat} {v : Value} {A Z : List Value} {r : Out} {p1 p2 : Option Addr} {n1 q1 n2 q2 : Nat} {b : Bool} (hal : a < w.heap.size) (hk0 : Keeps (fun _ => False) w w0) (hsz : w0.heap.size = w.heap.size + 1) (hv : ∀ k, v.ownBlock = some k → k < w.heap.size) (hk : Keeps (fun k => k = a ∨ k = rb) w0 w1)
    (hp : (r = none ∧ b = true ∧ w1.heap[a]? = w0.heap[a]?) ∨
     ∃ oc ls es v', r = some (oc, ls, es) ∧ b = false ∧ Lst w0.heap.size w1 (.slice p1 n1 q1) ls ∧ Evs 51 w0.heap.size w1 (.slice p2 n2 q2) es ∧ w1.heap[a]? = some (.cells (A ++ pcells i oc v' ++ Z).toArray 61 (0, 0)) ∧ (∀ c, oc = some c → Held w1 v' c.wt) ∧ ∀ k, v'.ownBlock = some k → v.ownBlock = some k) :
    OutP w a rb i v A Z r (.returned (.agg #[.slice p1 n1 q1, .slice p2 n2 q2, .bool b])) (putO w1 w.heap.size (.slice p1 n1 q1) (.slice p2 n2 q2) b) := by
  have hp2 := putO_keeps w1 w.heap.size (.slice p1 n1 q1) (.slice p2 n2 q2) b
  have hkk : Keeps (fun k => k = a ∨ k = rb) w w1 := (hk0.mono (S' := fun k => k = a ∨ k = rb) (fun k _ h => h.elim)).trans hk
  rcases hp with ⟨rfl, rfl, h1⟩ | ⟨oc, ls, es, v', rfl, rfl, h1, h2, h3, h4, h5⟩
  · refine ⟨p1, n1, q1, p2, n2, q2, true, rfl, ⟨hp2.os.trans hkk.os, hp2.tape.trans hkk.tape, hp2.output.trans hkk.output, Nat.le_trans hkk.size hp2.size, fun k g1 g2 => (hp2.block k (Nat.lt_of_lt_of_le g1 hkk.size) (by omega)).trans (hkk.block k g1 g2)⟩, .inl ⟨rfl, rfl, ?_⟩⟩
    rw [hp2.block a (Nat.lt_of_lt_of_le hal hkk.size) (by omega), h1]
    exact hk0.block a hal (fun h => h)
  · rw [hsz] at h1 h2
    exact OutP.right hkk hal h1 h2 h3 h4 h5 hv

set_option maxHeartbeats 3200000 in
set_option maxRecDepth 100000 in
theorem chTake_c (k : Nat) (w : World) {L a o i rb : Nat} {c : Ch} {v : Value} {A Z : List Value} {g : Option Nat} {bs : List UInt8} {p : Nat} {why : Int} (h : CX w a o i c v A Z) (hok : Ok L c) (hL : L ≤ 1000000) (hr : WR w rb g bs p why) (har : a < rb) (hvr : ∀ k, v.ownBlock = some k → k < rb) (hne : bs ≠ []) (hbl : bs.length ≤ 1000000) :
    Calls Try.prog 41 #[.pointer (some ⟨a, o, none⟩), .int .i64 k, .pointer (some ⟨rb, 0, none⟩)] w fun e w' => OutP w a rb i v A Z (chO k c i bs p why) e w' := by
  have hal := h.lt
  have HVL := hidden h.held.lt
  have hrl := hr.lt
  have HBX := hidden (boxO_at w)
  have h0 := h.still (boxO_keeps w)
  have r0 := hr.same (boxO_keeps w)
  have HK0 := hidden (boxO_keeps w)
  have HSZ := hidden (boxO_size w)
  have HM1 := hidden (more_c (boxO w) h0 hok hL r0 har hvr)
  have HM2 := hidden (data_c (boxO w) h0 hok r0 har hvr)
  have HM3 := hidden (fin_c (boxO w) h0 r0 har)
  have HM4 := hidden (gone_c (boxO w) h0 hok r0 har)
  have HM5 := hidden (request_c (boxO w) h0 hok r0 har hvr hne hbl)
  clear h hr hok h0 r0 hne hbl
  unfold chO
  unfold boxO at HBX HK0 HSZ HM1 HM2 HM3 HM4 HM5
  by_cases hk : k = 93
  · rw [if_pos hk]
    have HM := HM1
    clear HM1 HM2 HM3 HM4 HM5
    generalize moreO c bs p why = r at *
    have t93 : ((k : Int) == 93) = true := by simp; omega
    go_enter Try.func41, Try.ntmps41
    go_wp2_with fail
    generalize w.alloc (.cells #[.slice none 0 0, .slice none 0 0, .bool false] 65) = w0 at *
    refine HM.out.mono ?_
    rintro e w1 ⟨p1, n1, q1, p2, n2, q2, b, rfl, hk1, hpost⟩
    have HBXw := hidden ((hk1.block _ (lt_of_block HBX.out) (by omega)).trans HBX.out)
    have HP := hidden (OutP.boxed hal HK0.out HSZ.out HVL.out hk1 hpost)
    clear hk1 hpost HM HBX HK0 HSZ
    cases b
    · obtain ⟨b0, b1, b2, bf⟩ := cells3i HBXw.out
      have hy := putO_at (.slice p1 n1 q1) (.slice p2 n2 q2) false HBXw.out
      unfold putO at HP hy
      go_wp2_with fail
      generalize ((w1.setCell ⟨w.heap.size, 0, none⟩ (.slice p1 n1 q1)).setCell ⟨w.heap.size, 1, none⟩ (.slice p2 n2 q2)).setCell ⟨w.heap.size, 2, none⟩ (.bool false) = wz at HP hy ⊢
      obtain ⟨y0, y1, y2, yf⟩ := cells3i hy
      refine bodyPost_ret (v := .agg #[.slice p1 n1 q1, .slice p2 n2 q2, .bool false]) (by simp [results, Try.results41, go_sem, y0, y1, y2]) rfl HP.out
    · obtain ⟨b0, b1, b2, bf⟩ := cells3i HBXw.out
      have hy := putO_at (.slice p1 n1 q1) (.slice p2 n2 q2) true HBXw.out
      unfold putO at HP hy
      go_wp2_with fail
      generalize ((w1.setCell ⟨w.heap.size, 0, none⟩ (.slice p1 n1 q1)).setCell ⟨w.heap.size, 1, none⟩ (.slice p2 n2 q2)).setCell ⟨w.heap.size, 2, none⟩ (.bool true) = wz at HP hy ⊢
      obtain ⟨y0, y1, y2, yf⟩ := cells3i hy
      refine bodyPost_ret (v := .agg #[.slice p1 n1 q1, .slice p2 n2 q2, .bool true]) (by simp [results, Try.results41, go_sem, y0, y1, y2]) rfl HP.out
  rw [if_neg hk]
  by_cases hk2 : k = 94
  · rw [if_pos hk2]
    have HM := HM2
    clear HM1 HM2 HM3 HM4 HM5
    generalize dataO c i bs p why = r at *
    have t93 : ((k : Int) == 93) = false := by simp; omega
    have t94 : ((k : Int) == 94) = true := by simp; omega
    go_enter Try.func41, Try.ntmps41
    go_wp2_with fail
    generalize w.alloc (.cells #[.slice none 0 0, .slice none 0 0, .bool false] 65) = w0 at *
    refine HM.out.mono ?_
    rintro e w1 ⟨p1, n1, q1, p2, n2, q2, b, rfl, hk1, hpost⟩
    have HBXw := hidden ((hk1.block _ (lt_of_block HBX.out) (by omega)).trans HBX.out)
    have HP := hidden (OutP.boxed hal HK0.out HSZ.out HVL.out hk1 hpost)
    clear hk1 hpost HM HBX HK0 HSZ
    cases b
    · obtain ⟨b0, b1, b2, bf⟩ := cells3i HBXw.out
      have hy := putO_at (.slice p1 n1 q1) (.slice p2 n2 q2) false HBXw.out
      unfold putO at HP hy
      go_wp2_with fail
      generalize ((w1.setCell ⟨w.heap.size, 0, none⟩ (.slice p1 n1 q1)).setCell ⟨w.heap.size, 1, none⟩ (.slice p2 n2 q2)).setCell ⟨w.heap.size, 2, none⟩ (.bool false) = wz at HP hy ⊢
      obtain ⟨y0, y1, y2, yf⟩ := cells3i hy
      refine bodyPost_ret (v := .agg #[.slice p1 n1 q1, .slice p2 n2 q2, .bool false]) (by simp [results, Try.results41, go_sem, y0, y1, y2]) rfl HP.out
    · obtain ⟨b0, b1, b2, bf⟩ := cells3i HBXw.out
      have hy := putO_at (.slice p1 n1 q1) (.slice p2 n2 q2) true HBXw.out
      unfold putO at HP hy
      go_wp2_with fail
      generalize ((w1.setCell ⟨w.heap.size, 0, none⟩ (.slice p1 n1 q1)).setCell ⟨w.heap.size, 1, none⟩ (.slice p2 n2 q2)).setCell ⟨w.heap.size, 2, none⟩ (.bool true) = wz at HP hy ⊢
      obtain ⟨y0, y1, y2, yf⟩ := cells3i hy
      refine bodyPost_ret (v := .agg #[.slice p1 n1 q1, .slice p2 n2 q2, .bool true]) (by simp [results, Try.results41, go_sem, y0, y1, y2]) rfl HP.out
  rw [if_neg hk2]
  by_cases hk3 : k = 96
  · rw [if_pos hk3]
    have HM := HM3
    clear HM1 HM2 HM3 HM4 HM5
    generalize finO c i bs p why = r at *
    have t93 : ((k : Int) == 93) = false := by simp; omega
    have t94 : ((k : Int) == 94) = false := by simp; omega
    have t96 : ((k : Int) == 96) = true := by simp; omega
    go_enter Try.func41, Try.ntmps41
    go_wp2_with fail
    generalize w.alloc (.cells #[.slice none 0 0, .slice none 0 0, .bool false] 65) = w0 at *
    refine HM.out.mono ?_
    rintro e w1 ⟨p1, n1, q1, p2, n2, q2, b, rfl, hk1, hpost⟩
    have HBXw := hidden ((hk1.block _ (lt_of_block HBX.out) (by omega)).trans HBX.out)
    have HP := hidden (OutP.boxed hal HK0.out HSZ.out HVL.out hk1 hpost)
    clear hk1 hpost HM HBX HK0 HSZ
    cases b
    · obtain ⟨b0, b1, b2, bf⟩ := cells3i HBXw.out
      have hy := putO_at (.slice p1 n1 q1) (.slice p2 n2 q2) false HBXw.out
      unfold putO at HP hy
      go_wp2_with fail
      generalize ((w1.setCell ⟨w.heap.size, 0, none⟩ (.slice p1 n1 q1)).setCell ⟨w.heap.size, 1, none⟩ (.slice p2 n2 q2)).setCell ⟨w.heap.size, 2, none⟩ (.bool false) = wz at HP hy ⊢
      obtain ⟨y0, y1, y2, yf⟩ := cells3i hy
      refine bodyPost_ret (v := .agg #[.slice p1 n1 q1, .slice p2 n2 q2, .bool false]) (by simp [results, Try.results41, go_sem, y0, y1, y2]) rfl HP.out
    · obtain ⟨b0, b1, b2, bf⟩ := cells3i HBXw.out
      have hy := putO_at (.slice p1 n1 q1) (.slice p2 n2 q2) true HBXw.out
      unfold putO at HP hy
      go_wp2_with fail
      generalize ((w1.setCell ⟨w.heap.size, 0, none⟩ (.slice p1 n1 q1)).setCell ⟨w.heap.size, 1, none⟩ (.slice p2 n2 q2)).setCell ⟨w.heap.size, 2, none⟩ (.bool true) = wz at HP hy ⊢
      obtain ⟨y0, y1, y2, yf⟩ := cells3i hy
      refine bodyPost_ret (v := .agg #[.slice p1 n1 q1, .slice p2 n2 q2, .bool true]) (by simp [results, Try.results41, go_sem, y0, y1, y2]) rfl HP.out
  rw [if_neg hk3]
  by_cases hk4 : k = 97
  · rw [if_pos hk4]
    have HM := HM4
    clear HM1 HM2 HM3 HM4 HM5
    generalize goneO c i bs p why = r at *
    have t93 : ((k : Int) == 93) = false := by simp; omega
    have t94 : ((k : Int) == 94) = false := by simp; omega
    have t96 : ((k : Int) == 96) = false := by simp; omega
    have t97 : ((k : Int) == 97) = true := by simp; omega
    go_enter Try.func41, Try.ntmps41
    go_wp2_with fail
    generalize w.alloc (.cells #[.slice none 0 0, .slice none 0 0, .bool false] 65) = w0 at *
    refine HM.out.mono ?_
    rintro e w1 ⟨p1, n1, q1, p2, n2, q2, b, rfl, hk1, hpost⟩
    have HBXw := hidden ((hk1.block _ (lt_of_block HBX.out) (by omega)).trans HBX.out)
    have HP := hidden (OutP.boxed hal HK0.out HSZ.out HVL.out hk1 hpost)
    clear hk1 hpost HM HBX HK0 HSZ
    cases b
    · obtain ⟨b0, b1, b2, bf⟩ := cells3i HBXw.out
      have hy := putO_at (.slice p1 n1 q1) (.slice p2 n2 q2) false HBXw.out
      unfold putO at HP hy
      go_wp2_with fail
      generalize ((w1.setCell ⟨w.heap.size, 0, none⟩ (.slice p1 n1 q1)).setCell ⟨w.heap.size, 1, none⟩ (.slice p2 n2 q2)).setCell ⟨w.heap.size, 2, none⟩ (.bool false) = wz at HP hy ⊢
      obtain ⟨y0, y1, y2, yf⟩ := cells3i hy
      refine bodyPost_ret (v := .agg #[.slice p1 n1 q1, .slice p2 n2 q2, .bool false]) (by simp [results, Try.results41, go_sem, y0, y1, y2]) rfl HP.out
    · obtain ⟨b0, b1, b2, bf⟩ := cells3i HBXw.out
      have hy := putO_at (.slice p1 n1 q1) (.slice p2 n2 q2) true HBXw.out
      unfold putO at HP hy
      go_wp2_with fail
      generalize ((w1.setCell ⟨w.heap.size, 0, none⟩ (.slice p1 n1 q1)).setCell ⟨w.heap.size, 1, none⟩ (.slice p2 n2 q2)).setCell ⟨w.heap.size, 2, none⟩ (.bool true) = wz at HP hy ⊢
      obtain ⟨y0, y1, y2, yf⟩ := cells3i hy
      refine bodyPost_ret (v := .agg #[.slice p1 n1 q1, .slice p2 n2 q2, .bool true]) (by simp [results, Try.results41, go_sem, y0, y1, y2]) rfl HP.out
  rw [if_neg hk4]
  by_cases hk5 : k = 98
  · rw [if_pos hk5]
    have HM := HM5
    clear HM1 HM2 HM3 HM4 HM5
    generalize reqO c i bs p why = r at *
    have t93 : ((k : Int) == 93) = false := by simp; omega
    have t94 : ((k : Int) == 94) = false := by simp; omega
    have t96 : ((k : Int) == 96) = false := by simp; omega
    have t97 : ((k : Int) == 97) = false := by simp; omega
    have t98 : ((k : Int) == 98) = true := by simp; omega
    go_enter Try.func41, Try.ntmps41
    go_wp2_with fail
    generalize w.alloc (.cells #[.slice none 0 0, .slice none 0 0, .bool false] 65) = w0 at *
    refine HM.out.mono ?_
    rintro e w1 ⟨p1, n1, q1, p2, n2, q2, b, rfl, hk1, hpost⟩
    have HBXw := hidden ((hk1.block _ (lt_of_block HBX.out) (by omega)).trans HBX.out)
    have HP := hidden (OutP.boxed hal HK0.out HSZ.out HVL.out hk1 hpost)
    clear hk1 hpost HM HBX HK0 HSZ
    cases b
    · obtain ⟨b0, b1, b2, bf⟩ := cells3i HBXw.out
      have hy := putO_at (.slice p1 n1 q1) (.slice p2 n2 q2) false HBXw.out
      unfold putO at HP hy
      go_wp2_with fail
      generalize ((w1.setCell ⟨w.heap.size, 0, none⟩ (.slice p1 n1 q1)).setCell ⟨w.heap.size, 1, none⟩ (.slice p2 n2 q2)).setCell ⟨w.heap.size, 2, none⟩ (.bool false) = wz at HP hy ⊢
      obtain ⟨y0, y1, y2, yf⟩ := cells3i hy
      refine bodyPost_ret (v := .agg #[.slice p1 n1 q1, .slice p2 n2 q2, .bool false]) (by simp [results, Try.results41, go_sem, y0, y1, y2]) rfl HP.out
    · obtain ⟨b0, b1, b2, bf⟩ := cells3i HBXw.out
      have hy := putO_at (.slice p1 n1 q1) (.slice p2 n2 q2) true HBXw.out
      unfold putO at HP hy
      go_wp2_with fail
      generalize ((w1.setCell ⟨w.heap.size, 0, none⟩ (.slice p1 n1 q1)).setCell ⟨w.heap.size, 1, none⟩ (.slice p2 n2 q2)).setCell ⟨w.heap.size, 2, none⟩ (.bool true) = wz at HP hy ⊢
      obtain ⟨y0, y1, y2, yf⟩ := cells3i hy
      refine bodyPost_ret (v := .agg #[.slice p1 n1 q1, .slice p2 n2 q2, .bool true]) (by simp [results, Try.results41, go_sem, y0, y1, y2]) rfl HP.out
  rw [if_neg hk5]
  clear HM1 HM2 HM3 HM4 HM5
  have t93 : ((k : Int) == 93) = false := by simp; omega
  have t94 : ((k : Int) == 94) = false := by simp; omega
  have t96 : ((k : Int) == 96) = false := by simp; omega
  have t97 : ((k : Int) == 97) = false := by simp; omega
  have t98 : ((k : Int) == 98) = false := by simp; omega
  go_enter Try.func41, Try.ntmps41
  go_wp2_with fail
  refine bodyPost_ret (v := .agg #[.slice none 0 0, .slice none 0 0, .bool true]) (by simp [results, Try.results41, go_sem]) rfl ⟨none, 0, 0, none, 0, 0, true, rfl, (Keeps.refl _ _).alloc _, .inl ⟨rfl, rfl, Below.heap_alloc w _ a hal⟩⟩
end Go.Proofs.Ytnimdbjbkoggdaa
