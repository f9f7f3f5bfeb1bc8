/- What a Mux's open does. -/
import Derived.Test.YtnimdbjbkoggdaaCnR
namespace Go.Proofs.Ytnimdbjbkoggdaa
open Go Go.RowKit

theorem store_cxg (w : World) (p : Addr) (m : Mode) (x y : Nat) : (store p (.complex .f64 x y) m).run Try.prog w = stored Try.prog w p (.complex .f64 x y) m := run_store Try.prog w p _ m rfl
/-- A channel's cells, put down one by one. -/
def openW (w : World) (a o f th x1 x2 x3 x4 : Nat) : World := ((((((((w.setCell ⟨a, o, none⟩ (.bool true)).setCell ⟨a, o + 1, none⟩ (.bool false)).setCell ⟨a, o + 2, none⟩ (.bool false)).setCell ⟨a, o + 3, none⟩ (.bool false)).setCell ⟨a, o + 4, none⟩ (.int .i64 (f : Int))).setCell ⟨a, o + 5, none⟩ (.int .u32 (th : Int))).setCell ⟨a, o + 6, none⟩ (.complex .f64 x1 x2)).setCell ⟨a, o + 7, none⟩ (.complex .f64 x3 x4)).setCell ⟨a, o + 8, none⟩ (.slice none 0 0)
def openCs (f th x1 x2 x3 x4 : Nat) : List Value := [.bool true, .bool false, .bool false, .bool false, .int .i64 (f : Int), .int .u32 (th : Int), .complex .f64 x1 x2, .complex .f64 x3 x4, .slice none 0 0]
theorem openW_eq (w : World) (a o f th x1 x2 x3 x4 : Nat) : w.setCells a o (openCs f th x1 x2 x3 x4) = openW w a o f th x1 x2 x3 x4 := rfl
theorem built_ch (f th x1 x2 x3 x4 : Nat) : Try.prog.built 58 [(0, .bool true), (4, .int .i64 (f : Int)), (5, .int .u32 (th : Int)), (6, .complex .f64 x1 x2), (7, .complex .f64 x3 x4)] = some #[.bool true, .bool false, .bool false, .bool false, .int .i64 (f : Int), .int .u32 (th : Int), .complex .f64 x1 x2, .complex .f64 x3 x4, .slice none 0 0] := by kernel_rfl
theorem all_open (f th x1 x2 x3 x4 : Nat) : (#[.bool true, .bool false, .bool false, .bool false, .int .i64 (f : Int), .int .u32 (th : Int), .complex .f64 x1 x2, .complex .f64 x3 x4, .slice none 0 0] : Array Value).all (·.oneCell') = true := by kernel_rfl
theorem there_mid {w : World} {a : Nat} {A M Z : List Value} {t : TypeId} {n : Nat} (h : w.heap[a]? = some (.cells (A ++ M ++ Z).toArray t (0, 0))) (hn : M.length = n) : w.there a A.length n := by
  intro j hj
  refine ⟨?_, frozen_row h _⟩
  rw [cell_mid h j (by omega)]
  simp [List.getElem?_eq_getElem (show j < M.length by omega)]
theorem conv_u (n : Nat) (h : n ≤ 4294967295) (w : World) : (convert 33 2 (.int .u32 (n : Int))).run Try.prog w = .ok (.int .i64 (n : Int)) w := by
  have hw := wrap_small (n : Int) (by omega) (by omega)
  have hk : Try.prog.intKind 2 = .i64 := by kernel_rfl
  have h1 := run_convert_int (P := Try.prog) (w := w) 33 2 .u32 (n : Int) (by rw [Try.underlying33]; rfl) (by rw [hk]; exact Try.underlying2)
  rw [hk, hw] at h1
  exact h1
/-- What a Mux's take leaves: it is wrong, or what becomes of the Mux, the answers and the events. -/
def TPost (w : World) (P : Nat → Prop) (a rb : Nat) (S : MS) (r : Option (MS × List (List UInt8) × List Ev)) (e : Ending) (w' : World) : Prop :=
  ∃ p1 n1 q1 p2 n2 q2 b, e = .returned (.agg #[.slice p1 n1 q1, .slice p2 n2 q2, .bool b]) ∧ Keeps (fun k => k = a ∨ k = rb) w w' ∧
    ((r = none ∧ b = true ∧ MX w' P a S) ∨
     ∃ S' ls es, r = some (S', ls, es) ∧ b = false ∧ Lst w.heap.size w' (.slice p1 n1 q1) ls ∧ Evs 51 w.heap.size w' (.slice p2 n2 q2) es ∧ MX w' P a S')
theorem TPost.wrong {w w1 : World} {P : Nat → Prop} {a rb : Nat} {S : MS} (h : MX w P a S) (hk : Keeps (fun k => k = rb) w w1) (hr : a ≠ rb) (hP : ¬ P rb) : TPost w P a rb S none (.returned (.agg #[.slice none 0 0, .slice none 0 0, .bool true])) (putO w1 w.heap.size (.slice none 0 0) (.slice none 0 0) true) := by
  have hp := putO_keeps w1 w.heap.size (.slice none 0 0) (.slice none 0 0) true
  have hk2 : Keeps (fun k => k = rb) w (putO w1 w.heap.size (.slice none 0 0) (.slice none 0 0) true) := ⟨hp.os.trans hk.os, hp.tape.trans hk.tape, hp.output.trans hk.output, Nat.le_trans hk.size hp.size, fun k h1 h2 => (hp.block k (Nat.lt_of_lt_of_le h1 hk.size) (by omega)).trans (hk.block k h1 h2)⟩
  exact ⟨none, 0, 0, none, 0, 0, true, rfl, hk2.mono (fun k _ h => Or.inr h), .inl ⟨rfl, rfl, h.keep hk2 hr (fun k hk e => hP (by rw [← e]; exact hk))⟩⟩
theorem TPost.right {w w1 : World} {P : Nat → Prop} {a rb : Nat} {S S' : MS} {ls : List (List UInt8)} {es : List Ev} {p1 p2 : Option Addr} {n1 q1 n2 q2 : Nat} (hal : a < w.heap.size) (hPl : ∀ k, P k → k < w.heap.size) (hk : Keeps (fun k => k = a ∨ k = rb) w w1)
    (hl : Lst (w.heap.size + 1) w1 (.slice p1 n1 q1) ls) (he : Evs 51 (w.heap.size + 1) w1 (.slice p2 n2 q2) es) (hm : MX w1 P a S') :
    TPost w P a rb S (some (S', ls, es)) (.returned (.agg #[.slice p1 n1 q1, .slice p2 n2 q2, .bool false])) (putO w1 w.heap.size (.slice p1 n1 q1) (.slice p2 n2 q2) false) := by
  have hp := putO_keeps w1 w.heap.size (.slice p1 n1 q1) (.slice p2 n2 q2) false
  refine ⟨p1, n1, q1, p2, n2, q2, false, rfl, ⟨hp.os.trans hk.os, hp.tape.trans hk.tape, hp.output.trans hk.output, Nat.le_trans hk.size hp.size, fun k h1 h2 => (hp.block k (Nat.lt_of_lt_of_le h1 hk.size) (by omega)).trans (hk.block k h1 h2)⟩, .inr ⟨S', ls, es, rfl, rfl, (hl.keep hp (fun k e => by omega)).mono (by omega), (he.keep hp (fun k e => by omega)).mono (by omega), hm.keep hp (by omega) (fun k h1 h2 => by have := hPl k h1; omega)⟩⟩

set_option maxHeartbeats 3200000 in
set_option maxRecDepth 100000 in
theorem open_c (w : World) {P : Nat → Prop} {a rb : Nat} {S : MS} {g : Option Nat} {bs : List UInt8} {p : Nat} {why : Int} (h : MX w P a S) (hS : S.cs.length = 4) (hr : WR w rb g bs p why) (har : a < rb) (hPR : ¬ P rb) (hne : bs ≠ []) :
    Calls Try.prog 39 #[.pointer (some ⟨a, 0, none⟩), .pointer (some ⟨rb, 0, none⟩)] w fun e w' => TPost w P a rb S (openO S bs p why) e w' := by
  have hal := h.aLt
  have HM := hidden h
  have HPL := hidden h.lt
  have HPR := hidden hPR
  have hrl := hr.lt
  have HRO := hidden (readOpening_c (boxO w) (hr.same (boxO_keeps w)) hne)
  have HBX := hidden (boxO_at w)
  have HK0 := hidden (boxO_keeps w)
  have HSZ := hidden (boxO_size w)
  have HLF : Hid (∀ w', MX w' P a S → _) := hidden fun w' h' => leastFree_c w' h' hS
  unfold openO openQ
  have hth := val4_lt _ (tk_len bs (tx bs p why 64).2.1 (tx bs p why 64).2.2 4)
  have hwin := val4_lt _ (tk_len bs (opA bs p why).2.1 (opA bs p why).2.2 4)
  have hmost := val4_lt _ (tk_len bs (opB bs p why).2.1 (opB bs p why).2.2 4)
  rw [show tk bs (tx bs p why 64).2.1 (tx bs p why 64).2.2 4 = opA bs p why from rfl] at hth
  rw [show tk bs (opA bs p why).2.1 (opA bs p why).2.2 4 = opB bs p why from rfl] at hwin
  rw [show tk bs (opB bs p why).2.1 (opB bs p why).2.2 4 = opC bs p why from rfl] at hmost
  generalize strB (tx bs p why 64).1 = K at *
  generalize val (opA bs p why).1 = th at *
  generalize val (opB bs p why).1 = win at *
  generalize val (opC bs p why).1 = most at *
  generalize (opC bs p why).2.2 = y at *
  obtain ⟨_, _, f3⟩ := free_spec S.cs
  rw [hS] at f3
  clear h hr hne hPR
  unfold boxO at HRO HBX HK0 HSZ
  by_cases hy : y = 0
  · rw [if_pos hy]
    rw [decide_eq_true hy] at HRO
    clear hy
    by_cases hK : K = strB sessB
    · have hst : (K.toList == [115, 101, 115, 115, 105, 111, 110]) = true := by rw [str_lit]; exact decide_eq_true hK
      rw [if_pos hK]
      clear hK
      generalize hff : freeO S.cs = f at *
      by_cases hf : f < 4
      · rw [if_pos hf, decide_eq_true hf] at HLF
        by_cases hmz : most = 0
        · rw [if_neg (fun h => h.2 hmz)]
          have hmb : ((most : Int) == 0) = true := by simp; omega
          clear hmz hff
          go_enter Try.func39, Try.ntmps39
          go_wp2_with fail
          generalize w.alloc (.cells #[.slice none 0 0, .slice none 0 0, .bool false] 65) = w0 at *
          refine HRO.out.mono ?_
          rintro e w1 ⟨rfl, hk1⟩
          have HK1 := hidden ((HK0.out.mono (S' := fun k => k = rb) (fun k _ h => h.elim)).trans hk1)
          have HBX1 := hidden ((hk1.block _ (lt_of_block HBX.out) (by omega)).trans HBX.out)
          have HS1 := hidden (Nat.le_trans (Nat.le_of_eq HSZ.out.symm) hk1.size)
          clear hk1 HRO HBX HK0 HSZ
          have HF2 : Hid (Keeps (fun _ => False) w1 (w1.alloc (.cells #[.string K, .int .u32 (th : Int), .int .u32 (win : Int), .int .u32 (most : Int)] 101))) := hidden ((Keeps.refl _ _).alloc _)
          have HO2 := hidden (heap_alloc_new w1 (.cells #[.string K, .int .u32 (th : Int), .int .u32 (win : Int), .int .u32 (most : Int)] 101))
          obtain ⟨bo, hbo⟩ : ∃ bo, bo = w1.heap.size := ⟨_, rfl⟩
          have hbo1 : w.heap.size < bo := by rw [hbo]; exact HS1.out
          rw [← hbo] at HO2
          go_upto_region 2 with fail
          rw [← hbo]
          clear hbo
          have HBX2 := hidden ((HF2.out.block _ (lt_of_block HBX1.out) (fun h => h)).trans HBX1.out)
          have HK2 := hidden (HK1.out.trans (HF2.out.mono (S' := fun k => k = rb) (fun k _ h => h.elim)))
          have HS2 := hidden (Nat.le_trans HS1.out HF2.out.size)
          clear HF2 HBX1 HK1 HS1
          generalize w1.alloc (.cells #[.string K, .int .u32 (th : Int), .int .u32 (win : Int), .int .u32 (most : Int)] 101) = w2 at *
          obtain ⟨o0, o1, o2, o3, of⟩ := cells4 HO2.out
          go_wp2_with fail
          refine (HLF.out _ (HM.out.keep HK2.out (by omega) (fun k hk e => HPR.out (by rw [← e]; exact hk)))).mono ?_
          rintro e w2 ⟨rfl, rfl⟩
          clear HLF
          go_wp2_with fail
          refine (refused_c th 4 hth (by omega) w2).mono ?_
          rintro e w6 ⟨v6, rfl, ho6, hb6⟩
          obtain ⟨a6, p6, e6⟩ := ownsRow_shape ho6
          subst e6
          have hk7 : Keeps (fun _ => False) w2 (w6.alloc (.cells #[.slice a6 (refL th 4).length p6] 30)) := (Keeps.ofFresh hb6).alloc _
          have HLS := hidden (Lst.one (B := w.heap.size + 1) ho6 HS2.out hb6.size)
          have HBXw := hidden ((hk7.block _ (lt_of_block HBX2.out) (fun h => h)).trans HBX2.out)
          have HKk := hidden (HK2.out.trans (hk7.mono (S' := fun k => k = rb) (fun k _ h => h.elim)))
          have HP := hidden (TPost.right (S := S) hal HPL.out (HKk.out.mono (S' := fun k => k = a ∨ k = rb) (fun k _ h => Or.inr h)) HLS.out (Evs.nil' _ _ _) (HM.out.keep HKk.out (by omega) (fun k hk e => HPR.out (by rw [← e]; exact hk))))
          clear ho6 hb6 hk7 HLS HKk HBX2 HK2 HS2 HO2 o0 o1 o2 o3 of HM
          generalize (refL th 4).length = n6 at *
          obtain ⟨b0, b1, b2, bf⟩ := cells3i HBXw.out
          have hy := putO_at (.slice (some ⟨w6.heap.size, 0, none⟩) 1 1) (.slice none 0 0) false HBXw.out
          unfold putO at HP hy
          go_wp2_with fail
          generalize (((w6.alloc (.cells #[.slice a6 n6 p6] 30)).setCell ⟨w.heap.size, 0, none⟩ (.slice (some ⟨w6.heap.size, 0, none⟩) 1 1)).setCell ⟨w.heap.size, 1, none⟩ (.slice none 0 0)).setCell ⟨w.heap.size, 2, none⟩ (.bool false) = wz at HP hy ⊢
          obtain ⟨y0, y1, y2, yf⟩ := cells3i hy
          refine bodyPost_ret (v := .agg #[.slice (some ⟨w6.heap.size, 0, none⟩) 1 1, .slice none 0 0, .bool false]) (by simp [results, Try.results39, go_sem, y0, y1, y2]) rfl HP.out
        · rw [if_pos ⟨hf, hmz⟩]
          have hmb : ((most : Int) == 0) = false := by simp; omega
          go_enter Try.func39, Try.ntmps39
          go_wp2_with fail
          generalize w.alloc (.cells #[.slice none 0 0, .slice none 0 0, .bool false] 65) = w0 at *
          refine HRO.out.mono ?_
          rintro e w1 ⟨rfl, hk1⟩
          have HK1 := hidden ((HK0.out.mono (S' := fun k => k = rb) (fun k _ h => h.elim)).trans hk1)
          have HBX1 := hidden ((hk1.block _ (lt_of_block HBX.out) (by omega)).trans HBX.out)
          have HS1 := hidden (Nat.le_trans (Nat.le_of_eq HSZ.out.symm) hk1.size)
          clear hk1 HRO HBX HK0 HSZ
          have HF2 : Hid (Keeps (fun _ => False) w1 (w1.alloc (.cells #[.string K, .int .u32 (th : Int), .int .u32 (win : Int), .int .u32 (most : Int)] 101))) := hidden ((Keeps.refl _ _).alloc _)
          have HO2 := hidden (heap_alloc_new w1 (.cells #[.string K, .int .u32 (th : Int), .int .u32 (win : Int), .int .u32 (most : Int)] 101))
          obtain ⟨bo, hbo⟩ : ∃ bo, bo = w1.heap.size := ⟨_, rfl⟩
          have hbo1 : w.heap.size < bo := by rw [hbo]; exact HS1.out
          rw [← hbo] at HO2
          go_upto_region 2 with fail
          rw [← hbo]
          clear hbo
          have HBX2 := hidden ((HF2.out.block _ (lt_of_block HBX1.out) (fun h => h)).trans HBX1.out)
          have HK2 := hidden (HK1.out.trans (HF2.out.mono (S' := fun k => k = rb) (fun k _ h => h.elim)))
          have HS2 := hidden (Nat.le_trans HS1.out HF2.out.size)
          clear HF2 HBX1 HK1 HS1
          generalize w1.alloc (.cells #[.string K, .int .u32 (th : Int), .int .u32 (win : Int), .int .u32 (most : Int)] 101) = w2 at *
          obtain ⟨o0, o1, o2, o3, of⟩ := cells4 HO2.out
          go_wp2_with fail
          refine (HLF.out _ (HM.out.keep HK2.out (by omega) (fun k hk e => HPR.out (by rw [← e]; exact hk)))).mono ?_
          rintro e w2 ⟨rfl, rfl⟩
          clear HLF
          go_upto_region 9 with fail
          have HOF := hidden (fun w' => of_c win most w')
          have HFW := hidden (fun w' => fullWindow_c w')
          obtain ⟨x1, hx1⟩ : ∃ x, x = nb win := ⟨_, rfl⟩
          obtain ⟨x2, hx2⟩ : ∃ x, x = nb (min most 32768) := ⟨_, rfl⟩
          obtain ⟨x3, hx3⟩ : ∃ x, x = nb 65536 := ⟨_, rfl⟩
          obtain ⟨x4, hx4⟩ : ∃ x, x = nb 32768 := ⟨_, rfl⟩
          rw [← hx1, ← hx2] at HOF
          rw [← hx3, ← hx4] at HFW
          have X1 := hidden hx1
          have X2 := hidden hx2
          have X3 := hidden hx3
          have X4 := hidden hx4
          have O1 := hidden o1
          have O2 := hidden o2
          have O3 := hidden o3
          have HFF := hidden hff
          clear hx1 hx2 hx3 hx4 o0 o1 o2 o3 of hff
          refine region_store [(.val (.pointer (some ⟨a, 0, none⟩))), (.val (.int .i64 (f : Int))), (.val (.int .i64 (f : Int))), (.val (.pointer (some ⟨bo, 1, none⟩))), (.val (.int .u32 (th : Int))), (.val (.pointer (some ⟨bo, 2, none⟩))), (.val (.int .u32 (win : Int))), (.val (.int .i64 (win : Int))), (.val (.pointer (some ⟨bo, 3, none⟩))), (.val (.int .u32 (most : Int))), (.val (.int .i64 (most : Int))), (.val (.complex .f64 x1 x2)), (.val (.complex .f64 x3 x4)), (.val (.agg #[.bool true, .bool false, .bool false, .bool false, .int .i64 (f : Int), .int .u32 (th : Int), .complex .f64 x1 x2, .complex .f64 x3 x4, .slice none 0 0])), (.val (.pointer (some ⟨a, 0, none⟩))), (.val (.pointer (some ⟨a, 0, none⟩))), (.val (.pointer (some ⟨a, f * 9, none⟩)))] 17 rfl (by kernel_rfl) ?_ (by kernel_rfl) (by kernel_rfl) 58 57 54 (by show _ = _; kernel_rfl) ?_
          · refine reqU_cons (.val (.pointer (some ⟨a, 0, none⟩))) (by kernel_rfl) (fun vs w1 he hd => gives_move (x := .tmp 0) (by kernel_rfl) (by kernel_rfl) ⟨Ex.refl _, rfl⟩) ?_
            refine reqU_cons (.val (.int .i64 (f : Int))) (by kernel_rfl) (fun vs w1 he hd => gives_move (x := .tmp 7) (by kernel_rfl) (by kernel_rfl) ⟨Ex.refl _, rfl⟩) ?_
            refine reqU_cons (.val (.int .i64 (f : Int))) (by kernel_rfl) (fun vs w1 he hd => gives_move (x := .tmp 7) (by kernel_rfl) (by kernel_rfl) ⟨Ex.refl _, rfl⟩) ?_
            refine reqU_cons (.val (.pointer (some ⟨bo, 1, none⟩))) (by kernel_rfl) (fun vs w1 he hd => gives_fieldO (x := .tmp 5) 1 (by decide) (by kernel_rfl) (by kernel_rfl) ⟨Ex.refl _, rfl⟩) ?_
            refine reqU_cons (.val (.int .u32 (th : Int))) (by kernel_rfl) (fun vs w1 he hd => gives_ld32 (x := .tmp 44) (by kernel_rfl) (Eq.trans (b := vs 3) (by kernel_rfl) (hd 3 (.val (.pointer (some ⟨bo, 1, none⟩))) (by decide) (by kernel_rfl) (by kernel_rfl))) (cell_ex O1.out he) ⟨Ex.refl _, rfl⟩) ?_
            refine reqU_cons (.val (.pointer (some ⟨bo, 2, none⟩))) (by kernel_rfl) (fun vs w1 he hd => gives_fieldO (x := .tmp 5) 2 (by decide) (by kernel_rfl) (by kernel_rfl) ⟨Ex.refl _, rfl⟩) ?_
            refine reqU_cons (.val (.int .u32 (win : Int))) (by kernel_rfl) (fun vs w1 he hd => gives_ld32 (x := .tmp 46) (by kernel_rfl) (Eq.trans (b := vs 5) (by kernel_rfl) (hd 5 (.val (.pointer (some ⟨bo, 2, none⟩))) (by decide) (by kernel_rfl) (by kernel_rfl))) (cell_ex O2.out he) ⟨Ex.refl _, rfl⟩) ?_
            refine reqU_cons (.val (.int .i64 (win : Int))) (by kernel_rfl) (fun vs w1 he hd => gives_conv (x := .tmp 47) (by kernel_rfl) (Eq.trans (b := vs 6) (by kernel_rfl) (hd 6 (.val (.int .u32 (win : Int))) (by decide) (by kernel_rfl) (by kernel_rfl))) (conv_u win hwin w1) ⟨Ex.refl _, rfl⟩) ?_
            refine reqU_cons (.val (.pointer (some ⟨bo, 3, none⟩))) (by kernel_rfl) (fun vs w1 he hd => gives_fieldO (x := .tmp 5) 3 (by decide) (by kernel_rfl) (by kernel_rfl) ⟨Ex.refl _, rfl⟩) ?_
            refine reqU_cons (.val (.int .u32 (most : Int))) (by kernel_rfl) (fun vs w1 he hd => gives_ld32 (x := .tmp 49) (by kernel_rfl) (Eq.trans (b := vs 8) (by kernel_rfl) (hd 8 (.val (.pointer (some ⟨bo, 3, none⟩))) (by decide) (by kernel_rfl) (by kernel_rfl))) (cell_ex O3.out he) ⟨Ex.refl _, rfl⟩) ?_
            refine reqU_cons (.val (.int .i64 (most : Int))) (by kernel_rfl) (fun vs w1 he hd => gives_conv (x := .tmp 50) (by kernel_rfl) (Eq.trans (b := vs 9) (by kernel_rfl) (hd 9 (.val (.int .u32 (most : Int))) (by decide) (by kernel_rfl) (by kernel_rfl))) (conv_u most hmost w1) ⟨Ex.refl _, rfl⟩) ?_
            refine reqU_cons (.val (.complex .f64 x1 x2)) (by kernel_rfl) (fun vs w1 he hd => gives_call (fn := Try.f54) (f := 54) (xs := #[.tmp 48, .tmp 51]) (ts := #[2, 2]) (vs := #[(.int .i64 (win : Int)), (.int .i64 (most : Int))]) (by kernel_rfl) (by kernel_rfl) (Eq.trans (b := #[vs 7, vs 10]) (by kernel_rfl) (by rw [show vs 7 = (.int .i64 (win : Int)) from (hd 7 (.val (.int .i64 (win : Int))) (by decide) (by kernel_rfl) (by kernel_rfl)), show vs 10 = (.int .i64 (most : Int)) from (hd 10 (.val (.int .i64 (most : Int))) (by decide) (by kernel_rfl) (by kernel_rfl))])) (by kernel_rfl) (by kernel_rfl) (by kernel_rfl) (told_val (HOF.out w1))) ?_
            refine reqU_cons (.val (.complex .f64 x3 x4)) (by kernel_rfl) (fun vs w1 he hd => gives_call (fn := Try.f55) (f := 55) (xs := #[]) (ts := #[]) (vs := #[]) (by kernel_rfl) (by kernel_rfl) (by kernel_rfl) (by kernel_rfl) (by kernel_rfl) (by kernel_rfl) (told_val (HFW.out w1))) ?_
            refine reqU_cons (.val (.agg #[.bool true, .bool false, .bool false, .bool false, .int .i64 (f : Int), .int .u32 (th : Int), .complex .f64 x1 x2, .complex .f64 x3 x4, .slice none 0 0])) (by kernel_rfl) (fun vs w1 he hd => gives_build (t := 58) (parts := #[(0, .const (.bool true)), (4, .tmp 43), (5, .tmp 45), (6, .tmp 52), (7, .tmp 53)]) (by kernel_rfl) (Eq.trans (b := Try.prog.built 58 [(0, .bool true), (4, vs 2), (5, vs 4), (6, vs 11), (7, vs 12)]) (by kernel_rfl) (by rw [show vs 2 = (.int .i64 (f : Int)) from (hd 2 (.val (.int .i64 (f : Int))) (by decide) (by kernel_rfl) (by kernel_rfl)), show vs 4 = (.int .u32 (th : Int)) from (hd 4 (.val (.int .u32 (th : Int))) (by decide) (by kernel_rfl) (by kernel_rfl)), show vs 11 = (.complex .f64 x1 x2) from (hd 11 (.val (.complex .f64 x1 x2)) (by decide) (by kernel_rfl) (by kernel_rfl)), show vs 12 = (.complex .f64 x3 x4) from (hd 12 (.val (.complex .f64 x3 x4)) (by decide) (by kernel_rfl) (by kernel_rfl))]; exact built_ch f th x1 x2 x3 x4)) ⟨Ex.refl _, rfl⟩) ?_
            refine reqU_cons (.val (.pointer (some ⟨a, 0, none⟩))) (by kernel_rfl) (fun vs w1 he hd => gives_nilc (x := .tmp 41) (by kernel_rfl) (Eq.trans (b := vs 0) (by kernel_rfl) (hd 0 (.val (.pointer (some ⟨a, 0, none⟩))) (by decide) (by kernel_rfl) (by kernel_rfl))) ⟨Ex.refl _, rfl⟩) ?_
            refine reqU_cons (.val (.pointer (some ⟨a, 0, none⟩))) (by kernel_rfl) (fun vs w1 he hd => gives_fieldM (x := .tmp 55) (by kernel_rfl) (Eq.trans (b := vs 14) (by kernel_rfl) (hd 14 (.val (.pointer (some ⟨a, 0, none⟩))) (by decide) (by kernel_rfl) (by kernel_rfl))) ⟨Ex.refl _, rfl⟩) ?_
            refine reqU_cons (.val (.pointer (some ⟨a, f * 9, none⟩))) (by kernel_rfl) (fun vs w1 he hd => gives_idx4 (x := .tmp 56) (y := .tmp 42) hf (by kernel_rfl) (Eq.trans (b := vs 15) (by kernel_rfl) (hd 15 (.val (.pointer (some ⟨a, 0, none⟩))) (by decide) (by kernel_rfl) (by kernel_rfl))) (Eq.trans (b := vs 1) (by kernel_rfl) (hd 1 (.val (.int .i64 (f : Int))) (by decide) (by kernel_rfl) (by kernel_rfl))) ⟨Ex.refl _, rfl⟩) reqU_nil
          · intro vs w5 o5 he hF ho hdst
            have e16 : vs 16 = (.pointer (some ⟨a, f * 9, none⟩)) := told_at hF 16 (.val (.pointer (some ⟨a, f * 9, none⟩))) (by decide) (by kernel_rfl)
            have e13 : vs 13 = (.agg #[.bool true, .bool false, .bool false, .bool false, .int .i64 (f : Int), .int .u32 (th : Int), .complex .f64 x1 x2, .complex .f64 x3 x4, .slice none 0 0]) := told_at hF 13 (.val (.agg #[.bool true, .bool false, .bool false, .bool false, .int .i64 (f : Int), .int .u32 (th : Int), .complex .f64 x1 x2, .complex .f64 x3 x4, .slice none 0 0])) (by decide) (by kernel_rfl)
            have e0 : vs 0 = (.pointer (some ⟨a, 0, none⟩)) := told_at hF 0 (.val (.pointer (some ⟨a, 0, none⟩))) (by decide) (by kernel_rfl)
            have hk3 : Keeps (fun _ => False) w2 w5 := Keeps.ofFresh he
            have hm5 := (HM.out.keep HK2.out (by omega) (fun k hk e => HPR.out (by rw [← e]; exact hk))).still hk3
            have hfn : S.cs.getD f none = none := by
              have := (free_spec S.cs).2.1
              rw [HFF.out, hS] at this
              simpa using this hf
            obtain ⟨v, A, Z, hblk, hAl, _, hvP, hput⟩ := hm5.at hS f hf
            rw [hfn] at hblk
            have hth5 : w5.there a (f * 9) (#[.bool true, .bool false, .bool false, .bool false, .int .i64 (f : Int), .int .u32 (th : Int), .complex .f64 x1 x2, .complex .f64 x3 x4, .slice none 0 0] : Array Value).size := by
              rw [← hAl]
              exact there_mid hblk rfl
            refine wp_store_mid 58 (.tmp 57) (.tmp 54) ho a (f * 9) _ (Eq.trans (b := vs 16) (by kernel_rfl) e16) (Eq.trans (b := vs 13) (by kernel_rfl) e13) hth5 Try.infoCh (all_open f th x1 x2 x3 x4) ?_
            rw [hdst]
            have hW6 : (w5.setCells a (f * 9) (openCs f th x1 x2 x3 x4)).heap[a]? = some (.cells (A ++ pcells f (some (newC th win most)) (.slice none 0 0) ++ Z).toArray 61 (0, 0)) := by
              rw [← hAl]
              refine (setCells_mid _ _ A w5 (by rw [pcells_length]; rfl) hblk).trans ?_
              unfold openCs
              rw [X1.out, X2.out, X3.out, X4.out]
              rfl
            have hk6 := setCells_keeps a (openCs f th x1 x2 x3 x4) (f * 9) w5
            have HM6 := hidden (hput _ (fun k => k = a) P (some (newC th win most)) (.slice none 0 0) hW6 (fun c e => by cases e; exact Held.nil _) (fun k e => by simp [Value.ownBlock] at e) hk6 (fun k hp e => absurd (by rw [← e]; exact hp) hm5.na) (fun k hp => hp) (fun k e => by simp [Value.ownBlock] at e) hm5.na (fun k hp => Nat.lt_of_lt_of_le (hm5.lt k hp) hk6.size))
            have HO6 := hidden ((hk6.block _ (Nat.lt_of_lt_of_le (lt_of_block HO2.out) hk3.size) (by omega)).trans ((hk3.block _ (lt_of_block HO2.out) (fun h => h)).trans HO2.out))
            have HBX6 := hidden ((hk6.block _ (Nat.lt_of_lt_of_le (lt_of_block HBX2.out) hk3.size) (by omega)).trans ((hk3.block _ (lt_of_block HBX2.out) (fun h => h)).trans HBX2.out))
            have HK6 := hidden (((HK2.out.trans (hk3.mono (S' := fun k => k = rb) (fun k _ h => h.elim))).mono (S' := fun k => k = a ∨ k = rb) (fun k _ h => Or.inr h)).trans (hk6.mono (fun k _ e => Or.inl e)))
            have HS6 := hidden (Nat.le_trans HS2.out (Nat.le_trans hk3.size hk6.size))
            simp only [actsTo, if_true, dstOf, List.getElem?_toArray, List.getElem?_cons_succ, List.getElem?_cons_zero, Option.bind_some, Act.put, List.setIfInBounds_toArray, List.set_cons_zero, List.set_cons_succ]
            clear hF e16 e13 e0 he hk3 hm5 hfn hblk hAl hvP hput hth5 hW6 hk6 X1 X2 X3 X4 O1 O2 O3 HOF HFW HO2 HBX2 HK2 HS2
            generalize hw6 : w5.setCells a (f * 9) _ = w6
            have hw6' : w5.setCells a (f * 9) (openCs f th x1 x2 x3 x4) = w6 := hw6
            rw [hw6'] at HM6 HO6 HBX6 HK6 HS6
            clear hw6 hw6'
            obtain ⟨y0, y1, y2, y3, yf⟩ := cells4 HO6.out
            have HN := hidden (nsl_lit w6 [th, f, 65536, 32768])
            go_wp2_with fail
            refine (numbers_c 91 _ [th, f, 65536, 32768] _ HN.out (by intro j hj; match j, hj with | 0, _ => exact hth | 1, _ => show f ≤ _; omega | 2, _ => show 65536 ≤ _; omega | 3, _ => show 32768 ≤ _; omega) (by simp)).mono ?_
            rintro e w8 ⟨v8, rfl, ho8, hb8⟩
            obtain ⟨a8, p8, e8⟩ := ownsRow_shape ho8
            subst e8
            rw [show byteOf ((91 : Nat) : Int) = 91 from rfl] at ho8 ⊢
            have hk9 : Keeps (fun _ => False) w6 (w8.alloc (.cells #[.slice a8 (numL 91 [th, f, 65536, 32768]).length p8] 30)) := (Keeps.ofFresh (below_alloc hb8)).alloc _
            have HLS := hidden (Lst.one (B := w.heap.size + 1) ho8 (by have := HS6.out; simp; omega) hb8.size)
            have HBXw := hidden ((hk9.block _ (lt_of_block HBX6.out) (fun h => h)).trans HBX6.out)
            have HP := hidden (TPost.right (S := S) hal HPL.out (HK6.out.trans (hk9.mono (S' := fun k => k = a ∨ k = rb) (fun k _ h => h.elim))) HLS.out (Evs.nil' _ _ _) (HM6.out.still hk9))
            clear ho8 hb8 hk9 HLS HN HM6 HO6 HBX6 HK6 HS6 y0 y1 y2 y3 yf
            generalize (numL 91 [th, f, 65536, 32768]).length = n8 at *
            obtain ⟨b0, b1, b2, bf⟩ := cells3i HBXw.out
            have hy := putO_at (.slice (some ⟨w8.heap.size, 0, none⟩) 1 1) (.slice none 0 0) false HBXw.out
            unfold putO at HP hy
            go_wp2_with fail
            generalize (((w8.alloc (.cells #[.slice a8 n8 p8] 30)).setCell ⟨w.heap.size, 0, none⟩ (.slice (some ⟨w8.heap.size, 0, none⟩) 1 1)).setCell ⟨w.heap.size, 1, none⟩ (.slice none 0 0)).setCell ⟨w.heap.size, 2, none⟩ (.bool false) = wz at HP hy ⊢
            obtain ⟨y0, y1, y2, yf⟩ := cells3i hy
            refine bodyPost_ret (v := .agg #[.slice (some ⟨w8.heap.size, 0, none⟩) 1 1, .slice none 0 0, .bool false]) (by simp [results, Try.results39, go_sem, y0, y1, y2]) rfl HP.out
      · rw [if_neg hf, decide_eq_false hf] at HLF
        rw [if_neg (fun h => hf h.1)]
        clear hff
        go_enter Try.func39, Try.ntmps39
        go_wp2_with fail
        generalize w.alloc (.cells #[.slice none 0 0, .slice none 0 0, .bool false] 65) = w0 at *
        refine HRO.out.mono ?_
        rintro e w1 ⟨rfl, hk1⟩
        have HK1 := hidden ((HK0.out.mono (S' := fun k => k = rb) (fun k _ h => h.elim)).trans hk1)
        have HBX1 := hidden ((hk1.block _ (lt_of_block HBX.out) (by omega)).trans HBX.out)
        have HS1 := hidden (Nat.le_trans (Nat.le_of_eq HSZ.out.symm) hk1.size)
        clear hk1 HRO HBX HK0 HSZ
        have HF2 : Hid (Keeps (fun _ => False) w1 (w1.alloc (.cells #[.string K, .int .u32 (th : Int), .int .u32 (win : Int), .int .u32 (most : Int)] 101))) := hidden ((Keeps.refl _ _).alloc _)
        have HO2 := hidden (heap_alloc_new w1 (.cells #[.string K, .int .u32 (th : Int), .int .u32 (win : Int), .int .u32 (most : Int)] 101))
        obtain ⟨bo, hbo⟩ : ∃ bo, bo = w1.heap.size := ⟨_, rfl⟩
        have hbo1 : w.heap.size < bo := by rw [hbo]; exact HS1.out
        rw [← hbo] at HO2
        go_upto_region 2 with fail
        rw [← hbo]
        clear hbo
        have HBX2 := hidden ((HF2.out.block _ (lt_of_block HBX1.out) (fun h => h)).trans HBX1.out)
        have HK2 := hidden (HK1.out.trans (HF2.out.mono (S' := fun k => k = rb) (fun k _ h => h.elim)))
        have HS2 := hidden (Nat.le_trans HS1.out HF2.out.size)
        clear HF2 HBX1 HK1 HS1
        generalize w1.alloc (.cells #[.string K, .int .u32 (th : Int), .int .u32 (win : Int), .int .u32 (most : Int)] 101) = w2 at *
        obtain ⟨o0, o1, o2, o3, of⟩ := cells4 HO2.out
        go_wp2_with fail
        refine (HLF.out _ (HM.out.keep HK2.out (by omega) (fun k hk e => HPR.out (by rw [← e]; exact hk)))).mono ?_
        rintro e w2 ⟨rfl, rfl⟩
        clear HLF
        go_wp2_with fail
        refine (refused_c th 4 hth (by omega) w2).mono ?_
        rintro e w6 ⟨v6, rfl, ho6, hb6⟩
        obtain ⟨a6, p6, e6⟩ := ownsRow_shape ho6
        subst e6
        have hk7 : Keeps (fun _ => False) w2 (w6.alloc (.cells #[.slice a6 (refL th 4).length p6] 30)) := (Keeps.ofFresh hb6).alloc _
        have HLS := hidden (Lst.one (B := w.heap.size + 1) ho6 HS2.out hb6.size)
        have HBXw := hidden ((hk7.block _ (lt_of_block HBX2.out) (fun h => h)).trans HBX2.out)
        have HKk := hidden (HK2.out.trans (hk7.mono (S' := fun k => k = rb) (fun k _ h => h.elim)))
        have HP := hidden (TPost.right (S := S) hal HPL.out (HKk.out.mono (S' := fun k => k = a ∨ k = rb) (fun k _ h => Or.inr h)) HLS.out (Evs.nil' _ _ _) (HM.out.keep HKk.out (by omega) (fun k hk e => HPR.out (by rw [← e]; exact hk))))
        clear ho6 hb6 hk7 HLS HKk HBX2 HK2 HS2 HO2 o0 o1 o2 o3 of HM
        generalize (refL th 4).length = n6 at *
        obtain ⟨b0, b1, b2, bf⟩ := cells3i HBXw.out
        have hy := putO_at (.slice (some ⟨w6.heap.size, 0, none⟩) 1 1) (.slice none 0 0) false HBXw.out
        unfold putO at HP hy
        go_wp2_with fail
        generalize (((w6.alloc (.cells #[.slice a6 n6 p6] 30)).setCell ⟨w.heap.size, 0, none⟩ (.slice (some ⟨w6.heap.size, 0, none⟩) 1 1)).setCell ⟨w.heap.size, 1, none⟩ (.slice none 0 0)).setCell ⟨w.heap.size, 2, none⟩ (.bool false) = wz at HP hy ⊢
        obtain ⟨y0, y1, y2, yf⟩ := cells3i hy
        refine bodyPost_ret (v := .agg #[.slice (some ⟨w6.heap.size, 0, none⟩) 1 1, .slice none 0 0, .bool false]) (by simp [results, Try.results39, go_sem, y0, y1, y2]) rfl HP.out
    · have hst : (K.toList == [115, 101, 115, 115, 105, 111, 110]) = false := by rw [str_lit]; exact decide_eq_false hK
      rw [if_neg hK]
      clear hK HLF
      go_enter Try.func39, Try.ntmps39
      go_wp2_with fail
      generalize w.alloc (.cells #[.slice none 0 0, .slice none 0 0, .bool false] 65) = w0 at *
      refine HRO.out.mono ?_
      rintro e w1 ⟨rfl, hk1⟩
      have HK1 := hidden ((HK0.out.mono (S' := fun k => k = rb) (fun k _ h => h.elim)).trans hk1)
      have HBX1 := hidden ((hk1.block _ (lt_of_block HBX.out) (by omega)).trans HBX.out)
      have HS1 := hidden (Nat.le_trans (Nat.le_of_eq HSZ.out.symm) hk1.size)
      clear hk1 HRO HBX HK0 HSZ
      have HF2 : Hid (Keeps (fun _ => False) w1 (w1.alloc (.cells #[.string K, .int .u32 (th : Int), .int .u32 (win : Int), .int .u32 (most : Int)] 101))) := hidden ((Keeps.refl _ _).alloc _)
      have HO2 := hidden (heap_alloc_new w1 (.cells #[.string K, .int .u32 (th : Int), .int .u32 (win : Int), .int .u32 (most : Int)] 101))
      obtain ⟨bo, hbo⟩ : ∃ bo, bo = w1.heap.size := ⟨_, rfl⟩
      have hbo1 : w.heap.size < bo := by rw [hbo]; exact HS1.out
      rw [← hbo] at HO2
      go_upto_region 2 with fail
      rw [← hbo]
      clear hbo
      have HBX2 := hidden ((HF2.out.block _ (lt_of_block HBX1.out) (fun h => h)).trans HBX1.out)
      have HK2 := hidden (HK1.out.trans (HF2.out.mono (S' := fun k => k = rb) (fun k _ h => h.elim)))
      have HS2 := hidden (Nat.le_trans HS1.out HF2.out.size)
      clear HF2 HBX1 HK1 HS1
      generalize w1.alloc (.cells #[.string K, .int .u32 (th : Int), .int .u32 (win : Int), .int .u32 (most : Int)] 101) = w2 at *
      obtain ⟨o0, o1, o2, o3, of⟩ := cells4 HO2.out
      go_wp2_with fail
      refine (refused_c th 3 hth (by omega) w2).mono ?_
      rintro e w6 ⟨v6, rfl, ho6, hb6⟩
      obtain ⟨a6, p6, e6⟩ := ownsRow_shape ho6
      subst e6
      have hk7 : Keeps (fun _ => False) w2 (w6.alloc (.cells #[.slice a6 (refL th 3).length p6] 30)) := (Keeps.ofFresh hb6).alloc _
      have HLS := hidden (Lst.one (B := w.heap.size + 1) ho6 HS2.out hb6.size)
      have HBXw := hidden ((hk7.block _ (lt_of_block HBX2.out) (fun h => h)).trans HBX2.out)
      have HKk := hidden (HK2.out.trans (hk7.mono (S' := fun k => k = rb) (fun k _ h => h.elim)))
      have HP := hidden (TPost.right (S := S) hal HPL.out (HKk.out.mono (S' := fun k => k = a ∨ k = rb) (fun k _ h => Or.inr h)) HLS.out (Evs.nil' _ _ _) (HM.out.keep HKk.out (by omega) (fun k hk e => HPR.out (by rw [← e]; exact hk))))
      clear ho6 hb6 hk7 HLS HKk HBX2 HK2 HS2 HO2 o0 o1 o2 o3 of HM
      generalize (refL th 3).length = n6 at *
      obtain ⟨b0, b1, b2, bf⟩ := cells3i HBXw.out
      have hy := putO_at (.slice (some ⟨w6.heap.size, 0, none⟩) 1 1) (.slice none 0 0) false HBXw.out
      unfold putO at HP hy
      go_wp2_with fail
      generalize (((w6.alloc (.cells #[.slice a6 n6 p6] 30)).setCell ⟨w.heap.size, 0, none⟩ (.slice (some ⟨w6.heap.size, 0, none⟩) 1 1)).setCell ⟨w.heap.size, 1, none⟩ (.slice none 0 0)).setCell ⟨w.heap.size, 2, none⟩ (.bool false) = wz at HP hy ⊢
      obtain ⟨y0, y1, y2, yf⟩ := cells3i hy
      refine bodyPost_ret (v := .agg #[.slice (some ⟨w6.heap.size, 0, none⟩) 1 1, .slice none 0 0, .bool false]) (by simp [results, Try.results39, go_sem, y0, y1, y2]) rfl HP.out
  · rw [if_neg hy]
    rw [decide_eq_false hy] at HRO
    clear hy HLF
    go_enter Try.func39, Try.ntmps39
    go_wp2_with fail
    generalize w.alloc (.cells #[.slice none 0 0, .slice none 0 0, .bool false] 65) = w0 at *
    refine HRO.out.mono ?_
    rintro e w1 ⟨rfl, hk1⟩
    have HK1 := hidden ((HK0.out.mono (S' := fun k => k = rb) (fun k _ h => h.elim)).trans hk1)
    have HBX1 := hidden ((hk1.block _ (lt_of_block HBX.out) (by omega)).trans HBX.out)
    have HS1 := hidden (Nat.le_trans (Nat.le_of_eq HSZ.out.symm) hk1.size)
    clear hk1 HRO HBX HK0 HSZ
    have HF2 : Hid (Keeps (fun _ => False) w1 (w1.alloc (.cells #[.string K, .int .u32 (th : Int), .int .u32 (win : Int), .int .u32 (most : Int)] 101))) := hidden ((Keeps.refl _ _).alloc _)
    have HO2 := hidden (heap_alloc_new w1 (.cells #[.string K, .int .u32 (th : Int), .int .u32 (win : Int), .int .u32 (most : Int)] 101))
    obtain ⟨bo, hbo⟩ : ∃ bo, bo = w1.heap.size := ⟨_, rfl⟩
    have hbo1 : w.heap.size < bo := by rw [hbo]; exact HS1.out
    rw [← hbo] at HO2
    go_upto_region 2 with fail
    rw [← hbo]
    clear hbo
    have HBX2 := hidden ((HF2.out.block _ (lt_of_block HBX1.out) (fun h => h)).trans HBX1.out)
    have HK2 := hidden (HK1.out.trans (HF2.out.mono (S' := fun k => k = rb) (fun k _ h => h.elim)))
    have HS2 := hidden (Nat.le_trans HS1.out HF2.out.size)
    clear HF2 HBX1 HK1 HS1
    generalize w1.alloc (.cells #[.string K, .int .u32 (th : Int), .int .u32 (win : Int), .int .u32 (most : Int)] 101) = w2 at *
    have HBXw := HBX2
    have HKw := HK2
    have HP := hidden (TPost.wrong HM.out HKw.out (show a ≠ rb by omega) HPR.out)
    obtain ⟨b0, b1, b2, bf⟩ := cells3i HBXw.out
    have hy := putO_at (.slice none 0 0) (.slice none 0 0) true HBXw.out
    unfold putO at HP hy
    go_wp2_with fail
    generalize ((w2.setCell ⟨w.heap.size, 0, none⟩ (.slice none 0 0)).setCell ⟨w.heap.size, 1, none⟩ (.slice none 0 0)).setCell ⟨w.heap.size, 2, none⟩ (.bool true) = wz at HP hy ⊢
    obtain ⟨y0, y1, y2, yf⟩ := cells3i hy
    refine bodyPost_ret (v := .agg #[.slice none 0 0, .slice none 0 0, .bool true]) (by simp [results, Try.results39, go_sem, y0, y1, y2]) rfl HP.out
end Go.Proofs.Ytnimdbjbkoggdaa
