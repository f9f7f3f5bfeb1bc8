/- The document's start. -/
import Derived.Test.YtnimdbjbkoggdaaGreatDmA
namespace Go.Proofs.YtnimdbjbkoggdaaGreat
open Go Go.RowKit

theorem QDPost.after {w w4 w' : World} {P : Nat → Prop} {a rb : Nat} {r : MS × List (List UInt8) × List Ev} {e : Ending} (hk : Keeps (fun k => k = rb) w w4) (h : QDPost w4 P a (fun k => k = a) r e w') : QDPost w P a (fun k => k = a ∨ k = rb) r e w' := by
  obtain ⟨u1, u2, e1, h1, h2, h3, h4⟩ := h
  exact ⟨u1, u2, e1, h1.mono hk.size, h2.mono hk.size, h3, (hk.mono (fun k _ e => Or.inr e)).trans (h4.mono (fun k _ e => Or.inl e))⟩
theorem QX.read {w w4 : World} {P : Nat → Prop} {a rb : Nat} {S : MS} (h : QX w P a S) (har : a < rb) (hPR : ¬ P rb) (hk : Keeps (fun k => k = rb) w w4) : QX w4 P a S := h.keep hk (by omega) (fun k hp e => hPR (by rw [← e]; exact hp))
/-- The least free channel from j on. -/
def FV (cs : List (Option Ch)) (j : Nat) (z : Int) : Prop := (z = -1 ∧ ∀ k, j ≤ k → k < 4 → (cs.getD k none).isSome = true) ∨ ∃ n : Nat, z = n ∧ j ≤ n ∧ n < 4 ∧ (cs.getD n none).isSome = false ∧ ∀ k, j ≤ k → k < n → (cs.getD k none).isSome = true
theorem FV.yes {cs : List (Option Ch)} {i : Nat} {z : Int} (h : FV cs (i + 1) z) (hb : (cs.getD i none).isSome = true) : FV cs i z := by
  rcases h with ⟨h1, h2⟩ | ⟨n, h1, h2, h3, h4, h5⟩
  · refine .inl ⟨h1, fun k k1 k2 => ?_⟩
    by_cases e : k = i
    · rw [e]; exact hb
    · exact h2 k (by omega) k2
  · refine .inr ⟨n, h1, by omega, h3, h4, fun k k1 k2 => ?_⟩
    by_cases e : k = i
    · rw [e]; exact hb
    · exact h5 k (by omega) k2
theorem FV.no {cs : List (Option Ch)} {i : Nat} (hi : i < 4) (hb : (cs.getD i none).isSome = false) : FV cs i (i : Int) := .inr ⟨i, rfl, Nat.le_refl _, hi, hb, fun k k1 k2 => by omega⟩
theorem FV.fin {cs : List (Option Ch)} {z : Int} (h : FV cs 0 z) (hS : cs.length = 4) : (freeO cs < 4 → z = (freeO cs : Nat)) ∧ (¬ freeO cs < 4 → z = -1) := by
  obtain ⟨f1, f2, f3⟩ := free_spec cs
  rw [hS] at f2 f3
  rcases h with ⟨h1, h2⟩ | ⟨n, h1, h2, h3, h4, h5⟩
  · refine ⟨fun hf => ?_, fun _ => h1⟩
    have := h2 _ (Nat.zero_le _) hf
    rw [f2 hf] at this
    cases this
  · have e : freeO cs = n := by
      rcases Nat.lt_trichotomy (freeO cs) n with hh | hh | hh
      · have := h5 _ (Nat.zero_le _) hh
        rw [f2 (by omega)] at this
        cases this
      · exact hh
      · have := f1 n hh
        rw [h4] at this
        cases this
    exact ⟨fun _ => by rw [h1, e], fun hf => absurd h3 (by rw [← e]; exact hf)⟩
theorem Tryz.infoQc : (Tryz.prog.info? 33).map (·.size) = some 8 := by kernel_rfl
def openQs (th x1 x2 : Nat) : List Value := [.bool true, .bool false, .bool false, .bool false, .int .u32 (th : Int), .complex .f64 x1 x2, .int .i64 65536, .slice none 0 0]
theorem built_qc (th x1 x2 : Nat) : Tryz.prog.built 33 [(0, .bool true), (4, .int .u32 (th : Int)), (5, .complex .f64 x1 x2), (6, .int .i64 65536)] = some #[.bool true, .bool false, .bool false, .bool false, .int .u32 (th : Int), .complex .f64 x1 x2, .int .i64 65536, .slice none 0 0] := by kernel_rfl
theorem all_qc (th x1 x2 : Nat) : (#[.bool true, .bool false, .bool false, .bool false, .int .u32 (th : Int), .complex .f64 x1 x2, .int .i64 65536, .slice none 0 0] : Array Value).all (·.oneCell') = true := by kernel_rfl
section
variable {o : Oper} {ρ : Operand → Value} {w : World} {Φ : Value → World → Prop} {x y z : Operand} {v vx : Value}
theorem gives_fieldQ {g : Nat} (ho : o.op = .fieldAddr 36 x 0) (hx : ρ x = .pointer (some ⟨g, 0, none⟩)) (h : Φ (.pointer (some ⟨g, 0, none⟩)) w) : Gives Tryz.prog o ρ w Φ := by
  refine Gives.value (w' := w) (v := .pointer (some ⟨g, 0, none⟩)) ?_ h
  unfold execOp
  simp only [ho, hx]
  simp [Instr.fieldAt, run_underlying Tryz.underlying36, Instr.sureAddr, fieldPlace, Addr.add]
theorem gives_idxQ {g i : Nat} (hi : i < 4) (ho : o.op = .indexAddr 34 x y) (hx : ρ x = .pointer (some ⟨g, 0, none⟩)) (hy : ρ y = .int .i64 (i : Int)) (h : Φ (.pointer (some ⟨g, i * 8, none⟩)) w) : Gives Tryz.prog o ρ w Φ := by
  refine Gives.value (w' := w) (v := .pointer (some ⟨g, i * 8, none⟩)) ?_ h
  unfold execOp
  simp only [ho, hx, hy]
  have e : i = 0 ∨ i = 1 ∨ i = 2 ∨ i = 3 := by omega
  rcases e with rfl | rfl | rfl | rfl <;> simp [Instr.indexAt, go_sem, run_underlying Tryz.underlying34, Instr.sureAddr, Addr.add]
end
theorem refL_q (th y : Nat) : numL (byteOf ((92 : Nat) : Int)) [th, y] ++ textBytes (⟨#[]⟩ : ByteArray).data.toList ++ textBytes (⟨#[]⟩ : ByteArray).data.toList = refL th y := by
  rw [show byteOf ((92 : Nat) : Int) = 92 from rfl, List.append_assoc]
  rfl

set_option maxHeartbeats 3200000 in
set_option maxRecDepth 100000 in
theorem start_q (w : World) {P : Nat → Prop} {a rb : Nat} {S : MS} {g : Option Nat} {bs : List UInt8} {p : Nat} {why : Int} (h : QX w P a S) (hS : S.cs.length = 4) (hr : QR w rb g bs p why) (har : a < rb) (hPR : ¬ P rb) :
    Calls Tryz.prog 41 #[.pointer (some ⟨a, 0, none⟩), .pointer (some ⟨rb, 0, none⟩)] w fun e w' => QDPost w P a (fun k => k = a ∨ k = rb) ((openO S bs p why).getD (⟨S.cs, true⟩, [byeL 2], [])) e w' := by
  have HM := hidden h
  have HPR := hidden hPR
  have hal := h.aLt
  have HT : Hid (Calls Tryz.prog 63 #[.pointer (some ⟨rb, 0, none⟩), .int .i64 64] w fun e w' => QPost rb g bs (tx bs p why 64) (.string (strB (tx bs p why 64).1)) w e w') := hidden (qtext_c 64 (by omega) (by omega) w hr)
  have HA : Hid (∀ w', QR w' rb g bs (tx bs p why 64).2.1 (tx bs p why 64).2.2 → Calls Tryz.prog 42 #[.pointer (some ⟨rb, 0, none⟩)] w' fun e w2 => QPost rb g bs (opA bs p why) (.int .u32 (val (opA bs p why).1)) w' e w2) := hidden fun w' h' => qu32_c w' h'
  have HB : Hid (∀ w', QR w' rb g bs (opA bs p why).2.1 (opA bs p why).2.2 → Calls Tryz.prog 42 #[.pointer (some ⟨rb, 0, none⟩)] w' fun e w2 => QPost rb g bs (opB bs p why) (.int .u32 (val (opB bs p why).1)) w' e w2) := hidden fun w' h' => qu32_c w' h'
  have HC : Hid (∀ w', QR w' rb g bs (opB bs p why).2.1 (opB bs p why).2.2 → Calls Tryz.prog 42 #[.pointer (some ⟨rb, 0, none⟩)] w' fun e w2 => QPost rb g bs (opC bs p why) (.int .u32 (val (opC bs p why).1)) w' e w2) := hidden fun w' h' => qu32_c w' h'
  have hth := val4_lt _ (tk_len bs (tx bs p why 64).2.1 (tx bs p why 64).2.2 4)
  have hwin := val4_lt _ (tk_len bs (opA bs p why).2.1 (opA bs p why).2.2 4)
  have hmost := val4_lt _ (tk_len bs (opB bs p why).2.1 (opB bs p why).2.2 4)
  rw [show tk bs (tx bs p why 64).2.1 (tx bs p why 64).2.2 4 = opA bs p why from rfl] at hth
  rw [show tk bs (opA bs p why).2.1 (opA bs p why).2.2 4 = opB bs p why from rfl] at hwin
  rw [show tk bs (opB bs p why).2.1 (opB bs p why).2.2 4 = opC bs p why from rfl] at hmost
  unfold openO openQ
  generalize strB (tx bs p why 64).1 = KD at *
  generalize hop : opC bs p why = oc at *
  generalize opB bs p why = ob at *
  generalize opA bs p why = oa at *
  generalize tx bs p why 64 = tt at *
  generalize val oa.1 = th at *
  generalize val ob.1 = win at *
  generalize val oc.1 = most at *
  clear hop h hr hPR
  by_cases hy : oc.2.2 = 0
  · rw [if_pos hy]
    by_cases hK : KD = strB sessB
    · rw [if_pos hK]
      have hst : (KD.toList == [115, 101, 115, 115, 105, 111, 110]) = true := by rw [str_lit]; exact decide_eq_true hK
      clear hK
      generalize hff : freeO S.cs = f at *
      have HFF := hidden hff
      by_cases hfr : f < 4
      · have hf := hfr
        by_cases hmz : most = 0
        · rw [if_neg (fun h => h.2 hmz)]
          rw [Option.getD_some]
          go_enter Tryz.func41, Tryz.ntmps41
          go_wp2_with fail
          refine HT.out.mono ?_
          rintro e w1 ⟨rfl, t1⟩
          go_wp2_with fail
          refine (HA.out _ t1.state).mono ?_
          rintro e w2 ⟨rfl, t2⟩
          go_wp2_with fail
          refine (HB.out _ t2.state).mono ?_
          rintro e w3 ⟨rfl, t3⟩
          go_wp2_with fail
          refine (HC.out _ t3.state).mono ?_
          rintro e w4 ⟨rfl, t4⟩
          have HK4 : Hid (Keeps (fun k => k = rb) w w4) := hidden (((t1.keeps.trans t2.keeps).trans t3.keeps).trans t4.keeps)
          have HM4 := hidden (HM.out.read har HPR.out HK4.out)
          obtain ⟨q4, rf, r1, r2, r3, r4⟩ := t4.state.cell2
          have hrf := (r3 hy).1
          subst hrf
          clear t1 t2 t3 t4 HT HA HB HC r1 r3 r4
          go_wp2_with fail
          go_loopw [10, 11] (fun tf ti wr => ∃ (j : Nat) (z : Int), j ≤ 4 ∧ ti = .int .i64 ((j : Int) - 1) ∧ tf = .int .i64 z ∧ FV S.cs j z ∧ wr = w4) (fun _ ti _ => (intOf ti + 1).toNat)
          case atStart => exact ⟨4, -1, by omega, rfl, rfl, .inl ⟨rfl, fun k k1 k2 => by omega⟩, rfl⟩
          case round =>
            obtain ⟨j, z, hj, rfl, rfl, hv, rfl⟩ := hrel
            have HV := hidden hv
            clear hv
            cases j with
            | succ i =>
              rw [show ((i + 1 : Nat) : Int) - 1 = (i : Int) by omega]
              have i1 : (0 : Int) ≤ (i : Int) := by omega
              have i2 : (i : Int) < 4 := by omega
              have hi4 : i < 4 := by omega
              have k1 := HM4.out.openCell hS i hi4
              unfold chAt at k1
              cases hb : (S.cs.getD i none).isSome
              · rw [hb] at k1
                go_wp2_with fail
                go_roundw
                case rel => exact ⟨i, i, by omega, by go_num, rfl, FV.no hi4 hb, trivial⟩
                case measure => simp [intOf]
              · rw [hb] at k1
                go_wp2_with fail
                go_roundw
                case rel => exact ⟨i, z, by omega, by go_num, rfl, HV.out.yes hb, trivial⟩
                case measure => simp [intOf]
            | zero =>
              have hz := HV.out.fin hS
              rw [hff] at hz
              rw [show ((0 : Nat) : Int) - 1 = -1 by omega]
              clear HV
              rw [hz.1 hfr]
              clear hz
              have g1 : ¬ (f : Int) < 0 := by omega
              have hmb : ((most : Int) == 0) = true := by simp; omega
              go_wp2_with fail
              have HN := hidden (nsl_lit wr [th, 4])
              refine (uq_c 92 _ [th, 4] _ HN.out (by intro j hj; match j, hj with | 0, _ => exact hth | 1, _ => show 4 ≤ _; omega) (by simp) (by simp)).mono ?_
              rintro e w5 ⟨v5, rfl, ho5, hb5⟩
              have HB5 := hidden (BSl.ofRow ho5)
              obtain ⟨a5, p5, e5⟩ := ownsRow_shape ho5
              subst e5
              have hl5 : (numL (byteOf ((92 : Nat) : Int)) [th, 4]).length ≤ 100 := by rw [numL_len]; simp
              have HL5 := hidden hl5
              have HB05 := hidden (below_alloc hb5)
              clear ho5 hb5 HN hl5
              go_wp2_with fail
              refine (rtext_c ⟨#[]⟩ (by decide) _ _ w5 HB5.out (by have h0 : (⟨#[]⟩ : ByteArray).size = 0 := rfl; rw [h0]; have := HL5.out; omega)).mono ?_
              rintro e w6 ⟨v6, rfl, ho6, hb6⟩
              have HB6 := hidden (BSl.ofRow ho6)
              have HB06 := hidden (HB05.out.trans (hb6.mono HB05.out.size))
              obtain ⟨a6, p6, e6⟩ := ownsRow_shape ho6
              subst e6
              clear ho6 hb6 HB5 HB05
              go_wp2_with fail
              refine (rtext_c ⟨#[]⟩ (by decide) _ _ w6 HB6.out (by have h0 : (⟨#[]⟩ : ByteArray).size = 0 := rfl; rw [h0, List.length_append, show (textBytes (⟨#[]⟩ : ByteArray).data.toList).length = 4 from rfl]; have := HL5.out; omega)).mono ?_
              rintro e w7 ⟨v7, rfl, ho7, hb7⟩
              have HB07 := hidden (HB06.out.trans (hb7.mono HB06.out.size))
              rw [refL_q] at ho7
              obtain ⟨a7, p7, e7⟩ := ownsRow_shape ho7
              subst e7
              have HP : Hid (QDPost w P a (fun k => k = a ∨ k = rb) (S, [refL th 4], []) (.returned (.tuple #[.slice (some ⟨w7.heap.size, 0, none⟩) 1 1, .slice none 0 0])) (w7.alloc (.cells #[.slice a7 (refL th 4).length p7] 22))) := by
                have hk8 : Keeps (fun _ => False) wr (w7.alloc (.cells #[.slice a7 (refL th 4).length p7] 22)) := (Keeps.ofFresh HB07.out).alloc _
                refine hidden (QDPost.after HK4.out ⟨_, _, rfl, Lst.one ho7 HB06.out.size hb7.size, Evs.nil' _ _ _, HM4.out.still hk8, hk8.mono (fun k _ h => h.elim)⟩)
              clear ho7 hb7 HB06 HB07 HB6 HL5
              generalize (refL th 4).length = n7 at *
              go_wp2_with fail
              go_ret2
              exact HP.out
        · rw [if_pos ⟨hfr, hmz⟩]
          rw [Option.getD_some]
          go_enter Tryz.func41, Tryz.ntmps41
          go_wp2_with fail
          refine HT.out.mono ?_
          rintro e w1 ⟨rfl, t1⟩
          go_wp2_with fail
          refine (HA.out _ t1.state).mono ?_
          rintro e w2 ⟨rfl, t2⟩
          go_wp2_with fail
          refine (HB.out _ t2.state).mono ?_
          rintro e w3 ⟨rfl, t3⟩
          go_wp2_with fail
          refine (HC.out _ t3.state).mono ?_
          rintro e w4 ⟨rfl, t4⟩
          have HK4 : Hid (Keeps (fun k => k = rb) w w4) := hidden (((t1.keeps.trans t2.keeps).trans t3.keeps).trans t4.keeps)
          have HM4 := hidden (HM.out.read har HPR.out HK4.out)
          obtain ⟨q4, rf, r1, r2, r3, r4⟩ := t4.state.cell2
          have hrf := (r3 hy).1
          subst hrf
          clear t1 t2 t3 t4 HT HA HB HC r1 r3 r4
          go_wp2_with fail
          go_loopw [10, 11] (fun tf ti wr => ∃ (j : Nat) (z : Int), j ≤ 4 ∧ ti = .int .i64 ((j : Int) - 1) ∧ tf = .int .i64 z ∧ FV S.cs j z ∧ wr = w4) (fun _ ti _ => (intOf ti + 1).toNat)
          case atStart => exact ⟨4, -1, by omega, rfl, rfl, .inl ⟨rfl, fun k k1 k2 => by omega⟩, rfl⟩
          case round =>
            obtain ⟨j, z, hj, rfl, rfl, hv, rfl⟩ := hrel
            have HV := hidden hv
            clear hv
            cases j with
            | succ i =>
              rw [show ((i + 1 : Nat) : Int) - 1 = (i : Int) by omega]
              have i1 : (0 : Int) ≤ (i : Int) := by omega
              have i2 : (i : Int) < 4 := by omega
              have hi4 : i < 4 := by omega
              have k1 := HM4.out.openCell hS i hi4
              unfold chAt at k1
              cases hb : (S.cs.getD i none).isSome
              · rw [hb] at k1
                go_wp2_with fail
                go_roundw
                case rel => exact ⟨i, i, by omega, by go_num, rfl, FV.no hi4 hb, trivial⟩
                case measure => simp [intOf]
              · rw [hb] at k1
                go_wp2_with fail
                go_roundw
                case rel => exact ⟨i, z, by omega, by go_num, rfl, HV.out.yes hb, trivial⟩
                case measure => simp [intOf]
            | zero =>
              have hz := HV.out.fin hS
              rw [hff] at hz
              rw [show ((0 : Nat) : Int) - 1 = -1 by omega]
              clear HV
              rw [hz.1 hfr]
              clear hz
              have g1 : ¬ (f : Int) < 0 := by omega
              have hmb : ((most : Int) == 0) = false := by simp; omega
              go_upto_region 20 with fail
              have HOF := hidden (fun w' => rof_g win most w')
              obtain ⟨x1, hx1⟩ : ∃ x, x = nb win := ⟨_, rfl⟩
              obtain ⟨x2, hx2⟩ : ∃ x, x = nb (min most 32768) := ⟨_, rfl⟩
              rw [← hx1, ← hx2] at HOF
              have X1 := hidden hx1
              have X2 := hidden hx2
              clear hx1 hx2 r2
              refine region_store [(.val (.pointer (some ⟨a, 0, none⟩))), (.val (.int .i64 (f : Int))), (.val (.int .u32 (th : Int))), (.val (.int .u32 (win : Int))), (.val (.int .i64 (win : Int))), (.val (.int .u32 (most : Int))), (.val (.int .i64 (most : Int))), (.val (.complex .f64 x1 x2)), (.val (.agg #[.bool true, .bool false, .bool false, .bool false, .int .u32 (th : Int), .complex .f64 x1 x2, .int .i64 65536, .slice none 0 0])), (.val (.pointer (some ⟨a, 0, none⟩))), (.val (.pointer (some ⟨a, 0, none⟩))), (.val (.pointer (some ⟨a, f * 8, none⟩)))] 12 rfl (by kernel_rfl) ?_ (by kernel_rfl) (by kernel_rfl) 33 70 67 (by show _ = _; kernel_rfl) ?_
              · refine reqU_cons (.val (.pointer (some ⟨a, 0, none⟩))) (by kernel_rfl) (fun vs w1 he hd => gives_move (x := .tmp 0) (by kernel_rfl) (by kernel_rfl) ⟨Ex.refl _, rfl⟩) ?_
                refine reqU_cons (.val (.int .i64 (f : Int))) (by kernel_rfl) (fun vs w1 he hd => gives_move (x := .tmp 10) (by kernel_rfl) (by kernel_rfl) ⟨Ex.refl _, rfl⟩) ?_
                refine reqU_cons (.val (.int .u32 (th : Int))) (by kernel_rfl) (fun vs w1 he hd => gives_move (x := .tmp 7) (by kernel_rfl) (by kernel_rfl) ⟨Ex.refl _, rfl⟩) ?_
                refine reqU_cons (.val (.int .u32 (win : Int))) (by kernel_rfl) (fun vs w1 he hd => gives_move (x := .tmp 8) (by kernel_rfl) (by kernel_rfl) ⟨Ex.refl _, rfl⟩) ?_
                refine reqU_cons (.val (.int .i64 (win : Int))) (by kernel_rfl) (fun vs w1 he hd => gives_conv (x := .tmp 62) (by kernel_rfl) (Eq.trans (b := vs 3) (by kernel_rfl) (hd 3 (.val (.int .u32 (win : Int))) (by decide) (by kernel_rfl) (by kernel_rfl))) (conv_u win hwin w1) ⟨Ex.refl _, rfl⟩) ?_
                refine reqU_cons (.val (.int .u32 (most : Int))) (by kernel_rfl) (fun vs w1 he hd => gives_move (x := .tmp 9) (by kernel_rfl) (by kernel_rfl) ⟨Ex.refl _, rfl⟩) ?_
                refine reqU_cons (.val (.int .i64 (most : Int))) (by kernel_rfl) (fun vs w1 he hd => gives_conv (x := .tmp 64) (by kernel_rfl) (Eq.trans (b := vs 5) (by kernel_rfl) (hd 5 (.val (.int .u32 (most : Int))) (by decide) (by kernel_rfl) (by kernel_rfl))) (conv_u most hmost w1) ⟨Ex.refl _, rfl⟩) ?_
                refine reqU_cons (.val (.complex .f64 x1 x2)) (by kernel_rfl) (fun vs w1 he hd => gives_call (fn := Tryz.f64) (f := 64) (xs := #[.tmp 63, .tmp 65]) (ts := #[2, 2]) (vs := #[(.int .i64 (win : Int)), (.int .i64 (most : Int))]) (by kernel_rfl) (by kernel_rfl) (Eq.trans (b := #[vs 4, vs 6]) (by kernel_rfl) (by rw [show vs 4 = (.int .i64 (win : Int)) from (hd 4 (.val (.int .i64 (win : Int))) (by decide) (by kernel_rfl) (by kernel_rfl)), show vs 6 = (.int .i64 (most : Int)) from (hd 6 (.val (.int .i64 (most : Int))) (by decide) (by kernel_rfl) (by kernel_rfl))])) (by kernel_rfl) (by kernel_rfl) (by kernel_rfl) (told_val (HOF.out w1))) ?_
                refine reqU_cons (.val (.agg #[.bool true, .bool false, .bool false, .bool false, .int .u32 (th : Int), .complex .f64 x1 x2, .int .i64 65536, .slice none 0 0])) (by kernel_rfl) (fun vs w1 he hd => gives_build (t := 33) (parts := #[(0, .const (.bool true)), (4, .tmp 61), (5, .tmp 66), (6, .const (.int .i64 65536))]) (by kernel_rfl) (Eq.trans (b := Tryz.prog.built 33 [(0, .bool true), (4, vs 2), (5, vs 7), (6, .int .i64 65536)]) (by kernel_rfl) (by rw [show vs 2 = (.int .u32 (th : Int)) from (hd 2 (.val (.int .u32 (th : Int))) (by decide) (by kernel_rfl) (by kernel_rfl)), show vs 7 = (.complex .f64 x1 x2) from (hd 7 (.val (.complex .f64 x1 x2)) (by decide) (by kernel_rfl) (by kernel_rfl))]; exact built_qc th x1 x2)) ⟨Ex.refl _, rfl⟩) ?_
                refine reqU_cons (.val (.pointer (some ⟨a, 0, none⟩))) (by kernel_rfl) (fun vs w1 he hd => gives_nilc (x := .tmp 59) (by kernel_rfl) (Eq.trans (b := vs 0) (by kernel_rfl) (hd 0 (.val (.pointer (some ⟨a, 0, none⟩))) (by decide) (by kernel_rfl) (by kernel_rfl))) ⟨Ex.refl _, rfl⟩) ?_
                refine reqU_cons (.val (.pointer (some ⟨a, 0, none⟩))) (by kernel_rfl) (fun vs w1 he hd => gives_fieldQ (x := .tmp 68) (by kernel_rfl) (Eq.trans (b := vs 9) (by kernel_rfl) (hd 9 (.val (.pointer (some ⟨a, 0, none⟩))) (by decide) (by kernel_rfl) (by kernel_rfl))) ⟨Ex.refl _, rfl⟩) ?_
                refine reqU_cons (.val (.pointer (some ⟨a, f * 8, none⟩))) (by kernel_rfl) (fun vs w1 he hd => gives_idxQ (x := .tmp 69) (y := .tmp 60) hf (by kernel_rfl) (Eq.trans (b := vs 10) (by kernel_rfl) (hd 10 (.val (.pointer (some ⟨a, 0, none⟩))) (by decide) (by kernel_rfl) (by kernel_rfl))) (Eq.trans (b := vs 1) (by kernel_rfl) (hd 1 (.val (.int .i64 (f : Int))) (by decide) (by kernel_rfl) (by kernel_rfl))) ⟨Ex.refl _, rfl⟩) reqU_nil
              · intro vs w5 o5 he hF ho hdst
                have e11 : vs 11 = (.pointer (some ⟨a, f * 8, none⟩)) := told_at hF 11 (.val (.pointer (some ⟨a, f * 8, none⟩))) (by decide) (by kernel_rfl)
                have e8 : vs 8 = (.agg #[.bool true, .bool false, .bool false, .bool false, .int .u32 (th : Int), .complex .f64 x1 x2, .int .i64 65536, .slice none 0 0]) := told_at hF 8 (.val (.agg #[.bool true, .bool false, .bool false, .bool false, .int .u32 (th : Int), .complex .f64 x1 x2, .int .i64 65536, .slice none 0 0])) (by decide) (by kernel_rfl)
                have hk3 : Keeps (fun _ => False) wr w5 := Keeps.ofFresh he
                have hm5 := HM4.out.still hk3
                have hfn : S.cs.getD f none = none := by
                  have := (free_spec S.cs).2.1
                  rw [HFF.out, hS] at this
                  simpa using this hf
                obtain ⟨v, A, Z, hblk, hAl, _, hvP, hput⟩ := hm5.at hS f hf
                rw [hfn] at hblk
                have hth5 : w5.there a (f * 8) (#[.bool true, .bool false, .bool false, .bool false, .int .u32 (th : Int), .complex .f64 x1 x2, .int .i64 65536, .slice none 0 0] : Array Value).size := by
                  rw [← hAl]
                  exact there_mid hblk rfl
                refine wp_store_mid 33 (.tmp 70) (.tmp 67) ho a (f * 8) _ (Eq.trans (b := vs 11) (by kernel_rfl) e11) (Eq.trans (b := vs 8) (by kernel_rfl) e8) hth5 Tryz.infoQc (all_qc th x1 x2) ?_
                rw [hdst]
                have hW6 : (w5.setCells a (f * 8) (openQs th x1 x2)).heap[a]? = some (.cells (A ++ qcells (some (newC th win most)) (.slice none 0 0) ++ Z).toArray 36 (0, 0)) := by
                  rw [← hAl]
                  refine (setCells_mid _ _ A w5 (by rw [qcells_length]; rfl) hblk).trans ?_
                  unfold openQs
                  rw [X1.out, X2.out]
                  rfl
                have hk6 := setCells_keeps a (openQs th x1 x2) (f * 8) w5
                have HM6 := hidden (hput _ (fun k => k = a) P (some (newC th win most)) (.slice none 0 0) hW6 (fun c e => by cases e; exact Held.nil _) hk6 (fun k hp e => hm5.na (by rw [← e]; exact hp)) (fun k hp => hp) (fun k e => by simp [Value.ownBlock] at e) hm5.na (fun k hp => Nat.lt_of_lt_of_le (hm5.lt k hp) hk6.size))
                have HK6 := hidden ((hk3.mono (S' := fun k => k = a) (fun k _ h => h.elim)).trans hk6)
                simp only [actsTo, if_true, dstOf, List.getElem?_toArray, List.getElem?_cons_succ, List.getElem?_cons_zero, Option.bind_some, Act.put, List.setIfInBounds_toArray, List.set_cons_zero, List.set_cons_succ]
                clear hF e11 e8 he hk3 hm5 hfn hblk hAl hvP hput hth5 hW6 hk6 X1 X2 HOF
                generalize hw6 : w5.setCells a (f * 8) _ = w6
                have hw6' : w5.setCells a (f * 8) (openQs th x1 x2) = w6 := hw6
                rw [hw6'] at HM6 HK6
                clear hw6 hw6'
                have HN := hidden (nsl_lit w6 [th, f, 65536, 32768])
                go_wp2_with fail
                refine (uq_c 91 _ [th, f, 65536, 32768] _ HN.out (by intro j hj; match j, hj with | 0, _ => exact hth | 1, _ => show f ≤ _; omega | 2, _ => show 65536 ≤ _; omega | 3, _ => show 32768 ≤ _; omega) (by simp) (by simp)).mono ?_
                rintro e w8 ⟨v8, rfl, ho8, hb8⟩
                obtain ⟨a8, p8, e8⟩ := ownsRow_shape ho8
                subst e8
                rw [show byteOf ((91 : Nat) : Int) = 91 from rfl] at ho8 ⊢
                have HP : Hid (QDPost w P a (fun k => k = a ∨ k = rb) (⟨S.cs.set f (some (newC th win most)), S.dead⟩, [numL 91 [th, f, 65536, 32768]], []) (.returned (.tuple #[.slice (some ⟨w8.heap.size, 0, none⟩) 1 1, .slice none 0 0])) (w8.alloc (.cells #[.slice a8 (numL 91 [th, f, 65536, 32768]).length p8] 22))) := by
                  have hk9 : Keeps (fun _ => False) w6 (w8.alloc (.cells #[.slice a8 (numL 91 [th, f, 65536, 32768]).length p8] 22)) := (Keeps.ofFresh (below_alloc hb8)).alloc _
                  refine hidden (QDPost.after HK4.out ⟨_, _, rfl, Lst.one ho8 (by have := HK6.out.size; simp; omega) hb8.size, Evs.nil' _ _ _, HM6.out.still hk9, HK6.out.trans (hk9.mono (fun k _ h => h.elim))⟩)
                clear ho8 hb8 HN HM6 HK6 HM4 HK4
                generalize (numL 91 [th, f, 65536, 32768]).length = n8 at *
                go_wp2_with fail
                go_ret2
                exact HP.out
      · by_cases hmz : most = 0
        · rw [if_neg (fun h => h.2 hmz)]
          rw [Option.getD_some]
          go_enter Tryz.func41, Tryz.ntmps41
          go_wp2_with fail
          refine HT.out.mono ?_
          rintro e w1 ⟨rfl, t1⟩
          go_wp2_with fail
          refine (HA.out _ t1.state).mono ?_
          rintro e w2 ⟨rfl, t2⟩
          go_wp2_with fail
          refine (HB.out _ t2.state).mono ?_
          rintro e w3 ⟨rfl, t3⟩
          go_wp2_with fail
          refine (HC.out _ t3.state).mono ?_
          rintro e w4 ⟨rfl, t4⟩
          have HK4 : Hid (Keeps (fun k => k = rb) w w4) := hidden (((t1.keeps.trans t2.keeps).trans t3.keeps).trans t4.keeps)
          have HM4 := hidden (HM.out.read har HPR.out HK4.out)
          obtain ⟨q4, rf, r1, r2, r3, r4⟩ := t4.state.cell2
          have hrf := (r3 hy).1
          subst hrf
          clear t1 t2 t3 t4 HT HA HB HC r1 r3 r4
          go_wp2_with fail
          go_loopw [10, 11] (fun tf ti wr => ∃ (j : Nat) (z : Int), j ≤ 4 ∧ ti = .int .i64 ((j : Int) - 1) ∧ tf = .int .i64 z ∧ FV S.cs j z ∧ wr = w4) (fun _ ti _ => (intOf ti + 1).toNat)
          case atStart => exact ⟨4, -1, by omega, rfl, rfl, .inl ⟨rfl, fun k k1 k2 => by omega⟩, rfl⟩
          case round =>
            obtain ⟨j, z, hj, rfl, rfl, hv, rfl⟩ := hrel
            have HV := hidden hv
            clear hv
            cases j with
            | succ i =>
              rw [show ((i + 1 : Nat) : Int) - 1 = (i : Int) by omega]
              have i1 : (0 : Int) ≤ (i : Int) := by omega
              have i2 : (i : Int) < 4 := by omega
              have hi4 : i < 4 := by omega
              have k1 := HM4.out.openCell hS i hi4
              unfold chAt at k1
              cases hb : (S.cs.getD i none).isSome
              · rw [hb] at k1
                go_wp2_with fail
                go_roundw
                case rel => exact ⟨i, i, by omega, by go_num, rfl, FV.no hi4 hb, trivial⟩
                case measure => simp [intOf]
              · rw [hb] at k1
                go_wp2_with fail
                go_roundw
                case rel => exact ⟨i, z, by omega, by go_num, rfl, HV.out.yes hb, trivial⟩
                case measure => simp [intOf]
            | zero =>
              have hz := HV.out.fin hS
              rw [hff] at hz
              rw [show ((0 : Nat) : Int) - 1 = -1 by omega]
              clear HV
              rw [hz.2 hfr]
              clear hz
              have hmb : ((most : Int) == 0) = true := by simp; omega
              go_wp2_with fail
              have HN := hidden (nsl_lit wr [th, 4])
              refine (uq_c 92 _ [th, 4] _ HN.out (by intro j hj; match j, hj with | 0, _ => exact hth | 1, _ => show 4 ≤ _; omega) (by simp) (by simp)).mono ?_
              rintro e w5 ⟨v5, rfl, ho5, hb5⟩
              have HB5 := hidden (BSl.ofRow ho5)
              obtain ⟨a5, p5, e5⟩ := ownsRow_shape ho5
              subst e5
              have hl5 : (numL (byteOf ((92 : Nat) : Int)) [th, 4]).length ≤ 100 := by rw [numL_len]; simp
              have HL5 := hidden hl5
              have HB05 := hidden (below_alloc hb5)
              clear ho5 hb5 HN hl5
              go_wp2_with fail
              refine (rtext_c ⟨#[]⟩ (by decide) _ _ w5 HB5.out (by have h0 : (⟨#[]⟩ : ByteArray).size = 0 := rfl; rw [h0]; have := HL5.out; omega)).mono ?_
              rintro e w6 ⟨v6, rfl, ho6, hb6⟩
              have HB6 := hidden (BSl.ofRow ho6)
              have HB06 := hidden (HB05.out.trans (hb6.mono HB05.out.size))
              obtain ⟨a6, p6, e6⟩ := ownsRow_shape ho6
              subst e6
              clear ho6 hb6 HB5 HB05
              go_wp2_with fail
              refine (rtext_c ⟨#[]⟩ (by decide) _ _ w6 HB6.out (by have h0 : (⟨#[]⟩ : ByteArray).size = 0 := rfl; rw [h0, List.length_append, show (textBytes (⟨#[]⟩ : ByteArray).data.toList).length = 4 from rfl]; have := HL5.out; omega)).mono ?_
              rintro e w7 ⟨v7, rfl, ho7, hb7⟩
              have HB07 := hidden (HB06.out.trans (hb7.mono HB06.out.size))
              rw [refL_q] at ho7
              obtain ⟨a7, p7, e7⟩ := ownsRow_shape ho7
              subst e7
              have HP : Hid (QDPost w P a (fun k => k = a ∨ k = rb) (S, [refL th 4], []) (.returned (.tuple #[.slice (some ⟨w7.heap.size, 0, none⟩) 1 1, .slice none 0 0])) (w7.alloc (.cells #[.slice a7 (refL th 4).length p7] 22))) := by
                have hk8 : Keeps (fun _ => False) wr (w7.alloc (.cells #[.slice a7 (refL th 4).length p7] 22)) := (Keeps.ofFresh HB07.out).alloc _
                refine hidden (QDPost.after HK4.out ⟨_, _, rfl, Lst.one ho7 HB06.out.size hb7.size, Evs.nil' _ _ _, HM4.out.still hk8, hk8.mono (fun k _ h => h.elim)⟩)
              clear ho7 hb7 HB06 HB07 HB6 HL5
              generalize (refL th 4).length = n7 at *
              go_wp2_with fail
              go_ret2
              exact HP.out
        · rw [if_neg (fun h => hfr h.1)]
          rw [Option.getD_some]
          go_enter Tryz.func41, Tryz.ntmps41
          go_wp2_with fail
          refine HT.out.mono ?_
          rintro e w1 ⟨rfl, t1⟩
          go_wp2_with fail
          refine (HA.out _ t1.state).mono ?_
          rintro e w2 ⟨rfl, t2⟩
          go_wp2_with fail
          refine (HB.out _ t2.state).mono ?_
          rintro e w3 ⟨rfl, t3⟩
          go_wp2_with fail
          refine (HC.out _ t3.state).mono ?_
          rintro e w4 ⟨rfl, t4⟩
          have HK4 : Hid (Keeps (fun k => k = rb) w w4) := hidden (((t1.keeps.trans t2.keeps).trans t3.keeps).trans t4.keeps)
          have HM4 := hidden (HM.out.read har HPR.out HK4.out)
          obtain ⟨q4, rf, r1, r2, r3, r4⟩ := t4.state.cell2
          have hrf := (r3 hy).1
          subst hrf
          clear t1 t2 t3 t4 HT HA HB HC r1 r3 r4
          go_wp2_with fail
          go_loopw [10, 11] (fun tf ti wr => ∃ (j : Nat) (z : Int), j ≤ 4 ∧ ti = .int .i64 ((j : Int) - 1) ∧ tf = .int .i64 z ∧ FV S.cs j z ∧ wr = w4) (fun _ ti _ => (intOf ti + 1).toNat)
          case atStart => exact ⟨4, -1, by omega, rfl, rfl, .inl ⟨rfl, fun k k1 k2 => by omega⟩, rfl⟩
          case round =>
            obtain ⟨j, z, hj, rfl, rfl, hv, rfl⟩ := hrel
            have HV := hidden hv
            clear hv
            cases j with
            | succ i =>
              rw [show ((i + 1 : Nat) : Int) - 1 = (i : Int) by omega]
              have i1 : (0 : Int) ≤ (i : Int) := by omega
              have i2 : (i : Int) < 4 := by omega
              have hi4 : i < 4 := by omega
              have k1 := HM4.out.openCell hS i hi4
              unfold chAt at k1
              cases hb : (S.cs.getD i none).isSome
              · rw [hb] at k1
                go_wp2_with fail
                go_roundw
                case rel => exact ⟨i, i, by omega, by go_num, rfl, FV.no hi4 hb, trivial⟩
                case measure => simp [intOf]
              · rw [hb] at k1
                go_wp2_with fail
                go_roundw
                case rel => exact ⟨i, z, by omega, by go_num, rfl, HV.out.yes hb, trivial⟩
                case measure => simp [intOf]
            | zero =>
              have hz := HV.out.fin hS
              rw [hff] at hz
              rw [show ((0 : Nat) : Int) - 1 = -1 by omega]
              clear HV
              rw [hz.2 hfr]
              clear hz
              have hmb : ((most : Int) == 0) = false := by simp; omega
              go_wp2_with fail
              have HN := hidden (nsl_lit wr [th, 4])
              refine (uq_c 92 _ [th, 4] _ HN.out (by intro j hj; match j, hj with | 0, _ => exact hth | 1, _ => show 4 ≤ _; omega) (by simp) (by simp)).mono ?_
              rintro e w5 ⟨v5, rfl, ho5, hb5⟩
              have HB5 := hidden (BSl.ofRow ho5)
              obtain ⟨a5, p5, e5⟩ := ownsRow_shape ho5
              subst e5
              have hl5 : (numL (byteOf ((92 : Nat) : Int)) [th, 4]).length ≤ 100 := by rw [numL_len]; simp
              have HL5 := hidden hl5
              have HB05 := hidden (below_alloc hb5)
              clear ho5 hb5 HN hl5
              go_wp2_with fail
              refine (rtext_c ⟨#[]⟩ (by decide) _ _ w5 HB5.out (by have h0 : (⟨#[]⟩ : ByteArray).size = 0 := rfl; rw [h0]; have := HL5.out; omega)).mono ?_
              rintro e w6 ⟨v6, rfl, ho6, hb6⟩
              have HB6 := hidden (BSl.ofRow ho6)
              have HB06 := hidden (HB05.out.trans (hb6.mono HB05.out.size))
              obtain ⟨a6, p6, e6⟩ := ownsRow_shape ho6
              subst e6
              clear ho6 hb6 HB5 HB05
              go_wp2_with fail
              refine (rtext_c ⟨#[]⟩ (by decide) _ _ w6 HB6.out (by have h0 : (⟨#[]⟩ : ByteArray).size = 0 := rfl; rw [h0, List.length_append, show (textBytes (⟨#[]⟩ : ByteArray).data.toList).length = 4 from rfl]; have := HL5.out; omega)).mono ?_
              rintro e w7 ⟨v7, rfl, ho7, hb7⟩
              have HB07 := hidden (HB06.out.trans (hb7.mono HB06.out.size))
              rw [refL_q] at ho7
              obtain ⟨a7, p7, e7⟩ := ownsRow_shape ho7
              subst e7
              have HP : Hid (QDPost w P a (fun k => k = a ∨ k = rb) (S, [refL th 4], []) (.returned (.tuple #[.slice (some ⟨w7.heap.size, 0, none⟩) 1 1, .slice none 0 0])) (w7.alloc (.cells #[.slice a7 (refL th 4).length p7] 22))) := by
                have hk8 : Keeps (fun _ => False) wr (w7.alloc (.cells #[.slice a7 (refL th 4).length p7] 22)) := (Keeps.ofFresh HB07.out).alloc _
                refine hidden (QDPost.after HK4.out ⟨_, _, rfl, Lst.one ho7 HB06.out.size hb7.size, Evs.nil' _ _ _, HM4.out.still hk8, hk8.mono (fun k _ h => h.elim)⟩)
              clear ho7 hb7 HB06 HB07 HB6 HL5
              generalize (refL th 4).length = n7 at *
              go_wp2_with fail
              go_ret2
              exact HP.out
    · rw [if_neg hK]
      have hst : (KD.toList == [115, 101, 115, 115, 105, 111, 110]) = false := by rw [str_lit]; exact decide_eq_false hK
      clear hK
      generalize hff : freeO S.cs = f at *
      have HFF := hidden hff
      by_cases hfr : f < 4
      · have hf := hfr
        by_cases hmz : most = 0
        · rw [Option.getD_some]
          go_enter Tryz.func41, Tryz.ntmps41
          go_wp2_with fail
          refine HT.out.mono ?_
          rintro e w1 ⟨rfl, t1⟩
          go_wp2_with fail
          refine (HA.out _ t1.state).mono ?_
          rintro e w2 ⟨rfl, t2⟩
          go_wp2_with fail
          refine (HB.out _ t2.state).mono ?_
          rintro e w3 ⟨rfl, t3⟩
          go_wp2_with fail
          refine (HC.out _ t3.state).mono ?_
          rintro e w4 ⟨rfl, t4⟩
          have HK4 : Hid (Keeps (fun k => k = rb) w w4) := hidden (((t1.keeps.trans t2.keeps).trans t3.keeps).trans t4.keeps)
          have HM4 := hidden (HM.out.read har HPR.out HK4.out)
          obtain ⟨q4, rf, r1, r2, r3, r4⟩ := t4.state.cell2
          have hrf := (r3 hy).1
          subst hrf
          clear t1 t2 t3 t4 HT HA HB HC r1 r3 r4
          go_wp2_with fail
          go_loopw [10, 11] (fun tf ti wr => ∃ (j : Nat) (z : Int), j ≤ 4 ∧ ti = .int .i64 ((j : Int) - 1) ∧ tf = .int .i64 z ∧ FV S.cs j z ∧ wr = w4) (fun _ ti _ => (intOf ti + 1).toNat)
          case atStart => exact ⟨4, -1, by omega, rfl, rfl, .inl ⟨rfl, fun k k1 k2 => by omega⟩, rfl⟩
          case round =>
            obtain ⟨j, z, hj, rfl, rfl, hv, rfl⟩ := hrel
            have HV := hidden hv
            clear hv
            cases j with
            | succ i =>
              rw [show ((i + 1 : Nat) : Int) - 1 = (i : Int) by omega]
              have i1 : (0 : Int) ≤ (i : Int) := by omega
              have i2 : (i : Int) < 4 := by omega
              have hi4 : i < 4 := by omega
              have k1 := HM4.out.openCell hS i hi4
              unfold chAt at k1
              cases hb : (S.cs.getD i none).isSome
              · rw [hb] at k1
                go_wp2_with fail
                go_roundw
                case rel => exact ⟨i, i, by omega, by go_num, rfl, FV.no hi4 hb, trivial⟩
                case measure => simp [intOf]
              · rw [hb] at k1
                go_wp2_with fail
                go_roundw
                case rel => exact ⟨i, z, by omega, by go_num, rfl, HV.out.yes hb, trivial⟩
                case measure => simp [intOf]
            | zero =>
              have hz := HV.out.fin hS
              rw [hff] at hz
              rw [show ((0 : Nat) : Int) - 1 = -1 by omega]
              clear HV
              rw [hz.1 hfr]
              clear hz
              have g1 : ¬ (f : Int) < 0 := by omega
              have hmb : ((most : Int) == 0) = true := by simp; omega
              go_wp2_with fail
              have HN := hidden (nsl_lit wr [th, 3])
              refine (uq_c 92 _ [th, 3] _ HN.out (by intro j hj; match j, hj with | 0, _ => exact hth | 1, _ => show 3 ≤ _; omega) (by simp) (by simp)).mono ?_
              rintro e w5 ⟨v5, rfl, ho5, hb5⟩
              have HB5 := hidden (BSl.ofRow ho5)
              obtain ⟨a5, p5, e5⟩ := ownsRow_shape ho5
              subst e5
              have hl5 : (numL (byteOf ((92 : Nat) : Int)) [th, 3]).length ≤ 100 := by rw [numL_len]; simp
              have HL5 := hidden hl5
              have HB05 := hidden (below_alloc hb5)
              clear ho5 hb5 HN hl5
              go_wp2_with fail
              refine (rtext_c ⟨#[]⟩ (by decide) _ _ w5 HB5.out (by have h0 : (⟨#[]⟩ : ByteArray).size = 0 := rfl; rw [h0]; have := HL5.out; omega)).mono ?_
              rintro e w6 ⟨v6, rfl, ho6, hb6⟩
              have HB6 := hidden (BSl.ofRow ho6)
              have HB06 := hidden (HB05.out.trans (hb6.mono HB05.out.size))
              obtain ⟨a6, p6, e6⟩ := ownsRow_shape ho6
              subst e6
              clear ho6 hb6 HB5 HB05
              go_wp2_with fail
              refine (rtext_c ⟨#[]⟩ (by decide) _ _ w6 HB6.out (by have h0 : (⟨#[]⟩ : ByteArray).size = 0 := rfl; rw [h0, List.length_append, show (textBytes (⟨#[]⟩ : ByteArray).data.toList).length = 4 from rfl]; have := HL5.out; omega)).mono ?_
              rintro e w7 ⟨v7, rfl, ho7, hb7⟩
              have HB07 := hidden (HB06.out.trans (hb7.mono HB06.out.size))
              rw [refL_q] at ho7
              obtain ⟨a7, p7, e7⟩ := ownsRow_shape ho7
              subst e7
              have HP : Hid (QDPost w P a (fun k => k = a ∨ k = rb) (S, [refL th 3], []) (.returned (.tuple #[.slice (some ⟨w7.heap.size, 0, none⟩) 1 1, .slice none 0 0])) (w7.alloc (.cells #[.slice a7 (refL th 3).length p7] 22))) := by
                have hk8 : Keeps (fun _ => False) wr (w7.alloc (.cells #[.slice a7 (refL th 3).length p7] 22)) := (Keeps.ofFresh HB07.out).alloc _
                refine hidden (QDPost.after HK4.out ⟨_, _, rfl, Lst.one ho7 HB06.out.size hb7.size, Evs.nil' _ _ _, HM4.out.still hk8, hk8.mono (fun k _ h => h.elim)⟩)
              clear ho7 hb7 HB06 HB07 HB6 HL5
              generalize (refL th 3).length = n7 at *
              go_wp2_with fail
              go_ret2
              exact HP.out
        · rw [Option.getD_some]
          go_enter Tryz.func41, Tryz.ntmps41
          go_wp2_with fail
          refine HT.out.mono ?_
          rintro e w1 ⟨rfl, t1⟩
          go_wp2_with fail
          refine (HA.out _ t1.state).mono ?_
          rintro e w2 ⟨rfl, t2⟩
          go_wp2_with fail
          refine (HB.out _ t2.state).mono ?_
          rintro e w3 ⟨rfl, t3⟩
          go_wp2_with fail
          refine (HC.out _ t3.state).mono ?_
          rintro e w4 ⟨rfl, t4⟩
          have HK4 : Hid (Keeps (fun k => k = rb) w w4) := hidden (((t1.keeps.trans t2.keeps).trans t3.keeps).trans t4.keeps)
          have HM4 := hidden (HM.out.read har HPR.out HK4.out)
          obtain ⟨q4, rf, r1, r2, r3, r4⟩ := t4.state.cell2
          have hrf := (r3 hy).1
          subst hrf
          clear t1 t2 t3 t4 HT HA HB HC r1 r3 r4
          go_wp2_with fail
          go_loopw [10, 11] (fun tf ti wr => ∃ (j : Nat) (z : Int), j ≤ 4 ∧ ti = .int .i64 ((j : Int) - 1) ∧ tf = .int .i64 z ∧ FV S.cs j z ∧ wr = w4) (fun _ ti _ => (intOf ti + 1).toNat)
          case atStart => exact ⟨4, -1, by omega, rfl, rfl, .inl ⟨rfl, fun k k1 k2 => by omega⟩, rfl⟩
          case round =>
            obtain ⟨j, z, hj, rfl, rfl, hv, rfl⟩ := hrel
            have HV := hidden hv
            clear hv
            cases j with
            | succ i =>
              rw [show ((i + 1 : Nat) : Int) - 1 = (i : Int) by omega]
              have i1 : (0 : Int) ≤ (i : Int) := by omega
              have i2 : (i : Int) < 4 := by omega
              have hi4 : i < 4 := by omega
              have k1 := HM4.out.openCell hS i hi4
              unfold chAt at k1
              cases hb : (S.cs.getD i none).isSome
              · rw [hb] at k1
                go_wp2_with fail
                go_roundw
                case rel => exact ⟨i, i, by omega, by go_num, rfl, FV.no hi4 hb, trivial⟩
                case measure => simp [intOf]
              · rw [hb] at k1
                go_wp2_with fail
                go_roundw
                case rel => exact ⟨i, z, by omega, by go_num, rfl, HV.out.yes hb, trivial⟩
                case measure => simp [intOf]
            | zero =>
              have hz := HV.out.fin hS
              rw [hff] at hz
              rw [show ((0 : Nat) : Int) - 1 = -1 by omega]
              clear HV
              rw [hz.1 hfr]
              clear hz
              have g1 : ¬ (f : Int) < 0 := by omega
              have hmb : ((most : Int) == 0) = false := by simp; omega
              go_wp2_with fail
              have HN := hidden (nsl_lit wr [th, 3])
              refine (uq_c 92 _ [th, 3] _ HN.out (by intro j hj; match j, hj with | 0, _ => exact hth | 1, _ => show 3 ≤ _; omega) (by simp) (by simp)).mono ?_
              rintro e w5 ⟨v5, rfl, ho5, hb5⟩
              have HB5 := hidden (BSl.ofRow ho5)
              obtain ⟨a5, p5, e5⟩ := ownsRow_shape ho5
              subst e5
              have hl5 : (numL (byteOf ((92 : Nat) : Int)) [th, 3]).length ≤ 100 := by rw [numL_len]; simp
              have HL5 := hidden hl5
              have HB05 := hidden (below_alloc hb5)
              clear ho5 hb5 HN hl5
              go_wp2_with fail
              refine (rtext_c ⟨#[]⟩ (by decide) _ _ w5 HB5.out (by have h0 : (⟨#[]⟩ : ByteArray).size = 0 := rfl; rw [h0]; have := HL5.out; omega)).mono ?_
              rintro e w6 ⟨v6, rfl, ho6, hb6⟩
              have HB6 := hidden (BSl.ofRow ho6)
              have HB06 := hidden (HB05.out.trans (hb6.mono HB05.out.size))
              obtain ⟨a6, p6, e6⟩ := ownsRow_shape ho6
              subst e6
              clear ho6 hb6 HB5 HB05
              go_wp2_with fail
              refine (rtext_c ⟨#[]⟩ (by decide) _ _ w6 HB6.out (by have h0 : (⟨#[]⟩ : ByteArray).size = 0 := rfl; rw [h0, List.length_append, show (textBytes (⟨#[]⟩ : ByteArray).data.toList).length = 4 from rfl]; have := HL5.out; omega)).mono ?_
              rintro e w7 ⟨v7, rfl, ho7, hb7⟩
              have HB07 := hidden (HB06.out.trans (hb7.mono HB06.out.size))
              rw [refL_q] at ho7
              obtain ⟨a7, p7, e7⟩ := ownsRow_shape ho7
              subst e7
              have HP : Hid (QDPost w P a (fun k => k = a ∨ k = rb) (S, [refL th 3], []) (.returned (.tuple #[.slice (some ⟨w7.heap.size, 0, none⟩) 1 1, .slice none 0 0])) (w7.alloc (.cells #[.slice a7 (refL th 3).length p7] 22))) := by
                have hk8 : Keeps (fun _ => False) wr (w7.alloc (.cells #[.slice a7 (refL th 3).length p7] 22)) := (Keeps.ofFresh HB07.out).alloc _
                refine hidden (QDPost.after HK4.out ⟨_, _, rfl, Lst.one ho7 HB06.out.size hb7.size, Evs.nil' _ _ _, HM4.out.still hk8, hk8.mono (fun k _ h => h.elim)⟩)
              clear ho7 hb7 HB06 HB07 HB6 HL5
              generalize (refL th 3).length = n7 at *
              go_wp2_with fail
              go_ret2
              exact HP.out
      · by_cases hmz : most = 0
        · rw [Option.getD_some]
          go_enter Tryz.func41, Tryz.ntmps41
          go_wp2_with fail
          refine HT.out.mono ?_
          rintro e w1 ⟨rfl, t1⟩
          go_wp2_with fail
          refine (HA.out _ t1.state).mono ?_
          rintro e w2 ⟨rfl, t2⟩
          go_wp2_with fail
          refine (HB.out _ t2.state).mono ?_
          rintro e w3 ⟨rfl, t3⟩
          go_wp2_with fail
          refine (HC.out _ t3.state).mono ?_
          rintro e w4 ⟨rfl, t4⟩
          have HK4 : Hid (Keeps (fun k => k = rb) w w4) := hidden (((t1.keeps.trans t2.keeps).trans t3.keeps).trans t4.keeps)
          have HM4 := hidden (HM.out.read har HPR.out HK4.out)
          obtain ⟨q4, rf, r1, r2, r3, r4⟩ := t4.state.cell2
          have hrf := (r3 hy).1
          subst hrf
          clear t1 t2 t3 t4 HT HA HB HC r1 r3 r4
          go_wp2_with fail
          go_loopw [10, 11] (fun tf ti wr => ∃ (j : Nat) (z : Int), j ≤ 4 ∧ ti = .int .i64 ((j : Int) - 1) ∧ tf = .int .i64 z ∧ FV S.cs j z ∧ wr = w4) (fun _ ti _ => (intOf ti + 1).toNat)
          case atStart => exact ⟨4, -1, by omega, rfl, rfl, .inl ⟨rfl, fun k k1 k2 => by omega⟩, rfl⟩
          case round =>
            obtain ⟨j, z, hj, rfl, rfl, hv, rfl⟩ := hrel
            have HV := hidden hv
            clear hv
            cases j with
            | succ i =>
              rw [show ((i + 1 : Nat) : Int) - 1 = (i : Int) by omega]
              have i1 : (0 : Int) ≤ (i : Int) := by omega
              have i2 : (i : Int) < 4 := by omega
              have hi4 : i < 4 := by omega
              have k1 := HM4.out.openCell hS i hi4
              unfold chAt at k1
              cases hb : (S.cs.getD i none).isSome
              · rw [hb] at k1
                go_wp2_with fail
                go_roundw
                case rel => exact ⟨i, i, by omega, by go_num, rfl, FV.no hi4 hb, trivial⟩
                case measure => simp [intOf]
              · rw [hb] at k1
                go_wp2_with fail
                go_roundw
                case rel => exact ⟨i, z, by omega, by go_num, rfl, HV.out.yes hb, trivial⟩
                case measure => simp [intOf]
            | zero =>
              have hz := HV.out.fin hS
              rw [hff] at hz
              rw [show ((0 : Nat) : Int) - 1 = -1 by omega]
              clear HV
              rw [hz.2 hfr]
              clear hz
              have hmb : ((most : Int) == 0) = true := by simp; omega
              go_wp2_with fail
              have HN := hidden (nsl_lit wr [th, 3])
              refine (uq_c 92 _ [th, 3] _ HN.out (by intro j hj; match j, hj with | 0, _ => exact hth | 1, _ => show 3 ≤ _; omega) (by simp) (by simp)).mono ?_
              rintro e w5 ⟨v5, rfl, ho5, hb5⟩
              have HB5 := hidden (BSl.ofRow ho5)
              obtain ⟨a5, p5, e5⟩ := ownsRow_shape ho5
              subst e5
              have hl5 : (numL (byteOf ((92 : Nat) : Int)) [th, 3]).length ≤ 100 := by rw [numL_len]; simp
              have HL5 := hidden hl5
              have HB05 := hidden (below_alloc hb5)
              clear ho5 hb5 HN hl5
              go_wp2_with fail
              refine (rtext_c ⟨#[]⟩ (by decide) _ _ w5 HB5.out (by have h0 : (⟨#[]⟩ : ByteArray).size = 0 := rfl; rw [h0]; have := HL5.out; omega)).mono ?_
              rintro e w6 ⟨v6, rfl, ho6, hb6⟩
              have HB6 := hidden (BSl.ofRow ho6)
              have HB06 := hidden (HB05.out.trans (hb6.mono HB05.out.size))
              obtain ⟨a6, p6, e6⟩ := ownsRow_shape ho6
              subst e6
              clear ho6 hb6 HB5 HB05
              go_wp2_with fail
              refine (rtext_c ⟨#[]⟩ (by decide) _ _ w6 HB6.out (by have h0 : (⟨#[]⟩ : ByteArray).size = 0 := rfl; rw [h0, List.length_append, show (textBytes (⟨#[]⟩ : ByteArray).data.toList).length = 4 from rfl]; have := HL5.out; omega)).mono ?_
              rintro e w7 ⟨v7, rfl, ho7, hb7⟩
              have HB07 := hidden (HB06.out.trans (hb7.mono HB06.out.size))
              rw [refL_q] at ho7
              obtain ⟨a7, p7, e7⟩ := ownsRow_shape ho7
              subst e7
              have HP : Hid (QDPost w P a (fun k => k = a ∨ k = rb) (S, [refL th 3], []) (.returned (.tuple #[.slice (some ⟨w7.heap.size, 0, none⟩) 1 1, .slice none 0 0])) (w7.alloc (.cells #[.slice a7 (refL th 3).length p7] 22))) := by
                have hk8 : Keeps (fun _ => False) wr (w7.alloc (.cells #[.slice a7 (refL th 3).length p7] 22)) := (Keeps.ofFresh HB07.out).alloc _
                refine hidden (QDPost.after HK4.out ⟨_, _, rfl, Lst.one ho7 HB06.out.size hb7.size, Evs.nil' _ _ _, HM4.out.still hk8, hk8.mono (fun k _ h => h.elim)⟩)
              clear ho7 hb7 HB06 HB07 HB6 HL5
              generalize (refL th 3).length = n7 at *
              go_wp2_with fail
              go_ret2
              exact HP.out
        · rw [Option.getD_some]
          go_enter Tryz.func41, Tryz.ntmps41
          go_wp2_with fail
          refine HT.out.mono ?_
          rintro e w1 ⟨rfl, t1⟩
          go_wp2_with fail
          refine (HA.out _ t1.state).mono ?_
          rintro e w2 ⟨rfl, t2⟩
          go_wp2_with fail
          refine (HB.out _ t2.state).mono ?_
          rintro e w3 ⟨rfl, t3⟩
          go_wp2_with fail
          refine (HC.out _ t3.state).mono ?_
          rintro e w4 ⟨rfl, t4⟩
          have HK4 : Hid (Keeps (fun k => k = rb) w w4) := hidden (((t1.keeps.trans t2.keeps).trans t3.keeps).trans t4.keeps)
          have HM4 := hidden (HM.out.read har HPR.out HK4.out)
          obtain ⟨q4, rf, r1, r2, r3, r4⟩ := t4.state.cell2
          have hrf := (r3 hy).1
          subst hrf
          clear t1 t2 t3 t4 HT HA HB HC r1 r3 r4
          go_wp2_with fail
          go_loopw [10, 11] (fun tf ti wr => ∃ (j : Nat) (z : Int), j ≤ 4 ∧ ti = .int .i64 ((j : Int) - 1) ∧ tf = .int .i64 z ∧ FV S.cs j z ∧ wr = w4) (fun _ ti _ => (intOf ti + 1).toNat)
          case atStart => exact ⟨4, -1, by omega, rfl, rfl, .inl ⟨rfl, fun k k1 k2 => by omega⟩, rfl⟩
          case round =>
            obtain ⟨j, z, hj, rfl, rfl, hv, rfl⟩ := hrel
            have HV := hidden hv
            clear hv
            cases j with
            | succ i =>
              rw [show ((i + 1 : Nat) : Int) - 1 = (i : Int) by omega]
              have i1 : (0 : Int) ≤ (i : Int) := by omega
              have i2 : (i : Int) < 4 := by omega
              have hi4 : i < 4 := by omega
              have k1 := HM4.out.openCell hS i hi4
              unfold chAt at k1
              cases hb : (S.cs.getD i none).isSome
              · rw [hb] at k1
                go_wp2_with fail
                go_roundw
                case rel => exact ⟨i, i, by omega, by go_num, rfl, FV.no hi4 hb, trivial⟩
                case measure => simp [intOf]
              · rw [hb] at k1
                go_wp2_with fail
                go_roundw
                case rel => exact ⟨i, z, by omega, by go_num, rfl, HV.out.yes hb, trivial⟩
                case measure => simp [intOf]
            | zero =>
              have hz := HV.out.fin hS
              rw [hff] at hz
              rw [show ((0 : Nat) : Int) - 1 = -1 by omega]
              clear HV
              rw [hz.2 hfr]
              clear hz
              have hmb : ((most : Int) == 0) = false := by simp; omega
              go_wp2_with fail
              have HN := hidden (nsl_lit wr [th, 3])
              refine (uq_c 92 _ [th, 3] _ HN.out (by intro j hj; match j, hj with | 0, _ => exact hth | 1, _ => show 3 ≤ _; omega) (by simp) (by simp)).mono ?_
              rintro e w5 ⟨v5, rfl, ho5, hb5⟩
              have HB5 := hidden (BSl.ofRow ho5)
              obtain ⟨a5, p5, e5⟩ := ownsRow_shape ho5
              subst e5
              have hl5 : (numL (byteOf ((92 : Nat) : Int)) [th, 3]).length ≤ 100 := by rw [numL_len]; simp
              have HL5 := hidden hl5
              have HB05 := hidden (below_alloc hb5)
              clear ho5 hb5 HN hl5
              go_wp2_with fail
              refine (rtext_c ⟨#[]⟩ (by decide) _ _ w5 HB5.out (by have h0 : (⟨#[]⟩ : ByteArray).size = 0 := rfl; rw [h0]; have := HL5.out; omega)).mono ?_
              rintro e w6 ⟨v6, rfl, ho6, hb6⟩
              have HB6 := hidden (BSl.ofRow ho6)
              have HB06 := hidden (HB05.out.trans (hb6.mono HB05.out.size))
              obtain ⟨a6, p6, e6⟩ := ownsRow_shape ho6
              subst e6
              clear ho6 hb6 HB5 HB05
              go_wp2_with fail
              refine (rtext_c ⟨#[]⟩ (by decide) _ _ w6 HB6.out (by have h0 : (⟨#[]⟩ : ByteArray).size = 0 := rfl; rw [h0, List.length_append, show (textBytes (⟨#[]⟩ : ByteArray).data.toList).length = 4 from rfl]; have := HL5.out; omega)).mono ?_
              rintro e w7 ⟨v7, rfl, ho7, hb7⟩
              have HB07 := hidden (HB06.out.trans (hb7.mono HB06.out.size))
              rw [refL_q] at ho7
              obtain ⟨a7, p7, e7⟩ := ownsRow_shape ho7
              subst e7
              have HP : Hid (QDPost w P a (fun k => k = a ∨ k = rb) (S, [refL th 3], []) (.returned (.tuple #[.slice (some ⟨w7.heap.size, 0, none⟩) 1 1, .slice none 0 0])) (w7.alloc (.cells #[.slice a7 (refL th 3).length p7] 22))) := by
                have hk8 : Keeps (fun _ => False) wr (w7.alloc (.cells #[.slice a7 (refL th 3).length p7] 22)) := (Keeps.ofFresh HB07.out).alloc _
                refine hidden (QDPost.after HK4.out ⟨_, _, rfl, Lst.one ho7 HB06.out.size hb7.size, Evs.nil' _ _ _, HM4.out.still hk8, hk8.mono (fun k _ h => h.elim)⟩)
              clear ho7 hb7 HB06 HB07 HB6 HL5
              generalize (refL th 3).length = n7 at *
              go_wp2_with fail
              go_ret2
              exact HP.out
  · rw [if_neg hy, Option.getD_none]
    go_enter Tryz.func41, Tryz.ntmps41
    go_wp2_with fail
    refine HT.out.mono ?_
    rintro e w1 ⟨rfl, t1⟩
    go_wp2_with fail
    refine (HA.out _ t1.state).mono ?_
    rintro e w2 ⟨rfl, t2⟩
    go_wp2_with fail
    refine (HB.out _ t2.state).mono ?_
    rintro e w3 ⟨rfl, t3⟩
    go_wp2_with fail
    refine (HC.out _ t3.state).mono ?_
    rintro e w4 ⟨rfl, t4⟩
    have HK4 : Hid (Keeps (fun k => k = rb) w w4) := hidden (((t1.keeps.trans t2.keeps).trans t3.keeps).trans t4.keeps)
    have HM4 := hidden (HM.out.read har HPR.out HK4.out)
    obtain ⟨q4, rf, r1, r2, r3, r4⟩ := t4.state.cell2
    have hrf := r4 hy
    subst hrf
    clear t1 t2 t3 t4 HT HA HB HC r1 r3 r4
    go_wp2_with fail
    refine (bye_q w4 HM4.out).mono ?_
    rintro e w5 hq
    have HQ := hidden (hq.after HK4.out)
    obtain ⟨u1, u2, rfl, _⟩ := hq
    clear HM4 HK4 HM
    go_wp2_with fail
    go_ret2
    exact HQ.out

def zeroQL : List Value := [.bool false, .bool false, .bool false, .bool false, .int .u32 0, .complex .f64 0 0, .int .i64 0, .slice none 0 0]
def zeroQ (w : World) (a o : Nat) : World := (((((((w.setCell ⟨a, o, none⟩ (.bool false)).setCell ⟨a, o + 1, none⟩ (.bool false)).setCell ⟨a, o + 2, none⟩ (.bool false)).setCell ⟨a, o + 3, none⟩ (.bool false)).setCell ⟨a, o + 4, none⟩ (.int .u32 0)).setCell ⟨a, o + 5, none⟩ (.complex .f64 0 0)).setCell ⟨a, o + 6, none⟩ (.int .i64 0)).setCell ⟨a, o + 7, none⟩ (.slice none 0 0)
theorem zeroQ_eq (w : World) (a o : Nat) : w.setCells a o zeroQL = zeroQ w a o := rfl
theorem DX.zero {w : World} {a o : Nat} {c : Ch} {v : Value} {A Z : List Value} (h : DX w a o c v A Z) : (zeroQ w a o).heap[a]? = some (.cells (A ++ qcells none (.slice none 0 0) ++ Z).toArray 36 (0, 0)) := by
  have hl := h.len
  subst hl
  rw [← zeroQ_eq]
  exact setCells_mid zeroQL _ A w (by rw [qcells_length]; rfl) h.blk
theorem zeroQ_keeps (w : World) (a o : Nat) : Keeps (fun k => k = a) w (zeroQ w a o) := by rw [← zeroQ_eq]; exact setCells_keeps a zeroQL o w
theorem Evs.ofQ {B g k i : Nat} {w : World} (h : w.heap[g]? = some (.cells #[.int .i64 k, .int .i64 i, .slice none 0 0] 95 (0, 0))) (hB : B ≤ g) : Evs 95 B w (.slice (some ⟨g, 0, none⟩) 1 1) [⟨k, i, []⟩] :=
  .inr ⟨⟨k, i, []⟩, g, .slice none 0 0, rfl, rfl, h, bsl_none _, hB, fun k e => by simp [Value.ownBlock] at e⟩
/-- One channel turned, in its place. -/
theorem QX.putD {w : World} {P : Nat → Prop} {a i : Nat} {S : MS} {c : Ch} (h : QX w P a S) (hS : S.cs.length = 4) (hi : i < 4) (hc : S.cs.getD i none = some c) :
    ∃ v A Z, DX w a (i * 8) c v A Z ∧ (∀ k, v.ownBlock = some k → P k) ∧ ∀ (w' : World) (oc : Option Ch) (v' : Value), w'.heap[a]? = some (.cells (A ++ qcells oc v' ++ Z).toArray 36 (0, 0)) → (∀ c, oc = some c → Held w' v' c.wt) → Keeps (fun k => k = a) w w' → (∀ k, v'.ownBlock = some k → P k) → QX w' P a ⟨S.cs.set i oc, S.dead⟩ := by
  obtain ⟨v, A, Z, hx, hvP, hput⟩ := h.dx hS i hi hc
  exact ⟨v, A, Z, hx, hvP, fun w' oc v' h1 h2 h3 h4 => hput w' _ P oc v' h1 h2 h3 (fun k hp e => h.na (by rw [← e]; exact hp)) (fun k hp => hp) h4 h.na (fun k hp => Nat.lt_of_lt_of_le (h.lt k hp) h3.size)⟩

set_option maxHeartbeats 1600000 in
set_option maxRecDepth 100000 in
theorem on97_q (w : World) {L : Nat} {P : Nat → Prop} {a rb i : Nat} {S : MS} {c : Ch} {g : Option Nat} {bs : List UInt8} {p : Nat} {why : Int} (h : QX w P a S) (hok : OkM L S) (_hL : L ≤ 1000000) (hi : i < 4) (hc : S.cs.getD i none = some c) (hr : QR w rb g bs p why) (har : a < rb) (hPR : ¬ P rb) :
    Calls Tryz.prog 44 #[.pointer (some ⟨a, 0, none⟩), .int .i64 (i : Int), .int .i64 97, .pointer (some ⟨rb, 0, none⟩)] w fun e w' => QDPost w P a (fun k => k = a ∨ k = rb) ((putC S i (goneO c i bs p why)).getD (⟨S.cs, true⟩, [byeL 2], [])) e w' := by
  have HM := hidden h
  have HPR := hidden hPR
  have hal := h.aLt
  have hS := hok.four
  have HKC := hidden (hok.each i c hc)
  have hth := (hok.each i c hc).th
  have g1 : (i : Int) < 4 := by omega
  have g0 : ¬ (i : Int) < 0 := by omega
  unfold goneO
  generalize hd : wholeB bs p why = d at *
  have HW : Hid (∀ w', QR w' rb g bs p why → Calls Tryz.prog 67 #[.pointer (some ⟨rb, 0, none⟩)] w' fun e w2 => e = .returned (.bool d) ∧ Keeps (fun _ => False) w' w2) := hidden fun w' h' => by rw [← hd]; exact fine_c w' h'
  have HR := hidden hr
  clear h hr hPR hd hok _hL
  cases d
  · rw [if_neg (by rintro h; cases h), show putC S i none = none from rfl, Option.getD_none]
    go_enter Tryz.func44, Tryz.ntmps44
    go_wp2_with fail
    refine (HW.out _ HR.out).mono ?_
    rintro e w1 ⟨rfl, hk1⟩
    have HKw : Hid (Keeps (fun k => k = rb) w w1) := hidden (hk1.mono (fun k _ h => h.elim))
    have HMw := hidden (HM.out.read har HPR.out HKw.out)
    clear hk1 HW HR HM
    go_wp2_with fail
    refine (bye_q _ HMw.out).mono ?_
    rintro e w9 hq
    have HQ := hidden (hq.after HKw.out)
    obtain ⟨u1, u2, rfl, _⟩ := hq
    clear HMw HKw
    go_wp2_with fail
    go_ret2
    exact HQ.out
  · rw [if_pos rfl]
    cases hcl : c.cl
    · rw [if_neg (by rintro h; cases h)]
      show Calls _ _ _ _ (fun e w' => QDPost w P a (fun k => k = a ∨ k = rb) (⟨S.cs.set i none, S.dead⟩, [numL 97 [c.th]], [⟨4, i, []⟩]) e w')
      go_enter Tryz.func44, Tryz.ntmps44
      go_wp2_with fail
      refine (HW.out _ HR.out).mono ?_
      rintro e w1 ⟨rfl, hk1⟩
      have HKw : Hid (Keeps (fun k => k = rb) w w1) := hidden (hk1.mono (fun k _ h => h.elim))
      have HMw := hidden (HM.out.read har HPR.out HKw.out)
      clear hk1 HW HR HM
      obtain ⟨v, A, Z, hx, hvP, hput⟩ := HMw.out.putD hS hi hc
      have HPUT := hidden hput
      obtain ⟨c0, c1, c2, c3, c4, c5, c6, c7, cf⟩ := hx.cells
      have HX := hidden hx
      rw [hcl] at c3
      clear hx hvP hput
      go_wp2_with fail
      have HN := hidden (nsl_lit w1 [c.th])
      refine (uq_c 97 _ [c.th] _ HN.out (by intro j hj; match j, hj with | 0, _ => exact hth) (by simp) (by simp)).mono ?_
      rintro e w6 ⟨v6, rfl, ho6, hb6⟩
      obtain ⟨a6, p6, e6⟩ := ownsRow_shape ho6
      subst e6
      rw [show byteOf ((97 : Nat) : Int) = 97 from rfl] at ho6 ⊢
      have hk7 : Keeps (fun _ => False) w1 (w6.alloc (.cells #[.slice a6 (numL 97 [c.th]).length p6] 22)) := (Keeps.ofFresh (below_alloc hb6)).alloc _
      have HLS : Hid (Lst w1.heap.size (w6.alloc (.cells #[.slice a6 (numL 97 [c.th]).length p6] 22)) (.slice (some ⟨w6.heap.size, 0, none⟩) 1 1) [numL 97 [c.th]]) := hidden (Lst.one ho6 (by simp) hb6.size)
      have HX7 := hidden (HX.out.still hk7)
      have HK7 := hidden hk7
      clear ho6 hb6 hk7 HN c0 c1 c2 c3 c4 c5 c6 c7 cf
      generalize (numL 97 [c.th]).length = n6 at *
      obtain ⟨g6, hg6⟩ : ∃ g6, g6 = w6.heap.size := ⟨_, rfl⟩
      rw [← hg6] at HLS
      go_upto_region 48 with fail
      rw [← hg6]
      clear hg6
      generalize w6.alloc (.cells #[.slice a6 n6 p6] 22) = w7 at *
      obtain ⟨c0, c1, c2, c3, c4, c5, c6, c7, cf⟩ := HX7.out.cells
      have HZ := hidden HX7.out.zero
      have HKZ := hidden (zeroQ_keeps w7 a (i * 8))
      have hsc := fun w p m => store_cxa w p m
      go_upto_region 49 with fail
      change Code.wp _ _ _ _ (zeroQ w7 a (i * 8))
      clear hsc c0 c1 c2 c3 c4 c5 c6 c7 cf
      generalize zeroQ w7 a (i * 8) = w8 at *
      have HP : Hid (QDPost w P a (fun k => k = a ∨ k = rb) (⟨S.cs.set i none, S.dead⟩, [numL 97 [c.th]], [⟨4, i, []⟩]) (.returned (.tuple #[.slice (some ⟨g6, 0, none⟩) 1 1, .slice (some ⟨w8.heap.size, 0, none⟩) 1 1])) (w8.alloc (.cells #[.int .i64 4, .int .i64 (i : Int), .slice none 0 0] 95))) := by
        have hk9 : Keeps (fun _ => False) w8 (w8.alloc (.cells #[.int .i64 4, .int .i64 (i : Int), .slice none 0 0] 95)) := (Keeps.refl _ _).alloc _
        have hkA := (HK7.out.mono (S' := fun k => k = a) (fun k _ h => h.elim)).trans HKZ.out
        have hkB := hkA.trans (hk9.mono (fun k _ h => h.elim))
        have hal1 := HMw.out.aLt
        refine hidden (QDPost.after HKw.out ⟨_, _, rfl, (HLS.out.keep HKZ.out (fun k e => by omega)).keep hk9 (fun k e => e.elim), Evs.ofQ (heap_alloc_new _ _) hkA.size, ?_, hkB⟩)
        exact HPUT.out _ none (.slice none 0 0) ((hk9.block _ (lt_of_block HZ.out) (fun h => h)).trans HZ.out) (fun c e => by cases e) hkB (fun k e => by simp [Value.ownBlock] at e)
      clear HX HX7 HK7 HLS HZ HKZ HPUT HMw HKw
      go_wp2_with fail
      go_ret2
      exact HP.out
    · rw [if_pos rfl]
      show Calls _ _ _ _ (fun e w' => QDPost w P a (fun k => k = a ∨ k = rb) (⟨S.cs.set i none, S.dead⟩, [], [⟨4, i, []⟩]) e w')
      go_enter Tryz.func44, Tryz.ntmps44
      go_wp2_with fail
      refine (HW.out _ HR.out).mono ?_
      rintro e w1 ⟨rfl, hk1⟩
      have HKw : Hid (Keeps (fun k => k = rb) w w1) := hidden (hk1.mono (fun k _ h => h.elim))
      have HMw := hidden (HM.out.read har HPR.out HKw.out)
      clear hk1 HW HR HM
      obtain ⟨v, A, Z, hx, hvP, hput⟩ := HMw.out.putD hS hi hc
      have HPUT := hidden hput
      obtain ⟨c0, c1, c2, c3, c4, c5, c6, c7, cf⟩ := hx.cells
      have HX := hidden hx
      rw [hcl] at c3
      clear hx hvP hput
      go_upto_region 48 with fail
      have HX7 := HX
      have HK7 : Hid (Keeps (fun _ => False) w1 w1) := hidden (Keeps.refl _ _)
      have HLS : Hid (Lst w1.heap.size w1 (.slice none 0 0) []) := hidden (Lst.nil' _ _)
      clear c0 c1 c2 c3 c4 c5 c6 c7 cf
      obtain ⟨c0, c1, c2, c3, c4, c5, c6, c7, cf⟩ := HX7.out.cells
      have HZ := hidden HX7.out.zero
      have HKZ := hidden (zeroQ_keeps w1 a (i * 8))
      have hsc := fun w p m => store_cxa w p m
      go_upto_region 49 with fail
      change Code.wp _ _ _ _ (zeroQ w1 a (i * 8))
      clear hsc c0 c1 c2 c3 c4 c5 c6 c7 cf
      generalize zeroQ w1 a (i * 8) = w8 at *
      have HP : Hid (QDPost w P a (fun k => k = a ∨ k = rb) (⟨S.cs.set i none, S.dead⟩, [], [⟨4, i, []⟩]) (.returned (.tuple #[.slice none 0 0, .slice (some ⟨w8.heap.size, 0, none⟩) 1 1])) (w8.alloc (.cells #[.int .i64 4, .int .i64 (i : Int), .slice none 0 0] 95))) := by
        have hk9 : Keeps (fun _ => False) w8 (w8.alloc (.cells #[.int .i64 4, .int .i64 (i : Int), .slice none 0 0] 95)) := (Keeps.refl _ _).alloc _
        have hkA := (HK7.out.mono (S' := fun k => k = a) (fun k _ h => h.elim)).trans HKZ.out
        have hkB := hkA.trans (hk9.mono (fun k _ h => h.elim))
        have hal1 := HMw.out.aLt
        refine hidden (QDPost.after HKw.out ⟨_, _, rfl, (HLS.out.keep HKZ.out (fun k e => by omega)).keep hk9 (fun k e => e.elim), Evs.ofQ (heap_alloc_new _ _) hkA.size, ?_, hkB⟩)
        exact HPUT.out _ none (.slice none 0 0) ((hk9.block _ (lt_of_block HZ.out) (fun h => h)).trans HZ.out) (fun c e => by cases e) hkB (fun k e => by simp [Value.ownBlock] at e)
      clear HX HX7 HK7 HLS HZ HKZ HPUT HMw HKw
      go_wp2_with fail
      go_ret2
      exact HP.out

set_option maxHeartbeats 1600000 in
set_option maxRecDepth 100000 in
theorem on96_q (w : World) {L : Nat} {P : Nat → Prop} {a rb i : Nat} {S : MS} {c : Ch} {g : Option Nat} {bs : List UInt8} {p : Nat} {why : Int} (h : QX w P a S) (hok : OkM L S) (_hL : L ≤ 1000000) (hi : i < 4) (hc : S.cs.getD i none = some c) (hr : QR w rb g bs p why) (har : a < rb) (hPR : ¬ P rb) :
    Calls Tryz.prog 44 #[.pointer (some ⟨a, 0, none⟩), .int .i64 (i : Int), .int .i64 96, .pointer (some ⟨rb, 0, none⟩)] w fun e w' => QDPost w P a (fun k => k = a ∨ k = rb) ((putC S i (finO c i bs p why)).getD (⟨S.cs, true⟩, [byeL 2], [])) e w' := by
  have HM := hidden h
  have HPR := hidden hPR
  have hal := h.aLt
  have hS := hok.four
  have HKC := hidden (hok.each i c hc)
  have hth := (hok.each i c hc).th
  have g1 : (i : Int) < 4 := by omega
  have g0 : ¬ (i : Int) < 0 := by omega
  unfold finO
  generalize hd : wholeB bs p why = d at *
  have HW : Hid (∀ w', QR w' rb g bs p why → Calls Tryz.prog 67 #[.pointer (some ⟨rb, 0, none⟩)] w' fun e w2 => e = .returned (.bool d) ∧ Keeps (fun _ => False) w' w2) := hidden fun w' h' => by rw [← hd]; exact fine_c w' h'
  have HR := hidden hr
  clear h hr hPR hd hok _hL
  obtain ⟨en, hen⟩ : ∃ en, en = c.en := ⟨_, rfl⟩
  cases d
  · rw [if_neg (by rintro ⟨h, _⟩; cases h), show putC S i none = none from rfl, Option.getD_none]
    clear hen
    go_enter Tryz.func44, Tryz.ntmps44
    go_wp2_with fail
    refine (HW.out _ HR.out).mono ?_
    rintro e w1 ⟨rfl, hk1⟩
    have HKw : Hid (Keeps (fun k => k = rb) w w1) := hidden (hk1.mono (fun k _ h => h.elim))
    have HMw := hidden (HM.out.read har HPR.out HKw.out)
    clear hk1 HW HR HM
    go_wp2_with fail
    refine (bye_q _ HMw.out).mono ?_
    rintro e w9 hq
    have HQ := hidden (hq.after HKw.out)
    obtain ⟨u1, u2, rfl, _⟩ := hq
    clear HMw HKw
    go_wp2_with fail
    go_ret2
    exact HQ.out
  · have HEN := hidden hen
    clear hen
    cases en
    · rw [if_pos ⟨rfl, HEN.out.symm⟩]
      show Calls _ _ _ _ (fun e w' => QDPost w P a (fun k => k = a ∨ k = rb) (⟨S.cs.set i (some ⟨c.od, true, c.cl, c.th, c.wl, c.wm, c.ol, c.wt⟩), S.dead⟩, [], [⟨3, i, []⟩]) e w')
      go_enter Tryz.func44, Tryz.ntmps44
      go_wp2_with fail
      refine (HW.out _ HR.out).mono ?_
      rintro e w1 ⟨rfl, hk1⟩
      have HKw : Hid (Keeps (fun k => k = rb) w w1) := hidden (hk1.mono (fun k _ h => h.elim))
      have HMw := hidden (HM.out.read har HPR.out HKw.out)
      clear hk1 HW HR HM
      obtain ⟨v, A, Z, hx, hvP, hput⟩ := HMw.out.putD hS hi hc
      have HPUT := hidden hput
      have HVP := hidden hvP
      obtain ⟨c0, c1, c2, c3, c4, c5, c6, c7, cf⟩ := hx.cells
      have HX := hidden hx
      clear hx hvP hput
      rw [← HEN.out] at c2
      have HX2 := hidden (HX.out.set 2 (by omega) (.bool true) ⟨c.od, true, c.cl, c.th, c.wl, c.wm, c.ol, c.wt⟩ v rfl HX.out.held HX.out.own)
      have HK2 := hidden (keepsSet w1 a (i * 8 + 2) (.bool true))
      go_upto_region 42 with fail
      clear c0 c1 c2 c3 c4 c5 c6 c7 cf
      generalize w1.setCell ⟨a, i * 8 + 2, none⟩ (.bool true) = w8 at *
      have HP : Hid (QDPost w P a (fun k => k = a ∨ k = rb) (⟨S.cs.set i (some ⟨c.od, true, c.cl, c.th, c.wl, c.wm, c.ol, c.wt⟩), S.dead⟩, [], [⟨3, i, []⟩]) (.returned (.tuple #[.slice none 0 0, .slice (some ⟨w8.heap.size, 0, none⟩) 1 1])) (w8.alloc (.cells #[.int .i64 3, .int .i64 (i : Int), .slice none 0 0] 95))) := by
        have hk9 : Keeps (fun _ => False) w8 (w8.alloc (.cells #[.int .i64 3, .int .i64 (i : Int), .slice none 0 0] 95)) := (Keeps.refl _ _).alloc _
        have hkB := HK2.out.trans (hk9.mono (fun k _ h => h.elim))
        have hx9 := HX2.out.still hk9
        refine hidden (QDPost.after HKw.out ⟨_, _, rfl, Lst.nil' _ _, Evs.ofQ (heap_alloc_new _ _) HK2.out.size, ?_, hkB⟩)
        exact HPUT.out _ _ v hx9.blk (fun c' e => by cases e; exact hx9.held) hkB HVP.out
      clear HX HX2 HK2 HPUT HVP HMw HKw
      go_wp2_with fail
      go_ret2
      exact HP.out
    · rw [if_neg (by rintro ⟨_, h⟩; rw [← HEN.out] at h; cases h), show putC S i none = none from rfl, Option.getD_none]
      go_enter Tryz.func44, Tryz.ntmps44
      go_wp2_with fail
      refine (HW.out _ HR.out).mono ?_
      rintro e w1 ⟨rfl, hk1⟩
      have HKw : Hid (Keeps (fun k => k = rb) w w1) := hidden (hk1.mono (fun k _ h => h.elim))
      have HMw := hidden (HM.out.read har HPR.out HKw.out)
      clear hk1 HW HR HM
      obtain ⟨v, A, Z, hx, hvP, hput⟩ := HMw.out.putD hS hi hc
      have HPUT := hidden hput
      have HVP := hidden hvP
      obtain ⟨c0, c1, c2, c3, c4, c5, c6, c7, cf⟩ := hx.cells
      have HX := hidden hx
      clear hx hvP hput
      rw [← HEN.out] at c2
      clear HEN
      go_upto_region 40 with fail
      clear c0 c1 c2 c3 c4 c5 c6 c7 cf
      go_wp2_with fail
      refine (bye_q _ HMw.out).mono ?_
      rintro e w9 hq
      have HQ := hidden (hq.after HKw.out)
      obtain ⟨u1, u2, rfl, _⟩ := hq
      clear HMw HKw
      go_wp2_with fail
      go_ret2
      exact HQ.out

set_option maxHeartbeats 1600000 in
set_option maxRecDepth 100000 in
theorem on93_q (w : World) {L : Nat} {P : Nat → Prop} {a rb i : Nat} {S : MS} {c : Ch} {g : Option Nat} {bs : List UInt8} {p : Nat} {why : Int} (h : QX w P a S) (hok : OkM L S) (hL : L ≤ 1000000) (hi : i < 4) (hc : S.cs.getD i none = some c) (hr : QR w rb g bs p why) (har : a < rb) (hPR : ¬ P rb) :
    Calls Tryz.prog 44 #[.pointer (some ⟨a, 0, none⟩), .int .i64 (i : Int), .int .i64 93, .pointer (some ⟨rb, 0, none⟩)] w fun e w' => QDPost w P a (fun k => k = a ∨ k = rb) ((putC S i (moreO c bs p why)).getD (⟨S.cs, true⟩, [byeL 2], [])) e w' := by
  have HM := hidden h
  have HPR := hidden hPR
  have hal := h.aLt
  have hS := hok.four
  have HKC := hidden (hok.each i c hc)
  have hth := (hok.each i c hc).th
  have g1 : (i : Int) < 4 := by omega
  have g0 : ¬ (i : Int) < 0 := by omega
  unfold moreO
  have HU := hidden (qu32_c w hr)
  have hnv := val4_lt _ (tk_len bs p why 4)
  generalize tk bs p why 4 = tt at *
  generalize val tt.1 = n at *
  generalize hd : wholeB bs tt.2.1 tt.2.2 = d at *
  have HW : Hid (∀ w', QR w' rb g bs tt.2.1 tt.2.2 → Calls Tryz.prog 67 #[.pointer (some ⟨rb, 0, none⟩)] w' fun e w2 => e = .returned (.bool d) ∧ Keeps (fun _ => False) w' w2) := hidden fun w' h' => by rw [← hd]; exact fine_c w' h'
  clear h hr hPR hd hok
  have HAY : Hid (∀ w', c.wl + n ≤ 4294967295 → Calls Tryz.prog 68 #[.complex .f64 (nb c.wl) (nb c.wm), .int .i64 (n : Int)] w' _) := hidden fun w' hh => radd_yes (Win.mk' c.wl c.wm HKC.out.wl HKC.out.w1 HKC.out.wm) n hh w'
  have HAN : Hid (∀ w', ¬ c.wl + n ≤ 4294967295 → Calls Tryz.prog 68 #[.complex .f64 (nb c.wl) (nb c.wm), .int .i64 (n : Int)] w' _) := hidden fun w' hh => radd_no (Win.mk' c.wl c.wm HKC.out.wl HKC.out.w1 HKC.out.wm) (n : Int) (.inr (.inr (by omega))) w'
  generalize hx1 : nb c.wl = x1 at *
  generalize hx2 : nb c.wm = x2 at *
  generalize hx3 : nb (c.wl + n) = x3 at *
  have X1 := hidden hx1
  have X2 := hidden hx2
  have X3 := hidden hx3
  clear hx1 hx2 hx3
  have hnw : IntKind.i64.wrap (n : Int) = (n : Int) := wrap_small _ (by omega) (by omega)
  by_cases had : c.wl + n ≤ 4294967295
  · cases d
    · rw [if_neg (by rintro ⟨h, _⟩; cases h), show putC S i none = none from rfl, Option.getD_none]
      go_enter Tryz.func44, Tryz.ntmps44
      go_wp2_with fail
      refine HU.out.mono ?_
      rintro e w1 ⟨rfl, t1⟩
      have HK1 := hidden t1.keeps
      have HR1 := hidden t1.state
      have HM1 := hidden (HM.out.read har HPR.out t1.keeps)
      clear t1 HU HM
      obtain ⟨v, A, Z, hx, hvP, hput⟩ := HM1.out.putD hS hi hc
      have HPUT := hidden hput
      have HVP := hidden hvP
      obtain ⟨c0, c1, c2, c3, c4, c5, c6, c7, cf⟩ := hx.cells
      have HX := hidden hx
      clear hx hvP hput
      rw [X1.out, X2.out] at c5
      go_wp2_with fail
      refine (HAY.out _ had).mono ?_
      rintro e w2 ⟨rfl, rfl⟩
      clear HAY HAN c0 c1 c2 c3 c4 c5 c6 c7 cf HX HPUT HVP
      go_wp2_with fail
      refine (HW.out _ HR1.out).mono ?_
      rintro e w3 ⟨rfl, hk3⟩
      have HKw : Hid (Keeps (fun k => k = rb) w w3) := hidden (HK1.out.trans (hk3.mono (fun k _ h => h.elim)))
      have HMw := hidden (HM1.out.still hk3)
      clear hk3 HW HR1 HM1 HK1
      go_wp2_with fail
      refine (bye_q _ HMw.out).mono ?_
      rintro e w9 hq
      have HQ := hidden (hq.after HKw.out)
      obtain ⟨u1, u2, rfl, _⟩ := hq
      clear HMw HKw
      go_wp2_with fail
      go_ret2
      exact HQ.out
    · rw [if_pos ⟨rfl, had⟩]
      show Calls _ _ _ _ (fun e w' => QDPost w P a (fun k => k = a ∨ k = rb) (⟨S.cs.set i (some (behind (wider c n))), S.dead⟩, pieces (wider c n) (nOf (wider c n)), []) e w')
      go_enter Tryz.func44, Tryz.ntmps44
      go_wp2_with fail
      refine HU.out.mono ?_
      rintro e w1 ⟨rfl, t1⟩
      have HK1 := hidden t1.keeps
      have HR1 := hidden t1.state
      have HM1 := hidden (HM.out.read har HPR.out t1.keeps)
      clear t1 HU HM
      obtain ⟨v, A, Z, hx, hvP, hput⟩ := HM1.out.putD hS hi hc
      have HPUT := hidden hput
      have HVP := hidden hvP
      obtain ⟨c0, c1, c2, c3, c4, c5, c6, c7, cf⟩ := hx.cells
      have HX := hidden hx
      clear hx hvP hput
      rw [X1.out, X2.out] at c5
      go_wp2_with fail
      refine (HAY.out _ had).mono ?_
      rintro e w2 ⟨rfl, rfl⟩
      clear HAY HAN c0 c1 c2 c3 c4 c5 c6 c7 cf HX HPUT HVP
      go_wp2_with fail
      refine (HW.out _ HR1.out).mono ?_
      rintro e w3 ⟨rfl, hk3⟩
      have HKw : Hid (Keeps (fun k => k = rb) w w3) := hidden (HK1.out.trans (hk3.mono (fun k _ h => h.elim)))
      have HMw := hidden (HM1.out.still hk3)
      clear hk3 HW HR1 HM1 HK1
      obtain ⟨v, A, Z, hx, hvP, hput⟩ := HMw.out.putD hS hi hc
      have HPUT := hidden hput
      have HVP := hidden hvP
      obtain ⟨c0, c1, c2, c3, c4, c5, c6, c7, cf⟩ := hx.cells
      have HX := hidden hx
      clear hx hvP hput
      have hs5 := store_cx w3 ⟨a, i * 8 + 5, none⟩ x3 x2 c5 (cf _)
      have HX2 := hidden (HX.out.set 5 (by omega) (.complex .f64 x3 x2) (wider c n) v (by rw [← X3.out, ← X2.out]; rfl) HX.out.held HX.out.own)
      have HK2 := hidden (keepsSet w3 a (i * 8 + 5) (.complex .f64 x3 x2))
      go_upto_region 37 with fail
      clear c0 c1 c2 c3 c4 c5 c6 c7 cf hs5
      generalize w3.setCell ⟨a, i * 8 + 5, none⟩ (.complex .f64 x3 x2) = w8 at *
      have HFL := hidden (flow_q _ HX2.out (HKC.out.wider n had) hL hi rfl)
      go_wp2_with fail
      refine HFL.out.mono ?_
      rintro e w4 ⟨u4, v4, rfl, hls4, hdx4, hvo4, hk4⟩
      have HP : Hid (QDPost w P a (fun k => k = a ∨ k = rb) (⟨S.cs.set i (some (behind (wider c n))), S.dead⟩, pieces (wider c n) (nOf (wider c n)), []) (.returned (.tuple #[u4, .slice none 0 0])) w4) := by
        have hkB := HK2.out.trans hk4
        refine hidden (QDPost.after HKw.out ⟨_, _, rfl, hls4.mono HK2.out.size, Evs.nil' _ _ _, ?_, hkB⟩)
        exact HPUT.out _ _ v4 hdx4.blk (fun c' e => by cases e; exact hdx4.held) hkB (fun k e => HVP.out k (hvo4 k e))
      clear hls4 hdx4 hvo4 hk4 HFL HX HX2 HK2 HPUT HVP HMw HKw
      go_wp2_with fail
      go_ret2
      exact HP.out
  · rw [if_neg (fun h => had h.2), show putC S i none = none from rfl, Option.getD_none]
    cases d
    all_goals
      go_enter Tryz.func44, Tryz.ntmps44
      go_wp2_with fail
      refine HU.out.mono ?_
      rintro e w1 ⟨rfl, t1⟩
      have HK1 := hidden t1.keeps
      have HR1 := hidden t1.state
      have HM1 := hidden (HM.out.read har HPR.out t1.keeps)
      clear t1 HU HM
      obtain ⟨v, A, Z, hx, hvP, hput⟩ := HM1.out.putD hS hi hc
      have HPUT := hidden hput
      have HVP := hidden hvP
      obtain ⟨c0, c1, c2, c3, c4, c5, c6, c7, cf⟩ := hx.cells
      have HX := hidden hx
      clear hx hvP hput
      rw [X1.out, X2.out] at c5
      go_wp2_with fail
      refine (HAN.out _ had).mono ?_
      rintro e w2 ⟨rfl, rfl⟩
      clear HAY HAN c0 c1 c2 c3 c4 c5 c6 c7 cf HX HPUT HVP
      go_wp2_with fail
      refine (HW.out _ HR1.out).mono ?_
      rintro e w3 ⟨rfl, hk3⟩
      have HKw : Hid (Keeps (fun k => k = rb) w w3) := hidden (HK1.out.trans (hk3.mono (fun k _ h => h.elim)))
      have HMw := hidden (HM1.out.still hk3)
      clear hk3 HW HR1 HM1 HK1
      go_wp2_with fail
      refine (bye_q _ HMw.out).mono ?_
      rintro e w9 hq
      have HQ := hidden (hq.after HKw.out)
      obtain ⟨u1, u2, rfl, _⟩ := hq
      clear HMw HKw
      go_wp2_with fail
      go_ret2
      exact HQ.out
end Go.Proofs.YtnimdbjbkoggdaaGreat
