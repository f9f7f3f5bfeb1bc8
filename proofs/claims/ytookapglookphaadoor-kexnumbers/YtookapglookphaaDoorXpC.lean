/- The document's curve: write, and the ladder's places. -/
import Derived.Test.YtookapglookphaaDoorXcD
import Derived.Test.YtookapglookphaaDoorXeB
import Derived.Test.YtookapglookphaaDoorXpB
import Derived.Deep.RegionLaw
namespace Go.Proofs.YtookapglookphaaDoor
section
open Go Go.RowKit

theorem wpList_newIL {ops : Array Oper} {rest : List Oper} {o o2 : Oper} {a : Act} {w : World} {Q : Exit → Act → World → Prop} {d e : Tmp} {R : List Int} {RA : Array Value} (hRA : (icells R).toArray = RA) (hg : o.guard = none ∧ o2.guard = none) (ho : o.op = .alloc 96) (ho2 : o2.op = .store 96 (.tmp d) (.tmp e)) (hd : o.dst = some d) (hd2 : o2.dst = none)
    (hs : decide (d < a.tmps.size) = true) (hv : a.eval (.tmp e) = .agg RA) (hl : R.length = 16) (hde : d ≠ e)
    (h : ∀ w', Ex w w' → IB w' w.heap.size 96 R → wpList Tryd.prog ops Q rest (a.put (some d) (.pointer (some ⟨w.heap.size, 0, none⟩))) w') : wpList Tryd.prog ops Q (o :: o2 :: rest) a w := by
  subst hRA
  refine wpList_gives (Φ := fun u w' => u = .pointer (some ⟨w.heap.size, 0, none⟩) ∧ w' = w.alloc (.cells (icells Z16).toArray 96)) hg.1 (gives_allocI ho ⟨rfl, rfl⟩) fun u w' ⟨e1, e2⟩ => ?_
  rw [e1, e2, hd]
  obtain ⟨z1, y1, x1⟩ := row16 R hl
  have hn0 := heap_alloc_new w (.cells (icells Z16).toArray 96)
  refine wpList_store_row hg.2 96 _ _ ho2 w.heap.size (icells R).toArray ?_ ?_ 96 _ hn0 z1 x1 y1 ?_
  · rw [eval_put_tmp, if_pos ⟨rfl, of_decide_eq_true hs⟩]
  · rw [eval_put_tmp, if_neg (by intro h; exact hde (Option.some.inj h.1)), hv]
  · rw [hd2]
    refine h _ ?_ ?_
    · exact below_setRow (Ex.alloc w _) (Nat.le_refl _) _
    · unfold IB
      rw [setRow_heap _ _ _ _ _ _ hn0]
theorem wpList_overI {ops : Array Oper} {rest : List Oper} {o : Oper} {a : Act} {w : World} {Q : Exit → Act → World → Prop} {x y : Operand} {g : Nat} {R R0 : List Int} {RA : Array Value} (hRA : RA = (icells R).toArray) (hg : o.guard = none) (ho : o.op = .store 96 x y) (hd : o.dst = none) (hx : a.eval x = .pointer (some ⟨g, 0, none⟩)) (hy : a.eval y = .agg RA) (hl : R.length = 16) (hb : IB w g 96 R0) (hl0 : R0.length = 16)
    (h : ∀ w', Keeps (fun k => k = g) w w' → IB w' g 96 R → wpList Tryd.prog ops Q rest a w') : wpList Tryd.prog ops Q (o :: rest) a w := by
  subst hRA
  obtain ⟨z1, y1, _⟩ := row16 R hl
  have hz : (icells R0).toArray.size = (icells R).toArray.size := by rw [List.size_toArray, List.size_toArray, icells_length, icells_length, hl, hl0]
  refine wpList_store_row hg 96 _ _ ho g (icells R).toArray hx hy 96 _ hb z1 hz y1 ?_
  rw [hd]
  refine h _ ⟨rfl, rfl, rfl, by simp, fun k _ hk => setRow_other _ _ _ _ hk⟩ ?_
  unfold IB
  rw [setRow_heap _ _ _ _ _ _ hb]
theorem srcTwo {W : World} {B : Nat} {x y : Int} (hb : W.heap[B]? = some (.cells #[.int .u8 x, .int .u8 y] 5 (0, 0))) : Src Tryd.prog 1 22 (.slice (some ⟨B, 0, none⟩) 2 2) 2 [.int .u8 x, .int .u8 y] W :=
  Src.ofSlice _ Tryd.underlying22 ⟨B, 0, none⟩ 2 2 [.int .u8 x, .int .u8 y] rfl (World.news_of_block (cs := #[.int .u8 x, .int .u8 y]) (t := 5) (fr := (0, 0)) hb) (by intro u hu; simp at hu; rcases hu with rfl | rfl <;> rfl)
/-- The difference, as it grows. -/
def dfTo (T : List Int) : Nat → List Int
  | 0 => Z16.set 0 (sb T 0)
  | n + 1 => ((dfTo T n).set (n + 1) (sb T (n + 1))).set n (sb T n % 65536)
theorem dfTo_length (T : List Int) (n : Nat) : (dfTo T n).length = 16 := by
  induction n with
  | zero => rfl
  | succ n ih => simp [dfTo, ih]
theorem dfTo_at (T : List Int) (n : Nat) (h : n < 16) : (dfTo T n).getD n 0 = sb T n := by
  cases n with
  | zero => rfl
  | succ n => rw [dfTo, getD_setI, if_neg (by omega), getD_setI, if_pos ⟨rfl, by rw [dfTo_length]; omega⟩]
def dfG (f : Nat → Int) : Nat → List Int
  | 0 => Z16.set 0 (f 0)
  | n + 1 => ((dfG f n).set (n + 1) (f (n + 1))).set n (f n % 65536)
theorem dfTo_G (T : List Int) (n : Nat) : dfTo T n = dfG (sb T) n := by
  induction n with
  | zero => rfl
  | succ n ih => rw [dfTo, dfG, ih]
theorem dfTo_end (T : List Int) : dfTo T 15 = mL T := by
  rw [dfTo_G]
  unfold mL
  generalize sb T = f
  kernel_rfl
def nxTo (T : List Int) : Nat → List Int
  | 0 => T
  | j + 1 => nxL (nxTo T j)
theorem write_ex {R : List Int} {a : Nat} (h : Rc R a) : ∃ C1 C2 C3, crTo R 16 = C1 ∧ crTo C1 16 = C2 ∧ crTo C2 16 = C3 ∧ Cn C1 ∧ Cn C2 ∧ Cn C3 ∧ Cn (nxL C3) ∧ Cn (nxL (nxL C3)) ∧ vI (nxL (nxL C3)) 16 = (a : Int) := by
  obtain ⟨w1, w2, w3, w4, w5, w6⟩ := write_val h
  exact ⟨_, _, _, rfl, rfl, rfl, w5, w6, w3, w4, w1, w2⟩
structure UI (w wr : World) (g : Nat) (T : List Int) : Prop where
  t : IB wr g 96 T
  g : w.heap.size ≤ g
  e : Ex w wr
theorem UI.keep {w wr wr' : World} {g : Nat} {T T' : List Int} (h : UI w wr g T) {S : Nat → Prop} (hS : ∀ k, S k → w.heap.size ≤ k) (hk : Keeps S wr wr') (ht : IB wr' g 96 T') : UI w wr' g T' :=
  ⟨ht, h.g, Below.trans h.e (hk.below (B := w.heap.size) h.e.size hS)⟩
theorem Cn.wide {L : List Int} (h : Cn L) (j : Nat) : -200000000000000 ≤ L.getD j 0 ∧ L.getD j 0 ≤ 200000000000000 := by have := h.bd j; omega

set_option maxHeartbeats 200000 in
set_option maxRecDepth 100000 in
theorem rwrite_c {v : Value} {a : Nat} (h : IsC v a) (w : World) :
    Calls Tryd.prog 66 #[v] w fun e w' => ∃ ao cap, e = .returned (.slice ao 32 cap) ∧ BSl w' (.slice ao 32 cap) (outL a 32) ∧ Ex w w' := by
  obtain ⟨R, rfl, hR⟩ := h
  obtain ⟨C1, C2, T3, hC1, hC2, hC3, k1, k2, k3, k4, k5, k6⟩ := write_ex hR
  have HQ1 := hidden hC1
  have HQ2 := hidden hC2
  have HQ3 := hidden hC3
  have HW5 := hidden k1
  have HW6 := hidden k2
  have HW3 := hidden k3
  have HW4 := hidden k4
  have HW1 := hidden k5
  have HW2 := hidden k6
  have hRl := hR.len
  have HRw : Hid (∀ j, -200000000000000 ≤ R.getD j 0 ∧ R.getD j 0 ≤ 200000000000000) := fun j => by have := hR.all j; omega
  have HSZ : Hid ((Tryd.prog.info? 96).map (·.size) = some (icells R).toArray.size) := (row16 R hRl).1
  clear hC1 hC2 hC3 k1 k2 k3 k4 k5 k6 hR
  obtain ⟨RA, hRA⟩ : ∃ RA, (icells R).toArray = RA := ⟨_, rfl⟩
  rw [hRA] at HSZ ⊢
  have HRA := hidden hRA
  clear hRA
  go_enter Tryd.func66, Tryd.ntmps66
  go_upto_region 1 with fail
  have HPP : Hid ((w.alloc (.cells RA 96)).heap[w.heap.size]? = some (.cells RA 96 (0, 0))) := heap_alloc_new w _
  have HX1 : Hid (Ex w (w.alloc (.cells RA 96))) := Ex.alloc w _
  generalize w.alloc (.cells RA 96) = wa at HPP HX1 ⊢
  go_wp2_with (first
    | (refine wpList_loadRow rfl 96 (.tmp 1) rfl w.heap.size RA 96 (0, 0) 16 2 rfl HPP.out Tryd.underlying96 HSZ.out ?_)
    | (refine wpList_newIL (d := 3) (e := 10) (R := R) HRA.out ⟨rfl, rfl⟩ rfl rfl rfl rfl (by kernel_rfl) (by kernel_rfl) hRl (by decide) ?_; intro wb hx n1))
  have HU : Hid (UI w wb wa.heap.size R) := ⟨n1, HX1.out.size, HX1.out.trans hx⟩
  generalize wa.heap.size = g at HU ⊢
  have HC1 := hidden (rcarry_c g R hRl HRw.out wb HU.out.t)
  rw [HQ1.out] at HC1
  clear hx n1 HPP HX1 HSZ HRw
  refine HC1.out.mono ?_
  rintro e wc ⟨rfl, nc, kc⟩
  have HUc := hidden (HU.out.keep (S := fun k => k = g) (by intro k e; rw [e]; exact HU.out.g) kc nc)
  have HC2 := hidden (rcarry_c g C1 HW5.out.len HW5.out.wide wc nc)
  rw [HQ2.out] at HC2
  clear HC1 nc kc HU
  go_wp2_with fail
  refine HC2.out.mono ?_
  rintro e wd ⟨rfl, nd, kd⟩
  have HUd := hidden (HUc.out.keep (S := fun k => k = g) (by intro k e; rw [e]; exact HUc.out.g) kd nd)
  have HC3 := hidden (rcarry_c g C2 HW6.out.len HW6.out.wide wd nd)
  rw [HQ3.out] at HC3
  clear HC2 nd kd HUc
  go_wp2_with fail
  refine HC3.out.mono ?_
  rintro e we ⟨rfl, ne, ke⟩
  have HUe := hidden (HUd.out.keep (S := fun k => k = g) (by intro k e; rw [e]; exact HUd.out.g) ke ne)
  clear HC3 ne ke HUd HW5 HW6
  go_wp2_with fail
  go_loopw [4] (fun c wr => ∃ j : Nat, j ≤ 2 ∧ c = .int .i64 (j : Int) ∧ UI w wr g (nxTo T3 j)) (fun c _ => 2 - (intOf c).toNat)
  case atStart => exact ⟨0, by omega, rfl, HUe.out⟩
  case round =>
    clear HUe
    obtain ⟨j, hj, rfl, hu⟩ := hrel
    have HU := hidden hu
    clear hu
    by_cases hlt : j < 2
    · have hlt' : (j : Int) < 2 := by omega
      have HCN : Hid (Cn (nxTo T3 j)) := by
        rcases (show j = 0 ∨ j = 1 by omega) with rfl | rfl
        · exact HW3.out
        · exact HW4.out
      have HNX : Hid (nxTo T3 (j + 1) = nxL (nxTo T3 j)) := rfl
      generalize nxTo T3 j = T at HU HCN HNX
      go_upto_region 9 with fail
      change Code.wp _ _ _ _ (wr.alloc (.cells (icells Z16).toArray 96))
      obtain ⟨gm, hgm⟩ : ∃ x, x = wr.heap.size := ⟨_, rfl⟩
      have hgl : g < gm := by rw [hgm]; exact HU.out.t.lt
      have hM0 : IB (wr.alloc (.cells (icells Z16).toArray 96)) gm 96 Z16 := by rw [hgm]; exact IB.new wr _
      have HU1 := hidden (HU.out.keep (S := fun _ => False) (fun _ h => h.elim) ((Keeps.refl _ wr).alloc (.cells (icells Z16).toArray 96)) (HU.out.t.keep (S := fun _ => False) ((Keeps.refl _ wr).alloc (.cells (icells Z16).toArray 96)) (fun h => h)))
      have HGM : Hid (w.heap.size ≤ gm) := by have := HU.out.g; show _ ≤ _; omega
      rw [← hgm]
      generalize wr.alloc (.cells (icells Z16).toArray 96) = wf at hM0 HU1 ⊢
      have t0 := HU1.out.t.cell 0 (by rw [HCN.out.len]; omega)
      have m0 := hM0.cell 0 (by decide)
      have mf := hM0.frozen
      have hs0 : T.getD 0 0 - 65517 = sb T 0 := by unfold sb; show _ = T.getD 0 0 - 65517 - 0; omega
      have hb0 := sb_bd HCN.out 0 (by omega)
      have hw0 := i64w (sb T 0) (by omega)
      have HD0 : Hid (IB (wf.setCell ⟨gm, 0, none⟩ (.int .i64 (sb T 0))) gm 96 (dfTo T 0)) := hM0.set 0 _
      have HU2 : Hid (UI w (wf.setCell ⟨gm, 0, none⟩ (.int .i64 (sb T 0))) g T) := HU1.out.keep (S := fun k => k = gm) (by intro k e; rw [e]; exact HGM.out) ((Keeps.refl (fun k => k = gm) wf).setCell (p := ⟨gm, 0, none⟩) (.inl rfl) _) (HU1.out.t.keep (S := fun k => k = gm) ((Keeps.refl (fun k => k = gm) wf).setCell (p := ⟨gm, 0, none⟩) (.inl rfl) _) (by omega))
      generalize T.getD 0 0 = x0 at t0 hs0
      generalize Z16.getD 0 0 = z0 at m0
      generalize sb T 0 = y0 at hs0 hw0 hb0 HD0 HU2
      clear HU HU1 hM0 hgm hb0
      go_upto_region 10 with fail
      generalize wf.setCell ⟨gm, 0, none⟩ (.int .i64 y0) = wg at HD0 HU2 ⊢
      clear t0 m0 mf hs0 hw0
      go_wp2_with fail
      obtain ⟨wo, ewo⟩ : ∃ x, x = wr := ⟨wr, rfl⟩
      subst ewo
      go_loopw [6] (fun c wr => ∃ n : Nat, n ≤ 14 ∧ c = .int .i64 ((n : Int) + 1) ∧ UI w wr g T ∧ IB wr gm 96 (dfTo T n)) (fun c _ => 15 - (intOf c).toNat)
      case atStart => exact ⟨0, by omega, rfl, HU2.out, HD0.out⟩
      case round =>
        clear HU2 HD0
        obtain ⟨n, hn, rfl, hu, hd⟩ := hrel
        have HU := hidden hu
        have HD := hidden hd
        clear hu hd
        by_cases hln : n < 14
        · have hln' : (n : Int) + 1 < 15 := by omega
          have hl := dfTo_length T n
          have t1 := HU.out.t.cell (n + 1) (by rw [HCN.out.len]; omega)
          have d1 := HD.out.cell n (by omega)
          rw [dfTo_at T n (by omega)] at d1
          have d2 := HD.out.cell (n + 1) (by omega)
          have hf := HD.out.frozen
          have hb := sb_bd HCN.out n (by omega)
          have hb1 := sb_bd HCN.out (n + 1) (by omega)
          have htb := HCN.out.bd (n + 1)
          have hpl : pL.getD (n + 1) 0 = 65535 := by
            have : ∀ k : Fin 14, pL.getD (k.val + 1) 0 = 65535 := by decide
            exact this ⟨n, hln⟩
          have e1 : T.getD (n + 1) 0 - 65535 - bw T (n + 1) = sb T (n + 1) := by unfold sb; rw [hpl]
          have e2 : sb T n / 65536 % 2 = bw T (n + 1) := rfl
          have a1 := i64_and1 (sb T n / 65536)
          rw [e2] at a1
          have a2 := i64_and16 (sb T n)
          have HDF : Hid (dfTo T (n + 1) = ((dfTo T n).set (n + 1) (sb T (n + 1))).set n (sb T n % 65536)) := rfl
          obtain ⟨x1, hx1⟩ : ∃ x1, x1 = T.getD (n + 1) 0 - 65535 := ⟨_, rfl⟩
          have hx2 : T.getD (n + 1) 0 - 65535 = x1 := hx1.symm
          rw [hx2] at e1
          have hw1 := i64w x1 (by omega)
          have hw2 := i64w (sb T (n + 1)) (by omega)
          generalize sb T n % 65536 = y2 at a2 HDF
          generalize hsq : sb T n / 65536 = q0 at a1 e2
          obtain ⟨y, hsy⟩ : ∃ y, sb T n = y := ⟨_, rfl⟩
          have HSY := hidden hsy
          rw [hsy] at d1 hb a2 hsq
          clear hsy
          generalize sb T (n + 1) = y1 at e1 hb1 hw2 HDF
          generalize bw T (n + 1) = bb at e1 a1 e2
          generalize T.getD (n + 1) 0 = x at t1 hx2 htb
          generalize (dfTo T n).getD (n + 1) 0 = z at d2
          clear hx1 hb hb1 htb hpl e2
          have hgne : g ≠ gm := by omega
          have hwn := i64w (n : Int) (by omega)
          go_wp2_with fail
          go_region
          go_upto_region 14 with fail
          have HD1 : Hid (IB (wr.setCell ⟨gm, n + 1, none⟩ (.int .i64 y1)).drew gm 96 ((dfTo T n).set (n + 1) y1)) := HD.out.set (n + 1) _
          have HU1 : Hid (UI w (wr.setCell ⟨gm, n + 1, none⟩ (.int .i64 y1)).drew g T) := HU.out.keep (S := fun k => k = gm) (by intro k e; rw [e]; exact HGM.out) (((Keeps.refl (fun k => k = gm) wr).setCell (p := ⟨gm, n + 1, none⟩) (.inl rfl) _).drew) (HU.out.t.keep (S := fun k => k = gm) (((Keeps.refl (fun k => k = gm) wr).setCell (p := ⟨gm, n + 1, none⟩) (.inl rfl) _).drew) (by omega))
          generalize (wr.setCell ⟨gm, n + 1, none⟩ (.int .i64 y1)).drew = w1 at HD1 HU1 ⊢
          have d3 := HD1.out.cell n (by rw [List.length_set]; omega)
          rw [getD_setI, if_neg (by omega), dfTo_at T n (by omega), HSY.out] at d3
          have f1 := HD1.out.frozen
          clear t1 d1 d2 hf HD HU a1
          go_wp2
          go_roundw
          case rel =>
            refine ⟨n + 1, by omega, by go_num, ?_, ?_⟩
            · exact HU1.out.keep (S := fun k => k = gm) (by intro k e; rw [e]; exact HGM.out) ((Keeps.refl (fun k => k = gm) w1).setCell (p := ⟨gm, n, none⟩) (.inl rfl) _) (HU1.out.t.keep (S := fun k => k = gm) ((Keeps.refl (fun k => k = gm) w1).setCell (p := ⟨gm, n, none⟩) (.inl rfl) _) (by omega))
            · rw [HDF.out]
              exact HD1.out.set n _
          case measure => simp [intOf]; omega
        · have hln' : ¬ (n : Int) + 1 < 15 := by omega
          obtain rfl : n = 14 := by omega
          have hl := dfTo_length T 14
          have t1 := HU.out.t.cell 15 (by rw [HCN.out.len]; omega)
          have d1 := HD.out.cell 14 (by omega)
          rw [dfTo_at T 14 (by omega)] at d1
          have d2 := HD.out.cell 15 (by omega)
          have hf := HD.out.frozen
          have hb := sb_bd HCN.out 14 (by omega)
          have hb1 := sb_bd HCN.out 15 (by omega)
          have htb := HCN.out.bd 15
          have e1 : T.getD 15 0 - 32767 - bw T 15 = sb T 15 := rfl
          have e2 : sb T 14 / 65536 % 2 = bw T 15 := rfl
          have a1 := i64_and1 (sb T 14 / 65536)
          rw [e2] at a1
          have a2 := i64_and16 (sb T 14)
          have HDF : Hid (dfTo T 15 = ((dfTo T 14).set 15 (sb T 15)).set 14 (sb T 14 % 65536)) := rfl
          have HND : Hid (nxL T = if sb T 15 / 65536 % 2 = 0 then dfTo T 15 else T) := by show _ = _; rw [dfTo_end]; rfl
          have a3 := i64_and1 (sb T 15 / 65536)
          have hb2 : sb T 15 / 65536 % 2 = 0 ∨ sb T 15 / 65536 % 2 = 1 := by omega
          obtain ⟨bo, hbo⟩ : ∃ bo, bo = sb T 15 / 65536 % 2 := ⟨_, rfl⟩
          rw [← hbo] at a3 HND hb2
          obtain ⟨x1, hx1⟩ : ∃ x1, x1 = T.getD 15 0 - 32767 := ⟨_, rfl⟩
          have hx2 : T.getD 15 0 - 32767 = x1 := hx1.symm
          rw [hx2] at e1
          have hw1 := i64w x1 (by omega)
          have hw2 := i64w (sb T 15) (by omega)
          generalize sb T 14 % 65536 = y2 at a2 HDF
          generalize hsq : sb T 14 / 65536 = q0 at a1 e2
          obtain ⟨y, hsy⟩ : ∃ y, sb T 14 = y := ⟨_, rfl⟩
          rw [hsy] at d1 hb a2 hsq
          have HSY := hidden hsy
          clear hbo
          generalize hsq1 : sb T 15 / 65536 = q1 at a3
          generalize sb T 15 = y1 at e1 hb1 hw2 HDF hsq1
          generalize bw T 15 = bb at e1 a1 e2
          generalize T.getD 15 0 = x at t1 hx2 htb
          generalize (dfTo T 14).getD 15 0 = z at d2
          clear hx1 hb hb1 htb e2 hsy
          have hgne : g ≠ gm := by omega
          go_upto_region 16 with fail
          have HD1 : Hid (IB (wr.setCell ⟨gm, 15, none⟩ (.int .i64 y1)) gm 96 ((dfTo T 14).set 15 y1)) := HD.out.set 15 _
          have HU1 : Hid (UI w (wr.setCell ⟨gm, 15, none⟩ (.int .i64 y1)) g T) := HU.out.keep (S := fun k => k = gm) (by intro k e; rw [e]; exact HGM.out) ((Keeps.refl (fun k => k = gm) wr).setCell (p := ⟨gm, 15, none⟩) (.inl rfl) _) (HU.out.t.keep (S := fun k => k = gm) ((Keeps.refl (fun k => k = gm) wr).setCell (p := ⟨gm, 15, none⟩) (.inl rfl) _) (by omega))
          generalize wr.setCell ⟨gm, 15, none⟩ (.int .i64 y1) = w1 at HD1 HU1 ⊢
          have d3 := HD1.out.cell 14 (by rw [List.length_set]; omega)
          rw [getD_setI, if_neg (by omega), dfTo_at T 14 (by omega), HSY.out] at d3
          have d4 := HD1.out.cell 15 (by rw [List.length_set]; omega)
          rw [getD_setI, if_pos ⟨rfl, by omega⟩] at d4
          have f1 := HD1.out.frozen
          clear t1 d1 d2 hf HD HU a1
          go_upto_region 18 with fail
          have HD2 : Hid (IB (w1.setCell ⟨gm, 14, none⟩ (.int .i64 y2)) gm 96 (dfTo T 15)) := by show IB _ _ _ _; rw [HDF.out]; exact HD1.out.set 14 _
          have HU2 : Hid (UI w (w1.setCell ⟨gm, 14, none⟩ (.int .i64 y2)) g T) := HU1.out.keep (S := fun k => k = gm) (by intro k e; rw [e]; exact HGM.out) ((Keeps.refl (fun k => k = gm) w1).setCell (p := ⟨gm, 14, none⟩) (.inl rfl) _) (HU1.out.t.keep (S := fun k => k = gm) ((Keeps.refl (fun k => k = gm) w1).setCell (p := ⟨gm, 14, none⟩) (.inl rfl) _) (by omega))
          generalize w1.setCell ⟨gm, 14, none⟩ (.int .i64 y2) = w2 at HD2 HU2 ⊢
          clear d3 d4 f1 HD1 HU1 a2 HDF
          obtain ⟨k, hk, hkb⟩ : ∃ k : Nat, (1 : Int) - bo = (k : Int) ∧ k ≤ 1 := by
            rcases hb2 with h | h
            · exact ⟨1, by omega, by omega⟩
            · exact ⟨0, by omega, by omega⟩
          have hwk := i64w (k : Int) (by omega)
          have HSW := hidden (rswap_c T (dfTo T 15) k hkb HCN.out.len (dfTo_length T 15))
          have HNK : Hid (nxL T = if k = 1 then dfTo T 15 else T) := by
            show _ = _
            rw [HND.out]
            rcases hb2 with h | h
            · rw [if_pos h, if_pos (by omega)]
            · rw [if_neg (by omega), if_neg (by omega)]
          obtain ⟨NB, hNB⟩ : ∃ NB, NB = if k = 1 then T else dfTo T 15 := ⟨_, rfl⟩
          rw [← hNB, ← HNK.out] at HSW
          have HNL : Hid (NB.length = 16) := by show _ = _; rw [hNB]; split; exact HCN.out.len; exact dfTo_length T 15
          have HNL2 : Hid ((nxL T).length = 16) := by show _ = _; rw [HNK.out]; split; exact dfTo_length T 15; exact HCN.out.len
          have HDL : Hid ((dfTo T 15).length = 16) := dfTo_length T 15
          have HTL : Hid (T.length = 16) := HCN.out.len
          clear hb2 HND HNK hNB hkb
          generalize nxL T = TN at HSW HNX HNL2
          generalize dfTo T 15 = D at HD2 HSW HDL
          have HST : Hid ((Tryd.prog.info? 96).map (·.size) = some (icells T).toArray.size) := (row16 T HTL.out).1
          have HSD : Hid ((Tryd.prog.info? 96).map (·.size) = some (icells D).toArray.size) := (row16 D HDL.out).1
          have HPT : Hid (w2.heap[g]? = some (.cells (icells T).toArray 96 (0, 0))) := HU2.out.t
          have HPD : Hid (w2.heap[gm]? = some (.cells (icells D).toArray 96 (0, 0))) := HD2.out
          obtain ⟨TA, hTA⟩ : ∃ x, x = (icells T).toArray := ⟨_, rfl⟩
          obtain ⟨DA, hDA⟩ : ∃ x, x = (icells D).toArray := ⟨_, rfl⟩
          obtain ⟨NA, hNA⟩ : ∃ x, x = (icells TN).toArray := ⟨_, rfl⟩
          obtain ⟨MA, hMA⟩ : ∃ x, x = (icells NB).toArray := ⟨_, rfl⟩
          rw [← hTA] at HST HPT HSW
          rw [← hDA] at HSD HPD HSW
          rw [← hNA, ← hMA] at HSW
          have HNA := hidden hNA
          have HMA := hidden hMA
          clear hTA hDA hNA hMA
          go_wp2_with (first
            | (refine wpList_loadRow rfl 96 (.tmp 3) rfl g TA 96 (0, 0) 16 2 rfl HPT.out Tryd.underlying96 HST.out ?_)
            | (refine wpList_loadRow rfl 96 (.tmp 5) rfl gm DA 96 (0, 0) 16 2 rfl HPD.out Tryd.underlying96 HSD.out ?_))
          refine (HSW.out w2).mono ?_
          rintro e w3 ⟨rfl, x3⟩
          have HU3 : Hid (UI w w3 g T) := ⟨HU2.out.t.fresh x3, HU2.out.g, HU2.out.e.trans x3⟩
          have HD3 : Hid (IB w3 gm 96 D) := HD2.out.fresh x3
          clear HPT HPD HU2 HD2 x3
          go_wp2_with (first
            | (refine wpList_overI (g := g) (R := TN) HNA.out rfl rfl rfl rfl rfl HNL2.out HU3.out.t HTL.out ?_; intro w4 k4 n4)
            | (refine wpList_overI (g := gm) (R := NB) HMA.out rfl rfl rfl rfl rfl HNL.out (HD3.out.keep k4 (by omega)) HDL.out ?_; intro w5 k5 n5))
          go_roundw
          case rel =>
            refine ⟨j + 1, by omega, by go_num, ?_⟩
            rw [HNX.out]
            exact (HU3.out.keep (S := fun k => k = g) (by intro k e; rw [e]; exact HU3.out.g) k4 n4).keep (S := fun k => k = gm) (by intro k e; rw [e]; exact HGM.out) k5 (n4.keep k5 hgne)
          case measure => simp [intOf]; omega
    · have hlt' : ¬ (j : Int) < 2 := by omega
      obtain rfl : j = 2 := by omega
      have HL : Hid (Cn (nxTo T3 2)) := HW1.out
      have HV : Hid (vI (nxTo T3 2) 16 = (a : Int)) := HW2.out
      generalize nxTo T3 2 = L at HU HL HV
      clear HW1 HW2 HW3 HW4 HQ1 HQ2 HQ3
      obtain ⟨wo, ewo⟩ : ∃ x, x = wr := ⟨wr, rfl⟩
      subst ewo
      obtain ⟨i0, hi, hz0, hz1, hz2⟩ := info_parts Tryd.infoU8
      have HGL : Hid (g < wo.heap.size) := HU.out.t.lt
      have HWO : Hid (w.heap.size ≤ wo.heap.size) := HU.out.e.size
      obtain ⟨B, hB⟩ : ∃ B, B = wo.heap.size := ⟨_, rfl⟩
      rw [← hB] at HGL HWO
      go_wp2_with fail
      go_loopw [8, 9] (fun v c wr => ∃ i : Nat, i ≤ 16 ∧ c = .int .i64 (i : Int) ∧ UI w wr g L ∧ wr.ownsRow B 5 1 v (2 * i) (bcells (outL a (2 * i))) ∧ B ≤ wr.heap.size) (fun _ c _ => 16 - (intOf c).toNat)
      case atStart => exact ⟨0, by omega, rfl, HU.out, World.ownsRow_nil _ _ _ _, by omega⟩
      case round =>
        clear HU
        obtain ⟨i, hi16, rfl, hu, ho, hBw⟩ := hrel
        have HU := hidden hu
        have HO := hidden ho
        clear hu ho hB
        by_cases hli : i < 16
        · have hli' : (i : Int) < 16 := by omega
          have t1 := HU.out.t.cell i (by rw [HL.out.len]; omega)
          obtain ⟨p1, p2⟩ := part_val HL.out a HV.out i hli
          obtain ⟨b0, hb0⟩ : ∃ b0, b0 = a / 256 ^ (2 * i) % 256 := ⟨_, rfl⟩
          obtain ⟨b1, hb1⟩ : ∃ b1, b1 = a / 256 ^ (2 * i + 1) % 256 := ⟨_, rfl⟩
          rw [← hb0] at p1
          rw [← hb1] at p2
          have HO2 : Hid (outL a (2 * i + 2) = outL a (2 * i) ++ [UInt8.ofNat b0, UInt8.ofNat b1]) := by
            show _ = _
            rw [outL_succ, outL_succ, hb0, hb1, List.append_assoc]; rfl
          have HB0 : Hid (b0 < 256 ∧ b1 < 256) := by constructor <;> omega
          obtain ⟨O, hO⟩ : ∃ O, O = outL a (2 * i) := ⟨_, rfl⟩
          rw [← hO] at HO HO2
          clear hb0 hb1 hO
          generalize L.getD i 0 = x at t1 p1 p2
          have hv0 : IntKind.u8.wrap x = (b0 : Int) := by rw [IntKind.wrap_u8]; exact p1
          obtain ⟨q, hq⟩ : ∃ q, x / 256 = q := ⟨_, rfl⟩
          rw [hq] at p2
          have hv1 : IntKind.u8.wrap q = (b1 : Int) := by rw [IntKind.wrap_u8]; exact p2
          clear p1 p2
          go_wp2_with fail
          go_region_law ((refine step_append_src _ (by rfl) (.tmp 76) (.tmp 86) 22 22 (by rfl) B 5 i0 _ 1 Tryd.underlying22 hi hz0 hz1 hz2 rfl u8 (2 * i) _ (by rfl) ((HO.out.alloc _).drew) _ 2 _ (by rfl) (srcTwo (heap_alloc_new wr _)) (by unfold maxLen; omega) (by omega) (by simp; omega) (wr.heap.size + 1) (by simp) ?_; intro v' w9 hown' hgrow hnil hat; obtain ⟨ao, cp, rfl⟩ := ownsRow_shape hown'))
          all_goals
            have k1 : Keeps (fun k => u8.ownBlock = some k) wr w9 := ((((Keeps.refl _ wr).alloc _).drew)).trans (Keeps.ofGrown hgrow (fun k e => e))
            have HU9 : Hid (UI w w9 g L) := HU.out.keep (S := fun k => u8.ownBlock = some k) (by intro k e; have := (HO.out.lt k e).1; have := HWO.out; omega) k1 (HU.out.t.keep k1 (by intro e; have := (HO.out.lt g e).1; have := HGL.out; omega))
            have HO9 : Hid (w9.ownsRow B 5 1 (.slice ao (2 * i + 2) cp) (2 * i + 2) (bcells (outL a (2 * i + 2)))) := by
              show World.ownsRow _ _ _ _ _ _ _
              rw [HO2.out, bcells_append]
              have e2 : bcells [UInt8.ofNat b0, UInt8.ofNat b1] = [.int .u8 (b0 : Int), .int .u8 (b1 : Int)] := by
                have := HB0.out
                simp [bcells, Nat.mod_eq_of_lt this.1, Nat.mod_eq_of_lt this.2]
              rw [e2]
              exact hown'
            have hB9 : B ≤ w9.heap.size := Nat.le_trans hBw k1.size
            clear hown' hgrow hnil hat k1
            go_wp2
            go_roundw
            case rel => exact ⟨i + 1, by omega, by go_num, HU9.out, HO9.out, hB9⟩
            case measure => simp [intOf]; omega
        · have hli' : ¬ (i : Int) < 16 := by omega
          obtain rfl : i = 16 := by omega
          have HVv := hidden (BSl.ofRow HO.out)
          have HE := hidden HU.out.e
          obtain ⟨ao, cp, rfl⟩ := ownsRow_shape HO.out
          clear HO HU
          go_wp2
          go_ret
          exact ⟨_, _, rfl, HVv.out, HE.out⟩
end
section
open Go Go.RowKit

/-- A number in a place: carried or not. -/
structure KV where
  t : Bool
  n : Nat
def KV.at (k : KV) (w : World) (g : Nat) : Prop := if k.t then C16 w g k.n else B16 w g k.n
def KV.is (k : KV) (v : Value) : Prop := if k.t then IsC v k.n else IsB v k.n
theorem KV.at.any {k : KV} {w : World} {g : Nat} (h : k.at w g) : A16 w g := by
  unfold KV.at at h
  split at h
  · exact h.any
  · exact h.any
theorem KV.at.lt {k : KV} {w : World} {g : Nat} (h : k.at w g) : g < w.heap.size := by
  obtain ⟨R, h1, _⟩ := h.any
  exact h1.lt
theorem KV.at.ext {k : KV} {w w' : World} {g : Nat} (h : k.at w g) (x : Ex w w') : k.at w' g := by
  unfold KV.at at h ⊢
  split at h
  · rename_i e; rw [if_pos e]; exact h.ext x
  · rename_i e; rw [if_neg e]; exact h.ext x
theorem KV.at.keep {k : KV} {S : Nat → Prop} {w w' : World} {g : Nat} (h : k.at w g) (x : Keeps S w w') (hn : ¬ S g) : k.at w' g := by
  unfold KV.at at h ⊢
  split at h
  · rename_i e; rw [if_pos e]; exact h.keep x hn
  · rename_i e; rw [if_neg e]; exact h.keep x hn
theorem KV.is.b {k : KV} {v : Value} (h : k.is v) : IsB v k.n := by
  unfold KV.is at h
  split at h
  · exact h.b
  · exact h
theorem KV.is.c {k : KV} {v : Value} (h : k.is v) (ht : k.t = true) : IsC v k.n := by
  unfold KV.is at h
  rw [if_pos ht] at h
  exact h
/-- A row of bytes. -/
structure ZR where
  g : Nat
  cap : Nat
  s : List UInt8
/-- Places with their numbers, each by itself, beside a row of bytes. -/
structure MS (z : ZR) (w wr : World) (l : List (Nat × KV)) : Prop where
  e : Ex w wr
  q : ORow wr w.heap.size z.g z.cap z.s
  y : ∀ p ∈ l, p.1 ≠ z.g
  a : ∀ p ∈ l, p.2.at wr p.1 ∧ w.heap.size ≤ p.1
  n : l.Pairwise fun p q => p.1 ≠ q.1
theorem MS.get {z : ZR} {w wr : World} {l : List (Nat × KV)} {i : Nat} {g : Nat} {k : KV} (h : MS z w wr l) (hi : l[i]? = some (g, k)) : k.at wr g := (h.a (g, k) (List.mem_of_getElem? hi)).1
theorem MS.lo {z : ZR} {w wr : World} {l : List (Nat × KV)} {i : Nat} {g : Nat} {k : KV} (h : MS z w wr l) (hi : l[i]? = some (g, k)) : w.heap.size ≤ g := (h.a (g, k) (List.mem_of_getElem? hi)).2
theorem MS.ext {z : ZR} {w wr wr' : World} {l : List (Nat × KV)} (h : MS z w wr l) (x : Ex wr wr') : MS z w wr' l := ⟨h.e.trans x, h.q.keep (S := fun _ => False) (Keeps.ofFresh x) (fun h => h), h.y, fun p hp => ⟨(h.a p hp).1.ext x, (h.a p hp).2⟩, h.n⟩
theorem MS.push {z : ZR} {w wr wr' : World} {l : List (Nat × KV)} {g : Nat} {k : KV} (h : MS z w wr l) (x : Ex wr wr') (hg : wr.heap.size ≤ g) (hk : k.at wr' g) : MS z w wr' (l ++ [(g, k)]) := by
  refine ⟨h.e.trans x, h.q.keep (S := fun _ => False) (Keeps.ofFresh x) (fun h => h), fun p hp => ?_, fun p hp => ?_, ?_⟩
  · rcases List.mem_append.mp hp with hp | hp
    · exact h.y p hp
    · rw [List.mem_singleton.mp hp]
      have := h.q.lt
      show g ≠ z.g
      omega
  · rcases List.mem_append.mp hp with hp | hp
    · exact ⟨(h.a p hp).1.ext x, (h.a p hp).2⟩
    · rw [List.mem_singleton.mp hp]
      exact ⟨hk, Nat.le_trans h.e.size hg⟩
  · rw [List.pairwise_append]
    refine ⟨h.n, List.pairwise_singleton _ _, fun p hp q hq => ?_⟩
    rw [List.mem_singleton.mp hq]
    have := (h.a p hp).1.lt
    show p.1 ≠ g
    omega
theorem pairwise_set {l : List (Nat × KV)} (h : l.Pairwise fun p q => p.1 ≠ q.1) {i g : Nat} {k k' : KV} (hi : l[i]? = some (g, k)) : (l.set i (g, k')).Pairwise fun p q => p.1 ≠ q.1 := by
  induction l generalizing i with
  | nil => simp at hi
  | cons p l ih =>
    cases i with
    | zero =>
      obtain rfl : p = (g, k) := by simpa using hi
      rw [List.set_cons_zero, List.pairwise_cons]
      exact ⟨(List.pairwise_cons.mp h).1, (List.pairwise_cons.mp h).2⟩
    | succ i =>
      rw [List.set_cons_succ, List.pairwise_cons]
      refine ⟨fun q hq => ?_, ih (List.pairwise_cons.mp h).2 (by simpa using hi)⟩
      have h1 := (List.pairwise_cons.mp h).1
      rcases List.mem_or_eq_of_mem_set hq with hq | hq
      · exact h1 q hq
      · rw [hq]
        exact h1 (g, k) (List.mem_of_getElem? (by simpa using hi))
theorem mem_set_ne {l : List (Nat × KV)} (h : l.Pairwise fun p q => p.1 ≠ q.1) {i g : Nat} {k k' : KV} (hi : l[i]? = some (g, k)) {p : Nat × KV} (hp : p ∈ l.set i (g, k')) : p = (g, k') ∨ (p ∈ l ∧ p.1 ≠ g) := by
  induction l generalizing i with
  | nil => simp at hi
  | cons q l ih =>
    cases i with
    | zero =>
      obtain rfl : q = (g, k) := by simpa using hi
      rw [List.set_cons_zero] at hp
      rcases List.mem_cons.mp hp with hp | hp
      · exact .inl hp
      · exact .inr ⟨List.mem_cons_of_mem _ hp, fun e => (List.pairwise_cons.mp h).1 p hp e.symm⟩
    | succ i =>
      rw [List.set_cons_succ] at hp
      rcases List.mem_cons.mp hp with hp | hp
      · rw [hp]
        exact .inr ⟨List.mem_cons_self, (List.pairwise_cons.mp h).1 (g, k) (List.mem_of_getElem? (by simpa using hi))⟩
      · rcases ih (List.pairwise_cons.mp h).2 (by simpa using hi) hp with h1 | ⟨h1, h2⟩
        · exact .inl h1
        · exact .inr ⟨List.mem_cons_of_mem _ h1, h2⟩
theorem MS.set {z : ZR} {w wr wr' : World} {l : List (Nat × KV)} {i g : Nat} {k k' : KV} (h : MS z w wr l) (hi : l[i]? = some (g, k)) (x : Keeps (fun b => b = g) wr wr') (hk : k'.at wr' g) : MS z w wr' (l.set i (g, k')) := by
  have hlo := h.lo hi
  refine ⟨Below.trans h.e (x.below (B := w.heap.size) h.e.size (by intro b e; omega)), h.q.keep x (fun e => h.y (g, k) (List.mem_of_getElem? hi) e.symm), fun p hp => ?_, fun p hp => ?_, pairwise_set h.n hi⟩
  · rcases mem_set_ne h.n hi hp with rfl | ⟨h1, h2⟩
    · exact h.y (g, k) (List.mem_of_getElem? hi)
    · exact h.y p h1
  rcases mem_set_ne h.n hi hp with rfl | ⟨h1, h2⟩
  · exact ⟨hk, hlo⟩
  · exact ⟨(h.a p h1).1.keep x h2, (h.a p h1).2⟩
section
variable {z : ZR} {ops : Array Oper} {rest : List Oper} {o1 o2 o3 o4 o5 : Oper} {a : Act} {w0 w : World} {Q : Exit → Act → World → Prop} {l : List (Nat × KV)} {x y : Operand}
theorem wpList_loadS {g : Nat} {k : KV} (hg : o1.guard = none) (ho : o1.op = .load 96 x) (hx : a.eval x = .pointer (some ⟨g, 0, none⟩)) (hb : k.at w g)
    (h : ∀ v, k.is v → wpList Tryd.prog ops Q rest (a.put o1.dst v) w) : wpList Tryd.prog ops Q (o1 :: rest) a w := by
  unfold KV.at at hb
  by_cases hk : k.t = true
  · rw [if_pos hk] at hb
    obtain ⟨R, h1, h2⟩ := hb
    refine wpList_gives (Φ := fun v w' => IsC v k.n ∧ w' = w) hg (gives_loadI ho hx h1 h2.len ⟨⟨R, rfl, h2⟩, rfl⟩) fun v w' ⟨hv, e⟩ => ?_
    rw [e]
    exact h v (by unfold KV.is; rw [if_pos hk]; exact hv)
  · rw [if_neg hk] at hb
    obtain ⟨R, h1, h2⟩ := hb
    refine wpList_gives (Φ := fun v w' => IsB v k.n ∧ w' = w) hg (gives_loadI ho hx h1 h2.len ⟨⟨R, rfl, h2⟩, rfl⟩) fun v w' ⟨hv, e⟩ => ?_
    rw [e]
    exact h v (by unfold KV.is; rw [if_neg hk]; exact hv)
theorem wpList_overS {g : Nat} {k : KV} {v : Value} (hg : o1.guard = none) (ho : o1.op = .store 96 x y) (hd : o1.dst = none) (hx : a.eval x = .pointer (some ⟨g, 0, none⟩)) (hy : a.eval y = v) (hn : k.is v) (hb : A16 w g)
    (h : ∀ w', Keeps (fun b => b = g) w w' → k.at w' g → wpList Tryd.prog ops Q rest a w') : wpList Tryd.prog ops Q (o1 :: rest) a w := by
  unfold KV.is at hn
  by_cases hk : k.t = true
  · rw [if_pos hk] at hn
    exact wpList_overC hg ho hd hx hy hn hb fun w' h1 h2 => h w' h1 (by unfold KV.at; rw [if_pos hk]; exact h2)
  · rw [if_neg hk] at hn
    exact wpList_overB hg ho hd hx hy hn hb fun w' h1 h2 => h w' h1 (by unfold KV.at; rw [if_neg hk]; exact h2)
theorem wpList_newS {d e : Tmp} {k : KV} {v : Value} (hg : o1.guard = none ∧ o2.guard = none) (ho : o1.op = .alloc 96) (ho2 : o2.op = .store 96 (.tmp d) (.tmp e)) (hd : o1.dst = some d) (hd2 : o2.dst = none)
    (hs : decide (d < a.tmps.size) = true) (hv : a.eval (.tmp e) = v) (hn : k.is v) (hde : d ≠ e)
    (h : ∀ g w', Ex w w' → k.at w' g → w.heap.size ≤ g → wpList Tryd.prog ops Q rest (a.put (some d) (.pointer (some ⟨g, 0, none⟩))) w') : wpList Tryd.prog ops Q (o1 :: o2 :: rest) a w := by
  unfold KV.is at hn
  by_cases hk : k.t = true
  · rw [if_pos hk] at hn
    exact wpList_newC hg ho ho2 hd hd2 hs hv hn hde fun g w' h1 h2 h3 => h g w' h1 (by unfold KV.at; rw [if_pos hk]; exact h2) h3
  · rw [if_neg hk] at hn
    exact wpList_newB hg ho ho2 hd hd2 hs hv hn hde fun g w' h1 h2 h3 => h g w' h1 (by unfold KV.at; rw [if_neg hk]; exact h2) h3
/-- What one of the three calls answers. -/
def CallS (f : Nat) (k1 k2 k3 : KV) : Prop := ∀ (ops : Array Oper) (rest : List Oper) (o : Oper) (a : Act) (w : World) (Q : Exit → Act → World → Prop) (x y : Operand) (ts : Array TypeId) (vx vy : Value), o.guard = none → o.op = .call { callee := .value (.func f), args := #[x, y], argTypes := ts } → a.eval x = vx → k1.is vx → a.eval y = vy → k2.is vy →
  (∀ v w', k3.is v → Ex w w' → wpList Tryd.prog ops Q rest (a.put o.dst v) w') → wpList Tryd.prog ops Q (o :: rest) a w
theorem callS_mul (k1 k2 : KV) : CallS 65 k1 k2 ⟨true, fmul k1.n k2.n⟩ := fun _ _ _ _ _ _ _ _ _ _ _ hg ho ex hx ey hy h =>
  wpList_rmul hg ho ex hx.b ey hy.b fun v w' hv he => h v w' hv he
theorem callS_add (k1 k2 : KV) (h1 : k1.t = true) (h2 : k2.t = true) : CallS 63 k1 k2 ⟨false, fadd k1.n k2.n⟩ := fun _ _ _ _ _ _ _ _ _ _ _ hg ho ex hx ey hy h =>
  wpList_radd hg ho ex (hx.c h1) ey (hy.c h2) fun v w' hv he => h v w' hv he
theorem callS_sub (k1 k2 : KV) (h1 : k1.t = true) (h2 : k2.t = true) : CallS 64 k1 k2 ⟨false, fsub k1.n k2.n⟩ := fun _ _ _ _ _ _ _ _ _ _ _ hg ho ex hx ey hy h =>
  wpList_rsub hg ho ex (hx.c h1) ey (hy.c h2) fun v w' hv he => h v w' hv he
/-- Two numbers are taken, reckoned with, and laid into a place. -/
theorem wpList_triS {f : Nat} {k1 k2 k3 k4 : KV} (hc : CallS f k1 k2 k3) (i j m : Nat) {g1 g2 g3 : Nat} (s1 s2 s3 d1 d2 d3 : Tmp) {ts : Array TypeId}
    (hg : o1.guard = none ∧ o2.guard = none ∧ o3.guard = none ∧ o4.guard = none)
    (h1 : o1.op = .load 96 (.tmp s1)) (h2 : o2.op = .load 96 (.tmp s2)) (h3 : o3.op = .call { callee := .value (.func f), args := #[.tmp d1, .tmp d2], argTypes := ts }) (h4 : o4.op = .store 96 (.tmp s3) (.tmp d3))
    (e1 : o1.dst = some d1) (e2 : o2.dst = some d2) (e3 : o3.dst = some d3) (e4 : o4.dst = none)
    (sz : (decide (d1 < a.tmps.size) && decide (d2 < a.tmps.size) && decide (d3 < a.tmps.size)) = true)
    (df : (decide (d1 ≠ d2) && decide (s2 ≠ d1) && decide (s3 ≠ d1) && decide (s3 ≠ d2) && decide (s3 ≠ d3)) = true)
    (v1 : a.eval (.tmp s1) = .pointer (some ⟨g1, 0, none⟩)) (v2 : a.eval (.tmp s2) = .pointer (some ⟨g2, 0, none⟩)) (v3 : a.eval (.tmp s3) = .pointer (some ⟨g3, 0, none⟩))
    (hm : MS z w0 w l) (hi : l[i]? = some (g1, k1)) (hj : l[j]? = some (g2, k2)) (hl : l[m]? = some (g3, k4))
    (h : ∀ u1 u2 u3 w', MS z w0 w' (l.set m (g3, k3)) → wpList Tryd.prog ops Q rest (((a.put (some d1) u1).put (some d2) u2).put (some d3) u3) w') : wpList Tryd.prog ops Q (o1 :: o2 :: o3 :: o4 :: rest) a w := by
  simp only [Bool.and_eq_true, decide_eq_true_eq] at sz df
  obtain ⟨⟨z1, z2⟩, z3⟩ := sz
  obtain ⟨⟨⟨⟨n1, n2⟩, n3⟩, n4⟩, n5⟩ := df
  refine wpList_loadS hg.1 h1 v1 (hm.get hi) fun u1 i1 => ?_
  rw [e1]
  refine wpList_loadS hg.2.1 h2 ?_ (hm.get hj) fun u2 i2 => ?_
  · rw [eval_put_tmp, if_neg (by intro h; exact n2 (Option.some.inj h.1).symm), v2]
  rw [e2]
  refine hc _ _ _ _ _ _ _ _ _ u1 u2 hg.2.2.1 h3 ?_ i1 ?_ i2 fun u3 w' i3 x3 => ?_
  · rw [eval_put_tmp, if_neg (by intro h; exact n1 (Option.some.inj h.1).symm), eval_put_tmp, if_pos ⟨rfl, z1⟩]
  · rw [eval_put_tmp, if_pos ⟨rfl, by rw [put_size]; exact z2⟩]
  rw [e3]
  have hm3 := hm.ext x3
  refine wpList_overS hg.2.2.2 h4 e4 ?_ ?_ i3 (hm3.get hl).any fun w2 k2 n => ?_
  · rw [eval_put_tmp, if_neg (by intro h; exact n5 (Option.some.inj h.1).symm), eval_put_tmp, if_neg (by intro h; exact n4 (Option.some.inj h.1).symm), eval_put_tmp, if_neg (by intro h; exact n3 (Option.some.inj h.1).symm), v3]
  · rw [eval_put_tmp, if_pos ⟨rfl, by rw [put_size, put_size]; exact z3⟩]
  exact h u1 u2 u3 w2 (hm3.set hl k2 n)
/-- .. or into a new place. -/
theorem wpList_triN {f : Nat} {k1 k2 k3 : KV} (hc : CallS f k1 k2 k3) (i j : Nat) {g1 g2 : Nat} (s1 s2 d d1 d2 d3 : Tmp) {ts : Array TypeId}
    (hg : o1.guard = none ∧ o2.guard = none ∧ o3.guard = none ∧ o4.guard = none ∧ o5.guard = none)
    (h1 : o1.op = .load 96 (.tmp s1)) (h2 : o2.op = .load 96 (.tmp s2)) (h3 : o3.op = .call { callee := .value (.func f), args := #[.tmp d1, .tmp d2], argTypes := ts }) (h4 : o4.op = .alloc 96) (h5 : o5.op = .store 96 (.tmp d) (.tmp d3))
    (e1 : o1.dst = some d1) (e2 : o2.dst = some d2) (e3 : o3.dst = some d3) (e4 : o4.dst = some d) (e5 : o5.dst = none)
    (sz : (decide (d1 < a.tmps.size) && decide (d2 < a.tmps.size) && decide (d3 < a.tmps.size) && decide (d < a.tmps.size)) = true)
    (df : (decide (d1 ≠ d2) && decide (s2 ≠ d1) && decide (d ≠ d3)) = true)
    (v1 : a.eval (.tmp s1) = .pointer (some ⟨g1, 0, none⟩)) (v2 : a.eval (.tmp s2) = .pointer (some ⟨g2, 0, none⟩))
    (hm : MS z w0 w l) (hi : l[i]? = some (g1, k1)) (hj : l[j]? = some (g2, k2))
    (h : ∀ u1 u2 u3 g w', MS z w0 w' (l ++ [(g, k3)]) → wpList Tryd.prog ops Q rest ((((a.put (some d1) u1).put (some d2) u2).put (some d3) u3).put (some d) (.pointer (some ⟨g, 0, none⟩))) w') : wpList Tryd.prog ops Q (o1 :: o2 :: o3 :: o4 :: o5 :: rest) a w := by
  simp only [Bool.and_eq_true, decide_eq_true_eq] at sz df
  obtain ⟨⟨⟨z1, z2⟩, z3⟩, z4⟩ := sz
  obtain ⟨⟨n1, n2⟩, n3⟩ := df
  refine wpList_loadS hg.1 h1 v1 (hm.get hi) fun u1 i1 => ?_
  rw [e1]
  refine wpList_loadS hg.2.1 h2 ?_ (hm.get hj) fun u2 i2 => ?_
  · rw [eval_put_tmp, if_neg (by intro h; exact n2 (Option.some.inj h.1).symm), v2]
  rw [e2]
  refine hc _ _ _ _ _ _ _ _ _ u1 u2 hg.2.2.1 h3 ?_ i1 ?_ i2 fun u3 w' i3 x3 => ?_
  · rw [eval_put_tmp, if_neg (by intro h; exact n1 (Option.some.inj h.1).symm), eval_put_tmp, if_pos ⟨rfl, z1⟩]
  · rw [eval_put_tmp, if_pos ⟨rfl, by rw [put_size]; exact z2⟩]
  rw [e3]
  have hm3 := hm.ext x3
  refine wpList_newS ⟨hg.2.2.2.1, hg.2.2.2.2⟩ h4 h5 e4 e5 (by rw [put_size, put_size, put_size]; exact decide_eq_true z4) ?_ i3 n3 fun g w2 x2 n l2 => ?_
  · rw [eval_put_tmp, if_pos ⟨rfl, by rw [put_size, put_size]; exact z3⟩]
  exact h u1 u2 u3 g w2 (hm3.push x2 l2 n)
/-- The call of swap. -/
theorem wpList_swapS {k1 k2 : KV} {b : Nat} {zo : Operand} {ts : Array TypeId} {vx vy : Value} (hb : b ≤ 1) (h1 : k1.t = true) (h2 : k2.t = true) (hg : o1.guard = none) (ho : o1.op = .call { callee := .value (.func 62), args := #[x, y, zo], argTypes := ts }) (ex : a.eval x = vx) (hx : k1.is vx) (ey : a.eval y = vy) (hy : k2.is vy) (ez : a.eval zo = .int .i64 (b : Int))
    (h : ∀ v1 v2 w', KV.is ⟨true, if b = 1 then k2.n else k1.n⟩ v1 → KV.is ⟨true, if b = 1 then k1.n else k2.n⟩ v2 → Ex w w' → wpList Tryd.prog ops Q rest (a.put o1.dst (.tuple #[v1, v2])) w') : wpList Tryd.prog ops Q (o1 :: rest) a w := by
  obtain ⟨A, rfl, rA⟩ := hx.c h1
  obtain ⟨B, rfl, rB⟩ := hy.c h2
  refine wpList_gives (Φ := fun v w' => v = .tuple #[.agg (icells (if b = 1 then B else A)).toArray, .agg (icells (if b = 1 then A else B)).toArray] ∧ Ex w w') hg
    (gives_call (vs := #[.agg (icells A).toArray, .agg (icells B).toArray, .int .i64 (b : Int)]) ho rfl (by simp [ex, ey, ez]) Tryd.func62 (by kernel_rfl) (by kernel_rfl) ((rswap_c A B b hb rA.len rB.len w).mono fun _ _ ⟨h1, h2⟩ => ⟨_, h1, rfl, h2⟩)) fun v w' ⟨e, hx⟩ => ?_
  rw [e]
  refine h _ _ w' ?_ ?_ hx
  · unfold KV.is
    rw [if_pos rfl]
    refine ⟨_, rfl, ?_⟩
    show Rc _ (if b = 1 then k2.n else k1.n)
    split
    · exact rB
    · exact rA
  · unfold KV.is
    rw [if_pos rfl]
    refine ⟨_, rfl, ?_⟩
    show Rc _ (if b = 1 then k1.n else k2.n)
    split
    · exact rA
    · exact rB
end
/-- A difference squared knows no sign. -/
theorem fsub_sq (x y : Nat) (hx : x < pC) (hy : y < pC) : fmul (fsub x y) (fsub x y) = fmul (fsub y x) (fsub y x) := by
  unfold fmul fsub
  rw [← Nat.mul_mod, ← Nat.mul_mod]
  obtain ⟨s, hs⟩ : ∃ s, s = x + (pC - y) := ⟨_, rfl⟩
  obtain ⟨t, ht⟩ : ∃ t, t = y + (pC - x) := ⟨_, rfl⟩
  rw [← hs, ← ht]
  have e : (s : Int) * s = (t : Int) * t + (pC : Int) * (2 * ((s : Int) - t)) := by
    have h2 : (s : Int) = 2 * (pC : Int) - t := by omega
    rw [h2]
    generalize (pC : Int) = p
    generalize (t : Int) = t
    grind
  apply Int.ofNat.inj
  show ((s * s % pC : Nat) : Int) = ((t * t % pC : Nat) : Int)
  rw [Int.natCast_emod, Int.natCast_emod, Int.natCast_mul, Int.natCast_mul, e, Int.add_mul_emod_self_left]
theorem fmul_comm (x y : Nat) : fmul x y = fmul y x := by unfold fmul; rw [Nat.mul_comm]
theorem fadd_comm (x y : Nat) : fadd x y = fadd y x := by unfold fadd; rw [Nat.add_comm]
/-- The round's numbers. -/
theorem round_step (u x2 z2 x3 z3 : Nat) :
    stepF u ((x2, z2), (x3, z3)) = ((fmul (fmul (fadd x2 z2) (fadd x2 z2)) (fmul (fsub x2 z2) (fsub x2 z2)),
      fmul (fsub (fmul (fadd x2 z2) (fadd x2 z2)) (fmul (fsub x2 z2) (fsub x2 z2))) (fadd (fmul (fsub (fmul (fadd x2 z2) (fadd x2 z2)) (fmul (fsub x2 z2) (fsub x2 z2))) 121665) (fmul (fadd x2 z2) (fadd x2 z2)))),
      (fmul (fadd (fmul (fadd x3 z3) (fsub x2 z2)) (fmul (fsub x3 z3) (fadd x2 z2))) (fadd (fmul (fadd x3 z3) (fsub x2 z2)) (fmul (fsub x3 z3) (fadd x2 z2))),
       fmul (fmul (fsub (fmul (fadd x3 z3) (fsub x2 z2)) (fmul (fsub x3 z3) (fadd x2 z2))) (fsub (fmul (fadd x3 z3) (fsub x2 z2)) (fmul (fsub x3 z3) (fadd x2 z2)))) u)) := by
  unfold stepF dblX dblZ sumX sumZ oneOf othOf apartOf
  simp only
  rw [fsub_sq (fmul (fadd x3 z3) (fsub x2 z2)) (fmul (fsub x3 z3) (fadd x2 z2)) (fmul_lt _ _) (fmul_lt _ _), fadd_comm (fmul (fadd x3 z3) (fsub x2 z2)), fmul_comm 121665, fmul_comm u, fadd_comm (fmul (fadd x2 z2) (fadd x2 z2)) (fmul (fsub _ _) 121665)]
end
end Go.Proofs.YtookapglookphaaDoor
