/- What known tells. -/
import Derived.Test.YtnimdbjbkoggdaaCnT
namespace Go.Proofs.Ytnimdbjbkoggdaa
open Go Go.RowKit

section
variable {o : Oper} {ρ : Operand → Value} {w w0 : World} {x y z : Operand} {v vx vy vz : Value} {Φ : Value → World → Prop}
theorem gives_nums4 (a b c d : Nat) (ho : o.op = .buildSlice 68 4 #[(0, .const (.int .u32 (a : Int))), (1, .const (.int .u32 (b : Int))), (2, .const (.int .u32 (c : Int))), (3, .const (.int .u32 (d : Int)))]) (hx : ∀ n : Nat, ρ (.const (.int .u32 (n : Int))) = .int .u32 (n : Int)) : Gives Try.prog o ρ w fun v w2 => Ex w w2 ∧ (Fact.nsl [a, b, c, d]).holds v w2 := by
  obtain ⟨i0, hi, hz0, hz1, hz2⟩ := info_parts Try.infoU32
  refine Gives.value (w' := w.alloc (.cells #[.int .u32 (a : Int), .int .u32 (b : Int), .int .u32 (c : Int), .int .u32 (d : Int)] 33)) (v := .slice (some ⟨w.heap.size, 0, none⟩) 4 4) ?_ ⟨Ex.alloc w _, nsl_lit w [a, b, c, d]⟩
  unfold execOp
  simp only [ho]
  have hb := run_buildSlice (P := Try.prog) w 68 33 4 (#[((0 : Nat), Operand.const (.int .u32 (a : Int))), (1, .const (.int .u32 (b : Int))), (2, .const (.int .u32 (c : Int))), (3, .const (.int .u32 (d : Int)))].map fun (i, x) => (i, ρ x)) #[.int .u32 (a : Int), .int .u32 (b : Int), .int .u32 (c : Int), .int .u32 (d : Int)] i0 (.int .u32 0) Try.underlying68 hi hz0 (by rw [hz1]; omega) (by rw [hz1]; omega) (by rw [hz1]; simp only [List.map_toArray, List.map_cons, List.map_nil, hx]; kernel_rfl)
  rw [Sem.run_bind, hb]
  rfl
theorem elemBs : Try.prog.underlying 22 = some (.slice (Try.prog.elem 22)) := by kernel_rfl
theorem elemBsEq : Try.prog.elem 22 = 30 := by kernel_rfl
theorem gives_index {pg n cp i : Nat} (hi : i < n) (ho : o.op = .indexAddr 22 x y) (hx : ρ x = .slice (some ⟨pg, 0, none⟩) n cp) (hy : ρ y = .int .i64 (i : Int)) (h : Φ (.pointer (some ⟨pg, i, none⟩)) w) : Gives Try.prog o ρ w Φ := by
  refine Gives.value (w' := w) (v := .pointer (some ⟨pg, i, none⟩)) ?_ h
  obtain ⟨i0, hi0, hz0, hz1, hz2⟩ := info_parts Try.infoBs
  unfold execOp
  simp only [ho]
  rw [hx, hy]
  simp [run_indexAt_slice w _ _ _ _ _ _ elemBs, elemBsEq, sizeOf, typeInfo, hi0, hz1, add_lit', show (i : Int) < (n : Int) by omega]
theorem elemEv : Try.prog.underlying 27 = some (.slice (Try.prog.elem 27)) := by kernel_rfl
theorem elemEvEq : Try.prog.elem 27 = 51 := by kernel_rfl
theorem Try.infoEv : (Try.prog.info? 51).map (·.size) = some 3 := by kernel_rfl
theorem gives_indexE {pg cp : Nat} (ho : o.op = .indexAddr 27 x y) (hx : ρ x = .slice (some ⟨pg, 0, none⟩) 1 cp) (hy : ρ y = .int .i64 0) (h : Φ (.pointer (some ⟨pg, 0, none⟩)) w) : Gives Try.prog o ρ w Φ := by
  refine Gives.value (w' := w) (v := .pointer (some ⟨pg, 0, none⟩)) ?_ h
  obtain ⟨i0, hi0, hz1⟩ := Option.map_eq_some_iff.1 Try.infoEv
  unfold execOp
  simp only [ho]
  rw [hx, hy]
  simp [run_indexAt_slice w _ _ _ _ _ _ elemEv, elemEvEq, sizeOf, typeInfo, hi0, hz1, add_lit']
theorem gives_fieldE {g : Nat} (ho : o.op = .fieldAddr 51 x 0) (hx : ρ x = .pointer (some ⟨g, 0, none⟩)) (h : Φ (.pointer (some ⟨g, 0, none⟩)) w) : Gives Try.prog o ρ w Φ := by
  refine Gives.value (w' := w) (v := .pointer (some ⟨g, 0, none⟩)) ?_ h
  unfold execOp
  simp only [ho, hx]
  simp [Instr.fieldAt, run_underlying Try.underlying51, Instr.sureAddr, fieldPlace, Addr.add]
end
/-- One payload, by its cell. -/
theorem Lst.one' {B : Nat} {w : World} {v : Value} {x : List UInt8} (h : Lst B w v [x]) : ∃ g cap u, v = .slice (some ⟨g, 0, none⟩) 1 cap ∧ w.cell? ⟨g, 0, none⟩ = some u ∧ BSl w u x ∧ B ≤ g ∧ ∀ k, u.ownBlock = some k → B ≤ k := by
  obtain ⟨vs, h1, h2, h3⟩ := h
  obtain ⟨h4, h5⟩ := h3 0 (by simp)
  rcases id h2.2 with ⟨_, e⟩ | ⟨g, cap, cur, rfl, k1, k2, k3, k4, k5, k6⟩
  · simp at e
  · refine ⟨g, cap, vs.getD 0 undef, rfl, ?_, h4, k1, fun k e => (h5 k e).1⟩
    have hc := h2.cells (g := g) rfl 0 (vs.getD 0 undef) (by simp [List.getElem?_eq_getElem (show 0 < vs.length by rw [h1]; simp)])
    rw [add_lit'] at hc
    exact hc
theorem Evs.none' {t : TypeId} {B : Nat} {w : World} {v : Value} (h : Evs t B w v []) : v = .slice none 0 0 := by
  rcases h with ⟨_, h⟩ | ⟨e, g, u, h, _⟩
  · exact h
  · cases h
theorem Evs.one' {t : TypeId} {B : Nat} {w : World} {v : Value} {e : Ev} (h : Evs t B w v [e]) : ∃ g u, v = .slice (some ⟨g, 0, none⟩) 1 1 ∧ w.heap[g]? = some (.cells #[.int .i64 e.kind, .int .i64 e.chan, u] t (0, 0)) ∧ BSl w u e.bytes ∧ B ≤ g ∧ ∀ k, u.ownBlock = some k → B ≤ k := by
  rcases h with ⟨h, _⟩ | ⟨e', g, u, h, h1, h2, h3, h4, h5⟩
  · cases h
  · cases h
    exact ⟨g, u, h1, h2, h3, h4, h5⟩
def sesB : ByteArray := ⟨#[115, 101, 115, 115, 105, 111, 110]⟩
def kP1 : List UInt8 := openP sesB 7 1000 100
def kP2 : List UInt8 := subP 0 ⟨#[115, 117, 98, 115, 121, 115, 116, 101, 109]⟩ true ⟨#[115, 102, 116, 112]⟩
def kC : Ch := newC 7 1000 100
def kS : MS := ⟨[some kC, none, none, none], false⟩
theorem known1 : doO newM kP1 = (kS, [numL 91 [7, 0, 65536, 32768]], []) := by kernel_rfl
theorem known2 : doO kS kP2 = (⟨[some ⟨true, false, false, 7, 1000, 100, 65536, []⟩, none, none, none], false⟩, [numL 99 [7]], [⟨1, 0, []⟩]) := by kernel_rfl
theorem kS_ok : OkM 0 kS := by
  have := doO_ok (okM_new 0) kP1
  rw [known1] at this
  exact this

set_option maxHeartbeats 3200000 in
set_option maxRecDepth 100000 in
theorem known_c (w : World) : Calls Try.prog 19 #[] w fun e w' => e = .returned (.bool true) ∧ Below w.heap.size w w' := by
  have HP1 : Hid (∀ w1 : World, Calls Try.prog 20 #[.agg #[.int .i64 1, .int .i64 1, .int .i64 1000, .int .i64 100, .string ⟨#[]⟩, .slice none 0 0]] w1 fun e w' => PayP w1 (.slice none 0 0) [] (fun xs => xs = kP1) e w') := hidden fun w1 => payOpen 1 1 1000 100 ⟨#[]⟩ (.slice none 0 0) [] w1 (bsl_none w1) rfl (fun xs => xs = kP1) (fun f hf c7 h7 => by
    have hf' : f = true := hf.2 (by decide)
    subst hf' h7
    show openP _ _ _ _ = kP1
    kernel_rfl)
  have HP2 : Hid (∀ w1 : World, Calls Try.prog 20 #[.agg #[.int .i64 2, .int .i64 0, .int .i64 0, .int .i64 0, .string ⟨#[]⟩, .slice none 0 0]] w1 fun e w' => PayP w1 (.slice none 0 0) [] (fun xs => xs = kP2) e w') := hidden fun w1 => paySub 2 0 0 0 ⟨#[]⟩ (.slice none 0 0) [] w1 (bsl_none w1) rfl (fun xs => xs = kP2) ⟨fun _ _ => by show subP _ _ _ _ = kP2; kernel_rfl, fun h => absurd ⟨by decide, by decide⟩ h⟩
  have HD1 : Hid (∀ (w1 : World) (P : Nat → Prop) (a : Nat) (v : Value), BSl w1 v kP1 → MX w1 P a newM → Calls Try.prog 8 #[.pointer (some ⟨a, 0, none⟩), v] w1 fun e w' => DPost w1 P a (kS, [numL 91 [7, 0, 65536, 32768]], []) e w') := hidden fun w1 P a v hv hg => by
    have := Do_c v kP1 w1 hg (okM_new 0) (by omega) hv (by decide +kernel)
    rw [known1] at this
    exact this
  have HD2 : Hid (∀ (w1 : World) (P : Nat → Prop) (a : Nat) (v : Value), BSl w1 v kP2 → MX w1 P a kS → Calls Try.prog 8 #[.pointer (some ⟨a, 0, none⟩), v] w1 fun e w' => DPost w1 P a (⟨[some ⟨true, false, false, 7, 1000, 100, 65536, []⟩, none, none, none], false⟩, [numL 99 [7]], [⟨1, 0, []⟩]) e w') := hidden fun w1 P a v hv hg => by
    have := Do_c v kP2 w1 hg kS_ok (by omega) hv (by decide +kernel)
    rw [known2] at this
    exact this
  go_enter Try.func19, Try.ntmps19
  go_wp2_with fail
  refine (New_c w).mono ?_
  rintro e w1 ⟨rfl, hm1, hb1⟩
  have HM1 := hidden hm1
  have HB1 := hidden hb1
  obtain ⟨a, ha⟩ : ∃ a, a = w.heap.size := ⟨_, rfl⟩
  rw [← ha] at HM1 ⊢
  have ha' : w.heap.size ≤ a := by omega
  clear hm1 hb1 ha
  go_wp2_with fail
  refine (HP1.out w1).mono ?_
  rintro e w2 ⟨v2, xs, rfl, hb2, hl2, rfl, ho2, hbl2⟩
  have HM2 := hidden (HM1.out.fresh hbl2)
  have HV2 := hidden hb2
  have HB2 := hidden (HB1.out.trans (hbl2.mono HB1.out.size))
  clear hb2 hl2 ho2 hbl2 HM1 HB1 HP1
  go_wp2_with fail
  refine (HD1.out w2 _ a v2 HV2.out HM2.out).mono ?_
  rintro e w3 ⟨u1, u2, rfl, hls3, hev3, hm3, hk3⟩
  have HM3 := hidden hm3
  have HB3 : Hid (Below w.heap.size w w3) := hidden (HB2.out.trans (Keeps.below hk3 HB2.out.size (fun k e => by rw [e]; exact ha')))
  have hal2 := HM2.out.aLt
  obtain ⟨g1, c1, x1, rfl, hc1, hx1, hg1, ho1⟩ := hls3.one'
  obtain rfl := hev3.none'
  have H1C := hidden hc1
  have H1B := hidden hx1
  clear hls3 hev3 hm3 hk3 HM2 HV2 HB2 HD1 hc1 hx1
  go_wp2_with fail
  refine (HP2.out w3).mono ?_
  rintro e w4 ⟨v4, xs, rfl, hb4, hl4, rfl, ho4, hbl4⟩
  have HM4 := hidden (HM3.out.fresh hbl4)
  have HV4 := hidden hb4
  have HB4 := hidden (HB3.out.trans (hbl4.mono HB3.out.size))
  have H2C := hidden ((Keeps.ofFresh (S := fun _ => False) hbl4).cell H1C.out (fun h => h))
  have H2B := hidden (H1B.out.fresh hbl4)
  clear hb4 hl4 ho4 hbl4 HM3 HB3 HP2 H1C H1B
  go_wp2_with fail
  refine (HD2.out w4 _ a v4 HV4.out HM4.out).mono ?_
  rintro e w5 ⟨u5, u6, rfl, hls5, hev5, hm5, hk5⟩
  have HB5 : Hid (Below w.heap.size w w5) := hidden (HB4.out.trans (Keeps.below hk5 HB4.out.size (fun k e => by rw [e]; exact ha')))
  have H3C := hidden (hk5.cell H2C.out (by show ¬ g1 = a; omega))
  have H3B := hidden (H2B.out.keep hk5 (fun k e e2 => by have := ho1 k e; omega))
  obtain ⟨g2, c2, x2, rfl, hc2, hx2, hg2, _⟩ := hls5.one'
  obtain ⟨g3, x3, rfl, hg3, _⟩ := hev5.one'
  obtain ⟨k30, _⟩ := cells3i hg3
  obtain ⟨a1, d1, e1⟩ := H3B.out.len
  obtain ⟨a2, d2, e2⟩ := hx2.len
  have HX2 := hidden hx2
  have HC2 := hidden hc2
  subst e1 e2
  have ha1 : (numL 91 [7, 0, 65536, 32768]).length = 17 := by rw [numL_len]; rfl
  have ha2 : (numL 99 [7]).length = 5 := by rw [numL_len]; rfl
  obtain ⟨L1, hL1⟩ : ∃ L, L = numL 91 [7, 0, 65536, 32768] := ⟨_, rfl⟩
  obtain ⟨L2, hL2⟩ : ∃ L, L = numL 99 [7] := ⟨_, rfl⟩
  rw [← hL1] at H3C H3B
  rw [← hL2] at HX2 HC2
  have HL1 := hidden hL1
  have HL2 := hidden hL2
  have G3C := hidden k30
  clear hls5 hev5 hm5 hk5 hx2 hc2 hg3 k30 hL1 hL2 ha1 ha2 HM4 HV4 HB4 HD2 H2C H2B
  generalize hl1 : L1.length = l1 at *
  generalize hl2 : L2.length = l2 at *
  clear hl1 hl2
  have G1C := H3C
  have G1B := H3B
  have G2C := HC2
  have G2B := HX2
  clear H3C H3B HC2 HX2
  have hws := HB5.out.size
  have G1U : Hid (∀ w1 v u, BSl w1 v [91] → NSl w1 u [7, 0, 65536, 32768] → Ex w5 w1 → Calls Try.prog 9 #[v, u] w1 fun e w' => ∃ u, e = .returned u ∧ Ex w1 w' ∧ (Fact.low w.heap.size L1).holds u w') := hidden fun w1 v u h1 h2 h3 => told_low (Nat.le_trans hws h3.size) (by rw [HL1.out]; exact lu32_c v u [91] _ w1 h1 h2 (by intro j hj; match j, hj with | 0, _ => show 7 ≤ 4294967295; omega | 1, _ => show 0 ≤ 4294967295; omega | 2, _ => show 65536 ≤ 4294967295; omega | 3, _ => show 32768 ≤ 4294967295; omega) (by simp) (by simp) (by simp))
  have G2U : Hid (∀ w1 v u, BSl w1 v [99] → NSl w1 u [7] → Ex w5 w1 → Calls Try.prog 9 #[v, u] w1 fun e w' => ∃ u, e = .returned u ∧ Ex w1 w' ∧ (Fact.low w.heap.size L2).holds u w') := hidden fun w1 v u h1 h2 h3 => told_low (Nat.le_trans hws h3.size) (by rw [HL2.out]; exact lu32_c v u [99] _ w1 h1 h2 (by intro j hj; match j, hj with | 0, _ => show 7 ≤ 4294967295; omega) (by simp) (by simp) (by simp))
  have HB4 := HB5
  clear HL1 HL2 HB5
  go_upto_region 6 with fail
  refine region_free [(.val (.slice (some ⟨g1, 0, none⟩) 1 c1)), (.val (.int .i64 1)), (.val (.bool true)), (.val (.bool true)), (.val (.slice (some ⟨g1, 0, none⟩) 1 c1)), (.val (.pointer (some ⟨g1, 0, none⟩))), (.val (.slice a1 l1 d1)), (.val (.string ⟨(List.toArray L1)⟩)), (.bsl [91]), (.nsl [7, 0, 65536, 32768]), (.low w.heap.size L1), (.val (.string ⟨(List.toArray L1)⟩)), (.val (.bool true)), (.val (.bool true)), (.val (.bool true)), (.val (.slice none 0 0)), (.val (.int .i64 0)), (.val (.bool true)), (.val (.bool true)), (.val (.bool true)), (.val (.slice (some ⟨g2, 0, none⟩) 1 c2)), (.val (.int .i64 1)), (.val (.bool true)), (.val (.bool true)), (.val (.bool true)), (.val (.slice (some ⟨g2, 0, none⟩) 1 c2)), (.val (.pointer (some ⟨g2, 0, none⟩))), (.val (.slice a2 l2 d2)), (.val (.string ⟨(List.toArray L2)⟩)), (.bsl [99]), (.nsl [7]), (.low w.heap.size L2), (.val (.string ⟨(List.toArray L2)⟩)), (.val (.bool true)), (.val (.bool true)), (.val (.bool true)), (.val (.slice (some ⟨g3, 0, none⟩) 1 1)), (.val (.int .i64 1)), (.val (.bool true)), (.val (.bool true)), (.val (.bool true)), (.val (.slice (some ⟨g3, 0, none⟩) 1 1)), (.val (.pointer (some ⟨g3, 0, none⟩))), (.val (.pointer (some ⟨g3, 0, none⟩))), (.val (.int .i64 1)), (.val (.bool true)), (.val (.bool true)), (.val (.bool true))] (by kernel_rfl) ?_ ?_
  · refine req_cons (.val (.slice (some ⟨g1, 0, none⟩) 1 c1)) (by kernel_rfl) (fun vs w1 he hd => StepG.plain (by kernel_rfl) (gives_move (x := .tmp 2) (by kernel_rfl) (by kernel_rfl) ⟨Ex.refl _, rfl⟩)) ?_
    refine req_cons (.val (.int .i64 1)) (by kernel_rfl) (fun vs w1 he hd => StepG.plain (by kernel_rfl) (gives_len (ty := 22) (x := .tmp 23) (n := 1) (by kernel_rfl) (Eq.trans (b := vs 0) (by kernel_rfl) (hd 0 (.val (.slice (some ⟨g1, 0, none⟩) 1 c1)) (by kernel_rfl) (by kernel_rfl))) ⟨_, Try.underlying22⟩ ⟨Ex.refl _, rfl⟩)) ?_
    refine req_cons (.val (.bool true)) (by kernel_rfl) (fun vs w1 he hd => StepG.plain (by kernel_rfl) (gives_eqI (t := 3) (k := .i64) (a := 1) (b := 1) (r := true) (x := .tmp 24) (y := .const (.int .i64 1)) (by kernel_rfl) (Eq.trans (b := vs 1) (by kernel_rfl) (hd 1 (.val (.int .i64 1)) (by kernel_rfl) (by kernel_rfl))) (by kernel_rfl) rfl ⟨Ex.refl _, rfl⟩)) ?_
    refine req_cons (.val (.bool true)) (by kernel_rfl) (fun vs w1 he hd => StepG.plain (by kernel_rfl) (gives_move (x := .tmp 25) (by kernel_rfl) (Eq.trans (b := vs 2) (by kernel_rfl) (hd 2 (.val (.bool true)) (by kernel_rfl) (by kernel_rfl))) ⟨Ex.refl _, rfl⟩)) ?_
    refine req_cons (.val (.slice (some ⟨g1, 0, none⟩) 1 c1)) (by kernel_rfl) (fun vs w1 he hd => StepG.on (g := 3) (d := 26) (x := true) (v := vs 3) (by kernel_rfl) (by kernel_rfl) (by kernel_rfl) (hd 3 (.val (.bool true)) (by kernel_rfl) (by kernel_rfl)) (gives_move (x := .tmp 2) (by kernel_rfl) (by kernel_rfl) ⟨Ex.refl _, rfl⟩)) ?_
    refine req_cons (.val (.pointer (some ⟨g1, 0, none⟩))) (by kernel_rfl) (fun vs w1 he hd => StepG.on (g := 3) (d := 26) (x := true) (v := vs 3) (by kernel_rfl) (by kernel_rfl) (by kernel_rfl) (hd 3 (.val (.bool true)) (by kernel_rfl) (by kernel_rfl)) (gives_index (i := 0) (by decide) (x := .tmp 27) (y := .const (.int .i64 0)) (by kernel_rfl) (Eq.trans (b := vs 4) (by kernel_rfl) (hd 4 (.val (.slice (some ⟨g1, 0, none⟩) 1 c1)) (by kernel_rfl) (by kernel_rfl))) (by kernel_rfl) ⟨Ex.refl _, rfl⟩)) ?_
    refine req_cons (.val (.slice a1 l1 d1)) (by kernel_rfl) (fun vs w1 he hd => StepG.on (g := 3) (d := 26) (x := true) (v := vs 3) (by kernel_rfl) (by kernel_rfl) (by kernel_rfl) (hd 3 (.val (.bool true)) (by kernel_rfl) (by kernel_rfl)) (gives_ldb (x := .tmp 28) (by kernel_rfl) (Eq.trans (b := vs 5) (by kernel_rfl) (hd 5 (.val (.pointer (some ⟨g1, 0, none⟩))) (by kernel_rfl) (by kernel_rfl))) (cell_ex G1C.out he) ⟨Ex.refl _, rfl⟩)) ?_
    refine req_cons (.val (.string ⟨(List.toArray L1)⟩)) (by kernel_rfl) (fun vs w1 he hd => StepG.on (g := 3) (d := 26) (x := true) (v := vs 3) (by kernel_rfl) (by kernel_rfl) (by kernel_rfl) (hd 3 (.val (.bool true)) (by kernel_rfl) (by kernel_rfl)) (gives_str (x := .tmp 29) (v := (.slice a1 l1 d1)) (xs := L1) (by kernel_rfl) (Eq.trans (b := vs 6) (by kernel_rfl) (hd 6 (.val (.slice a1 l1 d1)) (by kernel_rfl) (by kernel_rfl))) (G1B.out.fresh he) ⟨Ex.refl _, rfl⟩)) ?_
    refine req_cons (.bsl [91]) (by kernel_rfl) (fun vs w1 he hd => StepG.on (g := 3) (d := 26) (x := true) (v := vs 3) (by kernel_rfl) (by kernel_rfl) (by kernel_rfl) (hd 3 (.val (.bool true)) (by kernel_rfl) (by kernel_rfl)) (gives_lit1B 91 91 rfl (by kernel_rfl) (by kernel_rfl))) ?_
    refine req_cons (.nsl [7, 0, 65536, 32768]) (by kernel_rfl) (fun vs w1 he hd => StepG.on (g := 3) (d := 26) (x := true) (v := vs 3) (by kernel_rfl) (by kernel_rfl) (by kernel_rfl) (hd 3 (.val (.bool true)) (by kernel_rfl) (by kernel_rfl)) (gives_nums4 7 0 65536 32768 (by kernel_rfl) (fun _ => rfl))) ?_
    refine req_cons (.low w.heap.size L1) (by kernel_rfl) (fun vs w1 he hd => StepG.on (g := 3) (d := 26) (x := true) (v := vs 3) (by kernel_rfl) (by kernel_rfl) (by kernel_rfl) (hd 3 (.val (.bool true)) (by kernel_rfl) (by kernel_rfl)) (gives_call (fn := Try.f9) (f := 9) (xs := #[.tmp 31, .tmp 32]) (ts := #[30, 68]) (vs := #[vs 8, vs 9]) (by kernel_rfl) (by kernel_rfl) (Eq.trans (b := #[vs 8, vs 9]) (by kernel_rfl) (rfl)) (by kernel_rfl) (by kernel_rfl) (by kernel_rfl) (G1U.out w1 (vs 8) (vs 9) (hd 8 (.bsl [91]) (by kernel_rfl) (by kernel_rfl)) (hd 9 (.nsl [7, 0, 65536, 32768]) (by kernel_rfl) (by kernel_rfl)) he))) ?_
    refine req_cons (.val (.string ⟨(List.toArray L1)⟩)) (by kernel_rfl) (fun vs w1 he hd => StepG.on (g := 3) (d := 26) (x := true) (v := vs 3) (by kernel_rfl) (by kernel_rfl) (by kernel_rfl) (hd 3 (.val (.bool true)) (by kernel_rfl) (by kernel_rfl)) (gives_str (x := .tmp 33) (v := vs 10) (xs := L1) (by kernel_rfl) (by kernel_rfl) (hd 10 (.low w.heap.size L1) (by kernel_rfl) (by kernel_rfl)).1 ⟨Ex.refl _, rfl⟩)) ?_
    refine req_cons (.val (.bool true)) (by kernel_rfl) (fun vs w1 he hd => StepG.on (g := 3) (d := 26) (x := true) (v := vs 3) (by kernel_rfl) (by kernel_rfl) (by kernel_rfl) (hd 3 (.val (.bool true)) (by kernel_rfl) (by kernel_rfl)) (gives_eqS (x := .tmp 30) (y := .tmp 34) (xs := L1) (ys := L1) (r := true) (by kernel_rfl) (Eq.trans (b := vs 7) (by kernel_rfl) (hd 7 (.val (.string ⟨(List.toArray L1)⟩)) (by kernel_rfl) (by kernel_rfl))) (Eq.trans (b := vs 11) (by kernel_rfl) (hd 11 (.val (.string ⟨(List.toArray L1)⟩)) (by kernel_rfl) (by kernel_rfl))) (by simp) ⟨Ex.refl _, rfl⟩)) ?_
    refine req_cons (.val (.bool true)) (by kernel_rfl) (fun vs w1 he hd => StepG.plain (by kernel_rfl) (gives_pick_t (x := .tmp 26) (y := .tmp 35) (z := .const (.bool false)) (v := .bool true) (by kernel_rfl) (Eq.trans (b := vs 3) (by kernel_rfl) (hd 3 (.val (.bool true)) (by kernel_rfl) (by kernel_rfl))) (Eq.trans (b := vs 12) (by kernel_rfl) (hd 12 (.val (.bool true)) (by kernel_rfl) (by kernel_rfl))) ⟨Ex.refl _, rfl⟩)) ?_
    refine req_cons (.val (.bool true)) (by kernel_rfl) (fun vs w1 he hd => StepG.plain (by kernel_rfl) (gives_move (x := .tmp 36) (by kernel_rfl) (Eq.trans (b := vs 13) (by kernel_rfl) (hd 13 (.val (.bool true)) (by kernel_rfl) (by kernel_rfl))) ⟨Ex.refl _, rfl⟩)) ?_
    refine req_cons (.val (.slice none 0 0)) (by kernel_rfl) (fun vs w1 he hd => StepG.on (g := 14) (d := 37) (x := true) (v := vs 14) (by kernel_rfl) (by kernel_rfl) (by kernel_rfl) (hd 14 (.val (.bool true)) (by kernel_rfl) (by kernel_rfl)) (gives_move (x := .tmp 3) (by kernel_rfl) (by kernel_rfl) ⟨Ex.refl _, rfl⟩)) ?_
    refine req_cons (.val (.int .i64 0)) (by kernel_rfl) (fun vs w1 he hd => StepG.on (g := 14) (d := 37) (x := true) (v := vs 14) (by kernel_rfl) (by kernel_rfl) (by kernel_rfl) (hd 14 (.val (.bool true)) (by kernel_rfl) (by kernel_rfl)) (gives_len (ty := 27) (x := .tmp 38) (n := 0) (by kernel_rfl) (Eq.trans (b := vs 15) (by kernel_rfl) (hd 15 (.val (.slice none 0 0)) (by kernel_rfl) (by kernel_rfl))) ⟨_, Try.underlying27⟩ ⟨Ex.refl _, rfl⟩)) ?_
    refine req_cons (.val (.bool true)) (by kernel_rfl) (fun vs w1 he hd => StepG.on (g := 14) (d := 37) (x := true) (v := vs 14) (by kernel_rfl) (by kernel_rfl) (by kernel_rfl) (hd 14 (.val (.bool true)) (by kernel_rfl) (by kernel_rfl)) (gives_eqI (t := 3) (k := .i64) (a := 0) (b := 0) (r := true) (x := .tmp 39) (y := .const (.int .i64 0)) (by kernel_rfl) (Eq.trans (b := vs 16) (by kernel_rfl) (hd 16 (.val (.int .i64 0)) (by kernel_rfl) (by kernel_rfl))) (by kernel_rfl) rfl ⟨Ex.refl _, rfl⟩)) ?_
    refine req_cons (.val (.bool true)) (by kernel_rfl) (fun vs w1 he hd => StepG.plain (by kernel_rfl) (gives_pick_t (x := .tmp 37) (y := .tmp 40) (z := .const (.bool false)) (v := .bool true) (by kernel_rfl) (Eq.trans (b := vs 14) (by kernel_rfl) (hd 14 (.val (.bool true)) (by kernel_rfl) (by kernel_rfl))) (Eq.trans (b := vs 17) (by kernel_rfl) (hd 17 (.val (.bool true)) (by kernel_rfl) (by kernel_rfl))) ⟨Ex.refl _, rfl⟩)) ?_
    refine req_cons (.val (.bool true)) (by kernel_rfl) (fun vs w1 he hd => StepG.plain (by kernel_rfl) (gives_move (x := .tmp 41) (by kernel_rfl) (Eq.trans (b := vs 18) (by kernel_rfl) (hd 18 (.val (.bool true)) (by kernel_rfl) (by kernel_rfl))) ⟨Ex.refl _, rfl⟩)) ?_
    refine req_cons (.val (.slice (some ⟨g2, 0, none⟩) 1 c2)) (by kernel_rfl) (fun vs w1 he hd => StepG.on (g := 19) (d := 42) (x := true) (v := vs 19) (by kernel_rfl) (by kernel_rfl) (by kernel_rfl) (hd 19 (.val (.bool true)) (by kernel_rfl) (by kernel_rfl)) (gives_move (x := .tmp 4) (by kernel_rfl) (by kernel_rfl) ⟨Ex.refl _, rfl⟩)) ?_
    refine req_cons (.val (.int .i64 1)) (by kernel_rfl) (fun vs w1 he hd => StepG.on (g := 19) (d := 42) (x := true) (v := vs 19) (by kernel_rfl) (by kernel_rfl) (by kernel_rfl) (hd 19 (.val (.bool true)) (by kernel_rfl) (by kernel_rfl)) (gives_len (ty := 22) (x := .tmp 43) (n := 1) (by kernel_rfl) (Eq.trans (b := vs 20) (by kernel_rfl) (hd 20 (.val (.slice (some ⟨g2, 0, none⟩) 1 c2)) (by kernel_rfl) (by kernel_rfl))) ⟨_, Try.underlying22⟩ ⟨Ex.refl _, rfl⟩)) ?_
    refine req_cons (.val (.bool true)) (by kernel_rfl) (fun vs w1 he hd => StepG.on (g := 19) (d := 42) (x := true) (v := vs 19) (by kernel_rfl) (by kernel_rfl) (by kernel_rfl) (hd 19 (.val (.bool true)) (by kernel_rfl) (by kernel_rfl)) (gives_eqI (t := 3) (k := .i64) (a := 1) (b := 1) (r := true) (x := .tmp 44) (y := .const (.int .i64 1)) (by kernel_rfl) (Eq.trans (b := vs 21) (by kernel_rfl) (hd 21 (.val (.int .i64 1)) (by kernel_rfl) (by kernel_rfl))) (by kernel_rfl) rfl ⟨Ex.refl _, rfl⟩)) ?_
    refine req_cons (.val (.bool true)) (by kernel_rfl) (fun vs w1 he hd => StepG.plain (by kernel_rfl) (gives_pick_t (x := .tmp 42) (y := .tmp 45) (z := .const (.bool false)) (v := .bool true) (by kernel_rfl) (Eq.trans (b := vs 19) (by kernel_rfl) (hd 19 (.val (.bool true)) (by kernel_rfl) (by kernel_rfl))) (Eq.trans (b := vs 22) (by kernel_rfl) (hd 22 (.val (.bool true)) (by kernel_rfl) (by kernel_rfl))) ⟨Ex.refl _, rfl⟩)) ?_
    refine req_cons (.val (.bool true)) (by kernel_rfl) (fun vs w1 he hd => StepG.plain (by kernel_rfl) (gives_move (x := .tmp 46) (by kernel_rfl) (Eq.trans (b := vs 23) (by kernel_rfl) (hd 23 (.val (.bool true)) (by kernel_rfl) (by kernel_rfl))) ⟨Ex.refl _, rfl⟩)) ?_
    refine req_cons (.val (.slice (some ⟨g2, 0, none⟩) 1 c2)) (by kernel_rfl) (fun vs w1 he hd => StepG.on (g := 24) (d := 47) (x := true) (v := vs 24) (by kernel_rfl) (by kernel_rfl) (by kernel_rfl) (hd 24 (.val (.bool true)) (by kernel_rfl) (by kernel_rfl)) (gives_move (x := .tmp 4) (by kernel_rfl) (by kernel_rfl) ⟨Ex.refl _, rfl⟩)) ?_
    refine req_cons (.val (.pointer (some ⟨g2, 0, none⟩))) (by kernel_rfl) (fun vs w1 he hd => StepG.on (g := 24) (d := 47) (x := true) (v := vs 24) (by kernel_rfl) (by kernel_rfl) (by kernel_rfl) (hd 24 (.val (.bool true)) (by kernel_rfl) (by kernel_rfl)) (gives_index (i := 0) (by decide) (x := .tmp 48) (y := .const (.int .i64 0)) (by kernel_rfl) (Eq.trans (b := vs 25) (by kernel_rfl) (hd 25 (.val (.slice (some ⟨g2, 0, none⟩) 1 c2)) (by kernel_rfl) (by kernel_rfl))) (by kernel_rfl) ⟨Ex.refl _, rfl⟩)) ?_
    refine req_cons (.val (.slice a2 l2 d2)) (by kernel_rfl) (fun vs w1 he hd => StepG.on (g := 24) (d := 47) (x := true) (v := vs 24) (by kernel_rfl) (by kernel_rfl) (by kernel_rfl) (hd 24 (.val (.bool true)) (by kernel_rfl) (by kernel_rfl)) (gives_ldb (x := .tmp 49) (by kernel_rfl) (Eq.trans (b := vs 26) (by kernel_rfl) (hd 26 (.val (.pointer (some ⟨g2, 0, none⟩))) (by kernel_rfl) (by kernel_rfl))) (cell_ex G2C.out he) ⟨Ex.refl _, rfl⟩)) ?_
    refine req_cons (.val (.string ⟨(List.toArray L2)⟩)) (by kernel_rfl) (fun vs w1 he hd => StepG.on (g := 24) (d := 47) (x := true) (v := vs 24) (by kernel_rfl) (by kernel_rfl) (by kernel_rfl) (hd 24 (.val (.bool true)) (by kernel_rfl) (by kernel_rfl)) (gives_str (x := .tmp 50) (v := (.slice a2 l2 d2)) (xs := L2) (by kernel_rfl) (Eq.trans (b := vs 27) (by kernel_rfl) (hd 27 (.val (.slice a2 l2 d2)) (by kernel_rfl) (by kernel_rfl))) (G2B.out.fresh he) ⟨Ex.refl _, rfl⟩)) ?_
    refine req_cons (.bsl [99]) (by kernel_rfl) (fun vs w1 he hd => StepG.on (g := 24) (d := 47) (x := true) (v := vs 24) (by kernel_rfl) (by kernel_rfl) (by kernel_rfl) (hd 24 (.val (.bool true)) (by kernel_rfl) (by kernel_rfl)) (gives_lit1B 99 99 rfl (by kernel_rfl) (by kernel_rfl))) ?_
    refine req_cons (.nsl [7]) (by kernel_rfl) (fun vs w1 he hd => StepG.on (g := 24) (d := 47) (x := true) (v := vs 24) (by kernel_rfl) (by kernel_rfl) (by kernel_rfl) (hd 24 (.val (.bool true)) (by kernel_rfl) (by kernel_rfl)) (gives_nums1 (x := .const (.int .u32 7)) 7 (by kernel_rfl) (by kernel_rfl))) ?_
    refine req_cons (.low w.heap.size L2) (by kernel_rfl) (fun vs w1 he hd => StepG.on (g := 24) (d := 47) (x := true) (v := vs 24) (by kernel_rfl) (by kernel_rfl) (by kernel_rfl) (hd 24 (.val (.bool true)) (by kernel_rfl) (by kernel_rfl)) (gives_call (fn := Try.f9) (f := 9) (xs := #[.tmp 52, .tmp 53]) (ts := #[30, 68]) (vs := #[vs 29, vs 30]) (by kernel_rfl) (by kernel_rfl) (Eq.trans (b := #[vs 29, vs 30]) (by kernel_rfl) (rfl)) (by kernel_rfl) (by kernel_rfl) (by kernel_rfl) (G2U.out w1 (vs 29) (vs 30) (hd 29 (.bsl [99]) (by kernel_rfl) (by kernel_rfl)) (hd 30 (.nsl [7]) (by kernel_rfl) (by kernel_rfl)) he))) ?_
    refine req_cons (.val (.string ⟨(List.toArray L2)⟩)) (by kernel_rfl) (fun vs w1 he hd => StepG.on (g := 24) (d := 47) (x := true) (v := vs 24) (by kernel_rfl) (by kernel_rfl) (by kernel_rfl) (hd 24 (.val (.bool true)) (by kernel_rfl) (by kernel_rfl)) (gives_str (x := .tmp 54) (v := vs 31) (xs := L2) (by kernel_rfl) (by kernel_rfl) (hd 31 (.low w.heap.size L2) (by kernel_rfl) (by kernel_rfl)).1 ⟨Ex.refl _, rfl⟩)) ?_
    refine req_cons (.val (.bool true)) (by kernel_rfl) (fun vs w1 he hd => StepG.on (g := 24) (d := 47) (x := true) (v := vs 24) (by kernel_rfl) (by kernel_rfl) (by kernel_rfl) (hd 24 (.val (.bool true)) (by kernel_rfl) (by kernel_rfl)) (gives_eqS (x := .tmp 51) (y := .tmp 55) (xs := L2) (ys := L2) (r := true) (by kernel_rfl) (Eq.trans (b := vs 28) (by kernel_rfl) (hd 28 (.val (.string ⟨(List.toArray L2)⟩)) (by kernel_rfl) (by kernel_rfl))) (Eq.trans (b := vs 32) (by kernel_rfl) (hd 32 (.val (.string ⟨(List.toArray L2)⟩)) (by kernel_rfl) (by kernel_rfl))) (by simp) ⟨Ex.refl _, rfl⟩)) ?_
    refine req_cons (.val (.bool true)) (by kernel_rfl) (fun vs w1 he hd => StepG.plain (by kernel_rfl) (gives_pick_t (x := .tmp 47) (y := .tmp 56) (z := .const (.bool false)) (v := .bool true) (by kernel_rfl) (Eq.trans (b := vs 24) (by kernel_rfl) (hd 24 (.val (.bool true)) (by kernel_rfl) (by kernel_rfl))) (Eq.trans (b := vs 33) (by kernel_rfl) (hd 33 (.val (.bool true)) (by kernel_rfl) (by kernel_rfl))) ⟨Ex.refl _, rfl⟩)) ?_
    refine req_cons (.val (.bool true)) (by kernel_rfl) (fun vs w1 he hd => StepG.plain (by kernel_rfl) (gives_move (x := .tmp 57) (by kernel_rfl) (Eq.trans (b := vs 34) (by kernel_rfl) (hd 34 (.val (.bool true)) (by kernel_rfl) (by kernel_rfl))) ⟨Ex.refl _, rfl⟩)) ?_
    refine req_cons (.val (.slice (some ⟨g3, 0, none⟩) 1 1)) (by kernel_rfl) (fun vs w1 he hd => StepG.on (g := 35) (d := 58) (x := true) (v := vs 35) (by kernel_rfl) (by kernel_rfl) (by kernel_rfl) (hd 35 (.val (.bool true)) (by kernel_rfl) (by kernel_rfl)) (gives_move (x := .tmp 5) (by kernel_rfl) (by kernel_rfl) ⟨Ex.refl _, rfl⟩)) ?_
    refine req_cons (.val (.int .i64 1)) (by kernel_rfl) (fun vs w1 he hd => StepG.on (g := 35) (d := 58) (x := true) (v := vs 35) (by kernel_rfl) (by kernel_rfl) (by kernel_rfl) (hd 35 (.val (.bool true)) (by kernel_rfl) (by kernel_rfl)) (gives_len (ty := 27) (x := .tmp 59) (n := 1) (by kernel_rfl) (Eq.trans (b := vs 36) (by kernel_rfl) (hd 36 (.val (.slice (some ⟨g3, 0, none⟩) 1 1)) (by kernel_rfl) (by kernel_rfl))) ⟨_, Try.underlying27⟩ ⟨Ex.refl _, rfl⟩)) ?_
    refine req_cons (.val (.bool true)) (by kernel_rfl) (fun vs w1 he hd => StepG.on (g := 35) (d := 58) (x := true) (v := vs 35) (by kernel_rfl) (by kernel_rfl) (by kernel_rfl) (hd 35 (.val (.bool true)) (by kernel_rfl) (by kernel_rfl)) (gives_eqI (t := 3) (k := .i64) (a := 1) (b := 1) (r := true) (x := .tmp 60) (y := .const (.int .i64 1)) (by kernel_rfl) (Eq.trans (b := vs 37) (by kernel_rfl) (hd 37 (.val (.int .i64 1)) (by kernel_rfl) (by kernel_rfl))) (by kernel_rfl) rfl ⟨Ex.refl _, rfl⟩)) ?_
    refine req_cons (.val (.bool true)) (by kernel_rfl) (fun vs w1 he hd => StepG.plain (by kernel_rfl) (gives_pick_t (x := .tmp 58) (y := .tmp 61) (z := .const (.bool false)) (v := .bool true) (by kernel_rfl) (Eq.trans (b := vs 35) (by kernel_rfl) (hd 35 (.val (.bool true)) (by kernel_rfl) (by kernel_rfl))) (Eq.trans (b := vs 38) (by kernel_rfl) (hd 38 (.val (.bool true)) (by kernel_rfl) (by kernel_rfl))) ⟨Ex.refl _, rfl⟩)) ?_
    refine req_cons (.val (.bool true)) (by kernel_rfl) (fun vs w1 he hd => StepG.plain (by kernel_rfl) (gives_move (x := .tmp 62) (by kernel_rfl) (Eq.trans (b := vs 39) (by kernel_rfl) (hd 39 (.val (.bool true)) (by kernel_rfl) (by kernel_rfl))) ⟨Ex.refl _, rfl⟩)) ?_
    refine req_cons (.val (.slice (some ⟨g3, 0, none⟩) 1 1)) (by kernel_rfl) (fun vs w1 he hd => StepG.on (g := 40) (d := 63) (x := true) (v := vs 40) (by kernel_rfl) (by kernel_rfl) (by kernel_rfl) (hd 40 (.val (.bool true)) (by kernel_rfl) (by kernel_rfl)) (gives_move (x := .tmp 5) (by kernel_rfl) (by kernel_rfl) ⟨Ex.refl _, rfl⟩)) ?_
    refine req_cons (.val (.pointer (some ⟨g3, 0, none⟩))) (by kernel_rfl) (fun vs w1 he hd => StepG.on (g := 40) (d := 63) (x := true) (v := vs 40) (by kernel_rfl) (by kernel_rfl) (by kernel_rfl) (hd 40 (.val (.bool true)) (by kernel_rfl) (by kernel_rfl)) (gives_indexE (x := .tmp 64) (y := .const (.int .i64 0)) (by kernel_rfl) (Eq.trans (b := vs 41) (by kernel_rfl) (hd 41 (.val (.slice (some ⟨g3, 0, none⟩) 1 1)) (by kernel_rfl) (by kernel_rfl))) (by kernel_rfl) ⟨Ex.refl _, rfl⟩)) ?_
    refine req_cons (.val (.pointer (some ⟨g3, 0, none⟩))) (by kernel_rfl) (fun vs w1 he hd => StepG.on (g := 40) (d := 63) (x := true) (v := vs 40) (by kernel_rfl) (by kernel_rfl) (by kernel_rfl) (hd 40 (.val (.bool true)) (by kernel_rfl) (by kernel_rfl)) (gives_fieldE (x := .tmp 65) (by kernel_rfl) (Eq.trans (b := vs 42) (by kernel_rfl) (hd 42 (.val (.pointer (some ⟨g3, 0, none⟩))) (by kernel_rfl) (by kernel_rfl))) ⟨Ex.refl _, rfl⟩)) ?_
    refine req_cons (.val (.int .i64 1)) (by kernel_rfl) (fun vs w1 he hd => StepG.on (g := 40) (d := 63) (x := true) (v := vs 40) (by kernel_rfl) (by kernel_rfl) (by kernel_rfl) (hd 40 (.val (.bool true)) (by kernel_rfl) (by kernel_rfl)) (gives_ldi (x := .tmp 66) (by kernel_rfl) (Eq.trans (b := vs 43) (by kernel_rfl) (hd 43 (.val (.pointer (some ⟨g3, 0, none⟩))) (by kernel_rfl) (by kernel_rfl))) (cell_ex G3C.out he) ⟨Ex.refl _, rfl⟩)) ?_
    refine req_cons (.val (.bool true)) (by kernel_rfl) (fun vs w1 he hd => StepG.on (g := 40) (d := 63) (x := true) (v := vs 40) (by kernel_rfl) (by kernel_rfl) (by kernel_rfl) (hd 40 (.val (.bool true)) (by kernel_rfl) (by kernel_rfl)) (gives_eqI (t := 3) (k := .i64) (a := 1) (b := 1) (r := true) (x := .tmp 67) (y := .const (.int .i64 1)) (by kernel_rfl) (Eq.trans (b := vs 44) (by kernel_rfl) (hd 44 (.val (.int .i64 1)) (by kernel_rfl) (by kernel_rfl))) (by kernel_rfl) rfl ⟨Ex.refl _, rfl⟩)) ?_
    refine req_cons (.val (.bool true)) (by kernel_rfl) (fun vs w1 he hd => StepG.plain (by kernel_rfl) (gives_pick_t (x := .tmp 63) (y := .tmp 68) (z := .const (.bool false)) (v := .bool true) (by kernel_rfl) (Eq.trans (b := vs 40) (by kernel_rfl) (hd 40 (.val (.bool true)) (by kernel_rfl) (by kernel_rfl))) (Eq.trans (b := vs 45) (by kernel_rfl) (hd 45 (.val (.bool true)) (by kernel_rfl) (by kernel_rfl))) ⟨Ex.refl _, rfl⟩)) ?_
    refine req_cons (.val (.bool true)) (by kernel_rfl) (fun vs w1 he hd => StepG.plain (by kernel_rfl) (gives_assign (x := .tmp 69) (v := .bool true) (by kernel_rfl) (Eq.trans (b := vs 46) (by kernel_rfl) (hd 46 (.val (.bool true)) (by kernel_rfl) (by kernel_rfl))) ⟨Ex.refl _, rfl⟩)) req_nil
  · intro vs w5 he hF
    have hz : vs 47 = .bool true := told_at hF 47 (.val (.bool true)) (by decide) (by kernel_rfl)
    have HB5 := hidden (HB4.out.trans (he.mono HB4.out.size))
    simp only [List.length_cons, List.length_nil, Nat.zero_add, Nat.reduceAdd, actsTo, if_true, dstOf, List.getElem?_toArray, List.getElem?_cons_succ, List.getElem?_cons_zero, Option.bind_some, Act.put, List.setIfInBounds_toArray, List.set_cons_zero, List.set_cons_succ]
    rw [hz]
    clear hF he hz
    go_wp2_with fail
    go_ret
    exact ⟨rfl, HB5.out⟩
end Go.Proofs.Ytnimdbjbkoggdaa
