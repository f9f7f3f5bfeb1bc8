/- Next as a whole; the chapter's own run. -/
import Derived.Test.YthkaibkmpenclaaDoorPkO
namespace Go.Proofs.YthkaibkmpenclaaDoor
open Go Go.RowKit

theorem next_c (w : World) {g h : Nat} {kb : Option Nat} {key : List UInt8} {c : Nat} {xs : List UInt8} (i : InS w g h kb key c xs 0) (hl : xs.length ≤ 9500) (hcl : Cl w) (hc : c + 1 ≤ 1000000) :
    Calls Tryd.prog 27 #[.pointer (some ⟨g, 0, none⟩)] w fun e w' => NTold w g h kb key c xs (nextR key c xs) e w' := by
  rw [nextR]
  by_cases h1 : xs.length < 4
  · rw [if_pos h1]; exact next_s1 w i hl h1
  rw [if_neg h1]
  by_cases h2 : lenE key (lenOf xs) ≠ 0
  · rw [if_pos h2]; exact next_b1 w i hl (by omega) h2
  rw [if_neg h2]
  have h2' : lenE key (lenOf xs) = 0 := by simpa using h2
  by_cases h3 : xs.length < 4 + lenOf xs + tagN key
  · rw [if_pos h3]; exact next_s2 w i hl (by omega) h2' h3
  rw [if_neg h3]
  by_cases h4 : openedE key c xs ≠ 0
  · rw [if_pos h4]; exact next_b2 w i hl hcl (by omega) h2' (by omega) h4
  rw [if_neg h4]
  have h4' : openedE key c xs = 0 := by simpa using h4
  by_cases h5 : payE (openedT key c xs) ≠ 0
  · rw [if_pos h5]; exact next_b3 w i hl hcl (by omega) h2' (by omega) h4' h5
  rw [if_neg h5]
  exact next_t w i hl hcl hc (by omega) h2' (by omega) h4' (by simpa using h5)
section
variable {o : Oper} {ρ : Operand → Value} {w : World} {x y : Operand} {v : Value} {Φ : Value → World → Prop}
theorem gives_addS {a b : ByteArray} (hs : a.size + b.size ≤ 1000) (ho : o.op = .binOp .add 9 x y 9) (hx : ρ x = .string a) (hy : ρ y = .string b) (h : Φ (.string (a ++ b)) w) : Gives Tryd.prog o ρ w Φ := by
  refine Gives.value (w' := w) (v := .string (a ++ b)) ?_ h
  unfold execOp
  simp only [ho]
  rw [hx, hy]
  simp [eqGuard, binOp, run_string_add_sum w a b (by omega)]
theorem gives_make {n : Nat} (hn : n ≤ 1000000) (ho : o.op = .makeSlice 22 x y) (hx : ρ x = .int .i64 (n : Int)) (hy : ρ y = .int .i64 (n : Int)) : Gives Tryd.prog o ρ w fun v w2 => Ex w w2 ∧ (Fact.bsl (List.replicate n 0)).holds v w2 := by
  refine Gives.value (w' := w.alloc (.cells (bcells (List.replicate n 0)).toArray 5)) (v := .slice (some ⟨w.heap.size, 0, none⟩) n n) ?_ ⟨Ex.alloc w _, BSl.zeros w n hn⟩
  unfold execOp
  simp only [ho]
  rw [hx, hy]
  simp [made_run n hn w]
end
theorem told_valE {w : World} {x : Value} {f : FuncId} {args : Array Value} (h : Calls Tryd.prog f args w fun e w' => e = .returned x ∧ w' = w) : Calls Tryd.prog f args w fun e w' => ∃ v, e = .returned v ∧ Ex w w' ∧ (Fact.val x).holds v w' :=
  h.mono fun _ _ ⟨h1, h2⟩ => ⟨_, h1, by rw [h2]; exact Ex.refl _, rfl⟩
theorem tenS : (⟨#[0, 0, 0, 12, 10, 21]⟩ : ByteArray) ++ ⟨(List.replicate 10 0).toArray⟩ = ⟨(List.toArray ([0, 0, 0, 12, 10, 21] ++ List.replicate 10 0))⟩ := by decide
theorem packet21 : packetL [] 0 [21] = [0, 0, 0, 12, 10, 21] ++ List.replicate 10 0 := by decide

set_option maxHeartbeats 1600000 in
set_option maxRecDepth 100000 in
theorem known_c (w : World) (hcl : Cl w) : Calls Tryd.prog 21 #[] w fun e w' => e = .returned (.bool true) ∧ Below w.heap.size w w' := by
  have HCL := hidden hcl
  clear hcl
  go_enter Tryd.func21, Tryd.ntmps21
  go_wp2_with fail
  refine (newOut_c w).mono ?_
  rintro e w1 ⟨rfl, ho1, hb1⟩
  have HO1 := hidden ho1
  have HB1 := hidden hb1
  generalize hgo : w.heap.size = go at ho1 HO1 HB1 ⊢
  have HGO := hidden hgo
  clear ho1 hb1 hgo
  go_wp2_with fail
  refine (newIn_c w1).mono ?_
  rintro e w2 ⟨rfl, hi2, hb2⟩
  have HI2 := hidden hi2
  have HO2 := hidden (HO1.out.fresh hb2)
  have HB2 : Hid (Below w.heap.size w w2) := by rw [← HGO.out] at HB1; exact HB1.out.trans (hb2.mono HB1.out.size)
  have HGL := hidden HO1.out.blockLt
  generalize hgi : w1.heap.size = gi at hi2 HI2 HGL ⊢
  clear hi2 hb2 hgi HO1 HB1
  have HCL2 := hidden (HCL.out.fresh HB2.out)
  have HL2 := hidden HI2.out.blockLt.1
  go_wp2_with fail
  have hbA := (Below.refl w2.heap.size w2).alloc (Nat.le_refl _) (.cells #[.int .u8 21] 5)
  have hpc := packet_c (.slice (some ⟨w2.heap.size, 0, none⟩) 1 1) [21] (w2.alloc (.cells #[.int .u8 21] 5)) (HO2.out.fresh hbA) (HCL2.out.fresh hbA) (bsl_one w2 21) (by simp) (by simp) (by omega)
  have HI3 := hidden (HI2.out.fresh hbA)
  have HB3 : Hid (Below w.heap.size w (w2.alloc (.cells #[.int .u8 21] 5))) := HB2.out.trans (hbA.mono HB2.out.size)
  generalize w2.alloc (.cells #[.int .u8 21] 5) = w3 at hpc HI3 HB3 ⊢
  have HL3 := hidden HI3.out.blockLt.1
  have HPC := hidden hpc
  clear hbA hpc HI2 HO2
  refine HPC.out.mono ?_
  rintro e w4 ⟨v4, rfl, hrow, _, hk4⟩
  have HPB4 := hidden (BSl.ofRow hrow)
  have HI4 : Hid (InS w4 gi gi none [] 0 [] 0) := HI3.out.keep hk4 (by have := HGL.out; omega) (by have := HGL.out; omega) (by simp)
  have HB4 : Hid (Below w.heap.size w w4) := HB3.out.trans (hk4.below HB3.out.size (fun k e => by rw [e, HGO.out]; exact Nat.le_refl _))
  have HPK := hidden packet21
  have HPL : Hid ((packetL [] 0 [21]).length ≤ 16) := by show _ ≤ _; rw [packet21]; decide
  have HNX : Hid (nextR [] 0 (packetL [] 0 [21]) = .told [21] []) := by
    have := next_packet (key := []) (.inl rfl) 0 [21] (by simp) (by simp) []
    rw [List.append_nil] at this
    exact this
  have hvl := hrow.lt
  clear hrow hk4 HPC HI3 HB3
  generalize packetL [] 0 [21] = PK at HPB4 HPK HPL HNX ⊢
  obtain ⟨ab, cb, e4⟩ := HPB4.out.len
  generalize PK.length = nb at e4
  subst e4
  go_wp2_with fail
  refine (feed_c _ PK w4 HI4.out HPB4.out (by have := HPL.out; simp; omega)).mono ?_
  rintro e w5 ⟨rfl, h5, hi5, hm5⟩
  rw [List.nil_append] at hi5
  have HI5 := hidden hi5
  have HPB5 : Hid (BSl w5 (.slice ab nb cb) PK) := HPB4.out.keep hm5.keeps (fun k e hs => by have := (hvl k e).1; have h9 := HL3.out; rcases hs with rfl | rfl <;> omega)
  have HB5 : Hid (Below w.heap.size w w5) := HB4.out.trans (hm5.keeps.below HB4.out.size (fun k e => by have := HGL.out; have := HGO.out; rcases e with rfl | rfl <;> omega))
  have H5 : Hid (h5 = gi ∨ w4.heap.size ≤ h5) := by rcases hm5.row with e | e | e; exact .inl e; exact .inl e; exact .inr e
  clear hi5 hm5 HPB4
  go_wp2_with fail
  have hnx := next_c w5 HI5.out (by have := HPL.out; omega) (HCL.out.fresh HB5.out) (by omega)
  rw [HNX.out] at hnx
  refine hnx.mono ?_
  rintro e w6 ⟨v6, h6, rfl, hb6, hv6, hi6, hm6⟩
  have HIN := hidden hi6
  have HPP := hidden hb6
  have HPB : Hid (BSl w6 (.slice ab nb cb) PK) := HPB5.out.keep hm6.keeps (fun k e hs => by
    have h1 := hvl k e
    have h9 := HL3.out
    rcases hs with rfl | rfl
    · omega
    · rcases H5.out with e | e <;> omega)
  have HB6 : Hid (Below w.heap.size w w6) := HB5.out.trans (hm6.keeps.below HB5.out.size (fun k e => by
    have h1 := HGL.out
    have h2 := HGO.out
    have h3 := HB4.out.size
    rcases e with rfl | rfl
    · omega
    · rcases H5.out with e | e <;> omega))
  obtain ⟨ap, cp, e6⟩ := hb6.len
  generalize ([21] : List UInt8).length = np at e6
  subst e6
  clear hb6 hv6 hi6 hm6 hnx HNX hvl HPB5 HI5 HI4
  go_wp2_with fail
  refine region_free [(.val (.int .i64 0)), (.val (.bool true)), (.val (.bool true)), (.val (.slice ab nb cb)), (.val (.string ⟨(List.toArray PK)⟩)), (.bsl (List.replicate 10 0)), (.val (.string ⟨(List.toArray (List.replicate 10 0))⟩)), (.val (.string ⟨(List.toArray ([0, 0, 0, 12, 10, 21] ++ List.replicate 10 0))⟩)), (.val (.bool true)), (.val (.bool true)), (.val (.bool true)), (.val (.bool true)), (.val (.bool true)), (.val (.bool true)), (.val (.int .i64 0)), (.val (.bool true)), (.val (.bool true)), (.val (.bool true)), (.val (.slice ap np cp)), (.val (.string ⟨(List.toArray [21])⟩)), (.val (.bool true)), (.val (.bool true)), (.val (.bool true)), (.val (.pointer (some ⟨gi, 0, none⟩))), (.val (.int .i64 0)), (.val (.bool true)), (.val (.bool true)), (.val (.bool true))] (by kernel_rfl) ?_ ?_
  · refine req_cons (.val (.int .i64 0)) (by kernel_rfl) (fun vs w1 he hd => StepG.plain (by kernel_rfl) (gives_move (x := (.tmp 4)) (v := (.int .i64 0)) (by kernel_rfl) (by kernel_rfl) ⟨Ex.refl _, rfl⟩)) ?_
    refine req_cons (.val (.bool true)) (by kernel_rfl) (fun vs w1 he hd => StepG.plain (by kernel_rfl) (gives_eqI (t := 30) (k := .i64) (a := 0) (b := 0) (x := (.tmp 31)) (y := (.const (.int .i64 0))) (r := true) (by kernel_rfl) (Eq.trans (b := vs 0) (by kernel_rfl) (hd 0 (.val (.int .i64 0)) (by kernel_rfl) (by kernel_rfl))) (by kernel_rfl) (by simp) ⟨Ex.refl _, rfl⟩)) ?_
    refine req_cons (.val (.bool true)) (by kernel_rfl) (fun vs w1 he hd => StepG.plain (by kernel_rfl) (gives_move (x := (.tmp 32)) (v := (.bool true)) (by kernel_rfl) (Eq.trans (b := vs 1) (by kernel_rfl) (hd 1 (.val (.bool true)) (by kernel_rfl) (by kernel_rfl))) ⟨Ex.refl _, rfl⟩)) ?_
    refine req_cons (.val (.slice ab nb cb)) (by kernel_rfl) (fun vs w1 he hd => StepG.on (g := 2) (d := 33) (x := true) (v := vs 2) (by kernel_rfl) (by kernel_rfl) (by kernel_rfl) (hd 2 (.val (.bool true)) (by kernel_rfl) (by kernel_rfl)) (gives_move (x := (.tmp 3)) (v := (.slice ab nb cb)) (by kernel_rfl) (by kernel_rfl) ⟨Ex.refl _, rfl⟩)) ?_
    refine req_cons (.val (.string ⟨(List.toArray PK)⟩)) (by kernel_rfl) (fun vs w1 he hd => StepG.on (g := 2) (d := 33) (x := true) (v := vs 2) (by kernel_rfl) (by kernel_rfl) (by kernel_rfl) (hd 2 (.val (.bool true)) (by kernel_rfl) (by kernel_rfl)) (gives_str (x := (.tmp 34)) (v := (.slice ab nb cb)) (xs := PK) (by kernel_rfl) (Eq.trans (b := vs 3) (by kernel_rfl) (hd 3 (.val (.slice ab nb cb)) (by kernel_rfl) (by kernel_rfl))) ((HPB.out.fresh he)) ⟨Ex.refl _, rfl⟩)) ?_
    refine req_cons (.bsl (List.replicate 10 0)) (by kernel_rfl) (fun vs w1 he hd => StepG.on (g := 2) (d := 33) (x := true) (v := vs 2) (by kernel_rfl) (by kernel_rfl) (by kernel_rfl) (hd 2 (.val (.bool true)) (by kernel_rfl) (by kernel_rfl)) (gives_make (n := 10) (by omega) (x := .const (.int .i64 10)) (y := .const (.int .i64 10)) (by kernel_rfl) (by kernel_rfl) (by kernel_rfl))) ?_
    refine req_cons (.val (.string ⟨(List.toArray (List.replicate 10 0))⟩)) (by kernel_rfl) (fun vs w1 he hd => StepG.on (g := 2) (d := 33) (x := true) (v := vs 2) (by kernel_rfl) (by kernel_rfl) (by kernel_rfl) (hd 2 (.val (.bool true)) (by kernel_rfl) (by kernel_rfl)) (gives_str (x := (.tmp 36)) (v := (vs 5)) (xs := (List.replicate 10 0)) (by kernel_rfl) (by kernel_rfl) ((hd 5 (.bsl (List.replicate 10 0)) (by kernel_rfl) (by kernel_rfl))) ⟨Ex.refl _, rfl⟩)) ?_
    refine req_cons (.val (.string ⟨(List.toArray ([0, 0, 0, 12, 10, 21] ++ List.replicate 10 0))⟩)) (by kernel_rfl) (fun vs w1 he hd => StepG.on (g := 2) (d := 33) (x := true) (v := vs 2) (by kernel_rfl) (by kernel_rfl) (by kernel_rfl) (hd 2 (.val (.bool true)) (by kernel_rfl) (by kernel_rfl)) (gives_addS (x := .const (.string ⟨#[0, 0, 0, 12, 10, 21]⟩)) (y := .tmp 37) (a := ⟨#[0, 0, 0, 12, 10, 21]⟩) (b := ⟨(List.toArray (List.replicate 10 0))⟩) (by decide) (by kernel_rfl) (by kernel_rfl) (Eq.trans (b := vs 6) (by kernel_rfl) (hd 6 (.val (.string ⟨(List.toArray (List.replicate 10 0))⟩)) (by kernel_rfl) (by kernel_rfl))) ⟨Ex.refl _, congrArg Value.string tenS⟩)) ?_
    refine req_cons (.val (.bool true)) (by kernel_rfl) (fun vs w1 he hd => StepG.on (g := 2) (d := 33) (x := true) (v := vs 2) (by kernel_rfl) (by kernel_rfl) (by kernel_rfl) (hd 2 (.val (.bool true)) (by kernel_rfl) (by kernel_rfl)) (gives_eqS (x := (.tmp 35)) (y := (.tmp 38)) (xs := PK) (ys := ([0, 0, 0, 12, 10, 21] ++ List.replicate 10 0)) (r := true) (by kernel_rfl) (Eq.trans (b := vs 4) (by kernel_rfl) (hd 4 (.val (.string ⟨(List.toArray PK)⟩)) (by kernel_rfl) (by kernel_rfl))) (Eq.trans (b := vs 7) (by kernel_rfl) (hd 7 (.val (.string ⟨(List.toArray ([0, 0, 0, 12, 10, 21] ++ List.replicate 10 0))⟩)) (by kernel_rfl) (by kernel_rfl))) (by rw [HPK.out]; simp) ⟨Ex.refl _, rfl⟩)) ?_
    refine req_cons (.val (.bool true)) (by kernel_rfl) (fun vs w1 he hd => StepG.plain (by kernel_rfl) (gives_pick_t (x := (.tmp 33)) (y := (.tmp 39)) (z := (.const (.bool false))) (v := (.bool true)) (by kernel_rfl) (Eq.trans (b := vs 2) (by kernel_rfl) (hd 2 (.val (.bool true)) (by kernel_rfl) (by kernel_rfl))) (Eq.trans (b := vs 8) (by kernel_rfl) (hd 8 (.val (.bool true)) (by kernel_rfl) (by kernel_rfl))) ⟨Ex.refl _, rfl⟩)) ?_
    refine req_cons (.val (.bool true)) (by kernel_rfl) (fun vs w1 he hd => StepG.plain (by kernel_rfl) (gives_move (x := (.tmp 40)) (v := (.bool true)) (by kernel_rfl) (Eq.trans (b := vs 9) (by kernel_rfl) (hd 9 (.val (.bool true)) (by kernel_rfl) (by kernel_rfl))) ⟨Ex.refl _, rfl⟩)) ?_
    refine req_cons (.val (.bool true)) (by kernel_rfl) (fun vs w1 he hd => StepG.on (g := 10) (d := 41) (x := true) (v := vs 10) (by kernel_rfl) (by kernel_rfl) (by kernel_rfl) (hd 10 (.val (.bool true)) (by kernel_rfl) (by kernel_rfl)) (gives_move (x := (.tmp 6)) (v := (.bool true)) (by kernel_rfl) (by kernel_rfl) ⟨Ex.refl _, rfl⟩)) ?_
    refine req_cons (.val (.bool true)) (by kernel_rfl) (fun vs w1 he hd => StepG.plain (by kernel_rfl) (gives_pick_t (x := (.tmp 41)) (y := (.tmp 42)) (z := (.const (.bool false))) (v := (.bool true)) (by kernel_rfl) (Eq.trans (b := vs 10) (by kernel_rfl) (hd 10 (.val (.bool true)) (by kernel_rfl) (by kernel_rfl))) (Eq.trans (b := vs 11) (by kernel_rfl) (hd 11 (.val (.bool true)) (by kernel_rfl) (by kernel_rfl))) ⟨Ex.refl _, rfl⟩)) ?_
    refine req_cons (.val (.bool true)) (by kernel_rfl) (fun vs w1 he hd => StepG.plain (by kernel_rfl) (gives_move (x := (.tmp 43)) (v := (.bool true)) (by kernel_rfl) (Eq.trans (b := vs 12) (by kernel_rfl) (hd 12 (.val (.bool true)) (by kernel_rfl) (by kernel_rfl))) ⟨Ex.refl _, rfl⟩)) ?_
    refine req_cons (.val (.int .i64 0)) (by kernel_rfl) (fun vs w1 he hd => StepG.on (g := 13) (d := 44) (x := true) (v := vs 13) (by kernel_rfl) (by kernel_rfl) (by kernel_rfl) (hd 13 (.val (.bool true)) (by kernel_rfl) (by kernel_rfl)) (gives_move (x := (.tmp 7)) (v := (.int .i64 0)) (by kernel_rfl) (by kernel_rfl) ⟨Ex.refl _, rfl⟩)) ?_
    refine req_cons (.val (.bool true)) (by kernel_rfl) (fun vs w1 he hd => StepG.on (g := 13) (d := 44) (x := true) (v := vs 13) (by kernel_rfl) (by kernel_rfl) (by kernel_rfl) (hd 13 (.val (.bool true)) (by kernel_rfl) (by kernel_rfl)) (gives_eqI (t := 30) (k := .i64) (a := 0) (b := 0) (x := (.tmp 45)) (y := (.const (.int .i64 0))) (r := true) (by kernel_rfl) (Eq.trans (b := vs 14) (by kernel_rfl) (hd 14 (.val (.int .i64 0)) (by kernel_rfl) (by kernel_rfl))) (by kernel_rfl) (by simp) ⟨Ex.refl _, rfl⟩)) ?_
    refine req_cons (.val (.bool true)) (by kernel_rfl) (fun vs w1 he hd => StepG.plain (by kernel_rfl) (gives_pick_t (x := (.tmp 44)) (y := (.tmp 46)) (z := (.const (.bool false))) (v := (.bool true)) (by kernel_rfl) (Eq.trans (b := vs 13) (by kernel_rfl) (hd 13 (.val (.bool true)) (by kernel_rfl) (by kernel_rfl))) (Eq.trans (b := vs 15) (by kernel_rfl) (hd 15 (.val (.bool true)) (by kernel_rfl) (by kernel_rfl))) ⟨Ex.refl _, rfl⟩)) ?_
    refine req_cons (.val (.bool true)) (by kernel_rfl) (fun vs w1 he hd => StepG.plain (by kernel_rfl) (gives_move (x := (.tmp 47)) (v := (.bool true)) (by kernel_rfl) (Eq.trans (b := vs 16) (by kernel_rfl) (hd 16 (.val (.bool true)) (by kernel_rfl) (by kernel_rfl))) ⟨Ex.refl _, rfl⟩)) ?_
    refine req_cons (.val (.slice ap np cp)) (by kernel_rfl) (fun vs w1 he hd => StepG.on (g := 17) (d := 48) (x := true) (v := vs 17) (by kernel_rfl) (by kernel_rfl) (by kernel_rfl) (hd 17 (.val (.bool true)) (by kernel_rfl) (by kernel_rfl)) (gives_move (x := (.tmp 5)) (v := (.slice ap np cp)) (by kernel_rfl) (by kernel_rfl) ⟨Ex.refl _, rfl⟩)) ?_
    refine req_cons (.val (.string ⟨(List.toArray [21])⟩)) (by kernel_rfl) (fun vs w1 he hd => StepG.on (g := 17) (d := 48) (x := true) (v := vs 17) (by kernel_rfl) (by kernel_rfl) (by kernel_rfl) (hd 17 (.val (.bool true)) (by kernel_rfl) (by kernel_rfl)) (gives_str (x := (.tmp 49)) (v := (.slice ap np cp)) (xs := [21]) (by kernel_rfl) (Eq.trans (b := vs 18) (by kernel_rfl) (hd 18 (.val (.slice ap np cp)) (by kernel_rfl) (by kernel_rfl))) ((HPP.out.fresh he)) ⟨Ex.refl _, rfl⟩)) ?_
    refine req_cons (.val (.bool true)) (by kernel_rfl) (fun vs w1 he hd => StepG.on (g := 17) (d := 48) (x := true) (v := vs 17) (by kernel_rfl) (by kernel_rfl) (by kernel_rfl) (hd 17 (.val (.bool true)) (by kernel_rfl) (by kernel_rfl)) (gives_eqS (x := (.tmp 50)) (y := (.const (.string { data := #[21] }))) (xs := [21]) (ys := [21]) (r := true) (by kernel_rfl) (Eq.trans (b := vs 19) (by kernel_rfl) (hd 19 (.val (.string ⟨(List.toArray [21])⟩)) (by kernel_rfl) (by kernel_rfl))) (by kernel_rfl) (by simp) ⟨Ex.refl _, rfl⟩)) ?_
    refine req_cons (.val (.bool true)) (by kernel_rfl) (fun vs w1 he hd => StepG.plain (by kernel_rfl) (gives_pick_t (x := (.tmp 48)) (y := (.tmp 51)) (z := (.const (.bool false))) (v := (.bool true)) (by kernel_rfl) (Eq.trans (b := vs 17) (by kernel_rfl) (hd 17 (.val (.bool true)) (by kernel_rfl) (by kernel_rfl))) (Eq.trans (b := vs 20) (by kernel_rfl) (hd 20 (.val (.bool true)) (by kernel_rfl) (by kernel_rfl))) ⟨Ex.refl _, rfl⟩)) ?_
    refine req_cons (.val (.bool true)) (by kernel_rfl) (fun vs w1 he hd => StepG.plain (by kernel_rfl) (gives_move (x := (.tmp 52)) (v := (.bool true)) (by kernel_rfl) (Eq.trans (b := vs 21) (by kernel_rfl) (hd 21 (.val (.bool true)) (by kernel_rfl) (by kernel_rfl))) ⟨Ex.refl _, rfl⟩)) ?_
    refine req_cons (.val (.pointer (some ⟨gi, 0, none⟩))) (by kernel_rfl) (fun vs w1 he hd => StepG.on (g := 22) (d := 53) (x := true) (v := vs 22) (by kernel_rfl) (by kernel_rfl) (by kernel_rfl) (hd 22 (.val (.bool true)) (by kernel_rfl) (by kernel_rfl)) (gives_move (x := (.tmp 2)) (v := (.pointer (some ⟨gi, 0, none⟩))) (by kernel_rfl) (by kernel_rfl) ⟨Ex.refl _, rfl⟩)) ?_
    refine req_cons (.val (.int .i64 0)) (by kernel_rfl) (fun vs w1 he hd => StepG.on (g := 22) (d := 53) (x := true) (v := vs 22) (by kernel_rfl) (by kernel_rfl) (by kernel_rfl) (hd 22 (.val (.bool true)) (by kernel_rfl) (by kernel_rfl)) (gives_call (f := 28) (xs := #[(.tmp 54)]) (ts := #[39]) (vs := #[(vs 23)]) (by kernel_rfl) (by kernel_rfl) (by kernel_rfl) Tryd.func28 (by kernel_rfl) (by kernel_rfl) (by rw [show vs 23 = .pointer (some ⟨gi, 0, none⟩) from (hd 23 (.val (.pointer (some ⟨gi, 0, none⟩))) (by kernel_rfl) (by kernel_rfl))]; exact told_valE (held_c _ (HIN.out.fresh he))))) ?_
    refine req_cons (.val (.bool true)) (by kernel_rfl) (fun vs w1 he hd => StepG.on (g := 22) (d := 53) (x := true) (v := vs 22) (by kernel_rfl) (by kernel_rfl) (by kernel_rfl) (hd 22 (.val (.bool true)) (by kernel_rfl) (by kernel_rfl)) (gives_eqI (t := 3) (k := .i64) (a := 0) (b := 0) (x := (.tmp 55)) (y := (.const (.int .i64 0))) (r := true) (by kernel_rfl) (Eq.trans (b := vs 24) (by kernel_rfl) (hd 24 (.val (.int .i64 0)) (by kernel_rfl) (by kernel_rfl))) (by kernel_rfl) (by simp) ⟨Ex.refl _, rfl⟩)) ?_
    refine req_cons (.val (.bool true)) (by kernel_rfl) (fun vs w1 he hd => StepG.plain (by kernel_rfl) (gives_pick_t (x := (.tmp 53)) (y := (.tmp 56)) (z := (.const (.bool false))) (v := (.bool true)) (by kernel_rfl) (Eq.trans (b := vs 22) (by kernel_rfl) (hd 22 (.val (.bool true)) (by kernel_rfl) (by kernel_rfl))) (Eq.trans (b := vs 25) (by kernel_rfl) (hd 25 (.val (.bool true)) (by kernel_rfl) (by kernel_rfl))) ⟨Ex.refl _, rfl⟩)) ?_
    refine req_cons (.val (.bool true)) (by kernel_rfl) (fun vs w1 he hd => StepG.plain (by kernel_rfl) (gives_assign (x := (.tmp 57)) (v := (.bool true)) (by kernel_rfl) (Eq.trans (b := vs 26) (by kernel_rfl) (hd 26 (.val (.bool true)) (by kernel_rfl) (by kernel_rfl))) ⟨Ex.refl _, rfl⟩)) ?_
    exact req_nil
  intro vs w7 hx hF
  have e0 : vs 0 = (.int .i64 0) := told_at hF 0 (.val (.int .i64 0)) (by decide) (by kernel_rfl)
  have e1 : vs 1 = (.bool true) := told_at hF 1 (.val (.bool true)) (by decide) (by kernel_rfl)
  have e2 : vs 2 = (.bool true) := told_at hF 2 (.val (.bool true)) (by decide) (by kernel_rfl)
  have e3 : vs 3 = (.slice ab nb cb) := told_at hF 3 (.val (.slice ab nb cb)) (by decide) (by kernel_rfl)
  have e4 : vs 4 = (.string ⟨(List.toArray PK)⟩) := told_at hF 4 (.val (.string ⟨(List.toArray PK)⟩)) (by decide) (by kernel_rfl)
  have e6 : vs 6 = (.string ⟨(List.toArray (List.replicate 10 0))⟩) := told_at hF 6 (.val (.string ⟨(List.toArray (List.replicate 10 0))⟩)) (by decide) (by kernel_rfl)
  have e7 : vs 7 = (.string ⟨(List.toArray ([0, 0, 0, 12, 10, 21] ++ List.replicate 10 0))⟩) := told_at hF 7 (.val (.string ⟨(List.toArray ([0, 0, 0, 12, 10, 21] ++ List.replicate 10 0))⟩)) (by decide) (by kernel_rfl)
  have e8 : vs 8 = (.bool true) := told_at hF 8 (.val (.bool true)) (by decide) (by kernel_rfl)
  have e9 : vs 9 = (.bool true) := told_at hF 9 (.val (.bool true)) (by decide) (by kernel_rfl)
  have e10 : vs 10 = (.bool true) := told_at hF 10 (.val (.bool true)) (by decide) (by kernel_rfl)
  have e11 : vs 11 = (.bool true) := told_at hF 11 (.val (.bool true)) (by decide) (by kernel_rfl)
  have e12 : vs 12 = (.bool true) := told_at hF 12 (.val (.bool true)) (by decide) (by kernel_rfl)
  have e13 : vs 13 = (.bool true) := told_at hF 13 (.val (.bool true)) (by decide) (by kernel_rfl)
  have e14 : vs 14 = (.int .i64 0) := told_at hF 14 (.val (.int .i64 0)) (by decide) (by kernel_rfl)
  have e15 : vs 15 = (.bool true) := told_at hF 15 (.val (.bool true)) (by decide) (by kernel_rfl)
  have e16 : vs 16 = (.bool true) := told_at hF 16 (.val (.bool true)) (by decide) (by kernel_rfl)
  have e17 : vs 17 = (.bool true) := told_at hF 17 (.val (.bool true)) (by decide) (by kernel_rfl)
  have e18 : vs 18 = (.slice ap np cp) := told_at hF 18 (.val (.slice ap np cp)) (by decide) (by kernel_rfl)
  have e19 : vs 19 = (.string ⟨(List.toArray [21])⟩) := told_at hF 19 (.val (.string ⟨(List.toArray [21])⟩)) (by decide) (by kernel_rfl)
  have e20 : vs 20 = (.bool true) := told_at hF 20 (.val (.bool true)) (by decide) (by kernel_rfl)
  have e21 : vs 21 = (.bool true) := told_at hF 21 (.val (.bool true)) (by decide) (by kernel_rfl)
  have e22 : vs 22 = (.bool true) := told_at hF 22 (.val (.bool true)) (by decide) (by kernel_rfl)
  have e23 : vs 23 = (.pointer (some ⟨gi, 0, none⟩)) := told_at hF 23 (.val (.pointer (some ⟨gi, 0, none⟩))) (by decide) (by kernel_rfl)
  have e24 : vs 24 = (.int .i64 0) := told_at hF 24 (.val (.int .i64 0)) (by decide) (by kernel_rfl)
  have e25 : vs 25 = (.bool true) := told_at hF 25 (.val (.bool true)) (by decide) (by kernel_rfl)
  have e26 : vs 26 = (.bool true) := told_at hF 26 (.val (.bool true)) (by decide) (by kernel_rfl)
  have e27 : vs 27 = (.bool true) := told_at hF 27 (.val (.bool true)) (by decide) (by kernel_rfl)
  simp only [List.length_cons, List.length_nil, actsTo, if_true, dstOf, List.getElem?_toArray, List.getElem?_cons_succ, List.getElem?_cons_zero, Option.bind_some, Act.put, List.setIfInBounds_toArray, List.set_cons_zero, List.set_cons_succ]
  simp only [e0, e1, e2, e3, e4, e6, e7, e8, e9, e10, e11, e12, e13, e14, e15, e16, e17, e18, e19, e20, e21, e22, e23, e24, e25, e26, e27]
  generalize vs 5 = y5
  clear hF e0 e1 e2 e3 e4 e6 e7 e8 e9 e10 e11 e12 e13 e14 e15 e16 e17 e18 e19 e20 e21 e22 e23 e24 e25 e26 e27 vs
  have HB7 : Hid (Below w.heap.size w w7) := HB6.out.trans (Below.mono hx HB6.out.size)
  clear hx
  go_wp2
  go_ret
  exact ⟨rfl, HB7.out⟩
end Go.Proofs.YthkaibkmpenclaaDoor
