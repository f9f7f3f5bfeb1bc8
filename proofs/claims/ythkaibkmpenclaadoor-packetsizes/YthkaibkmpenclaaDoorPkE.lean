/- seal and open: a region of new memory alone. -/
import Derived.Test.YthkaibkmpenclaaDoorPkD
namespace Go.Proofs.YthkaibkmpenclaaDoor
open Go Go.RowKit

section
variable {o : Oper} {ρ : Operand → Value} {w : World} {x : Operand} {v : Value} {Φ : Value → World → Prop}
theorem gives_load {a : Addr} (ho : o.op = .load 22 x) (hx : ρ x = .pointer (some a)) (hc : w.cell? a = some v) (h : Φ v w) : Gives Tryd.prog o ρ w Φ := by
  refine Gives.value (w' := w) (v := v) ?_ h
  unfold execOp
  simp only [ho]
  rw [hx]
  simp [Instr.loadAt, loadVar, Instr.sureAddr, hc]
theorem gives_nil {a : Addr} (ho : o.op = .nilCheck x) (hx : ρ x = .pointer (some a)) (h : Φ (.pointer (some a)) w) : Gives Tryd.prog o ρ w Φ := by
  refine Gives.value (w' := w) (v := .pointer (some a)) ?_ h
  unfold execOp
  simp only [ho]
  rw [hx]
  rfl
theorem gives_field0 {g : Nat} (ho : o.op = .fieldAddr 61 x 0) (hx : ρ x = .pointer (some ⟨g, 0, none⟩)) (h : Φ (.pointer (some ⟨g, 0, none⟩)) w) : Gives Tryd.prog o ρ w Φ := by
  refine Gives.value (w' := w) (v := .pointer (some ⟨g, 0, none⟩)) ?_ h
  unfold execOp
  simp only [ho]
  rw [hx]
  kernel_rfl
theorem gives_ext0 {xs : List UInt8} {n : Int} (ho : o.op = .extract x 0) (hx : ρ x = v) (hv : (Fact.told xs n).holds v w) : Gives Tryd.prog o ρ w fun v' w2 => Ex w w2 ∧ (Fact.bsl xs).holds v' w2 := by
  obtain ⟨u, rfl, hu⟩ := hv
  refine Gives.value (w' := w) (v := u) ?_ ⟨Ex.refl _, hu⟩
  unfold execOp
  simp only [ho]
  rw [hx]
  rfl
theorem gives_ext1 {xs : List UInt8} {n : Int} (ho : o.op = .extract x 1) (hx : ρ x = v) (hv : (Fact.told xs n).holds v w) : Gives Tryd.prog o ρ w fun v' w2 => Ex w w2 ∧ (Fact.val (.int .i64 n)).holds v' w2 := by
  obtain ⟨u, rfl, hu⟩ := hv
  refine Gives.value (w' := w) (v := .int .i64 n) ?_ ⟨Ex.refl _, rfl⟩
  unfold execOp
  simp only [ho]
  rw [hx]
  rfl
end
theorem told_pair {xs : List UInt8} {n : Nat} {w : World} {f : FuncId} {args : Array Value} (h : Calls Tryd.prog f args w fun e w' => ETold w n xs e w') : Calls Tryd.prog f args w fun e w' => ∃ v, e = .returned v ∧ Ex w w' ∧ (Fact.told xs (n : Int)).holds v w' :=
  h.mono fun _ _ ⟨h1, v, h2, h3, _⟩ => ⟨_, h2, h1, v, rfl, h3⟩

set_option maxHeartbeats 1600000 in
set_option maxRecDepth 100000 in
theorem seal_c (w : World) {g : Nat} {key : List UInt8} {c : Nat} (h : LineS w g key c) (hcl : Cl w) (v1 v2 : Value) (hd_ b : List UInt8) (h1 : BSl w v1 hd_) (h2 : BSl w v2 b) (hsl : hd_.length ≤ 10000) (hbl : b.length ≤ 10000) :
    Calls Tryd.prog 31 #[.pointer (some ⟨g, 0, none⟩), v1, v2] w fun e w' => Ex w w' ∧ ∃ v, e = .returned (.tuple #[v, .int .i64 ((if key = [] then 0 else sealE key (nonceL c) : Nat) : Int)]) ∧ BSl w' v (if key = [] then b else sealT key (nonceL c) hd_ b) := by
  have HS := hidden (sealed_c w h)
  have HLS := hidden h
  have H1 := hidden h1
  have H2 := hidden h2
  have HCL := hidden hcl
  obtain ⟨⟨kv, c0, c1, c2⟩, hko, _⟩ := h
  have HKV := hidden c0
  have HKB := hidden c2
  clear c0 c1 c2 h1 h2 hcl
  by_cases hk : key = []
  · rw [if_pos hk, if_pos hk]
    rw [show decide (key ≠ []) = false by simpa using hk] at HS
    clear hk hko
    go_enter Tryd.func31, Tryd.ntmps31
    go_wp2_with fail
    refine HS.out.mono ?_
    rintro e w2 ⟨rfl, rfl⟩
    go_wp2
    go_ret2
    exact ⟨Ex.refl _, _, rfl, H2.out⟩
  · rw [if_neg hk, if_neg hk]
    rw [show decide (key ≠ []) = true by simpa using hk] at HS
    have HCALL : Hid (∀ (wx : World) (u : Value), Ex w wx → BSl wx u (nonceL c) → Calls Tryd.prog 48 #[kv, u, v1, v2] wx fun e w' => ∃ v, e = .returned v ∧ Ex wx w' ∧ (Fact.told (sealT key (nonceL c) hd_ b) ((sealE key (nonceL c) : Nat) : Int)).holds v w') := by
      intro wx u he hu
      exact told_pair ((Seal_c kv u v1 v2 key (nonceL c) hd_ b wx (HCL.out.fresh he) hsl hbl (HKB.out.fresh he) hu (H1.out.fresh he) (H2.out.fresh he)).mono fun _ _ h => h.told)
    clear hk hko hsl hbl
    generalize sealE key (nonceL c) = En at HCALL ⊢
    generalize (sealT key (nonceL c) hd_ b) = Tn at HCALL ⊢
    go_enter Tryd.func31, Tryd.ntmps31
    go_wp2_with fail
    refine HS.out.mono ?_
    rintro e w2 ⟨rfl, hw2⟩
    subst hw2
    go_wp2_with fail
    refine region_free [(.val (.pointer (some ⟨g, 0, none⟩))), (.val (.pointer (some ⟨g, 0, none⟩))), (.val (.pointer (some ⟨g, 0, none⟩))), (.val kv), (.val (.pointer (some ⟨g, 0, none⟩))), (.bsl (nonceL c)), (.val v1), (.val v2), (.told Tn (En : Int)), (.bsl Tn), (.val (.int .i64 (En : Int))), (.bsl Tn), (.val (.int .i64 (En : Int)))] (by kernel_rfl) ?_ ?_
    · refine req_cons (.val (.pointer (some ⟨g, 0, none⟩))) (by kernel_rfl) (fun vs w1 he hd => StepG.plain (by kernel_rfl) (gives_move (x := (.tmp 0)) (v := (.pointer (some ⟨g, 0, none⟩))) (by kernel_rfl) (by kernel_rfl) ⟨Ex.refl _, rfl⟩)) ?_
      refine req_cons (.val (.pointer (some ⟨g, 0, none⟩))) (by kernel_rfl) (fun vs w1 he hd => StepG.plain (by kernel_rfl) (gives_nil (x := .tmp 12) (by kernel_rfl) (Eq.trans (b := vs 0) (by kernel_rfl) (hd 0 (.val (.pointer (some ⟨g, 0, none⟩))) (by kernel_rfl) (by kernel_rfl))) ⟨Ex.refl _, rfl⟩)) ?_
      refine req_cons (.val (.pointer (some ⟨g, 0, none⟩))) (by kernel_rfl) (fun vs w1 he hd => StepG.plain (by kernel_rfl) (gives_field0 (x := .tmp 13) (by kernel_rfl) (Eq.trans (b := vs 1) (by kernel_rfl) (hd 1 (.val (.pointer (some ⟨g, 0, none⟩))) (by kernel_rfl) (by kernel_rfl))) ⟨Ex.refl _, rfl⟩)) ?_
      refine req_cons (.val kv) (by kernel_rfl) (fun vs w1 he hd => StepG.plain (by kernel_rfl) (gives_load (x := .tmp 14) (v := kv) (by kernel_rfl) (Eq.trans (b := vs 2) (by kernel_rfl) (hd 2 (.val (.pointer (some ⟨g, 0, none⟩))) (by kernel_rfl) (by kernel_rfl))) (cell_kept HKV.out he) ⟨Ex.refl _, rfl⟩)) ?_
      refine req_cons (.val (.pointer (some ⟨g, 0, none⟩))) (by kernel_rfl) (fun vs w1 he hd => StepG.plain (by kernel_rfl) (gives_move (x := (.tmp 0)) (v := (.pointer (some ⟨g, 0, none⟩))) (by kernel_rfl) (by kernel_rfl) ⟨Ex.refl _, rfl⟩)) ?_
      refine req_cons (.bsl (nonceL c)) (by kernel_rfl) (fun vs w1 he hd => StepG.plain (by kernel_rfl) (gives_call (f := 49) (xs := #[(.tmp 16)]) (ts := #[82]) (vs := #[(vs 4)]) (by kernel_rfl) (by kernel_rfl) (by kernel_rfl) Tryd.func49 (by kernel_rfl) (by kernel_rfl) (by rw [show vs 4 = .pointer (some ⟨g, 0, none⟩) from (hd 4 (.val (.pointer (some ⟨g, 0, none⟩))) (by kernel_rfl) (by kernel_rfl))]; exact told_bytes (nonce_c _ (HLS.out.fresh he))))) ?_
      refine req_cons (.val v1) (by kernel_rfl) (fun vs w1 he hd => StepG.plain (by kernel_rfl) (gives_move (x := (.tmp 1)) (v := v1) (by kernel_rfl) (by kernel_rfl) ⟨Ex.refl _, rfl⟩)) ?_
      refine req_cons (.val v2) (by kernel_rfl) (fun vs w1 he hd => StepG.plain (by kernel_rfl) (gives_move (x := (.tmp 2)) (v := v2) (by kernel_rfl) (by kernel_rfl) ⟨Ex.refl _, rfl⟩)) ?_
      refine req_cons (.told Tn (En : Int)) (by kernel_rfl) (fun vs w1 he hd => StepG.plain (by kernel_rfl) (gives_call (f := 48) (xs := #[(.tmp 15), (.tmp 17), (.tmp 18), (.tmp 19)]) (ts := #[22, 22, 22, 22]) (vs := #[(vs 3), (vs 5), (vs 6), (vs 7)]) (by kernel_rfl) (by kernel_rfl) (by kernel_rfl) Tryd.func48 (by kernel_rfl) (by kernel_rfl) (by rw [show vs 3 = kv from (hd 3 (.val kv) (by kernel_rfl) (by kernel_rfl)), show vs 6 = v1 from (hd 6 (.val v1) (by kernel_rfl) (by kernel_rfl)), show vs 7 = v2 from (hd 7 (.val v2) (by kernel_rfl) (by kernel_rfl))]; exact HCALL.out _ _ he (hd 5 (.bsl (nonceL c)) (by kernel_rfl) (by kernel_rfl))))) ?_
      refine req_cons (.bsl Tn) (by kernel_rfl) (fun vs w1 he hd => StepG.plain (by kernel_rfl) (gives_ext0 (n := (En : Int)) (x := .tmp 20) (v := vs 8) (by kernel_rfl) (by kernel_rfl) (hd 8 (.told Tn (En : Int)) (by kernel_rfl) (by kernel_rfl)))) ?_
      refine req_cons (.val (.int .i64 (En : Int))) (by kernel_rfl) (fun vs w1 he hd => StepG.plain (by kernel_rfl) (gives_ext1 (xs := Tn) (x := .tmp 20) (v := vs 8) (by kernel_rfl) (by kernel_rfl) (hd 8 (.told Tn (En : Int)) (by kernel_rfl) (by kernel_rfl)))) ?_
      refine req_cons (.bsl Tn) (by kernel_rfl) (fun vs w1 he hd => StepG.plain (by kernel_rfl) (gives_assign (x := (.tmp 21)) (v := (vs 9)) (by kernel_rfl) (by kernel_rfl) ⟨Ex.refl _, (hd 9 (.bsl Tn) (by kernel_rfl) (by kernel_rfl))⟩)) ?_
      refine req_cons (.val (.int .i64 (En : Int))) (by kernel_rfl) (fun vs w1 he hd => StepG.plain (by kernel_rfl) (gives_assign (x := (.tmp 22)) (v := (.int .i64 (En : Int))) (by kernel_rfl) (Eq.trans (b := vs 10) (by kernel_rfl) (hd 10 (.val (.int .i64 (En : Int))) (by kernel_rfl) (by kernel_rfl))) ⟨Ex.refl _, rfl⟩)) ?_
      exact req_nil
    intro vs w4 hx hF
    have e0 : vs 0 = (.pointer (some ⟨g, 0, none⟩)) := told_at hF 0 (.val (.pointer (some ⟨g, 0, none⟩))) (by decide) (by kernel_rfl)
    have e1 : vs 1 = (.pointer (some ⟨g, 0, none⟩)) := told_at hF 1 (.val (.pointer (some ⟨g, 0, none⟩))) (by decide) (by kernel_rfl)
    have e2 : vs 2 = (.pointer (some ⟨g, 0, none⟩)) := told_at hF 2 (.val (.pointer (some ⟨g, 0, none⟩))) (by decide) (by kernel_rfl)
    have e3 : vs 3 = kv := told_at hF 3 (.val kv) (by decide) (by kernel_rfl)
    have e4 : vs 4 = (.pointer (some ⟨g, 0, none⟩)) := told_at hF 4 (.val (.pointer (some ⟨g, 0, none⟩))) (by decide) (by kernel_rfl)
    have e6 : vs 6 = v1 := told_at hF 6 (.val v1) (by decide) (by kernel_rfl)
    have e7 : vs 7 = v2 := told_at hF 7 (.val v2) (by decide) (by kernel_rfl)
    have e10 : vs 10 = (.int .i64 (En : Int)) := told_at hF 10 (.val (.int .i64 (En : Int))) (by decide) (by kernel_rfl)
    have e12 : vs 12 = (.int .i64 (En : Int)) := told_at hF 12 (.val (.int .i64 (En : Int))) (by decide) (by kernel_rfl)
    have HB11 := hidden (told_at hF 11 (.bsl Tn) (by decide) (by kernel_rfl))
    simp only [List.length_cons, List.length_nil, actsTo, if_true, dstOf, List.getElem?_toArray, List.getElem?_cons_succ, List.getElem?_cons_zero, Option.bind_some, Act.put, List.setIfInBounds_toArray, List.set_cons_zero, List.set_cons_succ]
    simp only [e0, e1, e2, e3, e4, e6, e7, e10, e12]
    generalize vs 5 = y5
    generalize vs 8 = y8
    generalize vs 9 = y9
    generalize vs 11 = y11 at HB11 ⊢
    clear hF e0 e1 e2 e3 e4 e6 e7 e10 e12 vs
    go_wp2
    go_ret2
    exact ⟨hx, _, rfl, HB11.out⟩

set_option maxHeartbeats 1600000 in
set_option maxRecDepth 100000 in
theorem open_c (w : World) {g : Nat} {key : List UInt8} {c : Nat} (h : LineS w g key c) (hcl : Cl w) (v1 v2 : Value) (hd_ b : List UInt8) (h1 : BSl w v1 hd_) (h2 : BSl w v2 b) (hsl : hd_.length ≤ 10000) (hbl : b.length ≤ 10000) :
    Calls Tryd.prog 43 #[.pointer (some ⟨g, 0, none⟩), v1, v2] w fun e w' => Ex w w' ∧ ∃ v, e = .returned (.tuple #[v, .int .i64 ((if key = [] then 0 else openE key (nonceL c) hd_ b : Nat) : Int)]) ∧ BSl w' v (if key = [] then b else openT key (nonceL c) hd_ b) := by
  have HS := hidden (sealed_c w h)
  have HLS := hidden h
  have H1 := hidden h1
  have H2 := hidden h2
  have HCL := hidden hcl
  obtain ⟨⟨kv, c0, c1, c2⟩, hko, _⟩ := h
  have HKV := hidden c0
  have HKB := hidden c2
  clear c0 c1 c2 h1 h2 hcl
  by_cases hk : key = []
  · rw [if_pos hk, if_pos hk]
    rw [show decide (key ≠ []) = false by simpa using hk] at HS
    clear hk hko
    go_enter Tryd.func43, Tryd.ntmps43
    go_wp2_with fail
    refine HS.out.mono ?_
    rintro e w2 ⟨rfl, rfl⟩
    go_wp2
    go_ret2
    exact ⟨Ex.refl _, _, rfl, H2.out⟩
  · rw [if_neg hk, if_neg hk]
    rw [show decide (key ≠ []) = true by simpa using hk] at HS
    have HCALL : Hid (∀ (wx : World) (u : Value), Ex w wx → BSl wx u (nonceL c) → Calls Tryd.prog 58 #[kv, u, v1, v2] wx fun e w' => ∃ v, e = .returned v ∧ Ex wx w' ∧ (Fact.told (openT key (nonceL c) hd_ b) ((openE key (nonceL c) hd_ b : Nat) : Int)).holds v w') := by
      intro wx u he hu
      exact told_pair (Open_c kv u v1 v2 key (nonceL c) hd_ b wx (HCL.out.fresh he) hsl hbl (HKB.out.fresh he) hu (H1.out.fresh he) (H2.out.fresh he))
    clear hk hko hsl hbl
    generalize openE key (nonceL c) hd_ b = En at HCALL ⊢
    generalize (openT key (nonceL c) hd_ b) = Tn at HCALL ⊢
    go_enter Tryd.func43, Tryd.ntmps43
    go_wp2_with fail
    refine HS.out.mono ?_
    rintro e w2 ⟨rfl, hw2⟩
    subst hw2
    go_wp2_with fail
    refine region_free [(.val (.pointer (some ⟨g, 0, none⟩))), (.val (.pointer (some ⟨g, 0, none⟩))), (.val (.pointer (some ⟨g, 0, none⟩))), (.val kv), (.val (.pointer (some ⟨g, 0, none⟩))), (.bsl (nonceL c)), (.val v1), (.val v2), (.told Tn (En : Int)), (.bsl Tn), (.val (.int .i64 (En : Int))), (.bsl Tn), (.val (.int .i64 (En : Int)))] (by kernel_rfl) ?_ ?_
    · refine req_cons (.val (.pointer (some ⟨g, 0, none⟩))) (by kernel_rfl) (fun vs w1 he hd => StepG.plain (by kernel_rfl) (gives_move (x := (.tmp 0)) (v := (.pointer (some ⟨g, 0, none⟩))) (by kernel_rfl) (by kernel_rfl) ⟨Ex.refl _, rfl⟩)) ?_
      refine req_cons (.val (.pointer (some ⟨g, 0, none⟩))) (by kernel_rfl) (fun vs w1 he hd => StepG.plain (by kernel_rfl) (gives_nil (x := .tmp 12) (by kernel_rfl) (Eq.trans (b := vs 0) (by kernel_rfl) (hd 0 (.val (.pointer (some ⟨g, 0, none⟩))) (by kernel_rfl) (by kernel_rfl))) ⟨Ex.refl _, rfl⟩)) ?_
      refine req_cons (.val (.pointer (some ⟨g, 0, none⟩))) (by kernel_rfl) (fun vs w1 he hd => StepG.plain (by kernel_rfl) (gives_field0 (x := .tmp 13) (by kernel_rfl) (Eq.trans (b := vs 1) (by kernel_rfl) (hd 1 (.val (.pointer (some ⟨g, 0, none⟩))) (by kernel_rfl) (by kernel_rfl))) ⟨Ex.refl _, rfl⟩)) ?_
      refine req_cons (.val kv) (by kernel_rfl) (fun vs w1 he hd => StepG.plain (by kernel_rfl) (gives_load (x := .tmp 14) (v := kv) (by kernel_rfl) (Eq.trans (b := vs 2) (by kernel_rfl) (hd 2 (.val (.pointer (some ⟨g, 0, none⟩))) (by kernel_rfl) (by kernel_rfl))) (cell_kept HKV.out he) ⟨Ex.refl _, rfl⟩)) ?_
      refine req_cons (.val (.pointer (some ⟨g, 0, none⟩))) (by kernel_rfl) (fun vs w1 he hd => StepG.plain (by kernel_rfl) (gives_move (x := (.tmp 0)) (v := (.pointer (some ⟨g, 0, none⟩))) (by kernel_rfl) (by kernel_rfl) ⟨Ex.refl _, rfl⟩)) ?_
      refine req_cons (.bsl (nonceL c)) (by kernel_rfl) (fun vs w1 he hd => StepG.plain (by kernel_rfl) (gives_call (f := 49) (xs := #[(.tmp 16)]) (ts := #[82]) (vs := #[(vs 4)]) (by kernel_rfl) (by kernel_rfl) (by kernel_rfl) Tryd.func49 (by kernel_rfl) (by kernel_rfl) (by rw [show vs 4 = .pointer (some ⟨g, 0, none⟩) from (hd 4 (.val (.pointer (some ⟨g, 0, none⟩))) (by kernel_rfl) (by kernel_rfl))]; exact told_bytes (nonce_c _ (HLS.out.fresh he))))) ?_
      refine req_cons (.val v1) (by kernel_rfl) (fun vs w1 he hd => StepG.plain (by kernel_rfl) (gives_move (x := (.tmp 1)) (v := v1) (by kernel_rfl) (by kernel_rfl) ⟨Ex.refl _, rfl⟩)) ?_
      refine req_cons (.val v2) (by kernel_rfl) (fun vs w1 he hd => StepG.plain (by kernel_rfl) (gives_move (x := (.tmp 2)) (v := v2) (by kernel_rfl) (by kernel_rfl) ⟨Ex.refl _, rfl⟩)) ?_
      refine req_cons (.told Tn (En : Int)) (by kernel_rfl) (fun vs w1 he hd => StepG.plain (by kernel_rfl) (gives_call (f := 58) (xs := #[(.tmp 15), (.tmp 17), (.tmp 18), (.tmp 19)]) (ts := #[22, 22, 22, 22]) (vs := #[(vs 3), (vs 5), (vs 6), (vs 7)]) (by kernel_rfl) (by kernel_rfl) (by kernel_rfl) Tryd.func58 (by kernel_rfl) (by kernel_rfl) (by rw [show vs 3 = kv from (hd 3 (.val kv) (by kernel_rfl) (by kernel_rfl)), show vs 6 = v1 from (hd 6 (.val v1) (by kernel_rfl) (by kernel_rfl)), show vs 7 = v2 from (hd 7 (.val v2) (by kernel_rfl) (by kernel_rfl))]; exact HCALL.out _ _ he (hd 5 (.bsl (nonceL c)) (by kernel_rfl) (by kernel_rfl))))) ?_
      refine req_cons (.bsl Tn) (by kernel_rfl) (fun vs w1 he hd => StepG.plain (by kernel_rfl) (gives_ext0 (n := (En : Int)) (x := .tmp 20) (v := vs 8) (by kernel_rfl) (by kernel_rfl) (hd 8 (.told Tn (En : Int)) (by kernel_rfl) (by kernel_rfl)))) ?_
      refine req_cons (.val (.int .i64 (En : Int))) (by kernel_rfl) (fun vs w1 he hd => StepG.plain (by kernel_rfl) (gives_ext1 (xs := Tn) (x := .tmp 20) (v := vs 8) (by kernel_rfl) (by kernel_rfl) (hd 8 (.told Tn (En : Int)) (by kernel_rfl) (by kernel_rfl)))) ?_
      refine req_cons (.bsl Tn) (by kernel_rfl) (fun vs w1 he hd => StepG.plain (by kernel_rfl) (gives_assign (x := (.tmp 21)) (v := (vs 9)) (by kernel_rfl) (by kernel_rfl) ⟨Ex.refl _, (hd 9 (.bsl Tn) (by kernel_rfl) (by kernel_rfl))⟩)) ?_
      refine req_cons (.val (.int .i64 (En : Int))) (by kernel_rfl) (fun vs w1 he hd => StepG.plain (by kernel_rfl) (gives_assign (x := (.tmp 22)) (v := (.int .i64 (En : Int))) (by kernel_rfl) (Eq.trans (b := vs 10) (by kernel_rfl) (hd 10 (.val (.int .i64 (En : Int))) (by kernel_rfl) (by kernel_rfl))) ⟨Ex.refl _, rfl⟩)) ?_
      exact req_nil
    intro vs w4 hx hF
    have e0 : vs 0 = (.pointer (some ⟨g, 0, none⟩)) := told_at hF 0 (.val (.pointer (some ⟨g, 0, none⟩))) (by decide) (by kernel_rfl)
    have e1 : vs 1 = (.pointer (some ⟨g, 0, none⟩)) := told_at hF 1 (.val (.pointer (some ⟨g, 0, none⟩))) (by decide) (by kernel_rfl)
    have e2 : vs 2 = (.pointer (some ⟨g, 0, none⟩)) := told_at hF 2 (.val (.pointer (some ⟨g, 0, none⟩))) (by decide) (by kernel_rfl)
    have e3 : vs 3 = kv := told_at hF 3 (.val kv) (by decide) (by kernel_rfl)
    have e4 : vs 4 = (.pointer (some ⟨g, 0, none⟩)) := told_at hF 4 (.val (.pointer (some ⟨g, 0, none⟩))) (by decide) (by kernel_rfl)
    have e6 : vs 6 = v1 := told_at hF 6 (.val v1) (by decide) (by kernel_rfl)
    have e7 : vs 7 = v2 := told_at hF 7 (.val v2) (by decide) (by kernel_rfl)
    have e10 : vs 10 = (.int .i64 (En : Int)) := told_at hF 10 (.val (.int .i64 (En : Int))) (by decide) (by kernel_rfl)
    have e12 : vs 12 = (.int .i64 (En : Int)) := told_at hF 12 (.val (.int .i64 (En : Int))) (by decide) (by kernel_rfl)
    have HB11 := hidden (told_at hF 11 (.bsl Tn) (by decide) (by kernel_rfl))
    simp only [List.length_cons, List.length_nil, actsTo, if_true, dstOf, List.getElem?_toArray, List.getElem?_cons_succ, List.getElem?_cons_zero, Option.bind_some, Act.put, List.setIfInBounds_toArray, List.set_cons_zero, List.set_cons_succ]
    simp only [e0, e1, e2, e3, e4, e6, e7, e10, e12]
    generalize vs 5 = y5
    generalize vs 8 = y8
    generalize vs 9 = y9
    generalize vs 11 = y11 at HB11 ⊢
    clear hF e0 e1 e2 e3 e4 e6 e7 e10 e12 vs
    go_wp2
    go_ret2
    exact ⟨hx, _, rfl, HB11.out⟩
end Go.Proofs.YthkaibkmpenclaaDoor
