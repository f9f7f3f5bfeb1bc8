/- A Mux: what Waits, leastFree, toSendOn, Send and Close do. -/
import Derived.Test.YtnimdbjbkoggdaaCnI
namespace Go.Proofs.Ytnimdbjbkoggdaa
open Go Go.RowKit

theorem MX.cx {w : World} {P : Nat → Prop} {a : Nat} {S : MS} (h : MX w P a S) (hS : S.cs.length = 4) (i : Nat) (hi : i < 4) {c : Ch} (hc : S.cs.getD i none = some c) :
    ∃ v A Z, CX w a (i * 9) i c v A Z ∧ (∀ k, v.ownBlock = some k → P k) ∧
      ∀ (w' : World) (T P' : Nat → Prop) (oc : Option Ch) (v' : Value), w'.heap[a]? = some (.cells (A ++ pcells i oc v' ++ Z).toArray 61 (0, 0)) → (∀ c, oc = some c → Held w' v' c.wt) → (∀ k, v'.ownBlock = some k → v.ownBlock = some k ∨ w.heap.size ≤ k) → Keeps T w w' → (∀ k, P k → T k → v.ownBlock = some k) → (∀ k, P k → P' k) → (∀ k, v'.ownBlock = some k → P' k) → ¬ P' a → (∀ k, P' k → k < w'.heap.size) → MX w' P' a ⟨S.cs.set i oc, S.dead⟩ := by
  obtain ⟨v, A, Z, h1, h2, h3, h4, h5⟩ := h.at hS i hi
  rw [hc] at h1
  exact ⟨v, A, Z, ⟨h1, h2, h3 c hc, fun e => h.na (h4 a e)⟩, h4, h5⟩

set_option maxHeartbeats 800000 in
theorem Waits_c (ch : Int) (w : World) {P : Nat → Prop} {a : Nat} {S : MS} (h : MX w P a S) (hS : S.cs.length = 4) :
    Calls Try.prog 17 #[.pointer (some ⟨a, 0, none⟩), .int .i64 ch] w fun e w' => e = .returned (.int .i64 (waitsO S ch)) ∧ w' = w := by
  have HF := hidden (find_c ch w h hS)
  unfold findO at HF
  unfold waitsO
  by_cases hr : 0 ≤ ch ∧ ch < 4
  · rw [if_pos hr]
    cases hc : chAt S ch.toNat with
    | none =>
      rw [hc, if_neg (by simp)] at HF
      clear h hc
      go_enter Try.func17, Try.ntmps17
      go_wp2_with fail
      refine HF.out.mono ?_
      rintro e w1 ⟨rfl, rfl⟩
      go_wp2_with fail
      go_ret
      exact ⟨rfl, rfl⟩
    | some c =>
      rw [hc, if_pos ⟨hr.1, hr.2, rfl⟩] at HF
      obtain ⟨v, A, Z, hx, _⟩ := h.cx hS ch.toNat (by omega) hc
      obtain ⟨c0, c1, c2, c3, c4, c5, c6, c7, c8, cf⟩ := hx.cells
      obtain ⟨ao, cap, rfl⟩ := hx.held.len
      generalize ch.toNat * 9 = o at *
      dsimp only
      generalize c.wt.length = n at *
      clear h hc hx c0 c1 c2 c3 c4 c5 c6 c7
      go_enter Try.func17, Try.ntmps17
      go_wp2_with fail
      refine HF.out.mono ?_
      rintro e w1 ⟨rfl, rfl⟩
      go_wp2_with fail
      go_ret
      exact ⟨rfl, rfl⟩
  · rw [if_neg hr]
    rw [if_neg (fun h => hr ⟨h.1, h.2.1⟩)] at HF
    clear h hr
    go_enter Try.func17, Try.ntmps17
    go_wp2_with fail
    refine HF.out.mono ?_
    rintro e w1 ⟨rfl, rfl⟩
    go_wp2_with fail
    go_ret
    exact ⟨rfl, rfl⟩

theorem free_spec (cs : List (Option Ch)) : (∀ j, j < freeO cs → (cs.getD j none).isSome = true) ∧ (freeO cs < cs.length → (cs.getD (freeO cs) none).isSome = false) ∧ freeO cs ≤ cs.length := by
  unfold freeO
  induction cs with
  | nil => exact ⟨fun j h => by simp at h, fun h => by simp at h, by simp⟩
  | cons x r ih =>
    obtain ⟨i1, i2, i3⟩ := ih
    cases x with
    | none => exact ⟨fun j h => by simp at h, fun _ => rfl, by simp⟩
    | some c =>
      simp only [List.takeWhile_cons, Option.isSome_some, if_true, List.length_cons]
      refine ⟨fun j hj => ?_, fun h => ?_, by omega⟩
      · cases j with
        | zero => rfl
        | succ j => simpa using i1 j (by omega)
      · simpa using i2 (by omega)

set_option maxHeartbeats 800000 in
set_option maxRecDepth 100000 in
theorem leastFree_c (w : World) {P : Nat → Prop} {a : Nat} {S : MS} (h : MX w P a S) (hS : S.cs.length = 4) :
    Calls Try.prog 53 #[.pointer (some ⟨a, 0, none⟩)] w fun e w' => e = .returned (.tuple #[.int .i64 (if freeO S.cs < 4 then (freeO S.cs : Nat) else 0 : Nat), .bool (decide (freeO S.cs < 4))]) ∧ w' = w := by
  obtain ⟨f1, f2, f3⟩ := free_spec S.cs
  rw [hS] at f2 f3
  have HC : Hid (∀ j, j < 4 → w.cell? ⟨a, j * 9, none⟩ = some (.bool (S.cs.getD j none).isSome)) := hidden fun j hj => h.openCell hS j hj
  obtain ⟨_, cf⟩ := h.deadCell
  generalize freeO S.cs = f at *
  generalize hR1 : (if f < 4 then f else 0) = r1
  generalize hR2 : decide (f < 4) = r2
  have HR1 := hidden hR1
  have HR2 := hidden hR2
  clear hR1 hR2
  have F1 := hidden f1
  have F2 := hidden f2
  clear h f1 f2
  go_enter Try.func53, Try.ntmps53
  go_wp2_with fail
  go_loop [5] (fun t => ∃ (j : Nat), j ≤ f ∧ t = .int .i64 (j : Int)) (fun t => 5 - (intOf t).toNat)
  case atStart => exact ⟨0, by omega, rfl⟩
  case round =>
    obtain ⟨j, hj, rfl⟩ := hrel
    by_cases h4 : j < 4
    · have i1 : (j : Int) < 4 := by omega
      have k1 := HC.out j h4
      by_cases hjf : j < f
      · rw [F1.out j hjf] at k1
        go_wp2_with fail
        refine ⟨⟨j + 1, by omega, by go_num⟩, by simp [intOf]; omega⟩
      · have hje : j = f := by omega
        subst hje
        rw [F2.out h4] at k1
        have e1 := HR1.out
        rw [if_pos h4] at e1
        have e2 := HR2.out
        rw [decide_eq_true h4] at e2
        have E1 := hidden e1
        have E2 := hidden e2
        clear e1 e2
        go_wp2_with fail
        go_ret2
        exact ⟨by rw [← E1.out, ← E2.out]; rfl, rfl⟩
    · have i1 : ¬ (j : Int) < 4 := by omega
      have e1 := HR1.out
      rw [if_neg (by omega)] at e1
      have e2 := HR2.out
      rw [decide_eq_false (by omega)] at e2
      have E1 := hidden e1
      have E2 := hidden e2
      clear e1 e2
      go_wp2_with fail
      go_ret2
      exact ⟨by rw [← E1.out, ← E2.out]; rfl, rfl⟩

/-- What toSendOn answers. -/
def mayV (S : MS) (a : Nat) (ch : Int) : Value := match mayO S ch with
  | (e, none) => .tuple #[.pointer none, .int .i64 e]
  | (_, some _) => .tuple #[.pointer (some ⟨a, ch.toNat * 9, none⟩), .int .i64 0]
set_option maxHeartbeats 800000 in
theorem toSendOn_c (ch : Int) (w : World) {P : Nat → Prop} {a : Nat} {S : MS} (h : MX w P a S) (hS : S.cs.length = 4) :
    Calls Try.prog 28 #[.pointer (some ⟨a, 0, none⟩), .int .i64 ch] w fun e w' => e = .returned (mayV S a ch) ∧ w' = w := by
  have HF := hidden (find_c ch w h hS)
  unfold findO at HF
  unfold mayV mayO
  obtain ⟨d0, df⟩ := h.deadCell
  cases hd : S.dead
  · rw [hd] at d0
    rw [if_neg (by simp)]
    by_cases hr : 0 ≤ ch ∧ ch < 4
    · rw [if_pos hr]
      cases hc : chAt S ch.toNat with
      | none =>
        rw [hc, if_neg (by simp)] at HF
        clear h hc
        go_enter Try.func28, Try.ntmps28
        go_wp2_with fail
        refine HF.out.mono ?_
        rintro e w1 ⟨rfl, rfl⟩
        go_wp2_with fail
        go_ret2
        exact ⟨rfl, rfl⟩
      | some c =>
        rw [hc, if_pos ⟨hr.1, hr.2, rfl⟩] at HF
        obtain ⟨v, A, Z, hx, _⟩ := h.cx hS ch.toNat (by omega) hc
        obtain ⟨c0, c1, c2, c3, c4, c5, c6, c7, c8, cf⟩ := hx.cells
        clear h hc hx c0 c1 c2 c4 c5 c6 c7 c8
        generalize ch.toNat * 9 = o at *
        dsimp only
        cases hcl : c.cl
        · rw [hcl] at c3
          rw [if_neg (by simp)]
          go_enter Try.func28, Try.ntmps28
          go_wp2_with fail
          refine HF.out.mono ?_
          rintro e w1 ⟨rfl, rfl⟩
          go_wp2_with fail
          go_ret2
          exact ⟨rfl, rfl⟩
        · rw [hcl] at c3
          rw [if_pos rfl]
          go_enter Try.func28, Try.ntmps28
          go_wp2_with fail
          refine HF.out.mono ?_
          rintro e w1 ⟨rfl, rfl⟩
          go_wp2_with fail
          go_ret2
          exact ⟨rfl, rfl⟩
    · rw [if_neg hr]
      rw [if_neg (fun h => hr ⟨h.1, h.2.1⟩)] at HF
      clear h hr
      go_enter Try.func28, Try.ntmps28
      go_wp2_with fail
      refine HF.out.mono ?_
      rintro e w1 ⟨rfl, rfl⟩
      go_wp2_with fail
      go_ret2
      exact ⟨rfl, rfl⟩
  · rw [hd] at d0
    rw [if_pos rfl]
    clear h HF
    go_enter Try.func28, Try.ntmps28
    go_wp2_with fail
    go_ret2
    exact ⟨rfl, rfl⟩

/-- What Send and Close leave: the answers lie behind what the Mux holds. -/
def SPost (w : World) (P : Nat → Prop) (a : Nat) (r : MS × List (List UInt8) × Nat) (e : Ending) (w' : World) : Prop :=
  ∃ (u : Value) (P' : Nat → Prop) (B : Nat), e = .returned (.tuple #[u, .int .i64 r.2.2]) ∧ w.heap.size ≤ B ∧ Lst B w' u r.2.1 ∧ MX w' P' a r.1 ∧ (∀ k, P' k → P k ∨ w.heap.size ≤ k) ∧ (∀ k, P' k → k < B) ∧ Keeps (fun k => k = a ∨ P k) w w'

theorem wpList_append_run {P : Program} {w : World} {ops : Array Oper} {rest : List Oper} {o : Oper} {a : Act} {Q : Exit → Act → World → Prop} (hgd : o.guard = none) (s xo : Operand) (t tx : TypeId)
    (ho : o.op = .call { callee := .builtin .append, args := #[s, xo], argTypes := #[t, tx] }) (v x v' : Value) (w' : World) (hsv : a.eval s = v) (hx : a.eval xo = x)
    (hr : (Builtin.append_ #[t, tx] o.type #[v, x]).run P w = .ok v' w') (h : wpList P ops Q rest (a.put o.dst v') w') : wpList P ops Q (o :: rest) a w :=
  wpList_plain hgd fun _ hK => by
    unfold Oper.wp execOp
    simp only [ho, resolve, invoke, builtin, Sem.run_bind, Sem.run_pure, Result.andThen_ok, List.map_toArray, List.map_cons, List.map_nil, hsv, hx, hr]
    exact hK _ _ h
theorem mayO_ne {S : MS} {ch : Int} {e0 : Nat} (hm : mayO S ch = (e0, none)) : ((e0 : Int) != 0) = true := by
  have : e0 = 25 ∨ e0 = 22 := by
    unfold mayO at hm
    split at hm
    · cases hm; exact .inl rfl
    · split at hm
      · split at hm
        · cases hm; exact .inr rfl
        · split at hm
          · cases hm; exact .inr rfl
          · cases hm
      · cases hm; exact .inr rfl
  rcases this with rfl | rfl <;> rfl
set_option maxHeartbeats 1600000 in
set_option maxRecDepth 100000 in
theorem Send_c (ch : Int) (b : Value) (ys : List UInt8) (w : World) {L : Nat} {P : Nat → Prop} {a : Nat} {S : MS} (h : MX w P a S) (hok : OkM L S) (hL : L + 1000 ≤ 1000000) (hb : BSl w b ys) (hl : S.dead = false → ys.length ≤ 1000) :
    Calls Try.prog 12 #[.pointer (some ⟨a, 0, none⟩), .int .i64 ch, b] w fun e w' => SPost w P a (sendO S ch ys) e w' := by
  have HF := hidden (toSendOn_c ch w h hok.four)
  have HB := hidden hb
  obtain ⟨ba, bc, rfl⟩ := hb.len
  unfold mayV at HF
  unfold sendO
  have hal := h.aLt
  cases hm : mayO S ch with
  | mk e0 oc =>
  cases oc with
  | none =>
    rw [hm] at HF
    dsimp only at HF ⊢
    have hne := mayO_ne hm
    have HX := hidden h
    clear hm h hb hok hl
    generalize ys.length = yn at *
    go_enter Try.func12, Try.ntmps12
    go_wp2_with fail
    refine HF.out.mono ?_
    rintro e w1 ⟨rfl, rfl⟩
    go_wp2_with fail
    go_ret2
    exact ⟨_, P, w1.heap.size, rfl, Nat.le_refl _, Lst.nil' _ _, HX.out, fun k hk => .inl hk, HX.out.lt, Keeps.refl _ _⟩
  | some c =>
    rw [hm] at HF
    dsimp only at HF ⊢
    obtain ⟨hkc, hc0, hc4, hcg, hdd, hcl, _⟩ := mayO_ok hok hm
    have hyl := hl hdd
    have hwt := hkc.wt
    obtain ⟨v, A, Z, hx, hvP, hput⟩ := h.cx hok.four ch.toNat (by omega) hcg
    obtain ⟨c0, c1, c2, c3, c4, c5, c6, c7, c8, cf⟩ := hx.cells
    obtain ⟨v', w1, hr, hh1, hk1, ho1⟩ := run_append_held w hx.held 30 30 (.slice ba ys.length bc) ys HB.out.src (by omega)
    have hva : v.ownBlock ≠ some a := hx.own
    have hva' : v'.ownBlock ≠ some a := fun e => by
      rcases ho1 with h1 | h1
      · exact hva (by rw [← h1]; exact e)
      · have := h1 a e; omega
    have hb1 : w1.heap[a]? = some (.cells (A ++ pcells ch.toNat (some c) v ++ Z).toArray 61 (0, 0)) := (hk1.block a hal hva).trans hx.blk
    have hl9 : A.length + 8 = ch.toNat * 9 + 8 := by rw [hx.len]
    have hb2 := set_mid hb1 8 (by rw [pcells_length]; omega) v'
    rw [hl9] at hb2
    have hk2 := keepsSet w1 a (ch.toNat * 9 + 8) v'
    have HC2 : Hid (CX (w1.setCell ⟨a, ch.toNat * 9 + 8, none⟩ v') a (ch.toNat * 9) ch.toNat (longer c ys) v' A Z) := hidden ⟨hb2, hx.len, hh1.keep hk2 (fun k e e2 => hva' (by rw [e, e2])), hva'⟩
    have HKW : Hid (Keeps (fun k => k = a ∨ P k) w (w1.setCell ⟨a, ch.toNat * 9 + 8, none⟩ v')) := hidden ((hk1.mono (fun k _ e => Or.inr (hvP k e))).trans (hk2.mono (fun k _ e => Or.inl e)))
    have HVL := hidden hh1.lt
    have hs12 : (w1.setCell ⟨a, ch.toNat * 9 + 8, none⟩ v').heap.size = w1.heap.size := by simp
    have c8' : w1.cell? ⟨a, ch.toNat * 9 + 8, none⟩ = some v := by
      have := cell_mid hb1 8 (by rw [pcells_length]; omega)
      rw [hl9] at this
      exact this
    have cf' : ∀ j, w1.frozen? ⟨a, j, none⟩ = false := fun j => frozen_row hb1 j
    have HPUT := hidden hput
    have HP0 := hidden h
    have HO1 := hidden ho1
    have HVP := hidden hvP
    have HK2 : Hid (∀ k, k < w.heap.size → k ≠ a → v.ownBlock ≠ some k → (w1.setCell ⟨a, ch.toNat * 9 + 8, none⟩ v').heap[k]? = w.heap[k]?) := hidden fun k h1 h2 h3 => (hk2.block k (Nat.lt_of_lt_of_le h1 hk1.size) h2).trans (hk1.block k h1 h3)
    have HK1 := hidden hk1
    obtain ⟨ao, cap, ev⟩ := hx.held.len
    obtain ⟨ao', cap', ev'⟩ := hh1.len
    rw [ev] at c8 hr
    rw [ev'] at hr
    rw [ev] at c8'
    obtain ⟨o, ho⟩ : ∃ o, o = ch.toNat * 9 := ⟨_, rfl⟩
    rw [← ho] at HF HC2 HKW c8 hs12 c8' HK2
    have HEV' := hidden ev'
    rw [ev'] at HC2 HKW hs12 HK2
    obtain ⟨i, hi⟩ : ∃ i, i = ch.toNat := ⟨_, rfl⟩
    rw [← hi] at HC2 HPUT ⊢
    have HOK : Hid (Ok (L + ys.length) (longer c ys)) := hidden (hkc.longer ys)
    have HAR := hidden hr
    have HOI : Hid (o = i * 9) := hidden (by rw [ho, hi])
    clear ev ev' hr ho hi hm h hb hok hl hkc hc0 hc4 hcg hdd hcl hx hvP hput hh1 hk1 ho1 hb1 hb2 hk2 hl9 c0 c1 c2 c3 c4 c5 c6 c7
    generalize (c.wt ++ ys).length = l1 at *
    generalize c.wt.length = l0 at *
    go_enter Try.func12, Try.ntmps12
    go_wp2_with fail
    refine HF.out.mono ?_
    rintro e w0 ⟨rfl, rfl⟩
    go_wp2_with (at_builtin; refine wpList_append_run rfl (.tmp 23) (.tmp 24) 30 30 rfl _ _ _ w1 rfl rfl HAR.out ?_)
    generalize w1.setCell ⟨a, o + 8, none⟩ (.slice ao' l1 cap') = w2 at HC2 HKW hs12 HK2 ⊢
    rw [← HEV'.out] at HC2
    refine (flush_c w2 HC2.out HOK.out (by omega)).mono ?_
    rintro e w3 ⟨u3, v3, rfl, hl3, hcx3, ho3, hk3⟩
    obtain ⟨a3, p3, e3⟩ := hl3.shape
    subst e3
    have HP : Hid (SPost w0 P a (⟨S.cs.set i (some (behind (longer c ys))), S.dead⟩, pieces (longer c ys) (nOf (longer c ys)), 0) (.returned (.tuple #[.slice a3 (pieces (longer c ys) (nOf (longer c ys))).length p3, .int .i64 0])) w3) := by
      have hs := hk3.size
      have hs0 := HKW.out.size
      have hv3 : ∀ k, v3.ownBlock = some k → k < w2.heap.size := fun k e => by rw [hs12]; exact HVL.out k (ho3 k e)
      have hge : ∀ k, v3.ownBlock = some k → v.ownBlock = some k ∨ w0.heap.size ≤ k := fun k e => by
        rcases HO1.out with h1 | h1
        · exact .inl (by rw [← h1]; exact ho3 k e)
        · exact .inr (h1 k (ho3 k e))
      refine hidden ⟨_, fun k => P k ∨ v3.ownBlock = some k, w2.heap.size, rfl, hs0, hl3, ?_, fun k e => ?_, fun k e => ?_, HKW.out.trans (hk3.mono (fun k _ e => Or.inl e))⟩
      · have hkT : Keeps (fun k => k = a ∨ v.ownBlock = some k) w0 w3 := by
          refine ⟨hk3.os.trans HKW.out.os, hk3.tape.trans HKW.out.tape, hk3.output.trans HKW.out.output, Nat.le_trans hs0 hs, fun k h1 h2 => ?_⟩
          rw [hk3.block k (by omega) (fun e => h2 (Or.inl e))]
          exact HK2.out k h1 (fun e => h2 (Or.inl e)) (fun e => h2 (Or.inr e))
        refine HPUT.out w3 _ _ (some (behind (longer c ys))) v3 hcx3.blk (fun c' e => by cases e; exact hcx3.held) hge hkT (fun k hp e => ?_) (fun k hp => Or.inl hp) (fun k e => Or.inr e) (fun e => ?_) (fun k e => ?_)
        · rcases e with e | e
          · exact absurd (by rw [← e]; exact hp) HP0.out.na
          · exact e
        · rcases e with e | e
          · exact HP0.out.na e
          · exact hcx3.own e
        · rcases e with e | e
          · have := HP0.out.lt k e; omega
          · have := hv3 k e; omega
      · rcases e with e | e
        · exact .inl e
        · rcases hge k e with h1 | h1
          · exact .inl (HVP.out k h1)
          · exact .inr h1
      · rcases e with e | e
        · have := HP0.out.lt k e; omega
        · exact hv3 k e
    clear hl3 hcx3 ho3 hk3 HC2 HKW HVL HO1 HPUT HP0 HVP HK1 HOK
    generalize (pieces (longer c ys) (nOf (longer c ys))).length = n3 at *
    go_wp2_with fail
    go_ret2
    exact HP.out

set_option maxHeartbeats 1600000 in
set_option maxRecDepth 100000 in
theorem Close_c (ch : Int) (w : World) {L : Nat} {P : Nat → Prop} {a : Nat} {S : MS} (h : MX w P a S) (hok : OkM L S) :
    Calls Try.prog 22 #[.pointer (some ⟨a, 0, none⟩), .int .i64 ch] w fun e w' => SPost w P a (closeO S ch) e w' := by
  have HF := hidden (toSendOn_c ch w h hok.four)
  unfold mayV at HF
  unfold closeO
  have hal := h.aLt
  cases hm : mayO S ch with
  | mk e0 oc =>
  cases oc with
  | none =>
    rw [hm] at HF
    dsimp only at HF ⊢
    have hne := mayO_ne hm
    have HX := hidden h
    clear hm h hok
    go_enter Try.func22, Try.ntmps22
    go_wp2_with fail
    refine HF.out.mono ?_
    rintro e w1 ⟨rfl, rfl⟩
    go_wp2_with fail
    go_ret2
    exact ⟨_, P, w1.heap.size, rfl, Nat.le_refl _, Lst.nil' _ _, HX.out, fun k hk => .inl hk, HX.out.lt, Keeps.refl _ _⟩
  | some c =>
    rw [hm] at HF
    dsimp only at HF ⊢
    obtain ⟨hkc, hc0, hc4, hcg, hdd, hcl, _⟩ := mayO_ok hok hm
    have hth := hkc.th
    obtain ⟨v, A, Z, hx, hvP, hput⟩ := h.cx hok.four ch.toNat (by omega) hcg
    have HPUT := hidden hput
    have HP0 := hidden h
    have HVP := hidden hvP
    obtain ⟨o, ho⟩ : ∃ o, o = ch.toNat * 9 := ⟨_, rfl⟩
    obtain ⟨i, hi⟩ : ∃ i, i = ch.toNat := ⟨_, rfl⟩
    rw [← ho] at HF hx
    rw [← hi] at hx HPUT ⊢
    have HX := hidden hx
    have h1 := hx.set 3 (by omega) (.bool true) ⟨c.od, c.en, true, c.th, c.wl, c.wm, c.ol, c.wt⟩ v rfl hx.held (fun k e => e)
    have h2 := h1.set 8 (by omega) (.slice none 0 0) ⟨c.od, c.en, true, c.th, c.wl, c.wm, c.ol, []⟩ (.slice none 0 0) rfl (Held.nil _) (fun k e => by simp [Value.ownBlock] at e)
    have HC2 := hidden h2
    have HK2 := hidden ((keepsSet w a (o + 3) (.bool true)).trans (keepsSet _ a (o + 8) (.slice none 0 0)))
    obtain ⟨c0, c1, c2, c3, c4, c5, c6, c7, c8, cf⟩ := hx.cells
    obtain ⟨d0, d1, d2, d3, d4, d5, d6, d7, d8, df⟩ := h1.cells
    obtain ⟨f0, f1, f2, f3, f4, f5, f6, f7, f8, ff⟩ := h2.cells
    have hs2 : ((w.setCell ⟨a, o + 3, none⟩ (.bool true)).setCell ⟨a, o + 8, none⟩ (.slice none 0 0)).heap.size = w.heap.size := by simp
    have HS2 := hidden hs2
    clear ho hi hm h hok hkc hc0 hc4 hcg hdd hcl hx hvP hput h1 h2 c0 c1 c2 c4 c5 c6 c7 d0 d1 d2 d3 d4 d6 d7 f0 f1 f2 f3 f4 f6 f7 hs2
    go_enter Try.func22, Try.ntmps22
    go_wp2_with fail
    refine HF.out.mono ?_
    rintro e w0 ⟨rfl, rfl⟩
    go_upto_region 5 with fail
    clear c3 c8 cf d5 d8 df HF HX
    generalize (w0.setCell ⟨a, o + 3, none⟩ (.bool true)).setCell ⟨a, o + 8, none⟩ (.slice none 0 0) = w2 at *
    have HN := hidden (nsl_lit w2 [c.th])
    go_wp2_with fail
    refine (numbers_c 97 _ [c.th] _ HN.out (by intro j hj; match j, hj with | 0, _ => exact hth) (by simp)).mono ?_
    rintro e w6 ⟨v6, rfl, ho6, hb6⟩
    obtain ⟨a6, p6, e6⟩ := ownsRow_shape ho6
    subst e6
    rw [show byteOf ((97 : Nat) : Int) = 97 from rfl] at ho6 ⊢
    have HP : Hid (SPost w0 P a (⟨S.cs.set i (some ⟨c.od, c.en, true, c.th, c.wl, c.wm, c.ol, []⟩), S.dead⟩, [numL 97 [c.th]], 0) (.returned (.tuple #[.slice (some ⟨w6.heap.size, 0, none⟩) 1 1, .int .i64 0])) (w6.alloc (.cells #[.slice a6 (numL 97 [c.th]).length p6] 30))) := by
      have hk7 : Keeps (fun _ => False) w2 (w6.alloc (.cells #[.slice a6 (numL 97 [c.th]).length p6] 30)) := (Keeps.ofFresh (below_alloc hb6)).alloc _
      have hcx7 := HC2.out.still hk7
      have hk8 := HK2.out.trans (hk7.mono (S' := fun k => k = a) (fun k _ h => h.elim))
      refine hidden ⟨_, P, w0.heap.size, rfl, Nat.le_refl _, Lst.one ho6 (by rw [← HS2.out]; simp) hb6.size, ?_, fun k e => .inl e, HP0.out.lt, hk8.mono (fun k _ e => Or.inl e)⟩
      exact HPUT.out _ _ P _ _ hcx7.blk (fun c' e => by cases e; exact hcx7.held) (fun k e => by simp [Value.ownBlock] at e) hk8 (fun k hp e => absurd (by rw [← e]; exact hp) HP0.out.na) (fun k hp => hp) (fun k e => by simp [Value.ownBlock] at e) HP0.out.na (fun k hp => Nat.lt_of_lt_of_le (HP0.out.lt k hp) hk8.size)
    clear ho6 hb6 HN HC2 HK2 HS2 HP0 HPUT HVP f5 f8 ff
    generalize (numL 97 [c.th]).length = n6 at *
    go_wp2_with fail
    go_ret2
    exact HP.out
end Go.Proofs.Ytnimdbjbkoggdaa
