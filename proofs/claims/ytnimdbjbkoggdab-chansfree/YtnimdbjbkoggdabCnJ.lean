/- A Mux: what Waits, leastFree, toSendOn, Send and Close do. -/
import Derived.Test.YtnimdbjbkoggdabCnI
namespace Go.Proofs.Ytnimdbjbkoggdab
open Go Go.RowKit

theorem MX.cx {w : World} {P : Nat → Prop} {a : Nat} {S : MS} (h : MX w P a S) (hS : S.cs.length = 4) (i : Nat) (hi : i < 4) {c : Ch} (hc : S.cs.getD i none = some c) :
    ∃ v A Z, CX w a (i * 9) i c v A Z ∧ (∀ k, v.ownBlock = some k → P k) ∧
      ∀ (w' : World) (T P' : Nat → Prop) (oc : Option Ch) (v' : Value), w'.heap[a]? = some (.cells (A ++ pcells i oc v' ++ Z).toArray 46 (0, 0)) → (∀ c, oc = some c → Held w' v' c.wt) → (∀ k, v'.ownBlock = some k → v.ownBlock = some k ∨ w.heap.size ≤ k) → Keeps T w w' → (∀ k, P k → T k → v.ownBlock = some k) → (∀ k, P k → P' k) → (∀ k, v'.ownBlock = some k → P' k) → ¬ P' a → (∀ k, P' k → k < w'.heap.size) → MX w' P' a ⟨S.cs.set i oc, S.dead⟩ := by
  obtain ⟨v, A, Z, h1, h2, h3, h4, h5⟩ := h.at hS i hi
  rw [hc] at h1
  exact ⟨v, A, Z, ⟨h1, h2, h3 c hc, fun e => h.na (h4 a e)⟩, h4, h5⟩


theorem free_spec (cs : List (Option Ch)) : (∀ j, j < freeO cs → (cs.getD j none).isSome = true) ∧ (freeO cs < cs.length → (cs.getD (freeO cs) none).isSome = false) ∧ freeO cs ≤ cs.length := by
  unfold freeO
  induction cs with
  | nil => exact ⟨fun j h => by simp at h, fun h => by simp at h, by simp⟩
  | cons x r ih =>
    obtain ⟨i1, i2, i3⟩ := ih
    cases x with
    | none => exact ⟨fun j h => by simp at h, fun _ => rfl, by simp⟩
    | some c =>
      simp only [List.takeWhile_cons, Option.isSome_some, if_true, List.length_cons]
      refine ⟨fun j hj => ?_, fun h => ?_, by omega⟩
      · cases j with
        | zero => rfl
        | succ j => simpa using i1 j (by omega)
      · simpa using i2 (by omega)

set_option maxHeartbeats 800000 in
set_option maxRecDepth 100000 in
theorem leastFree_c (w : World) {P : Nat → Prop} {a : Nat} {S : MS} (h : MX w P a S) (hS : S.cs.length = 4) :
    Calls Try.prog 35 #[.pointer (some ⟨a, 0, none⟩)] w fun e w' => e = .returned (.tuple #[.int .i64 (if freeO S.cs < 4 then (freeO S.cs : Nat) else 0 : Nat), .bool (decide (freeO S.cs < 4))]) ∧ w' = w := by
  obtain ⟨f1, f2, f3⟩ := free_spec S.cs
  rw [hS] at f2 f3
  have HC : Hid (∀ j, j < 4 → w.cell? ⟨a, j * 9, none⟩ = some (.bool (S.cs.getD j none).isSome)) := hidden fun j hj => h.openCell hS j hj
  obtain ⟨_, cf⟩ := h.deadCell
  generalize freeO S.cs = f at *
  generalize hR1 : (if f < 4 then f else 0) = r1
  generalize hR2 : decide (f < 4) = r2
  have HR1 := hidden hR1
  have HR2 := hidden hR2
  clear hR1 hR2
  have F1 := hidden f1
  have F2 := hidden f2
  clear h f1 f2
  go_enter Try.func35, Try.ntmps35
  go_wp2_with fail
  go_loop [5] (fun t => ∃ (j : Nat), j ≤ f ∧ t = .int .i64 (j : Int)) (fun t => 5 - (intOf t).toNat)
  case atStart => exact ⟨0, by omega, rfl⟩
  case round =>
    obtain ⟨j, hj, rfl⟩ := hrel
    by_cases h4 : j < 4
    · have i1 : (j : Int) < 4 := by omega
      have k1 := HC.out j h4
      by_cases hjf : j < f
      · rw [F1.out j hjf] at k1
        go_wp2_with fail
        refine ⟨⟨j + 1, by omega, by go_num⟩, by simp [intOf]; omega⟩
      · have hje : j = f := by omega
        subst hje
        rw [F2.out h4] at k1
        have e1 := HR1.out
        rw [if_pos h4] at e1
        have e2 := HR2.out
        rw [decide_eq_true h4] at e2
        have E1 := hidden e1
        have E2 := hidden e2
        clear e1 e2
        go_wp2_with fail
        go_ret2
        exact ⟨by rw [← E1.out, ← E2.out]; rfl, rfl⟩
    · have i1 : ¬ (j : Int) < 4 := by omega
      have e1 := HR1.out
      rw [if_neg (by omega)] at e1
      have e2 := HR2.out
      rw [decide_eq_false (by omega)] at e2
      have E1 := hidden e1
      have E2 := hidden e2
      clear e1 e2
      go_wp2_with fail
      go_ret2
      exact ⟨by rw [← E1.out, ← E2.out]; rfl, rfl⟩

/-- What toSendOn answers. -/
def mayV (S : MS) (a : Nat) (ch : Int) : Value := match mayO S ch with
  | (e, none) => .tuple #[.pointer none, .int .i64 e]
  | (_, some _) => .tuple #[.pointer (some ⟨a, ch.toNat * 9, none⟩), .int .i64 0]

/-- What Send and Close leave: the answers lie behind what the Mux holds. -/
def SPost (w : World) (P : Nat → Prop) (a : Nat) (r : MS × List (List UInt8) × Nat) (e : Ending) (w' : World) : Prop :=
  ∃ (u : Value) (P' : Nat → Prop) (B : Nat), e = .returned (.tuple #[u, .int .i64 r.2.2]) ∧ w.heap.size ≤ B ∧ Lst B w' u r.2.1 ∧ MX w' P' a r.1 ∧ (∀ k, P' k → P k ∨ w.heap.size ≤ k) ∧ (∀ k, P' k → k < B) ∧ Keeps (fun k => k = a ∨ P k) w w'

theorem wpList_append_run {P : Program} {w : World} {ops : Array Oper} {rest : List Oper} {o : Oper} {a : Act} {Q : Exit → Act → World → Prop} (hgd : o.guard = none) (s xo : Operand) (t tx : TypeId)
    (ho : o.op = .call { callee := .builtin .append, args := #[s, xo], argTypes := #[t, tx] }) (v x v' : Value) (w' : World) (hsv : a.eval s = v) (hx : a.eval xo = x)
    (hr : (Builtin.append_ #[t, tx] o.type #[v, x]).run P w = .ok v' w') (h : wpList P ops Q rest (a.put o.dst v') w') : wpList P ops Q (o :: rest) a w :=
  wpList_plain hgd fun _ hK => by
    unfold Oper.wp execOp
    simp only [ho, resolve, invoke, builtin, Sem.run_bind, Sem.run_pure, Result.andThen_ok, List.map_toArray, List.map_cons, List.map_nil, hsv, hx, hr]
    exact hK _ _ h
theorem mayO_ne {S : MS} {ch : Int} {e0 : Nat} (hm : mayO S ch = (e0, none)) : ((e0 : Int) != 0) = true := by
  have : e0 = 25 ∨ e0 = 22 := by
    unfold mayO at hm
    split at hm
    · cases hm; exact .inl rfl
    · split at hm
      · split at hm
        · cases hm; exact .inr rfl
        · split at hm
          · cases hm; exact .inr rfl
          · cases hm
      · cases hm; exact .inr rfl
  rcases this with rfl | rfl <;> rfl


end Go.Proofs.Ytnimdbjbkoggdab
