/- Slots behind a drawn region, read by a cheap check. -/
import Derived.Test.YtnnhffjajbiicaaNmE
namespace Go.Proofs.Ytnnhffjajbiicaa
open Go Go.RowKit

/-- No operation of the list writes the slot. -/
def offD (d : Nat) : List Oper → Bool
  | [] => true
  | o :: r => (match o.dst with | some e => !(Nat.beq e d) | none => true) && offD d r
/-- Operation j of the list alone writes the slot. -/
def atD (d : Nat) : Nat → List Oper → Bool
  | _, [] => false
  | 0, o :: r => (match o.dst with | some e => Nat.beq e d | none => false) && offD d r
  | j + 1, o :: r => (match o.dst with | some e => !(Nat.beq e d) | none => true) && atD d j r
theorem offD_at {d : Nat} : ∀ {l : List Oper}, offD d l = true → ∀ k, dstOf l.toArray k ≠ some d
  | [], _, k => by simp [dstOf]
  | o :: r, h, k => by
    unfold offD at h
    rw [Bool.and_eq_true] at h
    cases k with
    | zero =>
      have h1 := h.1
      simp only [dstOf, List.getElem?_toArray, List.getElem?_cons_zero, Option.bind_some]
      intro e
      rw [e] at h1
      simp at h1
    | succ k =>
      have := offD_at h.2 k
      simpa [dstOf] using this
theorem atD_at {d : Nat} : ∀ {l : List Oper} {j : Nat}, atD d j l = true → dstOf l.toArray j = some d ∧ j < l.length ∧ ∀ k, k ≠ j → dstOf l.toArray k ≠ some d
  | [], j, h => by cases j <;> simp [atD] at h
  | o :: r, 0, h => by
    unfold atD at h
    rw [Bool.and_eq_true] at h
    have h1 := h.1
    refine ⟨?_, by simp, fun k hk => ?_⟩
    · simp only [dstOf, List.getElem?_toArray, List.getElem?_cons_zero, Option.bind_some]
      cases e : o.dst with
      | none => rw [e] at h1; simp at h1
      | some x => rw [e] at h1; simp at h1; rw [h1]
    · cases k with
      | zero => exact absurd rfl hk
      | succ k =>
        have := offD_at h.2 k
        simpa [dstOf] using this
  | o :: r, j + 1, h => by
    unfold atD at h
    rw [Bool.and_eq_true] at h
    have h1 := h.1
    obtain ⟨q1, q2, q3⟩ := atD_at h.2
    refine ⟨by simpa [dstOf] using q1, by simpa using q2, fun k hk => ?_⟩
    cases k with
    | zero =>
      simp only [dstOf, List.getElem?_toArray, List.getElem?_cons_zero, Option.bind_some]
      intro e
      rw [e] at h1
      simp at h1
    | succ k =>
      have := q3 k (by omega)
      simpa [dstOf] using this
theorem evals_off {ops : Array Oper} {a : Act} {vs : Nat → Value} {d : Nat} : ∀ n, (∀ k, k < n → dstOf ops k ≠ some d) → (actsTo ops a (fun _ => true) vs n).eval (.tmp d) = a.eval (.tmp d)
  | 0, _ => rfl
  | n + 1, h => by
    unfold actsTo
    rw [if_pos rfl, eval_put_tmp, if_neg (fun e => h n (by omega) e.1)]
    exact evals_off n fun k hk => h k (by omega)
theorem evals_at {ops : Array Oper} {a : Act} {vs : Nat → Value} {d j : Nat} (hj : dstOf ops j = some d) (hs : d < a.tmps.size) : ∀ n, j < n → (∀ k, k ≠ j → dstOf ops k ≠ some d) → (actsTo ops a (fun _ => true) vs n).eval (.tmp d) = vs j
  | 0, h, _ => by omega
  | n + 1, h, hn => by
    unfold actsTo
    rw [if_pos rfl, eval_put_tmp, actsTo_size]
    by_cases e : n = j
    · subst e
      rw [if_pos ⟨hj, hs⟩]
    · rw [if_neg (fun q => hn n e q.1)]
      exact evals_at hj hs n (by omega) hn
theorem off_eval {l : List Oper} {a : Act} {vs : Nat → Value} (d : Nat) (h : offD d l = true) : (actsTo l.toArray a (fun _ => true) vs l.length).eval (.tmp d) = a.eval (.tmp d) :=
  evals_off _ fun k _ => offD_at h k
theorem at_eval {l : List Oper} {a : Act} {vs : Nat → Value} (d j : Nat) (h : atD d j l = true) (hs : decide (d < a.tmps.size) = true) : (actsTo l.toArray a (fun _ => true) vs l.length).eval (.tmp d) = vs j := by
  obtain ⟨h1, h2, h3⟩ := atD_at h
  exact evals_at h1 (of_decide_eq_true hs) _ h2 h3
theorem at_tmps {l : List Oper} {a : Act} {vs : Nat → Value} (d j : Nat) (h : atD d j l = true) (hs : decide (d < a.tmps.size) = true) : (actsTo l.toArray a (fun _ => true) vs l.length).tmps[d]? = some (vs j) := by
  have h1 := at_eval (vs := vs) d j h hs
  have h2 : d < (actsTo l.toArray a (fun _ => true) vs l.length).tmps.size := by rw [actsTo_size]; exact of_decide_eq_true hs
  rw [Array.getElem?_eq_getElem h2]
  simpa [Act.eval, h2] using h1
end Go.Proofs.Ytnnhffjajbiicaa
