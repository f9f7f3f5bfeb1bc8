/- A scope whose run jumps to several labels: what holds at the labels of loops, and the others walked where they are met. -/
import Derived.ScopeJumps
import Derived.WalkMore
import Derived.WalkKit
namespace Go.Proofs.Ytnigfnikajejaab
open Go Go.RowKit

/-- As Q; by a goto: J at that label. -/
def hops (J : Nat → Act → World → Prop) (Q : Exit → Act → World → Prop) : Exit → Act → World → Prop
  | .goto l, a, w => J l a w
  | e, a, w => Q e a w

section
variable {P : Program} {a : Act} {w : World} {Q : Exit → Act → World → Prop}

/-- At a label: J holds, or the code behind the label is walked, n times at most. -/
def Way (P : Program) (c : Code) (Q : Exit → Act → World → Prop) (J : Nat → Act → World → Prop) : Nat → Nat → Act → World → Prop
  | 0, l, a, w => J l a w
  | n + 1, l, a, w => J l a w ∨ ∃ rest, findLabel c l = some rest ∧ rest.wp P (hops (Way P c Q J n) Q) a w

theorem scope_ways {c : Code} (n : Nat) (J : Nat → Act → World → Prop) (μ : Nat → Act → World → Nat)
    (first : c.wp P (hops (Way P c Q J n) Q) a w)
    (pass : ∀ l a w, J l a w → ∃ rest, findLabel c l = some rest ∧ rest.wp P (hops (Way P c Q (fun l' a' w' => J l' a' w' ∧ μ l' a' w' < μ l a w) n) Q) a w) : (Code.scope c).wp P Q a w := by
  intro b k cs
  have run : ∀ (code : Code) (J' : Nat → Act → World → Prop) a w, code.wp P (hops J' Q) a w →
      (∀ l a w, J' l a w → ∃ rest e a' w', findLabel c l = some rest ∧ Q e a' w' ∧ Arrives P (lone (b.at a (.code rest :: .inScope c :: k)) cs w) b k cs e a' w') →
      ∃ e a' w', Q e a' w' ∧ Arrives P (lone (b.at a (.code code :: .inScope c :: k)) cs w) b k cs e a' w' := by
    intro code J' a w hwp hJ
    obtain ⟨e, a₁, w₁, hq, harr⟩ := hwp b (.inScope c :: k) cs
    cases e with
    | normal => exact ⟨.normal, a₁, w₁, hq, Steps.trans harr (.one step_inScope)⟩
    | exit id => exact ⟨.exit id, a₁, w₁, hq, fun k' hk => harr k' (by simp [exitTo, hk])⟩
    | goto l' =>
      obtain ⟨rest, e₂, a₂, w₂, hf, hq₂, harr₂⟩ := hJ l' a₁ w₁ hq
      have hg : gotoIn l' (.inScope c :: k) = some (.code rest :: .inScope c :: k) := by simp [gotoIn, hf]
      exact ⟨e₂, a₂, w₂, hq₂, .of_steps (harr _ hg) harr₂⟩
    | ret => exact ⟨_, a₁, w₁, hq, harr⟩
    | panic ch => exact ⟨_, a₁, w₁, hq, harr⟩
    | outgrown => exact ⟨_, a₁, w₁, hq, harr⟩
  have way : ∀ (J' : Nat → Act → World → Prop), (∀ l a w, J' l a w → ∃ rest e a' w', findLabel c l = some rest ∧ Q e a' w' ∧ Arrives P (lone (b.at a (.code rest :: .inScope c :: k)) cs w) b k cs e a' w') →
      ∀ n l a w, Way P c Q J' n l a w → ∃ rest e a' w', findLabel c l = some rest ∧ Q e a' w' ∧ Arrives P (lone (b.at a (.code rest :: .inScope c :: k)) cs w) b k cs e a' w' := by
    intro J' hJ n
    induction n with
    | zero => exact fun l a w h => hJ l a w h
    | succ n ih =>
      rintro l a w (h | ⟨rest, hf, hwp⟩)
      · exact hJ l a w h
      · obtain ⟨e, a', w', hq, harr⟩ := run rest _ a w hwp ih
        exact ⟨rest, e, a', w', hf, hq, harr⟩
  have key : ∀ m l a w, μ l a w = m → J l a w → ∃ rest e a' w', findLabel c l = some rest ∧ Q e a' w' ∧ Arrives P (lone (b.at a (.code rest :: .inScope c :: k)) cs w) b k cs e a' w' := by
    intro m
    induction m using Nat.strongRecOn with
    | _ m ih =>
      intro l a w hm hJ
      obtain ⟨rest, hf, hwp⟩ := pass l a w hJ
      obtain ⟨e, a', w', hq, harr⟩ := run rest _ a w hwp (way _ (fun l' a' w' h => ih _ (by have := h.2; omega) l' a' w' rfl h.1) n)
      exact ⟨rest, e, a', w', hf, hq, harr⟩
  obtain ⟨e, a', w', hq, harr⟩ := run c _ a w first (way J (fun l a w h => key _ l a w rfl h) n)
  exact ⟨e, a', w', hq, .of_steps (.one step_scope) harr⟩

/-- No loop: every goto goes forward. -/
theorem scope_forward {c : Code} (n : Nat) (first : c.wp P (hops (Way P c Q (fun _ _ _ => False) n) Q) a w) : (Code.scope c).wp P Q a w :=
  scope_ways n (fun _ _ _ => False) (fun _ _ _ => 0) first fun _ _ _ h => h.elim
end
end Go.Proofs.Ytnigfnikajejaab
