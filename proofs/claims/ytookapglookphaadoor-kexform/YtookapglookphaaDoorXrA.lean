/- The Reader. -/
import Derived.Test.YtookapglookphaaDoorXkW
import Derived.ScopeJumps
import Derived.WalkMore
import Derived.WalkKit
import Derived.Deep.QuietTactic
import Derived.BigQuiet
namespace Go.Proofs.YtookapglookphaaDoor
section
open Go Go.RowKit

/-- As Q; by a goto: J at that label. -/
def hops (J : Nat → Act → World → Prop) (Q : Exit → Act → World → Prop) : Exit → Act → World → Prop
  | .goto l, a, w => J l a w
  | e, a, w => Q e a w

section
variable {P : Program} {a : Act} {w : World} {Q : Exit → Act → World → Prop}

/-- At a label: J holds, or the code behind the label is walked, n times at most. -/
def Way (P : Program) (c : Code) (Q : Exit → Act → World → Prop) (J : Nat → Act → World → Prop) : Nat → Nat → Act → World → Prop
  | 0, l, a, w => J l a w
  | n + 1, l, a, w => J l a w ∨ ∃ rest, findLabel c l = some rest ∧ rest.wp P (hops (Way P c Q J n) Q) a w

theorem scope_ways {c : Code} (n : Nat) (J : Nat → Act → World → Prop) (μ : Nat → Act → World → Nat)
    (first : c.wp P (hops (Way P c Q J n) Q) a w)
    (pass : ∀ l a w, J l a w → ∃ rest, findLabel c l = some rest ∧ rest.wp P (hops (Way P c Q (fun l' a' w' => J l' a' w' ∧ μ l' a' w' < μ l a w) n) Q) a w) : (Code.scope c).wp P Q a w := by
  intro b k cs
  have run : ∀ (code : Code) (J' : Nat → Act → World → Prop) a w, code.wp P (hops J' Q) a w →
      (∀ l a w, J' l a w → ∃ rest e a' w', findLabel c l = some rest ∧ Q e a' w' ∧ Arrives P (lone (b.at a (.code rest :: .inScope c :: k)) cs w) b k cs e a' w') →
      ∃ e a' w', Q e a' w' ∧ Arrives P (lone (b.at a (.code code :: .inScope c :: k)) cs w) b k cs e a' w' := by
    intro code J' a w hwp hJ
    obtain ⟨e, a₁, w₁, hq, harr⟩ := hwp b (.inScope c :: k) cs
    cases e with
    | normal => exact ⟨.normal, a₁, w₁, hq, Steps.trans harr (.one step_inScope)⟩
    | exit id => exact ⟨.exit id, a₁, w₁, hq, fun k' hk => harr k' (by simp [exitTo, hk])⟩
    | goto l' =>
      obtain ⟨rest, e₂, a₂, w₂, hf, hq₂, harr₂⟩ := hJ l' a₁ w₁ hq
      have hg : gotoIn l' (.inScope c :: k) = some (.code rest :: .inScope c :: k) := by simp [gotoIn, hf]
      exact ⟨e₂, a₂, w₂, hq₂, .of_steps (harr _ hg) harr₂⟩
    | ret => exact ⟨_, a₁, w₁, hq, harr⟩
    | panic ch => exact ⟨_, a₁, w₁, hq, harr⟩
    | outgrown => exact ⟨_, a₁, w₁, hq, harr⟩
  have way : ∀ (J' : Nat → Act → World → Prop), (∀ l a w, J' l a w → ∃ rest e a' w', findLabel c l = some rest ∧ Q e a' w' ∧ Arrives P (lone (b.at a (.code rest :: .inScope c :: k)) cs w) b k cs e a' w') →
      ∀ n l a w, Way P c Q J' n l a w → ∃ rest e a' w', findLabel c l = some rest ∧ Q e a' w' ∧ Arrives P (lone (b.at a (.code rest :: .inScope c :: k)) cs w) b k cs e a' w' := by
    intro J' hJ n
    induction n with
    | zero => exact fun l a w h => hJ l a w h
    | succ n ih =>
      rintro l a w (h | ⟨rest, hf, hwp⟩)
      · exact hJ l a w h
      · obtain ⟨e, a', w', hq, harr⟩ := run rest _ a w hwp ih
        exact ⟨rest, e, a', w', hf, hq, harr⟩
  have key : ∀ m l a w, μ l a w = m → J l a w → ∃ rest e a' w', findLabel c l = some rest ∧ Q e a' w' ∧ Arrives P (lone (b.at a (.code rest :: .inScope c :: k)) cs w) b k cs e a' w' := by
    intro m
    induction m using Nat.strongRecOn with
    | _ m ih =>
      intro l a w hm hJ
      obtain ⟨rest, hf, hwp⟩ := pass l a w hJ
      obtain ⟨e, a', w', hq, harr⟩ := run rest _ a w hwp (way _ (fun l' a' w' h => ih _ (by have := h.2; omega) l' a' w' rfl h.1) n)
      exact ⟨rest, e, a', w', hf, hq, harr⟩
  obtain ⟨e, a', w', hq, harr⟩ := run c _ a w first (way J (fun l a w h => key _ l a w rfl h) n)
  exact ⟨e, a', w', hq, .of_steps (.one step_scope) harr⟩

/-- No loop: every goto goes forward. -/
theorem scope_forward {c : Code} (n : Nat) (first : c.wp P (hops (Way P c Q (fun _ _ _ => False) n) Q) a w) : (Code.scope c).wp P Q a w :=
  scope_ways n (fun _ _ _ => False) (fun _ _ _ => 0) first fun _ _ _ h => h.elim
end
end
section
open Go Go.RowKit

/-- The Reader at block a reads bs, lying in block g; it has read up to p; why it refused (0: it did not). -/
def WR (w : World) (a : Nat) (g : Option Nat) (bs : List UInt8) (p : Nat) (why : Int) : Prop :=
  ∃ v, w.heap[a]? = some (.cells #[v, .int .i64 p, .int .i64 why] 124 (0, 0)) ∧ BSl w v bs ∧ v.ownBlock = g ∧ g ≠ some a ∧ p ≤ bs.length ∧ bs.length ≤ 140737488355328

theorem WR.lt {w : World} {a : Nat} {g : Option Nat} {bs : List UInt8} {p : Nat} {why : Int} (h : WR w a g bs p why) : a < w.heap.size := by
  obtain ⟨v, h1, _⟩ := h
  exact lt_of_block h1
theorem WR.keep {S : Nat → Prop} {w w' : World} {a : Nat} {g : Option Nat} {bs : List UInt8} {p : Nat} {why : Int} (h : WR w a g bs p why) (hk : Keeps S w w') (ha : ¬ S a) (hg : ∀ k, g = some k → ¬ S k) : WR w' a g bs p why := by
  have hlt := h.lt
  obtain ⟨v, h1, h2, rfl, h4, h5⟩ := h
  exact ⟨v, (hk.block a hlt ha).trans h1, h2.keep hk hg, rfl, h4, h5⟩
theorem WR.same {w w' : World} {a : Nat} {g : Option Nat} {bs : List UInt8} {p : Nat} {why : Int} (h : WR w a g bs p why) (hk : Keeps (fun _ => False) w w') : WR w' a g bs p why := h.keep hk (fun h => h) (fun _ _ h => h)
theorem WR.fresh {w w' : World} {a : Nat} {g : Option Nat} {bs : List UInt8} {p : Nat} {why : Int} (h : WR w a g bs p why) (hb : Below w.heap.size w w') : WR w' a g bs p why := h.same (Keeps.ofFresh hb)

/-- A Reader's block, its fields' cells one by one. -/
theorem cells3 {w : World} {a : Nat} {t : TypeId} {v0 v1 v2 : Value} (h : w.heap[a]? = some (.cells #[v0, v1, v2] t (0, 0))) :
    w.cell? ⟨a, 0, none⟩ = some v0 ∧ w.cell? ⟨a, 1, none⟩ = some v1 ∧ w.cell? ⟨a, 2, none⟩ = some v2 ∧ ∀ j, w.frozen? ⟨a, j, none⟩ = false := by
  refine ⟨?_, ?_, ?_, fun j => by simp [World.frozen?, h]⟩ <;> simp [World.cell?, h]

theorem set3 {w : World} {a : Nat} {t : TypeId} {v0 v1 v2 : Value} (h : w.heap[a]? = some (.cells #[v0, v1, v2] t (0, 0))) (x y : Value) :
    ((w.setCell ⟨a, 2, none⟩ x).setCell ⟨a, 1, none⟩ y).heap[a]? = some (.cells #[v0, y, x] t (0, 0)) := by
  have hlt := lt_of_block h
  simp only [World.setCell, Array.getElem?_modify, if_true, h]
  simp
theorem set3p {w : World} {a : Nat} {t : TypeId} {v0 v1 v2 : Value} (h : w.heap[a]? = some (.cells #[v0, v1, v2] t (0, 0))) (y : Value) :
    (w.setCell ⟨a, 1, none⟩ y).heap[a]? = some (.cells #[v0, y, v2] t (0, 0)) := by
  simp only [World.setCell, Array.getElem?_modify, if_true, h]
  simp

set_option maxHeartbeats 400000 in
theorem refuse_c (y : Int) (q : Nat) (w : World) {a : Nat} {g : Option Nat} {bs : List UInt8} {p : Nat} (h : WR w a g bs p 0) (hq : q ≤ bs.length) :
    Calls Tryd.prog 85 #[.pointer (some ⟨a, 0, none⟩), .int .i64 y, .int .i64 q] w fun e w' => e = .returned (.tuple #[]) ∧ WR w' a g bs q y ∧ Keeps (fun k => k = a) w w' := by
  obtain ⟨v, h1, h2, rfl, h4, h5, h6⟩ := h
  obtain ⟨c0, c1, c2, hf⟩ := cells3 h1
  go_enter Tryd.func85, Tryd.ntmps85
  go_wp2
  go_end0
  have hk : Keeps (fun k => k = a) w ((w.setCell ⟨a, 2, none⟩ (.int .i64 y)).setCell ⟨a, 1, none⟩ (.int .i64 q)) := ((Keeps.refl (fun k => k = a) w).setCell (p := ⟨a, 2, none⟩) (.inl rfl) _).setCell (p := ⟨a, 1, none⟩) (.inl rfl) _
  exact ⟨rfl, ⟨v, set3 h1 _ _, h2.keep hk (fun k e hS => h4 (by rw [e, hS])), rfl, h4, hq, h6⟩, hk⟩

set_option maxHeartbeats 400000 in
theorem refuse_no (y : Int) (q : Int) (w : World) {a : Nat} {g : Option Nat} {bs : List UInt8} {p : Nat} {why : Int} (hw : why ≠ 0) (h : WR w a g bs p why) :
    Calls Tryd.prog 85 #[.pointer (some ⟨a, 0, none⟩), .int .i64 y, .int .i64 q] w fun e w' => e = .returned (.tuple #[]) ∧ w' = w := by
  obtain ⟨v, h1, h2, rfl, h4, h5, h6⟩ := h
  obtain ⟨c0, c1, c2, hf⟩ := cells3 h1
  have hw2 : (why == 0) = false := by simpa using hw
  go_enter Tryd.func85, Tryd.ntmps85
  go_wp2
  go_end0
  exact ⟨rfl, rfl⟩

/-- How many bytes may still be read. -/
def lft (bs : List UInt8) (p : Nat) (why : Int) : Nat := if why = 0 then bs.length - p else 0

set_option maxHeartbeats 400000 in
theorem left_c (w : World) {a : Nat} {g : Option Nat} {bs : List UInt8} {p : Nat} {why : Int} (h : WR w a g bs p why) :
    Calls Tryd.prog 87 #[.pointer (some ⟨a, 0, none⟩)] w fun e w' => e = .returned (.int .i64 (lft bs p why)) ∧ Keeps (fun _ => False) w w' := by
  obtain ⟨v, h1, h2, rfl, h4, h5, h6⟩ := h
  obtain ⟨ao, cap, rfl, _⟩ := id h2
  obtain ⟨c0, c1, c2, hf⟩ := cells3 h1
  by_cases hw : why = 0
  · subst hw
    have hp : (p : Int) ≤ (bs.length : Int) := by omega
    go_enter Tryd.func87, Tryd.ntmps87
    go_wp2
    go_quiet (fail)
    go_wp2
    go_ret
    have e : ((lft bs p 0 : Nat) : Int) = (bs.length : Int) - (p : Int) := by simp only [lft, if_true]; omega
    exact ⟨by rw [e]; rfl, (Keeps.refl _ _).drewN nq⟩
  · have hw2 : (why == 0) = false := by simpa using hw
    have hw3 : (why != 0) = true := by simpa using hw
    go_enter Tryd.func87, Tryd.ntmps87
    go_wp2
    go_ret
    exact ⟨by simp [lft, hw], Keeps.refl _ _⟩

/-- What take answers, and where the Reader stands behind it. -/
def tk (bs : List UInt8) (p : Nat) (why : Int) (n : Nat) : List UInt8 × Nat × Int :=
  if why = 0 then (if bs.length - p < n then ([], bs.length, 10) else ((bs.drop p).take n, p + n, 0)) else ([], p, why)

/-- What a Reader's call leaves: its state, and nothing else has turned. -/
structure Took (a : Nat) (g : Option Nat) (bs : List UInt8) (p : Nat) (why : Int) (w w' : World) : Prop where
  state : WR w' a g bs p why
  keeps : Keeps (fun k => k = a) w w'

def TakePost (a : Nat) (g : Option Nat) (bs : List UInt8) (r : List UInt8 × Nat × Int) (w : World) (e : Ending) (w' : World) : Prop :=
  ∃ v', e = .returned v' ∧ BSl w' v' r.1 ∧ (v'.ownBlock = none ∨ v'.ownBlock = g) ∧ Took a g bs r.2.1 r.2.2 w w'

theorem bsl_none (w : World) : BSl w (.slice none 0 0) [] := ⟨none, 0, rfl, by simp, by simp [maxLen], fun _ => ⟨rfl, rfl⟩, (fun ad e => by cases e)⟩

theorem ownBlock_cut (ao : Option Addr) (p n c n' c' : Nat) : (Value.slice (Option.map (fun x => x.add p) ao) n c).ownBlock = (Value.slice ao n' c').ownBlock := by
  cases ao with
  | none => rfl
  | some ad => simp [Value.ownBlock, Addr.add]; split <;> rfl

theorem BSl.cutNone {w w' : World} {ao : Option Addr} {cap : Nat} {bs : List UInt8} (_h : BSl w (.slice ao bs.length cap) bs) : BSl w' (.slice ao 0 0) [] :=
  ⟨ao, 0, rfl, by simp, by simp [maxLen], fun _ => ⟨rfl, rfl⟩, fun _ _ h => absurd rfl h⟩

theorem BSl.cut {w : World} {ao : Option Addr} {cap p n : Nat} {bs : List UInt8} (h : BSl w (.slice ao bs.length cap) bs) (hl : n ≤ bs.length - p) (hcap : p < cap) : BSl w (.slice (Option.map (fun x => x.add p) ao) n (cap - p)) ((bs.drop p).take n) := by
  obtain ⟨ao, cap, e, h1, h2, h3, hc⟩ := h
  cases e
  have hlen : ((bs.drop p).take n).length = n := by simp; omega
  refine ⟨_, _, by rw [hlen], by rw [hlen]; omega, by omega, ?_, ?_⟩
  · intro hn
    cases ao with
    | none => have := (h3 rfl).2; omega
    | some ad => cases hn
  · intro ad had hne
    cases ao with
    | none => cases had
    | some ad0 =>
      have hne0 : bs ≠ [] := by rintro rfl; simp at hne
      obtain ⟨b, off, rfl, hcell⟩ := hc ad0 rfl hne0
      rw [Option.map_some, add_lit'] at had
      cases had
      refine ⟨b, off + p, rfl, fun j u hu => ?_⟩
      rw [Nat.add_assoc]
      refine hcell _ u ?_
      have hj : j < n := by have := (List.getElem?_eq_some_iff.1 hu).1; rw [bcells_length, hlen] at this; exact this
      simp only [bcells, List.getElem?_map, List.getElem?_take, hj, if_true, List.getElem?_drop] at hu ⊢
      exact hu

set_option maxHeartbeats 800000 in
set_option maxRecDepth 100000 in
theorem take_no (n : Int) (w : World) {a : Nat} {g : Option Nat} {bs : List UInt8} {p : Nat} {why : Int} (h : WR w a g bs p why) (hw : why ≠ 0) :
    Calls Tryd.prog 97 #[.pointer (some ⟨a, 0, none⟩), .int .u64 n] w fun e w' => TakePost a g bs ([], p, why) w e w' := by
  have H := h
  obtain ⟨v, h1, h2, rfl, h4, h5, h6⟩ := h
  obtain ⟨c0, c1, c2, hf⟩ := cells3 h1
  have hw3 : (why != 0) = true := by simpa using hw
  have hw2 : (why == 0) = false := by simpa using hw
  go_enter Tryd.func97, Tryd.ntmps97
  go_wp2
  refine scope_forward 2 ?_
  go_wp2
  go_step3
  refine .inr ⟨_, rfl, ?_⟩
  go_wp2
  simp only [hops]
  go_ret
  exact ⟨_, rfl, bsl_none _, .inl rfl, H, Keeps.refl _ _⟩

set_option maxHeartbeats 800000 in
set_option maxRecDepth 100000 in
theorem take_end (n : Int) (hn0 : 0 ≤ n) (hn1 : n < 18446744073709551616) (w : World) {a : Nat} {g : Option Nat} {bs : List UInt8} {p : Nat} (h : WR w a g bs p 0) (hl : ((bs.length - p : Nat) : Int) < n) :
    Calls Tryd.prog 97 #[.pointer (some ⟨a, 0, none⟩), .int .u64 n] w fun e w' => TakePost a g bs ([], bs.length, 10) w e w' := by
  have H := h
  obtain ⟨v, h1, h2, rfl, h4, h5, h6⟩ := h
  obtain ⟨ao, cap, rfl, _⟩ := id h2
  obtain ⟨c0, c1, c2, hf⟩ := cells3 h1
  go_enter Tryd.func97, Tryd.ntmps97
  go_wp2
  refine scope_forward 2 ?_
  go_wp2_with fail
  refine (left_c _ H).mono ?_
  rintro e w1 ⟨rfl, hk1⟩
  have H1 := H.same hk1
  have e1 : ((lft bs p 0 : Nat) : Int) = ((bs.length - p : Nat) : Int) := by simp [lft]
  rw [e1]
  generalize hL : ((bs.length - p : Nat) : Int) = L at hl ⊢
  have hL0 : 0 ≤ L := by omega
  have hL1 : L ≤ 140737488355328 := by omega
  clear e1 hL
  obtain ⟨v', h1', h2', h3', _⟩ := id H1
  clear c0 c1 c2 hf h1
  obtain ⟨c0, c1, c2, hf⟩ := cells3 h1'
  obtain ⟨ao', cap', rfl, _⟩ := id h2'
  go_wp2
  go_step3
  refine .inr ⟨_, rfl, ?_⟩
  go_wp2_with fail
  refine (refuse_c _ _ _ H1 (Nat.le_refl _)).mono ?_
  rintro e w2 ⟨rfl, hw2, hk2⟩
  go_wp2
  go_step3
  go_wp2
  simp only [hops]
  go_ret
  exact ⟨_, rfl, bsl_none _, .inl rfl, hw2, (hk1.mono fun _ _ h => h.elim).trans hk2⟩

set_option maxHeartbeats 800000 in
set_option maxRecDepth 100000 in
theorem take_yes (n : Nat) (w : World) {a : Nat} {g : Option Nat} {bs : List UInt8} {p : Nat} (h : WR w a g bs p 0) (hl : n ≤ bs.length - p) :
    Calls Tryd.prog 97 #[.pointer (some ⟨a, 0, none⟩), .int .u64 n] w fun e w' => TakePost a g bs ((bs.drop p).take n, p + n, 0) w e w' := by
  have H := h
  obtain ⟨v, h1, h2, rfl, h4, h5, h6⟩ := h
  obtain ⟨ao, cap, rfl, hcp, hcm, _⟩ := id h2
  obtain ⟨c0, c1, c2, hf⟩ := cells3 h1
  unfold maxLen at hcm
  go_enter Tryd.func97, Tryd.ntmps97
  go_wp2
  refine scope_forward 2 ?_
  go_wp2_with fail
  refine (left_c _ H).mono ?_
  rintro e w1 ⟨rfl, hk1⟩
  have H1 := H.same hk1
  have e1 : ((lft bs p 0 : Nat) : Int) = ((bs.length - p : Nat) : Int) := by simp [lft]
  rw [e1]
  generalize hL : ((bs.length - p : Nat) : Int) = L
  have hL0 : 0 ≤ L := by omega
  have hL1 : L ≤ 140737488355328 := by omega
  have hL2 : (n : Int) ≤ L := by omega
  clear e1 hL
  have h1' : w1.heap[a]? = some (.cells #[.slice ao bs.length cap, .int .i64 p, .int .i64 0] 124 (0, 0)) := (hk1.block a (lt_of_block h1) (fun h => h)).trans h1
  clear c0 c1 c2 hf
  obtain ⟨c0, c1, c2, hf⟩ := cells3 h1'
  have hi0 : (0 : Int) ≤ (p : Int) := Int.natCast_nonneg _
  have hi1 : (p : Int) ≤ (p : Int) + (n : Int) := by omega
  have hi2 : (p : Int) + (n : Int) ≤ (cap : Int) := by omega
  go_wp2
  have h2c : (w1.setCell ⟨a, 1, none⟩ (.int .i64 ((p : Int) + (n : Int)))).heap[a]? = some (.cells #[.slice ao bs.length cap, .int .i64 ((p : Int) + (n : Int)), .int .i64 0] 124 (0, 0)) := set3p h1' _
  clear c0 c1 c2 hf
  obtain ⟨c0, c1, c2, hf⟩ := cells3 h2c
  have hk2 : Keeps (fun k => k = a) w (w1.setCell ⟨a, 1, none⟩ (.int .i64 ((p : Int) + (n : Int)))) := Keeps.setCell (S := fun k => k = a) (p := ⟨a, 1, none⟩) (hk1.mono fun _ _ h => h.elim) (.inl rfl) _
  have HB2 : Hid (BSl (w1.setCell ⟨a, 1, none⟩ (.int .i64 ((p : Int) + (n : Int)))) (.slice ao bs.length cap) bs) := h2.keep hk2 (fun k e hS => h4 (by rw [e, hS]))
  have HB : Hid (BSl w (.slice ao bs.length cap) bs) := h2
  have HK : Hid (Keeps (fun k => k = a) w (w1.setCell ⟨a, 1, none⟩ (.int .i64 ((p : Int) + (n : Int))))) := hk2
  clear hk2 h2 H H1 hk1 h1 h1'
  generalize w1.setCell ⟨a, 1, none⟩ (.int .i64 ((p : Int) + (n : Int))) = w2 at *
  go_quiet (fail)
  go_wp2
  all_goals simp only [hops]
  all_goals go_ret
  · rename_i hcap
    have hn0 : n = 0 := by omega
    have e : (bs.drop p).take n = [] := by rw [hn0]; rfl
    refine ⟨_, rfl, by rw [e, hn0]; exact BSl.cutNone HB.out, .inr (ownBlock_any _ _ _ _ _), ⟨_, h2c, HB2.out, rfl, h4, by show p + n ≤ _; omega, h6⟩, HK.out.drewN nq⟩
  · rename_i hcap
    refine ⟨_, rfl, HB2.out.cut (by omega) (by omega), .inr (ownBlock_cut _ _ _ _ _ _), ⟨_, h2c, HB2.out, rfl, h4, by show p + n ≤ _; omega, h6⟩, HK.out.drewN nq⟩
end
section
open Go Go.RowKit

theorem take_c (n : Int) (hn0 : 0 ≤ n) (hn1 : n < 18446744073709551616) (w : World) {a : Nat} {g : Option Nat} {bs : List UInt8} {p : Nat} {why : Int} (h : WR w a g bs p why) :
    Calls Tryd.prog 97 #[.pointer (some ⟨a, 0, none⟩), .int .u64 n] w fun e w' => TakePost a g bs (tk bs p why n.toNat) w e w' := by
  by_cases hw : why = 0
  · subst hw
    by_cases hl : ((bs.length - p : Nat) : Int) < n
    · have e : tk bs p 0 n.toNat = ([], bs.length, 10) := by unfold tk; rw [if_pos rfl, if_pos (by omega)]
      rw [e]
      exact take_end n hn0 hn1 w h hl
    · have e : tk bs p 0 n.toNat = ((bs.drop p).take n.toNat, p + n.toNat, 0) := by unfold tk; rw [if_pos rfl, if_neg (by omega)]
      rw [e]
      obtain ⟨m, rfl⟩ := Int.eq_ofNat_of_zero_le hn0
      rw [Int.toNat_natCast]
      exact take_yes m w h (by omega)
  · have e : tk bs p why n.toNat = ([], p, why) := by unfold tk; rw [if_neg hw]
    rw [e]
    exact take_no n w h hw

/-- The number whose bytes, the highest first, are xs, behind m. -/
def valFrom (m : Nat) : List UInt8 → Nat
  | [] => m
  | x :: xs => valFrom (m * 256 + x.toNat) xs
def val (xs : List UInt8) : Nat := valFrom 0 xs

theorem or_byte (m : Nat) (x : UInt8) (h : m * 256 < 18446744073709551616) : bits BinOp.or IntKind.u64 ((m : Int) * 256) (IntKind.u64.wrap (x.toNat : Int)) = ((m * 256 + x.toNat : Nat) : Int) := by
  have hx := x.toNat_lt
  have e1 : IntKind.u64.wrap (x.toNat : Int) = (x.toNat : Int) := by simp [IntKind.wrap, IntKind.bits, IntKind.signed]; omega
  rw [e1, show ((m : Int) * 256) = ((m * 256 : Nat) : Int) from by omega, u64_or_nat _ _ h (by omega)]
  congr 1
  have := Nat.shiftLeft_add_eq_or_of_lt (i := 8) (b := x.toNat) (by omega) m
  rw [Nat.shiftLeft_eq] at this
  exact this.symm

theorem or_byte0 (x : UInt8) : bits BinOp.or IntKind.u64 0 (IntKind.u64.wrap (x.toNat : Int)) = ((x.toNat : Nat) : Int) := by simpa using or_byte 0 x (by omega)
theorem pow_first (x : UInt8) (xs : List UInt8) (h : xs.length + 1 ≤ 8) : x.toNat < 256 ^ (8 - xs.length) := by
  have hx := x.toNat_lt
  calc x.toNat < 256 ^ 1 := by omega
    _ ≤ 256 ^ (8 - xs.length) := Nat.pow_le_pow_right (by omega) (by omega)
theorem pow_next (m : Nat) (xs : List UInt8) (h : xs.length + 1 ≤ 8) (hm : m < 256 ^ (8 - (xs.length + 1))) : m * 256 + 255 < 18446744073709551616 := by
  have h1 : 256 ^ (8 - (xs.length + 1)) ≤ 256 ^ 7 := Nat.pow_le_pow_right (by omega) (by omega)
  have : m < 256 ^ 7 := Nat.lt_of_lt_of_le hm h1
  omega
theorem pow_stepR (m : Nat) (x : UInt8) (xs : List UInt8) (h : xs.length + 1 ≤ 8) (hm : m < 256 ^ (8 - (xs.length + 1))) : m * 256 + x.toNat < 256 ^ (8 - xs.length) := by
  have hx := x.toNat_lt
  have e : 8 - xs.length = (8 - (xs.length + 1)) + 1 := by omega
  rw [e, Nat.pow_succ]
  omega

theorem BSl.tailA {w : World} {b off cap : Nat} {x : UInt8} {xs : List UInt8} (h : BSl w (.slice (some ⟨b, off, none⟩) (x :: xs).length cap) (x :: xs)) (hc : cap = 1) : BSl w (.slice (some ⟨b, off, none⟩) xs.length 0) xs := by
  have := h.tail.1
  simpa [hc] using this
theorem BSl.tailB {w : World} {b off cap : Nat} {x : UInt8} {xs : List UInt8} (h : BSl w (.slice (some ⟨b, off, none⟩) (x :: xs).length cap) (x :: xs)) (hc : ¬ cap = 1) : BSl w (.slice (some ⟨b, off + 1, none⟩) xs.length (cap - 1)) xs := by
  have := h.tail.1
  simpa [hc] using this

set_option maxHeartbeats 1600000 in
set_option maxRecDepth 100000 in
theorem number_r (k : Nat) (hk : k ≤ 8) (w : World) {a : Nat} {g : Option Nat} {bs : List UInt8} {p : Nat} {why : Int} (h : WR w a g bs p why) :
    Calls Tryd.prog 84 #[.pointer (some ⟨a, 0, none⟩), .int .u64 k] w fun e w' => e = .returned (.int .u64 (val (tk bs p why k).1)) ∧ Took a g bs (tk bs p why k).2.1 (tk bs p why k).2.2 w w' := by
  have HT := take_c (k : Int) (by omega) (by omega) w h
  rw [Int.toNat_natCast] at HT
  have hlen : (tk bs p why k).1.length ≤ 8 := by unfold tk; split <;> (try split) <;> simp <;> omega
  generalize tk bs p why k = r at *
  clear h
  go_enter Tryd.func84, Tryd.ntmps84
  go_wp2
  refine scope_ways 0 (fun l a' w' => l = 0 ∧ Took a g bs r.2.1 r.2.2 w w' ∧ ∃ (m : Nat) (sv : Value) (ys : List UInt8) (u9 u10 u11 u12 u13 u14 u15 u16 u17 u18 u19 u20 u21 u22 : Value), a' = { tmps := #[.pointer (some ⟨a, 0, none⟩), .int .u64 k, undef, undef, .int .u64 0, .int .u64 m, sv, .pointer (some ⟨a, 0, none⟩), .int .u64 k, u9, u10, u11, u12, u13, u14, u15, u16, u17, u18, u19, u20, u21, u22], defers := [] } ∧ BSl w' sv ys ∧ ys.length ≤ 8 ∧ m < 256 ^ (8 - ys.length) ∧ valFrom m ys = val r.1) (fun _ a' _ => sliceLen (a'.tmps.getD 6 undef)) ?_ ?_
  · go_wp2_with fail
    refine HT.mono ?_
    rintro e w1 ⟨v1, rfl, hb1, hob, ht⟩
    have HR : Hid (Took a g bs r.2.1 r.2.2 w w1) := ht
    obtain ⟨xs, hxs⟩ : ∃ xs, r.1 = xs := ⟨_, rfl⟩
    have HV : Hid (valFrom 0 xs = val r.1) := by rw [← hxs]; rfl
    rw [hxs] at hb1 hlen
    clear hxs
    have HBS : Hid (BSl w1 v1 xs) := hb1
    clear ht hob HT
    cases xs with
    | nil =>
      obtain ⟨ao, cap, rfl⟩ := hb1.nil
      clear hb1
      go_wp2
      go_step3
      go_wp2
      simp only [hops]
      go_ret
      exact ⟨by rw [← HV.out]; rfl, HR.out⟩
    | cons x xs =>
      obtain ⟨b, off, cap, rfl, hc1, hc2, _⟩ := hb1.cons
      have h0 := hb1.head
      unfold maxLen at hc2
      clear hb1
      simp only [List.length_cons] at hlen
      go_wp2
      go_step3
      go_wp2
      all_goals go_step3
      all_goals rw [or_byte0]
      · exact ⟨rfl, HR.out, x.toNat, _, xs, _, _, _, _, _, _, _, _, _, _, _, _, _, _, rfl, HBS.out.tailA ‹_›, by omega, pow_first x xs (by omega), by rw [← HV.out]; simp [valFrom]⟩
      · exact ⟨rfl, HR.out, x.toNat, _, xs, _, _, _, _, _, _, _, _, _, _, _, _, _, _, rfl, HBS.out.tailB ‹_›, by omega, pow_first x xs (by omega), by rw [← HV.out]; simp [valFrom]⟩
  · rintro l a' w' ⟨rfl, ht, m, sv, ys, u9, u10, u11, u12, u13, u14, u15, u16, u17, u18, u19, u20, u21, u22, rfl, hb1, hl8, hm, hv⟩
    refine ⟨_, rfl, ?_⟩
    have HR : Hid (Took a g bs r.2.1 r.2.2 w w') := ht
    have HV : Hid (valFrom m ys = val r.1) := hv
    have HBS : Hid (BSl w' sv ys) := hb1
    have HM : Hid (m < 256 ^ (8 - ys.length)) := hm
    clear ht hv hm HT hlen
    cases ys with
    | nil =>
      obtain ⟨ao, cap, rfl⟩ := hb1.nil
      clear hb1
      go_wp2
      simp only [hops]
      go_ret
      exact ⟨by rw [← HV.out]; rfl, HR.out⟩
    | cons x xs =>
      obtain ⟨b, off, cap, rfl, hc1, hc2, _⟩ := hb1.cons
      have h0 := hb1.head
      unfold maxLen at hc2
      clear hb1
      simp only [List.length_cons] at hl8
      have hm3 : (m : Int) ≤ 72057594037927935 := by have := pow_next m xs hl8 HM.out; omega
      go_wp2
      all_goals go_step3
      all_goals rw [or_byte m x (by have := pow_next m xs hl8 HM.out; omega)]
      · exact ⟨⟨rfl, HR.out, m * 256 + x.toNat, _, xs, _, _, _, _, _, _, _, _, _, _, _, _, _, _, rfl, HBS.out.tailA ‹_›, by omega, pow_stepR m x xs hl8 HM.out, HV.out⟩, Nat.lt_succ_self _⟩
      · exact ⟨⟨rfl, HR.out, m * 256 + x.toNat, _, xs, _, _, _, _, _, _, _, _, _, _, _, _, _, _, rfl, HBS.out.tailB ‹_›, by omega, pow_stepR m x xs hl8 HM.out, HV.out⟩, Nat.lt_succ_self _⟩
end
section
open Go Go.RowKit

theorem valFrom_lt (xs : List UInt8) : ∀ m, valFrom m xs < (m + 1) * 256 ^ xs.length := by
  induction xs with
  | nil => intro m; simp [valFrom]
  | cons x xs ih =>
    intro m
    have hx := x.toNat_lt
    have := ih (m * 256 + x.toNat)
    refine Nat.lt_of_lt_of_le this ?_
    rw [List.length_cons, Nat.pow_succ]
    have h2 : (m * 256 + x.toNat + 1) ≤ (m + 1) * 256 := by omega
    calc (m * 256 + x.toNat + 1) * 256 ^ xs.length ≤ (m + 1) * 256 * 256 ^ xs.length := Nat.mul_le_mul_right _ h2
      _ = (m + 1) * (256 ^ xs.length * 256) := by rw [Nat.mul_assoc, Nat.mul_comm 256]
theorem val_lt (xs : List UInt8) (k : Nat) (h : xs.length ≤ k) : val xs < 256 ^ k := by
  have := valFrom_lt xs 0
  simp at this
  exact Nat.lt_of_lt_of_le this (Nat.pow_le_pow_right (by omega) h)
theorem tk_len (bs : List UInt8) (p : Nat) (why : Int) (n : Nat) : (tk bs p why n).1.length ≤ n := by unfold tk; split <;> (try split) <;> simp <;> omega

def RdPost (a : Nat) (g : Option Nat) (bs : List UInt8) (r : List UInt8 × Nat × Int) (x : Value) (w : World) (e : Ending) (w' : World) : Prop := e = .returned x ∧ Took a g bs r.2.1 r.2.2 w w'

set_option maxHeartbeats 400000 in
theorem byte_r (w : World) {a : Nat} {g : Option Nat} {bs : List UInt8} {p : Nat} {why : Int} (h : WR w a g bs p why) :
    Calls Tryd.prog 51 #[.pointer (some ⟨a, 0, none⟩)] w fun e w' => RdPost a g bs (tk bs p why 1) (.int .i64 (val (tk bs p why 1).1)) w e w' := by
  have HN := number_r 1 (by omega) w h
  have hv := val_lt _ 1 (tk_len bs p why 1)
  generalize tk bs p why 1 = r at *
  generalize val r.1 = x at *
  go_enter Tryd.func51, Tryd.ntmps51
  go_wp2_with fail
  refine HN.mono ?_
  rintro e w1 ⟨rfl, ht⟩
  have hx : (x : Int) ≤ 255 := by omega
  go_wp2
  go_ret
  exact ⟨rfl, ht⟩


/-- What text answers, and where the Reader stands behind it. -/
def tx (bs : List UInt8) (p : Nat) (why : Int) (most : Int) : List UInt8 × Nat × Int :=
  if most.toNat < val (tk bs p why 4).1 then ([], p, 3) else tk bs (tk bs p why 4).2.1 (tk bs p why 4).2.2 (val (tk bs p why 4).1)

theorem tk_ok {bs : List UInt8} {p : Nat} {why : Int} {n : Nat} (h : 0 < val (tk bs p why n).1) : why = 0 ∧ (tk bs p why n).2.2 = 0 := by
  unfold tk at h ⊢
  by_cases hw : why = 0
  · rw [if_pos hw] at h ⊢
    by_cases hl : bs.length - p < n
    · rw [if_pos hl] at h; simp [val, valFrom] at h
    · rw [if_neg hl]; exact ⟨hw, rfl⟩
  · rw [if_neg hw] at h; simp [val, valFrom] at h

set_option maxHeartbeats 800000 in
set_option maxRecDepth 100000 in
theorem text_r (w : World) {a : Nat} {g : Option Nat} {bs : List UInt8} {p : Nat} {why : Int} (h : WR w a g bs p why) :
    Calls Tryd.prog 86 #[.pointer (some ⟨a, 0, none⟩), .int .i64 32] w fun e w' => TakePost a g bs (tx bs p why 32) w e w' := by
  have HN := number_r 4 (by omega) w h
  have hv := val_lt _ 4 (tk_len bs p why 4)
  have HO := @tk_ok bs p why 4
  have HX : Hid (tx bs p why 32 = if 32 < val (tk bs p why 4).1 then ([], p, 3) else tk bs (tk bs p why 4).2.1 (tk bs p why 4).2.2 (val (tk bs p why 4).1)) := rfl
  generalize tk bs p why 4 = r at *
  obtain ⟨xs, p1, y1⟩ := r
  simp only at *
  generalize val xs = x at *
  have hp := h
  obtain ⟨v, h1, h2, rfl, h4, h5, h6⟩ := h
  obtain ⟨c0, c1, c2, hf⟩ := cells3 h1
  have hx : (x : Int) ≤ 4294967295 := by omega
  clear hv
  have HP : Hid (WR w a v.ownBlock bs p why) := hp
  by_cases hlong : 32 < x
  · have hy := HO (by omega)
    have H3 : Hid (tx bs p why 32 = ([], p, 3)) := by show _ = _; rw [HX.out, if_pos hlong]
    have hlt : (32 : Int) < (x : Int) := by omega
    have HN2 : Hid (Calls _ _ _ _ _) := HN
    rw [H3.out]
    clear HO HX HN hlong  H3 hp h2 h1
    go_enter Tryd.func86, Tryd.ntmps86
    go_wp2
    refine scope_forward 2 ?_
    go_wp2_with fail
    refine HN2.out.mono ?_
    rintro e w1 ⟨rfl, ht⟩
    clear c0 c1 c2 hf
    have hst := ht.state
    rw [hy.2] at hst
    have HK : Hid (Keeps (fun k => k = a) w w1) := ht.keeps
    clear ht hy HN2
    go_wp2
    go_step3
    refine .inr ⟨_, rfl, ?_⟩
    go_wp2_with fail
    refine (refuse_c 3 p _ hst h5).mono ?_
    rintro e w2 ⟨rfl, hw2, hk2⟩
    go_wp2
    simp only [hops]
    go_ret
    exact ⟨_, rfl, bsl_none _, .inl rfl, hw2, HK.out.trans hk2⟩
  · have H3 : Hid (tx bs p why 32 = tk bs p1 y1 x) := by show _ = _; rw [HX.out, if_neg hlong]
    have hlt : decide ((32 : Int) < (x : Int)) = false := by simp; omega
    have HN2 : Hid (Calls _ _ _ _ _) := HN
    rw [H3.out]
    clear HO HX HN hlong  H3 hp h2 h1
    go_enter Tryd.func86, Tryd.ntmps86
    go_wp2
    refine scope_forward 2 ?_
    go_wp2_with fail
    refine HN2.out.mono ?_
    rintro e w1 ⟨rfl, ht⟩
    clear c0 c1 c2 hf
    have hst := ht.state
    have HK : Hid (Keeps (fun k => k = a) w w1) := ht.keeps
    clear ht HN2 h6 h5 h4
    go_wp2_with fail
    refine (take_c (x : Int) (by omega) (by omega) _ hst).mono ?_
    rintro e w2 ⟨v2, rfl, hb2, ho2, ht2⟩
    rw [Int.toNat_natCast] at hb2 ht2
    have R : TakePost a v.ownBlock bs (tk bs p1 y1 x) w (.returned v2) w2 := ⟨v2, rfl, hb2, ho2, ht2.state, HK.out.trans ht2.keeps⟩
    have HR : Hid (TakePost a v.ownBlock bs (tk bs p1 y1 x) w (.returned v2) w2) := R
    clear R hb2 ho2 ht2 hst HK
    go_wp2
    simp only [hops]
    go_ret
    exact HR.out

theorem Took.trans {a : Nat} {g : Option Nat} {bs : List UInt8} {p1 p2 : Nat} {y1 y2 : Int} {w w1 w2 : World} (h : Took a g bs p1 y1 w w1) (k : Took a g bs p2 y2 w1 w2) : Took a g bs p2 y2 w w2 := ⟨k.state, h.keeps.trans k.keeps⟩
theorem Took.fresh {a : Nat} {g : Option Nat} {bs : List UInt8} {p1 : Nat} {y1 : Int} {w w1 w2 : World} (h : Took a g bs p1 y1 w w1) (hb : Below w1.heap.size w1 w2) : Took a g bs p1 y1 w w2 := ⟨h.state.fresh hb, h.keeps.trans (Keeps.ofFresh hb)⟩

set_option maxHeartbeats 400000 in
theorem textS_r (w : World) {a : Nat} {g : Option Nat} {bs : List UInt8} {p : Nat} {why : Int} (h : WR w a g bs p why) :
    Calls Tryd.prog 53 #[.pointer (some ⟨a, 0, none⟩), .int .i64 32] w fun e w' => RdPost a g bs (tx bs p why 32) (.string ⟨(tx bs p why 32).1.toArray⟩) w e w' := by
  have HN : Hid (Calls _ _ _ _ _) := text_r w h
  generalize tx bs p why 32 = r at *
  go_enter Tryd.func53, Tryd.ntmps53
  go_wp2_with fail
  refine HN.out.mono ?_
  rintro e w1 ⟨v1, rfl, hb1, ho1, ht1⟩
  have hcv := run_string hb1
  have HT : Hid (Took a g bs r.2.1 r.2.2 w w1) := ht1
  clear ht1 ho1 hb1 HN
  go_wp2
  go_ret
  exact ⟨rfl, HT.out⟩

/-- What a Reader's call answers that hands out bytes: fresh ones. -/
def RawPost (a : Nat) (g : Option Nat) (bs : List UInt8) (r : List UInt8 × Nat × Int) (xs : List UInt8) (w : World) (e : Ending) (w' : World) : Prop :=
  ∃ v', e = .returned v' ∧ BSl w' v' xs ∧ (∀ k, v'.ownBlock = some k → w.heap.size ≤ k) ∧ Took a g bs r.2.1 r.2.2 w w'


end
section
open Go Go.RowKit

set_option maxHeartbeats 400000 in
theorem fail_r (y : Int) (w : World) {a : Nat} {g : Option Nat} {bs : List UInt8} {p : Nat} {why : Int} (h : WR w a g bs p why) :
    Calls Tryd.prog 52 #[.pointer (some ⟨a, 0, none⟩), .int .i64 y] w fun e w' => e = .returned (.tuple #[]) ∧ Took a g bs p (if why = 0 then y else why) w w' := by
  have H := h
  obtain ⟨v, h1, h2, rfl, h4, h5, h6⟩ := h
  obtain ⟨c0, c1, c2, hf⟩ := cells3 h1
  by_cases hw : why = 0
  · subst hw
    go_enter Tryd.func52, Tryd.ntmps52
    go_wp2_with fail
    refine (refuse_c y p _ H h5).mono ?_
    rintro e w1 ⟨rfl, hst, hk⟩
    go_wp2
    go_end0
    exact ⟨rfl, hst, hk⟩
  · go_enter Tryd.func52, Tryd.ntmps52
    go_wp2_with fail
    refine (refuse_no y p _ hw H).mono ?_
    rintro e w1 ⟨rfl, rfl⟩
    go_wp2
    go_end0
    exact ⟨rfl, H, Keeps.refl _ _⟩

/-- What End tells. -/
def ends (bs : List UInt8) (p : Nat) (why : Int) : Int × Nat := if why = 0 then (if p < bs.length then (11, p) else (0, 0)) else (why, p)

set_option maxHeartbeats 800000 in
theorem end_r (w : World) {a : Nat} {g : Option Nat} {bs : List UInt8} {p : Nat} {why : Int} (h : WR w a g bs p why) :
    Calls Tryd.prog 54 #[.pointer (some ⟨a, 0, none⟩)] w fun e w' => e = .returned (.tuple #[.int .i64 (ends bs p why).1, .int .i64 (ends bs p why).2]) ∧ Keeps (fun _ => False) w w' := by
  have H := h
  obtain ⟨v, h1, h2, rfl, h4, h5, h6⟩ := h
  obtain ⟨c0, c1, c2, hf⟩ := cells3 h1
  by_cases hw : why = 0
  · subst hw
    by_cases hp : p < bs.length
    · have e0 : ends bs p 0 = (11, p) := by simp [ends, hp]
      rw [e0]
      go_enter Tryd.func54, Tryd.ntmps54
      go_wp2_with fail
      refine (left_c _ H).mono ?_
      rintro e w1 ⟨rfl, hk1⟩
      have hL : (0 : Int) < ((lft bs p 0 : Nat) : Int) := by simp only [lft, if_true]; omega
      generalize lft bs p 0 = L at *
      obtain ⟨v', h1', h2', _⟩ := H.same hk1
      obtain ⟨c0', c1', c2', hf'⟩ := cells3 h1'
      go_wp2_with fail
      go_quiet (fail)
      go_wp2
      go_ret2
      exact ⟨rfl, hk1.drewN nq⟩
    · have e0 : ends bs p 0 = (0, 0) := by simp [ends, hp]
      rw [e0]
      go_enter Tryd.func54, Tryd.ntmps54
      go_wp2_with fail
      refine (left_c _ H).mono ?_
      rintro e w1 ⟨rfl, hk1⟩
      have hL : ¬ (0 : Int) < ((lft bs p 0 : Nat) : Int) := by simp only [lft, if_true]; omega
      generalize lft bs p 0 = L at *
      go_wp2
      go_ret2
      exact ⟨rfl, hk1⟩
  · have e0 : ends bs p why = (why, p) := by simp [ends, hw]
    rw [e0]
    have hw3 : (why != 0) = true := by simpa using hw
    have hw2 : (why == 0) = false := by simpa using hw
    go_enter Tryd.func54, Tryd.ntmps54
    go_wp2_with fail
    go_quiet (fail)
    go_wp2
    go_ret2
    exact ⟨rfl, (Keeps.refl _ _).drewN nq⟩

set_option maxHeartbeats 400000 in
theorem newReader_c (v : Value) (xs : List UInt8) (w : World) (hv : BSl w v xs) (hl : xs.length ≤ 140737488355328) :
    Calls Tryd.prog 50 #[v] w fun e w' => ∃ a g, e = .returned (.pointer (some ⟨a, 0, none⟩)) ∧ WR w' a g xs 0 0 ∧ w.heap.size ≤ a ∧ (∀ k, g = some k → w.heap.size ≤ k ∧ k < a) ∧ Below w.heap.size w w' := by
  go_enter Tryd.func50, Tryd.ntmps50
  go_wp2_with fail
  refine (clone_c v xs _ hv (by omega)).mono ?_
  rintro e w1 ⟨v1, rfl, ho1, hb1⟩
  obtain ⟨ao, cp, rfl⟩ := ownsRow_shape ho1
  have hs := hb1.size
  go_wp2
  go_ret
  refine ⟨w1.heap.size, (Value.slice ao xs.length cp).ownBlock, rfl, ⟨_, heap_alloc_new w1 _, (BSl.ofRow ho1).alloc _, rfl, fun e => ?_, by omega, hl⟩, hs, fun k hk => ho1.lt k hk, hb1.alloc hs _⟩
  have := (ho1.lt _ e).2
  omega
end
end Go.Proofs.YtookapglookphaaDoor
