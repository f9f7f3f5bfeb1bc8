/- The Reader's state in memory, and what refuse, Left and take do. -/
import Derived.Test.YtnigfnikajejaaaWrE
import Derived.Test.YtnigfnikajejaaaGoto
import Derived.Deep.QuietTactic
import Derived.BigQuiet
namespace Go.Proofs.Ytnigfnikajejaaa
open Go Go.RowKit

/-- The Reader at block a reads bs, lying in block g; it has read up to p; why it refused (0: it did not). -/
def WR (w : World) (a : Nat) (g : Option Nat) (bs : List UInt8) (p : Nat) (why : Int) : Prop :=
  ∃ v, w.heap[a]? = some (.cells #[v, .int .i64 p, .int .i64 why] 117 (0, 0)) ∧ BSl w v bs ∧ v.ownBlock = g ∧ g ≠ some a ∧ p ≤ bs.length ∧ bs.length ≤ 140737488355328

theorem WR.lt {w : World} {a : Nat} {g : Option Nat} {bs : List UInt8} {p : Nat} {why : Int} (h : WR w a g bs p why) : a < w.heap.size := by
  obtain ⟨v, h1, _⟩ := h
  exact lt_of_block h1
theorem WR.keep {S : Nat → Prop} {w w' : World} {a : Nat} {g : Option Nat} {bs : List UInt8} {p : Nat} {why : Int} (h : WR w a g bs p why) (hk : Keeps S w w') (ha : ¬ S a) (hg : ∀ k, g = some k → ¬ S k) : WR w' a g bs p why := by
  have hlt := h.lt
  obtain ⟨v, h1, h2, rfl, h4, h5⟩ := h
  exact ⟨v, (hk.block a hlt ha).trans h1, h2.keep hk hg, rfl, h4, h5⟩
theorem WR.same {w w' : World} {a : Nat} {g : Option Nat} {bs : List UInt8} {p : Nat} {why : Int} (h : WR w a g bs p why) (hk : Keeps (fun _ => False) w w') : WR w' a g bs p why := h.keep hk (fun h => h) (fun _ _ h => h)
theorem WR.fresh {w w' : World} {a : Nat} {g : Option Nat} {bs : List UInt8} {p : Nat} {why : Int} (h : WR w a g bs p why) (hb : Below w.heap.size w w') : WR w' a g bs p why := h.same (Keeps.ofFresh hb)

/-- A Reader's block, its fields' cells one by one. -/
theorem cells3 {w : World} {a : Nat} {t : TypeId} {v0 v1 v2 : Value} (h : w.heap[a]? = some (.cells #[v0, v1, v2] t (0, 0))) :
    w.cell? ⟨a, 0, none⟩ = some v0 ∧ w.cell? ⟨a, 1, none⟩ = some v1 ∧ w.cell? ⟨a, 2, none⟩ = some v2 ∧ ∀ j, w.frozen? ⟨a, j, none⟩ = false := by
  refine ⟨?_, ?_, ?_, fun j => by simp [World.frozen?, h]⟩ <;> simp [World.cell?, h]

theorem set3 {w : World} {a : Nat} {t : TypeId} {v0 v1 v2 : Value} (h : w.heap[a]? = some (.cells #[v0, v1, v2] t (0, 0))) (x y : Value) :
    ((w.setCell ⟨a, 2, none⟩ x).setCell ⟨a, 1, none⟩ y).heap[a]? = some (.cells #[v0, y, x] t (0, 0)) := by
  have hlt := lt_of_block h
  simp only [World.setCell, Array.getElem?_modify, if_true, h]
  simp
theorem set3p {w : World} {a : Nat} {t : TypeId} {v0 v1 v2 : Value} (h : w.heap[a]? = some (.cells #[v0, v1, v2] t (0, 0))) (y : Value) :
    (w.setCell ⟨a, 1, none⟩ y).heap[a]? = some (.cells #[v0, y, v2] t (0, 0)) := by
  simp only [World.setCell, Array.getElem?_modify, if_true, h]
  simp

set_option maxHeartbeats 400000 in
theorem refuse_c (y : Int) (q : Nat) (w : World) {a : Nat} {g : Option Nat} {bs : List UInt8} {p : Nat} (h : WR w a g bs p 0) (hq : q ≤ bs.length) :
    Calls Try.prog 92 #[.pointer (some ⟨a, 0, none⟩), .int .i64 y, .int .i64 q] w fun e w' => e = .returned (.tuple #[]) ∧ WR w' a g bs q y ∧ Keeps (fun k => k = a) w w' := by
  obtain ⟨v, h1, h2, rfl, h4, h5, h6⟩ := h
  obtain ⟨c0, c1, c2, hf⟩ := cells3 h1
  go_enter Try.func92, Try.ntmps92
  go_wp2
  go_end0
  have hk : Keeps (fun k => k = a) w ((w.setCell ⟨a, 2, none⟩ (.int .i64 y)).setCell ⟨a, 1, none⟩ (.int .i64 q)) := ((Keeps.refl (fun k => k = a) w).setCell (p := ⟨a, 2, none⟩) (.inl rfl) _).setCell (p := ⟨a, 1, none⟩) (.inl rfl) _
  exact ⟨rfl, ⟨v, set3 h1 _ _, h2.keep hk (fun k e hS => h4 (by rw [e, hS])), rfl, h4, hq, h6⟩, hk⟩

set_option maxHeartbeats 400000 in
theorem refuse_no (y : Int) (q : Int) (w : World) {a : Nat} {g : Option Nat} {bs : List UInt8} {p : Nat} {why : Int} (hw : why ≠ 0) (h : WR w a g bs p why) :
    Calls Try.prog 92 #[.pointer (some ⟨a, 0, none⟩), .int .i64 y, .int .i64 q] w fun e w' => e = .returned (.tuple #[]) ∧ w' = w := by
  obtain ⟨v, h1, h2, rfl, h4, h5, h6⟩ := h
  obtain ⟨c0, c1, c2, hf⟩ := cells3 h1
  have hw2 : (why == 0) = false := by simpa using hw
  go_enter Try.func92, Try.ntmps92
  go_wp2
  go_end0
  exact ⟨rfl, rfl⟩

theorem Keeps.drewN {S : Nat → Prop} {a w : World} (h : Keeps S a w) (n : Nat) : Keeps S a (w.drewN n) := ⟨h.os, h.tape, h.output, h.size, h.block⟩

/-- How many bytes may still be read. -/
def lft (bs : List UInt8) (p : Nat) (why : Int) : Nat := if why = 0 then bs.length - p else 0

set_option maxHeartbeats 400000 in
theorem left_c (w : World) {a : Nat} {g : Option Nat} {bs : List UInt8} {p : Nat} {why : Int} (h : WR w a g bs p why) :
    Calls Try.prog 71 #[.pointer (some ⟨a, 0, none⟩)] w fun e w' => e = .returned (.int .i64 (lft bs p why)) ∧ Keeps (fun _ => False) w w' := by
  obtain ⟨v, h1, h2, rfl, h4, h5, h6⟩ := h
  obtain ⟨ao, cap, rfl, _⟩ := id h2
  obtain ⟨c0, c1, c2, hf⟩ := cells3 h1
  by_cases hw : why = 0
  · subst hw
    have hp : (p : Int) ≤ (bs.length : Int) := by omega
    go_enter Try.func71, Try.ntmps71
    go_wp2
    go_quiet (fail)
    go_wp2
    go_ret
    have e : ((lft bs p 0 : Nat) : Int) = (bs.length : Int) - (p : Int) := by simp only [lft, if_true]; omega
    exact ⟨by rw [e]; rfl, (Keeps.refl _ _).drewN nq⟩
  · have hw2 : (why == 0) = false := by simpa using hw
    have hw3 : (why != 0) = true := by simpa using hw
    go_enter Try.func71, Try.ntmps71
    go_wp2
    go_ret
    exact ⟨by simp [lft, hw], Keeps.refl _ _⟩

/-- What take answers, and where the Reader stands behind it. -/
def tk (bs : List UInt8) (p : Nat) (why : Int) (n : Nat) : List UInt8 × Nat × Int :=
  if why = 0 then (if bs.length - p < n then ([], bs.length, 10) else ((bs.drop p).take n, p + n, 0)) else ([], p, why)

/-- What a Reader's call leaves: its state, and nothing else has turned. -/
structure Took (a : Nat) (g : Option Nat) (bs : List UInt8) (p : Nat) (why : Int) (w w' : World) : Prop where
  state : WR w' a g bs p why
  keeps : Keeps (fun k => k = a) w w'

def TakePost (a : Nat) (g : Option Nat) (bs : List UInt8) (r : List UInt8 × Nat × Int) (w : World) (e : Ending) (w' : World) : Prop :=
  ∃ v', e = .returned v' ∧ BSl w' v' r.1 ∧ (v'.ownBlock = none ∨ v'.ownBlock = g) ∧ Took a g bs r.2.1 r.2.2 w w'

theorem bsl_none (w : World) : BSl w (.slice none 0 0) [] := ⟨none, 0, rfl, by simp, by simp [maxLen], fun _ => ⟨rfl, rfl⟩, (fun ad e => by cases e)⟩

theorem ownBlock_any (ao : Option Addr) (n c n' c' : Nat) : (Value.slice ao n c).ownBlock = (Value.slice ao n' c').ownBlock := by
  cases ao <;> rfl

theorem ownBlock_cut (ao : Option Addr) (p n c n' c' : Nat) : (Value.slice (Option.map (fun x => x.add p) ao) n c).ownBlock = (Value.slice ao n' c').ownBlock := by
  cases ao with
  | none => rfl
  | some ad => simp [Value.ownBlock, Addr.add]; split <;> rfl

theorem BSl.cutNone {w w' : World} {ao : Option Addr} {cap : Nat} {bs : List UInt8} (_h : BSl w (.slice ao bs.length cap) bs) : BSl w' (.slice ao 0 0) [] :=
  ⟨ao, 0, rfl, by simp, by simp [maxLen], fun _ => ⟨rfl, rfl⟩, fun _ _ h => absurd rfl h⟩

theorem BSl.cut {w : World} {ao : Option Addr} {cap p n : Nat} {bs : List UInt8} (h : BSl w (.slice ao bs.length cap) bs) (hl : n ≤ bs.length - p) (hcap : p < cap) : BSl w (.slice (Option.map (fun x => x.add p) ao) n (cap - p)) ((bs.drop p).take n) := by
  obtain ⟨ao, cap, e, h1, h2, h3, hc⟩ := h
  cases e
  have hlen : ((bs.drop p).take n).length = n := by simp; omega
  refine ⟨_, _, by rw [hlen], by rw [hlen]; omega, by omega, ?_, ?_⟩
  · intro hn
    cases ao with
    | none => have := (h3 rfl).2; omega
    | some ad => cases hn
  · intro ad had hne
    cases ao with
    | none => cases had
    | some ad0 =>
      have hne0 : bs ≠ [] := by rintro rfl; simp at hne
      obtain ⟨b, off, rfl, hcell⟩ := hc ad0 rfl hne0
      rw [Option.map_some, add_lit'] at had
      cases had
      refine ⟨b, off + p, rfl, fun j u hu => ?_⟩
      rw [Nat.add_assoc]
      refine hcell _ u ?_
      have hj : j < n := by have := (List.getElem?_eq_some_iff.1 hu).1; rw [bcells_length, hlen] at this; exact this
      simp only [bcells, List.getElem?_map, List.getElem?_take, hj, if_true, List.getElem?_drop] at hu ⊢
      exact hu

set_option maxHeartbeats 800000 in
set_option maxRecDepth 100000 in
theorem take_no (n : Int) (w : World) {a : Nat} {g : Option Nat} {bs : List UInt8} {p : Nat} {why : Int} (h : WR w a g bs p why) (hw : why ≠ 0) :
    Calls Try.prog 82 #[.pointer (some ⟨a, 0, none⟩), .int .u64 n] w fun e w' => TakePost a g bs ([], p, why) w e w' := by
  have H := h
  obtain ⟨v, h1, h2, rfl, h4, h5, h6⟩ := h
  obtain ⟨c0, c1, c2, hf⟩ := cells3 h1
  have hw3 : (why != 0) = true := by simpa using hw
  have hw2 : (why == 0) = false := by simpa using hw
  go_enter Try.func82, Try.ntmps82
  go_wp2
  refine scope_forward 2 ?_
  go_wp2
  go_step3
  refine .inr ⟨_, rfl, ?_⟩
  go_wp2
  simp only [hops]
  go_ret
  exact ⟨_, rfl, bsl_none _, .inl rfl, H, Keeps.refl _ _⟩

set_option maxHeartbeats 800000 in
set_option maxRecDepth 100000 in
theorem take_end (n : Int) (hn0 : 0 ≤ n) (hn1 : n < 18446744073709551616) (w : World) {a : Nat} {g : Option Nat} {bs : List UInt8} {p : Nat} (h : WR w a g bs p 0) (hl : ((bs.length - p : Nat) : Int) < n) :
    Calls Try.prog 82 #[.pointer (some ⟨a, 0, none⟩), .int .u64 n] w fun e w' => TakePost a g bs ([], bs.length, 10) w e w' := by
  have H := h
  obtain ⟨v, h1, h2, rfl, h4, h5, h6⟩ := h
  obtain ⟨ao, cap, rfl, _⟩ := id h2
  obtain ⟨c0, c1, c2, hf⟩ := cells3 h1
  go_enter Try.func82, Try.ntmps82
  go_wp2
  refine scope_forward 2 ?_
  go_wp2_with fail
  refine (left_c _ H).mono ?_
  rintro e w1 ⟨rfl, hk1⟩
  have H1 := H.same hk1
  have e1 : ((lft bs p 0 : Nat) : Int) = ((bs.length - p : Nat) : Int) := by simp [lft]
  rw [e1]
  generalize hL : ((bs.length - p : Nat) : Int) = L at hl ⊢
  have hL0 : 0 ≤ L := by omega
  have hL1 : L ≤ 140737488355328 := by omega
  clear e1 hL
  obtain ⟨v', h1', h2', h3', _⟩ := id H1
  clear c0 c1 c2 hf h1
  obtain ⟨c0, c1, c2, hf⟩ := cells3 h1'
  obtain ⟨ao', cap', rfl, _⟩ := id h2'
  go_wp2
  go_step3
  refine .inr ⟨_, rfl, ?_⟩
  go_wp2_with fail
  refine (refuse_c _ _ _ H1 (Nat.le_refl _)).mono ?_
  rintro e w2 ⟨rfl, hw2, hk2⟩
  go_wp2
  go_step3
  go_wp2
  simp only [hops]
  go_ret
  exact ⟨_, rfl, bsl_none _, .inl rfl, hw2, (hk1.mono fun _ _ h => h.elim).trans hk2⟩

set_option maxHeartbeats 800000 in
set_option maxRecDepth 100000 in
theorem take_yes (n : Nat) (w : World) {a : Nat} {g : Option Nat} {bs : List UInt8} {p : Nat} (h : WR w a g bs p 0) (hl : n ≤ bs.length - p) :
    Calls Try.prog 82 #[.pointer (some ⟨a, 0, none⟩), .int .u64 n] w fun e w' => TakePost a g bs ((bs.drop p).take n, p + n, 0) w e w' := by
  have H := h
  obtain ⟨v, h1, h2, rfl, h4, h5, h6⟩ := h
  obtain ⟨ao, cap, rfl, hcp, hcm, _⟩ := id h2
  obtain ⟨c0, c1, c2, hf⟩ := cells3 h1
  unfold maxLen at hcm
  go_enter Try.func82, Try.ntmps82
  go_wp2
  refine scope_forward 2 ?_
  go_wp2_with fail
  refine (left_c _ H).mono ?_
  rintro e w1 ⟨rfl, hk1⟩
  have H1 := H.same hk1
  have e1 : ((lft bs p 0 : Nat) : Int) = ((bs.length - p : Nat) : Int) := by simp [lft]
  rw [e1]
  generalize hL : ((bs.length - p : Nat) : Int) = L
  have hL0 : 0 ≤ L := by omega
  have hL1 : L ≤ 140737488355328 := by omega
  have hL2 : (n : Int) ≤ L := by omega
  clear e1 hL
  have h1' : w1.heap[a]? = some (.cells #[.slice ao bs.length cap, .int .i64 p, .int .i64 0] 117 (0, 0)) := (hk1.block a (lt_of_block h1) (fun h => h)).trans h1
  clear c0 c1 c2 hf
  obtain ⟨c0, c1, c2, hf⟩ := cells3 h1'
  have hi0 : (0 : Int) ≤ (p : Int) := Int.natCast_nonneg _
  have hi1 : (p : Int) ≤ (p : Int) + (n : Int) := by omega
  have hi2 : (p : Int) + (n : Int) ≤ (cap : Int) := by omega
  go_wp2
  have h2c : (w1.setCell ⟨a, 1, none⟩ (.int .i64 ((p : Int) + (n : Int)))).heap[a]? = some (.cells #[.slice ao bs.length cap, .int .i64 ((p : Int) + (n : Int)), .int .i64 0] 117 (0, 0)) := set3p h1' _
  clear c0 c1 c2 hf
  obtain ⟨c0, c1, c2, hf⟩ := cells3 h2c
  have hk2 : Keeps (fun k => k = a) w (w1.setCell ⟨a, 1, none⟩ (.int .i64 ((p : Int) + (n : Int)))) := Keeps.setCell (S := fun k => k = a) (p := ⟨a, 1, none⟩) (hk1.mono fun _ _ h => h.elim) (.inl rfl) _
  have HB2 : Hid (BSl (w1.setCell ⟨a, 1, none⟩ (.int .i64 ((p : Int) + (n : Int)))) (.slice ao bs.length cap) bs) := h2.keep hk2 (fun k e hS => h4 (by rw [e, hS]))
  have HB : Hid (BSl w (.slice ao bs.length cap) bs) := h2
  have HK : Hid (Keeps (fun k => k = a) w (w1.setCell ⟨a, 1, none⟩ (.int .i64 ((p : Int) + (n : Int))))) := hk2
  clear hk2 h2 H H1 hk1 h1 h1'
  generalize w1.setCell ⟨a, 1, none⟩ (.int .i64 ((p : Int) + (n : Int))) = w2 at *
  go_quiet (fail)
  go_wp2
  all_goals simp only [hops]
  all_goals go_ret
  · rename_i hcap
    have hn0 : n = 0 := by omega
    have e : (bs.drop p).take n = [] := by rw [hn0]; rfl
    refine ⟨_, rfl, by rw [e, hn0]; exact BSl.cutNone HB.out, .inr (ownBlock_any _ _ _ _ _), ⟨_, h2c, HB2.out, rfl, h4, by show p + n ≤ _; omega, h6⟩, HK.out.drewN nq⟩
  · rename_i hcap
    refine ⟨_, rfl, HB2.out.cut (by omega) (by omega), .inr (ownBlock_cut _ _ _ _ _ _), ⟨_, h2c, HB2.out, rfl, h4, by show p + n ≤ _; omega, h6⟩, HK.out.drewN nq⟩

end Go.Proofs.Ytnigfnikajejaaa
