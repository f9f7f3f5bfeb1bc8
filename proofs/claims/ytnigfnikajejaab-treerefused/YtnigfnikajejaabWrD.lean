/- What Mpint, Clone and Done do. -/
import Derived.Test.YtnigfnikajejaabWrC
import Derived.Lib.SliceRun
namespace Go.Proofs.Ytnigfnikajejaab
open Go Go.RowKit

/-- A number's bytes without noughts ahead. -/
def bare : List UInt8 → List UInt8
  | [] => []
  | x :: xs => if x = 0 then bare xs else x :: xs
theorem bare_le (xs : List UInt8) : (bare xs).length ≤ xs.length := by
  induction xs with
  | nil => simp [bare]
  | cons x xs ih => unfold bare; split <;> simp; omega
theorem bare_fix (x : UInt8) (xs : List UInt8) (h : x ≠ 0) : bare (x :: xs) = x :: xs := by simp [bare, h]

/-- What Mpint writes. -/
def mpBytes (xs : List UInt8) : List UInt8 :=
  match bare xs with
  | [] => be 4 0
  | x :: r => if 128 ≤ x.toNat then be 4 (r.length + 2) ++ 0 :: x :: r else be 4 (r.length + 1) ++ x :: r

theorem BSl.head {w : World} {b off cap : Nat} {x : UInt8} {xs : List UInt8} (h : BSl w (.slice (some ⟨b, off, none⟩) (x :: xs).length cap) (x :: xs)) : w.cell? ⟨b, off, none⟩ = some (.int .u8 x.toNat) := by
  obtain ⟨ao, cap, e, h1, h2, h3, hc⟩ := h
  cases e
  obtain ⟨b', off', e, hcell⟩ := hc _ rfl (by simp)
  cases e
  simpa using hcell 0 (.int .u8 x.toNat) rfl

theorem BSl.tail {w : World} {b off cap : Nat} {x : UInt8} {xs : List UInt8} (h : BSl w (.slice (some ⟨b, off, none⟩) (x :: xs).length cap) (x :: xs)) :
    BSl w (.slice (if cap = 1 then some ⟨b, off, none⟩ else some ⟨b, off + 1, none⟩) xs.length (cap - 1)) xs ∧ (Value.slice (if cap = 1 then some ⟨b, off, none⟩ else some ⟨b, off + 1, none⟩) xs.length (cap - 1)).ownBlock = some b := by
  obtain ⟨ao, cap, e, h1, h2, h3, hc⟩ := h
  cases e
  obtain ⟨b', off', e, hcell⟩ := hc _ rfl (by simp)
  cases e
  simp only [List.length_cons] at h1
  by_cases h4 : cap = 1
  · have hx : xs = [] := List.eq_nil_of_length_eq_zero (by omega)
    subst hx
    simp only [h4, if_true]
    exact ⟨⟨_, _, rfl, by simp, by simp [maxLen], (fun e => by cases e), fun ad e hx => absurd rfl hx⟩, rfl⟩
  · simp only [h4, if_false]
    refine ⟨⟨_, _, rfl, by omega, by omega, (fun e => by cases e), fun ad e _ => ⟨b, off + 1, by cases e; rfl, fun j u hu => ?_⟩⟩, rfl⟩
    have := hcell (j + 1) u (by simpa [bcells] using hu)
    rw [show off + 1 + j = off + (j + 1) from by omega]
    exact this

/-- A slice of bytes has an address where it has an element. -/
theorem BSl.cons {w : World} {v : Value} {x : UInt8} {xs : List UInt8} (h : BSl w v (x :: xs)) : ∃ b off cap, v = .slice (some ⟨b, off, none⟩) (x :: xs).length cap ∧ (x :: xs).length ≤ cap ∧ cap ≤ maxLen ∧ v.ownBlock = some b := by
  obtain ⟨ao, cap, rfl, h1, h2, h3, hc⟩ := h
  cases ao with
  | none => have := (h3 rfl).1; cases this
  | some ad => obtain ⟨b, off, rfl, _⟩ := hc ad rfl (by simp); exact ⟨b, off, cap, rfl, h1, h2, rfl⟩
theorem BSl.nil {w : World} {v : Value} (h : BSl w v []) : ∃ ao cap, v = .slice ao 0 cap := by
  obtain ⟨ao, cap, rfl, _⟩ := h
  exact ⟨ao, cap, rfl⟩

/-- A slice that a Writer does not own stays behind what it writes. -/
theorem BSl.wrote {w w' : World} {v : Value} {xs : List UInt8} {a : Nat} {g g' : Option Nat} (h : BSl w v xs) (hw : Wrote a g g' w w') (hap : v.ownBlock ≠ some a ∧ ∀ k, g = some k → v.ownBlock ≠ some k) : BSl w' v xs :=
  h.keep hw.keeps fun k hk hS => hS.elim (fun e => hap.1 (by rw [hk, e])) (fun e => hap.2 k e hk)
theorem BSl.blockLt {w : World} {v : Value} {x : UInt8} {xs : List UInt8} (h : BSl w v (x :: xs)) : ∀ k, v.ownBlock = some k → k < w.heap.size := by
  obtain ⟨b, off, cap, rfl, _, _, hb⟩ := h.cons
  intro k hk
  rw [hb] at hk
  cases hk
  exact World.block_lt_of_cell? _ _ h.head

theorem eqlNil : ∀ (w : World) (a : Option Addr) (n c n' c' : Nat), (binOp .eql 28 (.slice a n c) (.slice none n' c')).run Try.prog w = .ok (.bool a.isNone) w := fun w a n c n' c' => Lib.run_eql_slice_nil w _ _ a n c n' c' Try.underlying28

theorem BSl.alloc {w : World} {v : Value} {xs : List UInt8} (h : BSl w v xs) (o : Obj) : BSl (w.alloc o) v xs := h.keep (S := fun _ => False) ((Keeps.refl _ _).alloc o) fun _ _ h => h

theorem apart_next {w w' : World} {v : Value} {a : Nat} {g g' : Option Nat} (hap : v.ownBlock ≠ some a ∧ ∀ k, g = some k → v.ownBlock ≠ some k) (hw : Wrote a g g' w w') (hlt : ∀ k, v.ownBlock = some k → k < w.heap.size) :
    v.ownBlock ≠ some a ∧ ∀ k, g' = some k → v.ownBlock ≠ some k := by
  refine ⟨hap.1, fun k hk e => ?_⟩
  rcases hw.row with rfl | ⟨k', rfl, hk'⟩
  · exact hap.2 k hk e
  · cases hk
    have := hlt k e
    omega


set_option maxHeartbeats 400000 in
set_option maxRecDepth 100000 in
theorem clone_c (v : Value) (xs : List UInt8) (w : World) (hv : BSl w v xs) (hl : xs.length ≤ 140737488355328) :
    Calls Try.prog 44 #[v] w fun e w' => ∃ v', e = .returned v' ∧ w'.ownsRow w.heap.size 5 1 v' xs.length (bcells xs) ∧ Below w.heap.size w w' := by
  obtain ⟨i0, hi, hz0, hz1, hz2⟩ := info_parts Try.infoU8
  have q := eqlNil
  have hsrc := (hv.alloc (.cells #[] 5)).src
  obtain ⟨ao, cap, rfl, h1, h2, h3, _⟩ := hv
  cases ao with
  | none =>
    obtain ⟨rfl, rfl⟩ := h3 rfl
    go_enter Try.func44, Try.ntmps44
    go_wp2
    go_ret
    exact ⟨_, rfl, World.ownsRow_nil _ _ _ _, Below.refl _ _⟩
  | some ad =>
    clear h3
    go_enter Try.func44, Try.ntmps44
    go_wp2_with (at_builtin; refine wpList_append_src _ rfl (.tmp 5) (.tmp 6) 28 28 rfl w.heap.size 5 i0 _ 1 Try.underlying28 hi hz0 hz1 hz2 rfl _ _ _ rfl (World.ownsRow_made w #[] 0 (Nat.le_refl _) (Nat.zero_le _) rfl) _ xs.length (bcells xs) rfl hsrc (by unfold maxLen; omega) (by omega) (by simp) (w.heap.size + 1) (by simp) ?_)
    intro v' w1 hown hgrow hnil hat
    go_wp2
    go_ret
    exact ⟨v', rfl, by simpa using hown, ((Below.refl _ w).alloc (Nat.le_refl _) _).grown hgrow (by simp) (by intro k hk; simp [Value.ownBlock] at hk; omega)⟩

set_option maxHeartbeats 400000 in
theorem done_c (w : World) {base a : Nat} {g : Option Nat} {bs : List UInt8} (h : WS w base a g bs) (hl : bs.length ≤ 140737488355328) :
    Calls Try.prog 35 #[.pointer (some ⟨a, 0, none⟩)] w fun e w' => ∃ v', e = .returned v' ∧ w'.ownsRow w.heap.size 5 1 v' bs.length (bcells bs) ∧ Below w.heap.size w w' := by
  obtain ⟨u, ha, hown, rfl, hne, hba⟩ := h
  have hc := cell_of_one ha
  go_enter Try.func35, Try.ntmps35
  go_wp2_with fail
  refine (clone_c _ bs _ (BSl.ofRow hown) hl).mono ?_
  rintro e w' ⟨v', rfl, h1, h2⟩
  obtain ⟨ao, cp, rfl⟩ := ownsRow_shape h1
  go_wp2
  go_ret
  exact ⟨_, rfl, h1, h2⟩

end Go.Proofs.Ytnigfnikajejaab
