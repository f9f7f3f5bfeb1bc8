/- What the Reader's Rest, Fail, End, NewReader and Mpint do. -/
import Derived.Test.YtnigfnikajejaaaRdC
namespace Go.Proofs.Ytnigfnikajejaaa
open Go Go.RowKit

set_option maxHeartbeats 400000 in
theorem fail_r (y : Int) (w : World) {a : Nat} {g : Option Nat} {bs : List UInt8} {p : Nat} {why : Int} (h : WR w a g bs p why) :
    Calls Try.prog 84 #[.pointer (some ⟨a, 0, none⟩), .int .i64 y] w fun e w' => e = .returned (.tuple #[]) ∧ Took a g bs p (if why = 0 then y else why) w w' := by
  have H := h
  obtain ⟨v, h1, h2, rfl, h4, h5, h6⟩ := h
  obtain ⟨c0, c1, c2, hf⟩ := cells3 h1
  by_cases hw : why = 0
  · subst hw
    go_enter Try.func84, Try.ntmps84
    go_wp2_with fail
    refine (refuse_c y p _ H h5).mono ?_
    rintro e w1 ⟨rfl, hst, hk⟩
    go_wp2
    go_end0
    exact ⟨rfl, hst, hk⟩
  · go_enter Try.func84, Try.ntmps84
    go_wp2_with fail
    refine (refuse_no y p _ hw H).mono ?_
    rintro e w1 ⟨rfl, rfl⟩
    go_wp2
    go_end0
    exact ⟨rfl, H, Keeps.refl _ _⟩

/-- What End tells. -/
def ends (bs : List UInt8) (p : Nat) (why : Int) : Int × Nat := if why = 0 then (if p < bs.length then (11, p) else (0, 0)) else (why, p)

set_option maxHeartbeats 800000 in
theorem end_r (w : World) {a : Nat} {g : Option Nat} {bs : List UInt8} {p : Nat} {why : Int} (h : WR w a g bs p why) :
    Calls Try.prog 49 #[.pointer (some ⟨a, 0, none⟩)] w fun e w' => e = .returned (.tuple #[.int .i64 (ends bs p why).1, .int .i64 (ends bs p why).2]) ∧ Keeps (fun _ => False) w w' := by
  have H := h
  obtain ⟨v, h1, h2, rfl, h4, h5, h6⟩ := h
  obtain ⟨c0, c1, c2, hf⟩ := cells3 h1
  by_cases hw : why = 0
  · subst hw
    by_cases hp : p < bs.length
    · have e0 : ends bs p 0 = (11, p) := by simp [ends, hp]
      rw [e0]
      go_enter Try.func49, Try.ntmps49
      go_wp2_with fail
      refine (left_c _ H).mono ?_
      rintro e w1 ⟨rfl, hk1⟩
      have hL : (0 : Int) < ((lft bs p 0 : Nat) : Int) := by simp only [lft, if_true]; omega
      generalize lft bs p 0 = L at *
      obtain ⟨v', h1', h2', _⟩ := H.same hk1
      obtain ⟨c0', c1', c2', hf'⟩ := cells3 h1'
      go_wp2_with fail
      go_quiet (fail)
      go_wp2
      go_ret2
      exact ⟨rfl, hk1.drewN nq⟩
    · have e0 : ends bs p 0 = (0, 0) := by simp [ends, hp]
      rw [e0]
      go_enter Try.func49, Try.ntmps49
      go_wp2_with fail
      refine (left_c _ H).mono ?_
      rintro e w1 ⟨rfl, hk1⟩
      have hL : ¬ (0 : Int) < ((lft bs p 0 : Nat) : Int) := by simp only [lft, if_true]; omega
      generalize lft bs p 0 = L at *
      go_wp2
      go_ret2
      exact ⟨rfl, hk1⟩
  · have e0 : ends bs p why = (why, p) := by simp [ends, hw]
    rw [e0]
    have hw3 : (why != 0) = true := by simpa using hw
    have hw2 : (why == 0) = false := by simpa using hw
    go_enter Try.func49, Try.ntmps49
    go_wp2_with fail
    go_quiet (fail)
    go_wp2
    go_ret2
    exact ⟨rfl, (Keeps.refl _ _).drewN nq⟩

set_option maxHeartbeats 400000 in
theorem newReader_c (v : Value) (xs : List UInt8) (w : World) (hv : BSl w v xs) (hl : xs.length ≤ 140737488355328) :
    Calls Try.prog 45 #[v] w fun e w' => ∃ a g, e = .returned (.pointer (some ⟨a, 0, none⟩)) ∧ WR w' a g xs 0 0 ∧ w.heap.size ≤ a ∧ (∀ k, g = some k → w.heap.size ≤ k) ∧ Below w.heap.size w w' := by
  go_enter Try.func45, Try.ntmps45
  go_wp2_with fail
  refine (clone_c v xs _ hv (by omega)).mono ?_
  rintro e w1 ⟨v1, rfl, ho1, hb1⟩
  obtain ⟨ao, cp, rfl⟩ := ownsRow_shape ho1
  have hs := hb1.size
  go_wp2
  go_ret
  refine ⟨w1.heap.size, (Value.slice ao xs.length cp).ownBlock, rfl, ⟨_, heap_alloc_new w1 _, (BSl.ofRow ho1).alloc _, rfl, fun e => ?_, by omega, hl⟩, hs, fun k hk => (ho1.lt k hk).1, hb1.alloc hs _⟩
  have := (ho1.lt _ e).2
  omega

end Go.Proofs.Ytnigfnikajejaaa
