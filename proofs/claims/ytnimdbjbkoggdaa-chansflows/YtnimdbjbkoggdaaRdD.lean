/- What the Reader's Rest, Fail, End, NewReader and Mpint do. -/
import Derived.Test.YtnimdbjbkoggdaaRdC
namespace Go.Proofs.Ytnimdbjbkoggdaa
open Go Go.RowKit

set_option maxHeartbeats 400000 in
theorem rest_r (w : World) {a : Nat} {g : Option Nat} {bs : List UInt8} {p : Nat} {why : Int} (h : WR w a g bs p why) :
    Calls Try.prog 67 #[.pointer (some ⟨a, 0, none⟩)] w fun e w' => RawPost a g bs (tk bs p why (lft bs p why)) (tk bs p why (lft bs p why)).1 w e w' := by
  have hl : lft bs p why ≤ 140737488355328 := by
    obtain ⟨_, _, _, _, _, _, h6⟩ := h
    unfold lft; split <;> omega
  have HL : Hid (Calls _ _ _ _ _) := left_c w h
  generalize lft bs p why = n at *
  go_enter Try.func67, Try.ntmps67
  go_wp2_with fail
  refine HL.out.mono ?_
  rintro e w1 ⟨rfl, hk1⟩
  have HR : Hid (Calls _ _ _ _ _) := raw_r n (by omega) (by omega) w1 (h.same hk1)
  rw [Int.toNat_natCast] at HR
  go_wp2_with fail
  refine HR.out.mono ?_
  rintro e w2 ⟨v2, rfl, hb2, ho2, ht2⟩
  have R : RawPost a g bs (tk bs p why n) (tk bs p why n).1 w (.returned v2) w2 := ⟨v2, rfl, hb2, fun k hk => Nat.le_trans hk1.size (ho2 k hk), ht2.state, (hk1.mono fun _ _ h => h.elim).trans ht2.keeps⟩
  have HR2 : Hid (RawPost a g bs (tk bs p why n) (tk bs p why n).1 w (.returned v2) w2) := R
  clear R hb2 ho2 ht2 HR hk1 h
  go_wp2
  go_ret
  exact HR2.out


/-- What End tells. -/
def ends (bs : List UInt8) (p : Nat) (why : Int) : Int × Nat := if why = 0 then (if p < bs.length then (11, p) else (0, 0)) else (why, p)

set_option maxHeartbeats 800000 in
theorem end_r (w : World) {a : Nat} {g : Option Nat} {bs : List UInt8} {p : Nat} {why : Int} (h : WR w a g bs p why) :
    Calls Try.prog 80 #[.pointer (some ⟨a, 0, none⟩)] w fun e w' => e = .returned (.tuple #[.int .i64 (ends bs p why).1, .int .i64 (ends bs p why).2]) ∧ Keeps (fun _ => False) w w' := by
  have H := h
  obtain ⟨v, h1, h2, rfl, h4, h5, h6⟩ := h
  obtain ⟨c0, c1, c2, hf⟩ := cells3 h1
  by_cases hw : why = 0
  · subst hw
    by_cases hp : p < bs.length
    · have e0 : ends bs p 0 = (11, p) := by simp [ends, hp]
      rw [e0]
      go_enter Try.func80, Try.ntmps80
      go_wp2_with fail
      refine (left_c _ H).mono ?_
      rintro e w1 ⟨rfl, hk1⟩
      have hL : (0 : Int) < ((lft bs p 0 : Nat) : Int) := by simp only [lft, if_true]; omega
      generalize lft bs p 0 = L at *
      obtain ⟨v', h1', h2', _⟩ := H.same hk1
      obtain ⟨c0', c1', c2', hf'⟩ := cells3 h1'
      go_wp2_with fail
      go_quiet (fail)
      go_wp2
      go_ret2
      exact ⟨rfl, hk1.drewN nq⟩
    · have e0 : ends bs p 0 = (0, 0) := by simp [ends, hp]
      rw [e0]
      go_enter Try.func80, Try.ntmps80
      go_wp2_with fail
      refine (left_c _ H).mono ?_
      rintro e w1 ⟨rfl, hk1⟩
      have hL : ¬ (0 : Int) < ((lft bs p 0 : Nat) : Int) := by simp only [lft, if_true]; omega
      generalize lft bs p 0 = L at *
      go_wp2
      go_ret2
      exact ⟨rfl, hk1⟩
  · have e0 : ends bs p why = (why, p) := by simp [ends, hw]
    rw [e0]
    have hw3 : (why != 0) = true := by simpa using hw
    have hw2 : (why == 0) = false := by simpa using hw
    go_enter Try.func80, Try.ntmps80
    go_wp2_with fail
    go_quiet (fail)
    go_wp2
    go_ret2
    exact ⟨rfl, (Keeps.refl _ _).drewN nq⟩

set_option maxHeartbeats 400000 in
theorem newReader_c (v : Value) (xs : List UInt8) (w : World) (hv : BSl w v xs) (hl : xs.length ≤ 140737488355328) :
    Calls Try.prog 23 #[v] w fun e w' => ∃ a g, e = .returned (.pointer (some ⟨a, 0, none⟩)) ∧ WR w' a g xs 0 0 ∧ w.heap.size ≤ a ∧ (∀ k, g = some k → w.heap.size ≤ k) ∧ Below w.heap.size w w' := by
  go_enter Try.func23, Try.ntmps23
  go_wp2_with fail
  refine (clone_c v xs _ hv (by omega)).mono ?_
  rintro e w1 ⟨v1, rfl, ho1, hb1⟩
  obtain ⟨ao, cp, rfl⟩ := ownsRow_shape ho1
  have hs := hb1.size
  go_wp2
  go_ret
  refine ⟨w1.heap.size, (Value.slice ao xs.length cp).ownBlock, rfl, ⟨_, heap_alloc_new w1 _, (BSl.ofRow ho1).alloc _, rfl, fun e => ?_, by omega, hl⟩, hs, fun k hk => (ho1.lt k hk).1, hb1.alloc hs _⟩
  have := (ho1.lt _ e).2
  omega

end Go.Proofs.Ytnimdbjbkoggdaa
