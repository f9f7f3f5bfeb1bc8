/- What New, User and Dead do; a Gate that lives has tries left. -/
import Derived.Test.YtpildjijaigmfaaAuI
namespace Go.Proofs.Ytpildjijaigmfaa
open Go Go.RowKit

def newG : GS := ⟨0, ⟨#[]⟩, 0, false⟩

set_option maxHeartbeats 800000 in
theorem New_c (v : Value) (U : List Usr) (w : World) (hv : USl w v U) (hU : UB U) :
    Calls Try.prog 15 #[v] w fun e w' => ∃ a, e = .returned (.pointer (some ⟨a, 0, none⟩)) ∧ GW w' a U newG ∧ w.heap.size ≤ a ∧ Below w.heap.size w w' := by
  have HC := hidden (cloneU_c v U w hv (by have := hU.few; omega))
  obtain ⟨ao, cap, rfl, _⟩ := id hv
  clear hv
  generalize U.length = n at *
  go_enter Try.func15, Try.ntmps15
  go_wp2_with fail
  refine HC.out.mono ?_
  rintro e w1 ⟨v1, rfl, ho1, hb1⟩
  obtain ⟨a1, c1, rfl⟩ := ownsRow_shape ho1
  have hs := hb1.size
  have HO := hidden ho1
  have HB := hidden hb1
  clear ho1 hb1 HC
  go_wp2_with fail
  go_ret
  exact ⟨w1.heap.size, rfl, ⟨_, heap_alloc_new w1 _, (USl.ofRow HO.out).still ((Keeps.refl _ _).alloc _), fun k e => (HO.out.lt k e).2, by show 0 ≤ 2; omega, by show 0 ≤ 5; omega⟩, hs, HB.out.alloc hs _⟩

set_option maxHeartbeats 400000 in
theorem User_c (w : World) {a : Nat} {U : List Usr} {s : GS} (h : GW w a U s) :
    Calls Try.prog 18 #[.pointer (some ⟨a, 0, none⟩)] w fun e w' => e = .returned (.tuple #[.string s.nm, .bool ((s.st : Int) == 2)]) ∧ Keeps (fun _ => False) w w' := by
  obtain ⟨v, h1, h2, h3, h4, h5⟩ := h
  obtain ⟨c0, c1, c2, c3, c4, hf⟩ := cells5 h1
  clear h1 h2 h3 h4 h5
  go_enter Try.func18, Try.ntmps18
  go_wp2_with fail
  go_quiet (fail)
  go_wp2_with fail
  go_ret2
  exact ⟨rfl, (Keeps.refl _ _).drewN nq⟩

set_option maxHeartbeats 400000 in
theorem Dead_c (w : World) {a : Nat} {U : List Usr} {s : GS} (h : GW w a U s) :
    Calls Try.prog 19 #[.pointer (some ⟨a, 0, none⟩)] w fun e w' => e = .returned (.bool s.gone) ∧ w' = w := by
  obtain ⟨v, h1, h2, h3, h4, h5⟩ := h
  obtain ⟨c0, c1, c2, c3, c4, hf⟩ := cells5 h1
  clear h1 h2 h3 h4 h5
  go_enter Try.func19, Try.ntmps19
  go_wp2_with fail
  go_ret
  exact ⟨rfl, rfl⟩

/-- A Gate that lives has tries left. -/
def Alive (s : GS) : Prop := s.gone = false → s.tr ≤ 4
theorem alive_new : Alive newG := fun _ => by show 0 ≤ 4; omega
theorem alive_end (s : GS) (r : Nat) : Alive (endO s r).1 := fun h => by cases h
theorem alive_try {s : GS} (h : s.tr ≤ 4) : Alive (tryO s).1 := by
  unfold tryO
  split
  · exact fun h => by cases h
  · intro _
    show s.tr + 1 ≤ 4
    omega
theorem alive_do {U : List Usr} {s : GS} (h : Alive s) (bs : List UInt8) : Alive (doO U s bs).1 := by
  cases bs with
  | nil => exact h
  | cons x r =>
    unfold doO
    dsimp only
    split
    · exact h
    · rename_i hg
      have ht : s.tr ≤ 4 := h (by simpa using hg)
      split
      · exact fun e => by cases e
      · split
        · exact h
        · unfold stepO servO loginO logO lateO
          repeat' split
          all_goals first | exact alive_end _ _ | exact alive_try ht | exact h | exact fun _ => ht

end Go.Proofs.Ytpildjijaigmfaa
