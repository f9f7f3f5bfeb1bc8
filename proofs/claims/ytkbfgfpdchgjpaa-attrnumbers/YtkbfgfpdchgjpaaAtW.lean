/- Within, as a number. -/
import Derived.Test.YtkbfgfpdchgjpaaKpW
namespace Go.Proofs.Ytkbfgfpdchgjpaa
open Go Go.RowKit

/-- What Within answers. -/
def win (n : Int) (h : Nat) : Nat := if n.tmod ((h : Int) + 1) < 0 then (n.tmod ((h : Int) + 1) + h + 1).toNat else (n.tmod ((h : Int) + 1)).toNat
theorem win_le (n : Int) (h : Nat) : win n h ≤ h := by
  have hr1 : n.tmod ((h : Int) + 1) ≤ h := by
    have := Int.tmod_lt_of_pos n (show (0 : Int) < (h : Int) + 1 by omega); omega
  unfold win
  split <;> omega
set_option maxHeartbeats 400000 in
theorem within_f (n : Int) (h : Nat) (hh : h ≤ 1000000000) (w : World) :
    Calls Try.prog 16 #[.int .i64 n, .int .i64 0, .int .i64 h] w fun e w' => e = .returned (.int .i64 (win n h : Nat)) ∧ w' = w := by
  have hr0 : -(h : Int) ≤ n.tmod ((h : Int) + 1) := by
    by_cases hn : 0 ≤ n
    · have := Int.tmod_nonneg ((h : Int) + 1) hn; omega
    · have h1 := Int.lt_tmod_of_pos n (show (0 : Int) < (h : Int) + 1 by omega); omega
  have hr1 : n.tmod ((h : Int) + 1) ≤ h := by
    have := Int.tmod_lt_of_pos n (show (0 : Int) < (h : Int) + 1 by omega); omega
  have hw : (n.tmod ((h : Int) + 1) < 0 → ((win n h : Nat) : Int) = n.tmod ((h : Int) + 1) + h + 1) ∧ (¬ n.tmod ((h : Int) + 1) < 0 → ((win n h : Nat) : Int) = n.tmod ((h : Int) + 1)) := by
    unfold win
    constructor
    · intro hq; rw [if_pos hq]; omega
    · intro hq; rw [if_neg hq]; omega
  have HW := hidden hw
  clear hw
  generalize win n h = k at HW ⊢
  go_enter Try.func16, Try.ntmps16
  go_wp2
  · go_ret
    refine ⟨?_, rfl⟩
    rw [HW.out.1 (by assumption)]
    first | rfl | (congr 2; omega)
  · go_ret
    refine ⟨?_, rfl⟩
    rw [HW.out.2 (by omega)]
    rfl

end Go.Proofs.Ytkbfgfpdchgjpaa
