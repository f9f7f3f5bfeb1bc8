/- Clean, the program's; Split, Join, Clean: the document's. -/
import Derived.Test.YtfgeeheojglldaaPaE
namespace Go.Proofs.Ytfgeeheojglldaa
open Go Go.RowKit

theorem splitL_len (s : List UInt8) : (flat (splitL s)).length ≤ 201 := by
  unfold splitL splitO
  split
  · simp [flat]
  · cases e : goP [] [] s with
    | none => simp [flat]
    | some l =>
      have := goP_len s [] [] l e
      simp [flat_nil] at this ⊢
      omega
theorem cleanL_of (s : List UInt8) (h : splitE s = 0) : cleanL s = joinP (splitL s) := by
  unfold splitE at h
  unfold cleanL splitL splitO
  split at h
  · cases h
  · rename_i hl
    rw [if_neg hl]
    cases e : goP [] [] s with
    | none => rw [e] at h; simp at h
    | some l => rfl
theorem cleanL_no (s : List UInt8) (h : splitE s ≠ 0) : cleanL s = [] := by
  unfold splitE at h
  unfold cleanL splitO
  split
  · rfl
  · rename_i l hl
    split at h
    · rename_i h2; rw [if_pos h2] at hl; cases hl
    · rename_i h2; rw [if_neg h2] at hl; rw [hl] at h; simp at h

set_option maxHeartbeats 800000 in
set_option maxRecDepth 100000 in
theorem clean_c (s : ByteArray) (w : World) (hs : s.size ≤ 1000000) :
    Calls Try.prog 11 #[.string s] w fun e w' => e = .returned (.tuple #[.string (tb (cleanL s.data.toList)), .int .i64 (splitE s.data.toList)]) ∧ Below w.heap.size w w' := by
  have HS := hidden (split_c s w hs)
  have HL := hidden (splitL_len s.data.toList)
  have HC := hidden (cleanL_of s.data.toList)
  have HD := hidden (cleanL_no s.data.toList)
  generalize splitL s.data.toList = SL at HS HL HC
  generalize splitE s.data.toList = SE at HS HC HD ⊢
  generalize cleanL s.data.toList = CL at HC HD ⊢
  go_enter Try.func11, Try.ntmps11
  go_wp2_with fail
  refine (HS.out).mono ?_
  rintro e w1 ⟨v, rfl, ho, hb⟩
  have HO := hidden ho
  have HB := hidden hb
  clear ho hb
  by_cases h0 : SE = 0
  · subst h0
    obtain rfl := HC.out rfl
    clear HC HD HS
    go_wp2_with fail
    refine (join_c _ SL _ HO.out.ssl (by have := HL.out; omega)).mono ?_
    rintro e w2 ⟨rfl, hb2⟩
    go_wp2
    go_ret2
    exact ⟨rfl, HB.out.trans (hb2.mono HB.out.size)⟩
  · obtain rfl := HD.out h0
    have hne : (SE == 0) = false := by rw [beq_eq_false_iff_ne]; exact h0
    have hne2 : (SE != 0) = true := by simpa using h0
    clear HC HD HS
    go_wp2
    go_ret2
    exact ⟨rfl, HB.out⟩
end Go.Proofs.Ytfgeeheojglldaa
