/- Plain facts: a line that is cut off; lists that are short. -/
import Derived.Test.YtnnhffjajbiicaaNgM
namespace Go.Proofs.Ytnnhffjajbiicaa
open Go Go.RowKit

theorem rightV_plain {s : ByteArray} (h : rightV s = true) : ∀ b ∈ s.data.toList, 32 ≤ b.toNat ∧ b.toNat ≤ 126 := by
  unfold rightV at h
  rw [Bool.and_eq_true, List.all_eq_true] at h
  exact fun b hb => (plain_iff b).1 (h.2 b hb)
theorem lineL_yes {s : ByteArray} (h : rightV s = true) : lineL s = s.data.toList ++ [13, 10] := by simp [lineL, h]
theorem lineL_len {s : ByteArray} (h : rightV s = true) : (lineL s).length = s.size + 2 := by
  rw [lineL_yes h, List.length_append, Array.length_toList]; rfl
theorem lineE_ok (s : ByteArray) : lineE s = 0 ↔ rightV s = true := by
  unfold lineE
  cases rightV s <;> simp
/-- Ahead of its end no line ends. -/
theorem line_at {s : ByteArray} (h : rightV s = true) (C : List UInt8) (i : Nat) (hi : i < s.size) : atB (s.data.toList ++ C) i = false := by
  have hl : s.data.toList.length = s.size := by rw [Array.length_toList]; rfl
  have hg : (s.data.toList ++ C).getD i 0 = s.data.toList[i] := by
    rw [List.getD_eq_getElem?_getD, List.getElem?_append_left (by omega), List.getElem?_eq_getElem (by omega)]; rfl
  have hp := rightV_plain h s.data.toList[i] (List.getElem_mem _)
  unfold atB
  rw [hg]
  have : (s.data.toList[i] == 13) = false := by
    rw [beq_eq_false_iff_ne]
    intro e
    rw [e] at hp
    exact absurd hp.1 (by decide)
  rw [this]
  simp
theorem version_cut {s : ByteArray} (h : rightV s = true) (k : Nat) (hk : k < (lineL s).length) : (versionT ((lineL s).take k)).2.2 = 10 := by
  have hl := lineL_len h
  have hs := rightV_size h
  have hn : endAt (((lineL s).take k).take 255) = none := by
    apply endAt_none
    intro i hi
    rw [List.take_take, List.length_take] at hi
    rw [List.take_take]
    by_cases e : i < s.size
    · by_cases hk2 : s.size ≤ min 255 k
      · have : (lineL s).take (min 255 k) = s.data.toList ++ ([13, 10] : List UInt8).take (min 255 k - s.size) := by
          have hz : s.data.toList.length = s.size := by rw [Array.length_toList]; rfl
          rw [lineL_yes h, List.take_append, hz, List.take_of_length_le (by omega)]
        rw [this]
        exact line_at h _ i e
      · have hz : s.data.toList.length = s.size := by rw [Array.length_toList]; rfl
        have e2 : (lineL s).take (min 255 k) = s.data.toList.take (min 255 k) := by rw [lineL_yes h, List.take_append_of_le_length (by omega)]
        rw [e2]
        unfold atB
        have hi2 : i < (s.data.toList.take (min 255 k)).length := by rw [List.length_take]; omega
        have hg : (s.data.toList.take (min 255 k)).getD i 0 = s.data.toList[i] := by
          rw [List.getD_eq_getElem?_getD, List.getElem?_take, if_pos (by omega), List.getElem?_eq_getElem (by omega)]; rfl
        have hp := rightV_plain h s.data.toList[i] (List.getElem_mem _)
        rw [hg]
        have : (s.data.toList[i] == 13) = false := by
          rw [beq_eq_false_iff_ne]
          intro e
          rw [e] at hp
          exact absurd hp.1 (by decide)
        rw [this]
        simp
    · unfold atB
      have : decide (i + 1 < ((lineL s).take (min 255 k)).length) = false := by
        rw [decide_eq_false_iff_not, List.length_take]
        omega
      rw [this]
      rfl
  unfold versionT
  rw [hn]
  simp only
  rw [if_neg (by rw [List.length_take]; omega)]

/-- The lists of a Lists that the law's helper makes short. -/
theorem short_tame {ls : List (List ByteArray)} : Tame (ls.map fun l => fewL l 6 66) := by
  intro l hl
  obtain ⟨x, _, rfl⟩ := List.mem_map.1 hl
  refine ⟨Nat.le_trans (fewL_length x 6 66) (by omega), fun s hs => Nat.le_trans (fewL_size hs) (by omega)⟩
theorem few_six {ls : List (List ByteArray)} : ∀ l ∈ ls.map (fun l => fewL l 6 66), l.length ≤ 6 := by
  intro l hl
  obtain ⟨x, _, rfl⟩ := List.mem_map.1 hl
  exact fewL_length x 6 66
theorem rightNs_six {l : List ByteArray} (h : rightNs l = true) (h6 : l.length ≤ 6) : (joined l).length ≤ 390 := by
  have h1 : ∀ s ∈ l, s.size ≤ 64 := fun s hs => okS_size (rightNs_names h s hs)
  have := joined_len l h1
  omega
theorem encBody_six (ls : List (List ByteArray)) (h : ∀ l ∈ ls, rightNs l = true ∧ l.length ≤ 6) : (encBody ls).length ≤ 394 * ls.length := by
  induction ls with
  | nil => simp [encBody]
  | cons x r ih =>
    have h1 := rightNs_six (h x (by simp)).1 (h x (by simp)).2
    have h2 := ih fun l hl => h l (by simp [hl])
    simp only [encBody, List.map_cons, List.flatten_cons, List.length_append, List.length_cons, textBytes, be_length] at h2 ⊢
    omega
theorem encL_six {bs : List UInt8} {ls : List (List ByteArray)} {fo : Bool} (h16 : bs.length = 16) (hl : ls.length = 10) (h : ∀ l ∈ ls, rightNs l = true ∧ l.length ≤ 6) : (encL bs ls fo).length ≤ 3962 ∧ 0 < (encL bs ls fo).length := by
  have := encBody_six ls h
  simp only [encL, List.length_append, List.length_cons, List.length_nil, be_length]
  omega
theorem enc_ok {bs : List UInt8} {ls : List (List ByteArray)} (h16 : bs.length = 16) : encE bs ls = 0 ↔ ∀ l ∈ ls, rightNs l = true := by
  unfold encE
  rw [if_pos h16]
  cases h : ls.all rightNs with
  | true => simp only [if_true, true_iff]; rw [List.all_eq_true] at h; exact h
  | false =>
    simp only [Bool.false_eq_true, if_false]
    constructor
    · intro e; cases e
    · intro e; rw [← List.all_eq_true] at e; rw [e] at h; cases h
theorem encB_ok {bs : List UInt8} {ls : List (List ByteArray)} (h16 : bs.length = 16) (h : ∀ l ∈ ls, rightNs l = true) (fo : Bool) : encB bs ls fo = encL bs ls fo := by
  unfold encB encOk
  rw [List.all_eq_true.2 h, h16]
  rfl
end Go.Proofs.Ytnnhffjajbiicaa
