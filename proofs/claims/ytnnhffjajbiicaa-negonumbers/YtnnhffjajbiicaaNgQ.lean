/- Plain facts: a line that comes back; names that are right; the first that both have. -/
import Derived.Test.YtnnhffjajbiicaaNgO
namespace Go.Proofs.Ytnnhffjajbiicaa
open Go Go.RowKit

theorem version_back {s : ByteArray} (h : rightV s = true) (C : List UInt8) : versionT (lineL s ++ C) = (s, s.size + 2, 0) := by
  have hl := lineL_len h
  have hs := rightV_size h
  have hz : s.data.toList.length = s.size := by rw [Array.length_toList]; rfl
  have ht : (lineL s ++ C).take 255 = s.data.toList ++ ([13, 10] ++ C.take (255 - (s.size + 2))) := by
    rw [List.take_append, hl, List.take_of_length_le (by omega), lineL_yes h, List.append_assoc]
  have hn : endAt ((lineL s ++ C).take 255) = some s.size := by
    rw [ht]
    apply endAt_some
    · unfold atB
      have g0 : (s.data.toList ++ ([13, 10] ++ C.take (255 - (s.size + 2)))).getD s.size 0 = 13 := by
        rw [List.getD_eq_getElem?_getD, List.getElem?_append_right (by omega), hz]; simp
      have g1 : (s.data.toList ++ ([13, 10] ++ C.take (255 - (s.size + 2)))).getD (s.size + 1) 0 = 10 := by
        rw [List.getD_eq_getElem?_getD, List.getElem?_append_right (by omega), hz, Nat.add_sub_cancel_left]; simp
      rw [g0, g1]
      simp
    · intro i hi
      exact line_at h _ i hi
  have hk : (⟨((lineL s ++ C).take s.size).toArray⟩ : ByteArray) = s := by
    rw [List.take_append_of_le_length (by omega), lineL_yes h, List.take_append_of_le_length (by omega), List.take_of_length_le (by omega)]
  unfold versionT
  rw [hn]
  simp only
  rw [hk, if_pos h]
theorem head_right {s0 : ByteArray} (h : rightV (s0.extract 0 260) = true) : s0.extract 0 260 = s0 := by
  have hs := (rightV_size h).2
  have hz : s0.size ≤ 260 := by
    simp at hs
    omega
  apply ByteArray.ext
  rw [ByteArray.data_extract]
  exact Array.extract_eq_self_of_le (by exact hz)

theorem right_filter {l : List ByteArray} (h6 : l.length ≤ 6) : rightNs (l.filter okS) = true := by
  have h1 : ∀ s ∈ l.filter okS, okS s = true := fun s hs => (List.mem_filter.1 hs).2
  have h2 : (l.filter okS).length ≤ 6 := Nat.le_trans (List.length_filter_le _ _) h6
  have h3 := joined_len (l.filter okS) (fun s hs => okS_size (h1 s hs))
  unfold rightNs
  rw [Bool.and_eq_true, List.all_eq_true, decide_eq_true_eq]
  exact ⟨h1, by omega⟩
theorem filter_next {l : List ByteArray} {k : Nat} (h : k < l.length) : (l.take (k + 1)).filter okS = (l.take k).filter okS ++ (if okS l[k] then [l[k]] else []) := by
  rw [List.take_succ_eq_append_getElem h, List.filter_append]
  cases e : okS l[k] <;> simp [List.filter, e]

/-- The first k lists have right names alone. -/
def filtTo (l : List (List ByteArray)) (k : Nat) : List (List ByteArray) := (l.take k).map (·.filter okS) ++ l.drop k
theorem filtTo_zero (l : List (List ByteArray)) : filtTo l 0 = l := rfl
theorem filtTo_len (l : List (List ByteArray)) (k : Nat) : (filtTo l k).length = l.length := by
  simp [filtTo]
  omega
theorem filtTo_getD {l : List (List ByteArray)} {k : Nat} (h : k < l.length) : (filtTo l k).getD k [] = l.getD k [] := by
  unfold filtTo
  have hl : ((l.take k).map (·.filter okS)).length = k := by simp; omega
  rw [List.getD_eq_getElem?_getD, List.getElem?_append_right (by omega), hl, Nat.sub_self, List.getElem?_drop, Nat.add_zero, ← List.getD_eq_getElem?_getD]
theorem filtTo_set {l : List (List ByteArray)} {k : Nat} (h : k < l.length) : (filtTo l k).set k ((l.getD k []).filter okS) = filtTo l (k + 1) := by
  unfold filtTo
  have hl : ((l.take k).map (·.filter okS)).length = k := by simp; omega
  rw [List.set_append_right _ _ (by omega), hl, Nat.sub_self, List.drop_eq_getElem_cons h, List.set_cons_zero, List.take_succ_eq_append_getElem h, List.map_append, List.append_assoc]
  have e : l.getD k [] = l[k] := by rw [List.getD_eq_getElem?_getD, List.getElem?_eq_getElem h]; rfl
  rw [e]
  rfl
theorem filtTo_all {l : List (List ByteArray)} (h6 : ∀ x ∈ l, x.length ≤ 6) : ∀ x ∈ filtTo l l.length, rightNs x = true ∧ x.length ≤ 6 := by
  intro x hx
  unfold filtTo at hx
  rw [List.take_length, List.drop_length, List.append_nil] at hx
  obtain ⟨y, hy, rfl⟩ := List.mem_map.1 hx
  exact ⟨right_filter (h6 y hy), Nat.le_trans (List.length_filter_le _ _) (h6 y hy)⟩
theorem getD_set_list {l : List (List ByteArray)} {i j : Nat} (v : List ByteArray) : (l.set i v).getD j [] = if i = j ∧ i < l.length then v else l.getD j [] := by
  rw [List.getD_eq_getElem?_getD, List.getElem?_set]
  by_cases e : i = j
  · subst e
    by_cases h : i < l.length
    · simp [h]
    · simp [h, List.getD_eq_getElem?_getD]
  · simp [e, List.getD_eq_getElem?_getD]

/-- f is the least place from k on whose name the other has, or -1. -/
def Least (cl sv : List ByteArray) (k : Nat) (f : Int) : Prop :=
  (f = -1 ∧ ∀ j, k ≤ j → (h : j < cl.length) → cl[j] ∉ sv) ∨ ∃ j, ∃ h : j < cl.length, f = (j : Int) ∧ k ≤ j ∧ cl[j] ∈ sv ∧ ∀ i, k ≤ i → (hi : i < j) → cl[i]'(Nat.lt_trans hi h) ∉ sv
theorem Least.start (cl sv : List ByteArray) : Least cl sv cl.length (-1) := .inl ⟨rfl, fun j h1 h2 => by omega⟩
theorem Least.no {cl sv : List ByteArray} {k : Nat} {f : Int} (h : Least cl sv (k + 1) f) (hk : k < cl.length) (hn : cl[k] ∉ sv) : Least cl sv k f := by
  rcases h with ⟨rfl, h⟩ | ⟨j, hj, rfl, h1, h2, h3⟩
  · refine .inl ⟨rfl, fun j hj hl => ?_⟩
    by_cases e : j = k
    · subst e; exact hn
    · exact h j (by omega) hl
  · refine .inr ⟨j, hj, rfl, by omega, h2, fun i hi hij => ?_⟩
    by_cases e : i = k
    · subst e; exact hn
    · exact h3 i (by omega) hij
theorem Least.yes {cl sv : List ByteArray} {k : Nat} (hk : k < cl.length) (hn : cl[k] ∈ sv) : Least cl sv k (k : Int) :=
  .inr ⟨k, hk, rfl, Nat.le_refl _, hn, fun i h1 h2 => by omega⟩
theorem Least.end {cl sv : List ByteArray} {f : Int} (h : Least cl sv 0 f) : (f = -1 ∧ chooseO cl sv = none) ∨ ∃ j, ∃ h : j < cl.length, f = (j : Int) ∧ chooseO cl sv = some cl[j] := by
  rcases h with ⟨rfl, h⟩ | ⟨j, hj, rfl, _, h2, h3⟩
  · refine .inl ⟨rfl, choose_none fun x hx => ?_⟩
    obtain ⟨i, hi, rfl⟩ := List.mem_iff_getElem.1 hx
    exact h i (Nat.zero_le _) hi
  · refine .inr ⟨j, hj, rfl, choose_some hj (fun x hx => ?_) h2⟩
    obtain ⟨i, hi, rfl⟩ := List.mem_iff_getElem.1 hx
    rw [List.length_take] at hi
    rw [List.getElem_take]
    exact h3 i (Nat.zero_le _) (by omega)
end Go.Proofs.Ytnnhffjajbiicaa
