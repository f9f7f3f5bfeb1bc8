/- What the document's own writers answer: Mpint, Join, Names. -/
import Derived.Test.YtnimdbjbkoggdaaRfB
namespace Go.Proofs.Ytnimdbjbkoggdaa
open Go Go.RowKit

theorem BSl.fresh {w w' : World} {v : Value} {xs : List UInt8} (h : BSl w v xs) (hb : Below w.heap.size w w') : BSl w' v xs :=
  h.keep (S := fun _ => False) (Keeps.ofFresh hb) fun _ _ h => h

theorem size_list (l : List UInt8) : (⟨l.toArray⟩ : ByteArray).size = l.length := by simp [ByteArray.size]
theorem ba_append (a b : List UInt8) : ((⟨a.toArray⟩ : ByteArray) ++ ⟨b.toArray⟩) = ⟨(a ++ b).toArray⟩ := by
  apply ByteArray.ext
  simp
theorem ba_nil (s : ByteArray) : ((⟨#[]⟩ : ByteArray) ++ s) = s := by
  apply ByteArray.ext
  simp
theorem ba_self (s : ByteArray) : s = ⟨s.data.toList.toArray⟩ := by
  apply ByteArray.ext
  simp

theorem mp_text (ns : List UInt8) : mpBytes ns = textBytes (match bare ns with | [] => [] | x :: r => if 128 ≤ x.toNat then 0 :: x :: r else x :: r) := by
  unfold mpBytes textBytes
  cases bare ns with
  | nil => rfl
  | cons x r => by_cases h : 128 ≤ x.toNat <;> simp [h]


theorem joined_zero : joined [] = [] := rfl
theorem joined_take_one (ss : List ByteArray) (h : 0 < ss.length) : joined (ss.take 1) = (ss[0]).data.toList := by
  rw [List.take_one, List.head?_eq_getElem?, List.getElem?_eq_getElem h]
  simp [joined, Lib.join_one]
theorem joined_take_succ (ss : List ByteArray) (k : Nat) (h : k + 1 < ss.length) : joined (ss.take (k + 2)) = joined (ss.take (k + 1)) ++ [44] ++ (ss[k + 1]).data.toList := by
  cases ss with
  | nil => simp at h
  | cons x r =>
    simp only [joined, List.take_succ_cons, List.map_cons, Lib.join_cons, List.map_take]
    rw [Lib.joinTail_take_succ [44] (r.map (·.data.toList)) k ((r[k]'(by simp at h; exact h)).data.toList) (by simp at h; simp [h])]
    simp
theorem joined_take_le (ss : List ByteArray) (k : Nat) : (joined (ss.take k)).length ≤ (joined ss).length := by
  cases ss with
  | nil => simp
  | cons x r =>
    cases k with
    | zero => simp [joined, Lib.join_nil]
    | succ k =>
      simp only [joined, List.take_succ_cons, List.map_cons, Lib.join_cons, List.map_take]
      have := Lib.joinTail_take_le [44] (r.map (·.data.toList)) k
      simp only [List.length_append]
      omega

theorem SSl.cellAt {w : World} {b off n cap : Nat} {ss : List ByteArray} (h : SSl w (.slice (some ⟨b, off, none⟩) n cap) ss) (k : Nat) (hk : k < ss.length) : w.cell? ⟨b, off + k, none⟩ = some (.string ss[k]) := by
  obtain ⟨ao, cap, e, h1, h2, h3, hc⟩ := h
  cases e
  obtain ⟨b', off', e, hcell⟩ := hc _ rfl (by rintro rfl; simp at hk)
  cases e
  exact hcell k _ (by simp [hk])



end Go.Proofs.Ytnimdbjbkoggdaa
