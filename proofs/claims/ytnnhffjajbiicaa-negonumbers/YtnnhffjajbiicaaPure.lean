/- A text's names, parted by commas, in plain lists. -/
import Derived.Lib.Strings
namespace Go.Proofs.Ytnnhffjajbiicaa

def good (b : UInt8) : Bool := decide (33 ≤ b.toNat) && decide (b.toNat ≤ 126) && decide (b.toNat ≠ 44)
def okName (n : List UInt8) : Bool := n.all good && decide (1 ≤ n.length) && decide (n.length ≤ 64)
def goN (out : List (List UInt8)) (cur : List UInt8) : List UInt8 → Option (List (List UInt8))
  | [] => if okName cur then some (out ++ [cur]) else none
  | x :: xs => if x.toNat = 44 then (if okName cur then goN (out ++ [cur]) [] xs else none) else goN out (cur ++ [x]) xs
def parts (xs : List UInt8) : Option (List (List UInt8)) := if xs = [] then some [] else goN [] [] xs

theorem okName_bad {n : List UInt8} {x : UInt8} (h : x ∈ n) (hx : good x = false) : okName n = false := by
  unfold okName
  have : n.all good = false := by
    rw [List.all_eq_false]
    exact ⟨x, h, by simp [hx]⟩
  simp [this]
theorem goN_bad (xs : List UInt8) : ∀ (out : List (List UInt8)) (cur : List UInt8) (x : UInt8), x ∈ cur → good x = false → goN out cur xs = none := by
  induction xs with
  | nil => intro out cur x h hx; simp [goN, okName_bad h hx]
  | cons y ys ih =>
    intro out cur x h hx
    unfold goN
    split
    · simp [okName_bad h hx]
    · exact ih out (cur ++ [y]) x (by simp [h]) hx
theorem goN_wrong {out : List (List UInt8)} {cur xs : List UInt8} {x : UInt8} (hx : good x = false) (hc : ¬ x.toNat = 44) : goN out cur (x :: xs) = none := by
  unfold goN
  rw [if_neg hc]
  exact goN_bad xs _ _ x (by simp) hx
theorem goN_comma {out : List (List UInt8)} {cur xs : List UInt8} {x : UInt8} (hc : x.toNat = 44) (ho : okName cur = true) : goN out cur (x :: xs) = goN (out ++ [cur]) [] xs := by
  rw [goN]; simp [hc, ho]
theorem goN_commaNo {out : List (List UInt8)} {cur xs : List UInt8} {x : UInt8} (hc : x.toNat = 44) (ho : okName cur = false) : goN out cur (x :: xs) = none := by
  rw [goN]; simp [hc, ho]
theorem goN_step {out : List (List UInt8)} {cur xs : List UInt8} {x : UInt8} (hc : ¬ x.toNat = 44) : goN out cur (x :: xs) = goN out (cur ++ [x]) xs := by
  rw [goN]; simp [hc]
theorem goN_end {out : List (List UInt8)} {cur : List UInt8} (ho : okName cur = true) : goN out cur [] = some (out ++ [cur]) := by
  rw [goN]; simp [ho]
theorem goN_endNo {out : List (List UInt8)} {cur : List UInt8} (ho : okName cur = false) : goN out cur [] = none := by
  rw [goN]; simp [ho]
theorem good_iff (b : UInt8) : good b = true ↔ 33 ≤ b.toNat ∧ b.toNat ≤ 126 ∧ b.toNat ≠ 44 := by
  simp [good, and_assoc]

/-- The bytes of s from st up to at. -/
def cutB (s : ByteArray) (i j : Nat) : List UInt8 := (s.data.toList.drop i).take (j - i)
theorem extract_cut (s : ByteArray) (i j : Nat) : s.extract i j = ⟨(cutB s i j).toArray⟩ := by
  apply ByteArray.ext
  have := Lib.extract_data s i j
  unfold cutB
  rw [← this]
theorem cutB_self (s : ByteArray) (i : Nat) : cutB s i i = [] := by simp [cutB]
theorem cutB_succ (s : ByteArray) (i j : Nat) (h : i ≤ j) (hj : j < s.size) : cutB s i (j + 1) = cutB s i j ++ [s[j]] := by
  unfold cutB
  have hl : j - i < (s.data.toList.drop i).length := by
    rw [List.length_drop, Array.length_toList]
    have : s.size = s.data.size := rfl
    omega
  rw [show j + 1 - i = (j - i) + 1 from by omega, List.take_succ_eq_append_getElem hl]
  congr 1
  simp only [List.getElem_drop, Array.getElem_toList, List.cons.injEq, and_true]
  congr 1
  omega
theorem cutB_len (s : ByteArray) (i j : Nat) (h : i ≤ j) (hj : j ≤ s.size) : (cutB s i j).length = j - i := by
  unfold cutB
  rw [List.length_take, List.length_drop, Array.length_toList]
  have : s.size = s.data.size := rfl
  omega
theorem dropB (s : ByteArray) (k : Nat) (h : k < s.size) : s.data.toList.drop k = s[k] :: s.data.toList.drop (k + 1) := by
  rw [List.drop_eq_getElem_cons (by simpa using h)]
  rfl
theorem dropB_end (s : ByteArray) : s.data.toList.drop s.size = [] := by
  apply List.drop_of_length_le
  rw [Array.length_toList]
  exact Nat.le_refl _

end Go.Proofs.Ytnnhffjajbiicaa
