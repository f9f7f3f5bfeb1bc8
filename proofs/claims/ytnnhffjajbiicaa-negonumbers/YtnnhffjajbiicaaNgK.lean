/- What Decode answers, as plain facts. -/
import Derived.Test.YtnnhffjajbiicaaNgJ
namespace Go.Proofs.Ytnnhffjajbiicaa
open Go Go.RowKit

/-- So many lists of names are read, one behind the other. -/
def namesTo (bs : List UInt8) (p : Nat) (y : Int) : Nat → List (List (List UInt8)) × Nat × Int
  | 0 => ([], p, y)
  | n + 1 => ((namesTo bs p y n).1 ++ [(nx bs (namesTo bs p y n).2.1 (namesTo bs p y n).2.2).1], (nx bs (namesTo bs p y n).2.1 (namesTo bs p y n).2.2).2)
theorem namesTo_len (bs : List UInt8) (p : Nat) (y : Int) (n : Nat) : (namesTo bs p y n).1.length = n := by
  induction n with
  | zero => rfl
  | succ n ih => simp [namesTo, ih]

/-- What is read from the cookie on: it, the lists, whether one follows; then where, and the refusal. -/
structure Dec where
  ck : List UInt8
  ls : List (List (List UInt8))
  fo : Bool
  p : Nat
  y : Int
def decFrom (bs : List UInt8) (p : Nat) (y : Int) : Dec :=
  let c := tk bs p y 16
  let n := namesTo bs c.2.1 c.2.2 10
  let f := tk bs n.2.1 n.2.2 1
  let u := tk bs f.2.1 f.2.2 4
  ⟨c.1, n.1, ((val f.1 : Nat) : Int) != 0, u.2.1, u.2.2⟩
def kindOf (bs : List UInt8) : Nat := val (tk bs 0 0 1).1
def dec (bs : List UInt8) : Dec := decFrom bs (tk bs 0 0 1).2.1 (tk bs 0 0 1).2.2
/-- Are they the bytes of Lists? -/
def decOk (bs : List UInt8) : Bool := decide (kindOf bs = 20) && decide ((ends bs (dec bs).p (dec bs).y).1 = 0)
def decE (bs : List UInt8) : Int := if decOk bs then 0 else 12
def decC (bs : List UInt8) : List UInt8 := if decOk bs then (dec bs).ck else []
def decN (bs : List UInt8) : List (List ByteArray) := if decOk bs then (dec bs).ls.map texts else List.replicate 10 []
def decF (bs : List UInt8) : Bool := if decOk bs then (dec bs).fo else false

/-! Behind a refusal nothing is read. -/
theorem tk_no {bs : List UInt8} {p : Nat} {y : Int} (hy : y ≠ 0) (n : Nat) : tk bs p y n = ([], p, y) := by unfold tk; rw [if_neg hy]
theorem tx_no {bs : List UInt8} {p : Nat} {y : Int} (hy : y ≠ 0) (m : Int) : tx bs p y m = ([], p, y) := by
  unfold tx
  rw [tk_no hy]
  rw [if_neg (by show ¬ m.toNat < 0; omega)]
  exact tk_no hy _
theorem nx_no {bs : List UInt8} {p : Nat} {y : Int} (hy : y ≠ 0) : nx bs p y = ([], p, y) := by
  unfold nx
  rw [tx_no hy]
  rfl
theorem namesTo_no {bs : List UInt8} {p : Nat} {y : Int} (hy : y ≠ 0) (n : Nat) : (namesTo bs p y n).2 = (p, y) := by
  induction n with
  | zero => rfl
  | succ n ih => simp only [namesTo]; rw [ih]; simp only; rw [nx_no hy]
theorem decFrom_no {bs : List UInt8} {p : Nat} {y : Int} (hy : y ≠ 0) : (decFrom bs p y).p = p ∧ (decFrom bs p y).y = y := by
  simp only [decFrom, tk_no hy, namesTo_no hy, and_self]
theorem ends_no {bs : List UInt8} {p : Nat} {y : Int} (hy : y ≠ 0) : (ends bs p y).1 ≠ 0 := by unfold ends; rw [if_neg hy]; exact hy
theorem ends_ok {bs : List UInt8} {p : Nat} {y : Int} : (ends bs p y).1 = 0 ↔ y = 0 ∧ bs.length ≤ p := by
  unfold ends
  by_cases hy : y = 0
  · rw [if_pos hy]
    by_cases hp : p < bs.length
    · rw [if_pos hp]; simp [hy]; omega
    · rw [if_neg hp]; simp [hy]; omega
  · rw [if_neg hy]; simp [hy]

/-! What is read of bytes is read of more bytes too. -/
theorem tk_more {A : List UInt8} (C : List UInt8) {p n : Nat} {y : Int} (h : (tk A p y n).2.2 = 0) : tk (A ++ C) p y n = tk A p y n := by
  by_cases hy : y = 0
  · subst hy
    unfold tk at h ⊢
    rw [if_pos rfl] at h ⊢
    rw [if_pos rfl]
    by_cases hl : A.length - p < n
    · rw [if_pos hl] at h; cases h
    · rw [if_neg hl, if_neg (by rw [List.length_append]; omega)]
      rcases Nat.eq_zero_or_pos n with h0 | h0
      · subst h0; simp
      · rw [List.drop_append_of_le_length (by omega), List.take_append_of_le_length (by rw [List.length_drop]; omega)]
  · rw [tk_no hy] at h; exact absurd h hy
theorem tk_ok2 {bs : List UInt8} {p n : Nat} {y : Int} (h : (tk bs p y n).2.2 = 0) : y = 0 := by
  by_cases hy : y = 0
  · exact hy
  · rw [tk_no hy] at h; exact absurd h hy
theorem tx_more {A : List UInt8} (C : List UInt8) {p : Nat} {y m : Int} (h : (tx A p y m).2.2 = 0) : tx (A ++ C) p y m = tx A p y m := by
  have h4 : (tk A p y 4).2.2 = 0 := by
    by_cases h4 : (tk A p y 4).2.2 = 0
    · exact h4
    · unfold tx at h
      split at h
      · cases h
      · rw [tk_no h4] at h; exact h
  unfold tx at h ⊢
  rw [tk_more C h4]
  split
  · rfl
  · rename_i hn
    rw [if_neg hn] at h
    exact tk_more C h
theorem tx_ok2 {bs : List UInt8} {p : Nat} {y m : Int} (h : (tx bs p y m).2.2 = 0) : y = 0 := by
  by_cases hy : y = 0
  · exact hy
  · rw [tx_no hy] at h; exact h
theorem nx_more {A : List UInt8} (C : List UInt8) {p : Nat} {y : Int} (h : (nx A p y).2.2 = 0) : nx (A ++ C) p y = nx A p y := by
  have h4 : (tx A p y 1000).2.2 = 0 := by
    unfold nx at h
    split at h
    · exact h
    · cases h
  unfold nx
  rw [tx_more C h4]
theorem nx_ok2 {bs : List UInt8} {p : Nat} {y : Int} (h : (nx bs p y).2.2 = 0) : y = 0 := by
  by_cases hy : y = 0
  · exact hy
  · rw [nx_no hy] at h; exact h
theorem namesTo_more {A : List UInt8} (C : List UInt8) {p : Nat} {y : Int} (n : Nat) (h : (namesTo A p y n).2.2 = 0) : namesTo (A ++ C) p y n = namesTo A p y n := by
  induction n with
  | zero => rfl
  | succ n ih =>
    simp only [namesTo] at h ⊢
    have h1 := nx_ok2 h
    rw [ih h1, nx_more C h]
theorem namesTo_ok2 {bs : List UInt8} {p : Nat} {y : Int} (n : Nat) (h : (namesTo bs p y n).2.2 = 0) : y = 0 := by
  by_cases hy : y = 0
  · exact hy
  · rw [namesTo_no hy] at h; exact h
theorem decFrom_more {A : List UInt8} (C : List UInt8) {p : Nat} {y : Int} (h : (decFrom A p y).y = 0) : decFrom (A ++ C) p y = decFrom A p y := by
  simp only [decFrom] at h ⊢
  have h1 := tk_ok2 h
  have h2 := tk_ok2 h1
  have h3 := namesTo_ok2 10 h2
  rw [tk_more C h3, namesTo_more C 10 h2, tk_more C h1, tk_more C h]
theorem decFrom_ok2 {bs : List UInt8} {p : Nat} {y : Int} (h : (decFrom bs p y).y = 0) : y = 0 := by
  by_cases hy : y = 0
  · exact hy
  · rw [(decFrom_no hy).2] at h; exact h
theorem dec_more {A : List UInt8} (C : List UInt8) (h : (dec A).y = 0) : dec (A ++ C) = dec A ∧ kindOf (A ++ C) = kindOf A := by
  unfold dec at h ⊢
  have h1 := decFrom_ok2 h
  unfold kindOf
  rw [tk_more C h1, decFrom_more C h]
  exact ⟨rfl, rfl⟩

/-! What Encode writes is read. -/
theorem encBody_drop {ls : List (List ByteArray)} {k : Nat} (h : k < ls.length) : encBody ls = encBody (ls.take k) ++ (textBytes (joined ls[k]) ++ encBody (ls.drop (k + 1))) := by
  have e : ls = ls.take k ++ ls[k] :: ls.drop (k + 1) := by simp
  conv => lhs; rw [e]
  simp only [encBody, List.map_append, List.flatten_append, List.map_cons, List.flatten_cons]
theorem rightNs_names {l : List ByteArray} (h : rightNs l = true) : ∀ s ∈ l, okName s.data.toList = true := by
  unfold rightNs at h
  rw [Bool.and_eq_true, List.all_eq_true] at h
  exact h.1
theorem namesTo_at {X : List UInt8} {p : Nat} {ls : List (List ByteArray)} (hr : ∀ l ∈ ls, rightNs l = true) (h : At X p (encBody ls)) (k : Nat) (hk : k ≤ ls.length) :
    namesTo X p 0 k = ((ls.take k).map (·.map (·.data.toList)), p + (encBody (ls.take k)).length, 0) := by
  induction k with
  | zero => simp [namesTo, encBody]
  | succ k ih =>
    have hk' : k < ls.length := by omega
    simp only [namesTo]
    rw [ih (by omega)]
    rw [encBody_drop hk'] at h
    have h2 := h.right.left.nx (rightNs_len (hr _ (List.getElem_mem hk'))) (rightNs_names (hr _ (List.getElem_mem hk')))
    simp only
    rw [h2, encBody_next hk', List.take_succ_eq_append_getElem hk', List.map_append, List.length_append]
    simp only [textBytes, List.length_append, be_length, List.map_cons, List.map_nil, Nat.add_assoc]
theorem texts_data (l : List ByteArray) : texts (l.map (·.data.toList)) = l := by
  unfold texts
  rw [List.map_map]
  conv => rhs; rw [← List.map_id l]
  rfl
theorem map_texts (ls : List (List ByteArray)) : (ls.map (·.map (·.data.toList))).map texts = ls := by
  rw [List.map_map]
  conv => rhs; rw [← List.map_id ls]
  exact List.map_congr_left fun l _ => texts_data l
theorem bit_val (fo : Bool) : (((val [bit fo] : Nat) : Int) != 0) = fo := by cases fo <;> decide +kernel
theorem dec_enc {bs : List UInt8} {ls : List (List ByteArray)} {fo : Bool} (h16 : bs.length = 16) (hl : ls.length = 10) (hr : ∀ l ∈ ls, rightNs l = true) :
    kindOf (encL bs ls fo) = 20 ∧ dec (encL bs ls fo) = ⟨bs, ls.map (·.map (·.data.toList)), fo, (encL bs ls fo).length, 0⟩ := by
  have hX : At (encL bs ls fo) 0 ([20] ++ (bs ++ (encBody ls ++ ([bit fo] ++ be 4 0)))) := ⟨[], [], by simp [encL], rfl⟩
  have hlen : (encL bs ls fo).length = 0 + [(20 : UInt8)].length + bs.length + (encBody ls).length + [bit fo].length + 4 := by simp [encL, be_length]; omega
  generalize encL bs ls fo = X at hX hlen
  have k1 : tk X 0 0 1 = ([20], 0 + 1, 0) := hX.left.tkn rfl
  have c1 : tk X (0 + [(20 : UInt8)].length) 0 16 = (bs, 0 + [(20 : UInt8)].length + 16, 0) := hX.right.left.tkn h16
  have n1 := namesTo_at hr hX.right.right.left 10 (by omega)
  rw [List.take_of_length_le (by omega)] at n1
  have f1 : tk X (0 + [(20 : UInt8)].length + bs.length + (encBody ls).length) 0 1 = ([bit fo], _, 0) := hX.right.right.right.left.tkn rfl
  have u1 : tk X (0 + [(20 : UInt8)].length + bs.length + (encBody ls).length + [bit fo].length) 0 4 = (be 4 0, _, 0) := hX.right.right.right.right.tkn (be_length 4 0)
  rw [h16] at n1 f1 u1
  refine ⟨?_, ?_⟩
  · unfold kindOf; rw [k1]; rfl
  · unfold dec
    rw [k1]
    simp only [decFrom]
    simp only [List.length_cons, List.length_nil] at c1 n1 f1 u1 hlen
    rw [c1]
    simp only
    rw [n1]
    simp only
    rw [f1]
    simp only
    rw [u1]
    simp only [bit_val]
    rw [hlen, h16]
theorem dec_back {bs : List UInt8} {ls : List (List ByteArray)} {fo : Bool} (h16 : bs.length = 16) (hl : ls.length = 10) (hr : ∀ l ∈ ls, rightNs l = true) :
    decOk (encL bs ls fo) = true ∧ decC (encL bs ls fo) = bs ∧ decN (encL bs ls fo) = ls ∧ decF (encL bs ls fo) = fo := by
  obtain ⟨h1, h2⟩ := dec_enc (fo := fo) h16 hl hr
  have hok : decOk (encL bs ls fo) = true := by
    unfold decOk
    rw [h1, h2, Bool.and_eq_true, decide_eq_true_eq, decide_eq_true_eq]
    exact ⟨rfl, ends_ok.2 ⟨rfl, Nat.le_refl _⟩⟩
  refine ⟨hok, ?_, ?_, ?_⟩
  · unfold decC; rw [if_pos hok, h2]
  · unfold decN; rw [if_pos hok, h2]; exact map_texts ls
  · unfold decF; rw [if_pos hok, h2]
theorem dec_longer {bs : List UInt8} {ls : List (List ByteArray)} {fo : Bool} (h16 : bs.length = 16) (hl : ls.length = 10) (hr : ∀ l ∈ ls, rightNs l = true) (C : List UInt8) :
    decOk (encL bs ls fo ++ C) = decide (C.length = 0) := by
  obtain ⟨h1, h2⟩ := dec_enc (fo := fo) h16 hl hr
  obtain ⟨h3, h4⟩ := dec_more C (A := encL bs ls fo) (by rw [h2])
  unfold decOk
  rw [h3, h4, h1, h2]
  simp only [decide_true, Bool.true_and]
  rw [decide_eq_decide, ends_ok]
  simp only [List.length_append, true_and]
  omega
/-! Nothing is read behind the end. -/
theorem tk_le {bs : List UInt8} {p : Nat} {y : Int} (n : Nat) (h : p ≤ bs.length) : (tk bs p y n).2.1 ≤ bs.length := by
  unfold tk
  split
  · split
    · exact Nat.le_refl _
    · simp only; omega
  · exact h
theorem tx_le {bs : List UInt8} {p : Nat} {y : Int} (m : Int) (h : p ≤ bs.length) : (tx bs p y m).2.1 ≤ bs.length := by
  unfold tx
  split
  · exact h
  · exact tk_le _ (tk_le _ h)
theorem nx_le {bs : List UInt8} {p : Nat} {y : Int} (h : p ≤ bs.length) : (nx bs p y).2.1 ≤ bs.length := by
  unfold nx
  split
  · exact tx_le _ h
  · exact h
theorem namesTo_le {bs : List UInt8} {p : Nat} {y : Int} (n : Nat) (h : p ≤ bs.length) : (namesTo bs p y n).2.1 ≤ bs.length := by
  induction n with
  | zero => exact h
  | succ n ih => simp only [namesTo]; exact nx_le ih
theorem dec_le (bs : List UInt8) : (dec bs).p ≤ bs.length := by
  simp only [dec, decFrom]
  exact tk_le _ (tk_le _ (namesTo_le _ (tk_le _ (tk_le _ (Nat.zero_le _)))))
theorem dec_cut {bs : List UInt8} {ls : List (List ByteArray)} {fo : Bool} (h16 : bs.length = 16) (hl : ls.length = 10) (hr : ∀ l ∈ ls, rightNs l = true) (k : Nat) (hk : k < (encL bs ls fo).length) :
    decOk ((encL bs ls fo).take k) = false := by
  obtain ⟨h1, h2⟩ := dec_enc (fo := fo) h16 hl hr
  generalize encL bs ls fo = X at h1 h2 hk
  cases h : decOk (X.take k) with
  | false => rfl
  | true =>
    exfalso
    unfold decOk at h
    rw [Bool.and_eq_true, decide_eq_true_eq, decide_eq_true_eq] at h
    obtain ⟨hy, hp⟩ := ends_ok.1 h.2
    obtain ⟨h3, _⟩ := dec_more (X.drop k) hy
    rw [List.take_append_drop] at h3
    have h5 := dec_le (X.take k)
    rw [← h3, h2] at h5
    simp only [List.length_take] at h5
    omega
end Go.Proofs.Ytnnhffjajbiicaa
