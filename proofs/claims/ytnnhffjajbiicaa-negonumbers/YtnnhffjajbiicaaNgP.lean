/- Plain facts: what is read at a place of bytes that were written there; names that are joined. -/
import Derived.Test.YtnnhffjajbiicaaQrH
namespace Go.Proofs.Ytnnhffjajbiicaa
open Go Go.RowKit

def okS (s : ByteArray) : Bool := okName s.data.toList
theorem valFrom_be (k : Nat) : ∀ (m n : Nat), valFrom m (be k n) = m * 256 ^ k + n % 256 ^ k := by
  induction k with
  | zero => intro m n; simp [be, valFrom, Nat.mod_one]
  | succ k ih =>
    intro m n
    rw [be, valFrom, ih]
    have h : (UInt8.ofNat (n / 256 ^ k % 256)).toNat = n / 256 ^ k % 256 := by simp
    rw [h, Nat.pow_succ, Nat.mod_mul, Nat.add_mul]
    have e : m * 256 * 256 ^ k = m * (256 ^ k * 256) := by rw [Nat.mul_assoc, Nat.mul_comm 256]
    rw [e, Nat.mul_comm (n / 256 ^ k % 256)]
    omega
theorem val_be (k n : Nat) (h : n < 256 ^ k) : val (be k n) = n := by
  unfold val
  rw [valFrom_be, Nat.mod_eq_of_lt h]
  simp

/-- bs holds y at place p. -/
def At (bs : List UInt8) (p : Nat) (y : List UInt8) : Prop := ∃ a c, bs = a ++ (y ++ c) ∧ a.length = p

theorem At.left {bs : List UInt8} {p : Nat} {y z : List UInt8} (h : At bs p (y ++ z)) : At bs p y := by
  obtain ⟨a, c, e, ha⟩ := h
  exact ⟨a, z ++ c, by rw [e, List.append_assoc], ha⟩
theorem At.right {bs : List UInt8} {p : Nat} {y z : List UInt8} (h : At bs p (y ++ z)) : At bs (p + y.length) z := by
  obtain ⟨a, c, e, ha⟩ := h
  exact ⟨a ++ y, c, by rw [e]; simp, by simp [ha]⟩
theorem At.tk {bs : List UInt8} {p : Nat} {y : List UInt8} (h : At bs p y) : tk bs p 0 y.length = (y, p + y.length, 0) := by
  obtain ⟨a, c, rfl, rfl⟩ := h
  unfold Go.Proofs.Ytnnhffjajbiicaa.tk
  rw [if_pos rfl, if_neg (by simp)]
  simp
theorem At.tkn {bs : List UInt8} {p n : Nat} {y : List UInt8} (h : At bs p y) (hn : y.length = n) : Go.Proofs.Ytnnhffjajbiicaa.tk bs p 0 n = (y, p + n, 0) := by subst hn; exact h.tk
theorem At.tx {bs : List UInt8} {p : Nat} {xs : List UInt8} {m : Int} (h : At bs p (textBytes xs)) (hl : xs.length < 4294967296) (hm : xs.length ≤ m.toNat) : tx bs p 0 m = (xs, p + (4 + xs.length), 0) := by
  have h4 : Go.Proofs.Ytnnhffjajbiicaa.tk bs p 0 4 = (be 4 xs.length, p + 4, 0) := h.left.tkn (be_length 4 _)
  have hr : At bs (p + 4) xs := by have := h.right; rwa [be_length] at this
  have hv : val (be 4 xs.length) = xs.length := val_be 4 _ (by omega)
  unfold Go.Proofs.Ytnnhffjajbiicaa.tx
  rw [h4]
  simp only [hv]
  rw [if_neg (by omega), hr.tk, Nat.add_assoc]

theorem goN_run (n : List UInt8) : ∀ (out : List (List UInt8)) (cur xs : List UInt8), n.all good = true → goN out cur (n ++ xs) = goN out (cur ++ n) xs := by
  induction n with
  | nil => intro out cur xs _; simp
  | cons x r ih =>
    intro out cur xs h
    simp only [List.all_cons, Bool.and_eq_true] at h
    rw [List.cons_append, goN_step (by have := (good_iff x).1 h.1; omega), ih _ _ _ h.2]
    simp
theorem okName_good {n : List UInt8} (h : okName n = true) : n.all good = true := by
  unfold okName at h
  simp only [Bool.and_eq_true] at h
  exact h.1.1
theorem goN_names (ns : List (List UInt8)) : ∀ (out : List (List UInt8)) (n : List UInt8), okName n = true → (∀ m ∈ ns, okName m = true) → goN out [] (n ++ Lib.joinTail [44] ns) = some (out ++ n :: ns) := by
  induction ns with
  | nil =>
    intro out n hn _
    rw [goN_run n _ _ _ (okName_good hn)]
    simp only [Lib.joinTail, List.map_nil, List.flatten_nil, List.nil_append]
    rw [goN_end hn]
  | cons m ns ih =>
    intro out n hn hall
    rw [goN_run n _ _ _ (okName_good hn)]
    simp only [Lib.joinTail, List.map_cons, List.flatten_cons, List.nil_append, List.cons_append]
    rw [goN_comma rfl hn]
    have := ih (out ++ [n]) m (hall m (by simp)) (fun k hk => hall k (by simp [hk]))
    simp only [Lib.joinTail] at this
    simpa using this
theorem okName_ne {n : List UInt8} (h : okName n = true) : n ≠ [] := by rintro rfl; simp [okName] at h
theorem parts_join (ns : List (List UInt8)) (h : ∀ m ∈ ns, okName m = true) : parts (Lib.join ns [44]) = some ns := by
  cases ns with
  | nil => rfl
  | cons n ns =>
    rw [Lib.join_cons]
    have hn := h n (by simp)
    unfold parts
    rw [if_neg (by intro e; exact okName_ne hn (List.append_eq_nil_iff.1 e).1), goN_names ns [] n hn (fun m hm => h m (by simp [hm]))]
    rfl
theorem At.nx {bs : List UInt8} {p : Nat} {ss : List ByteArray} (h : At bs p (textBytes (joined ss))) (hl : (joined ss).length ≤ 1000) (hok : ∀ s ∈ ss, okName s.data.toList = true) : nx bs p 0 = (ss.map (·.data.toList), p + (4 + (joined ss).length), 0) := by
  unfold Go.Proofs.Ytnnhffjajbiicaa.nx
  rw [h.tx (by omega) (by simp; omega)]
  have hp : parts (joined ss) = some (ss.map (·.data.toList)) := parts_join _ (fun m hm => by obtain ⟨s, hs, rfl⟩ := List.mem_map.1 hm; exact hok s hs)
  rw [hp]
theorem joined_len (l : List ByteArray) (h : ∀ s ∈ l, s.size ≤ 64) : (joined l).length ≤ 65 * l.length := by
  have h1 : ∀ l : List ByteArray, (∀ s ∈ l, s.size ≤ 64) → (Lib.lens (l.map (·.data.toList))) ≤ 64 * l.length := by
    intro l hl
    induction l with
    | nil => simp [Lib.lens]
    | cons x r ih =>
      have h2 := hl x (by simp)
      have h3 := ih fun s hs => hl s (by simp [hs])
      simp only [Lib.lens, List.map_cons, List.sum_cons, List.length_cons, Array.length_toList] at h3 ⊢
      have : x.size = x.data.size := rfl
      omega
  have h2 := h1 l h
  unfold joined
  cases l with
  | nil => simp [Lib.join_nil]
  | cons x r =>
    rw [List.map_cons, Lib.join_cons, List.length_append, Lib.joinTail_length]
    simp only [Lib.lens, List.map_cons, List.sum_cons, List.length_cons, List.length_nil, List.length_map] at h2 ⊢
    omega
theorem okS_size {s : ByteArray} (h : okS s = true) : s.size ≤ 64 := by
  unfold okS okName at h
  simp only [Bool.and_eq_true, decide_eq_true_eq] at h
  have : s.data.toList.length = s.size := by rw [Array.length_toList]; rfl
  omega

/-- How many bytes texts have together. -/
def lens (l : List ByteArray) : Nat := (l.map fun s => s.size).sum
theorem lens_cons (x : ByteArray) (l : List ByteArray) : lens (x :: l) = x.size + lens l := by simp [lens]
theorem lens_append (a b : List ByteArray) : lens (a ++ b) = lens a + lens b := by simp [lens]
theorem lens_take_succ {l : List ByteArray} {k : Nat} (h : k < l.length) : lens (l.take (k + 1)) = lens (l.take k) + l[k].size := by
  rw [List.take_succ_eq_append_getElem h, lens_append]
  simp [lens]
theorem lens_take_le (l : List ByteArray) (k : Nat) : lens (l.take k) ≤ lens l := by
  have := lens_append (l.take k) (l.drop k)
  rw [List.take_append_drop] at this
  omega
theorem lens_lib (l : List ByteArray) : Lib.lens (l.map (·.data.toList)) = lens l := by
  induction l with
  | nil => rfl
  | cons x r ih =>
    rw [lens_cons, ← ih]
    simp only [Lib.lens, List.map_cons, List.sum_cons, Array.length_toList]
    rfl
theorem joined_length (x : ByteArray) (l : List ByteArray) : (joined (x :: l)).length = lens (x :: l) + l.length := by
  unfold joined
  rw [List.map_cons, Lib.join_cons, List.length_append, Lib.joinTail_length, lens_lib, lens_cons]
  have e : x.data.toList.length = x.size := by rw [Array.length_toList]; rfl
  rw [e]
  simp
  omega
/-- May a list of names be written? -/
def rightNs (l : List ByteArray) : Bool := l.all okS && decide ((joined l).length ≤ 1000)
theorem rightNs_nil : rightNs [] = true := rfl
theorem rightNs_yes {l : List ByteArray} (h : ∀ s ∈ l, okS s = true) (hs : l ≠ [] → lens l + (l.length - 1) ≤ 1000) : rightNs l = true := by
  unfold rightNs
  rw [Bool.and_eq_true, List.all_eq_true, decide_eq_true_eq]
  refine ⟨h, ?_⟩
  cases l with
  | nil => simp [joined, Lib.join_nil]
  | cons x r =>
    have := hs (by simp)
    rw [joined_length]
    simpa using this
theorem rightNs_bad {l : List ByteArray} {s : ByteArray} (h : s ∈ l) (hs : okS s = false) : rightNs l = false := by
  unfold rightNs
  rw [List.all_eq_false.2 ⟨s, h, by simp [hs]⟩]
  rfl
theorem rightNs_long {l : List ByteArray} (hne : l ≠ []) (h : 1000 < lens l + (l.length - 1)) : rightNs l = false := by
  unfold rightNs
  cases l with
  | nil => exact absurd rfl hne
  | cons x r =>
    have : decide ((joined (x :: r)).length ≤ 1000) = false := by
      rw [decide_eq_false_iff_not, joined_length]
      simp at h
      omega
    rw [this, Bool.and_false]
end Go.Proofs.Ytnnhffjajbiicaa
