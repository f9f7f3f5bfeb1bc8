/- Plain facts: what is read at a place of bytes that were written there. -/
import Derived.Test.YtahlefnkdbomfaaBackO
namespace Go.Proofs.Ytahlefnkdbomfaa
open Go Go.RowKit

theorem valFrom_be (k : Nat) : ∀ (m n : Nat), valFrom m (be k n) = m * 256 ^ k + n % 256 ^ k := by
  induction k with
  | zero => intro m n; simp [be, valFrom, Nat.mod_one]
  | succ k ih =>
    intro m n
    rw [be, valFrom, ih]
    have h : (UInt8.ofNat (n / 256 ^ k % 256)).toNat = n / 256 ^ k % 256 := by simp
    rw [h, Nat.pow_succ, Nat.mod_mul, Nat.add_mul]
    have e : m * 256 * 256 ^ k = m * (256 ^ k * 256) := by rw [Nat.mul_assoc, Nat.mul_comm 256]
    rw [e, Nat.mul_comm (n / 256 ^ k % 256)]
    omega
theorem val_be (k n : Nat) (h : n < 256 ^ k) : val (be k n) = n := by
  unfold val
  rw [valFrom_be, Nat.mod_eq_of_lt h]
  simp

/-- bs holds y at place p. -/
def At (bs : List UInt8) (p : Nat) (y : List UInt8) : Prop := ∃ a c, bs = a ++ (y ++ c) ∧ a.length = p

theorem At.left {bs : List UInt8} {p : Nat} {y z : List UInt8} (h : At bs p (y ++ z)) : At bs p y := by
  obtain ⟨a, c, e, ha⟩ := h
  exact ⟨a, z ++ c, by rw [e, List.append_assoc], ha⟩
theorem At.right {bs : List UInt8} {p : Nat} {y z : List UInt8} (h : At bs p (y ++ z)) : At bs (p + y.length) z := by
  obtain ⟨a, c, e, ha⟩ := h
  exact ⟨a ++ y, c, by rw [e]; simp, by simp [ha]⟩
theorem At.tk {bs : List UInt8} {p : Nat} {y : List UInt8} (h : At bs p y) : tk bs p 0 y.length = (y, p + y.length, 0) := by
  obtain ⟨a, c, rfl, rfl⟩ := h
  unfold Go.Proofs.Ytahlefnkdbomfaa.tk
  rw [if_pos rfl, if_neg (by simp)]
  simp
theorem At.tkn {bs : List UInt8} {p n : Nat} {y : List UInt8} (h : At bs p y) (hn : y.length = n) : Go.Proofs.Ytahlefnkdbomfaa.tk bs p 0 n = (y, p + n, 0) := by subst hn; exact h.tk
theorem At.tx {bs : List UInt8} {p : Nat} {xs : List UInt8} {m : Int} (h : At bs p (textBytes xs)) (hl : xs.length < 4294967296) (hm : xs.length ≤ m.toNat) : tx bs p 0 m = (xs, p + (4 + xs.length), 0) := by
  have h4 : Go.Proofs.Ytahlefnkdbomfaa.tk bs p 0 4 = (be 4 xs.length, p + 4, 0) := h.left.tkn (be_length 4 _)
  have hr : At bs (p + 4) xs := by have := h.right; rwa [be_length] at this
  have hv : val (be 4 xs.length) = xs.length := val_be 4 _ (by omega)
  unfold Go.Proofs.Ytahlefnkdbomfaa.tx
  rw [h4]
  simp only [hv]
  rw [if_neg (by omega), hr.tk, Nat.add_assoc]

/-- The bytes of a number, without their length. -/
def mpIn (xs : List UInt8) : List UInt8 := match bare xs with | [] => [] | x :: r => if 128 ≤ x.toNat then 0 :: x :: r else x :: r
theorem mp_in (xs : List UInt8) : mpBytes xs = textBytes (mpIn xs) := by
  unfold mpBytes mpIn textBytes
  cases bare xs with
  | nil => simp
  | cons x r => by_cases h : 128 ≤ x.toNat <;> simp [h]
theorem bare_head {xs r : List UInt8} {x : UInt8} (h : bare xs = x :: r) : x ≠ 0 := by
  induction xs with
  | nil => cases h
  | cons y ys ih =>
    unfold bare at h
    split at h
    · exact ih h
    · cases h; assumption
theorem mp_out (xs : List UInt8) : mpOf (mpIn xs) = some (bare xs) := by
  unfold mpIn
  cases h : bare xs with
  | nil => rfl
  | cons x r =>
    have hx := bare_head h
    by_cases h1 : 128 ≤ x.toNat
    · simp [h1, mpOf]
    · simp [h1, mpOf, hx]
theorem mpIn_len (xs : List UInt8) : (mpIn xs).length ≤ xs.length + 1 := by
  have h := bare_le xs
  unfold mpIn
  cases hb : bare xs with
  | nil => simp
  | cons x r =>
    rw [hb] at h
    simp only [List.length_cons] at h
    by_cases h1 : 128 ≤ x.toNat
    · simp [h1]; omega
    · simp [h1]; omega
theorem At.mx {bs : List UInt8} {p : Nat} {xs : List UInt8} {m : Int} (h : At bs p (mpBytes xs)) (hl : xs.length < 4294967290) (hm : xs.length + 1 ≤ m.toNat) : mx bs p 0 m = (bare xs, p + (mpBytes xs).length, 0) := by
  have h1 := mpIn_len xs
  rw [mp_in] at h ⊢
  unfold Go.Proofs.Ytahlefnkdbomfaa.mx
  rw [h.tx (by omega) (by omega), mp_out]
  simp [textBytes, be_length]

theorem goN_run (n : List UInt8) : ∀ (out : List (List UInt8)) (cur xs : List UInt8), n.all good = true → goN out cur (n ++ xs) = goN out (cur ++ n) xs := by
  induction n with
  | nil => intro out cur xs _; simp
  | cons x r ih =>
    intro out cur xs h
    simp only [List.all_cons, Bool.and_eq_true] at h
    rw [List.cons_append, goN_step (by have := (good_iff x).1 h.1; omega), ih _ _ _ h.2]
    simp
theorem okName_good {n : List UInt8} (h : okName n = true) : n.all good = true := by
  unfold okName at h
  simp only [Bool.and_eq_true] at h
  exact h.1.1
theorem goN_names (ns : List (List UInt8)) : ∀ (out : List (List UInt8)) (n : List UInt8), okName n = true → (∀ m ∈ ns, okName m = true) → goN out [] (n ++ Lib.joinTail [44] ns) = some (out ++ n :: ns) := by
  induction ns with
  | nil =>
    intro out n hn _
    rw [goN_run n _ _ _ (okName_good hn)]
    simp only [Lib.joinTail, List.map_nil, List.flatten_nil, List.nil_append]
    rw [goN_end hn]
  | cons m ns ih =>
    intro out n hn hall
    rw [goN_run n _ _ _ (okName_good hn)]
    simp only [Lib.joinTail, List.map_cons, List.flatten_cons, List.nil_append, List.cons_append]
    rw [goN_comma rfl hn]
    have := ih (out ++ [n]) m (hall m (by simp)) (fun k hk => hall k (by simp [hk]))
    simp only [Lib.joinTail] at this
    simpa using this
theorem okName_ne {n : List UInt8} (h : okName n = true) : n ≠ [] := by rintro rfl; simp [okName] at h
theorem parts_join (ns : List (List UInt8)) (h : ∀ m ∈ ns, okName m = true) : parts (Lib.join ns [44]) = some ns := by
  cases ns with
  | nil => rfl
  | cons n ns =>
    rw [Lib.join_cons]
    have hn := h n (by simp)
    unfold parts
    rw [if_neg (by intro e; exact okName_ne hn (List.append_eq_nil_iff.1 e).1), goN_names ns [] n hn (fun m hm => h m (by simp [hm]))]
    rfl
theorem At.nx {bs : List UInt8} {p : Nat} {ss : List ByteArray} (h : At bs p (textBytes (joined ss))) (hl : (joined ss).length ≤ 1000) (hok : ∀ s ∈ ss, okName s.data.toList = true) : nx bs p 0 = (ss.map (·.data.toList), p + (4 + (joined ss).length), 0) := by
  unfold Go.Proofs.Ytahlefnkdbomfaa.nx
  rw [h.tx (by omega) (by simp; omega)]
  have hp : parts (joined ss) = some (ss.map (·.data.toList)) := parts_join _ (fun m hm => by obtain ⟨s, hs, rfl⟩ := List.mem_map.1 hm; exact hok s hs)
  rw [hp]

end Go.Proofs.Ytahlefnkdbomfaa
