/- Plain facts on a text's names, on numbers' bytes and on what is read of a text that was written. -/
import Derived.Test.YtmecclefkgbmpabNmR
namespace Go.Proofs.Ytmecclefkgbmpab
open Go Go.RowKit

theorem valFrom_be (k : Nat) : ∀ (m n : Nat), valFrom m (be k n) = m * 256 ^ k + n % 256 ^ k := by
  induction k with
  | zero => intro m n; simp [be, valFrom, Nat.mod_one]
  | succ k ih =>
    intro m n
    rw [be, valFrom, ih]
    have h : (UInt8.ofNat (n / 256 ^ k % 256)).toNat = n / 256 ^ k % 256 := by simp
    rw [h, Nat.pow_succ, Nat.mod_mul, Nat.add_mul]
    have e : m * 256 * 256 ^ k = m * (256 ^ k * 256) := by rw [Nat.mul_assoc, Nat.mul_comm 256]
    rw [e, Nat.mul_comm (n / 256 ^ k % 256)]
    omega
theorem val_be (k n : Nat) (h : n < 256 ^ k) : val (be k n) = n := by
  unfold val
  rw [valFrom_be, Nat.mod_eq_of_lt h]
  simp

theorem tx_text (xs : List UInt8) (h : xs.length ≤ 300) : tx (textBytes xs) 0 0 1000 = (xs, 4 + xs.length, 0) := by
  have h4 : tk (textBytes xs) 0 0 4 = (be 4 xs.length, 4, 0) := by
    unfold tk textBytes
    rw [if_pos rfl, if_neg (by simp [be_length])]
    simp [be_length]
  have hv : val (be 4 xs.length) = xs.length := val_be 4 _ (by omega)
  unfold tx
  rw [h4]
  simp only [hv]
  rw [if_neg (by simp; omega)]
  unfold tk textBytes
  rw [if_pos rfl, if_neg (by simp [be_length])]
  simp [be_length]

def res (xs : List UInt8) : List (List UInt8) × Nat × Int := match parts xs with | some ns => (ns, 4 + xs.length, 0) | none => ([], 0, 12)
theorem nx_text (xs : List UInt8) (h : xs.length ≤ 300) : nx (textBytes xs) 0 0 = res xs := by
  unfold nx res
  rw [tx_text xs h]
  cases parts xs <;> rfl
theorem res_some {xs : List UInt8} {ns : List (List UInt8)} (h : parts xs = some ns) : (res xs).1 = ns ∧ ends (textBytes xs) (res xs).2.1 (res xs).2.2 = (0, 0) := by
  unfold res
  rw [h]
  exact ⟨rfl, by simp [ends, textBytes, be_length]⟩
theorem res_none {xs : List UInt8} (h : parts xs = none) : (res xs).1 = [] ∧ ends (textBytes xs) (res xs).2.1 (res xs).2.2 = (12, 0) := by
  unfold res
  rw [h]
  exact ⟨rfl, by simp [ends]⟩

def glue (out : List (List UInt8)) : List UInt8 := (out.map (· ++ [44])).flatten
theorem glue_snoc (out : List (List UInt8)) (c : List UInt8) : glue (out ++ [c]) = glue out ++ (c ++ [44]) := by simp [glue]

theorem goN_glue (xs : List UInt8) : ∀ (out : List (List UInt8)) (cur : List UInt8) (ns : List (List UInt8)), goN out cur xs = some ns → ∃ o c, ns = o ++ [c] ∧ glue o ++ c = glue out ++ (cur ++ xs) := by
  induction xs with
  | nil =>
    intro out cur ns h
    rw [goN] at h
    split at h
    · cases h; exact ⟨out, cur, rfl, by simp⟩
    · cases h
  | cons x xs ih =>
    intro out cur ns h
    rw [goN] at h
    split at h
    · rename_i hx
      split at h
      · obtain ⟨o, c, e, hg⟩ := ih _ _ _ h
        have hx' : x = 44 := UInt8.toNat_inj.1 hx
        exact ⟨o, c, e, by rw [hg, glue_snoc, hx']; simp⟩
      · cases h
    · obtain ⟨o, c, e, hg⟩ := ih _ _ _ h
      exact ⟨o, c, e, by rw [hg]; simp⟩

/-- What the loop that joins has after k rounds. -/
def bk (ns : List (List UInt8)) (k : Nat) : List UInt8 := match k with | 0 => [] | k + 1 => glue (ns.take k) ++ (ns[k]?).getD []

theorem bk_first (ns : List (List UInt8)) (x : List UInt8) (h : ns[0]? = some x) : bk ns 1 = x := by simp [bk, glue, h]
theorem bk_next (ns : List (List UInt8)) (k : Nat) (x : List UInt8) (h : ns[k + 1]? = some x) : bk ns (k + 2) = (bk ns (k + 1) ++ [44]) ++ x := by
  obtain ⟨hk, e⟩ := List.getElem?_eq_some_iff.1 h
  have h0 : ns[k]? = some ns[k] := List.getElem?_eq_getElem (by omega)
  simp only [bk, h, h0, Option.getD_some]
  rw [List.take_add_one, h0, Option.toList_some, glue_snoc]
  simp
theorem bk_all {xs : List UInt8} {ns : List (List UInt8)} (h : parts xs = some ns) : bk ns ns.length = xs := by
  unfold parts at h
  split at h
  · cases h; simp [bk]; simp_all
  · obtain ⟨o, c, rfl, hg⟩ := goN_glue _ _ _ _ h
    simp only [List.length_append, List.length_cons, List.length_nil, Nat.zero_add, bk]
    simpa [glue] using hg
theorem bk_mono (ns : List (List UInt8)) (k : Nat) (h : k < ns.length) : (bk ns k).length ≤ (bk ns (k + 1)).length := by
  cases k with
  | zero => simp [bk]
  | succ k => rw [bk_next ns k _ (List.getElem?_eq_getElem h)]; simp
theorem bk_le (ns : List (List UInt8)) (j : Nat) : ∀ k, k + j ≤ ns.length → (bk ns k).length ≤ (bk ns (k + j)).length := by
  induction j with
  | zero => intro k _; simp
  | succ j ih => intro k h; exact Nat.le_trans (ih k (by omega)) (bk_mono ns (k + j) (by omega))

/-- How far the loop that looks is: f and its count at place i of xs. -/
def Sees (xs : List UInt8) (f : Bool) (sz i : Nat) : Prop :=
  (f = true → ∃ out cur, sz = cur.length ∧ cur.all good = true ∧ goN [] [] xs = goN out cur (xs.drop i)) ∧ (f = false → goN [] [] xs = none)

theorem okName_iff {cur : List UInt8} (h : cur.all good = true) : okName cur = (decide (1 ≤ cur.length) && decide (cur.length ≤ 64)) := by simp [okName, h]

theorem sees_start (xs : List UInt8) : Sees xs true 0 0 := ⟨fun _ => ⟨[], [], rfl, rfl, by simp⟩, (fun h => by cases h)⟩
theorem sees_no {xs : List UInt8} {sz i : Nat} (h : Sees xs false sz i) (sz' i' : Nat) : Sees xs false sz' i' := ⟨(fun e => by cases e), h.2⟩

theorem sees_comma {xs : List UInt8} {sz i : Nat} {x : UInt8} (h : Sees xs true sz i) (hx : xs[i]? = some x) (hc : x.toNat = 44) :
    Sees xs (decide (0 < sz) && decide (sz ≤ 64) && decide (i + 1 < xs.length)) 0 (i + 1) := by
  obtain ⟨out, cur, rfl, hg, he⟩ := h.1 rfl
  obtain ⟨hi, e⟩ := List.getElem?_eq_some_iff.1 hx
  rw [List.drop_eq_getElem_cons hi, e] at he
  by_cases ho : okName cur = true
  · rw [goN_comma hc ho] at he
    rw [okName_iff hg] at ho
    simp at ho
    by_cases hl : i + 1 < xs.length
    · exact ⟨fun _ => ⟨_, _, rfl, rfl, he⟩, fun h => by simp [hl] at h; omega⟩
    · rw [List.drop_of_length_le (by omega), goN_endNo (by decide)] at he
      exact ⟨fun h => by simp [hl] at h, fun _ => he⟩
  · have ho' : okName cur = false := by simpa using ho
    rw [goN_commaNo hc ho'] at he
    rw [okName_iff hg] at ho
    exact ⟨fun h => by simp at h ho; omega, fun _ => he⟩
theorem sees_other {xs : List UInt8} {sz i : Nat} {x : UInt8} (h : Sees xs true sz i) (hx : xs[i]? = some x) (hc : ¬ x.toNat = 44) :
    Sees xs (decide (33 ≤ x.toNat) && decide (x.toNat ≤ 126)) (sz + 1) (i + 1) := by
  obtain ⟨out, cur, rfl, hg, he⟩ := h.1 rfl
  obtain ⟨hi, e⟩ := List.getElem?_eq_some_iff.1 hx
  rw [List.drop_eq_getElem_cons hi, e] at he
  by_cases hgd : good x = true
  · rw [goN_step hc] at he
    have h3 := (good_iff x).1 hgd
    exact ⟨fun _ => ⟨out, cur ++ [x], by simp, by simp [hg, hgd], he⟩, fun h => by simp at h; omega⟩
  · have hgd' : good x = false := by simpa using hgd
    rw [goN_wrong hgd' hc] at he
    refine ⟨fun h => ?_, fun _ => he⟩
    exact absurd ((good_iff x).2 (by simp at h; omega)) hgd
/-- At the end: the loop's verdict is that of the names. -/
theorem sees_end {xs : List UInt8} {f : Bool} {sz : Nat} (h : Sees xs f sz xs.length) (h0 : xs.length = 0 → f = true) :
    (f = true ∧ (xs.length = 0 ∨ (0 < sz ∧ sz ≤ 64)) → ∃ ns, parts xs = some ns) ∧ (¬ (f = true ∧ (xs.length = 0 ∨ (0 < sz ∧ sz ≤ 64))) → parts xs = none) := by
  by_cases hn : xs = []
  · subst hn
    exact ⟨fun _ => ⟨[], by simp [parts]⟩, fun hc => absurd ⟨h0 rfl, .inl rfl⟩ hc⟩
  · have hl : xs.length ≠ 0 := by simpa using hn
    unfold parts
    rw [if_neg hn]
    cases f with
    | false => exact ⟨fun hc => by simp at hc, fun _ => h.2 rfl⟩
    | true =>
      obtain ⟨out, cur, rfl, hg, he⟩ := h.1 rfl
      rw [List.drop_of_length_le (Nat.le_refl _)] at he
      by_cases ho : okName cur = true
      · rw [goN_end ho] at he
        rw [okName_iff hg] at ho
        simp at ho
        exact ⟨fun _ => ⟨_, he⟩, fun hc => by exfalso; apply hc; exact ⟨rfl, .inr ⟨by omega, by omega⟩⟩⟩
      · have ho' : okName cur = false := by simpa using ho
        rw [goN_endNo ho'] at he
        rw [okName_iff hg] at ho
        refine ⟨fun hc => ?_, fun _ => he⟩
        exfalso
        obtain ⟨_, e | ⟨h1, h2⟩⟩ := hc
        · exact hl e
        · simp at ho; omega

theorem bab_append (a b : List UInt8) : (⟨a.toArray⟩ : ByteArray) ++ ⟨b.toArray⟩ = ⟨(a ++ b).toArray⟩ := by
  apply ByteArray.ext
  simp [ByteArray.data_append]
theorem bab_size (a : List UInt8) : (⟨a.toArray⟩ : ByteArray).size = a.length := by simp [ByteArray.size]
theorem bab_self (s : ByteArray) (l : List UInt8) (h : l = s.data.toList) : (⟨l.toArray⟩ : ByteArray) = s := by
  subst h
  apply ByteArray.ext
  simp
theorem bk_size {xs : List UInt8} {ns : List (List UInt8)} (h : parts xs = some ns) (k : Nat) (hk : k ≤ ns.length) : (bk ns k).length ≤ xs.length := by
  have h1 := bk_le ns (ns.length - k) k (by omega)
  rw [show k + (ns.length - k) = ns.length from by omega, bk_all h] at h1
  exact h1
theorem name_size {xs : List UInt8} {ns : List (List UInt8)} (h : parts xs = some ns) (k : Nat) (x : List UInt8) (hk : ns[k]? = some x) : x.length ≤ xs.length := by
  obtain ⟨hl, e⟩ := List.getElem?_eq_some_iff.1 hk
  have h1 := bk_size h (k + 1) (by omega)
  cases k with
  | zero => rw [bk_first ns x hk] at h1; exact h1
  | succ k => rw [bk_next ns k x hk] at h1; simp at h1; omega

theorem ssl_addr {w : World} {ao : Option Addr} {n cap : Nat} {ss : List ByteArray} (h : SSl w (.slice ao n cap) ss) (hne : ss ≠ []) : ∃ b off, ao = some ⟨b, off, none⟩ := by
  obtain ⟨ao', cap', e, _, _, h3, h4⟩ := h
  cases e
  cases ao with
  | none => exact absurd (h3 rfl).1 hne
  | some ad => obtain ⟨b, off, rfl, _⟩ := h4 ad rfl hne; exact ⟨b, off, rfl⟩
theorem ssl_cell {w : World} {b off n cap : Nat} {ss : List ByteArray} (h : SSl w (.slice (some ⟨b, off, none⟩) n cap) ss) (k : Nat) (x : ByteArray) (hk : ss[k]? = some x) : w.cell? ⟨b, off + k, none⟩ = some (.string x) := by
  obtain ⟨ao', cap', e, _, _, h3, h4⟩ := h
  cases e
  obtain ⟨b', off', e, hc⟩ := h4 _ rfl (by rintro rfl; simp at hk)
  cases e
  exact hc k x hk

end Go.Proofs.Ytmecclefkgbmpab
