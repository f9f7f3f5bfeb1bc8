/- The order of names; a directory's rows of names, kept in order. -/
import Derived.Test.YtnigfnikajejaabAtP
import Derived.Test.YtnigfnikajejaabPaP
namespace Go.Proofs.Ytnigfnikajejaab
open Go Go.RowKit

abbrev Nm := ByteArray
def nlt (a b : Nm) : Bool := Op.bytesLess a.data.toList b.data.toList

theorem bl_irrefl : ∀ l, Op.bytesLess l l = false
  | [] => rfl
  | a :: l => by simp [Op.bytesLess, bl_irrefl l]
theorem bl_trans : ∀ a b c, Op.bytesLess a b = true → Op.bytesLess b c = true → Op.bytesLess a c = true
  | _, _, [], _, h => by simp [Op.bytesLess] at h
  | _, [], _ :: _, h, _ => by simp [Op.bytesLess] at h
  | [], _ :: _, _ :: _, _, _ => rfl
  | a :: x, b :: y, c :: z, h, k => by
    simp only [Op.bytesLess, Bool.or_eq_true, Bool.and_eq_true, decide_eq_true_eq, beq_iff_eq] at h k ⊢
    rcases h with h | ⟨rfl, h⟩
    · rcases k with k | ⟨rfl, k⟩
      · exact .inl (UInt8.lt_trans h k)
      · exact .inl h
    · rcases k with k | ⟨rfl, k⟩
      · exact .inl k
      · exact .inr ⟨rfl, bl_trans _ _ _ h k⟩
theorem bl_tri : ∀ a b, Op.bytesLess a b = true ∨ a = b ∨ Op.bytesLess b a = true
  | [], [] => .inr (.inl rfl)
  | [], _ :: _ => .inl rfl
  | _ :: _, [] => .inr (.inr rfl)
  | a :: x, b :: y => by
    simp only [Op.bytesLess, Bool.or_eq_true, Bool.and_eq_true, decide_eq_true_eq, beq_iff_eq]
    rcases Nat.lt_trichotomy a.toNat b.toNat with h | h | h
    · exact .inl (.inl (UInt8.lt_iff_toNat_lt.2 h))
    · have e : a = b := UInt8.toNat_inj.1 h
      subst e
      rcases bl_tri x y with k | rfl | k
      · exact .inl (.inr ⟨rfl, k⟩)
      · exact .inr (.inl rfl)
      · exact .inr (.inr (.inr ⟨rfl, k⟩))
    · exact .inr (.inr (.inl (UInt8.lt_iff_toNat_lt.2 h)))
theorem nlt_irrefl (a : Nm) : nlt a a = false := bl_irrefl _
theorem nlt_ne {a b : Nm} (h : nlt a b = true) : a ≠ b := by rintro rfl; rw [nlt_irrefl] at h; cases h
theorem nlt_trans {a b c : Nm} (h : nlt a b = true) (k : nlt b c = true) : nlt a c = true := bl_trans _ _ _ h k
theorem nlt_asymm {a b : Nm} (h : nlt a b = true) : nlt b a = false := by
  cases k : nlt b a
  · rfl
  · have := nlt_trans h k; rw [nlt_irrefl] at this; cases this
theorem nlt_tri (a b : Nm) : nlt a b = true ∨ a = b ∨ nlt b a = true := by
  rcases bl_tri a.data.toList b.data.toList with h | h | h
  · exact .inl h
  · exact .inr (.inl (ByteArray.ext (Array.toList_inj.1 h)))
  · exact .inr (.inr h)
theorem nlt_ge {a b : Nm} (h : nlt a b = false) (hn : a ≠ b) : nlt b a = true := by
  rcases nlt_tri a b with k | k | k
  · rw [h] at k; cases k
  · exact absurd k hn
  · exact k

/-- What a directory holds: names and numbers. -/
abbrev HL := List (Nm × Nat)
variable {β : Type}
def Srt (h : List (Nm × β)) : Prop := h.Pairwise fun a b => nlt a.1 b.1 = true
def getH (h : List (Nm × β)) (n : Nm) : Option β := (h.find? fun e => decide (e.1 = n)).map (·.2)
def posH (h : List (Nm × β)) (n : Nm) : Nat := (h.takeWhile fun e => nlt e.1 n).length
def insH (h : List (Nm × β)) (n : Nm) (j : β) : List (Nm × β) := h.take (posH h n) ++ (n, j) :: h.drop (posH h n)
def delH (h : List (Nm × β)) (n : Nm) : List (Nm × β) := h.filter fun e => !decide (e.1 = n)

theorem Srt.tail {e : Nm × β} {h : List (Nm × β)} (s : Srt (e :: h)) : Srt h := (List.pairwise_cons.1 s).2
theorem Srt.head {e : Nm × β} {h : List (Nm × β)} (s : Srt (e :: h)) : ∀ x ∈ h, nlt e.1 x.1 = true := (List.pairwise_cons.1 s).1
theorem posH_le (h : List (Nm × β)) (n : Nm) : posH h n ≤ h.length := List.Sublist.length_le (List.takeWhile_sublist _)
theorem posH_cons (e : Nm × β) (h : List (Nm × β)) (n : Nm) : posH (e :: h) n = if nlt e.1 n then posH h n + 1 else 0 := by
  unfold posH
  rw [List.takeWhile_cons]
  split <;> simp
theorem posH_lt {h : List (Nm × β)} {n : Nm} {k : Nat} (hk : k < posH h n) (hl : k < h.length) : nlt (h[k]).1 n = true := by
  induction h generalizing k with
  | nil => simp at hl
  | cons e r ih =>
    rw [posH_cons] at hk
    cases he : nlt e.1 n
    · rw [he] at hk; simp at hk
    · rw [he, if_pos rfl] at hk
      cases k with
      | zero => simpa using he
      | succ k => simpa using ih (k := k) (by omega) (by simpa using hl)
theorem posH_ge {h : List (Nm × β)} (s : Srt h) {n : Nm} {k : Nat} (hk : posH h n ≤ k) (hl : k < h.length) : nlt (h[k]).1 n = false := by
  induction h generalizing k with
  | nil => simp at hl
  | cons e r ih =>
    rw [posH_cons] at hk
    cases he : nlt e.1 n
    · cases k with
      | zero => simpa using he
      | succ k =>
        have hm : r[k]'(by simpa using hl) ∈ r := List.getElem_mem _
        have h1 := s.head _ hm
        show nlt (r[k]'(by simpa using hl)).1 n = false
        cases hx : nlt (r[k]'(by simpa using hl)).1 n
        · rfl
        · rw [nlt_trans h1 hx] at he; cases he
    · rw [he, if_pos rfl] at hk
      cases k with
      | zero => omega
      | succ k => simpa using ih s.tail (k := k) (by omega) (by simpa using hl)
/-- The place is told by its two sides. -/
theorem posH_uniq {h : List (Nm × β)} (s : Srt h) {n : Nm} {p : Nat} (hp : p ≤ h.length) (h1 : ∀ k (hl : k < h.length), k < p → nlt (h[k]).1 n = true) (h2 : ∀ k (hl : k < h.length), p ≤ k → nlt (h[k]).1 n = false) : p = posH h n := by
  rcases Nat.lt_trichotomy p (posH h n) with hlt | heq | hgt
  · have hl : p < h.length := Nat.lt_of_lt_of_le hlt (posH_le _ _)
    have := h2 p hl (Nat.le_refl _)
    rw [posH_lt hlt hl] at this; cases this
  · exact heq
  · have hl : posH h n < h.length := by omega
    have := h1 _ hl hgt
    rw [posH_ge s (Nat.le_refl _) hl] at this; cases this
theorem mem_name {h : List (Nm × β)} (s : Srt h) {a b : Nm × β} (ha : a ∈ h) (hb : b ∈ h) (e : a.1 = b.1) : a = b := by
  induction h with
  | nil => cases ha
  | cons x r ih =>
    rcases List.mem_cons.1 ha with rfl | ha'
    · rcases List.mem_cons.1 hb with rfl | hb'
      · rfl
      · exact absurd e (nlt_ne (s.head _ hb'))
    · rcases List.mem_cons.1 hb with rfl | hb'
      · exact absurd e.symm (nlt_ne (s.head _ ha'))
      · exact ih s.tail ha' hb'
theorem getH_some {h : List (Nm × β)} (s : Srt h) (n : Nm) (j : β) : getH h n = some j ↔ (n, j) ∈ h := by
  unfold getH
  constructor
  · intro e
    obtain ⟨x, hx, rfl⟩ := Option.map_eq_some_iff.1 e
    have h1 := List.find?_some hx
    have h2 := List.mem_of_find?_eq_some hx
    simp only [decide_eq_true_eq] at h1
    subst h1
    exact h2
  · intro hm
    cases hf : h.find? fun e => decide (e.1 = n) with
    | none =>
      have := List.find?_eq_none.1 hf _ hm
      simp at this
    | some x =>
      have h1 := List.find?_some hf
      have h2 := List.mem_of_find?_eq_some hf
      simp only [decide_eq_true_eq] at h1
      have := mem_name s h2 hm h1
      subst this
      rfl
theorem getH_none {h : List (Nm × β)} (n : Nm) : getH h n = none ↔ ∀ j, (n, j) ∉ h := by
  unfold getH
  rw [Option.map_eq_none_iff, List.find?_eq_none]
  constructor
  · intro hh j hm
    have := hh _ hm
    simp at this
  · rintro hh ⟨a, b⟩ hm
    simp only [decide_eq_true_eq]
    rintro rfl
    exact hh b hm
/-- What lies at a name's place. -/
theorem getH_at {h : List (Nm × β)} (s : Srt h) (n : Nm) : getH h n = if hp : posH h n < h.length then (if (h[posH h n]).1 = n then some (h[posH h n]).2 else none) else none := by
  split
  · next hp =>
    split
    · next e => exact (getH_some s n _).2 (by have hm := List.getElem_mem hp; generalize h[posH h n] = x at e hm ⊢; subst e; exact hm)
    · next e =>
      rw [getH_none]
      intro j hm
      obtain ⟨k, hk, hke⟩ := List.mem_iff_getElem.1 hm
      rcases Nat.lt_trichotomy k (posH h n) with hlt | heq | hgt
      · have := posH_lt hlt hk
        rw [hke, nlt_irrefl] at this; cases this
      · subst heq
        rw [hke] at e
        exact e rfl
      · have h1 := List.pairwise_iff_getElem.1 s _ _ hp hk hgt
        have h2 := posH_ge s (Nat.le_refl _) hp
        rw [hke] at h1
        rw [h2] at h1; cases h1
  · next hp =>
    rw [getH_none]
    intro j hm
    obtain ⟨k, hk, hke⟩ := List.mem_iff_getElem.1 hm
    have hlt : k < posH h n := by omega
    have := posH_lt hlt hk
    rw [hke, nlt_irrefl] at this; cases this
theorem mem_insH (h : List (Nm × β)) (n : Nm) (j : β) (x : Nm × β) : x ∈ insH h n j ↔ x = (n, j) ∨ x ∈ h := by
  unfold insH
  have : x ∈ h ↔ x ∈ h.take (posH h n) ∨ x ∈ h.drop (posH h n) := by rw [← List.mem_append, List.take_append_drop]
  rw [this]
  simp only [List.mem_append, List.mem_cons]
  constructor
  · rintro (h | h | h)
    · exact .inr (.inl h)
    · exact .inl h
    · exact .inr (.inr h)
  · rintro (h | h | h)
    · exact .inr (.inl h)
    · exact .inl h
    · exact .inr (.inr h)
theorem insH_cons (e : Nm × β) (h : List (Nm × β)) (n : Nm) (j : β) : insH (e :: h) n j = if nlt e.1 n then e :: insH h n j else (n, j) :: e :: h := by
  unfold insH
  rw [posH_cons]
  split <;> simp
theorem insH_srt {h : List (Nm × β)} (s : Srt h) {n : Nm} (hn : getH h n = none) (j : β) : Srt (insH h n j) := by
  rw [getH_none] at hn
  induction h with
  | nil => simp [insH, posH, Srt]
  | cons e r ih =>
    rw [insH_cons]
    split
    · next hl =>
      refine List.pairwise_cons.2 ⟨fun x hx => ?_, ih s.tail fun j hm => hn j (List.mem_cons_of_mem _ hm)⟩
      rcases (mem_insH _ _ _ _).1 hx with rfl | hx
      · exact hl
      · exact s.head _ hx
    · next hl =>
      have hl' : nlt e.1 n = false := by simpa using hl
      have he : nlt n e.1 = true := nlt_ge hl' fun h => hn e.2 (by rw [← h]; exact List.mem_cons_self)
      refine List.pairwise_cons.2 ⟨fun x hx => ?_, s⟩
      rcases List.mem_cons.1 hx with rfl | hx
      · exact he
      · exact nlt_trans he (s.head _ hx)
theorem insH_length (h : List (Nm × β)) (n : Nm) (j : β) : (insH h n j).length = h.length + 1 := by
  unfold insH
  have := posH_le h n
  simp
  omega
theorem mem_delH (h : List (Nm × β)) (n : Nm) (x : Nm × β) : x ∈ delH h n ↔ x ∈ h ∧ x.1 ≠ n := by simp [delH]
theorem delH_srt {h : List (Nm × β)} (s : Srt h) (n : Nm) : Srt (delH h n) := List.Pairwise.filter _ s
theorem delH_none {h : List (Nm × β)} {n : Nm} (hn : getH h n = none) : delH h n = h := by
  rw [getH_none] at hn
  unfold delH
  rw [List.filter_eq_self]
  rintro ⟨a, b⟩ hm
  simp only [Bool.not_eq_true', decide_eq_false_iff_not]
  rintro rfl
  exact hn b hm
/-- What is there is cut out at its place. -/
theorem delH_at {h : List (Nm × β)} (s : Srt h) {n : Nm} {j : β} (hn : getH h n = some j) : posH h n < h.length ∧ delH h n = h.take (posH h n) ++ h.drop (posH h n + 1) := by
  have hm := (getH_some s n j).1 hn
  clear hn
  induction h with
  | nil => cases hm
  | cons e r ih =>
    rw [posH_cons]
    rcases List.mem_cons.1 hm with rfl | hm'
    · rw [if_neg (by simp [nlt_irrefl])]
      refine ⟨by simp, ?_⟩
      have : delH r n = r := delH_none ((getH_none n).2 fun k hk => absurd rfl (nlt_ne (s.head (n, k) hk)))
      simpa [delH] using this
    · have he := s.head _ hm'
      rw [he, if_pos rfl]
      obtain ⟨i1, i2⟩ := ih s.tail hm'
      refine ⟨by simpa using i1, ?_⟩
      have hne : ¬ e.1 = n := nlt_ne he
      simp only [List.take_succ_cons, List.drop_succ_cons, List.cons_append]
      rw [← i2]
      simp [delH, hne]
theorem delH_length_le (h : List (Nm × β)) (n : Nm) : (delH h n).length ≤ h.length := List.length_filter_le _ _
/-- Two rows in order that hold the same are the same. -/
theorem srt_ext : ∀ {a b : List (Nm × β)}, Srt a → Srt b → (∀ x, x ∈ a ↔ x ∈ b) → a = b
  | [], [], _, _, _ => rfl
  | [], y :: _, _, _, h => absurd ((h y).2 List.mem_cons_self) (by simp)
  | x :: _, [], _, _, h => absurd ((h x).1 List.mem_cons_self) (by simp)
  | x :: a, y :: b, sa, sb, h => by
    have e : x = y := by
      rcases List.mem_cons.1 ((h x).1 List.mem_cons_self) with h1 | h1
      · exact h1
      · rcases List.mem_cons.1 ((h y).2 List.mem_cons_self) with h2 | h2
        · exact h2.symm
        · have k1 := sb.head _ h1
          have k2 := sa.head _ h2
          rw [nlt_asymm k1] at k2; cases k2
    subst e
    rw [srt_ext sa.tail sb.tail]
    intro z
    constructor
    · intro hz
      rcases List.mem_cons.1 ((h z).1 (List.mem_cons_of_mem _ hz)) with rfl | h1
      · exact absurd rfl (nlt_ne (sa.head _ hz))
      · exact h1
    · intro hz
      rcases List.mem_cons.1 ((h z).2 (List.mem_cons_of_mem _ hz)) with rfl | h1
      · exact absurd rfl (nlt_ne (sb.head _ hz))
      · exact h1

end Go.Proofs.Ytnigfnikajejaab
