/- Paths, plainly: which names are right, what the parts of a text lead to, and what joined names are. -/
import Derived.Test.YtnigfnikajejaabPaA
namespace Go.Proofs.Ytnigfnikajejaab
open Go Go.RowKit


/-- A text out of its bytes. -/
def tb (l : List UInt8) : ByteArray := ⟨l.toArray⟩
theorem tb_list (l : List UInt8) : (tb l).data.toList = l := by simp [tb]
theorem tb_size (l : List UInt8) : (tb l).size = l.length := by simp [tb, ByteArray.size]
theorem tb_of (s : ByteArray) : tb s.data.toList = s := by apply ByteArray.ext; simp [tb]
theorem tb_inj {a b : List UInt8} (h : tb a = tb b) : a = b := by rw [← tb_list a, h, tb_list]
theorem size_len (s : ByteArray) : s.size = s.data.toList.length := by rw [Array.length_toList]; rfl
def fineB (b : UInt8) : Bool := b != 0 && b != 47
/-- May a thing be named so? -/
def rightP (p : List UInt8) : Bool := decide (1 ≤ p.length) && decide (p.length ≤ 30) && p.all fineB && !(p == [46]) && !(p == [46, 46])
theorem rightP_iff (p : List UInt8) : rightP p = true ↔ 1 ≤ p.length ∧ p.length ≤ 30 ∧ p.all fineB = true ∧ p ≠ [46] ∧ p ≠ [46, 46] := by
  simp [rightP, and_assoc]
/-- The names that one part leads to; none: the part may not be. -/
def stepP (acc : List ByteArray) (p : List UInt8) : Option (List ByteArray) :=
  if p = [] ∨ p = [46] then some acc else if p = [46, 46] then some acc.dropLast else if rightP p then some (acc ++ [tb p]) else none
/-- The names that the rest of a text leads to, cur of the part being read. -/
def goP : List ByteArray → List UInt8 → List UInt8 → Option (List ByteArray)
  | acc, cur, [] => stepP acc cur
  | acc, cur, b :: t => if b = 47 then (stepP acc cur).bind fun a => goP a [] t else goP acc (cur ++ [b]) t
/-- A stroke and each name. -/
def flat (l : List ByteArray) : List UInt8 := l.flatMap fun s => 47 :: s.data.toList
def joinP (l : List ByteArray) : List UInt8 := if l = [] then [47] else flat l
/-- A path that Ref's Join writes: a stroke where there is nothing. -/
theorem flat_nil : flat [] = [] := rfl
theorem flat_cons (s : ByteArray) (l : List ByteArray) : flat (s :: l) = 47 :: (s.data.toList ++ flat l) := rfl
theorem flat_append (a b : List ByteArray) : flat (a ++ b) = flat a ++ flat b := by simp [flat]
theorem flat_ne {l : List ByteArray} (h : l ≠ []) : flat l ≠ [] := by
  cases l with
  | nil => exact absurd rfl h
  | cons x l => rw [flat_cons]; simp
theorem joinP_flat {l : List ByteArray} (h : l ≠ []) : joinP l = flat l := by simp [joinP, h]
theorem joinP_ref (l : List ByteArray) : joinP l = if flat l = [] then [47] else flat l := by
  by_cases h : l = []
  · subst h; rfl
  · rw [joinP_flat h, if_neg (flat_ne h)]
theorem fine_no (p : List UInt8) (h : p.all fineB = true) : ∀ b ∈ p, b ≠ 47 := by
  intro b hb
  have := List.all_eq_true.1 h b hb
  simp [fineB] at this
  exact this.2
theorem stepP_nil (acc : List ByteArray) : stepP acc [] = some acc := by simp [stepP]
theorem stepP_dot (acc : List ByteArray) : stepP acc [46] = some acc := by simp [stepP]
theorem stepP_up (acc : List ByteArray) : stepP acc [46, 46] = some acc.dropLast := by simp [stepP]
theorem stepP_right {p : List UInt8} (acc : List ByteArray) (h : rightP p = true) : stepP acc p = some (acc ++ [tb p]) := by
  have h' := (rightP_iff p).1 h
  have h0 : p ≠ [] := by rintro rfl; simp at h'
  simp [stepP, h0, h'.2.2.2.1, h'.2.2.2.2, h]
theorem goP_app (acc : List ByteArray) (p : List UInt8) (hp : ∀ b ∈ p, b ≠ 47) : ∀ (cur q : List UInt8), goP acc cur (p ++ q) = goP acc (cur ++ p) q := by
  induction p with
  | nil => intro cur q; simp
  | cons b p ih =>
    intro cur q
    have hb := hp b (by simp)
    rw [List.cons_append, goP, if_neg hb, ih (fun x hx => hp x (by simp [hx]))]
    simp
theorem goP_stroke (s t : List UInt8) : ∀ (acc : List ByteArray) (cur : List UInt8), goP acc cur (s ++ 47 :: t) = (goP acc cur s).bind fun a => goP a [] t := by
  induction s with
  | nil => intro acc cur; simp [goP]
  | cons b s ih =>
    intro acc cur
    rw [List.cons_append, goP, goP]
    by_cases hb : b = 47
    · rw [if_pos hb, if_pos hb, Option.bind_assoc]
      congr 1
      funext a
      exact ih a []
    · rw [if_neg hb, if_neg hb]
      exact ih _ _
theorem goP_flat (l : List ByteArray) (hl : ∀ s ∈ l, rightP s.data.toList = true) : ∀ (acc : List ByteArray) (cur : List UInt8), goP acc cur (flat l) = (stepP acc cur).map (· ++ l) := by
  induction l with
  | nil => intro acc cur; rw [flat_nil, goP]; cases stepP acc cur <;> simp
  | cons x l ih =>
    intro acc cur
    rw [flat_cons, goP, if_pos rfl]
    have hx := hl x (by simp)
    cases stepP acc cur with
    | none => rfl
    | some a =>
      rw [Option.bind_some, goP_app a _ (fine_no _ ((rightP_iff _).1 hx).2.2.1), List.nil_append, ih (fun s hs => hl s (by simp [hs])), stepP_right a hx, tb_of]
      simp
/-- What a joined path is split into. -/
theorem goP_join (l : List ByteArray) (hl : ∀ s ∈ l, rightP s.data.toList = true) : goP [] [] (joinP l) = some l := by
  by_cases h : l = []
  · subst h; rfl
  · rw [joinP_flat h, goP_flat l hl, stepP_nil]; rfl
theorem stepP_all {acc a : List ByteArray} {p : List UInt8} (h : stepP acc p = some a) (ha : ∀ s ∈ acc, rightP s.data.toList = true) : ∀ s ∈ a, rightP s.data.toList = true := by
  unfold stepP at h
  split at h
  · cases h; exact ha
  split at h
  · cases h; exact fun s hs => ha s ((List.dropLast_sublist acc).subset hs)
  split at h
  · rename_i hr
    cases h
    intro s hs
    rcases List.mem_append.1 hs with h1 | h1
    · exact ha s h1
    · rw [List.mem_singleton.1 h1, tb_list]; exact hr
  · cases h
theorem goP_all (s : List UInt8) : ∀ (acc : List ByteArray) (cur : List UInt8) (l : List ByteArray), goP acc cur s = some l → (∀ s ∈ acc, rightP s.data.toList = true) → ∀ s ∈ l, rightP s.data.toList = true := by
  induction s with
  | nil => intro acc cur l h ha; exact stepP_all h ha
  | cons b s ih =>
    intro acc cur l h ha
    rw [goP] at h
    split at h
    · cases e : stepP acc cur with
      | none => rw [e] at h; cases h
      | some a => rw [e, Option.bind_some] at h; exact ih a [] l h (stepP_all e ha)
    · exact ih _ _ _ h ha
theorem flat_dropLast (l : List ByteArray) : (flat l.dropLast).length ≤ (flat l).length := by
  by_cases h : l = []
  · subst h; simp
  · conv => rhs; rw [← List.dropLast_concat_getLast h, flat_append]
    simp
theorem stepP_len {acc a : List ByteArray} {p : List UInt8} (h : stepP acc p = some a) : (flat a).length ≤ (flat acc).length + p.length + 1 := by
  unfold stepP at h
  split at h
  · cases h; omega
  split at h
  · cases h; have := flat_dropLast acc; omega
  split at h
  · cases h
    rw [flat_append, List.length_append]
    simp [flat, tb_list]
    omega
  · cases h
theorem goP_len (s : List UInt8) : ∀ (acc : List ByteArray) (cur : List UInt8) (l : List ByteArray), goP acc cur s = some l → (flat l).length ≤ (flat acc).length + cur.length + s.length + 1 := by
  induction s with
  | nil => intro acc cur l h; have := stepP_len h; simp; omega
  | cons b s ih =>
    intro acc cur l h
    rw [goP] at h
    split at h
    · cases e : stepP acc cur with
      | none => rw [e] at h; cases h
      | some a =>
        rw [e, Option.bind_some] at h
        have h1 := ih a [] l h
        have h2 := stepP_len e
        simp at h1 ⊢
        omega
    · have h1 := ih _ _ _ h
      simp at h1 ⊢
      omega
theorem joinP_len {s : List UInt8} {l : List ByteArray} (h : goP [] [] s = some l) : (joinP l).length ≤ s.length + 1 := by
  have h1 := goP_len s [] [] l h
  by_cases hl : l = []
  · subst hl; simp [joinP]
  · rw [joinP_flat hl]; simp [flat_nil] at h1; omega
theorem stepP_count {acc a : List ByteArray} {p : List UInt8} (h : stepP acc p = some a) : a.length ≤ acc.length + 1 := by
  unfold stepP at h
  split at h
  · cases h; omega
  split at h
  · cases h; simp; omega
  split at h
  · cases h; simp
  · cases h
/-- The law of a part that is put in: what it leads to is where one was. -/
def idle (x : List UInt8) : Prop := ∀ a : List ByteArray, goP a [] x = some a
theorem idle_dot : idle [46] := fun a => by simp [goP, stepP]
theorem idle_empty : idle [] := fun a => by simp [goP, stepP]
theorem idle_down : idle [100, 111, 119, 110, 47, 46, 46] := fun a => by
  have h : rightP [100, 111, 119, 110] = true := by decide +kernel
  have e : ([100, 111, 119, 110, 47, 46, 46] : List UInt8) = [100, 111, 119, 110] ++ 47 :: [46, 46] := rfl
  rw [e, goP_stroke]
  have h1 : goP a [] [100, 111, 119, 110] = some (a ++ [tb [100, 111, 119, 110]]) := by
    have := goP_app a [100, 111, 119, 110] (by decide) [] []
    rw [List.append_nil] at this
    rw [this, goP]
    exact stepP_right a h
  rw [h1, Option.bind_some]
  have := goP_app (a ++ [tb [100, 111, 119, 110]]) [46, 46] (by decide) [] []
  rw [List.append_nil] at this
  rw [this, goP]
  simp [stepP_up]
theorem idle_ab : idle [97, 47, 98, 47, 46, 46, 47, 46, 46] := fun a => by
  have ha : rightP [97] = true := by decide +kernel
  have hb : rightP [98] = true := by decide +kernel
  have e : ([97, 47, 98, 47, 46, 46, 47, 46, 46] : List UInt8) = ([97] ++ 47 :: ([98] ++ 47 :: ([46, 46] ++ 47 :: [46, 46]))) := rfl
  have p1 : ∀ (a : List ByteArray) (p : List UInt8), (∀ b ∈ p, b ≠ 47) → goP a [] p = stepP a p := fun a p hp => by
    have := goP_app a p hp [] []
    rw [List.append_nil] at this
    rw [this, goP]
    rfl
  rw [e, goP_stroke, p1 _ _ (by decide), stepP_right _ ha, Option.bind_some, goP_stroke, p1 _ _ (by decide), stepP_right _ hb, Option.bind_some, goP_stroke, p1 _ _ (by decide), stepP_up, Option.bind_some, p1 _ _ (by decide), stepP_up]
  simp
theorem goP_idle {x : List UInt8} (hx : idle x) (a b : List ByteArray) (ha : ∀ s ∈ a, rightP s.data.toList = true) (hb : ∀ s ∈ b, rightP s.data.toList = true) :
    goP [] [] (flat (a ++ tb x :: b)) = some (a ++ b) := by
  rw [flat_append, flat_cons, tb_list, goP_stroke, goP_flat a ha, stepP_nil, Option.map_some, Option.bind_some, List.nil_append]
  cases b with
  | nil => rw [flat_nil, List.append_nil, hx, List.append_nil]
  | cons y b =>
    have hy := hb y (by simp)
    rw [flat_cons, goP_stroke, hx, Option.bind_some, goP_app a _ (fine_no _ ((rightP_iff _).1 hy).2.2.1), List.nil_append, goP_flat b (fun s hs => hb s (by simp [hs])), stepP_right a hy, tb_of]
    simp
/-- A name that may not be does not come back. -/
theorem goP_wrong {l : List ByteArray} {bad : ByteArray} {s : List UInt8} (hb : bad ∈ l) (hw : rightP bad.data.toList = false) : goP [] [] s ≠ some l := fun h => by
  have := goP_all s [] [] l h (by simp) bad hb
  rw [hw] at this
  cases this
/-- From the root a first stroke is nothing. -/
theorem goP_root (t : List UInt8) : goP [] [] (47 :: t) = goP [] [] t := by rw [goP, if_pos rfl, stepP_nil]; rfl
/-- What Split answers. -/
def splitO (s : List UInt8) : Option (List ByteArray) := if 200 < s.length then none else goP [] [] s
def splitE (s : List UInt8) : Int := if 200 < s.length then 3 else if (goP [] [] s).isSome then 0 else 20
def splitL (s : List UInt8) : List ByteArray := (splitO s).getD []
/-- What Clean answers. -/
def cleanL (s : List UInt8) : List UInt8 := match splitO s with | none => [] | some l => joinP l
theorem split_ok {s : List UInt8} {l : List ByteArray} (hs : s.length ≤ 200) (h : goP [] [] s = some l) : splitL s = l ∧ splitE s = 0 ∧ cleanL s = joinP l := by
  have h1 : ¬ 200 < s.length := by omega
  simp [splitL, splitE, cleanL, splitO, h1, h]
theorem split_no {s : List UInt8} (hs : s.length ≤ 200) (h : goP [] [] s = none) : splitL s = [] ∧ splitE s = 20 ∧ cleanL s = [] := by
  have h1 : ¬ 200 < s.length := by omega
  simp [splitL, splitE, cleanL, splitO, h1, h]
theorem split_long {s : List UInt8} (hs : 200 < s.length) : splitL s = [] ∧ splitE s = 3 ∧ cleanL s = [] := by
  simp [splitL, splitE, cleanL, splitO, hs]

end Go.Proofs.Ytnigfnikajejaab
