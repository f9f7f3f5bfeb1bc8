/- Trees, plain: as the program keeps them, and as the document's answer does. -/
import Derived.Test.YtnigfnikajejaabTrA
namespace Go.Proofs.Ytnigfnikajejaab
open Go Go.RowKit

/-- A thing, as the program keeps it. -/
structure Th where
  id : Nat
  dir : Bool
  a : At
  d : List UInt8
  h : HL
structure Tr where
  ths : List Th
  next : Nat
def findT (l : List Th) (i : Int) : Option Th := l.find? fun x => decide ((x.id : Int) = i)
def sizeT (l : List Th) : Nat := (l.map fun x => x.d.length).sum
def setT (l : List Th) (i : Nat) (f : Th → Th) : List Th := l.map fun x => if x.id = i then f x else x
def Inc (l : List Th) : Prop := l.Pairwise fun x y => x.id < y.id
/-- The number of what is at a path, from i on. -/
def walkT (l : List Th) : Nat → List Nm → Option Nat
  | i, [] => some i
  | i, n :: p => match findT l i with
    | none => none
    | some x => match getH x.h n with
      | none => none
      | some j => walkT l j p

/-- A thing, as the document's answer keeps it. -/
structure Nd where
  id : Nat
  inn : Int
  name : Nm
  dir : Bool
  d : List UInt8
  a : At
structure Dc where
  L : List Nd
  next : Nat
def findD (L : List Nd) (i : Int) : Option Nd := L.find? fun x => decide ((x.id : Int) = i)
def childD (L : List Nd) (i : Int) (n : Nm) : Option Nat := (L.find? fun x => decide (x.inn = i) && decide (x.name = n)).map (·.id)
def dirD (L : List Nd) (i : Int) : Bool := match findD L i with
  | some x => x.dir
  | none => false
def lookD (L : List Nd) : Nat → List Nm → Option Nat
  | i, [] => some i
  | i, n :: p => if dirD L i then match childD L i n with
      | none => none
      | some j => lookD L j p
    else none

/-- One tree, both ways: pa and nm tell what holds a thing, and its name there. -/
def ndOf (pa : Nat → Nat) (nm : Nat → Nm) (x : Th) : Nd :=
  ⟨x.id, if x.id = 0 then -1 else (pa x.id : Int), if x.id = 0 then ⟨#[]⟩ else nm x.id, x.dir, x.d, { x.a with s := 0 }⟩
def docOf (S : Tr) (pa : Nat → Nat) (nm : Nat → Nm) : Dc := ⟨S.ths.map (ndOf pa nm), S.next⟩

structure Ok (S : Tr) (pa : Nat → Nat) (nm : Nat → Nm) : Prop where
  root : ∃ r t, S.ths = r :: t ∧ r.id = 0 ∧ r.dir = true
  inc : Inc S.ths
  lt : ∀ x ∈ S.ths, x.id < S.next
  par : ∀ x ∈ S.ths, x.id ≠ 0 → ∃ q ∈ S.ths, q.id = pa x.id ∧ q.dir = true
  rank : ∃ rk : Nat → Nat, ∀ x ∈ S.ths, x.id ≠ 0 → rk (pa x.id) < rk x.id
  sib : ∀ x ∈ S.ths, ∀ y ∈ S.ths, x.id ≠ 0 → y.id ≠ 0 → pa x.id = pa y.id → nm x.id = nm y.id → x.id = y.id
  right : ∀ x ∈ S.ths, x.id ≠ 0 → rightP (nm x.id).data.toList = true
  held : ∀ x ∈ S.ths, ∀ n j, (n, j) ∈ x.h ↔ j ≠ 0 ∧ (∃ y ∈ S.ths, y.id = j) ∧ pa j = x.id ∧ nm j = n
  srt : ∀ x ∈ S.ths, Srt x.h
  file : ∀ x ∈ S.ths, x.dir = true → x.d = []
  att : ∀ x ∈ S.ths, x.a.Ok ∧ x.a.f = 15 ∧ x.a.s = x.d.length
  cnt : S.ths.length ≤ 200
  bytes : sizeT S.ths ≤ 1048576

theorem Inc.uniq {l : List Th} (h : Inc l) {x y : Th} (hx : x ∈ l) (hy : y ∈ l) (e : x.id = y.id) : x = y := by
  induction l with
  | nil => cases hx
  | cons z r ih =>
    obtain ⟨h1, h2⟩ := List.pairwise_cons.1 h
    rcases List.mem_cons.1 hx with rfl | hx'
    · rcases List.mem_cons.1 hy with rfl | hy'
      · rfl
      · have := h1 _ hy'; omega
    · rcases List.mem_cons.1 hy with rfl | hy'
      · have := h1 _ hx'; omega
      · exact ih h2 hx' hy'
theorem findT_some {l : List Th} (h : Inc l) (i : Int) (x : Th) : findT l i = some x ↔ x ∈ l ∧ (x.id : Int) = i := by
  unfold findT
  constructor
  · intro e
    have h1 := List.find?_some e
    exact ⟨List.mem_of_find?_eq_some e, by simpa using h1⟩
  · rintro ⟨hm, rfl⟩
    cases hf : l.find? fun y => decide ((y.id : Int) = (x.id : Int)) with
    | none =>
      have := List.find?_eq_none.1 hf _ hm
      simp at this
    | some y =>
      have h1 := List.find?_some hf
      have h2 := List.mem_of_find?_eq_some hf
      simp only [decide_eq_true_eq, Int.natCast_inj] at h1
      rw [h.uniq h2 hm h1]
theorem findT_nat {l : List Th} (h : Inc l) {x : Th} (hx : x ∈ l) {i : Nat} (e : x.id = i) : findT l (i : Int) = some x := (findT_some h _ _).2 ⟨hx, by rw [e]⟩
theorem findT_none {l : List Th} (i : Int) : findT l i = none ↔ ∀ x ∈ l, (x.id : Int) ≠ i := by
  unfold findT
  rw [List.find?_eq_none]
  simp
theorem findD_of (l : List Th) (pa : Nat → Nat) (nm : Nat → Nm) (i : Int) : findD (l.map (ndOf pa nm)) i = (findT l i).map (ndOf pa nm) := by
  unfold findD findT
  rw [List.find?_map]
  rfl
theorem dirD_of (l : List Th) (pa : Nat → Nat) (nm : Nat → Nm) (i : Int) : dirD (l.map (ndOf pa nm)) i = match findT l i with | some x => x.dir | none => false := by
  unfold dirD
  rw [findD_of]
  cases findT l i <;> rfl
theorem mem_setT {l : List Th} {i : Nat} {f : Th → Th} {x : Th} : x ∈ setT l i f ↔ ∃ y ∈ l, x = if y.id = i then f y else y := by
  unfold setT
  rw [List.mem_map]
  constructor
  · rintro ⟨y, h1, h2⟩; exact ⟨y, h1, h2.symm⟩
  · rintro ⟨y, h1, h2⟩; exact ⟨y, h1, h2.symm⟩
/-- Nothing but a file is no directory and holds something. -/
theorem Ok.holds {S : Tr} {pa : Nat → Nat} {nm : Nat → Nm} (o : Ok S pa nm) {x : Th} (hx : x ∈ S.ths) (hd : x.dir = false) : x.h = [] := by
  cases hh : x.h with
  | nil => rfl
  | cons e r =>
    obtain ⟨h0, ⟨y, hy, hye⟩, h2, _⟩ := (o.held x hx e.1 e.2).1 (by rw [hh]; exact List.mem_cons_self)
    obtain ⟨q, hq, hqe, hqd⟩ := o.par y hy (by omega)
    have : q = x := o.inc.uniq hq hx (by rw [hqe, hye, h2])
    subst this
    rw [hd] at hqd; cases hqd
theorem Ok.child {S : Tr} {pa : Nat → Nat} {nm : Nat → Nm} (o : Ok S pa nm) {x : Th} (hx : x ∈ S.ths) (n : Nm) : childD (docOf S pa nm).L x.id n = getH x.h n := by
  unfold childD docOf
  simp only
  cases hg : getH x.h n with
  | some j =>
    obtain ⟨h0, ⟨y, hy, hye⟩, h2, h3⟩ := (o.held x hx n j).1 ((getH_some (o.srt x hx) n j).1 hg)
    cases hf : (S.ths.map (ndOf pa nm)).find? fun z => decide (z.inn = (x.id : Int)) && decide (z.name = n) with
    | none =>
      have := List.find?_eq_none.1 hf (ndOf pa nm y) (List.mem_map_of_mem hy)
      simp only [ndOf, hye, if_neg h0, h2, h3] at this
      simp at this
    | some z =>
      have k1 := List.find?_some hf
      obtain ⟨u, hu, rfl⟩ := List.mem_map.1 (List.mem_of_find?_eq_some hf)
      simp only [Bool.and_eq_true, decide_eq_true_eq] at k1
      obtain ⟨k1, k2⟩ := k1
      simp only [ndOf] at k1 k2
      by_cases hu0 : u.id = 0
      · rw [if_pos hu0] at k1; omega
      · rw [if_neg hu0] at k1 k2
        have := o.sib u hu y hy hu0 (by omega) (by rw [hye, h2]; omega) (by rw [hye, h3]; exact k2)
        simp [ndOf, this, hye]
  | none =>
    rw [getH_none] at hg
    rw [Option.map_eq_none_iff, List.find?_eq_none]
    intro z hz
    obtain ⟨u, hu, rfl⟩ := List.mem_map.1 hz
    simp only [Bool.and_eq_true, decide_eq_true_eq]
    rintro ⟨k1, k2⟩
    simp only [ndOf] at k1 k2
    by_cases hu0 : u.id = 0
    · rw [if_pos hu0] at k1; omega
    · rw [if_neg hu0] at k1 k2
      exact hg u.id ((o.held x hx n u.id).2 ⟨hu0, ⟨u, hu, rfl⟩, by omega, k2⟩)
theorem Ok.mem_child {S : Tr} {pa : Nat → Nat} {nm : Nat → Nm} (o : Ok S pa nm) {x : Th} (hx : x ∈ S.ths) {n : Nm} {j : Nat} (hg : getH x.h n = some j) : j ≠ 0 ∧ (∃ y ∈ S.ths, y.id = j) ∧ pa j = x.id ∧ nm j = n :=
  (o.held x hx n j).1 ((getH_some (o.srt x hx) n j).1 hg)
theorem Ok.look {S : Tr} {pa : Nat → Nat} {nm : Nat → Nm} (o : Ok S pa nm) : ∀ (p : List Nm) (i : Nat), (∃ x ∈ S.ths, x.id = i) → lookD (docOf S pa nm).L i p = walkT S.ths i p
  | [], _, _ => rfl
  | n :: p, i, ⟨x, hx, hi⟩ => by
    have hf : findT S.ths (i : Int) = some x := findT_nat o.inc hx hi
    have hdir : dirD (docOf S pa nm).L (i : Int) = x.dir := by
      unfold docOf
      rw [dirD_of, hf]
    rw [lookD, walkT, hf, hdir]
    have hc := o.child hx n
    rw [hi] at hc
    rw [hc]
    simp only
    cases hd : x.dir
    · rw [o.holds hx hd]; rfl
    · rw [if_pos rfl]
      cases hg : getH x.h n with
      | none => rfl
      | some j => exact o.look p j (o.mem_child hx hg).2.1
/-- What is found on a path is there. -/
theorem Ok.walk_mem {S : Tr} {pa : Nat → Nat} {nm : Nat → Nm} (o : Ok S pa nm) : ∀ (p : List Nm) (i : Nat), (∃ x ∈ S.ths, x.id = i) → ∀ j, walkT S.ths i p = some j → ∃ x ∈ S.ths, x.id = j
  | [], _, hx, j, h => by cases h; exact hx
  | n :: p, i, ⟨x, hx, hi⟩, j, h => by
    rw [walkT, findT_nat o.inc hx hi] at h
    simp only at h
    cases hg : getH x.h n with
    | none => rw [hg] at h; cases h
    | some k => rw [hg] at h; exact o.walk_mem p k (o.mem_child hx hg).2.1 j h
theorem Ok.rootMem {S : Tr} {pa : Nat → Nat} {nm : Nat → Nm} (o : Ok S pa nm) : ∃ x ∈ S.ths, x.id = 0 := by
  obtain ⟨r, t, h1, h2, _⟩ := o.root
  exact ⟨r, by rw [h1]; exact List.mem_cons_self, h2⟩
theorem walk_snoc (l : List Th) : ∀ (p : List Nm) (n : Nm) (i : Nat), walkT l i (p ++ [n]) = match walkT l i p with
    | none => none
    | some j => match findT l j with
      | none => none
      | some x => getH x.h n
  | [], n, i => by
    show walkT l i [n] = _
    simp only [walkT]
    cases findT l (i : Int) with
    | none => rfl
    | some x => simp only; cases getH x.h n <;> rfl
  | m :: p, n, i => by
    rw [List.cons_append, walkT, walkT]
    cases findT l (i : Int) with
    | none => rfl
    | some x =>
      simp only
      cases getH x.h m with
      | none => rfl
      | some j => exact walk_snoc l p n j

end Go.Proofs.Ytnigfnikajejaab
