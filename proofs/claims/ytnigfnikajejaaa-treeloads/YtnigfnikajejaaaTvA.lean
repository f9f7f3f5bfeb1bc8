/- Load, plainly: what is read, as a forest of things; what was read is what is saved. -/
import Derived.Test.YtnigfnikajejaaaTrL
namespace Go.Proofs.Ytnigfnikajejaaa
open Go Go.RowKit

/-- From p on xs stands, and q is behind it. -/
def Stands (bs : List UInt8) (p : Nat) (xs : List UInt8) (q : Nat) : Prop := bs.drop p = xs ++ bs.drop q ∧ q = p + xs.length
theorem Stands.nil (bs : List UInt8) (p : Nat) : Stands bs p [] p := ⟨rfl, rfl⟩
theorem Stands.app {bs xs ys : List UInt8} {p q r : Nat} (h : Stands bs p xs q) (k : Stands bs q ys r) : Stands bs p (xs ++ ys) r :=
  ⟨by rw [h.1, k.1, List.append_assoc], by rw [k.2, h.2, List.length_append]; omega⟩
theorem Stands.split {bs xs ys : List UInt8} {p r : Nat} (h : Stands bs p (xs ++ ys) r) : Stands bs p xs (p + xs.length) ∧ Stands bs (p + xs.length) ys r := by
  obtain ⟨h1, h2⟩ := h
  have h3 : bs.drop (p + xs.length) = ys ++ bs.drop r := by
    rw [← List.drop_drop, h1, List.append_assoc, List.drop_left]
  exact ⟨⟨by rw [h3, h1, List.append_assoc], rfl⟩, ⟨h3, by rw [h2, List.length_append]; omega⟩⟩
theorem tk_fin {bs : List UInt8} {p : Nat} {y : Int} {n : Nat} (h : (tk bs p y n).2.2 = 0) : y = 0 ∧ (tk bs p y n).1.length = n ∧ Stands bs p (tk bs p y n).1 (tk bs p y n).2.1 := by
  unfold tk at h ⊢
  by_cases hy : y = 0
  · rw [if_pos hy] at h ⊢
    by_cases hl : bs.length - p < n
    · rw [if_pos hl] at h; cases h
    · rw [if_neg hl]
      have hln : ((bs.drop p).take n).length = n := by rw [List.length_take, List.length_drop]; omega
      refine ⟨hy, hln, ?_, by rw [hln]⟩
      show bs.drop p = (bs.drop p).take n ++ bs.drop (p + n)
      rw [← List.drop_drop, List.take_append_drop]
  · rw [if_neg hy] at h; exact absurd h hy
theorem tk_run {bs xs : List UInt8} {p q n : Nat} (h : Stands bs p xs q) (hn : n = xs.length) : tk bs p 0 n = (xs, q, 0) := by
  obtain ⟨h1, h2⟩ := h
  subst hn
  have hl := congrArg List.length h1
  rw [List.length_drop, List.length_append] at hl
  unfold tk
  rw [if_pos rfl, if_neg (by omega), h1, List.take_left, h2]
theorem valFrom_ge (xs : List UInt8) : ∀ m, m * 256 ^ xs.length ≤ valFrom m xs := by
  induction xs with
  | nil => intro m; simp [valFrom]
  | cons x xs ih =>
    intro m
    refine Nat.le_trans ?_ (ih (m * 256 + x.toNat))
    rw [List.length_cons, Nat.pow_succ, Nat.mul_comm (256 ^ xs.length), ← Nat.mul_assoc]
    exact Nat.mul_le_mul_right _ (by omega)
theorem be_valFrom : ∀ (xs : List UInt8) (m : Nat), be xs.length (valFrom m xs) = xs
  | [], _ => rfl
  | x :: xs, m => by
    have h1 := valFrom_lt xs (m * 256 + x.toNat)
    have h2 := valFrom_ge xs (m * 256 + x.toNat)
    have h3 : valFrom (m * 256 + x.toNat) xs / 256 ^ xs.length = m * 256 + x.toNat := Nat.div_eq_of_lt_le h2 h1
    have hx := x.toNat_lt
    show UInt8.ofNat (valFrom (m * 256 + x.toNat) xs / 256 ^ xs.length % 256) :: be xs.length (valFrom (m * 256 + x.toNat) xs) = x :: xs
    rw [be_valFrom xs, h3]
    congr 1
    apply UInt8.toNat_inj.1
    simp
theorem be_val {xs : List UInt8} {k : Nat} (h : xs.length = k) : be k (val xs) = xs := by subst h; exact be_valFrom xs 0
theorem valFrom_be2 (k : Nat) : ∀ (m n : Nat), valFrom m (be k n) = m * 256 ^ k + n % 256 ^ k := by
  induction k with
  | zero => intro m n; simp [be, valFrom, Nat.mod_one]
  | succ k ih =>
    intro m n
    rw [be, valFrom, ih]
    have h : (UInt8.ofNat (n / 256 ^ k % 256)).toNat = n / 256 ^ k % 256 := by simp
    rw [h, Nat.pow_succ, Nat.mod_mul, Nat.add_mul]
    have e : m * 256 * 256 ^ k = m * (256 ^ k * 256) := by rw [Nat.mul_assoc, Nat.mul_comm 256]
    rw [e, Nat.mul_comm (n / 256 ^ k % 256)]
    omega
theorem val_be2 (k n : Nat) (h : n < 256 ^ k) : val (be k n) = n := by
  unfold val
  rw [valFrom_be2, Nat.mod_eq_of_lt h]
  simp
theorem tx_fin {bs : List UInt8} {p : Nat} {y : Int} {m : Int} (h : (tx bs p y m).2.2 = 0) : y = 0 ∧ (tx bs p y m).1.length ≤ m.toNat ∧ Stands bs p (textBytes (tx bs p y m).1) (tx bs p y m).2.1 := by
  unfold tx at h ⊢
  split at h
  · cases h
  · next hm =>
    rw [if_neg hm]
    obtain ⟨h1, h2, h3⟩ := tk_fin h
    obtain ⟨k1, k2, k3⟩ := tk_fin h1
    refine ⟨k1, by rw [h2]; omega, ?_⟩
    unfold textBytes
    rw [h2, be_val k2]
    exact k3.app h3
theorem tx_run {bs xs : List UInt8} {p q : Nat} {m : Int} (h : Stands bs p (textBytes xs) q) (hm : xs.length ≤ m.toNat) (hb : xs.length ≤ 4294967295) : tx bs p 0 m = (xs, q, 0) := by
  unfold textBytes at h
  obtain ⟨h1, h2⟩ := h.split
  have e := tk_run h1 (n := 4) (by rw [be_length])
  have hv : val (be 4 xs.length) = xs.length := val_be2 4 _ (by omega)
  unfold tx
  rw [e]
  simp only [hv]
  rw [if_neg (by omega), tk_run h2 rfl]

/-- Attributes of which all is told. -/
theorem get_f1 (bs : List UInt8) (r : At × (Nat × Int)) : (get1 bs r).1.f = r.1.f := by unfold get1; split <;> rfl
theorem get_f2 (bs : List UInt8) (r : At × (Nat × Int)) : (get2 bs r).1.f = r.1.f := by unfold get2; split <;> rfl
theorem get_f4 (bs : List UInt8) (r : At × (Nat × Int)) : (get4 bs r).1.f = r.1.f := by unfold get4; split <;> rfl
theorem get_f8 (bs : List UInt8) (r : At × (Nat × Int)) : (get8 bs r).1.f = r.1.f := by unfold get8; split <;> rfl
theorem getA_f {bs : List UInt8} {p : Nat} {y : Int} (h : (getA bs p y).1.f = 15) : val (tk bs p y 4).1 = 15 ∧ (get8 bs (get4 bs (get2 bs (get1 bs (get0 bs (p, y)))))).2.2 = 0 ∧ getA bs p y = get8 bs (get4 bs (get2 bs (get1 bs (get0 bs (p, y))))) := by
  unfold getA get9 at h ⊢
  split at h
  · next h0 =>
    rw [get_f8, get_f4, get_f2, get_f1] at h
    rw [if_pos h0]
    exact ⟨h, h0, rfl⟩
  · cases h
/-- What is read behind the flags. -/
def t15 (bs : List UInt8) (t0 : List UInt8 × Nat × Int) : At × (Nat × Int) :=
  let t1 := tk bs t0.2.1 t0.2.2 8
  let t2 := tk bs t1.2.1 t1.2.2 4
  let t3 := tk bs t2.2.1 t2.2.2 4
  let t4 := tk bs t3.2.1 t3.2.2 4
  let t5 := tk bs t4.2.1 t4.2.2 4
  let t6 := tk bs t5.2.1 t5.2.2 4
  (⟨15, val t1.1, val t2.1, val t3.1, val t4.1, val t5.1, val t6.1⟩, t6.2)
theorem get_15 {bs : List UInt8} {p : Nat} {y : Int} (h : val (tk bs p y 4).1 = 15) : get8 bs (get4 bs (get2 bs (get1 bs (get0 bs (p, y))))) = t15 bs (tk bs p y 4) := by
  have h0 : get0 bs (p, y) = (⟨15, 0, 0, 0, 0, 0, 0⟩, (tk bs p y 4).2) := by
    unfold get0 rdN
    simp [h]
  rw [h0]
  have b1 : bt 1 15 = true := rfl
  have b2 : bt 2 15 = true := rfl
  have b4 : bt 4 15 = true := rfl
  have b8 : bt 8 15 = true := rfl
  simp only [get1, get2, get4, get8, b1, b2, b4, b8, if_true, t15]
theorem put_15 (s u g m a t : Nat) : putA ⟨15, s, u, g, m, a, t⟩ = be 4 15 ++ (be 8 s ++ (be 4 u ++ (be 4 g ++ (be 4 m ++ (be 4 a ++ be 4 t))))) := by
  have b1 : bt 1 15 = true := rfl
  have b2 : bt 2 15 = true := rfl
  have b4 : bt 4 15 = true := rfl
  have b8 : bt 8 15 = true := rfl
  simp only [putA, put1, put2, put4, put8, b1, b2, b4, b8, if_true, List.append_assoc]
theorem val_le4 {xs : List UInt8} (h : xs.length = 4) : val xs ≤ 4294967295 := by have := val_lt xs 4 (by omega); omega
theorem getA_fin {bs : List UInt8} {p : Nat} {y : Int} (h : (getA bs p y).1.f = 15) : y = 0 ∧ (getA bs p y).2.2 = 0 ∧ (getA bs p y).1.Ok ∧ Stands bs p (putA (getA bs p y).1) (getA bs p y).2.1 := by
  obtain ⟨h1, h2, h3⟩ := getA_f h
  rw [get_15 h1] at h2 h3
  rw [h3]
  unfold t15 at h2 ⊢
  simp only at h2 ⊢
  obtain ⟨e6, l6, s6⟩ := tk_fin h2
  obtain ⟨e5, l5, s5⟩ := tk_fin e6
  obtain ⟨e4, l4, s4⟩ := tk_fin e5
  obtain ⟨e3, l3, s3⟩ := tk_fin e4
  obtain ⟨e2, l2, s2⟩ := tk_fin e3
  obtain ⟨e1, l1, s1⟩ := tk_fin e2
  obtain ⟨e0, l0, s0⟩ := tk_fin e1
  refine ⟨e0, h2, ⟨by show 15 ≤ 4294967295; omega, ?_, val_le4 l2, val_le4 l3, val_le4 l4, val_le4 l5, val_le4 l6⟩, ?_⟩
  · have := val_lt _ 8 (Nat.le_of_eq l1)
    show val _ ≤ _
    omega
  · rw [put_15, be_val l1, be_val l2, be_val l3, be_val l4, be_val l5, be_val l6, ← h1, be_val l0]
    exact s0.app (s1.app (s2.app (s3.app (s4.app (s5.app s6)))))
theorem getA_run {bs : List UInt8} {p q : Nat} {x : At} (h : Stands bs p (putA x) q) (hx : x.Ok) (h15 : x.f = 15) : getA bs p 0 = (x, (q, 0)) := by
  obtain ⟨f, s, u, g, m, a, t⟩ := x
  have h15 : f = 15 := h15
  subst h15
  rw [put_15] at h
  obtain ⟨s0, h⟩ := h.split
  obtain ⟨s1, h⟩ := h.split
  obtain ⟨s2, h⟩ := h.split
  obtain ⟨s3, h⟩ := h.split
  obtain ⟨s4, h⟩ := h.split
  obtain ⟨s5, s6⟩ := h.split
  have r0 := tk_run s0 (n := 4) (by rw [be_length])
  have r1 := tk_run s1 (n := 8) (by rw [be_length])
  have r2 := tk_run s2 (n := 4) (by rw [be_length])
  have r3 := tk_run s3 (n := 4) (by rw [be_length])
  have r4 := tk_run s4 (n := 4) (by rw [be_length])
  have r5 := tk_run s5 (n := 4) (by rw [be_length])
  have r6 := tk_run s6 (n := 4) (by rw [be_length])
  have v0 : val (be 4 15) = 15 := val_be2 4 _ (by omega)
  have v1 : val (be 8 s) = s := val_be2 8 _ (by have : s ≤ 18446744073709551615 := hx.s; omega)
  have v2 : val (be 4 u) = u := val_be2 4 _ (by have : u ≤ 4294967295 := hx.u; omega)
  have v3 : val (be 4 g) = g := val_be2 4 _ (by have : g ≤ 4294967295 := hx.g; omega)
  have v4 : val (be 4 m) = m := val_be2 4 _ (by have : m ≤ 4294967295 := hx.m; omega)
  have v5 : val (be 4 a) = a := val_be2 4 _ (by have : a ≤ 4294967295 := hx.a; omega)
  have v6 : val (be 4 t) = t := val_be2 4 _ (by have : t ≤ 4294967295 := hx.t; omega)
  have hg : get8 bs (get4 bs (get2 bs (get1 bs (get0 bs (p, 0))))) = (⟨15, s, u, g, m, a, t⟩, (q, 0)) := by
    rw [get_15 (by rw [r0]; exact v0), r0]
    unfold t15
    simp only [r1, r2, r3, r4, r5, r6, v1, v2, v3, v4, v5, v6]
  unfold getA
  rw [hg]
  rfl

/-- A thing by itself, and a row of named things with all that they hold. -/
structure Hd where
  id : Nat
  dir : Bool
  a : At
  d : List UInt8
inductive Fo where
  | nil
  | cons (n : Nm) (x : Hd) (k r : Fo)
def Fo.heads : Fo → HL
  | .nil => []
  | .cons n x _ r => (n, x.id) :: r.heads
def thH (x : Hd) (k : Fo) : Th := ⟨x.id, x.dir, x.a, x.d, k.heads⟩
def Fo.ths : Fo → List Th
  | .nil => []
  | .cons _ x k r => thH x k :: (k.ths ++ r.ths)
def Fo.ids : Fo → List Nat
  | .nil => []
  | .cons _ x k r => x.id :: (k.ids ++ r.ids)
def Fo.size : Fo → Nat
  | .nil => 0
  | .cons _ x k r => x.d.length + k.size + r.size
def Fo.save : Fo → List UInt8
  | .nil => []
  | .cons n x k r => textBytes n.data.toList ++ (hdrB (thH x k) ++ k.save) ++ r.save
def Fo.push : Fo → List Nat → List Nat
  | .nil, l => l
  | .cons _ x k r, l => r.push (k.push (x.id :: l))
def hdGood (x : Hd) : Prop := x.a.Ok ∧ x.a.f = 15 ∧ x.a.s = x.d.length ∧ (x.dir = true → x.d = [])
def Fo.Good : Fo → Prop
  | .nil => True
  | .cons n x k r => rightP n.data.toList = true ∧ hdGood x ∧ (x.dir = false → k = .nil) ∧ (∀ m ∈ r.heads, nlt n m.1 = true) ∧ k.Good ∧ r.Good
theorem Fo.push_perm : ∀ (k : Fo) (l : List Nat), (k.push l).Perm (k.ids ++ l)
  | .nil, l => List.Perm.refl _
  | .cons _ x k r, l => by
    rw [Fo.push, Fo.ids]
    refine (r.push_perm _).trans ?_
    refine (List.Perm.append_left _ (k.push_perm _)).trans ?_
    rw [List.cons_append, List.append_assoc]
    refine (List.perm_append_comm_assoc _ _ _).trans ?_
    refine (List.Perm.append_left _ List.perm_middle).trans ?_
    exact List.perm_middle
theorem Fo.heads_le : ∀ k : Fo, k.heads.length ≤ k.ids.length
  | .nil => Nat.le_refl _
  | .cons _ x k r => by
    have := r.heads_le
    rw [Fo.heads, Fo.ids, List.length_cons, List.length_cons, List.length_append]
    omega

/-- Where the reader stands; the numbers so far, and how many bytes they have. -/
structure Ld where
  p : Nat
  y : Int
  ids : List Nat
  z : Nat
def ldK (bs : List UInt8) (s : Ld) : List UInt8 × Nat × Int := tk bs (tk bs s.p s.y 8).2.1 (tk bs s.p s.y 8).2.2 1
def ldG (bs : List UInt8) (s : Ld) : At × (Nat × Int) := getA bs (ldK bs s).2.1 (ldK bs s).2.2
/-- A thing's number, kind and attributes; its bytes; what it holds. -/
def headO (bs : List UInt8) (nx : Nat) (s : Ld) : Option (Hd × Ld) :=
  if nx ≤ val (tk bs s.p s.y 8).1 ∨ 1 < val (ldK bs s).1 ∨ (ldG bs s).1.f ≠ 15 then none
  else if val (tk bs s.p s.y 8).1 ∈ s.ids ∨ 200 ≤ s.ids.length then none
  else some (⟨val (tk bs s.p s.y 8).1, decide (val (ldK bs s).1 = 1), (ldG bs s).1, []⟩, ⟨(ldG bs s).2.1, (ldG bs s).2.2, val (tk bs s.p s.y 8).1 :: s.ids, s.z⟩)
def dataO (bs : List UInt8) (x : Hd) (s : Ld) : Option (Hd × Ld) :=
  if x.dir then (if x.a.s = 0 then some (x, s) else none)
  else if 1048576 < x.a.s ∨ 1048576 < s.z + x.a.s then none
  else some ({ x with d := (tk bs s.p s.y x.a.s).1 }, ⟨(tk bs s.p s.y x.a.s).2.1, (tk bs s.p s.y x.a.s).2.2, s.ids, s.z + (tk bs s.p s.y x.a.s).1.length⟩)
def kidsO (load : Ld → Option (Hd × Fo × Ld)) (bs : List UInt8) : Nat → Nm → Ld → Option (Fo × Ld)
  | 0, _, s => some (.nil, s)
  | c + 1, before, s =>
    if rightP (tx bs s.p s.y 30).1 = false ∨ nlt before (tb (tx bs s.p s.y 30).1) = false then none
    else match load ⟨(tx bs s.p s.y 30).2.1, (tx bs s.p s.y 30).2.2, s.ids, s.z⟩ with
      | none => none
      | some (x, k, s1) => match kidsO load bs c (tb (tx bs s.p s.y 30).1) s1 with
        | none => none
        | some (r, s2) => some (.cons (tb (tx bs s.p s.y 30).1) x k r, s2)
def loadO (bs : List UInt8) (nx : Nat) : Nat → Ld → Option (Hd × Fo × Ld)
  | 0, _ => none
  | F + 1, s => match headO bs nx s with
    | none => none
    | some (x, s1) => match dataO bs x s1 with
      | none => none
      | some (x, s2) =>
        if x.dir = false then (if val (tk bs s2.p s2.y 4).1 = 0 then some (x, .nil, ⟨(tk bs s2.p s2.y 4).2.1, (tk bs s2.p s2.y 4).2.2, s2.ids, s2.z⟩) else none)
        else match kidsO (loadO bs nx F) bs (val (tk bs s2.p s2.y 4).1) ⟨#[]⟩ ⟨(tk bs s2.p s2.y 4).2.1, (tk bs s2.p s2.y 4).2.2, s2.ids, s2.z⟩ with
          | none => none
          | some (k, s3) => some (x, k, s3)

/-- What a load that goes on has read. -/
structure Read1 (bs : List UInt8) (nx : Nat) (s : Ld) (x : Hd) (k : Fo) (s' : Ld) : Prop where
  ids : s'.ids = k.push (x.id :: s.ids)
  nod : s.ids.Nodup → s'.ids.Nodup
  cnt : s.ids.length ≤ 200 → s'.ids.length ≤ 200
  lt : x.id < nx ∧ ∀ i ∈ k.ids, i < nx
  z : s'.z = s.z + (x.d.length + k.size)
  zle : s.z ≤ 1048576 → s'.z ≤ 1048576
  fin : s'.y = 0 → s.y = 0 ∧ Stands bs s.p (hdrB (thH x k) ++ k.save) s'.p ∧ hdGood x ∧ (x.dir = false → k = .nil) ∧ k.Good
structure ReadK (bs : List UInt8) (nx : Nat) (before : Nm) (c : Nat) (s : Ld) (k : Fo) (s' : Ld) : Prop where
  ids : s'.ids = k.push s.ids
  nod : s.ids.Nodup → s'.ids.Nodup
  cnt : s.ids.length ≤ 200 → s'.ids.length ≤ 200
  lt : ∀ i ∈ k.ids, i < nx
  z : s'.z = s.z + k.size
  zle : s.z ≤ 1048576 → s'.z ≤ 1048576
  len : k.heads.length = c
  srt : ∀ m ∈ k.heads, nlt before m.1 = true
  fin : s'.y = 0 → s.y = 0 ∧ Stands bs s.p k.save s'.p ∧ k.Good
theorem kids_read {bs : List UInt8} {nx : Nat} {load : Ld → Option (Hd × Fo × Ld)} (hl : ∀ s x k s', load s = some (x, k, s') → Read1 bs nx s x k s') : ∀ (c : Nat) (before : Nm) (s : Ld) (k : Fo) (s' : Ld), kidsO load bs c before s = some (k, s') → ReadK bs nx before c s k s' := by
  intro c
  induction c with
  | zero =>
    intro before s k s' h
    rw [kidsO] at h
    obtain ⟨rfl, rfl⟩ := Prod.mk.inj (Option.some.inj h)
    exact ⟨rfl, id, id, (fun i h => by cases h), rfl, id, rfl, (fun m h => by cases h), fun h => ⟨h, Stands.nil _ _, trivial⟩⟩
  | succ c ih =>
    intro before s k s' h
    rw [kidsO] at h
    split at h
    · cases h
    next hc =>
    split at h
    · cases h
    next x k1 s1 hx =>
    split at h
    · cases h
    next r s2 hr =>
    obtain ⟨rfl, rfl⟩ := Prod.mk.inj (Option.some.inj h)
    have h1 := hl _ _ _ _ hx
    have h2 := ih _ _ _ _ hr
    have hc1 : rightP (tx bs s.p s.y 30).1 = true := by cases e : rightP (tx bs s.p s.y 30).1 with | true => rfl | false => exact absurd (.inl e) hc
    have hc2 : nlt before (tb (tx bs s.p s.y 30).1) = true := by cases e : nlt before (tb (tx bs s.p s.y 30).1) with | true => rfl | false => exact absurd (.inr e) hc
    refine ⟨?_, fun h => h2.nod (h1.nod h), fun h => h2.cnt (h1.cnt h), ?_, ?_, fun h => h2.zle (h1.zle h), ?_, ?_, fun h => ?_⟩
    · rw [h2.ids, h1.ids]; rfl
    · intro i hi
      rw [Fo.ids, List.mem_cons, List.mem_append] at hi
      rcases hi with rfl | hi | hi
      · exact h1.lt.1
      · exact h1.lt.2 i hi
      · exact h2.lt i hi
    · rw [h2.z, h1.z, Fo.size]; simp only; omega
    · rw [Fo.heads, List.length_cons, h2.len]
    · intro m hm
      rw [Fo.heads, List.mem_cons] at hm
      rcases hm with rfl | hm
      · exact hc2
      · exact nlt_trans hc2 (h2.srt m hm)
    · obtain ⟨a1, a2, a3⟩ := h2.fin h
      obtain ⟨b1, b2, b3, b4, b5⟩ := h1.fin a1
      obtain ⟨c1, c2, c3⟩ := tx_fin b1
      refine ⟨c1, ?_, ?_⟩
      · rw [Fo.save, tb_list]
        exact (c3.app b2).app a2
      · exact ⟨by rw [tb_list]; exact hc1, b3, b4, h2.srt, b5, a3⟩
theorem head_read {bs : List UInt8} {nx : Nat} {s : Ld} {x : Hd} {s' : Ld} (h : headO bs nx s = some (x, s')) :
    x.d = [] ∧ x.id < nx ∧ x.id ∉ s.ids ∧ s.ids.length < 200 ∧ s'.ids = x.id :: s.ids ∧ s'.z = s.z ∧ x.a.Ok ∧ x.a.f = 15 ∧ s.y = 0 ∧ s'.y = 0 ∧ Stands bs s.p (be 8 x.id ++ [bit x.dir] ++ putA x.a) s'.p := by
  unfold headO at h
  split at h
  · cases h
  next h1 =>
  split at h
  · cases h
  next h2 =>
  obtain ⟨rfl, rfl⟩ := Prod.mk.inj (Option.some.inj h)
  have h3 : (ldG bs s).1.f = 15 := Classical.not_not.1 fun e => h1 (.inr (.inr e))
  obtain ⟨g1, g2, g3, g4⟩ := getA_fin h3
  obtain ⟨k1, k2, k3⟩ := tk_fin (show (ldK bs s).2.2 = 0 from g1)
  obtain ⟨i1, i2, i3⟩ := tk_fin k1
  refine ⟨rfl, by show val _ < nx; omega, fun e => h2 (.inl e), by omega, rfl, rfl, g3, h3, i1, g2, ?_⟩
  have hkv : [bit (decide (val (ldK bs s).1 = 1))] = (ldK bs s).1 := by
    have hk1 : (ldK bs s).1.length = 1 := k2
    obtain ⟨b, hb⟩ := List.length_eq_one_iff.1 hk1
    have hle : val (ldK bs s).1 ≤ 1 := by omega
    rw [hb] at hle ⊢
    have hv : val [b] = b.toNat := by simp [val, valFrom]
    rw [hv] at hle ⊢
    congr 1
    by_cases e : b.toNat = 1
    · rw [decide_eq_true e]
      exact UInt8.toNat_inj.1 e.symm
    · rw [decide_eq_false e]
      exact UInt8.toNat_inj.1 (by show 0 = b.toNat; omega)
  show Stands bs s.p (be 8 (val (tk bs s.p s.y 8).1) ++ [bit (decide (val (ldK bs s).1 = 1))] ++ putA (ldG bs s).1) (ldG bs s).2.1
  rw [hkv, be_val i2]
  exact (i3.app k3).app g4
theorem load_read {bs : List UInt8} {nx : Nat} : ∀ (F : Nat) (s : Ld) (x : Hd) (k : Fo) (s' : Ld), loadO bs nx F s = some (x, k, s') → Read1 bs nx s x k s' := by
  intro F
  induction F with
  | zero => intro s x k s' h; cases h
  | succ F ih =>
    intro s x k s' h
    rw [loadO] at h
    split at h
    · cases h
    next x1 s1 h1 =>
    split at h
    · cases h
    next x2 s2 h2 =>
    obtain ⟨a0, a1, a2, a3, a4, a5, a6, a7, a8, a9, a10⟩ := head_read h1
    have hd : x2.id = x1.id ∧ x2.dir = x1.dir ∧ x2.a = x1.a ∧ s2.ids = s1.ids ∧ s2.z = s1.z + x2.d.length ∧ (s1.z ≤ 1048576 → s2.z ≤ 1048576) ∧ (x2.dir = true → x2.d = []) ∧ (s2.y = 0 → x2.a.s = x2.d.length ∧ Stands bs s1.p x2.d s2.p) := by
      unfold dataO at h2
      split at h2
      · next hdir =>
        split at h2
        · next hz =>
          obtain ⟨rfl, rfl⟩ := Prod.mk.inj (Option.some.inj h2)
          refine ⟨rfl, rfl, rfl, rfl, ?_, id, fun _ => a0, fun _ => ?_⟩
          · rw [a0]; rfl
          · rw [a0]; exact ⟨hz, Stands.nil _ _⟩
        · cases h2
      · next hdir =>
        split at h2
        · cases h2
        · next hz =>
          obtain ⟨rfl, rfl⟩ := Prod.mk.inj (Option.some.inj h2)
          have hl := tk_len bs s1.p s1.y x1.a.s
          refine ⟨rfl, rfl, rfl, rfl, rfl, fun _ => ?_, fun e => absurd e hdir, fun hy => ?_⟩
          · show s1.z + _ ≤ _; omega
          · obtain ⟨_, e2, e3⟩ := tk_fin hy
            exact ⟨e2.symm, e3⟩
    obtain ⟨d1, d2, d3, d4, d5, d6, d7, d8⟩ := hd
    have hnod : s.ids.Nodup → s2.ids.Nodup := fun h => by rw [d4, a4]; exact List.nodup_cons.2 ⟨a2, h⟩
    have hcnt : s2.ids.length ≤ 200 := by rw [d4, a4, List.length_cons]; omega
    have hzz : s2.z = s.z + x2.d.length := by rw [d5, a5]
    have hhd : s2.y = 0 → hdGood x2 ∧ Stands bs s.p (be 8 x2.id ++ [bit x2.dir] ++ putA x2.a ++ x2.d) s2.p := fun hy => by
      obtain ⟨e1, e2⟩ := d8 hy
      refine ⟨⟨by rw [d3]; exact a6, by rw [d3]; exact a7, e1, d7⟩, ?_⟩
      rw [d1, d2, d3]
      exact a10.app e2
    split at h
    · next hdir =>
      split at h
      · next hv =>
        obtain ⟨q1, q2⟩ := Prod.mk.inj (Option.some.inj h)
        obtain ⟨q3, q4⟩ := Prod.mk.inj q2
        subst q1 q3 q4
        refine ⟨by rw [d1]; exact d4.trans a4, hnod, fun _ => hcnt, ⟨by rw [d1]; exact a1, fun i h => by cases h⟩, ?_, fun h => d6 (by rw [a5]; exact h), fun hy => ?_⟩
        · simp only [Fo.size, Nat.add_zero]; exact hzz
        · obtain ⟨e1, e2, e3⟩ := tk_fin hy
          obtain ⟨f1, f2⟩ := hhd e1
          refine ⟨a8, ?_, f1, fun _ => rfl, trivial⟩
          rw [Fo.save, List.append_nil]
          have : hdrB (thH x2 .nil) = be 8 x2.id ++ [bit x2.dir] ++ putA x2.a ++ x2.d ++ (tk bs s2.p s2.y 4).1 := by
            rw [← be_val e2, hv]; rfl
          rw [this]
          exact f2.app e3
      · cases h
    · next hdir =>
      split at h
      · cases h
      next k1 s3 hk =>
      obtain ⟨q1, q2⟩ := Prod.mk.inj (Option.some.inj h)
      obtain ⟨q3, q4⟩ := Prod.mk.inj q2
      subst q1 q3 q4
      have hr := kids_read ih _ _ _ _ _ hk
      refine ⟨?_, fun h => hr.nod (hnod h), fun _ => hr.cnt hcnt, ⟨by rw [d1]; exact a1, hr.lt⟩, ?_, fun h => hr.zle (d6 (by rw [a5]; exact h)), fun hy => ?_⟩
      · rw [hr.ids, d4, a4, d1]
      · rw [hr.z]; simp only [hzz]; omega
      · obtain ⟨f1, f2, f3⟩ := hr.fin hy
        obtain ⟨e1, e2, e3⟩ := tk_fin f1
        obtain ⟨g1, g2⟩ := hhd e1
        refine ⟨a8, ?_, g1, fun e => absurd e hdir, f3⟩
        have : hdrB (thH x2 k1) = be 8 x2.id ++ [bit x2.dir] ++ putA x2.a ++ x2.d ++ (tk bs s2.p s2.y 4).1 := by
          rw [← be_val e2, ← hr.len]; rfl
        rw [this]
        exact (g2.app e3).app f2

end Go.Proofs.Ytnigfnikajejaaa
