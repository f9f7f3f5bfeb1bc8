/- Plain facts: what Get reads of bytes that Put wrote, cut off or not; what Merge keeps. -/
import Derived.Test.YtkbfgfpdchgjpaaAtD
namespace Go.Proofs.Ytkbfgfpdchgjpaa
open Go Go.RowKit

/-- How many bytes the flags tell. -/
def sz1 (f : Nat) : Nat := if bt 1 f then 8 else 0
def sz2 (f : Nat) : Nat := if bt 2 f then 8 else 0
def sz4 (f : Nat) : Nat := if bt 4 f then 4 else 0
def sz8 (f : Nat) : Nat := if bt 8 f then 8 else 0
def lenA (f : Nat) : Nat := 4 + sz1 f + sz2 f + sz4 f + sz8 f
theorem put1_len (x : At) : (put1 x).length = sz1 x.f := by unfold put1 sz1; split <;> simp [be_length]
theorem put2_len (x : At) : (put2 x).length = sz2 x.f := by unfold put2 sz2; split <;> simp [be_length]
theorem put4_len (x : At) : (put4 x).length = sz4 x.f := by unfold put4 sz4; split <;> simp [be_length]
theorem put8_len (x : At) : (put8 x).length = sz8 x.f := by unfold put8 sz8; split <;> simp [be_length]
theorem putA_len (x : At) : (putA x).length = lenA x.f := by simp only [putA, lenA, List.length_append, be_length, put1_len, put2_len, put4_len, put8_len]

/-- Cut at k: at its end, or at off ahead of it. -/
def Inv (k off : Nat) (q : Nat × Int) : Prop := q = (k, 10) ∨ (q = (off, 0) ∧ off ≤ k)
theorem Inv.tk {bs : List UInt8} {k off n : Nat} {q : Nat × Int} (hb : bs.length = k) (h : Inv k off q) : Inv k (off + n) (tk bs q.1 q.2 n).2 := by
  rcases h with rfl | ⟨rfl, h⟩
  · exact .inl (by simp [Proofs.Ytkbfgfpdchgjpaa.tk])
  · unfold Proofs.Ytkbfgfpdchgjpaa.tk
    by_cases hn : bs.length - off < n
    · exact .inl (by rw [if_pos rfl, if_pos hn, hb])
    · exact .inr ⟨by rw [if_pos rfl, if_neg hn], by omega⟩
theorem get1_cut {bs : List UInt8} {k off f : Nat} {r : At × (Nat × Int)} (hb : bs.length = k) (hf : r.1.f = f) (h : Inv k off r.2) : (get1 bs r).1.f = f ∧ Inv k (off + sz1 f) (get1 bs r).2 := by
  unfold get1 sz1
  rw [hf]
  by_cases e : bt 1 f = true
  · rw [if_pos e, if_pos e]; exact ⟨hf, h.tk hb⟩
  · rw [if_neg e, if_neg e]; exact ⟨hf, h⟩
theorem get2_cut {bs : List UInt8} {k off f : Nat} {r : At × (Nat × Int)} (hb : bs.length = k) (hf : r.1.f = f) (h : Inv k off r.2) : (get2 bs r).1.f = f ∧ Inv k (off + sz2 f) (get2 bs r).2 := by
  unfold get2 sz2
  rw [hf]
  by_cases e : bt 2 f = true
  · rw [if_pos e, if_pos e]; exact ⟨hf, by have := Inv.tk (n := 4) hb (Inv.tk (n := 4) hb h); rw [Nat.add_assoc] at this; exact this⟩
  · rw [if_neg e, if_neg e]; exact ⟨hf, h⟩
theorem get4_cut {bs : List UInt8} {k off f : Nat} {r : At × (Nat × Int)} (hb : bs.length = k) (hf : r.1.f = f) (h : Inv k off r.2) : (get4 bs r).1.f = f ∧ Inv k (off + sz4 f) (get4 bs r).2 := by
  unfold get4 sz4
  rw [hf]
  by_cases e : bt 4 f = true
  · rw [if_pos e, if_pos e]; exact ⟨hf, h.tk hb⟩
  · rw [if_neg e, if_neg e]; exact ⟨hf, h⟩
theorem get8_cut {bs : List UInt8} {k off f : Nat} {r : At × (Nat × Int)} (hb : bs.length = k) (hf : r.1.f = f) (h : Inv k off r.2) : (get8 bs r).1.f = f ∧ Inv k (off + sz8 f) (get8 bs r).2 := by
  unfold get8 sz8
  rw [hf]
  by_cases e : bt 8 f = true
  · rw [if_pos e, if_pos e]; exact ⟨hf, by have := Inv.tk (n := 4) hb (Inv.tk (n := 4) hb h); rw [Nat.add_assoc] at this; exact this⟩
  · rw [if_neg e, if_neg e]; exact ⟨hf, h⟩

theorem valFrom_be (k : Nat) : ∀ (m n : Nat), valFrom m (be k n) = m * 256 ^ k + n % 256 ^ k := by
  induction k with
  | zero => intro m n; simp [be, valFrom, Nat.mod_one]
  | succ k ih =>
    intro m n
    rw [be, valFrom, ih]
    have h : (UInt8.ofNat (n / 256 ^ k % 256)).toNat = n / 256 ^ k % 256 := by simp
    rw [h, Nat.pow_succ, Nat.mod_mul, Nat.add_mul]
    have e : m * 256 * 256 ^ k = m * (256 ^ k * 256) := by rw [Nat.mul_assoc, Nat.mul_comm 256]
    rw [e, Nat.mul_comm (n / 256 ^ k % 256)]
    omega
theorem val_be (k n : Nat) (h : n < 256 ^ k) : val (be k n) = n := by
  unfold val
  rw [valFrom_be, Nat.mod_eq_of_lt h]
  simp
theorem tk_at (pre mid post : List UInt8) (n : Nat) (hn : n = mid.length) : tk (pre ++ (mid ++ post)) pre.length 0 n = (mid, pre.length + n, 0) := by
  subst hn
  unfold tk
  rw [if_pos rfl, if_neg (by simp)]
  simp
theorem be4_val (n : Nat) (h : n ≤ 4294967295) : val (be 4 n) = n := val_be 4 n (by omega)
theorem be8_val (n : Nat) (h : n ≤ 18446744073709551615) : val (be 8 n) = n := val_be 8 n (by omega)
theorem tk_mid {bs pre mid post : List UInt8} {q : Nat × Int} (hb : bs = pre ++ (mid ++ post)) (hq : q = (pre.length, 0)) (n : Nat) (hn : n = mid.length) : tk bs q.1 q.2 n = (mid, (pre ++ mid).length, 0) := by
  subst hb hq
  rw [tk_at pre mid post n hn, List.length_append, hn]
theorem tk_two {bs pre m1 m2 post : List UInt8} {q : Nat × Int} (hb : bs = pre ++ ((m1 ++ m2) ++ post)) (hq : q = (pre.length, 0)) (n : Nat) (h1 : n = m1.length) (h2 : n = m2.length) :
    tk bs q.1 q.2 n = (m1, (pre ++ m1).length, 0) ∧ tk bs (pre ++ m1).length 0 n = (m2, (pre ++ (m1 ++ m2)).length, 0) := by
  refine ⟨tk_mid (mid := m1) (post := m2 ++ post) (by rw [hb]; simp only [List.append_assoc]) hq n h1, ?_⟩
  have := tk_mid (bs := bs) (pre := pre ++ m1) (mid := m2) (post := post) (q := ((pre ++ m1).length, 0)) (by rw [hb]; simp only [List.append_assoc]) rfl n h2
  rw [List.append_assoc] at this
  exact this

theorem back1 {bs pre post : List UInt8} {x : At} {r : At × (Nat × Int)} (hx : x.Ok) (hb : bs = pre ++ (put1 x ++ post)) (hf : r.1.f = x.f) (hr : r.2 = (pre.length, 0)) :
    get1 bs r = ({ r.1 with s := if bt 1 x.f then x.s else r.1.s }, ((pre ++ put1 x).length, 0)) := by
  unfold get1
  rw [hf]
  by_cases e : bt 1 x.f = true
  · have e1 : put1 x = be 8 x.s := by simp [put1, e]
    rw [e1] at hb ⊢
    rw [if_pos e, tk_mid hb hr 8 (by simp [be_length]), be8_val _ hx.s, if_pos e]
  · have e1 : put1 x = [] := by simp [put1, e]
    rw [if_neg e, if_neg e, e1, List.append_nil, ← hr]
theorem back2 {bs pre post : List UInt8} {x : At} {r : At × (Nat × Int)} (hx : x.Ok) (hb : bs = pre ++ (put2 x ++ post)) (hf : r.1.f = x.f) (hr : r.2 = (pre.length, 0)) :
    get2 bs r = ({ r.1 with u := if bt 2 x.f then x.u else r.1.u, g := if bt 2 x.f then x.g else r.1.g }, ((pre ++ put2 x).length, 0)) := by
  unfold get2
  rw [hf]
  by_cases e : bt 2 x.f = true
  · have e1 : put2 x = be 4 x.u ++ be 4 x.g := by simp [put2, e]
    rw [e1] at hb ⊢
    obtain ⟨t1, t2⟩ := tk_two hb hr 4 (by simp [be_length]) (by simp [be_length])
    rw [if_pos e, t1]
    simp only [t2, be4_val _ hx.u, be4_val _ hx.g, if_pos e]
  · have e1 : put2 x = [] := by simp [put2, e]
    rw [if_neg e, if_neg e, if_neg e, e1, List.append_nil, ← hr]
theorem back4 {bs pre post : List UInt8} {x : At} {r : At × (Nat × Int)} (hx : x.Ok) (hb : bs = pre ++ (put4 x ++ post)) (hf : r.1.f = x.f) (hr : r.2 = (pre.length, 0)) :
    get4 bs r = ({ r.1 with m := if bt 4 x.f then x.m else r.1.m }, ((pre ++ put4 x).length, 0)) := by
  unfold get4
  rw [hf]
  by_cases e : bt 4 x.f = true
  · have e1 : put4 x = be 4 x.m := by simp [put4, e]
    rw [e1] at hb ⊢
    rw [if_pos e, tk_mid hb hr 4 (by simp [be_length]), be4_val _ hx.m, if_pos e]
  · have e1 : put4 x = [] := by simp [put4, e]
    rw [if_neg e, if_neg e, e1, List.append_nil, ← hr]
theorem back8 {bs pre post : List UInt8} {x : At} {r : At × (Nat × Int)} (hx : x.Ok) (hb : bs = pre ++ (put8 x ++ post)) (hf : r.1.f = x.f) (hr : r.2 = (pre.length, 0)) :
    get8 bs r = ({ r.1 with a := if bt 8 x.f then x.a else r.1.a, t := if bt 8 x.f then x.t else r.1.t }, ((pre ++ put8 x).length, 0)) := by
  unfold get8
  rw [hf]
  by_cases e : bt 8 x.f = true
  · have e1 : put8 x = be 4 x.a ++ be 4 x.t := by simp [put8, e]
    rw [e1] at hb ⊢
    obtain ⟨t1, t2⟩ := tk_two hb hr 4 (by simp [be_length]) (by simp [be_length])
    rw [if_pos e, t1]
    simp only [t2, be4_val _ hx.a, be4_val _ hx.t, if_pos e]
  · have e1 : put8 x = [] := by simp [put8, e]
    rw [if_neg e, if_neg e, if_neg e, e1, List.append_nil, ← hr]

/-- Right, in words. -/
structure Right (x : At) : Prop where
  f : x.f ≤ 15
  s : bt 1 x.f = false → x.s = 0
  u : bt 2 x.f = false → x.u = 0
  g : bt 2 x.f = false → x.g = 0
  m : bt 4 x.f = false → x.m = 0
  a : bt 8 x.f = false → x.a = 0
  t : bt 8 x.f = false → x.t = 0
theorem right_iff (x : At) : rightA x = true ↔ Right x := by
  unfold rightA
  constructor
  · intro h
    simp only [Bool.and_eq_true, Bool.or_eq_true, decide_eq_true_eq] at h
    obtain ⟨⟨⟨⟨h0, h1⟩, h2⟩, h4⟩, h8⟩ := h
    exact ⟨h0, fun e => by simpa [e] using h1, fun e => (by simpa [e] using h2 : x.u = 0 ∧ x.g = 0).1, fun e => (by simpa [e] using h2 : x.u = 0 ∧ x.g = 0).2, fun e => by simpa [e] using h4, fun e => (by simpa [e] using h8 : x.a = 0 ∧ x.t = 0).1, fun e => (by simpa [e] using h8 : x.a = 0 ∧ x.t = 0).2⟩
  · rintro ⟨h0, h1, h2, h3, h4, h5, h6⟩
    simp only [Bool.and_eq_true, Bool.or_eq_true, decide_eq_true_eq]
    refine ⟨⟨⟨⟨h0, ?_⟩, ?_⟩, ?_⟩, ?_⟩
    · cases e : bt 1 x.f with
      | true => exact .inl rfl
      | false => exact .inr (h1 e)
    · cases e : bt 2 x.f with
      | true => exact .inl rfl
      | false => exact .inr ⟨h2 e, h3 e⟩
    · cases e : bt 4 x.f with
      | true => exact .inl rfl
      | false => exact .inr (h4 e)
    · cases e : bt 8 x.f with
      | true => exact .inl rfl
      | false => exact .inr ⟨h5 e, h6 e⟩

/-- What is written is read, with other bytes behind it. -/
theorem get_back (x : At) (hx : x.Ok) (hr : Right x) (z : List UInt8) : getA (putA x ++ z) 0 0 = (x, ((putA x).length, 0)) := by
  have hb : putA x ++ z = [] ++ (be 4 x.f ++ (put1 x ++ (put2 x ++ (put4 x ++ (put8 x ++ z))))) := by simp only [putA, List.append_assoc, List.nil_append]
  have t0 : tk (putA x ++ z) 0 0 4 = (be 4 x.f, (be 4 x.f).length, 0) := tk_mid (q := (0, 0)) hb rfl 4 (by simp [be_length])
  have e0 : get0 (putA x ++ z) (0, 0) = (⟨x.f, 0, 0, 0, 0, 0, 0⟩, ((be 4 x.f).length, 0)) := by
    simp only [get0, rdN, if_true, t0, be4_val _ hx.f]
    rw [if_neg (by have := hr.f; omega)]
  have e1 := back1 (bs := putA x ++ z) (pre := be 4 x.f) (post := put2 x ++ (put4 x ++ (put8 x ++ z))) (x := x) (r := (⟨x.f, 0, 0, 0, 0, 0, 0⟩, ((be 4 x.f).length, 0))) hx (by rw [hb]; rfl) rfl rfl
  have e2 := back2 (bs := putA x ++ z) (pre := be 4 x.f ++ put1 x) (post := put4 x ++ (put8 x ++ z)) (x := x) (r := get1 (putA x ++ z) (⟨x.f, 0, 0, 0, 0, 0, 0⟩, ((be 4 x.f).length, 0))) hx (by rw [hb]; simp only [List.append_assoc, List.nil_append]) (by rw [e1]) (by rw [e1])
  have e4 := back4 (bs := putA x ++ z) (pre := be 4 x.f ++ put1 x ++ put2 x) (post := put8 x ++ z) (x := x) (r := get2 (putA x ++ z) (get1 (putA x ++ z) (⟨x.f, 0, 0, 0, 0, 0, 0⟩, ((be 4 x.f).length, 0)))) hx (by rw [hb]; simp only [List.append_assoc, List.nil_append]) (by rw [e2, e1]) (by rw [e2])
  have e8 := back8 (bs := putA x ++ z) (pre := be 4 x.f ++ put1 x ++ put2 x ++ put4 x) (post := z) (x := x) (r := get4 (putA x ++ z) (get2 (putA x ++ z) (get1 (putA x ++ z) (⟨x.f, 0, 0, 0, 0, 0, 0⟩, ((be 4 x.f).length, 0))))) hx (by rw [hb]; simp only [List.append_assoc, List.nil_append]) (by rw [e4, e2, e1]) (by rw [e4])
  unfold getA
  rw [e0, e8, e4, e2, e1]
  have fs : (if bt 1 x.f then x.s else 0) = x.s := by cases e : bt 1 x.f with
    | true => rfl
    | false => exact (hr.s e).symm
  have fu : (if bt 2 x.f then x.u else 0) = x.u := by cases e : bt 2 x.f with
    | true => rfl
    | false => exact (hr.u e).symm
  have fg : (if bt 2 x.f then x.g else 0) = x.g := by cases e : bt 2 x.f with
    | true => rfl
    | false => exact (hr.g e).symm
  have fm : (if bt 4 x.f then x.m else 0) = x.m := by cases e : bt 4 x.f with
    | true => rfl
    | false => exact (hr.m e).symm
  have fa : (if bt 8 x.f then x.a else 0) = x.a := by cases e : bt 8 x.f with
    | true => rfl
    | false => exact (hr.a e).symm
  have ft : (if bt 8 x.f then x.t else 0) = x.t := by cases e : bt 8 x.f with
    | true => rfl
    | false => exact (hr.t e).symm
  simp only [get9, fs, fu, fg, fm, fa, ft, if_true]
  rfl

/-- Cut off anywhere: nothing, refused at its end. -/
theorem get_cut (x : At) (hx : x.Ok) (hf : x.f ≤ 15) (k : Nat) (hk : k < lenA x.f) : getA ((putA x).take k) 0 0 = (zeroA, (k, 10)) := by
  have hb : ((putA x).take k).length = k := by rw [List.length_take, putA_len]; omega
  have i0 : Inv k 0 ((0 : Nat), (0 : Int)) := .inr ⟨rfl, Nat.zero_le _⟩
  have h0 : ((get0 ((putA x).take k) (0, 0)).1.f = x.f ∧ Inv k 4 (get0 ((putA x).take k) (0, 0)).2) ∨ ((get0 ((putA x).take k) (0, 0)).1.f = 0 ∧ (get0 ((putA x).take k) (0, 0)).2 = (k, 10)) := by
    unfold get0 rdN
    simp only [if_true]
    by_cases h4 : k < 4
    · have t0 : tk ((putA x).take k) 0 0 4 = ([], k, 10) := by unfold tk; rw [if_pos rfl, if_pos (by omega), hb]
      rw [t0]
      exact .inr ⟨rfl, rfl⟩
    · have t0 : tk ((putA x).take k) 0 0 4 = (be 4 x.f, 4, 0) := by
        unfold tk
        rw [if_pos rfl, if_neg (by omega), List.drop_zero, List.take_take, Nat.min_eq_left (by omega), putA]
        simp only [List.append_assoc]
        rw [List.take_append_of_le_length (by simp [be_length]), List.take_of_length_le (by simp [be_length])]
      rw [t0, be4_val _ hx.f, if_neg (by omega)]
      exact .inl ⟨rfl, .inr ⟨rfl, by omega⟩⟩
  have hend : (get8 ((putA x).take k) (get4 ((putA x).take k) (get2 ((putA x).take k) (get1 ((putA x).take k) (get0 ((putA x).take k) (0, 0)))))).2 = (k, 10) := by
    generalize get0 ((putA x).take k) (0, 0) = r at h0 ⊢
    rcases h0 with ⟨h1, h2⟩ | ⟨h1, h2⟩
    · obtain ⟨a1, b1⟩ := get1_cut hb h1 h2
      obtain ⟨a2, b2⟩ := get2_cut hb a1 b1
      obtain ⟨a4, b4⟩ := get4_cut hb a2 b2
      obtain ⟨a8, b8⟩ := get8_cut hb a4 b4
      rcases b8 with e | ⟨_, e⟩
      · exact e
      · unfold lenA at hk; omega
    · have z1 : get1 ((putA x).take k) r = r := by unfold get1; rw [h1]; rfl
      have z2 : get2 ((putA x).take k) r = r := by unfold get2; rw [h1]; rfl
      have z4 : get4 ((putA x).take k) r = r := by unfold get4; rw [h1]; rfl
      have z8 : get8 ((putA x).take k) r = r := by unfold get8; rw [h1]; rfl
      rw [z1, z2, z4, z8, h2]
  unfold getA
  generalize get8 ((putA x).take k) (get4 ((putA x).take k) (get2 ((putA x).take k) (get1 ((putA x).take k) (get0 ((putA x).take k) (0, 0))))) = r at hend ⊢
  unfold get9
  rw [hend, if_neg (show ¬ (10 : Int) = 0 by decide)]

theorem bt_or (k x y : Nat) (hx : x ≤ 15) (hy : y ≤ 15) (hk : k = 1 ∨ k = 2 ∨ k = 4 ∨ k = 8) : bt k (x ||| y) = (bt k x || bt k y) := by
  have h : ∀ (x y : Fin 16), bt 1 (x.val ||| y.val) = (bt 1 x.val || bt 1 y.val) ∧ bt 2 (x.val ||| y.val) = (bt 2 x.val || bt 2 y.val) ∧ bt 4 (x.val ||| y.val) = (bt 4 x.val || bt 4 y.val) ∧ bt 8 (x.val ||| y.val) = (bt 8 x.val || bt 8 y.val) := by decide +kernel
  have := h ⟨x, by omega⟩ ⟨y, by omega⟩
  rcases hk with rfl | rfl | rfl | rfl
  · exact this.1
  · exact this.2.1
  · exact this.2.2.1
  · exact this.2.2.2
theorem or_le (x y : Nat) (hx : x ≤ 15) (hy : y ≤ 15) : x ||| y ≤ 15 := by
  have h : ∀ (x y : Fin 16), x.val ||| y.val ≤ 15 := by decide +kernel
  exact h ⟨x, by omega⟩ ⟨y, by omega⟩
theorem merge_ok (x y : At) (hx : x.Ok) (hy : y.Ok) : (mergeA x y).Ok := by
  refine ⟨?_, ?_, ?_, ?_, ?_, ?_, ?_⟩
  · have h := @Nat.or_lt_two_pow x.f y.f 32 (by have := hx.f; omega) (by have := hy.f; omega)
    show x.f ||| y.f ≤ 4294967295
    omega
  · show (if bt 1 y.f then y.s else x.s) ≤ _; split; exact hy.s; exact hx.s
  · show (if bt 2 y.f then y.u else x.u) ≤ _; split; exact hy.u; exact hx.u
  · show (if bt 2 y.f then y.g else x.g) ≤ _; split; exact hy.g; exact hx.g
  · show (if bt 4 y.f then y.m else x.m) ≤ _; split; exact hy.m; exact hx.m
  · show (if bt 8 y.f then y.a else x.a) ≤ _; split; exact hy.a; exact hx.a
  · show (if bt 8 y.f then y.t else x.t) ≤ _; split; exact hy.t; exact hx.t
theorem merge_right (x y : At) (hx : Right x) (hy : Right y) : Right (mergeA x y) := by
  have o1 := bt_or 1 x.f y.f hx.f hy.f (.inl rfl)
  have o2 := bt_or 2 x.f y.f hx.f hy.f (.inr (.inl rfl))
  have o4 := bt_or 4 x.f y.f hx.f hy.f (.inr (.inr (.inl rfl)))
  have o8 := bt_or 8 x.f y.f hx.f hy.f (.inr (.inr (.inr rfl)))
  refine ⟨or_le _ _ hx.f hy.f, ?_, ?_, ?_, ?_, ?_, ?_⟩
  all_goals (intro h; simp only [mergeA] at h ⊢)
  · rw [o1, Bool.or_eq_false_iff] at h; rw [h.2]; exact hx.s h.1
  · rw [o2, Bool.or_eq_false_iff] at h; rw [h.2]; exact hx.u h.1
  · rw [o2, Bool.or_eq_false_iff] at h; rw [h.2]; exact hx.g h.1
  · rw [o4, Bool.or_eq_false_iff] at h; rw [h.2]; exact hx.m h.1
  · rw [o8, Bool.or_eq_false_iff] at h; rw [h.2]; exact hx.a h.1
  · rw [o8, Bool.or_eq_false_iff] at h; rw [h.2]; exact hx.t h.1
theorem merge_self (x : At) : mergeA x x = x := by
  obtain ⟨f, s, u, g, m, a, t⟩ := x
  simp [mergeA]
theorem merge_zero (x : At) : mergeA x zeroA = x := by
  obtain ⟨f, s, u, g, m, a, t⟩ := x
  simp [mergeA, zeroA, bt]
theorem zero_merge (x : At) (hr : Right x) : mergeA zeroA x = x := by
  obtain ⟨f, s, u, g, m, a, t⟩ := x
  obtain ⟨h0, h1, h2, h3, h4, h5, h6⟩ := hr
  simp only at h1 h2 h3 h4 h5 h6
  simp only [mergeA, zeroA, Nat.zero_or]
  congr
  · cases e : bt 1 f with
    | true => rfl
    | false => exact (h1 e).symm
  · cases e : bt 2 f with
    | true => rfl
    | false => exact (h2 e).symm
  · cases e : bt 2 f with
    | true => rfl
    | false => exact (h3 e).symm
  · cases e : bt 4 f with
    | true => rfl
    | false => exact (h4 e).symm
  · cases e : bt 8 f with
    | true => rfl
    | false => exact (h5 e).symm
  · cases e : bt 8 f with
    | true => rfl
    | false => exact (h6 e).symm
theorem merge_again (x y : At) : mergeA (mergeA x y) y = mergeA x y := by
  obtain ⟨f, s, u, g, m, a, t⟩ := x
  obtain ⟨f', s', u', g', m', a', t'⟩ := y
  have e : ∀ (b : Bool) (p q : Nat), (if b = true then p else if b = true then p else q) = if b = true then p else q := by intro b p q; cases b <;> rfl
  simp only [mergeA, Nat.or_assoc, Nat.or_self, e]

end Go.Proofs.Ytkbfgfpdchgjpaa
