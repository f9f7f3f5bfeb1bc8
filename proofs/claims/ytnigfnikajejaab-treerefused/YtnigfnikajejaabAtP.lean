/- The plain program: what is told of files, judged, written, merged and read. -/
import Derived.Test.YtnigfnikajejaabRdC
namespace Go.Proofs.Ytnigfnikajejaab
open Go Go.RowKit


/-- Attributes: flags, size, owners, mode, times. -/
structure At where
  f : Nat
  s : Nat
  u : Nat
  g : Nat
  m : Nat
  a : Nat
  t : Nat
/-- Each number fits. -/
structure At.Ok (x : At) : Prop where
  f : x.f ≤ 4294967295
  s : x.s ≤ 18446744073709551615
  u : x.u ≤ 4294967295
  g : x.g ≤ 4294967295
  m : x.m ≤ 4294967295
  a : x.a ≤ 4294967295
  t : x.t ≤ 4294967295
def zeroA : At := ⟨0, 0, 0, 0, 0, 0, 0⟩
theorem zero_ok : zeroA.Ok := ⟨by decide, by decide, by decide, by decide, by decide, by decide, by decide⟩
/-- The k-th bit of a number. -/
def bt (k n : Nat) : Bool := decide (n / k % 2 = 1)
def At.eq (x y : At) : Bool := x.f == y.f && (x.s == y.s && (x.u == y.u && (x.g == y.g && (x.m == y.m && (x.a == y.a && x.t == y.t)))))
theorem At.eq_iff (x y : At) : x.eq y = true ↔ x = y := by
  obtain ⟨a1, a2, a3, a4, a5, a6, a7⟩ := x
  obtain ⟨b1, b2, b3, b4, b5, b6, b7⟩ := y
  simp [At.eq]
theorem At.eq_self (x : At) : x.eq x = true := (At.eq_iff x x).2 rfl
def rightA (x : At) : Bool := decide (x.f ≤ 15) && (bt 1 x.f || decide (x.s = 0)) && (bt 2 x.f || decide (x.u = 0) && decide (x.g = 0)) && (bt 4 x.f || decide (x.m = 0)) && (bt 8 x.f || decide (x.a = 0) && decide (x.t = 0))
def put1 (x : At) : List UInt8 := if bt 1 x.f then be 8 x.s else []
def put2 (x : At) : List UInt8 := if bt 2 x.f then be 4 x.u ++ be 4 x.g else []
def put4 (x : At) : List UInt8 := if bt 4 x.f then be 4 x.m else []
def put8 (x : At) : List UInt8 := if bt 8 x.f then be 4 x.a ++ be 4 x.t else []
def putA (x : At) : List UInt8 := be 4 x.f ++ put1 x ++ put2 x ++ put4 x ++ put8 x
def mergeA (x y : At) : At := ⟨x.f ||| y.f, if bt 1 y.f then y.s else x.s, if bt 2 y.f then y.u else x.u, if bt 2 y.f then y.g else x.g, if bt 4 y.f then y.m else x.m, if bt 8 y.f then y.a else x.a, if bt 8 y.f then y.t else x.t⟩
/-- What is read: a number of k bytes, and where the reader stands behind it; nothing if it isn't told. -/
def rdN (bs : List UInt8) (k : Nat) (told : Bool) (q : Nat × Int) : Nat × (Nat × Int) := if told then (val (tk bs q.1 q.2 k).1, (tk bs q.1 q.2 k).2) else (0, q)
def get0 (bs : List UInt8) (q : Nat × Int) : At × (Nat × Int) :=
  (⟨(rdN bs 4 true q).1, 0, 0, 0, 0, 0, 0⟩, if 15 < (rdN bs 4 true q).1 then ((rdN bs 4 true q).2.1, 12) else (rdN bs 4 true q).2)
def get1 (bs : List UInt8) (r : At × (Nat × Int)) : At × (Nat × Int) := if bt 1 r.1.f then ({ r.1 with s := val (tk bs r.2.1 r.2.2 8).1 }, (tk bs r.2.1 r.2.2 8).2) else r
def get2 (bs : List UInt8) (r : At × (Nat × Int)) : At × (Nat × Int) :=
  if bt 2 r.1.f then ({ r.1 with u := val (tk bs r.2.1 r.2.2 4).1, g := val (tk bs (tk bs r.2.1 r.2.2 4).2.1 (tk bs r.2.1 r.2.2 4).2.2 4).1 }, (tk bs (tk bs r.2.1 r.2.2 4).2.1 (tk bs r.2.1 r.2.2 4).2.2 4).2) else r
def get4 (bs : List UInt8) (r : At × (Nat × Int)) : At × (Nat × Int) := if bt 4 r.1.f then ({ r.1 with m := val (tk bs r.2.1 r.2.2 4).1 }, (tk bs r.2.1 r.2.2 4).2) else r
def get8 (bs : List UInt8) (r : At × (Nat × Int)) : At × (Nat × Int) :=
  if bt 8 r.1.f then ({ r.1 with a := val (tk bs r.2.1 r.2.2 4).1, t := val (tk bs (tk bs r.2.1 r.2.2 4).2.1 (tk bs r.2.1 r.2.2 4).2.2 4).1 }, (tk bs (tk bs r.2.1 r.2.2 4).2.1 (tk bs r.2.1 r.2.2 4).2.2 4).2) else r
def get9 (r : At × (Nat × Int)) : At × (Nat × Int) := if r.2.2 = 0 then r else (zeroA, r.2)
/-- What Get answers of bs, from a place on, and how the reader stands behind it. -/
def getA (bs : List UInt8) (p : Nat) (y : Int) : At × (Nat × Int) := get9 (get8 bs (get4 bs (get2 bs (get1 bs (get0 bs (p, y))))))

end Go.Proofs.Ytnigfnikajejaab
