/- What put does, kind by kind. -/
import Derived.Test.YtahlefnkdbomfaaPutB
namespace Go.Proofs.Ytahlefnkdbomfaa
open Go Go.RowKit

/-- What a part writes. -/
def partBytes (k n : Int) (s : ByteArray) (ss : List ByteArray) : List UInt8 :=
  if k = 1 then [byteOf (wrap64 n)] else if k = 2 then [bit (n % 2 == 1)] else if k = 3 then be 4 (n % 4294967296).toNat else if k = 4 then be 8 n.toNat
  else if k = 5 then textBytes s.data.toList else if k = 6 then mpBytes s.data.toList else if k = 7 then textBytes (joined ss) else s.data.toList

structure PutIn (n : Int) (s : ByteArray) (l : Value) (ss : List ByteArray) (v : Value) (xs : List UInt8) (w : World) (base a : Nat) (g : Option Nat) (bs : List UInt8) : Prop where
  lo : 0 ≤ n
  hi : n < 18446744073709551616
  size : s.size ≤ 1000
  list : SSl w l ss
  join : (joined ss).length ≤ 10000
  len : ss.length ≤ 1000
  state : WS w base a g bs
  doc : BSl w v xs
  apart : v.ownBlock ≠ some a ∧ ∀ k, g = some k → v.ownBlock ≠ some k
  lapart : l.ownBlock ≠ some a ∧ ∀ k, g = some k → l.ownBlock ≠ some k
  blen : bs.length ≤ 1000000000
  xlen : xs.length ≤ 1000000000

def PutPost (w : World) (base a : Nat) (g : Option Nat) (bs xs pb : List UInt8) (e : Ending) (w' : World) : Prop :=
  ∃ v' g', e = .returned v' ∧ WS w' base a g' (bs ++ pb) ∧ BSl w' v' (xs ++ pb) ∧ (v'.ownBlock ≠ some a ∧ ∀ k, g' = some k → v'.ownBlock ≠ some k) ∧ Wrote a g g' w w' ∧ w'.ownsRow w.heap.size 5 1 v' (xs ++ pb).length (bcells (xs ++ pb))

theorem row_mono {w : World} {b0 b1 : Nat} {e : TypeId} {size : Nat} {v : Value} {n : Nat} {xs : List Value} (h : w.ownsRow b1 e size v n xs) (hb : b0 ≤ b1) : w.ownsRow b0 e size v n xs :=
  ⟨h.1, h.2.elim .inl fun ⟨g, cap, cur, h1, h2, h3⟩ => .inr ⟨g, cap, cur, h1, Nat.le_trans hb h2, h3⟩⟩

theorem put_end {w w1 w2 : World} {base a : Nat} {g g' : Option Nat} {bs xs pb : List UInt8} {e : Ending} (hw : WS w1 base a g' (bs ++ pb)) (hwr : Wrote a g g' w w1) (hf : Fresh w1 (xs ++ pb) e w2) : PutPost w base a g bs xs pb e w2 := by
  obtain ⟨v', rfl, ho, hb⟩ := hf
  have hlt := hw.lt
  refine ⟨v', g', rfl, hw.keep (S := fun _ => False) (Keeps.ofFresh hb) (fun h => h) (fun _ _ h => h), BSl.ofRow ho, ⟨fun e => ?_, fun k hk e => ?_⟩, ⟨hwr.keeps.trans (Keeps.ofFresh hb), hwr.row⟩, row_mono ho hwr.keeps.size⟩
  · have := (ho.lt _ e).1; omega
  · have h1 := (ho.lt _ e).1; have h2 := (hw.rowLt k hk).2; omega

/-- The boxed part, behind what the Writer wrote. -/
theorem box_kept {w w1 : World} {o : Obj} {base a : Nat} {g g' : Option Nat} {bs : List UInt8} (h : WS w base a g bs) (hwr : Wrote a g g' (w.alloc o) w1) : w1.heap[w.heap.size]? = some o := by
  rw [hwr.keeps.block w.heap.size (by simp) ?_]
  · exact heap_alloc_new w o
  · rintro (e | e)
    · have := h.lt; omega
    · have := (h.rowLt _ e).2; omega

theorem wrote_fresh {w w' w2 : World} {a : Nat} {g g' : Option Nat} (hb : Below w.heap.size w w') (h : Wrote a g g' w' w2) : Wrote a g g' w w2 :=
  ⟨(Keeps.ofFresh hb).trans h.keeps, h.row.elim .inl fun ⟨k, e, hk⟩ => .inr ⟨k, e, Nat.le_trans hb.size hk⟩⟩








end Go.Proofs.Ytahlefnkdbomfaa
