/- The document's hash and Server. -/
import Derived.Test.YtookapglookphaaDoorKxP
import Derived.Test.YtookapglookphaaDoorKxR
namespace Go.Proofs.YtookapglookphaaDoor
open Go Go.RowKit

theorem BSl.apartR {w : World} {R : Nat} {v : Value} {cs : Array Value} {t : TypeId} {xs : List UInt8} (h : BSl w v xs) (hne : xs ≠ []) (hr : w.heap[R]? = some (.cells cs t (0, 0))) (h0 : ∀ (i : Nat) (n : Int), cs[i]? ≠ some (.int .u8 n)) : v.ownBlock ≠ some R := by
  obtain ⟨x, r, rfl⟩ := List.exists_cons_of_ne_nil hne
  obtain ⟨b, off, cap, rfl, _, _, hb⟩ := h.cons
  have hc := h.head
  rw [hb]
  rintro e
  cases e
  unfold World.cell? at hc
  simp only [hr] at hc
  exact h0 off _ (by simpa using hc)
theorem QR.bsl {w w' : World} {c : Nat} {g : Option Nat} {b : List UInt8} {p : Nat} {y : Int} {v : Value} {xs : List UInt8} (h : QR w c g b p y) (hv : BSl w v xs) (hk : Keeps (fun k => k = c) w w') : BSl w' v xs := by
  by_cases hne : xs = []
  · subst hne
    exact hv.nothing
  · obtain ⟨u, q, rf, y', z, hr, _⟩ := h
    refine hv.keep hk (fun k e e2 => hv.apartR hne hr (fun i n => ?_) (by rw [e, e2]))
    match i with
    | 0 => simp; rintro rfl; obtain ⟨_, _, e, _⟩ := ‹BSl w (Value.int IntKind.u8 n) b ∧ _›.1; cases e
    | 1 => simp
    | 2 => simp
    | 3 => simp
    | 4 => simp
    | k + 5 => simp
theorem QR.new {w : World} {v : Value} {b : List UInt8} (hv : BSl w v b) (hvb : ∀ k, v.ownBlock = some k → k < w.heap.size) (hl : b.length ≤ 1000000000000) : QR (w.alloc (.cells #[v, .int .i64 0, .bool false, .int .i64 0, .int .i64 0] 67)) w.heap.size v.ownBlock b 0 0 :=
  ⟨v, 0, false, 0, 0, heap_alloc_new w _, hv.alloc _, rfl, fun e => by have := hvb _ e; omega, Nat.zero_le _, hl, .inl ⟨rfl, rfl, rfl⟩⟩
theorem RBox.took {W : World} {B c : Nat} {sa : Array Value} {wx wy : World} (h : RBox W B sa wx) (hk : Keeps (fun k => k = c) wx wy) (hc : W.heap.size ≤ c) (h0 : c ≠ B) (h1 : c ≠ B + 1) : RBox W B sa wy :=
  ⟨h.bel.trans (hk.below (B := W.heap.size) h.bel.size (by intro k e; rw [e]; exact hc)), (hk.block B (lt_of_block h.side) (fun e => h0 e.symm)).trans h.side, (hk.block (B + 1) (lt_of_block h.sec) (fun e => h1 e.symm)).trans h.sec⟩
/-- What stands while the document reads a payload. -/
structure RX (W : World) (B : Nat) (sa : Array Value) (c : Nat) (g : Option Nat) (b : List UInt8) (p : Nat) (y : Int) (m : Value) (q : List UInt8) (wx : World) : Prop where
  box : RBox W B sa wx
  rd : QR wx c g b p y
  mine : BSl wx m q
  lo : W.heap.size ≤ c
  h0 : c ≠ B
  h1 : c ≠ B + 1
theorem RX.took {W : World} {B : Nat} {sa : Array Value} {c : Nat} {g : Option Nat} {b : List UInt8} {p p' : Nat} {y y' : Int} {m : Value} {q : List UInt8} {wx wy : World} (h : RX W B sa c g b p y m q wx) (ht : QTook c g b p' y' wx wy) : RX W B sa c g b p' y' m q wy :=
  ⟨h.box.took ht.keeps h.lo h.h0 h.h1, ht.state, h.rd.bsl h.mine ht.keeps, h.lo, h.h0, h.h1⟩
theorem RX.next {W : World} {B : Nat} {sa : Array Value} {c : Nat} {g : Option Nat} {b : List UInt8} {p : Nat} {y : Int} {m : Value} {q : List UInt8} {wx wy : World} (h : RX W B sa c g b p y m q wx) (hb : Below wx.heap.size wx wy) : RX W B sa c g b p y m q wy :=
  ⟨h.box.next hb, h.rd.fresh hb, h.mine.fresh hb, h.lo, h.h0, h.h1⟩
theorem RX.start {W : World} {B : Nat} {sa : Array Value} {w : World} {v m : Value} {b q : List UInt8} (hx : RBox W B sa w) (hm : BSl w m q) (hv : BSl w v b) (hvb : ∀ k, v.ownBlock = some k → k < w.heap.size) (hl : b.length ≤ 1000000000000) : RX W B sa w.heap.size v.ownBlock b 0 0 m q (w.alloc (.cells #[v, .int .i64 0, .bool false, .int .i64 0, .int .i64 0] 67)) := by
  have hb : Below w.heap.size w (w.alloc (.cells #[v, .int .i64 0, .bool false, .int .i64 0, .int .i64 0] 67)) := (Below.refl _ w).alloc (Nat.le_refl _) _
  have h1 := lt_of_block hx.side
  have h2 := lt_of_block hx.sec
  exact ⟨hx.next hb, QR.new hv hvb hl, hm.fresh hb, hx.bel.size, by omega, by omega⟩
end Go.Proofs.YtookapglookphaaDoor
