/- What the walk of WireBack carries along while a part is written. -/
import Derived.Test.YtahlefnkdbomfaaBackP
namespace Go.Proofs.Ytahlefnkdbomfaa
open Go Go.RowKit

def okS (s : ByteArray) : Bool := okName s.data.toList
def nms (ss : List ByteArray) : List ByteArray := (few ss).filter okS
/-- What a part writes, one behind the other. -/
def piece (p : PartD) : List UInt8 :=
  [byteOf (p.n % 256)] ++ (be 4 (p.n % 4294967296).toNat ++ (be 8 p.n.toNat ++ (textBytes (p.s.extract 0 200).data.toList ++ (mpBytes (p.s.extract 0 200).data.toList ++ (textBytes (joined (nms p.ss)) ++ ([bit (p.n % 2 == 1)] ++ (p.s.extract 0 200).data.toList))))))

/-- What lies beside a Writer while a part is written: the part's box and the names. -/
structure Beside (w : World) (a B : Nat) (g : Option Nat) (box : Obj) (o : Value) (ms : List ByteArray) : Prop where
  box : w.heap[B]? = some box
  ba : B ≠ a
  gb : g ≠ some B
  names : SSl w o ms
  olt : ∀ k, o.ownBlock = some k → k < w.heap.size
  oa : o.ownBlock ≠ some a
  og : ∀ k, g = some k → o.ownBlock ≠ some k
theorem Beside.next {w w' : World} {a B : Nat} {g g' : Option Nat} {box : Obj} {o : Value} {ms : List ByteArray} (h : Beside w a B g box o ms) (hw : Wrote a g g' w w') : Beside w' a B g' box o ms := by
  have hlt := lt_of_block h.box
  refine ⟨(hw.keeps.block B hlt (fun e => e.elim h.ba h.gb)).trans h.box, h.ba, ?_, h.names.keep hw.keeps (fun k hk e => e.elim (fun e => h.oa (e ▸ hk)) (fun e => h.og k e hk)), fun k hk => Nat.lt_of_lt_of_le (h.olt k hk) hw.keeps.size, h.oa, ?_⟩
  · rcases hw.row with e | ⟨k, e, hk⟩
    · rw [e]; exact h.gb
    · rw [e]; intro e2; cases e2; omega
  · rcases hw.row with e | ⟨k, e, hk⟩
    · rw [e]; exact h.og
    · rw [e]; intro j ej eo; cases ej; have := h.olt _ eo; omega
theorem Beside.fresh {w w' : World} {a B : Nat} {g : Option Nat} {box : Obj} {o : Value} {ms : List ByteArray} (h : Beside w a B g box o ms) (hb : Below w.heap.size w w') : Beside w' a B g box o ms :=
  ⟨((Keeps.ofFresh (S := fun _ => False) hb).block B (lt_of_block h.box) (fun h => h)).trans h.box, h.ba, h.gb, h.names.fresh hb, fun k hk => Nat.lt_of_lt_of_le (h.olt k hk) hb.size, h.oa, h.og⟩
theorem box4 {w : World} {B : Nat} {v0 v1 v2 v3 : Value} {t : TypeId} (h : w.heap[B]? = some (.cells #[v0, v1, v2, v3] t (0, 0))) : w.cell? ⟨B, 1, none⟩ = some v1 ∧ w.cell? ⟨B, 2, none⟩ = some v2 ∧ w.cell? ⟨B, 3, none⟩ = some v3 := by
  refine ⟨?_, ?_, ?_⟩ <;> simp [World.cell?, h]

theorem joined_len (l : List ByteArray) (h : ∀ s ∈ l, s.size ≤ 64) : (joined l).length ≤ 65 * l.length := by
  have h1 : ∀ l : List ByteArray, (∀ s ∈ l, s.size ≤ 64) → (Lib.lens (l.map (·.data.toList))) ≤ 64 * l.length := by
    intro l hl
    induction l with
    | nil => simp [Lib.lens]
    | cons x r ih =>
      have h2 := hl x (by simp)
      have h3 := ih fun s hs => hl s (by simp [hs])
      simp only [Lib.lens, List.map_cons, List.sum_cons, List.length_cons, Array.length_toList] at h3 ⊢
      have : x.size = x.data.size := rfl
      omega
  have h2 := h1 l h
  unfold joined
  cases l with
  | nil => simp [Lib.join_nil]
  | cons x r =>
    rw [List.map_cons, Lib.join_cons, List.length_append, Lib.joinTail_length]
    simp only [Lib.lens, List.map_cons, List.sum_cons, List.length_cons, List.length_nil, List.length_map] at h2 ⊢
    omega
theorem okS_size {s : ByteArray} (h : okS s = true) : s.size ≤ 64 := by
  unfold okS okName at h
  simp only [Bool.and_eq_true, decide_eq_true_eq] at h
  have : s.data.toList.length = s.size := by rw [Array.length_toList]; rfl
  omega
theorem joined_ok {fs : List ByteArray} (h : (fs.filter okS).length ≤ 8) : (joined (fs.filter okS)).length ≤ 520 := by
  have := joined_len (fs.filter okS) (fun s hs => okS_size (List.mem_filter.1 hs).2)
  omega
theorem mp_len (xs : List UInt8) : (mpBytes xs).length ≤ xs.length + 5 := by
  rw [mp_in]
  have := mpIn_len xs
  simp [textBytes, be_length]
  omega
theorem bytes_apart {w : World} {s : ByteArray} {base a : Nat} {g : Option Nat} {bs : List UInt8} (h : WS w base a g bs) : (bytesV w s).ownBlock ≠ some a ∧ ∀ k, g = some k → (bytesV w s).ownBlock ≠ some k := by
  have h1 := h.lt
  refine ⟨by simp [bytesV, Value.ownBlock]; omega, fun k e h2 => ?_⟩
  have := (h.rowLt k e).2
  simp [bytesV, Value.ownBlock] at h2
  omega

theorem hid_b {p : Prop} (h : p) : Hid p := h


end Go.Proofs.Ytahlefnkdbomfaa
