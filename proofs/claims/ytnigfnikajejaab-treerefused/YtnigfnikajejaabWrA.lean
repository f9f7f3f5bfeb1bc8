/- The Writer's state in memory, and what NewWriter, hasTopBit and Byte do to it. -/
import Derived.Test.YtnigfnikajejaabProg
import Derived.Test.YtnigfnikajejaabBase
import Derived.Outline
import Derived.Laws.BitsAllLaws
namespace Go.Proofs.Ytnigfnikajejaab
open Go Go.RowKit

theorem Try.infoU8 : (Try.prog.info? 5).map (fun i => (i.zero, i.size, i.bytes)) = some (some (.int .u8 0), 1, 1) := by kernel_rfl

/-- The Writer at block a has written bs; its row lies in block g. -/
def WS (w : World) (base a : Nat) (g : Option Nat) (bs : List UInt8) : Prop :=
  ∃ v, w.heap[a]? = some (.cells #[v] 99 (0, 0)) ∧ w.ownsRow base 5 1 v bs.length (bcells bs) ∧ v.ownBlock = g ∧ g ≠ some a ∧ base ≤ a

/-- What a call of a Writer's method may turn: its cell and its row; the row stays or is new. -/
structure Wrote (a : Nat) (g g' : Option Nat) (w w' : World) : Prop where
  keeps : Keeps (fun k => k = a ∨ g = some k) w w'
  row : g' = g ∨ ∃ k, g' = some k ∧ w.heap.size ≤ k

theorem WS.lt {w : World} {base a : Nat} {g : Option Nat} {bs : List UInt8} (h : WS w base a g bs) : a < w.heap.size := by
  obtain ⟨v, h1, _⟩ := h
  exact lt_of_block h1
theorem WS.rowLt {w : World} {base a : Nat} {g : Option Nat} {bs : List UInt8} (h : WS w base a g bs) : ∀ k, g = some k → base ≤ k ∧ k < w.heap.size := by
  obtain ⟨v, _, h2, rfl, _⟩ := h
  exact h2.lt
theorem WS.base {w : World} {base a : Nat} {g : Option Nat} {bs : List UInt8} (h : WS w base a g bs) : base ≤ a := by
  obtain ⟨v, _, _, _, _, h5⟩ := h
  exact h5

theorem Wrote.refl (a : Nat) (g : Option Nat) (w : World) : Wrote a g g w w := ⟨Keeps.refl _ _, .inl rfl⟩
theorem Wrote.trans {a : Nat} {g1 g2 g3 : Option Nat} {w1 w2 w3 : World} (h : Wrote a g1 g2 w1 w2) (k : Wrote a g2 g3 w2 w3) : Wrote a g1 g3 w1 w3 := by
  refine ⟨⟨k.keeps.os.trans h.keeps.os, k.keeps.tape.trans h.keeps.tape, k.keeps.output.trans h.keeps.output, Nat.le_trans h.keeps.size k.keeps.size, ?_⟩, ?_⟩
  · intro i hi hn
    have h1 := h.keeps.block i hi hn
    rw [← h1]
    refine k.keeps.block i (Nat.lt_of_lt_of_le hi h.keeps.size) ?_
    rintro (rfl | e)
    · exact hn (.inl rfl)
    · rcases h.row with rfl | ⟨k', rfl, hk⟩
      · exact hn (.inr e)
      · simp at e; omega
  · rcases k.row with rfl | ⟨k', rfl, hk⟩
    · exact h.row
    · exact .inr ⟨k', rfl, Nat.le_trans h.keeps.size hk⟩

/-- A Writer whose blocks are out of S stays as it is. -/
theorem WS.keep {S : Nat → Prop} {w w' : World} {base a : Nat} {g : Option Nat} {bs : List UInt8} (h : WS w base a g bs) (hk : Keeps S w w') (ha : ¬ S a) (hg : ∀ k, g = some k → ¬ S k) : WS w' base a g bs := by
  have hlt := h.lt
  obtain ⟨v, h1, h2, rfl, h4, h5⟩ := h
  exact ⟨v, (hk.block a hlt ha).trans h1, hk.row h2 hg, rfl, h4, h5⟩

/-- Behind the store of what append gave: the Writer's new state. -/
theorem WS.stored {w w1 : World} {base a : Nat} {g : Option Nat} {bs : List UInt8} {news : List UInt8} {v v' : Value} {H : Nat}
    (ha : w.heap[a]? = some (.cells #[v] 99 (0, 0))) (hg : v.ownBlock = g) (hne : g ≠ some a) (hba : base ≤ a)
    {wx : World} (hx : Keeps (fun _ => False) w wx)
    {m : Nat} (hm : m = bs.length + news.length) (hown : w1.ownsRow base 5 1 v' m (bcells bs ++ bcells news)) (hgrow : wx.grownBy w1 v.ownBlock) (hat : v'.ownBlock = v.ownBlock ∨ v'.ownBlock = some H) (hH : w.heap.size ≤ H) :
    WS (w1.setCell ⟨a, 0, none⟩ v') base a v'.ownBlock (bs ++ news) ∧ Wrote a g v'.ownBlock w (w1.setCell ⟨a, 0, none⟩ v') := by
  have hlt := lt_of_block ha
  have hltx : a < wx.heap.size := Nat.lt_of_lt_of_le hlt hx.size
  have h1 : w1.heap[a]? = some (.cells #[v] 99 (0, 0)) := by
    rw [hgrow.block a hltx (by rw [hg]; exact fun e => hne e.symm), hx.block a hlt (fun h => h)]
    exact ha
  have hne' : v'.ownBlock ≠ some a := by
    rcases hat with h | h
    · rw [h, hg]; exact hne
    · rw [h]; intro e; simp at e; omega
  refine ⟨⟨v', one_setCell h1, ?_, rfl, hne', hba⟩, ?_, ?_⟩
  · have := ownsRow_setCell_other hown (a := ⟨a, 0, none⟩) (u := v') hne'
    rw [List.length_append, bcells_append, ← hm]
    exact this
  · have hk1 : Keeps (fun k => k = a ∨ g = some k) wx w1 := Keeps.ofGrown hgrow fun k e => .inr (by rw [← hg]; exact e)
    exact ((hx.mono fun k _ h => h.elim).trans hk1).setCell (.inl (.inl rfl)) _
  · rcases hat with h | h
    · exact .inl (h.trans hg)
    · exact .inr ⟨H, h, hH⟩

set_option maxHeartbeats 400000 in
theorem newWriter_c (w : World) : Calls Try.prog 32 #[] w fun e w' => e = .returned (.pointer (some ⟨w.heap.size, 0, none⟩)) ∧ w' = w.alloc (.cells #[.slice none 0 0] 99) := by
  go_enter Try.func32, Try.ntmps32
  go_wp2
  go_ret
  exact ⟨rfl, rfl⟩

theorem WS.new (w : World) {base : Nat} (hb : base ≤ w.heap.size) : WS (w.alloc (.cells #[.slice none 0 0] 99)) base w.heap.size none [] :=
  ⟨.slice none 0 0, heap_alloc_new w _, World.ownsRow_nil _ _ _ _, rfl, by simp, hb⟩

def byteOf (n : Int) : UInt8 := UInt8.ofNat (n % 256).toNat
theorem byteOf_nat (n : Int) : ((byteOf n).toNat : Int) = n % 256 := by
  unfold byteOf
  simp
  omega

theorem topBit (b : UInt8) : (bits BinOp.and IntKind.u8 (b.toNat : Int) 128 != 0) = decide (128 ≤ b.toNat) := by
  have hb := b.toNat_lt
  rw [show (128 : Int) = ((128 : Nat) : Int) from rfl, u8_and_nat b.toNat 128 (by omega) (by omega)]
  have h : ∀ n : Fin 256, (((n.val &&& 128 : Nat) : Int) != 0) = decide (128 ≤ n.val) := by decide +kernel
  exact h ⟨b.toNat, by omega⟩


theorem srcOne (w : World) (x : Int) : Src Try.prog 1 28 (.slice (some ⟨w.heap.size, 0, none⟩) 1 1) 1 [.int .u8 x] (w.alloc (.cells #[.int .u8 x] 5)) :=
  Src.ofSlice _ Try.underlying28 ⟨w.heap.size, 0, none⟩ 1 1 [.int .u8 x] rfl (by intro j u hj; match j, hj with | 0, hj => simp at hj; subst hj; simp [Addr.add]) (by intro u hu; simp at hu; subst hu; rfl)

theorem ownsRow_shape {w : World} {base : Nat} {e : TypeId} {size : Nat} {v : Value} {n : Nat} {xs : List Value} (h : w.ownsRow base e size v n xs) : ∃ ao cap, v = .slice ao n cap := by
  rcases h.2 with ⟨rfl, rfl⟩ | ⟨g, cap, _, rfl, _⟩
  · exact ⟨none, 0, rfl⟩
  · exact ⟨some ⟨g, 0, none⟩, cap, rfl⟩

/-- The Writer's own block, in the world that an append leaves. -/
theorem block_grown {w wx w1 : World} {a : Nat} {g : Option Nat} {v : Value} (ha : w.heap[a]? = some (.cells #[v] 99 (0, 0))) (hg : v.ownBlock = g) (hne : g ≠ some a) (hx : Keeps (fun _ => False) w wx) (hgrow : wx.grownBy w1 v.ownBlock) :
    w1.heap[a]? = some (.cells #[v] 99 (0, 0)) := by
  have hlt := lt_of_block ha
  rw [hgrow.block a (Nat.lt_of_lt_of_le hlt hx.size) (by rw [hg]; exact fun e => hne e.symm), hx.block a hlt (fun h => h)]
  exact ha

set_option maxHeartbeats 400000 in
set_option maxRecDepth 100000 in
theorem byte_c (n : Int) (w : World) {base a : Nat} {g : Option Nat} {bs : List UInt8} (h : WS w base a g bs) (hl : bs.length + 1 ≤ 140737488355328) :
    Calls Try.prog 67 #[.pointer (some ⟨a, 0, none⟩), .int .i64 n] w fun e w' => e = .returned (.tuple #[]) ∧ ∃ g', WS w' base a g' (bs ++ [byteOf n]) ∧ Wrote a g g' w w' := by
  obtain ⟨i0, hi, hz0, hz1, hz2⟩ := info_parts Try.infoU8
  have hlt := h.lt
  obtain ⟨v, ha, hown, rfl, hne, hba⟩ := h
  have hc := cell_of_one ha
  have hsrc := srcOne w (n % 256)
  have hkx : Keeps (fun _ => False) w (w.alloc (.cells #[.int .u8 (n % 256)] 5)) := (Keeps.refl _ _).alloc _
  go_enter Try.func67, Try.ntmps67
  go_wp2_with (at_builtin; refine wpList_append_src _ rfl (.tmp 8) (.tmp 11) 28 28 rfl base 5 i0 _ 1 Try.underlying28 hi hz0 hz1 hz2 rfl v _ _ rfl (hown.alloc _) _ 1 [.int .u8 (n % 256)] rfl hsrc (by unfold maxLen; omega) (by omega) (by simp; omega) (w.heap.size + 1) (by simp) ?_)
  intro v' w1 hown' hgrow hnil hat
  have h1 := block_grown ha rfl hne hkx hgrow
  have R := WS.stored (bs := bs) (news := [byteOf n]) (m := bs.length + 1) ha rfl hne hba hkx rfl (by simpa [bcells, byteOf_nat] using hown') hgrow hat (by omega)
  obtain ⟨ao, cp, rfl⟩ := ownsRow_shape hown'
  have hc1 := cell_of_one h1
  have hf1 := free_of_one h1
  clear hown' hgrow hnil hat h1 hown hc
  go_wp2
  go_end0
  exact ⟨rfl, _, R.1, R.2⟩

end Go.Proofs.Ytnigfnikajejaab
