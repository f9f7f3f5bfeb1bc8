/- Blocks one behind the other, the last ones of a text, and the sum as bytes. -/
import Derived.Test.YtllkafhooapcbaaDoorKdD
import Derived.Test.YtllkafhooapcbaaDoorKwB
namespace Go.Proofs.YtllkafhooapcbaaDoor
open Go Go.RowKit

/-- The state behind so many blocks. -/
def blocksTo (L : List Int) (xs : List UInt8) : Nat → List Int
  | 0 => L
  | i + 1 => blockL (blocksTo L xs i) ((xs.drop (64 * i)).take 64)
theorem blocksTo_length (L : List Int) (xs : List UInt8) (i : Nat) : (blocksTo L xs i).length = L.length := by
  induction i with
  | zero => rfl
  | succ i ih => rw [blocksTo, blockL_length, ih]

set_option maxHeartbeats 1600000 in
set_option maxRecDepth 100000 in
theorem takeBlocks_c (g n : Nat) (L : List Int) (hL : L.length = 8) (v : Value) (xs : List UInt8) (hx : xs.length = 64 * n) (hn : n ≤ 100000000) (w : World) (hr : Rw w) (h0 : g ≠ 0) (hg : WB w g 55 L) (hv : BSl w v xs) (hvg : xs ≠ [] → v.ownBlock ≠ some g) :
    Calls Tryd.prog 31 #[.pointer (some ⟨g, 0, none⟩), v] w fun e w' => e = .returned (.tuple #[]) ∧ WB w' g 55 (blocksTo L xs n) ∧ Keeps (fun k => k = g) w w' := by
  have HV := hidden hv
  have HX := hidden hx
  obtain ⟨ao, cap, rfl, hc1, hc2, _⟩ := hv
  unfold maxLen at hc2
  rw [hx]
  rw [hx] at HV hc1 hvg
  have HR := hidden hr
  have HG := hidden hg
  clear hr hg hx
  go_enter Tryd.func31, Tryd.ntmps31
  go_wp2_with fail
  go_loopw [4] (fun c wr => ∃ i : Nat, i ≤ n ∧ c = .int .i64 ((64 * i : Nat) : Int) ∧ WB wr g 55 (blocksTo L xs i) ∧ Keeps (fun k => k = g) w wr) (fun c _ => 64 * n - (intOf c).toNat)
  case atStart => exact ⟨0, by omega, rfl, HG.out, Keeps.refl _ _⟩
  case round =>
    clear HG
    obtain ⟨i, hi, rfl, hw, hk⟩ := hrel
    have HW := hidden hw
    have HK := hidden hk
    clear hw hk
    by_cases hlt : i < n
    · have hlt' : ((64 * i : Nat) : Int) < ((64 * n : Nat) : Int) := by omega
      have hne : xs ≠ [] := by intro e; have := HX.out; rw [e] at this; simp at this; omega
      have hv1 := HV.out.keep HK.out (fun k e h => hvg hne (by rw [e, h]))
      obtain ⟨b, o, cp, e, hbl⟩ := hv1.nonnil hne
      rw [HX.out] at e
      cases e
      have hp := hv1.part (i := 64 * i) (j := 64) (by omega)
      have hl2 : (((64 * i : Nat) : Int) + 64) ≤ (cap : Int) := by omega
      have hl3 : (((64 * i : Nat) : Int) + 64) ≤ ((64 * n : Nat) : Int) := by omega
      have hpl : ((xs.drop (64 * i)).take 64).length = 64 := by simp [HX.out]; omega
      have HTB := hidden (takeBlock_c g b (o + 64 * i) (cap - 64 * i) (blocksTo L xs i) (by rw [blocksTo_length]; exact hL) ((xs.drop (64 * i)).take 64) hpl (by omega) wr (HR.out.keep HK.out (by omega)) h0 HW.out hp)
      rw [show blockL (blocksTo L xs i) ((xs.drop (64 * i)).take 64) = blocksTo L xs (i + 1) from rfl] at HTB
      clear hv1 hp hpl hbl
      generalize hme : 64 * i = m at *
      have HME := hidden hme
      clear hme
      have e64 : m + 64 - m = 64 := by omega
      go_wp2_with fail
      refine HTB.out.mono ?_
      rintro e w2 ⟨rfl, hw2, hk2⟩
      have HW2 := hidden hw2
      have HK2 := hidden hk2
      clear hw2 hk2 HTB e64
      go_wp2
      go_roundw
      case rel => exact ⟨i + 1, by omega, by have := HME.out; go_num, HW2.out, HK.out.trans HK2.out⟩
      case measure => have := HME.out; simp [intOf]; omega
    · have hlt' : ¬ ((64 * i : Nat) : Int) < ((64 * n : Nat) : Int) := by omega
      obtain rfl : i = n := by omega
      go_wp2
      go_end0
      exact ⟨rfl, HW.out, HK.out⟩

/-- The state ahead of the first block. -/
def iv : List Int := [1779033703, 3144134277, 1013904242, 2773480762, 1359893119, 2600822924, 528734635, 1541459225]

set_option maxHeartbeats 400000 in
set_option maxRecDepth 100000 in
theorem start_c (w : World) : Calls Tryd.prog 30 #[] w fun e w' => e = .returned (.agg (wcells iv).toArray) ∧ Below w.heap.size w w' := by
  have HB : Hid (Below w.heap.size w (w.alloc (.cells (wcells iv).toArray 55))) := (Below.refl _ w).alloc (by omega) _
  go_enter Tryd.func30, Tryd.ntmps30
  go_wp2
  (try simp only [Exit.inBlock, Exit.then])
  refine bodyPost_ret (results_cell1 rfl _ _ _ w.heap.size (wcells iv).toArray 55 (0, 0) 8 53 rfl (heap_alloc_new w _) Tryd.underlying55 (by kernel_rfl)) rfl ?_
  exact ⟨rfl, HB.out⟩

/-- A row of bytes that a call has made for itself, where all that was there before the call stands. -/
structure Own (w0 w : World) (v : Value) (xs : List UInt8) : Prop where
  row : w.ownsRow w0.heap.size 5 1 v xs.length (bcells xs)
  b : Below w0.heap.size w0 w
theorem Own.bsl {w0 w : World} {v : Value} {xs : List UInt8} (h : Own w0 w v xs) : BSl w v xs := BSl.ofRow h.row
theorem Own.fresh {w0 w : World} {v : Value} {xs : List UInt8} (h : Own w0 w v xs) : Fresh w0 xs (.returned v) w := ⟨v, rfl, h.row, h.b⟩
theorem Own.alloc {w0 w : World} {v : Value} {xs : List UInt8} (h : Own w0 w v xs) (o : Obj) : Own w0 (w.alloc o) v xs := ⟨h.row.alloc o, h.b.alloc h.b.size o⟩
theorem Own.drew {w0 w : World} {v : Value} {xs : List UInt8} (h : Own w0 w v xs) : Own w0 w.drew v xs := ⟨h.row.drew, h.b.drew⟩
theorem Own.keep {w0 w w' : World} {v : Value} {xs : List UInt8} (h : Own w0 w v xs) (hb : Below w.heap.size w w') : Own w0 w' v xs :=
  ⟨(Keeps.ofFresh (S := fun _ => False) hb).row h.row (fun _ _ h => h), h.b.trans (hb.mono h.b.size)⟩
theorem Own.shape {w0 w : World} {v : Value} {xs : List UInt8} (h : Own w0 w v xs) : ∃ ao cap, v = .slice ao xs.length cap := ownsRow_shape h.row
theorem wpList_own (w : World) {ops : Array Oper} {rest : List Oper} {o : Oper} {a : Act} {Q : Exit → Act → World → Prop} (hgd : o.guard = none) (s xo : Operand) (tx : TypeId)
    (ho : o.op = .call { callee := .builtin .append, args := #[s, xo], argTypes := #[22, tx] })
    (w0 : World) (v : Value) (xs : List UInt8) (hsv : a.eval s = v) (h : Own w0 w v xs) (x : Value) (news : List UInt8) (hx : a.eval xo = x) (hs : Src Tryd.prog 1 tx x news.length (bcells news) w)
    (hl : xs.length + news.length ≤ 140737488355328)
    (hK : ∀ v' w', Own w0 w' v' (xs ++ news) → w.grownBy w' v.ownBlock → (v'.ownBlock = v.ownBlock ∨ v'.ownBlock = some w.heap.size) → wpList Tryd.prog ops Q rest (a.put o.dst v') w') : wpList Tryd.prog ops Q (o :: rest) a w := by
  obtain ⟨i0, hi, hz0, hz1, hz2⟩ := info_parts Tryd.infoU8
  refine wpList_append_src w hgd s xo 22 tx ho w0.heap.size 5 i0 _ 1 Tryd.underlying22 hi hz0 hz1 hz2 rfl v _ _ hsv h.row x _ _ hx hs (by unfold maxLen; omega) (by omega) h.b.size w.heap.size rfl ?_
  intro v' w' h1 h2 _ h4
  refine hK v' w' ⟨?_, h.b.grown h2 h.b.size (fun k hk => (h.row.lt k hk).1)⟩ h2 h4
  rw [List.length_append, bcells_append]
  exact h1
theorem src_lit {w : World} (bs : List UInt8) : Src Tryd.prog 1 22 (.slice (some ⟨w.heap.size, 0, none⟩) bs.length bs.length) bs.length (bcells bs) (w.alloc (.cells (bcells bs).toArray 5)) :=
  srcBlock rfl (heap_alloc_new w _)

/-- How many noughts are between the bit and the length. -/
def zN (n : Nat) : Nat := (119 - n % 64) % 64
/-- What stands behind a text of n bytes. -/
def padTail (n : Nat) : List UInt8 := 128 :: List.replicate (zN n) 0 ++ be 8 (8 * n)
end Go.Proofs.YtllkafhooapcbaaDoor
