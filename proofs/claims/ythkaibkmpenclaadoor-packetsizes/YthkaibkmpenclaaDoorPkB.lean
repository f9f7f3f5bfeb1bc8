/- What an Out's helpers do: rows of one's own, numbers as bytes, copies, slices joined. -/
import Derived.Test.YthkaibkmpenclaaDoorPkA
import Derived.Test.YthkaibkmpenclaaDoorAeB
import Derived.Test.YthkaibkmpenclaaDoorGoto
import Derived.Test.YthkaibkmpenclaaDoorFreB
import Derived.Lib.AppendZeros
namespace Go.Proofs.YthkaibkmpenclaaDoor
open Go Go.RowKit

/-- A row of bytes that a call has made for itself, where all that was there before the call stands. -/
structure Own (w0 w : World) (v : Value) (xs : List UInt8) : Prop where
  row : w.ownsRow w0.heap.size 5 1 v xs.length (bcells xs)
  b : Below w0.heap.size w0 w
theorem Own.bsl {w0 w : World} {v : Value} {xs : List UInt8} (h : Own w0 w v xs) : BSl w v xs := BSl.ofRow h.row
theorem Own.fresh {w0 w : World} {v : Value} {xs : List UInt8} (h : Own w0 w v xs) : Fresh w0 xs (.returned v) w := ⟨v, rfl, h.row, h.b⟩
theorem Own.alloc {w0 w : World} {v : Value} {xs : List UInt8} (h : Own w0 w v xs) (o : Obj) : Own w0 (w.alloc o) v xs := ⟨h.row.alloc o, h.b.alloc h.b.size o⟩
theorem Own.drew {w0 w : World} {v : Value} {xs : List UInt8} (h : Own w0 w v xs) : Own w0 w.drew v xs := ⟨h.row.drew, h.b.drew⟩
theorem Own.keep {w0 w w' : World} {v : Value} {xs : List UInt8} (h : Own w0 w v xs) (hb : Below w.heap.size w w') : Own w0 w' v xs :=
  ⟨(Keeps.ofFresh (S := fun _ => False) hb).row h.row (fun _ _ h => h), h.b.trans (hb.mono h.b.size)⟩
theorem Own.shape {w0 w : World} {v : Value} {xs : List UInt8} (h : Own w0 w v xs) : ∃ ao cap, v = .slice ao xs.length cap := ownsRow_shape h.row
theorem wpList_own (w : World) {ops : Array Oper} {rest : List Oper} {o : Oper} {a : Act} {Q : Exit → Act → World → Prop} (hgd : o.guard = none) (s xo : Operand) (tx : TypeId)
    (ho : o.op = .call { callee := .builtin .append, args := #[s, xo], argTypes := #[22, tx] })
    (w0 : World) (v : Value) (xs : List UInt8) (hsv : a.eval s = v) (h : Own w0 w v xs) (x : Value) (news : List UInt8) (hx : a.eval xo = x) (hs : Src Tryd.prog 1 tx x news.length (bcells news) w)
    (hl : xs.length + news.length ≤ 140737488355328)
    (hK : ∀ v' w', Own w0 w' v' (xs ++ news) → w.grownBy w' v.ownBlock → (v'.ownBlock = v.ownBlock ∨ v'.ownBlock = some w.heap.size) → wpList Tryd.prog ops Q rest (a.put o.dst v') w') : wpList Tryd.prog ops Q (o :: rest) a w := by
  obtain ⟨i0, hi, hz0, hz1, hz2⟩ := info_parts Tryd.infoU8
  refine wpList_append_src w hgd s xo 22 tx ho w0.heap.size 5 i0 _ 1 Tryd.underlying22 hi hz0 hz1 hz2 rfl v _ _ hsv h.row x _ _ hx hs (by unfold maxLen; omega) (by omega) h.b.size w.heap.size rfl ?_
  intro v' w' h1 h2 _ h4
  refine hK v' w' ⟨?_, h.b.grown h2 h.b.size (fun k hk => (h.row.lt k hk).1)⟩ h2 h4
  rw [List.length_append, bcells_append]
  exact h1
theorem src_lit {w : World} (bs : List UInt8) : Src Tryd.prog 1 22 (.slice (some ⟨w.heap.size, 0, none⟩) bs.length bs.length) bs.length (bcells bs) (w.alloc (.cells (bcells bs).toArray 5)) :=
  srcBlock rfl (heap_alloc_new w _)
theorem be_cell (n i : Nat) : bcells [UInt8.ofNat (n / 256 ^ i % 256)] = [Value.int .u8 (IntKind.u8.wrap ((n : Int) / 2 ^ (8 * (i : Int)).toNat))] := by
  have h1 : (8 * (i : Int)).toNat = 8 * i := by omega
  have h2 : (2 : Nat) ^ (8 * i) = 256 ^ i := by rw [Nat.pow_mul]
  have h3 : ((n : Int) / 2 ^ (8 * i)) = ((n / 256 ^ i : Nat) : Int) := by rw [← h2]; simp
  rw [h1, h3]
  generalize n / 256 ^ i = x
  have h4 : IntKind.u8.wrap (x : Int) = ((x % 256 : Nat) : Int) := by simp [IntKind.wrap, IntKind.bits, IntKind.signed]
  rw [h4]
  simp [bcells]
theorem srcAtW {W : World} {B : Nat} {x : Int} (hb : W.heap[B]? = some (.cells #[.int .u8 x] 5 (0, 0))) : Src Tryd.prog 1 22 (.slice (some ⟨B, 0, none⟩) 1 1) 1 [.int .u8 x] W :=
  Src.ofSlice _ Tryd.underlying22 ⟨B, 0, none⟩ 1 1 [.int .u8 x] rfl (World.news_of_block (cs := #[.int .u8 x]) (t := 5) (fr := (0, 0)) hb) (by intro u hu; simp at hu; subst hu; rfl)
theorem Own.nothing (w : World) : Own w w (.slice none 0 0) [] := ⟨World.ownsRow_nil _ _ _ _, Below.refl _ _⟩
set_option maxHeartbeats 400000 in
set_option maxRecDepth 100000 in
theorem grow_c (n : Nat) (hn : n ≤ 1000000000) (w : World) :
    Calls Tryd.prog 50 #[.slice none 0 0, .int .i64 n] w fun e w' => ∃ v, e = .returned v ∧ Own w w' v [] := by
  obtain ⟨i0, hi, hz0, hz1, hz2⟩ := info_parts Tryd.infoU8
  by_cases h0 : n = 0
  · subst h0
    have HO := hidden (Own.nothing w)
    go_enter Tryd.func50, Tryd.ntmps50
    go_wp2
    go_ret
    exact ⟨_, rfl, HO.out⟩
  · have h1 : (0 : Int) < (n : Int) := by omega
    have hrun := Lib.run_append_nil_zeros (P := Tryd.prog) w 22 3 22 5 i0 (.int .u8 0) .i64 .i64 Tryd.underlying22 Tryd.underlying3 hi hz0 n (by omega) (by omega) (by omega) (by rw [hz2]; omega)
    have hge := grownCap_ge w n 0 5
    have hcm : grownCap w n 0 5 ≤ maxLen := grownCap_le_maxLen w n 0 _ (by unfold maxLen; omega)
    have HO : Hid (Own w (w.drew.alloc (.cells (Builtin.zeroCells (Value.int .u8 0).cells n ++ Builtin.zeroCells (Value.int .u8 0).cells (grownCap w n 0 5 - n)) 5)) (.slice (some ⟨w.heap.size, 0, none⟩) 0 (grownCap w n 0 5)) []) := by
      refine ⟨⟨rfl, .inr ⟨w.heap.size, _, _, rfl, Nat.le_refl _, heap_alloc_new w.drew _, Nat.zero_le _, hcm, ?_, ?_⟩⟩, ((Below.refl _ w).drew).alloc (Nat.le_refl _) _⟩
      · simp only [Array.size_append, size_zeroCells]
        simp [Value.cells]
        omega
      · rfl
    have HR := hidden hrun
    have hcap : 0 ≤ grownCap w n 0 5 := Nat.zero_le _
    clear hrun hcm
    generalize grownCap w n 0 5 = C at HO HR hge hcap
    generalize (w.drew.alloc (.cells (Builtin.zeroCells (Value.int .u8 0).cells n ++ Builtin.zeroCells (Value.int .u8 0).cells (C - n)) 5)) = w1 at HO HR
    go_enter Tryd.func50, Tryd.ntmps50
    go_wp2_with (at_builtin; refine Lib.wpList_append_run _ rfl (.tmp 20) (.tmp 21) 22 3 rfl _ _ rfl rfl _ _ HR.out ?_)
    go_ret
    exact ⟨_, rfl, HO.out⟩
theorem cell_kept {w w' : World} {a : Addr} {v : Value} (h : w.cell? a = some v) (hb : Below w.heap.size w w') : w'.cell? a = some v := (Keeps.ofFresh (S := fun _ => False) hb).cell h (fun h => h)

set_option maxHeartbeats 800000 in
set_option maxRecDepth 100000 in
theorem appendNumber_c (n k : Nat) (hk : 1 ≤ k) (hk8 : k ≤ 8) (v : Value) (bs : List UInt8) (w0 w : World) (h : Own w0 w v bs) (hl : bs.length ≤ 1000) :
    Calls Tryd.prog 30 #[v, .int .u64 n, .int .i64 k] w fun e w' => ∃ v', e = .returned v' ∧ Own w0 w' v' (bs ++ be k n) := by
  have HO := hidden h
  clear h
  go_enter Tryd.func30, Tryd.ntmps30
  go_wp2_with fail
  go_loopw [0, 7] (fun b s wr => ∃ j : Nat, j ≤ k ∧ s = .int .i64 (8 * (j : Int) - 8) ∧ ∃ pre, pre ++ be j n = be k n ∧ Own w0 wr b (bs ++ pre)) (fun _ s _ => (intOf s + 8).toNat)
  case atStart => exact ⟨k, Nat.le_refl _, by go_num, [], rfl, by rw [List.append_nil]; exact HO.out⟩
  case round =>
    clear HO
    obtain ⟨j, hj, rfl, pre, hpre, ho⟩ := hrel
    have HO := hidden ho
    clear ho
    match j, hj, hpre with
    | 0, _, hpre =>
      have HP : Hid (bs ++ pre = bs ++ be k n) := by simp [be] at hpre; rw [hpre]; rfl
      clear hpre
      go_wp2
      go_ret
      exact ⟨_, rfl, by rw [← HP.out]; exact HO.out⟩
    | i + 1, hj, hpre =>
      have hpl : pre.length + (i + 1) = k := by have := congrArg List.length hpre; simpa [be_length] using this
      have HL : Hid ((bs ++ pre).length ≤ 1008) := by show _ ≤ _; rw [List.length_append]; omega
      have HP : Hid ((pre ++ [UInt8.ofNat (n / 256 ^ i % 256)]) ++ be i n = be k n) := by
        show _ = _
        rw [← hpre, List.append_assoc]
        rfl
      have HE : Hid (bcells [UInt8.ofNat (n / 256 ^ i % 256)] = [Value.int .u8 (IntKind.u8.wrap ((n : Int) / 2 ^ (8 * (i : Int)).toNat))]) := be_cell n i
      clear hpl hpre
      rw [show (8 * ((i + 1 : Nat) : Int) - 8) = ((8 * i : Nat) : Int) from by omega]
      have hp0 : (0 : Int) ≤ ((8 * i : Nat) : Int) := Int.natCast_nonneg _
      have hp1 : ((8 * i : Nat) : Int) < 64 := by omega
      have hsrc := fun x => srcAtW (x := x) (heap_alloc_new wr (.cells #[.int .u8 x] 5))
      have HSR := hidden hsrc
      clear hsrc
      go_wp2_with (at_builtin; (refine wpList_own _ rfl (.tmp 15) (.tmp 20) 22 rfl w0 _ (bs ++ pre) rfl (HO.out.alloc _) _ [UInt8.ofNat (n / 256 ^ i % 256)] rfl ?qs (by have := HL.out; simp; simp at this; omega) ?_))
      case qs =>
        rw [HE.out]
        exact HSR.out _
      intro v4 w4 o4 _ _
      have O4 := hidden o4
      clear o4
      go_wp2
      go_roundw
      case rel => exact ⟨i, by omega, by go_num, _, HP.out, O4.out⟩
      case measure => simp [intOf]; omega
end Go.Proofs.YthkaibkmpenclaaDoor
