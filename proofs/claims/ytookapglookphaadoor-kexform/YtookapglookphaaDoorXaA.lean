/- What a call keeps; slices of bytes; regions in an order of one's choice. -/
import Derived.WalkKit
import Derived.WalkSpells
import Derived.WalkLawsBesides
import Derived.Deep.AppendLies
import Derived.Deep.AppendSrc
import Derived.Deep.RegionHeld3
import Derived.Test.YtookapglookphaaDoorProg
import Derived.Outline
import Derived.Laws.BitsAllLaws
import Derived.Laws.CopyOwn
import Derived.OwnWalk
import Derived.OneCell
import Derived.Deep.QuietTactic
import Derived.BigQuiet
import Derived.Deep.OwnRows
import Derived.OrdersHeld
import Derived.Tactics
import Derived.Laws.Sem
import Derived.Laws.Rows
import Derived.Laws.Tables
import Derived.Deep.WholeRow
namespace Go.Proofs.YtookapglookphaaDoor
section
open Go Go.RowKit

/-- Outside S the blocks that were there are as they were. -/
structure Keeps (S : Nat → Prop) (w w' : World) : Prop where
  os : w'.os = w.os
  tape : w'.tape = w.tape
  output : w'.output = w.output
  size : w.heap.size ≤ w'.heap.size
  block : ∀ k, k < w.heap.size → ¬ S k → w'.heap[k]? = w.heap[k]?

theorem Keeps.refl (S : Nat → Prop) (w : World) : Keeps S w w := ⟨rfl, rfl, rfl, Nat.le_refl _, fun _ _ _ => rfl⟩
theorem Keeps.trans {S : Nat → Prop} {a b c : World} (h : Keeps S a b) (k : Keeps S b c) : Keeps S a c :=
  ⟨k.os.trans h.os, k.tape.trans h.tape, k.output.trans h.output, Nat.le_trans h.size k.size, fun i hi hs => (k.block i (Nat.lt_of_lt_of_le hi h.size) hs).trans (h.block i hi hs)⟩
theorem Keeps.mono {S S' : Nat → Prop} {w w' : World} (h : Keeps S w w') (hs : ∀ k, k < w.heap.size → S k → S' k) : Keeps S' w w' :=
  ⟨h.os, h.tape, h.output, h.size, fun k hk hn => h.block k hk fun hS => hn (hs k hk hS)⟩
theorem Keeps.below {S : Nat → Prop} {w w' : World} {B : Nat} (h : Keeps S w w') (hB : B ≤ w.heap.size) (hs : ∀ k, S k → B ≤ k) : Below B w w' :=
  ⟨h.os, h.tape, h.output, h.size, fun k hk => h.block k (by omega) fun hS => by have := hs k hS; omega⟩
theorem Keeps.ofBelow {S : Nat → Prop} {w w' : World} {B : Nat} (h : Below B w w') (hs : ∀ k, k < w.heap.size → B ≤ k → S k) : Keeps S w w' :=
  ⟨h.os, h.tape, h.output, h.size, fun k hk hn => h.block k ((Nat.lt_or_ge k B).elim id fun h1 => absurd (hs k hk h1) hn)⟩
theorem Keeps.ofFresh {S : Nat → Prop} {w w' : World} (h : Below w.heap.size w w') : Keeps S w w' := Keeps.ofBelow h fun k hk hb => absurd hb (by omega)
theorem Keeps.ofGrown {S : Nat → Prop} {w w' : World} {row : Option Nat} (h : w.grownBy w' row) (hs : ∀ k, row = some k → S k) : Keeps S w w' :=
  ⟨h.os, h.tape, h.output, h.size, fun k hk hn => h.block k hk fun e => hn (hs k e.symm)⟩
theorem Keeps.drew {S : Nat → Prop} {a w : World} (h : Keeps S a w) : Keeps S a w.drew := ⟨h.os, h.tape, h.output, h.size, h.block⟩
theorem Keeps.alloc {S : Nat → Prop} {a w : World} (h : Keeps S a w) (o : Obj) : Keeps S a (w.alloc o) :=
  ⟨h.os, h.tape, h.output, by have := h.size; simp; omega, fun k hk hn => (Below.heap_alloc w o k (Nat.lt_of_lt_of_le hk h.size)).trans (h.block k hk hn)⟩
theorem Keeps.setCell {S : Nat → Prop} {a w : World} (h : Keeps S a w) {p : Addr} (hp : S p.block ∨ a.heap.size ≤ p.block) (u : Value) : Keeps S a (w.setCell p u) :=
  ⟨h.os, h.tape, h.output, by have := h.size; simpa using this, fun k hk hn => (Below.heap_setCell w p u k (by rintro rfl; exact hp.elim hn (by omega))).trans (h.block k hk hn)⟩
theorem Keeps.cell {S : Nat → Prop} {w w' : World} (h : Keeps S w w') {p : Addr} {v : Value} (hc : w.cell? p = some v) (hn : ¬ S p.block) : w'.cell? p = some v :=
  (World.cell?_of_block (h.block p.block (World.block_lt_of_cell? w p hc) hn)).trans hc

theorem Keeps.row {S : Nat → Prop} {w w' : World} (h : Keeps S w w') {base : Nat} {e : TypeId} {size : Nat} {v : Value} {n : Nat} {xs : List Value} (ho : w.ownsRow base e size v n xs) (hn : ∀ k, v.ownBlock = some k → ¬ S k) : w'.ownsRow base e size v n xs := by
  refine ⟨ho.1, ?_⟩
  rcases ho.2 with h0 | ⟨g, cap, cur, rfl, hb, hgg, rest⟩
  · exact .inl h0
  · refine .inr ⟨g, cap, cur, rfl, hb, ?_, rest⟩
    rw [h.block g (Array.getElem?_eq_some_iff.1 hgg).1 (hn g rfl)]
    exact hgg

section
variable {P : Program} (w : World)

theorem run_append_src (base : Nat) (t tx ty e : TypeId) (i : TypeInfo) (z : Value) (bytes : Nat) (ht : P.underlying t = some (.slice e)) (hi : P.info? e = some i) (hz : i.zero = some z)
    (hsize : i.size = 1) (hby : i.bytes = bytes) (hzs : z.cells.size = 1)
    (v : Value) (n : Nat) (xs : List Value) (hown : w.ownsRow base e 1 v n xs)
    (x : Value) (m : Nat) (news : List Value) (hs : Src P 1 tx x m news w)
    (h63 : n + m ≤ maxLen) (hbytes : (n + m) * bytes ≤ 140737488355328) (hbase : base ≤ w.heap.size) :
    ∃ v' w', (Builtin.append_ #[t, tx] ty #[v, x]).run P w = .ok v' w' ∧ w'.ownsRow base e 1 v' (n + m) (xs ++ news) ∧ w.grownBy w' v.ownBlock ∧
      (v' = .slice none 0 0 ↔ v = .slice none 0 0 ∧ m = 0) ∧ (v'.ownBlock = v.ownBlock ∨ v'.ownBlock = some w.heap.size) := by
  subst hby
  have hsmall : n + m ≤ 9223372036854775807 := by simp only [maxLen] at h63; omega
  have hl : news.length = m := by have := hs.newsLen; omega
  have hlen : (xs ++ news).length = (n + m) * 1 := by rw [List.length_append, hown.1, hl]; omega
  have grown : ∀ (old : Nat), old < n + m → ∀ (row : Option Nat),
      (w.drew.alloc (.cells ((xs ++ news).toArray ++ Builtin.zeroCells z.cells (grownCap w (n + m) old e - (n + m))) e)).ownsRow base e 1
        (.slice (some ⟨w.heap.size, 0, none⟩) (n + m) (grownCap w (n + m) old e)) (n + m) (xs ++ news) ∧
      w.grownBy (w.drew.alloc (.cells ((xs ++ news).toArray ++ Builtin.zeroCells z.cells (grownCap w (n + m) old e - (n + m))) e)) row := by
    intro old ho row
    have hge := grownCap_ge w (n + m) old e
    have hcm : grownCap w (n + m) old e ≤ maxLen := grownCap_le_maxLen w (n + m) old e h63
    refine ⟨⟨hlen, .inr ⟨w.heap.size, _, _, rfl, hbase, heap_alloc_new w.drew _, hge, hcm, ?_, ?_⟩⟩, ⟨rfl, rfl, rfl, by simp, fun k hk _ => Below.heap_alloc w.drew _ k hk⟩⟩
    · simp only [Array.size_append, List.size_toArray, size_zeroCells, hzs, hlen]
      omega
    · simp only [Array.toList_append]
      rw [← hlen]
      exact List.take_left
  have hsi : Src P i.size tx x m news w := by rw [hsize]; exact hs
  rcases hown.2 with ⟨rfl, rfl⟩ | ⟨g, cap, cur, rfl, hbg, hg, hnc, hcm, hcs, htake⟩
  · have hx : xs = [] := List.eq_nil_of_length_eq_zero (by simpa using hown.1)
    subst hx
    by_cases hm : m = 0
    · subst hm
      have hn : news = [] := List.eq_nil_of_length_eq_zero hl
      subst hn
      refine ⟨.slice none 0 0, w, ?_, World.ownsRow_nil w base e 1, ⟨rfl, rfl, rfl, Nat.le_refl _, fun _ _ _ => rfl⟩, by simp, Or.inl rfl⟩
      rcases hs.kind with ⟨e', hk⟩ | hk <;> simp [Builtin.append_, run_underlying ht, run_underlying hk, sizeOf, typeInfo, hi, hs.len, hsize, hs.cells]
    · have hr := run_append_grow_src (P := P) w t tx ty e i z ht hi hz none 0 0 [] (run_firstCells_none w.drew _ _ _ _) x m news hsi (by omega) (by omega) (growslice_fits (by omega) (by simpa using hbytes))
      have hgr := grown 0 (by omega) (Value.ownBlock (.slice none 0 0))
      simp only [Nat.zero_add, List.nil_append] at hgr hr ⊢
      exact ⟨_, _, hr, hgr.1, hgr.2, by simp [hm], Or.inr rfl⟩
  · by_cases hroom : n + m ≤ cap
    · have hfit : n * i.size + news.length ≤ cur.size := by rw [hl, hcs, hsize]; omega
      have hst := run_storeCells_at P g (n * i.size) e news 0 cur w hg (by simpa using hfit) hs.one
      simp only [Nat.add_zero] at hst
      have hr : (Builtin.append_ #[t, tx] ty #[.slice (some ⟨g, 0, none⟩) n cap, x]).run P w = .ok (.slice (some ⟨g, 0, none⟩) (n + m) cap) (w.setRow g (cur.toList.take (n * i.size) ++ news ++ cur.toList.drop (n * i.size + news.length)).toArray) := by
        rcases hs.kind with ⟨e', hk⟩ | hk <;> simp [Builtin.append_, run_underlying ht, run_underlying hk, sizeOf, typeInfo, hi, hs.len, hroom, hsi.cells, Addr.add_lit, hst]
      refine ⟨_, _, hr, ⟨hlen, .inr ⟨g, cap, _, rfl, hbg, setRow_heap w g cur _ e _ hg, hroom, hcm, ?_, ?_⟩⟩, ⟨rfl, rfl, rfl, by simp, fun k _ hk => setRow_other w g k _ (fun e => hk (by simp [Value.ownBlock, e]))⟩, by simp, Or.inl rfl⟩
      · simp only [List.size_toArray, List.length_append, List.length_take, List.length_drop, Array.length_toList]
        omega
      · rw [hsize, htake, ← hlen]
        exact List.take_left
    · have holds : ∀ j u, xs[j]? = some u → w.cell? ((⟨g, 0, none⟩ : Addr).add j) = some u := hown.cells (g := g) rfl
      have hold := run_firstCells_some (P := P) w.drew i.size n ⟨g, 0, none⟩ n cap xs (by rw [hsize]; exact hown.1) (by simpa using holds)
      have hr := run_append_grow_src (P := P) w t tx ty e i z ht hi hz (some ⟨g, 0, none⟩) n cap xs hold x m news hsi (by omega) (by omega) (growslice_fits (by omega) hbytes)
      have hgr := grown cap (by omega) (Value.ownBlock (.slice (some ⟨g, 0, none⟩) n cap))
      exact ⟨_, _, hr, hgr.1, hgr.2, by simp, Or.inr rfl⟩

theorem wp_append_src {o : Oper} {a : Act} {K : Act → World → Prop} {Q : Exit → Act → World → Prop} (s xo : Operand) (t tx : TypeId)
    (ho : o.op = .call { callee := .builtin .append, args := #[s, xo], argTypes := #[t, tx] })
    (base : Nat) (e : TypeId) (i : TypeInfo) (z : Value) (bytes : Nat) (ht : P.underlying t = some (.slice e)) (hi : P.info? e = some i) (hz : i.zero = some z)
    (hsize : i.size = 1) (hby : i.bytes = bytes) (hzs : z.cells.size = 1)
    (v : Value) (n : Nat) (xs : List Value) (hsv : a.eval s = v) (hown : w.ownsRow base e 1 v n xs)
    (x : Value) (m : Nat) (news : List Value) (hx : a.eval xo = x) (hs : Src P 1 tx x m news w)
    (h63 : n + m ≤ maxLen) (hbytes : (n + m) * bytes ≤ 140737488355328) (hbase : base ≤ w.heap.size) (H : Nat) (hH : w.heap.size = H)
    (h : ∀ v' w', w'.ownsRow base e 1 v' (n + m) (xs ++ news) → w.grownBy w' v.ownBlock → (v' = .slice none 0 0 ↔ v = .slice none 0 0 ∧ m = 0) → (v'.ownBlock = v.ownBlock ∨ v'.ownBlock = some H) → K (a.put o.dst v') w') : o.wp P a w K Q := by
  obtain ⟨v', w', hr, h2, h3, h4, h5⟩ := run_append_src (P := P) w base t tx o.type e i z bytes ht hi hz hsize hby hzs v n xs hown x m news hs h63 hbytes hbase
  unfold Oper.wp execOp
  simp only [ho, resolve, invoke, builtin, Sem.run_bind, Sem.run_pure, Result.andThen_ok, List.map_toArray, List.map_cons, List.map_nil, hsv, hx, hr]
  exact h v' w' h2 h3 h4 (by rw [← hH]; exact h5)

theorem wpList_append_src {ops : Array Oper} {rest : List Oper} {o : Oper} {a : Act} {Q : Exit → Act → World → Prop} (hgd : o.guard = none) (s xo : Operand) (t tx : TypeId)
    (ho : o.op = .call { callee := .builtin .append, args := #[s, xo], argTypes := #[t, tx] })
    (base : Nat) (e : TypeId) (i : TypeInfo) (z : Value) (bytes : Nat) (ht : P.underlying t = some (.slice e)) (hi : P.info? e = some i) (hz : i.zero = some z)
    (hsize : i.size = 1) (hby : i.bytes = bytes) (hzs : z.cells.size = 1)
    (v : Value) (n : Nat) (xs : List Value) (hsv : a.eval s = v) (hown : w.ownsRow base e 1 v n xs)
    (x : Value) (m : Nat) (news : List Value) (hx : a.eval xo = x) (hs : Src P 1 tx x m news w)
    (h63 : n + m ≤ maxLen) (hbytes : (n + m) * bytes ≤ 140737488355328) (hbase : base ≤ w.heap.size) (H : Nat) (hH : w.heap.size = H)
    (h : ∀ v' w', w'.ownsRow base e 1 v' (n + m) (xs ++ news) → w.grownBy w' v.ownBlock → (v' = .slice none 0 0 ↔ v = .slice none 0 0 ∧ m = 0) → (v'.ownBlock = v.ownBlock ∨ v'.ownBlock = some H) → wpList P ops Q rest (a.put o.dst v') w') : wpList P ops Q (o :: rest) a w :=
  wpList_plain hgd fun _ hK => wp_append_src w s xo t tx ho base e i z bytes ht hi hz hsize hby hzs v n xs hsv hown x m news hx hs h63 hbytes hbase H hH fun v' w' h2 h3 h4 h5 => hK _ _ (h v' w' h2 h3 h4 h5)

theorem step_append_src {ops : Array Oper} {o : Oper} {a : Act} {K : Act → World → Prop} {Q : Exit → Act → World → Prop} {E : Prop} (hgd : o.guard = none) (s xo : Operand) (t tx : TypeId)
    (ho : o.op = .call { callee := .builtin .append, args := #[s, xo], argTypes := #[t, tx] })
    (base : Nat) (e : TypeId) (i : TypeInfo) (z : Value) (bytes : Nat) (ht : P.underlying t = some (.slice e)) (hi : P.info? e = some i) (hz : i.zero = some z)
    (hsize : i.size = 1) (hby : i.bytes = bytes) (hzs : z.cells.size = 1)
    (v : Value) (n : Nat) (xs : List Value) (hsv : a.eval s = v) (hown : w.ownsRow base e 1 v n xs)
    (x : Value) (m : Nat) (news : List Value) (hx : a.eval xo = x) (hs : Src P 1 tx x m news w)
    (h63 : n + m ≤ maxLen) (hbytes : (n + m) * bytes ≤ 140737488355328) (hbase : base ≤ w.heap.size) (H : Nat) (hH : w.heap.size = H)
    (h : ∀ v' w', w'.ownsRow base e 1 v' (n + m) (xs ++ news) → w.grownBy w' v.ownBlock → (v' = .slice none 0 0 ↔ v = .slice none 0 0 ∧ m = 0) → (v'.ownBlock = v.ownBlock ∨ v'.ownBlock = some H) → K (a.put o.dst v') w') :
    if Region.wanted o (yielded ops a.tmps) = true then Oper.wp P o a w K Q else E := by
  have hw : Region.wanted o (yielded ops a.tmps) = true := by simp [Region.wanted, hgd]
  rw [if_pos hw]
  exact wp_append_src w s xo t tx ho base e i z bytes ht hi hz hsize hby hzs v n xs hsv hown x m news hx hs h63 hbytes hbase H hH h
end

/-- Bytes as cells. -/
def bcells (bs : List UInt8) : List Value := bs.map fun b => Value.int .u8 b.toNat
def sliceLen : Value → Nat | .slice _ n _ => n | _ => 0
theorem bcells_length (bs : List UInt8) : (bcells bs).length = bs.length := by simp [bcells]
theorem bcells_append (a b : List UInt8) : bcells (a ++ b) = bcells a ++ bcells b := by simp [bcells]
theorem bcells_one {bs : List UInt8} : ∀ u ∈ bcells bs, u.oneCell' = true := by
  intro u hu
  obtain ⟨_, _, rfl⟩ := List.mem_map.1 hu
  rfl
theorem byteCells_eq (s : ByteArray) : byteCells s = bcells s.data.toList := rfl
end
section
open Go Go.RowKit

theorem Tryd.infoU8 : (Tryd.prog.info? 5).map (fun i => (i.zero, i.size, i.bytes)) = some (some (.int .u8 0), 1, 1) := by kernel_rfl
def byteOf (n : Int) : UInt8 := UInt8.ofNat (n % 256).toNat
theorem byteOf_nat (n : Int) : ((byteOf n).toNat : Int) = n % 256 := by
  unfold byteOf
  simp
  omega
theorem srcOne (w : World) (x : Int) : Src Tryd.prog 1 22 (.slice (some ⟨w.heap.size, 0, none⟩) 1 1) 1 [.int .u8 x] (w.alloc (.cells #[.int .u8 x] 5)) :=
  Src.ofSlice _ Tryd.underlying22 ⟨w.heap.size, 0, none⟩ 1 1 [.int .u8 x] rfl (by intro j u hj; match j, hj with | 0, hj => simp at hj; subst hj; simp [Addr.add]) (by intro u hu; simp at hu; subst hu; rfl)
theorem ownsRow_shape {w : World} {base : Nat} {e : TypeId} {size : Nat} {v : Value} {n : Nat} {xs : List Value} (h : w.ownsRow base e size v n xs) : ∃ ao cap, v = .slice ao n cap := by
  rcases h.2 with ⟨rfl, rfl⟩ | ⟨g, cap, _, rfl, _⟩
  · exact ⟨none, 0, rfl⟩
  · exact ⟨some ⟨g, 0, none⟩, cap, rfl⟩
/-- The slice value v reads as the bytes xs in w. -/
def BSl (w : World) (v : Value) (xs : List UInt8) : Prop :=
  ∃ ao cap, v = .slice ao xs.length cap ∧ xs.length ≤ cap ∧ cap ≤ maxLen ∧ (ao = none → xs = [] ∧ cap = 0) ∧
    ∀ ad, ao = some ad → xs ≠ [] → ∃ b off, ad = ⟨b, off, none⟩ ∧ ∀ j u, (bcells xs)[j]? = some u → w.cell? ⟨b, off + j, none⟩ = some u
theorem add_lit' (b off j : Nat) : (⟨b, off, none⟩ : Addr).add j = ⟨b, off + j, none⟩ := by unfold Addr.add; split <;> simp_all
theorem BSl.src {w : World} {v : Value} {xs : List UInt8} (h : BSl w v xs) : Src Tryd.prog 1 22 v xs.length (bcells xs) w := by
  obtain ⟨ao, cap, rfl, _, _, hn, hc⟩ := h
  cases ao with
  | none =>
    obtain ⟨rfl, rfl⟩ := hn rfl
    exact Src.ofNil w Tryd.underlying22 0
  | some ad =>
    by_cases hx : xs = []
    · subst hx
      exact Src.ofSlice w Tryd.underlying22 ad 0 cap [] rfl (fun j u h => by simp at h) (fun u h => by cases h)
    obtain ⟨b, off, rfl, hcell⟩ := hc ad rfl hx
    exact Src.ofSlice w Tryd.underlying22 _ _ _ _ (by simp [bcells_length]) (fun j u hu => by rw [add_lit']; exact hcell j u hu) bcells_one
theorem BSl.keep {S : Nat → Prop} {w w' : World} {v : Value} {xs : List UInt8} (h : BSl w v xs) (hk : Keeps S w w') (hn : ∀ k, v.ownBlock = some k → ¬ S k) : BSl w' v xs := by
  obtain ⟨ao, cap, rfl, h1, h2, h3, hc⟩ := h
  refine ⟨ao, cap, rfl, h1, h2, h3, ?_⟩
  rintro ad rfl hx
  obtain ⟨b, off, rfl, hcell⟩ := hc ad rfl hx
  exact ⟨b, off, rfl, fun j u hu => hk.cell (hcell j u hu) (hn b rfl)⟩
theorem BSl.ofRow {w : World} {base : Nat} {v : Value} {n : Nat} {xs : List UInt8} (h : w.ownsRow base 5 1 v n (bcells xs)) : BSl w v xs := by
  have hl : xs.length = n := by have := h.1; rw [bcells_length] at this; omega
  subst hl
  have h0 := h
  rcases h.2 with ⟨rfl, h1⟩ | ⟨g, cap, cur, rfl, _, _, h2, h3, _⟩
  · exact ⟨none, 0, by rw [h1], by omega, by simp [maxLen], fun _ => ⟨List.eq_nil_of_length_eq_zero h1, rfl⟩, (fun ad e => by cases e)⟩
  · refine ⟨some ⟨g, 0, none⟩, cap, rfl, h2, h3, (fun e => by cases e), ?_⟩
    rintro ad e _
    cases e
    exact ⟨g, 0, rfl, fun j u hu => by have := h0.cells (g := g) rfl j u hu; rwa [add_lit'] at this⟩
theorem BSl.head {w : World} {b off cap : Nat} {x : UInt8} {xs : List UInt8} (h : BSl w (.slice (some ⟨b, off, none⟩) (x :: xs).length cap) (x :: xs)) : w.cell? ⟨b, off, none⟩ = some (.int .u8 x.toNat) := by
  obtain ⟨ao, cap, e, h1, h2, h3, hc⟩ := h
  cases e
  obtain ⟨b', off', e, hcell⟩ := hc _ rfl (by simp)
  cases e
  simpa using hcell 0 (.int .u8 x.toNat) rfl
/-- A slice of bytes has an address where it has an element. -/
theorem BSl.cons {w : World} {v : Value} {x : UInt8} {xs : List UInt8} (h : BSl w v (x :: xs)) : ∃ b off cap, v = .slice (some ⟨b, off, none⟩) (x :: xs).length cap ∧ (x :: xs).length ≤ cap ∧ cap ≤ maxLen ∧ v.ownBlock = some b := by
  obtain ⟨ao, cap, rfl, h1, h2, h3, hc⟩ := h
  cases ao with
  | none => have := (h3 rfl).1; cases this
  | some ad => obtain ⟨b, off, rfl, _⟩ := hc ad rfl (by simp); exact ⟨b, off, cap, rfl, h1, h2, rfl⟩
theorem BSl.nil {w : World} {v : Value} (h : BSl w v []) : ∃ ao cap, v = .slice ao 0 cap := by
  obtain ⟨ao, cap, rfl, _⟩ := h
  exact ⟨ao, cap, rfl⟩
theorem BSl.blockLt {w : World} {v : Value} {x : UInt8} {xs : List UInt8} (h : BSl w v (x :: xs)) : ∀ k, v.ownBlock = some k → k < w.heap.size := by
  obtain ⟨b, off, cap, rfl, _, _, hb⟩ := h.cons
  intro k hk
  rw [hb] at hk
  cases hk
  exact World.block_lt_of_cell? _ _ h.head
theorem eqlNil : ∀ (w : World) (a : Option Addr) (n c n' c' : Nat), (binOp .eql 22 (.slice a n c) (.slice none n' c')).run Tryd.prog w = .ok (.bool a.isNone) w := fun w a n c n' c' => Lib.run_eql_slice_nil w _ _ a n c n' c' Tryd.underlying22
theorem BSl.alloc {w : World} {v : Value} {xs : List UInt8} (h : BSl w v xs) (o : Obj) : BSl (w.alloc o) v xs := h.keep (S := fun _ => False) ((Keeps.refl _ _).alloc o) fun _ _ h => h
theorem BSl.fresh {w w' : World} {v : Value} {xs : List UInt8} (h : BSl w v xs) (hb : Below w.heap.size w w') : BSl w' v xs :=
  h.keep (S := fun _ => False) (Keeps.ofFresh hb) fun _ _ h => h
theorem size_list (l : List UInt8) : (⟨l.toArray⟩ : ByteArray).size = l.length := by simp [ByteArray.size]
/-- A byte slice as a string. -/
theorem BSl.cellAt {w : World} {b off n cap : Nat} {xs : List UInt8} (h : BSl w (.slice (some ⟨b, off, none⟩) n cap) xs) (k : Nat) (hk : k < xs.length) : w.cell? ⟨b, off + k, none⟩ = some (.int .u8 (xs[k].toNat)) := by
  obtain ⟨ao, cap, e, h1, h2, h3, hc⟩ := h
  cases e
  obtain ⟨b', off', e, hcell⟩ := hc _ rfl (by rintro rfl; simp at hk)
  cases e
  exact hcell k _ (by simp [bcells, hk])
theorem Keeps.drewN {S : Nat → Prop} {a w : World} (h : Keeps S a w) (n : Nat) : Keeps S a (w.drewN n) := ⟨h.os, h.tape, h.output, h.size, h.block⟩
theorem ownBlock_any (ao : Option Addr) (n c n' c' : Nat) : (Value.slice ao n c).ownBlock = (Value.slice ao n' c').ownBlock := by
  cases ao <;> rfl
theorem run_string {w : World} {v : Value} {xs : List UInt8} (h : BSl w v xs) : (convert 22 9 v).run Tryd.prog w = .ok (.string ⟨xs.toArray⟩) w := by
  obtain ⟨ao, cap, rfl, h1, h2, h3, hc⟩ := h
  cases ao with
  | none =>
    obtain ⟨rfl, rfl⟩ := h3 rfl
    rw [run_convert_bytes_string w _ _ _ _ _ _ Tryd.underlying22 Tryd.underlying5 Tryd.underlying9]
    rfl
  | some ad =>
    by_cases hx : xs = []
    · subst hx
      exact run_convert_bytes_back w _ _ _ ad _ [] Tryd.underlying22 Tryd.underlying5 Tryd.underlying9 fun j hj => by simp at hj
    obtain ⟨b, off, rfl, hcell⟩ := hc ad rfl hx
    refine run_convert_bytes_back w _ _ _ _ _ _ Tryd.underlying22 Tryd.underlying5 Tryd.underlying9 fun j hj => ?_
    rw [add_lit']
    exact hcell j _ (by simp [bcells, hj])
theorem srcBlock {W : World} {B : Nat} {xs : List UInt8} {cs : Array Value} (hcs : cs = (bcells xs).toArray) (hb : W.heap[B]? = some (.cells cs 5 (0, 0))) : Src Tryd.prog 1 22 (.slice (some ⟨B, 0, none⟩) xs.length xs.length) xs.length (bcells xs) W := by
  subst hcs
  exact Src.ofSlice _ Tryd.underlying22 ⟨B, 0, none⟩ _ _ _ (by simp [bcells_length]) (World.news_of_block (t := 5) (fr := (0, 0)) hb) bcells_one
/-- What a call answers that makes a byte slice: fresh, it reads as xs; what was there stays. -/
def Fresh (w : World) (xs : List UInt8) (e : Ending) (w' : World) : Prop :=
  ∃ v', e = .returned v' ∧ w'.ownsRow w.heap.size 5 1 v' xs.length (bcells xs) ∧ Below w.heap.size w w'
theorem Fresh.next {w w1 : World} (hb : Below w.heap.size w w1) {ys : List UInt8} {e : Ending} {w2 : World} (h2 : Fresh w1 ys e w2) : Fresh w ys e w2 := by
  obtain ⟨v', rfl, h3, h4⟩ := h2
  refine ⟨v', rfl, ⟨h3.1, ?_⟩, hb.trans (h4.mono hb.size)⟩
  rcases h3.2 with h5 | ⟨g, cap, cur, h6, h7, rest⟩
  · exact .inl h5
  · exact .inr ⟨g, cap, cur, h6, Nat.le_trans hb.size h7, rest⟩
set_option maxHeartbeats 400000 in
theorem within_c (n : Int) (h : Nat) (hh : h ≤ 1000000000) (w : World) :
    Calls Tryd.prog 16 #[.int .i64 n, .int .i64 0, .int .i64 h] w fun e w' => ∃ k : Nat, e = .returned (.int .i64 k) ∧ k ≤ h ∧ w' = w := by
  have hr0 : -(h : Int) ≤ n.tmod ((h : Int) + 1) := by
    by_cases hn : 0 ≤ n
    · have := Int.tmod_nonneg ((h : Int) + 1) hn; omega
    · have h1 := Int.lt_tmod_of_pos n (show (0 : Int) < (h : Int) + 1 by omega); omega
  have hr1 : n.tmod ((h : Int) + 1) ≤ h := by
    have := Int.tmod_lt_of_pos n (show (0 : Int) < (h : Int) + 1 by omega); omega
  go_enter Tryd.func16, Tryd.ntmps16
  go_wp2
  · go_ret
    exact ⟨(n.tmod ((h : Int) + 1) + h + 1).toNat, by rw [Int.toNat_of_nonneg (by omega)]; rfl, by omega, rfl⟩
  · go_ret
    exact ⟨(n.tmod ((h : Int) + 1)).toNat, by rw [Int.toNat_of_nonneg (by omega)]; rfl, by omega, rfl⟩
theorem set_next (A Z : List Value) (u : Value) (n : Nat) (hn : A.length = n) (hZ : Z ≠ []) : (A ++ Z).toArray.setIfInBounds n u = ((A ++ [u]) ++ Z.drop 1).toArray := by
  subst hn
  cases Z with
  | nil => exact absurd rfl hZ
  | cons z r => simp
theorem cell_row {w : World} {g : Nat} {cs : List Value} {t : TypeId} (h : w.heap[g]? = some (.cells cs.toArray t (0, 0))) (i : Nat) : w.cell? ⟨g, i, none⟩ = cs[i]? := by
  simp [World.cell?, h]
theorem frozen_row {w : World} {g : Nat} {cs : Array Value} {t : TypeId} (h : w.heap[g]? = some (.cells cs t (0, 0))) (j : Nat) : w.frozen? ⟨g, j, none⟩ = false := by simp [World.frozen?, h]
theorem copy_run {w w1 : World} {g N cap : Nat} {ao : Option Addr} {xs : List UInt8} {Z : List Value} (hv : BSl w1 (.slice ao xs.length cap) xs) (hb : Below w.heap.size w w1) (hB : w.heap.size ≤ g) (hg : w1.heap[g]? = some (.cells Z.toArray 5 (0, 0))) (hZ : xs.length ≤ Z.length) (hN : xs.length ≤ N) (hs : (Tryd.prog.info? 5).map (·.size) = some 1) :
    ∃ w2, (Builtin.copy_ #[22, 22] 3 #[.slice (some ⟨g, 0, none⟩) N N, .slice ao xs.length cap]).run Tryd.prog w1 = .ok (goInt xs.length) w2 ∧ w2.heap[g]? = some (.cells (bcells xs ++ Z.drop xs.length).toArray 5 (0, 0)) ∧ Below w.heap.size w w2 := by
  by_cases hne : xs = []
  · subst hne
    exact ⟨w1, run_copy_none (P := Tryd.prog) w1 _ _ _ 5 _ _ _ _ _ _ Tryd.underlying22 hs (by simp), by simpa [bcells] using hg, hb⟩
  · obtain ⟨ao', cap', e, _, _, h3, h4⟩ := hv
    cases e
    cases ao with
    | none => exact absurd (h3 rfl).1 hne
    | some ad =>
      obtain ⟨b, off, rfl, hc⟩ := h4 ad rfl hne
      have hr := run_copy_row (P := Tryd.prog) w1 22 22 3 5 g 0 N N ⟨b, off, none⟩ xs.length cap Z.toArray 5 (bcells xs) Tryd.underlying22 hs hg (by rw [bcells_length]; exact (Nat.min_eq_left hN).symm) (fun j u hu => by rw [add_lit']; exact hc j u hu) (by rw [bcells_length]; simpa using hZ) (fun u hu => bcells_one u hu)
      rw [bcells_length] at hr
      refine ⟨_, hr, ?_, below_setRow hb hB _⟩
      have := setRow_heap w1 g Z.toArray (bcells xs ++ Z.drop xs.length).toArray 5 (0, 0) hg
      simpa using this

theorem BSl.addr {w : World} {ao : Option Addr} {n cap : Nat} {xs : List UInt8} (h : BSl w (.slice ao n cap) xs) (hne : xs ≠ []) : ∃ b off, ao = some ⟨b, off, none⟩ := by
  obtain ⟨ao', cap', e, _, _, h3, h4⟩ := h
  cases e
  cases ao with
  | none => exact absurd (h3 rfl).1 hne
  | some ad => obtain ⟨b, off, rfl, _⟩ := h4 ad rfl hne; exact ⟨b, off, rfl⟩


theorem BSl.head' {w : World} {ao : Option Addr} {cap n : Nat} {bs : List UInt8} (h : BSl w (.slice ao bs.length cap) bs) (hn : n ≤ bs.length) : BSl w (.slice ao n cap) (bs.take n) := by
  obtain ⟨ao, cap, e, h1, h2, h3, hc⟩ := h
  cases e
  have hlen : (bs.take n).length = n := by simp; omega
  refine ⟨ao, cap, by rw [hlen], by rw [hlen]; omega, h2, fun e => ⟨by rw [(h3 e).1]; simp, (h3 e).2⟩, fun ad had hne => ?_⟩
  obtain ⟨b, off, rfl, hcell⟩ := hc ad had (by rintro rfl; simp at hne)
  refine ⟨b, off, rfl, fun j u hu => hcell j u ?_⟩
  have hj : j < n := by have := (List.getElem?_eq_some_iff.1 hu).1; rw [bcells_length, hlen] at this; exact this
  simp only [bcells, List.getElem?_map, List.getElem?_take, hj, if_true] at hu ⊢
  exact hu
end
section
open Go Go.RowKit

theorem hidden {p : Prop} (h : p) : Hid p := h
theorem BSl.cellD {w : World} {b off n cap : Nat} {xs : List UInt8} (h : BSl w (.slice (some ⟨b, off, none⟩) n cap) xs) (k : Nat) (hk : k < xs.length) : w.cell? ⟨b, off + k, none⟩ = some (.int .u8 ((xs.getD k 0).toNat)) := by
  rw [h.cellAt k hk]
  simp [hk]
theorem BSl.len {w : World} {v : Value} {xs : List UInt8} (h : BSl w v xs) : ∃ ao cap, v = .slice ao xs.length cap := by
  obtain ⟨ao, cap, e, _⟩ := h
  exact ⟨ao, cap, e⟩
theorem BSl.nonnil {w : World} {v : Value} {xs : List UInt8} (h : BSl w v xs) (hne : xs ≠ []) : ∃ b o cap, v = .slice (some ⟨b, o, none⟩) xs.length cap ∧ b < w.heap.size := by
  cases xs with
  | nil => exact absurd rfl hne
  | cons x xs =>
    obtain ⟨b, o, cap, e, _, _, hb⟩ := h.cons
    exact ⟨b, o, cap, e, h.blockLt b hb⟩
theorem BSl.ofBlock {w : World} {g : Nat} {t : TypeId} {xs : List UInt8} (h : w.heap[g]? = some (.cells (bcells xs).toArray t (0, 0))) (hl : xs.length ≤ 1000000000) : BSl w (.slice (some ⟨g, 0, none⟩) xs.length xs.length) xs := by
  refine ⟨_, _, rfl, Nat.le_refl _, by unfold maxLen; omega, (fun e => by cases e), fun ad e _ => ⟨g, 0, by cases e; rfl, fun j u hu => ?_⟩⟩
  rw [Nat.zero_add, cell_row h]
  exact hu
theorem BSl.dropS {w : World} {b o n cap k : Nat} {xs : List UInt8} (h : BSl w (.slice (some ⟨b, o, none⟩) n cap) xs) (hk : k ≤ n) : BSl w (.slice (some ⟨b, o + k, none⟩) (n - k) (cap - k)) (xs.drop k) := by
  obtain ⟨ao, cp, e, h1, h2, h3, h4⟩ := h
  cases e
  refine ⟨_, _, by rw [List.length_drop], by rw [List.length_drop]; omega, by unfold maxLen at *; omega, (fun e => by cases e), fun ad e hne => ?_⟩
  cases e
  have hne' : xs ≠ [] := by rintro rfl; simp at hne
  obtain ⟨b', off', e', hc⟩ := h4 _ rfl hne'
  cases e'
  refine ⟨b, o + k, rfl, fun j u hu => ?_⟩
  have := hc (k + j) u (by simpa [bcells, List.getElem?_drop] using hu)
  rw [← Nat.add_assoc] at this
  exact this
theorem xbyte (a b : UInt8) : bits BinOp.xor IntKind.u8 (a.toNat : Int) (b.toNat : Int) = ((a ^^^ b).toNat : Int) := by
  rw [u8_xor_nat _ _ (UInt8.toNat_lt _) (UInt8.toNat_lt _), UInt8.toNat_xor]
theorem srcAt {W : World} {B : Nat} {x : Value} (hx : x.oneCell' = true) (hb : W.heap[B]? = some (.cells #[x] 5 (0, 0))) : Src Tryd.prog 1 22 (.slice (some ⟨B, 0, none⟩) 1 1) 1 [x] W :=
  Src.ofSlice _ Tryd.underlying22 ⟨B, 0, none⟩ 1 1 [x] rfl (World.news_of_block (t := 5) (fr := (0, 0)) hb) (by intro u hu; simp at hu; subst hu; exact hx)
end
section
open Go Go.RowKit

theorem BSl.take {w : World} {v : Value} {xs : List UInt8} (h : BSl w v xs) (n : Nat) (hn : n ≤ xs.length) : ∃ ao cap, v = .slice ao xs.length cap ∧ BSl w (.slice ao n cap) (xs.take n) := by
  obtain ⟨ao, cap, rfl⟩ := h.len
  exact ⟨ao, cap, rfl, h.head' hn⟩

set_option maxHeartbeats 400000 in
theorem cut_c (m : Nat) (hm : m ≤ 1000000) (v : Value) (xs : List UInt8) (w : World) (hv : BSl w v xs) :
    Calls Tryd.prog 17 #[v, .int .i64 m] w fun e w' => ∃ v', e = .returned v' ∧ BSl w v' (xs.take m) ∧ v'.ownBlock = v.ownBlock ∧ w' = w := by
  have HV : Hid (BSl w v xs) := hv
  obtain ⟨ao, cap, rfl, hc1, hc2, _⟩ := hv
  unfold maxLen at hc2
  by_cases h : m < xs.length
  · have h1 : (m : Int) < (xs.length : Int) := by omega
    have h2 : (m : Int) ≤ (cap : Int) := by omega
    go_enter Tryd.func17, Tryd.ntmps17
    go_wp2
    go_ret
    exact ⟨_, rfl, HV.out.head' (by omega), ownBlock_any _ _ _ _ _, rfl⟩
  · have h1 : ¬ (m : Int) < (xs.length : Int) := by omega
    have HT : Hid (xs.take m = xs) := List.take_of_length_le (by omega)
    go_enter Tryd.func17, Tryd.ntmps17
    go_wp2
    go_ret
    exact ⟨_, rfl, by rw [HT.out]; exact HV.out, rfl, rfl⟩

/-- What Sized makes of bytes: so many of them, from the beginning again and again. -/
def sizedL (xs : List UInt8) (n : Nat) : List UInt8 := (List.range n).map fun i => xs.getD (i % xs.length) 0
theorem sizedL_length (xs : List UInt8) (n : Nat) : (sizedL xs n).length = n := by simp [sizedL]
theorem sizedL_succ (xs : List UInt8) (n : Nat) : sizedL xs (n + 1) = sizedL xs n ++ [xs.getD (n % xs.length) 0] := by simp [sizedL, List.range_succ]
theorem sizedL_nil (n : Nat) : sizedL [] n = List.replicate n 0 := by
  apply List.ext_getElem
  · simp [sizedL]
  · intro i h1 h2; simp [sizedL]

theorem sized_set (xs : List UInt8) (k m : Nat) (h : k < m) : (bcells (sizedL xs k ++ List.replicate (m - k) 0)).toArray.setIfInBounds k (.int .u8 ((xs.getD (k % xs.length) 0).toNat)) = (bcells (sizedL xs (k + 1) ++ List.replicate (m - (k + 1)) 0)).toArray := by
  rw [sizedL_succ, bcells_append, set_next _ _ _ _ (by simp [bcells_length, sizedL_length]) (by rw [show m - k = (m - (k + 1)) + 1 by omega, List.replicate_succ]; simp [bcells])]
  rw [show m - k = (m - (k + 1)) + 1 by omega, List.replicate_succ]
  simp [bcells]

set_option maxHeartbeats 800000 in
set_option maxRecDepth 100000 in
theorem sized_c (m : Nat) (hm : m ≤ 1000000) (v : Value) (xs : List UInt8) (w : World) (hv : BSl w v xs) :
    Calls Tryd.prog 6 #[v, .int .i64 m] w fun e w' => e = .returned (.slice (some ⟨w.heap.size, 0, none⟩) m m) ∧ w'.heap[w.heap.size]? = some (.cells (bcells (sizedL xs m)).toArray 5 (0, 0)) ∧ Below w.heap.size w w' := by
  obtain ⟨i0, hi, hz0, hz1, hz2⟩ := info_parts Tryd.infoU8
  have HV : Hid (BSl w v xs) := hv
  obtain ⟨ao, cap, rfl, hc1, hc2, hn1, hn2⟩ := hv
  clear hn1 hn2
  unfold maxLen at hc2
  go_enter Tryd.func6, Tryd.ntmps6
  go_wp2_with (refine wpList_make_full _ rfl (.tmp 7) (.tmp 7) 22 rfl w.heap.size 5 i0 _ 1 Tryd.underlying22 hi hz0 hz1 .i64 .i64 _ _ m rfl rfl (by omega) (by omega) (by rw [hz2]; omega) (by unfold maxLen; omega) (Nat.le_refl _) ?_)
  intro w1 ho1 hgr1
  have hb1 : Below w.heap.size w w1 := (Below.refl _ w).grown hgr1 (by simp) (by simp)
  have hg1 : w1.heap[w.heap.size]? = some (.cells (bcells (List.replicate m 0)).toArray 5 (0, 0)) := by
    rcases ho1.2 with ⟨h, _⟩ | ⟨g, cp, cur, h1, h2, h3, h4, h5, h6, h7⟩
    · cases h
    · cases h1
      rw [h3]
      have : cur.toList = bcells (List.replicate m 0) := by
        rw [← List.take_of_length_le (i := m) (l := cur.toList) (by simp [h6])]
        simpa [bcells, toList_madeCells_one] using h7
      rw [← this]
  have HG1 := hidden hg1
  have HB1 := hidden hb1
  clear ho1 hgr1 hb1 hg1 hi hz0 hz1 hz2
  go_wp2_with fail
  go_loopw [6] (fun i wr => ∃ k : Nat, k ≤ m ∧ i = .int .i64 (k : Int) ∧ wr.heap[w.heap.size]? = some (.cells (bcells (sizedL xs k ++ List.replicate (m - k) 0)).toArray 5 (0, 0)) ∧ Below w.heap.size w wr) (fun i _ => m - (intOf i).toNat)
  case atStart => exact ⟨0, by omega, rfl, by simpa [sizedL] using HG1.out, HB1.out⟩
  case round =>
    clear HG1 HB1
    obtain ⟨k, hk, rfl, hg, hb⟩ := hrel
    by_cases hlt : k < m
    · have hlt' : (k : Int) < (m : Int) := by omega
      by_cases hx : xs = []
      · have HE : Hid (sizedL xs k ++ List.replicate (m - k) 0 = sizedL xs m) := by
          subst hx
          show _ = _
          rw [sizedL_nil, sizedL_nil, List.replicate_append_replicate]
          congr 1
          omega
        rw [HE.out] at hg
        have HG := hidden hg
        have HB := hidden hb
        have hz : ¬ (0 : Int) < (xs.length : Int) := by subst hx; simp
        clear hg hb hx HE
        go_wp2
        go_ret
        exact ⟨rfl, HG.out, HB.out⟩
      · have hz : (0 : Int) < (xs.length : Int) := by have := List.length_pos_iff.2 hx; omega
        have HS := sized_set xs k m hlt
        have hv := HV.out.fresh hb
        obtain ⟨b, o, cp, e, hbl⟩ := hv.nonnil hx
        cases e
        obtain ⟨r, hr⟩ : ∃ r, r = k % xs.length := ⟨_, rfl⟩
        rw [← hr] at HS
        have hrl : r < xs.length := by rw [hr]; exact Nat.mod_lt _ (by omega)
        have htm : ((k : Int)).tmod (xs.length : Int) = (r : Int) := by rw [Int.tmod_eq_emod_of_nonneg (by omega), hr]; simp
        have hr1 : (r : Int) < (xs.length : Int) := by omega
        have hz2 : ¬ (xs.length : Int) = 0 := by omega
        have cb := hv.cellD r hrl
        have hcell := cell_row hg k
        have hcl : k < (bcells (sizedL xs k ++ List.replicate (m - k) 0)).length := by simp [bcells_length, sizedL_length]; omega
        rw [List.getElem?_eq_getElem hcl] at hcell
        generalize (bcells (sizedL xs k ++ List.replicate (m - k) 0))[k] = u at hcell
        have hfz := frozen_row hg
        have HS1 := hidden HS
        have HG := hidden hg
        have HB := hidden hb
        generalize ((xs.getD r 0).toNat) = y at cb HS1
        clear hg hb HS hv hr
        go_wp2
        go_roundw
        case rel =>
          refine ⟨k + 1, by omega, by go_num, ?_, HB.out.setCell (Nat.le_refl _) _⟩
          rw [heap_setCell_same _ _ _ _ _ _ HG.out, HS1.out]
        case measure => simp [intOf]; omega
    · have hlt' : ¬ (k : Int) < (m : Int) := by omega
      obtain rfl : k = m := by omega
      rw [Nat.sub_self, List.replicate_zero, List.append_nil] at hg
      have HG := hidden hg
      have HB := hidden hb
      clear hg hb
      go_wp2
      go_ret
      exact ⟨rfl, HG.out, HB.out⟩
theorem below_drewN {B : Nat} {a w : World} (h : Below B a w) (n : Nat) : Below B a (w.drewN n) := ⟨h.1, h.2, h.3, h.4, h.5⟩
/-- What make makes. -/
theorem BSl.made {w : World} {base n : Nat} {v : Value} {l : List Value} (h : w.ownsRow base 5 1 v n l) (hl : l = (madeCells #[Value.int .u8 0] n).toList) : BSl w v (List.replicate n 0) := by
  refine BSl.ofRow (base := base) (n := n) ?_
  have e : bcells (List.replicate n 0) = l := by
    rw [hl, toList_madeCells_one]
    simp [bcells]
  rw [e]
  exact h
/-- make, run. -/
theorem made_run (m : Nat) (hm : m ≤ 1000000) (w : World) : (Instr.makeSlice 22 (.int .i64 (m : Int)) (.int .i64 (m : Int))).run Tryd.prog w = .ok (.slice (some ⟨w.heap.size, 0, none⟩) m m) (w.alloc (.cells (bcells (List.replicate m 0)).toArray 5)) := by
  have h := run_make_row' (P := Tryd.prog) 22 5 (.int .u8 0) 1 Tryd.underlying22 Tryd.infoU8 rfl .i64 .i64 m (by omega) (by omega) w
  have e : madeCells #[Value.int .u8 0] m = (bcells (List.replicate m 0)).toArray := by
    apply Array.toList_inj.1
    rw [toList_madeCells_one]
    simp [bcells]
  rw [h, e]
theorem BSl.zeros (w : World) (m : Nat) (hm : m ≤ 1000000) : BSl (w.alloc (.cells (bcells (List.replicate m 0)).toArray 5)) (.slice (some ⟨w.heap.size, 0, none⟩) m m) (List.replicate m 0) := by
  have h := BSl.ofBlock (heap_alloc_new w (.cells (bcells (List.replicate m 0)).toArray 5)) (by simp; omega)
  rw [List.length_replicate] at h
  exact h
theorem below_alloc {w w' : World} {o : Obj} (h : Below (w.alloc o).heap.size (w.alloc o) w') : Below w.heap.size w w' :=
  ((Below.refl _ w).alloc (Nat.le_refl _) o).trans (h.mono (by simp))
theorem below_undrew {w w' : World} (h : Below w.drew.heap.size w.drew w') : Below w.heap.size w w' := ⟨h.1, h.2, h.3, h.4, h.5⟩
/-- A piece of a slice. -/
theorem BSl.part {w : World} {b o n cap i j : Nat} {xs : List UInt8} (h : BSl w (.slice (some ⟨b, o, none⟩) n cap) xs) (hi : i + j ≤ n) : BSl w (.slice (some ⟨b, o + i, none⟩) j (cap - i)) ((xs.drop i).take j) := by
  have hl : xs.length = n := by obtain ⟨ao, cp, e⟩ := h.len; cases e; rfl
  have h1 := h.dropS (k := i) (by omega)
  have h2 : (xs.drop i).length = n - i := by simp [hl]
  rw [← h2] at h1
  exact h1.head' (by omega)
/-- The front of what Roomy makes. -/
theorem BSl.roomy {w : World} {g : Nat} {t : TypeId} {xs : List UInt8} (h : w.heap[g]? = some (.cells (bcells (xs ++ List.replicate 80 165)).toArray t (0, 0))) (hl : xs.length ≤ 1000000) : BSl w (.slice (some ⟨g, 0, none⟩) xs.length (xs.length + 80)) xs := by
  have h1 := BSl.ofBlock h (by simp; omega)
  rw [List.length_append, List.length_replicate] at h1
  have h2 := h1.part (i := 0) (j := xs.length) (by omega)
  simpa using h2
/-- Sized as a slice that reads as what it makes. -/
theorem sized_b (m : Nat) (hm : m ≤ 1000000) (v : Value) (xs : List UInt8) (w : World) (hv : BSl w v xs) :
    Calls Tryd.prog 6 #[v, .int .i64 m] w fun e w' => e = .returned (.slice (some ⟨w.heap.size, 0, none⟩) m m) ∧ BSl w' (.slice (some ⟨w.heap.size, 0, none⟩) m m) (sizedL xs m) ∧ Below w.heap.size w w' := by
  refine (sized_c m hm v xs w hv).mono fun e w' ⟨h1, h2, h3⟩ => ⟨h1, ?_, h3⟩
  have := BSl.ofBlock h2 (by rw [sizedL_length]; omega)
  rw [sizedL_length] at this
  exact this
theorem own_empty (w : World) : (w.alloc (.cells #[] 5)).ownsRow w.heap.size 5 1 (.slice (some ⟨w.heap.size, 0, none⟩) 0 0) 0 [] := World.ownsRow_lit w #[] 0 (Nat.le_refl _) (by simp [maxLen]) rfl
/-- A row of bytes of one's own, that begins its block. -/
def ORow (w : World) (base g cap : Nat) (xs : List UInt8) : Prop :=
  base ≤ g ∧ xs.length ≤ cap ∧ cap ≤ maxLen ∧ ∃ cur : Array Value, w.heap[g]? = some (.cells cur 5 (0, 0)) ∧ cur.size = cap ∧ cur.toList.take xs.length = bcells xs
theorem ORow.ofOwns {w : World} {base : Nat} {v : Value} {n : Nat} {xs : List UInt8} (h : w.ownsRow base 5 1 v n (bcells xs)) (hne : xs ≠ []) : ∃ g cap, v = .slice (some ⟨g, 0, none⟩) xs.length cap ∧ ORow w base g cap xs := by
  have hl : xs.length = n := by have := h.1; rw [bcells_length] at this; omega
  subst hl
  rcases h.2 with ⟨_, h1⟩ | ⟨g, cap, cur, rfl, h1, h2, h3, h4, h5, h6⟩
  · exact absurd (List.eq_nil_of_length_eq_zero h1) hne
  · exact ⟨g, cap, rfl, h1, h3, h4, cur, h2, by omega, by simpa using h6⟩
theorem ORow.bsl {w : World} {base g cap : Nat} {xs : List UInt8} (h : ORow w base g cap xs) : BSl w (.slice (some ⟨g, 0, none⟩) xs.length cap) xs := by
  obtain ⟨h1, h2, h3, cur, h4, h5, h6⟩ := h
  refine ⟨_, cap, rfl, h2, h3, (fun e => by cases e), fun ad e _ => ⟨g, 0, by cases e; rfl, fun j u hu => ?_⟩⟩
  rw [Nat.zero_add, cell_row (cs := cur.toList) (by simpa using h4), ← hu, ← h6, List.getElem?_take]
  rw [if_pos (by have := (List.getElem?_eq_some_iff.1 hu).1; rwa [bcells_length] at this)]
theorem ORow.cell {w : World} {base g cap : Nat} {xs : List UInt8} (h : ORow w base g cap xs) (i : Nat) (hi : i < xs.length) : w.cell? ⟨g, i, none⟩ = some (.int .u8 ((xs.getD i 0).toNat)) := by
  have := h.bsl.cellD i hi
  rwa [Nat.zero_add] at this
theorem ORow.frozen {w : World} {base g cap : Nat} {xs : List UInt8} (h : ORow w base g cap xs) (i : Nat) : w.frozen? ⟨g, i, none⟩ = false := by
  obtain ⟨h1, h2, h3, cur, h4, _⟩ := h
  exact frozen_row h4 i
theorem ORow.lt {w : World} {base g cap : Nat} {xs : List UInt8} (h : ORow w base g cap xs) : g < w.heap.size := by
  obtain ⟨h1, h2, h3, cur, h4, _⟩ := h
  exact lt_of_block h4
theorem ORow.drewN {w : World} {base g cap : Nat} {xs : List UInt8} (h : ORow w base g cap xs) (n : Nat) : ORow (w.drewN n) base g cap xs := h
theorem ORow.drew {w : World} {base g cap : Nat} {xs : List UInt8} (h : ORow w base g cap xs) : ORow w.drew base g cap xs := h
theorem ORow.set {w : World} {base g cap : Nat} {xs : List UInt8} (h : ORow w base g cap xs) (i : Nat) (y : UInt8) : ORow (w.setCell ⟨g, i, none⟩ (.int .u8 y.toNat)) base g cap (xs.set i y) := by
  obtain ⟨h1, h2, h3, cur, h4, h5, h6⟩ := h
  refine ⟨h1, by simpa using h2, h3, _, heap_setCell_same _ _ _ _ _ _ h4, by simpa using h5, ?_⟩
  rw [List.length_set, Array.toList_setIfInBounds, List.take_set, h6]
  simp [bcells, List.map_set]
theorem ORow.keep {S : Nat → Prop} {w w' : World} {base g cap : Nat} {xs : List UInt8} (h : ORow w base g cap xs) (hk : Keeps S w w') (hn : ¬ S g) : ORow w' base g cap xs := by
  obtain ⟨h1, h2, h3, cur, h4, h5, h6⟩ := h
  exact ⟨h1, h2, h3, cur, (hk.block g (lt_of_block h4) hn).trans h4, h5, h6⟩
end
section
open Go

section
variable {P : Program} {ops : Array Oper} {md : Region.Mode}

/-- Behind the normal exit K, behind every other nothing. -/
def only (K : Act → World → Prop) : Exit → Act → World → Prop
  | .normal, a, w => K a w
  | _, _, _ => False
theorem only_lets {K : Act → World → Prop} (h : LetsOut (only K)) : False := by obtain ⟨a, w, h⟩ := h; exact h

/-- Where it yields it leaves the world alone, and yields the same in every other. -/
def PureS {α : Type} (P : Program) (s : Sem α) : Prop := ∀ (w : World) (a : α) (w1 : World), s.run P w = .ok a w1 → w1 = w ∧ ∀ w', s.run P w' = .ok a w'
/-- Where it yields it leaves the world alone. -/
def QuietS {α : Type} (P : Program) (s : Sem α) : Prop := ∀ (w : World) (a : α) (w1 : World), s.run P w = .ok a w1 → w1 = w

theorem PureS.quiet {α : Type} {s : Sem α} (h : PureS P s) : QuietS P s := fun w a w1 e => (h w a w1 e).1
theorem pureS_pure {α : Type} (a : α) : PureS P (pure a : Sem α) := fun w b w1 e => by
  simp at e
  obtain ⟨rfl, rfl⟩ := e
  exact ⟨rfl, fun _ => by simp⟩
theorem pureS_bind {α β : Type} {s : Sem α} {f : α → Sem β} (hs : PureS P s) (hf : ∀ a, PureS P (f a)) : PureS P (s >>= f) := fun w b w1 e => by
  rw [Sem.run_bind] at e
  cases hr : s.run P w with
  | ok a w2 =>
    rw [hr] at e
    obtain ⟨rfl, h1⟩ := hs w a w2 hr
    simp only [Result.andThen] at e
    obtain ⟨rfl, h2⟩ := hf a w2 b w1 e
    exact ⟨rfl, fun w' => by rw [Sem.run_bind, h1 w']; exact h2 w'⟩
  | halt x w2 => rw [hr] at e; simp [Result.andThen] at e
theorem quietS_bind {α β : Type} {s : Sem α} {f : α → Sem β} (hs : QuietS P s) (hf : ∀ a, QuietS P (f a)) : QuietS P (s >>= f) := fun w b w1 e => by
  rw [Sem.run_bind] at e
  cases hr : s.run P w with
  | ok a w2 =>
    rw [hr] at e
    obtain rfl := hs w a w2 hr
    simp only [Result.andThen] at e
    exact hf a w2 b w1 e
  | halt x w2 => rw [hr] at e; simp [Result.andThen] at e
theorem pureS_halt {α : Type} (x : Halt) : PureS P (.halt x : Sem α) := fun w b w1 e => by simp [Sem.run] at e
theorem pureS_program : PureS P program := fun w b w1 e => by
  simp [program, Sem.run] at e
  obtain ⟨rfl, rfl⟩ := e
  exact ⟨rfl, fun _ => by simp [program, Sem.run]⟩
theorem pureS_never {α β : Type} {s : Sem α} {f : α → Sem β} (hf : ∀ a w b w1, (f a).run P w ≠ .ok b w1) : PureS P (s >>= f) := fun w b w1 e => by
  rw [Sem.run_bind] at e
  cases hr : s.run P w with
  | ok a w2 => rw [hr] at e; exact absurd e (hf a w2 b w1)
  | halt x w2 => rw [hr] at e; simp [Result.andThen] at e
theorem pureS_bounds {α : Type} (k : IntKind) (x y : Int) (c : BoundsCode) : PureS P (boundsPanic k x y c : Sem α) := by
  have hn : ∀ (r : Bool) w (b : α) w1, (runtimePanic (.bounds (IntKind.i64.wrap x) y r c) : Sem α).run P w ≠ .ok b w1 := fun r w b w1 e => by
    unfold runtimePanic at e
    rw [Sem.run_bind] at e
    simp [program, Sem.run, Result.andThen, goPanic] at e
  unfold boundsPanic
  simp only []
  split
  · exact pureS_never hn
  · exact pureS_never hn
theorem pureS_nilDeref {α : Type} : PureS P (runtimePanic .nilDeref : Sem α) := by
  unfold runtimePanic
  refine pureS_never fun a w b w1 e => ?_
  simp [goPanic] at e
theorem pureS_underlying (t : TypeId) : PureS P (underlying t) := by
  unfold underlying
  refine pureS_bind pureS_program fun p => ?_
  split
  · exact pureS_pure _
  · exact pureS_halt _
theorem pureS_typeInfo (t : TypeId) : PureS P (typeInfo t) := by
  unfold typeInfo
  refine pureS_bind pureS_program fun p => ?_
  split
  · exact pureS_pure _
  · exact pureS_halt _
theorem pureS_sizeOf (t : TypeId) : PureS P (sizeOf t) := by
  unfold sizeOf
  exact pureS_bind (pureS_typeInfo t) fun _ => pureS_pure _
theorem pureS_isAgg (t : TypeId) : PureS P (isAgg t) := by
  unfold isAgg
  refine pureS_bind (pureS_underlying t) fun d => ?_
  split <;> exact pureS_pure _
theorem pureS_part (t : TypeId) (cs : Array Value) (off : Nat) : PureS P (part t cs off) := by
  unfold part
  refine pureS_bind (pureS_isAgg t) fun b => ?_
  split
  · exact pureS_bind (pureS_sizeOf t) fun _ => pureS_pure _
  · split
    · exact pureS_pure _
    · exact pureS_halt _
theorem pureS_asIntOf (v : Value) : PureS P (asIntOf v) := by
  unfold asIntOf
  split
  · exact pureS_pure _
  · exact pureS_halt _
  · exact pureS_halt _
theorem pureS_sureAddr (v : Value) : PureS P (Instr.sureAddr v) := by
  unfold Instr.sureAddr
  split
  · exact pureS_pure _
  · exact pureS_halt _
theorem pureS_follow : ∀ (l : List FieldStep) (t : TypeId) (x : Option Value), PureS P (followBlind l t x)
  | [], t, x => by unfold followBlind; exact pureS_pure _
  | s :: rest, t, x => by
    unfold followBlind
    refine pureS_bind (pureS_underlying _) fun d => ?_
    split
    · split
      · split
        · exact pureS_pure _
        · exact pureS_follow rest _ _
        · exact pureS_halt _
        · exact pureS_pure _
        · exact pureS_bind (pureS_part _ _ _) fun _ => pureS_follow rest _ _
        · exact pureS_halt _
        · exact pureS_follow rest _ _
      · exact pureS_halt _
    · exact pureS_halt _
theorem pureS_nilAhead : ∀ (fuel : Nat) (t : TypeId) (v : Value) (name : String), PureS P (nilAhead fuel t v name)
  | 0, t, v, name => by unfold nilAhead; exact pureS_pure _
  | fuel + 1, t, v, name => by
    unfold nilAhead
    refine pureS_bind (pureS_typeInfo _) fun i => ?_
    split
    · refine pureS_bind (pureS_follow _ _ _) fun r => ?_
      split
      · exact pureS_pure _
      · split
        · exact pureS_nilAhead fuel _ _ _
        · exact pureS_pure _
        · exact pureS_halt _
        · exact pureS_pure _
        · exact pureS_pure _
        · refine pureS_bind (pureS_underlying _) fun d => ?_
          split <;> exact pureS_pure _
    · exact pureS_halt _
theorem pureS_ite {α : Type} {c : Prop} [Decidable c] {x y : Sem α} (hx : PureS P x) (hy : PureS P y) : PureS P (if c then x else y) := by
  split
  · exact hx
  · exact hy
theorem pureS_indexAt (t : TypeId) (x i : Value) : PureS P (Instr.indexAt t x i) := by
  unfold Instr.indexAt
  refine pureS_bind (pureS_asIntOf i) fun ki => ?_
  obtain ⟨k, i⟩ := ki
  refine pureS_bind (pureS_underlying t) fun d => ?_
  simp only []
  split
  · refine pureS_bind (pureS_sureAddr _) fun _ => pureS_bind (pureS_pure _) fun r => ?_
    refine pureS_bind (pureS_underlying t) fun d2 => ?_
    split
    · refine pureS_ite (pureS_bind (pureS_sizeOf _) fun _ => pureS_pure _) (pureS_ite (pureS_halt _) (pureS_bounds _ _ _ _))
    · exact pureS_bounds _ _ _ _
  · refine pureS_bind (pureS_pure _) fun r => ?_
    refine pureS_bind (pureS_underlying t) fun d2 => ?_
    split
    · refine pureS_ite (pureS_bind (pureS_sizeOf _) fun _ => pureS_pure _) (pureS_ite (pureS_halt _) (pureS_bounds _ _ _ _))
    · exact pureS_bounds _ _ _ _
  · refine pureS_bind (pureS_halt _) fun r => ?_
    refine pureS_bind (pureS_underlying t) fun d2 => ?_
    split
    · refine pureS_ite (pureS_bind (pureS_sizeOf _) fun _ => pureS_pure _) (pureS_ite (pureS_halt _) (pureS_bounds _ _ _ _))
    · exact pureS_bounds _ _ _ _
theorem pureS_extract (t : Value) (i : Nat) : PureS P (Instr.extract t i) := by
  unfold Instr.extract
  split
  · split
    · exact pureS_pure _
    · exact pureS_halt _
  · exact pureS_halt _

def PureOp (P : Program) (o : Oper) : Prop := ∀ (ρ : Operand → Value) (w : World) (n : Next) (w1 : World), (execOp ρ o).run P w = .ok n w1 → ∃ v, n = .value v ∧ w1 = w ∧ ∀ w', (execOp ρ o).run P w' = .ok (.value v) w'
def QuietOp (P : Program) (o : Oper) : Prop := ∀ (ρ : Operand → Value) (w : World) (n : Next) (w1 : World), (execOp ρ o).run P w = .ok n w1 → ∃ v, n = .value v ∧ w1 = w

theorem pureOp_of {o : Oper} (f : (Operand → Value) → Sem Value) (hf : ∀ ρ, PureS P (f ρ)) (h : ∀ ρ, execOp ρ o = do pure (.value (← f ρ))) : PureOp P o := fun ρ w n w1 e => by
  rw [h ρ, Sem.run_bind] at e
  cases hr : (f ρ).run P w with
  | ok a w2 =>
    rw [hr] at e
    obtain ⟨rfl, h1⟩ := hf ρ w a w2 hr
    simp [Result.andThen] at e
    obtain ⟨rfl, rfl⟩ := e
    exact ⟨a, rfl, rfl, fun w' => by rw [h ρ, Sem.run_bind, h1 w']; simp [Result.andThen]⟩
  | halt x w2 => rw [hr] at e; simp [Result.andThen] at e
theorem quietOp_of {o : Oper} (f : (Operand → Value) → Sem Value) (hf : ∀ ρ, QuietS P (f ρ)) (h : ∀ ρ, execOp ρ o = do pure (.value (← f ρ))) : QuietOp P o := fun ρ w n w1 e => by
  rw [h ρ, Sem.run_bind] at e
  cases hr : (f ρ).run P w with
  | ok a w2 =>
    rw [hr] at e
    obtain rfl := hf ρ w a w2 hr
    simp [Result.andThen] at e
    obtain ⟨rfl, rfl⟩ := e
    exact ⟨a, rfl, rfl⟩
  | halt x w2 => rw [hr] at e; simp [Result.andThen] at e
theorem PureOp.quiet {o : Oper} (h : PureOp P o) : QuietOp P o := fun ρ w n w1 e => let ⟨v, h1, h2, _⟩ := h ρ w n w1 e; ⟨v, h1, h2⟩

theorem valS_bind {α : Type} {s : Sem α} {f : α → Sem Next} (hf : ∀ a w n w1, (f a).run P w = .ok n w1 → ∃ v, n = .value v) : ∀ w n w1, (s >>= f).run P w = .ok n w1 → ∃ v, n = .value v := fun w n w1 e => by
  rw [Sem.run_bind] at e
  cases hr : s.run P w with
  | ok a w2 => rw [hr] at e; exact hf a w2 n w1 e
  | halt x w2 => rw [hr] at e; simp [Result.andThen] at e

/-- 0: looks at no memory; 1: a load; 2: all else. -/
def opKind : Op → Nat
  | .move _ => 0
  | .assign _ => 0
  | .nilCheck _ => 0
  | .indexAddr _ _ _ => 0
  | .extract _ _ => 0
  | .load _ _ => 1
  | _ => 2

theorem quietS_load (a : Addr) (m : Mode) : QuietS P (load a m) := fun w v w1 e => by
  unfold load at e
  simp only [Sem.run] at e
  split at e
  · simp at e; exact e.2.symm
  · split at e
    · simp at e; exact e.2.symm
    · simp at e
theorem quietS_loadCellsFrom (a : Addr) : ∀ (n i : Nat) (acc : Array Value), QuietS P (loadCellsFrom a i n acc)
  | 0, i, acc => by unfold loadCellsFrom; exact (pureS_pure _).quiet
  | n + 1, i, acc => by
    unfold loadCellsFrom
    exact quietS_bind (quietS_load _ _) fun v => quietS_loadCellsFrom a n (i + 1) _
theorem quietS_loadAt (t : TypeId) (v : Value) : QuietS P (Instr.loadAt t v) := by
  unfold Instr.loadAt
  refine quietS_bind (pureS_sureAddr v).quiet fun a => ?_
  unfold loadVar
  refine quietS_bind (pureS_isAgg t).quiet fun b => ?_
  split
  · refine quietS_bind (pureS_sizeOf t).quiet fun n => ?_
    exact quietS_bind (quietS_loadCellsFrom a n 0 #[]) fun _ => (pureS_pure _).quiet
  · exact quietS_load _ _

theorem pureOp_kind {o : Oper} (h : opKind o.op = 0) : PureOp P o := by
  obtain ⟨dst, op, type, pos, after, guard⟩ := o
  cases op <;> simp [opKind] at h
  case move x => exact pureOp_of (fun ρ => pure (ρ x)) (fun ρ => pureS_pure _) fun ρ => by simp [execOp]
  case assign x => exact pureOp_of (fun ρ => pure (ρ x)) (fun ρ => pureS_pure _) fun ρ => by simp [execOp]
  case nilCheck x =>
    have hp : ∀ ρ : Operand → Value, PureS P (execOp ρ { dst := dst, op := .nilCheck x, type := type, pos := pos, after := after, guard := guard }) ∧ ∀ w n w1, (execOp ρ { dst := dst, op := .nilCheck x, type := type, pos := pos, after := after, guard := guard }).run P w = .ok n w1 → ∃ v, n = .value v := by
      intro ρ
      simp only [execOp]
      split
      · exact ⟨pureS_nilDeref, fun w n w1 e => absurd e (by unfold runtimePanic; simp [goPanic, program, Sem.run])⟩
      · exact ⟨pureS_nilDeref, fun w n w1 e => absurd e (by unfold runtimePanic; simp [goPanic, program, Sem.run])⟩
      · exact ⟨pureS_nilDeref, fun w n w1 e => absurd e (by unfold runtimePanic; simp [goPanic, program, Sem.run])⟩
      · split
        · exact ⟨pureS_nilDeref, fun w n w1 e => absurd e (by unfold runtimePanic; simp [goPanic, program, Sem.run])⟩
        · refine ⟨pureS_bind pureS_program fun p => pureS_bind (pureS_nilAhead _ _ _ _) fun b => ?_, valS_bind fun p => valS_bind fun b w n w1 e => ?_⟩
          · split
            · exact pureS_bind (pureS_halt _) fun _ => pureS_pure _
            · exact pureS_pure _
          · split at e
            · simp [unsupported, Sem.run] at e
            · simp at e; exact ⟨_, e.1.symm⟩
        · exact ⟨pureS_pure _, fun w n w1 e => by simp at e; exact ⟨_, e.1.symm⟩⟩
      · exact ⟨pureS_pure _, fun w n w1 e => by simp at e; exact ⟨_, e.1.symm⟩⟩
    intro ρ w n w1 e
    obtain ⟨h1, h2⟩ := hp ρ
    obtain ⟨v, rfl⟩ := h2 w n w1 e
    obtain ⟨h3, h4⟩ := h1 w _ w1 e
    exact ⟨v, rfl, h3, h4⟩
  case indexAddr t x i => exact pureOp_of (fun ρ => Instr.indexAt t (ρ x) (ρ i)) (fun ρ => pureS_indexAt _ _ _) fun ρ => rfl
  case extract t i => exact pureOp_of (fun ρ => Instr.extract (ρ t) i) (fun ρ => pureS_extract _ _) fun ρ => rfl
theorem quietOp_kind {o : Oper} (h : opKind o.op ≤ 1) : QuietOp P o := by
  by_cases h0 : opKind o.op = 0
  · exact (pureOp_kind h0).quiet
  · have h1 : opKind o.op = 1 := by omega
    obtain ⟨dst, op, type, pos, after, guard⟩ := o
    cases op <;> simp [opKind] at h1
    case load t a => exact quietOp_of (fun ρ => Instr.loadAt t (ρ a)) (fun ρ => quietS_loadAt _ _) fun ρ => rfl
end
end
section
open Go

section
variable {P : Program} {ops : Array Oper} {md : Region.Mode} {N : Exit → Act → World → Prop}

/-- A post that bears no panic and nothing outgrown. -/
def Strict (N : Exit → Act → World → Prop) : Prop := (∀ c a w, ¬ N (.panic c) a w) ∧ ¬ LetsOut N
theorem strict_only (K : Act → World → Prop) : Strict (only K) := ⟨fun _ _ _ h => h, fun h => only_lets h⟩

theorem yields_of_wpOp {k : Nat} {o : Oper} (hk : ops[k]? = some o) (hp : PureOp P o) (hN : Strict N) {K : Act → World → Prop} {a : Act} {w : World} (h : wpOp P ops N k K a w) : ∃ v, Yields P ops o v a ∧ K (a.put o.dst v) w := by
  unfold wpOp at h
  simp only [hk] at h
  split at h
  · rename_i hw
    rcases h with h | ⟨_, h⟩
    · unfold Oper.wp at h
      cases hr : (execOp a.eval o).run P w with
      | ok n w1 =>
        obtain ⟨v, rfl, rfl, h3⟩ := hp _ _ _ _ hr
        rw [hr] at h
        exact ⟨v, .inl ⟨hw, h3⟩, h⟩
      | halt x w1 =>
        rw [hr] at h
        cases x <;> simp only [Oper.upon] at h
        exact absurd h (hN.1 _ _ _)
    · exact absurd h hN.2
  · rename_i hw
    exact ⟨undef, .inr ⟨by simpa using hw, rfl⟩, h⟩
theorem yieldsIf_of_wpOp {k : Nat} {o : Oper} (hk : ops[k]? = some o) (hp : QuietOp P o) (hN : Strict N) {K : Act → World → Prop} {a : Act} {w : World} (h : wpOp P ops N k K a w) : ∃ v, YieldsIf P ops (fun x => x = w) o v a ∧ K (a.put o.dst v) w := by
  unfold wpOp at h
  simp only [hk] at h
  split at h
  · rename_i hw
    rcases h with h | ⟨_, h⟩
    · unfold Oper.wp at h
      cases hr : (execOp a.eval o).run P w with
      | ok n w1 =>
        obtain ⟨v, rfl, rfl⟩ := hp _ _ _ _ hr
        have hr' := hr
        rw [hr] at h
        exact ⟨v, .inl ⟨hw, fun w' e => by rw [e]; exact hr'⟩, h⟩
      | halt x w1 =>
        rw [hr] at h
        cases x <;> simp only [Oper.upon] at h
        exact absurd h (hN.1 _ _ _)
    · exact absurd h hN.2
  · rename_i hw
    exact ⟨undef, .inr ⟨by simpa using hw, rfl⟩, h⟩
theorem same_of_quiet {j : Nat} {o : Oper} (hj : ops[j]? = some o) (hq : QuietOp P o) {K : Act → World → Prop} {a : Act} {w : World} (h : wpOp P ops N j K a w) : wpOp P ops N j (fun a' w' => w' = w ∧ K a' w') a w := by
  unfold wpOp at *
  simp only [hj] at *
  split
  · rename_i hw
    simp only [hw, if_true] at h
    refine h.imp (fun h => ?_) id
    unfold Oper.wp at *
    cases hr : (execOp a.eval o).run P w with
    | ok n w1 =>
      obtain ⟨v, rfl, rfl⟩ := hq _ _ _ _ hr
      rw [hr] at h
      exact ⟨rfl, h⟩
    | halt x w1 => rw [hr] at h; cases x <;> simp only [Oper.upon] at h ⊢ <;> exact h
  · rename_i hw
    simp only [hw] at h
    exact ⟨trivial, h⟩

theorem comm_pure {k j : Nat} {ok oj : Oper} (hk : ops[k]? = some ok) (hj : ops[j]? = some oj) (hp : PureOp P ok) (hap : ok.apart ops oj = true) (hsel : Region.noSelect ops = true) (hN : Strict N)
    {K : Act → World → Prop} {a : Act} {w : World} (h : wpOp P ops N k (wpOp P ops N j K) a w) : wpOp P ops N j (wpOp P ops N k K) a w := by
  obtain ⟨v, hy, h1⟩ := yields_of_wpOp hk hp hN h
  have h2 := wpOp_put hj hap (fun cs b => Region.noSelect_spec hsel k ok cs b hk) (fun cs b => Region.noSelect_spec hsel j oj cs b hj) (fun c a w hh => absurd hh (hN.1 _ _ _)) hy h1
  exact wpOp_mono (fun a' w' h3 => h3.1.wpOp hk h3.2) h2
theorem comm_quiet {k j : Nat} {ok oj : Oper} (hk : ops[k]? = some ok) (hj : ops[j]? = some oj) (hp : QuietOp P ok) (hq : QuietOp P oj) (hap : ok.apart ops oj = true) (hsel : Region.noSelect ops = true) (hN : Strict N)
    {K : Act → World → Prop} {a : Act} {w : World} (h : wpOp P ops N k (wpOp P ops N j K) a w) : wpOp P ops N j (wpOp P ops N k K) a w := by
  obtain ⟨v, hy, h1⟩ := yieldsIf_of_wpOp hk hp hN h
  have h2 := wpOp_putIf hj hap (fun cs b => Region.noSelect_spec hsel k ok cs b hk) (fun cs b => Region.noSelect_spec hsel j oj cs b hj) (fun c a w hh => absurd hh (hN.1 _ _ _)) hy h1
  exact wpOp_mono (fun a' w' h3 => h3.2.1.wpOp hk h3.1 h3.2.2) (same_of_quiet hj hq h2)

def commOk (ops : Array Oper) (k j : Nat) : Bool :=
  match ops[k]?, ops[j]? with
  | some ok, some oj => ok.apart ops oj && (opKind ok.op == 0 || (decide (opKind ok.op ≤ 1) && decide (opKind oj.op ≤ 1)))
  | _, _ => false
theorem comm_of {k j : Nat} (hc : commOk ops k j = true) (hsel : Region.noSelect ops = true) (hN : Strict N)
    {K : Act → World → Prop} {a : Act} {w : World} (h : wpOp P ops N k (wpOp P ops N j K) a w) : wpOp P ops N j (wpOp P ops N k K) a w := by
  unfold commOk at hc
  split at hc
  · rename_i ok oj hk hj
    simp only [Bool.and_eq_true, Bool.or_eq_true, beq_iff_eq, decide_eq_true_eq] at hc
    rcases hc.2 with h0 | ⟨h1, h2⟩
    · exact comm_pure hk hj (pureOp_kind h0) hc.1 hsel hN h
    · exact comm_quiet hk hj (quietOp_kind h1) (quietOp_kind h2) hc.1 hsel hN h
  · cases hc

/-- j, brought to the front of those that it may change places with. -/
theorem to_front (hsel : Region.noSelect ops = true) (hN : Strict N) {j : Nat} {post : List Nat} : ∀ (pre : List Nat), (∀ k ∈ pre, commOk ops k j = true) → ∀ (a : Act) (w : World),
    wpOps P ops N (pre ++ j :: post) a w → wpOp P ops N j (wpOps P ops N (pre ++ post)) a w
  | [], _, a, w, h => by rw [List.nil_append, wpOps_cons] at h; exact h
  | k :: pre, hc, a, w, h => by
    rw [List.cons_append, wpOps_cons] at h
    have h1 := wpOp_mono (fun a' w' h' => to_front hsel hN pre (fun x hx => hc x (List.mem_cons_of_mem _ hx)) a' w' h') h
    have h2 := comm_of (hc k (List.mem_cons_self)) hsel hN h1
    refine wpOp_mono (fun a' w' h' => ?_) h2
    rw [List.cons_append, wpOps_cons]
    exact h'

/-! Whom an operation waits for, by way of others too: a mask of bits. -/
def maskOf (md : Region.Mode) (l : List Nat) (n : Nat) (es : List Edge) : Nat :=
  es.foldr (fun e s => if (Region.binds md e && decide (e.on < n)) = true then (2 ^ e.on ||| l.getD e.on 0) ||| s else s) 0
theorem maskOf_bit {l : List Nat} {n k : Nat} {es : List Edge} (h : (maskOf md l n es).testBit k = true) : ∃ e ∈ es, Region.binds md e = true ∧ e.on < n ∧ (e.on = k ∨ (l.getD e.on 0).testBit k = true) := by
  induction es with
  | nil => simp [maskOf] at h
  | cons e es ih =>
    unfold maskOf at h ih
    rw [List.foldr_cons] at h
    split at h
    · rename_i hb
      simp only [Bool.and_eq_true, decide_eq_true_eq] at hb
      rw [Nat.testBit_or, Nat.testBit_or, Bool.or_eq_true, Bool.or_eq_true, Nat.testBit_two_pow] at h
      rcases h with (h | h) | h
      · exact ⟨e, List.mem_cons_self, hb.1, hb.2, .inl (by simpa using h)⟩
      · exact ⟨e, List.mem_cons_self, hb.1, hb.2, .inr h⟩
      · obtain ⟨e', he', h'⟩ := ih h
        exact ⟨e', List.mem_cons_of_mem _ he', h'⟩
    · obtain ⟨e', he', h'⟩ := ih h
      exact ⟨e', List.mem_cons_of_mem _ he', h'⟩
def afterOf (ops : Array Oper) (n : Nat) : List Edge := match ops[n]? with | some o => o.after.toList | none => []
def masks (md : Region.Mode) (ops : Array Oper) : Nat → List Nat
  | 0 => []
  | n + 1 => masks md ops n ++ [maskOf md (masks md ops n) n (afterOf ops n)]
theorem masks_length : ∀ n, (masks md ops n).length = n
  | 0 => rfl
  | n + 1 => by simp [masks, masks_length n]
theorem masks_at {n j : Nat} (h : j < n) : (masks md ops n).getD j 0 = maskOf md (masks md ops j) j (afterOf ops j) := by
  induction n with
  | zero => omega
  | succ n ih =>
    by_cases hj : j = n
    · subst hj
      simp [masks, masks_length]
    · have hlt : j < n := by omega
      rw [← ih hlt]
      simp only [masks, List.getD_eq_getElem?_getD]
      rw [List.getElem?_append_left (by rw [masks_length]; exact hlt)]

/-- Whoever waits for one that has not come up has not come up. -/
theorem waits_not {listed : Array Bool} {k n : Nat} (hdown : ∀ m o, ops[m]? = some o → listed.getD m false = true → ∀ e ∈ o.after, Region.binds md e = true → listed.getD e.on false = true)
    (hk : listed.getD k false = false) : ∀ j, j < n → ((masks md ops n).getD j 0).testBit k = true → listed.getD j false = true → False := by
  intro j
  induction j using Nat.strongRecOn with
  | ind j ih =>
    intro hj hb hl
    rw [masks_at hj] at hb
    obtain ⟨e, he, hb1, hlt, h⟩ := maskOf_bit hb
    unfold afterOf at he
    split at he
    · rename_i o ho
      have he' : e ∈ o.after := by simpa using he
      have h1 := hdown j o ho hl e he' hb1
      rcases h with rfl | h
      · rw [hk] at h1; cases h1
      · exact ih e.on hlt (by omega) (by rw [masks_at (by omega)]; rw [masks_at hlt] at h; exact h) h1
    · cases he

def edgeTo (md : Region.Mode) (ops : Array Oper) (k j : Nat) : Bool := (afterOf ops k).any fun e => Region.binds md e && e.on == j
def pairOk (md : Region.Mode) (ops : Array Oper) (ms : List Nat) (k j : Nat) : Bool := k != j && (commOk ops k j || (ms.getD j 0).testBit k) && !edgeTo md ops k j
def okPairs (md : Region.Mode) (ops : Array Oper) (ms : List Nat) : List Nat → Bool
  | [] => true
  | k :: rest => rest.all (pairOk md ops ms k) && okPairs md ops ms rest
def okOrd (md : Region.Mode) (ops : Array Oper) (ord : List Nat) : Bool :=
  Region.noSelect ops && ord.all (fun i => decide (i < ops.size)) && (List.range ops.size).all ord.contains && ord.length == ops.size &&
  (List.range ops.size).all (fun k => (afterOf ops k).all fun e => !Region.binds md e || (decide (e.on < ops.size) && e.on != k)) &&
  okPairs md ops (masks md ops ops.size) ord
theorem okPairs_spec {ms : List Nat} : ∀ {ord : List Nat}, okPairs md ops ms ord = true → ord.Pairwise fun k j => pairOk md ops ms k j = true
  | [], _ => List.Pairwise.nil
  | k :: rest, h => by
    simp only [okPairs, Bool.and_eq_true, List.all_eq_true] at h
    exact List.Pairwise.cons h.1 (okPairs_spec h.2)

theorem getD_size {listed : Array Bool} {i n : Nat} (hs : listed.size = n) (hi : i < n) : listed.getD i true = listed.getD i false := by
  have : i < listed.size := by omega
  simp [this]

theorem wpAny_ord (hsel : Region.noSelect ops = true) (hN : Strict N)
    (hself : ∀ k o, ops[k]? = some o → ∀ e ∈ o.after, Region.binds md e = true → e.on < ops.size ∧ e.on ≠ k) :
    ∀ (fuel : Nat) (listed : Array Bool) (rem : List Nat) (a : Act) (w : World), rem.length = fuel → listed.size = ops.size → (∀ i ∈ rem, i < ops.size) →
      (∀ i, i < ops.size → (listed.getD i false = false ↔ i ∈ rem)) → rem.Pairwise (fun k j => pairOk md ops (masks md ops ops.size) k j = true) →
      (∀ m o, ops[m]? = some o → listed.getD m false = true → ∀ e ∈ o.after, Region.binds md e = true → listed.getD e.on false = true) →
      wpOps P ops N rem a w → wpAny P md ops N fuel listed a w := by
  intro fuel
  induction fuel with
  | zero =>
    intro listed rem a w hl hsz hlt hiff hpw hdown h
    obtain rfl : rem = [] := List.eq_nil_of_length_eq_zero hl
    refine ⟨List.eq_nil_iff_forall_not_mem.2 fun j hj => ?_, h⟩
    obtain ⟨h0, o, ho, _⟩ := mem_ready.1 hj
    have hjlt := (Array.getElem?_eq_some_iff.1 ho).1
    rw [getD_size hsz hjlt] at h0
    cases (hiff j hjlt).1 h0
  | succ fuel ih =>
    intro listed rem a w hl hsz hlt hiff hpw hdown h
    refine ⟨fun h0 => ?_, fun j hj => ?_⟩
    · cases rem with
      | nil => simp at hl
      | cons i rest =>
        exfalso
        have hi := hlt i List.mem_cons_self
        have hin : i ∈ Region.ready md ops listed := by
          refine mem_ready.2 ⟨by rw [getD_size hsz hi]; exact (hiff i hi).2 List.mem_cons_self, ops[i], Array.getElem?_eq_getElem hi, fun e he hb => ?_⟩
          obtain ⟨h1, h2⟩ := hself i _ (Array.getElem?_eq_getElem hi) e he hb
          cases hx : listed.getD e.on false with
          | true => rfl
          | false =>
            rcases List.mem_cons.1 ((hiff e.on h1).1 hx) with h3 | h3
            · exact absurd h3 h2
            · have h4 := (List.pairwise_cons.1 hpw).1 e.on h3
              simp only [pairOk, Bool.and_eq_true, Bool.not_eq_true'] at h4
              have h5 : edgeTo md ops i e.on = true := by
                unfold edgeTo afterOf
                rw [Array.getElem?_eq_getElem hi]
                exact List.any_eq_true.2 ⟨e, by simpa using he, by simp [hb]⟩
              rw [h4.2] at h5
              cases h5
        rw [h0] at hin
        cases hin
    · obtain ⟨h0, o, ho, hall⟩ := mem_ready.1 hj
      have hjlt := (Array.getElem?_eq_some_iff.1 ho).1
      rw [getD_size hsz hjlt] at h0
      obtain ⟨pre, post, rfl⟩ := List.append_of_mem ((hiff j hjlt).1 h0)
      obtain ⟨hp1, hp2, hp3⟩ := List.pairwise_append.1 hpw
      have hne : ∀ k ∈ pre ++ post, k ≠ j := by
        intro k hk
        rcases List.mem_append.1 hk with hk | hk
        · have := hp3 k hk j List.mem_cons_self
          simp only [pairOk, Bool.and_eq_true, bne_iff_ne] at this
          exact this.1.1
        · have := (List.pairwise_cons.1 hp2).1 k hk
          simp only [pairOk, Bool.and_eq_true, bne_iff_ne] at this
          exact fun e => this.1.1 e.symm
      have hcomm : ∀ k ∈ pre, commOk ops k j = true := by
        intro k hk
        have h1 := hp3 k hk j List.mem_cons_self
        simp only [pairOk, Bool.and_eq_true, Bool.or_eq_true] at h1
        rcases h1.1.2 with h2 | h2
        · exact h2
        · exfalso
          have hklt := hlt k (List.mem_append_left _ hk)
          have hku := (hiff k hklt).2 (List.mem_append_left _ hk)
          rw [masks_at hjlt] at h2
          obtain ⟨e, he, hb1, he2, h3⟩ := maskOf_bit h2
          unfold afterOf at he
          rw [ho] at he
          have he' : e ∈ o.after := by simpa using he
          have h4 := hall e he' hb1
          rcases h3 with rfl | h3
          · rw [hku] at h4; cases h4
          · exact waits_not (n := j) hdown hku e.on he2 h3 h4
      refine wpOp_mono (fun a' w' h' => ih (listed.setIfInBounds j true) (pre ++ post) a' w' (by simp at hl ⊢; omega) (by simpa using hsz) (fun i hi => hlt i ?_) (fun i hi => ?_) ?_ ?_ h') (to_front hsel hN pre hcomm a w h)
      · rcases List.mem_append.1 hi with hi | hi
        · exact List.mem_append_left _ hi
        · exact List.mem_append_right _ (List.mem_cons_of_mem _ hi)
      · by_cases hij : i = j
        · subst hij
          constructor
          · intro h1
            have : i < listed.size := by omega
            simp [this] at h1
          · intro h1
            exact absurd rfl (hne i h1)
        · rw [getD_set_ne false (fun e => hij e.symm), hiff i hi]
          simp [hij]
      · exact hpw.sublist (List.Sublist.append_left (List.sublist_cons_self _ _) _)
      · intro m om hm hml e he hb
        by_cases hmj : m = j
        · subst hmj
          rw [ho] at hm
          cases hm
          exact getD_set_true (hall e he hb)
        · rw [getD_set_ne false (fun e => hmj e.symm)] at hml
          exact getD_set_true (hdown m om hm hml e he hb)

theorem wpOps_filterMap : ∀ (ord : List Nat), (∀ i ∈ ord, i < ops.size) → wpOps P ops N ord = wpList P ops N (ord.filterMap (ops[·]?))
  | [], _ => by funext a w; simp [wpOps, wpList]
  | i :: rest, h => by
    have hi := h i List.mem_cons_self
    funext a w
    rw [List.filterMap_cons, Array.getElem?_eq_getElem hi]
    simp only [wpOps, wpList, Array.getElem?_eq_getElem hi, wpOps_filterMap rest (fun x hx => h x (List.mem_cons_of_mem _ hx))]

/-- A region that draws its order, walked once in the order 'ord'. -/
theorem region_ord {id : Nat} {Q : Exit → Act → World → Prop} {a : Act} {w : World} (ord : List Nat) (hc : okOrd .any ops ord = true) (hm : P.follows .mixedOrders = true)
    (h : ∀ N : Exit → Act → World → Prop, (∀ a w, Q .normal a w → N .normal a w) → wpList P ops N (ord.filterMap (ops[·]?)) a w.drew) : (Code.region id ops true).wp P Q a w := by
  simp only [okOrd, Bool.and_eq_true, List.all_eq_true, decide_eq_true_eq, beq_iff_eq, List.mem_range, List.contains_eq_mem] at hc
  obtain ⟨⟨⟨⟨⟨h1, h2⟩, h3⟩, h4⟩, h5⟩, h6⟩ := hc
  refine Code.wp_mono (Q := only (Q .normal)) (fun e a w hq => by cases e <;> first | exact hq | exact (hq : False).elim) (wp_region_any hm ?_)
  refine wpAny_ord h1 (strict_only _) (fun k o ho e he hb => ?_) ops.size _ ord a _ h4 (by simp) h2 (fun i hi => ?_) (okPairs_spec h6) (fun m o ho hl => ?_) ?_
  · have hk := (Array.getElem?_eq_some_iff.1 ho).1
    have := h5 k hk e (by unfold afterOf; rw [ho]; simpa using he)
    simp [hb] at this
    exact this
  · simp [hi]
    exact h3 i hi
  · have hk := (Array.getElem?_eq_some_iff.1 ho).1
    simp [hk] at hl
  · rw [wpOps_filterMap ord h2]
    exact h (only (Q .normal)) (fun _ _ h => h)
end
end
section
open Go Go.RowKit

theorem wpList_loadRow {P : Program} {ops : Array Oper} {rest : List Oper} {o : Oper} {a : Act} {w : World} {Q : Exit → Act → World → Prop} (hgd : o.guard = none) (ty : TypeId) (x : Operand) (ho : o.op = .load ty x)
    (g : Nat) (cs : Array Value) (t : TypeId) (fr : Nat × Nat) (n : Nat) (e : TypeId) (hx : a.eval x = .pointer (some ⟨g, 0, none⟩)) (hg : w.heap[g]? = some (.cells cs t fr))
    (hu : P.underlying ty = some (.array n e)) (hi : (P.info? ty).map (·.size) = some cs.size)
    (h : wpList P ops Q rest (a.put o.dst (.agg cs)) w) : wpList P ops Q (o :: rest) a w :=
  wpList_plain hgd fun _ hK => by
    unfold Oper.wp execOp
    simp only [ho, Instr.loadAt, Sem.run_bind, hx, Instr.sureAddr, Sem.run_pure, Result.andThen, run_loadVar_row w g t ty cs fr _ hg hu rfl hi]
    exact hK _ _ h

theorem results_cell1 {fn : Func} {p : Tmp} {ty : TypeId} (h : fn.results = #[.cell p ty]) (tmps : Array Value) (P : Program) (w : World) (g : Nat) (cs : Array Value) (t : TypeId) (fr : Nat × Nat) (n : Nat) (e : TypeId) (hp : tmps.getD p undef = .pointer (some ⟨g, 0, none⟩)) (hg : w.heap[g]? = some (.cells cs t fr))
    (hu : P.underlying ty = some (.array n e)) (hi : (P.info? ty).map (·.size) = some cs.size) :
    (results fn tmps).run P w = .ok (.agg cs) w := by
  have hp' : tmps[p]?.getD undef = .pointer (some ⟨g, 0, none⟩) := by rw [← hp]; simp
  simp only [results, h]
  simp [hp', asAddr, run_loadVar_row w g t ty cs fr _ hg hu rfl hi]
end
section
open Go

section
variable {P : Program} {ops : Array Oper} {Q : Exit → Act → World → Prop}

/-- The operation, run where its operands read as ρ says, gives such a value in such a world. -/
def GivesM (P : Program) (o : Oper) (ρ : Operand → Value) (w : World) (Φ : Value → World → Prop) : Prop :=
  match (execOp ρ o).run P w with
  | .ok (.value v) w' => Φ v w'
  | .ok .skip w' => Φ undef w'
  | .ok (.enter f args) w' => Calls P f args w' fun e w'' => ∃ v, e = .returned v ∧ Φ v w''
  | _ => False
structure Gives (P : Program) (o : Oper) (ρ : Operand → Value) (w : World) (Φ : Value → World → Prop) : Prop where
  out : GivesM P o ρ w Φ
theorem Gives.value {o : Oper} {ρ : Operand → Value} {w w' : World} {v : Value} {Φ : Value → World → Prop} (hr : (execOp ρ o).run P w = .ok (.value v) w') (h : Φ v w') : Gives P o ρ w Φ := by
  refine ⟨?_⟩
  unfold GivesM
  rw [hr]
  exact h
theorem Gives.enter {o : Oper} {ρ : Operand → Value} {w w' : World} {f : FuncId} {args : Array Value} {Φ : Value → World → Prop} (hr : (execOp ρ o).run P w = .ok (.enter f args) w') (h : Calls P f args w' fun e w'' => ∃ v, e = .returned v ∧ Φ v w'') : Gives P o ρ w Φ := by
  refine ⟨?_⟩
  unfold GivesM
  rw [hr]
  exact h
theorem Gives.wp {o : Oper} {a : Act} {w : World} {Φ : Value → World → Prop} {K : Act → World → Prop} (h : Gives P o a.eval w Φ) (hK : ∀ v w', Φ v w' → K (a.put o.dst v) w') : o.wp P a w K Q := by
  have h := h.out
  unfold GivesM at h
  unfold Oper.wp
  cases hr : (execOp a.eval o).run P w with
  | ok n w1 =>
    rw [hr] at h
    cases n <;> simp only [Oper.upon] at h ⊢
    case value v => exact hK _ _ h
    case skip => exact hK _ _ h
    case enter f args => exact Calls.mono h fun e w'' ⟨v, hv, h2⟩ => by subst hv; exact hK _ _ h2
  | halt x w1 => rw [hr] at h; exact h.elim

def dstOf (ops : Array Oper) (k : Nat) : Option Tmp := (ops[k]?).bind (·.dst)
/-- The frame behind the operations that are listed. -/
def actsTo (ops : Array Oper) (a : Act) (listed : Nat → Bool) (vs : Nat → Value) : Nat → Act
  | 0 => a
  | k + 1 => if listed k then (actsTo ops a listed vs k).put (dstOf ops k) (vs k) else actsTo ops a listed vs k
theorem put_size (a : Act) (d : Option Tmp) (v : Value) : (a.put d v).tmps.size = a.tmps.size := by cases d <;> simp [Act.put]
theorem actsTo_size (a : Act) (listed : Nat → Bool) (vs : Nat → Value) (k : Nat) : (actsTo ops a listed vs k).tmps.size = a.tmps.size := by
  induction k with
  | zero => rfl
  | succ k ih =>
    unfold actsTo
    split
    · rw [put_size, ih]
    · exact ih
theorem actsTo_congr (a : Act) {l l' : Nat → Bool} {vs vs' : Nat → Value} (k : Nat) (h : ∀ j, j < k → l j = l' j ∧ vs j = vs' j) : actsTo ops a l vs k = actsTo ops a l' vs' k := by
  induction k with
  | zero => rfl
  | succ k ih =>
    unfold actsTo
    rw [(h k (by omega)).1, (h k (by omega)).2, ih (fun j hj => h j (by omega))]
def upd {α : Type} (f : Nat → α) (i : Nat) (x : α) : Nat → α := fun j => if j = i then x else f j
theorem actsTo_set (a : Act) (l : Nat → Bool) (vs : Nat → Value) (i : Nat) (v : Value) (hl : l i = false) (n : Nat) (hi : i < n)
    (hd : ∀ k, k < n → k ≠ i → ∀ d, dstOf ops i = some d → dstOf ops k ≠ some d) :
    actsTo ops a (upd l i true) (upd vs i v) n = (actsTo ops a l vs n).put (dstOf ops i) v := by
  induction n with
  | zero => omega
  | succ k ih =>
    unfold actsTo
    by_cases hk : k = i
    · subst hk
      have e : actsTo ops a (upd l k true) (upd vs k v) k = actsTo ops a l vs k := actsTo_congr a k fun j hj => by
        unfold upd
        rw [if_neg (by omega), if_neg (by omega)]
        exact ⟨rfl, rfl⟩
      rw [e, hl]
      simp [upd]
    · have h1 : upd l i true k = l k := by unfold upd; rw [if_neg hk]
      have h2 : upd vs i v k = vs k := by unfold upd; rw [if_neg hk]
      rw [h1, h2, ih (by omega) (fun j hj => hd j (by omega))]
      split
      · exact Act.put_comm _ _ _ (hd k (by omega) hk)
      · rfl
theorem eval_put_tmp (a : Act) (d : Option Tmp) (v : Value) (t : Tmp) : (a.put d v).eval (.tmp t) = if d = some t ∧ t < a.tmps.size then v else a.eval (.tmp t) := by
  cases d with
  | none => simp [Act.put]
  | some d =>
    by_cases h : d = t
    · subst h
      by_cases h2 : d < a.tmps.size
      · simp [Act.put, Act.eval, h2]
      · simp [Act.put, Act.eval, h2]
    · have : ¬ (some d = some t ∧ t < a.tmps.size) := by simp [h]
      rw [if_neg this]
      exact Act.eval_put fun d' hd' hx => by cases hd'; cases hx; exact h rfl
theorem actsTo_eval (a : Act) (l : Nat → Bool) (vs : Nat → Value) (n : Nat) (x : Operand) (h : ∀ j, j < n → ∀ t, x = .tmp t → dstOf ops j = some t → l j = true) :
    (actsTo ops a l vs n).eval x = (actsTo ops a (fun _ => true) vs n).eval x := by
  cases x with
  | tmp t =>
    induction n with
    | zero => rfl
    | succ k ih =>
      have ih' := ih (fun j hj => h j (by omega))
      unfold actsTo
      rw [if_pos rfl]
      by_cases hl : l k = true
      · rw [if_pos hl, eval_put_tmp, eval_put_tmp, actsTo_size, actsTo_size, ih']
      · rw [if_neg hl, eval_put_tmp, if_neg, ih']
        intro e
        exact hl (h k (by omega) t rfl e.1)
  | _ => rfl

/-- The operations that must come ahead of one. -/
def edgesOf (o : Oper) : List Nat := (o.after.toList.filter (Region.binds .any)).map (·.on)
/-- Does j come ahead of i, by at most so many edges? -/
def under (ops : Array Oper) : Nat → Nat → Nat → Bool
  | 0, _, _ => false
  | f + 1, i, j => match ops[i]? with
    | some o => (edgesOf o).any fun m => m == j || under ops f m j
    | none => false
def growOk (ops : Array Oper) (U : Nat) : Bool :=
  decide (U ≤ ops.size) &&
  (List.range ops.size).all (fun i => match ops[i]? with
    | some o => o.guard.isNone && (match o.op with | .select .. => false | _ => true) && (edgesOf o).all (· < i) &&
      (if i < U then
        (List.range U).all (fun j => (match dstOf ops j with
          | some d => (!(o.looksAt ops).contains d || (edgesOf o).contains j) && (j == i || o.dst != some d)
          | none => true))
       else (List.range U).all (fun j => under ops ops.size i j))
    | none => false)

structure GrowOk (ops : Array Oper) (U : Nat) : Prop where
  le : U ≤ ops.size
  guard : ∀ (i : Nat) (o : Oper), ops[i]? = some o → o.guard = none
  sel : ∀ (i : Nat) (o : Oper), ops[i]? = some o → ∀ cs b, o.op ≠ .select cs b
  down : ∀ (i : Nat) (o : Oper), ops[i]? = some o → ∀ j ∈ edgesOf o, j < i
  look : ∀ (i : Nat) (o : Oper), ops[i]? = some o → i < U → ∀ j, j < U → ∀ d, dstOf ops j = some d → d ∈ o.looksAt ops → j ∈ edgesOf o
  dst : ∀ (i : Nat) (o : Oper), ops[i]? = some o → i < U → ∀ j, j < U → j ≠ i → ∀ d, dstOf ops j = some d → o.dst ≠ some d
  late : ∀ (i : Nat) (o : Oper), ops[i]? = some o → U ≤ i → ∀ j, j < U → under ops ops.size i j = true
theorem growOk_spec {U : Nat} (h : growOk ops U = true) : GrowOk ops U := by
  unfold growOk at h
  rw [Bool.and_eq_true, decide_eq_true_eq, List.all_eq_true] at h
  obtain ⟨h0, h1⟩ := h
  have hi : ∀ (i : Nat) (o : Oper), ops[i]? = some o → i ∈ List.range ops.size := fun i o e => List.mem_range.2 (Array.getElem?_eq_some_iff.1 e).1
  have each := fun (i : Nat) (o : Oper) (e : ops[i]? = some o) => by
    have := h1 i (hi i o e)
    rw [e] at this
    simp only [Bool.and_eq_true, List.all_eq_true, decide_eq_true_eq] at this
    exact this
  refine ⟨h0, fun i o e => by simpa using (each i o e).1.1.1, fun i o e cs b hs => ?_, fun i o e j hj => (each i o e).1.2 j hj, fun i o e hU j hj d hd ho => ?_, fun i o e hU j hj hne d hd ho => ?_, fun i o e hU j hj => ?_⟩
  · have := (each i o e).1.1.2
    rw [hs] at this
    simp at this
  · have := (each i o e).2
    rw [if_pos hU, List.all_eq_true] at this
    have := this j (List.mem_range.2 hj)
    rw [hd] at this
    simp only [Bool.and_eq_true, Bool.or_eq_true, Bool.not_eq_true'] at this
    rcases this.1 with h2 | h2
    · have h3 : (o.looksAt ops).contains d = true := by simpa using ho
      rw [h3] at h2
      cases h2
    · simpa using h2
  · have := (each i o e).2
    rw [if_pos hU, List.all_eq_true] at this
    have := this j (List.mem_range.2 hj)
    rw [hd] at this
    simp only [Bool.and_eq_true, Bool.or_eq_true] at this
    rcases this.2 with h2 | h2
    · exact hne (by simpa using h2)
    · rw [ho] at h2
      simp at h2
  · have := (each i o e).2
    rw [if_neg (by omega), List.all_eq_true] at this
    exact this j (List.mem_range.2 hj)
theorem under_listed {l : Nat → Bool} (hc : ∀ (i : Nat) (o : Oper), ops[i]? = some o → l i = true → ∀ j ∈ edgesOf o, l j = true) : ∀ (f i j : Nat) (o : Oper), ops[i]? = some o → (∀ m ∈ edgesOf o, l m = true) → under ops f i j = true → l j = true
  | 0, i, j, o, _, _, h => by simp [under] at h
  | f + 1, i, j, o, ho, hm, h => by
    unfold under at h
    rw [ho] at h
    simp only [List.any_eq_true, Bool.or_eq_true, beq_iff_eq] at h
    obtain ⟨m, hme, h⟩ := h
    rcases h with rfl | h
    · exact hm m hme
    · cases hom : ops[m]? with
      | none =>
        cases f with
        | zero => simp [under] at h
        | succ f => unfold under at h; rw [hom] at h; simp at h
      | some om => exact under_listed hc f m j om hom (hc m om hom (hm m hme)) h

/-- How many of the first are listed. -/
def cntTo (l : Nat → Bool) : Nat → Nat
  | 0 => 0
  | k + 1 => cntTo l k + (if l k then 1 else 0)
theorem cntTo_le (l : Nat → Bool) (k : Nat) : cntTo l k ≤ k := by
  induction k with
  | zero => exact Nat.le_refl _
  | succ k ih => unfold cntTo; split <;> omega
theorem cntTo_upd_out (l : Nat → Bool) (i k : Nat) (h : k ≤ i) : cntTo (upd l i true) k = cntTo l k := by
  induction k with
  | zero => rfl
  | succ k ih =>
    have e : upd l i true k = l k := by unfold upd; rw [if_neg (by omega)]
    unfold cntTo
    rw [ih (by omega), e]
theorem cntTo_upd (l : Nat → Bool) (i k : Nat) (hi : i < k) (hl : l i = false) : cntTo (upd l i true) k = cntTo l k + 1 := by
  induction k with
  | zero => omega
  | succ k ih =>
    unfold cntTo
    by_cases h : k = i
    · subst h
      rw [cntTo_upd_out l k k (Nat.le_refl _), hl]
      simp [upd]
    · have e : upd l i true k = l k := by unfold upd; rw [if_neg h]
      rw [ih (by omega), e]
      omega
theorem cntTo_all (l : Nat → Bool) (k : Nat) (h : ∀ j, j < k → l j = true) : cntTo l k = k := by
  induction k with
  | zero => rfl
  | succ k ih =>
    unfold cntTo
    rw [ih (fun j hj => h j (by omega)), h k (by omega)]
    simp
theorem exists_least (l : Nat → Bool) : ∀ k, (∃ j, j < k ∧ l j = false) → ∃ i, i < k ∧ l i = false ∧ ∀ j, j < i → l j = true
  | 0, ⟨j, hj, _⟩ => by omega
  | k + 1, ⟨j, hj, hl⟩ => by
    by_cases h : ∃ j, j < k ∧ l j = false
    · obtain ⟨i, hi, h1, h2⟩ := exists_least l k h
      exact ⟨i, by omega, h1, h2⟩
    · refine ⟨j, hj, hl, fun m hm => ?_⟩
      cases hlm : l m with
      | true => rfl
      | false => exact absurd ⟨m, by omega, hlm⟩ h

/-- The first U are listed. -/
def listedU (n U : Nat) : Array Bool := (Array.range n).map fun i => decide (i < U)

theorem grow_walk {U : Nat} (hk : GrowOk ops U) (a : Act) (w0 : World) (E : World → World → Prop) (hEt : ∀ x y z, E x y → E y z → E x z)
    (F : Nat → Value → World → Prop) (hst : ∀ i v x y, E x y → F i v x → F i v y) (Sep : Nat → Value → Nat → Value → Prop)
    (hU : ∀ (i : Nat) (o : Oper), ops[i]? = some o → i < U → ∀ vs w1, E w0 w1 → (∀ j, j < U → j ∈ edgesOf o → F j (vs j) w1) → Gives P o (actsTo ops a (fun _ => true) vs U).eval w1 fun v w2 => E w1 w2 ∧ F i v w2 ∧ ∀ j u, j < U → F j u w1 → Sep j u i v)
    (hrest : ∀ vs w1, E w0 w1 → (∀ i, i < U → F i (vs i) w1) → (∀ i j, i < U → j < U → i ≠ j → Sep i (vs i) j (vs j) ∨ Sep j (vs j) i (vs i)) → wpAny P .any ops Q (ops.size - U) (listedU ops.size U) (actsTo ops a (fun _ => true) vs U) w1) :
    ∀ (fuel : Nat) (L : Array Bool) (l : Nat → Bool) (vs : Nat → Value) (w1 : World), L.size = ops.size → (∀ i, i < ops.size → L.getD i false = l i) → (∀ i, U ≤ i → l i = false) → (∀ (i : Nat) (o : Oper), ops[i]? = some o → l i = true → ∀ j ∈ edgesOf o, l j = true) →
      fuel + cntTo l U = ops.size → E w0 w1 → (∀ i, i < U → l i = true → F i (vs i) w1) → (∀ i j, i < U → j < U → i ≠ j → l i = true → l j = true → Sep i (vs i) j (vs j) ∨ Sep j (vs j) i (vs i)) →
      wpAny P .any ops Q fuel L (actsTo ops a l vs U) w1 := by
  intro fuel
  induction fuel with
  | zero =>
    intro L l vs w1 hL hl hlU hcl hf hE hF hS
    have hle := cntTo_le l U
    have hUn : U = ops.size := by have := hk.le; omega
    have hall : ∀ j, j < U → l j = true := by
      intro j hj
      cases h : l j with
      | true => rfl
      | false =>
        have h1 := cntTo_upd l j U hj h
        have h2 := cntTo_le (upd l j true) U
        omega
    have e1 : actsTo ops a l vs U = actsTo ops a (fun _ => true) vs U := actsTo_congr a U fun j hj => ⟨hall j hj, rfl⟩
    have e2 : L = listedU ops.size U := by
      apply Array.ext
      · simp [listedU, hL]
      · intro i h1 h2
        have := hl i (by omega)
        rw [hall i (by omega)] at this
        simp only [Array.getD_eq_getD_getElem?, Array.getElem?_eq_getElem h1, Option.getD_some] at this
        rw [this]
        simp [listedU]
        omega
    have := hrest vs w1 hE (fun i hi => hF i hi (hall i hi)) (fun i j hi hj hn => hS i j hi hj hn (hall i hi) (hall j hj))
    rw [e1, e2]
    rwa [show ops.size - U = 0 by omega] at this
  | succ fuel ih =>
    intro L l vs w1 hL hl hlU hcl hf hE hF hS
    have hle := cntTo_le l U
    by_cases hall : ∀ j, j < U → l j = true
    · have e1 : actsTo ops a l vs U = actsTo ops a (fun _ => true) vs U := actsTo_congr a U fun j hj => ⟨hall j hj, rfl⟩
      have e2 : L = listedU ops.size U := by
        apply Array.ext
        · simp [listedU, hL]
        · intro i h1 h2
          have := hl i (by omega)
          simp only [Array.getD_eq_getD_getElem?, Array.getElem?_eq_getElem h1, Option.getD_some] at this
          rw [this]
          by_cases hi : i < U
          · rw [hall i hi]; simp [listedU, hi]
          · rw [hlU i (by omega)]; simp [listedU, hi]
      have := hrest vs w1 hE (fun i hi => hF i hi (hall i hi)) (fun i j hi hj hn => hS i j hi hj hn (hall i hi) (hall j hj))
      have hc := cntTo_all l U hall
      rw [e1, e2]
      rwa [show ops.size - U = fuel + 1 by omega] at this
    · have hex : ∃ j, j < U ∧ l j = false := by
        refine Classical.byContradiction fun hn => hall fun j hj => ?_
        cases h : l j with
        | true => rfl
        | false => exact absurd ⟨j, hj, h⟩ hn
      have getT : ∀ i, i < ops.size → L.getD i true = l i := fun i hi => by
        rw [← hl i hi]
        simp [Array.getD_eq_getD_getElem?, Array.getElem?_eq_getElem (show i < L.size by omega)]
      refine ⟨fun h0 => ?_, fun i hi => ?_⟩
      · obtain ⟨i, hi, h1, h2⟩ := exists_least l U hex
        have hin : i < ops.size := by have := hk.le; omega
        have ho : ops[i]? = some ops[i] := Array.getElem?_eq_getElem hin
        have : i ∈ Region.ready .any ops L := mem_ready.2 ⟨by rw [getT i hin]; exact h1, ops[i], ho, fun e he hb => by
          have hd := hk.down i _ ho e.on (List.mem_map.2 ⟨e, List.mem_filter.2 ⟨by simpa using he, hb⟩, rfl⟩)
          rw [hl e.on (by omega)]
          exact h2 e.on hd⟩
        rw [h0] at this
        cases this
      · obtain ⟨h1, o, ho, h2⟩ := mem_ready.1 hi
        have hin : i < ops.size := (Array.getElem?_eq_some_iff.1 ho).1
        rw [getT i hin] at h1
        have hed : ∀ j ∈ edgesOf o, l j = true := fun j hj => by
          obtain ⟨e, he, rfl⟩ := List.mem_map.1 hj
          obtain ⟨he1, he2⟩ := List.mem_filter.1 he
          have hd := hk.down i o ho e.on hj
          rw [← hl e.on (by omega)]
          exact h2 e (by simpa using he1) he2
        have hiU : i < U := by
          refine Classical.byContradiction fun hn => ?_
          obtain ⟨j, hj, hlj⟩ := hex
          have := under_listed hcl ops.size i j o ho hed (hk.late i o ho (by omega) j hj)
          rw [this] at hlj
          cases hlj
        unfold wpOp
        rw [ho]
        simp only [Region.wanted, hk.guard i o ho, if_true]
        refine .inl ?_
        have hev : ∀ x ∈ o.op.operands, (actsTo ops a l vs U).eval x = (actsTo ops a (fun _ => true) vs U).eval x := fun x hx =>
          actsTo_eval a l vs U x fun j hj t ht hd => hed j (hk.look i o ho hiU j hj t hd (List.mem_append_left _ (List.mem_filterMap.2 ⟨.tmp t, by subst ht; simpa using hx, rfl⟩)))
        have hg := hU i o ho hiU vs w1 hE (fun j hj hje => hF j hj (hed j hje))
        have hg2 : Gives P o (actsTo ops a l vs U).eval w1 fun v w2 => E w1 w2 ∧ F i v w2 ∧ ∀ j u, j < U → F j u w1 → Sep j u i v := by
          have hg := hg.out
          refine ⟨?_⟩
          unfold GivesM at hg ⊢
          rw [execOp_congr o (hk.sel i o ho) hev]
          exact hg
        refine hg2.wp fun v w2 ⟨hE2, hF2, hS2⟩ => ?_
        have hdst : dstOf ops i = o.dst := by simp [dstOf, ho]
        rw [← hdst, ← actsTo_set a l vs i v h1 U hiU (fun k hk2 hne d hd hd2 => hk.dst i o ho hiU k hk2 hne d hd2 (by rw [← hdst]; exact hd))]
        refine ih _ (upd l i true) (upd vs i v) w2 (by simpa using hL) ?_ ?_ ?_ ?_ (hEt _ _ _ hE hE2) ?_ ?_
        · intro m hm
          unfold upd
          by_cases h : m = i
          · subst h
            rw [if_pos rfl]
            simp [Array.getD_eq_getD_getElem?, show m < L.size by omega]
          · rw [if_neg h, getD_set_ne false (Ne.symm h)]
            exact hl m hm
        · intro m hm
          unfold upd
          rw [if_neg (by omega)]
          exact hlU m hm
        · intro m om hom hlm j hj
          by_cases h : m = i
          · subst h
            rw [ho] at hom
            cases hom
            unfold upd
            split
            · rfl
            · exact hed j hj
          · unfold upd at hlm ⊢
            rw [if_neg h] at hlm
            split
            · rfl
            · exact hcl m om hom hlm j hj
        · rw [cntTo_upd l i U hiU h1]
          omega
        · intro m hm hlm
          by_cases h : m = i
          · subst h
            unfold upd
            rw [if_pos rfl]
            exact hF2
          · unfold upd at hlm ⊢
            rw [if_neg h] at hlm ⊢
            exact hst m _ _ _ hE2 (hF m hm hlm)
        · intro m j hm hj hne hlm hlj
          by_cases h : m = i
          · subst h
            have hjm : j ≠ m := Ne.symm hne
            unfold upd at hlj ⊢
            rw [if_neg hjm] at hlj ⊢
            rw [if_pos rfl]
            exact .inr (hS2 j _ hj (hF j hj hlj))
          · by_cases h' : j = i
            · subst h'
              unfold upd at hlm ⊢
              rw [if_neg h] at hlm ⊢
              rw [if_pos rfl]
              exact .inl (hS2 m _ hm (hF m hm hlm))
            · unfold upd at hlm hlj ⊢
              rw [if_neg h] at hlm ⊢
              rw [if_neg h'] at hlj ⊢
              exact hS m j hm hj hne hlm hlj

/-- THE LAW. -/
theorem region_grow {id : Nat} (U : Nat) {a : Act} {w : World} (hm : P.follows .mixedOrders = true) (hk : growOk ops U = true) (E : World → World → Prop) (hEr : E w w.drew) (hEt : ∀ x y z, E x y → E y z → E x z)
    (F : Nat → Value → World → Prop) (hst : ∀ i v x y, E x y → F i v x → F i v y) (Sep : Nat → Value → Nat → Value → Prop)
    (hU : ∀ (i : Nat) (o : Oper), ops[i]? = some o → i < U → ∀ vs w1, E w w1 → (∀ j, j < U → j ∈ edgesOf o → F j (vs j) w1) → Gives P o (actsTo ops a (fun _ => true) vs U).eval w1 fun v w2 => E w1 w2 ∧ F i v w2 ∧ ∀ j u, j < U → F j u w1 → Sep j u i v)
    (hrest : ∀ vs w1, E w w1 → (∀ i, i < U → F i (vs i) w1) → (∀ i j, i < U → j < U → i ≠ j → Sep i (vs i) j (vs j) ∨ Sep j (vs j) i (vs i)) → wpAny P .any ops Q (ops.size - U) (listedU ops.size U) (actsTo ops a (fun _ => true) vs U) w1) :
    (Code.region id ops true).wp P Q a w := by
  refine wp_region_any hm ?_
  have hg := growOk_spec hk
  have h0 : actsTo ops a (fun _ => false) (fun _ => undef) U = a := by
    have : ∀ k, actsTo ops a (fun _ => false) (fun _ => undef) k = a := by
      intro k
      induction k with
      | zero => rfl
      | succ k ih => unfold actsTo; simpa using ih
    exact this U
  have hc0 : cntTo (fun _ => false) U = 0 := by
    have : ∀ k, cntTo (fun _ => false) k = 0 := by
      intro k
      induction k with
      | zero => rfl
      | succ k ih => unfold cntTo; simpa using ih
    exact this U
  have := grow_walk (Q := Q) hg a w E hEt F hst Sep hU hrest ops.size (Array.replicate ops.size false) (fun _ => false) (fun _ => undef) w.drew (by simp) (fun i hi => by simp [hi]) (fun _ _ => rfl) (fun _ _ _ h => by cases h)
    (by omega) hEr (fun _ _ h => by cases h) (fun _ _ _ _ _ h => by cases h)
  rwa [h0] at this
end
end
section
open Go Go.RowKit

theorem zeroCells_bytes (m : Nat) : (Builtin.zeroCells #[Value.int .u8 0] m).toList = bcells (List.replicate m 0) := by
  apply List.ext_getElem
  · simp [Builtin.zeroCells, bcells]
  · intro i h1 h2
    simp [Builtin.zeroCells, bcells, Nat.mod_one]

set_option maxRecDepth 100000 in
theorem run_append_zeros (w : World) (base g n cap m : Nat) (xs : List UInt8) (ty : TypeId) (hown : w.ownsRow base 5 1 (.slice (some ⟨g, 0, none⟩) n cap) n (bcells xs)) (hm : 0 < m) (hnm : n + m ≤ 1000000) (hbase : base ≤ w.heap.size) :
    ∃ v' w', (Builtin.append_ #[22, 3] ty #[.slice (some ⟨g, 0, none⟩) n cap, .int .i64 (m : Int)]).run Tryd.prog w = .ok v' w' ∧ w'.ownsRow base 5 1 v' (n + m) (bcells (xs ++ List.replicate m 0)) ∧ w.grownBy w' (some g) := by
  obtain ⟨i, hi, hz, hz1, hz2⟩ := info_parts Tryd.infoU8
  have hl : xs.length = n := by have := hown.1; rw [bcells_length] at this; omega
  have hlen : (bcells (xs ++ List.replicate m 0)).length = (n + m) * 1 := by rw [bcells_length, List.length_append, List.length_replicate]; omega
  have hw : IntKind.i64.wrap (m : Int) = m := by rw [IntKind.wrap_i64]; omega
  have hneg : ¬ ((m : Int) < 0) := by omega
  have hm0 : ¬ m = 0 := by omega
  have h48i : ¬ (281474976710656 < (m : Int)) := by omega
  rcases hown.2 with ⟨h, _⟩ | ⟨g', cap', cur, e, hbg, hg, hnc, hcm, hcs, htake⟩
  · cases h
  · cases e
    by_cases hroom : n + m ≤ cap
    · have hfit : n * 1 + (bcells (List.replicate m 0)).length ≤ cur.size := by rw [bcells_length, List.length_replicate, hcs]; omega
      have hst := run_storeCells_at Tryd.prog g (n * 1) 5 (bcells (List.replicate m 0)) 0 cur w hg (by simpa using hfit) bcells_one
      simp only [Nat.add_zero, Nat.mul_one] at hst
      refine ⟨.slice (some ⟨g, 0, none⟩) (n + m) cap, w.setRow g (cur.toList.take n ++ bcells (List.replicate m 0) ++ cur.toList.drop (n + (bcells (List.replicate m 0)).length)).toArray, ?_, ⟨hlen, .inr ⟨g, cap, _, rfl, hbg, setRow_heap w g cur _ _ _ hg, hroom, hcm, ?_, ?_⟩⟩, ⟨rfl, rfl, rfl, by simp, fun k _ hk => setRow_other w g k _ (fun e => hk (by rw [e]))⟩⟩
      · simp [Builtin.append_, run_underlying Tryd.underlying22, run_underlying Tryd.underlying3, sizeOf, typeInfo, zeroValue, hi, hz, hz1, hz2, asInt, asIntOf, hw, hneg, hm0, h48i, hroom, Addr.add_lit]
        rw [show (Value.int IntKind.u8 0).cells = #[Value.int .u8 0] from rfl, zeroCells_bytes, hst]
        simp [List.append_assoc]
      · simp only [List.size_toArray, List.length_append, List.length_take, List.length_drop, Array.length_toList, bcells_length, List.length_replicate]
        omega
      · simp only [Nat.mul_one] at htake ⊢
        rw [htake, bcells_append]
        have : (bcells xs ++ bcells (List.replicate m 0)).length = n + m := by simp [bcells_length, hl]
        rw [← this]
        exact List.take_left
    · have holds : ∀ j u, (bcells xs)[j]? = some u → w.cell? ((⟨g, 0, none⟩ : Addr).add j) = some u := hown.cells (g := g) rfl
      have hold := run_firstCells_some (P := Tryd.prog) w.drew 1 n ⟨g, 0, none⟩ n cap (bcells xs) hown.1 (by simpa using holds)
      have hfit : Builtin.nextslicecap (n + m) cap * 1 ≤ 281474976710656 := growslice_fits (by omega) (by omega)
      have h48' : ¬ (281474976710656 < Builtin.nextslicecap (n + m) cap) := by omega
      have h63' : ¬ (9223372036854775807 < ((n : Int) + (m : Int))) := by omega
      have hge := grownCap_ge w (n + m) cap 5
      have hcm : grownCap w (n + m) cap 5 ≤ maxLen := grownCap_le_maxLen w (n + m) cap _ (by unfold maxLen; omega)
      refine ⟨.slice (some ⟨w.heap.size, 0, none⟩) (n + m) (grownCap w (n + m) cap 5), w.drew.alloc (.cells ((bcells (xs ++ List.replicate m 0)).toArray ++ Builtin.zeroCells #[Value.int .u8 0] (grownCap w (n + m) cap 5 - (n + m))) 5), ?_, ⟨hlen, .inr ⟨w.heap.size, _, _, rfl, hbase, heap_alloc_new w.drew _, hge, hcm, ?_, ?_⟩⟩, ⟨rfl, rfl, rfl, by simp, fun k hk _ => Below.heap_alloc w.drew _ k hk⟩⟩
      · simp [Builtin.append_, run_underlying Tryd.underlying22, run_underlying Tryd.underlying3, sizeOf, typeInfo, zeroValue, hi, hz, hz1, hz2, asInt, asIntOf, hw, hneg, hm0, h48i, hroom, h48', h63', Question.forced, hold, newRow, grownCap]
        rw [show (Value.int IntKind.u8 0).cells = #[Value.int .u8 0] from rfl, bcells_append, ← zeroCells_bytes m, ← Array.append_assoc]
        congr 2
        congr 1
        apply Array.ext'
        simp
      · simp only [Array.size_append, List.size_toArray, size_zeroCells, hlen]
        simp
        omega
      · simp only [Array.toList_append]
        rw [← hlen]
        exact List.take_left
end
end Go.Proofs.YtookapglookphaaDoor
