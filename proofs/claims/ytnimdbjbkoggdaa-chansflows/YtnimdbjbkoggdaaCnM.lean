/- A Mux in memory. -/
import Derived.Test.YtnimdbjbkoggdaaCnP
import Derived.Test.YtnimdbjbkoggdaaWxG
namespace Go.Proofs.Ytnimdbjbkoggdaa
open Go Go.RowKit

/-- The slice v holds xs in a block of its own, if in any. -/
def Held (w : World) (v : Value) (xs : List UInt8) : Prop :=
  (v = .slice none 0 0 ∧ xs = []) ∨
  ∃ h off cap cur, v = .slice (some ⟨h, off, none⟩) xs.length cap ∧ w.heap[h]? = some (.cells cur 5 (0, 0)) ∧ off + cap ≤ cur.size ∧ xs.length ≤ cap ∧ cap ≤ maxLen ∧ (cur.toList.drop off).take xs.length = bcells xs
theorem Held.nil (w : World) : Held w (.slice none 0 0) [] := .inl ⟨rfl, rfl⟩
theorem Held.keep {S : Nat → Prop} {w w' : World} {v : Value} {xs : List UInt8} (r : Held w v xs) (hk : Keeps S w w') (hn : ∀ k, v.ownBlock = some k → ¬ S k) : Held w' v xs := by
  rcases r with r | ⟨h, off, cap, cur, rfl, h2, h3⟩
  · exact .inl r
  · exact .inr ⟨h, off, cap, cur, rfl, (hk.block h (lt_of_block h2) (hn h rfl)).trans h2, h3⟩
theorem Held.len {w : World} {v : Value} {xs : List UInt8} (r : Held w v xs) : ∃ ao cap, v = .slice ao xs.length cap := by
  rcases r with ⟨rfl, rfl⟩ | ⟨h, off, cap, cur, rfl, _⟩
  · exact ⟨none, 0, rfl⟩
  · exact ⟨_, _, rfl⟩
theorem Held.lt {w : World} {v : Value} {xs : List UInt8} (r : Held w v xs) : ∀ k, v.ownBlock = some k → k < w.heap.size := by
  rcases r with ⟨rfl, rfl⟩ | ⟨h, off, cap, cur, rfl, h2, _⟩
  · intro k e
    simp [Value.ownBlock] at e
  · intro k e
    simp [Value.ownBlock] at e
    subst e
    exact lt_of_block h2
theorem Held.bsl {w : World} {v : Value} {xs : List UInt8} (r : Held w v xs) : BSl w v xs := by
  rcases r with ⟨rfl, rfl⟩ | ⟨h, off, cap, cur, rfl, h2, h3, h4, h5, h6⟩
  · exact bsl_none w
  · refine ⟨_, cap, rfl, h4, h5, (fun e => by cases e), fun ad e _ => ⟨h, off, by cases e; rfl, fun j u hu => ?_⟩⟩
    rw [cell_row (cs := cur.toList) (by simpa using h2)]
    rw [← h6, List.getElem?_take, List.getElem?_drop] at hu
    split at hu
    · exact hu
    · cases hu
theorem Held.ofOwns {w : World} {base : Nat} {v : Value} {n : Nat} {xs : List UInt8} (h : w.ownsRow base 5 1 v n (bcells xs)) (hn : n = xs.length) : Held w v xs := by
  subst hn
  rcases h.2 with ⟨rfl, h1⟩ | ⟨k, cap, cur, rfl, h1, h2, h3, h4, h5, h6⟩
  · exact .inl ⟨rfl, List.eq_nil_of_length_eq_zero h1⟩
  · exact .inr ⟨k, 0, cap, cur, rfl, h2, by omega, h3, h4, by simpa using h6⟩
/-- What stands behind the first k bytes. -/
theorem Held.drop {w : World} {ao : Option Addr} {cap : Nat} {xs : List UInt8} (r : Held w (.slice ao xs.length cap) xs) (k : Nat) (hk : k ≤ xs.length) :
    (k < cap → Held w (.slice (Option.map (fun x => x.add k) ao) (xs.length - k) (cap - k)) (xs.drop k)) ∧ (¬ k < cap → Held w (.slice ao 0 0) (xs.drop k)) := by
  rcases r with ⟨h1, rfl⟩ | ⟨h, off, cap', cur, h1, h2, h3, h4, h5, h6⟩
  · cases h1
    simp at hk
    subst hk
    exact ⟨fun h => by omega, fun _ => .inl ⟨rfl, rfl⟩⟩
  · cases h1
    refine ⟨fun hc => .inr ⟨h, off + k, cap - k, cur, by rw [List.length_drop]; simp [add_lit'], h2, by omega, by simp; omega, by omega, ?_⟩, fun hc => ?_⟩
    · rw [← List.drop_drop, List.length_drop]
      have : (bcells xs).drop k = bcells (xs.drop k) := by simp [bcells, List.map_drop]
      rw [← this, ← h6, List.drop_take]
    · have : xs.length = k := by omega
      refine .inr ⟨h, off, 0, cur, by simp [this], h2, by omega, by simp [this], by simp [maxLen], ?_⟩
      simp [← this, bcells]
theorem run_append_held (w : World) {v : Value} {xs : List UInt8} (r : Held w v xs) (ty tx : TypeId) (x : Value) (ys : List UInt8) (hs : Src Try.prog 1 tx x ys.length (bcells ys) w) (hl : xs.length + ys.length ≤ 1000000) :
    ∃ v' w', (Builtin.append_ #[30, tx] ty #[v, x]).run Try.prog w = .ok v' w' ∧ Held w' v' (xs ++ ys) ∧ Keeps (fun k => v.ownBlock = some k) w w' ∧ (v'.ownBlock = v.ownBlock ∨ ∀ k, v'.ownBlock = some k → w.heap.size ≤ k) := by
  obtain ⟨i0, hi, hz0, hz1, hz2⟩ := info_parts Try.infoU8
  have ht := Try.underlying30
  rcases r with ⟨rfl, rfl⟩ | ⟨h, off, cap, cur, rfl, h2, h3, h4, h5, h6⟩
  · obtain ⟨v', w', hr, ho, hgr, _⟩ := run_append_src (P := Try.prog) w w.heap.size 30 tx ty 5 i0 _ 1 ht hi hz0 hz1 hz2 rfl (.slice none 0 0) 0 [] (World.ownsRow_nil _ _ _ _) x ys.length (bcells ys) hs (by unfold maxLen; simp at hl; omega) (by simp at hl; omega) (Nat.le_refl _)
    rw [List.nil_append] at ho
    refine ⟨v', w', hr, by simpa using Held.ofOwns ho (by omega), ⟨hgr.os, hgr.tape, hgr.output, hgr.size, fun k hk _ => hgr.block k hk (by simp [Value.ownBlock])⟩, .inr fun k e => (ho.lt k e).1⟩
  · have hone : i0.size = 1 := hz1
    have hnl : (bcells ys).length = ys.length := bcells_length ys
    have hsi : Src Try.prog i0.size tx x ys.length (bcells ys) w := by rw [hone]; exact hs
    by_cases hroom : xs.length + ys.length ≤ cap
    · have hfit : (off + xs.length) + (bcells ys).length ≤ cur.size := by rw [hnl]; omega
      have hst := run_storeCells_at Try.prog h (off + xs.length) 5 (bcells ys) 0 cur w h2 (by simpa using hfit) hs.one
      simp only [Nat.add_zero] at hst
      have hr : (Builtin.append_ #[30, tx] ty #[.slice (some ⟨h, off, none⟩) xs.length cap, x]).run Try.prog w = .ok (.slice (some ⟨h, off, none⟩) (xs.length + ys.length) cap) (w.setRow h (cur.toList.take (off + xs.length) ++ bcells ys ++ cur.toList.drop (off + xs.length + (bcells ys).length)).toArray) := by
        rcases hs.kind with ⟨e', hk⟩ | hk <;> simp [Builtin.append_, run_underlying ht, run_underlying hk, sizeOf, typeInfo, hi, hs.len, hroom, hs.cells, add_lit', hone, hst]
      refine ⟨_, _, hr, .inr ⟨h, off, cap, _, by rw [List.length_append], setRow_heap w h cur _ 5 _ h2, ?_, by rw [List.length_append]; exact hroom, h5, ?_⟩, ?_, .inl (ownBlock_any _ _ _ _ _)⟩
      · simp only [List.size_toArray, List.length_append, List.length_take, List.length_drop, Array.length_toList]
        omega
      · have hA : (cur.toList.take (off + xs.length)).drop off = bcells xs := by rw [← h6, List.drop_take, Nat.add_sub_cancel_left]
        have hAl : (cur.toList.take (off + xs.length)).length = off + xs.length := by simp; omega
        rw [List.append_assoc, List.drop_append, hA, hAl, show off - (off + xs.length) = 0 by omega, List.drop_zero, ← List.append_assoc, ← bcells_append]
        rw [← bcells_length (xs ++ ys)]
        exact List.take_left
      · exact ⟨rfl, rfl, rfl, by simp, fun k _ hn => setRow_other w h k _ (fun e => hn (by rw [e]; rfl))⟩
    · have hcell : ∀ (j : Nat) (u : Value), (bcells xs)[j]? = some u → w.cell? ((⟨h, off, none⟩ : Addr).add j) = some u := by
        intro j u hu
        rw [add_lit', cell_row (cs := cur.toList) (by simpa using h2)]
        rw [← h6, List.getElem?_take, List.getElem?_drop] at hu
        split at hu
        · exact hu
        · cases hu
      have hold := run_firstCells_some (P := Try.prog) w.drew i0.size xs.length ⟨h, off, none⟩ xs.length cap (bcells xs) (by rw [hone, bcells_length]; omega) (by simpa using hcell)
      have hr := run_append_grow_src (P := Try.prog) w 30 tx ty 5 i0 (.int .u8 0) ht hi hz0 (some ⟨h, off, none⟩) xs.length cap (bcells xs) hold x ys.length (bcells ys) hsi (by omega) (by omega) (growslice_fits (by omega) (by rw [hz2]; omega))
      have hge := grownCap_ge w (xs.length + ys.length) cap 5
      have hcm : grownCap w (xs.length + ys.length) cap 5 ≤ maxLen := grownCap_le_maxLen w (xs.length + ys.length) cap _ (by unfold maxLen; omega)
      refine ⟨_, _, hr, .inr ⟨w.heap.size, 0, _, _, by rw [List.length_append], heap_alloc_new w.drew _, ?_, ?_, hcm, ?_⟩, ?_, .inr (fun k e => by simp [Value.ownBlock] at e; omega)⟩
      · simp only [Array.size_append, List.size_toArray, size_zeroCells, List.length_append, bcells_length]
        simp [Value.cells]
        omega
      · rw [List.length_append]; exact hge
      · rw [← bcells_append]
        simp only [Array.toList_append, List.drop_zero]
        rw [← bcells_length (xs ++ ys)]
        exact List.take_left
      · exact ⟨rfl, rfl, rfl, by simp, fun k hk _ => Below.heap_alloc w.drew _ k hk⟩

/-- The cells of channel i. -/
def pcells (i : Nat) (oc : Option Ch) (v : Value) : List Value :=
  match oc with
  | none => [.bool false, .bool false, .bool false, .bool false, .int .i64 0, .int .u32 0, .complex .f64 0 0, .complex .f64 0 0, .slice none 0 0]
  | some c => [.bool true, .bool c.od, .bool c.en, .bool c.cl, .int .i64 i, .int .u32 c.th, .complex .f64 (nb c.wl) (nb c.wm), .complex .f64 (nb c.ol) (nb 32768), v]
theorem pcells_length (i : Nat) (oc : Option Ch) (v : Value) : (pcells i oc v).length = 9 := by cases oc <;> rfl
def mcells (cs : List (Option Ch)) (vs : List Value) (d : Bool) : List Value :=
  pcells 0 (cs.getD 0 none) (vs.getD 0 undef) ++ (pcells 1 (cs.getD 1 none) (vs.getD 1 undef) ++ (pcells 2 (cs.getD 2 none) (vs.getD 2 undef) ++ (pcells 3 (cs.getD 3 none) (vs.getD 3 undef) ++ [.bool d])))
/-- One channel's cells among the others'. -/
theorem mcells_at (cs : List (Option Ch)) (vs : List Value) (d : Bool) (hc : cs.length = 4) (hv : vs.length = 4) (i : Nat) (hi : i < 4) :
    ∃ A Z, A.length = 9 * i ∧ mcells cs vs d = A ++ pcells i (cs.getD i none) (vs.getD i undef) ++ Z ∧ ∀ oc v, mcells (cs.set i oc) (vs.set i v) d = A ++ pcells i oc v ++ Z := by
  match cs, hc, vs, hv with
  | [c0, c1, c2, c3], _, [v0, v1, v2, v3], _ =>
    match i, hi with
    | 0, _ => exact ⟨[], pcells 1 c1 v1 ++ (pcells 2 c2 v2 ++ (pcells 3 c3 v3 ++ [.bool d])), rfl, rfl, fun oc v => rfl⟩
    | 1, _ => exact ⟨pcells 0 c0 v0, pcells 2 c2 v2 ++ (pcells 3 c3 v3 ++ [.bool d]), by rw [pcells_length], by simp [mcells], fun oc v => by simp [mcells]⟩
    | 2, _ => exact ⟨pcells 0 c0 v0 ++ pcells 1 c1 v1, pcells 3 c3 v3 ++ [.bool d], by simp [pcells_length], by simp [mcells], fun oc v => by simp [mcells]⟩
    | 3, _ => exact ⟨pcells 0 c0 v0 ++ (pcells 1 c1 v1 ++ pcells 2 c2 v2), [.bool d], by simp [pcells_length], by simp [mcells], fun oc v => by simp [mcells]⟩
theorem mcells_dead (cs : List (Option Ch)) (vs : List Value) : ∃ A, A.length = 36 ∧ ∀ d', mcells cs vs d' = A ++ [.bool d'] :=
  ⟨pcells 0 (cs.getD 0 none) (vs.getD 0 undef) ++ (pcells 1 (cs.getD 1 none) (vs.getD 1 undef) ++ (pcells 2 (cs.getD 2 none) (vs.getD 2 undef) ++ pcells 3 (cs.getD 3 none) (vs.getD 3 undef))), by simp [pcells_length], fun d' => by simp [mcells]⟩

/-- The Mux at block a; what waits lies in blocks of P. -/
structure MX (w : World) (P : Nat → Prop) (a : Nat) (S : MS) : Prop where
  ex : ∃ vs : List Value, vs.length = 4 ∧ w.heap[a]? = some (.cells (mcells S.cs vs S.dead).toArray 61 (0, 0)) ∧
    (∀ i c, S.cs.getD i none = some c → Held w (vs.getD i undef) c.wt) ∧ (∀ i k, i < 4 → (vs.getD i undef).ownBlock = some k → P k) ∧
    ∀ i j k, i < 4 → j < 4 → i ≠ j → (vs.getD i undef).ownBlock = some k → (vs.getD j undef).ownBlock ≠ some k
  na : ¬ P a
  lt : ∀ k, P k → k < w.heap.size
theorem MX.aLt {w : World} {P : Nat → Prop} {a : Nat} {S : MS} (h : MX w P a S) : a < w.heap.size := by
  obtain ⟨vs, _, h1, _⟩ := h.ex
  exact lt_of_block h1
theorem MX.keep {T : Nat → Prop} {w w' : World} {P : Nat → Prop} {a : Nat} {S : MS} (h : MX w P a S) (hk : Keeps T w w') (ha : ¬ T a) (hT : ∀ k, P k → ¬ T k) : MX w' P a S := by
  have hlt := h.aLt
  obtain ⟨⟨vs, h0, h1, h2, h3, h4⟩, h5, h6⟩ := h
  refine ⟨⟨vs, h0, (hk.block a hlt ha).trans h1, fun i c e => ?_, h3, h4⟩, h5, fun k e => Nat.lt_of_lt_of_le (h6 k e) hk.size⟩
  by_cases hi : i < 4
  · exact (h2 i c e).keep hk (fun k hk => hT k (h3 i k hi hk))
  · have : vs.getD i undef = undef := by simp [List.getD_eq_getElem?_getD, List.getElem?_eq_none (show vs.length ≤ i by omega)]
    have hh := h2 i c e
    rw [this] at hh ⊢
    exact hh.keep hk (fun k hk => by simp [Value.ownBlock, undef] at hk)
theorem MX.still {w w' : World} {P : Nat → Prop} {a : Nat} {S : MS} (h : MX w P a S) (hk : Keeps (fun _ => False) w w') : MX w' P a S := h.keep hk (fun h => h) (fun _ _ h => h)
theorem MX.fresh {w w' : World} {P : Nat → Prop} {a : Nat} {S : MS} (h : MX w P a S) (hb : Below w.heap.size w w') : MX w' P a S := h.still (Keeps.ofFresh hb)

/-- The payloads ls, in memory from B on. -/
def Lst (B : Nat) (w : World) (v : Value) (ls : List (List UInt8)) : Prop :=
  ∃ vs : List Value, vs.length = ls.length ∧ w.ownsRow B 30 1 v ls.length vs ∧ ∀ i, i < ls.length → BSl w (vs.getD i undef) (ls.getD i []) ∧ ∀ k, (vs.getD i undef).ownBlock = some k → B ≤ k ∧ k < w.heap.size ∧ v.ownBlock ≠ some k
theorem Lst.nil' (B : Nat) (w : World) : Lst B w (.slice none 0 0) [] := ⟨[], rfl, World.ownsRow_nil _ _ _ _, fun i hi => by simp at hi⟩
theorem Lst.keep {S : Nat → Prop} {B : Nat} {w w' : World} {v : Value} {ls : List (List UInt8)} (h : Lst B w v ls) (hk : Keeps S w w') (hS : ∀ k, S k → k < B) : Lst B w' v ls := by
  obtain ⟨vs, h1, h2, h3⟩ := h
  refine ⟨vs, h1, hk.row h2 (fun k e hs => by have := hS k hs; have := (h2.lt k e).1; omega), fun i hi => ⟨(h3 i hi).1.keep hk (fun k e hs => by have := hS k hs; have := ((h3 i hi).2 k e).1; omega), fun k e => ?_⟩⟩
  obtain ⟨k1, k2, k3⟩ := (h3 i hi).2 k e
  exact ⟨k1, Nat.lt_of_lt_of_le k2 hk.size, k3⟩
theorem ownsRow_mono {w : World} {B C : Nat} {e : TypeId} {s : Nat} {v : Value} {n : Nat} {xs : List Value} (h : w.ownsRow B e s v n xs) (hC : C ≤ B) : w.ownsRow C e s v n xs := by
  refine ⟨h.1, ?_⟩
  rcases h.2 with h | ⟨g, cap, cur, h1, h2, h3⟩
  · exact .inl h
  · exact .inr ⟨g, cap, cur, h1, Nat.le_trans hC h2, h3⟩
theorem Lst.mono {B C : Nat} {w : World} {v : Value} {ls : List (List UInt8)} (h : Lst B w v ls) (hC : C ≤ B) : Lst C w v ls := by
  obtain ⟨vs, h1, h2, h3⟩ := h
  exact ⟨vs, h1, ownsRow_mono h2 hC, fun i hi => ⟨(h3 i hi).1, fun k e => ⟨Nat.le_trans hC ((h3 i hi).2 k e).1, ((h3 i hi).2 k e).2⟩⟩⟩
theorem Lst.shape {B : Nat} {w : World} {v : Value} {ls : List (List UInt8)} (h : Lst B w v ls) : ∃ ao cap, v = .slice ao ls.length cap := by
  obtain ⟨vs, h1, h2, h3⟩ := h
  exact ownsRow_shape h2
theorem Lst.lt {B : Nat} {w : World} {v : Value} {ls : List (List UInt8)} (h : Lst B w v ls) : ∀ k, v.ownBlock = some k → B ≤ k ∧ k < w.heap.size := by
  obtain ⟨vs, h1, h2, h3⟩ := h
  exact fun k e => h2.lt k e
/-- A literal of one payload. -/
theorem Lst.one {B : Nat} {w w1 : World} {x : List UInt8} {u : Value} (ho : w1.ownsRow w.heap.size 5 1 u x.length (bcells x)) (hB : B ≤ w.heap.size) (hw : w.heap.size ≤ w1.heap.size) : Lst B (w1.alloc (.cells #[u] 30)) (.slice (some ⟨w1.heap.size, 0, none⟩) 1 1) [x] := by
  refine ⟨[u], rfl, World.ownsRow_lit w1 #[u] 1 (Nat.le_trans hB hw) (by simp [maxLen]) rfl, fun i hi => ?_⟩
  have : i = 0 := by simp at hi; omega
  subst this
  refine ⟨(BSl.ofRow ho).alloc _, fun k hk => ?_⟩
  have := ho.lt k hk
  exact ⟨Nat.le_trans hB this.1, by simp; omega, by simp [Value.ownBlock]; omega⟩
/-- Events, none or one, of type t, in memory from B on. -/
def Evs (t : TypeId) (B : Nat) (w : World) (v : Value) (es : List Ev) : Prop :=
  (es = [] ∧ v = .slice none 0 0) ∨ ∃ e g u, es = [e] ∧ v = .slice (some ⟨g, 0, none⟩) 1 1 ∧ w.heap[g]? = some (.cells #[.int .i64 e.kind, .int .i64 e.chan, u] t (0, 0)) ∧ BSl w u e.bytes ∧ B ≤ g ∧ ∀ k, u.ownBlock = some k → B ≤ k
theorem Evs.nil' (t : TypeId) (B : Nat) (w : World) : Evs t B w (.slice none 0 0) [] := .inl ⟨rfl, rfl⟩
theorem Evs.keep {t : TypeId} {S : Nat → Prop} {B : Nat} {w w' : World} {v : Value} {es : List Ev} (h : Evs t B w v es) (hk : Keeps S w w') (hS : ∀ k, S k → k < B) : Evs t B w' v es := by
  rcases h with h | ⟨e, g, u, e1, e2, h1, h2, h3, h4⟩
  · exact .inl h
  · exact .inr ⟨e, g, u, e1, e2, (hk.block g (lt_of_block h1) (fun h => by have := hS g h; omega)).trans h1, h2.keep hk (fun k hk h => by have := hS k h; have := h4 k hk; omega), h3, h4⟩
theorem Evs.mono {t : TypeId} {B C : Nat} {w : World} {v : Value} {es : List Ev} (h : Evs t B w v es) (hC : C ≤ B) : Evs t C w v es := by
  rcases h with h | ⟨e, g, u, e1, e2, h1, h2, h3, h4⟩
  · exact .inl h
  · exact .inr ⟨e, g, u, e1, e2, h1, h2, Nat.le_trans hC h3, fun k hk => Nat.le_trans hC (h4 k hk)⟩
theorem Evs.shape {t : TypeId} {B : Nat} {w : World} {v : Value} {es : List Ev} (h : Evs t B w v es) : ∃ ao cap, v = .slice ao es.length cap := by
  rcases h with ⟨rfl, rfl⟩ | ⟨e, g, u, rfl, rfl, _⟩
  · exact ⟨none, 0, rfl⟩
  · exact ⟨_, 1, rfl⟩
/-- What Do leaves. -/
def DPost (w : World) (P : Nat → Prop) (a : Nat) (r : MS × List (List UInt8) × List Ev) (e : Ending) (w' : World) : Prop :=
  ∃ u1 u2, e = .returned (.tuple #[u1, u2]) ∧ Lst w.heap.size w' u1 r.2.1 ∧ Evs 51 w.heap.size w' u2 r.2.2 ∧ MX w' P a r.1 ∧ Keeps (fun k => k = a) w w'
end Go.Proofs.Ytnimdbjbkoggdaa
