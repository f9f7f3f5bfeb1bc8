/- Bytes that are held: a row that may begin anywhere in its block; what append makes of it. -/
import Derived.Test.YthkaibkmpenclaaDoorPk1
namespace Go.Proofs.YthkaibkmpenclaaDoor
open Go Go.RowKit

/-- The slice hv holds xs, in block h of its own (h = g: in none). -/
def Row (w : World) (g h : Nat) (hv : Value) (xs : List UInt8) : Prop :=
  (hv = .slice none 0 0 ∧ xs = [] ∧ h = g) ∨
  (h ≠ g ∧ ∃ off cap cur, hv = .slice (some ⟨h, off, none⟩) xs.length cap ∧ w.heap[h]? = some (.cells cur 5 (0, 0)) ∧ off + cap ≤ cur.size ∧ xs.length ≤ cap ∧ cap ≤ maxLen ∧ (cur.toList.drop off).take xs.length = bcells xs)
theorem Row.keep {S : Nat → Prop} {w w' : World} {g h : Nat} {hv : Value} {xs : List UInt8} (r : Row w g h hv xs) (hk : Keeps S w w') (hn : h ≠ g → ¬ S h) : Row w' g h hv xs := by
  rcases r with r | ⟨hne, off, cap, cur, h1, h2, h3⟩
  · exact .inl r
  · exact .inr ⟨hne, off, cap, cur, h1, (hk.block h (lt_of_block h2) (hn hne)).trans h2, h3⟩
theorem Row.len {w : World} {g h : Nat} {hv : Value} {xs : List UInt8} (r : Row w g h hv xs) : ∃ ao cap, hv = .slice ao xs.length cap := by
  rcases r with ⟨rfl, rfl, _⟩ | ⟨_, off, cap, cur, rfl, _⟩
  · exact ⟨none, 0, rfl⟩
  · exact ⟨_, _, rfl⟩
theorem Row.bsl {w : World} {g h : Nat} {hv : Value} {xs : List UInt8} (r : Row w g h hv xs) : BSl w hv xs := by
  rcases r with ⟨rfl, rfl, _⟩ | ⟨_, off, cap, cur, rfl, h2, h3, h4, h5, h6⟩
  · exact bsl_none w
  · refine ⟨_, cap, rfl, h4, h5, (fun e => by cases e), fun ad e _ => ⟨h, off, by cases e; rfl, fun j u hu => ?_⟩⟩
    rw [cell_row (cs := cur.toList) (by simpa using h2)]
    rw [← h6, List.getElem?_take, List.getElem?_drop] at hu
    split at hu
    · exact hu
    · cases hu
theorem Row.blk {w : World} {g h : Nat} {hv : Value} {xs : List UInt8} (r : Row w g h hv xs) : ∀ k, hv.ownBlock = some k → k = h ∧ h ≠ g := by
  rcases r with ⟨rfl, _⟩ | ⟨hne, off, cap, cur, rfl, _⟩
  · intro k e; simp [Value.ownBlock] at e
  · intro k e; simp [Value.ownBlock] at e; exact ⟨e.symm, hne⟩
theorem Row.ltS {w : World} {g h : Nat} {hv : Value} {xs : List UInt8} (r : Row w g h hv xs) (hg : g < w.heap.size) : h < w.heap.size := by
  rcases r with ⟨_, _, rfl⟩ | ⟨hne, off, cap, cur, rfl, h2, _⟩
  · exact hg
  · exact lt_of_block h2
theorem Row.ofOwns {w : World} {base g : Nat} {v : Value} {n : Nat} {xs : List UInt8} (h : w.ownsRow base 5 1 v n (bcells xs)) (hn : n = xs.length) (hg : g < base) : ∃ h', Row w g h' v xs ∧ (h' = g ∨ base ≤ h') := by
  subst hn
  rcases h.2 with ⟨rfl, h1⟩ | ⟨k, cap, cur, rfl, h1, h2, h3, h4, h5, h6⟩
  · have : xs = [] := List.eq_nil_of_length_eq_zero h1
    subst this
    exact ⟨g, .inl ⟨rfl, rfl, rfl⟩, .inl rfl⟩
  · exact ⟨k, .inr ⟨by omega, 0, cap, cur, rfl, h2, by omega, h3, h4, by simpa using h6⟩, .inr h1⟩
theorem run_append_row (w : World) {g h : Nat} {hv : Value} {xs : List UInt8} (r : Row w g h hv xs) (hgl : g < w.heap.size) (ty tx : TypeId) (x : Value) (ys : List UInt8) (hs : Src Tryd.prog 1 tx x ys.length (bcells ys) w) (hl : xs.length + ys.length ≤ 1000000) :
    ∃ v' w' h', (Builtin.append_ #[22, tx] ty #[hv, x]).run Tryd.prog w = .ok v' w' ∧ Row w' g h' v' (xs ++ ys) ∧ Keeps (fun k => k = h ∧ h ≠ g) w w' ∧ (h' = h ∨ w.heap.size ≤ h') := by
  obtain ⟨i0, hi, hz0, hz1, hz2⟩ := info_parts Tryd.infoU8
  have ht := Tryd.underlying22
  rcases r with ⟨rfl, rfl, rfl⟩ | ⟨hne, off, cap, cur, rfl, h2, h3, h4, h5, h6⟩
  · obtain ⟨v', w', hr, ho, hgr, _⟩ := run_append_src (P := Tryd.prog) w w.heap.size 22 tx ty 5 i0 _ 1 ht hi hz0 hz1 hz2 rfl (.slice none 0 0) 0 [] (World.ownsRow_nil _ _ _ _) x ys.length (bcells ys) hs (by unfold maxLen; simp at hl; omega) (by simp at hl; omega) (Nat.le_refl _)
    rw [List.nil_append] at ho
    obtain ⟨h', hR, hh⟩ := Row.ofOwns (g := h) ho (by omega) hgl
    refine ⟨v', w', h', hr, by simpa using hR, ⟨hgr.os, hgr.tape, hgr.output, hgr.size, fun k hk _ => hgr.block k hk (by simp [Value.ownBlock])⟩, hh⟩
  · have hone : i0.size = 1 := hz1
    have hnl : (bcells ys).length = ys.length := bcells_length ys
    have hsi : Src Tryd.prog i0.size tx x ys.length (bcells ys) w := by rw [hone]; exact hs
    by_cases hroom : xs.length + ys.length ≤ cap
    · have hfit : (off + xs.length) + (bcells ys).length ≤ cur.size := by rw [hnl]; omega
      have hst := run_storeCells_at Tryd.prog h (off + xs.length) 5 (bcells ys) 0 cur w h2 (by simpa using hfit) hs.one
      simp only [Nat.add_zero] at hst
      have hr : (Builtin.append_ #[22, tx] ty #[.slice (some ⟨h, off, none⟩) xs.length cap, x]).run Tryd.prog w = .ok (.slice (some ⟨h, off, none⟩) (xs.length + ys.length) cap) (w.setRow h (cur.toList.take (off + xs.length) ++ bcells ys ++ cur.toList.drop (off + xs.length + (bcells ys).length)).toArray) := by
        rcases hs.kind with ⟨e', hk⟩ | hk <;> simp [Builtin.append_, run_underlying ht, run_underlying hk, sizeOf, typeInfo, hi, hs.len, hroom, hs.cells, add_lit', hone, hst]
      refine ⟨_, _, h, hr, .inr ⟨hne, off, cap, _, by rw [List.length_append], setRow_heap w h cur _ 5 _ h2, ?_, by rw [List.length_append]; exact hroom, h5, ?_⟩, ?_, .inl rfl⟩
      · simp only [List.size_toArray, List.length_append, List.length_take, List.length_drop, Array.length_toList]
        omega
      · have hA : (cur.toList.take (off + xs.length)).drop off = bcells xs := by rw [← h6, List.drop_take, Nat.add_sub_cancel_left]
        have hAl : (cur.toList.take (off + xs.length)).length = off + xs.length := by simp; omega
        rw [List.append_assoc, List.drop_append, hA, hAl, show off - (off + xs.length) = 0 by omega, List.drop_zero, ← List.append_assoc, ← bcells_append]
        rw [← bcells_length (xs ++ ys)]
        exact List.take_left
      · exact ⟨rfl, rfl, rfl, by simp, fun k _ hn => setRow_other w h k _ (fun e => hn ⟨e, hne⟩)⟩
    · have hcell : ∀ (j : Nat) (u : Value), (bcells xs)[j]? = some u → w.cell? ((⟨h, off, none⟩ : Addr).add j) = some u := by
        intro j u hu
        rw [add_lit', cell_row (cs := cur.toList) (by simpa using h2)]
        rw [← h6, List.getElem?_take, List.getElem?_drop] at hu
        split at hu
        · exact hu
        · cases hu
      have hold := run_firstCells_some (P := Tryd.prog) w.drew i0.size xs.length ⟨h, off, none⟩ xs.length cap (bcells xs) (by rw [hone, bcells_length]; omega) (by simpa using hcell)
      have hr := run_append_grow_src (P := Tryd.prog) w 22 tx ty 5 i0 (.int .u8 0) ht hi hz0 (some ⟨h, off, none⟩) xs.length cap (bcells xs) hold x ys.length (bcells ys) hsi (by omega) (by omega) (growslice_fits (by omega) (by rw [hz2]; omega))
      have hge := grownCap_ge w (xs.length + ys.length) cap 5
      have hcm : grownCap w (xs.length + ys.length) cap 5 ≤ maxLen := grownCap_le_maxLen w (xs.length + ys.length) cap _ (by unfold maxLen; omega)
      refine ⟨_, _, w.heap.size, hr, .inr ⟨by omega, 0, _, _, by rw [List.length_append], heap_alloc_new w.drew _, ?_, ?_, hcm, ?_⟩, ?_, .inr (Nat.le_refl _)⟩
      · simp only [Array.size_append, List.size_toArray, size_zeroCells, List.length_append, bcells_length]
        simp [Value.cells]
        omega
      · rw [List.length_append]; exact hge
      · rw [← bcells_append]
        simp only [Array.toList_append, List.drop_zero]
        rw [← bcells_length (xs ++ ys)]
        exact List.take_left
      · exact ⟨rfl, rfl, rfl, by simp, fun k hk _ => Below.heap_alloc w.drew _ k hk⟩

/-- An In at block g: its key, in block kb, how many packets it has read, what it holds, in block h, and why it refused. -/
structure InS (w : World) (g h : Nat) (kb : Option Nat) (key : List UInt8) (c : Nat) (xs : List UInt8) (why : Nat) : Prop where
  ex : ∃ kv hv, ∃ ps : Nat, w.heap[g]? = some (.cells #[kv, .int .u64 (c : Int), hv, .int .i64 (ps : Int), .int .i64 (why : Int)] 74 (0, 0)) ∧ BSl w kv key ∧ kv.ownBlock = kb ∧ Row w g h hv xs ∧ ps ≤ xs.length
  ne : kb ≠ some g
  nh : kb ≠ some h
  lt : ∀ k, kb = some k → k < w.heap.size
  ok : KeyOk key
  le : c ≤ 1000000
/-- What a call of an In's may turn. -/
structure Moved (g h h' : Nat) (kb kb' : Option Nat) (w w' : World) : Prop where
  keeps : Keeps (fun k => k = g ∨ k = h) w w'
  row : h' = h ∨ h' = g ∨ w.heap.size ≤ h'
  key : kb' = kb ∨ kb' = none ∨ ∃ k, kb' = some k ∧ w.heap.size ≤ k
theorem Moved.refl (g h : Nat) (kb : Option Nat) (w : World) : Moved g h h kb kb w w := ⟨Keeps.refl _ _, .inl rfl, .inl rfl⟩
theorem Moved.trans {g h1 h2 h3 : Nat} {k1 k2 k3 : Option Nat} {w1 w2 w3 : World} (a : Moved g h1 h2 k1 k2 w1 w2) (b : Moved g h2 h3 k2 k3 w2 w3) : Moved g h1 h3 k1 k3 w1 w3 := by
  have hs := a.keeps.size
  refine ⟨⟨b.keeps.os.trans a.keeps.os, b.keeps.tape.trans a.keeps.tape, b.keeps.output.trans a.keeps.output, Nat.le_trans hs b.keeps.size, fun k hk hn => ?_⟩, ?_, ?_⟩
  · rw [← a.keeps.block k hk hn]
    refine b.keeps.block k (by omega) ?_
    rintro (rfl | rfl)
    · exact hn (.inl rfl)
    · rcases a.row with h | h | h
      · exact hn (.inr h)
      · exact hn (.inl h)
      · omega
  · rcases b.row with h | h | h
    · rw [h]; exact a.row
    · exact .inr (.inl h)
    · exact .inr (.inr (by omega))
  · rcases b.key with h | h | ⟨k, h, hk⟩
    · rw [h]; exact a.key
    · exact .inr (.inl h)
    · exact .inr (.inr ⟨k, h, by omega⟩)
theorem InS.keep {S : Nat → Prop} {w w' : World} {g h : Nat} {kb : Option Nat} {key : List UInt8} {c : Nat} {xs : List UInt8} {why : Nat} (i : InS w g h kb key c xs why) (hk : Keeps S w w') (hg : ¬ S g) (hh : ¬ S h) (hkb : ∀ k, kb = some k → ¬ S k) : InS w' g h kb key c xs why := by
  obtain ⟨⟨kv, hv, ps, h1, h2, rfl, h3, h4⟩, h5, h6, h7, h8, h9⟩ := i
  exact ⟨⟨kv, hv, ps, (hk.block g (lt_of_block h1) hg).trans h1, h2.keep hk hkb, rfl, h3.keep hk (fun _ => hh), h4⟩, h5, h6, fun k e => Nat.lt_of_lt_of_le (h7 k e) hk.size, h8, h9⟩
theorem InS.fresh {w w' : World} {g h : Nat} {kb : Option Nat} {key : List UInt8} {c : Nat} {xs : List UInt8} {why : Nat} (i : InS w g h kb key c xs why) (hb : Below w.heap.size w w') : InS w' g h kb key c xs why := i.keep (Keeps.ofFresh (S := fun _ => False) hb) (fun h => h) (fun h => h) (fun _ _ h => h)
theorem InS.blockLt {w : World} {g h : Nat} {kb : Option Nat} {key : List UInt8} {c : Nat} {xs : List UInt8} {why : Nat} (i : InS w g h kb key c xs why) : g < w.heap.size ∧ h < w.heap.size := by
  obtain ⟨⟨kv, hv, ps, h1, h2, rfl, h3, h4⟩, _⟩ := i
  exact ⟨lt_of_block h1, h3.ltS (lt_of_block h1)⟩
theorem cells5 {w : World} {a : Nat} {t : TypeId} {v0 v1 v2 v3 v4 : Value} (h : w.heap[a]? = some (.cells #[v0, v1, v2, v3, v4] t (0, 0))) :
    w.cell? ⟨a, 0, none⟩ = some v0 ∧ w.cell? ⟨a, 1, none⟩ = some v1 ∧ w.cell? ⟨a, 2, none⟩ = some v2 ∧ w.cell? ⟨a, 3, none⟩ = some v3 ∧ w.cell? ⟨a, 4, none⟩ = some v4 ∧ ∀ j, w.frozen? ⟨a, j, none⟩ = false := by
  refine ⟨?_, ?_, ?_, ?_, ?_, fun j => by simp [World.frozen?, h]⟩ <;> simp [World.cell?, h]
theorem InS.line {w : World} {g h : Nat} {kb : Option Nat} {key : List UInt8} {c : Nat} {xs : List UInt8} {why : Nat} (i : InS w g h kb key c xs why) : LineS w g key c := by
  obtain ⟨⟨kv, hv, ps, h1, h2, rfl, h3, h4⟩, h5, h6, h7, h8, h9⟩ := i
  obtain ⟨c0, c1, _⟩ := cells5 h1
  exact ⟨⟨kv, c0, c1, h2⟩, h8, h9⟩
set_option maxHeartbeats 400000 in
theorem newIn_c (w : World) : Calls Tryd.prog 15 #[] w fun e w' => e = .returned (.pointer (some ⟨w.heap.size, 0, none⟩)) ∧ InS w' w.heap.size w.heap.size none [] 0 [] 0 ∧ Below w.heap.size w w' := by
  have HO : Hid (InS (w.alloc (.cells #[.slice none 0 0, .int .u64 0, .slice none 0 0, .int .i64 0, .int .i64 0] 74)) w.heap.size w.heap.size none [] 0 [] 0) :=
    ⟨⟨_, _, 0, heap_alloc_new w _, bsl_none _, rfl, .inl ⟨rfl, rfl, rfl⟩, by simp⟩, by simp, by simp, by simp, .inl rfl, by omega⟩
  go_enter Tryd.func15, Tryd.ntmps15
  go_wp2
  go_ret
  exact ⟨rfl, HO.out, (Below.refl _ w).alloc (Nat.le_refl _) _⟩
set_option maxHeartbeats 400000 in
theorem held_c (w : World) {g h : Nat} {kb : Option Nat} {key : List UInt8} {c : Nat} {xs : List UInt8} {why : Nat} (i : InS w g h kb key c xs why) :
    Calls Tryd.prog 28 #[.pointer (some ⟨g, 0, none⟩)] w fun e w' => e = .returned (.int .i64 (xs.length : Nat)) ∧ w' = w := by
  obtain ⟨⟨kv, hv, ps, h1, h2, rfl, h3, h4⟩, h5, h6, h7, h8, h9⟩ := i
  obtain ⟨c0, c1, c2, c3, c4, hf⟩ := cells5 h1
  obtain ⟨ao, cap, rfl⟩ := h3.len
  clear h1 h2 h3 c0 c1 c3 c4 h7
  go_enter Tryd.func28, Tryd.ntmps28
  go_wp2
  go_ret
  exact ⟨rfl, rfl⟩
theorem set5 {w : World} {a : Nat} {t : TypeId} {v0 v1 v2 v3 v4 : Value} (h : w.heap[a]? = some (.cells #[v0, v1, v2, v3, v4] t (0, 0))) (x : Value) :
    (w.setCell ⟨a, 0, none⟩ x).heap[a]? = some (.cells #[x, v1, v2, v3, v4] t (0, 0)) ∧ (w.setCell ⟨a, 1, none⟩ x).heap[a]? = some (.cells #[v0, x, v2, v3, v4] t (0, 0)) ∧ (w.setCell ⟨a, 2, none⟩ x).heap[a]? = some (.cells #[v0, v1, x, v3, v4] t (0, 0)) ∧ (w.setCell ⟨a, 3, none⟩ x).heap[a]? = some (.cells #[v0, v1, v2, x, v4] t (0, 0)) := by
  refine ⟨?_, ?_, ?_, ?_⟩ <;> (rw [heap_setCell_same _ _ _ _ _ _ h]; rfl)
theorem keepSet (S : Nat → Prop) (w : World) (g i : Nat) (x : Value) (hS : S g) : Keeps S w (w.setCell ⟨g, i, none⟩ x) := (Keeps.refl S w).setCell (p := ⟨g, i, none⟩) (.inl hS) _
set_option maxHeartbeats 400000 in
set_option maxRecDepth 100000 in
theorem feed_c (v : Value) (ys : List UInt8) (w : World) {g h : Nat} {kb : Option Nat} {key : List UInt8} {c : Nat} {xs : List UInt8} (i : InS w g h kb key c xs 0) (hv : BSl w v ys) (hl : xs.length + ys.length ≤ 1000000) :
    Calls Tryd.prog 18 #[.pointer (some ⟨g, 0, none⟩), v] w fun e w' => e = .returned (.tuple #[]) ∧ ∃ h', InS w' g h' kb key c (xs ++ ys) 0 ∧ Moved g h h' kb kb w w' := by
  obtain ⟨⟨kv, hv0, ps, h1, h2, hkb, h3, h4⟩, h5, h6, h7, h8, h9⟩ := i
  obtain ⟨c0, c1, c2, c3, c4, hf⟩ := cells5 h1
  have hglt := lt_of_block h1
  obtain ⟨v', w1, h', hr, hR, hk, hh⟩ := run_append_row w h3 hglt 22 22 v ys hv.src hl
  have hg1 : w1.heap[g]? = some (.cells #[kv, .int .u64 (c : Int), hv0, .int .i64 (ps : Int), .int .i64 0] 74 (0, 0)) := (hk.block g hglt (fun e => e.2 e.1.symm)).trans h1
  have hR' := hR.keep (keepSet (fun k => k = g) w1 g 2 v' rfl) (fun hne e => hne e)
  have hh2 : h' = h ∨ h' = g ∨ w.heap.size ≤ h' := hh.elim .inl fun e => .inr (.inr e)
  have HI : Hid (InS (w1.setCell ⟨g, 2, none⟩ v') g h' kb key c (xs ++ ys) 0) := by
    have hk2 : Keeps (fun k => k = g ∨ (k = h ∧ h ≠ g)) w (w1.setCell ⟨g, 2, none⟩ v') := (hk.mono fun k _ e => .inr e).trans (keepSet _ w1 g 2 v' (.inl rfl))
    refine ⟨⟨kv, v', ps, (set5 hg1 v').2.2.1, h2.keep hk2 (fun k e hs => ?_), hkb, hR', by rw [List.length_append]; omega⟩, h5, ?_, fun k e => Nat.lt_of_lt_of_le (h7 k e) hk2.size, h8, h9⟩
    · rcases hs with rfl | ⟨rfl, _⟩
      · exact h5 (by rw [← hkb, e])
      · exact h6 (by rw [← hkb, e])
    · rcases hh with rfl | e
      · exact h6
      · intro e2; have := h7 _ e2; omega
  have HM : Hid (Moved g h h' kb kb w (w1.setCell ⟨g, 2, none⟩ v')) := ⟨(hk.mono fun k _ e => .inr e.1).trans (keepSet _ w1 g 2 v' (.inl rfl)), hh2, .inl rfl⟩
  obtain ⟨a1, b1, d1, d2, d3, hf1⟩ := cells5 hg1
  obtain ⟨ao', cp', ev'⟩ := hR.len
  obtain ⟨ao0, cp0, ev0⟩ := h3.len
  subst ev' ev0
  have HR := hidden hr
  rw [List.length_append] at HI HM HR
  obtain ⟨av, cv, rfl⟩ := hv.len
  clear h1 h2 h3 h7 hkb hk hR hR' hg1 hr hv hf c0 c1 c3 a1 b1 d2 hh hh2
  go_enter Tryd.func18, Tryd.ntmps18
  go_wp2_with (at_builtin; refine Lib.wpList_append_run _ rfl (.tmp 13) (.tmp 14) 22 22 rfl _ _ rfl rfl _ _ HR.out ?_)
  go_end0
  exact ⟨rfl, _, HI.out, HM.out⟩
set_option maxHeartbeats 400000 in
theorem feed_no (v : Value) (w : World) {g h : Nat} {kb : Option Nat} {key : List UInt8} {c : Nat} {xs : List UInt8} {why : Nat} (hw : why ≠ 0) (i : InS w g h kb key c xs why) :
    Calls Tryd.prog 18 #[.pointer (some ⟨g, 0, none⟩), v] w fun e w' => e = .returned (.tuple #[]) ∧ w' = w := by
  obtain ⟨⟨kv, hv0, ps, h1, h2, hkb, h3, h4⟩, h5, h6, h7, h8, h9⟩ := i
  obtain ⟨c0, c1, c2, c3, c4, hf⟩ := cells5 h1
  have hw2 : ((why : Int) == 0) = false := by simpa using hw
  clear h1 h2 h3 h7 hkb c0 c1 c2 c3
  go_enter Tryd.func18, Tryd.ntmps18
  go_wp2
  go_end0
  exact ⟨rfl, rfl⟩
set_option maxHeartbeats 400000 in
theorem inKeys_c (v : Value) (ks : List UInt8) (w : World) {g h : Nat} {kb : Option Nat} {key : List UInt8} {c : Nat} {xs : List UInt8} (i : InS w g h kb key c xs 0) (hv : BSl w v ks) (hl : ks.length = 32) :
    Calls Tryd.prog 16 #[.pointer (some ⟨g, 0, none⟩), v] w fun e w' => e = .returned (.int .i64 0) ∧ ∃ kb', InS w' g h kb' ks c xs 0 ∧ Moved g h h kb kb' w w' := by
  have HR := rightKey_c v ks w hv
  rw [decide_eq_true hl] at HR
  have HR := hidden HR
  have hbl := i.blockLt
  obtain ⟨⟨kv, hv0, ps, h1, h2, hkb, h3, h4⟩, h5, h6, h7, h8, h9⟩ := i
  obtain ⟨c0, c1, c2, c3, c4, hf⟩ := cells5 h1
  have HSK := hidden (setKey_c v ks w (cs := [kv, .int .u64 (c : Int), hv0, .int .i64 (ps : Int), .int .i64 0]) h1 rfl hv hl)
  have H1 := hidden h1
  have H3 := hidden h3
  clear h1 h2 hv hkb h3 c0 c1 c2 c3 hf
  go_enter Tryd.func16, Tryd.ntmps16
  go_wp2_with fail
  refine HR.out.mono ?_
  rintro e w2 ⟨rfl, hw2⟩
  subst hw2
  go_wp2_with fail
  refine HSK.out.mono ?_
  rintro e w3 ⟨rfl, w1, kv', ho, rfl⟩
  have hg1 : w1.heap[g]? = some (.cells #[kv, .int .u64 (c : Int), hv0, .int .i64 (ps : Int), .int .i64 0] 74 (0, 0)) := ((Keeps.ofFresh (S := fun _ => False) ho.b).block g hbl.1 (fun h => h)).trans H1.out
  have hkk := keepSet (fun k => k = g) w1 g 0 kv' rfl
  have HF : Hid (InS (w1.setCell ⟨g, 0, none⟩ kv') g h kv'.ownBlock ks c xs 0) := by
    refine ⟨⟨kv', hv0, ps, (set5 hg1 kv').1, ho.bsl.keep hkk (fun k e hk => ?_), rfl, (H3.out.keep (Keeps.ofFresh (S := fun _ => False) ho.b) (fun _ h => h)).keep hkk (fun hne e => hne e), h4⟩, fun e => ?_, fun e => ?_, fun k e => ?_, .inr hl, h9⟩
    · have := (own_ge ho k e).1; omega
    · have := (own_ge ho g e).1; omega
    · have := (own_ge ho h e).1; omega
    · rw [World.size_setCell]; exact (own_ge ho k e).2
  have HK : Hid (Keeps (fun k => k = g ∨ k = h) w2 (w1.setCell ⟨g, 0, none⟩ kv')) := (Keeps.ofFresh ho.b).trans (hkk.mono fun k _ e => .inl e)
  have HG := hidden (own_ge ho)
  clear ho hg1 hkk
  go_wp2
  go_ret
  refine ⟨rfl, _, HF.out, HK.out, .inl rfl, ?_⟩
  cases e : kv'.ownBlock with
  | none => exact .inr (.inl rfl)
  | some k => exact .inr (.inr ⟨k, rfl, (HG.out k e).1⟩)

theorem BSl.tailA {w : World} {b off cap : Nat} {x : UInt8} {xs : List UInt8} (h : BSl w (.slice (some ⟨b, off, none⟩) (x :: xs).length cap) (x :: xs)) (hc : cap = 1) : BSl w (.slice (some ⟨b, off, none⟩) xs.length 0) xs := by
  obtain ⟨ao, cp, e, h1, _⟩ := h
  cases e
  simp at h1
  have : xs = [] := List.eq_nil_of_length_eq_zero (by omega)
  subst this
  exact bsl_empty w _ 0 (by simp [maxLen]) (fun e => by cases e)
theorem BSl.tailB {w : World} {b off cap : Nat} {x : UInt8} {xs : List UInt8} (h : BSl w (.slice (some ⟨b, off, none⟩) (x :: xs).length cap) (x :: xs)) (_hc : ¬ cap = 1) : BSl w (.slice (some ⟨b, off + 1, none⟩) xs.length (cap - 1)) xs := by
  have := h.dropS (k := 1) (by simp)
  simpa using this

theorem or_byte32 (m : Nat) (x : UInt8) (h : m * 256 < 4294967296) : bits BinOp.or IntKind.u32 ((m : Int) * 256) ((x.toNat : Int) % 4294967296) = ((m * 256 + x.toNat : Nat) : Int) := by
  have hx := x.toNat_lt
  rw [show (x.toNat : Int) % 4294967296 = (x.toNat : Int) by omega, show ((m : Int) * 256) = ((m * 256 : Nat) : Int) from by omega, u32_or_nat _ _ h (by omega)]
  congr 1
  have := Nat.shiftLeft_add_eq_or_of_lt (i := 8) (b := x.toNat) (by omega) m
  rw [Nat.shiftLeft_eq] at this
  exact this.symm
def vf (m : Nat) (ys : List UInt8) : Nat := ys.foldl (fun n b => n * 256 + b.toNat) m
theorem pow_next (m : Nat) (xs : List UInt8) (h : xs.length + 1 ≤ 4) (hm : m < 256 ^ (4 - (xs.length + 1))) : m * 256 + 255 < 4294967296 := by
  have h1 : 256 ^ (4 - (xs.length + 1)) ≤ 256 ^ 3 := Nat.pow_le_pow_right (by omega) (by omega)
  have : m < 256 ^ 3 := Nat.lt_of_lt_of_le hm h1
  omega
theorem pow_step (m : Nat) (x : UInt8) (xs : List UInt8) (h : xs.length + 1 ≤ 4) (hm : m < 256 ^ (4 - (xs.length + 1))) : m * 256 + x.toNat < 256 ^ (4 - xs.length) := by
  have hx := x.toNat_lt
  have e : 4 - xs.length = (4 - (xs.length + 1)) + 1 := by omega
  rw [e, Nat.pow_succ]
  omega
set_option maxHeartbeats 1600000 in
set_option maxRecDepth 100000 in
theorem pnumberOf_c (v : Value) (xs : List UInt8) (hl : xs.length ≤ 4) (w : World) (hv : BSl w v xs) :
    Calls Tryd.prog 57 #[v] w fun e w' => e = .returned (.int .u32 (val xs : Nat)) ∧ w' = w := by
  have HV := hidden hv
  have H0 : Hid (vf 0 xs = val xs) := rfl
  have HL := hidden hl
  clear hv hl
  go_enter Tryd.func57, Tryd.ntmps57
  go_wp2
  refine scope_ways 0 (fun l a' w' => l = 0 ∧ w' = w ∧ ∃ (m : Nat) (sv : Value) (ys : List UInt8) (u4 u5 u6 u7 u8 u9 u10 u11 u12 u13 u14 u15 u16 : Value), a' = { tmps := #[sv, undef, .int .u32 0, .int .u32 m, u4, u5, u6, u7, u8, u9, u10, u11, u12, u13, u14, u15, u16], defers := [] } ∧ BSl w sv ys ∧ ys.length ≤ 4 ∧ m < 256 ^ (4 - ys.length) ∧ vf m ys = val xs) (fun _ a' _ => sliceLen (a'.tmps.getD 0 undef)) ?_ ?_
  · cases hxs : xs with
    | nil =>
      have hb1 := HV.out
      rw [hxs] at hb1
      obtain ⟨ao, cap, rfl⟩ := hb1.nil
      clear hb1 HV
      go_wp2
      go_step3
      go_wp2
      simp only [hops]
      go_ret
      exact ⟨by rw [hxs]; rfl, rfl⟩
    | cons x ys =>
      have hb1 := HV.out
      have hl8 := HL.out
      have h00 := H0.out
      rw [hxs] at hb1 hl8 h00
      have HBS := hidden hb1
      have HV0 := hidden h00
      obtain ⟨b, off, cap, rfl, hc1, hc2, _⟩ := hb1.cons
      have h0 := hb1.head
      unfold maxLen at hc2
      clear hb1 HV H0 HL h00 hxs
      simp only [List.length_cons] at hl8
      go_wp2
      go_step3
      go_wp2
      all_goals go_step3
      all_goals rw [show bits BinOp.or IntKind.u32 0 ((x.toNat : Int) % 4294967296) = ((x.toNat : Nat) : Int) from by simpa using or_byte32 0 x (by omega)]
      · exact ⟨rfl, rfl, x.toNat, _, ys, _, _, _, _, _, _, _, _, _, _, _, _, _, rfl, HBS.out.tailA ‹_›, by omega, by have := pow_step 0 x ys hl8 (Nat.pow_pos (by omega)); simpa using this, by rw [← HV0.out]; simp [vf]⟩
      · exact ⟨rfl, rfl, x.toNat, _, ys, _, _, _, _, _, _, _, _, _, _, _, _, _, rfl, HBS.out.tailB ‹_›, by omega, by have := pow_step 0 x ys hl8 (Nat.pow_pos (by omega)); simpa using this, by rw [← HV0.out]; simp [vf]⟩
  · rintro l a' w' ⟨rfl, rfl, m, sv, ys, u4, u5, u6, u7, u8, u9, u10, u11, u12, u13, u14, u15, u16, rfl, hb1, hl8, hm, hvf⟩
    refine ⟨_, rfl, ?_⟩
    have HV9 := hidden hvf
    have HBS := hidden hb1
    have HM := hidden hm
    clear hvf hm HV H0 HL
    cases ys with
    | nil =>
      obtain ⟨ao, cap, rfl⟩ := hb1.nil
      clear hb1
      go_wp2
      simp only [hops]
      go_ret
      exact ⟨by rw [← HV9.out]; rfl, rfl⟩
    | cons x zs =>
      obtain ⟨b, off, cap, rfl, hc1, hc2, _⟩ := hb1.cons
      have h0 := hb1.head
      unfold maxLen at hc2
      clear hb1
      simp only [List.length_cons] at hl8
      have hm3 : (m : Int) ≤ 16777215 := by have := pow_next m zs hl8 HM.out; omega
      go_wp2
      all_goals go_step3
      all_goals rw [or_byte32 m x (by have := pow_next m zs hl8 HM.out; omega)]
      · exact ⟨⟨rfl, rfl, m * 256 + x.toNat, _, zs, _, _, _, _, _, _, _, _, _, _, _, _, _, rfl, HBS.out.tailA ‹_›, by omega, pow_step m x zs hl8 HM.out, by rw [← HV9.out]; simp [vf]⟩, Nat.lt_succ_self _⟩
      · exact ⟨⟨rfl, rfl, m * 256 + x.toNat, _, zs, _, _, _, _, _, _, _, _, _, _, _, _, _, rfl, HBS.out.tailB ‹_›, by omega, pow_step m x zs hl8 HM.out, by rw [← HV9.out]; simp [vf]⟩, Nat.lt_succ_self _⟩

theorem val_le {xs : List UInt8} (h : xs.length = 4) : val xs ≤ 4294967295 := by
  match xs, h with
  | [a, b, c, d], _ =>
    have h1 := a.toNat_lt
    have h2 := b.toNat_lt
    have h3 := c.toNat_lt
    have h4 := d.toNat_lt
    simp only [val, List.foldl_cons, List.foldl_nil]
    omega
set_option maxHeartbeats 800000 in
set_option maxRecDepth 100000 in
theorem lengthOf_c (v : Value) (xs : List UInt8) (hl : xs.length = 4) (w : World) (hv : BSl w v xs) {g : Nat} {key : List UInt8} {c : Nat} (h : LineS w g key c) :
    Calls Tryd.prog 41 #[.pointer (some ⟨g, 0, none⟩), v] w fun e w' => e = .returned (.tuple #[.int .i64 (if lenE key (val xs) = 0 then (val xs : Nat) else 0 : Nat), .int .i64 (lenE key (val xs) : Nat)]) ∧ w' = w := by
  have HN := hidden (pnumberOf_c v xs (by omega) w hv)
  have hv4 := val_le hl
  have HL := hidden h
  clear hv h hl
  generalize val xs = L at *
  by_cases h1 : 35000 < L
  · have e : lenE key L = 3 := by rw [lenE, if_pos h1]
    rw [e]
    have h1' : (35000 : Int) < (L : Int) := by omega
    clear e h1
    go_enter Tryd.func41, Tryd.ntmps41
    go_wp2_with fail
    refine HN.out.mono ?_
    rintro e w2 ⟨rfl, hw2⟩
    subst hw2
    go_wp2
    go_ret2
    exact ⟨rfl, rfl⟩
  · have h1' : ¬ (35000 : Int) < (L : Int) := by omega
    by_cases h2 : L < 6
    · have e : lenE key L = 12 := by rw [lenE, if_neg h1, if_pos (.inl h2)]
      rw [e]
      have h2' : (L : Int) < 6 := by omega
      clear e h1
      go_enter Tryd.func41, Tryd.ntmps41
      go_wp2_with fail
      refine HN.out.mono ?_
      rintro e w2 ⟨rfl, hw2⟩
      subst hw2
      go_wp2
      go_ret2
      exact ⟨rfl, rfl⟩
    · have h2' : ¬ (L : Int) < 6 := by omega
      have HF := hidden (fillsUnits_c L (by omega) w HL.out)
      by_cases h3 : (hdN key + L) % 8 = 0
      · have e : lenE key L = 0 := by rw [lenE, if_neg h1, if_neg (by simp [h2, h3])]
        rw [e, if_pos rfl]
        rw [decide_eq_true h3] at HF
        clear e h1 h3
        go_enter Tryd.func41, Tryd.ntmps41
        go_wp2_with fail
        refine HN.out.mono ?_
        rintro e w2 ⟨rfl, hw2⟩
        subst hw2
        go_wp2_with fail
        refine HF.out.mono ?_
        rintro e w3 ⟨rfl, hw3⟩
        subst hw3
        go_wp2
        go_ret2
        exact ⟨rfl, rfl⟩
      · have e : lenE key L = 12 := by rw [lenE, if_neg h1, if_pos (.inr h3)]
        rw [e]
        rw [decide_eq_false h3] at HF
        clear e h1 h3
        go_enter Tryd.func41, Tryd.ntmps41
        go_wp2_with fail
        refine HN.out.mono ?_
        rintro e w2 ⟨rfl, hw2⟩
        subst hw2
        go_wp2_with fail
        refine HF.out.mono ?_
        rintro e w3 ⟨rfl, hw3⟩
        subst hw3
        go_wp2
        go_ret2
        exact ⟨rfl, rfl⟩
set_option maxHeartbeats 800000 in
set_option maxRecDepth 100000 in
theorem payloadOf_c (v : Value) (b : List UInt8) (h1 : 1 ≤ b.length) (hl : b.length ≤ 1000000) (w : World) (hv : BSl w v b) :
    Calls Tryd.prog 44 #[v] w fun e w' => Ex w w' ∧ ∃ v', e = .returned (.tuple #[v', .int .i64 (payE b : Nat)]) ∧ (payE b = 0 → Own w w' v' (payL b)) := by
  have hne : b ≠ [] := by intro e; rw [e] at h1; simp at h1
  obtain ⟨bb, oo, cap, e0, _⟩ := hv.nonnil hne
  subst e0
  have hc := hv.cellD 0 (by omega)
  rw [Nat.add_zero] at hc
  have hx := (b.getD 0 0).toNat_lt
  have HV := hidden hv
  obtain ⟨ao', cap', ee, hcap, hcm, _⟩ := hv
  cases ee
  unfold maxLen at hcm
  obtain ⟨q, hq⟩ : ∃ q, q = (b.getD 0 0).toNat := ⟨_, rfl⟩
  have HE : Hid (payE b = if q < 4 ∨ b.length ≤ 1 + q then 12 else 0) := by show _ = _; rw [payE, hq]
  have HPL : Hid (payL b = (b.drop 1).take (b.length - q - 1)) := by show _ = _; rw [payL, hq]
  rw [← hq] at hc hx
  clear hq hne
  generalize payE b = pe at HE ⊢
  generalize payL b = pl at HPL ⊢
  obtain ⟨n, hn⟩ : ∃ n, n = b.length := ⟨_, rfl⟩
  rw [← hn] at hl h1 HV HE HPL hcap ⊢
  have HNN := hidden hn
  clear hn
  have hq255 : (q : Int) ≤ 255 := by omega
  have hpos : (0 : Int) < (n : Int) := by omega
  by_cases h4 : q < 4
  · have h4' : (q : Int) < 4 := by omega
    have HP : Hid (pe = 12) := by show _ = _; rw [HE.out, if_pos (.inl h4)]
    rw [HP.out]
    clear HE h4
    go_enter Tryd.func44, Tryd.ntmps44
    go_wp2
    go_ret2
    first | exact ⟨Ex.refl _, _, rfl, fun e => by cases e⟩ | exact ⟨Ex.refl _, _, rfl⟩
  · have h4' : ¬ (q : Int) < 4 := by omega
    by_cases h5 : n ≤ 1 + q
    · have h5' : (n : Int) - (q : Int) ≤ 1 := by omega
      have HP : Hid (pe = 12) := by show _ = _; rw [HE.out, if_pos (.inr h5)]
      rw [HP.out]
      clear HE h4 h5
      go_enter Tryd.func44, Tryd.ntmps44
      go_wp2
      go_ret2
      first | exact ⟨Ex.refl _, _, rfl, fun e => by cases e⟩ | exact ⟨Ex.refl _, _, rfl⟩
    · have HP : Hid (pe = 0) := by show _ = _; rw [HE.out, if_neg (by omega)]
      rw [HP.out]
      obtain ⟨m, hm⟩ : ∃ m, n = m + q + 1 + 1 := ⟨n - q - 2, by omega⟩
      have h5' : ¬ (n : Int) - (q : Int) ≤ 1 := by omega
      have hsl : (n : Int) - (q : Int) = ((m + 2 : Nat) : Int) := by omega
      have HPART : Hid (BSl w (.slice (some ⟨bb, oo + 1, none⟩) (m + 1) (cap - 1)) pl) := by
        have := HV.out.part (i := 1) (j := m + 1) (by omega)
        rw [HPL.out, show n - q - 1 = m + 1 by omega]
        exact this
      have hc1 : ((m + 2 : Nat) : Int) ≤ (cap : Int) := by omega
      have hc2 : ¬ cap = 1 := by omega
      have hms : m + 2 - 1 = m + 1 := by omega
      have HPLL : Hid (pl.length ≤ 1000000000) := by
        show _ ≤ _
        rw [HPL.out, List.length_take]
        omega
      clear HE h4 h5 hm
      go_enter Tryd.func44, Tryd.ntmps44
      go_wp2_with fail
      refine (clone_c _ pl w HPART.out HPLL.out).mono ?_
      rintro e w2 ⟨v2, rfl, ho⟩
      have HO := hidden ho
      clear ho
      go_wp2
      go_ret2
      first | exact ⟨HO.out.b, _, rfl, fun _ => HO.out⟩ | exact ⟨HO.out.b, _, rfl, HO.out⟩

theorem Row.cut {w : World} {g h off cap s : Nat} {xs : List UInt8} {cur : Array Value} (hne : h ≠ g) (h2 : w.heap[h]? = some (.cells cur 5 (0, 0))) (h3 : off + cap ≤ cur.size) (h4 : xs.length ≤ cap) (h5 : cap ≤ maxLen) (h6 : (cur.toList.drop off).take xs.length = bcells xs) (hs : s ≤ xs.length) :
    Row w g h (.slice (some ⟨h, off + s, none⟩) (xs.length - s) (cap - s)) (xs.drop s) := by
  refine .inr ⟨hne, off + s, cap - s, cur, by rw [List.length_drop], h2, by omega, by rw [List.length_drop]; omega, by unfold maxLen at *; omega, ?_⟩
  rw [List.length_drop, ← List.drop_drop, ← List.drop_take, h6]
  simp [bcells]
theorem Row.cut0 {w : World} {g h off cap s : Nat} {xs : List UInt8} {cur : Array Value} (hne : h ≠ g) (h2 : w.heap[h]? = some (.cells cur 5 (0, 0))) (h3 : off + cap ≤ cur.size) (h4 : xs.length ≤ cap) (hs : s ≤ xs.length) (hc : cap = s) :
    Row w g h (.slice (some ⟨h, off, none⟩) (xs.length - s) 0) (xs.drop s) := by
  have e : xs.drop s = [] := List.eq_nil_of_length_eq_zero (by rw [List.length_drop]; omega)
  rw [e]
  refine .inr ⟨hne, off, 0, cur, by simp; omega, h2, by omega, by simp, by unfold maxLen; omega, by simp [bcells]⟩
/-- What stands once the slice is cut and counted. -/
structure Cut (w w2 : World) (g h : Nat) (kv : Value) (kb : Option Nat) (key : List UInt8) (c : Nat) (v1 : Value) (ys : List UInt8) (q : Nat) : Prop where
  blk : w2.heap[g]? = some (.cells #[kv, .int .u64 (c : Int), v1, .int .i64 (q : Int), .int .i64 0] 74 (0, 0))
  kb : BSl w2 kv key
  row : Row w2 g h v1 ys
  keeps : Keeps (fun k => k = g ∨ k = h) w w2
theorem Cut.mk' {w : World} {g h : Nat} {kv hv : Value} {kb : Option Nat} {key : List UInt8} {c ps : Nat} (h1 : w.heap[g]? = some (.cells #[kv, .int .u64 (c : Int), hv, .int .i64 (ps : Int), .int .i64 0] 74 (0, 0))) (h2 : BSl w kv key) (hkb : kv.ownBlock = kb) (hn : kb ≠ some g) {v1 : Value} {ys : List UInt8} (r : Row w g h v1 ys) (q : Nat) (x : Int) (hx : x = (q : Int)) :
    Cut w ((w.setCell ⟨g, 2, none⟩ v1).setCell ⟨g, 3, none⟩ (.int .i64 x)) g h kv kb key c v1 ys q := by
  subst hx
  have hk : Keeps (fun k => k = g) w ((w.setCell ⟨g, 2, none⟩ v1).setCell ⟨g, 3, none⟩ (.int .i64 (q : Int))) := (keepSet (fun k => k = g) w g 2 v1 rfl).trans (keepSet (fun k => k = g) _ g 3 _ rfl)
  refine ⟨?_, h2.keep hk (fun k e hs => hn (by rw [← hkb, e, hs])), r.keep hk (fun hne e => hne e), hk.mono fun k _ e => .inl e⟩
  exact (set5 (set5 h1 v1).2.2.1 _).2.2.2
theorem Cut.drewN {w w2 : World} {g h : Nat} {kv : Value} {kb : Option Nat} {key : List UInt8} {c : Nat} {v1 : Value} {ys : List UInt8} {q : Nat} (h' : Cut w w2 g h kv kb key c v1 ys q) (n : Nat) : Cut w (w2.drewN n) g h kv kb key c v1 ys q :=
  ⟨h'.blk, h'.kb.keep (S := fun _ => False) ((Keeps.refl _ _).drewN n) (fun _ _ h => h), h'.row.keep (S := fun _ => False) ((Keeps.refl _ _).drewN n) (fun _ h => h), h'.keeps.drewN n⟩
set_option maxHeartbeats 800000 in
set_option maxRecDepth 100000 in
theorem pass_c (s : Nat) (w : World) {g h : Nat} {kb : Option Nat} {key : List UInt8} {c : Nat} {xs : List UInt8} (i : InS w g h kb key c xs 0) (h0 : 1 ≤ s) (hs : s ≤ xs.length) (hl : xs.length ≤ 1000000) :
    Calls Tryd.prog 45 #[.pointer (some ⟨g, 0, none⟩), .int .i64 (s : Int)] w fun e w' => e = .returned (.tuple #[]) ∧ ∃ h', InS w' g h' kb key c (xs.drop s) 0 ∧ Moved g h h' kb kb w w' := by
  have hbl := i.blockLt
  obtain ⟨⟨kv, hv0, ps, h1, h2, hkb, h3, h4⟩, h5, h6, h7, h8, h9⟩ := i
  obtain ⟨c0, c1, c2, c3, c4, hf⟩ := cells5 h1
  have hdl : (xs.drop s).length = xs.length - s := List.length_drop
  rcases h3 with ⟨_, e, _⟩ | ⟨hne, off, cap, cur, rfl, r2, r3, r4, r5, r6⟩
  · rw [e] at hs; simp at hs; omega
  have rA := fun (hc : ¬ cap = s) => Cut.mk' h1 h2 hkb h5 (Row.cut hne r2 r3 r4 r5 r6 hs) (ps + s) ((ps : Int) + (s : Int)) (by omega)
  have rB := fun (hc : cap = s) => Cut.mk' h1 h2 hkb h5 (Row.cut0 hne r2 r3 r4 hs hc) (ps + s) ((ps : Int) + (s : Int)) (by omega)
  have RA := hidden rA
  have RB := hidden rB
  have H8 := hidden h8
  have H7 := hidden h7
  have HKB := hidden hkb
  unfold maxLen at r5
  obtain ⟨n, hn⟩ : ∃ n, n = xs.length := ⟨_, rfl⟩
  rw [← hn] at hs hl h4 r4 hdl RA RB c2
  have HDL := hidden hdl
  have hs1 : (s : Int) ≤ (n : Int) := by omega
  have hs2 : (s : Int) ≤ (cap : Int) := by omega
  generalize xs.drop s = ys at RA RB HDL ⊢
  clear h1 h2 h7 h8 hkb rA rB r2 r3 r6 c0 c1 hn hdl cur
  by_cases hcs : cap = s
  · have HC := hidden (RB.out hcs)
    go_enter Tryd.func45, Tryd.ntmps45
    go_upto_region 2 with fail
    generalize (w.setCell ⟨g, 2, none⟩ (.slice (some ⟨h, off, none⟩) (n - s) 0)).setCell ⟨g, 3, none⟩ (.int .i64 ((ps : Int) + (s : Int))) = w2 at HC ⊢
    clear RA RB c2 c3 c4 hf
    obtain ⟨d0, d1, d2, d3, d4, hf2⟩ := cells5 HC.out.blk
    obtain ⟨m, hm⟩ : ∃ m, m = n - s := ⟨_, rfl⟩
    rw [← hm] at d2 HC HDL ⊢
    have HMM := hidden hm
    clear hm d0 d1 d4 hf2
    have d3' : w2.cell? ⟨g, 3, none⟩ = some (.int .i64 ((ps : Int) + (s : Int))) := by rw [d3]; congr 2
    clear d3
    go_wp2_with fail
    go_quiet (fail)
    have HC3 := hidden (HC.out.drewN nq)
    generalize w2.drewN nq = w3 at HC3 ⊢
    clear d2 d3' HC
    by_cases hge : (m : Int) ≤ (ps : Int) + (s : Int)
    · obtain ⟨d0, d1, d2, d3, d4, hf2⟩ := cells5 HC3.out.blk
      have HCL := hidden (clone_c _ ys w3 HC3.out.row.bsl (by have := HDL.out; omega))
      clear d0 d1 d3 d4 hf2
      go_wp2_with fail
      refine HCL.out.mono ?_
      rintro e w4 ⟨v4, rfl, ho⟩
      have HO := hidden ho
      obtain ⟨a4, c4, e4⟩ := ho.shape
      subst e4
      have HF : Hid (∃ h', InS ((w4.setCell ⟨g, 2, none⟩ (.slice a4 ys.length c4)).setCell ⟨g, 3, none⟩ (.int .i64 0)) g h' kb key c ys 0 ∧ Moved g h h' kb kb w ((w4.setCell ⟨g, 2, none⟩ (.slice a4 ys.length c4)).setCell ⟨g, 3, none⟩ (.int .i64 0))) := by
        have hs3 := HC3.out.keeps.size
        have hg4 := ((Keeps.ofFresh (S := fun _ => False) HO.out.b).block g (by omega) (fun h => h)).trans HC3.out.blk
        obtain ⟨h', hR, hh⟩ := Row.ofOwns (g := g) HO.out.row rfl (by omega)
        have hk : Keeps (fun k => k = g) w4 ((w4.setCell ⟨g, 2, none⟩ (.slice a4 ys.length c4)).setCell ⟨g, 3, none⟩ (.int .i64 0)) := (keepSet (fun k => k = g) w4 g 2 _ rfl).trans (keepSet (fun k => k = g) _ g 3 _ rfl)
        refine ⟨h', ⟨⟨kv, _, 0, (set5 (set5 hg4 _).2.2.1 _).2.2.2, (HC3.out.kb.fresh HO.out.b).keep hk (fun k e hs => h5 (by rw [← HKB.out, e, hs])), HKB.out, hR.keep hk (fun hne e => hne e), by omega⟩, h5, ?_, fun k e => ?_, H8.out, h9⟩, (HC3.out.keeps.trans (Keeps.ofFresh HO.out.b)).trans (hk.mono fun k _ e => .inl e), ?_, .inl rfl⟩
        · rcases hh with rfl | e
          · exact h5
          · intro e2; have := H7.out _ e2; omega
        · have := H7.out k e; have := HO.out.b.size; simp; omega
        · rcases hh with rfl | e
          · exact .inr (.inl rfl)
          · exact .inr (.inr (by omega))
      have hg4 := ((Keeps.ofFresh (S := fun _ => False) ho.b).block g (by have := HC3.out.keeps.size; omega) (fun h => h)).trans HC3.out.blk
      obtain ⟨d0, d1, d2, d3, d4, hf2⟩ := cells5 hg4
      clear ho hg4 d0 d1 d4 HC3 HO HCL
      go_wp2
      go_end0
      exact ⟨rfl, HF.out⟩
    · have HF : Hid (InS w3 g h kb key c ys 0) := by
        refine ⟨⟨kv, _, ps + s, HC3.out.blk, HC3.out.kb, HKB.out, HC3.out.row, by have := HDL.out; omega⟩, h5, h6, fun k e => Nat.lt_of_lt_of_le (H7.out k e) HC3.out.keeps.size, H8.out, h9⟩
      have HK : Hid (Moved g h h kb kb w w3) := ⟨HC3.out.keeps, .inl rfl, .inl rfl⟩
      clear HC3
      go_wp2
      go_end0
      exact ⟨rfl, _, HF.out, HK.out⟩
  · have HC := hidden (RA.out hcs)
    go_enter Tryd.func45, Tryd.ntmps45
    go_upto_region 2 with fail
    generalize (w.setCell ⟨g, 2, none⟩ (.slice (some ⟨h, off + s, none⟩) (n - s) (cap - s))).setCell ⟨g, 3, none⟩ (.int .i64 ((ps : Int) + (s : Int))) = w2 at HC ⊢
    clear RA RB c2 c3 c4 hf
    obtain ⟨d0, d1, d2, d3, d4, hf2⟩ := cells5 HC.out.blk
    obtain ⟨m, hm⟩ : ∃ m, m = n - s := ⟨_, rfl⟩
    rw [← hm] at d2 HC HDL ⊢
    have HMM := hidden hm
    clear hm d0 d1 d4 hf2
    have d3' : w2.cell? ⟨g, 3, none⟩ = some (.int .i64 ((ps : Int) + (s : Int))) := by rw [d3]; congr 2
    clear d3
    go_wp2_with fail
    go_quiet (fail)
    have HC3 := hidden (HC.out.drewN nq)
    generalize w2.drewN nq = w3 at HC3 ⊢
    clear d2 d3' HC
    by_cases hge : (m : Int) ≤ (ps : Int) + (s : Int)
    · obtain ⟨d0, d1, d2, d3, d4, hf2⟩ := cells5 HC3.out.blk
      have HCL := hidden (clone_c _ ys w3 HC3.out.row.bsl (by have := HDL.out; omega))
      clear d0 d1 d3 d4 hf2
      go_wp2_with fail
      refine HCL.out.mono ?_
      rintro e w4 ⟨v4, rfl, ho⟩
      have HO := hidden ho
      obtain ⟨a4, c4, e4⟩ := ho.shape
      subst e4
      have HF : Hid (∃ h', InS ((w4.setCell ⟨g, 2, none⟩ (.slice a4 ys.length c4)).setCell ⟨g, 3, none⟩ (.int .i64 0)) g h' kb key c ys 0 ∧ Moved g h h' kb kb w ((w4.setCell ⟨g, 2, none⟩ (.slice a4 ys.length c4)).setCell ⟨g, 3, none⟩ (.int .i64 0))) := by
        have hs3 := HC3.out.keeps.size
        have hg4 := ((Keeps.ofFresh (S := fun _ => False) HO.out.b).block g (by omega) (fun h => h)).trans HC3.out.blk
        obtain ⟨h', hR, hh⟩ := Row.ofOwns (g := g) HO.out.row rfl (by omega)
        have hk : Keeps (fun k => k = g) w4 ((w4.setCell ⟨g, 2, none⟩ (.slice a4 ys.length c4)).setCell ⟨g, 3, none⟩ (.int .i64 0)) := (keepSet (fun k => k = g) w4 g 2 _ rfl).trans (keepSet (fun k => k = g) _ g 3 _ rfl)
        refine ⟨h', ⟨⟨kv, _, 0, (set5 (set5 hg4 _).2.2.1 _).2.2.2, (HC3.out.kb.fresh HO.out.b).keep hk (fun k e hs => h5 (by rw [← HKB.out, e, hs])), HKB.out, hR.keep hk (fun hne e => hne e), by omega⟩, h5, ?_, fun k e => ?_, H8.out, h9⟩, (HC3.out.keeps.trans (Keeps.ofFresh HO.out.b)).trans (hk.mono fun k _ e => .inl e), ?_, .inl rfl⟩
        · rcases hh with rfl | e
          · exact h5
          · intro e2; have := H7.out _ e2; omega
        · have := H7.out k e; have := HO.out.b.size; simp; omega
        · rcases hh with rfl | e
          · exact .inr (.inl rfl)
          · exact .inr (.inr (by omega))
      have hg4 := ((Keeps.ofFresh (S := fun _ => False) ho.b).block g (by have := HC3.out.keeps.size; omega) (fun h => h)).trans HC3.out.blk
      obtain ⟨d0, d1, d2, d3, d4, hf2⟩ := cells5 hg4
      clear ho hg4 d0 d1 d4 HC3 HO HCL
      go_wp2
      go_end0
      exact ⟨rfl, HF.out⟩
    · have HF : Hid (InS w3 g h kb key c ys 0) := by
        refine ⟨⟨kv, _, ps + s, HC3.out.blk, HC3.out.kb, HKB.out, HC3.out.row, by have := HDL.out; omega⟩, h5, h6, fun k e => Nat.lt_of_lt_of_le (H7.out k e) HC3.out.keeps.size, H8.out, h9⟩
      have HK : Hid (Moved g h h kb kb w w3) := ⟨HC3.out.keeps, .inl rfl, .inl rfl⟩
      clear HC3
      go_wp2
      go_end0
      exact ⟨rfl, _, HF.out, HK.out⟩

/-- What Next tells, and what it leaves. -/
def NTold (w : World) (g h : Nat) (kb : Option Nat) (key : List UInt8) (c : Nat) (xs : List UInt8) (r : Nx) (e : Ending) (w' : World) : Prop :=
  match r with
  | .short => e = .returned (.tuple #[.slice none 0 0, .bool false, .int .i64 0]) ∧ InS w' g h kb key c xs 0 ∧ Moved g h h kb kb w w'
  | .bad why => e = .returned (.tuple #[.slice none 0 0, .bool false, .int .i64 (why : Int)]) ∧ InS w' g g none [] 0 [] why ∧ Moved g h g kb none w w'
  | .told p rest => ∃ v h', e = .returned (.tuple #[v, .bool true, .int .i64 0]) ∧ BSl w' v p ∧ (∀ k, v.ownBlock = some k → w.heap.size ≤ k) ∧ InS w' g h' kb key (c + 1) rest 0 ∧ Moved g h h' kb kb w w'
/-- The In, wiped: its refusal alone is kept. -/
def wiped (w : World) (g : Nat) (why : Int) : World :=
  ((((w.setCell ⟨g, 0, none⟩ (.slice none 0 0)).setCell ⟨g, 1, none⟩ (.int .u64 0)).setCell ⟨g, 2, none⟩ (.slice none 0 0)).setCell ⟨g, 3, none⟩ (.int .i64 0)).setCell ⟨g, 4, none⟩ (.int .i64 why)
theorem wiped_ok {w0 w : World} {g h : Nat} {kb : Option Nat} {v0 v1 v2 v3 v4 : Value} (hk : Keeps (fun k => k = g ∨ k = h) w0 w) (h1 : w.heap[g]? = some (.cells #[v0, v1, v2, v3, v4] 74 (0, 0))) (why : Nat) :
    InS (wiped w g (why : Int)) g g none [] 0 [] why ∧ Moved g h g kb none w0 (wiped w g (why : Int)) := by
  have hk2 : Keeps (fun k => k = g ∨ k = h) w (wiped w g (why : Int)) := ((((keepSet _ w g 0 _ (.inl rfl)).trans (keepSet _ _ g 1 _ (.inl rfl))).trans (keepSet _ _ g 2 _ (.inl rfl))).trans (keepSet _ _ g 3 _ (.inl rfl))).trans (keepSet _ _ g 4 _ (.inl rfl))
  refine ⟨⟨⟨.slice none 0 0, .slice none 0 0, 0, ?_, bsl_none _, rfl, .inl ⟨rfl, rfl, rfl⟩, by simp⟩, by simp, by simp, by simp, .inl rfl, by omega⟩, hk.trans hk2, .inr (.inl rfl), .inr (.inl rfl)⟩
  have e := (set5 (set5 (set5 (set5 h1 (.slice none 0 0)).1 (.int .u64 0)).2.1 (.slice none 0 0)).2.2.1 (.int .i64 0)).2.2.2
  rw [wiped, heap_setCell_same _ _ _ _ _ _ e]
  rfl
set_option maxHeartbeats 800000 in
set_option maxRecDepth 100000 in
theorem next_no (w : World) {g h : Nat} {kb : Option Nat} {key : List UInt8} {c : Nat} {xs : List UInt8} {why : Nat} (hw : why ≠ 0) (i : InS w g h kb key c xs why) :
    Calls Tryd.prog 27 #[.pointer (some ⟨g, 0, none⟩)] w fun e w' => NTold w g h kb key c xs (.bad why) e w' := by
  obtain ⟨⟨kv, hv0, ps, h1, h2, hkb, h3, h4⟩, h5, h6, h7, h8, h9⟩ := i
  obtain ⟨c0, c1, c2, c3, c4, hf⟩ := cells5 h1
  have hw2 : ((why : Int) == 0) = false := by simpa using hw
  have hw3 : ((why : Int) != 0) = true := by simpa using hw
  simp only [NTold]
  have HB := hidden (wiped_ok (kb := kb) (Keeps.refl (fun k => k = g ∨ k = h) w) h1 why)
  clear h1 h2 h3 h7 h8
  go_enter Tryd.func27, Tryd.ntmps27
  go_wp2
  refine scope_forward 3 ?_
  go_wp2
  go_step3
  refine .inr ⟨_, rfl, ?_⟩
  go_wp2
  go_step3
  go_wp2
  simp only [hops]
  go_ret3
  exact ⟨rfl, HB.out.1, HB.out.2⟩

theorem lenE_six {key : List UInt8} {L : Nat} (h : lenE key L = 0) : 6 ≤ L := by
  rw [lenE] at h
  split at h
  · cases h
  · split at h
    · cases h
    · omega
theorem elemU8 : Tryd.prog.underlying 22 = some (.slice (Tryd.prog.elem 22)) := by kernel_rfl
theorem elemEq : Tryd.prog.elem 22 = 5 := by kernel_rfl
theorem run_mid (b o n cap l h : Nat) (h1 : l ≤ h) (h2 : h ≤ cap) (h3 : l < cap) (w : World) : (Instr.sliceAt 22 (.slice (some ⟨b, o, none⟩) n cap) (some (.int .i64 (l : Int))) (some (.int .i64 (h : Int))) none).run Tryd.prog w = .ok (.slice (some ⟨b, o + l, none⟩) (h - l) (cap - l)) w := by
  obtain ⟨i0, hi, hz0, hz1, hz2⟩ := info_parts Tryd.infoU8
  rw [run_sliceAt_slice w _ _ _ _ _ elemU8, run_slice_lh w _ _ _ _ elemU8 _ _ _ _ (by omega) (by omega) (by omega), elemEq]
  simp [sizeOf, typeInfo, hi, hz1, sliced, add_lit', show ¬ cap = l by omega]
section
variable {o : Oper} {ρ : Operand → Value} {w : World} {x : Operand} {v : Value} {Φ : Value → World → Prop}
theorem gives_fieldI0 {g : Nat} (ho : o.op = .fieldAddr 74 x 0) (hx : ρ x = .pointer (some ⟨g, 0, none⟩)) (h : Φ (.pointer (some ⟨g, 0, none⟩)) w) : Gives Tryd.prog o ρ w Φ := by
  refine Gives.value (w' := w) (v := .pointer (some ⟨g, 0, none⟩)) ?_ h
  unfold execOp
  simp only [ho]
  rw [hx]
  kernel_rfl
theorem gives_fieldI1 {g : Nat} (ho : o.op = .fieldAddr 74 x 1) (hx : ρ x = .pointer (some ⟨g, 0, none⟩)) (h : Φ (.pointer (some ⟨g, 2, none⟩)) w) : Gives Tryd.prog o ρ w Φ := by
  refine Gives.value (w' := w) (v := .pointer (some ⟨g, 2, none⟩)) ?_ h
  unfold execOp
  simp only [ho]
  rw [hx]
  kernel_rfl
end

set_option maxHeartbeats 1600000 in
set_option maxRecDepth 100000 in
theorem next_s1 (w : World) {g h : Nat} {kb : Option Nat} {key : List UInt8} {c : Nat} {xs : List UInt8} (i : InS w g h kb key c xs 0) (hl : xs.length ≤ 9500) (h4x : xs.length < 4) :
    Calls Tryd.prog 27 #[.pointer (some ⟨g, 0, none⟩)] w fun e w' => NTold w g h kb key c xs (.short) e w' := by
  have HI := hidden i
  have HMV := hidden (Moved.refl g h kb w)
  have HLN := hidden i.line
  have hbl := i.blockLt
  obtain ⟨⟨kv, hv0, ps, h1, h2, hkb, h3, h4⟩, h5, h6, h7, h8, h9⟩ := i
  obtain ⟨c0, c1, c2, c3, c4, hf⟩ := cells5 h1
  simp only [NTold]
  obtain ⟨a0, p0, rfl⟩ := h3.len
  have hlt : (xs.length : Int) < 4 := by omega
  clear h1 h2 h3 h7 h8 c0 c1 c3 h4x hkb
  go_enter Tryd.func27, Tryd.ntmps27
  go_wp2
  refine scope_forward 3 ?_
  go_wp2
  go_step3
  refine .inr ⟨_, rfl, ?_⟩
  go_wp2
  simp only [hops]
  go_ret3
  exact ⟨rfl, HI.out, HMV.out⟩

set_option maxHeartbeats 1600000 in
set_option maxRecDepth 100000 in
theorem next_b1 (w : World) {g h : Nat} {kb : Option Nat} {key : List UInt8} {c : Nat} {xs : List UInt8} (i : InS w g h kb key c xs 0) (hl : xs.length ≤ 9500) (h4x : 4 ≤ xs.length) (hE : lenE key (lenOf xs) ≠ 0) :
    Calls Tryd.prog 27 #[.pointer (some ⟨g, 0, none⟩)] w fun e w' => NTold w g h kb key c xs (.bad (lenE key (lenOf xs))) e w' := by
  have HI := hidden i
  have HMV := hidden (Moved.refl g h kb w)
  have HLN := hidden i.line
  have hbl := i.blockLt
  obtain ⟨⟨kv, hv0, ps, h1, h2, hkb, h3, h4⟩, h5, h6, h7, h8, h9⟩ := i
  obtain ⟨c0, c1, c2, c3, c4, hf⟩ := cells5 h1
  simp only [NTold]
  have HG := hidden h1
  obtain ⟨off, cap, e0, hcap, hcm⟩ : ∃ off cap, hv0 = .slice (some ⟨h, off, none⟩) xs.length cap ∧ xs.length ≤ cap ∧ cap ≤ maxLen := by
    rcases h3 with ⟨_, e, _⟩ | ⟨hne, off, cap, cur, rfl, r2, r3, r4, r5, r6⟩
    · rw [e] at h4x; simp at h4x
    · exact ⟨off, cap, rfl, r4, r5⟩
  have hbs := h3.bsl
  subst e0
  have HBS := hidden hbs
  unfold maxLen at hcm
  have hhd := hbs.head' (n := 4) h4x
  have HHD := hidden hhd
  have hlen4 : (xs.take 4).length = 4 := by rw [List.length_take]; omega
  have hLE := lengthOf_c _ (xs.take 4) hlen4 w hhd HLN.out
  rw [show val (xs.take 4) = lenOf xs from rfl] at hLE
  obtain ⟨n, hn⟩ : ∃ n, n = xs.length := ⟨_, rfl⟩
  have HN := hidden hn
  have hn4 : ¬ (n : Int) < 4 := by omega
  have hc4 : (4 : Int) ≤ (cap : Int) := by omega
  rw [if_neg hE] at hLE
  rw [← hn] at c2 HBS
  have HLE := hidden hLE
  generalize lenE key (lenOf xs) = E at hE HLE ⊢
  have HW := hidden (wiped_ok (kb := kb) (Keeps.refl (fun k => k = g ∨ k = h) w) h1 E)
  have hE3 : ((E : Int) != 0) = true := by simpa using hE
  clear h1 h2 h3 h7 h8 h4x hkb hbs hhd hlen4 hLE hn hE HG
  go_enter Tryd.func27, Tryd.ntmps27
  go_wp2
  refine scope_forward 3 ?_
  go_wp2_with fail
  refine HLE.out.mono ?_
  rintro e w2 ⟨rfl, hw2⟩
  subst hw2
  go_wp2
  go_step3
  refine .inr ⟨_, rfl, ?_⟩
  go_wp2
  go_step3
  go_wp2
  simp only [hops]
  go_ret3
  exact ⟨rfl, HW.out.1, HW.out.2⟩

set_option maxHeartbeats 1600000 in
set_option maxRecDepth 100000 in
theorem next_s2 (w : World) {g h : Nat} {kb : Option Nat} {key : List UInt8} {c : Nat} {xs : List UInt8} (i : InS w g h kb key c xs 0) (hl : xs.length ≤ 9500) (h4x : 4 ≤ xs.length) (hE : lenE key (lenOf xs) = 0) (hsh : xs.length < 4 + lenOf xs + tagN key) :
    Calls Tryd.prog 27 #[.pointer (some ⟨g, 0, none⟩)] w fun e w' => NTold w g h kb key c xs (.short) e w' := by
  have HI := hidden i
  have HMV := hidden (Moved.refl g h kb w)
  have HLN := hidden i.line
  have hbl := i.blockLt
  obtain ⟨⟨kv, hv0, ps, h1, h2, hkb, h3, h4⟩, h5, h6, h7, h8, h9⟩ := i
  obtain ⟨c0, c1, c2, c3, c4, hf⟩ := cells5 h1
  simp only [NTold]
  have HG := hidden h1
  obtain ⟨off, cap, e0, hcap, hcm⟩ : ∃ off cap, hv0 = .slice (some ⟨h, off, none⟩) xs.length cap ∧ xs.length ≤ cap ∧ cap ≤ maxLen := by
    rcases h3 with ⟨_, e, _⟩ | ⟨hne, off, cap, cur, rfl, r2, r3, r4, r5, r6⟩
    · rw [e] at h4x; simp at h4x
    · exact ⟨off, cap, rfl, r4, r5⟩
  have hbs := h3.bsl
  subst e0
  have HBS := hidden hbs
  unfold maxLen at hcm
  have hhd := hbs.head' (n := 4) h4x
  have HHD := hidden hhd
  have hlen4 : (xs.take 4).length = 4 := by rw [List.length_take]; omega
  have hLE := lengthOf_c _ (xs.take 4) hlen4 w hhd HLN.out
  rw [show val (xs.take 4) = lenOf xs from rfl] at hLE
  obtain ⟨n, hn⟩ : ∃ n, n = xs.length := ⟨_, rfl⟩
  have HN := hidden hn
  have hn4 : ¬ (n : Int) < 4 := by omega
  have hc4 : (4 : Int) ≤ (cap : Int) := by omega
  rw [if_pos hE, hE] at hLE
  have HLE := hidden hLE
  have HBH := hidden (behind_c w HLN.out)
  rw [← hn] at c2 HBS
  have hL35 : lenOf xs ≤ 35000 := by
    rw [lenE] at hE
    split at hE
    · cases hE
    · omega
  have hL6 := lenE_six hE
  have htg : tagN key ≤ 16 := by unfold tagN; split <;> omega
  rw [← hn] at hsh
  generalize lenOf xs = L at hL35 hL6 HLE hsh
  generalize tagN key = T at htg HBH hsh
  have hcmp : (n : Int) < 4 + (L : Int) + (T : Int) := by omega
  clear h1 h2 h3 h7 h8 c0 c1 c3 h4x hkb hbs hhd hlen4 hLE hn hE HG
  go_enter Tryd.func27, Tryd.ntmps27
  go_wp2
  refine scope_forward 3 ?_
  go_wp2_with fail
  refine HLE.out.mono ?_
  rintro e w2 ⟨rfl, hw2⟩
  subst hw2
  go_wp2_with fail
  refine HBH.out.mono ?_
  rintro e w3 ⟨rfl, hw3⟩
  subst hw3
  go_wp2
  go_step3
  refine .inr ⟨_, rfl, ?_⟩
  go_wp2
  simp only [hops]
  go_ret3
  exact ⟨rfl, HI.out, HMV.out⟩

set_option maxHeartbeats 1600000 in
set_option maxRecDepth 100000 in
theorem next_b2 (w : World) {g h : Nat} {kb : Option Nat} {key : List UInt8} {c : Nat} {xs : List UInt8} (i : InS w g h kb key c xs 0) (hl : xs.length ≤ 9500) (hcl : Cl w) (h4x : 4 ≤ xs.length) (hE : lenE key (lenOf xs) = 0) (hsh : 4 + lenOf xs + tagN key ≤ xs.length) (hO : openedE key c xs ≠ 0) :
    Calls Tryd.prog 27 #[.pointer (some ⟨g, 0, none⟩)] w fun e w' => NTold w g h kb key c xs (.bad (openedE key c xs)) e w' := by
  have HI := hidden i
  have HMV := hidden (Moved.refl g h kb w)
  have HLN := hidden i.line
  have hbl := i.blockLt
  obtain ⟨⟨kv, hv0, ps, h1, h2, hkb, h3, h4⟩, h5, h6, h7, h8, h9⟩ := i
  obtain ⟨c0, c1, c2, c3, c4, hf⟩ := cells5 h1
  simp only [NTold]
  have HCL := hidden hcl
  have HG := hidden h1
  obtain ⟨off, cap, e0, hcap, hcm⟩ : ∃ off cap, hv0 = .slice (some ⟨h, off, none⟩) xs.length cap ∧ xs.length ≤ cap ∧ cap ≤ maxLen := by
    rcases h3 with ⟨_, e, _⟩ | ⟨hne, off, cap, cur, rfl, r2, r3, r4, r5, r6⟩
    · rw [e] at h4x; simp at h4x
    · exact ⟨off, cap, rfl, r4, r5⟩
  have hbs := h3.bsl
  subst e0
  have HBS := hidden hbs
  unfold maxLen at hcm
  have hhd := hbs.head' (n := 4) h4x
  have HHD := hidden hhd
  have hlen4 : (xs.take 4).length = 4 := by rw [List.length_take]; omega
  have hLE := lengthOf_c _ (xs.take 4) hlen4 w hhd HLN.out
  rw [show val (xs.take 4) = lenOf xs from rfl] at hLE
  obtain ⟨n, hn⟩ : ∃ n, n = xs.length := ⟨_, rfl⟩
  have HN := hidden hn
  have hn4 : ¬ (n : Int) < 4 := by omega
  have hc4 : (4 : Int) ≤ (cap : Int) := by omega
  rw [if_pos hE, hE] at hLE
  have HLE := hidden hLE
  have HBH := hidden (behind_c w HLN.out)
  rw [← hn] at c2 HBS
  have hL35 : lenOf xs ≤ 35000 := by
    rw [lenE] at hE
    split at hE
    · cases hE
    · omega
  have hL6 := lenE_six hE
  have htg : tagN key ≤ 16 := by unfold tagN; split <;> omega
  have hpart := hbs.part (i := 4) (j := lenOf xs + tagN key) (by omega)
  have HOPEN : Hid (∀ wx : World, Ex w wx → Calls Tryd.prog 43 #[.pointer (some ⟨g, 0, none⟩), .slice (some ⟨h, off, none⟩) 4 cap, .slice (some ⟨h, off + 4, none⟩) (lenOf xs + tagN key) (cap - 4)] wx fun e w' => ∃ v, e = .returned v ∧ Ex wx w' ∧ (Fact.told (openedT key c xs) ((openedE key c xs : Nat) : Int)).holds v w') := by
    intro wx he
    refine (open_c wx (HLN.out.fresh he) (HCL.out.fresh he) _ _ (xs.take 4) (bodyAt key xs) (HHD.out.fresh he) (hpart.fresh he) (by omega) (by rw [bodyAt, List.length_take, List.length_drop]; omega)).mono ?_
    rintro e w' ⟨hx, v, rfl, hb⟩
    exact ⟨_, rfl, hx, v, rfl, hb⟩
  rw [← hn] at hsh
  have hsz : 4 + lenOf xs + tagN key - 4 = lenOf xs + tagN key := by omega
  generalize hLL : lenOf xs = L at hL35 hL6 HLE hsh HOPEN hsz
  generalize hTT : tagN key = T at htg HBH hsh HOPEN hsz
  obtain ⟨sz, hsze⟩ : ∃ sz, sz = 4 + L + T := ⟨_, rfl⟩
  have HSZ := hidden hsze
  have hcmp : ¬ (n : Int) < 4 + (L : Int) + (T : Int) := by omega
  have hIszz : 4 + (L : Int) + (T : Int) = (sz : Int) := by omega
  have HSL : Hid (∀ wx : World, (Instr.sliceAt 22 (.slice (some ⟨h, off, none⟩) n cap) (some (.int .i64 4)) (some (.int .i64 (sz : Int))) none).run Tryd.prog wx = .ok (.slice (some ⟨h, off + 4, none⟩) (L + T) (cap - 4)) wx) := by
    intro wx
    have := run_mid h off n cap 4 sz (by omega) (by omega) (by omega) wx
    rw [show sz - 4 = L + T by omega] at this
    exact this
  have HC2 := hidden c2
  generalize openedE key c xs = En at hO HOPEN ⊢
  generalize openedT key c xs = Tn at HOPEN
  have hO3 : ((En : Int) != 0) = true := by simpa using hO
  clear h1 h2 h3 h8 c0 c1 c3 h4x hbs hhd hlen4 hLE hn hE hpart hLL hTT hsz
  clear hcl hkb h7 hO hsze
  go_enter Tryd.func27, Tryd.ntmps27
  go_wp2
  refine scope_forward 3 ?_
  go_wp2_with fail
  refine HLE.out.mono ?_
  rintro e w2 ⟨rfl, hw2⟩
  subst hw2
  go_wp2_with fail
  refine HBH.out.mono ?_
  rintro e w3 ⟨rfl, hw3⟩
  subst hw3
  go_wp2_with fail
  refine region_free [(.val (.pointer (some ⟨g, 0, none⟩))), (.val (.pointer (some ⟨g, 0, none⟩))), (.val (.pointer (some ⟨g, 0, none⟩))), (.val (.slice (some ⟨h, off, none⟩) 4 cap)), (.val (.pointer (some ⟨g, 0, none⟩))), (.val (.pointer (some ⟨g, 0, none⟩))), (.val (.pointer (some ⟨g, 2, none⟩))), (.val (.slice (some ⟨h, off, none⟩) n cap)), (.val (.int .i64 (sz : Int))), (.val (.slice (some ⟨h, off + 4, none⟩) (L + T) (cap - 4))), (.told Tn (En : Int)), (.told Tn (En : Int)), (.bsl Tn), (.val (.int .i64 (En : Int))), (.bsl Tn), (.val (.int .i64 (En : Int)))] (by kernel_rfl) ?_ ?_
  · refine req_cons (.val (.pointer (some ⟨g, 0, none⟩))) (by kernel_rfl) (fun vs w1 he hd => StepG.plain (by kernel_rfl) (gives_move (x := (.tmp 0)) (v := (.pointer (some ⟨g, 0, none⟩))) (by kernel_rfl) (by kernel_rfl) ⟨Ex.refl _, rfl⟩)) ?_
    refine req_cons (.val (.pointer (some ⟨g, 0, none⟩))) (by kernel_rfl) (fun vs w1 he hd => StepG.plain (by kernel_rfl) (gives_nil (x := .tmp 53) (by kernel_rfl) (Eq.trans (b := vs 0) (by kernel_rfl) (hd 0 (.val (.pointer (some ⟨g, 0, none⟩))) (by kernel_rfl) (by kernel_rfl))) ⟨Ex.refl _, rfl⟩)) ?_
    refine req_cons (.val (.pointer (some ⟨g, 0, none⟩))) (by kernel_rfl) (fun vs w1 he hd => StepG.plain (by kernel_rfl) (gives_fieldI0 (x := .tmp 54) (by kernel_rfl) (Eq.trans (b := vs 1) (by kernel_rfl) (hd 1 (.val (.pointer (some ⟨g, 0, none⟩))) (by kernel_rfl) (by kernel_rfl))) ⟨Ex.refl _, rfl⟩)) ?_
    refine req_cons (.val (.slice (some ⟨h, off, none⟩) 4 cap)) (by kernel_rfl) (fun vs w1 he hd => StepG.plain (by kernel_rfl) (gives_move (x := (.tmp 5)) (v := (.slice (some ⟨h, off, none⟩) 4 cap)) (by kernel_rfl) (by kernel_rfl) ⟨Ex.refl _, rfl⟩)) ?_
    refine req_cons (.val (.pointer (some ⟨g, 0, none⟩))) (by kernel_rfl) (fun vs w1 he hd => StepG.plain (by kernel_rfl) (gives_move (x := (.tmp 0)) (v := (.pointer (some ⟨g, 0, none⟩))) (by kernel_rfl) (by kernel_rfl) ⟨Ex.refl _, rfl⟩)) ?_
    refine req_cons (.val (.pointer (some ⟨g, 0, none⟩))) (by kernel_rfl) (fun vs w1 he hd => StepG.plain (by kernel_rfl) (gives_nil (x := .tmp 57) (by kernel_rfl) (Eq.trans (b := vs 4) (by kernel_rfl) (hd 4 (.val (.pointer (some ⟨g, 0, none⟩))) (by kernel_rfl) (by kernel_rfl))) ⟨Ex.refl _, rfl⟩)) ?_
    refine req_cons (.val (.pointer (some ⟨g, 2, none⟩))) (by kernel_rfl) (fun vs w1 he hd => StepG.plain (by kernel_rfl) (gives_fieldI1 (x := .tmp 58) (by kernel_rfl) (Eq.trans (b := vs 5) (by kernel_rfl) (hd 5 (.val (.pointer (some ⟨g, 0, none⟩))) (by kernel_rfl) (by kernel_rfl))) ⟨Ex.refl _, rfl⟩)) ?_
    refine req_cons (.val (.slice (some ⟨h, off, none⟩) n cap)) (by kernel_rfl) (fun vs w1 he hd => StepG.plain (by kernel_rfl) (gives_load (x := .tmp 59) (v := (.slice (some ⟨h, off, none⟩) n cap)) (by kernel_rfl) (Eq.trans (b := vs 6) (by kernel_rfl) (hd 6 (.val (.pointer (some ⟨g, 2, none⟩))) (by kernel_rfl) (by kernel_rfl))) (cell_kept HC2.out he) ⟨Ex.refl _, rfl⟩)) ?_
    refine req_cons (.val (.int .i64 (sz : Int))) (by kernel_rfl) (fun vs w1 he hd => StepG.plain (by kernel_rfl) (gives_move (x := (.tmp 9)) (v := (.int .i64 (sz : Int))) (by kernel_rfl) (by kernel_rfl) ⟨Ex.refl _, rfl⟩)) ?_
    refine req_cons (.val (.slice (some ⟨h, off + 4, none⟩) (L + T) (cap - 4))) (by kernel_rfl) (fun vs w1 he hd => StepG.plain (by kernel_rfl) (gives_slice (x := .tmp 60) (lo := some (.const (.int .i64 4))) (hi := some (.tmp 61)) (mx := none) (v := (.slice (some ⟨h, off + 4, none⟩) (L + T) (cap - 4))) (by kernel_rfl) (by rw [show (actsTo _ _ _ vs _).eval (.tmp 60) = (.slice (some ⟨h, off, none⟩) n cap) from Eq.trans (b := vs 7) (by kernel_rfl) (hd 7 (.val (.slice (some ⟨h, off, none⟩) n cap)) (by kernel_rfl) (by kernel_rfl)), show Option.map (actsTo _ _ _ vs _).eval (some (.tmp 61)) = some (.int .i64 (sz : Int)) from congrArg some (Eq.trans (b := vs 8) (by kernel_rfl) (hd 8 (.val (.int .i64 (sz : Int))) (by kernel_rfl) (by kernel_rfl)))]; exact HSL.out _) ⟨Ex.refl _, rfl⟩)) ?_
    refine req_cons (.told Tn (En : Int)) (by kernel_rfl) (fun vs w1 he hd => StepG.plain (by kernel_rfl) (gives_call (f := 43) (xs := #[(.tmp 55), (.tmp 56), (.tmp 62)]) (ts := #[61, 22, 22]) (vs := #[(vs 2), (vs 3), (vs 9)]) (by kernel_rfl) (by kernel_rfl) (by kernel_rfl) Tryd.func43 (by kernel_rfl) (by kernel_rfl) (by rw [show vs 2 = .pointer (some ⟨g, 0, none⟩) from (hd 2 (.val (.pointer (some ⟨g, 0, none⟩))) (by kernel_rfl) (by kernel_rfl)), show vs 3 = (.slice (some ⟨h, off, none⟩) 4 cap) from (hd 3 (.val (.slice (some ⟨h, off, none⟩) 4 cap)) (by kernel_rfl) (by kernel_rfl)), show vs 9 = (.slice (some ⟨h, off + 4, none⟩) (L + T) (cap - 4)) from (hd 9 (.val (.slice (some ⟨h, off + 4, none⟩) (L + T) (cap - 4))) (by kernel_rfl) (by kernel_rfl))]; exact HOPEN.out _ he))) ?_
    refine req_cons (.told Tn (En : Int)) (by kernel_rfl) (fun vs w1 he hd => StepG.plain (by kernel_rfl) (gives_move (x := (.tmp 63)) (v := (vs 10)) (by kernel_rfl) (by kernel_rfl) ⟨Ex.refl _, (hd 10 (.told Tn (En : Int)) (by kernel_rfl) (by kernel_rfl))⟩)) ?_
    refine req_cons (.bsl Tn) (by kernel_rfl) (fun vs w1 he hd => StepG.plain (by kernel_rfl) (gives_ext0 (n := (En : Int)) (x := .tmp 52) (v := vs 11) (by kernel_rfl) (by kernel_rfl) (hd 11 (.told Tn (En : Int)) (by kernel_rfl) (by kernel_rfl)))) ?_
    refine req_cons (.val (.int .i64 (En : Int))) (by kernel_rfl) (fun vs w1 he hd => StepG.plain (by kernel_rfl) (gives_ext1 (xs := Tn) (x := .tmp 52) (v := vs 11) (by kernel_rfl) (by kernel_rfl) (hd 11 (.told Tn (En : Int)) (by kernel_rfl) (by kernel_rfl)))) ?_
    refine req_cons (.bsl Tn) (by kernel_rfl) (fun vs w1 he hd => StepG.plain (by kernel_rfl) (gives_assign (x := (.tmp 64)) (v := (vs 12)) (by kernel_rfl) (by kernel_rfl) ⟨Ex.refl _, (hd 12 (.bsl Tn) (by kernel_rfl) (by kernel_rfl))⟩)) ?_
    refine req_cons (.val (.int .i64 (En : Int))) (by kernel_rfl) (fun vs w1 he hd => StepG.plain (by kernel_rfl) (gives_assign (x := (.tmp 65)) (v := (.int .i64 (En : Int))) (by kernel_rfl) (Eq.trans (b := vs 13) (by kernel_rfl) (hd 13 (.val (.int .i64 (En : Int))) (by kernel_rfl) (by kernel_rfl))) ⟨Ex.refl _, rfl⟩)) ?_
    exact req_nil
  intro vs w4 hx hF
  have e0 : vs 0 = (.pointer (some ⟨g, 0, none⟩)) := told_at hF 0 (.val (.pointer (some ⟨g, 0, none⟩))) (by decide) (by kernel_rfl)
  have e1 : vs 1 = (.pointer (some ⟨g, 0, none⟩)) := told_at hF 1 (.val (.pointer (some ⟨g, 0, none⟩))) (by decide) (by kernel_rfl)
  have e2 : vs 2 = (.pointer (some ⟨g, 0, none⟩)) := told_at hF 2 (.val (.pointer (some ⟨g, 0, none⟩))) (by decide) (by kernel_rfl)
  have e3 : vs 3 = (.slice (some ⟨h, off, none⟩) 4 cap) := told_at hF 3 (.val (.slice (some ⟨h, off, none⟩) 4 cap)) (by decide) (by kernel_rfl)
  have e4 : vs 4 = (.pointer (some ⟨g, 0, none⟩)) := told_at hF 4 (.val (.pointer (some ⟨g, 0, none⟩))) (by decide) (by kernel_rfl)
  have e5 : vs 5 = (.pointer (some ⟨g, 0, none⟩)) := told_at hF 5 (.val (.pointer (some ⟨g, 0, none⟩))) (by decide) (by kernel_rfl)
  have e6 : vs 6 = (.pointer (some ⟨g, 2, none⟩)) := told_at hF 6 (.val (.pointer (some ⟨g, 2, none⟩))) (by decide) (by kernel_rfl)
  have e7 : vs 7 = (.slice (some ⟨h, off, none⟩) n cap) := told_at hF 7 (.val (.slice (some ⟨h, off, none⟩) n cap)) (by decide) (by kernel_rfl)
  have e8 : vs 8 = (.int .i64 (sz : Int)) := told_at hF 8 (.val (.int .i64 (sz : Int))) (by decide) (by kernel_rfl)
  have e9 : vs 9 = (.slice (some ⟨h, off + 4, none⟩) (L + T) (cap - 4)) := told_at hF 9 (.val (.slice (some ⟨h, off + 4, none⟩) (L + T) (cap - 4))) (by decide) (by kernel_rfl)
  have e13 : vs 13 = (.int .i64 (En : Int)) := told_at hF 13 (.val (.int .i64 (En : Int))) (by decide) (by kernel_rfl)
  have e15 : vs 15 = (.int .i64 (En : Int)) := told_at hF 15 (.val (.int .i64 (En : Int))) (by decide) (by kernel_rfl)
  have HB14 := hidden (told_at hF 14 (.bsl Tn) (by decide) (by kernel_rfl))
  simp only [List.length_cons, List.length_nil, actsTo, if_true, dstOf, List.getElem?_toArray, List.getElem?_cons_succ, List.getElem?_cons_zero, Option.bind_some, Act.put, List.setIfInBounds_toArray, List.set_cons_zero, List.set_cons_succ]
  simp only [e0, e1, e2, e3, e4, e5, e6, e7, e8, e9, e13, e15]
  generalize vs 10 = y10
  generalize vs 11 = y11
  generalize vs 12 = y12
  generalize vs 14 = y14 at HB14 ⊢
  clear hF e0 e1 e2 e3 e4 e5 e6 e7 e8 e9 e13 e15 vs
  have HX := hidden hx
  clear hx
  have hg4 := ((Keeps.ofFresh (S := fun _ => False) HX.out).block g hbl.1 (fun h => h)).trans HG.out
  have HW := hidden (wiped_ok (kb := kb) (Keeps.ofFresh (S := fun k => k = g ∨ k = h) HX.out) hg4 En)
  obtain ⟨d0, d1, d2, d3, d4, hf4⟩ := cells5 hg4
  clear hg4 c2 c4 hf HC2 HG
  go_wp2
  go_step3
  refine .inr ⟨_, rfl, ?_⟩
  go_wp2
  go_step3
  go_wp2
  simp only [hops]
  go_ret3
  exact ⟨rfl, HW.out.1, HW.out.2⟩

theorem opened_len {key : List UInt8} (c : Nat) (xs : List UInt8) (hsh : 4 + lenOf xs + tagN key ≤ xs.length) (hO : openedE key c xs = 0) : (openedT key c xs).length = lenOf xs := by
  have hb : (bodyAt key xs).length = lenOf xs + tagN key := by rw [bodyAt, List.length_take, List.length_drop]; omega
  by_cases h : key = []
  · rw [openedT, if_pos h, hb, tagN, if_pos h]; rfl
  · rw [openedE, if_neg h] at hO
    rw [openedT, if_neg h, openT, if_pos hO, xorL_length, List.length_take, hb, tagN, if_neg h]; omega

set_option maxHeartbeats 1600000 in
set_option maxRecDepth 100000 in
theorem next_b3 (w : World) {g h : Nat} {kb : Option Nat} {key : List UInt8} {c : Nat} {xs : List UInt8} (i : InS w g h kb key c xs 0) (hl : xs.length ≤ 9500) (hcl : Cl w) (h4x : 4 ≤ xs.length) (hE : lenE key (lenOf xs) = 0) (hsh : 4 + lenOf xs + tagN key ≤ xs.length) (hO : openedE key c xs = 0) (hP : payE (openedT key c xs) ≠ 0) :
    Calls Tryd.prog 27 #[.pointer (some ⟨g, 0, none⟩)] w fun e w' => NTold w g h kb key c xs (.bad (payE (openedT key c xs))) e w' := by
  have HI := hidden i
  have HMV := hidden (Moved.refl g h kb w)
  have HLN := hidden i.line
  have hbl := i.blockLt
  obtain ⟨⟨kv, hv0, ps, h1, h2, hkb, h3, h4⟩, h5, h6, h7, h8, h9⟩ := i
  obtain ⟨c0, c1, c2, c3, c4, hf⟩ := cells5 h1
  simp only [NTold]
  have HCL := hidden hcl
  have hTl : 1 ≤ (openedT key c xs).length ∧ (openedT key c xs).length ≤ 1000000 := by
    have := opened_len c xs hsh hO
    have := lenE_six hE
    omega
  have HG := hidden h1
  obtain ⟨off, cap, e0, hcap, hcm⟩ : ∃ off cap, hv0 = .slice (some ⟨h, off, none⟩) xs.length cap ∧ xs.length ≤ cap ∧ cap ≤ maxLen := by
    rcases h3 with ⟨_, e, _⟩ | ⟨hne, off, cap, cur, rfl, r2, r3, r4, r5, r6⟩
    · rw [e] at h4x; simp at h4x
    · exact ⟨off, cap, rfl, r4, r5⟩
  have hbs := h3.bsl
  subst e0
  have HBS := hidden hbs
  unfold maxLen at hcm
  have hhd := hbs.head' (n := 4) h4x
  have HHD := hidden hhd
  have hlen4 : (xs.take 4).length = 4 := by rw [List.length_take]; omega
  have hLE := lengthOf_c _ (xs.take 4) hlen4 w hhd HLN.out
  rw [show val (xs.take 4) = lenOf xs from rfl] at hLE
  obtain ⟨n, hn⟩ : ∃ n, n = xs.length := ⟨_, rfl⟩
  have HN := hidden hn
  have hn4 : ¬ (n : Int) < 4 := by omega
  have hc4 : (4 : Int) ≤ (cap : Int) := by omega
  rw [if_pos hE, hE] at hLE
  have HLE := hidden hLE
  have HBH := hidden (behind_c w HLN.out)
  rw [← hn] at c2 HBS
  have hL35 : lenOf xs ≤ 35000 := by
    rw [lenE] at hE
    split at hE
    · cases hE
    · omega
  have hL6 := lenE_six hE
  have htg : tagN key ≤ 16 := by unfold tagN; split <;> omega
  have hpart := hbs.part (i := 4) (j := lenOf xs + tagN key) (by omega)
  have HOPEN : Hid (∀ wx : World, Ex w wx → Calls Tryd.prog 43 #[.pointer (some ⟨g, 0, none⟩), .slice (some ⟨h, off, none⟩) 4 cap, .slice (some ⟨h, off + 4, none⟩) (lenOf xs + tagN key) (cap - 4)] wx fun e w' => ∃ v, e = .returned v ∧ Ex wx w' ∧ (Fact.told (openedT key c xs) ((openedE key c xs : Nat) : Int)).holds v w') := by
    intro wx he
    refine (open_c wx (HLN.out.fresh he) (HCL.out.fresh he) _ _ (xs.take 4) (bodyAt key xs) (HHD.out.fresh he) (hpart.fresh he) (by omega) (by rw [bodyAt, List.length_take, List.length_drop]; omega)).mono ?_
    rintro e w' ⟨hx, v, rfl, hb⟩
    exact ⟨_, rfl, hx, v, rfl, hb⟩
  rw [← hn] at hsh
  have hsz : 4 + lenOf xs + tagN key - 4 = lenOf xs + tagN key := by omega
  generalize hLL : lenOf xs = L at hL35 hL6 HLE hsh HOPEN hsz
  generalize hTT : tagN key = T at htg HBH hsh HOPEN hsz
  obtain ⟨sz, hsze⟩ : ∃ sz, sz = 4 + L + T := ⟨_, rfl⟩
  have HSZ := hidden hsze
  have hcmp : ¬ (n : Int) < 4 + (L : Int) + (T : Int) := by omega
  have hIszz : 4 + (L : Int) + (T : Int) = (sz : Int) := by omega
  have HSL : Hid (∀ wx : World, (Instr.sliceAt 22 (.slice (some ⟨h, off, none⟩) n cap) (some (.int .i64 4)) (some (.int .i64 (sz : Int))) none).run Tryd.prog wx = .ok (.slice (some ⟨h, off + 4, none⟩) (L + T) (cap - 4)) wx) := by
    intro wx
    have := run_mid h off n cap 4 sz (by omega) (by omega) (by omega) wx
    rw [show sz - 4 = L + T by omega] at this
    exact this
  have HC2 := hidden c2
  have HPAY := hidden (fun (wx : World) (vx : Value) (hb : BSl wx vx (openedT key c xs)) => payloadOf_c vx (openedT key c xs) hTl.1 hTl.2 wx hb)
  generalize hEn : openedE key c xs = En at HOPEN
  have HEN : Hid (En = 0) := hEn.symm.trans hO
  generalize payE (openedT key c xs) = pe at hP HPAY ⊢
  generalize payL (openedT key c xs) = pl at HPAY
  generalize openedT key c xs = Tn at HOPEN HPAY hTl
  have hO3 : ((pe : Int) != 0) = true := by simpa using hP
  clear h1 h2 h3 h8 c0 c1 c3 h4x hbs hhd hlen4 hLE hn hE hpart hLL hTT hsz
  clear hcl hkb h7 hO hsze hTl hEn
  go_enter Tryd.func27, Tryd.ntmps27
  go_wp2
  refine scope_forward 3 ?_
  go_wp2_with fail
  refine HLE.out.mono ?_
  rintro e w2 ⟨rfl, hw2⟩
  subst hw2
  go_wp2_with fail
  refine HBH.out.mono ?_
  rintro e w3 ⟨rfl, hw3⟩
  subst hw3
  go_wp2_with fail
  refine region_free [(.val (.pointer (some ⟨g, 0, none⟩))), (.val (.pointer (some ⟨g, 0, none⟩))), (.val (.pointer (some ⟨g, 0, none⟩))), (.val (.slice (some ⟨h, off, none⟩) 4 cap)), (.val (.pointer (some ⟨g, 0, none⟩))), (.val (.pointer (some ⟨g, 0, none⟩))), (.val (.pointer (some ⟨g, 2, none⟩))), (.val (.slice (some ⟨h, off, none⟩) n cap)), (.val (.int .i64 (sz : Int))), (.val (.slice (some ⟨h, off + 4, none⟩) (L + T) (cap - 4))), (.told Tn (En : Int)), (.told Tn (En : Int)), (.bsl Tn), (.val (.int .i64 (En : Int))), (.bsl Tn), (.val (.int .i64 (En : Int)))] (by kernel_rfl) ?_ ?_
  · refine req_cons (.val (.pointer (some ⟨g, 0, none⟩))) (by kernel_rfl) (fun vs w1 he hd => StepG.plain (by kernel_rfl) (gives_move (x := (.tmp 0)) (v := (.pointer (some ⟨g, 0, none⟩))) (by kernel_rfl) (by kernel_rfl) ⟨Ex.refl _, rfl⟩)) ?_
    refine req_cons (.val (.pointer (some ⟨g, 0, none⟩))) (by kernel_rfl) (fun vs w1 he hd => StepG.plain (by kernel_rfl) (gives_nil (x := .tmp 53) (by kernel_rfl) (Eq.trans (b := vs 0) (by kernel_rfl) (hd 0 (.val (.pointer (some ⟨g, 0, none⟩))) (by kernel_rfl) (by kernel_rfl))) ⟨Ex.refl _, rfl⟩)) ?_
    refine req_cons (.val (.pointer (some ⟨g, 0, none⟩))) (by kernel_rfl) (fun vs w1 he hd => StepG.plain (by kernel_rfl) (gives_fieldI0 (x := .tmp 54) (by kernel_rfl) (Eq.trans (b := vs 1) (by kernel_rfl) (hd 1 (.val (.pointer (some ⟨g, 0, none⟩))) (by kernel_rfl) (by kernel_rfl))) ⟨Ex.refl _, rfl⟩)) ?_
    refine req_cons (.val (.slice (some ⟨h, off, none⟩) 4 cap)) (by kernel_rfl) (fun vs w1 he hd => StepG.plain (by kernel_rfl) (gives_move (x := (.tmp 5)) (v := (.slice (some ⟨h, off, none⟩) 4 cap)) (by kernel_rfl) (by kernel_rfl) ⟨Ex.refl _, rfl⟩)) ?_
    refine req_cons (.val (.pointer (some ⟨g, 0, none⟩))) (by kernel_rfl) (fun vs w1 he hd => StepG.plain (by kernel_rfl) (gives_move (x := (.tmp 0)) (v := (.pointer (some ⟨g, 0, none⟩))) (by kernel_rfl) (by kernel_rfl) ⟨Ex.refl _, rfl⟩)) ?_
    refine req_cons (.val (.pointer (some ⟨g, 0, none⟩))) (by kernel_rfl) (fun vs w1 he hd => StepG.plain (by kernel_rfl) (gives_nil (x := .tmp 57) (by kernel_rfl) (Eq.trans (b := vs 4) (by kernel_rfl) (hd 4 (.val (.pointer (some ⟨g, 0, none⟩))) (by kernel_rfl) (by kernel_rfl))) ⟨Ex.refl _, rfl⟩)) ?_
    refine req_cons (.val (.pointer (some ⟨g, 2, none⟩))) (by kernel_rfl) (fun vs w1 he hd => StepG.plain (by kernel_rfl) (gives_fieldI1 (x := .tmp 58) (by kernel_rfl) (Eq.trans (b := vs 5) (by kernel_rfl) (hd 5 (.val (.pointer (some ⟨g, 0, none⟩))) (by kernel_rfl) (by kernel_rfl))) ⟨Ex.refl _, rfl⟩)) ?_
    refine req_cons (.val (.slice (some ⟨h, off, none⟩) n cap)) (by kernel_rfl) (fun vs w1 he hd => StepG.plain (by kernel_rfl) (gives_load (x := .tmp 59) (v := (.slice (some ⟨h, off, none⟩) n cap)) (by kernel_rfl) (Eq.trans (b := vs 6) (by kernel_rfl) (hd 6 (.val (.pointer (some ⟨g, 2, none⟩))) (by kernel_rfl) (by kernel_rfl))) (cell_kept HC2.out he) ⟨Ex.refl _, rfl⟩)) ?_
    refine req_cons (.val (.int .i64 (sz : Int))) (by kernel_rfl) (fun vs w1 he hd => StepG.plain (by kernel_rfl) (gives_move (x := (.tmp 9)) (v := (.int .i64 (sz : Int))) (by kernel_rfl) (by kernel_rfl) ⟨Ex.refl _, rfl⟩)) ?_
    refine req_cons (.val (.slice (some ⟨h, off + 4, none⟩) (L + T) (cap - 4))) (by kernel_rfl) (fun vs w1 he hd => StepG.plain (by kernel_rfl) (gives_slice (x := .tmp 60) (lo := some (.const (.int .i64 4))) (hi := some (.tmp 61)) (mx := none) (v := (.slice (some ⟨h, off + 4, none⟩) (L + T) (cap - 4))) (by kernel_rfl) (by rw [show (actsTo _ _ _ vs _).eval (.tmp 60) = (.slice (some ⟨h, off, none⟩) n cap) from Eq.trans (b := vs 7) (by kernel_rfl) (hd 7 (.val (.slice (some ⟨h, off, none⟩) n cap)) (by kernel_rfl) (by kernel_rfl)), show Option.map (actsTo _ _ _ vs _).eval (some (.tmp 61)) = some (.int .i64 (sz : Int)) from congrArg some (Eq.trans (b := vs 8) (by kernel_rfl) (hd 8 (.val (.int .i64 (sz : Int))) (by kernel_rfl) (by kernel_rfl)))]; exact HSL.out _) ⟨Ex.refl _, rfl⟩)) ?_
    refine req_cons (.told Tn (En : Int)) (by kernel_rfl) (fun vs w1 he hd => StepG.plain (by kernel_rfl) (gives_call (f := 43) (xs := #[(.tmp 55), (.tmp 56), (.tmp 62)]) (ts := #[61, 22, 22]) (vs := #[(vs 2), (vs 3), (vs 9)]) (by kernel_rfl) (by kernel_rfl) (by kernel_rfl) Tryd.func43 (by kernel_rfl) (by kernel_rfl) (by rw [show vs 2 = .pointer (some ⟨g, 0, none⟩) from (hd 2 (.val (.pointer (some ⟨g, 0, none⟩))) (by kernel_rfl) (by kernel_rfl)), show vs 3 = (.slice (some ⟨h, off, none⟩) 4 cap) from (hd 3 (.val (.slice (some ⟨h, off, none⟩) 4 cap)) (by kernel_rfl) (by kernel_rfl)), show vs 9 = (.slice (some ⟨h, off + 4, none⟩) (L + T) (cap - 4)) from (hd 9 (.val (.slice (some ⟨h, off + 4, none⟩) (L + T) (cap - 4))) (by kernel_rfl) (by kernel_rfl))]; exact HOPEN.out _ he))) ?_
    refine req_cons (.told Tn (En : Int)) (by kernel_rfl) (fun vs w1 he hd => StepG.plain (by kernel_rfl) (gives_move (x := (.tmp 63)) (v := (vs 10)) (by kernel_rfl) (by kernel_rfl) ⟨Ex.refl _, (hd 10 (.told Tn (En : Int)) (by kernel_rfl) (by kernel_rfl))⟩)) ?_
    refine req_cons (.bsl Tn) (by kernel_rfl) (fun vs w1 he hd => StepG.plain (by kernel_rfl) (gives_ext0 (n := (En : Int)) (x := .tmp 52) (v := vs 11) (by kernel_rfl) (by kernel_rfl) (hd 11 (.told Tn (En : Int)) (by kernel_rfl) (by kernel_rfl)))) ?_
    refine req_cons (.val (.int .i64 (En : Int))) (by kernel_rfl) (fun vs w1 he hd => StepG.plain (by kernel_rfl) (gives_ext1 (xs := Tn) (x := .tmp 52) (v := vs 11) (by kernel_rfl) (by kernel_rfl) (hd 11 (.told Tn (En : Int)) (by kernel_rfl) (by kernel_rfl)))) ?_
    refine req_cons (.bsl Tn) (by kernel_rfl) (fun vs w1 he hd => StepG.plain (by kernel_rfl) (gives_assign (x := (.tmp 64)) (v := (vs 12)) (by kernel_rfl) (by kernel_rfl) ⟨Ex.refl _, (hd 12 (.bsl Tn) (by kernel_rfl) (by kernel_rfl))⟩)) ?_
    refine req_cons (.val (.int .i64 (En : Int))) (by kernel_rfl) (fun vs w1 he hd => StepG.plain (by kernel_rfl) (gives_assign (x := (.tmp 65)) (v := (.int .i64 (En : Int))) (by kernel_rfl) (Eq.trans (b := vs 13) (by kernel_rfl) (hd 13 (.val (.int .i64 (En : Int))) (by kernel_rfl) (by kernel_rfl))) ⟨Ex.refl _, rfl⟩)) ?_
    exact req_nil
  intro vs w4 hx hF
  have e0 : vs 0 = (.pointer (some ⟨g, 0, none⟩)) := told_at hF 0 (.val (.pointer (some ⟨g, 0, none⟩))) (by decide) (by kernel_rfl)
  have e1 : vs 1 = (.pointer (some ⟨g, 0, none⟩)) := told_at hF 1 (.val (.pointer (some ⟨g, 0, none⟩))) (by decide) (by kernel_rfl)
  have e2 : vs 2 = (.pointer (some ⟨g, 0, none⟩)) := told_at hF 2 (.val (.pointer (some ⟨g, 0, none⟩))) (by decide) (by kernel_rfl)
  have e3 : vs 3 = (.slice (some ⟨h, off, none⟩) 4 cap) := told_at hF 3 (.val (.slice (some ⟨h, off, none⟩) 4 cap)) (by decide) (by kernel_rfl)
  have e4 : vs 4 = (.pointer (some ⟨g, 0, none⟩)) := told_at hF 4 (.val (.pointer (some ⟨g, 0, none⟩))) (by decide) (by kernel_rfl)
  have e5 : vs 5 = (.pointer (some ⟨g, 0, none⟩)) := told_at hF 5 (.val (.pointer (some ⟨g, 0, none⟩))) (by decide) (by kernel_rfl)
  have e6 : vs 6 = (.pointer (some ⟨g, 2, none⟩)) := told_at hF 6 (.val (.pointer (some ⟨g, 2, none⟩))) (by decide) (by kernel_rfl)
  have e7 : vs 7 = (.slice (some ⟨h, off, none⟩) n cap) := told_at hF 7 (.val (.slice (some ⟨h, off, none⟩) n cap)) (by decide) (by kernel_rfl)
  have e8 : vs 8 = (.int .i64 (sz : Int)) := told_at hF 8 (.val (.int .i64 (sz : Int))) (by decide) (by kernel_rfl)
  have e9 : vs 9 = (.slice (some ⟨h, off + 4, none⟩) (L + T) (cap - 4)) := told_at hF 9 (.val (.slice (some ⟨h, off + 4, none⟩) (L + T) (cap - 4))) (by decide) (by kernel_rfl)
  have e13 : vs 13 = (.int .i64 (En : Int)) := told_at hF 13 (.val (.int .i64 (En : Int))) (by decide) (by kernel_rfl)
  have e15 : vs 15 = (.int .i64 (En : Int)) := told_at hF 15 (.val (.int .i64 (En : Int))) (by decide) (by kernel_rfl)
  have HB14 := hidden (told_at hF 14 (.bsl Tn) (by decide) (by kernel_rfl))
  simp only [List.length_cons, List.length_nil, actsTo, if_true, dstOf, List.getElem?_toArray, List.getElem?_cons_succ, List.getElem?_cons_zero, Option.bind_some, Act.put, List.setIfInBounds_toArray, List.set_cons_zero, List.set_cons_succ]
  simp only [e0, e1, e2, e3, e4, e5, e6, e7, e8, e9, e13, e15]
  generalize vs 10 = y10
  generalize vs 11 = y11
  generalize vs 12 = y12
  generalize vs 14 = y14 at HB14 ⊢
  clear hF e0 e1 e2 e3 e4 e5 e6 e7 e8 e9 e13 e15 vs
  have HX := hidden hx
  clear hx
  obtain rfl : En = 0 := HEN.out
  have hg4 := ((Keeps.ofFresh (S := fun _ => False) HX.out).block g hbl.1 (fun h => h)).trans HG.out
  have HG4 := hidden hg4
  clear hg4 c2 c4 hf HC2 hP
  go_wp2_with fail
  refine (HPAY.out _ _ HB14.out).mono ?_
  rintro e w5 ⟨hx5, v5, rfl, _⟩
  have hx45 : Ex _ w5 := Ex.trans HX.out hx5
  have hg5 := ((Keeps.ofFresh (S := fun _ => False) hx45).block g hbl.1 (fun h => h)).trans HG.out
  have HW := hidden (wiped_ok (kb := kb) (Keeps.ofFresh (S := fun k => k = g ∨ k = h) hx45) hg5 pe)
  obtain ⟨d0, d1, d2, d3, d4, hf4⟩ := cells5 hg5
  clear hg5 HG HX HG4 hx5 hx45 HPAY
  go_wp2
  go_step3
  refine .inr ⟨_, rfl, ?_⟩
  go_wp2
  go_step3
  go_wp2
  simp only [hops]
  go_ret3
  exact ⟨rfl, HW.out.1, HW.out.2⟩

set_option maxHeartbeats 1600000 in
set_option maxRecDepth 100000 in
theorem next_t (w : World) {g h : Nat} {kb : Option Nat} {key : List UInt8} {c : Nat} {xs : List UInt8} (i : InS w g h kb key c xs 0) (hl : xs.length ≤ 9500) (hcl : Cl w) (hc : c + 1 ≤ 1000000) (h4x : 4 ≤ xs.length) (hE : lenE key (lenOf xs) = 0) (hsh : 4 + lenOf xs + tagN key ≤ xs.length) (hO : openedE key c xs = 0) (hP : payE (openedT key c xs) = 0) :
    Calls Tryd.prog 27 #[.pointer (some ⟨g, 0, none⟩)] w fun e w' => NTold w g h kb key c xs (.told (payL (openedT key c xs)) (restAt key xs)) e w' := by
  have HI := hidden i
  have HMV := hidden (Moved.refl g h kb w)
  have HLN := hidden i.line
  have hbl := i.blockLt
  obtain ⟨⟨kv, hv0, ps, h1, h2, hkb, h3, h4⟩, h5, h6, h7, h8, h9⟩ := i
  obtain ⟨c0, c1, c2, c3, c4, hf⟩ := cells5 h1
  simp only [NTold]
  have HCL := hidden hcl
  have hTl : 1 ≤ (openedT key c xs).length ∧ (openedT key c xs).length ≤ 1000000 := by
    have := opened_len c xs hsh hO
    have := lenE_six hE
    omega
  have HH8 := hidden h8
  have HG := hidden h1
  obtain ⟨off, cap, e0, hcap, hcm⟩ : ∃ off cap, hv0 = .slice (some ⟨h, off, none⟩) xs.length cap ∧ xs.length ≤ cap ∧ cap ≤ maxLen := by
    rcases h3 with ⟨_, e, _⟩ | ⟨hne, off, cap, cur, rfl, r2, r3, r4, r5, r6⟩
    · rw [e] at h4x; simp at h4x
    · exact ⟨off, cap, rfl, r4, r5⟩
  have hbs := h3.bsl
  subst e0
  have HBS := hidden hbs
  unfold maxLen at hcm
  have hhd := hbs.head' (n := 4) h4x
  have HHD := hidden hhd
  have hlen4 : (xs.take 4).length = 4 := by rw [List.length_take]; omega
  have hLE := lengthOf_c _ (xs.take 4) hlen4 w hhd HLN.out
  rw [show val (xs.take 4) = lenOf xs from rfl] at hLE
  obtain ⟨n, hn⟩ : ∃ n, n = xs.length := ⟨_, rfl⟩
  have HN := hidden hn
  have hn4 : ¬ (n : Int) < 4 := by omega
  have hc4 : (4 : Int) ≤ (cap : Int) := by omega
  rw [if_pos hE, hE] at hLE
  have HLE := hidden hLE
  have HBH := hidden (behind_c w HLN.out)
  rw [← hn] at c2 HBS
  have hL35 : lenOf xs ≤ 35000 := by
    rw [lenE] at hE
    split at hE
    · cases hE
    · omega
  have hL6 := lenE_six hE
  have htg : tagN key ≤ 16 := by unfold tagN; split <;> omega
  rw [show restAt key xs = xs.drop (4 + lenOf xs + tagN key) from rfl]
  have HSX : Hid (4 + lenOf xs + tagN key ≤ xs.length) := hsh
  obtain ⟨sz0, hsz0⟩ : ∃ s, s = 4 + lenOf xs + tagN key := ⟨_, rfl⟩
  rw [← hsz0] at HSX ⊢
  have hpart := hbs.part (i := 4) (j := lenOf xs + tagN key) (by omega)
  have HOPEN : Hid (∀ wx : World, Ex w wx → Calls Tryd.prog 43 #[.pointer (some ⟨g, 0, none⟩), .slice (some ⟨h, off, none⟩) 4 cap, .slice (some ⟨h, off + 4, none⟩) (lenOf xs + tagN key) (cap - 4)] wx fun e w' => ∃ v, e = .returned v ∧ Ex wx w' ∧ (Fact.told (openedT key c xs) ((openedE key c xs : Nat) : Int)).holds v w') := by
    intro wx he
    refine (open_c wx (HLN.out.fresh he) (HCL.out.fresh he) _ _ (xs.take 4) (bodyAt key xs) (HHD.out.fresh he) (hpart.fresh he) (by omega) (by rw [bodyAt, List.length_take, List.length_drop]; omega)).mono ?_
    rintro e w' ⟨hx, v, rfl, hb⟩
    exact ⟨_, rfl, hx, v, rfl, hb⟩
  rw [← hn] at hsh
  have hsz : 4 + lenOf xs + tagN key - 4 = lenOf xs + tagN key := by omega
  generalize hLL : lenOf xs = L at hL35 hL6 HLE hsh HOPEN hsz
  generalize hTT : tagN key = T at htg HBH hsh HOPEN hsz
  obtain ⟨sz, hsze⟩ : ∃ sz, sz = 4 + L + T := ⟨_, rfl⟩
  have HSZ := hidden hsze
  have hcmp : ¬ (n : Int) < 4 + (L : Int) + (T : Int) := by omega
  have hIszz : 4 + (L : Int) + (T : Int) = (sz : Int) := by omega
  have HSL : Hid (∀ wx : World, (Instr.sliceAt 22 (.slice (some ⟨h, off, none⟩) n cap) (some (.int .i64 4)) (some (.int .i64 (sz : Int))) none).run Tryd.prog wx = .ok (.slice (some ⟨h, off + 4, none⟩) (L + T) (cap - 4)) wx) := by
    intro wx
    have := run_mid h off n cap 4 sz (by omega) (by omega) (by omega) wx
    rw [show sz - 4 = L + T by omega] at this
    exact this
  have HC2 := hidden c2
  have HPAY := hidden (fun (wx : World) (vx : Value) (hb : BSl wx vx (openedT key c xs)) => payloadOf_c vx (openedT key c xs) hTl.1 hTl.2 wx hb)
  obtain rfl : sz = sz0 := by rw [hsz0, hsze, hLL, hTT]
  rw [hP] at HPAY
  generalize hEn : openedE key c xs = En at HOPEN
  have HEN : Hid (En = 0) := hEn.symm.trans hO
  generalize payL (openedT key c xs) = pl at HPAY ⊢
  generalize openedT key c xs = Tn at HOPEN HPAY hTl
  have hszp : 1 ≤ sz := by omega
  clear h1 h2 h3 h8 c0 c1 c3 h4x hbs hhd hlen4 hLE hn hE hpart hLL hTT hsz
  clear hcl hkb h7 hO hsze hTl hEn hP hsz0
  go_enter Tryd.func27, Tryd.ntmps27
  go_wp2
  refine scope_forward 3 ?_
  go_wp2_with fail
  refine HLE.out.mono ?_
  rintro e w2 ⟨rfl, hw2⟩
  subst hw2
  go_wp2_with fail
  refine HBH.out.mono ?_
  rintro e w3 ⟨rfl, hw3⟩
  subst hw3
  go_wp2_with fail
  refine region_free [(.val (.pointer (some ⟨g, 0, none⟩))), (.val (.pointer (some ⟨g, 0, none⟩))), (.val (.pointer (some ⟨g, 0, none⟩))), (.val (.slice (some ⟨h, off, none⟩) 4 cap)), (.val (.pointer (some ⟨g, 0, none⟩))), (.val (.pointer (some ⟨g, 0, none⟩))), (.val (.pointer (some ⟨g, 2, none⟩))), (.val (.slice (some ⟨h, off, none⟩) n cap)), (.val (.int .i64 (sz : Int))), (.val (.slice (some ⟨h, off + 4, none⟩) (L + T) (cap - 4))), (.told Tn (En : Int)), (.told Tn (En : Int)), (.bsl Tn), (.val (.int .i64 (En : Int))), (.bsl Tn), (.val (.int .i64 (En : Int)))] (by kernel_rfl) ?_ ?_
  · refine req_cons (.val (.pointer (some ⟨g, 0, none⟩))) (by kernel_rfl) (fun vs w1 he hd => StepG.plain (by kernel_rfl) (gives_move (x := (.tmp 0)) (v := (.pointer (some ⟨g, 0, none⟩))) (by kernel_rfl) (by kernel_rfl) ⟨Ex.refl _, rfl⟩)) ?_
    refine req_cons (.val (.pointer (some ⟨g, 0, none⟩))) (by kernel_rfl) (fun vs w1 he hd => StepG.plain (by kernel_rfl) (gives_nil (x := .tmp 53) (by kernel_rfl) (Eq.trans (b := vs 0) (by kernel_rfl) (hd 0 (.val (.pointer (some ⟨g, 0, none⟩))) (by kernel_rfl) (by kernel_rfl))) ⟨Ex.refl _, rfl⟩)) ?_
    refine req_cons (.val (.pointer (some ⟨g, 0, none⟩))) (by kernel_rfl) (fun vs w1 he hd => StepG.plain (by kernel_rfl) (gives_fieldI0 (x := .tmp 54) (by kernel_rfl) (Eq.trans (b := vs 1) (by kernel_rfl) (hd 1 (.val (.pointer (some ⟨g, 0, none⟩))) (by kernel_rfl) (by kernel_rfl))) ⟨Ex.refl _, rfl⟩)) ?_
    refine req_cons (.val (.slice (some ⟨h, off, none⟩) 4 cap)) (by kernel_rfl) (fun vs w1 he hd => StepG.plain (by kernel_rfl) (gives_move (x := (.tmp 5)) (v := (.slice (some ⟨h, off, none⟩) 4 cap)) (by kernel_rfl) (by kernel_rfl) ⟨Ex.refl _, rfl⟩)) ?_
    refine req_cons (.val (.pointer (some ⟨g, 0, none⟩))) (by kernel_rfl) (fun vs w1 he hd => StepG.plain (by kernel_rfl) (gives_move (x := (.tmp 0)) (v := (.pointer (some ⟨g, 0, none⟩))) (by kernel_rfl) (by kernel_rfl) ⟨Ex.refl _, rfl⟩)) ?_
    refine req_cons (.val (.pointer (some ⟨g, 0, none⟩))) (by kernel_rfl) (fun vs w1 he hd => StepG.plain (by kernel_rfl) (gives_nil (x := .tmp 57) (by kernel_rfl) (Eq.trans (b := vs 4) (by kernel_rfl) (hd 4 (.val (.pointer (some ⟨g, 0, none⟩))) (by kernel_rfl) (by kernel_rfl))) ⟨Ex.refl _, rfl⟩)) ?_
    refine req_cons (.val (.pointer (some ⟨g, 2, none⟩))) (by kernel_rfl) (fun vs w1 he hd => StepG.plain (by kernel_rfl) (gives_fieldI1 (x := .tmp 58) (by kernel_rfl) (Eq.trans (b := vs 5) (by kernel_rfl) (hd 5 (.val (.pointer (some ⟨g, 0, none⟩))) (by kernel_rfl) (by kernel_rfl))) ⟨Ex.refl _, rfl⟩)) ?_
    refine req_cons (.val (.slice (some ⟨h, off, none⟩) n cap)) (by kernel_rfl) (fun vs w1 he hd => StepG.plain (by kernel_rfl) (gives_load (x := .tmp 59) (v := (.slice (some ⟨h, off, none⟩) n cap)) (by kernel_rfl) (Eq.trans (b := vs 6) (by kernel_rfl) (hd 6 (.val (.pointer (some ⟨g, 2, none⟩))) (by kernel_rfl) (by kernel_rfl))) (cell_kept HC2.out he) ⟨Ex.refl _, rfl⟩)) ?_
    refine req_cons (.val (.int .i64 (sz : Int))) (by kernel_rfl) (fun vs w1 he hd => StepG.plain (by kernel_rfl) (gives_move (x := (.tmp 9)) (v := (.int .i64 (sz : Int))) (by kernel_rfl) (by kernel_rfl) ⟨Ex.refl _, rfl⟩)) ?_
    refine req_cons (.val (.slice (some ⟨h, off + 4, none⟩) (L + T) (cap - 4))) (by kernel_rfl) (fun vs w1 he hd => StepG.plain (by kernel_rfl) (gives_slice (x := .tmp 60) (lo := some (.const (.int .i64 4))) (hi := some (.tmp 61)) (mx := none) (v := (.slice (some ⟨h, off + 4, none⟩) (L + T) (cap - 4))) (by kernel_rfl) (by rw [show (actsTo _ _ _ vs _).eval (.tmp 60) = (.slice (some ⟨h, off, none⟩) n cap) from Eq.trans (b := vs 7) (by kernel_rfl) (hd 7 (.val (.slice (some ⟨h, off, none⟩) n cap)) (by kernel_rfl) (by kernel_rfl)), show Option.map (actsTo _ _ _ vs _).eval (some (.tmp 61)) = some (.int .i64 (sz : Int)) from congrArg some (Eq.trans (b := vs 8) (by kernel_rfl) (hd 8 (.val (.int .i64 (sz : Int))) (by kernel_rfl) (by kernel_rfl)))]; exact HSL.out _) ⟨Ex.refl _, rfl⟩)) ?_
    refine req_cons (.told Tn (En : Int)) (by kernel_rfl) (fun vs w1 he hd => StepG.plain (by kernel_rfl) (gives_call (f := 43) (xs := #[(.tmp 55), (.tmp 56), (.tmp 62)]) (ts := #[61, 22, 22]) (vs := #[(vs 2), (vs 3), (vs 9)]) (by kernel_rfl) (by kernel_rfl) (by kernel_rfl) Tryd.func43 (by kernel_rfl) (by kernel_rfl) (by rw [show vs 2 = .pointer (some ⟨g, 0, none⟩) from (hd 2 (.val (.pointer (some ⟨g, 0, none⟩))) (by kernel_rfl) (by kernel_rfl)), show vs 3 = (.slice (some ⟨h, off, none⟩) 4 cap) from (hd 3 (.val (.slice (some ⟨h, off, none⟩) 4 cap)) (by kernel_rfl) (by kernel_rfl)), show vs 9 = (.slice (some ⟨h, off + 4, none⟩) (L + T) (cap - 4)) from (hd 9 (.val (.slice (some ⟨h, off + 4, none⟩) (L + T) (cap - 4))) (by kernel_rfl) (by kernel_rfl))]; exact HOPEN.out _ he))) ?_
    refine req_cons (.told Tn (En : Int)) (by kernel_rfl) (fun vs w1 he hd => StepG.plain (by kernel_rfl) (gives_move (x := (.tmp 63)) (v := (vs 10)) (by kernel_rfl) (by kernel_rfl) ⟨Ex.refl _, (hd 10 (.told Tn (En : Int)) (by kernel_rfl) (by kernel_rfl))⟩)) ?_
    refine req_cons (.bsl Tn) (by kernel_rfl) (fun vs w1 he hd => StepG.plain (by kernel_rfl) (gives_ext0 (n := (En : Int)) (x := .tmp 52) (v := vs 11) (by kernel_rfl) (by kernel_rfl) (hd 11 (.told Tn (En : Int)) (by kernel_rfl) (by kernel_rfl)))) ?_
    refine req_cons (.val (.int .i64 (En : Int))) (by kernel_rfl) (fun vs w1 he hd => StepG.plain (by kernel_rfl) (gives_ext1 (xs := Tn) (x := .tmp 52) (v := vs 11) (by kernel_rfl) (by kernel_rfl) (hd 11 (.told Tn (En : Int)) (by kernel_rfl) (by kernel_rfl)))) ?_
    refine req_cons (.bsl Tn) (by kernel_rfl) (fun vs w1 he hd => StepG.plain (by kernel_rfl) (gives_assign (x := (.tmp 64)) (v := (vs 12)) (by kernel_rfl) (by kernel_rfl) ⟨Ex.refl _, (hd 12 (.bsl Tn) (by kernel_rfl) (by kernel_rfl))⟩)) ?_
    refine req_cons (.val (.int .i64 (En : Int))) (by kernel_rfl) (fun vs w1 he hd => StepG.plain (by kernel_rfl) (gives_assign (x := (.tmp 65)) (v := (.int .i64 (En : Int))) (by kernel_rfl) (Eq.trans (b := vs 13) (by kernel_rfl) (hd 13 (.val (.int .i64 (En : Int))) (by kernel_rfl) (by kernel_rfl))) ⟨Ex.refl _, rfl⟩)) ?_
    exact req_nil
  intro vs w4 hx hF
  have e0 : vs 0 = (.pointer (some ⟨g, 0, none⟩)) := told_at hF 0 (.val (.pointer (some ⟨g, 0, none⟩))) (by decide) (by kernel_rfl)
  have e1 : vs 1 = (.pointer (some ⟨g, 0, none⟩)) := told_at hF 1 (.val (.pointer (some ⟨g, 0, none⟩))) (by decide) (by kernel_rfl)
  have e2 : vs 2 = (.pointer (some ⟨g, 0, none⟩)) := told_at hF 2 (.val (.pointer (some ⟨g, 0, none⟩))) (by decide) (by kernel_rfl)
  have e3 : vs 3 = (.slice (some ⟨h, off, none⟩) 4 cap) := told_at hF 3 (.val (.slice (some ⟨h, off, none⟩) 4 cap)) (by decide) (by kernel_rfl)
  have e4 : vs 4 = (.pointer (some ⟨g, 0, none⟩)) := told_at hF 4 (.val (.pointer (some ⟨g, 0, none⟩))) (by decide) (by kernel_rfl)
  have e5 : vs 5 = (.pointer (some ⟨g, 0, none⟩)) := told_at hF 5 (.val (.pointer (some ⟨g, 0, none⟩))) (by decide) (by kernel_rfl)
  have e6 : vs 6 = (.pointer (some ⟨g, 2, none⟩)) := told_at hF 6 (.val (.pointer (some ⟨g, 2, none⟩))) (by decide) (by kernel_rfl)
  have e7 : vs 7 = (.slice (some ⟨h, off, none⟩) n cap) := told_at hF 7 (.val (.slice (some ⟨h, off, none⟩) n cap)) (by decide) (by kernel_rfl)
  have e8 : vs 8 = (.int .i64 (sz : Int)) := told_at hF 8 (.val (.int .i64 (sz : Int))) (by decide) (by kernel_rfl)
  have e9 : vs 9 = (.slice (some ⟨h, off + 4, none⟩) (L + T) (cap - 4)) := told_at hF 9 (.val (.slice (some ⟨h, off + 4, none⟩) (L + T) (cap - 4))) (by decide) (by kernel_rfl)
  have e13 : vs 13 = (.int .i64 (En : Int)) := told_at hF 13 (.val (.int .i64 (En : Int))) (by decide) (by kernel_rfl)
  have e15 : vs 15 = (.int .i64 (En : Int)) := told_at hF 15 (.val (.int .i64 (En : Int))) (by decide) (by kernel_rfl)
  have HB14 := hidden (told_at hF 14 (.bsl Tn) (by decide) (by kernel_rfl))
  simp only [List.length_cons, List.length_nil, actsTo, if_true, dstOf, List.getElem?_toArray, List.getElem?_cons_succ, List.getElem?_cons_zero, Option.bind_some, Act.put, List.setIfInBounds_toArray, List.set_cons_zero, List.set_cons_succ]
  simp only [e0, e1, e2, e3, e4, e5, e6, e7, e8, e9, e13, e15]
  generalize vs 10 = y10
  generalize vs 11 = y11
  generalize vs 12 = y12
  generalize vs 14 = y14 at HB14 ⊢
  clear hF e0 e1 e2 e3 e4 e5 e6 e7 e8 e9 e13 e15 vs
  have HX := hidden hx
  clear hx
  obtain rfl : En = 0 := HEN.out
  have HI4 := hidden (HI.out.fresh HX.out)
  clear c2 c4 hf HC2 HG
  go_wp2_with fail
  refine (HPAY.out _ _ HB14.out).mono ?_
  rintro e w5 ⟨hx5, v5, rfl, ho5⟩
  have HO5 := hidden (ho5 trivial)
  have HI5 := hidden (HI4.out.fresh hx5)
  have HX5 : Hid (Ex _ w5) := Ex.trans HX.out hx5
  obtain ⟨a5, q5, e5⟩ := HO5.out.shape
  generalize pl.length = pn at e5
  subst e5
  obtain ⟨⟨kv', hv', ps', g1, g2, g3, g4, g5⟩, g6, g7, g8, g9, g10⟩ := HI5.out
  obtain ⟨d0, d1, d2, d3, d4, hf4⟩ := cells5 g1
  have hcx : (c : Int) ≤ 999999 := by omega
  have HII : Hid (InS (w5.setCell ⟨g, 1, none⟩ (.int .u64 ((c : Int) + 1))) g h kb key (c + 1) xs 0) := by
    have hk := keepSet (fun k => k = g) w5 g 1 (.int .u64 ((c : Int) + 1)) rfl
    refine ⟨⟨kv', hv', ps', ?_, g2.keep hk (fun k e hs => g6 (by rw [← g3, e, hs])), g3, g4.keep hk (fun hne e => hne e), g5⟩, g6, g7, fun k e => by rw [World.size_setCell]; exact g8 k e, g9, hc⟩
    rw [(set5 g1 _).2.1]
    simp
  have HKK : Hid (Keeps (fun k => k = g ∨ k = h) w5 (w5.setCell ⟨g, 1, none⟩ (.int .u64 ((c : Int) + 1)))) := keepSet _ w5 g 1 _ (.inl rfl)
  have HBV : Hid (BSl (w5.setCell ⟨g, 1, none⟩ (.int .u64 ((c : Int) + 1))) (.slice a5 pn q5) pl) := HO5.out.bsl.keep HKK.out (fun k e hs => by have := (own_ge HO5.out k e).1; have h7 := HI4.out.blockLt; rcases hs with rfl | rfl <;> omega)
  clear g1 g2 g3 g4 g5 g6 g7 g8 g9 d0 d2 d3 d4 ho5 hx5 HPAY hc
  have hpv : Hid (∀ k, (Value.slice a5 pn q5).ownBlock = some k → w3.heap.size ≤ k ∧ k < w5.heap.size ∧ k ≠ g ∧ k ≠ h) := fun k e => by
    have h1 := own_ge HO5.out k e
    have h2 := HX.out.size
    have h3 := HI.out.blockLt
    exact ⟨by omega, h1.2, by omega, by omega⟩
  go_upto_region 16 with fail
  generalize hw6 : w5.setCell ⟨g, 1, none⟩ (.int .u64 ((c : Int) + 1)) = w6 at HII HKK HBV ⊢
  have HS6 : Hid (w6.heap.size = w5.heap.size) := by show _ = _; rw [← hw6, World.size_setCell]
  clear hw6 d1 hf4
  go_wp2_with fail
  refine (pass_c sz w6 HII.out hszp HSX.out (by omega)).mono ?_
  rintro e w7 ⟨rfl, h', hi7, hm7⟩
  have HF : Hid (BSl w7 (.slice a5 pn q5) pl ∧ (∀ k, (Value.slice a5 pn q5).ownBlock = some k → w3.heap.size ≤ k) ∧ InS w7 g h' kb key (c + 1) (xs.drop sz) 0 ∧ Moved g h h' kb kb w3 w7) := by
    have hs6 := HS6.out
    refine ⟨HBV.out.keep hm7.keeps (fun k e hs => ?_), fun k e => (hpv.out k e).1, hi7, ?_, ?_, .inl rfl⟩
    · have := hpv.out k e
      rcases hs with rfl | rfl
      · exact this.2.2.1 rfl
      · exact this.2.2.2 rfl
    · exact ((Keeps.ofFresh HX5.out).trans HKK.out).trans hm7.keeps
    · have := HX5.out.size
      rcases hm7.row with e | e | e
      · exact .inl e
      · exact .inr (.inl e)
      · exact .inr (.inr (by omega))
  clear hi7 hm7
  go_wp2
  simp only [hops]
  go_ret3
  exact ⟨_, _, rfl, HF.out⟩

theorem next_c (w : World) {g h : Nat} {kb : Option Nat} {key : List UInt8} {c : Nat} {xs : List UInt8} (i : InS w g h kb key c xs 0) (hl : xs.length ≤ 9500) (hcl : Cl w) (hc : c + 1 ≤ 1000000) :
    Calls Tryd.prog 27 #[.pointer (some ⟨g, 0, none⟩)] w fun e w' => NTold w g h kb key c xs (nextR key c xs) e w' := by
  rw [nextR]
  by_cases h1 : xs.length < 4
  · rw [if_pos h1]; exact next_s1 w i hl h1
  rw [if_neg h1]
  by_cases h2 : lenE key (lenOf xs) ≠ 0
  · rw [if_pos h2]; exact next_b1 w i hl (by omega) h2
  rw [if_neg h2]
  have h2' : lenE key (lenOf xs) = 0 := by simpa using h2
  by_cases h3 : xs.length < 4 + lenOf xs + tagN key
  · rw [if_pos h3]; exact next_s2 w i hl (by omega) h2' h3
  rw [if_neg h3]
  by_cases h4 : openedE key c xs ≠ 0
  · rw [if_pos h4]; exact next_b2 w i hl hcl (by omega) h2' (by omega) h4
  rw [if_neg h4]
  have h4' : openedE key c xs = 0 := by simpa using h4
  by_cases h5 : payE (openedT key c xs) ≠ 0
  · rw [if_pos h5]; exact next_b3 w i hl hcl (by omega) h2' (by omega) h4' h5
  rw [if_neg h5]
  exact next_t w i hl hcl hc (by omega) h2' (by omega) h4' (by simpa using h5)
section
variable {o : Oper} {ρ : Operand → Value} {w : World} {x y : Operand} {v : Value} {Φ : Value → World → Prop}
theorem gives_addS {a b : ByteArray} (hs : a.size + b.size ≤ 1000) (ho : o.op = .binOp .add 9 x y 9) (hx : ρ x = .string a) (hy : ρ y = .string b) (h : Φ (.string (a ++ b)) w) : Gives Tryd.prog o ρ w Φ := by
  refine Gives.value (w' := w) (v := .string (a ++ b)) ?_ h
  unfold execOp
  simp only [ho]
  rw [hx, hy]
  simp [eqGuard, binOp, run_string_add_sum w a b (by omega)]
theorem gives_make {n : Nat} (hn : n ≤ 1000000) (ho : o.op = .makeSlice 22 x y) (hx : ρ x = .int .i64 (n : Int)) (hy : ρ y = .int .i64 (n : Int)) : Gives Tryd.prog o ρ w fun v w2 => Ex w w2 ∧ (Fact.bsl (List.replicate n 0)).holds v w2 := by
  refine Gives.value (w' := w.alloc (.cells (bcells (List.replicate n 0)).toArray 5)) (v := .slice (some ⟨w.heap.size, 0, none⟩) n n) ?_ ⟨Ex.alloc w _, BSl.zeros w n hn⟩
  unfold execOp
  simp only [ho]
  rw [hx, hy]
  simp [made_run n hn w]
end
theorem told_valE {w : World} {x : Value} {f : FuncId} {args : Array Value} (h : Calls Tryd.prog f args w fun e w' => e = .returned x ∧ w' = w) : Calls Tryd.prog f args w fun e w' => ∃ v, e = .returned v ∧ Ex w w' ∧ (Fact.val x).holds v w' :=
  h.mono fun _ _ ⟨h1, h2⟩ => ⟨_, h1, by rw [h2]; exact Ex.refl _, rfl⟩
theorem tenS : (⟨#[0, 0, 0, 12, 10, 21]⟩ : ByteArray) ++ ⟨(List.replicate 10 0).toArray⟩ = ⟨(List.toArray ([0, 0, 0, 12, 10, 21] ++ List.replicate 10 0))⟩ := by decide
theorem packet21 : packetL [] 0 [21] = [0, 0, 0, 12, 10, 21] ++ List.replicate 10 0 := by decide

set_option maxHeartbeats 1600000 in
set_option maxRecDepth 100000 in
theorem known_c (w : World) (hcl : Cl w) : Calls Tryd.prog 21 #[] w fun e w' => e = .returned (.bool true) ∧ Below w.heap.size w w' := by
  have HCL := hidden hcl
  clear hcl
  go_enter Tryd.func21, Tryd.ntmps21
  go_wp2_with fail
  refine (newOut_c w).mono ?_
  rintro e w1 ⟨rfl, ho1, hb1⟩
  have HO1 := hidden ho1
  have HB1 := hidden hb1
  generalize hgo : w.heap.size = go at ho1 HO1 HB1 ⊢
  have HGO := hidden hgo
  clear ho1 hb1 hgo
  go_wp2_with fail
  refine (newIn_c w1).mono ?_
  rintro e w2 ⟨rfl, hi2, hb2⟩
  have HI2 := hidden hi2
  have HO2 := hidden (HO1.out.fresh hb2)
  have HB2 : Hid (Below w.heap.size w w2) := by rw [← HGO.out] at HB1; exact HB1.out.trans (hb2.mono HB1.out.size)
  have HGL := hidden HO1.out.blockLt
  generalize hgi : w1.heap.size = gi at hi2 HI2 HGL ⊢
  clear hi2 hb2 hgi HO1 HB1
  have HCL2 := hidden (HCL.out.fresh HB2.out)
  have HL2 := hidden HI2.out.blockLt.1
  go_wp2_with fail
  have hbA := (Below.refl w2.heap.size w2).alloc (Nat.le_refl _) (.cells #[.int .u8 21] 5)
  have hpc := packet_c (.slice (some ⟨w2.heap.size, 0, none⟩) 1 1) [21] (w2.alloc (.cells #[.int .u8 21] 5)) (HO2.out.fresh hbA) (HCL2.out.fresh hbA) (bsl_one w2 21) (by simp) (by simp) (by omega)
  have HI3 := hidden (HI2.out.fresh hbA)
  have HB3 : Hid (Below w.heap.size w (w2.alloc (.cells #[.int .u8 21] 5))) := HB2.out.trans (hbA.mono HB2.out.size)
  generalize w2.alloc (.cells #[.int .u8 21] 5) = w3 at hpc HI3 HB3 ⊢
  have HL3 := hidden HI3.out.blockLt.1
  have HPC := hidden hpc
  clear hbA hpc HI2 HO2
  refine HPC.out.mono ?_
  rintro e w4 ⟨v4, rfl, hrow, _, hk4⟩
  have HPB4 := hidden (BSl.ofRow hrow)
  have HI4 : Hid (InS w4 gi gi none [] 0 [] 0) := HI3.out.keep hk4 (by have := HGL.out; omega) (by have := HGL.out; omega) (by simp)
  have HB4 : Hid (Below w.heap.size w w4) := HB3.out.trans (hk4.below HB3.out.size (fun k e => by rw [e, HGO.out]; exact Nat.le_refl _))
  have HPK := hidden packet21
  have HPL : Hid ((packetL [] 0 [21]).length ≤ 16) := by show _ ≤ _; rw [packet21]; decide
  have HNX : Hid (nextR [] 0 (packetL [] 0 [21]) = .told [21] []) := by
    have := next_packet (key := []) (.inl rfl) 0 [21] (by simp) (by simp) []
    rw [List.append_nil] at this
    exact this
  have hvl := hrow.lt
  clear hrow hk4 HPC HI3 HB3
  generalize packetL [] 0 [21] = PK at HPB4 HPK HPL HNX ⊢
  obtain ⟨ab, cb, e4⟩ := HPB4.out.len
  generalize PK.length = nb at e4
  subst e4
  go_wp2_with fail
  refine (feed_c _ PK w4 HI4.out HPB4.out (by have := HPL.out; simp; omega)).mono ?_
  rintro e w5 ⟨rfl, h5, hi5, hm5⟩
  rw [List.nil_append] at hi5
  have HI5 := hidden hi5
  have HPB5 : Hid (BSl w5 (.slice ab nb cb) PK) := HPB4.out.keep hm5.keeps (fun k e hs => by have := (hvl k e).1; have h9 := HL3.out; rcases hs with rfl | rfl <;> omega)
  have HB5 : Hid (Below w.heap.size w w5) := HB4.out.trans (hm5.keeps.below HB4.out.size (fun k e => by have := HGL.out; have := HGO.out; rcases e with rfl | rfl <;> omega))
  have H5 : Hid (h5 = gi ∨ w4.heap.size ≤ h5) := by rcases hm5.row with e | e | e; exact .inl e; exact .inl e; exact .inr e
  clear hi5 hm5 HPB4
  go_wp2_with fail
  have hnx := next_c w5 HI5.out (by have := HPL.out; omega) (HCL.out.fresh HB5.out) (by omega)
  rw [HNX.out] at hnx
  refine hnx.mono ?_
  rintro e w6 ⟨v6, h6, rfl, hb6, hv6, hi6, hm6⟩
  have HIN := hidden hi6
  have HPP := hidden hb6
  have HPB : Hid (BSl w6 (.slice ab nb cb) PK) := HPB5.out.keep hm6.keeps (fun k e hs => by
    have h1 := hvl k e
    have h9 := HL3.out
    rcases hs with rfl | rfl
    · omega
    · rcases H5.out with e | e <;> omega)
  have HB6 : Hid (Below w.heap.size w w6) := HB5.out.trans (hm6.keeps.below HB5.out.size (fun k e => by
    have h1 := HGL.out
    have h2 := HGO.out
    have h3 := HB4.out.size
    rcases e with rfl | rfl
    · omega
    · rcases H5.out with e | e <;> omega))
  obtain ⟨ap, cp, e6⟩ := hb6.len
  generalize ([21] : List UInt8).length = np at e6
  subst e6
  clear hb6 hv6 hi6 hm6 hnx HNX hvl HPB5 HI5 HI4
  go_wp2_with fail
  refine region_free [(.val (.int .i64 0)), (.val (.bool true)), (.val (.bool true)), (.val (.slice ab nb cb)), (.val (.string ⟨(List.toArray PK)⟩)), (.bsl (List.replicate 10 0)), (.val (.string ⟨(List.toArray (List.replicate 10 0))⟩)), (.val (.string ⟨(List.toArray ([0, 0, 0, 12, 10, 21] ++ List.replicate 10 0))⟩)), (.val (.bool true)), (.val (.bool true)), (.val (.bool true)), (.val (.bool true)), (.val (.bool true)), (.val (.bool true)), (.val (.int .i64 0)), (.val (.bool true)), (.val (.bool true)), (.val (.bool true)), (.val (.slice ap np cp)), (.val (.string ⟨(List.toArray [21])⟩)), (.val (.bool true)), (.val (.bool true)), (.val (.bool true)), (.val (.pointer (some ⟨gi, 0, none⟩))), (.val (.int .i64 0)), (.val (.bool true)), (.val (.bool true)), (.val (.bool true))] (by kernel_rfl) ?_ ?_
  · refine req_cons (.val (.int .i64 0)) (by kernel_rfl) (fun vs w1 he hd => StepG.plain (by kernel_rfl) (gives_move (x := (.tmp 4)) (v := (.int .i64 0)) (by kernel_rfl) (by kernel_rfl) ⟨Ex.refl _, rfl⟩)) ?_
    refine req_cons (.val (.bool true)) (by kernel_rfl) (fun vs w1 he hd => StepG.plain (by kernel_rfl) (gives_eqI (t := 30) (k := .i64) (a := 0) (b := 0) (x := (.tmp 31)) (y := (.const (.int .i64 0))) (r := true) (by kernel_rfl) (Eq.trans (b := vs 0) (by kernel_rfl) (hd 0 (.val (.int .i64 0)) (by kernel_rfl) (by kernel_rfl))) (by kernel_rfl) (by simp) ⟨Ex.refl _, rfl⟩)) ?_
    refine req_cons (.val (.bool true)) (by kernel_rfl) (fun vs w1 he hd => StepG.plain (by kernel_rfl) (gives_move (x := (.tmp 32)) (v := (.bool true)) (by kernel_rfl) (Eq.trans (b := vs 1) (by kernel_rfl) (hd 1 (.val (.bool true)) (by kernel_rfl) (by kernel_rfl))) ⟨Ex.refl _, rfl⟩)) ?_
    refine req_cons (.val (.slice ab nb cb)) (by kernel_rfl) (fun vs w1 he hd => StepG.on (g := 2) (d := 33) (x := true) (v := vs 2) (by kernel_rfl) (by kernel_rfl) (by kernel_rfl) (hd 2 (.val (.bool true)) (by kernel_rfl) (by kernel_rfl)) (gives_move (x := (.tmp 3)) (v := (.slice ab nb cb)) (by kernel_rfl) (by kernel_rfl) ⟨Ex.refl _, rfl⟩)) ?_
    refine req_cons (.val (.string ⟨(List.toArray PK)⟩)) (by kernel_rfl) (fun vs w1 he hd => StepG.on (g := 2) (d := 33) (x := true) (v := vs 2) (by kernel_rfl) (by kernel_rfl) (by kernel_rfl) (hd 2 (.val (.bool true)) (by kernel_rfl) (by kernel_rfl)) (gives_str (x := (.tmp 34)) (v := (.slice ab nb cb)) (xs := PK) (by kernel_rfl) (Eq.trans (b := vs 3) (by kernel_rfl) (hd 3 (.val (.slice ab nb cb)) (by kernel_rfl) (by kernel_rfl))) ((HPB.out.fresh he)) ⟨Ex.refl _, rfl⟩)) ?_
    refine req_cons (.bsl (List.replicate 10 0)) (by kernel_rfl) (fun vs w1 he hd => StepG.on (g := 2) (d := 33) (x := true) (v := vs 2) (by kernel_rfl) (by kernel_rfl) (by kernel_rfl) (hd 2 (.val (.bool true)) (by kernel_rfl) (by kernel_rfl)) (gives_make (n := 10) (by omega) (x := .const (.int .i64 10)) (y := .const (.int .i64 10)) (by kernel_rfl) (by kernel_rfl) (by kernel_rfl))) ?_
    refine req_cons (.val (.string ⟨(List.toArray (List.replicate 10 0))⟩)) (by kernel_rfl) (fun vs w1 he hd => StepG.on (g := 2) (d := 33) (x := true) (v := vs 2) (by kernel_rfl) (by kernel_rfl) (by kernel_rfl) (hd 2 (.val (.bool true)) (by kernel_rfl) (by kernel_rfl)) (gives_str (x := (.tmp 36)) (v := (vs 5)) (xs := (List.replicate 10 0)) (by kernel_rfl) (by kernel_rfl) ((hd 5 (.bsl (List.replicate 10 0)) (by kernel_rfl) (by kernel_rfl))) ⟨Ex.refl _, rfl⟩)) ?_
    refine req_cons (.val (.string ⟨(List.toArray ([0, 0, 0, 12, 10, 21] ++ List.replicate 10 0))⟩)) (by kernel_rfl) (fun vs w1 he hd => StepG.on (g := 2) (d := 33) (x := true) (v := vs 2) (by kernel_rfl) (by kernel_rfl) (by kernel_rfl) (hd 2 (.val (.bool true)) (by kernel_rfl) (by kernel_rfl)) (gives_addS (x := .const (.string ⟨#[0, 0, 0, 12, 10, 21]⟩)) (y := .tmp 37) (a := ⟨#[0, 0, 0, 12, 10, 21]⟩) (b := ⟨(List.toArray (List.replicate 10 0))⟩) (by decide) (by kernel_rfl) (by kernel_rfl) (Eq.trans (b := vs 6) (by kernel_rfl) (hd 6 (.val (.string ⟨(List.toArray (List.replicate 10 0))⟩)) (by kernel_rfl) (by kernel_rfl))) ⟨Ex.refl _, congrArg Value.string tenS⟩)) ?_
    refine req_cons (.val (.bool true)) (by kernel_rfl) (fun vs w1 he hd => StepG.on (g := 2) (d := 33) (x := true) (v := vs 2) (by kernel_rfl) (by kernel_rfl) (by kernel_rfl) (hd 2 (.val (.bool true)) (by kernel_rfl) (by kernel_rfl)) (gives_eqS (x := (.tmp 35)) (y := (.tmp 38)) (xs := PK) (ys := ([0, 0, 0, 12, 10, 21] ++ List.replicate 10 0)) (r := true) (by kernel_rfl) (Eq.trans (b := vs 4) (by kernel_rfl) (hd 4 (.val (.string ⟨(List.toArray PK)⟩)) (by kernel_rfl) (by kernel_rfl))) (Eq.trans (b := vs 7) (by kernel_rfl) (hd 7 (.val (.string ⟨(List.toArray ([0, 0, 0, 12, 10, 21] ++ List.replicate 10 0))⟩)) (by kernel_rfl) (by kernel_rfl))) (by rw [HPK.out]; simp) ⟨Ex.refl _, rfl⟩)) ?_
    refine req_cons (.val (.bool true)) (by kernel_rfl) (fun vs w1 he hd => StepG.plain (by kernel_rfl) (gives_pick_t (x := (.tmp 33)) (y := (.tmp 39)) (z := (.const (.bool false))) (v := (.bool true)) (by kernel_rfl) (Eq.trans (b := vs 2) (by kernel_rfl) (hd 2 (.val (.bool true)) (by kernel_rfl) (by kernel_rfl))) (Eq.trans (b := vs 8) (by kernel_rfl) (hd 8 (.val (.bool true)) (by kernel_rfl) (by kernel_rfl))) ⟨Ex.refl _, rfl⟩)) ?_
    refine req_cons (.val (.bool true)) (by kernel_rfl) (fun vs w1 he hd => StepG.plain (by kernel_rfl) (gives_move (x := (.tmp 40)) (v := (.bool true)) (by kernel_rfl) (Eq.trans (b := vs 9) (by kernel_rfl) (hd 9 (.val (.bool true)) (by kernel_rfl) (by kernel_rfl))) ⟨Ex.refl _, rfl⟩)) ?_
    refine req_cons (.val (.bool true)) (by kernel_rfl) (fun vs w1 he hd => StepG.on (g := 10) (d := 41) (x := true) (v := vs 10) (by kernel_rfl) (by kernel_rfl) (by kernel_rfl) (hd 10 (.val (.bool true)) (by kernel_rfl) (by kernel_rfl)) (gives_move (x := (.tmp 6)) (v := (.bool true)) (by kernel_rfl) (by kernel_rfl) ⟨Ex.refl _, rfl⟩)) ?_
    refine req_cons (.val (.bool true)) (by kernel_rfl) (fun vs w1 he hd => StepG.plain (by kernel_rfl) (gives_pick_t (x := (.tmp 41)) (y := (.tmp 42)) (z := (.const (.bool false))) (v := (.bool true)) (by kernel_rfl) (Eq.trans (b := vs 10) (by kernel_rfl) (hd 10 (.val (.bool true)) (by kernel_rfl) (by kernel_rfl))) (Eq.trans (b := vs 11) (by kernel_rfl) (hd 11 (.val (.bool true)) (by kernel_rfl) (by kernel_rfl))) ⟨Ex.refl _, rfl⟩)) ?_
    refine req_cons (.val (.bool true)) (by kernel_rfl) (fun vs w1 he hd => StepG.plain (by kernel_rfl) (gives_move (x := (.tmp 43)) (v := (.bool true)) (by kernel_rfl) (Eq.trans (b := vs 12) (by kernel_rfl) (hd 12 (.val (.bool true)) (by kernel_rfl) (by kernel_rfl))) ⟨Ex.refl _, rfl⟩)) ?_
    refine req_cons (.val (.int .i64 0)) (by kernel_rfl) (fun vs w1 he hd => StepG.on (g := 13) (d := 44) (x := true) (v := vs 13) (by kernel_rfl) (by kernel_rfl) (by kernel_rfl) (hd 13 (.val (.bool true)) (by kernel_rfl) (by kernel_rfl)) (gives_move (x := (.tmp 7)) (v := (.int .i64 0)) (by kernel_rfl) (by kernel_rfl) ⟨Ex.refl _, rfl⟩)) ?_
    refine req_cons (.val (.bool true)) (by kernel_rfl) (fun vs w1 he hd => StepG.on (g := 13) (d := 44) (x := true) (v := vs 13) (by kernel_rfl) (by kernel_rfl) (by kernel_rfl) (hd 13 (.val (.bool true)) (by kernel_rfl) (by kernel_rfl)) (gives_eqI (t := 30) (k := .i64) (a := 0) (b := 0) (x := (.tmp 45)) (y := (.const (.int .i64 0))) (r := true) (by kernel_rfl) (Eq.trans (b := vs 14) (by kernel_rfl) (hd 14 (.val (.int .i64 0)) (by kernel_rfl) (by kernel_rfl))) (by kernel_rfl) (by simp) ⟨Ex.refl _, rfl⟩)) ?_
    refine req_cons (.val (.bool true)) (by kernel_rfl) (fun vs w1 he hd => StepG.plain (by kernel_rfl) (gives_pick_t (x := (.tmp 44)) (y := (.tmp 46)) (z := (.const (.bool false))) (v := (.bool true)) (by kernel_rfl) (Eq.trans (b := vs 13) (by kernel_rfl) (hd 13 (.val (.bool true)) (by kernel_rfl) (by kernel_rfl))) (Eq.trans (b := vs 15) (by kernel_rfl) (hd 15 (.val (.bool true)) (by kernel_rfl) (by kernel_rfl))) ⟨Ex.refl _, rfl⟩)) ?_
    refine req_cons (.val (.bool true)) (by kernel_rfl) (fun vs w1 he hd => StepG.plain (by kernel_rfl) (gives_move (x := (.tmp 47)) (v := (.bool true)) (by kernel_rfl) (Eq.trans (b := vs 16) (by kernel_rfl) (hd 16 (.val (.bool true)) (by kernel_rfl) (by kernel_rfl))) ⟨Ex.refl _, rfl⟩)) ?_
    refine req_cons (.val (.slice ap np cp)) (by kernel_rfl) (fun vs w1 he hd => StepG.on (g := 17) (d := 48) (x := true) (v := vs 17) (by kernel_rfl) (by kernel_rfl) (by kernel_rfl) (hd 17 (.val (.bool true)) (by kernel_rfl) (by kernel_rfl)) (gives_move (x := (.tmp 5)) (v := (.slice ap np cp)) (by kernel_rfl) (by kernel_rfl) ⟨Ex.refl _, rfl⟩)) ?_
    refine req_cons (.val (.string ⟨(List.toArray [21])⟩)) (by kernel_rfl) (fun vs w1 he hd => StepG.on (g := 17) (d := 48) (x := true) (v := vs 17) (by kernel_rfl) (by kernel_rfl) (by kernel_rfl) (hd 17 (.val (.bool true)) (by kernel_rfl) (by kernel_rfl)) (gives_str (x := (.tmp 49)) (v := (.slice ap np cp)) (xs := [21]) (by kernel_rfl) (Eq.trans (b := vs 18) (by kernel_rfl) (hd 18 (.val (.slice ap np cp)) (by kernel_rfl) (by kernel_rfl))) ((HPP.out.fresh he)) ⟨Ex.refl _, rfl⟩)) ?_
    refine req_cons (.val (.bool true)) (by kernel_rfl) (fun vs w1 he hd => StepG.on (g := 17) (d := 48) (x := true) (v := vs 17) (by kernel_rfl) (by kernel_rfl) (by kernel_rfl) (hd 17 (.val (.bool true)) (by kernel_rfl) (by kernel_rfl)) (gives_eqS (x := (.tmp 50)) (y := (.const (.string { data := #[21] }))) (xs := [21]) (ys := [21]) (r := true) (by kernel_rfl) (Eq.trans (b := vs 19) (by kernel_rfl) (hd 19 (.val (.string ⟨(List.toArray [21])⟩)) (by kernel_rfl) (by kernel_rfl))) (by kernel_rfl) (by simp) ⟨Ex.refl _, rfl⟩)) ?_
    refine req_cons (.val (.bool true)) (by kernel_rfl) (fun vs w1 he hd => StepG.plain (by kernel_rfl) (gives_pick_t (x := (.tmp 48)) (y := (.tmp 51)) (z := (.const (.bool false))) (v := (.bool true)) (by kernel_rfl) (Eq.trans (b := vs 17) (by kernel_rfl) (hd 17 (.val (.bool true)) (by kernel_rfl) (by kernel_rfl))) (Eq.trans (b := vs 20) (by kernel_rfl) (hd 20 (.val (.bool true)) (by kernel_rfl) (by kernel_rfl))) ⟨Ex.refl _, rfl⟩)) ?_
    refine req_cons (.val (.bool true)) (by kernel_rfl) (fun vs w1 he hd => StepG.plain (by kernel_rfl) (gives_move (x := (.tmp 52)) (v := (.bool true)) (by kernel_rfl) (Eq.trans (b := vs 21) (by kernel_rfl) (hd 21 (.val (.bool true)) (by kernel_rfl) (by kernel_rfl))) ⟨Ex.refl _, rfl⟩)) ?_
    refine req_cons (.val (.pointer (some ⟨gi, 0, none⟩))) (by kernel_rfl) (fun vs w1 he hd => StepG.on (g := 22) (d := 53) (x := true) (v := vs 22) (by kernel_rfl) (by kernel_rfl) (by kernel_rfl) (hd 22 (.val (.bool true)) (by kernel_rfl) (by kernel_rfl)) (gives_move (x := (.tmp 2)) (v := (.pointer (some ⟨gi, 0, none⟩))) (by kernel_rfl) (by kernel_rfl) ⟨Ex.refl _, rfl⟩)) ?_
    refine req_cons (.val (.int .i64 0)) (by kernel_rfl) (fun vs w1 he hd => StepG.on (g := 22) (d := 53) (x := true) (v := vs 22) (by kernel_rfl) (by kernel_rfl) (by kernel_rfl) (hd 22 (.val (.bool true)) (by kernel_rfl) (by kernel_rfl)) (gives_call (f := 28) (xs := #[(.tmp 54)]) (ts := #[39]) (vs := #[(vs 23)]) (by kernel_rfl) (by kernel_rfl) (by kernel_rfl) Tryd.func28 (by kernel_rfl) (by kernel_rfl) (by rw [show vs 23 = .pointer (some ⟨gi, 0, none⟩) from (hd 23 (.val (.pointer (some ⟨gi, 0, none⟩))) (by kernel_rfl) (by kernel_rfl))]; exact told_valE (held_c _ (HIN.out.fresh he))))) ?_
    refine req_cons (.val (.bool true)) (by kernel_rfl) (fun vs w1 he hd => StepG.on (g := 22) (d := 53) (x := true) (v := vs 22) (by kernel_rfl) (by kernel_rfl) (by kernel_rfl) (hd 22 (.val (.bool true)) (by kernel_rfl) (by kernel_rfl)) (gives_eqI (t := 3) (k := .i64) (a := 0) (b := 0) (x := (.tmp 55)) (y := (.const (.int .i64 0))) (r := true) (by kernel_rfl) (Eq.trans (b := vs 24) (by kernel_rfl) (hd 24 (.val (.int .i64 0)) (by kernel_rfl) (by kernel_rfl))) (by kernel_rfl) (by simp) ⟨Ex.refl _, rfl⟩)) ?_
    refine req_cons (.val (.bool true)) (by kernel_rfl) (fun vs w1 he hd => StepG.plain (by kernel_rfl) (gives_pick_t (x := (.tmp 53)) (y := (.tmp 56)) (z := (.const (.bool false))) (v := (.bool true)) (by kernel_rfl) (Eq.trans (b := vs 22) (by kernel_rfl) (hd 22 (.val (.bool true)) (by kernel_rfl) (by kernel_rfl))) (Eq.trans (b := vs 25) (by kernel_rfl) (hd 25 (.val (.bool true)) (by kernel_rfl) (by kernel_rfl))) ⟨Ex.refl _, rfl⟩)) ?_
    refine req_cons (.val (.bool true)) (by kernel_rfl) (fun vs w1 he hd => StepG.plain (by kernel_rfl) (gives_assign (x := (.tmp 57)) (v := (.bool true)) (by kernel_rfl) (Eq.trans (b := vs 26) (by kernel_rfl) (hd 26 (.val (.bool true)) (by kernel_rfl) (by kernel_rfl))) ⟨Ex.refl _, rfl⟩)) ?_
    exact req_nil
  intro vs w7 hx hF
  have e0 : vs 0 = (.int .i64 0) := told_at hF 0 (.val (.int .i64 0)) (by decide) (by kernel_rfl)
  have e1 : vs 1 = (.bool true) := told_at hF 1 (.val (.bool true)) (by decide) (by kernel_rfl)
  have e2 : vs 2 = (.bool true) := told_at hF 2 (.val (.bool true)) (by decide) (by kernel_rfl)
  have e3 : vs 3 = (.slice ab nb cb) := told_at hF 3 (.val (.slice ab nb cb)) (by decide) (by kernel_rfl)
  have e4 : vs 4 = (.string ⟨(List.toArray PK)⟩) := told_at hF 4 (.val (.string ⟨(List.toArray PK)⟩)) (by decide) (by kernel_rfl)
  have e6 : vs 6 = (.string ⟨(List.toArray (List.replicate 10 0))⟩) := told_at hF 6 (.val (.string ⟨(List.toArray (List.replicate 10 0))⟩)) (by decide) (by kernel_rfl)
  have e7 : vs 7 = (.string ⟨(List.toArray ([0, 0, 0, 12, 10, 21] ++ List.replicate 10 0))⟩) := told_at hF 7 (.val (.string ⟨(List.toArray ([0, 0, 0, 12, 10, 21] ++ List.replicate 10 0))⟩)) (by decide) (by kernel_rfl)
  have e8 : vs 8 = (.bool true) := told_at hF 8 (.val (.bool true)) (by decide) (by kernel_rfl)
  have e9 : vs 9 = (.bool true) := told_at hF 9 (.val (.bool true)) (by decide) (by kernel_rfl)
  have e10 : vs 10 = (.bool true) := told_at hF 10 (.val (.bool true)) (by decide) (by kernel_rfl)
  have e11 : vs 11 = (.bool true) := told_at hF 11 (.val (.bool true)) (by decide) (by kernel_rfl)
  have e12 : vs 12 = (.bool true) := told_at hF 12 (.val (.bool true)) (by decide) (by kernel_rfl)
  have e13 : vs 13 = (.bool true) := told_at hF 13 (.val (.bool true)) (by decide) (by kernel_rfl)
  have e14 : vs 14 = (.int .i64 0) := told_at hF 14 (.val (.int .i64 0)) (by decide) (by kernel_rfl)
  have e15 : vs 15 = (.bool true) := told_at hF 15 (.val (.bool true)) (by decide) (by kernel_rfl)
  have e16 : vs 16 = (.bool true) := told_at hF 16 (.val (.bool true)) (by decide) (by kernel_rfl)
  have e17 : vs 17 = (.bool true) := told_at hF 17 (.val (.bool true)) (by decide) (by kernel_rfl)
  have e18 : vs 18 = (.slice ap np cp) := told_at hF 18 (.val (.slice ap np cp)) (by decide) (by kernel_rfl)
  have e19 : vs 19 = (.string ⟨(List.toArray [21])⟩) := told_at hF 19 (.val (.string ⟨(List.toArray [21])⟩)) (by decide) (by kernel_rfl)
  have e20 : vs 20 = (.bool true) := told_at hF 20 (.val (.bool true)) (by decide) (by kernel_rfl)
  have e21 : vs 21 = (.bool true) := told_at hF 21 (.val (.bool true)) (by decide) (by kernel_rfl)
  have e22 : vs 22 = (.bool true) := told_at hF 22 (.val (.bool true)) (by decide) (by kernel_rfl)
  have e23 : vs 23 = (.pointer (some ⟨gi, 0, none⟩)) := told_at hF 23 (.val (.pointer (some ⟨gi, 0, none⟩))) (by decide) (by kernel_rfl)
  have e24 : vs 24 = (.int .i64 0) := told_at hF 24 (.val (.int .i64 0)) (by decide) (by kernel_rfl)
  have e25 : vs 25 = (.bool true) := told_at hF 25 (.val (.bool true)) (by decide) (by kernel_rfl)
  have e26 : vs 26 = (.bool true) := told_at hF 26 (.val (.bool true)) (by decide) (by kernel_rfl)
  have e27 : vs 27 = (.bool true) := told_at hF 27 (.val (.bool true)) (by decide) (by kernel_rfl)
  simp only [List.length_cons, List.length_nil, actsTo, if_true, dstOf, List.getElem?_toArray, List.getElem?_cons_succ, List.getElem?_cons_zero, Option.bind_some, Act.put, List.setIfInBounds_toArray, List.set_cons_zero, List.set_cons_succ]
  simp only [e0, e1, e2, e3, e4, e6, e7, e8, e9, e10, e11, e12, e13, e14, e15, e16, e17, e18, e19, e20, e21, e22, e23, e24, e25, e26, e27]
  generalize vs 5 = y5
  clear hF e0 e1 e2 e3 e4 e6 e7 e8 e9 e10 e11 e12 e13 e14 e15 e16 e17 e18 e19 e20 e21 e22 e23 e24 e25 e26 e27 vs
  have HB7 : Hid (Below w.heap.size w w7) := HB6.out.trans (Below.mono hx HB6.out.size)
  clear hx
  go_wp2
  go_ret
  exact ⟨rfl, HB7.out⟩
end Go.Proofs.YthkaibkmpenclaaDoor
