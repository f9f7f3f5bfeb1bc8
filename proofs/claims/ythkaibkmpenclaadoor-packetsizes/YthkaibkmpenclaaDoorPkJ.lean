/- An In: its state, and what NewIn, Keys, Feed and Held do. -/
import Derived.Test.YthkaibkmpenclaaDoorPkI
namespace Go.Proofs.YthkaibkmpenclaaDoor
open Go Go.RowKit

/-- An In at block g: its key, in block kb, how many packets it has read, what it holds, in block h, and why it refused. -/
structure InS (w : World) (g h : Nat) (kb : Option Nat) (key : List UInt8) (c : Nat) (xs : List UInt8) (why : Nat) : Prop where
  ex : ∃ kv hv, ∃ ps : Nat, w.heap[g]? = some (.cells #[kv, .int .u64 (c : Int), hv, .int .i64 (ps : Int), .int .i64 (why : Int)] 74 (0, 0)) ∧ BSl w kv key ∧ kv.ownBlock = kb ∧ Row w g h hv xs ∧ ps ≤ xs.length
  ne : kb ≠ some g
  nh : kb ≠ some h
  lt : ∀ k, kb = some k → k < w.heap.size
  ok : KeyOk key
  le : c ≤ 1000000
/-- What a call of an In's may turn. -/
structure Moved (g h h' : Nat) (kb kb' : Option Nat) (w w' : World) : Prop where
  keeps : Keeps (fun k => k = g ∨ k = h) w w'
  row : h' = h ∨ h' = g ∨ w.heap.size ≤ h'
  key : kb' = kb ∨ kb' = none ∨ ∃ k, kb' = some k ∧ w.heap.size ≤ k
theorem Moved.refl (g h : Nat) (kb : Option Nat) (w : World) : Moved g h h kb kb w w := ⟨Keeps.refl _ _, .inl rfl, .inl rfl⟩
theorem Moved.trans {g h1 h2 h3 : Nat} {k1 k2 k3 : Option Nat} {w1 w2 w3 : World} (a : Moved g h1 h2 k1 k2 w1 w2) (b : Moved g h2 h3 k2 k3 w2 w3) : Moved g h1 h3 k1 k3 w1 w3 := by
  have hs := a.keeps.size
  refine ⟨⟨b.keeps.os.trans a.keeps.os, b.keeps.tape.trans a.keeps.tape, b.keeps.output.trans a.keeps.output, Nat.le_trans hs b.keeps.size, fun k hk hn => ?_⟩, ?_, ?_⟩
  · rw [← a.keeps.block k hk hn]
    refine b.keeps.block k (by omega) ?_
    rintro (rfl | rfl)
    · exact hn (.inl rfl)
    · rcases a.row with h | h | h
      · exact hn (.inr h)
      · exact hn (.inl h)
      · omega
  · rcases b.row with h | h | h
    · rw [h]; exact a.row
    · exact .inr (.inl h)
    · exact .inr (.inr (by omega))
  · rcases b.key with h | h | ⟨k, h, hk⟩
    · rw [h]; exact a.key
    · exact .inr (.inl h)
    · exact .inr (.inr ⟨k, h, by omega⟩)
theorem InS.keep {S : Nat → Prop} {w w' : World} {g h : Nat} {kb : Option Nat} {key : List UInt8} {c : Nat} {xs : List UInt8} {why : Nat} (i : InS w g h kb key c xs why) (hk : Keeps S w w') (hg : ¬ S g) (hh : ¬ S h) (hkb : ∀ k, kb = some k → ¬ S k) : InS w' g h kb key c xs why := by
  obtain ⟨⟨kv, hv, ps, h1, h2, rfl, h3, h4⟩, h5, h6, h7, h8, h9⟩ := i
  exact ⟨⟨kv, hv, ps, (hk.block g (lt_of_block h1) hg).trans h1, h2.keep hk hkb, rfl, h3.keep hk (fun _ => hh), h4⟩, h5, h6, fun k e => Nat.lt_of_lt_of_le (h7 k e) hk.size, h8, h9⟩
theorem InS.fresh {w w' : World} {g h : Nat} {kb : Option Nat} {key : List UInt8} {c : Nat} {xs : List UInt8} {why : Nat} (i : InS w g h kb key c xs why) (hb : Below w.heap.size w w') : InS w' g h kb key c xs why := i.keep (Keeps.ofFresh (S := fun _ => False) hb) (fun h => h) (fun h => h) (fun _ _ h => h)
theorem InS.blockLt {w : World} {g h : Nat} {kb : Option Nat} {key : List UInt8} {c : Nat} {xs : List UInt8} {why : Nat} (i : InS w g h kb key c xs why) : g < w.heap.size ∧ h < w.heap.size := by
  obtain ⟨⟨kv, hv, ps, h1, h2, rfl, h3, h4⟩, _⟩ := i
  exact ⟨lt_of_block h1, h3.ltS (lt_of_block h1)⟩
theorem cells5 {w : World} {a : Nat} {t : TypeId} {v0 v1 v2 v3 v4 : Value} (h : w.heap[a]? = some (.cells #[v0, v1, v2, v3, v4] t (0, 0))) :
    w.cell? ⟨a, 0, none⟩ = some v0 ∧ w.cell? ⟨a, 1, none⟩ = some v1 ∧ w.cell? ⟨a, 2, none⟩ = some v2 ∧ w.cell? ⟨a, 3, none⟩ = some v3 ∧ w.cell? ⟨a, 4, none⟩ = some v4 ∧ ∀ j, w.frozen? ⟨a, j, none⟩ = false := by
  refine ⟨?_, ?_, ?_, ?_, ?_, fun j => by simp [World.frozen?, h]⟩ <;> simp [World.cell?, h]
theorem InS.line {w : World} {g h : Nat} {kb : Option Nat} {key : List UInt8} {c : Nat} {xs : List UInt8} {why : Nat} (i : InS w g h kb key c xs why) : LineS w g key c := by
  obtain ⟨⟨kv, hv, ps, h1, h2, rfl, h3, h4⟩, h5, h6, h7, h8, h9⟩ := i
  obtain ⟨c0, c1, _⟩ := cells5 h1
  exact ⟨⟨kv, c0, c1, h2⟩, h8, h9⟩
set_option maxHeartbeats 400000 in
theorem newIn_c (w : World) : Calls Tryd.prog 15 #[] w fun e w' => e = .returned (.pointer (some ⟨w.heap.size, 0, none⟩)) ∧ InS w' w.heap.size w.heap.size none [] 0 [] 0 ∧ Below w.heap.size w w' := by
  have HO : Hid (InS (w.alloc (.cells #[.slice none 0 0, .int .u64 0, .slice none 0 0, .int .i64 0, .int .i64 0] 74)) w.heap.size w.heap.size none [] 0 [] 0) :=
    ⟨⟨_, _, 0, heap_alloc_new w _, bsl_none _, rfl, .inl ⟨rfl, rfl, rfl⟩, by simp⟩, by simp, by simp, by simp, .inl rfl, by omega⟩
  go_enter Tryd.func15, Tryd.ntmps15
  go_wp2
  go_ret
  exact ⟨rfl, HO.out, (Below.refl _ w).alloc (Nat.le_refl _) _⟩
set_option maxHeartbeats 400000 in
theorem held_c (w : World) {g h : Nat} {kb : Option Nat} {key : List UInt8} {c : Nat} {xs : List UInt8} {why : Nat} (i : InS w g h kb key c xs why) :
    Calls Tryd.prog 28 #[.pointer (some ⟨g, 0, none⟩)] w fun e w' => e = .returned (.int .i64 (xs.length : Nat)) ∧ w' = w := by
  obtain ⟨⟨kv, hv, ps, h1, h2, rfl, h3, h4⟩, h5, h6, h7, h8, h9⟩ := i
  obtain ⟨c0, c1, c2, c3, c4, hf⟩ := cells5 h1
  obtain ⟨ao, cap, rfl⟩ := h3.len
  clear h1 h2 h3 c0 c1 c3 c4 h7
  go_enter Tryd.func28, Tryd.ntmps28
  go_wp2
  go_ret
  exact ⟨rfl, rfl⟩
theorem set5 {w : World} {a : Nat} {t : TypeId} {v0 v1 v2 v3 v4 : Value} (h : w.heap[a]? = some (.cells #[v0, v1, v2, v3, v4] t (0, 0))) (x : Value) :
    (w.setCell ⟨a, 0, none⟩ x).heap[a]? = some (.cells #[x, v1, v2, v3, v4] t (0, 0)) ∧ (w.setCell ⟨a, 1, none⟩ x).heap[a]? = some (.cells #[v0, x, v2, v3, v4] t (0, 0)) ∧ (w.setCell ⟨a, 2, none⟩ x).heap[a]? = some (.cells #[v0, v1, x, v3, v4] t (0, 0)) ∧ (w.setCell ⟨a, 3, none⟩ x).heap[a]? = some (.cells #[v0, v1, v2, x, v4] t (0, 0)) := by
  refine ⟨?_, ?_, ?_, ?_⟩ <;> (rw [heap_setCell_same _ _ _ _ _ _ h]; rfl)
theorem keepSet (S : Nat → Prop) (w : World) (g i : Nat) (x : Value) (hS : S g) : Keeps S w (w.setCell ⟨g, i, none⟩ x) := (Keeps.refl S w).setCell (p := ⟨g, i, none⟩) (.inl hS) _
set_option maxHeartbeats 400000 in
set_option maxRecDepth 100000 in
theorem feed_c (v : Value) (ys : List UInt8) (w : World) {g h : Nat} {kb : Option Nat} {key : List UInt8} {c : Nat} {xs : List UInt8} (i : InS w g h kb key c xs 0) (hv : BSl w v ys) (hl : xs.length + ys.length ≤ 1000000) :
    Calls Tryd.prog 18 #[.pointer (some ⟨g, 0, none⟩), v] w fun e w' => e = .returned (.tuple #[]) ∧ ∃ h', InS w' g h' kb key c (xs ++ ys) 0 ∧ Moved g h h' kb kb w w' := by
  obtain ⟨⟨kv, hv0, ps, h1, h2, hkb, h3, h4⟩, h5, h6, h7, h8, h9⟩ := i
  obtain ⟨c0, c1, c2, c3, c4, hf⟩ := cells5 h1
  have hglt := lt_of_block h1
  obtain ⟨v', w1, h', hr, hR, hk, hh⟩ := run_append_row w h3 hglt 22 22 v ys hv.src hl
  have hg1 : w1.heap[g]? = some (.cells #[kv, .int .u64 (c : Int), hv0, .int .i64 (ps : Int), .int .i64 0] 74 (0, 0)) := (hk.block g hglt (fun e => e.2 e.1.symm)).trans h1
  have hR' := hR.keep (keepSet (fun k => k = g) w1 g 2 v' rfl) (fun hne e => hne e)
  have hh2 : h' = h ∨ h' = g ∨ w.heap.size ≤ h' := hh.elim .inl fun e => .inr (.inr e)
  have HI : Hid (InS (w1.setCell ⟨g, 2, none⟩ v') g h' kb key c (xs ++ ys) 0) := by
    have hk2 : Keeps (fun k => k = g ∨ (k = h ∧ h ≠ g)) w (w1.setCell ⟨g, 2, none⟩ v') := (hk.mono fun k _ e => .inr e).trans (keepSet _ w1 g 2 v' (.inl rfl))
    refine ⟨⟨kv, v', ps, (set5 hg1 v').2.2.1, h2.keep hk2 (fun k e hs => ?_), hkb, hR', by rw [List.length_append]; omega⟩, h5, ?_, fun k e => Nat.lt_of_lt_of_le (h7 k e) hk2.size, h8, h9⟩
    · rcases hs with rfl | ⟨rfl, _⟩
      · exact h5 (by rw [← hkb, e])
      · exact h6 (by rw [← hkb, e])
    · rcases hh with rfl | e
      · exact h6
      · intro e2; have := h7 _ e2; omega
  have HM : Hid (Moved g h h' kb kb w (w1.setCell ⟨g, 2, none⟩ v')) := ⟨(hk.mono fun k _ e => .inr e.1).trans (keepSet _ w1 g 2 v' (.inl rfl)), hh2, .inl rfl⟩
  obtain ⟨a1, b1, d1, d2, d3, hf1⟩ := cells5 hg1
  obtain ⟨ao', cp', ev'⟩ := hR.len
  obtain ⟨ao0, cp0, ev0⟩ := h3.len
  subst ev' ev0
  have HR := hidden hr
  rw [List.length_append] at HI HM HR
  obtain ⟨av, cv, rfl⟩ := hv.len
  clear h1 h2 h3 h7 hkb hk hR hR' hg1 hr hv hf c0 c1 c3 a1 b1 d2 hh hh2
  go_enter Tryd.func18, Tryd.ntmps18
  go_wp2_with (at_builtin; refine Lib.wpList_append_run _ rfl (.tmp 13) (.tmp 14) 22 22 rfl _ _ rfl rfl _ _ HR.out ?_)
  go_end0
  exact ⟨rfl, _, HI.out, HM.out⟩
set_option maxHeartbeats 400000 in
theorem feed_no (v : Value) (w : World) {g h : Nat} {kb : Option Nat} {key : List UInt8} {c : Nat} {xs : List UInt8} {why : Nat} (hw : why ≠ 0) (i : InS w g h kb key c xs why) :
    Calls Tryd.prog 18 #[.pointer (some ⟨g, 0, none⟩), v] w fun e w' => e = .returned (.tuple #[]) ∧ w' = w := by
  obtain ⟨⟨kv, hv0, ps, h1, h2, hkb, h3, h4⟩, h5, h6, h7, h8, h9⟩ := i
  obtain ⟨c0, c1, c2, c3, c4, hf⟩ := cells5 h1
  have hw2 : ((why : Int) == 0) = false := by simpa using hw
  clear h1 h2 h3 h7 hkb c0 c1 c2 c3
  go_enter Tryd.func18, Tryd.ntmps18
  go_wp2
  go_end0
  exact ⟨rfl, rfl⟩
set_option maxHeartbeats 400000 in
theorem inKeys_c (v : Value) (ks : List UInt8) (w : World) {g h : Nat} {kb : Option Nat} {key : List UInt8} {c : Nat} {xs : List UInt8} (i : InS w g h kb key c xs 0) (hv : BSl w v ks) (hl : ks.length = 32) :
    Calls Tryd.prog 16 #[.pointer (some ⟨g, 0, none⟩), v] w fun e w' => e = .returned (.int .i64 0) ∧ ∃ kb', InS w' g h kb' ks c xs 0 ∧ Moved g h h kb kb' w w' := by
  have HR := rightKey_c v ks w hv
  rw [decide_eq_true hl] at HR
  have HR := hidden HR
  have hbl := i.blockLt
  obtain ⟨⟨kv, hv0, ps, h1, h2, hkb, h3, h4⟩, h5, h6, h7, h8, h9⟩ := i
  obtain ⟨c0, c1, c2, c3, c4, hf⟩ := cells5 h1
  have HSK := hidden (setKey_c v ks w (cs := [kv, .int .u64 (c : Int), hv0, .int .i64 (ps : Int), .int .i64 0]) h1 rfl hv hl)
  have H1 := hidden h1
  have H3 := hidden h3
  clear h1 h2 hv hkb h3 c0 c1 c2 c3 hf
  go_enter Tryd.func16, Tryd.ntmps16
  go_wp2_with fail
  refine HR.out.mono ?_
  rintro e w2 ⟨rfl, hw2⟩
  subst hw2
  go_wp2_with fail
  refine HSK.out.mono ?_
  rintro e w3 ⟨rfl, w1, kv', ho, rfl⟩
  have hg1 : w1.heap[g]? = some (.cells #[kv, .int .u64 (c : Int), hv0, .int .i64 (ps : Int), .int .i64 0] 74 (0, 0)) := ((Keeps.ofFresh (S := fun _ => False) ho.b).block g hbl.1 (fun h => h)).trans H1.out
  have hkk := keepSet (fun k => k = g) w1 g 0 kv' rfl
  have HF : Hid (InS (w1.setCell ⟨g, 0, none⟩ kv') g h kv'.ownBlock ks c xs 0) := by
    refine ⟨⟨kv', hv0, ps, (set5 hg1 kv').1, ho.bsl.keep hkk (fun k e hk => ?_), rfl, (H3.out.keep (Keeps.ofFresh (S := fun _ => False) ho.b) (fun _ h => h)).keep hkk (fun hne e => hne e), h4⟩, fun e => ?_, fun e => ?_, fun k e => ?_, .inr hl, h9⟩
    · have := (own_ge ho k e).1; omega
    · have := (own_ge ho g e).1; omega
    · have := (own_ge ho h e).1; omega
    · rw [World.size_setCell]; exact (own_ge ho k e).2
  have HK : Hid (Keeps (fun k => k = g ∨ k = h) w2 (w1.setCell ⟨g, 0, none⟩ kv')) := (Keeps.ofFresh ho.b).trans (hkk.mono fun k _ e => .inl e)
  have HG := hidden (own_ge ho)
  clear ho hg1 hkk
  go_wp2
  go_ret
  refine ⟨rfl, _, HF.out, HK.out, .inl rfl, ?_⟩
  cases e : kv'.ownBlock with
  | none => exact .inr (.inl rfl)
  | some k => exact .inr (.inr ⟨k, rfl, (HG.out k e).1⟩)
end Go.Proofs.YthkaibkmpenclaaDoor
