/- An Out: its state, and what NewOut, Keys and Packet do. -/
import Derived.Test.YthkaibkmpenclaaDoorPkF
namespace Go.Proofs.YthkaibkmpenclaaDoor
open Go Go.RowKit

/-- A block without bytes holds no bytes of a slice. -/
theorem BSl.off {w : World} {v : Value} {xs : List UInt8} (h : BSl w v xs) (hne : xs ≠ []) {g : Nat} {cs : Array Value} {t : TypeId} {fr : Nat × Nat} (hg : w.heap[g]? = some (.cells cs t fr)) (hn : ∀ (i : Nat) (n : Int), cs[i]? ≠ some (.int .u8 n)) : v.ownBlock ≠ some g := by
  obtain ⟨b, o, cap, rfl, _⟩ := h.nonnil hne
  intro e
  have e' : b = g := by simpa [Value.ownBlock] using e
  subst e'
  have hc := h.cellAt 0 (List.length_pos_iff.2 hne)
  simp only [World.cell?, hg] at hc
  exact hn _ _ hc
theorem BSl.keepN {S : Nat → Prop} {w w' : World} {v : Value} {xs : List UInt8} (h : BSl w v xs) (hk : Keeps S w w') (hs : xs ≠ [] → ∀ k, v.ownBlock = some k → ¬ S k) : BSl w' v xs := by
  by_cases e : xs = []
  · subst e
    obtain ⟨ao, cap, h1, h2, h3, h4, h5⟩ := h
    exact ⟨ao, cap, h1, h2, h3, h4, fun _ _ h => absurd rfl h⟩
  · exact h.keep hk (hs e)
/-- An Out at block g: its key, in block kb, and how many packets it has made. -/
structure OutS (w : World) (g : Nat) (kb : Option Nat) (key : List UInt8) (c : Nat) : Prop where
  ex : ∃ kv, w.heap[g]? = some (.cells #[kv, .int .u64 (c : Int)] 63 (0, 0)) ∧ BSl w kv key ∧ kv.ownBlock = kb
  ne : kb ≠ some g
  lt : ∀ k, kb = some k → k < w.heap.size
  ok : KeyOk key
  le : c ≤ 1000000
theorem OutS.keep {S : Nat → Prop} {w w' : World} {g : Nat} {kb : Option Nat} {key : List UInt8} {c : Nat} (h : OutS w g kb key c) (hk : Keeps S w w') (hg : ¬ S g) (hkb : ∀ k, kb = some k → ¬ S k) : OutS w' g kb key c := by
  obtain ⟨⟨kv, h1, h2, rfl⟩, h3, h4, h5, h6⟩ := h
  exact ⟨⟨kv, (hk.block g (lt_of_block h1) hg).trans h1, h2.keep hk hkb, rfl⟩, h3, fun k e => Nat.lt_of_lt_of_le (h4 k e) hk.size, h5, h6⟩
theorem OutS.fresh {w w' : World} {g : Nat} {kb : Option Nat} {key : List UInt8} {c : Nat} (h : OutS w g kb key c) (hb : Below w.heap.size w w') : OutS w' g kb key c := h.keep (Keeps.ofFresh (S := fun _ => False) hb) (fun h => h) (fun _ _ h => h)
theorem OutS.blockLt {w : World} {g : Nat} {kb : Option Nat} {key : List UInt8} {c : Nat} (h : OutS w g kb key c) : g < w.heap.size := by
  obtain ⟨⟨kv, h1, _⟩, _⟩ := h
  exact lt_of_block h1
theorem OutS.line {w : World} {g : Nat} {kb : Option Nat} {key : List UInt8} {c : Nat} (h : OutS w g kb key c) : LineS w g key c := by
  obtain ⟨⟨kv, h1, h2, rfl⟩, h3, h4, h5, h6⟩ := h
  exact ⟨⟨kv, cell_row (cs := [kv, .int .u64 (c : Int)]) h1 0, cell_row (cs := [kv, .int .u64 (c : Int)]) h1 1, h2⟩, h5, h6⟩
set_option maxHeartbeats 400000 in
theorem newOut_c (w : World) : Calls Tryd.prog 10 #[] w fun e w' => e = .returned (.pointer (some ⟨w.heap.size, 0, none⟩)) ∧ OutS w' w.heap.size none [] 0 ∧ Below w.heap.size w w' := by
  have HO : Hid (OutS (w.alloc (.cells #[.slice none 0 0, .int .u64 0] 63)) w.heap.size none [] 0) := ⟨⟨_, heap_alloc_new w _, bsl_none _, rfl⟩, by simp, by simp, .inl rfl, by omega⟩
  go_enter Tryd.func10, Tryd.ntmps10
  go_wp2
  go_ret
  exact ⟨rfl, HO.out, (Below.refl _ w).alloc (Nat.le_refl _) _⟩
set_option maxHeartbeats 400000 in
theorem rightKey_c (v : Value) (xs : List UInt8) (w : World) (hv : BSl w v xs) : Calls Tryd.prog 33 #[v] w fun e w' => e = .returned (.bool (decide (xs.length = 32))) ∧ w' = w := by
  obtain ⟨ao, cap, rfl⟩ := hv.len
  have HE : Hid (((xs.length : Int) == 32) = decide (xs.length = 32)) := by
    show _ = _
    rw [Bool.eq_iff_iff]
    simp
    omega
  clear hv
  generalize xs.length = n at *
  go_enter Tryd.func33, Tryd.ntmps33
  go_wp2
  go_ret
  exact ⟨by rw [← HE.out]; rfl, rfl⟩
set_option maxHeartbeats 400000 in
theorem setKey_c (v : Value) (xs : List UInt8) (w : World) {g : Nat} {cs : List Value} {t : TypeId} {u : Value} (hg : w.heap[g]? = some (.cells cs.toArray t (0, 0))) (h0 : cs[0]? = some u) (hv : BSl w v xs) (hl : xs.length = 32) :
    Calls Tryd.prog 34 #[.pointer (some ⟨g, 0, none⟩), v] w fun e w' => e = .returned (.tuple #[]) ∧ ∃ w1 kv, Own w w1 kv xs ∧ w' = w1.setCell ⟨g, 0, none⟩ kv := by
  have HC := hidden (clone_c v xs w hv (by omega))
  have HG := hidden hg
  clear hv hg hl
  go_enter Tryd.func34, Tryd.ntmps34
  go_wp2_with fail
  refine HC.out.mono ?_
  rintro e w1 ⟨kv, rfl, ho⟩
  have hg1 : w1.heap[g]? = some (.cells cs.toArray t (0, 0)) := ((Keeps.ofFresh (S := fun _ => False) ho.b).block g (lt_of_block HG.out) (fun h => h)).trans HG.out
  have hc := cell_row hg1 0
  rw [h0] at hc
  have hf := frozen_row hg1 0
  have HO := hidden ho
  obtain ⟨ao, cp, rfl⟩ := ho.shape
  clear ho hg1 h0
  go_wp2
  go_end0
  exact ⟨rfl, _, _, HO.out, rfl⟩
theorem set2a {w : World} {a : Nat} {t : TypeId} {v0 v1 : Value} (h : w.heap[a]? = some (.cells #[v0, v1] t (0, 0))) (x : Value) : (w.setCell ⟨a, 0, none⟩ x).heap[a]? = some (.cells #[x, v1] t (0, 0)) := by
  rw [heap_setCell_same _ _ _ _ _ _ h]
  rfl
theorem set2b {w : World} {a : Nat} {t : TypeId} {v0 v1 : Value} (h : w.heap[a]? = some (.cells #[v0, v1] t (0, 0))) (x : Value) : (w.setCell ⟨a, 1, none⟩ x).heap[a]? = some (.cells #[v0, x] t (0, 0)) := by
  rw [heap_setCell_same _ _ _ _ _ _ h]
  rfl
theorem own_ge {w0 w : World} {v : Value} {xs : List UInt8} (h : Own w0 w v xs) : ∀ k, v.ownBlock = some k → w0.heap.size ≤ k ∧ k < w.heap.size := h.row.lt
set_option maxHeartbeats 400000 in
theorem outKeys_c (v : Value) (xs : List UInt8) (w : World) {g : Nat} {kb : Option Nat} {key : List UInt8} {c : Nat} (h : OutS w g kb key c) (hv : BSl w v xs) (hl : xs.length = 32) :
    Calls Tryd.prog 12 #[.pointer (some ⟨g, 0, none⟩), v] w fun e w' => e = .returned (.int .i64 0) ∧ ∃ kb', OutS w' g kb' xs c ∧ Keeps (fun k => k = g) w w' ∧ ∀ k, kb' = some k → w.heap.size ≤ k := by
  have HR := rightKey_c v xs w hv
  rw [decide_eq_true hl] at HR
  have HR := hidden HR
  obtain ⟨⟨kv, h1, h2, h3⟩, h4, h5, h6, h7⟩ := h
  have HSK := hidden (setKey_c v xs w (cs := [kv, .int .u64 (c : Int)]) h1 rfl hv hl)
  have H1 := hidden h1
  clear h1 h2 h3 h4 h5 h6 hv
  go_enter Tryd.func12, Tryd.ntmps12
  go_wp2_with fail
  refine HR.out.mono ?_
  rintro e w2 ⟨rfl, hw2⟩
  subst hw2
  go_wp2_with fail
  refine HSK.out.mono ?_
  rintro e w3 ⟨rfl, w1, kv', ho, rfl⟩
  have hg1 : w1.heap[g]? = some (.cells #[kv, .int .u64 (c : Int)] 63 (0, 0)) := ((Keeps.ofFresh (S := fun _ => False) ho.b).block g (lt_of_block H1.out) (fun h => h)).trans H1.out
  have hlt := lt_of_block H1.out
  have hkk : Keeps (fun k => k = g) w1 (w1.setCell ⟨g, 0, none⟩ kv') := (Keeps.refl (fun k => k = g) w1).setCell (p := ⟨g, 0, none⟩) (.inl rfl) _
  have HF : Hid (OutS (w1.setCell ⟨g, 0, none⟩ kv') g kv'.ownBlock xs c) := by
    refine ⟨⟨kv', set2a hg1 _, ho.bsl.keep hkk (fun k e hk => ?_), rfl⟩, fun e => ?_, fun k e => ?_, .inr hl, h7⟩
    · have := (own_ge ho k e).1; omega
    · have := (own_ge ho g e).1; omega
    · rw [World.size_setCell]; exact (own_ge ho k e).2
  have HK : Hid (Keeps (fun k => k = g) w2 (w1.setCell ⟨g, 0, none⟩ kv')) := (Keeps.ofFresh ho.b).trans hkk
  have HG := hidden (own_ge ho)
  clear ho hg1 hkk
  go_wp2
  go_ret
  exact ⟨rfl, _, HF.out, HK.out, fun k e => (HG.out k e).1⟩
set_option maxHeartbeats 400000 in
theorem outKeys_no (v : Value) (xs : List UInt8) (w : World) {g : Nat} (hv : BSl w v xs) (hl : xs.length ≠ 32) :
    Calls Tryd.prog 12 #[.pointer (some ⟨g, 0, none⟩), v] w fun e w' => e = .returned (.int .i64 1) ∧ w' = w := by
  have HR := rightKey_c v xs w hv
  rw [decide_eq_false hl] at HR
  have HR := hidden HR
  clear hv
  go_enter Tryd.func12, Tryd.ntmps12
  go_wp2_with fail
  refine HR.out.mono ?_
  rintro e w2 ⟨rfl, hw2⟩
  subst hw2
  go_wp2
  go_ret
  exact ⟨rfl, rfl⟩
end Go.Proofs.YthkaibkmpenclaaDoor
