/- The helpers Cut and Sized. -/
import Derived.Test.YtfgeeheojglldaaBsm
import Derived.Deep.OwnRows
namespace Go.Proofs.Ytfgeeheojglldaa
open Go Go.RowKit

theorem BSl.take {w : World} {v : Value} {xs : List UInt8} (h : BSl w v xs) (n : Nat) (hn : n ≤ xs.length) : ∃ ao cap, v = .slice ao xs.length cap ∧ BSl w (.slice ao n cap) (xs.take n) := by
  obtain ⟨ao, cap, rfl⟩ := h.len
  exact ⟨ao, cap, rfl, h.head' hn⟩


/-- What Sized makes of bytes: so many of them, from the beginning again and again. -/
def sizedL (xs : List UInt8) (n : Nat) : List UInt8 := (List.range n).map fun i => xs.getD (i % xs.length) 0
theorem sizedL_length (xs : List UInt8) (n : Nat) : (sizedL xs n).length = n := by simp [sizedL]
theorem sizedL_succ (xs : List UInt8) (n : Nat) : sizedL xs (n + 1) = sizedL xs n ++ [xs.getD (n % xs.length) 0] := by simp [sizedL, List.range_succ]
theorem sizedL_nil (n : Nat) : sizedL [] n = List.replicate n 0 := by
  apply List.ext_getElem
  · simp [sizedL]
  · intro i h1 h2; simp [sizedL]

theorem sized_set (xs : List UInt8) (k m : Nat) (h : k < m) : (bcells (sizedL xs k ++ List.replicate (m - k) 0)).toArray.setIfInBounds k (.int .u8 ((xs.getD (k % xs.length) 0).toNat)) = (bcells (sizedL xs (k + 1) ++ List.replicate (m - (k + 1)) 0)).toArray := by
  rw [sizedL_succ, bcells_append, set_next _ _ _ _ (by simp [bcells_length, sizedL_length]) (by rw [show m - k = (m - (k + 1)) + 1 by omega, List.replicate_succ]; simp [bcells])]
  rw [show m - k = (m - (k + 1)) + 1 by omega, List.replicate_succ]
  simp [bcells]

set_option maxHeartbeats 800000 in
set_option maxRecDepth 100000 in
theorem sized_c (m : Nat) (hm : m ≤ 1000000) (v : Value) (xs : List UInt8) (w : World) (hv : BSl w v xs) :
    Calls Try.prog 8 #[v, .int .i64 m] w fun e w' => e = .returned (.slice (some ⟨w.heap.size, 0, none⟩) m m) ∧ w'.heap[w.heap.size]? = some (.cells (bcells (sizedL xs m)).toArray 5 (0, 0)) ∧ Below w.heap.size w w' := by
  obtain ⟨i0, hi, hz0, hz1, hz2⟩ := info_parts Try.infoU8
  have HV : Hid (BSl w v xs) := hv
  obtain ⟨ao, cap, rfl, hc1, hc2, hn1, hn2⟩ := hv
  clear hn1 hn2
  unfold maxLen at hc2
  go_enter Try.func8, Try.ntmps8
  go_wp2_with (refine wpList_make_full _ rfl (.tmp 7) (.tmp 7) 22 rfl w.heap.size 5 i0 _ 1 Try.underlying22 hi hz0 hz1 .i64 .i64 _ _ m rfl rfl (by omega) (by omega) (by rw [hz2]; omega) (by unfold maxLen; omega) (Nat.le_refl _) ?_)
  intro w1 ho1 hgr1
  have hb1 : Below w.heap.size w w1 := (Below.refl _ w).grown hgr1 (by simp) (by simp)
  have hg1 : w1.heap[w.heap.size]? = some (.cells (bcells (List.replicate m 0)).toArray 5 (0, 0)) := by
    rcases ho1.2 with ⟨h, _⟩ | ⟨g, cp, cur, h1, h2, h3, h4, h5, h6, h7⟩
    · cases h
    · cases h1
      rw [h3]
      have : cur.toList = bcells (List.replicate m 0) := by
        rw [← List.take_of_length_le (i := m) (l := cur.toList) (by simp [h6])]
        simpa [bcells, toList_madeCells_one] using h7
      rw [← this]
  have HG1 := hidden hg1
  have HB1 := hidden hb1
  clear ho1 hgr1 hb1 hg1 hi hz0 hz1 hz2
  go_wp2_with fail
  go_loopw [6] (fun i wr => ∃ k : Nat, k ≤ m ∧ i = .int .i64 (k : Int) ∧ wr.heap[w.heap.size]? = some (.cells (bcells (sizedL xs k ++ List.replicate (m - k) 0)).toArray 5 (0, 0)) ∧ Below w.heap.size w wr) (fun i _ => m - (intOf i).toNat)
  case atStart => exact ⟨0, by omega, rfl, by simpa [sizedL] using HG1.out, HB1.out⟩
  case round =>
    clear HG1 HB1
    obtain ⟨k, hk, rfl, hg, hb⟩ := hrel
    by_cases hlt : k < m
    · have hlt' : (k : Int) < (m : Int) := by omega
      by_cases hx : xs = []
      · have HE : Hid (sizedL xs k ++ List.replicate (m - k) 0 = sizedL xs m) := by
          subst hx
          show _ = _
          rw [sizedL_nil, sizedL_nil, List.replicate_append_replicate]
          congr 1
          omega
        rw [HE.out] at hg
        have HG := hidden hg
        have HB := hidden hb
        have hz : ¬ (0 : Int) < (xs.length : Int) := by subst hx; simp
        clear hg hb hx HE
        go_wp2
        go_ret
        exact ⟨rfl, HG.out, HB.out⟩
      · have hz : (0 : Int) < (xs.length : Int) := by have := List.length_pos_iff.2 hx; omega
        have HS := sized_set xs k m hlt
        have hv := HV.out.fresh hb
        obtain ⟨b, o, cp, e, hbl⟩ := hv.nonnil hx
        cases e
        obtain ⟨r, hr⟩ : ∃ r, r = k % xs.length := ⟨_, rfl⟩
        rw [← hr] at HS
        have hrl : r < xs.length := by rw [hr]; exact Nat.mod_lt _ (by omega)
        have htm : ((k : Int)).tmod (xs.length : Int) = (r : Int) := by rw [Int.tmod_eq_emod_of_nonneg (by omega), hr]; simp
        have hr1 : (r : Int) < (xs.length : Int) := by omega
        have hz2 : ¬ (xs.length : Int) = 0 := by omega
        have cb := hv.cellD r hrl
        have hcell := cell_row hg k
        have hcl : k < (bcells (sizedL xs k ++ List.replicate (m - k) 0)).length := by simp [bcells_length, sizedL_length]; omega
        rw [List.getElem?_eq_getElem hcl] at hcell
        generalize (bcells (sizedL xs k ++ List.replicate (m - k) 0))[k] = u at hcell
        have hfz := frozen_row hg
        have HS1 := hidden HS
        have HG := hidden hg
        have HB := hidden hb
        generalize ((xs.getD r 0).toNat) = y at cb HS1
        clear hg hb HS hv hr
        go_wp2
        go_roundw
        case rel =>
          refine ⟨k + 1, by omega, by go_num, ?_, HB.out.setCell (Nat.le_refl _) _⟩
          rw [heap_setCell_same _ _ _ _ _ _ HG.out, HS1.out]
        case measure => simp [intOf]; omega
    · have hlt' : ¬ (k : Int) < (m : Int) := by omega
      obtain rfl : k = m := by omega
      rw [Nat.sub_self, List.replicate_zero, List.append_nil] at hg
      have HG := hidden hg
      have HB := hidden hb
      clear hg hb
      go_wp2
      go_ret
      exact ⟨rfl, HG.out, HB.out⟩
theorem below_drewN {B : Nat} {a w : World} (h : Below B a w) (n : Nat) : Below B a (w.drewN n) := ⟨h.1, h.2, h.3, h.4, h.5⟩
/-- What make makes. -/
theorem BSl.made {w : World} {base n : Nat} {v : Value} {l : List Value} (h : w.ownsRow base 5 1 v n l) (hl : l = (madeCells #[Value.int .u8 0] n).toList) : BSl w v (List.replicate n 0) := by
  refine BSl.ofRow (base := base) (n := n) ?_
  have e : bcells (List.replicate n 0) = l := by
    rw [hl, toList_madeCells_one]
    simp [bcells]
  rw [e]
  exact h
/-- make, run. -/
theorem made_run (m : Nat) (hm : m ≤ 1000000) (w : World) : (Instr.makeSlice 22 (.int .i64 (m : Int)) (.int .i64 (m : Int))).run Try.prog w = .ok (.slice (some ⟨w.heap.size, 0, none⟩) m m) (w.alloc (.cells (bcells (List.replicate m 0)).toArray 5)) := by
  have h := run_make_row' (P := Try.prog) 22 5 (.int .u8 0) 1 Try.underlying22 Try.infoU8 rfl .i64 .i64 m (by omega) (by omega) w
  have e : madeCells #[Value.int .u8 0] m = (bcells (List.replicate m 0)).toArray := by
    apply Array.toList_inj.1
    rw [toList_madeCells_one]
    simp [bcells]
  rw [h, e]
theorem BSl.zeros (w : World) (m : Nat) (hm : m ≤ 1000000) : BSl (w.alloc (.cells (bcells (List.replicate m 0)).toArray 5)) (.slice (some ⟨w.heap.size, 0, none⟩) m m) (List.replicate m 0) := by
  have h := BSl.ofBlock (heap_alloc_new w (.cells (bcells (List.replicate m 0)).toArray 5)) (by simp; omega)
  rw [List.length_replicate] at h
  exact h
theorem below_alloc {w w' : World} {o : Obj} (h : Below (w.alloc o).heap.size (w.alloc o) w') : Below w.heap.size w w' :=
  ((Below.refl _ w).alloc (Nat.le_refl _) o).trans (h.mono (by simp))
theorem below_undrew {w w' : World} (h : Below w.drew.heap.size w.drew w') : Below w.heap.size w w' := ⟨h.1, h.2, h.3, h.4, h.5⟩
/-- A piece of a slice. -/
theorem BSl.part {w : World} {b o n cap i j : Nat} {xs : List UInt8} (h : BSl w (.slice (some ⟨b, o, none⟩) n cap) xs) (hi : i + j ≤ n) : BSl w (.slice (some ⟨b, o + i, none⟩) j (cap - i)) ((xs.drop i).take j) := by
  have hl : xs.length = n := by obtain ⟨ao, cp, e⟩ := h.len; cases e; rfl
  have h1 := h.dropS (k := i) (by omega)
  have h2 : (xs.drop i).length = n - i := by simp [hl]
  rw [← h2] at h1
  exact h1.head' (by omega)
/-- The front of what Roomy makes. -/
theorem BSl.roomy {w : World} {g : Nat} {t : TypeId} {xs : List UInt8} (h : w.heap[g]? = some (.cells (bcells (xs ++ List.replicate 80 165)).toArray t (0, 0))) (hl : xs.length ≤ 1000000) : BSl w (.slice (some ⟨g, 0, none⟩) xs.length (xs.length + 80)) xs := by
  have h1 := BSl.ofBlock h (by simp; omega)
  rw [List.length_append, List.length_replicate] at h1
  have h2 := h1.part (i := 0) (j := xs.length) (by omega)
  simpa using h2
/-- Sized as a slice that reads as what it makes. -/
theorem sized_b (m : Nat) (hm : m ≤ 1000000) (v : Value) (xs : List UInt8) (w : World) (hv : BSl w v xs) :
    Calls Try.prog 8 #[v, .int .i64 m] w fun e w' => e = .returned (.slice (some ⟨w.heap.size, 0, none⟩) m m) ∧ BSl w' (.slice (some ⟨w.heap.size, 0, none⟩) m m) (sizedL xs m) ∧ Below w.heap.size w w' := by
  refine (sized_c m hm v xs w hv).mono fun e w' ⟨h1, h2, h3⟩ => ⟨h1, ?_, h3⟩
  have := BSl.ofBlock h2 (by rw [sizedL_length]; omega)
  rw [sizedL_length] at this
  exact this
theorem own_empty (w : World) : (w.alloc (.cells #[] 5)).ownsRow w.heap.size 5 1 (.slice (some ⟨w.heap.size, 0, none⟩) 0 0) 0 [] := World.ownsRow_lit w #[] 0 (Nat.le_refl _) (by simp [maxLen]) rfl
/-- A row of bytes of one's own, that begins its block. -/
def ORow (w : World) (base g cap : Nat) (xs : List UInt8) : Prop :=
  base ≤ g ∧ xs.length ≤ cap ∧ cap ≤ maxLen ∧ ∃ cur : Array Value, w.heap[g]? = some (.cells cur 5 (0, 0)) ∧ cur.size = cap ∧ cur.toList.take xs.length = bcells xs
theorem ORow.ofOwns {w : World} {base : Nat} {v : Value} {n : Nat} {xs : List UInt8} (h : w.ownsRow base 5 1 v n (bcells xs)) (hne : xs ≠ []) : ∃ g cap, v = .slice (some ⟨g, 0, none⟩) xs.length cap ∧ ORow w base g cap xs := by
  have hl : xs.length = n := by have := h.1; rw [bcells_length] at this; omega
  subst hl
  rcases h.2 with ⟨_, h1⟩ | ⟨g, cap, cur, rfl, h1, h2, h3, h4, h5, h6⟩
  · exact absurd (List.eq_nil_of_length_eq_zero h1) hne
  · exact ⟨g, cap, rfl, h1, h3, h4, cur, h2, by omega, by simpa using h6⟩
theorem ORow.bsl {w : World} {base g cap : Nat} {xs : List UInt8} (h : ORow w base g cap xs) : BSl w (.slice (some ⟨g, 0, none⟩) xs.length cap) xs := by
  obtain ⟨h1, h2, h3, cur, h4, h5, h6⟩ := h
  refine ⟨_, cap, rfl, h2, h3, (fun e => by cases e), fun ad e _ => ⟨g, 0, by cases e; rfl, fun j u hu => ?_⟩⟩
  rw [Nat.zero_add, cell_row (cs := cur.toList) (by simpa using h4), ← hu, ← h6, List.getElem?_take]
  rw [if_pos (by have := (List.getElem?_eq_some_iff.1 hu).1; rwa [bcells_length] at this)]
theorem ORow.cell {w : World} {base g cap : Nat} {xs : List UInt8} (h : ORow w base g cap xs) (i : Nat) (hi : i < xs.length) : w.cell? ⟨g, i, none⟩ = some (.int .u8 ((xs.getD i 0).toNat)) := by
  have := h.bsl.cellD i hi
  rwa [Nat.zero_add] at this
theorem ORow.frozen {w : World} {base g cap : Nat} {xs : List UInt8} (h : ORow w base g cap xs) (i : Nat) : w.frozen? ⟨g, i, none⟩ = false := by
  obtain ⟨h1, h2, h3, cur, h4, _⟩ := h
  exact frozen_row h4 i
theorem ORow.lt {w : World} {base g cap : Nat} {xs : List UInt8} (h : ORow w base g cap xs) : g < w.heap.size := by
  obtain ⟨h1, h2, h3, cur, h4, _⟩ := h
  exact lt_of_block h4
theorem ORow.drewN {w : World} {base g cap : Nat} {xs : List UInt8} (h : ORow w base g cap xs) (n : Nat) : ORow (w.drewN n) base g cap xs := h
theorem ORow.drew {w : World} {base g cap : Nat} {xs : List UInt8} (h : ORow w base g cap xs) : ORow w.drew base g cap xs := h
theorem ORow.set {w : World} {base g cap : Nat} {xs : List UInt8} (h : ORow w base g cap xs) (i : Nat) (y : UInt8) : ORow (w.setCell ⟨g, i, none⟩ (.int .u8 y.toNat)) base g cap (xs.set i y) := by
  obtain ⟨h1, h2, h3, cur, h4, h5, h6⟩ := h
  refine ⟨h1, by simpa using h2, h3, _, heap_setCell_same _ _ _ _ _ _ h4, by simpa using h5, ?_⟩
  rw [List.length_set, Array.toList_setIfInBounds, List.take_set, h6]
  simp [bcells, List.map_set]
theorem ORow.keep {S : Nat → Prop} {w w' : World} {base g cap : Nat} {xs : List UInt8} (h : ORow w base g cap xs) (hk : Keeps S w w') (hn : ¬ S g) : ORow w' base g cap xs := by
  obtain ⟨h1, h2, h3, cur, h4, h5, h6⟩ := h
  exact ⟨h1, h2, h3, cur, (hk.block g (lt_of_block h4) hn).trans h4, h5, h6⟩
end Go.Proofs.Ytfgeeheojglldaa
