/- Blocks of numbers; Within; Split. -/
import Derived.Test.YtnimdbjbkoggdaaWxD
import Derived.OwnWalk
import Derived.OneCell
import Derived.Deep.OwnRows
import Derived.Deep.QuietTactic
import Derived.BigQuiet
import Derived.Deep.RegionWith
import Derived.Deep.Cut
import Derived.Deep.CutRange
namespace Go.Proofs.Ytnimdbjbkoggdaa
open Go Go.RowKit

theorem Try.infoI64 : (Try.prog.info? 2).map (fun i => (i.zero, i.size, i.bytes)) = some (some (.int .i64 0), 1, 8) := by kernel_rfl


def icells (L : List Nat) : List Value := L.map fun x : Nat => Value.int .i64 (x : Int)
theorem icells_length (L : List Nat) : (icells L).length = L.length := by simp [icells]
/-- The block g holds the numbers L. -/
def IB (w : World) (g : Nat) (L : List Nat) : Prop := w.heap[g]? = some (.cells (icells L).toArray 2 (0, 0))
section
variable {w : World} {g : Nat} {L : List Nat}
theorem IB.lt (h : IB w g L) : g < w.heap.size := lt_of_block h
theorem IB.cell (h : IB w g L) (i : Nat) (hi : i < L.length) : w.cell? ⟨g, i, none⟩ = some (.int .i64 (L.getD i 0 : Nat)) := by
  rw [cell_row h]
  simp [icells, hi]
theorem IB.frozen (h : IB w g L) (i : Nat) : w.frozen? ⟨g, i, none⟩ = false := frozen_row h i
theorem IB.set (h : IB w g L) (i : Nat) (x : Nat) : IB (w.setCell ⟨g, i, none⟩ (.int .i64 (x : Int))) g (L.set i x) := by
  unfold IB
  rw [heap_setCell_same _ _ _ _ _ _ h]
  simp [icells, List.map_set]
theorem IB.keep {S : Nat → Prop} {w' : World} (h : IB w g L) (hk : Keeps S w w') (hn : ¬ S g) : IB w' g L := (hk.block g (lt_of_block h) hn).trans h
theorem IB.fresh {w' : World} (h : IB w g L) (hb : Below w.heap.size w w') : IB w' g L := h.keep (S := fun _ => False) (Keeps.ofFresh hb) (fun h => h)
theorem IB.drew (h : IB w g L) : IB w.drew g L := h
end



/-- The pieces of k in bs. -/
def pcs (k b m : Nat) : List Nat := (List.range m).map fun i => min (k - i * b) b
theorem pcs_length (k b m : Nat) : (pcs k b m).length = m := by simp [pcs]
theorem pcs_succ (k b m : Nat) : pcs k b (m + 1) = pcs k b m ++ [min (k - m * b) b] := by simp [pcs, List.range_succ]
theorem pcs_set (k b i c : Nat) (h : i < c) : (pcs k b i ++ List.replicate (c - i) 0).set i (min (k - i * b) b) = pcs k b (i + 1) ++ List.replicate (c - (i + 1)) 0 := by
  rw [pcs_succ, show c - i = (c - (i + 1)) + 1 by omega, List.replicate_succ]
  rw [List.set_append_right _ _ (by simp [pcs_length])]
  simp [pcs_length]

theorem split_none {x y : Nat} {r : Bool} {a b : Nat} (h : Win x y r a b) (n : Nat) (hn : n = 0 ∨ a = 0) (w : World) :
    Calls Try.prog 48 #[.complex .f64 x y, .int .i64 (n : Int)] w fun e w' => e = .returned (.tuple #[.slice none 0 0, .complex .f64 x y]) ∧ w' = w := by
  have HL := hidden (left_w h w)
  clear h
  by_cases h0 : a = 0
  · subst h0
    by_cases h1 : n = 0
    · subst h1
      go_enter Try.func48, Try.ntmps48
      go_wp2_with (refine HL.out.mono ?_; rintro e w' ⟨rfl, rfl⟩)
      go_ret2
      exact ⟨rfl, rfl⟩
    · have h2 : ¬ (n : Int) ≤ 0 := by omega
      go_enter Try.func48, Try.ntmps48
      go_wp2_with (refine HL.out.mono ?_; rintro e w' ⟨rfl, rfl⟩)
      go_ret2
      exact ⟨rfl, rfl⟩
  · have h1 : n = 0 := by omega
    subst h1
    have h2 : (0 : Int) ≤ (a : Int) := by omega
    go_enter Try.func48, Try.ntmps48
    go_wp2_with (refine HL.out.mono ?_; rintro e w' ⟨rfl, rfl⟩)
    go_ret2
    exact ⟨rfl, rfl⟩

set_option maxHeartbeats 400000 in
set_option maxRecDepth 100000 in
theorem split_c {x y a b : Nat} (h : Win x y true a b) (n k c : Nat) (hkm : k ≤ 1000000) (hk : k = min n a) (h0 : 1 ≤ k) (hc : c = (k + b - 1) / b) (w : World) :
    Calls Try.prog 48 #[.complex .f64 x y, .int .i64 (n : Int)] w fun e w' => e = .returned (.tuple #[.slice (some ⟨w.heap.size, 0, none⟩) c c, .complex .f64 (nb (a - k)) (nb b)]) ∧ IB w' w.heap.size (pcs k b c) ∧ Below w.heap.size w w' := by
  obtain ⟨i0, hi, hz0, hz1, hz2⟩ := info_parts Try.infoI64
  have HL := hidden (left_w h w)
  have HM := hidden (most_w h w)
  have HT := hidden (wtake_yes h k (by omega) w)
  have hb1 : 1 ≤ b := (h.right rfl).2.2.2.1
  have hb2 : b ≤ 32768 := (h.right rfl).2.2.2.2
  have hmin : (if a < n then (a : Int) else (n : Int)) = (k : Int) := by split <;> omega
  have hmin2 : min (n : Int) (a : Int) = (k : Int) := by omega
  have hck : c ≤ k := by
    subst hc
    exact Nat.le_trans (Nat.div_le_div_right (c := b) (by
      have := Nat.mul_le_mul (Nat.le_refl b) h0
      have h3 : k + b - 1 ≤ b * k := by
        obtain ⟨b', rfl⟩ : ∃ b', b = b' + 1 := ⟨b - 1, by omega⟩
        obtain ⟨k', rfl⟩ : ∃ k', k = k' + 1 := ⟨k - 1, by omega⟩
        have : (b' + 1) * (k' + 1) = b' * k' + b' + k' + 1 := by rw [Nat.add_mul, Nat.mul_add]; omega
        omega
      exact h3)) (by rw [Nat.mul_div_cancel_left _ (by omega)]; exact Nat.le_refl _)
  have htd : ((k : Int) + (b : Int) - 1).tdiv (b : Int) = (c : Int) := by
    rw [show (k : Int) + (b : Int) - 1 = ((k + b - 1 : Nat) : Int) by omega, hc]
    exact (Int.ofNat_tdiv _ _).symm
  have hk1 : ¬ (k : Int) < 1 := by omega
  have hb0 : ¬ (b : Int) = 0 := by omega
  have hc1 : ¬ (2147483647 : Int) < (c : Int) := by omega
  have HCK := hidden hck
  clear h hck
  have HC := hidden hc
  have HK := hidden hk
  clear hc hk
  generalize nb (a - k) = z at *
  generalize nb b = u at *
  go_enter Try.func48, Try.ntmps48
  go_upto_region 8 with (first | (refine HL.out.mono ?_; clear HL; rintro e w' ⟨rfl, rfl⟩) | (refine HM.out.mono ?_; clear HM; rintro e w' ⟨rfl, rfl⟩))
  generalize decide ((2147483647 : Int) < (c : Int)) = d1
  generalize decide ((k : Int) < 1) = d2
  clear hc1
  go_wp2_with (first | (refine HT.out.mono ?_; clear HT; rintro e w2 ⟨rfl, rfl⟩) | (clear HT; fail) | (refine wpList_make_full _ rfl (.tmp 37) (.tmp 37) 96 rfl w2.heap.size 2 i0 _ 1 Try.underlying96 hi hz0 hz1 .i64 .i64 _ _ c rfl rfl (by omega) (by omega) (by rw [hz2]; have := HCK.out; omega) (by unfold maxLen; have := HCK.out; omega) (Nat.le_refl _) ?_))
  intro w1 ho1 hgr1
  have hb1' : Below w2.heap.size w2 w1 := (Below.refl _ w2).grown hgr1 (by simp) (by simp)
  have hg1 : IB w1 w2.heap.size (List.replicate c 0) := by
    rcases ho1.2 with ⟨h, _⟩ | ⟨g, cp, cur, h1, h2, h3, h4, h5, h6, h7⟩
    · cases h
    · cases h1
      unfold IB
      rw [h3]
      have : cur.toList = icells (List.replicate c 0) := by
        rw [← List.take_of_length_le (i := c) (l := cur.toList) (by simp [h6])]
        simpa [icells, toList_madeCells_one] using h7
      rw [← this]
  have HG1 := hidden hg1
  have HB1 := hidden hb1'
  clear ho1 hgr1 hb1' hg1 hi hz0 hz1 hz2
  go_wp2_with fail
  go_loopw [6, 41] (fun r i wr => ∃ j : Nat, j ≤ c ∧ i = .int .i64 (j : Int) ∧ r = .int .i64 ((k - j * b : Nat) : Int) ∧ IB wr w2.heap.size (pcs k b j ++ List.replicate (c - j) 0) ∧ Below w2.heap.size w2 wr) (fun _ i _ => c - (intOf i).toNat)
  case atStart => exact ⟨0, by omega, rfl, by simp, by simpa [pcs] using HG1.out, HB1.out⟩
  case round =>
    clear HG1 HB1
    obtain ⟨j, hj, rfl, rfl, hg, hb⟩ := hrel
    by_cases hlt : j < c
    · have hlt' : (j : Int) < (c : Int) := by omega
      obtain ⟨r, hr⟩ : ∃ r, r = k - j * b := ⟨_, rfl⟩
      obtain ⟨m, hm⟩ : ∃ m, m = min r b := ⟨_, rfl⟩
      have hrk : r ≤ k := by omega
      have hmr : m ≤ r := by omega
      have hif : (if b < r then (b : Int) else (r : Int)) = (m : Int) := by split <;> omega
      have hif2 : min (r : Int) (b : Int) = (m : Int) := by omega
      have HN := hidden (show r - m = k - (j + 1) * b by rw [Nat.add_mul]; omega)
      have HS := pcs_set k b j c hlt
      rw [← hr, ← hm] at HS
      have hset := hg.set j m
      rw [HS] at hset
      rw [← hr]
      have hcell := hg.cell j (by simp [pcs_length]; omega)
      have hfz := hg.frozen j
      have HG := hidden hset
      have HB := hidden hb
      generalize (pcs k b j ++ List.replicate (c - j) 0).getD j 0 = old at hcell
      clear hg hb HS hset hr hm
      go_wp2_with fail
      refine ⟨⟨j + 1, by omega, by go_num, ?_, HG.out, HB.out.setCell (Nat.le_refl _) _⟩, ?_⟩
      · rw [← HN.out, show (r : Int) - (m : Int) = ((r - m : Nat) : Int) by omega]
      · simp [intOf]; omega
    · have hjc : j = c := by omega
      subst hjc
      have hlt' : ¬ (j : Int) < (j : Int) := by omega
      have HG := hidden hg
      have HB := hidden hb
      clear hg hb
      go_wp2_with fail
      go_ret2
      exact ⟨rfl, by simpa using HG.out, HB.out⟩

end Go.Proofs.Ytnimdbjbkoggdaa
