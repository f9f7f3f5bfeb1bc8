/- What put does with a part of no kind: its text as it is. And put, whatever the kind. -/
import Derived.Test.YtmecclefkgbmpaaPutC
namespace Go.Proofs.Ytmecclefkgbmpaa
open Go Go.RowKit

set_option maxHeartbeats 1600000 in
set_option maxRecDepth 100000 in
theorem put8_c {k n : Int} {s : ByteArray} {l : Value} {ss : List ByteArray} {v : Value} {xs : List UInt8} {w : World} {base a : Nat} {g : Option Nat} {bs : List UInt8} (H : PutIn n s l ss v xs w base a g bs)
    (k1 : (k == 1) = false) (k2 : (k == 2) = false) (k3 : (k == 3) = false) (k4 : (k == 4) = false) (k5 : (k == 5) = false) (k6 : (k == 6) = false) (k7 : (k == 7) = false) :
    Calls Try.prog 18 #[.pointer (some ⟨a, 0, none⟩), v, part k n s l] w fun e w' => PutPost w base a g bs xs s.data.toList e w' := by
  obtain ⟨h0, h1, hs, hl, hjn, hN, h, hv, hap, hlap, hb1, hb2⟩ := H
  obtain ⟨ao, cap, rfl, _⟩ := id hl
  obtain ⟨i0, hi, hz0, hz1, hz2⟩ := info_parts Try.infoU8
  unfold part
  have hcv := run_bytes s
  go_enter Try.func18, Try.ntmps18
  go_wp2_with fail
  have hW := bytesW_below (w.alloc (.cells #[.int .i64 k, .int .u64 n, .string s, .slice ao ss.length cap] 34)) s
  have hwB := (h.alloc (.cells #[.int .i64 k, .int .u64 n, .string s, .slice ao ss.length cap] 34)).keep (S := fun _ => False) (Keeps.ofFresh hW) (fun h => h) (fun _ _ h => h)
  have hvB := bytes_bsl (w.alloc (.cells #[.int .i64 k, .int .u64 n, .string s, .slice ao ss.length cap] 34)) s (by omega)
  have hsz : s.data.toList.length = s.size := by rw [Array.length_toList]; rfl
  refine (raw_c _ s.data.toList _ hvB hwB (by omega)).mono ?_
  rintro e w1 ⟨rfl, g1, hw1, hwr1⟩
  have hwr2 := wrote_fresh hW hwr1
  have hbox := box_kept h hwr2
  have hv1 := (hv.alloc _).wrote hwr2 hap
  have hwr3 := wrote_alloc hwr2
  have c2 := cell_of_row w1 _ 2 _ _ _ hbox
  simp at c2
  have hlt := World.block_lt_of_cell? _ _ c2
  have HW : Hid (WS w1 base a g1 (bs ++ s.data.toList)) := hw1
  have HWR : Hid (Wrote a g g1 w w1) := hwr3
  have HSZ : Hid (s.data.toList.length = s.size) := hsz
  clear hwr1 hwr2 hW hwB hvB hw1 hwr3 hsz hbox hcv h hv hl
  go_wp2_with fail
  go_region_held3 (fun w' => w'.cell? ⟨w.heap.size, 2, none⟩ = some (.string s))
    (first | go_keep | (rw [hgrow1.cell_far _ (by simp; omega) (by simp [Value.ownBlock]; omega)]; assumption) | (rw [hgrow2.cell_far _ (by simp; omega) hne2]; assumption))
    ((first
      | (refine step_append_src _ (by rfl) (.tmp 94) (.tmp 95) 22 22 (by rfl) w1.heap.size 5 i0 _ 1 Try.underlying22 hi hz0 hz1 hz2 rfl _ _ _ (by rfl) ((World.ownsRow_made w1 #[] 0 (Nat.le_refl _) (Nat.zero_le _) rfl).drew) _ xs.length (bcells xs) (by rfl) (BSl.src ((hv1.alloc _).fresh ((Below.refl _ _).drew))) (by unfold maxLen; omega) (by omega) (by simp) (w1.heap.size + 1) (by simp) ?_; intro v2 w2 ho2 hgrow1 hnil2 hat2; have hne2 : some w.heap.size ≠ v2.ownBlock := fun e => (by have := (ho2.lt _ e.symm).1; omega); have hsz2 := hgrow1.size; simp at hsz2)
      | (refine step_append_src _ (by rfl) (.tmp 96) (.tmp 98) 22 9 (by rfl) w1.heap.size 5 i0 _ 1 Try.underlying22 hi hz0 hz1 hz2 rfl v2 _ _ (by rfl) ho2 _ s.size (byteCells s) (by rfl) (Src.ofString _ Try.underlying9 s) (by unfold maxLen; omega) (by omega) (by omega) w2.heap.size (by rfl) ?_; intro v3 w3 ho3 hgrow2 hnil3 hat3)))
  have hb3 : Below w1.heap.size w1 w3 := (((Below.refl _ w1).alloc (Nat.le_refl _) _).drew.grown hgrow1 (by simp) (by intro k hk; simp [Value.ownBlock] at hk; omega)).grown hgrow2 (by omega) (fun k hk => (ho2.lt k hk).1)
  have R : PutPost w base a g bs xs s.data.toList (.returned v3) w3 := put_end HW.out HWR.out ⟨v3, rfl, by rw [List.length_append, HSZ.out, bcells_append, ← byteCells_eq]; simpa using ho3, hb3⟩
  have HR : Hid (PutPost w base a g bs xs s.data.toList (.returned v3) w3) := R
  clear ho2 hgrow1 hnil2 hat2 ho3 hgrow2 hnil3 hat3 hb3 R
  go_wp2
  go_ret
  exact HR.out

theorem put_c (k : Int) {n : Int} {s : ByteArray} {l : Value} {ss : List ByteArray} {v : Value} {xs : List UInt8} {w : World} {base a : Nat} {g : Option Nat} {bs : List UInt8} (H : PutIn n s l ss v xs w base a g bs) :
    Calls Try.prog 18 #[.pointer (some ⟨a, 0, none⟩), v, part k n s l] w fun e w' => PutPost w base a g bs xs (partBytes k n s ss) e w' := by
  by_cases k1 : k = 1
  · subst k1; exact put1_c H
  by_cases k2 : k = 2
  · subst k2; exact put2_c H
  by_cases k3 : k = 3
  · subst k3; exact put3_c H
  by_cases k4 : k = 4
  · subst k4; exact put4_c H
  by_cases k5 : k = 5
  · subst k5; exact put5_c H
  by_cases k6 : k = 6
  · subst k6; exact put6_c H
  by_cases k7 : k = 7
  · subst k7; exact put7_c H
  have e : partBytes k n s ss = s.data.toList := by simp [partBytes, k1, k2, k3, k4, k5, k6, k7]
  rw [e]
  exact put8_c H (by simpa using k1) (by simpa using k2) (by simpa using k3) (by simpa using k4) (by simpa using k5) (by simpa using k6) (by simpa using k7)

end Go.Proofs.Ytmecclefkgbmpaa
