/- The document's own Sum: what lies ready, its factor out of a key. -/
import Derived.Test.YthkaibkmpenclaaDoorPoR
namespace Go.Proofs.YthkaibkmpenclaaDoor
open Go Go.RowKit

def zeros17 : List Nat := [0, 0, 0, 0, 0, 0, 0, 0, 0, 0, 0, 0, 0, 0, 0, 0, 0]
theorem zeros17_getD (i : Nat) : zeros17.getD i 0 = 0 := by
  rw [show zeros17 = List.replicate 17 0 from rfl, List.getD_eq_getElem?_getD, List.getElem?_replicate]
  split <;> rfl
/-- Bytes laid into seventeen limbs. -/
def cpTo (xs : List UInt8) : Nat → List Nat
  | 0 => zeros17
  | j + 1 => (cpTo xs j).set j (xs.getD j 0).toNat
theorem cpTo_length (xs : List UInt8) (j : Nat) : (cpTo xs j).length = 17 := by
  induction j with
  | zero => rfl
  | succ j ih => rw [cpTo, List.length_set, ih]
theorem cpTo_getD (xs : List UInt8) (j : Nat) (hj : j ≤ 17) (i : Nat) : (cpTo xs j).getD i 0 = if i < j then (xs.getD i 0).toNat else 0 := by
  induction j with
  | zero => rw [cpTo, zeros17_getD]; rfl
  | succ j ih =>
    rw [cpTo, getD_set, cpTo_length, ih (by omega)]
    by_cases h : i = j
    · subst h; rw [if_pos ⟨rfl, by omega⟩, if_pos (by omega)]
    · rw [if_neg (by omega)]
      by_cases h2 : i < j
      · rw [if_pos h2, if_pos (by omega)]
      · rw [if_neg h2, if_neg (by omega)]
/-- Limbs masked at the places of M. -/
def mkTo (M : List Nat) (c : Nat) (R : List Nat) : Nat → List Nat
  | 0 => R
  | i + 1 => (mkTo M c R i).set (M.getD i 0) ((mkTo M c R i).getD (M.getD i 0) 0 &&& c)
theorem mkTo_length (M : List Nat) (c : Nat) (R : List Nat) (i : Nat) : (mkTo M c R i).length = R.length := by
  induction i with
  | zero => rfl
  | succ i ih => rw [mkTo, List.length_set, ih]
theorem mkTo_le (M : List Nat) (c : Nat) (R : List Nat) (i : Nat) (B : Nat) (h : ∀ p, R.getD p 0 ≤ B) (p : Nat) : (mkTo M c R i).getD p 0 ≤ B := by
  induction i generalizing p with
  | zero => exact h p
  | succ i ih =>
    rw [mkTo, getD_set]
    split
    · exact Nat.le_trans Nat.and_le_left (ih _)
    · exact ih p
def fR (key : List UInt8) : List Nat := mkTo [4, 8, 12] 252 (mkTo [3, 7, 11, 15] 15 (cpTo key 16) 4) 3
theorem fR_length (key : List UInt8) : (fR key).length = 17 := by rw [fR, mkTo_length, mkTo_length, cpTo_length]
theorem fR_getD (key : List UInt8) (i : Nat) : (fR key).getD i 0 = if i = 4 ∨ i = 8 ∨ i = 12 then (cpTo key 16).getD i 0 &&& 252 else if i = 3 ∨ i = 7 ∨ i = 11 ∨ i = 15 then (cpTo key 16).getD i 0 &&& 15 else (cpTo key 16).getD i 0 := by
  have hl := cpTo_length key 16
  have a0 : ∀ c R, mkTo [4, 8, 12] c R 3 = ((R.set 4 (R.getD 4 0 &&& c)).set 8 ((R.set 4 (R.getD 4 0 &&& c)).getD 8 0 &&& c)).set 12 (((R.set 4 (R.getD 4 0 &&& c)).set 8 ((R.set 4 (R.getD 4 0 &&& c)).getD 8 0 &&& c)).getD 12 0 &&& c) := fun _ _ => rfl
  have a1 : ∀ c R, mkTo [3, 7, 11, 15] c R 4 = (((R.set 3 (R.getD 3 0 &&& c)).set 7 ((R.set 3 (R.getD 3 0 &&& c)).getD 7 0 &&& c)).set 11 (((R.set 3 (R.getD 3 0 &&& c)).set 7 ((R.set 3 (R.getD 3 0 &&& c)).getD 7 0 &&& c)).getD 11 0 &&& c)).set 15 ((((R.set 3 (R.getD 3 0 &&& c)).set 7 ((R.set 3 (R.getD 3 0 &&& c)).getD 7 0 &&& c)).set 11 (((R.set 3 (R.getD 3 0 &&& c)).set 7 ((R.set 3 (R.getD 3 0 &&& c)).getD 7 0 &&& c)).getD 11 0 &&& c)).getD 15 0 &&& c) := fun _ _ => rfl
  rw [fR, a0, a1]
  generalize cpTo key 16 = R at hl ⊢
  simp only [getD_set, List.length_set, hl]
  by_cases h4 : i = 4
  · subst h4; simp
  by_cases h8 : i = 8
  · subst h8; simp
  by_cases h12 : i = 12
  · subst h12; simp
  by_cases h3 : i = 3
  · subst h3; simp
  by_cases h7 : i = 7
  · subst h7; simp
  by_cases h11 : i = 11
  · subst h11; simp
  by_cases h15 : i = 15
  · subst h15; simp
  simp [h3, h4, h7, h8, h11, h12, h15]
theorem fR_clamp (key : List UInt8) (hk : key.length = 32) (i : Nat) (hi : i < 16) : (fR key).getD i 0 = ((clL (key.take 16)).getD i 0).toNat := by
  have hl : (key.take 16).length = 16 := by simp [hk]
  rw [clL_getD _ _ (by omega), fR_getD, cpTo_getD _ _ (by omega), if_pos hi, UInt8.toNat_and]
  have ht : (key.take 16).getD i 0 = key.getD i 0 := by simp [hi]
  rw [ht]
  have hb := UInt8.toNat_lt (key.getD i 0)
  generalize (key.getD i 0).toNat = y at hb ⊢
  have h255 : y &&& 255 = y := by rw [show (255 : Nat) = 2 ^ 8 - 1 from rfl, Nat.and_two_pow_sub_one_eq_mod]; omega
  rcases (show i = 0 ∨ i = 1 ∨ i = 2 ∨ i = 3 ∨ i = 4 ∨ i = 5 ∨ i = 6 ∨ i = 7 ∨ i = 8 ∨ i = 9 ∨ i = 10 ∨ i = 11 ∨ i = 12 ∨ i = 13 ∨ i = 14 ∨ i = 15 by omega) with rfl | rfl | rfl | rfl | rfl | rfl | rfl | rfl | rfl | rfl | rfl | rfl | rfl | rfl | rfl | rfl
  all_goals first | exact h255.symm | rfl
theorem fR_top (key : List UInt8) : (fR key).getD 16 0 = 0 := by
  rw [fR_getD, cpTo_getD _ _ (by omega)]; rfl
theorem fR_le (key : List UInt8) (i : Nat) : (fR key).getD i 0 ≤ 255 :=
  mkTo_le _ _ _ _ _ (mkTo_le _ _ _ _ _ (fun p => by
    rw [cpTo_getD _ _ (by omega)]
    split
    · have := UInt8.toNat_lt (key.getD p 0); omega
    · omega)) i
theorem fR_val (key : List UInt8) (hk : key.length = 32) : valTo (fR key) 17 = factor key := by
  rw [valTo, fR_top, Nat.zero_mul, Nat.add_zero, factor]
  exact val_bytes _ _ 16 (fun i hi => fR_clamp key hk i hi)
/-- What lies ready: r, h and x. -/
structure RI (w wr : World) (R Hh X : List Nat) : Prop where
  r : NB .u32 wr w.heap.size 110 R
  h : NB .u32 wr (w.heap.size + 1) 110 Hh
  x : NB .u32 wr (w.heap.size + 2) 110 X
  b : Below w.heap.size w wr
theorem RI.start (w : World) : RI w (((w.alloc (.cells (ncells .u32 zeros17).toArray 110)).alloc (.cells (ncells .u32 zeros17).toArray 110)).alloc (.cells (ncells .u32 zeros17).toArray 110)) zeros17 zeros17 zeros17 := by
  have b1 : Below w.heap.size w (w.alloc (.cells (ncells .u32 zeros17).toArray 110)) := (Below.refl _ w).alloc (by omega) _
  have b2 := b1.alloc (by simp) (.cells (ncells .u32 zeros17).toArray 110)
  have b3 := b2.alloc (by simp; omega) (.cells (ncells .u32 zeros17).toArray 110)
  refine ⟨?_, ?_, ?_, b3⟩
  · unfold NB
    rw [Below.heap_alloc _ _ _ (by simp; omega), Below.heap_alloc _ _ _ (by simp)]
    exact heap_alloc_new w _
  · unfold NB
    rw [Below.heap_alloc _ _ _ (by simp)]
    have := heap_alloc_new (w.alloc (.cells (ncells .u32 zeros17).toArray 110)) (.cells (ncells .u32 zeros17).toArray 110)
    rwa [show (w.alloc (.cells (ncells .u32 zeros17).toArray 110)).heap.size = w.heap.size + 1 by simp] at this
  · unfold NB
    have := heap_alloc_new ((w.alloc (.cells (ncells .u32 zeros17).toArray 110)).alloc (.cells (ncells .u32 zeros17).toArray 110)) (.cells (ncells .u32 zeros17).toArray 110)
    rwa [show ((w.alloc (.cells (ncells .u32 zeros17).toArray 110)).alloc (.cells (ncells .u32 zeros17).toArray 110)).heap.size = w.heap.size + 2 by simp] at this
theorem RI.fresh {w wr wr' : World} {R Hh X : List Nat} (h : RI w wr R Hh X) (hb : Below wr.heap.size wr wr') : RI w wr' R Hh X :=
  ⟨h.r.fresh hb, h.h.fresh hb, h.x.fresh hb, h.b.trans (hb.mono h.b.size)⟩
theorem RI.keepR {w wr wr' : World} {R R' Hh X : List Nat} (h : RI w wr R Hh X) (hk : Keeps (fun k => k = w.heap.size) wr wr') (hp : NB .u32 wr' w.heap.size 110 R') : RI w wr' R' Hh X :=
  ⟨hp, h.h.keep hk (by omega), h.x.keep hk (by omega), h.b.trans (hk.below (B := w.heap.size) h.b.size (by intro k e; omega))⟩
theorem RI.keepH {w wr wr' : World} {R Hh Hh' X : List Nat} (h : RI w wr R Hh X) (hk : Keeps (fun k => k = w.heap.size + 1) wr wr') (hp : NB .u32 wr' (w.heap.size + 1) 110 Hh') : RI w wr' R Hh' X :=
  ⟨h.r.keep hk (by omega), hp, h.x.keep hk (by omega), h.b.trans (hk.below (B := w.heap.size) h.b.size (by intro k e; omega))⟩
theorem RI.keepX {w wr wr' : World} {R Hh X X' : List Nat} (h : RI w wr R Hh X) (hk : Keeps (fun k => k = w.heap.size + 2) wr wr') (hp : NB .u32 wr' (w.heap.size + 2) 110 X') : RI w wr' R Hh X' :=
  ⟨h.r.keep hk (by omega), h.h.keep hk (by omega), hp, h.b.trans (hk.below (B := w.heap.size) h.b.size (by intro k e; omega))⟩
theorem RI.drewN {w wr : World} {R Hh X : List Nat} (h : RI w wr R Hh X) (q : Nat) : RI w (wr.drewN q) R Hh X :=
  h.keepR ((Keeps.refl _ wr).drewN q) (h.r.keep (S := fun _ => False) ((Keeps.refl _ wr).drewN q) (fun h => h))
theorem RI.setR {w wr : World} {R Hh X : List Nat} (h : RI w wr R Hh X) (i x : Nat) : RI w (wr.setCell ⟨w.heap.size, i, none⟩ (.int .u32 (x : Int))) (R.set i x) Hh X :=
  h.keepR ((Keeps.refl (fun k => k = w.heap.size) wr).setCell (p := ⟨w.heap.size, i, none⟩) (.inl rfl) _) (h.r.set i x)
theorem RI.setH {w wr : World} {R Hh X : List Nat} (h : RI w wr R Hh X) (i x : Nat) : RI w (wr.setCell ⟨w.heap.size + 1, i, none⟩ (.int .u32 (x : Int))) R (Hh.set i x) X :=
  h.keepH ((Keeps.refl (fun k => k = w.heap.size + 1) wr).setCell (p := ⟨w.heap.size + 1, i, none⟩) (.inl rfl) _) (h.h.set i x)
theorem RI.setX {w wr : World} {R Hh X : List Nat} (h : RI w wr R Hh X) (i x : Nat) : RI w (wr.setCell ⟨w.heap.size + 2, i, none⟩ (.int .u32 (x : Int))) R Hh (X.set i x) :=
  h.keepX ((Keeps.refl (fun k => k = w.heap.size + 2) wr).setCell (p := ⟨w.heap.size + 2, i, none⟩) (.inl rfl) _) (h.x.set i x)
end Go.Proofs.YthkaibkmpenclaaDoor
