/- The document's own Sum: a piece as limbs, the product as limbs, whole rows. -/
import Derived.Test.YthkaibkmpenclaaDoorPoT
namespace Go.Proofs.YthkaibkmpenclaaDoor
open Go Go.RowKit

def mkL (P : List UInt8) : List Nat := (cpTo P P.length).set P.length 1
theorem mkL_length (P : List UInt8) : (mkL P).length = 17 := by rw [mkL, List.length_set, cpTo_length]
theorem mkL_getD (P : List UInt8) (h : P.length ≤ 16) (i : Nat) : (mkL P).getD i 0 = if i < P.length then (P.getD i 0).toNat else if i = P.length then 1 else 0 := by
  rw [mkL, getD_set, cpTo_length, cpTo_getD _ _ (by omega)]
  by_cases h1 : i = P.length
  · rw [if_pos ⟨h1, by omega⟩, if_neg (by omega), if_pos h1]
  · rw [if_neg (by omega), if_neg h1]
theorem mkL_le (P : List UInt8) (h : P.length ≤ 16) (i : Nat) : (mkL P).getD i 0 ≤ 255 := by
  rw [mkL_getD P h]
  split
  · have := UInt8.toNat_lt (P.getD i 0); omega
  · split <;> omega
theorem mkL_val (P : List UInt8) (h : P.length ≤ 16) : sm (fun i => (mkL P).getD i 0 * 256 ^ i) 17 = blk P := by
  obtain ⟨d, hd⟩ : ∃ d, 17 = (P.length + 1) + d := ⟨16 - P.length, by omega⟩
  rw [hd, sm_split, sm, blk]
  rw [sm_congr d (g := fun _ => 0) (fun i _ => by rw [mkL_getD P h, if_neg (by omega), if_neg (by omega), Nat.zero_mul]), sm_zero, mkL_getD P h P.length, if_neg (by omega), if_pos rfl, Nat.one_mul, Nat.add_zero]
  congr 1
  rw [← val_sm]
  exact val_bytes _ _ _ (fun i hi => by rw [mkL_getD P h, if_pos hi])
theorem blk_le2 (P : List UInt8) (h : P.length ≤ 16) : blk P ≤ 2 * 340282366920938463463374607431768211456 := by
  have h1 := leTo_lt P P.length
  have h2 : 256 ^ P.length ≤ 256 ^ 16 := Nat.pow_le_pow_right (by omega) h
  rw [pow16] at h2
  unfold blk
  omega
/-- Limb i of the product, its first j terms. -/
def prT (A R : List Nat) (i j : Nat) : Nat := sm (fun j => A.getD j 0 * rAt (fun k => R.getD k 0) i j) j
theorem prT_succ (A R : List Nat) (i j : Nat) : prT A R i (j + 1) = prT A R i j + A.getD j 0 * rAt (fun k => R.getD k 0) i j := rfl
theorem term_le {A R : List Nat} (hA : ∀ i, A.getD i 0 ≤ 255) (hR : ∀ i, R.getD i 0 ≤ 255) (i j : Nat) : A.getD j 0 * rAt (fun k => R.getD k 0) i j ≤ 20808000 := by
  have h1 : rAt (fun k => R.getD k 0) i j ≤ 81600 := by
    unfold rAt
    split
    · have := hR (i - j); show R.getD (i - j) 0 ≤ _; omega
    · have := hR (i + 17 - j); show 320 * R.getD (i + 17 - j) 0 ≤ _; omega
  exact Nat.mul_le_mul (hA j) h1
theorem prT_le {A R : List Nat} (hA : ∀ i, A.getD i 0 ≤ 255) (hR : ∀ i, R.getD i 0 ≤ 255) (i j : Nat) : prT A R i j ≤ j * 20808000 := by
  induction j with
  | zero => exact Nat.le_refl _
  | succ j ih =>
    rw [prT_succ]
    have := term_le hA hR i j
    omega
def prL (A R : List Nat) : List Nat := (List.range 17).map fun i => prT A R i 17
theorem prL_length (A R : List Nat) : (prL A R).length = 17 := by simp [prL]
theorem prL_getD (A R : List Nat) (i : Nat) : (prL A R).getD i 0 = if i < 17 then prT A R i 17 else 0 := by
  rw [prL, List.getD_eq_getElem?_getD, List.getElem?_map]
  split
  · rename_i h; simp [h]
  · rename_i h; simp [List.getElem?_eq_none (show (List.range 17).length ≤ i by simp; omega)]
theorem prL_le {A R : List Nat} (hA : ∀ i, A.getD i 0 ≤ 255) (hR : ∀ i, R.getD i 0 ≤ 255) (i : Nat) : (prL A R).getD i 0 ≤ 400000000 := by
  rw [prL_getD]
  split
  · have := prT_le hA hR i 17; omega
  · omega
theorem prL_val (A R : List Nat) : ∃ Q, valTo (prL A R) 17 + pP * Q = valTo A 17 * valTo R 17 := by
  rw [val_sm, val_sm, val_sm]
  obtain ⟨Q, hQ⟩ := conv_val (fun i => A.getD i 0) (fun i => R.getD i 0)
  refine ⟨Q, ?_⟩
  rw [← hQ]
  exact congrArg (· + pP * Q) (sm_congr 17 (fun i hi => by rw [prL_getD, if_pos hi]; rfl))
theorem prL_ext {X A R : List Nat} (hl : X.length = 17) (h : ∀ i, i < 17 → X.getD i 0 = prT A R i 17) : X = prL A R := by
  apply List.ext_getElem (by rw [hl, prL_length])
  intro i h1 h2
  have h3 := h i (by omega)
  have h4 := prL_getD A R i
  rw [if_pos (by omega), ← h3] at h4
  simpa [h1, h2] using h4.symm
/-- One piece: limbs in, limbs out. -/
theorem piece_val {Hh R : List Nat} {r k : Nat} {ys : List UInt8} (t : Tame Hh) (hv : valTo Hh 17 % pP = accTo r ys k) (hR : ∀ i, R.getD i 0 ≤ 255) (hr : valTo R 17 = r) (hP : (pieceAt ys k).length ≤ 16) :
    ∀ A, A = (acTo 0 Hh (fun i => (mkL (pieceAt ys k)).getD i 0) 17).1 → A.length = 17 ∧ (∀ i, A.getD i 0 ≤ 255) ∧ Tame (stepL (prL A R)) ∧ valTo (stepL (prL A R)) 17 % pP = accTo r ys (k + 1) := by
  rintro A rfl
  have h1 := tame_add t (fun i => (mkL (pieceAt ys k)).getD i 0) (blk (pieceAt ys k)) (mkL_val _ hP) (blk_le2 _ hP)
  generalize (acTo 0 Hh (fun i => (mkL (pieceAt ys k)).getD i 0) 17).1 = A at h1 ⊢
  obtain ⟨h1, h2, h3⟩ := h1
  have hA : ∀ i, A.getD i 0 ≤ 255 := fun i => by
    by_cases hi : i < 17
    · exact h2 i hi
    · rw [List.getD_eq_getElem?_getD, List.getElem?_eq_none (by omega)]; exact Nat.zero_le _
  obtain ⟨s1, q, s2⟩ := stepL_val (prL_length A R) (prL_le hA hR)
  obtain ⟨Q, hQ⟩ := prL_val A R
  refine ⟨h3, hA, s1, ?_⟩
  rw [← acc_step r _ ys k hv, ← h1, ← hr, ← hQ, ← s2, Nat.add_mul_mod_self_left, Nat.add_mul_mod_self_left]
theorem size_row {L : List Nat} (h : L.length = 17) : (Tryd.prog.info? 110).map (·.size) = some (ncells .u32 L).toArray.size := by
  rw [show (ncells .u32 L).toArray.size = 17 by rw [List.size_toArray, ncells_length, h]]
  kernel_rfl
theorem one_row (L : List Nat) : (ncells .u32 L).toArray.all (·.oneCell') = true := by simp [ncells, Value.oneCell']
theorem same_row {L M : List Nat} (h : L.length = 17) (h2 : M.length = 17) : (ncells .u32 L).toArray.size = (ncells .u32 M).toArray.size := by
  simp [ncells_length, h, h2]
theorem Tame.le {h : List Nat} (t : Tame h) (i : Nat) : h.getD i 0 ≤ 255 := by
  by_cases h1 : i < 16
  · exact t.2.1 i h1
  · by_cases h2 : i = 16
    · subst h2; have := t.2.2; omega
    · rw [List.getD_eq_getElem?_getD, List.getElem?_eq_none (by rw [t.1]; omega)]; exact Nat.zero_le _
theorem RI.keepC {w wr wr' : World} {R Hh X : List Nat} {S : Nat → Prop} (h : RI w wr R Hh X) (hk : Keeps S wr wr') (hS : ∀ k, S k → w.heap.size + 2 < k) : RI w wr' R Hh X :=
  ⟨h.r.keep hk (fun e => by have := hS _ e; omega), h.h.keep hk (fun e => by have := hS _ e; omega), h.x.keep hk (fun e => by have := hS _ e; omega), h.b.trans (hk.below (B := w.heap.size) h.b.size (by intro k e; have := hS _ e; omega))⟩
theorem piece_getD (ys : List UInt8) (k j : Nat) (hj : j < 16) : (pieceAt ys k).getD j 0 = ys.getD (16 * k + j) 0 := by
  unfold pieceAt
  simp [List.getD_eq_getElem?_getD, hj]
theorem RI.setXd {w wr : World} {R Hh X : List Nat} {i u : Nat} (h : RI w wr R Hh (X.set i u)) (x : Nat) : RI w (wr.setCell ⟨w.heap.size + 2, i, none⟩ (.int .u32 (x : Int))).drew R Hh (X.set i x) := by
  have hp := h.x.set i x
  rw [List.set_set] at hp
  exact h.keepX ((Keeps.refl (fun k => k = w.heap.size + 2) wr).setCell (p := ⟨w.heap.size + 2, i, none⟩) (.inl rfl) _).drew hp
theorem RI.rowH {w wr : World} {R Hh X L : List Nat} (h : RI w wr R Hh X) : RI w (wr.setRow (w.heap.size + 1) (ncells .u32 L).toArray) R L X := by
  refine ⟨?_, setRow_heap wr _ _ _ _ _ h.h, ?_, below_setRow h.b (by omega) _⟩
  · have h1 := h.r; unfold NB at h1 ⊢; rw [setRow_other wr _ _ _ (by omega)]; exact h1
  · have h1 := h.x; unfold NB at h1 ⊢; rw [setRow_other wr _ _ _ (by omega)]; exact h1
theorem mask2 (s : Nat) (hs : s ≤ 4294967295) : bits BinOp.and IntKind.u32 (s : Int) 3 = ((s % 4 : Nat) : Int) := by
  have := u32_and_nat s 3 (by omega) (by omega)
  rw [show ((3 : Nat) : Int) = 3 from rfl] at this
  rw [this, show (3 : Nat) = 2 ^ 2 - 1 from rfl, Nat.and_two_pow_sub_one_eq_mod]
theorem and128 : ∀ x : Nat, x < 256 → x &&& 128 = if x / 128 % 2 = 0 then 0 else 128 := by decide +kernel
theorem mask128 (x : Nat) (hx : x ≤ 255) : bits BinOp.and IntKind.u32 (x : Int) 128 = ((if x / 128 % 2 = 0 then 0 else 128 : Nat) : Int) := by
  have := u32_and_nat x 128 (by omega) (by omega)
  rw [show ((128 : Nat) : Int) = 128 from rfl] at this
  rw [this, and128 x (by omega)]
theorem digit_of_val (D : List Nat) (n : Nat) (h : ∀ i, i < n → D.getD i 0 ≤ 255) (i : Nat) (hi : i < n) : valTo D n / 256 ^ i % 256 = D.getD i 0 := by
  induction n with
  | zero => omega
  | succ n ih =>
    rw [valTo]
    by_cases hn : i < n
    · obtain ⟨e, he⟩ : ∃ e, n = i + 1 + e := ⟨n - i - 1, by omega⟩
      have h1 : D.getD n 0 * 256 ^ n = 256 ^ i * (256 * (256 ^ e * D.getD n 0)) := by
        conv => lhs; rw [he]
        rw [Nat.pow_add, Nat.pow_add, Nat.pow_one, ← he, Nat.mul_comm, Nat.mul_assoc, Nat.mul_assoc]
      rw [h1, Nat.add_mul_div_left _ _ (Nat.pow_pos (by omega)), Nat.add_mul_mod_self_left]
      exact ih (fun i hi => h i (by omega)) hn
    · obtain rfl : i = n := by omega
      have h1 := val_lt D i (fun j hj => h j (by omega))
      have h2 := h i (by omega)
      rw [Nat.mul_comm, Nat.add_mul_div_left _ _ (Nat.pow_pos (by omega)), Nat.div_eq_of_lt h1]
      omega
/-- The last sum: the pile and the key's second half. -/
theorem last_add {Z : List Nat} (hl : Z.length = 17) (xs : List UInt8) (V : Nat) (hV : valTo Z 17 = V) (hlt : V < pP) :
    ∀ D, D = (acTo 0 Z (fun i => (cpTo xs 16).getD i 0) 17).1 → D.length = 17 ∧ (∀ i, i < 17 → D.getD i 0 ≤ 255) ∧ ∀ i, i < 16 → D.getD i 0 = (V + leTo xs 16) / 256 ^ i % 256 := by
  rintro D rfl
  have h1 := acTo_val 0 Z (fun i => (cpTo xs 16).getD i 0) 17 (by omega)
  have h2 := acTo_digit 0 Z (fun i => (cpTo xs 16).getD i 0) 17 (by omega)
  have h3 := acTo_length 0 Z (fun i => (cpTo xs 16).getD i 0) 17
  have h4 : sm (fun i => (cpTo xs 16).getD i 0 * 256 ^ i) 17 = leTo xs 16 := by
    rw [← val_sm, valTo, cpTo_getD _ _ (by omega) 16, if_neg (by omega), Nat.zero_mul, Nat.add_zero]
    exact val_bytes _ _ _ (fun i hi => by rw [cpTo_getD _ _ (by omega), if_pos hi])
  have h5 := leTo_lt xs 16
  rw [h4, hV, e17] at h1
  rw [pow16] at h5
  unfold pP at hlt
  generalize acTo 0 Z (fun i => (cpTo xs 16).getD i 0) 17 = A at h1 h2 h3 ⊢
  obtain ⟨D, u⟩ := A
  simp only at h1 h2 h3 ⊢
  refine ⟨by omega, h2, fun i hi => ?_⟩
  have h6 : valTo D 17 = V + leTo xs 16 := by
    generalize valTo D 17 = T at h1 ⊢
    rcases Nat.eq_zero_or_pos u with h7 | h7
    · subst h7; omega
    · exfalso
      have : 87112285931760246646623899502532662132736 ≤ u * 87112285931760246646623899502532662132736 := Nat.le_mul_of_pos_left _ h7
      omega
  rw [← h6]
  exact (digit_of_val D 17 h2 i (by omega)).symm
/-- What the document's Sum answers: sixteen bytes, new, and OK; or nothing and ErrArg. -/
def RTold (w : World) (key b : List UInt8) (e : Ending) (w' : World) : Prop :=
  Below w.heap.size w w' ∧ ((key.length = 32 ∧ ∃ v, e = .returned (.tuple #[v, .int .i64 0]) ∧ BSl w' v (polyL key b) ∧ ∀ g, v.ownBlock = some g → w.heap.size ≤ g ∧ g < w'.heap.size) ∨
    (key.length ≠ 32 ∧ e = .returned (.tuple #[.slice none 0 0, .int .i64 1])))
theorem minus_le : ∀ i, minusL.getD i 0 ≤ 252 := fun i => by
  by_cases h : i < 17
  · exact (show ∀ i : Nat, i < 17 → minusL.getD i 0 ≤ 252 by decide +kernel) i h
  · rw [List.getD_eq_getElem?_getD, List.getElem?_eq_none (by show 17 ≤ i; omega)]; exact Nat.zero_le _
theorem le_all {D : List Nat} (hl : D.length = 17) (h : ∀ i, i < 17 → D.getD i 0 ≤ 255) : ∀ i, D.getD i 0 ≤ 255 := fun i => by
  by_cases hi : i < 17
  · exact h i hi
  · rw [List.getD_eq_getElem?_getD, List.getElem?_eq_none (by omega)]; exact Nat.zero_le _
end Go.Proofs.YthkaibkmpenclaaDoor
