/- An open channel: its cells, and what tell, refill and flush do. -/
import Derived.Test.YtnimdbjbkoggdaaCnB
import Derived.Deep.RegionHeld3
namespace Go.Proofs.Ytnimdbjbkoggdaa
open Go Go.RowKit

theorem cell_mid {w : World} {a : Nat} {A M Z : List Value} {t : TypeId} (h : w.heap[a]? = some (.cells (A ++ M ++ Z).toArray t (0, 0))) (j : Nat) (hj : j < M.length) : w.cell? ⟨a, A.length + j, none⟩ = M[j]? := by
  rw [cell_row h, List.append_assoc, List.getElem?_append_right (by omega), Nat.add_sub_cancel_left, List.getElem?_append_left hj]
theorem set_mid {w : World} {a : Nat} {A M Z : List Value} {t : TypeId} (h : w.heap[a]? = some (.cells (A ++ M ++ Z).toArray t (0, 0))) (j : Nat) (hj : j < M.length) (u : Value) : (w.setCell ⟨a, A.length + j, none⟩ u).heap[a]? = some (.cells (A ++ M.set j u ++ Z).toArray t (0, 0)) := by
  rw [heap_setCell_same _ _ _ _ _ _ h]
  congr 2
  simp only [List.setIfInBounds_toArray, List.append_assoc]
  rw [List.set_append_right _ _ (by omega), Nat.add_sub_cancel_left, List.set_append_left _ _ hj]
/-- Channel i, open as c, lies in block a at o, between A and Z; what waits is v. -/
structure CX (w : World) (a o i : Nat) (c : Ch) (v : Value) (A Z : List Value) : Prop where
  blk : w.heap[a]? = some (.cells (A ++ pcells i (some c) v ++ Z).toArray 61 (0, 0))
  len : A.length = o
  held : Held w v c.wt
  own : v.ownBlock ≠ some a
theorem CX.lt {w : World} {a o i : Nat} {c : Ch} {v : Value} {A Z : List Value} (h : CX w a o i c v A Z) : a < w.heap.size := lt_of_block h.blk
theorem CX.keep {S : Nat → Prop} {w w' : World} {a o i : Nat} {c : Ch} {v : Value} {A Z : List Value} (h : CX w a o i c v A Z) (hk : Keeps S w w') (ha : ¬ S a) (hv : ∀ k, v.ownBlock = some k → ¬ S k) : CX w' a o i c v A Z :=
  ⟨(hk.block a h.lt ha).trans h.blk, h.len, h.held.keep hk hv, h.own⟩
theorem CX.still {w w' : World} {a o i : Nat} {c : Ch} {v : Value} {A Z : List Value} (h : CX w a o i c v A Z) (hk : Keeps (fun _ => False) w w') : CX w' a o i c v A Z := h.keep hk (fun h => h) (fun _ _ h => h)
theorem CX.fresh {w w' : World} {a o i : Nat} {c : Ch} {v : Value} {A Z : List Value} (h : CX w a o i c v A Z) (hb : Below w.heap.size w w') : CX w' a o i c v A Z := h.still (Keeps.ofFresh hb)
theorem CX.cells {w : World} {a o i : Nat} {c : Ch} {v : Value} {A Z : List Value} (h : CX w a o i c v A Z) :
    w.cell? ⟨a, o, none⟩ = some (.bool true) ∧ w.cell? ⟨a, o + 1, none⟩ = some (.bool c.od) ∧ w.cell? ⟨a, o + 2, none⟩ = some (.bool c.en) ∧ w.cell? ⟨a, o + 3, none⟩ = some (.bool c.cl) ∧ w.cell? ⟨a, o + 4, none⟩ = some (.int .i64 i) ∧ w.cell? ⟨a, o + 5, none⟩ = some (.int .u32 c.th) ∧ w.cell? ⟨a, o + 6, none⟩ = some (.complex .f64 (nb c.wl) (nb c.wm)) ∧ w.cell? ⟨a, o + 7, none⟩ = some (.complex .f64 (nb c.ol) (nb 32768)) ∧ w.cell? ⟨a, o + 8, none⟩ = some v ∧ ∀ j, w.frozen? ⟨a, j, none⟩ = false := by
  have hl := h.len
  subst hl
  refine ⟨cell_mid h.blk 0 (by simp [pcells]), cell_mid h.blk 1 (by simp [pcells]), cell_mid h.blk 2 (by simp [pcells]), cell_mid h.blk 3 (by simp [pcells]), cell_mid h.blk 4 (by simp [pcells]), cell_mid h.blk 5 (by simp [pcells]), cell_mid h.blk 6 (by simp [pcells]), cell_mid h.blk 7 (by simp [pcells]), cell_mid h.blk 8 (by simp [pcells]), fun j => frozen_row h.blk j⟩
theorem CX.set {w : World} {a o i : Nat} {c : Ch} {v : Value} {A Z : List Value} (h : CX w a o i c v A Z) (j : Nat) (hj : j < 9) (u : Value) (c' : Ch) (v' : Value) (he : (pcells i (some c) v).set j u = pcells i (some c') v') (hv : Held w v' c'.wt) (ho : ∀ k, v'.ownBlock = some k → v.ownBlock = some k) : CX (w.setCell ⟨a, o + j, none⟩ u) a o i c' v' A Z := by
  have hl := h.len
  subst hl
  have h1 : v'.ownBlock ≠ some a := fun e => h.own (ho _ e)
  refine ⟨?_, rfl, hv.keep (keepsSet w a (A.length + j) u) (fun k e e2 => h1 (by rw [e, e2])), h1⟩
  rw [← he]
  exact set_mid h.blk j (by rw [pcells_length]; exact hj) u

theorem store_cx (w : World) (p : Addr) (x y : Nat) {u : Value} (hc : w.cell? p = some u) (hf : w.frozen? p = false) : (store p (.complex .f64 x y)).run Try.prog w = .ok () (w.setCell p (.complex .f64 x y)) := by
  rw [run_store _ _ _ _ _ rfl, hc]
  simp [hf]

set_option maxHeartbeats 400000 in
theorem fullWindow_c (w : World) : Calls Try.prog 55 #[] w fun e w' => e = .returned (.complex .f64 (nb 65536) (nb 32768)) ∧ w' = w := by
  have HO : Hid (Calls Try.prog 54 #[.int .i64 65536, .int .i64 32768] w fun e w' => e = .returned (.complex .f64 (nb 65536) (nb 32768)) ∧ w' = w) := hidden (of_c 65536 32768 w)
  generalize nb 65536 = x at HO ⊢
  generalize nb 32768 = y at HO ⊢
  go_enter Try.func55, Try.ntmps55
  go_wp2_with fail
  refine HO.out.mono ?_
  rintro e w1 ⟨rfl, rfl⟩
  go_wp2_with fail
  go_ret
  exact ⟨rfl, rfl⟩

set_option maxHeartbeats 400000 in
theorem tell_c (k : Nat) (w : World) {a o i : Nat} {c : Ch} {v : Value} {A Z : List Value} (h : CX w a o i c v A Z) :
    Calls Try.prog 71 #[.pointer (some ⟨a, o, none⟩), .int .i64 k] w fun e w' => e = .returned (.slice (some ⟨w.heap.size, 0, none⟩) 1 1) ∧ w' = w.alloc (.cells #[.int .i64 k, .int .i64 i, .slice none 0 0] 51) := by
  obtain ⟨c0, c1, c2, c3, c4, c5, c6, c7, c8, cf⟩ := h.cells
  clear h
  go_enter Try.func71, Try.ntmps71
  go_wp2_with fail
  go_ret
  exact ⟨rfl, rfl⟩

/-- What refill leaves. -/
def RPost (w : World) (a o i : Nat) (c : Ch) (v : Value) (A Z : List Value) (e : Ending) (w' : World) : Prop :=
  ∃ u, e = .returned u ∧ Lst w.heap.size w' u (refillO c).2 ∧ CX w' a o i (refillO c).1 v A Z ∧ Keeps (fun k => k = a) w w'
set_option maxHeartbeats 800000 in
set_option maxRecDepth 100000 in
theorem refill_c (w : World) {a o i : Nat} {c : Ch} {v : Value} {A Z : List Value} (h : CX w a o i c v A Z) (ht : c.th ≤ 4294967295) (hol : c.ol ≤ 65536) :
    Calls Try.prog 70 #[.pointer (some ⟨a, o, none⟩)] w fun e w' => RPost w a o i c v A Z e w' := by
  obtain ⟨c0, c1, c2, c3, c4, c5, c6, c7, c8, cf⟩ := h.cells
  have HX := hidden h
  have HLF := hidden (left_w (Win.mk' c.ol 32768 (by omega) (by omega) (by omega)) w)
  by_cases hlt : c.ol < 32768
  · have hge : ¬ (32768 : Int) ≤ (c.ol : Int) := by omega
    obtain ⟨q, hq⟩ : ∃ q, q = 65536 - c.ol := ⟨_, rfl⟩
    have hq1 : (65536 : Int) - (c.ol : Int) = (q : Int) := by omega
    have hq2 : q ≤ 65536 := by omega
    have HR : Hid (refillO c = (used c 65536, [numL 93 [c.th, q]])) := hidden (by unfold refillO; rw [if_pos hlt, hq])
    clear hq
    have HC2 := hidden (HX.out.set 7 (by omega) (.complex .f64 (nb 65536) (nb 32768)) (used c 65536) v rfl HX.out.held (fun k e => e))
    have HK2 := hidden (keepsSet w a (o + 7) (.complex .f64 (nb 65536) (nb 32768)))
    have HF := hidden (fullWindow_c w)
    unfold RPost
    rw [HR.out]
    clear HR h
    obtain ⟨d0, d1, d2, d3, d4, d5, d6, d7, d8, df⟩ := HC2.out.cells
    generalize nb 65536 = x1 at *
    generalize nb 32768 = x2 at *
    generalize nb c.ol = x3 at *
    go_enter Try.func70, Try.ntmps70
    go_wp2_with fail
    refine HLF.out.mono ?_
    rintro e w1 ⟨rfl, rfl⟩
    clear HLF
    go_upto_if 10 with fail
    generalize hd1 : decide ((32768 : Int) ≤ (c.ol : Int)) = d1
    have hd2 : d1 = false := by rw [← hd1]; exact decide_eq_false (by omega)
    clear hd1 hge
    subst hd2
    go_wp2_with fail
    refine HF.out.mono ?_
    rintro e w2 ⟨rfl, rfl⟩
    clear HF
    have hs7 := store_cx w2 ⟨a, o + 7, none⟩ x1 x2 c7 (cf _)
    have hsz := hidden (show (w2.setCell ⟨a, o + 7, none⟩ (.complex .f64 x1 x2)).heap.size = w2.heap.size by simp)
    go_wp2_with fail
    clear hs7
    generalize w2.setCell ⟨a, o + 7, none⟩ (.complex .f64 x1 x2) = w3 at *
    rw [← hsz.out]
    have HN := hidden (nsl_lit w3 [c.th, q])
    refine (numbers_c 93 _ [c.th, q] _ HN.out (by intro j hj; match j, hj with | 0, _ => exact ht | 1, _ => exact Nat.le_trans hq2 (by omega)) (by simp)).mono ?_
    rintro e w4 ⟨v4, rfl, ho4, hb4⟩
    obtain ⟨ao, cp, rfl⟩ := ownsRow_shape ho4
    rw [show byteOf ((93 : Nat) : Int) = 93 from rfl] at ho4 ⊢
    have HP : Hid (∃ u, Ending.returned (.slice (some ⟨w4.heap.size, 0, none⟩) 1 1) = .returned u ∧ Lst w2.heap.size (w4.alloc (.cells #[.slice ao (numL 93 [c.th, q]).length cp] 30)) u [numL 93 [c.th, q]] ∧ CX (w4.alloc (.cells #[.slice ao (numL 93 [c.th, q]).length cp] 30)) a o i (used c 65536) v A Z ∧ Keeps (fun k => k = a) w2 (w4.alloc (.cells #[.slice ao (numL 93 [c.th, q]).length cp] 30))) := by
      have hb5 := below_alloc hb4
      refine hidden ⟨_, rfl, Lst.one ho4 (by simp; rw [hsz.out]; omega) hb4.size, (HC2.out.fresh hb5).still ((Keeps.refl _ _).alloc _), (HK2.out.trans (Keeps.ofFresh hb5)).alloc _⟩
    clear ho4 hb4 HN HC2 HK2 HX hsz c0 c1 c2 c3 c4 c5 c6 c7 c8 cf d0 d1 d2 d3 d4 d5 d6 d7 d8 df
    generalize (numL 93 [c.th, q]).length = n at *
    go_wp2_with fail
    go_ret
    exact HP.out
  · have hge : (32768 : Int) ≤ (c.ol : Int) := by omega
    have HR : Hid (refillO c = (c, [])) := hidden (by unfold refillO; rw [if_neg hlt])
    unfold RPost
    rw [HR.out]
    clear HR h
    generalize nb 32768 = x2 at *
    generalize nb c.ol = x3 at *
    go_enter Try.func70, Try.ntmps70
    go_wp2_with fail
    refine HLF.out.mono ?_
    rintro e w1 ⟨rfl, rfl⟩
    clear HLF
    go_upto_if 10 with fail
    generalize hd1 : decide ((32768 : Int) ≤ (c.ol : Int)) = d1
    have hd2 : d1 = true := by rw [← hd1]; exact decide_eq_true (by omega)
    clear hd1 hge
    subst hd2
    go_wp2_with fail
    go_ret
    exact ⟨_, rfl, Lst.nil' _ _, HX.out, Keeps.refl _ _⟩

end Go.Proofs.Ytnimdbjbkoggdaa
