/- One step of the ladder: the walk. -/
import Derived.Test.YtdgapijgdbhlfaaDoorCuH
namespace Go.Proofs.YtdgapijgdbhlfaaDoor
open Go Go.RowKit

def dblX (x z : Nat) : Nat := fmul (fmul (fadd x z) (fadd x z)) (fmul (fsub x z) (fsub x z))
def apartOf (x z : Nat) : Nat := fsub (fmul (fadd x z) (fadd x z)) (fmul (fsub x z) (fsub x z))
def dblZ (x z : Nat) : Nat := fmul (apartOf x z) (fadd (fmul (fadd x z) (fadd x z)) (fmul 121665 (apartOf x z)))
def oneOf (x2 z2 x3 z3 : Nat) : Nat := fmul (fsub x3 z3) (fadd x2 z2)
def othOf (x2 z2 x3 z3 : Nat) : Nat := fmul (fadd x3 z3) (fsub x2 z2)
def sumX (x2 z2 x3 z3 : Nat) : Nat := fmul (fadd (oneOf x2 z2 x3 z3) (othOf x2 z2 x3 z3)) (fadd (oneOf x2 z2 x3 z3) (othOf x2 z2 x3 z3))
def sumZ (x2 z2 x3 z3 u : Nat) : Nat := fmul u (fmul (fsub (oneOf x2 z2 x3 z3) (othOf x2 z2 x3 z3)) (fsub (oneOf x2 z2 x3 z3) (othOf x2 z2 x3 z3)))

set_option maxHeartbeats 1600000 in
set_option maxRecDepth 100000 in
theorem step_c {v1 v2 v3 : Value} {x2 z2 x3 z3 u : Nat} (h1 : IsR v1 x2 z2) (h2 : IsR v2 x3 z3) (h3 : IsN v3 u) (w : World) (htp : Tp w) :
    Calls Tryd.prog 28 #[v1, v2, v3] w fun e w' => ∃ r1 r2, e = .returned (.tuple #[r1, r2]) ∧ IsR r1 (dblX x2 z2) (dblZ x2 z2) ∧ IsR r2 (sumX x2 z2 x3 z3) (sumZ x2 z2 x3 z3 u) ∧ Ex w w' := by
  obtain ⟨X2, Z2, rfl, t1, t2⟩ := h1
  obtain ⟨X3, Z3, rfl, t3, t4⟩ := h2
  obtain ⟨U, rfl, t5⟩ := h3
  have H := hidden (ST.start w htp t1 t2 t3 t4 t5)
  have h0 := htp.1
  clear t1 t2 t3 t4 t5 htp
  go_enter Tryd.func28, Tryd.ntmps28
  generalize hA1 : (ncells .u64 (X2 ++ Z2)).toArray = A1 at H ⊢
  generalize hA2 : (ncells .u64 (X3 ++ Z3)).toArray = A2 at H ⊢
  generalize hA3 : (ncells .u64 U).toArray = A3 at H ⊢
  clear hA1 hA2 hA3
  go_upto_region 1 with fail
  change Code.wp _ _ _ _ (((((w.alloc (.cells A1 55)).alloc (.cells A2 55)).alloc (.cells A3 40)).alloc (.cells (ncells .u64 Z10).toArray 55)).alloc (.cells (ncells .u64 Z10).toArray 55))
  generalize ((((w.alloc (.cells A1 55)).alloc (.cells A2 55)).alloc (.cells A3 40)).alloc (.cells (ncells .u64 Z10).toArray 55)).alloc (.cells (ncells .u64 Z10).toArray 55) = wa at H ⊢
  rw [show w.heap.size + 1 + 1 = w.heap.size + 2 from rfl, show w.heap.size + 2 + 1 = w.heap.size + 3 from rfl, show w.heap.size + 3 + 1 = w.heap.size + 4 from rfl]
  go_wp2_with fail
  refine region_two 12 10 11 4 9 (fadd x2 z2) (fsub x2 z2) [.ptr (w.heap.size) 0, .num x2, .ptr (w.heap.size) 5, .num z2, .num (fadd x2 z2), .ptr (w.heap.size) 0, .num x2, .ptr (w.heap.size) 5, .num z2, .num (fsub x2 z2), .blk wa.heap.size, .blk wa.heap.size] 8 23 9 28 (by kernel_rfl) (by decide) (by kernel_rfl) (by kernel_rfl) (by kernel_rfl) (by kernel_rfl) (by kernel_rfl) ?_ (by unfold isStore; kernel_rfl) (by unfold isStore; kernel_rfl) (by kernel_rfl) (by kernel_rfl) (by kernel_rfl) (fun vs => ⟨(by kernel_rfl), (by kernel_rfl), (by kernel_rfl), (by kernel_rfl)⟩) ?_
  · refine req_take (.ptr (w.heap.size) 0) (by kernel_rfl) (fun vs w1 he hd => kd_field (x := .tmp 3) (f := 0) (by kernel_rfl) (by kernel_rfl) (.inl ⟨rfl, rfl⟩)) ?_
    refine req_take (.num x2) (by kernel_rfl) (fun vs w1 he hd => kd_loadX (x := .tmp 19) (by kernel_rfl) (Eq.trans (b := vs 0) (by kernel_rfl) (hd 0 (.ptr (w.heap.size) 0) (by decide) (by kernel_rfl) (by kernel_rfl))) (H.out.ext he).a) ?_
    refine req_take (.ptr (w.heap.size) 5) (by kernel_rfl) (fun vs w1 he hd => kd_field (x := .tmp 3) (f := 1) (by kernel_rfl) (by kernel_rfl) (.inr ⟨rfl, rfl⟩)) ?_
    refine req_take (.num z2) (by kernel_rfl) (fun vs w1 he hd => kd_loadZ (x := .tmp 21) (by kernel_rfl) (Eq.trans (b := vs 2) (by kernel_rfl) (hd 2 (.ptr (w.heap.size) 5) (by decide) (by kernel_rfl) (by kernel_rfl))) (H.out.ext he).a) ?_
    refine req_take (.num (fadd x2 z2)) (by kernel_rfl) (fun vs w1 he hd => kd_plus (x := .tmp 20) (y := .tmp 22) (ts := #[40, 40]) (vx := vs 1) (vy := vs 3) (by kernel_rfl) (by kernel_rfl) (by kernel_rfl) (hd 1 (.num x2) (by decide) (by kernel_rfl) (by kernel_rfl)) (by kernel_rfl) (hd 3 (.num z2) (by decide) (by kernel_rfl) (by kernel_rfl))) ?_
    refine req_take (.ptr (w.heap.size) 0) (by kernel_rfl) (fun vs w1 he hd => kd_field (x := .tmp 3) (f := 0) (by kernel_rfl) (by kernel_rfl) (.inl ⟨rfl, rfl⟩)) ?_
    refine req_take (.num x2) (by kernel_rfl) (fun vs w1 he hd => kd_loadX (x := .tmp 24) (by kernel_rfl) (Eq.trans (b := vs 5) (by kernel_rfl) (hd 5 (.ptr (w.heap.size) 0) (by decide) (by kernel_rfl) (by kernel_rfl))) (H.out.ext he).a) ?_
    refine req_take (.ptr (w.heap.size) 5) (by kernel_rfl) (fun vs w1 he hd => kd_field (x := .tmp 3) (f := 1) (by kernel_rfl) (by kernel_rfl) (.inr ⟨rfl, rfl⟩)) ?_
    refine req_take (.num z2) (by kernel_rfl) (fun vs w1 he hd => kd_loadZ (x := .tmp 26) (by kernel_rfl) (Eq.trans (b := vs 7) (by kernel_rfl) (hd 7 (.ptr (w.heap.size) 5) (by decide) (by kernel_rfl) (by kernel_rfl))) (H.out.ext he).a) ?_
    refine req_take (.num (fsub x2 z2)) (by kernel_rfl) (fun vs w1 he hd => kd_minus (x := .tmp 25) (y := .tmp 27) (ts := #[40, 40]) (vx := vs 6) (vy := vs 8) (by kernel_rfl) (by kernel_rfl) (by kernel_rfl) (hd 6 (.num x2) (by decide) (by kernel_rfl) (by kernel_rfl)) (by kernel_rfl) (hd 8 (.num z2) (by decide) (by kernel_rfl) (by kernel_rfl)) (H.out.ext he).t) ?_
    refine req_take (.blk wa.heap.size) (by kernel_rfl) (fun vs w1 he hd => kd_alloc (by kernel_rfl) he.size) ?_
    refine req_take (.blk wa.heap.size) (by kernel_rfl) (fun vs w1 he hd => kd_alloc (by kernel_rfl) he.size) ?_
    exact eachL_zero
  intro vs wb g8 g9 hx e1 e2 n1 n2 b1 b2
  have HB := hidden (H.out.ext hx)
  have N8 := hidden (NN.mk' n1 H.out b1)
  have N9 := hidden (NN.mk' n2 H.out b2)
  clear n1 n2 b1 b2 hx H
  simp only [actsTo, if_true, dstOf, List.getElem?_toArray, List.getElem?_cons_succ, List.getElem?_cons_zero, Option.bind_some, Act.put, List.setIfInBounds_toArray, List.set_cons_zero, List.set_cons_succ]
  rw [e1, e2]
  generalize vs 0 = y0
  generalize vs 1 = y1
  generalize vs 2 = y2
  generalize vs 3 = y3
  generalize vs 4 = y4
  generalize vs 5 = y5
  generalize vs 6 = y6
  generalize vs 7 = y7
  generalize vs 8 = y8
  generalize vs 9 = y9
  clear vs e1 e2
  go_wp2_with fail
  refine region_two 12 10 11 4 9 (fadd x3 z3) (fsub x3 z3) [.ptr ((w.heap.size + 1)) 0, .num x3, .ptr ((w.heap.size + 1)) 5, .num z3, .num (fadd x3 z3), .ptr ((w.heap.size + 1)) 0, .num x3, .ptr ((w.heap.size + 1)) 5, .num z3, .num (fsub x3 z3), .blk wb.heap.size, .blk wb.heap.size] 10 33 11 38 (by kernel_rfl) (by decide) (by kernel_rfl) (by kernel_rfl) (by kernel_rfl) (by kernel_rfl) (by kernel_rfl) ?_ (by unfold isStore; kernel_rfl) (by unfold isStore; kernel_rfl) (by kernel_rfl) (by kernel_rfl) (by kernel_rfl) (fun vs => ⟨(by kernel_rfl), (by kernel_rfl), (by kernel_rfl), (by kernel_rfl)⟩) ?_
  · refine req_take (.ptr ((w.heap.size + 1)) 0) (by kernel_rfl) (fun vs w1 he hd => kd_field (x := .tmp 4) (f := 0) (by kernel_rfl) (by kernel_rfl) (.inl ⟨rfl, rfl⟩)) ?_
    refine req_take (.num x3) (by kernel_rfl) (fun vs w1 he hd => kd_loadX (x := .tmp 29) (by kernel_rfl) (Eq.trans (b := vs 0) (by kernel_rfl) (hd 0 (.ptr ((w.heap.size + 1)) 0) (by decide) (by kernel_rfl) (by kernel_rfl))) (HB.out.ext he).b) ?_
    refine req_take (.ptr ((w.heap.size + 1)) 5) (by kernel_rfl) (fun vs w1 he hd => kd_field (x := .tmp 4) (f := 1) (by kernel_rfl) (by kernel_rfl) (.inr ⟨rfl, rfl⟩)) ?_
    refine req_take (.num z3) (by kernel_rfl) (fun vs w1 he hd => kd_loadZ (x := .tmp 31) (by kernel_rfl) (Eq.trans (b := vs 2) (by kernel_rfl) (hd 2 (.ptr ((w.heap.size + 1)) 5) (by decide) (by kernel_rfl) (by kernel_rfl))) (HB.out.ext he).b) ?_
    refine req_take (.num (fadd x3 z3)) (by kernel_rfl) (fun vs w1 he hd => kd_plus (x := .tmp 30) (y := .tmp 32) (ts := #[40, 40]) (vx := vs 1) (vy := vs 3) (by kernel_rfl) (by kernel_rfl) (by kernel_rfl) (hd 1 (.num x3) (by decide) (by kernel_rfl) (by kernel_rfl)) (by kernel_rfl) (hd 3 (.num z3) (by decide) (by kernel_rfl) (by kernel_rfl))) ?_
    refine req_take (.ptr ((w.heap.size + 1)) 0) (by kernel_rfl) (fun vs w1 he hd => kd_field (x := .tmp 4) (f := 0) (by kernel_rfl) (by kernel_rfl) (.inl ⟨rfl, rfl⟩)) ?_
    refine req_take (.num x3) (by kernel_rfl) (fun vs w1 he hd => kd_loadX (x := .tmp 34) (by kernel_rfl) (Eq.trans (b := vs 5) (by kernel_rfl) (hd 5 (.ptr ((w.heap.size + 1)) 0) (by decide) (by kernel_rfl) (by kernel_rfl))) (HB.out.ext he).b) ?_
    refine req_take (.ptr ((w.heap.size + 1)) 5) (by kernel_rfl) (fun vs w1 he hd => kd_field (x := .tmp 4) (f := 1) (by kernel_rfl) (by kernel_rfl) (.inr ⟨rfl, rfl⟩)) ?_
    refine req_take (.num z3) (by kernel_rfl) (fun vs w1 he hd => kd_loadZ (x := .tmp 36) (by kernel_rfl) (Eq.trans (b := vs 7) (by kernel_rfl) (hd 7 (.ptr ((w.heap.size + 1)) 5) (by decide) (by kernel_rfl) (by kernel_rfl))) (HB.out.ext he).b) ?_
    refine req_take (.num (fsub x3 z3)) (by kernel_rfl) (fun vs w1 he hd => kd_minus (x := .tmp 35) (y := .tmp 37) (ts := #[40, 40]) (vx := vs 6) (vy := vs 8) (by kernel_rfl) (by kernel_rfl) (by kernel_rfl) (hd 6 (.num x3) (by decide) (by kernel_rfl) (by kernel_rfl)) (by kernel_rfl) (hd 8 (.num z3) (by decide) (by kernel_rfl) (by kernel_rfl)) (HB.out.ext he).t) ?_
    refine req_take (.blk wb.heap.size) (by kernel_rfl) (fun vs w1 he hd => kd_alloc (by kernel_rfl) he.size) ?_
    refine req_take (.blk wb.heap.size) (by kernel_rfl) (fun vs w1 he hd => kd_alloc (by kernel_rfl) he.size) ?_
    exact eachL_zero
  intro vs wc g10 g11 hx e1 e2 n1 n2 b1 b2
  have HC := hidden (HB.out.ext hx)
  have N8' := hidden (N8.out.ext hx)
  clear N8
  have N8 := N8'
  clear N8'
  have N9' := hidden (N9.out.ext hx)
  clear N9
  have N9 := N9'
  clear N9'
  have N10 := hidden (NN.mk' n1 HB.out b1)
  have N11 := hidden (NN.mk' n2 HB.out b2)
  clear n1 n2 b1 b2 hx HB
  simp only [actsTo, if_true, dstOf, List.getElem?_toArray, List.getElem?_cons_succ, List.getElem?_cons_zero, Option.bind_some, Act.put, List.setIfInBounds_toArray, List.set_cons_zero, List.set_cons_succ]
  rw [e1, e2]
  generalize vs 0 = y0
  generalize vs 1 = y1
  generalize vs 2 = y2
  generalize vs 3 = y3
  generalize vs 4 = y4
  generalize vs 5 = y5
  generalize vs 6 = y6
  generalize vs 7 = y7
  generalize vs 8 = y8
  generalize vs 9 = y9
  clear vs e1 e2
  go_wp2_with fail
  refine region_two 8 6 7 2 5 (fmul (fadd x2 z2) (fadd x2 z2)) (fmul (fsub x2 z2) (fsub x2 z2)) [.num (fadd x2 z2), .num (fadd x2 z2), .num (fmul (fadd x2 z2) (fadd x2 z2)), .num (fsub x2 z2), .num (fsub x2 z2), .num (fmul (fsub x2 z2) (fsub x2 z2)), .blk wc.heap.size, .blk wc.heap.size] 12 41 13 44 (by kernel_rfl) (by decide) (by kernel_rfl) (by kernel_rfl) (by kernel_rfl) (by kernel_rfl) (by kernel_rfl) ?_ (by unfold isStore; kernel_rfl) (by unfold isStore; kernel_rfl) (by kernel_rfl) (by kernel_rfl) (by kernel_rfl) (fun vs => ⟨(by kernel_rfl), (by kernel_rfl), (by kernel_rfl), (by kernel_rfl)⟩) ?_
  · refine req_take (.num (fadd x2 z2)) (by kernel_rfl) (fun vs w1 he hd => kd_load (x := .tmp 8) (g := g8) (by kernel_rfl) (by kernel_rfl) (N8.out.1.ext he)) ?_
    refine req_take (.num (fadd x2 z2)) (by kernel_rfl) (fun vs w1 he hd => kd_load (x := .tmp 8) (g := g8) (by kernel_rfl) (by kernel_rfl) (N8.out.1.ext he)) ?_
    refine req_take (.num (fmul (fadd x2 z2) (fadd x2 z2))) (by kernel_rfl) (fun vs w1 he hd => kd_times (x := .tmp 39) (y := .tmp 40) (ts := #[40, 40]) (vx := vs 0) (vy := vs 1) (by kernel_rfl) (by kernel_rfl) (by kernel_rfl) (hd 0 (.num (fadd x2 z2)) (by decide) (by kernel_rfl) (by kernel_rfl)) (by kernel_rfl) (hd 1 (.num (fadd x2 z2)) (by decide) (by kernel_rfl) (by kernel_rfl))) ?_
    refine req_take (.num (fsub x2 z2)) (by kernel_rfl) (fun vs w1 he hd => kd_load (x := .tmp 9) (g := g9) (by kernel_rfl) (by kernel_rfl) (N9.out.1.ext he)) ?_
    refine req_take (.num (fsub x2 z2)) (by kernel_rfl) (fun vs w1 he hd => kd_load (x := .tmp 9) (g := g9) (by kernel_rfl) (by kernel_rfl) (N9.out.1.ext he)) ?_
    refine req_take (.num (fmul (fsub x2 z2) (fsub x2 z2))) (by kernel_rfl) (fun vs w1 he hd => kd_times (x := .tmp 42) (y := .tmp 43) (ts := #[40, 40]) (vx := vs 3) (vy := vs 4) (by kernel_rfl) (by kernel_rfl) (by kernel_rfl) (hd 3 (.num (fsub x2 z2)) (by decide) (by kernel_rfl) (by kernel_rfl)) (by kernel_rfl) (hd 4 (.num (fsub x2 z2)) (by decide) (by kernel_rfl) (by kernel_rfl))) ?_
    refine req_take (.blk wc.heap.size) (by kernel_rfl) (fun vs w1 he hd => kd_alloc (by kernel_rfl) he.size) ?_
    refine req_take (.blk wc.heap.size) (by kernel_rfl) (fun vs w1 he hd => kd_alloc (by kernel_rfl) he.size) ?_
    exact eachL_zero
  intro vs wd g12 g13 hx e1 e2 n1 n2 b1 b2
  have HD := hidden (HC.out.ext hx)
  have N8' := hidden (N8.out.ext hx)
  clear N8
  have N8 := N8'
  clear N8'
  have N9' := hidden (N9.out.ext hx)
  clear N9
  have N9 := N9'
  clear N9'
  have N10' := hidden (N10.out.ext hx)
  clear N10
  have N10 := N10'
  clear N10'
  have N11' := hidden (N11.out.ext hx)
  clear N11
  have N11 := N11'
  clear N11'
  have N12 := hidden (NN.mk' n1 HC.out b1)
  have N13 := hidden (NN.mk' n2 HC.out b2)
  clear n1 n2 b1 b2 hx HC
  simp only [actsTo, if_true, dstOf, List.getElem?_toArray, List.getElem?_cons_succ, List.getElem?_cons_zero, Option.bind_some, Act.put, List.setIfInBounds_toArray, List.set_cons_zero, List.set_cons_succ]
  rw [e1, e2]
  generalize vs 0 = y0
  generalize vs 1 = y1
  generalize vs 2 = y2
  generalize vs 3 = y3
  generalize vs 4 = y4
  generalize vs 5 = y5
  clear vs e1 e2
  go_upto_region 5 with (first
    | (refine wpList_load5 (x := .tmp 12) rfl rfl (by kernel_rfl) N12.out.1 ?_; intro v45 i45)
    | (refine wpList_load5 (x := .tmp 13) rfl rfl (by kernel_rfl) N13.out.1 ?_; intro v46 i46)
    | (refine wpList_minus (x := .tmp 45) (y := .tmp 46) (vx := v45) (vy := v46) rfl rfl (by kernel_rfl) i45 (by kernel_rfl) i46 HD.out.t ?_; intro v47 we i47 hx)
    | (refine wpList_new (d := 14) (e := 47) (v := v47) ⟨rfl, rfl⟩ rfl rfl rfl rfl (by kernel_rfl) (by kernel_rfl) i47 (by decide) ?_; intro g14 wf hy n1 b1))
  have HX := hidden (HD.out.ext hx)
  have hx := hx.trans hy
  have HF := hidden (HD.out.ext hx)
  have N8' := hidden (N8.out.ext hx)
  clear N8
  have N8 := N8'
  clear N8'
  have N9' := hidden (N9.out.ext hx)
  clear N9
  have N9 := N9'
  clear N9'
  have N10' := hidden (N10.out.ext hx)
  clear N10
  have N10 := N10'
  clear N10'
  have N11' := hidden (N11.out.ext hx)
  clear N11
  have N11 := N11'
  clear N11'
  have N12' := hidden (N12.out.ext hx)
  clear N12
  have N12 := N12'
  clear N12'
  have N13' := hidden (N13.out.ext hx)
  clear N13
  have N13 := N13'
  clear N13'
  have N14 : Hid (NN w wf g14 (apartOf x2 z2)) := NN.mk' n1 HX.out b1
  clear n1 b1 hx hy HD HX i45 i46 i47
  go_wp2_with (first
    | (refine wpList_load5 (x := .tmp 12) rfl rfl (by kernel_rfl) N12.out.1 ?_; intro v48 i48)
    | (refine wpList_load5 (x := .tmp 13) rfl rfl (by kernel_rfl) N13.out.1 ?_; intro v49 i49)
    | (refine wpList_times (x := .tmp 48) (y := .tmp 49) (vx := v48) (vy := v49) rfl rfl (by kernel_rfl) i48 (by kernel_rfl) i49 ?_; intro v50 wg i50 hx)
    | (refine wpList_mid (x := .tmp 51) (y := .tmp 50) (g := w.heap.size + 3) (off := 0) (v := v50) rfl rfl rfl (by kernel_rfl) (by kernel_rfl) i50 (HF.out.ext hx).d (by decide) ?_; intro wh RX hk tX nX))
  have N8' := hidden (N8.out.ext hx)
  clear N8
  have N8 := N8'
  clear N8'
  have N9' := hidden (N9.out.ext hx)
  clear N9
  have N9 := N9'
  clear N9'
  have N10' := hidden (N10.out.ext hx)
  clear N10
  have N10 := N10'
  clear N10'
  have N11' := hidden (N11.out.ext hx)
  clear N11
  have N11 := N11'
  clear N11'
  have N12' := hidden (N12.out.ext hx)
  clear N12
  have N12 := N12'
  clear N12'
  have N13' := hidden (N13.out.ext hx)
  clear N13
  have N13 := N13'
  clear N13'
  have N14' := hidden (N14.out.ext hx)
  clear N14
  have N14 := N14'
  clear N14'
  have N8' := hidden (N8.out.keepD hk)
  clear N8
  have N8 := N8'
  clear N8'
  have N9' := hidden (N9.out.keepD hk)
  clear N9
  have N9 := N9'
  clear N9'
  have N10' := hidden (N10.out.keepD hk)
  clear N10
  have N10 := N10'
  clear N10'
  have N11' := hidden (N11.out.keepD hk)
  clear N11
  have N11 := N11'
  clear N11'
  have N12' := hidden (N12.out.keepD hk)
  clear N12
  have N12 := N12'
  clear N12'
  have N13' := hidden (N13.out.keepD hk)
  clear N13
  have N13 := N13'
  clear N13'
  have N14' := hidden (N14.out.keepD hk)
  clear N14
  have N14 := N14'
  clear N14'
  have HH := hidden ((HF.out.ext hx).setD (D' := RX ++ [0, 0, 0, 0, 0]) h0 hk (by rw [← setL_a RX tX.len]; exact nX))
  have TX : Hid (Tm RX (dblX x2 z2)) := tX
  clear HF hx hk nX tX i48 i49 i50
  refine region_mid 8 7 6 (dblZ x2 z2) (w.heap.size + 3) 5 [.num (apartOf x2 z2), .num (fmul (fadd x2 z2) (fadd x2 z2)), .num 121665, .num (apartOf x2 z2), .num (fmul 121665 (apartOf x2 z2)), .num (fadd (fmul (fadd x2 z2) (fadd x2 z2)) (fmul 121665 (apartOf x2 z2))), .num (fmul (apartOf x2 z2) (fadd (fmul (fadd x2 z2) (fadd x2 z2)) (fmul 121665 (apartOf x2 z2)))), .ptr ((w.heap.size + 3)) 5] 59 58 55 (RX ++ [0, 0, 0, 0, 0]) (by kernel_rfl) (by decide) (by kernel_rfl) (by kernel_rfl) (by kernel_rfl) ?_ (by unfold isStore; kernel_rfl) (by kernel_rfl) (by kernel_rfl) (fun vs => ⟨(by kernel_rfl), (by kernel_rfl)⟩) HH.out.d (by rw [List.length_append, TX.out.len]; decide) ?_
  · refine req_take (.num (apartOf x2 z2)) (by kernel_rfl) (fun vs w1 he hd => kd_load (x := .tmp 14) (g := g14) (by kernel_rfl) (by kernel_rfl) (N14.out.1.ext he)) ?_
    refine req_take (.num (fmul (fadd x2 z2) (fadd x2 z2))) (by kernel_rfl) (fun vs w1 he hd => kd_load (x := .tmp 12) (g := g12) (by kernel_rfl) (by kernel_rfl) (N12.out.1.ext he)) ?_
    refine req_take (.num 121665) (by kernel_rfl) (fun vs w1 he hd => kd_build (by kernel_rfl) (by kernel_rfl)) ?_
    refine req_take (.num (apartOf x2 z2)) (by kernel_rfl) (fun vs w1 he hd => kd_load (x := .tmp 14) (g := g14) (by kernel_rfl) (by kernel_rfl) (N14.out.1.ext he)) ?_
    refine req_take (.num (fmul 121665 (apartOf x2 z2))) (by kernel_rfl) (fun vs w1 he hd => kd_times (x := .tmp 54) (y := .tmp 55) (ts := #[40, 40]) (vx := vs 2) (vy := vs 3) (by kernel_rfl) (by kernel_rfl) (by kernel_rfl) (hd 2 (.num 121665) (by decide) (by kernel_rfl) (by kernel_rfl)) (by kernel_rfl) (hd 3 (.num (apartOf x2 z2)) (by decide) (by kernel_rfl) (by kernel_rfl))) ?_
    refine req_take (.num (fadd (fmul (fadd x2 z2) (fadd x2 z2)) (fmul 121665 (apartOf x2 z2)))) (by kernel_rfl) (fun vs w1 he hd => kd_plus (x := .tmp 53) (y := .tmp 56) (ts := #[40, 40]) (vx := vs 1) (vy := vs 4) (by kernel_rfl) (by kernel_rfl) (by kernel_rfl) (hd 1 (.num (fmul (fadd x2 z2) (fadd x2 z2))) (by decide) (by kernel_rfl) (by kernel_rfl)) (by kernel_rfl) (hd 4 (.num (fmul 121665 (apartOf x2 z2))) (by decide) (by kernel_rfl) (by kernel_rfl))) ?_
    refine req_take (.num (fmul (apartOf x2 z2) (fadd (fmul (fadd x2 z2) (fadd x2 z2)) (fmul 121665 (apartOf x2 z2))))) (by kernel_rfl) (fun vs w1 he hd => kd_times (x := .tmp 52) (y := .tmp 57) (ts := #[40, 40]) (vx := vs 0) (vy := vs 5) (by kernel_rfl) (by kernel_rfl) (by kernel_rfl) (hd 0 (.num (apartOf x2 z2)) (by decide) (by kernel_rfl) (by kernel_rfl)) (by kernel_rfl) (hd 5 (.num (fadd (fmul (fadd x2 z2) (fadd x2 z2)) (fmul 121665 (apartOf x2 z2)))) (by decide) (by kernel_rfl) (by kernel_rfl))) ?_
    refine req_take (.ptr ((w.heap.size + 3)) 5) (by kernel_rfl) (fun vs w1 he hd => kd_field (x := .tmp 6) (f := 1) (by kernel_rfl) (by kernel_rfl) (.inr ⟨rfl, rfl⟩)) ?_
    exact eachL_zero
  intro vs wi RZ hk t1 n1
  have N8' := hidden (N8.out.keepD hk)
  clear N8
  have N8 := N8'
  clear N8'
  have N9' := hidden (N9.out.keepD hk)
  clear N9
  have N9 := N9'
  clear N9'
  have N10' := hidden (N10.out.keepD hk)
  clear N10
  have N10 := N10'
  clear N10'
  have N11' := hidden (N11.out.keepD hk)
  clear N11
  have N11 := N11'
  clear N11'
  have N12' := hidden (N12.out.keepD hk)
  clear N12
  have N12 := N12'
  clear N12'
  have N13' := hidden (N13.out.keepD hk)
  clear N13
  have N13 := N13'
  clear N13'
  have N14' := hidden (N14.out.keepD hk)
  clear N14
  have N14 := N14'
  clear N14'
  have HI := hidden (HH.out.setD (D' := RX ++ RZ) h0 hk (by rw [← setL_b RX RZ TX.out.len t1.len]; exact n1))
  have TZ := hidden t1
  clear HH hk t1 n1
  simp only [actsTo, if_true, dstOf, List.getElem?_toArray, List.getElem?_cons_succ, List.getElem?_cons_zero, Option.bind_some, Act.put, List.setIfInBounds_toArray, List.set_cons_zero, List.set_cons_succ]
  generalize vs 0 = y0
  generalize vs 1 = y1
  generalize vs 2 = y2
  generalize vs 3 = y3
  generalize vs 4 = y4
  generalize vs 5 = y5
  generalize vs 6 = y6
  generalize vs 7 = y7
  clear vs
  go_wp2_with fail
  refine region_two 8 6 7 2 5 (oneOf x2 z2 x3 z3) (othOf x2 z2 x3 z3) [.num (fsub x3 z3), .num (fadd x2 z2), .num (oneOf x2 z2 x3 z3), .num (fadd x3 z3), .num (fsub x2 z2), .num (othOf x2 z2 x3 z3), .blk wi.heap.size, .blk wi.heap.size] 15 62 16 65 (by kernel_rfl) (by decide) (by kernel_rfl) (by kernel_rfl) (by kernel_rfl) (by kernel_rfl) (by kernel_rfl) ?_ (by unfold isStore; kernel_rfl) (by unfold isStore; kernel_rfl) (by kernel_rfl) (by kernel_rfl) (by kernel_rfl) (fun vs => ⟨(by kernel_rfl), (by kernel_rfl), (by kernel_rfl), (by kernel_rfl)⟩) ?_
  · refine req_take (.num (fsub x3 z3)) (by kernel_rfl) (fun vs w1 he hd => kd_load (x := .tmp 11) (g := g11) (by kernel_rfl) (by kernel_rfl) (N11.out.1.ext he)) ?_
    refine req_take (.num (fadd x2 z2)) (by kernel_rfl) (fun vs w1 he hd => kd_load (x := .tmp 8) (g := g8) (by kernel_rfl) (by kernel_rfl) (N8.out.1.ext he)) ?_
    refine req_take (.num (oneOf x2 z2 x3 z3)) (by kernel_rfl) (fun vs w1 he hd => kd_times (x := .tmp 60) (y := .tmp 61) (ts := #[40, 40]) (vx := vs 0) (vy := vs 1) (by kernel_rfl) (by kernel_rfl) (by kernel_rfl) (hd 0 (.num (fsub x3 z3)) (by decide) (by kernel_rfl) (by kernel_rfl)) (by kernel_rfl) (hd 1 (.num (fadd x2 z2)) (by decide) (by kernel_rfl) (by kernel_rfl))) ?_
    refine req_take (.num (fadd x3 z3)) (by kernel_rfl) (fun vs w1 he hd => kd_load (x := .tmp 10) (g := g10) (by kernel_rfl) (by kernel_rfl) (N10.out.1.ext he)) ?_
    refine req_take (.num (fsub x2 z2)) (by kernel_rfl) (fun vs w1 he hd => kd_load (x := .tmp 9) (g := g9) (by kernel_rfl) (by kernel_rfl) (N9.out.1.ext he)) ?_
    refine req_take (.num (othOf x2 z2 x3 z3)) (by kernel_rfl) (fun vs w1 he hd => kd_times (x := .tmp 63) (y := .tmp 64) (ts := #[40, 40]) (vx := vs 3) (vy := vs 4) (by kernel_rfl) (by kernel_rfl) (by kernel_rfl) (hd 3 (.num (fadd x3 z3)) (by decide) (by kernel_rfl) (by kernel_rfl)) (by kernel_rfl) (hd 4 (.num (fsub x2 z2)) (by decide) (by kernel_rfl) (by kernel_rfl))) ?_
    refine req_take (.blk wi.heap.size) (by kernel_rfl) (fun vs w1 he hd => kd_alloc (by kernel_rfl) he.size) ?_
    refine req_take (.blk wi.heap.size) (by kernel_rfl) (fun vs w1 he hd => kd_alloc (by kernel_rfl) he.size) ?_
    exact eachL_zero
  intro vs wj g15 g16 hx e1 e2 n1 n2 b1 b2
  have HJ := hidden (HI.out.ext hx)
  have N15 := hidden (NN.mk' n1 HI.out b1)
  have N16 := hidden (NN.mk' n2 HI.out b2)
  clear n1 n2 b1 b2 hx HI
  simp only [actsTo, if_true, dstOf, List.getElem?_toArray, List.getElem?_cons_succ, List.getElem?_cons_zero, Option.bind_some, Act.put, List.setIfInBounds_toArray, List.set_cons_zero, List.set_cons_succ]
  rw [e1, e2]
  generalize vs 0 = y0
  generalize vs 1 = y1
  generalize vs 2 = y2
  generalize vs 3 = y3
  generalize vs 4 = y4
  generalize vs 5 = y5
  clear vs e1 e2 N8 N9 N10 N11 N12 N13 N14
  go_wp2_with fail
  refine region_two 8 6 7 2 5 (fadd (oneOf x2 z2 x3 z3) (othOf x2 z2 x3 z3)) (fsub (oneOf x2 z2 x3 z3) (othOf x2 z2 x3 z3)) [.num (oneOf x2 z2 x3 z3), .num (othOf x2 z2 x3 z3), .num (fadd (oneOf x2 z2 x3 z3) (othOf x2 z2 x3 z3)), .num (oneOf x2 z2 x3 z3), .num (othOf x2 z2 x3 z3), .num (fsub (oneOf x2 z2 x3 z3) (othOf x2 z2 x3 z3)), .blk wj.heap.size, .blk wj.heap.size] 17 68 18 71 (by kernel_rfl) (by decide) (by kernel_rfl) (by kernel_rfl) (by kernel_rfl) (by kernel_rfl) (by kernel_rfl) ?_ (by unfold isStore; kernel_rfl) (by unfold isStore; kernel_rfl) (by kernel_rfl) (by kernel_rfl) (by kernel_rfl) (fun vs => ⟨(by kernel_rfl), (by kernel_rfl), (by kernel_rfl), (by kernel_rfl)⟩) ?_
  · refine req_take (.num (oneOf x2 z2 x3 z3)) (by kernel_rfl) (fun vs w1 he hd => kd_load (x := .tmp 15) (g := g15) (by kernel_rfl) (by kernel_rfl) (N15.out.1.ext he)) ?_
    refine req_take (.num (othOf x2 z2 x3 z3)) (by kernel_rfl) (fun vs w1 he hd => kd_load (x := .tmp 16) (g := g16) (by kernel_rfl) (by kernel_rfl) (N16.out.1.ext he)) ?_
    refine req_take (.num (fadd (oneOf x2 z2 x3 z3) (othOf x2 z2 x3 z3))) (by kernel_rfl) (fun vs w1 he hd => kd_plus (x := .tmp 66) (y := .tmp 67) (ts := #[40, 40]) (vx := vs 0) (vy := vs 1) (by kernel_rfl) (by kernel_rfl) (by kernel_rfl) (hd 0 (.num (oneOf x2 z2 x3 z3)) (by decide) (by kernel_rfl) (by kernel_rfl)) (by kernel_rfl) (hd 1 (.num (othOf x2 z2 x3 z3)) (by decide) (by kernel_rfl) (by kernel_rfl))) ?_
    refine req_take (.num (oneOf x2 z2 x3 z3)) (by kernel_rfl) (fun vs w1 he hd => kd_load (x := .tmp 15) (g := g15) (by kernel_rfl) (by kernel_rfl) (N15.out.1.ext he)) ?_
    refine req_take (.num (othOf x2 z2 x3 z3)) (by kernel_rfl) (fun vs w1 he hd => kd_load (x := .tmp 16) (g := g16) (by kernel_rfl) (by kernel_rfl) (N16.out.1.ext he)) ?_
    refine req_take (.num (fsub (oneOf x2 z2 x3 z3) (othOf x2 z2 x3 z3))) (by kernel_rfl) (fun vs w1 he hd => kd_minus (x := .tmp 69) (y := .tmp 70) (ts := #[40, 40]) (vx := vs 3) (vy := vs 4) (by kernel_rfl) (by kernel_rfl) (by kernel_rfl) (hd 3 (.num (oneOf x2 z2 x3 z3)) (by decide) (by kernel_rfl) (by kernel_rfl)) (by kernel_rfl) (hd 4 (.num (othOf x2 z2 x3 z3)) (by decide) (by kernel_rfl) (by kernel_rfl)) (HJ.out.ext he).t) ?_
    refine req_take (.blk wj.heap.size) (by kernel_rfl) (fun vs w1 he hd => kd_alloc (by kernel_rfl) he.size) ?_
    refine req_take (.blk wj.heap.size) (by kernel_rfl) (fun vs w1 he hd => kd_alloc (by kernel_rfl) he.size) ?_
    exact eachL_zero
  intro vs wk g17 g18 hx e1 e2 n1 n2 b1 b2
  have HK := hidden (HJ.out.ext hx)
  have N17 := hidden (NN.mk' n1 HJ.out b1)
  have N18 := hidden (NN.mk' n2 HJ.out b2)
  clear n1 n2 b1 b2 hx HJ
  simp only [actsTo, if_true, dstOf, List.getElem?_toArray, List.getElem?_cons_succ, List.getElem?_cons_zero, Option.bind_some, Act.put, List.setIfInBounds_toArray, List.set_cons_zero, List.set_cons_succ]
  rw [e1, e2]
  generalize vs 0 = y0
  generalize vs 1 = y1
  generalize vs 2 = y2
  generalize vs 3 = y3
  generalize vs 4 = y4
  generalize vs 5 = y5
  clear vs e1 e2 N15 N16
  go_wp2_with (first
    | (refine wpList_load5d (d := 72) (x := .tmp 17) rfl rfl rfl (by kernel_rfl) N17.out.1 ?_; intro v72 i72)
    | (refine wpList_load5d (d := 73) (x := .tmp 17) rfl rfl rfl (by kernel_rfl) N17.out.1 ?_; intro v73 i73)
    | (refine wpList_times (x := .tmp 72) (y := .tmp 73) (vx := v72) (vy := v73) rfl rfl (by kernel_rfl) i72 (by kernel_rfl) i73 ?_; intro v74 wl i74 hx)
    | (refine wpList_mid (x := .tmp 75) (y := .tmp 74) (g := w.heap.size + 4) (off := 0) (v := v74) rfl rfl rfl (by kernel_rfl) (by kernel_rfl) i74 (HK.out.ext hx).s (by decide) ?_; intro wm SX hk tX nX))
  have N17' := hidden (N17.out.ext hx)
  clear N17
  have N17 := N17'
  clear N17'
  have N18' := hidden (N18.out.ext hx)
  clear N18
  have N18 := N18'
  clear N18'
  have N17' := hidden (N17.out.keepS hk)
  clear N17
  have N17 := N17'
  clear N17'
  have N18' := hidden (N18.out.keepS hk)
  clear N18
  have N18 := N18'
  clear N18'
  have HM := hidden ((HK.out.ext hx).setS (S' := SX ++ [0, 0, 0, 0, 0]) h0 hk (by rw [← setL_a SX tX.len]; exact nX))
  have UX : Hid (Tm SX (sumX x2 z2 x3 z3)) := tX
  clear HK hx hk nX tX i72 i73 i74
  refine region_mid 6 5 4 (sumZ x2 z2 x3 z3 u) (w.heap.size + 4) 5 [.num u, .num (fsub (oneOf x2 z2 x3 z3) (othOf x2 z2 x3 z3)), .num (fsub (oneOf x2 z2 x3 z3) (othOf x2 z2 x3 z3)), .num (fmul (fsub (oneOf x2 z2 x3 z3) (othOf x2 z2 x3 z3)) (fsub (oneOf x2 z2 x3 z3) (othOf x2 z2 x3 z3))), .num (fmul u (fmul (fsub (oneOf x2 z2 x3 z3) (othOf x2 z2 x3 z3)) (fsub (oneOf x2 z2 x3 z3) (othOf x2 z2 x3 z3)))), .ptr ((w.heap.size + 4)) 5] 81 80 55 (SX ++ [0, 0, 0, 0, 0]) (by kernel_rfl) (by decide) (by kernel_rfl) (by kernel_rfl) (by kernel_rfl) ?_ (by unfold isStore; kernel_rfl) (by kernel_rfl) (by kernel_rfl) (fun vs => ⟨(by kernel_rfl), (by kernel_rfl)⟩) HM.out.s (by rw [List.length_append, UX.out.len]; decide) ?_
  · refine req_take (.num u) (by kernel_rfl) (fun vs w1 he hd => kd_load (x := .tmp 5) (g := (w.heap.size + 2)) (by kernel_rfl) (by kernel_rfl) ((HM.out.ext he).u)) ?_
    refine req_take (.num (fsub (oneOf x2 z2 x3 z3) (othOf x2 z2 x3 z3))) (by kernel_rfl) (fun vs w1 he hd => kd_load (x := .tmp 18) (g := g18) (by kernel_rfl) (by kernel_rfl) (N18.out.1.ext he)) ?_
    refine req_take (.num (fsub (oneOf x2 z2 x3 z3) (othOf x2 z2 x3 z3))) (by kernel_rfl) (fun vs w1 he hd => kd_load (x := .tmp 18) (g := g18) (by kernel_rfl) (by kernel_rfl) (N18.out.1.ext he)) ?_
    refine req_take (.num (fmul (fsub (oneOf x2 z2 x3 z3) (othOf x2 z2 x3 z3)) (fsub (oneOf x2 z2 x3 z3) (othOf x2 z2 x3 z3)))) (by kernel_rfl) (fun vs w1 he hd => kd_times (x := .tmp 77) (y := .tmp 78) (ts := #[40, 40]) (vx := vs 1) (vy := vs 2) (by kernel_rfl) (by kernel_rfl) (by kernel_rfl) (hd 1 (.num (fsub (oneOf x2 z2 x3 z3) (othOf x2 z2 x3 z3))) (by decide) (by kernel_rfl) (by kernel_rfl)) (by kernel_rfl) (hd 2 (.num (fsub (oneOf x2 z2 x3 z3) (othOf x2 z2 x3 z3))) (by decide) (by kernel_rfl) (by kernel_rfl))) ?_
    refine req_take (.num (fmul u (fmul (fsub (oneOf x2 z2 x3 z3) (othOf x2 z2 x3 z3)) (fsub (oneOf x2 z2 x3 z3) (othOf x2 z2 x3 z3))))) (by kernel_rfl) (fun vs w1 he hd => kd_times (x := .tmp 76) (y := .tmp 79) (ts := #[40, 40]) (vx := vs 0) (vy := vs 3) (by kernel_rfl) (by kernel_rfl) (by kernel_rfl) (hd 0 (.num u) (by decide) (by kernel_rfl) (by kernel_rfl)) (by kernel_rfl) (hd 3 (.num (fmul (fsub (oneOf x2 z2 x3 z3) (othOf x2 z2 x3 z3)) (fsub (oneOf x2 z2 x3 z3) (othOf x2 z2 x3 z3)))) (by decide) (by kernel_rfl) (by kernel_rfl))) ?_
    refine req_take (.ptr ((w.heap.size + 4)) 5) (by kernel_rfl) (fun vs w1 he hd => kd_field (x := .tmp 7) (f := 1) (by kernel_rfl) (by kernel_rfl) (.inr ⟨rfl, rfl⟩)) ?_
    exact eachL_zero
  intro vs wn SZ hk t1 n1
  have HN := hidden (HM.out.setS (S' := SX ++ SZ) h0 hk (by rw [← setL_b SX SZ UX.out.len t1.len]; exact n1))
  have UZ := hidden t1
  clear HM hk t1 n1 N17 N18
  simp only [actsTo, if_true, dstOf, List.getElem?_toArray, List.getElem?_cons_succ, List.getElem?_cons_zero, Option.bind_some, Act.put, List.setIfInBounds_toArray, List.set_cons_zero, List.set_cons_succ]
  generalize vs 0 = y0
  generalize vs 1 = y1
  generalize vs 2 = y2
  generalize vs 3 = y3
  generalize vs 4 = y4
  generalize vs 5 = y5
  clear vs
  go_wp2_with fail
  refine region_back (w.heap.size + 3) (w.heap.size + 4) (RX ++ RZ) (SX ++ SZ) 6 7 82 83 _ _ _ _ ⟨(by kernel_rfl), (by kernel_rfl), (by kernel_rfl)⟩ ⟨(by kernel_rfl), (by kernel_rfl), (by kernel_rfl)⟩ (by unfold isStore; kernel_rfl) (by unfold isStore; kernel_rfl) (by kernel_rfl) (by kernel_rfl) (by kernel_rfl) (by kernel_rfl) (by kernel_rfl) (by kernel_rfl) (by kernel_rfl) ⟨(by kernel_rfl), (by kernel_rfl)⟩ (by decide) ⟨(by kernel_rfl), (by kernel_rfl)⟩ HN.out.d HN.out.s (by rw [List.length_append, TX.out.len, TZ.out.len]) (by rw [List.length_append, UX.out.len, UZ.out.len]) ?_
  intro wo hk n1 n2
  have HE : Hid (Ex w wo) := Below.trans HN.out.e (hk.below (B := w.heap.size) HN.out.e.size (by intro k e; omega))
  simp only [Act.put, List.setIfInBounds_toArray, List.set_cons_zero, List.set_cons_succ]
  clear hk HN
  have M1 := hidden n1
  have M2 := hidden n2
  clear n1 n2
  go_wp2_with fail
  (try simp only [Exit.inBlock, Exit.then])
  refine bodyPost_ret (results_cell2 rfl _ _ _ (w.heap.size + 3) (w.heap.size + 4) (ncells .u64 (RX ++ RZ)).toArray (ncells .u64 (SX ++ SZ)).toArray 55 55 _ rfl rfl M1.out M2.out Tryd.underlying55 rfl (rat_size RX RZ TX.out.len TZ.out.len) (rat_size SX SZ UX.out.len UZ.out.len)) rfl ?_
  exact ⟨_, _, rfl, ⟨RX, RZ, rfl, TX.out, TZ.out⟩, ⟨SX, SZ, rfl, UX.out, UZ.out⟩, HE.out⟩
end Go.Proofs.YtdgapijgdbhlfaaDoor
