/- What Merge answers, both sides. -/
import Derived.Test.YtnigfnikajejaabAtA
namespace Go.Proofs.Ytnigfnikajejaab
open Go Go.RowKit


theorem or_flags (x y : At) (hx : x.Ok) (hy : y.Ok) : bits BinOp.or IntKind.u32 (x.f : Int) (y.f : Int) = (((x.f ||| y.f : Nat)) : Int) := u32_or_nat _ _ (by have := hx.f; omega) (by have := hy.f; omega)
theorem sizeA : (Try.prog.info? 30).map (·.size) = some 7 := by kernel_rfl
theorem top3 (w : World) (A B : Obj) (C : Array Value) (t : TypeId) : (((w.alloc A).alloc B).alloc (.cells C t)).heap[w.heap.size + 1 + 1]? = some (.cells C t (0, 0)) := by
  have := heap_alloc_new ((w.alloc A).alloc B) (.cells C t)
  simpa using this
theorem below3 (w : World) (A B C : Obj) : Below w.heap.size w (((w.alloc A).alloc B).alloc C) :=
  (((Below.refl _ w).alloc (Nat.le_refl _) A).alloc (by simp) B).alloc (by simp; omega) C
/-- The whole of a result's box, by value. -/
theorem results_agg1 {fn : Func} {p : Tmp} {ty : TypeId} (h : fn.results = #[.cell p ty]) (tmps : Array Value) (P : Program) (w : World) (g : Nat) (cs : Array Value) (t : TypeId) (fr : Nat × Nat) {fs : Array Field} (hp : tmps.getD p undef = .pointer (some ⟨g, 0, none⟩)) (hg : w.heap[g]? = some (.cells cs t fr))
    (hu : P.underlying ty = some (.struct fs)) (hi : (P.info? ty).map (·.size) = some cs.size) :
    (results fn tmps).run P w = .ok (.agg cs) w := by
  have hp' : tmps[p]?.getD undef = .pointer (some ⟨g, 0, none⟩) := by rw [← hp]; simp
  simp only [results, h]
  simp [hp', asAddr, run_loadVar_row w g t ty cs fr _ hg hu rfl hi]
set_option maxHeartbeats 3200000 in
set_option maxRecDepth 100000 in
theorem merge_c (x y : At) (hx : x.Ok) (hy : y.Ok) (w : World) : Calls Try.prog 43 #[x.v, y.v] w fun e w' => e = .returned (mergeA x y).v ∧ Below w.heap.size w w' := by
  obtain ⟨e1, e2, e4, e8, n1, n2, n4, n8⟩ := bits_of y.f hy.f
  have ho := or_flags x y hx hy
  clear e1 e2 e4 e8
  unfold mergeA At.v At.cells
  generalize bt 1 y.f = b1 at *
  generalize bt 2 y.f = b2 at *
  generalize bt 4 y.f = b4 at *
  generalize bt 8 y.f = b8 at *
  generalize x.f ||| y.f = F at *
  cases b1 <;> cases b4
  all_goals
    cases b2
    · cases b8
      · go_enter Try.func43, Try.ntmps43
        go_wp2_with fail
        refine bodyPost_ret (results_agg1 rfl _ _ _ (w.heap.size + 1 + 1) _ 30 (0, 0) rfl (top3 w _ _ _ _) Try.underlying30 sizeA) rfl ?_
        exact ⟨rfl, by first | exact below3 w _ _ _ | exact (below3 w _ _ _).drew | exact (below3 w _ _ _).drew.drew | exact below_drewN (below3 w _ _ _) _⟩
      · go_enter Try.func43, Try.ntmps43
        go_wp2_with fail
        go_region
        go_wp2_with fail
        refine bodyPost_ret (results_agg1 rfl _ _ _ (w.heap.size + 1 + 1) _ 30 (0, 0) rfl (top3 w _ _ _ _) Try.underlying30 sizeA) rfl ?_
        exact ⟨rfl, by first | exact below3 w _ _ _ | exact (below3 w _ _ _).drew | exact (below3 w _ _ _).drew.drew | exact below_drewN (below3 w _ _ _) _⟩
    · cases b8
      · go_enter Try.func43, Try.ntmps43
        go_wp2_with fail
        go_region
        go_wp2_with fail
        refine bodyPost_ret (results_agg1 rfl _ _ _ (w.heap.size + 1 + 1) _ 30 (0, 0) rfl (top3 w _ _ _ _) Try.underlying30 sizeA) rfl ?_
        exact ⟨rfl, by first | exact below3 w _ _ _ | exact (below3 w _ _ _).drew | exact (below3 w _ _ _).drew.drew | exact below_drewN (below3 w _ _ _) _⟩
      · go_enter Try.func43, Try.ntmps43
        go_wp2_with fail
        go_region
        go_wp2_with fail
        go_region
        go_wp2_with fail
        refine bodyPost_ret (results_agg1 rfl _ _ _ (w.heap.size + 1 + 1) _ 30 (0, 0) rfl (top3 w _ _ _ _) Try.underlying30 sizeA) rfl ?_
        exact ⟨rfl, by first | exact below3 w _ _ _ | exact (below3 w _ _ _).drew | exact (below3 w _ _ _).drew.drew | exact below_drewN (below3 w _ _ _) _⟩

end Go.Proofs.Ytnigfnikajejaab
