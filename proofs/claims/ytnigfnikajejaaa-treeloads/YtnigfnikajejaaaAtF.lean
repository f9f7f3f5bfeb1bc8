/- What Merge answers, both sides. -/
import Derived.Test.YtnigfnikajejaaaAtA
namespace Go.Proofs.Ytnigfnikajejaaa
open Go Go.RowKit


theorem or_flags (x y : At) (hx : x.Ok) (hy : y.Ok) : bits BinOp.or IntKind.u32 (x.f : Int) (y.f : Int) = (((x.f ||| y.f : Nat)) : Int) := u32_or_nat _ _ (by have := hx.f; omega) (by have := hy.f; omega)
theorem sizeA : (Try.prog.info? 40).map (·.size) = some 7 := by kernel_rfl
theorem top3 (w : World) (A B : Obj) (C : Array Value) (t : TypeId) : (((w.alloc A).alloc B).alloc (.cells C t)).heap[w.heap.size + 1 + 1]? = some (.cells C t (0, 0)) := by
  have := heap_alloc_new ((w.alloc A).alloc B) (.cells C t)
  simpa using this
theorem below3 (w : World) (A B C : Obj) : Below w.heap.size w (((w.alloc A).alloc B).alloc C) :=
  (((Below.refl _ w).alloc (Nat.le_refl _) A).alloc (by simp) B).alloc (by simp; omega) C
/-- The whole of a result's box, by value. -/
theorem results_agg1 {fn : Func} {p : Tmp} {ty : TypeId} (h : fn.results = #[.cell p ty]) (tmps : Array Value) (P : Program) (w : World) (g : Nat) (cs : Array Value) (t : TypeId) (fr : Nat × Nat) {fs : Array Field} (hp : tmps.getD p undef = .pointer (some ⟨g, 0, none⟩)) (hg : w.heap[g]? = some (.cells cs t fr))
    (hu : P.underlying ty = some (.struct fs)) (hi : (P.info? ty).map (·.size) = some cs.size) :
    (results fn tmps).run P w = .ok (.agg cs) w := by
  have hp' : tmps[p]?.getD undef = .pointer (some ⟨g, 0, none⟩) := by rw [← hp]; simp
  simp only [results, h]
  simp [hp', asAddr, run_loadVar_row w g t ty cs fr _ hg hu rfl hi]


end Go.Proofs.Ytnigfnikajejaaa
