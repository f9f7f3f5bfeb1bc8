/- One step of the ladder. -/
import Derived.Test.YtdgapijgdbhlfaaDoorCuE
namespace Go.Proofs.YtdgapijgdbhlfaaDoor
open Go Go.RowKit

def Z10 : List Nat := [0, 0, 0, 0, 0, 0, 0, 0, 0, 0]
theorem results_cell2 {fn : Func} {p q : Tmp} {ty : TypeId} (h : fn.results = #[.cell p ty, .cell q ty]) (tmps : Array Value) (P : Program) (w : World) (g g2 : Nat) (cs cs2 : Array Value) (t t2 : TypeId) (d : TypeDesc) (hp : tmps.getD p undef = .pointer (some ⟨g, 0, none⟩)) (hq : tmps.getD q undef = .pointer (some ⟨g2, 0, none⟩)) (hg : w.heap[g]? = some (.cells cs t (0, 0))) (hg2 : w.heap[g2]? = some (.cells cs2 t2 (0, 0)))
    (hu : P.underlying ty = some d) (hd : d.isRow = true) (hi : (P.info? ty).map (·.size) = some cs.size) (hi2 : (P.info? ty).map (·.size) = some cs2.size) :
    (results fn tmps).run P w = .ok (.tuple #[.agg cs, .agg cs2]) w := by
  have hp' : tmps[p]?.getD undef = .pointer (some ⟨g, 0, none⟩) := by rw [← hp]; simp
  have hq' : tmps[q]?.getD undef = .pointer (some ⟨g2, 0, none⟩) := by rw [← hq]; simp
  have r1 : w.rangeAt g 0 cs.toList := fun j v hv => by rw [Nat.zero_add, cell_of_row w g j cs t (0, 0) hg]; simpa using hv
  have r2 : w.rangeAt g2 0 cs2.toList := fun j v hv => by rw [Nat.zero_add, cell_of_row w g2 j cs2 t2 (0, 0) hg2]; simpa using hv
  have l1 := run_loadVar_mid (P := P) w g 0 ty cs.toList d r1 hu hd (by simpa using hi)
  have l2 := run_loadVar_mid (P := P) w g2 0 ty cs2.toList d r2 hu hd (by simpa using hi2)
  simp only [results, h]
  simp [hp', hq', asAddr, l1, l2]
theorem ST.start (w : World) (htp : Tp w) {X2 Z2 X3 Z3 U : List Nat} {x2 z2 x3 z3 u : Nat} (h1 : Tm X2 x2) (h2 : Tm Z2 z2) (h3 : Tm X3 x3) (h4 : Tm Z3 z3) (h5 : Tm U u) :
    ST w (((((w.alloc (.cells (ncells .u64 (X2 ++ Z2)).toArray 55)).alloc (.cells (ncells .u64 (X3 ++ Z3)).toArray 55)).alloc (.cells (ncells .u64 U).toArray 40)).alloc (.cells (ncells .u64 Z10).toArray 55)).alloc (.cells (ncells .u64 Z10).toArray 55)) x2 z2 x3 z3 u Z10 Z10 := by
  obtain ⟨w1, e1⟩ : ∃ x, x = w.alloc (.cells (ncells .u64 (X2 ++ Z2)).toArray 55) := ⟨_, rfl⟩
  obtain ⟨w2, e2⟩ : ∃ x, x = w1.alloc (.cells (ncells .u64 (X3 ++ Z3)).toArray 55) := ⟨_, rfl⟩
  obtain ⟨w3, e3⟩ : ∃ x, x = w2.alloc (.cells (ncells .u64 U).toArray 40) := ⟨_, rfl⟩
  obtain ⟨w4, e4⟩ : ∃ x, x = w3.alloc (.cells (ncells .u64 Z10).toArray 55) := ⟨_, rfl⟩
  obtain ⟨w5, e5⟩ : ∃ x, x = w4.alloc (.cells (ncells .u64 Z10).toArray 55) := ⟨_, rfl⟩
  have s1 : w1.heap.size = w.heap.size + 1 := by rw [e1]; simp
  have s2 : w2.heap.size = w.heap.size + 2 := by rw [e2]; simp; omega
  have s3 : w3.heap.size = w.heap.size + 3 := by rw [e3]; simp; omega
  have s4 : w4.heap.size = w.heap.size + 4 := by rw [e4]; simp; omega
  have n1 : NB .u64 w1 w.heap.size 55 (X2 ++ Z2) := by rw [e1]; exact NB.new w _
  have n2 : NB .u64 w2 (w.heap.size + 1) 55 (X3 ++ Z3) := by rw [e2, ← s1]; exact NB.new w1 _
  have n3 : NB .u64 w3 (w.heap.size + 2) 40 U := by rw [e3, ← s2]; exact NB.new w2 _
  have n4 : NB .u64 w4 (w.heap.size + 3) 55 Z10 := by rw [e4, ← s3]; exact NB.new w3 _
  have n5 : NB .u64 w5 (w.heap.size + 4) 55 Z10 := by rw [e5, ← s4]; exact NB.new w4 _
  have x1 : Ex w w1 := by rw [e1]; exact Ex.alloc w _
  have x2' : Ex w1 w2 := by rw [e2]; exact Ex.alloc w1 _
  have x3' : Ex w2 w3 := by rw [e3]; exact Ex.alloc w2 _
  have x4 : Ex w3 w4 := by rw [e4]; exact Ex.alloc w3 _
  have x5 : Ex w4 w5 := by rw [e5]; exact Ex.alloc w4 _
  rw [← e1, ← e2, ← e3, ← e4, ← e5]
  have x45 := x4.trans x5
  have x345 := x3'.trans x45
  have x2345 := x2'.trans x345
  exact ⟨⟨X2, Z2, n1.fresh x2345, h1, h2⟩, ⟨X3, Z3, n2.fresh x345, h3, h4⟩, ⟨U, n3.fresh x45, h5⟩, n4.fresh x5, n5, x1.trans x2345, htp.fresh (x1.trans x2345)⟩
end Go.Proofs.YtdgapijgdbhlfaaDoor
