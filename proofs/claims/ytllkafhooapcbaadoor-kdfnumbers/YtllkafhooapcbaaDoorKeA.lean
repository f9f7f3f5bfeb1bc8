/- The document's SHA-256: its words are those of the program. -/
import Derived.Test.YtllkafhooapcbaaDoorKdO
import Derived.Test.YtllkafhooapcbaaDoorFreD
namespace Go.Proofs.YtllkafhooapcbaaDoor
open Go Go.RowKit

/-- The document's next word, and round, in its own order of sums. -/
theorem nextW_ref (a b c d : Int) : (a + smF b + c + smN d) % 4294967296 = (smN d + c + smF b + a) % 4294967296 := by
  congr 1
  omega
theorem round_ref (a b c d e f g h k x : Int) : [((h + bigE e + choice e f g + k + x) % 4294967296 + (bigA a + major a b c) % 4294967296) % 4294967296, a, b, c, (d + (h + bigE e + choice e f g + k + x) % 4294967296) % 4294967296, e, f, g] = roundL [a, b, c, d, e, f, g, h] ((x + k) % 4294967296) := by
  unfold roundL
  congr 1
  · omega
  · congr 4
    omega
/-- The table's places and what is laid there. -/
def kParts : List (Nat × Value) := (wcells kL).zipIdx.map fun x => (x.2, x.1)
theorem k_built : Tryd.prog.built 57 kParts = some (wcells kL).toArray := by kernel_rfl
theorem wpList_table {ops : Array Oper} {rest : List Oper} {o : Oper} {a : Act} {w : World} {Q : Exit → Act → World → Prop} (hg : o.guard = none) (parts : Array (Nat × Operand)) (ho : o.op = .build 57 parts) (hp : (parts.map fun (i, x) => (i, a.eval x)).toList = kParts)
    (KA : Array Value) (hK : (wcells kL).toArray = KA) (h : wpList Tryd.prog ops Q rest (a.put o.dst (.agg KA)) w) : wpList Tryd.prog ops Q (o :: rest) a w :=
  wpList_plain hg fun _ hK2 => by
    unfold Oper.wp execOp
    simp only [ho]
    rw [Sem.run_bind, run_build w _ _ KA (by rw [hp, k_built, hK])]
    exact hK2 _ _ h
/-- The document's table. -/
theorem kL_row : (Tryd.prog.info? 57).map (·.size) = some (wcells kL).toArray.size ∧ (wcells kL).toArray.all (·.oneCell') = true ∧ 64 = (wcells kL).toArray.size := by
  obtain ⟨h1, h2, h3⟩ := row64 (L := kL) rfl
  exact ⟨h1, h2, rfl⟩
set_option maxHeartbeats 800000 in
set_option maxRecDepth 100000 in
theorem constants_c (w : World) : Calls Tryd.prog 34 #[] w fun e w' => e = .returned (.agg (wcells kL).toArray) ∧ Below w.heap.size w w' := by
  obtain ⟨KA, hKA⟩ : ∃ KA, (wcells kL).toArray = KA := ⟨_, rfl⟩
  obtain ⟨h1, h2, h3⟩ := kL_row
  rw [hKA] at h1 h2 h3 ⊢
  have HKA := hidden hKA
  have H1 := hidden h1
  have H2 := hidden h2
  have H3 := hidden h3
  clear h1 h2 h3 hKA
  have HB : Hid (Below w.heap.size w (w.alloc (.cells KA 57))) := (Below.refl _ w).alloc (by omega) _
  go_enter Tryd.func34, Tryd.ntmps34
  go_wp2_with (first
    | (refine wpList_table rfl _ rfl (by kernel_rfl) KA HKA.out ?_)
    | (refine wpList_store_row rfl 57 (.tmp 0) (.tmp 1) rfl w.heap.size KA rfl rfl 57 _ (heap_alloc_new w _) H1.out H3.out H2.out ?_; rw [World.setRow_alloc_new]))
  (try simp only [Exit.inBlock, Exit.then])
  refine bodyPost_ret (results_cell1 rfl _ _ _ w.heap.size KA 57 (0, 0) 64 53 rfl (heap_alloc_new w _) Tryd.underlying57 H1.out) rfl ?_
  exact ⟨rfl, HB.out⟩
end Go.Proofs.YtllkafhooapcbaaDoor
