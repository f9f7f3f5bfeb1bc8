/- Slices of bytes: what is read of them; the helpers Within, Cut and Sized; whole arrays. -/
import Derived.Test.YtnigfnikajejaabRdM
import Derived.Test.YtnigfnikajejaabRfC
import Derived.Outline
import Derived.Laws.BitsAllLaws
import Derived.Laws.CopyOwn
import Derived.OwnWalk
import Derived.OneCell
import Derived.Deep.QuietTactic
import Derived.BigQuiet
import Derived.Deep.OwnRows
import Derived.Laws.Rows
import Derived.Laws.Tables
import Derived.Deep.WholeRow
namespace Go.Proofs.Ytnigfnikajejaab
open Go Go.RowKit

theorem set_next (A Z : List Value) (u : Value) (n : Nat) (hn : A.length = n) (hZ : Z ≠ []) : (A ++ Z).toArray.setIfInBounds n u = ((A ++ [u]) ++ Z.drop 1).toArray := by
  subst hn
  cases Z with
  | nil => exact absurd rfl hZ
  | cons z r => simp
theorem cell_row {w : World} {g : Nat} {cs : List Value} {t : TypeId} (h : w.heap[g]? = some (.cells cs.toArray t (0, 0))) (i : Nat) : w.cell? ⟨g, i, none⟩ = cs[i]? := by
  simp [World.cell?, h]
theorem frozen_row {w : World} {g : Nat} {cs : Array Value} {t : TypeId} (h : w.heap[g]? = some (.cells cs t (0, 0))) (j : Nat) : w.frozen? ⟨g, j, none⟩ = false := by simp [World.frozen?, h]
theorem copy_run {w w1 : World} {g N cap : Nat} {ao : Option Addr} {xs : List UInt8} {Z : List Value} (hv : BSl w1 (.slice ao xs.length cap) xs) (hb : Below w.heap.size w w1) (hB : w.heap.size ≤ g) (hg : w1.heap[g]? = some (.cells Z.toArray 5 (0, 0))) (hZ : xs.length ≤ Z.length) (hN : xs.length ≤ N) (hs : (Try.prog.info? 5).map (·.size) = some 1) :
    ∃ w2, (Builtin.copy_ #[28, 28] 3 #[.slice (some ⟨g, 0, none⟩) N N, .slice ao xs.length cap]).run Try.prog w1 = .ok (goInt xs.length) w2 ∧ w2.heap[g]? = some (.cells (bcells xs ++ Z.drop xs.length).toArray 5 (0, 0)) ∧ Below w.heap.size w w2 := by
  by_cases hne : xs = []
  · subst hne
    exact ⟨w1, run_copy_none (P := Try.prog) w1 _ _ _ 5 _ _ _ _ _ _ Try.underlying28 hs (by simp), by simpa [bcells] using hg, hb⟩
  · obtain ⟨ao', cap', e, _, _, h3, h4⟩ := hv
    cases e
    cases ao with
    | none => exact absurd (h3 rfl).1 hne
    | some ad =>
      obtain ⟨b, off, rfl, hc⟩ := h4 ad rfl hne
      have hr := run_copy_row (P := Try.prog) w1 28 28 3 5 g 0 N N ⟨b, off, none⟩ xs.length cap Z.toArray 5 (bcells xs) Try.underlying28 hs hg (by rw [bcells_length]; exact (Nat.min_eq_left hN).symm) (fun j u hu => by rw [add_lit']; exact hc j u hu) (by rw [bcells_length]; simpa using hZ) (fun u hu => bcells_one u hu)
      rw [bcells_length] at hr
      refine ⟨_, hr, ?_, below_setRow hb hB _⟩
      have := setRow_heap w1 g Z.toArray (bcells xs ++ Z.drop xs.length).toArray 5 (0, 0) hg
      simpa using this

theorem BSl.addr {w : World} {ao : Option Addr} {n cap : Nat} {xs : List UInt8} (h : BSl w (.slice ao n cap) xs) (hne : xs ≠ []) : ∃ b off, ao = some ⟨b, off, none⟩ := by
  obtain ⟨ao', cap', e, _, _, h3, h4⟩ := h
  cases e
  cases ao with
  | none => exact absurd (h3 rfl).1 hne
  | some ad => obtain ⟨b, off, rfl, _⟩ := h4 ad rfl hne; exact ⟨b, off, rfl⟩


theorem BSl.head' {w : World} {ao : Option Addr} {cap n : Nat} {bs : List UInt8} (h : BSl w (.slice ao bs.length cap) bs) (hn : n ≤ bs.length) : BSl w (.slice ao n cap) (bs.take n) := by
  obtain ⟨ao, cap, e, h1, h2, h3, hc⟩ := h
  cases e
  have hlen : (bs.take n).length = n := by simp; omega
  refine ⟨ao, cap, by rw [hlen], by rw [hlen]; omega, h2, fun e => ⟨by rw [(h3 e).1]; simp, (h3 e).2⟩, fun ad had hne => ?_⟩
  obtain ⟨b, off, rfl, hcell⟩ := hc ad had (by rintro rfl; simp at hne)
  refine ⟨b, off, rfl, fun j u hu => hcell j u ?_⟩
  have hj : j < n := by have := (List.getElem?_eq_some_iff.1 hu).1; rw [bcells_length, hlen] at this; exact this
  simp only [bcells, List.getElem?_map, List.getElem?_take, hj, if_true] at hu ⊢
  exact hu

theorem hidden {p : Prop} (h : p) : Hid p := h
theorem BSl.cellD {w : World} {b off n cap : Nat} {xs : List UInt8} (h : BSl w (.slice (some ⟨b, off, none⟩) n cap) xs) (k : Nat) (hk : k < xs.length) : w.cell? ⟨b, off + k, none⟩ = some (.int .u8 ((xs.getD k 0).toNat)) := by
  rw [h.cellAt k hk]
  simp [hk]
theorem BSl.len {w : World} {v : Value} {xs : List UInt8} (h : BSl w v xs) : ∃ ao cap, v = .slice ao xs.length cap := by
  obtain ⟨ao, cap, e, _⟩ := h
  exact ⟨ao, cap, e⟩
theorem BSl.nonnil {w : World} {v : Value} {xs : List UInt8} (h : BSl w v xs) (hne : xs ≠ []) : ∃ b o cap, v = .slice (some ⟨b, o, none⟩) xs.length cap ∧ b < w.heap.size := by
  cases xs with
  | nil => exact absurd rfl hne
  | cons x xs =>
    obtain ⟨b, o, cap, e, _, _, hb⟩ := h.cons
    exact ⟨b, o, cap, e, h.blockLt b hb⟩
theorem BSl.ofBlock {w : World} {g : Nat} {t : TypeId} {xs : List UInt8} (h : w.heap[g]? = some (.cells (bcells xs).toArray t (0, 0))) (hl : xs.length ≤ 1000000000) : BSl w (.slice (some ⟨g, 0, none⟩) xs.length xs.length) xs := by
  refine ⟨_, _, rfl, Nat.le_refl _, by unfold maxLen; omega, (fun e => by cases e), fun ad e _ => ⟨g, 0, by cases e; rfl, fun j u hu => ?_⟩⟩
  rw [Nat.zero_add, cell_row h]
  exact hu
theorem BSl.dropS {w : World} {b o n cap k : Nat} {xs : List UInt8} (h : BSl w (.slice (some ⟨b, o, none⟩) n cap) xs) (hk : k ≤ n) : BSl w (.slice (some ⟨b, o + k, none⟩) (n - k) (cap - k)) (xs.drop k) := by
  obtain ⟨ao, cp, e, h1, h2, h3, h4⟩ := h
  cases e
  refine ⟨_, _, by rw [List.length_drop], by rw [List.length_drop]; omega, by unfold maxLen at *; omega, (fun e => by cases e), fun ad e hne => ?_⟩
  cases e
  have hne' : xs ≠ [] := by rintro rfl; simp at hne
  obtain ⟨b', off', e', hc⟩ := h4 _ rfl hne'
  cases e'
  refine ⟨b, o + k, rfl, fun j u hu => ?_⟩
  have := hc (k + j) u (by simpa [bcells, List.getElem?_drop] using hu)
  rw [← Nat.add_assoc] at this
  exact this
theorem xbyte (a b : UInt8) : bits BinOp.xor IntKind.u8 (a.toNat : Int) (b.toNat : Int) = ((a ^^^ b).toNat : Int) := by
  rw [u8_xor_nat _ _ (UInt8.toNat_lt _) (UInt8.toNat_lt _), UInt8.toNat_xor]

theorem BSl.take {w : World} {v : Value} {xs : List UInt8} (h : BSl w v xs) (n : Nat) (hn : n ≤ xs.length) : ∃ ao cap, v = .slice ao xs.length cap ∧ BSl w (.slice ao n cap) (xs.take n) := by
  obtain ⟨ao, cap, rfl⟩ := h.len
  exact ⟨ao, cap, rfl, h.head' hn⟩
set_option maxHeartbeats 400000 in
theorem cut_c (m : Nat) (hm : m ≤ 1000000) (v : Value) (xs : List UInt8) (w : World) (hv : BSl w v xs) :
    Calls Try.prog 22 #[v, .int .i64 m] w fun e w' => ∃ v', e = .returned v' ∧ BSl w v' (xs.take m) ∧ v'.ownBlock = v.ownBlock ∧ w' = w := by
  have HV : Hid (BSl w v xs) := hv
  obtain ⟨ao, cap, rfl, hc1, hc2, _⟩ := hv
  unfold maxLen at hc2
  by_cases h : m < xs.length
  · have h1 : (m : Int) < (xs.length : Int) := by omega
    have h2 : (m : Int) ≤ (cap : Int) := by omega
    go_enter Try.func22, Try.ntmps22
    go_wp2
    go_ret
    exact ⟨_, rfl, HV.out.head' (by omega), ownBlock_any _ _ _ _ _, rfl⟩
  · have h1 : ¬ (m : Int) < (xs.length : Int) := by omega
    have HT : Hid (xs.take m = xs) := List.take_of_length_le (by omega)
    go_enter Try.func22, Try.ntmps22
    go_wp2
    go_ret
    exact ⟨_, rfl, by rw [HT.out]; exact HV.out, rfl, rfl⟩
/-- What Sized makes of bytes: so many of them, from the beginning again and again. -/
def sizedL (xs : List UInt8) (n : Nat) : List UInt8 := (List.range n).map fun i => xs.getD (i % xs.length) 0
theorem sizedL_length (xs : List UInt8) (n : Nat) : (sizedL xs n).length = n := by simp [sizedL]
theorem sizedL_succ (xs : List UInt8) (n : Nat) : sizedL xs (n + 1) = sizedL xs n ++ [xs.getD (n % xs.length) 0] := by simp [sizedL, List.range_succ]
theorem sizedL_nil (n : Nat) : sizedL [] n = List.replicate n 0 := by
  apply List.ext_getElem
  · simp [sizedL]
  · intro i h1 h2; simp [sizedL]
theorem sized_set (xs : List UInt8) (k m : Nat) (h : k < m) : (bcells (sizedL xs k ++ List.replicate (m - k) 0)).toArray.setIfInBounds k (.int .u8 ((xs.getD (k % xs.length) 0).toNat)) = (bcells (sizedL xs (k + 1) ++ List.replicate (m - (k + 1)) 0)).toArray := by
  rw [sizedL_succ, bcells_append, set_next _ _ _ _ (by simp [bcells_length, sizedL_length]) (by rw [show m - k = (m - (k + 1)) + 1 by omega, List.replicate_succ]; simp [bcells])]
  rw [show m - k = (m - (k + 1)) + 1 by omega, List.replicate_succ]
  simp [bcells]

theorem below_drewN {B : Nat} {a w : World} (h : Below B a w) (n : Nat) : Below B a (w.drewN n) := ⟨h.1, h.2, h.3, h.4, h.5⟩
/-- What make makes. -/
theorem BSl.made {w : World} {base n : Nat} {v : Value} {l : List Value} (h : w.ownsRow base 5 1 v n l) (hl : l = (madeCells #[Value.int .u8 0] n).toList) : BSl w v (List.replicate n 0) := by
  refine BSl.ofRow (base := base) (n := n) ?_
  have e : bcells (List.replicate n 0) = l := by
    rw [hl, toList_madeCells_one]
    simp [bcells]
  rw [e]
  exact h
/-- make, run. -/
theorem made_run (m : Nat) (hm : m ≤ 1000000) (w : World) : (Instr.makeSlice 28 (.int .i64 (m : Int)) (.int .i64 (m : Int))).run Try.prog w = .ok (.slice (some ⟨w.heap.size, 0, none⟩) m m) (w.alloc (.cells (bcells (List.replicate m 0)).toArray 5)) := by
  have h := run_make_row' (P := Try.prog) 28 5 (.int .u8 0) 1 Try.underlying28 Try.infoU8 rfl .i64 .i64 m (by omega) (by omega) w
  have e : madeCells #[Value.int .u8 0] m = (bcells (List.replicate m 0)).toArray := by
    apply Array.toList_inj.1
    rw [toList_madeCells_one]
    simp [bcells]
  rw [h, e]
theorem BSl.zeros (w : World) (m : Nat) (hm : m ≤ 1000000) : BSl (w.alloc (.cells (bcells (List.replicate m 0)).toArray 5)) (.slice (some ⟨w.heap.size, 0, none⟩) m m) (List.replicate m 0) := by
  have h := BSl.ofBlock (heap_alloc_new w (.cells (bcells (List.replicate m 0)).toArray 5)) (by simp; omega)
  rw [List.length_replicate] at h
  exact h
theorem below_alloc {w w' : World} {o : Obj} (h : Below (w.alloc o).heap.size (w.alloc o) w') : Below w.heap.size w w' :=
  ((Below.refl _ w).alloc (Nat.le_refl _) o).trans (h.mono (by simp))
theorem below_undrew {w w' : World} (h : Below w.drew.heap.size w.drew w') : Below w.heap.size w w' := ⟨h.1, h.2, h.3, h.4, h.5⟩
/-- A piece of a slice. -/
theorem BSl.part {w : World} {b o n cap i j : Nat} {xs : List UInt8} (h : BSl w (.slice (some ⟨b, o, none⟩) n cap) xs) (hi : i + j ≤ n) : BSl w (.slice (some ⟨b, o + i, none⟩) j (cap - i)) ((xs.drop i).take j) := by
  have hl : xs.length = n := by obtain ⟨ao, cp, e⟩ := h.len; cases e; rfl
  have h1 := h.dropS (k := i) (by omega)
  have h2 : (xs.drop i).length = n - i := by simp [hl]
  rw [← h2] at h1
  exact h1.head' (by omega)
/-- The front of what Roomy makes. -/
theorem BSl.roomy {w : World} {g : Nat} {t : TypeId} {xs : List UInt8} (h : w.heap[g]? = some (.cells (bcells (xs ++ List.replicate 80 165)).toArray t (0, 0))) (hl : xs.length ≤ 1000000) : BSl w (.slice (some ⟨g, 0, none⟩) xs.length (xs.length + 80)) xs := by
  have h1 := BSl.ofBlock h (by simp; omega)
  rw [List.length_append, List.length_replicate] at h1
  have h2 := h1.part (i := 0) (j := xs.length) (by omega)
  simpa using h2

theorem own_empty (w : World) : (w.alloc (.cells #[] 5)).ownsRow w.heap.size 5 1 (.slice (some ⟨w.heap.size, 0, none⟩) 0 0) 0 [] := World.ownsRow_lit w #[] 0 (Nat.le_refl _) (by simp [maxLen]) rfl
/-- A row of bytes of one's own, that begins its block. -/
def ORow (w : World) (base g cap : Nat) (xs : List UInt8) : Prop :=
  base ≤ g ∧ xs.length ≤ cap ∧ cap ≤ maxLen ∧ ∃ cur : Array Value, w.heap[g]? = some (.cells cur 5 (0, 0)) ∧ cur.size = cap ∧ cur.toList.take xs.length = bcells xs
theorem ORow.ofOwns {w : World} {base : Nat} {v : Value} {n : Nat} {xs : List UInt8} (h : w.ownsRow base 5 1 v n (bcells xs)) (hne : xs ≠ []) : ∃ g cap, v = .slice (some ⟨g, 0, none⟩) xs.length cap ∧ ORow w base g cap xs := by
  have hl : xs.length = n := by have := h.1; rw [bcells_length] at this; omega
  subst hl
  rcases h.2 with ⟨_, h1⟩ | ⟨g, cap, cur, rfl, h1, h2, h3, h4, h5, h6⟩
  · exact absurd (List.eq_nil_of_length_eq_zero h1) hne
  · exact ⟨g, cap, rfl, h1, h3, h4, cur, h2, by omega, by simpa using h6⟩
theorem ORow.bsl {w : World} {base g cap : Nat} {xs : List UInt8} (h : ORow w base g cap xs) : BSl w (.slice (some ⟨g, 0, none⟩) xs.length cap) xs := by
  obtain ⟨h1, h2, h3, cur, h4, h5, h6⟩ := h
  refine ⟨_, cap, rfl, h2, h3, (fun e => by cases e), fun ad e _ => ⟨g, 0, by cases e; rfl, fun j u hu => ?_⟩⟩
  rw [Nat.zero_add, cell_row (cs := cur.toList) (by simpa using h4), ← hu, ← h6, List.getElem?_take]
  rw [if_pos (by have := (List.getElem?_eq_some_iff.1 hu).1; rwa [bcells_length] at this)]
theorem ORow.cell {w : World} {base g cap : Nat} {xs : List UInt8} (h : ORow w base g cap xs) (i : Nat) (hi : i < xs.length) : w.cell? ⟨g, i, none⟩ = some (.int .u8 ((xs.getD i 0).toNat)) := by
  have := h.bsl.cellD i hi
  rwa [Nat.zero_add] at this
theorem ORow.frozen {w : World} {base g cap : Nat} {xs : List UInt8} (h : ORow w base g cap xs) (i : Nat) : w.frozen? ⟨g, i, none⟩ = false := by
  obtain ⟨h1, h2, h3, cur, h4, _⟩ := h
  exact frozen_row h4 i
theorem ORow.lt {w : World} {base g cap : Nat} {xs : List UInt8} (h : ORow w base g cap xs) : g < w.heap.size := by
  obtain ⟨h1, h2, h3, cur, h4, _⟩ := h
  exact lt_of_block h4
theorem ORow.drewN {w : World} {base g cap : Nat} {xs : List UInt8} (h : ORow w base g cap xs) (n : Nat) : ORow (w.drewN n) base g cap xs := h
theorem ORow.drew {w : World} {base g cap : Nat} {xs : List UInt8} (h : ORow w base g cap xs) : ORow w.drew base g cap xs := h
theorem ORow.set {w : World} {base g cap : Nat} {xs : List UInt8} (h : ORow w base g cap xs) (i : Nat) (y : UInt8) : ORow (w.setCell ⟨g, i, none⟩ (.int .u8 y.toNat)) base g cap (xs.set i y) := by
  obtain ⟨h1, h2, h3, cur, h4, h5, h6⟩ := h
  refine ⟨h1, by simpa using h2, h3, _, heap_setCell_same _ _ _ _ _ _ h4, by simpa using h5, ?_⟩
  rw [List.length_set, Array.toList_setIfInBounds, List.take_set, h6]
  simp [bcells, List.map_set]
theorem ORow.keep {S : Nat → Prop} {w w' : World} {base g cap : Nat} {xs : List UInt8} (h : ORow w base g cap xs) (hk : Keeps S w w') (hn : ¬ S g) : ORow w' base g cap xs := by
  obtain ⟨h1, h2, h3, cur, h4, h5, h6⟩ := h
  exact ⟨h1, h2, h3, cur, (hk.block g (lt_of_block h4) hn).trans h4, h5, h6⟩

theorem wpList_loadRow {P : Program} {ops : Array Oper} {rest : List Oper} {o : Oper} {a : Act} {w : World} {Q : Exit → Act → World → Prop} (hgd : o.guard = none) (ty : TypeId) (x : Operand) (ho : o.op = .load ty x)
    (g : Nat) (cs : Array Value) (t : TypeId) (fr : Nat × Nat) (n : Nat) (e : TypeId) (hx : a.eval x = .pointer (some ⟨g, 0, none⟩)) (hg : w.heap[g]? = some (.cells cs t fr))
    (hu : P.underlying ty = some (.array n e)) (hi : (P.info? ty).map (·.size) = some cs.size)
    (h : wpList P ops Q rest (a.put o.dst (.agg cs)) w) : wpList P ops Q (o :: rest) a w :=
  wpList_plain hgd fun _ hK => by
    unfold Oper.wp execOp
    simp only [ho, Instr.loadAt, Sem.run_bind, hx, Instr.sureAddr, Sem.run_pure, Result.andThen, run_loadVar_row w g t ty cs fr _ hg hu rfl hi]
    exact hK _ _ h
theorem results_cell1 {fn : Func} {p : Tmp} {ty : TypeId} (h : fn.results = #[.cell p ty]) (tmps : Array Value) (P : Program) (w : World) (g : Nat) (cs : Array Value) (t : TypeId) (fr : Nat × Nat) (n : Nat) (e : TypeId) (hp : tmps.getD p undef = .pointer (some ⟨g, 0, none⟩)) (hg : w.heap[g]? = some (.cells cs t fr))
    (hu : P.underlying ty = some (.array n e)) (hi : (P.info? ty).map (·.size) = some cs.size) :
    (results fn tmps).run P w = .ok (.agg cs) w := by
  have hp' : tmps[p]?.getD undef = .pointer (some ⟨g, 0, none⟩) := by rw [← hp]; simp
  simp only [results, h]
  simp [hp', asAddr, run_loadVar_row w g t ty cs fr _ hg hu rfl hi]

end Go.Proofs.Ytnigfnikajejaab
