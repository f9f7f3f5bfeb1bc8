/- Low points: their numbers, and what the region that lists them gives. -/
import Derived.Test.YtdgapijgdbhlfaaDoorCuU
import Derived.Test.YtdgapijgdbhlfaaDoorCuX
import Derived.Test.YtdgapijgdbhlfaaDoorZer
import Derived.Lib.AppendZeros
namespace Go.Proofs.YtdgapijgdbhlfaaDoor
open Go Go.RowKit

/-- append of noughts onto a row without room: all new. -/
theorem run_append_grow (w : World) (base g n cap m : Nat) (xs : List UInt8) (ty : TypeId) (hown : w.ownsRow base 5 1 (.slice (some ⟨g, 0, none⟩) n cap) n (bcells xs)) (hm : 0 < m) (hnm : n + m ≤ 1000000) (hroom : ¬ n + m ≤ cap) :
    ∃ v' w', (Builtin.append_ #[22, 3] ty #[.slice (some ⟨g, 0, none⟩) n cap, .int .i64 (m : Int)]).run Tryd.prog w = .ok v' w' ∧ w'.ownsRow w.heap.size 5 1 v' (n + m) (bcells (xs ++ List.replicate m 0)) ∧ Below w.heap.size w w' := by
  obtain ⟨i, hi, hz, hz1, hz2⟩ := info_parts Tryd.infoU8
  have hl : xs.length = n := by have := hown.1; rw [bcells_length] at this; omega
  have hlen : (bcells (xs ++ List.replicate m 0)).length = (n + m) * 1 := by rw [bcells_length, List.length_append, List.length_replicate]; omega
  have hw : IntKind.i64.wrap (m : Int) = m := by rw [IntKind.wrap_i64]; omega
  have hneg : ¬ ((m : Int) < 0) := by omega
  have hm0 : ¬ m = 0 := by omega
  have h48i : ¬ (281474976710656 < (m : Int)) := by omega
  rcases hown.2 with ⟨h, _⟩ | ⟨g', cap', cur, e, hbg, hg, hnc, hcm, hcs, htake⟩
  · cases h
  · cases e
    have holds : ∀ j u, (bcells xs)[j]? = some u → w.cell? ((⟨g, 0, none⟩ : Addr).add j) = some u := hown.cells (g := g) rfl
    have hold := run_firstCells_some (P := Tryd.prog) w.drew 1 n ⟨g, 0, none⟩ n cap (bcells xs) hown.1 (by simpa using holds)
    have hfit : Builtin.nextslicecap (n + m) cap * 1 ≤ 281474976710656 := growslice_fits (by omega) (by omega)
    have h48' : ¬ (281474976710656 < Builtin.nextslicecap (n + m) cap) := by omega
    have h63' : ¬ (9223372036854775807 < ((n : Int) + (m : Int))) := by omega
    have hge := grownCap_ge w (n + m) cap 5
    have hcm : grownCap w (n + m) cap 5 ≤ maxLen := grownCap_le_maxLen w (n + m) cap _ (by unfold maxLen; omega)
    refine ⟨.slice (some ⟨w.heap.size, 0, none⟩) (n + m) (grownCap w (n + m) cap 5), w.drew.alloc (.cells ((bcells (xs ++ List.replicate m 0)).toArray ++ Builtin.zeroCells #[Value.int .u8 0] (grownCap w (n + m) cap 5 - (n + m))) 5), ?_, ⟨hlen, .inr ⟨w.heap.size, _, _, rfl, Nat.le_refl _, heap_alloc_new w.drew _, hge, hcm, ?_, ?_⟩⟩, ⟨rfl, rfl, rfl, by simp, fun k hk => Below.heap_alloc w.drew _ k hk⟩⟩
    · simp [Builtin.append_, run_underlying Tryd.underlying22, run_underlying Tryd.underlying3, sizeOf, typeInfo, zeroValue, hi, hz, hz1, hz2, asInt, asIntOf, hw, hneg, hm0, h48i, hroom, h48', h63', Question.forced, hold, newRow, grownCap]
      rw [show (Value.int IntKind.u8 0).cells = #[Value.int .u8 0] from rfl, bcells_append, ← zeroCells_bytes m, ← Array.append_assoc]
      congr 2
      congr 1
      apply Array.ext'
      simp
    · simp only [Array.size_append, List.size_toArray, size_zeroCells, hlen]
      simp
      omega
    · simp only [Array.toList_append]
      rw [← hlen]
      exact List.take_left

theorem leV_cons (x : UInt8) (L : List UInt8) (n : Nat) : leV (x :: L) (n + 1) = x.toNat + 256 * leV L n := by
  induction n with
  | zero => simp [leV]
  | succ n ih =>
    rw [leV, ih, leV, Nat.mul_add, Nat.pow_succ]
    have : ((x :: L).getD (n + 1) 0) = L.getD n 0 := by simp
    rw [this]
    have e : (L.getD n 0).toNat * (256 ^ n * 256) = 256 * ((L.getD n 0).toNat * 256 ^ n) := by rw [← Nat.mul_assoc, Nat.mul_comm]
    omega
def endL : List UInt8 := List.replicate 30 255 ++ [127]
theorem endL_val : leV endL 31 = 226156424291633194186662080095093570025917938800079226639565593765455331327 := by decide +kernel
theorem zero_val : leV (List.replicate 31 0) 31 = 0 := by decide +kernel
theorem num_low (x : UInt8) : numV (x :: List.replicate 31 0) % pC = x.toNat := by
  have := x.toNat_lt
  unfold numV pC
  rw [leV_cons, zero_val]
  omega
theorem num_end (x : UInt8) : numV (x :: endL) % pC = (x.toNat + 57896044618658097711785492504343953926634992332820282019728792003956564819712) % pC := by
  have := x.toNat_lt
  have e : numV (x :: endL) = x.toNat + 57896044618658097711785492504343953926634992332820282019728792003956564819712 := by
    unfold numV
    rw [leV_cons, endL_val]
    omega
  rw [e]
theorem out_zero : outL 0 32 = List.replicate 32 0 := by decide +kernel
theorem mul_zero (k : List UInt8) (hk : k.length = 32) : mulL k (List.replicate 32 0) = List.replicate 32 0 := by
  unfold mulL
  rw [show (List.replicate 32 0 : List UInt8) = 0 :: List.replicate 31 0 from rfl, num_low, show (0 : UInt8).toNat = 0 from rfl, low_nought keep0 (.inl rfl) pC_pos k hk, out_zero]
  rfl
theorem mul_one (k : List UInt8) (hk : k.length = 32) : mulL k (1 :: List.replicate 31 0) = List.replicate 32 0 := by
  unfold mulL
  rw [num_low, show (1 : UInt8).toNat = 1 from rfl, low_nought keep1 ⟨rfl, by decide⟩ (by decide) k hk, out_zero]
theorem mul_last (k : List UInt8) (hk : k.length = 32) : mulL k (236 :: endL) = List.replicate 32 0 := by
  unfold mulL
  rw [num_end, show ((236 : UInt8).toNat + 57896044618658097711785492504343953926634992332820282019728792003956564819712) % pC = pC - 1 by decide +kernel, low_nought keepL (by decide +kernel) (by decide) k hk, out_zero]
theorem mul_same (k : List UInt8) (n m : UInt8) (hn : n.toNat < 19) (hm : m.toNat = 237 + n.toNat) : mulL k (n :: List.replicate 31 0) = mulL k (m :: endL) := by
  unfold mulL
  have e : (237 + n.toNat + 57896044618658097711785492504343953926634992332820282019728792003956564819712) % pC = n.toNat := by
    unfold pC
    omega
  rw [num_low, num_end, hm, e]
theorem sized_255 : sizedL [255] 30 = List.replicate 30 255 := by decide +kernel

section
variable {o : Oper} {ρ : Operand → Value} {w : World} {Φ : Value → World → Prop}
theorem gives_make (ho : o.op = .makeSlice 22 (.const (.int .i64 32)) (.const (.int .i64 32))) (hρ : ρ (.const (.int .i64 32)) = .int .i64 32)
    (h : Φ (.slice (some ⟨w.heap.size, 0, none⟩) 32 32) (w.alloc (.cells (bcells (List.replicate 32 0)).toArray 5))) : Gives Tryd.prog o ρ w Φ := by
  refine Gives.value ?_ h
  unfold execOp
  simp only [ho, hρ]
  have := made_run 32 (by omega) w
  rw [show ((32 : Nat) : Int) = 32 from rfl] at this
  rw [Sem.run_bind, this]
  rfl
theorem gives_lit1 {y : Int} (ho : o.op = .buildSlice 22 1 #[(0, .const (.int .u8 y))]) (hρ : ρ (.const (.int .u8 y)) = .int .u8 y)
    (h : Φ (.slice (some ⟨w.heap.size, 0, none⟩) 1 1) (w.alloc (.cells #[.int .u8 y] 5))) : Gives Tryd.prog o ρ w Φ := by
  obtain ⟨i0, hi, hz0, hz1, hz2⟩ := info_parts Tryd.infoU8
  refine Gives.value ?_ h
  unfold execOp
  simp only [ho]
  have hb := run_buildSlice (P := Tryd.prog) w 22 5 1 (#[((0 : Nat), Operand.const (.int .u8 y))].map fun (i, x) => (i, ρ x)) #[.int .u8 y] i0 (.int .u8 0) Tryd.underlying22 hi hz0 (by rw [hz1]; omega) (by rw [hz1]; omega) (by rw [hz1]; simp only [List.map_toArray, List.map_cons, List.map_nil, hρ]; kernel_rfl)
  rw [Sem.run_bind, hb]
  rfl
theorem gives_grow {s : Operand} {g : Nat} {xs : List UInt8} {base : Nat} (ho : o.op = .call { callee := .builtin .append, args := #[s, .const (.int .i64 31)], argTypes := #[22, 3] }) (hs : ρ s = .slice (some ⟨g, 0, none⟩) 1 1) (hρ : ρ (.const (.int .i64 31)) = .int .i64 31)
    (hown : w.ownsRow base 5 1 (.slice (some ⟨g, 0, none⟩) 1 1) 1 (bcells xs)) (h : ∀ v w', w'.ownsRow w.heap.size 5 1 v 32 (bcells (xs ++ List.replicate 31 0)) → Below w.heap.size w w' → Φ v w') : Gives Tryd.prog o ρ w Φ := by
  obtain ⟨v', w', hr, h1, h2⟩ := run_append_grow w base g 1 1 31 xs o.type hown (by omega) (by omega) (by omega)
  rw [show ((31 : Nat) : Int) = 31 from rfl] at hr
  refine Gives.value (v := v') (w' := w') ?_ (h v' w' h1 h2)
  unfold execOp
  simp only [ho, resolve, invoke, builtin, Sem.run_bind, Sem.run_pure, Result.andThen_ok, List.map_toArray, List.map_cons, List.map_nil, hs, hρ, hr]
theorem gives_move {x : Operand} (ho : o.op = .move x) (h : Φ (ρ x) w) : Gives Tryd.prog o ρ w Φ := by
  refine Gives.value (v := ρ x) (w' := w) ?_ h
  unfold execOp
  simp only [ho]
  rfl
end
end Go.Proofs.YtdgapijgdbhlfaaDoor
