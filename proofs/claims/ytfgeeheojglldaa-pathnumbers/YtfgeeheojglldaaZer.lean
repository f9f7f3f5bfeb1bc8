/- append of so many noughts onto an owned row of bytes. -/
import Derived.Test.YtfgeeheojglldaaKp
namespace Go.Proofs.Ytfgeeheojglldaa
open Go Go.RowKit

theorem zeroCells_bytes (m : Nat) : (Builtin.zeroCells #[Value.int .u8 0] m).toList = bcells (List.replicate m 0) := by
  apply List.ext_getElem
  · simp [Builtin.zeroCells, bcells]
  · intro i h1 h2
    simp [Builtin.zeroCells, bcells, Nat.mod_one]

set_option maxRecDepth 100000 in
theorem run_append_zeros (w : World) (base g n cap m : Nat) (xs : List UInt8) (ty : TypeId) (hown : w.ownsRow base 5 1 (.slice (some ⟨g, 0, none⟩) n cap) n (bcells xs)) (hm : 0 < m) (hnm : n + m ≤ 1000000) (hbase : base ≤ w.heap.size) :
    ∃ v' w', (Builtin.append_ #[22, 3] ty #[.slice (some ⟨g, 0, none⟩) n cap, .int .i64 (m : Int)]).run Try.prog w = .ok v' w' ∧ w'.ownsRow base 5 1 v' (n + m) (bcells (xs ++ List.replicate m 0)) ∧ w.grownBy w' (some g) := by
  obtain ⟨i, hi, hz, hz1, hz2⟩ := info_parts Try.infoU8
  have hl : xs.length = n := by have := hown.1; rw [bcells_length] at this; omega
  have hlen : (bcells (xs ++ List.replicate m 0)).length = (n + m) * 1 := by rw [bcells_length, List.length_append, List.length_replicate]; omega
  have hw : IntKind.i64.wrap (m : Int) = m := by rw [IntKind.wrap_i64]; omega
  have hneg : ¬ ((m : Int) < 0) := by omega
  have hm0 : ¬ m = 0 := by omega
  have h48i : ¬ (281474976710656 < (m : Int)) := by omega
  rcases hown.2 with ⟨h, _⟩ | ⟨g', cap', cur, e, hbg, hg, hnc, hcm, hcs, htake⟩
  · cases h
  · cases e
    by_cases hroom : n + m ≤ cap
    · have hfit : n * 1 + (bcells (List.replicate m 0)).length ≤ cur.size := by rw [bcells_length, List.length_replicate, hcs]; omega
      have hst := run_storeCells_at Try.prog g (n * 1) 5 (bcells (List.replicate m 0)) 0 cur w hg (by simpa using hfit) bcells_one
      simp only [Nat.add_zero, Nat.mul_one] at hst
      refine ⟨.slice (some ⟨g, 0, none⟩) (n + m) cap, w.setRow g (cur.toList.take n ++ bcells (List.replicate m 0) ++ cur.toList.drop (n + (bcells (List.replicate m 0)).length)).toArray, ?_, ⟨hlen, .inr ⟨g, cap, _, rfl, hbg, setRow_heap w g cur _ _ _ hg, hroom, hcm, ?_, ?_⟩⟩, ⟨rfl, rfl, rfl, by simp, fun k _ hk => setRow_other w g k _ (fun e => hk (by rw [e]))⟩⟩
      · simp [Builtin.append_, run_underlying Try.underlying22, run_underlying Try.underlying3, sizeOf, typeInfo, zeroValue, hi, hz, hz1, hz2, asInt, asIntOf, hw, hneg, hm0, h48i, hroom, Addr.add_lit]
        rw [show (Value.int IntKind.u8 0).cells = #[Value.int .u8 0] from rfl, zeroCells_bytes, hst]
        simp [List.append_assoc]
      · simp only [List.size_toArray, List.length_append, List.length_take, List.length_drop, Array.length_toList, bcells_length, List.length_replicate]
        omega
      · simp only [Nat.mul_one] at htake ⊢
        rw [htake, bcells_append]
        have : (bcells xs ++ bcells (List.replicate m 0)).length = n + m := by simp [bcells_length, hl]
        rw [← this]
        exact List.take_left
    · have holds : ∀ j u, (bcells xs)[j]? = some u → w.cell? ((⟨g, 0, none⟩ : Addr).add j) = some u := hown.cells (g := g) rfl
      have hold := run_firstCells_some (P := Try.prog) w.drew 1 n ⟨g, 0, none⟩ n cap (bcells xs) hown.1 (by simpa using holds)
      have hfit : Builtin.nextslicecap (n + m) cap * 1 ≤ 281474976710656 := growslice_fits (by omega) (by omega)
      have h48' : ¬ (281474976710656 < Builtin.nextslicecap (n + m) cap) := by omega
      have h63' : ¬ (9223372036854775807 < ((n : Int) + (m : Int))) := by omega
      have hge := grownCap_ge w (n + m) cap 5
      have hcm : grownCap w (n + m) cap 5 ≤ maxLen := grownCap_le_maxLen w (n + m) cap _ (by unfold maxLen; omega)
      refine ⟨.slice (some ⟨w.heap.size, 0, none⟩) (n + m) (grownCap w (n + m) cap 5), w.drew.alloc (.cells ((bcells (xs ++ List.replicate m 0)).toArray ++ Builtin.zeroCells #[Value.int .u8 0] (grownCap w (n + m) cap 5 - (n + m))) 5), ?_, ⟨hlen, .inr ⟨w.heap.size, _, _, rfl, hbase, heap_alloc_new w.drew _, hge, hcm, ?_, ?_⟩⟩, ⟨rfl, rfl, rfl, by simp, fun k hk _ => Below.heap_alloc w.drew _ k hk⟩⟩
      · simp [Builtin.append_, run_underlying Try.underlying22, run_underlying Try.underlying3, sizeOf, typeInfo, zeroValue, hi, hz, hz1, hz2, asInt, asIntOf, hw, hneg, hm0, h48i, hroom, h48', h63', Question.forced, hold, newRow, grownCap]
        rw [show (Value.int IntKind.u8 0).cells = #[Value.int .u8 0] from rfl, bcells_append, ← zeroCells_bytes m, ← Array.append_assoc]
        congr 2
        congr 1
        apply Array.ext'
        simp
      · simp only [Array.size_append, List.size_toArray, size_zeroCells, hlen]
        simp
        omega
      · simp only [Array.toList_append]
        rw [← hlen]
        exact List.take_left
end Go.Proofs.Ytfgeeheojglldaa
