/- From what attributes and byte slices read as to what the walks are told of them. -/
import Derived.Test.YtkbfgfpdchgjpaaAtA
import Derived.Test.YtkbfgfpdchgjpaaRows
import Derived.ProofKit
import Derived.OpenShut
import Derived.ShutString
import Derived.ChangeOld
import Derived.Deep.Strs
import Derived.SizedLaws
namespace Go.Proofs.Ytkbfgfpdchgjpaa
open Go Go.RowKit Go.ChangeShapes Go.WideShapes Go.ChangeAt Go.Deep

theorem own : ownKnob Try.prog.godebug = none := by kernel_rfl
theorem laidOut : laidOutB Try.prog = true := by kernel_rfl
theorem cellsU8 : Try.prog.cellsOf 5 = 1 := by kernel_rfl
theorem cellsA7 : Try.prog.cellsOf 25 = 7 := by kernel_rfl
theorem cellsU32 : Try.prog.cellsOf 23 = 1 := by kernel_rfl
theorem cellsU64 : Try.prog.cellsOf 22 = 1 := by kernel_rfl
theorem bytesU8 : Try.prog.bytesOf 5 = 1 := by kernel_rfl

theorem spot_none {w : World} {a : Addr} {v : Value} (h : w.cell? a = some v) : ∃ b off, a = ⟨b, off, none⟩ := by
  obtain ⟨b, off, spot⟩ := a
  cases spot with
  | none => exact ⟨b, off, rfl⟩
  | some x =>
    simp only [World.cell?] at h
    split at h <;> simp at h

section
variable {H : Type} {enc : TypeId × Value → H} {w : World} {fuel : Nat} {cs : List Value} {x : DataW H × List MemPlace}

theorem open_bsl {ao : Option Addr} {n cap : Nat} (h : DataW.trod enc Try.prog w 0 (fun _ => true) true fuel 27 cs = some x) (hcs : cs = [.slice ao n cap]) : ∃ xs, BSl w (.slice ao n cap) xs := by
  rcases open_ints Try.underlying27 Try.underlying5 cellsU8 h with ⟨rfl, _⟩ | ⟨a, len, cap', zs, rfl, _, hl, hm, hz, _, hx, hwf⟩
  · cases hcs
    exact ⟨[], none, 0, rfl, by simp, by simp [maxLen], fun _ => ⟨rfl, rfl⟩, (fun ad e => by cases e)⟩
  · cases hcs
    simp at hz
    refine ⟨(List.range n).map fun i => byteOf (zs.getD i 0), some a, cap, by simp, by simpa using hl, hm, (fun e => by cases e), ?_⟩
    intro ad e hne
    cases e
    have hn : 0 < n := by
      rcases Nat.eq_zero_or_pos n with h0 | h0
      · subst h0; simp at hne
      · exact h0
    have h0 := hx 0 (by omega)
    rw [show a.add 0 = a from by simp [Addr.add]] at h0
    obtain ⟨b, off, rfl⟩ := spot_none h0
    refine ⟨b, off, rfl, fun j u hu => ?_⟩
    have hj : j < n := by have := (List.getElem?_eq_some_iff.1 hu).1; simpa [bcells] using this
    have := hx j (by omega)
    rw [add_lit'] at this
    rw [this]
    have hb := bounds_u8 (hwf (zs.getD j 0) (by
      rw [List.getD_eq_getElem?_getD, List.getElem?_eq_getElem (show j < zs.length by omega)]
      exact List.getElem_mem _))
    simp only [bcells, List.map_map, List.getElem?_map, List.getElem?_range hj, Option.map_some, Function.comp] at hu
    rw [← hu, byteOf_nat, Int.emod_eq_of_lt hb.1 (by omega)]

/-- A byte slice, and how long it may be. -/
theorem open_bslx {ao : Option Addr} {n cap : Nat} (h : DataW.trod enc Try.prog w 0 (fun _ => true) true fuel 27 [.slice ao n cap] = some x) : ∃ xs, BSl w (.slice ao n cap) xs ∧ (xs = [] ∨ ∃ elems spare, x.1 = .slice elems spare ∧ elems.length = xs.length) := by
  obtain ⟨xs, hxs⟩ := open_bsl h rfl
  refine ⟨xs, hxs, ?_⟩
  have hn : xs.length = n := by obtain ⟨_, _, e, _⟩ := hxs; cases e; rfl
  rcases open_ints Try.underlying27 Try.underlying5 cellsU8 h with ⟨e, _⟩ | ⟨a, len, cap', zs, e, _, hl, hm, hz, hx, _⟩
  · simp at e
    exact .inl (List.eq_nil_of_length_eq_zero (by omega))
  · simp at e
    obtain ⟨rfl, rfl, rfl⟩ := e
    refine .inr ⟨_, _, by rw [hx], ?_⟩
    simp at hz
    simp [lits, hn]
    omega
theorem sized_bytes {ts : List TypeId} {ds : List (DataW H)} (h : (DataW.weightsEach Try.prog ts ds).all (· ≤ reachBytes) = true) {j : Nat} {d : DataW H} {xs : List UInt8} (ht : ts[j]? = some 27) (hd : ds[j]? = some d) (hx : xs = [] ∨ ∃ elems spare, d = .slice elems spare ∧ elems.length = xs.length) : xs.length ≤ 140737488351232 := by
  rcases hx with rfl | ⟨elems, spare, rfl, hl⟩
  · simp
  · have := sized_slice h ht hd Try.underlying27
    rw [bytesU8] at this
    unfold reachBytes at this
    omega

theorem len7 {α : Type} {l : List α} (h : l.length = 7) : ∃ a b c d e f g, l = [a, b, c, d, e, f, g] := by
  match l, h with
  | [a, b, c, d, e, f, g], _ => exact ⟨a, b, c, d, e, f, g, rfl⟩
theorem open_attrs (h : DataW.trod enc Try.prog w 0 (fun _ => true) true fuel 25 cs = some x) : ∃ a : At, cs = a.cells.toList ∧ a.Ok := by
  obtain ⟨xs, n, _, _, hl, hxl, hf⟩ := DataW.trod_struct Try.underlying25 h
  rw [cellsA7] at hl
  obtain ⟨v0, v1, v2, v3, v4, v5, v6, rfl⟩ := len7 hl
  obtain ⟨y0, y1, y2, y3, y4, y5, y6, rfl⟩ := len7 (show xs.length = 7 from hxl)
  have g0 : DataW.trod enc Try.prog w 0 (fun _ => true) true n 23 [v0] = some y0 := by have := hf 0 _ rfl; simpa [cellsU32] using this
  obtain ⟨a0, e0, _, w0⟩ := DataW.trod_int Try.underlying23 g0
  obtain rfl : v0 = .int .u32 a0 := by simpa using e0
  have b0 := bounds_u32 w0
  obtain ⟨n0, rfl⟩ := Int.eq_ofNat_of_zero_le b0.1
  have g1 : DataW.trod enc Try.prog w 0 (fun _ => true) true n 22 [v1] = some y1 := by have := hf 1 _ rfl; simpa [cellsU64] using this
  obtain ⟨a1, e1, _, w1⟩ := DataW.trod_int Try.underlying22 g1
  obtain rfl : v1 = .int .u64 a1 := by simpa using e1
  have b1 := bounds_u64 w1
  obtain ⟨n1, rfl⟩ := Int.eq_ofNat_of_zero_le b1.1
  have g2 : DataW.trod enc Try.prog w 0 (fun _ => true) true n 23 [v2] = some y2 := by have := hf 2 _ rfl; simpa [cellsU32] using this
  obtain ⟨a2, e2, _, w2⟩ := DataW.trod_int Try.underlying23 g2
  obtain rfl : v2 = .int .u32 a2 := by simpa using e2
  have b2 := bounds_u32 w2
  obtain ⟨n2, rfl⟩ := Int.eq_ofNat_of_zero_le b2.1
  have g3 : DataW.trod enc Try.prog w 0 (fun _ => true) true n 23 [v3] = some y3 := by have := hf 3 _ rfl; simpa [cellsU32] using this
  obtain ⟨a3, e3, _, w3⟩ := DataW.trod_int Try.underlying23 g3
  obtain rfl : v3 = .int .u32 a3 := by simpa using e3
  have b3 := bounds_u32 w3
  obtain ⟨n3, rfl⟩ := Int.eq_ofNat_of_zero_le b3.1
  have g4 : DataW.trod enc Try.prog w 0 (fun _ => true) true n 23 [v4] = some y4 := by have := hf 4 _ rfl; simpa [cellsU32] using this
  obtain ⟨a4, e4, _, w4⟩ := DataW.trod_int Try.underlying23 g4
  obtain rfl : v4 = .int .u32 a4 := by simpa using e4
  have b4 := bounds_u32 w4
  obtain ⟨n4, rfl⟩ := Int.eq_ofNat_of_zero_le b4.1
  have g5 : DataW.trod enc Try.prog w 0 (fun _ => true) true n 23 [v5] = some y5 := by have := hf 5 _ rfl; simpa [cellsU32] using this
  obtain ⟨a5, e5, _, w5⟩ := DataW.trod_int Try.underlying23 g5
  obtain rfl : v5 = .int .u32 a5 := by simpa using e5
  have b5 := bounds_u32 w5
  obtain ⟨n5, rfl⟩ := Int.eq_ofNat_of_zero_le b5.1
  have g6 : DataW.trod enc Try.prog w 0 (fun _ => true) true n 23 [v6] = some y6 := by have := hf 6 _ rfl; simpa [cellsU32] using this
  obtain ⟨a6, e6, _, w6⟩ := DataW.trod_int Try.underlying23 g6
  obtain rfl : v6 = .int .u32 a6 := by simpa using e6
  have b6 := bounds_u32 w6
  obtain ⟨n6, rfl⟩ := Int.eq_ofNat_of_zero_le b6.1
  exact ⟨⟨n0, n1, n2, n3, n4, n5, n6⟩, rfl, ⟨by have := b0.2; show n0 ≤ _; omega, by have := b1.2; show n1 ≤ _; omega, by have := b2.2; show n2 ≤ _; omega, by have := b3.2; show n3 ≤ _; omega, by have := b4.2; show n4 ≤ _; omega, by have := b5.2; show n5 ≤ _; omega, by have := b6.2; show n6 ≤ _; omega⟩⟩
end

set_option maxRecDepth 100000 in
theorem own_lt {W : World} {base : Nat} {t e : TypeId} {ao : Option Addr} {n cap : Nat} (ht : Try.prog.underlying t = some (.slice e)) (h : Value.okWide Try.prog W .any base t (.slice ao n cap)) : ∀ k, (Value.slice ao n cap).ownBlock = some k → k < W.heap.size := by
  intro k hk
  cases ao with
  | none => cases hk
  | some ad =>
    simp only [Value.okWide, ht, Cell.okWide, Cell.ok, World.has] at h
    obtain ⟨_, _, _, _, row, cells, hs, _⟩ := h
    have hb : ad.block = k := by simpa [Value.ownBlock] using hk
    subst hb
    refine Classical.byContradiction fun hn => ?_
    rw [World.shape?, Array.getElem?_eq_none (Nat.le_of_not_lt hn)] at hs
    simp at hs

end Go.Proofs.Ytkbfgfpdchgjpaa
