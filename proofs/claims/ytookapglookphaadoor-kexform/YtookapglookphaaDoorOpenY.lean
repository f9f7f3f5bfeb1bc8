/- From what byte slices and the listed variables read as to what the walks are told of them. -/
import Derived.Test.YtookapglookphaaDoorXaA
import Derived.Test.YtookapglookphaaDoorRows
import Derived.ProofKit
import Derived.OpenShut
import Derived.ShutString
import Derived.ChangeOld
import Derived.Deep.Strs
import Derived.Test.YtookapglookphaaDoorXcA
import Derived.LaidMore
import Derived.SizedLaws
import Derived.Stop.Joined
import Derived.Test.YtookapglookphaaDoorXkA
namespace Go.Proofs.YtookapglookphaaDoor
section
open Go Go.RowKit Go.ChangeShapes Go.WideShapes Go.ChangeAt Go.Deep

theorem own : ownKnob Tryd.prog.godebug = none := by kernel_rfl
theorem laidOut : laidOutB Tryd.prog = true := by kernel_rfl
theorem cellsU8 : Tryd.prog.cellsOf 5 = 1 := by kernel_rfl
theorem spot_none {w : World} {a : Addr} {v : Value} (h : w.cell? a = some v) : ∃ b off, a = ⟨b, off, none⟩ := by
  obtain ⟨b, off, spot⟩ := a
  cases spot with
  | none => exact ⟨b, off, rfl⟩
  | some x =>
    simp only [World.cell?] at h
    split at h <;> simp at h
section
variable {H : Type} {enc : TypeId × Value → H} {w : World} {fuel : Nat} {cs : List Value} {x : DataW H × List MemPlace}
theorem open_bsl {ao : Option Addr} {n cap : Nat} (h : DataW.trod enc Tryd.prog w 0 (fun _ => true) true fuel 22 cs = some x) (hcs : cs = [.slice ao n cap]) : ∃ xs, BSl w (.slice ao n cap) xs := by
  rcases open_ints Tryd.underlying22 Tryd.underlying5 cellsU8 h with ⟨rfl, _⟩ | ⟨a, len, cap', zs, rfl, _, hl, hm, hz, _, hx, hwf⟩
  · cases hcs
    exact ⟨[], none, 0, rfl, by simp, by simp [maxLen], fun _ => ⟨rfl, rfl⟩, (fun ad e => by cases e)⟩
  · cases hcs
    simp at hz
    refine ⟨(List.range n).map fun i => byteOf (zs.getD i 0), some a, cap, by simp, by simpa using hl, hm, (fun e => by cases e), ?_⟩
    intro ad e hne
    cases e
    have hn : 0 < n := by
      rcases Nat.eq_zero_or_pos n with h0 | h0
      · subst h0; simp at hne
      · exact h0
    have h0 := hx 0 (by omega)
    rw [show a.add 0 = a from by simp [Addr.add]] at h0
    obtain ⟨b, off, rfl⟩ := spot_none h0
    refine ⟨b, off, rfl, fun j u hu => ?_⟩
    have hj : j < n := by have := (List.getElem?_eq_some_iff.1 hu).1; simpa [bcells] using this
    have := hx j (by omega)
    rw [add_lit'] at this
    rw [this]
    have hb := bounds_u8 (hwf (zs.getD j 0) (by
      rw [List.getD_eq_getElem?_getD, List.getElem?_eq_getElem (show j < zs.length by omega)]
      exact List.getElem_mem _))
    simp only [bcells, List.map_map, List.getElem?_map, List.getElem?_range hj, Option.map_some, Function.comp] at hu
    rw [← hu, byteOf_nat, Int.emod_eq_of_lt hb.1 (by omega)]
end
end
section
open Go Go.RowKit Go.ChangeShapes Go.WideShapes Go.ChangeAt
def laidL : List (String × DataW Unit) := [("strongroom/curve.twicePrime", Rows.laid_strongroom_curve_twicePrime), ("strongroom/kdf.roundWords", Rows.laid_strongroom_kdf_roundWords)]
theorem gTwice : Tryd.prog.globalNamed "strongroom/curve.twicePrime" = some 1 := by kernel_rfl
theorem tTwice : (Tryd.prog.globals[1]?).map (·.type) = some 118 := by kernel_rfl
theorem gRound : Tryd.prog.globalNamed "strongroom/kdf.roundWords" = some 0 := by kernel_rfl
theorem tRound : (Tryd.prog.globals[0]?).map (·.type) = some 104 := by kernel_rfl
/-- The door's own heap meets the condition. -/
theorem door_met (os : Os) (args : Array Value) : laidMetH Tryd.prog laidL ((World.doorLaid Tryd.prog 400 os).forCall (fun _ _ => 0) ⟨#[], args, []⟩).memory :=
  laidMetH_of_parts3 (fuel := 8) (laidMet_of_run' 8 (by kernel_rfl) (by kernel_rfl)) (by kernel_rfl) (by kernel_rfl)
set_option maxRecDepth 100000 in
theorem of_laid {W : World} (h : laidMetH Tryd.prog laidL W) : Tp W ∧ Rw W := by
  rw [MakeChecks.laidMetH_plain _ _ _ (by kernel_rfl)] at h
  obtain ⟨ps, ⟨g0, t0, cs0, f0, p0, q0, hg0, ht0, hv0, hd0, hnext, _⟩, _⟩ := h
  obtain ⟨g1, t1, cs1, f1, p1, q1, hg1, ht1, hv1, hd1, _, _⟩ := hnext
  constructor
  · clear hg1 ht1 hv1 hd1
    obtain rfl := Option.some.inj (gTwice.symm.trans hg0)
    obtain rfl := Option.some.inj (tTwice.symm.trans ht0)
    obtain ⟨xs, m1, rfl, hx1, hlen, hn16, hel⟩ := DataW.trod_array Tryd.underlying118 hd0
    have c1 : Tryd.prog.cellsOf 87 = 1 := by kernel_rfl
    have hD : (Rows.laid_strongroom_curve_twicePrime : DataW Unit) = .agg (tpL.map fun b : Nat => .lit (.int .u64 (b : Int))) := rfl
    simp only [Prod.mk.injEq] at hx1
    have hmap : (tpL.map fun b : Nat => (.lit (.int .u64 (b : Int)) : DataW Unit)) = xs.map (·.1) := by
      have := hD.symm.trans hx1.1
      simpa using this
    have each : ∀ i, i < 5 → W.cell? ⟨1, i, none⟩ = some (.int .u64 (tpL.getD i 0 : Nat)) := by
      intro i hi
      have hi2 : i < xs.length := by omega
      have h := hel i hi
      rw [c1, Nat.mul_one, List.getElem?_eq_getElem hi2] at h
      obtain ⟨k, e1, e2, _⟩ := DataW.trod_int Tryd.underlying87 h
      have hm : (tpL.map fun b : Nat => (.lit (.int .u64 (b : Int)) : DataW Unit))[i]? = (xs.map (·.1))[i]? := by rw [hmap]
      rw [List.getElem?_map, List.getElem?_map, List.getElem?_eq_getElem hi2, List.getElem?_eq_getElem (show i < tpL.length from hi)] at hm
      simp only [Option.map_some, Option.some.injEq, e2] at hm
      have hk : k = (tpL[i] : Int) := by
        injection hm with hm
        injection hm with _ hm
        exact hm.symm
      have hc := World.var?_cell hg0 hv0 i
      rw [hc]
      have h1 : (cs0.toList.drop i).take 1 = [.int .u64 k] := e1
      have h2 : cs0.toList[i]? = some (.int .u64 k) := by
        have : ((cs0.toList.drop i).take 1)[0]? = some (.int .u64 k) := by rw [h1]; rfl
        simpa [List.getElem?_take, List.getElem?_drop] using this
      rw [← Array.getElem?_toList, h2, hk, List.getD_eq_getElem?_getD, List.getElem?_eq_getElem (show i < tpL.length from hi)]
      rfl
    exact ⟨by have := World.block_lt_of_cell? W _ (each 0 (by omega)); simp only at this; omega, each⟩
  · clear hg0 ht0 hv0 hd0
    obtain rfl := Option.some.inj (gRound.symm.trans hg1)
    obtain rfl := Option.some.inj (tRound.symm.trans ht1)
    obtain ⟨xs, m1, rfl, hx1, hlen, hn16, hel⟩ := DataW.trod_array Tryd.underlying104 hd1
    have c1 : Tryd.prog.cellsOf 89 = 1 := by kernel_rfl
    have hD : (Rows.laid_strongroom_kdf_roundWords : DataW Unit) = .agg (kL.map fun b : Int => .lit (.int .u32 b)) := rfl
    simp only [Prod.mk.injEq] at hx1
    have hmap : (kL.map fun b : Int => (.lit (.int .u32 b) : DataW Unit)) = xs.map (·.1) := by
      have := hD.symm.trans hx1.1
      simpa using this
    have each : ∀ i, i < 64 → W.cell? ⟨0, i, none⟩ = some (.int .u32 (kL.getD i 0)) := by
      intro i hi
      have hi2 : i < xs.length := by omega
      have h := hel i hi
      rw [c1, Nat.mul_one, List.getElem?_eq_getElem hi2] at h
      obtain ⟨k, e1, e2, _⟩ := DataW.trod_int Tryd.underlying89 h
      have hm : (kL.map fun b : Int => (.lit (.int .u32 b) : DataW Unit))[i]? = (xs.map (·.1))[i]? := by rw [hmap]
      rw [List.getElem?_map, List.getElem?_map, List.getElem?_eq_getElem hi2, List.getElem?_eq_getElem (show i < kL.length from hi)] at hm
      simp only [Option.map_some, Option.some.injEq, e2] at hm
      have hk : k = kL[i] := by
        injection hm with hm
        injection hm with _ hm
        exact hm.symm
      have hc := World.var?_cell hg1 hv1 i
      rw [hc]
      have h1 : (cs1.toList.drop i).take 1 = [.int .u32 k] := e1
      have h2 : cs1.toList[i]? = some (.int .u32 k) := by
        have : ((cs1.toList.drop i).take 1)[0]? = some (.int .u32 k) := by rw [h1]; rfl
        simpa [List.getElem?_take, List.getElem?_drop] using this
      rw [← Array.getElem?_toList, h2, hk, List.getD_eq_getElem?_getD, List.getElem?_eq_getElem (show i < kL.length from hi)]
      rfl
    exact ⟨World.block_lt_of_cell? W _ (each 0 (by omega)), each⟩
end
section
open Go Go.RowKit Go.ChangeShapes Go.WideShapes Go.ChangeAt Go.Deep
theorem bytesU8 : Tryd.prog.bytesOf 5 = 1 := by kernel_rfl
variable {H : Type} {enc : TypeId × Value → H} {w : World} {fuel : Nat} {cs : List Value} {x : DataW H × List MemPlace}
/-- A byte slice, and how long it may be. -/
theorem open_bslx {ao : Option Addr} {n cap : Nat} (h : DataW.trod enc Tryd.prog w 0 (fun _ => true) true fuel 22 [.slice ao n cap] = some x) : ∃ xs, BSl w (.slice ao n cap) xs ∧ (xs = [] ∨ ∃ elems spare, x.1 = .slice elems spare ∧ elems.length = xs.length) := by
  obtain ⟨xs, hxs⟩ := open_bsl h rfl
  refine ⟨xs, hxs, ?_⟩
  have hn : xs.length = n := by obtain ⟨_, _, e, _⟩ := hxs; cases e; rfl
  rcases open_ints Tryd.underlying22 Tryd.underlying5 cellsU8 h with ⟨e, _⟩ | ⟨a, len, cap', zs, e, _, hl, hm, hz, hx, _⟩
  · simp at e
    exact .inl (List.eq_nil_of_length_eq_zero (by omega))
  · simp at e
    obtain ⟨rfl, rfl, rfl⟩ := e
    refine .inr ⟨_, _, by rw [hx], ?_⟩
    simp at hz
    simp [lits, hn]
    omega
theorem sized_bytes {ts : List TypeId} {ds : List (DataW H)} (h : (DataW.weightsEach Tryd.prog ts ds).all (· ≤ reachBytes) = true) {j : Nat} {d : DataW H} {xs : List UInt8} (ht : ts[j]? = some 22) (hd : ds[j]? = some d) (hx : xs = [] ∨ ∃ elems spare, d = .slice elems spare ∧ elems.length = xs.length) : xs.length ≤ 140737488351232 := by
  rcases hx with rfl | ⟨elems, spare, rfl, hl⟩
  · simp
  · have := sized_slice h ht hd Tryd.underlying22
    rw [bytesU8] at this
    unfold reachBytes at this
    omega
end
end Go.Proofs.YtookapglookphaaDoor
