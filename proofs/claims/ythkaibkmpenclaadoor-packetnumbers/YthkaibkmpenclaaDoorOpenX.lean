/- From what arguments and the listed variable read as to what the walks are told of them. -/
import Derived.Test.YthkaibkmpenclaaDoorBsm
import Derived.Test.YthkaibkmpenclaaDoorRows
import Derived.ProofKit
import Derived.OpenShut
import Derived.ShutString
import Derived.ChangeOld
import Derived.Deep.Strs
import Derived.Test.YthkaibkmpenclaaDoorPoD
import Derived.LaidMore
import Derived.Stop.Joined
import Derived.Test.YthkaibkmpenclaaDoorPk5
import Derived.Deep.DeepHandedRow
import Derived.Deep.Slices
namespace Go.Proofs.YthkaibkmpenclaaDoor
section
open Go Go.RowKit Go.ChangeShapes Go.WideShapes Go.ChangeAt Go.Deep

theorem own : ownKnob Tryd.prog.godebug = none := by kernel_rfl
theorem laidOut : laidOutB Tryd.prog = true := by kernel_rfl
theorem cellsU8 : Tryd.prog.cellsOf 5 = 1 := by kernel_rfl
theorem spot_none {w : World} {a : Addr} {v : Value} (h : w.cell? a = some v) : ∃ b off, a = ⟨b, off, none⟩ := by
  obtain ⟨b, off, spot⟩ := a
  cases spot with
  | none => exact ⟨b, off, rfl⟩
  | some x =>
    simp only [World.cell?] at h
    split at h <;> simp at h
section
variable {H : Type} {enc : TypeId × Value → H} {w : World} {fuel : Nat} {cs : List Value} {x : DataW H × List MemPlace}
theorem open_bsl {ao : Option Addr} {n cap : Nat} (h : DataW.trod enc Tryd.prog w 0 (fun _ => true) true fuel 22 cs = some x) (hcs : cs = [.slice ao n cap]) : ∃ xs, BSl w (.slice ao n cap) xs := by
  rcases open_ints Tryd.underlying22 Tryd.underlying5 cellsU8 h with ⟨rfl, _⟩ | ⟨a, len, cap', zs, rfl, _, hl, hm, hz, _, hx, hwf⟩
  · cases hcs
    exact ⟨[], none, 0, rfl, by simp, by simp [maxLen], fun _ => ⟨rfl, rfl⟩, (fun ad e => by cases e)⟩
  · cases hcs
    simp at hz
    refine ⟨(List.range n).map fun i => byteOf (zs.getD i 0), some a, cap, by simp, by simpa using hl, hm, (fun e => by cases e), ?_⟩
    intro ad e hne
    cases e
    have hn : 0 < n := by
      rcases Nat.eq_zero_or_pos n with h0 | h0
      · subst h0; simp at hne
      · exact h0
    have h0 := hx 0 (by omega)
    rw [show a.add 0 = a from by simp [Addr.add]] at h0
    obtain ⟨b, off, rfl⟩ := spot_none h0
    refine ⟨b, off, rfl, fun j u hu => ?_⟩
    have hj : j < n := by have := (List.getElem?_eq_some_iff.1 hu).1; simpa [bcells] using this
    have := hx j (by omega)
    rw [add_lit'] at this
    rw [this]
    have hb := bounds_u8 (hwf (zs.getD j 0) (by
      rw [List.getD_eq_getElem?_getD, List.getElem?_eq_getElem (show j < zs.length by omega)]
      exact List.getElem_mem _))
    simp only [bcells, List.map_map, List.getElem?_map, List.getElem?_range hj, Option.map_some, Function.comp] at hu
    rw [← hu, byteOf_nat, Int.emod_eq_of_lt hb.1 (by omega)]
end
end
section
open Go Go.RowKit Go.ChangeShapes Go.WideShapes Go.ChangeAt

def laidL : List (String × DataW Unit) := [("strongroom/poly.clamp", Rows.laid_strongroom_poly_clamp)]
theorem gClamp : Tryd.prog.globalNamed "strongroom/poly.clamp" = some 0 := by kernel_rfl
theorem tClamp : (Tryd.prog.globals[0]?).map (·.type) = some 116 := by kernel_rfl
/-- The door's own heap meets the condition. -/
theorem door_met (os : Os) (args : Array Value) : laidMetH Tryd.prog laidL ((World.doorLaid Tryd.prog 400 os).forCall (fun _ _ => 0) ⟨#[], args, []⟩).memory :=
  laidMetH_of_parts3 (fuel := 8) (laidMet_of_run' 8 (by kernel_rfl) (by kernel_rfl)) (by kernel_rfl) (by kernel_rfl)
set_option maxRecDepth 100000 in
theorem of_laid {W : World} (h : laidMetH Tryd.prog laidL W) : Cl W := by
  rw [MakeChecks.laidMetH_plain _ _ _ (by kernel_rfl)] at h
  obtain ⟨ps, ⟨g0, t0, cs0, f0, p0, q0, hg0, ht0, hv0, hd0, _⟩, _⟩ := h
  obtain rfl := Option.some.inj (gClamp.symm.trans hg0)
  obtain rfl := Option.some.inj (tClamp.symm.trans ht0)
  obtain ⟨xs, m1, rfl, hx1, hlen, hn16, hel⟩ := DataW.trod_array Tryd.underlying116 hd0
  have c1 : Tryd.prog.cellsOf 5 = 1 := by kernel_rfl
  have hD : (Rows.laid_strongroom_poly_clamp : DataW Unit) = .agg (clampB.map fun b => .lit (.int .u8 (b.toNat : Int))) := rfl
  simp only [Prod.mk.injEq] at hx1
  have hmap : (clampB.map fun b => (.lit (.int .u8 (b.toNat : Int)) : DataW Unit)) = xs.map (·.1) := by
    have := hD.symm.trans hx1.1
    simpa using this
  have each : ∀ i, i < 16 → W.cell? ⟨0, i, none⟩ = some (.int .u8 ((clampB.getD i 0).toNat)) := by
    intro i hi
    have hi2 : i < xs.length := by omega
    have h := hel i hi
    rw [c1, Nat.mul_one, List.getElem?_eq_getElem hi2] at h
    obtain ⟨k, e1, e2, _⟩ := DataW.trod_int Tryd.underlying5 h
    have hm : (clampB.map fun b => (.lit (.int .u8 (b.toNat : Int)) : DataW Unit))[i]? = (xs.map (·.1))[i]? := by rw [hmap]
    rw [List.getElem?_map, List.getElem?_map, List.getElem?_eq_getElem hi2, List.getElem?_eq_getElem (show i < clampB.length from hi)] at hm
    simp only [Option.map_some, Option.some.injEq, e2] at hm
    have hk : k = (clampB[i].toNat : Int) := by
      injection hm with hm
      injection hm with _ hm
      exact hm.symm
    have hc := World.var?_cell hg0 hv0 i
    rw [hc]
    have h1 : (cs0.toList.drop i).take 1 = [.int .u8 k] := e1
    have h2 : cs0.toList[i]? = some (.int .u8 k) := by
      have : ((cs0.toList.drop i).take 1)[0]? = some (.int .u8 k) := by rw [h1]; rfl
      simpa [List.getElem?_take, List.getElem?_drop] using this
    rw [← Array.getElem?_toList, h2, hk, List.getD_eq_getElem?_getD, List.getElem?_eq_getElem (show i < clampB.length from hi)]
    rfl
  exact ⟨World.block_lt_of_cell? W _ (each 0 (by omega)), each⟩
end
section
open Go Go.RowKit Go.ChangeShapes Go.WideShapes Go.ChangeAt Go.Deep

theorem cellsB : Tryd.prog.cellsOf 22 = 1 := by kernel_rfl
section
variable {H : Type} {enc : TypeId × Value → H} {w : World} {fuel : Nat} {cs : List Value} {x : DataW H × List MemPlace}
theorem open_lsl {ao : Option Addr} {n cap : Nat} (h : DataW.trod enc Tryd.prog w 0 (fun _ => true) true fuel 38 cs = some x) (hcs : cs = [.slice ao n cap]) : LSl w (.slice ao n cap) n := by
  rcases open_slice Tryd.underlying38 h with ⟨rfl, _⟩ | ⟨a, len, cap', m, k, D, Pl, rfl, _, hl, hm, hmm, _, hx⟩
  · cases hcs
    exact ⟨none, 0, rfl, by simp, by simp [maxLen], fun j hj => by omega⟩
  · cases hcs
    simp at hmm
    subst hmm
    rw [cellsB] at hx
    have each : ∀ i, i < n → ∃ u us, w.cell? (a.add i) = some u ∧ BSl w u us := by
      intro i hi
      obtain ⟨cs', h1, h2⟩ := hx i (by omega)
      obtain ⟨hlen, _, hcell⟩ := World.cells?_some h1
      have e0 := hcell 0 (by omega)
      rw [Nat.mul_one] at e0
      rcases open_ints Tryd.underlying22 Tryd.underlying5 cellsU8 h2 with ⟨e, _⟩ | ⟨a', len', cap'', zs, e, _⟩
      · obtain ⟨xs, hb⟩ := open_bsl h2 e
        subst e
        exact ⟨_, xs, by simpa [Addr.add] using e0, hb⟩
      · obtain ⟨xs, hb⟩ := open_bsl h2 e
        subst e
        exact ⟨_, xs, by simpa [Addr.add] using e0, hb⟩
    refine ⟨some a, m, rfl, by simpa using hl, hm, fun j hj => ?_⟩
    obtain ⟨u0, _, h0, _⟩ := each 0 (by omega)
    rw [show a.add 0 = a from by simp [Addr.add]] at h0
    obtain ⟨b, off, rfl⟩ := spot_none h0
    obtain ⟨u, us, h1, h2⟩ := each j hj
    rw [add_lit'] at h1
    exact ⟨b, off, rfl, u, us, h1, h2⟩
end
end
end Go.Proofs.YthkaibkmpenclaaDoor
