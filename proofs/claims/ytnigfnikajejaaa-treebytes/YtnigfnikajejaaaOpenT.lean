/- From what rows of byte slices and ints read as to what the walks are told of them. -/
import Derived.Test.YtnigfnikajejaaaTmU
import Derived.Test.YtnigfnikajejaaaRows
import Derived.ProofKit
import Derived.OpenShut
import Derived.ShutString
import Derived.ChangeOld
import Derived.Deep.Strs
import Derived.SizedLaws
namespace Go.Proofs.Ytnigfnikajejaaa
open Go Go.RowKit Go.ChangeShapes Go.WideShapes Go.ChangeAt Go.Deep

theorem own : ownKnob Try.prog.godebug = none := by kernel_rfl
theorem laidOut : laidOutB Try.prog = true := by kernel_rfl
theorem cellsU8 : Try.prog.cellsOf 5 = 1 := by kernel_rfl
theorem spot_none {w : World} {a : Addr} {v : Value} (h : w.cell? a = some v) : ∃ b off, a = ⟨b, off, none⟩ := by
  obtain ⟨b, off, spot⟩ := a
  cases spot with
  | none => exact ⟨b, off, rfl⟩
  | some x =>
    simp only [World.cell?] at h
    split at h <;> simp at h
theorem cellsB : Try.prog.cellsOf 30 = 1 := by kernel_rfl
theorem cellsInt : Try.prog.cellsOf 3 = 1 := by kernel_rfl

section
variable {H : Type} {enc : TypeId × Value → H} {w : World} {fuel : Nat} {cs : List Value} {x : DataW H × List MemPlace}
theorem open_bsl {ao : Option Addr} {n cap : Nat} (h : DataW.trod enc Try.prog w 0 (fun _ => true) true fuel 30 cs = some x) (hcs : cs = [.slice ao n cap]) : ∃ xs, BSl w (.slice ao n cap) xs := by
  rcases open_ints Try.underlying30 Try.underlying5 cellsU8 h with ⟨rfl, _⟩ | ⟨a, len, cap', zs, rfl, _, hl, hm, hz, _, hx, hwf⟩
  · cases hcs
    exact ⟨[], none, 0, rfl, by simp, by simp [maxLen], fun _ => ⟨rfl, rfl⟩, (fun ad e => by cases e)⟩
  · cases hcs
    simp at hz
    refine ⟨(List.range n).map fun i => byteOf (zs.getD i 0), some a, cap, by simp, by simpa using hl, hm, (fun e => by cases e), ?_⟩
    intro ad e hne
    cases e
    have hn : 0 < n := by
      rcases Nat.eq_zero_or_pos n with h0 | h0
      · subst h0; simp at hne
      · exact h0
    have h0 := hx 0 (by omega)
    rw [show a.add 0 = a from by simp [Addr.add]] at h0
    obtain ⟨b, off, rfl⟩ := spot_none h0
    refine ⟨b, off, rfl, fun j u hu => ?_⟩
    have hj : j < n := by have := (List.getElem?_eq_some_iff.1 hu).1; simpa [bcells] using this
    have := hx j (by omega)
    rw [add_lit'] at this
    rw [this]
    have hb := bounds_u8 (hwf (zs.getD j 0) (by
      rw [List.getD_eq_getElem?_getD, List.getElem?_eq_getElem (show j < zs.length by omega)]
      exact List.getElem_mem _))
    simp only [bcells, List.map_map, List.getElem?_map, List.getElem?_range hj, Option.map_some, Function.comp] at hu
    rw [← hu, byteOf_nat, Int.emod_eq_of_lt hb.1 (by omega)]
theorem open_lsl {ao : Option Addr} {n cap : Nat} (h : DataW.trod enc Try.prog w 0 (fun _ => true) true fuel 22 cs = some x) (hcs : cs = [.slice ao n cap]) : ∃ ps, LSl w (.slice ao n cap) ps := by
  rcases open_slice Try.underlying22 h with ⟨rfl, _⟩ | ⟨a, len, cap', m, k, D, Pl, rfl, _, hl, hm, hmm, _, hx⟩
  · cases hcs
    exact ⟨[], none, 0, rfl, by simp, by simp [maxLen], fun j hj => by simp at hj⟩
  · cases hcs
    simp at hmm
    subst hmm
    rw [cellsB] at hx
    have each : ∀ i, i < n → ∃ us : List UInt8, ∃ u, w.cell? (a.add i) = some u ∧ BSl w u us := by
      intro i hi
      obtain ⟨cs', h1, h2⟩ := hx i (by omega)
      obtain ⟨hlen, _, hcell⟩ := World.cells?_some h1
      have e0 := hcell 0 (by omega)
      rw [Nat.mul_one] at e0
      rcases open_ints Try.underlying30 Try.underlying5 cellsU8 h2 with ⟨e, _⟩ | ⟨a', len', cap'', zs, e, _⟩
      · obtain ⟨xs, hb⟩ := open_bsl h2 e
        subst e
        exact ⟨xs, _, by simpa [Addr.add] using e0, hb⟩
      · obtain ⟨xs, hb⟩ := open_bsl h2 e
        subst e
        exact ⟨xs, _, by simpa [Addr.add] using e0, hb⟩
    obtain ⟨f, hf⟩ := choose_lt each
    refine ⟨(List.range n).map f, some a, m, by simp, by simpa using hl, hm, fun j hj => ?_⟩
    have hj' : j < n := by simpa using hj
    obtain ⟨u0, h0, _⟩ := hf 0 (by omega)
    rw [show a.add 0 = a from by simp [Addr.add]] at h0
    obtain ⟨b, off, rfl⟩ := spot_none h0
    obtain ⟨u, h1, h2⟩ := hf j hj'
    rw [add_lit'] at h1
    refine ⟨b, off, u, rfl, h1, ?_⟩
    have e : ((List.range n).map f).getD j [] = f j := by
      rw [List.getD_eq_getElem?_getD, List.getElem?_map, List.getElem?_range hj']
      rfl
    rw [e]
    exact h2
theorem open_isl {ao : Option Addr} {n cap : Nat} (h : DataW.trod enc Try.prog w 0 (fun _ => true) true fuel 23 cs = some x) (hcs : cs = [.slice ao n cap]) : ISl w (.slice ao n cap) n := by
  rcases open_ints Try.underlying23 Try.underlying3 cellsInt h with ⟨rfl, _⟩ | ⟨a, len, cap', zs, rfl, _, hl, hm, hz, _, hx, _⟩
  · cases hcs
    exact ⟨none, 0, rfl, by simp, by simp [maxLen], fun j hj => by omega⟩
  · cases hcs
    simp at hz
    refine ⟨some a, cap, rfl, hl, hm, fun j hj => ?_⟩
    have h0 := hx 0 (by omega)
    rw [show a.add 0 = a from by simp [Addr.add]] at h0
    obtain ⟨b, off, rfl⟩ := spot_none h0
    have h1 := hx j (by omega)
    rw [add_lit'] at h1
    exact ⟨b, off, rfl, _, h1⟩
end
end Go.Proofs.Ytnigfnikajejaaa
