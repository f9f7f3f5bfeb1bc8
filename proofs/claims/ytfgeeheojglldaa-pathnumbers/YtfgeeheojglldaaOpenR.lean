/- From what the arguments read as to what the walks are told of them. -/
import Derived.Test.YtfgeeheojglldaaPaA
import Derived.Test.YtfgeeheojglldaaRows
import Derived.ProofKit
import Derived.OpenShut
import Derived.ShutString
import Derived.ChangeOld
import Derived.Deep.Strs
namespace Go.Proofs.Ytfgeeheojglldaa
open Go Go.RowKit Go.ChangeShapes Go.WideShapes Go.ChangeAt Go.Deep

theorem own : ownKnob Try.prog.godebug = none := by kernel_rfl
theorem laidOut : laidOutB Try.prog = true := by kernel_rfl
theorem cellsU8 : Try.prog.cellsOf 5 = 1 := by kernel_rfl
theorem cellsStr : Try.prog.cellsOf 9 = 1 := by kernel_rfl

theorem spot_none {w : World} {a : Addr} {v : Value} (h : w.cell? a = some v) : ∃ b off, a = ⟨b, off, none⟩ := by
  obtain ⟨b, off, spot⟩ := a
  cases spot with
  | none => exact ⟨b, off, rfl⟩
  | some x =>
    simp only [World.cell?] at h
    split at h <;> simp at h

section
variable {H : Type} {enc : TypeId × Value → H} {w : World} {fuel : Nat} {cs : List Value} {x : DataW H × List MemPlace}

theorem open_ssl {ao : Option Addr} {n cap : Nat} (h : DataW.trod enc Try.prog w 0 (fun _ => true) true fuel 24 cs = some x) (hcs : cs = [.slice ao n cap]) : ∃ ss, SSl w (.slice ao n cap) ss := by
  rcases open_strs Try.underlying24 Try.underlying9 cellsStr h with ⟨rfl, _⟩ | ⟨a, len, cap', m, Sx, rfl, _, hl, hm, hmm, _, hx⟩
  · cases hcs
    exact ⟨[], none, 0, rfl, by simp, by simp [maxLen], fun _ => ⟨rfl, rfl⟩, (fun ad e => by cases e)⟩
  · cases hcs
    simp at hmm
    subst hmm
    refine ⟨(List.range n).map Sx, some a, m, by simp, by simpa using hl, hm, (fun e => by cases e), ?_⟩
    intro ad e hne
    cases e
    have hn : 0 < n := by
      rcases Nat.eq_zero_or_pos n with h0 | h0
      · subst h0; simp at hne
      · exact h0
    have h0 := (hx 0 (by omega)).1
    rw [show a.add 0 = a from by simp [Addr.add]] at h0
    obtain ⟨b, off, rfl⟩ := spot_none h0
    refine ⟨b, off, rfl, fun j u hu => ?_⟩
    have hj : j < n := by have := (List.getElem?_eq_some_iff.1 hu).1; simpa using this
    have := (hx j (by omega)).1
    rw [add_lit'] at this
    rw [this]
    simp [hj] at hu
    rw [hu]

theorem open_bsl {ao : Option Addr} {n cap : Nat} (h : DataW.trod enc Try.prog w 0 (fun _ => true) true fuel 22 cs = some x) (hcs : cs = [.slice ao n cap]) : ∃ xs, BSl w (.slice ao n cap) xs := by
  rcases open_ints Try.underlying22 Try.underlying5 cellsU8 h with ⟨rfl, _⟩ | ⟨a, len, cap', zs, rfl, _, hl, hm, hz, _, hx, hwf⟩
  · cases hcs
    exact ⟨[], none, 0, rfl, by simp, by simp [maxLen], fun _ => ⟨rfl, rfl⟩, (fun ad e => by cases e)⟩
  · cases hcs
    simp at hz
    refine ⟨(List.range n).map fun i => byteOf (zs.getD i 0), some a, cap, by simp, by simpa using hl, hm, (fun e => by cases e), ?_⟩
    intro ad e hne
    cases e
    have hn : 0 < n := by
      rcases Nat.eq_zero_or_pos n with h0 | h0
      · subst h0; simp at hne
      · exact h0
    have h0 := hx 0 (by omega)
    rw [show a.add 0 = a from by simp [Addr.add]] at h0
    obtain ⟨b, off, rfl⟩ := spot_none h0
    refine ⟨b, off, rfl, fun j u hu => ?_⟩
    have hj : j < n := by have := (List.getElem?_eq_some_iff.1 hu).1; simpa [bcells] using this
    have := hx j (by omega)
    rw [add_lit'] at this
    rw [this]
    have hb := bounds_u8 (hwf (zs.getD j 0) (by
      rw [List.getD_eq_getElem?_getD, List.getElem?_eq_getElem (show j < zs.length by omega)]
      exact List.getElem_mem _))
    simp only [bcells, List.map_map, List.getElem?_map, List.getElem?_range hj, Option.map_some, Function.comp] at hu
    rw [← hu, byteOf_nat, Int.emod_eq_of_lt hb.1 (by omega)]

end
end Go.Proofs.Ytfgeeheojglldaa
