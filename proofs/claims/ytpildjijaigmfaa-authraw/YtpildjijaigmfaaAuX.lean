/- From what slices of byte slices read as to what the walks are told of them. -/
import Derived.Test.YtpildjijaigmfaaAuO
import Derived.Test.YtpildjijaigmfaaAuW
namespace Go.Proofs.Ytpildjijaigmfaa
open Go Go.RowKit Go.ChangeShapes Go.WideShapes Go.ChangeAt Go.Deep

section
variable {H : Type} {enc : TypeId × Value → H} {w : World} {fuel : Nat} {cs : List Value} {x : DataW H × List MemPlace}
theorem open_lsl {ao : Option Addr} {n cap : Nat} (h : DataW.trod enc Try.prog w 0 (fun _ => true) true fuel 29 cs = some x) (hcs : cs = [.slice ao n cap]) : ∃ ps, LSl w (.slice ao n cap) ps := by
  rcases open_slice Try.underlying29 h with ⟨rfl, _⟩ | ⟨a, len, cap', m, k, D, Pl, rfl, _, hl, hm, hmm, _, hx⟩
  · cases hcs
    exact ⟨[], none, 0, rfl, by simp, by simp [maxLen], fun j hj => by simp at hj⟩
  · cases hcs
    simp at hmm
    subst hmm
    rw [cellsB] at hx
    have each : ∀ i, i < n → ∃ us : List UInt8, ∃ u, w.cell? (a.add i) = some u ∧ BSl w u us := by
      intro i hi
      obtain ⟨cs', h1, h2⟩ := hx i (by omega)
      obtain ⟨hlen, _, hcell⟩ := World.cells?_some h1
      have e0 := hcell 0 (by omega)
      rw [Nat.mul_one] at e0
      rcases open_ints Try.underlying25 Try.underlying5 cellsU8 h2 with ⟨e, _⟩ | ⟨a', len', cap'', zs, e, _⟩
      · obtain ⟨xs, hb⟩ := open_bsl h2 e
        subst e
        exact ⟨xs, _, by simpa [Addr.add] using e0, hb⟩
      · obtain ⟨xs, hb⟩ := open_bsl h2 e
        subst e
        exact ⟨xs, _, by simpa [Addr.add] using e0, hb⟩
    obtain ⟨f, hf⟩ := choose_lt each
    refine ⟨(List.range n).map f, some a, m, by simp, by simpa using hl, hm, fun j hj => ?_⟩
    have hj' : j < n := by simpa using hj
    obtain ⟨u0, h0, _⟩ := hf 0 (by omega)
    rw [show a.add 0 = a from by simp [Addr.add]] at h0
    obtain ⟨b, off, rfl⟩ := spot_none h0
    obtain ⟨u, h1, h2⟩ := hf j hj'
    rw [add_lit'] at h1
    refine ⟨b, off, u, rfl, h1, ?_⟩
    have e : ((List.range n).map f).getD j [] = f j := by
      rw [List.getD_eq_getElem?_getD, List.getElem?_map, List.getElem?_range hj']
      rfl
    rw [e]
    exact h2
end
end Go.Proofs.Ytpildjijaigmfaa
