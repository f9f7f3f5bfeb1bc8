/- What Few, short and put do. -/
import Derived.Test.YtnimdbjbkoggdaaRfC
import Derived.Test.YtnimdbjbkoggdaaKnown
import Derived.Deep.RegionLaw
namespace Go.Proofs.Ytnimdbjbkoggdaa
open Go Go.RowKit

theorem Try.infoStr : (Try.prog.info? 9).map (fun i => (i.zero, i.size, i.bytes)) = some (some (.string ⟨#[]⟩), 1, 16) := by kernel_rfl

def few (ss : List ByteArray) : List ByteArray := (ss.take 8).map fun s => s.extract 0 66
theorem few_len (ss : List ByteArray) : (few ss).length ≤ 8 := by simp [few]; omega


theorem SSl.ofRow {w : World} {base : Nat} {v : Value} {n : Nat} {ss : List ByteArray} (h : w.ownsRow base 9 1 v n (ss.map Value.string)) : SSl w v ss := by
  have hl : ss.length = n := by have := h.1; rw [List.length_map] at this; omega
  subst hl
  have h0 := h
  rcases h.2 with ⟨rfl, h1⟩ | ⟨g, cap, cur, rfl, _, _, h2, h3, _⟩
  · exact ⟨none, 0, by rw [h1], by omega, by simp [maxLen], fun _ => ⟨List.eq_nil_of_length_eq_zero h1, rfl⟩, (fun ad e => by cases e)⟩
  · refine ⟨some ⟨g, 0, none⟩, cap, rfl, h2, h3, (fun e => by cases e), ?_⟩
    rintro ad e _
    cases e
    exact ⟨g, 0, rfl, fun j u hu => by have := h0.cells (g := g) rfl j (.string u) (by simp [hu]); rwa [add_lit'] at this⟩

theorem SSl.keep {S : Nat → Prop} {w w' : World} {v : Value} {ss : List ByteArray} (h : SSl w v ss) (hk : Keeps S w w') (hn : ∀ k, v.ownBlock = some k → ¬ S k) : SSl w' v ss := by
  obtain ⟨ao, cap, rfl, h1, h2, h3, hc⟩ := h
  refine ⟨ao, cap, rfl, h1, h2, h3, ?_⟩
  rintro ad rfl hx
  obtain ⟨b, off, rfl, hcell⟩ := hc ad rfl hx
  exact ⟨b, off, rfl, fun j u hu => hk.cell (hcell j u hu) (hn b rfl)⟩
theorem SSl.fresh {w w' : World} {v : Value} {ss : List ByteArray} (h : SSl w v ss) (hb : Below w.heap.size w w') : SSl w' v ss :=
  h.keep (S := fun _ => False) (Keeps.ofFresh hb) fun _ _ h => h


end Go.Proofs.Ytnimdbjbkoggdaa
