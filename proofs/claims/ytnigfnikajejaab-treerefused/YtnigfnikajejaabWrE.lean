/- Conversions between strings and byte slices. -/
import Derived.Test.YtnigfnikajejaabWrD
import Derived.Laws.IdiomStrings
namespace Go.Proofs.Ytnigfnikajejaab
open Go Go.RowKit

/-- What a conversion of a string to bytes gives, and the world behind it. -/
def bytesV (w : World) (s : ByteArray) : Value := .slice (some ⟨w.heap.size, 0, none⟩) s.size (grownCap w s.size 0 5)
def bytesW (w : World) (s : ByteArray) : World :=
  w.drew.alloc (.cells (bytesRow s (grownCap w s.size 0 5)) 5 ((bytesRow s (grownCap w s.size 0 5)).size, (bytesRow s (grownCap w s.size 0 5)).size + 1))
theorem run_bytes (s : ByteArray) (w : World) : (convert 9 28 (.string s)).run Try.prog w = .ok (bytesV w s) (bytesW w s) :=
  run_bytes_of_string w _ _ _ s Try.underlying9 Try.underlying28 Try.underlying5
theorem bytesW_below (w : World) (s : ByteArray) : Below w.heap.size w (bytesW w s) := (Below.refl _ w).drew.alloc (Nat.le_refl _) _
theorem bytes_bsl (w : World) (s : ByteArray) (hs : s.size ≤ 140737488355328) : BSl (bytesW w s) (bytesV w s) s.data.toList := by
  have hge := grownCap_ge w s.size 0 5
  have hle := grownCap_le_maxLen w s.size 0 5 (by unfold maxLen; omega)
  have hsz : s.data.toList.length = s.size := by rw [Array.length_toList]; rfl
  refine ⟨_, _, by rw [hsz]; rfl, by rw [hsz]; exact hge, hle, (fun e => by cases e), fun ad e _ => ⟨w.heap.size, 0, by cases e; rfl, fun j u hu => ?_⟩⟩
  have hb : (bytesW w s).heap[w.heap.size]? = _ := heap_alloc_new w.drew _
  rw [Nat.zero_add, cell_of_row _ _ _ _ _ _ hb]
  have hj : j < s.data.size := by have := (List.getElem?_eq_some_iff.1 hu).1; rw [bcells_length, Array.length_toList] at this; exact this
  rw [bytesRow_at _ _ _ hj]
  simp only [bcells, List.getElem?_map, Array.getElem?_toList, Array.getElem?_eq_getElem hj, Option.map_some] at hu
  exact hu
/-- A byte slice as a string. -/
theorem run_string {w : World} {v : Value} {xs : List UInt8} (h : BSl w v xs) : (convert 28 9 v).run Try.prog w = .ok (.string ⟨xs.toArray⟩) w := by
  obtain ⟨ao, cap, rfl, h1, h2, h3, hc⟩ := h
  cases ao with
  | none =>
    obtain ⟨rfl, rfl⟩ := h3 rfl
    rw [run_convert_bytes_string w _ _ _ _ _ _ Try.underlying28 Try.underlying5 Try.underlying9]
    rfl
  | some ad =>
    by_cases hx : xs = []
    · subst hx
      exact run_convert_bytes_back w _ _ _ ad _ [] Try.underlying28 Try.underlying5 Try.underlying9 fun j hj => by simp at hj
    obtain ⟨b, off, rfl, hcell⟩ := hc ad rfl hx
    refine run_convert_bytes_back w _ _ _ _ _ _ Try.underlying28 Try.underlying5 Try.underlying9 fun j hj => ?_
    rw [add_lit']
    exact hcell j _ (by simp [bcells, hj])

end Go.Proofs.Ytnigfnikajejaab
