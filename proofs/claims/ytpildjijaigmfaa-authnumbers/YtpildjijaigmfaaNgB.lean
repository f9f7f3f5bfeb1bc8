/- What Few makes of a list of texts. -/
import Derived.Test.YtpildjijaigmfaaNgA
namespace Go.Proofs.Ytpildjijaigmfaa
open Go Go.RowKit

/-- A list of texts of one's own. -/
def SOwn (w : World) (base : Nat) (v : Value) (ss : List ByteArray) : Prop := w.ownsRow base 9 1 v ss.length (ss.map Value.string)

theorem few_next (l : List ByteArray) (m k : Nat) (hk : k < l.length) : fewL l (k + 1) m = fewL l k m ++ [(l[k]).extract 0 m] := by
  simp only [fewL, List.take_succ_eq_append_getElem hk, List.map_append, List.map_cons, List.map_nil]

theorem srcStr1 {W : World} (s : ByteArray) : Src Try.prog 1 100 (.slice (some ⟨W.heap.size, 0, none⟩) 1 1) 1 [.string s] (W.alloc (.cells #[.string s] 9)) :=
  Src.ofSlice _ Try.underlying100 ⟨W.heap.size, 0, none⟩ 1 1 [.string s] rfl (World.news_of_block (t := 9) (fr := (0, 0)) (heap_alloc_new W _)) (by intro u hu; simp at hu; subst hu; rfl)


end Go.Proofs.Ytpildjijaigmfaa
