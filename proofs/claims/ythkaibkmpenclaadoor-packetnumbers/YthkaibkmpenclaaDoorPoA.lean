/- Blocks of words; the carry. -/
import Derived.Test.YthkaibkmpenclaaDoorPoS
namespace Go.Proofs.YthkaibkmpenclaaDoor
open Go Go.RowKit

def ncells (k : IntKind) (L : List Nat) : List Value := L.map fun x : Nat => Value.int k (x : Int)
theorem ncells_length (k : IntKind) (L : List Nat) : (ncells k L).length = L.length := by simp [ncells]
/-- The block g holds the words L. -/
def NB (k : IntKind) (w : World) (g : Nat) (t : TypeId) (L : List Nat) : Prop := w.heap[g]? = some (.cells (ncells k L).toArray t (0, 0))
section
variable {k : IntKind} {w : World} {g : Nat} {t : TypeId} {L : List Nat}
theorem NB.lt (h : NB k w g t L) : g < w.heap.size := lt_of_block h
theorem NB.cell (h : NB k w g t L) (i : Nat) (hi : i < L.length) : w.cell? ⟨g, i, none⟩ = some (.int k (L.getD i 0 : Nat)) := by
  rw [cell_row h]
  simp [ncells, hi]
theorem NB.frozen (h : NB k w g t L) (i : Nat) : w.frozen? ⟨g, i, none⟩ = false := frozen_row h i
theorem NB.set (h : NB k w g t L) (i : Nat) (x : Nat) : NB k (w.setCell ⟨g, i, none⟩ (.int k (x : Int))) g t (L.set i x) := by
  unfold NB
  rw [heap_setCell_same _ _ _ _ _ _ h]
  simp [ncells, List.map_set]
theorem NB.keep {S : Nat → Prop} {w' : World} (h : NB k w g t L) (hk : Keeps S w w') (hn : ¬ S g) : NB k w' g t L := (hk.block g (lt_of_block h) hn).trans h
theorem NB.fresh {w' : World} (h : NB k w g t L) (hb : Below w.heap.size w w') : NB k w' g t L := h.keep (S := fun _ => False) (Keeps.ofFresh hb) (fun h => h)
theorem NB.new (w : World) (L : List Nat) : NB k (w.alloc (.cells (ncells k L).toArray t)) w.heap.size t L := heap_alloc_new w _
end


set_option maxHeartbeats 800000 in
set_option maxRecDepth 100000 in
theorem carry_c (g : Nat) (L : List Nat) (hL : L.length = 5) (hb : ∀ i, i < 5 → L.getD i 0 ≤ 1152921504606846976) (w : World) (h : NB .u64 w g 103 L) :
    Calls Tryd.prog 78 #[.pointer (some ⟨g, 0, none⟩)] w fun e w' => e = .returned (.int .u64 ((cyTo L 5).2 : Nat)) ∧ NB .u64 w' g 103 (cyTo L 5).1 ∧ Keeps (fun k => k = g) w w' := by
  have HB := hidden hb
  have H := hidden h
  clear hb h
  go_enter Tryd.func78, Tryd.ntmps78
  go_wp2_with fail
  go_loopw [3, 5] (fun o c wr => ∃ i : Nat, i ≤ 5 ∧ c = .int .i64 (i : Int) ∧ o = .int .u64 ((cyTo L i).2 : Nat) ∧ NB .u64 wr g 103 (cyTo L i).1 ∧ Keeps (fun k => k = g) w wr) (fun _ c _ => 5 - (intOf c).toNat)
  case atStart => exact ⟨0, by omega, rfl, rfl, H.out, Keeps.refl _ _⟩
  case round =>
    obtain ⟨i, hi, rfl, rfl, hn, hk⟩ := hrel
    have HN := hidden hn
    have HK := hidden hk
    clear hn hk
    by_cases hlt : i < 5
    · have hlt' : (i : Int) < 5 := by omega
      have hlen := cyTo_length L i
      have hc := HN.out.cell i (by omega)
      have hf := HN.out.frozen i
      have hbd := cyTo_small L HB.out i hlt
      obtain ⟨s, hs⟩ : ∃ s, s = (cyTo L i).2 + (cyTo L i).1.getD i 0 := ⟨_, rfl⟩
      have hs2 : s ≤ 1300000000000000000 := by omega
      have hand := mask26 s (by omega)
      have HS : Hid (cyTo L (i + 1) = ((cyTo L i).1.set i (s % 67108864), s / 67108864)) := by rw [hs]; rfl
      have hs3 : (((cyTo L i).2 : Nat) : Int) + (((cyTo L i).1.getD i 0 : Nat) : Int) = (s : Int) := by omega
      generalize (cyTo L i).1.getD i 0 = x at hc hs3
      generalize (cyTo L i).2 = o at hs3 ⊢
      clear hbd hs hlen
      go_wp2
      go_roundw
      case rel =>
        refine ⟨i + 1, by omega, by go_num, ?_, ?_, HK.out.setCell (p := ⟨g, i, none⟩) (.inl rfl) _⟩
        · rw [HS.out]; go_num
        · rw [HS.out]; exact HN.out.set i (s % 67108864)
      case measure => simp [intOf]; omega
    · have hlt' : ¬ (i : Int) < 5 := by omega
      obtain rfl : i = 5 := by omega
      go_wp2
      go_ret
      exact ⟨rfl, HN.out, HK.out⟩
end Go.Proofs.YthkaibkmpenclaaDoor
