/- One round of SHA-256 over eight words in memory. -/
import Derived.Test.YtllkafhooapcbaaDoorKdA
namespace Go.Proofs.YtllkafhooapcbaaDoor
open Go Go.RowKit

def wcells (L : List Int) : List Value := L.map (Value.int .u32)
/-- Block g holds the words L. -/
def WB (w : World) (g : Nat) (t : TypeId) (L : List Int) : Prop := w.heap[g]? = some (.cells (wcells L).toArray t (0, 0))

theorem WB.cell {w : World} {g : Nat} {t : TypeId} {L : List Int} (h : WB w g t L) (i : Nat) (hi : i < L.length) : w.cell? ⟨g, i, none⟩ = some (.int .u32 (L.getD i 0)) := by
  have h' : w.heap[g]? = some (.cells (wcells L).toArray t (0, 0)) := h
  simp [World.cell?, h', wcells, List.getElem?_eq_getElem hi]
theorem WB.frozen {w : World} {g : Nat} {t : TypeId} {L : List Int} (h : WB w g t L) (i : Nat) : w.frozen? ⟨g, i, none⟩ = false := by
  have h' : w.heap[g]? = some (.cells (wcells L).toArray t (0, 0)) := h
  simp [World.frozen?, h']
theorem WB.set {w : World} {g : Nat} {t : TypeId} {L : List Int} (h : WB w g t L) (i : Nat) (x : Int) : WB (w.setCell ⟨g, i, none⟩ (.int .u32 x)) g t (L.set i x) := by
  unfold WB at *
  rw [heap_setCell_same _ _ _ _ _ _ h]
  simp [wcells, List.map_set]
theorem WB.drew {w : World} {g : Nat} {t : TypeId} {L : List Int} (h : WB w g t L) : WB w.drew g t L := h
theorem WB.keep {S : Nat → Prop} {w w' : World} {g : Nat} {t : TypeId} {L : List Int} (h : WB w g t L) (hk : Keeps S w w') (hn : ¬ S g) : WB w' g t L :=
  (hk.block g (lt_of_block h) hn).trans h
theorem wcells_length (L : List Int) : (wcells L).length = L.length := by simp [wcells]

def x32 (x y : Int) : Int := bits BinOp.xor IntKind.u32 x y
def a32 (x y : Int) : Int := bits BinOp.and IntKind.u32 x y
def n32 (x : Int) : Int := bits BinOp.xor IntKind.u32 IntKind.u32.max x
def bigE (e : Int) : Int := x32 (x32 (r6 e) (r11 e)) (r25 e)
def bigA (a : Int) : Int := x32 (x32 (r2 a) (r13 a)) (r22 a)
def choice (e f g : Int) : Int := x32 (a32 e f) (a32 (n32 e) g)
def major (a b c : Int) : Int := x32 (x32 (a32 a b) (a32 a c)) (a32 b c)
/-- One round: two new words, the others one place on. -/
def roundL : List Int → Int → List Int
  | [a, b, c, d, e, f, g, h], x => [(h + bigE e + choice e f g + x + bigA a + major a b c) % 4294967296, a, b, c, (d + (h + bigE e + choice e f g + x)) % 4294967296, e, f, g]
  | L, _ => L

set_option maxHeartbeats 1600000 in
set_option maxRecDepth 100000 in
theorem round_c (g0 : Nat) (a b c d e f g h x : Int) (w : World) (hw : WB w g0 55 [a, b, c, d, e, f, g, h]) :
    Calls Tryd.prog 51 #[.pointer (some ⟨g0, 0, none⟩), .int .u32 x] w fun en w' => en = .returned (.tuple #[]) ∧ WB w' g0 55 (roundL [a, b, c, d, e, f, g, h] x) ∧ Keeps (fun k => k = g0) w w' := by
  have c0 := hw.cell 0 (by simp)
  have c1 := hw.cell 1 (by simp)
  have c2 := hw.cell 2 (by simp)
  have c3 := hw.cell 3 (by simp)
  have c4 := hw.cell 4 (by simp)
  have c5 := hw.cell 5 (by simp)
  have c6 := hw.cell 6 (by simp)
  have c7 := hw.cell 7 (by simp)
  have fz := hw.frozen
  simp only [List.getD_cons_zero, List.getD_cons_succ] at c0 c1 c2 c3 c4 c5 c6 c7
  have HW := hidden hw
  have hsg : ¬ IntKind.u32.signed = true := by decide
  clear hw
  go_enter Tryd.func51, Tryd.ntmps51
  go_wp2_with fail
  refine region_ord [0,1,2,4,5,6,8,9,10,12,13,14,16,17,18,20,21,22,3,24,7,25,11,26,15,27,19,28,23,29] (by kernel_rfl) (by kernel_rfl) fun K9 H9 => ?_
  simp only [List.filterMap_cons, List.filterMap_nil, List.getElem?_toArray, List.getElem?_cons_succ, List.getElem?_cons_zero]
  go_wp2_with fail
  refine (rot6_c _ _).mono ?_
  rintro en w1 ⟨rfl, rfl⟩
  go_wp2_with fail
  refine (rot11_c _ _).mono ?_
  rintro en w1 ⟨rfl, rfl⟩
  go_wp2_with fail
  refine (rot25_c _ _).mono ?_
  rintro en w1 ⟨rfl, rfl⟩
  go_wp2_with fail
  refine (rot2_c _ _).mono ?_
  rintro en w1 ⟨rfl, rfl⟩
  go_wp2_with fail
  refine (rot13_c _ _).mono ?_
  rintro en w1 ⟨rfl, rfl⟩
  go_wp2_with fail
  refine (rot22_c _ _).mono ?_
  rintro en w1 ⟨rfl, rfl⟩
  go_wp2_with fail
  go_big_region
  go_wp2_with fail
  go_big_region
  go_wp2
  go_end0
  refine ⟨rfl, ((((((((((HW.out.set 7 g).set 6 f).set 5 e).set 4 _).set 3 c).set 2 b).set 1 a).set 0 _).drew).drew).drew, ?_⟩
  exact (((((((((((Keeps.refl (fun k => k = g0) w).setCell (p := ⟨g0, 7, none⟩) (.inl rfl) _).setCell (p := ⟨g0, 6, none⟩) (.inl rfl) _).setCell (p := ⟨g0, 5, none⟩) (.inl rfl) _).setCell (p := ⟨g0, 4, none⟩) (.inl rfl) _).setCell (p := ⟨g0, 3, none⟩) (.inl rfl) _).setCell (p := ⟨g0, 2, none⟩) (.inl rfl) _).setCell (p := ⟨g0, 1, none⟩) (.inl rfl) _).setCell (p := ⟨g0, 0, none⟩) (.inl rfl) _).drew).drew).drew
/-- The same for any eight words. -/
theorem list8 {L : List Int} (h : L.length = 8) : ∃ a b c d e f g k, L = [a, b, c, d, e, f, g, k] := by
  match L, h with
  | [a0, a1, a2, a3, a4, a5, a6, a7], _ => exact ⟨a0, a1, a2, a3, a4, a5, a6, a7, rfl⟩
theorem roundL_length (L : List Int) (x : Int) : (roundL L x).length = L.length := by
  unfold roundL
  split <;> rfl
theorem round_l (g0 : Nat) (L : List Int) (hL : L.length = 8) (x : Int) (w : World) (hw : WB w g0 55 L) :
    Calls Tryd.prog 51 #[.pointer (some ⟨g0, 0, none⟩), .int .u32 x] w fun en w' => en = .returned (.tuple #[]) ∧ WB w' g0 55 (roundL L x) ∧ Keeps (fun k => k = g0) w w' := by
  obtain ⟨a, b, c, d, e, f, g, k, rfl⟩ := list8 hL
  exact round_c g0 a b c d e f g k x w hw
end Go.Proofs.YtllkafhooapcbaaDoor
