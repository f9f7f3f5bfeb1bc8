/- What Next does: a refusal stays. -/
import Derived.Test.YthkaibkmpenclaaDoorPkM
namespace Go.Proofs.YthkaibkmpenclaaDoor
open Go Go.RowKit

/-- What Next tells, and what it leaves. -/
def NTold (w : World) (g h : Nat) (kb : Option Nat) (key : List UInt8) (c : Nat) (xs : List UInt8) (r : Nx) (e : Ending) (w' : World) : Prop :=
  match r with
  | .short => e = .returned (.tuple #[.slice none 0 0, .bool false, .int .i64 0]) ∧ InS w' g h kb key c xs 0 ∧ Moved g h h kb kb w w'
  | .bad why => e = .returned (.tuple #[.slice none 0 0, .bool false, .int .i64 (why : Int)]) ∧ InS w' g g none [] 0 [] why ∧ Moved g h g kb none w w'
  | .told p rest => ∃ v h', e = .returned (.tuple #[v, .bool true, .int .i64 0]) ∧ BSl w' v p ∧ (∀ k, v.ownBlock = some k → w.heap.size ≤ k) ∧ InS w' g h' kb key (c + 1) rest 0 ∧ Moved g h h' kb kb w w'
/-- The In, wiped: its refusal alone is kept. -/
def wiped (w : World) (g : Nat) (why : Int) : World :=
  ((((w.setCell ⟨g, 0, none⟩ (.slice none 0 0)).setCell ⟨g, 1, none⟩ (.int .u64 0)).setCell ⟨g, 2, none⟩ (.slice none 0 0)).setCell ⟨g, 3, none⟩ (.int .i64 0)).setCell ⟨g, 4, none⟩ (.int .i64 why)
theorem wiped_ok {w0 w : World} {g h : Nat} {kb : Option Nat} {v0 v1 v2 v3 v4 : Value} (hk : Keeps (fun k => k = g ∨ k = h) w0 w) (h1 : w.heap[g]? = some (.cells #[v0, v1, v2, v3, v4] 74 (0, 0))) (why : Nat) :
    InS (wiped w g (why : Int)) g g none [] 0 [] why ∧ Moved g h g kb none w0 (wiped w g (why : Int)) := by
  have hk2 : Keeps (fun k => k = g ∨ k = h) w (wiped w g (why : Int)) := ((((keepSet _ w g 0 _ (.inl rfl)).trans (keepSet _ _ g 1 _ (.inl rfl))).trans (keepSet _ _ g 2 _ (.inl rfl))).trans (keepSet _ _ g 3 _ (.inl rfl))).trans (keepSet _ _ g 4 _ (.inl rfl))
  refine ⟨⟨⟨.slice none 0 0, .slice none 0 0, 0, ?_, bsl_none _, rfl, .inl ⟨rfl, rfl, rfl⟩, by simp⟩, by simp, by simp, by simp, .inl rfl, by omega⟩, hk.trans hk2, .inr (.inl rfl), .inr (.inl rfl)⟩
  have e := (set5 (set5 (set5 (set5 h1 (.slice none 0 0)).1 (.int .u64 0)).2.1 (.slice none 0 0)).2.2.1 (.int .i64 0)).2.2.2
  rw [wiped, heap_setCell_same _ _ _ _ _ _ e]
  rfl
set_option maxHeartbeats 800000 in
set_option maxRecDepth 100000 in
theorem next_no (w : World) {g h : Nat} {kb : Option Nat} {key : List UInt8} {c : Nat} {xs : List UInt8} {why : Nat} (hw : why ≠ 0) (i : InS w g h kb key c xs why) :
    Calls Tryd.prog 27 #[.pointer (some ⟨g, 0, none⟩)] w fun e w' => NTold w g h kb key c xs (.bad why) e w' := by
  obtain ⟨⟨kv, hv0, ps, h1, h2, hkb, h3, h4⟩, h5, h6, h7, h8, h9⟩ := i
  obtain ⟨c0, c1, c2, c3, c4, hf⟩ := cells5 h1
  have hw2 : ((why : Int) == 0) = false := by simpa using hw
  have hw3 : ((why : Int) != 0) = true := by simpa using hw
  simp only [NTold]
  have HB := hidden (wiped_ok (kb := kb) (Keeps.refl (fun k => k = g ∨ k = h) w) h1 why)
  clear h1 h2 h3 h7 h8
  go_enter Tryd.func27, Tryd.ntmps27
  go_wp2
  refine scope_forward 3 ?_
  go_wp2
  go_step3
  refine .inr ⟨_, rfl, ?_⟩
  go_wp2
  go_step3
  go_wp2
  simp only [hops]
  go_ret3
  exact ⟨rfl, HB.out.1, HB.out.2⟩
end Go.Proofs.YthkaibkmpenclaaDoor
