/- The walk of ChansFree: the least free number is given; a closed one is given again; a fifth is refused. -/
import Derived.Test.YtnimdbjbkoggdabCnU
namespace Go.Proofs.Ytnimdbjbkoggdab
open Go Go.RowKit

section
variable {o : Oper} {ρ : Operand → Value} {w w0 : World} {x y z : Operand} {v vx vy vz : Value} {Φ : Value → World → Prop}
theorem gives_fieldE1 {g : Nat} (ho : o.op = .fieldAddr 38 x 1) (hx : ρ x = .pointer (some ⟨g, 0, none⟩)) (h : Φ (.pointer (some ⟨g, 1, none⟩)) w) : Gives Try.prog o ρ w Φ := by
  refine Gives.value (w' := w) (v := .pointer (some ⟨g, 1, none⟩)) ?_ h
  unfold execOp
  simp only [ho, hx]
  simp [Instr.fieldAt, run_underlying Try.underlying38, Instr.sureAddr, fieldPlace, Addr.add]
end
/-- While a law goes on: its Mux, made since w. -/
structure MI (w wr : World) (P : Nat → Prop) (a : Nat) (S : MS) : Prop where
  m : MX wr P a S
  ge : w.heap.size ≤ a
  pg : ∀ k, P k → w.heap.size ≤ k
  below : Below w.heap.size w wr
theorem MI.fresh {w wr w1 : World} {P : Nat → Prop} {a : Nat} {S : MS} (h : MI w wr P a S) (hb : Below wr.heap.size wr w1) : MI w w1 P a S := ⟨h.m.fresh hb, h.ge, h.pg, h.below.trans (hb.mono h.below.size)⟩
theorem MI.done {w wr w1 : World} {P : Nat → Prop} {a : Nat} {S S' : MS} (h : MI w wr P a S) (hm : MX w1 P a S') (hk : Keeps (fun k => k = a) wr w1) : MI w w1 P a S' := ⟨hm, h.ge, h.pg, h.below.trans (Keeps.below hk h.below.size (fun k e => by rw [e]; exact h.ge))⟩
theorem MI.set {w wr : World} {a g : Nat} {S : MS} {i : Nat} {u : Value} (h : MI w wr (fun _ => False) a S) (hg : g ≠ a) (hge : w.heap.size ≤ g) : MI w (wr.setCell ⟨g, i, none⟩ u) (fun _ => False) a S :=
  ⟨h.m.keep (keepsSet wr g i u) (fun e => hg e.symm) (fun _ h => h.elim), h.ge, h.pg, h.below.setCell (p := ⟨g, i, none⟩) hge _⟩
/-- The slice value v reads as ints. -/
def IntS (w : World) (v : Value) (zs : List Int) : Prop :=
  ∃ ao cap, v = .slice ao zs.length cap ∧ zs.length ≤ cap ∧ cap ≤ maxLen ∧ ∀ j (hj : j < zs.length), ∃ b off, ao = some ⟨b, off, none⟩ ∧ w.cell? ⟨b, off + j, none⟩ = some (.int .i64 zs[j])
theorem IntS.at {w w' : World} {ao : Option Addr} {n cap : Nat} {zs : List Int} (h : IntS w (.slice ao n cap) zs) (hb : Below w.heap.size w w') (j : Nat) (hj : j < zs.length) : ∃ b off, ao = some ⟨b, off, none⟩ ∧ w'.cell? ⟨b, off + j, none⟩ = some (.int .i64 zs[j]) := by
  obtain ⟨ao, cap, e, _, _, hx⟩ := h
  cases e
  obtain ⟨b, off, h1, h2⟩ := hx j hj
  exact ⟨b, off, h1, (Keeps.ofFresh (S := fun _ => False) hb).cell h2 (fun h => h)⟩
def fC (i : Nat) : Ch := newC (7 * i) 0 9
def fS (hs : List Bool) : MS := ⟨[if hs.getD 0 false then some (fC 0) else none, if hs.getD 1 false then some (fC 1) else none, if hs.getD 2 false then some (fC 2) else none, if hs.getD 3 false then some (fC 3) else none], false⟩
def fF (hs : List Bool) : Nat := (hs.takeWhile id).length
theorem fS_gone0 (h1 h2 h3 : Bool) : doO (fS [true, h1, h2, h3]) ([97] ++ numsL [0]) = (fS ([true, h1, h2, h3].set 0 false), [numL 97 [7 * 0]], [⟨4, 0, []⟩]) := by
  cases h1 <;> cases h2 <;> cases h3 <;> kernel_rfl
theorem fS_gone1 (h0 h2 h3 : Bool) : doO (fS [h0, true, h2, h3]) ([97] ++ numsL [1]) = (fS ([h0, true, h2, h3].set 1 false), [numL 97 [7 * 1]], [⟨4, 1, []⟩]) := by
  cases h0 <;> cases h2 <;> cases h3 <;> kernel_rfl
theorem fS_gone2 (h0 h1 h3 : Bool) : doO (fS [h0, h1, true, h3]) ([97] ++ numsL [2]) = (fS ([h0, h1, true, h3].set 2 false), [numL 97 [7 * 2]], [⟨4, 2, []⟩]) := by
  cases h0 <;> cases h1 <;> cases h3 <;> kernel_rfl
theorem fS_gone3 (h0 h1 h2 : Bool) : doO (fS [h0, h1, h2, true]) ([97] ++ numsL [3]) = (fS ([h0, h1, h2, true].set 3 false), [numL 97 [7 * 3]], [⟨4, 3, []⟩]) := by
  cases h0 <;> cases h1 <;> cases h2 <;> kernel_rfl
theorem fS_gone (h0 h1 h2 h3 : Bool) (k : Nat) (hk : k < 4) (ht : [h0, h1, h2, h3].getD k false = true) : doO (fS [h0, h1, h2, h3]) ([97] ++ numsL [k]) = (fS ([h0, h1, h2, h3].set k false), [numL 97 [7 * k]], [⟨4, k, []⟩]) := by
  have e : k = 0 ∨ k = 1 ∨ k = 2 ∨ k = 3 := by omega
  rcases e with rfl | rfl | rfl | rfl
  · have ht' : h0 = true := ht
    subst ht'
    exact fS_gone0 h1 h2 h3
  · have ht' : h1 = true := ht
    subst ht'
    exact fS_gone1 h0 h2 h3
  · have ht' : h2 = true := ht
    subst ht'
    exact fS_gone2 h0 h1 h3
  · have ht' : h3 = true := ht
    subst ht'
    exact fS_gone3 h0 h1 h2
theorem fS_open (h0 h1 h2 h3 : Bool) : doO (fS [h0, h1, h2, h3]) (openP sesB (7 * fF [h0, h1, h2, h3]) 0 9) = (if fF [h0, h1, h2, h3] < 4 then (fS ([h0, h1, h2, h3].set (fF [h0, h1, h2, h3]) true), [numL 91 [7 * fF [h0, h1, h2, h3], fF [h0, h1, h2, h3], 65536, 32768]], []) else (fS [h0, h1, h2, h3], [refL 28 4], [])) := by
  cases h0 <;> cases h1 <;> cases h2 <;> cases h3 <;> kernel_rfl
theorem fS_ok (h0 h1 h2 h3 : Bool) : OkM 0 (fS [h0, h1, h2, h3]) := by
  refine ⟨rfl, fun i c e => ?_⟩
  have key : ∀ (b : Bool) (k : Nat), k < 4 → (if b = true then some (fC k) else none) = some c → Ok 0 c := fun b k hk e => by
    cases b
    · cases e
    · cases e
      exact ⟨by show 7 * k ≤ _; omega, by show 0 ≤ _; omega, by show 1 ≤ 9; omega, by show 9 ≤ 32768; omega, by show 65536 ≤ 65536; omega, by show ([] : List UInt8).length ≤ 0; simp⟩
  match i, e with
  | 0, e => exact key h0 0 (by omega) e
  | 1, e => exact key h1 1 (by omega) e
  | 2, e => exact key h2 2 (by omega) e
  | 3, e => exact key h3 3 (by omega) e
  | (n + 4), e => cases e
theorem list4 {hs : List Bool} (h : hs.length = 4) : ∃ a b c d, hs = [a, b, c, d] := by
  match hs, h with
  | [a, b, c, d], _ => exact ⟨a, b, c, d, rfl⟩
theorem fF_spec (hs : List Bool) : (∀ j, j < fF hs → hs.getD j false = true) ∧ (fF hs < hs.length → hs.getD (fF hs) false = false) ∧ fF hs ≤ hs.length := by
  unfold fF
  induction hs with
  | nil => exact ⟨fun j h => by simp at h, fun h => by simp at h, by simp⟩
  | cons x r ih =>
    obtain ⟨i1, i2, i3⟩ := ih
    cases x with
    | false => exact ⟨fun j h => by simp at h, fun _ => rfl, by simp⟩
    | true =>
      simp only [List.takeWhile_cons, id, if_true, List.length_cons]
      refine ⟨fun j hj => ?_, fun h => ?_, by omega⟩
      · cases j with
        | zero => rfl
        | succ j => simpa using i1 j (by omega)
      · simpa using i2 (by omega)
theorem nine80 : ((numL 91 [7 * 0, 0, 65536, 32768]).getD 8 0).toNat = 0 := by kernel_rfl
theorem nine81 : ((numL 91 [7 * 1, 1, 65536, 32768]).getD 8 0).toNat = 1 := by kernel_rfl
theorem nine82 : ((numL 91 [7 * 2, 2, 65536, 32768]).getD 8 0).toNat = 2 := by kernel_rfl
theorem nine83 : ((numL 91 [7 * 3, 3, 65536, 32768]).getD 8 0).toNat = 3 := by kernel_rfl
theorem nine8 (q : Nat) (h : q < 4) : ((numL 91 [7 * q, q, 65536, 32768]).getD 8 0).toNat = q := by
  have e : q = 0 ∨ q = 1 ∨ q = 2 ∨ q = 3 := by omega
  rcases e with rfl | rfl | rfl | rfl
  · exact nine80
  · exact nine81
  · exact nine82
  · exact nine83
/-- The law's own four bools. -/
def HB (w : World) (g : Nat) (hs : List Bool) : Prop := w.heap[g]? = some (.cells (hs.map Value.bool).toArray 25 (0, 0))
theorem HB.cell {w : World} {g : Nat} {hs : List Bool} (h : HB w g hs) (k : Nat) (hk : k < hs.length) : w.cell? ⟨g, k, none⟩ = some (.bool (hs.getD k false)) := by
  rw [cell_row h]
  simp [hk]
theorem HB.set {w : World} {g : Nat} {hs : List Bool} (h : HB w g hs) (k : Nat) (b : Bool) : HB (w.setCell ⟨g, k, none⟩ (.bool b)) g (hs.set k b) := by
  unfold HB
  rw [heap_setCell_same _ _ _ _ _ _ h]
  simp [List.map_set]
end Go.Proofs.Ytnimdbjbkoggdab
