/- The Reader's state in memory, and what refuse, Left and take do. -/
import Derived.Test.YtnigfnikajejaabWrE
import Derived.Test.YtnigfnikajejaabGoto
import Derived.Deep.QuietTactic
import Derived.BigQuiet
namespace Go.Proofs.Ytnigfnikajejaab
open Go Go.RowKit





/-- A Reader's block, its fields' cells one by one. -/
theorem cells3 {w : World} {a : Nat} {t : TypeId} {v0 v1 v2 : Value} (h : w.heap[a]? = some (.cells #[v0, v1, v2] t (0, 0))) :
    w.cell? ⟨a, 0, none⟩ = some v0 ∧ w.cell? ⟨a, 1, none⟩ = some v1 ∧ w.cell? ⟨a, 2, none⟩ = some v2 ∧ ∀ j, w.frozen? ⟨a, j, none⟩ = false := by
  refine ⟨?_, ?_, ?_, fun j => by simp [World.frozen?, h]⟩ <;> simp [World.cell?, h]

theorem set3 {w : World} {a : Nat} {t : TypeId} {v0 v1 v2 : Value} (h : w.heap[a]? = some (.cells #[v0, v1, v2] t (0, 0))) (x y : Value) :
    ((w.setCell ⟨a, 2, none⟩ x).setCell ⟨a, 1, none⟩ y).heap[a]? = some (.cells #[v0, y, x] t (0, 0)) := by
  have hlt := lt_of_block h
  simp only [World.setCell, Array.getElem?_modify, if_true, h]
  simp
theorem set3p {w : World} {a : Nat} {t : TypeId} {v0 v1 v2 : Value} (h : w.heap[a]? = some (.cells #[v0, v1, v2] t (0, 0))) (y : Value) :
    (w.setCell ⟨a, 1, none⟩ y).heap[a]? = some (.cells #[v0, y, v2] t (0, 0)) := by
  simp only [World.setCell, Array.getElem?_modify, if_true, h]
  simp



theorem Keeps.drewN {S : Nat → Prop} {a w : World} (h : Keeps S a w) (n : Nat) : Keeps S a (w.drewN n) := ⟨h.os, h.tape, h.output, h.size, h.block⟩

/-- How many bytes may still be read. -/
def lft (bs : List UInt8) (p : Nat) (why : Int) : Nat := if why = 0 then bs.length - p else 0


/-- What take answers, and where the Reader stands behind it. -/
def tk (bs : List UInt8) (p : Nat) (why : Int) (n : Nat) : List UInt8 × Nat × Int :=
  if why = 0 then (if bs.length - p < n then ([], bs.length, 10) else ((bs.drop p).take n, p + n, 0)) else ([], p, why)



theorem bsl_none (w : World) : BSl w (.slice none 0 0) [] := ⟨none, 0, rfl, by simp, by simp [maxLen], fun _ => ⟨rfl, rfl⟩, (fun ad e => by cases e)⟩

theorem ownBlock_any (ao : Option Addr) (n c n' c' : Nat) : (Value.slice ao n c).ownBlock = (Value.slice ao n' c').ownBlock := by
  cases ao <;> rfl

theorem ownBlock_cut (ao : Option Addr) (p n c n' c' : Nat) : (Value.slice (Option.map (fun x => x.add p) ao) n c).ownBlock = (Value.slice ao n' c').ownBlock := by
  cases ao with
  | none => rfl
  | some ad => simp [Value.ownBlock, Addr.add]; split <;> rfl

theorem BSl.cutNone {w w' : World} {ao : Option Addr} {cap : Nat} {bs : List UInt8} (_h : BSl w (.slice ao bs.length cap) bs) : BSl w' (.slice ao 0 0) [] :=
  ⟨ao, 0, rfl, by simp, by simp [maxLen], fun _ => ⟨rfl, rfl⟩, fun _ _ h => absurd rfl h⟩

theorem BSl.cut {w : World} {ao : Option Addr} {cap p n : Nat} {bs : List UInt8} (h : BSl w (.slice ao bs.length cap) bs) (hl : n ≤ bs.length - p) (hcap : p < cap) : BSl w (.slice (Option.map (fun x => x.add p) ao) n (cap - p)) ((bs.drop p).take n) := by
  obtain ⟨ao, cap, e, h1, h2, h3, hc⟩ := h
  cases e
  have hlen : ((bs.drop p).take n).length = n := by simp; omega
  refine ⟨_, _, by rw [hlen], by rw [hlen]; omega, by omega, ?_, ?_⟩
  · intro hn
    cases ao with
    | none => have := (h3 rfl).2; omega
    | some ad => cases hn
  · intro ad had hne
    cases ao with
    | none => cases had
    | some ad0 =>
      have hne0 : bs ≠ [] := by rintro rfl; simp at hne
      obtain ⟨b, off, rfl, hcell⟩ := hc ad0 rfl hne0
      rw [Option.map_some, add_lit'] at had
      cases had
      refine ⟨b, off + p, rfl, fun j u hu => ?_⟩
      rw [Nat.add_assoc]
      refine hcell _ u ?_
      have hj : j < n := by have := (List.getElem?_eq_some_iff.1 hu).1; rw [bcells_length, hlen] at this; exact this
      simp only [bcells, List.getElem?_map, List.getElem?_take, hj, if_true, List.getElem?_drop] at hu ⊢
      exact hu




end Go.Proofs.Ytnigfnikajejaab
