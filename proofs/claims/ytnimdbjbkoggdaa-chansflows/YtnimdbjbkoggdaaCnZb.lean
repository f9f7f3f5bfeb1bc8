/- ChansFlows in memory: payloads that came out, and more behind them; a Mux behind Send. -/
import Derived.Test.YtnimdbjbkoggdaaCnZa
namespace Go.Proofs.Ytnimdbjbkoggdaa
open Go Go.RowKit

theorem MI.sent {w wr w1 : World} {P P' : Nat → Prop} {a : Nat} {S S' : MS} (h : MI w wr P a S) (hm : MX w1 P' a S') (hp : ∀ k, P' k → P k ∨ wr.heap.size ≤ k) (hk : Keeps (fun k => k = a ∨ P k) wr w1) : MI w w1 P' a S' :=
  ⟨hm, h.ge, fun k e => (hp k e).elim (h.pg k) (fun h2 => Nat.le_trans h.below.size h2), h.below.trans (Keeps.below hk h.below.size (fun k e => e.elim (fun e => by rw [e]; exact h.ge) (h.pg k)))⟩
theorem MI.doneP {w wr w1 : World} {P : Nat → Prop} {a : Nat} {S S' : MS} (h : MI w wr P a S) (hm : MX w1 P a S') (hk : Keeps (fun k => k = a) wr w1) : MI w w1 P a S' := h.done hm hk
/-- A step that turns one block more, new since w, none of the Mux's. -/
theorem MI.turned {w wr w1 : World} {P : Nat → Prop} {a : Nat} {S : MS} {g : Option Nat} (h : MI w wr P a S) (hk : Keeps (fun k => g = some k) wr w1) (hg : ∀ k, g = some k → w.heap.size ≤ k ∧ k ≠ a ∧ ¬ P k) : MI w w1 P a S :=
  ⟨h.m.keep hk (fun e => (hg a e).2.1 rfl) (fun k hp e => (hg k e).2.2 hp), h.ge, h.pg, h.below.trans (Keeps.below hk h.below.size (fun k e => (hg k e).1))⟩
theorem Lst.lsl {B : Nat} {w : World} {v : Value} {ls : List (List UInt8)} (h : Lst B w v ls) : LSl w v ls := by
  obtain ⟨vs, h1, h2, h3⟩ := h
  have hlen : vs.length = ls.length := h1
  rcases id h2.2 with ⟨rfl, e⟩ | ⟨g, cap, cur, rfl, k1, k2, k3, k4, k5, k6⟩
  · refine ⟨none, 0, by rw [e], by omega, by simp [maxLen], fun j hj => by omega⟩
  · refine ⟨some ⟨g, 0, none⟩, cap, rfl, k3, k4, fun j hj => ⟨g, 0, vs.getD j undef, rfl, ?_, (h3 j hj).1⟩⟩
    have hc := h2.cells (g := g) rfl j (vs.getD j undef) (by simp [List.getElem?_eq_getElem (show j < vs.length by omega)])
    rw [add_lit'] at hc
    exact hc
theorem lst_one {B : Nat} {w : World} {v : Value} {ls : List (List UInt8)} {vs : List Value} (h1 : vs.length = ls.length) (h3 : ∀ i, i < ls.length → BSl w (vs.getD i undef) (ls.getD i []) ∧ ∀ k, (vs.getD i undef).ownBlock = some k → B ≤ k ∧ k < w.heap.size ∧ v.ownBlock ≠ some k) : ∀ u ∈ vs, u.oneCell' = true := by
  intro u hu
  obtain ⟨i, hi, rfl⟩ := List.mem_iff_getElem.1 hu
  obtain ⟨ao, cap, e⟩ := (h3 i (by omega)).1.len
  have : vs.getD i undef = vs[i] := by simp [List.getElem?_eq_getElem hi]
  rw [← this, e]
  rfl
/-- Payloads onto payloads. -/
theorem append_lst {B C : Nat} {w : World} {u x : Value} {ls ms : List (List UInt8)} (hu : Lst B w u ls) (hx : Lst C w x ms) (hB : B ≤ w.heap.size) (hc : ∀ k, u.ownBlock = some k → k < C) (hn : ls.length + ms.length ≤ 100000) (ty : TypeId) :
    ∃ v' w', (Builtin.append_ #[22, 22] ty #[u, x]).run Try.prog w = .ok v' w' ∧ LSl w' v' (ls ++ ms) ∧ Keeps (fun k => u.ownBlock = some k) w w' := by
  obtain ⟨i0, hi, hz0, hz1, hz2⟩ := info_parts Try.infoBs
  obtain ⟨vs, a1, a2, a3⟩ := hu
  obtain ⟨us, b1, b2, b3⟩ := hx
  have hk : Try.prog.underlying 22 = some (.slice 30) := by have := elemBs; rw [elemBsEq] at this; exact this
  have hsrc : Src Try.prog 1 22 x ms.length us w := by
    rcases id b2.2 with ⟨rfl, e⟩ | ⟨g, cap, cur, rfl, k1, k2, k3, k4, k5, k6⟩
    · have : us = [] := List.eq_nil_of_length_eq_zero (by omega)
      rw [this, e]
      exact Src.ofNil w hk 0
    · exact Src.ofSlice w hk ⟨g, 0, none⟩ ms.length cap us (by omega) (fun j y hy => b2.cells (g := g) rfl j y hy) (lst_one b1 b3)
  obtain ⟨v', w', hr, ho, hgr, _⟩ := run_append_src (P := Try.prog) w B 22 22 ty 30 i0 _ 24 hk hi hz0 hz1 hz2 rfl u ls.length vs a2 x ms.length us hsrc (by unfold maxLen; omega) (by omega) hB
  refine ⟨v', w', hr, ?_, ⟨hgr.os, hgr.tape, hgr.output, hgr.size, fun k hk2 hn2 => hgr.block k hk2 (fun e => hn2 e.symm)⟩⟩
  have hkp : Keeps (fun k => u.ownBlock = some k) w w' := ⟨hgr.os, hgr.tape, hgr.output, hgr.size, fun k hk2 hn2 => hgr.block k hk2 (fun e => hn2 e.symm)⟩
  have each : ∀ j, j < ls.length + ms.length → BSl w' ((vs ++ us).getD j undef) ((ls ++ ms).getD j []) := fun j hj => by
    by_cases h : j < ls.length
    · have e1 : (vs ++ us).getD j undef = vs.getD j undef := by simp only [List.getD_eq_getElem?_getD]; rw [List.getElem?_append_left (by omega)]
      have e2 : (ls ++ ms).getD j [] = ls.getD j [] := by simp only [List.getD_eq_getElem?_getD]; rw [List.getElem?_append_left (by omega)]
      rw [e1, e2]
      exact (a3 j h).1.keep hkp (fun k e => ((a3 j h).2 k e).2.2)
    · have e1 : (vs ++ us).getD j undef = us.getD (j - ls.length) undef := by simp only [List.getD_eq_getElem?_getD]; rw [List.getElem?_append_right (by omega), a1]
      have e2 : (ls ++ ms).getD j [] = ms.getD (j - ls.length) [] := by simp only [List.getD_eq_getElem?_getD]; rw [List.getElem?_append_right (by omega)]
      rw [e1, e2]
      exact (b3 (j - ls.length) (by omega)).1.keep hkp (fun k e e2 => by have := ((b3 (j - ls.length) (by omega)).2 k e).1; have := hc k e2; omega)
  rcases id ho.2 with ⟨rfl, e⟩ | ⟨g, cap, cur, rfl, k1, k2, k3, k4, k5, k6⟩
  · refine ⟨none, 0, by rw [List.length_append, e], by rw [List.length_append]; omega, by simp [maxLen], fun j hj => by rw [List.length_append] at hj; omega⟩
  · refine ⟨some ⟨g, 0, none⟩, cap, by rw [List.length_append], by rw [List.length_append]; exact k3, k4, fun j hj => ⟨g, 0, (vs ++ us).getD j undef, rfl, ?_, each j (by rw [List.length_append] at hj; exact hj)⟩⟩
    rw [List.length_append] at hj
    have hc := ho.cells (g := g) rfl j ((vs ++ us).getD j undef) (by simp only [List.getD_eq_getElem?_getD]; rw [List.getElem?_eq_getElem (by rw [List.length_append]; omega)]; rfl)
    rw [add_lit'] at hc
    exact hc
theorem LSl.shape {w : World} {v : Value} {ps : List (List UInt8)} (h : LSl w v ps) : ∃ ao cap, v = .slice ao ps.length cap ∧ ps.length ≤ cap ∧ cap ≤ maxLen := by
  obtain ⟨ao, cap, e, h1, h2, _⟩ := h
  exact ⟨ao, cap, e, h1, h2⟩
end Go.Proofs.Ytnimdbjbkoggdaa
