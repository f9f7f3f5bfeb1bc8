/- What Decode answers. -/
import Derived.Test.YtnnhffjajbiicaaNgK
namespace Go.Proofs.Ytnnhffjajbiicaa
open Go Go.RowKit

theorem results_aggTmp {fn : Func} {p q : Tmp} {ty : TypeId} (h : fn.results = #[.cell p ty, .tmp q]) (tmps : Array Value) (P : Program) (w : World) (g : Nat) (cs : Array Value) (t : TypeId) (fr : Nat × Nat) {fs : Array Field} (v : Value) (hp : tmps.getD p undef = .pointer (some ⟨g, 0, none⟩)) (hq : tmps.getD q undef = v) (hg : w.heap[g]? = some (.cells cs t fr))
    (hu : P.underlying ty = some (.struct fs)) (hi : (P.info? ty).map (·.size) = some cs.size) :
    (results fn tmps).run P w = .ok (.tuple #[.agg cs, v]) w := by
  have hp' : tmps[p]?.getD undef = .pointer (some ⟨g, 0, none⟩) := by rw [← hp]; simp
  have hq' : tmps[q]?.getD undef = v := by rw [← hq]; simp
  simp only [results, h]
  simp [hp', hq', asAddr, run_loadVar_row w g t ty cs fr _ hg hu rfl hi]

theorem namesTo_get (bs : List UInt8) (p : Nat) (y : Int) (n k : Nat) (h : k < n) : (namesTo bs p y n).1.getD k [] = (nx bs (namesTo bs p y k).2.1 (namesTo bs p y k).2.2).1 := by
  induction n with
  | zero => omega
  | succ n ih =>
    simp only [namesTo, List.getD_eq_getElem?_getD]
    by_cases e : k = n
    · subst e
      rw [List.getElem?_append_right (by rw [namesTo_len]; exact Nat.le_refl _), namesTo_len]
      simp
    · rw [List.getElem?_append_left (by rw [namesTo_len]; omega), ← List.getD_eq_getElem?_getD]
      exact ih (by omega)
theorem decFrom_all (xs : List UInt8) (p : Nat) (y : Int) {n : List (List (List UInt8)) × Nat × Int} (e : n = namesTo xs (tk xs p y 16).2.1 (tk xs p y 16).2.2 10) {D : Dec} (hD : D = decFrom xs p y) :
    D.ck = (tk xs p y 16).1 ∧ D.ls = n.1 ∧ D.fo = (((val (tk xs n.2.1 n.2.2 1).1 : Nat) : Int) != 0) ∧ D.p = (tk xs (tk xs n.2.1 n.2.2 1).2.1 (tk xs n.2.1 n.2.2 1).2.2 4).2.1 ∧ D.y = (tk xs (tk xs n.2.1 n.2.2 1).2.1 (tk xs n.2.1 n.2.2 1).2.2 4).2.2 := by
  subst e hD
  simp only [decFrom, and_self]
theorem noL_len : noL.length = 12 := rfl
theorem size_noL : (Try.prog.info? 38).map (·.size) = some noL.toArray.size := sizeL
theorem noL_one : noL.toArray.all (·.oneCell') = true := by decide +kernel
theorem ten_getD {α : Type} (x d : α) {i : Nat} (h : i < 10) : (List.replicate 10 x).getD i d = x := by
  rw [List.getD_eq_getElem?_getD, List.getElem?_replicate, if_pos h]; rfl
theorem lrd_none (w : World) : LRd w (.slice none 0 0) (List.replicate 10 (.slice none 0 0)) [] (List.replicate 10 []) := by
  refine ⟨bsl_none w, rfl, rfl, fun i hi => ?_⟩
  rw [ten_getD _ _ hi, ten_getD _ _ hi]
  exact ssl_none w
theorem WR.box {w : World} {a : Nat} {g : Option Nat} {bs : List UInt8} {p : Nat} {why : Int} (h : WR w a g bs p why) (B i : Nat) (u : Value) (ha : B < a) (hg : ∀ k, g = some k → B < k) : WR (w.setCell ⟨B, i, none⟩ u) a g bs p why :=
  h.keep (keeps_set w B i u) (fun e => by omega) (fun k e e2 => by have := hg k e; omega)

/-- What Decode answers of these bytes. -/
def DecPost (xs : List UInt8) (w : World) (e : Ending) (w' : World) : Prop :=
  ∃ ck nm, e = .returned (.tuple #[.agg (lcells ck nm (decF xs)).toArray, .int .i64 (decE xs)]) ∧ LRd w' ck nm (decC xs) (decN xs) ∧ (∀ k, ck.ownBlock = some k → w.heap.size ≤ k) ∧ (∀ i, i < 10 → ∀ k, (nm.getD i undef).ownBlock = some k → w.heap.size ≤ k) ∧ Below w.heap.size w w'
theorem decPost_no {xs : List UInt8} {w w' : World} (h : decOk xs = false) (hb : Below w.heap.size w w') : DecPost xs w (.returned (.tuple #[.agg noL.toArray, .int .i64 12])) w' := by
  refine ⟨.slice none 0 0, List.replicate 10 (.slice none 0 0), ?_, ?_, (fun k e => by cases e), (fun i hi k e => ?_), hb⟩
  · simp only [decF, decE, h, Bool.false_eq_true, if_false]
    rfl
  · simp only [decC, decN, h, Bool.false_eq_true, if_false]
    exact lrd_none w'
  · rw [ten_getD _ _ hi] at e
    cases e
theorem decPost_yes {xs : List UInt8} {w w' : World} {ck : Value} {nm : List Value} (h : decOk xs = true) (hr : LRd w' ck nm (dec xs).ck ((dec xs).ls.map texts)) (hc : ∀ k, ck.ownBlock = some k → w.heap.size ≤ k) (hn : ∀ i, i < 10 → ∀ k, (nm.getD i undef).ownBlock = some k → w.heap.size ≤ k) (hb : Below w.heap.size w w') : DecPost xs w (.returned (.tuple #[.agg (lcells ck nm (dec xs).fo).toArray, .int .i64 0])) w' := by
  refine ⟨ck, nm, ?_, ?_, hc, hn, hb⟩
  · simp only [decF, decE, h, if_true]
  · simp only [decC, decN, h, if_true]
    exact hr

end Go.Proofs.Ytnnhffjajbiicaa
