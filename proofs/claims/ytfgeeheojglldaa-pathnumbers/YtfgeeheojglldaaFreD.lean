/- The law of FreC where rows made in the region are appended to in place: each value's block, and who uses it up. -/
import Derived.Test.YtfgeeheojglldaaFreC
import Derived.Test.YtfgeeheojglldaaFreB
import Derived.Test.YtfgeeheojglldaaZer
namespace Go.Proofs.Ytfgeeheojglldaa
open Go Go.RowKit

structure FactB where
  holds : Value → World → Prop
  blk : Value → Option Nat
  keep : ∀ (S : Nat → Prop) v x y, Keeps S x y → (∀ k, blk v = some k → ¬ S k) → holds v x → holds v y
  lt : ∀ v x k, holds v x → blk v = some k → k < x.heap.size
def FactB.any : FactB := ⟨fun _ _ => True, fun _ => none, fun _ _ _ _ _ _ _ => trivial, fun _ _ _ _ h => by cases h⟩
def FactB.val (x : Value) : FactB := ⟨fun v _ => v = x, fun _ => none, fun _ _ _ _ _ _ h => h, fun _ _ _ _ h => by cases h⟩
def FactB.bsl (xs : List UInt8) : FactB := ⟨fun v w => BSl w v xs, fun v => if xs = [] then none else v.ownBlock, fun S v x y hk hn h => by
    by_cases hx : xs = []
    · subst hx
      obtain ⟨ao, cap, e, h1, h2, h3, _⟩ := h
      exact ⟨ao, cap, e, h1, h2, h3, fun ad _ hne => absurd rfl hne⟩
    · rw [if_neg hx] at hn
      exact h.keep hk hn,
  fun v x k h hb => by
    by_cases hx : xs = []
    · rw [if_pos hx] at hb; cases hb
    · rw [if_neg hx] at hb
      obtain ⟨b, o, cap, rfl, hl⟩ := h.nonnil hx
      cases hb
      exact hl⟩
/-- A row of one's own, from base on, that is not nil. -/
def FactB.own (base : Nat) (xs : List UInt8) : FactB := ⟨fun v w => v ≠ .slice none 0 0 ∧ w.ownsRow base 5 1 v xs.length (bcells xs), fun v => v.ownBlock,
  fun _ _ _ _ hk hn h => ⟨h.1, hk.row h.2 hn⟩, fun _ _ k h hb => (h.2.lt k hb).2⟩

def live (cons : List (Option Nat)) (l : Nat → Bool) (i : Nat) : Prop := ∀ c, cons.getD i none = some c → l c = false
structure InvR (w : World) (fs : List FactB) (rt : List Nat) (cons : List (Option Nat)) (l : Nat → Bool) (vs : Nat → Value) (w1 : World) : Prop where
  ex : Below w.heap.size w w1
  hold : ∀ i, l i = true → live cons l i → (fs.getD i .any).holds (vs i) w1
  sep : ∀ i j, l i = true → l j = true → live cons l i → live cons l j → rt.getD i 0 ≠ rt.getD j 0 → ∀ k, (fs.getD i .any).blk (vs i) = some k → (fs.getD j .any).blk (vs j) ≠ some k
section
variable {w w1 w2 : World} {fs : List FactB} {rt : List Nat} {cons : List (Option Nat)} {l : Nat → Bool} {vs : Nat → Value} {i : Nat} {v : Value}
theorem live_upd {m : Nat} (h : live cons (upd l i true) m) : live cons l m := fun c hc => by
  have := h c hc
  unfold upd at this
  split at this
  · cases this
  · exact this
theorem InvR.plain (h : InvR w fs rt cons l vs w1) (he : Ex w1 w2) (hv : (fs.getD i .any).holds v w2)
    (hb : ∀ k, (fs.getD i .any).blk v = some k → w1.heap.size ≤ k ∨ ∃ j, l j = true ∧ live cons l j ∧ rt.getD j 0 = rt.getD i 0 ∧ (fs.getD j .any).blk (vs j) = some k) : InvR w fs rt cons (upd l i true) (upd vs i v) w2 := by
  have apart : ∀ j, l j = true → live cons l j → rt.getD i 0 ≠ rt.getD j 0 → ∀ k, (fs.getD i .any).blk v = some k → (fs.getD j .any).blk (vs j) ≠ some k := fun j hj hlj hr k hk hk2 => by
    rcases hb k hk with h1 | ⟨m, hm, hlm, hrm, hbm⟩
    · have := (fs.getD j .any).lt _ _ _ (h.hold j hj hlj) hk2
      omega
    · exact h.sep m j hm hj hlm hlj (by rw [hrm]; exact hr) k hbm hk2
  refine ⟨h.ex.trans (Below.mono he h.ex.size), fun m hm hlm => ?_, fun m j hm hj hlm hlj hr k hk hk2 => ?_⟩
  · by_cases e : m = i
    · subst e
      simpa [upd] using hv
    · have h1 := h.hold m (by simpa [upd, e] using hm) (live_upd hlm)
      simpa [upd, e] using (fs.getD m .any).keep (fun _ => False) _ _ _ (Keeps.ofFresh he) (fun _ _ h => h) h1
  · have el := live_upd hlm
    have el2 := live_upd hlj
    by_cases e : m = i
    · by_cases e2 : j = i
      · subst e e2; exact hr rfl
      · subst e
        simp only [upd, e2, if_true, if_false] at hm hj hk hk2
        exact apart j hj el2 hr k hk hk2
    · by_cases e2 : j = i
      · subst e2
        simp only [upd, e, if_true, if_false] at hm hj hk hk2
        exact apart m hm el (Ne.symm hr) k hk2 hk
      · simp only [upd, e, e2, if_false] at hm hj hk hk2
        exact h.sep m j hm hj el el2 hr k hk hk2
theorem InvR.inplace {j0 : Nat} (h : InvR w fs rt cons l vs w1) (hj0 : l j0 = true) (hl0 : live cons l j0) (hr0 : rt.getD j0 0 = rt.getD i 0)
    (hdead : ∀ m, m ≠ i → l m = true → rt.getD m 0 = rt.getD i 0 → ¬ live cons (upd l i true) m)
    (hk : Keeps (fun k => (fs.getD j0 .any).blk (vs j0) = some k) w1 w2) (hbase : ∀ k, (fs.getD j0 .any).blk (vs j0) = some k → w.heap.size ≤ k) (hv : (fs.getD i .any).holds v w2)
    (hb : ∀ k, (fs.getD i .any).blk v = some k → w1.heap.size ≤ k ∨ (fs.getD j0 .any).blk (vs j0) = some k) : InvR w fs rt cons (upd l i true) (upd vs i v) w2 := by
  have apart : ∀ j, l j = true → live cons l j → rt.getD i 0 ≠ rt.getD j 0 → ∀ k, (fs.getD i .any).blk v = some k → (fs.getD j .any).blk (vs j) ≠ some k := fun j hj hlj hr k hk hk2 => by
    rcases hb k hk with h1 | hbm
    · have := (fs.getD j .any).lt _ _ _ (h.hold j hj hlj) hk2
      omega
    · exact h.sep j0 j hj0 hj hl0 hlj (by rw [hr0]; exact hr) k hbm hk2
  refine ⟨h.ex.trans (hk.below h.ex.size hbase), fun m hm hlm => ?_, fun m j hm hj hlm hlj hr k hk hk2 => ?_⟩
  · by_cases e : m = i
    · subst e
      simpa [upd] using hv
    · have hm' : l m = true := by simpa [upd, e] using hm
      have h1 := h.hold m hm' (live_upd hlm)
      have hrm : rt.getD m 0 ≠ rt.getD i 0 := fun e3 => hdead m e hm' e3 hlm
      have := (fs.getD m .any).keep _ _ _ _ hk (fun k hk1 hk2 => h.sep m j0 hm' hj0 (live_upd hlm) hl0 (by rw [hr0]; exact hrm) k hk1 hk2) h1
      simpa [upd, e] using this
  · have el := live_upd hlm
    have el2 := live_upd hlj
    by_cases e : m = i
    · by_cases e2 : j = i
      · subst e e2; exact hr rfl
      · subst e
        simp only [upd, e2, if_true, if_false] at hm hj hk hk2
        exact apart j hj el2 hr k hk hk2
    · by_cases e2 : j = i
      · subst e2
        simp only [upd, e, if_true, if_false] at hm hj hk hk2
        exact apart m hm el (Ne.symm hr) k hk2 hk
      · simp only [upd, e, e2, if_false] at hm hj hk hk2
        exact h.sep m j hm hj el el2 hr k hk hk2
end

theorem run_append_zeros2 (w : World) (base g n cap m : Nat) (xs : List UInt8) (ty : TypeId) (hown : w.ownsRow base 5 1 (.slice (some ⟨g, 0, none⟩) n cap) n (bcells xs)) (hm : 0 < m) (hnm : n + m ≤ 1000000) (hbase : base ≤ w.heap.size) :
    ∃ v' w', (Builtin.append_ #[22, 3] ty #[.slice (some ⟨g, 0, none⟩) n cap, .int .i64 (m : Int)]).run Try.prog w = .ok v' w' ∧ w'.ownsRow base 5 1 v' (n + m) (bcells (xs ++ List.replicate m 0)) ∧ w.grownBy w' (some g) ∧ (v'.ownBlock = some g ∨ v'.ownBlock = some w.heap.size) := by
  obtain ⟨i, hi, hz, hz1, hz2⟩ := info_parts Try.infoU8
  have hl : xs.length = n := by have := hown.1; rw [bcells_length] at this; omega
  have hlen : (bcells (xs ++ List.replicate m 0)).length = (n + m) * 1 := by rw [bcells_length, List.length_append, List.length_replicate]; omega
  have hw : IntKind.i64.wrap (m : Int) = m := by rw [IntKind.wrap_i64]; omega
  have hneg : ¬ ((m : Int) < 0) := by omega
  have hm0 : ¬ m = 0 := by omega
  have h48i : ¬ (281474976710656 < (m : Int)) := by omega
  rcases hown.2 with ⟨h, _⟩ | ⟨g', cap', cur, e, hbg, hg, hnc, hcm, hcs, htake⟩
  · cases h
  · cases e
    by_cases hroom : n + m ≤ cap
    · have hfit : n * 1 + (bcells (List.replicate m 0)).length ≤ cur.size := by rw [bcells_length, List.length_replicate, hcs]; omega
      have hst := run_storeCells_at Try.prog g (n * 1) 5 (bcells (List.replicate m 0)) 0 cur w hg (by simpa using hfit) bcells_one
      simp only [Nat.add_zero, Nat.mul_one] at hst
      refine ⟨.slice (some ⟨g, 0, none⟩) (n + m) cap, w.setRow g (cur.toList.take n ++ bcells (List.replicate m 0) ++ cur.toList.drop (n + (bcells (List.replicate m 0)).length)).toArray, ?_, ⟨hlen, .inr ⟨g, cap, _, rfl, hbg, setRow_heap w g cur _ _ _ hg, hroom, hcm, ?_, ?_⟩⟩, ⟨rfl, rfl, rfl, by simp, fun k _ hk => setRow_other w g k _ (fun e => hk (by rw [e]))⟩, .inl rfl⟩
      · simp [Builtin.append_, run_underlying Try.underlying22, run_underlying Try.underlying3, sizeOf, typeInfo, zeroValue, hi, hz, hz1, hz2, asInt, asIntOf, hw, hneg, hm0, h48i, hroom, Addr.add_lit]
        rw [show (Value.int IntKind.u8 0).cells = #[Value.int .u8 0] from rfl, zeroCells_bytes, hst]
        simp [List.append_assoc]
      · simp only [List.size_toArray, List.length_append, List.length_take, List.length_drop, Array.length_toList, bcells_length, List.length_replicate]
        omega
      · simp only [Nat.mul_one] at htake ⊢
        rw [htake, bcells_append]
        have : (bcells xs ++ bcells (List.replicate m 0)).length = n + m := by simp [bcells_length, hl]
        rw [← this]
        exact List.take_left
    · have holds : ∀ j u, (bcells xs)[j]? = some u → w.cell? ((⟨g, 0, none⟩ : Addr).add j) = some u := hown.cells (g := g) rfl
      have hold := run_firstCells_some (P := Try.prog) w.drew 1 n ⟨g, 0, none⟩ n cap (bcells xs) hown.1 (by simpa using holds)
      have hfit : Builtin.nextslicecap (n + m) cap * 1 ≤ 281474976710656 := growslice_fits (by omega) (by omega)
      have h48' : ¬ (281474976710656 < Builtin.nextslicecap (n + m) cap) := by omega
      have h63' : ¬ (9223372036854775807 < ((n : Int) + (m : Int))) := by omega
      have hge := grownCap_ge w (n + m) cap 5
      have hcm : grownCap w (n + m) cap 5 ≤ maxLen := grownCap_le_maxLen w (n + m) cap _ (by unfold maxLen; omega)
      refine ⟨.slice (some ⟨w.heap.size, 0, none⟩) (n + m) (grownCap w (n + m) cap 5), w.drew.alloc (.cells ((bcells (xs ++ List.replicate m 0)).toArray ++ Builtin.zeroCells #[Value.int .u8 0] (grownCap w (n + m) cap 5 - (n + m))) 5), ?_, ⟨hlen, .inr ⟨w.heap.size, _, _, rfl, hbase, heap_alloc_new w.drew _, hge, hcm, ?_, ?_⟩⟩, ⟨rfl, rfl, rfl, by simp, fun k hk _ => Below.heap_alloc w.drew _ k hk⟩, .inr rfl⟩
      · simp [Builtin.append_, run_underlying Try.underlying22, run_underlying Try.underlying3, sizeOf, typeInfo, zeroValue, hi, hz, hz1, hz2, asInt, asIntOf, hw, hneg, hm0, h48i, hroom, h48', h63', Question.forced, hold, newRow, grownCap]
        rw [show (Value.int IntKind.u8 0).cells = #[Value.int .u8 0] from rfl, bcells_append, ← zeroCells_bytes m, ← Array.append_assoc]
        congr 2
        congr 1
        apply Array.ext'
        simp
      · simp only [Array.size_append, List.size_toArray, size_zeroCells, hlen]
        simp
        omega
      · simp only [Array.toList_append]
        rw [← hlen]
        exact List.take_left

/-- What operation i of a region must show. -/
def ReqR (l : List Oper) (fs : List FactB) (rt : List Nat) (cons : List (Option Nat)) (a : Act) (w : World) (i : Nat) (o : Oper) : Prop :=
  ∀ L vs w1, InvR w fs rt cons L vs w1 → L i = false → (∀ (m : Nat) (om : Oper), l[m]? = some om → L m = true → ∀ j ∈ edgesOf om, L j = true) → (∀ j, j ∈ edgesOf o → L j = true) →
    StepG Try.prog l.toArray o (actsTo l.toArray a (fun _ => true) vs l.length) w1 fun v w2 => InvR w fs rt cons (upd L i true) (upd vs i v) w2
theorem region_rows {id : Nat} {l : List Oper} {Q : Exit → Act → World → Prop} {a : Act} {w : World} (fs : List FactB) (rt : List Nat) (cons : List (Option Nat)) (hk : freeOk l.toArray = true)
    (hU : eachF (ReqR l fs rt cons a w) 0 l)
    (hrest : ∀ vs w1, Ex w w1 → (∀ i, i < l.length → cons.getD i none = none → (fs.getD i .any).holds (vs i) w1) → Q .normal (actsTo l.toArray a (fun _ => true) vs l.length) w1) :
    (Code.region id l.toArray true).wp Try.prog Q a w := by
  refine region_inv (by kernel_rfl) hk (InvR w fs rt cons) ⟨Ex.drew w, (fun _ h => by cases h), (fun _ _ h => by cases h)⟩ (fun i o ho L vs w1 hI hL hc he => ?_) (fun L vs w1 hall hI => ?_)
  · have := eachF_at l 0 hU i o (by simpa using ho) L vs w1 hI (by rw [Nat.zero_add]; exact hL) (fun m om hm => hc m om (by simpa using hm)) he
    rw [Nat.zero_add] at this
    exact this
  · exact hrest vs w1 hI.ex (fun i hi hn => hI.hold i (hall i (by simpa using hi)) (fun c hc => by rw [hn] at hc; cases hc))
theorem StepG.mono {P : Program} {ops : Array Oper} {o : Oper} {b : Act} {w : World} {Φ Ψ : Value → World → Prop} (h : StepG P ops o b w Φ) (hm : ∀ v w', Φ v w' → Ψ v w') : StepG P ops o b w Ψ := by
  refine ⟨fun e => ⟨?_⟩, fun e => hm _ _ (h.2 e)⟩
  have h1 := (h.1 e).out
  unfold GivesM at h1 ⊢
  split at h1
  · exact hm _ _ h1
  · exact hm _ _ h1
  · exact h1.mono fun e w'' ⟨v, h2, h3⟩ => ⟨v, h2, hm _ _ h3⟩
  · exact h1
theorem rows_cons {l : List Oper} {fs : List FactB} {rt : List Nat} {cons : List (Option Nat)} {a : Act} {w : World} {i : Nat} {o : Oper} {r : List Oper} (f : FactB) (hf : fs.getD i .any = f)
    (h : ∀ vs w1, Ex w w1 → (∀ j (f : FactB), (edgesOf o).contains j = true → fs.getD j .any = f → (cons.getD j none).all (· == i) = true → f.holds (vs j) w1) → StepG Try.prog l.toArray o (actsTo l.toArray a (fun _ => true) vs l.length) w1 fun v w2 => Ex w1 w2 ∧ f.holds v w2 ∧ ∀ k, f.blk v = some k → w1.heap.size ≤ k)
    (t : eachF (ReqR l fs rt cons a w) (i + 1) r) : eachF (ReqR l fs rt cons a w) i (o :: r) := by
  refine ⟨fun L vs w1 hI hL hc he => ?_, t⟩
  refine (h vs w1 hI.ex fun j f h2 h3 h4 => ?_).mono fun v w2 ⟨h5, h6, h7⟩ => hI.plain h5 (by rw [hf]; exact h6) (fun k hk => .inl (h7 k (by rw [← hf]; exact hk)))
  have := hI.hold j (he j (by simpa using h2)) (fun c hcc => by rw [hcc] at h4; simp at h4; rw [h4]; exact hL)
  rwa [h3] at this
def deadOk (l : List Oper) (rt : List Nat) (cons : List (Option Nat)) (i : Nat) (o : Oper) : Bool :=
  rt.getD i 0 != 0 && (List.range rt.length).all fun m => m == i || rt.getD m 0 != rt.getD i 0 || (match cons.getD m none with | some c => c == i || (edgesOf o).contains c | none => false) || (match l[m]? with | some om => (edgesOf om).contains i | none => false)
theorem rows_app {l : List Oper} {fs : List FactB} {rt : List Nat} {cons : List (Option Nat)} {a : Act} {w : World} {i : Nat} {o : Oper} {r : List Oper} (j0 : Nat) (xs ys : List UInt8) (hf0 : fs.getD j0 .any = .own w.heap.size xs) (hf : fs.getD i .any = .own w.heap.size ys)
    (hj0 : (edgesOf o).contains j0 = true) (hc0 : cons.getD j0 none = some i) (hr0 : rt.getD j0 0 = rt.getD i 0) (hd : deadOk l rt cons i o = true)
    (h : ∀ vs w1, Ex w w1 → (∀ j (f : FactB), (edgesOf o).contains j = true → fs.getD j .any = f → (cons.getD j none).all (· == i) = true → f.holds (vs j) w1) → StepG Try.prog l.toArray o (actsTo l.toArray a (fun _ => true) vs l.length) w1 fun v w2 => w1.grownBy w2 (vs j0).ownBlock ∧ (FactB.own w.heap.size ys).holds v w2 ∧ (v.ownBlock = (vs j0).ownBlock ∨ v.ownBlock = some w1.heap.size))
    (t : eachF (ReqR l fs rt cons a w) (i + 1) r) : eachF (ReqR l fs rt cons a w) i (o :: r) := by
  refine ⟨fun L vs w1 hI hL hc he => ?_, t⟩
  have hLj : L j0 = true := he j0 (by simpa using hj0)
  have hlj : live cons L j0 := fun c hcc => by rw [hc0] at hcc; cases hcc; exact hL
  have h0 := hI.hold j0 hLj hlj
  rw [hf0] at h0
  refine (h vs w1 hI.ex fun j f h2 h3 h4 => ?_).mono fun v w2 ⟨h5, h6, h7⟩ => ?_
  · have := hI.hold j (he j (by simpa using h2)) (fun c hcc => by rw [hcc] at h4; simp at h4; rw [h4]; exact hL)
    rwa [h3] at this
  · unfold deadOk at hd
    rw [Bool.and_eq_true, List.all_eq_true] at hd
    refine hI.inplace (j0 := j0) hLj hlj hr0 (fun m hm hLm hrm hlive => ?_) ?_ ?_ (by rw [hf]; exact h6) ?_
    · have hlt : m < rt.length := by
        refine Nat.lt_of_not_le fun hn => ?_
        have h8 : rt.getD m 0 = 0 := by simp [List.getD_eq_getElem?_getD, List.getElem?_eq_none hn]
        rw [h8] at hrm
        have := hd.1
        rw [← hrm] at this
        simp at this
      have h8 := hd.2 m (List.mem_range.2 hlt)
      simp only [Bool.or_eq_true, beq_iff_eq, bne_iff_ne, ne_eq] at h8
      rcases h8 with ((h8 | h8) | h8) | h8
      · exact hm h8
      · exact h8 hrm
      · split at h8
        · rename_i c hcm
          have h9 := hlive c hcm
          simp only [Bool.or_eq_true, beq_iff_eq] at h8
          rcases h8 with h8 | h8
          · rw [h8] at h9; simp [upd] at h9
          · have := he c (by simpa using h8)
            unfold upd at h9
            split at h9
            · cases h9
            · rw [this] at h9; cases h9
        · cases h8
      · split at h8
        · rename_i om hom
          have := hc m om hom hLm i (by simpa using h8)
          rw [this] at hL
          cases hL
        · cases h8
    · rw [hf0]
      exact Keeps.ofGrown h5 fun k e => e
    · rw [hf0]
      exact fun k hk => (h0.2.lt k hk).1
    · rw [hf, hf0]
      intro k hk
      rcases h7 with h7 | h7
      · exact .inr (h7.symm.trans hk)
      · have hk' : v.ownBlock = some k := hk
        rw [h7] at hk'
        cases hk'
        exact .inl (Nat.le_refl _)
theorem rows_nil {l : List Oper} {fs : List FactB} {rt : List Nat} {cons : List (Option Nat)} {a : Act} {w : World} {i : Nat} : eachF (ReqR l fs rt cons a w) i [] := trivial
theorem toldR_at {fs : List FactB} {vs : Nat → Value} {w : World} {n : Nat} {cons : List (Option Nat)} (h : ∀ i, i < n → cons.getD i none = none → (fs.getD i .any).holds (vs i) w) (i : Nat) (f : FactB) (hi : i < n) (hc : cons.getD i none = none) (hf : fs.getD i .any = f) : f.holds (vs i) w := by
  have := h i hi hc
  rwa [hf] at this
/-- What a value that is no slice of the region's own gives. -/
theorem same_val {w : World} {x : Value} : Ex w w ∧ (FactB.val x).holds x w ∧ ∀ k, (FactB.val x).blk x = some k → w.heap.size ≤ k := ⟨Ex.refl w, rfl, fun _ h => by cases h⟩
theorem toldR_bytes {xs : List UInt8} {w : World} {f : FuncId} {args : Array Value} (h : Calls Try.prog f args w fun e w' => Fresh w xs e w') : Calls Try.prog f args w fun e w' => ∃ v, e = .returned v ∧ Ex w w' ∧ (FactB.bsl xs).holds v w' ∧ ∀ k, (FactB.bsl xs).blk v = some k → w.heap.size ≤ k :=
  h.mono fun _ _ ⟨v, h1, h2, h3⟩ => ⟨v, h1, h3, BSl.ofRow h2, fun k hk => by
    have hk' : (if xs = [] then none else v.ownBlock) = some k := hk
    split at hk'
    · cases hk'
    · exact (h2.lt k hk').1⟩
theorem toldR_val {w : World} {x : Value} {f : FuncId} {args : Array Value} (h : Calls Try.prog f args w fun e w' => e = .returned x ∧ Below w.heap.size w w') : Calls Try.prog f args w fun e w' => ∃ v, e = .returned v ∧ Ex w w' ∧ (FactB.val x).holds v w' ∧ ∀ k, (FactB.val x).blk v = some k → w.heap.size ≤ k :=
  h.mono fun _ _ ⟨h1, h2⟩ => ⟨_, h1, h2, rfl, fun _ h => by cases h⟩
section
variable {o : Oper} {ρ : Operand → Value} {w w0 : World} {x y z : Operand} {v vx vy vz : Value}
theorem gives_build0 (ho : o.op = .buildSlice 22 0 #[]) (he : Ex w0 w) : Gives Try.prog o ρ w fun v w2 => Ex w w2 ∧ (FactB.own w0.heap.size []).holds v w2 ∧ ∀ k, (FactB.own w0.heap.size []).blk v = some k → w.heap.size ≤ k := by
  refine Gives.value (w' := w.alloc (.cells #[] 5)) (v := .slice (some ⟨w.heap.size, 0, none⟩) 0 0) ?_ ⟨Ex.alloc w _, ⟨by simp, ?_⟩, fun k hk => ?_⟩
  · unfold execOp
    simp only [ho]
    obtain ⟨i0, hi, hz0, hz1, hz2⟩ := info_parts Try.infoU8
    simp [Instr.buildSlice, run_underlying Try.underlying22, sizeOf, typeInfo, hi, newRow, Instr.fill]
    congr 2
    exact Array.eq_empty_of_size_eq_zero (by simp)
  · exact World.ownsRow_lit w #[] 0 he.size (by simp [maxLen]) rfl
  · have hk' : (Value.slice (some ⟨w.heap.size, 0, none⟩) 0 0).ownBlock = some k := hk
    cases hk'
    exact Nat.le_refl _
theorem gives_appO {tx : TypeId} {xs news : List UInt8} (ho : o.op = .call { callee := .builtin .append, args := #[x, y], argTypes := #[22, tx] }) (hx : ρ x = vx) (hy : ρ y = vy) (he : Ex w0 w) (h : (FactB.own w0.heap.size xs).holds vx w) (hs : Src Try.prog 1 tx vy news.length (bcells news) w) (hl : xs.length + news.length ≤ 140737488355328) :
    Gives Try.prog o ρ w fun v w2 => w.grownBy w2 vx.ownBlock ∧ (FactB.own w0.heap.size (xs ++ news)).holds v w2 ∧ (v.ownBlock = vx.ownBlock ∨ v.ownBlock = some w.heap.size) := by
  obtain ⟨i0, hi, hz0, hz1, hz2⟩ := info_parts Try.infoU8
  obtain ⟨v', w', hr, h2, h3, h4, h5⟩ := run_append_src (P := Try.prog) w w0.heap.size 22 tx o.type 5 i0 _ 1 Try.underlying22 hi hz0 hz1 hz2 rfl vx _ _ h.2 vy _ _ hs (by unfold maxLen; omega) (by omega) he.size
  refine Gives.value (w' := w') (v := v') ?_ ⟨h3, ⟨fun e => h.1 (h4.1 e).1, ?_⟩, h5⟩
  · unfold execOp
    simp only [ho, resolve, invoke, builtin, Sem.run_bind, Sem.run_pure, Result.andThen_ok, List.map_toArray, List.map_cons, List.map_nil, hx, hy, hr]
  · rw [List.length_append, bcells_append]
    exact h2
theorem gives_zerosO {xs : List UInt8} {m : Nat} (ho : o.op = .call { callee := .builtin .append, args := #[x, y], argTypes := #[22, 3] }) (hx : ρ x = vx) (hy : ρ y = .int .i64 m) (he : Ex w0 w) (h : (FactB.own w0.heap.size xs).holds vx w) (hl : xs.length + m ≤ 1000000) :
    Gives Try.prog o ρ w fun v w2 => w.grownBy w2 vx.ownBlock ∧ (FactB.own w0.heap.size (xs ++ List.replicate m 0)).holds v w2 ∧ (v.ownBlock = vx.ownBlock ∨ v.ownBlock = some w.heap.size) := by
  obtain ⟨g, cap, rfl⟩ : ∃ g cap, vx = .slice (some ⟨g, 0, none⟩) xs.length cap := by
    rcases h.2.2 with ⟨e, _⟩ | ⟨g, cap, _, e, _⟩
    · exact absurd e h.1
    · exact ⟨g, cap, e⟩
  have hown : w.ownsRow w0.heap.size 5 1 (.slice (some ⟨g, 0, none⟩) xs.length cap) xs.length (bcells xs) := h.2
  obtain ⟨v', w', hr, h2, h3, h4⟩ : ∃ v' w', (Builtin.append_ #[22, 3] o.type #[.slice (some ⟨g, 0, none⟩) xs.length cap, .int .i64 (m : Int)]).run Try.prog w = .ok v' w' ∧ w'.ownsRow w0.heap.size 5 1 v' (xs.length + m) (bcells (xs ++ List.replicate m 0)) ∧ w.grownBy w' (some g) ∧ (v'.ownBlock = some g ∨ v'.ownBlock = some w.heap.size) := by
    by_cases hm : m = 0
    · subst hm
      obtain ⟨i, hi, hz, hz1, hz2⟩ := info_parts Try.infoU8
      have hnc : xs.length ≤ cap := by
        rcases hown.2 with ⟨e, _⟩ | ⟨g', cap', cur, e, _, _, hnc, _⟩
        · cases e
        · cases e; exact hnc
      refine ⟨.slice (some ⟨g, 0, none⟩) xs.length cap, w, ?_, by simpa using hown, World.grownBy.refl w _, .inl rfl⟩
      have hw : IntKind.i64.wrap 0 = 0 := rfl
      simp [Builtin.append_, run_underlying Try.underlying22, run_underlying Try.underlying3, sizeOf, typeInfo, zeroValue, hi, hz, hz2, asInt, asIntOf, hw, hnc, storeCells]
      try rfl
    · exact run_append_zeros2 w w0.heap.size g xs.length cap m xs o.type hown (by omega) hl he.size
  refine Gives.value (w' := w') (v := v') ?_ ⟨h3, ⟨?_, ?_⟩, h4⟩
  · unfold execOp
    simp only [ho, resolve, invoke, builtin, Sem.run_bind, Sem.run_pure, Result.andThen_ok, List.map_toArray, List.map_cons, List.map_nil, hx, hy, hr]
  · rintro rfl
    rcases h4 with h4 | h4 <;> cases h4
  · rw [List.length_append, List.length_replicate]
    exact h2
end
end Go.Proofs.Ytfgeeheojglldaa
