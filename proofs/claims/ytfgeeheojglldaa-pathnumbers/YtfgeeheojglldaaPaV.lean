/- Regions that draw their order and append to rows of texts (over FreD); parts of a list. -/
import Derived.Test.YtfgeeheojglldaaPaS
import Derived.Test.YtfgeeheojglldaaFreD
import Derived.Great.BuildSlice
namespace Go.Proofs.Ytfgeeheojglldaa
open Go Go.RowKit

theorem SSl.cut {w : World} {ao : Option Addr} {n cap l h : Nat} {ss : List ByteArray} (hs : SSl w (.slice ao n cap) ss) (hl : l ≤ h) (hh : h ≤ ss.length) : SSl w (sliced ao l h cap 1) ((ss.take h).drop l) := by
  obtain ⟨ao', cap', e, h1, h2, h3, h4⟩ := hs
  cases e
  have hlen : ((ss.take h).drop l).length = h - l := by simp; omega
  unfold sliced
  refine ⟨_, cap - l, by rw [hlen], by rw [hlen]; omega, by omega, ?_, ?_⟩
  · intro e
    split at e
    · rename_i hc
      subst e
      obtain ⟨rfl, rfl⟩ := h3 rfl
      exact ⟨by simp, by omega⟩
    · rename_i hc
      cases ao with
      | none => obtain ⟨rfl, rfl⟩ := h3 rfl; simp at hh; omega
      | some ad => simp at e
  · intro ad e hne
    have hlt : l < h := by
      refine Nat.lt_of_not_le fun hn => hne ?_
      exact List.eq_nil_of_length_eq_zero (by rw [hlen]; omega)
    rw [if_neg (by omega)] at e
    cases ao with
    | none => simp at e
    | some ad0 =>
      obtain ⟨b, off, rfl, hc⟩ := h4 ad0 rfl (by rintro rfl; simp at hh; omega)
      simp only [Option.map_some, Option.some.injEq, Nat.mul_one] at e
      rw [add_lit'] at e
      refine ⟨b, off + l, e.symm, fun j x hx => ?_⟩
      rw [List.getElem?_drop, List.getElem?_take] at hx
      split at hx
      · have := hc (l + j) x hx
        rwa [← Nat.add_assoc] at this
      · cases hx

/-- A literal list of texts, in a block of its own. -/
def FactB.ssl (ss : List ByteArray) : FactB := ⟨fun v w => ∃ g, v = .slice (some ⟨g, 0, none⟩) ss.length ss.length ∧ g < w.heap.size ∧ SSl w v ss, fun v => v.ownBlock,
  fun _ _ _ _ hk hn ⟨g, e, h1, h2⟩ => ⟨g, e, Nat.lt_of_lt_of_le h1 hk.size, h2.keep hk (fun k hk => hn k hk)⟩, fun _ _ k ⟨g, e, h1, _⟩ hb => by subst e; cases hb; exact h1⟩
/-- A place where a text stands. -/
def FactB.ptr (x : ByteArray) : FactB := ⟨fun v w => ∃ g i, v = .pointer (some ⟨g, i, none⟩) ∧ w.cell? ⟨g, i, none⟩ = some (.string x), fun v => match v with | .pointer (some a) => some a.block | _ => none,
  fun _ _ _ _ hk hn ⟨g, i, e, h⟩ => ⟨g, i, e, hk.cell h (hn g (by subst e; rfl))⟩, fun _ _ k ⟨g, i, e, h⟩ hb => by subst e; cases hb; exact World.block_lt_of_cell? _ _ h⟩
/-- A row of texts of one's own, from base on, that is not nil. -/
def FactB.ownS (base : Nat) (xs : List ByteArray) : FactB := ⟨fun v w => v ≠ .slice none 0 0 ∧ w.ownsRow base 9 1 v xs.length (xs.map Value.string), fun v => v.ownBlock,
  fun _ _ _ _ hk hn h => ⟨h.1, hk.row h.2 hn⟩, fun _ _ k h hb => (h.2.lt k hb).2⟩

def reach (l : List Oper) : Nat → Nat → Nat → Bool
  | 0, _, _ => false
  | f + 1, m, i => match l[m]? with
    | some om => (edgesOf om).any fun e => e == i || reach l f e i
    | none => false
theorem reach_done {l : List Oper} {L : Nat → Bool} (hc : ∀ (m : Nat) (om : Oper), l[m]? = some om → L m = true → ∀ j ∈ edgesOf om, L j = true) (i : Nat) : ∀ f m, reach l f m i = true → L m = true → L i = true
  | 0, _, h, _ => by simp [reach] at h
  | f + 1, m, h, hm => by
    rw [reach] at h
    split at h
    · rename_i om hom
      obtain ⟨e, he, h2⟩ := List.any_eq_true.1 h
      have h3 := hc m om hom hm e he
      rcases Bool.or_eq_true _ _ |>.mp h2 with h4 | h4
      · rw [← eq_of_beq h4]; exact h3
      · exact reach_done hc i f e h4 h3
    · cases h
def deadOkS (l : List Oper) (rt : List Nat) (cons : List (Option Nat)) (i : Nat) (o : Oper) : Bool :=
  rt.getD i 0 != 0 && (List.range rt.length).all fun m => m == i || rt.getD m 0 != rt.getD i 0 || (match cons.getD m none with | some c => c == i || ((edgesOf o).any fun e => e == c || reach l 8 e c) | none => false) || reach l 8 m i
theorem rows_appS {l : List Oper} {fs : List FactB} {rt : List Nat} {cons : List (Option Nat)} {a : Act} {w : World} {i : Nat} {o : Oper} {r : List Oper} (j0 : Nat) (xs ys : List ByteArray) (hf0 : fs.getD j0 .any = .ownS w.heap.size xs) (hf : fs.getD i .any = .ownS w.heap.size ys)
    (hj0 : (edgesOf o).contains j0 = true) (hc0 : cons.getD j0 none = some i) (hr0 : rt.getD j0 0 = rt.getD i 0) (hd : deadOkS l rt cons i o = true)
    (h : ∀ vs w1, Ex w w1 → (∀ j (f : FactB), (edgesOf o).contains j = true → fs.getD j .any = f → (cons.getD j none).all (· == i) = true → f.holds (vs j) w1) → StepG Try.prog l.toArray o (actsTo l.toArray a (fun _ => true) vs l.length) w1 fun v w2 => w1.grownBy w2 (vs j0).ownBlock ∧ (FactB.ownS w.heap.size ys).holds v w2 ∧ (v.ownBlock = (vs j0).ownBlock ∨ v.ownBlock = some w1.heap.size))
    (t : eachF (ReqR l fs rt cons a w) (i + 1) r) : eachF (ReqR l fs rt cons a w) i (o :: r) := by
  refine ⟨fun L vs w1 hI hL hc he => ?_, t⟩
  have hLj : L j0 = true := he j0 (by simpa using hj0)
  have hlj : live cons L j0 := fun c hcc => by rw [hc0] at hcc; cases hcc; exact hL
  have h0 := hI.hold j0 hLj hlj
  rw [hf0] at h0
  refine (h vs w1 hI.ex fun j f h2 h3 h4 => ?_).mono fun v w2 ⟨h5, h6, h7⟩ => ?_
  · have := hI.hold j (he j (by simpa using h2)) (fun c hcc => by rw [hcc] at h4; simp at h4; rw [h4]; exact hL)
    rwa [h3] at this
  · unfold deadOkS at hd
    rw [Bool.and_eq_true, List.all_eq_true] at hd
    refine hI.inplace (j0 := j0) hLj hlj hr0 (fun m hm hLm hrm hlive => ?_) ?_ ?_ (by rw [hf]; exact h6) ?_
    · have hlt : m < rt.length := by
        refine Nat.lt_of_not_le fun hn => ?_
        have h8 : rt.getD m 0 = 0 := by simp [List.getD_eq_getElem?_getD, List.getElem?_eq_none hn]
        rw [h8] at hrm
        have := hd.1
        rw [← hrm] at this
        simp at this
      have h8 := hd.2 m (List.mem_range.2 hlt)
      simp only [Bool.or_eq_true, beq_iff_eq, bne_iff_ne, ne_eq] at h8
      rcases h8 with ((h8 | h8) | h8) | h8
      · exact hm h8
      · exact h8 hrm
      · split at h8
        · rename_i c hcm
          have h9 := hlive c hcm
          simp only [Bool.or_eq_true, beq_iff_eq] at h8
          rcases h8 with h8 | h8
          · rw [h8] at h9; simp [upd] at h9
          · have : L c = true := by
              obtain ⟨e, hee, h10⟩ := List.any_eq_true.1 h8
              rcases Bool.or_eq_true _ _ |>.mp h10 with h11 | h11
              · rw [← eq_of_beq h11]; exact he e hee
              · exact reach_done hc c 8 e h11 (he e hee)
            unfold upd at h9
            split at h9
            · cases h9
            · rw [this] at h9; cases h9
        · cases h8
      · have := reach_done hc i 8 m h8 hLm
        rw [this] at hL
        cases hL
    · rw [hf0]
      exact Keeps.ofGrown h5 fun k e => e
    · rw [hf0]
      exact fun k hk => (h0.2.lt k hk).1
    · rw [hf, hf0]
      intro k hk
      rcases h7 with h7 | h7
      · exact .inr (h7.symm.trans hk)
      · have hk' : v.ownBlock = some k := hk
        rw [h7] at hk'
        cases hk'
        exact .inl (Nat.le_refl _)

theorem rows_pass {l : List Oper} {fs : List FactB} {rt : List Nat} {cons : List (Option Nat)} {a : Act} {w : World} {i : Nat} {o : Oper} {r : List Oper} (j0 : Nat) (f : FactB) (hf0 : fs.getD j0 .any = f) (hf : fs.getD i .any = f)
    (hj0 : (edgesOf o).contains j0 = true) (hc0 : cons.getD j0 none = some i) (hr0 : rt.getD j0 0 = rt.getD i 0)
    (h : ∀ vs w1, StepG Try.prog l.toArray o (actsTo l.toArray a (fun _ => true) vs l.length) w1 fun v w2 => v = vs j0 ∧ w2 = w1)
    (t : eachF (ReqR l fs rt cons a w) (i + 1) r) : eachF (ReqR l fs rt cons a w) i (o :: r) := by
  refine ⟨fun L vs w1 hI hL hc he => ?_, t⟩
  have hLj : L j0 = true := he j0 (by simpa using hj0)
  have hlj : live cons L j0 := fun c hcc => by rw [hc0] at hcc; cases hcc; exact hL
  have h0 := hI.hold j0 hLj hlj
  rw [hf0] at h0
  refine (h vs w1).mono fun v w2 ⟨h5, h6⟩ => ?_
  subst h6
  subst h5
  exact hI.plain (Ex.refl _) (by rw [hf]; exact h0) (fun k hk => .inr ⟨j0, hLj, hlj, hr0, by rw [hf0]; rw [hf] at hk; exact hk⟩)

theorem rows_via {l : List Oper} {fs : List FactB} {rt : List Nat} {cons : List (Option Nat)} {a : Act} {w : World} {i : Nat} {o : Oper} {r : List Oper} (j0 : Nat) (f0 f : FactB) (hf0 : fs.getD j0 .any = f0) (hf : fs.getD i .any = f)
    (hj0 : (edgesOf o).contains j0 = true) (hc0 : cons.getD j0 none = none) (hr0 : rt.getD j0 0 = rt.getD i 0)
    (h : ∀ vs w1, f0.holds (vs j0) w1 → (∀ j (f : FactB), (edgesOf o).contains j = true → fs.getD j .any = f → (cons.getD j none).all (· == i) = true → f.holds (vs j) w1) → StepG Try.prog l.toArray o (actsTo l.toArray a (fun _ => true) vs l.length) w1 fun v w2 => w2 = w1 ∧ f.holds v w2 ∧ f.blk v = f0.blk (vs j0))
    (t : eachF (ReqR l fs rt cons a w) (i + 1) r) : eachF (ReqR l fs rt cons a w) i (o :: r) := by
  refine ⟨fun L vs w1 hI hL hc he => ?_, t⟩
  have hLj : L j0 = true := he j0 (by simpa using hj0)
  have hlj : live cons L j0 := fun c hcc => by rw [hc0] at hcc; cases hcc
  have h0 := hI.hold j0 hLj hlj
  rw [hf0] at h0
  refine (h vs w1 h0 fun j f h2 h3 h4 => ?_).mono fun v w2 ⟨h5, h6, h7⟩ => ?_
  · have := hI.hold j (he j (by simpa using h2)) (fun c hcc => by rw [hcc] at h4; simp at h4; rw [h4]; exact hL)
    rwa [h3] at this
  · subst h5
    exact hI.plain (Ex.refl _) (by rw [hf]; exact h6) (fun k hk => .inr ⟨j0, hLj, hlj, hr0, by rw [hf0, ← h7]; rw [hf] at hk; exact hk⟩)
theorem elemStr : Try.prog.underlying 24 = some (.slice (Try.prog.elem 24)) := by kernel_rfl
theorem elemStrEq : Try.prog.elem 24 = 9 := by kernel_rfl
section
variable {o : Oper} {ρ : Operand → Value} {w w0 : World} {x y z : Operand} {v vx vy vz : Value}
theorem gives_litS (n : Nat) (parts : Array (Nat × Operand)) (xs : List ByteArray) (hn : xs.length = n) (hn2 : n ≤ 1000) (hn0 : 0 < n) (ho : o.op = .buildSlice 24 n parts) (hf : Instr.fill (fun i => some (i * 1, 1)) ((Array.range (n * 1)).map ((Value.string ⟨#[]⟩).cells[· % (Value.string ⟨#[]⟩).cells.size]!)) (parts.map fun (i, x) => (i, ρ x)).toList = some (xs.map Value.string).toArray) :
    ∀ {Φ : Value → World → Prop}, Φ (.slice (some ⟨w.heap.size, 0, none⟩) n n) (w.alloc (.cells (xs.map Value.string).toArray 9)) → Gives Try.prog o ρ w Φ := by
  intro Φ h
  obtain ⟨i0, hi, hz0, hz1, hz2⟩ := info_parts Try.infoStr
  refine Gives.value (w' := w.alloc (.cells (xs.map Value.string).toArray 9)) (v := .slice (some ⟨w.heap.size, 0, none⟩) n n) ?_ h
  unfold execOp
  simp only [ho]
  have hb := run_buildSlice (P := Try.prog) w 24 9 n (parts.map fun (i, x) => (i, ρ x)) (xs.map Value.string).toArray i0 (.string ⟨#[]⟩) Try.underlying24 hi hz0 (by rw [hz1]; omega) (by rw [hz1]; omega) (by rw [hz1]; exact hf)
  rw [Sem.run_bind, hb]
  rfl
theorem gives_litSS (n : Nat) (parts : Array (Nat × Operand)) (xs : List ByteArray) (hn : xs.length = n) (hn2 : n ≤ 1000) (hn0 : 0 < n) (ho : o.op = .buildSlice 24 n parts) (hf : Instr.fill (fun i => some (i * 1, 1)) ((Array.range (n * 1)).map ((Value.string ⟨#[]⟩).cells[· % (Value.string ⟨#[]⟩).cells.size]!)) (parts.map fun (i, x) => (i, ρ x)).toList = some (xs.map Value.string).toArray) :
    Gives Try.prog o ρ w fun v w2 => Ex w w2 ∧ (FactB.ssl xs).holds v w2 ∧ ∀ k, (FactB.ssl xs).blk v = some k → w.heap.size ≤ k := by
  refine gives_litS n parts xs hn hn2 hn0 ho hf ?_
  refine ⟨Ex.alloc w _, ⟨w.heap.size, by rw [hn], by simp, ?_⟩, fun k hk => ?_⟩
  · have := ssl_lit w xs (by omega)
    rwa [hn] at this
  · have hk' : (Value.slice (some ⟨w.heap.size, 0, none⟩) n n).ownBlock = some k := hk
    cases hk'
    exact Nat.le_refl _
theorem gives_lit1S {s : ByteArray} (ho : o.op = .buildSlice 24 1 #[(0, x)]) (hx : ρ x = .string s) :
    Gives Try.prog o ρ w fun v w2 => Ex w w2 ∧ (FactB.ssl [s]).holds v w2 ∧ ∀ k, (FactB.ssl [s]).blk v = some k → w.heap.size ≤ k := by
  refine gives_litSS 1 #[(0, x)] [s] rfl (by omega) (by omega) ho ?_
  simp only [List.map_toArray, List.map_cons, List.map_nil, hx]
  kernel_rfl
theorem gives_lit4S {a b c d : ByteArray} (ho : o.op = .buildSlice 24 4 #[(0, .const (.string a)), (1, .const (.string b)), (2, .const (.string c)), (3, .const (.string d))]) (hc : ∀ v, ρ (.const v) = v) :
    Gives Try.prog o ρ w fun v w2 => Ex w w2 ∧ (FactB.ssl [a, b, c, d]).holds v w2 ∧ ∀ k, (FactB.ssl [a, b, c, d]).blk v = some k → w.heap.size ≤ k := by
  refine gives_litSS 4 _ [a, b, c, d] rfl (by omega) (by omega) ho ?_
  simp only [List.map_toArray, List.map_cons, List.map_nil, hc]
  kernel_rfl
theorem gives_build0S (ho : o.op = .buildSlice 24 0 #[]) (he : Ex w0 w) : Gives Try.prog o ρ w fun v w2 => Ex w w2 ∧ (FactB.ownS w0.heap.size []).holds v w2 ∧ ∀ k, (FactB.ownS w0.heap.size []).blk v = some k → w.heap.size ≤ k := by
  refine Gives.value (w' := w.alloc (.cells #[] 9)) (v := .slice (some ⟨w.heap.size, 0, none⟩) 0 0) ?_ ⟨Ex.alloc w _, ⟨by simp, ?_⟩, fun k hk => ?_⟩
  · unfold execOp
    simp only [ho]
    obtain ⟨i0, hi, hz0, hz1, hz2⟩ := info_parts Try.infoStr
    simp [Instr.buildSlice, run_underlying Try.underlying24, sizeOf, typeInfo, hi, newRow, Instr.fill]
    congr 2
    exact Array.eq_empty_of_size_eq_zero (by simp)
  · exact World.ownsRow_lit w #[] 0 he.size (by simp [maxLen]) rfl
  · have hk' : (Value.slice (some ⟨w.heap.size, 0, none⟩) 0 0).ownBlock = some k := hk
    cases hk'
    exact Nat.le_refl _
theorem gives_appS {xs news : List ByteArray} (ho : o.op = .call { callee := .builtin .append, args := #[x, y], argTypes := #[24, 24] }) (hx : ρ x = vx) (hy : ρ y = vy) (he : Ex w0 w) (h : (FactB.ownS w0.heap.size xs).holds vx w) (hs : SSl w vy news) (hl : xs.length + news.length ≤ 1000000) :
    Gives Try.prog o ρ w fun v w2 => w.grownBy w2 vx.ownBlock ∧ (FactB.ownS w0.heap.size (xs ++ news)).holds v w2 ∧ (v.ownBlock = vx.ownBlock ∨ v.ownBlock = some w.heap.size) := by
  obtain ⟨i0, hi, hz0, hz1, hz2⟩ := info_parts Try.infoStr
  obtain ⟨v', w', hr, h2, h3, h4, h5⟩ := run_append_src (P := Try.prog) w w0.heap.size 24 24 o.type 9 i0 _ 16 Try.underlying24 hi hz0 hz1 hz2 rfl vx _ _ h.2 vy _ _ hs.src (by unfold maxLen; omega) (by omega) he.size
  refine Gives.value (w' := w') (v := v') ?_ ⟨h3, ⟨fun e => h.1 (h4.1 e).1, ?_⟩, h5⟩
  · unfold execOp
    simp only [ho, resolve, invoke, builtin, Sem.run_bind, Sem.run_pure, Result.andThen_ok, List.map_toArray, List.map_cons, List.map_nil, hx, hy, hr]
  · rw [List.length_append, List.map_append]
    exact h2
theorem gives_sliceTo {ao : Option Addr} {n cap j : Nat} (hj : j ≤ cap) (ho : o.op = .slice 24 x none (some y) none) (hx : ρ x = .slice ao n cap) (hy : ρ y = .int .i64 (j : Int)) {Φ : Value → World → Prop} (h : Φ (sliced ao 0 j cap 1) w) : Gives Try.prog o ρ w Φ := by
  obtain ⟨i0, hi, hz0, hz1, hz2⟩ := info_parts Try.infoStr
  refine gives_slice (v := sliced ao 0 j cap 1) ho ?_ h
  simp only [hx, Option.map_none, Option.map_some, hy]
  rw [run_sliceAt_slice _ _ _ _ _ _ elemStr, run_slice_h _ _ _ _ _ elemStr _ _ (by omega) (by omega)]
  simp [elemStrEq, sizeOf, typeInfo, hi, hz1, Result.andThen]
theorem gives_sliceFrom {ao : Option Addr} {n cap j : Nat} (hj : j ≤ n) (ho : o.op = .slice 24 x (some y) none none) (hx : ρ x = .slice ao n cap) (hy : ρ y = .int .i64 (j : Int)) {Φ : Value → World → Prop} (h : Φ (sliced ao j n cap 1) w) : Gives Try.prog o ρ w Φ := by
  obtain ⟨i0, hi, hz0, hz1, hz2⟩ := info_parts Try.infoStr
  refine gives_slice (v := sliced ao j n cap 1) ho ?_ h
  simp only [hx, Option.map_none, Option.map_some, hy]
  rw [run_sliceAt_slice _ _ _ _ _ _ elemStr, run_slice_l _ _ _ _ _ elemStr _ _ (by omega) (by omega)]
  simp [elemStrEq, sizeOf, typeInfo, hi, hz1, Result.andThen]
theorem gives_remN {t : TypeId} {a b : Nat} (hb : b ≠ 0) (ho : o.op = .binOp .rem t x y t) (hx : ρ x = .int .i64 (a : Int)) (hy : ρ y = .int .i64 (b : Int)) {Φ : Value → World → Prop} (h : Φ (.int .i64 ((a % b : Nat) : Int)) w) : Gives Try.prog o ρ w Φ := by
  refine Gives.value (w' := w) (v := .int .i64 ((a % b : Nat) : Int)) ?_ h
  unfold execOp
  simp only [ho, hx, hy]
  have h2 : ((a : Int).tmod (b : Int)) = ((a % b : Nat) : Int) := rfl
  simp [eqGuard, binOp, Op.intDiv, hb, h2]
theorem gives_idxS {ss : List ByteArray} {i : Nat} {s : ByteArray} (hi : ss[i]? = some s) (ho : o.op = .indexAddr 24 x y) (hx : ρ x = vx) (hv : (FactB.ssl ss).holds vx w) (hy : ρ y = .int .i64 (i : Int)) :
    Gives Try.prog o ρ w fun v w2 => w2 = w ∧ (FactB.ptr s).holds v w2 ∧ (FactB.ptr s).blk v = vx.ownBlock := by
  obtain ⟨g, rfl, _, hs⟩ := hv
  obtain ⟨i0, hi0, hz0, hz1, hz2⟩ := info_parts Try.infoStr
  have hlt := (List.getElem?_eq_some_iff.1 hi).1
  have hc := hs.cellAt i hlt
  rw [Nat.zero_add] at hc
  have he : ss[i] = s := (List.getElem?_eq_some_iff.1 hi).2
  rw [he] at hc
  refine Gives.value (w' := w) (v := .pointer (some ⟨g, i, none⟩)) ?_ ⟨rfl, ⟨g, i, rfl, hc⟩, rfl⟩
  unfold execOp
  simp only [ho]
  rw [hx, hy]
  simp [run_indexAt_slice w _ _ _ _ _ _ elemStr, elemStrEq, sizeOf, typeInfo, hi0, hz1, add_lit', show (i : Int) < (ss.length : Int) by omega]
theorem gives_ldS {s : ByteArray} (ho : o.op = .load 9 x) (hx : ρ x = vx) (hv : (FactB.ptr s).holds vx w) {Φ : Value → World → Prop} (h : Φ (.string s) w) : Gives Try.prog o ρ w Φ := by
  obtain ⟨g, i, rfl, hc⟩ := hv
  refine Gives.value (w' := w) (v := .string s) ?_ h
  unfold execOp
  simp only [ho]
  rw [hx]
  simp [Instr.loadAt, loadVar, Instr.sureAddr, hc]
end
end Go.Proofs.Ytfgeeheojglldaa
