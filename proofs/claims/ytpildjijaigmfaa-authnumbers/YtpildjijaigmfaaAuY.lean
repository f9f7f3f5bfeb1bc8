/- Payloads and rows of payloads that lie in memory, in a ledger. -/
import Derived.Test.YtpildjijaigmfaaAuU
namespace Go.Proofs.Ytpildjijaigmfaa
open Go Go.RowKit

def BOk (w : World) (v : Value) : Prop := ∃ p, BSl w v p ∧ p.length ≤ 290
def B3 (w : World) (v : Value) : Prop := ∃ p, BSl w v p ∧ p.length ≤ 300
theorem BOk.b3 {w : World} {v : Value} (h : BOk w v) : B3 w v := by
  obtain ⟨p, h1, h2⟩ := h
  exact ⟨p, h1, by omega⟩
def ROk (w : World) (v : Value) : Prop := ∃ ps, LSl w v ps ∧ ∀ j, j < ps.length → (ps.getD j []).length ≤ 300
theorem BOk.fresh {w w' : World} {v : Value} (h : BOk w v) (hb : Below w.heap.size w w') : BOk w' v := by
  obtain ⟨p, h1, h2⟩ := h
  exact ⟨p, h1.fresh hb, h2⟩
theorem LSl.fresh {w w' : World} {v : Value} {ps : List (List UInt8)} (h : LSl w v ps) (hb : Below w.heap.size w w') : LSl w' v ps := by
  obtain ⟨ao, cap, rfl, h1, h2, h3⟩ := h
  refine ⟨ao, cap, rfl, h1, h2, fun j hj => ?_⟩
  obtain ⟨b, off, x, e, k1, k2⟩ := h3 j hj
  exact ⟨b, off, x, e, (Keeps.ofFresh (S := fun _ => False) hb).cell k1 (fun h => h), k2.fresh hb⟩
theorem B3.fresh {w w' : World} {v : Value} (h : B3 w v) (hb : Below w.heap.size w w') : B3 w' v := by
  obtain ⟨p, h1, h2⟩ := h
  exact ⟨p, h1.fresh hb, h2⟩
theorem ROk.fresh {w w' : World} {v : Value} (h : ROk w v) (hb : Below w.heap.size w w') : ROk w' v := by
  obtain ⟨p, h1, h2⟩ := h
  exact ⟨p, h1.fresh hb, h2⟩
abbrev nilV : Value := .slice none 0 0
theorem bok_nil (w : World) : BOk w nilV := ⟨[], bsl_none w, by simp⟩
theorem belowAlloc (w : World) (o : Obj) : Below w.heap.size w (w.alloc o) := (Below.refl _ _).alloc (Nat.le_refl _) o
theorem sz (w : World) (o : Obj) : (w.alloc o).heap.size = w.heap.size + 1 := by simp

/-- B: slices of bytes, R: slices of such, that lie in w, which has grown from W. -/
structure Led (W w : World) (B R : List Value) : Prop where
  b : ∀ i, BOk w (B.getD i nilV)
  r : ∀ v, v ∈ R → ROk w v
  below : Below W.heap.size W w
theorem Led.fresh {W w w' : World} {B R : List Value} (h : Led W w B R) (hb : Below w.heap.size w w') : Led W w' B R := ⟨fun i => (h.b i).fresh hb, fun v hv => (h.r v hv).fresh hb, h.below.trans (hb.mono h.below.size)⟩
theorem Led.addB {W w : World} {B R : List Value} (h : Led W w B R) {v : Value} (hv : BOk w v) : Led W w (B ++ [v]) R := by
  refine ⟨fun i => ?_, h.r, h.below⟩
  rw [getD_snoc]
  split
  · exact h.b i
  · split
    · exact hv
    · exact bok_nil w
theorem Led.lit {W w : World} {B R : List Value} (h : Led W w B R) (xs : List UInt8) (hl : xs.length ≤ 290) : Led W (w.alloc (.cells (bcells xs).toArray 5)) (B ++ [.slice (some ⟨w.heap.size, 0, none⟩) xs.length xs.length]) R :=
  (h.fresh (belowAlloc w _)).addB ⟨xs, bsl_lit w xs (by omega), hl⟩
theorem getD_map' {α : Type} (is : List Nat) (f : Nat → α) (d : α) (j : Nat) (hj : j < is.length) : (is.map f).getD j d = f is[j] := by
  rw [List.getD_eq_getElem?_getD, List.getElem?_map, List.getElem?_eq_getElem hj]
  rfl
def pickV (B : List Value) (x : Value) (i : Nat) : Value := if i = 1000 then x else B.getD i nilV
theorem Led.rowG {W w : World} {B R : List Value} (h : Led W w B R) (x : Value) (hx : B3 w x) (is : List Nat) (hl : is.length ≤ 300) (g : Nat) (hg : w.heap.size = g) : Led W (w.alloc (.cells (is.map (pickV B x)).toArray 25)) B (R ++ [.slice (some ⟨g, 0, none⟩) is.length is.length]) := by
  subst hg
  have h2 := h.fresh (belowAlloc w (.cells (is.map (pickV B x)).toArray 25))
  refine ⟨h2.b, fun v hv => ?_, h2.below⟩
  rcases List.mem_append.1 hv with hv | hv
  · exact h2.r v hv
  · simp at hv
    subst hv
    have hx : ∀ i, B3 (w.alloc (.cells (is.map (pickV B x)).toArray 25)) (pickV B x i) := fun i => by
      unfold pickV
      split
      · exact hx.fresh (belowAlloc w _)
      · exact (h2.b i).b3
    let f : Nat → List UInt8 := fun i => (hx i).choose
    have hf : ∀ i, BSl (w.alloc (.cells (is.map (pickV B x)).toArray 25)) (pickV B x i) (f i) ∧ (f i).length ≤ 300 := fun i => (hx i).choose_spec
    refine ⟨is.map f, ⟨some ⟨w.heap.size, 0, none⟩, is.length, by simp, by simp, by unfold maxLen; omega, fun j hj => ?_⟩, fun j hj => ?_⟩
    · have hj' : j < is.length := by simpa using hj
      refine ⟨w.heap.size, 0, pickV B x is[j], rfl, ?_, ?_⟩
      · have := cell_row (cs := is.map (pickV B x)) (t := 25) (heap_alloc_new w _) j
        rw [Nat.zero_add, this, List.getElem?_map, List.getElem?_eq_getElem hj']
        rfl
      · rw [getD_map' is f [] j hj']
        exact (hf is[j]).1
    · have hj' : j < is.length := by simpa using hj
      rw [getD_map' is f [] j hj']
      exact (hf is[j]).2
theorem Led.litG {W w : World} {B R : List Value} (h : Led W w B R) (xs : List UInt8) (hl : xs.length ≤ 290) (g : Nat) (hg : w.heap.size = g) : Led W (w.alloc (.cells (bcells xs).toArray 5)) (B ++ [.slice (some ⟨g, 0, none⟩) xs.length xs.length]) R := by
  subst hg
  exact h.lit xs hl
theorem Led.get {W w : World} {B R : List Value} (h : Led W w B R) (i : Nat) (hi : i < R.length) : ROk w R[i] := h.r _ (List.getElem_mem hi)
theorem payL_len2 (k n : Int) (us ps nm : ByteArray) : (payL k n us ps nm []).length ≤ 290 := by
  have h1 := ex66 us
  have h2 := ex66 ps
  have h3 := ex66 nm
  have h4 := connZ
  have h5 := passZ
  have h6 := authZ
  unfold payL
  repeat' split
  all_goals (simp only [List.length_append, tl, List.length_cons, List.length_nil, List.length_take]; omega)
theorem b3_nil (w : World) : B3 w nilV := (bok_nil w).b3
theorem Led.pay {W w w' : World} {B R : List Value} (h : Led W w B R) {b : Value} {bs xs : List UInt8} (hx : xs.length ≤ 290) {e : Ending} (hp : PayPost w b bs xs e w') : ∃ a n c, e = .returned (.slice a n c) ∧ Led W w' (B ++ [.slice a n c]) R := by
  obtain ⟨v, rfl, h1, _, h3⟩ := hp
  obtain ⟨a, c, rfl⟩ := h1.len
  exact ⟨a, xs.length, c, rfl, (h.fresh h3).addB ⟨xs, h1, hx⟩⟩
theorem pay_led (k n : Int) (us ps nm : ByteArray) {W w : World} {B R : List Value} (h : Led W w B R) :
    Calls Try.prog 8 #[.agg #[.int .i64 k, .int .i64 n, .string us, .string ps, .string nm, .slice none 0 0]] w fun e w' => ∃ a m c, e = .returned (.slice a m c) ∧ Led W w' (B ++ [.slice a m c]) R := by
  refine (payload_c k n us ps nm (.slice none 0 0) [] w (bsl_none w)).mono ?_
  intro e w' hp
  exact h.pay (payL_len2 _ _ _ _ _) hp

end Go.Proofs.Ytpildjijaigmfaa
