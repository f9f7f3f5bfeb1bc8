/- What the laws make of an ask. -/
import Derived.Test.YtnigfnikajejaaaTrG
import Derived.Test.YtnigfnikajejaaaPaA
namespace Go.Proofs.Ytnigfnikajejaaa
open Go Go.RowKit

/-- An ask. -/
structure Ask where
  kind : Int
  id : Int
  P : List Nm
  To : List Nm
  dir : Bool
  at_ : Nat
  n : Nat
  b : List UInt8
  a : At
def askC (x : Ask) (pv tv bv : Value) : Array Value := #[.int .i64 x.kind, .int .i64 x.id, pv, tv, .bool x.dir, .int .u64 x.at_, .int .u32 x.n, bv, .int .u32 x.a.f, .int .u64 x.a.s, .int .u32 x.a.u, .int .u32 x.a.g, .int .u32 x.a.m, .int .u32 x.a.a, .int .u32 x.a.t]
/-- The ask as the laws take it. -/
def shortA (x : Ask) : Ask := { x with P := fewL x.P 5 32, To := fewL x.To 5 32, b := x.b.take 200 }
theorem sizeAsk : (Try.prog.info? 47).map (·.size) = some 15 := by kernel_rfl
theorem cells15 {w : World} {B : Nat} {t : TypeId} {v0 v1 v2 v3 v4 v5 v6 v7 v8 v9 v10 v11 v12 v13 v14 : Value} (h : w.heap[B]? = some (.cells #[v0, v1, v2, v3, v4, v5, v6, v7, v8, v9, v10, v11, v12, v13, v14] t (0, 0))) :
    w.cell? ⟨B, 0, none⟩ = some v0 ∧ w.cell? ⟨B, 1, none⟩ = some v1 ∧ w.cell? ⟨B, 2, none⟩ = some v2 ∧ w.cell? ⟨B, 3, none⟩ = some v3 ∧ w.cell? ⟨B, 4, none⟩ = some v4 ∧ w.cell? ⟨B, 5, none⟩ = some v5 ∧ w.cell? ⟨B, 6, none⟩ = some v6 ∧ w.cell? ⟨B, 7, none⟩ = some v7 ∧ w.cell? ⟨B, 8, none⟩ = some v8 ∧ w.cell? ⟨B, 9, none⟩ = some v9 ∧ w.cell? ⟨B, 10, none⟩ = some v10 ∧ w.cell? ⟨B, 11, none⟩ = some v11 ∧ w.cell? ⟨B, 12, none⟩ = some v12 ∧ w.cell? ⟨B, 13, none⟩ = some v13 ∧ w.cell? ⟨B, 14, none⟩ = some v14 ∧ ∀ j, w.frozen? ⟨B, j, none⟩ = false := by
  refine ⟨?_, ?_, ?_, ?_, ?_, ?_, ?_, ?_, ?_, ?_, ?_, ?_, ?_, ?_, ?_, fun j => by simp [World.frozen?, h]⟩ <;> simp [World.cell?, h]
def ABox (w : World) (g : Nat) (x : Ask) (pv tv bv : Value) : Prop := w.heap[g]? = some (.cells (askC x pv tv bv) 47 (0, 0))
section
variable {g : Nat}
theorem ABox.set2 {w : World} {x : Ask} {pv tv bv : Value} (h : ABox w g x pv tv bv) (v : Value) : ABox (w.setCell ⟨g, 2, none⟩ v) g x v tv bv := by
  unfold ABox at h ⊢
  rw [heap_setCell_same _ _ _ _ _ _ h]; rfl
theorem ABox.set3 {w : World} {x : Ask} {pv tv bv : Value} (h : ABox w g x pv tv bv) (v : Value) : ABox (w.setCell ⟨g, 3, none⟩ v) g x pv v bv := by
  unfold ABox at h ⊢
  rw [heap_setCell_same _ _ _ _ _ _ h]; rfl
theorem ABox.set7 {w : World} {x : Ask} {pv tv bv : Value} (h : ABox w g x pv tv bv) (v : Value) : ABox (w.setCell ⟨g, 7, none⟩ v) g x pv tv v := by
  unfold ABox at h ⊢
  rw [heap_setCell_same _ _ _ _ _ _ h]; rfl
theorem setCells_heap (t : TypeId) : ∀ (vs pre old : List Value) (w : World), w.heap[g]? = some (.cells (pre ++ old).toArray t (0, 0)) → old.length = vs.length → (w.setCells g pre.length vs).heap[g]? = some (.cells (pre ++ vs).toArray t (0, 0))
  | [], pre, old, w, h, hl => by
    obtain rfl : old = [] := List.eq_nil_of_length_eq_zero hl
    exact h
  | v :: vs, pre, [], w, h, hl => by cases hl
  | v :: vs, pre, o :: old, w, h, hl => by
    have h1 : (w.setCell ⟨g, pre.length, none⟩ v).heap[g]? = some (.cells ((pre ++ [v]) ++ old).toArray t (0, 0)) := by
      rw [heap_setCell_same _ _ _ _ _ _ h]
      congr 2
      simp
    have h2 := setCells_heap t vs (pre ++ [v]) old _ h1 (by simpa using hl)
    rw [List.length_append, List.length_singleton] at h2
    rw [World.setCells]
    simpa using h2
theorem setCells_keeps : ∀ (vs : List Value) (o : Nat) (w : World), Keeps (fun k => k = g) w (w.setCells g o vs)
  | [], _, _ => Keeps.refl _ _
  | v :: vs, o, w => (keeps_set w g o v).trans (setCells_keeps vs (o + 1) _)
end
set_option maxHeartbeats 4000000 in
set_option maxRecDepth 100000 in
theorem short_c (x : Ask) (pv tv bv : Value) (w : World) (hp : SSl w pv x.P) (ht : SSl w tv x.To) (hb : BSl w bv x.b) :
    Calls Try.prog 15 #[.agg (askC x pv tv bv)] w fun e w' => ∃ pv' tv' bv', e = .returned (.agg (askC (shortA x) pv' tv' bv')) ∧ SOwn w' w.heap.size pv' (shortA x).P ∧ SOwn w' w.heap.size tv' (shortA x).To ∧ BSl w' bv' (shortA x).b ∧ bv'.ownBlock = bv.ownBlock ∧ Below w.heap.size w w' := by
  have HP := hidden hp
  have HT := hidden ht
  have HBV := hidden hb
  clear hp ht hb
  unfold askC
  go_enter Try.func15, Try.ntmps15
  go_wp2_with fail
  have hz := heap_alloc_new (w.alloc (.cells (askC x pv tv bv) 47)) (.cells #[.int .i64 0, .int .i64 0, .slice none 0 0, .slice none 0 0, .bool false, .int .u64 0, .int .u32 0, .slice none 0 0, .int .u32 0, .int .u64 0, .int .u32 0, .int .u32 0, .int .u32 0, .int .u32 0, .int .u32 0] 47)
  have hab : ABox ((w.alloc (.cells (askC x pv tv bv) 47)).alloc (.cells #[.int .i64 0, .int .i64 0, .slice none 0 0, .slice none 0 0, .bool false, .int .u64 0, .int .u32 0, .slice none 0 0, .int .u32 0, .int .u64 0, .int .u32 0, .int .u32 0, .int .u32 0, .int .u32 0, .int .u32 0] 47)) w.heap.size x pv tv bv := heap_alloc2_old w _ _
  have hb0 : Below w.heap.size w ((w.alloc (.cells (askC x pv tv bv) 47)).alloc (.cells #[.int .i64 0, .int .i64 0, .slice none 0 0, .slice none 0 0, .bool false, .int .u64 0, .int .u32 0, .slice none 0 0, .int .u32 0, .int .u64 0, .int .u32 0, .int .u32 0, .int .u32 0, .int .u32 0, .int .u32 0] 47)) := ((Below.refl _ w).alloc (Nat.le_refl _) _).alloc (by simp) _
  unfold askC at hz hab hb0
  rw [show ∀ A : Obj, (w.alloc A).heap.size = w.heap.size + 1 from fun A => by simp] at hz
  generalize hW0 : (w.alloc (.cells #[.int .i64 x.kind, .int .i64 x.id, pv, tv, .bool x.dir, .int .u64 x.at_, .int .u32 x.n, bv, .int .u32 x.a.f, .int .u64 x.a.s, .int .u32 x.a.u, .int .u32 x.a.g, .int .u32 x.a.m, .int .u32 x.a.a, .int .u32 x.a.t] 47)).alloc (.cells #[.int .i64 0, .int .i64 0, .slice none 0 0, .slice none 0 0, .bool false, .int .u64 0, .int .u32 0, .slice none 0 0, .int .u32 0, .int .u64 0, .int .u32 0, .int .u32 0, .int .u32 0, .int .u32 0, .int .u32 0] 47) = W0 at hz hab hb0 ⊢
  clear hW0
  have hl0 := lt_of_block hz
  refine (few_n 5 32 (by omega) (by omega) pv x.P _ (HP.out.fresh hb0)).mono ?_
  rintro e w1 ⟨v1, rfl, ho1, hb1⟩
  obtain ⟨a1, k1, rfl⟩ := ownsRow_shape ho1
  have hz1 := (hb1.block _ hl0).trans hz
  have hab1 : ABox w1 w.heap.size x pv tv bv := (hb1.block _ (by omega)).trans hab
  have hB1 := hb0.trans (hb1.mono hb0.size)
  have hs1 := hb1.size
  obtain ⟨c0, c1, c2, c3, c4, c5, c6, c7, c8, c9, c10, c11, c12, c13, c14, cf⟩ := cells15 hab1
  -- behind the first store
  have hB1s : Below w.heap.size w (w1.setCell ⟨w.heap.size, 2, none⟩ (.slice a1 (fewL x.P 5 32).length k1)) := hB1.trans ((keeps_set w1 w.heap.size 2 _).below hB1.size fun k h => by omega)
  have hS1 : SOwn (w1.setCell ⟨w.heap.size, 2, none⟩ (.slice a1 (fewL x.P 5 32).length k1)) W0.heap.size (.slice a1 (fewL x.P 5 32).length k1) (fewL x.P 5 32) := (keeps_set w1 w.heap.size 2 _).row ho1 fun k e h => by have := (World.ownsRow.lt ho1 k e).1; omega
  have hA1 : ABox (w1.setCell ⟨w.heap.size, 2, none⟩ (.slice a1 (fewL x.P 5 32).length k1)) w.heap.size x (.slice a1 (fewL x.P 5 32).length k1) tv bv := hab1.set2 _
  have hZ1 := ((keeps_set w1 w.heap.size 2 (.slice a1 (fewL x.P 5 32).length k1)).block (w.heap.size + 1) (by omega) (by omega)).trans hz1
  clear ho1 hz1 hab1 hB1 hz hab hb0 hb1
  go_wp2_with fail
  generalize w1.setCell ⟨w.heap.size, 2, none⟩ (.slice a1 (fewL x.P 5 32).length k1) = W1 at hB1s hS1 hA1 hZ1 ⊢
  clear c0 c1 c2 c3 c4 c5 c6 c7 c8 c9 c10 c11 c12 c13 c14 cf
  have hl1 := lt_of_block hZ1
  refine (few_n 5 32 (by omega) (by omega) tv x.To _ (HT.out.fresh hB1s)).mono ?_
  rintro e w2 ⟨v2, rfl, ho2, hb2⟩
  obtain ⟨a2, k2, rfl⟩ := ownsRow_shape ho2
  have hz2 := (hb2.block _ hl1).trans hZ1
  have hab2 : ABox w2 w.heap.size x (.slice a1 (fewL x.P 5 32).length k1) tv bv := (hb2.block _ (by omega)).trans hA1
  have hB2 := hB1s.trans (hb2.mono hB1s.size)
  have hs2 := hb2.size
  have hS12 : SOwn w2 W0.heap.size (.slice a1 (fewL x.P 5 32).length k1) (fewL x.P 5 32) := (Keeps.ofFresh (S := fun _ => False) hb2).row hS1 fun _ _ h => h
  obtain ⟨c0, c1, c2, c3, c4, c5, c6, c7, c8, c9, c10, c11, c12, c13, c14, cf⟩ := cells15 hab2
  have hB2s : Below w.heap.size w (w2.setCell ⟨w.heap.size, 3, none⟩ (.slice a2 (fewL x.To 5 32).length k2)) := hB2.trans ((keeps_set w2 w.heap.size 3 _).below hB2.size fun k h => by omega)
  have hS2 : SOwn (w2.setCell ⟨w.heap.size, 3, none⟩ (.slice a2 (fewL x.To 5 32).length k2)) W1.heap.size (.slice a2 (fewL x.To 5 32).length k2) (fewL x.To 5 32) := (keeps_set w2 w.heap.size 3 _).row ho2 fun k e h => by have := (World.ownsRow.lt ho2 k e).1; omega
  have hS1b : SOwn (w2.setCell ⟨w.heap.size, 3, none⟩ (.slice a2 (fewL x.To 5 32).length k2)) W0.heap.size (.slice a1 (fewL x.P 5 32).length k1) (fewL x.P 5 32) := (keeps_set w2 w.heap.size 3 _).row hS12 fun k e h => by have := (World.ownsRow.lt hS12 k e).1; omega
  have hA2 : ABox (w2.setCell ⟨w.heap.size, 3, none⟩ (.slice a2 (fewL x.To 5 32).length k2)) w.heap.size x (.slice a1 (fewL x.P 5 32).length k1) (.slice a2 (fewL x.To 5 32).length k2) bv := hab2.set3 _
  have hZ2 := ((keeps_set w2 w.heap.size 3 (.slice a2 (fewL x.To 5 32).length k2)).block (w.heap.size + 1) (by omega) (by omega)).trans hz2
  clear ho2 hz2 hab2 hB2 hb2 hB1s hS1 hS12 hA1 hZ1
  go_wp2_with fail
  generalize w2.setCell ⟨w.heap.size, 3, none⟩ (.slice a2 (fewL x.To 5 32).length k2) = W2 at hB2s hS2 hS1b hA2 hZ2 ⊢
  clear c0 c1 c2 c3 c4 c5 c6 c7 c8 c9 c10 c11 c12 c13 c14 cf
  have hl2 := lt_of_block hZ2
  refine (cut_c 200 (by omega) bv x.b _ (HBV.out.fresh hB2s)).mono ?_
  rintro e w3 ⟨bv', rfl, hbs, hob, rfl⟩
  have hbs0 := hbs
  obtain ⟨m3, hm3⟩ : ∃ m, m = (x.b.take 200).length := ⟨_, rfl⟩
  obtain ⟨a3, k3, hv3, _⟩ := hbs0
  rw [← hm3] at hv3
  subst hv3
  have HM3 := hidden hm3
  clear hm3
  obtain ⟨c0, c1, c2, c3, c4, c5, c6, c7, c8, c9, c10, c11, c12, c13, c14, cf⟩ := cells15 hA2
  have hA3 := hA2.set7 (.slice a3 m3 k3)
  obtain ⟨d0, d1, d2, d3, d4, d5, d6, d7, d8, d9, d10, d11, d12, d13, d14, df⟩ := cells15 hA3
  have hZ3 := ((keeps_set w3 w.heap.size 7 (.slice a3 m3 k3)).block (w.heap.size + 1) (by omega) (by omega)).trans hZ2
  obtain ⟨z0, z1, z2, z3, z4, z5, z6, z7, z8, z9, z10, z11, z12, z13, z14, zf⟩ := cells15 hZ3
  go_wp2_with fail
  have hfin := setCells_heap (g := w.heap.size + 1) 47 (askC x (.slice a1 (fewL x.P 5 32).length k1) (.slice a2 (fewL x.To 5 32).length k2) (.slice a3 m3 k3)).toList [] [.int .i64 0, .int .i64 0, .slice none 0 0, .slice none 0 0, .bool false, .int .u64 0, .int .u32 0, .slice none 0 0, .int .u32 0, .int .u64 0, .int .u32 0, .int .u32 0, .int .u32 0, .int .u32 0, .int .u32 0] _ hZ3 rfl
  have hkp := setCells_keeps (g := w.heap.size + 1) (askC x (.slice a1 (fewL x.P 5 32).length k1) (.slice a2 (fewL x.To 5 32).length k2) (.slice a3 m3 k3)).toList 0 (w3.setCell ⟨w.heap.size, 7, none⟩ (.slice a3 m3 k3))
  change bodyPost _ _ _ _ _ ((w3.setCell ⟨w.heap.size, 7, none⟩ (.slice a3 m3 k3)).setCells (w.heap.size + 1) 0 (askC x (.slice a1 (fewL x.P 5 32).length k1) (.slice a2 (fewL x.To 5 32).length k2) (.slice a3 m3 k3)).toList)
  rw [show ([] : List Value).length = 0 from rfl] at hfin
  have hkA := (keeps_set w3 w.heap.size 7 (.slice a3 m3 k3)).mono (S' := fun k => k = w.heap.size ∨ k = w.heap.size + 1) fun k _ h => .inl h
  have hkB := hkA.trans (hkp.mono (S' := fun k => k = w.heap.size ∨ k = w.heap.size + 1) fun k _ h => .inr h)
  generalize (w3.setCell ⟨w.heap.size, 7, none⟩ (.slice a3 m3 k3)).setCells (w.heap.size + 1) 0 (askC x (.slice a1 (fewL x.P 5 32).length k1) (.slice a2 (fewL x.To 5 32).length k2) (.slice a3 m3 k3)).toList = W4 at hfin hkB ⊢
  have r1 : SOwn W4 W0.heap.size (.slice a1 (fewL x.P 5 32).length k1) (fewL x.P 5 32) := hkB.row hS1b fun k e h => by have := (World.ownsRow.lt hS1b k e).1; omega
  have r2 : SOwn W4 W1.heap.size (.slice a2 (fewL x.To 5 32).length k2) (fewL x.To 5 32) := hkB.row hS2 fun k e h => by have := (World.ownsRow.lt hS2 k e).1; omega
  have r3 : BSl W4 (.slice a3 m3 k3) (x.b.take 200) := hbs.keepE hkB fun hne k e h => by
    have hxb : x.b ≠ [] := by rintro h0; rw [h0] at hne; simp at hne
    rw [hob] at e
    have := BSl.apartB HBV.out (B := k) (by omega) hxb k e
    exact this rfl
  have r4 : Below w.heap.size w W4 := hB2s.trans (hkB.below hB2s.size fun k h => by omega)
  refine bodyPost_ret (results_agg1 rfl _ _ _ (w.heap.size + 1) _ 47 (0, 0) rfl hfin Try.underlying47 sizeAsk) rfl ?_
  exact ⟨_, _, _, rfl, ownsRow_mono r1 (by omega), ownsRow_mono r2 (by omega), r3, hob, r4⟩

theorem nameCs_at : ∀ (L : List (Nm × At)) (k : Nat) (hk : k < L.length) (i : Nat), i < 8 → (nameCs L)[k * 8 + i]? = (nameC L[k])[i]?
  | [], k, hk, _, _ => by simp at hk
  | e :: L, 0, _, i, hi => by
    unfold nameCs
    rw [List.flatMap_cons, Nat.zero_mul, Nat.zero_add, List.getElem?_append_left (by show i < 8; exact hi)]
    rfl
  | e :: L, k + 1, hk, i, hi => by
    unfold nameCs
    rw [List.flatMap_cons, List.getElem?_append_right (by show 8 ≤ _; omega)]
    have h := nameCs_at L k (by simpa using hk) i hi
    unfold nameCs at h
    rw [show (k + 1) * 8 + i - (nameC e).length = k * 8 + i by show _ - 8 = _; omega, h]
    rfl
/-- A row of names, as it reads. -/
def NRow (w : World) (v : Value) (L : List (Nm × At)) : Prop := ∃ base, w.ownsRow base 86 8 v L.length (nameCs L)
section
variable {w : World} {v : Value} {L : List (Nm × At)}
theorem NRow.keep {S : Nat → Prop} {w' : World} (h : NRow w v L) (hk : Keeps S w w') (hn : ∀ k, v.ownBlock = some k → ¬ S k) : NRow w' v L := by
  obtain ⟨b, h⟩ := h
  exact ⟨b, hk.row h hn⟩
theorem NRow.fresh {w' : World} (h : NRow w v L) (hb : Below w.heap.size w w') : NRow w' v L := h.keep (S := fun _ => False) (Keeps.ofFresh hb) fun _ _ h => h
theorem NRow.shape (h : NRow w v L) : ∃ ao cap, v = .slice ao L.length cap ∧ L.length ≤ cap ∧ cap ≤ maxLen ∧ (L ≠ [] → ∃ g, ao = some ⟨g, 0, none⟩) := by
  obtain ⟨b, h1, h2⟩ := h
  rcases h2 with ⟨rfl, hl⟩ | ⟨g, cap, cur, rfl, hb, hg, hn, hm, _⟩
  · obtain rfl : L = [] := List.eq_nil_of_length_eq_zero hl
    exact ⟨none, 0, rfl, by simp, by simp [maxLen], fun h => absurd rfl h⟩
  · exact ⟨some ⟨g, 0, none⟩, cap, rfl, hn, hm, fun _ => ⟨g, rfl⟩⟩
theorem NRow.at {g n cap : Nat} (h : NRow w (.slice (some ⟨g, 0, none⟩) n cap) L) (k : Nat) (hk : k < L.length) :
    w.cell? ⟨g, k * 8, none⟩ = some (.string (L[k]).1) ∧ w.cell? ⟨g, k * 8 + 1, none⟩ = some (.int .u32 (L[k]).2.f) ∧ w.cell? ⟨g, k * 8 + 2, none⟩ = some (.int .u64 (L[k]).2.s) ∧ w.cell? ⟨g, k * 8 + 3, none⟩ = some (.int .u32 (L[k]).2.u) ∧ w.cell? ⟨g, k * 8 + 4, none⟩ = some (.int .u32 (L[k]).2.g) ∧ w.cell? ⟨g, k * 8 + 5, none⟩ = some (.int .u32 (L[k]).2.m) ∧ w.cell? ⟨g, k * 8 + 6, none⟩ = some (.int .u32 (L[k]).2.a) ∧ w.cell? ⟨g, k * 8 + 7, none⟩ = some (.int .u32 (L[k]).2.t) := by
  obtain ⟨b, h⟩ := h
  have hn : n = L.length := by
    rcases h.2 with ⟨e, hl⟩ | ⟨g', cap', cur, e, _⟩
    · cases e
    · cases e; rfl
  subst hn
  have e : ∀ i, i < 8 → w.cell? ⟨g, k * 8 + i, none⟩ = (nameC L[k])[i]? := fun i hi => by
    rw [← nameCs_at L k hk i hi]
    exact World.ownsRow.cellAt h (k * 8 + i) (by omega)
  exact ⟨e 0 (by omega), e 1 (by omega), e 2 (by omega), e 3 (by omega), e 4 (by omega), e 5 (by omega), e 6 (by omega), e 7 (by omega)⟩
set_option maxHeartbeats 4000000 in
set_option maxRecDepth 100000 in
theorem names_c (v1 v2 : Value) (h1 : NRow w v1 L) (h2 : NRow w v2 L) :
    Calls Try.prog 21 #[v1, v2] w fun e w' => e = .returned (.bool true) ∧ Below w.heap.size w w' := by
  have H1 := hidden h1
  have H2 := hidden h2
  obtain ⟨a1, k1, rfl, hc1, hm1, hn1⟩ := h1.shape
  obtain ⟨a2, k2, rfl, hc2, hm2, hn2⟩ := h2.shape
  unfold maxLen at hm1 hm2
  clear h1 h2
  go_enter Try.func21, Try.ntmps21
  go_wp2_with fail
  go_loopw [5] (fun c wr => ∃ k : Nat, c = .int .i64 k ∧ k ≤ L.length ∧ Below w.heap.size w wr) (fun c _ => L.length - (intOf c).toNat)
  case atStart => exact ⟨0, rfl, Nat.zero_le _, Below.refl _ _⟩
  case round =>
    obtain ⟨k, rfl, hk, hb⟩ := hrel
    have HB := hidden hb
    by_cases hlt : k < L.length
    · have hi1 : (k : Int) < (L.length : Int) := by omega
      have hne : L ≠ [] := by rintro rfl; simp at hlt
      obtain ⟨g1, rfl⟩ := hn1 hne
      obtain ⟨g2, rfl⟩ := hn2 hne
      have d1 := (H1.out.fresh hb).at k hlt
      have d2 := (H2.out.fresh hb).at k hlt
      clear hb
      generalize L[k] = en at d1 d2
      obtain ⟨x0, x1, x2, x3, x4, x5, x6, x7⟩ := d1
      obtain ⟨y0, y1, y2, y3, y4, y5, y6, y7⟩ := d2
      go_wp2_with fail
      go_region
      all_goals
        go_wp2_with fail
        go_roundw
        case rel => exact ⟨k + 1, by go_num, hlt, HB.out.drew⟩
        case measure => simp [intOf]; omega
    · obtain rfl : k = L.length := by omega
      have hi1 : ¬ ((L.length : Nat) : Int) < (L.length : Int) := by omega
      go_wp2_with fail
      go_ret
      exact ⟨rfl, HB.out⟩
end

/-- An ask, with its values. -/
structure AskD where
  x : Ask
  pv : Value
  tv : Value
  bv : Value
def AskD.good (w : World) (p : AskD) : Prop := SSl w p.pv p.x.P ∧ SSl w p.tv p.x.To ∧ BSl w p.bv p.x.b ∧ p.x.at_ ≤ 18446744073709551615 ∧ p.x.n ≤ 4294967295 ∧ p.x.a.Ok
/-- The slice value v reads as the asks qs in w. -/
def ASl (w : World) (v : Value) (qs : List AskD) : Prop :=
  ∃ ao cap, v = .slice ao qs.length cap ∧ qs.length ≤ cap ∧ cap ≤ maxLen ∧ (∀ p ∈ qs, p.good w) ∧
    ∀ (i : Nat) (hi : i < qs.length), ∃ b off, ao = some ⟨b, off, none⟩ ∧ ∀ (j : Nat) (c : Value), (askC qs[i].x qs[i].pv qs[i].tv qs[i].bv)[j]? = some c → w.cell? ⟨b, off + i * 15 + j, none⟩ = some c
theorem AskD.good.fresh {w w' : World} {p : AskD} (h : p.good w) (hb : Below w.heap.size w w') : p.good w' := ⟨h.1.fresh hb, h.2.1.fresh hb, h.2.2.1.fresh hb, h.2.2.2⟩
theorem ASl.fresh {w w' : World} {v : Value} {qs : List AskD} (h : ASl w v qs) (hb : Below w.heap.size w w') : ASl w' v qs := by
  obtain ⟨ao, cap, e, h1, h2, h3, hc⟩ := h
  refine ⟨ao, cap, e, h1, h2, fun p hp => (h3 p hp).fresh hb, fun i hi => ?_⟩
  obtain ⟨b, off, e, hcell⟩ := hc i hi
  exact ⟨b, off, e, fun j c hj => (Keeps.ofFresh (S := fun _ => False) hb).cell (hcell j c hj) fun h => h⟩
theorem ASl.len {w : World} {v : Value} {qs : List AskD} (h : ASl w v qs) : ∃ ao cap, v = .slice ao qs.length cap ∧ qs.length ≤ cap ∧ cap ≤ maxLen := by
  obtain ⟨ao, cap, e, h1, h2, _⟩ := h
  exact ⟨ao, cap, e, h1, h2⟩
theorem ASl.good {w : World} {v : Value} {qs : List AskD} (h : ASl w v qs) {p : AskD} (hp : p ∈ qs) : p.good w := by
  obtain ⟨ao, cap, e, h1, h2, h3, hc⟩ := h
  exact h3 p hp
theorem ASl.at {w : World} {ao : Option Addr} {n cap : Nat} {qs : List AskD} (h : ASl w (.slice ao n cap) qs) (k : Nat) (hk : k < qs.length) : ∃ b off, ao = some ⟨b, off, none⟩ ∧
    w.cell? ⟨b, off + k * 15, none⟩ = some (.int .i64 qs[k].x.kind) ∧ w.cell? ⟨b, off + k * 15 + 1, none⟩ = some (.int .i64 qs[k].x.id) ∧ w.cell? ⟨b, off + k * 15 + 2, none⟩ = some qs[k].pv ∧ w.cell? ⟨b, off + k * 15 + 3, none⟩ = some qs[k].tv ∧ w.cell? ⟨b, off + k * 15 + 4, none⟩ = some (.bool qs[k].x.dir) ∧ w.cell? ⟨b, off + k * 15 + 5, none⟩ = some (.int .u64 qs[k].x.at_) ∧ w.cell? ⟨b, off + k * 15 + 6, none⟩ = some (.int .u32 qs[k].x.n) ∧ w.cell? ⟨b, off + k * 15 + 7, none⟩ = some qs[k].bv ∧
    w.cell? ⟨b, off + k * 15 + 8, none⟩ = some (.int .u32 qs[k].x.a.f) ∧ w.cell? ⟨b, off + k * 15 + 9, none⟩ = some (.int .u64 qs[k].x.a.s) ∧ w.cell? ⟨b, off + k * 15 + 10, none⟩ = some (.int .u32 qs[k].x.a.u) ∧ w.cell? ⟨b, off + k * 15 + 11, none⟩ = some (.int .u32 qs[k].x.a.g) ∧ w.cell? ⟨b, off + k * 15 + 12, none⟩ = some (.int .u32 qs[k].x.a.m) ∧ w.cell? ⟨b, off + k * 15 + 13, none⟩ = some (.int .u32 qs[k].x.a.a) ∧ w.cell? ⟨b, off + k * 15 + 14, none⟩ = some (.int .u32 qs[k].x.a.t) := by
  obtain ⟨ao, cap, e, h1, h2, h3, hc⟩ := h
  cases e
  obtain ⟨b, off, rfl, f⟩ := hc k hk
  exact ⟨b, off, rfl, f 0 _ rfl, f 1 _ rfl, f 2 _ rfl, f 3 _ rfl, f 4 _ rfl, f 5 _ rfl, f 6 _ rfl, f 7 _ rfl, f 8 _ rfl, f 9 _ rfl, f 10 _ rfl, f 11 _ rfl, f 12 _ rfl, f 13 _ rfl, f 14 _ rfl⟩
/-- No call makes more than one thing. -/
theorem makeT_next (S : Tr) (p : List Nm) (dir : Bool) : (makeT S p dir).2.next ≤ S.next + 1 := by
  unfold makeT
  split
  · exact Nat.le_succ _
  · split
    · exact Nat.le_succ _
    · split
      · exact Nat.le_succ _
      · exact Nat.le_refl _
theorem writeT_next (S : Tr) (i : Int) (k : Nat) (b : List UInt8) : (writeT S i k b).2.next = S.next := by
  unfold writeT
  split
  · rfl
  · split
    · rfl
    · split <;> rfl
theorem renameT_next (S : Tr) (p q : List Nm) : (renameT S p q).2.next = S.next := by
  unfold renameT
  split
  · rfl
  · split
    · rfl
    · split
      · rfl
      · split <;> rfl
section
variable {w : World} {R : Nat → Role} {a base : Nat} {S : Tr}
theorem save_t (H : TS base w R a S) (hnx : S.next ≤ 9000000000000000000) : Calls Try.prog 19 #[.pointer (some ⟨a, 0, none⟩)] w (SavePost w S) := by
  obtain ⟨⟨B, dv, hv', tv, hx⟩, ⟨pa, nm, o⟩, hR⟩ := H
  exact save_c hx o hnx
theorem list_t (H : TS base w R a S) (i : Int) : Calls Try.prog 18 #[.pointer (some ⟨a, 0, none⟩), .int .i64 i] w (ListPost w (listT S i)) := by
  obtain ⟨⟨B, dv, hv', tv, hx⟩, ⟨pa, nm, o⟩, hR⟩ := H
  exact list_c hx o i
/-- What is told of what was moved, and moved back. -/
theorem TS.moves (H : TS base w R a S) {p q : List Nm} (h : (renameT S p q).1 = 0) : ∃ j S', renameT S p q = (0, S') ∧ lookT S p = (j, 0) ∧ lookT S q = (0, 22) ∧ lookT S' q = (j, 0) ∧ lookT S' p = (0, 22) ∧
    (∀ i, attrsT S' i = attrsT S i) ∧ listT S' j = listT S j ∧ renameT S' q p = (0, S) := by
  obtain ⟨_, ⟨pa, nm, o⟩, _⟩ := H
  obtain ⟨j, S', h1, h2, h3, h4, h5, h6, h7, h8⟩ := o.moves h
  exact ⟨j, S', h1, by rw [lookT, h2], by rw [lookT, h3], by rw [lookT, h4], by rw [lookT, h5], h6, h7, h8⟩
end
end Go.Proofs.Ytnigfnikajejaaa
