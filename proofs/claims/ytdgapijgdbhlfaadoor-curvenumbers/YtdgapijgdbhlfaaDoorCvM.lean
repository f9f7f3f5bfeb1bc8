/- Rows of bytes that may grow in their places: for regions that draw their order. -/
import Derived.Test.YtdgapijgdbhlfaaDoorCvT
import Derived.Test.YtdgapijgdbhlfaaDoorCuY
import Derived.Test.YtdgapijgdbhlfaaDoorCvA
namespace Go.Proofs.YtdgapijgdbhlfaaDoor
open Go Go.RowKit

def isB (v : Value) : Prop := ∃ b : UInt8, v = .int .u8 (b.toNat : Nat)
def byteV : Value → UInt8
  | .int .u8 b => UInt8.ofNat b.toNat
  | _ => 0
theorem byteV_isB {v : Value} (h : isB v) : Value.int .u8 ((byteV v).toNat : Nat) = v := by
  obtain ⟨b, rfl⟩ := h
  simp [byteV]
/-- A row of n bytes in a block of its own, from B on. -/
def OB (B n : Nat) (v : Value) (w : World) : Prop := ∃ g cap cs, v = .slice (some ⟨g, 0, none⟩) n cap ∧ B ≤ g ∧ w.heap[g]? = some (.cells cs 5 (0, 0)) ∧ cs.size = cap ∧ n ≤ cap ∧ cap ≤ maxLen ∧ ∀ j, j < n → ∃ u, cs[j]? = some u ∧ isB u
theorem take_bytes {cs : Array Value} {n : Nat} (h : ∀ j, j < n → ∃ u, cs[j]? = some u ∧ isB u) (hn : n ≤ cs.size) : ∃ xs : List UInt8, xs.length = n ∧ cs.toList.take n = bcells xs := by
  refine ⟨(cs.toList.take n).map byteV, by simp; omega, ?_⟩
  apply List.ext_getElem
  · simp [bcells]
  · intro j h1 h2
    have hj : j < n := by simp at h1; omega
    obtain ⟨u, e, hb⟩ := h j hj
    have hu : (cs.toList.take n)[j] = u := by
      have : cs.toList[j]? = some u := by simpa using e
      rw [List.getElem_take]
      exact (List.getElem?_eq_some_iff.1 this).2
    simp only [bcells, List.getElem_map, hu]
    exact (byteV_isB hb).symm
theorem OB.row {B n : Nat} {v : Value} {w : World} (h : OB B n v w) : ∃ g cap xs, v = .slice (some ⟨g, 0, none⟩) n cap ∧ xs.length = n ∧ ORow w B g cap xs := by
  obtain ⟨g, cap, cs, rfl, h1, h2, h3, h4, h5, h6⟩ := h
  obtain ⟨xs, hl, ht⟩ := take_bytes h6 (by omega)
  exact ⟨g, cap, xs, rfl, hl, h1, by omega, h5, cs, h2, h3, by rw [hl]; exact ht⟩
theorem OB.bsl {B n : Nat} {v : Value} {w : World} (h : OB B n v w) : ∃ ao cap xs, v = .slice ao n cap ∧ xs.length = n ∧ BSl w v xs := by
  obtain ⟨g, cap, xs, rfl, hl, ho⟩ := h.row
  have := ho.bsl
  rw [hl] at this
  exact ⟨_, _, xs, rfl, hl, this⟩
theorem bytes_of_take {cs : Array Value} {xs : List UInt8} (h : cs.toList.take xs.length = bcells xs) : ∀ j, j < xs.length → ∃ u, cs[j]? = some u ∧ isB u := by
  intro j hj
  refine ⟨.int .u8 ((xs[j]).toNat : Nat), ?_, ⟨_, rfl⟩⟩
  have h1 : (cs.toList.take xs.length)[j]? = (bcells xs)[j]? := by rw [h]
  rw [List.getElem?_take, if_pos hj] at h1
  have h2 : (bcells xs)[j]? = some (.int .u8 ((xs[j]).toNat : Nat)) := by simp [bcells, List.getElem?_eq_getElem hj]
  rw [h2] at h1
  simpa using h1
theorem OB.ofOwns {w : World} {B n : Nat} {v : Value} {xs : List UInt8} (h : w.ownsRow B 5 1 v n (bcells xs)) (hn : 0 < n) : OB B n v w := by
  have hl : xs.length = n := by have := h.1; rw [bcells_length] at this; omega
  obtain ⟨g, cap, e, h1, h2, h3, cur, h4, h5, h6⟩ := ORow.ofOwns h (by intro e; rw [e] at hl; simp at hl; omega)
  exact ⟨g, cap, cur, by rw [e, hl], h1, h4, h5, by omega, h3, by rw [← hl]; exact bytes_of_take h6⟩
theorem OB.ofBlock {w : World} {B g n : Nat} {xs : List UInt8} (h : w.heap[g]? = some (.cells (bcells xs).toArray 5 (0, 0))) (hl : xs.length = n) (hB : B ≤ g) (hm : n ≤ 1000) : OB B n (.slice (some ⟨g, 0, none⟩) n n) w := by
  refine ⟨g, n, (bcells xs).toArray, rfl, hB, h, by simp [bcells_length, hl], Nat.le_refl _, by unfold maxLen; omega, ?_⟩
  rw [← hl]
  exact bytes_of_take (by rw [List.take_of_length_le (by simp [bcells_length])])
/-- What is laid new, or turned in rows of bytes from B on. -/
structure BR (B : Nat) (x y : World) : Prop where
  old : Below B x y
  size : x.heap.size ≤ y.heap.size
  byt : ∀ (g : Nat) (cs : Array Value), B ≤ g → x.heap[g]? = some (.cells cs 5 (0, 0)) → ∃ cs', y.heap[g]? = some (.cells cs' 5 (0, 0)) ∧ cs'.size = cs.size ∧ ∀ (j : Nat) (u : Value), cs[j]? = some u → isB u → ∃ u', cs'[j]? = some u' ∧ isB u'
  oth : ∀ (g : Nat) (o : Obj), B ≤ g → (∀ cs, o ≠ .cells cs 5 (0, 0)) → x.heap[g]? = some o → y.heap[g]? = some o
theorem BR.ofEx {B : Nat} {x y : World} (h : Ex x y) (hB : B ≤ x.heap.size) : BR B x y := by
  have hk : ∀ g o, x.heap[g]? = some o → y.heap[g]? = some o := fun g o e => by
    rw [h.block g (by
      rcases Nat.lt_or_ge g x.heap.size with h2 | h2
      · exact h2
      · rw [Array.getElem?_eq_none h2] at e; cases e)]
    exact e
  exact ⟨Below.mono h hB, h.size, fun g cs _ e => ⟨cs, hk _ _ e, rfl, fun j u h1 h2 => ⟨u, h1, h2⟩⟩, fun g o _ _ e => hk _ _ e⟩
theorem BR.trans {B : Nat} {x y z : World} (h : BR B x y) (k : BR B y z) : BR B x z := by
  refine ⟨Below.trans h.old k.old, Nat.le_trans h.size k.size, fun g cs hg e => ?_, fun g o hg ho e => k.oth g o hg ho (h.oth g o hg ho e)⟩
  obtain ⟨c1, e1, s1, b1⟩ := h.byt g cs hg e
  obtain ⟨c2, e2, s2, b2⟩ := k.byt g c1 hg e1
  refine ⟨c2, e2, by omega, fun j u h1 h2 => ?_⟩
  obtain ⟨u1, h3, h4⟩ := b1 j u h1 h2
  exact b2 j u1 h3 h4
theorem OB.br {B n : Nat} {v : Value} {x y : World} (h : OB B n v x) (k : BR B x y) : OB B n v y := by
  obtain ⟨g, cap, cs, e, h1, h2, h3, h4, h5, h6⟩ := h
  obtain ⟨c1, e1, s1, b1⟩ := k.byt g cs h1 h2
  refine ⟨g, cap, c1, e, h1, e1, by omega, h4, h5, fun j hj => ?_⟩
  obtain ⟨u, h7, h8⟩ := h6 j hj
  exact b1 j u h7 h8
theorem BR.setRow {B g : Nat} {w : World} {cs cs' : Array Value} (hB : B ≤ g) (h : w.heap[g]? = some (.cells cs 5 (0, 0))) (hs : cs'.size = cs.size) (hb : ∀ (j : Nat) (u : Value), cs[j]? = some u → isB u → ∃ u', cs'[j]? = some u' ∧ isB u') : BR B w (w.setRow g cs') := by
  refine ⟨below_setRow (Below.refl _ w) hB _, by simp, fun k c hk e => ?_, fun k o hk ho e => ?_⟩
  · by_cases hkg : k = g
    · subst hkg
      rw [h] at e
      cases e
      exact ⟨cs', setRow_heap _ _ _ _ _ _ h, hs, hb⟩
    · exact ⟨c, by rw [setRow_other _ _ _ _ hkg]; exact e, rfl, fun j u h1 h2 => ⟨u, h1, h2⟩⟩
  · by_cases hkg : k = g
    · subst hkg
      rw [h] at e
      cases e
      exact absurd rfl (ho _)
    · rw [setRow_other _ _ _ _ hkg]; exact e
/-- append: in its place, or into a new one. -/
theorem run_append_two (w : World) {g n cap : Nat} {cur : Array Value} {xs : List UInt8} (ty : TypeId) (hg : w.heap[g]? = some (.cells cur 5 (0, 0))) (hnc : n ≤ cap) (hcm : cap ≤ maxLen) (hcs : cur.size = cap) (hx : xs.length = n) (htake : cur.toList.take n = bcells xs)
    (x : Value) (m : Nat) (ys : List UInt8) (hm : ys.length = m) (hs : Src Tryd.prog 1 22 x m (bcells ys) w) (hb : n + m ≤ 1000) (h0 : 0 < n + m) :
    ∃ v' w', (Builtin.append_ #[22, 22] ty #[.slice (some ⟨g, 0, none⟩) n cap, x]).run Tryd.prog w = .ok v' w' ∧
      ((n + m ≤ cap ∧ v' = .slice (some ⟨g, 0, none⟩) (n + m) cap ∧ w' = w.setRow g (cur.toList.take n ++ bcells ys ++ cur.toList.drop (n + m)).toArray) ∨ (Ex w w' ∧ w'.ownsRow w.heap.size 5 1 v' (n + m) (bcells (xs ++ ys)))) := by
  obtain ⟨i, hi, hz0, hz1, hz2⟩ := info_parts Tryd.infoU8
  have hown : w.ownsRow 0 5 1 (.slice (some ⟨g, 0, none⟩) n cap) n (bcells xs) := ⟨by rw [bcells_length]; omega, .inr ⟨g, cap, cur, rfl, Nat.zero_le _, hg, hnc, hcm, by omega, by simpa using htake⟩⟩
  have hl : (bcells ys).length = m := by rw [bcells_length]; exact hm
  by_cases hroom : n + m ≤ cap
  · have hfit : n * i.size + (bcells ys).length ≤ cur.size := by rw [hl, hcs, hz1]; omega
    have hst := run_storeCells_at Tryd.prog g (n * i.size) 5 (bcells ys) 0 cur w hg (by simpa using hfit) hs.one
    simp only [Nat.add_zero] at hst
    have hsi : Src Tryd.prog i.size 22 x m (bcells ys) w := by rw [hz1]; exact hs
    have hr : (Builtin.append_ #[22, 22] ty #[.slice (some ⟨g, 0, none⟩) n cap, x]).run Tryd.prog w = .ok (.slice (some ⟨g, 0, none⟩) (n + m) cap) (w.setRow g (cur.toList.take (n * i.size) ++ bcells ys ++ cur.toList.drop (n * i.size + (bcells ys).length)).toArray) := by
      simp [Builtin.append_, run_underlying Tryd.underlying22, sizeOf, typeInfo, hi, hs.len, hroom, hsi.cells, Addr.add_lit, hst]
    rw [hz1, Nat.mul_one, hl] at hr
    exact ⟨_, _, hr, .inl ⟨hroom, rfl, rfl⟩⟩
  · have holds : ∀ j u, (bcells xs)[j]? = some u → w.cell? ((⟨g, 0, none⟩ : Addr).add j) = some u := hown.cells (g := g) rfl
    have hsi : Src Tryd.prog i.size 22 x m (bcells ys) w := by rw [hz1]; exact hs
    have hold := run_firstCells_some (P := Tryd.prog) w.drew i.size n ⟨g, 0, none⟩ n cap (bcells xs) (by rw [hz1]; exact hown.1) (by simpa using holds)
    have hr := run_append_grow_src (P := Tryd.prog) w 22 22 ty 5 i _ Tryd.underlying22 hi hz0 (some ⟨g, 0, none⟩) n cap (bcells xs) hold x m (bcells ys) hsi (by omega) (by omega) (growslice_fits (by omega) (by rw [hz2]; omega))
    have hlen : (bcells xs ++ bcells ys).length = (n + m) * 1 := by rw [List.length_append, bcells_length, hl]; omega
    have hge := grownCap_ge w (n + m) cap 5
    have hcm : grownCap w (n + m) cap 5 ≤ maxLen := grownCap_le_maxLen w (n + m) cap _ (by unfold maxLen; omega)
    refine ⟨_, _, hr, .inr ⟨⟨rfl, rfl, rfl, by simp, fun k hk => Below.heap_alloc w.drew _ k hk⟩, ?_⟩⟩
    rw [bcells_append]
    refine ⟨hlen, .inr ⟨w.heap.size, _, _, rfl, Nat.le_refl _, heap_alloc_new w.drew _, hge, hcm, ?_, ?_⟩⟩
    · simp only [Array.size_append, List.size_toArray, size_zeroCells, hlen]
      rw [show (Value.int IntKind.u8 0).cells.size = 1 from rfl, Nat.mul_one]
      omega
    · simp only [Array.toList_append]
      rw [← hlen]
      exact List.take_left
section
variable {o : Oper} {ρ : Operand → Value} {w : World} {Φ : Value → World → Prop}
/-- append of one row of bytes onto another. -/
theorem gives_app {s x : Operand} {B n m : Nat} {vs vx : Value} (ho : o.op = .call { callee := .builtin .append, args := #[s, x], argTypes := #[22, 22] }) (hs : ρ s = vs) (hx : ρ x = vx) (h1 : OB B n vs w) (h2 : OB B m vx w) (hB : B ≤ w.heap.size) (hb : n + m ≤ 1000) (h0 : 0 < n + m)
    (h : ∀ v w', OB B (n + m) v w' → BR B w w' → Φ v w') : Gives Tryd.prog o ρ w Φ := by
  obtain ⟨g, cap, cs, rfl, a1, a2, a3, a4, a5, a6⟩ := h1
  obtain ⟨ao, cp, ys, e2, l2, b2⟩ := h2.bsl
  have src := b2.src
  rw [l2] at src
  obtain ⟨xs, lx, tx⟩ := take_bytes a6 (by omega)
  obtain ⟨v', w', hr, hc⟩ := run_append_two w o.type a2 a4 a5 a3 lx tx vx m ys l2 src hb h0
  refine Gives.value (v := v') (w' := w') ?_ ?_
  · unfold execOp
    simp only [ho, resolve, invoke, builtin, Sem.run_bind, Sem.run_pure, Result.andThen_ok, List.map_toArray, List.map_cons, List.map_nil, hs, hx, hr]
  · rcases hc with ⟨hroom, rfl, rfl⟩ | ⟨hex, hown⟩
    · have hz : (cs.toList.take n ++ bcells ys ++ cs.toList.drop (n + m)).toArray.size = cs.size := by simp [bcells_length]; omega
      have hby : ∀ (j : Nat) (u : Value), cs[j]? = some u → isB u → ∃ u', (cs.toList.take n ++ bcells ys ++ cs.toList.drop (n + m)).toArray[j]? = some u' ∧ isB u' := by
        intro j u h1 h2
        have hj : j < cs.size := by
          rcases Nat.lt_or_ge j cs.size with h3 | h3
          · exact h3
          · rw [Array.getElem?_eq_none h3] at h1; cases h1
        by_cases hjn : j < n
        · refine ⟨u, ?_, h2⟩
          rw [List.getElem?_toArray, List.append_assoc, List.getElem?_append_left (by simp; omega), List.getElem?_take, if_pos hjn]
          simpa using h1
        · by_cases hjm : j < n + m
          · refine ⟨.int .u8 ((ys[j - n]).toNat : Nat), ?_, ⟨_, rfl⟩⟩
            rw [List.getElem?_toArray, List.append_assoc, List.getElem?_append_right (by simp; omega), List.getElem?_append_left (by simp [bcells_length]; omega)]
            simp [bcells, Nat.min_eq_left (show n ≤ cs.size by omega), List.getElem?_eq_getElem (show j - n < ys.length by omega)]
          · refine ⟨u, ?_, h2⟩
            rw [List.getElem?_toArray, List.getElem?_append_right (by simp [bcells_length]; omega), List.getElem?_drop]
            have : n + m + (j - (cs.toList.take n ++ bcells ys).length) = j := by simp [bcells_length]; omega
            rw [this]
            simpa using h1
      refine h _ _ ⟨g, cap, _, rfl, a1, setRow_heap _ _ _ _ _ _ a2, by rw [hz]; exact a3, hroom, a5, fun j hj => ?_⟩ (BR.setRow a1 a2 hz hby)
      by_cases hjn : j < n
      · obtain ⟨u, h1, h2⟩ := a6 j hjn
        exact hby j u h1 h2
      · refine ⟨.int .u8 ((ys[j - n]).toNat : Nat), ?_, ⟨_, rfl⟩⟩
        rw [List.getElem?_toArray, List.append_assoc, List.getElem?_append_right (by simp; omega), List.getElem?_append_left (by simp [bcells_length]; omega)]
        simp [bcells, Nat.min_eq_left (show n ≤ cs.size by omega), List.getElem?_eq_getElem (show j - n < ys.length by omega)]
    · refine h _ _ ?_ (BR.ofEx hex hB)
      have := OB.ofOwns hown h0
      obtain ⟨g', cap', cs', e, q1, q2⟩ := this
      exact ⟨g', cap', cs', e, by omega, q2⟩
end
theorem region_br {id : Nat} {l : List Oper} {Q : Exit → Act → World → Prop} (U : Nat) {a : Act} {w : World} (hk : growOk l.toArray U = true)
    (F : Nat → Value → World → Prop) (hst : ∀ i v x y, BR w.heap.size x y → F i v x → F i v y)
    (hU : eachL (fun i o => ∀ vs w1, BR w.heap.size w w1 → (∀ j, j < U → (edgesOf o).contains j = true → F j (vs j) w1) → Gives Tryd.prog o (actsTo l.toArray a (fun _ => true) vs U).eval w1 fun v w2 => BR w.heap.size w1 w2 ∧ F i v w2 ∧ ∀ (j : Nat) (u : Value), j < U → F j u w1 → True) 0 (l.take U))
    (hrest : ∀ vs w1, BR w.heap.size w w1 → (∀ i, i < U → F i (vs i) w1) → wpAny Tryd.prog .any l.toArray Q (l.length - U) (listedU l.length U) (actsTo l.toArray a (fun _ => true) vs U) w1) :
    (Code.region id l.toArray true).wp Tryd.prog Q a w := by
  refine region_grow U (by kernel_rfl) hk (BR w.heap.size) (BR.ofEx (Ex.drew w) (Nat.le_refl _)) (fun _ _ _ => BR.trans) F hst (fun _ _ _ _ => True) (fun i o ho hi vs w1 he hd => ?_) (fun vs w1 h1 h2 _ => hrest vs w1 h1 h2)
  have hg : (l.take U)[i]? = some o := by
    rw [List.getElem?_take, if_pos hi]
    simpa using ho
  have := eachL_at (l.take U) 0 hU i o hg vs w1 he (fun j hj hjc => hd j hj (by simpa using hjc))
  rw [Nat.zero_add] at this
  exact this
end Go.Proofs.YtdgapijgdbhlfaaDoor
