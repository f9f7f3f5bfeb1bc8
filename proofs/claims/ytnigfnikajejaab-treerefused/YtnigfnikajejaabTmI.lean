/- What becomes of a tree in memory: one thing turns, one more, one less. -/
import Derived.Test.YtnigfnikajejaabTmG
namespace Go.Proofs.Ytnigfnikajejaab
open Go Go.RowKit

/-- What a call may turn: the tree's own blocks; what was there keeps its part. -/
structure Moved (R R' : Nat → Role) (w w' : World) : Prop where
  old : ∀ k, k < w.heap.size → R' k = R k
  keeps : Keeps (fun k => R k ≠ .no) w w'
theorem Moved.refl (R : Nat → Role) (w : World) : Moved R R w w := ⟨fun _ _ => rfl, Keeps.refl _ _⟩
theorem Moved.trans {R R' R2 : Nat → Role} {w w' w2 : World} (h : Moved R R' w w') (k : Moved R' R2 w' w2) : Moved R R2 w w2 :=
  ⟨fun i hi => (k.old i (Nat.lt_of_lt_of_le hi h.keeps.size)).trans (h.old i hi),
   ⟨k.keeps.os.trans h.keeps.os, k.keeps.tape.trans h.keeps.tape, k.keeps.output.trans h.keeps.output, Nat.le_trans h.keeps.size k.keeps.size, fun i hi hn =>
     (k.keeps.block i (Nat.lt_of_lt_of_le hi h.keeps.size) (fun e => hn (by rw [← h.old i hi]; exact e))).trans (h.keeps.block i hi hn)⟩⟩
theorem Moved.fresh {R : Nat → Role} {w w' : World} (hb : Below w.heap.size w w') : Moved R R w w' := ⟨fun _ _ => rfl, Keeps.ofFresh hb⟩

theorem ERow.congr {w : World} {B B' : Nat → Nat} {v : Value} {l : HL} (h : ERow w B v l) (hB : ∀ e ∈ l, B' e.2 = B e.2) : ERow w B' v l := by
  unfold ERow at h ⊢
  have : ecells B' l = ecells B l := by
    unfold ecells
    clear h
    induction l with
    | nil => rfl
    | cons e l ih =>
      rw [List.flatMap_cons, List.flatMap_cons, ih fun x hx => hB x (List.mem_cons_of_mem _ hx), hB e List.mem_cons_self]
  rw [this]; exact h
theorem ERow.lt {w : World} {B : Nat → Nat} {v : Value} {l : HL} (h : ERow w B v l) : ∀ k, v.ownBlock = some k → k < w.heap.size := fun k e => (World.ownsRow.lt h k e).2
theorem ERow.nil (w : World) (B : Nat → Nat) : ERow w B (.slice none 0 0) [] := World.ownsRow_nil _ _ _ _

section
variable {w w' : World} {R : Nat → Role} {a : Nat} {S : Tr} {B : Nat → Nat} {dv hv : Nat → Value} {tv : Value}
theorem setT_length (l : List Th) (i : Nat) (f : Th → Th) : (setT l i f).length = l.length := by simp [setT]
theorem tcells_setT (l : List Th) (i : Nat) (f : Th → Th) (hf : ∀ x, (f x).id = x.id) : tcells B (setT l i f) = tcells B l := by
  unfold tcells setT
  rw [List.map_map]
  apply List.map_congr_left
  intro x _
  simp only [Function.comp]
  split
  · rw [hf]
  · rfl

/-- One thing turns: its own blocks alone, and the tree's. -/
theorem TXb.one {T : Nat → Prop} (H : TXb w R a S B dv hv tv) (hi : Inc S.ths) {x : Th} (hx : x ∈ S.ths) (f : Th → Th) (hf : ∀ y, (f y).id = y.id) {dv' hv' : Value}
    (hk : Keeps T w w') (hT : ∀ k, k < w.heap.size → T k → R k = .th x.id ∨ R k = .hel x.id ∨ R k = .dat x.id ∨ R k = .tree)
    (htop : w'.heap[a]? = some (.cells #[tv, .int .i64 S.next, .int .i64 (sizeT (setT S.ths x.id f))] 57 (0, 0)))
    (ht : ThB w' (f x) (B x.id) dv' hv') (hd : Held w' dv' (f x).d) (he : ERow w' B hv' (f x).h)
    (hdo : ∀ k, dv'.ownBlock = some k → (k < w.heap.size ∧ R k = .dat x.id) ∨ w.heap.size ≤ k)
    (hho : ∀ k, hv'.ownBlock = some k → (k < w.heap.size ∧ R k = .hel x.id) ∨ w.heap.size ≤ k)
    (hap : ∀ k, w.heap.size ≤ k → dv'.ownBlock = some k → hv'.ownBlock = some k → False) :
    ∃ R', TXb w' R' a ⟨setT S.ths x.id f, S.next⟩ B (upd dv x.id dv') (upd hv x.id hv') tv ∧ ∀ k, k < w.heap.size → R' k = R k := by
  classical
  refine ⟨fun k => if w.heap.size ≤ k then (if dv'.ownBlock = some k then .dat x.id else if hv'.ownBlock = some k then .hel x.id else .no) else R k, ?_, fun k hk => if_neg (by omega)⟩
  have hR : ∀ k, k < w.heap.size → (if w.heap.size ≤ k then (if dv'.ownBlock = some k then Role.dat x.id else if hv'.ownBlock = some k then .hel x.id else .no) else R k) = R k := fun k hk => if_neg (by omega)
  have hmem : ∀ y, y ∈ setT S.ths x.id f → (y = f x) ∨ (y ∈ S.ths ∧ y.id ≠ x.id) := fun y hy => by
    obtain ⟨z, hz, rfl⟩ := mem_setT.1 hy
    by_cases e : z.id = x.id
    · rw [if_pos e, hi.uniq hz hx e]; exact .inl rfl
    · rw [if_neg e]; exact .inr ⟨hz, e⟩
  have hfx : (f x).id = x.id := hf x
  have hu1 : ∀ {β : Type} (g : Nat → β) (v : β), upd g x.id v (f x).id = v := fun g v => by rw [hfx]; exact upd_self _ _ _
  refine ⟨htop, ?_, ?_, ?_, ?_, ?_, ?_, ?_, ?_, ?_, ?_⟩
  · rw [hR _ (lt_of_block H.top)]; exact H.ra
  · rw [setT_length, tcells_setT _ _ _ hf]
    exact hk.row H.row fun k e h => by
      have h1 := H.rrow k e
      have := hT k (H.row.lt k e).2 h
      rw [h1] at this
      rcases this with h | h | h | h <;> cases h
  · intro k e; rw [hR _ (H.row.lt k e).2]; exact H.rrow k e
  · intro y hy
    rcases hmem y hy with rfl | ⟨hy, hne⟩
    · rw [hu1, hu1, hfx]; exact ht
    · rw [upd_ne _ _ hne, upd_ne _ _ hne]
      exact (H.th y hy).keep hk fun h => by
        have := hT _ (H.th y hy).lt h
        rw [H.rth y hy] at this
        rcases this with h | h | h | h
        · exact hne (by injection h)
        all_goals cases h
  · intro y hy
    rcases hmem y hy with rfl | ⟨hy, hne⟩
    · rw [hfx, hR _ (H.th x hx).lt]; exact H.rth x hx
    · rw [hR _ (H.th y hy).lt]; exact H.rth y hy
  · intro y hy
    rcases hmem y hy with rfl | ⟨hy, hne⟩
    · rw [hu1]; exact hd
    · rw [upd_ne _ _ hne]
      exact (H.dat y hy).keep hk fun k e h => by
        have := hT _ ((H.dat y hy).lt k e) h
        rw [H.rdat y hy k e] at this
        rcases this with h | h | h | h
        · cases h
        · cases h
        · exact hne (by injection h)
        · cases h
  · intro y hy k e
    rcases hmem y hy with rfl | ⟨hy, hne⟩
    · rw [hu1] at e
      rcases hdo k e with ⟨h1, h2⟩ | h1
      · rw [hR k h1, h2, hfx]
      · rw [if_pos h1, if_pos e, hfx]
    · rw [upd_ne _ _ hne] at e
      rw [hR k ((H.dat y hy).lt k e)]; exact H.rdat y hy k e
  · intro y hy
    rcases hmem y hy with rfl | ⟨hy, hne⟩
    · rw [hu1]; exact he
    · rw [upd_ne _ _ hne]
      exact (H.hel y hy).keep hk fun k e h => by
        have := hT _ ((H.hel y hy).lt k e) h
        rw [H.rhel y hy k e] at this
        rcases this with h | h | h | h
        · cases h
        · exact hne (by injection h)
        · cases h
        · cases h
  · intro y hy k e
    rcases hmem y hy with rfl | ⟨hy, hne⟩
    · rw [hu1] at e
      rcases hho k e with ⟨h1, h2⟩ | h1
      · rw [hR k h1, h2, hfx]
      · rw [if_pos h1, if_neg (fun h => hap k h1 h e), if_pos e, hfx]
    · rw [upd_ne _ _ hne] at e
      rw [hR k ((H.hel y hy).lt k e)]; exact H.rhel y hy k e
  · intro k e
    by_cases h1 : w.heap.size ≤ k
    · rw [if_pos h1] at e
      by_cases h2 : dv'.ownBlock = some k
      · exact hd.lt k h2
      · rw [if_neg h2] at e
        by_cases h3 : hv'.ownBlock = some k
        · exact he.lt k h3
        · rw [if_neg h3] at e; exact absurd rfl e
    · rw [if_neg h1] at e
      exact Nat.lt_of_lt_of_le (H.lim k e) hk.size

/-- One thing more, of the next number, empty, at a new block. -/
theorem TXb.add {T : Nat → Prop} (H : TXb w R a S B dv hv tv) (hlt : ∀ x ∈ S.ths, x.id < S.next) (hh : ∀ x ∈ S.ths, ∀ e ∈ x.h, e.2 < S.next) {x : Th} (hxi : x.id = S.next) (hxd : x.d = []) (hxh : x.h = []) {h : Nat} (hh0 : w.heap.size ≤ h) {tv' : Value}
    (hk : Keeps T w w') (hT : ∀ k, k < w.heap.size → T k → R k = .row ∨ R k = .tree)
    (htop : w'.heap[a]? = some (.cells #[tv', .int .i64 (S.next + 1 : Nat), .int .i64 (sizeT S.ths)] 57 (0, 0)))
    (ht : ThB w' x h (.slice none 0 0) (.slice none 0 0)) (hrow : w'.ownsRow 0 53 1 tv' (S.ths.length + 1) (tcells B S.ths ++ [.pointer (some ⟨h, 0, none⟩)]))
    (hto : ∀ k, tv'.ownBlock = some k → (k < w.heap.size ∧ R k = .row) ∨ (w.heap.size ≤ k ∧ k ≠ h)) :
    ∃ R', TXb w' R' a ⟨S.ths ++ [x], S.next + 1⟩ (upd B S.next h) (upd dv S.next (.slice none 0 0)) (upd hv S.next (.slice none 0 0)) tv' ∧ ∀ k, k < w.heap.size → R' k = R k := by
  classical
  refine ⟨fun k => if w.heap.size ≤ k then (if k = h then .th S.next else if tv'.ownBlock = some k then .row else .no) else R k, ?_, fun k hk => if_neg (by omega)⟩
  have hR : ∀ k, k < w.heap.size → (if w.heap.size ≤ k then (if k = h then Role.th S.next else if tv'.ownBlock = some k then .row else .no) else R k) = R k := fun k hk => if_neg (by omega)
  have hB : ∀ y ∈ S.ths, upd B S.next h y.id = B y.id := fun y hy => upd_ne _ _ (Nat.ne_of_lt (hlt y hy))
  have hne : ∀ y ∈ S.ths, y.id ≠ S.next := fun y hy => Nat.ne_of_lt (hlt y hy)
  have hmem : ∀ y, y ∈ S.ths ++ [x] → y ∈ S.ths ∨ y = x := fun y hy => by
    rcases List.mem_append.1 hy with h | h
    · exact .inl h
    · exact .inr (List.mem_singleton.1 h)
  refine ⟨?_, ?_, ?_, ?_, ?_, ?_, ?_, ?_, ?_, ?_, ?_⟩
  · rw [show sizeT (S.ths ++ [x]) = sizeT S.ths by rw [sizeT_append]; simp [sizeT, hxd]]
    exact htop
  · rw [hR _ (lt_of_block H.top)]; exact H.ra
  · have : tcells (upd B S.next h) (S.ths ++ [x]) = tcells B S.ths ++ [.pointer (some ⟨h, 0, none⟩)] := by
      unfold tcells
      rw [List.map_append, List.map_cons, List.map_nil, hxi, upd_self]
      congr 1
      exact List.map_congr_left fun y hy => by rw [hB y hy]
    rw [this, List.length_append]
    exact hrow
  · intro k e
    rcases hto k e with ⟨h1, h2⟩ | ⟨h1, h2⟩
    · rw [hR k h1]; exact h2
    · rw [if_pos h1, if_neg h2, if_pos e]
  · intro y hy
    rcases hmem y hy with hy | rfl
    · rw [hB y hy, upd_ne _ _ (hne y hy), upd_ne _ _ (hne y hy)]
      exact (H.th y hy).keep hk fun h => by
        have := hT _ (H.th y hy).lt h
        rw [H.rth y hy] at this
        rcases this with h | h <;> cases h
    · rw [hxi, upd_self, upd_self, upd_self]; exact ht
  · intro y hy
    rcases hmem y hy with hy | rfl
    · rw [hB y hy, hR _ (H.th y hy).lt]; exact H.rth y hy
    · rw [hxi, upd_self, if_pos hh0, if_pos rfl]
  · intro y hy
    rcases hmem y hy with hy | rfl
    · rw [upd_ne _ _ (hne y hy)]
      exact (H.dat y hy).keep hk fun k e h => by
        have := hT _ ((H.dat y hy).lt k e) h
        rw [H.rdat y hy k e] at this
        rcases this with h | h <;> cases h
    · rw [hxi, upd_self, hxd]; exact Held.nil _
  · intro y hy k e
    rcases hmem y hy with hy | rfl
    · rw [upd_ne _ _ (hne y hy)] at e
      rw [hR k ((H.dat y hy).lt k e)]; exact H.rdat y hy k e
    · rw [hxi, upd_self] at e; cases e
  · intro y hy
    rcases hmem y hy with hy | rfl
    · rw [upd_ne _ _ (hne y hy)]
      refine ((H.hel y hy).keep hk fun k e h => ?_).congr fun e he => upd_ne _ _ (Nat.ne_of_lt (hh y hy e he))
      have := hT _ ((H.hel y hy).lt k e) h
      rw [H.rhel y hy k e] at this
      rcases this with h | h <;> cases h
    · rw [hxi, upd_self, hxh]; exact ERow.nil _ _
  · intro y hy k e
    rcases hmem y hy with hy | rfl
    · rw [upd_ne _ _ (hne y hy)] at e
      rw [hR k ((H.hel y hy).lt k e)]; exact H.rhel y hy k e
    · rw [hxi, upd_self] at e; cases e
  · intro k e
    by_cases h1 : w.heap.size ≤ k
    · rw [if_pos h1] at e
      by_cases h2 : k = h
      · rw [h2]; exact ht.lt
      · rw [if_neg h2] at e
        by_cases h3 : tv'.ownBlock = some k
        · exact (hrow.lt k h3).2
        · rw [if_neg h3] at e; exact absurd rfl e
    · rw [if_neg h1] at e
      exact Nat.lt_of_lt_of_le (H.lim k e) hk.size

/-- Some things less. -/
theorem TXb.del {T : Nat → Prop} (H : TXb w R a S B dv hv tv) {l : List Th} (hl : ∀ x ∈ l, x ∈ S.ths) {tv' : Value}
    (hk : Keeps T w w') (hT : ∀ k, k < w.heap.size → T k → R k = .row ∨ R k = .tree)
    (htop : w'.heap[a]? = some (.cells #[tv', .int .i64 S.next, .int .i64 (sizeT l)] 57 (0, 0)))
    (hrow : w'.ownsRow 0 53 1 tv' l.length (tcells B l)) (hto : ∀ k, tv'.ownBlock = some k → R k = .row) :
    TXb w' R a ⟨l, S.next⟩ B dv hv tv' := by
  refine ⟨htop, H.ra, hrow, hto, ?_, fun y hy => H.rth y (hl y hy), ?_, fun y hy => H.rdat y (hl y hy), ?_, fun y hy => H.rhel y (hl y hy), fun k e => Nat.lt_of_lt_of_le (H.lim k e) hk.size⟩
  · intro y hy
    have hy := hl y hy
    exact (H.th y hy).keep hk fun h => by
      have := hT _ (H.th y hy).lt h
      rw [H.rth y hy] at this
      rcases this with h | h <;> cases h
  · intro y hy
    have hy := hl y hy
    exact (H.dat y hy).keep hk fun k e h => by
      have := hT _ ((H.dat y hy).lt k e) h
      rw [H.rdat y hy k e] at this
      rcases this with h | h <;> cases h
  · intro y hy
    have hy := hl y hy
    exact (H.hel y hy).keep hk fun k e h => by
      have := hT _ ((H.hel y hy).lt k e) h
      rw [H.rhel y hy k e] at this
      rcases this with h | h <;> cases h
end
end Go.Proofs.Ytnigfnikajejaab
