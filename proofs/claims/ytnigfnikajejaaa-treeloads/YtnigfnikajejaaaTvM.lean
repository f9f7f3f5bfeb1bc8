/- Load, in memory: one thing more at its place; remember; what a load may turn. -/
import Derived.Test.YtnigfnikajejaaaTvC
import Derived.Test.YtnigfnikajejaaaAtH
import Derived.Test.YtnigfnikajejaaaRdD
namespace Go.Proofs.Ytnigfnikajejaaa
open Go Go.RowKit

/-- The same of Raw, its bytes in a block of their own. -/
def RawH (a : Nat) (g : Option Nat) (bs : List UInt8) (r : List UInt8 × Nat × Int) (xs : List UInt8) (w : World) (e : Ending) (w' : World) : Prop :=
  ∃ v', e = .returned v' ∧ Held w' v' xs ∧ (∀ k, v'.ownBlock = some k → w.heap.size ≤ k) ∧ Took a g bs r.2.1 r.2.2 w w'
set_option maxHeartbeats 400000 in
theorem raw_h (n : Int) (hn0 : ¬ n < 0) (hn1 : n ≤ 140737488355328) (w : World) {a : Nat} {g : Option Nat} {bs : List UInt8} {p : Nat} {why : Int} (h : WR w a g bs p why) :
    Calls Try.prog 87 #[.pointer (some ⟨a, 0, none⟩), .int .i64 n] w fun e w' => RawH a g bs (tk bs p why n.toNat) (tk bs p why n.toNat).1 w e w' := by
  have hlen : (tk bs p why n.toNat).1.length ≤ 140737488355328 := by have := tk_len bs p why n.toNat; omega
  have HN : Hid (Calls _ _ _ _ _) := take_c n (by omega) (by omega) w h
  generalize tk bs p why n.toNat = r at *
  go_enter Try.func87, Try.ntmps87
  go_wp2_with fail
  rw [show max n 0 = n by omega]
  refine HN.out.mono ?_
  rintro e w1 ⟨v1, rfl, hb1, ho1, ht1⟩
  have HT : Hid (Took a g bs r.2.1 r.2.2 w w1) := ht1
  clear ht1 ho1 HN
  go_wp2_with fail
  refine (clone_c v1 r.1 _ hb1 (by omega)).mono ?_
  rintro e w2 ⟨v2, rfl, ho2, hb2⟩
  have HR : Hid (RawH a g bs r r.1 w (.returned v2) w2) := ⟨v2, rfl, ownsRow_mono ho2 (Nat.zero_le _), fun k hk => Nat.le_trans HT.out.keeps.size (ho2.lt k hk).1, HT.out.fresh hb2⟩
  clear ho2 hb2 HT hb1
  go_wp2
  go_ret
  exact HR.out

/-- What a load may turn: the reader and the tree's own blocks. -/
structure MvR (ar : Nat) (R R' : Nat → Role) (w w' : World) : Prop where
  old : ∀ k, k < w.heap.size → R' k = R k
  keeps : Keeps (fun k => k = ar ∨ R k ≠ .no) w w'
theorem MvR.refl (ar : Nat) (R : Nat → Role) (w : World) : MvR ar R R w w := ⟨fun _ _ => rfl, Keeps.refl _ _⟩
theorem MvR.trans {ar : Nat} {R R' R2 : Nat → Role} {w w' w2 : World} (h : MvR ar R R' w w') (k : MvR ar R' R2 w' w2) : MvR ar R R2 w w2 :=
  ⟨fun i hi => (k.old i (Nat.lt_of_lt_of_le hi h.keeps.size)).trans (h.old i hi),
   ⟨k.keeps.os.trans h.keeps.os, k.keeps.tape.trans h.keeps.tape, k.keeps.output.trans h.keeps.output, Nat.le_trans h.keeps.size k.keeps.size, fun i hi hn =>
     (k.keeps.block i (Nat.lt_of_lt_of_le hi h.keeps.size) (fun e => hn (e.imp id fun e => by rw [← h.old i hi]; exact e))).trans (h.keeps.block i hi hn)⟩⟩
theorem MvR.fresh {ar : Nat} {R : Nat → Role} {w w' : World} (hb : Below w.heap.size w w') : MvR ar R R w w' := ⟨fun _ _ => rfl, Keeps.ofFresh hb⟩
theorem MvR.still {ar : Nat} {R : Nat → Role} {w w' : World} (hb : Keeps (fun _ => False) w w') : MvR ar R R w w' := ⟨fun _ _ => rfl, hb.mono fun _ _ h => h.elim⟩
theorem MvR.took {ar : Nat} {R : Nat → Role} {w w' : World} (hb : Keeps (fun k => k = ar) w w') : MvR ar R R w w' := ⟨fun _ _ => rfl, hb.mono fun _ _ h => .inl h⟩
theorem MvR.moved {ar : Nat} {R R' : Nat → Role} {w w' : World} (h : Moved R R' w w') : MvR ar R R' w w' := ⟨h.old, h.keeps.mono fun _ _ h => .inr h⟩

section
variable {w w' : World} {R : Nat → Role} {a : Nat} {S : Tr} {B : Nat → Nat} {dv hv : Nat → Value} {tv : Value}
/-- One thing more, at its place among all, empty, at a new block. -/
theorem TXb.put {T : Nat → Prop} (H : TXb w R a S B dv hv tv) {x : Th} (hni : ∀ y ∈ S.ths, y.id ≠ x.id) (hkid : ∀ y ∈ S.ths, ∀ e ∈ y.h, e.2 ≠ x.id) (hxd : x.d = []) (hxh : x.h = []) {h : Nat} (hh0 : w.heap.size ≤ h) {tv' : Value} {L : List Th} (hm : ∀ y, y ∈ L → y ∈ S.ths ∨ y = x) (hsz : sizeT L = sizeT S.ths)
    (hk : Keeps T w w') (hT : ∀ k, k < w.heap.size → T k → R k = .row ∨ R k = .tree ∨ R k = .no)
    (htop : w'.heap[a]? = some (.cells #[tv', .int .i64 S.next, .int .i64 (sizeT S.ths)] 65 (0, 0)))
    (ht : ThB w' x h (.slice none 0 0) (.slice none 0 0)) (hrow : w'.ownsRow 0 61 1 tv' L.length (tcells (upd B x.id h) L))
    (hto : ∀ k, tv'.ownBlock = some k → (k < w.heap.size ∧ R k = .row) ∨ (w.heap.size ≤ k ∧ k ≠ h)) :
    ∃ R', TXb w' R' a ⟨L, S.next⟩ (upd B x.id h) (upd dv x.id (.slice none 0 0)) (upd hv x.id (.slice none 0 0)) tv' ∧ ∀ k, k < w.heap.size → R' k = R k := by
  classical
  refine ⟨fun k => if w.heap.size ≤ k then (if k = h then .th x.id else if tv'.ownBlock = some k then .row else .no) else R k, ?_, fun k hk => if_neg (by omega)⟩
  have hR : ∀ k, k < w.heap.size → (if w.heap.size ≤ k then (if k = h then Role.th x.id else if tv'.ownBlock = some k then .row else .no) else R k) = R k := fun k hk => if_neg (by omega)
  refine ⟨?_, ?_, hrow, ?_, ?_, ?_, ?_, ?_, ?_, ?_, ?_⟩
  · rw [hsz]; exact htop
  · rw [hR _ (lt_of_block H.top)]; exact H.ra
  · intro k e
    rcases hto k e with ⟨h1, h2⟩ | ⟨h1, h2⟩
    · rw [hR k h1]; exact h2
    · rw [if_pos h1, if_neg h2, if_pos e]
  · intro y hy
    rcases hm y hy with hy | rfl
    · rw [upd_ne _ _ (hni y hy), upd_ne _ _ (hni y hy), upd_ne _ _ (hni y hy)]
      exact (H.th y hy).keep hk fun h => by
        have := hT _ (H.th y hy).lt h
        rw [H.rth y hy] at this
        rcases this with h | h | h <;> cases h
    · rw [upd_self, upd_self, upd_self]; exact ht
  · intro y hy
    rcases hm y hy with hy | rfl
    · rw [upd_ne _ _ (hni y hy), hR _ (H.th y hy).lt]; exact H.rth y hy
    · rw [upd_self, if_pos hh0, if_pos rfl]
  · intro y hy
    rcases hm y hy with hy | rfl
    · rw [upd_ne _ _ (hni y hy)]
      exact (H.dat y hy).keep hk fun k e h => by
        have := hT _ ((H.dat y hy).lt k e) h
        rw [H.rdat y hy k e] at this
        rcases this with h | h | h <;> cases h
    · rw [upd_self, hxd]; exact Held.nil _
  · intro y hy k e
    rcases hm y hy with hy | rfl
    · rw [upd_ne _ _ (hni y hy)] at e
      rw [hR k ((H.dat y hy).lt k e)]; exact H.rdat y hy k e
    · rw [upd_self] at e; cases e
  · intro y hy
    rcases hm y hy with hy | rfl
    · rw [upd_ne _ _ (hni y hy)]
      refine ((H.hel y hy).keep hk fun k e h => ?_).congr fun e he => upd_ne _ _ (hkid y hy e he)
      have := hT _ ((H.hel y hy).lt k e) h
      rw [H.rhel y hy k e] at this
      rcases this with h | h | h <;> cases h
    · rw [upd_self, hxh]; exact ERow.nil _ _
  · intro y hy k e
    rcases hm y hy with hy | rfl
    · rw [upd_ne _ _ (hni y hy)] at e
      rw [hR k ((H.hel y hy).lt k e)]; exact H.rhel y hy k e
    · rw [upd_self] at e; cases e
  · intro k e
    by_cases h1 : w.heap.size ≤ k
    · rw [if_pos h1] at e
      by_cases h2 : k = h
      · rw [h2]; exact ht.lt
      · rw [if_neg h2] at e
        by_cases h3 : tv'.ownBlock = some k
        · exact (hrow.lt k h3).2
        · rw [if_neg h3] at e; exact absurd rfl e
    · rw [if_neg h1] at e
      exact Nat.lt_of_lt_of_le (H.lim k e) hk.size

/-- One thing turns: its own blocks alone, and the tree's. -/
theorem TXb.oneN {T : Nat → Prop} (H : TXb w R a S B dv hv tv) (hi : Inc S.ths) {x : Th} (hx : x ∈ S.ths) (f : Th → Th) (hf : ∀ y, (f y).id = y.id) {dv' hv' : Value}
    (hk : Keeps T w w') (hT : ∀ k, k < w.heap.size → T k → R k = .th x.id ∨ R k = .hel x.id ∨ R k = .dat x.id ∨ R k = .tree ∨ R k = .no)
    (htop : w'.heap[a]? = some (.cells #[tv, .int .i64 S.next, .int .i64 (sizeT (setT S.ths x.id f))] 65 (0, 0)))
    (ht : ThB w' (f x) (B x.id) dv' hv') (hd : Held w' dv' (f x).d) (he : ERow w' B hv' (f x).h)
    (hdo : ∀ k, dv'.ownBlock = some k → (k < w.heap.size ∧ R k = .dat x.id) ∨ w.heap.size ≤ k)
    (hho : ∀ k, hv'.ownBlock = some k → (k < w.heap.size ∧ R k = .hel x.id) ∨ w.heap.size ≤ k)
    (hap : ∀ k, w.heap.size ≤ k → dv'.ownBlock = some k → hv'.ownBlock = some k → False) :
    ∃ R', TXb w' R' a ⟨setT S.ths x.id f, S.next⟩ B (upd dv x.id dv') (upd hv x.id hv') tv ∧ ∀ k, k < w.heap.size → R' k = R k := by
  classical
  refine ⟨fun k => if w.heap.size ≤ k then (if dv'.ownBlock = some k then .dat x.id else if hv'.ownBlock = some k then .hel x.id else .no) else R k, ?_, fun k hk => if_neg (by omega)⟩
  have hR : ∀ k, k < w.heap.size → (if w.heap.size ≤ k then (if dv'.ownBlock = some k then Role.dat x.id else if hv'.ownBlock = some k then .hel x.id else .no) else R k) = R k := fun k hk => if_neg (by omega)
  have hmem : ∀ y, y ∈ setT S.ths x.id f → (y = f x) ∨ (y ∈ S.ths ∧ y.id ≠ x.id) := fun y hy => by
    obtain ⟨z, hz, rfl⟩ := mem_setT.1 hy
    by_cases e : z.id = x.id
    · rw [if_pos e, hi.uniq hz hx e]; exact .inl rfl
    · rw [if_neg e]; exact .inr ⟨hz, e⟩
  have hfx : (f x).id = x.id := hf x
  have hu1 : ∀ {β : Type} (g : Nat → β) (v : β), upd g x.id v (f x).id = v := fun g v => by rw [hfx]; exact upd_self _ _ _
  refine ⟨htop, ?_, ?_, ?_, ?_, ?_, ?_, ?_, ?_, ?_, ?_⟩
  · rw [hR _ (lt_of_block H.top)]; exact H.ra
  · rw [setT_length, tcells_setT _ _ _ hf]
    exact hk.row H.row fun k e h => by
      have h1 := H.rrow k e
      have := hT k (H.row.lt k e).2 h
      rw [h1] at this
      rcases this with h | h | h | h | h <;> cases h
  · intro k e; rw [hR _ (H.row.lt k e).2]; exact H.rrow k e
  · intro y hy
    rcases hmem y hy with rfl | ⟨hy, hne⟩
    · rw [hu1, hu1, hfx]; exact ht
    · rw [upd_ne _ _ hne, upd_ne _ _ hne]
      exact (H.th y hy).keep hk fun h => by
        have := hT _ (H.th y hy).lt h
        rw [H.rth y hy] at this
        rcases this with h | h | h | h | h
        · exact hne (by injection h)
        all_goals cases h
  · intro y hy
    rcases hmem y hy with rfl | ⟨hy, hne⟩
    · rw [hfx, hR _ (H.th x hx).lt]; exact H.rth x hx
    · rw [hR _ (H.th y hy).lt]; exact H.rth y hy
  · intro y hy
    rcases hmem y hy with rfl | ⟨hy, hne⟩
    · rw [hu1]; exact hd
    · rw [upd_ne _ _ hne]
      exact (H.dat y hy).keep hk fun k e h => by
        have := hT _ ((H.dat y hy).lt k e) h
        rw [H.rdat y hy k e] at this
        rcases this with h | h | h | h | h
        · cases h
        · cases h
        · exact hne (by injection h)
        · cases h
        · cases h
  · intro y hy k e
    rcases hmem y hy with rfl | ⟨hy, hne⟩
    · rw [hu1] at e
      rcases hdo k e with ⟨h1, h2⟩ | h1
      · rw [hR k h1, h2, hfx]
      · rw [if_pos h1, if_pos e, hfx]
    · rw [upd_ne _ _ hne] at e
      rw [hR k ((H.dat y hy).lt k e)]; exact H.rdat y hy k e
  · intro y hy
    rcases hmem y hy with rfl | ⟨hy, hne⟩
    · rw [hu1]; exact he
    · rw [upd_ne _ _ hne]
      exact (H.hel y hy).keep hk fun k e h => by
        have := hT _ ((H.hel y hy).lt k e) h
        rw [H.rhel y hy k e] at this
        rcases this with h | h | h | h | h
        · cases h
        · exact hne (by injection h)
        · cases h
        · cases h
        · cases h
  · intro y hy k e
    rcases hmem y hy with rfl | ⟨hy, hne⟩
    · rw [hu1] at e
      rcases hho k e with ⟨h1, h2⟩ | h1
      · rw [hR k h1, h2, hfx]
      · rw [if_pos h1, if_neg (fun h => hap k h1 h e), if_pos e, hfx]
    · rw [upd_ne _ _ hne] at e
      rw [hR k ((H.hel y hy).lt k e)]; exact H.rhel y hy k e
  · intro k e
    by_cases h1 : w.heap.size ≤ k
    · rw [if_pos h1] at e
      by_cases h2 : dv'.ownBlock = some k
      · exact hd.lt k h2
      · rw [if_neg h2] at e
        by_cases h3 : hv'.ownBlock = some k
        · exact he.lt k h3
        · rw [if_neg h3] at e; exact absurd rfl e
    · rw [if_neg h1] at e
      exact Nat.lt_of_lt_of_le (H.lim k e) hk.size

/-- A thing at its place among all. -/
def insT (l : List Th) (x : Th) : List Th := l.take (posT l x.id) ++ x :: l.drop (posT l x.id)
theorem mem_insT (l : List Th) (x y : Th) : y ∈ insT l x ↔ y ∈ l ∨ y = x := by
  unfold insT
  rw [List.mem_append, List.mem_cons]
  have : y ∈ l ↔ y ∈ l.take (posT l x.id) ∨ y ∈ l.drop (posT l x.id) := by rw [← List.mem_append, List.take_append_drop]
  rw [this]
  constructor
  · rintro (h | h | h)
    · exact .inl (.inl h)
    · exact .inr h
    · exact .inl (.inr h)
  · rintro ((h | h) | h)
    · exact .inl h
    · exact .inr (.inr h)
    · exact .inr (.inl h)
theorem insT_length (l : List Th) (x : Th) : (insT l x).length = l.length + 1 := by
  unfold insT
  have := posT_le l x.id
  simp
  omega
theorem insT_inc {l : List Th} (hi : Inc l) {x : Th} (hn : ∀ y ∈ l, y.id ≠ x.id) : Inc (insT l x) := by
  unfold insT
  have h1 : ∀ y ∈ l.take (posT l x.id), y.id < x.id := fun y hy => by
    obtain ⟨k, hk, rfl⟩ := List.mem_iff_getElem.1 hy
    rw [List.length_take] at hk
    have := posT_lt (h := l) (i := x.id) (k := k) (by omega) (by omega)
    unfold tlt at this
    rw [List.getElem_take]
    simpa using this
  have h2 : ∀ y ∈ l.drop (posT l x.id), x.id < y.id := fun y hy => by
    obtain ⟨k, hk, rfl⟩ := List.mem_iff_getElem.1 hy
    rw [List.length_drop] at hk
    have := posT_ge hi (i := x.id) (k := posT l x.id + k) (by omega) (by omega)
    unfold tlt at this
    rw [List.getElem_drop]
    have hne := hn (l[posT l x.id + k]'(by omega)) (List.getElem_mem _)
    simp at this
    omega
  refine List.pairwise_append.2 ⟨List.Pairwise.sublist (List.take_sublist _ _) hi, List.pairwise_cons.2 ⟨h2, List.Pairwise.sublist (List.drop_sublist _ _) hi⟩, ?_⟩
  intro y hy z hz
  rcases List.mem_cons.1 hz with rfl | hz
  · exact h1 y hy
  · exact Nat.lt_trans (h1 y hy) (h2 z hz)
theorem insT_size (l : List Th) (x : Th) (h : x.d = []) : sizeT (insT l x) = sizeT l := by
  unfold insT
  have : sizeT l = sizeT (l.take (posT l x.id)) + sizeT (l.drop (posT l x.id)) := by rw [← sizeT_append, List.take_append_drop]
  rw [sizeT_append, this]
  unfold sizeT
  rw [List.map_cons, List.sum_cons, h]
  simp
theorem tcells_insT (B : Nat → Nat) (l : List Th) (x : Th) : tcells B (insT l x) = (tcells B l).take (posT l x.id) ++ [.pointer (some ⟨B x.id, 0, none⟩)] ++ (tcells B l).drop (posT l x.id) := by
  unfold insT tcells
  rw [List.map_append, List.map_cons, List.map_take, List.map_drop, List.append_assoc]
  rfl

set_option maxHeartbeats 2000000 in
set_option maxRecDepth 100000 in
theorem remember_c (H : TXb w R a S B dv hv tv) (hi : Inc S.ths) (hc : S.ths.length ≤ 200) {x : Th} {h : Nat} (ht : ThB w x h (.slice none 0 0) (.slice none 0 0)) (hno : R h = .no) :
    Calls Try.prog 68 #[.pointer (some ⟨a, 0, none⟩), .pointer (some ⟨h, 0, none⟩)] w fun e w' =>
      if (findT S.ths x.id).isSome = true ∨ 200 ≤ S.ths.length then e = .returned (.bool false) ∧ Below w.heap.size w w'
      else e = .returned (.bool true) ∧ ∃ tv', w'.heap[a]? = some (.cells #[tv', .int .i64 S.next, .int .i64 (sizeT S.ths)] 65 (0, 0)) ∧ w'.ownsRow 0 61 1 tv' (S.ths.length + 1) ((tcells B S.ths).take (posT S.ths x.id) ++ [.pointer (some ⟨h, 0, none⟩)] ++ (tcells B S.ths).drop (posT S.ths x.id)) ∧
        Keeps (fun k => k = a ∨ tv.ownBlock = some k) w w' ∧ (tv'.ownBlock = tv.ownBlock ∨ ∀ k, tv'.ownBlock = some k → w.heap.size ≤ k) := by
  have HH := hidden H
  have HP := hidden (tplace_c H hi (by omega) x.id)
  have c0 := ht.c0
  obtain ⟨Q, hQ⟩ : ∃ Q : Ending → World → Prop, Q = fun e w' => if (findT S.ths x.id).isSome = true ∨ 200 ≤ S.ths.length then e = .returned (.bool false) ∧ Below w.heap.size w w'
      else e = .returned (.bool true) ∧ ∃ tv', w'.heap[a]? = some (.cells #[tv', .int .i64 S.next, .int .i64 (sizeT S.ths)] 65 (0, 0)) ∧ w'.ownsRow 0 61 1 tv' (S.ths.length + 1) ((tcells B S.ths).take (posT S.ths x.id) ++ [.pointer (some ⟨h, 0, none⟩)] ++ (tcells B S.ths).drop (posT S.ths x.id)) ∧
        Keeps (fun k => k = a ∨ tv.ownBlock = some k) w w' ∧ (tv'.ownBlock = tv.ownBlock ∨ ∀ k, tv'.ownBlock = some k → w.heap.size ≤ k) := ⟨_, rfl⟩
  rw [← hQ]
  have HQ := hidden hQ
  have hpl := posT_le S.ths x.id
  have hxa : h ≠ a := fun e => by have h1 := H.ra; rw [← e, hno] at h1; cases h1
  obtain ⟨ao, cap, rfl, hcc, hcm, _⟩ := H.prow.shape
  have hta : (Value.slice ao S.ths.length cap).ownBlock ≠ some a := fun e => by have h1 := H.rrow a e; rw [H.ra] at h1; cases h1
  have hth : (Value.slice ao S.ths.length cap).ownBlock ≠ some h := fun e => by have h1 := H.rrow h e; rw [hno] at h1; cases h1
  unfold maxLen at hcm
  clear H hQ hi
  go_enter Try.func68, Try.ntmps68
  go_wp2_with fail
  refine HP.out.mono ?_
  rintro e w1 ⟨rfl, hb1⟩
  have HH1 := hidden (HH.out.fresh hb1)
  have HB1 := hidden hb1
  have k0 := HH1.out.t0
  clear hb1 c0
  cases hf : (findT S.ths x.id).isSome with
  | true =>
    go_wp2_with fail
    rw [HQ.out]
    simp only [hf, true_or, if_true]
    exact ⟨rfl, HB1.out⟩
  | false =>
    by_cases h200 : 200 ≤ S.ths.length
    · have hi2 : (200 : Int) ≤ (S.ths.length : Int) := by omega
      go_wp2_with fail
      rw [HQ.out]
      show if (findT S.ths x.id).isSome = true ∨ 200 ≤ S.ths.length then _ else _
      rw [if_pos (.inr h200)]
      exact ⟨rfl, HB1.out⟩
    · have hi2 : ¬ (200 : Int) ≤ (S.ths.length : Int) := by omega
      have HRT : Hid (∀ W, Below w1.heap.size w1 W → W.cell? ⟨a, 0, none⟩ = some (.slice ao S.ths.length cap)) := fun W hW => (HH1.out.fresh hW).t0
      have HI : Hid (Calls Try.prog 86 #[.slice ao S.ths.length cap, .int .i64 (posT S.ths x.id), .slice (some ⟨w1.heap.size, 0, none⟩) 1 1] (w1.alloc (.cells #[.pointer (some ⟨h, 0, none⟩)] 61)) (InsPost 0 61 1 (.slice ao S.ths.length cap) S.ths.length ((tcells B S.ths).take (posT S.ths x.id) ++ [.pointer (some ⟨h, 0, none⟩)] ++ (tcells B S.ths).drop (posT S.ths x.id)) (w1.alloc (.cells #[.pointer (some ⟨h, 0, none⟩)] 61)))) := by
        have hrow := (HH1.out.row).alloc (.cells #[.pointer (some ⟨h, 0, none⟩)] 61)
        exact insP_c 0 S.ths.length (posT S.ths x.id) _ (tcells B S.ths) [.pointer (some ⟨h, 0, none⟩)] _ hrow (by omega) hpl (tcells_one B S.ths) w1.heap.size (heap_alloc_new w1 _) (fun e => by have := (HH1.out.row.lt _ e).2; omega) rfl (fun u hu => by rw [List.mem_singleton.1 hu]; rfl) (Nat.zero_le _)
      go_wp2_with fail
      refine HI.out.mono ?_
      rintro e w2 ⟨tv', rfl, ho, hk, hat⟩
      obtain ⟨ao2, cp2, rfl⟩ := ownsRow_shape ho
      have htop : w2.heap[a]? = some (.cells #[.slice ao S.ths.length cap, .int .i64 S.next, .int .i64 (sizeT S.ths)] 65 (0, 0)) := (hk.block a (by have := lt_of_block HH1.out.top; simp; omega) hta).trans ((Below.heap_alloc w1 _ a (lt_of_block HH1.out.top)).trans HH1.out.top)
      obtain ⟨c20, _, _, cf2⟩ := cells3 htop
      have HO := hidden ho
      have HK := hidden hk
      have HA := hidden hat
      have HTP := hidden htop
      clear ho hk hat htop
      go_wp2_with fail
      rw [HQ.out]
      show if (findT S.ths x.id).isSome = true ∨ 200 ≤ S.ths.length then _ else _
      rw [if_neg (by rw [hf]; rintro (h | h); cases h; exact h200 h)]
      have hs1 := HB1.out.size
      have hks : Keeps (fun k => k = a) w2 (w2.setCell ⟨a, 0, none⟩ (.slice ao2 (S.ths.length + 1) cp2)) := (Keeps.refl (fun k => k = a) w2).setCell (p := ⟨a, 0, none⟩) (.inl rfl) _
      have hao : (Value.slice ao2 (S.ths.length + 1) cp2).ownBlock ≠ some a := fun e => by
        rcases HA.out with h | h
        · rw [h] at e; exact hta e
        · have h1 := h a e
          have h2 := lt_of_block HH1.out.top
          simp at h1
          omega
      refine ⟨rfl, _, top0 HTP.out _, hks.row HO.out fun k e h => hao (by rw [← h]; exact e), ?_, HA.out.imp id fun h k e => ?_⟩
      · exact ((Keeps.ofFresh HB1.out).alloc _).trans ((HK.out.mono fun k _ h => .inr h).trans (hks.mono fun k _ h => .inl h))
      · have := h k e
        simp at this
        omega
end
end Go.Proofs.Ytnigfnikajejaaa
