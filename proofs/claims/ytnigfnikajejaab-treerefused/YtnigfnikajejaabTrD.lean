/- What the calls of a tree answer, both ways: Remove and Rename. -/
import Derived.Test.YtnigfnikajejaabTrC
namespace Go.Proofs.Ytnigfnikajejaab
open Go Go.RowKit

theorem walk_append (l : List Th) : ∀ (p q : List Nm) (i : Nat), walkT l i (p ++ q) = match walkT l i p with
    | none => none
    | some j => walkT l j q
  | [], q, i => rfl
  | m :: p, q, i => by
    rw [List.cons_append, walkT, walkT]
    cases findT l (i : Int) with
    | none => rfl
    | some x =>
      simp only
      cases getH x.h m with
      | none => rfl
      | some j => exact walk_append l p q j
theorem last_split {p : List Nm} (h : p ≠ []) : p = p.dropLast ++ [lastN p] := by
  have := List.dropLast_concat_getLast h
  rw [lastN, List.getLastD_eq_getLast?, List.getLast?_eq_some_getLast h]
  exact this.symm
/-- k lies at j, or below. -/
def Under (l : List Th) (j k : Nat) : Prop := ∃ q, walkT l j q = some k

section
variable {S : Tr} {pa : Nat → Nat} {nm : Nat → Nm}
theorem Ok.step (o : Ok S pa nm) {q : List Nm} {n : Nm} {i j : Nat} (hi : ∃ x ∈ S.ths, x.id = i) (h : walkT S.ths i (q ++ [n]) = some j) :
    ∃ x ∈ S.ths, walkT S.ths i q = some x.id ∧ getH x.h n = some j ∧ j ≠ 0 ∧ (∃ y ∈ S.ths, y.id = j) ∧ pa j = x.id ∧ nm j = n := by
  rw [walk_snoc] at h
  cases hw : walkT S.ths i q with
  | none => rw [hw] at h; cases h
  | some k =>
    rw [hw] at h
    obtain ⟨x, hx, rfl⟩ := o.walk_mem q i hi k hw
    simp only [findT_nat o.inc hx rfl] at h
    exact ⟨x, hx, rfl, h, o.mem_child hx h⟩
/-- One path leads to a thing. -/
theorem Ok.inj (o : Ok S pa nm) : ∀ (n : Nat) (p q : List Nm) (k : Nat), p.length ≤ n → walkT S.ths 0 p = some k → walkT S.ths 0 q = some k → p = q := by
  intro n
  induction n with
  | zero =>
    intro p q k hp h1 h2
    obtain rfl : p = [] := List.eq_nil_of_length_eq_zero (by omega)
    cases h1
    rcases List.eq_nil_or_concat q with rfl | ⟨q', m, rfl⟩
    · rfl
    · rw [List.concat_eq_append] at h2
      obtain ⟨x, _, _, _, h0, _⟩ := o.step o.rootMem h2
      exact absurd rfl h0
  | succ n ih =>
    intro p q k hp h1 h2
    rcases List.eq_nil_or_concat p with rfl | ⟨p', m, rfl⟩
    · exact ih [] q k (by simp) h1 h2
    · rw [List.concat_eq_append] at h1 hp ⊢
      obtain ⟨x, hx, a1, _, a0, _, a3, a4⟩ := o.step o.rootMem h1
      rcases List.eq_nil_or_concat q with rfl | ⟨q', m', rfl⟩
      · cases h2
        exact absurd rfl a0
      · rw [List.concat_eq_append] at h2 ⊢
        obtain ⟨y, hy, b1, _, _, _, b3, b4⟩ := o.step o.rootMem h2
        rw [a3] at b3
        rw [a4] at b4
        rw [← b3] at b1
        rw [ih p' q' x.id (by simp at hp; omega) a1 b1, b4]
theorem Ok.under_par (o : Ok S pa nm) {j : Nat} (hj : ∃ x ∈ S.ths, x.id = j) {x : Th} (hx : x ∈ S.ths) (h0 : x.id ≠ 0) (hne : x.id ≠ j) : Under S.ths j x.id ↔ Under S.ths j (pa x.id) := by
  constructor
  · rintro ⟨q, hq⟩
    rcases List.eq_nil_or_concat q with rfl | ⟨q', m, rfl⟩
    · cases hq; exact absurd rfl hne
    · rw [List.concat_eq_append] at hq
      obtain ⟨y, hy, b1, _, _, _, b3, _⟩ := o.step hj hq
      exact ⟨q', by rw [b3]; exact b1⟩
  · rintro ⟨q, hq⟩
    obtain ⟨y, hy, hye, _⟩ := o.par x hx h0
    refine ⟨q ++ [nm x.id], ?_⟩
    rw [walk_snoc, hq, ← hye]
    simp only [findT_nat o.inc hy rfl]
    exact (getH_some (o.srt y hy) _ _).2 ((o.held y hy _ _).2 ⟨h0, ⟨x, hx, rfl⟩, hye.symm, rfl⟩)
theorem Ok.under_root (o : Ok S pa nm) {j : Nat} (hj : ∃ x ∈ S.ths, x.id = j) (h0 : j ≠ 0) : ¬ Under S.ths j 0 := by
  rintro ⟨q, hq⟩
  rcases List.eq_nil_or_concat q with rfl | ⟨q', m, rfl⟩
  · cases hq; exact absurd rfl h0
  · rw [List.concat_eq_append] at hq
    obtain ⟨y, hy, b1, _, b2, _⟩ := o.step hj hq
    exact absurd rfl b2

/-- Up from a thing: does one pass by id? -/
def upO (L : List Nd) (id : Nat) : Nat → Int → Option Bool
  | 0, _ => none
  | F + 1, k => if k < 0 then some false else if k = (id : Int) then some true else match findD L k with
    | none => none
    | some x => upO L id F x.inn
theorem Ok.up (o : Ok S pa nm) {j : Nat} (hj : ∃ x ∈ S.ths, x.id = j) (h0 : j ≠ 0) {rk : Nat → Nat} (hrk : ∀ x ∈ S.ths, x.id ≠ 0 → rk (pa x.id) < rk x.id) :
    ∀ (F : Nat) (x : Th), x ∈ S.ths → rk x.id < F → ∃ b, upO (docOf S pa nm).L j (F + 1) x.id = some b ∧ (b = true ↔ Under S.ths j x.id) := by
  intro F
  induction F with
  | zero => intro x _ h; omega
  | succ F ih =>
    intro x hx h
    rw [upO, if_neg (by omega)]
    by_cases e : x.id = j
    · rw [if_pos (by rw [e])]
      exact ⟨true, rfl, by rw [e]; exact ⟨fun _ => ⟨[], rfl⟩, fun _ => rfl⟩⟩
    · rw [if_neg (by omega)]
      have hf : findD (docOf S pa nm).L (x.id : Int) = some (ndOf pa nm x) := by
        unfold docOf
        rw [findD_of, findT_nat o.inc hx rfl]
        rfl
      rw [hf]
      simp only
      by_cases hx0 : x.id = 0
      · have : (ndOf pa nm x).inn = -1 := if_pos hx0
        rw [this, upO, if_pos (by omega)]
        refine ⟨false, rfl, ?_⟩
        rw [hx0]
        exact ⟨fun h => (by cases h), fun h => absurd h (o.under_root hj h0)⟩
      · have : (ndOf pa nm x).inn = (pa x.id : Int) := if_neg hx0
        rw [this]
        obtain ⟨y, hy, hye, _⟩ := o.par x hx hx0
        have hlt := hrk x hx hx0
        rw [← hye] at hlt ⊢
        obtain ⟨b, h1, h2⟩ := ih y hy (by omega)
        refine ⟨b, h1, h2.trans ?_⟩
        rw [o.under_par hj hx hx0 e, ← hye]

/-- Does one pass by way on the way to p? -/
def leads (p way : List Nm) : Bool := decide (way.length < p.length) && decide (p.take way.length = way)
theorem Ok.leads (o : Ok S pa nm) {from' to : List Nm} {j i : Nat} (hf : walkT S.ths 0 from' = some j) (ht : walkT S.ths 0 to.dropLast = some i) (hne : to ≠ []) : leads to from' = true ↔ Under S.ths j i := by
  unfold Proofs.Ytnigfnikajejaab.leads
  rw [Bool.and_eq_true, decide_eq_true_eq, decide_eq_true_eq]
  have hl : to.dropLast.length + 1 = to.length := by
    rw [List.length_dropLast]
    have := List.length_pos_iff.2 hne
    omega
  constructor
  · rintro ⟨h1, h2⟩
    have h3 : to.dropLast = from' ++ to.dropLast.drop from'.length := by
      have : to.dropLast.take from'.length = from' := by
        rw [List.dropLast_eq_take, List.take_take, Nat.min_eq_left (by omega)]
        exact h2
      conv => lhs; rw [← List.take_append_drop from'.length to.dropLast, this]
    rw [h3, walk_append, hf] at ht
    exact ⟨_, ht⟩
  · rintro ⟨q, hq⟩
    have h1 : walkT S.ths 0 (from' ++ q) = some i := by rw [walk_append, hf]; exact hq
    have h2 := o.inj _ _ _ _ (Nat.le_refl _) ht h1
    have h3 : from'.length ≤ to.dropLast.length := by rw [h2]; simp
    refine ⟨by omega, ?_⟩
    have h4 := last_split hne
    rw [h2] at h4
    rw [h4]
    simp

def renameT (S : Tr) (from' to : List Nm) : Nat × Tr :=
  if from' = [] ∨ to = [] then (1, S) else match walkT S.ths 0 from' with
    | none => (22, S)
    | some j => if (roomT S.ths to).2 ≠ 0 then ((roomT S.ths to).2, S) else if leads to from' then (1, S)
      else (0, ⟨setT (setT S.ths ((walkT S.ths 0 from'.dropLast).getD 0) (cutH (lastN from'))) (roomT S.ths to).1 (putH (lastN to) j), S.next⟩)
def atD (L : List Nd) (i : Int) : Option Nat := L.findIdx? fun x => decide ((x.id : Int) = i)
def renameD (D : Dc) (from' to : List Nm) (up : Bool) : Nat × Dc :=
  if from' = [] ∨ to = [] then (1, D) else match lookD D.L 0 from' with
    | none => (22, D)
    | some j => if (holderD D.L to).2 ≠ 0 then ((holderD D.L to).2, D) else if up then (1, D)
      else (0, ⟨D.L.map fun y => if y.id = j then { y with inn := ((holderD D.L to).1 : Int), name := lastN to } else y, D.next⟩)

theorem Ok.rename (o : Ok S pa nm) {from' to : List Nm} {i1 i2 j : Nat} (hfe : from' ≠ []) (hf1 : walkT S.ths 0 from'.dropLast = some i1) (hf : walkT S.ths 0 from' = some j) (hr : roomT S.ths to = (i2, 0)) (hu : ¬ Under S.ths j i2) :
    Ok ⟨setT (setT S.ths i1 (cutH (lastN from'))) i2 (putH (lastN to) j), S.next⟩ (upd pa j i2) (upd nm j (lastN to)) ∧
    docOf ⟨setT (setT S.ths i1 (cutH (lastN from'))) i2 (putH (lastN to) j), S.next⟩ (upd pa j i2) (upd nm j (lastN to)) = ⟨(docOf S pa nm).L.map fun y => if y.id = j then { y with inn := (i2 : Int), name := lastN to } else y, S.next⟩ := by
  obtain ⟨hright, hw, x2, hx2, hx2i, hx2d, hx2g⟩ := roomT_ok o hr
  rw [last_split hfe] at hf
  obtain ⟨x1, hx1, a1, a2, hj0, ⟨xj, hxj, hxje⟩, a3, a4⟩ := o.step o.rootMem hf
  rw [hf1] at a1
  have hx1i : i1 = x1.id := Option.some.inj a1
  have hjm : ∃ x ∈ S.ths, x.id = j := ⟨xj, hxj, hxje⟩
  have hij : i2 ≠ j := by rintro rfl; exact hu ⟨[], rfl⟩
  generalize lastN from' = n1 at *
  generalize lastN to = n2 at *
  -- what becomes of a thing
  let g : Th → Th := fun z => if z.id = i2 then putH n2 j (if z.id = i1 then cutH n1 z else z) else (if z.id = i1 then cutH n1 z else z)
  have hset : setT (setT S.ths i1 (cutH n1)) i2 (putH n2 j) = S.ths.map g := by
    unfold setT
    rw [List.map_map]
    apply List.map_congr_left
    intro z _
    simp only [Function.comp, g]
    by_cases e1 : z.id = i1
    · rw [if_pos e1]; rfl
    · rw [if_neg e1]
  have hids : ∀ z, (g z).id = z.id := fun z => by simp only [g]; split <;> split <;> rfl
  have hdirs : ∀ z, (g z).dir = z.dir := fun z => by simp only [g]; split <;> split <;> rfl
  have hds : ∀ z, (g z).d = z.d := fun z => by simp only [g]; split <;> split <;> rfl
  have has : ∀ z, (g z).a = z.a := fun z => by simp only [g]; split <;> split <;> rfl
  have hmem : ∀ y, y ∈ S.ths.map g ↔ ∃ z ∈ S.ths, y = g z := fun y => by
    rw [List.mem_map]
    constructor
    · rintro ⟨z, h1, h2⟩; exact ⟨z, h1, h2.symm⟩
    · rintro ⟨z, h1, h2⟩; exact ⟨z, h1, h2.symm⟩
  have hex : ∀ k, (∃ u ∈ S.ths.map g, u.id = k) ↔ ∃ u ∈ S.ths, u.id = k := fun k => by
    constructor
    · rintro ⟨u, hu', hk⟩
      obtain ⟨z, hz, rfl⟩ := (hmem u).1 hu'
      exact ⟨z, hz, by rw [← hids z]; exact hk⟩
    · rintro ⟨z, hz, hk⟩
      exact ⟨g z, (hmem _).2 ⟨z, hz, rfl⟩, by rw [hids]; exact hk⟩
  have hgh : ∀ z ∈ S.ths, ∀ n k, (n, k) ∈ (g z).h ↔ (z.id = i2 ∧ n = n2 ∧ k = j) ∨ ((n, k) ∈ z.h ∧ k ≠ j) := by
    intro z hz n k
    have hcut : (n, k) ∈ (if z.id = i1 then cutH n1 z else z).h ↔ (n, k) ∈ z.h ∧ k ≠ j := by
      split
      · next e =>
        have : z = x1 := o.inc.uniq hz hx1 (by rw [e, hx1i])
        subst this
        show (n, k) ∈ delH z.h n1 ↔ _
        rw [mem_delH]
        constructor
        · rintro ⟨h1, h2⟩
          refine ⟨h1, fun h3 => h2 ?_⟩
          rw [h3] at h1
          exact (((o.held z hz n j).1 h1).2.2.2.symm).trans a4
        · rintro ⟨h1, h2⟩
          refine ⟨h1, fun h3 => h2 ?_⟩
          have h3' : n = n1 := h3
          subst h3'
          have := (getH_some (o.srt z hz) n k).2 h1
          rw [a2] at this
          exact (Option.some.inj this).symm
      · next e =>
        constructor
        · intro h1
          refine ⟨h1, fun h3 => e ?_⟩
          rw [h3] at h1
          rw [hx1i, ← a3]
          exact ((o.held z hz n j).1 h1).2.2.1.symm
        · exact fun h => h.1
    simp only [g]
    split
    · next e =>
      show (n, k) ∈ insH (if z.id = i1 then cutH n1 z else z).h n2 j ↔ _
      rw [mem_insH, hcut]
      simp [e]
    · next e => rw [hcut]; simp [e]
  have key : ∀ z ∈ S.ths, z.id ≠ 0 → pa z.id = i2 → nm z.id = n2 → False := by
    intro z hz h0 h1 h2
    rw [getH_none] at hx2g
    exact hx2g z.id ((o.held x2 hx2 _ _).2 ⟨h0, ⟨z, hz, rfl⟩, by rw [h1, hx2i], h2⟩)
  rw [hset]
  refine ⟨⟨?_, ?_, ?_, ?_, ?_, ?_, ?_, ?_, ?_, ?_, ?_, ?_, ?_⟩, ?_⟩
  · obtain ⟨r, t, h1, h2, h3⟩ := o.root
    exact ⟨g r, t.map g, by rw [h1]; rfl, by rw [hids, h2], by rw [hdirs, h3]⟩
  · refine inc_ids (l := S.ths) ?_ o.inc
    show (S.ths.map g).map (·.id) = _
    rw [List.map_map]
    exact List.map_congr_left fun z _ => hids z
  · intro y hy
    obtain ⟨z, hz, rfl⟩ := (hmem y).1 hy
    rw [hids]; exact o.lt z hz
  · intro y hy h0
    obtain ⟨z, hz, rfl⟩ := (hmem y).1 hy
    rw [hids] at h0 ⊢
    by_cases e : z.id = j
    · exact ⟨g x2, (hmem _).2 ⟨x2, hx2, rfl⟩, by rw [hids, e, upd_self, hx2i], by rw [hdirs]; exact hx2d⟩
    · obtain ⟨q, hq, hq1, hq2⟩ := o.par z hz h0
      exact ⟨g q, (hmem _).2 ⟨q, hq, rfl⟩, by rw [hids, upd_ne _ _ e]; exact hq1, by rw [hdirs]; exact hq2⟩
  · obtain ⟨rk, hrk⟩ := o.rank
    classical
    refine ⟨fun k => if Under S.ths j k then rk k + rk i2 + 1 else rk k, fun y hy h0 => ?_⟩
    obtain ⟨z, hz, rfl⟩ := (hmem y).1 hy
    rw [hids] at h0 ⊢
    simp only
    by_cases e : z.id = j
    · rw [e, upd_self, if_neg hu, if_pos ⟨[], rfl⟩]
      omega
    · rw [upd_ne _ _ e]
      have hlt := hrk z hz h0
      have hiff := o.under_par hjm hz h0 e
      by_cases hU : Under S.ths j z.id
      · rw [if_pos hU, if_pos (hiff.1 hU)]; omega
      · rw [if_neg hU, if_neg fun h => hU (hiff.2 h)]; exact hlt
  · intro a ha b hb h0 k0 e1 e2
    obtain ⟨z, hz, rfl⟩ := (hmem a).1 ha
    obtain ⟨z', hz', rfl⟩ := (hmem b).1 hb
    rw [hids] at h0 k0 e1 e2 ⊢
    rw [hids] at e1 e2 ⊢
    by_cases c1 : z.id = j
    · by_cases c2 : z'.id = j
      · rw [c1, c2]
      · rw [c1, upd_self, upd_ne _ _ c2] at e1 e2
        exact (key z' hz' k0 e1.symm e2.symm).elim
    · by_cases c2 : z'.id = j
      · rw [c2, upd_self, upd_ne _ _ c1] at e1 e2
        exact (key z hz h0 e1 e2).elim
      · rw [upd_ne _ _ c1, upd_ne _ _ c2] at e1 e2
        exact o.sib z hz z' hz' h0 k0 e1 e2
  · intro y hy h0
    obtain ⟨z, hz, rfl⟩ := (hmem y).1 hy
    rw [hids] at h0 ⊢
    by_cases e : z.id = j
    · rw [e, upd_self]; exact hright
    · rw [upd_ne _ _ e]; exact o.right z hz h0
  · intro y hy n k
    obtain ⟨z, hz, rfl⟩ := (hmem y).1 hy
    rw [hids, hex, hgh z hz, o.held z hz]
    by_cases e : k = j
    · subst e
      rw [upd_self, upd_self]
      constructor
      · rintro (⟨h1, h2, _⟩ | ⟨_, h⟩)
        · exact ⟨hj0, hjm, h1.symm, h2.symm⟩
        · exact absurd rfl h
      · rintro ⟨_, _, h1, h2⟩
        exact .inl ⟨h1.symm, h2.symm, rfl⟩
    · rw [upd_ne _ _ e, upd_ne _ _ e]
      simp [e]
  · intro y hy
    obtain ⟨z, hz, rfl⟩ := (hmem y).1 hy
    have hs : Srt (if z.id = i1 then cutH n1 z else z).h := by
      split
      · exact delH_srt (o.srt z hz) n1
      · exact o.srt z hz
    have hgo : z.id = i2 → getH (if z.id = i1 then cutH n1 z else z).h n2 = none := by
      intro e
      have : z = x2 := o.inc.uniq hz hx2 (by rw [e, hx2i])
      subst this
      rw [getH_none] at hx2g ⊢
      intro k hk
      refine hx2g k ?_
      split at hk
      · exact ((mem_delH _ _ _).1 hk).1
      · exact hk
    simp only [g]
    split
    · next e => exact insH_srt hs (hgo e) j
    · exact hs
  · intro y hy hd
    obtain ⟨z, hz, rfl⟩ := (hmem y).1 hy
    rw [hdirs] at hd
    rw [hds]; exact o.file z hz hd
  · intro y hy
    obtain ⟨z, hz, rfl⟩ := (hmem y).1 hy
    rw [hds, has]; exact o.att z hz
  · show (S.ths.map g).length ≤ 200
    rw [List.length_map]; exact o.cnt
  · show sizeT (S.ths.map g) ≤ 1048576
    have : sizeT (S.ths.map g) = sizeT S.ths := by
      unfold sizeT
      rw [List.map_map]
      congr 1
      exact List.map_congr_left fun z _ => by simp only [Function.comp]; rw [hds]
    rw [this]; exact o.bytes
  · unfold docOf
    simp only [List.map_map]
    congr 1
    apply List.map_congr_left
    intro z hz
    simp only [Function.comp]
    by_cases e : z.id = j
    · have h0 : z.id ≠ 0 := by omega
      have k1 : (ndOf pa nm z).id = j := e
      rw [if_pos k1]
      simp only [ndOf, hids, hdirs, hds, has, e, upd_self, if_neg hj0]
    · have k1 : ¬ (ndOf pa nm z).id = j := e
      rw [if_neg k1]
      exact ndOf_congr (hids z) (hdirs z) (hds z) (has z) (by rw [hids, upd_ne _ _ e]) (by rw [hids, upd_ne _ _ e])

theorem Ok.walk_holder (o : Ok S pa nm) {p : List Nm} {j : Nat} (hp : p ≠ []) (h : walkT S.ths 0 p = some j) : ∃ x ∈ S.ths, walkT S.ths 0 p.dropLast = some x.id ∧ getH x.h (lastN p) = some j ∧ j ≠ 0 ∧ pa j = x.id ∧ nm j = lastN p := by
  rw [last_split hp] at h
  obtain ⟨x, hx, a1, a2, a3, _, a5, a6⟩ := o.step o.rootMem h
  exact ⟨x, hx, a1, a2, a3, a5, a6⟩
theorem rename_both (o : Ok S pa nm) (from' to : List Nm) : ∃ pa' nm', Ok (renameT S from' to).2 pa' nm' ∧
    ∀ up : Bool, (∀ j, walkT S.ths 0 from' = some j → j ≠ 0 → (roomT S.ths to).2 = 0 → (up = true ↔ Under S.ths j (roomT S.ths to).1)) → renameD (docOf S pa nm) from' to up = ((renameT S from' to).1, docOf (renameT S from' to).2 pa' nm') := by
  unfold renameD renameT
  rw [roomT_eq o, o.look from' 0 o.rootMem]
  by_cases hp : from' = [] ∨ to = []
  · rw [if_pos hp]; exact ⟨pa, nm, o, fun _ _ => by rw [if_pos hp]⟩
  · rw [if_neg hp]
    have hfe : from' ≠ [] := fun h => hp (.inl h)
    have hte : to ≠ [] := fun h => hp (.inr h)
    cases hw : walkT S.ths 0 from' with
    | none => exact ⟨pa, nm, o, fun _ _ => by rw [if_neg hp]⟩
    | some j =>
      simp only
      obtain ⟨x1, hx1, b1, b2, b3, _⟩ := o.walk_holder hfe hw
      by_cases hr : (roomT S.ths to).2 = 0
      · have hr' : ¬ (roomT S.ths to).2 ≠ 0 := fun h => h hr
        rw [if_neg hr']
        obtain ⟨i2, hi2⟩ := roomT_zero hr
        have hl := o.leads hw (roomT_ok o hi2).2.1 hte
        by_cases hld : leads to from' = true
        · rw [if_pos hld]
          refine ⟨pa, nm, o, fun up hup => ?_⟩
          have : up = true := (hup j rfl b3 hr).2 (by rw [hi2]; exact hl.1 hld)
          rw [if_neg hp, if_neg hr', this, if_pos rfl]
        · rw [if_neg hld, hi2, b1]
          have hU : ¬ Under S.ths j i2 := fun h => hld (hl.2 h)
          obtain ⟨h1, h2⟩ := o.rename hfe b1 hw hi2 hU
          refine ⟨_, _, h1, fun up hup => ?_⟩
          have : ¬ up = true := fun h => hU (by have := (hup j rfl b3 rfl).1 h; exact this)
          rw [if_neg hp, if_neg (by simp), if_neg this]
          show _ = (0, docOf ⟨_, _⟩ _ _)
          rw [show (some x1.id).getD 0 = x1.id from rfl, h2]
          rfl
      · rw [if_pos hr]; exact ⟨pa, nm, o, fun _ _ => by rw [if_neg hp, if_pos hr]⟩
end
end Go.Proofs.Ytnigfnikajejaab
