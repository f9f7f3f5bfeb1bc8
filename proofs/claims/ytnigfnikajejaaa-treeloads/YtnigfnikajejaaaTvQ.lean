/- Load. -/
import Derived.Test.YtnigfnikajejaaaTvP
namespace Go.Proofs.Ytnigfnikajejaaa
open Go Go.RowKit

/-- Could Make have come to that next number? -/
def reachP (nx : Nat) (ids : List Nat) : Bool := decide (ids.length < 200) || decide (nx - 1 ∈ ids)
/-- What Load takes: the next number, the root, what it holds. -/
def loadT (b : List UInt8) : Option (Nat × Hd × Fo) :=
  if 4611686018427387903 < val (tk b 0 0 8).1 then none
  else match loadO b (val (tk b 0 0 8).1) 201 ⟨(tk b 0 0 8).2.1, (tk b 0 0 8).2.2, [], 0⟩ with
    | none => none
    | some (x, k, s) => if x.id ≠ 0 ∨ x.dir = false ∨ reachP (val (tk b 0 0 8).1) s.ids = false ∨ (ends b s.p s.y).1 ≠ 0 then none else some (val (tk b 0 0 8).1, x, k)
/-- What is loaded is a tree, and saves as it was read. -/
theorem loadT_tree {b : List UInt8} {nx : Nat} {x : Hd} {k : Fo} (h : loadT b = some (nx, x, k)) {L : List Th} (inc : Inc L) (hm : ∀ z, z ∈ L ↔ z = thH x k ∨ z ∈ k.ths) :
    (∃ pa nm, Ok ⟨L, nx⟩ pa nm) ∧ savesTo ⟨L, nx⟩ b ∧ nx ≤ 4611686018427387903 ∧ (L.length < 200 ∨ ∃ z ∈ L, z.id + 1 = nx) := by
  unfold loadT at h
  split at h
  · cases h
  next hn =>
  split at h
  · cases h
  next x' k' s hl =>
  split at h
  · cases h
  next hc =>
  obtain ⟨q1, q2⟩ := Prod.mk.inj (Option.some.inj h)
  obtain ⟨q3, q4⟩ := Prod.mk.inj q2
  subst q3 q4
  have hr := load_read 201 _ _ _ _ hl
  rw [q1] at hr hn hc hl
  have hx0 : x'.id = 0 := Classical.not_not.1 fun e => hc (.inl e)
  have hxd : x'.dir = true := by cases e : x'.dir with | true => rfl | false => exact absurd (.inr (.inl e)) hc
  have hrp : reachP nx s.ids = true := by cases e : reachP nx s.ids with | true => rfl | false => exact absurd (.inr (.inr (.inl e))) hc
  have hen : (ends b s.p s.y).1 = 0 := Classical.not_not.1 fun e => hc (.inr (.inr (.inr e)))
  unfold ends at hen
  by_cases hy : s.y = 0
  · rw [if_pos hy] at hen
    have hp : b.length ≤ s.p := by
      split at hen
      · cases hen
      · omega
    obtain ⟨f1, f2, f3, f4, f5⟩ := hr.fin hy
    obtain ⟨t1, t2, t3⟩ := tk_fin f1
    have hids : s.ids = k'.push [x'.id] := hr.ids
    have hperm := k'.push_perm [x'.id]
    have hnod := hr.nod List.nodup_nil
    rw [hids] at hnod
    have hn2 : (x'.id :: k'.ids).Nodup := by
      have := (hperm.nodup_iff).1 hnod
      have := nodup_mid.1 this
      simpa using this
    have hlen : (x'.id :: k'.ids).length ≤ 200 := by
      have := hr.cnt (Nat.zero_le _)
      rw [hids, hperm.length_eq, List.length_append, List.length_singleton] at this
      rw [List.length_cons]; exact this
    have hlt : ∀ i ∈ x'.id :: k'.ids, i < nx := fun i hi => by
      rcases List.mem_cons.1 hi with rfl | hi
      · exact hr.lt.1
      · exact hr.lt.2 i hi
    have hz := hr.zle (Nat.zero_le _)
    rw [hr.z] at hz
    obtain ⟨g1, g2⟩ := Fo.tree f3 hxd hx0 f5 hn2 hlen hlt (by simpa using hz) inc hm
    refine ⟨g1, ?_, by omega, ?_⟩
    · have hb : b = be 8 nx ++ (hdrB (thH x' k') ++ k'.save) := by
        have e1 := t3.1
        rw [List.drop_zero] at e1
        have e2 := f2.1
        simp only at e2
        rw [List.drop_of_length_le hp, List.append_nil] at e2
        rw [e2, ← be_val t2, q1] at e1
        exact e1
      rw [hb]; exact g2
    · unfold reachP at hrp
      simp only [Bool.or_eq_true, decide_eq_true_eq] at hrp
      have hLl : L.length = s.ids.length := by
        have hpm : L.Perm (thH x' k' :: k'.ths) := (List.perm_ext_iff_of_nodup (nodup_of_ids inc.nodup) (nodup_of_ids (by rw [List.map_cons, k'.ths_ids]; exact hn2))).2 fun z => by rw [hm, List.mem_cons]
        rw [hpm.length_eq, hids, hperm.length_eq, List.length_append, List.length_cons, List.length_singleton]
        have := congrArg List.length k'.ths_ids
        rw [List.length_map] at this
        omega
      rcases hrp with h1 | h1
      · exact .inl (by rw [hLl]; exact h1)
      · right
        rw [hids] at h1
        have h2 := hperm.mem_iff.1 h1
        have hlt0 := hr.lt.1
        rcases List.mem_append.1 h2 with h3 | h3
        · rw [← k'.ths_ids] at h3
          obtain ⟨z, hz, e⟩ := List.mem_map.1 h3
          exact ⟨z, (hm z).2 (.inr hz), by omega⟩
        · rw [List.mem_singleton] at h3
          exact ⟨thH x' k', (hm _).2 (.inl rfl), by show x'.id + 1 = nx; omega⟩
  · rw [if_neg hy] at hen
    exact absurd hen hy

section
variable {w : World} {R : Nat → Role} {a : Nat} {nx : Nat} {L : List Th} {B : Nat → Nat} {dv hv : Nat → Value} {tv : Value}
theorem inc_last {l : List Th} (hi : Inc l) (hne : l ≠ []) : ∀ z ∈ l, z.id ≤ (l.getLast hne).id := by
  intro z hz
  obtain ⟨k, hk, rfl⟩ := List.mem_iff_getElem.1 hz
  rw [List.getLast_eq_getElem]
  rcases Nat.lt_or_ge k (l.length - 1) with h | h
  · exact Nat.le_of_lt (List.pairwise_iff_getElem.1 hi k (l.length - 1) hk (by omega) h)
  · have : k = l.length - 1 := by omega
    subst this
    exact Nat.le_refl _
set_option maxHeartbeats 2000000 in
set_option maxRecDepth 100000 in
theorem reaches_c (H : TXb w R a ⟨L, nx⟩ B dv hv tv) (hne : L ≠ []) (hlt : ∀ z ∈ L, z.id < nx) (hnx : nx ≤ 4611686018427387904) :
    Calls Try.prog 48 #[.pointer (some ⟨a, 0, none⟩)] w fun e w' => e = .returned (.bool (decide (L.length < 200) || decide (nx = (L.getLast hne).id + 1))) ∧ Keeps (fun _ => False) w w' := by
  have c0 := H.t0
  have c1 := H.t1
  have hl := List.length_pos_iff.2 hne
  obtain ⟨ao, cap, rfl, hcc, hcm, hga⟩ := H.prow.shape
  obtain ⟨g, rfl⟩ := hga hne
  obtain ⟨d0, d1⟩ := H.prow.at (L.length - 1) (by show L.length - 1 < L.length; omega)
  have hla : L[L.length - 1]'(by omega) = L.getLast hne := (List.getLast_eq_getElem hne).symm
  rw [show (⟨L, nx⟩ : Tr).ths[L.length - 1]'(by show L.length - 1 < L.length; omega) = L.getLast hne from hla] at d0 d1
  have hzl := hlt _ (List.getLast_mem hne)
  generalize L.getLast hne = z at d0 d1 hzl ⊢
  unfold maxLen at hcm
  obtain ⟨m, hm⟩ : ∃ m, L.length = m + 1 := ⟨L.length - 1, by omega⟩
  rw [show (⟨L, nx⟩ : Tr).ths.length = m + 1 from hm] at c0 hcc
  have c1 : w.cell? ⟨a, 1, none⟩ = some (.int .i64 nx) := c1
  rw [hm, Nat.add_sub_cancel] at d0
  rw [hm]
  have q1 : ((m : Int) + 1 - 1) = (m : Int) := by omega
  have hwm : IntKind.i64.wrap (m : Int) = (m : Int) := by rw [IntKind.wrap_i64]; omega
  have q2 : (m : Int) < (m : Int) + 1 := by omega
  clear H hm hla hl hlt hga
  by_cases h2 : m + 1 < 200
  · have hi : (m : Int) + 1 < 200 := by omega
    rw [decide_eq_true h2]
    go_enter Try.func48, Try.ntmps48
    go_wp2
    go_quiet (fail)
    go_wp2
    go_ret
    exact ⟨rfl, (Keeps.refl _ _).drewN nq⟩
  · have hi : ¬ (m : Int) + 1 < 200 := by omega
    rw [decide_eq_false h2]
    have hadd : IntKind.i64.wrap ((z.id : Int) + 1) = (z.id : Int) + 1 := by rw [IntKind.wrap_i64]; omega
    have hq : ((nx : Int) == (z.id : Int) + 1) = decide (nx = z.id + 1) := by rw [Bool.eq_iff_iff]; simp; omega
    generalize decide (nx = z.id + 1) = bq at hq ⊢
    go_enter Try.func48, Try.ntmps48
    go_wp2
    go_quiet (fail)
    go_wp2
    go_ret
    refine ⟨?_, (Keeps.refl _ _).drewN nq⟩
    show Ending.returned (.bool (decide ((m : Int) + 1 < 200) || bq)) = _
    rw [decide_eq_false (by omega)]

/-- What Load leaves. -/
def LoadPost (b : List UInt8) (w : World) (e : Ending) (w' : World) : Prop := match loadT b with
  | none => e = .returned (.tuple #[.pointer none, .int .i64 12]) ∧ Below w.heap.size w w'
  | some (nx, x, k) => ∃ R a S, e = .returned (.tuple #[.pointer (some ⟨a, 0, none⟩), .int .i64 0]) ∧ TS w.heap.size w' R a S ∧ Below w.heap.size w w' ∧ S.next = nx ∧ (∀ z, z ∈ S.ths ↔ z = thH x k ∨ z ∈ k.ths)
theorem MvR.below {ar base : Nat} {R R' : Nat → Role} {w w' : World} (h : MvR ar R R' w w') (hb : base ≤ w.heap.size) (hr : base ≤ ar) (hR : ∀ k, k < base → R k = .no) : Below base w w' :=
  h.keeps.below hb fun k hk => by
    rcases hk with hk | hk
    · omega
    · rcases Nat.lt_or_ge k base with hl | hl
      · exact absurd (hR k hl) hk
      · exact hl
set_option maxHeartbeats 8000000 in
set_option maxRecDepth 100000 in
theorem load_c (v : Value) (b : List UInt8) (w : World) (hv : BSl w v b) (hl : b.length ≤ 140737488355328) :
    Calls Try.prog 22 #[v] w (LoadPost b w) := by
  have HP : Hid (LoadPost b w = fun e w' => match loadT b with
    | none => e = .returned (.tuple #[.pointer none, .int .i64 12]) ∧ Below w.heap.size w w'
    | some (nx, x, k) => ∃ R a S, e = .returned (.tuple #[.pointer (some ⟨a, 0, none⟩), .int .i64 0]) ∧ TS w.heap.size w' R a S ∧ Below w.heap.size w w' ∧ S.next = nx ∧ (∀ z, z ∈ S.ths ↔ z = thH x k ∨ z ∈ k.ths)) := rfl
  have HT : Hid (loadT b = if 4611686018427387903 < val (tk b 0 0 8).1 then none
    else match loadO b (val (tk b 0 0 8).1) 201 ⟨(tk b 0 0 8).2.1, (tk b 0 0 8).2.2, [], 0⟩ with
      | none => none
      | some (x, k, s) => if x.id ≠ 0 ∨ x.dir = false ∨ reachP (val (tk b 0 0 8).1) s.ids = false ∨ (ends b s.p s.y).1 ≠ 0 then none else some (val (tk b 0 0 8).1, x, k)) := rfl
  have HTR : Hid (∀ nx x k, loadT b = some (nx, x, k) → ∀ L : List Th, Inc L → (∀ z, z ∈ L ↔ z = thH x k ∨ z ∈ k.ths) → ∃ pa nm, Ok ⟨L, nx⟩ pa nm) := fun nx x k h L inc hm => (loadT_tree h inc hm).1
  generalize hQ : LoadPost b w = Q at HP ⊢
  generalize loadT b = rr at HP HT HTR
  clear hQ
  have HV := hidden hv
  go_enter Try.func22, Try.ntmps22
  go_wp2_with fail
  refine (newReader_c v b w HV.out hl).mono ?_
  rintro e w1 ⟨ar, g, rfl, hr1, har, hg1, hb1⟩
  have HU := hidden (u64_r w1 hr1)
  generalize tk b 0 0 8 = t at HT HU
  have HR1 := hidden hr1
  have HB1 := hidden hb1
  clear hr1 hb1
  go_wp2_with fail
  refine HU.out.mono ?_
  rintro e w2 ⟨rfl, ht2⟩
  have HR2 := hidden ht2.state
  have HB2 : Hid (Below w.heap.size w w2) := HB1.out.trans (ht2.keeps.below HB1.out.size fun k h => by rw [h]; exact har)
  clear ht2
  obtain ⟨nx, hnx⟩ : ∃ nx, nx = val t.1 := ⟨_, rfl⟩
  rw [← hnx] at HT ⊢
  clear hnx
  by_cases hbig : 4611686018427387903 < nx
  · have hi : (4611686018427387903 : Int) < (nx : Int) := by omega
    have hr := HT.out
    rw [if_pos hbig] at hr
    subst hr
    clear hbig
    go_wp2_with fail
    rw [HP.out]
    exact ⟨rfl, HB2.out⟩
  · have hi : ¬ (4611686018427387903 : Int) < (nx : Int) := by omega
    have hr := HT.out
    rw [if_neg hbig] at hr
    have HT2 := hidden hr
    have hnl : nx ≤ 4611686018427387903 := by omega
    clear hbig hr
    have hcv : IntKind.i64.wrap (nx : Int) = (nx : Int) := by rw [IntKind.wrap_i64]; omega
    go_wp2_with fail
    have hr2 := HR2.out
    have hblk := heap_alloc_new w2 (.cells #[.slice none 0 0, .int .i64 nx, .int .i64 0] 65)
    have HB3 := hidden (HB2.out.alloc HB2.out.size (.cells #[.slice none 0 0, .int .i64 nx, .int .i64 0] 65))
    have hr3 : WR (w2.alloc (.cells #[.slice none 0 0, .int .i64 nx, .int .i64 0] 65)) ar g b t.2.1 t.2.2 := hr2.same ((Keeps.refl _ w2).alloc _)
    have haw := HB2.out.size
    have hara : ar ≠ w2.heap.size := by have := hr2.lt; omega
    have hga := hr2.apartB (Nat.le_refl w2.heap.size)
    generalize w2.alloc (.cells #[.slice none 0 0, .int .i64 nx, .int .i64 0] 65) = w3 at hblk HB3 hr3 ⊢
    generalize w2.heap.size = a at hblk haw hara hga ⊢
    have hla := lt_of_block hblk
    obtain ⟨R, hR⟩ : ∃ R : Nat → Role, R = fun k => if k = a then .tree else .no := ⟨_, rfl⟩
    have hRa : R a = .tree := by rw [hR]; exact if_pos rfl
    have hRn : ∀ k, k ≠ a → R k = .no := fun k h => by rw [hR]; exact if_neg h
    have hLS : LS w3 R a ar g b nx [] (fun _ => 0) (fun _ => .slice none 0 0) (fun _ => .slice none 0 0) (.slice none 0 0) ⟨t.2.1, t.2.2, [], 0⟩ := by
      refine ⟨⟨hblk, hRa, World.ownsRow_nil _ _ _ _, ?_, ?_, ?_, ?_, ?_, ?_, ?_, ?_⟩, hr3, hRn ar hara, fun hb k e => hRn k (hga hb k e), List.Pairwise.nil, ?_, List.nodup_nil, rfl, Nat.zero_le _, rfl, Nat.zero_le _, ?_⟩
      · intro k e; cases e
      · intro x hx; cases hx
      · intro x hx; cases hx
      · intro x hx; cases hx
      · intro x hx; cases hx
      · intro x hx; cases hx
      · intro x hx; cases hx
      · intro k e
        by_cases h : k = a
        · rw [h]; exact hla
        · exact absurd (hRn k h) e
      · intro i
        constructor
        · intro h; cases h
        · rintro ⟨z, hz, _⟩; cases hz
      · intro y hy; cases hy
    have HLD := hidden (load_ok (by omega) 201 w3 R [] _ _ _ _ _ hLS (Nat.le_refl _))
    have HRN : Hid (∀ k, k < w.heap.size → R k = .no) := fun k hk => hRn k (by omega)
    clear hr2 hr3 hLS hR hRa hRn hga hblk
    go_wp2_with fail
    refine HLD.out.mono ?_
    intro e w4 h4
    cases hld : loadO b nx 201 ⟨t.2.1, t.2.2, [], 0⟩ with
    | none =>
      rw [hld] at h4
      obtain ⟨rfl, R4, hm4⟩ := h4
      have hr := HT2.out
      rw [hld] at hr
      have HB4 := hidden (HB3.out.trans (hm4.below HB3.out.size har HRN.out))
      simp only at hr
      subst hr
      clear hld hm4
      go_wp2_with fail
      rw [HP.out]
      exact ⟨rfl, HB4.out⟩
    | some q =>
      obtain ⟨x, k, s'⟩ := q
      rw [hld] at h4
      obtain ⟨R4, L4, B4, dv4, hv4, tv4, rfl, hS4, hm4, hmem4, _⟩ := h4
      have HB4 := hidden (HB3.out.trans (hm4.below HB3.out.size har HRN.out))
      have hr := HT2.out
      rw [hld] at hr
      simp only at hr
      have hrd := load_read 201 _ _ _ _ hld
      have hmx : thH x k ∈ L4 := (hmem4 _).2 (.inr (.inl rfl))
      have hne : L4 ≠ [] := List.ne_nil_of_mem hmx
      have hlt4 : ∀ z ∈ L4, z.id < nx := fun z hz => by
        rcases (hmem4 z).1 hz with h | h | h
        · cases h
        · rw [h]; exact hrd.lt.1
        · exact hrd.lt.2 _ (Fo.id_mem h)
      have hrp : reachP nx s'.ids = (decide (L4.length < 200) || decide (nx = (L4.getLast hne).id + 1)) := by
        unfold reachP
        rw [hS4.len]
        congr 1
        rw [Bool.eq_iff_iff, decide_eq_true_iff, decide_eq_true_iff, hS4.ids]
        have h1 := hlt4 _ (List.getLast_mem hne)
        constructor
        · rintro ⟨z, hz, e⟩
          have h2 := inc_last hS4.inc hne z hz
          have h3 := hlt4 z hz
          omega
        · intro e
          exact ⟨_, List.getLast_mem hne, by omega⟩
      have HRC := hidden (reaches_c hS4.tx hne hlt4 (by omega))
      rw [← hrp] at HRC
      have d0 := (hS4.tx.th _ hmx).c0
      have d1 := (hS4.tx.th _ hmx).c1
      rw [show (thH x k).id = x.id from rfl] at d0 d1
      rw [show (thH x k).dir = x.dir from rfl] at d1
      have HS4 := hidden hS4
      have HM4 : Hid ((∀ z, z ∈ L4 ↔ z = thH x k ∨ z ∈ k.ths) ∧ ∀ k, k < w.heap.size → R4 k = .no) := ⟨fun z => by rw [hmem4]; simp, fun k hk => by rw [hm4.old k (by omega)]; exact HRN.out k hk⟩
      have HRR := hidden hr
      clear hrd hmem4 hm4 hS4 hld hr hlt4 hmx
      generalize reachP nx s'.ids = rc at HRR HRC
      by_cases h0 : x.id = 0
      · have h0i : ((x.id : Int) != 0) = false := by rw [h0]; rfl
        have H0 := hidden h0
        cases hdx : x.dir with
        | false =>
          have hr := HRR.out
          rw [if_pos (.inr (.inl hdx))] at hr
          subst hr
          rw [hdx] at d1
          clear h0
          go_wp2_with fail
          rw [HP.out]
          exact ⟨rfl, HB4.out⟩
        | true =>
          rw [hdx] at d1
          clear h0
          go_wp2_with fail
          refine HRC.out.mono ?_
          rintro e w5 ⟨rfl, hk5⟩
          have HS5 := hidden (HS4.out.still hk5)
          have HB5 : Hid (Below w.heap.size w w5) := HB4.out.trans (hk5.below HB4.out.size fun _ h => h.elim)
          clear hk5
          cases hrc : rc with
          | false =>
            have hr := HRR.out
            rw [if_pos (.inr (.inr (.inl hrc)))] at hr
            subst hr
            go_wp2_with fail
            rw [HP.out]
            exact ⟨rfl, HB5.out⟩
          | true =>
            have HE := hidden (end_r w5 HS5.out.rd)
            go_wp2_with fail
            refine HE.out.mono ?_
            rintro e w6 ⟨rfl, hk6⟩
            have HS6 := hidden (HS5.out.still hk6)
            have HB6 : Hid (Below w.heap.size w w6) := HB5.out.trans (hk6.below HB5.out.size fun _ h => h.elim)
            clear hk6
            obtain ⟨en, hen⟩ : ∃ en, en = (ends b s'.p s'.y).1 := ⟨_, rfl⟩
            rw [← hen] at HRR ⊢
            clear hen
            by_cases he : en = 0
            · have hei : (en != 0) = false := by rw [he]; rfl
              have hr := HRR.out
              rw [if_neg (by rw [hdx, hrc]; rintro (h | h | h | h); exact h H0.out; cases h; cases h; exact h he)] at hr
              have hok := HTR.out nx x k hr L4 HS6.out.inc HM4.out.1
              have hts : TS w.heap.size w6 R4 a ⟨L4, nx⟩ := ⟨⟨_, _, _, _, HS6.out.tx⟩, hok, HM4.out.2⟩
              have HTS := hidden hts
              subst hr
              clear he hts hok
              go_wp2_with fail
              rw [HP.out]
              exact ⟨R4, a, ⟨L4, nx⟩, rfl, HTS.out, HB6.out, rfl, HM4.out.1⟩
            · have hei : (en != 0) = true := by simp [he]
              have hr := HRR.out
              rw [if_pos (.inr (.inr (.inr he)))] at hr
              subst hr
              clear he
              go_wp2_with fail
              rw [HP.out]
              exact ⟨rfl, HB6.out⟩
      · have h0i : ((x.id : Int) != 0) = true := by simp; omega
        have hr := HRR.out
        rw [if_pos (.inl h0)] at hr
        subst hr
        clear h0
        go_wp2_with fail
        rw [HP.out]
        exact ⟨rfl, HB4.out⟩
end
end Go.Proofs.Ytnigfnikajejaaa
