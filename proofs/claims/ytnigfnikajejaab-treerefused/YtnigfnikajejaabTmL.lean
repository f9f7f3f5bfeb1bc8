/- Remove and Rename. -/
import Derived.Test.YtnigfnikajejaabTmK
namespace Go.Proofs.Ytnigfnikajejaab
open Go Go.RowKit

theorem filter_at {l : List Th} (h : Inc l) {x : Th} (hx : x ∈ l) : posT l x.id < l.length ∧ l[posT l x.id]? = some x ∧ (l.filter fun y => !decide (y.id = x.id)) = l.take (posT l x.id) ++ l.drop (posT l x.id + 1) := by
  induction l with
  | nil => cases hx
  | cons e r ih =>
    obtain ⟨h1, h2⟩ := List.pairwise_cons.1 h
    rw [posT_cons]
    rcases List.mem_cons.1 hx with rfl | hx'
    · rw [if_neg (by simp [tlt])]
      refine ⟨by simp, by simp, ?_⟩
      have : (r.filter fun y => !decide (y.id = x.id)) = r := by
        rw [List.filter_eq_self]
        intro y hy
        have := h1 y hy
        simp
        omega
      simp [this]
    · have hlt := h1 x hx'
      have ht : tlt e x.id = true := by simp [tlt, hlt]
      rw [ht, if_pos rfl]
      obtain ⟨i1, i2, i3⟩ := ih h2 hx'
      refine ⟨by simpa using i1, by simpa using i2, ?_⟩
      have hne : ¬ e.id = x.id := by omega
      simp only [List.take_succ_cons, List.drop_succ_cons, List.cons_append]
      rw [← i3]
      simp [hne]
theorem sizeT_at {l : List Th} (h : Inc l) {x : Th} (hx : x ∈ l) : sizeT (l.filter fun y => !decide (y.id = x.id)) + x.d.length = sizeT l := by
  obtain ⟨h1, h2, h3⟩ := filter_at h hx
  have hg : l[posT l x.id] = x := by rw [List.getElem?_eq_getElem h1] at h2; exact Option.some.inj h2
  rw [h3, sizeT_append]
  conv => rhs; rw [← List.take_append_drop (posT l x.id) l, List.drop_eq_getElem_cons h1, sizeT_append, hg]
  simp [sizeT]
  omega
theorem setT_inc {l : List Th} (h : Inc l) (i : Nat) (f : Th → Th) (hf : ∀ y, (f y).id = y.id) : Inc (setT l i f) := inc_ids (setT_ids hf) h

section
variable {w : World} {R : Nat → Role} {a : Nat} {S : Tr} {B : Nat → Nat} {dv hv : Nat → Value} {tv : Value} {pa : Nat → Nat} {nm : Nat → Nm}
theorem TXb.hne (H : TXb w R a S B dv hv tv) {x : Th} (hx : x ∈ S.ths) : (hv x.id).ownBlock ≠ some (B x.id) := fun e => by
  have h1 := H.rhel x hx _ e
  rw [H.rth x hx] at h1
  cases h1
/-- Behind a turn of one thing's rows. -/
theorem TXb.rows (H : TXb w R a S B dv hv tv) (hi : Inc S.ths) {x : Th} (hx : x ∈ S.ths) (f : Th → Th) (hf : ∀ y, (f y).id = y.id) (hfd : ∀ y, (f y).d = y.d) {w' : World} {hv' : Value}
    (ht : ThB w' (f x) (B x.id) (dv x.id) hv') (he : ERow w' B hv' (f x).h) (hk : Keeps (fun k => k = B x.id ∨ (hv x.id).ownBlock = some k) w w') (hat : hv'.ownBlock = (hv x.id).ownBlock ∨ ∀ k, hv'.ownBlock = some k → w.heap.size ≤ k) :
    ∃ R' dv' hv', TXb w' R' a ⟨setT S.ths x.id f, S.next⟩ B dv' hv' tv ∧ Moved R R' w w' := by
  obtain ⟨R', h1, h2⟩ := H.one hi hx f hf (dv' := dv x.id) (hv' := hv') hk (fun k _ h => by
      rcases h with h | h
      · rw [h]; exact .inl (H.rth x hx)
      · exact .inr (.inl (H.rhel x hx k h))) (by
      rw [setT_size (f := f) hfd]
      refine top_keep H.top hk fun h => ?_
      rcases h with h | h
      · have := H.ra; rw [h, H.rth x hx] at this; cases this
      · have := H.ra; rw [H.rhel x hx _ h] at this; cases this) ht (by
      rw [hfd]
      exact (H.dat x hx).keep hk fun k e h => by
        rcases h with h | h
        · have := H.rdat x hx k e; rw [h, H.rth x hx] at this; cases this
        · have := H.rdat x hx k e; rw [H.rhel x hx k h] at this; cases this) he (fun k e => .inl ⟨(H.dat x hx).lt k e, H.rdat x hx k e⟩) (fun k e => by
      rcases hat with h | h
      · rw [h] at e
        exact .inl ⟨(H.hel x hx).lt k e, H.rhel x hx k e⟩
      · exact .inr (h k e)) (fun k h1 h2 _ => by have := (H.dat x hx).lt k h2; omega)
  exact ⟨R', _, _, h1, h2, hk.mono fun k _ h => by
    rcases h with h | h
    · rw [h, H.rth x hx]; intro e; cases e
    · rw [H.rhel x hx k h]; intro e; cases e⟩
theorem tdrop_c (H : TXb w R a S B dv hv tv) (hi : Inc S.ths) {x : Th} (hx : x ∈ S.ths) (hs : Srt x.h) (hl : x.h.length ≤ 1000) (name : Nm) (j : Nat) (hg : getH x.h name = some j) :
    Calls Try.prog 38 #[.pointer (some ⟨B x.id, 0, none⟩), .string name] w fun e w' => e = .returned (.tuple #[]) ∧ ∃ R' dv' hv', TXb w' R' a ⟨setT S.ths x.id (cutH name), S.next⟩ B dv' hv' tv ∧ Moved R R' w w' := by
  refine (edrop_c B x (B x.id) (dv x.id) (hv x.id) name j w (H.th x hx) (H.hel x hx) hs hl hg (H.hne hx)).mono ?_
  rintro e w' ⟨rfl, hv', ht, he, hk, hat⟩
  exact ⟨rfl, H.rows hi hx (cutH name) (fun _ => rfl) (fun _ => rfl) ht he hk (.inl hat)⟩
theorem tput_c (H : TXb w R a S B dv hv tv) (hi : Inc S.ths) {x : Th} (hx : x ∈ S.ths) (hs : Srt x.h) (hl : x.h.length ≤ 1000) (name : Nm) (hn : name.size ≤ 1000) (j : Nat) :
    Calls Try.prog 25 #[.pointer (some ⟨B x.id, 0, none⟩), .string name, .pointer (some ⟨B j, 0, none⟩)] w fun e w' => e = .returned (.tuple #[]) ∧ ∃ R' dv' hv', TXb w' R' a ⟨setT S.ths x.id (putH name j), S.next⟩ B dv' hv' tv ∧ Moved R R' w w' := by
  refine (eput_c B x (B x.id) (dv x.id) (hv x.id) name j w (H.th x hx) (H.hel x hx) hs hl hn (H.hne hx)).mono ?_
  rintro e w' ⟨rfl, hv', ht, he, hk, hat⟩
  exact ⟨rfl, H.rows hi hx (putH name j) (fun _ => rfl) (fun _ => rfl) ht he hk hat⟩

theorem tcells_append (B : Nat → Nat) (l m : List Th) : tcells B (l ++ m) = tcells B l ++ tcells B m := by simp [tcells]
theorem tcells_length (B : Nat → Nat) (l : List Th) : (tcells B l).length = l.length := by simp [tcells]
theorem Held.lenV {v : Value} {xs : List UInt8} (h : Held w v xs) : ∃ ao cap, v = .slice ao xs.length cap := h.len
set_option maxHeartbeats 4000000 in
set_option maxRecDepth 100000 in
theorem forget_c (H : TXb w R a S B dv hv tv) (hi : Inc S.ths) (hc : S.ths.length ≤ 1000) (hsz : sizeT S.ths ≤ 1000000000) {x : Th} (hx : x ∈ S.ths) :
    Calls Try.prog 39 #[.pointer (some ⟨a, 0, none⟩), .pointer (some ⟨B x.id, 0, none⟩)] w fun e w' => e = .returned (.tuple #[]) ∧ ∃ R' dv' hv' tv', TXb w' R' a ⟨S.ths.filter fun y => !decide (y.id = x.id), S.next⟩ B dv' hv' tv' ∧ Moved R R' w w' := by
  have HH := hidden H
  have HP := hidden (tplace_c H hi hc x.id)
  obtain ⟨hp, hpx, hfl⟩ := filter_at hi hx
  rw [show findT S.ths (x.id : Int) = some x from findT_nat hi hx rfl] at HP
  have hsx := sizeT_at hi hx
  have HX := hidden hx
  obtain ⟨ao, cap, rfl, hcap, hcm, hne⟩ := H.prow.shape
  obtain ⟨g, rfl⟩ := hne (by rintro e; rw [e] at hp; simp at hp)
  have HF := hidden hfl
  have HSX := hidden hsx
  have h0 := (H.th x hx).c0
  have hdl : x.d.length ≤ sizeT S.ths := by omega
  clear H hne hpx hi hfl hsx hx
  go_enter Try.func39, Try.ntmps39
  go_wp2_with fail
  refine HP.out.mono ?_
  rintro e w1 ⟨rfl, hb⟩
  have H1 := hidden (HH.out.fresh hb)
  have HB := hidden hb
  have k0 := H1.out.t0
  have kf := H1.out.tf
  clear hb h0
  generalize hpp : posT S.ths x.id = p at *
  clear hpp
  have HI : Hid (Calls Try.prog 59 #[.slice (some ⟨g, 0, none⟩) S.ths.length cap, .int .i64 p, .int .i64 (p + 1 : Nat)] w1 fun e w3 =>
      e = .returned (.slice (some ⟨g, 0, none⟩) (S.ths.length - 1) cap) ∧ w3.ownsRow 0 53 1 (.slice (some ⟨g, 0, none⟩) (S.ths.length - 1) cap) (S.ths.length - 1) (tcells B (S.ths.filter fun y => !decide (y.id = x.id))) ∧ Keeps (fun k => k = g) w1 w3) := by
    refine (delP_c 0 g S.ths.length cap p (p + 1) (tcells B S.ths) _ H1.out.row rfl hp (by omega) (tcells_one B S.ths)).mono ?_
    rintro e w3 ⟨rfl, ho, hk⟩
    refine ⟨rfl, ?_, hk⟩
    rw [HF.out, tcells_append]
    have e1 : (tcells B S.ths).take p = tcells B (S.ths.take p) := by unfold tcells; rw [List.map_take]
    have e2 : (tcells B S.ths).drop (p + 1) = tcells B (S.ths.drop (p + 1)) := by unfold tcells; rw [List.map_drop]
    rw [← e1, ← e2]
    exact ho
  have hcast : ((p + 1 : Nat) : Int) = (p : Int) + 1 := by omega
  rw [hcast] at HI
  have HFL : Hid ((S.ths.filter fun y => !decide (y.id = x.id)).length = S.ths.length - 1) := by
    show _ = _
    rw [HF.out, List.length_append, List.length_take, List.length_drop]
    omega
  clear HF
  have hwp : IntKind.i64.wrap ((p : Int) + 1) = (p : Int) + 1 := by rw [IntKind.wrap_i64]; omega
  go_wp2_with fail
  refine HI.out.mono ?_
  rintro e w3 ⟨rfl, ho, hk⟩
  have hga : a ≠ g := fun h => by
    have h1 := H1.out.rrow g rfl
    rw [← h, H1.out.ra] at h1
    cases h1
  have htp3 := top_keep H1.out.top hk hga
  have hxg : B x.id ≠ g := fun h => by
    have h1 := H1.out.rrow g rfl
    rw [← h, H1.out.rth x HX.out] at h1
    cases h1
  have ht3 := (H1.out.th x HX.out).keep hk hxg
  have hxa : B x.id ≠ a := fun h => by
    have h1 := H1.out.ra
    rw [← h, H1.out.rth x HX.out] at h1
    cases h1
  obtain ⟨dao, dcap, hdv⟩ := (H1.out.dat x HX.out).len
  have HO := hidden ho
  have HT3 := hidden htp3
  have HK := hidden hk
  have HTH := hidden ht3
  obtain ⟨c30, c31, c32, cf3⟩ := top_cells htp3
  have c39 := ht3.c9
  rw [hdv] at c39
  have t4 := top0 htp3 (.slice (some ⟨g, 0, none⟩) (S.ths.length - 1) cap)
  obtain ⟨c40, c41, c42, cf4⟩ := top_cells t4
  have HT4 := hidden t4
  have ht4 := (HTH.out.keep ((Keeps.refl (fun k => k = a) w3).setCell (p := ⟨a, 0, none⟩) (.inl rfl) (.slice (some ⟨g, 0, none⟩) (S.ths.length - 1) cap)) hxa).c9
  rw [hdv] at ht4
  have hsub : IntKind.i64.wrap ((sizeT S.ths : Int) - (x.d.length : Int)) = (sizeT S.ths : Int) - (x.d.length : Int) := by rw [IntKind.wrap_i64]; omega
  clear ho htp3 hk ht3 t4
  go_wp2_with fail
  go_region
  go_end0
  have hk5 : Keeps (fun k => k = g ∨ k = a) w1 (((w3.setCell ⟨a, 0, none⟩ (.slice (some ⟨g, 0, none⟩) (S.ths.length - 1) cap)).setCell ⟨a, 2, none⟩ (.int .i64 ((sizeT S.ths : Int) - (x.d.length : Int)))).drew) :=
    (((HK.out.mono fun k _ h => .inl h).setCell (.inl (.inr rfl)) _).setCell (.inl (.inr rfl)) _).drew
  have ht5 := top2 HT4.out (.int .i64 ((sizeT S.ths : Int) - (x.d.length : Int)))
  have hse : (sizeT S.ths : Int) - (x.d.length : Int) = (sizeT (S.ths.filter fun y => !decide (y.id = x.id)) : Int) := by have := HSX.out; omega
  have hdel := H1.out.del (l := S.ths.filter fun y => !decide (y.id = x.id)) (fun y hy => (List.mem_filter.1 hy).1) hk5 (fun k _ h => by
      rcases h with h | h
      · rw [h]; exact .inl (H1.out.rrow g rfl)
      · rw [h]; exact .inr H1.out.ra) (tv' := .slice (some ⟨g, 0, none⟩) (S.ths.length - 1) cap) (by
      rw [← hse]; exact ht5) (by
      rw [HFL.out]
      exact ((((Keeps.refl (fun k => k = a) w3).setCell (p := ⟨a, 0, none⟩) (.inl rfl) (.slice (some ⟨g, 0, none⟩) (S.ths.length - 1) cap)).setCell (p := ⟨a, 2, none⟩) (.inl rfl) (.int .i64 ((sizeT S.ths : Int) - (x.d.length : Int)))).drew).row HO.out (fun k e h => by cases e; exact hga h.symm)) (fun k e => H1.out.rrow k e)
  refine ⟨rfl, R, _, _, _, hdel, (Moved.fresh HB.out).trans ⟨fun _ _ => rfl, hk5.mono fun k _ h => ?_⟩⟩
  rcases h with h | h
  · rw [h, H1.out.rrow g rfl]; intro e; cases e
  · rw [h, H1.out.ra]; intro e; cases e

set_option maxHeartbeats 4000000 in
set_option maxRecDepth 100000 in
theorem remove_c (H : TXb w R a S B dv hv tv) (o : Ok S pa nm) (v : Value) (p : List Nm) (hv' : SSl w v p) (dir : Bool) :
    Calls Try.prog 14 #[.pointer (some ⟨a, 0, none⟩), v, .bool dir] w (TPost R a (removeT S p dir).2 (.int .i64 (removeT S p dir).1) w) := by
  have HH := hidden H
  have HV := hidden hv'
  have HO := hidden o
  have HX : Hid (TX w R a S) := ⟨B, dv, hv, tv, H⟩
  have HM : Hid (removeT S p dir = if p = [] then (1, S) else match walkT S.ths 0 p with
    | none => (22, S)
    | some j => match findT S.ths j with
      | none => (22, S)
      | some x => if x.dir ≠ dir then (23, S) else if x.h ≠ [] then (27, S)
        else (0, ⟨(setT S.ths ((walkT S.ths 0 p.dropLast).getD 0) (cutH (lastN p))).filter fun y => !decide (y.id = j), S.next⟩)) := rfl
  generalize removeT S p dir = M at HM ⊢
  clear H hv' o
  by_cases hp : p = []
  · have HM2 := HM.out
    rw [if_pos hp] at HM2
    subst HM2
    clear HM
    go_enter Try.func14, Try.ntmps14
    go_wp2_with fail
    refine (isRoot_c v p w HV.out).mono ?_
    rintro e wq ⟨rfl, hq⟩; obtain rfl := hq.symm; clear hq
    rw [decide_eq_true hp]
    go_wp2_with fail
    go_ret
    exact TPost.same HX.out (Below.refl _ _)
  have HP := hidden hp
  have HM2 := HM.out
  rw [if_neg hp] at HM2
  cases hw : walkT S.ths 0 p with
  | none =>
    rw [hw] at HM2
    have HWK := hidden (walk_c HH.out HO.out v p HV.out)
    rw [hw, show ptrO B none = .pointer none from rfl] at HWK
    subst HM2
    clear HM hp hw
    go_enter Try.func14, Try.ntmps14
    go_wp2_with fail
    refine (isRoot_c v p w HV.out).mono ?_
    rintro e wq ⟨rfl, hq⟩; obtain rfl := hq.symm; clear hq
    rw [decide_eq_false HP.out]
    go_wp2_with fail
    refine HWK.out.mono ?_
    rintro e w1 ⟨rfl, hb⟩
    go_wp2_with fail
    go_ret
    exact TPost.same HX.out hb
  | some j =>
    obtain ⟨x, hx, rfl⟩ := HO.out.walk_mem p 0 HO.out.rootMem j hw
    have hfx := findT_nat HO.out.inc hx rfl
    have HWK := hidden (walk_c HH.out HO.out v p HV.out)
    rw [hw, show ptrO B (some x.id) = .pointer (some ⟨B x.id, 0, none⟩) from rfl] at HWK
    rw [hw] at HM2
    simp only [hfx] at HM2
    obtain ⟨x1, hx1, hw1, hg1, hj0, _, _⟩ := HO.out.walk_holder hp hw
    obtain ⟨hao, hcap, hhv, hhc, hhm, _⟩ := (HH.out.hel x hx).shape
    have HC0 : Hid (∀ {W : World}, Below w.heap.size w W → W.cell? ⟨B x.id, 1, none⟩ = some (.bool x.dir) ∧ W.cell? ⟨B x.id, 10, none⟩ = some (.slice hao x.h.length hcap)) := fun {W} hb => ⟨((HH.out.fresh hb).th x hx).c1, by rw [← hhv]; exact ((HH.out.fresh hb).th x hx).c10⟩
    by_cases hd : x.dir = dir
    · by_cases hh : x.h = []
      · rw [if_neg (fun h => h hd), if_neg (fun h => h hh), hw1] at HM2
        subst HM2
        have HX1 := hidden hx1
        have HXM := hidden hx
        have HG1 := hidden hg1
        have HAW := hidden (fun (W : World) (HW : TXb W R a S B dv hv tv) (va : Value) (hva : SSl W va p.dropLast) => walk_c HW HO.out va p.dropLast hva)
        rw [hw1] at HAW
        have hd2 : (x.dir == dir) = true := by rw [hd]; simp
        have hhz : ¬ (0 : Int) < (x.h.length : Int) := by rw [hh]; simp
        have hne1 : x.id ≠ x1.id := fun e => by
          have : x1 = x := HO.out.inc.uniq hx1 hx e.symm
          rw [this, hh] at hg1; cases hg1
        clear HM hp hw hfx hw1 hh hd hx hx1 hg1
        go_enter Try.func14, Try.ntmps14
        go_wp2_with fail
        refine (isRoot_c v p w HV.out).mono ?_
        rintro e wq ⟨rfl, hq⟩; obtain rfl := hq.symm; clear hq
        rw [decide_eq_false HP.out]
        go_wp2_with fail
        refine HWK.out.mono ?_
        rintro e w1 ⟨rfl, hb⟩
        obtain ⟨k1, k10⟩ := HC0.out hb
        have HB := hidden hb
        clear hb
        go_wp2_with fail
        refine (ahead_c v p w1 (HV.out.fresh HB.out) HP.out).mono ?_
        rintro e wq ⟨va, rfl, hva, hq⟩; obtain rfl := hq.symm; clear hq
        have HVA := hidden hva
        clear hva
        go_wp2_with fail
        refine (HAW.out w1 (HH.out.fresh HB.out) va HVA.out).mono ?_
        rintro e w2 ⟨rfl, hb2⟩
        rw [show ptrO B (some x1.id) = .pointer (some ⟨B x1.id, 0, none⟩) from rfl]
        have HB2 := hidden (HB.out.trans (hb2.mono HB.out.size))
        clear hb2
        have H2 := hidden (HH.out.fresh HB2.out)
        go_wp2_with fail
        refine (last_c v p w2 (HV.out.fresh HB2.out) HP.out).mono ?_
        rintro e wq ⟨rfl, hq⟩; obtain rfl := hq.symm; clear hq
        go_wp2_with fail
        refine (tdrop_c H2.out HO.out.inc HX1.out (HO.out.srt x1 HX1.out) (HO.out.hlen HX1.out) (lastN p) x.id HG1.out).mono ?_
        rintro e w3 ⟨rfl, R3, dv3, hv3, hX3, hm3⟩
        have HX3 := hidden hX3
        have HM3 := hidden hm3
        clear hX3 hm3
        have hxm3 : x ∈ setT S.ths x1.id (cutH (lastN p)) := mem_setT.2 ⟨x, HXM.out, by rw [if_neg hne1]⟩
        have HFG := hidden (forget_c HX3.out (setT_inc HO.out.inc _ _ fun _ => rfl) (by rw [setT_length]; have := HO.out.cnt; omega) (by rw [setT_size (f := cutH (lastN p)) fun _ => rfl]; have := HO.out.bytes; omega) hxm3)
        go_wp2_with fail
        refine HFG.out.mono ?_
        rintro e w4 ⟨rfl, R4, dv4, hv4, tv4, hX4, hm4⟩
        have HFIN : Hid (∃ R', TX w4 R' a ⟨(setT S.ths x1.id (cutH (lastN p))).filter fun y => !decide (y.id = x.id), S.next⟩ ∧ Moved R R' w w4) := ⟨R4, ⟨_, _, _, _, hX4⟩, ((Moved.fresh HB2.out).trans HM3.out).trans hm4⟩
        clear hX4 hm4
        go_wp2_with fail
        go_ret
        exact ⟨rfl, HFIN.out⟩
      · rw [if_neg (fun h => h hd), if_pos hh] at HM2
        subst HM2
        have hd2 : (x.dir == dir) = true := by rw [hd]; simp
        have hhz : (0 : Int) < (x.h.length : Int) := by have := List.length_pos_iff.2 hh; omega
        clear HM hp hw hfx hw1 hh hd hx hx1 hg1
        go_enter Try.func14, Try.ntmps14
        go_wp2_with fail
        refine (isRoot_c v p w HV.out).mono ?_
        rintro e wq ⟨rfl, hq⟩; obtain rfl := hq.symm; clear hq
        rw [decide_eq_false HP.out]
        go_wp2_with fail
        refine HWK.out.mono ?_
        rintro e w1 ⟨rfl, hb⟩
        obtain ⟨k1, k10⟩ := HC0.out hb
        go_wp2_with fail
        go_ret
        exact TPost.same HX.out hb
    · rw [if_pos hd] at HM2
      subst HM2
      have hd2 : (x.dir == dir) = false := by simpa using hd
      clear HM hp hw hfx hw1 hd hx hx1 hg1
      go_enter Try.func14, Try.ntmps14
      go_wp2_with fail
      refine (isRoot_c v p w HV.out).mono ?_
      rintro e wq ⟨rfl, hq⟩; obtain rfl := hq.symm; clear hq
      rw [decide_eq_false HP.out]
      go_wp2_with fail
      refine HWK.out.mono ?_
      rintro e w1 ⟨rfl, hb⟩
      obtain ⟨k1, k10⟩ := HC0.out hb
      go_wp2_with fail
      go_ret
      exact TPost.same HX.out hb
end
end Go.Proofs.Ytnigfnikajejaab
