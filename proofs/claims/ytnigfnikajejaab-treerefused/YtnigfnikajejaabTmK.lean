/- Whether one path leads through another; Make. -/
import Derived.Test.YtnigfnikajejaabTmJ
import Derived.Deep.CutRange
namespace Go.Proofs.Ytnigfnikajejaab
open Go Go.RowKit

section
variable {w : World} {R : Nat → Role} {a : Nat} {S : Tr} {B : Nat → Nat} {dv hv : Nat → Value} {tv : Value} {pa : Nat → Nat} {nm : Nat → Nm}
theorem SSl.takeN {ao : Option Addr} {n cap k : Nat} {ss : List Nm} (h : SSl w (.slice ao n cap) ss) (hk : k ≤ ss.length) : SSl w (.slice ao k cap) (ss.take k) := by
  obtain ⟨ao', cap', e, h1, h2, h3, h4⟩ := h
  cases e
  have hl : (ss.take k).length = k := by rw [List.length_take]; omega
  refine ⟨ao, cap, by rw [hl], by rw [hl]; omega, h2, fun e => ⟨by rw [(h3 e).1]; simp, (h3 e).2⟩, fun ad e hne => ?_⟩
  obtain ⟨b, off, rfl, hc⟩ := h4 ad e (by rintro rfl; simp at hne)
  refine ⟨b, off, rfl, fun j x hx => hc j x ?_⟩
  rw [List.getElem?_take] at hx
  split at hx
  · exact hx
  · cases hx
set_option maxHeartbeats 1000000 in
set_option maxRecDepth 100000 in
theorem leads_c (v1 v2 : Value) (p way : List Nm) (w : World) (h1 : SSl w v1 p) (h2 : SSl w v2 way) :
    Calls Try.prog 40 #[v1, v2] w fun e w' => e = .returned (.bool (leads p way)) ∧ Keeps (fun _ => False) w w' := by
  have H1 := hidden h1
  have H2 := hidden h2
  obtain ⟨a1, c1, rfl, x1, y1, _⟩ := h1
  obtain ⟨a2, c2, rfl, x2, y2, _⟩ := h2
  unfold maxLen at y1 y2
  have HL : Hid (leads p way = (decide (way.length < p.length) && decide (p.take way.length = way))) := rfl
  generalize leads p way = d at HL ⊢
  by_cases hlt : way.length < p.length
  · have hi : ((way.length : Nat) : Int) < (p.length : Int) := by omega
    have HT := hidden (H1.out.takeN (k := way.length) (by omega))
    have q1 : way.length ≤ c1 := by omega
    have q2 : way.length ≤ p.length := by omega
    have q3 : ((way.length : Nat) : Int) ≤ (p.length : Int) := by omega
    have HD : Hid (d = decide (way = p.take way.length)) := by
      show d = _
      rw [HL.out, decide_eq_true hlt, Bool.true_and]
      exact decide_eq_decide.2 ⟨fun h => h.symm, fun h => h.symm⟩
    clear HL hlt
    go_enter Try.func40, Try.ntmps40
    go_wp2_with fail
    refine (sequal_c _ _ way (p.take way.length) _ H2.out HT.out).mono ?_
    rintro e w1 ⟨rfl, hk⟩
    go_wp2_with fail
    go_ret
    exact ⟨by rw [HD.out]; rfl, hk⟩
  · have hi : ¬ ((way.length : Nat) : Int) < (p.length : Int) := by omega
    have HD : Hid (d = false) := by
      show d = _
      rw [HL.out, decide_eq_false hlt, Bool.false_and]
    clear HL hlt
    go_enter Try.func40, Try.ntmps40
    go_wp2_with fail
    go_ret
    exact ⟨by rw [HD.out]; rfl, Keeps.refl _ _⟩

theorem srcPtr1 {W : World} (p : Value) (h1 : p.oneCell' = true) : Src Try.prog 1 55 (.slice (some ⟨W.heap.size, 0, none⟩) 1 1) 1 [p] (W.alloc (.cells #[p] 53)) :=
  Src.ofSlice _ Try.underlying55 ⟨W.heap.size, 0, none⟩ 1 1 [p] rfl (World.news_of_block (t := 53) (fr := (0, 0)) (heap_alloc_new W _)) (by intro u hu; simp at hu; subst hu; exact h1)
theorem top_keep {w w' : World} {T : Nat → Prop} {a : Nat} {o : Obj} (h : w.heap[a]? = some o) (hk : Keeps T w w') (ha : ¬ T a) : w'.heap[a]? = some o :=
  (hk.block a (Array.getElem?_eq_some_iff.1 h).1 ha).trans h
/-- The tree's own cells, stored into. -/
theorem top0 {w : World} {a : Nat} {x y z : Value} (h : w.heap[a]? = some (.cells #[x, y, z] 57 (0, 0))) (u : Value) : (w.setCell ⟨a, 0, none⟩ u).heap[a]? = some (.cells #[u, y, z] 57 (0, 0)) := by
  simp only [World.setCell, Array.getElem?_modify, if_true, h]; simp
theorem top1 {w : World} {a : Nat} {x y z : Value} (h : w.heap[a]? = some (.cells #[x, y, z] 57 (0, 0))) (u : Value) : (w.setCell ⟨a, 1, none⟩ u).heap[a]? = some (.cells #[x, u, z] 57 (0, 0)) := by
  simp only [World.setCell, Array.getElem?_modify, if_true, h]; simp
theorem top2 {w : World} {a : Nat} {x y z : Value} (h : w.heap[a]? = some (.cells #[x, y, z] 57 (0, 0))) (u : Value) : (w.setCell ⟨a, 2, none⟩ u).heap[a]? = some (.cells #[x, y, u] 57 (0, 0)) := by
  simp only [World.setCell, Array.getElem?_modify, if_true, h]; simp
theorem top_cells {w : World} {a : Nat} {x y z : Value} (h : w.heap[a]? = some (.cells #[x, y, z] 57 (0, 0))) : w.cell? ⟨a, 0, none⟩ = some x ∧ w.cell? ⟨a, 1, none⟩ = some y ∧ w.cell? ⟨a, 2, none⟩ = some z ∧ ∀ j, w.frozen? ⟨a, j, none⟩ = false := by
  refine ⟨?_, ?_, ?_, fun j => by simp [World.frozen?, h]⟩ <;> simp [World.cell?, h]
theorem setT_append {l : List Th} {x : Th} {i : Nat} {f : Th → Th} (h : x.id ≠ i) : setT (l ++ [x]) i f = setT l i f ++ [x] := by
  unfold setT
  rw [List.map_append, List.map_cons, List.map_nil, if_neg h]
theorem rightP_len {p : List UInt8} (h : rightP p = true) : p.length ≤ 30 := ((rightP_iff p).1 h).2.1

/-- What a call that answers v leaves of a tree. -/
def TPost (R : Nat → Role) (a : Nat) (S' : Tr) (v : Value) (w : World) (e : Ending) (w' : World) : Prop := e = .returned v ∧ ∃ R', TX w' R' a S' ∧ Moved R R' w w'
theorem TPost.same {R : Nat → Role} {a : Nat} {S : Tr} {v : Value} {w w' : World} (h : TX w R a S) (hb : Below w.heap.size w w') : TPost R a S v w (.returned v) w' := ⟨rfl, R, h.fresh hb, Moved.fresh hb⟩

set_option maxHeartbeats 4000000 in
set_option maxRecDepth 100000 in
theorem make_c (H : TXb w R a S B dv hv tv) (o : Ok S pa nm) (v : Value) (p : List Nm) (hv' : SSl w v p) (hvR : ∀ k, v.ownBlock = some k → R k = .no) (dir : Bool) (hnx : S.next ≤ 9000000000000000000) :
    Calls Try.prog 7 #[.pointer (some ⟨a, 0, none⟩), v, .bool dir] w
      (TPost R a (makeT S p dir).2 (.tuple #[.int .i64 (makeT S p dir).1.1, .int .i64 (makeT S p dir).1.2]) w) := by
  have HH := hidden H
  have HV := hidden hv'
  have HO := hidden o
  have HM : Hid (makeT S p dir = if p = [] then ((0, 1), S) else if (roomT S.ths p).2 ≠ 0 then ((0, (roomT S.ths p).2), S) else if 200 ≤ S.ths.length then ((0, 13), S)
    else ((S.next, 0), ⟨setT S.ths (roomT S.ths p).1 (putH (lastN p) S.next) ++ [newT S.next dir], S.next + 1⟩)) := rfl
  generalize makeT S p dir = M at HM ⊢
  have HX : Hid (TX w R a S) := ⟨B, dv, hv, tv, H⟩
  clear H hv' o
  by_cases hp : p = []
  · have HM2 := HM.out
    rw [if_pos hp] at HM2
    subst HM2
    clear HM
    go_enter Try.func7, Try.ntmps7
    go_wp2_with fail
    refine (isRoot_c v p w HV.out).mono ?_
    rintro e wq ⟨rfl, hq⟩; obtain rfl := hq.symm; clear hq
    rw [decide_eq_true hp]
    go_wp2_with fail
    go_ret2
    exact TPost.same HX.out (Below.refl _ _)
  have HP := hidden hp
  have HM2 := HM.out
  rw [if_neg hp] at HM2
  have hRm := hidden (roomAt_c HH.out HO.out v p HV.out hp)
  by_cases hr : (roomT S.ths p).2 = 0
  · obtain ⟨i, hri⟩ := roomT_zero hr
    obtain ⟨hright, hwalk, x, hx, rfl, hxd, hxg⟩ := roomT_ok HO.out hri
    rw [if_neg (fun h => h hr)] at HM2
    rw [show roomV B (roomT S.ths p) = .tuple #[.pointer (some ⟨B x.id, 0, none⟩), .int .i64 0] by rw [hri]; rfl] at hRm
    rw [hri] at HM2
    by_cases hc : 200 ≤ S.ths.length
    · rw [if_pos hc] at HM2
      subst HM2
      have hci : (200 : Int) ≤ (S.ths.length : Int) := by omega
      obtain ⟨ao, cap, rfl, _⟩ := HH.out.prow.shape
      clear HM hp hri hr hright hwalk hx hxd hxg
      go_enter Try.func7, Try.ntmps7
      go_wp2_with fail
      refine (isRoot_c v p w HV.out).mono ?_
      rintro e wq ⟨rfl, hq⟩; obtain rfl := hq.symm; clear hq
      rw [decide_eq_false HP.out]
      go_wp2_with fail
      refine hRm.out.mono ?_
      rintro e w1 ⟨rfl, hb⟩
      have h0 := (HH.out.fresh hb).t0
      go_wp2_with fail
      go_ret2
      exact TPost.same HX.out hb
    · rw [if_neg hc] at HM2
      subst HM2
      have hci : ¬ (200 : Int) ≤ (S.ths.length : Int) := by omega
      have hn0 : S.next ≠ 0 := by
        obtain ⟨r, h1, h2⟩ := HO.out.rootMem
        have := HO.out.lt r h1
        omega
      have HXM := hidden hx
      have HXG := hidden hxg
      have HRT := hidden (rightP_len hright)
      have HSI : Hid ((lastN p).size ≤ 1000) := by show _ ≤ _; rw [size_len]; have := HRT.out; omega
      have HSR := hidden (HO.out.srt x hx)
      have hhl := HO.out.hlen hx
      have hne := HO.out.lt x hx
      obtain ⟨ao, cap, rfl, hcap, hcm, _⟩ := HH.out.prow.shape
      unfold maxLen at hcm
      clear HM hp hri hr hright hwalk hx hxd hxg
      obtain ⟨i0, hi0, hz0, hz1, hz2⟩ := info_parts Try.infoPtr
      go_enter Try.func7, Try.ntmps7
      go_wp2_with fail
      refine (isRoot_c v p w HV.out).mono ?_
      rintro e wq ⟨rfl, hq⟩; obtain rfl := hq.symm; clear hq
      rw [decide_eq_false HP.out]
      go_wp2_with fail
      refine hRm.out.mono ?_
      rintro e w1 ⟨rfl, hb⟩
      have H1 := hidden (HH.out.fresh hb)
      have h0 := H1.out.t0
      have h1 := H1.out.t1
      go_wp2_with fail
      refine (newThing_c S.next dir w1).mono ?_
      rintro e w2 ⟨rfl, ht2, hb2⟩
      have H2 := hidden (H1.out.fresh hb2)
      have HT2 := hidden ht2
      have k1 := H2.out.t1
      have k0 := H2.out.t0
      have kf := H2.out.tf
      have hnx1 : IntKind.i64.wrap ((S.next : Int) + 1) = (S.next : Int) + 1 := by rw [IntKind.wrap_i64]; omega
      have haR : ∀ k, (Value.slice ao S.ths.length cap).ownBlock = some k → k ≠ a := fun k e h => by
        have h1 := H2.out.rrow k e
        rw [h, H2.out.ra] at h1
        cases h1
      have hk3 : Keeps (fun k => k = a ∨ (Value.slice ao S.ths.length cap).ownBlock = some k) w1 (w2.setCell ⟨a, 1, none⟩ (.int .i64 ((S.next : Int) + 1))) := (Keeps.ofFresh hb2).setCell (.inl (.inl rfl)) _
      have hr3 : (w2.setCell ⟨a, 1, none⟩ (.int .i64 ((S.next : Int) + 1))).ownsRow 0 53 1 (.slice ao S.ths.length cap) S.ths.length (tcells B S.ths) :=
        ((Keeps.refl (fun k => k = a) w2).setCell (p := ⟨a, 1, none⟩) (.inl rfl) _).row H2.out.row (fun k e h => haR k e h)
      have hal : a < w1.heap.size := lt_of_block H1.out.top
      have htp3 := top1 H2.out.top (.int .i64 ((S.next : Int) + 1))
      have hs12 : w1.heap.size < w2.heap.size := HT2.out.lt
      have hkt : Keeps (fun k => k = a ∨ (Value.slice ao S.ths.length cap).ownBlock = some k) w2 (w2.setCell ⟨a, 1, none⟩ (.int .i64 ((S.next : Int) + 1))) := (Keeps.refl _ w2).setCell (.inl (.inl rfl)) _
      have hsrc : Src Try.prog 1 55 (.slice (some ⟨w2.heap.size, 0, none⟩) 1 1) 1 [.pointer (some ⟨w1.heap.size, 0, none⟩)] ((w2.setCell ⟨a, 1, none⟩ (.int .i64 ((S.next : Int) + 1))).alloc (.cells #[.pointer (some ⟨w1.heap.size, 0, none⟩)] 53)) := by
        have := srcPtr1 (W := w2.setCell ⟨a, 1, none⟩ (.int .i64 ((S.next : Int) + 1))) (.pointer (some ⟨w1.heap.size, 0, none⟩)) rfl
        simpa using this
      obtain ⟨v4, w4, hrun4, hown4, hgrow4, hnil4, hat4⟩ := run_append_src (P := Try.prog) ((w2.setCell ⟨a, 1, none⟩ (.int .i64 ((S.next : Int) + 1))).alloc (.cells #[.pointer (some ⟨w1.heap.size, 0, none⟩)] 53)) 0 55 55 55 53 i0 _ 8 Try.underlying55 hi0 hz0 hz1 hz2 rfl _ _ _ (World.ownsRow.alloc hr3 _) _ 1 [.pointer (some ⟨w1.heap.size, 0, none⟩)] hsrc (by unfold maxLen; omega) (by omega) (Nat.zero_le _)
      have hH4 : ((w2.setCell ⟨a, 1, none⟩ (.int .i64 ((S.next : Int) + 1))).alloc (.cells #[.pointer (some ⟨w1.heap.size, 0, none⟩)] 53)).heap.size = w2.heap.size + 1 := by simp
      rw [hH4] at hat4
      clear h0 h1 ht2 hsrc
      obtain ⟨ao4, cp4, rfl⟩ := ownsRow_shape hown4
      have hkg : Keeps (fun k => k = a ∨ (Value.slice ao S.ths.length cap).ownBlock = some k) ((w2.setCell ⟨a, 1, none⟩ (.int .i64 ((S.next : Int) + 1))).alloc (.cells #[.pointer (some ⟨w1.heap.size, 0, none⟩)] 53)) w4 := Keeps.ofGrown hgrow4 fun k e => .inr e
      have hk4 : Keeps (fun k => k = a ∨ (Value.slice ao S.ths.length cap).ownBlock = some k) w1 w4 := (hk3.alloc _).trans hkg
      have hk24 : Keeps (fun k => k = a ∨ (Value.slice ao S.ths.length cap).ownBlock = some k) w2 w4 := (hkt.alloc _).trans hkg
      have htp4 : w4.heap[a]? = some (.cells #[.slice ao S.ths.length cap, .int .i64 ((S.next : Int) + 1), .int .i64 (sizeT S.ths)] 57 (0, 0)) := by
        rw [hgrow4.block a (by simp; omega) (fun e => haR a e.symm rfl)]
        exact top_keep htp3 ((Keeps.refl (fun _ => False) _).alloc _) (fun h => h)
      have hto4 : ∀ k, (Value.slice ao4 (S.ths.length + 1) cp4).ownBlock = some k → (k < w1.heap.size ∧ R k = .row) ∨ (w1.heap.size ≤ k ∧ k ≠ w1.heap.size) := fun k e => by
        rcases hat4 with h | h
        · rw [h] at e
          exact .inl ⟨(H1.out.row.lt k e).2, H1.out.rrow k e⟩
        · rw [h] at e
          cases e
          exact .inr ⟨by omega, by omega⟩
      have hT4 : ThB (w4.setCell ⟨a, 0, none⟩ (.slice ao4 (S.ths.length + 1) cp4)) (newT S.next dir) w1.heap.size (.slice none 0 0) (.slice none 0 0) :=
        (HT2.out.keep hk24 (fun h => by
          rcases h with h | h
          · omega
          · have := (H1.out.row.lt _ h).2; omega)).keep ((Keeps.refl (fun k => k = a) w4).setCell (p := ⟨a, 0, none⟩) (.inl rfl) _) (by omega)
      obtain ⟨R5, hadd, hR5⟩ := H1.out.add (x := newT S.next dir) (w' := w4.setCell ⟨a, 0, none⟩ (.slice ao4 (S.ths.length + 1) cp4)) HO.out.lt (fun y hy e he => by
          obtain ⟨z, hz, hze⟩ := ((HO.out.held y hy e.1 e.2).1 he).2.1
          rw [← hze]; exact HO.out.lt z hz) rfl rfl rfl (Nat.le_refl _) (hk4.setCell (.inl (.inl rfl)) _) (fun k hk h => by
          rcases h with rfl | h
          · exact .inr H1.out.ra
          · exact .inl (H1.out.rrow k h)) (by rw [show ((S.next + 1 : Nat) : Int) = (S.next : Int) + 1 by omega]; exact top0 htp4 _) hT4 (((Keeps.refl (fun k => k = a) w4).setCell (p := ⟨a, 0, none⟩) (.inl rfl) _).row hown4 (fun k e h => by
          have h : k = a := h
          subst h
          rcases hto4 k e with ⟨_, h2⟩ | ⟨h2, _⟩
          · rw [H1.out.ra] at h2; cases h2
          · omega)) hto4
      have hc4 := top_cells htp4
      obtain ⟨c40, _, _, cf4⟩ := hc4
      have HAD := hidden hadd
      have HR5 := hidden hR5
      have HK5 := hidden (hk4.setCell (p := ⟨a, 0, none⟩) (.inl (.inl rfl)) (.slice ao4 (S.ths.length + 1) cp4))
      clear hadd hR5 hT4 hto4 htp4 hk24 hk4 hkg hown4 hgrow4 hnil4 hat4 hkt htp3 hr3 hk3
      go_wp2_with (at_builtin; refine wpList_append_run _ rfl (.tmp 45) (.tmp 47) 55 55 rfl _ _ rfl rfl hrun4 ?_)
      obtain ⟨w5, hw5⟩ : ∃ W, W = w4.setCell ⟨a, 0, none⟩ (.slice ao4 (S.ths.length + 1) cp4) := ⟨_, rfl⟩
      rw [← hw5] at HAD HK5 ⊢
      clear hw5
      have HV5 := hidden ((HV.out.fresh hb).keep HK5.out fun k e h => by
        rcases h with h | h
        · have := hvR k e; rw [h, H1.out.ra] at this; cases this
        · have := hvR k e; rw [H1.out.rrow k h] at this; cases this)
      have hxne : x.id ≠ S.next := by omega
      have hxm5 : x ∈ S.ths ++ [newT S.next dir] := List.mem_append.2 (.inl HXM.out)
      have hnm5 : newT S.next dir ∈ S.ths ++ [newT S.next dir] := List.mem_append.2 (.inr (List.mem_singleton.2 rfl))
      have hnb5 := HAD.out.th _ hnm5
      have hB1 : upd B S.next w1.heap.size S.next = w1.heap.size := upd_self _ _ _
      have hB2 : upd B S.next w1.heap.size x.id = B x.id := upd_ne _ _ hxne
      have hbv5 : (upd hv S.next (.slice none 0 0) x.id).ownBlock ≠ some (upd B S.next w1.heap.size x.id) := fun e => by
        have h1 := HAD.out.rhel x hxm5 _ e
        rw [HAD.out.rth x hxm5] at h1
        cases h1
      have HPT := eput_c (upd B S.next w1.heap.size) x _ _ _ (lastN p) S.next w5 (HAD.out.th x hxm5) (HAD.out.hel x hxm5) HSR.out hhl HSI.out hbv5
      rw [hB1, hB2] at HPT
      have HPT := hidden HPT
      have HNB := hidden hnb5
      clear hnb5
      go_wp2_with fail
      refine (last_c v p w5 HV5.out HP.out).mono ?_
      rintro e wq ⟨rfl, hq⟩; obtain rfl := hq.symm; clear hq
      go_wp2_with fail
      refine HPT.out.mono ?_
      rintro e w6 ⟨rfl, hv6, ht6, he6, hk6, hat6⟩
      have hn6 : ThB w6 (newT S.next dir) w1.heap.size (.slice none 0 0) (.slice none 0 0) := by
        have h1 := HNB.out.keep hk6 (fun h => by
          have hr := HAD.out.rth _ hnm5
          rcases h with h | h
          · rw [show (newT S.next dir).id = S.next from rfl, hB1] at h hr
            rw [h, ← hB2, HAD.out.rth x hxm5] at hr
            injection hr with hr
            exact hxne hr
          · rw [HAD.out.rhel x hxm5 _ h] at hr; cases hr)
        simpa only [show (newT S.next dir).id = S.next from rfl, upd_self] using h1
      have c60 := hn6.c0
      rw [show (newT S.next dir).id = S.next from rfl] at c60
      rw [← hB2] at ht6 hk6
      obtain ⟨R6, hX6, hR6⟩ := HAD.out.one (T := fun k => k = upd B S.next w1.heap.size x.id ∨ (upd hv S.next (.slice none 0 0) x.id).ownBlock = some k) (by
          refine List.pairwise_append.2 ⟨HO.out.inc, List.pairwise_singleton _ _, fun y hy z hz => ?_⟩
          rw [List.mem_singleton.1 hz]
          exact HO.out.lt y hy) hxm5 (putH (lastN p) S.next) (fun _ => rfl) (w' := w6) (dv' := upd dv S.next (.slice none 0 0) x.id) (hv' := hv6) hk6 (fun k _ h => by
          rcases h with h | h
          · rw [h]; exact .inl (HAD.out.rth x hxm5)
          · exact .inr (.inl (HAD.out.rhel x hxm5 k h))) (by
          rw [setT_size (f := putH (lastN p) S.next) fun _ => rfl]
          refine top_keep HAD.out.top hk6 fun h => ?_
          rcases h with h | h
          · have := HAD.out.ra; rw [h, HAD.out.rth x hxm5] at this; cases this
          · have := HAD.out.ra; rw [HAD.out.rhel x hxm5 _ h] at this; cases this) ht6 ((HAD.out.dat x hxm5).keep hk6 fun k e h => by
          rcases h with h | h
          · have := HAD.out.rdat x hxm5 k e; rw [h, HAD.out.rth x hxm5] at this; cases this
          · have := HAD.out.rdat x hxm5 k e; rw [HAD.out.rhel x hxm5 k h] at this; cases this) he6 (fun k e => .inl ⟨(HAD.out.dat x hxm5).lt k e, HAD.out.rdat x hxm5 k e⟩) (fun k e => by
          rcases hat6 with h | h
          · rw [h] at e
            exact .inl ⟨(HAD.out.hel x hxm5).lt k e, HAD.out.rhel x hxm5 k e⟩
          · exact .inr (h k e)) (fun k h1 h2 _ => by have := (HAD.out.dat x hxm5).lt k h2; omega)
      have hfin : setT (S.ths ++ [newT S.next dir]) x.id (putH (lastN p) S.next) = setT S.ths x.id (putH (lastN p) S.next) ++ [newT S.next dir] := setT_append (by show S.next ≠ x.id; omega)
      simp only [hfin] at hX6
      have hMv : Moved R R6 w w6 := by
        have m1 : Moved R R w w1 := Moved.fresh hb
        have m2 : Moved R R5 w1 w5 := ⟨HR5.out, HK5.out.mono fun k _ h => by
          rcases h with h | h
          · rw [h, H1.out.ra]; intro e; cases e
          · rw [H1.out.rrow k h]; intro e; cases e⟩
        have m3 : Moved R5 R6 w5 w6 := ⟨hR6, hk6.mono fun k _ h => by
          rcases h with h | h
          · rw [h, HAD.out.rth x hxm5]; intro e; cases e
          · rw [HAD.out.rhel x hxm5 k h]; intro e; cases e⟩
        exact (m1.trans m2).trans m3
      have HFIN : Hid (∃ R', TX w6 R' a ⟨setT S.ths x.id (putH (lastN p) S.next) ++ [newT S.next dir], S.next + 1⟩ ∧ Moved R R' w w6) := ⟨R6, ⟨_, _, _, _, hX6⟩, hMv⟩
      clear hX6 hMv hR6 hfin ht6 he6 hk6 hat6 hn6
      go_wp2_with fail
      go_ret2
      exact ⟨rfl, HFIN.out⟩
  · obtain ⟨er, hre, her⟩ := roomT_pair hr
    rw [if_pos hr, hre] at HM2
    subst HM2
    have hei : (((er : Nat) : Int) != 0) = true := by simp; exact her
    rw [show roomV B (roomT S.ths p) = .tuple #[.pointer none, .int .i64 er] by rw [hre]; unfold roomV; rw [if_neg her]] at hRm
    clear HM hp hre hr
    go_enter Try.func7, Try.ntmps7
    go_wp2_with fail
    refine (isRoot_c v p w HV.out).mono ?_
    rintro e wq ⟨rfl, hq⟩; obtain rfl := hq.symm; clear hq
    rw [decide_eq_false HP.out]
    go_wp2_with fail
    refine hRm.out.mono ?_
    rintro e w1 ⟨rfl, hb⟩
    go_wp2_with fail
    go_ret2
    exact TPost.same HX.out hb
end
end Go.Proofs.Ytnigfnikajejaab
