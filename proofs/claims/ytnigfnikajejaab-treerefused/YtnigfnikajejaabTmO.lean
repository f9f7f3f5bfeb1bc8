/- A file's bytes: another number of them. -/
import Derived.Test.YtnigfnikajejaabTmN
namespace Go.Proofs.Ytnigfnikajejaab
open Go Go.RowKit

theorem setT_size_at {l : List Th} (h : Inc l) {x : Th} (hx : x ∈ l) (f : Th → Th) : sizeT (setT l x.id f) + x.d.length = sizeT l + (f x).d.length := by
  induction l with
  | nil => cases hx
  | cons e r ih =>
    obtain ⟨h1, h2⟩ := List.pairwise_cons.1 h
    rcases List.mem_cons.1 hx with rfl | hx'
    · have : setT r x.id f = r := by
        unfold setT
        conv => rhs; rw [← List.map_id r]
        apply List.map_congr_left
        intro y hy
        have := h1 y hy
        rw [if_neg (by omega)]
        rfl
      show sizeT (setT (x :: r) x.id f) + _ = _
      rw [show setT (x :: r) x.id f = f x :: setT r x.id f by simp [setT], this]
      simp [sizeT]
      omega
    · have := h1 x hx'
      have := ih h2 hx'
      rw [show setT (e :: r) x.id f = e :: setT r x.id f by simp [setT]; omega]
      simp [sizeT] at this ⊢
      omega

section
variable {w : World} {R : Nat → Role} {a : Nat} {S : Tr} {B : Nat → Nat} {dv hv : Nat → Value} {tv : Value} {pa : Nat → Nat} {nm : Nat → Nm}
set_option maxHeartbeats 4000000 in
set_option maxRecDepth 100000 in
theorem resize_c (H : TXb w R a S B dv hv tv) (hi : Inc S.ths) {x : Th} (hx : x ∈ S.ths) (hs : x.a.s = x.d.length) (hsz : sizeT S.ths ≤ 1048576) (n : Nat) (hn : n ≤ 1048576) :
    Calls Try.prog 29 #[.pointer (some ⟨a, 0, none⟩), .pointer (some ⟨B x.id, 0, none⟩), .int .u64 n] w fun e w' => e = .returned (.tuple #[]) ∧ ∃ R' dv' hv', TXb w' R' a ⟨setT S.ths x.id (sizeF n), S.next⟩ B dv' hv' tv ∧ Moved R R' w w' := by
  have HH := hidden H
  have HX := hidden hx
  have HI := hidden hi
  have hle : x.d.length ≤ sizeT S.ths := by have := sizeT_at hi hx; omega
  have hab : a ≠ B x.id := fun h => by
    have h1 := H.ra
    rw [h, H.rth x hx] at h1
    cases h1
  have hdb : (dv x.id).ownBlock ≠ some (B x.id) := fun e => by
    have h1 := H.rdat x hx _ e
    rw [H.rth x hx] at h1
    cases h1
  have had : (dv x.id).ownBlock ≠ some a := fun e => by
    have h1 := H.rdat x hx _ e
    rw [H.ra] at h1
    cases h1
  have hbl := (H.th x hx).lt
  have k2 := H.t2
  have kf := H.tf
  have k9 := (H.th x hx).c9
  obtain ⟨dao, dcap, hdv, hdc, hdm, hdn⟩ := (H.dat x hx).shape
  rw [hdv] at k9
  have hsub : IntKind.i64.wrap ((sizeT S.ths : Int) - (x.d.length : Int)) = (sizeT S.ths : Int) - (x.d.length : Int) := by rw [IntKind.wrap_i64]; omega
  have htp1 := top2 H.top (.int .i64 ((sizeT S.ths : Int) - (x.d.length : Int)))
  have hk1 : Keeps (fun k => k = a) w (w.setCell ⟨a, 2, none⟩ (.int .i64 ((sizeT S.ths : Int) - (x.d.length : Int)))).drew := ((Keeps.refl (fun k => k = a) w).setCell (p := ⟨a, 2, none⟩) (.inl rfl) _).drew
  have HTP1' : Hid ((w.setCell ⟨a, 2, none⟩ (.int .i64 ((sizeT S.ths : Int) - (x.d.length : Int)))).drew.heap[a]? = some (.cells #[tv, .int .i64 S.next, .int .i64 ((sizeT S.ths : Int) - (x.d.length : Int))] 57 (0, 0))) := htp1
  clear H hx hi htp1
  go_enter Try.func29, Try.ntmps29
  go_wp2_with fail
  go_region
  obtain ⟨w1, hw1⟩ : ∃ W, W = (w.setCell ⟨a, 2, none⟩ (.int .i64 ((sizeT S.ths : Int) - (x.d.length : Int)))).drew := ⟨_, rfl⟩
  rw [← hw1] at hk1 HTP1' ⊢
  have HK1 := hidden hk1
  have HTP1 := hidden HTP1'.out
  have HT1 := hidden ((HH.out.th x HX.out).keep hk1 hab.symm)
  have HD1 := hidden ((HH.out.dat x HX.out).keep hk1 (fun k e h => had (by rw [← h]; exact e)))
  have hs1 : w.heap.size ≤ w1.heap.size := hk1.size
  have j3 := HT1.out.ca.2.1
  have j9 := HT1.out.c9
  rw [hs] at j3
  rw [hdv] at j9
  clear hw1 hk1 HTP1' k2 kf k9
  by_cases hup : x.d.length < n
  · have hup2 : (x.d.length : Int) < (n : Int) := by omega
    obtain ⟨v2, w2, hrun, hH2, hk2, hat2⟩ := run_append_zerosH w1.drew 26 28 .u64 .u64 Try.underlying26 (n - x.d.length) (by omega) (by omega) HD1.out
    rw [← rz_up (Nat.le_of_lt hup)] at hH2
    obtain ⟨ao2, cp2, rfl⟩ := hH2.len
    rw [show ((n - x.d.length : Nat) : Int) = (n : Int) - (x.d.length : Int) by omega, hdv] at hrun
    have HK2 : Hid (Keeps (fun k => k = B x.id ∨ (dv x.id).ownBlock = some k) w1 w2) := ((Keeps.refl _ w1).drew).trans (hk2.mono fun k _ h => .inr h)
    have HT2 := hidden (HT1.out.keep (((Keeps.refl (fun k => (dv x.id).ownBlock = some k) w1).drew).trans hk2) (fun h => hdb h))
    have HH2 := hidden hH2
    have HA2 : Hid ((Value.slice ao2 (rz x.d n).length cp2).ownBlock = (dv x.id).ownBlock ∨ ∀ k, (Value.slice ao2 (rz x.d n).length cp2).ownBlock = some k → w.heap.size ≤ k) := hat2.imp id fun h k e => Nat.le_trans hs1 (h k e)
    have e9 := HT2.out.c9
    have ef := HT2.out.fz
    have hsub2 : IntKind.u64.wrap ((n : Int) - (x.d.length : Int)) = (n : Int) - (x.d.length : Int) := by simp [IntKind.wrap, IntKind.bits, IntKind.signed]; omega
    clear hk2 hH2 hat2
    go_wp2_with fail
    go_region_law (refine step_append_run _ rfl (.tmp 29) (.tmp 36) 28 26 rfl _ _ (by simp [Act.eval, Act.put]) (by simp [Act.eval, Act.put]) hrun ?_)
    all_goals
      -- behind the bytes: their number, and that of all
      obtain ⟨w3, hw3⟩ : ∃ W, W = w2.setCell ⟨B x.id, 9, none⟩ (.slice ao2 (rz x.d n).length cp2) := ⟨_, rfl⟩
      rw [← hw3]
      have hk13 : Keeps (fun k => k = B x.id ∨ (dv x.id).ownBlock = some k) w1 w3 := by rw [hw3]; exact HK2.out.setCell (.inl (.inl rfl)) _
      have hT3 : ThB w3 { x with d := rz x.d n } (B x.id) (.slice ao2 (rz x.d n).length cp2) (hv x.id) := by rw [hw3]; exact HT2.out.setD _ _
      have hH3 : Held w3 (.slice ao2 (rz x.d n).length cp2) (rz x.d n) := by
        rw [hw3]
        exact HH2.out.keep ((Keeps.refl (fun k => k = B x.id) w2).setCell (p := ⟨B x.id, 9, none⟩) (.inl rfl) _) (fun k e h => by
          have h : k = B x.id := h
          subst h
          rcases HA2.out with h | h
          · exact hdb (by rw [← h]; exact e)
          · have := h _ e
            omega)
      have htp3 : w3.heap[a]? = some (.cells #[tv, .int .i64 S.next, .int .i64 ((sizeT S.ths : Int) - (x.d.length : Int))] 57 (0, 0)) := top_keep HTP1.out hk13 (fun h => by
        rcases h with h | h
        · exact hab h
        · exact had h)
      have HT3 := hidden hT3
      have HH3 := hidden hH3
      have HK3 := hidden hk13
      have HTP3 := hidden htp3
      have c33 := hT3.c9
      have cs3 := hT3.ca.2.1
      have f3 := hT3.fz
      have hT4 := hT3.setS n
      have hk34 : Keeps (fun k => k = B x.id) w3 (w3.setCell ⟨B x.id, 3, none⟩ (.int .u64 n)) := (Keeps.refl (fun k => k = B x.id) w3).setCell (p := ⟨B x.id, 3, none⟩) (.inl rfl) _
      have htp4 : (w3.setCell ⟨B x.id, 3, none⟩ (.int .u64 n)).heap[a]? = some (.cells #[tv, .int .i64 S.next, .int .i64 ((sizeT S.ths : Int) - (x.d.length : Int))] 57 (0, 0)) := top_keep htp3 hk34 (fun h => hab h)
      obtain ⟨c40, c41, c42, cf4⟩ := top_cells htp4
      have c49 := hT4.c9
      have f4 := hT4.fz
      have HT4 := hidden hT4
      have HTP4 := hidden htp4
      have HK4 := hidden hk34
      have hl3 : (rz x.d n).length = n := rz_length _ _
      rw [hl3] at c33 c49
      have hadd : IntKind.i64.wrap ((sizeT S.ths : Int) - (x.d.length : Int) + (n : Int)) = (sizeT S.ths : Int) - (x.d.length : Int) + (n : Int) := by rw [IntKind.wrap_i64]; omega
      clear hk13 hT3 hH3 htp3 hT4 hk34 htp4 hw3 hl3
      go_wp2_with fail
      go_region
      go_end0
      obtain ⟨w5, hw5⟩ : ∃ W, W = ((w3.setCell ⟨B x.id, 3, none⟩ (.int .u64 n)).setCell ⟨a, 2, none⟩ (.int .i64 ((sizeT S.ths : Int) - (x.d.length : Int) + (n : Int)))).drew := ⟨_, rfl⟩
      rw [← hw5]
      have hk45 : Keeps (fun k => k = a) (w3.setCell ⟨B x.id, 3, none⟩ (.int .u64 n)) w5 := by rw [hw5]; exact ((Keeps.refl (fun k => k = a) _).setCell (p := ⟨a, 2, none⟩) (.inl rfl) _).drew
      have htp5 : w5.heap[a]? = some (.cells #[tv, .int .i64 S.next, .int .i64 ((sizeT S.ths : Int) - (x.d.length : Int) + (n : Int))] 57 (0, 0)) := by rw [hw5]; exact top2 HTP4.out _
      have hT5 : ThB w5 (sizeF n x) (B x.id) (.slice ao2 (rz x.d n).length cp2) (hv x.id) := HT4.out.keep hk45 hab.symm
      have hk35 : Keeps (fun k => k = B x.id ∨ k = a) w3 w5 := (HK4.out.mono fun k _ h => .inl h).trans (hk45.mono fun k _ h => .inr h)
      have hk05 : Keeps (fun k => k = a ∨ k = B x.id ∨ (dv x.id).ownBlock = some k) w w5 := (HK1.out.mono fun k _ h => .inl h).trans ((HK3.out.mono fun k _ h => .inr h).trans (hk35.mono fun k _ h => h.elim (fun h => .inr (.inl h)) .inl))
      have hown : ∀ k, (Value.slice ao2 (rz x.d n).length cp2).ownBlock = some k → (k < w.heap.size ∧ R k = .dat x.id) ∨ w.heap.size ≤ k := fun k e => by
        rcases HA2.out with h | h
        · rw [h] at e
          exact .inl ⟨(HH.out.dat x HX.out).lt k e, HH.out.rdat x HX.out k e⟩
        · exact .inr (h k e)
      have hnb : ∀ k, (Value.slice ao2 (rz x.d n).length cp2).ownBlock = some k → k ≠ B x.id ∧ k ≠ a := fun k e => by
        rcases hown k e with ⟨_, h⟩ | h
        · exact ⟨fun e => (by rw [e, HH.out.rth x HX.out] at h; cases h), fun e => (by rw [e, HH.out.ra] at h; cases h)⟩
        · exact ⟨fun e => by have := (HH.out.th x HX.out).lt; omega, fun e => by have := lt_of_block HH.out.top; omega⟩
      have hH5 : Held w5 (.slice ao2 (rz x.d n).length cp2) (rz x.d n) := HH3.out.keep hk35 (fun k e h => h.elim (hnb k e).1 (hnb k e).2)
      have hse : (sizeT S.ths : Int) - (x.d.length : Int) + (n : Int) = (sizeT (setT S.ths x.id (sizeF n)) : Int) := by
        have := setT_size_at HI.out HX.out (sizeF n)
        rw [show (sizeF n x).d.length = n from rz_length _ _] at this
        omega
      obtain ⟨R', h1, h2⟩ := HH.out.one HI.out HX.out (sizeF n) (fun _ => rfl) (dv' := .slice ao2 (rz x.d n).length cp2) (hv' := hv x.id) hk05 (fun k _ h => by
          rcases h with h | h | h
          · rw [h]; exact .inr (.inr (.inr HH.out.ra))
          · rw [h]; exact .inl (HH.out.rth x HX.out)
          · exact .inr (.inr (.inl (HH.out.rdat x HX.out k h)))) (by rw [← hse]; exact htp5) hT5 hH5 ((HH.out.hel x HX.out).keep hk05 fun k e h => by
          have hr := HH.out.rhel x HX.out k e
          rcases h with h | h | h
          · rw [h, HH.out.ra] at hr; cases hr
          · rw [h, HH.out.rth x HX.out] at hr; cases hr
          · rw [HH.out.rdat x HX.out k h] at hr; cases hr) hown (fun k e => .inl ⟨(HH.out.hel x HX.out).lt k e, HH.out.rhel x HX.out k e⟩) (fun k h1 _ h3 => by have := (HH.out.hel x HX.out).lt k h3; omega)
      exact ⟨rfl, R', _, _, h1, h2, hk05.mono fun k _ h => by
        rcases h with h | h | h
        · rw [h, HH.out.ra]; intro e; cases e
        · rw [h, HH.out.rth x HX.out]; intro e; cases e
        · rw [HH.out.rdat x HX.out k h]; intro e; cases e⟩
  · have hup2 : ¬ (x.d.length : Int) < (n : Int) := by omega
    have hnl : n ≤ x.d.length := by omega
    have hcut : BSl w1 (.slice dao n dcap) (x.d.take n) := by
      have h1 := HD1.out.bsl
      rw [hdv] at h1
      obtain ⟨ao', cap', e, g1, g2, g3, g4⟩ := h1
      cases e
      have hl : (x.d.take n).length = n := by rw [List.length_take]; omega
      refine ⟨dao, dcap, by rw [hl], by rw [hl]; omega, g2, fun e => ⟨by rw [(g3 e).1]; simp, (g3 e).2⟩, fun ad e hne => ?_⟩
      obtain ⟨b, off, rfl, hc⟩ := g4 ad e (by rintro h; rw [h] at hne; simp at hne)
      refine ⟨b, off, rfl, fun j u hu => hc j u ?_⟩
      rw [show bcells (x.d.take n) = (bcells x.d).take n by simp [bcells, List.map_take], List.getElem?_take] at hu
      split at hu
      · exact hu
      · cases hu
    have HC := hidden hcut
    have hq1 : n ≤ dcap := by omega
    have hq2 : (n : Int) ≤ (dcap : Int) := by omega
    unfold maxLen at hdm
    clear hcut
    go_wp2_with fail
    refine (bclone_c _ _ _ HC.out (by rw [List.length_take]; omega)).mono ?_
    rintro e w2 ⟨v2, rfl, hH2, hb2, hat2⟩
    rw [← rz_down hnl] at hH2
    obtain ⟨ao2, cp2, rfl⟩ := hH2.len
    have HK2 : Hid (Keeps (fun k => k = B x.id ∨ (dv x.id).ownBlock = some k) w1 w2) := Keeps.ofFresh hb2
    have HT2 := hidden (HT1.out.fresh hb2)
    have HH2 := hidden hH2
    have HA2 : Hid ((Value.slice ao2 (rz x.d n).length cp2).ownBlock = (dv x.id).ownBlock ∨ ∀ k, (Value.slice ao2 (rz x.d n).length cp2).ownBlock = some k → w.heap.size ≤ k) := .inr fun k e => Nat.le_trans hs1 (hat2 k e)
    have e9 := HT2.out.c9
    have ef := HT2.out.fz
    clear hb2 hH2 hat2
    go_upto_region 4 with fail
    -- behind the bytes: their number, and that of all
    obtain ⟨w3, hw3⟩ : ∃ W, W = w2.setCell ⟨B x.id, 9, none⟩ (.slice ao2 (rz x.d n).length cp2) := ⟨_, rfl⟩
    rw [← hw3]
    have hk13 : Keeps (fun k => k = B x.id ∨ (dv x.id).ownBlock = some k) w1 w3 := by rw [hw3]; exact HK2.out.setCell (.inl (.inl rfl)) _
    have hT3 : ThB w3 { x with d := rz x.d n } (B x.id) (.slice ao2 (rz x.d n).length cp2) (hv x.id) := by rw [hw3]; exact HT2.out.setD _ _
    have hH3 : Held w3 (.slice ao2 (rz x.d n).length cp2) (rz x.d n) := by
      rw [hw3]
      exact HH2.out.keep ((Keeps.refl (fun k => k = B x.id) w2).setCell (p := ⟨B x.id, 9, none⟩) (.inl rfl) _) (fun k e h => by
        have h : k = B x.id := h
        subst h
        rcases HA2.out with h | h
        · exact hdb (by rw [← h]; exact e)
        · have := h _ e
          omega)
    have htp3 : w3.heap[a]? = some (.cells #[tv, .int .i64 S.next, .int .i64 ((sizeT S.ths : Int) - (x.d.length : Int))] 57 (0, 0)) := top_keep HTP1.out hk13 (fun h => by
      rcases h with h | h
      · exact hab h
      · exact had h)
    have HT3 := hidden hT3
    have HH3 := hidden hH3
    have HK3 := hidden hk13
    have HTP3 := hidden htp3
    have c33 := hT3.c9
    have cs3 := hT3.ca.2.1
    have f3 := hT3.fz
    have hT4 := hT3.setS n
    have hk34 : Keeps (fun k => k = B x.id) w3 (w3.setCell ⟨B x.id, 3, none⟩ (.int .u64 n)) := (Keeps.refl (fun k => k = B x.id) w3).setCell (p := ⟨B x.id, 3, none⟩) (.inl rfl) _
    have htp4 : (w3.setCell ⟨B x.id, 3, none⟩ (.int .u64 n)).heap[a]? = some (.cells #[tv, .int .i64 S.next, .int .i64 ((sizeT S.ths : Int) - (x.d.length : Int))] 57 (0, 0)) := top_keep htp3 hk34 (fun h => hab h)
    obtain ⟨c40, c41, c42, cf4⟩ := top_cells htp4
    have c49 := hT4.c9
    have f4 := hT4.fz
    have HT4 := hidden hT4
    have HTP4 := hidden htp4
    have HK4 := hidden hk34
    have hl3 : (rz x.d n).length = n := rz_length _ _
    rw [hl3] at c33 c49
    have hadd : IntKind.i64.wrap ((sizeT S.ths : Int) - (x.d.length : Int) + (n : Int)) = (sizeT S.ths : Int) - (x.d.length : Int) + (n : Int) := by rw [IntKind.wrap_i64]; omega
    clear hk13 hT3 hH3 htp3 hT4 hk34 htp4 hw3 hl3
    go_wp2_with fail
    go_region
    go_end0
    obtain ⟨w5, hw5⟩ : ∃ W, W = ((w3.setCell ⟨B x.id, 3, none⟩ (.int .u64 n)).setCell ⟨a, 2, none⟩ (.int .i64 ((sizeT S.ths : Int) - (x.d.length : Int) + (n : Int)))).drew := ⟨_, rfl⟩
    rw [← hw5]
    have hk45 : Keeps (fun k => k = a) (w3.setCell ⟨B x.id, 3, none⟩ (.int .u64 n)) w5 := by rw [hw5]; exact ((Keeps.refl (fun k => k = a) _).setCell (p := ⟨a, 2, none⟩) (.inl rfl) _).drew
    have htp5 : w5.heap[a]? = some (.cells #[tv, .int .i64 S.next, .int .i64 ((sizeT S.ths : Int) - (x.d.length : Int) + (n : Int))] 57 (0, 0)) := by rw [hw5]; exact top2 HTP4.out _
    have hT5 : ThB w5 (sizeF n x) (B x.id) (.slice ao2 (rz x.d n).length cp2) (hv x.id) := HT4.out.keep hk45 hab.symm
    have hk35 : Keeps (fun k => k = B x.id ∨ k = a) w3 w5 := (HK4.out.mono fun k _ h => .inl h).trans (hk45.mono fun k _ h => .inr h)
    have hk05 : Keeps (fun k => k = a ∨ k = B x.id ∨ (dv x.id).ownBlock = some k) w w5 := (HK1.out.mono fun k _ h => .inl h).trans ((HK3.out.mono fun k _ h => .inr h).trans (hk35.mono fun k _ h => h.elim (fun h => .inr (.inl h)) .inl))
    have hown : ∀ k, (Value.slice ao2 (rz x.d n).length cp2).ownBlock = some k → (k < w.heap.size ∧ R k = .dat x.id) ∨ w.heap.size ≤ k := fun k e => by
      rcases HA2.out with h | h
      · rw [h] at e
        exact .inl ⟨(HH.out.dat x HX.out).lt k e, HH.out.rdat x HX.out k e⟩
      · exact .inr (h k e)
    have hnb : ∀ k, (Value.slice ao2 (rz x.d n).length cp2).ownBlock = some k → k ≠ B x.id ∧ k ≠ a := fun k e => by
      rcases hown k e with ⟨_, h⟩ | h
      · exact ⟨fun e => (by rw [e, HH.out.rth x HX.out] at h; cases h), fun e => (by rw [e, HH.out.ra] at h; cases h)⟩
      · exact ⟨fun e => by have := (HH.out.th x HX.out).lt; omega, fun e => by have := lt_of_block HH.out.top; omega⟩
    have hH5 : Held w5 (.slice ao2 (rz x.d n).length cp2) (rz x.d n) := HH3.out.keep hk35 (fun k e h => h.elim (hnb k e).1 (hnb k e).2)
    have hse : (sizeT S.ths : Int) - (x.d.length : Int) + (n : Int) = (sizeT (setT S.ths x.id (sizeF n)) : Int) := by
      have := setT_size_at HI.out HX.out (sizeF n)
      rw [show (sizeF n x).d.length = n from rz_length _ _] at this
      omega
    obtain ⟨R', h1, h2⟩ := HH.out.one HI.out HX.out (sizeF n) (fun _ => rfl) (dv' := .slice ao2 (rz x.d n).length cp2) (hv' := hv x.id) hk05 (fun k _ h => by
        rcases h with h | h | h
        · rw [h]; exact .inr (.inr (.inr HH.out.ra))
        · rw [h]; exact .inl (HH.out.rth x HX.out)
        · exact .inr (.inr (.inl (HH.out.rdat x HX.out k h)))) (by rw [← hse]; exact htp5) hT5 hH5 ((HH.out.hel x HX.out).keep hk05 fun k e h => by
        have hr := HH.out.rhel x HX.out k e
        rcases h with h | h | h
        · rw [h, HH.out.ra] at hr; cases hr
        · rw [h, HH.out.rth x HX.out] at hr; cases hr
        · rw [HH.out.rdat x HX.out k h] at hr; cases hr) hown (fun k e => .inl ⟨(HH.out.hel x HX.out).lt k e, HH.out.rhel x HX.out k e⟩) (fun k h1 _ h3 => by have := (HH.out.hel x HX.out).lt k h3; omega)
    exact ⟨rfl, R', _, _, h1, h2, hk05.mono fun k _ h => by
      rcases h with h | h | h
      · rw [h, HH.out.ra]; intro e; cases e
      · rw [h, HH.out.rth x HX.out]; intro e; cases e
      · rw [HH.out.rdat x HX.out k h]; intro e; cases e⟩
end
end Go.Proofs.Ytnigfnikajejaab
