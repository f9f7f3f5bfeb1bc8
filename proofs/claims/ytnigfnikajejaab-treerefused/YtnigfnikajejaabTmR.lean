/- Write. -/
import Derived.Test.YtnigfnikajejaabTmQ
namespace Go.Proofs.Ytnigfnikajejaab
open Go Go.RowKit

section
variable {w : World} {R : Nat → Role} {a : Nat} {S : Tr} {B : Nat → Nat} {dv hv : Nat → Value} {tv : Value} {pa : Nat → Nat} {nm : Nat → Nm}
/-- Bytes laid over a file's, where they fit. -/
theorem TXb.laid (H : TXb w R a S B dv hv tv) (hi : Inc S.ths) {x : Th} (hx : x ∈ S.ths) {vb : Value} {b : List UInt8} (hb : BSl w vb b) (k : Nat) (hkb : k + b.length ≤ x.d.length) (hb0 : b ≠ []) :
    ∃ g cap w', dv x.id = .slice (some ⟨g, 0, none⟩) x.d.length cap ∧ x.d.length ≤ cap ∧ (∀ ty dc, (Builtin.copy_ #[28, 28] ty #[.slice (some ⟨g, k, none⟩) (x.d.length - k) dc, vb]).run Try.prog w = .ok (goInt b.length) w') ∧
      ∃ R' dv' hv', TXb w' R' a ⟨setT S.ths x.id (layF k b), S.next⟩ B dv' hv' tv ∧ Moved R R' w w' := by
  have hlb := List.length_pos_iff.2 hb0
  obtain ⟨dao, cap, hdv, hdc, hdm, hdn⟩ := (H.dat x hx).shape
  obtain ⟨g, rfl⟩ : ∃ g, dao = some ⟨g, 0, none⟩ := by
    rcases hdn with ⟨_, h, _⟩ | h
    · have : x.d.length = 0 := by rw [h]; rfl
      omega
    · exact h
  have hD := H.dat x hx
  rw [hdv] at hD
  obtain ⟨w', hrun, hH, hk⟩ := run_copy_H w hD hb k hkb hb0
  have hrg : R g = .dat x.id := H.rdat x hx g (by rw [hdv]; rfl)
  refine ⟨g, cap, w', hdv, hdc, hrun, ?_⟩
  have hll : (lay x.d k b).length = x.d.length := lay_length hkb
  obtain ⟨R', h1, h2⟩ := H.one hi hx (layF k b) (fun _ => rfl) (dv' := .slice (some ⟨g, 0, none⟩) x.d.length cap) (hv' := hv x.id) hk (fun j _ h => by rw [h]; exact .inr (.inr (.inl hrg))) (by
      have : sizeT (setT S.ths x.id (layF k b)) = sizeT S.ths := by
        have := setT_size_at hi hx (layF k b)
        rw [show (layF k b x).d.length = x.d.length from hll] at this
        omega
      rw [this]
      exact top_keep H.top hk (fun h => by have h1 := H.ra; rw [h, hrg] at h1; cases h1)) (by
      have h1 := (H.th x hx).keep hk (fun h => by have h2 := H.rth x hx; rw [h, hrg] at h2; cases h2)
      rw [hdv] at h1
      exact h1) hH ((H.hel x hx).keep hk fun j e h => by have h1 := H.rhel x hx j e; rw [h, hrg] at h1; cases h1) (fun j e => by cases e; exact .inl ⟨(H.dat x hx).lt g (by rw [hdv]; rfl), hrg⟩) (fun j e => .inl ⟨(H.hel x hx).lt j e, H.rhel x hx j e⟩) (fun j h1 h2 _ => by
      have e : g = j := by simpa [Value.ownBlock] using h2
      have := (H.dat x hx).lt g (by rw [hdv]; rfl)
      omega)
  exact ⟨R', _, _, h1, h2, hk.mono fun j _ h => by rw [h, hrg]; intro e; cases e⟩

set_option maxHeartbeats 4000000 in
set_option maxRecDepth 100000 in
theorem write_c (H : TXb w R a S B dv hv tv) (o : Ok S pa nm) (i : Int) (k : Nat) (hk : k ≤ 18446744073709551615) (vb : Value) (b : List UInt8) (hb : BSl w vb b) (hbl : b.length ≤ 1000000000) (hvR : b ≠ [] → ∀ j, vb.ownBlock = some j → R j = .no) :
    Calls Try.prog 8 #[.pointer (some ⟨a, 0, none⟩), .int .i64 i, .int .u64 k, vb] w (TPost R a (writeT S i k b).2 (.int .i64 (writeT S i k b).1) w) := by
  have HF := hidden (file_c H o i)
  have HH := hidden H
  have HB := hidden hb
  have HX : Hid (TX w R a S) := ⟨B, dv, hv, tv, H⟩
  have HR : Hid (writeT S i k b = match fileT S i with
    | (none, e) => (e, S)
    | (some x, _) => if b = [] then (0, S) else if hasRoom S x (min k 1048576 + b.length) ≠ 0 then (hasRoom S x (min k 1048576 + b.length), S)
      else (0, ⟨setT (if x.d.length < k + b.length then setT S.ths x.id (sizeF (k + b.length)) else S.ths) x.id (layF k b), S.next⟩)) := rfl
  generalize writeT S i k b = rr at HR ⊢
  have HO := hidden o
  obtain ⟨bao, bcap, rfl, hbc, hbm, _⟩ := hb
  unfold maxLen at hbm
  clear H o
  cases hf : fileT S i with
  | mk ox e =>
    rw [hf] at HR HF
    cases ox with
    | none =>
      have hr := HR.out
      simp only at hr
      subst hr
      have hei : (((e : Nat) : Int) != 0) = true := by simp; exact fileT_no hf
      rw [show ptrT B (none, e).1 = .pointer none from rfl] at HF
      clear HR hf
      go_enter Try.func8, Try.ntmps8
      go_wp2_with fail
      refine HF.out.mono ?_
      rintro e1 w1 ⟨rfl, hb⟩
      go_wp2_with fail
      go_ret
      exact TPost.same HX.out hb
    | some x =>
      obtain ⟨hx, _, hxd, rfl⟩ := fileT_ok HO.out.inc hf
      have hs := (HO.out.att x hx).2.2
      have hbs := HO.out.bytes
      have hle : x.d.length ≤ sizeT S.ths := by have := sizeT_at HO.out.inc hx; omega
      rw [show ptrT B (some x, 0).1 = .pointer (some ⟨B x.id, 0, none⟩) from rfl] at HF
      have hr := HR.out
      simp only at hr
      by_cases hb0 : b = []
      · rw [if_pos hb0] at hr
        subst hr
        have hz : (((b.length : Nat) : Int) == 0) = true := by rw [hb0]; rfl
        clear HR hf hx
        go_enter Try.func8, Try.ntmps8
        go_wp2_with fail
        refine HF.out.mono ?_
        rintro e1 w1 ⟨rfl, hb⟩
        go_wp2_with fail
        go_ret
        exact TPost.same HX.out hb
      · rw [if_neg hb0] at hr
        have hlb := List.length_pos_iff.2 hb0
        have hz : (((b.length : Nat) : Int) == 0) = false := by rw [beq_eq_false_iff_ne]; omega
        have HMH := hidden (fun (W : World) (HW : TXb W R a S B dv hv tv) (n : Nat) => mayHave_c HW hx hbs hle n)
        obtain ⟨m, hm⟩ : ∃ m, m = min k 1048576 := ⟨_, rfl⟩
        obtain ⟨E, hE⟩ : ∃ E, E = m + b.length := ⟨_, rfl⟩
        rw [← hm, ← hE] at hr
        have hmi : min (k : Int) 1048576 = (m : Int) := by omega
        have hsi : (m : Int) + (b.length : Int) = (E : Int) := by omega
        have hm0 : 0 ≤ (E : Int) := by omega
        have hm1 : (E : Int) ≤ 1001048576 := by omega
        by_cases hrm : hasRoom S x E = 0
        · rw [if_neg (fun h => h hrm)] at hr
          have hE2 : E ≤ 1048576 := by
            unfold hasRoom at hrm
            split at hrm
            · cases hrm
            · omega
          obtain rfl : m = k := by omega
          have hmi2 : min (m : Int) 1048576 = (m : Int) := hmi
          subst hr
          rw [← hE]
          have HM1 := hidden (fun (W : World) (HW : TXb W R a S B dv hv tv) => HMH.out W HW E)
          rw [hrm] at HM1
          have HXM := hidden hx
          have HEE := hidden hE
          by_cases hup : x.d.length < E
          · rw [if_pos hup]
            have hupi : (x.d.length : Int) < (E : Int) := by omega
            have hxm2 : sizeF E x ∈ setT S.ths x.id (sizeF E) := mem_setT.2 ⟨x, hx, by rw [if_pos rfl]⟩
            have hl2 : (sizeF E x).d.length = E := rz_length _ _
            have HRZ := hidden (fun (W : World) (HW : TXb W R a S B dv hv tv) => resize_c HW HO.out.inc HXM.out hs hbs E hE2)
            have HC : Hid (∀ {W : World}, Keeps (fun _ => False) w W → W.cell? ⟨B x.id, 3, none⟩ = some (.int .u64 (x.a.s : Int))) := fun {W} hb => ((HH.out.still hb).th x HXM.out).ca.2.1
            clear HR hf hx HMH hrm hm hE
            go_enter Try.func8, Try.ntmps8
            go_wp2_with fail
            refine HF.out.mono ?_
            rintro e1 w1 ⟨rfl, hb⟩
            have HB1 := hidden hb
            clear hb
            go_wp2_with fail
            refine (HM1.out w1 (HH.out.fresh HB1.out)).mono ?_
            rintro e2 w2 ⟨rfl, hk2⟩
            have HK2 : Hid (Keeps (fun _ => False) w w2) := (Keeps.ofFresh HB1.out).trans hk2
            clear hk2
            have c3 := HC.out HK2.out
            rw [hs] at c3
            go_wp2_with fail
            refine (HRZ.out w2 (HH.out.still HK2.out)).mono ?_
            rintro e3 w3 ⟨rfl, R3, dv3, hv3, hX3, hm3⟩
            have hinc3 := setT_inc HO.out.inc x.id (sizeF E) (fun _ => rfl)
            have hB3 := (HB.out.keep HK2.out (fun _ _ h => h)).keep hm3.keeps (fun j e h => h (hvR hb0 j e))
            obtain ⟨g, cap, w4, hdv4, hcap4, hrun4, R4, dv4, hv4, hX4, hm4⟩ := hX3.laid hinc3 hxm2 hB3 m (by rw [hl2, HEE.out]; exact Nat.le_refl _) hb0
            have c39 := (hX3.th _ hxm2).c9
            rw [hdv4] at c39
            rw [hl2] at c39 hrun4 hcap4
            have hq1 : ¬ cap = m := by have := HEE.out; omega
            have hq2 : m ≤ E := by have := HEE.out; omega
            have hq3 : (m : Int) ≤ (E : Int) := by omega
            have HFIN : Hid (∃ R', TX w4 R' a ⟨setT (setT S.ths x.id (sizeF E)) x.id (layF m b), S.next⟩ ∧ Moved R R' w w4) := ⟨R4, ⟨_, _, _, _, hX4⟩, (Moved.trans ⟨fun _ _ => rfl, HK2.out.mono fun k _ h => h.elim⟩ hm3).trans hm4⟩
            have c39' : w3.cell? ⟨B x.id, 9, none⟩ = some (.slice (some ⟨g, 0, none⟩) E cap) := c39
            clear hX4 hm4 hX3 hm3 hB3 hinc3 hdv4 c39 hE2 hl2
            go_wp2_with (at_builtin; refine wpList_copy_run _ rfl (.tmp 54) (.tmp 55) 28 28 rfl _ _ rfl rfl (hrun4 _ _) ?_)
            go_ret
            exact ⟨rfl, HFIN.out⟩
          · rw [if_neg hup]
            have hupi : ¬ (x.d.length : Int) < (E : Int) := by omega
            have HC : Hid (∀ {W : World}, Keeps (fun _ => False) w W → W.cell? ⟨B x.id, 3, none⟩ = some (.int .u64 (x.a.s : Int))) := fun {W} hb => ((HH.out.still hb).th x HXM.out).ca.2.1
            clear HR hf hx HMH hrm hm hE
            go_enter Try.func8, Try.ntmps8
            go_wp2_with fail
            refine HF.out.mono ?_
            rintro e1 w1 ⟨rfl, hb⟩
            have HB1 := hidden hb
            clear hb
            go_wp2_with fail
            refine (HM1.out w1 (HH.out.fresh HB1.out)).mono ?_
            rintro e2 w2 ⟨rfl, hk2⟩
            have HK2 : Hid (Keeps (fun _ => False) w w2) := (Keeps.ofFresh HB1.out).trans hk2
            clear hk2
            have c3 := HC.out HK2.out
            rw [hs] at c3
            have hX2 := HH.out.still HK2.out
            obtain ⟨g, cap, w4, hdv4, hcap4, hrun4, R4, dv4, hv4, hX4, hm4⟩ := hX2.laid HO.out.inc HXM.out (HB.out.keep HK2.out (fun _ _ h => h)) m (by rw [← HEE.out]; omega) hb0
            have c39 := (hX2.th _ HXM.out).c9
            rw [hdv4] at c39
            have hq1 : ¬ cap = m := by have := HEE.out; omega
            have hq2 : m ≤ x.d.length := by have := HEE.out; omega
            have hq3 : (m : Int) ≤ (x.d.length : Int) := by omega
            have HFIN : Hid (∃ R', TX w4 R' a ⟨setT S.ths x.id (layF m b), S.next⟩ ∧ Moved R R' w w4) := ⟨R4, ⟨_, _, _, _, hX4⟩, Moved.trans ⟨fun _ _ => rfl, HK2.out.mono fun k _ h => h.elim⟩ hm4⟩
            clear hX4 hm4 hX2 hdv4 hE2
            go_wp2_with (at_builtin; refine wpList_copy_run _ rfl (.tmp 54) (.tmp 55) 28 28 rfl _ _ rfl rfl (hrun4 _ _) ?_)
            go_ret
            exact ⟨rfl, HFIN.out⟩
        · rw [if_pos hrm] at hr
          subst hr
          have hre : (((hasRoom S x E : Nat) : Int) != 0) = true := by simp; exact hrm
          have HM1 := hidden (fun (W : World) (HW : TXb W R a S B dv hv tv) => HMH.out W HW E)
          generalize hasRoom S x E = rm at hre HM1 ⊢
          clear HR hf hx HMH hrm hm hE
          go_enter Try.func8, Try.ntmps8
          go_wp2_with fail
          refine HF.out.mono ?_
          rintro e1 w1 ⟨rfl, hb⟩
          have HB1 := hidden hb
          clear hb
          go_wp2_with fail
          refine (HM1.out w1 (HH.out.fresh HB1.out)).mono ?_
          rintro e2 w2 ⟨rfl, hk2⟩
          have HK2 : Hid (Keeps (fun _ => False) w w2) := (Keeps.ofFresh HB1.out).trans hk2
          clear hk2
          go_wp2_with fail
          go_ret
          exact ⟨rfl, R, HX.out.still HK2.out, ⟨fun _ _ => rfl, HK2.out.mono fun k _ h => h.elim⟩⟩
end
end Go.Proofs.Ytnigfnikajejaab
