/- Rename. -/
import Derived.Test.YtnigfnikajejaabTmL
namespace Go.Proofs.Ytnigfnikajejaab
open Go Go.RowKit

section
variable {w : World} {R : Nat → Role} {a : Nat} {S : Tr} {B : Nat → Nat} {dv hv : Nat → Value} {tv : Value} {pa : Nat → Nat} {nm : Nat → Nm}
set_option maxHeartbeats 4000000 in
set_option maxRecDepth 100000 in
theorem rename_c (H : TXb w R a S B dv hv tv) (o : Ok S pa nm) (v1 v2 : Value) (p q : List Nm) (hv1 : SSl w v1 p) (hv2 : SSl w v2 q) (hvR : ∀ k, v2.ownBlock = some k → R k = .no) :
    Calls Try.prog 15 #[.pointer (some ⟨a, 0, none⟩), v1, v2] w (TPost R a (renameT S p q).2 (.int .i64 (renameT S p q).1) w) := by
  have HH := hidden H
  have HV1 := hidden hv1
  have HV2 := hidden hv2
  have HO := hidden o
  have HX : Hid (TX w R a S) := ⟨B, dv, hv, tv, H⟩
  have HM : Hid (renameT S p q = if p = [] ∨ q = [] then (1, S) else match walkT S.ths 0 p with
    | none => (22, S)
    | some j => if (roomT S.ths q).2 ≠ 0 then ((roomT S.ths q).2, S) else if leads q p then (1, S)
      else (0, ⟨setT (setT S.ths ((walkT S.ths 0 p.dropLast).getD 0) (cutH (lastN p))) (roomT S.ths q).1 (putH (lastN q) j), S.next⟩)) := rfl
  generalize renameT S p q = M at HM ⊢
  clear H hv1 hv2 o
  by_cases hp : p = []
  · have HM2 := HM.out
    rw [if_pos (.inl hp)] at HM2
    subst HM2
    clear HM
    go_enter Try.func15, Try.ntmps15
    go_wp2_with fail
    refine (isRoot_c v1 p w HV1.out).mono ?_
    rintro e wq ⟨rfl, hq⟩; obtain rfl := hq.symm; clear hq
    rw [decide_eq_true hp]
    go_wp2_with fail
    go_ret
    exact TPost.same HX.out (Below.refl _ _)
  have HP := hidden hp
  by_cases hq0 : q = []
  · have HM2 := HM.out
    rw [if_pos (.inr hq0)] at HM2
    subst HM2
    clear HM hp
    go_enter Try.func15, Try.ntmps15
    go_wp2_with fail
    refine (isRoot_c v1 p w HV1.out).mono ?_
    rintro e wq ⟨rfl, hq⟩; obtain rfl := hq.symm; clear hq
    rw [decide_eq_false HP.out]
    go_wp2_with fail
    refine (isRoot_c v2 q w HV2.out).mono ?_
    rintro e wq ⟨rfl, hq⟩; obtain rfl := hq.symm; clear hq
    rw [decide_eq_true hq0]
    go_wp2_with fail
    go_ret
    exact TPost.same HX.out (Below.refl _ _)
  have HQ := hidden hq0
  have HM2 := HM.out
  rw [if_neg (fun h => h.elim hp hq0)] at HM2
  have HWK := hidden (walk_c HH.out HO.out v1 p HV1.out)
  cases hw : walkT S.ths 0 p with
  | none =>
    rw [hw] at HM2
    rw [hw, show ptrO B none = .pointer none from rfl] at HWK
    subst HM2
    clear HM hp hq0 hw
    go_enter Try.func15, Try.ntmps15
    go_wp2_with fail
    refine (isRoot_c v1 p w HV1.out).mono ?_
    rintro e wq ⟨rfl, hq⟩; obtain rfl := hq.symm; clear hq
    rw [decide_eq_false HP.out]
    go_wp2_with fail
    refine (isRoot_c v2 q w HV2.out).mono ?_
    rintro e wq ⟨rfl, hq⟩; obtain rfl := hq.symm; clear hq
    rw [decide_eq_false HQ.out]
    go_wp2_with fail
    refine HWK.out.mono ?_
    rintro e w1 ⟨rfl, hb⟩
    go_wp2_with fail
    go_ret
    exact TPost.same HX.out hb
  | some j =>
    rw [hw] at HM2
    simp only at HM2
    rw [hw, show ptrO B (some j) = .pointer (some ⟨B j, 0, none⟩) from rfl] at HWK
    have HRm := hidden (fun (W : World) (HW : TXb W R a S B dv hv tv) (hs : SSl W v2 q) => roomAt_c HW HO.out v2 q hs hq0)
    by_cases hr : (roomT S.ths q).2 = 0
    · obtain ⟨i, hri⟩ := roomT_zero hr
      obtain ⟨hright, _, x2, hx2, rfl, _, _⟩ := roomT_ok HO.out hri
      rw [if_neg (fun h => h hr), hri] at HM2
      rw [show roomV B (roomT S.ths q) = .tuple #[.pointer (some ⟨B x2.id, 0, none⟩), .int .i64 0] by rw [hri]; rfl] at HRm
      have HRT := hidden (rightP_len hright)
      have HSI : Hid ((lastN q).size ≤ 1000) := by show _ ≤ _; rw [size_len]; have := HRT.out; omega
      cases hl : leads q p with
      | true =>
        rw [hl, if_pos rfl] at HM2
        subst HM2
        clear HM hp hq0 hw hr hri hright hx2
        go_enter Try.func15, Try.ntmps15
        go_wp2_with fail
        refine (isRoot_c v1 p w HV1.out).mono ?_
        rintro e wq ⟨rfl, hq⟩; obtain rfl := hq.symm; clear hq
        rw [decide_eq_false HP.out]
        go_wp2_with fail
        refine (isRoot_c v2 q w HV2.out).mono ?_
        rintro e wq ⟨rfl, hq⟩; obtain rfl := hq.symm; clear hq
        rw [decide_eq_false HQ.out]
        go_wp2_with fail
        refine HWK.out.mono ?_
        rintro e w1 ⟨rfl, hb⟩
        have HB := hidden hb
        clear hb
        go_wp2_with fail
        refine (HRm.out w1 (HH.out.fresh HB.out) (HV2.out.fresh HB.out)).mono ?_
        rintro e w2 ⟨rfl, hb2⟩
        have HB2 := hidden (HB.out.trans (hb2.mono HB.out.size))
        clear hb2
        go_wp2_with fail
        refine (leads_c v2 v1 q p w2 (HV2.out.fresh HB2.out) (HV1.out.fresh HB2.out)).mono ?_
        rintro e w3 ⟨rfl, hk3⟩
        rw [hl]
        have HK3 := hidden hk3
        clear hk3 hl
        go_wp2_with fail
        go_ret
        exact ⟨rfl, R, HX.out.still ((Keeps.ofFresh HB2.out).trans HK3.out), ⟨fun _ _ => rfl, ((Keeps.ofFresh HB2.out).trans (HK3.out.mono fun k _ h => h.elim))⟩⟩
      | false =>
        obtain ⟨x1, hx1, hw1, hg1, hj0, _, _⟩ := HO.out.walk_holder hp hw
        rw [hl, if_neg (by simp), hw1] at HM2
        simp only [Option.getD_some] at HM2
        subst HM2
        have HX1 := hidden hx1
        have HX2 := hidden hx2
        have HG1 := hidden hg1
        have HAW := hidden (fun (W : World) (HW : TXb W R a S B dv hv tv) (va : Value) (hva : SSl W va p.dropLast) => walk_c HW HO.out va p.dropLast hva)
        rw [hw1, show ptrO B (some x1.id) = .pointer (some ⟨B x1.id, 0, none⟩) from rfl] at HAW
        clear HM hp hq0 hw hr hri hright hx2 hx1 hg1 hw1
        go_enter Try.func15, Try.ntmps15
        go_wp2_with fail
        refine (isRoot_c v1 p w HV1.out).mono ?_
        rintro e wq ⟨rfl, hq⟩; obtain rfl := hq.symm; clear hq
        rw [decide_eq_false HP.out]
        go_wp2_with fail
        refine (isRoot_c v2 q w HV2.out).mono ?_
        rintro e wq ⟨rfl, hq⟩; obtain rfl := hq.symm; clear hq
        rw [decide_eq_false HQ.out]
        go_wp2_with fail
        refine HWK.out.mono ?_
        rintro e w1 ⟨rfl, hb⟩
        have HB := hidden hb
        clear hb
        go_wp2_with fail
        refine (HRm.out w1 (HH.out.fresh HB.out) (HV2.out.fresh HB.out)).mono ?_
        rintro e w2 ⟨rfl, hb2⟩
        have HB2 := hidden (HB.out.trans (hb2.mono HB.out.size))
        clear hb2
        go_wp2_with fail
        refine (leads_c v2 v1 q p w2 (HV2.out.fresh HB2.out) (HV1.out.fresh HB2.out)).mono ?_
        rintro e w3 ⟨rfl, hk3⟩
        rw [hl]
        have HK3 : Hid (Keeps (fun _ => False) w w3) := (Keeps.ofFresh HB2.out).trans hk3
        clear hk3 hl
        go_wp2_with fail
        refine (ahead_c v1 p w3 (HV1.out.keep HK3.out fun _ _ h => h) HP.out).mono ?_
        rintro e wq ⟨va, rfl, hva, hq⟩; obtain rfl := hq.symm; clear hq
        have HVA := hidden hva
        clear hva
        go_wp2_with fail
        refine (HAW.out w3 (HH.out.still HK3.out) va HVA.out).mono ?_
        rintro e w4 ⟨rfl, hb4⟩
        have HK4 : Hid (Keeps (fun _ => False) w w4) := HK3.out.trans (Keeps.ofFresh hb4)
        clear hb4
        have H4 := hidden (HH.out.still HK4.out)
        go_wp2_with fail
        refine (last_c v1 p w4 (HV1.out.keep HK4.out fun _ _ h => h) HP.out).mono ?_
        rintro e wq ⟨rfl, hq⟩; obtain rfl := hq.symm; clear hq
        go_wp2_with fail
        refine (tdrop_c H4.out HO.out.inc HX1.out (HO.out.srt x1 HX1.out) (HO.out.hlen HX1.out) (lastN p) j HG1.out).mono ?_
        rintro e w5 ⟨rfl, R5, dv5, hv5, hX5, hm5⟩
        have HX5 := hidden hX5
        have HM5 := hidden hm5
        clear hX5 hm5
        obtain ⟨y2, hy2, hyi, hys, hyl⟩ : ∃ y2 ∈ setT S.ths x1.id (cutH (lastN p)), y2.id = x2.id ∧ Srt y2.h ∧ y2.h.length ≤ 1000 := by
          refine ⟨if x2.id = x1.id then cutH (lastN p) x2 else x2, mem_setT.2 ⟨x2, HX2.out, rfl⟩, by split <;> rfl, ?_, ?_⟩
          · split
            · exact delH_srt (HO.out.srt x2 HX2.out) _
            · exact HO.out.srt x2 HX2.out
          · have h1 := HO.out.hlen HX2.out
            split
            · exact Nat.le_trans (delH_length_le _ _) h1
            · exact h1
        have HPT := tput_c HX5.out (setT_inc HO.out.inc _ _ fun _ => rfl) hy2 hys hyl (lastN q) HSI.out j
        rw [hyi] at HPT
        have HPT := hidden HPT
        have HV25 := hidden (SSl.keep (HV2.out.keep HK4.out fun _ _ h => h) HM5.out.keeps fun k e h => h (hvR k e))
        clear hy2 hyi hys hyl
        go_wp2_with fail
        refine (last_c v2 q w5 HV25.out HQ.out).mono ?_
        rintro e wq ⟨rfl, hq⟩; obtain rfl := hq.symm; clear hq
        go_wp2_with fail
        refine HPT.out.mono ?_
        rintro e w6 ⟨rfl, R6, dv6, hv6, hX6, hm6⟩
        have HFIN : Hid (∃ R', TX w6 R' a ⟨setT (setT S.ths x1.id (cutH (lastN p))) x2.id (putH (lastN q) j), S.next⟩ ∧ Moved R R' w w6) :=
          ⟨R6, ⟨_, _, _, _, hX6⟩, (Moved.trans ⟨fun _ _ => rfl, HK4.out.mono fun k _ h => h.elim⟩ HM5.out).trans hm6⟩
        clear hX6 hm6
        go_wp2_with fail
        go_ret
        exact ⟨rfl, HFIN.out⟩
    · obtain ⟨er, hre, her⟩ := roomT_pair hr
      rw [if_pos hr, hre] at HM2
      subst HM2
      have hei : (((er : Nat) : Int) != 0) = true := by simp; exact her
      rw [show roomV B (roomT S.ths q) = .tuple #[.pointer none, .int .i64 er] by rw [hre]; unfold roomV; rw [if_neg her]] at HRm
      clear HM hp hq0 hw hr hre
      go_enter Try.func15, Try.ntmps15
      go_wp2_with fail
      refine (isRoot_c v1 p w HV1.out).mono ?_
      rintro e wq ⟨rfl, hq⟩; obtain rfl := hq.symm; clear hq
      rw [decide_eq_false HP.out]
      go_wp2_with fail
      refine (isRoot_c v2 q w HV2.out).mono ?_
      rintro e wq ⟨rfl, hq⟩; obtain rfl := hq.symm; clear hq
      rw [decide_eq_false HQ.out]
      go_wp2_with fail
      refine HWK.out.mono ?_
      rintro e w1 ⟨rfl, hb⟩
      have HB := hidden hb
      clear hb
      go_wp2_with fail
      refine (HRm.out w1 (HH.out.fresh HB.out) (HV2.out.fresh HB.out)).mono ?_
      rintro e w2 ⟨rfl, hb2⟩
      have HB2 := hidden (HB.out.trans (hb2.mono HB.out.size))
      clear hb2
      go_wp2_with fail
      go_ret
      exact TPost.same HX.out HB2.out
end
end Go.Proofs.Ytnigfnikajejaab
