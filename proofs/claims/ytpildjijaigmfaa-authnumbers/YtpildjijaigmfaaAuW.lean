/- What Bytes tells of two answers that are the same, and the walk of plays. -/
import Derived.Test.YtpildjijaigmfaaAuM
import Derived.Test.YtpildjijaigmfaaAuT
import Derived.Deep.RegionWith
namespace Go.Proofs.Ytpildjijaigmfaa
open Go Go.RowKit

theorem BSl.drewN {w : World} {v : Value} {xs : List UInt8} (h : BSl w v xs) (n : Nat) : BSl (w.drewN n) v xs := h

set_option maxHeartbeats 800000 in
set_option maxRecDepth 100000 in
theorem bytes_c (u v : Value) (ls : List (List UInt8)) (B C : Nat) (w : World) (hu : Ans B w u ls) (hv : Ans C w v ls) :
    Calls Try.prog 23 #[u, v] w fun e w' => e = .returned (.bool true) ∧ Keeps (fun _ => False) w w' := by
  rcases hu with ⟨rfl, rfl⟩ | ⟨x, g, y, rfl, rfl, h1, h2, _, _⟩
  · obtain rfl := hv.zero
    go_enter Try.func23, Try.ntmps23
    go_wp2_with fail
    go_loop [5] (fun i => i = .int .i64 0) (fun _ => 0)
    case atStart => rfl
    case round =>
      subst hrel
      go_wp2_with fail
      go_ret
      exact ⟨rfl, Keeps.refl _ _⟩
  · obtain ⟨g2, y2, rfl, k1, k2, _, _⟩ := hv.get
    have m1 := cell_of_one h1
    have m2 := cell_of_one k1
    obtain ⟨a1, c1, rfl⟩ := h2.len
    obtain ⟨a2, c2, rfl⟩ := k2.len
    have HH : Hid (∀ w', Keeps (fun _ => False) w w' → (w'.cell? ⟨g, 0, none⟩ = some (.slice a1 x.length c1) ∧ w'.cell? ⟨g2, 0, none⟩ = some (.slice a2 x.length c2) ∧ (convert 25 9 (Value.slice a1 x.length c1)).run Try.prog w' = .ok (.string ⟨x.toArray⟩) w' ∧ (convert 25 9 (Value.slice a2 x.length c2)).run Try.prog w' = .ok (.string ⟨x.toArray⟩) w' ∧ Keeps (fun _ => False) w w')) := hidden fun w' hk => ⟨hk.cell m1 (fun h => h), hk.cell m2 (fun h => h), run_string (h2.keep hk (fun _ _ h => h)), run_string (k2.keep hk (fun _ _ h => h)), hk⟩
    generalize (⟨x.toArray⟩ : ByteArray) = S at *
    generalize x.length = n at *
    have hss : (S.toList == S.toList) = true := by rw [str_dec]; simp
    clear h1 h2 k1 k2
    go_enter Try.func23, Try.ntmps23
    go_wp2_with fail
    go_loopw [5] (fun i wr => (i = .int .i64 0 ∧ wr = w) ∨ (i = .int .i64 1 ∧ Keeps (fun _ => False) w wr)) (fun i _ => 1 - (intOf i).toNat)
    case atStart => exact .inl ⟨rfl, rfl⟩
    case round =>
      rcases hrel with ⟨rfl, rfl⟩ | ⟨rfl, hk⟩
      · obtain ⟨p1, p2, p3, p4, p5⟩ := HH.out wr (Keeps.refl _ _)
        clear m1 m2
        go_wp2_with fail
        go_region_held3 (fun w' => w'.cell? ⟨g, 0, none⟩ = some (.slice a1 n c1) ∧ w'.cell? ⟨g2, 0, none⟩ = some (.slice a2 n c2) ∧ (convert 25 9 (Value.slice a1 n c1)).run Try.prog w' = .ok (.string S) w' ∧ (convert 25 9 (Value.slice a2 n c2)).run Try.prog w' = .ok (.string S) w' ∧ Keeps (fun _ => False) wr w')
          (first | exact HH.out _ (Keeps.refl _ _).drew | exact HH.out _ ((Keeps.refl _ _).drewN _) | go_keep)
          (fail)
        go_wp2_with fail
        go_roundw
        case rel => exact .inr ⟨rfl, (Keeps.refl _ _).drew⟩
        case measure => simp [intOf]
      · have HK := hidden hk
        clear hk
        go_wp2_with fail
        go_ret
        exact ⟨rfl, HK.out⟩

/-- The slice value v reads as the rows of bytes ps in w. -/
def LSl (w : World) (v : Value) (ps : List (List UInt8)) : Prop :=
  ∃ ao cap, v = .slice ao ps.length cap ∧ ps.length ≤ cap ∧ cap ≤ maxLen ∧ ∀ j, j < ps.length → ∃ b off x, ao = some ⟨b, off, none⟩ ∧ w.cell? ⟨b, off + j, none⟩ = some x ∧ BSl w x (ps.getD j [])
/-- While plays goes on: both Gates stand alike. -/
structure PI (w wr : World) (a c : Nat) (U : List Usr) (s : GS) : Prop where
  gi : GI w wr a U s
  qg : QG wr c w.heap.size U s
  lt : a < c
theorem PI.still {w wr w1 : World} {a c : Nat} {U : List Usr} {s : GS} (h : PI w wr a c U s) (hk : Keeps (fun _ => False) wr w1) : PI w w1 a c U s := ⟨h.gi.still hk, h.qg.still hk, h.lt⟩
def PS (w5 : World) (c : Nat) (nm : ByteArray) (b2 go : Bool) (w' : World) : Prop := w'.cell? ⟨c, 3, none⟩ = some (.string nm) ∧ w'.cell? ⟨c, 2, none⟩ = some (.bool b2) ∧ w'.cell? ⟨c, 5, none⟩ = some (.bool go) ∧ Keeps (fun _ => False) w5 w'
theorem ps_keeps {w5 w' : World} {A B C : Prop} (h : A ∧ B ∧ C ∧ Keeps (fun _ => False) w5 w') : Keeps (fun _ => False) w5 w' := h.2.2.2

set_option maxHeartbeats 3200000 in
set_option maxRecDepth 100000 in
theorem plays_c (v u : Value) (U : List Usr) (ps : List (List UInt8)) (w : World) (hU : UB U) (hv : USl w v U) (hvo : ∀ k, v.ownBlock = some k → k < w.heap.size) (hu : LSl w u ps) (hps : ∀ j, j < ps.length → (ps.getD j []).length ≤ 300) :
    Calls Try.prog 9 #[v, u] w fun e w' => e = .returned (.bool true) ∧ Below w.heap.size w w' := by
  have HN := hidden (New_c v U w hv hU)
  have HU := hidden hU
  have HV := hidden hv
  have HVO := hidden hvo
  have HL := hidden hu
  have HP := hidden hps
  obtain ⟨ua, uc, rfl, huc, hum, _⟩ := id hu
  obtain ⟨va, vc, rfl, _⟩ := id hv
  unfold maxLen at hum
  clear hu hv hU hvo hps
  go_enter Try.func9, Try.ntmps9
  go_wp2_with fail
  refine HN.out.mono ?_
  rintro e w1 ⟨a, rfl, hg, ha, hb⟩
  have hal := hg.lt
  have HI0 : Hid (PI w (w1.alloc (.cells #[.slice va U.length vc, .bool false, .bool false, .string ⟨#[]⟩, .int .i64 0, .bool false] 50)) a w1.heap.size U newG) := by
    have hk : Keeps (fun _ => False) w1 (w1.alloc (.cells #[.slice va U.length vc, .bool false, .bool false, .string ⟨#[]⟩, .int .i64 0, .bool false] 50)) := (Keeps.refl _ _).alloc _
    exact hidden ⟨⟨hg.still hk, alive_new, ha, hb.alloc hb.size _⟩, ⟨_, heap_alloc_new w1 _, (HV.out.fresh hb).still hk, fun k e => ⟨HVO.out k e, Nat.lt_of_lt_of_le (HVO.out k e) hb.size⟩, by show 0 ≤ 2; omega, by show 0 ≤ 5; omega⟩, hal⟩
  clear hg ha hb hal HN
  go_wp2_with fail
  obtain ⟨c, hc⟩ : ∃ c, c = w1.heap.size := ⟨_, rfl⟩
  rw [← hc] at HI0 ⊢
  clear hc
  generalize w1.alloc (.cells #[.slice va U.length vc, .bool false, .bool false, .string ⟨#[]⟩, .int .i64 0, .bool false] 50) = w2 at HI0 ⊢
  go_loopw [7] (fun i wr => ∃ (j : Nat) (s : GS), j ≤ ps.length ∧ i = .int .i64 (j : Int) ∧ PI w wr a c U s) (fun i _ => ps.length - (intOf i).toNat)
  case atStart => exact ⟨0, newG, by omega, rfl, HI0.out⟩
  case round =>
    obtain ⟨j, s, hj, rfl, hpi⟩ := hrel
    have HI := hidden hpi
    clear hpi HI0
    by_cases hlt : j < ps.length
    · have i1 : (j : Int) < (ps.length : Int) := by omega
      obtain ⟨ua', uc', e1, _, _, hrow⟩ := HL.out
      cases e1
      obtain ⟨b, o, x, e2, k1, k2⟩ := hrow j hlt
      subst e2
      have HPL := hidden (HP.out j hlt)
      generalize ps.getD j [] = p at k2 HPL
      have HX := hidden (k2.fresh HI.out.gi.below)
      have k1' := (Keeps.ofFresh (S := fun _ => False) HI.out.gi.below).cell k1 (fun h => h)
      obtain ⟨xa, xc, ex⟩ := k2.len
      have HX0 := hidden k2
      have HK1 := hidden k1
      clear k1 k2 hrow
      subst ex
      have HDO := hidden (gi_do _ p HU.out HI.out.gi HX.out HPL.out)
      have HAL := hidden (alive_do (U := U) HI.out.gi.al p)
      have HRD : Hid (∀ w3, QG w3 c w.heap.size U s → BSl w3 (.slice xa p.length xc) p → Calls Try.prog 22 #[.pointer (some ⟨c, 0, none⟩), .slice xa p.length xc] w3 fun e w' => QGPost (fun k => k = c) w3 c w.heap.size U (doO U s p) e w') := hidden fun w3 h1 h2 => rdo_c _ p w3 h2 (by have := HPL.out; omega) HU.out h1 HI.out.gi.al
      have hgl := HI.out.gi.g.lt
      generalize doO U s p = R at HDO HAL HRD
      obtain ⟨s1, ls⟩ := R
      dsimp only at HDO HAL HRD
      generalize p.length = pl at *
      go_wp2_with fail
      refine HDO.out.mono ?_
      rintro e w3 ⟨v3, rfl, ha3, hi3, hk3⟩
      have HB3 := hidden hi3.below
      have HQ3 := hidden (HI.out.qg.keepA hk3 (by have := HI.out.lt; omega) (fun k hk e => by have := HI.out.gi.ge; omega))
      have HX3 := hidden (HX0.out.fresh hi3.below)
      have k3 := (Keeps.ofFresh (S := fun _ => False) hi3.below).cell HK1.out (fun h => h)
      have HI3 := hidden hi3
      have HA3 := hidden ha3
      have HWS := hidden hk3.size
      have hac := HI.out.lt
      have hge := HI.out.gi.ge
      have hcl := HI.out.qg.lt
      obtain ⟨q1, n1, c1, e3⟩ : ∃ ao n c, v3 = .slice ao n c := by
        rcases ha3 with ⟨_, h⟩ | ⟨_, _, _, _, h, _⟩ <;> exact ⟨_, _, _, h⟩
      subst e3
      clear ha3 hi3 hk3 HX HDO k1' HI
      go_wp2_with fail
      refine (HRD.out w3 HQ3.out HX3.out).mono ?_
      rintro e w4 ⟨v4, rfl, ha4, hq4, hk4⟩
      have HI4 : Hid (PI w w4 a c U s1) := hidden ⟨⟨HI3.out.g.keep hk4 (fun k h1 h2 => by omega), HAL.out, hge, HI3.out.below.trans (Keeps.below hk4 HI3.out.below.size (fun k e => by rw [e]; omega))⟩, hq4, hac⟩
      have HA4 := hidden ha4
      have HA3' := hidden (HA3.out.keep hk4 (fun k e => by rw [e]; exact hcl))
      obtain ⟨q2, n2, c2, e4⟩ : ∃ ao n c, v4 = .slice ao n c := by
        rcases ha4 with ⟨_, h⟩ | ⟨_, _, _, _, h, _⟩ <;> exact ⟨_, _, _, h⟩
      subst e4
      clear ha4 hq4 hk4 HA3 HI3 HQ3 HX3 k3 HB3 HX0 HRD HAL hcl hgl
      go_wp2_with fail
      refine (User_c w4 HI4.out.gi.g).mono ?_
      rintro e w5 ⟨rfl, hk5⟩
      have HI5 := hidden (HI4.out.still hk5)
      have HA5 := hidden (HA4.out.keep hk5 (fun _ h => h.elim))
      have HA5' := hidden (HA3'.out.keep hk5 (fun _ h => h.elim))
      clear hk5 HI4 HA4 HA3'
      have hb2 : ((s1.st : Int) == 2) = decide (s1.st = 2) := by
        rw [Bool.eq_iff_iff]
        simp
        omega
      rw [hb2]
      obtain ⟨qv, d1, _⟩ := HI5.out.qg
      obtain ⟨f0, f1, f2, f3, f4, f5, ff⟩ := cells6q d1
      obtain ⟨b2, hb2'⟩ : ∃ b, b = decide (s1.st = 2) := ⟨_, rfl⟩
      obtain ⟨go, hgo⟩ : ∃ b, b = s1.gone := ⟨_, rfl⟩
      obtain ⟨nm, hnm⟩ : ∃ b, b = s1.nm := ⟨_, rfl⟩
      have HDD : Hid (∀ w', Keeps (fun _ => False) w5 w' → Calls Try.prog 19 #[.pointer (some ⟨a, 0, none⟩)] w' fun e w'' => e = .returned (.bool go) ∧ w'' = w') := hidden fun w' hk => by
        rw [hgo]
        exact Dead_c w' (HI5.out.gi.g.still hk)
      have HBY : Hid (∀ w', Keeps (fun _ => False) w5 w' → Calls Try.prog 23 #[.slice q1 n1 c1, .slice q2 n2 c2] w' fun e w'' => e = .returned (.bool true) ∧ Keeps (fun _ => False) w5 w'') := hidden fun w' hk => by
        refine (bytes_c _ _ ls _ _ w' (HA5'.out.keep hk (fun _ h => h.elim)) (HA5.out.keep hk (fun _ h => h.elim))).mono ?_
        rintro e w6 ⟨rfl, hk6⟩
        exact ⟨rfl, hk.trans hk6⟩
      rw [← hb2', ← hnm]
      rw [← hb2'] at f2
      rw [← hnm] at f3
      rw [← hgo] at f5
      have HS : Hid (∀ w', Keeps (fun _ => False) w5 w' → w'.cell? ⟨c, 3, none⟩ = some (.string nm) ∧ w'.cell? ⟨c, 2, none⟩ = some (.bool b2) ∧ w'.cell? ⟨c, 5, none⟩ = some (.bool go) ∧ Keeps (fun _ => False) w5 w') := hidden fun w' hk => ⟨hk.cell f3 (fun h => h), hk.cell f2 (fun h => h), hk.cell f5 (fun h => h), hk⟩
      obtain ⟨p1, p2, p3, p4⟩ := HS.out w5 (Keeps.refl _ _)
      have hnn : (nm.toList == nm.toList) = true := by rw [str_dec]; simp
      clear hb2 d1 f0 f1 f2 f3 f4 f5 ff hb2' hgo hnm HA5 HA5'
      cases b2
      · cases go
        · go_wp2_with fail
          go_region_held3 (fun w' => w'.cell? ⟨c, 3, none⟩ = some (.string nm) ∧ w'.cell? ⟨c, 2, none⟩ = some (.bool false) ∧ w'.cell? ⟨c, 5, none⟩ = some (.bool false) ∧ Keeps (fun _ => False) w5 w')
            (first | exact HS.out _ (Keeps.refl _ _).drew | exact HS.out _ ((Keeps.refl _ _).drewN _) | exact HS.out _ hk12 | exact HS.out _ hk12.drew | go_keep)
            (first | (go_at_call 23; refine (HBY.out _ (ps_keeps (by assumption))).mono ?_; rintro e w12 ⟨rfl, hk12⟩) | (go_at_call 19; refine (HDD.out _ (ps_keeps (by assumption))).mono ?_; rintro e w13 ⟨rfl, rfl⟩))
          go_wp2_with fail
          go_roundw
          case rel => exact ⟨j + 1, s1, by omega, by go_num, HI5.out.still (by assumption)⟩
          case measure => simp [intOf]; omega
        · go_wp2_with fail
          go_region_held3 (fun w' => w'.cell? ⟨c, 3, none⟩ = some (.string nm) ∧ w'.cell? ⟨c, 2, none⟩ = some (.bool false) ∧ w'.cell? ⟨c, 5, none⟩ = some (.bool true) ∧ Keeps (fun _ => False) w5 w')
            (first | exact HS.out _ (Keeps.refl _ _).drew | exact HS.out _ ((Keeps.refl _ _).drewN _) | exact HS.out _ hk12 | exact HS.out _ hk12.drew | go_keep)
            (first | (go_at_call 23; refine (HBY.out _ (ps_keeps (by assumption))).mono ?_; rintro e w12 ⟨rfl, hk12⟩) | (go_at_call 19; refine (HDD.out _ (ps_keeps (by assumption))).mono ?_; rintro e w13 ⟨rfl, rfl⟩))
          go_wp2_with fail
          go_roundw
          case rel => exact ⟨j + 1, s1, by omega, by go_num, HI5.out.still (by assumption)⟩
          case measure => simp [intOf]; omega
      · cases go
        · go_wp2_with fail
          go_region_held3 (fun w' => w'.cell? ⟨c, 3, none⟩ = some (.string nm) ∧ w'.cell? ⟨c, 2, none⟩ = some (.bool true) ∧ w'.cell? ⟨c, 5, none⟩ = some (.bool false) ∧ Keeps (fun _ => False) w5 w')
            (first | exact HS.out _ (Keeps.refl _ _).drew | exact HS.out _ ((Keeps.refl _ _).drewN _) | exact HS.out _ hk12 | exact HS.out _ hk12.drew | go_keep)
            (first | (go_at_call 23; refine (HBY.out _ (ps_keeps (by assumption))).mono ?_; rintro e w12 ⟨rfl, hk12⟩) | (go_at_call 19; refine (HDD.out _ (ps_keeps (by assumption))).mono ?_; rintro e w13 ⟨rfl, rfl⟩))
          go_wp2_with fail
          go_roundw
          case rel => exact ⟨j + 1, s1, by omega, by go_num, HI5.out.still (by assumption)⟩
          case measure => simp [intOf]; omega
        · go_wp2_with fail
          go_region_held3 (fun w' => w'.cell? ⟨c, 3, none⟩ = some (.string nm) ∧ w'.cell? ⟨c, 2, none⟩ = some (.bool true) ∧ w'.cell? ⟨c, 5, none⟩ = some (.bool true) ∧ Keeps (fun _ => False) w5 w')
            (first | exact HS.out _ (Keeps.refl _ _).drew | exact HS.out _ ((Keeps.refl _ _).drewN _) | exact HS.out _ hk12 | exact HS.out _ hk12.drew | go_keep)
            (first | (go_at_call 23; refine (HBY.out _ (ps_keeps (by assumption))).mono ?_; rintro e w12 ⟨rfl, hk12⟩) | (go_at_call 19; refine (HDD.out _ (ps_keeps (by assumption))).mono ?_; rintro e w13 ⟨rfl, rfl⟩))
          go_wp2_with fail
          go_roundw
          case rel => exact ⟨j + 1, s1, by omega, by go_num, HI5.out.still (by assumption)⟩
          case measure => simp [intOf]; omega
    · have i1 : ¬ (j : Int) < (ps.length : Int) := by omega
      go_wp2_with fail
      go_ret
      exact ⟨rfl, HI.out.gi.below⟩

end Go.Proofs.Ytpildjijaigmfaa
