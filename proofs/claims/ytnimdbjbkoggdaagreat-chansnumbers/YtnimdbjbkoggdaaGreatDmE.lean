/- Answers and events held against one another. -/
import Derived.Test.YtnimdbjbkoggdaaGreatDmD
namespace Go.Proofs.YtnimdbjbkoggdaaGreat
open Go Go.RowKit

theorem Lst.cellAt {B : Nat} {w : World} {sa : Option Addr} {n m : Nat} {ls : List (List UInt8)} (h : Lst B w (.slice sa n m) ls) (j : Nat) (hj : j < ls.length) : ∃ g x, sa = some ⟨g, 0, none⟩ ∧ w.cell? ⟨g, j, none⟩ = some x ∧ BSl w x (ls.getD j []) := by
  obtain ⟨vs, h1, h2, h3⟩ := h
  rcases h2.2 with ⟨e, e2⟩ | ⟨g, cap, cur, e, _, k2, _, _, _, k6⟩
  · rw [← h1] at hj
    omega
  · cases e
    refine ⟨g, vs.getD j undef, rfl, ?_, (h3 j hj).1⟩
    rw [cell_row (cs := cur.toList) (by simpa using k2)]
    have h7 := congrArg (fun l => l[j]?) k6
    simp only [List.getElem?_take, Nat.mul_one] at h7
    rw [if_pos (by omega)] at h7
    rw [h7]
    simp [List.getD_eq_getElem?_getD, List.getElem?_eq_getElem (show j < vs.length by omega)]

theorem Lst.short {B : Nat} {w : World} {v : Value} {ls : List (List UInt8)} (h : Lst B w v ls) : ls.length ≤ maxLen := by
  obtain ⟨vs, h1, h2, h3⟩ := h
  rcases h2.2 with ⟨e, e2⟩ | ⟨g, cap, cur, e, _, k2, k3, k4, k5, k6⟩
  · rw [← h1]
    rw [e2] at h1
    omega
  · omega

set_option maxHeartbeats 1600000 in
set_option maxRecDepth 100000 in
theorem bytes_q (u v : Value) (ls : List (List UInt8)) (B C : Nat) (w : World) (hu : Lst B w u ls) (hv : Lst C w v ls) :
    Calls Tryz.prog 21 #[u, v] w fun e w' => e = .returned (.bool true) ∧ Keeps (fun _ => False) w w' := by
  obtain ⟨ua, uc, rfl⟩ := hu.shape
  obtain ⟨va, vc, rfl⟩ := hv.shape
  have HU := hidden hu
  have HV := hidden hv
  have HMX := hidden hu.short
  clear hu hv
  generalize hn : ls.length = n at *
  have HN := hidden hn
  clear hn
  go_enter Tryz.func21, Tryz.ntmps21
  go_wp2_with fail
  go_loopw [5] (fun i wr => ∃ j : Nat, j ≤ n ∧ i = .int .i64 (j : Int) ∧ Keeps (fun _ => False) w wr) (fun i _ => n - (intOf i).toNat)
  case atStart => exact ⟨0, by omega, rfl, Keeps.refl _ _⟩
  case round =>
    obtain ⟨j, hj, rfl, hk⟩ := hrel
    have HK := hidden hk
    clear hk
    by_cases hlt : j < n
    · have i1 : (j : Int) < (n : Int) := by omega
      obtain ⟨g, x, e1, p1, hb1⟩ := HU.out.cellAt j (by rw [HN.out]; exact hlt)
      obtain ⟨g2, y, e2, p2, hb2⟩ := HV.out.cellAt j (by rw [HN.out]; exact hlt)
      subst e1 e2
      generalize ls.getD j [] = X at *
      obtain ⟨a1, c1, rfl⟩ := hb1.len
      obtain ⟨a2, c2, rfl⟩ := hb2.len
      have HH : Hid (∀ w', Keeps (fun _ => False) wr w' → w'.cell? ⟨g, j, none⟩ = some (.slice a1 X.length c1) ∧ w'.cell? ⟨g2, j, none⟩ = some (.slice a2 X.length c2) ∧ (convert 22 9 (Value.slice a1 X.length c1)).run Tryz.prog w' = .ok (.string ⟨X.toArray⟩) w' ∧ (convert 22 9 (Value.slice a2 X.length c2)).run Tryz.prog w' = .ok (.string ⟨X.toArray⟩) w' ∧ Keeps (fun _ => False) wr w') := hidden fun w' hk => by
        have hk2 := HK.out.trans hk
        exact ⟨hk2.cell p1 (fun h => h), hk2.cell p2 (fun h => h), run_string (hb1.keep hk2 (fun _ _ h => h)), run_string (hb2.keep hk2 (fun _ _ h => h)), hk⟩
      clear p1 p2 hb1 hb2
      generalize (⟨X.toArray⟩ : ByteArray) = S at *
      generalize X.length = xn at *
      have hss : (S.toList == S.toList) = true := by rw [str_dec]; simp
      obtain ⟨p1, p2, p3, p4, p5⟩ := HH.out wr (Keeps.refl _ _)
      go_wp2_with fail
      go_region_held3 (fun w' => w'.cell? ⟨g, j, none⟩ = some (.slice a1 xn c1) ∧ w'.cell? ⟨g2, j, none⟩ = some (.slice a2 xn c2) ∧ (convert 22 9 (Value.slice a1 xn c1)).run Tryz.prog w' = .ok (.string S) w' ∧ (convert 22 9 (Value.slice a2 xn c2)).run Tryz.prog w' = .ok (.string S) w' ∧ Keeps (fun _ => False) wr w')
        (first | exact HH.out _ (Keeps.refl _ _).drew | exact HH.out _ ((Keeps.refl _ _).drewN _) | go_keep)
        (fail)
      go_wp2_with fail
      have hw : wrap64 ((j : Int) + 1) = ((j + 1 : Nat) : Int) := by have := HMX.out; unfold maxLen at this; unfold wrap64; omega
      rw [hw]
      go_roundw
      case rel => exact ⟨j + 1, by omega, rfl, HK.out.trans (Keeps.refl _ _).drew⟩
      case measure => simp [intOf]; omega
    · have i1 : ¬ (j : Int) < (n : Int) := by omega
      go_wp2_with fail
      go_ret
      exact ⟨rfl, HK.out⟩

set_option maxHeartbeats 1600000 in
set_option maxRecDepth 100000 in
theorem events_q (u v : Value) (es : List Ev) (B C : Nat) (w : World) (hu : Evs 71 B w u es) (hv : Evs 95 C w v es) :
    Calls Tryz.prog 19 #[u, v] w fun e w' => e = .returned (.bool true) ∧ Keeps (fun _ => False) w w' := by
  rcases hu with ⟨rfl, rfl⟩ | ⟨ev, g, x, rfl, rfl, h1, h2, _, _⟩
  · obtain rfl := hv.none'
    go_enter Tryz.func19, Tryz.ntmps19
    go_wp2_with fail
    go_loop [5] (fun i => i = .int .i64 0) (fun _ => 0)
    case atStart => rfl
    case round =>
      subst hrel
      go_wp2_with fail
      go_ret
      exact ⟨rfl, Keeps.refl _ _⟩
  · obtain ⟨g2, y, rfl, k1, k2, _, _⟩ := hv.one'
    obtain ⟨m0, m1, m2, mf⟩ := cells3i h1
    obtain ⟨l0, l1, l2, lf⟩ := cells3i k1
    obtain ⟨a1, c1, rfl⟩ := h2.len
    obtain ⟨a2, c2, rfl⟩ := k2.len
    generalize ev.bytes = X at *
    generalize ev.kind = ek at *
    generalize ev.chan = ec at *
    have HH : Hid (∀ w', Keeps (fun _ => False) w w' → (w'.cell? ⟨g, 0, none⟩ = some (.int .i64 (ek : Int)) ∧ w'.cell? ⟨g, 1, none⟩ = some (.int .i64 (ec : Int)) ∧ w'.cell? ⟨g, 2, none⟩ = some (.slice a1 X.length c1)) ∧ (w'.cell? ⟨g2, 0, none⟩ = some (.int .i64 (ek : Int)) ∧ w'.cell? ⟨g2, 1, none⟩ = some (.int .i64 (ec : Int)) ∧ w'.cell? ⟨g2, 2, none⟩ = some (.slice a2 X.length c2)) ∧ (convert 22 9 (Value.slice a1 X.length c1)).run Tryz.prog w' = .ok (.string ⟨X.toArray⟩) w' ∧ (convert 22 9 (Value.slice a2 X.length c2)).run Tryz.prog w' = .ok (.string ⟨X.toArray⟩) w' ∧ Keeps (fun _ => False) w w') := hidden fun w' hk =>
      ⟨⟨hk.cell m0 (fun h => h), hk.cell m1 (fun h => h), hk.cell m2 (fun h => h)⟩, ⟨hk.cell l0 (fun h => h), hk.cell l1 (fun h => h), hk.cell l2 (fun h => h)⟩, run_string (h2.keep hk (fun _ _ h => h)), run_string (k2.keep hk (fun _ _ h => h)), hk⟩
    clear h1 h2 k1 k2 m0 m1 m2 mf l0 l1 l2 lf hv
    generalize (⟨X.toArray⟩ : ByteArray) = S at *
    generalize X.length = n at *
    have hss : (S.toList == S.toList) = true := by rw [str_dec]; simp
    go_enter Tryz.func19, Tryz.ntmps19
    go_wp2_with fail
    go_loopw [5] (fun i wr => (i = .int .i64 0 ∧ wr = w) ∨ (i = .int .i64 1 ∧ Keeps (fun _ => False) w wr)) (fun i _ => 1 - (intOf i).toNat)
    case atStart => exact .inl ⟨rfl, rfl⟩
    case round =>
      rcases hrel with ⟨rfl, rfl⟩ | ⟨rfl, hk⟩
      · obtain ⟨⟨p1, p2, p3⟩, ⟨q1, q2, q3⟩, p4, p5, p6⟩ := HH.out wr (Keeps.refl _ _)
        go_wp2_with fail
        go_region_held3 (fun w' => (w'.cell? ⟨g, 0, none⟩ = some (.int .i64 (ek : Int)) ∧ w'.cell? ⟨g, 1, none⟩ = some (.int .i64 (ec : Int)) ∧ w'.cell? ⟨g, 2, none⟩ = some (.slice a1 n c1)) ∧ (w'.cell? ⟨g2, 0, none⟩ = some (.int .i64 (ek : Int)) ∧ w'.cell? ⟨g2, 1, none⟩ = some (.int .i64 (ec : Int)) ∧ w'.cell? ⟨g2, 2, none⟩ = some (.slice a2 n c2)) ∧ (convert 22 9 (Value.slice a1 n c1)).run Tryz.prog w' = .ok (.string S) w' ∧ (convert 22 9 (Value.slice a2 n c2)).run Tryz.prog w' = .ok (.string S) w' ∧ Keeps (fun _ => False) wr w')
          (first | exact HH.out _ (Keeps.refl _ _).drew | exact HH.out _ ((Keeps.refl _ _).drewN _) | go_keep)
          (fail)
        go_wp2_with fail
        go_roundw
        case rel => exact .inr ⟨rfl, (Keeps.refl _ _).drew⟩
        case measure => simp [intOf]
      · have HK := hidden hk
        clear hk
        go_wp2_with fail
        go_ret
        exact ⟨rfl, HK.out⟩

theorem payAny (k ch n m : Int) (s : ByteArray) (b : Value) (bs : List UInt8) (w : World) (hb : BSl w b bs) : Calls Tryz.prog 15 #[AskV k ch n m s b] w fun e w' => PayP w b bs (fun _ => True) e w' := by
  by_cases h1 : k = 1
  · exact payOpen k ch n m s b bs w hb h1 _ (fun _ _ _ _ => trivial)
  by_cases h2 : k = 2
  · exact paySub k ch n m s b bs w hb h2 _ ⟨fun _ _ => trivial, fun _ _ => trivial⟩
  by_cases h3 : k = 3
  · exact payData k ch n m s b bs w hb h3
  by_cases h4 : k = 4
  · exact pay4 k ch n m s b bs w hb h4 _ trivial
  by_cases h5 : k = 5
  · exact pay5 k ch n m s b bs w hb h5 _ trivial
  by_cases h6 : k = 6
  · exact pay6 k ch n m s b bs w hb h6 _ trivial
  by_cases h7 : k = 7
  · exact pay7 k ch n m s b bs w hb h7
  exact payElse k ch n m s b bs w hb (by omega)
/-- Both Muxes stand alike, made since w0. -/
structure JI (w0 w : World) (P Q : Nat → Prop) (a b : Nat) (S : MS) : Prop where
  m : MX w P a S
  q : QX w Q b S
  ab : a ≠ b
  pb : ¬ P b
  qa : ¬ Q a
  pq : ∀ k, P k → ¬ Q k
  ga : w0.heap.size ≤ a
  gb : w0.heap.size ≤ b
  gp : ∀ k, P k → w0.heap.size ≤ k
  gq : ∀ k, Q k → w0.heap.size ≤ k
  bl : Below w0.heap.size w0 w
theorem JI.still {w0 w w' : World} {P Q : Nat → Prop} {a b : Nat} {S : MS} (h : JI w0 w P Q a b S) (hk : Keeps (fun _ => False) w w') : JI w0 w' P Q a b S :=
  ⟨h.m.still hk, h.q.still hk, h.ab, h.pb, h.qa, h.pq, h.ga, h.gb, h.gp, h.gq, h.bl.trans (Keeps.below hk h.bl.size (fun _ e => e.elim))⟩
theorem JI.fresh {w0 w w' : World} {P Q : Nat → Prop} {a b : Nat} {S : MS} (h : JI w0 w P Q a b S) (hb : Below w.heap.size w w') : JI w0 w' P Q a b S := h.still (Keeps.ofFresh hb)
theorem JI.mid {w0 w w' : World} {P Q : Nat → Prop} {a b : Nat} {S : MS} (h : JI w0 w P Q a b S) (hk : Keeps (fun k => k = a ∨ P k) w w') : QX w' Q b S := h.q.keep hk (fun e => e.elim (fun e => h.ab e.symm) h.pb) (fun k hq e => e.elim (fun e => h.qa (by rw [← e]; exact hq)) (fun hp => h.pq k hp hq))
theorem JI.turn {w0 w w4 w5 : World} {P Q P' Q' : Nat → Prop} {a b : Nat} {S S' : MS} (h : JI w0 w P Q a b S) (m4 : MX w4 P' a S') (hP : ∀ k, P' k → P k ∨ w.heap.size ≤ k) (hk4 : Keeps (fun k => k = a ∨ P k) w w4) (q5 : QX w5 Q' b S') (hQ : ∀ k, Q' k → Q k ∨ w4.heap.size ≤ k) (hk5 : Keeps (fun k => k = b) w4 w5) : JI w0 w5 P' Q' a b S' := by
  have hbl := h.q.aLt
  have hal := h.m.aLt
  have hs4 := hk4.size
  have hsw := h.bl.size
  have hpb : ¬ P' b := fun e => (hP b e).elim h.pb (by omega)
  refine ⟨m4.keep hk5 h.ab (fun k hp e => hpb (by rw [← e]; exact hp)), q5, h.ab, hpb, fun e => (hQ a e).elim h.qa (by omega), fun k hp hq => ?_, h.ga, h.gb, fun k hp => (hP k hp).elim (h.gp k) (by omega), fun k hq => (hQ k hq).elim (h.gq k) (by omega), (h.bl.trans (Keeps.below hk4 hsw (fun k e => e.elim (fun e => by rw [e]; exact h.ga) (h.gp k)))).trans (Keeps.below hk5 (Nat.le_trans hsw hs4) (fun k e => by rw [e]; exact h.gb))⟩
  have hl4 := m4.lt k hp
  rcases hQ k hq with h1 | h1
  · have := h.q.lt k h1
    rcases hP k hp with h2 | h2
    · exact h.pq k h2 h1
    · omega
  · omega
/-- What do answers. -/
def DoP (w0 : World) (a b L : Nat) (e : Ending) (w' : World) : Prop := e = .returned (.bool true) ∧ ∃ P Q S, OkM L S ∧ JI w0 w' P Q a b S

set_option maxHeartbeats 3200000 in
set_option maxRecDepth 100000 in
theorem do10_q (k ch n m : Int) (s : ByteArray) (bv : Value) (bs : List UInt8) {w0 : World} (w : World) {L : Nat} {P Q : Nat → Prop} {a b : Nat} {S : MS} (h : JI w0 w P Q a b S) (hok : OkM L S) (_hL : L + 1000 ≤ 1000000) (hb : BSl w0 bv bs) (hk : k = 10) :
    Calls Tryz.prog 7 #[.pointer (some ⟨a, 0, none⟩), .pointer (some ⟨b, 0, none⟩), AskV k ch n m s bv] w fun e w' => DoP w0 a b (L + 300) e w' := by
  unfold AskV
  have HB := hidden hb
  have hbl := h.q.aLt
  have hal := h.m.aLt
  have HOK := hidden hok
  have hS := hok.four
  obtain ⟨ba, bc, ev⟩ := hb.len
  subst ev
  have HBW : Hid (BSl w (.slice ba bs.length bc) bs) := hidden (hb.fresh h.bl)
  have HJ1 : Hid (JI w0 (w.alloc (.cells #[.int .i64 k, .int .i64 ch, .int .i64 n, .int .i64 m, .string s, .slice ba bs.length bc] 24)) P Q a b S) := hidden (h.still ((Keeps.refl _ _).alloc _))
  have HBX := hidden (heap_alloc_new w (.cells #[.int .i64 k, .int .i64 ch, .int .i64 n, .int .i64 m, .string s, .slice ba bs.length bc] 24))
  have HB1 := hidden (HBW.out.alloc (.cells #[.int .i64 k, .int .i64 ch, .int .i64 n, .int .i64 m, .string s, .slice ba bs.length bc] 24))
  have HBN : Hid (bs ≠ [] → ∀ k, (Value.slice ba bs.length bc).ownBlock = some k → k < w0.heap.size) := hidden (fun hx => hb.ltE hx)
  have HPX0 : Hid (¬ P w.heap.size) := hidden (fun e => by have := h.m.lt _ e; omega)
  clear h hok hb HBW
  generalize hbn : bs.length = bn at *
  have HBNn := hidden hbn
  clear hbn
  subst hk
  go_enter Tryz.func7, Tryz.ntmps7
  go_upto_region 2 with fail
  obtain ⟨k0, k1, k2, k3, k4, k5, kf⟩ := cells6 HBX.out
  generalize w.alloc (.cells #[.int .i64 10, .int .i64 ch, .int .i64 n, .int .i64 m, .string s, .slice ba bn bc] 24) = w1 at *
  obtain ⟨bx, hbx⟩ : ∃ bx, bx = w.heap.size := ⟨_, rfl⟩
  rw [← hbx] at HBX k0 k1 k2 k3 k4 k5 kf hbl hal HPX0 ⊢
  have HPX := HPX0
  clear hbx
  go_wp2_with fail
  refine (Close_c ch w1 HJ1.out.m HOK.out).mono ?_
  rintro e w4 ⟨u4, P', BA, rfl, hBA, hls4, hm4, hP4, hPB4, hk4⟩
  have HQ4 := hidden (HJ1.out.mid hk4)
  have HS4 := hidden hk4.size
  have k1' : w4.cell? ⟨bx, 1, none⟩ = some (.int .i64 ch) := hk4.cell k1 (fun e => e.elim (fun e => by have e' : bx = a := e; omega) (fun e => HPX.out e))
  clear k0 k1 k2 k3 k4 k5 kf
  go_wp2_with fail
  refine (Close_q ch w4 HQ4.out HOK.out).mono ?_
  rintro e w5 ⟨u5, Q', rfl, hls5, hq5, hQ5, hk5⟩
  have HJ := hidden (HJ1.out.turn hm4 hP4 hk4 hq5 hQ5 hk5)
  have HOKS := hidden ((closeO_ok HOK.out ch).mono (Nat.le_add_right L 300))
  obtain ⟨BC, hBC⟩ : ∃ BC, BC = w4.heap.size := ⟨_, rfl⟩
  rw [← hBC] at hls5
  clear hBC
  generalize closeO S ch = r at *
  obtain ⟨S', ls, er⟩ := r
  dsimp only at *
  have hl1 := HJ1.out.q.aLt
  have HA := hidden (hls4.keep hk5 (fun k e => by omega))
  have HC := hidden hls5
  obtain ⟨a4, p4, e4⟩ := hls4.shape
  obtain ⟨a5, p5, e5⟩ := hls5.shape
  subst e4 e5
  generalize ls.length = ln at *
  have hee : ((er : Int) != (er : Int)) = false := by simp
  clear hls4 hm4 hP4 hPB4 hk4 HQ4 hls5 hq5 hQ5 hk5 HJ1 k1' HBX HB1 HPX
  have HLA : Hid (∀ w', Keeps (fun _ => False) w5 w' → Lst BA w' (.slice a4 ln p4) ls) := hidden fun w' hk => HA.out.keep hk (fun k e => e.elim)
  have HLC : Hid (∀ w', Keeps (fun _ => False) w5 w' → Lst BC w' (.slice a5 ln p5) ls) := hidden fun w' hk => HC.out.keep hk (fun k e => e.elim)
  have HJK : Hid (∀ w', Keeps (fun _ => False) w5 w' → JI w0 w' P' Q' a b S') := hidden fun w' hk => HJ.out.still hk
  have HDC : Hid (∀ w', Keeps (fun _ => False) w5 w' → w'.cell? ⟨b, 32, none⟩ = some (.bool S'.dead) ∧ Keeps (fun _ => False) w5 w') := hidden fun w' hk => ⟨(HJ.out.still hk).q.deadCell.1, hk⟩
  clear HA HC
  have hdd : (S'.dead != S'.dead) = false := by simp
  go_upto_region 22 with fail
  go_region_held3 (fun w' => w'.cell? ⟨b, 32, none⟩ = some (.bool S'.dead) ∧ Keeps (fun _ => False) w5 w')
    (first | exact HDC.out _ (Keeps.refl _ _) | exact HDC.out _ (Keeps.refl _ _).drew | exact HDC.out _ hk8 | go_keep)
    (first
      | (go_at_call 21; refine (bytes_q _ _ ls BA BC _ (HLA.out _ (Keeps.refl _ _).drew) (HLC.out _ (Keeps.refl _ _).drew)).mono ?_; rintro e w8 ⟨rfl, hk8'⟩; have hk8 : Keeps (fun _ => False) w5 w8 := (Keeps.refl _ _).drew.trans hk8')
      | (go_at_call 22; refine (Dead_c _ (HJK.out _ hk8).m).mono ?_; rintro e w8 ⟨rfl, rfl⟩))
  have HJ8 := hidden (HJK.out _ hk8)
  clear HLA HLC HJK HDC
  go_wp2_with fail
  go_loopw [23] (fun t wr => ∃ z : Int, -1 ≤ z ∧ z ≤ 5 ∧ t = .int .i64 z ∧ wr = w8) (fun t _ => (5 - intOf t).toNat)
  case atStart => exact ⟨-1, by omega, by omega, rfl, rfl⟩
  case round =>
    obtain ⟨z, hz0, hz5, rfl, rfl⟩ := hrel
    by_cases hz : z ≤ 4
    · have HWA := hidden (Waits_c z wr HJ8.out.m HOKS.out.four)
      have HWB := hidden (Waits_q z wr HJ8.out.q HOKS.out.four)
      generalize waitsO S' z = x at *
      have hxx : ((x : Int) != (x : Int)) = false := by simp
      go_wp2_with fail
      refine HWA.out.mono ?_
      rintro e wr ⟨rfl, rfl⟩
      go_wp2_with fail
      refine HWB.out.mono ?_
      rintro e wr ⟨rfl, rfl⟩
      go_wp2_with fail
      go_roundw
      case rel => exact ⟨z + 1, by omega, by omega, by go_num, trivial⟩
      case measure => simp [intOf]; omega
    · have HD : Hid (DoP w0 a b (L + 300) (.returned (.bool true)) wr) := hidden ⟨rfl, P', Q', S', HOKS.out, HJ8.out⟩
      clear HJ8
      go_wp2_with fail
      go_ret
      exact HD.out

set_option maxHeartbeats 3200000 in
set_option maxRecDepth 100000 in
theorem doE_q (k ch n m : Int) (s : ByteArray) (bv : Value) (bs : List UInt8) {w0 : World} (w : World) {L : Nat} {P Q : Nat → Prop} {a b : Nat} {S : MS} (h : JI w0 w P Q a b S) (hok : OkM L S) (hL : L + 1000 ≤ 1000000) (hb : BSl w0 bv bs) (hk : k ≠ 9 ∧ k ≠ 10) :
    Calls Tryz.prog 7 #[.pointer (some ⟨a, 0, none⟩), .pointer (some ⟨b, 0, none⟩), AskV k ch n m s bv] w fun e w' => DoP w0 a b (L + 300) e w' := by
  unfold AskV
  have HB := hidden hb
  have hbl := h.q.aLt
  have hal := h.m.aLt
  have HOK := hidden hok
  have hS := hok.four
  obtain ⟨ba, bc, ev⟩ := hb.len
  subst ev
  have HBW : Hid (BSl w (.slice ba bs.length bc) bs) := hidden (hb.fresh h.bl)
  have HJ1 : Hid (JI w0 (w.alloc (.cells #[.int .i64 k, .int .i64 ch, .int .i64 n, .int .i64 m, .string s, .slice ba bs.length bc] 24)) P Q a b S) := hidden (h.still ((Keeps.refl _ _).alloc _))
  have HBX := hidden (heap_alloc_new w (.cells #[.int .i64 k, .int .i64 ch, .int .i64 n, .int .i64 m, .string s, .slice ba bs.length bc] 24))
  have HB1 := hidden (HBW.out.alloc (.cells #[.int .i64 k, .int .i64 ch, .int .i64 n, .int .i64 m, .string s, .slice ba bs.length bc] 24))
  have HBN : Hid (bs ≠ [] → ∀ k, (Value.slice ba bs.length bc).ownBlock = some k → k < w0.heap.size) := hidden (fun hx => hb.ltE hx)
  clear h hok hb HBW
  generalize hbn : bs.length = bn at *
  have HBNn := hidden hbn
  clear hbn
  have n9 : (k == 9) = false := by simpa using hk.1
  have n10 : (k == 10) = false := by simpa using hk.2
  go_enter Tryz.func7, Tryz.ntmps7
  go_upto_region 2 with fail
  obtain ⟨k0, k1, k2, k3, k4, k5, kf⟩ := cells6 HBX.out
  generalize w.alloc (.cells #[.int .i64 k, .int .i64 ch, .int .i64 n, .int .i64 m, .string s, .slice ba bn bc] 24) = w1 at *
  obtain ⟨bx, hbx⟩ : ∃ bx, bx = w.heap.size := ⟨_, rfl⟩
  rw [← hbx] at HBX k0 k1 k2 k3 k4 k5 kf hbl hal ⊢
  clear hbx
  have HPY := hidden (payAny k ch n m s (.slice ba bn bc) bs w1 HB1.out)
  unfold AskV at HPY
  clear hk
  go_wp2_with fail
  refine HPY.out.mono ?_
  rintro e w2 ⟨v2, xs, rfl, hb2, hx2, _, ho2, hbl2⟩
  have HJ2 := hidden (HJ1.out.fresh hbl2)
  have HB2 := hidden hb2
  have HO2 : Hid (xs ≠ [] → ∀ k, v2.ownBlock = some k → k ≠ a ∧ k ≠ b) := hidden fun hx k e => by
    have hga := HJ1.out.ga
    have hgb := HJ1.out.gb
    have hla := HJ1.out.m.aLt
    have hlb := HJ1.out.q.aLt
    rcases ho2 k e with h1 | ⟨h1, h2⟩
    · exact ⟨by omega, by omega⟩
    · have := HBN.out (h2 hx) k h1
      exact ⟨by omega, by omega⟩
  obtain ⟨a2, p2, e2⟩ := hb2.len
  subst e2
  have HX2 := hidden hx2
  clear hb2 ho2 hbl2 HPY HJ1 HB1 HBN HBX k0 k1 k2 k3 k4 k5 kf n9 n10
  generalize hxn : xs.length = xn at *
  have HXN := hidden hxn
  clear hxn
  go_wp2_with fail
  refine (roomy_c _ xs w2 HB2.out (by have := HX2.out; have := HXN.out; omega)).mono ?_
  rintro e w3 ⟨g3, rfl, hg3, hc3, hbl3⟩
  rw [HXN.out]
  have HJ3 := hidden (HJ2.out.fresh hbl3)
  have HB3 := hidden (HB2.out.fresh hbl3)
  have HG3 := hidden hc3
  have hgb3 : b < g3 := by have := HJ2.out.q.aLt; omega
  have hga3 : a < g3 := by have := HJ2.out.m.aLt; omega
  have HRM := hidden (BSl.roomy hc3 (by have := HX2.out; have := HXN.out; omega))
  rw [HXN.out] at HRM
  clear hc3 hbl3 hg3 HJ2 HB2
  have hsl : (xn : Int) ≤ ((xn : Int) + 80) := by omega
  have hc1 : ¬ ((xn + 80 : Nat) : Int) < (xn : Int) := by omega
  go_wp2_with fail
  refine (Do_c _ xs w3 HJ3.out.m HOK.out (by omega) HRM.out (by have := HX2.out; have := HXN.out; omega)).mono ?_
  rintro e w4 ⟨u1, u2, rfl, hls4, hev4, hm4, hk4⟩
  have hk4' : Keeps (fun k => k = a ∨ P k) w3 w4 := hk4.mono (fun k _ e => Or.inl e)
  have HQ4 := hidden (HJ3.out.mid hk4')
  have HB4 := hidden (HB3.out.keepE hk4 (fun hx k e => (HO2.out (by intro e2; exact hx e2) k e).1))
  have HG4 := hidden ((hk4.block _ (lt_of_block HG3.out) (by omega)).trans HG3.out)
  clear HRM HB3 HG3 hsl hc1
  go_wp2_with fail
  refine (Do_q _ xs w4 HQ4.out HOK.out (by omega) HB4.out (by have := HX2.out; have := HXN.out; omega)).mono ?_
  rintro e w5 ⟨u3, u4, rfl, hls5, hev5, hq5, hk5⟩
  have HJ5 := hidden (HJ3.out.turn hm4 (fun k e => .inl e) hk4' hq5 (fun k e => .inl e) hk5)
  have HB5 := hidden (HB4.out.keepE hk5 (fun hx k e => (HO2.out (by intro e2; exact hx e2) k e).2))
  have HG5 := hidden ((hk5.block _ (lt_of_block HG4.out) (by omega)).trans HG4.out)
  have HOKS := hidden ((doO_ok HOK.out xs).mono (Nat.le_add_right L 300))
  obtain ⟨BA, hBA⟩ : ∃ BA, BA = w3.heap.size := ⟨_, rfl⟩
  obtain ⟨BC, hBC⟩ : ∃ BC, BC = w4.heap.size := ⟨_, rfl⟩
  have hbl3 := HJ3.out.q.aLt
  rw [← hBA] at hls4 hev4 hbl3
  rw [← hBC] at hls5 hev5
  clear hBA hBC
  generalize doO S xs = r at *
  obtain ⟨S', ls, es⟩ := r
  dsimp only at *
  have HA5 := hidden (hls4.keep hk5 (fun k e => by omega))
  have HE5 := hidden (hev4.keep hk5 (fun k e => by omega))
  have HC5 := hidden hls5
  have HF5 := hidden hev5
  obtain ⟨a4, p4, e4⟩ := hls4.shape
  obtain ⟨a5, p5, e5⟩ := hls5.shape
  subst e4 e5
  obtain ⟨a6, p6, e6⟩ := hev4.shape
  obtain ⟨a7, p7, e7⟩ := hev5.shape
  subst e6 e7
  clear hls4 hev4 hm4 hk4 hk4' HQ4 HB4 HG4 hls5 hev5 hq5 hk5 HJ3
  generalize ls.length = ln at *
  generalize es.length = en at *
  go_wp2_with fail
  refine (events_q _ _ es BA BC w5 HE5.out HF5.out).mono ?_
  rintro e w6 ⟨rfl, hk6⟩
  have HG6 := hidden ((hk6.block _ (lt_of_block HG5.out) (fun h => h)).trans HG5.out)
  have HB6 := hidden (HB5.out.keep hk6 (fun _ _ h => h))
  have HIN := hidden (intact_c g3 _ xs w6 (by have := HX2.out; have := HXN.out; omega) HG6.out HB6.out)
  rw [HXN.out] at HIN
  clear HE5 HF5 HG5 HB5
  go_wp2_with fail
  refine HIN.out.mono ?_
  rintro e w7 ⟨rfl, hk7⟩
  have HJ := hidden ((HJ5.out.still hk6).still hk7)
  have HA := hidden ((HA5.out.keep hk6 (fun k e => e.elim)).keep hk7 (fun k e => e.elim))
  have HC := hidden ((HC5.out.keep hk6 (fun k e => e.elim)).keep hk7 (fun k e => e.elim))
  clear hk6 hk7 HIN HJ5 HA5 HC5 HG6 HB6
  obtain ⟨P', hP'⟩ : ∃ P', P' = P := ⟨_, rfl⟩
  obtain ⟨Q', hQ'⟩ : ∃ Q', Q' = Q := ⟨_, rfl⟩
  rw [← hP', ← hQ'] at HJ
  clear hP' hQ'
  have HLA : Hid (∀ w', Keeps (fun _ => False) w7 w' → Lst BA w' (.slice a4 ln p4) ls) := hidden fun w' hk => HA.out.keep hk (fun k e => e.elim)
  have HLC : Hid (∀ w', Keeps (fun _ => False) w7 w' → Lst BC w' (.slice a5 ln p5) ls) := hidden fun w' hk => HC.out.keep hk (fun k e => e.elim)
  have HJK : Hid (∀ w', Keeps (fun _ => False) w7 w' → JI w0 w' P' Q' a b S') := hidden fun w' hk => HJ.out.still hk
  have HDC : Hid (∀ w', Keeps (fun _ => False) w7 w' → w'.cell? ⟨b, 32, none⟩ = some (.bool S'.dead) ∧ Keeps (fun _ => False) w7 w') := hidden fun w' hk => ⟨(HJ.out.still hk).q.deadCell.1, hk⟩
  clear HA HC
  have hdd : (S'.dead != S'.dead) = false := by simp
  go_upto_region 22 with fail
  go_region_held3 (fun w' => w'.cell? ⟨b, 32, none⟩ = some (.bool S'.dead) ∧ Keeps (fun _ => False) w7 w')
    (first | exact HDC.out _ (Keeps.refl _ _) | exact HDC.out _ (Keeps.refl _ _).drew | exact HDC.out _ hk8 | go_keep)
    (first
      | (go_at_call 21; refine (bytes_q _ _ ls BA BC _ (HLA.out _ (Keeps.refl _ _).drew) (HLC.out _ (Keeps.refl _ _).drew)).mono ?_; rintro e w8 ⟨rfl, hk8'⟩; have hk8 : Keeps (fun _ => False) w7 w8 := (Keeps.refl _ _).drew.trans hk8')
      | (go_at_call 22; refine (Dead_c _ (HJK.out _ hk8).m).mono ?_; rintro e w8 ⟨rfl, rfl⟩))
  have HJ8 := hidden (HJK.out _ hk8)
  clear HLA HLC HJK HDC
  go_wp2_with fail
  go_loopw [23] (fun t wr => ∃ z : Int, -1 ≤ z ∧ z ≤ 5 ∧ t = .int .i64 z ∧ wr = w8) (fun t _ => (5 - intOf t).toNat)
  case atStart => exact ⟨-1, by omega, by omega, rfl, rfl⟩
  case round =>
    obtain ⟨z, hz0, hz5, rfl, rfl⟩ := hrel
    by_cases hz : z ≤ 4
    · have HWA := hidden (Waits_c z wr HJ8.out.m HOKS.out.four)
      have HWB := hidden (Waits_q z wr HJ8.out.q HOKS.out.four)
      generalize waitsO S' z = x at *
      have hxx : ((x : Int) != (x : Int)) = false := by simp
      go_wp2_with fail
      refine HWA.out.mono ?_
      rintro e wr ⟨rfl, rfl⟩
      go_wp2_with fail
      refine HWB.out.mono ?_
      rintro e wr ⟨rfl, rfl⟩
      go_wp2_with fail
      go_roundw
      case rel => exact ⟨z + 1, by omega, by omega, by go_num, trivial⟩
      case measure => simp [intOf]; omega
    · have HD : Hid (DoP w0 a b (L + 300) (.returned (.bool true)) wr) := hidden ⟨rfl, P', Q', S', HOKS.out, HJ8.out⟩
      clear HJ8
      go_wp2_with fail
      go_ret
      exact HD.out

set_option maxHeartbeats 3200000 in
set_option maxRecDepth 100000 in
theorem do9_q (k ch n m : Int) (s : ByteArray) (bv : Value) (bs : List UInt8) {w0 : World} (w : World) {L : Nat} {P Q : Nat → Prop} {a b : Nat} {S : MS} (h : JI w0 w P Q a b S) (hok : OkM L S) (hL : L + 1000 ≤ 1000000) (hb : BSl w0 bv bs) (hk : k = 9) :
    Calls Tryz.prog 7 #[.pointer (some ⟨a, 0, none⟩), .pointer (some ⟨b, 0, none⟩), AskV k ch n m s bv] w fun e w' => DoP w0 a b (L + 300) e w' := by
  unfold AskV
  have HB := hidden hb
  have hbl := h.q.aLt
  have hal := h.m.aLt
  have HOK := hidden hok
  have hS := hok.four
  obtain ⟨ba, bc, ev⟩ := hb.len
  subst ev
  have HBW : Hid (BSl w (.slice ba bs.length bc) bs) := hidden (hb.fresh h.bl)
  have HJ1 : Hid (JI w0 (w.alloc (.cells #[.int .i64 k, .int .i64 ch, .int .i64 n, .int .i64 m, .string s, .slice ba bs.length bc] 24)) P Q a b S) := hidden (h.still ((Keeps.refl _ _).alloc _))
  have HBX := hidden (heap_alloc_new w (.cells #[.int .i64 k, .int .i64 ch, .int .i64 n, .int .i64 m, .string s, .slice ba bs.length bc] 24))
  have HB1 := hidden (HBW.out.alloc (.cells #[.int .i64 k, .int .i64 ch, .int .i64 n, .int .i64 m, .string s, .slice ba bs.length bc] 24))
  have HBN : Hid (bs ≠ [] → ∀ k, (Value.slice ba bs.length bc).ownBlock = some k → k < w0.heap.size) := hidden (fun hx => hb.ltE hx)
  have HPX0 : Hid (¬ P w.heap.size) := hidden (fun e => by have := h.m.lt _ e; omega)
  clear h hok hb HBW
  generalize hbn : bs.length = bn at *
  have HBNn := hidden hbn
  clear hbn
  subst hk
  go_enter Tryz.func7, Tryz.ntmps7
  go_upto_region 2 with fail
  obtain ⟨k0, k1, k2, k3, k4, k5, kf⟩ := cells6 HBX.out
  generalize w.alloc (.cells #[.int .i64 9, .int .i64 ch, .int .i64 n, .int .i64 m, .string s, .slice ba bn bc] 24) = w1 at *
  obtain ⟨bx, hbx⟩ : ∃ bx, bx = w.heap.size := ⟨_, rfl⟩
  rw [← hbx] at HBX k0 k1 k2 k3 k4 k5 kf hbl hal HPX0 ⊢
  have HPX := HPX0
  clear hbx
  have HSX : Hid (∀ w', Keeps (fun k => k = a ∨ P k) w1 w' → w'.cell? ⟨bx, 1, none⟩ = some (.int .i64 ch) ∧ w'.cell? ⟨bx, 5, none⟩ = some (.slice ba bn bc)) := hidden fun w' hk => ⟨hk.cell k1 (fun e => e.elim (fun e => by have e' : bx = a := e; omega) (fun e => HPX.out e)), hk.cell k5 (fun e => e.elim (fun e => by have e' : bx = a := e; omega) (fun e => HPX.out e))⟩
  have HB1D : Hid (BSl w1.drew (.slice ba bn bc) bs) := hidden (HB1.out.fresh (Below.refl _ _).drew)
  have HJ1D := hidden (HJ1.out.still (Keeps.refl _ _).drew)
  have hlen : (bs.take 300).length ≤ 1000 := by rw [List.length_take]; omega
  have HLEN := hidden hlen
  clear hlen
  go_upto_region 11 with fail
  go_region_held3 (fun w' => w'.cell? ⟨bx, 1, none⟩ = some (.int .i64 ch) ∧ w'.cell? ⟨bx, 5, none⟩ = some (.slice ba bn bc))
    (first | exact HSX.out _ (Keeps.refl _ _) | exact HSX.out _ (Keeps.refl _ _).drew | exact HSX.out _ hk4 | go_keep)
    (first
      | (go_at_call 11; refine (cut_c 300 (by omega) _ bs _ HB1D.out).mono ?_; rintro e w2 ⟨v2, rfl, hb2, ho2, rfl⟩)
      | (go_at_call 10; refine (Send_c ch _ (bs.take 300) _ HJ1D.out.m HOK.out hL hb2 (fun _ => HLEN.out)).mono ?_; rintro e w4 ⟨u4, P', BA, rfl, hBA, hls4, hm4, hP4, hPB4, hk4D⟩; have hk4 : Keeps (fun k => k = a ∨ P k) w1 w4 := (Keeps.refl _ _).drew.trans hk4D))
  have HQ4 := hidden (HJ1.out.mid hk4)
  have HBW4 : Hid (BSl w4 (.slice ba bn bc) bs) := hidden (HB1.out.keepE hk4 (fun hx k e e2 => by
    have h1 := HBN.out hx k e
    have h2 := HJ1.out.ga
    exact e2.elim (fun e2 => by omega) (fun hp => by have := HJ1.out.gp k hp; omega)))
  have HB4D : Hid (BSl w4.drew (.slice ba bn bc) bs) := hidden (HBW4.out.fresh (Below.refl _ _).drew)
  have HQ4D := hidden (HQ4.out.still (Keeps.refl _ _).drew)
  have HSY : Hid (∀ w', Keeps (fun k => k = b) w4 w' → w'.cell? ⟨bx, 1, none⟩ = some (.int .i64 ch) ∧ w'.cell? ⟨bx, 5, none⟩ = some (.slice ba bn bc)) := hidden fun w' hk => by
    obtain ⟨s1, s2⟩ := HSX.out _ hk4
    exact ⟨hk.cell s1 (fun e => by have e' : bx = b := e; omega), hk.cell s2 (fun e => by have e' : bx = b := e; omega)⟩
  clear k0 k1 k2 k3 k4 k5 kf hb2 ho2
  go_upto_region 12 with fail
  go_region_held3 (fun w' => w'.cell? ⟨bx, 1, none⟩ = some (.int .i64 ch) ∧ w'.cell? ⟨bx, 5, none⟩ = some (.slice ba bn bc))
    (first | exact HSY.out _ (Keeps.refl _ _) | exact HSY.out _ (Keeps.refl _ _).drew | exact HSY.out _ hk5 | go_keep)
    (first
      | (go_at_call 11; refine (cut_c 300 (by omega) _ bs _ HB4D.out).mono ?_; rintro e w2 ⟨v2, rfl, hb2, ho2, rfl⟩)
      | (go_at_call 12; refine (Send_q ch _ (bs.take 300) _ HQ4D.out HOK.out hL hb2 HLEN.out).mono ?_; rintro e w5 ⟨u5, Q', rfl, hls5, hq5, hQ5, hk5D⟩; have hk5 : Keeps (fun k => k = b) w4 w5 := (Keeps.refl _ _).drew.trans hk5D))
  have HJ := hidden (HJ1.out.turn hm4 hP4 hk4 hq5 hQ5 hk5)
  have HOKS := hidden ((sendO_ok HOK.out ch (bs.take 300)).mono (show L + (bs.take 300).length ≤ L + 300 by rw [List.length_take]; omega))
  obtain ⟨BC, hBC⟩ : ∃ BC, BC = w4.heap.size := ⟨_, rfl⟩
  rw [show w4.drew.heap.size = w4.heap.size from rfl, ← hBC] at hls5
  clear hBC
  generalize sendO S ch (bs.take 300) = r at *
  obtain ⟨S', ls, er⟩ := r
  dsimp only at *
  have hl1 := HJ1.out.q.aLt
  rw [show w1.drew.heap.size = w1.heap.size from rfl] at hBA
  have HA := hidden (hls4.keep hk5 (fun k e => by omega))
  have HC := hidden hls5
  obtain ⟨a4, p4, e4⟩ := hls4.shape
  obtain ⟨a5, p5, e5⟩ := hls5.shape
  subst e4 e5
  generalize ls.length = ln at *
  have hee : ((er : Int) != (er : Int)) = false := by simp
  clear hls4 hm4 hP4 hPB4 hk4 hk4D HQ4 HQ4D hls5 hq5 hQ5 hk5 hk5D HJ1 HJ1D HBX HB1 HB1D HB4D HBW4 HPX HSX HSY hb2 ho2
  have HLA : Hid (∀ w', Keeps (fun _ => False) w5 w' → Lst BA w' (.slice a4 ln p4) ls) := hidden fun w' hk => HA.out.keep hk (fun k e => e.elim)
  have HLC : Hid (∀ w', Keeps (fun _ => False) w5 w' → Lst BC w' (.slice a5 ln p5) ls) := hidden fun w' hk => HC.out.keep hk (fun k e => e.elim)
  have HJK : Hid (∀ w', Keeps (fun _ => False) w5 w' → JI w0 w' P' Q' a b S') := hidden fun w' hk => HJ.out.still hk
  have HDC : Hid (∀ w', Keeps (fun _ => False) w5 w' → w'.cell? ⟨b, 32, none⟩ = some (.bool S'.dead) ∧ Keeps (fun _ => False) w5 w') := hidden fun w' hk => ⟨(HJ.out.still hk).q.deadCell.1, hk⟩
  clear HA HC
  have hdd : (S'.dead != S'.dead) = false := by simp
  go_upto_region 22 with fail
  go_region_held3 (fun w' => w'.cell? ⟨b, 32, none⟩ = some (.bool S'.dead) ∧ Keeps (fun _ => False) w5 w')
    (first | exact HDC.out _ (Keeps.refl _ _) | exact HDC.out _ (Keeps.refl _ _).drew | exact HDC.out _ hk8 | go_keep)
    (first
      | (go_at_call 21; refine (bytes_q _ _ ls BA BC _ (HLA.out _ (Keeps.refl _ _).drew) (HLC.out _ (Keeps.refl _ _).drew)).mono ?_; rintro e w8 ⟨rfl, hk8'⟩; have hk8 : Keeps (fun _ => False) w5 w8 := (Keeps.refl _ _).drew.trans hk8')
      | (go_at_call 22; refine (Dead_c _ (HJK.out _ hk8).m).mono ?_; rintro e w8 ⟨rfl, rfl⟩))
  have HJ8 := hidden (HJK.out _ hk8)
  clear HLA HLC HJK HDC
  go_wp2_with fail
  go_loopw [23] (fun t wr => ∃ z : Int, -1 ≤ z ∧ z ≤ 5 ∧ t = .int .i64 z ∧ wr = w8) (fun t _ => (5 - intOf t).toNat)
  case atStart => exact ⟨-1, by omega, by omega, rfl, rfl⟩
  case round =>
    obtain ⟨z, hz0, hz5, rfl, rfl⟩ := hrel
    by_cases hz : z ≤ 4
    · have HWA := hidden (Waits_c z wr HJ8.out.m HOKS.out.four)
      have HWB := hidden (Waits_q z wr HJ8.out.q HOKS.out.four)
      generalize waitsO S' z = x at *
      have hxx : ((x : Int) != (x : Int)) = false := by simp
      go_wp2_with fail
      refine HWA.out.mono ?_
      rintro e wr ⟨rfl, rfl⟩
      go_wp2_with fail
      refine HWB.out.mono ?_
      rintro e wr ⟨rfl, rfl⟩
      go_wp2_with fail
      go_roundw
      case rel => exact ⟨z + 1, by omega, by omega, by go_num, trivial⟩
      case measure => simp [intOf]; omega
    · have HD : Hid (DoP w0 a b (L + 300) (.returned (.bool true)) wr) := hidden ⟨rfl, P', Q', S', HOKS.out, HJ8.out⟩
      clear HJ8
      go_wp2_with fail
      go_ret
      exact HD.out

theorem do_q (k ch n m : Int) (s : ByteArray) (bv : Value) (bs : List UInt8) {w0 : World} (w : World) {L : Nat} {P Q : Nat → Prop} {a b : Nat} {S : MS} (h : JI w0 w P Q a b S) (hok : OkM L S) (hL : L + 1000 ≤ 1000000) (hb : BSl w0 bv bs) :
    Calls Tryz.prog 7 #[.pointer (some ⟨a, 0, none⟩), .pointer (some ⟨b, 0, none⟩), AskV k ch n m s bv] w fun e w' => DoP w0 a b (L + 300) e w' := by
  by_cases h9 : k = 9
  · exact do9_q k ch n m s bv bs w h hok hL hb h9
  by_cases h10 : k = 10
  · exact do10_q k ch n m s bv bs w h hok hL hb h10
  exact doE_q k ch n m s bv bs w h hok hL hb ⟨h9, h10⟩

/-- An ask, as data. -/
structure AskD where
  k : Int
  ch : Int
  n : Int
  m : Int
  s : ByteArray
  b : Value
  bs : List UInt8
/-- The slice value v reads as the asks qs in w. -/
def ASl (w : World) (v : Value) (qs : List AskD) : Prop :=
  ∃ ao cap, v = .slice ao qs.length cap ∧ qs.length ≤ cap ∧ cap ≤ maxLen ∧ (ao = none → qs = [] ∧ cap = 0) ∧ (∀ p ∈ qs, BSl w p.b p.bs) ∧
    ∀ ad, ao = some ad → qs ≠ [] → ∃ b off, ad = ⟨b, off, none⟩ ∧ ∀ (i : Nat) p, qs[i]? = some p → w.cell? ⟨b, off + i * 6, none⟩ = some (.int .i64 p.k) ∧ w.cell? ⟨b, off + i * 6 + 1, none⟩ = some (.int .i64 p.ch) ∧ w.cell? ⟨b, off + i * 6 + 2, none⟩ = some (.int .i64 p.n) ∧ w.cell? ⟨b, off + i * 6 + 3, none⟩ = some (.int .i64 p.m) ∧ w.cell? ⟨b, off + i * 6 + 4, none⟩ = some (.string p.s) ∧ w.cell? ⟨b, off + i * 6 + 5, none⟩ = some p.b
theorem ASl.at {w : World} {ao : Option Addr} {n cap : Nat} {qs : List AskD} (h : ASl w (.slice ao n cap) qs) (k : Nat) (hk : k < qs.length) : ∃ b off, ao = some ⟨b, off, none⟩ ∧ (w.cell? ⟨b, off + k * 6, none⟩ = some (.int .i64 qs[k].k) ∧ w.cell? ⟨b, off + k * 6 + 1, none⟩ = some (.int .i64 qs[k].ch) ∧ w.cell? ⟨b, off + k * 6 + 2, none⟩ = some (.int .i64 qs[k].n) ∧ w.cell? ⟨b, off + k * 6 + 3, none⟩ = some (.int .i64 qs[k].m) ∧ w.cell? ⟨b, off + k * 6 + 4, none⟩ = some (.string qs[k].s) ∧ w.cell? ⟨b, off + k * 6 + 5, none⟩ = some qs[k].b) ∧ BSl w qs[k].b qs[k].bs := by
  obtain ⟨ao, cap, e, h1, h2, h3, h4, hc⟩ := h
  cases e
  have h5 := h4 qs[k] (List.getElem_mem hk)
  cases ao with
  | none => have := (h3 rfl).1; subst this; simp at hk
  | some ad =>
    obtain ⟨b, off, rfl, hcell⟩ := hc ad rfl (by rintro rfl; simp at hk)
    exact ⟨b, off, rfl, hcell k qs[k] (List.getElem?_eq_getElem hk), h5⟩
theorem ASl.fresh {w w' : World} {v : Value} {qs : List AskD} (h : ASl w v qs) (hb : Below w.heap.size w w') : ASl w' v qs := by
  obtain ⟨ao, cap, rfl, h1, h2, h3, h4, hc⟩ := h
  have hk : Keeps (fun _ => False) w w' := Keeps.ofFresh hb
  refine ⟨ao, cap, rfl, h1, h2, h3, fun p hp => (h4 p hp).fresh hb, ?_⟩
  rintro ad rfl hx
  obtain ⟨b, off, rfl, hcell⟩ := hc ad rfl hx
  refine ⟨b, off, rfl, fun i p hp => ?_⟩
  obtain ⟨c0, c1, c2, c3, c4, c5⟩ := hcell i p hp
  exact ⟨hk.cell c0 (fun h => h), hk.cell c1 (fun h => h), hk.cell c2 (fun h => h), hk.cell c3 (fun h => h), hk.cell c4 (fun h => h), hk.cell c5 (fun h => h)⟩
/-- The document's Mux, new. -/
theorem newQ (w : World) : QX (w.alloc (.cells #[.bool false, .bool false, .bool false, .bool false, .int .u32 0, .complex .f64 0 0, .int .i64 0, .slice none 0 0, .bool false, .bool false, .bool false, .bool false, .int .u32 0, .complex .f64 0 0, .int .i64 0, .slice none 0 0, .bool false, .bool false, .bool false, .bool false, .int .u32 0, .complex .f64 0 0, .int .i64 0, .slice none 0 0, .bool false, .bool false, .bool false, .bool false, .int .u32 0, .complex .f64 0 0, .int .i64 0, .slice none 0 0, .bool false] 36)) (fun _ => False) w.heap.size newM :=
  by
  refine ⟨⟨[undef, undef, undef, undef], rfl, heap_alloc_new w _, ?_, ?_⟩, fun h => h, fun k h => h.elim⟩
  · intro i c e
    have : ([none, none, none, none] : List (Option Ch)).getD i none = none := by
      match i with
      | 0 => rfl
      | 1 => rfl
      | 2 => rfl
      | 3 => rfl
      | i + 4 => simp [List.getD_eq_getElem?_getD]
    rw [show newM.cs = [none, none, none, none] from rfl, this] at e
    cases e
  · intro i k hi e
    match i, hi with
    | 0, _ => simp [Value.ownBlock, undef] at e
    | 1, _ => simp [Value.ownBlock, undef] at e
    | 2, _ => simp [Value.ownBlock, undef] at e
    | 3, _ => simp [Value.ownBlock, undef] at e
theorem JI.new {w w1 : World} (hm : MX w1 (fun _ => False) w.heap.size newM) (hb : Below w.heap.size w w1) : JI w (w1.alloc (.cells #[.bool false, .bool false, .bool false, .bool false, .int .u32 0, .complex .f64 0 0, .int .i64 0, .slice none 0 0, .bool false, .bool false, .bool false, .bool false, .int .u32 0, .complex .f64 0 0, .int .i64 0, .slice none 0 0, .bool false, .bool false, .bool false, .bool false, .int .u32 0, .complex .f64 0 0, .int .i64 0, .slice none 0 0, .bool false, .bool false, .bool false, .bool false, .int .u32 0, .complex .f64 0 0, .int .i64 0, .slice none 0 0, .bool false] 36)) (fun _ => False) (fun _ => False) w.heap.size w1.heap.size newM := by
  have hl := hm.aLt
  have hs := hb.size
  exact ⟨hm.still ((Keeps.refl _ _).alloc _), newQ w1, by omega, fun h => h, fun h => h, fun k h => h.elim, Nat.le_refl _, hs, fun k h => h.elim, fun k h => h.elim, hb.alloc hs _⟩

set_option maxHeartbeats 1600000 in
set_option maxRecDepth 100000 in
theorem chansPlays_c (u : Value) (qs : List AskD) (w : World) (hu : ASl w u qs) :
    Calls Tryz.prog 4 #[u] w fun e w' => e = .returned (.bool true) ∧ Below w.heap.size w w' := by
  have HA := hidden hu
  obtain ⟨ua, uc, rfl, huc, hum, _⟩ := id hu
  have HKN : Hid (∀ w1, Calls Tryz.prog 8 #[] w1 fun e w' => e = .returned (.bool true) ∧ Below w1.heap.size w1 w') := hidden known_c
  clear hu huc hum
  go_enter Tryz.func4, Tryz.ntmps4
  go_wp2_with fail
  refine (New_c w).mono ?_
  rintro e w1 ⟨rfl, hm1, hb1⟩
  have HJ0 := hidden (JI.new hm1 hb1)
  have hl1 := hm1.aLt
  clear hm1 hb1
  obtain ⟨a, ha⟩ : ∃ a, a = w.heap.size := ⟨_, rfl⟩
  obtain ⟨b, hb⟩ : ∃ b, b = w1.heap.size := ⟨_, rfl⟩
  rw [← ha, ← hb] at HJ0
  rw [← ha]
  clear ha hl1
  go_wp2_with fail
  rw [← hb]
  clear hb
  generalize w1.alloc (.cells #[.bool false, .bool false, .bool false, .bool false, .int .u32 0, .complex .f64 0 0, .int .i64 0, .slice none 0 0, .bool false, .bool false, .bool false, .bool false, .int .u32 0, .complex .f64 0 0, .int .i64 0, .slice none 0 0, .bool false, .bool false, .bool false, .bool false, .int .u32 0, .complex .f64 0 0, .int .i64 0, .slice none 0 0, .bool false, .bool false, .bool false, .bool false, .int .u32 0, .complex .f64 0 0, .int .i64 0, .slice none 0 0, .bool false] 36) = w2 at *
  generalize hn : qs.length = n at *
  have HN := hidden hn
  clear hn
  go_loopw [5] (fun t wr => ∃ (j : Nat), j ≤ n ∧ j ≤ 40 ∧ t = .int .i64 (j : Int) ∧ ∃ P Q S, OkM (300 * j) S ∧ JI w wr P Q a b S) (fun t _ => n - (intOf t).toNat)
  case atStart => exact ⟨0, by omega, by omega, rfl, _, _, _, okM_new _, HJ0.out⟩
  case round =>
    obtain ⟨j, hj, hj40, rfl, P, Q, S, hok, hji⟩ := hrel
    have HOK := hidden hok
    have HJ := hidden hji
    clear hok hji HJ0
    by_cases hlt : j < n ∧ j < 40
    · have i1 : (j : Int) < (n : Int) := by omega
      have i2 : (j : Int) < 40 := by omega
      have hjq : j < qs.length := by rw [HN.out]; exact hlt.1
      obtain ⟨ab, off, eu, ⟨c0, c1, c2, c3, c4, c5⟩, hb5⟩ := (HA.out.fresh HJ.out.bl).at j hjq
      subst eu
      have hbq : BSl w (qs[j]).b (qs[j]).bs := (HA.out.at j hjq).choose_spec.choose_spec.2.2
      have HDO := hidden (do_q (qs[j]).k (qs[j]).ch (qs[j]).n (qs[j]).m (qs[j]).s (qs[j]).b (qs[j]).bs wr HJ.out HOK.out (by omega) hbq)
      unfold AskV at HDO
      obtain ⟨ba, bc, eb⟩ := hbq.len
      clear hb5 hbq
      obtain ⟨x, hx⟩ : ∃ x, x = qs[j] := ⟨_, rfl⟩
      rw [← hx] at HDO c0 c1 c2 c3 c4 c5 eb
      clear hx
      generalize x.k = xk at *
      generalize x.ch = xc at *
      generalize x.n = xn at *
      generalize x.m = xm at *
      generalize x.s = xs at *
      generalize x.b = xb at *
      generalize x.bs.length = xbl at *
      subst eb
      clear hjq
      go_wp2_with fail
      refine HDO.out.mono ?_
      rintro e w3 ⟨rfl, P', Q', S', hok', hji'⟩
      have HOK' := hidden hok'
      have HJ' := hidden hji'
      clear hok' hji' HOK HJ HDO c0 c1 c2 c3 c4 c5
      go_wp2_with fail
      go_roundw
      case rel => exact ⟨j + 1, by omega, by omega, by go_num, P', Q', S', HOK'.out.mono (by omega), HJ'.out⟩
      case measure => simp [intOf]; omega
    · have HBL := hidden HJ.out.bl
      clear HJ HOK
      by_cases h1 : j < n
      · have i1 : (j : Int) < (n : Int) := by omega
        have i2 : ¬ (j : Int) < 40 := by omega
        go_wp2_with fail
        refine (HKN.out _).mono ?_
        rintro e w3 ⟨rfl, hb3⟩
        have HB3 := hidden (HBL.out.trans (hb3.mono HBL.out.size))
        clear hb3
        go_wp2_with fail
        go_ret
        exact ⟨rfl, HB3.out⟩
      · have i1 : ¬ (j : Int) < (n : Int) := by omega
        go_wp2_with fail
        refine (HKN.out _).mono ?_
        rintro e w3 ⟨rfl, hb3⟩
        have HB3 := hidden (HBL.out.trans (hb3.mono HBL.out.size))
        clear hb3
        go_wp2_with fail
        go_ret
        exact ⟨rfl, HB3.out⟩
end Go.Proofs.YtnimdbjbkoggdaaGreat
