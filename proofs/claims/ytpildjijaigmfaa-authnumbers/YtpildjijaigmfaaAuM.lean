/- The walk of AuthService: ahead of its service nobody comes in. -/
import Derived.Test.YtpildjijaigmfaaAuL
import Derived.Test.YtpildjijaigmfaaAuB
namespace Go.Proofs.Ytpildjijaigmfaa
open Go Go.RowKit

/-- An ask, as data. -/
structure AskD where
  k : Int
  n : Int
  us : ByteArray
  ps : ByteArray
  nm : ByteArray
  b : Value
  bs : List UInt8
def AskD.pay (x : AskD) : List UInt8 := payL x.k x.n x.us x.ps x.nm x.bs
/-- The slice value v reads as the asks qs in w. -/
def ASl (w : World) (v : Value) (qs : List AskD) : Prop :=
  ∃ ao cap, v = .slice ao qs.length cap ∧ qs.length ≤ cap ∧ cap ≤ maxLen ∧ (ao = none → qs = [] ∧ cap = 0) ∧ (∀ p ∈ qs, BSl w p.b p.bs) ∧
    ∀ ad, ao = some ad → qs ≠ [] → ∃ b off, ad = ⟨b, off, none⟩ ∧ ∀ (i : Nat) p, qs[i]? = some p → w.cell? ⟨b, off + i * 6, none⟩ = some (.int .i64 p.k) ∧ w.cell? ⟨b, off + i * 6 + 1, none⟩ = some (.int .i64 p.n) ∧ w.cell? ⟨b, off + i * 6 + 2, none⟩ = some (.string p.us) ∧ w.cell? ⟨b, off + i * 6 + 3, none⟩ = some (.string p.ps) ∧ w.cell? ⟨b, off + i * 6 + 4, none⟩ = some (.string p.nm) ∧ w.cell? ⟨b, off + i * 6 + 5, none⟩ = some p.b
theorem ASl.at {w : World} {ao : Option Addr} {n cap : Nat} {qs : List AskD} (h : ASl w (.slice ao n cap) qs) (k : Nat) (hk : k < qs.length) : ∃ b off, ao = some ⟨b, off, none⟩ ∧ (w.cell? ⟨b, off + k * 6, none⟩ = some (.int .i64 qs[k].k) ∧ w.cell? ⟨b, off + k * 6 + 1, none⟩ = some (.int .i64 qs[k].n) ∧ w.cell? ⟨b, off + k * 6 + 2, none⟩ = some (.string qs[k].us) ∧ w.cell? ⟨b, off + k * 6 + 3, none⟩ = some (.string qs[k].ps) ∧ w.cell? ⟨b, off + k * 6 + 4, none⟩ = some (.string qs[k].nm) ∧ w.cell? ⟨b, off + k * 6 + 5, none⟩ = some qs[k].b) ∧ BSl w qs[k].b qs[k].bs := by
  obtain ⟨ao, cap, e, h1, h2, h3, h4, hc⟩ := h
  cases e
  have h5 := h4 qs[k] (List.getElem_mem hk)
  cases ao with
  | none => have := (h3 rfl).1; subst this; simp at hk
  | some ad =>
    obtain ⟨b, off, rfl, hcell⟩ := hc ad rfl (by rintro rfl; simp at hk)
    exact ⟨b, off, rfl, hcell k qs[k] (List.getElem?_eq_getElem hk), h5⟩
theorem ASl.fresh {w w' : World} {v : Value} {qs : List AskD} (h : ASl w v qs) (hb : Below w.heap.size w w') : ASl w' v qs := by
  obtain ⟨ao, cap, rfl, h1, h2, h3, h4, hc⟩ := h
  have hk : Keeps (fun _ => False) w w' := Keeps.ofFresh hb
  refine ⟨ao, cap, rfl, h1, h2, h3, fun p hp => (h4 p hp).fresh hb, ?_⟩
  rintro ad rfl hx
  obtain ⟨b, off, rfl, hcell⟩ := hc ad rfl hx
  refine ⟨b, off, rfl, fun i p hp => ?_⟩
  obtain ⟨c0, c1, c2, c3, c4, c5⟩ := hcell i p hp
  exact ⟨hk.cell c0 (fun h => h), hk.cell c1 (fun h => h), hk.cell c2 (fun h => h), hk.cell c3 (fun h => h), hk.cell c4 (fun h => h), hk.cell c5 (fun h => h)⟩

theorem ASl.row {w : World} {v : Value} {qs : List AskD} (h : ASl w v qs) (k : Nat) (hk : k < qs.length) : BSl w qs[k].b qs[k].bs := by
  obtain ⟨ao, cap, e, h1, h2, h3, h4, hc⟩ := h
  exact h4 qs[k] (List.getElem_mem hk)
theorem pay_ne {w wr : World} {a : Nat} {v qb : Value} {xs bs : List UInt8} (hx : xs ≠ []) (h : ∀ k, v.ownBlock = some k → wr.heap.size ≤ k ∨ (qb.ownBlock = some k ∧ (xs ≠ [] → bs ≠ []))) (hb : BSl w qb bs) (ha : w.heap.size ≤ a) (hlt : a < wr.heap.size) : ∀ k, v.ownBlock = some k → k ≠ a := by
  intro k e
  rcases h k e with h1 | ⟨h1, h2⟩
  · omega
  · cases bs with
    | nil => exact absurd rfl (h2 hx)
    | cons y t => have := hb.blockLt k h1; omega

theorem ub_users (U : List Usr) : UB (usersL U 5) := ⟨usersL_len U, fun _ hu => usersL_size hu⟩
theorem serv_nil (U : List Usr) (s : GS) : doO U s [] = (s, []) := rfl
theorem serv_quiet (U : List Usr) (s : GS) (x : UInt8) (r : List UInt8) (h : x.toNat = 2 ∨ x.toNat = 3 ∨ x.toNat = 4) : doO U s (x :: r) = (s, []) := by
  unfold doO
  dsimp only
  by_cases hg : s.gone = true
  · rw [if_pos hg]
  · rw [if_neg hg, if_neg (by omega), if_pos h]
theorem serv_other (U : List Usr) (s : GS) (hs : s.st = 0) (x : UInt8) (r : List UInt8) (h5 : x.toNat ≠ 5) (h : ¬ (x.toNat = 2 ∨ x.toNat = 3 ∨ x.toNat = 4)) : (doO U s (x :: r)).1.st = 0 ∧ (doO U s (x :: r)).1.gone = true := by
  unfold doO
  dsimp only
  by_cases hg : s.gone = true
  · rw [if_pos hg]
    exact ⟨hs, hg⟩
  · rw [if_neg hg]
    by_cases h1 : x.toNat = 1
    · rw [if_pos h1]
      exact ⟨hs, rfl⟩
    · rw [if_neg h1, if_neg h]
      unfold stepO
      rw [if_pos hs, if_neg h5]
      exact ⟨hs, rfl⟩
theorem BSl.headN {w : World} {b off n cap : Nat} {x : UInt8} {xs : List UInt8} (h : BSl w (.slice (some ⟨b, off, none⟩) n cap) (x :: xs)) : w.cell? ⟨b, off, none⟩ = some (.int .u8 x.toNat) := by
  have := h.cellAt 0 (by simp)
  simpa using this
theorem dead_do (U : List Usr) (s : GS) (hg : s.gone = true) (p : List UInt8) : doO U s p = (s, []) := by
  cases p with
  | nil => rfl
  | cons x r => unfold doO; dsimp only; rw [if_pos hg]
theorem Ans.zero {B : Nat} {w : World} {v : Value} (h : Ans B w v []) : v = .slice none 0 0 := by
  rcases h with ⟨_, h⟩ | ⟨x, g, u, e, _⟩
  · exact h
  · cases e

/-- What stands while the law goes on: the gate at a, and nothing that was there has turned. -/
structure GI (w wr : World) (a : Nat) (U : List Usr) (s : GS) : Prop where
  g : GW wr a U s
  al : Alive s
  ge : w.heap.size ≤ a
  below : Below w.heap.size w wr
theorem GI.fresh {w wr w1 : World} {a : Nat} {U : List Usr} {s : GS} (h : GI w wr a U s) (hb : Below wr.heap.size wr w1) : GI w w1 a U s := ⟨h.g.fresh hb, h.al, h.ge, h.below.trans (hb.mono h.below.size)⟩
theorem GI.still {w wr w1 : World} {a : Nat} {U : List Usr} {s : GS} (h : GI w wr a U s) (hb : Keeps (fun _ => False) wr w1) : GI w w1 a U s := ⟨h.g.still hb, h.al, h.ge, h.below.trans (Keeps.below hb h.below.size (fun _ h => h.elim))⟩
theorem gi_do (v : Value) (p : List UInt8) {w wr : World} {a : Nat} {U : List Usr} {s : GS} (hU : UB U) (h : GI w wr a U s) (hv : BSl wr v p) (hl : p.length ≤ 300) :
    Calls Try.prog 16 #[.pointer (some ⟨a, 0, none⟩), v] wr fun e w' => ∃ v', e = .returned v' ∧ Ans wr.heap.size w' v' (doO U s p).2 ∧ GI w w' a U (doO U s p).1 ∧ Keeps (fun k => k = a) wr w' := by
  refine (do_c v p wr hv (by omega) hU h.g h.al).mono ?_
  rintro e w1 ⟨v1, rfl, h1, h2, h3⟩
  exact ⟨v1, rfl, h1, ⟨h2, alive_do h.al p, h.ge, h.below.trans (Keeps.below h3 h.below.size (fun k e => by rw [e]; exact h.ge))⟩, h3⟩

set_option maxHeartbeats 3200000 in
set_option maxRecDepth 100000 in
theorem authService_c (v u : Value) (L : List Usr) (qs : List AskD) (w : World) (hv : USl w v L) (hu : ASl w u qs) :
    Calls Try.prog 7 #[v, u] w fun e w' => e = .returned (.bool true) ∧ Below w.heap.size w w' := by
  have HU := hidden (ub_users L)
  have HA := hidden hu
  have HUS := hidden (users_c v L w hv)
  generalize usersL L 5 = U at HU HUS
  obtain ⟨ua, uc, rfl, huc, hum, _⟩ := id hu
  obtain ⟨va, vc, rfl, _⟩ := id hv
  unfold maxLen at hum
  clear hu hv
  have HK := hidden known_c
  have HP1 : Hid (∀ w1 : World, Calls Try.prog 8 #[.agg #[.int .i64 1, .int .i64 0, .string ⟨#[]⟩, .string ⟨#[]⟩, .string ⟨#[]⟩, .slice none 0 0]] w1 fun e w' => PayPost w1 (.slice none 0 0) [] k1L e w') := hidden fun w1 => payload_c 1 0 ⟨#[]⟩ ⟨#[]⟩ ⟨#[]⟩ (.slice none 0 0) [] w1 (bsl_none w1)
  have HKL : Hid (k1L.length ≤ 300) := hidden (payL_len 1 0 ⟨#[]⟩ ⟨#[]⟩ ⟨#[]⟩ [])
  go_enter Try.func7, Try.ntmps7
  go_wp2_with fail
  refine HUS.out.mono ?_
  rintro e w1 ⟨v1, rfl, ho1, hb1⟩
  have hl1 := hidden (USl.ofRow ho1)
  obtain ⟨a1, c1, rfl⟩ := ownsRow_shape ho1
  have HB1 := hidden hb1
  clear ho1 hb1 HUS
  go_wp2_with fail
  refine (New_c _ U w1 hl1.out HU.out).mono ?_
  rintro e w2 ⟨a, rfl, hg, ha, hb⟩
  have HG : Hid (GI w w2 a U newG) := hidden ⟨hg, alive_new, Nat.le_trans HB1.out.size ha, HB1.out.trans (hb.mono HB1.out.size)⟩
  clear hg ha hb hl1 HB1
  go_wp2_with fail
  go_loopw [6] (fun i wr => ∃ (j : Nat) (s : GS), j ≤ qs.length ∧ j ≤ 15 ∧ i = .int .i64 (j : Int) ∧ s.st = 0 ∧ GI w wr a U s) (fun i _ => 15 - (intOf i).toNat)
  case atStart => exact ⟨0, newG, by omega, by omega, rfl, rfl, HG.out⟩
  case round =>
    obtain ⟨j, s, hj, hj15, rfl, hs0, hgi⟩ := hrel
    have HI := hidden hgi
    have HS0 := hidden hs0
    clear hgi hs0 HG
    by_cases hlt : j < qs.length
    · have i1 : (j : Int) < (qs.length : Int) := by omega
      by_cases hlt15 : j < 15
      · have i2 : (j : Int) < 15 := by omega
        obtain ⟨b, o, rfl, ⟨k0, k1, k2, k3, k4, k5⟩, hbs⟩ := (HA.out.fresh HI.out.below).at j hlt
        have HR0 := hidden (HA.out.row j hlt)
        have HPL := hidden (payL_len qs[j].k qs[j].n qs[j].us qs[j].ps qs[j].nm qs[j].bs)
        have HPC := hidden (payload_c qs[j].k qs[j].n qs[j].us qs[j].ps qs[j].nm qs[j].b qs[j].bs wr hbs)
        unfold askV at HPC
        obtain ⟨ba, bc, eb⟩ := hbs.len
        generalize payL qs[j].k qs[j].n qs[j].us qs[j].ps qs[j].nm qs[j].bs = p at HPL HPC
        generalize qs[j].b = qb at *
        generalize qs[j].bs = qbs at *
        generalize qs[j].k = qk at *
        generalize qs[j].n = qn at *
        generalize qs[j].us = qus at *
        generalize qs[j].ps = qps at *
        generalize qs[j].nm = qnm at *
        subst eb
        generalize qbs.length = qbl at *
        clear hbs
        go_wp2_with fail
        refine HPC.out.mono ?_
        rintro e w3 ⟨v3, rfl, hb3, hpo, hbl3⟩
        have HAP := hidden (fun hx => pay_ne hx hpo HR0.out HI.out.ge HI.out.g.lt)
        have HI3 := hidden (HI.out.fresh hbl3)
        have HV3 := hidden hb3
        clear hbl3 HI HPC k0 k1 k2 k3 k4 k5 hpo HR0
        cases p with
        | nil =>
          obtain ⟨x3, y3, rfl⟩ := hb3.nil
          clear hb3
          go_wp2_with fail
          refine (gi_do _ [] HU.out HI3.out HV3.out (by have := HPL.out; exact this)).mono ?_
          rintro e w4 ⟨v4, rfl, ha4, hi4, hk4⟩
          rw [serv_nil] at ha4 hi4
          obtain rfl := ha4.zero
          have HI4 := hidden hi4
          clear ha4 hi4 HI3 hk4
          have HST := hidden HS0.out
          obtain ⟨sg, hsg⟩ : ∃ g, g = s.gone := ⟨_, rfl⟩
          have HGO := hidden hsg.symm
          clear hsg
          cases sg
          · go_wp2_with fail
            refine (User_c w4 HI4.out.g).mono ?_
            rintro e w5 ⟨rfl, hk5⟩
            have HI5 := hidden (HI4.out.still hk5)
            clear hk5 HI4
            rw [HST.out]
            rw [show (((0 : Nat) : Int) == 2) = false from rfl]
            have HDD := hidden (Dead_c w5 HI5.out.g)
            rw [HGO.out] at HDD
            go_wp2_with (go_at_call 19; refine HDD.out.mono ?_; rintro e w6 ⟨rfl, rfl⟩)
            go_roundw
            case rel => exact ⟨j + 1, _, by omega, by omega, by go_num, HST.out, HI5.out⟩
            case measure => simp [intOf]; omega
          · go_wp2_with fail
            refine (User_c w4 HI4.out.g).mono ?_
            rintro e w5 ⟨rfl, hk5⟩
            have HI5 := hidden (HI4.out.still hk5)
            clear hk5 HI4
            rw [HST.out]
            rw [show (((0 : Nat) : Int) == 2) = false from rfl]
            have HDD := hidden (Dead_c w5 HI5.out.g)
            rw [HGO.out] at HDD
            go_wp2_with (go_at_call 19; refine HDD.out.mono ?_; rintro e w6 ⟨rfl, rfl⟩)
            refine (HP1.out _).mono ?_
            rintro e w7 ⟨v7, rfl, hb7, _, hbl7⟩
            have HI7 := hidden (HI5.out.fresh hbl7)
            have HV7 := hidden hb7
            clear hb7 hbl7 HI5 HDD
            go_wp2_with fail
            refine (gi_do v7 k1L HU.out HI7.out HV7.out HKL.out).mono ?_
            rintro e w8 ⟨v8, rfl, ha8, hi8, _⟩
            rw [dead_do U _ HGO.out] at ha8 hi8
            have HI8 := hidden hi8
            obtain rfl := ha8.zero
            clear ha8 hi8 HI7 HV7
            go_wp2_with fail
            go_roundw
            case rel => exact ⟨j + 1, _, by omega, by omega, by go_num, HST.out, HI8.out⟩
            case measure => simp [intOf]; omega
        | cons x r =>
          obtain ⟨b3, o3, c3, rfl, _⟩ := hb3.cons
          have q0 := hb3.head
          clear hb3
          have hn0 : (0 : Int) < ((x :: r).length : Int) := by simp only [List.length_cons]; omega
          have HAQ := hidden (HAP.out (by simp))
          clear HAP
          have hn1 : (((x :: r).length : Int) == 0) = false := beq_false_of_ne (by simp only [List.length_cons]; omega)
          generalize hrl : (x :: r).length = rl at *
          have HRL := hidden hrl
          clear hrl
          by_cases x5 : x.toNat = 5
          · have t5 : ((x.toNat : Int) == 5) = true := by simp; omega
            clear x5
            go_wp2_with fail
            go_roundw
            case rel => exact ⟨j + 1, s, by omega, by omega, by go_num, HS0.out, HI3.out⟩
            case measure => simp [intOf]; omega
          · have t5 : ((x.toNat : Int) == 5) = false := by simp; omega
            by_cases xq : x.toNat = 2 ∨ x.toNat = 3 ∨ x.toNat = 4
            · have t6 : (2 : Int) ≤ (x.toNat : Int) := by omega
              have t7 : (x.toNat : Int) ≤ 4 := by omega
              have HEQ := hidden (serv_quiet U s x r xq)
              clear x5 xq
              go_wp2_with fail
              refine (gi_do _ (x :: r) HU.out HI3.out HV3.out (by have := HPL.out; have := HRL.out; omega)).mono ?_
              rintro e w4 ⟨v4, rfl, ha4, hi4, hk4⟩
              have HV4 := hidden (HV3.out.keep hk4 (fun k e h => HAQ.out k e h))
              rw [HEQ.out] at ha4 hi4
              obtain rfl := ha4.zero
              have HI4 := hidden hi4
              clear ha4 hi4 HI3 hk4 HV3 q0
              have HST := hidden HS0.out
              obtain ⟨sg, hsg⟩ : ∃ g, g = s.gone := ⟨_, rfl⟩
              have HGO := hidden hsg.symm
              clear hsg
              cases sg
              · go_wp2_with fail
                refine (User_c w4 HI4.out.g).mono ?_
                rintro e w5 ⟨rfl, hk5⟩
                have HI5 := hidden (HI4.out.still hk5)
                have q1 := (HV4.out.keep hk5 (fun _ _ h => h)).headN
                clear hk5 HI4
                rw [HST.out]
                rw [show (((0 : Nat) : Int) == 2) = false from rfl]
                have HDD := hidden (Dead_c w5 HI5.out.g)
                rw [HGO.out] at HDD
                go_wp2_with (go_at_call 19; refine HDD.out.mono ?_; rintro e w6 ⟨rfl, rfl⟩)
                go_roundw
                case rel => exact ⟨j + 1, _, by omega, by omega, by go_num, HST.out, HI5.out⟩
                case measure => simp [intOf]; omega
              · go_wp2_with fail
                refine (User_c w4 HI4.out.g).mono ?_
                rintro e w5 ⟨rfl, hk5⟩
                have HI5 := hidden (HI4.out.still hk5)
                have q1 := (HV4.out.keep hk5 (fun _ _ h => h)).headN
                clear hk5 HI4
                rw [HST.out]
                rw [show (((0 : Nat) : Int) == 2) = false from rfl]
                have HDD := hidden (Dead_c w5 HI5.out.g)
                rw [HGO.out] at HDD
                go_wp2_with (go_at_call 19; refine HDD.out.mono ?_; rintro e w6 ⟨rfl, rfl⟩)
                refine (HP1.out _).mono ?_
                rintro e w7 ⟨v7, rfl, hb7, _, hbl7⟩
                have HI7 := hidden (HI5.out.fresh hbl7)
                have HV7 := hidden hb7
                clear hb7 hbl7 HI5 HDD
                go_wp2_with fail
                refine (gi_do v7 k1L HU.out HI7.out HV7.out HKL.out).mono ?_
                rintro e w8 ⟨v8, rfl, ha8, hi8, _⟩
                rw [dead_do U _ HGO.out] at ha8 hi8
                have HI8 := hidden hi8
                obtain rfl := ha8.zero
                clear ha8 hi8 HI7 HV7
                go_wp2_with fail
                go_roundw
                case rel => exact ⟨j + 1, _, by omega, by omega, by go_num, HST.out, HI8.out⟩
                case measure => simp [intOf]; omega
            · have HEQ := hidden (serv_other U s HS0.out x r x5 xq)
              by_cases x2 : x.toNat < 2
              · have t6 : ¬ (2 : Int) ≤ (x.toNat : Int) := by omega
                clear x5 xq x2
                go_wp2_with fail
                refine (gi_do _ (x :: r) HU.out HI3.out HV3.out (by have := HPL.out; have := HRL.out; omega)).mono ?_
                rintro e w4 ⟨v4, rfl, ha4, hi4, hk4⟩
                have HV4 := hidden (HV3.out.keep hk4 (fun k e h => HAQ.out k e h))
                have HI4 := hidden hi4
                clear ha4 hi4 HI3 hk4 HV3 q0
                have HST := hidden HEQ.out.1
                have HGO := hidden HEQ.out.2
                generalize (doO U s (x :: r)).1 = s1 at *
                go_wp2_with fail
                refine (User_c w4 HI4.out.g).mono ?_
                rintro e w5 ⟨rfl, hk5⟩
                have HI5 := hidden (HI4.out.still hk5)
                have q1 := (HV4.out.keep hk5 (fun _ _ h => h)).headN
                clear hk5 HI4
                rw [HST.out]
                rw [show (((0 : Nat) : Int) == 2) = false from rfl]
                have HDD := hidden (Dead_c w5 HI5.out.g)
                rw [HGO.out] at HDD
                go_wp2_with (go_at_call 19; refine HDD.out.mono ?_; rintro e w6 ⟨rfl, rfl⟩)
                refine (HP1.out _).mono ?_
                rintro e w7 ⟨v7, rfl, hb7, _, hbl7⟩
                have HI7 := hidden (HI5.out.fresh hbl7)
                have HV7 := hidden hb7
                clear hb7 hbl7 HI5 HDD
                go_wp2_with fail
                refine (gi_do v7 k1L HU.out HI7.out HV7.out HKL.out).mono ?_
                rintro e w8 ⟨v8, rfl, ha8, hi8, _⟩
                rw [dead_do U _ HGO.out] at ha8 hi8
                have HI8 := hidden hi8
                obtain rfl := ha8.zero
                clear ha8 hi8 HI7 HV7
                go_wp2_with fail
                go_roundw
                case rel => exact ⟨j + 1, _, by omega, by omega, by go_num, HST.out, HI8.out⟩
                case measure => simp [intOf]; omega
              · have t6 : (2 : Int) ≤ (x.toNat : Int) := by omega
                have t7 : ¬ (x.toNat : Int) ≤ 4 := by omega
                clear x5 xq x2
                go_wp2_with fail
                refine (gi_do _ (x :: r) HU.out HI3.out HV3.out (by have := HPL.out; have := HRL.out; omega)).mono ?_
                rintro e w4 ⟨v4, rfl, ha4, hi4, hk4⟩
                have HV4 := hidden (HV3.out.keep hk4 (fun k e h => HAQ.out k e h))
                have HI4 := hidden hi4
                clear ha4 hi4 HI3 hk4 HV3 q0
                have HST := hidden HEQ.out.1
                have HGO := hidden HEQ.out.2
                generalize (doO U s (x :: r)).1 = s1 at *
                go_wp2_with fail
                refine (User_c w4 HI4.out.g).mono ?_
                rintro e w5 ⟨rfl, hk5⟩
                have HI5 := hidden (HI4.out.still hk5)
                have q1 := (HV4.out.keep hk5 (fun _ _ h => h)).headN
                clear hk5 HI4
                rw [HST.out]
                rw [show (((0 : Nat) : Int) == 2) = false from rfl]
                have HDD := hidden (Dead_c w5 HI5.out.g)
                rw [HGO.out] at HDD
                go_wp2_with (go_at_call 19; refine HDD.out.mono ?_; rintro e w6 ⟨rfl, rfl⟩)
                refine (HP1.out _).mono ?_
                rintro e w7 ⟨v7, rfl, hb7, _, hbl7⟩
                have HI7 := hidden (HI5.out.fresh hbl7)
                have HV7 := hidden hb7
                clear hb7 hbl7 HI5 HDD
                go_wp2_with fail
                refine (gi_do v7 k1L HU.out HI7.out HV7.out HKL.out).mono ?_
                rintro e w8 ⟨v8, rfl, ha8, hi8, _⟩
                rw [dead_do U _ HGO.out] at ha8 hi8
                have HI8 := hidden hi8
                obtain rfl := ha8.zero
                clear ha8 hi8 HI7 HV7
                go_wp2_with fail
                go_roundw
                case rel => exact ⟨j + 1, _, by omega, by omega, by go_num, HST.out, HI8.out⟩
                case measure => simp [intOf]; omega
      · have i2 : ¬ (j : Int) < 15 := by omega
        go_wp2_with fail
        refine (HK.out wr).mono ?_
        rintro e w3 ⟨rfl, hb3⟩
        have HB3 := hidden (HI.out.below.trans (hb3.mono HI.out.below.size))
        clear hb3 HI
        go_wp2_with fail
        go_ret
        exact ⟨rfl, HB3.out⟩
    · have i1 : ¬ (j : Int) < (qs.length : Int) := by omega
      go_wp2_with fail
      refine (HK.out wr).mono ?_
      rintro e w3 ⟨rfl, hb3⟩
      have HB3 := hidden (HI.out.below.trans (hb3.mono HI.out.below.size))
      clear hb3 HI
      go_wp2_with fail
      go_ret
      exact ⟨rfl, HB3.out⟩

end Go.Proofs.Ytpildjijaigmfaa
