/- The document's Do. -/
import Derived.Test.YtnimdbjbkoggdaaGreatDmC
namespace Go.Proofs.YtnimdbjbkoggdaaGreat
open Go Go.RowKit

theorem QR.make {w : World} {v : Value} {bs : List UInt8} (hb : BSl w v bs) (hl : bs.length ≤ 1000000000000) (hlt : ∀ k, v.ownBlock = some k → k < w.heap.size) : QR (w.alloc (.cells #[v, .int .i64 0, .bool false, .int .i64 0, .int .i64 0] 90)) w.heap.size v.ownBlock bs 0 0 :=
  ⟨v, 0, false, 0, 0, heap_alloc_new w _, hb.alloc _, rfl, (fun e => by have := hlt _ e; omega), by omega, hl, .inl ⟨rfl, rfl, rfl⟩⟩
theorem keeps_out {w w2 : World} {o : Obj} (hk : Keeps (fun k => k = w.heap.size) (w.alloc o) w2) : Keeps (fun _ => False) w w2 :=
  have h0 : Keeps (fun _ => False) w (w.alloc o) := (Keeps.refl _ _).alloc _
  ⟨hk.os.trans h0.os, hk.tape.trans h0.tape, hk.output.trans h0.output, Nat.le_trans h0.size hk.size, fun k h1 h2 => (hk.block k (Nat.lt_of_lt_of_le h1 h0.size) (by omega)).trans (h0.block k h1 h2)⟩
theorem QDPost.outer {w w2 w' : World} {P : Nat → Prop} {a : Nat} {r : MS × List (List UInt8) × List Ev} {e : Ending} (hk : Keeps (fun _ => False) w w2) (h : QDPost w2 P a (fun k => k = a ∨ k = w.heap.size) r e w') : QDPost w P a (fun k => k = a) r e w' := by
  obtain ⟨u1, u2, e1, h1, h2, h3, h4⟩ := h
  exact ⟨u1, u2, e1, h1.mono hk.size, h2.mono hk.size, h3, ⟨h4.os.trans hk.os, h4.tape.trans hk.tape, h4.output.trans hk.output, Nat.le_trans hk.size h4.size, fun k k1 k2 => (h4.block k (Nat.lt_of_lt_of_le k1 hk.size) (fun e => e.elim k2 (by omega))).trans (hk.block k k1 (fun h => h))⟩⟩
theorem whole_ref (bs : List UInt8) (p : Nat) (why : Int) (h : why ≠ 0) : wholeB bs p why = false := by
  unfold wholeB ends
  rw [if_neg h]
  simpa using h
theorem tk_ref (bs : List UInt8) (p : Nat) (why : Int) (n : Nat) (h : why ≠ 0) : tk bs p why n = ([], p, why) := by
  unfold tk
  rw [if_neg h]
theorem tx_ref (bs : List UInt8) (p : Nat) (why : Int) (m : Int) (h : why ≠ 0) : (tx bs p why m).2.2 ≠ 0 := by
  unfold tx
  rw [tk_ref bs p why 4 h]
  dsimp only
  split
  · simp
  · rw [tk_ref bs p why _ h]
    exact h
theorem chO_ref (k : Nat) (c : Ch) (i : Nat) (bs : List UInt8) (p : Nat) (why : Int) (h : why ≠ 0) : chO k c i bs p why = none := by
  unfold chO
  have hm : moreO c bs p why = none := by
    unfold moreO
    rw [tk_ref bs p why 4 h, whole_ref bs _ _ h, if_neg (fun h => by cases h.1)]
  have hd : dataO c i bs p why = none := by
    unfold dataO
    rw [whole_ref bs _ _ (tx_ref bs p why 32768 h), if_neg (fun h => by cases h.1)]
  have hf : finO c i bs p why = none := by
    unfold finO
    rw [whole_ref bs _ _ h, if_neg (fun h => by cases h.1)]
  have hg : goneO c i bs p why = none := by
    unfold goneO
    rw [whole_ref bs _ _ h, if_neg (fun h => by cases h)]
  have hr : reqO c i bs p why = none := by
    unfold reqO
    have : (rqW bs p why).2.2 ≠ 0 := by
      unfold rqW
      have h2 := tx_ref bs p why 64 h
      rw [tk_ref bs _ _ 1 h2]
      exact h2
    rw [if_neg this]
  rw [hm, hd, hf, hg, hr]
  split <;> (try rfl)
  split <;> (try rfl)
  split <;> (try rfl)
  split <;> (try rfl)
  split <;> rfl
theorem chAt_out {S : MS} (hS : S.cs.length = 4) (n : Nat) (h : ¬ n < 4) : chAt S n = none := by
  unfold chAt
  simp [List.getD_eq_getElem?_getD, List.getElem?_eq_none (show S.cs.length ≤ n by omega)]
theorem chO_other (k : Nat) (c : Ch) (i : Nat) (bs : List UInt8) (p : Nat) (why : Int) (h : ¬ (k = 93 ∨ k = 94 ∨ k = 96 ∨ k = 97 ∨ k = 98)) : chO k c i bs p why = none := by
  unfold chO
  rw [if_neg (by omega), if_neg (by omega), if_neg (by omega), if_neg (by omega), if_neg (by omega)]
theorem takeO_other {S : MS} {k : Nat} {bs : List UInt8} {p : Nat} {why : Int} (h : ¬ (k = 1 ∨ k = 2 ∨ k = 3 ∨ k = 4 ∨ k = 90 ∨ k = 93 ∨ k = 94 ∨ k = 96 ∨ k = 97 ∨ k = 98)) : takeO S k bs p why = none := by
  unfold takeO
  rw [if_neg (by omega), if_neg (by omega), if_neg (by omega)]
  split
  · rfl
  · rw [chO_other _ _ _ _ _ _ (by omega)]
    rfl
/-- What is left of a kind that names a channel. -/
theorem takeO_ch {S : MS} {k : Nat} {bs : List UInt8} {p : Nat} {why : Int} (h : k = 93 ∨ k = 94 ∨ k = 96 ∨ k = 97 ∨ k = 98) : takeO S k bs p why = match chAt S (val (tk bs p why 4).1) with
    | none => none
    | some c => putC S (val (tk bs p why 4).1) (chO k c (val (tk bs p why 4).1) bs (tk bs p why 4).2.1 (tk bs p why 4).2.2) := by
  unfold takeO
  rw [if_neg (by omega), if_neg (by omega), if_neg (by omega)]
  cases chAt S (val (tk bs p why 4).1) <;> rfl

/-- While the document's Do reads: its Reader, made last of all. -/
structure DI (w w2 : World) (P : Nat → Prop) (a : Nat) (S : MS) : Prop where
  m : QX w2 P a S
  k : Keeps (fun _ => False) w w2

set_option maxHeartbeats 3200000 in
set_option maxRecDepth 100000 in
theorem Do_q (v : Value) (bs : List UInt8) (w : World) {L : Nat} {P : Nat → Prop} {a : Nat} {S : MS} (h : QX w P a S) (hok : OkM L S) (hL : L ≤ 1000000) (hv : BSl w v bs) (hl : bs.length ≤ 1000000) :
    Calls Tryz.prog 18 #[.pointer (some ⟨a, 0, none⟩), v] w fun e w' => QDPost w P a (fun k => k = a) (doO S bs) e w' := by
  obtain ⟨d0, df⟩ := h.deadCell
  have HM := hidden h
  have hal := h.aLt
  have HPL := hidden h.lt
  have hS := hok.four
  have HOK := hidden hok
  obtain ⟨va, vc, ev⟩ := hv.len
  subst ev
  have HV := hidden hv
  have HPN : Hid (QDPost w P a (fun k => k = a) (S, [], []) (.returned (.tuple #[.slice none 0 0, .slice none 0 0])) w) := hidden ⟨_, _, rfl, Lst.nil' _ _, Evs.nil' _ _ _, h, Keeps.refl _ _⟩
  clear h hv hok
  cases hdd : S.dead
  · rw [hdd] at d0
    cases bs with
    | nil =>
      rw [show doO S [] = (S, [], []) from rfl]
      rw [show (([] : List UInt8).length) = 0 from rfl]
      go_enter Tryz.func18, Tryz.ntmps18
      go_wp2_with fail
      go_ret2
      exact HPN.out
    | cons x r =>
      have hdo : doO S (x :: r) = (takeO S x.toNat (x :: r) 1 0).getD (⟨S.cs, true⟩, [byeL 2], []) := by
        simp only [doO]
        rw [if_neg (by rw [hdd]; simp)]
      rw [hdo]
      clear hdo hdd
      have hbl : x.toNat ≤ 255 := by have := x.toNat_lt; omega
      have HQR : Hid (QR (w.alloc (.cells #[.slice va (x :: r).length vc, .int .i64 0, .bool false, .int .i64 0, .int .i64 0] 90)) w.heap.size (Value.slice va (x :: r).length vc).ownBlock (x :: r) 0 0) := hidden (QR.make HV.out (by omega) (HV.out.ltE (by simp)))
      have HBY : Hid (∀ w', QR w' w.heap.size (Value.slice va (x :: r).length vc).ownBlock (x :: r) 0 0 → Calls Tryz.prog 40 #[.pointer (some ⟨w.heap.size, 0, none⟩)] w' fun e w2 => e = .returned (.int .i64 (x.toNat : Int)) ∧ QTook w.heap.size (Value.slice va (x :: r).length vc).ownBlock (x :: r) 1 0 w' w2) := hidden fun w' h' => by
        have := qbyte_c w' h'
        rw [tk_head, val_one] at this
        exact this
      obtain ⟨bs, hbs⟩ : ∃ bs, bs = x :: r := ⟨_, rfl⟩
      have hln : bs.length ≠ 0 := by rw [hbs]; simp
      rw [← hbs] at HQR HBY HV hl ⊢
      clear hbs
      generalize hgb : (Value.slice va bs.length vc).ownBlock = gb at *
      clear hgb
      have hlb : ((bs.length : Int) == 0) = false := by simp; simpa using hln
      generalize x.toNat = k at *
      generalize bs.length = bn at *
      by_cases hk : k = 1 ∨ k = 2 ∨ k = 3 ∨ k = 4 ∨ k = 90 ∨ k = 93 ∨ k = 94 ∨ k = 96 ∨ k = 97 ∨ k = 98
      · rcases hk with rfl | rfl | rfl | rfl | rfl | rfl | rfl | rfl | rfl | rfl
        · rw [show takeO S 1 bs 1 0 = some (⟨S.cs, true⟩, [], []) from rfl, Option.getD_some]
          go_enter Tryz.func18, Tryz.ntmps18
          go_wp2_with fail
          have HK0 : Hid (Keeps (fun _ => False) w (w.alloc (.cells #[.slice va bn vc, .int .i64 0, .bool false, .int .i64 0, .int .i64 0] 90))) := hidden ((Keeps.refl _ _).alloc _)
          refine (HBY.out _ HQR.out).mono ?_
          rintro e w1 ⟨rfl, t1⟩
          have HDI : Hid (DI w w1 P a S) := hidden ⟨HM.out.still (keeps_out t1.keeps), keeps_out t1.keeps⟩
          have HR1 := hidden t1.state
          clear t1 HBY HQR HK0 HM d0 df
          obtain ⟨d0, df⟩ := HDI.out.m.deadCell
          have HP : Hid (QDPost w P a (fun k => k = a) (⟨S.cs, true⟩, [], []) (.returned (.tuple #[.slice none 0 0, .slice none 0 0])) (w1.setCell ⟨a, 32, none⟩ (.bool true))) := hidden ⟨_, _, rfl, Lst.nil' _ _, Evs.nil' _ _ _, HDI.out.m.dies true, (HDI.out.k.mono (fun k _ h => h.elim)).trans (keepsSet w1 a 32 (.bool true))⟩
          clear HDI HR1
          go_wp2_with fail
          go_ret2
          exact HP.out
        · rw [show takeO S 2 bs 1 0 = some (S, [], []) from rfl, Option.getD_some]
          go_enter Tryz.func18, Tryz.ntmps18
          go_wp2_with fail
          have HK0 : Hid (Keeps (fun _ => False) w (w.alloc (.cells #[.slice va bn vc, .int .i64 0, .bool false, .int .i64 0, .int .i64 0] 90))) := hidden ((Keeps.refl _ _).alloc _)
          refine (HBY.out _ HQR.out).mono ?_
          rintro e w1 ⟨rfl, t1⟩
          have HDI : Hid (DI w w1 P a S) := hidden ⟨HM.out.still (keeps_out t1.keeps), keeps_out t1.keeps⟩
          have HR1 := hidden t1.state
          clear t1 HBY HQR HK0 HM d0 df
          have HP : Hid (QDPost w P a (fun k => k = a) (S, [], []) (.returned (.tuple #[.slice none 0 0, .slice none 0 0])) w1) := hidden ⟨_, _, rfl, Lst.nil' _ _, Evs.nil' _ _ _, HDI.out.m, HDI.out.k.mono (fun k _ h => h.elim)⟩
          clear HDI HR1
          go_wp2_with fail
          go_ret2
          exact HP.out
        · rw [show takeO S 3 bs 1 0 = some (S, [], []) from rfl, Option.getD_some]
          go_enter Tryz.func18, Tryz.ntmps18
          go_wp2_with fail
          have HK0 : Hid (Keeps (fun _ => False) w (w.alloc (.cells #[.slice va bn vc, .int .i64 0, .bool false, .int .i64 0, .int .i64 0] 90))) := hidden ((Keeps.refl _ _).alloc _)
          refine (HBY.out _ HQR.out).mono ?_
          rintro e w1 ⟨rfl, t1⟩
          have HDI : Hid (DI w w1 P a S) := hidden ⟨HM.out.still (keeps_out t1.keeps), keeps_out t1.keeps⟩
          have HR1 := hidden t1.state
          clear t1 HBY HQR HK0 HM d0 df
          have HP : Hid (QDPost w P a (fun k => k = a) (S, [], []) (.returned (.tuple #[.slice none 0 0, .slice none 0 0])) w1) := hidden ⟨_, _, rfl, Lst.nil' _ _, Evs.nil' _ _ _, HDI.out.m, HDI.out.k.mono (fun k _ h => h.elim)⟩
          clear HDI HR1
          go_wp2_with fail
          go_ret2
          exact HP.out
        · rw [show takeO S 4 bs 1 0 = some (S, [], []) from rfl, Option.getD_some]
          go_enter Tryz.func18, Tryz.ntmps18
          go_wp2_with fail
          have HK0 : Hid (Keeps (fun _ => False) w (w.alloc (.cells #[.slice va bn vc, .int .i64 0, .bool false, .int .i64 0, .int .i64 0] 90))) := hidden ((Keeps.refl _ _).alloc _)
          refine (HBY.out _ HQR.out).mono ?_
          rintro e w1 ⟨rfl, t1⟩
          have HDI : Hid (DI w w1 P a S) := hidden ⟨HM.out.still (keeps_out t1.keeps), keeps_out t1.keeps⟩
          have HR1 := hidden t1.state
          clear t1 HBY HQR HK0 HM d0 df
          have HP : Hid (QDPost w P a (fun k => k = a) (S, [], []) (.returned (.tuple #[.slice none 0 0, .slice none 0 0])) w1) := hidden ⟨_, _, rfl, Lst.nil' _ _, Evs.nil' _ _ _, HDI.out.m, HDI.out.k.mono (fun k _ h => h.elim)⟩
          clear HDI HR1
          go_wp2_with fail
          go_ret2
          exact HP.out
        · rw [show takeO S 90 bs 1 0 = openO S bs 1 0 from rfl]
          go_enter Tryz.func18, Tryz.ntmps18
          go_wp2_with fail
          have HK0 : Hid (Keeps (fun _ => False) w (w.alloc (.cells #[.slice va bn vc, .int .i64 0, .bool false, .int .i64 0, .int .i64 0] 90))) := hidden ((Keeps.refl _ _).alloc _)
          refine (HBY.out _ HQR.out).mono ?_
          rintro e w1 ⟨rfl, t1⟩
          have HDI : Hid (DI w w1 P a S) := hidden ⟨HM.out.still (keeps_out t1.keeps), keeps_out t1.keeps⟩
          have HR1 := hidden t1.state
          clear t1 HBY HQR HK0 HM d0 df
          go_wp2_with fail
          refine (start_q w1 HDI.out.m hS HR1.out hal (fun hp => by have := HPL.out _ hp; omega)).mono ?_
          rintro e w3 hq
          have HQ := hidden (hq.outer HDI.out.k)
          obtain ⟨u1, u2, rfl, _⟩ := hq
          clear HDI
          go_wp2_with fail
          go_ret2
          exact HQ.out
        · rw [takeO_ch (by omega)]
          have HU : Hid (∀ w', QR w' w.heap.size gb bs 1 0 → Calls Tryz.prog 42 #[.pointer (some ⟨w.heap.size, 0, none⟩)] w' fun e w2 => QPost w.heap.size gb bs (tk bs 1 0 4) (.int .u32 (val (tk bs 1 0 4).1)) w' e w2) := hidden fun w' h' => qu32_c w' h'
          have hnv := val4_lt _ (tk_len bs 1 0 4)
          generalize tk bs 1 0 4 = tt at *
          generalize val tt.1 = n at *
          by_cases hy : tt.2.2 = 0
          · by_cases hn4 : n < 4
            · cases hch : chAt S n with
              | none =>
                dsimp only
                rw [Option.getD_none]
                have hge : ¬ (4 : Int) ≤ (n : Int) := by omega
                have hlt4 : (n : Int) < 4 := by omega
                go_enter Tryz.func18, Tryz.ntmps18
                go_wp2_with fail
                have HK0 : Hid (Keeps (fun _ => False) w (w.alloc (.cells #[.slice va bn vc, .int .i64 0, .bool false, .int .i64 0, .int .i64 0] 90))) := hidden ((Keeps.refl _ _).alloc _)
                refine (HBY.out _ HQR.out).mono ?_
                rintro e w1 ⟨rfl, t1⟩
                have HDI : Hid (DI w w1 P a S) := hidden ⟨HM.out.still (keeps_out t1.keeps), keeps_out t1.keeps⟩
                have HR1 := hidden t1.state
                clear t1 HBY HQR HK0 HM d0 df
                go_wp2_with fail
                refine (HU.out _ HR1.out).mono ?_
                rintro e w2 ⟨rfl, t2⟩
                have hk2 : Keeps (fun _ => False) w w2 := ⟨t2.keeps.os.trans HDI.out.k.os, t2.keeps.tape.trans HDI.out.k.tape, t2.keeps.output.trans HDI.out.k.output, Nat.le_trans HDI.out.k.size t2.keeps.size, fun k h1 h2 => (t2.keeps.block k (Nat.lt_of_lt_of_le h1 HDI.out.k.size) (by omega)).trans (HDI.out.k.block k h1 h2)⟩
                have HDI2 : Hid (DI w w2 P a S) := hidden ⟨HDI.out.m.read hal (fun hp => by have := HPL.out _ hp; omega) t2.keeps, hk2⟩
                have HR2 := hidden t2.state
                obtain ⟨q4, rf, r1, r2, r3, r4⟩ := t2.state.cell2
                clear t2 HU HR1 hk2 HDI r1
                have HDI := HDI2
                have HR1 := HR2
                clear HDI2 HR2
                have hrf := (r3 hy).1
                subst hrf
                clear r3 r4
                have k1 := HDI.out.m.openCell hS n hn4
                rw [hch] at k1
                simp only [Option.isSome] at k1
                go_wp2_with fail
                refine (bye_q _ HDI.out.m).mono ?_
                rintro e w3 ⟨u1, u2, rfl, b1, b2, b3, b4⟩
                have HQ : Hid (QDPost w P a (fun k => k = a) (⟨S.cs, true⟩, [byeL 2], []) (.returned (.tuple #[u1, u2])) w3) := hidden ⟨_, _, rfl, b1.mono HDI.out.k.size, b2.mono HDI.out.k.size, b3, (HDI.out.k.mono (fun k _ h => h.elim)).trans b4⟩
                clear b1 b2 b3 b4 HDI HR1
                go_wp2_with fail
                go_ret2
                exact HQ.out
              | some c =>
                dsimp only
                have hge : ¬ (4 : Int) ≤ (n : Int) := by omega
                have hlt4 : (n : Int) < 4 := by omega
                rw [show chO 93 c n bs tt.2.1 tt.2.2 = moreO c bs tt.2.1 tt.2.2 from rfl]
                have HON : Hid (∀ w', QX w' P a S → QR w' w.heap.size gb bs tt.2.1 tt.2.2 → Calls Tryz.prog 44 #[.pointer (some ⟨a, 0, none⟩), .int .i64 (n : Int), .int .i64 93, .pointer (some ⟨w.heap.size, 0, none⟩)] w' _) := hidden fun w' h1 h2 => on93_q w' h1 HOK.out hL hn4 hch h2 hal (fun hp => by have := HPL.out _ hp; omega)
                have hnw : IntKind.i64.wrap (n : Int) = (n : Int) := wrap_small _ (by omega) (by omega)
                go_enter Tryz.func18, Tryz.ntmps18
                go_wp2_with fail
                have HK0 : Hid (Keeps (fun _ => False) w (w.alloc (.cells #[.slice va bn vc, .int .i64 0, .bool false, .int .i64 0, .int .i64 0] 90))) := hidden ((Keeps.refl _ _).alloc _)
                refine (HBY.out _ HQR.out).mono ?_
                rintro e w1 ⟨rfl, t1⟩
                have HDI : Hid (DI w w1 P a S) := hidden ⟨HM.out.still (keeps_out t1.keeps), keeps_out t1.keeps⟩
                have HR1 := hidden t1.state
                clear t1 HBY HQR HK0 HM d0 df
                go_wp2_with fail
                refine (HU.out _ HR1.out).mono ?_
                rintro e w2 ⟨rfl, t2⟩
                have hk2 : Keeps (fun _ => False) w w2 := ⟨t2.keeps.os.trans HDI.out.k.os, t2.keeps.tape.trans HDI.out.k.tape, t2.keeps.output.trans HDI.out.k.output, Nat.le_trans HDI.out.k.size t2.keeps.size, fun k h1 h2 => (t2.keeps.block k (Nat.lt_of_lt_of_le h1 HDI.out.k.size) (by omega)).trans (HDI.out.k.block k h1 h2)⟩
                have HDI2 : Hid (DI w w2 P a S) := hidden ⟨HDI.out.m.read hal (fun hp => by have := HPL.out _ hp; omega) t2.keeps, hk2⟩
                have HR2 := hidden t2.state
                obtain ⟨q4, rf, r1, r2, r3, r4⟩ := t2.state.cell2
                clear t2 HU HR1 hk2 HDI r1
                have HDI := HDI2
                have HR1 := HR2
                clear HDI2 HR2
                have hrf := (r3 hy).1
                subst hrf
                clear r3 r4
                have k1 := HDI.out.m.openCell hS n hn4
                rw [show chAt S n = some c from hch] at k1
                simp only [Option.isSome] at k1
                go_wp2_with fail
                refine (HON.out _ HDI.out.m HR1.out).mono ?_
                rintro e w3 hq
                have HQ := hidden (hq.outer HDI.out.k)
                obtain ⟨u1, u2, rfl, _⟩ := hq
                clear HDI HR1 HON k1
                go_wp2_with fail
                go_ret2
                exact HQ.out
            · rw [chAt_out hS n hn4]
              dsimp only
              rw [Option.getD_none]
              have hge : (4 : Int) ≤ (n : Int) := by omega
              go_enter Tryz.func18, Tryz.ntmps18
              go_wp2_with fail
              have HK0 : Hid (Keeps (fun _ => False) w (w.alloc (.cells #[.slice va bn vc, .int .i64 0, .bool false, .int .i64 0, .int .i64 0] 90))) := hidden ((Keeps.refl _ _).alloc _)
              refine (HBY.out _ HQR.out).mono ?_
              rintro e w1 ⟨rfl, t1⟩
              have HDI : Hid (DI w w1 P a S) := hidden ⟨HM.out.still (keeps_out t1.keeps), keeps_out t1.keeps⟩
              have HR1 := hidden t1.state
              clear t1 HBY HQR HK0 HM d0 df
              go_wp2_with fail
              refine (HU.out _ HR1.out).mono ?_
              rintro e w2 ⟨rfl, t2⟩
              have hk2 : Keeps (fun _ => False) w w2 := ⟨t2.keeps.os.trans HDI.out.k.os, t2.keeps.tape.trans HDI.out.k.tape, t2.keeps.output.trans HDI.out.k.output, Nat.le_trans HDI.out.k.size t2.keeps.size, fun k h1 h2 => (t2.keeps.block k (Nat.lt_of_lt_of_le h1 HDI.out.k.size) (by omega)).trans (HDI.out.k.block k h1 h2)⟩
              have HDI2 : Hid (DI w w2 P a S) := hidden ⟨HDI.out.m.read hal (fun hp => by have := HPL.out _ hp; omega) t2.keeps, hk2⟩
              have HR2 := hidden t2.state
              obtain ⟨q4, rf, r1, r2, r3, r4⟩ := t2.state.cell2
              clear t2 HU HR1 hk2 HDI r1
              have HDI := HDI2
              have HR1 := HR2
              clear HDI2 HR2
              have hrf := (r3 hy).1
              subst hrf
              clear r3 r4
              go_wp2_with fail
              refine (bye_q _ HDI.out.m).mono ?_
              rintro e w3 ⟨u1, u2, rfl, b1, b2, b3, b4⟩
              have HQ : Hid (QDPost w P a (fun k => k = a) (⟨S.cs, true⟩, [byeL 2], []) (.returned (.tuple #[u1, u2])) w3) := hidden ⟨_, _, rfl, b1.mono HDI.out.k.size, b2.mono HDI.out.k.size, b3, (HDI.out.k.mono (fun k _ h => h.elim)).trans b4⟩
              clear b1 b2 b3 b4 HDI HR1
              go_wp2_with fail
              go_ret2
              exact HQ.out
          · have hno : (match chAt S n with | none => none | some c => putC S n (chO 93 c n bs tt.2.1 tt.2.2)) = none := by
              cases chAt S n with
              | none => rfl
              | some c => dsimp only; rw [chO_ref _ _ _ _ _ _ hy]; rfl
            rw [hno, Option.getD_none]
            clear hno
            go_enter Tryz.func18, Tryz.ntmps18
            go_wp2_with fail
            have HK0 : Hid (Keeps (fun _ => False) w (w.alloc (.cells #[.slice va bn vc, .int .i64 0, .bool false, .int .i64 0, .int .i64 0] 90))) := hidden ((Keeps.refl _ _).alloc _)
            refine (HBY.out _ HQR.out).mono ?_
            rintro e w1 ⟨rfl, t1⟩
            have HDI : Hid (DI w w1 P a S) := hidden ⟨HM.out.still (keeps_out t1.keeps), keeps_out t1.keeps⟩
            have HR1 := hidden t1.state
            clear t1 HBY HQR HK0 HM d0 df
            go_wp2_with fail
            refine (HU.out _ HR1.out).mono ?_
            rintro e w2 ⟨rfl, t2⟩
            have hk2 : Keeps (fun _ => False) w w2 := ⟨t2.keeps.os.trans HDI.out.k.os, t2.keeps.tape.trans HDI.out.k.tape, t2.keeps.output.trans HDI.out.k.output, Nat.le_trans HDI.out.k.size t2.keeps.size, fun k h1 h2 => (t2.keeps.block k (Nat.lt_of_lt_of_le h1 HDI.out.k.size) (by omega)).trans (HDI.out.k.block k h1 h2)⟩
            have HDI2 : Hid (DI w w2 P a S) := hidden ⟨HDI.out.m.read hal (fun hp => by have := HPL.out _ hp; omega) t2.keeps, hk2⟩
            have HR2 := hidden t2.state
            obtain ⟨q4, rf, r1, r2, r3, r4⟩ := t2.state.cell2
            clear t2 HU HR1 hk2 HDI r1
            have HDI := HDI2
            have HR1 := HR2
            clear HDI2 HR2
            have hrf := r4 hy
            subst hrf
            clear r3 r4
            go_wp2_with fail
            refine (bye_q _ HDI.out.m).mono ?_
            rintro e w3 ⟨u1, u2, rfl, b1, b2, b3, b4⟩
            have HQ : Hid (QDPost w P a (fun k => k = a) (⟨S.cs, true⟩, [byeL 2], []) (.returned (.tuple #[u1, u2])) w3) := hidden ⟨_, _, rfl, b1.mono HDI.out.k.size, b2.mono HDI.out.k.size, b3, (HDI.out.k.mono (fun k _ h => h.elim)).trans b4⟩
            clear b1 b2 b3 b4 HDI HR1
            go_wp2_with fail
            go_ret2
            exact HQ.out
        · rw [takeO_ch (by omega)]
          have HU : Hid (∀ w', QR w' w.heap.size gb bs 1 0 → Calls Tryz.prog 42 #[.pointer (some ⟨w.heap.size, 0, none⟩)] w' fun e w2 => QPost w.heap.size gb bs (tk bs 1 0 4) (.int .u32 (val (tk bs 1 0 4).1)) w' e w2) := hidden fun w' h' => qu32_c w' h'
          have hnv := val4_lt _ (tk_len bs 1 0 4)
          generalize tk bs 1 0 4 = tt at *
          generalize val tt.1 = n at *
          by_cases hy : tt.2.2 = 0
          · by_cases hn4 : n < 4
            · cases hch : chAt S n with
              | none =>
                dsimp only
                rw [Option.getD_none]
                have hge : ¬ (4 : Int) ≤ (n : Int) := by omega
                have hlt4 : (n : Int) < 4 := by omega
                go_enter Tryz.func18, Tryz.ntmps18
                go_wp2_with fail
                have HK0 : Hid (Keeps (fun _ => False) w (w.alloc (.cells #[.slice va bn vc, .int .i64 0, .bool false, .int .i64 0, .int .i64 0] 90))) := hidden ((Keeps.refl _ _).alloc _)
                refine (HBY.out _ HQR.out).mono ?_
                rintro e w1 ⟨rfl, t1⟩
                have HDI : Hid (DI w w1 P a S) := hidden ⟨HM.out.still (keeps_out t1.keeps), keeps_out t1.keeps⟩
                have HR1 := hidden t1.state
                clear t1 HBY HQR HK0 HM d0 df
                go_wp2_with fail
                refine (HU.out _ HR1.out).mono ?_
                rintro e w2 ⟨rfl, t2⟩
                have hk2 : Keeps (fun _ => False) w w2 := ⟨t2.keeps.os.trans HDI.out.k.os, t2.keeps.tape.trans HDI.out.k.tape, t2.keeps.output.trans HDI.out.k.output, Nat.le_trans HDI.out.k.size t2.keeps.size, fun k h1 h2 => (t2.keeps.block k (Nat.lt_of_lt_of_le h1 HDI.out.k.size) (by omega)).trans (HDI.out.k.block k h1 h2)⟩
                have HDI2 : Hid (DI w w2 P a S) := hidden ⟨HDI.out.m.read hal (fun hp => by have := HPL.out _ hp; omega) t2.keeps, hk2⟩
                have HR2 := hidden t2.state
                obtain ⟨q4, rf, r1, r2, r3, r4⟩ := t2.state.cell2
                clear t2 HU HR1 hk2 HDI r1
                have HDI := HDI2
                have HR1 := HR2
                clear HDI2 HR2
                have hrf := (r3 hy).1
                subst hrf
                clear r3 r4
                have k1 := HDI.out.m.openCell hS n hn4
                rw [hch] at k1
                simp only [Option.isSome] at k1
                go_wp2_with fail
                refine (bye_q _ HDI.out.m).mono ?_
                rintro e w3 ⟨u1, u2, rfl, b1, b2, b3, b4⟩
                have HQ : Hid (QDPost w P a (fun k => k = a) (⟨S.cs, true⟩, [byeL 2], []) (.returned (.tuple #[u1, u2])) w3) := hidden ⟨_, _, rfl, b1.mono HDI.out.k.size, b2.mono HDI.out.k.size, b3, (HDI.out.k.mono (fun k _ h => h.elim)).trans b4⟩
                clear b1 b2 b3 b4 HDI HR1
                go_wp2_with fail
                go_ret2
                exact HQ.out
              | some c =>
                dsimp only
                have hge : ¬ (4 : Int) ≤ (n : Int) := by omega
                have hlt4 : (n : Int) < 4 := by omega
                rw [show chO 94 c n bs tt.2.1 tt.2.2 = dataO c n bs tt.2.1 tt.2.2 from rfl]
                have HON : Hid (∀ w', QX w' P a S → QR w' w.heap.size gb bs tt.2.1 tt.2.2 → Calls Tryz.prog 44 #[.pointer (some ⟨a, 0, none⟩), .int .i64 (n : Int), .int .i64 94, .pointer (some ⟨w.heap.size, 0, none⟩)] w' _) := hidden fun w' h1 h2 => on94_q w' h1 HOK.out hL hn4 hch h2 hal (fun hp => by have := HPL.out _ hp; omega)
                have hnw : IntKind.i64.wrap (n : Int) = (n : Int) := wrap_small _ (by omega) (by omega)
                go_enter Tryz.func18, Tryz.ntmps18
                go_wp2_with fail
                have HK0 : Hid (Keeps (fun _ => False) w (w.alloc (.cells #[.slice va bn vc, .int .i64 0, .bool false, .int .i64 0, .int .i64 0] 90))) := hidden ((Keeps.refl _ _).alloc _)
                refine (HBY.out _ HQR.out).mono ?_
                rintro e w1 ⟨rfl, t1⟩
                have HDI : Hid (DI w w1 P a S) := hidden ⟨HM.out.still (keeps_out t1.keeps), keeps_out t1.keeps⟩
                have HR1 := hidden t1.state
                clear t1 HBY HQR HK0 HM d0 df
                go_wp2_with fail
                refine (HU.out _ HR1.out).mono ?_
                rintro e w2 ⟨rfl, t2⟩
                have hk2 : Keeps (fun _ => False) w w2 := ⟨t2.keeps.os.trans HDI.out.k.os, t2.keeps.tape.trans HDI.out.k.tape, t2.keeps.output.trans HDI.out.k.output, Nat.le_trans HDI.out.k.size t2.keeps.size, fun k h1 h2 => (t2.keeps.block k (Nat.lt_of_lt_of_le h1 HDI.out.k.size) (by omega)).trans (HDI.out.k.block k h1 h2)⟩
                have HDI2 : Hid (DI w w2 P a S) := hidden ⟨HDI.out.m.read hal (fun hp => by have := HPL.out _ hp; omega) t2.keeps, hk2⟩
                have HR2 := hidden t2.state
                obtain ⟨q4, rf, r1, r2, r3, r4⟩ := t2.state.cell2
                clear t2 HU HR1 hk2 HDI r1
                have HDI := HDI2
                have HR1 := HR2
                clear HDI2 HR2
                have hrf := (r3 hy).1
                subst hrf
                clear r3 r4
                have k1 := HDI.out.m.openCell hS n hn4
                rw [show chAt S n = some c from hch] at k1
                simp only [Option.isSome] at k1
                go_wp2_with fail
                refine (HON.out _ HDI.out.m HR1.out).mono ?_
                rintro e w3 hq
                have HQ := hidden (hq.outer HDI.out.k)
                obtain ⟨u1, u2, rfl, _⟩ := hq
                clear HDI HR1 HON k1
                go_wp2_with fail
                go_ret2
                exact HQ.out
            · rw [chAt_out hS n hn4]
              dsimp only
              rw [Option.getD_none]
              have hge : (4 : Int) ≤ (n : Int) := by omega
              go_enter Tryz.func18, Tryz.ntmps18
              go_wp2_with fail
              have HK0 : Hid (Keeps (fun _ => False) w (w.alloc (.cells #[.slice va bn vc, .int .i64 0, .bool false, .int .i64 0, .int .i64 0] 90))) := hidden ((Keeps.refl _ _).alloc _)
              refine (HBY.out _ HQR.out).mono ?_
              rintro e w1 ⟨rfl, t1⟩
              have HDI : Hid (DI w w1 P a S) := hidden ⟨HM.out.still (keeps_out t1.keeps), keeps_out t1.keeps⟩
              have HR1 := hidden t1.state
              clear t1 HBY HQR HK0 HM d0 df
              go_wp2_with fail
              refine (HU.out _ HR1.out).mono ?_
              rintro e w2 ⟨rfl, t2⟩
              have hk2 : Keeps (fun _ => False) w w2 := ⟨t2.keeps.os.trans HDI.out.k.os, t2.keeps.tape.trans HDI.out.k.tape, t2.keeps.output.trans HDI.out.k.output, Nat.le_trans HDI.out.k.size t2.keeps.size, fun k h1 h2 => (t2.keeps.block k (Nat.lt_of_lt_of_le h1 HDI.out.k.size) (by omega)).trans (HDI.out.k.block k h1 h2)⟩
              have HDI2 : Hid (DI w w2 P a S) := hidden ⟨HDI.out.m.read hal (fun hp => by have := HPL.out _ hp; omega) t2.keeps, hk2⟩
              have HR2 := hidden t2.state
              obtain ⟨q4, rf, r1, r2, r3, r4⟩ := t2.state.cell2
              clear t2 HU HR1 hk2 HDI r1
              have HDI := HDI2
              have HR1 := HR2
              clear HDI2 HR2
              have hrf := (r3 hy).1
              subst hrf
              clear r3 r4
              go_wp2_with fail
              refine (bye_q _ HDI.out.m).mono ?_
              rintro e w3 ⟨u1, u2, rfl, b1, b2, b3, b4⟩
              have HQ : Hid (QDPost w P a (fun k => k = a) (⟨S.cs, true⟩, [byeL 2], []) (.returned (.tuple #[u1, u2])) w3) := hidden ⟨_, _, rfl, b1.mono HDI.out.k.size, b2.mono HDI.out.k.size, b3, (HDI.out.k.mono (fun k _ h => h.elim)).trans b4⟩
              clear b1 b2 b3 b4 HDI HR1
              go_wp2_with fail
              go_ret2
              exact HQ.out
          · have hno : (match chAt S n with | none => none | some c => putC S n (chO 94 c n bs tt.2.1 tt.2.2)) = none := by
              cases chAt S n with
              | none => rfl
              | some c => dsimp only; rw [chO_ref _ _ _ _ _ _ hy]; rfl
            rw [hno, Option.getD_none]
            clear hno
            go_enter Tryz.func18, Tryz.ntmps18
            go_wp2_with fail
            have HK0 : Hid (Keeps (fun _ => False) w (w.alloc (.cells #[.slice va bn vc, .int .i64 0, .bool false, .int .i64 0, .int .i64 0] 90))) := hidden ((Keeps.refl _ _).alloc _)
            refine (HBY.out _ HQR.out).mono ?_
            rintro e w1 ⟨rfl, t1⟩
            have HDI : Hid (DI w w1 P a S) := hidden ⟨HM.out.still (keeps_out t1.keeps), keeps_out t1.keeps⟩
            have HR1 := hidden t1.state
            clear t1 HBY HQR HK0 HM d0 df
            go_wp2_with fail
            refine (HU.out _ HR1.out).mono ?_
            rintro e w2 ⟨rfl, t2⟩
            have hk2 : Keeps (fun _ => False) w w2 := ⟨t2.keeps.os.trans HDI.out.k.os, t2.keeps.tape.trans HDI.out.k.tape, t2.keeps.output.trans HDI.out.k.output, Nat.le_trans HDI.out.k.size t2.keeps.size, fun k h1 h2 => (t2.keeps.block k (Nat.lt_of_lt_of_le h1 HDI.out.k.size) (by omega)).trans (HDI.out.k.block k h1 h2)⟩
            have HDI2 : Hid (DI w w2 P a S) := hidden ⟨HDI.out.m.read hal (fun hp => by have := HPL.out _ hp; omega) t2.keeps, hk2⟩
            have HR2 := hidden t2.state
            obtain ⟨q4, rf, r1, r2, r3, r4⟩ := t2.state.cell2
            clear t2 HU HR1 hk2 HDI r1
            have HDI := HDI2
            have HR1 := HR2
            clear HDI2 HR2
            have hrf := r4 hy
            subst hrf
            clear r3 r4
            go_wp2_with fail
            refine (bye_q _ HDI.out.m).mono ?_
            rintro e w3 ⟨u1, u2, rfl, b1, b2, b3, b4⟩
            have HQ : Hid (QDPost w P a (fun k => k = a) (⟨S.cs, true⟩, [byeL 2], []) (.returned (.tuple #[u1, u2])) w3) := hidden ⟨_, _, rfl, b1.mono HDI.out.k.size, b2.mono HDI.out.k.size, b3, (HDI.out.k.mono (fun k _ h => h.elim)).trans b4⟩
            clear b1 b2 b3 b4 HDI HR1
            go_wp2_with fail
            go_ret2
            exact HQ.out
        · rw [takeO_ch (by omega)]
          have HU : Hid (∀ w', QR w' w.heap.size gb bs 1 0 → Calls Tryz.prog 42 #[.pointer (some ⟨w.heap.size, 0, none⟩)] w' fun e w2 => QPost w.heap.size gb bs (tk bs 1 0 4) (.int .u32 (val (tk bs 1 0 4).1)) w' e w2) := hidden fun w' h' => qu32_c w' h'
          have hnv := val4_lt _ (tk_len bs 1 0 4)
          generalize tk bs 1 0 4 = tt at *
          generalize val tt.1 = n at *
          by_cases hy : tt.2.2 = 0
          · by_cases hn4 : n < 4
            · cases hch : chAt S n with
              | none =>
                dsimp only
                rw [Option.getD_none]
                have hge : ¬ (4 : Int) ≤ (n : Int) := by omega
                have hlt4 : (n : Int) < 4 := by omega
                go_enter Tryz.func18, Tryz.ntmps18
                go_wp2_with fail
                have HK0 : Hid (Keeps (fun _ => False) w (w.alloc (.cells #[.slice va bn vc, .int .i64 0, .bool false, .int .i64 0, .int .i64 0] 90))) := hidden ((Keeps.refl _ _).alloc _)
                refine (HBY.out _ HQR.out).mono ?_
                rintro e w1 ⟨rfl, t1⟩
                have HDI : Hid (DI w w1 P a S) := hidden ⟨HM.out.still (keeps_out t1.keeps), keeps_out t1.keeps⟩
                have HR1 := hidden t1.state
                clear t1 HBY HQR HK0 HM d0 df
                go_wp2_with fail
                refine (HU.out _ HR1.out).mono ?_
                rintro e w2 ⟨rfl, t2⟩
                have hk2 : Keeps (fun _ => False) w w2 := ⟨t2.keeps.os.trans HDI.out.k.os, t2.keeps.tape.trans HDI.out.k.tape, t2.keeps.output.trans HDI.out.k.output, Nat.le_trans HDI.out.k.size t2.keeps.size, fun k h1 h2 => (t2.keeps.block k (Nat.lt_of_lt_of_le h1 HDI.out.k.size) (by omega)).trans (HDI.out.k.block k h1 h2)⟩
                have HDI2 : Hid (DI w w2 P a S) := hidden ⟨HDI.out.m.read hal (fun hp => by have := HPL.out _ hp; omega) t2.keeps, hk2⟩
                have HR2 := hidden t2.state
                obtain ⟨q4, rf, r1, r2, r3, r4⟩ := t2.state.cell2
                clear t2 HU HR1 hk2 HDI r1
                have HDI := HDI2
                have HR1 := HR2
                clear HDI2 HR2
                have hrf := (r3 hy).1
                subst hrf
                clear r3 r4
                have k1 := HDI.out.m.openCell hS n hn4
                rw [hch] at k1
                simp only [Option.isSome] at k1
                go_wp2_with fail
                refine (bye_q _ HDI.out.m).mono ?_
                rintro e w3 ⟨u1, u2, rfl, b1, b2, b3, b4⟩
                have HQ : Hid (QDPost w P a (fun k => k = a) (⟨S.cs, true⟩, [byeL 2], []) (.returned (.tuple #[u1, u2])) w3) := hidden ⟨_, _, rfl, b1.mono HDI.out.k.size, b2.mono HDI.out.k.size, b3, (HDI.out.k.mono (fun k _ h => h.elim)).trans b4⟩
                clear b1 b2 b3 b4 HDI HR1
                go_wp2_with fail
                go_ret2
                exact HQ.out
              | some c =>
                dsimp only
                have hge : ¬ (4 : Int) ≤ (n : Int) := by omega
                have hlt4 : (n : Int) < 4 := by omega
                rw [show chO 96 c n bs tt.2.1 tt.2.2 = finO c n bs tt.2.1 tt.2.2 from rfl]
                have HON : Hid (∀ w', QX w' P a S → QR w' w.heap.size gb bs tt.2.1 tt.2.2 → Calls Tryz.prog 44 #[.pointer (some ⟨a, 0, none⟩), .int .i64 (n : Int), .int .i64 96, .pointer (some ⟨w.heap.size, 0, none⟩)] w' _) := hidden fun w' h1 h2 => on96_q w' h1 HOK.out hL hn4 hch h2 hal (fun hp => by have := HPL.out _ hp; omega)
                have hnw : IntKind.i64.wrap (n : Int) = (n : Int) := wrap_small _ (by omega) (by omega)
                go_enter Tryz.func18, Tryz.ntmps18
                go_wp2_with fail
                have HK0 : Hid (Keeps (fun _ => False) w (w.alloc (.cells #[.slice va bn vc, .int .i64 0, .bool false, .int .i64 0, .int .i64 0] 90))) := hidden ((Keeps.refl _ _).alloc _)
                refine (HBY.out _ HQR.out).mono ?_
                rintro e w1 ⟨rfl, t1⟩
                have HDI : Hid (DI w w1 P a S) := hidden ⟨HM.out.still (keeps_out t1.keeps), keeps_out t1.keeps⟩
                have HR1 := hidden t1.state
                clear t1 HBY HQR HK0 HM d0 df
                go_wp2_with fail
                refine (HU.out _ HR1.out).mono ?_
                rintro e w2 ⟨rfl, t2⟩
                have hk2 : Keeps (fun _ => False) w w2 := ⟨t2.keeps.os.trans HDI.out.k.os, t2.keeps.tape.trans HDI.out.k.tape, t2.keeps.output.trans HDI.out.k.output, Nat.le_trans HDI.out.k.size t2.keeps.size, fun k h1 h2 => (t2.keeps.block k (Nat.lt_of_lt_of_le h1 HDI.out.k.size) (by omega)).trans (HDI.out.k.block k h1 h2)⟩
                have HDI2 : Hid (DI w w2 P a S) := hidden ⟨HDI.out.m.read hal (fun hp => by have := HPL.out _ hp; omega) t2.keeps, hk2⟩
                have HR2 := hidden t2.state
                obtain ⟨q4, rf, r1, r2, r3, r4⟩ := t2.state.cell2
                clear t2 HU HR1 hk2 HDI r1
                have HDI := HDI2
                have HR1 := HR2
                clear HDI2 HR2
                have hrf := (r3 hy).1
                subst hrf
                clear r3 r4
                have k1 := HDI.out.m.openCell hS n hn4
                rw [show chAt S n = some c from hch] at k1
                simp only [Option.isSome] at k1
                go_wp2_with fail
                refine (HON.out _ HDI.out.m HR1.out).mono ?_
                rintro e w3 hq
                have HQ := hidden (hq.outer HDI.out.k)
                obtain ⟨u1, u2, rfl, _⟩ := hq
                clear HDI HR1 HON k1
                go_wp2_with fail
                go_ret2
                exact HQ.out
            · rw [chAt_out hS n hn4]
              dsimp only
              rw [Option.getD_none]
              have hge : (4 : Int) ≤ (n : Int) := by omega
              go_enter Tryz.func18, Tryz.ntmps18
              go_wp2_with fail
              have HK0 : Hid (Keeps (fun _ => False) w (w.alloc (.cells #[.slice va bn vc, .int .i64 0, .bool false, .int .i64 0, .int .i64 0] 90))) := hidden ((Keeps.refl _ _).alloc _)
              refine (HBY.out _ HQR.out).mono ?_
              rintro e w1 ⟨rfl, t1⟩
              have HDI : Hid (DI w w1 P a S) := hidden ⟨HM.out.still (keeps_out t1.keeps), keeps_out t1.keeps⟩
              have HR1 := hidden t1.state
              clear t1 HBY HQR HK0 HM d0 df
              go_wp2_with fail
              refine (HU.out _ HR1.out).mono ?_
              rintro e w2 ⟨rfl, t2⟩
              have hk2 : Keeps (fun _ => False) w w2 := ⟨t2.keeps.os.trans HDI.out.k.os, t2.keeps.tape.trans HDI.out.k.tape, t2.keeps.output.trans HDI.out.k.output, Nat.le_trans HDI.out.k.size t2.keeps.size, fun k h1 h2 => (t2.keeps.block k (Nat.lt_of_lt_of_le h1 HDI.out.k.size) (by omega)).trans (HDI.out.k.block k h1 h2)⟩
              have HDI2 : Hid (DI w w2 P a S) := hidden ⟨HDI.out.m.read hal (fun hp => by have := HPL.out _ hp; omega) t2.keeps, hk2⟩
              have HR2 := hidden t2.state
              obtain ⟨q4, rf, r1, r2, r3, r4⟩ := t2.state.cell2
              clear t2 HU HR1 hk2 HDI r1
              have HDI := HDI2
              have HR1 := HR2
              clear HDI2 HR2
              have hrf := (r3 hy).1
              subst hrf
              clear r3 r4
              go_wp2_with fail
              refine (bye_q _ HDI.out.m).mono ?_
              rintro e w3 ⟨u1, u2, rfl, b1, b2, b3, b4⟩
              have HQ : Hid (QDPost w P a (fun k => k = a) (⟨S.cs, true⟩, [byeL 2], []) (.returned (.tuple #[u1, u2])) w3) := hidden ⟨_, _, rfl, b1.mono HDI.out.k.size, b2.mono HDI.out.k.size, b3, (HDI.out.k.mono (fun k _ h => h.elim)).trans b4⟩
              clear b1 b2 b3 b4 HDI HR1
              go_wp2_with fail
              go_ret2
              exact HQ.out
          · have hno : (match chAt S n with | none => none | some c => putC S n (chO 96 c n bs tt.2.1 tt.2.2)) = none := by
              cases chAt S n with
              | none => rfl
              | some c => dsimp only; rw [chO_ref _ _ _ _ _ _ hy]; rfl
            rw [hno, Option.getD_none]
            clear hno
            go_enter Tryz.func18, Tryz.ntmps18
            go_wp2_with fail
            have HK0 : Hid (Keeps (fun _ => False) w (w.alloc (.cells #[.slice va bn vc, .int .i64 0, .bool false, .int .i64 0, .int .i64 0] 90))) := hidden ((Keeps.refl _ _).alloc _)
            refine (HBY.out _ HQR.out).mono ?_
            rintro e w1 ⟨rfl, t1⟩
            have HDI : Hid (DI w w1 P a S) := hidden ⟨HM.out.still (keeps_out t1.keeps), keeps_out t1.keeps⟩
            have HR1 := hidden t1.state
            clear t1 HBY HQR HK0 HM d0 df
            go_wp2_with fail
            refine (HU.out _ HR1.out).mono ?_
            rintro e w2 ⟨rfl, t2⟩
            have hk2 : Keeps (fun _ => False) w w2 := ⟨t2.keeps.os.trans HDI.out.k.os, t2.keeps.tape.trans HDI.out.k.tape, t2.keeps.output.trans HDI.out.k.output, Nat.le_trans HDI.out.k.size t2.keeps.size, fun k h1 h2 => (t2.keeps.block k (Nat.lt_of_lt_of_le h1 HDI.out.k.size) (by omega)).trans (HDI.out.k.block k h1 h2)⟩
            have HDI2 : Hid (DI w w2 P a S) := hidden ⟨HDI.out.m.read hal (fun hp => by have := HPL.out _ hp; omega) t2.keeps, hk2⟩
            have HR2 := hidden t2.state
            obtain ⟨q4, rf, r1, r2, r3, r4⟩ := t2.state.cell2
            clear t2 HU HR1 hk2 HDI r1
            have HDI := HDI2
            have HR1 := HR2
            clear HDI2 HR2
            have hrf := r4 hy
            subst hrf
            clear r3 r4
            go_wp2_with fail
            refine (bye_q _ HDI.out.m).mono ?_
            rintro e w3 ⟨u1, u2, rfl, b1, b2, b3, b4⟩
            have HQ : Hid (QDPost w P a (fun k => k = a) (⟨S.cs, true⟩, [byeL 2], []) (.returned (.tuple #[u1, u2])) w3) := hidden ⟨_, _, rfl, b1.mono HDI.out.k.size, b2.mono HDI.out.k.size, b3, (HDI.out.k.mono (fun k _ h => h.elim)).trans b4⟩
            clear b1 b2 b3 b4 HDI HR1
            go_wp2_with fail
            go_ret2
            exact HQ.out
        · rw [takeO_ch (by omega)]
          have HU : Hid (∀ w', QR w' w.heap.size gb bs 1 0 → Calls Tryz.prog 42 #[.pointer (some ⟨w.heap.size, 0, none⟩)] w' fun e w2 => QPost w.heap.size gb bs (tk bs 1 0 4) (.int .u32 (val (tk bs 1 0 4).1)) w' e w2) := hidden fun w' h' => qu32_c w' h'
          have hnv := val4_lt _ (tk_len bs 1 0 4)
          generalize tk bs 1 0 4 = tt at *
          generalize val tt.1 = n at *
          by_cases hy : tt.2.2 = 0
          · by_cases hn4 : n < 4
            · cases hch : chAt S n with
              | none =>
                dsimp only
                rw [Option.getD_none]
                have hge : ¬ (4 : Int) ≤ (n : Int) := by omega
                have hlt4 : (n : Int) < 4 := by omega
                go_enter Tryz.func18, Tryz.ntmps18
                go_wp2_with fail
                have HK0 : Hid (Keeps (fun _ => False) w (w.alloc (.cells #[.slice va bn vc, .int .i64 0, .bool false, .int .i64 0, .int .i64 0] 90))) := hidden ((Keeps.refl _ _).alloc _)
                refine (HBY.out _ HQR.out).mono ?_
                rintro e w1 ⟨rfl, t1⟩
                have HDI : Hid (DI w w1 P a S) := hidden ⟨HM.out.still (keeps_out t1.keeps), keeps_out t1.keeps⟩
                have HR1 := hidden t1.state
                clear t1 HBY HQR HK0 HM d0 df
                go_wp2_with fail
                refine (HU.out _ HR1.out).mono ?_
                rintro e w2 ⟨rfl, t2⟩
                have hk2 : Keeps (fun _ => False) w w2 := ⟨t2.keeps.os.trans HDI.out.k.os, t2.keeps.tape.trans HDI.out.k.tape, t2.keeps.output.trans HDI.out.k.output, Nat.le_trans HDI.out.k.size t2.keeps.size, fun k h1 h2 => (t2.keeps.block k (Nat.lt_of_lt_of_le h1 HDI.out.k.size) (by omega)).trans (HDI.out.k.block k h1 h2)⟩
                have HDI2 : Hid (DI w w2 P a S) := hidden ⟨HDI.out.m.read hal (fun hp => by have := HPL.out _ hp; omega) t2.keeps, hk2⟩
                have HR2 := hidden t2.state
                obtain ⟨q4, rf, r1, r2, r3, r4⟩ := t2.state.cell2
                clear t2 HU HR1 hk2 HDI r1
                have HDI := HDI2
                have HR1 := HR2
                clear HDI2 HR2
                have hrf := (r3 hy).1
                subst hrf
                clear r3 r4
                have k1 := HDI.out.m.openCell hS n hn4
                rw [hch] at k1
                simp only [Option.isSome] at k1
                go_wp2_with fail
                refine (bye_q _ HDI.out.m).mono ?_
                rintro e w3 ⟨u1, u2, rfl, b1, b2, b3, b4⟩
                have HQ : Hid (QDPost w P a (fun k => k = a) (⟨S.cs, true⟩, [byeL 2], []) (.returned (.tuple #[u1, u2])) w3) := hidden ⟨_, _, rfl, b1.mono HDI.out.k.size, b2.mono HDI.out.k.size, b3, (HDI.out.k.mono (fun k _ h => h.elim)).trans b4⟩
                clear b1 b2 b3 b4 HDI HR1
                go_wp2_with fail
                go_ret2
                exact HQ.out
              | some c =>
                dsimp only
                have hge : ¬ (4 : Int) ≤ (n : Int) := by omega
                have hlt4 : (n : Int) < 4 := by omega
                rw [show chO 97 c n bs tt.2.1 tt.2.2 = goneO c n bs tt.2.1 tt.2.2 from rfl]
                have HON : Hid (∀ w', QX w' P a S → QR w' w.heap.size gb bs tt.2.1 tt.2.2 → Calls Tryz.prog 44 #[.pointer (some ⟨a, 0, none⟩), .int .i64 (n : Int), .int .i64 97, .pointer (some ⟨w.heap.size, 0, none⟩)] w' _) := hidden fun w' h1 h2 => on97_q w' h1 HOK.out hL hn4 hch h2 hal (fun hp => by have := HPL.out _ hp; omega)
                have hnw : IntKind.i64.wrap (n : Int) = (n : Int) := wrap_small _ (by omega) (by omega)
                go_enter Tryz.func18, Tryz.ntmps18
                go_wp2_with fail
                have HK0 : Hid (Keeps (fun _ => False) w (w.alloc (.cells #[.slice va bn vc, .int .i64 0, .bool false, .int .i64 0, .int .i64 0] 90))) := hidden ((Keeps.refl _ _).alloc _)
                refine (HBY.out _ HQR.out).mono ?_
                rintro e w1 ⟨rfl, t1⟩
                have HDI : Hid (DI w w1 P a S) := hidden ⟨HM.out.still (keeps_out t1.keeps), keeps_out t1.keeps⟩
                have HR1 := hidden t1.state
                clear t1 HBY HQR HK0 HM d0 df
                go_wp2_with fail
                refine (HU.out _ HR1.out).mono ?_
                rintro e w2 ⟨rfl, t2⟩
                have hk2 : Keeps (fun _ => False) w w2 := ⟨t2.keeps.os.trans HDI.out.k.os, t2.keeps.tape.trans HDI.out.k.tape, t2.keeps.output.trans HDI.out.k.output, Nat.le_trans HDI.out.k.size t2.keeps.size, fun k h1 h2 => (t2.keeps.block k (Nat.lt_of_lt_of_le h1 HDI.out.k.size) (by omega)).trans (HDI.out.k.block k h1 h2)⟩
                have HDI2 : Hid (DI w w2 P a S) := hidden ⟨HDI.out.m.read hal (fun hp => by have := HPL.out _ hp; omega) t2.keeps, hk2⟩
                have HR2 := hidden t2.state
                obtain ⟨q4, rf, r1, r2, r3, r4⟩ := t2.state.cell2
                clear t2 HU HR1 hk2 HDI r1
                have HDI := HDI2
                have HR1 := HR2
                clear HDI2 HR2
                have hrf := (r3 hy).1
                subst hrf
                clear r3 r4
                have k1 := HDI.out.m.openCell hS n hn4
                rw [show chAt S n = some c from hch] at k1
                simp only [Option.isSome] at k1
                go_wp2_with fail
                refine (HON.out _ HDI.out.m HR1.out).mono ?_
                rintro e w3 hq
                have HQ := hidden (hq.outer HDI.out.k)
                obtain ⟨u1, u2, rfl, _⟩ := hq
                clear HDI HR1 HON k1
                go_wp2_with fail
                go_ret2
                exact HQ.out
            · rw [chAt_out hS n hn4]
              dsimp only
              rw [Option.getD_none]
              have hge : (4 : Int) ≤ (n : Int) := by omega
              go_enter Tryz.func18, Tryz.ntmps18
              go_wp2_with fail
              have HK0 : Hid (Keeps (fun _ => False) w (w.alloc (.cells #[.slice va bn vc, .int .i64 0, .bool false, .int .i64 0, .int .i64 0] 90))) := hidden ((Keeps.refl _ _).alloc _)
              refine (HBY.out _ HQR.out).mono ?_
              rintro e w1 ⟨rfl, t1⟩
              have HDI : Hid (DI w w1 P a S) := hidden ⟨HM.out.still (keeps_out t1.keeps), keeps_out t1.keeps⟩
              have HR1 := hidden t1.state
              clear t1 HBY HQR HK0 HM d0 df
              go_wp2_with fail
              refine (HU.out _ HR1.out).mono ?_
              rintro e w2 ⟨rfl, t2⟩
              have hk2 : Keeps (fun _ => False) w w2 := ⟨t2.keeps.os.trans HDI.out.k.os, t2.keeps.tape.trans HDI.out.k.tape, t2.keeps.output.trans HDI.out.k.output, Nat.le_trans HDI.out.k.size t2.keeps.size, fun k h1 h2 => (t2.keeps.block k (Nat.lt_of_lt_of_le h1 HDI.out.k.size) (by omega)).trans (HDI.out.k.block k h1 h2)⟩
              have HDI2 : Hid (DI w w2 P a S) := hidden ⟨HDI.out.m.read hal (fun hp => by have := HPL.out _ hp; omega) t2.keeps, hk2⟩
              have HR2 := hidden t2.state
              obtain ⟨q4, rf, r1, r2, r3, r4⟩ := t2.state.cell2
              clear t2 HU HR1 hk2 HDI r1
              have HDI := HDI2
              have HR1 := HR2
              clear HDI2 HR2
              have hrf := (r3 hy).1
              subst hrf
              clear r3 r4
              go_wp2_with fail
              refine (bye_q _ HDI.out.m).mono ?_
              rintro e w3 ⟨u1, u2, rfl, b1, b2, b3, b4⟩
              have HQ : Hid (QDPost w P a (fun k => k = a) (⟨S.cs, true⟩, [byeL 2], []) (.returned (.tuple #[u1, u2])) w3) := hidden ⟨_, _, rfl, b1.mono HDI.out.k.size, b2.mono HDI.out.k.size, b3, (HDI.out.k.mono (fun k _ h => h.elim)).trans b4⟩
              clear b1 b2 b3 b4 HDI HR1
              go_wp2_with fail
              go_ret2
              exact HQ.out
          · have hno : (match chAt S n with | none => none | some c => putC S n (chO 97 c n bs tt.2.1 tt.2.2)) = none := by
              cases chAt S n with
              | none => rfl
              | some c => dsimp only; rw [chO_ref _ _ _ _ _ _ hy]; rfl
            rw [hno, Option.getD_none]
            clear hno
            go_enter Tryz.func18, Tryz.ntmps18
            go_wp2_with fail
            have HK0 : Hid (Keeps (fun _ => False) w (w.alloc (.cells #[.slice va bn vc, .int .i64 0, .bool false, .int .i64 0, .int .i64 0] 90))) := hidden ((Keeps.refl _ _).alloc _)
            refine (HBY.out _ HQR.out).mono ?_
            rintro e w1 ⟨rfl, t1⟩
            have HDI : Hid (DI w w1 P a S) := hidden ⟨HM.out.still (keeps_out t1.keeps), keeps_out t1.keeps⟩
            have HR1 := hidden t1.state
            clear t1 HBY HQR HK0 HM d0 df
            go_wp2_with fail
            refine (HU.out _ HR1.out).mono ?_
            rintro e w2 ⟨rfl, t2⟩
            have hk2 : Keeps (fun _ => False) w w2 := ⟨t2.keeps.os.trans HDI.out.k.os, t2.keeps.tape.trans HDI.out.k.tape, t2.keeps.output.trans HDI.out.k.output, Nat.le_trans HDI.out.k.size t2.keeps.size, fun k h1 h2 => (t2.keeps.block k (Nat.lt_of_lt_of_le h1 HDI.out.k.size) (by omega)).trans (HDI.out.k.block k h1 h2)⟩
            have HDI2 : Hid (DI w w2 P a S) := hidden ⟨HDI.out.m.read hal (fun hp => by have := HPL.out _ hp; omega) t2.keeps, hk2⟩
            have HR2 := hidden t2.state
            obtain ⟨q4, rf, r1, r2, r3, r4⟩ := t2.state.cell2
            clear t2 HU HR1 hk2 HDI r1
            have HDI := HDI2
            have HR1 := HR2
            clear HDI2 HR2
            have hrf := r4 hy
            subst hrf
            clear r3 r4
            go_wp2_with fail
            refine (bye_q _ HDI.out.m).mono ?_
            rintro e w3 ⟨u1, u2, rfl, b1, b2, b3, b4⟩
            have HQ : Hid (QDPost w P a (fun k => k = a) (⟨S.cs, true⟩, [byeL 2], []) (.returned (.tuple #[u1, u2])) w3) := hidden ⟨_, _, rfl, b1.mono HDI.out.k.size, b2.mono HDI.out.k.size, b3, (HDI.out.k.mono (fun k _ h => h.elim)).trans b4⟩
            clear b1 b2 b3 b4 HDI HR1
            go_wp2_with fail
            go_ret2
            exact HQ.out
        · rw [takeO_ch (by omega)]
          have HU : Hid (∀ w', QR w' w.heap.size gb bs 1 0 → Calls Tryz.prog 42 #[.pointer (some ⟨w.heap.size, 0, none⟩)] w' fun e w2 => QPost w.heap.size gb bs (tk bs 1 0 4) (.int .u32 (val (tk bs 1 0 4).1)) w' e w2) := hidden fun w' h' => qu32_c w' h'
          have hnv := val4_lt _ (tk_len bs 1 0 4)
          generalize tk bs 1 0 4 = tt at *
          generalize val tt.1 = n at *
          by_cases hy : tt.2.2 = 0
          · by_cases hn4 : n < 4
            · cases hch : chAt S n with
              | none =>
                dsimp only
                rw [Option.getD_none]
                have hge : ¬ (4 : Int) ≤ (n : Int) := by omega
                have hlt4 : (n : Int) < 4 := by omega
                go_enter Tryz.func18, Tryz.ntmps18
                go_wp2_with fail
                have HK0 : Hid (Keeps (fun _ => False) w (w.alloc (.cells #[.slice va bn vc, .int .i64 0, .bool false, .int .i64 0, .int .i64 0] 90))) := hidden ((Keeps.refl _ _).alloc _)
                refine (HBY.out _ HQR.out).mono ?_
                rintro e w1 ⟨rfl, t1⟩
                have HDI : Hid (DI w w1 P a S) := hidden ⟨HM.out.still (keeps_out t1.keeps), keeps_out t1.keeps⟩
                have HR1 := hidden t1.state
                clear t1 HBY HQR HK0 HM d0 df
                go_wp2_with fail
                refine (HU.out _ HR1.out).mono ?_
                rintro e w2 ⟨rfl, t2⟩
                have hk2 : Keeps (fun _ => False) w w2 := ⟨t2.keeps.os.trans HDI.out.k.os, t2.keeps.tape.trans HDI.out.k.tape, t2.keeps.output.trans HDI.out.k.output, Nat.le_trans HDI.out.k.size t2.keeps.size, fun k h1 h2 => (t2.keeps.block k (Nat.lt_of_lt_of_le h1 HDI.out.k.size) (by omega)).trans (HDI.out.k.block k h1 h2)⟩
                have HDI2 : Hid (DI w w2 P a S) := hidden ⟨HDI.out.m.read hal (fun hp => by have := HPL.out _ hp; omega) t2.keeps, hk2⟩
                have HR2 := hidden t2.state
                obtain ⟨q4, rf, r1, r2, r3, r4⟩ := t2.state.cell2
                clear t2 HU HR1 hk2 HDI r1
                have HDI := HDI2
                have HR1 := HR2
                clear HDI2 HR2
                have hrf := (r3 hy).1
                subst hrf
                clear r3 r4
                have k1 := HDI.out.m.openCell hS n hn4
                rw [hch] at k1
                simp only [Option.isSome] at k1
                go_wp2_with fail
                refine (bye_q _ HDI.out.m).mono ?_
                rintro e w3 ⟨u1, u2, rfl, b1, b2, b3, b4⟩
                have HQ : Hid (QDPost w P a (fun k => k = a) (⟨S.cs, true⟩, [byeL 2], []) (.returned (.tuple #[u1, u2])) w3) := hidden ⟨_, _, rfl, b1.mono HDI.out.k.size, b2.mono HDI.out.k.size, b3, (HDI.out.k.mono (fun k _ h => h.elim)).trans b4⟩
                clear b1 b2 b3 b4 HDI HR1
                go_wp2_with fail
                go_ret2
                exact HQ.out
              | some c =>
                dsimp only
                have hge : ¬ (4 : Int) ≤ (n : Int) := by omega
                have hlt4 : (n : Int) < 4 := by omega
                rw [show chO 98 c n bs tt.2.1 tt.2.2 = reqO c n bs tt.2.1 tt.2.2 from rfl]
                have HON : Hid (∀ w', QX w' P a S → QR w' w.heap.size gb bs tt.2.1 tt.2.2 → Calls Tryz.prog 44 #[.pointer (some ⟨a, 0, none⟩), .int .i64 (n : Int), .int .i64 98, .pointer (some ⟨w.heap.size, 0, none⟩)] w' _) := hidden fun w' h1 h2 => on98_q w' h1 HOK.out hL hn4 hch h2 hal (fun hp => by have := HPL.out _ hp; omega)
                have hnw : IntKind.i64.wrap (n : Int) = (n : Int) := wrap_small _ (by omega) (by omega)
                go_enter Tryz.func18, Tryz.ntmps18
                go_wp2_with fail
                have HK0 : Hid (Keeps (fun _ => False) w (w.alloc (.cells #[.slice va bn vc, .int .i64 0, .bool false, .int .i64 0, .int .i64 0] 90))) := hidden ((Keeps.refl _ _).alloc _)
                refine (HBY.out _ HQR.out).mono ?_
                rintro e w1 ⟨rfl, t1⟩
                have HDI : Hid (DI w w1 P a S) := hidden ⟨HM.out.still (keeps_out t1.keeps), keeps_out t1.keeps⟩
                have HR1 := hidden t1.state
                clear t1 HBY HQR HK0 HM d0 df
                go_wp2_with fail
                refine (HU.out _ HR1.out).mono ?_
                rintro e w2 ⟨rfl, t2⟩
                have hk2 : Keeps (fun _ => False) w w2 := ⟨t2.keeps.os.trans HDI.out.k.os, t2.keeps.tape.trans HDI.out.k.tape, t2.keeps.output.trans HDI.out.k.output, Nat.le_trans HDI.out.k.size t2.keeps.size, fun k h1 h2 => (t2.keeps.block k (Nat.lt_of_lt_of_le h1 HDI.out.k.size) (by omega)).trans (HDI.out.k.block k h1 h2)⟩
                have HDI2 : Hid (DI w w2 P a S) := hidden ⟨HDI.out.m.read hal (fun hp => by have := HPL.out _ hp; omega) t2.keeps, hk2⟩
                have HR2 := hidden t2.state
                obtain ⟨q4, rf, r1, r2, r3, r4⟩ := t2.state.cell2
                clear t2 HU HR1 hk2 HDI r1
                have HDI := HDI2
                have HR1 := HR2
                clear HDI2 HR2
                have hrf := (r3 hy).1
                subst hrf
                clear r3 r4
                have k1 := HDI.out.m.openCell hS n hn4
                rw [show chAt S n = some c from hch] at k1
                simp only [Option.isSome] at k1
                go_wp2_with fail
                refine (HON.out _ HDI.out.m HR1.out).mono ?_
                rintro e w3 hq
                have HQ := hidden (hq.outer HDI.out.k)
                obtain ⟨u1, u2, rfl, _⟩ := hq
                clear HDI HR1 HON k1
                go_wp2_with fail
                go_ret2
                exact HQ.out
            · rw [chAt_out hS n hn4]
              dsimp only
              rw [Option.getD_none]
              have hge : (4 : Int) ≤ (n : Int) := by omega
              go_enter Tryz.func18, Tryz.ntmps18
              go_wp2_with fail
              have HK0 : Hid (Keeps (fun _ => False) w (w.alloc (.cells #[.slice va bn vc, .int .i64 0, .bool false, .int .i64 0, .int .i64 0] 90))) := hidden ((Keeps.refl _ _).alloc _)
              refine (HBY.out _ HQR.out).mono ?_
              rintro e w1 ⟨rfl, t1⟩
              have HDI : Hid (DI w w1 P a S) := hidden ⟨HM.out.still (keeps_out t1.keeps), keeps_out t1.keeps⟩
              have HR1 := hidden t1.state
              clear t1 HBY HQR HK0 HM d0 df
              go_wp2_with fail
              refine (HU.out _ HR1.out).mono ?_
              rintro e w2 ⟨rfl, t2⟩
              have hk2 : Keeps (fun _ => False) w w2 := ⟨t2.keeps.os.trans HDI.out.k.os, t2.keeps.tape.trans HDI.out.k.tape, t2.keeps.output.trans HDI.out.k.output, Nat.le_trans HDI.out.k.size t2.keeps.size, fun k h1 h2 => (t2.keeps.block k (Nat.lt_of_lt_of_le h1 HDI.out.k.size) (by omega)).trans (HDI.out.k.block k h1 h2)⟩
              have HDI2 : Hid (DI w w2 P a S) := hidden ⟨HDI.out.m.read hal (fun hp => by have := HPL.out _ hp; omega) t2.keeps, hk2⟩
              have HR2 := hidden t2.state
              obtain ⟨q4, rf, r1, r2, r3, r4⟩ := t2.state.cell2
              clear t2 HU HR1 hk2 HDI r1
              have HDI := HDI2
              have HR1 := HR2
              clear HDI2 HR2
              have hrf := (r3 hy).1
              subst hrf
              clear r3 r4
              go_wp2_with fail
              refine (bye_q _ HDI.out.m).mono ?_
              rintro e w3 ⟨u1, u2, rfl, b1, b2, b3, b4⟩
              have HQ : Hid (QDPost w P a (fun k => k = a) (⟨S.cs, true⟩, [byeL 2], []) (.returned (.tuple #[u1, u2])) w3) := hidden ⟨_, _, rfl, b1.mono HDI.out.k.size, b2.mono HDI.out.k.size, b3, (HDI.out.k.mono (fun k _ h => h.elim)).trans b4⟩
              clear b1 b2 b3 b4 HDI HR1
              go_wp2_with fail
              go_ret2
              exact HQ.out
          · have hno : (match chAt S n with | none => none | some c => putC S n (chO 98 c n bs tt.2.1 tt.2.2)) = none := by
              cases chAt S n with
              | none => rfl
              | some c => dsimp only; rw [chO_ref _ _ _ _ _ _ hy]; rfl
            rw [hno, Option.getD_none]
            clear hno
            go_enter Tryz.func18, Tryz.ntmps18
            go_wp2_with fail
            have HK0 : Hid (Keeps (fun _ => False) w (w.alloc (.cells #[.slice va bn vc, .int .i64 0, .bool false, .int .i64 0, .int .i64 0] 90))) := hidden ((Keeps.refl _ _).alloc _)
            refine (HBY.out _ HQR.out).mono ?_
            rintro e w1 ⟨rfl, t1⟩
            have HDI : Hid (DI w w1 P a S) := hidden ⟨HM.out.still (keeps_out t1.keeps), keeps_out t1.keeps⟩
            have HR1 := hidden t1.state
            clear t1 HBY HQR HK0 HM d0 df
            go_wp2_with fail
            refine (HU.out _ HR1.out).mono ?_
            rintro e w2 ⟨rfl, t2⟩
            have hk2 : Keeps (fun _ => False) w w2 := ⟨t2.keeps.os.trans HDI.out.k.os, t2.keeps.tape.trans HDI.out.k.tape, t2.keeps.output.trans HDI.out.k.output, Nat.le_trans HDI.out.k.size t2.keeps.size, fun k h1 h2 => (t2.keeps.block k (Nat.lt_of_lt_of_le h1 HDI.out.k.size) (by omega)).trans (HDI.out.k.block k h1 h2)⟩
            have HDI2 : Hid (DI w w2 P a S) := hidden ⟨HDI.out.m.read hal (fun hp => by have := HPL.out _ hp; omega) t2.keeps, hk2⟩
            have HR2 := hidden t2.state
            obtain ⟨q4, rf, r1, r2, r3, r4⟩ := t2.state.cell2
            clear t2 HU HR1 hk2 HDI r1
            have HDI := HDI2
            have HR1 := HR2
            clear HDI2 HR2
            have hrf := r4 hy
            subst hrf
            clear r3 r4
            go_wp2_with fail
            refine (bye_q _ HDI.out.m).mono ?_
            rintro e w3 ⟨u1, u2, rfl, b1, b2, b3, b4⟩
            have HQ : Hid (QDPost w P a (fun k => k = a) (⟨S.cs, true⟩, [byeL 2], []) (.returned (.tuple #[u1, u2])) w3) := hidden ⟨_, _, rfl, b1.mono HDI.out.k.size, b2.mono HDI.out.k.size, b3, (HDI.out.k.mono (fun k _ h => h.elim)).trans b4⟩
            clear b1 b2 b3 b4 HDI HR1
            go_wp2_with fail
            go_ret2
            exact HQ.out
      · rw [takeO_other hk, Option.getD_none]
        have n1 : ((k : Int) == 1) = false := by simp; omega
        have n2 : ((k : Int) == 2) = false := by simp; omega
        have n3 : ((k : Int) == 3) = false := by simp; omega
        have n4 : ((k : Int) == 4) = false := by simp; omega
        have n90 : ((k : Int) == 90) = false := by simp; omega
        have n93 : ((k : Int) == 93) = false := by simp; omega
        have n94 : ((k : Int) == 94) = false := by simp; omega
        have n96 : ((k : Int) == 96) = false := by simp; omega
        have n97 : ((k : Int) == 97) = false := by simp; omega
        have n98 : ((k : Int) == 98) = false := by simp; omega
        clear hk
        go_enter Tryz.func18, Tryz.ntmps18
        go_wp2_with fail
        have HK0 : Hid (Keeps (fun _ => False) w (w.alloc (.cells #[.slice va bn vc, .int .i64 0, .bool false, .int .i64 0, .int .i64 0] 90))) := hidden ((Keeps.refl _ _).alloc _)
        refine (HBY.out _ HQR.out).mono ?_
        rintro e w1 ⟨rfl, t1⟩
        have HDI : Hid (DI w w1 P a S) := hidden ⟨HM.out.still (keeps_out t1.keeps), keeps_out t1.keeps⟩
        have HR1 := hidden t1.state
        clear t1 HBY HQR HK0 HM d0 df
        go_wp2_with fail
        refine (bye_q _ HDI.out.m).mono ?_
        rintro e w3 ⟨u1, u2, rfl, b1, b2, b3, b4⟩
        have HQ : Hid (QDPost w P a (fun k => k = a) (⟨S.cs, true⟩, [byeL 2], []) (.returned (.tuple #[u1, u2])) w3) := hidden ⟨_, _, rfl, b1.mono HDI.out.k.size, b2.mono HDI.out.k.size, b3, (HDI.out.k.mono (fun k _ h => h.elim)).trans b4⟩
        clear b1 b2 b3 b4 HDI HR1
        go_wp2_with fail
        go_ret2
        exact HQ.out
  · have hdo : doO S bs = (S, [], []) := by
      cases bs with
      | nil => rfl
      | cons x r => simp only [doO]; rw [if_pos hdd]
    rw [hdo]
    rw [hdd] at d0
    clear hdo hdd
    generalize bs.length = bn at *
    go_enter Tryz.func18, Tryz.ntmps18
    go_wp2_with fail
    go_ret2
    exact HPN.out
end Go.Proofs.YtnimdbjbkoggdaaGreat
