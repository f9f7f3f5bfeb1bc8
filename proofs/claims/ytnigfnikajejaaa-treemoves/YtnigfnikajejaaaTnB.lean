/- TreeMoves. -/
import Derived.Test.YtnigfnikajejaaaTnA
namespace Go.Proofs.Ytnigfnikajejaaa
open Go Go.RowKit

set_option maxHeartbeats 8000000 in
set_option maxRecDepth 100000 in
theorem treeMoves_c (v0 v1 v2 : Value) (qs : List AskD) (p q : List Nm) (w : World) (h0 : ASl w v0 qs) (h1 : SSl w v1 p) (h2 : SSl w v2 q) :
    Calls Try.prog 4 #[v0, v1, v2] w fun e w' => e = .returned (.bool true) ∧ Below w.heap.size w w' := by
  have HA := hidden h0
  have HP := hidden h1
  have HQ := hidden h2
  obtain ⟨ao, cap, rfl, hc0, hm0⟩ := h0.len
  unfold maxLen at hm0
  clear h0 h1 h2
  go_enter Try.func4, Try.ntmps4
  go_wp2_with fail
  refine (new_c w).mono ?_
  rintro e w1 ⟨R1, a, rfl, ht1, hb1⟩
  have HT1 := hidden ht1
  have HB1 := hidden hb1
  clear ht1 hb1
  go_wp2_with fail
  go_loopw [8] (fun c wr => ∃ (k : Nat) (R : Nat → Role) (S : Tr), c = .int .i64 k ∧ k ≤ 20 ∧ k ≤ qs.length ∧ TS w.heap.size wr R a S ∧ S.next ≤ k + 1 ∧ Below w.heap.size w wr) (fun c _ => 20 - (intOf c).toNat)
  case atStart => exact ⟨0, R1, newTr, rfl, by omega, by omega, HT1.out, by decide, HB1.out⟩
  case round =>
    obtain ⟨k, R, S, rfl, hk20, hkl, hT, hnx, hb⟩ := hrel
    have HT := hidden hT
    have HB := hidden hb
    clear hT hb
    by_cases hlt : k < qs.length ∧ k < 20
    · obtain ⟨hlt0, hlt1⟩ := hlt
      have q0 : (k : Int) < (qs.length : Int) := by omega
      have q1 : (k : Int) < 20 := by omega
      have hA := HA.out.fresh HB.out
      obtain ⟨eb, eo, rfl, d0, d1, d2, d3, d4, d5, d6, d7, d8, d9, d10, d11, d12, d13, d14⟩ := hA.at k hlt0
      have HG := hidden (HA.out.good (List.getElem_mem hlt0))
      have HGr := hidden (hA.good (List.getElem_mem hlt0))
      clear hA
      generalize qs[k] = en at d0 d1 d2 d3 d4 d5 d6 d7 d8 d9 d10 d11 d12 d13 d14 HG HGr
      obtain ⟨x, pv, tv, bv⟩ := en
      go_wp2_with fail
      obtain ⟨g1, g2, g3, g4, g5, g6⟩ := HGr.out
      refine (short_c x pv tv bv _ g1 g2 g3).mono ?_
      rintro e w2 ⟨pv', tv', bv', rfl, hp2, ht2, hb2, hob2, hbel2⟩
      have HP2 := hidden hp2
      have HBv2 := hidden hb2
      have HBO2 := hidden hob2
      have HB2 := hidden (HB.out.trans (hbel2.mono HB.out.size))
      have HT2 := hidden (HT.out.fresh hbel2)
      have hlp := World.ownsRow.lt hp2
      have hnoP : Hid (∀ k, pv'.ownBlock = some k → R k = .no) := fun k e => HT.out.lim k (hlp k e).1
      clear hp2 hb2 hob2 hbel2 hlp g1 g2 g3 g4 g5 g6 d0 d1 d2 d3 d4 d5 d6 d7 d8 d9 d10 d11 d12 d13 d14
      obtain ⟨a1, k1, rfl⟩ := ownsRow_shape HP2.out
      obtain ⟨at2, kt2, rfl⟩ := ownsRow_shape ht2
      have hbs0 := HBv2.out
      obtain ⟨m3, hm3⟩ : ∃ m, m = (shortA x).b.length := ⟨_, rfl⟩
      obtain ⟨a3, k3, hv3, _⟩ := hbs0
      rw [← hm3] at hv3
      subst hv3
      obtain ⟨m1, hm1⟩ : ∃ m, m = (shortA x).P.length := ⟨_, rfl⟩
      rw [← hm1] at HP2 hnoP ⊢
      rw [show askC (shortA x) (.slice a1 m1 k1) (.slice at2 (shortA x).To.length kt2) (.slice a3 m3 k3) = #[.int .i64 x.kind, .int .i64 x.id, .slice a1 m1 k1, .slice at2 (shortA x).To.length kt2, .bool x.dir, .int .u64 x.at_, .int .u32 x.n, .slice a3 m3 k3, .int .u32 x.a.f, .int .u64 x.a.s, .int .u32 x.a.u, .int .u32 x.a.g, .int .u32 x.a.m, .int .u32 x.a.a, .int .u32 x.a.t] from rfl]
      have HM1 := hidden hm1
      have HM3 := hidden hm3
      clear hm1 hm3 ht2
      go_wp2_with fail
      have hno : Hid ((shortA x).b ≠ [] → ∀ j, (Value.slice a3 m3 k3).ownBlock = some j → j < w.heap.size) := fun hne j e => by
        have hxb : x.b ≠ [] := by rintro h0; exact hne (by show x.b.take 200 = []; rw [h0]; rfl)
        rw [HBO2.out] at e
        have hg := HG.out.2.2.1
        rcases Nat.lt_or_ge j w.heap.size with h | h
        · exact h
        · exact absurd rfl (BSl.apartB hg h hxb j e)
      have hblk := heap_alloc_new w2 (.cells #[.int .i64 x.kind, .int .i64 x.id, .slice a1 m1 k1, .slice at2 (shortA x).To.length kt2, .bool x.dir, .int .u64 x.at_, .int .u32 x.n, .slice a3 m3 k3, .int .u32 x.a.f, .int .u64 x.a.s, .int .u32 x.a.u, .int .u32 x.a.g, .int .u32 x.a.m, .int .u32 x.a.a, .int .u32 x.a.t] 47)
      have hkA := (Keeps.refl (fun _ => False) w2).alloc (.cells #[.int .i64 x.kind, .int .i64 x.id, .slice a1 m1 k1, .slice at2 (shortA x).To.length kt2, .bool x.dir, .int .u64 x.at_, .int .u32 x.n, .slice a3 m3 k3, .int .u32 x.a.f, .int .u64 x.a.s, .int .u32 x.a.u, .int .u32 x.a.g, .int .u32 x.a.m, .int .u32 x.a.a, .int .u32 x.a.t] 47)
      have hbA : Below w.heap.size w (w2.alloc (.cells #[.int .i64 x.kind, .int .i64 x.id, .slice a1 m1 k1, .slice at2 (shortA x).To.length kt2, .bool x.dir, .int .u64 x.at_, .int .u32 x.n, .slice a3 m3 k3, .int .u32 x.a.f, .int .u64 x.a.s, .int .u32 x.a.u, .int .u32 x.a.g, .int .u32 x.a.m, .int .u32 x.a.a, .int .u32 x.a.t] 47)) := HB2.out.alloc HB2.out.size _
      generalize w2.alloc (.cells #[.int .i64 x.kind, .int .i64 x.id, .slice a1 m1 k1, .slice at2 (shortA x).To.length kt2, .bool x.dir, .int .u64 x.at_, .int .u32 x.n, .slice a3 m3 k3, .int .u32 x.a.f, .int .u64 x.a.s, .int .u32 x.a.u, .int .u32 x.a.g, .int .u32 x.a.m, .int .u32 x.a.a, .int .u32 x.a.t] 47) = wA at hblk hkA hbA ⊢
      have htA := HT2.out.still hkA
      have hssl : SSl wA (.slice a1 m1 k1) (shortA x).P := (SOwn.ssl (show SOwn w2 wr.heap.size (.slice a1 m1 k1) (shortA x).P by have h := HP2.out; rw [HM1.out] at h ⊢; exact h)).keep hkA fun _ _ h => h
      have hbsA := HBv2.out.keep hkA fun _ _ h => h
      refine (make_t htA hbA.size _ (shortA x).P hssl hnoP.out x.dir (by omega)).mono ?_
      rintro e w3 ⟨rfl, R3, ht3, hm3⟩
      have hw2no := HT2.out.lim w2.heap.size (Nat.le_refl _)
      have hblk3 := (hm3.keeps.block w2.heap.size (lt_of_block hblk) (fun h => h hw2no)).trans hblk
      obtain ⟨_, _, _, _, _, _, _, c7, _⟩ := cells15 hblk3
      have HBv3 := hidden (hbsA.keepE hm3.keeps fun hne j e h => h (HT2.out.2.2 j (hno.out hne j e)))
      have HT3 := hidden ht3
      have HB3 : Hid (Below w.heap.size w w3) := hbA.trans (hm3.below HT2.out.2.2 hbA.size)
      have HN3 := hidden (makeT_next S (shortA x).P x.dir)
      clear ht3 hm3 hblk hblk3 hkA hbA htA hssl hbsA hw2no
      go_wp2_with fail
      have hwr := write_t HT3.out HB3.out.size (k : Int) 0 (by omega) _ (shortA x).b HBv3.out (by show (x.b.take 200).length ≤ _; rw [List.length_take]; omega) (fun hne j e => HT3.out.2.2 j (hno.out hne j e))
      rw [show ((0 : Nat) : Int) = 0 from rfl] at hwr
      refine hwr.mono ?_
      rintro e w4 ⟨rfl, R4, ht4, hm4⟩
      have HT4 := hidden ht4
      have HB4 : Hid (Below w.heap.size w w4) := HB3.out.trans (hm4.below HT3.out.2.2 HB3.out.size)
      clear ht4 hm4 hwr c7
      go_wp2_with fail
      go_roundw
      case rel => exact ⟨k + 1, R4, _, by go_num, by omega, by omega, HT4.out, by rw [writeT_next]; have := HN3.out; omega, HB4.out⟩
      case measure => simp [intOf]; omega
    · have hcond : (¬ (k : Int) < (qs.length : Int)) ∨ ((k : Int) < (qs.length : Int) ∧ ¬ (k : Int) < 20) := by omega
      have hnx2 : S.next ≤ 21 := by omega
      clear hlt hnx
      rcases hcond with h | ⟨h, h'⟩
      all_goals
        go_wp2_with fail
        refine (few_n 5 32 (by omega) (by omega) v1 p _ (HP.out.fresh HB.out)).mono ?_
        rintro e w2 ⟨u1, rfl, ho1, hb2⟩
        have hT2 := HT.out.fresh hb2
        have hB2 := HB.out.trans (hb2.mono HB.out.size)
        have hno1 : Hid (∀ k, u1.ownBlock = some k → R k = .no ∧ k < w2.heap.size) := fun k e => ⟨HT.out.lim k (World.ownsRow.lt ho1 k e).1, (World.ownsRow.lt ho1 k e).2⟩
        have HO1 := hidden ho1
        have HT2 := hidden hT2
        have HB2 := hidden hB2
        obtain ⟨a1, k1, rfl⟩ := ownsRow_shape ho1
        clear hb2 hT2 hB2 ho1
        go_wp2_with fail
        refine (few_n 5 32 (by omega) (by omega) v2 q _ (HQ.out.fresh HB2.out)).mono ?_
        rintro e w3 ⟨u2, rfl, ho2, hb3⟩
        have hno2 : Hid (∀ k, u2.ownBlock = some k → R k = .no) := fun k e => HT2.out.lim k (World.ownsRow.lt ho2 k e).1
        have hs23 := hb3.size
        have HV1 := hidden (HO1.out.ssl.fresh hb3)
        have HV2 := hidden (SOwn.ssl ho2)
        have HT3 := hidden (HT2.out.fresh hb3)
        have HB3 := hidden (HB2.out.trans (hb3.mono HB2.out.size))
        obtain ⟨a2, k2, rfl⟩ := ownsRow_shape ho2
        clear hb3 ho2 HT2 HB2 HO1 HT HB
        generalize fewL p 5 32 = P at HV1 hno1 ⊢
        generalize fewL q 5 32 = Q at HV2 hno2 ⊢
        by_cases hf : (renameT S P Q).1 = 0
        · obtain ⟨j, S', m1, m2, m3, m4, m5, m6, m7, m8⟩ := HT3.out.moves hf
          go_wp2_with fail
          have hl1 := look_t HT3.out _ P HV1.out
          rw [m2] at hl1
          refine hl1.mono ?_
          rintro e w4 ⟨rfl, hb4⟩
          have HT4 := hidden (HT3.out.fresh hb4)
          have HB4 := hidden (HB3.out.trans (hb4.mono HB3.out.size))
          have HV14 := hidden (HV1.out.fresh hb4)
          have HV24 := hidden (HV2.out.fresh hb4)
          have hs34 := hb4.size
          clear hl1 hb4
          go_wp2_with fail
          have hl2 := look_t HT4.out _ Q HV24.out
          rw [m3] at hl2
          refine hl2.mono ?_
          rintro e w5 ⟨rfl, hb5⟩
          have HT5 := hidden (HT4.out.fresh hb5)
          have HB5 := hidden (HB4.out.trans (hb5.mono HB4.out.size))
          have HV15 := hidden (HV14.out.fresh hb5)
          have HV25 := hidden (HV24.out.fresh hb5)
          have hs45 := hb5.size
          clear hl2 hb5
          go_wp2_with fail
          refine (attrs_t HT5.out (j : Int)).mono ?_
          rintro e w6 ⟨rfl, hb6⟩
          have HT6 := hidden (HT5.out.fresh hb6)
          have HB6 := hidden (HB5.out.trans (hb6.mono HB5.out.size))
          have HV16 := hidden (HV15.out.fresh hb6)
          have HV26 := hidden (HV25.out.fresh hb6)
          have hs46 : w3.heap.size ≤ w6.heap.size := Nat.le_trans (Nat.le_trans hs34 hs45) hb6.size
          obtain ⟨A, eA, hAe⟩ : ∃ A eA, attrsT S (j : Int) = (A, eA) := ⟨_, _, rfl⟩
          have m6j := m6 (j : Int)
          rw [hAe] at m6j ⊢
          rw [show (A, eA).1.v = .agg #[.int .u32 A.f, .int .u64 A.s, .int .u32 A.u, .int .u32 A.g, .int .u32 A.m, .int .u32 A.a, .int .u32 A.t] from rfl]
          clear hb6 m6 hAe
          go_wp2_with fail
          have hkA := (Keeps.refl (fun _ => False) w6).alloc (.cells #[.int .u32 A.f, .int .u64 A.s, .int .u32 A.u, .int .u32 A.g, .int .u32 A.m, .int .u32 A.a, .int .u32 A.t] 40)
          have hblk := heap_alloc_new w6 (.cells #[.int .u32 A.f, .int .u64 A.s, .int .u32 A.u, .int .u32 A.g, .int .u32 A.m, .int .u32 A.a, .int .u32 A.t] 40)
          have HTA := hidden (HT6.out.still hkA)
          have HBA := hidden (HB6.out.alloc HB6.out.size (.cells #[.int .u32 A.f, .int .u64 A.s, .int .u32 A.u, .int .u32 A.g, .int .u32 A.m, .int .u32 A.a, .int .u32 A.t] 40))
          have HV1A := hidden (HV16.out.keep hkA fun _ _ h => h)
          have HV2A := hidden (HV26.out.keep hkA fun _ _ h => h)
          have hbno := HT6.out.lim w6.heap.size (Nat.le_refl _)
          have hsA := hkA.size
          generalize w6.alloc (.cells #[.int .u32 A.f, .int .u64 A.s, .int .u32 A.u, .int .u32 A.g, .int .u32 A.m, .int .u32 A.a, .int .u32 A.t] 40) = wA at hblk HTA HBA HV1A HV2A hsA ⊢
          clear hkA
          refine (list_t HTA.out (j : Int)).mono ?_
          rintro e w7 ⟨vn, rfl, hn7, hb7⟩
          obtain ⟨L, eL, hLe⟩ : ∃ L eL, listT S (j : Int) = (L, eL) := ⟨_, _, rfl⟩
          rw [hLe] at m7 hn7 ⊢
          have HN7 : Hid (NRow w7 vn L) := ⟨_, hn7⟩
          have hnoN : Hid (∀ k, vn.ownBlock = some k → R k = .no) := fun k e => HTA.out.lim k (World.ownsRow.lt hn7 k e).1
          obtain ⟨an, kn, rfl⟩ := ownsRow_shape hn7
          have hblk7 := (hb7.block _ (lt_of_block hblk)).trans hblk
          have HT7 := hidden (HTA.out.fresh hb7)
          have HB7 := hidden (HBA.out.trans (hb7.mono HBA.out.size))
          have HV17 := hidden (HV1A.out.fresh hb7)
          have HV27 := hidden (HV2A.out.fresh hb7)
          have hs7 := hb7.size
          clear hn7 hb7 hLe hblk
          go_wp2_with fail
          refine (save_t HT7.out (by omega)).mono ?_
          rintro e w8 ⟨vs, bs, rfl, hsv, hbl, hown8, hb8⟩
          have HSV := hidden hsv
          have HN8 := hidden (HN7.out.fresh hb8)
          have hblk8 := (hb8.block _ (lt_of_block hblk7)).trans hblk7
          have HT8 := hidden (HT7.out.fresh hb8)
          have HB8 := hidden (HB7.out.trans (hb8.mono HB7.out.size))
          have HV18 := hidden (HV17.out.fresh hb8)
          have HV28 := hidden (HV27.out.fresh hb8)
          have hs8 := hb8.size
          have hrs := run_string (BSl.ofRow hown8)
          obtain ⟨asv, ksv, rfl⟩ := ownsRow_shape hown8
          clear hsv hown8 hb8 hblk7
          go_wp2_with fail
          have hrn := rename_t HT8.out HB8.out.size _ _ P Q HV18.out HV28.out hno2.out
          rw [m1] at hrn
          refine hrn.mono ?_
          rintro e w9 ⟨rfl, R9, ht9, hm9⟩
          have HT9 := hidden ht9
          have HB9 : Hid (Below w.heap.size w w9) := HB8.out.trans (hm9.below HT8.out.2.2 HB8.out.size)
          have HV19 := hidden (HV18.out.keep hm9.keeps fun k e h => h (hno1.out k e).1)
          have HV29 := hidden (HV28.out.keep hm9.keeps fun k e h => h (hno2.out k e))
          have HN9 := hidden (HN8.out.keep hm9.keeps fun k e h => h (hnoN.out k e))
          have hblk9 := (hm9.keeps.block _ (lt_of_block hblk8) (fun h => h hbno)).trans hblk8
          have hno19 : Hid (∀ k, (Value.slice a1 P.length k1).ownBlock = some k → R9 k = .no) := fun k e => (hm9.old k (by have := (hno1.out k e).2; omega)).trans (hno1.out k e).1
          clear ht9 hm9 hrn hrs hblk8
          go_wp2_with fail
          have hl3 := look_t HT9.out _ Q HV29.out
          rw [m4] at hl3
          refine hl3.mono ?_
          rintro e w10 ⟨rfl, hb10⟩
          have HT10 := hidden (HT9.out.fresh hb10)
          have HB10 := hidden (HB9.out.trans (hb10.mono HB9.out.size))
          have HV1x := hidden (HV19.out.fresh hb10)
          have HV2x := hidden (HV29.out.fresh hb10)
          have HN10 := hidden (HN9.out.fresh hb10)
          have hblk10 := (hb10.block _ (lt_of_block hblk9)).trans hblk9
          clear hl3 hb10 hblk9
          go_wp2_with fail
          have hl4 := look_t HT10.out _ P HV1x.out
          rw [m5] at hl4
          refine hl4.mono ?_
          rintro e w11 ⟨rfl, hb11⟩
          have HT11 := hidden (HT10.out.fresh hb11)
          have HB11 := hidden (HB10.out.trans (hb11.mono HB10.out.size))
          have HV1y := hidden (HV1x.out.fresh hb11)
          have HV2y := hidden (HV2x.out.fresh hb11)
          have HN11 := hidden (HN10.out.fresh hb11)
          have hblk11 := (hb11.block _ (lt_of_block hblk10)).trans hblk10
          clear hl4 hb11 hblk10
          go_wp2_with fail
          have hat2 := attrs_t HT11.out (j : Int)
          rw [m6j] at hat2
          refine hat2.mono ?_
          rintro e w12 ⟨rfl, hb12⟩
          rw [show (A, eA).1.v = .agg #[.int .u32 A.f, .int .u64 A.s, .int .u32 A.u, .int .u32 A.g, .int .u32 A.m, .int .u32 A.a, .int .u32 A.t] from rfl]
          have HT12 := hidden (HT11.out.fresh hb12)
          have HB12 := hidden (HB11.out.trans (hb12.mono HB11.out.size))
          have HV1z := hidden (HV1y.out.fresh hb12)
          have HV2z := hidden (HV2y.out.fresh hb12)
          have HN12 := hidden (HN11.out.fresh hb12)
          have hblk12 := (hb12.block _ (lt_of_block hblk11)).trans hblk11
          clear hat2 hb12 hblk11
          go_wp2_with fail
          have hkB := (Keeps.refl (fun _ => False) w12).alloc (.cells #[.int .u32 A.f, .int .u64 A.s, .int .u32 A.u, .int .u32 A.g, .int .u32 A.m, .int .u32 A.a, .int .u32 A.t] 40)
          have hblB := heap_alloc_new w12 (.cells #[.int .u32 A.f, .int .u64 A.s, .int .u32 A.u, .int .u32 A.g, .int .u32 A.m, .int .u32 A.a, .int .u32 A.t] 40)
          have HTB := hidden (HT12.out.still hkB)
          have HBB := hidden (HB12.out.alloc HB12.out.size (.cells #[.int .u32 A.f, .int .u64 A.s, .int .u32 A.u, .int .u32 A.g, .int .u32 A.m, .int .u32 A.a, .int .u32 A.t] 40))
          have HV1B := hidden (HV1z.out.keep hkB fun _ _ h => h)
          have HV2B := hidden (HV2z.out.keep hkB fun _ _ h => h)
          have HNB := hidden (HN12.out.keep hkB fun _ _ h => h)
          have hblkB := (hkB.block _ (lt_of_block hblk12) (fun h => h)).trans hblk12
          generalize w12.alloc (.cells #[.int .u32 A.f, .int .u64 A.s, .int .u32 A.u, .int .u32 A.g, .int .u32 A.m, .int .u32 A.a, .int .u32 A.t] 40) = wB at hblB hblkB HTB HBB HV1B HV2B HNB ⊢
          clear hkB hblk12
          have hli2 := list_t HTB.out (j : Int)
          rw [m7] at hli2
          refine hli2.mono ?_
          rintro e w13 ⟨vm, rfl, hn13, hb13⟩
          have HM13 : Hid (NRow w13 vm L) := ⟨_, hn13⟩
          obtain ⟨am, km, rfl⟩ := ownsRow_shape hn13
          have HN13 := hidden (HNB.out.fresh hb13)
          have HT13 := hidden (HTB.out.fresh hb13)
          have HB13 := hidden (HBB.out.trans (hb13.mono HBB.out.size))
          have HV1C := hidden (HV1B.out.fresh hb13)
          have HV2C := hidden (HV2B.out.fresh hb13)
          have hbl1 := (hb13.block _ (lt_of_block hblkB)).trans hblkB
          have hbl2 := (hb13.block _ (lt_of_block hblB)).trans hblB
          obtain ⟨f0, f1, f2, f3, f4, f5, f6, _⟩ := cells7 hbl1
          obtain ⟨g0, g1, g2, g3, g4, g5, g6, _⟩ := cells7 hbl2
          clear hli2 hn13 hb13 hblkB hblB hbl1 hbl2
          go_wp2_with fail
          refine (names_c _ _ HN13.out HM13.out).mono ?_
          rintro e w14 ⟨rfl, hb14⟩
          have HT14 := hidden (HT13.out.fresh hb14)
          have HB14 := hidden (HB13.out.trans (hb14.mono HB13.out.size))
          have HV1D := hidden (HV1C.out.fresh hb14)
          have HV2D := hidden (HV2C.out.fresh hb14)
          clear hb14 f0 f1 f2 f3 f4 f5 f6 g0 g1 g2 g3 g4 g5 g6
          go_wp2_with fail
          have hrn2 := rename_t HT14.out HB14.out.size _ _ Q P HV2D.out HV1D.out hno19.out
          rw [m8] at hrn2
          refine hrn2.mono ?_
          rintro e w15 ⟨rfl, R15, ht15, hm15⟩
          have HT15 := hidden ht15
          have HB15 : Hid (Below w.heap.size w w15) := HB14.out.trans (hm15.below HT14.out.2.2 HB14.out.size)
          clear hrn2 ht15 hm15
          go_wp2_with fail
          refine (save_t HT15.out (by omega)).mono ?_
          rintro e w16 ⟨vs2, bs2, rfl, hsv2, _, hown16, hb16⟩
          obtain rfl := savesTo_uniq HSV.out hsv2
          have hrs2 := run_string (BSl.ofRow hown16)
          obtain ⟨asv2, ksv2, rfl⟩ := ownsRow_shape hown16
          have HB16 := hidden (HB15.out.trans (hb16.mono HB15.out.size))
          clear hsv2 hown16 hb16
          go_wp2_with fail
          refine (known_c _).mono ?_
          rintro e w17 ⟨rfl, hb17⟩
          have HB17 := hidden (HB16.out.trans (hb17.mono HB16.out.size))
          clear hb17
          go_wp2_with fail
          go_ret
          exact ⟨rfl, HB17.out⟩
        · have hrs0 : (renameT S P Q).2 = S := renameT_no hf
          obtain ⟨en, hen⟩ : ∃ en, (renameT S P Q).1 = en := ⟨_, rfl⟩
          obtain ⟨j, ej, hlk⟩ : ∃ j ej, lookT S P = (j, ej) := ⟨_, _, rfl⟩
          obtain ⟨jq, eq, hlq⟩ : ∃ j ej, lookT S Q = (j, ej) := ⟨_, _, rfl⟩
          rw [hen] at hf
          have hfi : ¬ (en : Int) = 0 := by omega
          go_wp2_with fail
          have hl1 := look_t HT3.out _ P HV1.out
          rw [hlk] at hl1
          refine hl1.mono ?_
          rintro e w4 ⟨rfl, hb4⟩
          have HT4 := hidden (HT3.out.fresh hb4)
          have HB4 := hidden (HB3.out.trans (hb4.mono HB3.out.size))
          have HV14 := hidden (HV1.out.fresh hb4)
          have HV24 := hidden (HV2.out.fresh hb4)
          have hs34 := hb4.size
          clear hl1 hb4
          go_wp2_with fail
          have hl2 := look_t HT4.out _ Q HV24.out
          rw [hlq] at hl2
          refine hl2.mono ?_
          rintro e w5 ⟨rfl, hb5⟩
          have HT5 := hidden (HT4.out.fresh hb5)
          have HB5 := hidden (HB4.out.trans (hb5.mono HB4.out.size))
          have HV15 := hidden (HV14.out.fresh hb5)
          have HV25 := hidden (HV24.out.fresh hb5)
          have hs45 := hb5.size
          clear hl2 hb5
          go_wp2_with fail
          refine (attrs_t HT5.out (j : Int)).mono ?_
          rintro e w6 ⟨rfl, hb6⟩
          have HT6 := hidden (HT5.out.fresh hb6)
          have HB6 := hidden (HB5.out.trans (hb6.mono HB5.out.size))
          have HV16 := hidden (HV15.out.fresh hb6)
          have HV26 := hidden (HV25.out.fresh hb6)
          have hs46 : w3.heap.size ≤ w6.heap.size := Nat.le_trans (Nat.le_trans hs34 hs45) hb6.size
          obtain ⟨A, eA, hAe⟩ : ∃ A eA, attrsT S (j : Int) = (A, eA) := ⟨_, _, rfl⟩
          rw [hAe]
          rw [show (A, eA).1.v = .agg #[.int .u32 A.f, .int .u64 A.s, .int .u32 A.u, .int .u32 A.g, .int .u32 A.m, .int .u32 A.a, .int .u32 A.t] from rfl]
          clear hb6 hAe
          go_wp2_with fail
          have hkA := (Keeps.refl (fun _ => False) w6).alloc (.cells #[.int .u32 A.f, .int .u64 A.s, .int .u32 A.u, .int .u32 A.g, .int .u32 A.m, .int .u32 A.a, .int .u32 A.t] 40)
          have hblk := heap_alloc_new w6 (.cells #[.int .u32 A.f, .int .u64 A.s, .int .u32 A.u, .int .u32 A.g, .int .u32 A.m, .int .u32 A.a, .int .u32 A.t] 40)
          have HTA := hidden (HT6.out.still hkA)
          have HBA := hidden (HB6.out.alloc HB6.out.size (.cells #[.int .u32 A.f, .int .u64 A.s, .int .u32 A.u, .int .u32 A.g, .int .u32 A.m, .int .u32 A.a, .int .u32 A.t] 40))
          have HV1A := hidden (HV16.out.keep hkA fun _ _ h => h)
          have HV2A := hidden (HV26.out.keep hkA fun _ _ h => h)
          have hbno := HT6.out.lim w6.heap.size (Nat.le_refl _)
          have hsA := hkA.size
          generalize w6.alloc (.cells #[.int .u32 A.f, .int .u64 A.s, .int .u32 A.u, .int .u32 A.g, .int .u32 A.m, .int .u32 A.a, .int .u32 A.t] 40) = wA at hblk HTA HBA HV1A HV2A hsA ⊢
          clear hkA
          refine (list_t HTA.out (j : Int)).mono ?_
          rintro e w7 ⟨vn, rfl, hn7, hb7⟩
          obtain ⟨L, eL, hLe⟩ : ∃ L eL, listT S (j : Int) = (L, eL) := ⟨_, _, rfl⟩
          rw [hLe] at hn7 ⊢
          have HN7 : Hid (NRow w7 vn L) := ⟨_, hn7⟩
          have hnoN : Hid (∀ k, vn.ownBlock = some k → R k = .no) := fun k e => HTA.out.lim k (World.ownsRow.lt hn7 k e).1
          obtain ⟨an, kn, rfl⟩ := ownsRow_shape hn7
          have hblk7 := (hb7.block _ (lt_of_block hblk)).trans hblk
          have HT7 := hidden (HTA.out.fresh hb7)
          have HB7 := hidden (HBA.out.trans (hb7.mono HBA.out.size))
          have HV17 := hidden (HV1A.out.fresh hb7)
          have HV27 := hidden (HV2A.out.fresh hb7)
          have hs7 := hb7.size
          clear hn7 hb7 hLe hblk
          go_wp2_with fail
          refine (save_t HT7.out (by omega)).mono ?_
          rintro e w8 ⟨vs, bs, rfl, hsv, hbl, hown8, hb8⟩
          have HSV := hidden hsv
          have HN8 := hidden (HN7.out.fresh hb8)
          have hblk8 := (hb8.block _ (lt_of_block hblk7)).trans hblk7
          have HT8 := hidden (HT7.out.fresh hb8)
          have HB8 := hidden (HB7.out.trans (hb8.mono HB7.out.size))
          have HV18 := hidden (HV17.out.fresh hb8)
          have HV28 := hidden (HV27.out.fresh hb8)
          have hs8 := hb8.size
          have hrs := run_string (BSl.ofRow hown8)
          obtain ⟨asv, ksv, rfl⟩ := ownsRow_shape hown8
          clear hsv hown8 hb8 hblk7
          go_wp2_with fail
          have hrn := rename_t HT8.out HB8.out.size _ _ P Q HV18.out HV28.out hno2.out
          rw [hrs0, hen] at hrn
          refine hrn.mono ?_
          rintro e w9 ⟨rfl, R9, ht9, hm9⟩
          have HT9 := hidden ht9
          have HB9 : Hid (Below w.heap.size w w9) := HB8.out.trans (hm9.below HT8.out.2.2 HB8.out.size)
          clear ht9 hm9 hrn hrs hblk8
          go_wp2_with fail
          refine (save_t HT9.out (by omega)).mono ?_
          rintro e w16 ⟨vs2, bs2, rfl, hsv2, _, hown16, hb16⟩
          obtain rfl := savesTo_uniq HSV.out hsv2
          have hrs2 := run_string (BSl.ofRow hown16)
          obtain ⟨asv2, ksv2, rfl⟩ := ownsRow_shape hown16
          have HB16 := hidden (HB9.out.trans (hb16.mono HB9.out.size))
          clear hsv2 hown16 hb16
          go_wp2_with fail
          refine (known_c _).mono ?_
          rintro e w17 ⟨rfl, hb17⟩
          have HB17 := hidden (HB16.out.trans (hb17.mono HB16.out.size))
          clear hb17
          go_wp2_with fail
          go_ret
          exact ⟨rfl, HB17.out⟩
end Go.Proofs.Ytnigfnikajejaaa
