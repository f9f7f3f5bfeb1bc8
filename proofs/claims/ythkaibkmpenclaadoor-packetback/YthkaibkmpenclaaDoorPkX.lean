/- The walk of the law PacketBack. -/
import Derived.Test.YthkaibkmpenclaaDoorPkY
import Derived.Deep.CutRange
import Derived.Deep.CutBlock
namespace Go.Proofs.YthkaibkmpenclaaDoor
open Go Go.RowKit

set_option maxHeartbeats 6400000 in
set_option maxRecDepth 100000 in
theorem packetBack_c (v0 v1 v3 : Value) (n0 : Nat) (z1 : List UInt8) (a2 : Int) (n3 : Nat) (w : World) (hcl : Cl w) (h0 : LSl w v0 n0) (h1 : BSl w v1 z1) (h3 : ISl w v3 n3) :
    Calls Tryd.prog 6 #[v0, v1, .int .i64 a2, v3] w fun e w' => e = .returned (.bool true) ∧ Below w.heap.size w w' := by
  obtain ⟨i0, hi, hz0, hz1, hz2⟩ := info_parts Tryd.infoU8
  have HCL := hidden hcl
  have H0 := hidden h0
  have H1 := hidden h1
  obtain ⟨ai, ci, rfl, hi3a, hi3b, hi3c⟩ := h3
  have HIC := hidden hi3c
  unfold maxLen at hi3b
  clear hcl h0 h1 hi3c
  go_enter Tryd.func6, Tryd.ntmps6
  go_wp2_with fail
  refine (sized_b 32 (by omega) v1 z1 w H1.out).mono ?_
  rintro e w1 ⟨rfl, hs1, hb1⟩
  have HS1 := hidden hs1
  have HB1 := hidden hb1
  have HKL := hidden (sizedL_length z1 32)
  generalize sizedL z1 32 = key at HS1 HKL
  obtain ⟨gk, hgk⟩ : ∃ gk, gk = w.heap.size := ⟨_, rfl⟩
  rw [← hgk] at HS1
  rw [show (Value.slice (some ⟨w.heap.size, 0, none⟩) 32 32) = .slice (some ⟨gk, 0, none⟩) 32 32 by rw [hgk]]
  have HGK1 : Hid (gk < w1.heap.size) := by
    obtain ⟨b, o, c, e, hlt⟩ := HS1.out.nonnil (by intro e; have := HKL.out; rw [e] at this; simp at this)
    have e2 := congrArg Value.ownBlock e
    simp [Value.ownBlock] at e2
    show _ < _
    omega
  clear hs1 hb1 hgk
  have H0' := hidden (show LSl w1 v0 n0 from by
    obtain ⟨ao, cap, e, k1, k2, k3⟩ := H0.out
    refine ⟨ao, cap, e, k1, k2, fun j hj => ?_⟩
    obtain ⟨b, off, e1, u, us, hc, hb⟩ := k3 j hj
    exact ⟨b, off, e1, u, us, cell_kept hc HB1.out, hb.fresh HB1.out⟩)
  go_wp2_with fail
  refine (payloads_c v0 n0 w1 H0'.out).mono ?_
  rintro e w2 ⟨vp, ps, rfl, hpl, hb2⟩
  have HP := hidden hpl
  have HB2 := hidden hb2
  have HCL1 := hidden (HCL.out.fresh HB1.out)
  have HS2 := hidden (HS1.out.fresh hb2)
  obtain ⟨ap, cp, rfl⟩ := hpl.shape
  obtain ⟨n, hn⟩ : ∃ n, n = ps.length := ⟨_, rfl⟩
  have HN := hidden hn
  have hn12 : n ≤ 12 := by have := hpl.few; omega
  rw [← hn] at HP ⊢
  have HEACH : Hid (∀ i, i < n → 1 ≤ (ps.getD i []).length ∧ (ps.getD i []).length ≤ 200) := fun i hi => HP.out.each i (by have := HN.out; omega)
  have hWF := within_x a2 12 (by omega) w2
  have hf12 := wn_le a2 12
  generalize wn a2 12 = f at hWF hf12
  have HWF := hidden hWF
  clear hpl hb2 hn H0 H0' HS1 hWF
  go_wp2_with fail
  refine HWF.out.mono ?_
  rintro e w3 ⟨rfl, hw3⟩
  subst hw3
  clear HWF
  go_wp2_with fail
  refine (newOut_c w3).mono ?_
  rintro e w4 ⟨rfl, ho4, hb4⟩
  have HO4 := hidden ho4
  have HB4 := hidden hb4
  clear ho4 hb4
  go_wp2_with fail
  refine (newIn_c w4).mono ?_
  rintro e w5 ⟨rfl, hi5, hb5⟩
  have HPT : Hid (∀ k, (Value.slice ap n cp).ownBlock = some k → k < w3.heap.size) := fun k e => (HP.out.lt k e).2
  have HE5 : Hid (Ends w1 w5 (fun k => k = gk ∨ (Value.slice ap n cp).ownBlock = some k) w3.heap.size w4.heap.size w4.heap.size none none [] 0 [] 0 [] 0) :=
    ends_new (HB2.out.trans (HB4.out.mono HB2.out.size)) HO4.out HB2.out.size hi5 hb5 (fun k hk => by
      rcases hk with rfl | e
      · have := HGK1.out; have := HB2.out.size; omega
      · exact HPT.out k e)
  have HS5 := hidden ((HS2.out.fresh HB4.out).fresh hb5)
  have HP5 := hidden ((HP.out.fresh HB4.out).fresh hb5)
  have HPW : Hid (∀ k, (Value.slice ap n cp).ownBlock = some k → k < w5.heap.size) := fun k e => (HE5.out.res k (.inr e)).1
  have HGW : Hid (gk < w5.heap.size) := (HE5.out.res gk (.inl rfl)).1
  generalize w3.heap.size = go at HE5 ⊢
  generalize w4.heap.size = gi at HE5 ⊢
  clear hi5 hb5 HS2 HP HO4 HB4 HPT HGK1 HB2
  have HCATL : Hid (∀ j, j ≤ n → (cat (packY f key ps) j).length ≤ 4000) := fun j hj => Nat.le_trans (cat_le _ j n hj) (cat_len_le f HKL.out ps n hn12 HEACH.out)
  go_wp2_with fail
  obtain ⟨B, hB⟩ : ∃ B, B = w5.heap.size := ⟨_, rfl⟩
  have HBB := hidden hB
  rw [← hB] at HPW HGW
  have HB1B : Hid (w1.heap.size ≤ B) := by show _ ≤ _; rw [hB]; exact HE5.out.b.size
  clear hB
  go_loopw [12, 13] (fun xv c wr => ∃ (j : Nat) (ko : Option Nat), j ≤ n ∧ c = .int .i64 (j : Int) ∧ wr.ownsRow B 5 1 xv (cat (packY f key ps) j).length (bcells (cat (packY f key ps) j)) ∧ Ends w1 wr (fun k => k = gk ∨ (Value.slice ap n cp).ownBlock = some k ∨ xv.ownBlock = some k) go gi gi ko none (keyB f key j) j [] 0 [] 0 ∧ PLs w1 wr (.slice ap n cp) ps ∧ BSl wr (.slice (some ⟨gk, 0, none⟩) 32 32) key ∧ (∀ k, xv.ownBlock = some k → ko ≠ some k) ∧ B ≤ wr.heap.size) (fun _ c _ => n - (intOf c).toNat)
  case atStart =>
    refine ⟨0, none, by omega, rfl, World.ownsRow_nil _ _ _ _, HE5.out.more (fun k e => ?_), HP5.out, HS5.out, fun k e => by simp, by have := HBB.out; omega⟩
    rcases e with e | e | e
    · exact HE5.out.res k (.inl e)
    · exact HE5.out.res k (.inr e)
    · simp [Value.ownBlock] at e
  case round =>
    clear HE5 HP5 HS5
    obtain ⟨j, ko, hj, rfl, hrow, he, hp, hs, hxk, hBw⟩ := hrel
    have HROW := hidden hrow
    have HE := hidden he
    have HP := hidden hp
    have HS := hidden hs
    have HXK := hidden hxk
    obtain ⟨ax, cx, ex⟩ := ownsRow_shape hrow
    clear hrow he hp hs hxk
    have HBW : Hid (B ≤ wr.heap.size) := hBw
    clear hBw
    subst ex
    have hxl := HCATL.out j hj
    generalize hXL : (cat (packY f key ps) j).length = xl at HROW hxl HE HXK ⊢
    have HXL := hidden hXL
    clear hXL
    by_cases hlt : j < n
    · have hlt' : (j : Int) < (n : Int) := by omega
      obtain ⟨pg, hpg⟩ : ∃ pg, ap = some ⟨pg, 0, none⟩ := by
        obtain ⟨g, cap, u, e, _⟩ := HP.out.at HE.out.b 0 (by have := HN.out; omega)
        cases e
        exact ⟨g, rfl⟩
      subst hpg
      have hcpm : n ≤ cp ∧ cp ≤ maxLen := by
        obtain ⟨g, cap, u, e, _, _, h1, h2⟩ := HP.out.at HE.out.b 0 (by have := HN.out; omega)
        cases e
        exact ⟨by have := HN.out; omega, h2⟩
      obtain ⟨hcp1, hcp2⟩ := hcpm
      unfold maxLen at hcp2
      go_upto_region 12 with fail
      go_cut [53] from 39 to 73 (fun b wx => b = .bool false ∧ ∃ ko' : Option Nat, B ≤ wx.heap.size ∧ wx.ownsRow B 5 1 (.slice ax xl cx) xl (bcells (cat (packY f key ps) j)) ∧ Ends w1 wx (fun k => k = gk ∨ (Value.slice (some ⟨pg, 0, none⟩) n cp).ownBlock = some k ∨ (Value.slice ax xl cx).ownBlock = some k) go gi gi ko' none (keyA f key j) j [] 0 [] 0 ∧ PLs w1 wx (.slice (some ⟨pg, 0, none⟩) n cp) ps ∧ BSl wx (.slice (some ⟨gk, 0, none⟩) 32 32) key ∧ ∀ k, (Value.slice ax xl cx).ownBlock = some k → ko' ≠ some k)
      case first =>
        by_cases hjf : j = f
        · have hjf1 : ((j : Int) == (f : Int)) = true := by simp; omega
          have HKE : Hid (keyA f key j = key) := by show _ = _; rw [hjf, keyA_at]
          clear hjf
          go_wp2_with fail
          refine (ends_okeys2 HE.out _ key HS.out HKL.out).mono ?_
          rintro e w8 ⟨rfl, ko8, he8, hk8, hnew⟩
          have HF : Hid (B ≤ w8.heap.size ∧ w8.ownsRow B 5 1 (.slice ax xl cx) xl (bcells (cat (packY f key ps) j)) ∧ Ends w1 w8 (fun k => k = gk ∨ (Value.slice (some ⟨pg, 0, none⟩) n cp).ownBlock = some k ∨ (Value.slice ax xl cx).ownBlock = some k) go gi gi ko8 none (keyA f key j) j [] 0 [] 0 ∧ PLs w1 w8 (.slice (some ⟨pg, 0, none⟩) n cp) ps ∧ BSl w8 (.slice (some ⟨gk, 0, none⟩) 32 32) key ∧ ∀ k, (Value.slice ax xl cx).ownBlock = some k → ko8 ≠ some k) := by
            refine ⟨Nat.le_trans HBW.out hk8.size, hk8.row HROW.out (fun k e => (HE.out.res k (.inr (.inr e))).2), by rw [HKE.out]; exact he8, HE.out.pls hk8 HP.out (fun k e => .inr (.inl e)), HE.out.bsl hk8 HS.out (fun k e => .inl (by simp [Value.ownBlock] at e; exact e.symm)), fun k e e2 => ?_⟩
            have h1 := hnew k e2
            have h2 := (HROW.out.lt k e).2
            omega
          clear he8 hk8 hnew
          go_wp2_with fail
          go_meet
          case rel => exact ⟨rfl, ko8, HF.out⟩
        · have hjf1 : ((j : Int) == (f : Int)) = false := by simp; omega
          have HKE : Hid (keyB f key j = keyA f key j) := keyB_same f key j hjf
          clear hjf
          go_wp2_with fail
          go_meet
          case rel => exact ⟨rfl, ko, HBW.out, HROW.out, by rw [← HKE.out]; exact HE.out, HP.out, HS.out, HXK.out⟩
      case rest =>
        clear HE HP HS HXK HROW HBW
        obtain ⟨hb53, ko8, hbw, hrow, he, hp, hs, hxk⟩ := hcut
        have HROW := hidden hrow
        have HE := hidden he
        have HP := hidden hp
        have HS := hidden hs
        have HXK := hidden hxk
        have HBW := hidden hbw
        subst hb53
        clear hrow he hp hs hxk hbw
        obtain ⟨u, hcell, hbs⟩ := HP.out.get HE.out.b j (by have := HN.out; omega)
        have hej := HEACH.out j hlt
        have HPK := hidden (ends_packet HE.out HCL1.out u _ hbs hej.1 (by omega) (by omega))
        clear hbs
        go_wp2_with fail
        refine HPK.out.mono ?_
        rintro e w9 ⟨v9, rfl, hrow9, he9, hk9⟩
        have HE9 := hidden he9
        have HP9 := hidden (HE.out.pls hk9 HP.out (fun k e => .inr (.inl e)))
        have HS9 := hidden (HE.out.bsl hk9 HS.out (fun k e => .inl (by simp [Value.ownBlock] at e; exact e.symm)))
        have HROW9 := hidden (hk9.row HROW.out (fun k e => (HE.out.res k (.inr (.inr e))).2))
        have HBW9 : Hid (B ≤ w9.heap.size) := Nat.le_trans HBW.out hk9.size
        have hmod := packY_mod f HKL.out ps j
        have hqle := packetL_le (keyA_ok f HKL.out j) j (ps.getD j []) (by omega)
        have HCS : Hid (cat (packY f key ps) (j + 1) = cat (packY f key ps) j ++ packetL (keyA f key j) j (ps.getD j [])) := rfl
        generalize packetL (keyA f key j) j (ps.getD j []) = Q at hrow9 hmod hqle HCS
        have HSRC := hidden (BSl.ofRow hrow9).src
        obtain ⟨aq, cq, eq9⟩ := ownsRow_shape hrow9
        generalize hql : Q.length = ql at eq9 hmod hqle HSRC
        have HQL := hidden hql
        subst eq9
        have hq1 : ((ql : Int) % 4 == 0) = true := by simp; omega
        have hq2 : ((ql : Int) % 4 != 0) = false := by simp; omega
        have hq3 : (ql : Int) ≤ 332 := by omega
        have hbw9 := HBW9.out
        clear hrow9 he9 hk9 hmod hcell HPK hql HROW HP HS
        go_wp2_with (refine wpList_append_src _ rfl (.tmp 71) (.tmp 72) 22 22 rfl B 5 i0 _ 1 Tryd.underlying22 hi hz0 hz1 hz2 rfl (.slice ax xl cx) xl _ rfl HROW9.out _ ql _ rfl HSRC.out (by unfold maxLen; omega) (by omega) hbw9 w9.heap.size rfl ?_)
        intro v' w10 hown hgrow hnil hat
        have hkg : Keeps (fun k => (Value.slice ax xl cx).ownBlock = some k) w9 w10 := Keeps.ofGrown hgrow (fun k e => e)
        have hB1 : w1.heap.size ≤ B := HB1B.out
        have hE10 := HE9.out.grow hkg (fun k e => .inr (.inr e)) (fun k e e2 => HXK.out k e e2) (fun k e e2 => by cases e2) (fun k e => Nat.le_trans hB1 (HROW9.out.lt k e).1)
        have HF : Hid (v'.ownBlock = (Value.slice ax xl cx).ownBlock ∨ v'.ownBlock = some w9.heap.size) := hat
        have HE10 : Hid (Ends w1 w10 (fun k => k = gk ∨ (Value.slice (some ⟨pg, 0, none⟩) n cp).ownBlock = some k ∨ v'.ownBlock = some k) go gi gi ko8 none (keyB f key (j + 1)) (j + 1) [] 0 [] 0) := by
          show Ends _ _ _ _ _ _ _ _ _ _ _ _ _ _
          rw [keyB_succ]
          refine hE10.more fun k e => ?_
          rcases e with e | e | e
          · exact hE10.res k (.inl e)
          · exact hE10.res k (.inr (.inl e))
          · rcases hat with e2 | e2
            · exact hE10.res k (.inr (.inr (by rw [← e2, e])))
            · rw [e2] at e
              have e3 : w9.heap.size = k := by simpa using e
              refine ⟨(hown.lt k (by rw [e2, e3])).2, fun hf => ?_⟩
              have := (HE9.out.footLt hf).2
              omega
        have HP10 := hidden (HP9.out.keep hkg (fun k e e2 => by have h1 := (HROW9.out.lt k e2).1; have h2 := HPW.out k e; omega))
        have HS10 := hidden (HS9.out.keep hkg (fun k e e2 => by have h1 := (HROW9.out.lt k e2).1; have h2 := HGW.out; simp [Value.ownBlock] at e; omega))
        have HX10 : Hid (∀ k, v'.ownBlock = some k → ko8 ≠ some k) := fun k e e2 => by
          rcases hat with e3 | e3
          · exact HXK.out k (by rw [← e3, e]) e2
          · rw [e3] at e
            have e4 : w9.heap.size = k := by simpa using e
            have := HE9.out.out.lt k e2
            omega
        have HR10 : Hid (w10.ownsRow B 5 1 v' (cat (packY f key ps) (j + 1)).length (bcells (cat (packY f key ps) (j + 1)))) := by
          show World.ownsRow _ _ _ _ _ _ _
          rw [HCS.out, List.length_append, bcells_append, HXL.out, HQL.out]
          exact hown
        have HB10 : Hid (B ≤ w10.heap.size) := Nat.le_trans hbw9 hkg.size
        clear hown hgrow hnil hat hkg hE10
        go_wp2
        go_roundw
        case rel => exact ⟨j + 1, ko8, by omega, by go_num, HR10.out, HE10.out, HP10.out, HS10.out, HX10.out, HB10.out⟩
        case measure => simp [intOf]; omega
    · have hlt' : ¬ (j : Int) < (n : Int) := by omega
      have ejn : n = j := by omega
      subst ejn
      have HX0 : Hid (BSl wr (.slice ax xl cx) (cat (packY f key ps) n)) := by
        have h := HROW.out
        rw [← HXL.out] at h ⊢
        exact BSl.ofRow h
      have HXS : Hid (1 ≤ n → ∃ b off, ax = some ⟨b, off, none⟩) := fun h1 => by
        have hne : cat (packY f key ps) n ≠ [] := by
          intro e
          have h2 := cat_le (packY f key ps) 1 n h1
          have h3 := packetL_length (keyA_ok f HKL.out 0) 0 (ps.getD 0 [])
          rw [e] at h2
          simp only [cat, List.nil_append, List.length_nil] at h2
          rw [packY] at h2
          omega
        obtain ⟨b, o, c, e, _⟩ := HX0.out.nonnil hne
        cases e
        exact ⟨b, o, rfl⟩
      have HC0 := hidden (hold_all (packY f key ps) n)
      clear hlt
      generalize hYY : packY f key ps = Y at *
      have HYY := hidden hYY
      clear hYY
      go_wp2_with fail
      obtain ⟨wo, ewo⟩ : ∃ x, x = wr := ⟨wr, rfl⟩
      subst ewo
      go_loopw [12, 16, 17] (fun x got c wr => ∃ (i cc F : Nat) (ox : Option Addr) (xc h : Nat) (ki : Option Nat) (ky : List UInt8), i ≤ n ∧ F ≤ xl ∧ (cat Y i).length ≤ F ∧ cc ≤ 31 ∧ ((cc ≤ n3 ∧ cc ≤ 30) ∨ (i = n ∧ F = xl)) ∧ got = .int .i64 (i : Int) ∧ c = .int .i64 (cc : Int) ∧ x = .slice ox (xl - F) xc ∧ (1 ≤ n → ∃ b off, ox = some ⟨b, off, none⟩) ∧ BSl wr x ((cat Y n).drop F) ∧ (∀ k, x.ownBlock = some k → (Value.slice ax xl cx).ownBlock = some k) ∧ (ky = keyB f key i ∨ ky = keyA f key i) ∧ Ends w1 wr (fun k => k = gk ∨ (Value.slice ap n cp).ownBlock = some k ∨ (Value.slice ax xl cx).ownBlock = some k) go gi h ko ki (keyB f key n) n ky i (hold Y n i F) 0 ∧ PLs w1 wr (.slice ap n cp) ps ∧ BSl wr (.slice (some ⟨gk, 0, none⟩) 32 32) key) (fun _ _ c _ => 32 - (intOf c).toNat)
      case atStart =>
        refine ⟨0, 0, 0, ax, cx, gi, none, [], by omega, by omega, by simp [cat], by omega, .inl ⟨by omega, by omega⟩, rfl, rfl, rfl, HXS.out, by simpa using HX0.out, fun k e => e, .inl rfl, ?_, HP.out, HS.out⟩
        rw [show hold Y n 0 0 = [] by simp [hold]]
        exact HE.out
      case round =>
        clear HE HP HS HXK HROW HBW HX0 HXS
        obtain ⟨i, cc, F, ox, xc, h, ki, ky, hin, hF, hDF, hcc, hst, rfl, rfl, rfl, hox, hbx, hxb, hky, he, hp, hs⟩ := hrel
        have HE := hidden he
        have HP := hidden hp
        have HS := hidden hs
        have HBX := hidden hbx
        have HXB := hidden hxb
        have HKY := hidden hky
        have HDF := hidden hDF
        clear he hp hs hbx hxb hky hDF
        obtain ⟨m, hm⟩ : ∃ m, m = xl - F := ⟨_, rfl⟩
        rw [← hm] at HBX HXB ⊢
        have HMM := hidden hm
        clear hm
        by_cases hfin : i = n
        · have hFx : F = xl := by have h1 := HDF.out; have h2 := HXL.out; rw [hfin] at h1; omega
          have hm0 : ¬ (0 : Int) < (m : Int) := by have := HMM.out; omega
          have hin1 : ¬ (i : Int) < (n : Int) := by omega
          have HZ : Hid (Ends w1 wr (fun k => k = gk ∨ (Value.slice ap n cp).ownBlock = some k ∨ (Value.slice ax xl cx).ownBlock = some k) go gi h ko ki (keyB f key n) n ky i [] 0) := by
            have h1 := HE.out
            rw [show hold Y n i F = [] by rw [hfin, hFx, ← HXL.out, HC0.out]] at h1
            exact h1
          clear hfin hFx HE
          have hNX := ends_next HZ.out HCL1.out (by simp) (by omega)
          rw [show nextR _ _ [] = .short from rfl] at hNX
          have HNX := hidden hNX
          clear hNX
          go_wp2_with fail
          refine HNX.out.mono ?_
          rintro e w20 ⟨rfl, he20, _⟩
          have HE20 := hidden he20
          have hHE := held_c w20 he20.inn
          simp only [List.length_nil] at hHE
          have HHE := hidden hHE
          have HKN := hidden (known_c w20 (HCL1.out.fresh he20.b))
          clear he20 hHE HNX
          go_wp2_with fail
          refine HHE.out.mono ?_
          rintro e w21 ⟨rfl, hw21⟩
          subst hw21
          clear HHE
          go_wp2_with fail
          refine HKN.out.mono ?_
          rintro e w22 ⟨rfl, hb22⟩
          have HB22 : Hid (Below w.heap.size w w22) := HB1.out.trans ((HE20.out.b.trans (hb22.mono HE20.out.b.size)).mono HB1.out.size)
          clear hb22
          go_wp2
          go_ret
          exact ⟨rfl, HB22.out⟩
        have hilt : i < n := by omega
        have hin1 : (i : Int) < (n : Int) := by omega
        have hcc30 : cc ≤ n3 ∧ cc ≤ 30 := hst.elim id (fun e => absurd e.1 hfin)
        obtain ⟨b, off, hoe⟩ := hox (by omega)
        subst hoe
        obtain ⟨pg, hpg⟩ : ∃ pg, ap = some ⟨pg, 0, none⟩ := by
          obtain ⟨g, cap, u, e, _⟩ := HP.out.at HE.out.b 0 (by have := HN.out; omega)
          cases e
          exact ⟨g, rfl⟩
        subst hpg
        have hcpm : n ≤ cp ∧ cp ≤ maxLen := by
          obtain ⟨g, cap, u, e, _, _, h1, h2⟩ := HP.out.at HE.out.b 0 (by have := HN.out; omega)
          cases e
          exact ⟨by have := HN.out; omega, h2⟩
        obtain ⟨hcp1, hcp2⟩ := hcpm
        unfold maxLen at hcp2
        have hmxc : m ≤ xc ∧ xc ≤ maxLen := by
          obtain ⟨a9, c9, e9, k1, k2, _⟩ := HBX.out
          have e10 : xc = c9 := by injection e9
          have e11 : m = (List.drop F (cat Y n)).length := by injection e9
          exact ⟨by omega, by omega⟩
        obtain ⟨hmx, hxcm⟩ := hmxc
        unfold maxLen at hxcm
        have hm4 : m ≤ 4000 := by have := HMM.out; omega
        clear hst hox hfin
        obtain ⟨wo2, ewo2⟩ : ∃ x, x = wr := ⟨wr, rfl⟩
        subst ewo2
        go_upto_region 23 with fail
        go_cut [94] from 74 to 149 (fun bv wx => ∃ q : Bool, bv = .bool q ∧ (q = true → cc < n3 ∧ cc < 30) ∧ (q = false → ¬ (cc < n3 ∧ cc < 30)) ∧ wx = wo2)
        case first =>
          by_cases hc3 : cc < n3
          · have hc3' : (cc : Int) < (n3 : Int) := by omega
            by_cases hc30 : cc < 30
            · have hc30' : (cc : Int) < 30 := by omega
              go_wp2_with fail
              go_meet
              case rel => exact ⟨true, rfl, fun _ => ⟨hc3, hc30⟩, (fun e => by cases e), rfl⟩
            · have hc30' : ¬ (cc : Int) < 30 := by omega
              go_wp2_with fail
              go_meet
              case rel => exact ⟨false, rfl, (fun e => by cases e), (fun _ e => hc30 e.2), rfl⟩
          · have hc3' : ¬ (cc : Int) < (n3 : Int) := by omega
            go_wp2_with fail
            go_meet
            case rel => exact ⟨false, rfl, (fun e => by cases e), (fun _ e => hc3 e.1), rfl⟩
        case rest =>
          obtain ⟨q, hbv, hq1, hq2, hwc⟩ := hcut
          subst hbv hwc
          go_upto_if 94 with fail
          go_cut [18] from 74 to 149 (fun kv wx => ∃ k : Nat, kv = .int .i64 (k : Int) ∧ k ≤ m ∧ (¬ (cc < n3 ∧ cc < 30) → k = m) ∧ wx = wc)
          case first =>
            cases q
            · have hq9 := hq2 rfl
              clear hq1 hq2
              go_wp2_with fail
              go_meet
              case rel => exact ⟨m, rfl, Nat.le_refl _, (fun _ => rfl), rfl⟩
            · have hq9 := hq1 rfl
              have hc3' : (cc : Int) < (n3 : Int) := by omega
              obtain ⟨bi, oi, ei, z, hzc⟩ := HIC.out cc hq9.1
              subst ei
              have hzc' := cell_kept (cell_kept hzc HB1.out) HE.out.b
              have HWZ := hidden (within_c z m (by omega) wc)
              clear hzc hq1 hq2
              go_wp2_with fail
              refine HWZ.out.mono ?_
              rintro e w30 ⟨k, rfl, hk, hw30⟩
              subst hw30
              go_wp2_with fail
              go_meet
              case rel => exact ⟨k, rfl, hk, (fun e => absurd hq9 e), rfl⟩
          case rest =>
            obtain ⟨k, hkv, hkm, hkf, hwc2⟩ := hcut
            subst hkv hwc2
            have HKF := hidden hkf
            have hk1 : (k : Int) ≤ (xc : Int) := by omega
            have hk2 : (k : Int) ≤ (m : Int) := by omega
            have HHL := hidden (hold_len Y n i F)
            have HLE : Hid ((cat Y n).length = xl) := HXL.out
            have HFDL : Hid ((hold Y n i F).length + (((cat Y n).drop F).take k).length ≤ 1000000) := by
              have h1 := HHL.out
              have h2 := HLE.out
              show _ ≤ _
              rw [List.length_take]
              omega
            have hbl : ((cat Y n).drop F).length = m := by rw [List.length_drop, HLE.out, HMM.out]
            have hTK := HBX.out
            rw [← hbl] at hTK
            have HTK := hidden (hTK.head' (n := k) (by rw [hbl]; exact hkm))
            clear hTK
            have HHF := hidden (hold_feed Y n i F k (by have := HLE.out; omega) HDF.out)
            clear hkf hq1 hq2 q hbl
            go_wp2_with fail
            refine (ends_feed HE.out _ _ HTK.out HFDL.out).mono ?_
            rintro e w31 ⟨rfl, h31, he31, hk31⟩
            rw [HHF.out] at he31
            have HE31 := hidden he31
            have HP31 := hidden (HE.out.pls hk31 HP.out (fun k e => .inr (.inl e)))
            have HS31 := hidden (HE.out.bsl hk31 HS.out (fun k e => .inl (by simp [Value.ownBlock] at e; exact e.symm)))
            have HBX31 := hidden (HE.out.bsl hk31 HBX.out (fun k e => .inr (.inr (HXB.out k e))))
            have HDF31 : Hid ((cat Y i).length ≤ F + k) := by have := HDF.out; show _ ≤ _; omega
            clear he31 hk31 HE HP HS HBX HTK HFDL HHF HHL HDF
            go_upto_region 26 with fail
            go_cut [12] from 74 to 149 (fun xv wx => ∃ off' xc' : Nat, xv = .slice (some ⟨b, off', none⟩) (m - k) xc' ∧ BSl w31 xv ((cat Y n).drop (F + k)) ∧ wx = w31)
            case first =>
              have hdd : (cat Y n).drop (F + k) = ((cat Y n).drop F).drop k := by rw [List.drop_drop]
              by_cases hck : xc = k
              · have HN0 : Hid (BSl w31 (.slice (some ⟨b, off, none⟩) (m - k) 0) ((cat Y n).drop (F + k))) := by
                  have e1 : m - k = 0 := by omega
                  have e2 : (cat Y n).drop (F + k) = [] := List.eq_nil_of_length_eq_zero (by rw [List.length_drop, HLE.out]; have := HMM.out; omega)
                  show BSl _ _ _
                  rw [e1, e2]
                  exact bsl_empty _ _ 0 (by simp [maxLen]) (fun e => by cases e)
                clear hdd
                go_wp2_with fail
                go_meet
                case rel => exact ⟨off, 0, rfl, HN0.out, rfl⟩
              · have HN0 : Hid (BSl w31 (.slice (some ⟨b, off + k, none⟩) (m - k) (xc - k)) ((cat Y n).drop (F + k))) := by
                  show BSl _ _ _
                  rw [hdd]
                  exact HBX31.out.dropS hkm
                clear hdd
                go_wp2_with fail
                go_meet
                case rel => exact ⟨off + k, xc - k, rfl, HN0.out, rfl⟩
            case rest =>
              obtain ⟨off', xc', hxv, hbx', hwc3⟩ := hcut
              subst hxv hwc3
              have HBX' := hidden hbx'
              clear hbx' HBX31
              have HXB' : Hid (∀ q, (Value.slice (some ⟨b, off', none⟩) (m - k) xc').ownBlock = some q → (Value.slice ax xl cx).ownBlock = some q) := fun q e => HXB.out q e
              have hFk : F + k ≤ xl := by have := HMM.out; omega
              have HFk : Hid (¬ (cc < n3 ∧ cc < 30) → F + k = xl) := fun e => by have := HKF.out e; have := HMM.out; omega
              have HMK : Hid (m - k = xl - (F + k)) := by have := HMM.out; show _ = _; omega
              clear HKF HXB
              go_wp2_with fail
              obtain ⟨wo3, ewo3⟩ : ∃ x, x = wc := ⟨wc, rfl⟩
              subst ewo3
              go_loopw [16] (fun got wr => ∃ (i h : Nat) (ki : Option Nat) (ky : List UInt8), i ≤ n ∧ got = .int .i64 (i : Int) ∧ (cat Y i).length ≤ F + k ∧ (ky = keyB f key i ∨ ky = keyA f key i) ∧ Ends w1 wr (fun k => k = gk ∨ (Value.slice (some ⟨pg, 0, none⟩) n cp).ownBlock = some k ∨ (Value.slice ax xl cx).ownBlock = some k) go gi h ko ki (keyB f key n) n ky i (hold Y n i (F + k)) 0 ∧ PLs w1 wr (.slice (some ⟨pg, 0, none⟩) n cp) ps ∧ BSl wr (.slice (some ⟨gk, 0, none⟩) 32 32) key ∧ BSl wr (.slice (some ⟨b, off', none⟩) (m - k) xc') ((cat Y n).drop (F + k))) (fun got _ => n - (intOf got).toNat)
              case atStart => exact ⟨i, h31, ki, ky, by omega, rfl, HDF31.out, HKY.out, HE31.out, HP31.out, HS31.out, HBX'.out⟩
              case round =>
                clear HE31 HP31 HS31 HBX' HKY HDF31
                obtain ⟨i, h, ki, ky, hin2, rfl, hDF, hky, he, hp, hs, hbx⟩ := hrel
                have HE := hidden he
                have HP := hidden hp
                have HS := hidden hs
                have HBX := hidden hbx
                have HKY := hidden hky
                have HDF := hidden hDF
                clear he hp hs hbx hky hDF
                by_cases hil : i < n
                · have hil' : (i : Int) < (n : Int) := by omega
                  obtain ⟨wo4, ewo4⟩ : ∃ x, x = wr := ⟨wr, rfl⟩
                  subst ewo4
                  go_upto_region 28 with fail
                  go_cut [122] from 110 to 147 (fun bv wx => bv = .bool false ∧ ∃ ki' : Option Nat, Ends w1 wx (fun k => k = gk ∨ (Value.slice (some ⟨pg, 0, none⟩) n cp).ownBlock = some k ∨ (Value.slice ax xl cx).ownBlock = some k) go gi h ko ki' (keyB f key n) n (keyA f key i) i (hold Y n i (F + k)) 0 ∧ PLs w1 wx (.slice (some ⟨pg, 0, none⟩) n cp) ps ∧ BSl wx (.slice (some ⟨gk, 0, none⟩) 32 32) key ∧ BSl wx (.slice (some ⟨b, off', none⟩) (m - k) xc') ((cat Y n).drop (F + k)))
                  case first =>
                    by_cases hif : i = f
                    · have hif1 : ((i : Int) == (f : Int)) = true := by simp; omega
                      have HKE : Hid (keyA f key i = key) := by show _ = _; rw [hif, keyA_at]
                      clear hif
                      go_wp2_with fail
                      refine (ends_ikeys HE.out _ key HS.out HKL.out).mono ?_
                      rintro e w8 ⟨rfl, ki8, he8, hk8⟩
                      have HF8 : Hid (Ends w1 w8 (fun k => k = gk ∨ (Value.slice (some ⟨pg, 0, none⟩) n cp).ownBlock = some k ∨ (Value.slice ax xl cx).ownBlock = some k) go gi h ko ki8 (keyB f key n) n (keyA f key i) i (hold Y n i (F + k)) 0 ∧ PLs w1 w8 (.slice (some ⟨pg, 0, none⟩) n cp) ps ∧ BSl w8 (.slice (some ⟨gk, 0, none⟩) 32 32) key ∧ BSl w8 (.slice (some ⟨b, off', none⟩) (m - k) xc') ((cat Y n).drop (F + k))) :=
                        ⟨by rw [HKE.out]; exact he8, HE.out.pls hk8 HP.out (fun k e => .inr (.inl e)), HE.out.bsl hk8 HS.out (fun k e => .inl (by simp [Value.ownBlock] at e; exact e.symm)), HE.out.bsl hk8 HBX.out (fun k e => .inr (.inr (HXB'.out k e)))⟩
                      clear he8 hk8
                      go_wp2_with fail
                      go_meet
                      case rel => exact ⟨rfl, ki8, HF8.out⟩
                    · have hif1 : ((i : Int) == (f : Int)) = false := by simp; omega
                      have HKE : Hid (ky = keyA f key i) := HKY.out.elim (fun e => e.trans (keyB_same f key i hif)) id
                      clear hif
                      go_wp2_with fail
                      go_meet
                      case rel => exact ⟨rfl, ki, by rw [← HKE.out]; exact HE.out, HP.out, HS.out, HBX.out⟩
                  case rest =>
                    clear HE HP HS HBX HKY
                    obtain ⟨hb122, ki8, he, hp, hs, hbx⟩ := hcut
                    have HE := hidden he
                    have HP := hidden hp
                    have HS := hidden hs
                    have HBX := hidden hbx
                    subst hb122
                    clear he hp hs hbx
                    have hej := HEACH.out i hil
                    have hNX := ends_next HE.out HCL1.out (by have h1 := hold_len Y n i (F + k); have h2 := HXL.out; omega) (by omega)
                    by_cases hD : (cat Y (i + 1)).length ≤ F + k
                    · have hT := hold_told f HKL.out ps n i (F + k) hil hej (by rw [HYY.out]; exact hD)
                      rw [HYY.out] at hT
                      rw [hT] at hNX
                      have HNX := hidden hNX
                      clear hNX hT
                      go_wp2_with fail
                      refine HNX.out.mono ?_
                      rintro e w32 ⟨v32, h32, rfl, hb32, _, he32, hk32⟩
                      have HE8 := hidden he32
                      have HP8 := hidden (HE.out.pls hk32 HP.out (fun k e => .inr (.inl e)))
                      have HS8 := hidden (HE.out.bsl hk32 HS.out (fun k e => .inl (by simp [Value.ownBlock] at e; exact e.symm)))
                      have HBX8 := hidden (HE.out.bsl hk32 HBX.out (fun k e => .inr (.inr (HXB'.out k e))))
                      obtain ⟨u, hcell, hbs⟩ := HP8.out.get HE8.out.b i (by have := HN.out; omega)
                      have HB8 := hidden hb32
                      have HBU := hidden hbs
                      have HCE := hidden hcell
                      have HIJ : Hid (i < n) := hil
                      have HD9 := hidden hD
                      obtain ⟨a8, c8, e8⟩ := hb32.len
                      obtain ⟨au, cu, eu⟩ := hbs.len
                      clear hej
                      generalize (ps.getD i []) = P at *
                      generalize P.length = pl at e8 eu
                      subst e8 eu
                      clear hb32 hbs he32 hk32 HNX hcell HE HP HS HBX hD
                      go_wp2_with fail
                      refine region_free [(.val (.int .i64 0)), (.val (.bool false)), (.val (.bool false)), (.val (.bool true)), (.val (.bool true)), (.val (.slice a8 pl c8)), (.val (.string ⟨(List.toArray P)⟩)), (.val (.slice (some ⟨pg, 0, none⟩) n cp)), (.val (.int .i64 (i : Int))), (.val (.pointer (some ⟨pg, i, none⟩))), (.val (.slice au pl cu)), (.val (.string ⟨(List.toArray P)⟩)), (.val (.bool false)), (.val (.bool false)), (.val (.bool false))] (by kernel_rfl) ?_ ?_
                      · refine req_cons (.val (.int .i64 0)) (by kernel_rfl) (fun vs w1 he hd => StepG.plain (by kernel_rfl) (gives_move (x := (.tmp 21)) (v := (.int .i64 0)) (by kernel_rfl) (by kernel_rfl) ⟨Ex.refl _, rfl⟩)) ?_
                        refine req_cons (.val (.bool false)) (by kernel_rfl) (fun vs w1 he hd => StepG.plain (by kernel_rfl) (gives_neI (t := 30) (k := .i64) (a := 0) (b := 0) (x := (.tmp 129)) (y := (.const (.int .i64 0))) (r := false) (by kernel_rfl) (Eq.trans (b := vs 0) (by kernel_rfl) (hd 0 (.val (.int .i64 0)) (by kernel_rfl) (by kernel_rfl))) (by kernel_rfl) (by simp) ⟨Ex.refl _, rfl⟩)) ?_
                        refine req_cons (.val (.bool false)) (by kernel_rfl) (fun vs w1 he hd => StepG.plain (by kernel_rfl) (gives_move (x := (.tmp 130)) (v := (.bool false)) (by kernel_rfl) (Eq.trans (b := vs 1) (by kernel_rfl) (hd 1 (.val (.bool false)) (by kernel_rfl) (by kernel_rfl))) ⟨Ex.refl _, rfl⟩)) ?_
                        refine req_cons (.val (.bool true)) (by kernel_rfl) (fun vs w1 he hd => StepG.on (g := 2) (d := 131) (x := false) (v := vs 2) (by kernel_rfl) (by kernel_rfl) (by kernel_rfl) (hd 2 (.val (.bool false)) (by kernel_rfl) (by kernel_rfl)) (gives_move (x := (.tmp 20)) (v := (.bool true)) (by kernel_rfl) (by kernel_rfl) ⟨Ex.refl _, rfl⟩)) ?_
                        refine req_cons (.val (.bool true)) (by kernel_rfl) (fun vs w1 he hd => StepG.on (g := 2) (d := 131) (x := false) (v := vs 2) (by kernel_rfl) (by kernel_rfl) (by kernel_rfl) (hd 2 (.val (.bool false)) (by kernel_rfl) (by kernel_rfl)) (gives_move (x := (.tmp 132)) (v := (.bool true)) (by kernel_rfl) (Eq.trans (b := vs 3) (by kernel_rfl) (hd 3 (.val (.bool true)) (by kernel_rfl) (by kernel_rfl))) ⟨Ex.refl _, rfl⟩)) ?_
                        refine req_cons (.val (.slice a8 pl c8)) (by kernel_rfl) (fun vs w1 he hd => StepG.on (g := 4) (d := 133) (x := true) (v := vs 4) (by kernel_rfl) (by kernel_rfl) (by kernel_rfl) (hd 4 (.val (.bool true)) (by kernel_rfl) (by kernel_rfl)) (gives_move (x := (.tmp 19)) (v := (.slice a8 pl c8)) (by kernel_rfl) (by kernel_rfl) ⟨Ex.refl _, rfl⟩)) ?_
                        refine req_cons (.val (.string ⟨(List.toArray P)⟩)) (by kernel_rfl) (fun vs w1 he hd => StepG.on (g := 4) (d := 133) (x := true) (v := vs 4) (by kernel_rfl) (by kernel_rfl) (by kernel_rfl) (hd 4 (.val (.bool true)) (by kernel_rfl) (by kernel_rfl)) (gives_str (x := (.tmp 134)) (v := (.slice a8 pl c8)) (xs := P) (by kernel_rfl) (Eq.trans (b := vs 5) (by kernel_rfl) (hd 5 (.val (.slice a8 pl c8)) (by kernel_rfl) (by kernel_rfl))) ((HB8.out.fresh he)) ⟨Ex.refl _, rfl⟩)) ?_
                        refine req_cons (.val (.slice (some ⟨pg, 0, none⟩) n cp)) (by kernel_rfl) (fun vs w1 he hd => StepG.on (g := 4) (d := 133) (x := true) (v := vs 4) (by kernel_rfl) (by kernel_rfl) (by kernel_rfl) (hd 4 (.val (.bool true)) (by kernel_rfl) (by kernel_rfl)) (gives_move (x := (.tmp 9)) (v := (.slice (some ⟨pg, 0, none⟩) n cp)) (by kernel_rfl) (by kernel_rfl) ⟨Ex.refl _, rfl⟩)) ?_
                        refine req_cons (.val (.int .i64 (i : Int))) (by kernel_rfl) (fun vs w1 he hd => StepG.on (g := 4) (d := 133) (x := true) (v := vs 4) (by kernel_rfl) (by kernel_rfl) (by kernel_rfl) (hd 4 (.val (.bool true)) (by kernel_rfl) (by kernel_rfl)) (gives_move (x := (.tmp 16)) (v := (.int .i64 (i : Int))) (by kernel_rfl) (by kernel_rfl) ⟨Ex.refl _, rfl⟩)) ?_
                        refine req_cons (.val (.pointer (some ⟨pg, i, none⟩))) (by kernel_rfl) (fun vs w1 he hd => StepG.on (g := 4) (d := 133) (x := true) (v := vs 4) (by kernel_rfl) (by kernel_rfl) (by kernel_rfl) (hd 4 (.val (.bool true)) (by kernel_rfl) (by kernel_rfl)) (gives_index (n := n) (cp := cp) HIJ.out (x := .tmp 136) (y := .tmp 137) (by kernel_rfl) (Eq.trans (b := vs 7) (by kernel_rfl) (hd 7 (.val (.slice (some ⟨pg, 0, none⟩) n cp)) (by kernel_rfl) (by kernel_rfl))) (Eq.trans (b := vs 8) (by kernel_rfl) (hd 8 (.val (.int .i64 (i : Int))) (by kernel_rfl) (by kernel_rfl))) ⟨Ex.refl _, rfl⟩)) ?_
                        refine req_cons (.val (.slice au pl cu)) (by kernel_rfl) (fun vs w1 he hd => StepG.on (g := 4) (d := 133) (x := true) (v := vs 4) (by kernel_rfl) (by kernel_rfl) (by kernel_rfl) (hd 4 (.val (.bool true)) (by kernel_rfl) (by kernel_rfl)) (gives_load (x := .tmp 138) (v := .slice au pl cu) (by kernel_rfl) (Eq.trans (b := vs 9) (by kernel_rfl) (hd 9 (.val (.pointer (some ⟨pg, i, none⟩))) (by kernel_rfl) (by kernel_rfl))) (cell_kept HCE.out he) ⟨Ex.refl _, rfl⟩)) ?_
                        refine req_cons (.val (.string ⟨(List.toArray P)⟩)) (by kernel_rfl) (fun vs w1 he hd => StepG.on (g := 4) (d := 133) (x := true) (v := vs 4) (by kernel_rfl) (by kernel_rfl) (by kernel_rfl) (hd 4 (.val (.bool true)) (by kernel_rfl) (by kernel_rfl)) (gives_str (x := (.tmp 139)) (v := (.slice au pl cu)) (xs := P) (by kernel_rfl) (Eq.trans (b := vs 10) (by kernel_rfl) (hd 10 (.val (.slice au pl cu)) (by kernel_rfl) (by kernel_rfl))) ((HBU.out.fresh he)) ⟨Ex.refl _, rfl⟩)) ?_
                        refine req_cons (.val (.bool false)) (by kernel_rfl) (fun vs w1 he hd => StepG.on (g := 4) (d := 133) (x := true) (v := vs 4) (by kernel_rfl) (by kernel_rfl) (by kernel_rfl) (hd 4 (.val (.bool true)) (by kernel_rfl) (by kernel_rfl)) (gives_neS (x := (.tmp 135)) (y := (.tmp 140)) (xs := P) (ys := P) (r := false) (by kernel_rfl) (Eq.trans (b := vs 6) (by kernel_rfl) (hd 6 (.val (.string ⟨(List.toArray P)⟩)) (by kernel_rfl) (by kernel_rfl))) (Eq.trans (b := vs 11) (by kernel_rfl) (hd 11 (.val (.string ⟨(List.toArray P)⟩)) (by kernel_rfl) (by kernel_rfl))) (by simp) ⟨Ex.refl _, rfl⟩)) ?_
                        refine req_cons (.val (.bool false)) (by kernel_rfl) (fun vs w1 he hd => StepG.on (g := 2) (d := 131) (x := false) (v := vs 2) (by kernel_rfl) (by kernel_rfl) (by kernel_rfl) (hd 2 (.val (.bool false)) (by kernel_rfl) (by kernel_rfl)) (gives_pick_t (x := (.tmp 133)) (y := (.tmp 141)) (z := (.const (.bool false))) (v := (.bool false)) (by kernel_rfl) (Eq.trans (b := vs 4) (by kernel_rfl) (hd 4 (.val (.bool true)) (by kernel_rfl) (by kernel_rfl))) (Eq.trans (b := vs 12) (by kernel_rfl) (hd 12 (.val (.bool false)) (by kernel_rfl) (by kernel_rfl))) ⟨Ex.refl _, rfl⟩)) ?_
                        refine req_cons (.val (.bool false)) (by kernel_rfl) (fun vs w1 he hd => StepG.plain (by kernel_rfl) (gives_pick_f (x := (.tmp 131)) (y := (.const (.bool true))) (z := (.tmp 142)) (v := (.bool false)) (by kernel_rfl) (Eq.trans (b := vs 2) (by kernel_rfl) (hd 2 (.val (.bool false)) (by kernel_rfl) (by kernel_rfl))) (Eq.trans (b := vs 13) (by kernel_rfl) (hd 13 (.val (.bool false)) (by kernel_rfl) (by kernel_rfl))) ⟨Ex.refl _, rfl⟩)) ?_
                        exact req_nil
                      intro vs w33 hx hF
                      have e0 : vs 0 = (.int .i64 0) := told_at hF 0 (.val (.int .i64 0)) (by decide) (by kernel_rfl)
                      have e1 : vs 1 = (.bool false) := told_at hF 1 (.val (.bool false)) (by decide) (by kernel_rfl)
                      have e2 : vs 2 = (.bool false) := told_at hF 2 (.val (.bool false)) (by decide) (by kernel_rfl)
                      have e3 : vs 3 = (.bool true) := told_at hF 3 (.val (.bool true)) (by decide) (by kernel_rfl)
                      have e4 : vs 4 = (.bool true) := told_at hF 4 (.val (.bool true)) (by decide) (by kernel_rfl)
                      have e5 : vs 5 = (.slice a8 pl c8) := told_at hF 5 (.val (.slice a8 pl c8)) (by decide) (by kernel_rfl)
                      have e6 : vs 6 = (.string ⟨(List.toArray P)⟩) := told_at hF 6 (.val (.string ⟨(List.toArray P)⟩)) (by decide) (by kernel_rfl)
                      have e7 : vs 7 = (.slice (some ⟨pg, 0, none⟩) n cp) := told_at hF 7 (.val (.slice (some ⟨pg, 0, none⟩) n cp)) (by decide) (by kernel_rfl)
                      have e8 : vs 8 = (.int .i64 (i : Int)) := told_at hF 8 (.val (.int .i64 (i : Int))) (by decide) (by kernel_rfl)
                      have e9 : vs 9 = (.pointer (some ⟨pg, i, none⟩)) := told_at hF 9 (.val (.pointer (some ⟨pg, i, none⟩))) (by decide) (by kernel_rfl)
                      have e10 : vs 10 = (.slice au pl cu) := told_at hF 10 (.val (.slice au pl cu)) (by decide) (by kernel_rfl)
                      have e11 : vs 11 = (.string ⟨(List.toArray P)⟩) := told_at hF 11 (.val (.string ⟨(List.toArray P)⟩)) (by decide) (by kernel_rfl)
                      have e12 : vs 12 = (.bool false) := told_at hF 12 (.val (.bool false)) (by decide) (by kernel_rfl)
                      have e13 : vs 13 = (.bool false) := told_at hF 13 (.val (.bool false)) (by decide) (by kernel_rfl)
                      have e14 : vs 14 = (.bool false) := told_at hF 14 (.val (.bool false)) (by decide) (by kernel_rfl)
                      simp only [List.length_cons, List.length_nil, actsTo, if_true, dstOf, List.getElem?_toArray, List.getElem?_cons_succ, List.getElem?_cons_zero, Option.bind_some, Act.put, List.setIfInBounds_toArray, List.set_cons_zero, List.set_cons_succ]
                      simp only [e0, e1, e2, e3, e4, e5, e6, e7, e8, e9, e10, e11, e12, e13, e14]
                      clear hF e0 e1 e2 e3 e4 e5 e6 e7 e8 e9 e10 e11 e12 e13 e14 vs
                      have HE9 := hidden (HE8.out.fresh hx)
                      have HP9 := hidden (HP8.out.fresh hx)
                      have HS9 := hidden (HS8.out.fresh hx)
                      have HBX9 := hidden (HBX8.out.fresh hx)
                      clear hx HE8 HP8 HB8 HBU HCE HS8 HBX8
                      go_wp2
                      go_roundw
                      case rel => exact ⟨i + 1, h32, ki8, keyA f key i, by omega, by go_num, HD9.out, .inl (keyB_succ f key i).symm, HE9.out, HP9.out, HS9.out, HBX9.out⟩
                      case measure => simp [intOf]; omega
                    · have hT := hold_short f HKL.out ps n i (F + k) hil hej (by rw [HYY.out]; omega) (by rw [HYY.out]; exact HDF.out)
                      rw [HYY.out] at hT
                      rw [hT] at hNX
                      have HNX := hidden hNX
                      have HFC : Hid (cc < n3 ∧ cc < 30) := Classical.byContradiction fun e => by
                        have h1 := HFk.out e
                        have h2 := cat_le Y (i + 1) n (by omega)
                        have h3 := HXL.out
                        omega
                      clear hNX hT
                      go_wp2_with fail
                      refine HNX.out.mono ?_
                      rintro e w32 ⟨rfl, he32, hk32⟩
                      have HE8 := hidden he32
                      have HP8 := hidden (HE.out.pls hk32 HP.out (fun k e => .inr (.inl e)))
                      have HS8 := hidden (HE.out.bsl hk32 HS.out (fun k e => .inl (by simp [Value.ownBlock] at e; exact e.symm)))
                      have HBX8 := hidden (HE.out.bsl hk32 HBX.out (fun k e => .inr (.inr (HXB'.out k e))))
                      clear he32 hk32 HNX HE HP HS HBX hD hej
                      have hc40 : ¬ (40 : Int) < (cc : Int) := by omega
                      go_wp2_with fail
                      refine region_free [(.val (.int .i64 0)), (.val (.bool false)), (.val (.bool false)), (.val (.bool false)), (.val (.bool false)), (.val undef), (.val undef), (.val undef), (.val undef), (.val undef), (.val undef), (.val undef), (.val undef), (.val (.bool false)), (.val (.bool false))] (by kernel_rfl) ?_ ?_
                      · refine req_cons (.val (.int .i64 0)) (by kernel_rfl) (fun vs w1 he hd => StepG.plain (by kernel_rfl) (gives_move (x := (.tmp 21)) (v := (.int .i64 0)) (by kernel_rfl) (by kernel_rfl) ⟨Ex.refl _, rfl⟩)) ?_
                        refine req_cons (.val (.bool false)) (by kernel_rfl) (fun vs w1 he hd => StepG.plain (by kernel_rfl) (gives_neI (t := 30) (k := .i64) (a := 0) (b := 0) (x := (.tmp 129)) (y := (.const (.int .i64 0))) (r := false) (by kernel_rfl) (Eq.trans (b := vs 0) (by kernel_rfl) (hd 0 (.val (.int .i64 0)) (by kernel_rfl) (by kernel_rfl))) (by kernel_rfl) (by simp) ⟨Ex.refl _, rfl⟩)) ?_
                        refine req_cons (.val (.bool false)) (by kernel_rfl) (fun vs w1 he hd => StepG.plain (by kernel_rfl) (gives_move (x := (.tmp 130)) (v := (.bool false)) (by kernel_rfl) (Eq.trans (b := vs 1) (by kernel_rfl) (hd 1 (.val (.bool false)) (by kernel_rfl) (by kernel_rfl))) ⟨Ex.refl _, rfl⟩)) ?_
                        refine req_cons (.val (.bool false)) (by kernel_rfl) (fun vs w1 he hd => StepG.on (g := 2) (d := 131) (x := false) (v := vs 2) (by kernel_rfl) (by kernel_rfl) (by kernel_rfl) (hd 2 (.val (.bool false)) (by kernel_rfl) (by kernel_rfl)) (gives_move (x := (.tmp 20)) (v := (.bool false)) (by kernel_rfl) (by kernel_rfl) ⟨Ex.refl _, rfl⟩)) ?_
                        refine req_cons (.val (.bool false)) (by kernel_rfl) (fun vs w1 he hd => StepG.on (g := 2) (d := 131) (x := false) (v := vs 2) (by kernel_rfl) (by kernel_rfl) (by kernel_rfl) (hd 2 (.val (.bool false)) (by kernel_rfl) (by kernel_rfl)) (gives_move (x := (.tmp 132)) (v := (.bool false)) (by kernel_rfl) (Eq.trans (b := vs 3) (by kernel_rfl) (hd 3 (.val (.bool false)) (by kernel_rfl) (by kernel_rfl))) ⟨Ex.refl _, rfl⟩)) ?_
                        refine req_cons (.val undef) (by kernel_rfl) (fun vs w1 he hd => StepG.off (g := 4) (d := 133) (x := true) (v := vs 4) (by kernel_rfl) (by kernel_rfl) (by kernel_rfl) (.inl (hd 4 (.val (.bool false)) (by kernel_rfl) (by kernel_rfl))) ⟨Ex.refl _, rfl⟩) ?_
                        refine req_cons (.val undef) (by kernel_rfl) (fun vs w1 he hd => StepG.off (g := 4) (d := 133) (x := true) (v := vs 4) (by kernel_rfl) (by kernel_rfl) (by kernel_rfl) (.inl (hd 4 (.val (.bool false)) (by kernel_rfl) (by kernel_rfl))) ⟨Ex.refl _, rfl⟩) ?_
                        refine req_cons (.val undef) (by kernel_rfl) (fun vs w1 he hd => StepG.off (g := 4) (d := 133) (x := true) (v := vs 4) (by kernel_rfl) (by kernel_rfl) (by kernel_rfl) (.inl (hd 4 (.val (.bool false)) (by kernel_rfl) (by kernel_rfl))) ⟨Ex.refl _, rfl⟩) ?_
                        refine req_cons (.val undef) (by kernel_rfl) (fun vs w1 he hd => StepG.off (g := 4) (d := 133) (x := true) (v := vs 4) (by kernel_rfl) (by kernel_rfl) (by kernel_rfl) (.inl (hd 4 (.val (.bool false)) (by kernel_rfl) (by kernel_rfl))) ⟨Ex.refl _, rfl⟩) ?_
                        refine req_cons (.val undef) (by kernel_rfl) (fun vs w1 he hd => StepG.off (g := 4) (d := 133) (x := true) (v := vs 4) (by kernel_rfl) (by kernel_rfl) (by kernel_rfl) (.inl (hd 4 (.val (.bool false)) (by kernel_rfl) (by kernel_rfl))) ⟨Ex.refl _, rfl⟩) ?_
                        refine req_cons (.val undef) (by kernel_rfl) (fun vs w1 he hd => StepG.off (g := 4) (d := 133) (x := true) (v := vs 4) (by kernel_rfl) (by kernel_rfl) (by kernel_rfl) (.inl (hd 4 (.val (.bool false)) (by kernel_rfl) (by kernel_rfl))) ⟨Ex.refl _, rfl⟩) ?_
                        refine req_cons (.val undef) (by kernel_rfl) (fun vs w1 he hd => StepG.off (g := 4) (d := 133) (x := true) (v := vs 4) (by kernel_rfl) (by kernel_rfl) (by kernel_rfl) (.inl (hd 4 (.val (.bool false)) (by kernel_rfl) (by kernel_rfl))) ⟨Ex.refl _, rfl⟩) ?_
                        refine req_cons (.val undef) (by kernel_rfl) (fun vs w1 he hd => StepG.off (g := 4) (d := 133) (x := true) (v := vs 4) (by kernel_rfl) (by kernel_rfl) (by kernel_rfl) (.inl (hd 4 (.val (.bool false)) (by kernel_rfl) (by kernel_rfl))) ⟨Ex.refl _, rfl⟩) ?_
                        refine req_cons (.val (.bool false)) (by kernel_rfl) (fun vs w1 he hd => StepG.on (g := 2) (d := 131) (x := false) (v := vs 2) (by kernel_rfl) (by kernel_rfl) (by kernel_rfl) (hd 2 (.val (.bool false)) (by kernel_rfl) (by kernel_rfl)) (gives_pick_f (x := (.tmp 133)) (y := (.tmp 141)) (z := (.const (.bool false))) (v := (.bool false)) (by kernel_rfl) (Eq.trans (b := vs 4) (by kernel_rfl) (hd 4 (.val (.bool false)) (by kernel_rfl) (by kernel_rfl))) (by kernel_rfl) ⟨Ex.refl _, rfl⟩)) ?_
                        refine req_cons (.val (.bool false)) (by kernel_rfl) (fun vs w1 he hd => StepG.plain (by kernel_rfl) (gives_pick_f (x := (.tmp 131)) (y := (.const (.bool true))) (z := (.tmp 142)) (v := (.bool false)) (by kernel_rfl) (Eq.trans (b := vs 2) (by kernel_rfl) (hd 2 (.val (.bool false)) (by kernel_rfl) (by kernel_rfl))) (Eq.trans (b := vs 13) (by kernel_rfl) (hd 13 (.val (.bool false)) (by kernel_rfl) (by kernel_rfl))) ⟨Ex.refl _, rfl⟩)) ?_
                        exact req_nil
                      intro vs w33 hx hF
                      have e0 : vs 0 = (.int .i64 0) := told_at hF 0 (.val (.int .i64 0)) (by decide) (by kernel_rfl)
                      have e1 : vs 1 = (.bool false) := told_at hF 1 (.val (.bool false)) (by decide) (by kernel_rfl)
                      have e2 : vs 2 = (.bool false) := told_at hF 2 (.val (.bool false)) (by decide) (by kernel_rfl)
                      have e3 : vs 3 = (.bool false) := told_at hF 3 (.val (.bool false)) (by decide) (by kernel_rfl)
                      have e4 : vs 4 = (.bool false) := told_at hF 4 (.val (.bool false)) (by decide) (by kernel_rfl)
                      have e5 : vs 5 = undef := told_at hF 5 (.val undef) (by decide) (by kernel_rfl)
                      have e6 : vs 6 = undef := told_at hF 6 (.val undef) (by decide) (by kernel_rfl)
                      have e7 : vs 7 = undef := told_at hF 7 (.val undef) (by decide) (by kernel_rfl)
                      have e8 : vs 8 = undef := told_at hF 8 (.val undef) (by decide) (by kernel_rfl)
                      have e9 : vs 9 = undef := told_at hF 9 (.val undef) (by decide) (by kernel_rfl)
                      have e10 : vs 10 = undef := told_at hF 10 (.val undef) (by decide) (by kernel_rfl)
                      have e11 : vs 11 = undef := told_at hF 11 (.val undef) (by decide) (by kernel_rfl)
                      have e12 : vs 12 = undef := told_at hF 12 (.val undef) (by decide) (by kernel_rfl)
                      have e13 : vs 13 = (.bool false) := told_at hF 13 (.val (.bool false)) (by decide) (by kernel_rfl)
                      have e14 : vs 14 = (.bool false) := told_at hF 14 (.val (.bool false)) (by decide) (by kernel_rfl)
                      simp only [List.length_cons, List.length_nil, actsTo, if_true, dstOf, List.getElem?_toArray, List.getElem?_cons_succ, List.getElem?_cons_zero, Option.bind_some, Act.put, List.setIfInBounds_toArray, List.set_cons_zero, List.set_cons_succ]
                      simp only [e0, e1, e2, e3, e4, e5, e6, e7, e8, e9, e10, e11, e12, e13, e14]
                      clear hF e0 e1 e2 e3 e4 e5 e6 e7 e8 e9 e10 e11 e12 e13 e14 vs
                      have HE9 := hidden (HE8.out.fresh hx)
                      have HP9 := hidden (HP8.out.fresh hx)
                      have HS9 := hidden (HS8.out.fresh hx)
                      have HBX9 := hidden (HBX8.out.fresh hx)
                      clear hx HE8 HP8 HS8 HBX8
                      go_wp2
                      go_roundw
                      case rel => exact ⟨i, cc + 1, F + k, some ⟨b, off', none⟩, xc', h, ki8, keyA f key i, by omega, hFk, HDF.out, by omega, .inl ⟨by have := HFC.out; omega, by have := HFC.out; omega⟩, rfl, by go_num, by rw [HMK.out], (fun _ => ⟨b, off', rfl⟩), HBX9.out, HXB'.out, .inr rfl, HE9.out, HP9.out, HS9.out⟩
                      case measure => simp [intOf]; omega
                · have hil' : ¬ (i : Int) < (n : Int) := by omega
                  have hc40 : ¬ (40 : Int) < (cc : Int) := by omega
                  have HFN : Hid (i = n ∧ F + k = xl) := by
                    have e1 : i = n := by omega
                    refine ⟨e1, ?_⟩
                    have h1 := HDF.out
                    rw [e1] at h1
                    have h3 := HXL.out
                    omega
                  go_wp2
                  go_roundw
                  case rel => exact ⟨i, cc + 1, F + k, some ⟨b, off', none⟩, xc', h, ki, ky, by omega, hFk, HDF.out, by omega, .inr HFN.out, rfl, by go_num, by rw [HMK.out], (fun _ => ⟨b, off', rfl⟩), HBX.out, HXB'.out, HKY.out, HE.out, HP.out, HS.out⟩
                  case measure => simp [intOf]; omega
