/- The walk of the law PacketTurned. -/
import Derived.Test.YthkaibkmpenclaaDoorPkT
namespace Go.Proofs.YthkaibkmpenclaaDoor
open Go Go.RowKit

/-- A byte of a new row is stored: both ends, and what others hold, stay. -/
theorem Ends.stored {W w w' : World} {K : Nat → Prop} {go gi h : Nat} {ko ki : Option Nat} {kyo kyi xs kyo' kyi' xs' : List UInt8} {co ci why co' ci' why' : Nat} (E : Ends W w K go gi h ko ki kyo co kyi ci xs why) (E' : Ends W w' K go gi h ko ki kyo' co' kyi' ci' xs' why') {g : Nat} (hg : w.heap.size ≤ g) (i : Nat) (x : Value) :
    Ends W (w'.setCell ⟨g, i, none⟩ x) K go gi h ko ki kyo' co' kyi' ci' xs' why' ∧ Keeps (fun k => k = g) w' (w'.setCell ⟨g, i, none⟩ x) := by
  have hk := keepSet (fun k => k = g) w' g i x rfl
  have b1 := E.out.blockLt
  have b2 := E.inn.blockLt
  have b3 := E.b.size
  refine ⟨⟨E'.out.keep hk (by omega) (fun k e => by have := E.out.lt k e; omega), E'.inn.keep hk (by omega) (by omega) (fun k e => by have := E.inn.lt k e; omega), E'.b.trans (hk.below E'.b.size (fun k e => by omega)), E'.ne, E'.lo, fun k hk => ⟨by rw [World.size_setCell]; exact (E'.res k hk).1, (E'.res k hk).2⟩⟩, hk⟩
/-- What is fed: the packets, one of them turned. -/
def fedY (key : List UInt8) (ps : List (List UInt8)) (wh kk : Nat) (t : UInt8) (j : Nat) : List UInt8 :=
  if j = wh then turnL (packetL key j (ps.getD j [])) ((packetL key j (ps.getD j [])).length - 16 + kk) t else packetL key j (ps.getD j [])
theorem fedY_len {key : List UInt8} (hk : KeyOk key) (ps : List (List UInt8)) (wh kk : Nat) (t : UInt8) (j : Nat) (hp : (ps.getD j []).length ≤ 200) : (fedY key ps wh kk t j).length ≤ 332 := by
  have := packetL_le hk j (ps.getD j []) (by omega)
  unfold fedY turnL
  split
  · rw [List.length_set]; omega
  · omega
set_option maxHeartbeats 3200000 in
set_option maxRecDepth 100000 in
theorem packetTurned_c (v0 v1 : Value) (n0 : Nat) (z1 : List UInt8) (a2 a3 : Int) (t : UInt8) (w : World) (hcl : Cl w) (h0 : LSl w v0 n0) (h1 : BSl w v1 z1) :
    Calls Tryd.prog 8 #[v0, v1, .int .i64 a2, .int .i64 a3, .int .u8 (t.toNat : Int)] w fun e w' => e = .returned (.bool true) ∧ Below w.heap.size w w' := by
  have HCL := hidden hcl
  have HPL := hidden (payloads_c v0 n0 w h0)
  have H1 := hidden h1
  clear hcl h0 h1
  go_enter Tryd.func8, Tryd.ntmps8
  go_wp2_with fail
  refine HPL.out.mono ?_
  rintro e w1 ⟨vp, ps, rfl, hpl, hb1⟩
  have HP := hidden hpl
  have HB1 := hidden hb1
  obtain ⟨ap, cp, rfl⟩ := hpl.shape
  obtain ⟨n, hn⟩ : ∃ n, n = ps.length := ⟨_, rfl⟩
  have HN := hidden hn
  have hn12 : n ≤ 12 := by have := hpl.few; omega
  rw [← hn] at HP ⊢
  clear hpl hb1 hn HPL
  by_cases hz : n = 0 ∨ t = 0
  · have hz1 : ((n : Int) == 0) = true ∨ ((n : Int) == 0) = false := by cases ((n : Int) == 0) <;> simp
    have HKN := hidden (known_c w1 (HCL.out.fresh HB1.out))
    rcases hz1 with hz1 | hz1
    · clear hz
      go_wp2_with fail
      refine HKN.out.mono ?_
      rintro e w3 ⟨rfl, hb3⟩
      have HB3 : Hid (Below w.heap.size w w3) := HB1.out.trans (hb3.mono HB1.out.size)
      clear hb3
      go_wp2
      go_ret
      exact ⟨rfl, HB3.out⟩
    · have ht : t = 0 := hz.resolve_left (by simpa using hz1)
      have ht1 : ((t.toNat : Int) == 0) = true := by rw [ht]; rfl
      clear hz ht
      go_wp2_with fail
      refine HKN.out.mono ?_
      rintro e w3 ⟨rfl, hb3⟩
      have HB3 : Hid (Below w.heap.size w w3) := HB1.out.trans (hb3.mono HB1.out.size)
      clear hb3
      go_wp2
      go_ret
      exact ⟨rfl, HB3.out⟩
  have hz1 : ((n : Int) == 0) = false := by simp; omega
  have HT : Hid (t ≠ 0) := fun e => hz (.inr e)
  have ht1 : ((t.toNat : Int) == 0) = false := by
    have := HT.out
    simp
    intro e
    exact this (UInt8.toNat_inj.1 (by simpa using e))
  have hnpos : 1 ≤ n := by omega
  clear hz
  go_wp2_with fail
  refine (sized_b 32 (by omega) v1 z1 w1 (H1.out.fresh HB1.out)).mono ?_
  rintro e w2 ⟨rfl, hs2, hb2⟩
  have HS2 := hidden hs2
  have HP2 := hidden (HP.out.fresh hb2)
  have HB2 : Hid (Below w.heap.size w w2) := HB1.out.trans (hb2.mono HB1.out.size)
  have HKL := hidden (sizedL_length z1 32)
  generalize sizedL z1 32 = key at HS2 HKL
  have HPT : Hid (∀ k, (Value.slice ap n cp).ownBlock = some k → k < w1.heap.size) := fun k e => (HP.out.lt k e).2
  have HGK1 : Hid (w1.heap.size < w2.heap.size) := by
    obtain ⟨b, o, c, e, hlt⟩ := HS2.out.nonnil (by intro e; have := HKL.out; rw [e] at this; simp at this)
    have e2 := congrArg Value.ownBlock e
    simp [Value.ownBlock] at e2
    show _ < _
    omega
  generalize hgk : w1.heap.size = gk at HS2 HPT HGK1 ⊢
  have HGK := hidden hgk
  clear hs2 hb2 hgk HP
  go_wp2_with fail
  refine (newOut_c w2).mono ?_
  rintro e w3 ⟨rfl, ho3, hb3⟩
  have HO3 := hidden ho3
  have HB3 := hidden hb3
  clear ho3 hb3
  go_wp2_with fail
  refine (newIn_c w3).mono ?_
  rintro e w4 ⟨rfl, hi4, hb4⟩
  have HE4 : Hid (Ends w w4 (fun k => k = gk ∨ (Value.slice ap n cp).ownBlock = some k) w2.heap.size w3.heap.size w3.heap.size none none [] 0 [] 0 [] 0) :=
    ends_new (HB2.out.trans (HB3.out.mono HB2.out.size)) HO3.out HB2.out.size hi4 hb4 (fun k hk => by
      rcases hk with rfl | e
      · exact HGK1.out
      · have := HPT.out k e; have := HGK1.out; omega)
  have HS4 := hidden ((HS2.out.fresh HB3.out).fresh hb4)
  have HP4 := hidden ((HP2.out.fresh HB3.out).fresh hb4)
  generalize w2.heap.size = go at HE4 ⊢
  generalize w3.heap.size = gi at HE4 ⊢
  clear hi4 hb4 HS2 HP2 HO3 HB3 HPT HGK1 HB2 HB1
  go_wp2_with fail
  refine (ends_okeys HE4.out _ key HS4.out HKL.out).mono ?_
  rintro e w5 ⟨rfl, ko5, he5, hk5⟩
  have HE5 := hidden he5
  have HS5 := hidden (HE4.out.bsl hk5 HS4.out (fun k e => by simp [Value.ownBlock] at e; exact .inl e.symm))
  have HP5 := hidden (HE4.out.pls hk5 HP4.out (fun k e => .inr e))
  clear he5 hk5 HE4 HS4 HP4
  go_wp2_with fail
  refine (ends_ikeys HE5.out _ key HS5.out HKL.out).mono ?_
  rintro e w6 ⟨rfl, ki6, he6, hk6⟩
  have HE6 := hidden (he6.more (K' := fun k => (Value.slice ap n cp).ownBlock = some k) (fun k e => he6.res k (.inr e)))
  have HP6 := hidden (HE5.out.pls hk6 HP5.out (fun k e => .inr e))
  clear he6 hk6 HE5 HS5 HP5
  have hnb : (n : Int) ≤ 12 := by omega
  have hWI := within_x a2 (n - 1) (by omega) w6
  have hwh := wn_le a2 (n - 1)
  rw [show (((n - 1 : Nat)) : Int) = (n : Int) - 1 by omega] at hWI
  generalize wn a2 (n - 1) = wh at hWI hwh
  have HWI := hidden hWI
  have hwn : wh < n := by omega
  clear hWI hwh
  go_wp2_with fail
  refine HWI.out.mono ?_
  rintro e w7 ⟨rfl, hw7⟩
  subst hw7
  clear HWI
  have hWK := fun wx => within_x a3 15 (by omega) wx
  have hkk := wn_le a3 15
  generalize wn a3 15 = kk at hWK hkk
  have HWK := hidden hWK
  have HKK := hidden hkk
  clear hWK hkk
  have HEACH : Hid (∀ i, i < n → 1 ≤ (ps.getD i []).length ∧ (ps.getD i []).length ≤ 200) := fun i hi => HP6.out.each i (by have := HN.out; omega)
  have HYL : Hid (∀ j m, j + m ≤ n → (seg (fedY key ps wh kk t) j m).length ≤ 4000) := fun j m hm => by
    have := seg_len (fedY key ps wh kk t) 332 j m (fun i _ hi => fedY_len (.inr HKL.out) ps wh kk t i (HEACH.out i (by omega)).2)
    omega
  obtain ⟨pg, hpg⟩ : ∃ pg, ap = some ⟨pg, 0, none⟩ := by
    obtain ⟨g, cap, u, e, _⟩ := HP6.out.at HE6.out.b 0 (by have := HN.out; omega)
    cases e
    exact ⟨g, rfl⟩
  subst hpg
  have hcpm : n ≤ cp ∧ cp ≤ maxLen := by
    obtain ⟨g, cap, u, e, _, _, h1, h2⟩ := HP6.out.at HE6.out.b 0 (by have := HN.out; omega)
    cases e
    exact ⟨by have := HN.out; omega, h2⟩
  obtain ⟨hcp1, hcp2⟩ := hcpm
  unfold maxLen at hcp2
  go_wp2_with fail
  go_loopw [14] (fun c wr => ∃ (j h : Nat), j ≤ n ∧ c = .int .i64 (j : Int) ∧ Ends w wr (fun k => (Value.slice (some ⟨pg, 0, none⟩) n cp).ownBlock = some k) go gi h ko5 ki6 key j key 0 (cat (fedY key ps wh kk t) j) 0 ∧ PLs w wr (.slice (some ⟨pg, 0, none⟩) n cp) ps) (fun c _ => n - (intOf c).toNat)
  case atStart => exact ⟨0, gi, by omega, rfl, HE6.out, HP6.out⟩
  case round =>
    clear HE6 HP6
    obtain ⟨j, h, hj, rfl, he, hp⟩ := hrel
    have HE := hidden he
    have HP := hidden hp
    clear he hp
    by_cases hlt : j < n
    · have hlt' : (j : Int) < (n : Int) := by omega
      obtain ⟨u, hcell, hbs⟩ := HP.out.get HE.out.b j (by have := HN.out; omega)
      have hej := HEACH.out j hlt
      have HPK := hidden (ends_packet HE.out HCL.out u _ hbs hej.1 (by omega) (by omega))
      clear hbs
      go_wp2_with fail
      refine HPK.out.mono ?_
      rintro e w8 ⟨v8, rfl, hrow, he8, hk8⟩
      have HE8 := hidden he8
      have HP8 := hidden (HE.out.pls hk8 HP.out (fun k e => e))
      have hpll := packetL_length (key := key) (.inr HKL.out) j (ps.getD j [])
      have hprr := padP_range key (ps.getD j []).length
      have htg : tagN key = 16 := by rw [tagN, if_neg (by intro e; have := HKL.out; rw [e] at this; simp at this)]
      obtain ⟨Q, hQ⟩ : ∃ Q, Q = packetL key j (ps.getD j []) := ⟨_, rfl⟩
      rw [← hQ] at hrow hpll
      have hQne : Q ≠ [] := by intro e; rw [e] at hpll; simp at hpll; omega
      obtain ⟨g2, c2, ev8, hor⟩ := ORow.ofOwns hrow hQne
      subst ev8
      have HOR := hidden hor
      have hcm2 : c2 ≤ maxLen ∧ Q.length ≤ c2 := ⟨hor.2.2.1, hor.2.1⟩
      obtain ⟨hcm2, hcm3⟩ := hcm2
      unfold maxLen at hcm2
      have hm16 : 16 ≤ Q.length := by omega
      have hm332 : Q.length ≤ 332 := by omega
      have HQ := hidden hQ
      obtain ⟨m, hm⟩ : ∃ m, m = Q.length := ⟨_, rfl⟩
      have HM := hidden hm
      rw [← hm] at hm16 hm332 hcm3 ⊢
      have hm1 : ¬ (m : Int) < 16 := by omega
      have hm2 : (m : Int) ≤ 332 := by omega
      clear hrow he8 hk8 hpll hprr htg hor hQ hm hcell HPK
      by_cases hjw : j = wh
      · have hjw1 : ((j : Int) == (wh : Int)) = true := by simp; omega
        obtain ⟨k, hk⟩ : ∃ k, k = m - 16 + kk := ⟨_, rfl⟩
        have hkm : k < m := by have := HKK.out; omega
        have HY : Hid (fedY key ps wh kk t j = turnL Q k t) := by show _ = _; rw [fedY, if_pos hjw, ← HQ.out, hk, HM.out]
        have hcell8 := HOR.out.cell k (by have := HM.out; omega)
        have hfz := HOR.out.frozen k
        have hsum : (m : Int) - 16 + (kk : Int) = (k : Int) := by omega
        have hk0 : (0 : Int) ≤ (k : Int) := by omega
        have hk1 : (k : Int) < (m : Int) := by omega
        have hWKj := HWK.out w8
        have hx := xbyte (Q.getD k 0) t
        obtain ⟨y, hy⟩ : ∃ y, y = Q.getD k 0 ^^^ t := ⟨_, rfl⟩
        have HTL : Hid (turnL Q k t = Q.set k y) := by show _ = _; rw [turnL, hy]
        rw [← hy] at hx
        have hst := Ends.stored HE.out HE8.out (g := g2) HOR.out.1 k (.int .u8 (y.toNat : Int))
        have HOT := hidden (HOR.out.set k y)
        have HET := hidden hst.1
        have HPT := hidden (HP8.out.keep hst.2 (fun q e e2 => by have h1 := (HP.out.lt q e).2; have h2 := HOR.out.1; omega))
        have HKK9 := HKK.out
        have hFD := ends_feed HET.out _ (Q.set k y) HOT.out.bsl (by have := HYL.out 0 j (by omega); rw [cat_seg, List.length_set]; have := HM.out; omega)
        rw [List.length_set, ← HM.out] at hFD
        have HFD := hidden hFD
        generalize (Q.getD k 0).toNat = q0 at hcell8 hx
        clear hst hFD hy
        go_wp2_with fail
        refine hWKj.mono ?_
        rintro e w9 ⟨rfl, hw9⟩
        subst hw9
        clear hk hWKj
        go_wp2_with fail
        refine HFD.out.mono ?_
        rintro e w10 ⟨rfl, h9, he9, hk9⟩
        have HE9 : Hid (Ends w w10 (fun k => (Value.slice (some ⟨pg, 0, none⟩) n cp).ownBlock = some k) go gi h9 ko5 ki6 key (j + 1) key 0 (cat (fedY key ps wh kk t) (j + 1)) 0) := by
          show Ends _ _ _ _ _ _ _ _ _ _ _ _ _ _
          rw [cat, HY.out, HTL.out]
          exact he9
        have HP9 := hidden (HET.out.pls hk9 HPT.out (fun k e => e))
        clear he9 hk9 HFD
        go_wp2
        go_roundw
        case rel => exact ⟨j + 1, h9, by omega, by go_num, HE9.out, HP9.out⟩
        case measure => simp [intOf]; omega
      · have hjw1 : ((j : Int) == (wh : Int)) = false := by simp; omega
        have HY : Hid (fedY key ps wh kk t j = Q) := by show _ = _; rw [fedY, if_neg hjw, HQ.out]
        have HFD := hidden (ends_feed HE8.out _ Q HOR.out.bsl (by have := HYL.out 0 j (by omega); rw [cat_seg]; have := HM.out; omega))
        rw [← HM.out] at HFD
        go_wp2_with fail
        refine HFD.out.mono ?_
        rintro e w9 ⟨rfl, h9, he9, hk9⟩
        have HE9 : Hid (Ends w w9 (fun k => (Value.slice (some ⟨pg, 0, none⟩) n cp).ownBlock = some k) go gi h9 ko5 ki6 key (j + 1) key 0 (cat (fedY key ps wh kk t) (j + 1)) 0) := by
          show Ends _ _ _ _ _ _ _ _ _ _ _ _ _ _
          rw [cat, HY.out]
          exact he9
        have HP9 := hidden (HE8.out.pls hk9 HP8.out (fun k e => e))
        clear he9 hk9 HFD
        go_wp2
        go_roundw
        case rel => exact ⟨j + 1, h9, by omega, by go_num, HE9.out, HP9.out⟩
        case measure => simp [intOf]; omega
    · have hlt' : ¬ (j : Int) < (n : Int) := by omega
      obtain rfl : j = n := by omega
      have HYS : Hid (∀ i, i < wh → nextR key i (seg (fedY key ps wh kk t) i (j - i)) = .told (ps.getD i []) (seg (fedY key ps wh kk t) (i + 1) (j - (i + 1)))) := fun i hi => by
        have hej := HEACH.out i (by omega)
        rw [show j - i = (j - (i + 1)) + 1 by omega, seg, fedY, if_neg (by omega)]
        exact next_packet (.inr HKL.out) i _ hej.1 (by omega) _
      have HYT : Hid (nextR key wh (seg (fedY key ps wh kk t) wh (j - wh)) = .bad 14) := by
        have hej := HEACH.out wh (by omega)
        show _ = _
        rw [show j - wh = (j - (wh + 1)) + 1 by omega, seg, fedY, if_pos rfl]
        exact turned_next HKL.out wh _ hej.1 (by omega) kk HKK.out t HT.out _
      have HEa := HE.out
      rw [cat_seg] at HEa
      have HE0 := hidden HEa
      clear HEa HE
      obtain ⟨wo, ewo⟩ : ∃ x, x = wr := ⟨wr, rfl⟩
      subst ewo
      go_wp2_with fail
      go_loopw [18] (fun c wr => ∃ (i h : Nat), i ≤ wh ∧ c = .int .i64 (i : Int) ∧ Ends w wr (fun k => (Value.slice (some ⟨pg, 0, none⟩) j cp).ownBlock = some k) go gi h ko5 ki6 key j key i (seg (fedY key ps wh kk t) i (j - i)) 0 ∧ PLs w wr (.slice (some ⟨pg, 0, none⟩) j cp) ps) (fun c _ => wh - (intOf c).toNat)
      case atStart => exact ⟨0, h, by omega, rfl, HE0.out, HP.out⟩
      case round =>
        clear HE0 HP
        obtain ⟨i, hh, hi, rfl, he, hp⟩ := hrel
        have HE := hidden he
        have HP := hidden hp
        clear he hp
        have hxl := HYL.out i (j - i) (by omega)
        have hNX := ends_next HE.out HCL.out (by omega) (by omega)
        clear hxl
        by_cases hlt : i < wh
        · have hlt' : (i : Int) < (wh : Int) := by omega
          rw [HYS.out i hlt] at hNX
          have HNX := hidden hNX
          clear hNX
          go_wp2_with fail
          refine HNX.out.mono ?_
          rintro e w8 ⟨v8, h8, rfl, hb8, _, he8, hk8⟩
          have HE8 := hidden he8
          have HP8 := hidden (HE.out.pls hk8 HP.out (fun k e => e))
          obtain ⟨u, hcell, hbs⟩ := HP8.out.get HE8.out.b i (by have := HN.out; omega)
          have HB8 := hidden hb8
          have HBU := hidden hbs
          have HCE := hidden hcell
          have HIJ : Hid (i < j) := by show _ < _; omega
          obtain ⟨a8, c8, e8⟩ := hb8.len
          obtain ⟨au, cu, eu⟩ := hbs.len
          generalize (ps.getD i []) = P at *
          generalize P.length = pl at e8 eu
          subst e8 eu
          clear hb8 hbs he8 hk8 HNX hcell
          go_wp2_with fail
          refine region_free [(.val (.bool true)), (.val (.bool false)), (.val (.bool false)), (.val (.int .i64 0)), (.val (.bool false)), (.val (.bool false)), (.val (.bool false)), (.val (.slice a8 pl c8)), (.val (.string ⟨(List.toArray P)⟩)), (.val (.slice (some ⟨pg, 0, none⟩) j cp)), (.val (.int .i64 (i : Int))), (.val (.pointer (some ⟨pg, i, none⟩))), (.val (.slice au pl cu)), (.val (.string ⟨(List.toArray P)⟩)), (.val (.bool false)), (.val (.bool false))] (by kernel_rfl) ?_ ?_
          · refine req_cons (.val (.bool true)) (by kernel_rfl) (fun vs w1 he hd => StepG.plain (by kernel_rfl) (gives_move (x := (.tmp 20)) (v := (.bool true)) (by kernel_rfl) (by kernel_rfl) ⟨Ex.refl _, rfl⟩)) ?_
            refine req_cons (.val (.bool false)) (by kernel_rfl) (fun vs w1 he hd => StepG.plain (by kernel_rfl) (gives_not (t := 4) (b := true) (x := (.tmp 117)) (by kernel_rfl) (Eq.trans (b := vs 0) (by kernel_rfl) (hd 0 (.val (.bool true)) (by kernel_rfl) (by kernel_rfl))) ⟨Ex.refl _, rfl⟩)) ?_
            refine req_cons (.val (.bool false)) (by kernel_rfl) (fun vs w1 he hd => StepG.plain (by kernel_rfl) (gives_move (x := (.tmp 118)) (v := (.bool false)) (by kernel_rfl) (Eq.trans (b := vs 1) (by kernel_rfl) (hd 1 (.val (.bool false)) (by kernel_rfl) (by kernel_rfl))) ⟨Ex.refl _, rfl⟩)) ?_
            refine req_cons (.val (.int .i64 0)) (by kernel_rfl) (fun vs w1 he hd => StepG.on (g := 2) (d := 119) (x := false) (v := vs 2) (by kernel_rfl) (by kernel_rfl) (by kernel_rfl) (hd 2 (.val (.bool false)) (by kernel_rfl) (by kernel_rfl)) (gives_move (x := (.tmp 21)) (v := (.int .i64 0)) (by kernel_rfl) (by kernel_rfl) ⟨Ex.refl _, rfl⟩)) ?_
            refine req_cons (.val (.bool false)) (by kernel_rfl) (fun vs w1 he hd => StepG.on (g := 2) (d := 119) (x := false) (v := vs 2) (by kernel_rfl) (by kernel_rfl) (by kernel_rfl) (hd 2 (.val (.bool false)) (by kernel_rfl) (by kernel_rfl)) (gives_neI (t := 30) (k := .i64) (a := 0) (b := 0) (x := (.tmp 120)) (y := (.const (.int .i64 0))) (r := false) (by kernel_rfl) (Eq.trans (b := vs 3) (by kernel_rfl) (hd 3 (.val (.int .i64 0)) (by kernel_rfl) (by kernel_rfl))) (by kernel_rfl) (by simp) ⟨Ex.refl _, rfl⟩)) ?_
            refine req_cons (.val (.bool false)) (by kernel_rfl) (fun vs w1 he hd => StepG.plain (by kernel_rfl) (gives_pick_f (x := (.tmp 119)) (y := (.const (.bool true))) (z := (.tmp 121)) (v := (.bool false)) (by kernel_rfl) (Eq.trans (b := vs 2) (by kernel_rfl) (hd 2 (.val (.bool false)) (by kernel_rfl) (by kernel_rfl))) (Eq.trans (b := vs 4) (by kernel_rfl) (hd 4 (.val (.bool false)) (by kernel_rfl) (by kernel_rfl))) ⟨Ex.refl _, rfl⟩)) ?_
            refine req_cons (.val (.bool false)) (by kernel_rfl) (fun vs w1 he hd => StepG.plain (by kernel_rfl) (gives_move (x := (.tmp 122)) (v := (.bool false)) (by kernel_rfl) (Eq.trans (b := vs 5) (by kernel_rfl) (hd 5 (.val (.bool false)) (by kernel_rfl) (by kernel_rfl))) ⟨Ex.refl _, rfl⟩)) ?_
            refine req_cons (.val (.slice a8 pl c8)) (by kernel_rfl) (fun vs w1 he hd => StepG.on (g := 6) (d := 123) (x := false) (v := vs 6) (by kernel_rfl) (by kernel_rfl) (by kernel_rfl) (hd 6 (.val (.bool false)) (by kernel_rfl) (by kernel_rfl)) (gives_move (x := (.tmp 19)) (v := (.slice a8 pl c8)) (by kernel_rfl) (by kernel_rfl) ⟨Ex.refl _, rfl⟩)) ?_
            refine req_cons (.val (.string ⟨(List.toArray P)⟩)) (by kernel_rfl) (fun vs w1 he hd => StepG.on (g := 6) (d := 123) (x := false) (v := vs 6) (by kernel_rfl) (by kernel_rfl) (by kernel_rfl) (hd 6 (.val (.bool false)) (by kernel_rfl) (by kernel_rfl)) (gives_str (x := (.tmp 124)) (v := (.slice a8 pl c8)) (xs := P) (by kernel_rfl) (Eq.trans (b := vs 7) (by kernel_rfl) (hd 7 (.val (.slice a8 pl c8)) (by kernel_rfl) (by kernel_rfl))) ((HB8.out.fresh he)) ⟨Ex.refl _, rfl⟩)) ?_
            refine req_cons (.val (.slice (some ⟨pg, 0, none⟩) j cp)) (by kernel_rfl) (fun vs w1 he hd => StepG.on (g := 6) (d := 123) (x := false) (v := vs 6) (by kernel_rfl) (by kernel_rfl) (by kernel_rfl) (hd 6 (.val (.bool false)) (by kernel_rfl) (by kernel_rfl)) (gives_move (x := (.tmp 11)) (v := (.slice (some ⟨pg, 0, none⟩) j cp)) (by kernel_rfl) (by kernel_rfl) ⟨Ex.refl _, rfl⟩)) ?_
            refine req_cons (.val (.int .i64 (i : Int))) (by kernel_rfl) (fun vs w1 he hd => StepG.on (g := 6) (d := 123) (x := false) (v := vs 6) (by kernel_rfl) (by kernel_rfl) (by kernel_rfl) (hd 6 (.val (.bool false)) (by kernel_rfl) (by kernel_rfl)) (gives_move (x := (.tmp 18)) (v := (.int .i64 (i : Int))) (by kernel_rfl) (by kernel_rfl) ⟨Ex.refl _, rfl⟩)) ?_
            refine req_cons (.val (.pointer (some ⟨pg, i, none⟩))) (by kernel_rfl) (fun vs w1 he hd => StepG.on (g := 6) (d := 123) (x := false) (v := vs 6) (by kernel_rfl) (by kernel_rfl) (by kernel_rfl) (hd 6 (.val (.bool false)) (by kernel_rfl) (by kernel_rfl)) (gives_index (n := j) (cp := cp) HIJ.out (x := .tmp 126) (y := .tmp 127) (by kernel_rfl) (Eq.trans (b := vs 9) (by kernel_rfl) (hd 9 (.val (.slice (some ⟨pg, 0, none⟩) j cp)) (by kernel_rfl) (by kernel_rfl))) (Eq.trans (b := vs 10) (by kernel_rfl) (hd 10 (.val (.int .i64 (i : Int))) (by kernel_rfl) (by kernel_rfl))) ⟨Ex.refl _, rfl⟩)) ?_
            refine req_cons (.val (.slice au pl cu)) (by kernel_rfl) (fun vs w1 he hd => StepG.on (g := 6) (d := 123) (x := false) (v := vs 6) (by kernel_rfl) (by kernel_rfl) (by kernel_rfl) (hd 6 (.val (.bool false)) (by kernel_rfl) (by kernel_rfl)) (gives_load (x := .tmp 128) (v := .slice au pl cu) (by kernel_rfl) (Eq.trans (b := vs 11) (by kernel_rfl) (hd 11 (.val (.pointer (some ⟨pg, i, none⟩))) (by kernel_rfl) (by kernel_rfl))) (cell_kept HCE.out he) ⟨Ex.refl _, rfl⟩)) ?_
            refine req_cons (.val (.string ⟨(List.toArray P)⟩)) (by kernel_rfl) (fun vs w1 he hd => StepG.on (g := 6) (d := 123) (x := false) (v := vs 6) (by kernel_rfl) (by kernel_rfl) (by kernel_rfl) (hd 6 (.val (.bool false)) (by kernel_rfl) (by kernel_rfl)) (gives_str (x := (.tmp 129)) (v := (.slice au pl cu)) (xs := P) (by kernel_rfl) (Eq.trans (b := vs 12) (by kernel_rfl) (hd 12 (.val (.slice au pl cu)) (by kernel_rfl) (by kernel_rfl))) ((HBU.out.fresh he)) ⟨Ex.refl _, rfl⟩)) ?_
            refine req_cons (.val (.bool false)) (by kernel_rfl) (fun vs w1 he hd => StepG.on (g := 6) (d := 123) (x := false) (v := vs 6) (by kernel_rfl) (by kernel_rfl) (by kernel_rfl) (hd 6 (.val (.bool false)) (by kernel_rfl) (by kernel_rfl)) (gives_neS (x := (.tmp 125)) (y := (.tmp 130)) (xs := P) (ys := P) (r := false) (by kernel_rfl) (Eq.trans (b := vs 8) (by kernel_rfl) (hd 8 (.val (.string ⟨(List.toArray P)⟩)) (by kernel_rfl) (by kernel_rfl))) (Eq.trans (b := vs 13) (by kernel_rfl) (hd 13 (.val (.string ⟨(List.toArray P)⟩)) (by kernel_rfl) (by kernel_rfl))) (by simp) ⟨Ex.refl _, rfl⟩)) ?_
            refine req_cons (.val (.bool false)) (by kernel_rfl) (fun vs w1 he hd => StepG.plain (by kernel_rfl) (gives_pick_f (x := (.tmp 123)) (y := (.const (.bool true))) (z := (.tmp 131)) (v := (.bool false)) (by kernel_rfl) (Eq.trans (b := vs 6) (by kernel_rfl) (hd 6 (.val (.bool false)) (by kernel_rfl) (by kernel_rfl))) (Eq.trans (b := vs 14) (by kernel_rfl) (hd 14 (.val (.bool false)) (by kernel_rfl) (by kernel_rfl))) ⟨Ex.refl _, rfl⟩)) ?_
            exact req_nil
          intro vs w9 hx hF
          have e0 : vs 0 = (.bool true) := told_at hF 0 (.val (.bool true)) (by decide) (by kernel_rfl)
          have e1 : vs 1 = (.bool false) := told_at hF 1 (.val (.bool false)) (by decide) (by kernel_rfl)
          have e2 : vs 2 = (.bool false) := told_at hF 2 (.val (.bool false)) (by decide) (by kernel_rfl)
          have e3 : vs 3 = (.int .i64 0) := told_at hF 3 (.val (.int .i64 0)) (by decide) (by kernel_rfl)
          have e4 : vs 4 = (.bool false) := told_at hF 4 (.val (.bool false)) (by decide) (by kernel_rfl)
          have e5 : vs 5 = (.bool false) := told_at hF 5 (.val (.bool false)) (by decide) (by kernel_rfl)
          have e6 : vs 6 = (.bool false) := told_at hF 6 (.val (.bool false)) (by decide) (by kernel_rfl)
          have e7 : vs 7 = (.slice a8 pl c8) := told_at hF 7 (.val (.slice a8 pl c8)) (by decide) (by kernel_rfl)
          have e8 : vs 8 = (.string ⟨(List.toArray P)⟩) := told_at hF 8 (.val (.string ⟨(List.toArray P)⟩)) (by decide) (by kernel_rfl)
          have e9 : vs 9 = (.slice (some ⟨pg, 0, none⟩) j cp) := told_at hF 9 (.val (.slice (some ⟨pg, 0, none⟩) j cp)) (by decide) (by kernel_rfl)
          have e10 : vs 10 = (.int .i64 (i : Int)) := told_at hF 10 (.val (.int .i64 (i : Int))) (by decide) (by kernel_rfl)
          have e11 : vs 11 = (.pointer (some ⟨pg, i, none⟩)) := told_at hF 11 (.val (.pointer (some ⟨pg, i, none⟩))) (by decide) (by kernel_rfl)
          have e12 : vs 12 = (.slice au pl cu) := told_at hF 12 (.val (.slice au pl cu)) (by decide) (by kernel_rfl)
          have e13 : vs 13 = (.string ⟨(List.toArray P)⟩) := told_at hF 13 (.val (.string ⟨(List.toArray P)⟩)) (by decide) (by kernel_rfl)
          have e14 : vs 14 = (.bool false) := told_at hF 14 (.val (.bool false)) (by decide) (by kernel_rfl)
          have e15 : vs 15 = (.bool false) := told_at hF 15 (.val (.bool false)) (by decide) (by kernel_rfl)
          simp only [List.length_cons, List.length_nil, actsTo, if_true, dstOf, List.getElem?_toArray, List.getElem?_cons_succ, List.getElem?_cons_zero, Option.bind_some, Act.put, List.setIfInBounds_toArray, List.set_cons_zero, List.set_cons_succ]
          simp only [e0, e1, e2, e3, e4, e5, e6, e7, e8, e9, e10, e11, e12, e13, e14, e15]
          clear hF e0 e1 e2 e3 e4 e5 e6 e7 e8 e9 e10 e11 e12 e13 e14 e15 vs
          have HE9 := hidden (HE8.out.fresh hx)
          have HP9 := hidden (HP8.out.fresh hx)
          clear hx HE8 HP8 HB8 HBU HCE
          go_wp2
          go_roundw
          case rel => exact ⟨i + 1, h8, by omega, by go_num, HE9.out, HP9.out⟩
          case measure => simp [intOf]; omega
        · have hlt' : ¬ (i : Int) < (wh : Int) := by omega
          obtain rfl : i = wh := by omega
          rw [HYT.out] at hNX
          have HNX := hidden hNX
          clear hNX HYT HYS hlt HP
          obtain ⟨wp, ewp⟩ : ∃ x, x = wr := ⟨wr, rfl⟩
          subst ewp
          go_wp2_with fail
          go_loopw [22] (fun c wr => ∃ q : Nat, q ≤ 3 ∧ c = .int .i64 (q : Int) ∧ ((q = 0 ∧ wr = wp) ∨ (1 ≤ q ∧ Ends w wr (fun k => (Value.slice (some ⟨pg, 0, none⟩) j cp).ownBlock = some k) go gi gi ko5 none key j [] 0 [] 14))) (fun c _ => 3 - (intOf c).toNat)
          case atStart => exact ⟨0, by omega, rfl, .inl ⟨rfl, rfl⟩⟩
          case round =>
            obtain ⟨q, hq, rfl, hst⟩ := hrel
            have HB9 : Hid (Below w.heap.size w wr) := by
              rcases hst with ⟨_, rfl⟩ | ⟨_, E⟩
              · exact HE.out.b
              · exact E.b
            have HNY : Hid (Calls Tryd.prog 27 #[.pointer (some ⟨gi, 0, none⟩)] wr fun e w' => e = .returned (.tuple #[.slice none 0 0, .bool false, .int .i64 14]) ∧ Ends w w' (fun k => (Value.slice (some ⟨pg, 0, none⟩) j cp).ownBlock = some k) go gi gi ko5 none key j [] 0 [] 14) := by
              rcases hst with ⟨_, rfl⟩ | ⟨_, E⟩
              · exact HNX.out.mono fun e w' ⟨h1, h2, _⟩ => ⟨h1, h2⟩
              · exact (ends_next_no E (by omega)).mono fun e w' ⟨h1, h2, _⟩ => ⟨h1, h2⟩
            clear hst
            by_cases hq3 : q < 3
            · have hq3' : (q : Int) < 3 := by omega
              go_wp2_with fail
              refine HNY.out.mono ?_
              rintro e w8 ⟨rfl, he8⟩
              have HE8 := hidden he8
              have hHE := held_c w8 he8.inn
              simp only [List.length_nil] at hHE
              have HHE := hidden hHE
              clear he8 hHE HNY
              go_wp2_with fail
              refine HHE.out.mono ?_
              rintro e w9 ⟨rfl, hw9⟩
              subst hw9
              clear HHE
              go_wp2_with fail
              have hbA := (Below.refl w9.heap.size w9).alloc (Nat.le_refl _) (.cells #[.int .u8 1, .int .u8 2, .int .u8 3] 5)
              have HEA := hidden (HE8.out.fresh hbA)
              refine (feed_no _ _ (by omega) HEA.out.inn).mono ?_
              rintro e w10 ⟨rfl, hw10⟩
              subst hw10
              clear hbA
              go_wp2
              go_roundw
              case rel => exact ⟨q + 1, by omega, by go_num, .inr ⟨by omega, HEA.out⟩⟩
              case measure => simp [intOf]; omega
            · have hq3' : ¬ (q : Int) < 3 := by omega
              have HKN := hidden (known_c wr (HCL.out.fresh HB9.out))
              go_wp2_with fail
              refine HKN.out.mono ?_
              rintro e w8 ⟨rfl, hb8⟩
              have HB10 : Hid (Below w.heap.size w w8) := HB9.out.trans (hb8.mono HB9.out.size)
              clear hb8
              go_wp2
              go_ret
              exact ⟨rfl, HB10.out⟩
end Go.Proofs.YthkaibkmpenclaaDoor
