/- The walk of the law PacketHeld. -/
import Derived.Test.YthkaibkmpenclabDoorPkT
namespace Go.Proofs.YthkaibkmpenclabDoor
open Go Go.RowKit

set_option maxHeartbeats 3200000 in
set_option maxRecDepth 100000 in
theorem packetHeld_c (v0 v1 : Value) (z0 z1 : List UInt8) (b : Bool) (a3 : Int) (w : World) (hcl : Cl w) (h0 : BSl w v0 z0) (h1 : BSl w v1 z1) :
    Calls Tryd.prog 4 #[v0, v1, .bool b, .int .i64 a3] w fun e w' => e = .returned (.bool true) ∧ Below w.heap.size w w' := by
  have HCL := hidden hcl
  have HC := hidden (cut_c 300 (by omega) v0 z0 w h0)
  have H1 := hidden h1
  clear hcl h0 h1
  go_enter Tryd.func4, Tryd.ntmps4
  go_wp2_with fail
  refine HC.out.mono ?_
  rintro e w2 ⟨vb, rfl, hb, _, hw2⟩
  have hl : (z0.take 300).length ≤ 300 := by rw [List.length_take]; omega
  generalize z0.take 300 = p at hb hl
  have HB := hidden hb
  obtain ⟨ab, cb, rfl⟩ := hb.len
  obtain ⟨n, hn⟩ : ∃ n, n = p.length := ⟨_, rfl⟩
  have HN := hidden hn
  rw [← hn] at hl HB ⊢
  obtain rfl : w2 = w := hw2
  obtain ⟨w, ew⟩ : ∃ x, x = w2 := ⟨w2, rfl⟩
  subst ew
  clear hb hn HC
  by_cases hz : n = 0
  · have hz1 : ((n : Int) == 0) = true := by simp; omega
    clear hz
    go_wp2_with fail
    refine (known_c w HCL.out).mono ?_
    rintro e w3 ⟨rfl, hb3⟩
    have HB3 := hidden hb3
    clear hb3
    go_wp2
    go_ret
    exact ⟨rfl, HB3.out⟩
  have hz1 : ((n : Int) == 0) = false := by simp; omega
  go_wp2_with fail
  refine (sized_b 32 (by omega) v1 z1 w H1.out).mono ?_
  rintro e w2 ⟨rfl, hs2, hb2⟩
  have HS2 := hidden hs2
  have HB2 := hidden hb2
  have HKL := hidden (sizedL_length z1 32)
  generalize sizedL z1 32 = key at HS2 HKL
  have HGK1 : Hid (w.heap.size < w2.heap.size) := by
    obtain ⟨b, o, c, e, hlt⟩ := HS2.out.nonnil (by intro e; have := HKL.out; rw [e] at this; simp at this)
    have e2 := congrArg Value.ownBlock e
    simp [Value.ownBlock] at e2
    show _ < _
    omega
  obtain ⟨gk, hgk⟩ : ∃ gk, gk = w.heap.size := ⟨_, rfl⟩
  rw [← hgk] at HS2 HGK1
  rw [show (Value.slice (some ⟨w.heap.size, 0, none⟩) 32 32) = .slice (some ⟨gk, 0, none⟩) 32 32 by rw [hgk]]
  clear hs2 hb2 hgk
  go_wp2_with fail
  refine (newOut_c w2).mono ?_
  rintro e w3 ⟨rfl, ho3, hb3⟩
  have HO3 := hidden ho3
  have HB3 := hidden hb3
  clear ho3 hb3
  go_wp2_with fail
  refine (newIn_c w3).mono ?_
  rintro e w4 ⟨rfl, hi4, hb4⟩
  have HE4 : Hid (Ends w w4 (fun k => k = gk) w2.heap.size w3.heap.size w3.heap.size none none [] 0 [] 0 [] 0) :=
    ends_new (HB2.out.trans (HB3.out.mono HB2.out.size)) HO3.out HB2.out.size hi4 hb4 (fun k hk => by rw [hk]; exact HGK1.out)
  have HS4 := hidden ((HS2.out.fresh HB3.out).fresh hb4)
  generalize w2.heap.size = go at HE4 ⊢
  generalize w3.heap.size = gi at HE4 ⊢
  clear hi4 hb4 HS2 HO3 HB3 HGK1 HB2
  cases b
  · have hKO : KeyOk [] := .inl rfl
    have HKO := hidden hKO
    go_wp2_with fail
    refine (ends_packet HE4.out HCL.out _ p (HB.out.fresh HE4.out.b) (by have := HN.out; omega) (by have := HN.out; omega) (by omega)).mono ?_
    rintro e w8 ⟨v8, rfl, hrow, he8, hk8⟩
    have hpll := packetL_length hKO 0 p
    have hpmx := packetL_le hKO 0 p (by have := HN.out; omega)
    have HNS : Hid (∀ k, k < (packetL [] 0 p).length → nextR [] 0 ((packetL [] 0 p).take k) = .short) := fun k hk => by
      have := next_short hKO 0 p (by have := HN.out; omega) (by have := HN.out; omega) [] k hk
      rw [List.append_nil] at this
      exact this
    have HNT : Hid (nextR [] 0 (packetL [] 0 p) = .told p []) := by
      have := next_packet hKO 0 p (by have := HN.out; omega) (by have := HN.out; omega) []
      rw [List.append_nil] at this
      exact this
    generalize packetL [] 0 p = Q at hrow hpll hpmx HNS HNT
    have hQne : Q ≠ [] := by intro e; rw [e] at hpll; simp at hpll; omega
    obtain ⟨g2, c2, ev8, hor⟩ := ORow.ofOwns hrow hQne
    subst ev8
    have HQB := hidden hor.bsl
    have hcm2 := hor.2.2.1
    have hcm3 := hor.2.1
    unfold maxLen at hcm2
    have hg2 := hor.lt
    have HE8 : Hid (Ends w w8 (fun k => k = g2) go gi gi _ _ [] 1 [] 0 [] 0) := he8.more fun k e => ⟨by omega, fun hf => by have h1 := (HE4.out.footLt hf).2; have h2 := hor.1; omega⟩
    obtain ⟨m, hm⟩ : ∃ m, m = Q.length := ⟨_, rfl⟩
    have HM := hidden hm
    rw [← hm] at hpll hpmx hcm3 HQB HNS ⊢
    have hm1 : (m : Int) ≤ 332 := by omega
    have hmp : 1 ≤ m := by omega
    have hWI := within_x a3 (m - 1) (by omega) w8
    have hkm := wn_le a3 (m - 1)
    rw [show (((m - 1 : Nat)) : Int) = (m : Int) - 1 by omega] at hWI
    generalize wn a3 (m - 1) = k at hWI hkm
    have HWI := hidden hWI
    have hk1 : k < m := by omega
    have hk2 : (k : Int) ≤ (c2 : Int) := by omega
    have hk3 : (k : Int) ≤ (m : Int) := by omega
    have hk4 : ¬ c2 = k := by omega
    have HTK : Hid (BSl w8 (.slice (some ⟨g2, 0, none⟩) k c2) (Q.take k)) := by
      have := HQB.out
      rw [HM.out] at this
      exact this.head' (by have := HM.out; omega)
    have HTL : Hid ((Q.take k).length = k) := by show _ = _; rw [List.length_take]; have := HM.out; omega
    clear hrow he8 hk8 hpll hor hQne hm hWI hkm hg2 hKO hpmx
    go_wp2_with fail
    refine HWI.out.mono ?_
    rintro e w9 ⟨rfl, hw9⟩
    subst hw9
    clear HWI
    go_wp2_with fail
    refine (ends_feed HE8.out _ (Q.take k) HTK.out (by have := HTL.out; simp; omega)).mono ?_
    rintro e w10 ⟨rfl, h10, he10, hk10⟩
    rw [List.nil_append] at he10
    have HE10 := hidden he10
    have HQ10 := hidden (HE8.out.bsl hk10 HQB.out (fun q e => by simp [Value.ownBlock] at e; exact e.symm))
    clear he10 hk10 HTK HQB
    have hNX := ends_next HE10.out HCL.out (by have := HTL.out; omega) (by omega)
    rw [HNS.out k hk1] at hNX
    have HNX := hidden hNX
    clear hNX
    go_wp2_with fail
    refine HNX.out.mono ?_
    rintro e w11 ⟨rfl, he11, hk11⟩
    have HE11 := hidden he11
    have HQ11 := hidden (HE10.out.bsl hk11 HQ10.out (fun q e => by simp [Value.ownBlock] at e; exact e.symm))
    have hHE := held_c w11 he11.inn
    rw [HTL.out] at hHE
    have HHE := hidden hHE
    have HDR : Hid (BSl w11 (.slice (some ⟨g2, k, none⟩) (m - k) (c2 - k)) (Q.drop k)) := by
      have := HQ11.out.dropS (k := k) (by omega)
      rw [Nat.zero_add] at this
      exact this
    clear he11 hk11 hHE HNX HQ10
    go_wp2_with fail
    refine HHE.out.mono ?_
    rintro e w12 ⟨rfl, hw12⟩
    subst hw12
    clear HHE
    go_wp2_with fail
    refine (ends_feed HE11.out _ (Q.drop k) HDR.out (by have := HTL.out; have := HM.out; rw [List.length_drop]; omega)).mono ?_
    rintro e w13 ⟨rfl, h13, he13, hk13⟩
    rw [List.take_append_drop] at he13
    have HE13 := hidden he13
    clear he13 hk13 HDR
    have hNX := ends_next HE13.out HCL.out (by have := HM.out; omega) (by omega)
    rw [HNT.out] at hNX
    have HNX := hidden hNX
    clear hNX
    go_wp2_with fail
    refine HNX.out.mono ?_
    rintro e w14 ⟨v14, h14, rfl, hb14, _, he14, _⟩
    have HE14 := hidden he14
    have hs1 := run_string hb14
    have hs2 := run_string (HB.out.fresh he14.b)
    obtain ⟨a14, c14, e14⟩ := hb14.len
    generalize p.length = pl at e14
    subst e14
    have hHE := held_c w14 he14.inn
    simp only [List.length_nil] at hHE
    have HHE := hidden hHE
    have HKN := hidden (known_c w14 (HCL.out.fresh he14.b))
    clear hb14 he14 hHE HNX
    go_wp2_with fail
    refine HHE.out.mono ?_
    rintro e w15 ⟨rfl, hw15⟩
    subst hw15
    clear HHE
    go_wp2_with fail
    refine HKN.out.mono ?_
    rintro e w16 ⟨rfl, hb16⟩
    have HB16 : Hid (Below w.heap.size w w16) := HE14.out.b.trans (hb16.mono HE14.out.b.size)
    clear hb16
    go_wp2
    go_ret
    exact ⟨rfl, HB16.out⟩
  · go_wp2_with fail
    refine (ends_okeys HE4.out _ key HS4.out HKL.out).mono ?_
    rintro e w5 ⟨rfl, ko5, he5, hk5⟩
    have HE5 := hidden he5
    have HS5 := hidden (HE4.out.bsl hk5 HS4.out (fun k e => by simp [Value.ownBlock] at e; exact e.symm))
    clear he5 hk5 HE4 HS4
    go_wp2_with fail
    refine (ends_ikeys HE5.out _ key HS5.out HKL.out).mono ?_
    rintro e w6 ⟨rfl, ki6, he6, hk6⟩
    have HE6 := hidden he6
    clear he6 hk6 HE5 HS5
    have hKO : KeyOk key := .inr HKL.out
    have HKO := hidden hKO
    go_wp2_with fail
    refine (ends_packet HE6.out HCL.out _ p (HB.out.fresh HE6.out.b) (by have := HN.out; omega) (by have := HN.out; omega) (by omega)).mono ?_
    rintro e w8 ⟨v8, rfl, hrow, he8, hk8⟩
    have hpll := packetL_length hKO 0 p
    have hpmx := packetL_le hKO 0 p (by have := HN.out; omega)
    have HNS : Hid (∀ k, k < (packetL key 0 p).length → nextR key 0 ((packetL key 0 p).take k) = .short) := fun k hk => by
      have := next_short hKO 0 p (by have := HN.out; omega) (by have := HN.out; omega) [] k hk
      rw [List.append_nil] at this
      exact this
    have HNT : Hid (nextR key 0 (packetL key 0 p) = .told p []) := by
      have := next_packet hKO 0 p (by have := HN.out; omega) (by have := HN.out; omega) []
      rw [List.append_nil] at this
      exact this
    generalize packetL key 0 p = Q at hrow hpll hpmx HNS HNT
    have hQne : Q ≠ [] := by intro e; rw [e] at hpll; simp at hpll; omega
    obtain ⟨g2, c2, ev8, hor⟩ := ORow.ofOwns hrow hQne
    subst ev8
    have HQB := hidden hor.bsl
    have hcm2 := hor.2.2.1
    have hcm3 := hor.2.1
    unfold maxLen at hcm2
    have hg2 := hor.lt
    have HE8 : Hid (Ends w w8 (fun k => k = g2) go gi gi _ _ key 1 key 0 [] 0) := he8.more fun k e => ⟨by omega, fun hf => by have h1 := (HE6.out.footLt hf).2; have h2 := hor.1; omega⟩
    obtain ⟨m, hm⟩ : ∃ m, m = Q.length := ⟨_, rfl⟩
    have HM := hidden hm
    rw [← hm] at hpll hpmx hcm3 HQB HNS ⊢
    have hm1 : (m : Int) ≤ 332 := by omega
    have hmp : 1 ≤ m := by omega
    have hWI := within_x a3 (m - 1) (by omega) w8
    have hkm := wn_le a3 (m - 1)
    rw [show (((m - 1 : Nat)) : Int) = (m : Int) - 1 by omega] at hWI
    generalize wn a3 (m - 1) = k at hWI hkm
    have HWI := hidden hWI
    have hk1 : k < m := by omega
    have hk2 : (k : Int) ≤ (c2 : Int) := by omega
    have hk3 : (k : Int) ≤ (m : Int) := by omega
    have hk4 : ¬ c2 = k := by omega
    have HTK : Hid (BSl w8 (.slice (some ⟨g2, 0, none⟩) k c2) (Q.take k)) := by
      have := HQB.out
      rw [HM.out] at this
      exact this.head' (by have := HM.out; omega)
    have HTL : Hid ((Q.take k).length = k) := by show _ = _; rw [List.length_take]; have := HM.out; omega
    clear hrow he8 hk8 hpll hor hQne hm hWI hkm hg2 hKO hpmx
    go_wp2_with fail
    refine HWI.out.mono ?_
    rintro e w9 ⟨rfl, hw9⟩
    subst hw9
    clear HWI
    go_wp2_with fail
    refine (ends_feed HE8.out _ (Q.take k) HTK.out (by have := HTL.out; simp; omega)).mono ?_
    rintro e w10 ⟨rfl, h10, he10, hk10⟩
    rw [List.nil_append] at he10
    have HE10 := hidden he10
    have HQ10 := hidden (HE8.out.bsl hk10 HQB.out (fun q e => by simp [Value.ownBlock] at e; exact e.symm))
    clear he10 hk10 HTK HQB
    have hNX := ends_next HE10.out HCL.out (by have := HTL.out; omega) (by omega)
    rw [HNS.out k hk1] at hNX
    have HNX := hidden hNX
    clear hNX
    go_wp2_with fail
    refine HNX.out.mono ?_
    rintro e w11 ⟨rfl, he11, hk11⟩
    have HE11 := hidden he11
    have HQ11 := hidden (HE10.out.bsl hk11 HQ10.out (fun q e => by simp [Value.ownBlock] at e; exact e.symm))
    have hHE := held_c w11 he11.inn
    rw [HTL.out] at hHE
    have HHE := hidden hHE
    have HDR : Hid (BSl w11 (.slice (some ⟨g2, k, none⟩) (m - k) (c2 - k)) (Q.drop k)) := by
      have := HQ11.out.dropS (k := k) (by omega)
      rw [Nat.zero_add] at this
      exact this
    clear he11 hk11 hHE HNX HQ10
    go_wp2_with fail
    refine HHE.out.mono ?_
    rintro e w12 ⟨rfl, hw12⟩
    subst hw12
    clear HHE
    go_wp2_with fail
    refine (ends_feed HE11.out _ (Q.drop k) HDR.out (by have := HTL.out; have := HM.out; rw [List.length_drop]; omega)).mono ?_
    rintro e w13 ⟨rfl, h13, he13, hk13⟩
    rw [List.take_append_drop] at he13
    have HE13 := hidden he13
    clear he13 hk13 HDR
    have hNX := ends_next HE13.out HCL.out (by have := HM.out; omega) (by omega)
    rw [HNT.out] at hNX
    have HNX := hidden hNX
    clear hNX
    go_wp2_with fail
    refine HNX.out.mono ?_
    rintro e w14 ⟨v14, h14, rfl, hb14, _, he14, _⟩
    have HE14 := hidden he14
    have hs1 := run_string hb14
    have hs2 := run_string (HB.out.fresh he14.b)
    obtain ⟨a14, c14, e14⟩ := hb14.len
    generalize p.length = pl at e14
    subst e14
    have hHE := held_c w14 he14.inn
    simp only [List.length_nil] at hHE
    have HHE := hidden hHE
    have HKN := hidden (known_c w14 (HCL.out.fresh he14.b))
    clear hb14 he14 hHE HNX
    go_wp2_with fail
    refine HHE.out.mono ?_
    rintro e w15 ⟨rfl, hw15⟩
    subst hw15
    clear HHE
    go_wp2_with fail
    refine HKN.out.mono ?_
    rintro e w16 ⟨rfl, hb16⟩
    have HB16 : Hid (Below w.heap.size w w16) := HE14.out.b.trans (hb16.mono HE14.out.b.size)
    clear hb16
    go_wp2
    go_ret
    exact ⟨rfl, HB16.out⟩
end Go.Proofs.YthkaibkmpenclabDoor
