/- The walk of the law PacketKeys. -/
import Derived.Test.YthkaibkmpenclabDoorPkT
namespace Go.Proofs.YthkaibkmpenclabDoor
open Go Go.RowKit

/-- A slice of n bools. -/
def BoSl (w : World) (v : Value) (n : Nat) : Prop :=
  ∃ ao cap, v = .slice ao n cap ∧ n ≤ cap ∧ cap ≤ maxLen ∧ ∀ j, j < n → ∃ b off, ao = some ⟨b, off, none⟩ ∧ ∃ x : Bool, w.cell? ⟨b, off + j, none⟩ = some (.bool x)
theorem own_lit (w : World) (b : UInt8) (x : Int) (hx : x = (b.toNat : Int)) : Own w (w.alloc (.cells #[.int .u8 x] 5)) (.slice (some ⟨w.heap.size, 0, none⟩) 1 1) [b] := by
  subst hx
  exact ⟨own_block (xs := [b]) (heap_alloc_new w (.cells #[.int .u8 (b.toNat : Int)] 5)) (Nat.le_refl _) (by simp), (Below.refl _ w).alloc (Nat.le_refl _) _⟩
set_option maxHeartbeats 3200000 in
set_option maxRecDepth 100000 in
theorem packetKeys_c (v0 v1 v2 : Value) (n0 : Nat) (z1 : List UInt8) (n2 : Nat) (w : World) (hcl : Cl w) (h0 : LSl w v0 n0) (h1 : BSl w v1 z1) (h2 : BoSl w v2 n2) :
    Calls Tryd.prog 3 #[v0, v1, v2] w fun e w' => e = .returned (.bool true) ∧ Below w.heap.size w w' := by
  have HCL := hidden hcl
  have HPL := hidden (payloads_c v0 n0 w h0)
  have H1 := hidden h1
  obtain ⟨ab, cb, rfl, hb2a, hb2b, hb2c⟩ := h2
  have HBO := hidden hb2c
  unfold maxLen at hb2b
  clear hcl h0 h1 hb2c
  go_enter Tryd.func3, Tryd.ntmps3
  go_wp2_with fail
  refine HPL.out.mono ?_
  rintro e w1 ⟨vp, ps, rfl, hpl, hb1⟩
  have HP := hidden hpl
  have HB1 := hidden hb1
  obtain ⟨ap, cp, rfl⟩ := hpl.shape
  obtain ⟨n, hn⟩ : ∃ n, n = ps.length := ⟨_, rfl⟩
  have HN := hidden hn
  have hn12 : n ≤ 12 := by have := hpl.few; omega
  rw [← hn] at HP ⊢
  have HPT : Hid (∀ k, (Value.slice ap n cp).ownBlock = some k → k < w1.heap.size) := fun k e => (HP.out.lt k e).2
  have HEACH : Hid (∀ i, i < n → 1 ≤ (ps.getD i []).length ∧ (ps.getD i []).length ≤ 200) := fun i hi => HP.out.each i (by have := HN.out; omega)
  clear hpl hb1 hn HPL
  go_wp2_with fail
  refine (newOut_c w1).mono ?_
  rintro e w3 ⟨rfl, ho3, hb3⟩
  have HO3 := hidden ho3
  have HB3 := hidden hb3
  clear ho3 hb3
  go_wp2_with fail
  refine (newIn_c w3).mono ?_
  rintro e w4 ⟨rfl, hi4, hb4⟩
  have HE4 : Hid (Ends w w4 (fun k => (Value.slice ap n cp).ownBlock = some k) w1.heap.size w3.heap.size w3.heap.size none none [] 0 [] 0 [] 0) :=
    ends_new (HB1.out.trans (HB3.out.mono HB1.out.size)) HO3.out HB1.out.size hi4 hb4 (fun k hk => HPT.out k hk)
  have HP4 := hidden ((HP.out.fresh HB3.out).fresh hb4)
  generalize w1.heap.size = go at HE4 ⊢
  generalize w3.heap.size = gi at HE4 ⊢
  clear hi4 hb4 HP HO3 HB3 HPT HB1
  go_wp2_with fail
  go_loopw [10] (fun c wr => ∃ (j h : Nat) (ko ki : Option Nat) (ky : List UInt8), j ≤ n ∧ c = .int .i64 (j : Int) ∧ KeyOk ky ∧ Ends w wr (fun k => (Value.slice ap n cp).ownBlock = some k) go gi h ko ki ky j ky j [] 0 ∧ PLs w wr (.slice ap n cp) ps) (fun c _ => n - (intOf c).toNat)
  case atStart => exact ⟨0, gi, none, none, [], by omega, rfl, .inl rfl, HE4.out, HP4.out⟩
  case round =>
    clear HE4 HP4
    obtain ⟨j, h, ko, ki, ky, hj, rfl, hko, he, hp⟩ := hrel
    have HE := hidden he
    have HP := hidden hp
    have HKO := hidden hko
    clear he hp hko
    by_cases hlt : j < n
    · have hlt' : (j : Int) < (n : Int) := by omega
      have hjb : (j : Int) ≤ 12 := by omega
      obtain ⟨pg, hpg⟩ : ∃ pg, ap = some ⟨pg, 0, none⟩ := by
        obtain ⟨g, cap, u, e, _⟩ := HP.out.at HE.out.b 0 (by have := HN.out; omega)
        cases e
        exact ⟨g, rfl⟩
      subst hpg
      have hcpm : n ≤ cp ∧ cp ≤ maxLen := by
        obtain ⟨g, cap, u, e, _, _, h1, h2⟩ := HP.out.at HE.out.b 0 (by have := HN.out; omega)
        cases e
        exact ⟨by have := HN.out; omega, h2⟩
      obtain ⟨hcp1, hcp2⟩ := hcpm
      unfold maxLen at hcp2
      by_cases h2 : j < n2
      · have h2' : (j : Int) < (n2 : Int) := by omega
        obtain ⟨bb, ob, eb, x, hxc⟩ := HBO.out j h2
        subst eb
        have hxc' := cell_kept hxc HE.out.b
        cases x
        · have HEq := HE
          have HPq := HP
          clear HE HP hxc
          obtain ⟨u, hcell, hbs⟩ := HPq.out.get HEq.out.b j (by have := HN.out; omega)
          have hej := HEACH.out j hlt
          have HPK := hidden (ends_packet HEq.out HCL.out u _ hbs hej.1 (by omega) (by omega))
          clear hbs
          go_wp2_with fail
          refine HPK.out.mono ?_
          rintro e w8 ⟨v8, rfl, hrow, he8, hk8⟩
          have HP8 := hidden (HEq.out.pls hk8 HPq.out (fun k e => e))
          have hpmx := packetL_le HKO.out j (ps.getD j []) (by omega)
          have HNT : Hid (nextR ky j (packetL ky j (ps.getD j [])) = .told (ps.getD j []) []) := by
            have := next_packet HKO.out j (ps.getD j []) hej.1 (by omega) []
            rw [List.append_nil] at this
            exact this
          generalize packetL ky j (ps.getD j []) = Q at hrow hpmx HNT
          have HQB := hidden (BSl.ofRow hrow)
          have HE8x := hidden he8
          have hvs := ownsRow_shape hrow
          obtain ⟨aq, cq, eq8⟩ := hvs
          have HQ9 : Hid (Q.length ≤ 332) := hpmx
          generalize Q.length = ql at eq8
          subst eq8
          clear hrow he8 hk8 HPK hcell HEq HPq hpmx
          go_wp2_with fail
          refine (ends_feed HE8x.out _ Q HQB.out (by have := HQ9.out; rw [List.length_nil]; omega)).mono ?_
          rintro e w9 ⟨rfl, h9, he9, hk9⟩
          rw [List.nil_append] at he9
          have HE9 := hidden he9
          have HP9 := hidden (HE8x.out.pls hk9 HP8.out (fun k e => e))
          clear he9 hk9 HP8
          have hNX := ends_next HE9.out HCL.out (by have := HQ9.out; omega) (by omega)
          rw [HNT.out] at hNX
          have HNX := hidden hNX
          clear hNX
          go_wp2_with fail
          refine HNX.out.mono ?_
          rintro e w10 ⟨v10, h10, rfl, hb10, _, he10, hk10⟩
          have HE8 := hidden he10
          have HP10 := hidden (HE9.out.pls hk10 HP9.out (fun k e => e))
          obtain ⟨u2, hcell, hbs⟩ := HP10.out.get HE8.out.b j (by have := HN.out; omega)
          have HB8 := hidden hb10
          have HBU := hidden hbs
          have HCE := hidden hcell
          have HIJ : Hid (j < n) := hlt
          obtain ⟨a8, c8, e8⟩ := hb10.len
          obtain ⟨au, cu, eu⟩ := hbs.len
          generalize (ps.getD j []) = P at *
          generalize P.length = pl at e8 eu
          subst e8 eu
          clear hb10 hbs he10 hk10 HNX hcell HE9 HP9 HE8x HQB
          go_wp2_with fail
          refine region_free [(.val (.int .i64 0)), (.val (.bool false)), (.val (.bool false)), (.val (.bool true)), (.val (.bool false)), (.val (.bool false)), (.val (.bool false)), (.val (.int .i64 0)), (.val (.bool false)), (.val (.bool false)), (.val (.bool false)), (.val (.slice a8 pl c8)), (.val (.string ⟨(List.toArray P)⟩)), (.val (.slice (some ⟨pg, 0, none⟩) n cp)), (.val (.int .i64 (j : Int))), (.val (.pointer (some ⟨pg, j, none⟩))), (.val (.slice au pl cu)), (.val (.string ⟨(List.toArray P)⟩)), (.val (.bool false)), (.val (.bool false)), (.val (.bool false)), (.val (.pointer (some ⟨gi, 0, none⟩))), (.val (.int .i64 0)), (.val (.bool false)), (.val (.bool false))] (by kernel_rfl) ?_ ?_
          · refine req_cons (.val (.int .i64 0)) (by kernel_rfl) (fun vs w1 he hd => StepG.plain (by kernel_rfl) (gives_move (x := (.tmp 13)) (v := (.int .i64 0)) (by kernel_rfl) (by kernel_rfl) ⟨Ex.refl _, rfl⟩)) ?_
            refine req_cons (.val (.bool false)) (by kernel_rfl) (fun vs w1 he hd => StepG.plain (by kernel_rfl) (gives_neI (t := 31) (k := .i64) (a := 0) (b := 0) (x := (.tmp 78)) (y := (.const (.int .i64 0))) (r := false) (by kernel_rfl) (Eq.trans (b := vs 0) (by kernel_rfl) (hd 0 (.val (.int .i64 0)) (by kernel_rfl) (by kernel_rfl))) (by kernel_rfl) (by simp) ⟨Ex.refl _, rfl⟩)) ?_
            refine req_cons (.val (.bool false)) (by kernel_rfl) (fun vs w1 he hd => StepG.plain (by kernel_rfl) (gives_move (x := (.tmp 79)) (v := (.bool false)) (by kernel_rfl) (Eq.trans (b := vs 1) (by kernel_rfl) (hd 1 (.val (.bool false)) (by kernel_rfl) (by kernel_rfl))) ⟨Ex.refl _, rfl⟩)) ?_
            refine req_cons (.val (.bool true)) (by kernel_rfl) (fun vs w1 he hd => StepG.on (g := 2) (d := 80) (x := false) (v := vs 2) (by kernel_rfl) (by kernel_rfl) (by kernel_rfl) (hd 2 (.val (.bool false)) (by kernel_rfl) (by kernel_rfl)) (gives_move (x := (.tmp 15)) (v := (.bool true)) (by kernel_rfl) (by kernel_rfl) ⟨Ex.refl _, rfl⟩)) ?_
            refine req_cons (.val (.bool false)) (by kernel_rfl) (fun vs w1 he hd => StepG.on (g := 2) (d := 80) (x := false) (v := vs 2) (by kernel_rfl) (by kernel_rfl) (by kernel_rfl) (hd 2 (.val (.bool false)) (by kernel_rfl) (by kernel_rfl)) (gives_not (t := 4) (b := true) (x := (.tmp 81)) (by kernel_rfl) (Eq.trans (b := vs 3) (by kernel_rfl) (hd 3 (.val (.bool true)) (by kernel_rfl) (by kernel_rfl))) ⟨Ex.refl _, rfl⟩)) ?_
            refine req_cons (.val (.bool false)) (by kernel_rfl) (fun vs w1 he hd => StepG.plain (by kernel_rfl) (gives_pick_f (x := (.tmp 80)) (y := (.const (.bool true))) (z := (.tmp 82)) (v := (.bool false)) (by kernel_rfl) (Eq.trans (b := vs 2) (by kernel_rfl) (hd 2 (.val (.bool false)) (by kernel_rfl) (by kernel_rfl))) (Eq.trans (b := vs 4) (by kernel_rfl) (hd 4 (.val (.bool false)) (by kernel_rfl) (by kernel_rfl))) ⟨Ex.refl _, rfl⟩)) ?_
            refine req_cons (.val (.bool false)) (by kernel_rfl) (fun vs w1 he hd => StepG.plain (by kernel_rfl) (gives_move (x := (.tmp 83)) (v := (.bool false)) (by kernel_rfl) (Eq.trans (b := vs 5) (by kernel_rfl) (hd 5 (.val (.bool false)) (by kernel_rfl) (by kernel_rfl))) ⟨Ex.refl _, rfl⟩)) ?_
            refine req_cons (.val (.int .i64 0)) (by kernel_rfl) (fun vs w1 he hd => StepG.on (g := 6) (d := 84) (x := false) (v := vs 6) (by kernel_rfl) (by kernel_rfl) (by kernel_rfl) (hd 6 (.val (.bool false)) (by kernel_rfl) (by kernel_rfl)) (gives_move (x := (.tmp 16)) (v := (.int .i64 0)) (by kernel_rfl) (by kernel_rfl) ⟨Ex.refl _, rfl⟩)) ?_
            refine req_cons (.val (.bool false)) (by kernel_rfl) (fun vs w1 he hd => StepG.on (g := 6) (d := 84) (x := false) (v := vs 6) (by kernel_rfl) (by kernel_rfl) (by kernel_rfl) (hd 6 (.val (.bool false)) (by kernel_rfl) (by kernel_rfl)) (gives_neI (t := 31) (k := .i64) (a := 0) (b := 0) (x := (.tmp 85)) (y := (.const (.int .i64 0))) (r := false) (by kernel_rfl) (Eq.trans (b := vs 7) (by kernel_rfl) (hd 7 (.val (.int .i64 0)) (by kernel_rfl) (by kernel_rfl))) (by kernel_rfl) (by simp) ⟨Ex.refl _, rfl⟩)) ?_
            refine req_cons (.val (.bool false)) (by kernel_rfl) (fun vs w1 he hd => StepG.plain (by kernel_rfl) (gives_pick_f (x := (.tmp 84)) (y := (.const (.bool true))) (z := (.tmp 86)) (v := (.bool false)) (by kernel_rfl) (Eq.trans (b := vs 6) (by kernel_rfl) (hd 6 (.val (.bool false)) (by kernel_rfl) (by kernel_rfl))) (Eq.trans (b := vs 8) (by kernel_rfl) (hd 8 (.val (.bool false)) (by kernel_rfl) (by kernel_rfl))) ⟨Ex.refl _, rfl⟩)) ?_
            refine req_cons (.val (.bool false)) (by kernel_rfl) (fun vs w1 he hd => StepG.plain (by kernel_rfl) (gives_move (x := (.tmp 87)) (v := (.bool false)) (by kernel_rfl) (Eq.trans (b := vs 9) (by kernel_rfl) (hd 9 (.val (.bool false)) (by kernel_rfl) (by kernel_rfl))) ⟨Ex.refl _, rfl⟩)) ?_
            refine req_cons (.val (.slice a8 pl c8)) (by kernel_rfl) (fun vs w1 he hd => StepG.on (g := 10) (d := 88) (x := false) (v := vs 10) (by kernel_rfl) (by kernel_rfl) (by kernel_rfl) (hd 10 (.val (.bool false)) (by kernel_rfl) (by kernel_rfl)) (gives_move (x := (.tmp 14)) (v := (.slice a8 pl c8)) (by kernel_rfl) (by kernel_rfl) ⟨Ex.refl _, rfl⟩)) ?_
            refine req_cons (.val (.string ⟨(List.toArray P)⟩)) (by kernel_rfl) (fun vs w1 he hd => StepG.on (g := 10) (d := 88) (x := false) (v := vs 10) (by kernel_rfl) (by kernel_rfl) (by kernel_rfl) (hd 10 (.val (.bool false)) (by kernel_rfl) (by kernel_rfl)) (gives_str (x := (.tmp 89)) (v := (.slice a8 pl c8)) (xs := P) (by kernel_rfl) (Eq.trans (b := vs 11) (by kernel_rfl) (hd 11 (.val (.slice a8 pl c8)) (by kernel_rfl) (by kernel_rfl))) ((HB8.out.fresh he)) ⟨Ex.refl _, rfl⟩)) ?_
            refine req_cons (.val (.slice (some ⟨pg, 0, none⟩) n cp)) (by kernel_rfl) (fun vs w1 he hd => StepG.on (g := 10) (d := 88) (x := false) (v := vs 10) (by kernel_rfl) (by kernel_rfl) (by kernel_rfl) (hd 10 (.val (.bool false)) (by kernel_rfl) (by kernel_rfl)) (gives_move (x := (.tmp 7)) (v := (.slice (some ⟨pg, 0, none⟩) n cp)) (by kernel_rfl) (by kernel_rfl) ⟨Ex.refl _, rfl⟩)) ?_
            refine req_cons (.val (.int .i64 (j : Int))) (by kernel_rfl) (fun vs w1 he hd => StepG.on (g := 10) (d := 88) (x := false) (v := vs 10) (by kernel_rfl) (by kernel_rfl) (by kernel_rfl) (hd 10 (.val (.bool false)) (by kernel_rfl) (by kernel_rfl)) (gives_move (x := (.tmp 10)) (v := (.int .i64 (j : Int))) (by kernel_rfl) (by kernel_rfl) ⟨Ex.refl _, rfl⟩)) ?_
            refine req_cons (.val (.pointer (some ⟨pg, j, none⟩))) (by kernel_rfl) (fun vs w1 he hd => StepG.on (g := 10) (d := 88) (x := false) (v := vs 10) (by kernel_rfl) (by kernel_rfl) (by kernel_rfl) (hd 10 (.val (.bool false)) (by kernel_rfl) (by kernel_rfl)) (gives_index (n := n) (cp := cp) HIJ.out (x := .tmp 91) (y := .tmp 92) (by kernel_rfl) (Eq.trans (b := vs 13) (by kernel_rfl) (hd 13 (.val (.slice (some ⟨pg, 0, none⟩) n cp)) (by kernel_rfl) (by kernel_rfl))) (Eq.trans (b := vs 14) (by kernel_rfl) (hd 14 (.val (.int .i64 (j : Int))) (by kernel_rfl) (by kernel_rfl))) ⟨Ex.refl _, rfl⟩)) ?_
            refine req_cons (.val (.slice au pl cu)) (by kernel_rfl) (fun vs w1 he hd => StepG.on (g := 10) (d := 88) (x := false) (v := vs 10) (by kernel_rfl) (by kernel_rfl) (by kernel_rfl) (hd 10 (.val (.bool false)) (by kernel_rfl) (by kernel_rfl)) (gives_load (x := .tmp 93) (v := .slice au pl cu) (by kernel_rfl) (Eq.trans (b := vs 15) (by kernel_rfl) (hd 15 (.val (.pointer (some ⟨pg, j, none⟩))) (by kernel_rfl) (by kernel_rfl))) (cell_kept HCE.out he) ⟨Ex.refl _, rfl⟩)) ?_
            refine req_cons (.val (.string ⟨(List.toArray P)⟩)) (by kernel_rfl) (fun vs w1 he hd => StepG.on (g := 10) (d := 88) (x := false) (v := vs 10) (by kernel_rfl) (by kernel_rfl) (by kernel_rfl) (hd 10 (.val (.bool false)) (by kernel_rfl) (by kernel_rfl)) (gives_str (x := (.tmp 94)) (v := (.slice au pl cu)) (xs := P) (by kernel_rfl) (Eq.trans (b := vs 16) (by kernel_rfl) (hd 16 (.val (.slice au pl cu)) (by kernel_rfl) (by kernel_rfl))) ((HBU.out.fresh he)) ⟨Ex.refl _, rfl⟩)) ?_
            refine req_cons (.val (.bool false)) (by kernel_rfl) (fun vs w1 he hd => StepG.on (g := 10) (d := 88) (x := false) (v := vs 10) (by kernel_rfl) (by kernel_rfl) (by kernel_rfl) (hd 10 (.val (.bool false)) (by kernel_rfl) (by kernel_rfl)) (gives_neS (x := (.tmp 90)) (y := (.tmp 95)) (xs := P) (ys := P) (r := false) (by kernel_rfl) (Eq.trans (b := vs 12) (by kernel_rfl) (hd 12 (.val (.string ⟨(List.toArray P)⟩)) (by kernel_rfl) (by kernel_rfl))) (Eq.trans (b := vs 17) (by kernel_rfl) (hd 17 (.val (.string ⟨(List.toArray P)⟩)) (by kernel_rfl) (by kernel_rfl))) (by simp) ⟨Ex.refl _, rfl⟩)) ?_
            refine req_cons (.val (.bool false)) (by kernel_rfl) (fun vs w1 he hd => StepG.plain (by kernel_rfl) (gives_pick_f (x := (.tmp 88)) (y := (.const (.bool true))) (z := (.tmp 96)) (v := (.bool false)) (by kernel_rfl) (Eq.trans (b := vs 10) (by kernel_rfl) (hd 10 (.val (.bool false)) (by kernel_rfl) (by kernel_rfl))) (Eq.trans (b := vs 18) (by kernel_rfl) (hd 18 (.val (.bool false)) (by kernel_rfl) (by kernel_rfl))) ⟨Ex.refl _, rfl⟩)) ?_
            refine req_cons (.val (.bool false)) (by kernel_rfl) (fun vs w1 he hd => StepG.plain (by kernel_rfl) (gives_move (x := (.tmp 97)) (v := (.bool false)) (by kernel_rfl) (Eq.trans (b := vs 19) (by kernel_rfl) (hd 19 (.val (.bool false)) (by kernel_rfl) (by kernel_rfl))) ⟨Ex.refl _, rfl⟩)) ?_
            refine req_cons (.val (.pointer (some ⟨gi, 0, none⟩))) (by kernel_rfl) (fun vs w1 he hd => StepG.on (g := 20) (d := 98) (x := false) (v := vs 20) (by kernel_rfl) (by kernel_rfl) (by kernel_rfl) (hd 20 (.val (.bool false)) (by kernel_rfl) (by kernel_rfl)) (gives_move (x := (.tmp 9)) (v := (.pointer (some ⟨gi, 0, none⟩))) (by kernel_rfl) (by kernel_rfl) ⟨Ex.refl _, rfl⟩)) ?_
            refine req_cons (.val (.int .i64 0)) (by kernel_rfl) (fun vs w1 he hd => StepG.on (g := 20) (d := 98) (x := false) (v := vs 20) (by kernel_rfl) (by kernel_rfl) (by kernel_rfl) (hd 20 (.val (.bool false)) (by kernel_rfl) (by kernel_rfl)) (gives_call (f := 15) (xs := #[(.tmp 99)]) (ts := #[28]) (vs := #[(vs 21)]) (by kernel_rfl) (by kernel_rfl) (by kernel_rfl) Tryd.func15 (by kernel_rfl) (by kernel_rfl) (by rw [show vs 21 = .pointer (some ⟨gi, 0, none⟩) from (hd 21 (.val (.pointer (some ⟨gi, 0, none⟩))) (by kernel_rfl) (by kernel_rfl))]; exact told_valE (held_c _ (HE8.out.inn.fresh he))))) ?_
            refine req_cons (.val (.bool false)) (by kernel_rfl) (fun vs w1 he hd => StepG.on (g := 20) (d := 98) (x := false) (v := vs 20) (by kernel_rfl) (by kernel_rfl) (by kernel_rfl) (hd 20 (.val (.bool false)) (by kernel_rfl) (by kernel_rfl)) (gives_neI (t := 3) (k := .i64) (a := 0) (b := 0) (x := (.tmp 100)) (y := (.const (.int .i64 0))) (r := false) (by kernel_rfl) (Eq.trans (b := vs 22) (by kernel_rfl) (hd 22 (.val (.int .i64 0)) (by kernel_rfl) (by kernel_rfl))) (by kernel_rfl) (by simp) ⟨Ex.refl _, rfl⟩)) ?_
            refine req_cons (.val (.bool false)) (by kernel_rfl) (fun vs w1 he hd => StepG.plain (by kernel_rfl) (gives_pick_f (x := (.tmp 98)) (y := (.const (.bool true))) (z := (.tmp 101)) (v := (.bool false)) (by kernel_rfl) (Eq.trans (b := vs 20) (by kernel_rfl) (hd 20 (.val (.bool false)) (by kernel_rfl) (by kernel_rfl))) (Eq.trans (b := vs 23) (by kernel_rfl) (hd 23 (.val (.bool false)) (by kernel_rfl) (by kernel_rfl))) ⟨Ex.refl _, rfl⟩)) ?_
            exact req_nil
          intro vs w11 hx hF
          have e0 : vs 0 = (.int .i64 0) := told_at hF 0 (.val (.int .i64 0)) (by decide) (by kernel_rfl)
          have e1 : vs 1 = (.bool false) := told_at hF 1 (.val (.bool false)) (by decide) (by kernel_rfl)
          have e2 : vs 2 = (.bool false) := told_at hF 2 (.val (.bool false)) (by decide) (by kernel_rfl)
          have e3 : vs 3 = (.bool true) := told_at hF 3 (.val (.bool true)) (by decide) (by kernel_rfl)
          have e4 : vs 4 = (.bool false) := told_at hF 4 (.val (.bool false)) (by decide) (by kernel_rfl)
          have e5 : vs 5 = (.bool false) := told_at hF 5 (.val (.bool false)) (by decide) (by kernel_rfl)
          have e6 : vs 6 = (.bool false) := told_at hF 6 (.val (.bool false)) (by decide) (by kernel_rfl)
          have e7 : vs 7 = (.int .i64 0) := told_at hF 7 (.val (.int .i64 0)) (by decide) (by kernel_rfl)
          have e8 : vs 8 = (.bool false) := told_at hF 8 (.val (.bool false)) (by decide) (by kernel_rfl)
          have e9 : vs 9 = (.bool false) := told_at hF 9 (.val (.bool false)) (by decide) (by kernel_rfl)
          have e10 : vs 10 = (.bool false) := told_at hF 10 (.val (.bool false)) (by decide) (by kernel_rfl)
          have e11 : vs 11 = (.slice a8 pl c8) := told_at hF 11 (.val (.slice a8 pl c8)) (by decide) (by kernel_rfl)
          have e12 : vs 12 = (.string ⟨(List.toArray P)⟩) := told_at hF 12 (.val (.string ⟨(List.toArray P)⟩)) (by decide) (by kernel_rfl)
          have e13 : vs 13 = (.slice (some ⟨pg, 0, none⟩) n cp) := told_at hF 13 (.val (.slice (some ⟨pg, 0, none⟩) n cp)) (by decide) (by kernel_rfl)
          have e14 : vs 14 = (.int .i64 (j : Int)) := told_at hF 14 (.val (.int .i64 (j : Int))) (by decide) (by kernel_rfl)
          have e15 : vs 15 = (.pointer (some ⟨pg, j, none⟩)) := told_at hF 15 (.val (.pointer (some ⟨pg, j, none⟩))) (by decide) (by kernel_rfl)
          have e16 : vs 16 = (.slice au pl cu) := told_at hF 16 (.val (.slice au pl cu)) (by decide) (by kernel_rfl)
          have e17 : vs 17 = (.string ⟨(List.toArray P)⟩) := told_at hF 17 (.val (.string ⟨(List.toArray P)⟩)) (by decide) (by kernel_rfl)
          have e18 : vs 18 = (.bool false) := told_at hF 18 (.val (.bool false)) (by decide) (by kernel_rfl)
          have e19 : vs 19 = (.bool false) := told_at hF 19 (.val (.bool false)) (by decide) (by kernel_rfl)
          have e20 : vs 20 = (.bool false) := told_at hF 20 (.val (.bool false)) (by decide) (by kernel_rfl)
          have e21 : vs 21 = (.pointer (some ⟨gi, 0, none⟩)) := told_at hF 21 (.val (.pointer (some ⟨gi, 0, none⟩))) (by decide) (by kernel_rfl)
          have e22 : vs 22 = (.int .i64 0) := told_at hF 22 (.val (.int .i64 0)) (by decide) (by kernel_rfl)
          have e23 : vs 23 = (.bool false) := told_at hF 23 (.val (.bool false)) (by decide) (by kernel_rfl)
          have e24 : vs 24 = (.bool false) := told_at hF 24 (.val (.bool false)) (by decide) (by kernel_rfl)
          simp only [List.length_cons, List.length_nil, actsTo, if_true, dstOf, List.getElem?_toArray, List.getElem?_cons_succ, List.getElem?_cons_zero, Option.bind_some, Act.put, List.setIfInBounds_toArray, List.set_cons_zero, List.set_cons_succ]
          simp only [e0, e1, e2, e3, e4, e5, e6, e7, e8, e9, e10, e11, e12, e13, e14, e15, e16, e17, e18, e19, e20, e21, e22, e23, e24]
          clear hF e0 e1 e2 e3 e4 e5 e6 e7 e8 e9 e10 e11 e12 e13 e14 e15 e16 e17 e18 e19 e20 e21 e22 e23 e24 vs
          have HE11 := hidden (HE8.out.fresh hx)
          have HP11 := hidden (HP10.out.fresh hx)
          clear hx HE8 HP10 HB8 HBU HCE
          go_wp2
          go_roundw
          case rel => exact ⟨j + 1, h10, _, _, ky, by omega, by go_num, HKO.out, HE11.out, HP11.out⟩
          case measure => simp [intOf]; omega
        · have hcut := cut_c 30 (by omega) v1 z1
          have HCU := hidden hcut
          have hTK : (z1.take 30).length ≤ 30 := by rw [List.length_take]; omega
          have hj256 : (j : Int) % 256 = (j : Int) := by omega
          have HJB : Hid ((j : Int) = ((UInt8.ofNat j).toNat : Int)) := by
            show _ = _
            rw [UInt8.toNat_ofNat']
            omega
          have HOL := hidden (own_lit wr (UInt8.ofNat j) (j : Int) HJB.out)
          clear hxc hcut
          go_wp2_with fail
          refine (HCU.out _ ((H1.out.fresh HE.out.b).fresh HOL.out.b)).mono ?_
          rintro e w5 ⟨v5, rfl, hb5, _, hw5⟩
          subst hw5
          generalize z1.take 30 = z at hb5 hTK
          have HS5 := hidden hb5.src
          clear hb5
          go_wp2_with (at_builtin; (refine wpList_own _ rfl (.tmp 45) (.tmp 47) 23 rfl wr _ [UInt8.ofNat j] rfl HOL.out _ z rfl HS5.out (by simp; omega) ?_))
          intro v6 w6 o6 _ _
          have O6 := hidden o6
          clear o6 HS5
          go_wp2_with fail
          refine (sized_b 32 (by omega) v6 _ w6 O6.out.bsl).mono ?_
          rintro e w7 ⟨rfl, hs7, hb7⟩
          have HKL := hidden (sizedL_length (UInt8.ofNat j :: z) 32)
          generalize sizedL (UInt8.ofNat j :: z) 32 = key at hs7 HKL
          have HS7 := hidden hs7
          have HGK1 : Hid (w6.heap.size < w7.heap.size) := by
            obtain ⟨b, o, c, e, hlt⟩ := HS7.out.nonnil (by intro e; have := HKL.out; rw [e] at this; simp at this)
            have e2 := congrArg Value.ownBlock e
            simp [Value.ownBlock] at e2
            show _ < _
            omega
          have HE7 : Hid (Ends w w7 (fun k => k = w6.heap.size ∨ (Value.slice (some ⟨pg, 0, none⟩) n cp).ownBlock = some k) go gi h ko ki ky j ky j [] 0) := by
            have E := (HE.out.fresh O6.out.b).fresh hb7
            refine E.more fun k e => ?_
            rcases e with e | e
            · refine ⟨by rw [e]; exact HGK1.out, fun hf => ?_⟩
              have h1 := (HE.out.footLt hf).2
              have h2 := O6.out.b.size
              omega
            · exact E.res k e
          have HP7 := hidden ((HP.out.fresh O6.out.b).fresh hb7)
          generalize w6.heap.size = gk at HS7 HE7 ⊢
          clear hs7 hb7 HE HP HGK1 O6 HOL
          go_wp2_with fail
          refine (ends_okeys HE7.out _ key HS7.out HKL.out).mono ?_
          rintro e w8 ⟨rfl, ko8, he8, hk8⟩
          have HE8 := hidden he8
          have HS8 := hidden (HE7.out.bsl hk8 HS7.out (fun k e => by simp [Value.ownBlock] at e; exact .inl e.symm))
          have HP8 := hidden (HE7.out.pls hk8 HP7.out (fun k e => .inr e))
          clear he8 hk8 HE7 HS7 HP7
          go_wp2_with fail
          refine (ends_ikeys HE8.out _ key HS8.out HKL.out).mono ?_
          rintro e w9 ⟨rfl, ki9, he9, hk9⟩
          have HEq := hidden (he9.more (K' := fun k => (Value.slice (some ⟨pg, 0, none⟩) n cp).ownBlock = some k) (fun k e => he9.res k (.inr e)))
          have HPq := hidden (HE8.out.pls hk9 HP8.out (fun k e => .inr e))
          clear HKO
          have HKO : Hid (KeyOk key) := .inr HKL.out
          clear he9 hk9 HE8 HS8 HP8
          obtain ⟨ky, eky⟩ : ∃ ky, ky = key := ⟨_, rfl⟩
          subst eky
          obtain ⟨u, hcell, hbs⟩ := HPq.out.get HEq.out.b j (by have := HN.out; omega)
          have hej := HEACH.out j hlt
          have HPK := hidden (ends_packet HEq.out HCL.out u _ hbs hej.1 (by omega) (by omega))
          clear hbs
          go_wp2_with fail
          refine HPK.out.mono ?_
          rintro e w8 ⟨v8, rfl, hrow, he8, hk8⟩
          have HP8 := hidden (HEq.out.pls hk8 HPq.out (fun k e => e))
          have hpmx := packetL_le HKO.out j (ps.getD j []) (by omega)
          have HNT : Hid (nextR ky j (packetL ky j (ps.getD j [])) = .told (ps.getD j []) []) := by
            have := next_packet HKO.out j (ps.getD j []) hej.1 (by omega) []
            rw [List.append_nil] at this
            exact this
          generalize packetL ky j (ps.getD j []) = Q at hrow hpmx HNT
          have HQB := hidden (BSl.ofRow hrow)
          have HE8x := hidden he8
          have hvs := ownsRow_shape hrow
          obtain ⟨aq, cq, eq8⟩ := hvs
          have HQ9 : Hid (Q.length ≤ 332) := hpmx
          generalize Q.length = ql at eq8
          subst eq8
          clear hrow he8 hk8 HPK hcell HEq HPq hpmx
          go_wp2_with fail
          refine (ends_feed HE8x.out _ Q HQB.out (by have := HQ9.out; rw [List.length_nil]; omega)).mono ?_
          rintro e w9 ⟨rfl, h9, he9, hk9⟩
          rw [List.nil_append] at he9
          have HE9 := hidden he9
          have HP9 := hidden (HE8x.out.pls hk9 HP8.out (fun k e => e))
          clear he9 hk9 HP8
          have hNX := ends_next HE9.out HCL.out (by have := HQ9.out; omega) (by omega)
          rw [HNT.out] at hNX
          have HNX := hidden hNX
          clear hNX
          go_wp2_with fail
          refine HNX.out.mono ?_
          rintro e w10 ⟨v10, h10, rfl, hb10, _, he10, hk10⟩
          have HE8 := hidden he10
          have HP10 := hidden (HE9.out.pls hk10 HP9.out (fun k e => e))
          obtain ⟨u2, hcell, hbs⟩ := HP10.out.get HE8.out.b j (by have := HN.out; omega)
          have HB8 := hidden hb10
          have HBU := hidden hbs
          have HCE := hidden hcell
          have HIJ : Hid (j < n) := hlt
          obtain ⟨a8, c8, e8⟩ := hb10.len
          obtain ⟨au, cu, eu⟩ := hbs.len
          generalize (ps.getD j []) = P at *
          generalize P.length = pl at e8 eu
          subst e8 eu
          clear hb10 hbs he10 hk10 HNX hcell HE9 HP9 HE8x HQB
          go_wp2_with fail
          refine region_free [(.val (.int .i64 0)), (.val (.bool false)), (.val (.bool false)), (.val (.bool true)), (.val (.bool false)), (.val (.bool false)), (.val (.bool false)), (.val (.int .i64 0)), (.val (.bool false)), (.val (.bool false)), (.val (.bool false)), (.val (.slice a8 pl c8)), (.val (.string ⟨(List.toArray P)⟩)), (.val (.slice (some ⟨pg, 0, none⟩) n cp)), (.val (.int .i64 (j : Int))), (.val (.pointer (some ⟨pg, j, none⟩))), (.val (.slice au pl cu)), (.val (.string ⟨(List.toArray P)⟩)), (.val (.bool false)), (.val (.bool false)), (.val (.bool false)), (.val (.pointer (some ⟨gi, 0, none⟩))), (.val (.int .i64 0)), (.val (.bool false)), (.val (.bool false))] (by kernel_rfl) ?_ ?_
          · refine req_cons (.val (.int .i64 0)) (by kernel_rfl) (fun vs w1 he hd => StepG.plain (by kernel_rfl) (gives_move (x := (.tmp 13)) (v := (.int .i64 0)) (by kernel_rfl) (by kernel_rfl) ⟨Ex.refl _, rfl⟩)) ?_
            refine req_cons (.val (.bool false)) (by kernel_rfl) (fun vs w1 he hd => StepG.plain (by kernel_rfl) (gives_neI (t := 31) (k := .i64) (a := 0) (b := 0) (x := (.tmp 78)) (y := (.const (.int .i64 0))) (r := false) (by kernel_rfl) (Eq.trans (b := vs 0) (by kernel_rfl) (hd 0 (.val (.int .i64 0)) (by kernel_rfl) (by kernel_rfl))) (by kernel_rfl) (by simp) ⟨Ex.refl _, rfl⟩)) ?_
            refine req_cons (.val (.bool false)) (by kernel_rfl) (fun vs w1 he hd => StepG.plain (by kernel_rfl) (gives_move (x := (.tmp 79)) (v := (.bool false)) (by kernel_rfl) (Eq.trans (b := vs 1) (by kernel_rfl) (hd 1 (.val (.bool false)) (by kernel_rfl) (by kernel_rfl))) ⟨Ex.refl _, rfl⟩)) ?_
            refine req_cons (.val (.bool true)) (by kernel_rfl) (fun vs w1 he hd => StepG.on (g := 2) (d := 80) (x := false) (v := vs 2) (by kernel_rfl) (by kernel_rfl) (by kernel_rfl) (hd 2 (.val (.bool false)) (by kernel_rfl) (by kernel_rfl)) (gives_move (x := (.tmp 15)) (v := (.bool true)) (by kernel_rfl) (by kernel_rfl) ⟨Ex.refl _, rfl⟩)) ?_
            refine req_cons (.val (.bool false)) (by kernel_rfl) (fun vs w1 he hd => StepG.on (g := 2) (d := 80) (x := false) (v := vs 2) (by kernel_rfl) (by kernel_rfl) (by kernel_rfl) (hd 2 (.val (.bool false)) (by kernel_rfl) (by kernel_rfl)) (gives_not (t := 4) (b := true) (x := (.tmp 81)) (by kernel_rfl) (Eq.trans (b := vs 3) (by kernel_rfl) (hd 3 (.val (.bool true)) (by kernel_rfl) (by kernel_rfl))) ⟨Ex.refl _, rfl⟩)) ?_
            refine req_cons (.val (.bool false)) (by kernel_rfl) (fun vs w1 he hd => StepG.plain (by kernel_rfl) (gives_pick_f (x := (.tmp 80)) (y := (.const (.bool true))) (z := (.tmp 82)) (v := (.bool false)) (by kernel_rfl) (Eq.trans (b := vs 2) (by kernel_rfl) (hd 2 (.val (.bool false)) (by kernel_rfl) (by kernel_rfl))) (Eq.trans (b := vs 4) (by kernel_rfl) (hd 4 (.val (.bool false)) (by kernel_rfl) (by kernel_rfl))) ⟨Ex.refl _, rfl⟩)) ?_
            refine req_cons (.val (.bool false)) (by kernel_rfl) (fun vs w1 he hd => StepG.plain (by kernel_rfl) (gives_move (x := (.tmp 83)) (v := (.bool false)) (by kernel_rfl) (Eq.trans (b := vs 5) (by kernel_rfl) (hd 5 (.val (.bool false)) (by kernel_rfl) (by kernel_rfl))) ⟨Ex.refl _, rfl⟩)) ?_
            refine req_cons (.val (.int .i64 0)) (by kernel_rfl) (fun vs w1 he hd => StepG.on (g := 6) (d := 84) (x := false) (v := vs 6) (by kernel_rfl) (by kernel_rfl) (by kernel_rfl) (hd 6 (.val (.bool false)) (by kernel_rfl) (by kernel_rfl)) (gives_move (x := (.tmp 16)) (v := (.int .i64 0)) (by kernel_rfl) (by kernel_rfl) ⟨Ex.refl _, rfl⟩)) ?_
            refine req_cons (.val (.bool false)) (by kernel_rfl) (fun vs w1 he hd => StepG.on (g := 6) (d := 84) (x := false) (v := vs 6) (by kernel_rfl) (by kernel_rfl) (by kernel_rfl) (hd 6 (.val (.bool false)) (by kernel_rfl) (by kernel_rfl)) (gives_neI (t := 31) (k := .i64) (a := 0) (b := 0) (x := (.tmp 85)) (y := (.const (.int .i64 0))) (r := false) (by kernel_rfl) (Eq.trans (b := vs 7) (by kernel_rfl) (hd 7 (.val (.int .i64 0)) (by kernel_rfl) (by kernel_rfl))) (by kernel_rfl) (by simp) ⟨Ex.refl _, rfl⟩)) ?_
            refine req_cons (.val (.bool false)) (by kernel_rfl) (fun vs w1 he hd => StepG.plain (by kernel_rfl) (gives_pick_f (x := (.tmp 84)) (y := (.const (.bool true))) (z := (.tmp 86)) (v := (.bool false)) (by kernel_rfl) (Eq.trans (b := vs 6) (by kernel_rfl) (hd 6 (.val (.bool false)) (by kernel_rfl) (by kernel_rfl))) (Eq.trans (b := vs 8) (by kernel_rfl) (hd 8 (.val (.bool false)) (by kernel_rfl) (by kernel_rfl))) ⟨Ex.refl _, rfl⟩)) ?_
            refine req_cons (.val (.bool false)) (by kernel_rfl) (fun vs w1 he hd => StepG.plain (by kernel_rfl) (gives_move (x := (.tmp 87)) (v := (.bool false)) (by kernel_rfl) (Eq.trans (b := vs 9) (by kernel_rfl) (hd 9 (.val (.bool false)) (by kernel_rfl) (by kernel_rfl))) ⟨Ex.refl _, rfl⟩)) ?_
            refine req_cons (.val (.slice a8 pl c8)) (by kernel_rfl) (fun vs w1 he hd => StepG.on (g := 10) (d := 88) (x := false) (v := vs 10) (by kernel_rfl) (by kernel_rfl) (by kernel_rfl) (hd 10 (.val (.bool false)) (by kernel_rfl) (by kernel_rfl)) (gives_move (x := (.tmp 14)) (v := (.slice a8 pl c8)) (by kernel_rfl) (by kernel_rfl) ⟨Ex.refl _, rfl⟩)) ?_
            refine req_cons (.val (.string ⟨(List.toArray P)⟩)) (by kernel_rfl) (fun vs w1 he hd => StepG.on (g := 10) (d := 88) (x := false) (v := vs 10) (by kernel_rfl) (by kernel_rfl) (by kernel_rfl) (hd 10 (.val (.bool false)) (by kernel_rfl) (by kernel_rfl)) (gives_str (x := (.tmp 89)) (v := (.slice a8 pl c8)) (xs := P) (by kernel_rfl) (Eq.trans (b := vs 11) (by kernel_rfl) (hd 11 (.val (.slice a8 pl c8)) (by kernel_rfl) (by kernel_rfl))) ((HB8.out.fresh he)) ⟨Ex.refl _, rfl⟩)) ?_
            refine req_cons (.val (.slice (some ⟨pg, 0, none⟩) n cp)) (by kernel_rfl) (fun vs w1 he hd => StepG.on (g := 10) (d := 88) (x := false) (v := vs 10) (by kernel_rfl) (by kernel_rfl) (by kernel_rfl) (hd 10 (.val (.bool false)) (by kernel_rfl) (by kernel_rfl)) (gives_move (x := (.tmp 7)) (v := (.slice (some ⟨pg, 0, none⟩) n cp)) (by kernel_rfl) (by kernel_rfl) ⟨Ex.refl _, rfl⟩)) ?_
            refine req_cons (.val (.int .i64 (j : Int))) (by kernel_rfl) (fun vs w1 he hd => StepG.on (g := 10) (d := 88) (x := false) (v := vs 10) (by kernel_rfl) (by kernel_rfl) (by kernel_rfl) (hd 10 (.val (.bool false)) (by kernel_rfl) (by kernel_rfl)) (gives_move (x := (.tmp 10)) (v := (.int .i64 (j : Int))) (by kernel_rfl) (by kernel_rfl) ⟨Ex.refl _, rfl⟩)) ?_
            refine req_cons (.val (.pointer (some ⟨pg, j, none⟩))) (by kernel_rfl) (fun vs w1 he hd => StepG.on (g := 10) (d := 88) (x := false) (v := vs 10) (by kernel_rfl) (by kernel_rfl) (by kernel_rfl) (hd 10 (.val (.bool false)) (by kernel_rfl) (by kernel_rfl)) (gives_index (n := n) (cp := cp) HIJ.out (x := .tmp 91) (y := .tmp 92) (by kernel_rfl) (Eq.trans (b := vs 13) (by kernel_rfl) (hd 13 (.val (.slice (some ⟨pg, 0, none⟩) n cp)) (by kernel_rfl) (by kernel_rfl))) (Eq.trans (b := vs 14) (by kernel_rfl) (hd 14 (.val (.int .i64 (j : Int))) (by kernel_rfl) (by kernel_rfl))) ⟨Ex.refl _, rfl⟩)) ?_
            refine req_cons (.val (.slice au pl cu)) (by kernel_rfl) (fun vs w1 he hd => StepG.on (g := 10) (d := 88) (x := false) (v := vs 10) (by kernel_rfl) (by kernel_rfl) (by kernel_rfl) (hd 10 (.val (.bool false)) (by kernel_rfl) (by kernel_rfl)) (gives_load (x := .tmp 93) (v := .slice au pl cu) (by kernel_rfl) (Eq.trans (b := vs 15) (by kernel_rfl) (hd 15 (.val (.pointer (some ⟨pg, j, none⟩))) (by kernel_rfl) (by kernel_rfl))) (cell_kept HCE.out he) ⟨Ex.refl _, rfl⟩)) ?_
            refine req_cons (.val (.string ⟨(List.toArray P)⟩)) (by kernel_rfl) (fun vs w1 he hd => StepG.on (g := 10) (d := 88) (x := false) (v := vs 10) (by kernel_rfl) (by kernel_rfl) (by kernel_rfl) (hd 10 (.val (.bool false)) (by kernel_rfl) (by kernel_rfl)) (gives_str (x := (.tmp 94)) (v := (.slice au pl cu)) (xs := P) (by kernel_rfl) (Eq.trans (b := vs 16) (by kernel_rfl) (hd 16 (.val (.slice au pl cu)) (by kernel_rfl) (by kernel_rfl))) ((HBU.out.fresh he)) ⟨Ex.refl _, rfl⟩)) ?_
            refine req_cons (.val (.bool false)) (by kernel_rfl) (fun vs w1 he hd => StepG.on (g := 10) (d := 88) (x := false) (v := vs 10) (by kernel_rfl) (by kernel_rfl) (by kernel_rfl) (hd 10 (.val (.bool false)) (by kernel_rfl) (by kernel_rfl)) (gives_neS (x := (.tmp 90)) (y := (.tmp 95)) (xs := P) (ys := P) (r := false) (by kernel_rfl) (Eq.trans (b := vs 12) (by kernel_rfl) (hd 12 (.val (.string ⟨(List.toArray P)⟩)) (by kernel_rfl) (by kernel_rfl))) (Eq.trans (b := vs 17) (by kernel_rfl) (hd 17 (.val (.string ⟨(List.toArray P)⟩)) (by kernel_rfl) (by kernel_rfl))) (by simp) ⟨Ex.refl _, rfl⟩)) ?_
            refine req_cons (.val (.bool false)) (by kernel_rfl) (fun vs w1 he hd => StepG.plain (by kernel_rfl) (gives_pick_f (x := (.tmp 88)) (y := (.const (.bool true))) (z := (.tmp 96)) (v := (.bool false)) (by kernel_rfl) (Eq.trans (b := vs 10) (by kernel_rfl) (hd 10 (.val (.bool false)) (by kernel_rfl) (by kernel_rfl))) (Eq.trans (b := vs 18) (by kernel_rfl) (hd 18 (.val (.bool false)) (by kernel_rfl) (by kernel_rfl))) ⟨Ex.refl _, rfl⟩)) ?_
            refine req_cons (.val (.bool false)) (by kernel_rfl) (fun vs w1 he hd => StepG.plain (by kernel_rfl) (gives_move (x := (.tmp 97)) (v := (.bool false)) (by kernel_rfl) (Eq.trans (b := vs 19) (by kernel_rfl) (hd 19 (.val (.bool false)) (by kernel_rfl) (by kernel_rfl))) ⟨Ex.refl _, rfl⟩)) ?_
            refine req_cons (.val (.pointer (some ⟨gi, 0, none⟩))) (by kernel_rfl) (fun vs w1 he hd => StepG.on (g := 20) (d := 98) (x := false) (v := vs 20) (by kernel_rfl) (by kernel_rfl) (by kernel_rfl) (hd 20 (.val (.bool false)) (by kernel_rfl) (by kernel_rfl)) (gives_move (x := (.tmp 9)) (v := (.pointer (some ⟨gi, 0, none⟩))) (by kernel_rfl) (by kernel_rfl) ⟨Ex.refl _, rfl⟩)) ?_
            refine req_cons (.val (.int .i64 0)) (by kernel_rfl) (fun vs w1 he hd => StepG.on (g := 20) (d := 98) (x := false) (v := vs 20) (by kernel_rfl) (by kernel_rfl) (by kernel_rfl) (hd 20 (.val (.bool false)) (by kernel_rfl) (by kernel_rfl)) (gives_call (f := 15) (xs := #[(.tmp 99)]) (ts := #[28]) (vs := #[(vs 21)]) (by kernel_rfl) (by kernel_rfl) (by kernel_rfl) Tryd.func15 (by kernel_rfl) (by kernel_rfl) (by rw [show vs 21 = .pointer (some ⟨gi, 0, none⟩) from (hd 21 (.val (.pointer (some ⟨gi, 0, none⟩))) (by kernel_rfl) (by kernel_rfl))]; exact told_valE (held_c _ (HE8.out.inn.fresh he))))) ?_
            refine req_cons (.val (.bool false)) (by kernel_rfl) (fun vs w1 he hd => StepG.on (g := 20) (d := 98) (x := false) (v := vs 20) (by kernel_rfl) (by kernel_rfl) (by kernel_rfl) (hd 20 (.val (.bool false)) (by kernel_rfl) (by kernel_rfl)) (gives_neI (t := 3) (k := .i64) (a := 0) (b := 0) (x := (.tmp 100)) (y := (.const (.int .i64 0))) (r := false) (by kernel_rfl) (Eq.trans (b := vs 22) (by kernel_rfl) (hd 22 (.val (.int .i64 0)) (by kernel_rfl) (by kernel_rfl))) (by kernel_rfl) (by simp) ⟨Ex.refl _, rfl⟩)) ?_
            refine req_cons (.val (.bool false)) (by kernel_rfl) (fun vs w1 he hd => StepG.plain (by kernel_rfl) (gives_pick_f (x := (.tmp 98)) (y := (.const (.bool true))) (z := (.tmp 101)) (v := (.bool false)) (by kernel_rfl) (Eq.trans (b := vs 20) (by kernel_rfl) (hd 20 (.val (.bool false)) (by kernel_rfl) (by kernel_rfl))) (Eq.trans (b := vs 23) (by kernel_rfl) (hd 23 (.val (.bool false)) (by kernel_rfl) (by kernel_rfl))) ⟨Ex.refl _, rfl⟩)) ?_
            exact req_nil
          intro vs w11 hx hF
          have e0 : vs 0 = (.int .i64 0) := told_at hF 0 (.val (.int .i64 0)) (by decide) (by kernel_rfl)
          have e1 : vs 1 = (.bool false) := told_at hF 1 (.val (.bool false)) (by decide) (by kernel_rfl)
          have e2 : vs 2 = (.bool false) := told_at hF 2 (.val (.bool false)) (by decide) (by kernel_rfl)
          have e3 : vs 3 = (.bool true) := told_at hF 3 (.val (.bool true)) (by decide) (by kernel_rfl)
          have e4 : vs 4 = (.bool false) := told_at hF 4 (.val (.bool false)) (by decide) (by kernel_rfl)
          have e5 : vs 5 = (.bool false) := told_at hF 5 (.val (.bool false)) (by decide) (by kernel_rfl)
          have e6 : vs 6 = (.bool false) := told_at hF 6 (.val (.bool false)) (by decide) (by kernel_rfl)
          have e7 : vs 7 = (.int .i64 0) := told_at hF 7 (.val (.int .i64 0)) (by decide) (by kernel_rfl)
          have e8 : vs 8 = (.bool false) := told_at hF 8 (.val (.bool false)) (by decide) (by kernel_rfl)
          have e9 : vs 9 = (.bool false) := told_at hF 9 (.val (.bool false)) (by decide) (by kernel_rfl)
          have e10 : vs 10 = (.bool false) := told_at hF 10 (.val (.bool false)) (by decide) (by kernel_rfl)
          have e11 : vs 11 = (.slice a8 pl c8) := told_at hF 11 (.val (.slice a8 pl c8)) (by decide) (by kernel_rfl)
          have e12 : vs 12 = (.string ⟨(List.toArray P)⟩) := told_at hF 12 (.val (.string ⟨(List.toArray P)⟩)) (by decide) (by kernel_rfl)
          have e13 : vs 13 = (.slice (some ⟨pg, 0, none⟩) n cp) := told_at hF 13 (.val (.slice (some ⟨pg, 0, none⟩) n cp)) (by decide) (by kernel_rfl)
          have e14 : vs 14 = (.int .i64 (j : Int)) := told_at hF 14 (.val (.int .i64 (j : Int))) (by decide) (by kernel_rfl)
          have e15 : vs 15 = (.pointer (some ⟨pg, j, none⟩)) := told_at hF 15 (.val (.pointer (some ⟨pg, j, none⟩))) (by decide) (by kernel_rfl)
          have e16 : vs 16 = (.slice au pl cu) := told_at hF 16 (.val (.slice au pl cu)) (by decide) (by kernel_rfl)
          have e17 : vs 17 = (.string ⟨(List.toArray P)⟩) := told_at hF 17 (.val (.string ⟨(List.toArray P)⟩)) (by decide) (by kernel_rfl)
          have e18 : vs 18 = (.bool false) := told_at hF 18 (.val (.bool false)) (by decide) (by kernel_rfl)
          have e19 : vs 19 = (.bool false) := told_at hF 19 (.val (.bool false)) (by decide) (by kernel_rfl)
          have e20 : vs 20 = (.bool false) := told_at hF 20 (.val (.bool false)) (by decide) (by kernel_rfl)
          have e21 : vs 21 = (.pointer (some ⟨gi, 0, none⟩)) := told_at hF 21 (.val (.pointer (some ⟨gi, 0, none⟩))) (by decide) (by kernel_rfl)
          have e22 : vs 22 = (.int .i64 0) := told_at hF 22 (.val (.int .i64 0)) (by decide) (by kernel_rfl)
          have e23 : vs 23 = (.bool false) := told_at hF 23 (.val (.bool false)) (by decide) (by kernel_rfl)
          have e24 : vs 24 = (.bool false) := told_at hF 24 (.val (.bool false)) (by decide) (by kernel_rfl)
          simp only [List.length_cons, List.length_nil, actsTo, if_true, dstOf, List.getElem?_toArray, List.getElem?_cons_succ, List.getElem?_cons_zero, Option.bind_some, Act.put, List.setIfInBounds_toArray, List.set_cons_zero, List.set_cons_succ]
          simp only [e0, e1, e2, e3, e4, e5, e6, e7, e8, e9, e10, e11, e12, e13, e14, e15, e16, e17, e18, e19, e20, e21, e22, e23, e24]
          clear hF e0 e1 e2 e3 e4 e5 e6 e7 e8 e9 e10 e11 e12 e13 e14 e15 e16 e17 e18 e19 e20 e21 e22 e23 e24 vs
          have HE11 := hidden (HE8.out.fresh hx)
          have HP11 := hidden (HP10.out.fresh hx)
          clear hx HE8 HP10 HB8 HBU HCE
          go_wp2
          go_roundw
          case rel => exact ⟨j + 1, h10, _, _, ky, by omega, by go_num, HKO.out, HE11.out, HP11.out⟩
          case measure => simp [intOf]; omega
      · have h2' : ¬ (j : Int) < (n2 : Int) := by omega
        have HEq := HE
        have HPq := HP
        clear HE HP
        obtain ⟨u, hcell, hbs⟩ := HPq.out.get HEq.out.b j (by have := HN.out; omega)
        have hej := HEACH.out j hlt
        have HPK := hidden (ends_packet HEq.out HCL.out u _ hbs hej.1 (by omega) (by omega))
        clear hbs
        go_wp2_with fail
        refine HPK.out.mono ?_
        rintro e w8 ⟨v8, rfl, hrow, he8, hk8⟩
        have HP8 := hidden (HEq.out.pls hk8 HPq.out (fun k e => e))
        have hpmx := packetL_le HKO.out j (ps.getD j []) (by omega)
        have HNT : Hid (nextR ky j (packetL ky j (ps.getD j [])) = .told (ps.getD j []) []) := by
          have := next_packet HKO.out j (ps.getD j []) hej.1 (by omega) []
          rw [List.append_nil] at this
          exact this
        generalize packetL ky j (ps.getD j []) = Q at hrow hpmx HNT
        have HQB := hidden (BSl.ofRow hrow)
        have HE8x := hidden he8
        have hvs := ownsRow_shape hrow
        obtain ⟨aq, cq, eq8⟩ := hvs
        have HQ9 : Hid (Q.length ≤ 332) := hpmx
        generalize Q.length = ql at eq8
        subst eq8
        clear hrow he8 hk8 HPK hcell HEq HPq hpmx
        go_wp2_with fail
        refine (ends_feed HE8x.out _ Q HQB.out (by have := HQ9.out; rw [List.length_nil]; omega)).mono ?_
        rintro e w9 ⟨rfl, h9, he9, hk9⟩
        rw [List.nil_append] at he9
        have HE9 := hidden he9
        have HP9 := hidden (HE8x.out.pls hk9 HP8.out (fun k e => e))
        clear he9 hk9 HP8
        have hNX := ends_next HE9.out HCL.out (by have := HQ9.out; omega) (by omega)
        rw [HNT.out] at hNX
        have HNX := hidden hNX
        clear hNX
        go_wp2_with fail
        refine HNX.out.mono ?_
        rintro e w10 ⟨v10, h10, rfl, hb10, _, he10, hk10⟩
        have HE8 := hidden he10
        have HP10 := hidden (HE9.out.pls hk10 HP9.out (fun k e => e))
        obtain ⟨u2, hcell, hbs⟩ := HP10.out.get HE8.out.b j (by have := HN.out; omega)
        have HB8 := hidden hb10
        have HBU := hidden hbs
        have HCE := hidden hcell
        have HIJ : Hid (j < n) := hlt
        obtain ⟨a8, c8, e8⟩ := hb10.len
        obtain ⟨au, cu, eu⟩ := hbs.len
        generalize (ps.getD j []) = P at *
        generalize P.length = pl at e8 eu
        subst e8 eu
        clear hb10 hbs he10 hk10 HNX hcell HE9 HP9 HE8x HQB
        go_wp2_with fail
        refine region_free [(.val (.int .i64 0)), (.val (.bool false)), (.val (.bool false)), (.val (.bool true)), (.val (.bool false)), (.val (.bool false)), (.val (.bool false)), (.val (.int .i64 0)), (.val (.bool false)), (.val (.bool false)), (.val (.bool false)), (.val (.slice a8 pl c8)), (.val (.string ⟨(List.toArray P)⟩)), (.val (.slice (some ⟨pg, 0, none⟩) n cp)), (.val (.int .i64 (j : Int))), (.val (.pointer (some ⟨pg, j, none⟩))), (.val (.slice au pl cu)), (.val (.string ⟨(List.toArray P)⟩)), (.val (.bool false)), (.val (.bool false)), (.val (.bool false)), (.val (.pointer (some ⟨gi, 0, none⟩))), (.val (.int .i64 0)), (.val (.bool false)), (.val (.bool false))] (by kernel_rfl) ?_ ?_
        · refine req_cons (.val (.int .i64 0)) (by kernel_rfl) (fun vs w1 he hd => StepG.plain (by kernel_rfl) (gives_move (x := (.tmp 13)) (v := (.int .i64 0)) (by kernel_rfl) (by kernel_rfl) ⟨Ex.refl _, rfl⟩)) ?_
          refine req_cons (.val (.bool false)) (by kernel_rfl) (fun vs w1 he hd => StepG.plain (by kernel_rfl) (gives_neI (t := 31) (k := .i64) (a := 0) (b := 0) (x := (.tmp 78)) (y := (.const (.int .i64 0))) (r := false) (by kernel_rfl) (Eq.trans (b := vs 0) (by kernel_rfl) (hd 0 (.val (.int .i64 0)) (by kernel_rfl) (by kernel_rfl))) (by kernel_rfl) (by simp) ⟨Ex.refl _, rfl⟩)) ?_
          refine req_cons (.val (.bool false)) (by kernel_rfl) (fun vs w1 he hd => StepG.plain (by kernel_rfl) (gives_move (x := (.tmp 79)) (v := (.bool false)) (by kernel_rfl) (Eq.trans (b := vs 1) (by kernel_rfl) (hd 1 (.val (.bool false)) (by kernel_rfl) (by kernel_rfl))) ⟨Ex.refl _, rfl⟩)) ?_
          refine req_cons (.val (.bool true)) (by kernel_rfl) (fun vs w1 he hd => StepG.on (g := 2) (d := 80) (x := false) (v := vs 2) (by kernel_rfl) (by kernel_rfl) (by kernel_rfl) (hd 2 (.val (.bool false)) (by kernel_rfl) (by kernel_rfl)) (gives_move (x := (.tmp 15)) (v := (.bool true)) (by kernel_rfl) (by kernel_rfl) ⟨Ex.refl _, rfl⟩)) ?_
          refine req_cons (.val (.bool false)) (by kernel_rfl) (fun vs w1 he hd => StepG.on (g := 2) (d := 80) (x := false) (v := vs 2) (by kernel_rfl) (by kernel_rfl) (by kernel_rfl) (hd 2 (.val (.bool false)) (by kernel_rfl) (by kernel_rfl)) (gives_not (t := 4) (b := true) (x := (.tmp 81)) (by kernel_rfl) (Eq.trans (b := vs 3) (by kernel_rfl) (hd 3 (.val (.bool true)) (by kernel_rfl) (by kernel_rfl))) ⟨Ex.refl _, rfl⟩)) ?_
          refine req_cons (.val (.bool false)) (by kernel_rfl) (fun vs w1 he hd => StepG.plain (by kernel_rfl) (gives_pick_f (x := (.tmp 80)) (y := (.const (.bool true))) (z := (.tmp 82)) (v := (.bool false)) (by kernel_rfl) (Eq.trans (b := vs 2) (by kernel_rfl) (hd 2 (.val (.bool false)) (by kernel_rfl) (by kernel_rfl))) (Eq.trans (b := vs 4) (by kernel_rfl) (hd 4 (.val (.bool false)) (by kernel_rfl) (by kernel_rfl))) ⟨Ex.refl _, rfl⟩)) ?_
          refine req_cons (.val (.bool false)) (by kernel_rfl) (fun vs w1 he hd => StepG.plain (by kernel_rfl) (gives_move (x := (.tmp 83)) (v := (.bool false)) (by kernel_rfl) (Eq.trans (b := vs 5) (by kernel_rfl) (hd 5 (.val (.bool false)) (by kernel_rfl) (by kernel_rfl))) ⟨Ex.refl _, rfl⟩)) ?_
          refine req_cons (.val (.int .i64 0)) (by kernel_rfl) (fun vs w1 he hd => StepG.on (g := 6) (d := 84) (x := false) (v := vs 6) (by kernel_rfl) (by kernel_rfl) (by kernel_rfl) (hd 6 (.val (.bool false)) (by kernel_rfl) (by kernel_rfl)) (gives_move (x := (.tmp 16)) (v := (.int .i64 0)) (by kernel_rfl) (by kernel_rfl) ⟨Ex.refl _, rfl⟩)) ?_
          refine req_cons (.val (.bool false)) (by kernel_rfl) (fun vs w1 he hd => StepG.on (g := 6) (d := 84) (x := false) (v := vs 6) (by kernel_rfl) (by kernel_rfl) (by kernel_rfl) (hd 6 (.val (.bool false)) (by kernel_rfl) (by kernel_rfl)) (gives_neI (t := 31) (k := .i64) (a := 0) (b := 0) (x := (.tmp 85)) (y := (.const (.int .i64 0))) (r := false) (by kernel_rfl) (Eq.trans (b := vs 7) (by kernel_rfl) (hd 7 (.val (.int .i64 0)) (by kernel_rfl) (by kernel_rfl))) (by kernel_rfl) (by simp) ⟨Ex.refl _, rfl⟩)) ?_
          refine req_cons (.val (.bool false)) (by kernel_rfl) (fun vs w1 he hd => StepG.plain (by kernel_rfl) (gives_pick_f (x := (.tmp 84)) (y := (.const (.bool true))) (z := (.tmp 86)) (v := (.bool false)) (by kernel_rfl) (Eq.trans (b := vs 6) (by kernel_rfl) (hd 6 (.val (.bool false)) (by kernel_rfl) (by kernel_rfl))) (Eq.trans (b := vs 8) (by kernel_rfl) (hd 8 (.val (.bool false)) (by kernel_rfl) (by kernel_rfl))) ⟨Ex.refl _, rfl⟩)) ?_
          refine req_cons (.val (.bool false)) (by kernel_rfl) (fun vs w1 he hd => StepG.plain (by kernel_rfl) (gives_move (x := (.tmp 87)) (v := (.bool false)) (by kernel_rfl) (Eq.trans (b := vs 9) (by kernel_rfl) (hd 9 (.val (.bool false)) (by kernel_rfl) (by kernel_rfl))) ⟨Ex.refl _, rfl⟩)) ?_
          refine req_cons (.val (.slice a8 pl c8)) (by kernel_rfl) (fun vs w1 he hd => StepG.on (g := 10) (d := 88) (x := false) (v := vs 10) (by kernel_rfl) (by kernel_rfl) (by kernel_rfl) (hd 10 (.val (.bool false)) (by kernel_rfl) (by kernel_rfl)) (gives_move (x := (.tmp 14)) (v := (.slice a8 pl c8)) (by kernel_rfl) (by kernel_rfl) ⟨Ex.refl _, rfl⟩)) ?_
          refine req_cons (.val (.string ⟨(List.toArray P)⟩)) (by kernel_rfl) (fun vs w1 he hd => StepG.on (g := 10) (d := 88) (x := false) (v := vs 10) (by kernel_rfl) (by kernel_rfl) (by kernel_rfl) (hd 10 (.val (.bool false)) (by kernel_rfl) (by kernel_rfl)) (gives_str (x := (.tmp 89)) (v := (.slice a8 pl c8)) (xs := P) (by kernel_rfl) (Eq.trans (b := vs 11) (by kernel_rfl) (hd 11 (.val (.slice a8 pl c8)) (by kernel_rfl) (by kernel_rfl))) ((HB8.out.fresh he)) ⟨Ex.refl _, rfl⟩)) ?_
          refine req_cons (.val (.slice (some ⟨pg, 0, none⟩) n cp)) (by kernel_rfl) (fun vs w1 he hd => StepG.on (g := 10) (d := 88) (x := false) (v := vs 10) (by kernel_rfl) (by kernel_rfl) (by kernel_rfl) (hd 10 (.val (.bool false)) (by kernel_rfl) (by kernel_rfl)) (gives_move (x := (.tmp 7)) (v := (.slice (some ⟨pg, 0, none⟩) n cp)) (by kernel_rfl) (by kernel_rfl) ⟨Ex.refl _, rfl⟩)) ?_
          refine req_cons (.val (.int .i64 (j : Int))) (by kernel_rfl) (fun vs w1 he hd => StepG.on (g := 10) (d := 88) (x := false) (v := vs 10) (by kernel_rfl) (by kernel_rfl) (by kernel_rfl) (hd 10 (.val (.bool false)) (by kernel_rfl) (by kernel_rfl)) (gives_move (x := (.tmp 10)) (v := (.int .i64 (j : Int))) (by kernel_rfl) (by kernel_rfl) ⟨Ex.refl _, rfl⟩)) ?_
          refine req_cons (.val (.pointer (some ⟨pg, j, none⟩))) (by kernel_rfl) (fun vs w1 he hd => StepG.on (g := 10) (d := 88) (x := false) (v := vs 10) (by kernel_rfl) (by kernel_rfl) (by kernel_rfl) (hd 10 (.val (.bool false)) (by kernel_rfl) (by kernel_rfl)) (gives_index (n := n) (cp := cp) HIJ.out (x := .tmp 91) (y := .tmp 92) (by kernel_rfl) (Eq.trans (b := vs 13) (by kernel_rfl) (hd 13 (.val (.slice (some ⟨pg, 0, none⟩) n cp)) (by kernel_rfl) (by kernel_rfl))) (Eq.trans (b := vs 14) (by kernel_rfl) (hd 14 (.val (.int .i64 (j : Int))) (by kernel_rfl) (by kernel_rfl))) ⟨Ex.refl _, rfl⟩)) ?_
          refine req_cons (.val (.slice au pl cu)) (by kernel_rfl) (fun vs w1 he hd => StepG.on (g := 10) (d := 88) (x := false) (v := vs 10) (by kernel_rfl) (by kernel_rfl) (by kernel_rfl) (hd 10 (.val (.bool false)) (by kernel_rfl) (by kernel_rfl)) (gives_load (x := .tmp 93) (v := .slice au pl cu) (by kernel_rfl) (Eq.trans (b := vs 15) (by kernel_rfl) (hd 15 (.val (.pointer (some ⟨pg, j, none⟩))) (by kernel_rfl) (by kernel_rfl))) (cell_kept HCE.out he) ⟨Ex.refl _, rfl⟩)) ?_
          refine req_cons (.val (.string ⟨(List.toArray P)⟩)) (by kernel_rfl) (fun vs w1 he hd => StepG.on (g := 10) (d := 88) (x := false) (v := vs 10) (by kernel_rfl) (by kernel_rfl) (by kernel_rfl) (hd 10 (.val (.bool false)) (by kernel_rfl) (by kernel_rfl)) (gives_str (x := (.tmp 94)) (v := (.slice au pl cu)) (xs := P) (by kernel_rfl) (Eq.trans (b := vs 16) (by kernel_rfl) (hd 16 (.val (.slice au pl cu)) (by kernel_rfl) (by kernel_rfl))) ((HBU.out.fresh he)) ⟨Ex.refl _, rfl⟩)) ?_
          refine req_cons (.val (.bool false)) (by kernel_rfl) (fun vs w1 he hd => StepG.on (g := 10) (d := 88) (x := false) (v := vs 10) (by kernel_rfl) (by kernel_rfl) (by kernel_rfl) (hd 10 (.val (.bool false)) (by kernel_rfl) (by kernel_rfl)) (gives_neS (x := (.tmp 90)) (y := (.tmp 95)) (xs := P) (ys := P) (r := false) (by kernel_rfl) (Eq.trans (b := vs 12) (by kernel_rfl) (hd 12 (.val (.string ⟨(List.toArray P)⟩)) (by kernel_rfl) (by kernel_rfl))) (Eq.trans (b := vs 17) (by kernel_rfl) (hd 17 (.val (.string ⟨(List.toArray P)⟩)) (by kernel_rfl) (by kernel_rfl))) (by simp) ⟨Ex.refl _, rfl⟩)) ?_
          refine req_cons (.val (.bool false)) (by kernel_rfl) (fun vs w1 he hd => StepG.plain (by kernel_rfl) (gives_pick_f (x := (.tmp 88)) (y := (.const (.bool true))) (z := (.tmp 96)) (v := (.bool false)) (by kernel_rfl) (Eq.trans (b := vs 10) (by kernel_rfl) (hd 10 (.val (.bool false)) (by kernel_rfl) (by kernel_rfl))) (Eq.trans (b := vs 18) (by kernel_rfl) (hd 18 (.val (.bool false)) (by kernel_rfl) (by kernel_rfl))) ⟨Ex.refl _, rfl⟩)) ?_
          refine req_cons (.val (.bool false)) (by kernel_rfl) (fun vs w1 he hd => StepG.plain (by kernel_rfl) (gives_move (x := (.tmp 97)) (v := (.bool false)) (by kernel_rfl) (Eq.trans (b := vs 19) (by kernel_rfl) (hd 19 (.val (.bool false)) (by kernel_rfl) (by kernel_rfl))) ⟨Ex.refl _, rfl⟩)) ?_
          refine req_cons (.val (.pointer (some ⟨gi, 0, none⟩))) (by kernel_rfl) (fun vs w1 he hd => StepG.on (g := 20) (d := 98) (x := false) (v := vs 20) (by kernel_rfl) (by kernel_rfl) (by kernel_rfl) (hd 20 (.val (.bool false)) (by kernel_rfl) (by kernel_rfl)) (gives_move (x := (.tmp 9)) (v := (.pointer (some ⟨gi, 0, none⟩))) (by kernel_rfl) (by kernel_rfl) ⟨Ex.refl _, rfl⟩)) ?_
          refine req_cons (.val (.int .i64 0)) (by kernel_rfl) (fun vs w1 he hd => StepG.on (g := 20) (d := 98) (x := false) (v := vs 20) (by kernel_rfl) (by kernel_rfl) (by kernel_rfl) (hd 20 (.val (.bool false)) (by kernel_rfl) (by kernel_rfl)) (gives_call (f := 15) (xs := #[(.tmp 99)]) (ts := #[28]) (vs := #[(vs 21)]) (by kernel_rfl) (by kernel_rfl) (by kernel_rfl) Tryd.func15 (by kernel_rfl) (by kernel_rfl) (by rw [show vs 21 = .pointer (some ⟨gi, 0, none⟩) from (hd 21 (.val (.pointer (some ⟨gi, 0, none⟩))) (by kernel_rfl) (by kernel_rfl))]; exact told_valE (held_c _ (HE8.out.inn.fresh he))))) ?_
          refine req_cons (.val (.bool false)) (by kernel_rfl) (fun vs w1 he hd => StepG.on (g := 20) (d := 98) (x := false) (v := vs 20) (by kernel_rfl) (by kernel_rfl) (by kernel_rfl) (hd 20 (.val (.bool false)) (by kernel_rfl) (by kernel_rfl)) (gives_neI (t := 3) (k := .i64) (a := 0) (b := 0) (x := (.tmp 100)) (y := (.const (.int .i64 0))) (r := false) (by kernel_rfl) (Eq.trans (b := vs 22) (by kernel_rfl) (hd 22 (.val (.int .i64 0)) (by kernel_rfl) (by kernel_rfl))) (by kernel_rfl) (by simp) ⟨Ex.refl _, rfl⟩)) ?_
          refine req_cons (.val (.bool false)) (by kernel_rfl) (fun vs w1 he hd => StepG.plain (by kernel_rfl) (gives_pick_f (x := (.tmp 98)) (y := (.const (.bool true))) (z := (.tmp 101)) (v := (.bool false)) (by kernel_rfl) (Eq.trans (b := vs 20) (by kernel_rfl) (hd 20 (.val (.bool false)) (by kernel_rfl) (by kernel_rfl))) (Eq.trans (b := vs 23) (by kernel_rfl) (hd 23 (.val (.bool false)) (by kernel_rfl) (by kernel_rfl))) ⟨Ex.refl _, rfl⟩)) ?_
          exact req_nil
        intro vs w11 hx hF
        have e0 : vs 0 = (.int .i64 0) := told_at hF 0 (.val (.int .i64 0)) (by decide) (by kernel_rfl)
        have e1 : vs 1 = (.bool false) := told_at hF 1 (.val (.bool false)) (by decide) (by kernel_rfl)
        have e2 : vs 2 = (.bool false) := told_at hF 2 (.val (.bool false)) (by decide) (by kernel_rfl)
        have e3 : vs 3 = (.bool true) := told_at hF 3 (.val (.bool true)) (by decide) (by kernel_rfl)
        have e4 : vs 4 = (.bool false) := told_at hF 4 (.val (.bool false)) (by decide) (by kernel_rfl)
        have e5 : vs 5 = (.bool false) := told_at hF 5 (.val (.bool false)) (by decide) (by kernel_rfl)
        have e6 : vs 6 = (.bool false) := told_at hF 6 (.val (.bool false)) (by decide) (by kernel_rfl)
        have e7 : vs 7 = (.int .i64 0) := told_at hF 7 (.val (.int .i64 0)) (by decide) (by kernel_rfl)
        have e8 : vs 8 = (.bool false) := told_at hF 8 (.val (.bool false)) (by decide) (by kernel_rfl)
        have e9 : vs 9 = (.bool false) := told_at hF 9 (.val (.bool false)) (by decide) (by kernel_rfl)
        have e10 : vs 10 = (.bool false) := told_at hF 10 (.val (.bool false)) (by decide) (by kernel_rfl)
        have e11 : vs 11 = (.slice a8 pl c8) := told_at hF 11 (.val (.slice a8 pl c8)) (by decide) (by kernel_rfl)
        have e12 : vs 12 = (.string ⟨(List.toArray P)⟩) := told_at hF 12 (.val (.string ⟨(List.toArray P)⟩)) (by decide) (by kernel_rfl)
        have e13 : vs 13 = (.slice (some ⟨pg, 0, none⟩) n cp) := told_at hF 13 (.val (.slice (some ⟨pg, 0, none⟩) n cp)) (by decide) (by kernel_rfl)
        have e14 : vs 14 = (.int .i64 (j : Int)) := told_at hF 14 (.val (.int .i64 (j : Int))) (by decide) (by kernel_rfl)
        have e15 : vs 15 = (.pointer (some ⟨pg, j, none⟩)) := told_at hF 15 (.val (.pointer (some ⟨pg, j, none⟩))) (by decide) (by kernel_rfl)
        have e16 : vs 16 = (.slice au pl cu) := told_at hF 16 (.val (.slice au pl cu)) (by decide) (by kernel_rfl)
        have e17 : vs 17 = (.string ⟨(List.toArray P)⟩) := told_at hF 17 (.val (.string ⟨(List.toArray P)⟩)) (by decide) (by kernel_rfl)
        have e18 : vs 18 = (.bool false) := told_at hF 18 (.val (.bool false)) (by decide) (by kernel_rfl)
        have e19 : vs 19 = (.bool false) := told_at hF 19 (.val (.bool false)) (by decide) (by kernel_rfl)
        have e20 : vs 20 = (.bool false) := told_at hF 20 (.val (.bool false)) (by decide) (by kernel_rfl)
        have e21 : vs 21 = (.pointer (some ⟨gi, 0, none⟩)) := told_at hF 21 (.val (.pointer (some ⟨gi, 0, none⟩))) (by decide) (by kernel_rfl)
        have e22 : vs 22 = (.int .i64 0) := told_at hF 22 (.val (.int .i64 0)) (by decide) (by kernel_rfl)
        have e23 : vs 23 = (.bool false) := told_at hF 23 (.val (.bool false)) (by decide) (by kernel_rfl)
        have e24 : vs 24 = (.bool false) := told_at hF 24 (.val (.bool false)) (by decide) (by kernel_rfl)
        simp only [List.length_cons, List.length_nil, actsTo, if_true, dstOf, List.getElem?_toArray, List.getElem?_cons_succ, List.getElem?_cons_zero, Option.bind_some, Act.put, List.setIfInBounds_toArray, List.set_cons_zero, List.set_cons_succ]
        simp only [e0, e1, e2, e3, e4, e5, e6, e7, e8, e9, e10, e11, e12, e13, e14, e15, e16, e17, e18, e19, e20, e21, e22, e23, e24]
        clear hF e0 e1 e2 e3 e4 e5 e6 e7 e8 e9 e10 e11 e12 e13 e14 e15 e16 e17 e18 e19 e20 e21 e22 e23 e24 vs
        have HE11 := hidden (HE8.out.fresh hx)
        have HP11 := hidden (HP10.out.fresh hx)
        clear hx HE8 HP10 HB8 HBU HCE
        go_wp2
        go_roundw
        case rel => exact ⟨j + 1, h10, _, _, ky, by omega, by go_num, HKO.out, HE11.out, HP11.out⟩
        case measure => simp [intOf]; omega
    · have hlt' : ¬ (j : Int) < (n : Int) := by omega
      have HKN := hidden (known_c wr (HCL.out.fresh HE.out.b))
      go_wp2_with fail
      refine HKN.out.mono ?_
      rintro e w8 ⟨rfl, hb8⟩
      have HB10 : Hid (Below w.heap.size w w8) := HE.out.b.trans (hb8.mono HE.out.b.size)
      clear hb8
      go_wp2
      go_ret
      exact ⟨rfl, HB10.out⟩
end Go.Proofs.YthkaibkmpenclabDoor
