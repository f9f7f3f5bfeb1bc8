/- KexTells. -/
import Derived.Test.YtookapglookphaaGreatDoorKxX
import Derived.Test.YtookapglookphaaGreatDoorKxO
namespace Go.Proofs.YtookapglookphaaGreatDoor
open Go Go.RowKit

theorem iniO_le (k : List UInt8) : (iniO k).2.length ≤ 5000 := by
  unfold iniO
  split
  · exact ini_le k
  · simp
theorem srvO_le (k p : List UInt8) (s0 s1 : ByteArray) (i1 i2 init : List UInt8) : (srvO k p s0 s1 i1 i2 init).2.1.length ≤ 5000 := by
  unfold srvO
  split
  · split
    · split
      · simp
      · exact rep_le _ _ _
    · simp
  · simp
theorem cliO_le (k p : List UInt8) (s0 s1 : ByteArray) (i1 i2 reply : List UInt8) : (cliO k p s0 s1 i1 i2 reply).2.1.length ≤ 32 ∧ (cliO k p s0 s1 i1 i2 reply).2.2.length ≤ 32 := by
  unfold cliO
  split
  · split
    · split
      · split
        · simp
        · split
          · exact ⟨bare_32, by show (sumL _).length ≤ 32; rw [sumL_length]; omega⟩
          · simp
      · simp
    · simp
  · simp
/-- One byte of a row of one's own is turned. -/
theorem turn_row {w : World} {base : Nat} {v : Value} {J : List UInt8} (h : w.ownsRow base 5 1 v J.length (bcells J)) (hne : J ≠ []) : ∃ g cap, v = .slice (some ⟨g, 0, none⟩) J.length cap ∧ base ≤ g ∧ J.length ≤ cap ∧ (∀ i, i < J.length → w.cell? ⟨g, i, none⟩ = some (.int .u8 ((J.getD i 0).toNat)) ∧ w.frozen? ⟨g, i, none⟩ = false) ∧ BSl w v J ∧ ∀ i (y : UInt8), BSl (w.setCell ⟨g, i, none⟩ (.int .u8 y.toNat)) v (J.set i y) := by
  obtain ⟨g, cap, rfl, ho⟩ := ORow.ofOwns h hne
  refine ⟨g, cap, rfl, (h.lt g rfl).1, ?_, fun i hi => ⟨ho.cell i hi, ho.frozen i⟩, ho.bsl, fun i y => ?_⟩
  · have := ho.bsl.capLe
    omega
  · have := (ho.set i y).bsl
    rw [List.length_set] at this
    exact this

theorem own_next {w w' : World} {base : Nat} {v : Value} {n : Nat} {xs : List Value} (h : w.ownsRow base 5 1 v n xs) (hb : Below w.heap.size w w') : w'.ownsRow base 5 1 v n xs := by
  refine ⟨h.1, ?_⟩
  rcases h.2 with h2 | ⟨g, cap, cur, e, h1, hg, h3⟩
  · exact .inl h2
  · exact .inr ⟨g, cap, cur, e, h1, (hb.block g (lt_of_block hg)).trans hg, h3⟩
/-- Bytes that Server and Client may be handed. -/
def Msg (w : World) (v : Value) : Prop := ∃ M : List UInt8, BSl w v M ∧ M.length ≤ 5000 ∧ ∀ q, v.ownBlock = some q → q < w.heap.size
theorem Msg.next {w w' : World} {v : Value} (h : Msg w v) (hb : Below w.heap.size w w') : Msg w' v := by
  obtain ⟨M, h1, h2, h3⟩ := h
  exact ⟨M, h1.fresh hb, h2, fun q e => by have := h3 q e; have := hb.size; omega⟩
theorem two_at {w wr : World} {B : Nat} {x y : Value} {t : TypeId} (hrow : w.heap[B]? = some (.cells #[x, y] t (0, 0))) (hx : Msg w x) (hy : Msg w y) (hb : Below w.heap.size w wr) (i : Nat) (hi : i < 2) : ∃ v, wr.cell? ⟨B, i, none⟩ = some v ∧ Msg wr v := by
  have h2 := cells2 ((hb.block B (lt_of_block hrow)).trans hrow)
  have hc : i = 0 ∨ i = 1 := by omega
  rcases hc with rfl | rfl
  · exact ⟨x, h2.1, hx.next hb⟩
  · exact ⟨y, h2.2, hy.next hb⟩

set_option maxHeartbeats 6400000 in
set_option maxRecDepth 100000 in
theorem kexTells_c (v0 v1 v2 v5 v6 v7 v8 : Value) (s0 s1 : ByteArray) (whole : Bool) (at_ : Int) (turn : UInt8) (k0 k1 p0 i10 i20 b0 id0 : List UInt8) (w : World) (hr : Rw w) (htp : Tp w) (h0 : BSl w v0 k0) (h1 : BSl w v1 k1) (h2 : BSl w v2 p0) (h5 : BSl w v5 i10) (h6 : BSl w v6 i20) (h7 : BSl w v7 b0) (h8 : BSl w v8 id0) (hvb : ∀ q, v7.ownBlock = some q → q < w.heap.size) :
    Calls Tryz.prog 3 #[v0, v1, v2, .string s0, .string s1, v5, v6, v7, v8, .bool whole, .int .i64 at_, .int .u8 turn.toNat] w fun e w' => e = .returned (.bool true) ∧ Below w.heap.size w w' := by
  have HR := hidden hr
  have HT := hidden htp
  have H0 := hidden h0
  have H1 := hidden h1
  have H2 := hidden h2
  have H5 := hidden h5
  have H6 := hidden h6
  have H7 := hidden h7
  have H8 := hidden h8
  have HVB := hidden hvb
  clear hr htp h0 h1 h2 h5 h6 h7 h8 hvb
  go_enter Tryz.func3, Tryz.ntmps3
  go_wp2_with fail
  refine (side_c whole _ _ _ _ s0 s1 k0 p0 i10 i20 w H0.out H2.out H5.out H6.out).mono ?_
  rintro e w1 ⟨hb1, pr, pin, ic, is, rfl, hs1⟩
  have HKS : Hid ((privL whole k0).length ≤ 40) := privL_le whole k0
  have HPL : Hid ((p0.take 80).length ≤ 80) := by show _ ≤ _; rw [List.length_take]; omega
  have HI1 : Hid ((i10.take 100).length ≤ 100) := by show _ ≤ _; rw [List.length_take]; omega
  have HI2 : Hid ((i20.take 100).length ≤ 100) := by show _ ≤ _; rw [List.length_take]; omega
  have HZ0 := hidden (headS_le s0)
  have HZ1 := hidden (headS_le s1)
  have HSd : Hid (∀ wx, Below w.heap.size w wx → Calls Tryz.prog 5 #[v1, v2, .string s0, .string s1, v5, v6, .bool whole] wx (SidePost wx whole k1 p0 s0 s1 i10 i20)) := fun wx hb => side_c whole _ _ _ _ s0 s1 k1 p0 i10 i20 wx (H1.out.fresh hb) (H2.out.fresh hb) (H5.out.fresh hb) (H6.out.fresh hb)
  unfold sideV
  obtain ⟨a0, a1, a4, a5, c0, c1, c4, c5, rfl, rfl, rfl, rfl⟩ := hs1.shape
  have hb2 : Below w1.heap.size w1 (w1.alloc (.cells #[.slice a0 (privL whole k0).length c0, .slice a1 (p0.take 80).length c1, .string (headS s0), .string (headS s1), .slice a4 (i10.take 100).length c4, .slice a5 (i20.take 100).length c5] 24)) := (Below.refl _ w1).alloc (Nat.le_refl _) _
  have HA : Hid (SB (w1.alloc (.cells #[.slice a0 (privL whole k0).length c0, .slice a1 (p0.take 80).length c1, .string (headS s0), .string (headS s1), .slice a4 (i10.take 100).length c4, .slice a5 (i20.take 100).length c5] 24)) w1.heap.size a0 a1 a4 a5 _ _ _ _ c0 c1 c4 c5 (headS s0) (headS s1) (privL whole k0) (p0.take 80) (i10.take 100) (i20.take 100)) := ⟨heap_alloc_new w1 _, hs1.fresh hb2⟩
  have HB2 := hidden (hb1.trans (hb2.mono hb1.size))
  clear hb1 hb2 hs1 H0 H1
  generalize privL whole k0 = ks at HA HKS HB2 ⊢
  generalize hpe : p0.take 80 = p at HA HPL HB2 ⊢
  generalize hi1e : i10.take 100 = i1 at HA HI1 HB2 ⊢
  generalize hi2e : i20.take 100 = i2 at HA HI2 HB2 ⊢
  generalize hs0e : headS s0 = t0 at HA HZ0 HB2 ⊢
  generalize hs1e : headS s1 = t1 at HA HZ1 HB2 ⊢
  generalize ks.length = lc at HA HB2 ⊢
  generalize hl1 : p.length = l1 at HA HB2 ⊢
  generalize hl4 : i1.length = l4 at HA HB2 ⊢
  generalize hl5 : i2.length = l5 at HA HB2 ⊢
  have HE := hidden (And.intro hpe (And.intro hi1e (And.intro hi2e (And.intro hs0e hs1e))))
  have HLL := hidden (And.intro hl1 (And.intro hl4 hl5))
  clear hpe hi1e hi2e hs0e hs1e hl1 hl4 hl5
  go_wp2_with fail
  generalize w1.alloc (.cells #[.slice a0 lc c0, .slice a1 l1 c1, .string t0, .string t1, .slice a4 l4 c4, .slice a5 l5 c5] 24) = w2 at HA HB2 ⊢
  generalize w1.heap.size = B1 at HA ⊢
  refine (HSd.out w2 HB2.out).mono ?_
  rintro e w3 ⟨hb3, pr, pin, ic, is, rfl, hs3⟩
  have HKC : Hid ((privL whole k1).length ≤ 40) := privL_le whole k1
  rw [HE.out.1, HE.out.2.1, HE.out.2.2.1] at hs3
  rw [HE.out.2.2.2.1, HE.out.2.2.2.2]
  unfold sideV
  obtain ⟨b0', b1, b4, b5, d0, d1, d4, d5, rfl, rfl, rfl, rfl⟩ := hs3.shape
  rw [HLL.out.1, HLL.out.2.1, HLL.out.2.2] at hs3 ⊢
  generalize privL whole k1 = kc at hs3 HKC ⊢
  generalize kc.length = lk at hs3 ⊢
  have hb4 : Below w3.heap.size w3 (w3.alloc (.cells #[.slice b0' lk d0, .slice b1 l1 d1, .string t0, .string t1, .slice b4 l4 d4, .slice b5 l5 d5] 24)) := (Below.refl _ w3).alloc (Nat.le_refl _) _
  have hb34 := hb3.trans (hb4.mono hb3.size)
  have HA4 := hidden (HA.out.next hb34)
  have HS4 : Hid (SB (w3.alloc (.cells #[.slice b0' lk d0, .slice b1 l1 d1, .string t0, .string t1, .slice b4 l4 d4, .slice b5 l5 d5] 24)) w3.heap.size b0' b1 b4 b5 lk l1 l4 l5 d0 d1 d4 d5 t0 t1 kc p i1 i2) := ⟨heap_alloc_new w3 _, hs3.fresh hb4⟩
  have HB4 := hidden (HB2.out.trans (hb34.mono HB2.out.size))
  clear hb3 hb4 hb34 hs3 HA HSd H2 H5 H6 HE HB2
  go_wp2_with fail
  generalize w3.alloc (.cells #[.slice b0' lk d0, .slice b1 l1 d1, .string t0, .string t1, .slice b4 l4 d4, .slice b5 l5 d5] 24) = w4 at HA4 HS4 HB4 ⊢
  generalize w3.heap.size = B2 at HS4 ⊢
  refine (cut_c 150 (by omega) _ b0 w4 (H7.out.fresh HB4.out)).mono ?_
  rintro e w5 ⟨u7, rfl, hu7, ho7, rfl⟩
  have HU7 := hidden hu7
  have HUB : Hid (∀ q, u7.ownBlock = some q → q < w5.heap.size) := fun q e => by rw [ho7] at e; have := HVB.out q e; have := HB4.out.size; omega
  have HBl : Hid ((b0.take 150).length ≤ 150) := by show _ ≤ _; rw [List.length_take]; omega
  obtain ⟨a7, c7, rfl⟩ := hu7.len
  clear hu7 ho7
  generalize b0.take 150 = bb at HU7 HBl HUB ⊢
  generalize hbl : bb.length = lb at HU7 HBl HUB ⊢
  have HLB := hidden hbl
  clear hbl
  go_wp2_with fail
  refine (cut_c 50 (by omega) _ id0 w5 (H8.out.fresh HB4.out)).mono ?_
  rintro e w6 ⟨u8, rfl, hu8, _, rfl⟩
  have HU8 := hidden hu8
  have HIl : Hid ((id0.take 50).length ≤ 50) := by show _ ≤ _; rw [List.length_take]; omega
  obtain ⟨a8, c8, rfl⟩ := hu8.len
  clear hu8 H7 H8 HVB
  generalize id0.take 50 = id at HU8 HIl ⊢
  generalize hil : id.length = li at HU8 HIl ⊢
  have HLI := hidden hil
  clear hil
  have q0 := (side_cells HS4.out.row).1
  go_wp2_with fail
  refine (Init_c _ kc w6 (HT.out.fresh HB4.out) HS4.out.s.pr).mono ?_
  rintro e w7 ⟨hb7, vi, rfl, hvi, _⟩
  have HRI := hidden (fun (wx : World) h => rInit_c (.slice b0' lk d0) kc wx h)
  have HIO := hidden (iniO_le kc)
  generalize iniO kc = IO at hvi HRI HIO ⊢
  obtain ⟨ie, I⟩ := IO
  simp only at hvi HIO ⊢
  have HVI := hidden hvi
  obtain ⟨ai, ci, rfl⟩ := hvi.len
  have HA7 := hidden (HA4.out.next hb7)
  have HS7 := hidden (HS4.out.next hb7)
  have HB7 := hidden (HB4.out.trans (hb7.mono HB4.out.size))
  have HU77 := hidden (HU7.out.fresh hb7)
  have HU87 := hidden (HU8.out.fresh hb7)
  have HUB7 : Hid (∀ q, (Value.slice a7 lb c7).ownBlock = some q → q < w7.heap.size) := fun q e => by have := HUB.out q e; have := hb7.size; omega
  have q0' := (side_cells HS7.out.row).1
  clear hb7 hvi HA4 HS4 HB4 HU7 HU8 HUB q0
  generalize hlI : I.length = lI at HVI HIO ⊢
  have HLI2 := hidden hlI
  clear hlI
  go_wp2_with fail
  refine (HRI.out w7 HS7.out.s.pr).mono ?_
  rintro e w8 ⟨hb8, vj, rfl, hoj⟩
  simp only at hoj ⊢
  have HOJ := hidden hoj
  have HBJ := hidden (BSl.ofRow hoj)
  obtain ⟨aj, cj, rfl⟩ := ownsRow_shape hoj
  have HB78 := hidden hb8
  obtain ⟨SI, hSI⟩ : ∃ S : ByteArray, S = ⟨I.toArray⟩ := ⟨_, rfl⟩
  have r1 := run_str (HVI.out.fresh hb8) hSI
  have r2 := run_str HBJ.out hSI
  clear hb8 hoj hSI q0'
  rw [HLI2.out] at r2 HBJ ⊢
  have HLJ : Hid (∀ q, (Value.slice aj lI cj).ownBlock = some q → w7.heap.size ≤ q ∧ q < w8.heap.size) := fun q e => HOJ.out.lt q (by rw [HLI2.out]; exact e)
  go_upto_region 9 with fail
  go_cut [98] from 91 to 98 (fun bv wx => ∃ tb : Bool, bv = .bool tb ∧ (tb = true → I ≠ []) ∧ wx = w8)
  case first =>
    clear r1 r2
    by_cases hI : I = []
    · have hl0 : lI = 0 := by rw [← HLI2.out, hI]; rfl
      subst hl0
      go_wp2_with fail
      go_meet
      case rel => exact ⟨false, rfl, (fun h => by cases h), rfl⟩
    · have hl0 : (0 : Int) < (lI : Int) := by
        have : I.length ≠ 0 := fun h => hI (List.eq_nil_of_length_eq_zero h)
        have := HLI2.out
        omega
      have HIN := hidden hI
      clear hI
      go_wp2_with fail
      go_meet
      case rel => exact ⟨_, rfl, (fun _ => HIN.out), rfl⟩
  case rest =>
  obtain ⟨tb, hbv, htb, hwc⟩ := hcut
  subst hbv hwc
  clear r1 r2
  go_upto_if 98 with fail
  go_cut [24] from 99 to 109 (fun _ wx => ∃ J : List UInt8, J.length = lI ∧ BSl wx (.slice aj lI cj) J ∧ (∀ q, (Value.slice aj lI cj).ownBlock = some q → q < wx.heap.size) ∧ Below w7.heap.size w7 wx)
  case first =>
    cases tb with
    | false =>
      go_wp2_with fail
      go_meet
      case rel => exact ⟨I, HLI2.out, HBJ.out, (fun q e => (HLJ.out q e).2), HB78.out⟩
    | true =>
      obtain ⟨g, cap, hsl, hg, hcap, hcs, _, hset⟩ := turn_row HOJ.out (htb rfl)
      have hne := htb rfl
      injection hsl with q1 q2 q3
      subst q1
      subst q3
      clear q2
      obtain ⟨L1, hL1⟩ : ∃ L1, lI = L1 + 1 := ⟨lI - 1, by have h1 := HLI2.out; have h2 : I.length ≠ 0 := fun h => hne (List.eq_nil_of_length_eq_zero h); omega⟩
      have hL1i : (lI : Int) - 1 = (L1 : Int) := by omega
      have hL1w : IntKind.i64.wrap (L1 : Int) = (L1 : Int) := by have := HIO.out; rw [IntKind.wrap_i64]; omega
      have HL1b : Hid (L1 ≤ 20000) := by show _ ≤ _; have := HIO.out; omega
      have HLL1 : Hid (L1 < lI) := by show _ < _; omega
      have HCS := hidden hcs
      have HSET := hidden hset
      have HG := hidden hg
      clear hL1 hcs hset hg hcap htb hne
      go_wp2_with fail
      refine (within_c at_ L1 (by have := HL1b.out; omega) _).mono ?_
      rintro e w20 ⟨k, rfl, hk, rfl⟩
      have hkL : (k : Int) < (lI : Int) := by have := HLL1.out; omega
      obtain ⟨hc8, hf8⟩ := HCS.out k (by have h1 := HLI2.out; have := HLL1.out; omega)
      have hxb := xbyte (I.getD k 0) turn
      have HR9 := hidden (HSET.out k (I.getD k 0 ^^^ turn))
      have HL9 : Hid ((I.set k (I.getD k 0 ^^^ turn)).length = lI) := by show _ = _; rw [List.length_set]; exact HLI2.out
      rw [HLI2.out] at HR9
      generalize (I.getD k 0).toNat = y0 at hc8 hxb
      generalize I.set k (I.getD k 0 ^^^ turn) = S9 at HR9 HL9
      generalize (I.getD k 0 ^^^ turn).toNat = y1 at hxb HR9
      have HB9 := hidden (Below.setCell (p := ⟨g, k, none⟩) HB78.out HG.out (.int .u8 (y1 : Int)))
      have HLT9 : Hid (∀ k', (Value.slice (some ⟨g, 0, none⟩) lI cj).ownBlock = some k' → k' < (w20.setCell ⟨g, k, none⟩ (.int .u8 (y1 : Int))).heap.size) := fun k' e => by simpa using (HLJ.out k' e).2
      clear hk HCS HSET
      go_wp2_with fail
      go_meet
      case rel => exact ⟨S9, HL9.out, HR9.out, HLT9.out, HB9.out⟩
  case rest =>
  obtain ⟨J, hJl, hJb, hJq, hJB⟩ := hcut
  have hb10 : Below wc.heap.size wc (wc.alloc (.cells #[.slice a7 lb c7, .slice aj lI cj] 22)) := (Below.refl _ wc).alloc (Nat.le_refl _) _
  have hbJ := hJB.trans (hb10.mono hJB.size)
  have HA9 := hidden (HA7.out.next hbJ)
  have HS9 := hidden (HS7.out.next hbJ)
  have HB9 := hidden (HB7.out.trans (hbJ.mono HB7.out.size))
  have HM1 : Hid (Msg (wc.alloc (.cells #[.slice a7 lb c7, .slice aj lI cj] 22)) (.slice a7 lb c7)) := ⟨bb, HU77.out.fresh hbJ, by rw [HLB.out]; have := HBl.out; omega, fun q e => by have := HUB7.out q e; have := hbJ.size; omega⟩
  have HM2 : Hid (Msg (wc.alloc (.cells #[.slice a7 lb c7, .slice aj lI cj] 22)) (.slice aj lI cj)) := Msg.next ⟨J, hJb, by rw [hJl]; exact HIO.out, hJq⟩ hb10
  have HD9 := hidden (HU87.out.fresh hbJ)
  have HRo : Hid ((wc.alloc (.cells #[.slice a7 lb c7, .slice aj lI cj] 22)).heap[wc.heap.size]? = some (.cells #[.slice a7 lb c7, .slice aj lI cj] 22 (0, 0))) := heap_alloc_new wc _
  have HKn : Hid (∀ wx, Below w.heap.size w wx → Calls Tryz.prog 18 #[] wx fun e w' => e = .returned (.bool true) ∧ Below wx.heap.size wx w') := fun wx hb => known_c wx (HR.out.fresh hb) (HT.out.fresh hb)
  have HW : Hid (p.length ≤ 1000 ∧ i1.length ≤ 1000 ∧ i2.length ≤ 1000 ∧ t0.size ≤ 1000 ∧ t1.size ≤ 1000) := by show _ ∧ _; have h1 := HPL.out; have h2 := HI1.out; have h3 := HI2.out; have h4 := HZ0.out; have h5 := HZ1.out; omega
  clear hJl hJb hJq hJB hb10 hbJ HA7 HS7 HB7 HU77 HUB7 HU87 HOJ HBJ HB78 HLJ HLI2 HIO HBl HLB htb HVI HRI HPL HI1 HI2 HZ0 HZ1 HKS HKC
  go_wp2_with fail
  generalize wc.alloc (.cells #[.slice a7 lb c7, .slice aj lI cj] 22) = w9 at HA9 HS9 HB9 HM1 HM2 HD9 HRo ⊢
  generalize wc.heap.size = B3 at HRo ⊢
  go_loopw [114] (fun c wr => ∃ i : Nat, i ≤ 2 ∧ c = .int .i64 (i : Int) ∧ Below w9.heap.size w9 wr) (fun c _ => 2 - (intOf c).toNat)
  case atStart => exact ⟨0, by omega, rfl, Below.refl _ _⟩
  case round =>
    obtain ⟨i, hi, rfl, hbb⟩ := hrel
    have HBr := hidden (HB9.out.trans (hbb.mono HB9.out.size))
    by_cases hlt : i < 2
    rotate_left
    · have hlt' : ¬ (i : Int) < 2 := by omega
      clear hbb HA9 HS9 HB9 HM1 HM2 HD9 HRo
      go_wp2_with fail
      refine (HKn.out wr HBr.out).mono ?_
      rintro e wz ⟨rfl, hbz⟩
      have HBz := hidden (HBr.out.trans (hbz.mono HBr.out.size))
      clear hbz
      go_wp2_with fail
      go_ret
      exact ⟨rfl, HBz.out⟩
    · have hlt' : (i : Int) < 2 := by omega
      have HB9r := hidden hbb
      obtain ⟨vm, hcell, hm⟩ := two_at HRo.out HM1.out HM2.out hbb i hlt
      obtain ⟨M, hM, hMl, hMq⟩ := hm
      have HMr := hidden hM
      have HMl := hidden hMl
      have HMq := hidden hMq
      obtain ⟨am, cm, rfl⟩ := hM.len
      have HAr := hidden (HA9.out.next hbb)
      have HSr := hidden (HS9.out.next hbb)
      have HDr := hidden (HD9.out.fresh hbb)
      obtain ⟨q0, q1, q2, q3, q4, q5⟩ := side_cells HAr.out.row
      generalize hlm : M.length = lm at HMr HMq hcell
      have HLM := hidden hlm
      clear hM hMl hMq hlm hbb HA9 HS9 HD9 HM1 HM2
      go_wp2_with fail
      refine (Server_c _ _ _ _ _ t0 t1 ks p i1 i2 M HW.out.1 HW.out.2.1 HW.out.2.2.1 HW.out.2.2.2.1 HW.out.2.2.2.2 (by have := HMl.out; omega) wr (HR.out.fresh HBr.out) (HT.out.fresh HBr.out) HAr.out.s HMr.out).mono ?_
      rintro e w10 ⟨hb10, vr, vk, vh, rfl, hvr, hvk, hvh⟩
      have HRS : Hid (∀ (wx : World), SideS wx (.slice a0 lc c0) (.slice a1 l1 c1) (.slice a4 l4 c4) (.slice a5 l5 c5) ks p i1 i2 → BSl wx (.slice am lm cm) M → (∀ q, (Value.slice am lm cm).ownBlock = some q → q < wx.heap.size) → Calls Tryz.prog 11 #[.agg #[.slice a0 lc c0, .slice a1 l1 c1, .string t0, .string t1, .slice a4 l4 c4, .slice a5 l5 c5], .slice am lm cm] wx (RSrvPost wx (srvO ks p t0 t1 i1 i2 M))) := fun wx hs hv hvb => rServer_c _ _ _ _ _ t0 t1 ks p i1 i2 M HW.out.1 HW.out.2.1 HW.out.2.2.1 HW.out.2.2.2.1 HW.out.2.2.2.2 (by have := HMl.out; omega) wx hs hv hvb
      have HSL := hidden (srvO_le ks p t0 t1 i1 i2 M)
      generalize srvO ks p t0 t1 i1 i2 M = O at hvr hvk hvh HRS HSL ⊢
      obtain ⟨oe, oR, oK, oH⟩ := O
      simp only at hvr hvk hvh HSL ⊢
      have HVR := hidden hvr
      have HVK := hidden hvk
      have HVH := hidden hvh
      obtain ⟨ar, cr, rfl⟩ := hvr.len
      obtain ⟨ak, ck, rfl⟩ := hvk.len
      obtain ⟨ah, ch, rfl⟩ := hvh.len
      generalize hlr : oR.length = lR at HVR HSL ⊢
      generalize hlk : oK.length = lK at HVK ⊢
      generalize hlh : oH.length = lH at HVH ⊢
      have HLR := hidden hlr
      have HLK := hidden hlk
      have HLH := hidden hlh
      have hbA : Below w10.heap.size w10 (w10.alloc (.cells #[.slice ak lK ck, .slice ah lH ch] 35)) := (Below.refl _ w10).alloc (Nat.le_refl _) _
      have HX11 := hidden (hb10.trans (hbA.mono hb10.size))
      have HBX : Hid ((w10.alloc (.cells #[.slice ak lK ck, .slice ah lH ch] 35)).heap[w10.heap.size]? = some (.cells #[.slice ak lK ck, .slice ah lH ch] 35 (0, 0))) := heap_alloc_new w10 _
      have HVR1 := hidden (HVR.out.fresh hbA)
      have HVK1 := hidden (HVK.out.fresh hbA)
      have HVH1 := hidden (HVH.out.fresh hbA)
      clear q0 q1 q2 q3 q4 q5
      obtain ⟨q0, q1, q2, q3, q4, q5⟩ := side_cells (HAr.out.next HX11.out).row
      clear hvr hvk hvh hlr hlk hlh hbA hb10 HVR HVK HVH hcell
      go_wp2_with fail
      generalize w10.alloc (.cells #[.slice ak lK ck, .slice ah lH ch] 35) = w11 at HX11 HBX HVR1 HVK1 HVH1 q0 q1 q2 q3 q4 q5 ⊢
      generalize w10.heap.size = BX at HBX ⊢
      refine (in_c _ _ _ _ _ _ _ _ _ _ _ _ _ _ w11).mono ?_
      rintro e w12 ⟨rfl, hb12⟩
      have HX12 := hidden (HX11.out.trans (hb12.mono HX11.out.size))
      have HY12 := hidden hb12
      clear q0 q1 q2 q3 q4 q5 hb12
      go_wp2_with fail
      refine (HRS.out w12 (HAr.out.s.fresh HX12.out) (HMr.out.fresh HX12.out) (fun q e => by have := HMq.out q e; have := HX12.out.size; omega)).mono ?_
      rintro e w13 ⟨hb13, ur, uk, uh, rfl, hur, huk, huh⟩
      simp only at hur huk huh ⊢
      have HUR := hidden hur
      have HUK := hidden huk
      have HUH := hidden huh
      obtain ⟨er, fr, rfl⟩ := ownsRow_shape hur
      obtain ⟨ek, fk, rfl⟩ := huk.len
      obtain ⟨eh, fh, rfl⟩ := huh.len
      clear hur huk huh
      rw [HLK.out] at HUK ⊢
      rw [HLH.out] at HUH ⊢
      rw [HLR.out]
      have hbB : Below w13.heap.size w13 (w13.alloc (.cells #[.slice ek lK fk, .slice eh lH fh] 38)) := (Below.refl _ w13).alloc (Nat.le_refl _) _
      have hbC := hb13.trans (hbB.mono hb13.size)
      have HY14 := hidden (HY12.out.trans (hbC.mono HY12.out.size))
      have HX14 := hidden (HX12.out.trans (hbC.mono HX12.out.size))
      have HBY : Hid ((w13.alloc (.cells #[.slice ek lK fk, .slice eh lH fh] 38)).heap[w13.heap.size]? = some (.cells #[.slice ek lK fk, .slice eh lH fh] 38 (0, 0))) := heap_alloc_new w13 _
      have HBX4 := hidden ((HY14.out.block BX (lt_of_block HBX.out)).trans HBX.out)
      have HUR1 := hidden (own_next HUR.out hbB)
      have HUK1 := hidden (HUK.out.fresh hbB)
      have HUH1 := hidden (HUH.out.fresh hbB)
      obtain ⟨SR, hSR⟩ : ∃ S : ByteArray, S = ⟨oR.toArray⟩ := ⟨_, rfl⟩
      have r1 := run_str (HVR1.out.fresh HY14.out) hSR
      have r2 := run_str (BSl.ofRow HUR1.out) hSR
      rw [HLR.out] at r2
      obtain ⟨x0, x1⟩ := cells2 HBX4.out
      obtain ⟨y0, y1⟩ := cells2 HBY.out
      clear hbB hbC hb13 HBX HUR HUK HUH HX11 HY12 HRS hSR
      go_wp2_with fail
      generalize w13.alloc (.cells #[.slice ek lK fk, .slice eh lH fh] 38) = w14 at HY14 HX14 HBY HBX4 HUR1 HUK1 HUH1 r1 r2 x0 x1 y0 y1 ⊢
      generalize w13.heap.size = BY at HBY y0 y1 ⊢
      refine (lsame_c _ _ _ _ oK oH w14 (HVK1.out.fresh HY14.out) (HVH1.out.fresh HY14.out) HUK1.out HUH1.out).mono ?_
      rintro e w15 ⟨rfl, hb15⟩
      have HX15 := hidden (HX14.out.trans (hb15.mono HX14.out.size))
      have HUR5 := hidden (own_next HUR1.out hb15)
      have HBQ := hidden (BSl.ofRow HUR5.out)
      rw [HLR.out] at HBQ
      have HLQ : Hid (∀ q, (Value.slice er lR fr).ownBlock = some q → w12.heap.size ≤ q ∧ q < w15.heap.size) := fun q e => HUR5.out.lt q (by rw [HLR.out]; exact e)
      clear r1 r2 x0 x1 y0 y1 hb15 HBY HBX4 HUR1 HUK1 HUH1 HY14 HX14 HVK1 HVH1 HVR1
      go_upto_region 18 with fail
      go_cut [156] from 149 to 156 (fun bv wx => ∃ tb : Bool, bv = .bool tb ∧ (tb = true → oR ≠ []) ∧ wx = w15)
      case first =>
        by_cases hI : oR = []
        · have hl0 : lR = 0 := by rw [← HLR.out, hI]; rfl
          subst hl0
          go_wp2_with fail
          go_meet
          case rel => exact ⟨false, rfl, (fun h => by cases h), rfl⟩
        · have hl0 : (0 : Int) < (lR : Int) := by
            have : oR.length ≠ 0 := fun h => hI (List.eq_nil_of_length_eq_zero h)
            have := HLR.out
            omega
          have HIN := hidden hI
          clear hI
          go_wp2_with fail
          go_meet
          case rel => exact ⟨_, rfl, (fun _ => HIN.out), rfl⟩
      case rest =>
      obtain ⟨tc, hbv, htc, hwc⟩ := hcut
      subst hbv hwc
      go_upto_if 156 with fail
      go_cut [24] from 157 to 167 (fun _ wx => ∃ Q : List UInt8, Q.length = lR ∧ BSl wx (.slice er lR fr) Q ∧ (∀ q, (Value.slice er lR fr).ownBlock = some q → q < wx.heap.size) ∧ Below wr.heap.size wr wx)
      case first =>
        cases tc with
        | false =>
          go_wp2_with fail
          go_meet
          case rel => exact ⟨oR, HLR.out, HBQ.out, (fun q e => (HLQ.out q e).2), HX15.out⟩
        | true =>
          obtain ⟨g, cap, hsl, hg, hcap, hcs, _, hset⟩ := turn_row HUR5.out (htc rfl)
          have hne := htc rfl
          injection hsl with q1 q2 q3
          subst q1
          subst q3
          clear q2
          obtain ⟨L1, hL1⟩ : ∃ L1, lR = L1 + 1 := ⟨lR - 1, by have h1 := HLR.out; have h2 : oR.length ≠ 0 := fun h => hne (List.eq_nil_of_length_eq_zero h); omega⟩
          have hL1i : (lR : Int) - 1 = (L1 : Int) := by omega
          have hL1w : IntKind.i64.wrap (L1 : Int) = (L1 : Int) := by have := HSL.out; rw [IntKind.wrap_i64]; omega
          have HL1b : Hid (L1 ≤ 20000) := by show _ ≤ _; have := HSL.out; omega
          have HLL1 : Hid (L1 < lR) := by show _ < _; omega
          have HCS := hidden hcs
          have HSET := hidden hset
          have HG : Hid (wr.heap.size ≤ g) := Nat.le_trans HX12.out.size hg
          clear hL1 hcs hset hg hcap htc hne
          go_wp2_with fail
          refine (within_c at_ L1 (by have := HL1b.out; omega) _).mono ?_
          rintro e w20 ⟨k, rfl, hk, rfl⟩
          have hkL : (k : Int) < (lR : Int) := by have := HLL1.out; omega
          obtain ⟨hc8, hf8⟩ := HCS.out k (by have h1 := HLR.out; have := HLL1.out; omega)
          have hxb := xbyte (oR.getD k 0) turn
          have HR9 := hidden (HSET.out k (oR.getD k 0 ^^^ turn))
          have HL9 : Hid ((oR.set k (oR.getD k 0 ^^^ turn)).length = lR) := by show _ = _; rw [List.length_set]; exact HLR.out
          rw [HLR.out] at HR9
          generalize (oR.getD k 0).toNat = y0 at hc8 hxb
          generalize oR.set k (oR.getD k 0 ^^^ turn) = S9 at HR9 HL9
          generalize (oR.getD k 0 ^^^ turn).toNat = y1 at hxb HR9
          have HBt := hidden (Below.setCell (p := ⟨g, k, none⟩) HX15.out HG.out (.int .u8 (y1 : Int)))
          have HLT9 : Hid (∀ k', (Value.slice (some ⟨g, 0, none⟩) lR fr).ownBlock = some k' → k' < (w20.setCell ⟨g, k, none⟩ (.int .u8 (y1 : Int))).heap.size) := fun k' e => by simpa using (HLQ.out k' e).2
          clear hk HCS HSET
          go_wp2_with fail
          go_meet
          case rel => exact ⟨S9, HL9.out, HR9.out, HLT9.out, HBt.out⟩
      case rest =>
      obtain ⟨Q, hQl, hQb, hQq, hQB⟩ := hcut
      have hb16 : Below wc.heap.size wc (wc.alloc (.cells #[.slice am lm cm, .slice er lR fr] 22)) := (Below.refl _ wc).alloc (Nat.le_refl _) _
      have hbQ := hQB.trans (hb16.mono hQB.size)
      have HS6 := hidden (HSr.out.next hbQ)
      have HD6 := hidden (HDr.out.fresh hbQ)
      have HB6 := hidden (HBr.out.trans (hbQ.mono HBr.out.size))
      have HB96 := hidden (HB9r.out.trans (hbQ.mono HB9r.out.size))
      have HN1 : Hid (Msg (wc.alloc (.cells #[.slice am lm cm, .slice er lR fr] 22)) (.slice am lm cm)) := Msg.next ⟨M, HMr.out, HMl.out, HMq.out⟩ hbQ
      have HN2 : Hid (Msg (wc.alloc (.cells #[.slice am lm cm, .slice er lR fr] 22)) (.slice er lR fr)) := Msg.next ⟨Q, hQb, by rw [hQl]; exact HSL.out, hQq⟩ hb16
      have HRp : Hid ((wc.alloc (.cells #[.slice am lm cm, .slice er lR fr] 22)).heap[wc.heap.size]? = some (.cells #[.slice am lm cm, .slice er lR fr] 22 (0, 0))) := heap_alloc_new wc _
      clear hQl hQb hQq hQB hb16 hbQ HSr HDr HBr HB9r HMr HMl HMq HSL HAr HX12 HX15 HUR5 HBQ HLQ HLR HLK HLH HLM htc
      go_wp2_with fail
      generalize wc.alloc (.cells #[.slice am lm cm, .slice er lR fr] 22) = w16 at HS6 HD6 HB6 HB96 HN1 HN2 HRp ⊢
      generalize wc.heap.size = B4 at HRp ⊢
      go_loopw [172] (fun c wr => ∃ j : Nat, j ≤ 2 ∧ c = .int .i64 (j : Int) ∧ Below w16.heap.size w16 wr) (fun c _ => 2 - (intOf c).toNat)
      case atStart => exact ⟨0, by omega, rfl, Below.refl _ _⟩
      case round =>
        obtain ⟨j, hj, rfl, hbb⟩ := hrel
        by_cases hltj : j < 2
        rotate_left
        · have hltj' : ¬ (j : Int) < 2 := by omega
          have HBo := hidden (HB96.out.trans (hbb.mono HB96.out.size))
          clear hbb HS6 HD6 HB6 HB96 HN1 HN2 HRp
          go_wp2
          go_roundw
          case rel => exact ⟨i + 1, by omega, by go_num, HBo.out⟩
          case measure => simp [intOf]; omega
        · have hltj' : (j : Int) < 2 := by omega
          have HBB := hidden hbb
          have HBi := hidden (HB6.out.trans (hbb.mono HB6.out.size))
          have HBo := hidden (HB96.out.trans (hbb.mono HB96.out.size))
          obtain ⟨vm, hcell, hm⟩ := two_at HRp.out HN1.out HN2.out hbb j hltj
          obtain ⟨Z, hZ, hZl, hZq⟩ := hm
          have HZr := hidden hZ
          have HZl := hidden hZl
          have HZq := hidden hZq
          obtain ⟨an, cn, rfl⟩ := hZ.len
          have HSi := hidden (HS6.out.next hbb)
          have HDi := hidden (HD6.out.fresh hbb)
          obtain ⟨q0, q1, q2, q3, q4, q5⟩ := side_cells HSi.out.row
          generalize hln : Z.length = ln at HZr HZq hcell
          clear hZ hZl hZq hln hbb HS6 HD6 HB6 HB96 HN1 HN2 HRp
          go_wp2_with fail
          refine (Client_c _ _ _ _ _ t0 t1 kc p i1 i2 Z HW.out.1 HW.out.2.1 HW.out.2.2.1 HW.out.2.2.2.1 HW.out.2.2.2.2 (by have := HZl.out; omega) wr (HR.out.fresh HBi.out) (HT.out.fresh HBi.out) HSi.out.s HZr.out).mono ?_
          rintro e w20 ⟨hb20, vk, vh, rfl, hvk, hvh⟩
          have HRC : Hid (∀ (wx : World), SideS wx (.slice b0' lk d0) (.slice b1 l1 d1) (.slice b4 l4 d4) (.slice b5 l5 d5) kc p i1 i2 → BSl wx (.slice an ln cn) Z → (∀ q, (Value.slice an ln cn).ownBlock = some q → q < wx.heap.size) → Calls Tryz.prog 15 #[.agg #[.slice b0' lk d0, .slice b1 l1 d1, .string t0, .string t1, .slice b4 l4 d4, .slice b5 l5 d5], .slice an ln cn] wx (RCliPost wx (cliO kc p t0 t1 i1 i2 Z))) := fun wx hs hv hvb => rClient_c _ _ _ _ _ t0 t1 kc p i1 i2 Z HW.out.1 HW.out.2.1 HW.out.2.2.1 HW.out.2.2.2.1 HW.out.2.2.2.2 (by have := HZl.out; omega) wx hs hv hvb
          have HCL := hidden (cliO_le kc p t0 t1 i1 i2 Z)
          generalize cliO kc p t0 t1 i1 i2 Z = O2 at hvk hvh HRC HCL ⊢
          obtain ⟨pe, pK, pH⟩ := O2
          simp only at hvk hvh HCL ⊢
          have HVK := hidden hvk
          have HVH := hidden hvh
          obtain ⟨ak, ck, rfl⟩ := hvk.len
          obtain ⟨ah, ch, rfl⟩ := hvh.len
          generalize hlk : pK.length = lK at HVK ⊢
          generalize hlh : pH.length = lH at HVH ⊢
          have HLK := hidden hlk
          have HLH := hidden hlh
          have hbA : Below w20.heap.size w20 (w20.alloc (.cells #[.slice ak lK ck, .slice ah lH ch] 35)) := (Below.refl _ w20).alloc (Nat.le_refl _) _
          have HX21 := hidden (hb20.trans (hbA.mono hb20.size))
          have HBX : Hid ((w20.alloc (.cells #[.slice ak lK ck, .slice ah lH ch] 35)).heap[w20.heap.size]? = some (.cells #[.slice ak lK ck, .slice ah lH ch] 35 (0, 0))) := heap_alloc_new w20 _
          have HVK1 := hidden (HVK.out.fresh hbA)
          have HVH1 := hidden (HVH.out.fresh hbA)
          clear q0 q1 q2 q3 q4 q5
          obtain ⟨q0, q1, q2, q3, q4, q5⟩ := side_cells (HSi.out.next HX21.out).row
          clear hvk hvh hlk hlh hbA hb20 HVK HVH hcell
          go_wp2_with fail
          generalize w20.alloc (.cells #[.slice ak lK ck, .slice ah lH ch] 35) = w21 at HX21 HBX HVK1 HVH1 q0 q1 q2 q3 q4 q5 ⊢
          generalize w20.heap.size = BX at HBX ⊢
          refine (in_c _ _ _ _ _ _ _ _ _ _ _ _ _ _ w21).mono ?_
          rintro e w22 ⟨rfl, hb22⟩
          have HX22 := hidden (HX21.out.trans (hb22.mono HX21.out.size))
          have HY22 := hidden hb22
          clear q0 q1 q2 q3 q4 q5 hb22
          go_wp2_with fail
          refine (HRC.out w22 (HSi.out.s.fresh HX22.out) (HZr.out.fresh HX22.out) (fun q e => by have := HZq.out q e; have := HX22.out.size; omega)).mono ?_
          rintro e w23 ⟨hb23, uk, uh, rfl, huk, huh⟩
          simp only at huk huh ⊢
          have HUK := hidden huk
          have HUH := hidden huh
          obtain ⟨ek, fk, rfl⟩ := huk.len
          obtain ⟨eh, fh, rfl⟩ := huh.len
          clear huk huh
          rw [HLK.out] at HUK ⊢
          rw [HLH.out] at HUH ⊢
          have hbB : Below w23.heap.size w23 (w23.alloc (.cells #[.slice ek lK fk, .slice eh lH fh] 38)) := (Below.refl _ w23).alloc (Nat.le_refl _) _
          have hbC := hb23.trans (hbB.mono hb23.size)
          have hY24 := HY22.out.trans (hbC.mono HY22.out.size)
          have HX24 := hidden (HX22.out.trans (hbC.mono HX22.out.size))
          have HBY : Hid ((w23.alloc (.cells #[.slice ek lK fk, .slice eh lH fh] 38)).heap[w23.heap.size]? = some (.cells #[.slice ek lK fk, .slice eh lH fh] 38 (0, 0))) := heap_alloc_new w23 _
          have HBX4 := hidden ((hY24.block BX (lt_of_block HBX.out)).trans HBX.out)
          have HVK4 := hidden (HVK1.out.fresh hY24)
          have HVH4 := hidden (HVH1.out.fresh hY24)
          have HUK1 := hidden (HUK.out.fresh hbB)
          have HUH1 := hidden (HUH.out.fresh hbB)
          have HB24 := hidden (HBi.out.trans (HX24.out.mono HBi.out.size))
          obtain ⟨x0, x1⟩ := cells2 HBX4.out
          clear hbB hbC hb23 hY24 HBX HUK HUH HX21 HY22 HX22 HRC HVK1 HVH1 HSi HZr HZl HZq
          go_wp2_with fail
          generalize w23.alloc (.cells #[.slice ek lK fk, .slice eh lH fh] 38) = w24 at HX24 HBY HBX4 HVK4 HVH4 HUK1 HUH1 HB24 x0 x1 ⊢
          generalize w23.heap.size = BY at HBY ⊢
          refine (Keys_c _ _ _ pK pH id (by have := HCL.out.1; omega) (by have := HCL.out.2; omega) (by have h1 := HIl.out; have h2 := HLI.out; omega) w24 (HR.out.fresh HB24.out) HVK4.out HVH4.out (HDi.out.fresh HX24.out)).mono ?_
          rintro e w25 ⟨hb25, m1, m2, rfl, hm1, hm2⟩
          have HM3 := hidden hm1
          have HM4 := hidden hm2
          obtain ⟨g1, o1, rfl⟩ := hm1.len
          obtain ⟨g2, o2, rfl⟩ := hm2.len
          rw [deriveL_length] at HM3 HM4
          rw [deriveL_length, deriveL_length]
          have HX25 := hidden (HX24.out.trans (hb25.mono HX24.out.size))
          have HBX5 := hidden ((hb25.block BX (lt_of_block HBX4.out)).trans HBX4.out)
          have HBY5 := hidden ((hb25.block BY (lt_of_block HBY.out)).trans HBY.out)
          have HVK5 := hidden (HVK4.out.fresh hb25)
          have HVH5 := hidden (HVH4.out.fresh hb25)
          have HUK5 := hidden (HUK1.out.fresh hb25)
          have HUH5 := hidden (HUH1.out.fresh hb25)
          clear x0 x1 hm1 hm2 hb25 HX24 HBX4 HBY HVK4 HVH4 HUK1 HUH1
          obtain ⟨y0, y1⟩ := cells2 HBY5.out
          go_wp2_with fail
          refine (rKeys_c _ _ _ pK pH id (by have := HCL.out.1; omega) (by have := HCL.out.2; omega) (by have h1 := HIl.out; have h2 := HLI.out; omega) w25 HUK5.out HUH5.out (HDi.out.fresh HX25.out)).mono ?_
          rintro e w26 ⟨hb26, m3, m4, rfl, hm3, hm4⟩
          have HM5 := hidden hm3
          have HM6 := hidden hm4
          obtain ⟨g3, o3, rfl⟩ := hm3.len
          obtain ⟨g4, o4, rfl⟩ := hm4.len
          rw [deriveL_length] at HM5 HM6
          rw [deriveL_length, deriveL_length]
          have HX26 := hidden (HX25.out.trans (hb26.mono HX25.out.size))
          have HBX6 := hidden ((hb26.block BX (lt_of_block HBX5.out)).trans HBX5.out)
          have HBY6 := hidden ((hb26.block BY (lt_of_block HBY5.out)).trans HBY5.out)
          have HVK6 := hidden (HVK5.out.fresh hb26)
          have HVH6 := hidden (HVH5.out.fresh hb26)
          have HUK6 := hidden (HUK5.out.fresh hb26)
          have HUH6 := hidden (HUH5.out.fresh hb26)
          have HM7 := hidden (HM3.out.fresh hb26)
          have HM8 := hidden (HM4.out.fresh hb26)
          clear y0 y1 hm3 hm4 hb26 HX25 HBX5 HBY5 HVK5 HVH5 HUK5 HUH5 HM3 HM4
          obtain ⟨x0, x1⟩ := cells2 HBX6.out
          obtain ⟨y0, y1⟩ := cells2 HBY6.out
          go_wp2_with fail
          refine (lsame_c _ _ _ _ pK pH w26 HVK6.out HVH6.out HUK6.out HUH6.out).mono ?_
          rintro e w27 ⟨rfl, hb27⟩
          obtain ⟨S1, hS1⟩ : ∃ S : ByteArray, S = ⟨(deriveL pK pH 67 id 32).toArray⟩ := ⟨_, rfl⟩
          obtain ⟨S2, hS2⟩ : ∃ S : ByteArray, S = ⟨(deriveL pK pH 68 id 32).toArray⟩ := ⟨_, rfl⟩
          have r1 := run_str (HM7.out.fresh hb27) hS1
          have r2 := run_str (HM5.out.fresh hb27) hS1
          have r3 := run_str (HM8.out.fresh hb27) hS2
          have r4 := run_str (HM6.out.fresh hb27) hS2
          have HX27 := hidden (HX26.out.trans (hb27.mono HX26.out.size))
          clear x0 x1 y0 y1 hb27 hS1 hS2 HX26 HBX6 HBY6 HVK6 HVH6 HUK6 HUH6 HM5 HM6 HM7 HM8
          go_wp2
          go_roundw
          case rel => exact ⟨j + 1, by omega, by go_num, HBB.out.trans (HX27.out.mono HBB.out.size)⟩
          case measure => simp [intOf]; omega
end Go.Proofs.YtookapglookphaaGreatDoor
