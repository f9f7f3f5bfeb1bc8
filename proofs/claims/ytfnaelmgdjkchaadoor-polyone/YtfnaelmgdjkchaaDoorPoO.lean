/- The walk of the law PolyOne. -/
import Derived.Test.YtfnaelmgdjkchaaDoorPoN
namespace Go.Proofs.YtfnaelmgdjkchaaDoor
open Go Go.RowKit

theorem i64_low (m : Nat) (hm : m ≤ 100000) : bits .and .i64 (m : Int) 255 = ((m % 256 : Nat) : Int) := by
  have h : (BitVec.ofInt 64 (m : Int) &&& BitVec.ofInt 64 255).toNat = m % 256 := by
    rw [BitVec.toNat_and, ofInt_u64 m (by omega), show (BitVec.ofInt 64 255).toNat = 2 ^ 8 - 1 from by decide, Nat.and_two_pow_sub_one_eq_mod]
  show IntKind.i64.wrap ((BitVec.ofInt 64 (m : Int) &&& BitVec.ofInt 64 255).toNat : Nat) = _
  rw [h, IntKind.wrap_i64]
  omega
/-- While pieces are added up by the law itself: its digits at G. -/
structure OI (w : World) (gx G : Nat) (S xs : List UInt8) (va : Value) (wr : World) (D : List Nat) : Prop where
  d : NB .i64 wr G 35 D
  l : D.length = 18
  x : wr.heap[gx]? = some (.cells (bcells S).toArray 5 (0, 0))
  b : Below w.heap.size w wr
  a : BSl wr va xs
  c : Cl wr
theorem OI.set {w : World} {gx G : Nat} {S xs : List UInt8} {va : Value} {wr : World} {D : List Nat} (h : OI w gx G S xs va wr D) (hxg : gx ≠ G) (hwg : w.heap.size ≤ G) (h0 : 0 < G)
    (hA : ∀ {wa wb : World}, Keeps (fun k => k = G) wa wb → BSl wa va xs → BSl wb va xs) (i y : Nat) : OI w gx G S xs va (wr.setCell ⟨G, i, none⟩ (.int .i64 (y : Int))) (D.set i y) := by
  have hk : Keeps (fun k => k = G) wr (wr.setCell ⟨G, i, none⟩ (.int .i64 (y : Int))) := (Keeps.refl (fun k => k = G) wr).setCell (p := ⟨G, i, none⟩) (.inl rfl) _
  exact ⟨h.d.set i y, by rw [List.length_set]; exact h.l, (hk.block gx (lt_of_block h.x) hxg).trans h.x, h.b.trans (hk.below (B := w.heap.size) h.b.size (by intro k e; omega)), hA hk h.a,
    ⟨Nat.lt_of_lt_of_le h.c.1 hk.size, fun i hi => hk.cell (h.c.2 i hi) (by show ¬ 0 = G; omega)⟩⟩
theorem OI.drew {w : World} {gx G : Nat} {S xs : List UInt8} {va : Value} {wr : World} {D : List Nat} (h : OI w gx G S xs va wr D) : OI w gx G S xs va wr.drew D :=
  ⟨h.d, h.l, h.x, h.b.drew, h.a.keep (S := fun _ => False) (Keeps.refl _ _).drew (fun _ _ h => h), h.c⟩
theorem OI.drewN {w : World} {gx G : Nat} {S xs : List UInt8} {va : Value} {wr : World} {D : List Nat} (h : OI w gx G S xs va wr D) (n : Nat) : OI w gx G S xs va (wr.drewN n) D :=
  ⟨h.d, h.l, h.x, below_drewN h.b n, h.a.keep (S := fun _ => False) ((Keeps.refl _ _).drewN n) (fun _ _ h => h), h.c⟩

set_option maxHeartbeats 3200000 in
set_option maxRecDepth 100000 in
theorem polyOne_c (v0 : Value) (z0 : List UInt8) (w : World) (hcl : Cl w) (h0 : BSl w v0 z0) :
    Calls Tryd.prog 6 #[v0] w fun e w' => e = .returned (.bool true) ∧ Below w.heap.size w w' := by
  have HCL := hidden hcl
  have HC0 := hidden (cut_c 60 (by omega) v0 z0 w h0)
  obtain ⟨a0, n0, rfl⟩ := h0.len
  clear h0 hcl
  obtain ⟨Z, hZ, hmk⟩ : ∃ Z, Z = (bcells (List.replicate 32 0)).toArray ∧ ∀ w : World, (Instr.makeSlice 22 (.int .i64 32) (.int .i64 32)).run Tryd.prog w = .ok (.slice (some ⟨w.heap.size, 0, none⟩) 32 32) (w.alloc (.cells Z 5)) := ⟨_, rfl, fun w => made_run 32 (by omega) w⟩
  have HZ := hidden hZ
  clear hZ
  go_enter Tryd.func6, Tryd.ntmps6
  go_wp2_with fail
  refine HC0.out.mono ?_
  rintro e w' ⟨va, rfl, ha, _, rfl⟩
  have hal : (z0.take 60).length ≤ 60 := by simp; omega
  generalize z0.take 60 = xs at ha hal
  obtain ⟨ao, ac, rfl⟩ := ha.len
  have HA := hidden ha
  have HA0 := hidden ha
  have HCL0 := hidden HCL.out
  clear ha HC0
  go_upto_region 3 with fail
  have ho : ORow (w'.alloc (.cells Z 5)) w'.heap.size w'.heap.size 32 (List.replicate 32 0) := by
    refine ⟨Nat.le_refl _, by simp, by simp [maxLen], Z, heap_alloc_new w' _, by rw [HZ.out]; rfl, by rw [HZ.out]; rfl⟩
  have hb1 : Below w'.heap.size w' (w'.alloc (.cells Z 5)) := (Below.refl _ w').alloc (by omega) _
  have HA1 := hidden (HA.out.fresh hb1)
  have HCL1 := hidden (HCL.out.fresh hb1)
  generalize w'.alloc (.cells Z 5) = w1 at ho hb1 HA1 HCL1 ⊢
  have hc0 := ho.cell 0 (by simp)
  have hf0 := ho.frozen 0
  have HO1 := hidden ho
  have HB1 := hidden hb1
  clear ho hb1 HA HCL hmk HZ
  generalize ((List.replicate 32 (0 : UInt8)).getD 0 0).toNat = q0 at hc0
  go_upto_region 4 with fail
  have hk2 : Keeps (fun k => k = w'.heap.size) w1 (w1.setCell ⟨w'.heap.size, 0, none⟩ (.int .u8 1)) := (Keeps.refl (fun k => k = w'.heap.size) w1).setCell (p := ⟨w'.heap.size, 0, none⟩) (.inl rfl) _
  have ho2 : ORow (w1.setCell ⟨w'.heap.size, 0, none⟩ (.int .u8 1)) w'.heap.size w'.heap.size 32 keyOne := HO1.out.set 0 1
  have hb2 : Below w'.heap.size w' (w1.setCell ⟨w'.heap.size, 0, none⟩ (.int .u8 1)) := HB1.out.trans (hk2.below (B := w'.heap.size) HB1.out.size (by intro k e; omega))
  have ha2 : BSl (w1.setCell ⟨w'.heap.size, 0, none⟩ (.int .u8 1)) (.slice ao xs.length ac) xs := HA0.out.fresh hb2
  have hcl2 := HCL0.out.fresh hb2
  have hkb := ho2.bsl
  rw [keyOne_length] at hkb
  generalize w1.setCell ⟨w'.heap.size, 0, none⟩ (.int .u8 1) = w2 at hk2 ho2 hb2 ha2 hcl2 hkb ⊢
  have HSC := hidden (Sum_c _ _ keyOne xs (by omega) w2 hcl2 hkb ha2)
  have HB2 := hidden hb2
  have HA2 := hidden ha2
  have HCL2 := hidden hcl2
  clear hk2 ho2 hb2 ha2 hcl2 hkb HO1 HB1 HA1 HCL1 hc0 hf0
  go_wp2_with fail
  refine HSC.out.mono ?_
  rintro e w3 hT
  obtain ⟨hb3, gx, rfl, hgx, hx3⟩ := hT.ok keyOne_length
  rw [poly_one] at hx3
  obtain ⟨U, hU⟩ : ∃ U, U = sumB xs ((xs.length + 15) / 16) := ⟨_, rfl⟩
  have HUE := hidden hU
  have HUB : Hid (U ≤ 4 * 680564733841876926926749214863536422912) := by
    have h1 := sumB_le xs ((xs.length + 15) / 16)
    have h2 : (xs.length + 15) / 16 * 680564733841876926926749214863536422912 ≤ 4 * 680564733841876926926749214863536422912 := Nat.mul_le_mul_right _ (by omega)
    rw [hU]
    exact Nat.le_trans h1 h2
  rw [← hU] at hx3
  obtain ⟨S, hS⟩ : ∃ S, S = lowB (U % pP) 16 := ⟨_, rfl⟩
  have HSE := hidden hS
  have HSL : Hid (S.length = 16) := by rw [hS]; exact lowB_length _ _
  rw [← hS] at hx3
  have HX3 := hidden hx3
  have HB3 := hidden (HB2.out.trans (hb3.mono HB2.out.size))
  have HA3 := hidden (HA2.out.fresh hb3)
  have HCL3 := hidden (HCL2.out.fresh hb3)
  clear hT hb3 hgx hx3 hU hS HSC HB2 HA2 HCL2
  go_upto_region 8 with fail
  change Code.wp _ _ _ _ (w3.alloc (.cells (ncells .i64 (List.replicate 18 0)).toArray 35))
  have hoi : OI w' gx w3.heap.size S xs (.slice ao xs.length ac) (w3.alloc (.cells (ncells .i64 (List.replicate 18 0)).toArray 35)) (List.replicate 18 0) := by
    have hb : Below w3.heap.size w3 (w3.alloc (.cells (ncells .i64 (List.replicate 18 0)).toArray 35)) := (Below.refl _ w3).alloc (by omega) _
    exact ⟨NB.new w3 _, by simp, ((Keeps.ofFresh (S := fun _ => False) hb).block gx (lt_of_block HX3.out) (fun h => h)).trans HX3.out, HB3.out.trans (hb.mono HB3.out.size), HA3.out.fresh hb, HCL3.out.fresh hb⟩
  have hxg : gx ≠ w3.heap.size := by have := lt_of_block HX3.out; omega
  have hwg : w'.heap.size ≤ w3.heap.size := HB3.out.size
  have hg0 : 0 < w3.heap.size := HCL3.out.1
  have HAK : Hid (∀ {wa wb : World}, Keeps (fun k => k = w3.heap.size) wa wb → BSl wa (.slice ao xs.length ac) xs → BSl wb (.slice ao xs.length ac) xs) := by
    intro wa wb hk hb
    cases hx0 : xs with
    | nil => obtain ⟨ao', cp', e, h1, h2, h3, h4⟩ := hb; cases e; subst hx0; exact ⟨_, _, rfl, h1, h2, h3, fun _ _ h => absurd rfl h⟩
    | cons y ys =>
      rw [← hx0]
      refine hb.keep hk (fun k e => ?_)
      have hl : ∀ k, (Value.slice ao xs.length ac).ownBlock = some k → k < w3.heap.size := by
        have h7 := HA3.out
        rw [hx0] at h7 ⊢
        exact h7.blockLt
      have := hl k e
      omega
  generalize w3.alloc (.cells (ncells .i64 (List.replicate 18 0)).toArray 35) = w4 at hoi ⊢
  generalize w3.heap.size = G at hoi hxg hwg hg0 HAK ⊢
  have HOI := hidden hoi
  clear hoi HX3 HB3 HA3 HCL3
  obtain ⟨n, hn⟩ : ∃ n, n = xs.length := ⟨_, rfl⟩
  have HN := hidden hn
  rw [← hn] at hal HOI HAK ⊢
  clear hn
  go_wp2_with fail
  go_loopw [7] (fun c wr => ∃ (k : Nat) (D : List Nat), 16 * k ≤ n + 15 ∧ c = .int .i64 ((16 * k : Nat) : Int) ∧ OI w' gx G S xs (.slice ao n ac) wr D ∧ valTo D 18 = sumB xs k ∧ (∀ m, D.getD m 0 ≤ k * 256)) (fun c _ => n + 15 - (intOf c).toNat)
  case atStart =>
    refine ⟨0, List.replicate 18 0, by omega, rfl, HOI.out, by rw [show sumB xs 0 = 0 from rfl]; decide +kernel, fun m => ?_⟩
    simp only [List.getD_eq_getElem?_getD, List.getElem?_replicate]
    split <;> simp
  case round =>
    clear HOI
    obtain ⟨k, D, hk, rfl, hoi, hv, hb⟩ := hrel
    have HOI := hidden hoi
    have HV := hidden hv
    have HB := hidden hb
    clear hoi hv hb
    by_cases hlt : 16 * k < n
    · obtain ⟨t, ht⟩ : ∃ t, t = 16 * k := ⟨_, rfl⟩
      have HT := hidden ht
      have hk3 : k ≤ 3 := by omega
      rw [← ht] at hlt hk ⊢
      clear ht
      have hlt' : (t : Int) < (n : Int) := by omega
      have hne : xs ≠ [] := by intro e; have := HN.out; rw [e] at this; simp at this; omega
      obtain ⟨bA, oA, rfl⟩ := HOI.out.a.addr hne
      clear hne
      by_cases hend : t + 16 < n
      · obtain ⟨d, hd⟩ : ∃ d, d = 16 := ⟨_, rfl⟩
        have hnt : (16 : Int) < (n : Int) - (t : Int) := by omega
        have HD := hidden hd
        have hpl : (pieceAt xs k).length = d := by
          unfold pieceAt
          rw [List.length_take, List.length_drop, ← HN.out, ← HT.out]
          omega
        have HPL := hidden hpl
        have hd16 : d ≤ 16 := by omega
        have htd : t + d ≤ n := by omega
        clear hpl hd
        go_wp2_with fail
        obtain ⟨wo, ewo⟩ : ∃ x, x = wr := ⟨wr, rfl⟩
        subst ewo
        go_loopw [9] (fun c wr => ∃ (j : Nat) (E : List Nat), j ≤ d ∧ c = .int .i64 (j : Int) ∧ OI w' gx G S xs (.slice (some ⟨bA, oA, none⟩) n ac) wr E ∧ valTo E 18 = sumB xs k + leTo (pieceAt xs k) j ∧ (∀ m, m < j → E.getD m 0 ≤ k * 256 + 255) ∧ (∀ m, j ≤ m → E.getD m 0 ≤ k * 256)) (fun c _ => d - (intOf c).toNat)
        case atStart => exact ⟨0, D, by omega, rfl, HOI.out, by rw [HV.out]; rfl, fun m hm => by omega, fun m _ => HB.out m⟩
        case round =>
          clear HOI HV HB
          obtain ⟨j, E, hj, rfl, hoi, hv, hb1, hb2⟩ := hrel
          have HOI := hidden hoi
          have HV := hidden hv
          have HB1 := hidden hb1
          have HB2 := hidden hb2
          clear hoi hv hb1 hb2
          by_cases hltj : j < d
          · have hltj' : (j : Int) < 16 := by have := HD.out; omega
            have hj18 : (j : Int) < 18 := by omega
            have hcu := HOI.out.d.cell j (by rw [HOI.out.l]; omega)
            have hfu := HOI.out.d.frozen j
            have hcb := HOI.out.a.cellD (t + j) (by rw [← HN.out]; omega)
            obtain ⟨q, hq⟩ : ∃ q, q = t + j := ⟨_, rfl⟩
            rw [← hq] at hcb
            have hq2 : (t : Int) + (j : Int) = (q : Int) := by omega
            have hqn : (q : Int) < (n : Int) := by omega
            have hpj : (pieceAt xs k).getD j 0 = xs.getD q 0 := by
              unfold pieceAt
              simp only [List.getD_eq_getElem?_getD, List.getElem?_take, List.getElem?_drop]
              rw [if_pos (by omega), ← HT.out, hq]
            have hyb := UInt8.toNat_lt (xs.getD q 0)
            have hub := HB2.out j (Nat.le_refl _)
            obtain ⟨s, hs⟩ : ∃ s, s = E.getD j 0 + (xs.getD q 0).toNat := ⟨_, rfl⟩
            have hs2 : ((E.getD j 0 : Nat) : Int) + (((xs.getD q 0).toNat : Nat) : Int) = (s : Int) := by omega
            have hsb : s ≤ 2000 := by omega
            have HV2 : Hid (valTo (E.set j s) 18 = sumB xs k + leTo (pieceAt xs k) (j + 1)) := by
              have h := val_set E j s 18 (by omega) (by rw [HOI.out.l]; omega)
              have h2 : s * 256 ^ j = E.getD j 0 * 256 ^ j + (xs.getD q 0).toNat * 256 ^ j := by rw [hs, Nat.add_mul]
              rw [HV.out] at h
              show valTo (E.set j s) 18 = _
              rw [leTo, hpj]
              generalize valTo (E.set j s) 18 = V9 at h ⊢
              generalize s * 256 ^ j = s9 at h h2
              generalize E.getD j 0 * 256 ^ j = e9 at h h2
              generalize (xs.getD q 0).toNat * 256 ^ j = y9 at h2 ⊢
              omega
            have HN1 : Hid (∀ m, m < j + 1 → (E.set j s).getD m 0 ≤ k * 256 + 255) := by
              intro m hm
              rw [getD_set]
              split
              · omega
              · by_cases h : m < j
                · exact HB1.out m h
                · exact Nat.le_trans (HB2.out m (by omega)) (by omega)
            have HN2 : Hid (∀ m, j + 1 ≤ m → (E.set j s).getD m 0 ≤ k * 256) := by
              intro m hm
              rw [getD_set, if_neg (by omega)]
              exact HB2.out m (by omega)
            have hyb2 : (xs.getD q 0).toNat ≤ 255 := by omega
            have hub2 : E.getD j 0 ≤ 1024 := by omega
            generalize E.getD j 0 = ue at hcu hs2 hub2
            generalize (xs.getD q 0).toNat = ye at hcb hs2 hyb2
            clear hq hpj hyb hub hs
            go_wp2_with fail
            go_region
            go_wp2
            go_roundw
            case rel => exact ⟨j + 1, E.set j s, by omega, by go_num, (HOI.out.set hxg hwg hg0 HAK.out j s).drew, HV2.out, HN1.out, HN2.out⟩
            case measure => simp [intOf]; omega
          · have hltj' : ¬ (j : Int) < 16 := by have := HD.out; omega
            have hjd : j = d := by omega
            have HVd : Hid (valTo E 18 = sumB xs k + leTo (pieceAt xs k) d) := by rw [← hjd]; exact HV.out
            have HB1d : Hid (∀ m, m < d → E.getD m 0 ≤ k * 256 + 255) := by rw [← hjd]; exact HB1.out
            have HB2d : Hid (∀ m, d ≤ m → E.getD m 0 ≤ k * 256) := by rw [← hjd]; exact HB2.out
            clear HV HB1 HB2 hjd
            have hd18 : (d : Int) < 18 := by omega
            have hcu := HOI.out.d.cell d (by rw [HOI.out.l]; omega)
            have hfu := HOI.out.d.frozen d
            have hub := HB2d.out d (Nat.le_refl _)
            obtain ⟨s, hs⟩ : ∃ s, s = E.getD d 0 + 1 := ⟨_, rfl⟩
            have hs2 : ((E.getD d 0 : Nat) : Int) + 1 = (s : Int) := by omega
            have HV2 : Hid (valTo (E.set d s) 18 = sumB xs (k + 1)) := by
              have h := val_set E d s 18 (by omega) (by rw [HOI.out.l]; omega)
              have hb : blk (pieceAt xs k) = leTo (pieceAt xs k) d + 256 ^ d := by unfold blk; rw [HPL.out]
              have h2 : s * 256 ^ d = E.getD d 0 * 256 ^ d + 256 ^ d := by rw [hs, Nat.add_mul, Nat.one_mul]
              rw [HVd.out] at h
              show valTo (E.set d s) 18 = _
              rw [sumB, hb]
              generalize valTo (E.set d s) 18 = V9 at h ⊢
              generalize s * 256 ^ d = s9 at h h2
              generalize E.getD d 0 * 256 ^ d = e9 at h h2
              generalize 256 ^ d = p9 at h2 ⊢
              omega
            have HN1 : Hid (∀ m, (E.set d s).getD m 0 ≤ (k + 1) * 256) := by
              intro m
              rw [getD_set]
              split
              · omega
              · by_cases h : m < d
                · exact Nat.le_trans (HB1d.out m h) (by omega)
                · exact Nat.le_trans (HB2d.out m (by omega)) (by omega)
            have hub2 : E.getD d 0 ≤ 1024 := by omega
            have HTK := hidden HT.out
            have hde := HD.out
            rw [hde] at hcu hfu HV2 HN1 hs2 hub2
            clear hde
            generalize E.getD 16 0 = ue at hcu hs2 hub2
            clear hs hub HVd HB1d HB2d
            go_wp2
            go_roundw
            case rel => exact ⟨k + 1, E.set 16 s, by have := HTK.out; omega, by have := HTK.out; go_num, HOI.out.set hxg hwg hg0 HAK.out 16 s, HV2.out, HN1.out⟩
            case measure => have := HTK.out; simp [intOf]; omega
      · obtain ⟨d, hd⟩ : ∃ d, d = n - t := ⟨_, rfl⟩
        have hnt : (n : Int) - (t : Int) = (d : Int) := by omega
        have hnd : ¬ (16 : Int) < (d : Int) := by omega
        have hpl : (pieceAt xs k).length = d := by
          unfold pieceAt
          rw [List.length_take, List.length_drop, ← HN.out, ← HT.out]
          omega
        have HPL := hidden hpl
        have hd16 : d ≤ 16 := by omega
        have htd : t + d ≤ n := by omega
        clear hpl hd
        go_wp2_with fail
        obtain ⟨wo, ewo⟩ : ∃ x, x = wr := ⟨wr, rfl⟩
        subst ewo
        go_loopw [9] (fun c wr => ∃ (j : Nat) (E : List Nat), j ≤ d ∧ c = .int .i64 (j : Int) ∧ OI w' gx G S xs (.slice (some ⟨bA, oA, none⟩) n ac) wr E ∧ valTo E 18 = sumB xs k + leTo (pieceAt xs k) j ∧ (∀ m, m < j → E.getD m 0 ≤ k * 256 + 255) ∧ (∀ m, j ≤ m → E.getD m 0 ≤ k * 256)) (fun c _ => d - (intOf c).toNat)
        case atStart => exact ⟨0, D, by omega, rfl, HOI.out, by rw [HV.out]; rfl, fun m hm => by omega, fun m _ => HB.out m⟩
        case round =>
          clear HOI HV HB
          obtain ⟨j, E, hj, rfl, hoi, hv, hb1, hb2⟩ := hrel
          have HOI := hidden hoi
          have HV := hidden hv
          have HB1 := hidden hb1
          have HB2 := hidden hb2
          clear hoi hv hb1 hb2
          by_cases hltj : j < d
          · have hltj' : (j : Int) < (d : Int) := by omega
            have hj18 : (j : Int) < 18 := by omega
            have hcu := HOI.out.d.cell j (by rw [HOI.out.l]; omega)
            have hfu := HOI.out.d.frozen j
            have hcb := HOI.out.a.cellD (t + j) (by rw [← HN.out]; omega)
            obtain ⟨q, hq⟩ : ∃ q, q = t + j := ⟨_, rfl⟩
            rw [← hq] at hcb
            have hq2 : (t : Int) + (j : Int) = (q : Int) := by omega
            have hqn : (q : Int) < (n : Int) := by omega
            have hpj : (pieceAt xs k).getD j 0 = xs.getD q 0 := by
              unfold pieceAt
              simp only [List.getD_eq_getElem?_getD, List.getElem?_take, List.getElem?_drop]
              rw [if_pos (by omega), ← HT.out, hq]
            have hyb := UInt8.toNat_lt (xs.getD q 0)
            have hub := HB2.out j (Nat.le_refl _)
            obtain ⟨s, hs⟩ : ∃ s, s = E.getD j 0 + (xs.getD q 0).toNat := ⟨_, rfl⟩
            have hs2 : ((E.getD j 0 : Nat) : Int) + (((xs.getD q 0).toNat : Nat) : Int) = (s : Int) := by omega
            have hsb : s ≤ 2000 := by omega
            have HV2 : Hid (valTo (E.set j s) 18 = sumB xs k + leTo (pieceAt xs k) (j + 1)) := by
              have h := val_set E j s 18 (by omega) (by rw [HOI.out.l]; omega)
              have h2 : s * 256 ^ j = E.getD j 0 * 256 ^ j + (xs.getD q 0).toNat * 256 ^ j := by rw [hs, Nat.add_mul]
              rw [HV.out] at h
              show valTo (E.set j s) 18 = _
              rw [leTo, hpj]
              generalize valTo (E.set j s) 18 = V9 at h ⊢
              generalize s * 256 ^ j = s9 at h h2
              generalize E.getD j 0 * 256 ^ j = e9 at h h2
              generalize (xs.getD q 0).toNat * 256 ^ j = y9 at h2 ⊢
              omega
            have HN1 : Hid (∀ m, m < j + 1 → (E.set j s).getD m 0 ≤ k * 256 + 255) := by
              intro m hm
              rw [getD_set]
              split
              · omega
              · by_cases h : m < j
                · exact HB1.out m h
                · exact Nat.le_trans (HB2.out m (by omega)) (by omega)
            have HN2 : Hid (∀ m, j + 1 ≤ m → (E.set j s).getD m 0 ≤ k * 256) := by
              intro m hm
              rw [getD_set, if_neg (by omega)]
              exact HB2.out m (by omega)
            have hyb2 : (xs.getD q 0).toNat ≤ 255 := by omega
            have hub2 : E.getD j 0 ≤ 1024 := by omega
            generalize E.getD j 0 = ue at hcu hs2 hub2
            generalize (xs.getD q 0).toNat = ye at hcb hs2 hyb2
            clear hq hpj hyb hub hs
            go_wp2_with fail
            go_region
            go_wp2
            go_roundw
            case rel => exact ⟨j + 1, E.set j s, by omega, by go_num, (HOI.out.set hxg hwg hg0 HAK.out j s).drew, HV2.out, HN1.out, HN2.out⟩
            case measure => simp [intOf]; omega
          · have hltj' : ¬ (j : Int) < (d : Int) := by omega
            have hjd : j = d := by omega
            have HVd : Hid (valTo E 18 = sumB xs k + leTo (pieceAt xs k) d) := by rw [← hjd]; exact HV.out
            have HB1d : Hid (∀ m, m < d → E.getD m 0 ≤ k * 256 + 255) := by rw [← hjd]; exact HB1.out
            have HB2d : Hid (∀ m, d ≤ m → E.getD m 0 ≤ k * 256) := by rw [← hjd]; exact HB2.out
            clear HV HB1 HB2 hjd
            have hd18 : (d : Int) < 18 := by omega
            have hcu := HOI.out.d.cell d (by rw [HOI.out.l]; omega)
            have hfu := HOI.out.d.frozen d
            have hub := HB2d.out d (Nat.le_refl _)
            obtain ⟨s, hs⟩ : ∃ s, s = E.getD d 0 + 1 := ⟨_, rfl⟩
            have hs2 : ((E.getD d 0 : Nat) : Int) + 1 = (s : Int) := by omega
            have HV2 : Hid (valTo (E.set d s) 18 = sumB xs (k + 1)) := by
              have h := val_set E d s 18 (by omega) (by rw [HOI.out.l]; omega)
              have hb : blk (pieceAt xs k) = leTo (pieceAt xs k) d + 256 ^ d := by unfold blk; rw [HPL.out]
              have h2 : s * 256 ^ d = E.getD d 0 * 256 ^ d + 256 ^ d := by rw [hs, Nat.add_mul, Nat.one_mul]
              rw [HVd.out] at h
              show valTo (E.set d s) 18 = _
              rw [sumB, hb]
              generalize valTo (E.set d s) 18 = V9 at h ⊢
              generalize s * 256 ^ d = s9 at h h2
              generalize E.getD d 0 * 256 ^ d = e9 at h h2
              generalize 256 ^ d = p9 at h2 ⊢
              omega
            have HN1 : Hid (∀ m, (E.set d s).getD m 0 ≤ (k + 1) * 256) := by
              intro m
              rw [getD_set]
              split
              · omega
              · by_cases h : m < d
                · exact Nat.le_trans (HB1d.out m h) (by omega)
                · exact Nat.le_trans (HB2d.out m (by omega)) (by omega)
            have hub2 : E.getD d 0 ≤ 1024 := by omega
            have HTK := hidden HT.out
            generalize E.getD d 0 = ue at hcu hs2 hub2
            clear hs hub HVd HB1d HB2d
            go_wp2
            go_roundw
            case rel => exact ⟨k + 1, E.set d s, by have := HTK.out; omega, by have := HTK.out; go_num, HOI.out.set hxg hwg hg0 HAK.out d s, HV2.out, HN1.out⟩
            case measure => have := HTK.out; simp [intOf]; omega
    · have hlt' : ¬ ((16 * k : Nat) : Int) < (n : Int) := by omega
      have hkn : k = (n + 15) / 16 := by omega
      have HVU : Hid (valTo D 18 = U) := by show _ = _; rw [HV.out, HUE.out, hkn, HN.out]
      have HB4 : Hid (∀ m, D.getD m 0 ≤ 1024) := fun m => Nat.le_trans (HB.out m) (by omega)
      clear HV HB hkn
      go_wp2_with fail
      obtain ⟨wo, ewo⟩ : ∃ x, x = wr := ⟨wr, rfl⟩
      subst ewo
      go_loopw [10] (fun c wr => ∃ (k : Nat) (E : List Nat), k ≤ 17 ∧ c = .int .i64 (k : Int) ∧ OI w' gx G S xs (.slice ao n ac) wr E ∧ valTo E 18 = U ∧ (∀ m, m < k → E.getD m 0 ≤ 255) ∧ (∀ m, k < m → E.getD m 0 ≤ 1024) ∧ E.getD k 0 ≤ 1100) (fun c _ => 17 - (intOf c).toNat)
      case atStart => exact ⟨0, D, by omega, rfl, HOI.out, HVU.out, fun m hm => by omega, fun m _ => HB4.out m, Nat.le_trans (HB4.out 0) (by omega)⟩
      case round =>
        clear HOI HVU HB4
        obtain ⟨j, E, hj, rfl, hoi, hv, hb1, hb2, hb3⟩ := hrel
        have HOI := hidden hoi
        have HV := hidden hv
        have HB1 := hidden hb1
        have HB2 := hidden hb2
        clear hoi hv hb1 hb2
        by_cases hltj : j < 17
        · have hltj' : (j : Int) < 17 := by omega
          obtain ⟨j1, hj1⟩ : ∃ j1, j1 = j + 1 := ⟨_, rfl⟩
          have hj1i : (j : Int) + 1 = (j1 : Int) := by omega
          have hj18 : (j1 : Int) < 18 := by omega
          have hj18' : (j : Int) < 18 := by omega
          have hcu := HOI.out.d.cell j (by rw [HOI.out.l]; omega)
          have hcu1 := HOI.out.d.cell j1 (by rw [HOI.out.l]; omega)
          have hfu := HOI.out.d.frozen
          have hub := HB2.out j1 (by omega)
          obtain ⟨s, hs⟩ : ∃ s, s = E.getD j1 0 + E.getD j 0 / 256 := ⟨_, rfl⟩
          obtain ⟨r, hr⟩ : ∃ r, r = E.getD j 0 % 256 := ⟨_, rfl⟩
          have hne : j1 ≠ j := by omega
          have HV2 : Hid (valTo ((E.set j1 s).set j r) 18 = U) := by
            have h1 := val_set E j1 s 18 (by omega) (by rw [HOI.out.l]; omega)
            have h2 := val_set (E.set j1 s) j r 18 (by omega) (by rw [List.length_set, HOI.out.l]; omega)
            rw [getD_set, if_neg (by omega)] at h2
            rw [HV.out] at h1
            have e1 : s * 256 ^ j1 = E.getD j1 0 * 256 ^ j1 + 256 * (E.getD j 0 / 256 * 256 ^ j) := by
              rw [hs, Nat.add_mul, hj1, Nat.pow_succ]
              congr 1
              rw [Nat.mul_comm (256 ^ j) 256, Nat.mul_left_comm]
            have e2 : E.getD j 0 * 256 ^ j = 256 * (E.getD j 0 / 256 * 256 ^ j) + r * 256 ^ j := by
              rw [← Nat.mul_assoc, ← Nat.add_mul]
              congr 1
              omega
            show _ = _
            generalize valTo ((E.set j1 s).set j r) 18 = V2 at h2 ⊢
            generalize valTo (E.set j1 s) 18 = V1 at h1 h2
            generalize s * 256 ^ j1 = s9 at h1 e1
            generalize E.getD j1 0 * 256 ^ j1 = a9 at h1 e1
            generalize E.getD j 0 / 256 * 256 ^ j = c9 at e1 e2
            generalize E.getD j 0 * 256 ^ j = b9 at h2 e2
            generalize r * 256 ^ j = r9 at h2 e2
            omega
          have HN1 : Hid (∀ m, m < j1 → ((E.set j1 s).set j r).getD m 0 ≤ 255) := by
            intro m hm
            rw [getD_set, getD_set]
            split
            · omega
            · rw [if_neg (by omega)]
              exact HB1.out m (by have := HOI.out.l; rw [List.length_set] at *; omega)
          have HN2 : Hid (∀ m, j1 < m → ((E.set j1 s).set j r).getD m 0 ≤ 1024) := by
            intro m hm
            rw [getD_set, if_neg (by omega), getD_set, if_neg (by omega)]
            exact HB2.out m (by omega)
          have HN3 : Hid (((E.set j1 s).set j r).getD j1 0 ≤ 1100) := by
            show _ ≤ _
            rw [getD_set, if_neg (by omega), getD_set]
            split <;> omega
          have hs2 : ((E.getD j1 0 : Nat) : Int) + ((E.getD j 0 : Nat) : Int) / 256 = (s : Int) := by omega
          have hand : bits BinOp.and IntKind.i64 ((E.getD j 0 : Nat) : Int) 255 = (r : Int) := by
            rw [i64_low _ (by omega), hr]
          have HCJ : Hid ((E.set j1 s).getD j 0 = E.getD j 0) := by
            show _ = _
            rw [getD_set, if_neg (by omega)]
          have hub1 : E.getD j 0 ≤ 1100 := hb3
          have HJ1 := hidden hj1
          generalize E.getD j 0 = ue at hcu hs2 hand hub1 HCJ
          generalize E.getD j1 0 = u1 at hcu1 hs2 hub
          clear hb3 hs hr hj1
          go_wp2_with fail
          go_region
          have hoi5 := (HOI.out.set hxg hwg hg0 HAK.out j1 s).drew
          generalize (wr.setCell ⟨G, j1, none⟩ (.int .i64 (s : Int))).drew = w5 at hoi5 ⊢
          have hcj := hoi5.d.cell j (by rw [hoi5.l]; omega)
          rw [HCJ.out] at hcj
          have hfj := hoi5.d.frozen j
          have HOI5 := hidden hoi5
          clear hoi5 hcu hcu1 hfu HOI HCJ
          go_wp2
          go_roundw
          case rel => exact ⟨j1, (E.set j1 s).set j r, by have := HJ1.out; omega, by have := HJ1.out; go_num, HOI5.out.set hxg hwg hg0 HAK.out j r, HV2.out, HN1.out, HN2.out, HN3.out⟩
          case measure => have := HJ1.out; simp [intOf]; omega
        · have hltj' : ¬ (j : Int) < 17 := by omega
          obtain rfl : j = 17 := by omega
          have hc16 := HOI.out.d.cell 16 (by rw [HOI.out.l]; omega)
          have hc15 := HOI.out.d.cell 15 (by rw [HOI.out.l]; omega)
          have hd16 := HB1.out 16 (by omega)
          have hd15 := HB1.out 15 (by omega)
          have HSM : Hid (E.getD 16 0 ≤ 3 → ¬ (E.getD 16 0 = 3 ∧ E.getD 15 0 = 255) → ∀ i, i < 16 → (S.getD i 0).toNat = E.getD i 0) := by
            intro h16 h15 i hi
            rw [HSE.out, low_getD _ _ _ hi, one_small E U HV.out HUB.out HB1.out h16 h15, ← HV.out]
            exact val_digit E 18 i (by omega) (fun m hm => HB1.out m (by omega))
          generalize hx16 : E.getD 16 0 = e16 at hc16 hd16 HSM
          generalize hx15 : E.getD 15 0 = e15 at hc15 hd15 HSM
          clear hx16 hx15 hb3
          by_cases h4 : 4 ≤ e16
          · have h4' : (4 : Int) ≤ (e16 : Int) := by omega
            go_wp2_with fail
            refine (known_c _ HOI.out.c).mono ?_
            rintro e w9 ⟨rfl, hb9⟩
            go_wp2
            go_ret
            exact ⟨rfl, HOI.out.b.trans (hb9.mono HOI.out.b.size)⟩
          · have h4' : ¬ (4 : Int) ≤ (e16 : Int) := by omega
            by_cases h3 : e16 = 3
            · subst h3
              by_cases h5 : e15 = 255
              · subst h5
                go_wp2_with fail
                refine (known_c _ HOI.out.c).mono ?_
                rintro e w9 ⟨rfl, hb9⟩
                go_wp2
                go_ret
                exact ⟨rfl, HOI.out.b.trans (hb9.mono HOI.out.b.size)⟩
              · have h5' : ((e15 : Int) == 255) = false := by simp; omega
                have HSX := hidden (HSM.out (by omega) (fun h => h5 h.2))
                clear HSM
                go_wp2_with fail
                obtain ⟨wo2, ewo2⟩ : ∃ x, x = wr := ⟨wr, rfl⟩
                subst ewo2
                go_loopw [11] (fun c wr => ∃ i q : Nat, i ≤ 16 ∧ c = .int .i64 (i : Int) ∧ wr = wo2.drewN q) (fun c _ => 16 - (intOf c).toNat)
                case atStart => exact ⟨0, 0, by omega, rfl, rfl⟩
                case round =>
                  obtain ⟨i, q, hi, rfl, rfl⟩ := hrel
                  by_cases hlti : i < 16
                  · have hlti' : (i : Int) < 16 := by omega
                    have hi18 : (i : Int) < 18 := by omega
                    have hcx := (bsl16 HOI.out.x HSL.out).cellD i (by rw [HSL.out]; omega)
                    rw [Nat.zero_add, HSX.out i hlti] at hcx
                    have hcu := HOI.out.d.cell i (by rw [HOI.out.l]; omega)
                    have hdi := HB1.out i (by omega)
                    generalize E.getD i 0 = ei at hcx hcu hdi
                    have hei : (ei : Int) % 256 = (ei : Int) := by omega
                    go_wp2_with fail
                    go_quiet (fail)
                    go_wp2
                    go_roundw
                    case rel => exact ⟨i + 1, q + nq, by omega, by go_num, rfl⟩
                    case measure => simp [intOf]; omega
                  · have hlti' : ¬ (i : Int) < 16 := by omega
                    have HOQ := hidden (HOI.out.drewN q)
                    go_wp2_with fail
                    refine (known_c _ HOQ.out.c).mono ?_
                    rintro e w9 ⟨rfl, hb9⟩
                    go_wp2
                    go_ret
                    exact ⟨rfl, HOQ.out.b.trans (hb9.mono HOQ.out.b.size)⟩
            · have h3' : ((e16 : Int) == 3) = false := by simp; omega
              have HSX := hidden (HSM.out (by omega) (fun h => h3 h.1))
              clear HSM
              go_wp2_with fail
              obtain ⟨wo2, ewo2⟩ : ∃ x, x = wr := ⟨wr, rfl⟩
              subst ewo2
              go_loopw [11] (fun c wr => ∃ i q : Nat, i ≤ 16 ∧ c = .int .i64 (i : Int) ∧ wr = wo2.drewN q) (fun c _ => 16 - (intOf c).toNat)
              case atStart => exact ⟨0, 0, by omega, rfl, rfl⟩
              case round =>
                obtain ⟨i, q, hi, rfl, rfl⟩ := hrel
                by_cases hlti : i < 16
                · have hlti' : (i : Int) < 16 := by omega
                  have hi18 : (i : Int) < 18 := by omega
                  have hcx := (bsl16 HOI.out.x HSL.out).cellD i (by rw [HSL.out]; omega)
                  rw [Nat.zero_add, HSX.out i hlti] at hcx
                  have hcu := HOI.out.d.cell i (by rw [HOI.out.l]; omega)
                  have hdi := HB1.out i (by omega)
                  generalize E.getD i 0 = ei at hcx hcu hdi
                  have hei : (ei : Int) % 256 = (ei : Int) := by omega
                  go_wp2_with fail
                  go_quiet (fail)
                  go_wp2
                  go_roundw
                  case rel => exact ⟨i + 1, q + nq, by omega, by go_num, rfl⟩
                  case measure => simp [intOf]; omega
                · have hlti' : ¬ (i : Int) < 16 := by omega
                  have HOQ := hidden (HOI.out.drewN q)
                  go_wp2_with fail
                  refine (known_c _ HOQ.out.c).mono ?_
                  rintro e w9 ⟨rfl, hb9⟩
                  go_wp2
                  go_ret
                  exact ⟨rfl, HOQ.out.b.trans (hb9.mono HOQ.out.b.size)⟩
end Go.Proofs.YtfnaelmgdjkchaaDoor
