/- The document's own Xor. -/
import Derived.Test.YthkaibkmpenclaaDoorChI
import Derived.Deep.RegionLaw
namespace Go.Proofs.YthkaibkmpenclaaDoor
open Go Go.RowKit



set_option maxHeartbeats 1600000 in
set_option maxRecDepth 100000 in
theorem rXor_c (v1 v2 v3 : Value) (key nonce ys : List UInt8) (ctr : Int) (hc0 : 0 ≤ ctr) (hc1 : ctr < 4294967296) (hy : ys.length ≤ 1000000) (w : World) (h1 : BSl w v1 key) (h2 : BSl w v2 nonce) (h3 : BSl w v3 ys) :
    Calls Tryd.prog 52 #[v1, .int .u32 ctr, v2, v3] w fun e w' => Told w key nonce (xorL key ctr nonce ys) e w' := by
  by_cases hk : okSizes key nonce = true
  · have hk' : key.length = 32 ∧ nonce.length = 12 := by simpa [okSizes] using hk
    have HK := hidden hk
    have H1 := hidden h1
    have H2 := hidden h2
    have H3 := hidden h3
    obtain ⟨a1, c1, rfl⟩ := h1.len
    obtain ⟨a2, c2, rfl⟩ := h2.len
    obtain ⟨a3, c3, rfl⟩ := h3.len
    have hm3 : ys.length ≤ c3 := by obtain ⟨_, _, e, h, _⟩ := h3; cases e; exact h
    have hm4 : c3 ≤ 9223372036854775807 := by obtain ⟨_, _, e, _, h, _⟩ := h3; cases e; unfold maxLen at h; omega
    rw [hk'.1] at H1 ⊢
    rw [hk'.2] at H2 ⊢
    have HC0 := hidden hc0
    have HC1 := hidden hc1
    obtain ⟨n, hn⟩ : ∃ n, n = ys.length := ⟨_, rfl⟩
    rw [← hn] at H3 hy hm3 ⊢
    have HN := hidden hn
    obtain ⟨i0, hi, hz0, hz1, hz2⟩ := info_parts Tryd.infoU8
    clear h1 h2 h3 hk hk' hc0 hc1 hn
    go_enter Tryd.func52, Tryd.ntmps52
    go_wp2_with fail
    go_loopw [1, 10, 11, 12] (fun c out blk i wr => ∃ (j : Nat) (ba : Option Addr) (bn bc : Nat) (cc : Int), j ≤ n ∧ i = .int .i64 (j : Int) ∧ c = .int .u32 cc ∧ cc = (ctr + (((j + 63) / 64 : Nat) : Int)) % 4294967296 ∧ blk = .slice ba bn bc ∧
      (j % 64 ≠ 0 → BSl wr blk (bk key ((ctr + ((j / 64 : Nat) : Int)) % 4294967296) nonce) ∧ ∀ g, blk.ownBlock = some g → g < wr.heap.size ∧ out.ownBlock ≠ some g) ∧
      wr.ownsRow w.heap.size 5 1 out j (bcells (xorTo key ctr nonce ys j)) ∧ Below w.heap.size w wr) (fun _ _ _ i _ => n - (intOf i).toNat)
    case atStart =>
      refine ⟨0, none, 0, 0, ctr, by omega, by simp, rfl, ?_, rfl, by simp, World.ownsRow_nil _ _ _ _, Below.refl _ _⟩
      have := HC0.out
      have := HC1.out
      omega
    case round =>
      obtain ⟨j, ba, bn, bc, cc, hj, rfl, rfl, hcc, rfl, hblk, ho, hb⟩ := hrel
      have HCC := hidden hcc
      clear hcc
      by_cases hlt : j < n
      · have hlt' : (j : Int) < (n : Int) := by omega
        have hne : ys ≠ [] := by intro e; have := HN.out; rw [e] at this; simp at this; omega
        obtain ⟨b3, o3, e3⟩ := H3.out.addr hne
        subst e3
        clear hne
        obtain ⟨ck, hck⟩ : ∃ x, x = (ctr + ((j / 64 : Nat) : Int)) % 4294967296 := ⟨_, rfl⟩
        have HCK := hidden hck
        by_cases hz : j % 64 = 0
        · have hz' : (j : Int) % 64 = 0 := by omega
          obtain rfl : cc = ck := by rw [HCC.out, hck, show (j + 63) / 64 = j / 64 by omega]
          have HO := hidden ho
          have HB := hidden hb
          have HZ := hidden hz
          clear hblk ho hb hz hck
          go_wp2_with fail
          refine (rBlock_c _ _ key nonce cc wr (H1.out.fresh HB.out) (H2.out.fresh HB.out)).mono ?_
          rintro e wz ⟨hbz, hT⟩
          rcases hT with ⟨_, v, rfl, hbs, hfr⟩ | ⟨hno, _⟩
          · have HBz := hidden (HB.out.trans (hbz.mono HB.out.size))
            have HOz := hidden ((Keeps.ofFresh (S := fun _ => False) hbz).row HO.out (fun _ _ h => h))
            have HNE : Hid (∀ g, v.ownBlock = some g → g < wz.heap.size ∧ u10.ownBlock ≠ some g) := fun g e => ⟨(hfr g e).2, fun h => by have := (hfr g e).1; have := (HO.out.lt g h).2; omega⟩
            clear hbz hfr HO HB
            obtain ⟨gB, oB, cB, eB, lB⟩ := hbs.nonnil (by intro e; have := bk_length key cc nonce; rw [e] at this; simp at this)
            rw [bk_length] at eB
            cases eB
            obtain ⟨r, hr⟩ : ∃ r, r = j % 64 := ⟨_, rfl⟩
            have htm : ((j : Int)).tmod 64 = (r : Int) := by rw [Int.tmod_eq_emod_of_nonneg (by omega)]; omega
            have hr1 : (r : Int) < 64 := by omega

            have cb := hbs.cellD r (by rw [bk_length]; omega)
            have cy := ((H3.out.fresh HBz.out).cellD j (by have := HN.out; omega))
            have HX : Hid (bits BinOp.xor IntKind.u8 ((ys.getD j 0).toNat : Int) (((bk key cc nonce).getD r 0).toNat : Int) = ((xb key ctr nonce ys j).toNat : Int)) := by
              show _ = _
              rw [xbyte]
              unfold xb
              rw [← HCK.out, ← hr]
            have hszz : w.heap.size ≤ wz.heap.size := HBz.out.size
            have HBS := hidden hbs
            clear hbs
            generalize ((ys.getD j 0).toNat : Nat) = xa at cy HX
            generalize ((bk key cc nonce).getD r 0).toNat = xc at cb HX
            clear hr
            go_wp2_with fail
            clear hz'
            go_region_law ((refine step_append_src _ (by rfl) (.tmp 39) (.tmp 50) 22 22 (by rfl) w.heap.size 5 i0 _ 1 Tryd.underlying22 hi hz0 hz1 hz2 rfl u10 j _ (by rfl) ((HOz.out.alloc _).drew) _ 1 _ (by rfl) (srcAt (by rfl) (heap_alloc_new wz _)) (by unfold maxLen; omega) (by omega) (by simp; omega) (wz.heap.size + 1) (by simp) ?_; intro v' w9 hown' hgrow hnil hat; obtain ⟨ao, cp, rfl⟩ := ownsRow_shape hown'))
            all_goals
              have hb9 : Below w.heap.size w w9 := ((HBz.out.alloc hszz _).drew).grown hgrow (by simp; omega) (fun k hk => (HOz.out.lt k hk).1)
              have HO9 : Hid (w9.ownsRow w.heap.size 5 1 (.slice ao (j + 1) cp) (j + 1) (bcells (xorTo key ctr nonce ys (j + 1)))) := by
                show World.ownsRow _ _ _ _ _ _ _
                rw [xorTo_succ, bcells_append]
                rw [HX.out] at hown'
                exact hown'
              have hne9 : ∀ g, (Value.slice (some ⟨gB, oB, none⟩) 64 cB).ownBlock = some g → g < wz.heap.size ∧ u10.ownBlock ≠ some g := HNE.out
              have hB9 : BSl w9 (.slice (some ⟨gB, oB, none⟩) 64 cB) (bk key cc nonce) ∧ ∀ g, (Value.slice (some ⟨gB, oB, none⟩) 64 cB).ownBlock = some g → g < w9.heap.size ∧ (Value.slice ao (j + 1) cp).ownBlock ≠ some g := by
                have k1 : Keeps (fun k => u10.ownBlock = some k) wz w9 := ((((Keeps.refl _ wz).alloc _).drew)).trans (Keeps.ofGrown hgrow (fun k e => e))
                refine ⟨HBS.out.keep k1 (fun k e h => (hne9 k e).2 h), fun g e => ⟨Nat.lt_of_lt_of_le (hne9 g e).1 k1.size, fun h => ?_⟩⟩
                rcases hat with h2 | h2
                · rw [h2] at h; exact (hne9 g e).2 h
                · rw [h2] at h; have := (hne9 g e).1; simp at h; omega
              have HB9 := hidden hB9
              have HBw := hidden hb9
              clear hown' hgrow hnil hat hb9 hne9 hB9
              go_wp2
              go_roundw
              case rel =>
                refine ⟨j + 1, _, _, _, (cc + 1) % 4294967296, by omega, by go_num, rfl, ?_, rfl, fun h64 => ?_, HO9.out, HBw.out⟩
                · rw [HCC.out, Int.emod_add_emod]; have := HZ.out; rw [show (j + 1 + 63) / 64 = (j + 63) / 64 + 1 by omega]; congr 1; omega
                · rw [show (j + 1) / 64 = j / 64 by omega, ← HCK.out]
                  exact HB9.out
              case measure => simp [intOf]; omega
          · exact absurd HK.out (by rw [hno]; simp)
        · have hz' : ¬ (j : Int) % 64 = 0 := by omega
          obtain ⟨hbs, hne⟩ := hblk hz
          rw [← hck] at hbs
          have HBz := hidden hb
          have HOz := hidden ho
          have HNE := hidden hne
          have HZ := hidden hz
          clear hblk ho hb hz hck hne
          obtain ⟨gB, oB, cB, eB, lB⟩ := hbs.nonnil (by intro e; have := bk_length key ck nonce; rw [e] at this; simp at this)
          rw [bk_length] at eB
          cases eB
          obtain ⟨r, hr⟩ : ∃ r, r = j % 64 := ⟨_, rfl⟩
          have htm : ((j : Int)).tmod 64 = (r : Int) := by rw [Int.tmod_eq_emod_of_nonneg (by omega)]; omega
          have hr1 : (r : Int) < 64 := by omega
          have hr2 : ¬ (r : Int) = 0 := by have := HZ.out; omega
          have cb := hbs.cellD r (by rw [bk_length]; omega)
          have cy := ((H3.out.fresh HBz.out).cellD j (by have := HN.out; omega))
          have HX : Hid (bits BinOp.xor IntKind.u8 ((ys.getD j 0).toNat : Int) (((bk key ck nonce).getD r 0).toNat : Int) = ((xb key ctr nonce ys j).toNat : Int)) := by
            show _ = _
            rw [xbyte]
            unfold xb
            rw [← HCK.out, ← hr]
          have hszz : w.heap.size ≤ wr.heap.size := HBz.out.size
          have HBS := hidden hbs
          clear hbs
          generalize ((ys.getD j 0).toNat : Nat) = xa at cy HX
          generalize ((bk key ck nonce).getD r 0).toNat = xc at cb HX
          clear hr
          go_wp2_with fail
          clear hz'
          go_region_law ((refine step_append_src _ (by rfl) (.tmp 39) (.tmp 50) 22 22 (by rfl) w.heap.size 5 i0 _ 1 Tryd.underlying22 hi hz0 hz1 hz2 rfl u10 j _ (by rfl) ((HOz.out.alloc _).drew) _ 1 _ (by rfl) (srcAt (by rfl) (heap_alloc_new wr _)) (by unfold maxLen; omega) (by omega) (by simp; omega) (wr.heap.size + 1) (by simp) ?_; intro v' w9 hown' hgrow hnil hat; obtain ⟨ao, cp, rfl⟩ := ownsRow_shape hown'))
          all_goals
            have hb9 : Below w.heap.size w w9 := ((HBz.out.alloc hszz _).drew).grown hgrow (by simp; omega) (fun k hk => (HOz.out.lt k hk).1)
            have HO9 : Hid (w9.ownsRow w.heap.size 5 1 (.slice ao (j + 1) cp) (j + 1) (bcells (xorTo key ctr nonce ys (j + 1)))) := by
              show World.ownsRow _ _ _ _ _ _ _
              rw [xorTo_succ, bcells_append]
              rw [HX.out] at hown'
              exact hown'
            have hne9 : ∀ g, (Value.slice (some ⟨gB, oB, none⟩) 64 bc).ownBlock = some g → g < wr.heap.size ∧ u10.ownBlock ≠ some g := HNE.out
            have hB9 : BSl w9 (.slice (some ⟨gB, oB, none⟩) 64 bc) (bk key ck nonce) ∧ ∀ g, (Value.slice (some ⟨gB, oB, none⟩) 64 bc).ownBlock = some g → g < w9.heap.size ∧ (Value.slice ao (j + 1) cp).ownBlock ≠ some g := by
              have k1 : Keeps (fun k => u10.ownBlock = some k) wr w9 := ((((Keeps.refl _ wr).alloc _).drew)).trans (Keeps.ofGrown hgrow (fun k e => e))
              refine ⟨HBS.out.keep k1 (fun k e h => (hne9 k e).2 h), fun g e => ⟨Nat.lt_of_lt_of_le (hne9 g e).1 k1.size, fun h => ?_⟩⟩
              rcases hat with h2 | h2
              · rw [h2] at h; exact (hne9 g e).2 h
              · rw [h2] at h; have := (hne9 g e).1; simp at h; omega
            have HB9 := hidden hB9
            have HBw := hidden hb9
            clear hown' hgrow hnil hat hb9 hne9 hB9
            go_wp2
            go_roundw
            case rel =>
              refine ⟨j + 1, _, _, _, cc, by omega, by go_num, rfl, ?_, rfl, fun h64 => ?_, HO9.out, HBw.out⟩
              · rw [HCC.out]; have := HZ.out; rw [show (j + 1 + 63) / 64 = (j + 63) / 64 by omega]
              · rw [show (j + 1) / 64 = j / 64 by omega, ← HCK.out]
                exact HB9.out
            case measure => simp [intOf]; omega
      · have hlt' : ¬ (j : Int) < (n : Int) := by omega
        obtain rfl : j = n := by omega
        have HE : Hid (xorTo key ctr nonce ys j = xorL key ctr nonce ys) := by show _ = _; unfold xorL; rw [← HN.out]
        rw [HE.out] at ho
        have HV := hidden (BSl.ofRow ho)
        have HLt := hidden ho.lt
        have HB := hidden hb
        clear ho hb hblk
        go_wp2
        go_ret2
        exact ⟨HB.out, .inl ⟨HK.out, _, rfl, HV.out, HLt.out⟩⟩
  · have HK : Hid (okSizes key nonce = false) := by simpa [Hid] using hk
    obtain ⟨a1, c1, rfl⟩ := h1.len
    obtain ⟨a2, c2, rfl⟩ := h2.len
    obtain ⟨a3, c3, rfl⟩ := h3.len
    clear h1 h2 h3
    by_cases hl : key.length = 32
    · have hl2 : nonce.length ≠ 12 := by intro e; simp [okSizes, hl, e] at hk
      rw [hl]
      have e2 : ((nonce.length : Int) == 12) = false := by simp; omega
      have e3 : ((nonce.length : Int) != 12) = true := by simp; omega
      generalize nonce.length = n at e2 e3 ⊢
      clear hk hl hl2
      go_enter Tryd.func52, Tryd.ntmps52
      go_wp2
      go_ret2
      exact ⟨Below.refl _ _, .inr ⟨HK.out, rfl⟩⟩
    · have e2 : ((key.length : Int) == 32) = false := by simp; omega
      have e3 : ((key.length : Int) != 32) = true := by simp; omega
      generalize key.length = n at e2 e3 ⊢
      clear hk hl
      go_enter Tryd.func52, Tryd.ntmps52
      go_wp2
      go_ret2
      exact ⟨Below.refl _ _, .inr ⟨HK.out, rfl⟩⟩
end Go.Proofs.YthkaibkmpenclaaDoor
