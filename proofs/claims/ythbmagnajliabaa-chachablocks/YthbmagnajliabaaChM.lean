/- The walk of the law ChachaBlocks. -/
import Derived.Test.YthbmagnajliabaaChL
namespace Go.Proofs.Ythbmagnajliabaa
open Go Go.RowKit

theorem noughts_piece (key : List UInt8) (ctr : Int) (nonce : List UInt8) (n k e : Nat) (hk : 64 * k + e ≤ n) (h64 : e ≤ 64) :
    ((xorL key ctr nonce (List.replicate n 0)).drop (64 * k)).take e = (bk key ((ctr + (k : Int)) % 4294967296) nonce).take e := by
  apply List.ext_getElem
  · simp [xorL_length, bk_length]; omega
  · intro i h1 h2
    have hi : i < e := by simp at h1; omega
    simp only [List.getElem_take, List.getElem_drop]
    have e1 : (xorL key ctr nonce (List.replicate n 0))[64 * k + i]'(by rw [xorL_length]; simp; omega) = xb key ctr nonce (List.replicate n 0) (64 * k + i) := by
      have := xorL_getD key ctr nonce (List.replicate n 0) (64 * k + i) (by simp; omega)
      rw [← this]
      simp
      rw [List.getElem?_eq_getElem (by rw [xorL_length]; simp; omega)]
      rfl
    rw [e1]
    unfold xb
    rw [show (64 * k + i) / 64 = k by omega, show (64 * k + i) % 64 = i by omega]
    have : (List.replicate n (0 : UInt8)).getD (64 * k + i) 0 = 0 := by
      simp only [List.getD_eq_getElem?_getD, List.getElem?_replicate]
      split <;> rfl
    rw [this, UInt8.zero_xor]
    simp [bk_length, show i < 64 by omega]

set_option maxHeartbeats 1600000 in
set_option maxRecDepth 100000 in
theorem chachaBlocks_c (v0 v1 : Value) (z0 z1 : List UInt8) (ctr m : Int) (hc0 : 0 ≤ ctr) (hc1 : ctr < 4294967296) (w : World) (h0 : BSl w v0 z0) (h1 : BSl w v1 z1) :
    Calls Try.prog 6 #[v0, v1, .int .u32 ctr, .int .i64 m] w fun e w' => e = .returned (.bool true) ∧ Below w.heap.size w w' := by
  have HC0 := hidden hc0
  have HC1 := hidden hc1
  have H1 := hidden h1
  have HS0 := hidden (sized_b 32 (by omega) v0 z0 w h0)
  obtain ⟨a0, n0, rfl⟩ := h0.len
  obtain ⟨a1, n1, rfl⟩ := h1.len
  clear h0 h1 hc0 hc1
  obtain ⟨i0, hi, hz0, hz1, hz2⟩ := info_parts Try.infoU8
  go_enter Try.func6, Try.ntmps6
  go_wp2_with fail
  refine HS0.out.mono ?_
  rintro e w1 ⟨rfl, hk, hb1⟩
  have hkl := sizedL_length z0 32
  generalize sizedL z0 32 = key at hk hkl
  have HK := hidden hk
  have HKL := hidden hkl
  have HB1 := hidden hb1
  clear HS0 hk hkl hb1
  go_wp2_with fail
  refine (sized_b 12 (by omega) _ z1 w1 (H1.out.fresh HB1.out)).mono ?_
  rintro e w2 ⟨rfl, hn, hb2⟩
  have hnl := sizedL_length z1 12
  generalize sizedL z1 12 = nonce at hn hnl
  have HN := hidden hn
  have HNL := hidden hnl
  have HB2 := hidden (HB1.out.trans (hb2.mono HB1.out.size))
  have HK2 := hidden (HK.out.fresh hb2)
  clear hn hnl hb2 HB1 HK H1
  go_wp2_with fail
  refine (within_c m 300 (by omega) w2).mono ?_
  rintro e w2' ⟨n, rfl, hn, rfl⟩
  have hsz := HB2.out.size
  go_wp2_with (refine wpList_make_full _ rfl (.tmp 25) (.tmp 25) 22 rfl w.heap.size 5 i0 _ 1 Try.underlying22 hi hz0 hz1 .i64 .i64 _ _ n rfl rfl (by omega) (by omega) (by rw [hz2]; omega) (by unfold maxLen; omega) hsz ?_)
  intro w3 ho3 hgr3
  have hb3 := HB2.out.grown hgr3 hsz (by simp)
  have hk3 : Keeps (fun _ => False) w2' w3 := Keeps.ofGrown hgr3 (fun k e => by cases e)
  have HM := hidden (BSl.made ho3 rfl)
  have HB3 := hidden hb3
  have HK3 := hidden (HK2.out.keep hk3 (fun _ _ h => h))
  have HN3 := hidden (HN.out.keep hk3 (fun _ _ h => h))
  clear ho3 hgr3 hb3 hk3 HK2 HN HB2 hi hz0 hz1 hz2
  go_wp2_with fail
  refine (Xor_c _ _ _ key nonce _ ctr HC0.out HC1.out (by simp; omega) w3 HK3.out HN3.out HM.out).mono ?_
  rintro e w4 hT
  obtain ⟨hb4, vx, rfl, hx, hfx⟩ := hT.ok HKL.out HNL.out
  clear hT
  have hxl : (xorL key ctr nonce (List.replicate n 0)).length = n := by rw [xorL_length]; simp
  obtain ⟨xo, xc, rfl, hxc, _⟩ := id hx
  rw [hxl] at hx hxc ⊢
  have HX := hidden hx
  have HB4 := hidden (HB3.out.trans (hb4.mono HB3.out.size))
  have HK4 := hidden (HK3.out.fresh hb4)
  have HN4 := hidden (HN3.out.fresh hb4)
  clear hx hfx hb4 hxl HK3 HN3 HM
  go_wp2_with fail
  go_loopw [11] (fun i wr => ∃ k : Nat, 64 * k ≤ n + 63 ∧ i = .int .i64 (64 * k : Nat) ∧ Below w4.heap.size w4 wr) (fun i _ => n + 63 - (intOf i).toNat)
  case atStart => exact ⟨0, by omega, rfl, Below.refl _ _⟩
  case round =>
    obtain ⟨k, hk, rfl, hbr⟩ := hrel
    by_cases hlt : 64 * k < n
    · obtain ⟨t, ht⟩ : ∃ t, t = 64 * k := ⟨_, rfl⟩
      have hi1 : (t : Int) < (n : Int) := by omega
      have htd : ((t : Int)).tdiv 64 = (k : Int) := by rw [Int.tdiv_eq_ediv_of_nonneg (by omega)]; omega
      have hne : xorL key ctr nonce (List.replicate n 0) ≠ [] := by intro e; have := congrArg List.length e; rw [xorL_length] at this; simp at this; omega
      obtain ⟨b, o, rfl⟩ := HX.out.addr hne
      have HBR := hidden hbr
      have HT := hidden ht
      have HKK : Hid ((k : Int) % 4294967296 = k) := by show _ = _; omega
      have hk32 : IntKind.u32.wrap (k : Int) = (k : Int) := by rw [show IntKind.u32.wrap (k : Int) = (k : Int) % 4294967296 from rfl]; omega
      rw [← ht]
      clear hne hbr ht hk
      go_wp2_with fail
      refine (Block_c _ _ key nonce _ wr (HK4.out.fresh HBR.out) (HN4.out.fresh HBR.out)).mono ?_
      rintro e w5 hT
      obtain ⟨hb5, vb, rfl, hbb, hfb⟩ := hT.ok HKL.out HNL.out
      clear hT
      obtain ⟨bs, hbs⟩ : ∃ x, x = bk key ((ctr + (k : Int)) % 4294967296) nonce := ⟨_, rfl⟩
      rw [← hbs] at hbb
      have hbl : bs.length = 64 := by rw [hbs, bk_length]
      obtain ⟨b9, o9, c9, rfl, _⟩ := hbb.nonnil (by intro e; rw [e] at hbl; simp at hbl)
      rw [hbl] at hbb ⊢
      have hc9 : 64 ≤ c9 := by obtain ⟨_, _, e, h, _⟩ := id hbb; rw [hbl] at h; injection e with _ _ e3; omega
      have HBB := hidden hbb
      have HBS := hidden hbs
      have HB5 := hidden (HBR.out.trans (hb5.mono HBR.out.size))
      have HX5 := hidden (HX.out.fresh HB5.out)
      clear hbb hbs hb5 hfb
      by_cases hend : 64 * k + 64 ≤ n
      · obtain ⟨E, hE⟩ : ∃ E, E = t + 64 := ⟨_, rfl⟩
        have hend' : ¬ (n : Int) < (E : Int) := by have := HT.out; omega
        have hE64 : (t : Int) + 64 = (E : Int) := by omega
        have HE := hidden hE
        clear hE
        go_wp2_with fail
        have hEt := HT.out
        have hE := HE.out
        have hd0 : ((E : Int) - (t : Int)) = ((E - t : Nat) : Int) := by omega
        obtain ⟨d, hd⟩ : ∃ d, d = E - t := ⟨_, rfl⟩
        rw [← hd] at hd0
        have hd1 : (d : Int) ≤ (c9 : Int) := by omega
        have hd2 : (E : Int) ≤ (xc : Int) := by omega
        have hd3 : (t : Int) ≤ (E : Int) := by omega
        have e1 : BSl w5 (.slice (some ⟨b9, o9, none⟩) d c9) (bs.take d) := BSl.head' (by rw [hbl]; exact HBB.out) (by omega)
        have e2 := HX5.out.part (i := t) (j := d) (by omega)
        have e3 : ((xorL key ctr nonce (List.replicate n 0)).drop t).take d = bs.take d := by
          rw [HT.out, HBS.out]
          exact noughts_piece key ctr nonce n k d (by omega) (by omega)
        rw [e3] at e2
        have r1 : ∀ q, (convert 22 9 (.slice (some ⟨b9, o9, none⟩) d c9)).run Try.prog (w5.drewN q) = .ok (.string ⟨(bs.take d).toArray⟩) (w5.drewN q) := fun q => run_string (e1.keep (S := fun _ => False) ((Keeps.refl _ _).drewN q) (fun _ _ h => h))
        have r2 : ∀ q, (convert 22 9 (.slice (some ⟨b, o + t, none⟩) d (xc - t))).run Try.prog (w5.drewN q) = .ok (.string ⟨(bs.take d).toArray⟩) (w5.drewN q) := fun q => run_string (e2.keep (S := fun _ => False) ((Keeps.refl _ _).drewN q) (fun _ _ h => h))
        have hd4 : E - t = d := hd.symm
        clear e1 e2 e3 hbl HBB hd hEt hE
        generalize (⟨(bs.take d).toArray⟩ : ByteArray) = S9 at r1 r2
        go_quiet (fail)
        go_wp2
        go_roundw
        case rel => exact ⟨k + 1, by omega, by have := HT.out; go_num, below_drewN HB5.out nq⟩
        case measure => have := HT.out; simp [intOf]; omega
      · have hend' : (n : Int) < (t : Int) + 64 := by have := HT.out; omega
        go_wp2_with fail
        have hEt := HT.out
        have hE : True := trivial
        have hd0 : ((n : Int) - (t : Int)) = ((n - t : Nat) : Int) := by omega
        obtain ⟨d, hd⟩ : ∃ d, d = n - t := ⟨_, rfl⟩
        rw [← hd] at hd0
        have hd1 : (d : Int) ≤ (c9 : Int) := by omega
        have hd2 : (n : Int) ≤ (xc : Int) := by omega
        have hd3 : (t : Int) ≤ (n : Int) := by omega
        have e1 : BSl w5 (.slice (some ⟨b9, o9, none⟩) d c9) (bs.take d) := BSl.head' (by rw [hbl]; exact HBB.out) (by omega)
        have e2 := HX5.out.part (i := t) (j := d) (by omega)
        have e3 : ((xorL key ctr nonce (List.replicate n 0)).drop t).take d = bs.take d := by
          rw [HT.out, HBS.out]
          exact noughts_piece key ctr nonce n k d (by omega) (by omega)
        rw [e3] at e2
        have r1 : ∀ q, (convert 22 9 (.slice (some ⟨b9, o9, none⟩) d c9)).run Try.prog (w5.drewN q) = .ok (.string ⟨(bs.take d).toArray⟩) (w5.drewN q) := fun q => run_string (e1.keep (S := fun _ => False) ((Keeps.refl _ _).drewN q) (fun _ _ h => h))
        have r2 : ∀ q, (convert 22 9 (.slice (some ⟨b, o + t, none⟩) d (xc - t))).run Try.prog (w5.drewN q) = .ok (.string ⟨(bs.take d).toArray⟩) (w5.drewN q) := fun q => run_string (e2.keep (S := fun _ => False) ((Keeps.refl _ _).drewN q) (fun _ _ h => h))
        have hd4 : n - t = d := hd.symm
        clear e1 e2 e3 hbl HBB hd hEt hE
        generalize (⟨(bs.take d).toArray⟩ : ByteArray) = S9 at r1 r2
        go_quiet (fail)
        go_wp2
        go_roundw
        case rel => exact ⟨k + 1, by omega, by have := HT.out; go_num, below_drewN HB5.out nq⟩
        case measure => have := HT.out; simp [intOf]; omega
    · have hi1 : ¬ ((64 * k : Nat) : Int) < (n : Int) := by omega
      go_wp2_with fail
      refine (known_c _).mono ?_
      rintro e w9 ⟨rfl, hb9⟩
      go_wp2
      go_ret
      have h1 := hbr.size
      have h2 := HB4.out.size
      exact ⟨rfl, (HB4.out.trans (hbr.mono h2)).trans (hb9.mono (by omega))⟩
end Go.Proofs.Ythbmagnajliabaa
