/- The walk of the law ChachaSame. -/
import Derived.Test.YthbmagnajliabaaChK
namespace Go.Proofs.Ythbmagnajliabaa
open Go Go.RowKit

theorem ok_of {key nonce : List UInt8} (hk : key.length = 32) (hn : nonce.length = 12) : okSizes key nonce = true := by simp [okSizes, hk, hn]
theorem Told.ok {w w' : World} {key nonce xs : List UInt8} {e : Ending} (h : Told w key nonce xs e w') (hk : key.length = 32) (hn : nonce.length = 12) : Below w.heap.size w w' ∧ ∃ v, e = .returned (.tuple #[v, .int .i64 0]) ∧ BSl w' v xs ∧ ∀ g, v.ownBlock = some g → w.heap.size ≤ g ∧ g < w'.heap.size := by
  obtain ⟨hb, hT⟩ := h
  rcases hT with ⟨_, h⟩ | ⟨hno, _⟩
  · exact ⟨hb, h⟩
  · exact absurd (ok_of hk hn) (by rw [hno]; simp)
theorem xorL_length (key : List UInt8) (ctr : Int) (nonce ys : List UInt8) : (xorL key ctr nonce ys).length = ys.length := xorTo_length _ _ _ _ _
theorem xorL_getD (key : List UInt8) (ctr : Int) (nonce ys : List UInt8) (i : Nat) (hi : i < ys.length) : (xorL key ctr nonce ys).getD i 0 = xb key ctr nonce ys i := by
  simp [xorL, xorTo, hi]
theorem xb_xor (key : List UInt8) (ctr : Int) (nonce xs ys : List UInt8) (i : Nat) : xb key ctr nonce xs i ^^^ xb key ctr nonce ys i = xs.getD i 0 ^^^ ys.getD i 0 := by
  unfold xb
  generalize (bk key ((ctr + ((i / 64 : Nat) : Int)) % 4294967296) nonce).getD (i % 64) 0 = k
  rw [UInt8.xor_assoc, UInt8.xor_comm k, UInt8.xor_assoc, UInt8.xor_self, UInt8.xor_zero]

set_option maxHeartbeats 1600000 in
set_option maxRecDepth 100000 in
theorem chachaSame_c (v0 v1 v2 v3 : Value) (z0 z1 z2 z3 : List UInt8) (ctr : Int) (hc0 : 0 ≤ ctr) (hc1 : ctr < 4294967296) (w : World) (h0 : BSl w v0 z0) (h1 : BSl w v1 z1) (h2 : BSl w v2 z2) (h3 : BSl w v3 z3) :
    Calls Try.prog 7 #[v0, v1, v2, v3, .int .u32 ctr] w fun e w' => e = .returned (.bool true) ∧ Below w.heap.size w w' := by
  have HC0 := hidden hc0
  have HC1 := hidden hc1
  have H1 := hidden h1
  have H2 := hidden h2
  have H3 := hidden h3
  have HS0 := hidden (sized_b 32 (by omega) v0 z0 w h0)
  obtain ⟨a0, n0, rfl⟩ := h0.len
  obtain ⟨a1, n1, rfl⟩ := h1.len
  obtain ⟨a2, n2, rfl⟩ := h2.len
  obtain ⟨a3, n3, rfl⟩ := h3.len
  clear h0 h1 h2 h3 hc0 hc1
  go_enter Try.func7, Try.ntmps7
  go_wp2_with fail
  refine HS0.out.mono ?_
  rintro e w1 ⟨rfl, hk, hb1⟩
  have hkl := sizedL_length z0 32
  generalize sizedL z0 32 = key at hk hkl
  have HK := hidden hk
  have HKL := hidden hkl
  have HB1 := hidden hb1
  clear HS0 hk hkl hb1
  go_wp2_with fail
  refine (sized_b 12 (by omega) _ z1 w1 (H1.out.fresh HB1.out)).mono ?_
  rintro e w2 ⟨rfl, hn, hb2⟩
  have hnl := sizedL_length z1 12
  generalize sizedL z1 12 = nonce at hn hnl
  have HN := hidden hn
  have HNL := hidden hnl
  have HB2 := hidden (HB1.out.trans (hb2.mono HB1.out.size))
  have HK2 := hidden (HK.out.fresh hb2)
  clear hn hnl hb2 HB1 HK H1
  go_wp2_with fail
  refine (cut_c 300 (by omega) _ z2 w2 (H2.out.fresh HB2.out)).mono ?_
  rintro e w2' ⟨va, rfl, ha, _, rfl⟩
  have hal : (z2.take 300).length ≤ 300 := by simp; omega
  generalize z2.take 300 = xs at ha hal
  obtain ⟨ao, ac, rfl⟩ := ha.len
  have HA := hidden ha
  clear ha H2
  go_wp2_with fail
  refine (sized_b xs.length (by omega) _ z3 w2' (H3.out.fresh HB2.out)).mono ?_
  rintro e w3 ⟨rfl, hy, hb3⟩
  have hyl := sizedL_length z3 xs.length
  generalize sizedL z3 xs.length = ys at hy hyl
  have HY := hidden hy
  have HYL := hidden hyl
  have HB3 := hidden (HB2.out.trans (hb3.mono HB2.out.size))
  have HK3 := hidden (HK2.out.fresh hb3)
  have HN3 := hidden (HN.out.fresh hb3)
  have HA3 := hidden (HA.out.fresh hb3)
  clear hy hyl hb3 HK2 HN HA H3
  go_wp2_with fail
  refine (Xor_c _ _ _ key nonce xs ctr HC0.out HC1.out (by omega) w3 HK3.out HN3.out HA3.out).mono ?_
  rintro e w4 hT
  obtain ⟨hb4, vx, rfl, hx, hfx⟩ := hT.ok HKL.out HNL.out
  clear hT
  have hxl := xorL_length key ctr nonce xs
  obtain ⟨xo, xc, rfl⟩ := hx.len
  rw [hxl] at hx ⊢
  have HX := hidden hx
  have HB4 := hidden (HB3.out.trans (hb4.mono HB3.out.size))
  have HK4 := hidden (HK3.out.fresh hb4)
  have HN4 := hidden (HN3.out.fresh hb4)
  have HA4 := hidden (HA3.out.fresh hb4)
  have HY4 := hidden (HY.out.fresh hb4)
  clear hx hfx hb4 hxl HK3 HN3 HA3 HY
  go_wp2_with fail
  refine (Xor_c _ _ _ key nonce ys ctr HC0.out HC1.out (by have := HYL.out; omega) w4 HK4.out HN4.out HY4.out).mono ?_
  rintro e w5 hT
  obtain ⟨hb5, vy, rfl, hz, hfz⟩ := hT.ok HKL.out HNL.out
  clear hT
  have hzl := xorL_length key ctr nonce ys
  obtain ⟨yo, yc, rfl⟩ := hz.len
  rw [hzl, HYL.out] at hz ⊢
  have HZ := hidden hz
  have HB5 := hidden (HB4.out.trans (hb5.mono HB4.out.size))
  have HA5 := hidden (HA4.out.fresh hb5)
  have HY5 := hidden (HY4.out.fresh hb5)
  have HX5 := hidden (HX.out.fresh hb5)
  clear hz hfz hb5 hzl HA4 HY4 HX HK4 HN4 HB4 HB3 HB2
  go_wp2_with fail
  go_loopw [15] (fun i wr => ∃ k : Nat, k ≤ xs.length ∧ i = .int .i64 k ∧ Keeps (fun _ => False) w5 wr) (fun i _ => xs.length - (intOf i).toNat)
  case atStart => exact ⟨0, Nat.zero_le _, rfl, Keeps.refl _ _⟩
  case round =>
    obtain ⟨k, hk, rfl, hkp⟩ := hrel
    by_cases hlt : k < xs.length
    · have hne : xs ≠ [] := by rintro rfl; simp at hlt
      have hyn := HYL.out
      have hxx := xorL_length key ctr nonce xs
      have hyy := xorL_length key ctr nonce ys
      have ba := HA5.out.keep hkp (fun _ _ h => h)
      have by' := HY5.out.keep hkp (fun _ _ h => h)
      have bx := HX5.out.keep hkp (fun _ _ h => h)
      have bz := HZ.out.keep hkp (fun _ _ h => h)
      obtain ⟨b1, o1, rfl⟩ := ba.addr hne
      obtain ⟨b2, o2, rfl⟩ := bx.addr (by intro e; rw [e] at hxx; simp at hxx; omega)
      obtain ⟨b3, o3, rfl⟩ := bz.addr (by intro e; rw [e] at hyy; simp at hyy; omega)
      have c1 := ba.cellD k hlt
      have c2 := by'.cellD k (by omega)
      rw [Nat.zero_add] at c2
      have c3 := bx.cellD k (by omega)
      have c4 := bz.cellD k (by omega)
      rw [xorL_getD _ _ _ _ _ (by omega)] at c3 c4
      have hi1 : (k : Int) < (xs.length : Int) := by omega
      have hq : bits BinOp.xor IntKind.u8 ((xb key ctr nonce xs k).toNat : Int) ((xb key ctr nonce ys k).toNat : Int) = bits BinOp.xor IntKind.u8 ((xs.getD k 0).toNat : Int) ((ys.getD k 0).toNat : Int) := by rw [xbyte, xbyte, xb_xor]
      generalize (xb key ctr nonce xs k).toNat = q1 at hq c3
      generalize (xb key ctr nonce ys k).toNat = q2 at hq c4
      generalize (xs.getD k 0).toNat = q3 at hq c1
      generalize (ys.getD k 0).toNat = q4 at hq c2
      clear ba by' bx bz hyn hxx hyy hne
      go_wp2_with fail
      go_quiet (fail)
      go_wp2
      go_roundw
      case rel => exact ⟨k + 1, by omega, by go_num, hkp.drewN nq⟩
      case measure => simp [intOf]; omega
    · have hi1 : ¬ (k : Int) < (xs.length : Int) := by omega
      go_wp2_with fail
      refine (known_c _).mono ?_
      rintro e w9 ⟨rfl, hb9⟩
      go_wp2
      go_ret
      have h1 := hkp.size
      exact ⟨rfl, (HB5.out.trans (hkp.below (B := w.heap.size) HB5.out.size (fun _ h => h.elim))).trans (hb9.mono (by have := HB5.out.size; omega))⟩
end Go.Proofs.Ythbmagnajliabaa
