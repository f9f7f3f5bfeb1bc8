/- The walk of the law ChachaTells. -/
import Derived.Test.YthbmagnajliabaaChL
namespace Go.Proofs.Ythbmagnajliabaa
open Go Go.RowKit

/-- What was told, as a string and a number. -/
theorem told_str {w w' : World} {key nonce xs : List UInt8} {e : Ending} (h : Told w key nonce xs e w') :
    Below w.heap.size w w' ∧ ∃ ao n cap c, e = .returned (.tuple #[.slice ao n cap, .int .i64 c]) ∧ c = (if okSizes key nonce then 0 else 1) ∧ BSl w' (.slice ao n cap) (if okSizes key nonce then xs else []) := by
  obtain ⟨hb, hT⟩ := h
  refine ⟨hb, ?_⟩
  rcases hT with ⟨h1, v, rfl, hbs, _⟩ | ⟨hno, rfl⟩
  · obtain ⟨ao, cap, rfl⟩ := hbs.len
    exact ⟨ao, _, cap, 0, rfl, by simp [h1], by simpa [h1] using hbs⟩
  · exact ⟨none, 0, 0, 1, rfl, by simp [hno], by simp only [hno]; exact ⟨none, 0, rfl, by simp, by simp [maxLen], fun _ => ⟨rfl, rfl⟩, (fun ad e => by cases e)⟩⟩

set_option maxHeartbeats 3200000 in
set_option maxRecDepth 100000 in
theorem chachaTells_c (v0 v1 v2 : Value) (z0 z1 z2 : List UInt8) (ctr : Int) (whole : Bool) (hc0 : 0 ≤ ctr) (hc1 : ctr < 4294967296) (w : World) (h0 : BSl w v0 z0) (h1 : BSl w v1 z1) (h2 : BSl w v2 z2) :
    Calls Try.prog 4 #[v0, v1, v2, .int .u32 ctr, .bool whole] w fun e w' => e = .returned (.bool true) ∧ Below w.heap.size w w' := by
  have HC0 := hidden hc0
  have HC1 := hidden hc1
  have HS0 := hidden (cut_c 40 (by omega) v0 z0 w h0)
  have HS1 := hidden (cut_c 20 (by omega) v1 z1 w h1)
  have HS2 := hidden (cut_c 400 (by omega) v2 z2 w h2)
  obtain ⟨a0, n0, rfl⟩ := h0.len
  obtain ⟨a1, n1, rfl⟩ := h1.len
  obtain ⟨a2, n2, rfl⟩ := h2.len
  clear h0 h1 h2 hc0 hc1
  go_enter Try.func4, Try.ntmps4
  go_wp2_with fail
  refine HS0.out.mono ?_
  rintro e w' ⟨vk, rfl, hk, _, rfl⟩
  generalize z0.take 40 = key at hk
  obtain ⟨ka, kc, rfl⟩ := hk.len
  have HK := hidden hk
  clear hk HS0
  go_wp2_with fail
  refine HS1.out.mono ?_
  rintro e w' ⟨vn, rfl, hn, _, rfl⟩
  generalize z1.take 20 = nonce at hn
  obtain ⟨na, nc, rfl⟩ := hn.len
  have HN := hidden hn
  clear hn HS1
  go_wp2_with fail
  refine HS2.out.mono ?_
  rintro e w' ⟨vb, rfl, hx, _, rfl⟩
  have hxl : (z2.take 400).length ≤ 400 := by simp; omega
  generalize z2.take 400 = xs at hx hxl
  obtain ⟨ba, bc, rfl⟩ := hx.len
  have HX := hidden hx
  clear hx HS2
  cases whole
  · have HBQ : Hid (Below w'.heap.size w' w') := Below.refl _ _
    go_wp2_with fail
    refine (roomy_c _ xs w' HX.out (by omega)).mono ?_
    rintro e w3 ⟨g, rfl, hgl, hg3, hb3⟩
    have HG3 := hidden hg3
    have HB3 := hidden (HBQ.out.trans (hb3.mono HBQ.out.size))
    have HK3 := hidden (HK.out.fresh hb3)
    have HN3 := hidden (HN.out.fresh hb3)
    have HX3 := hidden (HX.out.fresh hb3)
    clear hg3 hb3 hgl HK HN HX HBQ
    go_wp2_with fail
    refine (Block_c _ _ key nonce ctr w3 HK3.out HN3.out).mono ?_
    rintro e w4 hT
    obtain ⟨hb4, xo, xn, xc, c1, rfl, hc1, hx4⟩ := told_str hT
    have HK4 := hidden (HK3.out.fresh hb4)
    have HN4 := hidden (HN3.out.fresh hb4)
    have HX4 := hidden (HX3.out.fresh hb4)
    have HB4 := hidden (HB3.out.trans (hb4.mono HB3.out.size))
    have HG4 := hidden ((hb4.5 g (lt_of_block HG3.out)).trans HG3.out)
    have HE4 := hidden hx4
    have HC4 := hidden hc1
    clear hT hb4 hx4 hc1 HK3 HN3 HX3 HB3 HG3
    go_wp2_with fail
    refine (rBlock_c _ _ key nonce ctr w4 HK4.out HN4.out).mono ?_
    rintro e w5 hT
    obtain ⟨hb5, yo, yn, yc, c2, rfl, hc1, hx5⟩ := told_str hT
    have HK5 := hidden (HK4.out.fresh hb5)
    have HN5 := hidden (HN4.out.fresh hb5)
    have HX5 := hidden (HX4.out.fresh hb5)
    have HB5 := hidden (HB4.out.trans (hb5.mono HB4.out.size))
    have HG5 := hidden ((hb5.5 g (lt_of_block HG4.out)).trans HG4.out)
    have HE5 := hidden (HE4.out.fresh hb5)
    have HF5 := hidden hx5
    have HC5 := hidden hc1
    clear hT hb5 hx5 hc1 HK4 HN4 HX4 HB4 HG4 HE4
    have hcap : (xs.length : Int) ≤ ((xs.length + 80 : Nat) : Int) := by omega
    have HP5 := hidden (BSl.roomy HG5.out (by omega))
    go_wp2_with fail
    refine (Xor_c _ _ _ key nonce xs ctr HC0.out HC1.out (by omega) w5 HK5.out HN5.out HP5.out).mono ?_
    rintro e w6 hT
    obtain ⟨hb6, po, pn, pc, c3, rfl, hc1, hx6⟩ := told_str hT
    have HK6 := hidden (HK5.out.fresh hb6)
    have HN6 := hidden (HN5.out.fresh hb6)
    have HX6 := hidden (HX5.out.fresh hb6)
    have HB6 := hidden (HB5.out.trans (hb6.mono HB5.out.size))
    have HG6 := hidden ((hb6.5 g (lt_of_block HG5.out)).trans HG5.out)
    have HE6 := hidden (HE5.out.fresh hb6)
    have HF6 := hidden (HF5.out.fresh hb6)
    have HH6 := hidden hx6
    have HC6 := hidden hc1
    clear hT hb6 hx6 hc1 HK5 HN5 HX5 HB5 HG5 HE5 HF5 HP5
    go_wp2_with fail
    refine (rXor_c _ _ _ key nonce xs ctr HC0.out HC1.out (by omega) w6 HK6.out HN6.out HX6.out).mono ?_
    rintro e w7 hT
    obtain ⟨hb7, qo, qn, qc, c4, rfl, hc1, hx7⟩ := told_str hT
    have HX7 := hidden (HX6.out.fresh hb7)
    have HB7 := hidden (HB6.out.trans (hb7.mono HB6.out.size))
    have HG7 := hidden ((hb7.5 g (lt_of_block HG6.out)).trans HG6.out)
    have e1 := HE6.out.fresh hb7
    have e2 := HF6.out.fresh hb7
    have e3 := HH6.out.fresh hb7
    obtain rfl : c2 = c1 := by rw [HC5.out, HC4.out]
    obtain rfl : c4 = c3 := by rw [hc1, HC6.out]
    clear hT hb7 HK6 HN6 HX6 HB6 HG6 HE6 HF6 HH6 HC4 HC5 HC6 hc1
    generalize (if okSizes key nonce then bk key ctr nonce else []) = A1 at e1 e2
    generalize (if okSizes key nonce then xorL key ctr nonce xs else []) = A2 at e3 hx7
    have r1 := run_string e1
    have r2 := run_string e2
    have r3 := run_string e3
    have r4 := run_string hx7
    clear e1 e2 e3 hx7
    go_wp2_with fail
    refine (intact_c g _ xs w7 (by omega) HG7.out HX7.out).mono ?_
    rintro e w8 ⟨rfl, hk8⟩
    have HK8 := hidden hk8
    clear hk8 r1 r2 r3 r4
    go_wp2_with fail
    refine (known_c _).mono ?_
    rintro e w9 ⟨rfl, hb9⟩
    go_wp2
    go_ret
    have s7 := HB7.out.size
    have s8 := HK8.out.size
    exact ⟨rfl, (HB7.out.trans (HK8.out.below (B := _) s7 (fun _ h => h.elim))).trans (hb9.mono (by omega))⟩
  · go_wp2_with fail
    refine (sized_b 32 (by omega) _ key w' HK.out).mono ?_
    rintro e w1 ⟨rfl, hk, hb1⟩
    generalize sizedL key 32 = key at hk
    have HN1 := hidden (HN.out.fresh hb1)
    have HX1 := hidden (HX.out.fresh hb1)
    have HK1 := hidden hk
    have HB1 := hidden hb1
    clear hk hb1 HK HN HX
    go_wp2_with fail
    refine (sized_b 12 (by omega) _ nonce w1 HN1.out).mono ?_
    rintro e w2 ⟨rfl, hn, hb2⟩
    generalize sizedL nonce 12 = nonce at hn
    have HN := hidden hn
    have HX := hidden (HX1.out.fresh hb2)
    have HK := hidden (HK1.out.fresh hb2)
    have HBQ := hidden (HB1.out.trans (hb2.mono HB1.out.size))
    clear hn hb2 HK1 HN1 HX1 HB1
    go_wp2_with fail
    refine (roomy_c _ xs w2 HX.out (by omega)).mono ?_
    rintro e w3 ⟨g, rfl, hgl, hg3, hb3⟩
    have HG3 := hidden hg3
    have HB3 := hidden (HBQ.out.trans (hb3.mono HBQ.out.size))
    have HK3 := hidden (HK.out.fresh hb3)
    have HN3 := hidden (HN.out.fresh hb3)
    have HX3 := hidden (HX.out.fresh hb3)
    clear hg3 hb3 hgl HK HN HX HBQ
    go_wp2_with fail
    refine (Block_c _ _ key nonce ctr w3 HK3.out HN3.out).mono ?_
    rintro e w4 hT
    obtain ⟨hb4, xo, xn, xc, c1, rfl, hc1, hx4⟩ := told_str hT
    have HK4 := hidden (HK3.out.fresh hb4)
    have HN4 := hidden (HN3.out.fresh hb4)
    have HX4 := hidden (HX3.out.fresh hb4)
    have HB4 := hidden (HB3.out.trans (hb4.mono HB3.out.size))
    have HG4 := hidden ((hb4.5 g (lt_of_block HG3.out)).trans HG3.out)
    have HE4 := hidden hx4
    have HC4 := hidden hc1
    clear hT hb4 hx4 hc1 HK3 HN3 HX3 HB3 HG3
    go_wp2_with fail
    refine (rBlock_c _ _ key nonce ctr w4 HK4.out HN4.out).mono ?_
    rintro e w5 hT
    obtain ⟨hb5, yo, yn, yc, c2, rfl, hc1, hx5⟩ := told_str hT
    have HK5 := hidden (HK4.out.fresh hb5)
    have HN5 := hidden (HN4.out.fresh hb5)
    have HX5 := hidden (HX4.out.fresh hb5)
    have HB5 := hidden (HB4.out.trans (hb5.mono HB4.out.size))
    have HG5 := hidden ((hb5.5 g (lt_of_block HG4.out)).trans HG4.out)
    have HE5 := hidden (HE4.out.fresh hb5)
    have HF5 := hidden hx5
    have HC5 := hidden hc1
    clear hT hb5 hx5 hc1 HK4 HN4 HX4 HB4 HG4 HE4
    have hcap : (xs.length : Int) ≤ ((xs.length + 80 : Nat) : Int) := by omega
    have HP5 := hidden (BSl.roomy HG5.out (by omega))
    go_wp2_with fail
    refine (Xor_c _ _ _ key nonce xs ctr HC0.out HC1.out (by omega) w5 HK5.out HN5.out HP5.out).mono ?_
    rintro e w6 hT
    obtain ⟨hb6, po, pn, pc, c3, rfl, hc1, hx6⟩ := told_str hT
    have HK6 := hidden (HK5.out.fresh hb6)
    have HN6 := hidden (HN5.out.fresh hb6)
    have HX6 := hidden (HX5.out.fresh hb6)
    have HB6 := hidden (HB5.out.trans (hb6.mono HB5.out.size))
    have HG6 := hidden ((hb6.5 g (lt_of_block HG5.out)).trans HG5.out)
    have HE6 := hidden (HE5.out.fresh hb6)
    have HF6 := hidden (HF5.out.fresh hb6)
    have HH6 := hidden hx6
    have HC6 := hidden hc1
    clear hT hb6 hx6 hc1 HK5 HN5 HX5 HB5 HG5 HE5 HF5 HP5
    go_wp2_with fail
    refine (rXor_c _ _ _ key nonce xs ctr HC0.out HC1.out (by omega) w6 HK6.out HN6.out HX6.out).mono ?_
    rintro e w7 hT
    obtain ⟨hb7, qo, qn, qc, c4, rfl, hc1, hx7⟩ := told_str hT
    have HX7 := hidden (HX6.out.fresh hb7)
    have HB7 := hidden (HB6.out.trans (hb7.mono HB6.out.size))
    have HG7 := hidden ((hb7.5 g (lt_of_block HG6.out)).trans HG6.out)
    have e1 := HE6.out.fresh hb7
    have e2 := HF6.out.fresh hb7
    have e3 := HH6.out.fresh hb7
    obtain rfl : c2 = c1 := by rw [HC5.out, HC4.out]
    obtain rfl : c4 = c3 := by rw [hc1, HC6.out]
    clear hT hb7 HK6 HN6 HX6 HB6 HG6 HE6 HF6 HH6 HC4 HC5 HC6 hc1
    generalize (if okSizes key nonce then bk key ctr nonce else []) = A1 at e1 e2
    generalize (if okSizes key nonce then xorL key ctr nonce xs else []) = A2 at e3 hx7
    have r1 := run_string e1
    have r2 := run_string e2
    have r3 := run_string e3
    have r4 := run_string hx7
    clear e1 e2 e3 hx7
    go_wp2_with fail
    refine (intact_c g _ xs w7 (by omega) HG7.out HX7.out).mono ?_
    rintro e w8 ⟨rfl, hk8⟩
    have HK8 := hidden hk8
    clear hk8 r1 r2 r3 r4
    go_wp2_with fail
    refine (known_c _).mono ?_
    rintro e w9 ⟨rfl, hb9⟩
    go_wp2
    go_ret
    have s7 := HB7.out.size
    have s8 := HK8.out.size
    exact ⟨rfl, (HB7.out.trans (HK8.out.below (B := _) s7 (fun _ h => h.elim))).trans (hb9.mono (by omega))⟩
end Go.Proofs.Ythbmagnajliabaa
