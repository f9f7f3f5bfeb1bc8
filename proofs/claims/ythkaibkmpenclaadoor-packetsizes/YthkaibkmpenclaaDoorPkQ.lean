/- The walk of the law PacketSizes. -/
import Derived.Test.YthkaibkmpenclaaDoorPkP
namespace Go.Proofs.YthkaibkmpenclaaDoor
open Go Go.RowKit

theorem sized_ne (xs : List UInt8) : sizedL xs 32 ≠ [] := by
  intro e
  have := sizedL_length xs 32
  rw [e] at this
  simp at this
set_option maxHeartbeats 1600000 in
set_option maxRecDepth 100000 in
theorem packetSizes_c (v0 v1 : Value) (z0 z1 : List UInt8) (b : Bool) (w : World) (hcl : Cl w) (h0 : BSl w v0 z0) (h1 : BSl w v1 z1) :
    Calls Tryd.prog 7 #[v0, v1, .bool b] w fun e w' => e = .returned (.bool true) ∧ Below w.heap.size w w' := by
  have HCL := hidden hcl
  have HC := hidden (cut_c 400 (by omega) v0 z0 w h0)
  have H1 := hidden h1
  clear hcl h0 h1
  go_enter Tryd.func7, Tryd.ntmps7
  go_wp2_with fail
  refine HC.out.mono ?_
  rintro e w2 ⟨vb, rfl, hb, _, hw2⟩
  subst hw2
  have hl : (z0.take 400).length ≤ 400 := by rw [List.length_take]; omega
  generalize z0.take 400 = p at hb hl
  have HB := hidden hb
  obtain ⟨ab, cb, rfl⟩ := hb.len
  obtain ⟨n, hn⟩ : ∃ n, n = p.length := ⟨_, rfl⟩
  have HN := hidden hn
  rw [← hn] at hl HB ⊢
  clear hb hn HC
  by_cases hz : n = 0
  · have hz1 : ((n : Int) == 0) = true := by simp; omega
    clear hz
    go_wp2_with fail
    refine (known_c w2 HCL.out).mono ?_
    rintro e w3 ⟨rfl, hb3⟩
    have HB3 := hidden hb3
    clear hb3
    go_wp2
    go_ret
    exact ⟨rfl, HB3.out⟩
  have hz1 : ((n : Int) == 0) = false := by simp; omega
  go_wp2_with fail
  refine (newOut_c w2).mono ?_
  rintro e w3 ⟨rfl, ho3, hb3⟩
  have HO3 := hidden ho3
  have HB3 := hidden hb3
  generalize hgo : w2.heap.size = go at HO3 ⊢
  have HGO := hidden hgo
  clear ho3 hb3 hgo
  cases b
  · go_wp2_with fail
    refine (packet_c _ p w3 HO3.out (HCL.out.fresh HB3.out) (HB.out.fresh HB3.out) (by have := HN.out; omega) (by have := HN.out; omega) (by omega)).mono ?_
    rintro e w4 ⟨v4, rfl, hrow, _, hk4⟩
    have HB4 : Hid (Below w2.heap.size w2 w4) := HB3.out.trans (hk4.below HB3.out.size (fun k e => by rw [e, HGO.out]; exact Nat.le_refl _))
    have hpl := packetL_length (key := []) (.inl rfl) 0 p
    have hpr := padP_range [] p.length
    have hpm := padP_mod [] p.length
    rw [← HN.out] at hpl hpr hpm
    obtain ⟨a4, c4, rfl⟩ := ownsRow_shape hrow
    generalize (packetL [] 0 p).length = m at hpl hrow ⊢
    generalize padP [] n = P at hpl hpr hpm
    have ht : tagN [] = 0 := rfl
    have hh : hdN [] = 4 := rfl
    rw [ht] at hpl
    rw [hh] at hpm
    have hm1 : (m : Int) ≤ 1000 := by omega
    have hq1 : ((m : Int) % 8 == 0) = true := by simp; omega
    have hq2 : (4 : Int) ≤ (m : Int) - 1 - (n : Int) - 4 := by omega
    have hq3 : (m : Int) - 1 - (n : Int) - 4 < 12 := by omega
    have HKN := hidden (known_c w4 (HCL.out.fresh HB4.out))
    clear hrow hk4 hpl hpr hpm ht hh HO3 HB3
    go_wp2_with fail
    refine HKN.out.mono ?_
    rintro e w5 ⟨rfl, hb5⟩
    have HB5 : Hid (Below w2.heap.size w2 w5) := HB4.out.trans (hb5.mono HB4.out.size)
    clear hb5
    go_wp2
    go_ret
    exact ⟨rfl, HB5.out⟩
  · go_wp2_with fail
    refine (sized_b 32 (by omega) v1 z1 w3 (H1.out.fresh HB3.out)).mono ?_
    rintro e w4 ⟨rfl, hs4, hb4⟩
    have HS4 := hidden hs4
    have HO4 := hidden (HO3.out.fresh hb4)
    have HB4 : Hid (Below w2.heap.size w2 w4) := HB3.out.trans (hb4.mono HB3.out.size)
    have HKL := hidden (sizedL_length z1 32)
    have HKE := hidden (sized_ne z1)
    generalize sizedL z1 32 = key at HS4 HKL HKE
    generalize w3.heap.size = gk at HS4 ⊢
    clear hs4 hb4 HO3 HB3
    go_wp2_with fail
    refine (outKeys_c _ key w4 HO4.out HS4.out HKL.out).mono ?_
    rintro e w5 ⟨rfl, kb5, ho5, hk5, _⟩
    have HO5 := hidden ho5
    have HB5 : Hid (Below w2.heap.size w2 w5) := HB4.out.trans (hk5.below HB4.out.size (fun k e => by rw [e, HGO.out]; exact Nat.le_refl _))
    clear ho5 hk5 HB4 HS4 HO4
    go_wp2_with fail
    refine (packet_c _ p w5 HO5.out (HCL.out.fresh HB5.out) (HB.out.fresh HB5.out) (by have := HN.out; omega) (by have := HN.out; omega) (by omega)).mono ?_
    rintro e w6 ⟨v6, rfl, hrow, _, hk6⟩
    have HB6 : Hid (Below w2.heap.size w2 w6) := HB5.out.trans (hk6.below HB5.out.size (fun k e => by rw [e, HGO.out]; exact Nat.le_refl _))
    have hpl := packetL_length (key := key) (.inr HKL.out) 0 p
    have hpr := padP_range key p.length
    have hpm := padP_mod key p.length
    rw [← HN.out] at hpl hpr hpm
    obtain ⟨a4, c4, rfl⟩ := ownsRow_shape hrow
    generalize (packetL key 0 p).length = m at hpl hrow ⊢
    generalize padP key n = P at hpl hpr hpm
    rw [tagN, if_neg HKE.out] at hpl
    rw [hdN, if_neg HKE.out] at hpm
    have hm1 : (m : Int) ≤ 1000 := by omega
    have hq1 : (((m : Int) - 20) % 8 == 0) = true := by simp; omega
    have hq0 : (20 : Int) ≤ (m : Int) := by omega
    have hq2 : (4 : Int) ≤ (m : Int) - 20 - 1 - (n : Int) := by omega
    have hq3 : (m : Int) - 20 - 1 - (n : Int) < 12 := by omega
    have HKN := hidden (known_c w6 (HCL.out.fresh HB6.out))
    clear hrow hk6 hpl hpr hpm HO5 HB5
    go_wp2_with fail
    refine HKN.out.mono ?_
    rintro e w7 ⟨rfl, hb7⟩
    have HB7 : Hid (Below w2.heap.size w2 w7) := HB6.out.trans (hb7.mono HB6.out.size)
    clear hb7
    go_wp2
    go_ret
    exact ⟨rfl, HB7.out⟩
end Go.Proofs.YthkaibkmpenclaaDoor
