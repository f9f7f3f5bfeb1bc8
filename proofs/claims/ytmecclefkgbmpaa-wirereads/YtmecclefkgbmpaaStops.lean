/- The walk of the law WireStops. -/
import Derived.Test.YtmecclefkgbmpaaGet
import Derived.Test.YtmecclefkgbmpaaWrites
namespace Go.Proofs.Ytmecclefkgbmpaa
open Go Go.RowKit

theorem BSl.head' {w : World} {ao : Option Addr} {cap n : Nat} {bs : List UInt8} (h : BSl w (.slice ao bs.length cap) bs) (hn : n ≤ bs.length) : BSl w (.slice ao n cap) (bs.take n) := by
  obtain ⟨ao, cap, e, h1, h2, h3, hc⟩ := h
  cases e
  have hlen : (bs.take n).length = n := by simp; omega
  refine ⟨ao, cap, by rw [hlen], by rw [hlen]; omega, h2, fun e => ⟨by rw [(h3 e).1]; simp, (h3 e).2⟩, fun ad had hne => ?_⟩
  obtain ⟨b, off, rfl, hcell⟩ := hc ad had (by rintro rfl; simp at hne)
  refine ⟨b, off, rfl, fun j u hu => hcell j u ?_⟩
  have hj : j < n := by have := (List.getElem?_eq_some_iff.1 hu).1; rw [bcells_length, hlen] at this; exact this
  simp only [bcells, List.getElem?_map, List.getElem?_take, hj, if_true] at hu ⊢
  exact hu

set_option maxHeartbeats 400000 in
theorem cut_c (v : Value) (xs : List UInt8) (w : World) (hv : BSl w v xs) :
    Calls Try.prog 22 #[v, .int .i64 300] w fun e w' => ∃ v', e = .returned v' ∧ BSl w v' (xs.take 300) ∧ v'.ownBlock = v.ownBlock ∧ w' = w := by
  have HV : Hid (BSl w v xs) := hv
  obtain ⟨ao, cap, rfl, hc1, hc2, _⟩ := hv
  unfold maxLen at hc2
  by_cases h : 300 < xs.length
  · have h1 : (300 : Int) < (xs.length : Int) := by omega
    have h2 : (300 : Int) ≤ (cap : Int) := by omega
    go_enter Try.func22, Try.ntmps22
    go_wp2
    go_ret
    exact ⟨_, rfl, HV.out.head' (by omega), ownBlock_any _ _ _ _ _, rfl⟩
  · have h1 : ¬ (300 : Int) < (xs.length : Int) := by omega
    have HT : Hid (xs.take 300 = xs) := List.take_of_length_le (by omega)
    go_enter Try.func22, Try.ntmps22
    go_wp2
    go_ret
    exact ⟨_, rfl, by rw [HT.out]; exact HV.out, rfl, rfl⟩

theorem keeps_below {w w' : World} {a c base : Nat} (hk : Keeps (fun k => k = a ∨ k = c) w w') (hl : a < w.heap.size) (ha : base ≤ a) (hc : base ≤ c) : Below base w w' :=
  hk.below (Nat.le_trans ha (Nat.le_of_lt hl)) fun _ e => e.elim (fun e => e ▸ ha) (fun e => e ▸ hc)

set_option maxHeartbeats 400000 in
theorem newReader_d (v : Value) (xs : List UInt8) (w : World) (hv : BSl w v xs) (hl : xs.length ≤ 1000000000000) :
    Calls Try.prog 9 #[v] w fun e w' => ∃ a g, e = .returned (.pointer (some ⟨a, 0, none⟩)) ∧ WR w' a g xs 0 0 ∧ w.heap.size ≤ a ∧ (∀ k, g = some k → w.heap.size ≤ k ∧ k < w'.heap.size) ∧ Below w.heap.size w w' := by
  go_enter Try.func9, Try.ntmps9
  go_wp2_with fail
  refine (clone_c v xs _ hv (by omega)).mono ?_
  rintro e w1 ⟨v1, rfl, ho1, hb1⟩
  obtain ⟨ao, cp, rfl⟩ := ownsRow_shape ho1
  have hs := hb1.size
  go_wp2
  go_ret
  refine ⟨w1.heap.size, (Value.slice ao xs.length cp).ownBlock, rfl, ⟨_, heap_alloc_new w1 _, (BSl.ofRow ho1).alloc _, rfl, fun e => ?_, by omega, hl⟩, hs, fun k hk => ⟨(ho1.lt k hk).1, by have := (ho1.lt k hk).2; simp; omega⟩, hb1.alloc hs _⟩
  have := (ho1.lt _ e).2
  omega

set_option maxHeartbeats 1600000 in
set_option maxRecDepth 100000 in
theorem wireStops_c (vb : Value) (xs : List UInt8) (v : Value) (ps : List PartD) (w : World) (hb : BSl w vb xs) (hv : PSl w v ps) :
    Calls Try.prog 7 #[vb, v] w fun e w' => e = .returned (.bool true) ∧ Below w.heap.size w w' := by
  have HV : Hid (PSl w v ps) := hv
  obtain ⟨ao, cap, rfl, hc1, hc2, hc3, hc4, hc5⟩ := hv
  unfold maxLen at hc2
  clear hc3 hc4 hc5
  go_enter Try.func7, Try.ntmps7
  go_wp2_with fail
  refine (cut_c vb xs _ hb).mono ?_
  rintro e w0 ⟨v0, rfl, hb0, hob, rfl⟩
  have hlen : (xs.take 300).length ≤ 300 := by simp; omega
  generalize xs.take 300 = bs at hb0 hlen
  obtain ⟨bo, bc, rfl, _⟩ := id hb0
  clear hob hb
  go_wp2_with fail
  refine (newReader_d _ bs _ hb0 (by omega)).mono ?_
  rintro e w1 ⟨a, g, rfl, hr1, ha, hg, hb1⟩
  have HB1 : Hid (Below w0.heap.size w0 w1) := hb1
  have HA : Hid (w0.heap.size ≤ a) := ha
  have HGG : Hid (∀ k, g = some k → w0.heap.size ≤ k ∧ k < w1.heap.size) := hg
  clear hb1 ha hg hb0
  go_wp2_with fail
  refine (raw_r (bs.length : Int) (by omega) (by omega) _ hr1).mono ?_
  rintro e w2 ⟨v2, rfl, _, _, ht2⟩
  rw [Int.toNat_natCast, show tk bs 0 0 bs.length = (bs, bs.length, 0) from by simp [tk]] at ht2
  go_wp2_with fail
  refine (u32_r _ ht2.state).mono ?_
  rintro e w3 ⟨rfl, ht3⟩
  rw [show tk bs bs.length 0 4 = ([], bs.length, 10) from by simp [tk]] at ht3 ⊢
  have HT : Hid (Took a g bs bs.length 10 w1 w3) := ht2.trans ht3
  clear ht2 ht3 hr1
  go_wp2_with fail
  refine (end_r _ HT.out.state).mono ?_
  rintro e w4 ⟨rfl, hk4⟩
  rw [show ends bs bs.length 10 = (10, bs.length) from by simp [ends]]
  have HS4 : Hid (WR w4 a g bs bs.length 10) := HT.out.state.same hk4
  have HB4 : Hid (Below w0.heap.size w0 w4) := (HB1.out.trans (HT.out.keeps.below HB1.out.size fun _ e => e ▸ HA.out)).trans (hk4.below (Nat.le_trans HB1.out.size HT.out.keeps.size) fun _ h => h.elim)
  have HG4 : Hid (∀ k, g = some k → k < w4.heap.size) := fun k hk => Nat.lt_of_lt_of_le (HGG.out k hk).2 (Nat.le_trans HT.out.keeps.size hk4.size)
  clear HT HB1 hk4 HGG
  go_wp2_with fail
  have HBO : Hid (Both (w4.alloc (.cells #[.slice none 0 0, .int .i64 0, .bool true, .int .i64 10, .int .i64 bs.length] 30)) a g w4.heap.size none bs [] bs.length 10) := by
    refine ⟨HS4.out.same ((Keeps.refl _ _).alloc _), ⟨_, 0, true, 10, bs.length, heap_alloc_new w4 _, bsl_none _, rfl, by simp, by simp, by simp, .inr ⟨rfl, by omega, rfl, rfl⟩⟩, Nat.ne_of_lt HS4.out.lt, fun e => ?_, by simp, fun e => by omega⟩
    have := HG4.out _ e
    omega
  have HBL : Hid (Below w0.heap.size w0 (w4.alloc (.cells #[.slice none 0 0, .int .i64 0, .bool true, .int .i64 10, .int .i64 bs.length] 30))) := HB4.out.alloc HB4.out.size _
  have HCC : Hid (w0.heap.size ≤ w4.heap.size) := HB4.out.size
  generalize hc : w4.heap.size = c at *
  generalize w4.alloc (.cells #[.slice none 0 0, .int .i64 0, .bool true, .int .i64 10, .int .i64 bs.length] 30) = wl at *
  clear HS4 HB4 HG4 hc
  go_loopw [9] (fun i wr => ∃ k : Nat, k ≤ ps.length ∧ k ≤ 30 ∧ i = .int .i64 k ∧ Both wr a g c none bs [] bs.length 10 ∧ Below w0.heap.size w0 wr) (fun i _ => ps.length - (intOf i).toNat)
  case atStart => exact ⟨0, Nat.zero_le _, by omega, rfl, HBO.out, HBL.out⟩
  case round =>
    clear HBO HBL
    obtain ⟨k, hk, hk30, rfl, hbo, hb⟩ := hrel
    have HBO : Hid (Both wr a g c none bs [] bs.length 10) := hbo
    have HB : Hid (Below w0.heap.size w0 wr) := hb
    clear hbo hb
    by_cases hlt : k < ps.length
    · by_cases hlt8 : k < 30
      · obtain ⟨b, off, rfl, c0, c1, c2, c3, hn0, hn1, hss⟩ := (HV.out.fresh HB.out).at k hlt
        obtain ⟨pk, hpk⟩ : ∃ p, p = ps[k] := ⟨_, rfl⟩
        rw [← hpk] at c0 c1 c2 c3 hn0 hn1 hss
        clear hpk
        obtain ⟨kk, n, s, l, ss⟩ := pk
        simp only at c0 c1 c2 c3 hn0 hn1 hss
        obtain ⟨lo, lc, rfl, _⟩ := id hss
        have h30 : (k : Int) < 30 := by omega
        clear hn0 hn1 hss
        go_wp2_with fail
        refine (get_c kk HBO.out).mono ?_
        rintro e w5 ⟨rfl, p1, y1, hbo, hkp, hst⟩
        obtain ⟨rfl, rfl⟩ := hst (by omega)
        have HBO2 : Hid (Both w5 a g c none bs [] bs.length 10) := hbo
        have HB2 : Hid (Below w0.heap.size w0 w5) := HB.out.trans (keeps_below hkp HBO.out.one.lt HA.out HCC.out)
        clear hbo hkp HB HBO c0 c1 c2 c3
        go_wp2
        go_roundw
        case rel => exact ⟨k + 1, by omega, by omega, by go_num, HBO2.out, HB2.out⟩
        case measure => simp [intOf]; omega
      · have h30 : ¬ (k : Int) < 30 := by omega
        go_wp2_with fail
        refine (end_r _ HBO.out.one).mono ?_
        rintro e w5 ⟨rfl, hk5⟩
        rw [show ends bs bs.length 10 = (10, bs.length) from by simp [ends]]
        go_wp2_with fail
        refine (left_c _ (HBO.out.one.same hk5)).mono ?_
        rintro e w6 ⟨rfl, hk6⟩
        rw [show lft bs bs.length 10 = 0 from by simp [lft]]
        go_wp2_with fail
        refine (known_c _).mono ?_
        rintro e w7 ⟨rfl, hb7⟩
        have HB7 : Hid (Below w0.heap.size w0 w7) := ((HB.out.trans (hk5.below HB.out.size fun _ h => h.elim)).trans (hk6.below (Nat.le_trans HB.out.size hk5.size) fun _ h => h.elim)).trans (hb7.mono (Nat.le_trans HB.out.size (Nat.le_trans hk5.size hk6.size)))
        go_wp2
        go_ret
        exact ⟨rfl, HB7.out⟩
    · go_wp2_with fail
      refine (end_r _ HBO.out.one).mono ?_
      rintro e w5 ⟨rfl, hk5⟩
      rw [show ends bs bs.length 10 = (10, bs.length) from by simp [ends]]
      go_wp2_with fail
      refine (left_c _ (HBO.out.one.same hk5)).mono ?_
      rintro e w6 ⟨rfl, hk6⟩
      rw [show lft bs bs.length 10 = 0 from by simp [lft]]
      go_wp2_with fail
      refine (known_c _).mono ?_
      rintro e w7 ⟨rfl, hb7⟩
      have HB7 : Hid (Below w0.heap.size w0 w7) := ((HB.out.trans (hk5.below HB.out.size fun _ h => h.elim)).trans (hk6.below (Nat.le_trans HB.out.size hk5.size) fun _ h => h.elim)).trans (hb7.mono (Nat.le_trans HB.out.size (Nat.le_trans hk5.size hk6.size)))
      go_wp2
      go_ret
      exact ⟨rfl, HB7.out⟩

end Go.Proofs.Ytmecclefkgbmpaa
