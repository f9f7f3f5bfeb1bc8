/- The walk of the law WireReads. -/
import Derived.Test.YtmecclefkgbmpaaRooms
import Derived.OpenShut
namespace Go.Proofs.Ytmecclefkgbmpaa
open Go Go.RowKit

theorem xor_byte (x : UInt8) (t : Int) : ∃ y : UInt8, bits BinOp.xor IntKind.u8 (x.toNat : Int) t = (y.toNat : Int) := by
  have h := bounds_u8 (wf_bits BinOp.xor IntKind.u8 (x.toNat : Int) t)
  refine ⟨UInt8.ofNat (bits BinOp.xor IntKind.u8 (x.toNat : Int) t).toNat, ?_⟩
  simp
  omega

theorem hid_intro {p : Prop} (h : p) : Hid p := h

theorem row_set {w : World} {base : Nat} {v : Value} {n : Nat} {xs : List Value} (h : w.ownsRow base 5 1 v n xs) (k : Nat) (hk : k < n) :
    ∃ g cap, v = .slice (some ⟨g, 0, none⟩) n cap ∧ base ≤ g ∧ w.cell? ⟨g, k, none⟩ = xs[k]? ∧ (∀ j, w.frozen? ⟨g, j, none⟩ = false) ∧ ∀ u, (w.setCell ⟨g, k, none⟩ u).ownsRow base 5 1 v n (xs.set k u) := by
  obtain ⟨hl, h | ⟨g, cap, cur, h1, h2, h3, h4, h5, h6, h7⟩⟩ := h
  · omega
  · refine ⟨g, cap, h1, h2, ?_, frozen_row h3, fun u => ⟨by simpa using hl, .inr ⟨g, cap, _, h1, h2, heap_setCell_same _ _ _ _ _ _ h3, h4, h5, by simpa using h6, ?_⟩⟩⟩
    · rw [← h7, List.getElem?_take, if_pos (by omega)]
      simp [World.cell?, h3]
    · rw [← h7]
      simp [List.take_set]

theorem room_head {w : World} {g : Nat} {xs : List UInt8} (hg : w.heap[g]? = some (.cells (bcells (xs ++ List.replicate 80 165)).toArray 5 (0, 0))) (hl : xs.length ≤ 1000000000) : BSl w (.slice (some ⟨g, 0, none⟩) xs.length (xs.length + 80)) xs := by
  refine ⟨_, _, rfl, by omega, by unfold maxLen; omega, (fun e => by cases e), fun ad e _ => ⟨g, 0, by cases e; rfl, fun j u hu => ?_⟩⟩
  rw [Nat.zero_add, cell_row hg, bcells_append, List.getElem?_append_left (List.getElem?_eq_some_iff.1 hu).1]
  exact hu

set_option maxHeartbeats 6400000 in
set_option maxRecDepth 100000 in
theorem wireReads_c (vb : Value) (xs : List UInt8) (v : Value) (ps : List PartD) (va : Value) (qs : List PartD) (at_ turn : Int) (w : World) (hbs0 : BSl w vb xs) (hv : PSl w v ps) (hq : PSl w va qs) :
    Calls Try.prog 5 #[vb, v, va, .int .i64 at_, .int .u8 turn] w fun e w' => e = .returned (.bool true) ∧ Below w.heap.size w w' := by
  obtain ⟨i0, hi, hz0, hz1, hz2⟩ := info_parts Try.infoU8
  have HXS : Hid (BSl w vb xs) := hbs0
  have HV : Hid (PSl w v ps) := hv
  have HQ : Hid (PSl w va qs) := hq
  obtain ⟨ao, cap, rfl, hc1, hc2, _⟩ := hv
  obtain ⟨qo, qc, rfl, hc3, hc4, _⟩ := hq
  obtain ⟨bo, bc, rfl, _⟩ := hbs0
  unfold maxLen at hc2 hc4
  go_enter Try.func5, Try.ntmps5
  go_wp2_with fail
  refine (newWriter_c _).mono ?_
  rintro e w1 ⟨rfl, rfl⟩
  have hw1 := WS.new w (Nat.le_refl _)
  have hb1 : Below w.heap.size w (w.alloc (.cells #[.slice none 0 0] 80)) := (Below.refl _ _).alloc (Nat.le_refl _) _
  generalize w.alloc (.cells #[.slice none 0 0] 80) = w1 at hw1 hb1 ⊢
  go_wp2_with fail
  go_loopw [12, 13] (fun b i wr => ∃ (k : Nat) (bs : List UInt8) (g : Option Nat), k ≤ ps.length ∧ k ≤ 20 ∧ i = .int .i64 k ∧ bs.length ≤ k * 11000 ∧ WS wr w.heap.size w.heap.size g bs ∧ wr.ownsRow w.heap.size 5 1 b bs.length (bcells bs) ∧ (b.ownBlock ≠ some w.heap.size ∧ ∀ k, g = some k → b.ownBlock ≠ some k) ∧ Below w.heap.size w wr) (fun _ i _ => ps.length - (intOf i).toNat)
  case atStart => exact ⟨0, [], none, Nat.zero_le _, by omega, rfl, by simp, hw1, World.ownsRow_nil _ _ _ _, ⟨by simp [Value.ownBlock], fun k e => by cases e⟩, hb1⟩
  case round =>
    clear hw1 hb1
    obtain ⟨k, bs, g, hk, hk20, rfl, hlen, hws, hown, hap, hb⟩ := hrel
    by_cases hlt : k < ps.length
    · by_cases hlt8 : k < 20
      · obtain ⟨b, off, rfl, c0, c1, c2, c3, hn0, hn1, hss⟩ := (HV.out.fresh hb).at k hlt
        obtain ⟨pk, hpk⟩ : ∃ p, p = ps[k] := ⟨_, rfl⟩
        rw [← hpk] at c0 c1 c2 c3 hn0 hn1 hss
        clear hpk
        obtain ⟨kk, n, s, l, ss⟩ := pk
        simp only at c0 c1 c2 c3 hn0 hn1 hss
        obtain ⟨lo, lc, rfl, _⟩ := id hss
        have h30 : (k : Int) < 20 := by omega
        have hbs := BSl.ofRow hown
        go_wp2_with fail
        refine (short_c kk n s _ ss wr hss).mono ?_
        rintro e w2 ⟨l2, rfl, hl2, hlb2, hb2⟩
        have hws2 := hws.keep (S := fun _ => False) (Keeps.ofFresh hb2) (fun h => h) (fun _ _ h => h)
        have hbs2 := hbs.fresh hb2
        have hs2 : (s.extract 0 200).size ≤ 200 := by simp; omega
        generalize s.extract 0 200 = s2 at hs2 ⊢
        have hpl := part_len (k := kk) (n := n) (ss := ss) hs2
        have PI : PutIn n s2 l2 (few ss) u12 bs w2 w.heap.size w.heap.size g bs :=
          ⟨hn0, hn1, by omega, hl2, joined_few ss, by have := few_len ss; omega, hws2, hbs2, hap, ⟨fun e => by have h1 := hlb2 _ e; have h2 := hws.lt; omega, fun k hk e => by have h1 := hlb2 _ e; have h2 := (hws.rowLt k hk).2; omega⟩, by omega, by omega⟩
        have hb3 := hb.trans (hb2.mono hb.size)
        have HB3 : Hid (Below w.heap.size w w2) := hb3
        clear hb3 hb2 hws2 hbs2 hl2 hlb2 hss c0 c1 c2 c3 hws hbs hap hb hown
        go_wp2_with fail
        refine (put_c kk PI).mono ?_
        rintro e w3 ⟨v3, g3, rfl, hws3, hbs3, hap3, hwr3, hown3⟩
        have hb4 := HB3.out.trans (hwr3.below PI.state)
        have hown4 := row_mono hown3 HB3.out.size
        obtain ⟨bs3, hB3⟩ : ∃ b, b = bs ++ partBytes kk n s2 (few ss) := ⟨_, rfl⟩
        have hl3 : bs3.length ≤ (k + 1) * 11000 := by rw [hB3, List.length_append]; omega
        rw [← hB3] at hws3 hown4
        clear hB3 hpl PI HB3 hwr3 hlen hn0 hn1 hbs3 hown3
        go_wp2
        go_roundw
        case rel => exact ⟨k + 1, bs3, g3, by omega, by omega, by go_num, hl3, hws3, hown4, hap3, hb4⟩
        case measure => simp [intOf]; omega
      · have h30 : ¬ (k : Int) < 20 := by omega
        have h220 : bs.length ≤ 220000 := by omega
        clear hws hap HV
        obtain ⟨xo0, xc0, rfl⟩ := ownsRow_shape hown
        by_cases hpos : 0 < bs.length
        · have hpos' : (0 : Int) < (bs.length : Int) := by omega
          obtain ⟨bl, hbl⟩ : ∃ n, bs.length = n + 1 := ⟨bs.length - 1, by omega⟩
          have hsub : (bs.length : Int) - 1 = (bl : Int) := by omega
          have HO := hid_intro hown
          have HBLN := hid_intro hbl
          clear hown hbl
          go_wp2_with fail
          try simp only [hsub]
          refine (within_c at_ bl (by have := HBLN.out; omega) _).mono ?_
          rintro e w2 ⟨kx, rfl, hkx, rfl⟩
          have hbl := HBLN.out
          obtain ⟨gx, xc, exx, hgx, hcx, hfx, hsx⟩ := row_set HO.out kx (by omega)
          cases exx
          rw [show (bcells bs)[kx]? = some (.int .u8 (bs[kx]'(by omega)).toNat) from by simp [bcells, List.getElem?_eq_getElem (show kx < bs.length by omega)]] at hcx
          obtain ⟨y, hy⟩ := xor_byte (bs[kx]'(by omega)) turn
          generalize ((bs[kx]'(by omega)).toNat : Int) = bk at hcx hy
          have hkl : (kx : Int) < (bs.length : Int) := by omega
          have HS := hid_intro hsx
          clear hsx hbl hsub
          have HBw : Hid (Below w.heap.size w w2) := hb
          clear hb
          go_wp2_with fail
          obtain ⟨ys, hys⟩ : ∃ ys, ys = bs.set kx y := ⟨_, rfl⟩
          have hyl : ys.length = bs.length := by rw [hys, List.length_set]
          have h221 : ys.length ≤ 220000 := by omega
          have HO3 : Hid ((w2.setCell ⟨gx, kx, none⟩ (.int .u8 y.toNat)).ownsRow w.heap.size 5 1 (.slice (some ⟨gx, 0, none⟩) bs.length xc0) ys.length (bcells ys)) := by
            show World.ownsRow _ _ _ _ _ _ _
            have h := HS.out (.int .u8 y.toNat)
            rw [hyl, hys]
            simpa [bcells, List.map_set] using h
          have HB3 : Hid (Below w.heap.size w (w2.setCell ⟨gx, kx, none⟩ (.int .u8 y.toNat))) := HBw.out.setCell hgx _
          generalize w2.setCell ⟨gx, kx, none⟩ (.int .u8 y.toNat) = w3 at *
          clear HS HBw hcx hfx hy hys hgx HO hkx hkl HBLN hpos hpos' h220 hyl
          refine (cut_c _ xs _ (HXS.out.fresh HB3.out)).mono ?_
          rintro e w3' ⟨vc, rfl, hbc, hob, rfl⟩
          have hlc : (xs.take 300).length ≤ 300 := by simp; omega
          generalize xs.take 300 = cs at hbc hlc
          have hsrc := hbc.src
          have hown := HO3.out
          have HOL := hid_intro hown.lt
          have hbz := HB3.out.size
          obtain ⟨co, cc, rfl, _, _, _, _⟩ := hbc
          clear hob
          go_wp2_with (at_builtin; go_loud (refine wpList_append_src _ rfl (.tmp 57) (.tmp 59) 22 22 rfl w.heap.size 5 i0 _ 1 Try.underlying22 hi hz0 hz1 hz2 rfl _ _ _ rfl hown _ cs.length (bcells cs) rfl hsrc (by unfold maxLen; omega) (by omega) (by omega) w3'.heap.size (by simp) ?_))
          intro v4 w4 hown4 hgrow4 hnil4 hat4
          have hb4 : Below w.heap.size w w4 := HB3.out.grown hgrow4 (by omega) (fun k hk => (HOL.out k hk).1)
          have hown4' : w4.ownsRow w.heap.size 5 1 v4 (ys ++ cs).length (bcells (ys ++ cs)) := by rw [List.length_append, bcells_append]; exact hown4
          have hzl : (ys ++ cs).length ≤ 1000000000 := by rw [List.length_append]; omega
          generalize ys ++ cs = zs at hown4' hzl
          have HB4 : Hid (Below w.heap.size w w4) := hb4
          have HO4 : Hid (w4.ownsRow w.heap.size 5 1 v4 zs.length (bcells zs)) := hown4'
          have HZL : Hid (zs.length ≤ 1000000000) := hzl
          obtain ⟨xo, xc, rfl⟩ := ownsRow_shape hown4'
          clear hown4 hgrow4 hnil4 hat4 hb4 hown4' hsrc hown HOL HO3 HB3 hbz
          go_wp2_with fail
          refine (roomy_c _ zs _ (BSl.ofRow HO4.out) HZL.out).mono ?_
          rintro e w5 ⟨gf, rfl, hgf, hr5, hb5⟩
          have HR5 : Hid (w5.heap[gf]? = _) := hr5
          have HB5 : Hid (Below w4.heap.size w4 w5) := hb5
          have HGF : Hid (w4.heap.size ≤ gf) := hgf
          clear hgf hr5 hb5
          have hle : (zs.length : Int) ≤ ((zs.length + 80 : Nat) : Int) := by omega
          go_wp2_with fail
          refine (newReader_d _ zs _ (room_head HR5.out hzl) (by omega)).mono ?_
          rintro e w6 ⟨a, g, rfl, hr6, ha, hg, hb6⟩
          have HX6 : Hid (BSl w6 (.slice xo zs.length xc) zs) := ((BSl.ofRow HO4.out).fresh HB5.out).fresh hb6
          have HXB : Hid (∀ k, (Value.slice xo zs.length xc).ownBlock = some k → k < w5.heap.size) := fun k hk => Nat.lt_of_lt_of_le (HO4.out.lt k hk).2 HB5.out.size
          have HBO : Hid (Both _ _ _ _ _ _ _ _ _) := both_new (w := w5) HX6.out HXB.out (by omega) hr6 ha hg hb6.size
          have HB7 : Hid (Below w.heap.size w (w6.alloc (.cells #[.slice xo zs.length xc, .int .i64 0, .bool false, .int .i64 0, .int .i64 0] 30))) := ((HB4.out.trans (HB5.out.mono HB4.out.size)).trans (hb6.mono (Nat.le_trans HB4.out.size HB5.out.size))).alloc (Nat.le_trans (Nat.le_trans HB4.out.size HB5.out.size) hb6.size) _
          have HR7 : Hid ((w6.alloc (.cells #[.slice xo zs.length xc, .int .i64 0, .bool false, .int .i64 0, .int .i64 0] 30)).heap[gf]? = _) := (((Keeps.ofFresh (S := fun _ => False) hb6).alloc _).block gf (lt_of_block HR5.out) (fun h => h)).trans HR5.out
          have HX7 : Hid (BSl (w6.alloc (.cells #[.slice xo zs.length xc, .int .i64 0, .bool false, .int .i64 0, .int .i64 0] 30)) (.slice xo zs.length xc) zs) := HX6.out.alloc _
          have HA : Hid (w.heap.size ≤ a) := Nat.le_trans (Nat.le_trans HB4.out.size HB5.out.size) ha
          have HC : Hid (w.heap.size ≤ w6.heap.size) := Nat.le_trans (Nat.le_trans HB4.out.size HB5.out.size) hb6.size
          have HNE : Hid (gf ≠ a ∧ gf ≠ w6.heap.size) := ⟨fun e => by have := lt_of_block HR5.out; omega, fun e => by have := lt_of_block HR5.out; have := hb6.size; omega⟩
          have HNX : Hid (∀ k, (Value.slice xo zs.length xc).ownBlock = some k → k ≠ a ∧ k ≠ w6.heap.size) := fun k hk => ⟨fun e => by have := HXB.out k hk; omega, fun e => by have := HXB.out k hk; have := hb6.size; omega⟩
          have HGL : Hid (gf < (w6.alloc (.cells #[.slice xo zs.length xc, .int .i64 0, .bool false, .int .i64 0, .int .i64 0] 30)).heap.size) := lt_of_block HR7.out
          clear hr6 ha hg hb6 HB4 HB5 HR5 HX6 HXB HGF HO4 hle
          go_wp2_with fail
          generalize w6.heap.size = c at *
          generalize w6.alloc (.cells #[.slice xo zs.length xc, .int .i64 0, .bool false, .int .i64 0, .int .i64 0] 30) = w7 at *
          go_loopw [18] (fun i wr => ∃ (k p : Nat) (y : Int), k ≤ qs.length ∧ k ≤ 30 ∧ i = .int .i64 k ∧ Both wr a g c (Value.slice xo zs.length xc).ownBlock zs zs p y ∧ Keeps (fun k => k = a ∨ k = c) w7 wr ∧ Below w.heap.size w wr) (fun i _ => qs.length - (intOf i).toNat)
          case atStart => exact ⟨0, 0, 0, Nat.zero_le _, by omega, rfl, HBO.out, Keeps.refl _ _, HB7.out⟩
          case round =>
            clear HBO HB7
            obtain ⟨k, p, y, hk, hk30, rfl, hbo, hkp, hb⟩ := hrel
            have HBO : Hid (Both wr a g c (Value.slice xo zs.length xc).ownBlock zs zs p y) := hbo
            have HKP : Hid (Keeps (fun k => k = a ∨ k = c) w7 wr) := hkp
            have HBA : Hid (Below w.heap.size w wr) := hb
            clear hbo hkp hb
            by_cases hlt : k < qs.length
            · by_cases hlt8 : k < 30
              · obtain ⟨b, off, rfl, c0, c1, c2, c3, hn0, hn1, hss⟩ := (HQ.out.fresh HBA.out).at k hlt
                obtain ⟨pk, hpk⟩ : ∃ p, p = qs[k] := ⟨_, rfl⟩
                rw [← hpk] at c0 c1 c2 c3 hn0 hn1 hss
                clear hpk
                obtain ⟨kk, n, s, l, ss⟩ := pk
                simp only at c0 c1 c2 c3 hn0 hn1 hss
                obtain ⟨lo, lc, rfl, _⟩ := id hss
                have h30 : (k : Int) < 30 := by omega
                clear hn0 hn1 hss
                go_wp2_with fail
                refine (get_c kk HBO.out).mono ?_
                rintro e w8 ⟨rfl, p8, y8, hbo8, hkp8, _⟩
                have HBO8 : Hid (Both w8 _ _ _ _ _ _ _ _) := hbo8
                have HB8 : Hid (Below w.heap.size w w8) := HBA.out.trans (keeps_below hkp8 HBO.out.one.lt HA.out HC.out)
                have HKP8 : Hid (Keeps (fun k => k = a ∨ k = c) w7 w8) := HKP.out.trans hkp8
                clear hbo8 hkp8 HBO HBA HKP c0 c1 c2 c3
                go_wp2_with fail
                refine (same_c _ HBO8.out).mono ?_
                rintro e w9 ⟨rfl, hk9⟩
                go_wp2
                go_roundw
                case rel => exact ⟨k + 1, p8, y8, by omega, by omega, by go_num, HBO8.out.same hk9, HKP8.out.trans (hk9.mono fun _ _ e => e.elim), HB8.out.trans (hk9.below HB8.out.size fun _ h => h.elim)⟩
                case measure => simp [intOf]; omega
              · have h30 : ¬ (k : Int) < 30 := by omega
                go_wp2_with fail
                refine (intact_c gf _ zs _ HZL.out (HKP.out.block gf HGL.out (fun e => e.elim HNE.out.1 HNE.out.2) ▸ HR7.out) (HX7.out.keep HKP.out (fun k hk e => e.elim (HNX.out k hk).1 (HNX.out k hk).2))).mono ?_
                rintro e w8 ⟨rfl, hk8⟩
                go_wp2_with fail
                refine (known_c _).mono ?_
                rintro e w9 ⟨rfl, hb9⟩
                have HB9 : Hid (Below w.heap.size w w9) := (HBA.out.trans (hk8.below HBA.out.size fun _ h => h.elim)).trans (hb9.mono (Nat.le_trans HBA.out.size hk8.size))
                go_wp2
                go_ret
                exact ⟨rfl, HB9.out⟩
            · have h30 : ¬ (k : Int) < (qs.length : Int) := by omega
              go_wp2_with fail
              refine (intact_c gf _ zs _ HZL.out (HKP.out.block gf HGL.out (fun e => e.elim HNE.out.1 HNE.out.2) ▸ HR7.out) (HX7.out.keep HKP.out (fun k hk e => e.elim (HNX.out k hk).1 (HNX.out k hk).2))).mono ?_
              rintro e w8 ⟨rfl, hk8⟩
              go_wp2_with fail
              refine (known_c _).mono ?_
              rintro e w9 ⟨rfl, hb9⟩
              have HB9 : Hid (Below w.heap.size w w9) := (HBA.out.trans (hk8.below HBA.out.size fun _ h => h.elim)).trans (hb9.mono (Nat.le_trans HBA.out.size hk8.size))
              go_wp2
              go_ret
              exact ⟨rfl, HB9.out⟩
        · obtain rfl : bs = [] := List.eq_nil_of_length_eq_zero (by omega)
          obtain ⟨ys, hys⟩ : ∃ ys : List UInt8, ys = [] := ⟨_, rfl⟩
          have h221 : ys.length ≤ 220000 := by rw [hys]; simp
          have HO3 : Hid (wr.ownsRow w.heap.size 5 1 (.slice xo0 ([] : List UInt8).length xc0) ys.length (bcells ys)) := by rw [hys]; exact hown
          have HB3 : Hid (Below w.heap.size w wr) := hb
          clear hown hb hys hpos h220 hlen
          go_wp2_with fail
          refine (cut_c _ xs _ (HXS.out.fresh HB3.out)).mono ?_
          rintro e w3' ⟨vc, rfl, hbc, hob, rfl⟩
          have hlc : (xs.take 300).length ≤ 300 := by simp; omega
          generalize xs.take 300 = cs at hbc hlc
          have hsrc := hbc.src
          have hown := HO3.out
          have HOL := hid_intro hown.lt
          have hbz := HB3.out.size
          obtain ⟨co, cc, rfl, _, _, _, _⟩ := hbc
          clear hob
          go_wp2_with (at_builtin; go_loud (refine wpList_append_src _ rfl (.tmp 57) (.tmp 59) 22 22 rfl w.heap.size 5 i0 _ 1 Try.underlying22 hi hz0 hz1 hz2 rfl _ _ _ rfl hown _ cs.length (bcells cs) rfl hsrc (by unfold maxLen; omega) (by omega) (by omega) w3'.heap.size (by simp) ?_))
          intro v4 w4 hown4 hgrow4 hnil4 hat4
          have hb4 : Below w.heap.size w w4 := HB3.out.grown hgrow4 (by omega) (fun k hk => (HOL.out k hk).1)
          have hown4' : w4.ownsRow w.heap.size 5 1 v4 (ys ++ cs).length (bcells (ys ++ cs)) := by rw [List.length_append, bcells_append]; exact hown4
          have hzl : (ys ++ cs).length ≤ 1000000000 := by rw [List.length_append]; omega
          generalize ys ++ cs = zs at hown4' hzl
          have HB4 : Hid (Below w.heap.size w w4) := hb4
          have HO4 : Hid (w4.ownsRow w.heap.size 5 1 v4 zs.length (bcells zs)) := hown4'
          have HZL : Hid (zs.length ≤ 1000000000) := hzl
          obtain ⟨xo, xc, rfl⟩ := ownsRow_shape hown4'
          clear hown4 hgrow4 hnil4 hat4 hb4 hown4' hsrc hown HOL HO3 HB3 hbz
          go_wp2_with fail
          refine (roomy_c _ zs _ (BSl.ofRow HO4.out) HZL.out).mono ?_
          rintro e w5 ⟨gf, rfl, hgf, hr5, hb5⟩
          have HR5 : Hid (w5.heap[gf]? = _) := hr5
          have HB5 : Hid (Below w4.heap.size w4 w5) := hb5
          have HGF : Hid (w4.heap.size ≤ gf) := hgf
          clear hgf hr5 hb5
          have hle : (zs.length : Int) ≤ ((zs.length + 80 : Nat) : Int) := by omega
          go_wp2_with fail
          refine (newReader_d _ zs _ (room_head HR5.out hzl) (by omega)).mono ?_
          rintro e w6 ⟨a, g, rfl, hr6, ha, hg, hb6⟩
          have HX6 : Hid (BSl w6 (.slice xo zs.length xc) zs) := ((BSl.ofRow HO4.out).fresh HB5.out).fresh hb6
          have HXB : Hid (∀ k, (Value.slice xo zs.length xc).ownBlock = some k → k < w5.heap.size) := fun k hk => Nat.lt_of_lt_of_le (HO4.out.lt k hk).2 HB5.out.size
          have HBO : Hid (Both _ _ _ _ _ _ _ _ _) := both_new (w := w5) HX6.out HXB.out (by omega) hr6 ha hg hb6.size
          have HB7 : Hid (Below w.heap.size w (w6.alloc (.cells #[.slice xo zs.length xc, .int .i64 0, .bool false, .int .i64 0, .int .i64 0] 30))) := ((HB4.out.trans (HB5.out.mono HB4.out.size)).trans (hb6.mono (Nat.le_trans HB4.out.size HB5.out.size))).alloc (Nat.le_trans (Nat.le_trans HB4.out.size HB5.out.size) hb6.size) _
          have HR7 : Hid ((w6.alloc (.cells #[.slice xo zs.length xc, .int .i64 0, .bool false, .int .i64 0, .int .i64 0] 30)).heap[gf]? = _) := (((Keeps.ofFresh (S := fun _ => False) hb6).alloc _).block gf (lt_of_block HR5.out) (fun h => h)).trans HR5.out
          have HX7 : Hid (BSl (w6.alloc (.cells #[.slice xo zs.length xc, .int .i64 0, .bool false, .int .i64 0, .int .i64 0] 30)) (.slice xo zs.length xc) zs) := HX6.out.alloc _
          have HA : Hid (w.heap.size ≤ a) := Nat.le_trans (Nat.le_trans HB4.out.size HB5.out.size) ha
          have HC : Hid (w.heap.size ≤ w6.heap.size) := Nat.le_trans (Nat.le_trans HB4.out.size HB5.out.size) hb6.size
          have HNE : Hid (gf ≠ a ∧ gf ≠ w6.heap.size) := ⟨fun e => by have := lt_of_block HR5.out; omega, fun e => by have := lt_of_block HR5.out; have := hb6.size; omega⟩
          have HNX : Hid (∀ k, (Value.slice xo zs.length xc).ownBlock = some k → k ≠ a ∧ k ≠ w6.heap.size) := fun k hk => ⟨fun e => by have := HXB.out k hk; omega, fun e => by have := HXB.out k hk; have := hb6.size; omega⟩
          have HGL : Hid (gf < (w6.alloc (.cells #[.slice xo zs.length xc, .int .i64 0, .bool false, .int .i64 0, .int .i64 0] 30)).heap.size) := lt_of_block HR7.out
          clear hr6 ha hg hb6 HB4 HB5 HR5 HX6 HXB HGF HO4 hle
          go_wp2_with fail
          generalize w6.heap.size = c at *
          generalize w6.alloc (.cells #[.slice xo zs.length xc, .int .i64 0, .bool false, .int .i64 0, .int .i64 0] 30) = w7 at *
          go_loopw [18] (fun i wr => ∃ (k p : Nat) (y : Int), k ≤ qs.length ∧ k ≤ 30 ∧ i = .int .i64 k ∧ Both wr a g c (Value.slice xo zs.length xc).ownBlock zs zs p y ∧ Keeps (fun k => k = a ∨ k = c) w7 wr ∧ Below w.heap.size w wr) (fun i _ => qs.length - (intOf i).toNat)
          case atStart => exact ⟨0, 0, 0, Nat.zero_le _, by omega, rfl, HBO.out, Keeps.refl _ _, HB7.out⟩
          case round =>
            clear HBO HB7
            obtain ⟨k, p, y, hk, hk30, rfl, hbo, hkp, hb⟩ := hrel
            have HBO : Hid (Both wr a g c (Value.slice xo zs.length xc).ownBlock zs zs p y) := hbo
            have HKP : Hid (Keeps (fun k => k = a ∨ k = c) w7 wr) := hkp
            have HBA : Hid (Below w.heap.size w wr) := hb
            clear hbo hkp hb
            by_cases hlt : k < qs.length
            · by_cases hlt8 : k < 30
              · obtain ⟨b, off, rfl, c0, c1, c2, c3, hn0, hn1, hss⟩ := (HQ.out.fresh HBA.out).at k hlt
                obtain ⟨pk, hpk⟩ : ∃ p, p = qs[k] := ⟨_, rfl⟩
                rw [← hpk] at c0 c1 c2 c3 hn0 hn1 hss
                clear hpk
                obtain ⟨kk, n, s, l, ss⟩ := pk
                simp only at c0 c1 c2 c3 hn0 hn1 hss
                obtain ⟨lo, lc, rfl, _⟩ := id hss
                have h30 : (k : Int) < 30 := by omega
                clear hn0 hn1 hss
                go_wp2_with fail
                refine (get_c kk HBO.out).mono ?_
                rintro e w8 ⟨rfl, p8, y8, hbo8, hkp8, _⟩
                have HBO8 : Hid (Both w8 _ _ _ _ _ _ _ _) := hbo8
                have HB8 : Hid (Below w.heap.size w w8) := HBA.out.trans (keeps_below hkp8 HBO.out.one.lt HA.out HC.out)
                have HKP8 : Hid (Keeps (fun k => k = a ∨ k = c) w7 w8) := HKP.out.trans hkp8
                clear hbo8 hkp8 HBO HBA HKP c0 c1 c2 c3
                go_wp2_with fail
                refine (same_c _ HBO8.out).mono ?_
                rintro e w9 ⟨rfl, hk9⟩
                go_wp2
                go_roundw
                case rel => exact ⟨k + 1, p8, y8, by omega, by omega, by go_num, HBO8.out.same hk9, HKP8.out.trans (hk9.mono fun _ _ e => e.elim), HB8.out.trans (hk9.below HB8.out.size fun _ h => h.elim)⟩
                case measure => simp [intOf]; omega
              · have h30 : ¬ (k : Int) < 30 := by omega
                go_wp2_with fail
                refine (intact_c gf _ zs _ HZL.out (HKP.out.block gf HGL.out (fun e => e.elim HNE.out.1 HNE.out.2) ▸ HR7.out) (HX7.out.keep HKP.out (fun k hk e => e.elim (HNX.out k hk).1 (HNX.out k hk).2))).mono ?_
                rintro e w8 ⟨rfl, hk8⟩
                go_wp2_with fail
                refine (known_c _).mono ?_
                rintro e w9 ⟨rfl, hb9⟩
                have HB9 : Hid (Below w.heap.size w w9) := (HBA.out.trans (hk8.below HBA.out.size fun _ h => h.elim)).trans (hb9.mono (Nat.le_trans HBA.out.size hk8.size))
                go_wp2
                go_ret
                exact ⟨rfl, HB9.out⟩
            · have h30 : ¬ (k : Int) < (qs.length : Int) := by omega
              go_wp2_with fail
              refine (intact_c gf _ zs _ HZL.out (HKP.out.block gf HGL.out (fun e => e.elim HNE.out.1 HNE.out.2) ▸ HR7.out) (HX7.out.keep HKP.out (fun k hk e => e.elim (HNX.out k hk).1 (HNX.out k hk).2))).mono ?_
              rintro e w8 ⟨rfl, hk8⟩
              go_wp2_with fail
              refine (known_c _).mono ?_
              rintro e w9 ⟨rfl, hb9⟩
              have HB9 : Hid (Below w.heap.size w w9) := (HBA.out.trans (hk8.below HBA.out.size fun _ h => h.elim)).trans (hb9.mono (Nat.le_trans HBA.out.size hk8.size))
              go_wp2
              go_ret
              exact ⟨rfl, HB9.out⟩
    · have h30 : ¬ (k : Int) < (ps.length : Int) := by omega
      have h220 : bs.length ≤ 220000 := by omega
      clear hws hap HV
      obtain ⟨xo0, xc0, rfl⟩ := ownsRow_shape hown
      by_cases hpos : 0 < bs.length
      · have hpos' : (0 : Int) < (bs.length : Int) := by omega
        obtain ⟨bl, hbl⟩ : ∃ n, bs.length = n + 1 := ⟨bs.length - 1, by omega⟩
        have hsub : (bs.length : Int) - 1 = (bl : Int) := by omega
        have HO := hid_intro hown
        have HBLN := hid_intro hbl
        clear hown hbl
        go_wp2_with fail
        try simp only [hsub]
        refine (within_c at_ bl (by have := HBLN.out; omega) _).mono ?_
        rintro e w2 ⟨kx, rfl, hkx, rfl⟩
        have hbl := HBLN.out
        obtain ⟨gx, xc, exx, hgx, hcx, hfx, hsx⟩ := row_set HO.out kx (by omega)
        cases exx
        rw [show (bcells bs)[kx]? = some (.int .u8 (bs[kx]'(by omega)).toNat) from by simp [bcells, List.getElem?_eq_getElem (show kx < bs.length by omega)]] at hcx
        obtain ⟨y, hy⟩ := xor_byte (bs[kx]'(by omega)) turn
        generalize ((bs[kx]'(by omega)).toNat : Int) = bk at hcx hy
        have hkl : (kx : Int) < (bs.length : Int) := by omega
        have HS := hid_intro hsx
        clear hsx hbl hsub
        have HBw : Hid (Below w.heap.size w w2) := hb
        clear hb
        go_wp2_with fail
        obtain ⟨ys, hys⟩ : ∃ ys, ys = bs.set kx y := ⟨_, rfl⟩
        have hyl : ys.length = bs.length := by rw [hys, List.length_set]
        have h221 : ys.length ≤ 220000 := by omega
        have HO3 : Hid ((w2.setCell ⟨gx, kx, none⟩ (.int .u8 y.toNat)).ownsRow w.heap.size 5 1 (.slice (some ⟨gx, 0, none⟩) bs.length xc0) ys.length (bcells ys)) := by
          show World.ownsRow _ _ _ _ _ _ _
          have h := HS.out (.int .u8 y.toNat)
          rw [hyl, hys]
          simpa [bcells, List.map_set] using h
        have HB3 : Hid (Below w.heap.size w (w2.setCell ⟨gx, kx, none⟩ (.int .u8 y.toNat))) := HBw.out.setCell hgx _
        generalize w2.setCell ⟨gx, kx, none⟩ (.int .u8 y.toNat) = w3 at *
        clear HS HBw hcx hfx hy hys hgx HO hkx hkl HBLN hpos hpos' h220 hyl
        refine (cut_c _ xs _ (HXS.out.fresh HB3.out)).mono ?_
        rintro e w3' ⟨vc, rfl, hbc, hob, rfl⟩
        have hlc : (xs.take 300).length ≤ 300 := by simp; omega
        generalize xs.take 300 = cs at hbc hlc
        have hsrc := hbc.src
        have hown := HO3.out
        have HOL := hid_intro hown.lt
        have hbz := HB3.out.size
        obtain ⟨co, cc, rfl, _, _, _, _⟩ := hbc
        clear hob
        go_wp2_with (at_builtin; go_loud (refine wpList_append_src _ rfl (.tmp 57) (.tmp 59) 22 22 rfl w.heap.size 5 i0 _ 1 Try.underlying22 hi hz0 hz1 hz2 rfl _ _ _ rfl hown _ cs.length (bcells cs) rfl hsrc (by unfold maxLen; omega) (by omega) (by omega) w3'.heap.size (by simp) ?_))
        intro v4 w4 hown4 hgrow4 hnil4 hat4
        have hb4 : Below w.heap.size w w4 := HB3.out.grown hgrow4 (by omega) (fun k hk => (HOL.out k hk).1)
        have hown4' : w4.ownsRow w.heap.size 5 1 v4 (ys ++ cs).length (bcells (ys ++ cs)) := by rw [List.length_append, bcells_append]; exact hown4
        have hzl : (ys ++ cs).length ≤ 1000000000 := by rw [List.length_append]; omega
        generalize ys ++ cs = zs at hown4' hzl
        have HB4 : Hid (Below w.heap.size w w4) := hb4
        have HO4 : Hid (w4.ownsRow w.heap.size 5 1 v4 zs.length (bcells zs)) := hown4'
        have HZL : Hid (zs.length ≤ 1000000000) := hzl
        obtain ⟨xo, xc, rfl⟩ := ownsRow_shape hown4'
        clear hown4 hgrow4 hnil4 hat4 hb4 hown4' hsrc hown HOL HO3 HB3 hbz
        go_wp2_with fail
        refine (roomy_c _ zs _ (BSl.ofRow HO4.out) HZL.out).mono ?_
        rintro e w5 ⟨gf, rfl, hgf, hr5, hb5⟩
        have HR5 : Hid (w5.heap[gf]? = _) := hr5
        have HB5 : Hid (Below w4.heap.size w4 w5) := hb5
        have HGF : Hid (w4.heap.size ≤ gf) := hgf
        clear hgf hr5 hb5
        have hle : (zs.length : Int) ≤ ((zs.length + 80 : Nat) : Int) := by omega
        go_wp2_with fail
        refine (newReader_d _ zs _ (room_head HR5.out hzl) (by omega)).mono ?_
        rintro e w6 ⟨a, g, rfl, hr6, ha, hg, hb6⟩
        have HX6 : Hid (BSl w6 (.slice xo zs.length xc) zs) := ((BSl.ofRow HO4.out).fresh HB5.out).fresh hb6
        have HXB : Hid (∀ k, (Value.slice xo zs.length xc).ownBlock = some k → k < w5.heap.size) := fun k hk => Nat.lt_of_lt_of_le (HO4.out.lt k hk).2 HB5.out.size
        have HBO : Hid (Both _ _ _ _ _ _ _ _ _) := both_new (w := w5) HX6.out HXB.out (by omega) hr6 ha hg hb6.size
        have HB7 : Hid (Below w.heap.size w (w6.alloc (.cells #[.slice xo zs.length xc, .int .i64 0, .bool false, .int .i64 0, .int .i64 0] 30))) := ((HB4.out.trans (HB5.out.mono HB4.out.size)).trans (hb6.mono (Nat.le_trans HB4.out.size HB5.out.size))).alloc (Nat.le_trans (Nat.le_trans HB4.out.size HB5.out.size) hb6.size) _
        have HR7 : Hid ((w6.alloc (.cells #[.slice xo zs.length xc, .int .i64 0, .bool false, .int .i64 0, .int .i64 0] 30)).heap[gf]? = _) := (((Keeps.ofFresh (S := fun _ => False) hb6).alloc _).block gf (lt_of_block HR5.out) (fun h => h)).trans HR5.out
        have HX7 : Hid (BSl (w6.alloc (.cells #[.slice xo zs.length xc, .int .i64 0, .bool false, .int .i64 0, .int .i64 0] 30)) (.slice xo zs.length xc) zs) := HX6.out.alloc _
        have HA : Hid (w.heap.size ≤ a) := Nat.le_trans (Nat.le_trans HB4.out.size HB5.out.size) ha
        have HC : Hid (w.heap.size ≤ w6.heap.size) := Nat.le_trans (Nat.le_trans HB4.out.size HB5.out.size) hb6.size
        have HNE : Hid (gf ≠ a ∧ gf ≠ w6.heap.size) := ⟨fun e => by have := lt_of_block HR5.out; omega, fun e => by have := lt_of_block HR5.out; have := hb6.size; omega⟩
        have HNX : Hid (∀ k, (Value.slice xo zs.length xc).ownBlock = some k → k ≠ a ∧ k ≠ w6.heap.size) := fun k hk => ⟨fun e => by have := HXB.out k hk; omega, fun e => by have := HXB.out k hk; have := hb6.size; omega⟩
        have HGL : Hid (gf < (w6.alloc (.cells #[.slice xo zs.length xc, .int .i64 0, .bool false, .int .i64 0, .int .i64 0] 30)).heap.size) := lt_of_block HR7.out
        clear hr6 ha hg hb6 HB4 HB5 HR5 HX6 HXB HGF HO4 hle
        go_wp2_with fail
        generalize w6.heap.size = c at *
        generalize w6.alloc (.cells #[.slice xo zs.length xc, .int .i64 0, .bool false, .int .i64 0, .int .i64 0] 30) = w7 at *
        go_loopw [18] (fun i wr => ∃ (k p : Nat) (y : Int), k ≤ qs.length ∧ k ≤ 30 ∧ i = .int .i64 k ∧ Both wr a g c (Value.slice xo zs.length xc).ownBlock zs zs p y ∧ Keeps (fun k => k = a ∨ k = c) w7 wr ∧ Below w.heap.size w wr) (fun i _ => qs.length - (intOf i).toNat)
        case atStart => exact ⟨0, 0, 0, Nat.zero_le _, by omega, rfl, HBO.out, Keeps.refl _ _, HB7.out⟩
        case round =>
          clear HBO HB7
          obtain ⟨k, p, y, hk, hk30, rfl, hbo, hkp, hb⟩ := hrel
          have HBO : Hid (Both wr a g c (Value.slice xo zs.length xc).ownBlock zs zs p y) := hbo
          have HKP : Hid (Keeps (fun k => k = a ∨ k = c) w7 wr) := hkp
          have HBA : Hid (Below w.heap.size w wr) := hb
          clear hbo hkp hb
          by_cases hlt : k < qs.length
          · by_cases hlt8 : k < 30
            · obtain ⟨b, off, rfl, c0, c1, c2, c3, hn0, hn1, hss⟩ := (HQ.out.fresh HBA.out).at k hlt
              obtain ⟨pk, hpk⟩ : ∃ p, p = qs[k] := ⟨_, rfl⟩
              rw [← hpk] at c0 c1 c2 c3 hn0 hn1 hss
              clear hpk
              obtain ⟨kk, n, s, l, ss⟩ := pk
              simp only at c0 c1 c2 c3 hn0 hn1 hss
              obtain ⟨lo, lc, rfl, _⟩ := id hss
              have h30 : (k : Int) < 30 := by omega
              clear hn0 hn1 hss
              go_wp2_with fail
              refine (get_c kk HBO.out).mono ?_
              rintro e w8 ⟨rfl, p8, y8, hbo8, hkp8, _⟩
              have HBO8 : Hid (Both w8 _ _ _ _ _ _ _ _) := hbo8
              have HB8 : Hid (Below w.heap.size w w8) := HBA.out.trans (keeps_below hkp8 HBO.out.one.lt HA.out HC.out)
              have HKP8 : Hid (Keeps (fun k => k = a ∨ k = c) w7 w8) := HKP.out.trans hkp8
              clear hbo8 hkp8 HBO HBA HKP c0 c1 c2 c3
              go_wp2_with fail
              refine (same_c _ HBO8.out).mono ?_
              rintro e w9 ⟨rfl, hk9⟩
              go_wp2
              go_roundw
              case rel => exact ⟨k + 1, p8, y8, by omega, by omega, by go_num, HBO8.out.same hk9, HKP8.out.trans (hk9.mono fun _ _ e => e.elim), HB8.out.trans (hk9.below HB8.out.size fun _ h => h.elim)⟩
              case measure => simp [intOf]; omega
            · have h30 : ¬ (k : Int) < 30 := by omega
              go_wp2_with fail
              refine (intact_c gf _ zs _ HZL.out (HKP.out.block gf HGL.out (fun e => e.elim HNE.out.1 HNE.out.2) ▸ HR7.out) (HX7.out.keep HKP.out (fun k hk e => e.elim (HNX.out k hk).1 (HNX.out k hk).2))).mono ?_
              rintro e w8 ⟨rfl, hk8⟩
              go_wp2_with fail
              refine (known_c _).mono ?_
              rintro e w9 ⟨rfl, hb9⟩
              have HB9 : Hid (Below w.heap.size w w9) := (HBA.out.trans (hk8.below HBA.out.size fun _ h => h.elim)).trans (hb9.mono (Nat.le_trans HBA.out.size hk8.size))
              go_wp2
              go_ret
              exact ⟨rfl, HB9.out⟩
          · have h30 : ¬ (k : Int) < (qs.length : Int) := by omega
            go_wp2_with fail
            refine (intact_c gf _ zs _ HZL.out (HKP.out.block gf HGL.out (fun e => e.elim HNE.out.1 HNE.out.2) ▸ HR7.out) (HX7.out.keep HKP.out (fun k hk e => e.elim (HNX.out k hk).1 (HNX.out k hk).2))).mono ?_
            rintro e w8 ⟨rfl, hk8⟩
            go_wp2_with fail
            refine (known_c _).mono ?_
            rintro e w9 ⟨rfl, hb9⟩
            have HB9 : Hid (Below w.heap.size w w9) := (HBA.out.trans (hk8.below HBA.out.size fun _ h => h.elim)).trans (hb9.mono (Nat.le_trans HBA.out.size hk8.size))
            go_wp2
            go_ret
            exact ⟨rfl, HB9.out⟩
      · obtain rfl : bs = [] := List.eq_nil_of_length_eq_zero (by omega)
        obtain ⟨ys, hys⟩ : ∃ ys : List UInt8, ys = [] := ⟨_, rfl⟩
        have h221 : ys.length ≤ 220000 := by rw [hys]; simp
        have HO3 : Hid (wr.ownsRow w.heap.size 5 1 (.slice xo0 ([] : List UInt8).length xc0) ys.length (bcells ys)) := by rw [hys]; exact hown
        have HB3 : Hid (Below w.heap.size w wr) := hb
        clear hown hb hys hpos h220 hlen
        go_wp2_with fail
        refine (cut_c _ xs _ (HXS.out.fresh HB3.out)).mono ?_
        rintro e w3' ⟨vc, rfl, hbc, hob, rfl⟩
        have hlc : (xs.take 300).length ≤ 300 := by simp; omega
        generalize xs.take 300 = cs at hbc hlc
        have hsrc := hbc.src
        have hown := HO3.out
        have HOL := hid_intro hown.lt
        have hbz := HB3.out.size
        obtain ⟨co, cc, rfl, _, _, _, _⟩ := hbc
        clear hob
        go_wp2_with (at_builtin; go_loud (refine wpList_append_src _ rfl (.tmp 57) (.tmp 59) 22 22 rfl w.heap.size 5 i0 _ 1 Try.underlying22 hi hz0 hz1 hz2 rfl _ _ _ rfl hown _ cs.length (bcells cs) rfl hsrc (by unfold maxLen; omega) (by omega) (by omega) w3'.heap.size (by simp) ?_))
        intro v4 w4 hown4 hgrow4 hnil4 hat4
        have hb4 : Below w.heap.size w w4 := HB3.out.grown hgrow4 (by omega) (fun k hk => (HOL.out k hk).1)
        have hown4' : w4.ownsRow w.heap.size 5 1 v4 (ys ++ cs).length (bcells (ys ++ cs)) := by rw [List.length_append, bcells_append]; exact hown4
        have hzl : (ys ++ cs).length ≤ 1000000000 := by rw [List.length_append]; omega
        generalize ys ++ cs = zs at hown4' hzl
        have HB4 : Hid (Below w.heap.size w w4) := hb4
        have HO4 : Hid (w4.ownsRow w.heap.size 5 1 v4 zs.length (bcells zs)) := hown4'
        have HZL : Hid (zs.length ≤ 1000000000) := hzl
        obtain ⟨xo, xc, rfl⟩ := ownsRow_shape hown4'
        clear hown4 hgrow4 hnil4 hat4 hb4 hown4' hsrc hown HOL HO3 HB3 hbz
        go_wp2_with fail
        refine (roomy_c _ zs _ (BSl.ofRow HO4.out) HZL.out).mono ?_
        rintro e w5 ⟨gf, rfl, hgf, hr5, hb5⟩
        have HR5 : Hid (w5.heap[gf]? = _) := hr5
        have HB5 : Hid (Below w4.heap.size w4 w5) := hb5
        have HGF : Hid (w4.heap.size ≤ gf) := hgf
        clear hgf hr5 hb5
        have hle : (zs.length : Int) ≤ ((zs.length + 80 : Nat) : Int) := by omega
        go_wp2_with fail
        refine (newReader_d _ zs _ (room_head HR5.out hzl) (by omega)).mono ?_
        rintro e w6 ⟨a, g, rfl, hr6, ha, hg, hb6⟩
        have HX6 : Hid (BSl w6 (.slice xo zs.length xc) zs) := ((BSl.ofRow HO4.out).fresh HB5.out).fresh hb6
        have HXB : Hid (∀ k, (Value.slice xo zs.length xc).ownBlock = some k → k < w5.heap.size) := fun k hk => Nat.lt_of_lt_of_le (HO4.out.lt k hk).2 HB5.out.size
        have HBO : Hid (Both _ _ _ _ _ _ _ _ _) := both_new (w := w5) HX6.out HXB.out (by omega) hr6 ha hg hb6.size
        have HB7 : Hid (Below w.heap.size w (w6.alloc (.cells #[.slice xo zs.length xc, .int .i64 0, .bool false, .int .i64 0, .int .i64 0] 30))) := ((HB4.out.trans (HB5.out.mono HB4.out.size)).trans (hb6.mono (Nat.le_trans HB4.out.size HB5.out.size))).alloc (Nat.le_trans (Nat.le_trans HB4.out.size HB5.out.size) hb6.size) _
        have HR7 : Hid ((w6.alloc (.cells #[.slice xo zs.length xc, .int .i64 0, .bool false, .int .i64 0, .int .i64 0] 30)).heap[gf]? = _) := (((Keeps.ofFresh (S := fun _ => False) hb6).alloc _).block gf (lt_of_block HR5.out) (fun h => h)).trans HR5.out
        have HX7 : Hid (BSl (w6.alloc (.cells #[.slice xo zs.length xc, .int .i64 0, .bool false, .int .i64 0, .int .i64 0] 30)) (.slice xo zs.length xc) zs) := HX6.out.alloc _
        have HA : Hid (w.heap.size ≤ a) := Nat.le_trans (Nat.le_trans HB4.out.size HB5.out.size) ha
        have HC : Hid (w.heap.size ≤ w6.heap.size) := Nat.le_trans (Nat.le_trans HB4.out.size HB5.out.size) hb6.size
        have HNE : Hid (gf ≠ a ∧ gf ≠ w6.heap.size) := ⟨fun e => by have := lt_of_block HR5.out; omega, fun e => by have := lt_of_block HR5.out; have := hb6.size; omega⟩
        have HNX : Hid (∀ k, (Value.slice xo zs.length xc).ownBlock = some k → k ≠ a ∧ k ≠ w6.heap.size) := fun k hk => ⟨fun e => by have := HXB.out k hk; omega, fun e => by have := HXB.out k hk; have := hb6.size; omega⟩
        have HGL : Hid (gf < (w6.alloc (.cells #[.slice xo zs.length xc, .int .i64 0, .bool false, .int .i64 0, .int .i64 0] 30)).heap.size) := lt_of_block HR7.out
        clear hr6 ha hg hb6 HB4 HB5 HR5 HX6 HXB HGF HO4 hle
        go_wp2_with fail
        generalize w6.heap.size = c at *
        generalize w6.alloc (.cells #[.slice xo zs.length xc, .int .i64 0, .bool false, .int .i64 0, .int .i64 0] 30) = w7 at *
        go_loopw [18] (fun i wr => ∃ (k p : Nat) (y : Int), k ≤ qs.length ∧ k ≤ 30 ∧ i = .int .i64 k ∧ Both wr a g c (Value.slice xo zs.length xc).ownBlock zs zs p y ∧ Keeps (fun k => k = a ∨ k = c) w7 wr ∧ Below w.heap.size w wr) (fun i _ => qs.length - (intOf i).toNat)
        case atStart => exact ⟨0, 0, 0, Nat.zero_le _, by omega, rfl, HBO.out, Keeps.refl _ _, HB7.out⟩
        case round =>
          clear HBO HB7
          obtain ⟨k, p, y, hk, hk30, rfl, hbo, hkp, hb⟩ := hrel
          have HBO : Hid (Both wr a g c (Value.slice xo zs.length xc).ownBlock zs zs p y) := hbo
          have HKP : Hid (Keeps (fun k => k = a ∨ k = c) w7 wr) := hkp
          have HBA : Hid (Below w.heap.size w wr) := hb
          clear hbo hkp hb
          by_cases hlt : k < qs.length
          · by_cases hlt8 : k < 30
            · obtain ⟨b, off, rfl, c0, c1, c2, c3, hn0, hn1, hss⟩ := (HQ.out.fresh HBA.out).at k hlt
              obtain ⟨pk, hpk⟩ : ∃ p, p = qs[k] := ⟨_, rfl⟩
              rw [← hpk] at c0 c1 c2 c3 hn0 hn1 hss
              clear hpk
              obtain ⟨kk, n, s, l, ss⟩ := pk
              simp only at c0 c1 c2 c3 hn0 hn1 hss
              obtain ⟨lo, lc, rfl, _⟩ := id hss
              have h30 : (k : Int) < 30 := by omega
              clear hn0 hn1 hss
              go_wp2_with fail
              refine (get_c kk HBO.out).mono ?_
              rintro e w8 ⟨rfl, p8, y8, hbo8, hkp8, _⟩
              have HBO8 : Hid (Both w8 _ _ _ _ _ _ _ _) := hbo8
              have HB8 : Hid (Below w.heap.size w w8) := HBA.out.trans (keeps_below hkp8 HBO.out.one.lt HA.out HC.out)
              have HKP8 : Hid (Keeps (fun k => k = a ∨ k = c) w7 w8) := HKP.out.trans hkp8
              clear hbo8 hkp8 HBO HBA HKP c0 c1 c2 c3
              go_wp2_with fail
              refine (same_c _ HBO8.out).mono ?_
              rintro e w9 ⟨rfl, hk9⟩
              go_wp2
              go_roundw
              case rel => exact ⟨k + 1, p8, y8, by omega, by omega, by go_num, HBO8.out.same hk9, HKP8.out.trans (hk9.mono fun _ _ e => e.elim), HB8.out.trans (hk9.below HB8.out.size fun _ h => h.elim)⟩
              case measure => simp [intOf]; omega
            · have h30 : ¬ (k : Int) < 30 := by omega
              go_wp2_with fail
              refine (intact_c gf _ zs _ HZL.out (HKP.out.block gf HGL.out (fun e => e.elim HNE.out.1 HNE.out.2) ▸ HR7.out) (HX7.out.keep HKP.out (fun k hk e => e.elim (HNX.out k hk).1 (HNX.out k hk).2))).mono ?_
              rintro e w8 ⟨rfl, hk8⟩
              go_wp2_with fail
              refine (known_c _).mono ?_
              rintro e w9 ⟨rfl, hb9⟩
              have HB9 : Hid (Below w.heap.size w w9) := (HBA.out.trans (hk8.below HBA.out.size fun _ h => h.elim)).trans (hb9.mono (Nat.le_trans HBA.out.size hk8.size))
              go_wp2
              go_ret
              exact ⟨rfl, HB9.out⟩
          · have h30 : ¬ (k : Int) < (qs.length : Int) := by omega
            go_wp2_with fail
            refine (intact_c gf _ zs _ HZL.out (HKP.out.block gf HGL.out (fun e => e.elim HNE.out.1 HNE.out.2) ▸ HR7.out) (HX7.out.keep HKP.out (fun k hk e => e.elim (HNX.out k hk).1 (HNX.out k hk).2))).mono ?_
            rintro e w8 ⟨rfl, hk8⟩
            go_wp2_with fail
            refine (known_c _).mono ?_
            rintro e w9 ⟨rfl, hb9⟩
            have HB9 : Hid (Below w.heap.size w w9) := (HBA.out.trans (hk8.below HBA.out.size fun _ h => h.elim)).trans (hb9.mono (Nat.le_trans HBA.out.size hk8.size))
            go_wp2
            go_ret
            exact ⟨rfl, HB9.out⟩
end Go.Proofs.Ytmecclefkgbmpaa
