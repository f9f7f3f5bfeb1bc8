/- The walk of the law WireWrites. -/
import Derived.Test.YtmecclefkgbmpaaPutD
import Derived.Deep.RegionWith
namespace Go.Proofs.Ytmecclefkgbmpaa
open Go Go.RowKit

/-- A part, as data. -/
structure PartD where
  k : Int
  n : Int
  s : ByteArray
  l : Value
  ss : List ByteArray

/-- The slice value v reads as the parts ps in w. -/
def PSl (w : World) (v : Value) (ps : List PartD) : Prop :=
  ∃ ao cap, v = .slice ao ps.length cap ∧ ps.length ≤ cap ∧ cap ≤ maxLen ∧ (ao = none → ps = [] ∧ cap = 0) ∧ (∀ p ∈ ps, 0 ≤ p.n ∧ p.n < 18446744073709551616 ∧ SSl w p.l p.ss) ∧
    ∀ ad, ao = some ad → ps ≠ [] → ∃ b off, ad = ⟨b, off, none⟩ ∧ ∀ (i : Nat) p, ps[i]? = some p → w.cell? ⟨b, off + i * 4, none⟩ = some (.int .i64 p.k) ∧ w.cell? ⟨b, off + i * 4 + 1, none⟩ = some (.int .u64 p.n) ∧ w.cell? ⟨b, off + i * 4 + 2, none⟩ = some (.string p.s) ∧ w.cell? ⟨b, off + i * 4 + 3, none⟩ = some p.l

theorem joined_few (ss : List ByteArray) : (joined (few ss)).length ≤ 10000 := by
  have h1 : ∀ l : List ByteArray, (∀ s ∈ l, s.size ≤ 66) → (Lib.lens (l.map (·.data.toList))) ≤ 66 * l.length := by
    intro l hl
    induction l with
    | nil => simp [Lib.lens]
    | cons x r ih =>
      have h2 := hl x (by simp)
      have h3 := ih fun s hs => hl s (by simp [hs])
      simp only [Lib.lens, List.map_cons, List.sum_cons, List.length_cons, Array.length_toList] at h3 ⊢
      have : x.size = x.data.size := rfl
      omega
  have h4 : ∀ s ∈ few ss, s.size ≤ 66 := by
    intro s hs
    obtain ⟨x, _, rfl⟩ := List.mem_map.1 hs
    simp; omega
  have h5 := few_len ss
  have h6 : ∀ l : List (List UInt8), (Lib.join l [44]).length ≤ Lib.lens l + l.length := by
    intro l
    cases l with
    | nil => simp [Lib.join_nil]
    | cons x r =>
      rw [Lib.join_cons, List.length_append, Lib.joinTail_length]
      simp only [Lib.lens, List.map_cons, List.sum_cons, List.length_cons, List.length_nil]
      omega
  have h7 := h1 _ h4
  have h8 := h6 ((few ss).map (·.data.toList))
  simp only [List.length_map] at h8
  unfold joined
  omega

theorem text_len' (xs : List UInt8) : (textBytes xs).length = 4 + xs.length := by simp [textBytes, be_length]

theorem part_len {k n : Int} {s : ByteArray} {ss : List ByteArray} (hs : s.size ≤ 200) : (partBytes k n s (few ss)).length ≤ 11000 := by
  have hj := joined_few ss
  have hsz : s.data.toList.length = s.size := by rw [Array.length_toList]; rfl
  have hm : (mpBytes s.data.toList).length ≤ s.size + 6 := by
    have h3 := bare_le s.data.toList
    rw [hsz] at h3
    unfold mpBytes
    rcases hb : bare s.data.toList with _ | ⟨x, r⟩
    · simp [be_length]
    · rw [hb] at h3
      simp only [List.length_cons] at h3
      by_cases hx : 128 ≤ x.toNat
      · simp [hx, be_length]; omega
      · simp [hx, be_length]; omega
  unfold partBytes
  repeat' split
  all_goals first | omega | (simp; done) | (simp [be_length]; done) | (rw [text_len']; omega)

theorem PSl.at {w : World} {ao : Option Addr} {n cap : Nat} {ps : List PartD} (h : PSl w (.slice ao n cap) ps) (k : Nat) (hk : k < ps.length) : ∃ b off, ao = some ⟨b, off, none⟩ ∧
    w.cell? ⟨b, off + k * 4, none⟩ = some (.int .i64 ps[k].k) ∧ w.cell? ⟨b, off + k * 4 + 1, none⟩ = some (.int .u64 ps[k].n) ∧ w.cell? ⟨b, off + k * 4 + 2, none⟩ = some (.string ps[k].s) ∧ w.cell? ⟨b, off + k * 4 + 3, none⟩ = some ps[k].l ∧
    0 ≤ ps[k].n ∧ ps[k].n < 18446744073709551616 ∧ SSl w ps[k].l ps[k].ss := by
  obtain ⟨ao, cap, e, h1, h2, h3, h4, hc⟩ := h
  cases e
  have h5 := h4 ps[k] (List.getElem_mem hk)
  cases ao with
  | none => have := (h3 rfl).1; subst this; simp at hk
  | some ad =>
    obtain ⟨b, off, rfl, hcell⟩ := hc ad rfl (by rintro rfl; simp at hk)
    obtain ⟨c0, c1, c2, c3⟩ := hcell k ps[k] (List.getElem?_eq_getElem hk)
    exact ⟨b, off, rfl, c0, c1, c2, c3, h5.1, h5.2.1, h5.2.2⟩

theorem PSl.fresh {w w' : World} {v : Value} {ps : List PartD} (h : PSl w v ps) (hb : Below w.heap.size w w') : PSl w' v ps := by
  obtain ⟨ao, cap, rfl, h1, h2, h3, h4, hc⟩ := h
  have hk : Keeps (fun _ => False) w w' := Keeps.ofFresh hb
  refine ⟨ao, cap, rfl, h1, h2, h3, fun p hp => ⟨(h4 p hp).1, (h4 p hp).2.1, (h4 p hp).2.2.fresh hb⟩, ?_⟩
  rintro ad rfl hx
  obtain ⟨b, off, rfl, hcell⟩ := hc ad rfl hx
  refine ⟨b, off, rfl, fun i p hp => ?_⟩
  obtain ⟨c0, c1, c2, c3⟩ := hcell i p hp
  exact ⟨hk.cell c0 (fun h => h), hk.cell c1 (fun h => h), hk.cell c2 (fun h => h), hk.cell c3 (fun h => h)⟩

set_option maxHeartbeats 1600000 in
set_option maxRecDepth 100000 in
theorem wireWrites_c (v : Value) (ps : List PartD) (w : World) (hv : PSl w v ps) :
    Calls Try.prog 4 #[v] w fun e w' => e = .returned (.bool true) ∧ Below w.heap.size w w' := by
  have HV : Hid (PSl w v ps) := hv
  obtain ⟨ao, cap, rfl, hc1, hc2, hc3, hc4, hc5⟩ := hv
  unfold maxLen at hc2
  clear hc3 hc4 hc5
  go_enter Try.func4, Try.ntmps4
  go_wp2_with fail
  refine (newWriter_c _).mono ?_
  rintro e w1 ⟨rfl, rfl⟩
  have hw1 := WS.new w (Nat.le_refl _)
  have hb1 : Below w.heap.size w (w.alloc (.cells #[.slice none 0 0] 80)) := (Below.refl _ _).alloc (Nat.le_refl _) _
  generalize w.alloc (.cells #[.slice none 0 0] 80) = w1 at hw1 hb1 ⊢
  go_wp2_with fail
  go_loopw [4, 5] (fun b i wr => ∃ (k : Nat) (bs : List UInt8) (g : Option Nat), k ≤ ps.length ∧ k ≤ 30 ∧ i = .int .i64 k ∧ bs.length ≤ k * 11000 ∧ WS wr w.heap.size w.heap.size g bs ∧ BSl wr b bs ∧ (b.ownBlock ≠ some w.heap.size ∧ ∀ k, g = some k → b.ownBlock ≠ some k) ∧ Below w.heap.size w wr) (fun _ i _ => ps.length - (intOf i).toNat)
  case atStart => exact ⟨0, [], none, Nat.zero_le _, by omega, rfl, by simp, hw1, ⟨none, 0, rfl, by simp, by simp [maxLen], fun _ => ⟨rfl, rfl⟩, (fun ad e => by cases e)⟩, ⟨by simp [Value.ownBlock], fun k e => by cases e⟩, hb1⟩
  case round =>
    clear hw1 hb1
    obtain ⟨k, bs, g, hk, hk30, rfl, hlen, hws, hbs, hap, hb⟩ := hrel
    by_cases hlt : k < ps.length
    · by_cases hlt8 : k < 30
      · obtain ⟨b, off, rfl, c0, c1, c2, c3, hn0, hn1, hss⟩ := (HV.out.fresh hb).at k hlt
        obtain ⟨pk, hpk⟩ : ∃ p, p = ps[k] := ⟨_, rfl⟩
        rw [← hpk] at c0 c1 c2 c3 hn0 hn1 hss
        clear hpk
        obtain ⟨kk, n, s, l, ss⟩ := pk
        simp only at c0 c1 c2 c3 hn0 hn1 hss
        obtain ⟨lo, lc, rfl, _⟩ := id hss
        have h30 : (k : Int) < 30 := by omega
        go_wp2_with fail
        refine (short_c kk n s _ ss wr hss).mono ?_
        rintro e w2 ⟨l2, rfl, hl2, hlb2, hb2⟩
        have hws2 := hws.keep (S := fun _ => False) (Keeps.ofFresh hb2) (fun h => h) (fun _ _ h => h)
        have hbs2 := hbs.fresh hb2
        have hs2 : (s.extract 0 200).size ≤ 200 := by simp; omega
        generalize s.extract 0 200 = s2 at hs2 ⊢
        have hpl := part_len (k := kk) (n := n) (ss := ss) hs2
        have PI : PutIn n s2 l2 (few ss) u4 bs w2 w.heap.size w.heap.size g bs :=
          ⟨hn0, hn1, by omega, hl2, joined_few ss, by have := few_len ss; omega, hws2, hbs2, hap, ⟨fun e => by have h1 := hlb2 _ e; have h2 := hws.lt; omega, fun k hk e => by have h1 := hlb2 _ e; have h2 := (hws.rowLt k hk).2; omega⟩, by omega, by omega⟩
        have hb3 := hb.trans (hb2.mono hb.size)
        have HB3 : Hid (Below w.heap.size w w2) := hb3
        clear hb3 hb2 hws2 hbs2 hl2 hlb2 hss c0 c1 c2 c3 hws hbs hap hb
        go_wp2_with fail
        refine (put_c kk PI).mono ?_
        rintro e w3 ⟨v3, g3, rfl, hws3, hbs3, hap3, hwr3, _⟩
        have hb4 := HB3.out.trans (hwr3.below PI.state)
        obtain ⟨bs3, hB3⟩ : ∃ b, b = bs ++ partBytes kk n s2 (few ss) := ⟨_, rfl⟩
        have hl3 : bs3.length ≤ (k + 1) * 11000 := by rw [hB3, List.length_append]; omega
        rw [← hB3] at hws3 hbs3
        clear hB3 hpl PI HB3 hwr3 hlen hn0 hn1
        go_wp2_with fail
        have hd : BSl w3.drew v3 bs3 := hbs3.keep (S := fun _ => False) (Keeps.refl _ _).drew fun _ _ h => h
        have hwd : WS w3.drew w.heap.size w.heap.size g3 bs3 := hws3.keep (S := fun _ => False) (Keeps.refl _ _).drew (fun h => h) (fun _ _ h => h)
        have hcv := run_string hd
        have HD : Hid (BSl w3.drew v3 bs3) := hd
        have HW3 : Hid (WS w3.drew w.heap.size w.heap.size g3 bs3) := hwd
        clear hd hwd
        go_region_with (go_at_call 20; refine (done_c _ HW3.out (by omega)).mono ?_; rintro e w4 ⟨v4, rfl, ho4, hb5⟩; have hcv4 := run_string (BSl.ofRow ho4); have hcv5 := run_string (HD.out.fresh hb5))
        all_goals
          go_wp2
          go_roundw
          case rel => exact ⟨k + 1, bs3, g3, by omega, by omega, by go_num, hl3, HW3.out.keep (S := fun _ => False) (Keeps.ofFresh hb5) (fun h => h) (fun _ _ h => h), HD.out.fresh hb5, hap3, hb4.drew.trans (hb5.mono hb4.size)⟩
          case measure => simp [intOf]; omega
      · have h30 : ¬ (k : Int) < 30 := by omega
        go_wp2_with fail
        have hd : BSl wr.drew u4 bs := hbs.keep (S := fun _ => False) (Keeps.refl _ _).drew fun _ _ h => h
        have hwd : WS wr.drew w.heap.size w.heap.size g bs := hws.keep (S := fun _ => False) (Keeps.refl _ _).drew (fun h => h) (fun _ _ h => h)
        have hcv := run_string hd
        have HD : Hid (BSl wr.drew u4 bs) := hd
        have HW3 : Hid (WS wr.drew w.heap.size w.heap.size g bs) := hwd
        have HBw : Hid (Below w.heap.size w wr) := hb
        clear hd hwd hws hbs hap hb
        go_region_with (first | (go_at_call 20; refine (done_c _ HW3.out (by omega)).mono ?_; rintro e w4 ⟨v4, rfl, ho4, hb5⟩; have hcv4 := run_string (BSl.ofRow ho4); have hcv5 := run_string (HD.out.fresh hb5)) | (go_at_call 16; refine (known_c _).mono ?_; rintro e w5 ⟨rfl, hb6⟩))
        all_goals
          go_wp2
          go_ret
          exact ⟨rfl, (HBw.out.drew.trans (hb5.mono HBw.out.size)).trans (hb6.mono (Nat.le_trans HBw.out.size hb5.size))⟩
    · go_wp2_with fail
      have hd : BSl wr.drew u4 bs := hbs.keep (S := fun _ => False) (Keeps.refl _ _).drew fun _ _ h => h
      have hwd : WS wr.drew w.heap.size w.heap.size g bs := hws.keep (S := fun _ => False) (Keeps.refl _ _).drew (fun h => h) (fun _ _ h => h)
      have hcv := run_string hd
      have HD : Hid (BSl wr.drew u4 bs) := hd
      have HW3 : Hid (WS wr.drew w.heap.size w.heap.size g bs) := hwd
      have HBw : Hid (Below w.heap.size w wr) := hb
      clear hd hwd hws hbs hap hb
      go_region_with (first | (go_at_call 20; refine (done_c _ HW3.out (by omega)).mono ?_; rintro e w4 ⟨v4, rfl, ho4, hb5⟩; have hcv4 := run_string (BSl.ofRow ho4); have hcv5 := run_string (HD.out.fresh hb5)) | (go_at_call 16; refine (known_c _).mono ?_; rintro e w5 ⟨rfl, hb6⟩))
      all_goals
        go_wp2
        go_ret
        exact ⟨rfl, (HBw.out.drew.trans (hb5.mono HBw.out.size)).trans (hb6.mono (Nat.le_trans HBw.out.size hb5.size))⟩

end Go.Proofs.Ytmecclefkgbmpaa
