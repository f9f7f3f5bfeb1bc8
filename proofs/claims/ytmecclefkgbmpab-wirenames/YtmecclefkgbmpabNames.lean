/- The walk of the law WireNames. -/
import Derived.Test.YtmecclefkgbmpabNamP
import Derived.Test.YtmecclefkgbmpabKnown
namespace Go.Proofs.Ytmecclefkgbmpab
open Go Go.RowKit

theorem hid_i {p : Prop} (h : p) : Hid p := h

set_option maxHeartbeats 3200000 in
set_option maxRecDepth 100000 in
theorem wireNames_c (s0 : ByteArray) (w : World) :
    Calls Try.prog 3 #[.string s0] w fun e w' => e = .returned (.bool true) ∧ Below w.heap.size w w' := by
  go_enter Try.func3, Try.ntmps3
  go_wp2_with fail
  refine (head_c s0 300 (by omega) _).mono ?_
  rintro e w0 ⟨rfl, rfl⟩
  have hs : (s0.extract 0 300).size ≤ 300 := by simp; omega
  generalize s0.extract 0 300 = s at hs ⊢
  have hsz : s.data.toList.length = s.size := by rw [Array.length_toList]; rfl
  go_wp2_with fail
  refine (newWriter_c _).mono ?_
  rintro e w1 ⟨rfl, rfl⟩
  have hw1 := WS.new w0 (Nat.le_refl _)
  have hb1 : Below w0.heap.size w0 (w0.alloc (.cells #[.slice none 0 0] 38)) := (Below.refl _ _).alloc (Nat.le_refl _) _
  generalize w0.alloc (.cells #[.slice none 0 0] 38) = w1 at hw1 hb1 ⊢
  go_wp2_with fail
  refine (text_c s (by omega) _ hw1 (by simp; omega)).mono ?_
  rintro e w2 ⟨rfl, g2, hw2, hwr2⟩
  have hb2 := hb1.trans (hwr2.below hw1)
  rw [List.nil_append] at hw2
  have HNX := hid_i (nx_text s.data.toList (by omega))
  have HTL : Hid ((textBytes s.data.toList).length = 4 + s.size) := by show _ = _; simp [textBytes, be_length]
  have HB2 : Hid (Below w0.heap.size w0 w2) := hb2
  clear hwr2 hb1 hw1 hb2
  go_wp2_with fail
  refine (done_c _ hw2 (by have := HTL.out; omega)).mono ?_
  rintro e w3 ⟨v3, rfl, ho3, hb3⟩
  have HB3 : Hid (Below w0.heap.size w0 w3) := HB2.out.trans (hb3.mono HB2.out.size)
  clear hw2 hb3 HB2
  go_wp2_with fail
  refine (newReader_c v3 _ _ (BSl.ofRow ho3) (by have := HTL.out; omega)).mono ?_
  rintro e w4 ⟨a, g, rfl, hr4, ha4, hg4, hb4⟩
  have HB4 : Hid (Below w0.heap.size w0 w4) := HB3.out.trans (hb4.mono HB3.out.size)
  have HA : Hid (w0.heap.size ≤ a) := Nat.le_trans HB3.out.size ha4
  clear ho3 hb4 HB3 ha4 hg4
  go_wp2_with fail
  refine (names_r _ hr4).mono ?_
  rintro e w5 ⟨v5, rfl, hs5, hf5, ht5⟩
  rw [HNX.out] at hs5 ht5
  have HRS := hid_i (fun ns => @res_some s.data.toList ns)
  have HRN := hid_i (@res_none s.data.toList)
  generalize res s.data.toList = R at hs5 ht5 HRS HRN
  have HB5 : Hid (Below w0.heap.size w0 w5) := HB4.out.trans (ht5.keeps.below HB4.out.size fun _ e => e ▸ HA.out)
  go_wp2_with fail
  refine (end_r _ ht5.state).mono ?_
  rintro e w6 ⟨rfl, hk6⟩
  have HS6 : Hid (SSl w6 v5 (texts R.1)) := hs5.keep hk6 (fun _ _ h => h)
  have HB6 : Hid (Below w0.heap.size w0 w6) := HB5.out.trans (hk6.below HB5.out.size fun _ h => h.elim)
  obtain ⟨no, nc, rfl, _⟩ := hs5
  generalize ends (textBytes s.data.toList) R.2.1 R.2.2 = E at HRS HRN
  obtain ⟨E1, E2⟩ := E
  have HL := hid_i (rfl : (texts R.1).length = (texts R.1).length)
  generalize h9 : (texts R.1).length = L at HS6 ⊢
  replace HL := hid_i h9
  clear h9
  clear hk6 ht5 hf5 HB5 HB4 hr4 HNX
  go_wp2_with fail
  have HP0 : Hid (Sees s.data.toList true 0 0) := sees_start _
  go_loopw [8, 9, 10] (fun f z i wr => ∃ (k sz : Nat) (b : Bool), k ≤ s.size ∧ sz ≤ k ∧ i = .int .i64 k ∧ z = .int .i64 sz ∧ f = .bool b ∧ Sees s.data.toList b sz k ∧ (k = 0 → b = true) ∧ wr = w6) (fun _ _ i _ => s.size - (intOf i).toNat)
  case atStart => exact ⟨0, 0, true, Nat.zero_le _, Nat.le_refl _, rfl, rfl, rfl, HP0.out, fun _ => rfl, rfl⟩
  case round =>
    clear HP0
    obtain ⟨k, sz, b, hk, hszk, rfl, rfl, rfl, hsee, h0, hwr⟩ := hrel
    subst hwr
    have HSE : Hid (Sees s.data.toList b sz k) := hsee
    clear hsee
    by_cases hlt : k < s.size
    · have hlt' : (k : Int) < (s.size : Int) := by omega
      have hx : s.data.toList[k]? = some s[k] := by rw [Array.getElem?_toList]; exact Array.getElem?_eq_getElem hlt
      have hxl := s[k].toNat_lt
      have hl1 : (s.data.toList).length = s.size := hsz
      by_cases hc : s[k].toNat = 44
      · have hc1 : ((s[k].toNat : Int) == 44) = true := by rw [hc]; rfl
        cases b with
        | false =>
          go_wp2
          go_roundw
          case rel => exact ⟨k + 1, 0, false, by omega, by omega, by go_num, rfl, rfl, sees_no HSE.out _ _, fun h => by omega, trivial⟩
          case measure => simp [intOf]; omega
        | true =>
          have HN := hid_i (sees_comma HSE.out hx hc)
          clear HSE hx
          by_cases h1 : 0 < sz
          · have h1' : (0 : Int) < (sz : Int) := by omega
            by_cases h2 : sz ≤ 64
            · have h2' : (sz : Int) ≤ 64 := by omega
              by_cases h3 : k + 1 < s.size
              · have h3' : (k : Int) + 1 < (s.size : Int) := by omega
                go_wp2
                go_roundw
                case rel => exact ⟨k + 1, 0, true, by omega, by omega, by go_num, rfl, rfl, by simpa [h1, h2, hl1, h3] using HN.out, fun h => by omega, trivial⟩
                case measure => simp [intOf]; omega
              · have h3' : ¬ (k : Int) + 1 < (s.size : Int) := by omega
                go_wp2
                go_roundw
                case rel => exact ⟨k + 1, 0, false, by omega, by omega, by go_num, rfl, rfl, by simpa [h1, h2, hl1, h3] using HN.out, fun h => by omega, trivial⟩
                case measure => simp [intOf]; omega
            · have h2' : ¬ (sz : Int) ≤ 64 := by omega
              go_wp2
              go_roundw
              case rel => exact ⟨k + 1, 0, false, by omega, by omega, by go_num, rfl, rfl, by simpa [h1, h2] using HN.out, fun h => by omega, trivial⟩
              case measure => simp [intOf]; omega
          · have h1' : ¬ (0 : Int) < (sz : Int) := by omega
            go_wp2
            go_roundw
            case rel => exact ⟨k + 1, 0, false, by omega, by omega, by go_num, rfl, rfl, by simpa [h1] using HN.out, fun h => by omega, trivial⟩
            case measure => simp [intOf]; omega
      · have hc1 : ((s[k].toNat : Int) == 44) = false := by
          rw [beq_eq_false_iff_ne]
          omega
        cases b with
        | false =>
          go_wp2
          go_roundw
          case rel => exact ⟨k + 1, sz + 1, false, by omega, by omega, by go_num, by go_num, rfl, sees_no HSE.out _ _, fun h => by omega, trivial⟩
          case measure => simp [intOf]; omega
        | true =>
          have HN := hid_i (sees_other HSE.out hx hc)
          clear HSE hx
          by_cases h1 : 33 ≤ s[k].toNat
          · have h1' : (33 : Int) ≤ (s[k].toNat : Int) := by omega
            by_cases h2 : s[k].toNat ≤ 126
            · have h2' : (s[k].toNat : Int) ≤ 126 := by omega
              go_wp2
              go_roundw
              case rel => exact ⟨k + 1, sz + 1, true, by omega, by omega, by go_num, by go_num, rfl, by simpa [h1, h2] using HN.out, fun h => by omega, trivial⟩
              case measure => simp [intOf]; omega
            · have h2' : ¬ (s[k].toNat : Int) ≤ 126 := by omega
              go_wp2
              go_roundw
              case rel => exact ⟨k + 1, sz + 1, false, by omega, by omega, by go_num, by go_num, rfl, by simpa [h1, h2] using HN.out, fun h => by omega, trivial⟩
              case measure => simp [intOf]; omega
          · have h1' : ¬ (33 : Int) ≤ (s[k].toNat : Int) := by omega
            go_wp2
            go_roundw
            case rel => exact ⟨k + 1, sz + 1, false, by omega, by omega, by go_num, by go_num, rfl, by simpa [h1] using HN.out, fun h => by omega, trivial⟩
            case measure => simp [intOf]; omega
    · obtain rfl : k = s.size := by omega
      have hlt' : ¬ (s.size : Int) < (s.size : Int) := by omega
      have hSE := sees_end (xs := s.data.toList) (f := b) (sz := sz) (by rw [hsz]; exact HSE.out) (fun h => h0 (by omega))
      cases b with
      | false =>
        obtain ⟨hR1, hE⟩ := HRN.out (hSE.2 (by simp))
        obtain ⟨rfl, rfl⟩ := Prod.mk.inj hE
        obtain rfl : L = 0 := by rw [← HL.out, hR1]; rfl
        clear HSE hSE HRN HRS
        go_wp2_with fail
        refine (known_c _).mono ?_
        rintro e w8 ⟨rfl, hb8⟩
        have HB8 : Hid (Below w0.heap.size w0 w8) := HB6.out.trans (hb8.mono HB6.out.size)
        go_wp2
        go_ret
        exact ⟨rfl, HB8.out⟩
      | true =>
        by_cases hz : s.size = 0
        · have hz1 : ((s.size : Int) == 0) = true := by rw [hz]; rfl
          obtain ⟨ns, hns⟩ := hSE.1 ⟨rfl, .inl (by omega)⟩
          obtain ⟨hR1, hE⟩ := HRS.out ns hns
          obtain ⟨rfl, rfl⟩ := Prod.mk.inj hE
          have HNS := hid_i hns
          obtain rfl : L = ns.length := by rw [← HL.out, hR1]; simp [texts]
          rw [hR1] at HS6
          have hnl : ns.length ≤ 9223372036854775807 := by
            obtain ⟨_, _, e, h1, h2, _⟩ := HS6.out
            unfold maxLen at h2
            simp [texts] at h1
            omega
          clear HSE hSE HRN HRS hns hR1 hE HL
          go_wp2_with fail
          go_loopw [11, 12] (fun bb i wq => ∃ k : Nat, k ≤ ns.length ∧ i = .int .i64 k ∧ bb = .string ⟨(bk ns k).toArray⟩ ∧ wq = wr) (fun _ i _ => ns.length - (intOf i).toNat)
          case atStart => exact ⟨0, Nat.zero_le _, rfl, rfl, rfl⟩
          case round =>
            obtain ⟨j, hj, rfl, rfl, hwq⟩ := hrel
            subst hwq
            by_cases hjl : j < ns.length
            · have hjl' : (j : Int) < (ns.length : Int) := by omega
              obtain ⟨x, hx⟩ : ∃ x, ns[j]? = some x := ⟨_, List.getElem?_eq_getElem hjl⟩
              obtain ⟨b, off, rfl⟩ := ssl_addr HS6.out (by intro e; have := congrArg List.length e; simp [texts] at this; simp [this] at hjl)
              have hcell := ssl_cell HS6.out j ⟨x.toArray⟩ (by simp [texts, hx])
              have hxs : (⟨x.toArray⟩ : ByteArray).size ≤ 300 := by rw [bab_size]; have := name_size HNS.out j x hx; omega
              have hbs : (⟨(bk ns j).toArray⟩ : ByteArray).size ≤ 300 := by rw [bab_size]; have := bk_size HNS.out j hj; omega
              have hcs : (⟨#[44]⟩ : ByteArray).size = 1 := rfl
              cases j with
              | zero =>
                have HN : Hid ((⟨(bk ns 0).toArray⟩ : ByteArray) ++ ⟨x.toArray⟩ = ⟨(bk ns 1).toArray⟩) := by show _ = _; rw [bab_append, bk_first ns x hx]; rfl
                generalize (⟨x.toArray⟩ : ByteArray) = X at *
                generalize (⟨(bk ns 0).toArray⟩ : ByteArray) = B at *
                clear hx
                rw [Nat.add_zero] at hcell
                go_wp2
                go_roundw
                case rel => exact ⟨1, by omega, rfl, congrArg Value.string HN.out, trivial⟩
                case measure => simp [intOf]; omega
              | succ j =>
                have HN : Hid (((⟨(bk ns (j + 1)).toArray⟩ : ByteArray) ++ ⟨#[44]⟩) ++ ⟨x.toArray⟩ = ⟨(bk ns (j + 2)).toArray⟩) := by show _ = _; rw [show (⟨#[44]⟩ : ByteArray) = ⟨[44].toArray⟩ from rfl, bab_append, bab_append, bk_next ns j x hx]
                generalize (⟨x.toArray⟩ : ByteArray) = X at *
                generalize (⟨(bk ns (j + 1)).toArray⟩ : ByteArray) = B at *
                clear hx
                go_wp2
                go_roundw
                case rel => exact ⟨j + 2, by omega, by go_num, congrArg Value.string HN.out, trivial⟩
                case measure => simp [intOf]; omega
            · obtain rfl : j = ns.length := by omega
              have hjl' : ¬ (ns.length : Int) < (ns.length : Int) := by omega
              have hfin := bab_self s (bk ns ns.length) (bk_all HNS.out)
              rw [hfin]
              go_wp2_with fail
              refine (known_c _).mono ?_
              rintro e w8 ⟨rfl, hb8⟩
              have HB8 : Hid (Below w0.heap.size w0 w8) := HB6.out.trans (hb8.mono HB6.out.size)
              go_wp2
              go_ret
              exact ⟨rfl, HB8.out⟩
        · have hz1 : ((s.size : Int) == 0) = false := by rw [beq_eq_false_iff_ne]; omega
          by_cases h1 : 0 < sz
          · have h1' : (0 : Int) < (sz : Int) := by omega
            by_cases h2 : sz ≤ 64
            · have h2' : (sz : Int) ≤ 64 := by omega
              obtain ⟨ns, hns⟩ := hSE.1 ⟨rfl, .inr ⟨h1, h2⟩⟩
              obtain ⟨hR1, hE⟩ := HRS.out ns hns
              obtain ⟨rfl, rfl⟩ := Prod.mk.inj hE
              have HNS := hid_i hns
              obtain rfl : L = ns.length := by rw [← HL.out, hR1]; simp [texts]
              rw [hR1] at HS6
              have hnl : ns.length ≤ 9223372036854775807 := by
                obtain ⟨_, _, e, h1, h2, _⟩ := HS6.out
                unfold maxLen at h2
                simp [texts] at h1
                omega
              clear HSE hSE HRN HRS hns hR1 hE HL
              go_wp2_with fail
              go_loopw [11, 12] (fun bb i wq => ∃ k : Nat, k ≤ ns.length ∧ i = .int .i64 k ∧ bb = .string ⟨(bk ns k).toArray⟩ ∧ wq = wr) (fun _ i _ => ns.length - (intOf i).toNat)
              case atStart => exact ⟨0, Nat.zero_le _, rfl, rfl, rfl⟩
              case round =>
                obtain ⟨j, hj, rfl, rfl, hwq⟩ := hrel
                subst hwq
                by_cases hjl : j < ns.length
                · have hjl' : (j : Int) < (ns.length : Int) := by omega
                  obtain ⟨x, hx⟩ : ∃ x, ns[j]? = some x := ⟨_, List.getElem?_eq_getElem hjl⟩
                  obtain ⟨b, off, rfl⟩ := ssl_addr HS6.out (by intro e; have := congrArg List.length e; simp [texts] at this; simp [this] at hjl)
                  have hcell := ssl_cell HS6.out j ⟨x.toArray⟩ (by simp [texts, hx])
                  have hxs : (⟨x.toArray⟩ : ByteArray).size ≤ 300 := by rw [bab_size]; have := name_size HNS.out j x hx; omega
                  have hbs : (⟨(bk ns j).toArray⟩ : ByteArray).size ≤ 300 := by rw [bab_size]; have := bk_size HNS.out j hj; omega
                  have hcs : (⟨#[44]⟩ : ByteArray).size = 1 := rfl
                  cases j with
                  | zero =>
                    have HN : Hid ((⟨(bk ns 0).toArray⟩ : ByteArray) ++ ⟨x.toArray⟩ = ⟨(bk ns 1).toArray⟩) := by show _ = _; rw [bab_append, bk_first ns x hx]; rfl
                    generalize (⟨x.toArray⟩ : ByteArray) = X at *
                    generalize (⟨(bk ns 0).toArray⟩ : ByteArray) = B at *
                    clear hx
                    rw [Nat.add_zero] at hcell
                    go_wp2
                    go_roundw
                    case rel => exact ⟨1, by omega, rfl, congrArg Value.string HN.out, trivial⟩
                    case measure => simp [intOf]; omega
                  | succ j =>
                    have HN : Hid (((⟨(bk ns (j + 1)).toArray⟩ : ByteArray) ++ ⟨#[44]⟩) ++ ⟨x.toArray⟩ = ⟨(bk ns (j + 2)).toArray⟩) := by show _ = _; rw [show (⟨#[44]⟩ : ByteArray) = ⟨[44].toArray⟩ from rfl, bab_append, bab_append, bk_next ns j x hx]
                    generalize (⟨x.toArray⟩ : ByteArray) = X at *
                    generalize (⟨(bk ns (j + 1)).toArray⟩ : ByteArray) = B at *
                    clear hx
                    go_wp2
                    go_roundw
                    case rel => exact ⟨j + 2, by omega, by go_num, congrArg Value.string HN.out, trivial⟩
                    case measure => simp [intOf]; omega
                · obtain rfl : j = ns.length := by omega
                  have hjl' : ¬ (ns.length : Int) < (ns.length : Int) := by omega
                  have hfin := bab_self s (bk ns ns.length) (bk_all HNS.out)
                  rw [hfin]
                  go_wp2_with fail
                  refine (known_c _).mono ?_
                  rintro e w8 ⟨rfl, hb8⟩
                  have HB8 : Hid (Below w0.heap.size w0 w8) := HB6.out.trans (hb8.mono HB6.out.size)
                  go_wp2
                  go_ret
                  exact ⟨rfl, HB8.out⟩
            · have h2' : ¬ (sz : Int) ≤ 64 := by omega
              obtain ⟨hR1, hE⟩ := HRN.out (hSE.2 (by rw [hsz]; rintro ⟨_, e | ⟨_, e⟩⟩ <;> omega))
              obtain ⟨rfl, rfl⟩ := Prod.mk.inj hE
              obtain rfl : L = 0 := by rw [← HL.out, hR1]; rfl
              clear HSE hSE HRN HRS
              go_wp2_with fail
              refine (known_c _).mono ?_
              rintro e w8 ⟨rfl, hb8⟩
              have HB8 : Hid (Below w0.heap.size w0 w8) := HB6.out.trans (hb8.mono HB6.out.size)
              go_wp2
              go_ret
              exact ⟨rfl, HB8.out⟩
          · have h1' : ¬ (0 : Int) < (sz : Int) := by omega
            obtain ⟨hR1, hE⟩ := HRN.out (hSE.2 (by rw [hsz]; rintro ⟨_, e | ⟨e, _⟩⟩ <;> omega))
            obtain ⟨rfl, rfl⟩ := Prod.mk.inj hE
            obtain rfl : L = 0 := by rw [← HL.out, hR1]; rfl
            clear HSE hSE HRN HRS
            go_wp2_with fail
            refine (known_c _).mono ?_
            rintro e w8 ⟨rfl, hb8⟩
            have HB8 : Hid (Below w0.heap.size w0 w8) := HB6.out.trans (hb8.mono HB6.out.size)
            go_wp2
            go_ret
            exact ⟨rfl, HB8.out⟩

end Go.Proofs.Ytmecclefkgbmpab
