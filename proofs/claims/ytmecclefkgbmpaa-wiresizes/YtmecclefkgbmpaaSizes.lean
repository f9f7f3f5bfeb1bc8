/- The walk of the law WireSizes. -/
import Derived.Test.YtmecclefkgbmpaaKnown
import Derived.Lib.Strings
namespace Go.Proofs.Ytmecclefkgbmpaa
open Go Go.RowKit

theorem mp_nil {xs : List UInt8} (h : bare xs = []) : (mpBytes xs).length = 4 := by unfold mpBytes; rw [h]; rfl
theorem mp_top {xs r : List UInt8} {x : UInt8} (h : bare xs = x :: r) (ht : 128 ≤ x.toNat) : (mpBytes xs).length = 4 + (r.length + 2) ∧ (mpBytes xs)[4]? = some 0 := by
  unfold mpBytes; rw [h]; simp [ht, be]; omega
theorem mp_low {xs r : List UInt8} {x : UInt8} (h : bare xs = x :: r) (ht : ¬ 128 ≤ x.toNat) : (mpBytes xs).length = 4 + (r.length + 1) ∧ (mpBytes xs)[4]? = some x := by
  unfold mpBytes; rw [h]; simp [ht, be]; omega
theorem text_len (xs : List UInt8) : (textBytes xs).length = 4 + xs.length := by simp [textBytes, be_length]

theorem drop_at (s : ByteArray) (k : Nat) (h : k < s.size) : s.data.toList.drop k = s[k] :: s.data.toList.drop (k + 1) := by
  rw [List.drop_eq_getElem_cons (by simpa using h)]
  rfl

set_option maxHeartbeats 1600000 in
set_option maxRecDepth 100000 in
theorem wireSizes_c (n : Int) (h0 : 0 ≤ n) (h1 : n < 18446744073709551616) (s : ByteArray) (w : World) :
    Calls Try.prog 8 #[.int .u64 n, .string s] w fun e w' => e = .returned (.bool true) ∧ Below w.heap.size w w' := by
  go_enter Try.func8, Try.ntmps8
  go_wp2_with fail
  refine (head_c s 200 (by omega) _).mono ?_
  rintro e w' ⟨rfl, rfl⟩
  have ht : (s.extract 0 200).size ≤ 200 := by simp; omega
  generalize s.extract 0 200 = t at ht ⊢
  go_wp2_with fail
  refine (newWriter_c _).mono ?_
  rintro e w1 ⟨rfl, rfl⟩
  have hw1 := WS.new w' (Nat.le_refl _)
  have hb1 : Below w'.heap.size w' (w'.alloc (.cells #[.slice none 0 0] 80)) := (Below.refl _ _).alloc (Nat.le_refl _) _
  generalize w'.alloc (.cells #[.slice none 0 0] 80) = w1 at hw1 hb1 ⊢
  go_wp2_with fail
  refine (byte_c _ _ hw1 (by simp)).mono ?_
  rintro e w2 ⟨rfl, g2, hw2, hwr2⟩
  have hb2 := hb1.trans (hwr2.below hw1)
  generalize hB2 : [] ++ [byteOf _] = bs2 at hw2
  have hL2 : Hid (bs2.length = 1) := by rw [← hB2]; rfl
  clear hwr2 hw1 hb1 hB2
  go_wp2_with fail
  refine (done_c _ hw2 (by rw [hL2.out]; omega)).mono ?_
  rintro e w3 ⟨v3, rfl, ho3, hb3⟩
  have hw3 := hw2.keep (S := fun _ => False) (Keeps.ofFresh hb3) (fun h => h) (fun _ _ h => h)
  have hb3' := hb2.trans (hb3.mono (Nat.le_trans hw2.base (Nat.le_of_lt hw2.lt)))
  obtain ⟨ao3, cp3, rfl⟩ := ownsRow_shape ho3
  clear hw2 hb2 hb3 ho3
  rw [hL2.out]
  go_wp2_with fail
  refine (u32_c _ (by omega) (by omega) _ hw3 (by rw [hL2.out]; omega)).mono ?_
  rintro e w4 ⟨rfl, g4, hw4, hwr4⟩
  have hb4' := hb3'.trans (hwr4.below hw3)
  obtain ⟨bs4, hB4⟩ : ∃ b, b = bs2 ++ be 4 (n % 4294967296).toNat := ⟨_, rfl⟩
  rw [← hB4] at hw4
  have hL4 : Hid (bs4.length = 5) := by rw [hB4, List.length_append, hL2.out, be_length]; rfl
  clear hwr4 hw3 hb3' hB4 hL2
  go_wp2_with fail
  refine (done_c _ hw4 (by rw [hL4.out]; omega)).mono ?_
  rintro e w5 ⟨v5, rfl, ho5, hb5⟩
  have hw5 := hw4.keep (S := fun _ => False) (Keeps.ofFresh hb5) (fun h => h) (fun _ _ h => h)
  have hb5' := hb4'.trans (hb5.mono (Nat.le_trans hw4.base (Nat.le_of_lt hw4.lt)))
  obtain ⟨ao5, cp5, rfl⟩ := ownsRow_shape ho5
  clear hw4 hb4' hb5 ho5
  rw [hL4.out]
  go_wp2_with fail
  refine (u64_c _ (by omega) (by omega) _ hw5 (by rw [hL4.out]; omega)).mono ?_
  rintro e w6 ⟨rfl, g6, hw6, hwr6⟩
  have hb6' := hb5'.trans (hwr6.below hw5)
  obtain ⟨bs6, hB6⟩ : ∃ b, b = bs4 ++ be 8 n.toNat := ⟨_, rfl⟩
  rw [← hB6] at hw6
  have hL6 : Hid (bs6.length = 13) := by rw [hB6, List.length_append, hL4.out, be_length]; rfl
  clear hwr6 hw5 hb5' hB6 hL4
  go_wp2_with fail
  refine (done_c _ hw6 (by rw [hL6.out]; omega)).mono ?_
  rintro e w7 ⟨v7, rfl, ho7, hb7⟩
  have hw7 := hw6.keep (S := fun _ => False) (Keeps.ofFresh hb7) (fun h => h) (fun _ _ h => h)
  have hb7' := hb6'.trans (hb7.mono (Nat.le_trans hw6.base (Nat.le_of_lt hw6.lt)))
  obtain ⟨ao7, cp7, rfl⟩ := ownsRow_shape ho7
  clear hw6 hb6' hb7 ho7
  rw [hL6.out]
  go_wp2_with fail
  refine (text_c t (by omega) _ hw7 (by rw [hL6.out]; omega)).mono ?_
  rintro e w8 ⟨rfl, g8, hw8, hwr8⟩
  have hb8' := hb7'.trans (hwr8.below hw7)
  obtain ⟨bs8, hB8⟩ : ∃ b, b = bs6 ++ textBytes t.data.toList := ⟨_, rfl⟩
  rw [← hB8] at hw8
  have hts : t.data.toList.length = t.size := by rw [Array.length_toList]; rfl
  have hL8 : Hid (bs8.length = 17 + t.size) := by rw [hB8, List.length_append, hL6.out, text_len, hts]; show 13 + (4 + t.size) = 17 + t.size; omega
  clear hwr8 hw7 hb7' hB8 hL6
  go_wp2_with fail
  refine (done_c _ hw8 (by rw [hL8.out]; omega)).mono ?_
  rintro e w9 ⟨v9, rfl, ho9, hb9⟩
  have hw9 := hw8.keep (S := fun _ => False) (Keeps.ofFresh hb9) (fun h => h) (fun _ _ h => h)
  have hb9' := hb8'.trans (hb9.mono (Nat.le_trans hw8.base (Nat.le_of_lt hw8.lt)))
  obtain ⟨ao9, cp9, rfl⟩ := ownsRow_shape ho9
  clear hw8 hb8' hb9 ho9
  rw [hL8.out]
  have HT : Hid (t.data.toList.length = t.size) := hts
  clear hts
  have hcv := run_bytes t
  go_wp2_with fail
  have hkB : Keeps (fun _ => False) w9 (bytesW w9 t) := Keeps.ofFresh (bytesW_below w9 t)
  have hwB := hw9.keep hkB (fun h => h) (fun _ _ h => h)
  have hbB := hb9'.trans ((bytesW_below w9 t).mono (Nat.le_trans hw9.base (Nat.le_of_lt hw9.lt)))
  have hvB := bytes_bsl w9 t (by omega)
  have hap : (bytesV w9 t).ownBlock ≠ some w'.heap.size ∧ ∀ k, g8 = some k → (bytesV w9 t).ownBlock ≠ some k := by
    have h1 := hw9.lt
    refine ⟨by simp [bytesV, Value.ownBlock]; omega, fun k e h => ?_⟩
    have := (hw9.rowLt k e).2
    simp [bytesV, Value.ownBlock] at h
    omega
  clear hw9 hb9' hkB hcv
  generalize bytesW w9 t = wB at hwB hbB hvB ⊢
  obtain ⟨aoB, cpB, hvE, hvR⟩ : ∃ ao cap, bytesV w9 t = .slice ao t.size cap ∧ True := ⟨_, _, rfl, trivial⟩
  clear hvR
  rw [hvE] at hvB hap ⊢
  clear hvE
  refine (mpint_c _ _ (by rw [HT.out]; omega) _ hvB hwB hap (by rw [HT.out, hL8.out]; omega)).mono ?_
  rintro e w10 ⟨rfl, g10, hw10, hwr10⟩
  have hb10 := hbB.trans (hwr10.below hwB)
  clear hvB hap hwr10 hwB hbB
  have hM4 : Hid ((mpBytes t.data.toList).length ≤ 5 + t.size) := by
    show (mpBytes t.data.toList).length ≤ 5 + t.size
    have h3 := bare_le t.data.toList
    rw [HT.out] at h3
    rcases hb : bare t.data.toList with _ | ⟨x, r⟩
    · rw [mp_nil hb]; omega
    · rw [hb] at h3
      simp at h3
      by_cases hx : 128 ≤ x.toNat
      · rw [(mp_top hb hx).1]; omega
      · rw [(mp_low hb hx).1]; omega
  go_wp2_with fail
  refine (done_c _ hw10 (by rw [List.length_append, hL8.out]; have := hM4.out; omega)).mono ?_
  rintro e w11 ⟨v11, rfl, ho11, hb11⟩
  have hb11' := hb10.trans (hb11.mono (Nat.le_trans hw10.base (Nat.le_of_lt hw10.lt)))
  obtain ⟨g11, cp11, rfl, _, _⟩ := ho11.form (by rw [List.length_append, hL8.out]; omega)
  have HO : Hid (w11.ownsRow _ 5 1 _ _ (bcells (bs8 ++ mpBytes t.data.toList))) := ho11
  clear hw10 hb10 hb11 ho11
  obtain ⟨N, hN⟩ : ∃ N, N = (bs8 ++ mpBytes t.data.toList).length := ⟨_, rfl⟩
  have HNL : Hid (N = 17 + t.size + (mpBytes t.data.toList).length) := by rw [hN, List.length_append, hL8.out]; rfl
  rw [← hN]
  have HC : Hid (∀ u, (mpBytes t.data.toList)[4]? = some u → w11.cell? ⟨g11, 17 + t.size + 4, none⟩ = some (.int .u8 u.toNat)) := by
    intro u hu
    have h3 := HO.out.cells (g := g11) rfl (17 + t.size + 4) (.int .u8 u.toNat) (by
      simp only [bcells, List.getElem?_map]
      rw [List.getElem?_append_right (by rw [hL8.out]; omega), hL8.out, show 17 + t.size + 4 - (17 + t.size) = 4 from by omega, hu]
      rfl)
    rw [add_lit', Nat.zero_add] at h3
    exact h3
  clear hN HO hM4 hL8
  go_wp2_with fail
  go_loop [11] (fun i => ∃ k : Nat, k ≤ t.size ∧ i = .int .i64 k ∧ bare (t.data.toList.drop k) = bare t.data.toList) (fun i => t.size - (intOf i).toNat)
  case atStart => exact ⟨0, Nat.zero_le _, rfl, rfl⟩
  case round =>
    obtain ⟨k, hk, rfl, hbk⟩ := hrel
    have HBK : Hid (bare (t.data.toList.drop k) = bare t.data.toList) := hbk
    clear hbk
    by_cases hlt : k < t.size
    · by_cases hz : t[k] = 0
      · have hz1 : ((t[k].toNat : Int) == 0) = true := by rw [hz]; rfl
        have HN : Hid (bare (t.data.toList.drop (k + 1)) = bare t.data.toList) := by
          rw [← HBK.out, drop_at t k hlt, hz]; simp [bare, Hid]
        go_wp2
        go_round
        case rel => exact ⟨k + 1, by omega, by go_num, HN.out⟩
        case measure => simp [intOf]; omega
      · have hz1 : ((t[k].toNat : Int) == 0) = false := by
          have : t[k].toNat ≠ 0 := fun h => hz (UInt8.toNat_inj.1 h)
          simp [this]
        have HN : Hid (bare t.data.toList = t[k] :: t.data.toList.drop (k + 1)) := by
          show bare t.data.toList = _
          rw [← HBK.out, drop_at t k hlt, bare_fix _ _ hz]
        have hdl : (t.data.toList.drop (k + 1)).length = t.size - (k + 1) := by rw [List.length_drop, HT.out]
        by_cases htop : 128 ≤ t[k].toNat
        · have hM := mp_top HN.out htop
          have hN1 : N = 17 + t.size + 4 + (t.size - (k + 1) + 2) := by rw [HNL.out, hM.1, hdl]; omega
          have hN2 : N ≤ 17 + t.size + 4 + (t.size - (k + 1) + 2) := by omega
          have hN3 : 17 + t.size + 4 + (t.size - (k + 1) + 2) ≤ N := by omega
          have hcell := HC.out 0 hM.2
          clear hM hN1 hdl HNL HC HN HBK hz
          go_wp2_with fail
          refine (known_c _).mono ?_
          rintro e w12 ⟨rfl, hb12⟩
          go_wp2
          go_ret
          exact ⟨rfl, hb11'.trans (hb12.mono hb11'.size)⟩
        · have hM := mp_low HN.out htop
          have hN1 : N = 17 + t.size + 4 + (t.size - (k + 1) + 1) := by rw [HNL.out, hM.1, hdl]; omega
          have hN2 : N ≤ 17 + t.size + 4 + (t.size - (k + 1) + 1) := by omega
          have hN3 : 17 + t.size + 4 + (t.size - (k + 1) + 1) ≤ N := by omega
          have hcell := HC.out _ hM.2
          clear hM hN1 hdl HNL HC HN HBK hz
          go_wp2_with fail
          refine (known_c _).mono ?_
          rintro e w12 ⟨rfl, hb12⟩
          go_wp2
          go_ret
          exact ⟨rfl, hb11'.trans (hb12.mono hb11'.size)⟩
    · have HN : Hid (bare t.data.toList = []) := by
        show bare t.data.toList = []
        rw [← HBK.out, List.drop_of_length_le (by rw [HT.out]; omega)]; rfl
      have hN1 : N = 17 + t.size + 4 := by rw [HNL.out, mp_nil HN.out]
      have hN2 : N ≤ 17 + t.size + 4 := by omega
      have hN3 : 17 + t.size + 4 ≤ N := by omega
      clear hN1 HNL HC HN HBK
      go_wp2_with fail
      refine (known_c _).mono ?_
      rintro e w12 ⟨rfl, hb12⟩
      go_wp2
      go_ret
      exact ⟨rfl, hb11'.trans (hb12.mono hb11'.size)⟩

end Go.Proofs.Ytmecclefkgbmpaa
