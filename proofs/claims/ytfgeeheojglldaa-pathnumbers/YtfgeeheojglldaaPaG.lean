/- Split, Join, Clean: the document's. -/
import Derived.Test.YtfgeeheojglldaaPaF
namespace Go.Proofs.Ytfgeeheojglldaa
open Go Go.RowKit

theorem u8_ne2 {b : UInt8} (h : b ≠ 47) : ((b.toNat : Int) == 47) = false := by
  rw [beq_eq_false_iff_ne]
  intro e
  exact h (UInt8.toNat_inj.1 (by simp; omega))
theorem own_empty_str (w : World) : (w.alloc (.cells #[] 9)).ownsRow w.heap.size 9 1 (.slice (some ⟨w.heap.size, 0, none⟩) 0 0) 0 [] := World.ownsRow_lit w #[] 0 (Nat.le_refl _) (by simp [maxLen]) rfl

theorem owns_mono {w : World} {base base' : Nat} {e : TypeId} {size : Nat} {v : Value} {n : Nat} {xs : List Value} (h : w.ownsRow base e size v n xs) (hb : base' ≤ base) : w.ownsRow base' e size v n xs := by
  refine ⟨h.1, ?_⟩
  rcases h.2 with h0 | ⟨g, cap, cur, e1, h1, h2⟩
  · exact .inl h0
  · exact .inr ⟨g, cap, cur, e1, Nat.le_trans hb h1, h2⟩

set_option maxHeartbeats 3200000 in
set_option maxRecDepth 100000 in
theorem rsplit_c (s : ByteArray) (w : World) (hs : s.size ≤ 1000000) :
    Calls Try.prog 10 #[.string s] w fun e w' => ∃ v, e = .returned (.tuple #[v, .int .i64 (splitE s.data.toList)]) ∧ SOwn w' w.heap.size v (splitL s.data.toList) ∧ Below w.heap.size w w' := by
  obtain ⟨i0, hi, hz0, hz1, hz2⟩ := info_parts Try.infoStr
  by_cases hl : 200 < s.size
  · have hi : (200 : Int) < (s.size : Int) := by omega
    obtain ⟨h1, h2, _⟩ := split_long (s := s.data.toList) (by rw [← size_len]; exact hl)
    rw [h1, h2]
    clear h1 h2
    go_enter Try.func10, Try.ntmps10
    go_wp2
    go_ret2
    exact ⟨_, rfl, SOwn.nil _ _, Below.refl _ _⟩
  · have hli : ¬ (200 : Int) < (s.size : Int) := by omega
    have HN : Hid (goP [] [] s.data.toList = none → splitL s.data.toList = [] ∧ splitE s.data.toList = 20) := fun h => by
      obtain ⟨h1, h2, _⟩ := split_no (by rw [← size_len]; omega) h
      exact ⟨h1, h2⟩
    have HS : Hid (∀ a, goP [] [] s.data.toList = some a → splitL s.data.toList = a ∧ splitE s.data.toList = 0) := fun a h => by
      obtain ⟨h1, h2, _⟩ := split_ok (by rw [← size_len]; omega) h
      exact ⟨h1, h2⟩
    generalize splitL s.data.toList = SL at HN HS ⊢
    generalize splitE s.data.toList = SE at HN HS ⊢
    have HG0 : Hid (goP [] [] (s.data.toList.drop 0) = goP [] [] s.data.toList) := by show _ = _; rw [List.drop_zero]
    generalize goP [] [] s.data.toList = G at HN HS HG0
    go_enter Try.func10, Try.ntmps10
    go_wp2
    go_loopw [4, 5, 6] (fun v f c wr => ∃ (j i : Nat) (acc : List ByteArray), f = .int .i64 j ∧ c = .int .i64 i ∧ j ≤ i ∧ i ≤ s.size + 1 ∧ acc.length ≤ i ∧ (i ≤ s.size → plainTo s j i ∧ goP acc [] (s.data.toList.drop j) = G) ∧ (s.size < i → some acc = G) ∧ SOwn wr w.heap.size v acc ∧ Below w.heap.size w wr) (fun _ _ c _ => s.size + 1 - (intOf c).toNat)
    case atStart => exact ⟨0, 0, [], rfl, rfl, by omega, by omega, by simp, fun _ => ⟨plainTo_refl s 0, HG0.out⟩, by omega, SOwn.nil _ _, Below.refl _ _⟩
    case round =>
      obtain ⟨j, i, acc, rfl, rfl, hji, hi1, hac, hg1, hg2, ho, hb⟩ := hrel
      have HO := hidden ho
      have HB := hidden hb
      have HG1 := hidden hg1
      have HG2 := hidden hg2
      clear ho hb hg1 hg2
      obtain ⟨ao, cap, rfl⟩ := HO.out.len
      by_cases hle : i ≤ s.size
      · have hc : (i : Int) ≤ (s.size : Int) := by omega
        obtain ⟨hp, hg⟩ := HG1.out hle
        clear HG1 HG2
        by_cases hcont : ∃ h : i < s.size, s[i] ≠ 47
        · obtain ⟨hlt, h47⟩ := hcont
          have hc2 : (i : Int) < (s.size : Int) := by omega
          have hb47 := u8_ne2 h47
          have HP := hidden (plainTo_succ hp hji hlt h47)
          have HG := hidden hg
          clear hp hg h47
          go_wp2
          go_roundw
          case rel => exact ⟨j, i + 1, acc, rfl, by go_num, by omega, by omega, by omega, fun _ => ⟨HP.out, HG.out⟩, by omega, HO.out, HB.out⟩
          case measure => simp [intOf]; omega
        · have hst : (h : i < s.size) → s[i] = 47 := fun h => Classical.byContradiction fun e => hcont ⟨h, e⟩
          have HX := hidden (next_part acc hji hle hp hst)
          rw [hg] at HX
          have hor : ¬ (i : Int) < (s.size : Int) ∨ ((i : Int) < (s.size : Int) ∧ ∃ h : i < s.size, ((s[i].toNat : Int) == 47) = true) := by
            by_cases h : i < s.size
            · right
              refine ⟨by omega, h, ?_⟩
              rw [hst h]; rfl
            · left; omega
          clear hp hg hcont hst
          have HT : Hid (∀ a, stepP acc (s.extract j i).data.toList = some a → (i + 1 ≤ s.size → plainTo s (i + 1) (i + 1) ∧ goP a [] (s.data.toList.drop (i + 1)) = G) ∧ (s.size < i + 1 → some a = G)) := fun a ha => by
            have hx := HX.out
            rw [ha, Option.bind_some] at hx
            refine ⟨fun h => ⟨plainTo_refl _ _, ?_⟩, fun h => ?_⟩
            · rw [if_pos (by omega)] at hx; exact hx.symm
            · rw [if_neg (by omega)] at hx; exact hx.symm
          have HU : Hid (stepP acc (s.extract j i).data.toList = none → G = none) := fun ha => by
            have hx := HX.out
            rw [ha] at hx
            exact hx
          have hps : (s.extract j i).size ≤ 1000 := by simp; omega
          clear HX
          have hlen : ((j : Int) ≤ (i : Int)) := by omega
          have he0 := str_lit (s.extract j i) []
          have hd0 := str_lit (s.extract j i) [46]
          have hu0 := str_lit (s.extract j i) [46, 46]
          have HR := hidden (rright_c (s.extract j i))
          have HST : Hid (stepP acc (s.extract j i).data.toList = if ((s.extract j i).data.toList == []) = true ∨ ((s.extract j i).data.toList == [46]) = true then some acc else if ((s.extract j i).data.toList == [46, 46]) = true then some acc.dropLast else if rightP (s.extract j i).data.toList then some (acc ++ [s.extract j i]) else none) := by
            show _ = _
            unfold stepP
            simp only [beq_iff_eq, tb_of]
          rw [HST.out] at HT HU
          clear HST
          generalize hpe : s.extract j i = p at HT HU hps he0 hd0 hu0 HR
          generalize rightP p.data.toList = R at HT HU HR
          generalize (p.data.toList == []) = be at HT HU he0
          generalize (p.data.toList == [46]) = bd at HT HU hd0
          generalize (p.data.toList == [46, 46]) = bu at HT HU hu0
          rw [← hpe] at he0 hd0 hu0
          have HPE := hidden hpe
          clear hpe
          rcases hor with hc2 | ⟨hc2, hlt, hb47⟩
          all_goals
            cases be with
            | true =>
              have HT1 := hidden (HT.out acc (by simp))
              clear HT HU HR
              go_wp2
              go_roundw
              case rel => exact ⟨i + 1, i + 1, acc, by go_num, by go_num, by omega, by omega, by omega, HT1.out.1, HT1.out.2, HO.out, HB.out⟩
              case measure => simp [intOf]; omega
            | false =>
            cases bd with
            | true =>
              have HT1 := hidden (HT.out acc (by simp))
              clear HT HU HR
              go_wp2
              go_roundw
              case rel => exact ⟨i + 1, i + 1, acc, by go_num, by go_num, by omega, by omega, by omega, HT1.out.1, HT1.out.2, HO.out, HB.out⟩
              case measure => simp [intOf]; omega
            | false =>
            cases bu with
            | true =>
              have HT1 := hidden (HT.out acc.dropLast (by simp))
              clear HT HU HR
              have HI := hidden HO.out.init
              have hal : acc.dropLast.length ≤ i := by simp; omega
              have HC := hidden HO.out.2
              generalize acc.dropLast = A at HI HT1 hal
              have hcc : acc.length ≤ cap := by
                rcases HC.out with ⟨e, _⟩ | ⟨g, c, cur, e, _, _, h3, _⟩
                · injection e with e1 e2 e3; omega
                · injection e with e1 e2 e3; omega
              clear HC HO
              generalize acc.length = n at HI hcc hac
              cases n with
              | zero =>
                go_wp2
                go_roundw
                case rel => exact ⟨i + 1, i + 1, A, by go_num, by go_num, by omega, by omega, by omega, HT1.out.1, HT1.out.2, HI.out, HB.out⟩
                case measure => simp [intOf]; omega
              | succ m =>
                go_wp2
                go_roundw
                case rel => exact ⟨i + 1, i + 1, A, by go_num, by go_num, by omega, by omega, by omega, HT1.out.1, HT1.out.2, HI.out, HB.out⟩
                case measure => simp [intOf]; omega
            | false =>
            cases R with
            | false =>
              have HU1 := hidden (HN.out (HU.out (by simp)))
              clear HT HU
              obtain ⟨rfl, rfl⟩ := HU1.out
              go_wp2_with fail
              rw [HPE.out]
              refine (HR.out _ (by omega)).mono ?_
              rintro e w1 ⟨rfl, rfl⟩
              go_wp2
              go_ret2
              exact ⟨_, rfl, SOwn.nil _ _, HB.out⟩
            | true =>
              have HT1 := hidden (HT.out (acc ++ [p]) (by simp))
              clear HT HU
              go_wp2_with fail
              rw [HPE.out]
              refine (HR.out _ (by omega)).mono ?_
              rintro e w1 ⟨rfl, rfl⟩
              have HSZ := hidden HB.out.size
              go_wp2_with (at_builtin; refine wpList_append_src _ rfl (.tmp 33) (.tmp 34) 24 24 rfl w1.heap.size 9 i0 _ 16 Try.underlying24 hi hz0 hz1 hz2 rfl _ _ _ rfl (own_empty_str w1) _ acc.length (acc.map Value.string) rfl (HO.out.ssl.alloc _).src (by unfold maxLen; omega) (by omega) (by simp) (w1.heap.size + 1) (by simp) ?_)
              intro v' w2 hown' hgrow hnil hat
              obtain ⟨ao', cp', rfl⟩ := ownsRow_shape hown'
              have HO2 := hidden hown'
              have HB2 := hidden (((Below.refl w1.heap.size w1).alloc (Nat.le_refl _) (.cells #[] 9)).grown hgrow (by simp) (fun g hg => by cases hg; exact Nat.le_refl _))
              clear hown' hgrow hnil hat
              go_wp2_with (at_builtin; refine wpList_append_src _ rfl (.tmp 35) (.tmp 37) 24 24 rfl w1.heap.size 9 i0 _ 16 Try.underlying24 hi hz0 hz1 hz2 rfl _ _ _ rfl (HO2.out.alloc _) _ 1 [.string p] rfl (srcStr1 p) (by unfold maxLen; omega) (by omega) (by have := HB2.out.size; simp; omega) (w2.heap.size + 1) (by simp) ?_)
              intro v' w3 hown' hgrow hnil hat
              obtain ⟨ao', cp', rfl⟩ := ownsRow_shape hown'
              have HO3 := hidden hown'
              have HB3 := hidden ((HB2.out.alloc HB2.out.size _).grown hgrow (by have := HB2.out.size; simp; omega) (fun g hg => (HO2.out.lt g hg).1))
              clear hown' hgrow hnil hat
              go_wp2
              go_roundw
              case rel =>
                refine ⟨i + 1, i + 1, acc ++ [p], by go_num, by go_num, by omega, by omega, by simp; omega, HT1.out.1, HT1.out.2, ?_, HB.out.trans (HB3.out.mono HSZ.out)⟩
                unfold SOwn
                rw [List.length_append, List.map_append]
                exact owns_mono HO3.out HSZ.out
              case measure => simp [intOf]; omega
      · have hc : ¬ (i : Int) ≤ (s.size : Int) := by omega
        have HG : Hid (G = some acc) := (HG2.out (by omega)).symm
        obtain ⟨rfl, rfl⟩ := HS.out _ HG.out
        go_wp2
        go_ret2
        exact ⟨_, rfl, HO.out, HB.out⟩

theorem tb_app (a b : List UInt8) : tb a ++ tb b = tb (a ++ b) := by
  apply ByteArray.ext
  simp [tb, ByteArray.data_append]
theorem rjoin_next (l : List ByteArray) (k : Nat) (h : k < l.length) : tb (flat (l.take k)) ++ ⟨#[47]⟩ ++ l[k] = tb (flat (l.take (k + 1))) := by
  rw [flat_take_succ l k h]
  apply ByteArray.ext
  simp [tb, ByteArray.data_append]

set_option maxHeartbeats 1600000 in
set_option maxRecDepth 100000 in
theorem rjoin_c (v : Value) (l : List ByteArray) (w : World) (hv : SSl w v l) (hl : (flat l).length ≤ 1000000) :
    Calls Try.prog 20 #[v] w fun e w' => e = .returned (.string (tb (joinP l))) ∧ w' = w := by
  have HV := hidden hv
  obtain ⟨ao, cap, rfl, hc, hm, _⟩ := hv
  unfold maxLen at hm
  have HJ1 : Hid (flat l = [] → joinP l = [47]) := fun h => by rw [joinP_ref, if_pos h]
  have HJ2 : Hid (flat l ≠ [] → joinP l = flat l) := fun h => by rw [joinP_ref, if_neg h]
  generalize joinP l = J at HJ1 HJ2 ⊢
  go_enter Try.func20, Try.ntmps20
  go_wp2
  go_loop [3, 4] (fun o c => ∃ k : Nat, k ≤ l.length ∧ c = .int .i64 k ∧ o = .string (tb (flat (l.take k)))) (fun _ c => l.length - (intOf c).toNat)
  case atStart => exact ⟨0, Nat.zero_le _, rfl, rfl⟩
  case round =>
    obtain ⟨k, hk, rfl, rfl⟩ := hrel
    by_cases hlt : k < l.length
    · have hi1 : (k : Int) < (l.length : Int) := by omega
      have hne : l ≠ [] := by rintro rfl; simp at hlt
      obtain ⟨b1, o1, rfl⟩ := HV.out.addr' hne
      have k1 := HV.out.cellAt k hlt
      have HF := hidden (rjoin_next l k hlt)
      have hle : (flat (l.take (k + 1))).length ≤ 1000000 := Nat.le_trans (flat_take_le l (k + 1)) hl
      have hsz : (tb (flat (l.take k)) ++ ⟨#[47]⟩ ++ l[k]).size ≤ 1000000 := by rw [HF.out, tb_size]; exact hle
      generalize l[k] = s at k1 HF hsz
      generalize tb (flat (l.take k)) = F at HF hsz ⊢
      rw [ByteArray.size_append, ByteArray.size_append] at hsz
      have h1 : (⟨#[47]⟩ : ByteArray).size = 1 := rfl
      rw [h1] at hsz
      have ho1 : ¬ (9223372036854775807 < F.size + 1) := by omega
      clear hle h1
      go_wp2
      go_round
      case rel => exact ⟨k + 1, by omega, by go_num, by rw [HF.out]⟩
      case measure => simp [intOf]; omega
    · have hi1 : ¬ (k : Int) < (l.length : Int) := by omega
      obtain rfl : k = l.length := by omega
      rw [List.take_length]
      by_cases hF : flat l = []
      · obtain rfl := HJ1.out hF
        have hd : ((tb (flat l)).toList == []) = true := by rw [str_lit, tb_list]; simpa using hF
        clear hF
        generalize tb (flat l) = F at hd ⊢
        go_wp2
        go_ret
        exact ⟨rfl, rfl⟩
      · obtain rfl := HJ2.out hF
        have hd : ((tb (flat l)).toList == []) = false := by rw [str_lit, tb_list]; simpa using hF
        clear hF
        generalize hG : tb (flat l) = F at hd ⊢
        have HG := hidden hG
        clear hG
        go_wp2
        go_ret
        exact ⟨by rw [HG.out]; rfl, rfl⟩

set_option maxHeartbeats 800000 in
set_option maxRecDepth 100000 in
theorem rclean_c (s : ByteArray) (w : World) (hs : s.size ≤ 1000000) :
    Calls Try.prog 12 #[.string s] w fun e w' => e = .returned (.tuple #[.string (tb (cleanL s.data.toList)), .int .i64 (splitE s.data.toList)]) ∧ Below w.heap.size w w' := by
  have HS := hidden (rsplit_c s w hs)
  have HL := hidden (splitL_len s.data.toList)
  have HC := hidden (cleanL_of s.data.toList)
  have HD := hidden (cleanL_no s.data.toList)
  generalize splitL s.data.toList = SL at HS HL HC
  generalize splitE s.data.toList = SE at HS HC HD ⊢
  generalize cleanL s.data.toList = CL at HC HD ⊢
  go_enter Try.func12, Try.ntmps12
  go_wp2_with fail
  refine (HS.out).mono ?_
  rintro e w1 ⟨v, rfl, ho, hb⟩
  have HO := hidden ho
  have HB := hidden hb
  clear ho hb
  by_cases h0 : SE = 0
  · subst h0
    obtain rfl := HC.out rfl
    clear HC HD HS
    go_wp2_with fail
    refine (rjoin_c _ SL _ HO.out.ssl (by have := HL.out; omega)).mono ?_
    rintro e w2 ⟨rfl, rfl⟩
    go_wp2
    go_ret2
    exact ⟨rfl, HB.out⟩
  · obtain rfl := HD.out h0
    have hne : (SE == 0) = false := by rw [beq_eq_false_iff_ne]; exact h0
    have hne2 : (SE != 0) = true := by simpa using h0
    clear HC HD HS
    go_wp2
    go_ret2
    exact ⟨rfl, HB.out⟩
end Go.Proofs.Ytfgeeheojglldaa
