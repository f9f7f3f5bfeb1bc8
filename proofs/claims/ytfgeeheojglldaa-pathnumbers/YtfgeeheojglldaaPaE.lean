/- Split, Join, Clean: the program's. -/
import Derived.Test.YtfgeeheojglldaaPaD
namespace Go.Proofs.Ytfgeeheojglldaa
open Go Go.RowKit

theorem part_list (s : ByteArray) (i n : Nat) : (s.extract i n).data.toList = (s.data.toList.take n).drop i := by
  rw [ByteArray.data_extract, Array.toList_extract, List.extract_eq_take_drop, List.drop_take]
theorem next_part {s : ByteArray} {i n : Nat} (acc : List ByteArray) (hin : i ≤ n) (hn : n ≤ s.size) (hp : plainTo s i n) (hs : (h : n < s.size) → s[n] = 47) :
    goP acc [] (s.data.toList.drop i) = (stepP acc (s.extract i n).data.toList).bind fun a => if n < s.size then goP a [] (s.data.toList.drop (n + 1)) else some a := by
  have hl : s.data.toList.length = s.size := by rw [Array.length_toList]; rfl
  have e : s.data.toList.drop i = (s.data.toList.take n).drop i ++ s.data.toList.drop n := by
    conv => lhs; rw [← List.take_append_drop n s.data.toList]
    rw [List.drop_append_of_le_length (by simp; omega)]
  rw [e, goP_app _ _ hp, List.nil_append, part_list]
  by_cases h : n < s.size
  · have hk : n < s.data.toList.length := by omega
    rw [List.drop_eq_getElem_cons hk]
    have : s.data.toList[n] = 47 := by rw [Array.getElem_toList]; exact hs h
    rw [this, goP, if_pos rfl]
    simp only [if_pos h]
  · have e3 : s.data.toList.drop n = [] := List.drop_of_length_le (by omega)
    rw [e3, goP]
    simp only [if_neg h]
    cases stepP acc _ <;> rfl

set_option maxHeartbeats 1600000 in
set_option maxRecDepth 100000 in
theorem split_c (s : ByteArray) (w : World) (hs : s.size ≤ 1000000) :
    Calls Try.prog 9 #[.string s] w fun e w' => ∃ v, e = .returned (.tuple #[v, .int .i64 (splitE s.data.toList)]) ∧ SOwn w' w.heap.size v (splitL s.data.toList) ∧ Below w.heap.size w w' := by
  by_cases hl : 200 < s.size
  · have hi : (200 : Int) < (s.size : Int) := by omega
    obtain ⟨h1, h2, _⟩ := split_long (s := s.data.toList) (by rw [← size_len]; exact hl)
    rw [h1, h2]
    clear h1 h2
    go_enter Try.func9, Try.ntmps9
    go_wp2
    go_ret2
    exact ⟨_, rfl, SOwn.nil _ _, Below.refl _ _⟩
  · have hi : ¬ (200 : Int) < (s.size : Int) := by omega
    have HN : Hid (goP [] [] s.data.toList = none → splitL s.data.toList = [] ∧ splitE s.data.toList = 20) := fun h => by
      obtain ⟨h1, h2, _⟩ := split_no (by rw [← size_len]; omega) h
      exact ⟨h1, h2⟩
    have HS : Hid (∀ a, goP [] [] s.data.toList = some a → splitL s.data.toList = a ∧ splitE s.data.toList = 0) := fun a h => by
      obtain ⟨h1, h2, _⟩ := split_ok (by rw [← size_len]; omega) h
      exact ⟨h1, h2⟩
    generalize splitL s.data.toList = SL at HN HS ⊢
    generalize splitE s.data.toList = SE at HN HS ⊢
    have HG0 : Hid (0 ≤ s.size → goP [] [] (s.data.toList.drop 0) = goP [] [] s.data.toList) := fun _ => by rw [List.drop_zero]
    generalize goP [] [] s.data.toList = G at HN HS HG0
    go_enter Try.func9, Try.ntmps9
    go_wp2
    go_loopw [4, 5] (fun v c wr => ∃ (i : Nat) (acc : List ByteArray), c = .int .i64 i ∧ i ≤ s.size + 1 ∧ acc.length ≤ i ∧ (i ≤ s.size → goP acc [] (s.data.toList.drop i) = G) ∧ (s.size < i → some acc = G) ∧ SOwn wr w.heap.size v acc ∧ Below w.heap.size w wr) (fun _ c _ => s.size + 1 - (intOf c).toNat)
    case atStart => exact ⟨0, [], rfl, by omega, by simp, HG0.out, by omega, SOwn.nil _ _, Below.refl _ _⟩
    case round =>
      obtain ⟨i, acc, rfl, hi1, hac, hg1, hg2, ho, hb⟩ := hrel
      have HO := hidden ho
      have HB := hidden hb
      have HG1 := hidden hg1
      have HG2 := hidden hg2
      clear ho hb hg1 hg2
      obtain ⟨ao, cap, rfl⟩ := HO.out.len
      by_cases hlt : i < s.size
      · have hc : (i : Int) < (s.size : Int) := by omega
        go_wp2_with fail
        refine (endOfPart_c s i (by omega) hs _).mono ?_
        rintro e w1 ⟨n, rfl, hin, hns, hp, hst, rfl⟩
        have HX := hidden (next_part acc hin hns hp hst)
        clear hp hst
        rw [HG1.out (by omega)] at HX
        go_wp2_with fail
        refine (step_c _ acc (s.extract i n) w.heap.size _ HO.out HB.out.size (by omega) (by simp; omega)).mono ?_
        intro e w2 ht
        obtain ⟨hb2, ht⟩ := ht
        cases ho : stepP acc (s.extract i n).data.toList with
        | none =>
          rw [ho] at ht HX
          subst ht
          obtain ⟨rfl, rfl⟩ := HN.out HX.out
          have HB2 := hidden (HB.out.trans hb2)
          clear hb2
          go_wp2
          go_ret2
          exact ⟨_, rfl, SOwn.nil _ _, HB2.out⟩
        | some a =>
          rw [ho] at ht HX
          obtain ⟨v', rfl, ho2⟩ := ht
          have HO2 := hidden ho2
          have hal := stepP_count ho
          have HB2 := hidden (HB.out.trans hb2)
          obtain ⟨ao2, cap2, rfl⟩ := HO2.out.len
          clear hb2 ho2 ho
          go_wp2
          go_roundw
          case rel =>
            refine ⟨n + 1, a, by go_num, by omega, by omega, fun h => ?_, fun h => ?_, HO2.out, HB2.out⟩
            · have := HX.out
              rw [Option.bind_some, if_pos (by omega)] at this
              exact this.symm
            · have := HX.out
              rw [Option.bind_some, if_neg (by omega)] at this
              exact this.symm
          case measure => simp [intOf]; omega
      · have hc : ¬ (i : Int) < (s.size : Int) := by omega
        have HG : Hid (G = some acc) := by
          show G = _
          by_cases h : i ≤ s.size
          · rw [← HG1.out h, List.drop_of_length_le (by rw [← size_len]; omega), goP, stepP_nil]
          · exact (HG2.out (by omega)).symm
        obtain ⟨rfl, rfl⟩ := HS.out _ HG.out
        go_wp2
        go_ret2
        exact ⟨_, rfl, HO.out, HB.out⟩

theorem flat_take_succ (l : List ByteArray) (k : Nat) (h : k < l.length) : flat (l.take (k + 1)) = flat (l.take k) ++ [47] ++ l[k].data.toList := by
  rw [List.take_succ_eq_append_getElem h, flat_append, List.append_assoc]
  congr 1
  simp [flat]
theorem flat_take_le (l : List ByteArray) (k : Nat) : (flat (l.take k)).length ≤ (flat l).length := by
  conv => rhs; rw [← List.take_append_drop k l, flat_append]
  simp

set_option maxHeartbeats 1600000 in
set_option maxRecDepth 100000 in
theorem join_c (v : Value) (l : List ByteArray) (w : World) (hv : SSl w v l) (hl : (flat l).length ≤ 1000000) :
    Calls Try.prog 16 #[v] w fun e w' => e = .returned (.string (tb (joinP l))) ∧ Below w.heap.size w w' := by
  obtain ⟨i0, hi, hz0, hz1, hz2⟩ := info_parts Try.infoU8
  have HV := hidden hv
  obtain ⟨ao, cap, rfl, hc, hm, _⟩ := hv
  unfold maxLen at hm
  by_cases hn : l = []
  · subst hn
    have hz : ((([] : List ByteArray).length : Int) == 0) = true := rfl
    show Calls _ _ _ _ fun e w' => e = .returned (.string ⟨#[47]⟩) ∧ _
    clear HV
    go_enter Try.func16, Try.ntmps16
    go_wp2
    go_ret
    exact ⟨rfl, Below.refl _ _⟩
  · rw [joinP_flat hn]
    have hpos : 0 < l.length := List.length_pos_iff.2 hn
    have hz : ((l.length : Int) == 0) = false := by rw [beq_eq_false_iff_ne]; omega
    obtain ⟨b1, o1, rfl⟩ := HV.out.addr' hn
    go_enter Try.func16, Try.ntmps16
    go_wp2
    go_loopw [3, 11] (fun o c wr => ∃ k : Nat, k ≤ l.length ∧ c = .int .i64 k ∧ wr.ownsRow w.heap.size 5 1 o (flat (l.take k)).length (bcells (flat (l.take k))) ∧ Below w.heap.size w wr) (fun _ c _ => l.length - (intOf c).toNat)
    case atStart => exact ⟨0, Nat.zero_le _, rfl, World.ownsRow_nil _ _ _ _, Below.refl _ _⟩
    case round =>
      obtain ⟨k, hk, rfl, ho, hb⟩ := hrel
      have HO := hidden ho
      have HB := hidden hb
      clear ho hb
      obtain ⟨ao, oc, rfl⟩ := ownsRow_shape HO.out
      by_cases hlt : k < l.length
      · have hi1 : (k : Int) < (l.length : Int) := by omega
        have HV1 := HV.out.keep (Keeps.ofFresh (S := fun _ => False) HB.out) (fun _ _ h => h)
        have k1 := HV1.cellAt k hlt
        have HF := hidden (flat_take_succ l k hlt)
        have hle : (flat (l.take (k + 1))).length ≤ 1000000 := Nat.le_trans (flat_take_le l (k + 1)) hl
        rw [HF.out] at hle
        generalize l[k] = s at k1 HF hle
        generalize flat (l.take k) = F at HO HF hle
        simp only [List.length_append, List.length_cons, List.length_nil] at hle
        clear HV1
        go_wp2_with (at_builtin; refine wpList_append_src _ rfl (.tmp 15) (.tmp 16) 22 22 rfl w.heap.size 5 i0 _ 1 Try.underlying22 hi hz0 hz1 hz2 rfl _ _ _ rfl (HO.out.alloc _) _ 1 [.int .u8 47] rfl (srcOne wr 47) (by unfold maxLen; omega) (by omega) (by have := HB.out.size; simp; omega) (wr.heap.size + 1) (by simp) ?_)
        intro v' w2 hown' hgrow hnil hat
        obtain ⟨ao', cp', rfl⟩ := ownsRow_shape hown'
        have HO2 := hidden hown'
        have HB2 := hidden ((HB.out.alloc HB.out.size _).grown hgrow (by have := HB.out.size; simp; omega) (fun g hg => (HO.out.lt g hg).1))
        clear hown' hgrow hnil hat
        go_wp2_with (at_builtin; refine wpList_append_src _ rfl (.tmp 18) (.tmp 19) 22 9 rfl w.heap.size 5 i0 _ 1 Try.underlying22 hi hz0 hz1 hz2 rfl _ _ _ rfl HO2.out _ s.data.toList.length (bcells s.data.toList) rfl ?_ (by unfold maxLen; omega) (by omega) (by have := HB2.out.size; omega) w2.heap.size rfl ?_)
        · rw [← size_len]
          exact Src.ofString _ Try.underlying9 s
        intro v' w3 hown' hgrow hnil hat
        obtain ⟨ao', cp', rfl⟩ := ownsRow_shape hown'
        have HO3 := hidden hown'
        have HB3 := hidden (HB2.out.grown hgrow (by have := HB2.out.size; omega) (fun g hg => (HO2.out.lt g hg).1))
        clear hown' hgrow hnil hat
        go_wp2
        go_roundw
        case rel =>
          refine ⟨k + 1, by omega, by go_num, ?_, HB3.out⟩
          have := HO3.out
          rw [HF.out, bcells_append, bcells_append, List.length_append, List.length_append, ← size_len, List.append_assoc]
          exact this
        case measure => simp [intOf]; omega
      · have hi1 : ¬ (k : Int) < (l.length : Int) := by omega
        obtain rfl : k = l.length := by omega
        have h2 := HO.out
        rw [List.take_length] at h2
        have hrs := run_string (BSl.ofRow h2)
        rw [List.take_length]
        go_wp2
        go_ret
        exact ⟨rfl, HB.out⟩

end Go.Proofs.Ytfgeeheojglldaa
