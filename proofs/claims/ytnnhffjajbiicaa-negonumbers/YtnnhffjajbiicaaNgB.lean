/- What Few makes of a list of texts. -/
import Derived.Test.YtnnhffjajbiicaaNgA
namespace Go.Proofs.Ytnnhffjajbiicaa
open Go Go.RowKit

/-- A list of texts of one's own. -/
def SOwn (w : World) (base : Nat) (v : Value) (ss : List ByteArray) : Prop := w.ownsRow base 9 1 v ss.length (ss.map Value.string)

theorem few_next (l : List ByteArray) (m k : Nat) (hk : k < l.length) : fewL l (k + 1) m = fewL l k m ++ [(l[k]).extract 0 m] := by
  simp only [fewL, List.take_succ_eq_append_getElem hk, List.map_append, List.map_cons, List.map_nil]

theorem srcStr1 {W : World} (s : ByteArray) : Src Try.prog 1 24 (.slice (some ⟨W.heap.size, 0, none⟩) 1 1) 1 [.string s] (W.alloc (.cells #[.string s] 9)) :=
  Src.ofSlice _ Try.underlying24 ⟨W.heap.size, 0, none⟩ 1 1 [.string s] rfl (World.news_of_block (t := 9) (fr := (0, 0)) (heap_alloc_new W _)) (by intro u hu; simp at hu; subst hu; rfl)

set_option maxHeartbeats 1600000 in
set_option maxRecDepth 100000 in
theorem few_n (n m : Nat) (hn : n ≤ 1000) (hm : m ≤ 1000000) (v : Value) (l : List ByteArray) (w : World) (hv : SSl w v l) :
    Calls Try.prog 31 #[v, .int .i64 n, .int .i64 m] w fun e w' => ∃ v', e = .returned v' ∧ SOwn w' w.heap.size v' (fewL l n m) ∧ Below w.heap.size w w' := by
  obtain ⟨i0, hi, hz0, hz1, hz2⟩ := info_parts Try.infoStr
  have HV : Hid (SSl w v l) := hv
  obtain ⟨ao, ca, rfl, hca, hcm, _⟩ := hv
  unfold maxLen at hcm
  go_enter Try.func31, Try.ntmps31
  go_wp2
  go_loopw [7, 8] (fun o i wr => ∃ k : Nat, k ≤ l.length ∧ k ≤ n ∧ i = .int .i64 k ∧ SOwn wr w.heap.size o (fewL l k m) ∧ Below w.heap.size w wr) (fun _ i _ => l.length - (intOf i).toNat)
  case atStart => exact ⟨0, Nat.zero_le _, Nat.zero_le _, rfl, World.ownsRow_nil _ _ _ _, Below.refl _ _⟩
  case round =>
    obtain ⟨k, hk, hkn, rfl, ho, hb⟩ := hrel
    have HO := hidden ho
    have HB := hidden hb
    clear ho hb
    obtain ⟨oa, oc, rfl⟩ := ownsRow_shape HO.out
    by_cases hlt : k < l.length
    · have hi1 : (k : Int) < (l.length : Int) := by omega
      by_cases hlt2 : k < n
      · have hi2 : (k : Int) < (n : Int) := by omega
        have hne : l ≠ [] := by rintro rfl; simp at hlt
        have HV1 := HV.out.keep (Keeps.ofFresh (S := fun _ => False) HB.out) (fun _ _ h => h)
        obtain ⟨b1, o1, rfl⟩ := HV1.addr' hne
        have k1 := HV1.cellAt k hlt
        have HN := hidden (few_next l m k hlt)
        have hfl : (fewL l k m).length = k := by simp [fewL]; omega
        generalize l[k] = s at k1 HN
        generalize fewL l k m = F at HO HN hfl
        have HF := hidden hfl
        rw [HF.out]
        clear HV1 hfl
        go_wp2_with fail
        refine (head_c s m hm _).mono ?_
        rintro e w1 ⟨rfl, rfl⟩
        generalize s.extract 0 m = t at HN ⊢
        have hown := HO.out
        unfold SOwn at hown
        rw [HF.out] at hown
        go_wp2_with (at_builtin; refine wpList_append_src _ rfl (.tmp 20) (.tmp 27) 24 24 rfl w.heap.size 9 i0 _ 16 Try.underlying24 hi hz0 hz1 hz2 rfl _ _ _ rfl (hown.alloc _) _ 1 [.string t] rfl (srcStr1 t) (by unfold maxLen; omega) (by omega) (by have := HB.out.size; simp; omega) (w1.heap.size + 1) (by simp) ?_)
        intro v' w2 hown' hgrow hnil hat
        obtain ⟨ao', cp', rfl⟩ := ownsRow_shape hown'
        have HO2 := hidden hown'
        have HG := hidden hgrow
        clear hown' hgrow hnil hat hown
        go_wp2
        go_roundw
        case rel =>
          refine ⟨k + 1, by omega, by omega, by go_num, ?_, ?_⟩
          · unfold SOwn
            rw [HN.out, List.length_append, HF.out, List.map_append]
            exact HO2.out
          · exact (HB.out.alloc HB.out.size _).grown HG.out (by have := HB.out.size; simp; omega) (fun g hg => (HO.out.lt g (by rw [HF.out]; exact hg)).1)
        case measure => simp [intOf]; omega
      · have hi2 : ¬ (k : Int) < (n : Int) := by omega
        have HE : Hid (fewL l k m = fewL l n m) := by have : k = n := by omega
                                                      subst this; rfl
        go_wp2
        go_ret
        exact ⟨_, rfl, HE.out ▸ HO.out, HB.out⟩
    · have hi1 : ¬ (k : Int) < (l.length : Int) := by omega
      have HE : Hid (fewL l k m = fewL l n m) := by
        show _ = _
        simp only [fewL]
        rw [List.take_of_length_le (by omega), List.take_of_length_le (by omega)]
      go_wp2
      go_ret
      exact ⟨_, rfl, HE.out ▸ HO.out, HB.out⟩
end Go.Proofs.Ytnnhffjajbiicaa
