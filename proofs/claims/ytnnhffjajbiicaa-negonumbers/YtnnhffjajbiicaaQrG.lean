/- What the document's Parts answers, and keep's Texts. -/
import Derived.Test.YtnnhffjajbiicaaQrF
namespace Go.Proofs.Ytnnhffjajbiicaa
open Go Go.RowKit

set_option maxHeartbeats 3200000 in
set_option maxRecDepth 100000 in
theorem parts_c (s : ByteArray) (hs : s.size ≤ 1000000000) (w : World) :
    Calls Try.prog 79 #[.string s] w fun e w' => SplitPost s.data.toList w e w' := by
  obtain ⟨i0, hi, hz0, hz1, hz2⟩ := info_parts Try.infoStr
  by_cases hemp : s.size = 0
  · have he : s = ⟨#[]⟩ := by
      apply ByteArray.ext
      exact Array.eq_empty_of_size_eq_zero hemp
    subst he
    go_enter Try.func79, Try.ntmps79
    go_wp2
    go_ret2
    exact split_yes (ns := []) rfl (World.ownsRow_nil _ _ _ _) (Below.refl _ _)
  · have hne : s.toList.isEmpty = false := by rw [Lib.toList_data, List.isEmpty_eq_false_iff]; intro h; apply hemp; have := congrArg List.length h; simpa using this
    have hpar : parts s.data.toList = goN [] [] s.data.toList := by unfold parts; rw [if_neg (fun h => hemp (by have := congrArg List.length h; simpa using this))]
    have HP0 : Hid (goN [] (cutB s 0 0) (s.data.toList.drop 0) = parts s.data.toList) := by rw [cutB_self]; exact hpar.symm
    clear hpar
    go_enter Try.func79, Try.ntmps79
    go_wp2
    go_loopw [4, 5, 6] (fun o fr i wr => ∃ (k f : Nat) (out : List (List UInt8)), fr = .int .i64 f ∧ i = .int .i64 k ∧ wr.ownsRow w.heap.size 9 1 o out.length (out.map strV) ∧ Below w.heap.size w wr ∧ out.length ≤ k ∧ ((k ≤ s.size ∧ f ≤ k ∧ goN out (cutB s f k) (s.data.toList.drop k) = parts s.data.toList) ∨ (k = s.size + 1 ∧ parts s.data.toList = some out))) (fun _ _ i _ => s.size + 1 - (intOf i).toNat)
    case atStart => exact ⟨0, 0, [], rfl, rfl, World.ownsRow_nil _ _ _ _, Below.refl _ _, by simp, .inl ⟨Nat.zero_le _, Nat.le_refl _, HP0.out⟩⟩
    case round =>
      clear HP0
      obtain ⟨k, f, out, rfl, rfl, ho, hb, hok, hcase⟩ := hrel
      have HO : Hid (wr.ownsRow w.heap.size 9 1 _ out.length (out.map strV)) := ho
      have HB : Hid (Below w.heap.size w wr) := hb
      clear ho hb
      rcases hcase with ⟨hks, hfk, hg⟩ | ⟨hke, hp⟩
      · have HG : Hid (goN out (cutB s f k) (s.data.toList.drop k) = parts s.data.toList) := hg
        clear hg
        by_cases hlt : k < s.size
        · have hz : ((k : Int) == (s.size : Int)) = false := by simp; omega
          by_cases hcm : (s[k]'hlt).toNat = 44
          · have hc1 : (((s[k]'hlt).toNat : Int) == 44) = true := by rw [hcm]; rfl
            have hexs : (s.extract f k).size ≤ 1000000000 := by simp; omega
            have hcut : (s.extract f k).data.toList = cutB s f k := by rw [extract_cut]
            go_wp2_with fail
            refine (right_c (s.extract f k) hexs _).mono ?_
            rintro e w' ⟨rfl, rfl⟩
            rw [hcut]
            by_cases hok : okName (cutB s f k) = true
            · rw [hok]
              have HP : Hid (goN (out ++ [cutB s f k]) [] (s.data.toList.drop (k + 1)) = parts s.data.toList) := by show _ = _; rw [← HG.out, dropB s k hlt]; exact (goN_comma hcm hok).symm
              have hsrc := srcStr (heap_alloc_new w' (.cells #[.string (s.extract f k)] 9))
              have hbs := HB.out.size
              clear hok hcut hexs
              go_wp2_with (at_builtin; refine wpList_append_src _ rfl (.tmp 31) (.tmp 36) 24 24 rfl w.heap.size 9 i0 _ 16 Try.underlying24 hi hz0 hz1 hz2 rfl _ _ _ rfl (HO.out.alloc _) _ 1 [.string (s.extract f k)] rfl hsrc (by unfold maxLen; omega) (by omega) (by simp; omega) (w'.heap.size + 1) (by simp) ?_)
              intro v1 w1 ho1 hgrow1 hnil1 hat1
              have hb1 : Below w.heap.size w w1 := (HB.out.alloc hbs _).grown hgrow1 (by simp; omega) (fun k hk => (HO.out.lt k hk).1)
              have ho2 : w1.ownsRow w.heap.size 9 1 v1 (out ++ [cutB s f k]).length ((out ++ [cutB s f k]).map strV) := by
                rw [List.length_append, List.map_append]
                rw [extract_cut] at ho1
                exact ho1
              have HO1 : Hid (w1.ownsRow w.heap.size 9 1 v1 (out ++ [cutB s f k]).length ((out ++ [cutB s f k]).map strV)) := ho2
              have HB1 : Hid (Below w.heap.size w w1) := hb1
              clear ho1 hgrow1 hnil1 hat1 hb1 ho2 hsrc
              go_wp2
              go_roundw
              case rel => exact ⟨k + 1, k + 1, out ++ [cutB s f k], by go_num, by go_num, HO1.out, HB1.out, by simp; omega, .inl ⟨by omega, Nat.le_refl _, by rw [cutB_self]; exact HP.out⟩⟩
              case measure => simp [intOf]; omega
            · have hok2 : okName (cutB s f k) = false := by simpa using hok
              rw [hok2]
              have HN : Hid (parts s.data.toList = none) := by show _ = _; rw [← HG.out, dropB s k hlt]; exact goN_commaNo hcm hok2
              clear hok hok2 hcut hexs
              go_wp2
              go_ret2
              exact split_no HN.out HB.out
          · have hc1 : (((s[k]'hlt).toNat : Int) == 44) = false := by simp; omega
            have HP : Hid (goN out (cutB s f (k + 1)) (s.data.toList.drop (k + 1)) = parts s.data.toList) := by show _ = _; rw [cutB_succ s f k hfk hlt, ← HG.out, dropB s k hlt, goN_step hcm]
            clear hcm
            go_wp2
            go_roundw
            case rel => exact ⟨k + 1, f, out, rfl, by go_num, HO.out, HB.out, by omega, .inl ⟨by omega, by omega, HP.out⟩⟩
            case measure => simp [intOf]; omega
        · have hke : k = s.size := by omega
          have hdr : s.data.toList.drop k = [] := by rw [hke]; exact dropB_end s
          have hz : ((k : Int) == (s.size : Int)) = true := by simp; omega
          have HDR : Hid (s.data.toList.drop k = []) := hdr
          have HKE : Hid (k = s.size) := hke
          clear hdr hke
          have hexs : (s.extract f k).size ≤ 1000000000 := by simp; omega
          have hcut : (s.extract f k).data.toList = cutB s f k := by rw [extract_cut]
          go_wp2_with fail
          refine (right_c (s.extract f k) hexs _).mono ?_
          rintro e w' ⟨rfl, rfl⟩
          rw [hcut]
          by_cases hok : okName (cutB s f k) = true
          · rw [hok]
            have HP : Hid (parts s.data.toList = some (out ++ [cutB s f k])) := by show _ = _; rw [← HG.out, HDR.out]; exact goN_end hok
            have hsrc := srcStr (heap_alloc_new w' (.cells #[.string (s.extract f k)] 9))
            have hbs := HB.out.size
            clear hok hcut hexs
            go_wp2_with (at_builtin; refine wpList_append_src _ rfl (.tmp 31) (.tmp 36) 24 24 rfl w.heap.size 9 i0 _ 16 Try.underlying24 hi hz0 hz1 hz2 rfl _ _ _ rfl (HO.out.alloc _) _ 1 [.string (s.extract f k)] rfl hsrc (by unfold maxLen; omega) (by omega) (by simp; omega) (w'.heap.size + 1) (by simp) ?_)
            intro v1 w1 ho1 hgrow1 hnil1 hat1
            have hb1 : Below w.heap.size w w1 := (HB.out.alloc hbs _).grown hgrow1 (by simp; omega) (fun k hk => (HO.out.lt k hk).1)
            have ho2 : w1.ownsRow w.heap.size 9 1 v1 (out ++ [cutB s f k]).length ((out ++ [cutB s f k]).map strV) := by
              rw [List.length_append, List.map_append]
              rw [extract_cut] at ho1
              exact ho1
            have HO1 : Hid (w1.ownsRow w.heap.size 9 1 v1 (out ++ [cutB s f k]).length ((out ++ [cutB s f k]).map strV)) := ho2
            have HB1 : Hid (Below w.heap.size w w1) := hb1
            clear ho1 hgrow1 hnil1 hat1 hb1 ho2 hsrc
            go_wp2
            go_roundw
            case rel => exact ⟨k + 1, k + 1, out ++ [cutB s f k], by go_num, by go_num, HO1.out, HB1.out, by simp; omega, .inr ⟨by have := HKE.out; omega, HP.out⟩⟩
            case measure => simp [intOf]; omega
          · have hok2 : okName (cutB s f k) = false := by simpa using hok
            rw [hok2]
            have HN : Hid (parts s.data.toList = none) := by show _ = _; rw [← HG.out, HDR.out]; exact goN_endNo hok2
            clear hok hok2 hcut hexs
            go_wp2
            go_ret2
            exact split_no HN.out HB.out
      · have HP : Hid (parts s.data.toList = some out) := hp
        have hgt : ¬ (k : Int) ≤ (s.size : Int) := by omega
        clear hp hke
        go_wp2
        go_ret2
        exact split_yes HP.out HO.out HB.out

end Go.Proofs.Ytnnhffjajbiicaa
