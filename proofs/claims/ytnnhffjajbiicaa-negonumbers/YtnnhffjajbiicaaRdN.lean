/- What splitNames answers. -/
import Derived.Test.YtnnhffjajbiicaaPut
import Derived.Test.YtnnhffjajbiicaaPure
import Derived.Test.YtnnhffjajbiicaaGoto
namespace Go.Proofs.Ytnnhffjajbiicaa
open Go Go.RowKit

theorem cutB_one (s : ByteArray) (h : 0 < s.size) : cutB s 0 1 = cutB s 0 0 ++ [s[0]] := cutB_succ s 0 0 (Nat.le_refl _) h

def strV (l : List UInt8) : Value := .string ⟨l.toArray⟩

/-- What splitting a text into names answers: the names, and whether all may be such. -/
def SplitPost (xs : List UInt8) (w : World) (e : Ending) (w' : World) : Prop :=
  ∃ v', e = .returned (.tuple #[v', .bool (parts xs).isSome]) ∧ w'.ownsRow w.heap.size 9 1 v' ((parts xs).getD []).length (((parts xs).getD []).map strV) ∧ Below w.heap.size w w'

theorem split_no {xs : List UInt8} {w w' : World} (h : parts xs = none) (hb : Below w.heap.size w w') : SplitPost xs w (.returned (.tuple #[.slice none 0 0, .bool false])) w' :=
  ⟨_, by rw [h]; rfl, by rw [h]; exact World.ownsRow_nil _ _ _ _, hb⟩
theorem split_yes {xs : List UInt8} {ns : List (List UInt8)} {v : Value} {w w' : World} (h : parts xs = some ns) (ho : w'.ownsRow w.heap.size 9 1 v ns.length (ns.map strV)) (hb : Below w.heap.size w w') : SplitPost xs w (.returned (.tuple #[v, .bool true])) w' :=
  ⟨_, by rw [h]; rfl, by rw [h]; exact ho, hb⟩

theorem srcStrL {W : World} {l : List UInt8} : Src Try.prog 1 24 (.slice (some ⟨W.heap.size, 0, none⟩) 1 1) 1 [strV l] (W.alloc (.cells #[strV l] 9)) := srcStr (heap_alloc_new W _)

set_option maxHeartbeats 3200000 in
set_option maxRecDepth 100000 in
theorem split_c (s : ByteArray) (hs : s.size ≤ 1000000000) (w : World) :
    Calls Try.prog 71 #[.string s] w fun e w' => SplitPost s.data.toList w e w' := by
  obtain ⟨i0, hi, hz0, hz1, hz2⟩ := info_parts Try.infoStr
  by_cases hemp : s.size = 0
  · have he : s = ⟨#[]⟩ := by
      apply ByteArray.ext
      exact Array.eq_empty_of_size_eq_zero hemp
    subst he
    go_enter Try.func71, Try.ntmps71
    go_wp2
    refine scope_forward 1 ?_
    go_wp2
    simp only [hops]
    go_ret2
    exact split_yes (ns := []) rfl (World.ownsRow_nil _ _ _ _) (Below.refl _ _)
  · have hne : s.toList.isEmpty = false := by rw [Lib.toList_data, List.isEmpty_eq_false_iff]; intro h; apply hemp; have := congrArg List.length h; simpa using this
    have hpos : 0 < s.size := by omega
    have hpar : parts s.data.toList = goN [] [] s.data.toList := by unfold parts; rw [if_neg (fun h => hemp (by have := congrArg List.length h; simpa using this))]
    go_enter Try.func71, Try.ntmps71
    go_wp2
    refine scope_ways 2 (fun l a' w' => ∃ (out : List (List UInt8)) (st q : Nat) (ov : Value) (u7 u8 u9 u10 u11 u12 u13 u14 u15 u16 u17 u18 u19 u20 u21 u22 u23 u24 u25 u26 u27 u28 u29 u30 u31 u32 u33 u34 u35 u36 u37 u38 u39 u40 u41 u42 u43 u44 u45 u46 u47 u48 u49 u50 u51 u52 u53 u54 : Value), a' = { tmps := #[.string s, undef, .slice none 0 0, .bool false, ov, .int .i64 st, .int .i64 q, u7, u8, u9, u10, u11, u12, u13, u14, u15, u16, u17, u18, u19, u20, u21, u22, u23, u24, u25, u26, u27, u28, u29, u30, u31, u32, u33, u34, u35, u36, u37, u38, u39, u40, u41, u42, u43, u44, u45, u46, u47, u48, u49, u50, u51, u52, u53, u54], defers := [] } ∧ w'.ownsRow w.heap.size 9 1 ov out.length (out.map strV) ∧ Below w.heap.size w w' ∧ out.length ≤ q ∧ q ≤ s.size ∧ ((l = 0 ∧ goN out [] (s.data.toList.drop q) = parts s.data.toList) ∨ (l = 2 ∧ st < q ∧ (cutB s st q).all good = true ∧ goN out (cutB s st q) (s.data.toList.drop q) = parts s.data.toList))) (fun _ a' _ => s.size - (intOf (a'.tmps.getD 6 undef)).toNat) ?_ ?_
    · have HG : Hid (goN [] [] (s.data.toList.drop 0) = parts s.data.toList) := hpar.symm
      have HO : Hid (w.ownsRow w.heap.size 9 1 (.slice none 0 0) ([] : List (List UInt8)).length (([] : List (List UInt8)).map strV)) := World.ownsRow_nil _ _ _ _
      have HB : Hid (Below w.heap.size w w) := Below.refl _ _
      have hlt : 0 < s.size := hpos
      have hz : ((0 : Int) == (s.size : Int)) = false := by simp; omega
      clear hpar
      by_cases hcm : (s[0]'hlt).toNat = 44
      · have hc1 : (((s[0]'hlt).toNat : Int) == 44) = true := by rw [hcm]; rfl
        have HN : Hid (parts s.data.toList = none) := by show _ = _; rw [← HG.out, dropB s 0 hlt]; exact goN_commaNo hcm rfl
        clear hcm
        go_wp2
        go_step3
        go_wp2
        go_step3
        go_wp2
        go_step3
        refine .inr ⟨_, rfl, ?_⟩
        go_wp2
        go_step3
        refine .inr ⟨_, rfl, ?_⟩
        go_wp2
        simp only [hops]
        go_ret2
        exact split_no HN.out HB.out
      · have hc1 : (((s[0]'hlt).toNat : Int) == 44) = false := by simp; omega
        by_cases hgd : good (s[0]'hlt) = true
        · have hg := (good_iff _).1 hgd
          have hg1 : ¬ ((s[0]'hlt).toNat : Int) < 33 := by omega
          have hg2 : ¬ (126 : Int) < ((s[0]'hlt).toNat : Int) := by omega
          clear hg
          go_wp2
          go_step3
          go_wp2
          go_step3
          go_wp2
          go_step3
          exact .inl ⟨[], 0, 1, _, _, _, _, _, _, _, _, _, _, _, _, _, _, _, _, _, _, _, _, _, _, _, _, _, _, _, _, _, _, _, _, _, _, _, _, _, _, _, _, _, _, _, _, _, _, _, _, _, rfl, HO.out, HB.out, by simp, by omega, .inr ⟨rfl, by omega, by rw [cutB_one s hlt, cutB_self]; simp [hgd], by rw [cutB_one s hlt, cutB_self, ← HG.out, dropB s 0 hlt, goN_step hcm]⟩⟩
        · have hgf : good (s[0]'hlt) = false := by simpa using hgd
          have HN : Hid (parts s.data.toList = none) := by show _ = _; rw [← HG.out, dropB s 0 hlt]; exact goN_wrong hgf hcm
          have hor : ((s[0]'hlt).toNat : Int) < 33 ∨ (¬ ((s[0]'hlt).toNat : Int) < 33 ∧ (126 : Int) < ((s[0]'hlt).toNat : Int)) := by
            have := mt (good_iff _).2 hgd
            omega
          clear hgd hgf hcm
          rcases hor with hlo | ⟨hlo, hhi⟩
          all_goals
            go_wp2
            go_step3
            go_wp2
            go_step3
            go_wp2
            go_step3
            refine .inr ⟨_, rfl, ?_⟩
            go_wp2
            simp only [hops]
            go_ret2
            exact split_no HN.out HB.out
    · rintro l a' w' ⟨out, st, q, ov, u7, u8, u9, u10, u11, u12, u13, u14, u15, u16, u17, u18, u19, u20, u21, u22, u23, u24, u25, u26, u27, u28, u29, u30, u31, u32, u33, u34, u35, u36, u37, u38, u39, u40, u41, u42, u43, u44, u45, u46, u47, u48, u49, u50, u51, u52, u53, u54, rfl, ho, hb, hoq, hqs, (⟨rfl, hg⟩ | ⟨rfl, hsq, hall, hg⟩)⟩
      · refine ⟨_, rfl, ?_⟩
        have HG : Hid (goN out [] (s.data.toList.drop q) = parts s.data.toList) := hg
        have HO : Hid (w'.ownsRow w.heap.size 9 1 ov out.length (out.map strV)) := ho
        have HB : Hid (Below w.heap.size w w') := hb
        clear hg ho hb hpar
        by_cases hlt : q < s.size
        · have hz : ((q : Int) == (s.size : Int)) = false := by simp; omega
          by_cases hcm : (s[q]'hlt).toNat = 44
          · have hc1 : (((s[q]'hlt).toNat : Int) == 44) = true := by rw [hcm]; rfl
            have HN : Hid (parts s.data.toList = none) := by show _ = _; rw [← HG.out, dropB s q hlt]; exact goN_commaNo hcm rfl
            clear hcm
            go_wp2
            go_step3
            go_wp2
            go_step3
            refine .inr ⟨_, rfl, ?_⟩
            go_wp2
            go_step3
            refine .inr ⟨_, rfl, ?_⟩
            go_wp2
            simp only [hops]
            go_ret2
            exact split_no HN.out HB.out
          · have hc1 : (((s[q]'hlt).toNat : Int) == 44) = false := by simp; omega
            by_cases hgd : good (s[q]'hlt) = true
            · have hg := (good_iff _).1 hgd
              have hg1 : ¬ ((s[q]'hlt).toNat : Int) < 33 := by omega
              have hg2 : ¬ (126 : Int) < ((s[q]'hlt).toNat : Int) := by omega
              clear hg
              go_wp2
              go_step3
              go_wp2
              go_step3
              exact .inl ⟨⟨out, q, q + 1, _, _, _, _, _, _, _, _, _, _, _, _, _, _, _, _, _, _, _, _, _, _, _, _, _, _, _, _, _, _, _, _, _, _, _, _, _, _, _, _, _, _, _, _, _, _, _, _, _, rfl, HO.out, HB.out, by omega, by omega, .inr ⟨rfl, by omega, by rw [cutB_succ s q q (Nat.le_refl _) hlt, cutB_self]; simp [hgd], by rw [cutB_succ s q q (Nat.le_refl _) hlt, cutB_self, ← HG.out, dropB s q hlt, goN_step hcm]⟩⟩, by simp [intOf]; omega⟩
            · have hgf : good (s[q]'hlt) = false := by simpa using hgd
              have HN : Hid (parts s.data.toList = none) := by show _ = _; rw [← HG.out, dropB s q hlt]; exact goN_wrong hgf hcm
              have hor : ((s[q]'hlt).toNat : Int) < 33 ∨ (¬ ((s[q]'hlt).toNat : Int) < 33 ∧ (126 : Int) < ((s[q]'hlt).toNat : Int)) := by
                have := mt (good_iff _).2 hgd
                omega
              clear hgd hgf hcm
              rcases hor with hlo | ⟨hlo, hhi⟩
              all_goals
                go_wp2
                go_step3
                go_wp2
                go_step3
                refine .inr ⟨_, rfl, ?_⟩
                go_wp2
                simp only [hops]
                go_ret2
                exact split_no HN.out HB.out
        · have hqe : q = s.size := by omega
          have HN : Hid (parts s.data.toList = none) := by show _ = _; rw [← HG.out, hqe, dropB_end]; exact goN_endNo rfl
          have hz : ((q : Int) == (s.size : Int)) = true := by simp; omega
          go_wp2
          go_step3
          go_wp2
          go_step3
          refine .inr ⟨_, rfl, ?_⟩
          go_wp2
          go_step3
          refine .inr ⟨_, rfl, ?_⟩
          go_wp2
          simp only [hops]
          go_ret2
          exact split_no HN.out HB.out
      · refine ⟨_, rfl, ?_⟩
        have hne1 : ((q : Int) == (st : Int)) = false := by simp; omega
        have hcl := cutB_len s st q (by omega) hqs
        have okc : 1 ≤ q - st → q - st ≤ 64 → okName (cutB s st q) = true := fun h1 h2 => by simp [okName, hall, hcl, h1, h2]
        have okn : ¬ q - st ≤ 64 → okName (cutB s st q) = false := fun h1 => by simp [okName, hcl]; omega
        have HG : Hid (goN out (cutB s st q) (s.data.toList.drop q) = parts s.data.toList) := hg
        have HO : Hid (w'.ownsRow w.heap.size 9 1 ov out.length (out.map strV)) := ho
        have HB : Hid (Below w.heap.size w w') := hb
        have HA : Hid ((cutB s st q).all good = true) := hall
        clear hg ho hb hpar hall hcl
        by_cases hlt : q < s.size
        · have hz : ((q : Int) == (s.size : Int)) = false := by simp; omega
          by_cases hcm : (s[q]'hlt).toNat = 44
          · have hc1 : (((s[q]'hlt).toNat : Int) == 44) = true := by rw [hcm]; rfl
            by_cases h64 : q - st ≤ 64
            · have h641 : ¬ (64 : Int) < (q : Int) - (st : Int) := by omega
              have HP : Hid (goN (out ++ [cutB s st q]) [] (s.data.toList.drop (q + 1)) = parts s.data.toList) := by show _ = _; rw [← HG.out, dropB s q hlt]; exact (goN_comma hcm (okc (by omega) (by omega))).symm
              clear hcm
              go_wp2
              go_step3
              refine .inr ⟨_, rfl, ?_⟩
              have hsrc := srcStr (heap_alloc_new w' (.cells #[.string (s.extract st q)] 9))
              have hbs := HB.out.size
              go_wp2_with (at_builtin; refine wpList_append_src _ rfl (.tmp 41) (.tmp 46) 24 24 rfl w.heap.size 9 i0 _ 16 Try.underlying24 hi hz0 hz1 hz2 rfl _ _ _ rfl (HO.out.alloc _) _ 1 [.string (s.extract st q)] rfl hsrc (by unfold maxLen; omega) (by omega) (by simp; omega) (w'.heap.size + 1) (by simp) ?_)
              intro v1 w1 ho1 hgrow1 hnil1 hat1
              have hb1 : Below w.heap.size w w1 := (HB.out.alloc hbs _).grown hgrow1 (by simp; omega) (fun k hk => (HO.out.lt k hk).1)
              have ho2 : w1.ownsRow w.heap.size 9 1 v1 (out ++ [cutB s st q]).length ((out ++ [cutB s st q]).map strV) := by
                rw [List.length_append, List.map_append]
                rw [extract_cut] at ho1
                exact ho1
              have HO1 : Hid (w1.ownsRow w.heap.size 9 1 v1 (out ++ [cutB s st q]).length ((out ++ [cutB s st q]).map strV)) := ho2
              have HB1 : Hid (Below w.heap.size w w1) := hb1
              clear ho1 hgrow1 hnil1 hat1 hb1 ho2 hsrc
              go_wp2
              go_step3
              exact .inl ⟨⟨out ++ [cutB s st q], _, q + 1, _, _, _, _, _, _, _, _, _, _, _, _, _, _, _, _, _, _, _, _, _, _, _, _, _, _, _, _, _, _, _, _, _, _, _, _, _, _, _, _, _, _, _, _, _, _, _, _, _, rfl, HO1.out, HB1.out, by simp; omega, by omega, .inl ⟨rfl, HP.out⟩⟩, by simp [intOf]; omega⟩
            · have h641 : (64 : Int) < (q : Int) - (st : Int) := by omega
              have HN : Hid (parts s.data.toList = none) := by show _ = _; rw [← HG.out, dropB s q hlt]; exact goN_commaNo hcm (okn (by omega))
              clear hcm
              go_wp2
              go_step3
              refine .inr ⟨_, rfl, ?_⟩
              go_wp2
              go_step3
              refine .inr ⟨_, rfl, ?_⟩
              go_wp2
              simp only [hops]
              go_ret2
              exact split_no HN.out HB.out
          · have hc1 : (((s[q]'hlt).toNat : Int) == 44) = false := by simp; omega
            by_cases hgd : good (s[q]'hlt) = true
            · have hg := (good_iff _).1 hgd
              have hg1 : ¬ ((s[q]'hlt).toNat : Int) < 33 := by omega
              have hg2 : ¬ (126 : Int) < ((s[q]'hlt).toNat : Int) := by omega
              clear hg
              go_wp2
              go_step3
              exact .inl ⟨⟨out, st, q + 1, _, _, _, _, _, _, _, _, _, _, _, _, _, _, _, _, _, _, _, _, _, _, _, _, _, _, _, _, _, _, _, _, _, _, _, _, _, _, _, _, _, _, _, _, _, _, _, _, _, rfl, HO.out, HB.out, by omega, by omega, .inr ⟨rfl, by omega, by rw [cutB_succ s st q (by omega) hlt]; simp [HA.out, hgd], by rw [cutB_succ s st q (by omega) hlt, ← HG.out, dropB s q hlt, goN_step hcm]⟩⟩, by simp [intOf]; omega⟩
            · have hgf : good (s[q]'hlt) = false := by simpa using hgd
              have HN : Hid (parts s.data.toList = none) := by show _ = _; rw [← HG.out, dropB s q hlt]; exact goN_wrong hgf hcm
              have hor : ((s[q]'hlt).toNat : Int) < 33 ∨ (¬ ((s[q]'hlt).toNat : Int) < 33 ∧ (126 : Int) < ((s[q]'hlt).toNat : Int)) := by
                have := mt (good_iff _).2 hgd
                omega
              clear hgd hgf hcm
              rcases hor with hlo | ⟨hlo, hhi⟩
              all_goals
                go_wp2
                go_step3
                refine .inr ⟨_, rfl, ?_⟩
                go_wp2
                simp only [hops]
                go_ret2
                exact split_no HN.out HB.out
        · have hqe : q = s.size := by omega
          have hz : ((q : Int) == (s.size : Int)) = true := by simp; omega
          by_cases h64 : q - st ≤ 64
          · have h641 : ¬ (64 : Int) < (q : Int) - (st : Int) := by omega
            have HP : Hid (parts s.data.toList = some (out ++ [cutB s st q])) := by show _ = _; rw [← HG.out]; rw [show s.data.toList.drop q = [] from by rw [hqe]; exact dropB_end s]; exact goN_end (okc (by omega) (by omega))
            clear hqe
            go_wp2
            go_step3
            refine .inr ⟨_, rfl, ?_⟩
            have hsrc := srcStr (heap_alloc_new w' (.cells #[.string (s.extract st q)] 9))
            have hbs := HB.out.size
            go_wp2_with (at_builtin; refine wpList_append_src _ rfl (.tmp 41) (.tmp 46) 24 24 rfl w.heap.size 9 i0 _ 16 Try.underlying24 hi hz0 hz1 hz2 rfl _ _ _ rfl (HO.out.alloc _) _ 1 [.string (s.extract st q)] rfl hsrc (by unfold maxLen; omega) (by omega) (by simp; omega) (w'.heap.size + 1) (by simp) ?_)
            intro v1 w1 ho1 hgrow1 hnil1 hat1
            have hb1 : Below w.heap.size w w1 := (HB.out.alloc hbs _).grown hgrow1 (by simp; omega) (fun k hk => (HO.out.lt k hk).1)
            have ho2 : w1.ownsRow w.heap.size 9 1 v1 (out ++ [cutB s st q]).length ((out ++ [cutB s st q]).map strV) := by
              rw [List.length_append, List.map_append]
              rw [extract_cut] at ho1
              exact ho1
            have HO1 : Hid (w1.ownsRow w.heap.size 9 1 v1 (out ++ [cutB s st q]).length ((out ++ [cutB s st q]).map strV)) := ho2
            have HB1 : Hid (Below w.heap.size w w1) := hb1
            clear ho1 hgrow1 hnil1 hat1 hb1 ho2 hsrc
            go_wp2
            simp only [hops]
            go_ret2
            exact split_yes HP.out HO1.out HB1.out
          · have h641 : (64 : Int) < (q : Int) - (st : Int) := by omega
            have HN : Hid (parts s.data.toList = none) := by show _ = _; rw [← HG.out]; rw [show s.data.toList.drop q = [] from by rw [hqe]; exact dropB_end s]; exact goN_endNo (okn (by omega))
            clear hqe
            go_wp2
            go_step3
            refine .inr ⟨_, rfl, ?_⟩
            go_wp2
            go_step3
            refine .inr ⟨_, rfl, ?_⟩
            go_wp2
            simp only [hops]
            go_ret2
            exact split_no HN.out HB.out

end Go.Proofs.Ytnnhffjajbiicaa
