/- The walk of the law NegoFirst. -/
import Derived.Test.YtnnhffjajbiicaaNgE
namespace Go.Proofs.Ytnnhffjajbiicaa
open Go Go.RowKit

theorem SOwn.ssl {w : World} {base : Nat} {v : Value} {ss : List ByteArray} (h : SOwn w base v ss) : SSl w v ss := SSl.ofRow h
/-- The list back to front, as far as k. -/
theorem SOwn.below {w w' : World} {base B : Nat} {v : Value} {ss : List ByteArray} (h : SOwn w base v ss) (hb : Below B w w') (hv : ∀ k, v.ownBlock = some k → k < B) : SOwn w' base v ss :=
  (Keeps.ofBelow (S := fun k => B ≤ k) hb fun _ _ h => h).row h fun k hk hB => absurd (hv k hk) (by omega)

theorem choose_perm {cl sv sv' : List ByteArray} (h : ∀ x, x ∈ sv ↔ x ∈ sv') : chooseO cl sv = chooseO cl sv' := by
  unfold chooseO
  congr 1
  funext x
  rw [Bool.eq_iff_iff, hasB_iff, hasB_iff]
  exact h x
theorem choose_more {cl sv more : List ByteArray} (h : ∀ x ∈ more, x ∉ sv) : chooseO (more ++ cl) sv = chooseO cl sv := by
  unfold chooseO
  rw [List.find?_append, List.find?_eq_none.2 (fun x hx => by rw [(hasB_no sv x).2 (h x hx)]; simp)]
  rfl

theorem SSl.src {w : World} {v : Value} {ss : List ByteArray} (h : SSl w v ss) : Src Try.prog 1 24 v ss.length (ss.map Value.string) w := by
  obtain ⟨ao, cap, rfl, _, _, hn, hc⟩ := h
  cases ao with
  | none =>
    obtain ⟨rfl, rfl⟩ := hn rfl
    exact Src.ofNil w Try.underlying24 0
  | some ad =>
    by_cases hx : ss = []
    · subst hx
      exact Src.ofSlice w Try.underlying24 ad 0 cap [] rfl (fun j u h => by simp at h) (fun u h => by cases h)
    obtain ⟨b, off, rfl, hcell⟩ := hc ad rfl hx
    refine Src.ofSlice w Try.underlying24 _ _ _ _ (by simp) (fun j u hu => ?_) (fun u hu => ?_)
    · rw [add_lit']
      rw [List.getElem?_map] at hu
      cases e : ss[j]? with
      | none => rw [e] at hu; cases hu
      | some x => rw [e] at hu; cases hu; exact hcell j x e
    · obtain ⟨x, _, rfl⟩ := List.mem_map.1 hu
      rfl
theorem back_next (S : List ByteArray) (k : Nat) (h : k < S.length) : (S.drop k).reverse = (S.drop (k + 1)).reverse ++ [S[k]] := by
  rw [List.drop_eq_getElem_cons h, List.reverse_cons]

set_option maxHeartbeats 800000 in
set_option maxRecDepth 100000 in
theorem negoFirst_c (a b m : Value) (cl sv mo : List ByteArray) (w : World) (ha : SSl w a cl) (hb : SSl w b sv) (hm : SSl w m mo) :
    Calls Try.prog 7 #[a, b, m] w fun e w' => e = .returned (.bool true) ∧ Below w.heap.size w w' := by
  obtain ⟨i0, hi, hz0, hz1, hz2⟩ := info_parts Try.infoStr
  go_enter Try.func7, Try.ntmps7
  go_wp2_with fail
  refine (few_n 6 60 (by omega) (by omega) _ _ _ ha).mono ?_
  rintro e w1 ⟨v1, rfl, ho1, hb1⟩
  have hl1 := fewL_length cl 6 60
  generalize fewL cl 6 60 = C at ho1 hl1
  clear ha
  go_wp2_with fail
  refine (few_n 6 60 (by omega) (by omega) _ _ _ (hb.fresh hb1)).mono ?_
  rintro e w2 ⟨v2, rfl, ho2, hb2⟩
  have hl2 := fewL_length sv 6 60
  generalize fewL sv 6 60 = S at ho2 hl2
  have HC : Hid (SSl w2 v1 C) := ho1.ssl.fresh hb2
  have HS : Hid (SSl w2 v2 S) := ho2.ssl
  have HB : Hid (Below w.heap.size w w2) := hb1.trans (hb2.mono hb1.size)
  have HM : Hid (SSl w2 m mo) := (hm.fresh hb1).fresh hb2
  clear hb hm hb1 hb2 ho1 ho2
  go_wp2_with fail
  refine (choose_c _ _ _ _ _ HC.out HS.out).mono ?_
  rintro e w3 ⟨rfl, rfl⟩
  obtain ⟨R, hR⟩ : ∃ R, R = chooseO C S := ⟨_, rfl⟩
  rw [← hR]
  have HR := hidden hR
  clear hR
  obtain ⟨sa, sc, rfl, hsc1, hsc2, _⟩ := id HS.out
  obtain ⟨ma, mc, rfl, hmc1, hmc2, _⟩ := id HM.out
  obtain ⟨xs, xe, hx⟩ : ∃ xs xe, chosenV R = .tuple #[.string xs, .int .i64 xe] := by cases R <;> exact ⟨_, _, rfl⟩
  rw [hx]
  have HX := hidden hx
  clear hx
  unfold maxLen at hsc2 hmc2
  go_wp2_with fail
  go_loopw [9, 10] (fun o i wr => ∃ k : Nat, k ≤ S.length ∧ i = .int .i64 ((k : Int) - 1) ∧ SOwn wr w3.heap.size o (S.drop k).reverse ∧ Below w3.heap.size w3 wr) (fun _ i _ => (intOf i + 1).toNat)
  case atStart => exact ⟨S.length, Nat.le_refl _, rfl, by rw [List.drop_length]; exact World.ownsRow_nil _ _ _ _, Below.refl _ _⟩
  case round =>
    obtain ⟨k, hk, rfl, ho, hb⟩ := hrel
    have HO := hidden ho
    have HB3 := hidden hb
    clear ho hb
    obtain ⟨oa, oc, rfl⟩ := ownsRow_shape HO.out
    cases k with
    | succ k =>
      have hlt : k < S.length := by omega
      have hne : S ≠ [] := by rintro rfl; simp at hlt
      have hs3 := HS.out.fresh HB3.out
      obtain ⟨b1, o1, rfl⟩ := hs3.addr' hne
      have k1 := hs3.cellAt k hlt
      have HN := hidden (back_next S k hlt)
      have hi1 : (k : Int) < (S.length : Int) := by omega
      generalize S[k] = s at k1 HN
      have hfl : (S.drop (k + 1)).reverse.length ≤ 6 := by simp; omega
      generalize (S.drop (k + 1)).reverse = F at HO HN hfl
      rw [show (((k + 1 : Nat) : Int) - 1) = (k : Int) from by omega]
      have hown := HO.out
      unfold SOwn at hown
      clear hs3
      go_wp2_with (at_builtin; refine wpList_append_src _ rfl (.tmp 36) (.tmp 41) 24 24 rfl w3.heap.size 9 i0 _ 16 Try.underlying24 hi hz0 hz1 hz2 rfl _ _ _ rfl (hown.alloc _) _ 1 [.string s] rfl (srcStr1 s) (by unfold maxLen; omega) (by omega) (by have := HB3.out.size; simp; omega) (wr.heap.size + 1) (by simp) ?_)
      intro v' w2 hown' hgrow hnil hat
      obtain ⟨ao', cp', rfl⟩ := ownsRow_shape hown'
      have HO2 := hidden hown'
      have HG := hidden hgrow
      clear hown' hgrow hnil hat hown
      go_wp2
      go_roundw
      case rel =>
        refine ⟨k, by omega, rfl, ?_, ?_⟩
        · unfold SOwn
          rw [HN.out, List.length_append, List.map_append]
          exact HO2.out
        · exact (HB3.out.alloc HB3.out.size _).grown HG.out (by have := HB3.out.size; simp; omega) (fun g hg => (HO.out.lt g hg).1)
      case measure => simp [intOf]
    | zero =>
      have hre : (S.drop 0).reverse.length = S.length := by simp
      have HBK : Hid (SSl wr (.slice oa S.length oc) (S.drop 0).reverse) := by
        have := HO.out.ssl
        rw [hre] at this
        exact this
      rw [hre]
      clear hre
      have HC4 : Hid (SSl wr v1 C) := HC.out.fresh HB3.out
      rw [show (((0 : Nat) : Int) - 1) = -1 from rfl]
      go_wp2_with fail
      refine (choose_c _ _ _ _ _ HC4.out HBK.out).mono ?_
      rintro e w4 ⟨rfl, rfl⟩
      rw [choose_perm (sv := (S.drop 0).reverse) (sv' := S) (by simp), ← HR.out, HX.out]
      have HB4 := hidden HB3.out
      clear HBK HC4 HO HB3
      go_wp2_with fail
      go_loopw [13, 14] (fun o i wr => ∃ (k : Nat) (L : List ByteArray), k ≤ mo.length ∧ k ≤ 6 ∧ i = .int .i64 k ∧ L.length ≤ k ∧ (∀ x ∈ L, x ∉ S) ∧ SOwn wr w3.heap.size o L ∧ Below w3.heap.size w3 wr) (fun _ i _ => mo.length - (intOf i).toNat)
      case atStart => exact ⟨0, [], Nat.zero_le _, Nat.zero_le _, rfl, Nat.le_refl _, (fun x h => by cases h), World.ownsRow_nil _ _ _ _, HB4.out⟩
      case round =>
        clear HB4
        obtain ⟨k, L, hk, hk6, rfl, hLk, hno, ho, hb⟩ := hrel
        have HNS := hidden hno
        have HO5 := hidden ho
        have HB5 := hidden hb
        have HC5 : Hid (SSl wr v1 C) := HC.out.fresh hb
        have HS5 : Hid (SSl wr (.slice sa S.length sc) S) := HS.out.fresh hb
        have HM5 : Hid (SSl wr (.slice ma mo.length mc) mo) := HM.out.fresh hb
        clear ho hb hno
        obtain ⟨oa5, oc5, rfl⟩ := ownsRow_shape HO5.out
        have HN : Hid True := trivial
        by_cases hlt : k < mo.length
        · have hi1 : (k : Int) < (mo.length : Int) := by omega
          by_cases hlt6 : k < 6
          · have hi6 : (k : Int) < 6 := by omega
            have hne : mo ≠ [] := by rintro rfl; simp at hlt
            obtain ⟨b1, o1, rfl⟩ := HM5.out.addr' hne
            have k1 := HM5.out.cellAt k hlt
            generalize mo[k] = t at k1
            obtain ⟨w5, hw5⟩ : ∃ x, x = wr := ⟨wr, rfl⟩
            subst hw5
            go_wp2_with fail
            go_loopw [15, 16] (fun h i wr => ∃ (j : Nat) (f : Bool), j ≤ S.length ∧ i = .int .i64 j ∧ h = .bool f ∧ (f = false → ∀ y ∈ S.take j, t ≠ y) ∧ Still w5 wr) (fun _ i _ => S.length - (intOf i).toNat)
            case atStart => exact ⟨0, false, Nat.zero_le _, rfl, rfl, (fun _ y h => by simp at h), Keeps.refl _ _⟩
            case round =>
              obtain ⟨j, f, hj, rfl, rfl, hf, hst⟩ := hrel
              have HF := hidden hf
              have HST := hidden hst
              clear hf hst
              by_cases hjl : j < S.length
              · have hj1 : (j : Int) < (S.length : Int) := by omega
                cases f with
                | true =>
                  go_wp2_with fail
                  go_quiet (fail)
                  go_wp2
                  go_roundw
                  case rel => exact ⟨j + 1, true, by omega, by go_num, rfl, (fun h => by cases h), HST.out.drewN nq⟩
                  case measure => simp [intOf]; omega
                | false =>
                  have hne2 : S ≠ [] := by rintro rfl; simp at hjl
                  have hs6 := HS5.out.keep HST.out (fun _ _ h => h)
                  obtain ⟨b2, o2, rfl⟩ := hs6.addr' hne2
                  have k2 := hs6.cellAt j hjl
                  have k1' := HST.out.cell k1 (fun h => h)
                  have HJ2 : Hid (t ≠ S[j] → ∀ y ∈ S.take (j + 1), t ≠ y) := fun h => take_next hjl (HF.out rfl) h
                  generalize S[j] = u at k2 HJ2
                  clear hs6
                  go_wp2_with fail
                  go_quiet (fail)
                  go_wp2
                  go_roundw
                  case rel =>
                    refine ⟨j + 1, (u.toList == t.toList), by omega, by go_num, rfl, (fun h => HJ2.out (fun e => str_ne h e.symm)), HST.out.drewN nq⟩
                  case measure => simp [intOf]; omega
              · have hj1 : ¬ (j : Int) < (S.length : Int) := by omega
                cases f with
                | true =>
                  go_wp2
                  go_roundw
                  case rel => exact ⟨k + 1, L, by omega, by omega, by go_num, by omega, HNS.out, HST.out.row HO5.out (fun _ _ h => h), HB5.out.trans (still_below HST.out HB5.out.size)⟩
                  case measure => simp [intOf]; omega
                | false =>
                  have HTN : Hid (t ∉ S) := fun h => by
                    have hj2 : j = S.length := by omega
                    have := HF.out rfl
                    rw [hj2, List.take_length] at this
                    exact this t h rfl
                  have k1' := HST.out.cell k1 (fun h => h)
                  have hb7 : Below w3.heap.size w3 wr := HB5.out.trans (still_below HST.out HB5.out.size)
                  have hown : SOwn wr w3.heap.size (Value.slice oa5 L.length oc5) L := HST.out.row HO5.out (fun _ _ h => h)
                  have HO8 := hidden hown
                  unfold SOwn at hown
                  have HB7 := hidden hb7
                  clear hb7
                  go_wp2_with (at_builtin; refine wpList_append_src _ rfl (.tmp 79) (.tmp 84) 24 24 rfl w3.heap.size 9 i0 _ 16 Try.underlying24 hi hz0 hz1 hz2 rfl _ _ _ rfl (hown.alloc _) _ 1 [.string t] rfl (srcStr1 t) (by unfold maxLen; omega) (by omega) (by have := HB7.out.size; simp; omega) (wr.heap.size + 1) (by simp) ?_)
                  intro v' w2 hown' hgrow hnil hat
                  obtain ⟨ao', cp', rfl⟩ := ownsRow_shape hown'
                  have HO2 := hidden hown'
                  have HG := hidden hgrow
                  clear hown' hgrow hnil hat hown
                  go_wp2
                  go_roundw
                  case rel =>
                    refine ⟨k + 1, L ++ [t], by omega, by omega, by go_num, by simp; omega, ?_, ?_, ?_⟩
                    · intro x hx
                      rcases List.mem_append.1 hx with h | h
                      · exact HNS.out x h
                      · rw [List.mem_singleton.1 h]; exact HTN.out
                    · unfold SOwn
                      rw [List.length_append, List.map_append]
                      exact HO2.out
                    · exact (HB7.out.alloc HB7.out.size _).grown HG.out (by have := HB7.out.size; simp; omega) (fun g hg => (HO8.out.lt g hg).1)
                  case measure => simp [intOf]; omega
          · have hi6 : ¬ (k : Int) < 6 := by omega
            clear HN
            go_wp2_with (at_builtin; refine wpList_append_src _ rfl (.tmp 87) (.tmp 88) 24 24 rfl w3.heap.size 9 i0 _ 16 Try.underlying24 hi hz0 hz1 hz2 rfl _ _ _ rfl HO5.out _ C.length (C.map Value.string) rfl HC5.out.src (by unfold maxLen; omega) (by omega) HB5.out.size wr.heap.size rfl ?_)
            intro v6 w6 hown6 hgrow6 hnil6 hat6
            obtain ⟨ao6, cp6, rfl⟩ := ownsRow_shape hown6
            have hb6 : Below w3.heap.size w3 w6 := HB5.out.grown hgrow6 HB5.out.size (fun g hg => (HO5.out.lt g hg).1)
            have HL6 : Hid (SSl w6 (.slice ao6 (L.length + C.length) cp6) (L ++ C)) := by
              refine SSl.ofRow (base := w3.heap.size) (n := L.length + C.length) ?_
              rw [List.map_append]
              exact hown6
            have HS6 : Hid (SSl w6 (.slice sa S.length sc) S) := HS.out.fresh hb6
            have HB6 := hidden hb6
            clear hown6 hgrow6 hnil6 hat6 hb6
            go_wp2_with fail
            refine (choose_c _ _ _ _ _ HL6.out HS6.out).mono ?_
            rintro e w7 ⟨rfl, rfl⟩
            rw [choose_more HNS.out, ← HR.out, HX.out]
            have hxx : (xs.toList == xs.toList) = true := by simp
            have hee : (xe == xe) = true := by simp
            go_wp2_with fail
            refine (known_c _).mono ?_
            rintro e w8 ⟨rfl, hb8⟩
            have HB8 : Hid (Below w.heap.size w w8) := HB.out.trans ((HB6.out.trans (hb8.mono HB6.out.size)).mono HB.out.size)
            go_wp2
            go_ret
            exact ⟨rfl, HB8.out⟩
        · have hi1 : ¬ (k : Int) < (mo.length : Int) := by omega
          clear HN
          go_wp2_with (at_builtin; refine wpList_append_src _ rfl (.tmp 87) (.tmp 88) 24 24 rfl w3.heap.size 9 i0 _ 16 Try.underlying24 hi hz0 hz1 hz2 rfl _ _ _ rfl HO5.out _ C.length (C.map Value.string) rfl HC5.out.src (by unfold maxLen; omega) (by omega) HB5.out.size wr.heap.size rfl ?_)
          intro v6 w6 hown6 hgrow6 hnil6 hat6
          obtain ⟨ao6, cp6, rfl⟩ := ownsRow_shape hown6
          have hb6 : Below w3.heap.size w3 w6 := HB5.out.grown hgrow6 HB5.out.size (fun g hg => (HO5.out.lt g hg).1)
          have HL6 : Hid (SSl w6 (.slice ao6 (L.length + C.length) cp6) (L ++ C)) := by
            refine SSl.ofRow (base := w3.heap.size) (n := L.length + C.length) ?_
            rw [List.map_append]
            exact hown6
          have HS6 : Hid (SSl w6 (.slice sa S.length sc) S) := HS.out.fresh hb6
          have HB6 := hidden hb6
          clear hown6 hgrow6 hnil6 hat6 hb6
          go_wp2_with fail
          refine (choose_c _ _ _ _ _ HL6.out HS6.out).mono ?_
          rintro e w7 ⟨rfl, rfl⟩
          rw [choose_more HNS.out, ← HR.out, HX.out]
          have hxx : (xs.toList == xs.toList) = true := by simp
          have hee : (xe == xe) = true := by simp
          go_wp2_with fail
          refine (known_c _).mono ?_
          rintro e w8 ⟨rfl, hb8⟩
          have HB8 : Hid (Below w.heap.size w w8) := HB.out.trans ((HB6.out.trans (hb8.mono HB6.out.size)).mono HB.out.size)
          go_wp2
          go_ret
          exact ⟨rfl, HB8.out⟩
end Go.Proofs.Ytnnhffjajbiicaa
