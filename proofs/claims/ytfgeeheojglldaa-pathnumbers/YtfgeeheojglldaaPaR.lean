/- The walk of the law PathRules. -/
import Derived.Test.YtfgeeheojglldaaPaT
namespace Go.Proofs.Ytfgeeheojglldaa
open Go Go.RowKit

theorem SOwn.fresh {w w' : World} {base : Nat} {v : Value} {ss : List ByteArray} (h : SOwn w base v ss) (hb : Below w.heap.size w w') : SOwn w' base v ss :=
  (Keeps.ofFresh (S := fun _ => False) hb).row h fun _ _ h => h
/-- Split of a text whose names are known. -/
theorem split_known (s : ByteArray) (W : World) (hs : s.size ≤ 200) (l : List ByteArray) (h : goP [] [] s.data.toList = some l) :
    Calls Try.prog 9 #[.string s] W fun e w' => ∃ v, e = .returned (.tuple #[v, .int .i64 0]) ∧ SOwn w' W.heap.size v l ∧ Below W.heap.size W w' := by
  have h1 := split_c s W (by omega)
  obtain ⟨a, b, _⟩ := split_ok (by rw [← size_len]; exact hs) h
  rw [a, b] at h1
  exact h1
theorem clean_known (s : ByteArray) (W : World) (hs : s.size ≤ 200) (l : List ByteArray) (h : goP [] [] s.data.toList = some l) :
    Calls Try.prog 11 #[.string s] W fun e w' => e = .returned (.tuple #[.string (tb (joinP l)), .int .i64 0]) ∧ Below W.heap.size W w' := by
  have h1 := clean_c s W (by omega)
  obtain ⟨_, b, c⟩ := split_ok (by rw [← size_len]; exact hs) h
  rw [b, c] at h1
  exact h1
theorem split_same {a b : List UInt8} (ha : a.length ≤ 200) (hb : b.length ≤ 200) (h : goP [] [] a = goP [] [] b) : splitE a = splitE b ∧ splitL a = splitL b := by
  have h1 : ¬ 200 < a.length := by omega
  have h2 : ¬ 200 < b.length := by omega
  simp [splitE, splitL, splitO, h1, h2, h]
theorem app_list (a b : ByteArray) : (a ++ b).data.toList = a.data.toList ++ b.data.toList := by rw [ByteArray.data_append, Array.toList_append]

set_option maxHeartbeats 3200000 in
set_option maxRecDepth 100000 in
theorem pathRules_c (s t : ByteArray) (w : World) :
    Calls Try.prog 5 #[.string s, .string t] w fun e w' => e = .returned (.bool true) ∧ Below w.heap.size w w' := by
  go_enter Try.func5, Try.ntmps5
  go_wp2_with fail
  refine (head_c s 90 (by omega) _).mono ?_
  rintro e w1 ⟨rfl, rfl⟩
  have hs : (s.extract 0 90).size ≤ 90 := by simp; omega
  generalize s.extract 0 90 = s at hs ⊢
  go_wp2_with fail
  refine (head_c t 90 (by omega) _).mono ?_
  rintro e w2 ⟨rfl, rfl⟩
  have ht : (t.extract 0 90).size ≤ 90 := by simp; omega
  generalize t.extract 0 90 = t at ht ⊢
  cases hg : goP [] [] s.data.toList with
  | none =>
    obtain ⟨a, b, c⟩ := split_no (by rw [← size_len]; omega) hg
    have HC := hidden (fun W => split_c s W (by omega))
    have HD := hidden (fun W => clean_c s W (by omega))
    rw [a, b] at HC
    rw [c, b] at HD
    clear a b c hg
    go_wp2_with fail
    refine (HC.out _).mono ?_
    rintro e w3 ⟨v3, rfl, ho3, hb3⟩
    obtain ⟨ao, cap, rfl⟩ := ho3.len
    have HB3 := hidden hb3
    clear ho3 hb3
    go_wp2_with fail
    refine (HD.out _).mono ?_
    rintro e w4 ⟨rfl, hb4⟩
    have HB4 := hidden (HB3.out.trans (hb4.mono HB3.out.size))
    have hd : ((tb []).toList == []) = true := by rw [str_lit]; rfl
    generalize tb [] = E at hd ⊢
    clear hb4
    go_wp2_with fail
    refine (known_c _).mono ?_
    rintro e w5 ⟨rfl, hb5⟩
    have HB5 := hidden (HB4.out.trans (hb5.mono HB4.out.size))
    go_wp2
    go_ret
    exact ⟨rfl, HB5.out⟩
  | some l =>
    have hall := goP_all _ _ _ _ hg (by simp)
    have hlen := joinP_len hg
    rw [← size_len] at hlen
    have hj := goP_join l hall
    have hcs : (tb (joinP l)).size ≤ 91 := by rw [tb_size]; omega
    have HS := hidden (fun W => split_known s W (by omega) l hg)
    have HC := hidden (fun W => clean_known s W (by omega) l hg)
    have HJ := hidden (fun W => clean_known (tb (joinP l)) W (by omega) l (by rw [tb_list]; exact hj))
    have HU := hidden (fun W => split_known (tb (joinP l) ++ ⟨#[47, 46, 46]⟩) W (by rw [ByteArray.size_append, show (⟨#[47, 46, 46]⟩ : ByteArray).size = 3 from rfl]; omega) l.dropLast (by
      rw [app_list, tb_list, show ((⟨#[47, 46, 46]⟩ : ByteArray).data.toList) = 47 :: [46, 46] from rfl, goP_stroke, hj, Option.bind_some]
      have := goP_app l [46, 46] (by decide) [] []
      rw [List.append_nil] at this
      rw [this, goP]
      exact stepP_up l))
    have e1 : goP [] [] (tb (joinP l) ++ ⟨#[47]⟩ ++ t).data.toList = goP l [] t.data.toList := by
      rw [app_list, app_list, tb_list, show ((⟨#[47]⟩ : ByteArray).data.toList) = [47] from rfl, List.append_assoc, List.singleton_append, goP_stroke, hj, Option.bind_some]
    have e2 : goP [] [] (s ++ ⟨#[47]⟩ ++ t).data.toList = goP l [] t.data.toList := by
      rw [app_list, app_list, show ((⟨#[47]⟩ : ByteArray).data.toList) = [47] from rfl, List.append_assoc, List.singleton_append, goP_stroke, hg, Option.bind_some]
    have l1 : (tb (joinP l) ++ ⟨#[47]⟩ ++ t).data.toList.length ≤ 200 := by
      rw [← size_len, ByteArray.size_append, ByteArray.size_append, show (⟨#[47]⟩ : ByteArray).size = 1 from rfl]; omega
    have l2 : (s ++ ⟨#[47]⟩ ++ t).data.toList.length ≤ 200 := by
      rw [← size_len, ByteArray.size_append, ByteArray.size_append, show (⟨#[47]⟩ : ByteArray).size = 1 from rfl]; omega
    have HX : Hid (∃ XE XL, (∀ W, Calls Try.prog 9 #[.string (tb (joinP l) ++ ⟨#[47]⟩ ++ t)] W fun e w' => ∃ v, e = .returned (.tuple #[v, .int .i64 XE]) ∧ SOwn w' W.heap.size v XL ∧ Below W.heap.size W w') ∧
        (∀ W, Calls Try.prog 9 #[.string (s ++ ⟨#[47]⟩ ++ t)] W fun e w' => ∃ v, e = .returned (.tuple #[v, .int .i64 XE]) ∧ SOwn w' W.heap.size v XL ∧ Below W.heap.size W w')) := by
      refine ⟨splitE (s ++ ⟨#[47]⟩ ++ t).data.toList, splitL (s ++ ⟨#[47]⟩ ++ t).data.toList, fun W => ?_, fun W => split_c _ W (by rw [size_len]; omega)⟩
      have h1 := split_c (tb (joinP l) ++ ⟨#[47]⟩ ++ t) W (by rw [size_len]; omega)
      obtain ⟨e3, e4⟩ := split_same l1 l2 (e1.trans e2.symm)
      rw [e3, e4] at h1
      exact h1
    obtain ⟨XE, XL, hx1, hx2⟩ := HX.out
    have HX1 := hidden hx1
    have HX2 := hidden hx2
    have HJN := hidden (fun v W (hv : SSl W v l) => join_c v l W hv (by
      have h1 := goP_len s.data.toList [] [] l hg
      rw [← size_len] at h1
      simp [flat_nil] at h1
      omega))
    have HALL := hidden hall
    clear hx1 hx2 HX e1 e2 l1 l2 hj hlen hg hall
    generalize tb (joinP l) = C at hcs HC HJ HU HX1 HJN
    have hoc : ¬ (9223372036854775807 < C.size + 3) := by omega
    have hoc1 : ¬ (9223372036854775807 < C.size + 1) := by omega
    have hoc2 : ¬ (9223372036854775807 < C.size + 1 + t.size) := by omega
    have hos1 : ¬ (9223372036854775807 < s.size + 1) := by omega
    have hos2 : ¬ (9223372036854775807 < s.size + 1 + t.size) := by omega
    have hcc : (C.toList == C.toList) = true := by simp
    have hxx : (XE == XE) = true := by simp
    go_wp2_with fail
    refine (HS.out _).mono ?_
    rintro e w3 ⟨v3, rfl, ho3, hb3⟩
    obtain ⟨ao, cap, rfl⟩ := ho3.len
    have HO3 := hidden ho3
    have HB3 := hidden hb3
    clear ho3 hb3
    go_wp2_with fail
    refine (HC.out _).mono ?_
    rintro e w4 ⟨rfl, hb4⟩
    have HB4 := hidden (HB3.out.trans (hb4.mono HB3.out.size))
    have HO4 := hidden (HO3.out.fresh hb4)
    clear hb4 HO3
    have hmax : l.length ≤ 9223372036854775807 := by
      obtain ⟨_, _, e, h1, h2, _⟩ := HO4.out.ssl
      cases e
      unfold maxLen at h2
      omega
    go_wp2
    go_loop [9] (fun c => ∃ k : Nat, k ≤ l.length ∧ c = .int .i64 k) (fun c => l.length - (intOf c).toNat)
    case atStart => exact ⟨0, Nat.zero_le _, rfl⟩
    case round =>
      obtain ⟨k, hk, rfl⟩ := hrel
      by_cases hlt : k < l.length
      · have hi1 : (k : Int) < (l.length : Int) := by omega
        obtain ⟨b1, o1, rfl⟩ := HO4.out.ssl.addr' (by rintro rfl; simp at hlt)
        have x1 := HO4.out.ssl.cellAt k hlt
        have HR := hidden (HALL.out l[k] (List.getElem_mem hlt))
        generalize l[k] = n at x1 HR
        go_wp2_with fail
        refine (right_c n _).mono ?_
        rintro e w5 ⟨rfl, rfl⟩
        rw [HR.out]
        go_wp2
        go_round
        case rel => exact ⟨k + 1, by omega, by go_num⟩
        case measure => simp [intOf]; omega
      · have hi1 : ¬ (k : Int) < (l.length : Int) := by omega
        clear hk hlt
        go_wp2_with fail
        refine (HJ.out _).mono ?_
        rintro e w5 ⟨rfl, hb5⟩
        have HB5 := hidden (HB4.out.trans (hb5.mono HB4.out.size))
        have HO5 := hidden (HO4.out.fresh hb5)
        clear hb5
        go_wp2_with fail
        refine (HJN.out _ _ HO5.out.ssl).mono ?_
        rintro e w6 ⟨rfl, hb6⟩
        have HB6 := hidden (HB5.out.trans (hb6.mono HB5.out.size))
        have HO6 := hidden (HO5.out.fresh hb6)
        clear hb6
        go_wp2_with fail
        refine (HU.out _).mono ?_
        rintro e w7 ⟨v7, rfl, ho7, hb7⟩
        have HB7 := hidden (HB6.out.trans (hb7.mono HB6.out.size))
        have HO7 := hidden (HO6.out.fresh hb7)
        have HU7 := hidden ho7.ssl
        clear hb7 ho7
        have HI7 := hidden HO7.out.init
        have hcap : l.length ≤ cap := by
          obtain ⟨_, _, e, h1, _⟩ := HO7.out.ssl
          cases e
          exact h1
        generalize l.dropLast = U at HU7 HI7
        generalize hn : l.length = n at HI7 hcap hmax
        clear hn HO7 HO6 HO5 HO4 HALL HJN HS HC HJ HU
        cases n with
        | zero =>
          go_wp2_with fail
          refine (texts_c _ _ U U _ HU7.out HI7.out.ssl).mono ?_
          rintro e w8 ⟨rfl, q, rfl⟩
          rw [show decide (U = U) = true by simp]
          go_wp2_with fail
          refine (HX1.out _).mono ?_
          rintro e w9 ⟨v9, rfl, ho9, hb9⟩
          have HB9 := hidden (((below_drewN HB7.out q)).trans (hb9.mono HB7.out.size))
          have HA9 := hidden ho9.ssl
          clear hb9 ho9
          go_wp2_with fail
          refine (HX2.out _).mono ?_
          rintro e w10 ⟨v10, rfl, ho10, hb10⟩
          have HB10 := hidden (HB9.out.trans (hb10.mono HB9.out.size))
          have HA10 := hidden (HA9.out.fresh hb10)
          have HE10 := hidden ho10.ssl
          clear hb10 ho10
          go_wp2_with fail
          refine (texts_c _ _ XL XL _ HA10.out HE10.out).mono ?_
          rintro e w11 ⟨rfl, q2, rfl⟩
          rw [show decide (XL = XL) = true by simp]
          go_wp2_with fail
          refine (known_c _).mono ?_
          rintro e w12 ⟨rfl, hb12⟩
          have HB12 := hidden ((below_drewN HB10.out q2).trans (hb12.mono HB10.out.size))
          go_wp2
          go_ret
          exact ⟨rfl, HB12.out⟩
        | succ m =>
          go_wp2_with fail
          refine (texts_c _ _ U U _ HU7.out HI7.out.ssl).mono ?_
          rintro e w8 ⟨rfl, q, rfl⟩
          rw [show decide (U = U) = true by simp]
          go_wp2_with fail
          refine (HX1.out _).mono ?_
          rintro e w9 ⟨v9, rfl, ho9, hb9⟩
          have HB9 := hidden (((below_drewN HB7.out q)).trans (hb9.mono HB7.out.size))
          have HA9 := hidden ho9.ssl
          clear hb9 ho9
          go_wp2_with fail
          refine (HX2.out _).mono ?_
          rintro e w10 ⟨v10, rfl, ho10, hb10⟩
          have HB10 := hidden (HB9.out.trans (hb10.mono HB9.out.size))
          have HA10 := hidden (HA9.out.fresh hb10)
          have HE10 := hidden ho10.ssl
          clear hb10 ho10
          go_wp2_with fail
          refine (texts_c _ _ XL XL _ HA10.out HE10.out).mono ?_
          rintro e w11 ⟨rfl, q2, rfl⟩
          rw [show decide (XL = XL) = true by simp]
          go_wp2_with fail
          refine (known_c _).mono ?_
          rintro e w12 ⟨rfl, hb12⟩
          have HB12 := hidden ((below_drewN HB10.out q2).trans (hb12.mono HB10.out.size))
          go_wp2
          go_ret
          exact ⟨rfl, HB12.out⟩
end Go.Proofs.Ytfgeeheojglldaa
