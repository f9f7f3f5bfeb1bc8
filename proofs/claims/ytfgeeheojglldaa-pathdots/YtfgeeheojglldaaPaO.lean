/- The walk of the law PathDots. -/
import Derived.Test.YtfgeeheojglldaaPaV
import Derived.Deep.CutRange
import Derived.Deep.CutBlock
namespace Go.Proofs.Ytfgeeheojglldaa
open Go Go.RowKit

/-- What is put in. -/
def L4 : List ByteArray := [⟨#[46]⟩, ⟨#[]⟩, ⟨#[100, 111, 119, 110, 47, 46, 46]⟩, ⟨#[97, 47, 98, 47, 46, 46, 47, 46, 46]⟩]
theorem L4_at (h : Nat) (hh : h < 4) : ∃ x, L4[h]? = some (tb x) ∧ idle x ∧ x.length ≤ 9 := by
  have e : h = 0 ∨ h = 1 ∨ h = 2 ∨ h = 3 := by omega
  rcases e with rfl | rfl | rfl | rfl
  · exact ⟨_, rfl, idle_dot, by decide⟩
  · exact ⟨_, rfl, idle_empty, by decide⟩
  · exact ⟨_, rfl, idle_down, by decide⟩
  · exact ⟨_, rfl, idle_ab, by decide⟩
/-- Noughts and minus signs: the number's size, as the law takes it. -/
theorem abs_int (n : Int) (h1 : -9223372036854775808 ≤ n) (h2 : n ≤ 9223372036854775807) : (n < 0 ∧ ∃ m : Nat, n = -(m : Int) - 1 ∧ m ≤ 9223372036854775807) ∨ (¬ n < 0 ∧ ∃ m : Nat, n = (m : Int) ∧ m ≤ 9223372036854775807) := by
  by_cases h : n < 0
  · exact .inl ⟨h, (-n - 1).toNat, by omega, by omega⟩
  · exact .inr ⟨h, n.toNat, by omega, by omega⟩

set_option maxHeartbeats 3200000 in
set_option maxRecDepth 100000 in
theorem pathDots_c (v : Value) (l : List ByteArray) (at_ how : Int) (hat1 : -9223372036854775808 ≤ at_) (hat2 : at_ ≤ 9223372036854775807) (hho1 : -9223372036854775808 ≤ how) (hho2 : how ≤ 9223372036854775807) (w : World) (hv : SSl w v l) :
    Calls Try.prog 7 #[v, .int .i64 at_, .int .i64 how] w fun e w' => e = .returned (.bool true) ∧ Below w.heap.size w w' := by
  obtain ⟨i0, hi, hz0, hz1, hz2⟩ := info_parts Try.infoStr
  have HV := hidden hv
  obtain ⟨va, vc, rfl, hvc, hvm, _⟩ := hv
  unfold maxLen at hvm
  have HAT := hidden (abs_int at_ hat1 hat2)
  have HHO := hidden (abs_int how hho1 hho2)
  clear hat1 hat2 hho1 hho2
  go_enter Try.func7, Try.ntmps7
  go_upto_block 0 with fail
  go_cut [7, 8] from 18 to 47 (fun o _ wx => ∃ N : List ByteArray, N.length ≤ 5 ∧ (flat N).length ≤ 20 * N.length ∧ (∀ s ∈ N, rightP s.data.toList = true) ∧ SOwn wx w.heap.size o N ∧ Below w.heap.size w wx)
  case first =>
    go_wp2_with fail
    go_loopw [7, 8] (fun o i wr => ∃ (k : Nat) (N : List ByteArray), k ≤ l.length ∧ k ≤ 5 ∧ i = .int .i64 k ∧ N.length ≤ k ∧ (flat N).length ≤ 20 * N.length ∧ (∀ s ∈ N, rightP s.data.toList = true) ∧ SOwn wr w.heap.size o N ∧ Below w.heap.size w wr) (fun _ i _ => l.length - (intOf i).toNat)
    case atStart => exact ⟨0, [], Nat.zero_le _, Nat.zero_le _, rfl, by simp, by simp [flat], by simp, SOwn.nil _ _, Below.refl _ _⟩
    case round =>
      obtain ⟨k, N, hk, hk6, rfl, hNl, hfl, hall, ho, hb⟩ := hrel
      have HO := hidden ho
      have HB := hidden hb
      have HALL := hidden hall
      clear ho hb hall
      obtain ⟨na, nc, rfl⟩ := HO.out.len
      by_cases hlt : k < l.length
      · have hi1 : (k : Int) < (l.length : Int) := by omega
        by_cases hlt6 : k < 5
        · have hi2 : (k : Int) < 5 := by omega
          obtain ⟨b1, o1, rfl⟩ := HV.out.addr' (by rintro rfl; simp at hlt)
          have x0 := HV.out.cellAt k hlt
          have x1 := (Keeps.ofFresh (S := fun _ => False) HB.out).cell x0 (fun h => h)
          generalize l[k] = n at x0 x1
          clear x0
          have HR := hidden (right_c n)
          cases hr : rightP n.data.toList with
          | false =>
            rw [hr] at HR
            go_wp2_with fail
            refine (HR.out _).mono ?_
            rintro e w1 ⟨rfl, rfl⟩
            go_wp2
            go_roundw
            case rel => exact ⟨k + 1, N, by omega, by omega, by go_num, by omega, hfl, HALL.out, HO.out, HB.out⟩
            case measure => simp [intOf]; omega
          | true =>
            rw [hr] at HR
            have HAN : Hid (∀ s ∈ N ++ [n], rightP s.data.toList = true) := fun s hs => by
              rcases List.mem_append.1 hs with h | h
              · exact HALL.out s h
              · rw [List.mem_singleton.1 h]; exact hr
            clear hr
            by_cases h20 : n.size < 20
            · have hi3 : (n.size : Int) < 20 := by omega
              have HFN : Hid ((flat (N ++ [n])).length ≤ 20 * (N ++ [n]).length) := by
                show _ ≤ _
                rw [flat_append, List.length_append, List.length_append]
                have : (flat [n]).length = 1 + n.size := by rw [size_len]; simp [flat]; omega
                simp only [List.length_cons, List.length_nil]
                omega
              go_wp2_with fail
              refine (HR.out _).mono ?_
              rintro e w1 ⟨rfl, rfl⟩
              go_wp2_with (at_builtin; refine wpList_append_src _ rfl (.tmp 41) (.tmp 46) 24 24 rfl w.heap.size 9 i0 _ 16 Try.underlying24 hi hz0 hz1 hz2 rfl _ _ _ rfl (HO.out.alloc _) _ 1 [.string n] rfl (srcStr1 n) (by unfold maxLen; omega) (by omega) (by have := HB.out.size; simp; omega) (w1.heap.size + 1) (by simp) ?_)
              intro v' w2 hown' hgrow hnil hat
              obtain ⟨ao', cp', rfl⟩ := ownsRow_shape hown'
              have HO2 := hidden hown'
              have HB2 := hidden ((HB.out.alloc HB.out.size _).grown hgrow (by have := HB.out.size; simp; omega) (fun g hg => (HO.out.lt g hg).1))
              clear hown' hgrow hnil hat
              go_wp2
              go_roundw
              case rel =>
                refine ⟨k + 1, N ++ [n], by omega, by omega, by go_num, by simp; omega, HFN.out, HAN.out, ?_, HB2.out⟩
                unfold SOwn
                rw [List.length_append, List.map_append]
                exact HO2.out
              case measure => simp [intOf]; omega
            · have hi3 : ¬ (n.size : Int) < 20 := by omega
              go_wp2_with fail
              refine (HR.out _).mono ?_
              rintro e w1 ⟨rfl, rfl⟩
              go_wp2
              go_roundw
              case rel => exact ⟨k + 1, N, by omega, by omega, by go_num, by omega, hfl, HALL.out, HO.out, HB.out⟩
              case measure => simp [intOf]; omega
        · have hi2 : ¬ (k : Int) < 5 := by omega
          go_wp2
          go_meet
          case rel => exact ⟨N, by omega, hfl, HALL.out, HO.out, HB.out⟩
      · have hi1 : ¬ (k : Int) < (l.length : Int) := by omega
        go_wp2
        go_meet
        case rel => exact ⟨N, by omega, hfl, HALL.out, HO.out, HB.out⟩
  case rest =>
    obtain ⟨N, hNl, hfl, hall, ho, hb⟩ := hcut
    have HALL := hidden hall
    have HO := hidden ho
    have HB := hidden hb
    clear ho hb hall hvc hvm
    obtain ⟨na, nc, rfl⟩ := HO.out.len
    go_upto_if 49 with fail
    go_cut [1] from 48 to 52 (fun u wx => ∃ a : Nat, u = .int .i64 a ∧ a ≤ 9223372036854775807 ∧ wx = wc)
    case first =>
      rcases HAT.out with ⟨hneg, m, rfl, hm⟩ | ⟨hneg, m, rfl, hm⟩
      · go_wp2_with fail
        go_meet
        case rel => exact ⟨m, rfl, hm, rfl⟩
      · go_wp2_with fail
        go_meet
        case rel => exact ⟨m, rfl, hm, rfl⟩
    case rest =>
      obtain ⟨a, hu, ha, hw⟩ := hcut
      subst hu
      subst hw
      go_upto_if 54 with fail
      go_cut [2] from 53 to 57 (fun u wx => ∃ a : Nat, u = .int .i64 a ∧ a ≤ 9223372036854775807 ∧ wx = wc)
      case first =>
        rcases HHO.out with ⟨hneg, m, rfl, hm⟩ | ⟨hneg, m, rfl, hm⟩
        · go_wp2_with fail
          go_meet
          case rel => exact ⟨m, rfl, hm, rfl⟩
        · go_wp2_with fail
          go_meet
          case rel => exact ⟨m, rfl, hm, rfl⟩
      case rest =>
        obtain ⟨ho, hu, hho, hw⟩ := hcut
        subst hu
        subst hw
        go_upto_region 12 with fail
        have hk : ((a : Int) % ((N.length : Int) + 1)) = ((a % (N.length + 1) : Nat) : Int) := by push_cast; rfl
        rw [hk]
        have hj : a % (N.length + 1) ≤ N.length := by have := Nat.mod_lt a (show 0 < N.length + 1 by omega); omega
        generalize a % (N.length + 1) = j at hj
        clear hk ha
        have hjc : j ≤ nc := by
          obtain ⟨_, _, e, h1, _⟩ := HO.out.ssl
          cases e
          omega
        obtain ⟨x, hx4, hid, hxl⟩ := L4_at (ho % 4) (by omega)
        have HX := hidden hx4
        have HID := hidden hid
        clear hx4 hid
        have HT : Hid (SSl wc (sliced na 0 j nc 1) (N.take j)) := by
          have := HO.out.ssl.cut (Nat.zero_le j) hj
          rwa [List.drop_zero] at this
        have HD : Hid (SSl wc (sliced na j N.length nc 1) (N.drop j)) := by
          have := HO.out.ssl.cut hj (Nat.le_refl _)
          rwa [List.take_length] at this
        obtain ⟨w0, hw0⟩ : ∃ w0, w0 = wc := ⟨_, rfl⟩
        rw [← hw0] at HO HB HT HD ⊢
        clear hw0
        refine region_rows [(.ownS w0.heap.size []), (.val (.slice na N.length nc)), (.val (.int .i64 (j : Nat))), (.val (sliced na 0 j nc 1)), (.ownS w0.heap.size (N.take j)), (.ssl L4), (.val (.int .i64 (ho : Nat))), (.val (.int .i64 ((ho % 4 : Nat) : Int))), (.ptr (tb x)), (.val (.string (tb x))), (.ssl [tb x]), (.ownS w0.heap.size (N.take j ++ [tb x])), (.val (.slice na N.length nc)), (.val (.int .i64 (j : Nat))), (.val (sliced na j N.length nc 1)), (.ownS w0.heap.size (N.take j ++ [tb x] ++ N.drop j)), (.ownS w0.heap.size (N.take j ++ [tb x] ++ N.drop j))] [1, 101, 102, 103, 1, 50, 106, 107, 50, 109, 60, 1, 112, 113, 114, 1, 1] [some 4, none, none, none, some 11, none, none, none, none, none, none, some 15, none, none, none, some 16, none] (by kernel_rfl) ?_ ?_
        · refine rows_cons (.ownS w0.heap.size []) (by kernel_rfl) (fun vs w1 he hd => StepG.plain (by kernel_rfl) (gives_build0S (by kernel_rfl) he)) ?_
          refine rows_cons (.val (.slice na N.length nc)) (by kernel_rfl) (fun vs w1 he hd => StepG.plain (by kernel_rfl) (gives_move (x := (.tmp 7)) (v := (.slice na N.length nc)) (by kernel_rfl) (by kernel_rfl) same_val)) ?_
          refine rows_cons (.val (.int .i64 (j : Nat))) (by kernel_rfl) (fun vs w1 he hd => StepG.plain (by kernel_rfl) (gives_move (x := (.tmp 9)) (v := (.int .i64 (j : Nat))) (by kernel_rfl) (by kernel_rfl) same_val)) ?_
          refine rows_cons (.val (sliced na 0 j nc 1)) (by kernel_rfl) (fun vs w1 he hd => StepG.plain (by kernel_rfl) (gives_sliceTo (x := .tmp 64) (y := .tmp 65) (ao := na) (n := N.length) (cap := nc) (j := j) hjc (by kernel_rfl) (Eq.trans (b := vs 1) (by kernel_rfl) (hd 1 (.val (.slice na N.length nc)) (by kernel_rfl) (by kernel_rfl) (by kernel_rfl))) (Eq.trans (b := vs 2) (by kernel_rfl) (hd 2 (.val (.int .i64 (j : Nat))) (by kernel_rfl) (by kernel_rfl) (by kernel_rfl))) same_val)) ?_
          refine rows_appS 0 ([]) ((N.take j)) (by kernel_rfl) (by kernel_rfl) (by kernel_rfl) (by kernel_rfl) (by kernel_rfl) (by kernel_rfl) (fun vs w1 he hd => StepG.plain (by kernel_rfl) (gives_appS (x := .tmp 63) (y := .tmp 66) (vx := vs 0) (vy := vs 3) (xs := []) (news := N.take j) (by kernel_rfl) (by kernel_rfl) (by kernel_rfl) he (hd 0 (.ownS w0.heap.size []) (by kernel_rfl) (by kernel_rfl) (by kernel_rfl)) (by rw [show vs 3 = sliced na 0 j nc 1 from (hd 3 (.val (sliced na 0 j nc 1)) (by kernel_rfl) (by kernel_rfl) (by kernel_rfl))]; exact HT.out.fresh he) (by first | (simp; done) | (simp; omega)))) ?_
          refine rows_cons (.ssl L4) (by kernel_rfl) (fun vs w1 he hd => StepG.plain (by kernel_rfl) (gives_lit4S (by kernel_rfl) (fun _ => rfl))) ?_
          refine rows_cons (.val (.int .i64 (ho : Nat))) (by kernel_rfl) (fun vs w1 he hd => StepG.plain (by kernel_rfl) (gives_move (x := (.tmp 2)) (v := (.int .i64 (ho : Nat))) (by kernel_rfl) (by kernel_rfl) same_val)) ?_
          refine rows_cons (.val (.int .i64 ((ho % 4 : Nat) : Int))) (by kernel_rfl) (fun vs w1 he hd => StepG.plain (by kernel_rfl) (gives_remN (t := 3) (x := .tmp 69) (y := .const (.int .i64 4)) (a := ho) (b := 4) (by omega) (by kernel_rfl) (Eq.trans (b := vs 6) (by kernel_rfl) (hd 6 (.val (.int .i64 (ho : Nat))) (by kernel_rfl) (by kernel_rfl) (by kernel_rfl))) (by kernel_rfl) same_val)) ?_
          refine rows_via 5 (.ssl L4) (.ptr (tb x)) (by kernel_rfl) (by kernel_rfl) (by kernel_rfl) (by kernel_rfl) (by kernel_rfl) (fun vs w1 h0 hd => StepG.plain (by kernel_rfl) (gives_idxS (ss := L4) (i := ho % 4) (s := tb x) HX.out (x := .tmp 68) (y := .tmp 70) (by kernel_rfl) (vx := vs 5) (by kernel_rfl) h0 (Eq.trans (b := vs 7) (by kernel_rfl) (hd 7 (.val (.int .i64 ((ho % 4 : Nat) : Int))) (by kernel_rfl) (by kernel_rfl) (by kernel_rfl))))) ?_
          refine rows_cons (.val (.string (tb x))) (by kernel_rfl) (fun vs w1 he hd => StepG.plain (by kernel_rfl) (gives_ldS (s := tb x) (x := .tmp 71) (vx := vs 8) (by kernel_rfl) (by kernel_rfl) (hd 8 (.ptr (tb x)) (by kernel_rfl) (by kernel_rfl) (by kernel_rfl)) same_val)) ?_
          refine rows_cons (.ssl [tb x]) (by kernel_rfl) (fun vs w1 he hd => StepG.plain (by kernel_rfl) (gives_lit1S (s := tb x) (x := .tmp 72) (by kernel_rfl) (Eq.trans (b := vs 9) (by kernel_rfl) (hd 9 (.val (.string (tb x))) (by kernel_rfl) (by kernel_rfl) (by kernel_rfl))))) ?_
          refine rows_appS 4 (N.take j) ((N.take j ++ [tb x])) (by kernel_rfl) (by kernel_rfl) (by kernel_rfl) (by kernel_rfl) (by kernel_rfl) (by kernel_rfl) (fun vs w1 he hd => StepG.plain (by kernel_rfl) (gives_appS (x := .tmp 67) (y := .tmp 73) (vx := vs 4) (vy := vs 10) (xs := N.take j) (news := [tb x]) (by kernel_rfl) (by kernel_rfl) (by kernel_rfl) he (hd 4 (.ownS w0.heap.size (N.take j)) (by kernel_rfl) (by kernel_rfl) (by kernel_rfl)) ((by obtain ⟨_, _, _, h⟩ := (hd 10 (.ssl [tb x]) (by kernel_rfl) (by kernel_rfl) (by kernel_rfl)); exact h)) (by first | (simp; done) | (simp; omega)))) ?_
          refine rows_cons (.val (.slice na N.length nc)) (by kernel_rfl) (fun vs w1 he hd => StepG.plain (by kernel_rfl) (gives_move (x := (.tmp 7)) (v := (.slice na N.length nc)) (by kernel_rfl) (by kernel_rfl) same_val)) ?_
          refine rows_cons (.val (.int .i64 (j : Nat))) (by kernel_rfl) (fun vs w1 he hd => StepG.plain (by kernel_rfl) (gives_move (x := (.tmp 9)) (v := (.int .i64 (j : Nat))) (by kernel_rfl) (by kernel_rfl) same_val)) ?_
          refine rows_cons (.val (sliced na j N.length nc 1)) (by kernel_rfl) (fun vs w1 he hd => StepG.plain (by kernel_rfl) (gives_sliceFrom (x := .tmp 75) (y := .tmp 76) (ao := na) (n := N.length) (cap := nc) (j := j) hj (by kernel_rfl) (Eq.trans (b := vs 12) (by kernel_rfl) (hd 12 (.val (.slice na N.length nc)) (by kernel_rfl) (by kernel_rfl) (by kernel_rfl))) (Eq.trans (b := vs 13) (by kernel_rfl) (hd 13 (.val (.int .i64 (j : Nat))) (by kernel_rfl) (by kernel_rfl) (by kernel_rfl))) same_val)) ?_
          refine rows_appS 11 (N.take j ++ [tb x]) ((N.take j ++ [tb x] ++ N.drop j)) (by kernel_rfl) (by kernel_rfl) (by kernel_rfl) (by kernel_rfl) (by kernel_rfl) (by kernel_rfl) (fun vs w1 he hd => StepG.plain (by kernel_rfl) (gives_appS (x := .tmp 74) (y := .tmp 77) (vx := vs 11) (vy := vs 14) (xs := N.take j ++ [tb x]) (news := N.drop j) (by kernel_rfl) (by kernel_rfl) (by kernel_rfl) he (hd 11 (.ownS w0.heap.size (N.take j ++ [tb x])) (by kernel_rfl) (by kernel_rfl) (by kernel_rfl)) (by rw [show vs 14 = sliced na j N.length nc 1 from (hd 14 (.val (sliced na j N.length nc 1)) (by kernel_rfl) (by kernel_rfl) (by kernel_rfl))]; exact HD.out.fresh he) (by first | (simp; done) | (simp; omega)))) ?_
          refine rows_pass 15 (.ownS w0.heap.size (N.take j ++ [tb x] ++ N.drop j)) (by kernel_rfl) (by kernel_rfl) (by kernel_rfl) (by kernel_rfl) (by kernel_rfl) (fun vs w1 => StepG.plain (by kernel_rfl) (gives_assign (x := .tmp 78) (v := vs 15) (by kernel_rfl) (by kernel_rfl) ⟨rfl, rfl⟩)) ?_
          exact rows_nil
        intro vs wR hx hF
        have e1 : vs 1 = (.slice na N.length nc) := toldR_at hF 1 (.val (.slice na N.length nc)) (by decide) (by kernel_rfl) (by kernel_rfl)
        have e2 : vs 2 = (.int .i64 (j : Nat)) := toldR_at hF 2 (.val (.int .i64 (j : Nat))) (by decide) (by kernel_rfl) (by kernel_rfl)
        have e6 : vs 6 = (.int .i64 (ho : Nat)) := toldR_at hF 6 (.val (.int .i64 (ho : Nat))) (by decide) (by kernel_rfl) (by kernel_rfl)
        have e7 : vs 7 = (.int .i64 ((ho % 4 : Nat) : Int)) := toldR_at hF 7 (.val (.int .i64 ((ho % 4 : Nat) : Int))) (by decide) (by kernel_rfl) (by kernel_rfl)
        have e9 : vs 9 = (.string (tb x)) := toldR_at hF 9 (.val (.string (tb x))) (by decide) (by kernel_rfl) (by kernel_rfl)
        have e12 : vs 12 = (.slice na N.length nc) := toldR_at hF 12 (.val (.slice na N.length nc)) (by decide) (by kernel_rfl) (by kernel_rfl)
        have e13 : vs 13 = (.int .i64 (j : Nat)) := toldR_at hF 13 (.val (.int .i64 (j : Nat))) (by decide) (by kernel_rfl) (by kernel_rfl)
        have hoA : SOwn wR w0.heap.size (vs 16) (N.take j ++ [tb x] ++ N.drop j) := (toldR_at hF 16 (.ownS w0.heap.size (N.take j ++ [tb x] ++ N.drop j)) (by decide) (by kernel_rfl) (by kernel_rfl)).2
        simp only [List.length_cons, List.length_nil, actsTo, if_true, dstOf, List.getElem?_toArray, List.getElem?_cons_succ, List.getElem?_cons_zero, Option.bind_some, Act.put, List.setIfInBounds_toArray, List.set_cons_zero, List.set_cons_succ]
        simp only [e1, e2, e6, e7, e9, e12, e13]
        generalize vs 0 = y0
        generalize vs 3 = y3
        generalize vs 4 = y4
        generalize vs 5 = y5
        generalize vs 8 = y8
        generalize vs 10 = y10
        generalize vs 11 = y11
        generalize vs 14 = y14
        generalize vs 15 = y15
        generalize vs 16 = y16 at hoA ⊢
        clear hF e1 e2 e6 e7 e9 e12 e13 vs
        have hrtake : ∀ s ∈ N.take j, rightP s.data.toList = true := fun s hs => HALL.out s (List.mem_of_mem_take hs)
        have hrdrop : ∀ s ∈ N.drop j, rightP s.data.toList = true := fun s hs => HALL.out s (List.mem_of_mem_drop hs)
        have hgo : goP [] [] (flat (N.take j ++ [tb x] ++ N.drop j)) = some N := by
          have := goP_idle HID.out (N.take j) (N.drop j) hrtake hrdrop
          rw [List.take_append_drop] at this
          rw [List.append_assoc]
          exact this
        have hAl : (flat (N.take j ++ [tb x] ++ N.drop j)).length ≤ 120 := by
          rw [flat_append, flat_append, List.length_append, List.length_append]
          have h1 : (flat N).length = (flat (N.take j)).length + (flat (N.drop j)).length := by
            conv => lhs; rw [← List.take_append_drop j N, flat_append, List.length_append]
          have h2 : (flat [tb x]).length = 1 + x.length := by simp [flat, tb_list]; omega
          omega
        have hne : N.take j ++ [tb x] ++ N.drop j ≠ [] := by simp
        have hjA := joinP_flat hne
        obtain ⟨r, hr⟩ : ∃ r, flat (N.take j ++ [tb x] ++ N.drop j) = 47 :: r := by
          cases h : N.take j ++ [tb x] ++ N.drop j with
          | nil => exact absurd h hne
          | cons y ys => exact ⟨_, flat_cons y ys⟩
        generalize N.take j ++ [tb x] ++ N.drop j = A at hoA hgo hAl hne hjA hr
        rw [hr] at hgo hAl hjA
        have hgr : goP [] [] r = some N := by rw [goP_root] at hgo; exact hgo
        have hrl : r.length + 1 ≤ 120 := by simpa using hAl
        have HJA := hidden (fun v W (hv : SSl W v A) => join_c v A W hv (by rw [hr]; simp; omega))
        rw [hjA] at HJA
        have HS1 := hidden (fun W => split_known (tb (47 :: r)) W (by rw [tb_size]; simp; omega) N (by rw [tb_list]; exact hgo))
        have htail : (tb (47 :: r)).extract 1 (tb (47 :: r)).size = tb r := by
          apply ByteArray.ext
          apply Array.ext'
          rw [part_list, tb_list, tb_size, List.take_length]
          rw [show (tb r).data.toList = r from tb_list r]
          rfl
        have HS2 := hidden (fun W => split_known (tb r) W (by rw [tb_size]; omega) N (by rw [tb_list]; exact hgr))
        have HS3 := hidden (fun W => clean_known (tb (47 :: r) ++ ⟨#[47]⟩) W (by rw [ByteArray.size_append, tb_size, show (⟨#[47]⟩ : ByteArray).size = 1 from rfl]; simp; omega) N (by
          rw [app_list, tb_list, show ((⟨#[47]⟩ : ByteArray).data.toList) = 47 :: [] from rfl, goP_stroke, hgo, Option.bind_some, goP, stepP_nil]))
        have HJN := hidden (fun v W (hv : SSl W v N) => join_c v N W hv (by omega))
        have hjs : (tb (47 :: r)).size = r.length + 1 := by rw [tb_size]; rfl
        have HOA := hidden hoA
        have HXW := hidden (HB.out.trans (hx.mono HB.out.size))
        have HNW := hidden (HO.out.fresh hx)
        have HTL := hidden htail
        clear hoA hgo hgr hr hne hjA hAl hrtake hrdrop hx htail HT HD HX HID HALL HO HB hfl
        generalize tb (47 :: r) = J at HJA HS1 HS3 hjs HTL
        generalize hR : tb r = R at HS2 HTL
        clear hR
        have hj1 : ((J.size : Int) == 0) = false := by rw [beq_eq_false_iff_ne]; omega
        have hoj : ¬ (9223372036854775807 < J.size + 1) := by omega
        have hos : (1 : Int) ≤ (J.size : Int) := by omega
        obtain ⟨Ja, Jb⟩ : 1 ≤ J.size ∧ J.size ≤ 200 := by omega
        clear hjs
        obtain ⟨oa, oc, rfl⟩ := HOA.out.len
        go_wp2_with fail
        refine (HJA.out _ _ HOA.out.ssl).mono ?_
        rintro e w2 ⟨rfl, hb2⟩
        have HB2 := hidden (HXW.out.trans (hb2.mono HXW.out.size))
        have HN2 := hidden (HNW.out.fresh hb2)
        clear hb2
        go_wp2_with fail
        refine (HS1.out _).mono ?_
        rintro e w3 ⟨v3, rfl, ho3, hb3⟩
        have HB3 := hidden (HB2.out.trans (hb3.mono HB2.out.size))
        have HN3 := hidden (HN2.out.fresh hb3)
        have HA3 := hidden ho3.ssl
        clear hb3 ho3
        go_wp2_with fail
        rw [HTL.out]
        refine (HS2.out _).mono ?_
        rintro e w4 ⟨v4, rfl, ho4, hb4⟩
        have HB4 := hidden (HB3.out.trans (hb4.mono HB3.out.size))
        have HN4 := hidden (HN3.out.fresh hb4)
        have HA4 := hidden (HA3.out.fresh hb4)
        have HE4 := hidden ho4.ssl
        clear hb4 ho4
        go_wp2_with fail
        refine (HS3.out _).mono ?_
        rintro e w5 ⟨rfl, hb5⟩
        have HB5 := hidden (HB4.out.trans (hb5.mono HB4.out.size))
        have HN5 := hidden (HN4.out.fresh hb5)
        have HA5 := hidden (HA4.out.fresh hb5)
        have HE5 := hidden (HE4.out.fresh hb5)
        clear hb5
        generalize tb (joinP N) = C at HJN ⊢
        have hcc : (C.toList == C.toList) = true := by simp
        go_wp2_with fail
        refine (texts_c _ _ N N _ HA5.out HN5.out.ssl).mono ?_
        rintro e w6 ⟨rfl, q, rfl⟩
        rw [show decide (N = N) = true by simp]
        go_wp2_with fail
        refine (texts_c _ _ N N _ (ssl_drewN HE5.out q) (ssl_drewN HN5.out.ssl q)).mono ?_
        rintro e w7 ⟨rfl, q2, rfl⟩
        rw [show decide (N = N) = true by simp]
        go_wp2_with fail
        refine (HJN.out _ _ (ssl_drewN HN5.out.ssl (q + q2))).mono ?_
        rintro e w8 ⟨rfl, hb8⟩
        have HB8 := hidden ((below_drewN HB5.out (q + q2)).trans (hb8.mono HB5.out.size))
        go_wp2_with fail
        refine (known_c _).mono ?_
        rintro e w9 ⟨rfl, hb9⟩
        have HB9 := hidden (HB8.out.trans (hb9.mono HB8.out.size))
        go_wp2
        go_ret
        exact ⟨rfl, HB9.out⟩
end Go.Proofs.Ytfgeeheojglldaa
