/- The document's Line, Version and Choose. -/
import Derived.Test.YtnnhffjajbiicaaNgQ
import Derived.Deep.QuietTactic
import Derived.BigQuiet
import Derived.ArgAppend
import Derived.Deep.Cut
namespace Go.Proofs.Ytnnhffjajbiicaa
open Go Go.RowKit

set_option maxHeartbeats 1600000 in
theorem rright_c (s : ByteArray) (w : World) (hs : s.size ≤ 140737488355328) :
    Calls Try.prog 33 #[.string s] w fun e w' => e = .returned (.bool (rightV s)) ∧ w' = w := by
  have HD : Hid (rightV s = (decide (9 ≤ s.size) && decide (s.size ≤ 253) && ((s.extract 0 8).toList == startB.toList) && s.data.toList.all plain)) := rfl
  generalize rightV s = R at HD ⊢
  by_cases h9 : 9 ≤ s.size
  · have i9 : ¬ (s.size : Int) < 9 := by omega
    have i8 : (8 : Int) ≤ (s.size : Int) := by omega
    have d9 : decide (9 ≤ s.size) = true := by simpa using h9
    by_cases hl : s.size ≤ 253
    · have i3 : ¬ (253 : Int) < (s.size : Int) := by omega
      have d3 : decide (s.size ≤ 253) = true := by simpa using hl
      rw [d9, d3] at HD
      have hst : startB.toList = [83, 83, 72, 45, 50, 46, 48, 45] := ByteArray.toList_mk [83, 83, 72, 45, 50, 46, 48, 45]
      rw [hst] at HD
      cases hp : (s.extract 0 8).toList == [83, 83, 72, 45, 50, 46, 48, 45] with
      | false =>
        obtain rfl : R = false := by rw [HD.out, hp]; rfl
        clear HD d9 d3 hst
        go_enter Try.func33, Try.ntmps33
        go_wp2
        go_ret
        exact ⟨rfl, rfl⟩
      | true =>
        have HE : Hid (R = s.data.toList.all plain) := by show R = _; rw [HD.out, hp]; rfl
        clear HD d9 d3 hst
        go_enter Try.func33, Try.ntmps33
        go_wp2
        go_loop [3] (fun i => ∃ k : Nat, k ≤ s.size ∧ i = .int .i64 k ∧ (s.data.toList.take k).all plain = true) (fun i => s.size - (intOf i).toNat)
        case atStart => exact ⟨0, Nat.zero_le _, rfl, rfl⟩
        case round =>
          obtain ⟨k, hk, rfl, hall⟩ := hrel
          have HA : Hid ((s.data.toList.take k).all plain = true) := hall
          clear hall
          by_cases hlt : k < s.size
          · by_cases hgd : plain (s[k]'hlt) = true
            · have hg := (plain_iff _).1 hgd
              have hd1 : decide (((s[k]'hlt).toNat : Int) < 32) = false := by simp; omega
              have hd2 : decide ((126 : Int) < ((s[k]'hlt).toNat : Int)) = false := by simp; omega
              have HN : Hid ((s.data.toList.take (k + 1)).all plain = true) := by show _ = _; rw [plain_take_succ s k hlt, HA.out, hgd]; rfl
              clear hg hgd
              go_wp2
              go_round
              case rel => exact ⟨k + 1, by omega, by go_num, HN.out⟩
              case measure => simp [intOf]; omega
            · have hgf : plain (s[k]'hlt) = false := by simpa using hgd
              have HN : Hid (s.data.toList.all plain = false) := plain_bad s k hlt hgf
              obtain rfl : R = false := by rw [HE.out, HN.out]
              have hor : ((s[k]'hlt).toNat : Int) < 32 ∨ (¬ ((s[k]'hlt).toNat : Int) < 32 ∧ (126 : Int) < ((s[k]'hlt).toNat : Int)) := by
                have := mt (plain_iff _).2 hgd
                omega
              clear hgd hgf HN HE
              rcases hor with hlo | ⟨hlo, hhi⟩
              · have hd1 : decide (((s[k]'hlt).toNat : Int) < 32) = true := by simpa using hlo
                clear hlo
                go_wp2
                go_ret
                exact ⟨rfl, rfl⟩
              · have hd1 : decide (((s[k]'hlt).toNat : Int) < 32) = false := by simpa using hlo
                have hd2 : decide ((126 : Int) < ((s[k]'hlt).toNat : Int)) = true := by simpa using hhi
                clear hlo hhi
                go_wp2
                go_ret
                exact ⟨rfl, rfl⟩
          · have hke : k = s.size := by omega
            have hall2 : s.data.toList.all plain = true := by
              have := HA.out
              rwa [List.take_of_length_le (by rw [Array.length_toList, hke]; exact Nat.le_refl _)] at this
            obtain rfl : R = true := by rw [HE.out, hall2]
            clear hall2 HE HA
            go_wp2
            go_ret
            exact ⟨rfl, rfl⟩
    · have i3 : (253 : Int) < (s.size : Int) := by omega
      obtain rfl : R = false := by
        have h2 : decide (s.size ≤ 253) = false := by simpa using hl
        rw [HD.out, h2]; simp
      clear HD
      go_enter Try.func33, Try.ntmps33
      go_wp2
      go_ret
      exact ⟨rfl, rfl⟩
  · have i9 : (s.size : Int) < 9 := by omega
    obtain rfl : R = false := by
      have h2 : decide (9 ≤ s.size) = false := by simpa using h9
      rw [HD.out, h2]; simp
    clear HD
    go_enter Try.func33, Try.ntmps33
    go_wp2
    go_ret
    exact ⟨rfl, rfl⟩

set_option maxHeartbeats 800000 in
set_option maxRecDepth 100000 in
theorem rchoose_c (a b : Value) (cl sv : List ByteArray) (w : World) (ha : SSl w a cl) (hb : SSl w b sv) :
    Calls Try.prog 26 #[a, b] w fun e w' => e = .returned (chosenV (chooseO cl sv)) ∧ ∃ m, w' = w.drewN m := by
  have HA : Hid (SSl w a cl) := ha
  have HB : Hid (SSl w b sv) := hb
  obtain ⟨ao, ca, rfl, hca, hcm, _⟩ := ha
  obtain ⟨bo, cb, rfl, hcb, hcn, _⟩ := hb
  unfold maxLen at hcm hcn
  have H1 : Hid (∀ k, (hk : k < cl.length) → (∀ x ∈ cl.take k, x ∉ sv) → cl[k] ∈ sv → chooseO cl sv = some cl[k]) := fun k hk => choose_some hk
  have H2 : Hid ((∀ x ∈ cl, x ∉ sv) → chooseO cl sv = none) := choose_none
  generalize chooseO cl sv = R at H1 H2 ⊢
  go_enter Try.func26, Try.ntmps26
  go_wp2
  go_loopw [6] (fun i wr => ∃ k m : Nat, k ≤ cl.length ∧ i = .int .i64 k ∧ (∀ x ∈ cl.take k, x ∉ sv) ∧ wr = w.drewN m) (fun i _ => cl.length - (intOf i).toNat)
  case atStart => exact ⟨0, 0, Nat.zero_le _, rfl, by simp, rfl⟩
  case round =>
    obtain ⟨k, m, hk, rfl, hno, hw⟩ := hrel
    have HN : Hid (∀ x ∈ cl.take k, x ∉ sv) := hno
    have HW := hidden hw
    clear hno hw
    by_cases hlt : k < cl.length
    · have hne : cl ≠ [] := by rintro rfl; simp at hlt
      obtain ⟨b1, o1, rfl⟩ := HA.out.addr' hne
      have HK1 := hidden (HA.out.cellAt k hlt)
      have hi1 : (k : Int) < (cl.length : Int) := by omega
      have HS : Hid (cl[k] ∈ sv → R = some cl[k]) := H1.out k hlt HN.out
      have HT : Hid (cl[k] ∉ sv → ∀ x ∈ cl.take (k + 1), x ∉ sv) := fun h => take_next hlt HN.out h
      generalize cl[k] = s at HK1 HS HT
      obtain ⟨wo, ewo⟩ : ∃ x, x = wr := ⟨wr, rfl⟩
      subst ewo
      go_wp2
      go_loopw [7] (fun i wr => ∃ j m : Nat, j ≤ sv.length ∧ i = .int .i64 j ∧ (∀ y ∈ sv.take j, s ≠ y) ∧ wr = w.drewN m) (fun i _ => sv.length - (intOf i).toNat)
      case atStart => exact ⟨0, m, Nat.zero_le _, rfl, by simp, HW.out⟩
      case round =>
        obtain ⟨j, m2, hj, rfl, hnj, hw2⟩ := hrel
        have HJ : Hid (∀ y ∈ sv.take j, s ≠ y) := hnj
        have HW2 := hidden hw2
        clear hnj hw2
        by_cases hjl : j < sv.length
        · have hne2 : sv ≠ [] := by rintro rfl; simp at hjl
          obtain ⟨b2, o2, rfl⟩ := HB.out.addr' hne2
          have k1 : wr.cell? ⟨b1, o1 + k, none⟩ = some (.string s) := by rw [HW2.out]; exact HK1.out
          have k2 : wr.cell? ⟨b2, o2 + j, none⟩ = some (.string sv[j]) := by rw [HW2.out]; exact HB.out.cellAt j hjl
          have hj1 : (j : Int) < (sv.length : Int) := by omega
          have HM : Hid (s = sv[j] → s ∈ sv) := fun h => h ▸ List.getElem_mem hjl
          have HJ2 : Hid (s ≠ sv[j] → ∀ y ∈ sv.take (j + 1), s ≠ y) := fun h => take_next hjl HJ.out h
          generalize sv[j] = t at k2 HM HJ2
          go_wp2_with fail
          go_quiet (fail)
          go_wp2
          · rename_i hq
            have he := HS.out (HM.out ((str_eq s t).1 hq))
            subst he
            go_ret2
            exact ⟨rfl, m2 + nq, by rw [HW2.out, World.drewN_drewN]⟩
          · rename_i hq
            go_roundw
            case rel => exact ⟨j + 1, m2 + nq, by omega, by go_num, HJ2.out (str_ne hq), by rw [HW2.out, World.drewN_drewN]⟩
            case measure => simp [intOf]; omega
        · have hj1 : ¬ (j : Int) < (sv.length : Int) := by omega
          have HF : Hid (s ∉ sv) := fun h => by
            have hj2 : j = sv.length := by omega
            have := HJ.out
            rw [hj2, List.take_length] at this
            exact this s h rfl
          go_wp2
          go_roundw
          case rel => exact ⟨k + 1, m2, by omega, by go_num, HT.out HF.out, HW2.out⟩
          case measure => simp [intOf]; omega
    · have hi1 : ¬ (k : Int) < (cl.length : Int) := by omega
      have he : R = none := H2.out (by
        have hk2 : k = cl.length := by omega
        have := HN.out
        rwa [hk2, List.take_length] at this)
      subst he
      go_wp2
      go_ret2
      exact ⟨rfl, m, HW.out⟩

set_option maxHeartbeats 1600000 in
set_option maxRecDepth 100000 in
theorem rversion_c (v : Value) (b : List UInt8) (w : World) (hv : BSl w v b) :
    Calls Try.prog 12 #[v] w fun e w' => e = .returned (versionV (versionT b)) ∧ w' = w := by
  have HS : Hid (∀ k, atB (b.take 255) k = true → (∀ i, i < k → atB (b.take 255) i = false) → versionT b = if rightV ⟨(b.take k).toArray⟩ then (⟨(b.take k).toArray⟩, k + 2, 0) else (⟨#[]⟩, 0, 12)) := fun k h1 h2 => by unfold versionT; rw [endAt_some h1 h2]
  have HN : Hid ((∀ i, i < (b.take 255).length → atB (b.take 255) i = false) → versionT b = if 255 ≤ b.length then (⟨#[]⟩, 0, 3) else (⟨#[]⟩, 0, 10)) := fun h => by unfold versionT; rw [endAt_none h]
  generalize versionT b = R at HS HN ⊢
  have HAT : Hid (∀ i, (h : i + 1 < b.length) → i ≤ 253 → atB (b.take 255) i = ((b.getD i 0 == 13) && (b.getD (i + 1) 0 == 10))) := fun i h1 h2 => by
    unfold atB
    have g0 : (b.take 255).getD i 0 = b.getD i 0 := by rw [List.getD_eq_getElem?_getD, List.getElem?_take, if_pos (by omega), ← List.getD_eq_getElem?_getD]
    have g1 : (b.take 255).getD (i + 1) 0 = b.getD (i + 1) 0 := by rw [List.getD_eq_getElem?_getD, List.getElem?_take, if_pos (by omega), ← List.getD_eq_getElem?_getD]
    have g2 : decide (i + 1 < (b.take 255).length) = true := by simp; omega
    rw [g0, g1, g2, Bool.true_and]
  have HOUT : Hid (∀ i, ¬ (i + 1 < b.length ∧ i ≤ 253) → atB (b.take 255) i = false) := fun i h => by
    unfold atB
    have g2 : decide (i + 1 < (b.take 255).length) = false := by simp; omega
    rw [g2]
    rfl
  have HV := hidden hv
  obtain ⟨ao, cap, rfl, hc1, hc2, hc3, hc4⟩ := hv
  clear hc3 hc4
  unfold maxLen at hc2
  generalize b.take 255 = c at HS HN HAT HOUT
  go_enter Try.func12, Try.ntmps12
  go_wp2
  go_loop [5] (fun i => ∃ k : Nat, k ≤ b.length ∧ k ≤ 254 ∧ i = .int .i64 k ∧ (∀ i, i < k → atB c i = false)) (fun i => b.length - (intOf i).toNat)
  case atStart => exact ⟨0, Nat.zero_le _, by omega, rfl, (fun i h => by omega)⟩
  case round =>
    obtain ⟨k, hk, hk254, rfl, hno⟩ := hrel
    have HNO := hidden hno
    clear hno
    have hdone : ¬ (k + 1 < b.length ∧ k ≤ 253) → R = if 255 ≤ b.length then (⟨#[]⟩, 0, 3) else (⟨#[]⟩, 0, 10) := fun hn => HN.out (fun i hi => by
      by_cases e : i < k
      · exact HNO.out i e
      · exact HOUT.out i (fun h => hn ⟨by omega, by omega⟩))
    have HDN := hidden hdone
    clear hdone
    by_cases h1 : k + 1 < b.length
    · have i1 : (k : Int) + 1 < (b.length : Int) := by omega
      by_cases h2 : k ≤ 253
      · have i2 : (k : Int) ≤ 253 := by omega
        have i3 : (k : Int) < (b.length : Int) := by omega
        have hne : b ≠ [] := by rintro rfl; simp at h1
        obtain ⟨bb, off, rfl⟩ := HV.out.addr hne
        have k0 := HV.out.cellD k (by omega)
        have k1 := HV.out.cellD (k + 1) (by omega)
        have b13 := byte_is (b.getD k 0) 13 (by omega)
        have b10 := byte_is (b.getD (k + 1) 0) 10 (by omega)
        change ((_ : Int) == (13 : Int)) = (b.getD k 0 == 13) at b13
        change ((_ : Int) == (10 : Int)) = (b.getD (k + 1) 0 == 10) at b10
        have HA := hidden (HAT.out k h1 h2)
        have HSK := hidden (HS.out k)
        have hv5 := HV.out.head'' (m := k) (by omega)
        have hrs := run_string hv5
        have hk1 : (k : Int) ≤ (cap : Int) := by omega
        have HNX : Hid (atB c k = false → ∀ i, i < k + 1 → atB c i = false) := fun h i hi => by
          by_cases e : i = k
          · rw [e]; exact h
          · exact HNO.out i (by omega)
        generalize b.getD k 0 = x at k0 b13 HA
        generalize b.getD (k + 1) 0 = y at k1 b10 HA
        have hsz : (⟨(b.take k).toArray⟩ : ByteArray).size ≤ 140737488355328 := by rw [size_list, List.length_take]; omega
        generalize (⟨(b.take k).toArray⟩ : ByteArray) = s at HSK hrs hsz
        clear hv5 HV
        cases e13 : x == 13 with
        | false =>
          rw [e13] at b13 HA
          have hat : atB c k = false := by rw [HA.out]; rfl
          go_wp2
          go_round
          case rel => exact ⟨k + 1, by omega, by omega, by go_num, HNX.out hat⟩
          case measure => simp [intOf]; omega
        | true =>
          rw [e13, Bool.true_and] at HA
          rw [e13] at b13
          cases e10 : y == 10 with
          | false =>
            rw [e10] at b10 HA
            have hat : atB c k = false := HA.out
            go_wp2
            go_round
            case rel => exact ⟨k + 1, by omega, by omega, by go_num, HNX.out hat⟩
            case measure => simp [intOf]; omega
          | true =>
            rw [e10] at b10 HA
            have hR := HSK.out HA.out HNO.out
            clear HSK HNX HA HS HN HAT HOUT HDN
            go_wp2_with fail
            refine (rright_c s _ hsz).mono ?_
            rintro e w2 ⟨rfl, rfl⟩
            cases hrv : rightV s with
            | false =>
              rw [hrv] at hR
              simp only [Bool.false_eq_true, if_false] at hR
              subst hR
              go_wp2
              go_ret3
              exact ⟨rfl, rfl⟩
            | true =>
              rw [hrv] at hR
              simp only [if_true] at hR
              subst hR
              go_wp2
              go_ret3
              exact ⟨by simp [versionV], rfl⟩
      · have i2 : ¬ (k : Int) ≤ 253 := by omega
        have hR := HDN.out (fun h => h2 h.2)
        by_cases hb : 255 ≤ b.length
        · rw [if_pos hb] at hR
          subst hR
          have i4 : (255 : Int) ≤ (b.length : Int) := by omega
          go_wp2
          go_ret3
          exact ⟨rfl, rfl⟩
        · rw [if_neg hb] at hR
          subst hR
          have i4 : ¬ (255 : Int) ≤ (b.length : Int) := by omega
          go_wp2
          go_ret3
          exact ⟨rfl, rfl⟩
    · have i1 : ¬ (k : Int) + 1 < (b.length : Int) := by omega
      have hR := HDN.out (fun h => h1 h.1)
      by_cases hb : 255 ≤ b.length
      · rw [if_pos hb] at hR
        subst hR
        have i4 : (255 : Int) ≤ (b.length : Int) := by omega
        go_wp2
        go_ret3
        exact ⟨rfl, rfl⟩
      · rw [if_neg hb] at hR
        subst hR
        have i4 : ¬ (255 : Int) ≤ (b.length : Int) := by omega
        go_wp2
        go_ret3
        exact ⟨rfl, rfl⟩

theorem wpList_append_run {P : Program} {w : World} {ops : Array Oper} {rest : List Oper} {o : Oper} {a : Act} {Q : Exit → Act → World → Prop} (hgd : o.guard = none) (s xo : Operand) (t tx : TypeId)
    (ho : o.op = .call { callee := .builtin .append, args := #[s, xo], argTypes := #[t, tx] }) (v x v' : Value) (w' : World) (hsv : a.eval s = v) (hx : a.eval xo = x)
    (hr : (Builtin.append_ #[t, tx] o.type #[v, x]).run P w = .ok v' w') (h : wpList P ops Q rest (a.put o.dst v') w') : wpList P ops Q (o :: rest) a w :=
  wpList_plain hgd fun _ hK => by
    unfold Oper.wp execOp
    simp only [ho, resolve, invoke, builtin, Sem.run_bind, Sem.run_pure, Result.andThen_ok, List.map_toArray, List.map_cons, List.map_nil, hsv, hx, hr]
    exact hK _ _ h

theorem bytesRow_size (s : ByteArray) (cap : Nat) (h : s.size ≤ cap) : (bytesRow s cap).size = cap := by
  have e : s.data.size = s.size := rfl
  unfold bytesRow
  simp [e]
  omega
theorem append_text (s : ByteArray) (hs : s.size ≤ 1000000) (w : World) :
    ∃ v' w', (Builtin.append_ #[22, 22] 22 #[bytesV w s, .slice (some ⟨w.heap.size + 1, 0, none⟩) 2 2]).run Try.prog ((bytesW w s).alloc (.cells #[.int .u8 13, .int .u8 10] 5)) = .ok v' w' ∧ BSl w' v' (s.data.toList ++ [13, 10]) ∧ Below w.heap.size w w' := by
  obtain ⟨i0, hi, hz0, hz1, hz2⟩ := info_parts Try.infoU8
  have hz : s.data.toList.length = s.size := by rw [Array.length_toList]; rfl
  have hge := grownCap_ge w s.size 0 5
  have hle := grownCap_le_maxLen w s.size 0 5 (by unfold maxLen; omega)
  have hbs := bytes_bsl w s (by omega)
  have hW1 : (bytesW w s).heap[w.heap.size]? = some (.cells (bytesRow s (grownCap w s.size 0 5)) 5 ((bytesRow s (grownCap w s.size 0 5)).size, (bytesRow s (grownCap w s.size 0 5)).size + 1)) := heap_alloc_new w.drew _
  have hsz1 : (bytesW w s).heap.size = w.heap.size + 1 := by simp [bytesW]
  have hbel := bytesW_below w s
  have hbs2 := hbs.alloc (.cells #[.int .u8 13, .int .u8 10] 5)
  have hW2 : ((bytesW w s).alloc (.cells #[.int .u8 13, .int .u8 10] 5)).heap[w.heap.size]? = some (.cells (bytesRow s (grownCap w s.size 0 5)) 5 ((bytesRow s (grownCap w s.size 0 5)).size, (bytesRow s (grownCap w s.size 0 5)).size + 1)) := by
    rw [Below.heap_alloc _ _ _ (by omega)]; exact hW1
  have hL : ((bytesW w s).alloc (.cells #[.int .u8 13, .int .u8 10] 5)).heap[w.heap.size + 1]? = some (.cells #[.int .u8 13, .int .u8 10] 5 (0, 0)) := by
    rw [← hsz1]; exact heap_alloc_new _ _
  have hbel2 : Below w.heap.size w ((bytesW w s).alloc (.cells #[.int .u8 13, .int .u8 10] 5)) := hbel.alloc hbel.size _
  have hsz2 : ((bytesW w s).alloc (.cells #[.int .u8 13, .int .u8 10] 5)).heap.size = w.heap.size + 2 := by simp [hsz1]
  have hrz := bytesRow_size s (grownCap w s.size 0 5) hge
  generalize (bytesW w s).alloc (.cells #[.int .u8 13, .int .u8 10] 5) = W at *
  unfold bytesV at hbs2 ⊢
  generalize grownCap w s.size 0 5 = cap at *
  generalize bytesRow s cap = row at *
  have hcl : ∀ j u, (bcells s.data.toList)[j]? = some u → W.cell? ⟨w.heap.size, j, none⟩ = some u := by
    obtain ⟨ao, c2, e, _, _, _, hc⟩ := hbs2
    cases e
    intro j u hu
    have hne : s.data.toList ≠ [] := by rintro e; rw [e] at hu; simp [bcells] at hu
    obtain ⟨b, off, e2, hc2⟩ := hc _ rfl hne
    cases e2
    have := hc2 j u hu
    rwa [Nat.zero_add] at this
  have hnews : ∀ (j : Nat) (u : Value), ([.int .u8 13, .int .u8 10] : List Value)[j]? = some u → W.cell? ((⟨w.heap.size + 1, 0, none⟩ : Addr).add j) = some u := by
    intro j u hu
    rw [add_lit', Nat.zero_add, cell_row (cs := [.int .u8 13, .int .u8 10]) hL]
    exact hu
  by_cases hroom : s.size + 2 ≤ cap
  · have hsome : ∀ j, j < 2 → (W.cell? ⟨w.heap.size, 0 + s.size * i0.size + j, none⟩).isSome = true := by
      intro j hj
      rw [cell_of_row _ _ _ _ _ _ hW2, hz1]
      rw [Array.getElem?_eq_getElem (by rw [hrz]; omega)]
      rfl
    have hfree : ∀ j, j < 2 → W.frozen? ⟨w.heap.size, 0 + s.size * i0.size + j, none⟩ = false := by
      intro j hj
      simp only [World.frozen?, hW2, hrz, hz1]
      simp
      omega
    have hr := run_append_room_cells (P := Try.prog) W 22 22 5 i0 Try.underlying22 hi w.heap.size 0 s.size cap ⟨w.heap.size + 1, 0, none⟩ 2 2 [.int .u8 13, .int .u8 10] (by rw [hz1]; rfl) hnews (by intro u hu; simp at hu; rcases hu with rfl | rfl <;> rfl) hroom hsome hfree
    refine ⟨_, _, hr, ?_, ?_⟩
    · refine ⟨_, _, by rw [List.length_append, hz]; rfl, by rw [List.length_append, hz]; simpa using hroom, hle, (fun e => by cases e), fun ad e _ => ⟨w.heap.size, 0, by cases e; rfl, fun j u hu => ?_⟩⟩
      rw [Nat.zero_add]
      rw [hz1, Nat.mul_one, Nat.zero_add]
      rw [bcells_append] at hu
      by_cases hj : j < s.size
      · rw [List.getElem?_append_left (by rw [bcells_length, hz]; exact hj)] at hu
        rw [World.cell?_setCells_out w.heap.size _ _ _ _ (fun _ _ => .inl hj)]
        exact hcl j u hu
      · rw [List.getElem?_append_right (by rw [bcells_length, hz]; omega), bcells_length, hz] at hu
        have hj2 : j - s.size < 2 := by have := (List.getElem?_eq_some_iff.1 hu).1; simpa [bcells] using this
        have h1 := World.cell?_setCells_in w.heap.size [.int .u8 13, .int .u8 10] s.size W (fun q hq => by have := hsome q hq; rwa [hz1, Nat.mul_one, Nat.zero_add] at this) (j - s.size) hj2
        rw [show s.size + (j - s.size) = j from by omega] at h1
        rw [h1, ← hu]
        simp only [bcells, List.map_cons, List.map_nil]
        rw [List.getElem?_eq_getElem (by simpa using hj2)]
        rfl
    · have hk : ∀ (vs : List Value) (o : Nat) (V : World), Below w.heap.size w V → Below w.heap.size w (V.setCells w.heap.size o vs) := by
        intro vs
        induction vs with
        | nil => intro o V h; exact h
        | cons x r ih => intro o V h; exact ih _ _ (h.setCell (p := ⟨w.heap.size, o, none⟩) (Nat.le_refl _) _)
      exact hk _ _ _ hbel2
  · obtain ⟨v', w', hr, ho, hg⟩ := run_append_arg_grows (P := Try.prog) W 22 22 5 i0 _ 1 1 Try.underlying22 hi hz0 hz1 hz2 rfl (by omega) ⟨w.heap.size, 0, none⟩ s.size cap (bcells s.data.toList) (by rw [bcells_length, hz]; omega) (fun j u hu => by rw [add_lit', Nat.zero_add]; exact hcl j u hu) ⟨w.heap.size + 1, 0, none⟩ 2 2 [.int .u8 13, .int .u8 10] rfl hnews (by omega) (by unfold maxLen; omega) (by omega)
    refine ⟨v', w', hr, ?_, ?_⟩
    · refine BSl.ofRow (base := W.heap.size) (n := s.size + 2) ?_
      rw [bcells_append]
      exact ho
    · exact hbel2.grown hg (by omega) (fun k e => by cases e)

set_option maxHeartbeats 800000 in
set_option maxRecDepth 100000 in
theorem rline_c (s : ByteArray) (w : World) (hs : s.size ≤ 140737488355328) :
    Calls Try.prog 10 #[.string s] w fun e w' => ∃ v, e = .returned (.tuple #[v, .int .i64 (lineE s)]) ∧ BSl w' v (lineL s) ∧ Below w.heap.size w w' := by
  cases h : rightV s with
  | false =>
    have e1 : lineE s = 12 := by simp [lineE, h]
    have e2 : lineL s = [] := by simp [lineL, h]
    rw [e1, e2]
    go_enter Try.func10, Try.ntmps10
    go_wp2_with fail
    refine (rright_c s _ hs).mono ?_
    rintro e w1 ⟨rfl, rfl⟩
    rw [h]
    go_wp2
    go_ret2
    exact ⟨_, rfl, bsl_none _, Below.refl _ _⟩
  | true =>
    have e1 : lineE s = 0 := by simp [lineE, h]
    have hsz := rightV_size h
    have e2 : lineL s = s.data.toList ++ [13, 10] := lineL_yes h
    rw [e1, e2]
    have hrb := run_bytes s w
    obtain ⟨v', w', hr, hb, hbel⟩ := append_text s (by omega) w
    have hvs : bytesV w s = .slice (some ⟨w.heap.size, 0, none⟩) s.size (grownCap w s.size 0 5) := rfl
    have hws : (bytesW w s).heap.size = w.heap.size + 1 := by simp [bytesW]
    have HR := hidden hr
    have HB := hidden hb
    have HL := hidden hbel
    obtain ⟨va, vc, rfl, _⟩ := id hb
    clear hr hb hbel e1 e2
    generalize bytesW w s = W at hrb HR hws
    generalize bytesV w s = V at hrb HR hvs
    subst hvs
    go_enter Try.func10, Try.ntmps10
    go_wp2_with fail
    refine (rright_c s _ hs).mono ?_
    rintro e w1 ⟨rfl, rfl⟩
    rw [h]
    go_wp2_with (at_builtin; refine wpList_append_run rfl (.tmp 8) (.tmp 9) 22 22 rfl _ _ _ w' rfl rfl HR.out ?_)
    go_ret2
    have hln : (s.data.toList ++ [13, 10]).length = s.size + 2 := by rw [List.length_append, Array.length_toList]; rfl
    exact ⟨_, rfl, by have := HB.out; rw [hln] at this; exact this, HL.out⟩

theorem own_le {w : World} {base base' size n : Nat} {e : TypeId} {v : Value} {xs : List Value} (h : w.ownsRow base e size v n xs) (hb : base' ≤ base) : w.ownsRow base' e size v n xs :=
  ⟨h.1, h.2.elim Or.inl (fun ⟨g, cap, cur, hv, hg, r⟩ => Or.inr ⟨g, cap, cur, hv, Nat.le_trans hb hg, r⟩)⟩

set_option maxHeartbeats 1600000 in
set_option maxRecDepth 100000 in
theorem rencode_c (ck : Value) (nm : List Value) (fo : Bool) (bs : List UInt8) (ls : List (List ByteArray)) (w : World) (h : LRd w ck nm bs ls) (ht : Tame ls) :
    Calls Try.prog 16 #[.agg (lcells ck nm fo).toArray] w fun e w' => ∃ v, e = .returned (.tuple #[v, .int .i64 (encE bs ls)]) ∧ w'.ownsRow w.heap.size 5 1 v (encB bs ls fo).length (bcells (encB bs ls fo)) ∧ Below w.heap.size w w' := by
  obtain ⟨i0, hi, hz0, hz1, hz2⟩ := info_parts Try.infoU8
  have hc0 : (lcells ck nm fo)[0]? = some ck := rfl
  have HC2 := hidden (lcells_end (ck := ck) (fo := fo) h.nl)
  have HCA : Hid (∀ i, i < 10 → (lcells ck nm fo)[1 + i]? = some (nm.getD i undef)) := fun i hi => lcells_at h.nl hi
  have HH := hidden h
  have HTM := hidden ht
  obtain ⟨hck, hnl, hll, hnm⟩ := h
  obtain ⟨ao, cap, rfl, hc1, hc2', hcx⟩ := hck
  clear hcx hnm ht
  unfold maxLen at hc2'
  generalize lcells (.slice ao bs.length cap) nm fo = cs at *
  have hx0 := LBox.new w 43 cs
  have hbx : Below w.heap.size w (w.alloc (.cells cs.toArray 43)) := (Below.refl _ w).alloc (Nat.le_refl _) _
  have HSZ : Hid ((w.alloc (.cells cs.toArray 43)).heap.size = w.heap.size + 1) := by show _ = _; simp
  by_cases h16 : bs.length = 16
  · have hq : ((bs.length : Int) != 16) = false := by rw [h16]; rfl
    have HEO : Hid (encE bs ls = if ls.all rightNs then 0 else 12) := by show _ = _; simp only [encE, h16, if_true]
    have HBO : Hid (encB bs ls fo = if ls.all rightNs then encL bs ls fo else []) := by show _ = _; simp only [encB, encOk, h16, decide_true, Bool.true_and]
    have H16 := hidden h16
    clear h16
    generalize hEE : encE bs ls = EE at *
    generalize hBB : encB bs ls fo = BB at *
    clear hEE hBB
    go_enter Try.func16, Try.ntmps16
    have HBX := hidden hbx
    have HX0 := hidden hx0
    clear hbx hx0
    have c0 := HX0.out.cell hc0
    go_upto_region 3 with fail
    generalize w.alloc (.cells cs.toArray 43) = W1 at HX0 HBX HSZ c0 ⊢
    have hbs1 : BSl (W1.alloc (.cells #[.int .u8 20] 5)) (.slice ao bs.length cap) bs := (HH.out.ck.fresh HBX.out).alloc _
    have c1 : (W1.alloc (.cells #[.int .u8 20] 5)).cell? ⟨w.heap.size, 0, none⟩ = some (.slice ao bs.length cap) := (HX0.out.alloc _).cell hc0
    have ho1 : (W1.alloc (.cells #[.int .u8 20] 5)).ownsRow W1.heap.size 5 1 (.slice (some ⟨W1.heap.size, 0, none⟩) 1 1) 1 [.int .u8 20] := World.ownsRow_lit W1 #[.int .u8 20] 1 (Nat.le_refl _) (by simp [maxLen]) rfl
    have h16b : bs.length ≤ 16 := by have := H16.out; omega
    go_wp2_with (at_builtin; refine wpList_append_src _ rfl (.tmp 11) (.tmp 13) 22 22 rfl W1.heap.size 5 i0 _ 1 Try.underlying22 hi hz0 hz1 hz2 rfl _ 1 [.int .u8 20] rfl ho1 _ bs.length (bcells bs) rfl hbs1.src (by unfold maxLen; omega) (by omega) (by simp) (W1.heap.size + 1) (by simp) ?_)
    intro v2 w2 hown2 hgrow2 hnil2 hat2
    have hb2 : Below W1.heap.size W1 w2 := ((Below.refl _ W1).alloc (Nat.le_refl _) _).grown hgrow2 (by simp) (fun g hg => by simp [Value.ownBlock] at hg; omega)
    have hbs2 : BSl w2 v2 ([20] ++ bs) := by
      refine BSl.ofRow (base := W1.heap.size) (n := 1 + bs.length) ?_
      rw [bcells_append]
      exact hown2
    have HX2 := hidden (HX0.out.fresh hb2)
    have HB2 := hidden (HBX.out.trans (hb2.mono HBX.out.size))
    have HBS2 := hidden hbs2
    clear hown2 hgrow2 hnil2 hat2 hb2 hbs2 hbs1 c0 c1 ho1 h16b
    have HNL := hidden hnl
    have HLL := hidden hll
    clear hnl hll
    go_wp2_with fail
    go_loopw [4, 5] (fun v i wr => ∃ k : Nat, k ≤ 10 ∧ i = .int .i64 k ∧ BSl wr v ([20] ++ bs ++ encBody (ls.take k)) ∧ (∀ l ∈ ls.take k, rightNs l = true) ∧ LBox wr w.heap.size 43 cs ∧ Below w.heap.size w wr) (fun _ i _ => 10 - (intOf i).toNat)
    case atStart => exact ⟨0, by omega, rfl, by simpa [encBody] using HBS2.out, by simp, HX2.out, HB2.out⟩
    case round =>
      clear HX2 HBS2 HB2 HX0 HBX HSZ
      obtain ⟨k, hk, rfl, hbs, hrt, hx, hb⟩ := hrel
      have HB := hidden hb
      have HX := hidden hx
      have HRT := hidden hrt
      have hel := encBody_len _ hrt
      rw [List.length_take, HLL.out] at hel
      have hlen : ([20] ++ bs ++ encBody (ls.take k)).length ≤ 12000 := by
        have := H16.out
        simp only [List.length_append, List.length_cons, List.length_nil]
        omega
      have HLN := hidden hlen
      have HBS := hidden hbs
      clear hb hx hrt hel hlen hbs
      obtain ⟨wo, ewo⟩ : ∃ x, x = wr := ⟨wr, rfl⟩
      subst ewo
      by_cases hlt : k < 10
      · have hi1 : (k : Int) < 10 := by omega
        have hkl : k < ls.length := by have := HLL.out; omega
        have hcell := HX.out.cell (HCA.out k hlt)
        have hsl := (HH.out.nm k hlt).fresh HB.out
        have htm := HTM.out ls[k] (List.getElem_mem hkl)
        have hgd : ls.getD k [] = ls[k] := by rw [List.getD_eq_getElem?_getD, List.getElem?_eq_getElem hkl]; rfl
        rw [hgd] at hsl
        have HNX := hidden (encBody_next hkl)
        have HRX : Hid (rightNs ls[k] = true → ∀ l ∈ ls.take (k + 1), rightNs l = true) := fun h => take_next hkl HRT.out h
        have HBAD : Hid (rightNs ls[k] = false → ls.all rightNs = false) := fun h => List.all_eq_false.2 ⟨ls[k], List.getElem_mem hkl, by simp [h]⟩
        generalize ls[k] = l at hsl htm HNX HRX HBAD
        generalize nm.getD k undef = v at hcell hsl
        obtain ⟨va, vc, rfl, hv1, hv2, _⟩ := id hsl
        unfold maxLen at hv2
        have HSL := hidden hsl
        have HTL := hidden htm
        have HNO : Hid (ls.all rightNs = false → EE = 12 ∧ BB = []) := fun h => ⟨by rw [HEO.out, h]; rfl, by rw [HBO.out, h]; rfl⟩
        clear hgd htm hsl
        go_wp2_with fail
        go_loop [6] (fun i => ∃ j : Nat, j ≤ l.length ∧ i = .int .i64 j ∧ ∀ s ∈ l.take j, okS s = true) (fun i => l.length - (intOf i).toNat)
        case atStart => exact ⟨0, Nat.zero_le _, rfl, by simp⟩
        case round =>
          obtain ⟨j, hj, rfl, hok⟩ := hrel
          have HOK := hidden hok
          clear hok
          by_cases hjl : j < l.length
          · have hj1 : (j : Int) < (l.length : Int) := by omega
            have hne : l ≠ [] := by rintro rfl; simp at hjl
            obtain ⟨b1, o1, rfl⟩ := HSL.out.addr' hne
            have k1 := HSL.out.cellAt j hjl
            have hm := List.getElem_mem hjl
            have hsz := HTL.out.2 _ hm
            have HN2 : Hid (okS l[j] = true → ∀ s ∈ l.take (j + 1), okS s = true) := fun h => take_next hjl HOK.out h
            have HB2 : Hid (okS l[j] = false → rightNs l = false) := fun h => rightNs_bad hm h
            generalize l[j] = s1 at k1 hsz HN2 HB2
            clear hm
            go_wp2_with fail
            refine (right_c s1 (by omega) _).mono ?_
            rintro e w4 ⟨rfl, rfl⟩
            rw [show okName s1.data.toList = okS s1 from rfl]
            cases hq1 : okS s1 with
            | false =>
              obtain ⟨rfl, rfl⟩ := HNO.out (HBAD.out (HB2.out hq1))
              go_wp2
              go_ret2
              exact ⟨_, rfl, World.ownsRow_nil _ _ _ _, HB.out⟩
            | true =>
              go_wp2
              go_round
              case rel => exact ⟨j + 1, by omega, by go_num, HN2.out hq1⟩
              case measure => simp [intOf]; omega
          · have hj1 : ¬ (j : Int) < (l.length : Int) := by omega
            have hall : ∀ s ∈ l, okS s = true := by
              have hj2 : j = l.length := by omega
              have := HOK.out
              rwa [hj2, List.take_length] at this
            have hjb : (joined l).length ≤ 140737488355328 := by
              have := joined_len l (fun s hs => okS_size (hall s hs))
              have := HTL.out.1
              omega
            have HRN : Hid (rightNs l = decide ((joined l).length ≤ 1000)) := by
              show _ = _
              unfold rightNs
              rw [List.all_eq_true.2 hall, Bool.true_and]
            have hsj : (⟨(joined l).toArray⟩ : ByteArray).size = (joined l).length := size_list _
            clear hall
            go_wp2_with fail
            refine (rjoin_c _ l _ HSL.out hjb).mono ?_
            rintro e w4 ⟨rfl, rfl⟩
            by_cases hbig : (joined l).length ≤ 1000
            · have hrn : rightNs l = true := by rw [HRN.out]; simpa using hbig
              have hb1 : ¬ (1000 : Int) < ((⟨(joined l).toArray⟩ : ByteArray).size : Int) := by rw [hsj]; omega
              have HR2 := hidden (HRX.out hrn)
              generalize (⟨(joined l).toArray⟩ : ByteArray) = jb at hb1 ⊢
              clear hsj hrn
              go_wp2_with fail
              refine (rnames_c _ l _ _ _ HBS.out HSL.out (by omega) (by have := HLN.out; omega)).mono ?_
              rintro e w5 ⟨v5, rfl, ho5, hb5⟩
              have HB5 := hidden (HB.out.trans (hb5.mono HB.out.size))
              have HX5 := hidden (HX.out.fresh hb5)
              have hbs5 := BSl.ofRow ho5
              rw [List.append_assoc _ (encBody _), ← HNX.out] at hbs5
              have HBS5 := hidden hbs5
              obtain ⟨a5, c5, rfl⟩ := ownsRow_shape ho5
              clear ho5 hb5 hbs5
              generalize ([20] ++ bs ++ encBody (List.take k ls) ++ textBytes (joined l)).length = n5 at HBS5 ⊢
              go_wp2
              go_roundw
              case rel => exact ⟨k + 1, by omega, by go_num, HBS5.out, HR2.out, HX5.out, HB5.out⟩
              case measure => simp [intOf]; omega
            · have hrn : rightNs l = false := by rw [HRN.out]; simpa using hbig
              have hb1 : (1000 : Int) < ((⟨(joined l).toArray⟩ : ByteArray).size : Int) := by rw [hsj]; omega
              obtain ⟨rfl, rfl⟩ := HNO.out (HBAD.out hrn)
              generalize (⟨(joined l).toArray⟩ : ByteArray) = jb at hb1 ⊢
              clear hsj
              go_wp2
              go_ret2
              exact ⟨_, rfl, World.ownsRow_nil _ _ _ _, HB.out⟩
      · have hi1 : ¬ (k : Int) < 10 := by omega
        have hke : k = ls.length := by have := HLL.out; omega
        have hall : ls.all rightNs = true := by
          have := HRT.out
          rw [hke, List.take_length] at this
          rw [List.all_eq_true]
          exact this
        have hE : EE = 0 := by rw [HEO.out, hall]; rfl
        have hBB : BB = encL bs ls fo := by rw [HBO.out, hall]; rfl
        rw [hke, List.take_length] at HBS HLN
        have HBF : Hid ([20] ++ bs ++ encBody ls ++ [bit fo] ++ be 4 0 = BB) := by rw [hBB]; rfl
        subst hE
        have c2 := HX.out.cell HC2.out
        clear hall hBB hke HRT HNL
        generalize [20] ++ bs ++ encBody ls = X at HBS HLN HBF
        go_wp2_with fail
        refine (rbool_c fo _ X _ HBS.out (by have := HLN.out; omega)).mono ?_
        rintro e w6 ⟨v6, rfl, ho6, hb6⟩
        have hbs6 := BSl.ofRow ho6
        go_wp2_with fail
        refine (ru32_c 0 (by omega) (by omega) _ _ _ hbs6 (by have := HLN.out; simp; omega)).mono ?_
        rintro e w7 ⟨v7, rfl, ho7, hb7⟩
        rw [show (0 : Int).toNat = 0 from rfl, HBF.out] at ho7
        have hb6' := HB.out.trans (hb6.mono HB.out.size)
        have HB7 := hidden (hb6'.trans (hb7.mono hb6'.size))
        have HO7 := hidden (own_le ho7 hb6'.size)
        obtain ⟨a7, c7, rfl⟩ := ownsRow_shape ho7
        clear ho6 hb6 hbs6 ho7 hb7 hb6'
        go_wp2
        go_ret2
        exact ⟨_, rfl, HO7.out, HB7.out⟩
  · have hq : ((bs.length : Int) != 16) = true := by rw [bne_iff_ne]; omega
    have e1 : encE bs ls = 1 := by simp only [encE, h16, if_false]
    have e2 : encB bs ls fo = [] := by simp [encB, encOk, h16]
    rw [e1, e2]
    have HBX := hidden hbx
    clear h16 e1 e2 hbx
    go_enter Try.func16, Try.ntmps16
    go_wp2
    go_ret2
    exact ⟨_, rfl, World.ownsRow_nil _ _ _ _, HBX.out⟩

set_option maxHeartbeats 400000 in
theorem qfine_c (w : World) {c : Nat} {g : Option Nat} {bs : List UInt8} {p : Nat} {why : Int} (h : QR w c g bs p why) :
    Calls Try.prog 62 #[.pointer (some ⟨c, 0, none⟩)] w fun e w' => e = .returned (.bool ((ends bs p why).1 == 0)) ∧ Still w w' := by
  have HQ := hidden (qend_c w h)
  generalize ends bs p why = E at HQ ⊢
  obtain ⟨E1, E2⟩ := E
  go_enter Try.func62, Try.ntmps62
  go_wp2_with fail
  refine HQ.out.mono ?_
  rintro e w1 ⟨rfl, hk⟩
  go_wp2
  go_ret
  exact ⟨rfl, hk⟩
theorem QR.box {w : World} {a : Nat} {g : Option Nat} {bs : List UInt8} {p : Nat} {why : Int} (h : QR w a g bs p why) (B i : Nat) (u : Value) (ha : B ≠ a) (hg : g ≠ some B) : QR (w.setCell ⟨B, i, none⟩ u) a g bs p why :=
  h.keep (keeps_set w B i u) (fun e => ha e.symm) (fun k e e2 => hg (by rw [e, e2]))
theorem size_noR : (Try.prog.info? 43).map (·.size) = some noL.toArray.size := sizeR

set_option maxHeartbeats 1600000 in
set_option maxRecDepth 100000 in
theorem rdecode_c (v : Value) (xs : List UInt8) (w : World) (hv : BSl w v xs) (hl : xs.length ≤ 1000000) (hvb : ∀ k, v.ownBlock = some k → k < w.heap.size) :
    Calls Try.prog 29 #[v] w fun e w' => DecPost xs w e w' := by
  have HNO : Hid (decOk xs = false → ∀ w', Below w.heap.size w w' → DecPost xs w (.returned (.tuple #[.agg noL.toArray, .int .i64 12])) w') := fun h w' hb => decPost_no h hb
  have HYES : Hid (decOk xs = true → ∀ w' ck nm, LRd w' ck nm (dec xs).ck ((dec xs).ls.map texts) → (∀ k, ck.ownBlock = some k → w.heap.size ≤ k) → (∀ i, i < 10 → ∀ k, (nm.getD i undef).ownBlock = some k → w.heap.size ≤ k) → Below w.heap.size w w' → DecPost xs w (.returned (.tuple #[.agg (lcells ck nm (dec xs).fo).toArray, .int .i64 0])) w') := fun h w' ck nm h1 h2 h3 h4 => decPost_yes h h1 h2 h3 h4
  obtain ⟨Q, hQ⟩ : ∃ Q : Ending → World → Prop, Q = DecPost xs w := ⟨_, rfl⟩
  rw [← hQ] at HNO HYES
  rw [show (fun e w' => DecPost xs w e w') = Q from hQ.symm]
  clear hQ
  have HOK : Hid (decOk xs = (decide (kindOf xs = 20) && decide ((ends xs (dec xs).p (dec xs).y).1 = 0))) := rfl
  obtain ⟨va, vc, rfl, hvc1, hvc2, _⟩ := id hv
  have HV := hidden hv
  have HVB := hidden hvb
  clear hv hvb
  obtain ⟨hx0, hx1, hbx, hsz⟩ := box_two w 43 97 [.slice none 0 0, .slice none 0 0, .slice none 0 0, .slice none 0 0, .slice none 0 0, .slice none 0 0, .slice none 0 0, .slice none 0 0, .slice none 0 0, .slice none 0 0, .slice none 0 0, .bool false] [.slice va xs.length vc, .int .i64 0, .bool false, .int .i64 0, .int .i64 0]
  change LBox _ _ _ noL at hx0
  go_enter Try.func29, Try.ntmps29
  go_upto_region 2 with fail
  generalize (w.alloc (.cells #[.slice none 0 0, .slice none 0 0, .slice none 0 0, .slice none 0 0, .slice none 0 0, .slice none 0 0, .slice none 0 0, .slice none 0 0, .slice none 0 0, .slice none 0 0, .slice none 0 0, .bool false] 43)).alloc (.cells #[.slice va xs.length vc, .int .i64 0, .bool false, .int .i64 0, .int .i64 0] 97) = W1 at hx0 hx1 hbx hsz ⊢
  obtain ⟨g, hg⟩ : ∃ g, g = (Value.slice va xs.length vc).ownBlock := ⟨_, rfl⟩
  have HG : Hid (∀ k, g = some k → k < w.heap.size) := fun k e => HVB.out k (by rw [← hg, e])
  obtain ⟨c, hc⟩ : ∃ c, c = w.heap.size + 1 := ⟨_, rfl⟩
  have HC := hidden hc
  rw [← hc] at hx1 ⊢
  have hqr : QR W1 c g xs 0 0 := ⟨.slice va xs.length vc, 0, false, 0, 0, hx1, HV.out.fresh hbx, hg.symm, (fun e => by have := HG.out _ e; omega), Nat.zero_le _, by omega, .inl ⟨rfl, rfl, rfl⟩⟩
  have hs1 : w.heap.size + 2 ≤ W1.heap.size := by omega
  clear hx1 hsz hg hc HV
  go_wp2_with fail
  refine (qbyte_c _ hqr).mono ?_
  rintro e w3 ⟨rfl, ht3⟩
  have HST : Hid (∀ {W : World} {q : Nat} {z : Int} {V : World}, QTook c g xs q z V W → ∀ B cs, B ≠ c → LBox V B 43 cs → LBox W B 43 cs) := fun ht B cs hB hx => hx.keep ht.keeps hB
  have HBT : Hid (∀ {W : World} {q : Nat} {z : Int} {V : World}, QTook c g xs q z V W → Below w.heap.size w V → Below w.heap.size w W) := fun ht hb => hb.trans (ht.keeps.below hb.size (fun k e => by have := HC.out; omega))
  have hx03 := HST.out ht3 _ _ (by have := HC.out; omega) hx0
  have hb3 := HBT.out ht3 hbx
  have hs3 : w.heap.size + 2 ≤ w3.heap.size := Nat.le_trans hs1 ht3.keeps.size
  have hw3 := ht3.state
  have hK : kindOf xs = val (tk xs 0 0 1).1 := rfl
  have hD : dec xs = decFrom xs (tk xs 0 0 1).2.1 (tk xs 0 0 1).2.2 := rfl
  rw [← hK]
  generalize kindOf xs = kd at HOK ⊢
  generalize (tk xs 0 0 1).2.1 = p1 at hw3 hD
  generalize (tk xs 0 0 1).2.2 = y1 at hw3 hD
  obtain ⟨D, hDD⟩ : ∃ D, D = dec xs := ⟨_, rfl⟩
  rw [← hDD] at hD HOK HYES
  have hDA := decFrom_all xs p1 y1 (n := namesTo xs (tk xs p1 y1 16).2.1 (tk xs p1 y1 16).2.2 10) rfl hD
  have HD1 := hidden hDA.1
  have HD2 := hidden hDA.2.1
  have HD3 := hidden hDA.2.2
  clear hDA hD hDD hK hx0 hbx hs1 hqr ht3
  have hx13 := LBox.new w3 43 [.slice none 0 0, .slice none 0 0, .slice none 0 0, .slice none 0 0, .slice none 0 0, .slice none 0 0, .slice none 0 0, .slice none 0 0, .slice none 0 0, .slice none 0 0, .slice none 0 0, .bool false]
  change LBox _ _ _ noL at hx13
  have hx03' := hx03.alloc (.cells #[.slice none 0 0, .slice none 0 0, .slice none 0 0, .slice none 0 0, .slice none 0 0, .slice none 0 0, .slice none 0 0, .slice none 0 0, .slice none 0 0, .slice none 0 0, .slice none 0 0, .bool false] 43)
  have hb3' := hb3.alloc hb3.size (.cells #[.slice none 0 0, .slice none 0 0, .slice none 0 0, .slice none 0 0, .slice none 0 0, .slice none 0 0, .slice none 0 0, .slice none 0 0, .slice none 0 0, .slice none 0 0, .slice none 0 0, .bool false] 43)
  have hw3' : QR (w3.alloc (.cells #[.slice none 0 0, .slice none 0 0, .slice none 0 0, .slice none 0 0, .slice none 0 0, .slice none 0 0, .slice none 0 0, .slice none 0 0, .slice none 0 0, .slice none 0 0, .slice none 0 0, .bool false] 43)) c g xs p1 y1 := hw3.same ((Keeps.refl _ _).alloc _)
  have hal : (w3.alloc (.cells #[.slice none 0 0, .slice none 0 0, .slice none 0 0, .slice none 0 0, .slice none 0 0, .slice none 0 0, .slice none 0 0, .slice none 0 0, .slice none 0 0, .slice none 0 0, .slice none 0 0, .bool false] 43)).heap.size = w3.heap.size + 1 := by simp
  go_upto_region 4 with fail
  generalize w3.alloc (.cells #[.slice none 0 0, .slice none 0 0, .slice none 0 0, .slice none 0 0, .slice none 0 0, .slice none 0 0, .slice none 0 0, .slice none 0 0, .slice none 0 0, .slice none 0 0, .slice none 0 0, .bool false] 43) = w4 at hx13 hx03' hb3' hw3' hal ⊢
  obtain ⟨b6, hb6⟩ : ∃ b6, b6 = w3.heap.size := ⟨_, rfl⟩
  rw [← hb6] at hx13 hal ⊢
  have HA : Hid (w.heap.size + 2 ≤ b6) := by rw [hb6]; exact hs3
  have HX0 := hidden hx03'
  have HX1 := hidden hx13
  have HB3 := hidden hb3'
  have HGB : Hid (g ≠ some b6) := fun e => by have := HG.out _ e; have := HA.out; omega
  clear hx03 hx13 hx03' hb3 hb3' hb6 hs3 hw3
  go_wp2_with fail
  refine (qraw_c 16 (by omega) _ hw3').mono ?_
  rintro e w5 ⟨v5, rfl, hbs5, how5, ht5⟩
  rw [show (16 : Int).toNat = 16 from rfl] at hbs5 ht5
  rw [← HD1.out] at hbs5
  generalize (tk xs p1 y1 16).2.1 = p2 at ht5 HD2 HD3
  generalize (tk xs p1 y1 16).2.2 = y3 at ht5 HD2 HD3
  obtain ⟨nt, hnt⟩ : ∃ nt, nt = namesTo xs p2 y3 := ⟨_, rfl⟩
  have HN0 : Hid ((nt 0).2 = (p2, y3)) := by rw [hnt]; rfl
  have HNS : Hid (∀ k, (nt (k + 1)).2 = (nx xs (nt k).2.1 (nt k).2.2).2) := by rw [hnt]; exact fun k => rfl
  have HNG : Hid (∀ k, k < 10 → (nt 10).1.getD k [] = (nx xs (nt k).2.1 (nt k).2.2).1) := by rw [hnt]; exact fun k hk => namesTo_get xs p2 y3 10 k hk
  have HNLL : Hid ((nt 10).1.length = 10) := by rw [hnt]; exact namesTo_len _ _ _ _
  rw [← hnt] at HD2 HD3
  clear hnt
  have hne0 : w.heap.size ≠ c := by have := HC.out; omega
  have hne6 : b6 ≠ c := by have := HC.out; have := HA.out; omega
  have hx05 := HST.out ht5 _ _ hne0 HX0.out
  have hx15 := HST.out ht5 _ _ hne6 HX1.out
  have hb5 := HBT.out ht5 HB3.out
  have hcl5 := hx15.cell (show noL[0]? = some (.slice none 0 0) from rfl)
  have hfr5 := hx15.free
  obtain ⟨a5, c5, rfl, hc51, hc52, _⟩ := id hbs5
  have HCK : Hid (∀ k, (Value.slice a5 D.ck.length c5).ownBlock = some k → b6 + 1 ≤ k) := fun k e => by have := how5 k e; omega
  have hk6 := keeps_set w5 b6 0 (.slice a5 D.ck.length c5)
  have HBS6 : Hid (BSl (w5.setCell ⟨b6, 0, none⟩ (.slice a5 D.ck.length c5)) (.slice a5 D.ck.length c5) D.ck) := hbs5.keep hk6 (fun k e e2 => by have := HCK.out k e; omega)
  have HX06 := hidden (hx05.other (C := b6) (by have := HA.out; omega) 0 (.slice a5 D.ck.length c5))
  have HX16 : Hid (LBox (w5.setCell ⟨b6, 0, none⟩ (.slice a5 D.ck.length c5)) b6 43 (lcells (.slice a5 D.ck.length c5) (List.replicate 10 (.slice none 0 0)) false)) := hx15.set 0 _
  have HB6 := hidden (hb5.setCell (p := ⟨b6, 0, none⟩) (by show _ ≤ b6; have := HA.out; omega) (.slice a5 D.ck.length c5))
  have HW6 := hidden (ht5.state.box b6 0 (.slice a5 D.ck.length c5) hne6 HGB.out)
  clear hx05 hx15 hb5 hbs5 how5 ht5 hk6 HX0 HX1 HB3 hw3' hal
  go_wp2_with fail
  generalize w5.setCell ⟨b6, 0, none⟩ (.slice a5 D.ck.length c5) = W6 at HBS6 HX06 HX16 HB6 HW6 ⊢
  obtain ⟨NT, hNT⟩ : ∃ NT, NT = (nt 10).1 := ⟨_, rfl⟩
  have HNT : Hid (∀ k, k < 10 → NT.getD k [] = (nx xs (nt k).2.1 (nt k).2.2).1) := by rw [hNT]; exact HNG.out
  rw [← hNT] at HD2
  have HNL : Hid (NT.length = 10) := by rw [hNT]; exact HNLL.out
  clear hNT HNG HNLL
  go_loopw [7] (fun i wr => ∃ (k : Nat) (nm : List Value), k ≤ 10 ∧ i = .int .i64 k ∧ LBox wr w.heap.size 43 noL ∧ LBox wr b6 43 (lcells (.slice a5 D.ck.length c5) nm false) ∧ Fill wr (b6 + 1) nm (fun j => texts (NT.getD j [])) k ∧ QR wr c g xs (nt k).2.1 (nt k).2.2 ∧ BSl wr (.slice a5 D.ck.length c5) D.ck ∧ Below w.heap.size w wr) (fun i _ => 10 - (intOf i).toNat)
  case atStart => exact ⟨0, List.replicate 10 (.slice none 0 0), by omega, rfl, HX06.out, HX16.out, Fill.zero rfl, by rw [HN0.out]; exact HW6.out, HBS6.out, HB6.out⟩
  case round =>
    clear HX06 HX16 HB6 HW6 HBS6
    obtain ⟨k, nm, hk, rfl, hx0, hx1, hfl, hwr, hbs, hb⟩ := hrel
    have HX0 := hidden hx0
    have HX1 := hidden hx1
    have HFL := hidden hfl
    have HBS := hidden hbs
    have HB := hidden hb
    have hsr := hx1.lt
    clear hx0 hx1 hfl hbs hb
    by_cases hlt : k < 10
    · have hi1 : (k : Int) < 10 := by omega
      have HSUC := hidden (HNS.out k)
      have HGK := hidden (HNT.out k hlt)
      go_wp2_with fail
      refine (qnames_c _ hwr).mono ?_
      rintro e w7 ⟨v7, rfl, hs7, how7, ht7⟩
      rw [← HGK.out] at hs7
      rw [← HSUC.out] at ht7
      clear HSUC HGK hwr
      generalize hF : texts (NT.getD k []) = F at hs7
      have HF := hidden hF
      clear hF
      have hx07 := HST.out ht7 _ _ hne0 HX0.out
      have hx17 := HST.out ht7 _ _ hne6 HX1.out
      have hb7 := HBT.out ht7 HB.out
      have hcl7 := hx17.cell (lcells_at HFL.out.nl hlt)
      have hfr7 := hx17.free
      obtain ⟨a7, c7, rfl, hc71, hc72, _⟩ := id hs7
      have HO7 := hidden how7
      have HS7 := hidden hs7
      have HT7 := hidden ht7
      have HX07 := hidden hx07
      have HX17 := hidden hx17
      have HB7 := hidden hb7
      generalize nm.getD k undef = u at hcl7
      clear how7 hs7 ht7 hx07 hx17 hb7
      go_wp2
      go_roundw
      case rel =>
        have hset := keeps_set w7 b6 (1 + k) (.slice a7 F.length c7)
        have hkk := HT7.out.keeps
        have hca := HC.out
        have haa := HA.out
        refine ⟨k + 1, nm.set k (.slice a7 F.length c7), by omega, by go_num, ?_, ?_, ?_, ?_, ?_, ?_⟩
        · exact HX07.out.other (by omega) _ _
        · have := HX17.out.set (1 + k) (.slice a7 F.length c7)
          rwa [lcells_set HFL.out.nl hlt] at this
        · have h1 : Fill w7 (b6 + 1) nm (fun j => texts (NT.getD j [])) k := HFL.out.keep hkk (fun j e => by omega)
          have h2 := h1.next hlt (v := .slice a7 F.length c7) (by show SSl w7 _ (texts (NT.getD k [])); rw [HF.out]; exact HS7.out) (fun j e => by have := HO7.out j e; omega)
          exact h2.keep hset (fun j e => by omega)
        · exact HT7.out.state.box b6 (1 + k) _ hne6 HGB.out
        · exact (HBS.out.keep hkk (fun j e e2 => by have := HCK.out j e; omega)).keep hset (fun j e e2 => by have := HCK.out j e; omega)
        · exact HB7.out.setCell (p := ⟨b6, 1 + k, none⟩) (by show _ ≤ b6; omega) _
      case measure => simp [intOf]; omega
    · have hi1 : ¬ (k : Int) < 10 := by omega
      obtain rfl : k = 10 := by omega
      have hf0 := HD3.out
      generalize nt 10 = n10 at hf0 hwr
      go_wp2_with fail
      refine (qbool_c _ hwr).mono ?_
      rintro e w8 ⟨rfl, ht8⟩
      rw [← hf0.1]
      generalize (tk xs n10.2.1 n10.2.2 1).2.1 = p8 at ht8 hf0
      generalize (tk xs n10.2.1 n10.2.2 1).2.2 = y8 at ht8 hf0
      have HF0 := hidden hf0
      clear hf0
      have hca := HC.out
      have haa := HA.out
      have hx08 := HST.out ht8 _ _ hne0 HX0.out
      have hx18 := HST.out ht8 _ _ hne6 HX1.out
      have hb8 := HBT.out ht8 HB.out
      have hcl8 := hx18.cell (lcells_end HFL.out.nl)
      have hfr8 := hx18.free
      have hset := keeps_set w8 b6 11 (.bool D.fo)
      have hk8 := ht8.keeps
      have HFL8 : Hid (Fill (w8.setCell ⟨b6, 11, none⟩ (.bool D.fo)) (b6 + 1) nm (fun j => texts (NT.getD j [])) 10) := (HFL.out.keep hk8 (fun j e => by omega)).keep hset (fun j e => by omega)
      have HBS8 : Hid (BSl (w8.setCell ⟨b6, 11, none⟩ (.bool D.fo)) (.slice a5 D.ck.length c5) D.ck) := (HBS.out.keep hk8 (fun j e e2 => by have := HCK.out j e; omega)).keep hset (fun j e e2 => by have := HCK.out j e; omega)
      have hx18s := hx18.set 11 (.bool D.fo)
      rw [lcells_fo HFL.out.nl] at hx18s
      have hx08s := hx08.other (C := b6) (by omega) 11 (.bool D.fo)
      have hb8s := hb8.setCell (p := ⟨b6, 11, none⟩) (by show _ ≤ b6; omega) (.bool D.fo)
      have hw8s := ht8.state.box b6 11 (.bool D.fo) hne6 HGB.out
      clear hx08 hx18 hb8 ht8 hset hk8 HFL HBS HX0 HX1 HB hwr hca haa
      go_wp2_with fail
      refine (qu32_c _ hw8s).mono ?_
      rintro e w9 ⟨rfl, ht9⟩
      rw [← HF0.out.2.1, ← HF0.out.2.2] at ht9
      have hca := HC.out
      have haa := HA.out
      have hx09 := HST.out ht9 _ _ hne0 hx08s
      have hx19 := HST.out ht9 _ _ hne6 hx18s
      have hb9 := HBT.out ht9 hb8s
      have hk9 := ht9.keeps
      have HFL9 : Hid (Fill w9 (b6 + 1) nm (fun j => texts (NT.getD j [])) 10) := HFL8.out.keep hk9 (fun j e => by omega)
      have HBS9 : Hid (BSl w9 (.slice a5 D.ck.length c5) D.ck) := HBS8.out.keep hk9 (fun j e e2 => by have := HCK.out j e; omega)
      have hw9 := ht9.state
      clear hx08s hx18s hb8s hw8s ht9 hk9 HFL8 HBS8 HF0 hcl8 hfr8 hca haa
      have HX0t := hidden hx09
      have HX1t := hidden hx19
      have HBt := hidden hb9
      have HW9 := hidden hw9
      clear hx09 hx19 hb9 hw9
      by_cases hkd : kd = 20
      · have hqk : ((kd : Int) != 20) = false := by rw [hkd]; rfl
        have HOK2 : Hid (decOk xs = decide ((ends xs D.p D.y).1 = 0)) := by show _ = _; rw [HOK.out, hkd]; simp
        clear HOK hkd
        go_wp2_with fail
        refine (qfine_c _ HW9.out).mono ?_
        rintro e w10 ⟨rfl, hk10⟩
        have HX0u := hidden (HX0t.out.still hk10)
        have HX1u := hidden (HX1t.out.still hk10)
        have HBu := hidden (HBt.out.trans (still_below hk10 HBt.out.size))
        have HFLu : Hid (Fill w10 (b6 + 1) nm (fun j => texts (NT.getD j [])) 10) := HFL9.out.keep hk10 (fun j e => e.elim)
        have HBSu : Hid (BSl w10 (.slice a5 D.ck.length c5) D.ck) := HBS9.out.keep hk10 (fun j e e2 => e2)
        clear hk10 HX0t HX1t HBt HFL9 HBS9 HW9
        obtain ⟨E1, hE⟩ : ∃ E, E = (ends xs D.p D.y).1 := ⟨_, rfl⟩
        rw [← hE] at HOK2 ⊢
        clear hE
        by_cases hE1 : E1 = 0
        · have hok : decOk xs = true := by rw [HOK2.out, hE1]; rfl
          have HY := hidden (HYES.out hok)
          have hq0 : (E1 == 0) = true := by rw [hE1]; rfl
          rw [hq0]
          clear hok HNO hE1 hq0
          have hrd : LRd w10 (.slice a5 D.ck.length c5) nm D.ck (D.ls.map texts) := by
            refine ⟨HBSu.out, HFLu.out.nl, by rw [List.length_map, HD2.out]; exact HNL.out, fun i hi => ?_⟩
            have h1 := (HFLu.out.done i hi).1
            have e : (D.ls.map texts).getD i [] = texts (NT.getD i []) := by
              have h10 := HNL.out
              rw [HD2.out, List.getD_eq_getElem?_getD, List.getElem?_map, List.getD_eq_getElem?_getD, List.getElem?_eq_getElem (by omega)]
              rfl
            rw [e]
            exact h1
          have HRD := hidden hrd
          have hone := hrd.one (fo := D.fo)
          have hln := lcells_len (ck := .slice a5 D.ck.length c5) (fo := D.fo) hrd.nl
          clear hrd
          generalize hCC : lcells (.slice a5 D.ck.length c5) nm D.fo = CC at HX1u hone hln
          have HCC := hidden hCC
          clear hCC
          have HSL : Hid ((Try.prog.info? 43).map (·.size) = some CC.toArray.size) := by show _ = _; rw [sizeR]; simp [hln]
          have HZZ : Hid ((noL.toArray).size = CC.toArray.size) := by show _ = _; rw [List.size_toArray, List.size_toArray, hln]; rfl
          have HON := hidden hone
          clear hone hln
          go_wp2_with (first
            | (refine wpList_loadAgg rfl 43 (.tmp 6) rfl b6 CC.toArray 43 (0, 0) rfl HX1u.out Try.underlying43 HSL.out ?_)
            | (refine wpList_store_row rfl 43 (.tmp 2) (.tmp 38) rfl w.heap.size CC.toArray rfl rfl 43 _ HX0u.out HSL.out HZZ.out HON.out ?_))
          have hbr : Below w.heap.size w (w10.setRow w.heap.size CC.toArray) := below_setRow HBu.out (by omega) _
          refine bodyPost_ret (results_aggTmp rfl _ _ _ w.heap.size CC.toArray 43 (0, 0) (.int .i64 0) rfl rfl (HX0u.out.row CC) Try.underlying43 HSL.out) rfl ?_
          have hres := HY.out (w10.setRow w.heap.size CC.toArray) (.slice a5 D.ck.length c5) nm (HRD.out.keep (keeps_row w10 w.heap.size CC.toArray) (fun j e e2 => by have := HCK.out j e; have := HA.out; omega) (fun i hi j e e2 => by have := (HFLu.out.done i hi).2 j e; have := HA.out; omega)) (fun j e => by have := HCK.out j e; have := HA.out; omega) (fun i hi j e => by have := (HFLu.out.done i hi).2 j e; have := HA.out; omega) hbr
          rw [HCC.out] at hres
          exact hres
        · have hok : decOk xs = false := by rw [HOK2.out]; simpa using hE1
          have HN := hidden (HNO.out hok)
          have hq0 : (E1 == 0) = false := by rw [beq_eq_false_iff_ne]; exact hE1
          rw [hq0]
          clear hok HYES hE1 hq0
          have hbr : Below w.heap.size w (w10.setRow w.heap.size noL.toArray) := below_setRow HBu.out (by omega) _
          go_wp2_with (refine wpList_store_row rfl 43 (.tmp 2) (.tmp 37) rfl w.heap.size noL.toArray rfl rfl 43 _ HX0u.out size_noR rfl noL_one ?_)
          refine bodyPost_ret (results_aggTmp rfl _ _ _ w.heap.size noL.toArray 43 (0, 0) (.int .i64 12) rfl rfl (HX0u.out.row noL) Try.underlying43 size_noR) rfl ?_
          exact HN.out _ hbr
      · have hqk : ((kd : Int) != 20) = true := by rw [bne_iff_ne]; omega
        have hok : decOk xs = false := by rw [HOK.out]; simp [hkd]
        have HN := hidden (HNO.out hok)
        clear hok HYES hkd
        have hbr : Below w.heap.size w (w9.setRow w.heap.size noL.toArray) := below_setRow HBt.out (by omega) _
        go_wp2_with (refine wpList_store_row rfl 43 (.tmp 2) (.tmp 37) rfl w.heap.size noL.toArray rfl rfl 43 _ HX0t.out size_noR rfl noL_one ?_)
        refine bodyPost_ret (results_aggTmp rfl _ _ _ w.heap.size noL.toArray 43 (0, 0) (.int .i64 12) rfl rfl (HX0t.out.row noL) Try.underlying43 size_noR) rfl ?_
        exact HN.out _ hbr

theorem results_arrTmp {fn : Func} {p q : Tmp} {ty : TypeId} (h : fn.results = #[.cell p ty, .tmp q]) (tmps : Array Value) (P : Program) (w : World) (g : Nat) (cs : Array Value) (t : TypeId) (fr : Nat × Nat) {n : Nat} {et : TypeId} (v : Value) (hp : tmps.getD p undef = .pointer (some ⟨g, 0, none⟩)) (hq : tmps.getD q undef = v) (hg : w.heap[g]? = some (.cells cs t fr))
    (hu : P.underlying ty = some (.array n et)) (hi : (P.info? ty).map (·.size) = some cs.size) :
    (results fn tmps).run P w = .ok (.tuple #[.agg cs, v]) w := by
  have hp' : tmps[p]?.getD undef = .pointer (some ⟨g, 0, none⟩) := by rw [← hp]; simp
  have hq' : tmps[q]?.getD undef = v := by rw [← hq]; simp
  simp only [results, h]
  simp [hp', hq', asAddr, run_loadVar_row w g t ty cs fr _ hg hu rfl hi]
theorem size8 : (Try.prog.info? 45).map (·.size) = some 8 := by kernel_rfl

def agOf (ls os : List (List ByteArray)) (i : Nat) : Option ByteArray := chooseO (ls.getD i []) (os.getD i [])
def agOk (ls os : List (List ByteArray)) : Bool := (List.range 8).all fun i => (agOf ls os i).isSome
/-- What is agreed on, as far as k. -/
def agN (ls os : List (List ByteArray)) (k : Nat) : List Value := (List.range k).map fun i => .string ((agOf ls os i).getD ⟨#[]⟩)
def no8 : List Value := [.string ⟨#[]⟩, .string ⟨#[]⟩, .string ⟨#[]⟩, .string ⟨#[]⟩, .string ⟨#[]⟩, .string ⟨#[]⟩, .string ⟨#[]⟩, .string ⟨#[]⟩]
def agC (ls os : List (List ByteArray)) : List Value := if agOk ls os then agN ls os 8 else no8
def agE (ls os : List (List ByteArray)) : Int := if agOk ls os then 0 else 22
theorem agN_len (ls os : List (List ByteArray)) (k : Nat) : (agN ls os k).length = k := by simp [agN]
theorem agN_next (ls os : List (List ByteArray)) {k : Nat} (hk : k < 8) {s : ByteArray} (h : agOf ls os k = some s) : (agN ls os k ++ List.replicate (8 - k) (Value.string ⟨#[]⟩)).set k (.string s) = agN ls os (k + 1) ++ List.replicate (8 - (k + 1)) (Value.string ⟨#[]⟩) := by
  have hl := agN_len ls os k
  rw [List.set_append_right _ _ (by omega), hl, Nat.sub_self, show 8 - k = (8 - (k + 1)) + 1 from by omega, List.replicate_succ, List.set_cons_zero]
  simp only [agN, List.range_succ, List.map_append, List.map_cons, List.map_nil, h, Option.getD_some, List.append_assoc, List.cons_append, List.nil_append]
theorem agN_at (ls os : List (List ByteArray)) {k : Nat} (hk : k < 8) : (agN ls os k ++ List.replicate (8 - k) (Value.string ⟨#[]⟩))[k]? = some (Value.string ⟨#[]⟩) := by
  rw [List.getElem?_append_right (by rw [agN_len]; exact Nat.le_refl _), agN_len, Nat.sub_self, List.getElem?_replicate, if_pos (by omega)]
theorem agN_one (ls os : List (List ByteArray)) : (agN ls os 8).toArray.all (·.oneCell') = true := by
  rw [List.all_toArray, List.all_eq_true]
  intro x hx
  obtain ⟨i, _, rfl⟩ := List.mem_map.1 hx
  rfl
theorem ag_no {ls os : List (List ByteArray)} {k : Nat} (hk : k < 8) (h : agOf ls os k = none) : agC ls os = no8 ∧ agE ls os = 22 := by
  have : agOk ls os = false := List.all_eq_false.2 ⟨k, List.mem_range.2 hk, by simp [h]⟩
  simp [agC, agE, this]
theorem ag_yes {ls os : List (List ByteArray)} (h : ∀ i, i < 8 → (agOf ls os i).isSome = true) : agC ls os = agN ls os 8 ∧ agE ls os = 0 := by
  have : agOk ls os = true := List.all_eq_true.2 fun i hi => h i (List.mem_range.1 hi)
  simp [agC, agE, this]
theorem box_four (w : World) (t u : TypeId) (cs zs : List Value) (x y : TypeId) (ps qs : List Value) :
    let W := (((w.alloc (.cells cs.toArray t)).alloc (.cells zs.toArray u)).alloc (.cells ps.toArray x)).alloc (.cells qs.toArray y)
    LBox W w.heap.size t cs ∧ LBox W (w.heap.size + 1) u zs ∧ LBox W (w.heap.size + 2) x ps ∧ LBox W (w.heap.size + 3) y qs ∧ Below w.heap.size w W := by
  obtain ⟨h0, h1, h2, h3⟩ := box_two w t u cs zs
  obtain ⟨g0, g1, g2, g3⟩ := box_two ((w.alloc (.cells cs.toArray t)).alloc (.cells zs.toArray u)) x y ps qs
  rw [h3] at g0 g1
  exact ⟨(h0.alloc _).alloc _, (h1.alloc _).alloc _, g0, g1, h2.trans (g2.mono h2.size)⟩

set_option maxHeartbeats 1600000 in
set_option maxRecDepth 100000 in
theorem agree_c (ck dk : Value) (nm om : List Value) (fo fp : Bool) (bs cs : List UInt8) (ls os : List (List ByteArray)) (w : World) (h : LRd w ck nm bs ls) (g : LRd w dk om cs os) :
    Calls Try.prog 18 #[.agg (lcells ck nm fo).toArray, .agg (lcells dk om fp).toArray] w fun e w' => e = .returned (.tuple #[.agg (agC ls os).toArray, .int .i64 (agE ls os)]) ∧ Below w.heap.size w w' := by
  have HCA : Hid (∀ i, i < 10 → (lcells ck nm fo)[1 + i]? = some (nm.getD i undef)) := fun i hi => lcells_at h.nl hi
  have HDA : Hid (∀ i, i < 10 → (lcells dk om fp)[1 + i]? = some (om.getD i undef)) := fun i hi => lcells_at g.nl hi
  generalize lcells ck nm fo = c1 at *
  generalize lcells dk om fp = c2 at *
  have HH := hidden h
  have HG := hidden g
  clear h g
  have HNO : Hid (∀ k, k < 8 → agOf ls os k = none → agC ls os = no8 ∧ agE ls os = 22) := fun k hk h => ag_no hk h
  have HYES : Hid ((∀ i, i < 8 → (agOf ls os i).isSome = true) → agC ls os = agN ls os 8 ∧ agE ls os = 0) := ag_yes
  generalize agC ls os = RC at HNO HYES ⊢
  generalize agE ls os = RE at HNO HYES ⊢
  obtain ⟨hx0, hx1, hx2, hx3, hbx⟩ := box_four w 38 38 c1 c2 45 45 no8 no8
  go_enter Try.func18, Try.ntmps18
  go_upto_region 2 with fail
  change Code.wp _ _ _ _ ((((w.alloc (.cells c1.toArray 38)).alloc (.cells c2.toArray 38)).alloc (.cells no8.toArray 45)).alloc (.cells no8.toArray 45))
  generalize (((w.alloc (.cells c1.toArray 38)).alloc (.cells c2.toArray 38)).alloc (.cells no8.toArray 45)).alloc (.cells no8.toArray 45) = W1 at hx0 hx1 hx2 hx3 hbx ⊢
  have HX0 := hidden hx0
  have HX1 := hidden hx1
  have HX2 := hidden hx2
  have HX3 := hidden hx3
  have HBX := hidden hbx
  clear hx0 hx1 hx2 hx3 hbx
  go_wp2_with fail
  go_loopw [10] (fun i wr => ∃ k : Nat, k ≤ 8 ∧ i = .int .i64 k ∧ LBox wr w.heap.size 38 c1 ∧ LBox wr (w.heap.size + 1) 38 c2 ∧ LBox wr (w.heap.size + 2) 45 no8 ∧ LBox wr (w.heap.size + 3) 45 (agN ls os k ++ List.replicate (8 - k) (Value.string ⟨#[]⟩)) ∧ (∀ i, i < k → (agOf ls os i).isSome = true) ∧ Below w.heap.size w wr) (fun i _ => 8 - (intOf i).toNat)
  case atStart => exact ⟨0, by omega, rfl, HX0.out, HX1.out, HX2.out, HX3.out, (fun i h => by omega), HBX.out⟩
  case round =>
    clear HX0 HX1 HX2 HX3 HBX
    obtain ⟨k, hk, rfl, hx0, hx1, hx2, hx3, hsm, hb⟩ := hrel
    have HX0 := hidden hx0
    have HX1 := hidden hx1
    have HX2 := hidden hx2
    have HX3 := hidden hx3
    have HSM := hidden hsm
    have HB := hidden hb
    clear hx0 hx1 hx2 hx3 hsm hb
    by_cases hlt : k < 8
    · have hik : (k : Int) < 8 := by omega
      have hik2 : (k : Int) < 10 := by omega
      have d1 := HX0.out.cell (HCA.out k (by omega))
      have d2 := HX1.out.cell (HDA.out k (by omega))
      have s1 := (HH.out.fresh HB.out).nm k (by omega)
      have s2 := (HG.out.fresh HB.out).nm k (by omega)
      have HAG : Hid (agOf ls os k = chooseO (ls.getD k []) (os.getD k [])) := rfl
      generalize nm.getD k undef = v1 at d1 s1
      generalize om.getD k undef = v2 at d2 s2
      generalize ls.getD k [] = cl at s1 HAG
      generalize os.getD k [] = sv at s2 HAG
      obtain ⟨a1, p1, rfl, hp1, hp1m, _⟩ := id s1
      obtain ⟨a2, p2, rfl, hp2, hp2m, _⟩ := id s2
      have HS1 := hidden s1
      have HS2 := hidden s2
      clear s1 s2
      cases hco : chooseO cl sv with
      | none =>
        have hcn := HAG.out.trans hco
        obtain ⟨rfl, rfl⟩ := HNO.out k hlt hcn
        have HCH : Hid (∀ V, SSl V (.slice a1 cl.length p1) cl → SSl V (.slice a2 sv.length p2) sv → Calls Try.prog 25 #[.slice a1 cl.length p1, .slice a2 sv.length p2] V fun e w' => e = .returned (.tuple #[.string ⟨#[]⟩, .int .i64 22]) ∧ w' = V) := fun V g1 g2 => by have := choose_c _ _ cl sv V g1 g2; rw [hco] at this; exact this
        clear hcn hco HAG HYES
        go_wp2_with fail
        go_quiet (first | (go_at_call 25; exact Calls.quiet_of_same (HCH.out _ (HS1.out.drewN _) (HS2.out.drewN _))))
        have HX2n : Hid (LBox (wr.drewN nq) (w.heap.size + 2) 45 no8) := HX2.out
        have HBn : Hid (Below w.heap.size w (wr.drewN nq)) := below_drewN HB.out nq
        generalize wr.drewN nq = wq at HX2n HBn ⊢
        go_wp2_with (refine wpList_store_row rfl 45 (.tmp 4) (.tmp 27) rfl (w.heap.size + 2) no8.toArray rfl rfl 45 _ HX2n.out size8 rfl (by decide +kernel) ?_)
        refine bodyPost_ret (results_arrTmp rfl _ _ _ (w.heap.size + 2) no8.toArray 45 (0, 0) (.int .i64 22) rfl rfl (HX2n.out.row no8) Try.underlying45 size8) rfl ?_
        exact ⟨rfl, below_setRow HBn.out (by omega) _⟩
      | some s =>
        have HCS : Hid (agOf ls os k = some s) := HAG.out.trans hco
        have HCH : Hid (∀ V, SSl V (.slice a1 cl.length p1) cl → SSl V (.slice a2 sv.length p2) sv → Calls Try.prog 25 #[.slice a1 cl.length p1, .slice a2 sv.length p2] V fun e w' => e = .returned (.tuple #[.string s, .int .i64 0]) ∧ w' = V) := fun V g1 g2 => by have := choose_c _ _ cl sv V g1 g2; rw [hco] at this; exact this
        clear hco HAG
        go_wp2_with fail
        go_quiet (first | (go_at_call 25; exact Calls.quiet_of_same (HCH.out _ (HS1.out.drewN _) (HS2.out.drewN _))))
        have HX0n : Hid (LBox (wr.drewN nq) w.heap.size 38 c1) := HX0.out
        have HX1n : Hid (LBox (wr.drewN nq) (w.heap.size + 1) 38 c2) := HX1.out
        have HX2n : Hid (LBox (wr.drewN nq) (w.heap.size + 2) 45 no8) := HX2.out
        have HX3n : Hid (LBox (wr.drewN nq) (w.heap.size + 3) 45 (agN ls os k ++ List.replicate (8 - k) (Value.string ⟨#[]⟩))) := HX3.out
        have HBn : Hid (Below w.heap.size w (wr.drewN nq)) := below_drewN HB.out nq
        generalize wr.drewN nq = wq at HX0n HX1n HX2n HX3n HBn ⊢
        have hcl := HX3n.out.cell (agN_at ls os hlt)
        have hfr := HX3n.out.free
        clear d1 d2 HX0 HX1 HX2 HX3 HB
        go_wp2
        go_roundw
        case rel =>
          refine ⟨k + 1, by omega, by go_num, HX0n.out.other (by omega) _ _, HX1n.out.other (by omega) _ _, HX2n.out.other (by omega) _ _, ?_, fun i hi => ?_, HBn.out.setCell (p := ⟨w.heap.size + 3, k, none⟩) (by show _ ≤ w.heap.size + 3; omega) _⟩
          · have := HX3n.out.set k (.string s)
            rwa [agN_next ls os hlt HCS.out] at this
          · by_cases e : i = k
            · rw [e, HCS.out]; rfl
            · exact HSM.out i (by omega)
        case measure => simp [intOf]; omega
    · have hik : ¬ (k : Int) < 8 := by omega
      obtain rfl : k = 8 := by omega
      obtain ⟨rfl, rfl⟩ := HYES.out HSM.out
      have hx3 := HX3.out
      rw [Nat.sub_self, List.replicate_zero, List.append_nil] at hx3
      have HXE := hidden hx3
      have HSZ : Hid ((Try.prog.info? 45).map (·.size) = some (agN ls os 8).toArray.size) := by show _ = _; rw [size8]; simp [agN_len]
      have HON := hidden (agN_one ls os)
      have HZZ : Hid (no8.toArray.size = (agN ls os 8).toArray.size) := by show _ = _; rw [List.size_toArray, List.size_toArray, agN_len]; rfl
      generalize hRR : agN ls os 8 = RR at HXE HSZ HON HZZ
      have HRR := hidden hRR
      clear hRR
      clear hx3 HX3
      go_wp2_with (first
        | (refine wpList_loadRow rfl 45 (.tmp 6) rfl (w.heap.size + 3) RR.toArray 45 (0, 0) 8 9 rfl HXE.out Try.underlying45 HSZ.out ?_)
        | (refine wpList_store_row rfl 45 (.tmp 4) (.tmp 33) rfl (w.heap.size + 2) RR.toArray rfl rfl 45 _ HX2.out HSZ.out HZZ.out HON.out ?_))
      refine bodyPost_ret (results_arrTmp rfl _ _ _ (w.heap.size + 2) RR.toArray 45 (0, 0) (.int .i64 0) rfl rfl (HX2.out.row RR) Try.underlying45 HSZ.out) rfl ?_
      exact ⟨by rw [HRR.out], below_setRow HB.out (by omega) _⟩

set_option maxHeartbeats 1600000 in
set_option maxRecDepth 100000 in
theorem ragree_c (ck dk : Value) (nm om : List Value) (fo fp : Bool) (bs cs : List UInt8) (ls os : List (List ByteArray)) (w : World) (h : LRd w ck nm bs ls) (g : LRd w dk om cs os) :
    Calls Try.prog 24 #[.agg (lcells ck nm fo).toArray, .agg (lcells dk om fp).toArray] w fun e w' => e = .returned (.tuple #[.agg (agC ls os).toArray, .int .i64 (agE ls os)]) ∧ Below w.heap.size w w' := by
  have HCA : Hid (∀ i, i < 10 → (lcells ck nm fo)[1 + i]? = some (nm.getD i undef)) := fun i hi => lcells_at h.nl hi
  have HDA : Hid (∀ i, i < 10 → (lcells dk om fp)[1 + i]? = some (om.getD i undef)) := fun i hi => lcells_at g.nl hi
  generalize lcells ck nm fo = c1 at *
  generalize lcells dk om fp = c2 at *
  have HH := hidden h
  have HG := hidden g
  clear h g
  have HNO : Hid (∀ k, k < 8 → agOf ls os k = none → agC ls os = no8 ∧ agE ls os = 22) := fun k hk h => ag_no hk h
  have HYES : Hid ((∀ i, i < 8 → (agOf ls os i).isSome = true) → agC ls os = agN ls os 8 ∧ agE ls os = 0) := ag_yes
  generalize agC ls os = RC at HNO HYES ⊢
  generalize agE ls os = RE at HNO HYES ⊢
  obtain ⟨hx0, hx1, hx2, hx3, hbx⟩ := box_four w 43 43 c1 c2 45 45 no8 no8
  go_enter Try.func24, Try.ntmps24
  go_upto_region 2 with fail
  change Code.wp _ _ _ _ ((((w.alloc (.cells c1.toArray 43)).alloc (.cells c2.toArray 43)).alloc (.cells no8.toArray 45)).alloc (.cells no8.toArray 45))
  generalize (((w.alloc (.cells c1.toArray 43)).alloc (.cells c2.toArray 43)).alloc (.cells no8.toArray 45)).alloc (.cells no8.toArray 45) = W1 at hx0 hx1 hx2 hx3 hbx ⊢
  have HX0 := hidden hx0
  have HX1 := hidden hx1
  have HX2 := hidden hx2
  have HX3 := hidden hx3
  have HBX := hidden hbx
  clear hx0 hx1 hx2 hx3 hbx
  go_wp2_with fail
  go_loopw [7] (fun i wr => ∃ k : Nat, k ≤ 8 ∧ i = .int .i64 k ∧ LBox wr w.heap.size 43 c1 ∧ LBox wr (w.heap.size + 1) 43 c2 ∧ LBox wr (w.heap.size + 2) 45 no8 ∧ LBox wr (w.heap.size + 3) 45 (agN ls os k ++ List.replicate (8 - k) (Value.string ⟨#[]⟩)) ∧ (∀ i, i < k → (agOf ls os i).isSome = true) ∧ Below w.heap.size w wr) (fun i _ => 8 - (intOf i).toNat)
  case atStart => exact ⟨0, by omega, rfl, HX0.out, HX1.out, HX2.out, HX3.out, (fun i h => by omega), HBX.out⟩
  case round =>
    clear HX0 HX1 HX2 HX3 HBX
    obtain ⟨k, hk, rfl, hx0, hx1, hx2, hx3, hsm, hb⟩ := hrel
    have HX0 := hidden hx0
    have HX1 := hidden hx1
    have HX2 := hidden hx2
    have HX3 := hidden hx3
    have HSM := hidden hsm
    have HB := hidden hb
    clear hx0 hx1 hx2 hx3 hsm hb
    by_cases hlt : k < 8
    · have hik : (k : Int) < 8 := by omega
      have hik2 : (k : Int) < 10 := by omega
      have d1 := HX0.out.cell (HCA.out k (by omega))
      have d2 := HX1.out.cell (HDA.out k (by omega))
      have s1 := (HH.out.fresh HB.out).nm k (by omega)
      have s2 := (HG.out.fresh HB.out).nm k (by omega)
      have HAG : Hid (agOf ls os k = chooseO (ls.getD k []) (os.getD k [])) := rfl
      generalize nm.getD k undef = v1 at d1 s1
      generalize om.getD k undef = v2 at d2 s2
      generalize ls.getD k [] = cl at s1 HAG
      generalize os.getD k [] = sv at s2 HAG
      obtain ⟨a1, p1, rfl, hp1, hp1m, _⟩ := id s1
      obtain ⟨a2, p2, rfl, hp2, hp2m, _⟩ := id s2
      have HS1 := hidden s1
      have HS2 := hidden s2
      clear s1 s2
      cases hco : chooseO cl sv with
      | none =>
        have hcn := HAG.out.trans hco
        obtain ⟨rfl, rfl⟩ := HNO.out k hlt hcn
        have HCH : Hid (∀ V, SSl V (.slice a1 cl.length p1) cl → SSl V (.slice a2 sv.length p2) sv → Calls Try.prog 26 #[.slice a1 cl.length p1, .slice a2 sv.length p2] V fun e w' => e = .returned (.tuple #[.string ⟨#[]⟩, .int .i64 22]) ∧ ∃ m, w' = V.drewN m) := fun V g1 g2 => by have := rchoose_c _ _ cl sv V g1 g2; rw [hco] at this; exact this
        clear hcn hco HAG HYES
        go_wp2_with fail
        go_quiet (first | (go_at_call 26; exact Calls.quiet_of (HCH.out _ (HS1.out.drewN _) (HS2.out.drewN _))))
        have HX2n : Hid (LBox (wr.drewN nq) (w.heap.size + 2) 45 no8) := HX2.out
        have HBn : Hid (Below w.heap.size w (wr.drewN nq)) := below_drewN HB.out nq
        generalize wr.drewN nq = wq at HX2n HBn ⊢
        go_wp2_with (refine wpList_store_row rfl 45 (.tmp 4) (.tmp 28) rfl (w.heap.size + 2) no8.toArray rfl rfl 45 _ HX2n.out size8 rfl (by decide +kernel) ?_)
        refine bodyPost_ret (results_arrTmp rfl _ _ _ (w.heap.size + 2) no8.toArray 45 (0, 0) (.int .i64 22) rfl rfl (HX2n.out.row no8) Try.underlying45 size8) rfl ?_
        exact ⟨rfl, below_setRow HBn.out (by omega) _⟩
      | some s =>
        have HCS : Hid (agOf ls os k = some s) := HAG.out.trans hco
        have HCH : Hid (∀ V, SSl V (.slice a1 cl.length p1) cl → SSl V (.slice a2 sv.length p2) sv → Calls Try.prog 26 #[.slice a1 cl.length p1, .slice a2 sv.length p2] V fun e w' => e = .returned (.tuple #[.string s, .int .i64 0]) ∧ ∃ m, w' = V.drewN m) := fun V g1 g2 => by have := rchoose_c _ _ cl sv V g1 g2; rw [hco] at this; exact this
        clear hco HAG
        go_wp2_with fail
        go_quiet (first | (go_at_call 26; exact Calls.quiet_of (HCH.out _ (HS1.out.drewN _) (HS2.out.drewN _))))
        have HX0n : Hid (LBox (wr.drewN nq) w.heap.size 43 c1) := HX0.out
        have HX1n : Hid (LBox (wr.drewN nq) (w.heap.size + 1) 43 c2) := HX1.out
        have HX2n : Hid (LBox (wr.drewN nq) (w.heap.size + 2) 45 no8) := HX2.out
        have HX3n : Hid (LBox (wr.drewN nq) (w.heap.size + 3) 45 (agN ls os k ++ List.replicate (8 - k) (Value.string ⟨#[]⟩))) := HX3.out
        have HBn : Hid (Below w.heap.size w (wr.drewN nq)) := below_drewN HB.out nq
        generalize wr.drewN nq = wq at HX0n HX1n HX2n HX3n HBn ⊢
        have hcl := HX3n.out.cell (agN_at ls os hlt)
        have hfr := HX3n.out.free
        clear d1 d2 HX0 HX1 HX2 HX3 HB
        go_wp2
        go_roundw
        case rel =>
          refine ⟨k + 1, by omega, by go_num, HX0n.out.other (by omega) _ _, HX1n.out.other (by omega) _ _, HX2n.out.other (by omega) _ _, ?_, fun i hi => ?_, HBn.out.setCell (p := ⟨w.heap.size + 3, k, none⟩) (by show _ ≤ w.heap.size + 3; omega) _⟩
          · have := HX3n.out.set k (.string s)
            rwa [agN_next ls os hlt HCS.out] at this
          · by_cases e : i = k
            · rw [e, HCS.out]; rfl
            · exact HSM.out i (by omega)
        case measure => simp [intOf]; omega
    · have hik : ¬ (k : Int) < 8 := by omega
      obtain rfl : k = 8 := by omega
      obtain ⟨rfl, rfl⟩ := HYES.out HSM.out
      have hx3 := HX3.out
      rw [Nat.sub_self, List.replicate_zero, List.append_nil] at hx3
      have HXE := hidden hx3
      have HSZ : Hid ((Try.prog.info? 45).map (·.size) = some (agN ls os 8).toArray.size) := by show _ = _; rw [size8]; simp [agN_len]
      have HON := hidden (agN_one ls os)
      have HZZ : Hid (no8.toArray.size = (agN ls os 8).toArray.size) := by show _ = _; rw [List.size_toArray, List.size_toArray, agN_len]; rfl
      generalize hRR : agN ls os 8 = RR at HXE HSZ HON HZZ
      have HRR := hidden hRR
      clear hRR
      clear hx3 HX3
      go_wp2_with (first
        | (refine wpList_loadRow rfl 45 (.tmp 6) rfl (w.heap.size + 3) RR.toArray 45 (0, 0) 8 9 rfl HXE.out Try.underlying45 HSZ.out ?_)
        | (refine wpList_store_row rfl 45 (.tmp 4) (.tmp 33) rfl (w.heap.size + 2) RR.toArray rfl rfl 45 _ HX2.out HSZ.out HZZ.out HON.out ?_))
      refine bodyPost_ret (results_arrTmp rfl _ _ _ (w.heap.size + 2) RR.toArray 45 (0, 0) (.int .i64 0) rfl rfl (HX2.out.row RR) Try.underlying45 HSZ.out) rfl ?_
      exact ⟨by rw [HRR.out], below_setRow HB.out (by omega) _⟩

/-- What this program speaks. -/
def oursL : List (List ByteArray) := [[⟨#[99, 117, 114, 118, 101, 50, 53, 53, 49, 57, 45, 115, 104, 97, 50, 53, 54]⟩], [⟨#[115, 116, 114, 111, 110, 103, 114, 111, 111, 109, 45, 109, 97, 99]⟩], [⟨#[99, 104, 97, 99, 104, 97, 50, 48, 45, 112, 111, 108, 121, 49, 51, 48, 53]⟩], [⟨#[99, 104, 97, 99, 104, 97, 50, 48, 45, 112, 111, 108, 121, 49, 51, 48, 53]⟩], [⟨#[110, 111, 110, 101]⟩], [⟨#[110, 111, 110, 101]⟩], [⟨#[110, 111, 110, 101]⟩], [⟨#[110, 111, 110, 101]⟩], [], []]
/-- Eight lists of one name each, laid one behind the other. -/
def eight (w : World) : World := ((((((((w).alloc (.cells #[.string ⟨#[99, 117, 114, 118, 101, 50, 53, 53, 49, 57, 45, 115, 104, 97, 50, 53, 54]⟩] 9)).alloc (.cells #[.string ⟨#[115, 116, 114, 111, 110, 103, 114, 111, 111, 109, 45, 109, 97, 99]⟩] 9)).alloc (.cells #[.string ⟨#[99, 104, 97, 99, 104, 97, 50, 48, 45, 112, 111, 108, 121, 49, 51, 48, 53]⟩] 9)).alloc (.cells #[.string ⟨#[99, 104, 97, 99, 104, 97, 50, 48, 45, 112, 111, 108, 121, 49, 51, 48, 53]⟩] 9)).alloc (.cells #[.string ⟨#[110, 111, 110, 101]⟩] 9)).alloc (.cells #[.string ⟨#[110, 111, 110, 101]⟩] 9)).alloc (.cells #[.string ⟨#[110, 111, 110, 101]⟩] 9)).alloc (.cells #[.string ⟨#[110, 111, 110, 101]⟩] 9)
def eightN (b : Nat) : List Value := [.slice (some ⟨b, 0, none⟩) 1 1, .slice (some ⟨b + 1, 0, none⟩) 1 1, .slice (some ⟨b + 2, 0, none⟩) 1 1, .slice (some ⟨b + 3, 0, none⟩) 1 1, .slice (some ⟨b + 4, 0, none⟩) 1 1, .slice (some ⟨b + 5, 0, none⟩) 1 1, .slice (some ⟨b + 6, 0, none⟩) 1 1, .slice (some ⟨b + 7, 0, none⟩) 1 1, .slice none 0 0, .slice none 0 0]
theorem eight_all (w : World) : (LBox (eight w) (w.heap.size + 0) 9 [.string ⟨#[99, 117, 114, 118, 101, 50, 53, 53, 49, 57, 45, 115, 104, 97, 50, 53, 54]⟩] ∧ LBox (eight w) (w.heap.size + 1) 9 [.string ⟨#[115, 116, 114, 111, 110, 103, 114, 111, 111, 109, 45, 109, 97, 99]⟩] ∧ LBox (eight w) (w.heap.size + 2) 9 [.string ⟨#[99, 104, 97, 99, 104, 97, 50, 48, 45, 112, 111, 108, 121, 49, 51, 48, 53]⟩] ∧ LBox (eight w) (w.heap.size + 3) 9 [.string ⟨#[99, 104, 97, 99, 104, 97, 50, 48, 45, 112, 111, 108, 121, 49, 51, 48, 53]⟩] ∧ LBox (eight w) (w.heap.size + 4) 9 [.string ⟨#[110, 111, 110, 101]⟩] ∧ LBox (eight w) (w.heap.size + 5) 9 [.string ⟨#[110, 111, 110, 101]⟩] ∧ LBox (eight w) (w.heap.size + 6) 9 [.string ⟨#[110, 111, 110, 101]⟩] ∧ LBox (eight w) (w.heap.size + 7) 9 [.string ⟨#[110, 111, 110, 101]⟩]) ∧ Below w.heap.size w (eight w) ∧ (eight w).heap.size = w.heap.size + 8 := by
  have h0 : LBox ((w).alloc (.cells #[.string ⟨#[99, 117, 114, 118, 101, 50, 53, 53, 49, 57, 45, 115, 104, 97, 50, 53, 54]⟩] 9)) (w.heap.size + 0) 9 [.string ⟨#[99, 117, 114, 118, 101, 50, 53, 53, 49, 57, 45, 115, 104, 97, 50, 53, 54]⟩] := by
    have := LBox.new (w) 9 [.string ⟨#[99, 117, 114, 118, 101, 50, 53, 53, 49, 57, 45, 115, 104, 97, 50, 53, 54]⟩]
    have e : (w).heap.size = w.heap.size + 0 := by simp
    rw [e] at this
    exact this
  have h1 : LBox (((w).alloc (.cells #[.string ⟨#[99, 117, 114, 118, 101, 50, 53, 53, 49, 57, 45, 115, 104, 97, 50, 53, 54]⟩] 9)).alloc (.cells #[.string ⟨#[115, 116, 114, 111, 110, 103, 114, 111, 111, 109, 45, 109, 97, 99]⟩] 9)) (w.heap.size + 1) 9 [.string ⟨#[115, 116, 114, 111, 110, 103, 114, 111, 111, 109, 45, 109, 97, 99]⟩] := by
    have := LBox.new ((w).alloc (.cells #[.string ⟨#[99, 117, 114, 118, 101, 50, 53, 53, 49, 57, 45, 115, 104, 97, 50, 53, 54]⟩] 9)) 9 [.string ⟨#[115, 116, 114, 111, 110, 103, 114, 111, 111, 109, 45, 109, 97, 99]⟩]
    have e : ((w).alloc (.cells #[.string ⟨#[99, 117, 114, 118, 101, 50, 53, 53, 49, 57, 45, 115, 104, 97, 50, 53, 54]⟩] 9)).heap.size = w.heap.size + 1 := by simp
    rw [e] at this
    exact this
  have h2 : LBox ((((w).alloc (.cells #[.string ⟨#[99, 117, 114, 118, 101, 50, 53, 53, 49, 57, 45, 115, 104, 97, 50, 53, 54]⟩] 9)).alloc (.cells #[.string ⟨#[115, 116, 114, 111, 110, 103, 114, 111, 111, 109, 45, 109, 97, 99]⟩] 9)).alloc (.cells #[.string ⟨#[99, 104, 97, 99, 104, 97, 50, 48, 45, 112, 111, 108, 121, 49, 51, 48, 53]⟩] 9)) (w.heap.size + 2) 9 [.string ⟨#[99, 104, 97, 99, 104, 97, 50, 48, 45, 112, 111, 108, 121, 49, 51, 48, 53]⟩] := by
    have := LBox.new (((w).alloc (.cells #[.string ⟨#[99, 117, 114, 118, 101, 50, 53, 53, 49, 57, 45, 115, 104, 97, 50, 53, 54]⟩] 9)).alloc (.cells #[.string ⟨#[115, 116, 114, 111, 110, 103, 114, 111, 111, 109, 45, 109, 97, 99]⟩] 9)) 9 [.string ⟨#[99, 104, 97, 99, 104, 97, 50, 48, 45, 112, 111, 108, 121, 49, 51, 48, 53]⟩]
    have e : (((w).alloc (.cells #[.string ⟨#[99, 117, 114, 118, 101, 50, 53, 53, 49, 57, 45, 115, 104, 97, 50, 53, 54]⟩] 9)).alloc (.cells #[.string ⟨#[115, 116, 114, 111, 110, 103, 114, 111, 111, 109, 45, 109, 97, 99]⟩] 9)).heap.size = w.heap.size + 2 := by simp
    rw [e] at this
    exact this
  have h3 : LBox (((((w).alloc (.cells #[.string ⟨#[99, 117, 114, 118, 101, 50, 53, 53, 49, 57, 45, 115, 104, 97, 50, 53, 54]⟩] 9)).alloc (.cells #[.string ⟨#[115, 116, 114, 111, 110, 103, 114, 111, 111, 109, 45, 109, 97, 99]⟩] 9)).alloc (.cells #[.string ⟨#[99, 104, 97, 99, 104, 97, 50, 48, 45, 112, 111, 108, 121, 49, 51, 48, 53]⟩] 9)).alloc (.cells #[.string ⟨#[99, 104, 97, 99, 104, 97, 50, 48, 45, 112, 111, 108, 121, 49, 51, 48, 53]⟩] 9)) (w.heap.size + 3) 9 [.string ⟨#[99, 104, 97, 99, 104, 97, 50, 48, 45, 112, 111, 108, 121, 49, 51, 48, 53]⟩] := by
    have := LBox.new ((((w).alloc (.cells #[.string ⟨#[99, 117, 114, 118, 101, 50, 53, 53, 49, 57, 45, 115, 104, 97, 50, 53, 54]⟩] 9)).alloc (.cells #[.string ⟨#[115, 116, 114, 111, 110, 103, 114, 111, 111, 109, 45, 109, 97, 99]⟩] 9)).alloc (.cells #[.string ⟨#[99, 104, 97, 99, 104, 97, 50, 48, 45, 112, 111, 108, 121, 49, 51, 48, 53]⟩] 9)) 9 [.string ⟨#[99, 104, 97, 99, 104, 97, 50, 48, 45, 112, 111, 108, 121, 49, 51, 48, 53]⟩]
    have e : ((((w).alloc (.cells #[.string ⟨#[99, 117, 114, 118, 101, 50, 53, 53, 49, 57, 45, 115, 104, 97, 50, 53, 54]⟩] 9)).alloc (.cells #[.string ⟨#[115, 116, 114, 111, 110, 103, 114, 111, 111, 109, 45, 109, 97, 99]⟩] 9)).alloc (.cells #[.string ⟨#[99, 104, 97, 99, 104, 97, 50, 48, 45, 112, 111, 108, 121, 49, 51, 48, 53]⟩] 9)).heap.size = w.heap.size + 3 := by simp
    rw [e] at this
    exact this
  have h4 : LBox ((((((w).alloc (.cells #[.string ⟨#[99, 117, 114, 118, 101, 50, 53, 53, 49, 57, 45, 115, 104, 97, 50, 53, 54]⟩] 9)).alloc (.cells #[.string ⟨#[115, 116, 114, 111, 110, 103, 114, 111, 111, 109, 45, 109, 97, 99]⟩] 9)).alloc (.cells #[.string ⟨#[99, 104, 97, 99, 104, 97, 50, 48, 45, 112, 111, 108, 121, 49, 51, 48, 53]⟩] 9)).alloc (.cells #[.string ⟨#[99, 104, 97, 99, 104, 97, 50, 48, 45, 112, 111, 108, 121, 49, 51, 48, 53]⟩] 9)).alloc (.cells #[.string ⟨#[110, 111, 110, 101]⟩] 9)) (w.heap.size + 4) 9 [.string ⟨#[110, 111, 110, 101]⟩] := by
    have := LBox.new (((((w).alloc (.cells #[.string ⟨#[99, 117, 114, 118, 101, 50, 53, 53, 49, 57, 45, 115, 104, 97, 50, 53, 54]⟩] 9)).alloc (.cells #[.string ⟨#[115, 116, 114, 111, 110, 103, 114, 111, 111, 109, 45, 109, 97, 99]⟩] 9)).alloc (.cells #[.string ⟨#[99, 104, 97, 99, 104, 97, 50, 48, 45, 112, 111, 108, 121, 49, 51, 48, 53]⟩] 9)).alloc (.cells #[.string ⟨#[99, 104, 97, 99, 104, 97, 50, 48, 45, 112, 111, 108, 121, 49, 51, 48, 53]⟩] 9)) 9 [.string ⟨#[110, 111, 110, 101]⟩]
    have e : (((((w).alloc (.cells #[.string ⟨#[99, 117, 114, 118, 101, 50, 53, 53, 49, 57, 45, 115, 104, 97, 50, 53, 54]⟩] 9)).alloc (.cells #[.string ⟨#[115, 116, 114, 111, 110, 103, 114, 111, 111, 109, 45, 109, 97, 99]⟩] 9)).alloc (.cells #[.string ⟨#[99, 104, 97, 99, 104, 97, 50, 48, 45, 112, 111, 108, 121, 49, 51, 48, 53]⟩] 9)).alloc (.cells #[.string ⟨#[99, 104, 97, 99, 104, 97, 50, 48, 45, 112, 111, 108, 121, 49, 51, 48, 53]⟩] 9)).heap.size = w.heap.size + 4 := by simp
    rw [e] at this
    exact this
  have h5 : LBox (((((((w).alloc (.cells #[.string ⟨#[99, 117, 114, 118, 101, 50, 53, 53, 49, 57, 45, 115, 104, 97, 50, 53, 54]⟩] 9)).alloc (.cells #[.string ⟨#[115, 116, 114, 111, 110, 103, 114, 111, 111, 109, 45, 109, 97, 99]⟩] 9)).alloc (.cells #[.string ⟨#[99, 104, 97, 99, 104, 97, 50, 48, 45, 112, 111, 108, 121, 49, 51, 48, 53]⟩] 9)).alloc (.cells #[.string ⟨#[99, 104, 97, 99, 104, 97, 50, 48, 45, 112, 111, 108, 121, 49, 51, 48, 53]⟩] 9)).alloc (.cells #[.string ⟨#[110, 111, 110, 101]⟩] 9)).alloc (.cells #[.string ⟨#[110, 111, 110, 101]⟩] 9)) (w.heap.size + 5) 9 [.string ⟨#[110, 111, 110, 101]⟩] := by
    have := LBox.new ((((((w).alloc (.cells #[.string ⟨#[99, 117, 114, 118, 101, 50, 53, 53, 49, 57, 45, 115, 104, 97, 50, 53, 54]⟩] 9)).alloc (.cells #[.string ⟨#[115, 116, 114, 111, 110, 103, 114, 111, 111, 109, 45, 109, 97, 99]⟩] 9)).alloc (.cells #[.string ⟨#[99, 104, 97, 99, 104, 97, 50, 48, 45, 112, 111, 108, 121, 49, 51, 48, 53]⟩] 9)).alloc (.cells #[.string ⟨#[99, 104, 97, 99, 104, 97, 50, 48, 45, 112, 111, 108, 121, 49, 51, 48, 53]⟩] 9)).alloc (.cells #[.string ⟨#[110, 111, 110, 101]⟩] 9)) 9 [.string ⟨#[110, 111, 110, 101]⟩]
    have e : ((((((w).alloc (.cells #[.string ⟨#[99, 117, 114, 118, 101, 50, 53, 53, 49, 57, 45, 115, 104, 97, 50, 53, 54]⟩] 9)).alloc (.cells #[.string ⟨#[115, 116, 114, 111, 110, 103, 114, 111, 111, 109, 45, 109, 97, 99]⟩] 9)).alloc (.cells #[.string ⟨#[99, 104, 97, 99, 104, 97, 50, 48, 45, 112, 111, 108, 121, 49, 51, 48, 53]⟩] 9)).alloc (.cells #[.string ⟨#[99, 104, 97, 99, 104, 97, 50, 48, 45, 112, 111, 108, 121, 49, 51, 48, 53]⟩] 9)).alloc (.cells #[.string ⟨#[110, 111, 110, 101]⟩] 9)).heap.size = w.heap.size + 5 := by simp
    rw [e] at this
    exact this
  have h6 : LBox ((((((((w).alloc (.cells #[.string ⟨#[99, 117, 114, 118, 101, 50, 53, 53, 49, 57, 45, 115, 104, 97, 50, 53, 54]⟩] 9)).alloc (.cells #[.string ⟨#[115, 116, 114, 111, 110, 103, 114, 111, 111, 109, 45, 109, 97, 99]⟩] 9)).alloc (.cells #[.string ⟨#[99, 104, 97, 99, 104, 97, 50, 48, 45, 112, 111, 108, 121, 49, 51, 48, 53]⟩] 9)).alloc (.cells #[.string ⟨#[99, 104, 97, 99, 104, 97, 50, 48, 45, 112, 111, 108, 121, 49, 51, 48, 53]⟩] 9)).alloc (.cells #[.string ⟨#[110, 111, 110, 101]⟩] 9)).alloc (.cells #[.string ⟨#[110, 111, 110, 101]⟩] 9)).alloc (.cells #[.string ⟨#[110, 111, 110, 101]⟩] 9)) (w.heap.size + 6) 9 [.string ⟨#[110, 111, 110, 101]⟩] := by
    have := LBox.new (((((((w).alloc (.cells #[.string ⟨#[99, 117, 114, 118, 101, 50, 53, 53, 49, 57, 45, 115, 104, 97, 50, 53, 54]⟩] 9)).alloc (.cells #[.string ⟨#[115, 116, 114, 111, 110, 103, 114, 111, 111, 109, 45, 109, 97, 99]⟩] 9)).alloc (.cells #[.string ⟨#[99, 104, 97, 99, 104, 97, 50, 48, 45, 112, 111, 108, 121, 49, 51, 48, 53]⟩] 9)).alloc (.cells #[.string ⟨#[99, 104, 97, 99, 104, 97, 50, 48, 45, 112, 111, 108, 121, 49, 51, 48, 53]⟩] 9)).alloc (.cells #[.string ⟨#[110, 111, 110, 101]⟩] 9)).alloc (.cells #[.string ⟨#[110, 111, 110, 101]⟩] 9)) 9 [.string ⟨#[110, 111, 110, 101]⟩]
    have e : (((((((w).alloc (.cells #[.string ⟨#[99, 117, 114, 118, 101, 50, 53, 53, 49, 57, 45, 115, 104, 97, 50, 53, 54]⟩] 9)).alloc (.cells #[.string ⟨#[115, 116, 114, 111, 110, 103, 114, 111, 111, 109, 45, 109, 97, 99]⟩] 9)).alloc (.cells #[.string ⟨#[99, 104, 97, 99, 104, 97, 50, 48, 45, 112, 111, 108, 121, 49, 51, 48, 53]⟩] 9)).alloc (.cells #[.string ⟨#[99, 104, 97, 99, 104, 97, 50, 48, 45, 112, 111, 108, 121, 49, 51, 48, 53]⟩] 9)).alloc (.cells #[.string ⟨#[110, 111, 110, 101]⟩] 9)).alloc (.cells #[.string ⟨#[110, 111, 110, 101]⟩] 9)).heap.size = w.heap.size + 6 := by simp
    rw [e] at this
    exact this
  have h7 : LBox (((((((((w).alloc (.cells #[.string ⟨#[99, 117, 114, 118, 101, 50, 53, 53, 49, 57, 45, 115, 104, 97, 50, 53, 54]⟩] 9)).alloc (.cells #[.string ⟨#[115, 116, 114, 111, 110, 103, 114, 111, 111, 109, 45, 109, 97, 99]⟩] 9)).alloc (.cells #[.string ⟨#[99, 104, 97, 99, 104, 97, 50, 48, 45, 112, 111, 108, 121, 49, 51, 48, 53]⟩] 9)).alloc (.cells #[.string ⟨#[99, 104, 97, 99, 104, 97, 50, 48, 45, 112, 111, 108, 121, 49, 51, 48, 53]⟩] 9)).alloc (.cells #[.string ⟨#[110, 111, 110, 101]⟩] 9)).alloc (.cells #[.string ⟨#[110, 111, 110, 101]⟩] 9)).alloc (.cells #[.string ⟨#[110, 111, 110, 101]⟩] 9)).alloc (.cells #[.string ⟨#[110, 111, 110, 101]⟩] 9)) (w.heap.size + 7) 9 [.string ⟨#[110, 111, 110, 101]⟩] := by
    have := LBox.new ((((((((w).alloc (.cells #[.string ⟨#[99, 117, 114, 118, 101, 50, 53, 53, 49, 57, 45, 115, 104, 97, 50, 53, 54]⟩] 9)).alloc (.cells #[.string ⟨#[115, 116, 114, 111, 110, 103, 114, 111, 111, 109, 45, 109, 97, 99]⟩] 9)).alloc (.cells #[.string ⟨#[99, 104, 97, 99, 104, 97, 50, 48, 45, 112, 111, 108, 121, 49, 51, 48, 53]⟩] 9)).alloc (.cells #[.string ⟨#[99, 104, 97, 99, 104, 97, 50, 48, 45, 112, 111, 108, 121, 49, 51, 48, 53]⟩] 9)).alloc (.cells #[.string ⟨#[110, 111, 110, 101]⟩] 9)).alloc (.cells #[.string ⟨#[110, 111, 110, 101]⟩] 9)).alloc (.cells #[.string ⟨#[110, 111, 110, 101]⟩] 9)) 9 [.string ⟨#[110, 111, 110, 101]⟩]
    have e : ((((((((w).alloc (.cells #[.string ⟨#[99, 117, 114, 118, 101, 50, 53, 53, 49, 57, 45, 115, 104, 97, 50, 53, 54]⟩] 9)).alloc (.cells #[.string ⟨#[115, 116, 114, 111, 110, 103, 114, 111, 111, 109, 45, 109, 97, 99]⟩] 9)).alloc (.cells #[.string ⟨#[99, 104, 97, 99, 104, 97, 50, 48, 45, 112, 111, 108, 121, 49, 51, 48, 53]⟩] 9)).alloc (.cells #[.string ⟨#[99, 104, 97, 99, 104, 97, 50, 48, 45, 112, 111, 108, 121, 49, 51, 48, 53]⟩] 9)).alloc (.cells #[.string ⟨#[110, 111, 110, 101]⟩] 9)).alloc (.cells #[.string ⟨#[110, 111, 110, 101]⟩] 9)).alloc (.cells #[.string ⟨#[110, 111, 110, 101]⟩] 9)).heap.size = w.heap.size + 7 := by simp
    rw [e] at this
    exact this
  have b1 : Below w.heap.size w ((w).alloc (.cells #[.string ⟨#[99, 117, 114, 118, 101, 50, 53, 53, 49, 57, 45, 115, 104, 97, 50, 53, 54]⟩] 9)) := (Below.refl _ w).alloc (Nat.le_refl _) _
  have b2 : Below w.heap.size w (((w).alloc (.cells #[.string ⟨#[99, 117, 114, 118, 101, 50, 53, 53, 49, 57, 45, 115, 104, 97, 50, 53, 54]⟩] 9)).alloc (.cells #[.string ⟨#[115, 116, 114, 111, 110, 103, 114, 111, 111, 109, 45, 109, 97, 99]⟩] 9)) := b1.alloc b1.size _
  have b3 : Below w.heap.size w ((((w).alloc (.cells #[.string ⟨#[99, 117, 114, 118, 101, 50, 53, 53, 49, 57, 45, 115, 104, 97, 50, 53, 54]⟩] 9)).alloc (.cells #[.string ⟨#[115, 116, 114, 111, 110, 103, 114, 111, 111, 109, 45, 109, 97, 99]⟩] 9)).alloc (.cells #[.string ⟨#[99, 104, 97, 99, 104, 97, 50, 48, 45, 112, 111, 108, 121, 49, 51, 48, 53]⟩] 9)) := b2.alloc b2.size _
  have b4 : Below w.heap.size w (((((w).alloc (.cells #[.string ⟨#[99, 117, 114, 118, 101, 50, 53, 53, 49, 57, 45, 115, 104, 97, 50, 53, 54]⟩] 9)).alloc (.cells #[.string ⟨#[115, 116, 114, 111, 110, 103, 114, 111, 111, 109, 45, 109, 97, 99]⟩] 9)).alloc (.cells #[.string ⟨#[99, 104, 97, 99, 104, 97, 50, 48, 45, 112, 111, 108, 121, 49, 51, 48, 53]⟩] 9)).alloc (.cells #[.string ⟨#[99, 104, 97, 99, 104, 97, 50, 48, 45, 112, 111, 108, 121, 49, 51, 48, 53]⟩] 9)) := b3.alloc b3.size _
  have b5 : Below w.heap.size w ((((((w).alloc (.cells #[.string ⟨#[99, 117, 114, 118, 101, 50, 53, 53, 49, 57, 45, 115, 104, 97, 50, 53, 54]⟩] 9)).alloc (.cells #[.string ⟨#[115, 116, 114, 111, 110, 103, 114, 111, 111, 109, 45, 109, 97, 99]⟩] 9)).alloc (.cells #[.string ⟨#[99, 104, 97, 99, 104, 97, 50, 48, 45, 112, 111, 108, 121, 49, 51, 48, 53]⟩] 9)).alloc (.cells #[.string ⟨#[99, 104, 97, 99, 104, 97, 50, 48, 45, 112, 111, 108, 121, 49, 51, 48, 53]⟩] 9)).alloc (.cells #[.string ⟨#[110, 111, 110, 101]⟩] 9)) := b4.alloc b4.size _
  have b6 : Below w.heap.size w (((((((w).alloc (.cells #[.string ⟨#[99, 117, 114, 118, 101, 50, 53, 53, 49, 57, 45, 115, 104, 97, 50, 53, 54]⟩] 9)).alloc (.cells #[.string ⟨#[115, 116, 114, 111, 110, 103, 114, 111, 111, 109, 45, 109, 97, 99]⟩] 9)).alloc (.cells #[.string ⟨#[99, 104, 97, 99, 104, 97, 50, 48, 45, 112, 111, 108, 121, 49, 51, 48, 53]⟩] 9)).alloc (.cells #[.string ⟨#[99, 104, 97, 99, 104, 97, 50, 48, 45, 112, 111, 108, 121, 49, 51, 48, 53]⟩] 9)).alloc (.cells #[.string ⟨#[110, 111, 110, 101]⟩] 9)).alloc (.cells #[.string ⟨#[110, 111, 110, 101]⟩] 9)) := b5.alloc b5.size _
  have b7 : Below w.heap.size w ((((((((w).alloc (.cells #[.string ⟨#[99, 117, 114, 118, 101, 50, 53, 53, 49, 57, 45, 115, 104, 97, 50, 53, 54]⟩] 9)).alloc (.cells #[.string ⟨#[115, 116, 114, 111, 110, 103, 114, 111, 111, 109, 45, 109, 97, 99]⟩] 9)).alloc (.cells #[.string ⟨#[99, 104, 97, 99, 104, 97, 50, 48, 45, 112, 111, 108, 121, 49, 51, 48, 53]⟩] 9)).alloc (.cells #[.string ⟨#[99, 104, 97, 99, 104, 97, 50, 48, 45, 112, 111, 108, 121, 49, 51, 48, 53]⟩] 9)).alloc (.cells #[.string ⟨#[110, 111, 110, 101]⟩] 9)).alloc (.cells #[.string ⟨#[110, 111, 110, 101]⟩] 9)).alloc (.cells #[.string ⟨#[110, 111, 110, 101]⟩] 9)) := b6.alloc b6.size _
  have b8 : Below w.heap.size w (((((((((w).alloc (.cells #[.string ⟨#[99, 117, 114, 118, 101, 50, 53, 53, 49, 57, 45, 115, 104, 97, 50, 53, 54]⟩] 9)).alloc (.cells #[.string ⟨#[115, 116, 114, 111, 110, 103, 114, 111, 111, 109, 45, 109, 97, 99]⟩] 9)).alloc (.cells #[.string ⟨#[99, 104, 97, 99, 104, 97, 50, 48, 45, 112, 111, 108, 121, 49, 51, 48, 53]⟩] 9)).alloc (.cells #[.string ⟨#[99, 104, 97, 99, 104, 97, 50, 48, 45, 112, 111, 108, 121, 49, 51, 48, 53]⟩] 9)).alloc (.cells #[.string ⟨#[110, 111, 110, 101]⟩] 9)).alloc (.cells #[.string ⟨#[110, 111, 110, 101]⟩] 9)).alloc (.cells #[.string ⟨#[110, 111, 110, 101]⟩] 9)).alloc (.cells #[.string ⟨#[110, 111, 110, 101]⟩] 9)) := b7.alloc b7.size _
  refine ⟨⟨(((((((h0.alloc _).alloc _).alloc _).alloc _).alloc _).alloc _).alloc _), ((((((h1.alloc _).alloc _).alloc _).alloc _).alloc _).alloc _), (((((h2.alloc _).alloc _).alloc _).alloc _).alloc _), ((((h3.alloc _).alloc _).alloc _).alloc _), (((h4.alloc _).alloc _).alloc _), ((h5.alloc _).alloc _), (h6.alloc _), h7⟩, b8, by simp [eight]⟩
theorem ssl_box {W : World} {B : Nat} {s : ByteArray} (h : LBox W B 9 [.string s]) : SSl W (.slice (some ⟨B, 0, none⟩) 1 1) [s] := by
  refine ⟨_, _, rfl, Nat.le_refl _, by unfold maxLen; omega, (fun e => by cases e), fun ad e _ => ⟨B, 0, by cases e; rfl, fun j u hu => ?_⟩⟩
  match j, hu with
  | 0, hu => cases hu; exact h.cell rfl
theorem eight_rd (w : World) {V : World} (hV : ∀ k, w.heap.size ≤ k → k < w.heap.size + 8 → V.heap[k]? = (eight w).heap[k]?) : ∀ i, i < 10 → SSl V ((eightN w.heap.size).getD i undef) (oursL.getD i []) := by
  obtain ⟨⟨h0, h1, h2, h3, h4, h5, h6, h7⟩, _, _⟩ := eight_all w
  have keep : ∀ (k : Nat) (s : ByteArray), k < 8 → LBox (eight w) (w.heap.size + k) 9 [.string s] → LBox V (w.heap.size + k) 9 [.string s] := fun k s hk h => (hV _ (by omega) (by omega)).trans h
  intro i hi
  match i, hi with
  | 0, _ => exact ssl_box (keep 0 _ (by omega) h0)
  | 1, _ => exact ssl_box (keep 1 _ (by omega) h1)
  | 2, _ => exact ssl_box (keep 2 _ (by omega) h2)
  | 3, _ => exact ssl_box (keep 3 _ (by omega) h3)
  | 4, _ => exact ssl_box (keep 4 _ (by omega) h4)
  | 5, _ => exact ssl_box (keep 5 _ (by omega) h5)
  | 6, _ => exact ssl_box (keep 6 _ (by omega) h6)
  | 7, _ => exact ssl_box (keep 7 _ (by omega) h7)
  | 8, _ => exact ssl_none V
  | 9, _ => exact ssl_none V
theorem eightN_own (b : Nat) : ∀ i, i < 10 → ∀ k, ((eightN b).getD i undef).ownBlock = some k → b ≤ k := by
  intro i hi k e
  match i, hi, e with
  | 0, _, e => cases e; exact Nat.le_refl b
  | 1, _, e => cases e; exact Nat.le_add_right b 1
  | 2, _, e => cases e; exact Nat.le_add_right b 2
  | 3, _, e => cases e; exact Nat.le_add_right b 3
  | 4, _, e => cases e; exact Nat.le_add_right b 4
  | 5, _, e => cases e; exact Nat.le_add_right b 5
  | 6, _, e => cases e; exact Nat.le_add_right b 6
  | 7, _, e => cases e; exact Nat.le_add_right b 7
  | 8, _, e => cases e
  | 9, _, e => cases e

/-- What an Ours answers. -/
def OursPost (bs : List UInt8) (w : World) (e : Ending) (w' : World) : Prop :=
  ∃ ck nm, e = .returned (.agg (lcells ck nm false).toArray) ∧ LRd w' ck nm bs oursL ∧ Below w.heap.size w w'

set_option maxHeartbeats 1600000 in
set_option maxRecDepth 100000 in
theorem ours_c (v : Value) (bs : List UInt8) (w : World) (hv : BSl w v bs) (hl : bs.length ≤ 140737488355328) :
    Calls Try.prog 15 #[v] w fun e w' => OursPost bs w e w' := by
  have hx0 := LBox.new w 38 [.slice none 0 0, .slice none 0 0, .slice none 0 0, .slice none 0 0, .slice none 0 0, .slice none 0 0, .slice none 0 0, .slice none 0 0, .slice none 0 0, .slice none 0 0, .slice none 0 0, .bool false]
  have hbx : Below w.heap.size w (w.alloc (.cells #[.slice none 0 0, .slice none 0 0, .slice none 0 0, .slice none 0 0, .slice none 0 0, .slice none 0 0, .slice none 0 0, .slice none 0 0, .slice none 0 0, .slice none 0 0, .slice none 0 0, .bool false] 38)) := (Below.refl _ w).alloc (Nat.le_refl _) _
  change LBox _ _ _ noL at hx0
  obtain ⟨Q, hQ⟩ : ∃ Q : Ending → World → Prop, Q = OursPost bs w := ⟨_, rfl⟩
  rw [show (fun e w' => OursPost bs w e w') = Q from hQ.symm]
  have HQ := hidden hQ
  clear hQ
  go_enter Try.func15, Try.ntmps15
  go_wp2_with fail
  generalize w.alloc (.cells #[.slice none 0 0, .slice none 0 0, .slice none 0 0, .slice none 0 0, .slice none 0 0, .slice none 0 0, .slice none 0 0, .slice none 0 0, .slice none 0 0, .slice none 0 0, .slice none 0 0, .bool false] 38) = W1 at hx0 hbx ⊢
  refine (clone_c _ bs _ (hv.fresh hbx) hl).mono ?_
  rintro e w2 ⟨v2, rfl, ho2, hb2⟩
  obtain ⟨a2, c2, rfl⟩ := ownsRow_shape ho2
  have hx2 := hx0.fresh hb2
  have hbw := hbx.trans (hb2.mono hbx.size)
  obtain ⟨hall, he, hez⟩ := eight_all w2
  have hxe : LBox (eight w2) w.heap.size 38 noL := hx2.fresh he
  have hbe : Below w.heap.size w (eight w2) := hbw.trans (he.mono hbw.size)
  have hck : BSl (eight w2) (.slice a2 bs.length c2) bs := (BSl.ofRow ho2).fresh he
  have hol : ∀ k, (Value.slice a2 bs.length c2).ownBlock = some k → W1.heap.size ≤ k := fun k e => (ho2.lt k e).1
  have hlt1 := hx0.lt
  have hlt2 := hx2.lt
  have hone : (lcells (.slice a2 bs.length c2) (eightN w2.heap.size) false).toArray.all (·.oneCell') = true := (show LRd (eight w2) (.slice a2 bs.length c2) (eightN w2.heap.size) bs oursL from ⟨hck, rfl, rfl, eight_rd w2 (fun _ _ _ => rfl)⟩).one
  have HXE := hidden hxe
  have HBE := hidden hbe
  have HCK := hidden hck
  have HOL := hidden hol
  have HON := hidden hone
  have HZZ : Hid (noL.toArray.size = (lcells (.slice a2 bs.length c2) (eightN w2.heap.size) false).toArray.size) := rfl
  have HSZ : Hid ((Try.prog.info? 38).map (·.size) = some (lcells (.slice a2 bs.length c2) (eightN w2.heap.size) false).toArray.size) := sizeL
  clear hall he hez hxe hbe hck hol hone ho2 hb2 hx2 hbw hx0 hbx hv
  go_wp2_with (refine wpList_store_row rfl 38 (.tmp 2) (.tmp 14) rfl w.heap.size (lcells (.slice a2 bs.length c2) (eightN w2.heap.size) false).toArray rfl rfl 38 _ HXE.out HSZ.out HZZ.out HON.out ?_)
  refine bodyPost_ret (results_agg1 rfl _ _ _ w.heap.size (lcells (.slice a2 bs.length c2) (eightN w2.heap.size) false).toArray 38 (0, 0) rfl (HXE.out.row _) Try.underlying38 HSZ.out) rfl ?_
  rw [HQ.out]
  refine ⟨_, _, rfl, ⟨HCK.out.keep (keeps_row _ w.heap.size _) (fun k e e2 => by have := HOL.out k e; omega), rfl, rfl, eight_rd w2 (fun k h1 h2 => setRow_other _ _ _ _ (by omega))⟩, below_setRow HBE.out (Nat.le_refl _) _⟩

theorem oursL_len : oursL.length = 10 := rfl
set_option maxHeartbeats 3200000 in
set_option maxRecDepth 100000 in
theorem rours_c (v : Value) (bs : List UInt8) (w : World) (hv : BSl w v bs) (hl : bs.length ≤ 1000000) :
    Calls Try.prog 17 #[v] w fun e w' => OursPost bs w e w' := by
  obtain ⟨i0, hi, hz0, hz1, hz2⟩ := info_parts Try.infoU8
  have hx0 := LBox.new w 43 [.slice none 0 0, .slice none 0 0, .slice none 0 0, .slice none 0 0, .slice none 0 0, .slice none 0 0, .slice none 0 0, .slice none 0 0, .slice none 0 0, .slice none 0 0, .slice none 0 0, .bool false]
  have hbx : Below w.heap.size w (w.alloc (.cells #[.slice none 0 0, .slice none 0 0, .slice none 0 0, .slice none 0 0, .slice none 0 0, .slice none 0 0, .slice none 0 0, .slice none 0 0, .slice none 0 0, .slice none 0 0, .slice none 0 0, .bool false] 43)) := (Below.refl _ w).alloc (Nat.le_refl _) _
  change LBox _ _ _ noL at hx0
  obtain ⟨Q, hQ⟩ : ∃ Q : Ending → World → Prop, Q = OursPost bs w := ⟨_, rfl⟩
  rw [show (fun e w' => OursPost bs w e w') = Q from hQ.symm]
  have HQ := hidden hQ
  clear hQ
  go_enter Try.func17, Try.ntmps17
  go_upto_region 1 with fail
  generalize w.alloc (.cells #[.slice none 0 0, .slice none 0 0, .slice none 0 0, .slice none 0 0, .slice none 0 0, .slice none 0 0, .slice none 0 0, .slice none 0 0, .slice none 0 0, .slice none 0 0, .slice none 0 0, .bool false] 43) = W1 at hx0 hbx ⊢
  have hbs1 := (hv.fresh hbx).alloc (.cells #[] 5)
  go_wp2_with (at_builtin; refine wpList_append_src _ rfl (.tmp 6) (.tmp 7) 22 22 rfl W1.heap.size 5 i0 _ 1 Try.underlying22 hi hz0 hz1 hz2 rfl _ 0 [] rfl (own_empty W1) _ bs.length (bcells bs) rfl hbs1.src (by unfold maxLen; omega) (by omega) (by simp) (W1.heap.size + 1) (by simp) ?_)
  intro v2 w2 hown2 hgrow2 hnil2 hat2
  have hb2 : Below W1.heap.size W1 w2 := ((Below.refl _ W1).alloc (Nat.le_refl _) _).grown hgrow2 (by simp) (fun g hg => by simp [Value.ownBlock] at hg; omega)
  obtain ⟨a2, c2, rfl⟩ := ownsRow_shape hown2
  have hbs2 : BSl w2 (.slice a2 bs.length c2) bs := BSl.ofRow hown2
  have hol : ∀ k, (Value.slice a2 bs.length c2).ownBlock = some k → W1.heap.size ≤ k := fun k e => (hown2.lt k e).1
  have hlt1 := hx0.lt
  have hx2 := hx0.fresh hb2
  have hbw := hbx.trans (hb2.mono hbx.size)
  obtain ⟨b3, hb3⟩ : ∃ b3, b3 = w2.heap.size := ⟨_, rfl⟩
  have hs2 : w.heap.size < b3 := by rw [hb3]; exact hx2.lt
  have hoz : ∀ k, (Value.slice a2 bs.length c2).ownBlock = some k → k < b3 := fun k e => by rw [hb3]; exact (hown2.lt k e).2
  have hzn := LBox.new w2 43 [.slice none 0 0, .slice none 0 0, .slice none 0 0, .slice none 0 0, .slice none 0 0, .slice none 0 0, .slice none 0 0, .slice none 0 0, .slice none 0 0, .slice none 0 0, .slice none 0 0, .bool false]
  change LBox _ _ _ noL at hzn
  rw [← hb3] at hzn
  have hz0 : LBox ((w2.alloc (.cells #[.slice none 0 0, .slice none 0 0, .slice none 0 0, .slice none 0 0, .slice none 0 0, .slice none 0 0, .slice none 0 0, .slice none 0 0, .slice none 0 0, .slice none 0 0, .slice none 0 0, .bool false] 43)).setRow b3 (lcells (.slice a2 bs.length c2) (List.replicate 10 (.slice none 0 0)) false).toArray) b3 43 (lcells (.slice a2 bs.length c2) (List.replicate 10 (.slice none 0 0)) false) := hzn.row _
  have hxz : LBox ((w2.alloc (.cells #[.slice none 0 0, .slice none 0 0, .slice none 0 0, .slice none 0 0, .slice none 0 0, .slice none 0 0, .slice none 0 0, .slice none 0 0, .slice none 0 0, .slice none 0 0, .slice none 0 0, .bool false] 43)).setRow b3 (lcells (.slice a2 bs.length c2) (List.replicate 10 (.slice none 0 0)) false).toArray) w.heap.size 43 noL := (hx2.alloc _).keep (keeps_row _ b3 _) (by omega)
  have hbz : Below w.heap.size w ((w2.alloc (.cells #[.slice none 0 0, .slice none 0 0, .slice none 0 0, .slice none 0 0, .slice none 0 0, .slice none 0 0, .slice none 0 0, .slice none 0 0, .slice none 0 0, .slice none 0 0, .slice none 0 0, .bool false] 43)).setRow b3 (lcells (.slice a2 bs.length c2) (List.replicate 10 (.slice none 0 0)) false).toArray) := below_setRow (hbw.alloc hbw.size _) (by omega) _
  have hbsz : BSl ((w2.alloc (.cells #[.slice none 0 0, .slice none 0 0, .slice none 0 0, .slice none 0 0, .slice none 0 0, .slice none 0 0, .slice none 0 0, .slice none 0 0, .slice none 0 0, .slice none 0 0, .slice none 0 0, .bool false] 43)).setRow b3 (lcells (.slice a2 bs.length c2) (List.replicate 10 (.slice none 0 0)) false).toArray) (.slice a2 bs.length c2) bs := (hbs2.alloc _).keep (keeps_row _ b3 _) (fun k e e2 => by have := hoz k e; omega)
  have hszz : b3 < ((w2.alloc (.cells #[.slice none 0 0, .slice none 0 0, .slice none 0 0, .slice none 0 0, .slice none 0 0, .slice none 0 0, .slice none 0 0, .slice none 0 0, .slice none 0 0, .slice none 0 0, .slice none 0 0, .bool false] 43)).setRow b3 (lcells (.slice a2 bs.length c2) (List.replicate 10 (.slice none 0 0)) false).toArray).heap.size := by rw [hb3]; simp
  have HZN := hidden hzn
  have HON0 : Hid ((lcells (.slice a2 bs.length c2) (List.replicate 10 (.slice none 0 0)) false).toArray.all (·.oneCell') = true) := (show LRd w2 (.slice a2 bs.length c2) (List.replicate 10 (.slice none 0 0)) bs (List.replicate 10 []) from ⟨hbs2, rfl, rfl, (lrd_none w2).nm⟩).one
  have HS0 : Hid ((Try.prog.info? 43).map (·.size) = some (lcells (.slice a2 bs.length c2) (List.replicate 10 (.slice none 0 0)) false).toArray.size) := sizeR
  have HOZ := hidden hoz
  have HOL := hidden hol
  clear hown2 hgrow2 hnil2 hat2 hb2 hbs2 hbs1 hx2 hbw hzn hx0 hbx hv hol hoz
  rw [hb3] at HZN
  go_upto_region 2 with (refine wpList_store_row rfl 43 (.tmp 3) (.tmp 9) rfl w2.heap.size (lcells (.slice a2 bs.length c2) (List.replicate 10 (.slice none 0 0)) false).toArray rfl rfl 43 _ HZN.out HS0.out rfl HON0.out ?_)
  rw [← hb3]
  generalize (w2.alloc (.cells #[.slice none 0 0, .slice none 0 0, .slice none 0 0, .slice none 0 0, .slice none 0 0, .slice none 0 0, .slice none 0 0, .slice none 0 0, .slice none 0 0, .slice none 0 0, .slice none 0 0, .bool false] 43)).setRow b3 (lcells (.slice a2 bs.length c2) (List.replicate 10 (.slice none 0 0)) false).toArray = W3 at hz0 hxz hbz hbsz hszz ⊢
  have HZ0 := hidden hz0
  have HXZ := hidden hxz
  have HBZ := hidden hbz
  have HBS := hidden hbsz
  clear hz0 hxz hbz hbsz HZN HON0 HS0 hb3
  go_wp2_with fail
  go_loopw [4] (fun i wr => ∃ (k : Nat) (nm : List Value), k ≤ 8 ∧ i = .int .i64 k ∧ LBox wr b3 43 (lcells (.slice a2 bs.length c2) nm false) ∧ LBox wr w.heap.size 43 noL ∧ Fill wr (b3 + 1) nm (fun j => oursL.getD j []) k ∧ (∀ j, k ≤ j → j < 10 → nm.getD j undef = .slice none 0 0) ∧ BSl wr (.slice a2 bs.length c2) bs ∧ Below w.heap.size w wr) (fun i _ => 8 - (intOf i).toNat)
  case atStart => exact ⟨0, List.replicate 10 (.slice none 0 0), by omega, rfl, HZ0.out, HXZ.out, Fill.zero rfl, (fun j _ hj => ten_getD _ _ hj), HBS.out, HBZ.out⟩
  case round =>
    clear HZ0 HXZ HBZ HBS
    obtain ⟨k, nm, hk, rfl, hx1, hx0, hfl, hrs, hbs, hb⟩ := hrel
    have HX1 := hidden hx1
    have HX0 := hidden hx0
    have HFL := hidden hfl
    have HRS := hidden hrs
    have HBS := hidden hbs
    have HB := hidden hb
    have hsr := hx1.lt
    clear hx1 hx0 hfl hrs hbs hb
    by_cases hlt : k < 8
    · have NEXT : Hid (∀ s : ByteArray, oursL.getD k [] = [s] → ∃ nm2 : List Value, LBox ((wr.setCell ⟨b3, 1 + k, none⟩ (.slice (some ⟨wr.heap.size, 0, none⟩) 1 1)).alloc (.cells #[.string s] 9)) b3 43 (lcells (.slice a2 bs.length c2) nm2 false) ∧ LBox ((wr.setCell ⟨b3, 1 + k, none⟩ (.slice (some ⟨wr.heap.size, 0, none⟩) 1 1)).alloc (.cells #[.string s] 9)) w.heap.size 43 noL ∧ Fill ((wr.setCell ⟨b3, 1 + k, none⟩ (.slice (some ⟨wr.heap.size, 0, none⟩) 1 1)).alloc (.cells #[.string s] 9)) (b3 + 1) nm2 (fun j => oursL.getD j []) (k + 1) ∧ (∀ j, k + 1 ≤ j → j < 10 → nm2.getD j undef = .slice none 0 0) ∧ BSl ((wr.setCell ⟨b3, 1 + k, none⟩ (.slice (some ⟨wr.heap.size, 0, none⟩) 1 1)).alloc (.cells #[.string s] 9)) (.slice a2 bs.length c2) bs ∧ Below w.heap.size w ((wr.setCell ⟨b3, 1 + k, none⟩ (.slice (some ⟨wr.heap.size, 0, none⟩) 1 1)).alloc (.cells #[.string s] 9))) := by
        intro s hs
        have hset := keeps_set wr b3 (1 + k) (.slice (some ⟨wr.heap.size, 0, none⟩) 1 1)
        have hsz : (wr.setCell ⟨b3, 1 + k, none⟩ (.slice (some ⟨wr.heap.size, 0, none⟩) 1 1)).heap.size = wr.heap.size := by simp
        have hbs := HB.out.setCell (p := ⟨b3, 1 + k, none⟩) (by show _ ≤ b3; omega) (.slice (some ⟨wr.heap.size, 0, none⟩) 1 1)
        refine ⟨nm.set k (.slice (some ⟨wr.heap.size, 0, none⟩) 1 1), ?_, (HX0.out.other (by omega) _ _).alloc _, ?_, fun j h1 h2 => ?_, (HBS.out.keep hset (fun q e e2 => by have := HOZ.out q e; omega)).alloc _, hbs.alloc hbs.size _⟩
        · have := (HX1.out.set (1 + k) (.slice (some ⟨wr.heap.size, 0, none⟩) 1 1)).alloc (.cells #[.string s] 9)
          rwa [lcells_set HFL.out.nl (by omega)] at this
        · have h1 := (HFL.out.keep hset (fun q e => by omega)).keep (S := fun _ => False) ((Keeps.refl _ _).alloc (.cells #[.string s] 9)) (fun _ e => e.elim)
          have hwo : ∀ q, (Value.slice (some ⟨wr.heap.size, 0, none⟩) 1 1).ownBlock = some q → b3 + 1 ≤ q := by
            intro q e
            have h3 : wr.heap.size = q := by simpa [Value.ownBlock] using e
            omega
          have hnb := LBox.new (wr.setCell ⟨b3, 1 + k, none⟩ (.slice (some ⟨wr.heap.size, 0, none⟩) 1 1)) 9 [.string s]
          rw [hsz] at hnb
          exact h1.next (show k < 10 by omega) (v := .slice (some ⟨wr.heap.size, 0, none⟩) 1 1) (by show SSl _ _ (oursL.getD k []); rw [hs]; exact ssl_box hnb) hwo
        · rw [getD_set_ne (by omega)]
          exact HRS.out j (by omega) h2
      have hcl0 := HX1.out.cell (lcells_at HFL.out.nl (show k < 10 by omega))
      have hfr0 := HX1.out.free
      have CL : Hid (∀ o, (wr.alloc o).cell? ⟨b3, 1 + k, none⟩ = some (nm.getD k undef) ∧ ∀ j, (wr.alloc o).frozen? ⟨b3, j, none⟩ = false) := fun o => ⟨(HX1.out.alloc o).cell (lcells_at HFL.out.nl (show k < 10 by omega)), (HX1.out.alloc o).free⟩
      generalize nm.getD k undef = u0 at CL
      clear hcl0 hfr0
      have hik : (k : Int) < 8 := by omega
      have hk8 : k = 0 ∨ k = 1 ∨ k = 2 ∨ k = 3 ∨ k = 4 ∨ k = 5 ∨ k = 6 ∨ k = 7 := by omega
      rcases hk8 with rfl | rfl | rfl | rfl | rfl | rfl | rfl | rfl
      · obtain ⟨f1, f2⟩ := CL.out (.cells #[.string ⟨#[99, 117, 114, 118, 101, 50, 53, 53, 49, 57, 45, 115, 104, 97, 50, 53, 54]⟩] 9)
        obtain ⟨nm2, n1, n2, n3, n4, n5, n6⟩ := NEXT.out ⟨#[99, 117, 114, 118, 101, 50, 53, 53, 49, 57, 45, 115, 104, 97, 50, 53, 54]⟩ rfl
        have HN := hidden (show _ ∧ _ ∧ _ ∧ _ ∧ _ ∧ _ from ⟨n1, n2, n3, n4, n5, n6⟩)
        clear n1 n2 n3 n4 n5 n6 NEXT CL
        go_wp2
        go_roundw
        case rel => exact ⟨1, nm2, by omega, by go_num, HN.out⟩
        case measure => simp [intOf]
      · obtain ⟨f1, f2⟩ := CL.out (.cells #[.string ⟨#[115, 116, 114, 111, 110, 103, 114, 111, 111, 109, 45, 109, 97, 99]⟩] 9)
        obtain ⟨nm2, n1, n2, n3, n4, n5, n6⟩ := NEXT.out ⟨#[115, 116, 114, 111, 110, 103, 114, 111, 111, 109, 45, 109, 97, 99]⟩ rfl
        have HN := hidden (show _ ∧ _ ∧ _ ∧ _ ∧ _ ∧ _ from ⟨n1, n2, n3, n4, n5, n6⟩)
        clear n1 n2 n3 n4 n5 n6 NEXT CL
        go_wp2
        go_roundw
        case rel => exact ⟨2, nm2, by omega, by go_num, HN.out⟩
        case measure => simp [intOf]
      · obtain ⟨f1, f2⟩ := CL.out (.cells #[.string ⟨#[99, 104, 97, 99, 104, 97, 50, 48, 45, 112, 111, 108, 121, 49, 51, 48, 53]⟩] 9)
        obtain ⟨nm2, n1, n2, n3, n4, n5, n6⟩ := NEXT.out ⟨#[99, 104, 97, 99, 104, 97, 50, 48, 45, 112, 111, 108, 121, 49, 51, 48, 53]⟩ rfl
        have HN := hidden (show _ ∧ _ ∧ _ ∧ _ ∧ _ ∧ _ from ⟨n1, n2, n3, n4, n5, n6⟩)
        clear n1 n2 n3 n4 n5 n6 NEXT CL
        go_wp2
        go_roundw
        case rel => exact ⟨3, nm2, by omega, by go_num, HN.out⟩
        case measure => simp [intOf]
      · obtain ⟨f1, f2⟩ := CL.out (.cells #[.string ⟨#[99, 104, 97, 99, 104, 97, 50, 48, 45, 112, 111, 108, 121, 49, 51, 48, 53]⟩] 9)
        obtain ⟨nm2, n1, n2, n3, n4, n5, n6⟩ := NEXT.out ⟨#[99, 104, 97, 99, 104, 97, 50, 48, 45, 112, 111, 108, 121, 49, 51, 48, 53]⟩ rfl
        have HN := hidden (show _ ∧ _ ∧ _ ∧ _ ∧ _ ∧ _ from ⟨n1, n2, n3, n4, n5, n6⟩)
        clear n1 n2 n3 n4 n5 n6 NEXT CL
        go_wp2
        go_roundw
        case rel => exact ⟨4, nm2, by omega, by go_num, HN.out⟩
        case measure => simp [intOf]
      · obtain ⟨f1, f2⟩ := CL.out (.cells #[.string ⟨#[110, 111, 110, 101]⟩] 9)
        obtain ⟨nm2, n1, n2, n3, n4, n5, n6⟩ := NEXT.out ⟨#[110, 111, 110, 101]⟩ rfl
        have HN := hidden (show _ ∧ _ ∧ _ ∧ _ ∧ _ ∧ _ from ⟨n1, n2, n3, n4, n5, n6⟩)
        clear n1 n2 n3 n4 n5 n6 NEXT CL
        go_wp2
        go_roundw
        case rel => exact ⟨5, nm2, by omega, by go_num, HN.out⟩
        case measure => simp [intOf]
      · obtain ⟨f1, f2⟩ := CL.out (.cells #[.string ⟨#[110, 111, 110, 101]⟩] 9)
        obtain ⟨nm2, n1, n2, n3, n4, n5, n6⟩ := NEXT.out ⟨#[110, 111, 110, 101]⟩ rfl
        have HN := hidden (show _ ∧ _ ∧ _ ∧ _ ∧ _ ∧ _ from ⟨n1, n2, n3, n4, n5, n6⟩)
        clear n1 n2 n3 n4 n5 n6 NEXT CL
        go_wp2
        go_roundw
        case rel => exact ⟨6, nm2, by omega, by go_num, HN.out⟩
        case measure => simp [intOf]
      · obtain ⟨f1, f2⟩ := CL.out (.cells #[.string ⟨#[110, 111, 110, 101]⟩] 9)
        obtain ⟨nm2, n1, n2, n3, n4, n5, n6⟩ := NEXT.out ⟨#[110, 111, 110, 101]⟩ rfl
        have HN := hidden (show _ ∧ _ ∧ _ ∧ _ ∧ _ ∧ _ from ⟨n1, n2, n3, n4, n5, n6⟩)
        clear n1 n2 n3 n4 n5 n6 NEXT CL
        go_wp2
        go_roundw
        case rel => exact ⟨7, nm2, by omega, by go_num, HN.out⟩
        case measure => simp [intOf]
      · obtain ⟨f1, f2⟩ := CL.out (.cells #[.string ⟨#[110, 111, 110, 101]⟩] 9)
        obtain ⟨nm2, n1, n2, n3, n4, n5, n6⟩ := NEXT.out ⟨#[110, 111, 110, 101]⟩ rfl
        have HN := hidden (show _ ∧ _ ∧ _ ∧ _ ∧ _ ∧ _ from ⟨n1, n2, n3, n4, n5, n6⟩)
        clear n1 n2 n3 n4 n5 n6 NEXT CL
        go_wp2
        go_roundw
        case rel => exact ⟨8, nm2, by omega, by go_num, HN.out⟩
        case measure => simp [intOf]
    · have hik : ¬ (k : Int) < 8 := by omega
      obtain rfl : k = 8 := by omega
      have hrd : LRd wr (.slice a2 bs.length c2) nm bs oursL := by
        refine ⟨HBS.out, HFL.out.nl, rfl, fun i hi => ?_⟩
        by_cases h8 : i < 8
        · exact (HFL.out.done i h8).1
        · rw [HRS.out i (by omega) hi]
          have : oursL.getD i [] = [] := by
            have : i = 8 ∨ i = 9 := by omega
            rcases this with rfl | rfl <;> rfl
          rw [this]
          exact ssl_none wr
      have HRD := hidden hrd
      have hone := hrd.one (fo := false)
      have hln := lcells_len (ck := .slice a2 bs.length c2) (fo := false) hrd.nl
      clear hrd
      generalize hCC : lcells (.slice a2 bs.length c2) nm false = CC at HX1 hone hln
      have HCC := hidden hCC
      clear hCC
      have HSL : Hid ((Try.prog.info? 43).map (·.size) = some CC.toArray.size) := by show _ = _; rw [sizeR]; simp [hln]
      have HZZ : Hid ((noL.toArray).size = CC.toArray.size) := by show _ = _; rw [List.size_toArray, List.size_toArray, hln]; rfl
      have HON := hidden hone
      clear hone hln
      go_wp2_with (first
        | (refine wpList_loadAgg rfl 43 (.tmp 3) rfl b3 CC.toArray 43 (0, 0) rfl HX1.out Try.underlying43 HSL.out ?_)
        | (refine wpList_store_row rfl 43 (.tmp 2) (.tmp 27) rfl w.heap.size CC.toArray rfl rfl 43 _ HX0.out HSL.out HZZ.out HON.out ?_))
      refine bodyPost_ret (results_agg1 rfl _ _ _ w.heap.size CC.toArray 43 (0, 0) rfl (HX0.out.row CC) Try.underlying43 HSL.out) rfl ?_
      rw [HQ.out]
      refine ⟨_, nm, by rw [HCC.out], HRD.out.keep (keeps_row wr w.heap.size CC.toArray) (fun q e e2 => by have := HOL.out q e; omega) (fun i hi q e e2 => ?_), below_setRow HB.out (Nat.le_refl _) _⟩
      by_cases h8 : i < 8
      · have := (HFL.out.done i h8).2 q e; omega
      · rw [HRS.out i (by omega) hi] at e
        cases e
end Go.Proofs.Ytnnhffjajbiicaa
