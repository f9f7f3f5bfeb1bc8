/- What the sum is made of: appendPart, appendLength and summed. -/
import Derived.Test.YthkaibkmpenclaaDoorAeP
namespace Go.Proofs.YthkaibkmpenclaaDoor
open Go Go.RowKit

/-- A row of bytes of one's own, made since w0; what was there stays. -/
def Grew (w0 : World) (xs : List UInt8) (e : Ending) (w' : World) : Prop :=
  ∃ v, e = .returned v ∧ w'.ownsRow w0.heap.size 5 1 v xs.length (bcells xs) ∧ Below w0.heap.size w0 w'

set_option maxHeartbeats 800000 in
set_option maxRecDepth 100000 in
theorem appendPart_c (w0 : World) (v1 v2 : Value) (T part : List UInt8) (w : World) (hT : T.length ≤ 100000) (hP : part.length ≤ 100000) (h2 : BSl w0 v2 part) (hb0 : Below w0.heap.size w0 w)
    (h1 : w.ownsRow w0.heap.size 5 1 v1 T.length (bcells T)) :
    Calls Tryd.prog 80 #[v1, v2] w fun e w' => Grew w0 (padL (T ++ part)) e w' := by
  obtain ⟨i0, hi, hz0, hz1, hz2⟩ := info_parts Tryd.infoU8
  have H1 := hidden h1
  have H2 := hidden h2
  have HB0 := hidden hb0
  obtain ⟨a2, c2, rfl, k2, m2, _⟩ := h2
  unfold maxLen at m2
  obtain ⟨n, hn⟩ : ∃ n, n = part.length := ⟨_, rfl⟩
  have HN := hidden hn
  rw [← hn] at hP k2 H2 ⊢
  clear h1 hn hb0
  go_enter Tryd.func80, Tryd.ntmps80
  go_wp2_with fail
  go_loopw [0, 9] (fun b i wr => ∃ k : Nat, k ≤ n ∧ i = .int .i64 (k : Int) ∧ wr.ownsRow w0.heap.size 5 1 b (T ++ part.take k).length (bcells (T ++ part.take k)) ∧ Below w0.heap.size w0 wr) (fun _ i _ => n - (intOf i).toNat)
  case atStart => exact ⟨0, by omega, rfl, by rw [List.take_zero, List.append_nil]; exact H1.out, HB0.out⟩
  case round =>
    clear H1 HB0
    obtain ⟨k, hk, rfl, ho, hb⟩ := hrel
    have HO := hidden ho
    have HB := hidden hb
    obtain ⟨ao, cp, rfl⟩ := ownsRow_shape ho
    have hsz : w0.heap.size ≤ wr.heap.size := hb.size
    by_cases hlt : k < n
    · have hlt' : (k : Int) < (n : Int) := by omega
      have hv := H2.out.fresh hb
      have hne : part ≠ [] := by intro e; have := HN.out; rw [e] at this; simp at this; omega
      obtain ⟨b2, o2, rfl⟩ := hv.addr hne
      have hcell := hv.cellD k (by have := HN.out; omega)
      have hlen : (T ++ part.take k).length = T.length + k := by have := HN.out; simp; omega
      have hlen1 : (T ++ part.take (k + 1)).length = T.length + k + 1 := by have := HN.out; simp; omega
      have htk : part.take (k + 1) = part.take k ++ [part.getD k 0] := by
        have hkl : k < part.length := by have := HN.out; omega
        rw [List.take_add_one, List.getElem?_eq_getElem hkl]
        simp [hkl]
      have HE : Hid (bcells (T ++ part.take k) ++ [.int .u8 ((part.getD k 0).toNat : Int)] = bcells (T ++ part.take (k + 1))) := by
        show _ = _
        rw [htk, ← List.append_assoc, bcells_append (T ++ part.take k)]
        rfl
      have HL1 := hidden hlen1
      rw [hlen] at HO ⊢
      obtain ⟨m, hm⟩ : ∃ m, m = T.length + k := ⟨_, rfl⟩
      rw [← hm] at HO HL1 ⊢
      have hmb : m ≤ 200000 := by omega
      generalize (part.getD k 0).toNat = y at hcell HE
      clear ho hb hv hne hlen hlen1 htk hm
      go_wp2_with (refine wpList_append_src _ rfl (.tmp 13) (.tmp 15) 22 22 rfl w0.heap.size 5 i0 _ 1 Tryd.underlying22 hi hz0 hz1 hz2 rfl (.slice ao m cp) m _ rfl (HO.out.alloc _) _ 1 _ rfl (srcAt (by rfl) (heap_alloc_new wr _)) (by unfold maxLen; omega) (by omega) (by simp; omega) (wr.heap.size + 1) (by simp) ?_)
      intro v' w9 hown hgrow hnil hat
      have hb9 : Below w0.heap.size w0 w9 := ((HB.out.alloc hsz _)).grown hgrow (by simp; omega) (fun k hk => (HO.out.lt k hk).1)
      rw [HE.out, ← HL1.out] at hown
      have HO9 := hidden hown
      have HB9 := hidden hb9
      clear hown hgrow hnil hat hb9
      go_wp2
      go_roundw
      case rel => exact ⟨k + 1, by omega, by go_num, HO9.out, HB9.out⟩
      case measure => simp [intOf]; omega
    · have hlt' : ¬ (k : Int) < (n : Int) := by omega
      obtain rfl : k = n := by omega
      have htk : part.take k = part := List.take_of_length_le (by have := HN.out; omega)
      rw [htk] at HO ⊢
      obtain ⟨L, hL⟩ : ∃ L, L = T ++ part := ⟨_, rfl⟩
      have hLl : L.length ≤ 200000 := by rw [hL, List.length_append]; have := HN.out; omega
      rw [← hL] at HO ⊢
      have HLE := hidden hL
      clear ho hb htk H2 hL
      have HP := hidden (padL_length L)
      obtain ⟨p, hp⟩ : ∃ p, p = padN L.length := ⟨_, rfl⟩
      have hpe : p = (16 - L.length % 16) % 16 := hp
      have HPE := hidden hp
      clear hp
      go_wp2_with fail
      obtain ⟨wo, ewo⟩ : ∃ x, x = wr := ⟨wr, rfl⟩
      subst ewo
      go_loopw [0] (fun b wr => ∃ j : Nat, j ≤ p ∧ wr.ownsRow w0.heap.size 5 1 b (L.length + j) (bcells (L ++ List.replicate j 0)) ∧ Below w0.heap.size w0 wr) (fun b _ => match b with | .slice _ m _ => L.length + p - m | _ => 0)
      case atStart => exact ⟨0, by omega, by simpa using HO.out, HB.out⟩
      case round =>
        clear HO HB
        obtain ⟨j, hj, ho, hb⟩ := hrel
        have HO := hidden ho
        have HB := hidden hb
        obtain ⟨ao, cp, rfl⟩ := ownsRow_shape ho
        have hsz : w0.heap.size ≤ wr.heap.size := hb.size
        clear ho hb
        by_cases hjp : j < p
        · obtain ⟨m, hm⟩ : ∃ m, m = L.length + j := ⟨_, rfl⟩
          have hm16 : ((m : Int) % 16 == 0) = false := by
            simp
            omega
          have hm16' : ((m : Int) % 16 != 0) = true := by simp [bne, hm16]
          have HM := hidden hm
          rw [← hm] at HO ⊢
          have hmb : m ≤ 200100 := by omega
          clear hm
          go_wp2_with (refine wpList_append_src _ rfl (.tmp 22) (.tmp 23) 22 22 rfl w0.heap.size 5 i0 _ 1 Tryd.underlying22 hi hz0 hz1 hz2 rfl (.slice ao m cp) m _ rfl (HO.out.alloc _) _ 1 _ rfl (srcAt (by rfl) (heap_alloc_new wr _)) (by unfold maxLen; omega) (by omega) (by simp; omega) (wr.heap.size + 1) (by simp) ?_)
          intro v' w9 hown hgrow hnil hat
          have hb9 : Below w0.heap.size w0 w9 := ((HB.out.alloc hsz _)).grown hgrow (by simp; omega) (fun k hk => (HO.out.lt k hk).1)
          have HO9 : Hid (w9.ownsRow w0.heap.size 5 1 v' (L.length + (j + 1)) (bcells (L ++ List.replicate (j + 1) 0))) := by
            show World.ownsRow _ _ _ _ _ _ _
            rw [List.replicate_succ', ← List.append_assoc, bcells_append (L ++ List.replicate j 0), ← Nat.add_assoc, ← HM.out]
            exact hown
          have HB9 := hidden hb9
          obtain ⟨ao9, cp9, rfl⟩ := ownsRow_shape hown
          clear hown hgrow hnil hat hb9
          go_wp2
          go_roundw
          case rel => exact ⟨j + 1, by omega, HO9.out, HB9.out⟩
          case measure => simp; have := HM.out; omega
        · obtain rfl : j = p := by omega
          obtain ⟨m, hm⟩ : ∃ m, m = L.length + j := ⟨_, rfl⟩
          have hm16 : ((m : Int) % 16 == 0) = true := by
            simp
            omega
          have hm16' : ((m : Int) % 16 != 0) = false := by simp [bne, hm16]
          have HF : Hid (Grew w0 (padL L) (.returned (.slice ao m cp)) wr) := by
            refine ⟨_, rfl, ?_, HB.out⟩
            rw [HP.out, ← HPE.out]
            have := HO.out
            rw [hm]
            rw [padL, ← HPE.out]
            exact this
          rw [← hm]
          clear HO hm
          rw [HLE.out] at HF
          go_wp2
          go_ret
          exact HF.out

set_option maxHeartbeats 800000 in
set_option maxRecDepth 100000 in
theorem appendLength_c (w0 : World) (v1 : Value) (T : List UInt8) (n : Nat) (w : World) (hT : T.length ≤ 300000) (hn : n ≤ 1000000) (hb0 : Below w0.heap.size w0 w)
    (h1 : w.ownsRow w0.heap.size 5 1 v1 T.length (bcells T)) :
    Calls Tryd.prog 81 #[v1, .int .i64 (n : Int)] w fun e w' => Grew w0 (T ++ lowB n 8) e w' := by
  obtain ⟨i0, hi, hz0, hz1, hz2⟩ := info_parts Tryd.infoU8
  have H1 := hidden h1
  have HB0 := hidden hb0
  have hn64 : (n : Int) % 18446744073709551616 = (n : Int) := by omega
  clear h1 hb0
  go_enter Tryd.func81, Tryd.ntmps81
  go_wp2_with fail
  go_loopw [0, 5, 8] (fun b r i wr => ∃ k : Nat, k ≤ 8 ∧ i = .int .i64 (k : Int) ∧ r = .int .u64 ((n / 256 ^ k : Nat) : Int) ∧ wr.ownsRow w0.heap.size 5 1 b (T.length + k) (bcells (T ++ lowB n k)) ∧ Below w0.heap.size w0 wr) (fun _ _ i _ => 8 - (intOf i).toNat)
  case atStart => exact ⟨0, by omega, rfl, by simp, by simpa [lowB] using H1.out, HB0.out⟩
  case round =>
    clear H1 HB0
    obtain ⟨k, hk, rfl, rfl, ho, hb⟩ := hrel
    have HO := hidden ho
    have HB := hidden hb
    obtain ⟨ao, cp, rfl⟩ := ownsRow_shape ho
    have hsz : w0.heap.size ≤ wr.heap.size := hb.size
    clear ho hb
    by_cases hlt : k < 8
    · have hlt' : (k : Int) < 8 := by omega
      have HST := hidden (low8_step n k)
      have hq : n / 256 ^ k ≤ 1000000 := Nat.le_trans (Nat.div_le_self _ _) hn
      have HE : Hid (bcells (T ++ lowB n k) ++ [.int .u8 ((n / 256 ^ k % 256 : Nat) : Int)] = bcells (T ++ lowB n (k + 1))) := by
        show _ = _
        rw [lowB_succ, ← List.append_assoc, bcells_append (T ++ lowB n k)]
        have : ((UInt8.ofNat (n / 256 ^ k % 256)).toNat : Int) = ((n / 256 ^ k % 256 : Nat) : Int) := by simp
        simp only [bcells, List.map_cons, List.map_nil, this]
      obtain ⟨q, hqe⟩ : ∃ q, q = n / 256 ^ k := ⟨_, rfl⟩
      rw [← hqe] at HST HE hq ⊢
      have hqm : (q : Int) % 256 = ((q % 256 : Nat) : Int) := by omega
      have hqs : (q : Int) / 256 = ((q / 256 : Nat) : Int) := by omega
      rw [HST.out] at hqs
      obtain ⟨m, hm⟩ : ∃ m, m = T.length + k := ⟨_, rfl⟩
      have HM := hidden hm
      have hmb : m ≤ 300010 := by omega
      rw [← hm] at HO ⊢
      clear hm
      obtain ⟨q2, hq2⟩ : ∃ q2, q2 = n / 256 ^ (k + 1) := ⟨_, rfl⟩
      rw [← hq2] at hqs HST
      have HQ2 := hidden hq2
      clear hq2
      generalize q % 256 = q1 at hqm HE
      clear hqe
      go_wp2_with (refine wpList_append_src _ rfl (.tmp 10) (.tmp 13) 22 22 rfl w0.heap.size 5 i0 _ 1 Tryd.underlying22 hi hz0 hz1 hz2 rfl (.slice ao m cp) m _ rfl (HO.out.alloc _) _ 1 _ rfl (srcAt (by rfl) (heap_alloc_new wr _)) (by unfold maxLen; omega) (by omega) (by simp; omega) (wr.heap.size + 1) (by simp) ?_)
      intro v' w9 hown hgrow hnil hat
      have hb9 : Below w0.heap.size w0 w9 := ((HB.out.alloc hsz _)).grown hgrow (by simp; omega) (fun k hk => (HO.out.lt k hk).1)
      first | rw [HE.out] at hown | rw [hqm, HE.out] at hown
      rw [HM.out, Nat.add_assoc] at hown
      have HO9 := hidden hown
      have HB9 := hidden hb9
      clear hown hgrow hnil hat hb9
      go_wp2
      go_roundw
      case rel => exact ⟨k + 1, by omega, by go_num, by rw [← HQ2.out], HO9.out, HB9.out⟩
      case measure => simp [intOf]; omega
    · have hlt' : ¬ (k : Int) < 8 := by omega
      obtain rfl : k = 8 := by omega
      have HF : Hid (Grew w0 (T ++ lowB n 8) (.returned (.slice ao (T.length + 8) cp)) wr) := by
        refine ⟨_, rfl, ?_, HB.out⟩
        rw [List.length_append, lowB_length]
        exact HO.out
      clear HO
      go_wp2
      go_ret
      exact HF.out

set_option maxHeartbeats 800000 in
set_option maxRecDepth 100000 in
theorem summed_c (v1 v2 : Value) (a c : List UInt8) (w : World) (ha : a.length ≤ 50000) (hc : c.length ≤ 50000) (h1 : BSl w v1 a) (h2 : BSl w v2 c) :
    Calls Tryd.prog 62 #[v1, v2] w fun e w' => Grew w (macL a c) e w' := by
  obtain ⟨i0, hi, hz0, hz1, hz2⟩ := info_parts Tryd.infoU8
  have H1 := hidden h1
  have H2 := hidden h2
  obtain ⟨a1, c1, rfl⟩ := h1.len
  obtain ⟨a2, c2, rfl⟩ := h2.len
  have HA1 := hidden (padL_length a)
  have HA2 := hidden (padL_length (padL a ++ c))
  have HP1 := hidden (padN_le a.length)
  have HP2 := hidden (padN_le (padL a ++ c).length)
  clear h1 h2
  go_enter Tryd.func62, Tryd.ntmps62
  go_wp2_with (refine wpList_make_own _ rfl (.const (.int .i64 0)) (.tmp 12) 22 rfl w.heap.size 5 i0 _ 1 Tryd.underlying22 hi hz0 hz1 .i64 .i64 _ (a.length + c.length + 48) rfl rfl (by omega) (by rw [hz2]; omega) (by unfold maxLen; omega) (Nat.le_refl _) ?_)
  intro w1 ho1 hgr1
  have hb1 : Below w.heap.size w w1 := (Below.refl _ w).grown hgr1 (by simp) (by simp)
  have HO1 : Hid (w1.ownsRow w.heap.size 5 1 (.slice (some ⟨w.heap.size, 0, none⟩) 0 (a.length + c.length + 48)) ([] : List UInt8).length (bcells [])) := ho1
  have HB1 := hidden hb1
  clear ho1 hgr1 hb1 hi hz0 hz1 hz2
  go_wp2_with fail
  refine (appendPart_c w _ _ [] a w1 (by simp) (by omega) H1.out HB1.out HO1.out).mono ?_
  rintro e w2 ⟨v2', rfl, ho2, hb2⟩
  rw [List.nil_append] at ho2
  have HO2 := hidden ho2
  have HB2 := hidden hb2
  clear ho2 hb2 HO1 HB1
  go_wp2_with fail
  refine (appendPart_c w _ _ (padL a) c w2 (by have := HA1.out; have := HP1.out; omega) (by omega) H2.out HB2.out HO2.out).mono ?_
  rintro e w3 ⟨v3, rfl, ho3, hb3⟩
  have HO3 := hidden ho3
  have HB3 := hidden hb3
  clear ho3 hb3 HO2 HB2
  have HL3 : Hid ((padL (padL a ++ c)).length ≤ 100100) := by
    have h1 := HA2.out
    have h2 := HP2.out
    have h3 := HA1.out
    have h4 := HP1.out
    show _ ≤ _
    rw [h1]
    rw [List.length_append] at h2 ⊢
    omega
  go_wp2_with fail
  refine (appendLength_c w _ (padL (padL a ++ c)) a.length w3 (by have := HL3.out; omega) (by omega) HB3.out HO3.out).mono ?_
  rintro e w4 ⟨v4, rfl, ho4, hb4⟩
  have HO4 := hidden ho4
  have HB4 := hidden hb4
  clear ho4 hb4 HO3 HB3
  go_wp2_with fail
  refine (appendLength_c w _ (padL (padL a ++ c) ++ lowB a.length 8) c.length w4 (by have := HL3.out; rw [List.length_append, lowB_length]; omega) (by omega) HB4.out HO4.out).mono ?_
  rintro e w5 ⟨v5, rfl, ho5, hb5⟩
  have HF : Hid (Grew w (macL a c) (.returned v5) w5) := by
    refine ⟨_, rfl, ?_, hb5⟩
    rw [macL, ← List.append_assoc]
    exact ho5
  clear ho5 hb5 HO4 HB4
  go_wp2
  go_ret
  exact HF.out
end Go.Proofs.YthkaibkmpenclaaDoor
