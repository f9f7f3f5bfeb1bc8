/- What the document's own writers answer: Mpint, Join, Names. -/
import Derived.Test.YtpildjijaigmfaaRfB
namespace Go.Proofs.Ytpildjijaigmfaa
open Go Go.RowKit

theorem BSl.fresh {w w' : World} {v : Value} {xs : List UInt8} (h : BSl w v xs) (hb : Below w.heap.size w w') : BSl w' v xs :=
  h.keep (S := fun _ => False) (Keeps.ofFresh hb) fun _ _ h => h

theorem size_list (l : List UInt8) : (⟨l.toArray⟩ : ByteArray).size = l.length := by simp [ByteArray.size]
theorem ba_append (a b : List UInt8) : ((⟨a.toArray⟩ : ByteArray) ++ ⟨b.toArray⟩) = ⟨(a ++ b).toArray⟩ := by
  apply ByteArray.ext
  simp
theorem ba_nil (s : ByteArray) : ((⟨#[]⟩ : ByteArray) ++ s) = s := by
  apply ByteArray.ext
  simp
theorem ba_self (s : ByteArray) : s = ⟨s.data.toList.toArray⟩ := by
  apply ByteArray.ext
  simp

theorem mp_text (ns : List UInt8) : mpBytes ns = textBytes (match bare ns with | [] => [] | x :: r => if 128 ≤ x.toNat then 0 :: x :: r else x :: r) := by
  unfold mpBytes textBytes
  cases bare ns with
  | nil => rfl
  | cons x r => by_cases h : 128 ≤ x.toNat <;> simp [h]


theorem joined_zero : joined [] = [] := rfl
theorem joined_take_one (ss : List ByteArray) (h : 0 < ss.length) : joined (ss.take 1) = (ss[0]).data.toList := by
  rw [List.take_one, List.head?_eq_getElem?, List.getElem?_eq_getElem h]
  simp [joined, Lib.join_one]
theorem joined_take_succ (ss : List ByteArray) (k : Nat) (h : k + 1 < ss.length) : joined (ss.take (k + 2)) = joined (ss.take (k + 1)) ++ [44] ++ (ss[k + 1]).data.toList := by
  cases ss with
  | nil => simp at h
  | cons x r =>
    simp only [joined, List.take_succ_cons, List.map_cons, Lib.join_cons, List.map_take]
    rw [Lib.joinTail_take_succ [44] (r.map (·.data.toList)) k ((r[k]'(by simp at h; exact h)).data.toList) (by simp at h; simp [h])]
    simp
theorem joined_take_le (ss : List ByteArray) (k : Nat) : (joined (ss.take k)).length ≤ (joined ss).length := by
  cases ss with
  | nil => simp
  | cons x r =>
    cases k with
    | zero => simp [joined, Lib.join_nil]
    | succ k =>
      simp only [joined, List.take_succ_cons, List.map_cons, Lib.join_cons, List.map_take]
      have := Lib.joinTail_take_le [44] (r.map (·.data.toList)) k
      simp only [List.length_append]
      omega

theorem SSl.cellAt {w : World} {b off n cap : Nat} {ss : List ByteArray} (h : SSl w (.slice (some ⟨b, off, none⟩) n cap) ss) (k : Nat) (hk : k < ss.length) : w.cell? ⟨b, off + k, none⟩ = some (.string ss[k]) := by
  obtain ⟨ao, cap, e, h1, h2, h3, hc⟩ := h
  cases e
  obtain ⟨b', off', e, hcell⟩ := hc _ rfl (by rintro rfl; simp at hk)
  cases e
  exact hcell k _ (by simp [hk])

set_option maxHeartbeats 800000 in
set_option maxRecDepth 100000 in
theorem rjoin_c (v : Value) (ss : List ByteArray) (w : World) (hv : SSl w v ss) (hl : (joined ss).length ≤ 140737488355328) :
    Calls Try.prog 71 #[v] w fun e w' => e = .returned (.string ⟨(joined ss).toArray⟩) ∧ w' = w := by
  have HV : Hid (SSl w v ss) := hv
  obtain ⟨ao, cap, rfl, hc1, hc2, hc3, hc4⟩ := hv
  unfold maxLen at hc2
  cases ss with
  | nil =>
    clear hc4 hc3
    go_enter Try.func71, Try.ntmps71
    go_wp2
    refine wp_loop_rounds 1 ?_
    rw [rounds_succ]
    go_wp2
    go_ret
    exact ⟨rfl, rfl⟩
  | cons x0 ss0 =>
    obtain ⟨b, off, rfl⟩ : ∃ b off, ao = some ⟨b, off, none⟩ := by
      cases ao with
      | none => have := (hc3 rfl).1; cases this
      | some ad => obtain ⟨b, off, rfl, _⟩ := hc4 ad rfl (by simp); exact ⟨b, off, rfl⟩
    clear hc3 hc4
    generalize x0 :: ss0 = ss at *
    go_enter Try.func71, Try.ntmps71
    go_wp2
    go_loop [3, 4] (fun s i => ∃ k : Nat, k ≤ ss.length ∧ i = .int .i64 k ∧ s = .string ⟨(joined (ss.take k)).toArray⟩) (fun _ i => ss.length - (intOf i).toNat)
    case atStart => exact ⟨0, Nat.zero_le _, rfl, rfl⟩
    case round =>
      obtain ⟨k, hk, rfl, rfl⟩ := hrel
      have hle := joined_take_le ss k
      by_cases hlt : k < ss.length
      · have hc := HV.out.cellAt k hlt
        have hle1 := joined_take_le ss (k + 1)
        cases k with
        | zero =>
          have h0 : w.cell? ⟨b, off, none⟩ = some (.string ss[0]) := by simpa using hc
          have hsz : ss[0].size ≤ 140737488355328 := by
            rw [joined_take_one ss hlt, Array.length_toList] at hle1
            have : ss[0].size = ss[0].data.size := rfl
            omega
          have HJ : Hid (ss[0] = ⟨(joined (ss.take 1)).toArray⟩) := by rw [joined_take_one ss hlt]; exact ba_self _
          rw [show joined (ss.take 0) = [] from rfl]
          clear hle hle1 hc
          go_wp2
          go_round
          case rel => exact ⟨1, by omega, by go_num, by rw [← HJ.out]; exact congrArg Value.string (ba_nil _)⟩
          case measure => simp [intOf]; omega
        | succ k =>
          have hj : joined (ss.take (k + 1 + 1)) = _ := joined_take_succ ss k hlt
          have hsz : (joined (ss.take (k + 1))).length + 1 + ss[k + 1].size ≤ 140737488355328 := by
            have := congrArg List.length hj
            simp only [List.length_append, Array.length_toList, List.length_cons, List.length_nil] at this
            have e : ss[k + 1].size = ss[k + 1].data.size := rfl
            omega
          have HJ : Hid ((⟨(joined (ss.take (k + 1))).toArray⟩ : ByteArray) ++ ⟨#[44]⟩ ++ ss[k + 1] = ⟨(joined (ss.take (k + 1 + 1))).toArray⟩) := by
            show _ = _
            rw [hj, ← ba_append, ← ba_append, ← ba_self]
          clear hj hle hle1
          go_wp2
          go_round
          case rel => exact ⟨k + 2, by omega, by go_num, by rw [← HJ.out]⟩
          case measure => simp [intOf]; omega
      · have hke : k = ss.length := by omega
        subst hke
        rw [List.take_length]
        go_wp2
        go_ret
        exact ⟨rfl, rfl⟩

set_option maxHeartbeats 400000 in
theorem rnames_c (u : Value) (ss : List ByteArray) (v : Value) (xs : List UInt8) (w : World) (hv : BSl w v xs) (hu : SSl w u ss) (hj : (joined ss).length < 4294967296) (hl : xs.length + (joined ss).length + 8 ≤ 140737488355328) :
    Calls Try.prog 62 #[v, u] w fun e w' => Fresh w (xs ++ textBytes (joined ss)) e w' := by
  go_enter Try.func62, Try.ntmps62
  go_wp2_with fail
  refine (rjoin_c u ss _ hu (by omega)).mono ?_
  rintro e w1 ⟨rfl, rfl⟩
  go_wp2_with fail
  refine (rtext_c ⟨(joined ss).toArray⟩ (by rw [size_list]; exact hj) v xs _ hv (by rw [size_list]; exact hl)).mono ?_
  rintro e w2 ⟨v2, rfl, h1, h2⟩
  go_wp2
  go_ret
  exact ⟨v2, rfl, h1, h2⟩

end Go.Proofs.Ytpildjijaigmfaa
