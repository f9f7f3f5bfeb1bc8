/- What users makes of a slice of users. -/
import Derived.Test.YtpildjijaigmfaaAuA
namespace Go.Proofs.Ytpildjijaigmfaa
open Go Go.RowKit

/-- Not too many users, none too long. -/
def usersL (U : List Usr) (n : Nat) : List Usr := (U.take n).map fun u => (u.1.extract 0 66, u.2.extract 0 66)
theorem usersL_next (U : List Usr) (k : Nat) (hk : k < U.length) : usersL U (k + 1) = usersL U k ++ [((U[k]).1.extract 0 66, (U[k]).2.extract 0 66)] := by
  simp only [usersL, List.take_succ_eq_append_getElem hk, List.map_append, List.map_cons, List.map_nil]
def UOwn (w : World) (base : Nat) (v : Value) (U : List Usr) : Prop := w.ownsRow base 23 2 v U.length (ucells U)
theorem srcUser {W : World} {B : Nat} {s t : ByteArray} (hb : W.heap[B]? = some (.cells #[.string s, .string t] 23 (0, 0))) : Src Try.prog 2 24 (.slice (some ⟨B, 0, none⟩) 1 1) 1 [.string s, .string t] W :=
  Src.ofSlice _ Try.underlying24 ⟨B, 0, none⟩ 1 1 [.string s, .string t] rfl (World.news_of_block (cs := #[.string s, .string t]) (t := 23) (fr := (0, 0)) hb) (by intro u hu; simp at hu; rcases hu with rfl | rfl <;> rfl)

set_option maxHeartbeats 1600000 in
set_option maxRecDepth 100000 in
theorem users_c (v : Value) (U : List Usr) (w : World) (hv : USl w v U) :
    Calls Try.prog 13 #[v] w fun e w' => ∃ v', e = .returned v' ∧ UOwn w' w.heap.size v' (usersL U 5) ∧ Below w.heap.size w w' := by
  obtain ⟨i0, hi, hz0, hz1, hz2⟩ := info_parts Try.infoUser
  have HV : Hid (USl w v U) := hv
  obtain ⟨ao, ca, rfl, hca, hcm, _⟩ := hv
  unfold maxLen at hcm
  go_enter Try.func13, Try.ntmps13
  go_wp2
  go_loopw [3, 4] (fun o i wr => ∃ k : Nat, k ≤ U.length ∧ k ≤ 5 ∧ i = .int .i64 k ∧ UOwn wr w.heap.size o (usersL U k) ∧ Below w.heap.size w wr) (fun _ i _ => 5 - (intOf i).toNat)
  case atStart => exact ⟨0, Nat.zero_le _, Nat.zero_le _, rfl, World.ownsRow_nil _ _ _ _, Below.refl _ _⟩
  case round =>
    obtain ⟨k, hk, hkn, rfl, ho, hb⟩ := hrel
    have HO := hidden ho
    have HB := hidden hb
    clear ho hb
    obtain ⟨oa, oc, rfl⟩ := ownsRow_shape HO.out
    by_cases hlt : k < U.length
    · have hi1 : (k : Int) < (U.length : Int) := by omega
      by_cases hlt2 : k < 5
      · have hi2 : (k : Int) < 5 := by omega
        have HV1 := HV.out.keep (Keeps.ofFresh (S := fun _ => False) HB.out) (fun _ _ h => h)
        obtain ⟨b1, o1, rfl, k1, k2⟩ := HV1.at k hlt
        have hb1 : b1 < w.heap.size := by
          obtain ⟨b2, o2, e2, k3, _⟩ := HV.out.at k hlt
          cases e2
          exact World.block_lt_of_cell? _ _ k3
        have HN := hidden (usersL_next U k hlt)
        have hfl : (usersL U k).length = k := by simp [usersL]; omega
        generalize U[k] = u at k1 k2 HN
        obtain ⟨s, t⟩ := u
        generalize usersL U k = F at HO HN hfl
        have HF := hidden hfl
        rw [HF.out]
        dsimp only at k1 k2 HN
        clear HV1 hfl
        have hsz := HB.out.size
        have hown := HO.out
        unfold UOwn at hown
        rw [HF.out] at hown
        have hfar : some b1 ≠ (Value.slice oa k oc).ownBlock := fun e => by have := (hown.lt b1 e.symm).1; omega
        go_wp2_with fail
        go_region_held3 (fun w' => w'.cell? ⟨b1, o1 + k * 2, none⟩ = some (.string s) ∧ w'.cell? ⟨b1, o1 + k * 2 + 1, none⟩ = some (.string t))
          (first
            | go_keep
            | (go_split_ands
               refine ⟨?_, ?_⟩
               · (rw [hgrow.cell_far _ (by simp; omega) hfar]; assumption)
               · (rw [hgrow.cell_far _ (by simp; omega) hfar]; assumption)))
          (first
            | (go_at_call 17; refine (head_c _ 66 (by omega) _).mono ?_; rintro e w1 ⟨rfl, rfl⟩)
            | (refine step_append_src2 _ (by rfl) (.tmp 15) (.tmp 29) 24 24 (by rfl) w.heap.size 23 i0 _ 32 Try.underlying24 hi hz0 hz1 hz2 rfl (.slice oa k oc) k (ucells F) (by rfl) ((hown.alloc _).drew) _ 1 [.string (s.extract 0 66), .string (t.extract 0 66)] (by rfl) (srcUser (heap_alloc_new wr _)) (by unfold maxLen; omega) (by omega) (by simp; omega) (wr.heap.size + 1) (by simp) ?_; intro v' w2 hown' hgrow hnil hat))
        obtain ⟨ao', cp', rfl⟩ := ownsRow_shape hown'
        have HO2 := hidden hown'
        have HG := hidden hgrow
        clear hown' hgrow hnil hat k1 k2
        go_wp2
        go_roundw
        case rel =>
          refine ⟨k + 1, by omega, by omega, by go_num, ?_, ?_⟩
          · unfold UOwn
            rw [HN.out, List.length_append, HF.out, ucells_append]
            exact HO2.out
          · exact ((HB.out.alloc HB.out.size _).drew).grown HG.out (by have := HB.out.size; simp; omega) (fun g hg => (hown.lt g hg).1)
        case measure => simp [intOf]; omega
      · have hi2 : ¬ (k : Int) < 5 := by omega
        have HE : Hid (usersL U k = usersL U 5) := by have : k = 5 := by omega
                                                      subst this; rfl
        go_wp2
        go_ret
        exact ⟨_, rfl, HE.out ▸ HO.out, HB.out⟩
    · have hi1 : ¬ (k : Int) < (U.length : Int) := by omega
      have HE : Hid (usersL U k = usersL U 5) := by
        show _ = _
        simp only [usersL]
        rw [List.take_of_length_le (by omega), List.take_of_length_le (by omega)]
      go_wp2
      go_ret
      exact ⟨_, rfl, HE.out ▸ HO.out, HB.out⟩

theorem usersL_len (U : List Usr) : (usersL U 5).length ≤ 5 := by simp [usersL]; omega
theorem usersL_size {U : List Usr} {u : Usr} (h : u ∈ usersL U 5) : u.1.size ≤ 66 ∧ u.2.size ≤ 66 := by
  obtain ⟨x, _, rfl⟩ := List.mem_map.1 h
  simp; omega

end Go.Proofs.Ytpildjijaigmfaa
