/- What the document's own writers answer: Bare, Mpint, Join, Names. -/
import Derived.Test.YtmecclefkgbmpaaRfA
namespace Go.Proofs.Ytmecclefkgbmpaa
open Go Go.RowKit

theorem BSl.cellAt {w : World} {b off n cap : Nat} {xs : List UInt8} (h : BSl w (.slice (some ⟨b, off, none⟩) n cap) xs) (k : Nat) (hk : k < xs.length) : w.cell? ⟨b, off + k, none⟩ = some (.int .u8 (xs[k].toNat)) := by
  obtain ⟨ao, cap, e, h1, h2, h3, hc⟩ := h
  cases e
  obtain ⟨b', off', e, hcell⟩ := hc _ rfl (by rintro rfl; simp at hk)
  cases e
  exact hcell k _ (by simp [bcells, hk])

theorem srcNone (a : Addr) (c : Nat) (w : World) : Src Try.prog 1 22 (.slice (some a) 0 c) 0 [] w :=
  Src.ofSlice w Try.underlying22 a 0 c [] rfl (fun j u h => by simp at h) (fun u h => by cases h)

theorem BSl.srcDrop {w : World} {b off n cap c : Nat} {xs : List UInt8} (h : BSl w (.slice (some ⟨b, off, none⟩) n cap) xs) (k : Nat) (hk : k < xs.length) :
    Src Try.prog 1 22 (.slice (some ⟨b, off + k, none⟩) (xs.length - k) c) (xs.length - k) (bcells (xs.drop k)) w := by
  obtain ⟨ao, cap, e, h1, h2, h3, hc⟩ := h
  cases e
  obtain ⟨b', off', e, hcell⟩ := hc _ rfl (by rintro rfl; simp at hk)
  cases e
  refine Src.ofSlice w Try.underlying22 _ _ _ _ (by simp [bcells_length]) (fun j u hu => ?_) bcells_one
  rw [add_lit', Nat.add_assoc]
  refine hcell _ u ?_
  rw [← hu]
  simp [bcells]

set_option maxHeartbeats 400000 in
set_option maxRecDepth 100000 in
theorem rbare_c (v : Value) (xs : List UInt8) (w : World) (hv : BSl w v xs) (hl : xs.length + 1 ≤ 140737488355328) :
    Calls Try.prog 76 #[v] w fun e w' => Fresh w (bare xs) e w' := by
  obtain ⟨i0, hi, hz0, hz1, hz2⟩ := info_parts Try.infoU8
  have HV : Hid (BSl w v xs) := hv
  cases xs with
  | nil =>
    obtain ⟨ao, cap, rfl⟩ := hv.nil
    clear hv
    go_enter Try.func76, Try.ntmps76
    go_wp2
    refine wp_loop_rounds 1 ?_
    rw [rounds_succ]
    have hsrc := (HV.out.alloc (.cells #[] 5)).src
    go_wp2_with (at_builtin; refine wpList_append_src _ rfl (.tmp 17) (.tmp 20) 22 22 rfl w.heap.size 5 i0 _ 1 Try.underlying22 hi hz0 hz1 hz2 rfl _ _ _ rfl (World.ownsRow_made w #[] 0 (Nat.le_refl _) (Nat.zero_le _) rfl) _ 0 (bcells ([])) rfl ?qs ?q63 ?qb (by simp) (w.heap.size + 1) (by simp) ?_)
    case qs => exact hsrc
    case q63 => simp [maxLen]
    case qb => simp
    intro v1 w1 hown1 hgrow1 hnil1 hat1
    have hb1 : Below w.heap.size w w1 := ((Below.refl _ w).alloc (Nat.le_refl _) _).grown hgrow1 (by simp) (by intro k hk; simp [Value.ownBlock] at hk; omega)
    clear hgrow1 hnil1 hat1
    go_wp2
    go_ret
    exact ⟨v1, rfl, by simpa [bare] using hown1, hb1⟩
  | cons x xs =>
    obtain ⟨b, off, cap, rfl, hc1, hc2, hob⟩ := hv.cons
    clear hv hob
    unfold maxLen at hc2
    generalize hys : x :: xs = ys at *
    have hpos : 0 < ys.length := by rw [← hys]; simp
    clear hys
    go_enter Try.func76, Try.ntmps76
    go_wp2
    go_loop [3] (fun i => ∃ k : Nat, k ≤ ys.length ∧ i = .int .i64 k ∧ bare (ys.drop k) = bare ys) (fun i => ys.length - (intOf i).toNat)
    case atStart => exact ⟨0, Nat.zero_le _, rfl, rfl⟩
    case round =>
      obtain ⟨k, hk, rfl, hbk⟩ := hrel
      have HBK : Hid (bare (ys.drop k) = bare ys) := hbk
      clear hbk
      by_cases hlt : k < ys.length
      · have hc := HV.out.cellAt k hlt
        by_cases hz : ys[k] = 0
        · have hzz : ((ys[k].toNat : Int) == 0) = true := by rw [hz]; rfl
          have HN : Hid (bare (ys.drop (k + 1)) = bare ys) := by
            rw [← HBK.out, List.drop_eq_getElem_cons hlt, hz]; simp [bare, Hid]
          go_wp2
          go_round
          case rel => exact ⟨k + 1, by omega, by go_num, HN.out⟩
          case measure => simp [intOf]; omega
        · have hzz : ((ys[k].toNat : Int) == 0) = false := by
            have : ys[k].toNat ≠ 0 := fun h => hz (UInt8.toNat_inj.1 h)
            simp [this]
          have HN : Hid (bare ys = ys.drop k) := by
            show bare ys = ys.drop k
            rw [← HBK.out, List.drop_eq_getElem_cons hlt, bare_fix _ _ hz]
          go_wp2_with (at_builtin; refine wpList_append_src _ rfl (.tmp 17) (.tmp 20) 22 22 rfl w.heap.size 5 i0 _ 1 Try.underlying22 hi hz0 hz1 hz2 rfl _ _ _ rfl (World.ownsRow_made w #[] 0 (Nat.le_refl _) (Nat.zero_le _) rfl) _ (ys.length - k) (bcells (ys.drop k)) rfl ?qs ?q63 ?qb (by simp) (w.heap.size + 1) (by simp) ?_)
          case qs => exact (HV.out.alloc _).srcDrop k hlt
          case q63 => unfold maxLen; omega
          case qb => omega
          intro v1 w1 hown1 hgrow1 hnil1 hat1
          have hb1 : Below w.heap.size w w1 := ((Below.refl _ w).alloc (Nat.le_refl _) _).grown hgrow1 (by simp) (by intro k hk; simp [Value.ownBlock] at hk; omega)
          clear hgrow1 hnil1 hat1
          go_wp2
          go_ret
          refine ⟨v1, rfl, ?_, hb1⟩
          rw [HN.out, List.length_drop]
          simpa using hown1
      · have HN : Hid (bare ys = []) := by
          show bare ys = []
          rw [← HBK.out, List.drop_of_length_le (by omega)]; rfl
        have hke : k = ys.length := by omega
        subst hke
        by_cases hcap : cap = ys.length
        all_goals
          go_wp2_with (at_builtin; refine wpList_append_src _ rfl (.tmp 17) (.tmp 20) 22 22 rfl w.heap.size 5 i0 _ 1 Try.underlying22 hi hz0 hz1 hz2 rfl _ _ _ rfl (World.ownsRow_made w #[] 0 (Nat.le_refl _) (Nat.zero_le _) rfl) _ 0 [] rfl (srcNone _ _ _) (by simp [maxLen]) (by simp) (by simp) (w.heap.size + 1) (by simp) ?_)
          intro v1 w1 hown1 hgrow1 hnil1 hat1
          have hb1 : Below w.heap.size w w1 := ((Below.refl _ w).alloc (Nat.le_refl _) _).grown hgrow1 (by simp) (by intro k hk; simp [Value.ownBlock] at hk; omega)
          clear hgrow1 hnil1 hat1
          go_wp2
          go_ret
          refine ⟨v1, rfl, ?_, hb1⟩
          rw [HN.out]
          simpa [bcells] using hown1

end Go.Proofs.Ytmecclefkgbmpaa
