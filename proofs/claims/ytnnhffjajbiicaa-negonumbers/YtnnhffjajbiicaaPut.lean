/- What Few, short and put do. -/
import Derived.Test.YtnnhffjajbiicaaRfC
import Derived.Test.YtnnhffjajbiicaaKnown
import Derived.Deep.RegionLaw
namespace Go.Proofs.Ytnnhffjajbiicaa
open Go Go.RowKit

theorem Try.infoStr : (Try.prog.info? 9).map (fun i => (i.zero, i.size, i.bytes)) = some (some (.string ⟨#[]⟩), 1, 16) := by kernel_rfl

def few (ss : List ByteArray) : List ByteArray := (ss.take 8).map fun s => s.extract 0 66
theorem few_len (ss : List ByteArray) : (few ss).length ≤ 8 := by simp [few]; omega

theorem srcStr {W : World} {B : Nat} {x : ByteArray} (hb : W.heap[B]? = some (.cells #[.string x] 9 (0, 0))) : Src Try.prog 1 24 (.slice (some ⟨B, 0, none⟩) 1 1) 1 [.string x] W :=
  Src.ofSlice _ Try.underlying24 ⟨B, 0, none⟩ 1 1 [.string x] rfl (World.news_of_block (cs := #[.string x]) (t := 9) (fr := (0, 0)) hb) (by intro u hu; simp at hu; subst hu; rfl)

theorem SSl.ofRow {w : World} {base : Nat} {v : Value} {n : Nat} {ss : List ByteArray} (h : w.ownsRow base 9 1 v n (ss.map Value.string)) : SSl w v ss := by
  have hl : ss.length = n := by have := h.1; rw [List.length_map] at this; omega
  subst hl
  have h0 := h
  rcases h.2 with ⟨rfl, h1⟩ | ⟨g, cap, cur, rfl, _, _, h2, h3, _⟩
  · exact ⟨none, 0, by rw [h1], by omega, by simp [maxLen], fun _ => ⟨List.eq_nil_of_length_eq_zero h1, rfl⟩, (fun ad e => by cases e)⟩
  · refine ⟨some ⟨g, 0, none⟩, cap, rfl, h2, h3, (fun e => by cases e), ?_⟩
    rintro ad e _
    cases e
    exact ⟨g, 0, rfl, fun j u hu => by have := h0.cells (g := g) rfl j (.string u) (by simp [hu]); rwa [add_lit'] at this⟩

theorem SSl.keep {S : Nat → Prop} {w w' : World} {v : Value} {ss : List ByteArray} (h : SSl w v ss) (hk : Keeps S w w') (hn : ∀ k, v.ownBlock = some k → ¬ S k) : SSl w' v ss := by
  obtain ⟨ao, cap, rfl, h1, h2, h3, hc⟩ := h
  refine ⟨ao, cap, rfl, h1, h2, h3, ?_⟩
  rintro ad rfl hx
  obtain ⟨b, off, rfl, hcell⟩ := hc ad rfl hx
  exact ⟨b, off, rfl, fun j u hu => hk.cell (hcell j u hu) (hn b rfl)⟩
theorem SSl.fresh {w w' : World} {v : Value} {ss : List ByteArray} (h : SSl w v ss) (hb : Below w.heap.size w w') : SSl w' v ss :=
  h.keep (S := fun _ => False) (Keeps.ofFresh hb) fun _ _ h => h

set_option maxHeartbeats 800000 in
set_option maxRecDepth 100000 in
theorem few_c (v : Value) (ss : List ByteArray) (w : World) (hv : SSl w v ss) :
    Calls Try.prog 31 #[v, .int .i64 8, .int .i64 66] w fun e w' => ∃ v', e = .returned v' ∧ w'.ownsRow w.heap.size 9 1 v' (few ss).length ((few ss).map Value.string) ∧ Below w.heap.size w w' := by
  obtain ⟨i0, hi, hz0, hz1, hz2⟩ := info_parts Try.infoStr
  have HV : Hid (SSl w v ss) := hv
  obtain ⟨ao, cap, rfl, hc1, hc2, hc3, hc4⟩ := hv
  unfold maxLen at hc2
  cases ss with
  | nil =>
    clear hc4 hc3
    go_enter Try.func31, Try.ntmps31
    go_wp2
    refine wp_loop_rounds 1 ?_
    rw [rounds_succ]
    go_wp2
    go_ret
    exact ⟨_, rfl, World.ownsRow_nil _ _ _ _, Below.refl _ _⟩
  | cons x0 ss0 =>
    obtain ⟨b, off, rfl⟩ : ∃ b off, ao = some ⟨b, off, none⟩ := by
      cases ao with
      | none => have := (hc3 rfl).1; cases this
      | some ad => obtain ⟨b, off, rfl, _⟩ := hc4 ad rfl (by simp); exact ⟨b, off, rfl⟩
    clear hc3 hc4
    generalize x0 :: ss0 = ss at *
    go_enter Try.func31, Try.ntmps31
    go_wp2
    go_loopw [7, 8] (fun o i wr => ∃ k : Nat, k ≤ ss.length ∧ k ≤ 8 ∧ i = .int .i64 k ∧ wr.ownsRow w.heap.size 9 1 o k ((few (ss.take k)).map Value.string) ∧ Below w.heap.size w wr) (fun _ i _ => ss.length - (intOf i).toNat)
    case atStart => exact ⟨0, Nat.zero_le _, by omega, rfl, World.ownsRow_nil _ _ _ _, Below.refl _ _⟩
    case round =>
      obtain ⟨k, hk, hk8, rfl, ho, hb⟩ := hrel
      by_cases hlt : k < ss.length
      · by_cases hlt8 : k < 8
        · have hc := (HV.out.fresh hb).cellAt k hlt
          have HF : Hid ((few (ss.take k)).map Value.string ++ [.string (ss[k].extract 0 66)] = (few (ss.take (k + 1))).map Value.string) := by
            show _ = _
            unfold few
            rw [List.take_take, List.take_take, Nat.min_eq_right hk8, Nat.min_eq_right (show k + 1 ≤ 8 from hlt8), List.take_succ_eq_append_getElem hlt, List.map_append, List.map_append]
            rfl
          have hs := hb.size
          go_wp2_with fail
          refine (head_c _ 66 (by omega) _).mono ?_
          rintro e w' ⟨rfl, rfl⟩
          have hsrc := srcStr (heap_alloc_new w' (.cells #[.string (ss[k].extract 0 66)] 9))
          go_wp2_with (at_builtin; refine wpList_append_src _ rfl (.tmp 20) (.tmp 27) 24 24 rfl w.heap.size 9 i0 _ 16 Try.underlying24 hi hz0 hz1 hz2 rfl _ _ _ rfl (ho.alloc _) _ 1 _ rfl hsrc (by unfold maxLen; omega) (by omega) (by simp; omega) (w'.heap.size + 1) (by simp) ?_)
          intro v1 w1 ho1 hgrow1 hnil1 hat1
          have hb1 : Below w.heap.size w w1 := (hb.alloc hs _).grown hgrow1 (by simp; omega) (fun k hk => (ho.lt k hk).1)
          clear hgrow1 hnil1 hat1 hsrc ho hc
          go_wp2
          go_roundw
          case rel => exact ⟨k + 1, by omega, by omega, by go_num, by rw [← HF.out]; exact ho1, hb1⟩
          case measure => simp [intOf]; omega
        · have hke : k = 8 := by omega
          subst hke
          have HF : Hid (few (ss.take 8) = few ss) := by show _ = _; simp [few, List.take_take]
          have HL : Hid (8 = (few ss).length) := by show _ = _; simp [few]; omega
          go_wp2
          go_ret
          exact ⟨_, rfl, by rw [← HL.out, ← HF.out]; exact ho, hb⟩
      · have hke : k = ss.length := by omega
        subst hke
        have HF : Hid (few (ss.take ss.length) = few ss) := by show _ = _; rw [List.take_length]
        have HL : Hid (ss.length = (few ss).length) := by show _ = _; simp [few]; omega
        go_wp2
        go_ret
        exact ⟨_, rfl, by rw [← HL.out, ← HF.out]; exact ho, hb⟩

end Go.Proofs.Ytnnhffjajbiicaa
