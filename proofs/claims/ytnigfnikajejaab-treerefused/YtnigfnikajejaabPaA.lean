/- Lists of texts in memory; Head and Few. -/
import Derived.Laws.IdiomStrings
import Derived.Deep.RegionLaw
import Derived.Lib.SliceRun
import Derived.Test.YtnigfnikajejaabKpW
import Derived.Test.YtnigfnikajejaabWrE
namespace Go.Proofs.Ytnigfnikajejaab
open Go Go.RowKit


theorem Try.infoStr : (Try.prog.info? 9).map (fun i => (i.zero, i.size, i.bytes)) = some (some (.string ⟨#[]⟩), 1, 16) := by kernel_rfl
theorem srcStr {W : World} {B : Nat} {x : ByteArray} (hb : W.heap[B]? = some (.cells #[.string x] 9 (0, 0))) : Src Try.prog 1 25 (.slice (some ⟨B, 0, none⟩) 1 1) 1 [.string x] W :=
  Src.ofSlice _ Try.underlying25 ⟨B, 0, none⟩ 1 1 [.string x] rfl (World.news_of_block (cs := #[.string x]) (t := 9) (fr := (0, 0)) hb) (by intro u hu; simp at hu; subst hu; rfl)
set_option maxHeartbeats 400000 in
theorem head_c (s : ByteArray) (n : Nat) (hn : n ≤ 1000000) (w : World) :
    Calls Try.prog 46 #[.string s, .int .i64 n] w fun e w' => e = .returned (.string (s.extract 0 n)) ∧ w' = w := by
  by_cases h : n < s.size
  · go_enter Try.func46, Try.ntmps46
    go_wp2
    go_ret
    exact ⟨rfl, rfl⟩
  · go_enter Try.func46, Try.ntmps46
    go_wp2
    go_ret
    have he : s.extract 0 n = s := by
      apply ByteArray.ext
      simp [ByteArray.data_extract]
      exact .inr (Nat.le_of_not_lt h)
    exact ⟨by rw [he]; rfl, rfl⟩
/-- The slice value v reads as the strings ss in w. -/
def SSl (w : World) (v : Value) (ss : List ByteArray) : Prop :=
  ∃ ao cap, v = .slice ao ss.length cap ∧ ss.length ≤ cap ∧ cap ≤ maxLen ∧ (ao = none → ss = [] ∧ cap = 0) ∧
    ∀ ad, ao = some ad → ss ≠ [] → ∃ b off, ad = ⟨b, off, none⟩ ∧ ∀ (j : Nat) x, ss[j]? = some x → w.cell? ⟨b, off + j, none⟩ = some (.string x)
theorem SSl.cellAt {w : World} {b off n cap : Nat} {ss : List ByteArray} (h : SSl w (.slice (some ⟨b, off, none⟩) n cap) ss) (k : Nat) (hk : k < ss.length) : w.cell? ⟨b, off + k, none⟩ = some (.string ss[k]) := by
  obtain ⟨ao, cap, e, h1, h2, h3, hc⟩ := h
  cases e
  obtain ⟨b', off', e, hcell⟩ := hc _ rfl (by rintro rfl; simp at hk)
  cases e
  exact hcell k _ (by simp [hk])
theorem SSl.ofRow {w : World} {base : Nat} {v : Value} {n : Nat} {ss : List ByteArray} (h : w.ownsRow base 9 1 v n (ss.map Value.string)) : SSl w v ss := by
  have hl : ss.length = n := by have := h.1; rw [List.length_map] at this; omega
  subst hl
  have h0 := h
  rcases h.2 with ⟨rfl, h1⟩ | ⟨g, cap, cur, rfl, _, _, h2, h3, _⟩
  · exact ⟨none, 0, by rw [h1], by omega, by simp [maxLen], fun _ => ⟨List.eq_nil_of_length_eq_zero h1, rfl⟩, (fun ad e => by cases e)⟩
  · refine ⟨some ⟨g, 0, none⟩, cap, rfl, h2, h3, (fun e => by cases e), ?_⟩
    rintro ad e _
    cases e
    exact ⟨g, 0, rfl, fun j u hu => by have := h0.cells (g := g) rfl j (.string u) (by simp [hu]); rwa [add_lit'] at this⟩
theorem SSl.keep {S : Nat → Prop} {w w' : World} {v : Value} {ss : List ByteArray} (h : SSl w v ss) (hk : Keeps S w w') (hn : ∀ k, v.ownBlock = some k → ¬ S k) : SSl w' v ss := by
  obtain ⟨ao, cap, rfl, h1, h2, h3, hc⟩ := h
  refine ⟨ao, cap, rfl, h1, h2, h3, ?_⟩
  rintro ad rfl hx
  obtain ⟨b, off, rfl, hcell⟩ := hc ad rfl hx
  exact ⟨b, off, rfl, fun j u hu => hk.cell (hcell j u hu) (hn b rfl)⟩
theorem SSl.fresh {w w' : World} {v : Value} {ss : List ByteArray} (h : SSl w v ss) (hb : Below w.heap.size w w') : SSl w' v ss :=
  h.keep (S := fun _ => False) (Keeps.ofFresh hb) fun _ _ h => h
theorem ssl_lit (w : World) (ss : List ByteArray) (hl : ss.length ≤ 1000) : SSl (w.alloc (.cells (ss.map Value.string).toArray 9)) (.slice (some ⟨w.heap.size, 0, none⟩) ss.length ss.length) ss := by
  refine ⟨_, _, rfl, Nat.le_refl _, by unfold maxLen; omega, (fun e => by cases e), fun ad e _ => ⟨w.heap.size, 0, by cases e; rfl, fun j u hu => ?_⟩⟩
  rw [Nat.zero_add, cell_of_row _ _ _ _ _ _ (heap_alloc_new w _)]
  simp [hu]
theorem SSl.alloc {w : World} {v : Value} {ss : List ByteArray} (h : SSl w v ss) (o : Obj) : SSl (w.alloc o) v ss := h.keep (S := fun _ => False) ((Keeps.refl _ _).alloc o) fun _ _ h => h
theorem str_eq (s t : ByteArray) : (s.toList == t.toList) = true ↔ s = t := by
  rw [ByteArray.toList_eq, ByteArray.toList_eq, beq_iff_eq]
  exact ⟨fun h => ByteArray.ext (Array.toList_inj.1 h), fun h => h ▸ rfl⟩
theorem str_ne {s t : ByteArray} (h : (s.toList == t.toList) = false) : s ≠ t := fun e => by rw [(str_eq s t).2 e] at h; cases h
theorem str_no {s t : ByteArray} (h : s ≠ t) : (s.toList == t.toList) = false := by
  cases e : s.toList == t.toList with
  | false => rfl
  | true => exact absurd ((str_eq s t).1 e) h
theorem take_next {α : Type} {l : List α} {k : Nat} (hk : k < l.length) {p : α → Prop} (h : ∀ x ∈ l.take k, p x) (hp : p l[k]) : ∀ x ∈ l.take (k + 1), p x := by
  intro x hx
  rw [List.take_succ_eq_append_getElem hk] at hx
  rcases List.mem_append.1 hx with h1 | h1
  · exact h x h1
  · rw [List.mem_singleton.1 h1]; exact hp
theorem SSl.addr' {w : World} {ao : Option Addr} {n cap : Nat} {ss : List ByteArray} (h : SSl w (.slice ao n cap) ss) (hne : ss ≠ []) : ∃ b off, ao = some ⟨b, off, none⟩ := by
  obtain ⟨ao', cap', e, _, _, h3, h4⟩ := h
  cases e
  cases ao with
  | none => exact absurd (h3 rfl).1 hne
  | some ad => obtain ⟨b, off, rfl, _⟩ := h4 ad rfl hne; exact ⟨b, off, rfl⟩
/-- What Few makes: so many texts, none too long. -/
def fewL (l : List ByteArray) (n m : Nat) : List ByteArray := (l.take n).map fun s => s.extract 0 m
theorem fewL_length (l : List ByteArray) (n m : Nat) : (fewL l n m).length ≤ n := by simp [fewL]; omega
theorem fewL_size {l : List ByteArray} {n m : Nat} {s : ByteArray} (h : s ∈ fewL l n m) : s.size ≤ m := by
  obtain ⟨x, _, rfl⟩ := List.mem_map.1 h
  simp
  omega
/-- A list of texts of one's own. -/
def SOwn (w : World) (base : Nat) (v : Value) (ss : List ByteArray) : Prop := w.ownsRow base 9 1 v ss.length (ss.map Value.string)
theorem few_next (l : List ByteArray) (m k : Nat) (hk : k < l.length) : fewL l (k + 1) m = fewL l k m ++ [(l[k]).extract 0 m] := by
  simp only [fewL, List.take_succ_eq_append_getElem hk, List.map_append, List.map_cons, List.map_nil]
theorem srcStr1 {W : World} (s : ByteArray) : Src Try.prog 1 25 (.slice (some ⟨W.heap.size, 0, none⟩) 1 1) 1 [.string s] (W.alloc (.cells #[.string s] 9)) :=
  Src.ofSlice _ Try.underlying25 ⟨W.heap.size, 0, none⟩ 1 1 [.string s] rfl (World.news_of_block (t := 9) (fr := (0, 0)) (heap_alloc_new W _)) (by intro u hu; simp at hu; subst hu; rfl)
set_option maxHeartbeats 1600000 in
set_option maxRecDepth 100000 in
theorem few_n (n m : Nat) (hn : n ≤ 1000) (hm : m ≤ 1000000) (v : Value) (l : List ByteArray) (w : World) (hv : SSl w v l) :
    Calls Try.prog 21 #[v, .int .i64 n, .int .i64 m] w fun e w' => ∃ v', e = .returned v' ∧ SOwn w' w.heap.size v' (fewL l n m) ∧ Below w.heap.size w w' := by
  obtain ⟨i0, hi, hz0, hz1, hz2⟩ := info_parts Try.infoStr
  have HV : Hid (SSl w v l) := hv
  obtain ⟨ao, ca, rfl, hca, hcm, _⟩ := hv
  unfold maxLen at hcm
  go_enter Try.func21, Try.ntmps21
  go_wp2
  go_loopw [7, 8] (fun o i wr => ∃ k : Nat, k ≤ l.length ∧ k ≤ n ∧ i = .int .i64 k ∧ SOwn wr w.heap.size o (fewL l k m) ∧ Below w.heap.size w wr) (fun _ i _ => l.length - (intOf i).toNat)
  case atStart => exact ⟨0, Nat.zero_le _, Nat.zero_le _, rfl, World.ownsRow_nil _ _ _ _, Below.refl _ _⟩
  case round =>
    obtain ⟨k, hk, hkn, rfl, ho, hb⟩ := hrel
    have HO := hidden ho
    have HB := hidden hb
    clear ho hb
    obtain ⟨oa, oc, rfl⟩ := ownsRow_shape HO.out
    by_cases hlt : k < l.length
    · have hi1 : (k : Int) < (l.length : Int) := by omega
      by_cases hlt2 : k < n
      · have hi2 : (k : Int) < (n : Int) := by omega
        have hne : l ≠ [] := by rintro rfl; simp at hlt
        have HV1 := HV.out.keep (Keeps.ofFresh (S := fun _ => False) HB.out) (fun _ _ h => h)
        obtain ⟨b1, o1, rfl⟩ := HV1.addr' hne
        have k1 := HV1.cellAt k hlt
        have HN := hidden (few_next l m k hlt)
        have hfl : (fewL l k m).length = k := by simp [fewL]; omega
        generalize l[k] = s at k1 HN
        generalize fewL l k m = F at HO HN hfl
        have HF := hidden hfl
        rw [HF.out]
        clear HV1 hfl
        go_wp2_with fail
        refine (head_c s m hm _).mono ?_
        rintro e w1 ⟨rfl, rfl⟩
        generalize s.extract 0 m = t at HN ⊢
        have hown := HO.out
        unfold SOwn at hown
        rw [HF.out] at hown
        go_wp2_with (at_builtin; refine wpList_append_src _ rfl (.tmp 20) (.tmp 27) 25 25 rfl w.heap.size 9 i0 _ 16 Try.underlying25 hi hz0 hz1 hz2 rfl _ _ _ rfl (hown.alloc _) _ 1 [.string t] rfl (srcStr1 t) (by unfold maxLen; omega) (by omega) (by have := HB.out.size; simp; omega) (w1.heap.size + 1) (by simp) ?_)
        intro v' w2 hown' hgrow hnil hat
        obtain ⟨ao', cp', rfl⟩ := ownsRow_shape hown'
        have HO2 := hidden hown'
        have HG := hidden hgrow
        clear hown' hgrow hnil hat hown
        go_wp2
        go_roundw
        case rel =>
          refine ⟨k + 1, by omega, by omega, by go_num, ?_, ?_⟩
          · unfold SOwn
            rw [HN.out, List.length_append, HF.out, List.map_append]
            exact HO2.out
          · exact (HB.out.alloc HB.out.size _).grown HG.out (by have := HB.out.size; simp; omega) (fun g hg => (HO.out.lt g (by rw [HF.out]; exact hg)).1)
        case measure => simp [intOf]; omega
      · have hi2 : ¬ (k : Int) < (n : Int) := by omega
        have HE : Hid (fewL l k m = fewL l n m) := by have : k = n := by omega
                                                      subst this; rfl
        go_wp2
        go_ret
        exact ⟨_, rfl, HE.out ▸ HO.out, HB.out⟩
    · have hi1 : ¬ (k : Int) < (l.length : Int) := by omega
      have HE : Hid (fewL l k m = fewL l n m) := by
        show _ = _
        simp only [fewL]
        rw [List.take_of_length_le (by omega), List.take_of_length_le (by omega)]
      go_wp2
      go_ret
      exact ⟨_, rfl, HE.out ▸ HO.out, HB.out⟩
theorem SOwn.ssl {w : World} {base : Nat} {v : Value} {ss : List ByteArray} (h : SOwn w base v ss) : SSl w v ss := SSl.ofRow h
/-- The list back to front, as far as k. -/
theorem SOwn.below {w w' : World} {base B : Nat} {v : Value} {ss : List ByteArray} (h : SOwn w base v ss) (hb : Below B w w') (hv : ∀ k, v.ownBlock = some k → k < B) : SOwn w' base v ss :=
  (Keeps.ofBelow (S := fun k => B ≤ k) hb fun _ _ h => h).row h fun k hk hB => absurd (hv k hk) (by omega)
theorem SSl.src {w : World} {v : Value} {ss : List ByteArray} (h : SSl w v ss) : Src Try.prog 1 25 v ss.length (ss.map Value.string) w := by
  obtain ⟨ao, cap, rfl, _, _, hn, hc⟩ := h
  cases ao with
  | none =>
    obtain ⟨rfl, rfl⟩ := hn rfl
    exact Src.ofNil w Try.underlying25 0
  | some ad =>
    by_cases hx : ss = []
    · subst hx
      exact Src.ofSlice w Try.underlying25 ad 0 cap [] rfl (fun j u h => by simp at h) (fun u h => by cases h)
    obtain ⟨b, off, rfl, hcell⟩ := hc ad rfl hx
    refine Src.ofSlice w Try.underlying25 _ _ _ _ (by simp) (fun j u hu => ?_) (fun u hu => ?_)
    · rw [add_lit']
      rw [List.getElem?_map] at hu
      cases e : ss[j]? with
      | none => rw [e] at hu; cases hu
      | some x => rw [e] at hu; cases hu; exact hcell j x e
    · obtain ⟨x, _, rfl⟩ := List.mem_map.1 hu
      rfl

end Go.Proofs.Ytnigfnikajejaab
