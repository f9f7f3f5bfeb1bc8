/- What the document's own writers answer: U32, Text, Bare, Mpint. -/
import Derived.Test.YtllkafhooapcbaaDoorKwA
namespace Go.Proofs.YtllkafhooapcbaaDoor
open Go Go.RowKit

theorem be4_cells (n : Nat) (h : n < 4294967296) : (#[.int .u8 ((n : Int) / 16777216), .int .u8 ((n : Int) / 65536 % 256), .int .u8 ((n : Int) / 256 % 256), .int .u8 ((n : Int) % 256)] : Array Value) = (bcells (be 4 n)).toArray := by
  simp [be, bcells]
  omega
set_option maxHeartbeats 400000 in
set_option maxRecDepth 100000 in
theorem ru32_c (n : Int) (h0 : 0 ≤ n) (h1 : n < 4294967296) (v : Value) (xs : List UInt8) (w : World) (hv : BSl w v xs) (hl : xs.length + 4 ≤ 140737488355328) :
    Calls Tryd.prog 47 #[v, .int .u32 n] w fun e w' => Fresh w (xs ++ be 4 n.toNat) e w' := by
  obtain ⟨n, rfl⟩ := Int.eq_ofNat_of_zero_le h0
  rw [Int.toNat_natCast]
  obtain ⟨i0, hi, hz0, hz1, hz2⟩ := info_parts Tryd.infoU8
  have hsrc := (hv.alloc (.cells #[] 5)).src
  go_enter Tryd.func47, Tryd.ntmps47
  go_wp2_with (at_builtin; refine wpList_append_src _ rfl (.tmp 5) (.tmp 6) 22 22 rfl w.heap.size 5 i0 _ 1 Tryd.underlying22 hi hz0 hz1 hz2 rfl _ _ _ rfl (World.ownsRow_made w #[] 0 (Nat.le_refl _) (Nat.zero_le _) rfl) _ xs.length (bcells xs) rfl hsrc (by unfold maxLen; omega) (by omega) (by simp) (w.heap.size + 1) (by simp) ?_)
  intro v1 w1 hown1 hgrow1 hnil1 hat1
  have hb1 : Below w.heap.size w w1 := ((Below.refl _ w).alloc (Nat.le_refl _) _).grown hgrow1 (by simp) (by intro k hk; simp [Value.ownBlock] at hk; omega)
  have hown2 : w1.ownsRow w.heap.size 5 1 v1 xs.length (bcells xs) := by simpa using hown1
  clear hown1 hgrow1 hnil1 hat1 hsrc
  have hs1 := hb1.size
  go_wp2_with (at_builtin; refine wpList_append_src _ rfl (.tmp 7) (.tmp 19) 22 22 rfl w.heap.size 5 i0 _ 1 Tryd.underlying22 hi hz0 hz1 hz2 rfl _ _ _ rfl (hown2.alloc _) _ 4 (bcells (be 4 n)) rfl ?qs (by unfold maxLen; omega) (by omega) (by simp; omega) (w1.heap.size + 1) (by simp) ?_)
  case qs => exact srcBlock (xs := be 4 n) (be4_cells n (by omega)) (heap_alloc_new w1 _)
  intro v2 w2 hown3 hgrow3 hnil3 hat3
  have hb2 : Below w.heap.size w w2 := (hb1.alloc hs1 _).grown hgrow3 (by simp; omega) (fun k hk => (hown2.lt k hk).1)
  clear hgrow3 hnil3 hat3
  go_wp2
  go_ret
  exact ⟨v2, rfl, by rw [List.length_append, be_length, bcells_append]; exact hown3, hb2⟩
set_option maxHeartbeats 400000 in
set_option maxRecDepth 100000 in
theorem rtext_c (s : ByteArray) (hs : s.size < 4294967296) (v : Value) (xs : List UInt8) (w : World) (hv : BSl w v xs) (hl : xs.length + s.size + 8 ≤ 140737488355328) :
    Calls Tryd.prog 39 #[v, .string s] w fun e w' => Fresh w (xs ++ textBytes s.data.toList) e w' := by
  obtain ⟨i0, hi, hz0, hz1, hz2⟩ := info_parts Tryd.infoU8
  go_enter Tryd.func39, Tryd.ntmps39
  go_wp2_with fail
  refine (ru32_c _ (by omega) (by omega) v xs _ hv (by omega)).mono ?_
  rintro e w1 ⟨v1, rfl, ho1, hb1⟩
  rw [Int.toNat_natCast] at ho1
  have hbl : (xs ++ be 4 s.size).length = xs.length + 4 := by simp [be_length]
  rw [hbl] at ho1
  clear hbl
  have hs1 := hb1.size
  have hsrc := Src.ofString (P := Tryd.prog) w1 Tryd.underlying9 s
  go_wp2_with (at_builtin; refine wpList_append_src _ rfl (.tmp 9) (.tmp 10) 22 9 rfl w.heap.size 5 i0 _ 1 Tryd.underlying22 hi hz0 hz1 hz2 rfl _ _ _ rfl ho1 _ s.size (byteCells s) rfl hsrc (by unfold maxLen; omega) (by omega) (by omega) w1.heap.size rfl ?_)
  intro v2 w2 ho2 hgrow2 hnil2 hat2
  have hb2 : Below w.heap.size w w2 := hb1.grown hgrow2 hs1 (fun k hk => (ho1.lt k hk).1)
  clear hgrow2 hnil2 hat2
  go_wp2
  go_ret
  refine ⟨v2, rfl, ?_, hb2⟩
  have e1 : (xs ++ textBytes s.data.toList).length = xs.length + 4 + s.size := by
    have : s.data.toList.length = s.size := by rw [Array.length_toList]; rfl
    simp only [textBytes, List.length_append, be_length, this]; omega
  have e2 : bcells (xs ++ textBytes s.data.toList) = bcells (xs ++ be 4 s.size) ++ byteCells s := by
    rw [byteCells_eq, ← bcells_append, List.append_assoc]; rfl
  rw [e1, e2]
  exact ho2
theorem srcNone (a : Addr) (c : Nat) (w : World) : Src Tryd.prog 1 22 (.slice (some a) 0 c) 0 [] w :=
  Src.ofSlice w Tryd.underlying22 a 0 c [] rfl (fun j u h => by simp at h) (fun u h => by cases h)
theorem BSl.srcDrop {w : World} {b off n cap c : Nat} {xs : List UInt8} (h : BSl w (.slice (some ⟨b, off, none⟩) n cap) xs) (k : Nat) (hk : k < xs.length) :
    Src Tryd.prog 1 22 (.slice (some ⟨b, off + k, none⟩) (xs.length - k) c) (xs.length - k) (bcells (xs.drop k)) w := by
  obtain ⟨ao, cap, e, h1, h2, h3, hc⟩ := h
  cases e
  obtain ⟨b', off', e, hcell⟩ := hc _ rfl (by rintro rfl; simp at hk)
  cases e
  refine Src.ofSlice w Tryd.underlying22 _ _ _ _ (by simp [bcells_length]) (fun j u hu => ?_) bcells_one
  rw [add_lit', Nat.add_assoc]
  refine hcell _ u ?_
  rw [← hu]
  simp [bcells]
set_option maxHeartbeats 400000 in
set_option maxRecDepth 100000 in
theorem rbare_c (v : Value) (xs : List UInt8) (w : World) (hv : BSl w v xs) (hl : xs.length + 1 ≤ 140737488355328) :
    Calls Tryd.prog 48 #[v] w fun e w' => Fresh w (bare xs) e w' := by
  obtain ⟨i0, hi, hz0, hz1, hz2⟩ := info_parts Tryd.infoU8
  have HV : Hid (BSl w v xs) := hv
  cases xs with
  | nil =>
    obtain ⟨ao, cap, rfl⟩ := hv.nil
    clear hv
    go_enter Tryd.func48, Tryd.ntmps48
    go_wp2
    refine wp_loop_rounds 1 ?_
    rw [rounds_succ]
    have hsrc := (HV.out.alloc (.cells #[] 5)).src
    go_wp2_with (at_builtin; refine wpList_append_src _ rfl (.tmp 17) (.tmp 20) 22 22 rfl w.heap.size 5 i0 _ 1 Tryd.underlying22 hi hz0 hz1 hz2 rfl _ _ _ rfl (World.ownsRow_made w #[] 0 (Nat.le_refl _) (Nat.zero_le _) rfl) _ 0 (bcells ([])) rfl ?qs ?q63 ?qb (by simp) (w.heap.size + 1) (by simp) ?_)
    case qs => exact hsrc
    case q63 => simp [maxLen]
    case qb => simp
    intro v1 w1 hown1 hgrow1 hnil1 hat1
    have hb1 : Below w.heap.size w w1 := ((Below.refl _ w).alloc (Nat.le_refl _) _).grown hgrow1 (by simp) (by intro k hk; simp [Value.ownBlock] at hk; omega)
    clear hgrow1 hnil1 hat1
    go_wp2
    go_ret
    exact ⟨v1, rfl, by simpa [bare] using hown1, hb1⟩
  | cons x xs =>
    obtain ⟨b, off, cap, rfl, hc1, hc2, hob⟩ := hv.cons
    clear hv hob
    unfold maxLen at hc2
    generalize hys : x :: xs = ys at *
    have hpos : 0 < ys.length := by rw [← hys]; simp
    clear hys
    go_enter Tryd.func48, Tryd.ntmps48
    go_wp2
    go_loop [3] (fun i => ∃ k : Nat, k ≤ ys.length ∧ i = .int .i64 k ∧ bare (ys.drop k) = bare ys) (fun i => ys.length - (intOf i).toNat)
    case atStart => exact ⟨0, Nat.zero_le _, rfl, rfl⟩
    case round =>
      obtain ⟨k, hk, rfl, hbk⟩ := hrel
      have HBK : Hid (bare (ys.drop k) = bare ys) := hbk
      clear hbk
      by_cases hlt : k < ys.length
      · have hc := HV.out.cellAt k hlt
        by_cases hz : ys[k] = 0
        · have hzz : ((ys[k].toNat : Int) == 0) = true := by rw [hz]; rfl
          have HN : Hid (bare (ys.drop (k + 1)) = bare ys) := by
            rw [← HBK.out, List.drop_eq_getElem_cons hlt, hz]; simp [bare, Hid]
          go_wp2
          go_round
          case rel => exact ⟨k + 1, by omega, by go_num, HN.out⟩
          case measure => simp [intOf]; omega
        · have hzz : ((ys[k].toNat : Int) == 0) = false := by
            have : ys[k].toNat ≠ 0 := fun h => hz (UInt8.toNat_inj.1 h)
            simp [this]
          have HN : Hid (bare ys = ys.drop k) := by
            show bare ys = ys.drop k
            rw [← HBK.out, List.drop_eq_getElem_cons hlt, bare_fix _ _ hz]
          go_wp2_with (at_builtin; refine wpList_append_src _ rfl (.tmp 17) (.tmp 20) 22 22 rfl w.heap.size 5 i0 _ 1 Tryd.underlying22 hi hz0 hz1 hz2 rfl _ _ _ rfl (World.ownsRow_made w #[] 0 (Nat.le_refl _) (Nat.zero_le _) rfl) _ (ys.length - k) (bcells (ys.drop k)) rfl ?qs ?q63 ?qb (by simp) (w.heap.size + 1) (by simp) ?_)
          case qs => exact (HV.out.alloc _).srcDrop k hlt
          case q63 => unfold maxLen; omega
          case qb => omega
          intro v1 w1 hown1 hgrow1 hnil1 hat1
          have hb1 : Below w.heap.size w w1 := ((Below.refl _ w).alloc (Nat.le_refl _) _).grown hgrow1 (by simp) (by intro k hk; simp [Value.ownBlock] at hk; omega)
          clear hgrow1 hnil1 hat1
          go_wp2
          go_ret
          refine ⟨v1, rfl, ?_, hb1⟩
          rw [HN.out, List.length_drop]
          simpa using hown1
      · have HN : Hid (bare ys = []) := by
          show bare ys = []
          rw [← HBK.out, List.drop_of_length_le (by omega)]; rfl
        have hke : k = ys.length := by omega
        subst hke
        by_cases hcap : cap = ys.length
        all_goals
          go_wp2_with (at_builtin; refine wpList_append_src _ rfl (.tmp 17) (.tmp 20) 22 22 rfl w.heap.size 5 i0 _ 1 Tryd.underlying22 hi hz0 hz1 hz2 rfl _ _ _ rfl (World.ownsRow_made w #[] 0 (Nat.le_refl _) (Nat.zero_le _) rfl) _ 0 [] rfl (srcNone _ _ _) (by simp [maxLen]) (by simp) (by simp) (w.heap.size + 1) (by simp) ?_)
          intro v1 w1 hown1 hgrow1 hnil1 hat1
          have hb1 : Below w.heap.size w w1 := ((Below.refl _ w).alloc (Nat.le_refl _) _).grown hgrow1 (by simp) (by intro k hk; simp [Value.ownBlock] at hk; omega)
          clear hgrow1 hnil1 hat1
          go_wp2
          go_ret
          refine ⟨v1, rfl, ?_, hb1⟩
          rw [HN.out]
          simpa [bcells] using hown1
theorem ba_append (a b : List UInt8) : ((⟨a.toArray⟩ : ByteArray) ++ ⟨b.toArray⟩) = ⟨(a ++ b).toArray⟩ := by
  apply ByteArray.ext
  simp
theorem ba_nil (s : ByteArray) : ((⟨#[]⟩ : ByteArray) ++ s) = s := by
  apply ByteArray.ext
  simp
theorem ba_self (s : ByteArray) : s = ⟨s.data.toList.toArray⟩ := by
  apply ByteArray.ext
  simp
theorem mp_text (ns : List UInt8) : mpBytes ns = textBytes (match bare ns with | [] => [] | x :: r => if 128 ≤ x.toNat then 0 :: x :: r else x :: r) := by
  unfold mpBytes textBytes
  cases bare ns with
  | nil => rfl
  | cons x r => by_cases h : 128 ≤ x.toNat <;> simp [h]
set_option maxHeartbeats 800000 in
set_option maxRecDepth 100000 in
theorem rmpint_c (u : Value) (ns : List UInt8) (hn : ns.length + 1 < 4294967296) (v : Value) (xs : List UInt8) (w : World) (hv : BSl w v xs) (hu : BSl w u ns) (hl : xs.length + ns.length + 16 ≤ 140737488355328) :
    Calls Tryd.prog 40 #[v, u] w fun e w' => Fresh w (xs ++ mpBytes ns) e w' := by
  obtain ⟨i0, hi, hz0, hz1, hz2⟩ := info_parts Tryd.infoU8
  have hble := bare_le ns
  have HM := mp_text ns
  go_enter Tryd.func40, Tryd.ntmps40
  go_wp2_with fail
  refine (rbare_c u ns _ hu (by omega)).mono ?_
  rintro e w1 ⟨v1, rfl, ho1, hb1⟩
  have hv1 := hv.fresh hb1
  have H1 : Hid (BSl w1 v1 (bare ns)) := BSl.ofRow ho1
  generalize hbs : bare ns = bs at *
  have HBS : Hid (bare ns = bs) := hbs
  clear hbs
  have HM2 : Hid (_ = _) := HM
  clear HM hu hv
  cases bs with
  | nil =>
    obtain ⟨ao, cap, rfl⟩ := BSl.nil H1.out
    have hcv := run_string H1.out
    go_wp2_with fail
    refine (rtext_c ⟨[].toArray⟩ (by rw [size_list]; simp) v xs _ hv1 (by rw [size_list]; simp; omega)).mono ?_
    rintro e w2 hf
    obtain ⟨v2, rfl, ho2, hb2⟩ := Fresh.next hb1 hf
    go_wp2
    go_ret
    exact ⟨v2, rfl, by rw [HM2.out]; exact ho2, hb2⟩
  | cons x r =>
    obtain ⟨b, off, cap, rfl, hc1, hc2, hob⟩ := BSl.cons H1.out
    have h0 := BSl.head H1.out
    simp only [List.length_cons] at hble hc1
    unfold maxLen at hc2
    have hs1 := hb1.size
    clear hob
    by_cases ht : 128 ≤ x.toNat
    · have ht1 : (128 : Int) ≤ (x.toNat : Int) := by omega
      have hsrc := (BSl.alloc H1.out (.cells #[.int .u8 0] 5)).src
      have hlit : (w1.alloc (.cells #[.int .u8 0] 5)).ownsRow w1.heap.size 5 1 (.slice (some ⟨w1.heap.size, 0, none⟩) 1 1) 1 [.int .u8 0] := World.ownsRow_lit w1 #[.int .u8 0] 1 (Nat.le_refl _) (by simp [maxLen]) rfl
      go_wp2_with (at_builtin; refine wpList_append_src _ rfl (.tmp 17) (.tmp 18) 22 22 rfl w1.heap.size 5 i0 _ 1 Tryd.underlying22 hi hz0 hz1 hz2 rfl _ _ _ rfl hlit _ (r.length + 1) (bcells (x :: r)) rfl hsrc (by unfold maxLen; omega) (by omega) (by simp) (w1.heap.size + 1) (by simp) ?_)
      intro v2 w2 ho2 hgrow2 hnil2 hat2
      have hb2 : Below w1.heap.size w1 w2 := ((Below.refl _ w1).alloc (Nat.le_refl _) _).grown hgrow2 (by simp) (by intro k hk; simp [Value.ownBlock] at hk; omega)
      have hv2 := hv1.fresh hb2
      have hb3 := hb1.trans (hb2.mono hs1)
      have ho3 : w2.ownsRow w1.heap.size 5 1 v2 (1 + (r.length + 1)) (bcells (0 :: x :: r)) := ho2
      have hcv := run_string (BSl.ofRow ho3)
      obtain ⟨ao, cp, rfl⟩ := ownsRow_shape ho3
      clear hgrow2 hnil2 hat2 ho2 ho3 hlit hsrc
      go_wp2_with fail
      refine (rtext_c ⟨(0 :: x :: r).toArray⟩ (by rw [size_list]; simp; omega) v xs _ hv2 (by rw [size_list]; simp; omega)).mono ?_
      rintro e w3 hf
      obtain ⟨v3, rfl, ho4, hb4⟩ := Fresh.next hb3 hf
      go_wp2
      go_ret
      exact ⟨v3, rfl, by rw [HM2.out]; simpa [ht] using ho4, hb4⟩
    · have ht1 : ¬ (128 : Int) ≤ (x.toNat : Int) := by omega
      have hcv : (convert 22 9 (.slice (some ⟨b, off, none⟩) (r.length + 1) cap)).run Tryd.prog w1 = .ok (.string ⟨(x :: r).toArray⟩) w1 := run_string H1.out
      go_wp2_with fail
      refine (rtext_c ⟨(x :: r).toArray⟩ (by rw [size_list]; simp; omega) v xs _ hv1 (by rw [size_list]; simp; omega)).mono ?_
      rintro e w3 hf
      obtain ⟨v3, rfl, ho4, hb4⟩ := Fresh.next hb1 hf
      go_wp2
      go_ret
      exact ⟨v3, rfl, by rw [HM2.out]; simpa [ht] using ho4, hb4⟩
end Go.Proofs.YtllkafhooapcbaaDoor
