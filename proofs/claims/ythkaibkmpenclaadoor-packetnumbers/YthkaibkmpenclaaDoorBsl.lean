/- Slices of bytes: what they hold, what is read of them, what the helpers Within, Cut, Roomy, Same and Intact do. -/
import Derived.Test.YthkaibkmpenclaaDoorProg
import Derived.Test.YthkaibkmpenclaaDoorBase
import Derived.Outline
import Derived.Laws.BitsAllLaws
import Derived.Laws.CopyOwn
import Derived.OwnWalk
import Derived.OneCell
import Derived.Deep.QuietTactic
import Derived.BigQuiet
namespace Go.Proofs.YthkaibkmpenclaaDoor
open Go Go.RowKit

theorem Tryd.infoU8 : (Tryd.prog.info? 5).map (fun i => (i.zero, i.size, i.bytes)) = some (some (.int .u8 0), 1, 1) := by kernel_rfl
def byteOf (n : Int) : UInt8 := UInt8.ofNat (n % 256).toNat
theorem byteOf_nat (n : Int) : ((byteOf n).toNat : Int) = n % 256 := by
  unfold byteOf
  simp
  omega
theorem srcOne (w : World) (x : Int) : Src Tryd.prog 1 22 (.slice (some ⟨w.heap.size, 0, none⟩) 1 1) 1 [.int .u8 x] (w.alloc (.cells #[.int .u8 x] 5)) :=
  Src.ofSlice _ Tryd.underlying22 ⟨w.heap.size, 0, none⟩ 1 1 [.int .u8 x] rfl (by intro j u hj; match j, hj with | 0, hj => simp at hj; subst hj; simp [Addr.add]) (by intro u hu; simp at hu; subst hu; rfl)
theorem ownsRow_shape {w : World} {base : Nat} {e : TypeId} {size : Nat} {v : Value} {n : Nat} {xs : List Value} (h : w.ownsRow base e size v n xs) : ∃ ao cap, v = .slice ao n cap := by
  rcases h.2 with ⟨rfl, rfl⟩ | ⟨g, cap, _, rfl, _⟩
  · exact ⟨none, 0, rfl⟩
  · exact ⟨some ⟨g, 0, none⟩, cap, rfl⟩
/-- The slice value v reads as the bytes xs in w. -/
def BSl (w : World) (v : Value) (xs : List UInt8) : Prop :=
  ∃ ao cap, v = .slice ao xs.length cap ∧ xs.length ≤ cap ∧ cap ≤ maxLen ∧ (ao = none → xs = [] ∧ cap = 0) ∧
    ∀ ad, ao = some ad → xs ≠ [] → ∃ b off, ad = ⟨b, off, none⟩ ∧ ∀ j u, (bcells xs)[j]? = some u → w.cell? ⟨b, off + j, none⟩ = some u
theorem add_lit' (b off j : Nat) : (⟨b, off, none⟩ : Addr).add j = ⟨b, off + j, none⟩ := by unfold Addr.add; split <;> simp_all
theorem BSl.src {w : World} {v : Value} {xs : List UInt8} (h : BSl w v xs) : Src Tryd.prog 1 22 v xs.length (bcells xs) w := by
  obtain ⟨ao, cap, rfl, _, _, hn, hc⟩ := h
  cases ao with
  | none =>
    obtain ⟨rfl, rfl⟩ := hn rfl
    exact Src.ofNil w Tryd.underlying22 0
  | some ad =>
    by_cases hx : xs = []
    · subst hx
      exact Src.ofSlice w Tryd.underlying22 ad 0 cap [] rfl (fun j u h => by simp at h) (fun u h => by cases h)
    obtain ⟨b, off, rfl, hcell⟩ := hc ad rfl hx
    exact Src.ofSlice w Tryd.underlying22 _ _ _ _ (by simp [bcells_length]) (fun j u hu => by rw [add_lit']; exact hcell j u hu) bcells_one
theorem BSl.keep {S : Nat → Prop} {w w' : World} {v : Value} {xs : List UInt8} (h : BSl w v xs) (hk : Keeps S w w') (hn : ∀ k, v.ownBlock = some k → ¬ S k) : BSl w' v xs := by
  obtain ⟨ao, cap, rfl, h1, h2, h3, hc⟩ := h
  refine ⟨ao, cap, rfl, h1, h2, h3, ?_⟩
  rintro ad rfl hx
  obtain ⟨b, off, rfl, hcell⟩ := hc ad rfl hx
  exact ⟨b, off, rfl, fun j u hu => hk.cell (hcell j u hu) (hn b rfl)⟩
theorem BSl.ofRow {w : World} {base : Nat} {v : Value} {n : Nat} {xs : List UInt8} (h : w.ownsRow base 5 1 v n (bcells xs)) : BSl w v xs := by
  have hl : xs.length = n := by have := h.1; rw [bcells_length] at this; omega
  subst hl
  have h0 := h
  rcases h.2 with ⟨rfl, h1⟩ | ⟨g, cap, cur, rfl, _, _, h2, h3, _⟩
  · exact ⟨none, 0, by rw [h1], by omega, by simp [maxLen], fun _ => ⟨List.eq_nil_of_length_eq_zero h1, rfl⟩, (fun ad e => by cases e)⟩
  · refine ⟨some ⟨g, 0, none⟩, cap, rfl, h2, h3, (fun e => by cases e), ?_⟩
    rintro ad e _
    cases e
    exact ⟨g, 0, rfl, fun j u hu => by have := h0.cells (g := g) rfl j u hu; rwa [add_lit'] at this⟩
theorem BSl.head {w : World} {b off cap : Nat} {x : UInt8} {xs : List UInt8} (h : BSl w (.slice (some ⟨b, off, none⟩) (x :: xs).length cap) (x :: xs)) : w.cell? ⟨b, off, none⟩ = some (.int .u8 x.toNat) := by
  obtain ⟨ao, cap, e, h1, h2, h3, hc⟩ := h
  cases e
  obtain ⟨b', off', e, hcell⟩ := hc _ rfl (by simp)
  cases e
  simpa using hcell 0 (.int .u8 x.toNat) rfl
/-- A slice of bytes has an address where it has an element. -/
theorem BSl.cons {w : World} {v : Value} {x : UInt8} {xs : List UInt8} (h : BSl w v (x :: xs)) : ∃ b off cap, v = .slice (some ⟨b, off, none⟩) (x :: xs).length cap ∧ (x :: xs).length ≤ cap ∧ cap ≤ maxLen ∧ v.ownBlock = some b := by
  obtain ⟨ao, cap, rfl, h1, h2, h3, hc⟩ := h
  cases ao with
  | none => have := (h3 rfl).1; cases this
  | some ad => obtain ⟨b, off, rfl, _⟩ := hc ad rfl (by simp); exact ⟨b, off, cap, rfl, h1, h2, rfl⟩
theorem BSl.nil {w : World} {v : Value} (h : BSl w v []) : ∃ ao cap, v = .slice ao 0 cap := by
  obtain ⟨ao, cap, rfl, _⟩ := h
  exact ⟨ao, cap, rfl⟩
theorem BSl.blockLt {w : World} {v : Value} {x : UInt8} {xs : List UInt8} (h : BSl w v (x :: xs)) : ∀ k, v.ownBlock = some k → k < w.heap.size := by
  obtain ⟨b, off, cap, rfl, _, _, hb⟩ := h.cons
  intro k hk
  rw [hb] at hk
  cases hk
  exact World.block_lt_of_cell? _ _ h.head
theorem eqlNil : ∀ (w : World) (a : Option Addr) (n c n' c' : Nat), (binOp .eql 22 (.slice a n c) (.slice none n' c')).run Tryd.prog w = .ok (.bool a.isNone) w := fun w a n c n' c' => Lib.run_eql_slice_nil w _ _ a n c n' c' Tryd.underlying22
theorem BSl.alloc {w : World} {v : Value} {xs : List UInt8} (h : BSl w v xs) (o : Obj) : BSl (w.alloc o) v xs := h.keep (S := fun _ => False) ((Keeps.refl _ _).alloc o) fun _ _ h => h
theorem BSl.fresh {w w' : World} {v : Value} {xs : List UInt8} (h : BSl w v xs) (hb : Below w.heap.size w w') : BSl w' v xs :=
  h.keep (S := fun _ => False) (Keeps.ofFresh hb) fun _ _ h => h
theorem size_list (l : List UInt8) : (⟨l.toArray⟩ : ByteArray).size = l.length := by simp [ByteArray.size]
/-- A byte slice as a string. -/
theorem BSl.cellAt {w : World} {b off n cap : Nat} {xs : List UInt8} (h : BSl w (.slice (some ⟨b, off, none⟩) n cap) xs) (k : Nat) (hk : k < xs.length) : w.cell? ⟨b, off + k, none⟩ = some (.int .u8 (xs[k].toNat)) := by
  obtain ⟨ao, cap, e, h1, h2, h3, hc⟩ := h
  cases e
  obtain ⟨b', off', e, hcell⟩ := hc _ rfl (by rintro rfl; simp at hk)
  cases e
  exact hcell k _ (by simp [bcells, hk])
theorem Keeps.drewN {S : Nat → Prop} {a w : World} (h : Keeps S a w) (n : Nat) : Keeps S a (w.drewN n) := ⟨h.os, h.tape, h.output, h.size, h.block⟩
theorem ownBlock_any (ao : Option Addr) (n c n' c' : Nat) : (Value.slice ao n c).ownBlock = (Value.slice ao n' c').ownBlock := by
  cases ao <;> rfl
theorem run_string {w : World} {v : Value} {xs : List UInt8} (h : BSl w v xs) : (convert 22 9 v).run Tryd.prog w = .ok (.string ⟨xs.toArray⟩) w := by
  obtain ⟨ao, cap, rfl, h1, h2, h3, hc⟩ := h
  cases ao with
  | none =>
    obtain ⟨rfl, rfl⟩ := h3 rfl
    rw [run_convert_bytes_string w _ _ _ _ _ _ Tryd.underlying22 Tryd.underlying5 Tryd.underlying9]
    rfl
  | some ad =>
    by_cases hx : xs = []
    · subst hx
      exact run_convert_bytes_back w _ _ _ ad _ [] Tryd.underlying22 Tryd.underlying5 Tryd.underlying9 fun j hj => by simp at hj
    obtain ⟨b, off, rfl, hcell⟩ := hc ad rfl hx
    refine run_convert_bytes_back w _ _ _ _ _ _ Tryd.underlying22 Tryd.underlying5 Tryd.underlying9 fun j hj => ?_
    rw [add_lit']
    exact hcell j _ (by simp [bcells, hj])
theorem srcBlock {W : World} {B : Nat} {xs : List UInt8} {cs : Array Value} (hcs : cs = (bcells xs).toArray) (hb : W.heap[B]? = some (.cells cs 5 (0, 0))) : Src Tryd.prog 1 22 (.slice (some ⟨B, 0, none⟩) xs.length xs.length) xs.length (bcells xs) W := by
  subst hcs
  exact Src.ofSlice _ Tryd.underlying22 ⟨B, 0, none⟩ _ _ _ (by simp [bcells_length]) (World.news_of_block (t := 5) (fr := (0, 0)) hb) bcells_one
/-- What a call answers that makes a byte slice: fresh, it reads as xs; what was there stays. -/
def Fresh (w : World) (xs : List UInt8) (e : Ending) (w' : World) : Prop :=
  ∃ v', e = .returned v' ∧ w'.ownsRow w.heap.size 5 1 v' xs.length (bcells xs) ∧ Below w.heap.size w w'
theorem Fresh.next {w w1 : World} (hb : Below w.heap.size w w1) {ys : List UInt8} {e : Ending} {w2 : World} (h2 : Fresh w1 ys e w2) : Fresh w ys e w2 := by
  obtain ⟨v', rfl, h3, h4⟩ := h2
  refine ⟨v', rfl, ⟨h3.1, ?_⟩, hb.trans (h4.mono hb.size)⟩
  rcases h3.2 with h5 | ⟨g, cap, cur, h6, h7, rest⟩
  · exact .inl h5
  · exact .inr ⟨g, cap, cur, h6, Nat.le_trans hb.size h7, rest⟩
set_option maxHeartbeats 400000 in
theorem within_c (n : Int) (h : Nat) (hh : h ≤ 1000000000) (w : World) :
    Calls Tryd.prog 22 #[.int .i64 n, .int .i64 0, .int .i64 h] w fun e w' => ∃ k : Nat, e = .returned (.int .i64 k) ∧ k ≤ h ∧ w' = w := by
  have hr0 : -(h : Int) ≤ n.tmod ((h : Int) + 1) := by
    by_cases hn : 0 ≤ n
    · have := Int.tmod_nonneg ((h : Int) + 1) hn; omega
    · have h1 := Int.lt_tmod_of_pos n (show (0 : Int) < (h : Int) + 1 by omega); omega
  have hr1 : n.tmod ((h : Int) + 1) ≤ h := by
    have := Int.tmod_lt_of_pos n (show (0 : Int) < (h : Int) + 1 by omega); omega
  go_enter Tryd.func22, Tryd.ntmps22
  go_wp2
  · go_ret
    exact ⟨(n.tmod ((h : Int) + 1) + h + 1).toNat, by rw [Int.toNat_of_nonneg (by omega)]; rfl, by omega, rfl⟩
  · go_ret
    exact ⟨(n.tmod ((h : Int) + 1)).toNat, by rw [Int.toNat_of_nonneg (by omega)]; rfl, by omega, rfl⟩
theorem set_next (A Z : List Value) (u : Value) (n : Nat) (hn : A.length = n) (hZ : Z ≠ []) : (A ++ Z).toArray.setIfInBounds n u = ((A ++ [u]) ++ Z.drop 1).toArray := by
  subst hn
  cases Z with
  | nil => exact absurd rfl hZ
  | cons z r => simp
theorem cell_row {w : World} {g : Nat} {cs : List Value} {t : TypeId} (h : w.heap[g]? = some (.cells cs.toArray t (0, 0))) (i : Nat) : w.cell? ⟨g, i, none⟩ = cs[i]? := by
  simp [World.cell?, h]
theorem frozen_row {w : World} {g : Nat} {cs : Array Value} {t : TypeId} (h : w.heap[g]? = some (.cells cs t (0, 0))) (j : Nat) : w.frozen? ⟨g, j, none⟩ = false := by simp [World.frozen?, h]
theorem copy_run {w w1 : World} {g N cap : Nat} {ao : Option Addr} {xs : List UInt8} {Z : List Value} (hv : BSl w1 (.slice ao xs.length cap) xs) (hb : Below w.heap.size w w1) (hB : w.heap.size ≤ g) (hg : w1.heap[g]? = some (.cells Z.toArray 5 (0, 0))) (hZ : xs.length ≤ Z.length) (hN : xs.length ≤ N) (hs : (Tryd.prog.info? 5).map (·.size) = some 1) :
    ∃ w2, (Builtin.copy_ #[22, 22] 3 #[.slice (some ⟨g, 0, none⟩) N N, .slice ao xs.length cap]).run Tryd.prog w1 = .ok (goInt xs.length) w2 ∧ w2.heap[g]? = some (.cells (bcells xs ++ Z.drop xs.length).toArray 5 (0, 0)) ∧ Below w.heap.size w w2 := by
  by_cases hne : xs = []
  · subst hne
    exact ⟨w1, run_copy_none (P := Tryd.prog) w1 _ _ _ 5 _ _ _ _ _ _ Tryd.underlying22 hs (by simp), by simpa [bcells] using hg, hb⟩
  · obtain ⟨ao', cap', e, _, _, h3, h4⟩ := hv
    cases e
    cases ao with
    | none => exact absurd (h3 rfl).1 hne
    | some ad =>
      obtain ⟨b, off, rfl, hc⟩ := h4 ad rfl hne
      have hr := run_copy_row (P := Tryd.prog) w1 22 22 3 5 g 0 N N ⟨b, off, none⟩ xs.length cap Z.toArray 5 (bcells xs) Tryd.underlying22 hs hg (by rw [bcells_length]; exact (Nat.min_eq_left hN).symm) (fun j u hu => by rw [add_lit']; exact hc j u hu) (by rw [bcells_length]; simpa using hZ) (fun u hu => bcells_one u hu)
      rw [bcells_length] at hr
      refine ⟨_, hr, ?_, below_setRow hb hB _⟩
      have := setRow_heap w1 g Z.toArray (bcells xs ++ Z.drop xs.length).toArray 5 (0, 0) hg
      simpa using this
set_option maxHeartbeats 800000 in
set_option maxRecDepth 100000 in
theorem roomy_c (v : Value) (xs : List UInt8) (w : World) (hv : BSl w v xs) (hl : xs.length ≤ 1000000000) :
    Calls Tryd.prog 24 #[v, .int .u8 165] w fun e w' => ∃ g, e = .returned (.slice (some ⟨g, 0, none⟩) (xs.length + 80) (xs.length + 80)) ∧ w.heap.size ≤ g ∧ w'.heap[g]? = some (.cells (bcells (xs ++ List.replicate 80 165)).toArray 5 (0, 0)) ∧ Below w.heap.size w w' := by
  obtain ⟨i0, hi, hz0, hz1, hz2⟩ := info_parts Tryd.infoU8
  have HS : Hid ((Tryd.prog.info? 5).map (·.size) = some 1) := by show _ = _; rw [hi]; simp [hz1]
  have HV : Hid (BSl w v xs) := hv
  obtain ⟨ao, cap, rfl, hc1, hc2, _, _⟩ := hv
  unfold maxLen at hc2
  go_enter Tryd.func24, Tryd.ntmps24
  go_wp2_with (refine wpList_make_full _ rfl (.tmp 9) (.tmp 9) 22 rfl w.heap.size 5 i0 _ 1 Tryd.underlying22 hi hz0 hz1 .i64 .i64 _ _ (xs.length + 80) rfl rfl (by omega) (by omega) (by rw [hz2]; omega) (by unfold maxLen; omega) (Nat.le_refl _) ?_)
  intro w1 ho1 hgr1
  have hb1 : Below w.heap.size w w1 := (Below.refl _ w).grown hgr1 (by simp) (by simp)
  obtain ⟨Z, hZ, hg1⟩ : ∃ Z : List Value, Z.length = xs.length + 80 ∧ w1.heap[w.heap.size]? = some (.cells Z.toArray 5 (0, 0)) := by
    rcases ho1.2 with ⟨h, _⟩ | ⟨g, cp, cur, h1, h2, h3, h4, h5, h6, h7⟩
    · cases h
    · cases h1
      exact ⟨cur.toList, by simp [h6], by simpa using h3⟩
  obtain ⟨w2, hcp, hg2, hb2⟩ := copy_run (HV.out.fresh hb1) hb1 (Nat.le_refl _) hg1 (by omega) (show xs.length ≤ xs.length + 80 by omega) HS.out
  have HG2 : Hid (w2.heap[w.heap.size]? = _) := hg2
  clear ho1 hgr1 hb1 hg1 hg2 hi hz0 hz1 hz2
  have hD : (Z.drop xs.length).length = 80 := by simp; omega
  generalize Z.drop xs.length = D at HG2 hD
  have HB2 : Hid (Below w.heap.size w w2) := hb2
  have HD : Hid (D.length = 80) := hD
  clear hb2 hD hZ HS
  go_wp2_with fail
  go_loopw [6] (fun i wr => ∃ j : Nat, j ≤ 80 ∧ i = .int .i64 ((xs.length + j : Nat) : Int) ∧ wr.heap[w.heap.size]? = some (.cells (bcells (xs ++ List.replicate j 165) ++ D.drop j).toArray 5 (0, 0)) ∧ Below w.heap.size w wr) (fun i _ => xs.length + 80 - (intOf i).toNat)
  case atStart => exact ⟨0, by omega, by simp, by simpa using HG2.out, HB2.out⟩
  case round =>
    clear HG2 HB2
    obtain ⟨j, hj, rfl, hg, hb⟩ := hrel
    have HG : Hid (wr.heap[w.heap.size]? = _) := hg
    have HB : Hid (Below w.heap.size w wr) := hb
    have hcell := cell_row hg (xs.length + j)
    have hfz := frozen_row hg
    clear hg hb
    by_cases hlt : j < 80
    · have hlt' : ((xs.length + j : Nat) : Int) < ((xs.length + 80 : Nat) : Int) := by omega
      obtain ⟨u, hu⟩ : ∃ u, (bcells (xs ++ List.replicate j 165) ++ D.drop j)[xs.length + j]? = some u := by
        have hD := HD.out
        exact ⟨_, List.getElem?_eq_getElem (by simp [bcells_length]; omega)⟩
      rw [hu] at hcell
      clear hu
      go_wp2
      go_roundw
      case rel =>
        refine ⟨j + 1, by omega, by go_num, ?_, HB.out.setCell (Nat.le_refl _) _⟩
        have hD := HD.out
        rw [heap_setCell_same _ _ _ _ _ _ HG.out, set_next _ _ _ _ (by simp [bcells_length]) (by intro h; have := congrArg List.length h; simp at this; omega)]
        simp [List.replicate_succ', bcells, List.drop_drop]
      case measure => simp [intOf]; omega
    · have hlt' : ¬ ((xs.length + j : Nat) : Int) < ((xs.length + 80 : Nat) : Int) := by omega
      obtain rfl : j = 80 := by omega
      go_wp2
      go_ret
      refine ⟨_, rfl, Nat.le_refl _, ?_, HB.out⟩
      have hD := HD.out
      have h := HG.out
      rw [List.drop_of_length_le (by omega), List.append_nil] at h
      exact h
theorem BSl.addr {w : World} {ao : Option Addr} {n cap : Nat} {xs : List UInt8} (h : BSl w (.slice ao n cap) xs) (hne : xs ≠ []) : ∃ b off, ao = some ⟨b, off, none⟩ := by
  obtain ⟨ao', cap', e, _, _, h3, h4⟩ := h
  cases e
  cases ao with
  | none => exact absurd (h3 rfl).1 hne
  | some ad => obtain ⟨b, off, rfl, _⟩ := h4 ad rfl hne; exact ⟨b, off, rfl⟩
set_option maxHeartbeats 400000 in
theorem same_b (a b : Value) (xs : List UInt8) (w : World) (ha : BSl w a xs) (hb : BSl w b xs) :
    Calls Tryd.prog 40 #[a, b] w fun e w' => e = .returned (.bool true) ∧ Keeps (fun _ => False) w w' := by
  have HA : Hid (BSl w a xs) := ha
  have HB : Hid (BSl w b xs) := hb
  obtain ⟨ao, ca, rfl, hca, hcm, _⟩ := ha
  obtain ⟨bo, cb, rfl, hcb, hcn, _⟩ := hb
  unfold maxLen at hcm hcn
  go_enter Tryd.func40, Tryd.ntmps40
  go_wp2
  go_loopw [5] (fun i wr => ∃ k : Nat, k ≤ xs.length ∧ i = .int .i64 k ∧ Keeps (fun _ => False) w wr) (fun i _ => xs.length - (intOf i).toNat)
  case atStart => exact ⟨0, Nat.zero_le _, rfl, Keeps.refl _ _⟩
  case round =>
    obtain ⟨k, hk, rfl, hkp⟩ := hrel
    by_cases hlt : k < xs.length
    · have hne : xs ≠ [] := by rintro rfl; simp at hlt
      have HA1 := HA.out.keep hkp (fun _ _ h => h)
      have HB1 := HB.out.keep hkp (fun _ _ h => h)
      obtain ⟨b1, o1, rfl⟩ := HA1.addr hne
      obtain ⟨b2, o2, rfl⟩ := HB1.addr hne
      have k1 := HA1.cellAt k hlt
      have k2 := HB1.cellAt k hlt
      have hi0 : (0 : Int) ≤ (k : Int) := Int.natCast_nonneg _
      have hi1 : (k : Int) < (xs.length : Int) := by omega
      clear HA1 HB1
      go_wp2_with fail
      go_quiet (fail)
      go_wp2
      go_roundw
      case rel => exact ⟨k + 1, by omega, by go_num, hkp.drewN nq⟩
      case measure => simp [intOf]; omega
    · go_wp2
      go_ret
      exact ⟨rfl, hkp⟩
set_option maxHeartbeats 400000 in
theorem intact_c (g : Nat) (b : Value) (xs : List UInt8) (w : World) (hl : xs.length ≤ 1000000000) (hg : w.heap[g]? = some (.cells (bcells (xs ++ List.replicate 80 165)).toArray 5 (0, 0))) (hb : BSl w b xs) :
    Calls Tryd.prog 25 #[.slice (some ⟨g, 0, none⟩) (xs.length + 80) (xs.length + 80), b, .int .u8 165] w fun e w' => e = .returned (.bool true) ∧ Keeps (fun _ => False) w w' := by
  have HA : Hid (BSl w (.slice (some ⟨g, 0, none⟩) xs.length (xs.length + 80)) xs) := by
    refine ⟨_, _, rfl, by omega, by unfold maxLen; omega, (fun e => by cases e), fun ad e _ => ⟨g, 0, by cases e; rfl, fun j u hu => ?_⟩⟩
    rw [Nat.zero_add, cell_row hg, bcells_append, List.getElem?_append_left (List.getElem?_eq_some_iff.1 hu).1]
    exact hu
  have HB : Hid (BSl w b xs) := hb
  have HG : Hid (w.heap[g]? = _) := hg
  obtain ⟨bo, cb, rfl, hcb, hcn, _⟩ := hb
  unfold maxLen at hcn
  go_enter Tryd.func25, Tryd.ntmps25
  go_wp2_with fail
  refine (same_b _ _ xs _ HA.out HB.out).mono ?_
  rintro e w1 ⟨rfl, hk1⟩
  clear HA HB hg
  go_wp2_with fail
  go_loopw [7] (fun i wr => ∃ j : Nat, j ≤ 80 ∧ i = .int .i64 ((xs.length + j : Nat) : Int) ∧ wr = w1) (fun i _ => xs.length + 80 - (intOf i).toNat)
  case atStart => exact ⟨0, by omega, by simp, rfl⟩
  case round =>
    obtain ⟨j, hj, rfl, rfl⟩ := hrel
    by_cases hlt : j < 80
    · have hlt' : ((xs.length + j : Nat) : Int) < ((xs.length + 80 : Nat) : Int) := by omega
      have hcell : wr.cell? ⟨g, xs.length + j, none⟩ = some (.int .u8 165) := by
        refine hk1.cell ?_ (fun h => h)
        rw [cell_row HG.out, bcells_append, List.getElem?_append_right (by simp [bcells_length]), bcells_length]
        simp only [bcells, List.map_replicate, List.getElem?_replicate]
        rw [if_pos (by omega)]
        rfl
      go_wp2
      go_roundw
      case rel => exact ⟨j + 1, by omega, by go_num, trivial⟩
      case measure => simp [intOf]; omega
    · have hlt' : ¬ ((xs.length + j : Nat) : Int) < ((xs.length + 80 : Nat) : Int) := by omega
      go_wp2
      go_ret
      exact ⟨rfl, hk1⟩
theorem BSl.head' {w : World} {ao : Option Addr} {cap n : Nat} {bs : List UInt8} (h : BSl w (.slice ao bs.length cap) bs) (hn : n ≤ bs.length) : BSl w (.slice ao n cap) (bs.take n) := by
  obtain ⟨ao, cap, e, h1, h2, h3, hc⟩ := h
  cases e
  have hlen : (bs.take n).length = n := by simp; omega
  refine ⟨ao, cap, by rw [hlen], by rw [hlen]; omega, h2, fun e => ⟨by rw [(h3 e).1]; simp, (h3 e).2⟩, fun ad had hne => ?_⟩
  obtain ⟨b, off, rfl, hcell⟩ := hc ad had (by rintro rfl; simp at hne)
  refine ⟨b, off, rfl, fun j u hu => hcell j u ?_⟩
  have hj : j < n := by have := (List.getElem?_eq_some_iff.1 hu).1; rw [bcells_length, hlen] at this; exact this
  simp only [bcells, List.getElem?_map, List.getElem?_take, hj, if_true] at hu ⊢
  exact hu
end Go.Proofs.YthkaibkmpenclaaDoor
