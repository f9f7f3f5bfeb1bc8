/- Slices of bytes: what they hold, what is read of them, what the helpers Within, Cut, Roomy, Same and Intact do. -/
import Derived.Test.YtfgeeheojglldaaProg
import Derived.Test.YtfgeeheojglldaaBase
import Derived.Outline
import Derived.Laws.BitsAllLaws
import Derived.Laws.CopyOwn
import Derived.OwnWalk
import Derived.OneCell
import Derived.Deep.QuietTactic
import Derived.BigQuiet
namespace Go.Proofs.Ytfgeeheojglldaa
open Go Go.RowKit

theorem Try.infoU8 : (Try.prog.info? 5).map (fun i => (i.zero, i.size, i.bytes)) = some (some (.int .u8 0), 1, 1) := by kernel_rfl
def byteOf (n : Int) : UInt8 := UInt8.ofNat (n % 256).toNat
theorem byteOf_nat (n : Int) : ((byteOf n).toNat : Int) = n % 256 := by
  unfold byteOf
  simp
  omega
theorem srcOne (w : World) (x : Int) : Src Try.prog 1 22 (.slice (some ⟨w.heap.size, 0, none⟩) 1 1) 1 [.int .u8 x] (w.alloc (.cells #[.int .u8 x] 5)) :=
  Src.ofSlice _ Try.underlying22 ⟨w.heap.size, 0, none⟩ 1 1 [.int .u8 x] rfl (by intro j u hj; match j, hj with | 0, hj => simp at hj; subst hj; simp [Addr.add]) (by intro u hu; simp at hu; subst hu; rfl)
theorem ownsRow_shape {w : World} {base : Nat} {e : TypeId} {size : Nat} {v : Value} {n : Nat} {xs : List Value} (h : w.ownsRow base e size v n xs) : ∃ ao cap, v = .slice ao n cap := by
  rcases h.2 with ⟨rfl, rfl⟩ | ⟨g, cap, _, rfl, _⟩
  · exact ⟨none, 0, rfl⟩
  · exact ⟨some ⟨g, 0, none⟩, cap, rfl⟩
/-- The slice value v reads as the bytes xs in w. -/
def BSl (w : World) (v : Value) (xs : List UInt8) : Prop :=
  ∃ ao cap, v = .slice ao xs.length cap ∧ xs.length ≤ cap ∧ cap ≤ maxLen ∧ (ao = none → xs = [] ∧ cap = 0) ∧
    ∀ ad, ao = some ad → xs ≠ [] → ∃ b off, ad = ⟨b, off, none⟩ ∧ ∀ j u, (bcells xs)[j]? = some u → w.cell? ⟨b, off + j, none⟩ = some u
theorem add_lit' (b off j : Nat) : (⟨b, off, none⟩ : Addr).add j = ⟨b, off + j, none⟩ := by unfold Addr.add; split <;> simp_all
theorem BSl.src {w : World} {v : Value} {xs : List UInt8} (h : BSl w v xs) : Src Try.prog 1 22 v xs.length (bcells xs) w := by
  obtain ⟨ao, cap, rfl, _, _, hn, hc⟩ := h
  cases ao with
  | none =>
    obtain ⟨rfl, rfl⟩ := hn rfl
    exact Src.ofNil w Try.underlying22 0
  | some ad =>
    by_cases hx : xs = []
    · subst hx
      exact Src.ofSlice w Try.underlying22 ad 0 cap [] rfl (fun j u h => by simp at h) (fun u h => by cases h)
    obtain ⟨b, off, rfl, hcell⟩ := hc ad rfl hx
    exact Src.ofSlice w Try.underlying22 _ _ _ _ (by simp [bcells_length]) (fun j u hu => by rw [add_lit']; exact hcell j u hu) bcells_one
theorem BSl.keep {S : Nat → Prop} {w w' : World} {v : Value} {xs : List UInt8} (h : BSl w v xs) (hk : Keeps S w w') (hn : ∀ k, v.ownBlock = some k → ¬ S k) : BSl w' v xs := by
  obtain ⟨ao, cap, rfl, h1, h2, h3, hc⟩ := h
  refine ⟨ao, cap, rfl, h1, h2, h3, ?_⟩
  rintro ad rfl hx
  obtain ⟨b, off, rfl, hcell⟩ := hc ad rfl hx
  exact ⟨b, off, rfl, fun j u hu => hk.cell (hcell j u hu) (hn b rfl)⟩
theorem BSl.ofRow {w : World} {base : Nat} {v : Value} {n : Nat} {xs : List UInt8} (h : w.ownsRow base 5 1 v n (bcells xs)) : BSl w v xs := by
  have hl : xs.length = n := by have := h.1; rw [bcells_length] at this; omega
  subst hl
  have h0 := h
  rcases h.2 with ⟨rfl, h1⟩ | ⟨g, cap, cur, rfl, _, _, h2, h3, _⟩
  · exact ⟨none, 0, by rw [h1], by omega, by simp [maxLen], fun _ => ⟨List.eq_nil_of_length_eq_zero h1, rfl⟩, (fun ad e => by cases e)⟩
  · refine ⟨some ⟨g, 0, none⟩, cap, rfl, h2, h3, (fun e => by cases e), ?_⟩
    rintro ad e _
    cases e
    exact ⟨g, 0, rfl, fun j u hu => by have := h0.cells (g := g) rfl j u hu; rwa [add_lit'] at this⟩
theorem BSl.head {w : World} {b off cap : Nat} {x : UInt8} {xs : List UInt8} (h : BSl w (.slice (some ⟨b, off, none⟩) (x :: xs).length cap) (x :: xs)) : w.cell? ⟨b, off, none⟩ = some (.int .u8 x.toNat) := by
  obtain ⟨ao, cap, e, h1, h2, h3, hc⟩ := h
  cases e
  obtain ⟨b', off', e, hcell⟩ := hc _ rfl (by simp)
  cases e
  simpa using hcell 0 (.int .u8 x.toNat) rfl
/-- A slice of bytes has an address where it has an element. -/
theorem BSl.cons {w : World} {v : Value} {x : UInt8} {xs : List UInt8} (h : BSl w v (x :: xs)) : ∃ b off cap, v = .slice (some ⟨b, off, none⟩) (x :: xs).length cap ∧ (x :: xs).length ≤ cap ∧ cap ≤ maxLen ∧ v.ownBlock = some b := by
  obtain ⟨ao, cap, rfl, h1, h2, h3, hc⟩ := h
  cases ao with
  | none => have := (h3 rfl).1; cases this
  | some ad => obtain ⟨b, off, rfl, _⟩ := hc ad rfl (by simp); exact ⟨b, off, cap, rfl, h1, h2, rfl⟩
theorem BSl.nil {w : World} {v : Value} (h : BSl w v []) : ∃ ao cap, v = .slice ao 0 cap := by
  obtain ⟨ao, cap, rfl, _⟩ := h
  exact ⟨ao, cap, rfl⟩
theorem BSl.blockLt {w : World} {v : Value} {x : UInt8} {xs : List UInt8} (h : BSl w v (x :: xs)) : ∀ k, v.ownBlock = some k → k < w.heap.size := by
  obtain ⟨b, off, cap, rfl, _, _, hb⟩ := h.cons
  intro k hk
  rw [hb] at hk
  cases hk
  exact World.block_lt_of_cell? _ _ h.head
theorem eqlNil : ∀ (w : World) (a : Option Addr) (n c n' c' : Nat), (binOp .eql 22 (.slice a n c) (.slice none n' c')).run Try.prog w = .ok (.bool a.isNone) w := fun w a n c n' c' => Lib.run_eql_slice_nil w _ _ a n c n' c' Try.underlying22
theorem BSl.alloc {w : World} {v : Value} {xs : List UInt8} (h : BSl w v xs) (o : Obj) : BSl (w.alloc o) v xs := h.keep (S := fun _ => False) ((Keeps.refl _ _).alloc o) fun _ _ h => h
theorem BSl.fresh {w w' : World} {v : Value} {xs : List UInt8} (h : BSl w v xs) (hb : Below w.heap.size w w') : BSl w' v xs :=
  h.keep (S := fun _ => False) (Keeps.ofFresh hb) fun _ _ h => h
theorem size_list (l : List UInt8) : (⟨l.toArray⟩ : ByteArray).size = l.length := by simp [ByteArray.size]
/-- A byte slice as a string. -/
theorem BSl.cellAt {w : World} {b off n cap : Nat} {xs : List UInt8} (h : BSl w (.slice (some ⟨b, off, none⟩) n cap) xs) (k : Nat) (hk : k < xs.length) : w.cell? ⟨b, off + k, none⟩ = some (.int .u8 (xs[k].toNat)) := by
  obtain ⟨ao, cap, e, h1, h2, h3, hc⟩ := h
  cases e
  obtain ⟨b', off', e, hcell⟩ := hc _ rfl (by rintro rfl; simp at hk)
  cases e
  exact hcell k _ (by simp [bcells, hk])
theorem Keeps.drewN {S : Nat → Prop} {a w : World} (h : Keeps S a w) (n : Nat) : Keeps S a (w.drewN n) := ⟨h.os, h.tape, h.output, h.size, h.block⟩
theorem ownBlock_any (ao : Option Addr) (n c n' c' : Nat) : (Value.slice ao n c).ownBlock = (Value.slice ao n' c').ownBlock := by
  cases ao <;> rfl
theorem run_string {w : World} {v : Value} {xs : List UInt8} (h : BSl w v xs) : (convert 22 9 v).run Try.prog w = .ok (.string ⟨xs.toArray⟩) w := by
  obtain ⟨ao, cap, rfl, h1, h2, h3, hc⟩ := h
  cases ao with
  | none =>
    obtain ⟨rfl, rfl⟩ := h3 rfl
    rw [run_convert_bytes_string w _ _ _ _ _ _ Try.underlying22 Try.underlying5 Try.underlying9]
    rfl
  | some ad =>
    by_cases hx : xs = []
    · subst hx
      exact run_convert_bytes_back w _ _ _ ad _ [] Try.underlying22 Try.underlying5 Try.underlying9 fun j hj => by simp at hj
    obtain ⟨b, off, rfl, hcell⟩ := hc ad rfl hx
    refine run_convert_bytes_back w _ _ _ _ _ _ Try.underlying22 Try.underlying5 Try.underlying9 fun j hj => ?_
    rw [add_lit']
    exact hcell j _ (by simp [bcells, hj])
theorem srcBlock {W : World} {B : Nat} {xs : List UInt8} {cs : Array Value} (hcs : cs = (bcells xs).toArray) (hb : W.heap[B]? = some (.cells cs 5 (0, 0))) : Src Try.prog 1 22 (.slice (some ⟨B, 0, none⟩) xs.length xs.length) xs.length (bcells xs) W := by
  subst hcs
  exact Src.ofSlice _ Try.underlying22 ⟨B, 0, none⟩ _ _ _ (by simp [bcells_length]) (World.news_of_block (t := 5) (fr := (0, 0)) hb) bcells_one
/-- What a call answers that makes a byte slice: fresh, it reads as xs; what was there stays. -/
def Fresh (w : World) (xs : List UInt8) (e : Ending) (w' : World) : Prop :=
  ∃ v', e = .returned v' ∧ w'.ownsRow w.heap.size 5 1 v' xs.length (bcells xs) ∧ Below w.heap.size w w'
theorem Fresh.next {w w1 : World} (hb : Below w.heap.size w w1) {ys : List UInt8} {e : Ending} {w2 : World} (h2 : Fresh w1 ys e w2) : Fresh w ys e w2 := by
  obtain ⟨v', rfl, h3, h4⟩ := h2
  refine ⟨v', rfl, ⟨h3.1, ?_⟩, hb.trans (h4.mono hb.size)⟩
  rcases h3.2 with h5 | ⟨g, cap, cur, h6, h7, rest⟩
  · exact .inl h5
  · exact .inr ⟨g, cap, cur, h6, Nat.le_trans hb.size h7, rest⟩

theorem set_next (A Z : List Value) (u : Value) (n : Nat) (hn : A.length = n) (hZ : Z ≠ []) : (A ++ Z).toArray.setIfInBounds n u = ((A ++ [u]) ++ Z.drop 1).toArray := by
  subst hn
  cases Z with
  | nil => exact absurd rfl hZ
  | cons z r => simp
theorem cell_row {w : World} {g : Nat} {cs : List Value} {t : TypeId} (h : w.heap[g]? = some (.cells cs.toArray t (0, 0))) (i : Nat) : w.cell? ⟨g, i, none⟩ = cs[i]? := by
  simp [World.cell?, h]
theorem frozen_row {w : World} {g : Nat} {cs : Array Value} {t : TypeId} (h : w.heap[g]? = some (.cells cs t (0, 0))) (j : Nat) : w.frozen? ⟨g, j, none⟩ = false := by simp [World.frozen?, h]
theorem copy_run {w w1 : World} {g N cap : Nat} {ao : Option Addr} {xs : List UInt8} {Z : List Value} (hv : BSl w1 (.slice ao xs.length cap) xs) (hb : Below w.heap.size w w1) (hB : w.heap.size ≤ g) (hg : w1.heap[g]? = some (.cells Z.toArray 5 (0, 0))) (hZ : xs.length ≤ Z.length) (hN : xs.length ≤ N) (hs : (Try.prog.info? 5).map (·.size) = some 1) :
    ∃ w2, (Builtin.copy_ #[22, 22] 3 #[.slice (some ⟨g, 0, none⟩) N N, .slice ao xs.length cap]).run Try.prog w1 = .ok (goInt xs.length) w2 ∧ w2.heap[g]? = some (.cells (bcells xs ++ Z.drop xs.length).toArray 5 (0, 0)) ∧ Below w.heap.size w w2 := by
  by_cases hne : xs = []
  · subst hne
    exact ⟨w1, run_copy_none (P := Try.prog) w1 _ _ _ 5 _ _ _ _ _ _ Try.underlying22 hs (by simp), by simpa [bcells] using hg, hb⟩
  · obtain ⟨ao', cap', e, _, _, h3, h4⟩ := hv
    cases e
    cases ao with
    | none => exact absurd (h3 rfl).1 hne
    | some ad =>
      obtain ⟨b, off, rfl, hc⟩ := h4 ad rfl hne
      have hr := run_copy_row (P := Try.prog) w1 22 22 3 5 g 0 N N ⟨b, off, none⟩ xs.length cap Z.toArray 5 (bcells xs) Try.underlying22 hs hg (by rw [bcells_length]; exact (Nat.min_eq_left hN).symm) (fun j u hu => by rw [add_lit']; exact hc j u hu) (by rw [bcells_length]; simpa using hZ) (fun u hu => bcells_one u hu)
      rw [bcells_length] at hr
      refine ⟨_, hr, ?_, below_setRow hb hB _⟩
      have := setRow_heap w1 g Z.toArray (bcells xs ++ Z.drop xs.length).toArray 5 (0, 0) hg
      simpa using this

theorem BSl.addr {w : World} {ao : Option Addr} {n cap : Nat} {xs : List UInt8} (h : BSl w (.slice ao n cap) xs) (hne : xs ≠ []) : ∃ b off, ao = some ⟨b, off, none⟩ := by
  obtain ⟨ao', cap', e, _, _, h3, h4⟩ := h
  cases e
  cases ao with
  | none => exact absurd (h3 rfl).1 hne
  | some ad => obtain ⟨b, off, rfl, _⟩ := h4 ad rfl hne; exact ⟨b, off, rfl⟩


theorem BSl.head' {w : World} {ao : Option Addr} {cap n : Nat} {bs : List UInt8} (h : BSl w (.slice ao bs.length cap) bs) (hn : n ≤ bs.length) : BSl w (.slice ao n cap) (bs.take n) := by
  obtain ⟨ao, cap, e, h1, h2, h3, hc⟩ := h
  cases e
  have hlen : (bs.take n).length = n := by simp; omega
  refine ⟨ao, cap, by rw [hlen], by rw [hlen]; omega, h2, fun e => ⟨by rw [(h3 e).1]; simp, (h3 e).2⟩, fun ad had hne => ?_⟩
  obtain ⟨b, off, rfl, hcell⟩ := hc ad had (by rintro rfl; simp at hne)
  refine ⟨b, off, rfl, fun j u hu => hcell j u ?_⟩
  have hj : j < n := by have := (List.getElem?_eq_some_iff.1 hu).1; rw [bcells_length, hlen] at this; exact this
  simp only [bcells, List.getElem?_map, List.getElem?_take, hj, if_true] at hu ⊢
  exact hu
end Go.Proofs.Ytfgeeheojglldaa
