/- What is held of packets that come in pieces, plainly; a slice of ints; both ends while a row grows. -/
import Derived.Test.YthkaibkmpenclaaDoorPkT
namespace Go.Proofs.YthkaibkmpenclaaDoor
open Go Go.RowKit

/-- A slice of n ints. -/
def ISl (w : World) (v : Value) (n : Nat) : Prop :=
  ∃ ao cap, v = .slice ao n cap ∧ n ≤ cap ∧ cap ≤ maxLen ∧ ∀ j, j < n → ∃ b off, ao = some ⟨b, off, none⟩ ∧ ∃ z : Int, w.cell? ⟨b, off + j, none⟩ = some (.int .i64 z)
/-- The key ahead of the j-th packet, and of it. -/
def keyB (f : Nat) (key : List UInt8) (j : Nat) : List UInt8 := if f < j then key else []
def keyA (f : Nat) (key : List UInt8) (j : Nat) : List UInt8 := if f ≤ j then key else []
theorem keyA_ok (f : Nat) {key : List UInt8} (h : key.length = 32) (j : Nat) : KeyOk (keyA f key j) := by
  unfold keyA
  split
  · exact .inr h
  · exact .inl rfl
theorem keyB_succ (f : Nat) (key : List UInt8) (j : Nat) : keyB f key (j + 1) = keyA f key j := by
  unfold keyB keyA
  by_cases h : f ≤ j
  · rw [if_pos h, if_pos (by omega)]
  · rw [if_neg h, if_neg (by omega)]
theorem keyB_same (f : Nat) (key : List UInt8) (j : Nat) (h : j ≠ f) : keyB f key j = keyA f key j := by
  unfold keyB keyA
  by_cases h1 : f ≤ j
  · rw [if_pos h1, if_pos (by omega)]
  · rw [if_neg h1, if_neg (by omega)]
theorem keyA_at (f : Nat) (key : List UInt8) : keyA f key f = key := by unfold keyA; rw [if_pos (Nat.le_refl _)]
def packY (f : Nat) (key : List UInt8) (ps : List (List UInt8)) (j : Nat) : List UInt8 := packetL (keyA f key j) j (ps.getD j [])
/-- What is held when F bytes were fed and i packets read. -/
def hold (Y : Nat → List UInt8) (n i F : Nat) : List UInt8 := ((cat Y n).take F).drop (cat Y i).length
theorem cat_split (Y : Nat → List UInt8) (n i : Nat) (h : i ≤ n) : cat Y n = cat Y i ++ seg Y i (n - i) := by
  obtain ⟨m, rfl⟩ : ∃ m, n = i + m := ⟨n - i, by omega⟩
  rw [Nat.add_sub_cancel_left]
  induction m with
  | zero => simp [seg]
  | succ m ih =>
    rw [show i + (m + 1) = (i + m) + 1 by omega, cat, ih (by omega), seg_snoc, List.append_assoc]
theorem hold_eq (Y : Nat → List UInt8) (n i F : Nat) (h : i ≤ n) : hold Y n i F = (seg Y i (n - i)).take (F - (cat Y i).length) := by
  rw [hold, cat_split Y n i h, List.drop_take, List.drop_left]
theorem cat_succ_len (Y : Nat → List UInt8) (i : Nat) : (cat Y (i + 1)).length = (cat Y i).length + (Y i).length := by rw [cat, List.length_append]
theorem hold_told (f : Nat) {key : List UInt8} (hk : key.length = 32) (ps : List (List UInt8)) (n i F : Nat) (hi : i < n) (hp : 1 ≤ (ps.getD i []).length ∧ (ps.getD i []).length ≤ 200) (hF : (cat (packY f key ps) (i + 1)).length ≤ F) :
    nextR (keyA f key i) i (hold (packY f key ps) n i F) = .told (ps.getD i []) (hold (packY f key ps) n (i + 1) F) := by
  have hl := cat_succ_len (packY f key ps) i
  rw [hold_eq _ _ _ _ (by omega), hold_eq _ _ _ _ (by omega), show n - i = (n - (i + 1)) + 1 by omega, seg]
  have := next_take (keyA_ok f hk i) i (ps.getD i []) hp.1 (by omega) (seg (packY f key ps) (i + 1) (n - (i + 1))) (F - (cat (packY f key ps) i).length) (by show (packY f key ps i).length ≤ _; omega)
  rw [show packetL (keyA f key i) i (ps.getD i []) = packY f key ps i from rfl] at this
  rw [this, hl, show F - ((cat (packY f key ps) i).length + (packY f key ps i).length) = F - (cat (packY f key ps) i).length - (packY f key ps i).length from Nat.sub_add_eq _ _ _]
theorem hold_short (f : Nat) {key : List UInt8} (hk : key.length = 32) (ps : List (List UInt8)) (n i F : Nat) (hi : i < n) (hp : 1 ≤ (ps.getD i []).length ∧ (ps.getD i []).length ≤ 200) (hF : F < (cat (packY f key ps) (i + 1)).length) (hF0 : (cat (packY f key ps) i).length ≤ F) :
    nextR (keyA f key i) i (hold (packY f key ps) n i F) = .short := by
  have hl := cat_succ_len (packY f key ps) i
  rw [hold_eq _ _ _ _ (by omega), show n - i = (n - (i + 1)) + 1 by omega, seg]
  exact next_short (keyA_ok f hk i) i (ps.getD i []) hp.1 (by omega) (seg (packY f key ps) (i + 1) (n - (i + 1))) (F - (cat (packY f key ps) i).length) (by show _ < (packY f key ps i).length; omega)
theorem hold_feed (Y : Nat → List UInt8) (n i F k : Nat) (hF : F ≤ (cat Y n).length) (hi : (cat Y i).length ≤ F) : hold Y n i F ++ ((cat Y n).drop F).take k = hold Y n i (F + k) := by
  rw [hold, hold, List.take_add, List.drop_append_of_le_length (by rw [List.length_take]; omega)]
theorem hold_len (Y : Nat → List UInt8) (n i F : Nat) : (hold Y n i F).length ≤ (cat Y n).length := by
  rw [hold, List.length_drop, List.length_take]; omega
theorem hold_all (Y : Nat → List UInt8) (n : Nat) : hold Y n n (cat Y n).length = [] := by rw [hold, List.take_length, List.drop_length]
theorem cat_len_le (f : Nat) {key : List UInt8} (hk : key.length = 32) (ps : List (List UInt8)) (n : Nat) (hn : n ≤ 12) (hp : ∀ i, i < n → 1 ≤ (ps.getD i []).length ∧ (ps.getD i []).length ≤ 200) : (cat (packY f key ps) n).length ≤ 4000 := by
  rw [cat_seg]
  have := seg_len (packY f key ps) 332 0 n (fun i _ hi => packetL_le (keyA_ok f hk i) i _ (by have := (hp i (by omega)).2; omega))
  omega
theorem packY_mod (f : Nat) {key : List UInt8} (hk : key.length = 32) (ps : List (List UInt8)) (j : Nat) : (packetL (keyA f key j) j (ps.getD j [])).length % 4 = 0 := by
  have h1 := packetL_length (keyA_ok f hk j) j (ps.getD j [])
  have h2 := padP_mod (keyA f key j) (ps.getD j []).length
  have h3 : hdN (keyA f key j) = 4 ∨ hdN (keyA f key j) = 0 := by unfold hdN; split <;> simp
  have h4 : tagN (keyA f key j) = 0 ∨ tagN (keyA f key j) = 16 := by unfold tagN; split <;> simp
  omega
section
variable {W w : World} {K : Nat → Prop} {go gi h : Nat} {ko ki : Option Nat} {kyo kyi xs : List UInt8} {co ci why : Nat}
/-- A row of others grows. -/
theorem Ends.grow {w' : World} {X : Option Nat} (E : Ends W w K go gi h ko ki kyo co kyi ci xs why) (hk : Keeps (fun k => X = some k) w w') (hX : ∀ k, X = some k → K k) (hko : ∀ k, X = some k → ko ≠ some k) (hki : ∀ k, X = some k → ki ≠ some k) (hlo : ∀ k, X = some k → W.heap.size ≤ k) : Ends W w' K go gi h ko ki kyo co kyi ci xs why := by
  have hnf : ∀ q, Foot go gi h q → ¬ (X = some q) := fun q hf e => (E.res q (hX q e)).2 hf
  exact ⟨E.out.keep hk (hnf go (.inl rfl)) (fun k e e2 => hko k e2 e), E.inn.keep hk (hnf gi (.inr (.inl rfl))) (hnf h (.inr (.inr rfl))) (fun k e e2 => hki k e2 e), E.b.trans (hk.below E.b.size (fun k e => hlo k e)), E.ne, E.lo, fun k hK => ⟨Nat.lt_of_lt_of_le (E.res k hK).1 hk.size, (E.res k hK).2⟩⟩
theorem ends_okeys2 (E : Ends W w K go gi h ko ki kyo co kyi ci xs why) (v : Value) (ks : List UInt8) (hv : BSl w v ks) (hl : ks.length = 32) :
    Calls Tryd.prog 12 #[.pointer (some ⟨go, 0, none⟩), v] w fun e w' => e = .returned (.int .i64 0) ∧ ∃ ko', Ends W w' K go gi h ko' ki ks co kyi ci xs why ∧ Keeps (Foot go gi h) w w' ∧ ∀ k, ko' = some k → w.heap.size ≤ k := by
  refine (outKeys_c v ks w E.out hv hl).mono ?_
  rintro e w' ⟨rfl, kb, ho, hk, hnew⟩
  have hF : Keeps (Foot go gi h) w w' := hk.mono fun k _ e => .inl e
  obtain ⟨n1, n2, n3, n4, n5⟩ := E.ne
  have hl2 := E.inn.blockLt
  refine ⟨rfl, kb, ⟨ho, E.inn.keep hk (fun e => n1 e.symm) (fun e => n2 e.symm) (fun k e e2 => n5 (by rw [e, e2])), E.bel hF, ⟨n1, n2, fun e => ?_, fun e => ?_, n5⟩, E.lo, fun k hk => ⟨Nat.lt_of_lt_of_le (E.res k hk).1 hF.size, (E.res k hk).2⟩⟩, hF, hnew⟩
  · have := hnew _ e; omega
  · have := hnew _ e; omega
end
end Go.Proofs.YthkaibkmpenclaaDoor
