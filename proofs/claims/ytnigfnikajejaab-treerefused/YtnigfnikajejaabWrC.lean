/- What the Writer's U32, U64, Bool, Text, Raw write; byte slices in memory. -/
import Derived.Test.YtnigfnikajejaabWrB
namespace Go.Proofs.Ytnigfnikajejaab
open Go Go.RowKit

/-- The slice value v reads as the bytes xs in w. -/
def BSl (w : World) (v : Value) (xs : List UInt8) : Prop :=
  ∃ ao cap, v = .slice ao xs.length cap ∧ xs.length ≤ cap ∧ cap ≤ maxLen ∧ (ao = none → xs = [] ∧ cap = 0) ∧
    ∀ ad, ao = some ad → xs ≠ [] → ∃ b off, ad = ⟨b, off, none⟩ ∧ ∀ j u, (bcells xs)[j]? = some u → w.cell? ⟨b, off + j, none⟩ = some u

theorem add_lit' (b off j : Nat) : (⟨b, off, none⟩ : Addr).add j = ⟨b, off + j, none⟩ := by unfold Addr.add; split <;> simp_all

theorem BSl.src {w : World} {v : Value} {xs : List UInt8} (h : BSl w v xs) : Src Try.prog 1 28 v xs.length (bcells xs) w := by
  obtain ⟨ao, cap, rfl, _, _, hn, hc⟩ := h
  cases ao with
  | none =>
    obtain ⟨rfl, rfl⟩ := hn rfl
    exact Src.ofNil w Try.underlying28 0
  | some ad =>
    by_cases hx : xs = []
    · subst hx
      exact Src.ofSlice w Try.underlying28 ad 0 cap [] rfl (fun j u h => by simp at h) (fun u h => by cases h)
    obtain ⟨b, off, rfl, hcell⟩ := hc ad rfl hx
    exact Src.ofSlice w Try.underlying28 _ _ _ _ (by simp [bcells_length]) (fun j u hu => by rw [add_lit']; exact hcell j u hu) bcells_one

theorem BSl.keep {S : Nat → Prop} {w w' : World} {v : Value} {xs : List UInt8} (h : BSl w v xs) (hk : Keeps S w w') (hn : ∀ k, v.ownBlock = some k → ¬ S k) : BSl w' v xs := by
  obtain ⟨ao, cap, rfl, h1, h2, h3, hc⟩ := h
  refine ⟨ao, cap, rfl, h1, h2, h3, ?_⟩
  rintro ad rfl hx
  obtain ⟨b, off, rfl, hcell⟩ := hc ad rfl hx
  exact ⟨b, off, rfl, fun j u hu => hk.cell (hcell j u hu) (hn b rfl)⟩

theorem BSl.ofRow {w : World} {base : Nat} {v : Value} {n : Nat} {xs : List UInt8} (h : w.ownsRow base 5 1 v n (bcells xs)) : BSl w v xs := by
  have hl : xs.length = n := by have := h.1; rw [bcells_length] at this; omega
  subst hl
  have h0 := h
  rcases h.2 with ⟨rfl, h1⟩ | ⟨g, cap, cur, rfl, _, _, h2, h3, _⟩
  · exact ⟨none, 0, by rw [h1], by omega, by simp [maxLen], fun _ => ⟨List.eq_nil_of_length_eq_zero h1, rfl⟩, (fun ad e => by cases e)⟩
  · refine ⟨some ⟨g, 0, none⟩, cap, rfl, h2, h3, (fun e => by cases e), ?_⟩
    rintro ad e _
    cases e
    exact ⟨g, 0, rfl, fun j u hu => by have := h0.cells (g := g) rfl j u hu; rwa [add_lit'] at this⟩

set_option maxHeartbeats 400000 in
theorem u32_c (n : Int) (h0 : 0 ≤ n) (h1 : n < 4294967296) (w : World) {base a : Nat} {g : Option Nat} {bs : List UInt8} (h : WS w base a g bs) (hl : bs.length + 8 ≤ 140737488355328) :
    Calls Try.prog 55 #[.pointer (some ⟨a, 0, none⟩), .int .u32 n] w fun e w' => e = .returned (.tuple #[]) ∧ ∃ g', WS w' base a g' (bs ++ be 4 n.toNat) ∧ Wrote a g g' w w' := by
  obtain ⟨n, rfl⟩ := Int.eq_ofNat_of_zero_le h0
  rw [Int.toNat_natCast]
  go_enter Try.func55, Try.ntmps55
  go_wp2_with fail
  refine (number_c n 4 (by omega) (by omega) (by omega) _ h hl).mono ?_
  rintro e w' ⟨rfl, g', h1, h2⟩
  go_wp2
  go_end0
  exact ⟨rfl, g', h1, h2⟩

set_option maxHeartbeats 400000 in
theorem u64_c (n : Int) (h0 : 0 ≤ n) (h1 : n < 18446744073709551616) (w : World) {base a : Nat} {g : Option Nat} {bs : List UInt8} (h : WS w base a g bs) (hl : bs.length + 8 ≤ 140737488355328) :
    Calls Try.prog 33 #[.pointer (some ⟨a, 0, none⟩), .int .u64 n] w fun e w' => e = .returned (.tuple #[]) ∧ ∃ g', WS w' base a g' (bs ++ be 8 n.toNat) ∧ Wrote a g g' w w' := by
  obtain ⟨n, rfl⟩ := Int.eq_ofNat_of_zero_le h0
  rw [Int.toNat_natCast]
  go_enter Try.func33, Try.ntmps33
  go_wp2_with fail
  refine (number_c n 8 (by omega) (by omega) (by omega) _ h hl).mono ?_
  rintro e w' ⟨rfl, g', h1, h2⟩
  go_wp2
  go_end0
  exact ⟨rfl, g', h1, h2⟩

def bit (v : Bool) : UInt8 := if v then 1 else 0

set_option maxHeartbeats 400000 in
theorem bool_c (v : Bool) (w : World) {base a : Nat} {g : Option Nat} {bs : List UInt8} (h : WS w base a g bs) (hl : bs.length + 1 ≤ 140737488355328) :
    Calls Try.prog 52 #[.pointer (some ⟨a, 0, none⟩), .bool v] w fun e w' => e = .returned (.tuple #[]) ∧ ∃ g', WS w' base a g' (bs ++ [bit v]) ∧ Wrote a g g' w w' := by
  cases v
  · go_enter Try.func52, Try.ntmps52
    go_wp2_with fail
    refine (byte_c 0 _ h hl).mono ?_
    rintro e w' ⟨rfl, g', h1, h2⟩
    go_wp2
    go_end0
    exact ⟨rfl, g', h1, h2⟩
  · go_enter Try.func52, Try.ntmps52
    go_wp2_with fail
    refine (byte_c 1 _ h hl).mono ?_
    rintro e w' ⟨rfl, g', h1, h2⟩
    go_wp2
    refine bodyPost_ret (results_none rfl _ _ _) rfl ?_
    exact ⟨rfl, g', h1, h2⟩

set_option maxHeartbeats 400000 in
set_option maxRecDepth 100000 in
theorem raw_c (v : Value) (xs : List UInt8) (w : World) (hv : BSl w v xs) {base a : Nat} {g : Option Nat} {bs : List UInt8} (h : WS w base a g bs) (hl : bs.length + xs.length ≤ 140737488355328) :
    Calls Try.prog 54 #[.pointer (some ⟨a, 0, none⟩), v] w fun e w' => e = .returned (.tuple #[]) ∧ ∃ g', WS w' base a g' (bs ++ xs) ∧ Wrote a g g' w w' := by
  obtain ⟨i0, hi, hz0, hz1, hz2⟩ := info_parts Try.infoU8
  have hlt := h.lt
  obtain ⟨u, ha, hown, rfl, hne, hba⟩ := h
  have hc := cell_of_one ha
  have hsrc := hv.src
  go_enter Try.func54, Try.ntmps54
  go_wp2_with (at_builtin; refine wpList_append_src _ rfl (.tmp 8) (.tmp 9) 28 28 rfl base 5 i0 _ 1 Try.underlying28 hi hz0 hz1 hz2 rfl u _ _ rfl hown v xs.length (bcells xs) rfl hsrc (by unfold maxLen; omega) (by omega) (by omega) w.heap.size rfl ?_)
  intro v' w1 hown' hgrow hnil hat
  have h1 := block_grown ha rfl hne (Keeps.refl _ _) hgrow
  have R := WS.stored (bs := bs) (news := xs) (m := bs.length + xs.length) ha rfl hne hba (Keeps.refl _ _) rfl hown' hgrow hat (by omega)
  obtain ⟨ao, cp, rfl⟩ := ownsRow_shape hown'
  have hc1 := cell_of_one h1
  have hf1 := free_of_one h1
  clear hown' hgrow hnil hat h1 hown hc
  go_wp2
  go_end0
  exact ⟨rfl, _, R.1, R.2⟩

def textBytes (xs : List UInt8) : List UInt8 := be 4 xs.length ++ xs

set_option maxHeartbeats 400000 in
set_option maxRecDepth 100000 in
theorem text_c (s : ByteArray) (hs : s.size < 4294967296) (w : World) {base a : Nat} {g : Option Nat} {bs : List UInt8} (h : WS w base a g bs) (hl : bs.length + s.size + 8 ≤ 140737488355328) :
    Calls Try.prog 56 #[.pointer (some ⟨a, 0, none⟩), .string s] w fun e w' => e = .returned (.tuple #[]) ∧ ∃ g', WS w' base a g' (bs ++ textBytes s.data.toList) ∧ Wrote a g g' w w' := by
  obtain ⟨i0, hi, hz0, hz1, hz2⟩ := info_parts Try.infoU8
  go_enter Try.func56, Try.ntmps56
  go_wp2_with fail
  refine (u32_c _ (by omega) (by omega) _ h (by omega)).mono ?_
  rintro e w1 ⟨rfl, g1, hw1, hwr1⟩
  rw [Int.toNat_natCast] at hw1
  have hbl : (bs ++ be 4 s.size).length = bs.length + 4 := by simp [be_length]
  have hlt1 := hw1.lt
  obtain ⟨u, ha, hown, rfl, hne, hba⟩ := hw1
  rw [hbl] at hown
  have hc := cell_of_one ha
  have HB : Hid ((bs ++ be 4 s.size).length = bs.length + 4) := hbl
  clear hbl
  have hsrc := Src.ofString (P := Try.prog) w1 Try.underlying9 s
  go_wp2_with (at_builtin; refine wpList_append_src _ rfl (.tmp 13) (.tmp 14) 28 9 rfl base 5 i0 _ 1 Try.underlying28 hi hz0 hz1 hz2 rfl u _ _ rfl hown _ s.size (byteCells s) rfl hsrc (by unfold maxLen; omega) (by omega) (by omega) w1.heap.size rfl ?_)
  intro v' w2 hown' hgrow hnil hat
  have h1 := block_grown ha rfl hne (Keeps.refl _ _) hgrow
  have R := WS.stored (bs := bs ++ be 4 s.size) (news := s.data.toList) (m := bs.length + 4 + s.size) ha rfl hne hba (Keeps.refl _ _) (by rw [HB.out]; rfl) hown' hgrow hat (by omega)
  obtain ⟨ao, cp, rfl⟩ := ownsRow_shape hown'
  have hc1 := cell_of_one h1
  have hf1 := free_of_one h1
  clear hown' hgrow hnil hat h1 hown hc
  go_wp2
  go_end0
  exact ⟨rfl, _, by have := R.1; rw [List.append_assoc] at this; exact this, hwr1.trans R.2⟩

end Go.Proofs.Ytnigfnikajejaab
