/- What the Writer's U32, U64, Bool, Text, Raw write; byte slices in memory. -/
import Derived.Test.YtkbfgfpdchgjpaaWrB
namespace Go.Proofs.Ytkbfgfpdchgjpaa
open Go Go.RowKit

/-- The slice value v reads as the bytes xs in w. -/
def BSl (w : World) (v : Value) (xs : List UInt8) : Prop :=
  ∃ ao cap, v = .slice ao xs.length cap ∧ xs.length ≤ cap ∧ cap ≤ maxLen ∧ (ao = none → xs = [] ∧ cap = 0) ∧
    ∀ ad, ao = some ad → xs ≠ [] → ∃ b off, ad = ⟨b, off, none⟩ ∧ ∀ j u, (bcells xs)[j]? = some u → w.cell? ⟨b, off + j, none⟩ = some u

theorem add_lit' (b off j : Nat) : (⟨b, off, none⟩ : Addr).add j = ⟨b, off + j, none⟩ := by unfold Addr.add; split <;> simp_all

theorem BSl.src {w : World} {v : Value} {xs : List UInt8} (h : BSl w v xs) : Src Try.prog 1 27 v xs.length (bcells xs) w := by
  obtain ⟨ao, cap, rfl, _, _, hn, hc⟩ := h
  cases ao with
  | none =>
    obtain ⟨rfl, rfl⟩ := hn rfl
    exact Src.ofNil w Try.underlying27 0
  | some ad =>
    by_cases hx : xs = []
    · subst hx
      exact Src.ofSlice w Try.underlying27 ad 0 cap [] rfl (fun j u h => by simp at h) (fun u h => by cases h)
    obtain ⟨b, off, rfl, hcell⟩ := hc ad rfl hx
    exact Src.ofSlice w Try.underlying27 _ _ _ _ (by simp [bcells_length]) (fun j u hu => by rw [add_lit']; exact hcell j u hu) bcells_one

theorem BSl.keep {S : Nat → Prop} {w w' : World} {v : Value} {xs : List UInt8} (h : BSl w v xs) (hk : Keeps S w w') (hn : ∀ k, v.ownBlock = some k → ¬ S k) : BSl w' v xs := by
  obtain ⟨ao, cap, rfl, h1, h2, h3, hc⟩ := h
  refine ⟨ao, cap, rfl, h1, h2, h3, ?_⟩
  rintro ad rfl hx
  obtain ⟨b, off, rfl, hcell⟩ := hc ad rfl hx
  exact ⟨b, off, rfl, fun j u hu => hk.cell (hcell j u hu) (hn b rfl)⟩

theorem BSl.ofRow {w : World} {base : Nat} {v : Value} {n : Nat} {xs : List UInt8} (h : w.ownsRow base 5 1 v n (bcells xs)) : BSl w v xs := by
  have hl : xs.length = n := by have := h.1; rw [bcells_length] at this; omega
  subst hl
  have h0 := h
  rcases h.2 with ⟨rfl, h1⟩ | ⟨g, cap, cur, rfl, _, _, h2, h3, _⟩
  · exact ⟨none, 0, by rw [h1], by omega, by simp [maxLen], fun _ => ⟨List.eq_nil_of_length_eq_zero h1, rfl⟩, (fun ad e => by cases e)⟩
  · refine ⟨some ⟨g, 0, none⟩, cap, rfl, h2, h3, (fun e => by cases e), ?_⟩
    rintro ad e _
    cases e
    exact ⟨g, 0, rfl, fun j u hu => by have := h0.cells (g := g) rfl j u hu; rwa [add_lit'] at this⟩

set_option maxHeartbeats 400000 in
theorem u32_c (n : Int) (h0 : 0 ≤ n) (h1 : n < 4294967296) (w : World) {base a : Nat} {g : Option Nat} {bs : List UInt8} (h : WS w base a g bs) (hl : bs.length + 8 ≤ 140737488355328) :
    Calls Try.prog 27 #[.pointer (some ⟨a, 0, none⟩), .int .u32 n] w fun e w' => e = .returned (.tuple #[]) ∧ ∃ g', WS w' base a g' (bs ++ be 4 n.toNat) ∧ Wrote a g g' w w' := by
  obtain ⟨n, rfl⟩ := Int.eq_ofNat_of_zero_le h0
  rw [Int.toNat_natCast]
  go_enter Try.func27, Try.ntmps27
  go_wp2_with fail
  refine (number_c n 4 (by omega) (by omega) (by omega) _ h hl).mono ?_
  rintro e w' ⟨rfl, g', h1, h2⟩
  go_wp2
  go_end0
  exact ⟨rfl, g', h1, h2⟩

set_option maxHeartbeats 400000 in
theorem u64_c (n : Int) (h0 : 0 ≤ n) (h1 : n < 18446744073709551616) (w : World) {base a : Nat} {g : Option Nat} {bs : List UInt8} (h : WS w base a g bs) (hl : bs.length + 8 ≤ 140737488355328) :
    Calls Try.prog 28 #[.pointer (some ⟨a, 0, none⟩), .int .u64 n] w fun e w' => e = .returned (.tuple #[]) ∧ ∃ g', WS w' base a g' (bs ++ be 8 n.toNat) ∧ Wrote a g g' w w' := by
  obtain ⟨n, rfl⟩ := Int.eq_ofNat_of_zero_le h0
  rw [Int.toNat_natCast]
  go_enter Try.func28, Try.ntmps28
  go_wp2_with fail
  refine (number_c n 8 (by omega) (by omega) (by omega) _ h hl).mono ?_
  rintro e w' ⟨rfl, g', h1, h2⟩
  go_wp2
  go_end0
  exact ⟨rfl, g', h1, h2⟩

def bit (v : Bool) : UInt8 := if v then 1 else 0



def textBytes (xs : List UInt8) : List UInt8 := be 4 xs.length ++ xs


end Go.Proofs.Ytkbfgfpdchgjpaa
