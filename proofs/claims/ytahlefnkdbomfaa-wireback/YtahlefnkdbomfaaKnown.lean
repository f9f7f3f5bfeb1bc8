/- The law's helper known answers true, and leaves what was there as it was. -/
import Derived.Test.YtahlefnkdbomfaaWrE
namespace Go.Proofs.Ytahlefnkdbomfaa
open Go Go.RowKit

/-- A slice that the call lays for its literal elements. -/
theorem bsl_lit (w : World) (xs : List UInt8) (hl : xs.length ≤ 1000) : BSl (w.alloc (.cells (bcells xs).toArray 5)) (.slice (some ⟨w.heap.size, 0, none⟩) xs.length xs.length) xs := by
  refine ⟨_, _, rfl, Nat.le_refl _, by unfold maxLen; omega, (fun e => by cases e), fun ad e _ => ⟨w.heap.size, 0, by cases e; rfl, fun j u hu => ?_⟩⟩
  rw [Nat.zero_add, cell_of_row _ _ _ _ _ _ (heap_alloc_new w _)]
  simpa using hu
theorem ssl_lit (w : World) (ss : List ByteArray) (hl : ss.length ≤ 1000) : SSl (w.alloc (.cells (ss.map Value.string).toArray 9)) (.slice (some ⟨w.heap.size, 0, none⟩) ss.length ss.length) ss := by
  refine ⟨_, _, rfl, Nat.le_refl _, by unfold maxLen; omega, (fun e => by cases e), fun ad e _ => ⟨w.heap.size, 0, by cases e; rfl, fun j u hu => ?_⟩⟩
  rw [Nat.zero_add, cell_of_row _ _ _ _ _ _ (heap_alloc_new w _)]
  simp [hu]

theorem WS.alloc {w : World} {base a : Nat} {g : Option Nat} {bs : List UInt8} (h : WS w base a g bs) (o : Obj) : WS (w.alloc o) base a g bs := h.keep (S := fun _ => False) ((Keeps.refl _ _).alloc o) (fun h => h) (fun _ _ h => h)

theorem wrote_alloc {a : Nat} {g g' : Option Nat} {w w' : World} {o : Obj} (h : Wrote a g g' (w.alloc o) w') : Wrote a g g' w w' :=
  ⟨(((Keeps.refl _ w).alloc o).trans h.keeps), h.row.elim .inl fun ⟨k, e, hk⟩ => .inr ⟨k, e, by simp at hk; omega⟩⟩

/-- What a Writer writes, the rest below base stays. -/
theorem Wrote.below {a base : Nat} {g g' : Option Nat} {w w' : World} {bs : List UInt8} (h : Wrote a g g' w w') (hs : WS w base a g bs) : Below base w w' :=
  h.keeps.below (Nat.le_trans hs.base (Nat.le_of_lt hs.lt)) fun k hk => hk.elim (fun e => e ▸ hs.base) fun e => (hs.rowLt k e).1

theorem known_bytes : mpBytes [128] ++ (mpBytes [0, 0] ++ textBytes (joined [⟨#[122, 108, 105, 98]⟩, ⟨#[110, 111, 110, 101]⟩])) = [0, 0, 0, 2, 0, 128, 0, 0, 0, 0, 0, 0, 0, 9, 122, 108, 105, 98, 44, 110, 111, 110, 101] := by decide +kernel

set_option maxHeartbeats 800000 in
set_option maxRecDepth 100000 in
theorem known_c (w : World) : Calls Try.prog 27 #[] w fun e w' => e = .returned (.bool true) ∧ Below w.heap.size w w' := by
  have HK : Hid (_ = _) := known_bytes
  go_enter Try.func27, Try.ntmps27
  go_wp2_with fail
  refine (newWriter_c w).mono ?_
  rintro e w1 ⟨rfl, rfl⟩
  have hw1 := WS.new w (Nat.le_refl _)
  have hb1 : Below w.heap.size w (w.alloc (.cells #[.slice none 0 0] 56)) := (Below.refl _ _).alloc (Nat.le_refl _) _
  generalize w.alloc (.cells #[.slice none 0 0] 56) = w1 at hw1 hb1 ⊢
  have hl1 := hw1.lt
  have hv1 : BSl (w1.alloc (.cells #[.int .u8 128] 5)) (.slice (some ⟨w1.heap.size, 0, none⟩) 1 1) [128] := by simpa [bcells] using bsl_lit w1 [128] (by simp)
  go_wp2_with fail
  refine (mpint_c _ [128] (by simp) _ hv1 (hw1.alloc _) ⟨by simp [Value.ownBlock]; omega, fun k e => by cases e⟩ (by simp)).mono ?_
  rintro e w2 ⟨rfl, g2, hw2, hwr2⟩
  have hwr2' := wrote_alloc hwr2
  have hb2 := hb1.trans (hwr2'.below hw1)
  have hr2 := hw2.rowLt
  have hl2 := hw2.lt
  clear hwr2 hwr2' hw1 hb1 hv1
  have hv2 : BSl (w2.alloc (.cells #[.int .u8 0, .int .u8 0] 5)) (.slice (some ⟨w2.heap.size, 0, none⟩) 2 2) [0, 0] := by simpa [bcells] using bsl_lit w2 [0, 0] (by simp)
  go_wp2_with fail
  refine (mpint_c _ [0, 0] (by simp) _ hv2 (hw2.alloc _) ⟨by simp [Value.ownBlock]; omega, fun k e h => by have := (hr2 k e).2; simp [Value.ownBlock] at h; omega⟩ (by simp [mpBytes, bare, be])).mono ?_
  rintro e w3 ⟨rfl, g3, hw3, hwr3⟩
  have hwr3' := wrote_alloc hwr3
  have hb3 := hb2.trans (hwr3'.below hw2)
  have hl3 := hw3.lt
  clear hwr3 hwr3' hw2 hb2 hv2 hr2 hl2
  have hv3 : SSl (w3.alloc (.cells #[.string ⟨#[122, 108, 105, 98]⟩, .string ⟨#[110, 111, 110, 101]⟩] 9)) (.slice (some ⟨w3.heap.size, 0, none⟩) 2 2) [⟨#[122, 108, 105, 98]⟩, ⟨#[110, 111, 110, 101]⟩] := by simpa using ssl_lit w3 [⟨#[122, 108, 105, 98]⟩, ⟨#[110, 111, 110, 101]⟩] (by simp)
  go_wp2_with fail
  refine (names_c _ _ _ hv3 (by decide +kernel) (by simp) (hw3.alloc _) (by decide +kernel)).mono ?_
  rintro e w4 ⟨rfl, g4, hw4, hwr4⟩
  have hwr4' := wrote_alloc hwr4
  have hb4 := hb3.trans (hwr4'.below hw3)
  rw [List.nil_append, List.append_assoc, HK.out] at hw4
  clear hwr4 hwr4' hw3 hb3 hv3 HK
  go_wp2_with fail
  refine (done_c _ hw4 (by simp)).mono ?_
  rintro e w5 ⟨v5, rfl, ho5, hb5⟩
  have hb6 := hb4.trans (hb5.mono (Nat.le_of_lt hw4.lt))
  have hc5 := run_string (BSl.ofRow ho5)
  obtain ⟨ao, cp, rfl⟩ := ownsRow_shape ho5
  have hc6 : (convert 37 9 (.slice ao 23 cp)).run Try.prog w5 = .ok (.string ⟨#[0, 0, 0, 2, 0, 128, 0, 0, 0, 0, 0, 0, 0, 9, 122, 108, 105, 98, 44, 110, 111, 110, 101]⟩) w5 := hc5
  clear hc5
  go_wp2
  go_ret
  exact ⟨rfl, hb6⟩

end Go.Proofs.Ytahlefnkdbomfaa
