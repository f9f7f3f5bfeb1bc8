/- The law's helper known answers true, and leaves what was there as it was. -/
import Derived.Test.YtnnhffjajbiicaaNgD
import Derived.Lib.SlBytesConst
namespace Go.Proofs.Ytnnhffjajbiicaa
open Go Go.RowKit

theorem still_below {w w' : World} (h : Still w w') {B : Nat} (hB : B ≤ w.heap.size) : Below B w w' := Keeps.below h hB fun _ e => e.elim
theorem SSl.alloc {w : World} {v : Value} {ss : List ByteArray} (h : SSl w v ss) (o : Obj) : SSl (w.alloc o) v ss := h.keep (S := fun _ => False) ((Keeps.refl _ _).alloc o) fun _ _ h => h
theorem known_one : chooseO [⟨#[97]⟩, ⟨#[98]⟩] [⟨#[99]⟩, ⟨#[98]⟩] = some ⟨#[98]⟩ := by decide +kernel
theorem known_two : chooseO [⟨#[97]⟩] [⟨#[98]⟩] = none := by decide +kernel
theorem known_three : versionT [83, 83, 72, 45, 50, 46, 48, 45, 120, 13, 10, 109, 111, 114, 101] = (⟨#[83, 83, 72, 45, 50, 46, 48, 45, 120]⟩, 11, 0) := by
  have h1 : endAt ([83, 83, 72, 45, 50, 46, 48, 45, 120, 13, 10, 109, 111, 114, 101].take 255) = some 9 := by decide +kernel
  unfold versionT
  rw [h1]
  have h2 : rightV ⟨([83, 83, 72, 45, 50, 46, 48, 45, 120, 13, 10, 109, 111, 114, 101].take 9).toArray⟩ = true := by decide +kernel
  show (if rightV _ = true then _ else _) = _
  rw [if_pos h2]
  rfl

/-- A literal of bytes: its block bears a mark behind its last cell. -/
theorem bsl_mark (w : World) (xs : List UInt8) (fr : Nat × Nat) (hl : xs.length ≤ 1000) : BSl (w.alloc (.cells (bcells xs).toArray 5 fr)) (.slice (some ⟨w.heap.size, 0, none⟩) xs.length xs.length) xs := by
  refine ⟨_, _, rfl, Nat.le_refl _, by unfold maxLen; omega, (fun e => by cases e), fun ad e _ => ⟨w.heap.size, 0, by cases e; rfl, fun j u hu => ?_⟩⟩
  rw [Nat.zero_add, cell_of_row _ _ _ _ _ _ (heap_alloc_new w _)]
  simpa using hu

set_option maxHeartbeats 1600000 in
set_option maxRecDepth 100000 in
theorem known_c (w : World) : Calls Try.prog 19 #[] w fun e w' => e = .returned (.bool true) ∧ Below w.heap.size w w' := by
  have HK1 := hidden known_one
  have HK2 := hidden known_two
  have HK3 := hidden known_three
  have kc := fun (w : World) (C : Array Value) (n c : Nat) => Lib.run_convert_bytes_const (P := Try.prog) w 22 5 C n c Try.underlying22 Try.underlying5
  go_enter Try.func19, Try.ntmps19
  go_wp2_with fail
  have hv1 : SSl (w.alloc (.cells #[.string ⟨#[97]⟩, .string ⟨#[98]⟩] 9)) (.slice (some ⟨w.heap.size, 0, none⟩) 2 2) [⟨#[97]⟩, ⟨#[98]⟩] := by simpa using ssl_lit w [⟨#[97]⟩, ⟨#[98]⟩] (by simp)
  have hb1 : Below w.heap.size w (w.alloc (.cells #[.string ⟨#[97]⟩, .string ⟨#[98]⟩] 9)) := (Below.refl _ _).alloc (Nat.le_refl _) _
  have hz1 : (w.alloc (.cells #[.string ⟨#[97]⟩, .string ⟨#[98]⟩] 9)).heap.size = w.heap.size + 1 := by simp
  generalize w.alloc (.cells #[.string ⟨#[97]⟩, .string ⟨#[98]⟩] 9) = w1 at hv1 hb1 hz1 ⊢
  have hv2 : SSl (w1.alloc (.cells #[.string ⟨#[99]⟩, .string ⟨#[98]⟩] 9)) (.slice (some ⟨w1.heap.size, 0, none⟩) 2 2) [⟨#[99]⟩, ⟨#[98]⟩] := by simpa using ssl_lit w1 [⟨#[99]⟩, ⟨#[98]⟩] (by simp)
  rw [hz1] at hv2
  refine (choose_c _ _ _ _ _ (hv1.alloc _) hv2).mono ?_
  rintro e w2 ⟨rfl, rfl⟩
  rw [HK1.out]
  simp only [chosenV]
  have hb2 : Below w.heap.size w (w1.alloc (.cells #[.string ⟨#[99]⟩, .string ⟨#[98]⟩] 9)) := hb1.alloc hb1.size _
  generalize w1.alloc (.cells #[.string ⟨#[99]⟩, .string ⟨#[98]⟩] 9) = w2 at hb2 ⊢
  clear hv1 hv2 hb1 hz1 HK1
  go_wp2_with fail
  have hv1 : SSl (w2.alloc (.cells #[.string ⟨#[97]⟩] 9)) (.slice (some ⟨w2.heap.size, 0, none⟩) 1 1) [⟨#[97]⟩] := by simpa using ssl_lit w2 [⟨#[97]⟩] (by simp)
  have hb3 : Below w.heap.size w (w2.alloc (.cells #[.string ⟨#[97]⟩] 9)) := hb2.alloc hb2.size _
  have hz1 : (w2.alloc (.cells #[.string ⟨#[97]⟩] 9)).heap.size = w2.heap.size + 1 := by simp
  generalize w2.alloc (.cells #[.string ⟨#[97]⟩] 9) = w3 at hv1 hb3 hz1 ⊢
  have hv2 : SSl (w3.alloc (.cells #[.string ⟨#[98]⟩] 9)) (.slice (some ⟨w3.heap.size, 0, none⟩) 1 1) [⟨#[98]⟩] := by simpa using ssl_lit w3 [⟨#[98]⟩] (by simp)
  rw [hz1] at hv2
  refine (choose_c _ _ _ _ _ (hv1.alloc _) hv2).mono ?_
  rintro e w4 ⟨rfl, rfl⟩
  rw [HK2.out]
  simp only [chosenV]
  have hb4 : Below w.heap.size w (w3.alloc (.cells #[.string ⟨#[98]⟩] 9)) := hb3.alloc hb3.size _
  generalize w3.alloc (.cells #[.string ⟨#[98]⟩] 9) = w4 at hb4 ⊢
  clear hv1 hv2 hb2 hb3 hz1 HK2
  obtain ⟨C, hC⟩ : ∃ C : Array Value, C = #[.int .u8 83, .int .u8 83, .int .u8 72, .int .u8 45, .int .u8 50, .int .u8 46, .int .u8 48, .int .u8 45, .int .u8 120, .int .u8 13, .int .u8 10, .int .u8 109, .int .u8 111, .int .u8 114, .int .u8 101] := ⟨_, rfl⟩
  have hv3 : BSl (w4.alloc (.cells C 5 (15, 16))) (.slice (some ⟨w4.heap.size, 0, none⟩) 15 15) [83, 83, 72, 45, 50, 46, 48, 45, 120, 13, 10, 109, 111, 114, 101] := by
    subst hC
    simpa [bcells] using bsl_mark w4 [83, 83, 72, 45, 50, 46, 48, 45, 120, 13, 10, 109, 111, 114, 101] (15, 16) (by simp)
  have hb5 : Below w.heap.size w (w4.alloc (.cells C 5 (15, 16))) := hb4.alloc hb4.size _
  have HC := hidden hC
  clear hC
  go_wp2_with fail
  rw [← HC.out]
  refine (version_c _ _ _ hv3).mono ?_
  rintro e w6 ⟨rfl, hs6⟩
  rw [HK3.out]
  simp only [versionV]
  have hb6 := hb5.trans (still_below hs6 hb5.size)
  clear hs6 hv3 hb5 kc
  go_wp2
  go_ret
  exact ⟨rfl, hb6⟩
end Go.Proofs.Ytnnhffjajbiicaa
