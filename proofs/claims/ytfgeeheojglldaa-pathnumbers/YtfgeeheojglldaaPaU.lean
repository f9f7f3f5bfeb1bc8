/- The walk of the law PathNumbers. -/
import Derived.Test.YtfgeeheojglldaaPaV
import Derived.BigRegion
import Derived.Lib.SlBytesConst
namespace Go.Proofs.Ytfgeeheojglldaa
open Go Go.RowKit

/-- A literal of bytes: its block bears a mark behind its last cell. -/
theorem bsl_mark (w : World) (xs : List UInt8) (fr : Nat × Nat) (hl : xs.length ≤ 1000) : BSl (w.alloc (.cells (bcells xs).toArray 5 fr)) (.slice (some ⟨w.heap.size, 0, none⟩) xs.length xs.length) xs := by
  refine ⟨_, _, rfl, Nat.le_refl _, by unfold maxLen; omega, (fun e => by cases e), fun ad e _ => ⟨w.heap.size, 0, by cases e; rfl, fun j u hu => ?_⟩⟩
  rw [Nat.zero_add, cell_of_row _ _ _ _ _ _ (heap_alloc_new w _)]
  simpa using hu
/-- Its list. -/
def L21 (S : ByteArray) : List ByteArray := [⟨#[]⟩, ⟨#[47]⟩, ⟨#[46]⟩, ⟨#[46, 46]⟩, ⟨#[47, 46, 46]⟩, ⟨#[47, 46, 46, 47, 97]⟩, ⟨#[97, 47, 46, 47, 98]⟩, ⟨#[97, 47, 98, 47, 46, 46]⟩, ⟨#[97, 47, 46, 46, 47, 46, 46]⟩, ⟨#[97, 47]⟩ ++ S.extract 0 30, ⟨#[97, 47]⟩ ++ S.extract 0 31, ⟨#[97, 47]⟩ ++ S.extract 0 31 ++ ⟨#[47, 46, 46]⟩, ⟨#[97, 0, 98]⟩, ⟨#[0]⟩, ⟨#[46, 46, 46]⟩, ⟨#[97, 47, 46, 46, 46, 47, 98]⟩, S, S.extract 0 200, ⟨#[47]⟩ ++ S.extract 0 30 ++ ⟨#[47]⟩ ++ S.extract 0 30, ⟨#[32]⟩, ⟨#[97, 32, 98, 47, 99, 10]⟩]
theorem L21_len (S : ByteArray) : (L21 S).length = 21 := rfl
theorem L21_size (S : ByteArray) (hS : S.size = 201) : ∀ x ∈ L21 S, x.size ≤ 1000 := by
  have h : ∀ (k : Nat) (h : k < (L21 S).length), ((L21 S)[k]).size ≤ 1000 := by
    intro k hk
    rw [L21_len] at hk
    have e1 : ∀ a b : ByteArray, (a ++ b).size = a.size + b.size := fun a b => ByteArray.size_append
    have e2 : ∀ n, (S.extract 0 n).size ≤ 201 := fun n => by simp; omega
    have h30 := e2 30
    have h31 := e2 31
    have h200 := e2 200
    have c2 : (⟨#[97, 47]⟩ : ByteArray).size = 2 := rfl
    have c3 : (⟨#[47, 46, 46]⟩ : ByteArray).size = 3 := rfl
    have c1 : (⟨#[47]⟩ : ByteArray).size = 1 := rfl
    match k, hk with
    | 0, _ => exact (by decide : (⟨#[]⟩ : ByteArray).size ≤ 1000)
    | 1, _ => exact (by decide : (⟨#[47]⟩ : ByteArray).size ≤ 1000)
    | 2, _ => exact (by decide : (⟨#[46]⟩ : ByteArray).size ≤ 1000)
    | 3, _ => exact (by decide : (⟨#[46, 46]⟩ : ByteArray).size ≤ 1000)
    | 4, _ => exact (by decide : (⟨#[47, 46, 46]⟩ : ByteArray).size ≤ 1000)
    | 5, _ => exact (by decide : (⟨#[47, 46, 46, 47, 97]⟩ : ByteArray).size ≤ 1000)
    | 6, _ => exact (by decide : (⟨#[97, 47, 46, 47, 98]⟩ : ByteArray).size ≤ 1000)
    | 7, _ => exact (by decide : (⟨#[97, 47, 98, 47, 46, 46]⟩ : ByteArray).size ≤ 1000)
    | 8, _ => exact (by decide : (⟨#[97, 47, 46, 46, 47, 46, 46]⟩ : ByteArray).size ≤ 1000)
    | 9, _ => show (⟨#[97, 47]⟩ ++ S.extract 0 30 : ByteArray).size ≤ 1000; rw [e1, c2]; omega
    | 10, _ => show (⟨#[97, 47]⟩ ++ S.extract 0 31 : ByteArray).size ≤ 1000; rw [e1, c2]; omega
    | 11, _ => show (⟨#[97, 47]⟩ ++ S.extract 0 31 ++ ⟨#[47, 46, 46]⟩ : ByteArray).size ≤ 1000; rw [e1, e1, c2, c3]; omega
    | 12, _ => exact (by decide : (⟨#[97, 0, 98]⟩ : ByteArray).size ≤ 1000)
    | 13, _ => exact (by decide : (⟨#[0]⟩ : ByteArray).size ≤ 1000)
    | 14, _ => exact (by decide : (⟨#[46, 46, 46]⟩ : ByteArray).size ≤ 1000)
    | 15, _ => exact (by decide : (⟨#[97, 47, 46, 46, 46, 47, 98]⟩ : ByteArray).size ≤ 1000)
    | 16, _ => show S.size ≤ 1000; omega
    | 17, _ => show (S.extract 0 200).size ≤ 1000; omega
    | 18, _ => show (⟨#[47]⟩ ++ S.extract 0 30 ++ ⟨#[47]⟩ ++ S.extract 0 30 : ByteArray).size ≤ 1000; rw [e1, e1, e1, c1]; omega
    | 19, _ => exact (by decide : (⟨#[32]⟩ : ByteArray).size ≤ 1000)
    | 20, _ => exact (by decide : (⟨#[97, 32, 98, 47, 99, 10]⟩ : ByteArray).size ≤ 1000)
    | k + 21, h => omega
  intro x hx
  obtain ⟨k, hk, rfl⟩ := List.getElem_of_mem hx
  exact h k hk

set_option maxHeartbeats 3200000 in
set_option maxRecDepth 100000 in
theorem pathNumbers_c (w : World) :
    Calls Try.prog 3 #[] w fun e w' => e = .returned (.bool true) ∧ Below w.heap.size w w' := by
  have kc := fun (w : World) (C : Array Value) (n c : Nat) => Lib.run_convert_bytes_const (P := Try.prog) w 22 5 C n c Try.underlying22 Try.underlying5
  go_enter Try.func3, Try.ntmps3
  go_wp2_with fail
  have hv1 : BSl (w.alloc (.cells #[.int .u8 97] 5 (1, 2))) (.slice (some ⟨w.heap.size, 0, none⟩) 1 1) [97] := by simpa [bcells] using bsl_mark w [97] (1, 2) (by simp)
  have hb1 : Below w.heap.size w (w.alloc (.cells #[.int .u8 97] 5 (1, 2))) := (Below.refl _ _).alloc (Nat.le_refl _) _
  generalize w.alloc (.cells #[.int .u8 97] 5 (1, 2)) = w1 at hv1 hb1 ⊢
  refine (sized_b 201 (by omega) _ [97] _ hv1).mono ?_
  rintro e w2 ⟨rfl, hv2, hb2⟩
  have HB2 := hidden (hb1.trans (hb2.mono hb1.size))
  have hrs := run_string hv2
  have hsz : (⟨(sizedL [97] 201).toArray⟩ : ByteArray).size = 201 := by rw [size_list, sizedL_length]
  generalize (⟨(sizedL [97] 201).toArray⟩ : ByteArray) = S at hrs hsz
  generalize w1.heap.size = g1 at hrs ⊢
  clear hv1 hb1 hv2 hb2
  go_wp2_with fail
  clear hrs
  have e30 : (S.extract 0 30).size = 30 := by simp; omega
  have e31 : (S.extract 0 31).size = 31 := by simp; omega
  have e200 : (S.extract 0 200).size = 200 := by simp; omega
  go_upto_region 2 with fail
  go_region_law fail
  simp only [List.getElem_toArray, List.getElem_cons_succ, List.getElem_cons_zero, Act.put, List.setIfInBounds_toArray, List.set_cons_zero, List.set_cons_succ]
  have hL : SSl (w2.alloc (.cells ((L21 S).map Value.string).toArray 9)).drew (.slice (some ⟨w2.heap.size, 0, none⟩) 21 21) (L21 S) := ssl_lit w2 (L21 S) (by rw [L21_len]; omega)
  have hBL : Below w.heap.size w (w2.alloc (.cells ((L21 S).map Value.string).toArray 9)).drew := (HB2.out.alloc HB2.out.size _).drew
  have hsL := L21_size S hsz
  obtain ⟨L, hLe⟩ : ∃ L, L = L21 S := ⟨_, rfl⟩
  obtain ⟨w3, hw3⟩ : ∃ w3, w3 = (w2.alloc (.cells ((L21 S).map Value.string).toArray 9)).drew := ⟨_, rfl⟩
  have hlen : L.length = 21 := by rw [hLe]; rfl
  rw [← hw3, ← hLe] at hL
  rw [← hw3] at hBL
  rw [← hLe] at hsL
  go_wp2_with fail
  change Code.wp _ _ _ _ (w2.alloc (.cells ((L21 S).map Value.string).toArray 9)).drew
  rw [← hw3]
  generalize w2.heap.size = g2 at hL ⊢
  have HL := hidden hL
  have HBL := hidden hBL
  have HSL := hidden hsL
  have HLEN := hidden hlen
  clear hL hBL hsL hlen hLe hw3 e30 e31 e200 hsz HB2 kc
  go_loopw [38] (fun c wr => ∃ k : Nat, k ≤ 21 ∧ c = .int .i64 k ∧ SSl wr (.slice (some ⟨g2, 0, none⟩) 21 21) L ∧ Below w.heap.size w wr) (fun c _ => 21 - (intOf c).toNat)
  case atStart => exact ⟨0, by omega, rfl, HL.out, HBL.out⟩
  case round =>
    clear HL HBL
    obtain ⟨k, hk, rfl, hl, hb⟩ := hrel
    have HL := hidden hl
    have HB := hidden hb
    clear hl hb
    by_cases hlt : k < 21
    · have hi1 : (k : Int) < 21 := by omega
      have hkl : k < L.length := by have := HLEN.out; omega
      have x1 := HL.out.cellAt k hkl
      rw [Nat.zero_add] at x1
      have hns : (L[k]).size ≤ 1000 := HSL.out _ (List.getElem_mem hkl)
      generalize L[k] = n at x1 hns
      clear hkl
      go_wp2_with fail
      refine (split_c n _ (by omega)).mono ?_
      rintro e w4 ⟨v4, rfl, ho4, hb4⟩
      have HB4 := hidden (HB.out.trans (hb4.mono HB.out.size))
      have HL4 := hidden (HL.out.fresh hb4)
      have HA4 := hidden ho4.ssl
      clear hb4 ho4
      go_wp2_with fail
      refine (rsplit_c n _ (by omega)).mono ?_
      rintro e w5 ⟨v5, rfl, ho5, hb5⟩
      have HB5 := hidden (HB4.out.trans (hb5.mono HB4.out.size))
      have HL5 := hidden (HL4.out.fresh hb5)
      have HA5 := hidden (HA4.out.fresh hb5)
      have HE5 := hidden ho5.ssl
      clear hb5 ho5
      go_wp2_with fail
      refine (clean_c n _ (by omega)).mono ?_
      rintro e w6 ⟨rfl, hb6⟩
      have HB6 := hidden (HB5.out.trans (hb6.mono HB5.out.size))
      have HL6 := hidden (HL5.out.fresh hb6)
      have HA6 := hidden (HA5.out.fresh hb6)
      have HE6 := hidden (HE5.out.fresh hb6)
      clear hb6
      go_wp2_with fail
      refine (rclean_c n _ (by omega)).mono ?_
      rintro e w7 ⟨rfl, hb7⟩
      have HB7 := hidden (HB6.out.trans (hb7.mono HB6.out.size))
      have HL7 := hidden (HL6.out.fresh hb7)
      have HA7 := hidden (HA6.out.fresh hb7)
      have HE7 := hidden (HE6.out.fresh hb7)
      clear hb7 HL4 HL5 HL6 HA4 HA5 HA6 HE5 HE6 HB4 HB5 HB6
      generalize splitE n.data.toList = SE
      generalize cleanL n.data.toList = CL
      generalize splitL n.data.toList = SL at HA7 HE7
      generalize tb CL = CB
      have h1 : (SE != SE) = false := by simp
      have h2 : (CB.toList == CB.toList) = true := by simp
      go_wp2_with fail
      refine (texts_c _ _ SL SL _ HA7.out HE7.out).mono ?_
      rintro e w8 ⟨rfl, q, rfl⟩
      rw [show decide (SL = SL) = true by simp]
      go_wp2_with fail
      refine (right_c n _).mono ?_
      rintro e w9 ⟨rfl, rfl⟩
      go_wp2_with fail
      refine (rright_c n _ (by omega)).mono ?_
      rintro e w10 ⟨rfl, rfl⟩
      generalize rightP n.data.toList = R
      have h3 : (R != R) = false := by simp
      go_wp2
      go_roundw
      case rel => exact ⟨k + 1, by omega, by go_num, ssl_drewN HL7.out q, below_drewN HB7.out q⟩
      case measure => simp [intOf]; omega
    · have hi1 : ¬ (k : Int) < 21 := by omega
      have HJ1 := hidden (fun W => join_c (.slice none 0 0) [] W ⟨none, 0, rfl, by simp, by simp [maxLen], fun _ => ⟨rfl, rfl⟩, fun ad e => by cases e⟩ (by simp [flat]))
      have HJ2 := hidden (fun v W (hv : SSl W v [⟨#[97]⟩, ⟨#[98]⟩]) => join_c v [⟨#[97]⟩, ⟨#[98]⟩] W hv (by decide))
      have c1 : tb (joinP []) = ⟨#[47]⟩ := rfl
      have c2 : tb (joinP [⟨#[97]⟩, ⟨#[98]⟩]) = ⟨#[47, 97, 47, 98]⟩ := rfl
      rw [c1] at HJ1
      rw [c2] at HJ2
      clear c1 c2
      go_wp2_with fail
      refine (HJ1.out _).mono ?_
      rintro e w4 ⟨rfl, hb4⟩
      have HB4 := hidden (HB.out.trans (hb4.mono HB.out.size))
      clear hb4
      go_wp2_with fail
      have hs5 : SSl (w4.alloc (.cells #[.string ⟨#[97]⟩, .string ⟨#[98]⟩] 9)) (.slice (some ⟨w4.heap.size, 0, none⟩) 2 2) [⟨#[97]⟩, ⟨#[98]⟩] := by simpa using ssl_lit w4 [⟨#[97]⟩, ⟨#[98]⟩] (by simp)
      have HB5 := hidden (HB4.out.alloc HB4.out.size (.cells #[.string ⟨#[97]⟩, .string ⟨#[98]⟩] 9))
      refine (HJ2.out _ _ hs5).mono ?_
      rintro e w6 ⟨rfl, hb6⟩
      have HB6 := hidden (HB5.out.trans (hb6.mono HB5.out.size))
      clear hb6 hs5
      go_wp2_with fail
      refine (known_c _).mono ?_
      rintro e w7 ⟨rfl, hb7⟩
      have HB7 := hidden (HB6.out.trans (hb7.mono HB6.out.size))
      go_wp2
      go_ret
      exact ⟨rfl, HB7.out⟩
end Go.Proofs.Ytfgeeheojglldaa
