/- kex: payloads written. -/
import Derived.Test.YtookapglookphaaDoorXkC
import Derived.Test.YtookapglookphaaDoorXrA
namespace Go.Proofs.YtookapglookphaaDoor
open Go Go.RowKit

/-- A payload: a byte that says its kind, and Texts. -/
def payL (kind : Nat) (px : Nat → List UInt8) (n : Nat) : List UInt8 := UInt8.ofNat kind :: joinTo px n
theorem payL_le (kind : Nat) (px : Nat → List UInt8) (n : Nat) (hn : n ≤ 4) (hp : ∀ i, (px i).length ≤ 1000) : (payL kind px n).length ≤ 5000 := by
  have := joinTo_le px 1000 hp n
  have h2 : n * (1000 + 4) ≤ 4 * (1000 + 4) := Nat.mul_le_mul_right _ hn
  rw [payL, List.length_cons]
  omega

/-- The Writer while Texts are written: the row of Texts stands. -/
structure PW (base : Nat) (w1 wr : World) (a B n : Nat) (pv : Nat → Value) (bs : List UInt8) : Prop where
  ws : ∃ g, WS wr base a g bs ∧ g ≠ some B
  cells : ∀ i, i < n → wr.cell? ⟨B, i, none⟩ = some (pv i)
  lt : B < wr.heap.size
  ne : B ≠ a
  b : Below base w1 wr
theorem PW.next {base : Nat} {w1 wr wr' : World} {a B n : Nat} {pv : Nat → Value} {bs bs' : List UInt8} {g g' : Option Nat} (h : PW base w1 wr a B n pv bs) (h1 : WS wr base a g bs) (hg : g ≠ some B) (h2 : WS wr' base a g' bs') (h3 : Wrote a g g' wr wr') : PW base w1 wr' a B n pv bs' := by
  have hB := h.lt
  refine ⟨⟨g', h2, ?_⟩, fun i hi => h3.keeps.cell (h.cells i hi) (fun e => e.elim h.ne hg), by have := h3.keeps.size; omega, h.ne, h.b.trans (h3.below h1)⟩
  intro e
  rcases h3.row with rfl | ⟨k, rfl, hk⟩
  · exact hg e
  · cases e; omega

set_option maxHeartbeats 1600000 in
set_option maxRecDepth 100000 in
theorem payload_c (kind : Nat) (hk : kind ≤ 255) (n B : Nat) (hn : n ≤ 4) (pv : Nat → Value) (px : Nat → List UInt8) (hp : ∀ i, (px i).length ≤ 1000) (w : World) (hB : B < w.heap.size) (hc : ∀ i, i < n → w.cell? ⟨B, i, none⟩ = some (pv i)) (hv : ∀ i, i < n → BSl w (pv i) (px i)) :
    Calls Tryd.prog 21 #[.int .i64 kind, .slice (some ⟨B, 0, none⟩) n n] w fun e w' => Fresh w (payL kind px n) e w' := by
  have HC := hidden hc
  have HV := hidden hv
  have HPx := hidden hp
  have HP := hidden (joinTo_le px 1000 hp)
  have HL := hidden (payL_le kind px n hn hp)
  have HY : Hid (payL kind px n = [UInt8.ofNat kind] ++ joinTo px n) := rfl
  generalize payL kind px n = RL at HY HL ⊢
  clear hc hv hp
  go_enter Tryd.func21, Tryd.ntmps21
  go_wp2_with fail
  refine (newWriter_c w).mono ?_
  rintro e w2 ⟨rfl, rfl⟩
  have hw2 := WS.new w (Nat.le_refl w.heap.size)
  have hb2 : Below w.heap.size w (w.alloc (.cells #[.slice none 0 0] 112)) := (Below.refl _ w).alloc (by omega) _
  generalize w.alloc (.cells #[.slice none 0 0] 112) = w2 at hw2 hb2 ⊢
  have HW2 := hidden hw2
  have HB2 := hidden hb2
  have HS : Hid (w.heap.size = w.heap.size) := rfl
  generalize hA : w.heap.size = a at HW2 HB2 HS hB ⊢
  have HA := hidden hA
  clear hw2 hb2 hA HS
  go_wp2_with fail
  refine (byte_c (kind : Int) w2 HW2.out (by simp)).mono ?_
  rintro e w3 ⟨rfl, g3, hw3, hwr3⟩
  rw [List.nil_append, show byteOf (kind : Int) = UInt8.ofNat kind from by unfold byteOf; rw [show ((kind : Int) % 256).toNat = kind by omega]] at hw3
  have HI : Hid (PW a w w3 a B n pv ([UInt8.ofNat kind] ++ joinTo px 0)) := by
    refine ⟨⟨g3, by simpa [joinTo] using hw3, ?_⟩, fun i hi => ?_, ?_, by omega, HB2.out.trans (hwr3.below HW2.out)⟩
    · rintro rfl
      have := (hw3.rowLt B rfl).1
      omega
    · exact (Keeps.ofFresh (S := fun _ => False) (by have h := HB2.out.trans (hwr3.below HW2.out); rw [← HA.out] at h; exact h)).cell (HC.out i hi) (fun h => h)
    · have := (HB2.out.trans (hwr3.below HW2.out)).size
      have := HA.out
      omega
  clear hw3 hwr3 HW2 HB2 HC
  go_wp2_with fail
  go_loopw [14] (fun c wr => ∃ j : Nat, j ≤ n ∧ c = .int .i64 (j : Int) ∧ PW a w wr a B n pv ([UInt8.ofNat kind] ++ joinTo px j)) (fun c _ => n - (intOf c).toNat)
  case atStart => exact ⟨0, by omega, rfl, HI.out⟩
  case round =>
    clear HI
    obtain ⟨j, hj, rfl, ht⟩ := hrel
    have HH := hidden ht
    obtain ⟨g, hws, hgB⟩ := ht.ws
    have HWS := hidden hws
    have HGB := hidden hgB
    clear ht hws hgB
    by_cases hlt : j < n
    · have hlt' : (j : Int) < (n : Int) := by omega
      have hcell := HH.out.cells j hlt
      have hbw : Below w.heap.size w wr := HH.out.b.mono (by have := HA.out; omega)
      have hvj := (HV.out j hlt).fresh hbw
      have hlj : (px j).length ≤ 1000 := HPx.out j
      have HPj := hidden (HP.out j)
      have hstr := run_string hvj
      have HTx : Hid (∀ s : ByteArray, s = ⟨(px j).toArray⟩ → s.size < 4294967296 ∧ s.size ≤ 1000 ∧ s.data.toList = px j) := fun s hs => by
        subst hs
        rw [size_list]
        exact ⟨by omega, hlj, rfl⟩
      obtain ⟨S, hS⟩ : ∃ S : ByteArray, S = ⟨(px j).toArray⟩ := ⟨_, rfl⟩
      rw [← hS] at hstr
      obtain ⟨q1, q2, q3⟩ := HTx.out S hS
      have Q3 := hidden q3
      obtain ⟨aj, cj, ej⟩ := hvj.len
      rw [ej] at hcell hstr
      have HJ : Hid (joinTo px (j + 1) = joinTo px j ++ textBytes (px j)) := rfl
      have hjl : (joinTo px j).length ≤ 5000 := by
        have h2 : j * (1000 + 4) ≤ 4 * (1000 + 4) := Nat.mul_le_mul_right _ (by omega)
        have := HPj.out
        omega
      have HJL := hidden hjl
      clear hvj ej HTx hS q3 hbw hjl HPj
      go_wp2_with fail
      refine (text_c S q1 wr HWS.out (by rw [List.length_append, List.length_singleton]; have := HJL.out; omega)).mono ?_
      rintro e w6 ⟨rfl, g6, hw6, hwr6⟩
      rw [Q3.out, List.append_assoc, ← HJ.out] at hw6
      have HN := hidden (HH.out.next HWS.out HGB.out hw6 hwr6)
      clear hw6 hwr6 hcell hstr
      go_wp2
      go_roundw
      case rel => exact ⟨j + 1, by omega, by go_num, HN.out⟩
      case measure => simp [intOf]; omega
    · have hlt' : ¬ (j : Int) < (n : Int) := by omega
      obtain rfl : j = n := by omega
      have HBw := hidden HH.out.b
      rw [← HY.out] at HWS
      have hrl := HL.out
      go_wp2_with fail
      refine (done_c wr HWS.out (by omega)).mono ?_
      rintro e w8 hf8
      have hbb : Below w.heap.size w wr := by have h1 := HBw.out; rw [← HA.out] at h1; exact h1
      obtain ⟨v8, rfl, ho8, hb8⟩ := Fresh.next hbb hf8
      have HO8 := hidden ho8
      have HB8 := hidden hb8
      clear ho8 hb8 hbb hf8
      go_wp2
      go_ret
      exact ⟨v8, rfl, HO8.out, HB8.out⟩
end Go.Proofs.YtookapglookphaaDoor
