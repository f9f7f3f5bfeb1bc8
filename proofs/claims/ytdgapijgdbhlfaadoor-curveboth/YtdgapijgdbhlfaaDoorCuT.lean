/- Mul and Base. -/
import Derived.Test.YtdgapijgdbhlfaaDoorCuK
import Derived.Test.YtdgapijgdbhlfaaDoorCuL
import Derived.Test.YtdgapijgdbhlfaaDoorCuO
import Derived.Test.YtdgapijgdbhlfaaDoorCuR
namespace Go.Proofs.YtdgapijgdbhlfaaDoor
open Go Go.RowKit

/-- What Mul answers where both have 32 bytes. -/
def mulL (k p : List UInt8) : List UInt8 := outL (ladderOf (clampL k) (numV p % pC)) 32
theorem mulL_length (k p : List UInt8) : (mulL k p).length = 32 := outL_length _ _
/-- What is told: new bytes beside OK, or nothing beside ErrArg. -/
structure Told (w : World) (ok : Prop) (x : List UInt8) (e : Ending) (w' : World) : Prop where
  b : Below w.heap.size w w'
  y : ok → ∃ g, e = .returned (.tuple #[.slice (some ⟨g, 0, none⟩) 32 32, .int .i64 0]) ∧ w.heap.size ≤ g ∧ w'.heap[g]? = some (.cells (bcells x).toArray 5 (0, 0))
  n : ¬ ok → e = .returned (.tuple #[.slice none 0 0, .int .i64 1])

set_option maxHeartbeats 800000 in
set_option maxRecDepth 100000 in
theorem Mul_c (v1 v2 : Value) (k p : List UInt8) (w : World) (htp : Tp w) (h1 : BSl w v1 k) (h2 : BSl w v2 p) :
    Calls Tryd.prog 8 #[v1, v2] w (Told w (k.length = 32 ∧ p.length = 32) (mulL k p)) := by
  have H1 := hidden h1
  have H2 := hidden h2
  obtain ⟨ao1, cap1, rfl, hc1, hc2, _⟩ := h1
  obtain ⟨ao2, cap2, rfl, hc3, hc4, _⟩ := h2
  by_cases hk : k.length = 32
  · by_cases hp : p.length = 32
    · obtain ⟨SA, hSA⟩ : ∃ SA, SA = (bcells (clampL k)).toArray := ⟨_, rfl⟩
      have HA := hidden (clamped_c _ k hk w H1.out)
      have HB : Hid (∀ w', Below w.heap.size w w' → Calls Tryd.prog 18 #[.slice ao2 p.length cap2] w' fun e w'' => ∃ r, e = .returned r ∧ IsN r (numV p % pC) ∧ Ex w' w'') := fun w' hb => numberOf_c _ p hp w' (H2.out.fresh hb)
      have HC : Hid (∀ r w', IsN r (numV p % pC) → Tp w' → Calls Tryd.prog 16 #[.agg SA, r] w' fun e w'' => ∃ r2, e = .returned r2 ∧ IsN r2 (ladderOf (clampL k) (numV p % pC)) ∧ Ex w' w'') := fun r w' hr ht => by rw [hSA]; exact climb_c (clampL k) (by rw [clampL_length]; exact hk) hr w' ht
      have HTP := hidden htp
      have HX : Hid (mulL k p = outL (ladderOf (clampL k) (numV p % pC)) 32) := rfl
      generalize ladderOf (clampL k) (numV p % pC) = A at HC HX
      generalize numV p % pC = u at HB HC
      rw [← hSA] at HA
      have HK := hidden hk
      have HP := hidden hp
      rw [hk] at HA ⊢
      rw [hp] at HB ⊢
      clear hSA htp hk hp hc1 hc3
      go_enter Tryd.func8, Tryd.ntmps8
      go_wp2_with fail
      refine HA.out.mono ?_
      rintro e w1 ⟨rfl, b1⟩
      clear HA
      go_wp2_with fail
      refine (HB.out w1 b1).mono ?_
      rintro e w2 ⟨r, rfl, hr, x2⟩
      have b2 : Ex w w2 := Ex.trans b1 x2
      have HR := hidden hr
      clear HB b1 x2 hr
      go_wp2_with fail
      refine (HC.out r w2 HR.out (HTP.out.fresh b2)).mono ?_
      rintro e w3 ⟨r2, rfl, hr2, x3⟩
      have b3 : Ex w w3 := b2.trans x3
      clear HC b2 x3 HR
      go_wp2_with (first
        | (refine wpList_new (d := 6) (e := 19) (v := r2) ⟨rfl, rfl⟩ rfl rfl rfl rfl (by kernel_rfl) (by kernel_rfl) hr2 (by decide) ?_; intro g6 w4 x4 n4 l4))
      obtain ⟨R, nR, tR⟩ := n4
      have b4 : Ex w w4 := b3.trans x4
      have HD := hidden (bytes_c g6 R A tR w4 nR)
      have HG : Hid (w.heap.size ≤ g6) := by show _ ≤ _; have := b3.size; omega
      have HB4 := hidden b4
      clear hr2 b3 x4 l4 nR tR b4
      go_wp2_with fail
      refine HD.out.mono ?_
      rintro e w5 ⟨gb, rfl, l5, n5, k5⟩
      have HB5 : Hid (Below w.heap.size w w5) := Below.trans HB4.out (k5.below (B := w.heap.size) HB4.out.size (by intro k e; rw [e]; exact HG.out))
      have HL5 : Hid (w.heap.size ≤ gb) := Nat.le_trans HB4.out.size l5
      have HN5 := hidden n5
      clear HD l5 n5 k5 HB4 HG
      go_wp2
      go_ret2
      exact ⟨HB5.out, fun _ => ⟨gb, rfl, HL5.out, by rw [HX.out]; exact HN5.out⟩, fun h => absurd (by simp) h⟩
    · have hq1 : ((k.length : Int) != 32) = false := by rw [hk]; rfl
      have hq2 : ((p.length : Int) != 32) = true := by rw [bne_iff_ne]; omega
      have HNO : Hid (¬ (k.length = 32 ∧ p.length = 32)) := fun h => hp h.2
      generalize (k.length = 32 ∧ p.length = 32) = ok at HNO ⊢
      rw [hk]
      clear hk hp hc1 hc3
      go_enter Tryd.func8, Tryd.ntmps8
      go_wp2
      go_ret2
      exact ⟨Below.refl _ _, fun h => absurd h HNO.out, fun _ => rfl⟩
  · have hq1 : ((k.length : Int) != 32) = true := by rw [bne_iff_ne]; omega
    have HNO : Hid (¬ (k.length = 32 ∧ p.length = 32)) := fun h => hk h.1
    clear hk hc1 hc3
    generalize (k.length = 32 ∧ p.length = 32) = ok at HNO ⊢
    go_enter Tryd.func8, Tryd.ntmps8
    go_wp2
    go_ret2
    exact ⟨Below.refl _ _, fun h => absurd h HNO.out, fun _ => rfl⟩
/-- The base point. -/
def nineL : List UInt8 := 9 :: List.replicate 31 0
set_option maxHeartbeats 800000 in
set_option maxRecDepth 100000 in
theorem Base_c (v1 : Value) (k : List UInt8) (w : World) (htp : Tp w) (h1 : BSl w v1 k) :
    Calls Tryd.prog 10 #[v1] w (Told w (k.length = 32) (mulL k nineL)) := by
  have H1 := hidden h1
  obtain ⟨ao1, cap1, rfl, hc1, hc2, _⟩ := h1
  have HMK := made_run 32 (by omega) w
  rw [show ((32 : Nat) : Int) = 32 from rfl] at HMK
  obtain ⟨ZA, hZA⟩ : ∃ ZA, ZA = (bcells (List.replicate 32 0)).toArray := ⟨_, rfl⟩
  rw [← hZA] at HMK
  have hg0 := heap_alloc_new w (.cells ZA 5)
  have hx : Below w.heap.size w (w.alloc (.cells ZA 5)) := (Below.refl _ w).alloc (Nat.le_refl _) _
  rw [hZA] at hg0
  have hc := cell_row hg0 0
  rw [show (bcells (List.replicate 32 0))[0]? = some (.int .u8 0) from rfl] at hc
  have hf := frozen_row hg0 0
  have HN : Hid (((w.alloc (.cells ZA 5)).setCell ⟨w.heap.size, 0, none⟩ (.int .u8 9)).heap[w.heap.size]? = some (.cells (bcells nineL).toArray 5 (0, 0))) := by
    show _ = _
    rw [heap_setCell_same _ _ _ _ _ _ (by rw [hZA]; exact hg0)]
    rfl
  have HB : Hid (Below w.heap.size w ((w.alloc (.cells ZA 5)).setCell ⟨w.heap.size, 0, none⟩ (.int .u8 9))) := hx.setCell (Nat.le_refl _) _
  rw [← hZA] at hc hf
  have HTP := hidden htp
  clear hg0 hx hZA htp
  generalize w.alloc (.cells ZA 5) = w1 at HMK hc hf HN HB
  go_enter Tryd.func10, Tryd.ntmps10
  go_wp2_with fail
  generalize w1.setCell ⟨w.heap.size, 0, none⟩ (.int .u8 9) = w2 at HN HB ⊢
  have HV2 := hidden (BSl.ofBlock HN.out (by decide))
  have HC := hidden (Mul_c _ _ k nineL w2 (HTP.out.fresh HB.out) (H1.out.fresh HB.out) HV2.out)
  have h32 : nineL.length = 32 := by decide
  rw [show nineL.length = 32 from h32] at HC
  clear HMK hc hf h32
  refine HC.out.mono ?_
  intro e w3 hT
  have HB3 : Hid (Below w.heap.size w w3) := Below.trans HB.out (hT.b.mono HB.out.size)
  have HSZ := hidden HB.out.size
  clear HC HV2 HN HTP
  by_cases hk : k.length = 32
  · obtain ⟨g, rfl, l3, n3⟩ := hT.y ⟨hk, rfl⟩
    have HK := hidden hk
    have HL3 : Hid (w.heap.size ≤ g) := Nat.le_trans HSZ.out l3
    have HN3 := hidden n3
    clear hT hk l3 n3 HSZ
    go_wp2
    go_ret2
    exact ⟨HB3.out, fun _ => ⟨g, rfl, HL3.out, HN3.out⟩, fun h => absurd HK.out h⟩
  · have hn := hT.n (fun h => hk h.1)
    subst hn
    have HK := hidden hk
    clear hT hk
    go_wp2
    go_ret2
    exact ⟨HB3.out, fun h => absurd h HK.out, fun _ => rfl⟩
end Go.Proofs.YtdgapijgdbhlfaaDoor
