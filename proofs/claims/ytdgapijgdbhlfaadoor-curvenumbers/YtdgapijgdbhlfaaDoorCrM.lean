/- The document's Base; what both tell alike. -/
import Derived.Test.YtdgapijgdbhlfaaDoorCrL
import Derived.Test.YtdgapijgdbhlfaaDoorCuX
namespace Go.Proofs.YtdgapijgdbhlfaaDoor
open Go Go.RowKit

/-- What the document tells: new bytes beside OK, or nothing beside ErrArg. -/
structure RTold (w : World) (ok : Prop) (x : List UInt8) (e : Ending) (w' : World) : Prop where
  b : Below w.heap.size w w'
  y : ok → ∃ ao cap, e = .returned (.tuple #[.slice ao 32 cap, .int .i64 0]) ∧ BSl w' (.slice ao 32 cap) x
  n : ¬ ok → e = .returned (.tuple #[.slice none 0 0, .int .i64 1])
theorem rMul_t (v1 v2 : Value) (k p : List UInt8) (w : World) (h1 : BSl w v1 k) (h2 : BSl w v2 p) :
    Calls Tryd.prog 12 #[v1, v2] w (RTold w (k.length = 32 ∧ p.length = 32) (mulL k p)) :=
  (rMul_c v1 v2 k p w h1 h2).mono fun _ _ ⟨h1, h2, h3⟩ => ⟨h1, h2, h3⟩
set_option maxHeartbeats 800000 in
set_option maxRecDepth 100000 in
theorem rBase_c (v1 : Value) (k : List UInt8) (w : World) (h1 : BSl w v1 k) :
    Calls Tryd.prog 15 #[v1] w (RTold w (k.length = 32) (mulL k nineL)) := by
  have H1 := hidden h1
  obtain ⟨ao1, cap1, rfl, hc1, hc2, _⟩ := h1
  have HMK := made_run 32 (by omega) w
  rw [show ((32 : Nat) : Int) = 32 from rfl] at HMK
  obtain ⟨ZA, hZA⟩ : ∃ ZA, ZA = (bcells (List.replicate 32 0)).toArray := ⟨_, rfl⟩
  rw [← hZA] at HMK
  have hg0 := heap_alloc_new w (.cells ZA 5)
  have hx : Below w.heap.size w (w.alloc (.cells ZA 5)) := (Below.refl _ w).alloc (Nat.le_refl _) _
  rw [hZA] at hg0
  have hc := cell_row hg0 0
  rw [show (bcells (List.replicate 32 0))[0]? = some (.int .u8 0) from rfl] at hc
  have hf := frozen_row hg0 0
  have HN : Hid (((w.alloc (.cells ZA 5)).setCell ⟨w.heap.size, 0, none⟩ (.int .u8 9)).heap[w.heap.size]? = some (.cells (bcells nineL).toArray 5 (0, 0))) := by
    show _ = _
    rw [heap_setCell_same _ _ _ _ _ _ (by rw [hZA]; exact hg0)]
    rfl
  have HB : Hid (Below w.heap.size w ((w.alloc (.cells ZA 5)).setCell ⟨w.heap.size, 0, none⟩ (.int .u8 9))) := hx.setCell (Nat.le_refl _) _
  rw [← hZA] at hc hf
  clear hg0 hx hZA
  generalize w.alloc (.cells ZA 5) = w1 at HMK hc hf HN HB
  go_enter Tryd.func15, Tryd.ntmps15
  go_wp2_with fail
  generalize w1.setCell ⟨w.heap.size, 0, none⟩ (.int .u8 9) = w2 at HN HB ⊢
  have HV2 := hidden (BSl.ofBlock HN.out (by decide))
  have HC := hidden (rMul_t _ _ k nineL w2 (H1.out.fresh HB.out) HV2.out)
  have h32 : nineL.length = 32 := by decide
  rw [show nineL.length = 32 from h32] at HC
  clear HMK hc hf h32
  refine HC.out.mono ?_
  intro e w3 hT
  have HB3 : Hid (Below w.heap.size w w3) := Below.trans HB.out (hT.b.mono HB.out.size)
  clear HC HV2 HN
  by_cases hk : k.length = 32
  · obtain ⟨ao, cap, rfl, n3⟩ := hT.y ⟨hk, rfl⟩
    have HK := hidden hk
    have HN3 := hidden n3
    clear hT hk n3
    go_wp2
    go_ret2
    exact ⟨HB3.out, fun _ => ⟨ao, cap, rfl, HN3.out⟩, fun h => absurd HK.out h⟩
  · have hn := hT.n (fun h => hk h.1)
    subst hn
    have HK := hidden hk
    clear hT hk
    go_wp2
    go_ret2
    exact ⟨HB3.out, fun h => absurd h HK.out, fun _ => rfl⟩
end Go.Proofs.YtdgapijgdbhlfaaDoor
