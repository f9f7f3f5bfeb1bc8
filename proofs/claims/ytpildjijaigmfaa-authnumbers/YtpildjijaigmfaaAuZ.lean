/- The walk of AuthNumbers. -/
import Derived.Test.YtpildjijaigmfaaAuY
import Derived.Test.YtpildjijaigmfaaAuFr
import Derived.Deep.CutRange
namespace Go.Proofs.Ytpildjijaigmfaa
open Go Go.RowKit

def U3 : List Usr := [(⟨#[117]⟩, ⟨#[112]⟩), (⟨#[]⟩, ⟨#[]⟩), (⟨#[117]⟩, ⟨#[113]⟩)]
theorem U3B : UB U3 := ⟨by simp [U3], by intro u hu; simp [U3] at hu; rcases hu with rfl | rfl | rfl <;> exact ⟨by decide, by decide⟩⟩
theorem usl_lit3 (w : World) : USl (w.alloc (.cells #[.string ⟨#[117]⟩, .string ⟨#[112]⟩, .string ⟨#[]⟩, .string ⟨#[]⟩, .string ⟨#[117]⟩, .string ⟨#[113]⟩] 23)) (.slice (some ⟨w.heap.size, 0, none⟩) 3 3) U3 := by
  refine ⟨some ⟨w.heap.size, 0, none⟩, 3, rfl, by simp [U3], by simp [maxLen], (fun e => by cases e), fun ad e _ => ?_⟩
  cases e
  refine ⟨w.heap.size, 0, rfl, fun j x hj => ?_⟩
  have h := heap_alloc_new w (.cells #[.string ⟨#[117]⟩, .string ⟨#[112]⟩, .string ⟨#[]⟩, .string ⟨#[]⟩, .string ⟨#[117]⟩, .string ⟨#[113]⟩] 23)
  rw [Nat.zero_add]
  have := cell_row (cs := ucells U3) h j
  rw [this, hj]

/-- The row of rows at G: eighteen of them. -/
def R18 (w0 w : World) (G : Nat) : Prop := (∃ R : List Value, R.length = 18 ∧ w.heap[G]? = some (.cells R.toArray 29 (0, 0)) ∧ ∀ v, v ∈ R → ROk w v) ∧ Below w0.heap.size w0 w
theorem R18.fresh {w0 w w' : World} {G : Nat} (h : R18 w0 w G) (hb : Below w.heap.size w w') : R18 w0 w' G := by
  obtain ⟨⟨R, h1, h2, h3⟩, h4⟩ := h
  exact ⟨⟨R, h1, (hb.block G (lt_of_block h2)).trans h2, fun v hv => (h3 v hv).fresh hb⟩, h4.trans (hb.mono h4.size)⟩
theorem R18.at {w0 w : World} {G : Nat} (h : R18 w0 w G) (j : Nat) (hj : j < 18) : ∃ u, w.cell? ⟨G, j, none⟩ = some u ∧ ∃ ps, LSl w u ps ∧ ∀ i, i < ps.length → (ps.getD i []).length ≤ 300 := by
  obtain ⟨⟨R, h1, h2, h3⟩, h4⟩ := h
  have hj' : j < R.length := by omega
  refine ⟨R[j], ?_, h3 _ (List.getElem_mem hj')⟩
  rw [cell_row h2 j, List.getElem?_eq_getElem hj']
theorem r18_new {w0 w : World} {B R : List Value} (h : Led w0 w B R) {g : Nat} (hg : w.heap.size = g) (hR : R.length = 18) : R18 w0 (w.alloc (.cells R.toArray 29)) g := by
  subst hg
  have h2 := h.fresh (belowAlloc w (.cells R.toArray 29))
  exact ⟨⟨R, hR, heap_alloc_new w _, h2.r⟩, h2.below⟩

set_option maxHeartbeats 6400000 in
set_option maxRecDepth 100000 in
theorem authNumbers_c (w : World) : Calls Try.prog 3 #[] w fun e w' => e = .returned (.bool true) ∧ Below w.heap.size w w' := by
  obtain ⟨i0, hi, hz0, hz1, hz2⟩ := info_parts Try.infoU8
  have HU := hidden (usl_lit3 w)
  have HB0 := hidden (belowAlloc w (.cells #[.string ⟨#[117]⟩, .string ⟨#[112]⟩, .string ⟨#[]⟩, .string ⟨#[]⟩, .string ⟨#[117]⟩, .string ⟨#[113]⟩] 23))
  have hsz := sz w (.cells #[.string ⟨#[117]⟩, .string ⟨#[112]⟩, .string ⟨#[]⟩, .string ⟨#[]⟩, .string ⟨#[117]⟩, .string ⟨#[113]⟩] 23)
  have HOB : Hid (∀ k, (Value.slice (some ⟨w.heap.size, 0, none⟩) 3 3).ownBlock = some k → k < (w.alloc (.cells #[.string ⟨#[117]⟩, .string ⟨#[112]⟩, .string ⟨#[]⟩, .string ⟨#[]⟩, .string ⟨#[117]⟩, .string ⟨#[113]⟩] 23)).heap.size) := hidden fun k e => by simp [Value.ownBlock] at e; omega
  clear hsz
  go_enter Try.func3, Try.ntmps3
  go_wp2_with fail
  obtain ⟨UB0, hUB⟩ : ∃ b, b = w.heap.size := ⟨_, rfl⟩
  rw [← hUB] at HU HOB ⊢
  generalize w.alloc (.cells #[.string ⟨#[117]⟩, .string ⟨#[112]⟩, .string ⟨#[]⟩, .string ⟨#[]⟩, .string ⟨#[117]⟩, .string ⟨#[113]⟩] 23) = w0 at HU HB0 HOB ⊢
  clear hUB
  have HL : Hid (Led w0 w0 [] []) := hidden ⟨fun i => bok_nil _, (fun v hv => by cases hv), Below.refl _ _⟩
  refine (pay_led 1 0 ⟨#[]⟩ ⟨#[]⟩ ⟨#[]⟩ HL.out).mono ?_
  rintro e w2 ⟨a2, n2, c2, rfl, L⟩
  have HL2 : Hid (Led w0 w2 [.slice a2 n2 c2] []) := hidden L
  replace HL := HL2
  clear L HL2
  go_wp2_with fail
  refine (pay_led 2 0 ⟨#[117]⟩ ⟨#[112]⟩ ⟨#[]⟩ HL.out).mono ?_
  rintro e w3 ⟨a3, n3, c3, rfl, L⟩
  have HL2 : Hid (Led w0 w3 [.slice a2 n2 c2, .slice a3 n3 c3] []) := hidden L
  replace HL := HL2
  clear L HL2
  go_wp2_with fail
  refine (pay_led 2 0 ⟨#[117]⟩ ⟨#[120]⟩ ⟨#[]⟩ HL.out).mono ?_
  rintro e w4 ⟨a4, n4, c4, rfl, L⟩
  have HL2 : Hid (Led w0 w4 [.slice a2 n2 c2, .slice a3 n3 c3, .slice a4 n4 c4] []) := hidden L
  replace HL := HL2
  clear L HL2
  go_wp2_with fail
  refine (pay_led 3 0 ⟨#[117]⟩ ⟨#[]⟩ ⟨#[110, 111, 110, 101]⟩ HL.out).mono ?_
  rintro e w5 ⟨a5, n5, c5, rfl, L⟩
  have HL2 : Hid (Led w0 w5 [.slice a2 n2 c2, .slice a3 n3 c3, .slice a4 n4 c4, .slice a5 n5 c5] []) := hidden L
  replace HL := HL2
  clear L HL2
  go_wp2_with fail
  refine (pay_led 2 1 ⟨#[117]⟩ ⟨#[112]⟩ ⟨#[]⟩ HL.out).mono ?_
  rintro e w6 ⟨a6, n6, c6, rfl, L⟩
  have HL2 : Hid (Led w0 w6 [.slice a2 n2 c2, .slice a3 n3 c3, .slice a4 n4 c4, .slice a5 n5 c5, .slice a6 n6 c6] []) := hidden L
  replace HL := HL2
  clear L HL2
  have hmk := made_run 65 (by omega) w6
  have hcv := run_string (BSl.zeros w6 65 (by omega))
  rw [show (((65 : Nat) : Int)) = 65 from rfl] at hmk
  generalize (⟨(List.replicate 65 (0 : UInt8)).toArray⟩ : ByteArray) = Z at hcv
  generalize (bcells (List.replicate 65 0)).toArray = ZC at hmk hcv
  go_wp2_with fail
  have L := HL.out.fresh (belowAlloc w6 (.cells ZC 5))
  replace HL := hidden L
  clear L hmk hcv
  refine (pay_led 2 0 Z ⟨#[112]⟩ ⟨#[]⟩ HL.out).mono ?_
  rintro e w7 ⟨a7, n7, c7, rfl, L⟩
  have HL2 : Hid (Led w0 w7 [.slice a2 n2 c2, .slice a3 n3 c3, .slice a4 n4 c4, .slice a5 n5 c5, .slice a6 n6 c6, .slice a7 n7 c7] []) := hidden L
  replace HL := HL2
  clear L HL2
  go_upto_region 8 with fail
  go_cut [115, 116, 117] from 28 to 125 (fun v n i wx => ∃ G, v = .slice (some ⟨G, 0, none⟩) 18 18 ∧ n = .int .i64 18 ∧ i = .int .i64 0 ∧ R18 w0 wx G)
  case first =>
    go_wp2_with fail
    have L0 := HL.out
    obtain ⟨x29, hx29⟩ : ∃ W : World, W = w7.alloc (.cells #[.slice a3 n3 c3] 25) := ⟨_, rfl⟩
    rw [← hx29]
    have L1 : Led w0 x29 [.slice a2 n2 c2, .slice a3 n3 c3, .slice a4 n4 c4, .slice a5 n5 c5, .slice a6 n6 c6, .slice a7 n7 c7] [.slice (some ⟨w7.heap.size, 0, none⟩) 1 1] := by rw [hx29]; exact L0.rowG nilV (b3_nil _) [1] (by decide) (w7.heap.size) rfl
    have hs1 : x29.heap.size = w7.heap.size + 1 := by rw [hx29, sz]
    clear L0 hx29
    obtain ⟨x35, hx35⟩ : ∃ W : World, W = x29.alloc (.cells #[.slice a2 n2 c2, .slice a3 n3 c3, .slice a3 n3 c3, .slice a4 n4 c4, .slice a2 n2 c2] 25) := ⟨_, rfl⟩
    rw [← hx35]
    have L2 : Led w0 x35 [.slice a2 n2 c2, .slice a3 n3 c3, .slice a4 n4 c4, .slice a5 n5 c5, .slice a6 n6 c6, .slice a7 n7 c7] [.slice (some ⟨w7.heap.size, 0, none⟩) 1 1, .slice (some ⟨w7.heap.size + 1, 0, none⟩) 5 5] := by rw [hx35]; exact L1.rowG nilV (b3_nil _) [0, 1, 1, 2, 0] (by decide) (w7.heap.size + 1) hs1
    have hs2 : x35.heap.size = w7.heap.size + 1 + 1 := by rw [hx35, sz, hs1]
    clear L1 hs1 hx35
    obtain ⟨x42, hx42⟩ : ∃ W : World, W = x35.alloc (.cells #[.slice a2 n2 c2, .slice a4 n4 c4, .slice a5 n5 c5, .slice a4 n4 c4, .slice a4 n4 c4, .slice a3 n3 c3] 25) := ⟨_, rfl⟩
    rw [← hx42]
    have L3 : Led w0 x42 [.slice a2 n2 c2, .slice a3 n3 c3, .slice a4 n4 c4, .slice a5 n5 c5, .slice a6 n6 c6, .slice a7 n7 c7] [.slice (some ⟨w7.heap.size, 0, none⟩) 1 1, .slice (some ⟨w7.heap.size + 1, 0, none⟩) 5 5, .slice (some ⟨w7.heap.size + 1 + 1, 0, none⟩) 6 6] := by rw [hx42]; exact L2.rowG nilV (b3_nil _) [0, 2, 3, 2, 2, 1] (by decide) (w7.heap.size + 1 + 1) hs2
    have hs3 : x42.heap.size = w7.heap.size + 1 + 1 + 1 := by rw [hx42, sz, hs2]
    clear L2 hs2 hx42
    obtain ⟨x50, hx50⟩ : ∃ W : World, W = x42.alloc (.cells #[.slice a2 n2 c2, .slice a4 n4 c4, .slice a5 n5 c5, .slice a4 n4 c4, .slice a5 n5 c5, .slice a4 n4 c4, .slice a3 n3 c3] 25) := ⟨_, rfl⟩
    rw [← hx50]
    have L4 : Led w0 x50 [.slice a2 n2 c2, .slice a3 n3 c3, .slice a4 n4 c4, .slice a5 n5 c5, .slice a6 n6 c6, .slice a7 n7 c7] [.slice (some ⟨w7.heap.size, 0, none⟩) 1 1, .slice (some ⟨w7.heap.size + 1, 0, none⟩) 5 5, .slice (some ⟨w7.heap.size + 1 + 1, 0, none⟩) 6 6, .slice (some ⟨w7.heap.size + 1 + 1 + 1, 0, none⟩) 7 7] := by rw [hx50]; exact L3.rowG nilV (b3_nil _) [0, 2, 3, 2, 3, 2, 1] (by decide) (w7.heap.size + 1 + 1 + 1) hs3
    have hs4 : x50.heap.size = w7.heap.size + 1 + 1 + 1 + 1 := by rw [hx50, sz, hs3]
    clear L3 hs3 hx50
    obtain ⟨x53, hx53⟩ : ∃ W : World, W = x50.alloc (.cells #[.slice a2 n2 c2, .slice a2 n2 c2] 25) := ⟨_, rfl⟩
    rw [← hx53]
    have L5 : Led w0 x53 [.slice a2 n2 c2, .slice a3 n3 c3, .slice a4 n4 c4, .slice a5 n5 c5, .slice a6 n6 c6, .slice a7 n7 c7] [.slice (some ⟨w7.heap.size, 0, none⟩) 1 1, .slice (some ⟨w7.heap.size + 1, 0, none⟩) 5 5, .slice (some ⟨w7.heap.size + 1 + 1, 0, none⟩) 6 6, .slice (some ⟨w7.heap.size + 1 + 1 + 1, 0, none⟩) 7 7, .slice (some ⟨w7.heap.size + 1 + 1 + 1 + 1, 0, none⟩) 2 2] := by rw [hx53]; exact L4.rowG nilV (b3_nil _) [0, 0] (by decide) (w7.heap.size + 1 + 1 + 1 + 1) hs4
    have hs5 : x53.heap.size = w7.heap.size + 1 + 1 + 1 + 1 + 1 := by rw [hx53, sz, hs4]
    clear L4 hs4 hx53
    refine (pay_led 1 1 ⟨#[]⟩ ⟨#[]⟩ ⟨#[115, 115, 104, 45, 99, 111, 110, 110, 101, 99, 116, 105, 111, 110]⟩ L5).mono ?_
    rintro e w55 ⟨a55, n55, c55, rfl, L⟩
    have HL2 : Hid (Led w0 w55 [.slice a2 n2 c2, .slice a3 n3 c3, .slice a4 n4 c4, .slice a5 n5 c5, .slice a6 n6 c6, .slice a7 n7 c7, .slice a55 n55 c55] [.slice (some ⟨w7.heap.size, 0, none⟩) 1 1, .slice (some ⟨w7.heap.size + 1, 0, none⟩) 5 5, .slice (some ⟨w7.heap.size + 1 + 1, 0, none⟩) 6 6, .slice (some ⟨w7.heap.size + 1 + 1 + 1, 0, none⟩) 7 7, .slice (some ⟨w7.heap.size + 1 + 1 + 1 + 1, 0, none⟩) 2 2]) := hidden L
    replace HL := HL2
    clear L HL2
    clear L5 hs5
    go_wp2_with fail
    have L0 := HL.out
    obtain ⟨x57, hx57⟩ : ∃ W : World, W = w55.alloc (.cells #[.slice a55 n55 c55, .slice a2 n2 c2] 25) := ⟨_, rfl⟩
    rw [← hx57]
    have L1 : Led w0 x57 [.slice a2 n2 c2, .slice a3 n3 c3, .slice a4 n4 c4, .slice a5 n5 c5, .slice a6 n6 c6, .slice a7 n7 c7, .slice a55 n55 c55] [.slice (some ⟨w7.heap.size, 0, none⟩) 1 1, .slice (some ⟨w7.heap.size + 1, 0, none⟩) 5 5, .slice (some ⟨w7.heap.size + 1 + 1, 0, none⟩) 6 6, .slice (some ⟨w7.heap.size + 1 + 1 + 1, 0, none⟩) 7 7, .slice (some ⟨w7.heap.size + 1 + 1 + 1 + 1, 0, none⟩) 2 2, .slice (some ⟨w55.heap.size, 0, none⟩) 2 2] := by rw [hx57]; exact L0.rowG nilV (b3_nil _) [6, 0] (by decide) (w55.heap.size) rfl
    have hs1 : x57.heap.size = w55.heap.size + 1 := by rw [hx57, sz]
    clear L0 hx57
    refine (pay_led 4 0 ⟨#[117]⟩ ⟨#[]⟩ ⟨#[115, 102, 116, 112]⟩ L1).mono ?_
    rintro e w60 ⟨a60, n60, c60, rfl, L⟩
    have HL2 : Hid (Led w0 w60 [.slice a2 n2 c2, .slice a3 n3 c3, .slice a4 n4 c4, .slice a5 n5 c5, .slice a6 n6 c6, .slice a7 n7 c7, .slice a55 n55 c55, .slice a60 n60 c60] [.slice (some ⟨w7.heap.size, 0, none⟩) 1 1, .slice (some ⟨w7.heap.size + 1, 0, none⟩) 5 5, .slice (some ⟨w7.heap.size + 1 + 1, 0, none⟩) 6 6, .slice (some ⟨w7.heap.size + 1 + 1 + 1, 0, none⟩) 7 7, .slice (some ⟨w7.heap.size + 1 + 1 + 1 + 1, 0, none⟩) 2 2, .slice (some ⟨w55.heap.size, 0, none⟩) 2 2]) := hidden L
    replace HL := HL2
    clear L HL2
    clear L1 hs1
    go_wp2_with fail
    have L0 := HL.out
    obtain ⟨x62, hx62⟩ : ∃ W : World, W = w60.alloc (.cells #[.slice a2 n2 c2, .slice a60 n60 c60, .slice a3 n3 c3] 25) := ⟨_, rfl⟩
    rw [← hx62]
    have L1 : Led w0 x62 [.slice a2 n2 c2, .slice a3 n3 c3, .slice a4 n4 c4, .slice a5 n5 c5, .slice a6 n6 c6, .slice a7 n7 c7, .slice a55 n55 c55, .slice a60 n60 c60] [.slice (some ⟨w7.heap.size, 0, none⟩) 1 1, .slice (some ⟨w7.heap.size + 1, 0, none⟩) 5 5, .slice (some ⟨w7.heap.size + 1 + 1, 0, none⟩) 6 6, .slice (some ⟨w7.heap.size + 1 + 1 + 1, 0, none⟩) 7 7, .slice (some ⟨w7.heap.size + 1 + 1 + 1 + 1, 0, none⟩) 2 2, .slice (some ⟨w55.heap.size, 0, none⟩) 2 2, .slice (some ⟨w60.heap.size, 0, none⟩) 3 3] := by rw [hx62]; exact L0.rowG nilV (b3_nil _) [0, 7, 1] (by decide) (w60.heap.size) rfl
    have hs1 : x62.heap.size = w60.heap.size + 1 := by rw [hx62, sz]
    clear L0 hx62
    obtain ⟨x66, hx66⟩ : ∃ W : World, W = x62.alloc (.cells #[.slice a2 n2 c2, .slice a6 n6 c6, .slice a3 n3 c3] 25) := ⟨_, rfl⟩
    rw [← hx66]
    have L2 : Led w0 x66 [.slice a2 n2 c2, .slice a3 n3 c3, .slice a4 n4 c4, .slice a5 n5 c5, .slice a6 n6 c6, .slice a7 n7 c7, .slice a55 n55 c55, .slice a60 n60 c60] [.slice (some ⟨w7.heap.size, 0, none⟩) 1 1, .slice (some ⟨w7.heap.size + 1, 0, none⟩) 5 5, .slice (some ⟨w7.heap.size + 1 + 1, 0, none⟩) 6 6, .slice (some ⟨w7.heap.size + 1 + 1 + 1, 0, none⟩) 7 7, .slice (some ⟨w7.heap.size + 1 + 1 + 1 + 1, 0, none⟩) 2 2, .slice (some ⟨w55.heap.size, 0, none⟩) 2 2, .slice (some ⟨w60.heap.size, 0, none⟩) 3 3, .slice (some ⟨w60.heap.size + 1, 0, none⟩) 3 3] := by rw [hx66]; exact L1.rowG nilV (b3_nil _) [0, 4, 1] (by decide) (w60.heap.size + 1) hs1
    have hs2 : x66.heap.size = w60.heap.size + 1 + 1 := by rw [hx66, sz, hs1]
    clear L1 hs1 hx66
    obtain ⟨x69, hx69⟩ : ∃ W : World, W = x66.alloc (.cells #[.slice a2 n2 c2, .slice a7 n7 c7] 25) := ⟨_, rfl⟩
    rw [← hx69]
    have L3 : Led w0 x69 [.slice a2 n2 c2, .slice a3 n3 c3, .slice a4 n4 c4, .slice a5 n5 c5, .slice a6 n6 c6, .slice a7 n7 c7, .slice a55 n55 c55, .slice a60 n60 c60] [.slice (some ⟨w7.heap.size, 0, none⟩) 1 1, .slice (some ⟨w7.heap.size + 1, 0, none⟩) 5 5, .slice (some ⟨w7.heap.size + 1 + 1, 0, none⟩) 6 6, .slice (some ⟨w7.heap.size + 1 + 1 + 1, 0, none⟩) 7 7, .slice (some ⟨w7.heap.size + 1 + 1 + 1 + 1, 0, none⟩) 2 2, .slice (some ⟨w55.heap.size, 0, none⟩) 2 2, .slice (some ⟨w60.heap.size, 0, none⟩) 3 3, .slice (some ⟨w60.heap.size + 1, 0, none⟩) 3 3, .slice (some ⟨w60.heap.size + 1 + 1, 0, none⟩) 2 2] := by rw [hx69]; exact L2.rowG nilV (b3_nil _) [0, 5] (by decide) (w60.heap.size + 1 + 1) hs2
    have hs3 : x69.heap.size = w60.heap.size + 1 + 1 + 1 := by rw [hx69, sz, hs2]
    clear L2 hs2 hx69
    obtain ⟨x71, hx71⟩ : ∃ W : World, W = x69.alloc (.cells #[.int .u8 2] 5) := ⟨_, rfl⟩
    rw [← hx71]
    have L4 : Led w0 x71 [.slice a2 n2 c2, .slice a3 n3 c3, .slice a4 n4 c4, .slice a5 n5 c5, .slice a6 n6 c6, .slice a7 n7 c7, .slice a55 n55 c55, .slice a60 n60 c60, .slice (some ⟨w60.heap.size + 1 + 1 + 1, 0, none⟩) 1 1] [.slice (some ⟨w7.heap.size, 0, none⟩) 1 1, .slice (some ⟨w7.heap.size + 1, 0, none⟩) 5 5, .slice (some ⟨w7.heap.size + 1 + 1, 0, none⟩) 6 6, .slice (some ⟨w7.heap.size + 1 + 1 + 1, 0, none⟩) 7 7, .slice (some ⟨w7.heap.size + 1 + 1 + 1 + 1, 0, none⟩) 2 2, .slice (some ⟨w55.heap.size, 0, none⟩) 2 2, .slice (some ⟨w60.heap.size, 0, none⟩) 3 3, .slice (some ⟨w60.heap.size + 1, 0, none⟩) 3 3, .slice (some ⟨w60.heap.size + 1 + 1, 0, none⟩) 2 2] := by rw [hx71]; exact L3.litG [2] (by decide) (w60.heap.size + 1 + 1 + 1) hs3
    have hs4 : x71.heap.size = w60.heap.size + 1 + 1 + 1 + 1 := by rw [hx71, sz, hs3]
    clear L3 hs3 hx71
    obtain ⟨x72, hx72⟩ : ∃ W : World, W = x71.alloc (.cells #[.int .u8 3] 5) := ⟨_, rfl⟩
    rw [← hx72]
    have L5 : Led w0 x72 [.slice a2 n2 c2, .slice a3 n3 c3, .slice a4 n4 c4, .slice a5 n5 c5, .slice a6 n6 c6, .slice a7 n7 c7, .slice a55 n55 c55, .slice a60 n60 c60, .slice (some ⟨w60.heap.size + 1 + 1 + 1, 0, none⟩) 1 1, .slice (some ⟨w60.heap.size + 1 + 1 + 1 + 1, 0, none⟩) 1 1] [.slice (some ⟨w7.heap.size, 0, none⟩) 1 1, .slice (some ⟨w7.heap.size + 1, 0, none⟩) 5 5, .slice (some ⟨w7.heap.size + 1 + 1, 0, none⟩) 6 6, .slice (some ⟨w7.heap.size + 1 + 1 + 1, 0, none⟩) 7 7, .slice (some ⟨w7.heap.size + 1 + 1 + 1 + 1, 0, none⟩) 2 2, .slice (some ⟨w55.heap.size, 0, none⟩) 2 2, .slice (some ⟨w60.heap.size, 0, none⟩) 3 3, .slice (some ⟨w60.heap.size + 1, 0, none⟩) 3 3, .slice (some ⟨w60.heap.size + 1 + 1, 0, none⟩) 2 2] := by rw [hx72]; exact L4.litG [3] (by decide) (w60.heap.size + 1 + 1 + 1 + 1) hs4
    have hs5 : x72.heap.size = w60.heap.size + 1 + 1 + 1 + 1 + 1 := by rw [hx72, sz, hs4]
    clear L4 hs4 hx72
    obtain ⟨x73, hx73⟩ : ∃ W : World, W = x72.alloc (.cells #[.int .u8 4, .int .u8 9] 5) := ⟨_, rfl⟩
    rw [← hx73]
    have L6 : Led w0 x73 [.slice a2 n2 c2, .slice a3 n3 c3, .slice a4 n4 c4, .slice a5 n5 c5, .slice a6 n6 c6, .slice a7 n7 c7, .slice a55 n55 c55, .slice a60 n60 c60, .slice (some ⟨w60.heap.size + 1 + 1 + 1, 0, none⟩) 1 1, .slice (some ⟨w60.heap.size + 1 + 1 + 1 + 1, 0, none⟩) 1 1, .slice (some ⟨w60.heap.size + 1 + 1 + 1 + 1 + 1, 0, none⟩) 2 2] [.slice (some ⟨w7.heap.size, 0, none⟩) 1 1, .slice (some ⟨w7.heap.size + 1, 0, none⟩) 5 5, .slice (some ⟨w7.heap.size + 1 + 1, 0, none⟩) 6 6, .slice (some ⟨w7.heap.size + 1 + 1 + 1, 0, none⟩) 7 7, .slice (some ⟨w7.heap.size + 1 + 1 + 1 + 1, 0, none⟩) 2 2, .slice (some ⟨w55.heap.size, 0, none⟩) 2 2, .slice (some ⟨w60.heap.size, 0, none⟩) 3 3, .slice (some ⟨w60.heap.size + 1, 0, none⟩) 3 3, .slice (some ⟨w60.heap.size + 1 + 1, 0, none⟩) 2 2] := by rw [hx73]; exact L5.litG [4, 9] (by decide) (w60.heap.size + 1 + 1 + 1 + 1 + 1) hs5
    have hs6 : x73.heap.size = w60.heap.size + 1 + 1 + 1 + 1 + 1 + 1 := by rw [hx73, sz, hs5]
    clear L5 hs5 hx73
    obtain ⟨x75, hx75⟩ : ∃ W : World, W = x73.alloc (.cells #[.slice a2 n2 c2, .slice (some ⟨w60.heap.size + 1 + 1 + 1, 0, none⟩) 1 1, .slice (some ⟨w60.heap.size + 1 + 1 + 1 + 1, 0, none⟩) 1 1, .slice (some ⟨w60.heap.size + 1 + 1 + 1 + 1 + 1, 0, none⟩) 2 2, .slice a3 n3 c3] 25) := ⟨_, rfl⟩
    rw [← hx75]
    have L7 : Led w0 x75 [.slice a2 n2 c2, .slice a3 n3 c3, .slice a4 n4 c4, .slice a5 n5 c5, .slice a6 n6 c6, .slice a7 n7 c7, .slice a55 n55 c55, .slice a60 n60 c60, .slice (some ⟨w60.heap.size + 1 + 1 + 1, 0, none⟩) 1 1, .slice (some ⟨w60.heap.size + 1 + 1 + 1 + 1, 0, none⟩) 1 1, .slice (some ⟨w60.heap.size + 1 + 1 + 1 + 1 + 1, 0, none⟩) 2 2] [.slice (some ⟨w7.heap.size, 0, none⟩) 1 1, .slice (some ⟨w7.heap.size + 1, 0, none⟩) 5 5, .slice (some ⟨w7.heap.size + 1 + 1, 0, none⟩) 6 6, .slice (some ⟨w7.heap.size + 1 + 1 + 1, 0, none⟩) 7 7, .slice (some ⟨w7.heap.size + 1 + 1 + 1 + 1, 0, none⟩) 2 2, .slice (some ⟨w55.heap.size, 0, none⟩) 2 2, .slice (some ⟨w60.heap.size, 0, none⟩) 3 3, .slice (some ⟨w60.heap.size + 1, 0, none⟩) 3 3, .slice (some ⟨w60.heap.size + 1 + 1, 0, none⟩) 2 2, .slice (some ⟨w60.heap.size + 1 + 1 + 1 + 1 + 1 + 1, 0, none⟩) 5 5] := by rw [hx75]; exact L6.rowG nilV (b3_nil _) [0, 8, 9, 10, 1] (by decide) (w60.heap.size + 1 + 1 + 1 + 1 + 1 + 1) hs6
    have hs7 : x75.heap.size = w60.heap.size + 1 + 1 + 1 + 1 + 1 + 1 + 1 := by rw [hx75, sz, hs6]
    clear L6 hs6 hx75
    obtain ⟨x76, hx76⟩ : ∃ W : World, W = x75.alloc (.cells #[.int .u8 1] 5) := ⟨_, rfl⟩
    rw [← hx76]
    have L8 : Led w0 x76 [.slice a2 n2 c2, .slice a3 n3 c3, .slice a4 n4 c4, .slice a5 n5 c5, .slice a6 n6 c6, .slice a7 n7 c7, .slice a55 n55 c55, .slice a60 n60 c60, .slice (some ⟨w60.heap.size + 1 + 1 + 1, 0, none⟩) 1 1, .slice (some ⟨w60.heap.size + 1 + 1 + 1 + 1, 0, none⟩) 1 1, .slice (some ⟨w60.heap.size + 1 + 1 + 1 + 1 + 1, 0, none⟩) 2 2, .slice (some ⟨w60.heap.size + 1 + 1 + 1 + 1 + 1 + 1 + 1, 0, none⟩) 1 1] [.slice (some ⟨w7.heap.size, 0, none⟩) 1 1, .slice (some ⟨w7.heap.size + 1, 0, none⟩) 5 5, .slice (some ⟨w7.heap.size + 1 + 1, 0, none⟩) 6 6, .slice (some ⟨w7.heap.size + 1 + 1 + 1, 0, none⟩) 7 7, .slice (some ⟨w7.heap.size + 1 + 1 + 1 + 1, 0, none⟩) 2 2, .slice (some ⟨w55.heap.size, 0, none⟩) 2 2, .slice (some ⟨w60.heap.size, 0, none⟩) 3 3, .slice (some ⟨w60.heap.size + 1, 0, none⟩) 3 3, .slice (some ⟨w60.heap.size + 1 + 1, 0, none⟩) 2 2, .slice (some ⟨w60.heap.size + 1 + 1 + 1 + 1 + 1 + 1, 0, none⟩) 5 5] := by rw [hx76]; exact L7.litG [1] (by decide) (w60.heap.size + 1 + 1 + 1 + 1 + 1 + 1 + 1) hs7
    have hs8 : x76.heap.size = w60.heap.size + 1 + 1 + 1 + 1 + 1 + 1 + 1 + 1 := by rw [hx76, sz, hs7]
    clear L7 hs7 hx76
    obtain ⟨x78, hx78⟩ : ∃ W : World, W = x76.alloc (.cells #[.slice (some ⟨w60.heap.size + 1 + 1 + 1 + 1 + 1 + 1 + 1, 0, none⟩) 1 1, .slice a2 n2 c2] 25) := ⟨_, rfl⟩
    rw [← hx78]
    have L9 : Led w0 x78 [.slice a2 n2 c2, .slice a3 n3 c3, .slice a4 n4 c4, .slice a5 n5 c5, .slice a6 n6 c6, .slice a7 n7 c7, .slice a55 n55 c55, .slice a60 n60 c60, .slice (some ⟨w60.heap.size + 1 + 1 + 1, 0, none⟩) 1 1, .slice (some ⟨w60.heap.size + 1 + 1 + 1 + 1, 0, none⟩) 1 1, .slice (some ⟨w60.heap.size + 1 + 1 + 1 + 1 + 1, 0, none⟩) 2 2, .slice (some ⟨w60.heap.size + 1 + 1 + 1 + 1 + 1 + 1 + 1, 0, none⟩) 1 1] [.slice (some ⟨w7.heap.size, 0, none⟩) 1 1, .slice (some ⟨w7.heap.size + 1, 0, none⟩) 5 5, .slice (some ⟨w7.heap.size + 1 + 1, 0, none⟩) 6 6, .slice (some ⟨w7.heap.size + 1 + 1 + 1, 0, none⟩) 7 7, .slice (some ⟨w7.heap.size + 1 + 1 + 1 + 1, 0, none⟩) 2 2, .slice (some ⟨w55.heap.size, 0, none⟩) 2 2, .slice (some ⟨w60.heap.size, 0, none⟩) 3 3, .slice (some ⟨w60.heap.size + 1, 0, none⟩) 3 3, .slice (some ⟨w60.heap.size + 1 + 1, 0, none⟩) 2 2, .slice (some ⟨w60.heap.size + 1 + 1 + 1 + 1 + 1 + 1, 0, none⟩) 5 5, .slice (some ⟨w60.heap.size + 1 + 1 + 1 + 1 + 1 + 1 + 1 + 1, 0, none⟩) 2 2] := by rw [hx78]; exact L8.rowG nilV (b3_nil _) [11, 0] (by decide) (w60.heap.size + 1 + 1 + 1 + 1 + 1 + 1 + 1 + 1) hs8
    have hs9 : x78.heap.size = w60.heap.size + 1 + 1 + 1 + 1 + 1 + 1 + 1 + 1 + 1 := by rw [hx78, sz, hs8]
    clear L8 hs8 hx78
    obtain ⟨x80, hx80⟩ : ∃ W : World, W = x78.alloc (.cells #[.int .u8 1] 5) := ⟨_, rfl⟩
    rw [← hx80]
    have L10 : Led w0 x80 [.slice a2 n2 c2, .slice a3 n3 c3, .slice a4 n4 c4, .slice a5 n5 c5, .slice a6 n6 c6, .slice a7 n7 c7, .slice a55 n55 c55, .slice a60 n60 c60, .slice (some ⟨w60.heap.size + 1 + 1 + 1, 0, none⟩) 1 1, .slice (some ⟨w60.heap.size + 1 + 1 + 1 + 1, 0, none⟩) 1 1, .slice (some ⟨w60.heap.size + 1 + 1 + 1 + 1 + 1, 0, none⟩) 2 2, .slice (some ⟨w60.heap.size + 1 + 1 + 1 + 1 + 1 + 1 + 1, 0, none⟩) 1 1, .slice (some ⟨w60.heap.size + 1 + 1 + 1 + 1 + 1 + 1 + 1 + 1 + 1, 0, none⟩) 1 1] [.slice (some ⟨w7.heap.size, 0, none⟩) 1 1, .slice (some ⟨w7.heap.size + 1, 0, none⟩) 5 5, .slice (some ⟨w7.heap.size + 1 + 1, 0, none⟩) 6 6, .slice (some ⟨w7.heap.size + 1 + 1 + 1, 0, none⟩) 7 7, .slice (some ⟨w7.heap.size + 1 + 1 + 1 + 1, 0, none⟩) 2 2, .slice (some ⟨w55.heap.size, 0, none⟩) 2 2, .slice (some ⟨w60.heap.size, 0, none⟩) 3 3, .slice (some ⟨w60.heap.size + 1, 0, none⟩) 3 3, .slice (some ⟨w60.heap.size + 1 + 1, 0, none⟩) 2 2, .slice (some ⟨w60.heap.size + 1 + 1 + 1 + 1 + 1 + 1, 0, none⟩) 5 5, .slice (some ⟨w60.heap.size + 1 + 1 + 1 + 1 + 1 + 1 + 1 + 1, 0, none⟩) 2 2] := by rw [hx80]; exact L9.litG [1] (by decide) (w60.heap.size + 1 + 1 + 1 + 1 + 1 + 1 + 1 + 1 + 1) hs9
    have hs10 : x80.heap.size = w60.heap.size + 1 + 1 + 1 + 1 + 1 + 1 + 1 + 1 + 1 + 1 := by rw [hx80, sz, hs9]
    clear L9 hs9 hx80
    obtain ⟨x82, hx82⟩ : ∃ W : World, W = x80.alloc (.cells #[.slice a2 n2 c2, .slice (some ⟨w60.heap.size + 1 + 1 + 1 + 1 + 1 + 1 + 1 + 1 + 1, 0, none⟩) 1 1, .slice a3 n3 c3] 25) := ⟨_, rfl⟩
    rw [← hx82]
    have L11 : Led w0 x82 [.slice a2 n2 c2, .slice a3 n3 c3, .slice a4 n4 c4, .slice a5 n5 c5, .slice a6 n6 c6, .slice a7 n7 c7, .slice a55 n55 c55, .slice a60 n60 c60, .slice (some ⟨w60.heap.size + 1 + 1 + 1, 0, none⟩) 1 1, .slice (some ⟨w60.heap.size + 1 + 1 + 1 + 1, 0, none⟩) 1 1, .slice (some ⟨w60.heap.size + 1 + 1 + 1 + 1 + 1, 0, none⟩) 2 2, .slice (some ⟨w60.heap.size + 1 + 1 + 1 + 1 + 1 + 1 + 1, 0, none⟩) 1 1, .slice (some ⟨w60.heap.size + 1 + 1 + 1 + 1 + 1 + 1 + 1 + 1 + 1, 0, none⟩) 1 1] [.slice (some ⟨w7.heap.size, 0, none⟩) 1 1, .slice (some ⟨w7.heap.size + 1, 0, none⟩) 5 5, .slice (some ⟨w7.heap.size + 1 + 1, 0, none⟩) 6 6, .slice (some ⟨w7.heap.size + 1 + 1 + 1, 0, none⟩) 7 7, .slice (some ⟨w7.heap.size + 1 + 1 + 1 + 1, 0, none⟩) 2 2, .slice (some ⟨w55.heap.size, 0, none⟩) 2 2, .slice (some ⟨w60.heap.size, 0, none⟩) 3 3, .slice (some ⟨w60.heap.size + 1, 0, none⟩) 3 3, .slice (some ⟨w60.heap.size + 1 + 1, 0, none⟩) 2 2, .slice (some ⟨w60.heap.size + 1 + 1 + 1 + 1 + 1 + 1, 0, none⟩) 5 5, .slice (some ⟨w60.heap.size + 1 + 1 + 1 + 1 + 1 + 1 + 1 + 1, 0, none⟩) 2 2, .slice (some ⟨w60.heap.size + 1 + 1 + 1 + 1 + 1 + 1 + 1 + 1 + 1 + 1, 0, none⟩) 3 3] := by rw [hx82]; exact L10.rowG nilV (b3_nil _) [0, 12, 1] (by decide) (w60.heap.size + 1 + 1 + 1 + 1 + 1 + 1 + 1 + 1 + 1 + 1) hs10
    have hs11 : x82.heap.size = w60.heap.size + 1 + 1 + 1 + 1 + 1 + 1 + 1 + 1 + 1 + 1 + 1 := by rw [hx82, sz, hs10]
    clear L10 hs10 hx82
    obtain ⟨x84, hx84⟩ : ∃ W : World, W = x82.alloc (.cells #[.int .u8 90] 5) := ⟨_, rfl⟩
    rw [← hx84]
    have L12 : Led w0 x84 [.slice a2 n2 c2, .slice a3 n3 c3, .slice a4 n4 c4, .slice a5 n5 c5, .slice a6 n6 c6, .slice a7 n7 c7, .slice a55 n55 c55, .slice a60 n60 c60, .slice (some ⟨w60.heap.size + 1 + 1 + 1, 0, none⟩) 1 1, .slice (some ⟨w60.heap.size + 1 + 1 + 1 + 1, 0, none⟩) 1 1, .slice (some ⟨w60.heap.size + 1 + 1 + 1 + 1 + 1, 0, none⟩) 2 2, .slice (some ⟨w60.heap.size + 1 + 1 + 1 + 1 + 1 + 1 + 1, 0, none⟩) 1 1, .slice (some ⟨w60.heap.size + 1 + 1 + 1 + 1 + 1 + 1 + 1 + 1 + 1, 0, none⟩) 1 1, .slice (some ⟨w60.heap.size + 1 + 1 + 1 + 1 + 1 + 1 + 1 + 1 + 1 + 1 + 1, 0, none⟩) 1 1] [.slice (some ⟨w7.heap.size, 0, none⟩) 1 1, .slice (some ⟨w7.heap.size + 1, 0, none⟩) 5 5, .slice (some ⟨w7.heap.size + 1 + 1, 0, none⟩) 6 6, .slice (some ⟨w7.heap.size + 1 + 1 + 1, 0, none⟩) 7 7, .slice (some ⟨w7.heap.size + 1 + 1 + 1 + 1, 0, none⟩) 2 2, .slice (some ⟨w55.heap.size, 0, none⟩) 2 2, .slice (some ⟨w60.heap.size, 0, none⟩) 3 3, .slice (some ⟨w60.heap.size + 1, 0, none⟩) 3 3, .slice (some ⟨w60.heap.size + 1 + 1, 0, none⟩) 2 2, .slice (some ⟨w60.heap.size + 1 + 1 + 1 + 1 + 1 + 1, 0, none⟩) 5 5, .slice (some ⟨w60.heap.size + 1 + 1 + 1 + 1 + 1 + 1 + 1 + 1, 0, none⟩) 2 2, .slice (some ⟨w60.heap.size + 1 + 1 + 1 + 1 + 1 + 1 + 1 + 1 + 1 + 1, 0, none⟩) 3 3] := by rw [hx84]; exact L11.litG [90] (by decide) (w60.heap.size + 1 + 1 + 1 + 1 + 1 + 1 + 1 + 1 + 1 + 1 + 1) hs11
    have hs12 : x84.heap.size = w60.heap.size + 1 + 1 + 1 + 1 + 1 + 1 + 1 + 1 + 1 + 1 + 1 + 1 := by rw [hx84, sz, hs11]
    clear L11 hs11 hx84
    obtain ⟨x85, hx85⟩ : ∃ W : World, W = x84.alloc (.cells #[.slice a2 n2 c2, .slice (some ⟨w60.heap.size + 1 + 1 + 1 + 1 + 1 + 1 + 1 + 1 + 1 + 1 + 1, 0, none⟩) 1 1] 25) := ⟨_, rfl⟩
    rw [← hx85]
    have L13 : Led w0 x85 [.slice a2 n2 c2, .slice a3 n3 c3, .slice a4 n4 c4, .slice a5 n5 c5, .slice a6 n6 c6, .slice a7 n7 c7, .slice a55 n55 c55, .slice a60 n60 c60, .slice (some ⟨w60.heap.size + 1 + 1 + 1, 0, none⟩) 1 1, .slice (some ⟨w60.heap.size + 1 + 1 + 1 + 1, 0, none⟩) 1 1, .slice (some ⟨w60.heap.size + 1 + 1 + 1 + 1 + 1, 0, none⟩) 2 2, .slice (some ⟨w60.heap.size + 1 + 1 + 1 + 1 + 1 + 1 + 1, 0, none⟩) 1 1, .slice (some ⟨w60.heap.size + 1 + 1 + 1 + 1 + 1 + 1 + 1 + 1 + 1, 0, none⟩) 1 1, .slice (some ⟨w60.heap.size + 1 + 1 + 1 + 1 + 1 + 1 + 1 + 1 + 1 + 1 + 1, 0, none⟩) 1 1] [.slice (some ⟨w7.heap.size, 0, none⟩) 1 1, .slice (some ⟨w7.heap.size + 1, 0, none⟩) 5 5, .slice (some ⟨w7.heap.size + 1 + 1, 0, none⟩) 6 6, .slice (some ⟨w7.heap.size + 1 + 1 + 1, 0, none⟩) 7 7, .slice (some ⟨w7.heap.size + 1 + 1 + 1 + 1, 0, none⟩) 2 2, .slice (some ⟨w55.heap.size, 0, none⟩) 2 2, .slice (some ⟨w60.heap.size, 0, none⟩) 3 3, .slice (some ⟨w60.heap.size + 1, 0, none⟩) 3 3, .slice (some ⟨w60.heap.size + 1 + 1, 0, none⟩) 2 2, .slice (some ⟨w60.heap.size + 1 + 1 + 1 + 1 + 1 + 1, 0, none⟩) 5 5, .slice (some ⟨w60.heap.size + 1 + 1 + 1 + 1 + 1 + 1 + 1 + 1, 0, none⟩) 2 2, .slice (some ⟨w60.heap.size + 1 + 1 + 1 + 1 + 1 + 1 + 1 + 1 + 1 + 1, 0, none⟩) 3 3, .slice (some ⟨w60.heap.size + 1 + 1 + 1 + 1 + 1 + 1 + 1 + 1 + 1 + 1 + 1 + 1, 0, none⟩) 2 2] := by rw [hx85]; exact L12.rowG nilV (b3_nil _) [0, 13] (by decide) (w60.heap.size + 1 + 1 + 1 + 1 + 1 + 1 + 1 + 1 + 1 + 1 + 1 + 1) hs12
    have hs13 : x85.heap.size = w60.heap.size + 1 + 1 + 1 + 1 + 1 + 1 + 1 + 1 + 1 + 1 + 1 + 1 + 1 := by rw [hx85, sz, hs12]
    clear L12 hs12 hx85
    obtain ⟨x86, hx86⟩ : ∃ W : World, W = x85.alloc (.cells #[] 5) := ⟨_, rfl⟩
    rw [← hx86]
    have L14 : Led w0 x86 [.slice a2 n2 c2, .slice a3 n3 c3, .slice a4 n4 c4, .slice a5 n5 c5, .slice a6 n6 c6, .slice a7 n7 c7, .slice a55 n55 c55, .slice a60 n60 c60, .slice (some ⟨w60.heap.size + 1 + 1 + 1, 0, none⟩) 1 1, .slice (some ⟨w60.heap.size + 1 + 1 + 1 + 1, 0, none⟩) 1 1, .slice (some ⟨w60.heap.size + 1 + 1 + 1 + 1 + 1, 0, none⟩) 2 2, .slice (some ⟨w60.heap.size + 1 + 1 + 1 + 1 + 1 + 1 + 1, 0, none⟩) 1 1, .slice (some ⟨w60.heap.size + 1 + 1 + 1 + 1 + 1 + 1 + 1 + 1 + 1, 0, none⟩) 1 1, .slice (some ⟨w60.heap.size + 1 + 1 + 1 + 1 + 1 + 1 + 1 + 1 + 1 + 1 + 1, 0, none⟩) 1 1, .slice (some ⟨w60.heap.size + 1 + 1 + 1 + 1 + 1 + 1 + 1 + 1 + 1 + 1 + 1 + 1 + 1, 0, none⟩) 0 0] [.slice (some ⟨w7.heap.size, 0, none⟩) 1 1, .slice (some ⟨w7.heap.size + 1, 0, none⟩) 5 5, .slice (some ⟨w7.heap.size + 1 + 1, 0, none⟩) 6 6, .slice (some ⟨w7.heap.size + 1 + 1 + 1, 0, none⟩) 7 7, .slice (some ⟨w7.heap.size + 1 + 1 + 1 + 1, 0, none⟩) 2 2, .slice (some ⟨w55.heap.size, 0, none⟩) 2 2, .slice (some ⟨w60.heap.size, 0, none⟩) 3 3, .slice (some ⟨w60.heap.size + 1, 0, none⟩) 3 3, .slice (some ⟨w60.heap.size + 1 + 1, 0, none⟩) 2 2, .slice (some ⟨w60.heap.size + 1 + 1 + 1 + 1 + 1 + 1, 0, none⟩) 5 5, .slice (some ⟨w60.heap.size + 1 + 1 + 1 + 1 + 1 + 1 + 1 + 1, 0, none⟩) 2 2, .slice (some ⟨w60.heap.size + 1 + 1 + 1 + 1 + 1 + 1 + 1 + 1 + 1 + 1, 0, none⟩) 3 3, .slice (some ⟨w60.heap.size + 1 + 1 + 1 + 1 + 1 + 1 + 1 + 1 + 1 + 1 + 1 + 1, 0, none⟩) 2 2] := by rw [hx86]; exact L13.litG [] (by decide) (w60.heap.size + 1 + 1 + 1 + 1 + 1 + 1 + 1 + 1 + 1 + 1 + 1 + 1 + 1) hs13
    have hs14 : x86.heap.size = w60.heap.size + 1 + 1 + 1 + 1 + 1 + 1 + 1 + 1 + 1 + 1 + 1 + 1 + 1 + 1 := by rw [hx86, sz, hs13]
    clear L13 hs13 hx86
    refine (pay_led 2 0 ⟨#[]⟩ ⟨#[]⟩ ⟨#[]⟩ L14).mono ?_
    rintro e w89 ⟨a89, n89, c89, rfl, L⟩
    have HL2 : Hid (Led w0 w89 [.slice a2 n2 c2, .slice a3 n3 c3, .slice a4 n4 c4, .slice a5 n5 c5, .slice a6 n6 c6, .slice a7 n7 c7, .slice a55 n55 c55, .slice a60 n60 c60, .slice (some ⟨w60.heap.size + 1 + 1 + 1, 0, none⟩) 1 1, .slice (some ⟨w60.heap.size + 1 + 1 + 1 + 1, 0, none⟩) 1 1, .slice (some ⟨w60.heap.size + 1 + 1 + 1 + 1 + 1, 0, none⟩) 2 2, .slice (some ⟨w60.heap.size + 1 + 1 + 1 + 1 + 1 + 1 + 1, 0, none⟩) 1 1, .slice (some ⟨w60.heap.size + 1 + 1 + 1 + 1 + 1 + 1 + 1 + 1 + 1, 0, none⟩) 1 1, .slice (some ⟨w60.heap.size + 1 + 1 + 1 + 1 + 1 + 1 + 1 + 1 + 1 + 1 + 1, 0, none⟩) 1 1, .slice (some ⟨w60.heap.size + 1 + 1 + 1 + 1 + 1 + 1 + 1 + 1 + 1 + 1 + 1 + 1 + 1, 0, none⟩) 0 0, .slice a89 n89 c89] [.slice (some ⟨w7.heap.size, 0, none⟩) 1 1, .slice (some ⟨w7.heap.size + 1, 0, none⟩) 5 5, .slice (some ⟨w7.heap.size + 1 + 1, 0, none⟩) 6 6, .slice (some ⟨w7.heap.size + 1 + 1 + 1, 0, none⟩) 7 7, .slice (some ⟨w7.heap.size + 1 + 1 + 1 + 1, 0, none⟩) 2 2, .slice (some ⟨w55.heap.size, 0, none⟩) 2 2, .slice (some ⟨w60.heap.size, 0, none⟩) 3 3, .slice (some ⟨w60.heap.size + 1, 0, none⟩) 3 3, .slice (some ⟨w60.heap.size + 1 + 1, 0, none⟩) 2 2, .slice (some ⟨w60.heap.size + 1 + 1 + 1 + 1 + 1 + 1, 0, none⟩) 5 5, .slice (some ⟨w60.heap.size + 1 + 1 + 1 + 1 + 1 + 1 + 1 + 1, 0, none⟩) 2 2, .slice (some ⟨w60.heap.size + 1 + 1 + 1 + 1 + 1 + 1 + 1 + 1 + 1 + 1, 0, none⟩) 3 3, .slice (some ⟨w60.heap.size + 1 + 1 + 1 + 1 + 1 + 1 + 1 + 1 + 1 + 1 + 1 + 1, 0, none⟩) 2 2]) := hidden L
    replace HL := HL2
    clear L HL2
    clear L14 hs14
    go_wp2_with fail
    have L0 := HL.out
    obtain ⟨x90, hx90⟩ : ∃ W : World, W = w89.alloc (.cells #[.int .u8 50] 5) := ⟨_, rfl⟩
    rw [← hx90]
    have L1 : Led w0 x90 [.slice a2 n2 c2, .slice a3 n3 c3, .slice a4 n4 c4, .slice a5 n5 c5, .slice a6 n6 c6, .slice a7 n7 c7, .slice a55 n55 c55, .slice a60 n60 c60, .slice (some ⟨w60.heap.size + 1 + 1 + 1, 0, none⟩) 1 1, .slice (some ⟨w60.heap.size + 1 + 1 + 1 + 1, 0, none⟩) 1 1, .slice (some ⟨w60.heap.size + 1 + 1 + 1 + 1 + 1, 0, none⟩) 2 2, .slice (some ⟨w60.heap.size + 1 + 1 + 1 + 1 + 1 + 1 + 1, 0, none⟩) 1 1, .slice (some ⟨w60.heap.size + 1 + 1 + 1 + 1 + 1 + 1 + 1 + 1 + 1, 0, none⟩) 1 1, .slice (some ⟨w60.heap.size + 1 + 1 + 1 + 1 + 1 + 1 + 1 + 1 + 1 + 1 + 1, 0, none⟩) 1 1, .slice (some ⟨w60.heap.size + 1 + 1 + 1 + 1 + 1 + 1 + 1 + 1 + 1 + 1 + 1 + 1 + 1, 0, none⟩) 0 0, .slice a89 n89 c89, .slice (some ⟨w89.heap.size, 0, none⟩) 1 1] [.slice (some ⟨w7.heap.size, 0, none⟩) 1 1, .slice (some ⟨w7.heap.size + 1, 0, none⟩) 5 5, .slice (some ⟨w7.heap.size + 1 + 1, 0, none⟩) 6 6, .slice (some ⟨w7.heap.size + 1 + 1 + 1, 0, none⟩) 7 7, .slice (some ⟨w7.heap.size + 1 + 1 + 1 + 1, 0, none⟩) 2 2, .slice (some ⟨w55.heap.size, 0, none⟩) 2 2, .slice (some ⟨w60.heap.size, 0, none⟩) 3 3, .slice (some ⟨w60.heap.size + 1, 0, none⟩) 3 3, .slice (some ⟨w60.heap.size + 1 + 1, 0, none⟩) 2 2, .slice (some ⟨w60.heap.size + 1 + 1 + 1 + 1 + 1 + 1, 0, none⟩) 5 5, .slice (some ⟨w60.heap.size + 1 + 1 + 1 + 1 + 1 + 1 + 1 + 1, 0, none⟩) 2 2, .slice (some ⟨w60.heap.size + 1 + 1 + 1 + 1 + 1 + 1 + 1 + 1 + 1 + 1, 0, none⟩) 3 3, .slice (some ⟨w60.heap.size + 1 + 1 + 1 + 1 + 1 + 1 + 1 + 1 + 1 + 1 + 1 + 1, 0, none⟩) 2 2] := by rw [hx90]; exact L0.litG [50] (by decide) (w89.heap.size) rfl
    have hs1 : x90.heap.size = w89.heap.size + 1 := by rw [hx90, sz]
    clear L0 hx90
    obtain ⟨x91, hx91⟩ : ∃ W : World, W = x90.alloc (.cells #[.slice none 0 0, .slice (some ⟨w60.heap.size + 1 + 1 + 1 + 1 + 1 + 1 + 1 + 1 + 1 + 1 + 1 + 1 + 1, 0, none⟩) 0 0, .slice a2 n2 c2, .slice a89 n89 c89, .slice (some ⟨w89.heap.size, 0, none⟩) 1 1] 25) := ⟨_, rfl⟩
    rw [← hx91]
    have L2 : Led w0 x91 [.slice a2 n2 c2, .slice a3 n3 c3, .slice a4 n4 c4, .slice a5 n5 c5, .slice a6 n6 c6, .slice a7 n7 c7, .slice a55 n55 c55, .slice a60 n60 c60, .slice (some ⟨w60.heap.size + 1 + 1 + 1, 0, none⟩) 1 1, .slice (some ⟨w60.heap.size + 1 + 1 + 1 + 1, 0, none⟩) 1 1, .slice (some ⟨w60.heap.size + 1 + 1 + 1 + 1 + 1, 0, none⟩) 2 2, .slice (some ⟨w60.heap.size + 1 + 1 + 1 + 1 + 1 + 1 + 1, 0, none⟩) 1 1, .slice (some ⟨w60.heap.size + 1 + 1 + 1 + 1 + 1 + 1 + 1 + 1 + 1, 0, none⟩) 1 1, .slice (some ⟨w60.heap.size + 1 + 1 + 1 + 1 + 1 + 1 + 1 + 1 + 1 + 1 + 1, 0, none⟩) 1 1, .slice (some ⟨w60.heap.size + 1 + 1 + 1 + 1 + 1 + 1 + 1 + 1 + 1 + 1 + 1 + 1 + 1, 0, none⟩) 0 0, .slice a89 n89 c89, .slice (some ⟨w89.heap.size, 0, none⟩) 1 1] [.slice (some ⟨w7.heap.size, 0, none⟩) 1 1, .slice (some ⟨w7.heap.size + 1, 0, none⟩) 5 5, .slice (some ⟨w7.heap.size + 1 + 1, 0, none⟩) 6 6, .slice (some ⟨w7.heap.size + 1 + 1 + 1, 0, none⟩) 7 7, .slice (some ⟨w7.heap.size + 1 + 1 + 1 + 1, 0, none⟩) 2 2, .slice (some ⟨w55.heap.size, 0, none⟩) 2 2, .slice (some ⟨w60.heap.size, 0, none⟩) 3 3, .slice (some ⟨w60.heap.size + 1, 0, none⟩) 3 3, .slice (some ⟨w60.heap.size + 1 + 1, 0, none⟩) 2 2, .slice (some ⟨w60.heap.size + 1 + 1 + 1 + 1 + 1 + 1, 0, none⟩) 5 5, .slice (some ⟨w60.heap.size + 1 + 1 + 1 + 1 + 1 + 1 + 1 + 1, 0, none⟩) 2 2, .slice (some ⟨w60.heap.size + 1 + 1 + 1 + 1 + 1 + 1 + 1 + 1 + 1 + 1, 0, none⟩) 3 3, .slice (some ⟨w60.heap.size + 1 + 1 + 1 + 1 + 1 + 1 + 1 + 1 + 1 + 1 + 1 + 1, 0, none⟩) 2 2, .slice (some ⟨w89.heap.size + 1, 0, none⟩) 5 5] := by rw [hx91]; exact L1.rowG nilV (b3_nil _) [999, 14, 0, 15, 16] (by decide) (w89.heap.size + 1) hs1
    have hs2 : x91.heap.size = w89.heap.size + 1 + 1 := by rw [hx91, sz, hs1]
    clear L1 hs1 hx91
    refine (pay_led 2 0 ⟨#[117]⟩ ⟨#[113]⟩ ⟨#[]⟩ L2).mono ?_
    rintro e w94 ⟨a94, n94, c94, rfl, L⟩
    have HL2 : Hid (Led w0 w94 [.slice a2 n2 c2, .slice a3 n3 c3, .slice a4 n4 c4, .slice a5 n5 c5, .slice a6 n6 c6, .slice a7 n7 c7, .slice a55 n55 c55, .slice a60 n60 c60, .slice (some ⟨w60.heap.size + 1 + 1 + 1, 0, none⟩) 1 1, .slice (some ⟨w60.heap.size + 1 + 1 + 1 + 1, 0, none⟩) 1 1, .slice (some ⟨w60.heap.size + 1 + 1 + 1 + 1 + 1, 0, none⟩) 2 2, .slice (some ⟨w60.heap.size + 1 + 1 + 1 + 1 + 1 + 1 + 1, 0, none⟩) 1 1, .slice (some ⟨w60.heap.size + 1 + 1 + 1 + 1 + 1 + 1 + 1 + 1 + 1, 0, none⟩) 1 1, .slice (some ⟨w60.heap.size + 1 + 1 + 1 + 1 + 1 + 1 + 1 + 1 + 1 + 1 + 1, 0, none⟩) 1 1, .slice (some ⟨w60.heap.size + 1 + 1 + 1 + 1 + 1 + 1 + 1 + 1 + 1 + 1 + 1 + 1 + 1, 0, none⟩) 0 0, .slice a89 n89 c89, .slice (some ⟨w89.heap.size, 0, none⟩) 1 1, .slice a94 n94 c94] [.slice (some ⟨w7.heap.size, 0, none⟩) 1 1, .slice (some ⟨w7.heap.size + 1, 0, none⟩) 5 5, .slice (some ⟨w7.heap.size + 1 + 1, 0, none⟩) 6 6, .slice (some ⟨w7.heap.size + 1 + 1 + 1, 0, none⟩) 7 7, .slice (some ⟨w7.heap.size + 1 + 1 + 1 + 1, 0, none⟩) 2 2, .slice (some ⟨w55.heap.size, 0, none⟩) 2 2, .slice (some ⟨w60.heap.size, 0, none⟩) 3 3, .slice (some ⟨w60.heap.size + 1, 0, none⟩) 3 3, .slice (some ⟨w60.heap.size + 1 + 1, 0, none⟩) 2 2, .slice (some ⟨w60.heap.size + 1 + 1 + 1 + 1 + 1 + 1, 0, none⟩) 5 5, .slice (some ⟨w60.heap.size + 1 + 1 + 1 + 1 + 1 + 1 + 1 + 1, 0, none⟩) 2 2, .slice (some ⟨w60.heap.size + 1 + 1 + 1 + 1 + 1 + 1 + 1 + 1 + 1 + 1, 0, none⟩) 3 3, .slice (some ⟨w60.heap.size + 1 + 1 + 1 + 1 + 1 + 1 + 1 + 1 + 1 + 1 + 1 + 1, 0, none⟩) 2 2, .slice (some ⟨w89.heap.size + 1, 0, none⟩) 5 5]) := hidden L
    replace HL := HL2
    clear L HL2
    clear L2 hs2
    have L0 := HL.out
    obtain ⟨x95, hx95⟩ : ∃ W : World, W = w94.alloc (.cells #[.slice a2 n2 c2, .slice a94 n94 c94] 25) := ⟨_, rfl⟩
    have L1 : Led w0 x95 [.slice a2 n2 c2, .slice a3 n3 c3, .slice a4 n4 c4, .slice a5 n5 c5, .slice a6 n6 c6, .slice a7 n7 c7, .slice a55 n55 c55, .slice a60 n60 c60, .slice (some ⟨w60.heap.size + 1 + 1 + 1, 0, none⟩) 1 1, .slice (some ⟨w60.heap.size + 1 + 1 + 1 + 1, 0, none⟩) 1 1, .slice (some ⟨w60.heap.size + 1 + 1 + 1 + 1 + 1, 0, none⟩) 2 2, .slice (some ⟨w60.heap.size + 1 + 1 + 1 + 1 + 1 + 1 + 1, 0, none⟩) 1 1, .slice (some ⟨w60.heap.size + 1 + 1 + 1 + 1 + 1 + 1 + 1 + 1 + 1, 0, none⟩) 1 1, .slice (some ⟨w60.heap.size + 1 + 1 + 1 + 1 + 1 + 1 + 1 + 1 + 1 + 1 + 1, 0, none⟩) 1 1, .slice (some ⟨w60.heap.size + 1 + 1 + 1 + 1 + 1 + 1 + 1 + 1 + 1 + 1 + 1 + 1 + 1, 0, none⟩) 0 0, .slice a89 n89 c89, .slice (some ⟨w89.heap.size, 0, none⟩) 1 1, .slice a94 n94 c94] [.slice (some ⟨w7.heap.size, 0, none⟩) 1 1, .slice (some ⟨w7.heap.size + 1, 0, none⟩) 5 5, .slice (some ⟨w7.heap.size + 1 + 1, 0, none⟩) 6 6, .slice (some ⟨w7.heap.size + 1 + 1 + 1, 0, none⟩) 7 7, .slice (some ⟨w7.heap.size + 1 + 1 + 1 + 1, 0, none⟩) 2 2, .slice (some ⟨w55.heap.size, 0, none⟩) 2 2, .slice (some ⟨w60.heap.size, 0, none⟩) 3 3, .slice (some ⟨w60.heap.size + 1, 0, none⟩) 3 3, .slice (some ⟨w60.heap.size + 1 + 1, 0, none⟩) 2 2, .slice (some ⟨w60.heap.size + 1 + 1 + 1 + 1 + 1 + 1, 0, none⟩) 5 5, .slice (some ⟨w60.heap.size + 1 + 1 + 1 + 1 + 1 + 1 + 1 + 1, 0, none⟩) 2 2, .slice (some ⟨w60.heap.size + 1 + 1 + 1 + 1 + 1 + 1 + 1 + 1 + 1 + 1, 0, none⟩) 3 3, .slice (some ⟨w60.heap.size + 1 + 1 + 1 + 1 + 1 + 1 + 1 + 1 + 1 + 1 + 1 + 1, 0, none⟩) 2 2, .slice (some ⟨w89.heap.size + 1, 0, none⟩) 5 5, .slice (some ⟨w94.heap.size, 0, none⟩) 2 2] := by rw [hx95]; exact L0.rowG nilV (b3_nil _) [0, 17] (by decide) (w94.heap.size) rfl
    have hs1 : x95.heap.size = w94.heap.size + 1 := by rw [hx95, sz]
    clear L0
    obtain ⟨p101, hb101, hl101⟩ := L1.b 1
    have hs101 : BSl ((w94.alloc (.cells #[.slice a2 n2 c2, .slice a94 n94 c94] 25)).alloc (.cells #[] 5)) (.slice a3 n3 c3) p101 := by rw [← hx95]; exact BSl.alloc hb101 _
    have hO101 : ((w94.alloc (.cells #[.slice a2 n2 c2, .slice a94 n94 c94] 25)).alloc (.cells #[] 5)).ownsRow (w94.heap.size + 1) 5 1 (.slice (some ⟨w94.heap.size + 1, 0, none⟩) 0 0) 0 [] := by
      have h := own_empty x95
      rw [hs1, hx95] at h
      exact h
    have hS101 := hs101.src
    obtain ⟨m101, hm101⟩ : ∃ m, m = p101.length := ⟨_, rfl⟩
    rw [← hm101] at hS101 hl101
    have HM101 := hidden hm101
    have HA := hidden L1
    have HSZ := hidden hs1
    have HWW := hidden hx95
    clear hb101 hs101 hm101 L1 HL hs1 hx95
    go_wp2_with (at_builtin; refine wpList_append_src _ rfl (.tmp 97) (.tmp 98) 25 25 rfl (w94.heap.size + 1) 5 i0 _ 1 Try.underlying25 hi hz0 hz1 hz2 rfl (.slice (some ⟨w94.heap.size + 1, 0, none⟩) 0 0) 0 [] (by kernel_rfl) hO101 (.slice a3 n3 c3) m101 (bcells p101) (by kernel_rfl) hS101 (by unfold maxLen; omega) (by omega) (by rw [sz, sz]; omega) _ rfl ?_)
    intro vA wA101 hoA hgA hnA haA
    rw [← HWW.out] at hgA
    have hbA101 := (belowAlloc x95 (.cells #[] 5)).grown hgA (by rw [sz]; omega) (by intro k hk; simp [Value.ownBlock] at hk; have := HSZ.out; omega)
    have hoB : wA101.ownsRow (w94.heap.size + 1) 5 1 vA m101 (bcells p101) := by simpa using hoA
    have hsA : w94.heap.size + 1 ≤ wA101.heap.size := by have := hbA101.size; have := HSZ.out; omega
    obtain ⟨aA101, cA101, rfl⟩ := ownsRow_shape hoB
    have HOB101 := hidden hoB
    have HBA101 := hidden hbA101
    clear hoA hgA hnA haA hO101 hS101 hoB hbA101
    go_wp2_with (at_builtin; refine wpList_append_src _ rfl (.tmp 99) (.tmp 100) 25 25 rfl (w94.heap.size + 1) 5 i0 _ 1 Try.underlying25 hi hz0 hz1 hz2 rfl (.slice aA101 m101 cA101) m101 (bcells p101) (by kernel_rfl) (HOB101.out.alloc _) (.slice (some ⟨wA101.heap.size, 0, none⟩) 1 1) 1 [.int .u8 0] (by kernel_rfl) (srcOne wA101 0) (by unfold maxLen; omega) (by omega) (by rw [sz]; omega) _ rfl ?_)
    intro vB w101 hoA hgA hnA haA
    have hoB : w101.ownsRow (w94.heap.size + 1) 5 1 vB (m101 + 1) (bcells (p101 ++ [0])) := by rw [bcells_append]; exact hoA
    have hbB := (HBA101.out.alloc HBA101.out.size (.cells #[.int .u8 0] 5)).grown hgA (by have := HBA101.out.size; rw [sz]; omega) (by intro k hk; have := (HOB101.out.lt k hk).1; have := HSZ.out; omega)
    have HX101 : Hid (B3 w101 vB) := hidden ⟨p101 ++ [0], BSl.ofRow hoB, by rw [List.length_append, ← HM101.out]; simp; omega⟩
    obtain ⟨a101, c101, rfl⟩ := ownsRow_shape hoB
    have HL := hidden (HA.out.fresh hbB)
    clear HA hoA hgA hnA haA hoB hbB HOB101 HBA101 HM101 hsA HSZ HWW
    generalize m101 + 1 = n101 at *
    have L0 := HL.out
    obtain ⟨x102, hx102⟩ : ∃ W : World, W = w101.alloc (.cells #[.slice a2 n2 c2, .slice a101 n101 c101] 25) := ⟨_, rfl⟩
    have L1 : Led w0 x102 [.slice a2 n2 c2, .slice a3 n3 c3, .slice a4 n4 c4, .slice a5 n5 c5, .slice a6 n6 c6, .slice a7 n7 c7, .slice a55 n55 c55, .slice a60 n60 c60, .slice (some ⟨w60.heap.size + 1 + 1 + 1, 0, none⟩) 1 1, .slice (some ⟨w60.heap.size + 1 + 1 + 1 + 1, 0, none⟩) 1 1, .slice (some ⟨w60.heap.size + 1 + 1 + 1 + 1 + 1, 0, none⟩) 2 2, .slice (some ⟨w60.heap.size + 1 + 1 + 1 + 1 + 1 + 1 + 1, 0, none⟩) 1 1, .slice (some ⟨w60.heap.size + 1 + 1 + 1 + 1 + 1 + 1 + 1 + 1 + 1, 0, none⟩) 1 1, .slice (some ⟨w60.heap.size + 1 + 1 + 1 + 1 + 1 + 1 + 1 + 1 + 1 + 1 + 1, 0, none⟩) 1 1, .slice (some ⟨w60.heap.size + 1 + 1 + 1 + 1 + 1 + 1 + 1 + 1 + 1 + 1 + 1 + 1 + 1, 0, none⟩) 0 0, .slice a89 n89 c89, .slice (some ⟨w89.heap.size, 0, none⟩) 1 1, .slice a94 n94 c94] [.slice (some ⟨w7.heap.size, 0, none⟩) 1 1, .slice (some ⟨w7.heap.size + 1, 0, none⟩) 5 5, .slice (some ⟨w7.heap.size + 1 + 1, 0, none⟩) 6 6, .slice (some ⟨w7.heap.size + 1 + 1 + 1, 0, none⟩) 7 7, .slice (some ⟨w7.heap.size + 1 + 1 + 1 + 1, 0, none⟩) 2 2, .slice (some ⟨w55.heap.size, 0, none⟩) 2 2, .slice (some ⟨w60.heap.size, 0, none⟩) 3 3, .slice (some ⟨w60.heap.size + 1, 0, none⟩) 3 3, .slice (some ⟨w60.heap.size + 1 + 1, 0, none⟩) 2 2, .slice (some ⟨w60.heap.size + 1 + 1 + 1 + 1 + 1 + 1, 0, none⟩) 5 5, .slice (some ⟨w60.heap.size + 1 + 1 + 1 + 1 + 1 + 1 + 1 + 1, 0, none⟩) 2 2, .slice (some ⟨w60.heap.size + 1 + 1 + 1 + 1 + 1 + 1 + 1 + 1 + 1 + 1, 0, none⟩) 3 3, .slice (some ⟨w60.heap.size + 1 + 1 + 1 + 1 + 1 + 1 + 1 + 1 + 1 + 1 + 1 + 1, 0, none⟩) 2 2, .slice (some ⟨w89.heap.size + 1, 0, none⟩) 5 5, .slice (some ⟨w94.heap.size, 0, none⟩) 2 2, .slice (some ⟨w101.heap.size, 0, none⟩) 2 2] := by rw [hx102]; exact L0.rowG (.slice a101 n101 c101) HX101.out [0, 1000] (by decide) (w101.heap.size) rfl
    have hs1 : x102.heap.size = w101.heap.size + 1 := by rw [hx102, sz]
    clear L0
    obtain ⟨p107, hb107, hl107⟩ := L1.b 0
    have hs107 : BSl ((w101.alloc (.cells #[.slice a2 n2 c2, .slice a101 n101 c101] 25)).alloc (.cells #[] 5)) (.slice a2 n2 c2) p107 := by rw [← hx102]; exact BSl.alloc hb107 _
    have hO107 : ((w101.alloc (.cells #[.slice a2 n2 c2, .slice a101 n101 c101] 25)).alloc (.cells #[] 5)).ownsRow (w101.heap.size + 1) 5 1 (.slice (some ⟨w101.heap.size + 1, 0, none⟩) 0 0) 0 [] := by
      have h := own_empty x102
      rw [hs1, hx102] at h
      exact h
    have hS107 := hs107.src
    obtain ⟨m107, hm107⟩ : ∃ m, m = p107.length := ⟨_, rfl⟩
    rw [← hm107] at hS107 hl107
    have HM107 := hidden hm107
    have HA := hidden L1
    have HSZ := hidden hs1
    have HWW := hidden hx102
    clear hb107 hs107 hm107 L1 HL hs1 hx102
    go_wp2_with (at_builtin; refine wpList_append_src _ rfl (.tmp 103) (.tmp 104) 25 25 rfl (w101.heap.size + 1) 5 i0 _ 1 Try.underlying25 hi hz0 hz1 hz2 rfl (.slice (some ⟨w101.heap.size + 1, 0, none⟩) 0 0) 0 [] (by kernel_rfl) hO107 (.slice a2 n2 c2) m107 (bcells p107) (by kernel_rfl) hS107 (by unfold maxLen; omega) (by omega) (by rw [sz, sz]; omega) _ rfl ?_)
    intro vA wA107 hoA hgA hnA haA
    rw [← HWW.out] at hgA
    have hbA107 := (belowAlloc x102 (.cells #[] 5)).grown hgA (by rw [sz]; omega) (by intro k hk; simp [Value.ownBlock] at hk; have := HSZ.out; omega)
    have hoB : wA107.ownsRow (w101.heap.size + 1) 5 1 vA m107 (bcells p107) := by simpa using hoA
    have hsA : w101.heap.size + 1 ≤ wA107.heap.size := by have := hbA107.size; have := HSZ.out; omega
    obtain ⟨aA107, cA107, rfl⟩ := ownsRow_shape hoB
    have HOB107 := hidden hoB
    have HBA107 := hidden hbA107
    clear hoA hgA hnA haA hO107 hS107 hoB hbA107
    go_wp2_with (at_builtin; refine wpList_append_src _ rfl (.tmp 105) (.tmp 106) 25 25 rfl (w101.heap.size + 1) 5 i0 _ 1 Try.underlying25 hi hz0 hz1 hz2 rfl (.slice aA107 m107 cA107) m107 (bcells p107) (by kernel_rfl) (HOB107.out.alloc _) (.slice (some ⟨wA107.heap.size, 0, none⟩) 1 1) 1 [.int .u8 0] (by kernel_rfl) (srcOne wA107 0) (by unfold maxLen; omega) (by omega) (by rw [sz]; omega) _ rfl ?_)
    intro vB w107 hoA hgA hnA haA
    have hoB : w107.ownsRow (w101.heap.size + 1) 5 1 vB (m107 + 1) (bcells (p107 ++ [0])) := by rw [bcells_append]; exact hoA
    have hbB := (HBA107.out.alloc HBA107.out.size (.cells #[.int .u8 0] 5)).grown hgA (by have := HBA107.out.size; rw [sz]; omega) (by intro k hk; have := (HOB107.out.lt k hk).1; have := HSZ.out; omega)
    have HX107 : Hid (B3 w107 vB) := hidden ⟨p107 ++ [0], BSl.ofRow hoB, by rw [List.length_append, ← HM107.out]; simp; omega⟩
    obtain ⟨a107, c107, rfl⟩ := ownsRow_shape hoB
    have HL := hidden (HA.out.fresh hbB)
    clear HA hoA hgA hnA haA hoB hbB HOB107 HBA107 HM107 hsA HSZ HWW
    generalize m107 + 1 = n107 at *
    go_wp2_with fail
    have L0 := HL.out
    obtain ⟨x108, hx108⟩ : ∃ W : World, W = w107.alloc (.cells #[.slice a107 n107 c107] 25) := ⟨_, rfl⟩
    rw [← hx108]
    have L1 : Led w0 x108 [.slice a2 n2 c2, .slice a3 n3 c3, .slice a4 n4 c4, .slice a5 n5 c5, .slice a6 n6 c6, .slice a7 n7 c7, .slice a55 n55 c55, .slice a60 n60 c60, .slice (some ⟨w60.heap.size + 1 + 1 + 1, 0, none⟩) 1 1, .slice (some ⟨w60.heap.size + 1 + 1 + 1 + 1, 0, none⟩) 1 1, .slice (some ⟨w60.heap.size + 1 + 1 + 1 + 1 + 1, 0, none⟩) 2 2, .slice (some ⟨w60.heap.size + 1 + 1 + 1 + 1 + 1 + 1 + 1, 0, none⟩) 1 1, .slice (some ⟨w60.heap.size + 1 + 1 + 1 + 1 + 1 + 1 + 1 + 1 + 1, 0, none⟩) 1 1, .slice (some ⟨w60.heap.size + 1 + 1 + 1 + 1 + 1 + 1 + 1 + 1 + 1 + 1 + 1, 0, none⟩) 1 1, .slice (some ⟨w60.heap.size + 1 + 1 + 1 + 1 + 1 + 1 + 1 + 1 + 1 + 1 + 1 + 1 + 1, 0, none⟩) 0 0, .slice a89 n89 c89, .slice (some ⟨w89.heap.size, 0, none⟩) 1 1, .slice a94 n94 c94] [.slice (some ⟨w7.heap.size, 0, none⟩) 1 1, .slice (some ⟨w7.heap.size + 1, 0, none⟩) 5 5, .slice (some ⟨w7.heap.size + 1 + 1, 0, none⟩) 6 6, .slice (some ⟨w7.heap.size + 1 + 1 + 1, 0, none⟩) 7 7, .slice (some ⟨w7.heap.size + 1 + 1 + 1 + 1, 0, none⟩) 2 2, .slice (some ⟨w55.heap.size, 0, none⟩) 2 2, .slice (some ⟨w60.heap.size, 0, none⟩) 3 3, .slice (some ⟨w60.heap.size + 1, 0, none⟩) 3 3, .slice (some ⟨w60.heap.size + 1 + 1, 0, none⟩) 2 2, .slice (some ⟨w60.heap.size + 1 + 1 + 1 + 1 + 1 + 1, 0, none⟩) 5 5, .slice (some ⟨w60.heap.size + 1 + 1 + 1 + 1 + 1 + 1 + 1 + 1, 0, none⟩) 2 2, .slice (some ⟨w60.heap.size + 1 + 1 + 1 + 1 + 1 + 1 + 1 + 1 + 1 + 1, 0, none⟩) 3 3, .slice (some ⟨w60.heap.size + 1 + 1 + 1 + 1 + 1 + 1 + 1 + 1 + 1 + 1 + 1 + 1, 0, none⟩) 2 2, .slice (some ⟨w89.heap.size + 1, 0, none⟩) 5 5, .slice (some ⟨w94.heap.size, 0, none⟩) 2 2, .slice (some ⟨w101.heap.size, 0, none⟩) 2 2, .slice (some ⟨w107.heap.size, 0, none⟩) 1 1] := by rw [hx108]; exact L0.rowG (.slice a107 n107 c107) HX107.out [1000] (by decide) (w107.heap.size) rfl
    have hs1 : x108.heap.size = w107.heap.size + 1 := by rw [hx108, sz]
    clear L0 hx108
    refine (pay_led 4 0 ⟨#[117]⟩ ⟨#[]⟩ ⟨#[115, 102, 116, 112]⟩ L1).mono ?_
    rintro e w112 ⟨a112, n112, c112, rfl, L⟩
    have HL2 : Hid (Led w0 w112 [.slice a2 n2 c2, .slice a3 n3 c3, .slice a4 n4 c4, .slice a5 n5 c5, .slice a6 n6 c6, .slice a7 n7 c7, .slice a55 n55 c55, .slice a60 n60 c60, .slice (some ⟨w60.heap.size + 1 + 1 + 1, 0, none⟩) 1 1, .slice (some ⟨w60.heap.size + 1 + 1 + 1 + 1, 0, none⟩) 1 1, .slice (some ⟨w60.heap.size + 1 + 1 + 1 + 1 + 1, 0, none⟩) 2 2, .slice (some ⟨w60.heap.size + 1 + 1 + 1 + 1 + 1 + 1 + 1, 0, none⟩) 1 1, .slice (some ⟨w60.heap.size + 1 + 1 + 1 + 1 + 1 + 1 + 1 + 1 + 1, 0, none⟩) 1 1, .slice (some ⟨w60.heap.size + 1 + 1 + 1 + 1 + 1 + 1 + 1 + 1 + 1 + 1 + 1, 0, none⟩) 1 1, .slice (some ⟨w60.heap.size + 1 + 1 + 1 + 1 + 1 + 1 + 1 + 1 + 1 + 1 + 1 + 1 + 1, 0, none⟩) 0 0, .slice a89 n89 c89, .slice (some ⟨w89.heap.size, 0, none⟩) 1 1, .slice a94 n94 c94, .slice a112 n112 c112] [.slice (some ⟨w7.heap.size, 0, none⟩) 1 1, .slice (some ⟨w7.heap.size + 1, 0, none⟩) 5 5, .slice (some ⟨w7.heap.size + 1 + 1, 0, none⟩) 6 6, .slice (some ⟨w7.heap.size + 1 + 1 + 1, 0, none⟩) 7 7, .slice (some ⟨w7.heap.size + 1 + 1 + 1 + 1, 0, none⟩) 2 2, .slice (some ⟨w55.heap.size, 0, none⟩) 2 2, .slice (some ⟨w60.heap.size, 0, none⟩) 3 3, .slice (some ⟨w60.heap.size + 1, 0, none⟩) 3 3, .slice (some ⟨w60.heap.size + 1 + 1, 0, none⟩) 2 2, .slice (some ⟨w60.heap.size + 1 + 1 + 1 + 1 + 1 + 1, 0, none⟩) 5 5, .slice (some ⟨w60.heap.size + 1 + 1 + 1 + 1 + 1 + 1 + 1 + 1, 0, none⟩) 2 2, .slice (some ⟨w60.heap.size + 1 + 1 + 1 + 1 + 1 + 1 + 1 + 1 + 1 + 1, 0, none⟩) 3 3, .slice (some ⟨w60.heap.size + 1 + 1 + 1 + 1 + 1 + 1 + 1 + 1 + 1 + 1 + 1 + 1, 0, none⟩) 2 2, .slice (some ⟨w89.heap.size + 1, 0, none⟩) 5 5, .slice (some ⟨w94.heap.size, 0, none⟩) 2 2, .slice (some ⟨w101.heap.size, 0, none⟩) 2 2, .slice (some ⟨w107.heap.size, 0, none⟩) 1 1]) := hidden L
    replace HL := HL2
    clear L HL2
    clear L1 hs1
    go_wp2_with fail
    have L0 := HL.out
    obtain ⟨x113, hx113⟩ : ∃ W : World, W = w112.alloc (.cells #[.int .u8 50, .int .u8 0] 5) := ⟨_, rfl⟩
    rw [← hx113]
    have L1 : Led w0 x113 [.slice a2 n2 c2, .slice a3 n3 c3, .slice a4 n4 c4, .slice a5 n5 c5, .slice a6 n6 c6, .slice a7 n7 c7, .slice a55 n55 c55, .slice a60 n60 c60, .slice (some ⟨w60.heap.size + 1 + 1 + 1, 0, none⟩) 1 1, .slice (some ⟨w60.heap.size + 1 + 1 + 1 + 1, 0, none⟩) 1 1, .slice (some ⟨w60.heap.size + 1 + 1 + 1 + 1 + 1, 0, none⟩) 2 2, .slice (some ⟨w60.heap.size + 1 + 1 + 1 + 1 + 1 + 1 + 1, 0, none⟩) 1 1, .slice (some ⟨w60.heap.size + 1 + 1 + 1 + 1 + 1 + 1 + 1 + 1 + 1, 0, none⟩) 1 1, .slice (some ⟨w60.heap.size + 1 + 1 + 1 + 1 + 1 + 1 + 1 + 1 + 1 + 1 + 1, 0, none⟩) 1 1, .slice (some ⟨w60.heap.size + 1 + 1 + 1 + 1 + 1 + 1 + 1 + 1 + 1 + 1 + 1 + 1 + 1, 0, none⟩) 0 0, .slice a89 n89 c89, .slice (some ⟨w89.heap.size, 0, none⟩) 1 1, .slice a94 n94 c94, .slice a112 n112 c112, .slice (some ⟨w112.heap.size, 0, none⟩) 2 2] [.slice (some ⟨w7.heap.size, 0, none⟩) 1 1, .slice (some ⟨w7.heap.size + 1, 0, none⟩) 5 5, .slice (some ⟨w7.heap.size + 1 + 1, 0, none⟩) 6 6, .slice (some ⟨w7.heap.size + 1 + 1 + 1, 0, none⟩) 7 7, .slice (some ⟨w7.heap.size + 1 + 1 + 1 + 1, 0, none⟩) 2 2, .slice (some ⟨w55.heap.size, 0, none⟩) 2 2, .slice (some ⟨w60.heap.size, 0, none⟩) 3 3, .slice (some ⟨w60.heap.size + 1, 0, none⟩) 3 3, .slice (some ⟨w60.heap.size + 1 + 1, 0, none⟩) 2 2, .slice (some ⟨w60.heap.size + 1 + 1 + 1 + 1 + 1 + 1, 0, none⟩) 5 5, .slice (some ⟨w60.heap.size + 1 + 1 + 1 + 1 + 1 + 1 + 1 + 1, 0, none⟩) 2 2, .slice (some ⟨w60.heap.size + 1 + 1 + 1 + 1 + 1 + 1 + 1 + 1 + 1 + 1, 0, none⟩) 3 3, .slice (some ⟨w60.heap.size + 1 + 1 + 1 + 1 + 1 + 1 + 1 + 1 + 1 + 1 + 1 + 1, 0, none⟩) 2 2, .slice (some ⟨w89.heap.size + 1, 0, none⟩) 5 5, .slice (some ⟨w94.heap.size, 0, none⟩) 2 2, .slice (some ⟨w101.heap.size, 0, none⟩) 2 2, .slice (some ⟨w107.heap.size, 0, none⟩) 1 1] := by rw [hx113]; exact L0.litG [50, 0] (by decide) (w112.heap.size) rfl
    have hs1 : x113.heap.size = w112.heap.size + 1 := by rw [hx113, sz]
    clear L0 hx113
    obtain ⟨x114, hx114⟩ : ∃ W : World, W = x113.alloc (.cells #[.slice a2 n2 c2, .slice a3 n3 c3, .slice a112 n112 c112, .slice (some ⟨w112.heap.size, 0, none⟩) 2 2] 25) := ⟨_, rfl⟩
    rw [← hx114]
    have L2 : Led w0 x114 [.slice a2 n2 c2, .slice a3 n3 c3, .slice a4 n4 c4, .slice a5 n5 c5, .slice a6 n6 c6, .slice a7 n7 c7, .slice a55 n55 c55, .slice a60 n60 c60, .slice (some ⟨w60.heap.size + 1 + 1 + 1, 0, none⟩) 1 1, .slice (some ⟨w60.heap.size + 1 + 1 + 1 + 1, 0, none⟩) 1 1, .slice (some ⟨w60.heap.size + 1 + 1 + 1 + 1 + 1, 0, none⟩) 2 2, .slice (some ⟨w60.heap.size + 1 + 1 + 1 + 1 + 1 + 1 + 1, 0, none⟩) 1 1, .slice (some ⟨w60.heap.size + 1 + 1 + 1 + 1 + 1 + 1 + 1 + 1 + 1, 0, none⟩) 1 1, .slice (some ⟨w60.heap.size + 1 + 1 + 1 + 1 + 1 + 1 + 1 + 1 + 1 + 1 + 1, 0, none⟩) 1 1, .slice (some ⟨w60.heap.size + 1 + 1 + 1 + 1 + 1 + 1 + 1 + 1 + 1 + 1 + 1 + 1 + 1, 0, none⟩) 0 0, .slice a89 n89 c89, .slice (some ⟨w89.heap.size, 0, none⟩) 1 1, .slice a94 n94 c94, .slice a112 n112 c112, .slice (some ⟨w112.heap.size, 0, none⟩) 2 2] [.slice (some ⟨w7.heap.size, 0, none⟩) 1 1, .slice (some ⟨w7.heap.size + 1, 0, none⟩) 5 5, .slice (some ⟨w7.heap.size + 1 + 1, 0, none⟩) 6 6, .slice (some ⟨w7.heap.size + 1 + 1 + 1, 0, none⟩) 7 7, .slice (some ⟨w7.heap.size + 1 + 1 + 1 + 1, 0, none⟩) 2 2, .slice (some ⟨w55.heap.size, 0, none⟩) 2 2, .slice (some ⟨w60.heap.size, 0, none⟩) 3 3, .slice (some ⟨w60.heap.size + 1, 0, none⟩) 3 3, .slice (some ⟨w60.heap.size + 1 + 1, 0, none⟩) 2 2, .slice (some ⟨w60.heap.size + 1 + 1 + 1 + 1 + 1 + 1, 0, none⟩) 5 5, .slice (some ⟨w60.heap.size + 1 + 1 + 1 + 1 + 1 + 1 + 1 + 1, 0, none⟩) 2 2, .slice (some ⟨w60.heap.size + 1 + 1 + 1 + 1 + 1 + 1 + 1 + 1 + 1 + 1, 0, none⟩) 3 3, .slice (some ⟨w60.heap.size + 1 + 1 + 1 + 1 + 1 + 1 + 1 + 1 + 1 + 1 + 1 + 1, 0, none⟩) 2 2, .slice (some ⟨w89.heap.size + 1, 0, none⟩) 5 5, .slice (some ⟨w94.heap.size, 0, none⟩) 2 2, .slice (some ⟨w101.heap.size, 0, none⟩) 2 2, .slice (some ⟨w107.heap.size, 0, none⟩) 1 1, .slice (some ⟨w112.heap.size + 1, 0, none⟩) 4 4] := by rw [hx114]; exact L1.rowG nilV (b3_nil _) [0, 1, 18, 19] (by decide) (w112.heap.size + 1) hs1
    have hs2 : x114.heap.size = w112.heap.size + 1 + 1 := by rw [hx114, sz, hs1]
    clear L1 hs1 hx114
    have hLL := L2
    go_meet
    case rel =>
      exact ⟨_, rfl, rfl, rfl, r18_new hLL hs2 rfl⟩
  case rest =>
    obtain ⟨G, rfl, rfl, rfl, hR⟩ := hcut
    have HR := hidden hR
    clear hR HL
    go_wp2_with fail
    go_loopw [117] (fun i wr => ∃ j : Nat, j ≤ 18 ∧ i = .int .i64 (j : Int) ∧ R18 w0 wr G) (fun i _ => 18 - (intOf i).toNat)
    case atStart => exact ⟨0, by omega, rfl, HR.out⟩
    case round =>
      obtain ⟨j, hj, rfl, hr⟩ := hrel
      have HR2 := hidden hr
      clear hr HR
      by_cases hlt : j < 18
      · have i1 : (j : Int) < 18 := by omega
        obtain ⟨u, hc, ps, hl, hps⟩ := HR2.out.at j hlt
        have HPY := hidden (plays_c _ _ U3 ps wr U3B (HU.out.fresh HR2.out.2) (fun k e => Nat.lt_of_lt_of_le (HOB.out k e) HR2.out.2.size) hl hps)
        obtain ⟨ua, uc, rfl, _⟩ := hl
        generalize ps.length = pl at *
        go_wp2_with fail
        refine HPY.out.mono ?_
        rintro e w9 ⟨rfl, hb9⟩
        have HR9 := hidden (HR2.out.fresh hb9)
        clear hb9 HPY hc HR2
        go_wp2_with fail
        go_roundw
        case rel => exact ⟨j + 1, by omega, by go_num, HR9.out⟩
        case measure => simp [intOf]; omega
      · have i1 : ¬ (j : Int) < 18 := by omega
        go_wp2_with fail
        refine region_free [(.bsl (byeL 14)), (.val (.string ⟨(List.toArray (byeL 14))⟩)), (.bsl (byeL 14)), (.val (.string ⟨(List.toArray (byeL 14))⟩)), (.val (.bool true)), (.val (.bool true)), (.bsl (byeL 4294967295)), (.val (.string ⟨(List.toArray (byeL 4294967295))⟩)), (.bsl (byeL 4294967295)), (.val (.string ⟨(List.toArray (byeL 4294967295))⟩)), (.val (.bool true)), (.val (.bool true)), (.val (.bool true)), (.val (.bool true)), (.val (.bool true)), (.val (.bool true))] (by kernel_rfl) ?_ ?_
        · refine req_cons (.bsl (byeL 14)) (by kernel_rfl) (fun vs w1 he hd => StepG.plain (by kernel_rfl) (gives_call (f := 10) (xs := #[(.const (.int .u32 14))]) (ts := #[33]) (vs := #[(.int .u32 14)]) (by kernel_rfl) (by kernel_rfl) (by kernel_rfl) Try.func10 (by kernel_rfl) (by kernel_rfl) (told_bytes (Bye_c 14 (by omega) w1)))) ?_
          refine req_cons (.val (.string ⟨(List.toArray (byeL 14))⟩)) (by kernel_rfl) (fun vs w1 he hd => StepG.plain (by kernel_rfl) (gives_str (x := (.tmp 126)) (v := (vs 0)) (xs := (byeL 14)) (by kernel_rfl) (by kernel_rfl) ((hd 0 (.bsl (byeL 14)) (by kernel_rfl) (by kernel_rfl))) ⟨Ex.refl _, rfl⟩)) ?_
          refine req_cons (.bsl (byeL 14)) (by kernel_rfl) (fun vs w1 he hd => StepG.plain (by kernel_rfl) (gives_call (f := 11) (xs := #[(.const (.int .u32 14))]) (ts := #[33]) (vs := #[(.int .u32 14)]) (by kernel_rfl) (by kernel_rfl) (by kernel_rfl) Try.func11 (by kernel_rfl) (by kernel_rfl) (told_bytes (rBye_c 14 (by omega) w1)))) ?_
          refine req_cons (.val (.string ⟨(List.toArray (byeL 14))⟩)) (by kernel_rfl) (fun vs w1 he hd => StepG.plain (by kernel_rfl) (gives_str (x := (.tmp 128)) (v := (vs 2)) (xs := (byeL 14)) (by kernel_rfl) (by kernel_rfl) ((hd 2 (.bsl (byeL 14)) (by kernel_rfl) (by kernel_rfl))) ⟨Ex.refl _, rfl⟩)) ?_
          refine req_cons (.val (.bool true)) (by kernel_rfl) (fun vs w1 he hd => StepG.plain (by kernel_rfl) (gives_eqS (x := (.tmp 127)) (y := (.tmp 129)) (xs := (byeL 14)) (ys := (byeL 14)) (r := true) (by kernel_rfl) (Eq.trans (b := vs 1) (by kernel_rfl) (hd 1 (.val (.string ⟨(List.toArray (byeL 14))⟩)) (by kernel_rfl) (by kernel_rfl))) (Eq.trans (b := vs 3) (by kernel_rfl) (hd 3 (.val (.string ⟨(List.toArray (byeL 14))⟩)) (by kernel_rfl) (by kernel_rfl))) (by simp) ⟨Ex.refl _, rfl⟩)) ?_
          refine req_cons (.val (.bool true)) (by kernel_rfl) (fun vs w1 he hd => StepG.plain (by kernel_rfl) (gives_move (x := (.tmp 130)) (v := (.bool true)) (by kernel_rfl) (Eq.trans (b := vs 4) (by kernel_rfl) (hd 4 (.val (.bool true)) (by kernel_rfl) (by kernel_rfl))) ⟨Ex.refl _, rfl⟩)) ?_
          refine req_cons (.bsl (byeL 4294967295)) (by kernel_rfl) (fun vs w1 he hd => StepG.on (g := 5) (d := 131) (x := true) (v := vs 5) (by kernel_rfl) (by kernel_rfl) (by kernel_rfl) (hd 5 (.val (.bool true)) (by kernel_rfl) (by kernel_rfl)) (gives_call (f := 10) (xs := #[(.const (.int .u32 4294967295))]) (ts := #[33]) (vs := #[(.int .u32 4294967295)]) (by kernel_rfl) (by kernel_rfl) (by kernel_rfl) Try.func10 (by kernel_rfl) (by kernel_rfl) (told_bytes (Bye_c 4294967295 (by omega) w1)))) ?_
          refine req_cons (.val (.string ⟨(List.toArray (byeL 4294967295))⟩)) (by kernel_rfl) (fun vs w1 he hd => StepG.on (g := 5) (d := 131) (x := true) (v := vs 5) (by kernel_rfl) (by kernel_rfl) (by kernel_rfl) (hd 5 (.val (.bool true)) (by kernel_rfl) (by kernel_rfl)) (gives_str (x := (.tmp 132)) (v := (vs 6)) (xs := (byeL 4294967295)) (by kernel_rfl) (by kernel_rfl) ((hd 6 (.bsl (byeL 4294967295)) (by kernel_rfl) (by kernel_rfl))) ⟨Ex.refl _, rfl⟩)) ?_
          refine req_cons (.bsl (byeL 4294967295)) (by kernel_rfl) (fun vs w1 he hd => StepG.on (g := 5) (d := 131) (x := true) (v := vs 5) (by kernel_rfl) (by kernel_rfl) (by kernel_rfl) (hd 5 (.val (.bool true)) (by kernel_rfl) (by kernel_rfl)) (gives_call (f := 11) (xs := #[(.const (.int .u32 4294967295))]) (ts := #[33]) (vs := #[(.int .u32 4294967295)]) (by kernel_rfl) (by kernel_rfl) (by kernel_rfl) Try.func11 (by kernel_rfl) (by kernel_rfl) (told_bytes (rBye_c 4294967295 (by omega) w1)))) ?_
          refine req_cons (.val (.string ⟨(List.toArray (byeL 4294967295))⟩)) (by kernel_rfl) (fun vs w1 he hd => StepG.on (g := 5) (d := 131) (x := true) (v := vs 5) (by kernel_rfl) (by kernel_rfl) (by kernel_rfl) (hd 5 (.val (.bool true)) (by kernel_rfl) (by kernel_rfl)) (gives_str (x := (.tmp 134)) (v := (vs 8)) (xs := (byeL 4294967295)) (by kernel_rfl) (by kernel_rfl) ((hd 8 (.bsl (byeL 4294967295)) (by kernel_rfl) (by kernel_rfl))) ⟨Ex.refl _, rfl⟩)) ?_
          refine req_cons (.val (.bool true)) (by kernel_rfl) (fun vs w1 he hd => StepG.on (g := 5) (d := 131) (x := true) (v := vs 5) (by kernel_rfl) (by kernel_rfl) (by kernel_rfl) (hd 5 (.val (.bool true)) (by kernel_rfl) (by kernel_rfl)) (gives_eqS (x := (.tmp 133)) (y := (.tmp 135)) (xs := (byeL 4294967295)) (ys := (byeL 4294967295)) (r := true) (by kernel_rfl) (Eq.trans (b := vs 7) (by kernel_rfl) (hd 7 (.val (.string ⟨(List.toArray (byeL 4294967295))⟩)) (by kernel_rfl) (by kernel_rfl))) (Eq.trans (b := vs 9) (by kernel_rfl) (hd 9 (.val (.string ⟨(List.toArray (byeL 4294967295))⟩)) (by kernel_rfl) (by kernel_rfl))) (by simp) ⟨Ex.refl _, rfl⟩)) ?_
          refine req_cons (.val (.bool true)) (by kernel_rfl) (fun vs w1 he hd => StepG.plain (by kernel_rfl) (gives_pick_t (x := (.tmp 131)) (y := (.tmp 136)) (z := (.const (.bool false))) (v := (.bool true)) (by kernel_rfl) (Eq.trans (b := vs 5) (by kernel_rfl) (hd 5 (.val (.bool true)) (by kernel_rfl) (by kernel_rfl))) (Eq.trans (b := vs 10) (by kernel_rfl) (hd 10 (.val (.bool true)) (by kernel_rfl) (by kernel_rfl))) ⟨Ex.refl _, rfl⟩)) ?_
          refine req_cons (.val (.bool true)) (by kernel_rfl) (fun vs w1 he hd => StepG.plain (by kernel_rfl) (gives_move (x := (.tmp 137)) (v := (.bool true)) (by kernel_rfl) (Eq.trans (b := vs 11) (by kernel_rfl) (hd 11 (.val (.bool true)) (by kernel_rfl) (by kernel_rfl))) ⟨Ex.refl _, rfl⟩)) ?_
          refine req_cons (.val (.bool true)) (by kernel_rfl) (fun vs w1 he hd => StepG.on (g := 12) (d := 138) (x := true) (v := vs 12) (by kernel_rfl) (by kernel_rfl) (by kernel_rfl) (hd 12 (.val (.bool true)) (by kernel_rfl) (by kernel_rfl)) (gives_call (f := 12) (xs := #[]) (ts := #[]) (vs := #[]) (by kernel_rfl) (by kernel_rfl) (by kernel_rfl) Try.func12 (by kernel_rfl) (by kernel_rfl) (told_true (known_c w1)))) ?_
          refine req_cons (.val (.bool true)) (by kernel_rfl) (fun vs w1 he hd => StepG.plain (by kernel_rfl) (gives_pick_t (x := (.tmp 138)) (y := (.tmp 139)) (z := (.const (.bool false))) (v := (.bool true)) (by kernel_rfl) (Eq.trans (b := vs 12) (by kernel_rfl) (hd 12 (.val (.bool true)) (by kernel_rfl) (by kernel_rfl))) (Eq.trans (b := vs 13) (by kernel_rfl) (hd 13 (.val (.bool true)) (by kernel_rfl) (by kernel_rfl))) ⟨Ex.refl _, rfl⟩)) ?_
          refine req_cons (.val (.bool true)) (by kernel_rfl) (fun vs w1 he hd => StepG.plain (by kernel_rfl) (gives_assign (x := (.tmp 140)) (v := (.bool true)) (by kernel_rfl) (Eq.trans (b := vs 14) (by kernel_rfl) (hd 14 (.val (.bool true)) (by kernel_rfl) (by kernel_rfl))) ⟨Ex.refl _, rfl⟩)) ?_
          exact req_nil
        intro vs wF hx hF
        have e1 : vs 1 = (.string ⟨(List.toArray (byeL 14))⟩) := told_at hF 1 (.val (.string ⟨(List.toArray (byeL 14))⟩)) (by decide) (by kernel_rfl)
        have e3 : vs 3 = (.string ⟨(List.toArray (byeL 14))⟩) := told_at hF 3 (.val (.string ⟨(List.toArray (byeL 14))⟩)) (by decide) (by kernel_rfl)
        have e4 : vs 4 = (.bool true) := told_at hF 4 (.val (.bool true)) (by decide) (by kernel_rfl)
        have e5 : vs 5 = (.bool true) := told_at hF 5 (.val (.bool true)) (by decide) (by kernel_rfl)
        have e7 : vs 7 = (.string ⟨(List.toArray (byeL 4294967295))⟩) := told_at hF 7 (.val (.string ⟨(List.toArray (byeL 4294967295))⟩)) (by decide) (by kernel_rfl)
        have e9 : vs 9 = (.string ⟨(List.toArray (byeL 4294967295))⟩) := told_at hF 9 (.val (.string ⟨(List.toArray (byeL 4294967295))⟩)) (by decide) (by kernel_rfl)
        have e10 : vs 10 = (.bool true) := told_at hF 10 (.val (.bool true)) (by decide) (by kernel_rfl)
        have e11 : vs 11 = (.bool true) := told_at hF 11 (.val (.bool true)) (by decide) (by kernel_rfl)
        have e12 : vs 12 = (.bool true) := told_at hF 12 (.val (.bool true)) (by decide) (by kernel_rfl)
        have e13 : vs 13 = (.bool true) := told_at hF 13 (.val (.bool true)) (by decide) (by kernel_rfl)
        have e14 : vs 14 = (.bool true) := told_at hF 14 (.val (.bool true)) (by decide) (by kernel_rfl)
        have e15 : vs 15 = (.bool true) := told_at hF 15 (.val (.bool true)) (by decide) (by kernel_rfl)
        simp only [List.length_cons, List.length_nil, actsTo, if_true, dstOf, List.getElem?_toArray, List.getElem?_cons_succ, List.getElem?_cons_zero, Option.bind_some, Act.put, List.setIfInBounds_toArray, List.set_cons_zero, List.set_cons_succ]
        simp only [e1, e3, e4, e5, e7, e9, e10, e11, e12, e13, e14, e15]
        generalize vs 0 = y0
        generalize vs 2 = y2
        generalize vs 6 = y6
        generalize vs 8 = y8
        clear hF e1 e3 e4 e5 e7 e9 e10 e11 e12 e13 e14 e15 vs
        have HBF := hidden (HB0.out.trans ((HR2.out.2.trans (hx.mono HR2.out.2.size)).mono HB0.out.size))
        clear hx HR2
        go_wp2_with fail
        go_ret
        exact ⟨rfl, HBF.out⟩

end Go.Proofs.Ytpildjijaigmfaa
