/- The law's in() and same(). -/
import Derived.Test.YtookapglookphaaDoorKxI
namespace Go.Proofs.YtookapglookphaaDoor
open Go Go.RowKit

/-- The document's two places: the Side, and the Secret to be told. -/
structure RBox (W : World) (B : Nat) (sa : Array Value) (wx : World) : Prop where
  bel : Below W.heap.size W wx
  side : wx.heap[B]? = some (.cells sa 39 (0, 0))
  sec : wx.heap[B + 1]? = some (.cells #[.slice none 0 0, .slice none 0 0] 36 (0, 0))
theorem RBox.next {W : World} {B : Nat} {sa : Array Value} {wx wy : World} (h : RBox W B sa wx) (hb : Below wx.heap.size wx wy) : RBox W B sa wy :=
  ⟨h.bel.trans (hb.mono h.bel.size), (hb.block B (lt_of_block h.side)).trans h.side, (hb.block (B + 1) (lt_of_block h.sec)).trans h.sec⟩
theorem RBox.start (w : World) (sa : Array Value) : RBox w w.heap.size sa ((w.alloc (.cells sa 39)).alloc (.cells #[.slice none 0 0, .slice none 0 0] 36)) := by
  refine ⟨((Below.refl _ w).alloc (Nat.le_refl _) _).alloc (by simp) _, ?_, ?_⟩
  · rw [Below.heap_alloc _ _ _ (by simp)]
    exact heap_alloc_new w _
  · have h := heap_alloc_new (w.alloc (.cells sa 39)) (.cells #[.slice none 0 0, .slice none 0 0] 36)
    simpa using h
theorem RBox.done {W wx : World} {sa : Array Value} (h : RBox W W.heap.size sa wx) (cs : Array Value) : (wx.setRow (W.heap.size + 1) cs).heap[W.heap.size + 1]? = some (.cells cs 36 (0, 0)) ∧ Below W.heap.size W (wx.setRow (W.heap.size + 1) cs) ∧ (∀ v xs, BSl wx v xs → BSl (wx.setRow (W.heap.size + 1) cs) v xs) ∧ ∀ v n xs, wx.ownsRow W.heap.size 5 1 v n (bcells xs) → (wx.setRow (W.heap.size + 1) cs).ownsRow W.heap.size 5 1 v n (bcells xs) := by
  refine ⟨setRow_heap _ _ _ _ _ _ h.sec, below_setRow h.bel (by omega) _, fun v xs hv => hv.setSec h.sec (fun _ h => by cases h) (fun _ h => by cases h) cs, fun v n xs hv => ?_⟩
  refine ((Keeps.refl (fun k => k = W.heap.size + 1) wx).setRow (g := W.heap.size + 1) rfl cs).row hv (fun k e e2 => ?_)
  rcases hv.2 with ⟨e3, _⟩ | ⟨g, cap, cur, e3, _, hg, _⟩
  · rw [e3] at e
    simp [Value.ownBlock] at e
  · rw [e3] at e
    have : g = W.heap.size + 1 := by simp [Value.ownBlock] at e; omega
    rw [this, h.sec] at hg
    have := Option.some.inj hg
    injection this with _ ht
    exact absurd ht (by decide)
theorem run_strK {w : World} {ao : Option Addr} {n cap : Nat} {xs : List UInt8} {S : ByteArray} (h : BSl w (.slice ao n cap) xs) (hS : S = ⟨xs.toArray⟩) : (convert 22 9 (.slice ao n cap)).run Tryd.prog w = .ok (.string S) w := by rw [hS]; exact run_string h
set_option maxHeartbeats 800000 in
set_option maxRecDepth 100000 in
theorem in_c (a1 a2 a3 a4 : Option Addr) (n1 n2 n3 n4 c1 c2 c3 c4 : Nat) (s0 s1 : ByteArray) (w : World) :
    Calls Tryd.prog 11 #[.agg #[.slice a1 n1 c1, .slice a2 n2 c2, .string s0, .string s1, .slice a3 n3 c3, .slice a4 n4 c4]] w fun e w' => e = .returned (.agg #[.slice a1 n1 c1, .slice a2 n2 c2, .string s0, .string s1, .slice a3 n3 c3, .slice a4 n4 c4]) ∧ Below w.heap.size w w' := by
  go_enter Tryd.func11, Tryd.ntmps11
  go_wp2_with fail
  have h := heap_alloc_new (w.alloc (.cells #[.slice a1 n1 c1, .slice a2 n2 c2, .string s0, .string s1, .slice a3 n3 c3, .slice a4 n4 c4] 25)) (.cells #[.slice a1 n1 c1, .slice a2 n2 c2, .string s0, .string s1, .slice a3 n3 c3, .slice a4 n4 c4] 39)
  rw [show (w.alloc (.cells #[.slice a1 n1 c1, .slice a2 n2 c2, .string s0, .string s1, .slice a3 n3 c3, .slice a4 n4 c4] 25)).heap.size = w.heap.size + 1 by simp] at h
  refine bodyPost_ret (results_agg1 rfl _ _ _ (w.heap.size + 1) _ 39 (0, 0) rfl h Tryd.underlying39 (by kernel_rfl)) rfl ?_
  exact ⟨rfl, ((Below.refl _ w).alloc (Nat.le_refl _) _).alloc (by simp) _⟩
set_option maxHeartbeats 800000 in
set_option maxRecDepth 100000 in
theorem lsame_c (v1 v2 v3 v4 : Value) (K H : List UInt8) (w : World) (h1 : BSl w v1 K) (h2 : BSl w v2 H) (h3 : BSl w v3 K) (h4 : BSl w v4 H) :
    Calls Tryd.prog 12 #[.agg #[v1, v2], .agg #[v3, v4]] w fun e w' => e = .returned (.bool true) ∧ Below w.heap.size w w' := by
  have H1 := hidden h1
  have H2 := hidden h2
  have H3 := hidden h3
  have H4 := hidden h4
  obtain ⟨a1, c1, rfl⟩ := h1.len
  obtain ⟨a2, c2, rfl⟩ := h2.len
  obtain ⟨a3, c3, rfl⟩ := h3.len
  obtain ⟨a4, c4, rfl⟩ := h4.len
  clear h1 h2 h3 h4
  have hb : Below w.heap.size w ((w.alloc (.cells #[.slice a1 K.length c1, .slice a2 H.length c2] 30)).alloc (.cells #[.slice a3 K.length c3, .slice a4 H.length c4] 36)) := ((Below.refl _ w).alloc (Nat.le_refl _) _).alloc (by simp) _
  obtain ⟨SK, hSK⟩ : ∃ S : ByteArray, S = ⟨K.toArray⟩ := ⟨_, rfl⟩
  obtain ⟨SH, hSH⟩ : ∃ S : ByteArray, S = ⟨H.toArray⟩ := ⟨_, rfl⟩
  have e1 := run_strK (H1.out.fresh hb) hSK
  have e2 := run_strK (H2.out.fresh hb) hSH
  have e3 := run_strK (H3.out.fresh hb) hSK
  have e4 := run_strK (H4.out.fresh hb) hSH
  have HB := hidden hb
  clear hSK hSH hb
  go_enter Tryd.func12, Tryd.ntmps12
  go_wp2_with fail
  go_ret
  exact ⟨rfl, HB.out⟩
end Go.Proofs.YtookapglookphaaDoor
