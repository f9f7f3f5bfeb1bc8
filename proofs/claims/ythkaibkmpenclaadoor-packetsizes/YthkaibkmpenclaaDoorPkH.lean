/- What Out.Packet does. -/
import Derived.Test.YthkaibkmpenclaaDoorPkG
namespace Go.Proofs.YthkaibkmpenclaaDoor
open Go Go.RowKit

/-- What Packet tells: a row of its own, and a count that is one more. -/
def PTold (w : World) (g : Nat) (kb : Option Nat) (key : List UInt8) (c : Nat) (p : List UInt8) (e : Ending) (w' : World) : Prop :=
  ∃ v, e = .returned (.tuple #[v, .int .i64 0]) ∧ w'.ownsRow w.heap.size 5 1 v (packetL key c p).length (bcells (packetL key c p)) ∧ OutS w' g kb key (c + 1) ∧ Keeps (fun k => k = g) w w'
theorem seal_k (w : World) {g : Nat} {key : List UInt8} {c : Nat} (h : LineS w g key c) (hcl : Cl w) (v1 v2 : Value) (p : List UInt8) (h1 : BSl w v1 (headP key p)) (h2 : BSl w v2 (bodyP key p)) (hp : p.length ≤ 9000) :
    Calls Tryd.prog 31 #[.pointer (some ⟨g, 0, none⟩), v1, v2] w fun e w' => Ex w w' ∧ ∃ v, e = .returned (.tuple #[v, .int .i64 0]) ∧ BSl w' v (restP key c p) := by
  have hr := padP_range key p.length
  refine (seal_c w h hcl v1 v2 _ _ h1 h2 (by rw [headP_length]; omega) (by rw [bodyP_length]; omega)).mono ?_
  rintro e w' ⟨hx, v, rfl, hb⟩
  refine ⟨hx, v, ?_, by rw [restP]; exact hb⟩
  by_cases hk : key = []
  · rw [if_pos hk]; rfl
  · rw [if_neg hk, sealE, if_pos (h.ok.sizes hk c)]; rfl
theorem two_c (w : World) (v0 v1 : Value) (xs ys : List UInt8) (hl : xs.length + ys.length ≤ 400000000) (h0 : BSl w v0 xs) (h1 : BSl w v1 ys) :
    Calls Tryd.prog 32 #[.slice (some ⟨w.heap.size, 0, none⟩) 2 2] (w.alloc (.cells #[v0, v1] 22)) fun e w' => ∃ v', e = .returned v' ∧ Own w w' v' (xs ++ ys) := by
  have hn := heap_alloc_new w (.cells #[v0, v1] 22)
  have b3 := (Below.refl w.heap.size w).alloc (Nat.le_refl _) (.cells #[v0, v1] 22)
  refine (concat2 w.heap.size v0 v1 xs ys hl _ ?_ ?_ (h0.fresh b3) (h1.fresh b3)).mono ?_
  · exact cell_row (cs := [v0, v1]) hn 0
  · exact cell_row (cs := [v0, v1]) hn 1
  · rintro e w' ⟨v', rfl, ho⟩
    exact ⟨v', rfl, Own.next b3 ho⟩
set_option maxHeartbeats 400000 in
set_option maxRecDepth 100000 in
theorem packet_c (v : Value) (p : List UInt8) (w : World) {g : Nat} {kb : Option Nat} {key : List UInt8} {c : Nat} (h : OutS w g kb key c) (hcl : Cl w) (hv : BSl w v p) (h1 : 1 ≤ p.length) (hp : p.length ≤ 9000) (hc : c + 1 ≤ 1000000) :
    Calls Tryd.prog 11 #[.pointer (some ⟨g, 0, none⟩), v] w fun e w' => PTold w g kb key c p e w' := by
  have HOS := hidden h
  have HCL := hidden hcl
  have HF := hidden (filled_c w h.line v p hv (by omega))
  obtain ⟨ao, cap, rfl⟩ := hv.len
  obtain ⟨n, hn⟩ : ∃ n, n = p.length := ⟨_, rfl⟩
  have HP := hidden hn
  have hz : ((n : Int) == 0) = false := by simp; omega
  have hz2 : ¬ (34000 : Int) < (n : Int) := by omega
  rw [← hn] at h1 hp HF ⊢
  have HK := hidden h.ok
  clear h hcl hv hn
  go_enter Tryd.func11, Tryd.ntmps11
  go_wp2_with fail
  refine HF.out.mono ?_
  rintro e w1 ⟨vb, rfl, hb⟩
  have HB := hidden hb
  obtain ⟨ab, cb, rfl⟩ := hb.shape
  have hbl := bodyP_length key p
  have hr := padP_range key p.length
  obtain ⟨L, hL⟩ : ∃ L, L = (bodyP key p).length := ⟨_, rfl⟩
  have hL9 : L ≤ 9100 := by have := HP.out; omega
  have hAN := appendNumber_c L 4 (by omega) (by omega) _ [] w1 w1 (Own.nothing w1) (by simp)
  rw [List.nil_append, hL] at hAN
  rw [show be 4 (bodyP key p).length = headP key p from rfl] at hAN
  rw [← hL] at hAN HB ⊢
  have HAN := hidden hAN
  clear hb hbl hr hAN HF hL
  go_wp2_with fail
  refine HAN.out.mono ?_
  rintro e w2 ⟨vh, rfl, hh⟩
  have HH := hidden hh
  have HB2 : Hid (Below w.heap.size w w2) := HB.out.b.trans (HH.out.b.mono HB.out.b.size)
  obtain ⟨ah, ch, rfl⟩ := hh.shape
  clear hh
  generalize (headP key p).length = m4 at HH ⊢
  clear HAN
  have HSL := hidden (seal_k w2 (HOS.out.fresh HB2.out).line (HCL.out.fresh HB2.out) _ _ p HH.out.bsl (HB.out.bsl.fresh HH.out.b) (by have := HP.out; omega))
  go_wp2_with fail
  refine HSL.out.mono ?_
  rintro e w3 ⟨hx3, vr, rfl, hr3⟩
  have HB3 : Hid (Below w.heap.size w w3) := HB2.out.trans (Below.mono hx3 HB2.out.size)
  have HR3 := hidden hr3
  have HH3 := hidden (HH.out.bsl.fresh hx3)
  have HO3 := hidden (HOS.out.fresh HB3.out)
  obtain ⟨ar, cr, rfl⟩ := hr3.len
  clear hr3 HSL
  generalize (restP key c p).length = m5 at HR3 ⊢
  clear hx3
  obtain ⟨⟨kv, g1, g2, g3⟩, _⟩ := id HO3.out
  have HG3 := hidden g1
  have hc1 := cell_row (cs := [kv, .int .u64 (c : Int)]) g1 1
  simp only [List.getElem?_cons_succ, List.getElem?_cons_zero] at hc1
  have hf1 := frozen_row g1 1
  clear g1 g2 g3
  have hcx : (c : Int) ≤ 999999 := by omega
  obtain ⟨w4, ew4⟩ : ∃ w4, w4 = w3.setCell ⟨g, 1, none⟩ (.int .u64 ((c : Int) + 1)) := ⟨_, rfl⟩
  have hk4 : Keeps (fun k => k = g) w3 w4 := by rw [ew4]; exact (Keeps.refl (fun k => k = g) w3).setCell (p := ⟨g, 1, none⟩) (.inl rfl) _
  have hnb : ∀ (i : Nat) (m : Int), (#[kv, .int .u64 (c : Int)] : Array Value)[i]? ≠ some (.int .u8 m) := by
    have hkv : ∃ a n c, kv = .slice a n c := by
      obtain ⟨⟨kv', q1, q2, _⟩, _⟩ := HO3.out
      rw [HG3.out] at q1
      simp at q1
      subst q1
      obtain ⟨a, c, e⟩ := q2.len
      exact ⟨_, _, _, e⟩
    obtain ⟨a, n, c', rfl⟩ := hkv
    intro i m
    match i with
    | 0 => simp
    | 1 => simp
    | i + 2 => simp
  have HR4 : Hid (BSl w4 (.slice ar m5 cr) (restP key c p)) := HR3.out.keepN hk4 fun hne k e hs => HR3.out.off hne HG3.out hnb (by rw [e, hs])
  have HH4 : Hid (BSl w4 (.slice ah m4 ch) (headP key p)) := HH3.out.keepN hk4 fun hne k e hs => HH3.out.off hne HG3.out hnb (by rw [e, hs])
  have HO4 : Hid (OutS w4 g kb key (c + 1)) := by
    obtain ⟨⟨kv', q1, q2, q3⟩, q4, q5, q6, q7⟩ := HO3.out
    rw [HG3.out] at q1
    simp at q1
    subst q1
    refine ⟨⟨kv, ?_, q2.keep hk4 (fun k e hs => q4 (by rw [← q3, e, hs])), q3⟩, q4, fun k e => by rw [ew4, World.size_setCell]; exact q5 k e, q6, hc⟩
    rw [ew4, set2b HG3.out]
    simp
  have HK4 : Hid (Keeps (fun k => k = g) w w4) := (Keeps.ofFresh HB3.out).trans hk4
  have hs4 : w4.heap.size = w3.heap.size := by rw [ew4, World.size_setCell]
  have HW4 := hidden ew4
  have HLN : Hid ((headP key p).length + (restP key c p).length ≤ 400000000) := by
    have h1 := restP_length HK.out c p
    have h2 := padP_range key p.length
    have h3 := HP.out
    have h4 : tagN key ≤ 16 := by unfold tagN; split <;> omega
    show _ ≤ _
    rw [h1, headP_length]
    omega
  have hTWO := two_c w4 _ _ _ _ HLN.out HH4.out HR4.out
  rw [hs4, ew4] at hTWO
  have HTWO := hidden hTWO
  clear hk4 hnb ew4 hs4 hc hTWO
  go_wp2_with fail
  refine HTWO.out.mono ?_
  rintro e w5 ⟨v5, rfl, ho5⟩
  rw [← HW4.out] at ho5
  have HFIN : Hid (PTold w g kb key c p (.returned (.tuple #[v5, .int .i64 0])) w5) := by
    refine ⟨v5, rfl, ?_, HO4.out.fresh ho5.b, HK4.out.trans (Keeps.ofFresh ho5.b)⟩
    have hr := ho5.row
    exact ⟨hr.1, hr.2.imp_right fun ⟨g, cap, cur, e1, e2, e3⟩ => ⟨g, cap, cur, e1, Nat.le_trans HK4.out.size e2, e3⟩⟩
  clear ho5
  go_wp2
  go_ret2
  exact HFIN.out
end Go.Proofs.YthkaibkmpenclaaDoor
