/- The law's known(). -/
import Derived.Test.YtookapglookphaaDoorKxI
import Derived.Test.YtookapglookphaaDoorKxJ
import Derived.Test.YtookapglookphaaDoorKxK
import Derived.Test.YtookapglookphaaDoorKxL
import Derived.Test.YtookapglookphaaDoorXmA
namespace Go.Proofs.YtookapglookphaaDoor
open Go Go.RowKit

theorem sized_1 : sizedL [1] 32 = kC := by decide +kernel
theorem sized_2 : sizedL [2] 32 = kS := by decide +kernel
theorem sizedLit_c (x : UInt8) (y : Int) (hy : (x.toNat : Int) = y) (w : World) (B : Nat) (hB : w.heap.size = B) :
    Calls Tryd.prog 6 #[.slice (some ⟨B, 0, none⟩) 1 1, .int .i64 32] (w.alloc (.cells #[.int .u8 y] 5)) fun e w' => ∃ G, e = .returned (.slice (some ⟨G, 0, none⟩) 32 32) ∧ BSl w' (.slice (some ⟨G, 0, none⟩) 32 32) (sizedL [x] 32) ∧ Below w.heap.size w w' := by
  subst hy hB
  have hb : Below w.heap.size w (w.alloc (.cells (bcells [x]).toArray 5)) := (Below.refl _ w).alloc (Nat.le_refl _) _
  exact (sized_b 32 (by omega) _ [x] _ (bsl_lit w [x] (by simp))).mono fun e w' ⟨h1, h2, h3⟩ => ⟨_, h1, h2, hb.trans (h3.mono hb.size)⟩
theorem row_new (w : World) (cs : Array Value) (t : TypeId) {wx : World} (hb : Below (w.alloc (.cells cs t)).heap.size (w.alloc (.cells cs t)) wx) : wx.heap[w.heap.size]? = some (.cells cs t (0, 0)) :=
  (hb.block w.heap.size (by simp)).trans (heap_alloc_new w _)
def sideA (G P : Nat) (n : Nat) : Array Value := #[.slice (some ⟨G, 0, none⟩) 32 32, .slice (some ⟨P, 0, none⟩) n n, .string ⟨#[]⟩, .string ⟨#[]⟩, .slice none 0 0, .slice none 0 0]
/-- Both Sides of known(), in their places. -/
structure KW (w wx : World) (B1 B2 G1 P1 n1 G2 P2 : Nat) (pin : List UInt8) : Prop where
  bel : Below w.heap.size w wx
  r1 : wx.heap[B1]? = some (.cells (sideA G1 P1 n1) 25 (0, 0))
  r2 : wx.heap[B2]? = some (.cells (sideA G2 P2 3) 25 (0, 0))
  v1 : BSl wx (.slice (some ⟨G1, 0, none⟩) 32 32) kC
  p1 : BSl wx (.slice (some ⟨P1, 0, none⟩) n1 n1) pin
  v2 : BSl wx (.slice (some ⟨G2, 0, none⟩) 32 32) kS
  p2 : BSl wx (.slice (some ⟨P2, 0, none⟩) 3 3) pinL
theorem KW.next {w wx wy : World} {B1 B2 G1 P1 n1 G2 P2 : Nat} {pin : List UInt8} (h : KW w wx B1 B2 G1 P1 n1 G2 P2 pin) (hb : Below wx.heap.size wx wy) : KW w wy B1 B2 G1 P1 n1 G2 P2 pin :=
  ⟨h.bel.trans (hb.mono h.bel.size), (hb.block B1 (lt_of_block h.r1)).trans h.r1, (hb.block B2 (lt_of_block h.r2)).trans h.r2, h.v1.fresh hb, h.p1.fresh hb, h.v2.fresh hb, h.p2.fresh hb⟩
theorem KW.s1 {w wx : World} {B1 B2 G1 P1 n1 G2 P2 : Nat} {pin : List UInt8} (h : KW w wx B1 B2 G1 P1 n1 G2 P2 pin) : SideS wx (.slice (some ⟨G1, 0, none⟩) 32 32) (.slice (some ⟨P1, 0, none⟩) n1 n1) (.slice none 0 0) (.slice none 0 0) kC pin [] [] := ⟨h.v1, h.p1, bsl_none _, bsl_none _⟩
theorem KW.s2 {w wx : World} {B1 B2 G1 P1 n1 G2 P2 : Nat} {pin : List UInt8} (h : KW w wx B1 B2 G1 P1 n1 G2 P2 pin) : SideS wx (.slice (some ⟨G2, 0, none⟩) 32 32) (.slice (some ⟨P2, 0, none⟩) 3 3) (.slice none 0 0) (.slice none 0 0) kS pinL [] [] := ⟨h.v2, h.p2, bsl_none _, bsl_none _⟩
theorem BSl.apartA {w : World} {R : Nat} {v : Value} {cs : Array Value} {t : TypeId} {xs : List UInt8} (h : BSl w v xs) (hne : xs ≠ []) (hr : w.heap[R]? = some (.cells cs t (0, 0))) (h0 : ∀ (i : Nat) (n : Int), cs[i]? ≠ some (.int .u8 n)) : v.ownBlock ≠ some R := by
  obtain ⟨x, r, rfl⟩ := List.exists_cons_of_ne_nil hne
  obtain ⟨b, off, cap, rfl, _, _, hb⟩ := h.cons
  have hc := h.head
  rw [hb]
  rintro e
  cases e
  unfold World.cell? at hc
  simp only [hr] at hc
  exact h0 off _ (by simpa using hc)
theorem sideA_no (G P n : Nat) (i : Nat) (m : Int) : (sideA G P n)[i]? ≠ some (.int .u8 m) := by
  unfold sideA
  match i with
  | 0 => simp
  | 1 => simp
  | 2 => simp
  | 3 => simp
  | 4 => simp
  | 5 => simp
  | k + 6 => simp
/-- A byte row stays, whatever is put into a place of a Side. -/
theorem BSl.sideSet {w : World} {B G P n : Nat} {v : Value} {xs : List UInt8} (h : BSl w v xs) (hr : w.heap[B]? = some (.cells (sideA G P n) 25 (0, 0))) (i : Nat) (u : Value) : BSl (w.setCell ⟨B, i, none⟩ u) v xs := by
  by_cases hne : xs = []
  · subst hne
    exact h.nothing
  · exact h.keep ((Keeps.refl (fun k => k = B) w).setCell (p := ⟨B, i, none⟩) (.inl rfl) u) (fun k e e2 => h.apartA hne hr (sideA_no G P n) (by rw [e, e2]))
theorem KW.other {w wx : World} {B1 B2 G1 P1 n1 G2 P2 : Nat} {pin : List UInt8} (h : KW w wx B1 B2 G1 P1 n1 G2 P2 pin) (h12 : B1 ≠ B2) (hB : w.heap.size ≤ B1) (P3 n3 : Nat) (q : List UInt8) (hq : BSl wx (.slice (some ⟨P3, 0, none⟩) n3 n3) q) : KW w (wx.setCell ⟨B1, 1, none⟩ (.slice (some ⟨P3, 0, none⟩) n3 n3)) B1 B2 G1 P3 n3 G2 P2 q := by
  refine ⟨h.bel.setCell hB _, ?_, ?_, h.v1.sideSet h.r1 _ _, hq.sideSet h.r1 _ _, h.v2.sideSet h.r1 _ _, h.p2.sideSet h.r1 _ _⟩
  · rw [heap_setCell_same _ _ _ _ _ _ h.r1]
    rfl
  · exact (((Keeps.refl (fun k => k = B1) wx).setCell (p := ⟨B1, 1, none⟩) (.inl rfl) _).block B2 (lt_of_block h.r2) (fun e => h12 e.symm)).trans h.r2
theorem cells2 {w : World} {B : Nat} {t : TypeId} {x0 x1 : Value} (h : w.heap[B]? = some (.cells #[x0, x1] t (0, 0))) : w.cell? ⟨B, 0, none⟩ = some x0 ∧ w.cell? ⟨B, 1, none⟩ = some x1 := by
  constructor <;> simp [World.cell?, h]
theorem rep_le (p k h : List UInt8) : (repL p (baseL k) h).length ≤ 5000 := payL_le 31 _ 3 (by omega) (fun i => by rw [rep_32]; omega)
theorem ini_le (k : List UInt8) : (payL 30 (fun _ => baseL k) 1).length ≤ 5000 := payL_le 30 _ 1 (by omega) (fun i => by rw [baseL_length]; omega)
theorem secK_le (a b : List UInt8) : (secK a b).length ≤ 32 := bare_32
theorem secH_len (kc ks p : List UInt8) (s0 s1 : ByteArray) (i1 i2 : List UInt8) : (secH kc ks p s0 s1 i1 i2).length = 32 := sumL_length _
theorem run_str {w : World} {ao : Option Addr} {n cap : Nat} {xs : List UInt8} {S : ByteArray} (h : BSl w (.slice ao n cap) xs) (hS : S = ⟨xs.toArray⟩) : (convert 22 9 (.slice ao n cap)).run Tryd.prog w = .ok (.string S) w := by rw [hS]; exact run_string h
set_option maxHeartbeats 1600000 in
set_option maxRecDepth 100000 in
theorem known_c (w : World) (hr : Rw w) (htp : Tp w) :
    Calls Tryd.prog 14 #[] w fun e w' => e = .returned (.bool true) ∧ Below w.heap.size w w' := by
  have HR := hidden hr
  have HT := hidden htp
  clear hr htp
  go_enter Tryd.func14, Tryd.ntmps14
  go_wp2_with fail
  refine (sizedLit_c 1 1 rfl w _ rfl).mono ?_
  rintro e w1 ⟨G1, rfl, hv1, hb1⟩
  rw [sized_1] at hv1
  have HB1 := hidden hb1
  have HV1 := hidden hv1
  clear hv1 hb1
  obtain ⟨w2, hcv, hv2, hb2⟩ := lit_mark w1 [112, 105, 110] (by simp)
  change (convert 22 22 (.slice (some ⟨w1.heap.size, 0, none⟩) 3 3)).run Tryd.prog (w1.alloc (.cells #[.int .u8 112, .int .u8 105, .int .u8 110] 5)) = .ok (.slice (some ⟨w1.heap.size, 0, none⟩) 3 3) w2 at hcv
  change BSl w2 (.slice (some ⟨w1.heap.size, 0, none⟩) 3 3) pinL at hv2
  have HP2 := hidden hv2
  have HB2 := hidden (HB1.out.trans (hb2.mono HB1.out.size))
  have HV2 := hidden (HV1.out.fresh hb2)
  have HS2 := hidden hb2.size
  clear hv2 hb2 HB1 HV1
  go_wp2_with fail
  obtain ⟨wA, hwA⟩ : ∃ x, x = w2.alloc (.cells #[.slice (some ⟨G1, 0, none⟩) 32 32, .slice (some ⟨w1.heap.size, 0, none⟩) 3 3, .string ⟨#[]⟩, .string ⟨#[]⟩, .slice none 0 0, .slice none 0 0] 25) := ⟨_, rfl⟩
  rw [← hwA]
  have HRA : Hid (wA.heap[w2.heap.size]? = some (.cells (sideA G1 w1.heap.size 3) 25 (0, 0))) := by rw [hwA]; exact heap_alloc_new w2 _
  have hbA : Below w2.heap.size w2 wA := by rw [hwA]; exact (Below.refl _ w2).alloc (Nat.le_refl _) _
  have hsA : wA.heap.size = w2.heap.size + 1 := by rw [hwA]; simp
  have HBA := hidden (HB2.out.trans (hbA.mono HB2.out.size))
  have HVA := hidden (HV2.out.fresh hbA)
  have HPA := hidden (HP2.out.fresh hbA)
  have HSA := hidden hsA
  have HBS := hidden HB2.out.size
  clear hwA hbA hcv HB2 HV2 HP2 hsA
  generalize w1.heap.size = P1 at HRA HPA ⊢
  refine (sizedLit_c 2 2 rfl wA _ HSA.out).mono ?_
  have HBL : Hid (w.heap.size ≤ w2.heap.size) := HBS.out
  generalize w2.heap.size = B1 at HRA HBL ⊢
  rintro e w3 ⟨G2, rfl, hv3, hb3⟩
  rw [sized_2] at hv3
  obtain ⟨w4, hcv, hv4, hb4⟩ := lit_mark w3 [112, 105, 110] (by simp)
  change (convert 22 22 (.slice (some ⟨w3.heap.size, 0, none⟩) 3 3)).run Tryd.prog (w3.alloc (.cells #[.int .u8 112, .int .u8 105, .int .u8 110] 5)) = .ok (.slice (some ⟨w3.heap.size, 0, none⟩) 3 3) w4 at hcv
  change BSl w4 (.slice (some ⟨w3.heap.size, 0, none⟩) 3 3) pinL at hv4
  have hbA4 : Below wA.heap.size wA w4 := hb3.trans (hb4.mono hb3.size)
  have HLO : Hid (w.heap.size ≤ B1 ∧ B1 ≠ w4.heap.size) := by
    have h1 := lt_of_block HRA.out
    have h2 := hbA4.size
    have h3 := HBL.out
    exact ⟨h3, by omega⟩
  have HK5 : Hid (KW w (w4.alloc (.cells (sideA G2 w3.heap.size 3) 25)) B1 w4.heap.size G1 P1 3 G2 w3.heap.size pinL) := by
    have h5 : Below w4.heap.size w4 (w4.alloc (.cells (sideA G2 w3.heap.size 3) 25)) := (Below.refl _ w4).alloc (Nat.le_refl _) _
    have h6 := hbA4.trans (h5.mono hbA4.size)
    exact ⟨HBA.out.trans (h6.mono HBA.out.size), (h6.block B1 (lt_of_block HRA.out)).trans HRA.out, heap_alloc_new w4 _, HVA.out.fresh h6, HPA.out.fresh h6, (hv3.fresh hb4).fresh h5, hv4.fresh h5⟩
  have hq := side_cells HK5.out.r1
  obtain ⟨q0, _⟩ := hq
  clear hv3 hb3 hv4 hb4 hbA4 HRA HBA HVA HPA
  unfold sideA at HK5 q0
  go_wp2_with fail
  generalize w4.alloc (.cells #[.slice (some ⟨G2, 0, none⟩) 32 32, .slice (some ⟨w3.heap.size, 0, none⟩) 3 3, .string ⟨#[]⟩, .string ⟨#[]⟩, .slice none 0 0, .slice none 0 0] 25) = w5 at HK5 q0 ⊢
  clear hcv
  generalize w4.heap.size = B2 at HK5 HLO ⊢
  generalize w3.heap.size = P2 at HK5 ⊢
  refine (Init_c _ kC w5 (HT.out.fresh HK5.out.bel) HK5.out.v1).mono ?_
  rintro e w6 ⟨hb6, vi, rfl, hvi, _⟩
  rw [ini_ok (show kC.length = 32 from rfl)] at hvi ⊢
  have HK6 := hidden (HK5.out.next hb6)
  have HI6 := hidden hvi
  obtain ⟨ai, ci, rfl⟩ := hvi.len
  have hq := side_cells HK6.out.r2
  obtain ⟨q0, q1, q2, q3, q4, q5⟩ := hq
  have HIL := hidden (ini_le kC)
  have HSV := hidden (srv_ok (kc := kC) (ks := kS) rfl pinL ⟨#[]⟩ ⟨#[]⟩ [] [] kK_ne)
  generalize payL 30 (fun _ => baseL kC) 1 = I at HI6 HIL HSV ⊢
  clear hb6 hvi HK5
  go_wp2_with fail
  refine (Server_c _ _ _ _ _ ⟨#[]⟩ ⟨#[]⟩ kS pinL [] [] I (by decide) (by simp) (by simp) (by decide) (by decide) (by have := HIL.out; omega) w6 (HR.out.fresh HK6.out.bel) (HT.out.fresh HK6.out.bel) HK6.out.s2 HI6.out).mono ?_
  rintro e w7 ⟨hb7, vr, vk, vh, rfl, hvr, hvk, hvh⟩
  rw [HSV.out] at hvr hvk hvh ⊢
  have HCL := hidden (cli_ok (kc := kC) (ks := kS) rfl rfl pinL ⟨#[]⟩ ⟨#[]⟩ [] [] kK_ne)
  have HCO := hidden (cli_other (kc := kC) (ks := kS) rfl pinL othL ⟨#[]⟩ ⟨#[]⟩ [] [] (secH kC kS pinL ⟨#[]⟩ ⟨#[]⟩ [] []) pins_ne)
  have HRP := hidden (rep_le pinL kS (secH kC kS pinL ⟨#[]⟩ ⟨#[]⟩ [] []))
  have HHL := hidden (secH_len kC kS pinL ⟨#[]⟩ ⟨#[]⟩ [] [])
  simp only at hvr hvk hvh ⊢
  generalize repL pinL (baseL kS) (secH kC kS pinL ⟨#[]⟩ ⟨#[]⟩ [] []) = RP at hvr HCL HCO HRP
  generalize secK kC kS = K at hvk HCL
  generalize secH kC kS pinL ⟨#[]⟩ ⟨#[]⟩ [] [] = H at hvh HCL HHL
  have HK7 := hidden (HK6.out.next hb7)
  have HR7 := hidden hvr
  have HKK7 := hidden hvk
  have HHH7 := hidden hvh
  obtain ⟨ar, cr, rfl⟩ := hvr.len
  obtain ⟨ak, ck, rfl⟩ := hvk.len
  obtain ⟨ah, ch, rfl⟩ := hvh.len
  clear hb7 hvr hvk hvh HI6 HIL HSV q0 q1 q2 q3 q4 q5 HK6
  have hb8 : Below w7.heap.size w7 (w7.alloc (.cells #[.slice ak K.length ck, .slice ah H.length ch] 30)) := (Below.refl _ w7).alloc (Nat.le_refl _) _
  have HK8 := hidden (HK7.out.next hb8)
  have HR8 := hidden (HR7.out.fresh hb8)
  have HKK8 := hidden (HKK7.out.fresh hb8)
  have HHH8 := hidden (HHH7.out.fresh hb8)
  have HX8 : Hid ((w7.alloc (.cells #[.slice ak K.length ck, .slice ah H.length ch] 30)).heap[w7.heap.size]? = some (.cells #[.slice ak K.length ck, .slice ah H.length ch] 30 (0, 0))) := heap_alloc_new w7 _
  obtain ⟨q0, q1, q2, q3, q4, q5⟩ := side_cells HK8.out.r1
  clear hb8 HK7 HR7 HKK7 HHH7
  go_wp2_with fail
  generalize w7.alloc (.cells #[.slice ak K.length ck, .slice ah H.length ch] 30) = w8 at HK8 HR8 HKK8 HHH8 HX8 q0 q1 q2 q3 q4 q5 ⊢
  generalize w7.heap.size = BX at HX8 ⊢
  refine (Client_c _ _ _ _ _ ⟨#[]⟩ ⟨#[]⟩ kC pinL [] [] RP (by decide) (by simp) (by simp) (by decide) (by decide) (by have := HRP.out; omega) w8 (HR.out.fresh HK8.out.bel) (HT.out.fresh HK8.out.bel) HK8.out.s1 HR8.out).mono ?_
  rintro e w9 ⟨hb9, yk, yh, rfl, hyk, hyh⟩
  rw [HCL.out] at hyk hyh ⊢
  simp only at hyk hyh ⊢
  have HYK9 := hidden hyk
  have HYH9 := hidden hyh
  obtain ⟨bk, dk, rfl⟩ := hyk.len
  obtain ⟨bh, dh, rfl⟩ := hyh.len
  have hb10 : Below w9.heap.size w9 (w9.alloc (.cells #[.slice bk K.length dk, .slice bh H.length dh] 30)) := (Below.refl _ w9).alloc (Nat.le_refl _) _
  obtain ⟨w11, hcv, hv11, hb11⟩ := lit_mark (w9.alloc (.cells #[.slice bk K.length dk, .slice bh H.length dh] 30)) [111, 116, 104, 101, 114] (by simp)
  have hsz : (w9.alloc (.cells #[.slice bk K.length dk, .slice bh H.length dh] 30)).heap.size = w9.heap.size + 1 := by simp
  have hb89 := hb9.trans (hb10.mono hb9.size)
  have hb8 := hb89.trans (hb11.mono hb89.size)
  have HX11 : Hid (w11.heap[BX]? = some (.cells #[.slice ak K.length ck, .slice ah H.length ch] 30 (0, 0))) := (hb8.block BX (lt_of_block HX8.out)).trans HX8.out
  have HY11 : Hid (w11.heap[w9.heap.size]? = some (.cells #[.slice bk K.length dk, .slice bh H.length dh] 30 (0, 0))) := row_new w9 _ _ hb11
  have HK11 := hidden (HK8.out.next hb8)
  have HR11 := hidden (HR8.out.fresh hb8)
  have HKK11 := hidden (HKK8.out.fresh hb8)
  have HHH11 := hidden (HHH8.out.fresh hb8)
  have HYK11 := hidden ((HYK9.out.fresh hb10).fresh hb11)
  have HYH11 := hidden ((HYH9.out.fresh hb10).fresh hb11)
  rw [hsz] at hcv hv11
  change (convert 22 22 (.slice (some ⟨w9.heap.size + 1, 0, none⟩) 5 5)).run Tryd.prog ((w9.alloc (.cells #[.slice bk K.length dk, .slice bh H.length dh] 30)).alloc (.cells #[.int .u8 111, .int .u8 116, .int .u8 104, .int .u8 101, .int .u8 114] 5)) = .ok (.slice (some ⟨w9.heap.size + 1, 0, none⟩) 5 5) w11 at hcv
  change BSl w11 (.slice (some ⟨w9.heap.size + 1, 0, none⟩) 5 5) othL at hv11
  have HP11 := hidden hv11
  have HBY : Hid (BX ≠ B1 ∧ w9.heap.size ≠ B1) := by
    refine ⟨fun e => ?_, fun e => ?_⟩
    · have h1 := HX11.out
      rw [e, HK11.out.r1] at h1
      simp [sideA] at h1
    · have h1 := HY11.out
      rw [e, HK11.out.r1] at h1
      simp [sideA] at h1
  clear q0 q1 q2 q3 q4 q5
  obtain ⟨q0, q1, q2, q3, q4, q5⟩ := side_cells HK11.out.r1
  have hfr := frozen_row HK11.out.r1 1
  clear hb9 hb10 hb11 hb89 hb8 hyk hyh hv11 hsz HYK9 HYH9 HK8 HR8 HKK8 HHH8 HX8
  go_wp2_with fail
  have HK12 := hidden (HK11.out.other HLO.out.2 HLO.out.1 (w9.heap.size + 1) 5 othL HP11.out)
  have hks : Keeps (fun k => k = B1) w11 (w11.setCell ⟨B1, 1, none⟩ (.slice (some ⟨w9.heap.size + 1, 0, none⟩) 5 5)) := (Keeps.refl (fun k => k = B1) w11).setCell (p := ⟨B1, 1, none⟩) (.inl rfl) _
  have HX12 : Hid ((w11.setCell ⟨B1, 1, none⟩ (.slice (some ⟨w9.heap.size + 1, 0, none⟩) 5 5)).heap[BX]? = some (.cells #[.slice ak K.length ck, .slice ah H.length ch] 30 (0, 0))) := (hks.block BX (lt_of_block HX11.out) HBY.out.1).trans HX11.out
  have HY12 : Hid ((w11.setCell ⟨B1, 1, none⟩ (.slice (some ⟨w9.heap.size + 1, 0, none⟩) 5 5)).heap[w9.heap.size]? = some (.cells #[.slice bk K.length dk, .slice bh H.length dh] 30 (0, 0))) := (hks.block _ (lt_of_block HY11.out) HBY.out.2).trans HY11.out
  have HR12 := hidden (HR11.out.sideSet HK11.out.r1 1 (.slice (some ⟨w9.heap.size + 1, 0, none⟩) 5 5))
  have HKK12 := hidden (HKK11.out.sideSet HK11.out.r1 1 (.slice (some ⟨w9.heap.size + 1, 0, none⟩) 5 5))
  have HHH12 := hidden (HHH11.out.sideSet HK11.out.r1 1 (.slice (some ⟨w9.heap.size + 1, 0, none⟩) 5 5))
  have HYK12 := hidden (HYK11.out.sideSet HK11.out.r1 1 (.slice (some ⟨w9.heap.size + 1, 0, none⟩) 5 5))
  have HYH12 := hidden (HYH11.out.sideSet HK11.out.r1 1 (.slice (some ⟨w9.heap.size + 1, 0, none⟩) 5 5))
  clear q0 q1 q2 q3 q4 q5 hfr hks hcv HX11 HY11 HK11 HR11 HKK11 HHH11 HYK11 HYH11 HP11 HBY
  generalize w11.setCell ⟨B1, 1, none⟩ (.slice (some ⟨w9.heap.size + 1, 0, none⟩) 5 5) = w12 at HK12 HX12 HY12 HR12 HKK12 HHH12 HYK12 HYH12 ⊢
  generalize w9.heap.size + 1 = P3 at HK12 ⊢
  generalize w9.heap.size = BY at HY12 ⊢
  refine (Client_c _ _ _ _ _ ⟨#[]⟩ ⟨#[]⟩ kC othL [] [] RP (by decide) (by simp) (by simp) (by decide) (by decide) (by have := HRP.out; omega) w12 (HR.out.fresh HK12.out.bel) (HT.out.fresh HK12.out.bel) HK12.out.s1 HR12.out).mono ?_
  rintro e w13 ⟨hb13, zk, zh, rfl, hzk, hzh⟩
  rw [HCO.out] at hzk hzh ⊢
  simp only at hzk hzh ⊢
  obtain ⟨fk, lk, rfl⟩ := hzk.nil
  obtain ⟨fh, lh, rfl⟩ := hzh.nil
  have hb14 : Below w13.heap.size w13 (w13.alloc (.cells #[.slice fk 0 lk, .slice fh 0 lh] 30)) := (Below.refl _ w13).alloc (Nat.le_refl _) _
  have hb := hb13.trans (hb14.mono hb13.size)
  have hx0 : (w13.alloc (.cells #[.slice fk 0 lk, .slice fh 0 lh] 30)).heap[BX]? = _ := (hb.block BX (lt_of_block HX12.out)).trans HX12.out
  have hy0 : (w13.alloc (.cells #[.slice fk 0 lk, .slice fh 0 lh] 30)).heap[BY]? = _ := (hb.block BY (lt_of_block HY12.out)).trans HY12.out
  obtain ⟨x0, x1⟩ := cells2 hx0
  obtain ⟨y0, y1⟩ := cells2 hy0
  obtain ⟨SK, hSK⟩ : ∃ S : ByteArray, S = ⟨K.toArray⟩ := ⟨_, rfl⟩
  obtain ⟨SH, hSH⟩ : ∃ S : ByteArray, S = ⟨H.toArray⟩ := ⟨_, rfl⟩
  have c1 := run_str (HKK12.out.fresh hb) hSK
  have c2 := run_str (HYK12.out.fresh hb) hSK
  have c3 := run_str (HHH12.out.fresh hb) hSH
  have c4 := run_str (HYH12.out.fresh hb) hSH
  have HB14 := hidden ((HK12.out.next hb).bel)
  have hhl := HHL.out
  rw [hhl] at x1 y1 c3 c4
  clear hb13 hb14 hb hx0 hy0 hzk hzh HX12 HY12 HR12 HKK12 HHH12 HYK12 HYH12 HK12 hSK hSH hhl HHL HCO HCL
  go_wp2_with fail
  go_ret
  exact ⟨rfl, HB14.out⟩
end Go.Proofs.YtookapglookphaaDoor
