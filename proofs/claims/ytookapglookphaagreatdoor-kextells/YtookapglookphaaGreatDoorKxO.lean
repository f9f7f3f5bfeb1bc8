/- The document's Init and Keys. -/
import Derived.Test.YtookapglookphaaGreatDoorKxU
namespace Go.Proofs.YtookapglookphaaGreatDoor
open Go Go.RowKit

/-- What the document's Init tells. -/
def RIniPost (w : World) (o : Int × List UInt8) (e : Ending) (w' : World) : Prop :=
  Below w.heap.size w w' ∧ ∃ v, e = .returned (.tuple #[v, .int .i64 o.1]) ∧ w'.ownsRow w.heap.size 5 1 v o.2.length (bcells o.2)
set_option maxHeartbeats 800000 in
set_option maxRecDepth 100000 in
theorem rInit_c (v1 : Value) (k : List UInt8) (w : World) (h1 : BSl w v1 k) :
    Calls Tryz.prog 8 #[v1] w (RIniPost w (iniO k)) := by
  have HM := hidden (rBase_c v1 k w h1)
  obtain ⟨a1, c1, rfl⟩ := h1.len
  obtain ⟨o, ho⟩ : ∃ o, o = iniO k := ⟨_, rfl⟩
  rw [← ho]
  by_cases hk : k.length = 32
  · have HO : Hid (o = (0, payL 30 (fun _ => baseL k) 1)) := by show _ = _; rw [ho, iniO, if_pos hk]
    have HK := hidden hk
    rw [show mulL k nineL = baseL k from rfl] at HM
    have HL := hidden (baseL_length k)
    generalize baseL k = M at HM HO HL
    clear h1 ho hk
    go_enter Tryz.func8, Tryz.ntmps8
    go_wp2_with fail
    refine HM.out.mono ?_
    intro e w1 ht
    obtain ⟨am, cm, rfl, hm⟩ := ht.y HK.out
    have HB1 := hidden ht.b
    have hlc : Below w1.heap.size w1 (w1.alloc (.cells (bcells [30]).toArray 5)) := (Below.refl _ w1).alloc (Nat.le_refl _) _
    have HLit := hidden (bsl_lit w1 [30] (by simp))
    obtain ⟨S1, hS1, hS1l, hS1z⟩ : ∃ S : ByteArray, S = ⟨M.toArray⟩ ∧ S.data.toList = M ∧ S.size = 32 := ⟨_, rfl, rfl, by rw [size_list, HL.out]⟩
    have hc1 := run_strK (hm.fresh hlc) hS1
    have HTx1 := hidden (rtext_c S1 (by omega) _ [30] _ HLit.out (by simp; omega))
    rw [hS1l] at HTx1
    change Hid (Calls Tryz.prog 24 #[.slice (some ⟨w1.heap.size, 0, none⟩) 1 1, .string S1] (w1.alloc (.cells #[.int .u8 30] 5)) _) at HTx1
    change (convert 22 9 (.slice am 32 cm)).run Tryz.prog (w1.alloc (.cells #[.int .u8 30] 5)) = .ok (.string S1) (w1.alloc (.cells #[.int .u8 30] 5)) at hc1
    have HLC := hidden hlc
    clear hS1 hS1l hS1z hlc hm ht
    go_wp2_with fail
    refine HTx1.out.mono ?_
    rintro e wd hfd
    obtain ⟨vd, rfl, hod, hbd⟩ := Fresh.next HB1.out (Fresh.next HLC.out hfd)
    have HOd := hidden hod
    have HBd := hidden hbd
    have HE : Hid ([30] ++ textBytes M = payL 30 (fun _ => M) 1) := by show _ = _; simp [payL, joinTo]
    clear hod hbd hfd HLC HTx1 HLit hc1
    go_wp2_with fail
    go_ret2
    refine ⟨HBd.out, vd, by rw [HO.out]; rfl, ?_⟩
    rw [HO.out, ← HE.out]
    exact HOd.out
  · have HO : Hid (o = (1, [])) := by show _ = _; rw [ho, iniO, if_neg hk]
    have HK := hidden hk
    clear h1 ho hk
    generalize mulL k nineL = M at HM
    go_enter Tryz.func8, Tryz.ntmps8
    go_wp2_with fail
    refine HM.out.mono ?_
    intro e w1 ht
    obtain rfl := ht.n HK.out
    have HB1 := hidden ht.b
    clear ht HM
    go_wp2_with fail
    go_ret2
    exact ⟨HB1.out, .slice none 0 0, by rw [HO.out]; rfl, by rw [HO.out]; exact World.ownsRow_nil _ _ _ _⟩
set_option maxHeartbeats 800000 in
set_option maxRecDepth 100000 in
theorem rKeys_c (vk vh vi : Value) (K H id : List UInt8) (hk : K.length ≤ 1000) (hh : H.length ≤ 1000) (hi : id.length ≤ 1000) (w : World) (h1 : BSl w vk K) (h2 : BSl w vh H) (h3 : BSl w vi id) :
    Calls Tryz.prog 17 #[.agg #[vk, vh], vi] w fun e w' => Below w.heap.size w w' ∧ ∃ v1 v2, e = .returned (.tuple #[v1, v2]) ∧ BSl w' v1 (deriveL K H 67 id 32) ∧ BSl w' v2 (deriveL K H 68 id 32) := by
  have HDc : Hid (∀ (letter : UInt8) (wx : World), Below w.heap.size w wx → Calls Tryz.prog 41 #[vk, vh, .int .u8 letter.toNat, vi, .int .i64 32] wx fun e w' => DTold wx K H letter id 32 e w') := fun letter wx hb => rDerive_c vk vh vi K H id letter 32 (by omega) (by omega) (by omega) wx (h1.fresh hb) (h2.fresh hb) (h3.fresh hb)
  obtain ⟨a1, c1, rfl⟩ := h1.len
  obtain ⟨a2, c2, rfl⟩ := h2.len
  obtain ⟨a3, c3, rfl⟩ := h3.len
  clear h1 h2 h3 hk hh hi
  go_enter Tryz.func17, Tryz.ntmps17
  go_wp2_with fail
  obtain ⟨w1, hw1⟩ : ∃ x, x = w.alloc (.cells #[.slice a1 K.length c1, .slice a2 H.length c2] 38) := ⟨_, rfl⟩
  rw [← hw1]
  have HB1 : Hid (Below w.heap.size w w1) := by rw [hw1]; exact (Below.refl _ w).alloc (Nat.le_refl _) _
  have hc0 : ∀ wx, Below w1.heap.size w1 wx → wx.cell? ⟨w.heap.size, 0, none⟩ = some (.slice a1 K.length c1) ∧ wx.cell? ⟨w.heap.size, 1, none⟩ = some (.slice a2 H.length c2) := fun wx hx => ⟨cell_kept (by rw [hw1]; simp) hx, cell_kept (by rw [hw1]; simp) hx⟩
  have HC0 := hidden hc0
  clear hw1 hc0
  refine (HDc.out 67 w1 HB1.out).mono ?_
  rintro e w2 ⟨hb2, ht2⟩
  obtain ⟨v2, rfl, hv2⟩ : ∃ v2, e = .returned (.tuple #[v2, .int .i64 0]) ∧ BSl w2 v2 (deriveL K H 67 id 32) := by
    rcases ht2 with ⟨_, _, v, h1, h2⟩ | ⟨h, _⟩
    · exact ⟨v, h1, h2⟩
    · omega
  have HV2 := hidden hv2
  have HB2 := hidden (HB1.out.trans (hb2.mono HB1.out.size))
  obtain ⟨q0, q1⟩ := HC0.out w2 hb2
  clear ht2 hv2 hb2
  go_wp2_with fail
  refine (HDc.out 68 w2 HB2.out).mono ?_
  rintro e w3 ⟨hb3, ht3⟩
  obtain ⟨v3, rfl, hv3⟩ : ∃ v3, e = .returned (.tuple #[v3, .int .i64 0]) ∧ BSl w3 v3 (deriveL K H 68 id 32) := by
    rcases ht3 with ⟨_, _, v, h1, h2⟩ | ⟨h, _⟩
    · exact ⟨v, h1, h2⟩
    · omega
  have HV3 := hidden hv3
  have HV2' := hidden (HV2.out.fresh hb3)
  have HB3 := hidden (HB2.out.trans (hb3.mono HB2.out.size))
  clear ht3 hv3 hb3 q0 q1 HV2
  go_wp2
  go_ret2
  exact ⟨HB3.out, v2, v3, rfl, HV2'.out, HV3.out⟩
end Go.Proofs.YtookapglookphaaGreatDoor
