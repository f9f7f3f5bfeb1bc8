/- The last taking away. -/
import Derived.Test.YthkaibkmpenclaaDoorPoE
namespace Go.Proofs.YthkaibkmpenclaaDoor
open Go Go.RowKit

/-- What reduce leaves. -/
def upL (L : List Nat) : List Nat := L.set 0 (L.getD 0 0 + 5)
def redM (L : List Nat) : List Nat := L.set 0 (L.getD 0 0 + 5 * (cyTo (upL L) 5).2)
def redL (L : List Nat) : List Nat := (cyTo (redM L) 5).1
/-- Limbs that times or nothing made. -/
def Made (L : List Nat) : Prop := L.length = 5 ∧ L.getD 0 0 ≤ 67108868 ∧ (∀ i, i < 5 → L.getD i 0 ≤ 67108868) ∧ V5 L < 1361129467683753853853498429727072845824
theorem red_val {L : List Nat} (h : Made L) : (cyTo (upL L) 5).2 ≤ 1 ∧ Carried (redL L) ∧ V5 (redL L) = V5 L % pP := by
  obtain ⟨h5, h0, hb, hV⟩ := h
  obtain ⟨a, b, c, d, e, rfl⟩ := list5 h5
  obtain ⟨a1, b1, c1, d1, e1, o1, h1, m1, m2, m3, m4, m5, h6⟩ := cy_list (a + 5) b c d e
  have hu : upL [a, b, c, d, e] = [a + 5, b, c, d, e] := rfl
  rw [V5_list] at hV
  rw [V5_list, V5_list] at h6
  have e1' : (cyTo (upL [a, b, c, d, e]) 5).2 = o1 := by rw [hu, h1]
  have hm : redM [a, b, c, d, e] = [a + 5 * o1, b, c, d, e] := by
    unfold redM
    rw [e1']
    rfl
  obtain ⟨a2, b2, c2, d2, e2, o2, h2, k1, k2, k3, k4, k5, k6⟩ := cy_list (a + 5 * o1) b c d e
  have hr : redL [a, b, c, d, e] = [a2, b2, c2, d2, e2] := by
    unfold redL
    rw [hm, h2]
  rw [V5_list, V5_list] at k6
  have ho1 : o1 ≤ 1 := by omega
  rw [e1', hr, V5_list, V5_list]
  refine ⟨ho1, ⟨rfl, fun i hi => ?_⟩, ?_⟩
  · match i, hi with
    | 0, _ => exact k1
    | 1, _ => exact k2
    | 2, _ => exact k3
    | 3, _ => exact k4
    | 4, _ => exact k5
  · obtain ⟨T, hT⟩ : ∃ T, T = a + 67108864 * b + 4503599627370496 * c + 302231454903657293676544 * d + 20282409603651670423947251286016 * e := ⟨_, rfl⟩
    obtain ⟨X1, hX1⟩ : ∃ T, T = a1 + 67108864 * b1 + 4503599627370496 * c1 + 302231454903657293676544 * d1 + 20282409603651670423947251286016 * e1 := ⟨_, rfl⟩
    obtain ⟨X2, hX2⟩ : ∃ T, T = a2 + 67108864 * b2 + 4503599627370496 * c2 + 302231454903657293676544 * d2 + 20282409603651670423947251286016 * e2 := ⟨_, rfl⟩
    have q1 : X1 + 1361129467683753853853498429727072845824 * o1 = T + 5 := by omega
    have q2 : X2 + 1361129467683753853853498429727072845824 * o2 = T + 5 * o1 := by omega
    have q3 : X1 < 1361129467683753853853498429727072845824 := by omega
    have q4 : X2 < 1361129467683753853853498429727072845824 := by omega
    have q5 : T < 1361129467683753853853498429727072845824 := by omega
    rw [← hT, ← hX2]
    clear hT hX1 hX2 h6 k6 hV hb h0 e1' hm hr h1 h2 hu
    unfold pP
    rcases (show o1 = 0 ∨ o1 = 1 by omega) with rfl | rfl
    · omega
    · omega
set_option maxHeartbeats 800000 in
set_option maxRecDepth 100000 in
theorem reduce_c (g : Nat) (L : List Nat) (hL : Made L) (w : World) (h : NB .u64 w g 103 L) :
    Calls Tryd.prog 76 #[.pointer (some ⟨g, 0, none⟩)] w fun e w' => e = .returned (.tuple #[]) ∧ NB .u64 w' g 103 (redL L) ∧ Keeps (fun k => k = g) w w' := by
  have hl5 := hL.1
  have h0 := hL.2.1
  have hb5 := hL.2.2.1
  have ho := (red_val hL).1
  have hg := h.lt
  have H := hidden h
  have hsz := size_num hl5
  have hone := one_num L
  have hss : 5 = (ncells .u64 L).toArray.size := by rw [List.size_toArray, ncells_length, hl5]
  have hpp : w.heap[g]? = some (.cells (ncells .u64 L).toArray 103 (0, 0)) := h
  generalize hRe : (ncells .u64 L).toArray = R at hsz hone hss hpp
  have HRE := hidden hRe
  have HSZ := hidden hsz
  have HON := hidden hone
  have HSS := hidden hss
  have HPP := hidden hpp
  have HO := hidden ho
  have HB := hidden hb5
  clear hRe hsz hone hss hpp h hL ho hb5
  go_enter Tryd.func76, Tryd.ntmps76
  go_upto_region 1 with (first
    | (refine wpList_loadRow rfl 103 (.tmp 5) rfl g R 103 (0, 0) 5 27 rfl HPP.out Tryd.underlying103 HSZ.out ?_)
    | (refine wpList_store_row rfl 103 (.tmp 2) (.tmp 6) rfl w.heap.size R rfl rfl 103 _ (heap_alloc_new w _) HSZ.out HSS.out HON.out ?_))
  rw [World.setRow_alloc_new]
  have hu : NB .u64 (w.alloc (.cells R 103)) w.heap.size 103 L := by unfold NB; rw [HRE.out]; exact heap_alloc_new w _
  have hk1 : Keeps (fun k => k = g) w (w.alloc (.cells R 103)) := (Keeps.refl _ w).alloc _
  have hn1 : NB .u64 (w.alloc (.cells R 103)) g 103 L := H.out.keep (S := fun _ => False) ((Keeps.refl _ w).alloc _) (fun h => h)
  generalize w.alloc (.cells R 103) = w1 at hu hk1 hn1 ⊢
  generalize hGe : w.heap.size = G at hu hg ⊢
  have HGE := hidden hGe
  have hcu := hu.cell 0 (by omega)
  have hfu := hu.frozen 0
  have HU := hidden hu
  have HK1 := hidden hk1
  have HN1 := hidden hn1
  clear hu hk1 hn1 HPP HSZ HON HSS HRE H hGe
  obtain ⟨s, hs⟩ : ∃ s, s = L.getD 0 0 + 5 := ⟨_, rfl⟩
  have HUL : Hid (upL L = L.set 0 s) := by rw [hs]; rfl
  have hs2 : ((L.getD 0 0 : Nat) : Int) + 5 = (s : Int) := by omega
  have hsb : s ≤ 67108873 := by omega
  generalize hx0 : L.getD 0 0 = x at hcu hs2
  have HX0 := hidden hx0
  clear hx0 hs
  go_wp2_with fail
  have hu2 : NB .u64 (w1.setCell ⟨G, 0, none⟩ (.int .u64 (s : Int))) G 103 (upL L) := by rw [HUL.out]; exact HU.out.set 0 s
  have hsm : ∀ i, i < 5 → (upL L).getD i 0 ≤ 1152921504606846976 := by
    intro i hi
    rw [HUL.out, getD_set]
    split
    · omega
    · exact Nat.le_trans (HB.out i hi) (by omega)
  have hk2 : Keeps (fun k => k = G) w1 (w1.setCell ⟨G, 0, none⟩ (.int .u64 (s : Int))) := (Keeps.refl (fun k => k = G) w1).setCell (p := ⟨G, 0, none⟩) (.inl rfl) _
  have hn2 := HN1.out.keep hk2 (by omega)
  have HKG : Hid (∀ {wa wb : World}, w.heap.size ≤ wa.heap.size → Keeps (fun k => k = G) wa wb → Keeps (fun k => k = g) w wa → Keeps (fun k => k = g) w wb) := by
    intro wa wb hs hab hwa
    have hG := HGE.out
    exact ⟨hab.os.trans hwa.os, hab.tape.trans hwa.tape, hab.output.trans hwa.output, Nat.le_trans hwa.size hab.size, fun k hk hn => (hab.block k (by omega) (by omega)).trans (hwa.block k hk hn)⟩
  have HK2 := hidden (HKG.out HK1.out.size hk2 HK1.out)
  have hul : (upL L).length = 5 := by rw [HUL.out, List.length_set]; exact hl5
  have HC := hidden (carry_c G (upL L) hul hsm _ hu2)
  have HN2 := hidden hn2
  generalize w1.setCell ⟨G, 0, none⟩ (.int .u64 (s : Int)) = w2 at HC HN2 HK2 ⊢
  clear hu2 hsm hk2 hn2 hul HU HN1 HK1 hcu hfu hs2 hsb HUL
  refine HC.out.mono ?_
  rintro e w3 ⟨rfl, _, hk3⟩
  have HN3 := hidden (HN2.out.keep hk3 (by omega))
  have HK3 := hidden (HKG.out HK2.out.size hk3 HK2.out)
  clear hk3 HC HN2 HK2
  have hc3 := HN3.out.cell 0 (by omega)
  have hf3 := HN3.out.frozen 0
  rw [HX0.out] at hc3 h0
  obtain ⟨o1, ho1⟩ : ∃ o1, o1 = (cyTo (upL L) 5).2 := ⟨_, rfl⟩
  have HRM : Hid (redM L = L.set 0 (x + 5 * o1)) := by show _ = _; unfold redM; rw [HX0.out, ho1]
  have ho1b : o1 ≤ 1 := by rw [ho1]; exact HO.out
  rw [← ho1]
  clear ho1
  obtain ⟨s2, hs2⟩ : ∃ s2, s2 = x + 5 * o1 := ⟨_, rfl⟩
  rw [← hs2] at HRM
  have hs3 : (x : Int) + 5 * (o1 : Int) = (s2 : Int) := by omega
  have hs2b : s2 ≤ 67108873 := by omega
  clear hs2
  go_wp2_with fail
  go_region
  go_wp2_with fail
  have hn4 : NB .u64 (w3.setCell ⟨g, 0, none⟩ (.int .u64 (s2 : Int))).drew g 103 (redM L) := by rw [HRM.out]; exact HN3.out.set 0 s2
  have hk4 : Keeps (fun k => k = g) w (w3.setCell ⟨g, 0, none⟩ (.int .u64 (s2 : Int))).drew := (HK3.out.setCell (p := ⟨g, 0, none⟩) (.inl rfl) _).drew
  have hrl : (redM L).length = 5 := by rw [HRM.out, List.length_set]; exact hl5
  have hsm : ∀ i, i < 5 → (redM L).getD i 0 ≤ 1152921504606846976 := by
    intro i hi
    rw [HRM.out, getD_set]
    split
    · omega
    · exact Nat.le_trans (HB.out i hi) (by omega)
  refine (carry_c g (redM L) hrl hsm _ hn4).mono ?_
  rintro e w5 ⟨rfl, hn5, hk5⟩
  have HN5 : Hid (NB .u64 w5 g 103 (redL L)) := hn5
  have HK5 := hidden (hk4.trans hk5)
  clear hn4 hk4 hrl hsm hn5 hk5 HN3 HK3 hc3 hf3
  go_wp2
  go_end0
  exact ⟨rfl, HN5.out, HK5.out⟩
end Go.Proofs.YthkaibkmpenclaaDoor
