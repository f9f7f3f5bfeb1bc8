/- Slices of byte slices, and the payloads that a law makes of them. -/
import Derived.Test.YthkaibkmpenclaaDoorPk2
namespace Go.Proofs.YthkaibkmpenclaaDoor
open Go Go.RowKit

/-- A slice of n byte slices. -/
def LSl (w : World) (v : Value) (n : Nat) : Prop :=
  ∃ ao cap, v = .slice ao n cap ∧ n ≤ cap ∧ cap ≤ maxLen ∧ ∀ j, j < n → ∃ b off, ao = some ⟨b, off, none⟩ ∧ ∃ u us, w.cell? ⟨b, off + j, none⟩ = some u ∧ BSl w u us
/-- A row of byte slices of one's own, made since W, whose bytes lay in W already. -/
structure PLs (W w : World) (v : Value) (ps : List (List UInt8)) : Prop where
  ex : ∃ vs : List Value, vs.length = ps.length ∧ w.ownsRow W.heap.size 22 1 v ps.length vs ∧ ∀ i, i < ps.length → BSl W (vs.getD i undef) (ps.getD i [])
  each : ∀ i, i < ps.length → 1 ≤ (ps.getD i []).length ∧ (ps.getD i []).length ≤ 200
  few : ps.length ≤ 12
theorem Tryd.infoBs : (Tryd.prog.info? 22).map (fun i => (i.zero, i.size, i.bytes)) = some (some (.slice none 0 0), 1, 24) := by kernel_rfl
theorem srcSl {W : World} {B : Nat} {ao : Option Addr} {n c : Nat} (hb : W.heap[B]? = some (.cells #[.slice ao n c] 22 (0, 0))) : Src Tryd.prog 1 38 (.slice (some ⟨B, 0, none⟩) 1 1) 1 [.slice ao n c] W :=
  Src.ofSlice _ Tryd.underlying38 ⟨B, 0, none⟩ 1 1 [.slice ao n c] rfl (World.news_of_block (cs := #[.slice ao n c]) (t := 22) (fr := (0, 0)) hb) (by intro u hu; simp at hu; subst hu; rfl)
theorem PLs.keep {S : Nat → Prop} {W w w' : World} {v : Value} {ps : List (List UInt8)} (h : PLs W w v ps) (hk : Keeps S w w') (hn : ∀ k, v.ownBlock = some k → ¬ S k) : PLs W w' v ps := by
  obtain ⟨⟨vs, h1, h2, h3⟩, h4, h5⟩ := h
  exact ⟨⟨vs, h1, hk.row h2 hn, h3⟩, h4, h5⟩
theorem PLs.fresh {W w w' : World} {v : Value} {ps : List (List UInt8)} (h : PLs W w v ps) (hb : Below w.heap.size w w') : PLs W w' v ps := h.keep (Keeps.ofFresh (S := fun _ => False) hb) (fun _ _ h => h)
theorem PLs.at {W w : World} {v : Value} {ps : List (List UInt8)} (h : PLs W w v ps) (hb : Below W.heap.size W w) (i : Nat) (hi : i < ps.length) : ∃ g cap u, v = .slice (some ⟨g, 0, none⟩) ps.length cap ∧ w.cell? ⟨g, i, none⟩ = some u ∧ BSl w u (ps.getD i []) ∧ ps.length ≤ cap ∧ cap ≤ maxLen := by
  obtain ⟨⟨vs, h1, h2, h3⟩, h4, h5⟩ := h
  rcases h2.2 with ⟨_, e⟩ | ⟨g, cap, cur, rfl, k1, k2, k3, k4, k5, k6⟩
  · omega
  · have hc := h2.cells (g := g) rfl i (vs.getD i undef) (by simp [List.getElem?_eq_getElem (show i < vs.length by omega)])
    rw [add_lit', Nat.zero_add] at hc
    exact ⟨g, cap, _, rfl, hc, (h3 i hi).fresh hb, by omega, k4⟩
theorem PLs.shape {W w : World} {v : Value} {ps : List (List UInt8)} (h : PLs W w v ps) : ∃ ao cap, v = .slice ao ps.length cap := by
  obtain ⟨⟨vs, h1, h2, h3⟩, h4, h5⟩ := h
  exact ownsRow_shape h2
theorem PLs.lt {W w : World} {v : Value} {ps : List (List UInt8)} (h : PLs W w v ps) : ∀ k, v.ownBlock = some k → W.heap.size ≤ k ∧ k < w.heap.size := by
  obtain ⟨⟨vs, h1, h2, h3⟩, h4, h5⟩ := h
  exact h2.lt
set_option maxHeartbeats 800000 in
set_option maxRecDepth 100000 in
theorem payloads_c (v : Value) (n : Nat) (w : World) (hv : LSl w v n) :
    Calls Tryd.prog 26 #[v] w fun e w' => ∃ v' ps, e = .returned v' ∧ PLs w w' v' ps ∧ Below w.heap.size w w' := by
  obtain ⟨i0, hi, hz0, hz1, hz2⟩ := info_parts Tryd.infoBs
  obtain ⟨ao, cap, rfl, hc1, hc2, hc⟩ := hv
  unfold maxLen at hc2
  have HCC := hidden hc
  clear hc
  go_enter Tryd.func26, Tryd.ntmps26
  go_wp2_with fail
  go_loopw [3, 4] (fun o i wr => ∃ (j : Nat) (ps : List (List UInt8)), j ≤ n ∧ j ≤ 12 ∧ ps.length ≤ j ∧ i = .int .i64 (j : Int) ∧ PLs w wr o ps ∧ Below w.heap.size w wr) (fun _ i _ => 12 - (intOf i).toNat)
  case atStart => exact ⟨0, [], by omega, by omega, by simp, rfl, ⟨⟨[], rfl, World.ownsRow_nil _ _ _ _, fun i hi => by simp at hi⟩, fun i hi => by simp at hi, by simp⟩, Below.refl _ _⟩
  case round =>
    obtain ⟨j, ps, hj, hj12, hps, rfl, hp, hb⟩ := hrel
    have HP := hidden hp
    have HB := hidden hb
    have HPS := hidden hps
    obtain ⟨ap, cp, rfl⟩ := hp.shape
    have hsz : w.heap.size ≤ wr.heap.size := hb.size
    clear hp hb hps
    by_cases hlt : j < n
    · have hlt' : (j : Int) < (n : Int) := by omega
      by_cases h12 : j < 12
      · have h12' : (j : Int) < 12 := by omega
        obtain ⟨b, off, e, u, us, hcell, hbs⟩ := HCC.out j hlt
        subst e
        have hcell' := cell_kept hcell HB.out
        obtain ⟨au, cu, rfl⟩ := hbs.len
        have HBS := hidden hbs
        clear hbs hcell
        by_cases hz : us.length = 0
        · have hz1' : ¬ (0 : Int) < (us.length : Int) := by omega
          go_wp2
          go_roundw
          case rel => exact ⟨j + 1, ps, by omega, by omega, by have := HPS.out; omega, by go_num, HP.out, HB.out⟩
          case measure => simp [intOf]; omega
        · have hz1' : (0 : Int) < (us.length : Int) := by omega
          have HCUT := hidden (cut_c 200 (by omega) (.slice au us.length cu) us wr (HBS.out.fresh HB.out))
          have HCUT0 := hidden (cut_c 200 (by omega) (.slice au us.length cu) us w HBS.out)
          go_wp2_with fail
          refine HCUT.out.mono ?_
          rintro e w2 ⟨v2, rfl, hb2, hob, hw2⟩
          subst hw2
          have hbW : BSl w v2 (us.take 200) := by
            obtain ⟨a2, c2, h1, h2, h3, h4, h5⟩ := hb2
            refine ⟨a2, c2, h1, h2, h3, h4, fun ad e hne => ?_⟩
            obtain ⟨bb, oo, e1, hcc⟩ := h5 ad e hne
            refine ⟨bb, oo, e1, fun q x hx => ?_⟩
            have hlt3 : bb < w.heap.size := by
              subst h1
              subst e
              subst e1
              have : us ≠ [] := by rintro rfl; simp at hz
              obtain ⟨b3, o3, c3, e3, hlt3⟩ := HBS.out.nonnil this
              rw [e3] at hob
              simp [Value.ownBlock] at hob
              omega
            rw [← hcc q x hx]
            exact (World.cell?_of_block (HB.out.block bb hlt3)).symm
          obtain ⟨a2, c2, rfl⟩ := hb2.len
          obtain ⟨vs, k1, k2, k3⟩ := HP.out.ex
          have hl2 : (us.take 200).length ≤ 200 ∧ 1 ≤ (us.take 200).length := by rw [List.length_take]; omega
          have HE : Hid (BSl w (.slice a2 (us.take 200).length c2) (us.take 200)) := hbW
          generalize us.take 200 = q at HE hl2 ⊢
          generalize hql : q.length = ql at HE ⊢
          have HQL := hidden hql
          have HLL := hidden hl2
          have K2 := hidden k2
          have K1 := hidden k1
          have K3 := hidden k3
          have hpl : ps.length ≤ 12 := by have := HPS.out; omega
          clear hb2 hbW k1 k2 k3 hl2 hql HCUT HCUT0 hob
          go_wp2_with (refine wpList_append_src _ rfl (.tmp 21) (.tmp 27) 38 38 rfl w.heap.size 22 i0 _ 24 Tryd.underlying38 hi hz0 hz1 hz2 rfl (.slice ap ps.length cp) ps.length vs rfl (K2.out.alloc _) _ 1 _ rfl (srcSl (heap_alloc_new _ _)) (by unfold maxLen; omega) (by omega) (by simp; omega) _ rfl ?_)
          intro v' w9 hown hgrow hnil hat
          have hb9 : Below w.heap.size w w9 := (HB.out.alloc hsz _).grown hgrow (by simp; omega) (fun k hk => (K2.out.lt k hk).1)
          have HB9 := hidden hb9
          have HP9 : Hid (PLs w w9 v' (ps ++ [q])) := by
            refine ⟨⟨vs ++ [.slice a2 ql c2], by have := K1.out; simp; omega, by simpa using hown, fun i hi => ?_⟩, fun i hi => ?_, by have := HPS.out; simp; omega⟩
            · by_cases e : i < ps.length
              · have h1 := K3.out i e
                have h2 := K1.out
                simp only [List.getD_eq_getElem?_getD] at h1 ⊢
                rw [List.getElem?_append_left (by omega), List.getElem?_append_left (by omega)]
                exact h1
              · obtain rfl : i = ps.length := by simp at hi; omega
                have h2 := K1.out
                simp only [List.getD_eq_getElem?_getD]
                rw [← h2, List.getElem?_append_right (Nat.le_refl _), h2, List.getElem?_append_right (Nat.le_refl _)]
                simpa using HE.out
            · by_cases e : i < ps.length
              · have h1 := HP.out.each i e
                simp only [List.getD_eq_getElem?_getD] at h1 ⊢
                rw [List.getElem?_append_left (by omega)]
                exact h1
              · obtain rfl : i = ps.length := by simp at hi; omega
                simp only [List.getD_eq_getElem?_getD]
                rw [List.getElem?_append_right (Nat.le_refl _)]
                have := HLL.out
                have := HQL.out
                simp
                omega
          clear hown hgrow hnil hat hb9
          go_wp2
          go_roundw
          case rel => exact ⟨j + 1, ps ++ [q], by omega, by omega, by have := HPS.out; simp; omega, by go_num, HP9.out, HB9.out⟩
          case measure => simp [intOf]; omega
      · have h12' : ¬ (j : Int) < 12 := by omega
        go_wp2
        go_ret
        exact ⟨_, rfl, ⟨_, HP.out⟩, HB.out⟩
    · have hlt' : ¬ (j : Int) < (n : Int) := by omega
      go_wp2
      go_ret
      exact ⟨_, rfl, ⟨_, HP.out⟩, HB.out⟩
end Go.Proofs.YthkaibkmpenclaaDoor
