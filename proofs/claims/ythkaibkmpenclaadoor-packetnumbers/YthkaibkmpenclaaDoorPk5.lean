/- Slices of byte slices, and the payloads that a law makes of them. -/
import Derived.Test.YthkaibkmpenclaaDoorPk2
namespace Go.Proofs.YthkaibkmpenclaaDoor
open Go Go.RowKit

/-- A slice of n byte slices. -/
def LSl (w : World) (v : Value) (n : Nat) : Prop :=
  ∃ ao cap, v = .slice ao n cap ∧ n ≤ cap ∧ cap ≤ maxLen ∧ ∀ j, j < n → ∃ b off, ao = some ⟨b, off, none⟩ ∧ ∃ u us, w.cell? ⟨b, off + j, none⟩ = some u ∧ BSl w u us
/-- A row of byte slices of one's own, made since W, whose bytes lay in W already. -/
structure PLs (W w : World) (v : Value) (ps : List (List UInt8)) : Prop where
  ex : ∃ vs : List Value, vs.length = ps.length ∧ w.ownsRow W.heap.size 22 1 v ps.length vs ∧ ∀ i, i < ps.length → BSl W (vs.getD i undef) (ps.getD i [])
  each : ∀ i, i < ps.length → 1 ≤ (ps.getD i []).length ∧ (ps.getD i []).length ≤ 200
  few : ps.length ≤ 12
theorem Tryd.infoBs : (Tryd.prog.info? 22).map (fun i => (i.zero, i.size, i.bytes)) = some (some (.slice none 0 0), 1, 24) := by kernel_rfl
theorem srcSl {W : World} {B : Nat} {ao : Option Addr} {n c : Nat} (hb : W.heap[B]? = some (.cells #[.slice ao n c] 22 (0, 0))) : Src Tryd.prog 1 38 (.slice (some ⟨B, 0, none⟩) 1 1) 1 [.slice ao n c] W :=
  Src.ofSlice _ Tryd.underlying38 ⟨B, 0, none⟩ 1 1 [.slice ao n c] rfl (World.news_of_block (cs := #[.slice ao n c]) (t := 22) (fr := (0, 0)) hb) (by intro u hu; simp at hu; subst hu; rfl)
theorem PLs.keep {S : Nat → Prop} {W w w' : World} {v : Value} {ps : List (List UInt8)} (h : PLs W w v ps) (hk : Keeps S w w') (hn : ∀ k, v.ownBlock = some k → ¬ S k) : PLs W w' v ps := by
  obtain ⟨⟨vs, h1, h2, h3⟩, h4, h5⟩ := h
  exact ⟨⟨vs, h1, hk.row h2 hn, h3⟩, h4, h5⟩
theorem PLs.fresh {W w w' : World} {v : Value} {ps : List (List UInt8)} (h : PLs W w v ps) (hb : Below w.heap.size w w') : PLs W w' v ps := h.keep (Keeps.ofFresh (S := fun _ => False) hb) (fun _ _ h => h)
theorem PLs.at {W w : World} {v : Value} {ps : List (List UInt8)} (h : PLs W w v ps) (hb : Below W.heap.size W w) (i : Nat) (hi : i < ps.length) : ∃ g cap u, v = .slice (some ⟨g, 0, none⟩) ps.length cap ∧ w.cell? ⟨g, i, none⟩ = some u ∧ BSl w u (ps.getD i []) ∧ ps.length ≤ cap ∧ cap ≤ maxLen := by
  obtain ⟨⟨vs, h1, h2, h3⟩, h4, h5⟩ := h
  rcases h2.2 with ⟨_, e⟩ | ⟨g, cap, cur, rfl, k1, k2, k3, k4, k5, k6⟩
  · omega
  · have hc := h2.cells (g := g) rfl i (vs.getD i undef) (by simp [List.getElem?_eq_getElem (show i < vs.length by omega)])
    rw [add_lit', Nat.zero_add] at hc
    exact ⟨g, cap, _, rfl, hc, (h3 i hi).fresh hb, by omega, k4⟩
theorem PLs.shape {W w : World} {v : Value} {ps : List (List UInt8)} (h : PLs W w v ps) : ∃ ao cap, v = .slice ao ps.length cap := by
  obtain ⟨⟨vs, h1, h2, h3⟩, h4, h5⟩ := h
  exact ownsRow_shape h2
theorem PLs.lt {W w : World} {v : Value} {ps : List (List UInt8)} (h : PLs W w v ps) : ∀ k, v.ownBlock = some k → W.heap.size ≤ k ∧ k < w.heap.size := by
  obtain ⟨⟨vs, h1, h2, h3⟩, h4, h5⟩ := h
  exact h2.lt
set_option maxHeartbeats 800000 in
set_option maxRecDepth 100000 in
theorem payloads_c (v : Value) (n : Nat) (w : World) (hv : LSl w v n) :
    Calls Tryd.prog 26 #[v] w fun e w' => ∃ v' ps, e = .returned v' ∧ PLs w w' v' ps ∧ Below w.heap.size w w' := by
  obtain ⟨i0, hi, hz0, hz1, hz2⟩ := info_parts Tryd.infoBs
  obtain ⟨ao, cap, rfl, hc1, hc2, hc⟩ := hv
  unfold maxLen at hc2
  have HCC := hidden hc
  clear hc
  go_enter Tryd.func26, Tryd.ntmps26
  go_wp2_with fail
  go_loopw [3, 4] (fun o i wr => ∃ (j : Nat) (ps : List (List UInt8)), j ≤ n ∧ j ≤ 12 ∧ ps.length ≤ j ∧ i = .int .i64 (j : Int) ∧ PLs w wr o ps ∧ Below w.heap.size w wr) (fun _ i _ => 12 - (intOf i).toNat)
  case atStart => exact ⟨0, [], by omega, by omega, by simp, rfl, ⟨⟨[], rfl, World.ownsRow_nil _ _ _ _, fun i hi => by simp at hi⟩, fun i hi => by simp at hi, by simp⟩, Below.refl _ _⟩
  case round =>
    obtain ⟨j, ps, hj, hj12, hps, rfl, hp, hb⟩ := hrel
    have HP := hidden hp
    have HB := hidden hb
    have HPS := hidden hps
    obtain ⟨ap, cp, rfl⟩ := hp.shape
    have hsz : w.heap.size ≤ wr.heap.size := hb.size
    clear hp hb hps
    by_cases hlt : j < n
    · have hlt' : (j : Int) < (n : Int) := by omega
      by_cases h12 : j < 12
      · have h12' : (j : Int) < 12 := by omega
        obtain ⟨b, off, e, u, us, hcell, hbs⟩ := HCC.out j hlt
        subst e
        have hcell' := cell_kept hcell HB.out
        obtain ⟨au, cu, rfl⟩ := hbs.len
        have HBS := hidden hbs
        clear hbs hcell
        by_cases hz : us.length = 0
        · have hz1' : ¬ (0 : Int) < (us.length : Int) := by omega
          go_wp2
          go_roundw
          case rel => exact ⟨j + 1, ps, by omega, by omega, by have := HPS.out; omega, by go_num, HP.out, HB.out⟩
          case measure => simp [intOf]; omega
        · have hz1' : (0 : Int) < (us.length : Int) := by omega
          have HCUT := hidden (cut_c 200 (by omega) (.slice au us.length cu) us wr (HBS.out.fresh HB.out))
          have HCUT0 := hidden (cut_c 200 (by omega) (.slice au us.length cu) us w HBS.out)
          go_wp2_with fail
          refine HCUT.out.mono ?_
          rintro e w2 ⟨v2, rfl, hb2, hob, hw2⟩
          subst hw2
          have hbW : BSl w v2 (us.take 200) := by
            obtain ⟨a2, c2, h1, h2, h3, h4, h5⟩ := hb2
            refine ⟨a2, c2, h1, h2, h3, h4, fun ad e hne => ?_⟩
            obtain ⟨bb, oo, e1, hcc⟩ := h5 ad e hne
            refine ⟨bb, oo, e1, fun q x hx => ?_⟩
            have hlt3 : bb < w.heap.size := by
              subst h1
              subst e
              subst e1
              have : us ≠ [] := by rintro rfl; simp at hz
              obtain ⟨b3, o3, c3, e3, hlt3⟩ := HBS.out.nonnil this
              rw [e3] at hob
              simp [Value.ownBlock] at hob
              omega
            rw [← hcc q x hx]
            exact (World.cell?_of_block (HB.out.block bb hlt3)).symm
          obtain ⟨a2, c2, rfl⟩ := hb2.len
          obtain ⟨vs, k1, k2, k3⟩ := HP.out.ex
          have hl2 : (us.take 200).length ≤ 200 ∧ 1 ≤ (us.take 200).length := by rw [List.length_take]; omega
          have HE : Hid (BSl w (.slice a2 (us.take 200).length c2) (us.take 200)) := hbW
          generalize us.take 200 = q at HE hl2 ⊢
          generalize hql : q.length = ql at HE ⊢
          have HQL := hidden hql
          have HLL := hidden hl2
          have K2 := hidden k2
          have K1 := hidden k1
          have K3 := hidden k3
          have hpl : ps.length ≤ 12 := by have := HPS.out; omega
          clear hb2 hbW k1 k2 k3 hl2 hql HCUT HCUT0 hob
          go_wp2_with (refine wpList_append_src _ rfl (.tmp 21) (.tmp 27) 38 38 rfl w.heap.size 22 i0 _ 24 Tryd.underlying38 hi hz0 hz1 hz2 rfl (.slice ap ps.length cp) ps.length vs rfl (K2.out.alloc _) _ 1 _ rfl (srcSl (heap_alloc_new _ _)) (by unfold maxLen; omega) (by omega) (by simp; omega) _ rfl ?_)
          intro v' w9 hown hgrow hnil hat
          have hb9 : Below w.heap.size w w9 := (HB.out.alloc hsz _).grown hgrow (by simp; omega) (fun k hk => (K2.out.lt k hk).1)
          have HB9 := hidden hb9
          have HP9 : Hid (PLs w w9 v' (ps ++ [q])) := by
            refine ⟨⟨vs ++ [.slice a2 ql c2], by have := K1.out; simp; omega, by simpa using hown, fun i hi => ?_⟩, fun i hi => ?_, by have := HPS.out; simp; omega⟩
            · by_cases e : i < ps.length
              · have h1 := K3.out i e
                have h2 := K1.out
                simp only [List.getD_eq_getElem?_getD] at h1 ⊢
                rw [List.getElem?_append_left (by omega), List.getElem?_append_left (by omega)]
                exact h1
              · obtain rfl : i = ps.length := by simp at hi; omega
                have h2 := K1.out
                simp only [List.getD_eq_getElem?_getD]
                rw [← h2, List.getElem?_append_right (Nat.le_refl _), h2, List.getElem?_append_right (Nat.le_refl _)]
                simpa using HE.out
            · by_cases e : i < ps.length
              · have h1 := HP.out.each i e
                simp only [List.getD_eq_getElem?_getD] at h1 ⊢
                rw [List.getElem?_append_left (by omega)]
                exact h1
              · obtain rfl : i = ps.length := by simp at hi; omega
                simp only [List.getD_eq_getElem?_getD]
                rw [List.getElem?_append_right (Nat.le_refl _)]
                have := HLL.out
                have := HQL.out
                simp
                omega
          clear hown hgrow hnil hat hb9
          go_wp2
          go_roundw
          case rel => exact ⟨j + 1, ps ++ [q], by omega, by omega, by have := HPS.out; simp; omega, by go_num, HP9.out, HB9.out⟩
          case measure => simp [intOf]; omega
      · have h12' : ¬ (j : Int) < 12 := by omega
        go_wp2
        go_ret
        exact ⟨_, rfl, ⟨_, HP.out⟩, HB.out⟩
    · have hlt' : ¬ (j : Int) < (n : Int) := by omega
      go_wp2
      go_ret
      exact ⟨_, rfl, ⟨_, HP.out⟩, HB.out⟩

/-- The blocks of both ends. -/
def Foot (go gi h k : Nat) : Prop := k = go ∨ k = gi ∨ k = h
/-- An Out at go and an In at gi, made since W; the blocks in K are others'. -/
structure Ends (W w : World) (K : Nat → Prop) (go gi h : Nat) (ko ki : Option Nat) (kyo : List UInt8) (co : Nat) (kyi : List UInt8) (ci : Nat) (xs : List UInt8) (why : Nat) : Prop where
  out : OutS w go ko kyo co
  inn : InS w gi h ki kyi ci xs why
  b : Below W.heap.size W w
  ne : go ≠ gi ∧ go ≠ h ∧ ko ≠ some gi ∧ ko ≠ some h ∧ ki ≠ some go
  lo : W.heap.size ≤ go ∧ W.heap.size ≤ gi ∧ W.heap.size ≤ h
  res : ∀ k, K k → k < w.heap.size ∧ ¬ Foot go gi h k
section
variable {W w : World} {K : Nat → Prop} {go gi h : Nat} {ko ki : Option Nat} {kyo kyi xs : List UInt8} {co ci why : Nat}
theorem Ends.fresh {w' : World} (E : Ends W w K go gi h ko ki kyo co kyi ci xs why) (hb : Below w.heap.size w w') : Ends W w' K go gi h ko ki kyo co kyi ci xs why :=
  ⟨E.out.fresh hb, E.inn.fresh hb, E.b.trans (hb.mono E.b.size), E.ne, E.lo, fun k hk => ⟨Nat.lt_of_lt_of_le (E.res k hk).1 hb.size, (E.res k hk).2⟩⟩
theorem Ends.drewN (E : Ends W w K go gi h ko ki kyo co kyi ci xs why) (n : Nat) : Ends W (w.drewN n) K go gi h ko ki kyo co kyi ci xs why :=
  E.fresh (below_drewN (Below.refl _ w) n)
theorem Ends.more (E : Ends W w K go gi h ko ki kyo co kyi ci xs why) {K' : Nat → Prop} (hK : ∀ k, K' k → k < w.heap.size ∧ ¬ Foot go gi h k) : Ends W w K' go gi h ko ki kyo co kyi ci xs why :=
  ⟨E.out, E.inn, E.b, E.ne, E.lo, hK⟩
theorem Ends.footLt (E : Ends W w K go gi h ko ki kyo co kyi ci xs why) {k : Nat} (hk : Foot go gi h k) : W.heap.size ≤ k ∧ k < w.heap.size := by
  have h1 := E.out.blockLt
  have h2 := E.inn.blockLt
  have h3 := E.lo
  rcases hk with rfl | rfl | rfl <;> omega
theorem Ends.bel {w' : World} (E : Ends W w K go gi h ko ki kyo co kyi ci xs why) (hk : Keeps (Foot go gi h) w w') : Below W.heap.size W w' :=
  E.b.trans (hk.below E.b.size fun _ hf => (E.footLt hf).1)
/-- What others hold stays. -/
theorem Ends.bsl {w' : World} (E : Ends W w K go gi h ko ki kyo co kyi ci xs why) (hk : Keeps (Foot go gi h) w w') {v : Value} {ys : List UInt8} (hv : BSl w v ys) (hK : ∀ k, v.ownBlock = some k → K k) : BSl w' v ys :=
  hv.keep hk fun k e => (E.res k (hK k e)).2
theorem Ends.pls {w' : World} (E : Ends W w K go gi h ko ki kyo co kyi ci xs why) (hk : Keeps (Foot go gi h) w w') {v : Value} {ps : List (List UInt8)} (hv : PLs W w v ps) (hK : ∀ k, v.ownBlock = some k → K k) : PLs W w' v ps :=
  hv.keep hk fun k e => (E.res k (hK k e)).2
theorem ends_new {w1 : World} {w0 : Nat} (hW : Below W.heap.size W w) (ho : OutS w w0 none [] 0) (hlo : W.heap.size ≤ w0) (hi : InS w1 w.heap.size w.heap.size none [] 0 [] 0) (hb : Below w.heap.size w w1) (hK : ∀ k, K k → k < w0) : Ends W w1 K w0 w.heap.size w.heap.size none none [] 0 [] 0 [] 0 := by
  have h1 := ho.blockLt
  have h2 := hW.size
  refine ⟨ho.fresh hb, hi, hW.trans (hb.mono hW.size), ⟨by omega, by omega, by simp, by simp, by simp⟩, ⟨hlo, h2, h2⟩, fun k hk => ⟨?_, ?_⟩⟩
  · have := hK k hk; have := hb.size; omega
  · have := hK k hk; rintro (rfl | rfl | rfl) <;> omega
theorem ends_packet (E : Ends W w K go gi h ko ki kyo co kyi ci xs why) (hcl : Cl W) (v : Value) (p : List UInt8) (hv : BSl w v p) (h1 : 1 ≤ p.length) (hp : p.length ≤ 9000) (hc : co + 1 ≤ 1000000) :
    Calls Tryd.prog 11 #[.pointer (some ⟨go, 0, none⟩), v] w fun e w' => ∃ v', e = .returned (.tuple #[v', .int .i64 0]) ∧ w'.ownsRow w.heap.size 5 1 v' (packetL kyo co p).length (bcells (packetL kyo co p)) ∧ Ends W w' K go gi h ko ki kyo (co + 1) kyi ci xs why ∧ Keeps (Foot go gi h) w w' := by
  refine (packet_c v p w E.out (hcl.fresh E.b) hv h1 hp hc).mono ?_
  rintro e w' ⟨v', rfl, hrow, ho, hk⟩
  have hF : Keeps (Foot go gi h) w w' := hk.mono fun k _ e => .inl e
  obtain ⟨n1, n2, n3, n4, n5⟩ := E.ne
  exact ⟨v', rfl, hrow, ⟨ho, E.inn.keep hk (fun e => n1 e.symm) (fun e => n2 e.symm) (fun k e e2 => n5 (by rw [e, e2])), E.bel hF, E.ne, E.lo, fun k hk => ⟨Nat.lt_of_lt_of_le (E.res k hk).1 hF.size, (E.res k hk).2⟩⟩, hF⟩
theorem ends_okeys (E : Ends W w K go gi h ko ki kyo co kyi ci xs why) (v : Value) (ks : List UInt8) (hv : BSl w v ks) (hl : ks.length = 32) :
    Calls Tryd.prog 12 #[.pointer (some ⟨go, 0, none⟩), v] w fun e w' => e = .returned (.int .i64 0) ∧ ∃ ko', Ends W w' K go gi h ko' ki ks co kyi ci xs why ∧ Keeps (Foot go gi h) w w' := by
  refine (outKeys_c v ks w E.out hv hl).mono ?_
  rintro e w' ⟨rfl, kb, ho, hk, hnew⟩
  have hF : Keeps (Foot go gi h) w w' := hk.mono fun k _ e => .inl e
  obtain ⟨n1, n2, n3, n4, n5⟩ := E.ne
  have hl2 := E.inn.blockLt
  refine ⟨rfl, kb, ⟨ho, E.inn.keep hk (fun e => n1 e.symm) (fun e => n2 e.symm) (fun k e e2 => n5 (by rw [e, e2])), E.bel hF, ⟨n1, n2, fun e => ?_, fun e => ?_, n5⟩, E.lo, fun k hk => ⟨Nat.lt_of_lt_of_le (E.res k hk).1 hF.size, (E.res k hk).2⟩⟩, hF⟩
  · have := hnew _ e; omega
  · have := hnew _ e; omega
/-- Behind a call of the In's. -/
theorem Ends.moved {w' : World} {h' : Nat} {ki' : Option Nat} {kyi' xs' : List UInt8} {ci' why' : Nat} (E : Ends W w K go gi h ko ki kyo co kyi ci xs why) (hi : InS w' gi h' ki' kyi' ci' xs' why') (hm : Moved gi h h' ki ki' w w') : Ends W w' K go gi h' ko ki' kyo co kyi' ci' xs' why' ∧ Keeps (Foot go gi h) w w' := by
  have hF : Keeps (Foot go gi h) w w' := hm.keeps.mono fun k _ e => e.elim (fun e => .inr (.inl e)) (fun e => .inr (.inr e))
  obtain ⟨n1, n2, n3, n4, n5⟩ := E.ne
  obtain ⟨l1, l2, l3⟩ := E.lo
  have b1 := E.out.blockLt
  have b2 := E.inn.blockLt
  have b3 := E.b.size
  have hh : go ≠ h' ∧ W.heap.size ≤ h' ∧ ∀ k, k < w.heap.size → k ≠ gi → k ≠ h → k ≠ h' := by
    rcases hm.row with e | e | e
    · subst e; exact ⟨n2, l3, fun k _ _ h => h⟩
    · subst e; exact ⟨n1, l2, fun k _ h _ => h⟩
    · exact ⟨by omega, by omega, fun k hk _ _ => by omega⟩
  refine ⟨⟨E.out.keep hm.keeps (fun e => e.elim n1 n2) (fun k e e2 => e2.elim (fun e3 => n3 (by rw [e, e3])) (fun e3 => n4 (by rw [e, e3]))), hi, E.bel hF, ⟨n1, hh.1, n3, fun e => ?_, ?_⟩, ⟨l1, l2, hh.2.1⟩, fun k hk => ⟨Nat.lt_of_lt_of_le (E.res k hk).1 hF.size, ?_⟩⟩, hF⟩
  · have hlt := E.out.lt _ e
    exact hh.2.2 h' hlt (fun e2 => n3 (by rw [e, e2])) (fun e2 => n4 (by rw [e, e2])) rfl
  · rcases hm.key with e | e | ⟨k, e, hk⟩
    · rw [e]; exact n5
    · rw [e]; simp
    · rw [e]; intro e2; simp at e2; omega
  · have hr := E.res k hk
    rintro (e | e | e)
    · exact hr.2 (.inl e)
    · exact hr.2 (.inr (.inl e))
    · exact hh.2.2 k hr.1 (fun e => hr.2 (.inr (.inl e))) (fun e => hr.2 (.inr (.inr e))) e
theorem ends_ikeys (E : Ends W w K go gi h ko ki kyo co kyi ci xs 0) (v : Value) (ks : List UInt8) (hv : BSl w v ks) (hl : ks.length = 32) :
    Calls Tryd.prog 16 #[.pointer (some ⟨gi, 0, none⟩), v] w fun e w' => e = .returned (.int .i64 0) ∧ ∃ ki', Ends W w' K go gi h ko ki' kyo co ks ci xs 0 ∧ Keeps (Foot go gi h) w w' := by
  refine (inKeys_c v ks w E.inn hv hl).mono ?_
  rintro e w' ⟨rfl, kb, hi, hm⟩
  exact ⟨rfl, kb, E.moved hi hm⟩
theorem ends_feed (E : Ends W w K go gi h ko ki kyo co kyi ci xs 0) (v : Value) (ys : List UInt8) (hv : BSl w v ys) (hl : xs.length + ys.length ≤ 1000000) :
    Calls Tryd.prog 18 #[.pointer (some ⟨gi, 0, none⟩), v] w fun e w' => e = .returned (.tuple #[]) ∧ ∃ h', Ends W w' K go gi h' ko ki kyo co kyi ci (xs ++ ys) 0 ∧ Keeps (Foot go gi h) w w' := by
  refine (feed_c v ys w E.inn hv hl).mono ?_
  rintro e w' ⟨rfl, h', hi, hm⟩
  exact ⟨rfl, h', E.moved hi hm⟩
/-- What Next tells beside an Out. -/
def NEnds (W w : World) (K : Nat → Prop) (go gi h : Nat) (ko ki : Option Nat) (kyo : List UInt8) (co : Nat) (kyi : List UInt8) (ci : Nat) (xs : List UInt8) (r : Nx) (e : Ending) (w' : World) : Prop :=
  match r with
  | .short => e = .returned (.tuple #[.slice none 0 0, .bool false, .int .i64 0]) ∧ Ends W w' K go gi h ko ki kyo co kyi ci xs 0 ∧ Keeps (Foot go gi h) w w'
  | .bad why => e = .returned (.tuple #[.slice none 0 0, .bool false, .int .i64 (why : Int)]) ∧ Ends W w' K go gi gi ko none kyo co [] 0 [] why ∧ Keeps (Foot go gi h) w w'
  | .told p rest => ∃ v h', e = .returned (.tuple #[v, .bool true, .int .i64 0]) ∧ BSl w' v p ∧ (∀ k, v.ownBlock = some k → w.heap.size ≤ k) ∧ Ends W w' K go gi h' ko ki kyo co kyi (ci + 1) rest 0 ∧ Keeps (Foot go gi h) w w'
theorem ends_next (E : Ends W w K go gi h ko ki kyo co kyi ci xs 0) (hcl : Cl W) (hl : xs.length ≤ 9500) (hc : ci + 1 ≤ 1000000) :
    Calls Tryd.prog 27 #[.pointer (some ⟨gi, 0, none⟩)] w fun e w' => NEnds W w K go gi h ko ki kyo co kyi ci xs (nextR kyi ci xs) e w' := by
  refine (next_c w E.inn hl (hcl.fresh E.b) hc).mono ?_
  intro e w' hN
  cases hr : nextR kyi ci xs with
  | short =>
    rw [hr] at hN
    obtain ⟨h1, h2, h3⟩ := hN
    exact ⟨h1, E.moved h2 h3⟩
  | bad why =>
    rw [hr] at hN
    obtain ⟨h1, h2, h3⟩ := hN
    exact ⟨h1, E.moved h2 h3⟩
  | told p rest =>
    rw [hr] at hN
    obtain ⟨v, h', h1, h2, h3, h4, h5⟩ := hN
    exact ⟨v, h', h1, h2, h3, E.moved h4 h5⟩
theorem ends_next_no (E : Ends W w K go gi h ko ki kyo co kyi ci xs why) (hw : why ≠ 0) :
    Calls Tryd.prog 27 #[.pointer (some ⟨gi, 0, none⟩)] w fun e w' => NEnds W w K go gi h ko ki kyo co kyi ci xs (.bad why) e w' := by
  refine (next_no w hw E.inn).mono ?_
  rintro e w' ⟨h1, h2, h3⟩
  exact ⟨h1, E.moved h2 h3⟩
end

theorem PLs.get {W w : World} {pg n cp : Nat} {ps : List (List UInt8)} (h : PLs W w (.slice (some ⟨pg, 0, none⟩) n cp) ps) (hb : Below W.heap.size W w) (i : Nat) (hi : i < ps.length) : ∃ u, w.cell? ⟨pg, i, none⟩ = some u ∧ BSl w u (ps.getD i []) := by
  obtain ⟨g, cap, u, e, h1, h2, _⟩ := h.at hb i hi
  have e2 := congrArg Value.ownBlock e
  simp [Value.ownBlock] at e2
  subst e2
  exact ⟨u, h1, h2⟩
section
variable {o : Oper} {ρ : Operand → Value} {w : World} {x y : Operand} {v : Value} {Φ : Value → World → Prop}
theorem elemBs : Tryd.prog.underlying 38 = some (.slice (Tryd.prog.elem 38)) := by kernel_rfl
theorem elemBsEq : Tryd.prog.elem 38 = 22 := by kernel_rfl
theorem gives_index {pg n cp i : Nat} (hi : i < n) (ho : o.op = .indexAddr 38 x y) (hx : ρ x = .slice (some ⟨pg, 0, none⟩) n cp) (hy : ρ y = .int .i64 (i : Int)) (h : Φ (.pointer (some ⟨pg, i, none⟩)) w) : Gives Tryd.prog o ρ w Φ := by
  refine Gives.value (w' := w) (v := .pointer (some ⟨pg, i, none⟩)) ?_ h
  obtain ⟨i0, hi0, hz0, hz1, hz2⟩ := info_parts Tryd.infoBs
  unfold execOp
  simp only [ho]
  rw [hx, hy]
  simp [run_indexAt_slice w _ _ _ _ _ _ elemBs, elemBsEq, sizeOf, typeInfo, hi0, hz1, add_lit', show (i : Int) < (n : Int) by omega]
theorem gives_not {b : Bool} {t : TypeId} (ho : o.op = .unOp .not t x) (hx : ρ x = .bool b) (h : Φ (.bool (!b)) w) : Gives Tryd.prog o ρ w Φ := by
  refine Gives.value (w' := w) (v := .bool (!b)) ?_ h
  unfold execOp
  simp only [ho]
  rw [hx]
  rfl
end
/-- m rows from the j-th on. -/
def seg (Y : Nat → List UInt8) (j : Nat) : Nat → List UInt8
  | 0 => []
  | m + 1 => Y j ++ seg Y (j + 1) m
theorem seg_snoc (Y : Nat → List UInt8) (j m : Nat) : seg Y j (m + 1) = seg Y j m ++ Y (j + m) := by
  induction m generalizing j with
  | zero => simp [seg]
  | succ m ih => rw [seg, ih (j + 1), seg, List.append_assoc, show j + 1 + m = j + (m + 1) by omega]
theorem cat_seg (Y : Nat → List UInt8) (n : Nat) : cat Y n = seg Y 0 n := by
  induction n with
  | zero => rfl
  | succ n ih => rw [cat, ih, seg_snoc, Nat.zero_add]
theorem seg_len (Y : Nat → List UInt8) (B j m : Nat) (h : ∀ i, j ≤ i → i < j + m → (Y i).length ≤ B) : (seg Y j m).length ≤ B * m := by
  induction m generalizing j with
  | zero => simp [seg]
  | succ m ih =>
    have h1 := h j (Nat.le_refl _) (by omega)
    have h2 := ih (j + 1) fun i a b => h i (by omega) (by omega)
    rw [seg, List.length_append, Nat.mul_succ]
    omega
theorem packetL_le {key : List UInt8} (hk : KeyOk key) (c : Nat) (p : List UInt8) (hp : p.length ≤ 300) : (packetL key c p).length ≤ 332 := by
  have h1 := packetL_length hk c p
  have h2 := padP_range key p.length
  have h3 : tagN key ≤ 16 := by unfold tagN; split <;> omega
  omega
/-- A packet of which byte k is turned. -/
def turnL (xs : List UInt8) (k : Nat) (t : UInt8) : List UInt8 := xs.set k (xs.getD k 0 ^^^ t)
theorem xor_ne (a t : UInt8) (h : t ≠ 0) : a ^^^ t ≠ a := by
  intro e
  have : a ^^^ (a ^^^ t) = a ^^^ a := by rw [e]
  rw [← UInt8.xor_assoc, UInt8.xor_self, UInt8.zero_xor] at this
  exact h this
theorem turned_next {key : List UInt8} (hk : key.length = 32) (c : Nat) (p : List UInt8) (h1 : 1 ≤ p.length) (hp : p.length ≤ 300) (kk : Nat) (hkk : kk ≤ 15) (t : UInt8) (ht : t ≠ 0) (ys : List UInt8) :
    nextR key c (turnL (packetL key c p) ((packetL key c p).length - 16 + kk) t ++ ys) = .bad 14 := by
  have hko : KeyOk key := .inr hk
  have hne : key ≠ [] := by intro e; rw [e] at hk; simp at hk
  have hpl := packetL_length hko c p
  have hrl := restP_length hko c p
  have hbl := bodyP_length key p
  have htg : tagN key = 16 := by rw [tagN, if_neg hne]
  have e : turnL (packetL key c p) ((packetL key c p).length - 16 + kk) t = headP key p ++ turnL (restP key c p) ((bodyP key p).length + kk) t := by
    have hi : (packetL key c p).length - 16 + kk = 4 + ((bodyP key p).length + kk) := by omega
    rw [turnL, turnL, hi, packetL, List.set_append_right _ _ (by rw [headP_length]; omega), headP_length, Nat.add_sub_cancel_left]
    congr 2
    simp only [List.getD_eq_getElem?_getD]
    rw [List.getElem?_append_right (by rw [headP_length]; omega), headP_length, Nat.add_sub_cancel_left]
  rw [e]
  refine next_turned hk c p h1 (by omega) _ ys ?_ ?_ ?_
  · rw [turnL, List.length_set, hrl, hbl, htg]
  · rw [turnL, List.take_set_of_le (by omega)]
  · intro e2
    have hkl : (bodyP key p).length + kk < (restP key c p).length := by omega
    have := congrArg (fun l => l.getD kk 0) e2
    simp only [turnL, List.getD_eq_getElem?_getD, List.getElem?_drop, List.getElem?_set, if_pos hkl] at this
    simp at this
    exact xor_ne _ t ht this
/-- What Within answers. -/
def wn (n : Int) (h : Nat) : Nat := if n.tmod ((h : Int) + 1) < 0 then (n.tmod ((h : Int) + 1) + h + 1).toNat else (n.tmod ((h : Int) + 1)).toNat
theorem wn_le (n : Int) (h : Nat) : wn n h ≤ h := by
  have hr1 : n.tmod ((h : Int) + 1) ≤ h := by
    have := Int.tmod_lt_of_pos n (show (0 : Int) < (h : Int) + 1 by omega); omega
  unfold wn
  split <;> omega
set_option maxHeartbeats 400000 in
theorem within_x (n : Int) (h : Nat) (hh : h ≤ 1000000000) (w : World) :
    Calls Tryd.prog 22 #[.int .i64 n, .int .i64 0, .int .i64 h] w fun e w' => e = .returned (.int .i64 (wn n h : Nat)) ∧ w' = w := by
  have hr0 : -(h : Int) ≤ n.tmod ((h : Int) + 1) := by
    by_cases hn : 0 ≤ n
    · have := Int.tmod_nonneg ((h : Int) + 1) hn; omega
    · have h1 := Int.lt_tmod_of_pos n (show (0 : Int) < (h : Int) + 1 by omega); omega
  have hr1 : n.tmod ((h : Int) + 1) ≤ h := by
    have := Int.tmod_lt_of_pos n (show (0 : Int) < (h : Int) + 1 by omega); omega
  by_cases hneg : n.tmod ((h : Int) + 1) < 0
  · have HE : Hid (((wn n h : Nat) : Int) = n.tmod ((h : Int) + 1) + h + 1) := by
      show _ = _
      unfold wn
      rw [if_pos hneg, Int.toNat_of_nonneg (by omega)]
    go_enter Tryd.func22, Tryd.ntmps22
    go_wp2
    go_ret
    exact ⟨by rw [HE.out]; rfl, rfl⟩
  · have HE : Hid (((wn n h : Nat) : Int) = n.tmod ((h : Int) + 1)) := by
      show _ = _
      unfold wn
      rw [if_neg hneg, Int.toNat_of_nonneg (by omega)]
    go_enter Tryd.func22, Tryd.ntmps22
    go_wp2
    go_ret
    exact ⟨by rw [HE.out]; rfl, rfl⟩

/-- A slice of n ints. -/
def ISl (w : World) (v : Value) (n : Nat) : Prop :=
  ∃ ao cap, v = .slice ao n cap ∧ n ≤ cap ∧ cap ≤ maxLen ∧ ∀ j, j < n → ∃ b off, ao = some ⟨b, off, none⟩ ∧ ∃ z : Int, w.cell? ⟨b, off + j, none⟩ = some (.int .i64 z)
/-- The key ahead of the j-th packet, and of it. -/
def keyB (f : Nat) (key : List UInt8) (j : Nat) : List UInt8 := if f < j then key else []
def keyA (f : Nat) (key : List UInt8) (j : Nat) : List UInt8 := if f ≤ j then key else []
theorem keyA_ok (f : Nat) {key : List UInt8} (h : key.length = 32) (j : Nat) : KeyOk (keyA f key j) := by
  unfold keyA
  split
  · exact .inr h
  · exact .inl rfl
theorem keyB_succ (f : Nat) (key : List UInt8) (j : Nat) : keyB f key (j + 1) = keyA f key j := by
  unfold keyB keyA
  by_cases h : f ≤ j
  · rw [if_pos h, if_pos (by omega)]
  · rw [if_neg h, if_neg (by omega)]
theorem keyB_same (f : Nat) (key : List UInt8) (j : Nat) (h : j ≠ f) : keyB f key j = keyA f key j := by
  unfold keyB keyA
  by_cases h1 : f ≤ j
  · rw [if_pos h1, if_pos (by omega)]
  · rw [if_neg h1, if_neg (by omega)]
theorem keyA_at (f : Nat) (key : List UInt8) : keyA f key f = key := by unfold keyA; rw [if_pos (Nat.le_refl _)]
def packY (f : Nat) (key : List UInt8) (ps : List (List UInt8)) (j : Nat) : List UInt8 := packetL (keyA f key j) j (ps.getD j [])
/-- What is held when F bytes were fed and i packets read. -/
def hold (Y : Nat → List UInt8) (n i F : Nat) : List UInt8 := ((cat Y n).take F).drop (cat Y i).length
theorem cat_split (Y : Nat → List UInt8) (n i : Nat) (h : i ≤ n) : cat Y n = cat Y i ++ seg Y i (n - i) := by
  obtain ⟨m, rfl⟩ : ∃ m, n = i + m := ⟨n - i, by omega⟩
  rw [Nat.add_sub_cancel_left]
  induction m with
  | zero => simp [seg]
  | succ m ih =>
    rw [show i + (m + 1) = (i + m) + 1 by omega, cat, ih (by omega), seg_snoc, List.append_assoc]
theorem hold_eq (Y : Nat → List UInt8) (n i F : Nat) (h : i ≤ n) : hold Y n i F = (seg Y i (n - i)).take (F - (cat Y i).length) := by
  rw [hold, cat_split Y n i h, List.drop_take, List.drop_left]
theorem cat_succ_len (Y : Nat → List UInt8) (i : Nat) : (cat Y (i + 1)).length = (cat Y i).length + (Y i).length := by rw [cat, List.length_append]
theorem hold_told (f : Nat) {key : List UInt8} (hk : key.length = 32) (ps : List (List UInt8)) (n i F : Nat) (hi : i < n) (hp : 1 ≤ (ps.getD i []).length ∧ (ps.getD i []).length ≤ 200) (hF : (cat (packY f key ps) (i + 1)).length ≤ F) :
    nextR (keyA f key i) i (hold (packY f key ps) n i F) = .told (ps.getD i []) (hold (packY f key ps) n (i + 1) F) := by
  have hl := cat_succ_len (packY f key ps) i
  rw [hold_eq _ _ _ _ (by omega), hold_eq _ _ _ _ (by omega), show n - i = (n - (i + 1)) + 1 by omega, seg]
  have := next_take (keyA_ok f hk i) i (ps.getD i []) hp.1 (by omega) (seg (packY f key ps) (i + 1) (n - (i + 1))) (F - (cat (packY f key ps) i).length) (by show (packY f key ps i).length ≤ _; omega)
  rw [show packetL (keyA f key i) i (ps.getD i []) = packY f key ps i from rfl] at this
  rw [this, hl, show F - ((cat (packY f key ps) i).length + (packY f key ps i).length) = F - (cat (packY f key ps) i).length - (packY f key ps i).length from Nat.sub_add_eq _ _ _]
theorem hold_short (f : Nat) {key : List UInt8} (hk : key.length = 32) (ps : List (List UInt8)) (n i F : Nat) (hi : i < n) (hp : 1 ≤ (ps.getD i []).length ∧ (ps.getD i []).length ≤ 200) (hF : F < (cat (packY f key ps) (i + 1)).length) (hF0 : (cat (packY f key ps) i).length ≤ F) :
    nextR (keyA f key i) i (hold (packY f key ps) n i F) = .short := by
  have hl := cat_succ_len (packY f key ps) i
  rw [hold_eq _ _ _ _ (by omega), show n - i = (n - (i + 1)) + 1 by omega, seg]
  exact next_short (keyA_ok f hk i) i (ps.getD i []) hp.1 (by omega) (seg (packY f key ps) (i + 1) (n - (i + 1))) (F - (cat (packY f key ps) i).length) (by show _ < (packY f key ps i).length; omega)
theorem hold_feed (Y : Nat → List UInt8) (n i F k : Nat) (hF : F ≤ (cat Y n).length) (hi : (cat Y i).length ≤ F) : hold Y n i F ++ ((cat Y n).drop F).take k = hold Y n i (F + k) := by
  rw [hold, hold, List.take_add, List.drop_append_of_le_length (by rw [List.length_take]; omega)]
theorem hold_len (Y : Nat → List UInt8) (n i F : Nat) : (hold Y n i F).length ≤ (cat Y n).length := by
  rw [hold, List.length_drop, List.length_take]; omega
theorem hold_all (Y : Nat → List UInt8) (n : Nat) : hold Y n n (cat Y n).length = [] := by rw [hold, List.take_length, List.drop_length]
theorem cat_len_le (f : Nat) {key : List UInt8} (hk : key.length = 32) (ps : List (List UInt8)) (n : Nat) (hn : n ≤ 12) (hp : ∀ i, i < n → 1 ≤ (ps.getD i []).length ∧ (ps.getD i []).length ≤ 200) : (cat (packY f key ps) n).length ≤ 4000 := by
  rw [cat_seg]
  have := seg_len (packY f key ps) 332 0 n (fun i _ hi => packetL_le (keyA_ok f hk i) i _ (by have := (hp i (by omega)).2; omega))
  omega
theorem packY_mod (f : Nat) {key : List UInt8} (hk : key.length = 32) (ps : List (List UInt8)) (j : Nat) : (packetL (keyA f key j) j (ps.getD j [])).length % 4 = 0 := by
  have h1 := packetL_length (keyA_ok f hk j) j (ps.getD j [])
  have h2 := padP_mod (keyA f key j) (ps.getD j []).length
  have h3 : hdN (keyA f key j) = 4 ∨ hdN (keyA f key j) = 0 := by unfold hdN; split <;> simp
  have h4 : tagN (keyA f key j) = 0 ∨ tagN (keyA f key j) = 16 := by unfold tagN; split <;> simp
  omega
section
variable {W w : World} {K : Nat → Prop} {go gi h : Nat} {ko ki : Option Nat} {kyo kyi xs : List UInt8} {co ci why : Nat}
/-- A row of others grows. -/
theorem Ends.grow {w' : World} {X : Option Nat} (E : Ends W w K go gi h ko ki kyo co kyi ci xs why) (hk : Keeps (fun k => X = some k) w w') (hX : ∀ k, X = some k → K k) (hko : ∀ k, X = some k → ko ≠ some k) (hki : ∀ k, X = some k → ki ≠ some k) (hlo : ∀ k, X = some k → W.heap.size ≤ k) : Ends W w' K go gi h ko ki kyo co kyi ci xs why := by
  have hnf : ∀ q, Foot go gi h q → ¬ (X = some q) := fun q hf e => (E.res q (hX q e)).2 hf
  exact ⟨E.out.keep hk (hnf go (.inl rfl)) (fun k e e2 => hko k e2 e), E.inn.keep hk (hnf gi (.inr (.inl rfl))) (hnf h (.inr (.inr rfl))) (fun k e e2 => hki k e2 e), E.b.trans (hk.below E.b.size (fun k e => hlo k e)), E.ne, E.lo, fun k hK => ⟨Nat.lt_of_lt_of_le (E.res k hK).1 hk.size, (E.res k hK).2⟩⟩
theorem ends_okeys2 (E : Ends W w K go gi h ko ki kyo co kyi ci xs why) (v : Value) (ks : List UInt8) (hv : BSl w v ks) (hl : ks.length = 32) :
    Calls Tryd.prog 12 #[.pointer (some ⟨go, 0, none⟩), v] w fun e w' => e = .returned (.int .i64 0) ∧ ∃ ko', Ends W w' K go gi h ko' ki ks co kyi ci xs why ∧ Keeps (Foot go gi h) w w' ∧ ∀ k, ko' = some k → w.heap.size ≤ k := by
  refine (outKeys_c v ks w E.out hv hl).mono ?_
  rintro e w' ⟨rfl, kb, ho, hk, hnew⟩
  have hF : Keeps (Foot go gi h) w w' := hk.mono fun k _ e => .inl e
  obtain ⟨n1, n2, n3, n4, n5⟩ := E.ne
  have hl2 := E.inn.blockLt
  refine ⟨rfl, kb, ⟨ho, E.inn.keep hk (fun e => n1 e.symm) (fun e => n2 e.symm) (fun k e e2 => n5 (by rw [e, e2])), E.bel hF, ⟨n1, n2, fun e => ?_, fun e => ?_, n5⟩, E.lo, fun k hk => ⟨Nat.lt_of_lt_of_le (E.res k hk).1 hF.size, (E.res k hk).2⟩⟩, hF, hnew⟩
  · have := hnew _ e; omega
  · have := hnew _ e; omega
end
end Go.Proofs.YthkaibkmpenclaaDoor
