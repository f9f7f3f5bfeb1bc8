/- What flush does. -/
import Derived.Test.YtnimdbjbkoggdaaCnC
namespace Go.Proofs.Ytnimdbjbkoggdaa
open Go Go.RowKit

theorem Lst.add {B : Nat} {w w1 : World} {o o' v1 : Value} {ls : List (List UInt8)} {vs : List Value} {p : List UInt8} {m : Nat} (hvl : vs.length = ls.length)
    (hve : ∀ i, i < ls.length → BSl w (vs.getD i undef) (ls.getD i []) ∧ ∀ k, (vs.getD i undef).ownBlock = some k → B ≤ k ∧ k < w.heap.size ∧ o.ownBlock ≠ some k)
    (hp : BSl w v1 p) (hap : ∀ k, v1.ownBlock = some k → B ≤ k ∧ k < w.heap.size ∧ o.ownBlock ≠ some k) (hm : m = ls.length + 1)
    (hown : w1.ownsRow B 30 1 o' m (vs ++ [v1])) (hgrow : (w.alloc (.cells #[v1] 30)).grownBy w1 o.ownBlock) (hat : o'.ownBlock = o.ownBlock ∨ o'.ownBlock = some (w.heap.size + 1)) : Lst B w1 o' (ls ++ [p]) := by
  have hk : Keeps (fun k => o.ownBlock = some k) w w1 := ((Keeps.refl _ w).alloc _).trans (Keeps.ofGrown hgrow (fun k e => e))
  have key : ∀ u x, BSl w u x → (∀ k, u.ownBlock = some k → B ≤ k ∧ k < w.heap.size ∧ o.ownBlock ≠ some k) → BSl w1 u x ∧ ∀ k, u.ownBlock = some k → B ≤ k ∧ k < w1.heap.size ∧ o'.ownBlock ≠ some k := by
    intro u x h1 h2
    refine ⟨h1.keep hk (fun k e h => (h2 k e).2.2 h), fun k e => ⟨(h2 k e).1, Nat.lt_of_lt_of_le (h2 k e).2.1 hk.size, fun e2 => ?_⟩⟩
    rcases hat with h3 | h3
    · exact (h2 k e).2.2 (by rw [← h3]; exact e2)
    · have := (h2 k e).2.1
      rw [h3] at e2
      simp at e2
      omega
  subst hm
  refine ⟨vs ++ [v1], by simp [hvl], by rw [List.length_append]; exact hown, fun i hi => ?_⟩
  rw [getD_snoc, getD_snoc, hvl]
  by_cases h1 : i < ls.length
  · rw [if_pos h1, if_pos h1]
    exact key _ _ (hve i h1).1 (hve i h1).2
  · have h2 : i = ls.length := by simp at hi; omega
    rw [if_neg h1, if_neg h1, if_pos h2, if_pos h2]
    exact key _ _ hp hap

def cutC (c : Ch) (m : Nat) : Ch := ⟨c.od, c.en, c.cl, c.th, c.wl, c.wm, c.ol, c.wt.drop m⟩
def FPost (w : World) (a o i : Nat) (c : Ch) (v : Value) (A Z : List Value) (e : Ending) (w' : World) : Prop :=
  ∃ u v', e = .returned u ∧ Lst w.heap.size w' u (pieces c (nOf c)) ∧ CX w' a o i (behind c) v' A Z ∧ (∀ k, v'.ownBlock = some k → v.ownBlock = some k) ∧ Keeps (fun k => k = a) w w'
/-- While flush goes on. -/
structure FI (w wr : World) (B a o i : Nat) (c : Ch) (v : Value) (A Z : List Value) (sv : Value) (L : List Nat) (pv : Value) (j : Nat) : Prop where
  cx : ∃ v', CX wr a o i (cutC c (min (j * c.wm) (kOf c))) v' A Z ∧ ∀ k, v'.ownBlock = some k → v.ownBlock = some k
  ls : Lst B wr pv (pieces c j)
  is : ISl wr sv L
  so : ∀ k, sv.ownBlock = some k → k < B ∧ k ≠ a
  wB : w.heap.size ≤ B
  bw : B ≤ wr.heap.size
  kp : Keeps (fun k => k = a) w wr
  vl : ∀ k, v.ownBlock = some k → k < w.heap.size
  al : a < w.heap.size
theorem ISl.shape {w : World} {v : Value} {L : List Nat} (h : ISl w v L) : ∃ sa, v = .slice sa L.length L.length := by
  rcases h with ⟨rfl, rfl⟩ | ⟨g, rfl, _⟩
  · exact ⟨none, rfl⟩
  · exact ⟨_, rfl⟩
theorem ISl.cell {w : World} {sa : Option Addr} {n m : Nat} {L : List Nat} (h : ISl w (.slice sa n m) L) (j : Nat) (hj : j < L.length) : ∃ g, sa = some ⟨g, 0, none⟩ ∧ w.cell? ⟨g, j, none⟩ = some (.int .i64 (L.getD j 0 : Nat)) := by
  rcases h with ⟨_, rfl⟩ | ⟨g, e, h1⟩
  · simp at hj
  · cases e
    exact ⟨g, rfl, h1.cell j hj⟩
theorem ISl.keep {S : Nat → Prop} {w w' : World} {v : Value} {L : List Nat} (h : ISl w v L) (hk : Keeps S w w') (hn : ∀ k, v.ownBlock = some k → ¬ S k) : ISl w' v L := by
  rcases h with h | ⟨g, rfl, h1⟩
  · exact .inl h
  · exact .inr ⟨g, rfl, h1.keep hk (hn g rfl)⟩
theorem pcs_at (k b n j : Nat) (hj : j < n) : (pcs k b n).getD j 0 = min (k - j * b) b := by simp [pcs, hj]
theorem nOf_le (k b : Nat) (hb : 1 ≤ b) : (k + b - 1) / b ≤ k := by
  by_cases h0 : k = 0
  · subst h0
    rw [Nat.div_eq_of_lt (by omega)]
    omega
  · refine Nat.le_trans (Nat.div_le_div_right (c := b) (?_ : k + b - 1 ≤ b * k)) (by rw [Nat.mul_div_cancel_left _ (by omega)]; exact Nat.le_refl _)
    obtain ⟨b', rfl⟩ : ∃ b', b = b' + 1 := ⟨b - 1, by omega⟩
    obtain ⟨k', rfl⟩ : ∃ k', k = k' + 1 := ⟨k - 1, by omega⟩
    have : (b' + 1) * (k' + 1) = b' * k' + b' + k' + 1 := by rw [Nat.add_mul, Nat.mul_add]; omega
    omega
theorem below_n (k b j : Nat) (hb : 1 ≤ b) (hj : j < (k + b - 1) / b) : j * b < k := by
  have h1 := Nat.mul_le_mul_right b (show j + 1 ≤ (k + b - 1) / b by omega)
  have h2 := Nat.div_mul_le_self (k + b - 1) b
  rw [Nat.add_mul] at h1
  omega
theorem end_n (k b : Nat) (hb : 1 ≤ b) : k ≤ (k + b - 1) / b * b := by
  have h1 := Nat.div_add_mod (k + b - 1) b
  have h2 := Nat.mod_lt (k + b - 1) (show b > 0 by omega)
  rw [Nat.mul_comm] at h1
  omega

set_option maxHeartbeats 1600000 in
set_option maxRecDepth 100000 in
theorem flush_c (w : World) {L a o i : Nat} {c : Ch} {v : Value} {A Z : List Value} (h : CX w a o i c v A Z) (hok : Ok L c) (hL : L ≤ 1000000) :
    Calls Try.prog 29 #[.pointer (some ⟨a, o, none⟩)] w fun e w' => FPost w a o i c v A Z e w' := by
  obtain ⟨i0, hi, hz0, hz1, hz2⟩ := info_parts Try.infoBs
  obtain ⟨c0, c1, c2, c3, c4, c5, c6, c7, c8, cf⟩ := h.cells
  have HX := hidden h
  have hwt := hok.wt
  have hk1 : kOf c ≤ c.wt.length := by unfold kOf; omega
  have hk2 : kOf c ≤ c.wl := by unfold kOf; omega
  have hw1 := hok.w1
  have hth := hok.th
  have HSP := hidden (fun w' => split_u (Win.mk' c.wl c.wm hok.wl hok.w1 hok.wm) c.wt.length (kOf c) (nOf c) (by omega) rfl rfl w')
  have hn1 : nOf c ≤ kOf c := nOf_le _ _ hok.w1
  have HJ : Hid (∀ j, j < nOf c → j * c.wm < kOf c) := hidden fun j hj => below_n _ _ _ hok.w1 hj
  have HEND : Hid (kOf c ≤ nOf c * c.wm) := hidden (end_n _ _ hok.w1)
  obtain ⟨ao, cap, ev⟩ := h.held.len
  have HVL := hidden h.held.lt
  have hal := h.lt
  clear h hok
  generalize hx3 : nb (c.wl - kOf c) = x3 at HSP
  generalize hn : nOf c = n at *
  generalize hk : kOf c = k at *
  have HS : Hid (∀ w', Below w.heap.size w w' → w'.cell? ⟨a, o + 6, none⟩ = some (.complex .f64 (nb c.wl) (nb c.wm)) ∧ w'.cell? ⟨a, o + 8, none⟩ = some (.slice ao c.wt.length cap)) := hidden fun w' hb => ⟨(Keeps.ofFresh (S := fun _ => False) hb).cell c6 (fun h => h), (Keeps.ofFresh (S := fun _ => False) hb).cell (ev ▸ c8) (fun h => h)⟩
  rw [ev] at c8
  clear ev
  have HN := hidden hn
  have HK := hidden hk
  have HX3 := hidden hx3
  clear hn hk hx3
  generalize hwl : c.wt.length = wl at *
  have HWL := hidden hwl
  clear hwl
  generalize nb c.wl = x1 at *
  generalize hx2 : nb c.wm = x2 at *
  have HX2 := hidden hx2
  clear hx2
  go_enter Try.func29, Try.ntmps29
  go_wp2_with fail
  go_region_held3 (fun w' => w'.cell? ⟨a, o + 6, none⟩ = some (.complex .f64 x1 x2) ∧ w'.cell? ⟨a, o + 8, none⟩ = some (.slice ao wl cap))
    (first | exact HS.out _ (Below.refl _ _) | exact HS.out _ (Below.refl _ _).drew | exact HS.out _ (below_undrew hbS) | exact HS.out _ hbS | go_keep)
    (first | (go_at_call 48; refine (HSP.out _).mono ?_; rintro e w2 ⟨u2, rfl, his2, hso2, hbS⟩))
  have HB2 := hidden (below_undrew hbS)
  have HSO := hidden hso2
  obtain ⟨sa, es⟩ := his2.shape
  rw [pcs_length] at es
  subst es
  have HIS := hidden his2
  clear hbS hso2 his2 c0 c1 c2 c3 c4 c5 c6 c7 c8 cf HSP HS
  go_wp2_with (refine wpList_make_own _ rfl _ (.tmp 22) 22 rfl w2.heap.size 30 i0 _ 1 Try.underlying22 hi hz0 hz1 .i64 .i64 _ n rfl rfl rfl (by rw [hz2]; omega) (by unfold maxLen; omega) (Nat.le_refl _) ?_)
  intro w3 ho3 hg3
  have HB3 : Hid (Below w2.heap.size w2 w3) := hidden ((Below.refl _ _).grown hg3 (by simp) (by simp))
  have HI0 : Hid (FI w w3 w2.heap.size a o i c v A Z (.slice sa n n) (pcs k c.wm n) (.slice (some ⟨w2.heap.size, 0, none⟩) 0 n) 0) := by
    refine hidden ⟨⟨v, ?_, fun k e => e⟩, ⟨[], rfl, ho3, fun i hi => by simp [pieces] at hi⟩, HIS.out.fresh HB3.out, fun k e => ?_, HB2.out.size, HB3.out.size, (Keeps.ofFresh HB2.out).trans (Keeps.ofFresh HB3.out), HVL.out, hal⟩
    · have := (HX.out.fresh HB2.out).fresh HB3.out
      rw [Nat.zero_mul, Nat.zero_min]
      exact this
    · have h1 := HSO.out k e
      rw [show w.drew.heap.size = w.heap.size from rfl] at h1
      refine ⟨?_, by omega⟩
      rcases HIS.out with ⟨h2, _⟩ | ⟨g, h2, h3⟩
      · cases h2
        simp [Value.ownBlock] at e
      · rw [pcs_length] at h2
        cases h2
        simp [Value.ownBlock] at e
        subst e
        exact h3.lt
  clear ho3 hg3 HB3 HB2 HSO HIS
  obtain ⟨B, hB⟩ : ∃ B, B = w2.heap.size := ⟨_, rfl⟩
  rw [← hB] at HI0 ⊢
  clear hB
  go_wp2_with fail
  go_loopw [5, 26] (fun pv t wr => ∃ (j : Nat), j ≤ n ∧ t = .int .i64 (j : Int) ∧ FI w wr B a o i c v A Z (.slice sa n n) (pcs k c.wm n) pv j) (fun _ t _ => n - (intOf t).toNat)
  case atStart => exact ⟨0, by omega, rfl, HI0.out⟩
  case round =>
    obtain ⟨j, hj, rfl, hfi⟩ := hrel
    have HI := hidden hfi
    clear hfi HI0
    obtain ⟨pa, pc, ep⟩ := HI.out.ls.shape
    rw [pieces_length] at ep
    subst ep
    by_cases hlt : j < n
    · have i1 : (j : Int) < (n : Int) := by omega
      obtain ⟨g, es, k1⟩ := HI.out.is.cell j (by rw [pcs_length]; exact hlt)
      subst es
      rw [pcs_at _ _ _ _ hlt] at k1
      have hjk := HJ.out j hlt
      obtain ⟨q, hq⟩ : ∃ q, q = j * c.wm := ⟨_, rfl⟩
      obtain ⟨m, hm⟩ : ∃ m, m = min (k - q) c.wm := ⟨_, rfl⟩
      rw [← hq, ← hm] at k1
      rw [← hq] at hjk
      have hmq : q + m ≤ k := by omega
      have HQ1 : Hid (min (j * c.wm) (kOf c) = q) := hidden (by rw [HK.out, ← hq]; omega)
      have HQ2 : Hid (min ((j + 1) * c.wm) (kOf c) = q + m) := hidden (by rw [HK.out, Nat.add_mul, ← hq]; omega)
      have HPA : Hid (pieceAt c j = (c.wt.drop q).take m) := hidden (by unfold pieceAt; rw [HK.out, ← hq, ← hm])
      clear hq hm
      obtain ⟨v1, hcx, hvo⟩ := HI.out.cx
      rw [HQ1.out] at hcx
      have HCX := hidden hcx
      have HVO := hidden hvo
      obtain ⟨c0, c1, c2, c3, c4, c5, c6, c7, c8, cf⟩ := hcx.cells
      obtain ⟨a1, p1, e1⟩ := hcx.held.len
      have hrl : (cutC c q).wt.length = wl - q := by show (c.wt.drop q).length = _; rw [List.length_drop, HWL.out]
      rw [hrl] at e1
      subst e1
      have hrest : m ≤ wl - q := by omega
      have hcap : wl - q ≤ p1 := by
        rcases hcx.held with ⟨h1, h2⟩ | ⟨_, _, _, _, h1, _, _, h3, _⟩
        · have := congrArg List.length h2
          rw [hrl] at this
          simp at this
          omega
        · rw [hrl] at h1 h3
          cases h1
          exact h3
      have hmc : (m : Int) ≤ (p1 : Int) := by omega
      have hm0 : (0 : Int) ≤ (m : Int) := by omega
      have HBS : Hid (∀ w', Keeps (fun _ => False) wr w' → BSl w' (.slice a1 m p1) ((c.wt.drop q).take m)) := hidden fun w' hk => by
        have h1 := (hcx.still hk).held.bsl
        rw [← hrl] at h1
        exact h1.head' (by rw [hrl]; exact hrest)
      have HPL : Hid (((c.wt.drop q).take m).length ≤ 1000000) := hidden (by rw [List.length_take]; omega)
      obtain ⟨vs, hvl, hvs, hve⟩ := HI.out.ls
      rw [pieces_length] at hvl hvs hve
      have HVS := hidden hvs
      have HVLn := hidden hvl
      have HVE := hidden hve
      have hc5 : (cutC c q).th = c.th := rfl
      rw [hc5] at c5
      have HS : Hid (∀ w', Keeps (fun k => (Value.slice pa j pc).ownBlock = some k) wr w' → w'.cell? ⟨a, o + 5, none⟩ = some (.int .u32 (c.th : Int)) ∧ w'.cell? ⟨a, o + 8, none⟩ = some (.slice a1 (wl - q) p1)) := hidden fun w' hb => by
        have hne : ¬ (Value.slice pa j pc).ownBlock = some a := fun e => by have := (hvs.lt a e).1; have := HI.out.wB; omega
        exact ⟨hb.cell c5 hne, hb.cell c8 hne⟩
      have hBs := HI.out.bw
      clear hcx hvo hvl hvs hve hrl c0 c1 c2 c3 c4 c6 c7
      generalize hrl : wl - q = rl at *
      go_wp2_with fail
      go_region_held3 (fun w' => w'.cell? ⟨a, o + 5, none⟩ = some (.int .u32 (c.th : Int)) ∧ w'.cell? ⟨a, o + 8, none⟩ = some (.slice a1 rl p1))
        (first | exact HS.out _ (Keeps.refl _ _) | exact HS.out _ (Keeps.refl _ _).drew | exact HS.out _ hkS | exact HS.out _ (hkS.alloc _) | exact HS.out _ hkT | go_keep)
        (first
          | (go_at_call 49; refine (dataOf_c c.th hth _ _ HPL.out _ (HBS.out _ (by first | exact Keeps.refl _ _ | exact (Keeps.refl _ _).drew))).mono ?_; rintro e w4 ⟨v4, rfl, ho4, hb4⟩; obtain ⟨a4, p4, e4⟩ := ownsRow_shape ho4; subst e4; have hkS : Keeps (fun k => (Value.slice pa j pc).ownBlock = some k) wr w4 := Keeps.ofFresh (below_undrew hb4))
          | (refine step_append_src _ (by rfl) (.tmp 30) (.tmp 42) 22 22 (by rfl) B 30 i0 _ 24 Try.underlying22 hi hz0 hz1 hz2 rfl (.slice pa j pc) j vs (by rfl) ((((Keeps.refl (fun _ => False) wr).trans (Keeps.ofFresh (below_undrew hb4))).alloc _).row HVS.out (fun _ _ h => h)) _ 1 _ (by rfl) (srcSl (heap_alloc_new _ _)) (by unfold maxLen; omega) (by omega) (by have := hkS.size; simp; omega) (w4.heap.size + 1) (by simp) ?_; intro v5 w5 hown hgrow hnil hat; have hkT : Keeps (fun k => (Value.slice pa j pc).ownBlock = some k) wr w5 := (hkS.alloc _).trans (Keeps.ofGrown hgrow (fun k e => e))))
      have HCX5 : Hid (CX w5 a o i (cutC c q) (.slice a1 rl p1) A Z) := by
        have hwB := HI.out.wB
        refine hidden (HCX.out.keep hkT (fun e => ?_) (fun k e e2 => ?_))
        · have := (HVS.out.lt a e).1
          omega
        · have h1 := HI.out.vl k (HVO.out k e)
          have h2 := (HVS.out.lt k e2).1
          omega
      have HKW : Hid (Keeps (fun _ => False) wr w4) := hidden (Keeps.ofFresh (below_undrew hb4))
      have HLS5 : Hid (Lst B w5 v5 (pieces c (j + 1))) := by
        rw [pieces_succ, HPA.out]
        refine hidden (Lst.add (w := w4) (o := .slice pa j pc) (vs := vs) (by rw [pieces_length]; exact HVLn.out) (fun t ht => ?_) (BSl.ofRow ho4) (fun t e => ?_) (by rw [pieces_length]) hown hgrow hat)
        · rw [pieces_length] at ht
          have h1 := HVE.out t ht
          exact ⟨h1.1.keep HKW.out (fun _ _ h => h), fun k e => ⟨(h1.2 k e).1, Nat.lt_of_lt_of_le (h1.2 k e).2.1 HKW.out.size, (h1.2 k e).2.2⟩⟩
        · have h1 := ho4.lt t e
          rw [show wr.drew.heap.size = wr.heap.size from rfl] at h1
          exact ⟨by omega, h1.2, fun e2 => by have := (HVS.out.lt t e2).2; omega⟩
      have HIS5 : Hid (ISl w5 (.slice (some ⟨g, 0, none⟩) n n) (pcs k c.wm n)) := hidden (HI.out.is.keep hkT (fun t e e2 => by have := (HI.out.so t e).1; have := (HVS.out.lt t e2).1; omega))
      have HK5 : Hid (Keeps (fun k => k = a) w w5) := by
        have hwB := HI.out.wB
        refine hidden ⟨hkT.os.trans HI.out.kp.os, hkT.tape.trans HI.out.kp.tape, hkT.output.trans HI.out.kp.output, Nat.le_trans HI.out.kp.size hkT.size, fun t h1 h2 => (hkT.block t (Nat.lt_of_lt_of_le h1 HI.out.kp.size) (fun e => ?_)).trans (HI.out.kp.block t h1 h2)⟩
        have := (HVS.out.lt t e).1
        omega
      obtain ⟨a5, p5, e5⟩ := ownsRow_shape hown
      subst e5
      have hs5 := hkT.size
      clear hown hgrow hat hnil hkT hkS hb4 ho4 HKW HS HBS HVE HVLn c5 c8 cf k1 HX HVL
      obtain ⟨c0, c1, c2, c3, c4, c5, c6, c7, c8, cf⟩ := HCX5.out.cells
      have hml : (m : Int) ≤ (rl : Int) := by omega
      generalize hdl : (datL c.th (List.take m (List.drop q c.wt))).length = dl at *
      clear hdl
      have hrl2 : (cutC c q).wt.length = rl := by show (c.wt.drop q).length = _; rw [List.length_drop, HWL.out]; exact hrl
      have hd1 : Held w5 (.slice a1 (cutC c q).wt.length p1) (cutC c q).wt := by rw [hrl2]; exact HCX5.out.held
      have hd2 := hd1.drop m (by rw [hrl2]; exact hrest)
      rw [hrl2, show (cutC c q).wt.drop m = (cutC c (q + m)).wt by show (c.wt.drop q).drop m = c.wt.drop (q + m); rw [List.drop_drop]] at hd2
      have HDR := hidden hd2
      clear hd1 hd2 hrl2
      clear c0 c1 c2 c3 c4 c5 c6 c7
      go_wp2_with fail
      obtain ⟨v6, e6, h61, h62⟩ : ∃ v6, v6 = Value.slice (if p1 = m then a1 else Option.map (fun x => x.add m) a1) (rl - m) (p1 - m) ∧ Held w5 v6 (cutC c (q + m)).wt ∧ ∀ k, v6.ownBlock = some k → (Value.slice a1 rl p1).ownBlock = some k := by
        refine ⟨_, rfl, ?_, ?_⟩
        · by_cases hp : p1 = m
          · have := HDR.out.2 (by omega)
            rw [if_pos hp, show rl - m = 0 by omega, show p1 - m = 0 by omega]
            exact this
          · rw [if_neg hp]
            exact HDR.out.1 (by omega)
        · intro t e
          by_cases hp : p1 = m
          · rw [if_pos hp] at e
            rw [← e]
            exact ownBlock_any _ _ _ _ _
          · rw [if_neg hp] at e
            rw [← e]
            exact (ownBlock_cut _ _ _ _ _ _).symm
      rw [← e6]
      have hk6 := keepsSet w5 a (o + 8) v6
      have hwB := HI.out.wB
      refine ⟨⟨j + 1, by omega, by go_num, ⟨v6, ?_, fun t e => HVO.out t (h62 t e)⟩, HLS5.out.keep hk6 (fun t e => by omega), HIS5.out.keep hk6 (fun t e => (HI.out.so t e).2), HI.out.so, hwB, Nat.le_trans hBs (Nat.le_trans hs5 hk6.size), HK5.out.trans hk6, HI.out.vl, hal⟩, by simp [intOf]; omega⟩
      rw [HQ2.out]
      exact HCX5.out.set 8 (by omega) v6 (cutC c (q + m)) v6 rfl h61 h62
    · have i1 : ¬ (j : Int) < (n : Int) := by omega
      have hjn : j = n := by omega
      subst hjn
      obtain ⟨v1, hcx, hvo⟩ := HI.out.cx
      rw [HK.out, Nat.min_eq_right HEND.out] at hcx
      have HCX := hidden hcx
      have HVO := hidden hvo
      have HP : Hid (∀ w6 v6, CX w6 a o i (cutC c k) v6 A Z → (∀ t, v6.ownBlock = some t → v.ownBlock = some t) → Lst B w6 (.slice pa j pc) (pieces c j) → Keeps (fun k => k = a) w w6 → FPost w a o i c v A Z (.returned (.slice pa j pc)) (w6.setCell ⟨a, o + 6, none⟩ (.complex .f64 x3 x2))) := hidden fun w6 v6 g1 g2 g3 g4 => by
        have hk6 := keepsSet w6 a (o + 6) (.complex .f64 x3 x2)
        have hwB := HI.out.wB
        refine ⟨_, v6, rfl, ?_, ?_, g2, g4.trans hk6⟩
        · rw [HN.out]
          exact (g3.keep hk6 (fun t e => by omega)).mono hwB
        · refine g1.set 6 (by omega) _ (behind c) v6 ?_ ?_ (fun k e => e)
          · rw [← HX3.out, ← HX2.out, ← HK.out]
            rfl
          · have := g1.held
            rw [← HK.out] at this
            exact this
      obtain ⟨c0, c1, c2, c3, c4, c5, c6, c7, c8, cf⟩ := hcx.cells
      obtain ⟨a1, p1, e1⟩ := hcx.held.len
      have hrl : (cutC c k).wt.length = wl - k := by show (c.wt.drop k).length = _; rw [List.length_drop, HWL.out]
      rw [hrl] at e1
      subst e1
      by_cases hz : wl - k = 0
      · have hz1 : (((wl - k : Nat) : Int) == 0) = true := by simp; omega
        have hv0 : Held wr (.slice none 0 0) (cutC c k).wt := .inl ⟨rfl, List.eq_nil_of_length_eq_zero (by rw [hrl]; exact hz)⟩
        have h8 := hcx.set 8 (by omega) (.slice none 0 0) (cutC c k) (.slice none 0 0) rfl hv0 (fun t e => by simp [Value.ownBlock] at e)
        have hk8 := keepsSet wr a (o + 8) (.slice none 0 0)
        have HP2 := hidden (HP.out _ _ h8 (fun t e => by simp [Value.ownBlock] at e) (HI.out.ls.keep hk8 (fun t e => by have := HI.out.wB; omega)) (HI.out.kp.trans hk8))
        obtain ⟨d0, d1, d2, d3, d4, d5, d6, d7, d8, df⟩ := h8.cells
        have hs6 := store_cx _ ⟨a, o + 6, none⟩ x3 x2 d6 (df _)
        clear h8 hk8 hv0 hcx hvo HP HI HCX HVO hrl hz d0 d1 d2 d3 d4 d5 d7 c0 c1 c2 c3 c4 c5 c6 c7
        generalize wl - k = rl at *
        go_wp2_with fail
        go_ret
        exact HP2.out
      · have hz1 : (((wl - k : Nat) : Int) == 0) = false := by simp; omega
        have HP2 := hidden (HP.out _ _ hcx hvo HI.out.ls HI.out.kp)
        have hs6 := store_cx _ ⟨a, o + 6, none⟩ x3 x2 c6 (cf _)
        clear hcx hvo HP HI HCX HVO hrl hz c0 c1 c2 c3 c4 c5 c7
        generalize wl - k = rl at *
        go_wp2_with fail
        go_ret
        exact HP2.out
end Go.Proofs.Ytnimdbjbkoggdaa
