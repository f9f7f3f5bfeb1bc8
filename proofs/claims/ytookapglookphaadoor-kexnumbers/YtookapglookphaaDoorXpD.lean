/- The document's Mul and Base. -/
import Derived.Test.YtookapglookphaaDoorXcD
import Derived.Test.YtookapglookphaaDoorXfA
import Derived.Test.YtookapglookphaaDoorXpC
import Derived.Deep.RegionLaw
namespace Go.Proofs.YtookapglookphaaDoor
section
open Go Go.RowKit

theorem wpList_cloneC (w : World) {ops : Array Oper} {rest : List Oper} {o : Oper} {a : Act} {Q : Exit → Act → World → Prop} (hgd : o.guard = none) (s xo : Operand)
    (ho : o.op = .call { callee := .builtin .append, args := #[s, xo], argTypes := #[22, 22] }) (hsv : a.eval s = .slice (some ⟨w.heap.size, 0, none⟩) 0 0)
    (x : Value) (xs : List UInt8) (hx : a.eval xo = x) (hb : BSl w x xs) (hl : xs.length ≤ 1000000)
    (h : ∀ v' w', w'.ownsRow w.heap.size 5 1 v' xs.length (bcells xs) → Below w.heap.size w w' → wpList Tryd.prog ops Q rest (a.put o.dst v') w') :
    wpList Tryd.prog ops Q (o :: rest) a (w.alloc (.cells #[] 5)) := by
  obtain ⟨i0, hi, hz0, hz1, hz2⟩ := info_parts Tryd.infoU8
  refine wpList_append_src (w.alloc (.cells #[] 5)) hgd s xo 22 22 ho w.heap.size 5 i0 _ 1 Tryd.underlying22 hi hz0 hz1 hz2 rfl (.slice (some ⟨w.heap.size, 0, none⟩) 0 0) 0 _ hsv (own_empty w) x xs.length _ hx ((hb.alloc _).src) (by unfold maxLen; omega) (by omega) (by simp) (w.heap.size + 1) (by simp) ?_
  intro v' w' hown hgrow _ _
  rw [Nat.zero_add, List.nil_append] at hown
  exact h v' w' hown (((Below.refl _ w).alloc (Nat.le_refl _) _).grown hgrow (by simp) (fun k hk => by simp [Value.ownBlock] at hk; omega))
theorem clampL_other (S : List UInt8) : (S.set 31 ((S.getD 31 0 &&& 127) ||| 64)).set 0 ((S.set 31 ((S.getD 31 0 &&& 127) ||| 64)).getD 0 0 &&& 248) = clampL S := by
  unfold clampL
  rw [List.set_comm _ _ (by omega), List.getD_eq_getElem?_getD, List.getElem?_set_ne (by omega), ← List.getD_eq_getElem?_getD]
def one16 : List Int := [1, 0, 0, 0, 0, 0, 0, 0, 0, 0, 0, 0, 0, 0, 0, 0]
def k16 : List Int := [56129, 1, 0, 0, 0, 0, 0, 0, 0, 0, 0, 0, 0, 0, 0, 0]
theorem rc_lit (L : List Int) (a : Nat) (h : (decide (L.length = 16) && decide (-38 ≤ L.getD 0 0) && decide (L.getD 0 0 ≤ 65573) && (List.range 16).all (fun i => decide (0 ≤ L.getD i 0) && decide (L.getD i 0 ≤ 65535)) && decide (vI L 16 % (pC : Int) = (a : Int))) = true) : Rc L a := by
  simp only [Bool.and_eq_true, decide_eq_true_eq, List.all_eq_true] at h
  obtain ⟨⟨⟨⟨h1, h2⟩, h3⟩, h4⟩, h5⟩ := h
  refine ⟨h1, ⟨h2, h3⟩, fun i _ => ?_, h5⟩
  by_cases hi : i < 16
  · exact h4 i (List.mem_range.mpr hi)
  · rw [List.getD_eq_getElem?_getD, List.getElem?_eq_none (by omega)]; simp
theorem rc_one : Rc one16 1 := rc_lit _ _ (by decide +kernel)
theorem rc_nought : Rc Z16 0 := rc_lit _ _ (by decide +kernel)
theorem rc_k : Rc k16 121665 := rc_lit _ _ (by decide +kernel)
/-- What lies ready ahead of the ladder. -/
structure MZ (z : ZR) (w wr : World) (ga : Nat) : Prop where
  e : Ex w wr
  q : ORow wr w.heap.size z.g z.cap z.s
  l : z.g < ga ∧ w.heap.size ≤ ga
  a : IB wr ga 96 Z16
  c : IB wr (ga + 1) 96 Z16
  d : IB wr (ga + 2) 96 Z16
theorem three_new {z : ZR} {w wr : World} (h1 : Ex w wr) (h2 : ORow wr w.heap.size z.g z.cap z.s) :
    MZ z w (((wr.alloc (.cells (icells Z16).toArray 96)).alloc (.cells (icells Z16).toArray 96)).alloc (.cells (icells Z16).toArray 96)) wr.heap.size := by
  obtain ⟨o, ho⟩ : ∃ o : Obj, o = .cells (icells Z16).toArray 96 := ⟨_, rfl⟩
  rw [← ho]
  obtain ⟨w1, e1⟩ : ∃ x, x = wr.alloc o := ⟨_, rfl⟩
  obtain ⟨w2, e2⟩ : ∃ x, x = w1.alloc o := ⟨_, rfl⟩
  obtain ⟨w3, e3⟩ : ∃ x, x = w2.alloc o := ⟨_, rfl⟩
  have s1 : w1.heap.size = wr.heap.size + 1 := by rw [e1]; simp
  have s2 : w2.heap.size = wr.heap.size + 2 := by rw [e2]; simp; omega
  have n1 : w1.heap[wr.heap.size]? = some o := by rw [e1]; exact heap_alloc_new wr o
  have n2 : w2.heap[wr.heap.size + 1]? = some o := by rw [e2, ← s1]; exact heap_alloc_new w1 o
  have n3 : w3.heap[wr.heap.size + 2]? = some o := by rw [e3, ← s2]; exact heap_alloc_new w2 o
  have x1 : Ex wr w1 := by rw [e1]; exact Ex.alloc wr _
  have x2 : Ex w1 w2 := by rw [e2]; exact Ex.alloc w1 _
  have x3 : Ex w2 w3 := by rw [e3]; exact Ex.alloc w2 _
  have x23 := x2.trans x3
  rw [← e1, ← e2, ← e3]
  have hz := h2.lt
  rw [ho] at n1 n2 n3
  exact ⟨h1.trans (x1.trans x23), h2.keep (S := fun _ => False) (Keeps.ofFresh (x1.trans x23)) (fun h => h), ⟨hz, h1.size⟩, IB.fresh (w := w1) n1 x23, IB.fresh (w := w2) n2 x3, n3⟩
/-- The places of the ladder, with the numbers that they hold. -/
def laid (ga gx gb gk u : Nat) (p : Ld) : List (Nat × KV) := [(gx, ⟨true, u⟩), (ga, ⟨true, p.1.1⟩), (ga + 1, ⟨true, p.1.2⟩), (ga + 2, ⟨true, p.2.2⟩), (gb, ⟨true, p.2.1⟩), (gk, ⟨true, 121665⟩)]
theorem MZ.ext {z : ZR} {w wr wr' : World} {ga : Nat} (h : MZ z w wr ga) (x : Ex wr wr') : MZ z w wr' ga :=
  ⟨h.e.trans x, h.q.keep (S := fun _ => False) (Keeps.ofFresh x) (fun h => h), h.l, h.a.fresh x, h.c.fresh x, h.d.fresh x⟩
theorem kc {w : World} {g n : Nat} (h : C16 w g n) : KV.at ⟨true, n⟩ w g := h
theorem start_ms {z : ZR} {w wr : World} {ga gx gb u : Nat} (h : MZ z w wr ga) (hx : C16 wr gx u) (hb : C16 wr gb u) (h1 : z.g < gx ∧ w.heap.size ≤ gx ∧ gx < ga) (h2 : ga + 2 < gb) :
    MS z w ((wr.setCell ⟨ga, 0, none⟩ (.int .i64 1)).setCell ⟨ga + 2, 0, none⟩ (.int .i64 1)) [(gx, ⟨true, u⟩), (ga, ⟨true, 1⟩), (ga + 1, ⟨true, 0⟩), (ga + 2, ⟨true, 1⟩), (gb, ⟨true, u⟩)] := by
  have hl := h.l
  have k1 : Keeps (fun k => k = ga) wr (wr.setCell ⟨ga, 0, none⟩ (.int .i64 1)) := (Keeps.refl (fun k => k = ga) wr).setCell (p := ⟨ga, 0, none⟩) (.inl rfl) _
  have n1 := h.a.set 0 1
  have c1 := h.c.keep k1 (by omega)
  have d1 := h.d.keep k1 (by omega)
  have x1 := hx.keep k1 (by omega)
  have b1 := hb.keep k1 (by omega)
  have q1 := h.q.keep k1 (by omega)
  have e1 : Ex w (wr.setCell ⟨ga, 0, none⟩ (.int .i64 1)) := h.e.setCell (by show w.heap.size ≤ ga; omega) _
  generalize wr.setCell ⟨ga, 0, none⟩ (.int .i64 1) = w1 at *
  have k2 : Keeps (fun k => k = ga + 2) w1 (w1.setCell ⟨ga + 2, 0, none⟩ (.int .i64 1)) := (Keeps.refl (fun k => k = ga + 2) w1).setCell (p := ⟨ga + 2, 0, none⟩) (.inl rfl) _
  have n2 := d1.set 0 1
  have e2 : Ex w (w1.setCell ⟨ga + 2, 0, none⟩ (.int .i64 1)) := Below.setCell e1 (by show w.heap.size ≤ ga + 2; omega) _
  refine ⟨e2, q1.keep k2 (by omega), ?_, ?_, ?_⟩
  · simp only [List.mem_cons, List.not_mem_nil, or_false, forall_eq_or_imp, forall_eq]
    omega
  · simp only [List.mem_cons, List.not_mem_nil, or_false, forall_eq_or_imp, forall_eq]
    refine ⟨⟨kc (x1.keep k2 (by omega)), by omega⟩, ⟨kc ⟨_, n1.keep k2 (by omega), rc_one⟩, by omega⟩, ⟨kc ⟨_, c1.keep k2 (by omega), rc_nought⟩, by omega⟩, ⟨kc ⟨_, n2, rc_one⟩, by omega⟩, ⟨kc (b1.keep k2 (by omega)), by omega⟩⟩
  · simp only [List.pairwise_cons, List.mem_cons, List.not_mem_nil, or_false, forall_eq_or_imp, forall_eq]
    simp
    omega
theorem tl_next (S : List UInt8) (u j : Nat) (hj : j < 255) : tlTo S u (255 - j) = cs (bitAt S j) (stepF u (cs (bitAt S j) (tlTo S u (255 - (j + 1))))) := by
  obtain ⟨k, hk⟩ : ∃ k, 255 - (j + 1) = k := ⟨_, rfl⟩
  rw [show 255 - j = k + 1 by omega, hk, tlTo, show 254 - k = j by omega]
theorem cs_parts (b : Nat) (_ : b ≤ 1) (P : Ld) : cs b P = ((if b = 1 then P.2.1 else P.1.1, if b = 1 then P.2.2 else P.1.2), (if b = 1 then P.1.1 else P.2.1, if b = 1 then P.1.2 else P.2.2)) := by
  unfold cs
  split <;> rfl
theorem bit_num8 (sb r : Nat) (hs : sb ≤ 255) : IntKind.u8.wrap ((sb / 2 ^ r : Nat) : Int) = ((sb / 2 ^ r : Nat) : Int) ∧ bits .and .u8 ((sb / 2 ^ r : Nat) : Int) 1 = ((sb / 2 ^ r % 2 : Nat) : Int) ∧ IntKind.i64.wrap ((sb / 2 ^ r % 2 : Nat) : Int) = ((sb / 2 ^ r % 2 : Nat) : Int) := by
  have h1 : sb / 2 ^ r ≤ 255 := Nat.le_trans (Nat.div_le_self _ _) hs
  generalize sb / 2 ^ r = q at h1 ⊢
  refine ⟨by rw [IntKind.wrap_u8]; omega, ?_, i64w _ (by omega)⟩
  have := u8_and_nat q 1 (by omega) (by omega)
  rw [show ((1 : Nat) : Int) = 1 from rfl] at this
  rw [this, show (1 : Nat) = 2 ^ 1 - 1 from rfl, Nat.and_two_pow_sub_one_eq_mod]
theorem MS.cut6 {z : ZR} {w wr : World} {p1 p2 p3 p4 p5 p6 p7 p8 : Nat × KV} (h : MS z w wr [p1, p2, p3, p4, p5, p6, p7, p8]) : MS z w wr [p1, p2, p3, p4, p5, p6] := by
  have hs : ∀ p, p ∈ [p1, p2, p3, p4, p5, p6] → p ∈ [p1, p2, p3, p4, p5, p6, p7, p8] := fun p hp => by
    have : [p1, p2, p3, p4, p5, p6, p7, p8] = [p1, p2, p3, p4, p5, p6] ++ [p7, p8] := rfl
    rw [this]; exact List.mem_append_left _ hp
  refine ⟨h.e, h.q, fun p hp => h.y p (hs p hp), fun p hp => h.a p (hs p hp), ?_⟩
  have : [p1, p2, p3, p4, p5, p6, p7, p8] = [p1, p2, p3, p4, p5, p6] ++ [p7, p8] := rfl
  have hn := h.n
  rw [this] at hn
  exact (List.pairwise_append.mp hn).1
theorem gives_loadC {o : Oper} {ρ : Operand → Value} {w : World} {Φ : Value → World → Prop} {x : Operand} {g n : Nat} (ho : o.op = .load 96 x) (hx : ρ x = .pointer (some ⟨g, 0, none⟩)) (hc : C16 w g n) (h : ∀ v, IsC v n → Φ v w) : Gives Tryd.prog o ρ w Φ := by
  obtain ⟨R, h1, h2⟩ := hc
  exact gives_loadI ho hx h1 h2.len (h _ ⟨R, rfl, h2⟩)
/-- What the last region leaves. -/
def RF (A C : Nat) : Nat → Value → World → Prop
  | 0, v, _ => IsC v A
  | 1, v, _ => IsC v C
  | 2, v, _ => IsC v (inv C)
  | 3, v, _ => IsC v (fmul A (inv C))
  | 4, v, w => ∃ ao cap, v = .slice ao 32 cap ∧ BSl w v (outL (fmul A (inv C)) 32)
  | 5, v, w => ∃ ao cap, v = .slice ao 32 cap ∧ BSl w v (outL (fmul A (inv C)) 32)
  | 6, v, _ => v = .int .i64 0
  | _, _, _ => True
theorem RF.ext (A C : Nat) (i : Nat) (v : Value) (x y : World) (he : Ex x y) (h : RF A C i v x) : RF A C i v y := by
  match i, h with
  | 0, h | 1, h | 2, h | 3, h | 6, h => exact h
  | 4, ⟨ao, cap, h1, h2⟩ => exact ⟨ao, cap, h1, h2.fresh he⟩
  | 5, ⟨ao, cap, h1, h2⟩ => exact ⟨ao, cap, h1, h2.fresh he⟩
  | _ + 7, _ => trivial

set_option maxHeartbeats 800000 in
set_option maxRecDepth 100000 in
theorem rMul_c (v1 v2 : Value) (k p : List UInt8) (w : World) (h1 : BSl w v1 k) (h2 : BSl w v2 p) :
    Calls Tryd.prog 33 #[v1, v2] w fun e w' => Below w.heap.size w w' ∧ ((k.length = 32 ∧ p.length = 32) → ∃ ao cap, e = .returned (.tuple #[.slice ao 32 cap, .int .i64 0]) ∧ BSl w' (.slice ao 32 cap) (mulL k p)) ∧ (¬ (k.length = 32 ∧ p.length = 32) → e = .returned (.tuple #[.slice none 0 0, .int .i64 1])) := by
  have H1 := hidden h1
  have H2 := hidden h2
  obtain ⟨ao1, cap1, rfl, hc1, hc2, _⟩ := h1
  obtain ⟨ao2, cap2, rfl, hc3, hc4, _⟩ := h2
  by_cases hk : k.length = 32
  · by_cases hp : p.length = 32
    · have HX : Hid (mulL k p = outL (ladderOf (clampL k) (numV p % pC)) 32) := rfl
      have HR : Hid (∀ w', Below w.heap.size w w' → Calls Tryd.prog 61 #[.slice ao2 p.length cap2] w' fun e w'' => ∃ r, e = .returned r ∧ IsC r (numV p % pC) ∧ Ex w' w'') := fun w' hb => rread_c _ p hp w' (H2.out.fresh hb)
      obtain ⟨u, hu⟩ : ∃ u, u = numV p % pC := ⟨_, rfl⟩
      rw [← hu] at HX HR
      clear hu
      have HK := hidden hk
      have HP := hidden hp
      have hne : k ≠ [] := by intro e; rw [e] at hk; simp at hk
      have HNE := hidden hne
      have HKB := hidden (show k.length ≤ 1000000 by omega)
      rw [hk, hp]
      rw [hp] at HR
      rw [hk] at H1
      clear hk hp hc1 hc3 hne H2
      go_enter Tryd.func33, Tryd.ntmps33
      go_upto_region 4 with (refine wpList_cloneC w rfl (.tmp 25) (.tmp 26) rfl rfl (.slice ao1 32 cap1) k rfl H1.out HKB.out ?_; intro v3 w3 ho3 hb3)
      obtain ⟨gz, cz, rfl, hO⟩ := ORow.ofOwns ho3 HNE.out
      have c31 := hO.cell 31 (by rw [HK.out]; omega)
      have hfz := hO.frozen 31
      have e1 : bits .and .u8 (((k.getD 31 0).toNat : Nat) : Int) 127 = (((k.getD 31 0) &&& 127).toNat : Int) := by
        have := u8_and_nat (k.getD 31 0).toNat 127 (k.getD 31 0).toNat_lt (by omega)
        simpa using this
      have e2 : bits .or .u8 ((((k.getD 31 0) &&& 127).toNat : Nat) : Int) 64 = (((k.getD 31 0 &&& 127) ||| 64).toNat : Int) := by
        have := u8_or_nat (k.getD 31 0 &&& 127).toNat 64 (k.getD 31 0 &&& 127).toNat_lt (by omega)
        simpa using this
      have hCL := clampL_other k
      have HO4 := hidden (hO.set 31 ((k.getD 31 0 &&& 127) ||| 64))
      have HB4 : Hid (Below w.heap.size w (w3.setCell ⟨gz, 31, none⟩ (.int .u8 (((k.getD 31 0 &&& 127) ||| 64).toNat : Nat)))) := hb3.setCell (by have := hO.1; exact this) _
      obtain ⟨K4, hK4⟩ : ∃ K4, K4 = k.set 31 ((k.getD 31 0 &&& 127) ||| 64) := ⟨_, rfl⟩
      rw [← hK4] at HO4 hCL
      have HK4 : Hid (K4.length = 32) := by show _ = _; rw [hK4, List.length_set]; exact HK.out
      have HCL := hidden hCL
      rw [HK.out]
      generalize ((k.getD 31 0 &&& 127) ||| 64).toNat = y2 at e2 HO4 HB4
      generalize (k.getD 31 0 &&& 127).toNat = y1 at e1 e2
      generalize (k.getD 31 0).toNat = y0 at c31 e1
      have hb31 : (31 : Int) < 32 := by omega
      clear hK4 ho3 hb3 hO hCL H1 HNE
      go_upto_region 5 with fail
      generalize w3.setCell ⟨gz, 31, none⟩ (.int .u8 (y2 : Int)) = w4 at HO4 HB4 ⊢
      clear c31 hfz e1 e2
      have c0 := HO4.out.cell 0 (by rw [HK4.out]; omega)
      have hfz := HO4.out.frozen 0
      have e1 : bits .and .u8 (((K4.getD 0 0).toNat : Nat) : Int) 248 = (((K4.getD 0 0) &&& 248).toNat : Int) := by
        have := u8_and_nat (K4.getD 0 0).toNat 248 (K4.getD 0 0).toNat_lt (by omega)
        simpa using this
      have HO5 := hidden (HO4.out.set 0 (K4.getD 0 0 &&& 248))
      rw [HCL.out] at HO5
      have HB5 : Hid (Below w.heap.size w (w4.setCell ⟨gz, 0, none⟩ (.int .u8 ((K4.getD 0 0 &&& 248).toNat : Nat)))) := HB4.out.setCell (by have := HO4.out.1; exact this) _
      generalize (K4.getD 0 0 &&& 248).toNat = y1 at e1 HO5 HB5
      generalize (K4.getD 0 0).toNat = y0 at c0 e1
      clear HO4 HB4 HCL HK4
      go_upto_region 6 with fail
      generalize w4.setCell ⟨gz, 0, none⟩ (.int .u8 (y1 : Int)) = w5 at HO5 HB5 ⊢
      clear c0 hfz e1
      have HR5 := hidden (HR.out w5 HB5.out)
      clear HR
      go_wp2_with fail
      refine HR5.out.mono ?_
      rintro e w6 ⟨r, rfl, hr, x6⟩
      have HO6 := hidden (HO5.out.keep (S := fun _ => False) (Keeps.ofFresh x6) (fun h => h))
      have HB6 := hidden (Ex.trans HB5.out x6)
      clear HR5 HO5 HB5 x6
      go_upto_region 7 with (refine wpList_newC (d := 7) (e := 42) (v := r) ⟨rfl, rfl⟩ rfl rfl rfl rfl (by kernel_rfl) (by kernel_rfl) hr (by decide) ?_; intro gx w7 x7 n7 l7)
      have HO7 := hidden (HO6.out.keep (S := fun _ => False) (Keeps.ofFresh x7) (fun h => h))
      have HB7 := hidden (Ex.trans HB6.out x7)
      have HGX : Hid (gz < gx ∧ w.heap.size ≤ gx ∧ gx < w7.heap.size) := ⟨Nat.lt_of_lt_of_le HO6.out.lt l7, Nat.le_trans HB6.out.size l7, n7.lt⟩
      have HNX := hidden n7
      clear HO6 HB6 x7 n7 l7 hr
      go_upto_region 8 with fail
      change Code.wp _ _ _ _ (((w7.alloc (.cells (icells Z16).toArray 96)).alloc (.cells (icells Z16).toArray 96)).alloc (.cells (icells Z16).toArray 96))
      have HZ := hidden (three_new (z := ⟨gz, cz, clampL k⟩) HB7.out HO7.out)
      have hx8 : Ex w7 (((w7.alloc (.cells (icells Z16).toArray 96)).alloc (.cells (icells Z16).toArray 96)).alloc (.cells (icells Z16).toArray 96)) := ((Ex.alloc w7 _).trans (Ex.alloc _ _)).trans (Ex.alloc _ _)
      rw [show w7.heap.size + 1 + 1 = w7.heap.size + 2 from rfl]
      generalize ((w7.alloc (.cells (icells Z16).toArray 96)).alloc (.cells (icells Z16).toArray 96)).alloc (.cells (icells Z16).toArray 96) = w8 at HZ hx8 ⊢
      have HX8 := hidden (HNX.out.ext hx8)
      generalize w7.heap.size = ga at HGX HZ ⊢
      clear HB7 HO7 HNX hx8
      go_upto_region 9 with (first
        | (refine wpList_loadC (d := 43) (x := .tmp 7) rfl rfl rfl (by kernel_rfl) HX8.out ?_; intro v43 i43)
        | (refine wpList_newC (d := 11) (e := 43) (v := v43) ⟨rfl, rfl⟩ rfl rfl rfl rfl (by kernel_rfl) (by kernel_rfl) i43 (by decide) ?_; intro gb w9 x9 n9 l9))
      have HG9 : Hid (ga + 2 < gb) := Nat.lt_of_lt_of_le HZ.out.d.lt l9
      have HX9 := hidden (HX8.out.ext x9)
      have HZ9 := hidden (HZ.out.ext x9)
      have HN9 := hidden n9
      clear HX8 HZ x9 n9 l9 i43
      have a0 := HZ9.out.a.cell 0 (by decide)
      have fa := HZ9.out.a.frozen 0
      have d0 := HZ9.out.d.cell 0 (by decide)
      have fd := HZ9.out.d.frozen 0
      have HMS := hidden (start_ms HZ9.out HX9.out HN9.out HGX.out HG9.out)
      have hne : ga ≠ ga + 2 := by omega
      clear HZ9 HX9 HN9
      go_upto_region 11 with fail
      generalize (w9.setCell ⟨ga, 0, none⟩ (.int .i64 1)).setCell ⟨ga + 2, 0, none⟩ (.int .i64 1) = w10 at HMS ⊢
      clear a0 fa d0 fd hne
      go_upto_region 12 with (refine wpList_newIL (d := 12) (e := 46) (R := k16) (RA := (icells k16).toArray) rfl ⟨rfl, rfl⟩ rfl rfl rfl rfl (by kernel_rfl) (by kernel_rfl) (by decide) (by decide) ?_; intro w11 x11 n11)
      have HM0 := hidden (HMS.out.push x11 (Nat.le_refl _) (kc ⟨k16, n11, rc_k⟩))
      generalize w10.heap.size = gk at HM0 ⊢
      obtain ⟨Z, hZ⟩ : ∃ Z : ZR, Z = ⟨gz, cz, clampL k⟩ := ⟨_, rfl⟩
      rw [← hZ] at HM0
      have HZg : Hid (Z.g = gz ∧ Z.cap = cz) := by rw [hZ]; exact ⟨rfl, rfl⟩
      have HZs : Hid (Z.s = clampL k) := by rw [hZ]; exact rfl
      obtain ⟨S, hS⟩ : ∃ S, S = clampL k := ⟨_, rfl⟩
      have HSL : Hid (S.length = 32) := by show _ = _; rw [hS, clampL_length]; exact HK.out
      rw [← hS] at HZs HX
      have HM1 : Hid (MS Z w w11 (laid ga gx gb gk u (tlTo S u (255 - 255)))) := HM0.out
      clear hZ hS HMS x11 n11 HM0 HGX HG9
      go_wp2_with fail
      go_loopw [13] (fun c wr => ∃ b : Nat, b ≤ 255 ∧ c = .int .i64 ((b : Int) - 1) ∧ MS Z w wr (laid ga gx gb gk u (tlTo S u (255 - b)))) (fun c _ => (intOf c + 1).toNat)
      case atStart => exact ⟨255, by omega, rfl, HM1.out⟩
      case round =>
        clear HM1
        obtain ⟨b, hb, rfl, hv⟩ := hrel
        have HM := hidden hv
        clear hv
        by_cases hz : b = 0
        · subst hz
          have HLD : Hid (ladderOf S u = fmul (tlTo S u (255 - 0)).1.1 (inv (tlTo S u (255 - 0)).1.2)) := rfl
          generalize tlTo S u (255 - 0) = P at HM HLD
          have HPA : Hid (C16 wr ga P.1.1) := HM.out.get (i := 1) rfl
          have HPC : Hid (C16 wr (ga + 1) P.1.2) := HM.out.get (i := 2) rfl
          have HE := hidden HM.out.e
          generalize P.1.1 = A at HPA HLD
          generalize P.1.2 = C at HPC HLD
          clear HM
          go_wp2_with fail
          refine region_ex 7 (by kernel_rfl) (RF A C) (RF.ext A C) (fun _ _ _ _ => True) ?_ ?_
          · refine eachL_take (fun vs wx he hd => gives_loadC (x := .tmp 8) (by kernel_rfl) (by kernel_rfl) (HPA.out.ext he) fun v hv => ⟨Ex.refl wx, hv, fun _ _ _ _ => trivial⟩) ?_
            refine eachL_take (fun vs wx he hd => gives_loadC (x := .tmp 9) (by kernel_rfl) (by kernel_rfl) (HPC.out.ext he) fun v hv => ⟨Ex.refl wx, hv, fun _ _ _ _ => trivial⟩) ?_
            refine eachL_take (fun vs wx he hd => gives_call (f := 67) (vs := #[vs 1]) (xs := #[.tmp 145]) (ts := #[96]) (by kernel_rfl) (by kernel_rfl) (by kernel_rfl) Tryd.func67 (by kernel_rfl) (by kernel_rfl) ((rinvert_c (hd 1 (by decide) (by kernel_rfl)) wx).mono fun _ _ ⟨v, h1, h2, h3⟩ => ⟨v, h1, h3, h2, fun _ _ _ _ => trivial⟩)) ?_
            refine eachL_take (fun vs wx he hd => gives_call (f := 65) (vs := #[vs 0, vs 2]) (xs := #[.tmp 144, .tmp 146]) (ts := #[96, 96]) (by kernel_rfl) (by kernel_rfl) (by kernel_rfl) Tryd.func65 (by kernel_rfl) (by kernel_rfl) ((rmul_c (IsC.b (hd 0 (by decide) (by kernel_rfl))) (IsC.b (hd 2 (by decide) (by kernel_rfl))) wx).mono fun _ _ ⟨v, h1, h2, h3⟩ => ⟨v, h1, h3, h2, fun _ _ _ _ => trivial⟩)) ?_
            refine eachL_take (fun vs wx he hd => gives_call (f := 66) (vs := #[vs 3]) (xs := #[.tmp 147]) (ts := #[96]) (by kernel_rfl) (by kernel_rfl) (by kernel_rfl) Tryd.func66 (by kernel_rfl) (by kernel_rfl) ((rwrite_c (hd 3 (by decide) (by kernel_rfl)) wx).mono fun _ _ ⟨ao, cap, h1, h2, h3⟩ => ⟨_, h1, h3, ⟨ao, cap, rfl, h2⟩, fun _ _ _ _ => trivial⟩)) ?_
            refine eachL_take (fun vs wx he hd => ?_) ?_
            · obtain ⟨ao, cap, h1, h2⟩ := hd 4 (by decide) (by kernel_rfl)
              exact gives_assign (x := .tmp 148) (v := vs 4) (by kernel_rfl) (by kernel_rfl) ⟨Ex.refl wx, ⟨ao, cap, h1, h2⟩, fun _ _ _ _ => trivial⟩
            refine eachL_take (fun vs wx he hd => gives_assign (x := .const (.int .i64 0)) (v := .int .i64 0) (by kernel_rfl) (by kernel_rfl) ⟨Ex.refl wx, rfl, fun _ _ _ _ => trivial⟩) ?_
            exact eachL_zero
          intro vs w7 hx7 hF _
          refine wpAny_done (by kernel_rfl) ?_ 0
          obtain ⟨ao, cap, e5, hb5⟩ := hF 5 (by omega)
          have e6 : vs 6 = .int .i64 0 := hF 6 (by omega)
          have HB5 := hidden hb5
          have HE7 := hidden (HE.out.trans hx7)
          simp only [actsTo, if_true, dstOf, List.getElem?_toArray, List.getElem?_cons_succ, List.getElem?_cons_zero, Option.bind_some, Act.put, List.setIfInBounds_toArray, List.set_cons_zero, List.set_cons_succ]
          rw [e6]
          rw [e5] at HB5 ⊢
          generalize vs 0 = z0
          generalize vs 1 = z1
          generalize vs 2 = z2
          generalize vs 3 = z3
          generalize vs 4 = z4
          clear hF e5 e6 vs hb5 hx7 HE HPA HPC
          go_wp2
          go_ret2
          refine ⟨HE7.out, fun _ => ⟨ao, cap, rfl, ?_⟩, fun h => absurd (by simp) h⟩
          rw [HX.out, HLD.out]
          exact HB5.out
        obtain ⟨j, rfl⟩ : ∃ j, b = j + 1 := ⟨b - 1, by omega⟩
        rw [show ((j + 1 : Nat) : Int) - 1 = (j : Int) by omega]
        have hj0 : (0 : Int) ≤ (j : Int) := by omega
        have hq2 : (j : Int) / 8 < 32 := by omega
        have hc := HM.out.q.cell (j / 8) (by rw [HZs.out, HSL.out]; omega)
        rw [HZg.out.1, HZs.out] at hc
        have hsb : (S.getD (j / 8) 0).toNat ≤ 255 := by have := (S.getD (j / 8) 0).toNat_lt; omega
        have HBA : Hid (bitAt S j = (S.getD (j / 8) 0).toNat / 2 ^ (j % 8) % 2) := rfl
        have HTL := hidden (tl_next S u j (by omega))
        generalize (S.getD (j / 8) 0).toNat = sb at hc hsb HBA
        obtain ⟨e1, e2, e3⟩ := bit_num8 sb (j % 8) hsb
        have e0 : (sb : Int) / 2 ^ (j % 8) = ((sb / 2 ^ (j % 8) : Nat) : Int) := by simp
        rw [← HBA.out] at e2 e3
        have hbl := bitAt_le S j
        generalize hbt : bitAt S j = bt at e2 e3 HTL hbl
        generalize sb / 2 ^ (j % 8) = sv at e0 e1 e2
        generalize tlTo S u (255 - (j + 1)) = P at HM HTL
        clear hbt HBA hsb hz
        go_upto_region 16 with fail
        go_upto_region 17 with (first
          | (refine wpList_loadS (x := .tmp 8) rfl rfl (by kernel_rfl) (HM.out.get (i := 1) rfl) ?_; intro vl1 il1)
          | (refine wpList_loadS (x := .tmp 11) rfl rfl (by kernel_rfl) (HM.out.get (i := 4) rfl) ?_; intro vr1 ir1)
          | (refine wpList_swapS (b := bt) (vx := vl1) (vy := vr1) hbl (by rfl) (by rfl) rfl rfl (by kernel_rfl) il1 (by kernel_rfl) ir1 (by kernel_rfl) ?_; intro ra1 rb1 wa1 ja1 jb1 xa1)
          | (refine wpList_overS (x := .tmp 8) (y := .tmp 67) (v := ra1) rfl rfl rfl (by kernel_rfl) (by kernel_rfl) ja1 ((HM.out.ext xa1).get (i := 1) rfl).any ?_; intro wb1 kb1 nb1)
          | (refine wpList_overS (x := .tmp 11) (y := .tmp 68) (v := rb1) rfl rfl rfl (by kernel_rfl) (by kernel_rfl) jb1 (((HM.out.ext xa1).set (i := 1) rfl kb1 nb1).get (i := 4) rfl).any ?_; intro wc1 kc1 nc1))
        obtain ⟨A1, hA1⟩ : ∃ n, (if bt = 1 then P.2.1 else P.1.1) = n := ⟨_, rfl⟩
        obtain ⟨B1, hB1⟩ : ∃ n, (if bt = 1 then P.1.1 else P.2.1) = n := ⟨_, rfl⟩
        have HA1 := hidden hA1
        have HB1 := hidden hB1
        have HM1 : Hid (MS Z w wc1 [(gx, ⟨true, u⟩), (ga, ⟨true, A1⟩), (ga + 1, ⟨true, P.1.2⟩), (ga + 2, ⟨true, P.2.2⟩), (gb, ⟨true, B1⟩), (gk, ⟨true, 121665⟩)]) := by
          show MS _ _ _ _
          rw [← hA1, ← hB1]
          exact ((HM.out.ext xa1).set (i := 1) rfl kb1 nb1).set (i := 4) rfl kc1 nc1
        clear HM hA1 hB1 il1 ir1 xa1 ja1 jb1 kb1 nb1 kc1 nc1
        go_upto_region 18 with (first
          | (refine wpList_loadS (x := .tmp 9) rfl rfl (by kernel_rfl) (HM1.out.get (i := 2) rfl) ?_; intro vl2 il2)
          | (refine wpList_loadS (x := .tmp 10) rfl rfl (by kernel_rfl) (HM1.out.get (i := 3) rfl) ?_; intro vr2 ir2)
          | (refine wpList_swapS (b := bt) (vx := vl2) (vy := vr2) hbl (by rfl) (by rfl) rfl rfl (by kernel_rfl) il2 (by kernel_rfl) ir2 (by kernel_rfl) ?_; intro ra2 rb2 wa2 ja2 jb2 xa2)
          | (refine wpList_overS (x := .tmp 9) (y := .tmp 74) (v := ra2) rfl rfl rfl (by kernel_rfl) (by kernel_rfl) ja2 ((HM1.out.ext xa2).get (i := 2) rfl).any ?_; intro wb2 kb2 nb2)
          | (refine wpList_overS (x := .tmp 10) (y := .tmp 75) (v := rb2) rfl rfl rfl (by kernel_rfl) (by kernel_rfl) jb2 (((HM1.out.ext xa2).set (i := 2) rfl kb2 nb2).get (i := 3) rfl).any ?_; intro wc2 kc2 nc2))
        obtain ⟨A2, hA2⟩ : ∃ n, (if bt = 1 then P.2.2 else P.1.2) = n := ⟨_, rfl⟩
        obtain ⟨B2, hB2⟩ : ∃ n, (if bt = 1 then P.1.2 else P.2.2) = n := ⟨_, rfl⟩
        have HA2 := hidden hA2
        have HB2 := hidden hB2
        have HM2 : Hid (MS Z w wc2 [(gx, ⟨true, u⟩), (ga, ⟨true, A1⟩), (ga + 1, ⟨true, A2⟩), (ga + 2, ⟨true, B2⟩), (gb, ⟨true, B1⟩), (gk, ⟨true, 121665⟩)]) := by
          show MS _ _ _ _
          rw [← hA2, ← hB2]
          exact ((HM1.out.ext xa2).set (i := 2) rfl kb2 nb2).set (i := 3) rfl kc2 nc2
        clear HM1 hA2 hB2 il2 ir2 xa2 ja2 jb2 kb2 nb2 kc2 nc2
        go_upto_region 19 with (refine wpList_triN (callS_add _ _ (by rfl) (by rfl)) 1 2 8 9 15 76 77 78 ⟨rfl, rfl, rfl, rfl, rfl⟩ rfl rfl rfl rfl rfl rfl rfl rfl rfl rfl (by kernel_rfl) (by decide) (by kernel_rfl) (by kernel_rfl) HM2.out rfl rfl ?_; intro ua3 ub3 uc3 ge wc3 hm3)
        obtain ⟨N3, hN3⟩ : ∃ n, fadd A1 A2 = n := ⟨_, rfl⟩
        have HN3 := hidden hN3
        have HM3 : Hid (MS Z w wc3 [(gx, ⟨true, u⟩), (ga, ⟨true, A1⟩), (ga + 1, ⟨true, A2⟩), (ga + 2, ⟨true, B2⟩), (gb, ⟨true, B1⟩), (gk, ⟨true, 121665⟩), (ge, ⟨false, N3⟩)]) := by
          show MS _ _ _ _
          rw [← hN3]
          exact hm3
        clear HM2 hN3 hm3
        go_upto_region 20 with (refine wpList_triS (callS_sub _ _ (by rfl) (by rfl)) 1 2 1 8 9 8 79 80 81 ⟨rfl, rfl, rfl, rfl⟩ rfl rfl rfl rfl rfl rfl rfl rfl (by kernel_rfl) (by decide) (by kernel_rfl) (by kernel_rfl) (by kernel_rfl) HM3.out rfl rfl rfl ?_; intro ua4 ub4 uc4 wc4 hm4)
        obtain ⟨N4, hN4⟩ : ∃ n, fsub A1 A2 = n := ⟨_, rfl⟩
        have HN4 := hidden hN4
        have HM4 : Hid (MS Z w wc4 [(gx, ⟨true, u⟩), (ga, ⟨false, N4⟩), (ga + 1, ⟨true, A2⟩), (ga + 2, ⟨true, B2⟩), (gb, ⟨true, B1⟩), (gk, ⟨true, 121665⟩), (ge, ⟨false, N3⟩)]) := by
          show MS _ _ _ _
          rw [← hN4]
          exact hm4
        clear HM3 hN4 hm4
        go_upto_region 21 with (refine wpList_triS (callS_add _ _ (by rfl) (by rfl)) 4 3 2 11 10 9 82 83 84 ⟨rfl, rfl, rfl, rfl⟩ rfl rfl rfl rfl rfl rfl rfl rfl (by kernel_rfl) (by decide) (by kernel_rfl) (by kernel_rfl) (by kernel_rfl) HM4.out rfl rfl rfl ?_; intro ua5 ub5 uc5 wc5 hm5)
        obtain ⟨N5, hN5⟩ : ∃ n, fadd B1 B2 = n := ⟨_, rfl⟩
        have HN5 := hidden hN5
        have HM5 : Hid (MS Z w wc5 [(gx, ⟨true, u⟩), (ga, ⟨false, N4⟩), (ga + 1, ⟨false, N5⟩), (ga + 2, ⟨true, B2⟩), (gb, ⟨true, B1⟩), (gk, ⟨true, 121665⟩), (ge, ⟨false, N3⟩)]) := by
          show MS _ _ _ _
          rw [← hN5]
          exact hm5
        clear HM4 hN5 hm5
        go_upto_region 22 with (refine wpList_triS (callS_sub _ _ (by rfl) (by rfl)) 4 3 4 11 10 11 85 86 87 ⟨rfl, rfl, rfl, rfl⟩ rfl rfl rfl rfl rfl rfl rfl rfl (by kernel_rfl) (by decide) (by kernel_rfl) (by kernel_rfl) (by kernel_rfl) HM5.out rfl rfl rfl ?_; intro ua6 ub6 uc6 wc6 hm6)
        obtain ⟨N6, hN6⟩ : ∃ n, fsub B1 B2 = n := ⟨_, rfl⟩
        have HN6 := hidden hN6
        have HM6 : Hid (MS Z w wc6 [(gx, ⟨true, u⟩), (ga, ⟨false, N4⟩), (ga + 1, ⟨false, N5⟩), (ga + 2, ⟨true, B2⟩), (gb, ⟨false, N6⟩), (gk, ⟨true, 121665⟩), (ge, ⟨false, N3⟩)]) := by
          show MS _ _ _ _
          rw [← hN6]
          exact hm6
        clear HM5 hN6 hm6
        go_upto_region 23 with (refine wpList_triS (callS_mul _ _) 6 6 3 15 15 10 88 89 90 ⟨rfl, rfl, rfl, rfl⟩ rfl rfl rfl rfl rfl rfl rfl rfl (by kernel_rfl) (by decide) (by kernel_rfl) (by kernel_rfl) (by kernel_rfl) HM6.out rfl rfl rfl ?_; intro ua7 ub7 uc7 wc7 hm7)
        obtain ⟨N7, hN7⟩ : ∃ n, fmul N3 N3 = n := ⟨_, rfl⟩
        have HN7 := hidden hN7
        have HM7 : Hid (MS Z w wc7 [(gx, ⟨true, u⟩), (ga, ⟨false, N4⟩), (ga + 1, ⟨false, N5⟩), (ga + 2, ⟨true, N7⟩), (gb, ⟨false, N6⟩), (gk, ⟨true, 121665⟩), (ge, ⟨false, N3⟩)]) := by
          show MS _ _ _ _
          rw [← hN7]
          exact hm7
        clear HM6 hN7 hm7
        go_upto_region 24 with (refine wpList_triN (callS_mul _ _) 1 1 8 8 16 91 92 93 ⟨rfl, rfl, rfl, rfl, rfl⟩ rfl rfl rfl rfl rfl rfl rfl rfl rfl rfl (by kernel_rfl) (by decide) (by kernel_rfl) (by kernel_rfl) HM7.out rfl rfl ?_; intro ua8 ub8 uc8 gf wc8 hm8)
        obtain ⟨N8, hN8⟩ : ∃ n, fmul N4 N4 = n := ⟨_, rfl⟩
        have HN8 := hidden hN8
        have HM8 : Hid (MS Z w wc8 [(gx, ⟨true, u⟩), (ga, ⟨false, N4⟩), (ga + 1, ⟨false, N5⟩), (ga + 2, ⟨true, N7⟩), (gb, ⟨false, N6⟩), (gk, ⟨true, 121665⟩), (ge, ⟨false, N3⟩), (gf, ⟨true, N8⟩)]) := by
          show MS _ _ _ _
          rw [← hN8]
          exact hm8
        clear HM7 hN8 hm8
        go_upto_region 25 with (refine wpList_triS (callS_mul _ _) 2 1 1 9 8 8 94 95 96 ⟨rfl, rfl, rfl, rfl⟩ rfl rfl rfl rfl rfl rfl rfl rfl (by kernel_rfl) (by decide) (by kernel_rfl) (by kernel_rfl) (by kernel_rfl) HM8.out rfl rfl rfl ?_; intro ua9 ub9 uc9 wc9 hm9)
        obtain ⟨N9, hN9⟩ : ∃ n, fmul N5 N4 = n := ⟨_, rfl⟩
        have HN9 := hidden hN9
        have HM9 : Hid (MS Z w wc9 [(gx, ⟨true, u⟩), (ga, ⟨true, N9⟩), (ga + 1, ⟨false, N5⟩), (ga + 2, ⟨true, N7⟩), (gb, ⟨false, N6⟩), (gk, ⟨true, 121665⟩), (ge, ⟨false, N3⟩), (gf, ⟨true, N8⟩)]) := by
          show MS _ _ _ _
          rw [← hN9]
          exact hm9
        clear HM8 hN9 hm9
        go_upto_region 26 with (refine wpList_triS (callS_mul _ _) 4 6 2 11 15 9 97 98 99 ⟨rfl, rfl, rfl, rfl⟩ rfl rfl rfl rfl rfl rfl rfl rfl (by kernel_rfl) (by decide) (by kernel_rfl) (by kernel_rfl) (by kernel_rfl) HM9.out rfl rfl rfl ?_; intro ua10 ub10 uc10 wc10 hm10)
        obtain ⟨N10, hN10⟩ : ∃ n, fmul N6 N3 = n := ⟨_, rfl⟩
        have HN10 := hidden hN10
        have HM10 : Hid (MS Z w wc10 [(gx, ⟨true, u⟩), (ga, ⟨true, N9⟩), (ga + 1, ⟨true, N10⟩), (ga + 2, ⟨true, N7⟩), (gb, ⟨false, N6⟩), (gk, ⟨true, 121665⟩), (ge, ⟨false, N3⟩), (gf, ⟨true, N8⟩)]) := by
          show MS _ _ _ _
          rw [← hN10]
          exact hm10
        clear HM9 hN10 hm10
        go_upto_region 27 with (refine wpList_triS (callS_add _ _ (by rfl) (by rfl)) 1 2 6 8 9 15 100 101 102 ⟨rfl, rfl, rfl, rfl⟩ rfl rfl rfl rfl rfl rfl rfl rfl (by kernel_rfl) (by decide) (by kernel_rfl) (by kernel_rfl) (by kernel_rfl) HM10.out rfl rfl rfl ?_; intro ua11 ub11 uc11 wc11 hm11)
        obtain ⟨N11, hN11⟩ : ∃ n, fadd N9 N10 = n := ⟨_, rfl⟩
        have HN11 := hidden hN11
        have HM11 : Hid (MS Z w wc11 [(gx, ⟨true, u⟩), (ga, ⟨true, N9⟩), (ga + 1, ⟨true, N10⟩), (ga + 2, ⟨true, N7⟩), (gb, ⟨false, N6⟩), (gk, ⟨true, 121665⟩), (ge, ⟨false, N11⟩), (gf, ⟨true, N8⟩)]) := by
          show MS _ _ _ _
          rw [← hN11]
          exact hm11
        clear HM10 hN11 hm11
        go_upto_region 28 with (refine wpList_triS (callS_sub _ _ (by rfl) (by rfl)) 1 2 1 8 9 8 103 104 105 ⟨rfl, rfl, rfl, rfl⟩ rfl rfl rfl rfl rfl rfl rfl rfl (by kernel_rfl) (by decide) (by kernel_rfl) (by kernel_rfl) (by kernel_rfl) HM11.out rfl rfl rfl ?_; intro ua12 ub12 uc12 wc12 hm12)
        obtain ⟨N12, hN12⟩ : ∃ n, fsub N9 N10 = n := ⟨_, rfl⟩
        have HN12 := hidden hN12
        have HM12 : Hid (MS Z w wc12 [(gx, ⟨true, u⟩), (ga, ⟨false, N12⟩), (ga + 1, ⟨true, N10⟩), (ga + 2, ⟨true, N7⟩), (gb, ⟨false, N6⟩), (gk, ⟨true, 121665⟩), (ge, ⟨false, N11⟩), (gf, ⟨true, N8⟩)]) := by
          show MS _ _ _ _
          rw [← hN12]
          exact hm12
        clear HM11 hN12 hm12
        go_upto_region 29 with (refine wpList_triS (callS_mul _ _) 1 1 4 8 8 11 106 107 108 ⟨rfl, rfl, rfl, rfl⟩ rfl rfl rfl rfl rfl rfl rfl rfl (by kernel_rfl) (by decide) (by kernel_rfl) (by kernel_rfl) (by kernel_rfl) HM12.out rfl rfl rfl ?_; intro ua13 ub13 uc13 wc13 hm13)
        obtain ⟨N13, hN13⟩ : ∃ n, fmul N12 N12 = n := ⟨_, rfl⟩
        have HN13 := hidden hN13
        have HM13 : Hid (MS Z w wc13 [(gx, ⟨true, u⟩), (ga, ⟨false, N12⟩), (ga + 1, ⟨true, N10⟩), (ga + 2, ⟨true, N7⟩), (gb, ⟨true, N13⟩), (gk, ⟨true, 121665⟩), (ge, ⟨false, N11⟩), (gf, ⟨true, N8⟩)]) := by
          show MS _ _ _ _
          rw [← hN13]
          exact hm13
        clear HM12 hN13 hm13
        go_upto_region 30 with (refine wpList_triS (callS_sub _ _ (by rfl) (by rfl)) 3 7 2 10 16 9 109 110 111 ⟨rfl, rfl, rfl, rfl⟩ rfl rfl rfl rfl rfl rfl rfl rfl (by kernel_rfl) (by decide) (by kernel_rfl) (by kernel_rfl) (by kernel_rfl) HM13.out rfl rfl rfl ?_; intro ua14 ub14 uc14 wc14 hm14)
        obtain ⟨N14, hN14⟩ : ∃ n, fsub N7 N8 = n := ⟨_, rfl⟩
        have HN14 := hidden hN14
        have HM14 : Hid (MS Z w wc14 [(gx, ⟨true, u⟩), (ga, ⟨false, N12⟩), (ga + 1, ⟨false, N14⟩), (ga + 2, ⟨true, N7⟩), (gb, ⟨true, N13⟩), (gk, ⟨true, 121665⟩), (ge, ⟨false, N11⟩), (gf, ⟨true, N8⟩)]) := by
          show MS _ _ _ _
          rw [← hN14]
          exact hm14
        clear HM13 hN14 hm14
        go_upto_region 31 with (refine wpList_triS (callS_mul _ _) 2 5 1 9 12 8 112 113 114 ⟨rfl, rfl, rfl, rfl⟩ rfl rfl rfl rfl rfl rfl rfl rfl (by kernel_rfl) (by decide) (by kernel_rfl) (by kernel_rfl) (by kernel_rfl) HM14.out rfl rfl rfl ?_; intro ua15 ub15 uc15 wc15 hm15)
        obtain ⟨N15, hN15⟩ : ∃ n, fmul N14 121665 = n := ⟨_, rfl⟩
        have HN15 := hidden hN15
        have HM15 : Hid (MS Z w wc15 [(gx, ⟨true, u⟩), (ga, ⟨true, N15⟩), (ga + 1, ⟨false, N14⟩), (ga + 2, ⟨true, N7⟩), (gb, ⟨true, N13⟩), (gk, ⟨true, 121665⟩), (ge, ⟨false, N11⟩), (gf, ⟨true, N8⟩)]) := by
          show MS _ _ _ _
          rw [← hN15]
          exact hm15
        clear HM14 hN15 hm15
        go_upto_region 32 with (refine wpList_triS (callS_add _ _ (by rfl) (by rfl)) 1 3 1 8 10 8 115 116 117 ⟨rfl, rfl, rfl, rfl⟩ rfl rfl rfl rfl rfl rfl rfl rfl (by kernel_rfl) (by decide) (by kernel_rfl) (by kernel_rfl) (by kernel_rfl) HM15.out rfl rfl rfl ?_; intro ua16 ub16 uc16 wc16 hm16)
        obtain ⟨N16, hN16⟩ : ∃ n, fadd N15 N7 = n := ⟨_, rfl⟩
        have HN16 := hidden hN16
        have HM16 : Hid (MS Z w wc16 [(gx, ⟨true, u⟩), (ga, ⟨false, N16⟩), (ga + 1, ⟨false, N14⟩), (ga + 2, ⟨true, N7⟩), (gb, ⟨true, N13⟩), (gk, ⟨true, 121665⟩), (ge, ⟨false, N11⟩), (gf, ⟨true, N8⟩)]) := by
          show MS _ _ _ _
          rw [← hN16]
          exact hm16
        clear HM15 hN16 hm16
        go_upto_region 33 with (refine wpList_triS (callS_mul _ _) 2 1 2 9 8 9 118 119 120 ⟨rfl, rfl, rfl, rfl⟩ rfl rfl rfl rfl rfl rfl rfl rfl (by kernel_rfl) (by decide) (by kernel_rfl) (by kernel_rfl) (by kernel_rfl) HM16.out rfl rfl rfl ?_; intro ua17 ub17 uc17 wc17 hm17)
        obtain ⟨N17, hN17⟩ : ∃ n, fmul N14 N16 = n := ⟨_, rfl⟩
        have HN17 := hidden hN17
        have HM17 : Hid (MS Z w wc17 [(gx, ⟨true, u⟩), (ga, ⟨false, N16⟩), (ga + 1, ⟨true, N17⟩), (ga + 2, ⟨true, N7⟩), (gb, ⟨true, N13⟩), (gk, ⟨true, 121665⟩), (ge, ⟨false, N11⟩), (gf, ⟨true, N8⟩)]) := by
          show MS _ _ _ _
          rw [← hN17]
          exact hm17
        clear HM16 hN17 hm17
        go_upto_region 34 with (refine wpList_triS (callS_mul _ _) 3 7 1 10 16 8 121 122 123 ⟨rfl, rfl, rfl, rfl⟩ rfl rfl rfl rfl rfl rfl rfl rfl (by kernel_rfl) (by decide) (by kernel_rfl) (by kernel_rfl) (by kernel_rfl) HM17.out rfl rfl rfl ?_; intro ua18 ub18 uc18 wc18 hm18)
        obtain ⟨N18, hN18⟩ : ∃ n, fmul N7 N8 = n := ⟨_, rfl⟩
        have HN18 := hidden hN18
        have HM18 : Hid (MS Z w wc18 [(gx, ⟨true, u⟩), (ga, ⟨true, N18⟩), (ga + 1, ⟨true, N17⟩), (ga + 2, ⟨true, N7⟩), (gb, ⟨true, N13⟩), (gk, ⟨true, 121665⟩), (ge, ⟨false, N11⟩), (gf, ⟨true, N8⟩)]) := by
          show MS _ _ _ _
          rw [← hN18]
          exact hm18
        clear HM17 hN18 hm18
        go_upto_region 35 with (refine wpList_triS (callS_mul _ _) 4 0 3 11 7 10 124 125 126 ⟨rfl, rfl, rfl, rfl⟩ rfl rfl rfl rfl rfl rfl rfl rfl (by kernel_rfl) (by decide) (by kernel_rfl) (by kernel_rfl) (by kernel_rfl) HM18.out rfl rfl rfl ?_; intro ua19 ub19 uc19 wc19 hm19)
        obtain ⟨N19, hN19⟩ : ∃ n, fmul N13 u = n := ⟨_, rfl⟩
        have HN19 := hidden hN19
        have HM19 : Hid (MS Z w wc19 [(gx, ⟨true, u⟩), (ga, ⟨true, N18⟩), (ga + 1, ⟨true, N17⟩), (ga + 2, ⟨true, N19⟩), (gb, ⟨true, N13⟩), (gk, ⟨true, 121665⟩), (ge, ⟨false, N11⟩), (gf, ⟨true, N8⟩)]) := by
          show MS _ _ _ _
          rw [← hN19]
          exact hm19
        clear HM18 hN19 hm19
        go_upto_region 36 with (refine wpList_triS (callS_mul _ _) 6 6 4 15 15 11 127 128 129 ⟨rfl, rfl, rfl, rfl⟩ rfl rfl rfl rfl rfl rfl rfl rfl (by kernel_rfl) (by decide) (by kernel_rfl) (by kernel_rfl) (by kernel_rfl) HM19.out rfl rfl rfl ?_; intro ua20 ub20 uc20 wc20 hm20)
        obtain ⟨N20, hN20⟩ : ∃ n, fmul N11 N11 = n := ⟨_, rfl⟩
        have HN20 := hidden hN20
        have HM20 : Hid (MS Z w wc20 [(gx, ⟨true, u⟩), (ga, ⟨true, N18⟩), (ga + 1, ⟨true, N17⟩), (ga + 2, ⟨true, N19⟩), (gb, ⟨true, N20⟩), (gk, ⟨true, 121665⟩), (ge, ⟨false, N11⟩), (gf, ⟨true, N8⟩)]) := by
          show MS _ _ _ _
          rw [← hN20]
          exact hm20
        clear HM19 hN20 hm20
        go_upto_region 37 with (first
          | (refine wpList_loadS (x := .tmp 8) rfl rfl (by kernel_rfl) (HM20.out.get (i := 1) rfl) ?_; intro vl21 il21)
          | (refine wpList_loadS (x := .tmp 11) rfl rfl (by kernel_rfl) (HM20.out.get (i := 4) rfl) ?_; intro vr21 ir21)
          | (refine wpList_swapS (b := bt) (vx := vl21) (vy := vr21) hbl (by rfl) (by rfl) rfl rfl (by kernel_rfl) il21 (by kernel_rfl) ir21 (by kernel_rfl) ?_; intro ra21 rb21 wa21 ja21 jb21 xa21)
          | (refine wpList_overS (x := .tmp 8) (y := .tmp 135) (v := ra21) rfl rfl rfl (by kernel_rfl) (by kernel_rfl) ja21 ((HM20.out.ext xa21).get (i := 1) rfl).any ?_; intro wb21 kb21 nb21)
          | (refine wpList_overS (x := .tmp 11) (y := .tmp 136) (v := rb21) rfl rfl rfl (by kernel_rfl) (by kernel_rfl) jb21 (((HM20.out.ext xa21).set (i := 1) rfl kb21 nb21).get (i := 4) rfl).any ?_; intro wc21 kc21 nc21))
        obtain ⟨A21, hA21⟩ : ∃ n, (if bt = 1 then N20 else N18) = n := ⟨_, rfl⟩
        obtain ⟨B21, hB21⟩ : ∃ n, (if bt = 1 then N18 else N20) = n := ⟨_, rfl⟩
        have HA21 := hidden hA21
        have HB21 := hidden hB21
        have HM21 : Hid (MS Z w wc21 [(gx, ⟨true, u⟩), (ga, ⟨true, A21⟩), (ga + 1, ⟨true, N17⟩), (ga + 2, ⟨true, N19⟩), (gb, ⟨true, B21⟩), (gk, ⟨true, 121665⟩), (ge, ⟨false, N11⟩), (gf, ⟨true, N8⟩)]) := by
          show MS _ _ _ _
          rw [← hA21, ← hB21]
          exact ((HM20.out.ext xa21).set (i := 1) rfl kb21 nb21).set (i := 4) rfl kc21 nc21
        clear HM20 hA21 hB21 il21 ir21 xa21 ja21 jb21 kb21 nb21 kc21 nc21
        go_wp2_with (first
          | (refine wpList_loadS (x := .tmp 9) rfl rfl (by kernel_rfl) (HM21.out.get (i := 2) rfl) ?_; intro vl22 il22)
          | (refine wpList_loadS (x := .tmp 10) rfl rfl (by kernel_rfl) (HM21.out.get (i := 3) rfl) ?_; intro vr22 ir22)
          | (refine wpList_swapS (b := bt) (vx := vl22) (vy := vr22) hbl (by rfl) (by rfl) rfl rfl (by kernel_rfl) il22 (by kernel_rfl) ir22 (by kernel_rfl) ?_; intro ra22 rb22 wa22 ja22 jb22 xa22)
          | (refine wpList_overS (x := .tmp 9) (y := .tmp 142) (v := ra22) rfl rfl rfl (by kernel_rfl) (by kernel_rfl) ja22 ((HM21.out.ext xa22).get (i := 2) rfl).any ?_; intro wb22 kb22 nb22)
          | (refine wpList_overS (x := .tmp 10) (y := .tmp 143) (v := rb22) rfl rfl rfl (by kernel_rfl) (by kernel_rfl) jb22 (((HM21.out.ext xa22).set (i := 2) rfl kb22 nb22).get (i := 3) rfl).any ?_; intro wc22 kc22 nc22))
        obtain ⟨A22, hA22⟩ : ∃ n, (if bt = 1 then N19 else N17) = n := ⟨_, rfl⟩
        obtain ⟨B22, hB22⟩ : ∃ n, (if bt = 1 then N17 else N19) = n := ⟨_, rfl⟩
        have HA22 := hidden hA22
        have HB22 := hidden hB22
        have HM22 : Hid (MS Z w wc22 [(gx, ⟨true, u⟩), (ga, ⟨true, A21⟩), (ga + 1, ⟨true, A22⟩), (ga + 2, ⟨true, B22⟩), (gb, ⟨true, B21⟩), (gk, ⟨true, 121665⟩), (ge, ⟨false, N11⟩), (gf, ⟨true, N8⟩)]) := by
          show MS _ _ _ _
          rw [← hA22, ← hB22]
          exact ((HM21.out.ext xa22).set (i := 2) rfl kb22 nb22).set (i := 3) rfl kc22 nc22
        clear HM21 hA22 hB22 il22 ir22 xa22 ja22 jb22 kb22 nb22 kc22 nc22
        have HQ : Hid (stepF u ((A1, A2), (B1, B2)) = ((N18, N17), (N20, N19))) := by
          show _ = _
          rw [round_step]
          have hN3 := HN3.out; subst hN3
          have hN4 := HN4.out; subst hN4
          have hN5 := HN5.out; subst hN5
          have hN6 := HN6.out; subst hN6
          have hN7 := HN7.out; subst hN7
          have hN8 := HN8.out; subst hN8
          have hN9 := HN9.out; subst hN9
          have hN10 := HN10.out; subst hN10
          have hN11 := HN11.out; subst hN11
          have hN12 := HN12.out; subst hN12
          have hN13 := HN13.out; subst hN13
          have hN14 := HN14.out; subst hN14
          have hN15 := HN15.out; subst hN15
          have hN16 := HN16.out; subst hN16
          have hN17 := HN17.out; subst hN17
          have hN18 := HN18.out; subst hN18
          have hN19 := HN19.out; subst hN19
          have hN20 := HN20.out; subst hN20
          rfl
        have HT : Hid (tlTo S u (255 - j) = ((A21, A22), (B21, B22))) := by
          show _ = _
          rw [HTL.out, show cs bt P = ((A1, A2), (B1, B2)) by rw [← HA1.out, ← HB1.out, ← HA2.out, ← HB2.out]; exact cs_parts bt hbl P, HQ.out]
          rw [← HA21.out, ← HB21.out, ← HA22.out, ← HB22.out]
          exact cs_parts bt hbl ((N18, N17), (N20, N19))
        go_roundw
        case rel =>
          refine ⟨j, by omega, by go_num, ?_⟩
          rw [HT.out]
          exact HM22.out.cut6
        case measure => simp [intOf]
    · have hq1 : ((k.length : Int) != 32) = false := by rw [hk]; rfl
      have hq2 : ((p.length : Int) != 32) = true := by rw [bne_iff_ne]; omega
      have HNO : Hid (¬ (k.length = 32 ∧ p.length = 32)) := fun h => hp h.2
      generalize (k.length = 32 ∧ p.length = 32) = ok at HNO ⊢
      rw [hk]
      clear hk hp hc1 hc3
      go_enter Tryd.func33, Tryd.ntmps33
      go_wp2
      go_ret2
      exact ⟨Below.refl _ _, fun h => absurd h HNO.out, fun _ => rfl⟩
  · have hq1 : ((k.length : Int) != 32) = true := by rw [bne_iff_ne]; omega
    have HNO : Hid (¬ (k.length = 32 ∧ p.length = 32)) := fun h => hk h.1
    clear hk hc1 hc3
    generalize (k.length = 32 ∧ p.length = 32) = ok at HNO ⊢
    go_enter Tryd.func33, Tryd.ntmps33
    go_wp2
    go_ret2
    exact ⟨Below.refl _ _, fun h => absurd h HNO.out, fun _ => rfl⟩
end
section
open Go Go.RowKit

/-- What the document tells: new bytes beside OK, or nothing beside ErrArg. -/
structure RTold (w : World) (ok : Prop) (x : List UInt8) (e : Ending) (w' : World) : Prop where
  b : Below w.heap.size w w'
  y : ok → ∃ ao cap, e = .returned (.tuple #[.slice ao 32 cap, .int .i64 0]) ∧ BSl w' (.slice ao 32 cap) x
  n : ¬ ok → e = .returned (.tuple #[.slice none 0 0, .int .i64 1])
theorem rMul_t (v1 v2 : Value) (k p : List UInt8) (w : World) (h1 : BSl w v1 k) (h2 : BSl w v2 p) :
    Calls Tryd.prog 33 #[v1, v2] w (RTold w (k.length = 32 ∧ p.length = 32) (mulL k p)) :=
  (rMul_c v1 v2 k p w h1 h2).mono fun _ _ ⟨h1, h2, h3⟩ => ⟨h1, h2, h3⟩
set_option maxHeartbeats 800000 in
set_option maxRecDepth 100000 in
theorem rBase_c (v1 : Value) (k : List UInt8) (w : World) (h1 : BSl w v1 k) :
    Calls Tryd.prog 29 #[v1] w (RTold w (k.length = 32) (mulL k nineL)) := by
  have H1 := hidden h1
  obtain ⟨ao1, cap1, rfl, hc1, hc2, _⟩ := h1
  have HMK := made_run 32 (by omega) w
  rw [show ((32 : Nat) : Int) = 32 from rfl] at HMK
  obtain ⟨ZA, hZA⟩ : ∃ ZA, ZA = (bcells (List.replicate 32 0)).toArray := ⟨_, rfl⟩
  rw [← hZA] at HMK
  have hg0 := heap_alloc_new w (.cells ZA 5)
  have hx : Below w.heap.size w (w.alloc (.cells ZA 5)) := (Below.refl _ w).alloc (Nat.le_refl _) _
  rw [hZA] at hg0
  have hc := cell_row hg0 0
  rw [show (bcells (List.replicate 32 0))[0]? = some (.int .u8 0) from rfl] at hc
  have hf := frozen_row hg0 0
  have HN : Hid (((w.alloc (.cells ZA 5)).setCell ⟨w.heap.size, 0, none⟩ (.int .u8 9)).heap[w.heap.size]? = some (.cells (bcells nineL).toArray 5 (0, 0))) := by
    show _ = _
    rw [heap_setCell_same _ _ _ _ _ _ (by rw [hZA]; exact hg0)]
    rfl
  have HB : Hid (Below w.heap.size w ((w.alloc (.cells ZA 5)).setCell ⟨w.heap.size, 0, none⟩ (.int .u8 9))) := hx.setCell (Nat.le_refl _) _
  rw [← hZA] at hc hf
  clear hg0 hx hZA
  generalize w.alloc (.cells ZA 5) = w1 at HMK hc hf HN HB
  go_enter Tryd.func29, Tryd.ntmps29
  go_wp2_with fail
  generalize w1.setCell ⟨w.heap.size, 0, none⟩ (.int .u8 9) = w2 at HN HB ⊢
  have HV2 := hidden (BSl.ofBlock HN.out (by decide))
  have HC := hidden (rMul_t _ _ k nineL w2 (H1.out.fresh HB.out) HV2.out)
  have h32 : nineL.length = 32 := by decide
  rw [show nineL.length = 32 from h32] at HC
  clear HMK hc hf h32
  refine HC.out.mono ?_
  intro e w3 hT
  have HB3 : Hid (Below w.heap.size w w3) := Below.trans HB.out (hT.b.mono HB.out.size)
  clear HC HV2 HN
  by_cases hk : k.length = 32
  · obtain ⟨ao, cap, rfl, n3⟩ := hT.y ⟨hk, rfl⟩
    have HK := hidden hk
    have HN3 := hidden n3
    clear hT hk n3
    go_wp2
    go_ret2
    exact ⟨HB3.out, fun _ => ⟨ao, cap, rfl, HN3.out⟩, fun h => absurd HK.out h⟩
  · have hn := hT.n (fun h => hk h.1)
    subst hn
    have HK := hidden hk
    clear hT hk
    go_wp2
    go_ret2
    exact ⟨HB3.out, fun h => absurd h HK.out, fun _ => rfl⟩
end
end Go.Proofs.YtookapglookphaaDoor
