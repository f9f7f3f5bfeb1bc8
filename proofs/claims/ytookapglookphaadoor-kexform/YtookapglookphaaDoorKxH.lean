/- kex: Server. -/
import Derived.Test.YtookapglookphaaDoorKxG
import Derived.Great.BuildSlice
namespace Go.Proofs.YtookapglookphaaDoor
open Go Go.RowKit

/-- What Server tells. -/
def SrvPost (w : World) (o : Int × List UInt8 × List UInt8 × List UInt8) (e : Ending) (w' : World) : Prop :=
  Below w.heap.size w w' ∧ ∃ vr vk vh, e = .returned (.tuple #[vr, .agg #[vk, vh], .int .i64 o.1]) ∧ BSl w' vr o.2.1 ∧ BSl w' vk o.2.2.1 ∧ BSl w' vh o.2.2.2
/-- The two places that Server and Client make first: the Side, and the Secret to be told. -/
structure Box (W : World) (B : Nat) (sa : Array Value) (wx : World) : Prop where
  bel : Below W.heap.size W wx
  side : wx.heap[B]? = some (.cells sa 25 (0, 0))
  sec : wx.heap[B + 1]? = some (.cells #[.slice none 0 0, .slice none 0 0] 30 (0, 0))
theorem Box.next {W : World} {B : Nat} {sa : Array Value} {wx wy : World} (h : Box W B sa wx) (hb : Below wx.heap.size wx wy) : Box W B sa wy :=
  ⟨h.bel.trans (hb.mono h.bel.size), (hb.block B (lt_of_block h.side)).trans h.side, (hb.block (B + 1) (lt_of_block h.sec)).trans h.sec⟩
theorem Box.start (w : World) (sa : Array Value) : Box w w.heap.size sa ((w.alloc (.cells sa 25)).alloc (.cells #[.slice none 0 0, .slice none 0 0] 30)) := by
  refine ⟨((Below.refl _ w).alloc (Nat.le_refl _) _).alloc (by simp) _, ?_, ?_⟩
  · rw [Below.heap_alloc _ _ _ (by simp)]
    exact heap_alloc_new w _
  · have h := heap_alloc_new (w.alloc (.cells sa 25)) (.cells #[.slice none 0 0, .slice none 0 0] 30)
    simpa using h
theorem side_cells {w : World} {B : Nat} {t : TypeId} {x0 x1 x2 x3 x4 x5 : Value} (h : w.heap[B]? = some (.cells #[x0, x1, x2, x3, x4, x5] t (0, 0))) : w.cell? ⟨B, 0, none⟩ = some x0 ∧ w.cell? ⟨B, 1, none⟩ = some x1 ∧ w.cell? ⟨B, 2, none⟩ = some x2 ∧ w.cell? ⟨B, 3, none⟩ = some x3 ∧ w.cell? ⟨B, 4, none⟩ = some x4 ∧ w.cell? ⟨B, 5, none⟩ = some x5 := by
  refine ⟨?_, ?_, ?_, ?_, ?_, ?_⟩ <;> simp [World.cell?, h]

/-- Bytes lie in no row of slices. -/
theorem BSl.apart {w : World} {R : Nat} {v x0 x1 : Value} {t : TypeId} {xs : List UInt8} (h : BSl w v xs) (hne : xs ≠ []) (hr : w.heap[R]? = some (.cells #[x0, x1] t (0, 0))) (h0 : ∀ n, x0 ≠ .int .u8 n) (h1 : ∀ n, x1 ≠ .int .u8 n) : v.ownBlock ≠ some R := by
  obtain ⟨x, r, rfl⟩ := List.exists_cons_of_ne_nil hne
  obtain ⟨b, off, cap, rfl, _, _, hb⟩ := h.cons
  have hc := h.head
  rw [hb]
  rintro e
  cases e
  unfold World.cell? at hc
  simp only [hr] at hc
  match off, hc with
  | 0, hc => simp at hc; exact h0 _ hc
  | 1, hc => simp at hc; exact h1 _ hc
  | n + 2, hc => simp at hc
theorem BSl.setSec {w : World} {R : Nat} {v x0 x1 : Value} {t : TypeId} {xs : List UInt8} (h : BSl w v xs) (hr : w.heap[R]? = some (.cells #[x0, x1] t (0, 0))) (h0 : ∀ n, x0 ≠ .int .u8 n) (h1 : ∀ n, x1 ≠ .int .u8 n) (cs : Array Value) : BSl (w.setRow R cs) v xs := by
  by_cases hne : xs = []
  · subst hne
    exact h.nothing
  · exact h.keep ((Keeps.refl (fun k => k = R) w).setRow (g := R) rfl cs) (fun k e e2 => h.apart hne hr h0 h1 (by rw [e, e2]))
theorem side_pin {W wx : World} {B : Nat} {x0 x1 x2 x3 x4 x5 : Value} (h : Box W B #[x0, x1, x2, x3, x4, x5] wx) : wx.cell? ⟨B, 1, none⟩ = some x1 := (side_cells h.side).2.1
theorem Box.done {W wx : World} {sa : Array Value} (h : Box W W.heap.size sa wx) (cs : Array Value) : (wx.setRow (W.heap.size + 1) cs).heap[W.heap.size + 1]? = some (.cells cs 30 (0, 0)) ∧ Below W.heap.size W (wx.setRow (W.heap.size + 1) cs) ∧ ∀ v xs, BSl wx v xs → BSl (wx.setRow (W.heap.size + 1) cs) v xs :=
  ⟨setRow_heap _ _ _ _ _ _ h.sec, below_setRow h.bel (by omega) _, fun v xs hv => hv.setSec h.sec (fun _ h => by cases h) (fun _ h => by cases h) cs⟩

theorem gives_build3 {o : Oper} {ρ : Operand → Value} {w : World} {Φ : Value → World → Prop} {x0 x1 x2 : Operand} {a0 a1 a2 : Option Addr} {n0 n1 n2 c0 c1 c2 : Nat} (ho : o.op = .buildSlice 35 3 #[(0, x0), (1, x1), (2, x2)]) (h0 : ρ x0 = .slice a0 n0 c0) (h1 : ρ x1 = .slice a1 n1 c1) (h2 : ρ x2 = .slice a2 n2 c2)
    (h : Φ (.slice (some ⟨w.heap.size, 0, none⟩) 3 3) (w.alloc (.cells #[.slice a0 n0 c0, .slice a1 n1 c1, .slice a2 n2 c2] 22))) : Gives Tryd.prog o ρ w Φ := by
  obtain ⟨i0, hi, hz0, hz1, hz2⟩ := info_parts infoSl
  refine Gives.value ?_ h
  unfold execOp
  simp only [ho]
  have hb := run_buildSlice (P := Tryd.prog) w 35 22 3 (#[((0 : Nat), x0), (1, x1), (2, x2)].map fun (i, x) => (i, ρ x)) #[.slice a0 n0 c0, .slice a1 n1 c1, .slice a2 n2 c2] i0 (.slice none 0 0) Tryd.underlying35 hi hz0 (by rw [hz1]; omega) (by rw [hz1]; omega) (by rw [hz1]; simp only [List.map_toArray, List.map_cons, List.map_nil, h0, h1, h2]; kernel_rfl)
  rw [Sem.run_bind, hb]
  rfl
theorem pair_eq {a a' b b' : Value} (h1 : a = a') (h2 : b = b') : #[a, b] = #[a', b'] := by rw [h1, h2]
theorem payrow_c (kind : Nat) (hk : kind ≤ 255) (G : Nat) (v0 v1 v2 : Value) (M0 M1 M2 : List UInt8) (h0 : M0.length ≤ 1000) (h1 : M1.length ≤ 1000) (h2 : M2.length ≤ 1000) (w : World) (hr : w.heap[G]? = some (.cells #[v0, v1, v2] 22 (0, 0))) (hv0 : BSl w v0 M0) (hv1 : BSl w v1 M1) (hv2 : BSl w v2 M2) :
    Calls Tryd.prog 21 #[.int .i64 kind, .slice (some ⟨G, 0, none⟩) 3 3] w fun e w' => Fresh w (payL kind (px3 M0 M1 M2) 3) e w' := by
  refine payload_c kind hk 3 G (by omega) (fun i => match i with | 0 => v0 | 1 => v1 | _ => v2) (px3 M0 M1 M2) (fun i => ?_) _ (lt_of_block hr) (fun i hi => ?_) (fun i hi => ?_)
  · match i with
    | 0 => exact h0
    | 1 => exact h1
    | _ + 2 => exact h2
  · match i, hi with
    | 0, _ => simp [World.cell?, hr]
    | 1, _ => simp [World.cell?, hr]
    | 2, _ => simp [World.cell?, hr]
  · match i, hi with
    | 0, _ => exact hv0
    | 1, _ => exact hv1
    | 2, _ => exact hv2
def pv5 (a b c d e : Value) : Nat → Value
  | 0 => a
  | 1 => b
  | 2 => c
  | 3 => d
  | _ => e
theorem px5_le (M : Nat) {a b c d e : List UInt8} (ha : a.length ≤ M) (hb : b.length ≤ M) (hc : c.length ≤ M) (hd : d.length ≤ M) (he : e.length ≤ M) (i : Nat) : (px5 a b c d e i).length ≤ M := by
  match i with
  | 0 => exact ha
  | 1 => exact hb
  | 2 => exact hc
  | 3 => exact hd
  | _ + 4 => exact he
theorem pv5_bsl {w : World} {a b c d e : Value} {A B C D E : List UInt8} (ha : BSl w a A) (hb : BSl w b B) (hc : BSl w c C) (hd : BSl w d D) (he : BSl w e E) (i : Nat) (hi : i < 5) : BSl w (pv5 a b c d e i) (px5 A B C D E i) := by
  match i, hi with
  | 0, _ => exact ha
  | 1, _ => exact hb
  | 2, _ => exact hc
  | 3, _ => exact hd
  | 4, _ => exact he
theorem bare_32 {k q : List UInt8} : (bare (mulL k q)).length ≤ 32 := by
  have := bare_le (mulL k q)
  rw [mulL_length] at this
  exact this

set_option maxHeartbeats 1600000 in
set_option maxRecDepth 100000 in
theorem Server_c (pr pin ic is vi : Value) (s0 s1 : ByteArray) (k p i1 i2 init : List UInt8) (hp : p.length ≤ 1000) (h1 : i1.length ≤ 1000) (h2 : i2.length ≤ 1000) (hs0 : s0.size ≤ 1000) (hs1 : s1.size ≤ 1000) (hin : init.length ≤ 140737488355328) (w : World) (hr : Rw w) (htp : Tp w) (hs : SideS w pr pin ic is k p i1 i2) (hv : BSl w vi init) :
    Calls Tryd.prog 8 #[.agg (sideV pr pin s0 s1 ic is), vi] w (SrvPost w (srvO k p s0 s1 i1 i2 init)) := by
  have HS := hidden hs
  have HR := hidden hr
  have HT := hidden htp
  have HV := hidden hv
  obtain ⟨a1, c1, e1⟩ := hs.pr.len
  obtain ⟨a2, c2, e2⟩ := hs.pin.len
  obtain ⟨a3, c3, e3⟩ := hs.ic.len
  obtain ⟨a4, c4, e4⟩ := hs.is.len
  obtain ⟨a5, c5, e5⟩ := hv.len
  subst e1 e2 e3 e4 e5
  obtain ⟨o, ho⟩ : ∃ o, o = srvO k p s0 s1 i1 i2 init := ⟨_, rfl⟩
  rw [← ho]
  have HO := hidden ho
  unfold sideV
  clear hs hr htp hv ho
  obtain ⟨w2, hw2⟩ : ∃ W, W = (w.alloc (.cells #[.slice a1 k.length c1, .slice a2 p.length c2, .string s0, .string s1, .slice a3 i1.length c3, .slice a4 i2.length c4] 25)).alloc (.cells #[.slice none 0 0, .slice none 0 0] 30) := ⟨_, rfl⟩
  have hx2 := Box.start w #[.slice a1 k.length c1, .slice a2 p.length c2, .string s0, .string s1, .slice a3 i1.length c3, .slice a4 i2.length c4]
  rw [← hw2] at hx2
  go_enter Tryd.func8, Tryd.ntmps8
  go_wp2_with fail
  rw [← hw2]
  have HX2 := hidden hx2
  obtain ⟨q0, q1, q2, q3, q4, q5⟩ := side_cells hx2.side
  clear hw2 hx2 q1 q2 q3 q4 q5
  have HBc := hidden (Base_c _ k w2 (HT.out.fresh HX2.out.bel) (HS.out.fresh HX2.out.bel).pr)
  rw [show mulL k nineL = baseL k from rfl] at HBc
  by_cases hk : k.length = 32
  · have HK := hidden hk
    refine HBc.out.mono ?_
    intro e w3 ht
    obtain ⟨g, rfl, hg, hgc⟩ := ht.y hk
    have HX3 := hidden (HX2.out.next ht.b)
    have HM3 := hidden (BSl.ofBlock hgc (by rw [baseL_length]; omega))
    rw [baseL_length] at HM3
    clear ht hg hgc HX2 q0 HBc hk
    go_wp2_with fail
    refine (textsOf_c 30 1 (by omega) _ init hin w3 (HV.out.fresh HX3.out.bel)).mono ?_
    intro e w4 ht
    by_cases hwf : Wf 30 1 init
    · obtain ⟨R, pv, rfl, hR1, hR2, hR3⟩ := ht.y hwf
      have HX4 := hidden (HX3.out.next ht.bel)
      have HM4 := hidden (HM3.out.fresh ht.bel)
      obtain ⟨hR4, hR5⟩ := hR3 0 (by omega)
      have HQ4 := hidden hR5
      have HPL := hidden (hwf.part_length (j := 0) (by omega))
      have HWF := hidden hwf
      obtain ⟨a6, c6, e6⟩ := hR5.len
      rw [HPL.out] at e6
      rw [e6] at HQ4 hR4
      obtain ⟨q0, q1, q2, q3, q4, q5⟩ := side_cells HX4.out.side
      clear ht hR1 hR2 hR3 hR5 HX3 HM3 hwf e6 q1 q2 q3 q4 q5
      go_wp2_with fail
      refine (number_k _ _ k (part init 0) HK.out HPL.out w4 (HT.out.fresh HX4.out.bel) (HS.out.fresh HX4.out.bel).pr HQ4.out).mono ?_
      intro e w5 ht
      have HX5 := hidden (HX4.out.next ht.bel)
      have HM5 := hidden (HM4.out.fresh ht.bel)
      have HQ5 := hidden (HQ4.out.fresh ht.bel)
      obtain ⟨r, hr⟩ : ∃ r, r = bare (mulL k (part init 0)) := ⟨_, rfl⟩
      rw [← hr] at ht
      have HRr := hidden hr
      by_cases hre : r = []
      · obtain rfl := ht.n hre
        have HOe : Hid (o = (22, [], [], [])) := by
          show _ = _
          rw [HO.out, srvO, if_pos HK.out, if_pos ((wfB_iff _ _ _).2 HWF.out), if_pos (by rw [← HRr.out]; exact hre)]
        have HD := hidden (HX5.out.done #[.slice none 0 0, .slice none 0 0])
        clear ht hr hre HX4 HM4 HQ4 HO q0 hR4
        go_wp2_with (first | (refine wpList_store_row rfl 30 (.tmp 5) (.tmp 45) rfl (w.heap.size + 1) #[.slice none 0 0, .slice none 0 0] rfl rfl 30 _ HX5.out.sec (by kernel_rfl) rfl (by simp [Value.oneCell']) ?_))
        refine bodyPost_ret (results_tmpAggTmp rfl _ _ _ (w.heap.size + 1) _ 30 (0, 0) (.slice none 0 0) (.int .i64 22) rfl rfl rfl HD.out.1 Tryd.underlying30 (by kernel_rfl)) rfl ?_
        exact ⟨HD.out.2.1, _, _, _, by rw [HOe.out], by rw [HOe.out]; exact bsl_none _, by rw [HOe.out]; exact bsl_none _, by rw [HOe.out]; exact bsl_none _⟩
      · obtain ⟨vk, rfl, hvk⟩ := ht.y hre
        have HVK := hidden hvk
        obtain ⟨ak, ck, rfl⟩ := hvk.len
        have HRL : Hid (r.length ≤ 32) := by show _ ≤ _; rw [hr]; exact bare_32
        have HOe : Hid (o = (0, repL p (baseL k) (hashK s0 s1 i1 i2 p (part init 0) (baseL k) r), r, hashK s0 s1 i1 i2 p (part init 0) (baseL k) r)) := by
          show _ = _
          rw [HO.out, srvO, if_pos HK.out, if_pos ((wfB_iff _ _ _).2 HWF.out), if_neg (by rw [← HRr.out]; exact hre), ← HRr.out]
        obtain ⟨q0, q1, q2, q3, q4, q5⟩ := side_cells HX5.out.side
        have HBL := hidden (baseL_length k)
        clear ht hr hre HX4 HM4 HQ4 HO hR4 hvk HRr HWF
        generalize part init 0 = qc at HQ5 HPL HOe
        generalize baseL k = qs at HM5 HOe HBL
        go_wp2_with fail
        refine (talk_c _ _ _ _ _ _ s0 s1 k p i1 i2 hp w5 (HR.out.fresh HX5.out.bel) (HS.out.fresh HX5.out.bel) qc qs HQ5.out HM5.out).mono ?_
        rintro e w6 ⟨v6, rfl, hv6, hb6⟩
        have HX6 := hidden (HX5.out.next hb6)
        have HM6 := hidden (HM5.out.fresh hb6)
        have HV6 := hidden hv6
        have HK6 := hidden (HVK.out.fresh hb6)
        have HQ6 := hidden (HQ5.out.fresh hb6)
        obtain ⟨a7, c7, rfl⟩ := hv6.len
        clear q0 q1 q2 q3 q4 q5 hv6 hb6 HX5 HM5 HVK HQ5
        go_wp2_with fail
        refine (Hash_c s0 s1 (pv5 _ _ _ _ _) (px5 i1 i2 (sumL p) qc qs) _ r (by omega) (by omega) (px5_le 1000000 (by omega) (by omega) (by rw [sumL_length]; omega) (by rw [HPL.out]; omega) (by rw [HBL.out]; omega)) (by have := HRL.out; omega) w6 (HR.out.fresh HX6.out.bel) (pv5_bsl (HS.out.fresh HX6.out.bel).ic (HS.out.fresh HX6.out.bel).is HV6.out HQ6.out HM6.out) HK6.out).mono ?_
        rintro e w7 ⟨v7, rfl, hv7, hb7⟩
        have HX7 := hidden (HX6.out.next hb7)
        have HM7 := hidden (HM6.out.fresh hb7)
        have HK7 := hidden (HK6.out.fresh hb7)
        have HHL : Hid ((hashK s0 s1 i1 i2 p qc qs r).length = 32) := sumL_length _
        rw [show hashL s0.data.toList s1.data.toList (px5 i1 i2 (sumL p) qc qs) r = hashK s0 s1 i1 i2 p qc qs r from rfl] at hv7
        generalize hashK s0 s1 i1 i2 p qc qs r = Hh at hv7 HOe HHL
        obtain ⟨a8, c8, rfl⟩ := ownsRow_shape hv7
        have HV7 := hidden (BSl.ofRow hv7)
        rw [HHL.out] at HV7 ⊢
        clear hv7 hb7 HX6 HM6 HV6 HK6 HQ6
        go_upto_region 12 with fail
        refine region_free [(.val (.pointer (some ⟨w.heap.size, 1, none⟩))), (.val (.slice a2 p.length c2)), (.bsl (sumL p)), (.val (.slice (some ⟨g, 0, none⟩) 32 32)), (.val (.pointer (some ⟨w.heap.size, 1, none⟩))), (.val (.slice a2 p.length c2)), (.val (.slice a8 32 c8)), (.bsl (macL p Hh)), ⟨fun v w => ∃ G u0 u2, v = .slice (some ⟨G, 0, none⟩) 3 3 ∧ w.heap[G]? = some (.cells #[u0, (.slice (some ⟨g, 0, none⟩) 32 32), u2] 22 (0, 0)) ∧ BSl w u0 (sumL p) ∧ BSl w u2 (macL p Hh), fun _ _ _ he ⟨G, u0, u2, h1, h2, h3, h4⟩ => ⟨G, u0, u2, h1, (Below.block he G (lt_of_block h2)).trans h2, h3.fresh he, h4.fresh he⟩⟩, (.bsl (payL 31 (px3 (sumL p) qs (macL p Hh)) 3)), (.bsl (payL 31 (px3 (sumL p) qs (macL p Hh)) 3))] (by kernel_rfl) ?_ ?_
        · refine req_cons (.val (.pointer (some ⟨w.heap.size, 1, none⟩))) (by kernel_rfl) (fun vs w1 he hd => StepG.plain (by kernel_rfl) (gives_side (x := .tmp 2) 1 (by decide) (by kernel_rfl) (by kernel_rfl) ⟨Ex.refl _, rfl⟩)) ?_
          refine req_cons (.val (.slice a2 p.length c2)) (by kernel_rfl) (fun vs w1 he hd => StepG.plain (by kernel_rfl) (gives_ldB (x := .tmp 53) (by kernel_rfl) (Eq.trans (b := vs 0) (by kernel_rfl) (hd 0 (.val (.pointer (some ⟨w.heap.size, 1, none⟩))) (by kernel_rfl) (by kernel_rfl))) (side_pin (HX7.out.next he)) ⟨Ex.refl _, rfl⟩)) ?_
          refine req_cons (.bsl (sumL p)) (by kernel_rfl) (fun vs w1 he hd => StepG.plain (by kernel_rfl) (gives_call (fn := Tryd.f26) (f := 26) (xs := #[.tmp 54]) (ts := #[22]) (vs := #[(.slice a2 p.length c2)]) (by kernel_rfl) (by kernel_rfl) (Eq.trans (b := #[vs 1]) (by kernel_rfl) (congrArg (fun x => #[x]) (hd 1 (.val (.slice a2 p.length c2)) (by kernel_rfl) (by kernel_rfl)))) (by kernel_rfl) (by kernel_rfl) (by kernel_rfl) (told_bytes' (Print_c _ p (by omega) w1 ((HR.out.fresh HX7.out.bel).fresh he) ((HS.out.fresh HX7.out.bel).pin.fresh he))))) ?_
          refine req_cons (.val (.slice (some ⟨g, 0, none⟩) 32 32)) (by kernel_rfl) (fun vs w1 he hd => StepG.plain (by kernel_rfl) (gives_move (x := .tmp 7) (by kernel_rfl) (by kernel_rfl) ⟨Ex.refl _, rfl⟩)) ?_
          refine req_cons (.val (.pointer (some ⟨w.heap.size, 1, none⟩))) (by kernel_rfl) (fun vs w1 he hd => StepG.plain (by kernel_rfl) (gives_side (x := .tmp 2) 1 (by decide) (by kernel_rfl) (by kernel_rfl) ⟨Ex.refl _, rfl⟩)) ?_
          refine req_cons (.val (.slice a2 p.length c2)) (by kernel_rfl) (fun vs w1 he hd => StepG.plain (by kernel_rfl) (gives_ldB (x := .tmp 57) (by kernel_rfl) (Eq.trans (b := vs 4) (by kernel_rfl) (hd 4 (.val (.pointer (some ⟨w.heap.size, 1, none⟩))) (by kernel_rfl) (by kernel_rfl))) (side_pin (HX7.out.next he)) ⟨Ex.refl _, rfl⟩)) ?_
          refine req_cons (.val (.slice a8 32 c8)) (by kernel_rfl) (fun vs w1 he hd => StepG.plain (by kernel_rfl) (gives_move (x := .tmp 12) (by kernel_rfl) (by kernel_rfl) ⟨Ex.refl _, rfl⟩)) ?_
          refine req_cons (.bsl (macL p Hh)) (by kernel_rfl) (fun vs w1 he hd => StepG.plain (by kernel_rfl) (gives_call (fn := Tryd.f27) (f := 27) (xs := #[.tmp 58, .tmp 59]) (ts := #[22, 22]) (vs := #[(.slice a2 p.length c2), (.slice a8 32 c8)]) (by kernel_rfl) (by kernel_rfl) (Eq.trans (b := #[vs 5, vs 6]) (by kernel_rfl) (pair_eq (hd 5 (.val (.slice a2 p.length c2)) (by kernel_rfl) (by kernel_rfl)) (hd 6 (.val (.slice a8 32 c8)) (by kernel_rfl) (by kernel_rfl)))) (by kernel_rfl) (by kernel_rfl) (by kernel_rfl) (told_bytes' (Mac_c _ _ p Hh (by omega) (by rw [HHL.out]; omega) w1 ((HR.out.fresh HX7.out.bel).fresh he) ((HS.out.fresh HX7.out.bel).pin.fresh he) (HV7.out.fresh he))))) ?_
          refine req_cons ⟨fun v w => ∃ G u0 u2, v = .slice (some ⟨G, 0, none⟩) 3 3 ∧ w.heap[G]? = some (.cells #[u0, (.slice (some ⟨g, 0, none⟩) 32 32), u2] 22 (0, 0)) ∧ BSl w u0 (sumL p) ∧ BSl w u2 (macL p Hh), fun _ _ _ he ⟨G, u0, u2, h1, h2, h3, h4⟩ => ⟨G, u0, u2, h1, (Below.block he G (lt_of_block h2)).trans h2, h3.fresh he, h4.fresh he⟩⟩ (by kernel_rfl) (fun vs w1 he hd => StepG.plain (by kernel_rfl) ?_) ?_
          · have hu0 : BSl w1 (vs 2) (sumL p) := (hd 2 (.bsl (sumL p)) (by kernel_rfl) (by kernel_rfl))
            have hu2 : BSl w1 (vs 7) (macL p Hh) := (hd 7 (.bsl (macL p Hh)) (by kernel_rfl) (by kernel_rfl))
            obtain ⟨b0, d0, e0⟩ := hu0.len
            obtain ⟨b2, d2, e2⟩ := hu2.len
            have hu0' := hu0
            rw [e0] at hu0'
            have hu2' := hu2
            rw [e2] at hu2'
            have hb : Below w1.heap.size w1 (w1.alloc (.cells #[.slice b0 (sumL p).length d0, (.slice (some ⟨g, 0, none⟩) 32 32), .slice b2 (macL p Hh).length d2] 22)) := (Below.refl _ w1).alloc (Nat.le_refl _) _
            exact gives_build3 (x0 := .tmp 55) (x1 := .tmp 56) (x2 := .tmp 60) (by kernel_rfl) (Eq.trans (b := vs 2) (by kernel_rfl) e0) (Eq.trans (b := vs 3) (by kernel_rfl) (hd 3 (.val (.slice (some ⟨g, 0, none⟩) 32 32)) (by kernel_rfl) (by kernel_rfl))) (Eq.trans (b := vs 7) (by kernel_rfl) e2) ⟨hb, _, _, _, rfl, heap_alloc_new w1 _, hu0'.fresh hb, hu2'.fresh hb⟩
          refine req_cons (.bsl (payL 31 (px3 (sumL p) qs (macL p Hh)) 3)) (by kernel_rfl) (fun vs w1 he hd => StepG.plain (by kernel_rfl) ?_) ?_
          · obtain ⟨G, u0, u2, e8, hrow, hu0, hu2⟩ := (hd 8 ⟨fun v w => ∃ G u0 u2, v = .slice (some ⟨G, 0, none⟩) 3 3 ∧ w.heap[G]? = some (.cells #[u0, (.slice (some ⟨g, 0, none⟩) 32 32), u2] 22 (0, 0)) ∧ BSl w u0 (sumL p) ∧ BSl w u2 (macL p Hh), fun _ _ _ he ⟨G, u0, u2, h1, h2, h3, h4⟩ => ⟨G, u0, u2, h1, (Below.block he G (lt_of_block h2)).trans h2, h3.fresh he, h4.fresh he⟩⟩ (by kernel_rfl) (by kernel_rfl))
            refine gives_call (fn := Tryd.f21) (f := 21) (xs := #[.const (.int .i64 31), .tmp 61]) (ts := #[3, 35]) (vs := #[.int .i64 31, .slice (some ⟨G, 0, none⟩) 3 3]) (by kernel_rfl) (by kernel_rfl) (Eq.trans (b := #[.int .i64 31, vs 8]) (by kernel_rfl) (congrArg (fun x => #[.int .i64 31, x]) e8)) (by kernel_rfl) (by kernel_rfl) (by kernel_rfl) (told_bytes' ?_)
            exact payrow_c 31 (by omega) G u0 (.slice (some ⟨g, 0, none⟩) 32 32) u2 (sumL p) qs (macL p Hh) (by rw [sumL_length]; omega) (by rw [HBL.out]; omega) (by rw [macL_length]; omega) w1 hrow hu0 (HM7.out.fresh he) hu2
          refine req_cons (.bsl (payL 31 (px3 (sumL p) qs (macL p Hh)) 3)) (by kernel_rfl) (fun vs w1 he hd => StepG.plain (by kernel_rfl) (gives_assign (x := .tmp 62) (v := vs 9) (by kernel_rfl) (by kernel_rfl) ⟨Ex.refl _, (hd 9 (.bsl (payL 31 (px3 (sumL p) qs (macL p Hh)) 3)) (by kernel_rfl) (by kernel_rfl))⟩)) ?_
          exact req_nil
        intro vs wz hx hF
        have hrep : BSl wz (vs 10) (payL 31 (px3 (sumL p) qs (macL p Hh)) 3) := told_at hF 10 (.bsl (payL 31 (px3 (sumL p) qs (macL p Hh)) 3)) (by decide) (by kernel_rfl)
        have HX8 := hidden (HX7.out.next hx)
        have HREP := hidden hrep
        have HK8 := hidden (HK7.out.fresh hx)
        have HV8 := hidden (HV7.out.fresh hx)
        simp only [List.length_cons, List.length_nil, actsTo, if_true, dstOf, List.getElem?_toArray, List.getElem?_cons_succ, List.getElem?_cons_zero, Option.bind_some, Act.put, List.setIfInBounds_toArray, List.set_cons_zero, List.set_cons_succ]
        have HD := hidden (HX8.out.done #[.slice ak r.length ck, .slice a8 32 c8])
        generalize vs 10 = vr at HREP ⊢
        clear hF hrep hx HX7 HM7 HK7 HV7
        go_wp2_with (first | (refine wpList_store_row rfl 30 (.tmp 5) (.tmp 66) rfl (w.heap.size + 1) #[.slice ak r.length ck, .slice a8 32 c8] rfl rfl 30 _ HX8.out.sec (by kernel_rfl) rfl (by simp [Value.oneCell']) ?_))
        refine bodyPost_ret (results_tmpAggTmp rfl _ _ _ (w.heap.size + 1) _ 30 (0, 0) vr (.int .i64 0) rfl rfl rfl HD.out.1 Tryd.underlying30 (by kernel_rfl)) rfl ?_
        exact ⟨HD.out.2.1, _, _, _, by rw [HOe.out], by rw [HOe.out]; exact HD.out.2.2 _ _ HREP.out, by rw [HOe.out]; exact HD.out.2.2 _ _ HK8.out, by rw [HOe.out]; exact HD.out.2.2 _ _ HV8.out⟩
    · obtain rfl := ht.n hwf
      have HX4 := hidden (HX3.out.next ht.bel)
      have HOe : Hid (o = (12, [], [], [])) := by
        show _ = _
        rw [HO.out, srvO, if_pos HK.out, if_neg (fun h => hwf ((wfB_iff _ _ _).1 h))]
      have HD := hidden (HX4.out.done #[.slice none 0 0, .slice none 0 0])
      clear ht hwf HO HX3 HM3
      go_wp2_with (first | (refine wpList_store_row rfl 30 (.tmp 5) (.tmp 31) rfl (w.heap.size + 1) #[.slice none 0 0, .slice none 0 0] rfl rfl 30 _ HX4.out.sec (by kernel_rfl) rfl (by simp [Value.oneCell']) ?_))
      refine bodyPost_ret (results_tmpAggTmp rfl _ _ _ (w.heap.size + 1) _ 30 (0, 0) (.slice none 0 0) (.int .i64 12) rfl rfl rfl HD.out.1 Tryd.underlying30 (by kernel_rfl)) rfl ?_
      exact ⟨HD.out.2.1, _, _, _, by rw [HOe.out], by rw [HOe.out]; exact bsl_none _, by rw [HOe.out]; exact bsl_none _, by rw [HOe.out]; exact bsl_none _⟩
  · refine HBc.out.mono ?_
    intro e w3 ht
    obtain rfl := ht.n hk
    have HX3 := hidden (HX2.out.next ht.b)
    have HOe : Hid (o = (1, [], [], [])) := by
      show _ = _
      rw [HO.out, srvO, if_neg hk]
    have HD := hidden (HX3.out.done #[.slice none 0 0, .slice none 0 0])
    clear ht hk HO HX2 q0 HBc
    go_wp2_with (first | (refine wpList_store_row rfl 30 (.tmp 5) (.tmp 22) rfl (w.heap.size + 1) #[.slice none 0 0, .slice none 0 0] rfl rfl 30 _ HX3.out.sec (by kernel_rfl) rfl (by simp [Value.oneCell']) ?_))
    refine bodyPost_ret (results_tmpAggTmp rfl _ _ _ (w.heap.size + 1) _ 30 (0, 0) (.slice none 0 0) (.int .i64 1) rfl rfl rfl HD.out.1 Tryd.underlying30 (by kernel_rfl)) rfl ?_
    exact ⟨HD.out.2.1, _, _, _, by rw [HOe.out], by rw [HOe.out]; exact bsl_none _, by rw [HOe.out]; exact bsl_none _, by rw [HOe.out]; exact bsl_none _⟩
end Go.Proofs.YtookapglookphaaDoor
