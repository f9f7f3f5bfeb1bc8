/- The document's Sum. -/
import Derived.Test.YtookapglookphaaDoorXkC
import Derived.Test.YtookapglookphaaDoorXfA
import Derived.Test.YtookapglookphaaDoorXfB
import Derived.Deep.RegionHeld3
import Derived.Deep.CutBlock
import Derived.BigQuiet
import Derived.Deep.QuietTactic
namespace Go.Proofs.YtookapglookphaaDoor
section
open Go Go.RowKit

/-- The document's next word, and round, in its own order of sums. -/
theorem nextW_ref (a b c d : Int) : (a + smF b + c + smN d) % 4294967296 = (smN d + c + smF b + a) % 4294967296 := by
  congr 1
  omega
theorem round_ref (a b c d e f g h k x : Int) : [((h + bigE e + choice e f g + k + x) % 4294967296 + (bigA a + major a b c) % 4294967296) % 4294967296, a, b, c, (d + (h + bigE e + choice e f g + k + x) % 4294967296) % 4294967296, e, f, g] = roundL [a, b, c, d, e, f, g, h] ((x + k) % 4294967296) := by
  unfold roundL
  congr 1
  · omega
  · congr 4
    omega
/-- The table's places and what is laid there. -/
def kParts : List (Nat × Value) := (wcells kL).zipIdx.map fun x => (x.2, x.1)
theorem k_built : Tryd.prog.built 104 kParts = some (wcells kL).toArray := by kernel_rfl
theorem wpList_table {ops : Array Oper} {rest : List Oper} {o : Oper} {a : Act} {w : World} {Q : Exit → Act → World → Prop} (hg : o.guard = none) (parts : Array (Nat × Operand)) (ho : o.op = .build 104 parts) (hp : (parts.map fun (i, x) => (i, a.eval x)).toList = kParts)
    (KA : Array Value) (hK : (wcells kL).toArray = KA) (h : wpList Tryd.prog ops Q rest (a.put o.dst (.agg KA)) w) : wpList Tryd.prog ops Q (o :: rest) a w :=
  wpList_plain hg fun _ hK2 => by
    unfold Oper.wp execOp
    simp only [ho]
    rw [Sem.run_bind, run_build w _ _ KA (by rw [hp, k_built, hK])]
    exact hK2 _ _ h
/-- The document's table. -/
theorem kL_row : (Tryd.prog.info? 104).map (·.size) = some (wcells kL).toArray.size ∧ (wcells kL).toArray.all (·.oneCell') = true ∧ 64 = (wcells kL).toArray.size := by
  obtain ⟨h1, h2, h3⟩ := row64 (L := kL) rfl
  exact ⟨h1, h2, rfl⟩
set_option maxHeartbeats 800000 in
set_option maxRecDepth 100000 in
theorem constants_c (w : World) : Calls Tryd.prog 68 #[] w fun e w' => e = .returned (.agg (wcells kL).toArray) ∧ Below w.heap.size w w' := by
  obtain ⟨KA, hKA⟩ : ∃ KA, (wcells kL).toArray = KA := ⟨_, rfl⟩
  obtain ⟨h1, h2, h3⟩ := kL_row
  rw [hKA] at h1 h2 h3 ⊢
  have HKA := hidden hKA
  have H1 := hidden h1
  have H2 := hidden h2
  have H3 := hidden h3
  clear h1 h2 h3 hKA
  have HB : Hid (Below w.heap.size w (w.alloc (.cells KA 104))) := (Below.refl _ w).alloc (by omega) _
  go_enter Tryd.func68, Tryd.ntmps68
  go_wp2_with (first
    | (refine wpList_table rfl _ rfl (by kernel_rfl) KA HKA.out ?_)
    | (refine wpList_store_row rfl 104 (.tmp 0) (.tmp 1) rfl w.heap.size KA rfl rfl 104 _ (heap_alloc_new w _) H1.out H3.out H2.out ?_; rw [World.setRow_alloc_new]))
  (try simp only [Exit.inBlock, Exit.then])
  refine bodyPost_ret (results_cell1 rfl _ _ _ w.heap.size KA 104 (0, 0) 64 89 rfl (heap_alloc_new w _) Tryd.underlying104 H1.out) rfl ?_
  exact ⟨rfl, HB.out⟩
end
section
open Go Go.RowKit

/-- A word turned to the right by m bits. -/
def rotI (m x : Int) : Int := rr (2 ^ (32 - m.toNat)) (2 ^ m.toNat) x
theorem turn_i (x m : Int) (hm : m = 6 ∨ m = 11 ∨ m = 25 ∨ m = 2 ∨ m = 13 ∨ m = 22 ∨ m = 17 ∨ m = 19 ∨ m = 7 ∨ m = 18) (w : World) : Calls Tryd.prog 69 #[.int .u32 x, .int .u64 m] w fun e w' => e = .returned (.int .u32 (rotI m x)) ∧ w' = w := by
  rcases hm with rfl | rfl | rfl | rfl | rfl | rfl | rfl | rfl | rfl | rfl
  · exact turn6_c x w
  · exact turn11_c x w
  · exact turn25_c x w
  · exact turn2_c x w
  · exact turn13_c x w
  · exact turn22_c x w
  · exact turn17_c x w
  · exact turn19_c x w
  · exact turn7_c x w
  · exact turn18_c x w
theorem rot_smF (x : Int) : x32 (x32 (rotI 7 x) (rotI 18 x)) (x / 8) = smF x := rfl
theorem rot_smN (x : Int) : x32 (x32 (rotI 17 x) (rotI 19 x)) (x / 1024) = smN x := rfl
theorem rot_bigE (x : Int) : x32 (x32 (rotI 6 x) (rotI 11 x)) (rotI 25 x) = bigE x := rfl
theorem rot_bigA (x : Int) : x32 (x32 (rotI 2 x) (rotI 13 x)) (rotI 22 x) = bigA x := rfl

/-- While a block is taken in: the sum so far, the block's words. -/
structure QIk (wB wx : World) (HB A : Nat) (L W : List Int) : Prop where
  h : WB wx HB 106 L
  n : WB wx A 104 W
  k : Keeps (fun k => k = HB) wB wx
  ha : wB.heap.size ≤ A
  hb : HB < wB.heap.size
theorem QIk.start {wB wr : World} {HB : Nat} {L : List Int} (h : WB wr HB 106 L) (k : Keeps (fun k => k = HB) wB wr) (hb : HB < wB.heap.size) : QIk wB (wr.alloc (.cells (wcells zero64).toArray 104)) HB wr.heap.size L zero64 := by
  refine ⟨?_, heap_alloc_new wr _, k.alloc _, k.size, hb⟩
  unfold WB
  rw [Below.heap_alloc _ _ _ (lt_of_block h)]
  exact h
theorem QIk.set {wB wx : World} {HB A : Nat} {L W : List Int} (h : QIk wB wx HB A L W) (i : Nat) (x : Int) : QIk wB (wx.setCell ⟨A, i, none⟩ (.int .u32 x)) HB A L (W.set i x) := by
  have ha := h.ha
  have hb := h.hb
  have hk := (Keeps.refl (fun k => k = A) wx).setCell (p := ⟨A, i, none⟩) (.inl rfl) (.int .u32 x)
  exact ⟨h.h.keep hk (by omega), h.n.set i x, h.k.setCell (.inr ha) _, ha, hb⟩
theorem QIk.drew {wB wx : World} {HB A : Nat} {L W : List Int} (h : QIk wB wx HB A L W) : QIk wB wx.drew HB A L W := ⟨h.h, h.n, h.k.drew, h.ha, h.hb⟩
/-- With the mixed words. -/
structure QV (wB wx : World) (HB A V : Nat) (L W M : List Int) : Prop where
  q : QIk wB wx HB A L W
  v : WB wx V 106 M
  hv : wB.heap.size ≤ V
  ne : V ≠ A
theorem QV.start {wB wr : World} {HB A : Nat} {L W : List Int} (h : QIk wB wr HB A L W) : QV wB (wr.alloc (.cells (wcells L).toArray 106)) HB A wr.heap.size L W L := by
  have h1 := lt_of_block h.h
  have h2 := lt_of_block h.n
  refine ⟨⟨?_, ?_, h.k.alloc _, h.ha, h.hb⟩, heap_alloc_new wr _, h.k.size, by omega⟩
  · unfold WB
    rw [Below.heap_alloc _ _ _ h1]
    exact h.h
  · unfold WB
    rw [Below.heap_alloc _ _ _ h2]
    exact h.n
theorem QV.drew {wB wx : World} {HB A V : Nat} {L W M : List Int} (h : QV wB wx HB A V L W M) : QV wB wx.drew HB A V L W M := ⟨h.q.drew, h.v, h.hv, h.ne⟩
theorem QV.mixed {wB wx : World} {HB A V : Nat} {L W M M' : List Int} (h : QV wB wx HB A V L W M) : QV wB (wx.setRow V (wcells M').toArray) HB A V L W M' := by
  have ha := h.q.ha
  have hb := h.q.hb
  have hv := h.hv
  have hne := h.ne
  refine ⟨⟨?_, ?_, ?_, ha, hb⟩, setRow_heap wx V _ _ _ _ h.v, hv, hne⟩
  · unfold WB
    rw [setRow_other _ _ _ _ (by omega)]
    exact h.q.h
  · unfold WB
    rw [setRow_other _ _ _ _ (by omega)]
    exact h.q.n
  · exact h.q.k.thn (T := fun k => k = V) ⟨rfl, rfl, rfl, by simp, fun i _ hn => setRow_other wx V i _ hn⟩ (by intro i e; omega)
theorem QV.added {wB wx : World} {HB A V : Nat} {L W M : List Int} (h : QV wB wx HB A V L W M) (i : Nat) (x : Int) : QV wB (wx.setCell ⟨HB, i, none⟩ (.int .u32 x)) HB A V (L.set i x) W M := by
  have ha := h.q.ha
  have hb := h.q.hb
  have hv := h.hv
  have hk := (Keeps.refl (fun k => k = HB) wx).setCell (p := ⟨HB, i, none⟩) (.inl rfl) (.int .u32 x)
  exact ⟨⟨h.q.h.set i x, h.q.n.keep hk (by omega), h.q.k.setCell (.inl rfl) _, ha, hb⟩, h.v.keep hk (by omega), hv, h.ne⟩
theorem Own.lit0' (w : World) : Own w (w.alloc (.cells #[] 5)) (.slice (some ⟨w.heap.size, 0, none⟩) 0 0) [] := ⟨own_empty w, (Below.refl _ w).alloc (by omega) _⟩
theorem drop_at (M : List UInt8) (t k : Nat) (hk : k < 64) : ((M.drop (64 * t)).take 64).getD k 0 = M.getD (64 * t + k) 0 := by
  simp only [List.getD_eq_getElem?_getD, List.getElem?_take, List.getElem?_drop, if_pos hk]
end
section
open Go Go.RowKit

theorem row8r {L : List Int} (h : L.length = 8) : (Tryd.prog.info? 106).map (·.size) = some (wcells L).toArray.size ∧ (wcells L).toArray.all (·.oneCell') = true ∧ 8 = (wcells L).toArray.size := by
  have hpl : (wcells L).toArray.size = 8 := by rw [List.size_toArray, wcells_length]; omega
  exact ⟨by rw [hpl]; kernel_rfl, by simp [wcells, Value.oneCell'], by rw [hpl]⟩
theorem kept_set {w : World} {A mm p : Nat} {v x : Value} (h : w.cell? ⟨A, p, none⟩ = some x) (hne : p ≠ mm) : (w.setCell ⟨A, mm, none⟩ v).cell? ⟨A, p, none⟩ = some x := by
  rw [World.cell?_setCell_other w _ _ v (fun e => hne (by cases e; rfl))]
  exact h
theorem wrap3 (a b c d : Int) : IntKind.u32.wrap (IntKind.u32.wrap (IntKind.u32.wrap (a + b) + c) + d) = (a + b + c + d) % 4294967296 := by
  simp [IntKind.wrap, IntKind.bits, IntKind.signed]
theorem mod3 (a b c d : Int) : (((a + b) % 4294967296 + c) % 4294967296 + d) % 4294967296 = (a + b + c + d) % 4294967296 := by
  omega
theorem wrap1 (a : Int) : IntKind.u32.wrap a = a % 4294967296 := by
  simp [IntKind.wrap, IntKind.bits, IntKind.signed]
theorem wrap5 (a b c d e : Int) : IntKind.u32.wrap (IntKind.u32.wrap (IntKind.u32.wrap (IntKind.u32.wrap (a + b) + c) + d) + e) = (a + b + c + d + e) % 4294967296 := by
  simp [IntKind.wrap, IntKind.bits, IntKind.signed]
def wB' (x : Int) : List UInt8 := wB x
theorem wBl (x : Int) : (wB' x).length = 4 := rfl
theorem wrapB (x : Int) : IntKind.u8.wrap x = x % 256 := by
  simp [IntKind.wrap, IntKind.bits, IntKind.signed]
theorem wB_cells2 (x : Int) : (#[.int .u8 (IntKind.u8.wrap (x / 16777216)), .int .u8 (IntKind.u8.wrap (x / 65536)), .int .u8 (IntKind.u8.wrap (x / 256)), .int .u8 (IntKind.u8.wrap x)] : Array Value) = (bcells (wB' x)).toArray := by
  rw [wrapB, wrapB, wrapB, wrapB]
  exact wB_cells x
theorem step_own (w : World) {ops : Array Oper} {o : Oper} {a : Act} {K : Act → World → Prop} {Q : Exit → Act → World → Prop} {E : Prop} (hgd : o.guard = none) (s xo : Operand) (tx : TypeId)
    (ho : o.op = .call { callee := .builtin .append, args := #[s, xo], argTypes := #[22, tx] })
    (w0 : World) (v : Value) (xs : List UInt8) (hsv : a.eval s = v) (h : Own w0 w v xs) (x : Value) (news : List UInt8) (hx : a.eval xo = x) (hs : Src Tryd.prog 1 tx x news.length (bcells news) w)
    (hl : xs.length + news.length ≤ 140737488355328)
    (hK : ∀ v' w', Own w0 w' v' (xs ++ news) → w.grownBy w' v.ownBlock → K (a.put o.dst v') w') : if Region.wanted o (yielded ops a.tmps) = true then Oper.wp Tryd.prog o a w K Q else E := by
  obtain ⟨i0, hi, hz0, hz1, hz2⟩ := info_parts Tryd.infoU8
  refine step_append_src w hgd s xo 22 tx ho w0.heap.size 5 i0 _ 1 Tryd.underlying22 hi hz0 hz1 hz2 rfl v _ _ hsv h.row x _ _ hx hs (by unfold maxLen; omega) (by omega) h.b.size w.heap.size rfl ?_
  intro v' w' h1 h2 _ _
  refine hK v' w' ⟨?_, h.b.grown h2 h.b.size (fun k hk => (h.row.lt k hk).1)⟩ h2
  rw [List.length_append, bcells_append]
  exact h1
theorem QV.drewN {wB wx : World} {HB A V : Nat} {L W M : List Int} (h : QV wB wx HB A V L W M) (n : Nat) : QV wB (wx.drewN n) HB A V L W M := by
  induction n with
  | zero => exact h
  | succ n ih => exact ih.drew
theorem zN_any (n k : Nat) : (n + 1 + k) % 64 = 56 ∧ k ≤ zN n → k = zN n := by
  unfold zN
  intro h
  omega
theorem zN_end (n : Nat) : (n + 1 + zN n) % 64 = 56 := by
  unfold zN
  omega

set_option maxHeartbeats 64000000 in
set_option maxRecDepth 100000 in
theorem rSum_c (v : Value) (xs : List UInt8) (hl : xs.length ≤ 1000000000) (w : World) (hv : BSl w v xs) :
    Calls Tryd.prog 35 #[v] w fun e w' => Fresh w (sumL xs) e w' := by
  have HV := hidden hv
  obtain ⟨ao, cap, rfl⟩ := hv.len
  have HS : Hid (sumL xs = outB (blocksTo iv (xs ++ padTail xs.length) (blocksN xs.length)) 8) := rfl
  generalize sumL xs = S at HS ⊢
  clear hv
  obtain ⟨KA, hKA⟩ : ∃ KA, (wcells kL).toArray = KA := ⟨_, rfl⟩
  obtain ⟨k1, k2, k3⟩ := kL_row
  obtain ⟨i1, i2, i3⟩ := row8r iv_length
  rw [hKA] at k1 k2 k3
  have HKA := hidden hKA
  have K1 := hidden k1
  have K2 := hidden k2
  have K3 := hidden k3
  have I1 := hidden i1
  have I2 := hidden i2
  have I3 := hidden i3
  clear hKA k1 k2 k3 i1 i2 i3
  go_enter Tryd.func35, Tryd.ntmps35
  go_upto_region 2 with (first
    | (go_at_call 68; refine (constants_c _).mono ?_; rintro e w1 ⟨rfl, hb1⟩; rw [HKA.out])
    | (refine wpList_store_row rfl 104 (.tmp 3) (.tmp 24) rfl w1.heap.size KA rfl rfl 104 _ (heap_alloc_new w1 _) K1.out K3.out K2.out ?_; rw [World.setRow_alloc_new]))
  have HB1 : Hid (Below w.heap.size w (w1.alloc (.cells KA 104))) := hb1.alloc hb1.size _
  have HK1 : Hid (WB (w1.alloc (.cells KA 104)) w1.heap.size 104 kL) := by
    unfold WB
    rw [HKA.out]
    exact hidden (heap_alloc_new w1 _)
  have hs1 : (w1.alloc (.cells KA 104)).heap.size = w1.heap.size + 1 := by simp
  have hs0 := hb1.size
  generalize w1.alloc (.cells KA 104) = w2 at HB1 HK1 hs1 ⊢
  generalize w1.heap.size = KB at HK1 hs1 hs0 ⊢
  clear hb1
  go_upto_region 3 with fail
  change Code.wp _ _ _ _ (w2.alloc (.cells (wcells iv).toArray 106))
  have hh3 : WB (w2.alloc (.cells (wcells iv).toArray 106)) w2.heap.size 106 iv := heap_alloc_new w2 _
  have hk3 : WB (w2.alloc (.cells (wcells iv).toArray 106)) KB 104 kL := by
    unfold WB
    rw [Below.heap_alloc _ _ _ (lt_of_block HK1.out)]
    exact HK1.out
  have HB3 : Hid (Below w.heap.size w (w2.alloc (.cells (wcells iv).toArray 106))) := HB1.out.alloc HB1.out.size _
  have hs3 : (w2.alloc (.cells (wcells iv).toArray 106)).heap.size = w2.heap.size + 1 := by simp
  rw [hs1] at hh3 hs3
  generalize w2.alloc (.cells (wcells iv).toArray 106) = w3 at hh3 hk3 HB3 hs3 ⊢
  have HH3 := hidden hh3
  have HK3 := hidden hk3
  have HS3 := hidden hs3
  clear hh3 hk3 hs3 hs1 HK1 HB1 K1 K2 K3 I1 I2 I3
  go_wp2_with (at_builtin; (refine wpList_own _ rfl (.tmp 26) (.tmp 27) 22 rfl w3 _ [] rfl (Own.lit0' w3) _ xs rfl ((HV.out.fresh HB3.out).alloc _).src (by simp; omega) ?_))
  intro v4 w4 o4 _ _
  have O4 : Hid (Own w3 w4 v4 xs) := o4
  clear o4
  go_wp2_with (at_builtin; (refine wpList_own _ rfl (.tmp 28) (.tmp 29) 22 rfl w3 _ xs rfl (O4.out.alloc _) _ [128] rfl (src_lit [128]) (by simp; omega) ?_))
  intro v5 w5 o5 _ _
  have O5 := hidden o5
  clear o5 O4
  go_wp2_with fail
  generalize hq0 : xs.length = n at *
  go_loopw [5] (fun s wr => ∃ k : Nat, k ≤ zN n ∧ Own w3 wr s (xs ++ 128 :: List.replicate k 0)) (fun s _ => n + 1 + zN n - sliceLen s)
  case atStart => exact ⟨0, by omega, O5.out⟩
  case round =>
    clear O5
    obtain ⟨k, hk, ho⟩ := hrel
    have HO := hidden ho
    obtain ⟨ao5, cp, rfl⟩ := ho.shape
    have hlen : (xs ++ 128 :: List.replicate k 0).length = n + 1 + k := by simp; omega
    rw [hlen] at HO ⊢
    have hzl := zN_le n
    have hst := zN_any n k
    have hat := zN_end n
    obtain ⟨q, hq⟩ : ∃ q, q = n + 1 + k := ⟨_, rfl⟩
    rw [← hq] at HO hlen hst ⊢
    have HL := hidden hlen
    have HQ := hidden hq
    clear ho hlen
    by_cases hlt : k < zN n
    · have hne : ((q : Int) % 64 != 56) = true := by
        simp
        omega
      have hql : q ≤ 2000000000 := by omega
      clear hst hat hq
      go_wp2_with (at_builtin; refine wpList_own _ rfl (.tmp 35) (.tmp 36) 22 rfl w3 _ (xs ++ 128 :: List.replicate k 0) rfl (HO.out.alloc _) _ [0] rfl (src_lit [0]) (by rw [HL.out]; simp; omega) ?_)
      intro v6 w6 o6 _ _
      have O6 := hidden o6
      obtain ⟨ao2, cp2, e2⟩ := o6.shape
      have E2 := hidden e2
      clear o6 e2
      go_wp2
      go_roundw
      case rel =>
        refine ⟨k + 1, by omega, ?_⟩
        rw [List.replicate_succ']
        exact O6.out
      case measure =>
        rw [E2.out]
        have := HL.out
        have := HQ.out
        simp only [sliceLen, List.length_append, List.length_cons, List.length_nil] at *
        omega
    · obtain rfl : k = zN n := by omega
      have hne : ((q : Int) % 64 != 56) = false := by
        have := hat
        simp
        omega
      have hql : q ≤ 2000000000 := by omega
      clear hst hat hq
      generalize hDe : xs ++ 128 :: List.replicate (zN n) 0 = D at HO HL
      have HDe := hidden hDe
      clear hDe
      go_wp2_with fail
      rw [show (n : Int) * 8 = ((8 * n : Nat) : Int) by omega]
      have HP : Hid (padTail n = 128 :: List.replicate (zN n) 0 ++ be 8 (8 * n)) := rfl
      have hm8 : 8 * n ≤ 8000000000 := by omega
      generalize 8 * n = m at HP hm8 ⊢
      go_loopw [5, 7] (fun s c wr => ∃ j : Nat, j ≤ 8 ∧ c = .int .i64 (8 - (j : Int)) ∧ ∃ pre, pre ++ be j m = be 8 m ∧ Own w3 wr s (D ++ pre)) (fun _ c _ => (8 - intOf c).toNat)
      case atStart => exact ⟨8, Nat.le_refl _, by go_num, [], rfl, by simpa using HO.out⟩
      case round =>
        clear HO
        obtain ⟨j, hj, rfl, pre, hpre, ho⟩ := hrel
        match j, hj, hpre with
        | i + 1, hj, hpre =>
          have hpl : pre.length + (i + 1) = 8 := by have := congrArg List.length hpre; simpa [be_length] using this
          have HPr := hidden hpre
          have HO := hidden ho
          have HLn : Hid ((D ++ pre).length + 1 ≤ 3000000000) := by show _ ≤ _; rw [List.length_append, HL.out]; omega
          clear hpre ho
          rw [show (8 - ((i + 1 : Nat) : Int)) = ((7 - i : Nat) : Int) from by omega]
          have hp2 : ((7 - i : Nat) : Int) < 8 := by omega
          have e56 : (56 - 8 * ((7 - i : Nat) : Int)) = ((8 * i : Nat) : Int) := by omega
          have hp0 : (0 : Int) ≤ ((8 * i : Nat) : Int) := Int.natCast_nonneg _
          have hp1 : ((8 * i : Nat) : Int) < 64 := by omega
          generalize hDP : D ++ pre = DP at HO HLn
          have HDP := hidden hDP
          clear hDP hpl
          generalize hci : 7 - i = ci at e56 hp2 ⊢
          have HCI := hidden hci
          clear hci
          go_wp2_with (at_builtin; (refine wpList_own _ rfl (.tmp 46) (.tmp 54) 22 rfl w3 _ DP rfl (HO.out.alloc _) _ [UInt8.ofNat (m / 256 ^ i % 256)] rfl ?hc ?hl ?_))
          case hl => have := HLn.out; simp only [List.length_cons, List.length_nil]; omega
          case hc => exact srcBlock (be_cell2 m i) (heap_alloc_new wr _)
          intro v6 w6 o6 _ _
          have O6 := hidden o6
          clear o6
          go_wp2
          go_roundw
          case rel =>
            refine ⟨i, by omega, by have := HCI.out; go_num, pre ++ [UInt8.ofNat (m / 256 ^ i % 256)], by rw [← HPr.out]; simp [be], ?_⟩
            rw [← List.append_assoc, HDP.out]
            exact O6.out
          case measure => have := HCI.out; simp [intOf]; omega
        | 0, _, hpre =>
          have HF : Hid (D ++ pre = xs ++ padTail n) := by
            show _ = _
            rw [show be 0 m = [] from rfl, List.append_nil] at hpre
            rw [hpre, HP.out, ← HDe.out, List.append_assoc]
          have HO := hidden ho
          rw [HF.out] at HO
          clear hpre ho HP HDe HL HQ HF
          rw [show (8 - ((0 : Nat) : Int)) = 8 from rfl]
          have hMl : (xs ++ padTail n).length = 64 * blocksN n := by rw [List.length_append, padTail_length, hq0, ← blocksN_len]; omega
          have hMne : xs ++ padTail n ≠ [] := by intro e; rw [e] at hMl; have := blocksN_len n; simp at hMl; omega
          obtain ⟨g, cm, e5, hor⟩ := ORow.ofOwns HO.out.row hMne
          subst e5
          have hgb := hor.1
          have hcm := hor.2.1
          have HM0 := hidden hor.bsl
          have hNB : blocksN n ≤ 20000000 := by have := blocksN_len n; have := zN_le n; omega
          have HB4 := hidden (HB3.out.trans (HO.out.b.mono HB3.out.size))
          have HH4 := hidden (HH3.out.keep (S := fun _ => False) (Keeps.ofFresh HO.out.b) (fun h => h))
          have HK4 := hidden (HK3.out.keep (S := fun _ => False) (Keeps.ofFresh HO.out.b) (fun h => h))
          have hg1 : g ≠ KB + 1 := by have := HS3.out; omega
          have hHB : KB + 1 < wr.heap.size := lt_of_block HH4.out
          rw [hMl] at hcm HM0 ⊢
          generalize hMM : xs ++ padTail n = M at *
          clear hMM hor HO HH3 HK3 HB3 hgb hMne HV
          generalize blocksN n = NB at *
          obtain ⟨HB, hHBe⟩ : ∃ HB, HB = KB + 1 := ⟨_, rfl⟩
          rw [← hHBe] at HH4 hg1 hHB ⊢
          have hKH : KB ≠ HB := by omega
          have HML := hidden hMl
          obtain ⟨wB, eB⟩ : ∃ x, x = wr := ⟨wr, rfl⟩
          subst eB
          have hs0' : w.heap.size ≤ HB := by omega
          clear hMl hHBe hs0 HS3
          go_wp2_with fail
          go_loopw [8] (fun c wx => ∃ t : Nat, t ≤ NB ∧ c = .int .i64 ((64 * t : Nat) : Int) ∧ WB wx HB 106 (blocksTo iv M t) ∧ Keeps (fun k => k = HB) wB wx) (fun c _ => 64 * NB - (intOf c).toNat)
          case atStart => exact ⟨0, by omega, rfl, HH4.out, Keeps.refl _ _⟩
          case round =>
            clear HH4
            obtain ⟨t, ht, rfl, hh, hkp⟩ := hrel
            have HHt := hidden hh
            have HKp := hidden hkp
            clear hh hkp
            by_cases hlt3 : t < NB
            · have hlt4 : ((64 * t : Nat) : Int) < ((64 * NB : Nat) : Int) := by omega
              have HQ0 := hidden (QIk.start HHt.out HKp.out hHB)
              have HX : Hid (blocksTo iv M (t + 1) = plusTo (blocksTo iv M t) (mixTo (blocksTo iv M t) (words ((M.drop (64 * t)).take 64)) 64) 8) := rfl
              have hLl : (blocksTo iv M t).length = 8 := by rw [blocksTo_length]; rfl
              have HBe : Hid (∀ i, i < 16 → beAt ((M.drop (64 * t)).take 64) (4 * i) = beW (M.getD (64 * t + 4 * i) 0).toNat (M.getD (64 * t + 4 * i + 1) 0).toNat (M.getD (64 * t + 4 * i + 2) 0).toNat (M.getD (64 * t + 4 * i + 3) 0).toNat) := fun i hi => by
                unfold beAt
                rw [drop_at _ _ _ (by omega), drop_at _ _ _ (by omega), drop_at _ _ _ (by omega), drop_at _ _ _ (by omega)]
                rfl
              have HNx : Hid (blocksTo iv M (t + 1) = blocksTo iv M (t + 1)) := rfl
              generalize (M.drop (64 * t)).take 64 = X at HX HBe
              generalize hL0 : blocksTo iv M t = L at HQ0 HX hLl HHt
              generalize hL1 : blocksTo iv M (t + 1) = L1 at HX
              have HL1 : Hid (L1 = blocksTo iv M (t + 1)) := hL1.symm
              clear hL1
              have HLl := hidden hLl
              clear hL0 hLl HNx
              go_upto_region 15 with fail
              change Code.wp _ _ _ _ (wr.alloc (.cells (wcells zero64).toArray 104))
              generalize wr.alloc (.cells (wcells zero64).toArray 104) = wq at HQ0 ⊢
              generalize wr.heap.size = A at HQ0 ⊢
              generalize ha64 : 64 * t = at64 at hlt4 HBe ⊢
              have HA64 := hidden ha64
              clear ha64
              have HAt : Hid (at64 + 64 ≤ 64 * NB) := by have := HA64.out; show _ ≤ _; omega
              obtain ⟨wt, et⟩ : ∃ x, x = wr := ⟨wr, rfl⟩
              subst et
              go_wp2_with fail
              go_loopw [10] (fun c wx => ∃ i : Nat, i ≤ 16 ∧ c = .int .i64 (i : Int) ∧ QIk wB wx HB A L (fillTo X i)) (fun c _ => 16 - (intOf c).toNat)
              case atStart => exact ⟨0, by omega, rfl, HQ0.out⟩
              case round =>
                clear HQ0
                obtain ⟨i, hi, rfl, hqi⟩ := hrel
                have HQ := hidden hqi
                clear hqi
                by_cases hlt5 : i < 16
                · have hlt6 : (i : Int) < 16 := by omega
                  have hat := HAt.out
                  have hmw := HM0.out.keep HQ.out.k (fun k e h => by simp [Value.ownBlock] at e; omega)
                  have hMl := HML.out
                  have k0 := hmw.cellD (at64 + 4 * i) (by omega)
                  have k1 := hmw.cellD (at64 + 4 * i + 1) (by omega)
                  have k2 := hmw.cellD (at64 + 4 * i + 2) (by omega)
                  have k3 := hmw.cellD (at64 + 4 * i + 3) (by omega)
                  rw [Nat.zero_add] at k0 k1 k2 k3
                  have HE : Hid (fillTo X (i + 1) = (fillTo X i).set i (beW (M.getD (at64 + 4 * i) 0).toNat (M.getD (at64 + 4 * i + 1) 0).toNat (M.getD (at64 + 4 * i + 2) 0).toNat (M.getD (at64 + 4 * i + 3) 0).toNat)) := by
                    show _ = _
                    rw [fillTo, HBe.out i hlt5]
                  have cg := HQ.out.n.cell i (by rw [fillTo_length]; omega)
                  have fz := HQ.out.n.frozen i
                  generalize (M.getD (at64 + 4 * i) 0).toNat = b0 at k0 HE
                  generalize (M.getD (at64 + 4 * i + 1) 0).toNat = b1 at k1 HE
                  generalize (M.getD (at64 + 4 * i + 2) 0).toNat = b2 at k2 HE
                  generalize (M.getD (at64 + 4 * i + 3) 0).toNat = b3 at k3 HE
                  generalize (fillTo X i).getD i 0 = old at cg
                  have lo1 : at64 + 4 * i + 4 ≤ 64 * NB := by omega
                  have lo2 : ¬ cm = at64 + 4 * i := by omega
                  have lo3 : ((at64 : Int) + 4 * (i : Int)) ≤ ((64 * NB : Nat) : Int) := by omega
                  have lo4 : at64 ≤ 2000000000 := by omega
                  have lo5 : 64 * NB ≤ 2000000000 := by omega
                  clear hmw hMl hat
                  generalize 64 * NB = NM at lo1 lo3 lo5 hlt4 ⊢
                  go_wp2_with fail
                  go_big_region
                  go_wp2
                  go_roundw
                  case rel =>
                    refine ⟨i + 1, by omega, by go_num, ?_⟩
                    rw [HE.out]
                    exact (HQ.out.set i _).drew
                  case measure => simp [intOf]; omega
                · have hlt6 : ¬ (i : Int) < 16 := by omega
                  obtain rfl : i = 16 := by omega
                  clear HBe HM0
                  go_wp2_with fail
                  go_loopw [12] (fun c wx => ∃ j : Nat, j ≤ 48 ∧ c = .int .i64 ((16 + j : Nat) : Int) ∧ QIk wB wx HB A L (schTo X j)) (fun c _ => 64 - (intOf c).toNat)
                  case atStart => exact ⟨0, by omega, rfl, HQ.out⟩
                  case round =>
                    clear HQ
                    obtain ⟨j, hj, rfl, hqi⟩ := hrel
                    have HQ := hidden hqi
                    clear hqi
                    by_cases hlt7 : j < 48
                    · have hlt8 : ((16 + j : Nat) : Int) < 64 := by omega
                      have hlen := schTo_length X j
                      have c2 := HQ.out.n.cell (16 + j - 2) (by omega)
                      have c15 := HQ.out.n.cell (16 + j - 15) (by omega)
                      have c7 := HQ.out.n.cell (16 + j - 7) (by omega)
                      have c16 := HQ.out.n.cell (16 + j - 16) (by omega)
                      have cg := HQ.out.n.cell (16 + j) (by omega)
                      have fz := HQ.out.n.frozen (16 + j)
                      have HE : Hid (schTo X (j + 1) = (schTo X j).set (16 + j) ((smN ((schTo X j).getD (16 + j - 2) 0) + (schTo X j).getD (16 + j - 7) 0 + smF ((schTo X j).getD (16 + j - 15) 0) + (schTo X j).getD (16 + j - 16) 0) % 4294967296)) := rfl
                      clear hlen
                      generalize (schTo X j).getD (16 + j - 2) 0 = y2 at c2 HE
                      generalize (schTo X j).getD (16 + j - 7) 0 = y7 at c7 HE
                      generalize (schTo X j).getD (16 + j - 15) 0 = y15 at c15 HE
                      generalize (schTo X j).getD (16 + j - 16) 0 = y16 at c16 HE
                      generalize (schTo X j).getD (16 + j) 0 = old at cg
                      have hm0 : 16 ≤ 16 + j := by omega
                      have hm1 : 16 + j < 64 := by omega
                      have HMs : Hid (∀ x : Int, QIk wB (wr.setCell ⟨A, 16 + j, none⟩ (.int .u32 x)) HB A L ((schTo X j).set (16 + j) x)) := fun x => HQ.out.set (16 + j) x
                      generalize hme : 16 + j = mm at hlt8 c2 c7 c15 c16 HE cg fz hm0 hm1 HMs ⊢
                      have HME := hidden hme
                      clear hme
                      rw [← nextW_ref] at HE
                      obtain ⟨p16, hp16⟩ : ∃ p, p = mm - 16 := ⟨_, rfl⟩
                      obtain ⟨p7, hp7⟩ : ∃ p, p = mm - 7 := ⟨_, rfl⟩
                      rw [← hp16] at c16
                      rw [← hp7] at c7
                      have hw16 : IntKind.i64.wrap ((mm : Int) - 16) = (p16 : Int) := by rw [IntKind.wrap_i64]; omega
                      have hw7 : IntKind.i64.wrap ((mm : Int) - 7) = (p7 : Int) := by rw [IntKind.wrap_i64]; omega
                      have bp16 : (p16 : Int) < 64 := by omega
                      have bp7 : (p7 : Int) < 64 := by omega
                      have np16 : (0 : Int) ≤ (p16 : Int) := by omega
                      have np7 : (0 : Int) ≤ (p7 : Int) := by omega
                      have nmm : (0 : Int) ≤ (mm : Int) := by omega
                      have NE1 : Hid (p16 ≠ mm) := by show _ ≠ _; omega
                      have NE2 : Hid (p7 ≠ mm) := by show _ ≠ _; omega
                      clear hp16 hp7
                      go_wp2_with fail
                      go_region_held3 (fun w' => w'.cell? ⟨A, p16, none⟩ = some (.int .u32 y16) ∧ w'.cell? ⟨A, p7, none⟩ = some (.int .u32 y7))
                        (first | exact ⟨c16, c7⟩ | assumption | exact ⟨kept_set c16 NE1.out, kept_set c7 NE2.out⟩)
                        (first | (go_at_call 69; refine (turn_i _ _ (by decide) _).mono ?_; rintro e wt2 ⟨rfl, rfl⟩))
                      go_wp2
                      go_roundw
                      case rel =>
                        refine ⟨j + 1, by omega, by have := HME.out; go_num, ?_⟩
                        rw [HE.out]
                        rw [mod3]
                        exact (HMs.out _).drew
                      case measure => simp [intOf]; omega
                    · have hlt8 : ¬ ((16 + j : Nat) : Int) < 64 := by omega
                      obtain rfl : j = 48 := by omega
                      have HQw : Hid (QIk wB wr HB A L (words X)) := HQ.out
                      have HWl := hidden (words_length X)
                      generalize words X = W at HQw HWl HX
                      clear HQ
                      have hQh : wr.heap[HB]? = some (.cells (wcells L).toArray 106 (0, 0)) := HQw.out.h
                      have HQh := hidden hQh
                      obtain ⟨l1, l2, l3⟩ := row8r HLl.out
                      have L1' := hidden l1
                      have L2' := hidden l2
                      have L3' := hidden l3
                      have HV0 := hidden (QV.start HQw.out)
                      have HN1 : Hid (∀ o, (wr.alloc o).heap[wr.heap.size]? = some o) := fun o => heap_alloc_new wr o
                      clear hQh l1 l2 l3 HQw
                      generalize hLA : (wcells L).toArray = LA at HQh L1' L2' L3' HV0
                      have HLA := hidden hLA
                      clear hLA
                      go_upto_region 27 with (first
                        | (refine wpList_loadRow rfl 106 (.tmp 4) rfl HB LA 106 (0, 0) 8 89 rfl HQh.out Tryd.underlying106 L1'.out ?_)
                        | (refine wpList_store_row rfl 106 (.tmp 15) (.tmp 137) rfl wr.heap.size LA rfl rfl 106 _ (HN1.out _) L1'.out L3'.out L2'.out ?_; rw [World.setRow_alloc_new]))
                      generalize wr.alloc (.cells LA 106) = wv at HV0 ⊢
                      generalize wr.heap.size = V at HV0 ⊢
                      clear HN1 HQh L1' L2' L3'
                      obtain ⟨wt5, et5⟩ : ∃ x, x = wr := ⟨wr, rfl⟩
                      subst et5
                      go_wp2_with fail
                      go_loopw [16] (fun c wx => ∃ j : Nat, j ≤ 64 ∧ c = .int .i64 (j : Int) ∧ QV wB wx HB A V L W (mixTo L W j)) (fun c _ => 64 - (intOf c).toNat)
                      case atStart => exact ⟨0, by omega, rfl, HV0.out⟩
                      case round =>
                        clear HV0
                        obtain ⟨j, hj, rfl, hqv⟩ := hrel
                        have HQ := hidden hqv
                        clear hqv
                        by_cases hlt9 : j < 64
                        · have hlt10 : (j : Int) < 64 := by omega
                          have hml : (mixTo L W j).length = 8 := by rw [mixTo_length]; exact HLl.out
                          have HRr : Hid (mixTo L W (j + 1) = roundL (mixTo L W j) ((W.getD j 0 + kL.getD j 0) % 4294967296)) := rfl
                          have hv := HQ.out.v
                          have cw := HQ.out.q.n.cell j (by rw [HWl.out]; omega)
                          have ck := (HK4.out.keep HQ.out.q.k hKH).cell j hlt9
                          have HMx : Hid (∀ n M', QV wB ((wr.drewN n).setRow V (wcells M').toArray) HB A V L W M') := fun n M' => (HQ.out.drewN n).mixed
                          generalize W.getD j 0 = xw at cw HRr
                          generalize kL.getD j 0 = xk at ck HRr
                          generalize hM1 : mixTo L W (j + 1) = M1 at HRr
                          have HM1 : Hid (mixTo L W (j + 1) = M1) := hM1
                          clear hM1
                          generalize mixTo L W j = M0 at hv hml HRr
                          obtain ⟨a, b, c, d, e, f, gg, h, rfl⟩ := list8 hml
                          have c0 := hv.cell 0 (by simp)
                          have c1 := hv.cell 1 (by simp)
                          have c2 := hv.cell 2 (by simp)
                          have c3 := hv.cell 3 (by simp)
                          have c4 := hv.cell 4 (by simp)
                          have c5 := hv.cell 5 (by simp)
                          have c6 := hv.cell 6 (by simp)
                          have c7 := hv.cell 7 (by simp)
                          simp only [List.getD_cons_zero, List.getD_cons_succ] at c0 c1 c2 c3 c4 c5 c6 c7
                          have HVV := hidden hv
                          have hsg : ¬ IntKind.u32.signed = true := by decide
                          have njj : (0 : Int) ≤ (j : Int) := by omega
                          clear hv hml HQ
                          go_wp2_with fail
                          go_quiet (first | (go_at_call 69; exact Calls.quiet_of_same (turn_i _ _ (by decide) _)))
                          have HT1 : Hid (((h + bits BinOp.xor IntKind.u32 (bits BinOp.xor IntKind.u32 (rotI 6 e) (rotI 11 e)) (rotI 25 e) + bits BinOp.xor IntKind.u32 (bits BinOp.and IntKind.u32 e f) (bits BinOp.and IntKind.u32 (bits BinOp.xor IntKind.u32 IntKind.u32.max e) gg) + xk) % 4294967296 + xw) % 4294967296 = (h + bigE e + choice e f gg + xk + xw) % 4294967296) := by
                            show ((h + bigE e + choice e f gg + xk) % 4294967296 + xw) % 4294967296 = (h + bigE e + choice e f gg + xk + xw) % 4294967296
                            omega
                          generalize ((h + bits BinOp.xor IntKind.u32 (bits BinOp.xor IntKind.u32 (rotI 6 e) (rotI 11 e)) (rotI 25 e) + bits BinOp.xor IntKind.u32 (bits BinOp.and IntKind.u32 e f) (bits BinOp.and IntKind.u32 (bits BinOp.xor IntKind.u32 IntKind.u32.max e) gg) + xk) % 4294967296 + xw) % 4294967296 = T1 at HT1 ⊢
                          generalize hwq : wr.drewN nq = wq
                          have q0 : wq.cell? ⟨V, 0, none⟩ = some (.int .u32 a) := by rw [← hwq]; exact c0
                          have q1 : wq.cell? ⟨V, 1, none⟩ = some (.int .u32 b) := by rw [← hwq]; exact c1
                          have q2 : wq.cell? ⟨V, 2, none⟩ = some (.int .u32 c) := by rw [← hwq]; exact c2
                          have q3 : wq.cell? ⟨V, 3, none⟩ = some (.int .u32 d) := by rw [← hwq]; exact c3
                          have q4 : wq.cell? ⟨V, 4, none⟩ = some (.int .u32 e) := by rw [← hwq]; exact c4
                          have q5 : wq.cell? ⟨V, 5, none⟩ = some (.int .u32 f) := by rw [← hwq]; exact c5
                          have q6 : wq.cell? ⟨V, 6, none⟩ = some (.int .u32 gg) := by rw [← hwq]; exact c6
                          have q7 : wq.cell? ⟨V, 7, none⟩ = some (.int .u32 h) := by rw [← hwq]; exact c7
                          have HVq : Hid (wq.heap[V]? = _) := (show wq.heap[V]? = wr.heap[V]? by rw [← hwq]; rfl).trans HVV.out
                          have HMq : Hid (∀ n M', QV wB ((wq.drewN n).setRow V (wcells M').toArray) HB A V L W M') := fun n M' => by rw [← hwq, World.drewN_drewN]; exact HMx.out _ _
                          clear hwq c0 c1 c2 c3 c4 c5 c6 c7 HVV HMx ck cw
                          go_wp2_with fail
                          go_quiet (first | (go_at_call 69; exact Calls.quiet_of_same (turn_i _ _ (by decide) _)))
                          have HT2 : Hid ((bits BinOp.xor IntKind.u32 (bits BinOp.xor IntKind.u32 (rotI 2 a) (rotI 13 a)) (rotI 22 a) + bits BinOp.xor IntKind.u32 (bits BinOp.xor IntKind.u32 (bits BinOp.and IntKind.u32 a b) (bits BinOp.and IntKind.u32 a c)) (bits BinOp.and IntKind.u32 b c)) % 4294967296 = (bigA a + major a b c) % 4294967296) := rfl
                          generalize (bits BinOp.xor IntKind.u32 (bits BinOp.xor IntKind.u32 (rotI 2 a) (rotI 13 a)) (rotI 22 a) + bits BinOp.xor IntKind.u32 (bits BinOp.xor IntKind.u32 (bits BinOp.and IntKind.u32 a b) (bits BinOp.and IntKind.u32 a c)) (bits BinOp.and IntKind.u32 b c)) % 4294967296 = T2 at HT2 ⊢
                          have HR1 : Hid (M1 = [(T1 + T2) % 4294967296, a, b, c, (d + T1) % 4294967296, e, f, gg]) := by
                            show _ = _
                            rw [HRr.out, ← round_ref, HT1.out, HT2.out]
                          go_wp2_with (refine wpList_store_row rfl 106 (.tmp 15) (.tmp 219) rfl V (wcells [(T1 + T2) % 4294967296, a, b, c, (d + T1) % 4294967296, e, f, gg]).toArray rfl rfl 106 _ HVq.out (by kernel_rfl) (by rfl) (by simp [wcells, Value.oneCell']) ?_)
                          go_roundw
                          case rel =>
                            refine ⟨j + 1, by omega, by go_num, ?_⟩
                            rw [HM1.out, HR1.out]
                            exact HMq.out _ _
                          case measure => simp [intOf]; omega
                        · have hlt10 : ¬ (j : Int) < 64 := by omega
                          obtain rfl : j = 64 := by omega
                          have HMl : Hid ((mixTo L W 64).length = 8) := by show _ = _; rw [mixTo_length]; exact HLl.out
                          generalize mixTo L W 64 = M6 at HQ HX HMl
                          clear HK4 HWl
                          go_wp2_with fail
                          go_loopw [21] (fun c wx => ∃ j : Nat, j ≤ 8 ∧ c = .int .i64 (j : Int) ∧ QV wB wx HB A V (plusTo L M6 j) W M6) (fun c _ => 8 - (intOf c).toNat)
                          case atStart => exact ⟨0, by omega, rfl, HQ.out⟩
                          case round =>
                            clear HQ
                            obtain ⟨j, hj, rfl, hqv⟩ := hrel
                            have HQ := hidden hqv
                            clear hqv
                            by_cases hlt11 : j < 8
                            · have hlt12 : (j : Int) < 8 := by omega
                              have c1 := HQ.out.q.h.cell j (by rw [plusTo_length, HLl.out]; omega)
                              have c2 := HQ.out.v.cell j (by rw [HMl.out]; omega)
                              have fz := HQ.out.q.h.frozen j
                              have HE : Hid (plusTo L M6 (j + 1) = (plusTo L M6 j).set j (((plusTo L M6 j).getD j 0 + M6.getD j 0) % 4294967296)) := rfl
                              generalize (plusTo L M6 j).getD j 0 = x1 at c1 HE
                              generalize M6.getD j 0 = x2 at c2 HE
                              go_wp2_with fail
                              refine region_ord [0,1,2,4,5,3,6,7,8,9] (by kernel_rfl) (by kernel_rfl) fun K9 H9 => ?_
                              simp only [List.filterMap_cons, List.filterMap_nil, List.getElem?_toArray, List.getElem?_cons_succ, List.getElem?_cons_zero]
                              go_wp2
                              go_roundw
                              case rel =>
                                refine ⟨j + 1, by omega, by go_num, ?_⟩
                                rw [HE.out]
                                exact (HQ.out.added j _).drew
                              case measure => simp [intOf]; omega
                            · have hlt12 : ¬ (j : Int) < 8 := by omega
                              obtain rfl : j = 8 := by omega
                              have HQh := hidden HQ.out.q.h
                              have HQk := hidden HQ.out.q.k
                              rw [← HX.out] at HQh
                              clear HQ
                              have hat2 := HAt.out
                              have lo4 : at64 ≤ 2000000000 := by omega
                              go_wp2
                              go_roundw
                              case rel => exact ⟨t + 1, by omega, by have := HA64.out; go_num, HL1.out ▸ HQh.out, HQk.out⟩
                              case measure => have := HA64.out; simp [intOf]; omega
            · have hlt4 : ¬ ((64 * t : Nat) : Int) < ((64 * NB : Nat) : Int) := by omega
              obtain rfl : t = NB := by omega
              have HBl := hidden (blocksTo_length iv M t)
              generalize blocksTo iv M t = Hf at HHt HS HBl
              have HBw := hidden (HB4.out.trans (HKp.out.below (B := w.heap.size) HB4.out.size (by intro k e; omega)))
              clear HKp HB4 HK4 HM0 HML
              obtain ⟨wO, eO⟩ : ∃ x, x = wr := ⟨wr, rfl⟩
              subst eO
              have hHO : HB < wO.heap.size := lt_of_block HHt.out
              go_wp2_with fail
              go_loopw [22, 23] (fun s c wx => ∃ j : Nat, j ≤ 8 ∧ c = .int .i64 (j : Int) ∧ Own wO wx s (outB Hf j)) (fun _ c _ => 8 - (intOf c).toNat)
              case atStart => exact ⟨0, by omega, rfl, Own.nothing wO⟩
              case round =>
                obtain ⟨j, hj, rfl, ho⟩ := hrel
                have HO := hidden ho
                clear ho
                by_cases hlt13 : j < 8
                · have hlt14 : (j : Int) < 8 := by omega
                  have c1 := (HHt.out.keep (S := fun _ => False) (Keeps.ofFresh HO.out.b) (fun h => h)).cell j (by rw [HBl.out]; exact hlt13)
                  have HE : Hid (outB Hf (j + 1) = outB Hf j ++ wB' (Hf.getD j 0)) := rfl
                  have HLn := hidden (outB_length Hf j)
                  generalize Hf.getD j 0 = x at c1 HE
                  generalize outB Hf j = D' at HO HE HLn
                  have njj : (0 : Int) ≤ (j : Int) := by omega
                  have hHr : HB < wr.heap.size := by have := HO.out.b.size; omega
                  have HNe := fun (k : Nat) e => (HO.out.row.lt k e).1
                  go_wp2_with fail
                  go_region_held3 (fun w' => w'.cell? ⟨HB, j, none⟩ = some (.int .u32 x))
                    (first | exact c1 | assumption | go_keep | (rw [hgrow1.cell_far _ (by simp; omega) (by intro e; have := HNe _ e.symm; simp at this; omega)]; assumption))
                    ((first | (refine step_own _ (by rfl) (.tmp 237) (.tmp 257) 22 (by rfl) wO _ D' (by rfl) ((HO.out.alloc _).drew) _ (wB' x) (by rfl) (srcBlock (wB_cells2 x) (heap_alloc_new wr _)) (by rw [HLn.out, wBl]; omega) ?_; intro v1 w1 ho1 hgrow1)))
                  have O1 := hidden ho1
                  clear ho1 hgrow1
                  go_wp2
                  go_roundw
                  case rel => exact ⟨j + 1, by omega, by go_num, by rw [HE.out]; exact O1.out⟩
                  case measure => simp [intOf]; omega
                · have hlt14 : ¬ (j : Int) < 8 := by omega
                  obtain rfl : j = 8 := by omega
                  rw [← HS.out] at HO
                  go_wp2
                  go_ret
                  exact Fresh.next HBw.out HO.out.fresh
end
end Go.Proofs.YtookapglookphaaDoor
