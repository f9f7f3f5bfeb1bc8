/- The document's curve: inverse, swap, read. -/
import Derived.Test.YtookapglookphaaDoorXcB
import Derived.Test.YtookapglookphaaDoorXcC
import Derived.Test.YtookapglookphaaDoorXcD
import Derived.Test.YtookapglookphaaDoorXpA
namespace Go.Proofs.YtookapglookphaaDoor
section
open Go Go.RowKit

/-- The block g holds a number of the document's, carried. -/
def C16 (w : World) (g a : Nat) : Prop := ∃ R, IB w g 96 R ∧ Rc R a
/-- .. or a sum or difference. -/
def B16 (w : World) (g a : Nat) : Prop := ∃ R, IB w g 96 R ∧ Rb R a
/-- .. or whatever. -/
def A16 (w : World) (g : Nat) : Prop := ∃ R : List Int, IB w g 96 R ∧ R.length = 16
theorem C16.any {w : World} {g a : Nat} (h : C16 w g a) : A16 w g := by obtain ⟨R, h1, h2⟩ := h; exact ⟨R, h1, h2.len⟩
theorem B16.any {w : World} {g a : Nat} (h : B16 w g a) : A16 w g := by obtain ⟨R, h1, h2⟩ := h; exact ⟨R, h1, h2.len⟩
theorem C16.ext {w w' : World} {g a : Nat} (h : C16 w g a) (he : Ex w w') : C16 w' g a := by obtain ⟨R, h1, h2⟩ := h; exact ⟨R, h1.fresh he, h2⟩
theorem B16.ext {w w' : World} {g a : Nat} (h : B16 w g a) (he : Ex w w') : B16 w' g a := by obtain ⟨R, h1, h2⟩ := h; exact ⟨R, h1.fresh he, h2⟩
theorem A16.ext {w w' : World} {g : Nat} (h : A16 w g) (he : Ex w w') : A16 w' g := by obtain ⟨R, h1, h2⟩ := h; exact ⟨R, h1.fresh he, h2⟩
theorem C16.keep {S : Nat → Prop} {w w' : World} {g a : Nat} (h : C16 w g a) (hk : Keeps S w w') (hn : ¬ S g) : C16 w' g a := by obtain ⟨R, h1, h2⟩ := h; exact ⟨R, h1.keep hk hn, h2⟩
theorem B16.keep {S : Nat → Prop} {w w' : World} {g a : Nat} (h : B16 w g a) (hk : Keeps S w w') (hn : ¬ S g) : B16 w' g a := by obtain ⟨R, h1, h2⟩ := h; exact ⟨R, h1.keep hk hn, h2⟩
theorem A16.keep {S : Nat → Prop} {w w' : World} {g : Nat} (h : A16 w g) (hk : Keeps S w w') (hn : ¬ S g) : A16 w' g := by obtain ⟨R, h1, h2⟩ := h; exact ⟨R, h1.keep hk hn, h2⟩
theorem C16.lt {w : World} {g a : Nat} (h : C16 w g a) : g < w.heap.size := by obtain ⟨R, h1, _⟩ := h; exact h1.lt
theorem IB.range {w : World} {g : Nat} {t : TypeId} {L : List Int} (h : IB w g t L) : w.rangeAt g 0 (icells L) := fun j v hv => by
  rw [Nat.zero_add, cell_row h]
  exact hv
theorem gives_loadI {o : Oper} {ρ : Operand → Value} {w : World} {x : Operand} {g : Nat} {R : List Int} {Φ : Value → World → Prop} (ho : o.op = .load 96 x) (hx : ρ x = .pointer (some ⟨g, 0, none⟩))
    (hr : IB w g 96 R) (hl : R.length = 16) (h : Φ (.agg (icells R).toArray) w) : Gives Tryd.prog o ρ w Φ := by
  refine Gives.value (w' := w) (v := .agg (icells R).toArray) ?_ h
  unfold execOp
  simp only [ho, hx]
  rw [Sem.run_bind, run_loadAt_mid w g 0 96 _ _ hr.range Tryd.underlying96 rfl (by rw [icells_length, hl]; kernel_rfl)]
  rfl
theorem gives_allocI {o : Oper} {ρ : Operand → Value} {w : World} {Φ : Value → World → Prop} (ho : o.op = .alloc 96)
    (h : Φ (.pointer (some ⟨w.heap.size, 0, none⟩)) (w.alloc (.cells (icells Z16).toArray 96))) : Gives Tryd.prog o ρ w Φ := by
  refine Gives.value ?_ h
  unfold execOp
  simp only [ho]
  have hz : (zeroValue 96).run Tryd.prog w = .ok (.agg (icells Z16).toArray) w := (zero_of_info (P := Tryd.prog) (t := 96) (v := .agg (icells Z16).toArray) (n := 16) (by kernel_rfl)).1 w
  simp [Instr.alloc, hz, newVar]
  rfl
section
variable {ops : Array Oper} {rest : List Oper} {o o2 : Oper} {a : Act} {w : World} {Q : Exit → Act → World → Prop} {x y : Operand}
theorem wpList_loadC {g n : Nat} {d : Tmp} (_ : o.dst = some d) (hg : o.guard = none) (ho : o.op = .load 96 x) (hx : a.eval x = .pointer (some ⟨g, 0, none⟩)) (hb : C16 w g n)
    (h : ∀ v, IsC v n → wpList Tryd.prog ops Q rest (a.put o.dst v) w) : wpList Tryd.prog ops Q (o :: rest) a w := by
  obtain ⟨R, h1, h2⟩ := hb
  exact wpList_gives (Φ := fun v w' => IsC v n ∧ w' = w) hg (gives_loadI ho hx h1 h2.len ⟨⟨R, rfl, h2⟩, rfl⟩) fun v w' ⟨hv, e⟩ => by rw [e]; exact h v hv
theorem wpList_loadB {g n : Nat} {d : Tmp} (_ : o.dst = some d) (hg : o.guard = none) (ho : o.op = .load 96 x) (hx : a.eval x = .pointer (some ⟨g, 0, none⟩)) (hb : B16 w g n)
    (h : ∀ v, IsB v n → wpList Tryd.prog ops Q rest (a.put o.dst v) w) : wpList Tryd.prog ops Q (o :: rest) a w := by
  obtain ⟨R, h1, h2⟩ := hb
  exact wpList_gives (Φ := fun v w' => IsB v n ∧ w' = w) hg (gives_loadI ho hx h1 h2.len ⟨⟨R, rfl, h2⟩, rfl⟩) fun v w' ⟨hv, e⟩ => by rw [e]; exact h v hv
theorem wpList_rmul {n m : Nat} {ts : Array TypeId} {vx vy : Value} (hg : o.guard = none) (ho : o.op = .call { callee := .value (.func 65), args := #[x, y], argTypes := ts }) (ex : a.eval x = vx) (hx : IsB vx n) (ey : a.eval y = vy) (hy : IsB vy m)
    (h : ∀ v w', IsC v (fmul n m) → Ex w w' → wpList Tryd.prog ops Q rest (a.put o.dst v) w') : wpList Tryd.prog ops Q (o :: rest) a w :=
  wpList_gives (Φ := fun v w' => IsC v (fmul n m) ∧ Ex w w') hg (gives_call (vs := #[vx, vy]) ho rfl (by simp [ex, ey]) Tryd.func65 (by kernel_rfl) (by kernel_rfl) ((rmul_c hx hy w).mono fun _ _ ⟨v, h1, h2, h3⟩ => ⟨v, h1, h2, h3⟩)) fun v w' hv => h v w' hv.1 hv.2
theorem wpList_radd {n m : Nat} {ts : Array TypeId} {vx vy : Value} (hg : o.guard = none) (ho : o.op = .call { callee := .value (.func 63), args := #[x, y], argTypes := ts }) (ex : a.eval x = vx) (hx : IsC vx n) (ey : a.eval y = vy) (hy : IsC vy m)
    (h : ∀ v w', IsB v (fadd n m) → Ex w w' → wpList Tryd.prog ops Q rest (a.put o.dst v) w') : wpList Tryd.prog ops Q (o :: rest) a w :=
  wpList_gives (Φ := fun v w' => IsB v (fadd n m) ∧ Ex w w') hg (gives_call (vs := #[vx, vy]) ho rfl (by simp [ex, ey]) Tryd.func63 (by kernel_rfl) (by kernel_rfl) ((radd_c hx hy w).mono fun _ _ ⟨v, h1, h2, h3⟩ => ⟨v, h1, h2, h3⟩)) fun v w' hv => h v w' hv.1 hv.2
theorem wpList_rsub {n m : Nat} {ts : Array TypeId} {vx vy : Value} (hg : o.guard = none) (ho : o.op = .call { callee := .value (.func 64), args := #[x, y], argTypes := ts }) (ex : a.eval x = vx) (hx : IsC vx n) (ey : a.eval y = vy) (hy : IsC vy m)
    (h : ∀ v w', IsB v (fsub n m) → Ex w w' → wpList Tryd.prog ops Q rest (a.put o.dst v) w') : wpList Tryd.prog ops Q (o :: rest) a w :=
  wpList_gives (Φ := fun v w' => IsB v (fsub n m) ∧ Ex w w') hg (gives_call (vs := #[vx, vy]) ho rfl (by simp [ex, ey]) Tryd.func64 (by kernel_rfl) (by kernel_rfl) ((rsub_c hx hy w).mono fun _ _ ⟨v, h1, h2, h3⟩ => ⟨v, h1, h2, h3⟩)) fun v w' hv => h v w' hv.1 hv.2
/-- A number laid into a place. -/
theorem wpList_overC {n g : Nat} {v : Value} (hg : o.guard = none) (ho : o.op = .store 96 x y) (hd : o.dst = none) (hx : a.eval x = .pointer (some ⟨g, 0, none⟩)) (hy : a.eval y = v) (hn : IsC v n) (hb : A16 w g)
    (h : ∀ w', Keeps (fun k => k = g) w w' → C16 w' g n → wpList Tryd.prog ops Q rest a w') : wpList Tryd.prog ops Q (o :: rest) a w := by
  obtain ⟨R, rfl, ht⟩ := hn
  obtain ⟨R0, hb, ht0⟩ := hb
  obtain ⟨z1, y1, _⟩ := row16 R ht.len
  have hz : (icells R0).toArray.size = (icells R).toArray.size := by rw [List.size_toArray, List.size_toArray, icells_length, icells_length, ht.len, ht0]
  refine wpList_store_row hg 96 _ _ ho g (icells R).toArray hx hy 96 _ hb z1 hz y1 ?_
  rw [hd]
  refine h _ ⟨rfl, rfl, rfl, by simp, fun k _ hk => setRow_other _ _ _ _ hk⟩ ⟨R, ?_, ht⟩
  unfold IB
  rw [setRow_heap _ _ _ _ _ _ hb]
/-- A new place, and a number laid into it. -/
theorem wpList_newC {n : Nat} {d e : Tmp} {v : Value} (hg : o.guard = none ∧ o2.guard = none) (ho : o.op = .alloc 96) (ho2 : o2.op = .store 96 (.tmp d) (.tmp e)) (hd : o.dst = some d) (hd2 : o2.dst = none)
    (hs : decide (d < a.tmps.size) = true) (hv : a.eval (.tmp e) = v) (hn : IsC v n) (hde : d ≠ e)
    (h : ∀ g w', Ex w w' → C16 w' g n → w.heap.size ≤ g → wpList Tryd.prog ops Q rest (a.put (some d) (.pointer (some ⟨g, 0, none⟩))) w') : wpList Tryd.prog ops Q (o :: o2 :: rest) a w := by
  obtain ⟨R, rfl, ht⟩ := hn
  refine wpList_gives (Φ := fun u w' => u = .pointer (some ⟨w.heap.size, 0, none⟩) ∧ w' = w.alloc (.cells (icells Z16).toArray 96)) hg.1 (gives_allocI ho ⟨rfl, rfl⟩) fun u w' ⟨e1, e2⟩ => ?_
  rw [e1, e2, hd]
  obtain ⟨z1, y1, x1⟩ := row16 R ht.len
  have hn0 := heap_alloc_new w (.cells (icells Z16).toArray 96)
  refine wpList_store_row hg.2 96 _ _ ho2 w.heap.size (icells R).toArray ?_ ?_ 96 _ hn0 z1 x1 y1 ?_
  · rw [eval_put_tmp, if_pos ⟨rfl, of_decide_eq_true hs⟩]
  · rw [eval_put_tmp, if_neg (by intro h; exact hde (Option.some.inj h.1)), hv]
  · rw [hd2]
    refine h w.heap.size _ ?_ ⟨R, ?_, ht⟩ (Nat.le_refl _)
    · exact below_setRow (Ex.alloc w _) (Nat.le_refl _) _
    · unfold IB
      rw [setRow_heap _ _ _ _ _ _ hn0]
/-- A number laid into a place. -/
theorem wpList_overB {n g : Nat} {v : Value} (hg : o.guard = none) (ho : o.op = .store 96 x y) (hd : o.dst = none) (hx : a.eval x = .pointer (some ⟨g, 0, none⟩)) (hy : a.eval y = v) (hn : IsB v n) (hb : A16 w g)
    (h : ∀ w', Keeps (fun k => k = g) w w' → B16 w' g n → wpList Tryd.prog ops Q rest a w') : wpList Tryd.prog ops Q (o :: rest) a w := by
  obtain ⟨R, rfl, ht⟩ := hn
  obtain ⟨R0, hb, ht0⟩ := hb
  obtain ⟨z1, y1, _⟩ := row16 R ht.len
  have hz : (icells R0).toArray.size = (icells R).toArray.size := by rw [List.size_toArray, List.size_toArray, icells_length, icells_length, ht.len, ht0]
  refine wpList_store_row hg 96 _ _ ho g (icells R).toArray hx hy 96 _ hb z1 hz y1 ?_
  rw [hd]
  refine h _ ⟨rfl, rfl, rfl, by simp, fun k _ hk => setRow_other _ _ _ _ hk⟩ ⟨R, ?_, ht⟩
  unfold IB
  rw [setRow_heap _ _ _ _ _ _ hb]
/-- A new place, and a number laid into it. -/
theorem wpList_newB {n : Nat} {d e : Tmp} {v : Value} (hg : o.guard = none ∧ o2.guard = none) (ho : o.op = .alloc 96) (ho2 : o2.op = .store 96 (.tmp d) (.tmp e)) (hd : o.dst = some d) (hd2 : o2.dst = none)
    (hs : decide (d < a.tmps.size) = true) (hv : a.eval (.tmp e) = v) (hn : IsB v n) (hde : d ≠ e)
    (h : ∀ g w', Ex w w' → B16 w' g n → w.heap.size ≤ g → wpList Tryd.prog ops Q rest (a.put (some d) (.pointer (some ⟨g, 0, none⟩))) w') : wpList Tryd.prog ops Q (o :: o2 :: rest) a w := by
  obtain ⟨R, rfl, ht⟩ := hn
  refine wpList_gives (Φ := fun u w' => u = .pointer (some ⟨w.heap.size, 0, none⟩) ∧ w' = w.alloc (.cells (icells Z16).toArray 96)) hg.1 (gives_allocI ho ⟨rfl, rfl⟩) fun u w' ⟨e1, e2⟩ => ?_
  rw [e1, e2, hd]
  obtain ⟨z1, y1, x1⟩ := row16 R ht.len
  have hn0 := heap_alloc_new w (.cells (icells Z16).toArray 96)
  refine wpList_store_row hg.2 96 _ _ ho2 w.heap.size (icells R).toArray ?_ ?_ 96 _ hn0 z1 x1 y1 ?_
  · rw [eval_put_tmp, if_pos ⟨rfl, of_decide_eq_true hs⟩]
  · rw [eval_put_tmp, if_neg (by intro h; exact hde (Option.some.inj h.1)), hv]
  · rw [hd2]
    refine h w.heap.size _ ?_ ⟨R, ?_, ht⟩ (Nat.le_refl _)
    · exact below_setRow (Ex.alloc w _) (Nat.le_refl _) _
    · unfold IB
      rw [setRow_heap _ _ _ _ _ _ hn0]
end
/-- What lies ready: the number, the answer's place, the power. -/
structure WI (w wr : World) (g a p : Nat) : Prop where
  a : C16 wr w.heap.size a
  r : IB wr (w.heap.size + 1) 96 Z16
  p : C16 wr g p
  e : Ex w wr
  b : w.heap.size + 2 ≤ g
theorem WI.ext {w wr wr' : World} {g a p : Nat} (h : WI w wr g a p) (he : Ex wr wr') : WI w wr' g a p := ⟨h.a.ext he, h.r.fresh he, h.p.ext he, h.e.trans he, h.b⟩
theorem WI.set {w wr wr' : World} {g a p q : Nat} (h : WI w wr g a p) (hk : Keeps (fun k => k = g) wr wr') (hq : C16 wr' g q) : WI w wr' g a q :=
  ⟨h.a.keep hk (by have := h.b; omega), h.r.keep hk (by have := h.b; omega), hq, Below.trans h.e (hk.below (B := w.heap.size) h.e.size (by intro k e; have := h.b; omega)), h.b⟩
set_option maxHeartbeats 800000 in
set_option maxRecDepth 100000 in
theorem rinvert_c {v : Value} {a : Nat} (h : IsC v a) (w : World) :
    Calls Tryd.prog 67 #[v] w fun e w' => ∃ r, e = .returned r ∧ IsC r (inv a) ∧ Ex w w' := by
  obtain ⟨X, rfl, hX⟩ := h
  have HX := hidden hX
  clear hX
  obtain ⟨A, hA⟩ : ∃ A, A = (icells X).toArray := ⟨_, rfl⟩
  have HN1 : Hid (IB (w.alloc (.cells A 96)) w.heap.size 96 X) := by rw [hA]; exact IB.new w X
  rw [← hA]
  clear hA
  go_enter Tryd.func67, Tryd.ntmps67
  go_upto_region 1 with fail
  change Code.wp _ _ _ _ ((w.alloc (.cells A 96)).alloc (.cells (icells Z16).toArray 96))
  have hs1 : (w.alloc (.cells A 96)).heap.size = w.heap.size + 1 := by simp
  have HE1 : Hid (Ex w (w.alloc (.cells A 96))) := Ex.alloc w _
  generalize w.alloc (.cells A 96) = w1 at HN1 HE1 hs1 ⊢
  have HE2 : Hid (Ex w1 (w1.alloc (.cells (icells Z16).toArray 96))) := Ex.alloc w1 _
  have HN2 := hidden (IB.new (t := 96) w1 Z16)
  have hs2 : (w1.alloc (.cells (icells Z16).toArray 96)).heap.size = w.heap.size + 2 := by simp [hs1]
  generalize w1.alloc (.cells (icells Z16).toArray 96) = w2 at HN2 HE2 hs2 ⊢
  rw [hs1] at HN2
  have HS2 := hidden hs2
  have HA2 : Hid (C16 w2 w.heap.size a) := ⟨X, HN1.out.fresh HE2.out, HX.out⟩
  have HE := hidden (HE1.out.trans HE2.out)
  clear hs1 hs2 HN1 HE1 HE2 HX
  go_wp2_with (first
    | (refine wpList_loadC (d := 5) (x := .tmp 1) rfl rfl rfl (by kernel_rfl) HA2.out ?_; intro v5 i5)
    | (refine wpList_newC (d := 3) (e := 5) (v := v5) ⟨rfl, rfl⟩ rfl rfl rfl rfl (by kernel_rfl) (by kernel_rfl) i5 (by decide) ?_; intro g3 w3 hx n1 b1))
  have HV : Hid (WI w w3 g3 a (ivTo a (254 - 254))) := ⟨HA2.out.ext hx, HN2.out.fresh hx, n1, HE.out.trans hx, by have := HS2.out; omega⟩
  clear HA2 HN2 HE hx n1 b1 i5 HS2
  go_loopw [4] (fun c wr => ∃ b : Nat, b ≤ 254 ∧ c = .int .i64 ((b : Int) - 1) ∧ WI w wr g3 a (ivTo a (254 - b))) (fun c _ => (intOf c + 1).toNat)
  case atStart => exact ⟨254, by omega, rfl, HV.out⟩
  case round =>
    clear HV
    obtain ⟨b, hb, rfl, hv⟩ := hrel
    have HV := hidden hv
    clear hv
    by_cases hz : b = 0
    · subst hz
      go_wp2_with (first
        | (refine wpList_loadC (d := 22) (x := .tmp 3) rfl rfl rfl (by kernel_rfl) HV.out.p ?_; intro v22 i22; obtain ⟨R, hR, tR⟩ := i22; subst hR; have HT := hidden tR; clear tR; obtain ⟨z1, y1, x1⟩ := row16 R HT.out.len; have HZ := hidden z1; have HY := hidden y1; have HX := hidden x1; clear z1 y1 x1)
        | (refine wpList_store_row rfl 96 (.tmp 2) (.tmp 22) rfl (w.heap.size + 1) (icells R).toArray rfl rfl 96 _ HV.out.r HZ.out HX.out HY.out ?_))
      have HR1 : Hid ((wr.setRow (w.heap.size + 1) (icells R).toArray).heap[w.heap.size + 1]? = some (.cells (icells R).toArray 96 (0, 0))) := setRow_heap wr (w.heap.size + 1) _ _ _ _ HV.out.r
      have HL1 : Hid (Ex w (wr.setRow (w.heap.size + 1) (icells R).toArray)) := below_setRow HV.out.e (by omega) _
      (try simp only [Exit.inBlock, Exit.then])
      refine bodyPost_ret (results_cell1 rfl _ _ _ (w.heap.size + 1) (icells R).toArray 96 (0, 0) 16 2 rfl HR1.out Tryd.underlying96 HZ.out) rfl ?_
      exact ⟨_, rfl, ⟨R, rfl, HT.out⟩, HL1.out⟩
    · obtain ⟨j, rfl⟩ : ∃ j, b = j + 1 := ⟨b - 1, by omega⟩
      rw [show ((j + 1 : Nat) : Int) - 1 = (j : Int) by omega]
      have hj0 : (0 : Int) ≤ (j : Int) := by omega
      generalize hp : ivTo a (254 - (j + 1)) = p at HV
      have HP := hidden hp
      clear hp
      have HJ := hidden (show j < 254 by omega)
      by_cases h2 : j = 2
      · subst h2
        go_wp2_with (first
          | (refine wpList_loadC (d := 10) (x := .tmp 3) rfl rfl rfl (by kernel_rfl) HV.out.p ?_; intro v10 i10)
          | (refine wpList_loadC (d := 11) (x := .tmp 3) rfl rfl rfl (by kernel_rfl) HV.out.p ?_; intro v11 i11)
          | (refine wpList_rmul (x := .tmp 10) (y := .tmp 11) (vx := v10) (vy := v11) rfl rfl (by kernel_rfl) i10.b (by kernel_rfl) i11.b ?_; intro v12 w4 i12 hx)
          | (refine wpList_overC (x := .tmp 3) (y := .tmp 12) (v := v12) rfl rfl rfl (by kernel_rfl) (by kernel_rfl) i12 (HV.out.ext hx).p.any ?_; intro w5 hk n5))
        go_roundw
        case rel =>
          refine ⟨2, by omega, by go_num, ?_⟩
          rw [show ivTo a (254 - 2) = fmul p p by rw [← HP.out]; rfl]
          exact (HV.out.ext hx).set hk n5
        case measure => simp [intOf]
      · by_cases h4 : j = 4
        · subst h4
          go_wp2_with (first
            | (refine wpList_loadC (d := 10) (x := .tmp 3) rfl rfl rfl (by kernel_rfl) HV.out.p ?_; intro v10 i10)
            | (refine wpList_loadC (d := 11) (x := .tmp 3) rfl rfl rfl (by kernel_rfl) HV.out.p ?_; intro v11 i11)
            | (refine wpList_rmul (x := .tmp 10) (y := .tmp 11) (vx := v10) (vy := v11) rfl rfl (by kernel_rfl) i10.b (by kernel_rfl) i11.b ?_; intro v12 w4 i12 hx)
            | (refine wpList_overC (x := .tmp 3) (y := .tmp 12) (v := v12) rfl rfl rfl (by kernel_rfl) (by kernel_rfl) i12 (HV.out.ext hx).p.any ?_; intro w5 hk n5))
          go_roundw
          case rel =>
            refine ⟨4, by omega, by go_num, ?_⟩
            rw [show ivTo a (254 - 4) = fmul p p by rw [← HP.out]; rfl]
            exact (HV.out.ext hx).set hk n5
          case measure => simp [intOf]
        · have hi2 : ((j : Int) != 2) = true := by rw [bne_iff_ne]; omega
          have hi4 : ((j : Int) != 4) = true := by rw [bne_iff_ne]; omega
          have HI := hidden (ivTo_plain a j HJ.out h2 h4)
          clear h2 h4
          go_wp2_with (first
            | (refine wpList_loadC (d := 10) (x := .tmp 3) rfl rfl rfl (by kernel_rfl) HV.out.p ?_; intro v10 i10)
            | (refine wpList_loadC (d := 11) (x := .tmp 3) rfl rfl rfl (by kernel_rfl) HV.out.p ?_; intro v11 i11)
            | (refine wpList_rmul (x := .tmp 10) (y := .tmp 11) (vx := v10) (vy := v11) rfl rfl (by kernel_rfl) i10.b (by kernel_rfl) i11.b ?_; intro v12 w4 i12 hx)
            | (refine wpList_overC (x := .tmp 3) (y := .tmp 12) (v := v12) rfl rfl rfl (by kernel_rfl) (by kernel_rfl) i12 (HV.out.ext hx).p.any ?_; intro w5 hk n5; have HV5 := hidden ((HV.out.ext hx).set hk n5); clear HV hx hk n5 i10 i11 i12)
            | (refine wpList_loadC (d := 19) (x := .tmp 3) rfl rfl rfl (by kernel_rfl) HV5.out.p ?_; intro v19 i19)
            | (refine wpList_loadC (d := 20) (x := .tmp 1) rfl rfl rfl (by kernel_rfl) HV5.out.a ?_; intro v20 i20)
            | (refine wpList_rmul (x := .tmp 19) (y := .tmp 20) (vx := v19) (vy := v20) rfl rfl (by kernel_rfl) i19.b (by kernel_rfl) i20.b ?_; intro v21 w6 i21 hx)
            | (refine wpList_overC (x := .tmp 3) (y := .tmp 21) (v := v21) rfl rfl rfl (by kernel_rfl) (by kernel_rfl) i21 (HV5.out.ext hx).p.any ?_; intro w7 hk n7))
          go_roundw
          case rel =>
            refine ⟨j, by omega, by go_num, ?_⟩
            rw [HI.out, HP.out]
            exact (HV5.out.ext hx).set hk n7
          case measure => simp [intOf]
end
section
open Go Go.RowKit

theorem wpOp_loadI {l : List Oper} {i : Nat} {o : Oper} {Q : Exit → Act → World → Prop} {K : Act → World → Prop} {a : Act} {w : World} {x : Operand} {g : Nat} {D : List Int} (ho : l[i]? = some o) (hg : o.guard = none) (hl : o.op = .load 96 x) (hx : a.eval x = .pointer (some ⟨g, 0, none⟩))
    (hr : IB w g 96 D) (hd : D.length = 16) (h : K (a.put o.dst (.agg (icells D).toArray)) w) : wpOp Tryd.prog l.toArray Q i K a w := by
  unfold wpOp
  rw [show l.toArray[i]? = some o by simpa using ho]
  simp only [Region.wanted, hg, if_true]
  exact .inl (Gives.wp (Φ := fun v w' => v = .agg (icells D).toArray ∧ w' = w) (gives_loadI hl hx hr hd ⟨rfl, rfl⟩) fun v w' ⟨e1, e2⟩ => by rw [e1, e2]; exact h)
theorem wpOp_storeI {l : List Oper} {i : Nat} {o : Oper} {Q : Exit → Act → World → Prop} {K : Act → World → Prop} {a : Act} {w : World} {d e : Tmp} {g : Nat} {D D0 : List Int} (ho : l[i]? = some o) (hs : isStore 96 d e (some o)) (hx : a.eval (.tmp d) = .pointer (some ⟨g, 0, none⟩)) (hy : a.eval (.tmp e) = .agg (icells D).toArray)
    (hr : IB w g 96 D0) (hd : D.length = 16) (hd0 : D0.length = 16) (h : K a (w.setRow g (icells D).toArray)) : wpOp Tryd.prog l.toArray Q i K a w := by
  obtain ⟨p, q, s1, s2, s3⟩ := hs.spec
  cases q
  obtain ⟨z1, y1, _⟩ := row16 D hd
  have hz : (icells D0).toArray.size = (icells D).toArray.size := by rw [List.size_toArray, List.size_toArray, icells_length, icells_length, hd, hd0]
  unfold wpOp
  rw [show l.toArray[i]? = some o by simpa using ho]
  simp only [Region.wanted, s2, if_true]
  refine .inl (wp_store_row 96 _ _ s1 g (icells D).toArray hx hy 96 _ hr z1 hz y1 ?_)
  rw [s3]
  exact h
theorem IB.other {w : World} {g g' : Nat} {t : TypeId} {D' : List Int} (h : IB w g' t D') (hn : g' ≠ g) (c : Array Value) : IB (w.setRow g c) g' t D' := by
  unfold IB at *
  rw [setRow_other _ _ _ _ hn, h]
theorem IB.same {w : World} {g : Nat} {t : TypeId} {D D' : List Int} (h : IB w g t D') : IB (w.setRow g (icells D).toArray) g t D := by
  unfold IB at *
  rw [setRow_heap _ _ _ _ _ _ h]
/-- Two numbers, read and laid elsewhere. -/
theorem region_move {id : Nat} {Q : Exit → Act → World → Prop} (ga gb g1 g2 : Nat) {a : Act} {w : World} (A B : List Int) (d1 d2 s1' s2' e1 e2 : Tmp) (o1 o2 o3 o4 : Oper)
    (k1 : o1.op = .load 96 (.tmp d1) ∧ o1.guard = none ∧ o1.dst = some e1) (k2 : o2.op = .load 96 (.tmp d2) ∧ o2.guard = none ∧ o2.dst = some e2)
    (s1 : isStore 96 s1' e1 (some o3)) (s2 : isStore 96 s2' e2 (some o4))
    (r0 : Region.ready .any [o1, o2, o3, o4].toArray #[false, false, false, false] = [0, 1]) (ra : Region.ready .any [o1, o2, o3, o4].toArray #[true, false, false, false] = [1, 2]) (rb : Region.ready .any [o1, o2, o3, o4].toArray #[false, true, false, false] = [0])
    (rc : Region.ready .any [o1, o2, o3, o4].toArray #[true, true, false, false] = [2]) (rd : Region.ready .any [o1, o2, o3, o4].toArray #[true, false, true, false] = [1]) (re : Region.ready .any [o1, o2, o3, o4].toArray #[true, true, true, false] = [3]) (rf : Region.ready .any [o1, o2, o3, o4].toArray #[true, true, true, true] = [])
    (hs : decide (e1 < a.tmps.size) = true ∧ decide (e2 < a.tmps.size) = true) (hne : e1 ≠ e2 ∧ d1 ≠ e1 ∧ d1 ≠ e2 ∧ d2 ≠ e1 ∧ d2 ≠ e2) (hne2 : s1' ≠ e1 ∧ s1' ≠ e2 ∧ s2' ≠ e1 ∧ s2' ≠ e2)
    (ev : a.eval (.tmp d1) = .pointer (some ⟨ga, 0, none⟩) ∧ a.eval (.tmp d2) = .pointer (some ⟨gb, 0, none⟩) ∧ a.eval (.tmp s1') = .pointer (some ⟨g1, 0, none⟩) ∧ a.eval (.tmp s2') = .pointer (some ⟨g2, 0, none⟩))
    (na : IB w ga 96 A) (nb : IB w gb 96 B) (n1 : IB w g1 96 Z16) (n2 : IB w g2 96 Z16) (lA : A.length = 16) (lB : B.length = 16) (hg : ga ≠ g1 ∧ gb ≠ g1 ∧ g1 ≠ g2)
    (hcont : ∀ w', Keeps (fun k => k = g1 ∨ k = g2) w w' → IB w' g1 96 A → IB w' g2 96 B → Q .normal ((a.put (some e1) (.agg (icells A).toArray)).put (some e2) (.agg (icells B).toArray)) w') :
    (Code.region id [o1, o2, o3, o4].toArray true).wp Tryd.prog Q a w := by
  obtain ⟨q1, q2, q3⟩ := k1
  obtain ⟨p1, p2, p3⟩ := k2
  obtain ⟨z1, z2⟩ := hs
  have z1 := of_decide_eq_true z1
  have z2 := of_decide_eq_true z2
  obtain ⟨y1, y2, y3, y4, y5⟩ := hne
  obtain ⟨t1, t2, t3, t4⟩ := hne2
  obtain ⟨v1, v2, v3, v4⟩ := ev
  obtain ⟨ha1, hb1, h12⟩ := hg
  have off : ∀ {d e : Tmp} (b : Act) (v : Value), d ≠ e → (b.put (some e) v).eval (.tmp d) = b.eval (.tmp d) := fun {d e} b v h => by rw [eval_put_tmp, if_neg (by intro e; exact h (Option.some.inj e.1).symm)]
  have E7 : ∀ v u, ((a.put (some e1) v).put (some e2) u).eval (.tmp e2) = u := fun v u => by rw [eval_put_tmp, if_pos ⟨rfl, by rw [put_size]; exact z2⟩]
  have E3 : ∀ v, (a.put (some e1) v).eval (.tmp e1) = v := fun v => by rw [eval_put_tmp, if_pos ⟨rfl, z1⟩]
  have c0 : ∀ (w' : World), Keeps (fun k => k = g1 ∨ k = g2) w w' → IB w' g1 96 A → IB w' g2 96 Z16 →
      wpAny Tryd.prog .any [o1, o2, o3, o4].toArray Q 1 #[true, true, true, false] ((a.put (some e1) (.agg (icells A).toArray)).put (some e2) (.agg (icells B).toArray)) w' := fun w' hk h1 h2 => by
    refine wpAny_all re (by simp) fun j hj => ?_
    obtain rfl := List.mem_singleton.1 hj
    refine wpOp_storeI rfl s2 (by rw [off _ _ t4, off _ _ t3, v4]) (E7 _ _) h2 lB rfl ?_
    refine wpAny_done rf ?_ 0
    exact hcont _ (hk.trans ⟨rfl, rfl, rfl, by simp, fun k _ h => setRow_other _ _ _ _ (fun e => h (.inr e))⟩) (h1.other h12 _) h2.same
  have keep1 : ∀ w', Keeps (fun k => k = g1 ∨ k = g2) w w' → Keeps (fun k => k = g1 ∨ k = g2) w (w'.setRow g1 (icells A).toArray) := fun w' hk => hk.trans ⟨rfl, rfl, rfl, by simp, fun k _ h => setRow_other _ _ _ _ (fun e => h (.inl e))⟩
  have ma : IB w.drew ga 96 A := na
  have mb : IB w.drew gb 96 B := nb
  have m1 : IB w.drew g1 96 Z16 := n1
  have m2 : IB w.drew g2 96 Z16 := n2
  have k0 : Keeps (fun k => k = g1 ∨ k = g2) w w.drew := (Keeps.refl _ w).drew
  have c1 : wpAny Tryd.prog .any [o1, o2, o3, o4].toArray Q 2 #[true, true, false, false] ((a.put (some e1) (.agg (icells A).toArray)).put (some e2) (.agg (icells B).toArray)) w.drew := by
    refine wpAny_all rc (by simp) fun j hj => ?_
    obtain rfl := List.mem_singleton.1 hj
    refine wpOp_storeI rfl s1 (by rw [off _ _ t2, off _ _ t1, v3]) (by rw [off _ _ y1, E3]) m1 lA rfl ?_
    exact c0 _ (keep1 _ k0) m1.same (m2.other (Ne.symm h12) _)
  refine wp_region_any (by kernel_rfl) ?_
  change wpAny Tryd.prog .any [o1, o2, o3, o4].toArray Q 4 #[false, false, false, false] a w.drew
  refine wpAny_all r0 (by simp) fun j hj => ?_
  rcases List.mem_cons.1 hj with rfl | hj
  · refine wpOp_loadI rfl q2 q1 v1 ma lA ?_
    rw [q3]
    change wpAny Tryd.prog .any [o1, o2, o3, o4].toArray Q 3 #[true, false, false, false] _ _
    refine wpAny_all ra (by simp) fun j hj => ?_
    rcases List.mem_cons.1 hj with rfl | hj
    · refine wpOp_loadI rfl p2 p1 (by rw [off _ _ y4, v2]) mb lB ?_
      rw [p3]
      exact c1
    · obtain rfl := List.mem_singleton.1 hj
      refine wpOp_storeI rfl s1 (by rw [off _ _ t1, v3]) (E3 _) m1 lA rfl ?_
      change wpAny Tryd.prog .any [o1, o2, o3, o4].toArray Q 2 #[true, false, true, false] _ _
      refine wpAny_all rd (by simp) fun j hj => ?_
      obtain rfl := List.mem_singleton.1 hj
      refine wpOp_loadI rfl p2 p1 (by rw [off _ _ y4, v2]) (mb.other hb1 _) lB ?_
      rw [p3]
      exact c0 _ (keep1 _ k0) m1.same (m2.other (Ne.symm h12) _)
  · obtain rfl := List.mem_singleton.1 hj
    refine wpOp_loadI rfl p2 p1 v2 mb lB ?_
    rw [p3]
    change wpAny Tryd.prog .any [o1, o2, o3, o4].toArray Q 3 #[false, true, false, false] _ _
    refine wpAny_all rb (by simp) fun j hj => ?_
    obtain rfl := List.mem_singleton.1 hj
    refine wpOp_loadI rfl q2 q1 (by rw [off _ _ y3, v1]) ma lA ?_
    rw [q3, Act.put_comm (x := some e2) (y := some e1) a _ _ (by intro d h1 h2; exact y1 (by rw [Option.some.inj h1, Option.some.inj h2]))]
    exact c1
/-- What lies ready in 'swap'. -/
structure SW (w wr : World) (A B : List Int) : Prop where
  a : IB wr w.heap.size 96 A
  b : IB wr (w.heap.size + 1) 96 B
  c : IB wr (w.heap.size + 2) 96 Z16
  d : IB wr (w.heap.size + 3) 96 Z16
  e : Ex w wr
theorem SW.start (w : World) (A B : List Int) : SW w ((((w.alloc (.cells (icells A).toArray 96)).alloc (.cells (icells B).toArray 96)).alloc (.cells (icells Z16).toArray 96)).alloc (.cells (icells Z16).toArray 96)) A B := by
  have h := QI.start w A B
  generalize hw : ((w.alloc (.cells (icells A).toArray 96)).alloc (.cells (icells B).toArray 96)).alloc (.cells (icells Z16).toArray 96) = w3 at h ⊢
  have hs : w3.heap.size = w.heap.size + 3 := by rw [← hw]; simp
  have hk : Keeps (fun _ => False) w3 (w3.alloc (.cells (icells Z16).toArray 96)) := (Keeps.refl _ w3).alloc _
  refine ⟨h.n.keep hk (fun h => h), h.m.keep hk (fun h => h), h.r.keep hk (fun h => h), ?_, h.b.alloc (by omega) _⟩
  rw [← hs]
  exact IB.new w3 _

set_option maxHeartbeats 800000 in
set_option maxRecDepth 100000 in
theorem rswap_c (A B : List Int) (b : Nat) (hb : b ≤ 1) (lA : A.length = 16) (lB : B.length = 16) (w : World) :
    Calls Tryd.prog 62 #[.agg (icells A).toArray, .agg (icells B).toArray, .int .i64 (b : Int)] w fun e w' => e = .returned (.tuple #[.agg (icells (if b = 1 then B else A)).toArray, .agg (icells (if b = 1 then A else B)).toArray]) ∧ Ex w w' := by
  have H := hidden (SW.start w A B)
  have HLA := hidden lA
  have HLB := hidden lB
  obtain ⟨zA, _, _⟩ := row16 A lA
  obtain ⟨zB, _, _⟩ := row16 B lB
  have HZA := hidden zA
  have HZB := hidden zB
  clear lA lB zA zB
  rcases (show b = 0 ∨ b = 1 by omega) with rfl | rfl
  · rw [if_neg (by omega), if_neg (by omega)]
    go_enter Tryd.func62, Tryd.ntmps62
    go_upto_region 1 with fail
    change Code.wp _ _ _ _ ((((w.alloc (.cells (icells A).toArray 96)).alloc (.cells (icells B).toArray 96)).alloc (.cells (icells Z16).toArray 96)).alloc (.cells (icells Z16).toArray 96))
    generalize (((w.alloc (.cells (icells A).toArray 96)).alloc (.cells (icells B).toArray 96)).alloc (.cells (icells Z16).toArray 96)).alloc (.cells (icells Z16).toArray 96) = w4 at H ⊢
    rw [show w.heap.size + 1 + 1 = w.heap.size + 2 from rfl, show w.heap.size + 2 + 1 = w.heap.size + 3 from rfl]
    go_wp2_with fail
    refine region_move w.heap.size (w.heap.size + 1) (w.heap.size + 2) (w.heap.size + 3) A B 3 4 6 7 12 13 _ _ _ _ ⟨by kernel_rfl, by kernel_rfl, by kernel_rfl⟩ ⟨by kernel_rfl, by kernel_rfl, by kernel_rfl⟩ (by unfold isStore; kernel_rfl) (by unfold isStore; kernel_rfl) (by kernel_rfl) (by kernel_rfl) (by kernel_rfl) (by kernel_rfl) (by kernel_rfl) (by kernel_rfl) (by kernel_rfl) ⟨by kernel_rfl, by kernel_rfl⟩ (by decide) (by decide) ⟨by kernel_rfl, by kernel_rfl, by kernel_rfl, by kernel_rfl⟩ H.out.a H.out.b H.out.c H.out.d HLA.out HLB.out (by omega) ?_
    intro w5 hk n1 n2
    have HE : Hid (Ex w w5) := Below.trans H.out.e (hk.below (B := w.heap.size) H.out.e.size (by intro k e; omega))
    have M1 := hidden n1
    have M2 := hidden n2
    simp only [Act.put, List.setIfInBounds_toArray, List.set_cons_zero, List.set_cons_succ]
    clear hk n1 n2 H
    go_wp2_with fail
    (try simp only [Exit.inBlock, Exit.then])
    refine bodyPost_ret (results_cell2 rfl _ _ _ (w.heap.size + 2) (w.heap.size + 3) (icells A).toArray (icells B).toArray 96 96 _ rfl rfl M1.out M2.out Tryd.underlying96 rfl HZA.out HZB.out) rfl ?_
    exact ⟨rfl, HE.out⟩
  · rw [if_pos rfl, if_pos rfl]
    go_enter Tryd.func62, Tryd.ntmps62
    go_upto_region 1 with fail
    change Code.wp _ _ _ _ ((((w.alloc (.cells (icells A).toArray 96)).alloc (.cells (icells B).toArray 96)).alloc (.cells (icells Z16).toArray 96)).alloc (.cells (icells Z16).toArray 96))
    generalize (((w.alloc (.cells (icells A).toArray 96)).alloc (.cells (icells B).toArray 96)).alloc (.cells (icells Z16).toArray 96)).alloc (.cells (icells Z16).toArray 96) = w4 at H ⊢
    rw [show w.heap.size + 1 + 1 = w.heap.size + 2 from rfl, show w.heap.size + 2 + 1 = w.heap.size + 3 from rfl]
    go_wp2_with fail
    refine region_move (w.heap.size + 1) w.heap.size (w.heap.size + 2) (w.heap.size + 3) B A 4 3 6 7 10 11 _ _ _ _ ⟨by kernel_rfl, by kernel_rfl, by kernel_rfl⟩ ⟨by kernel_rfl, by kernel_rfl, by kernel_rfl⟩ (by unfold isStore; kernel_rfl) (by unfold isStore; kernel_rfl) (by kernel_rfl) (by kernel_rfl) (by kernel_rfl) (by kernel_rfl) (by kernel_rfl) (by kernel_rfl) (by kernel_rfl) ⟨by kernel_rfl, by kernel_rfl⟩ (by decide) (by decide) ⟨by kernel_rfl, by kernel_rfl, by kernel_rfl, by kernel_rfl⟩ H.out.b H.out.a H.out.c H.out.d HLB.out HLA.out (by omega) ?_
    intro w5 hk n1 n2
    have HE : Hid (Ex w w5) := Below.trans H.out.e (hk.below (B := w.heap.size) H.out.e.size (by intro k e; omega))
    have M1 := hidden n1
    have M2 := hidden n2
    simp only [Act.put, List.setIfInBounds_toArray, List.set_cons_zero, List.set_cons_succ]
    clear hk n1 n2 H
    go_wp2_with fail
    (try simp only [Exit.inBlock, Exit.then])
    refine bodyPost_ret (results_cell2 rfl _ _ _ (w.heap.size + 2) (w.heap.size + 3) (icells B).toArray (icells A).toArray 96 96 _ rfl rfl M1.out M2.out Tryd.underlying96 rfl HZB.out HZA.out) rfl ?_
    exact ⟨rfl, HE.out⟩
end
section
open Go Go.RowKit

/-- The parts behind i rounds. -/
def rdTo (S : List UInt8) : Nat → List Int
  | 0 => Z16
  | i + 1 => (rdTo S i).set i (((S.getD (2 * i) 0).toNat : Int) + ((S.getD (2 * i + 1) 0).toNat : Int) * 256)
theorem rdTo_length (S : List UInt8) (i : Nat) : (rdTo S i).length = 16 := by
  induction i with
  | zero => rfl
  | succ i ih => simp [rdTo, ih]
theorem Z16_zero (k : Nat) : Z16.getD k 0 = 0 := by
  by_cases h : k < 16
  · have : ∀ k : Fin 16, Z16.getD k.val 0 = 0 := by decide
    exact this ⟨k, h⟩
  · rw [List.getD_eq_getElem?_getD, List.getElem?_eq_none (by simp [Z16]; omega)]; rfl
theorem rdTo_bd (S : List UInt8) (i k : Nat) : 0 ≤ (rdTo S i).getD k 0 ∧ (rdTo S i).getD k 0 ≤ 65535 := by
  induction i with
  | zero => rw [rdTo, Z16_zero]; omega
  | succ i ih =>
    have h1 := (S.getD (2 * i) 0).toNat_lt
    have h2 := (S.getD (2 * i + 1) 0).toNat_lt
    rw [rdTo, getD_setI]
    split <;> omega
theorem rdTo_off (S : List UInt8) (i k : Nat) (h : i ≤ k) : (rdTo S i).getD k 0 = 0 := by
  induction i with
  | zero => exact Z16_zero k
  | succ i ih => rw [rdTo, getD_setI, if_neg (by omega), ih (by omega)]
theorem zero_val16 (n : Nat) : vI Z16 n = 0 := by
  induction n with
  | zero => rfl
  | succ n ih => rw [vI_succ, ih, Z16_zero]; simp
theorem rdTo_val (S : List UInt8) (i : Nat) (hi : i ≤ 16) : vI (rdTo S i) 16 = (leV S (2 * i) : Int) := by
  induction i with
  | zero => rw [rdTo, zero_val16]; rfl
  | succ i ih =>
    have hl := rdTo_length S i
    rw [rdTo, vI_set _ i _ 16 (by omega) (by omega), ih (by omega), rdTo_off S i i (Nat.le_refl _), show 2 * (i + 1) = 2 * i + 1 + 1 from rfl, leV, leV]
    have e : (256 : Nat) ^ (2 * i + 1) = 256 * 256 ^ (2 * i) := by rw [Nat.pow_succ, Nat.mul_comm]
    have e2 : ((256 : Nat) : Int) ^ (2 * i) = 65536 ^ i := by rw [Int.pow_mul]; rfl
    simp only [Int.natCast_add, Int.natCast_mul, Int.natCast_pow, e]
    rw [e2]
    generalize ((S.getD (2 * i) 0).toNat : Int) = x
    generalize ((S.getD (2 * i + 1) 0).toNat : Int) = y
    generalize (65536 : Int) ^ i = P
    rw [Int.sub_zero, Int.add_mul, Int.mul_assoc y]
    have : y * (256 * P) = y * (((256 : Nat) : Int) * P) := rfl
    omega
/-- The number that is read. -/
theorem read_rc (S : List UInt8) (x : Int) (hx : x = (rdTo S 16).getD 15 0 % 32768) : Rc ((rdTo S 16).set 15 x) (numV S % pC) := by
  have hl := rdTo_length S 16
  have hb := rdTo_bd S 16
  have hb15 := hb 15
  refine ⟨by rw [List.length_set]; exact hl, ?_, ?_, ?_⟩
  · have := hb 0
    rw [getD_setI, if_neg (by omega)]
    omega
  · intro i hi
    have := hb i
    rw [getD_setI]
    split <;> omega
  · have hv := rdTo_val S 16 (by omega)
    have e := vI_set (rdTo S 16) 15 x 16 (by omega) (by omega)
    rw [show (65536 : Int) ^ 15 = 1766847064778384329583297500742918515827483896875618958121606201292619776 by decide +kernel, hv] at e
    have hn : vI ((rdTo S 16).set 15 x) 16 = (numV S : Int) := by
      have h0 : ∀ n, n ≤ 15 → 0 ≤ vI (rdTo S 16) n ∧ vI (rdTo S 16) n < 65536 ^ n := by
        intro n hn
        induction n with
        | zero => simp [vI]
        | succ n ih =>
          have h1 := ih (by omega)
          have h2 := hb n
          rw [vI_succ, pow_step]
          generalize (65536 : Int) ^ n = P at *
          have h3 : 0 ≤ (rdTo S 16).getD n 0 * P := Int.mul_nonneg h2.1 (by omega)
          have h4 : (rdTo S 16).getD n 0 * P ≤ 65535 * P := Int.mul_le_mul_of_nonneg_right h2.2 (by omega)
          omega
      have h15 := h0 15 (by omega)
      have hs : vI (rdTo S 16) 16 = vI (rdTo S 16) 15 + (rdTo S 16).getD 15 0 * 65536 ^ 15 := vI_succ _ 15
      rw [hv] at hs
      rw [show (65536 : Int) ^ 15 = 1766847064778384329583297500742918515827483896875618958121606201292619776 by decide +kernel] at h15 hs
      rw [e]
      unfold numV
      rw [show 2 * 16 = 32 from rfl] at *
      generalize leV S 32 = V at *
      generalize (rdTo S 16).getD 15 0 = y at *
      generalize vI (rdTo S 16) 15 = U at *
      have hq : y / 32768 = 0 ∨ y / 32768 = 1 := by omega
      rcases hq with hq | hq
      · have : x = y := by omega
        omega
      · have : x = y - 32768 := by omega
        omega
    rw [hn]
    exact (Int.natCast_emod _ _).symm
end
section
open Go Go.RowKit

structure DI (w wr : World) (L : List Int) : Prop where
  r : IB wr w.heap.size 96 Z16
  n : IB wr (w.heap.size + 1) 96 L
  b : Below w.heap.size w wr
theorem DI.set {w wr : World} {L : List Int} (h : DI w wr L) (i : Nat) (x : Int) : DI w (wr.setCell ⟨w.heap.size + 1, i, none⟩ (.int .i64 x)) (L.set i x) :=
  ⟨h.r.keep (S := fun k => k = w.heap.size + 1) ((Keeps.refl (fun k => k = w.heap.size + 1) wr).setCell (p := ⟨w.heap.size + 1, i, none⟩) (.inl rfl) _) (by omega), h.n.set i x, h.b.setCell (by show w.heap.size ≤ w.heap.size + 1; omega) _⟩
theorem DI.setd {w wr : World} {L : List Int} (h : DI w wr L) (i : Nat) (x : Int) : DI w (wr.setCell ⟨w.heap.size + 1, i, none⟩ (.int .i64 x)).drew (L.set i x) := by
  have := h.set i x
  exact ⟨this.r, this.n, this.b.drew⟩
theorem i64_and1 (n : Int) : bits .and .i64 n 1 = n % 2 := by
  have h1 : (BitVec.ofInt 64 1).toNat = 2 ^ 1 - 1 := by decide
  have h2 : (BitVec.ofInt 64 n &&& BitVec.ofInt 64 1).toNat = (n % ((2 ^ 64 : Nat) : Int)).toNat % 2 ^ 1 := by
    rw [BitVec.toNat_and, BitVec.toNat_ofInt, h1, Nat.and_two_pow_sub_one_eq_mod]
  show IntKind.i64.wrap ((BitVec.ofInt 64 n &&& BitVec.ofInt 64 1).toNat : Nat) = n % 2
  rw [h2, IntKind.wrap_i64]
  omega
theorem i64_and15 (n : Int) : bits .and .i64 n 32767 = n % 32768 := by
  have h1 : (BitVec.ofInt 64 32767).toNat = 2 ^ 15 - 1 := by decide
  have h2 : (BitVec.ofInt 64 n &&& BitVec.ofInt 64 32767).toNat = (n % ((2 ^ 64 : Nat) : Int)).toNat % 2 ^ 15 := by
    rw [BitVec.toNat_and, BitVec.toNat_ofInt, h1, Nat.and_two_pow_sub_one_eq_mod]
  show IntKind.i64.wrap ((BitVec.ofInt 64 n &&& BitVec.ofInt 64 32767).toNat : Nat) = n % 32768
  rw [h2, IntKind.wrap_i64]
  omega
theorem i64_and16 (n : Int) : bits .and .i64 n 65535 = n % 65536 := by
  have h1 : (BitVec.ofInt 64 65535).toNat = 2 ^ 16 - 1 := by decide
  have h2 : (BitVec.ofInt 64 n &&& BitVec.ofInt 64 65535).toNat = (n % ((2 ^ 64 : Nat) : Int)).toNat % 2 ^ 16 := by
    rw [BitVec.toNat_and, BitVec.toNat_ofInt, h1, Nat.and_two_pow_sub_one_eq_mod]
  show IntKind.i64.wrap ((BitVec.ofInt 64 n &&& BitVec.ofInt 64 65535).toNat : Nat) = n % 65536
  rw [h2, IntKind.wrap_i64]
  omega

set_option maxHeartbeats 800000 in
set_option maxRecDepth 100000 in
theorem rread_c (v : Value) (S : List UInt8) (hS : S.length = 32) (w : World) (h : BSl w v S) :
    Calls Tryd.prog 61 #[v] w fun e w' => ∃ r, e = .returned r ∧ IsC r (numV S % pC) ∧ Ex w w' := by
  have HV := hidden h
  obtain ⟨ao, cap, rfl, hc1, hc2, _⟩ := h
  rw [hS] at hc1
  go_enter Tryd.func61, Tryd.ntmps61
  go_upto_region 2 with fail
  change Code.wp _ _ _ _ ((w.alloc (.cells (icells Z16).toArray 96)).alloc (.cells (icells Z16).toArray 96))
  obtain ⟨w1, e1⟩ : ∃ x, x = w.alloc (.cells (icells Z16).toArray 96) := ⟨_, rfl⟩
  obtain ⟨w2, e2⟩ : ∃ x, x = w1.alloc (.cells (icells Z16).toArray 96) := ⟨_, rfl⟩
  rw [← e1, ← e2]
  have s1 : w1.heap.size = w.heap.size + 1 := by rw [e1]; simp
  have n1 : IB w1 w.heap.size 96 Z16 := by rw [e1]; exact IB.new w _
  have n2 : IB w2 (w.heap.size + 1) 96 Z16 := by rw [e2, ← s1]; exact IB.new w1 _
  have x1 : Ex w w1 := by rw [e1]; exact Ex.alloc w _
  have x2 : Ex w1 w2 := by rw [e2]; exact Ex.alloc w1 _
  have HM : Hid (DI w w2 (rdTo S 0)) := ⟨n1.fresh x2, n2, x1.trans x2⟩
  have HSL := hidden hS
  rw [hS]
  clear e1 e2 s1 n1 n2 x1 x2 hS
  go_wp2_with fail
  go_loopw [4] (fun c wr => ∃ i : Nat, i ≤ 16 ∧ c = .int .i64 (i : Int) ∧ DI w wr (rdTo S i)) (fun c _ => 16 - (intOf c).toNat)
  case atStart => exact ⟨0, by omega, rfl, HM.out⟩
  case round =>
    clear HM
    obtain ⟨i, hi, rfl, ht⟩ := hrel
    have HT := hidden ht
    clear ht
    by_cases hlt : i < 16
    · have hlt' : (i : Int) < 16 := by omega
      have hv := HV.out.fresh HT.out.b
      obtain ⟨bb, oo, cp, e, hbl⟩ := hv.nonnil (by intro e; rw [e] at HSL; have := HSL.out; simp at this)
      rw [HSL.out] at e
      cases e
      have cb0 := hv.cellD (2 * i) (by rw [HSL.out]; omega)
      have cb1 := hv.cellD (2 * i + 1) (by rw [HSL.out]; omega)
      have hb0 := (S.getD (2 * i) 0).toNat_lt
      have hb1 := (S.getD (2 * i + 1) 0).toNat_lt
      have hl := rdTo_length S i
      have c1 := HT.out.n.cell i (by omega)
      have hf := HT.out.n.frozen
      have HS : Hid (rdTo S (i + 1) = (rdTo S i).set i (((S.getD (2 * i) 0).toNat : Int) + ((S.getD (2 * i + 1) 0).toNat : Int) * 256)) := rfl
      generalize (S.getD (2 * i) 0).toNat = y0 at cb0 hb0 HS
      generalize (S.getD (2 * i + 1) 0).toNat = y1 at cb1 hb1 HS
      generalize (rdTo S i).getD i 0 = z at c1
      obtain ⟨m1, hm1⟩ : ∃ m1, m1 = (y1 : Int) * 256 := ⟨_, rfl⟩
      obtain ⟨s, hs⟩ : ∃ s, s = (y0 : Int) + m1 := ⟨_, rfl⟩
      have hm2 : (y1 : Int) * 256 = m1 := hm1.symm
      have hs2 : (y0 : Int) + m1 = s := hs.symm
      rw [hm2, hs2] at HS
      have hw0 := i64w (y0 : Int) (by omega)
      have hw1 := i64w (y1 : Int) (by omega)
      have hw2 := i64w m1 (by omega)
      have hw3 := i64w s (by omega)
      have hi2 : 2 * (i : Int) < 32 := by omega
      have hi3 : 2 * (i : Int) + 1 < 32 := by omega
      have hwi := i64w (2 * (i : Int)) (by omega)
      have hwj := i64w (2 * (i : Int) + 1) (by omega)
      clear hm1 hs hl hv hb0 hb1
      go_wp2_with fail
      go_region
      go_wp2
      go_roundw
      case rel =>
        refine ⟨i + 1, by omega, by go_num, ?_⟩
        rw [HS.out]
        exact HT.out.setd i s
      case measure => simp [intOf]; omega
    · have hlt' : ¬ (i : Int) < 16 := by omega
      obtain rfl : i = 16 := by omega
      have hl := rdTo_length S 16
      have c1 := HT.out.n.cell 15 (by omega)
      have hf := HT.out.n.frozen
      have hm := i64_and15 ((rdTo S 16).getD 15 0)
      obtain ⟨x, hx⟩ : ∃ x, x = (rdTo S 16).getD 15 0 % 32768 := ⟨_, rfl⟩
      have HRC := hidden (read_rc S x hx)
      rw [← hx] at hm
      have HS := hidden (HT.out.set 15 x)
      generalize (rdTo S 16).getD 15 0 = y at c1 hm
      obtain ⟨P, hP⟩ : ∃ P, P = (rdTo S 16).set 15 x := ⟨_, rfl⟩
      rw [← hP] at HRC HS
      clear hP hx hl HT
      go_upto_region 7 with fail
      generalize wr.setCell ⟨w.heap.size + 1, 15, none⟩ (.int .i64 x) = w5 at HS ⊢
      clear c1 hf hm
      obtain ⟨hsz, hone, hdd⟩ := row16 P HRC.out.len
      have HPP : Hid (w5.heap[w.heap.size + 1]? = some (.cells (icells P).toArray 96 (0, 0))) := HS.out.n
      have HRR : Hid (w5.heap[w.heap.size]? = some (.cells (icells Z16).toArray 96 (0, 0))) := HS.out.r
      have HB4 := hidden HS.out.b
      obtain ⟨R, hR⟩ : ∃ R, R = (icells P).toArray := ⟨_, rfl⟩
      rw [← hR] at hsz hone hdd HPP
      have HRE := hidden hR
      have HSZ := hidden hsz
      have HON := hidden hone
      have HD := hidden hdd
      have HR1 : Hid ((w5.setRow w.heap.size R).heap[w.heap.size]? = some (.cells R 96 (0, 0))) := setRow_heap w5 w.heap.size _ _ _ _ HRR.out
      have HL1 : Hid (Below w.heap.size w (w5.setRow w.heap.size R)) := below_setRow HB4.out (Nat.le_refl _) _
      clear hsz hone hdd HS hR
      go_wp2_with (first
        | (refine wpList_loadRow rfl 96 (.tmp 3) rfl (w.heap.size + 1) R 96 (0, 0) 16 2 rfl HPP.out Tryd.underlying96 HSZ.out ?_)
        | (refine wpList_store_row rfl 96 (.tmp 2) (.tmp 30) rfl w.heap.size R rfl rfl 96 _ HRR.out HSZ.out HD.out HON.out ?_))
      (try simp only [Exit.inBlock, Exit.then])
      refine bodyPost_ret (results_cell1 rfl _ _ _ w.heap.size R 96 (0, 0) 16 2 rfl HR1.out Tryd.underlying96 HSZ.out) rfl ?_
      exact ⟨_, rfl, ⟨P, by rw [HRE.out], HRC.out⟩, HL1.out⟩
end
section
open Go Go.RowKit

/-- All parts in their bounds. -/
structure Cn (L : List Int) : Prop where
  len : L.length = 16
  bd : ∀ j, 0 ≤ L.getD j 0 ∧ L.getD j 0 ≤ 65535
theorem qp_zero {L : List Int} (h : Cn L) (i : Nat) : qp L i = 0 := by
  induction i with
  | zero => rfl
  | succ i ih => have := h.bd i; unfold qp; rw [ih]; omega
theorem Cn.carry {L : List Int} (h : Cn L) : Cn (crTo L 16) ∧ vI (crTo L 16) 16 = vI L 16 := by
  have hl := crTo_length L 16
  have hL := h.len
  refine ⟨⟨by omega, fun j => ?_⟩, ?_⟩
  · by_cases hj : j < 16
    · rw [crTo_end L h.len j hj, qp_zero h, qp_zero h, qp_zero h]
      have := h.bd j
      split <;> omega
    · rw [List.getD_eq_getElem?_getD, List.getElem?_eq_none (by omega)]; simp
  · rw [crTo_val L h.len, qp_zero h, Int.zero_mul, Int.sub_zero]
theorem Rc.carry {L : List Int} {a : Nat} (h : Rc L a) : Cn (crTo L 16) ∧ vI (crTo L 16) 16 % (pC : Int) = (a : Int) := by
  have hl := crTo_length L 16
  have hL := h.len
  have h0 := h.low
  have q1 : qp L 1 = (L.getD 0 0 + 0) / 65536 := rfl
  have key : ∀ i, (-1 ≤ qp L (i + 1) ∧ qp L (i + 1) ≤ 1) ∧ (qp L (i + 1) = 1 → qp L 1 = 1) ∧ (qp L (i + 1) = -1 → qp L 1 = -1) := by
    intro i
    induction i with
    | zero => exact ⟨by rw [q1]; omega, fun h => h, fun h => h⟩
    | succ i ih =>
      have hr := h.rest (i + 1) (by omega)
      have hq : qp L (i + 1 + 1) = (L.getD (i + 1) 0 + qp L (i + 1)) / 65536 := rfl
      obtain ⟨i1, i2, i3⟩ := ih
      refine ⟨by rw [hq]; omega, fun e => i2 (by rw [hq] at e; omega), fun e => i3 (by rw [hq] at e; omega)⟩
  obtain ⟨k1, k2, k3⟩ := key 15
  refine ⟨⟨by omega, fun j => ?_⟩, ?_⟩
  · by_cases hj : j < 16
    · rw [crTo_end L h.len j hj]
      by_cases h2 : j = 0
      · subst h2
        rw [if_pos rfl, show qp L 0 = 0 from rfl]
        have e16 : qp L (15 + 1) = qp L 16 := rfl
        rw [e16] at k1 k2 k3
        by_cases hp : qp L 16 = 1
        · have := k2 hp; rw [q1] at this; omega
        · by_cases hm : qp L 16 = -1
          · have := k3 hm; rw [q1] at this; omega
          · omega
      · rw [if_neg h2]; omega
    · rw [List.getD_eq_getElem?_getD, List.getElem?_eq_none (by omega)]; simp
  · rw [crTo_val L h.len, show vI L 16 - qp L 16 * 115792089237316195423570985008687907853269984665640564039457584007913129639898 = vI L 16 - (pC : Int) * (2 * qp L 16) by rw [show (pC : Int) = 57896044618658097711785492504343953926634992332820282019728792003956564819949 from rfl]; omega, Int.sub_mul_emod_self_left]
    exact h.val
theorem Cn.val {L : List Int} (h : Cn L) (n : Nat) : 0 ≤ vI L n ∧ vI L n < 65536 ^ n := by
  induction n with
  | zero => simp [vI]
  | succ n ih =>
    have h2 := h.bd n
    rw [vI_succ, pow_step]
    generalize (65536 : Int) ^ n = P at *
    have h3 : 0 ≤ L.getD n 0 * P := Int.mul_nonneg h2.1 (by omega)
    have h4 : L.getD n 0 * P ≤ 65535 * P := Int.mul_le_mul_of_nonneg_right h2.2 (by omega)
    omega
/-- The prime's parts. -/
def pL : List Int := [65517, 65535, 65535, 65535, 65535, 65535, 65535, 65535, 65535, 65535, 65535, 65535, 65535, 65535, 65535, 32767]
/-- What is borrowed ahead of part i. -/
def bw (T : List Int) : Nat → Int
  | 0 => 0
  | i + 1 => (T.getD i 0 - pL.getD i 0 - bw T i) / 65536 % 2
theorem pL_bd (i : Nat) (h : i < 16) : 32767 ≤ pL.getD i 0 ∧ pL.getD i 0 ≤ 65535 := by
  have : ∀ k : Fin 16, 32767 ≤ pL.getD k.val 0 ∧ pL.getD k.val 0 ≤ 65535 := by decide
  exact this ⟨i, h⟩
/-- The difference, part by part. -/
def sb (T : List Int) (i : Nat) : Int := T.getD i 0 - pL.getD i 0 - bw T i
theorem bw_bd {T : List Int} (_ : Cn T) (i : Nat) (_ : i ≤ 16) : (bw T i = 0 ∨ bw T i = 1) := by
  cases i with
  | zero => exact .inl rfl
  | succ i => show (_ / 65536 % 2 = 0 ∨ _ / 65536 % 2 = 1); omega
theorem sb_bd {T : List Int} (h : Cn T) (i : Nat) (hi : i < 16) : -65536 ≤ sb T i ∧ sb T i ≤ 32768 := by
  have h1 := h.bd i
  have h2 := pL_bd i hi
  have h3 := bw_bd h i (by omega)
  unfold sb
  omega
theorem bw_eq {T : List Int} (h : Cn T) (i : Nat) (hi : i < 16) : sb T i = sb T i % 65536 - 65536 * bw T (i + 1) := by
  have := sb_bd h i hi
  have e : bw T (i + 1) = sb T i / 65536 % 2 := rfl
  omega
/-- The list of the difference. -/
def mL (T : List Int) : List Int := [sb T 0 % 65536, sb T 1 % 65536, sb T 2 % 65536, sb T 3 % 65536, sb T 4 % 65536, sb T 5 % 65536, sb T 6 % 65536, sb T 7 % 65536, sb T 8 % 65536, sb T 9 % 65536, sb T 10 % 65536, sb T 11 % 65536, sb T 12 % 65536, sb T 13 % 65536, sb T 14 % 65536, sb T 15]
theorem mL_low (T : List Int) (i : Nat) (h : i < 15) : (mL T).getD i 0 = sb T i % 65536 := by
  have e : ∀ k : Fin 15, (mL T).getD k.val 0 = sb T k.val % 65536 := by
    intro k
    match k with
    | ⟨0, _⟩ | ⟨1, _⟩ | ⟨2, _⟩ | ⟨3, _⟩ | ⟨4, _⟩ | ⟨5, _⟩ | ⟨6, _⟩ | ⟨7, _⟩ | ⟨8, _⟩ | ⟨9, _⟩ | ⟨10, _⟩ | ⟨11, _⟩ | ⟨12, _⟩ | ⟨13, _⟩ | ⟨14, _⟩ => rfl
  exact e ⟨i, h⟩
theorem mL_val {T : List Int} (h : Cn T) (n : Nat) (hn : n ≤ 15) : vI (mL T) n = vI T n - vI pL n + bw T n * 65536 ^ n := by
  induction n with
  | zero => rfl
  | succ n ih =>
    have e := bw_eq h n (by omega)
    have e2 : sb T n = T.getD n 0 - pL.getD n 0 - bw T n := rfl
    rw [vI_succ, vI_succ, vI_succ, ih (by omega), mL_low T n (by omega), pow_step, show sb T n % 65536 = T.getD n 0 - pL.getD n 0 - bw T n + 65536 * bw T (n + 1) by omega]
    generalize (65536 : Int) ^ n = P
    generalize T.getD n 0 = t
    generalize pL.getD n 0 = q
    generalize bw T n = b0
    generalize bw T (n + 1) = b1
    rw [Int.add_mul, Int.sub_mul, Int.sub_mul, Int.mul_left_comm b1, ← Int.mul_assoc]
    omega
theorem pL_val : vI pL 16 = (pC : Int) := by decide +kernel
theorem mL_full {T : List Int} (h : Cn T) : vI (mL T) 16 = vI T 16 - (pC : Int) := by
  rw [← pL_val]
  rw [vI_succ (mL T) 15, vI_succ T 15, vI_succ pL 15, mL_val h 15 (by omega), show (mL T).getD 15 0 = T.getD 15 0 - pL.getD 15 0 - bw T 15 from rfl, Int.sub_mul, Int.sub_mul]
  omega
/-- What one round of taking the prime away leaves. -/
def nxL (T : List Int) : List Int := if sb T 15 / 65536 % 2 = 0 then mL T else T
theorem nx_val {T : List Int} (h : Cn T) : Cn (nxL T) ∧ vI (nxL T) 16 = if vI T 16 < (pC : Int) then vI T 16 else vI T 16 - (pC : Int) := by
  have hs := sb_bd h 15 (by omega)
  have hm := mL_full h
  have hlow : 0 ≤ vI (mL T) 15 ∧ vI (mL T) 15 < 65536 ^ 15 := by
    have : ∀ n, n ≤ 15 → 0 ≤ vI (mL T) n ∧ vI (mL T) n < 65536 ^ n := by
      intro n hn
      induction n with
      | zero => simp [vI]
      | succ n ih =>
        have h1 := ih (by omega)
        have h2 := mL_low T n (by omega)
        rw [vI_succ, pow_step, h2]
        generalize (65536 : Int) ^ n = P at *
        have h3 : 0 ≤ sb T n % 65536 * P := Int.mul_nonneg (by omega) (by omega)
        have h4 : sb T n % 65536 * P ≤ 65535 * P := Int.mul_le_mul_of_nonneg_right (by omega) (by omega)
        omega
    exact this 15 (by omega)
  have hsp : vI (mL T) 16 = vI (mL T) 15 + sb T 15 * 65536 ^ 15 := vI_succ _ 15
  rw [show (65536 : Int) ^ 15 = 1766847064778384329583297500742918515827483896875618958121606201292619776 by decide +kernel] at hlow hsp
  unfold nxL
  by_cases hb : sb T 15 / 65536 % 2 = 0
  · rw [if_pos hb, if_neg (by omega)]
    refine ⟨⟨rfl, fun j => ?_⟩, hm⟩
    by_cases hj : j < 15
    · rw [mL_low T j hj]; omega
    · by_cases h15 : j = 15
      · subst h15; show 0 ≤ sb T 15 ∧ sb T 15 ≤ 65535; omega
      · rw [List.getD_eq_getElem?_getD, List.getElem?_eq_none (by show 16 ≤ j; omega)]; simp
  · rw [if_neg hb, if_pos (by omega)]
    exact ⟨h, rfl⟩
/-- What is written. -/
theorem write_val {R : List Int} {a : Nat} (h : Rc R a) : Cn (nxL (nxL (crTo (crTo (crTo R 16) 16) 16))) ∧ vI (nxL (nxL (crTo (crTo (crTo R 16) 16) 16))) 16 = (a : Int) ∧ Cn (crTo (crTo (crTo R 16) 16) 16) ∧ Cn (nxL (crTo (crTo (crTo R 16) 16) 16)) ∧ Cn (crTo R 16) ∧ Cn (crTo (crTo R 16) 16) := by
  obtain ⟨c1, v1⟩ := h.carry
  obtain ⟨c2, v2⟩ := c1.carry
  obtain ⟨c3, v3⟩ := c2.carry
  obtain ⟨c4, v4⟩ := nx_val c3
  obtain ⟨c5, v5⟩ := nx_val c4
  refine ⟨c5, ?_, c3, c4, c1, c2⟩
  have hv := c3.val 16
  rw [v3, v2] at v4 hv
  rw [show (65536 : Int) ^ 16 = 115792089237316195423570985008687907853269984665640564039457584007913129639936 by decide +kernel] at hv
  rw [show (pC : Int) = 57896044618658097711785492504343953926634992332820282019728792003956564819949 from rfl] at v1 v4 v5
  generalize vI (crTo R 16) 16 = V at *
  rw [v5]
  have ha : (a : Int) = V % 57896044618658097711785492504343953926634992332820282019728792003956564819949 := v1.symm
  rw [ha]
  clear v5 c5 c4 v3 v2 c3 c2 c1 h ha v1
  generalize vI (nxL (crTo (crTo (crTo R 16) 16) 16)) 16 = V1 at v4 ⊢
  by_cases h1 : V < 57896044618658097711785492504343953926634992332820282019728792003956564819949
  · rw [if_pos h1] at v4
    rw [v4, if_pos h1]
    omega
  · rw [if_neg h1] at v4
    rw [v4]
    by_cases h2 : V - 57896044618658097711785492504343953926634992332820282019728792003956564819949 < 57896044618658097711785492504343953926634992332820282019728792003956564819949
    · rw [if_pos h2]
      omega
    · rw [if_neg h2]
      omega
/-- The bytes of a part. -/
theorem part_val {L : List Int} (h : Cn L) (a : Nat) (hv : vI L 16 = (a : Int)) (i : Nat) (hi : i < 16) : L.getD i 0 % 256 = ((a / 256 ^ (2 * i) % 256 : Nat) : Int) ∧ L.getD i 0 / 256 % 256 = ((a / 256 ^ (2 * i + 1) % 256 : Nat) : Int) := by
  have hd : ∀ n, i < n → n ≤ 16 → ∃ U, vI L n = vI L i + (L.getD i 0 + 65536 * U) * 65536 ^ i := by
    intro n hn hn2
    induction n with
    | zero => omega
    | succ n ih =>
      by_cases hin : i = n
      · subst hin
        exact ⟨0, by rw [vI_succ, Int.mul_zero, Int.add_zero]⟩
      · obtain ⟨U, hU⟩ := ih (by omega) (by omega)
        obtain ⟨d, hd⟩ : ∃ d, n = i + (d + 1) := ⟨n - i - 1, by omega⟩
        refine ⟨U + L.getD n 0 * 65536 ^ d, ?_⟩
        rw [vI_succ, hU]
        conv => lhs; rw [show (65536 : Int) ^ n = 65536 * 65536 ^ d * 65536 ^ i by rw [hd, Int.pow_add, pow_step, Int.mul_comm]]
        generalize (65536 : Int) ^ d = D
        generalize (65536 : Int) ^ i = P
        generalize L.getD n 0 = y
        generalize L.getD i 0 = z
        rw [Int.add_assoc, ← Int.mul_assoc y, ← Int.add_mul]
        congr 2
        rw [Int.mul_add, Int.mul_left_comm y, Int.add_assoc]
  obtain ⟨U, hU⟩ := hd 16 hi (by omega)
  have hl := h.val i
  have hb := h.bd i
  rw [hv] at hU
  have e1 : ((a / 256 ^ (2 * i) : Nat) : Int) = L.getD i 0 + 65536 * U := by
    rw [Int.natCast_ediv, Int.natCast_pow, show (((256 : Nat) : Int)) ^ (2 * i) = 65536 ^ i by rw [Int.pow_mul]; rfl, hU, Int.add_mul_ediv_right _ _ (by omega), Int.ediv_eq_zero_of_lt hl.1 hl.2]
    omega
  have e2 : a / 256 ^ (2 * i + 1) = a / 256 ^ (2 * i) / 256 := by rw [Nat.pow_succ, Nat.div_div_eq_div_mul]
  rw [e2]
  generalize a / 256 ^ (2 * i) = q at *
  omega
end
end Go.Proofs.YtookapglookphaaDoor
