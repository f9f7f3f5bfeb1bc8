/- The document's numbers in plain regions; its inverse. -/
import Derived.Test.YtdgapijgdbhlfaaDoorCrD
import Derived.Test.YtdgapijgdbhlfaaDoorCuI
namespace Go.Proofs.YtdgapijgdbhlfaaDoor
open Go Go.RowKit

/-- The block g holds a number of the document's, carried. -/
def C16 (w : World) (g a : Nat) : Prop := ∃ R, IB w g 46 R ∧ Rc R a
/-- .. or a sum or difference. -/
def B16 (w : World) (g a : Nat) : Prop := ∃ R, IB w g 46 R ∧ Rb R a
/-- .. or whatever. -/
def A16 (w : World) (g : Nat) : Prop := ∃ R : List Int, IB w g 46 R ∧ R.length = 16
theorem C16.any {w : World} {g a : Nat} (h : C16 w g a) : A16 w g := by obtain ⟨R, h1, h2⟩ := h; exact ⟨R, h1, h2.len⟩
theorem B16.any {w : World} {g a : Nat} (h : B16 w g a) : A16 w g := by obtain ⟨R, h1, h2⟩ := h; exact ⟨R, h1, h2.len⟩
theorem C16.ext {w w' : World} {g a : Nat} (h : C16 w g a) (he : Ex w w') : C16 w' g a := by obtain ⟨R, h1, h2⟩ := h; exact ⟨R, h1.fresh he, h2⟩
theorem B16.ext {w w' : World} {g a : Nat} (h : B16 w g a) (he : Ex w w') : B16 w' g a := by obtain ⟨R, h1, h2⟩ := h; exact ⟨R, h1.fresh he, h2⟩
theorem A16.ext {w w' : World} {g : Nat} (h : A16 w g) (he : Ex w w') : A16 w' g := by obtain ⟨R, h1, h2⟩ := h; exact ⟨R, h1.fresh he, h2⟩
theorem C16.keep {S : Nat → Prop} {w w' : World} {g a : Nat} (h : C16 w g a) (hk : Keeps S w w') (hn : ¬ S g) : C16 w' g a := by obtain ⟨R, h1, h2⟩ := h; exact ⟨R, h1.keep hk hn, h2⟩
theorem B16.keep {S : Nat → Prop} {w w' : World} {g a : Nat} (h : B16 w g a) (hk : Keeps S w w') (hn : ¬ S g) : B16 w' g a := by obtain ⟨R, h1, h2⟩ := h; exact ⟨R, h1.keep hk hn, h2⟩
theorem A16.keep {S : Nat → Prop} {w w' : World} {g : Nat} (h : A16 w g) (hk : Keeps S w w') (hn : ¬ S g) : A16 w' g := by obtain ⟨R, h1, h2⟩ := h; exact ⟨R, h1.keep hk hn, h2⟩
theorem C16.lt {w : World} {g a : Nat} (h : C16 w g a) : g < w.heap.size := by obtain ⟨R, h1, _⟩ := h; exact h1.lt
theorem IB.range {w : World} {g : Nat} {t : TypeId} {L : List Int} (h : IB w g t L) : w.rangeAt g 0 (icells L) := fun j v hv => by
  rw [Nat.zero_add, cell_row h]
  exact hv
theorem gives_loadI {o : Oper} {ρ : Operand → Value} {w : World} {x : Operand} {g : Nat} {R : List Int} {Φ : Value → World → Prop} (ho : o.op = .load 46 x) (hx : ρ x = .pointer (some ⟨g, 0, none⟩))
    (hr : IB w g 46 R) (hl : R.length = 16) (h : Φ (.agg (icells R).toArray) w) : Gives Tryd.prog o ρ w Φ := by
  refine Gives.value (w' := w) (v := .agg (icells R).toArray) ?_ h
  unfold execOp
  simp only [ho, hx]
  rw [Sem.run_bind, run_loadAt_mid w g 0 46 _ _ hr.range Tryd.underlying46 rfl (by rw [icells_length, hl]; kernel_rfl)]
  rfl
theorem gives_allocI {o : Oper} {ρ : Operand → Value} {w : World} {Φ : Value → World → Prop} (ho : o.op = .alloc 46)
    (h : Φ (.pointer (some ⟨w.heap.size, 0, none⟩)) (w.alloc (.cells (icells Z16).toArray 46))) : Gives Tryd.prog o ρ w Φ := by
  refine Gives.value ?_ h
  unfold execOp
  simp only [ho]
  have hz : (zeroValue 46).run Tryd.prog w = .ok (.agg (icells Z16).toArray) w := (zero_of_info (P := Tryd.prog) (t := 46) (v := .agg (icells Z16).toArray) (n := 16) (by kernel_rfl)).1 w
  simp [Instr.alloc, hz, newVar]
  rfl
section
variable {ops : Array Oper} {rest : List Oper} {o o2 : Oper} {a : Act} {w : World} {Q : Exit → Act → World → Prop} {x y : Operand}
theorem wpList_loadC {g n : Nat} {d : Tmp} (_ : o.dst = some d) (hg : o.guard = none) (ho : o.op = .load 46 x) (hx : a.eval x = .pointer (some ⟨g, 0, none⟩)) (hb : C16 w g n)
    (h : ∀ v, IsC v n → wpList Tryd.prog ops Q rest (a.put o.dst v) w) : wpList Tryd.prog ops Q (o :: rest) a w := by
  obtain ⟨R, h1, h2⟩ := hb
  exact wpList_gives (Φ := fun v w' => IsC v n ∧ w' = w) hg (gives_loadI ho hx h1 h2.len ⟨⟨R, rfl, h2⟩, rfl⟩) fun v w' ⟨hv, e⟩ => by rw [e]; exact h v hv
theorem wpList_loadB {g n : Nat} {d : Tmp} (_ : o.dst = some d) (hg : o.guard = none) (ho : o.op = .load 46 x) (hx : a.eval x = .pointer (some ⟨g, 0, none⟩)) (hb : B16 w g n)
    (h : ∀ v, IsB v n → wpList Tryd.prog ops Q rest (a.put o.dst v) w) : wpList Tryd.prog ops Q (o :: rest) a w := by
  obtain ⟨R, h1, h2⟩ := hb
  exact wpList_gives (Φ := fun v w' => IsB v n ∧ w' = w) hg (gives_loadI ho hx h1 h2.len ⟨⟨R, rfl, h2⟩, rfl⟩) fun v w' ⟨hv, e⟩ => by rw [e]; exact h v hv
theorem wpList_rmul {n m : Nat} {ts : Array TypeId} {vx vy : Value} (hg : o.guard = none) (ho : o.op = .call { callee := .value (.func 24), args := #[x, y], argTypes := ts }) (ex : a.eval x = vx) (hx : IsB vx n) (ey : a.eval y = vy) (hy : IsB vy m)
    (h : ∀ v w', IsC v (fmul n m) → Ex w w' → wpList Tryd.prog ops Q rest (a.put o.dst v) w') : wpList Tryd.prog ops Q (o :: rest) a w :=
  wpList_gives (Φ := fun v w' => IsC v (fmul n m) ∧ Ex w w') hg (gives_call (vs := #[vx, vy]) ho rfl (by simp [ex, ey]) Tryd.func24 (by kernel_rfl) (by kernel_rfl) ((rmul_c hx hy w).mono fun _ _ ⟨v, h1, h2, h3⟩ => ⟨v, h1, h2, h3⟩)) fun v w' hv => h v w' hv.1 hv.2
theorem wpList_radd {n m : Nat} {ts : Array TypeId} {vx vy : Value} (hg : o.guard = none) (ho : o.op = .call { callee := .value (.func 22), args := #[x, y], argTypes := ts }) (ex : a.eval x = vx) (hx : IsC vx n) (ey : a.eval y = vy) (hy : IsC vy m)
    (h : ∀ v w', IsB v (fadd n m) → Ex w w' → wpList Tryd.prog ops Q rest (a.put o.dst v) w') : wpList Tryd.prog ops Q (o :: rest) a w :=
  wpList_gives (Φ := fun v w' => IsB v (fadd n m) ∧ Ex w w') hg (gives_call (vs := #[vx, vy]) ho rfl (by simp [ex, ey]) Tryd.func22 (by kernel_rfl) (by kernel_rfl) ((radd_c hx hy w).mono fun _ _ ⟨v, h1, h2, h3⟩ => ⟨v, h1, h2, h3⟩)) fun v w' hv => h v w' hv.1 hv.2
theorem wpList_rsub {n m : Nat} {ts : Array TypeId} {vx vy : Value} (hg : o.guard = none) (ho : o.op = .call { callee := .value (.func 23), args := #[x, y], argTypes := ts }) (ex : a.eval x = vx) (hx : IsC vx n) (ey : a.eval y = vy) (hy : IsC vy m)
    (h : ∀ v w', IsB v (fsub n m) → Ex w w' → wpList Tryd.prog ops Q rest (a.put o.dst v) w') : wpList Tryd.prog ops Q (o :: rest) a w :=
  wpList_gives (Φ := fun v w' => IsB v (fsub n m) ∧ Ex w w') hg (gives_call (vs := #[vx, vy]) ho rfl (by simp [ex, ey]) Tryd.func23 (by kernel_rfl) (by kernel_rfl) ((rsub_c hx hy w).mono fun _ _ ⟨v, h1, h2, h3⟩ => ⟨v, h1, h2, h3⟩)) fun v w' hv => h v w' hv.1 hv.2
/-- A number laid into a place. -/
theorem wpList_overC {n g : Nat} {v : Value} (hg : o.guard = none) (ho : o.op = .store 46 x y) (hd : o.dst = none) (hx : a.eval x = .pointer (some ⟨g, 0, none⟩)) (hy : a.eval y = v) (hn : IsC v n) (hb : A16 w g)
    (h : ∀ w', Keeps (fun k => k = g) w w' → C16 w' g n → wpList Tryd.prog ops Q rest a w') : wpList Tryd.prog ops Q (o :: rest) a w := by
  obtain ⟨R, rfl, ht⟩ := hn
  obtain ⟨R0, hb, ht0⟩ := hb
  obtain ⟨z1, y1, _⟩ := row16 R ht.len
  have hz : (icells R0).toArray.size = (icells R).toArray.size := by rw [List.size_toArray, List.size_toArray, icells_length, icells_length, ht.len, ht0]
  refine wpList_store_row hg 46 _ _ ho g (icells R).toArray hx hy 46 _ hb z1 hz y1 ?_
  rw [hd]
  refine h _ ⟨rfl, rfl, rfl, by simp, fun k _ hk => setRow_other _ _ _ _ hk⟩ ⟨R, ?_, ht⟩
  unfold IB
  rw [setRow_heap _ _ _ _ _ _ hb]
/-- A new place, and a number laid into it. -/
theorem wpList_newC {n : Nat} {d e : Tmp} {v : Value} (hg : o.guard = none ∧ o2.guard = none) (ho : o.op = .alloc 46) (ho2 : o2.op = .store 46 (.tmp d) (.tmp e)) (hd : o.dst = some d) (hd2 : o2.dst = none)
    (hs : decide (d < a.tmps.size) = true) (hv : a.eval (.tmp e) = v) (hn : IsC v n) (hde : d ≠ e)
    (h : ∀ g w', Ex w w' → C16 w' g n → w.heap.size ≤ g → wpList Tryd.prog ops Q rest (a.put (some d) (.pointer (some ⟨g, 0, none⟩))) w') : wpList Tryd.prog ops Q (o :: o2 :: rest) a w := by
  obtain ⟨R, rfl, ht⟩ := hn
  refine wpList_gives (Φ := fun u w' => u = .pointer (some ⟨w.heap.size, 0, none⟩) ∧ w' = w.alloc (.cells (icells Z16).toArray 46)) hg.1 (gives_allocI ho ⟨rfl, rfl⟩) fun u w' ⟨e1, e2⟩ => ?_
  rw [e1, e2, hd]
  obtain ⟨z1, y1, x1⟩ := row16 R ht.len
  have hn0 := heap_alloc_new w (.cells (icells Z16).toArray 46)
  refine wpList_store_row hg.2 46 _ _ ho2 w.heap.size (icells R).toArray ?_ ?_ 46 _ hn0 z1 x1 y1 ?_
  · rw [eval_put_tmp, if_pos ⟨rfl, of_decide_eq_true hs⟩]
  · rw [eval_put_tmp, if_neg (by intro h; exact hde (Option.some.inj h.1)), hv]
  · rw [hd2]
    refine h w.heap.size _ ?_ ⟨R, ?_, ht⟩ (Nat.le_refl _)
    · exact below_setRow (Ex.alloc w _) (Nat.le_refl _) _
    · unfold IB
      rw [setRow_heap _ _ _ _ _ _ hn0]
/-- A number laid into a place. -/
theorem wpList_overB {n g : Nat} {v : Value} (hg : o.guard = none) (ho : o.op = .store 46 x y) (hd : o.dst = none) (hx : a.eval x = .pointer (some ⟨g, 0, none⟩)) (hy : a.eval y = v) (hn : IsB v n) (hb : A16 w g)
    (h : ∀ w', Keeps (fun k => k = g) w w' → B16 w' g n → wpList Tryd.prog ops Q rest a w') : wpList Tryd.prog ops Q (o :: rest) a w := by
  obtain ⟨R, rfl, ht⟩ := hn
  obtain ⟨R0, hb, ht0⟩ := hb
  obtain ⟨z1, y1, _⟩ := row16 R ht.len
  have hz : (icells R0).toArray.size = (icells R).toArray.size := by rw [List.size_toArray, List.size_toArray, icells_length, icells_length, ht.len, ht0]
  refine wpList_store_row hg 46 _ _ ho g (icells R).toArray hx hy 46 _ hb z1 hz y1 ?_
  rw [hd]
  refine h _ ⟨rfl, rfl, rfl, by simp, fun k _ hk => setRow_other _ _ _ _ hk⟩ ⟨R, ?_, ht⟩
  unfold IB
  rw [setRow_heap _ _ _ _ _ _ hb]
/-- A new place, and a number laid into it. -/
theorem wpList_newB {n : Nat} {d e : Tmp} {v : Value} (hg : o.guard = none ∧ o2.guard = none) (ho : o.op = .alloc 46) (ho2 : o2.op = .store 46 (.tmp d) (.tmp e)) (hd : o.dst = some d) (hd2 : o2.dst = none)
    (hs : decide (d < a.tmps.size) = true) (hv : a.eval (.tmp e) = v) (hn : IsB v n) (hde : d ≠ e)
    (h : ∀ g w', Ex w w' → B16 w' g n → w.heap.size ≤ g → wpList Tryd.prog ops Q rest (a.put (some d) (.pointer (some ⟨g, 0, none⟩))) w') : wpList Tryd.prog ops Q (o :: o2 :: rest) a w := by
  obtain ⟨R, rfl, ht⟩ := hn
  refine wpList_gives (Φ := fun u w' => u = .pointer (some ⟨w.heap.size, 0, none⟩) ∧ w' = w.alloc (.cells (icells Z16).toArray 46)) hg.1 (gives_allocI ho ⟨rfl, rfl⟩) fun u w' ⟨e1, e2⟩ => ?_
  rw [e1, e2, hd]
  obtain ⟨z1, y1, x1⟩ := row16 R ht.len
  have hn0 := heap_alloc_new w (.cells (icells Z16).toArray 46)
  refine wpList_store_row hg.2 46 _ _ ho2 w.heap.size (icells R).toArray ?_ ?_ 46 _ hn0 z1 x1 y1 ?_
  · rw [eval_put_tmp, if_pos ⟨rfl, of_decide_eq_true hs⟩]
  · rw [eval_put_tmp, if_neg (by intro h; exact hde (Option.some.inj h.1)), hv]
  · rw [hd2]
    refine h w.heap.size _ ?_ ⟨R, ?_, ht⟩ (Nat.le_refl _)
    · exact below_setRow (Ex.alloc w _) (Nat.le_refl _) _
    · unfold IB
      rw [setRow_heap _ _ _ _ _ _ hn0]
end
/-- What lies ready: the number, the answer's place, the power. -/
structure WI (w wr : World) (g a p : Nat) : Prop where
  a : C16 wr w.heap.size a
  r : IB wr (w.heap.size + 1) 46 Z16
  p : C16 wr g p
  e : Ex w wr
  b : w.heap.size + 2 ≤ g
theorem WI.ext {w wr wr' : World} {g a p : Nat} (h : WI w wr g a p) (he : Ex wr wr') : WI w wr' g a p := ⟨h.a.ext he, h.r.fresh he, h.p.ext he, h.e.trans he, h.b⟩
theorem WI.set {w wr wr' : World} {g a p q : Nat} (h : WI w wr g a p) (hk : Keeps (fun k => k = g) wr wr') (hq : C16 wr' g q) : WI w wr' g a q :=
  ⟨h.a.keep hk (by have := h.b; omega), h.r.keep hk (by have := h.b; omega), hq, Below.trans h.e (hk.below (B := w.heap.size) h.e.size (by intro k e; have := h.b; omega)), h.b⟩
set_option maxHeartbeats 800000 in
set_option maxRecDepth 100000 in
theorem rinvert_c {v : Value} {a : Nat} (h : IsC v a) (w : World) :
    Calls Tryd.prog 26 #[v] w fun e w' => ∃ r, e = .returned r ∧ IsC r (inv a) ∧ Ex w w' := by
  obtain ⟨X, rfl, hX⟩ := h
  have HX := hidden hX
  clear hX
  obtain ⟨A, hA⟩ : ∃ A, A = (icells X).toArray := ⟨_, rfl⟩
  have HN1 : Hid (IB (w.alloc (.cells A 46)) w.heap.size 46 X) := by rw [hA]; exact IB.new w X
  rw [← hA]
  clear hA
  go_enter Tryd.func26, Tryd.ntmps26
  go_upto_region 1 with fail
  change Code.wp _ _ _ _ ((w.alloc (.cells A 46)).alloc (.cells (icells Z16).toArray 46))
  have hs1 : (w.alloc (.cells A 46)).heap.size = w.heap.size + 1 := by simp
  have HE1 : Hid (Ex w (w.alloc (.cells A 46))) := Ex.alloc w _
  generalize w.alloc (.cells A 46) = w1 at HN1 HE1 hs1 ⊢
  have HE2 : Hid (Ex w1 (w1.alloc (.cells (icells Z16).toArray 46))) := Ex.alloc w1 _
  have HN2 := hidden (IB.new (t := 46) w1 Z16)
  have hs2 : (w1.alloc (.cells (icells Z16).toArray 46)).heap.size = w.heap.size + 2 := by simp [hs1]
  generalize w1.alloc (.cells (icells Z16).toArray 46) = w2 at HN2 HE2 hs2 ⊢
  rw [hs1] at HN2
  have HS2 := hidden hs2
  have HA2 : Hid (C16 w2 w.heap.size a) := ⟨X, HN1.out.fresh HE2.out, HX.out⟩
  have HE := hidden (HE1.out.trans HE2.out)
  clear hs1 hs2 HN1 HE1 HE2 HX
  go_wp2_with (first
    | (refine wpList_loadC (d := 5) (x := .tmp 1) rfl rfl rfl (by kernel_rfl) HA2.out ?_; intro v5 i5)
    | (refine wpList_newC (d := 3) (e := 5) (v := v5) ⟨rfl, rfl⟩ rfl rfl rfl rfl (by kernel_rfl) (by kernel_rfl) i5 (by decide) ?_; intro g3 w3 hx n1 b1))
  have HV : Hid (WI w w3 g3 a (ivTo a (254 - 254))) := ⟨HA2.out.ext hx, HN2.out.fresh hx, n1, HE.out.trans hx, by have := HS2.out; omega⟩
  clear HA2 HN2 HE hx n1 b1 i5 HS2
  go_loopw [4] (fun c wr => ∃ b : Nat, b ≤ 254 ∧ c = .int .i64 ((b : Int) - 1) ∧ WI w wr g3 a (ivTo a (254 - b))) (fun c _ => (intOf c + 1).toNat)
  case atStart => exact ⟨254, by omega, rfl, HV.out⟩
  case round =>
    clear HV
    obtain ⟨b, hb, rfl, hv⟩ := hrel
    have HV := hidden hv
    clear hv
    by_cases hz : b = 0
    · subst hz
      go_wp2_with (first
        | (refine wpList_loadC (d := 22) (x := .tmp 3) rfl rfl rfl (by kernel_rfl) HV.out.p ?_; intro v22 i22; obtain ⟨R, hR, tR⟩ := i22; subst hR; have HT := hidden tR; clear tR; obtain ⟨z1, y1, x1⟩ := row16 R HT.out.len; have HZ := hidden z1; have HY := hidden y1; have HX := hidden x1; clear z1 y1 x1)
        | (refine wpList_store_row rfl 46 (.tmp 2) (.tmp 22) rfl (w.heap.size + 1) (icells R).toArray rfl rfl 46 _ HV.out.r HZ.out HX.out HY.out ?_))
      have HR1 : Hid ((wr.setRow (w.heap.size + 1) (icells R).toArray).heap[w.heap.size + 1]? = some (.cells (icells R).toArray 46 (0, 0))) := setRow_heap wr (w.heap.size + 1) _ _ _ _ HV.out.r
      have HL1 : Hid (Ex w (wr.setRow (w.heap.size + 1) (icells R).toArray)) := below_setRow HV.out.e (by omega) _
      (try simp only [Exit.inBlock, Exit.then])
      refine bodyPost_ret (results_cell1 rfl _ _ _ (w.heap.size + 1) (icells R).toArray 46 (0, 0) 16 2 rfl HR1.out Tryd.underlying46 HZ.out) rfl ?_
      exact ⟨_, rfl, ⟨R, rfl, HT.out⟩, HL1.out⟩
    · obtain ⟨j, rfl⟩ : ∃ j, b = j + 1 := ⟨b - 1, by omega⟩
      rw [show ((j + 1 : Nat) : Int) - 1 = (j : Int) by omega]
      have hj0 : (0 : Int) ≤ (j : Int) := by omega
      generalize hp : ivTo a (254 - (j + 1)) = p at HV
      have HP := hidden hp
      clear hp
      have HJ := hidden (show j < 254 by omega)
      by_cases h2 : j = 2
      · subst h2
        go_wp2_with (first
          | (refine wpList_loadC (d := 10) (x := .tmp 3) rfl rfl rfl (by kernel_rfl) HV.out.p ?_; intro v10 i10)
          | (refine wpList_loadC (d := 11) (x := .tmp 3) rfl rfl rfl (by kernel_rfl) HV.out.p ?_; intro v11 i11)
          | (refine wpList_rmul (x := .tmp 10) (y := .tmp 11) (vx := v10) (vy := v11) rfl rfl (by kernel_rfl) i10.b (by kernel_rfl) i11.b ?_; intro v12 w4 i12 hx)
          | (refine wpList_overC (x := .tmp 3) (y := .tmp 12) (v := v12) rfl rfl rfl (by kernel_rfl) (by kernel_rfl) i12 (HV.out.ext hx).p.any ?_; intro w5 hk n5))
        go_roundw
        case rel =>
          refine ⟨2, by omega, by go_num, ?_⟩
          rw [show ivTo a (254 - 2) = fmul p p by rw [← HP.out]; rfl]
          exact (HV.out.ext hx).set hk n5
        case measure => simp [intOf]
      · by_cases h4 : j = 4
        · subst h4
          go_wp2_with (first
            | (refine wpList_loadC (d := 10) (x := .tmp 3) rfl rfl rfl (by kernel_rfl) HV.out.p ?_; intro v10 i10)
            | (refine wpList_loadC (d := 11) (x := .tmp 3) rfl rfl rfl (by kernel_rfl) HV.out.p ?_; intro v11 i11)
            | (refine wpList_rmul (x := .tmp 10) (y := .tmp 11) (vx := v10) (vy := v11) rfl rfl (by kernel_rfl) i10.b (by kernel_rfl) i11.b ?_; intro v12 w4 i12 hx)
            | (refine wpList_overC (x := .tmp 3) (y := .tmp 12) (v := v12) rfl rfl rfl (by kernel_rfl) (by kernel_rfl) i12 (HV.out.ext hx).p.any ?_; intro w5 hk n5))
          go_roundw
          case rel =>
            refine ⟨4, by omega, by go_num, ?_⟩
            rw [show ivTo a (254 - 4) = fmul p p by rw [← HP.out]; rfl]
            exact (HV.out.ext hx).set hk n5
          case measure => simp [intOf]
        · have hi2 : ((j : Int) != 2) = true := by rw [bne_iff_ne]; omega
          have hi4 : ((j : Int) != 4) = true := by rw [bne_iff_ne]; omega
          have HI := hidden (ivTo_plain a j HJ.out h2 h4)
          clear h2 h4
          go_wp2_with (first
            | (refine wpList_loadC (d := 10) (x := .tmp 3) rfl rfl rfl (by kernel_rfl) HV.out.p ?_; intro v10 i10)
            | (refine wpList_loadC (d := 11) (x := .tmp 3) rfl rfl rfl (by kernel_rfl) HV.out.p ?_; intro v11 i11)
            | (refine wpList_rmul (x := .tmp 10) (y := .tmp 11) (vx := v10) (vy := v11) rfl rfl (by kernel_rfl) i10.b (by kernel_rfl) i11.b ?_; intro v12 w4 i12 hx)
            | (refine wpList_overC (x := .tmp 3) (y := .tmp 12) (v := v12) rfl rfl rfl (by kernel_rfl) (by kernel_rfl) i12 (HV.out.ext hx).p.any ?_; intro w5 hk n5; have HV5 := hidden ((HV.out.ext hx).set hk n5); clear HV hx hk n5 i10 i11 i12)
            | (refine wpList_loadC (d := 19) (x := .tmp 3) rfl rfl rfl (by kernel_rfl) HV5.out.p ?_; intro v19 i19)
            | (refine wpList_loadC (d := 20) (x := .tmp 1) rfl rfl rfl (by kernel_rfl) HV5.out.a ?_; intro v20 i20)
            | (refine wpList_rmul (x := .tmp 19) (y := .tmp 20) (vx := v19) (vy := v20) rfl rfl (by kernel_rfl) i19.b (by kernel_rfl) i20.b ?_; intro v21 w6 i21 hx)
            | (refine wpList_overC (x := .tmp 3) (y := .tmp 21) (v := v21) rfl rfl rfl (by kernel_rfl) (by kernel_rfl) i21 (HV5.out.ext hx).p.any ?_; intro w7 hk n7))
          go_roundw
          case rel =>
            refine ⟨j, by omega, by go_num, ?_⟩
            rw [HI.out, HP.out]
            exact (HV5.out.ext hx).set hk n7
          case measure => simp [intOf]
end Go.Proofs.YtdgapijgdbhlfaaDoor
