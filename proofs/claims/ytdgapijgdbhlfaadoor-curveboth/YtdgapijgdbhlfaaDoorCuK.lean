/- The ladder. -/
import Derived.Test.YtdgapijgdbhlfaaDoorCuG
import Derived.Test.YtdgapijgdbhlfaaDoorCuI
import Derived.Test.YtdgapijgdbhlfaaDoorCuJ
namespace Go.Proofs.YtdgapijgdbhlfaaDoor
open Go Go.RowKit

abbrev Ld := (Nat × Nat) × (Nat × Nat)
def cs (b : Nat) (p : Ld) : Ld := if b = 1 then (p.2, p.1) else p
def stepF (u : Nat) (p : Ld) : Ld := ((dblX p.1.1 p.1.2, dblZ p.1.1 p.1.2), (sumX p.1.1 p.1.2 p.2.1 p.2.2, sumZ p.1.1 p.1.2 p.2.1 p.2.2 u))
def bitAt (S : List UInt8) (t : Nat) : Nat := (S.getD (t / 8) 0).toNat / 2 ^ (t % 8) % 2
/-- The ladder behind k rounds. -/
def tlTo (S : List UInt8) (u : Nat) : Nat → Ld
  | 0 => ((1, 0), (u, 1))
  | k + 1 => cs (bitAt S (254 - k)) (stepF u (cs (bitAt S (254 - k)) (tlTo S u k)))
def ladderOf (S : List UInt8) (u : Nat) : Nat := fmul (tlTo S u 255).1.1 (inv (tlTo S u 255).1.2)
theorem cs_cs (a b : Nat) (p : Ld) (ha : a ≤ 1) (hb : b ≤ 1) : cs (a ^^^ b) (cs a p) = cs b p := by
  rcases (show a = 0 ∨ a = 1 by omega) with rfl | rfl <;> rcases (show b = 0 ∨ b = 1 by omega) with rfl | rfl <;> simp [cs]
theorem bitAt_le (S : List UInt8) (t : Nat) : bitAt S t ≤ 1 := by unfold bitAt; omega
theorem tm_one : Tm [1, 0, 0, 0, 0] 1 := ⟨rfl, by decide, fun i hi => by
  match i, hi with
  | 1, _ | 2, _ | 3, _ | 4, _ => simp
  | k + 5, _ => simp, by decide⟩
theorem tm_zero : Tm [0, 0, 0, 0, 0] 0 := ⟨rfl, by decide, fun i hi => by
  match i, hi with
  | 1, _ | 2, _ | 3, _ | 4, _ => simp
  | k + 5, _ => simp, by decide⟩
theorem swap_c {g1 g2 b : Nat} (hb : b ≤ 1) {p q : Nat × Nat} (hne : g1 ≠ g2) (w : World) (h1 : R10 w g1 p.1 p.2) (h2 : R10 w g2 q.1 q.2) :
    Calls Tryd.prog 27 #[.pointer (some ⟨g1, 0, none⟩), .pointer (some ⟨g2, 0, none⟩), .int .u64 (b : Int)] w fun e w' => e = .returned (.tuple #[]) ∧ R10 w' g1 (cs b (p, q)).1.1 (cs b (p, q)).1.2 ∧ R10 w' g2 (cs b (p, q)).2.1 (cs b (p, q)).2.2 ∧ Keeps (fun k => k = g1 ∨ k = g2) w w' := by
  obtain ⟨X, Z, n1, t1, t2⟩ := h1
  obtain ⟨X', Z', n2, t3, t4⟩ := h2
  have bd : ∀ {X Z : List Nat} {x z : Nat}, Tm X x → Tm Z z → ∀ i, (X ++ Z).getD i 0 ≤ 18446744073709551615 := fun {X Z x z} hX hZ i => by
    by_cases hi : i < X.length
    · have := hX.all i
      rw [List.getD_eq_getElem?_getD, List.getElem?_append_left hi, ← List.getD_eq_getElem?_getD]
      omega
    · have := hZ.all (i - X.length)
      rw [List.getD_eq_getElem?_getD, List.getElem?_append_right (by omega), ← List.getD_eq_getElem?_getD]
      omega
  refine (swap_l g1 g2 b hb (X ++ Z) (X' ++ Z') (by rw [List.length_append, t1.len, t2.len]) (by rw [List.length_append, t3.len, t4.len]) (bd t1 t2) (bd t3 t4) hne w n1 n2).mono fun e w' ⟨h1, h2, h3, h4⟩ => ⟨h1, ?_, ?_, h4⟩
  · unfold cs
    split
    · rename_i e; rw [if_pos e] at h2; exact ⟨X', Z', h2, t3, t4⟩
    · rename_i e; rw [if_neg e] at h2; exact ⟨X, Z, h2, t1, t2⟩
  · unfold cs
    split
    · rename_i e; rw [if_pos e] at h3; exact ⟨X, Z, h3, t1, t2⟩
    · rename_i e; rw [if_neg e] at h3; exact ⟨X', Z', h3, t3, t4⟩

theorem kd_inverse {ks : List Kd} {U : Nat} {o : Oper} {ρ : Operand → Value} {w : World} {x : Operand} {a : Nat} {ts : Array TypeId} (ho : o.op = .call { callee := .value (.func 30), args := #[x], argTypes := ts }) (hρ : ρ (.func 30) = .func (.func 30) #[] #[]) {vx : Value} (ex : ρ x = vx) (hx : IsN vx a) : Gives Tryd.prog o ρ w (GP ks U (.num (inv a)) w) :=
  gives_call (vs := #[vx]) ho hρ (by simp [ex]) Tryd.func30 (by kernel_rfl) (by kernel_rfl) ((inverse_c hx w).mono fun _ _ ⟨v, h1, h2, h3⟩ => ⟨v, h1, GP.plain h3 h2 rfl⟩)
/-- Loads, calls, and one store into the answer's place. -/
theorem region_res {id : Nat} {l : List Oper} {Q : Exit → Act → World → Prop} (U c1 a1 g : Nat) {a : Act} {w : World} (ks : List Kd) (d1 e1 : Tmp)
    (hk : growOk l.toArray U = true) (hp : c1 < U) (hlen : l.length = U + 1) (k3 : ks.getD c1 .any = .num a1)
    (hU : eachL (Req l ks U a w) 0 (l.take U)) (hs1 : isStore 40 d1 e1 l[U]?)
    (r1 : Region.ready .any l.toArray (listedU (U + 1) U) = [U]) (r2 : Region.ready .any l.toArray ((listedU (U + 1) U).setIfInBounds U true) = [])
    (ev : ∀ vs, (actsTo l.toArray a (fun _ => true) vs U).eval (.tmp d1) = .pointer (some ⟨g, 0, none⟩) ∧ (actsTo l.toArray a (fun _ => true) vs U).eval (.tmp e1) = vs c1)
    (hD : NB .u64 w g 40 [0, 0, 0, 0, 0])
    (hcont : ∀ vs w' R, Keeps (fun k => k = g) w w' → Tm R a1 → NB .u64 w' g 40 R → Q .normal (actsTo l.toArray a (fun _ => true) vs U) w') :
    (Code.region id l.toArray true).wp Tryd.prog Q a w := by
  obtain ⟨o1, ho1, hs1⟩ := hs1.spec
  refine region_ex U hk (fun i => (ks.getD i .any).holds) (fun i v x y he h => Kd.ext _ he h) (fun j u i v => (ks.getD j .any).sep u (ks.getD i .any) v) hU fun vs w1 he hF hS => ?_
  obtain ⟨e1', e2'⟩ := ev vs
  have f3 := hF c1 hp
  rw [k3] at f3
  obtain ⟨R1, hv1, ht1⟩ := f3
  have hD1 := hD.fresh he
  obtain ⟨z1, y1, x1⟩ := row_facts R1 ht1.len
  rw [hlen, show U + 1 - U = 0 + 1 by omega]
  refine wpAny_one r1 ho1 hs1.2.1 ?_
  refine wp_store_row 40 _ _ hs1.1 g (ncells .u64 R1).toArray e1' (e2'.trans hv1) 40 _ hD1 z1 x1 y1 ?_
  rw [hs1.2.2]
  refine wpAny_done r2 ?_ 0
  refine hcont vs _ R1 ((Keeps.ofFresh he).trans ⟨rfl, rfl, rfl, by simp, fun k _ hk => setRow_other _ _ _ _ hk⟩) ht1 ?_
  unfold NB
  rw [setRow_heap _ _ _ _ _ _ hD1]
section
variable {ops : Array Oper} {rest : List Oper} {o o2 : Oper} {a : Act} {w : World} {Q : Exit → Act → World → Prop} {x y z : Operand}
theorem wpList_loadR {g n m : Nat} (hg : o.guard = none) (ho : o.op = .load 55 x) (hx : a.eval x = .pointer (some ⟨g, 0, none⟩)) (hb : R10 w g n m)
    (h : ∀ v, IsR v n m → wpList Tryd.prog ops Q rest (a.put o.dst v) w) : wpList Tryd.prog ops Q (o :: rest) a w := by
  obtain ⟨X, Z, h1, h2, h3⟩ := hb
  exact wpList_gives (Φ := fun v w' => IsR v n m ∧ w' = w) hg (gives_loadR ho hx h1 h2.len h3.len ⟨⟨X, Z, rfl, h2, h3⟩, rfl⟩) fun v w' ⟨hv, e⟩ => by rw [e]; exact h v hv
theorem wpList_step {p : Ld} {u : Nat} {ts : Array TypeId} {vx vy vz : Value} (hg : o.guard = none) (ho : o.op = .call { callee := .value (.func 28), args := #[x, y, z], argTypes := ts }) (ex : a.eval x = vx) (hx : IsR vx p.1.1 p.1.2) (ey : a.eval y = vy) (hy : IsR vy p.2.1 p.2.2) (ez : a.eval z = vz) (hz : IsN vz u) (ht : Tp w)
    (h : ∀ r1 r2 w', IsR r1 (stepF u p).1.1 (stepF u p).1.2 → IsR r2 (stepF u p).2.1 (stepF u p).2.2 → Ex w w' → wpList Tryd.prog ops Q rest (a.put o.dst (.tuple #[r1, r2])) w') : wpList Tryd.prog ops Q (o :: rest) a w :=
  wpList_gives (Φ := fun v w' => ∃ r1 r2, v = .tuple #[r1, r2] ∧ IsR r1 (stepF u p).1.1 (stepF u p).1.2 ∧ IsR r2 (stepF u p).2.1 (stepF u p).2.2 ∧ Ex w w') hg
    (gives_call (vs := #[vx, vy, vz]) ho rfl (by simp [ex, ey, ez]) Tryd.func28 (by kernel_rfl) (by kernel_rfl) ((step_c hx hy hz w ht).mono fun _ _ ⟨r1, r2, h1, h2, h3, h4⟩ => ⟨_, h1, r1, r2, rfl, h2, h3, h4⟩))
    fun v w' ⟨r1, r2, e, h1, h2, h3⟩ => by rw [e]; exact h r1 r2 w' h1 h2 h3
theorem wpList_overR {n m n' m' g : Nat} {v : Value} (hg : o.guard = none) (ho : o.op = .store 55 x y) (hd : o.dst = none) (hx : a.eval x = .pointer (some ⟨g, 0, none⟩)) (hy : a.eval y = v) (hn : IsR v n m) (hb : R10 w g n' m')
    (h : ∀ w', Keeps (fun k => k = g) w w' → R10 w' g n m → wpList Tryd.prog ops Q rest a w') : wpList Tryd.prog ops Q (o :: rest) a w := by
  obtain ⟨X, Z, rfl, t1, t2⟩ := hn
  obtain ⟨X', Z', hb, t3, t4⟩ := hb
  have hz : (ncells .u64 (X' ++ Z')).toArray.size = (ncells .u64 (X ++ Z)).toArray.size := by rw [List.size_toArray, List.size_toArray, ncells_length, ncells_length, List.length_append, List.length_append, t1.len, t2.len, t3.len, t4.len]
  refine wpList_store_row hg 55 _ _ ho g (ncells .u64 (X ++ Z)).toArray hx hy 55 _ hb (rat_size X Z t1.len t2.len) hz (num_one _) ?_
  rw [hd]
  refine h _ ⟨rfl, rfl, rfl, by simp, fun k _ hk => setRow_other _ _ _ _ hk⟩ ⟨X, Z, ?_, t1, t2⟩
  unfold NB
  rw [setRow_heap _ _ _ _ _ _ hb]
end
theorem tl_step (S : List UInt8) (u j : Nat) (hj : j < 255) : cs (bitAt S j) (tlTo S u (255 - j)) = stepF u (cs (bitAt S j) (tlTo S u (255 - (j + 1)))) := by
  obtain ⟨k, hk⟩ : ∃ k, 255 - (j + 1) = k := ⟨_, rfl⟩
  rw [show 255 - j = k + 1 by omega, hk, tlTo, show 254 - k = j by omega]
  have := bitAt_le S j
  generalize stepF u (cs (bitAt S j) (tlTo S u k)) = p
  generalize bitAt S j = b at *
  rcases (show b = 0 ∨ b = 1 by omega) with rfl | rfl <;> simp [cs]
theorem bit_num (sb r t : Nat) (hs : sb ≤ 255) (ht : t ≤ 1) : IntKind.u64.wrap ((sb / 2 ^ r : Nat) : Int) = ((sb / 2 ^ r : Nat) : Int) ∧ bits .and .u64 ((sb / 2 ^ r : Nat) : Int) 1 = ((sb / 2 ^ r % 2 : Nat) : Int) ∧ bits .xor .u64 (t : Int) ((sb / 2 ^ r % 2 : Nat) : Int) = ((t ^^^ (sb / 2 ^ r % 2) : Nat) : Int) := by
  have h1 : sb / 2 ^ r ≤ 255 := Nat.le_trans (Nat.div_le_self _ _) hs
  refine ⟨m64w _ (by omega), ?_, u64_xor_nat t _ (by omega) (by omega)⟩
  have := u64_and_nat (sb / 2 ^ r) 1 (by omega) (by omega)
  rw [show ((1 : Nat) : Int) = 1 from rfl] at this
  rw [this, show (1 : Nat) = 2 ^ 1 - 1 from rfl, Nat.and_two_pow_sub_one_eq_mod]
/-- What lies ready in 'climb'. -/
structure CL (w wr : World) (S : List UInt8) (u g5 g6 : Nat) (p : Ld) : Prop where
  s : wr.heap[w.heap.size]? = some (.cells (bcells S).toArray 42 (0, 0))
  u : N5 wr (w.heap.size + 1) u
  r : NB .u64 wr (w.heap.size + 2) 40 [0, 0, 0, 0, 0]
  a : R10 wr g5 p.1.1 p.1.2
  b : R10 wr g6 p.2.1 p.2.2
  n : g5 ≠ g6 ∧ w.heap.size + 3 ≤ g5 ∧ w.heap.size + 3 ≤ g6
  e : Ex w wr
  t : Tp wr

theorem five_blocks (w : World) (o1 o2 o3 o4 o5 : Obj) : ((((((w.alloc o1).alloc o2).alloc o3).alloc o4).alloc o5).drew.heap[w.heap.size]? = some o1 ∧ (((((w.alloc o1).alloc o2).alloc o3).alloc o4).alloc o5).drew.heap[w.heap.size + 1]? = some o2 ∧ (((((w.alloc o1).alloc o2).alloc o3).alloc o4).alloc o5).drew.heap[w.heap.size + 2]? = some o3 ∧
    (((((w.alloc o1).alloc o2).alloc o3).alloc o4).alloc o5).drew.heap[w.heap.size + 3]? = some o4 ∧ (((((w.alloc o1).alloc o2).alloc o3).alloc o4).alloc o5).drew.heap[w.heap.size + 4]? = some o5) ∧ Ex w (((((w.alloc o1).alloc o2).alloc o3).alloc o4).alloc o5).drew := by
  refine ⟨?_, (((((Ex.alloc w o1).trans (Ex.alloc _ o2)).trans (Ex.alloc _ o3)).trans (Ex.alloc _ o4)).trans (Ex.alloc _ o5)).trans (Ex.drew _)⟩
  obtain ⟨w1, e1⟩ : ∃ x, x = w.alloc o1 := ⟨_, rfl⟩
  obtain ⟨w2, e2⟩ : ∃ x, x = w1.alloc o2 := ⟨_, rfl⟩
  obtain ⟨w3, e3⟩ : ∃ x, x = w2.alloc o3 := ⟨_, rfl⟩
  obtain ⟨w4, e4⟩ : ∃ x, x = w3.alloc o4 := ⟨_, rfl⟩
  obtain ⟨w5, e5⟩ : ∃ x, x = w4.alloc o5 := ⟨_, rfl⟩
  have s1 : w1.heap.size = w.heap.size + 1 := by rw [e1]; simp
  have s2 : w2.heap.size = w.heap.size + 2 := by rw [e2]; simp; omega
  have s3 : w3.heap.size = w.heap.size + 3 := by rw [e3]; simp; omega
  have s4 : w4.heap.size = w.heap.size + 4 := by rw [e4]; simp; omega
  have n1 : w1.heap[w.heap.size]? = some o1 := by rw [e1]; exact heap_alloc_new w o1
  have n2 : w2.heap[w.heap.size + 1]? = some o2 := by rw [e2, ← s1]; exact heap_alloc_new w1 o2
  have n3 : w3.heap[w.heap.size + 2]? = some o3 := by rw [e3, ← s2]; exact heap_alloc_new w2 o3
  have n4 : w4.heap[w.heap.size + 3]? = some o4 := by rw [e4, ← s3]; exact heap_alloc_new w3 o4
  have n5 : w5.heap[w.heap.size + 4]? = some o5 := by rw [e5, ← s4]; exact heap_alloc_new w4 o5
  have x2 : Ex w1 w2 := by rw [e2]; exact Ex.alloc w1 _
  have x3 : Ex w2 w3 := by rw [e3]; exact Ex.alloc w2 _
  have x4 : Ex w3 w4 := by rw [e4]; exact Ex.alloc w3 _
  have x5 : Ex w4 w5 := by rw [e5]; exact Ex.alloc w4 _
  rw [← e1, ← e2, ← e3, ← e4, ← e5, heap_drew]
  have x45 := x4.trans x5
  have x345 := x3.trans x45
  have x2345 := x2.trans x345
  exact ⟨by rw [x2345.block _ (by omega)]; exact n1, by rw [x345.block _ (by omega)]; exact n2, by rw [x45.block _ (by omega)]; exact n3, by rw [x5.block _ (by omega)]; exact n4, n5⟩
theorem CL.startA {w : World} {S : List UInt8} {SA : Array Value} {a b c d f u : Nat} (hS : (bcells S).toArray = SA) (hu : Tm [a, b, c, d, f] u) (ht : Tp w) :
    CL w (((((w.alloc (.cells SA 42)).alloc (.cells (ncells .u64 [a, b, c, d, f]).toArray 40)).alloc (.cells (ncells .u64 [0, 0, 0, 0, 0]).toArray 40)).alloc (.cells (ncells .u64 ([1, 0, 0, 0, 0] ++ [0, 0, 0, 0, 0])).toArray 55)).alloc (.cells (ncells .u64 ([a, b, c, d, f] ++ [1, 0, 0, 0, 0])).toArray 55)).drew S u (w.heap.size + 3) (w.heap.size + 4) ((1, 0), (u, 1)) := by
  obtain ⟨⟨h1, h2, h3, h4, h5⟩, h6⟩ := five_blocks w (.cells SA 42) (.cells (ncells .u64 [a, b, c, d, f]).toArray 40) (.cells (ncells .u64 [0, 0, 0, 0, 0]).toArray 40) (.cells (ncells .u64 ([1, 0, 0, 0, 0] ++ [0, 0, 0, 0, 0])).toArray 55) (.cells (ncells .u64 ([a, b, c, d, f] ++ [1, 0, 0, 0, 0])).toArray 55)
  exact ⟨by rw [hS]; exact h1, ⟨_, h2, hu⟩, h3, ⟨_, _, h4, tm_one, tm_zero⟩, ⟨_, _, h5, hu, tm_one⟩, ⟨by omega, by omega, by omega⟩, h6, ht.fresh h6⟩
theorem CL.startB {w : World} {S : List UInt8} {SA : Array Value} {a b c d f u : Nat} (hS : (bcells S).toArray = SA) (hu : Tm [a, b, c, d, f] u) (ht : Tp w) :
    CL w (((((w.alloc (.cells SA 42)).alloc (.cells (ncells .u64 [a, b, c, d, f]).toArray 40)).alloc (.cells (ncells .u64 [0, 0, 0, 0, 0]).toArray 40)).alloc (.cells (ncells .u64 ([a, b, c, d, f] ++ [1, 0, 0, 0, 0])).toArray 55)).alloc (.cells (ncells .u64 ([1, 0, 0, 0, 0] ++ [0, 0, 0, 0, 0])).toArray 55)).drew S u (w.heap.size + 4) (w.heap.size + 3) ((1, 0), (u, 1)) := by
  obtain ⟨⟨h1, h2, h3, h4, h5⟩, h6⟩ := five_blocks w (.cells SA 42) (.cells (ncells .u64 [a, b, c, d, f]).toArray 40) (.cells (ncells .u64 [0, 0, 0, 0, 0]).toArray 40) (.cells (ncells .u64 ([a, b, c, d, f] ++ [1, 0, 0, 0, 0])).toArray 55) (.cells (ncells .u64 ([1, 0, 0, 0, 0] ++ [0, 0, 0, 0, 0])).toArray 55)
  exact ⟨by rw [hS]; exact h1, ⟨_, h2, hu⟩, h3, ⟨_, _, h5, tm_one, tm_zero⟩, ⟨_, _, h4, hu, tm_one⟩, ⟨by omega, by omega, by omega⟩, h6, ht.fresh h6⟩
theorem CL.ext {w wr wr' : World} {S : List UInt8} {u g5 g6 : Nat} {p : Ld} (h : CL w wr S u g5 g6 p) (he : Ex wr wr') : CL w wr' S u g5 g6 p :=
  ⟨by rw [he.block _ (lt_of_block h.s)]; exact h.s, h.u.ext he, h.r.fresh he, h.a.ext he, h.b.ext he, h.n, h.e.trans he, h.t.fresh he⟩
theorem CL.set {w wr wr' : World} {S : List UInt8} {u g5 g6 : Nat} {p q : Ld} (h : CL w wr S u g5 g6 p) (h0 : 0 < w.heap.size) (hk : Keeps (fun k => k = g5 ∨ k = g6) wr wr') (ha : R10 wr' g5 q.1.1 q.1.2) (hb : R10 wr' g6 q.2.1 q.2.2) : CL w wr' S u g5 g6 q := by
  have hn := h.n
  exact ⟨by rw [hk.block _ (lt_of_block h.s) (by omega)]; exact h.s, h.u.keep hk (by omega), h.r.keep hk (by omega), ha, hb, h.n, Below.trans h.e (hk.below (B := w.heap.size) h.e.size (by intro k e; omega)), h.t.keep hk (by omega)⟩

set_option maxHeartbeats 800000 in
set_option maxRecDepth 100000 in
theorem climb_c {v : Value} {u : Nat} (S : List UInt8) (hS : S.length = 32) (h : IsN v u) (w : World) (htp : Tp w) :
    Calls Tryd.prog 16 #[.agg (bcells S).toArray, v] w fun e w' => ∃ r, e = .returned r ∧ IsN r (ladderOf S u) ∧ Ex w w' := by
  obtain ⟨X, rfl, hX⟩ := h
  obtain ⟨a, b, c, d, f, rfl⟩ := list5 hX.len
  have HX := hidden hX
  clear hX
  go_enter Tryd.func16, Tryd.ntmps16
  generalize hSA : (bcells S).toArray = SA
  simp only [ncells, List.map_cons, List.map_nil]
  go_upto_region 1 with fail
  rw [show w.heap.size + 1 + 1 = w.heap.size + 2 from rfl]
  have HSA := hidden hSA
  have HTP := hidden htp
  clear hSA htp
  go_cut [5, 6] from 10 to 14 (fun v5 v6 wx => ∃ g5 g6, v5 = .pointer (some ⟨g5, 0, none⟩) ∧ v6 = .pointer (some ⟨g6, 0, none⟩) ∧ CL w wx S u g5 g6 ((1, 0), (u, 1)))
  case first =>
    go_region
    · go_wp2_with fail
      go_meet
      case rel => exact ⟨_, _, rfl, rfl, CL.startA HSA.out HX.out HTP.out⟩
    · go_wp2_with fail
      go_meet
      case rel => exact ⟨_, _, rfl, rfl, CL.startB HSA.out HX.out HTP.out⟩
  case rest =>
    obtain ⟨g5, g6, rfl, rfl, hcl⟩ := hcut
    have HC := hidden hcl
    have h0 := HTP.out.1
    clear hcl HSA HX HTP
    go_wp2_with fail
    go_loopw [7, 8] (fun s c wr => ∃ b t : Nat, b ≤ 255 ∧ t ≤ 1 ∧ c = .int .i64 ((b : Int) - 1) ∧ s = .int .u64 (t : Int) ∧ CL w wr S u g5 g6 (cs t (tlTo S u (255 - b)))) (fun _ c _ => (intOf c + 1).toNat)
    case atStart => exact ⟨255, 0, by omega, by omega, rfl, rfl, HC.out⟩
    case round =>
      clear HC
      obtain ⟨b, t, hb, ht, rfl, rfl, hv⟩ := hrel
      have HC := hidden hv
      clear hv
      by_cases hz : b = 0
      · subst hz
        have HW := hidden (swap_c (p := (cs t (tlTo S u (255 - 0))).1) (q := (cs t (tlTo S u (255 - 0))).2) ht HC.out.n.1 wr HC.out.a HC.out.b)
        have HT : Hid (cs t ((cs t (tlTo S u (255 - 0))).1, (cs t (tlTo S u (255 - 0))).2) = tlTo S u 255) := by
          show cs t (cs t (tlTo S u 255)) = _
          rcases (show t = 0 ∨ t = 1 by omega) with rfl | rfl <;> simp [cs]
        rw [HT.out] at HW
        go_wp2_with fail
        refine HW.out.mono ?_
        rintro e w4 ⟨rfl, h1, h2, h3⟩
        have HD := hidden (HC.out.set (q := tlTo S u 255) h0 h3 h1 h2)
        clear HC HW HT h1 h2 h3
        generalize hT : tlTo S u 255 = T at HD
        have HL : Hid (ladderOf S u = fmul T.1.1 (inv T.1.2)) := by show _ = _; rw [← hT]; rfl
        clear hT
        go_wp2_with fail
        refine region_res 6 5 (fmul T.1.1 (inv T.1.2)) (w.heap.size + 2) [.ptr g5 0, .num T.1.1, .ptr g5 5, .num T.1.2, .num (inv T.1.2), .num (fmul T.1.1 (inv T.1.2))] 4 47 (by kernel_rfl) (by decide) (by kernel_rfl) (by kernel_rfl) ?_ (by unfold isStore; kernel_rfl) (by kernel_rfl) (by kernel_rfl) (fun vs => ⟨by kernel_rfl, by kernel_rfl⟩) HD.out.r ?_
        · refine req_take (.ptr g5 0) (by kernel_rfl) (fun vs w1 he hd => kd_field (x := .tmp 5) (f := 0) (by kernel_rfl) (by kernel_rfl) (.inl ⟨rfl, rfl⟩)) ?_
          refine req_take (.num T.1.1) (by kernel_rfl) (fun vs w1 he hd => kd_loadX (x := .tmp 42) (by kernel_rfl) (Eq.trans (b := vs 0) (by kernel_rfl) (hd 0 (.ptr g5 0) (by decide) (by kernel_rfl) (by kernel_rfl))) (HD.out.ext he).a) ?_
          refine req_take (.ptr g5 5) (by kernel_rfl) (fun vs w1 he hd => kd_field (x := .tmp 5) (f := 1) (by kernel_rfl) (by kernel_rfl) (.inr ⟨rfl, rfl⟩)) ?_
          refine req_take (.num T.1.2) (by kernel_rfl) (fun vs w1 he hd => kd_loadZ (x := .tmp 44) (by kernel_rfl) (Eq.trans (b := vs 2) (by kernel_rfl) (hd 2 (.ptr g5 5) (by decide) (by kernel_rfl) (by kernel_rfl))) (HD.out.ext he).a) ?_
          refine req_take (.num (inv T.1.2)) (by kernel_rfl) (fun vs w1 he hd => kd_inverse (x := .tmp 45) (ts := #[40]) (vx := vs 3) (by kernel_rfl) (by kernel_rfl) (by kernel_rfl) (hd 3 (.num T.1.2) (by decide) (by kernel_rfl) (by kernel_rfl))) ?_
          refine req_take (.num (fmul T.1.1 (inv T.1.2))) (by kernel_rfl) (fun vs w1 he hd => kd_times (x := .tmp 43) (y := .tmp 46) (ts := #[40, 40]) (vx := vs 1) (vy := vs 4) (by kernel_rfl) (by kernel_rfl) (by kernel_rfl) (hd 1 (.num T.1.1) (by decide) (by kernel_rfl) (by kernel_rfl)) (by kernel_rfl) (hd 4 (.num (inv T.1.2)) (by decide) (by kernel_rfl) (by kernel_rfl))) ?_
          exact eachL_zero
        · intro vs w5 R hk tR nR
          have HE : Hid (Ex w w5) := Ex.trans' HD.out.e hk
          have HN := hidden nR
          have HTR := hidden tR
          simp only [actsTo, if_true, dstOf, List.getElem?_toArray, List.getElem?_cons_succ, List.getElem?_cons_zero, Option.bind_some, Act.put, List.setIfInBounds_toArray, List.set_cons_zero, List.set_cons_succ]
          generalize vs 0 = y0
          generalize vs 1 = y1
          generalize vs 2 = y2
          generalize vs 3 = y3
          generalize vs 4 = y4
          generalize vs 5 = y5
          clear vs hk tR nR HD
          obtain ⟨z1, y1', x1⟩ := row_facts R HTR.out.len
          have HZ := hidden z1
          clear z1 y1' x1
          go_wp2_with fail
          (try simp only [Exit.inBlock, Exit.then])
          refine bodyPost_ret (results_cell1 rfl _ _ _ (w.heap.size + 2) (ncells .u64 R).toArray 40 (0, 0) 5 38 rfl HN.out Tryd.underlying40 HZ.out) rfl ?_
          exact ⟨_, rfl, ⟨R, rfl, by rw [HL.out]; exact HTR.out⟩, HE.out⟩
      · obtain ⟨j, rfl⟩ : ∃ j, b = j + 1 := ⟨b - 1, by omega⟩
        rw [show ((j + 1 : Nat) : Int) - 1 = (j : Int) by omega]
        have hj0 : (0 : Int) ≤ (j : Int) := by omega
        have hq2 : (j : Int) / 8 < 32 := by omega
        have hc : wr.cell? ⟨w.heap.size, j / 8, none⟩ = some (.int .u8 ((S.getD (j / 8) 0).toNat : Nat)) := by
          rw [cell_row HC.out.s]
          simp [bcells, List.getElem?_eq_getElem (show j / 8 < S.length by omega)]
        have hsb : (S.getD (j / 8) 0).toNat ≤ 255 := by have := (S.getD (j / 8) 0).toNat_lt; omega
        have HBA : Hid (bitAt S j = (S.getD (j / 8) 0).toNat / 2 ^ (j % 8) % 2) := rfl
        have HST := hidden (tl_step S u j (by omega))
        generalize (S.getD (j / 8) 0).toNat = sb at hc hsb HBA
        obtain ⟨e1, e2, e3⟩ := bit_num sb (j % 8) t hsb ht
        have e0 : (sb : Int) / 2 ^ (j % 8) = ((sb / 2 ^ (j % 8) : Nat) : Int) := by simp
        rw [← HBA.out] at e2 e3
        have hbl := bitAt_le S j
        generalize hbt : bitAt S j = bt at e2 e3 HST hbl
        generalize sb / 2 ^ (j % 8) = sv at e0 e1 e2
        have hxl : t ^^^ bt ≤ 1 := by
          rcases (show t = 0 ∨ t = 1 by omega) with rfl | rfl <;> rcases (show bt = 0 ∨ bt = 1 by omega) with rfl | rfl <;> decide
        have HW := hidden (swap_c (p := (cs t (tlTo S u (255 - (j + 1)))).1) (q := (cs t (tlTo S u (255 - (j + 1)))).2) hxl HC.out.n.1 wr HC.out.a HC.out.b)
        have HT : Hid (cs (t ^^^ bt) ((cs t (tlTo S u (255 - (j + 1)))).1, (cs t (tlTo S u (255 - (j + 1)))).2) = cs bt (tlTo S u (255 - (j + 1)))) := cs_cs t bt _ ht hbl
        rw [HT.out] at HW
        generalize t ^^^ bt = tb at e3 HW
        clear hbt HBA hsb HT hxl
        go_wp2_with fail
        refine HW.out.mono ?_
        rintro e w4 ⟨rfl, h1, h2, h3⟩
        have HD := hidden (HC.out.set (q := cs bt (tlTo S u (255 - (j + 1)))) h0 h3 h1 h2)
        generalize cs bt (tlTo S u (255 - (j + 1))) = P at HD HST
        clear HC HW h1 h2 h3
        have hn56 := hidden HD.out.n.1
        go_wp2_with (first
          | (refine wpList_loadR (x := .tmp 5) rfl rfl (by kernel_rfl) HD.out.a ?_; intro v34 i34)
          | (refine wpList_loadR (x := .tmp 6) rfl rfl (by kernel_rfl) HD.out.b ?_; intro v35 i35)
          | (refine wpList_load5 (x := .tmp 3) rfl rfl (by kernel_rfl) HD.out.u ?_; intro v36 i36)
          | (refine wpList_step (x := .tmp 34) (y := .tmp 35) (z := .tmp 36) (p := P) (vx := v34) (vy := v35) (vz := v36) rfl rfl (by kernel_rfl) i34 (by kernel_rfl) i35 (by kernel_rfl) i36 HD.out.t ?_; intro r1 r2 w5 j1 j2 hx)
          | (refine wpList_overR (x := .tmp 5) (y := .tmp 38) (v := r1) rfl rfl rfl (by kernel_rfl) (by kernel_rfl) j1 (HD.out.ext hx).a ?_; intro w6 hk6 n6)
          | (refine wpList_overR (x := .tmp 6) (y := .tmp 39) (v := r2) rfl rfl rfl (by kernel_rfl) (by kernel_rfl) j2 ((HD.out.ext hx).b.keep hk6 (fun e => hn56.out e.symm)) ?_; intro w7 hk7 n7))
        go_roundw
        case rel =>
          refine ⟨j, bt, by omega, hbl, by go_num, rfl, ?_⟩
          rw [HST.out]
          refine (HD.out.ext hx).set (q := stepF u P) h0 ((hk6.mono fun k _ e => .inl e).trans (hk7.mono fun k _ e => .inr e)) (n6.keep hk7 hn56.out) n7
        case measure => simp [intOf]
end Go.Proofs.YtdgapijgdbhlfaaDoor
