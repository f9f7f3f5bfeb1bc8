/- The document's ladder: numbers in their places. -/
import Derived.Test.YtdgapijgdbhlfaaDoorCrJ
import Derived.Test.YtdgapijgdbhlfaaDoorCuT
namespace Go.Proofs.YtdgapijgdbhlfaaDoor
open Go Go.RowKit

/-- A number in a place: carried or not. -/
structure KV where
  t : Bool
  n : Nat
def KV.at (k : KV) (w : World) (g : Nat) : Prop := if k.t then C16 w g k.n else B16 w g k.n
def KV.is (k : KV) (v : Value) : Prop := if k.t then IsC v k.n else IsB v k.n
theorem KV.at.any {k : KV} {w : World} {g : Nat} (h : k.at w g) : A16 w g := by
  unfold KV.at at h
  split at h
  · exact h.any
  · exact h.any
theorem KV.at.lt {k : KV} {w : World} {g : Nat} (h : k.at w g) : g < w.heap.size := by
  obtain ⟨R, h1, _⟩ := h.any
  exact h1.lt
theorem KV.at.ext {k : KV} {w w' : World} {g : Nat} (h : k.at w g) (x : Ex w w') : k.at w' g := by
  unfold KV.at at h ⊢
  split at h
  · rename_i e; rw [if_pos e]; exact h.ext x
  · rename_i e; rw [if_neg e]; exact h.ext x
theorem KV.at.keep {k : KV} {S : Nat → Prop} {w w' : World} {g : Nat} (h : k.at w g) (x : Keeps S w w') (hn : ¬ S g) : k.at w' g := by
  unfold KV.at at h ⊢
  split at h
  · rename_i e; rw [if_pos e]; exact h.keep x hn
  · rename_i e; rw [if_neg e]; exact h.keep x hn
theorem KV.is.b {k : KV} {v : Value} (h : k.is v) : IsB v k.n := by
  unfold KV.is at h
  split at h
  · exact h.b
  · exact h
theorem KV.is.c {k : KV} {v : Value} (h : k.is v) (ht : k.t = true) : IsC v k.n := by
  unfold KV.is at h
  rw [if_pos ht] at h
  exact h
/-- A row of bytes. -/
structure ZR where
  g : Nat
  cap : Nat
  s : List UInt8
/-- Places with their numbers, each by itself, beside a row of bytes. -/
structure MS (z : ZR) (w wr : World) (l : List (Nat × KV)) : Prop where
  e : Ex w wr
  q : ORow wr w.heap.size z.g z.cap z.s
  y : ∀ p ∈ l, p.1 ≠ z.g
  a : ∀ p ∈ l, p.2.at wr p.1 ∧ w.heap.size ≤ p.1
  n : l.Pairwise fun p q => p.1 ≠ q.1
theorem MS.get {z : ZR} {w wr : World} {l : List (Nat × KV)} {i : Nat} {g : Nat} {k : KV} (h : MS z w wr l) (hi : l[i]? = some (g, k)) : k.at wr g := (h.a (g, k) (List.mem_of_getElem? hi)).1
theorem MS.lo {z : ZR} {w wr : World} {l : List (Nat × KV)} {i : Nat} {g : Nat} {k : KV} (h : MS z w wr l) (hi : l[i]? = some (g, k)) : w.heap.size ≤ g := (h.a (g, k) (List.mem_of_getElem? hi)).2
theorem MS.ext {z : ZR} {w wr wr' : World} {l : List (Nat × KV)} (h : MS z w wr l) (x : Ex wr wr') : MS z w wr' l := ⟨h.e.trans x, h.q.keep (S := fun _ => False) (Keeps.ofFresh x) (fun h => h), h.y, fun p hp => ⟨(h.a p hp).1.ext x, (h.a p hp).2⟩, h.n⟩
theorem MS.push {z : ZR} {w wr wr' : World} {l : List (Nat × KV)} {g : Nat} {k : KV} (h : MS z w wr l) (x : Ex wr wr') (hg : wr.heap.size ≤ g) (hk : k.at wr' g) : MS z w wr' (l ++ [(g, k)]) := by
  refine ⟨h.e.trans x, h.q.keep (S := fun _ => False) (Keeps.ofFresh x) (fun h => h), fun p hp => ?_, fun p hp => ?_, ?_⟩
  · rcases List.mem_append.mp hp with hp | hp
    · exact h.y p hp
    · rw [List.mem_singleton.mp hp]
      have := h.q.lt
      show g ≠ z.g
      omega
  · rcases List.mem_append.mp hp with hp | hp
    · exact ⟨(h.a p hp).1.ext x, (h.a p hp).2⟩
    · rw [List.mem_singleton.mp hp]
      exact ⟨hk, Nat.le_trans h.e.size hg⟩
  · rw [List.pairwise_append]
    refine ⟨h.n, List.pairwise_singleton _ _, fun p hp q hq => ?_⟩
    rw [List.mem_singleton.mp hq]
    have := (h.a p hp).1.lt
    show p.1 ≠ g
    omega
theorem pairwise_set {l : List (Nat × KV)} (h : l.Pairwise fun p q => p.1 ≠ q.1) {i g : Nat} {k k' : KV} (hi : l[i]? = some (g, k)) : (l.set i (g, k')).Pairwise fun p q => p.1 ≠ q.1 := by
  induction l generalizing i with
  | nil => simp at hi
  | cons p l ih =>
    cases i with
    | zero =>
      obtain rfl : p = (g, k) := by simpa using hi
      rw [List.set_cons_zero, List.pairwise_cons]
      exact ⟨(List.pairwise_cons.mp h).1, (List.pairwise_cons.mp h).2⟩
    | succ i =>
      rw [List.set_cons_succ, List.pairwise_cons]
      refine ⟨fun q hq => ?_, ih (List.pairwise_cons.mp h).2 (by simpa using hi)⟩
      have h1 := (List.pairwise_cons.mp h).1
      rcases List.mem_or_eq_of_mem_set hq with hq | hq
      · exact h1 q hq
      · rw [hq]
        exact h1 (g, k) (List.mem_of_getElem? (by simpa using hi))
theorem mem_set_ne {l : List (Nat × KV)} (h : l.Pairwise fun p q => p.1 ≠ q.1) {i g : Nat} {k k' : KV} (hi : l[i]? = some (g, k)) {p : Nat × KV} (hp : p ∈ l.set i (g, k')) : p = (g, k') ∨ (p ∈ l ∧ p.1 ≠ g) := by
  induction l generalizing i with
  | nil => simp at hi
  | cons q l ih =>
    cases i with
    | zero =>
      obtain rfl : q = (g, k) := by simpa using hi
      rw [List.set_cons_zero] at hp
      rcases List.mem_cons.mp hp with hp | hp
      · exact .inl hp
      · exact .inr ⟨List.mem_cons_of_mem _ hp, fun e => (List.pairwise_cons.mp h).1 p hp e.symm⟩
    | succ i =>
      rw [List.set_cons_succ] at hp
      rcases List.mem_cons.mp hp with hp | hp
      · rw [hp]
        exact .inr ⟨List.mem_cons_self, (List.pairwise_cons.mp h).1 (g, k) (List.mem_of_getElem? (by simpa using hi))⟩
      · rcases ih (List.pairwise_cons.mp h).2 (by simpa using hi) hp with h1 | ⟨h1, h2⟩
        · exact .inl h1
        · exact .inr ⟨List.mem_cons_of_mem _ h1, h2⟩
theorem MS.set {z : ZR} {w wr wr' : World} {l : List (Nat × KV)} {i g : Nat} {k k' : KV} (h : MS z w wr l) (hi : l[i]? = some (g, k)) (x : Keeps (fun b => b = g) wr wr') (hk : k'.at wr' g) : MS z w wr' (l.set i (g, k')) := by
  have hlo := h.lo hi
  refine ⟨Below.trans h.e (x.below (B := w.heap.size) h.e.size (by intro b e; omega)), h.q.keep x (fun e => h.y (g, k) (List.mem_of_getElem? hi) e.symm), fun p hp => ?_, fun p hp => ?_, pairwise_set h.n hi⟩
  · rcases mem_set_ne h.n hi hp with rfl | ⟨h1, h2⟩
    · exact h.y (g, k) (List.mem_of_getElem? hi)
    · exact h.y p h1
  rcases mem_set_ne h.n hi hp with rfl | ⟨h1, h2⟩
  · exact ⟨hk, hlo⟩
  · exact ⟨(h.a p h1).1.keep x h2, (h.a p h1).2⟩
section
variable {z : ZR} {ops : Array Oper} {rest : List Oper} {o1 o2 o3 o4 o5 : Oper} {a : Act} {w0 w : World} {Q : Exit → Act → World → Prop} {l : List (Nat × KV)} {x y : Operand}
theorem wpList_loadS {g : Nat} {k : KV} (hg : o1.guard = none) (ho : o1.op = .load 46 x) (hx : a.eval x = .pointer (some ⟨g, 0, none⟩)) (hb : k.at w g)
    (h : ∀ v, k.is v → wpList Tryd.prog ops Q rest (a.put o1.dst v) w) : wpList Tryd.prog ops Q (o1 :: rest) a w := by
  unfold KV.at at hb
  by_cases hk : k.t = true
  · rw [if_pos hk] at hb
    obtain ⟨R, h1, h2⟩ := hb
    refine wpList_gives (Φ := fun v w' => IsC v k.n ∧ w' = w) hg (gives_loadI ho hx h1 h2.len ⟨⟨R, rfl, h2⟩, rfl⟩) fun v w' ⟨hv, e⟩ => ?_
    rw [e]
    exact h v (by unfold KV.is; rw [if_pos hk]; exact hv)
  · rw [if_neg hk] at hb
    obtain ⟨R, h1, h2⟩ := hb
    refine wpList_gives (Φ := fun v w' => IsB v k.n ∧ w' = w) hg (gives_loadI ho hx h1 h2.len ⟨⟨R, rfl, h2⟩, rfl⟩) fun v w' ⟨hv, e⟩ => ?_
    rw [e]
    exact h v (by unfold KV.is; rw [if_neg hk]; exact hv)
theorem wpList_overS {g : Nat} {k : KV} {v : Value} (hg : o1.guard = none) (ho : o1.op = .store 46 x y) (hd : o1.dst = none) (hx : a.eval x = .pointer (some ⟨g, 0, none⟩)) (hy : a.eval y = v) (hn : k.is v) (hb : A16 w g)
    (h : ∀ w', Keeps (fun b => b = g) w w' → k.at w' g → wpList Tryd.prog ops Q rest a w') : wpList Tryd.prog ops Q (o1 :: rest) a w := by
  unfold KV.is at hn
  by_cases hk : k.t = true
  · rw [if_pos hk] at hn
    exact wpList_overC hg ho hd hx hy hn hb fun w' h1 h2 => h w' h1 (by unfold KV.at; rw [if_pos hk]; exact h2)
  · rw [if_neg hk] at hn
    exact wpList_overB hg ho hd hx hy hn hb fun w' h1 h2 => h w' h1 (by unfold KV.at; rw [if_neg hk]; exact h2)
theorem wpList_newS {d e : Tmp} {k : KV} {v : Value} (hg : o1.guard = none ∧ o2.guard = none) (ho : o1.op = .alloc 46) (ho2 : o2.op = .store 46 (.tmp d) (.tmp e)) (hd : o1.dst = some d) (hd2 : o2.dst = none)
    (hs : decide (d < a.tmps.size) = true) (hv : a.eval (.tmp e) = v) (hn : k.is v) (hde : d ≠ e)
    (h : ∀ g w', Ex w w' → k.at w' g → w.heap.size ≤ g → wpList Tryd.prog ops Q rest (a.put (some d) (.pointer (some ⟨g, 0, none⟩))) w') : wpList Tryd.prog ops Q (o1 :: o2 :: rest) a w := by
  unfold KV.is at hn
  by_cases hk : k.t = true
  · rw [if_pos hk] at hn
    exact wpList_newC hg ho ho2 hd hd2 hs hv hn hde fun g w' h1 h2 h3 => h g w' h1 (by unfold KV.at; rw [if_pos hk]; exact h2) h3
  · rw [if_neg hk] at hn
    exact wpList_newB hg ho ho2 hd hd2 hs hv hn hde fun g w' h1 h2 h3 => h g w' h1 (by unfold KV.at; rw [if_neg hk]; exact h2) h3
/-- What one of the three calls answers. -/
def CallS (f : Nat) (k1 k2 k3 : KV) : Prop := ∀ (ops : Array Oper) (rest : List Oper) (o : Oper) (a : Act) (w : World) (Q : Exit → Act → World → Prop) (x y : Operand) (ts : Array TypeId) (vx vy : Value), o.guard = none → o.op = .call { callee := .value (.func f), args := #[x, y], argTypes := ts } → a.eval x = vx → k1.is vx → a.eval y = vy → k2.is vy →
  (∀ v w', k3.is v → Ex w w' → wpList Tryd.prog ops Q rest (a.put o.dst v) w') → wpList Tryd.prog ops Q (o :: rest) a w
theorem callS_mul (k1 k2 : KV) : CallS 24 k1 k2 ⟨true, fmul k1.n k2.n⟩ := fun _ _ _ _ _ _ _ _ _ _ _ hg ho ex hx ey hy h =>
  wpList_rmul hg ho ex hx.b ey hy.b fun v w' hv he => h v w' hv he
theorem callS_add (k1 k2 : KV) (h1 : k1.t = true) (h2 : k2.t = true) : CallS 22 k1 k2 ⟨false, fadd k1.n k2.n⟩ := fun _ _ _ _ _ _ _ _ _ _ _ hg ho ex hx ey hy h =>
  wpList_radd hg ho ex (hx.c h1) ey (hy.c h2) fun v w' hv he => h v w' hv he
theorem callS_sub (k1 k2 : KV) (h1 : k1.t = true) (h2 : k2.t = true) : CallS 23 k1 k2 ⟨false, fsub k1.n k2.n⟩ := fun _ _ _ _ _ _ _ _ _ _ _ hg ho ex hx ey hy h =>
  wpList_rsub hg ho ex (hx.c h1) ey (hy.c h2) fun v w' hv he => h v w' hv he
/-- Two numbers are taken, reckoned with, and laid into a place. -/
theorem wpList_triS {f : Nat} {k1 k2 k3 k4 : KV} (hc : CallS f k1 k2 k3) (i j m : Nat) {g1 g2 g3 : Nat} (s1 s2 s3 d1 d2 d3 : Tmp) {ts : Array TypeId}
    (hg : o1.guard = none ∧ o2.guard = none ∧ o3.guard = none ∧ o4.guard = none)
    (h1 : o1.op = .load 46 (.tmp s1)) (h2 : o2.op = .load 46 (.tmp s2)) (h3 : o3.op = .call { callee := .value (.func f), args := #[.tmp d1, .tmp d2], argTypes := ts }) (h4 : o4.op = .store 46 (.tmp s3) (.tmp d3))
    (e1 : o1.dst = some d1) (e2 : o2.dst = some d2) (e3 : o3.dst = some d3) (e4 : o4.dst = none)
    (sz : (decide (d1 < a.tmps.size) && decide (d2 < a.tmps.size) && decide (d3 < a.tmps.size)) = true)
    (df : (decide (d1 ≠ d2) && decide (s2 ≠ d1) && decide (s3 ≠ d1) && decide (s3 ≠ d2) && decide (s3 ≠ d3)) = true)
    (v1 : a.eval (.tmp s1) = .pointer (some ⟨g1, 0, none⟩)) (v2 : a.eval (.tmp s2) = .pointer (some ⟨g2, 0, none⟩)) (v3 : a.eval (.tmp s3) = .pointer (some ⟨g3, 0, none⟩))
    (hm : MS z w0 w l) (hi : l[i]? = some (g1, k1)) (hj : l[j]? = some (g2, k2)) (hl : l[m]? = some (g3, k4))
    (h : ∀ u1 u2 u3 w', MS z w0 w' (l.set m (g3, k3)) → wpList Tryd.prog ops Q rest (((a.put (some d1) u1).put (some d2) u2).put (some d3) u3) w') : wpList Tryd.prog ops Q (o1 :: o2 :: o3 :: o4 :: rest) a w := by
  simp only [Bool.and_eq_true, decide_eq_true_eq] at sz df
  obtain ⟨⟨z1, z2⟩, z3⟩ := sz
  obtain ⟨⟨⟨⟨n1, n2⟩, n3⟩, n4⟩, n5⟩ := df
  refine wpList_loadS hg.1 h1 v1 (hm.get hi) fun u1 i1 => ?_
  rw [e1]
  refine wpList_loadS hg.2.1 h2 ?_ (hm.get hj) fun u2 i2 => ?_
  · rw [eval_put_tmp, if_neg (by intro h; exact n2 (Option.some.inj h.1).symm), v2]
  rw [e2]
  refine hc _ _ _ _ _ _ _ _ _ u1 u2 hg.2.2.1 h3 ?_ i1 ?_ i2 fun u3 w' i3 x3 => ?_
  · rw [eval_put_tmp, if_neg (by intro h; exact n1 (Option.some.inj h.1).symm), eval_put_tmp, if_pos ⟨rfl, z1⟩]
  · rw [eval_put_tmp, if_pos ⟨rfl, by rw [put_size]; exact z2⟩]
  rw [e3]
  have hm3 := hm.ext x3
  refine wpList_overS hg.2.2.2 h4 e4 ?_ ?_ i3 (hm3.get hl).any fun w2 k2 n => ?_
  · rw [eval_put_tmp, if_neg (by intro h; exact n5 (Option.some.inj h.1).symm), eval_put_tmp, if_neg (by intro h; exact n4 (Option.some.inj h.1).symm), eval_put_tmp, if_neg (by intro h; exact n3 (Option.some.inj h.1).symm), v3]
  · rw [eval_put_tmp, if_pos ⟨rfl, by rw [put_size, put_size]; exact z3⟩]
  exact h u1 u2 u3 w2 (hm3.set hl k2 n)
/-- .. or into a new place. -/
theorem wpList_triN {f : Nat} {k1 k2 k3 : KV} (hc : CallS f k1 k2 k3) (i j : Nat) {g1 g2 : Nat} (s1 s2 d d1 d2 d3 : Tmp) {ts : Array TypeId}
    (hg : o1.guard = none ∧ o2.guard = none ∧ o3.guard = none ∧ o4.guard = none ∧ o5.guard = none)
    (h1 : o1.op = .load 46 (.tmp s1)) (h2 : o2.op = .load 46 (.tmp s2)) (h3 : o3.op = .call { callee := .value (.func f), args := #[.tmp d1, .tmp d2], argTypes := ts }) (h4 : o4.op = .alloc 46) (h5 : o5.op = .store 46 (.tmp d) (.tmp d3))
    (e1 : o1.dst = some d1) (e2 : o2.dst = some d2) (e3 : o3.dst = some d3) (e4 : o4.dst = some d) (e5 : o5.dst = none)
    (sz : (decide (d1 < a.tmps.size) && decide (d2 < a.tmps.size) && decide (d3 < a.tmps.size) && decide (d < a.tmps.size)) = true)
    (df : (decide (d1 ≠ d2) && decide (s2 ≠ d1) && decide (d ≠ d3)) = true)
    (v1 : a.eval (.tmp s1) = .pointer (some ⟨g1, 0, none⟩)) (v2 : a.eval (.tmp s2) = .pointer (some ⟨g2, 0, none⟩))
    (hm : MS z w0 w l) (hi : l[i]? = some (g1, k1)) (hj : l[j]? = some (g2, k2))
    (h : ∀ u1 u2 u3 g w', MS z w0 w' (l ++ [(g, k3)]) → wpList Tryd.prog ops Q rest ((((a.put (some d1) u1).put (some d2) u2).put (some d3) u3).put (some d) (.pointer (some ⟨g, 0, none⟩))) w') : wpList Tryd.prog ops Q (o1 :: o2 :: o3 :: o4 :: o5 :: rest) a w := by
  simp only [Bool.and_eq_true, decide_eq_true_eq] at sz df
  obtain ⟨⟨⟨z1, z2⟩, z3⟩, z4⟩ := sz
  obtain ⟨⟨n1, n2⟩, n3⟩ := df
  refine wpList_loadS hg.1 h1 v1 (hm.get hi) fun u1 i1 => ?_
  rw [e1]
  refine wpList_loadS hg.2.1 h2 ?_ (hm.get hj) fun u2 i2 => ?_
  · rw [eval_put_tmp, if_neg (by intro h; exact n2 (Option.some.inj h.1).symm), v2]
  rw [e2]
  refine hc _ _ _ _ _ _ _ _ _ u1 u2 hg.2.2.1 h3 ?_ i1 ?_ i2 fun u3 w' i3 x3 => ?_
  · rw [eval_put_tmp, if_neg (by intro h; exact n1 (Option.some.inj h.1).symm), eval_put_tmp, if_pos ⟨rfl, z1⟩]
  · rw [eval_put_tmp, if_pos ⟨rfl, by rw [put_size]; exact z2⟩]
  rw [e3]
  have hm3 := hm.ext x3
  refine wpList_newS ⟨hg.2.2.2.1, hg.2.2.2.2⟩ h4 h5 e4 e5 (by rw [put_size, put_size, put_size]; exact decide_eq_true z4) ?_ i3 n3 fun g w2 x2 n l2 => ?_
  · rw [eval_put_tmp, if_pos ⟨rfl, by rw [put_size, put_size]; exact z3⟩]
  exact h u1 u2 u3 g w2 (hm3.push x2 l2 n)
/-- The call of swap. -/
theorem wpList_swapS {k1 k2 : KV} {b : Nat} {zo : Operand} {ts : Array TypeId} {vx vy : Value} (hb : b ≤ 1) (h1 : k1.t = true) (h2 : k2.t = true) (hg : o1.guard = none) (ho : o1.op = .call { callee := .value (.func 21), args := #[x, y, zo], argTypes := ts }) (ex : a.eval x = vx) (hx : k1.is vx) (ey : a.eval y = vy) (hy : k2.is vy) (ez : a.eval zo = .int .i64 (b : Int))
    (h : ∀ v1 v2 w', KV.is ⟨true, if b = 1 then k2.n else k1.n⟩ v1 → KV.is ⟨true, if b = 1 then k1.n else k2.n⟩ v2 → Ex w w' → wpList Tryd.prog ops Q rest (a.put o1.dst (.tuple #[v1, v2])) w') : wpList Tryd.prog ops Q (o1 :: rest) a w := by
  obtain ⟨A, rfl, rA⟩ := hx.c h1
  obtain ⟨B, rfl, rB⟩ := hy.c h2
  refine wpList_gives (Φ := fun v w' => v = .tuple #[.agg (icells (if b = 1 then B else A)).toArray, .agg (icells (if b = 1 then A else B)).toArray] ∧ Ex w w') hg
    (gives_call (vs := #[.agg (icells A).toArray, .agg (icells B).toArray, .int .i64 (b : Int)]) ho rfl (by simp [ex, ey, ez]) Tryd.func21 (by kernel_rfl) (by kernel_rfl) ((rswap_c A B b hb rA.len rB.len w).mono fun _ _ ⟨h1, h2⟩ => ⟨_, h1, rfl, h2⟩)) fun v w' ⟨e, hx⟩ => ?_
  rw [e]
  refine h _ _ w' ?_ ?_ hx
  · unfold KV.is
    rw [if_pos rfl]
    refine ⟨_, rfl, ?_⟩
    show Rc _ (if b = 1 then k2.n else k1.n)
    split
    · exact rB
    · exact rA
  · unfold KV.is
    rw [if_pos rfl]
    refine ⟨_, rfl, ?_⟩
    show Rc _ (if b = 1 then k1.n else k2.n)
    split
    · exact rA
    · exact rB
end
/-- A difference squared knows no sign. -/
theorem fsub_sq (x y : Nat) (hx : x < pC) (hy : y < pC) : fmul (fsub x y) (fsub x y) = fmul (fsub y x) (fsub y x) := by
  unfold fmul fsub
  rw [← Nat.mul_mod, ← Nat.mul_mod]
  obtain ⟨s, hs⟩ : ∃ s, s = x + (pC - y) := ⟨_, rfl⟩
  obtain ⟨t, ht⟩ : ∃ t, t = y + (pC - x) := ⟨_, rfl⟩
  rw [← hs, ← ht]
  have e : (s : Int) * s = (t : Int) * t + (pC : Int) * (2 * ((s : Int) - t)) := by
    have h2 : (s : Int) = 2 * (pC : Int) - t := by omega
    rw [h2]
    generalize (pC : Int) = p
    generalize (t : Int) = t
    grind
  apply Int.ofNat.inj
  show ((s * s % pC : Nat) : Int) = ((t * t % pC : Nat) : Int)
  rw [Int.natCast_emod, Int.natCast_emod, Int.natCast_mul, Int.natCast_mul, e, Int.add_mul_emod_self_left]
theorem fmul_comm (x y : Nat) : fmul x y = fmul y x := by unfold fmul; rw [Nat.mul_comm]
theorem fadd_comm (x y : Nat) : fadd x y = fadd y x := by unfold fadd; rw [Nat.add_comm]
theorem fmul_lt (x y : Nat) : fmul x y < pC := Nat.mod_lt _ (by decide)
/-- The round's numbers. -/
theorem round_step (u x2 z2 x3 z3 : Nat) :
    stepF u ((x2, z2), (x3, z3)) = ((fmul (fmul (fadd x2 z2) (fadd x2 z2)) (fmul (fsub x2 z2) (fsub x2 z2)),
      fmul (fsub (fmul (fadd x2 z2) (fadd x2 z2)) (fmul (fsub x2 z2) (fsub x2 z2))) (fadd (fmul (fsub (fmul (fadd x2 z2) (fadd x2 z2)) (fmul (fsub x2 z2) (fsub x2 z2))) 121665) (fmul (fadd x2 z2) (fadd x2 z2)))),
      (fmul (fadd (fmul (fadd x3 z3) (fsub x2 z2)) (fmul (fsub x3 z3) (fadd x2 z2))) (fadd (fmul (fadd x3 z3) (fsub x2 z2)) (fmul (fsub x3 z3) (fadd x2 z2))),
       fmul (fmul (fsub (fmul (fadd x3 z3) (fsub x2 z2)) (fmul (fsub x3 z3) (fadd x2 z2))) (fsub (fmul (fadd x3 z3) (fsub x2 z2)) (fmul (fsub x3 z3) (fadd x2 z2)))) u)) := by
  unfold stepF dblX dblZ sumX sumZ oneOf othOf apartOf
  simp only
  rw [fsub_sq (fmul (fadd x3 z3) (fsub x2 z2)) (fmul (fsub x3 z3) (fadd x2 z2)) (fmul_lt _ _) (fmul_lt _ _), fadd_comm (fmul (fadd x3 z3) (fsub x2 z2)), fmul_comm 121665, fmul_comm u, fadd_comm (fmul (fadd x2 z2) (fadd x2 z2)) (fmul (fsub _ _) 121665)]
end Go.Proofs.YtdgapijgdbhlfaaDoor
