/- The walk of the law CurveNumbers. -/
import Derived.Test.YtdgapijgdbhlfaaDoorCvM
import Derived.Test.YtdgapijgdbhlfaaDoorOrdC
namespace Go.Proofs.YtdgapijgdbhlfaaDoor
open Go Go.RowKit

theorem alice_len : aliceL.length = 32 := by decide +kernel
theorem alice31 (w : World) (v : Option Addr) (h : BSl w (.slice v 32 32) aliceL) : BSl w (.slice v 31 32) (aliceL.take 31) := by
  have h' := h
  rw [← alice_len] at h'
  have := BSl.head' (cap := aliceL.length) (n := 31) h' (by rw [alice_len]; omega)
  rw [alice_len] at this
  exact this
theorem mul_short (v1 v2 : Value) (k p : List UInt8) (w : World) (ht : Tp w) (h1 : BSl w v1 k) (h2 : BSl w v2 p) (hn : ¬ (k.length = 32 ∧ p.length = 32)) :
    Calls Tryd.prog 8 #[v1, v2] w fun e w' => e = .returned (.tuple #[.slice none 0 0, .int .i64 1]) ∧ Ex w w' :=
  (Mul_c v1 v2 k p w ht h1 h2).mono fun _ _ h => ⟨h.n hn, h.b⟩
theorem base_short (v1 : Value) (k : List UInt8) (w : World) (ht : Tp w) (h1 : BSl w v1 k) (hn : ¬ k.length = 32) :
    Calls Tryd.prog 10 #[v1] w fun e w' => e = .returned (.tuple #[.slice none 0 0, .int .i64 1]) ∧ Ex w w' :=
  (Base_c v1 k w ht h1).mono fun _ _ h => ⟨h.n hn, h.b⟩
theorem alice_x (w : World) : Calls Tryd.prog 9 #[] w fun e w' => ∃ v, e = .returned (.slice v 32 32) ∧ BSl w' (.slice v 32 32) aliceL ∧ Ex w w' := alice_c w
theorem take31_len : ¬ ((aliceL.take 31).length = 32 ∧ aliceL.length = 32) := by decide +kernel
theorem take31_len' : ¬ (aliceL.length = 32 ∧ (aliceL.take 31).length = 32) := by decide +kernel
theorem src_nought (w : World) : Src Tryd.prog 1 22 (.slice (some ⟨w.heap.size, 0, none⟩) 1 1) 1 (bcells [0]) (w.alloc (.cells #[.int .u8 0] 5)) := by
  have e : bcells [0] = [.int .u8 0] := by simp [bcells]
  rw [e]
  exact srcAt rfl (heap_alloc_new w _)
theorem alice33 (A : List UInt8) (h : A.length = 32) : ¬ (A ++ [0]).length = 32 := by simp [h]
/-- append onto a row without room. -/
theorem run_append_full (w : World) {b off n : Nat} {xs ys : List UInt8} (ty : TypeId) (h : BSl w (.slice (some ⟨b, off, none⟩) n n) xs) (hx : n = xs.length) (hx0 : xs ≠ []) (x : Value) (m : Nat) (hm : ys.length = m) (hs : Src Tryd.prog 1 22 x m (bcells ys) w) (hb : n + m ≤ 1000) (h0 : 0 < m) :
    ∃ ao cap w', (Builtin.append_ #[22, 22] ty #[.slice (some ⟨b, off, none⟩) n n, x]).run Tryd.prog w = .ok (.slice ao (n + m) cap) w' ∧ Ex w w' ∧ BSl w' (.slice ao (n + m) cap) (xs ++ ys) := by
  obtain ⟨i, hi, hz0, hz1, hz2⟩ := info_parts Tryd.infoU8
  have hl : (bcells ys).length = m := by rw [bcells_length]; exact hm
  have holds : ∀ j u, (bcells xs)[j]? = some u → w.cell? ⟨b, off + j, none⟩ = some u := by
    obtain ⟨ao, cap, e, _, _, _, hc⟩ := h
    cases e
    obtain ⟨b', off', e', holds⟩ := hc _ rfl hx0
    cases e'
    exact holds
  have hsi : Src Tryd.prog i.size 22 x m (bcells ys) w := by rw [hz1]; exact hs
  have hold := run_firstCells_some (P := Tryd.prog) w.drew i.size n ⟨b, off, none⟩ n n (bcells xs) (by rw [hz1, bcells_length]; omega) (by intro j u hu; rw [Addr.add_lit]; exact holds j u hu)
  have hr := run_append_grow_src (P := Tryd.prog) w 22 22 ty 5 i _ Tryd.underlying22 hi hz0 (some ⟨b, off, none⟩) n n (bcells xs) hold x m (bcells ys) hsi (by omega) (by omega) (growslice_fits (by omega) (by rw [hz2]; omega))
  have hlen : (bcells xs ++ bcells ys).length = (n + m) * 1 := by rw [List.length_append, bcells_length, hl]; omega
  have hge := grownCap_ge w (n + m) n 5
  have hcm : grownCap w (n + m) n 5 ≤ maxLen := grownCap_le_maxLen w (n + m) n _ (by unfold maxLen; omega)
  refine ⟨_, _, _, hr, ⟨rfl, rfl, rfl, by simp, fun k hk => Below.heap_alloc w.drew _ k hk⟩, ?_⟩
  refine BSl.ofRow (base := w.heap.size) (n := n + m) ?_
  rw [bcells_append]
  refine ⟨hlen, .inr ⟨w.heap.size, _, _, rfl, Nat.le_refl _, heap_alloc_new w.drew _, hge, hcm, ?_, ?_⟩⟩
  · simp only [Array.size_append, List.size_toArray, size_zeroCells, hlen]
    rw [show (Value.int IntKind.u8 0).cells.size = 1 from rfl, Nat.mul_one]
    omega
  · simp only [Array.toList_append]
    rw [← hlen]
    exact List.take_left

theorem OB.shape {B n : Nat} {v : Value} {w : World} (h : OB B n v w) : ∃ g cap, v = .slice (some ⟨g, 0, none⟩) n cap := by
  obtain ⟨g, cap, _, e, _⟩ := h
  exact ⟨g, cap, e⟩
theorem OB.owns {B n : Nat} {v : Value} {w : World} (h : OB B n v w) : ∃ xs : List UInt8, xs.length = n ∧ w.ownsRow B 5 1 v n (bcells xs) := by
  obtain ⟨g, cap, cs, rfl, h1, h2, h3, h4, h5, h6⟩ := h
  obtain ⟨xs, hl, ht⟩ := take_bytes h6 (by omega)
  exact ⟨xs, hl, by rw [bcells_length]; omega, .inr ⟨g, cap, cs, rfl, h1, h2, h4, h5, by omega, by simpa using ht⟩⟩
theorem lit_ob (w : World) {B : Nat} (hB : B ≤ w.heap.size) (y : Int) (h0 : 0 ≤ y) (h1 : y < 256) : OB B 1 (.slice (some ⟨w.heap.size, 0, none⟩) 1 1) (w.alloc (.cells #[.int .u8 y] 5)) := by
  refine ⟨_, _, _, rfl, hB, heap_alloc_new w _, rfl, Nat.le_refl _, by unfold maxLen; omega, fun j hj => ?_⟩
  obtain rfl : j = 0 := by omega
  refine ⟨_, rfl, ⟨UInt8.ofNat y.toNat, ?_⟩⟩
  rw [UInt8.toNat_ofNat']
  show Value.int .u8 y = Value.int .u8 ((y.toNat % 256 : Nat) : Int)
  congr 1
  omega
section
variable {o : Oper} {ρ : Operand → Value} {w : World} {Φ : Value → World → Prop}
theorem gives_grown {s : Operand} {B g : Nat} {vs : Value} (ho : o.op = .call { callee := .builtin .append, args := #[s, .const (.int .i64 31)], argTypes := #[22, 3] }) (hs : ρ s = vs) (e : vs = .slice (some ⟨g, 0, none⟩) 1 1) (hρ : ρ (.const (.int .i64 31)) = .int .i64 31)
    (hob : OB B 1 vs w) (hB : B ≤ w.heap.size) (h : ∀ v w', OB B 32 v w' → BR B w w' → Φ v w') : Gives Tryd.prog o ρ w Φ := by
  subst e
  obtain ⟨xs, _, hown⟩ := hob.owns
  refine gives_grow ho hs hρ hown fun v w' h1 h2 => h v w' ?_ (BR.ofEx h2 hB)
  obtain ⟨g', cap', cs', e, q1, q2⟩ := OB.ofOwns h1 (by omega)
  exact ⟨g', cap', cs', e, by omega, q2⟩
theorem gives_sized {x : Operand} {B m : Nat} {vx : Value} (n : Nat) (hn : n ≤ 1000) (_hn0 : 0 < n) (ho : o.op = .call { callee := .value (.func 11), args := #[x, .const (.int .i64 (n : Int))], argTypes := #[22, 3] }) (hf : ρ (.func 11) = .func (.func 11) #[] #[]) (hx : ρ x = vx) (hρ : ρ (.const (.int .i64 (n : Int))) = .int .i64 (n : Int))
    (hob : OB B m vx w) (hB : B ≤ w.heap.size) (h : ∀ v w', OB B n v w' → BR B w w' → Φ v w') : Gives Tryd.prog o ρ w Φ := by
  obtain ⟨ao, cap, xs, e, hl, hb⟩ := hob.bsl
  refine gives_call (vs := #[vx, .int .i64 (n : Int)]) ho hf (by simp [hx, hρ]) Tryd.func11 (by kernel_rfl) (by kernel_rfl) ((sized_c n (by omega) vx xs w hb).mono fun e w' ⟨h1, h2, h3⟩ => ⟨_, h1, h _ _ ?_ (BR.ofEx h3 hB)⟩)
  exact OB.ofBlock h2 (sizedL_length _ _) hB hn
theorem gives_lit7 {x0 x1 x2 x3 x4 x5 x6 : Operand} {a0 a1 a2 a3 a4 a5 a6 : Option Addr} {n0 c0 n1 c1 n2 c2 n3 c3 n4 c4 n5 c5 n6 c6 : Nat} (ho : o.op = .buildSlice 29 7 #[(0, x0), (1, x1), (2, x2), (3, x3), (4, x4), (5, x5), (6, x6)]) (h0 : ρ x0 = .slice a0 n0 c0) (h1 : ρ x1 = .slice a1 n1 c1) (h2 : ρ x2 = .slice a2 n2 c2) (h3 : ρ x3 = .slice a3 n3 c3) (h4 : ρ x4 = .slice a4 n4 c4) (h5 : ρ x5 = .slice a5 n5 c5) (h6 : ρ x6 = .slice a6 n6 c6)
    (h : Φ (.slice (some ⟨w.heap.size, 0, none⟩) 7 7) (w.alloc (.cells [.slice a0 n0 c0, .slice a1 n1 c1, .slice a2 n2 c2, .slice a3 n3 c3, .slice a4 n4 c4, .slice a5 n5 c5, .slice a6 n6 c6].toArray 22))) : Gives Tryd.prog o ρ w Φ := by
  obtain ⟨i0, hi, hz0, hz1⟩ : ∃ i0, Tryd.prog.info? 22 = some i0 ∧ i0.zero = some (.slice none 0 0) ∧ i0.size = 1 := by
    have := Tryd.infoSl
    cases hq : Tryd.prog.info? 22 with
    | none => rw [hq] at this; simp at this
    | some i => rw [hq] at this; simp at this; exact ⟨i, rfl, this⟩
  refine Gives.value ?_ h
  unfold execOp
  simp only [ho]
  have hb := run_buildSlice (P := Tryd.prog) w 29 22 7 (#[((0 : Nat), x0), (1, x1), (2, x2), (3, x3), (4, x4), (5, x5), (6, x6)].map fun (i, x) => (i, ρ x)) [.slice a0 n0 c0, .slice a1 n1 c1, .slice a2 n2 c2, .slice a3 n3 c3, .slice a4 n4 c4, .slice a5 n5 c5, .slice a6 n6 c6].toArray i0 (.slice none 0 0) Tryd.underlying29 hi hz0 (by rw [hz1]; omega) (by rw [hz1]; omega) (by rw [hz1]; simp only [List.map_toArray, List.map_cons, List.map_nil, h0, h1, h2, h3, h4, h5, h6]; kernel_rfl)
  rw [Sem.run_bind, hb]
  rfl
theorem gives_len7 {x : Operand} {g : Nat} (ho : o.op = .call { callee := .builtin .len, args := #[x], argTypes := #[29] }) (hx : ρ x = .slice (some ⟨g, 0, none⟩) 7 7) (h : Φ (.int .i64 7) w) : Gives Tryd.prog o ρ w Φ := by
  refine Gives.value (v := .int .i64 7) (w' := w) ?_ h
  unfold execOp
  simp only [ho]
  simp [resolve, invoke, builtin, hx, Builtin.len_, run_underlying Tryd.underlying29, goInt]
end
def nOf (i : Nat) : Nat := [32, 1, 32, 1, 32, 1, 31, 1, 32, 1, 1, 30, 31, 1, 32, 1, 1, 30, 31, 1, 32, 1, 1, 30, 31, 1, 32].getD i 0
/-- What the region that lists the seven points leaves. -/
def NF (B : Nat) (i : Nat) (v : Value) (w : World) : Prop :=
  match i with
  | 1 => (∃ g, v = .slice (some ⟨g, 0, none⟩) 1 1) ∧ OB B 1 v w
  | 27 => ∃ (g : Nat) (cs : List Value), v = .slice (some ⟨g, 0, none⟩) 7 7 ∧ B ≤ g ∧ w.heap[g]? = some (.cells cs.toArray 22 (0, 0)) ∧ cs.length = 7 ∧ ∀ u ∈ cs, OB B 32 u w
  | 28 => v = .int .i64 7
  | 29 => v = .int .i64 0
  | i => OB B (nOf i) v w
theorem NF.br (B : Nat) (i : Nat) (v : Value) (x y : World) (h : BR B x y) (k : NF B i v x) : NF B i v y := by
  unfold NF at k ⊢
  split at k
  · exact ⟨k.1, k.2.br h⟩
  · obtain ⟨g, cs, e, h1, h2, h3, h4⟩ := k
    refine ⟨g, cs, e, h1, h.oth g _ h1 (by intro cs e; cases e) h2, h3, fun u hu => (h4 u hu).br h⟩
  · exact k
  · exact k
  · exact k.br h
theorem all7 {B : Nat} {w : World} {v0 v1 v2 v3 v4 v5 v6 : Value} (h0 : OB B 32 v0 w) (h1 : OB B 32 v1 w) (h2 : OB B 32 v2 w) (h3 : OB B 32 v3 w) (h4 : OB B 32 v4 w) (h5 : OB B 32 v5 w) (h6 : OB B 32 v6 w) : ∀ u ∈ [v0, v1, v2, v3, v4, v5, v6], OB B 32 u w := by
  intro u hu
  simp only [List.mem_cons, List.not_mem_nil, or_false] at hu
  rcases hu with rfl | rfl | rfl | rfl | rfl | rfl | rfl <;> assumption

/-- A row of 32 bytes. -/
def SB (v : Value) (w : World) : Prop := ∃ ao cap L, v = .slice ao 32 cap ∧ BSl w v L ∧ L.length = 32
theorem SB.ext {v : Value} {x y : World} (h : SB v x) (he : Ex x y) : SB v y := by
  obtain ⟨ao, cap, L, e, h1, h2⟩ := h
  exact ⟨ao, cap, L, e, h1.fresh he, h2⟩
theorem all3 {w : World} {v0 v1 v2 : Value} (h0 : SB v0 w) (h1 : SB v1 w) (h2 : SB v2 w) : ∀ u ∈ [v0, v1, v2], SB u w := by
  intro u hu
  simp only [List.mem_cons, List.not_mem_nil, or_false] at hu
  rcases hu with rfl | rfl | rfl <;> assumption
/-- What the region that lists the three scalars leaves. -/
def MF (i : Nat) (v : Value) (w : World) : Prop :=
  match i with
  | 1 => ∃ g, v = .slice (some ⟨g, 0, none⟩) 1 1 ∧ w.heap[g]? = some (.cells (bcells [255]).toArray 5 (0, 0))
  | 4 => ∃ (g : Nat) (cs : List Value), v = .slice (some ⟨g, 0, none⟩) 3 3 ∧ w.heap[g]? = some (.cells cs.toArray 22 (0, 0)) ∧ cs.length = 3 ∧ ∀ u ∈ cs, SB u w
  | 5 => v = .int .i64 3
  | 6 => v = .int .i64 0
  | _ => SB v w
theorem MF.ext (i : Nat) (v : Value) (x y : World) (he : Ex x y) (k : MF i v x) : MF i v y := by
  unfold MF at k ⊢
  split at k
  · obtain ⟨g, e, h⟩ := k
    exact ⟨g, e, by rw [he.block _ (lt_of_block h)]; exact h⟩
  · obtain ⟨g, cs, e, h2, h3, h4⟩ := k
    exact ⟨g, cs, e, by rw [he.block _ (lt_of_block h2)]; exact h2, h3, fun u hu => (h4 u hu).ext he⟩
  · exact k
  · exact k
  · exact k.ext he
theorem mul_ok (k p : List UInt8) (hk : k.length = 32) (hp : p.length = 32) : ∃ x, (∀ v1 v2 w, Tp w → BSl w v1 k → BSl w v2 p → Calls Tryd.prog 8 #[v1, v2] w (CTold w 0 x)) ∧ (∀ v1 v2 w, BSl w v1 k → BSl w v2 p → Calls Tryd.prog 12 #[v1, v2] w (CTold w 0 x)) :=
  ⟨mulL k p, fun v1 v2 w ht h1 h2 => (Mul_c v1 v2 k p w ht h1 h2).mono fun e w' h => by
    obtain ⟨g, he, hb⟩ := h.bsl ⟨hk, hp⟩ (mulL_length _ _)
    exact ⟨h.b, _, _, _, he, hb⟩, fun v1 v2 w h1 h2 => (rMul_t v1 v2 k p w h1 h2).mono fun e w' h => by
    obtain ⟨ao, cap, he, hb⟩ := h.y ⟨hk, hp⟩
    exact ⟨h.b, _, _, _, he, hb⟩⟩

set_option maxHeartbeats 1600000 in
set_option maxRecDepth 100000 in
theorem curveNumbers_c (w : World) (htp : Tp w) :
    Calls Tryd.prog 3 #[] w fun e w' => e = .returned (.bool true) ∧ Below w.heap.size w w' := by
  have HTP := hidden htp
  have HAX := hidden alice_x
  have H31 := hidden alice31
  have HS1 := hidden mul_short
  have HN1 := hidden take31_len
  have HN2 := hidden take31_len'
  have hl := alice_len
  have hl31 : (aliceL.take 31).length = 31 := by decide +kernel
  have HL := hidden hl
  have HL31 := hidden hl31
  generalize aliceL.take 31 = A31 at H31 HN1 HN2 HL31
  generalize aliceL = A at HAX H31 HN1 HN2 HL
  clear htp hl hl31
  go_enter Tryd.func3, Tryd.ntmps3
  go_wp2_with fail
  refine region_ordC [] (by intro s d h; simp at h) [0, 1, 2, 3, 4, 5, 6, 7, 8] (by kernel_rfl) (by kernel_rfl) fun N9 H9 => ?_
  simp only [List.filterMap_cons, List.filterMap_nil, List.getElem?_toArray, List.getElem?_cons_succ, List.getElem?_cons_zero]
  go_wp2_with fail
  refine (HAX.out _).mono ?_
  rintro e w1 ⟨v1, rfl, h1, b1⟩
  have HA1 := hidden h1
  have HB1 : Hid (Ex w w1) := Ex.trans (Ex.drew w) b1
  clear h1 b1
  go_wp2_with fail
  refine (HAX.out _).mono ?_
  rintro e w2 ⟨v2, rfl, h2, b2⟩
  have HM1 := hidden (HS1.out _ _ A31 A w2 ((HTP.out.fresh HB1.out).fresh b2) (H31.out _ _ (HA1.out.fresh b2)) h2 HN1.out)
  have HE2 := hidden (Ex.trans HB1.out b2)
  clear h2 b2 HA1 HB1
  go_wp2_with fail
  refine HM1.out.mono ?_
  rintro e w3 ⟨rfl, b3⟩
  have HE3 : Hid (Ex w w3) := Ex.trans HE2.out b3
  have HT3 : Hid (Tp w3) := HTP.out.fresh HE3.out
  clear b3 HE2 HM1
  go_wp2_with fail
  refine (HAX.out _).mono ?_
  rintro e w4 ⟨v4, rfl, h4, b4⟩
  have HA4 := hidden h4
  have HB4 := hidden b4
  clear h4 b4
  go_wp2_with fail
  refine (HAX.out _).mono ?_
  rintro e w5 ⟨v5, rfl, h5, b5⟩
  have HM1 := hidden (HS1.out _ _ A A31 w5 ((HT3.out.fresh HB4.out).fresh b5) (HA4.out.fresh b5) (H31.out _ _ h5) HN2.out)
  have HE5 := hidden (Ex.trans HE3.out (Ex.trans HB4.out b5))
  clear h5 b5 HA4 HB4 HE3 HT3
  go_wp2_with fail
  refine HM1.out.mono ?_
  rintro e w6 ⟨rfl, b6⟩
  have HE6 : Hid (Ex w w6) := Ex.trans HE5.out b6
  clear b6 HE5 HM1
  go_wp2_with fail
  refine (HAX.out _).mono ?_
  rintro e w7 ⟨v7, rfl, h7, b7⟩
  have hne : A ≠ [] := by intro e; have := HL.out; rw [e] at this; simp at this
  obtain ⟨b, off, rfl⟩ := h7.addr hne
  have hx7 := Ex.alloc w7 (.cells #[.int .u8 0] 5)
  obtain ⟨ao8, c8, w8, hr8, hx8, hb8⟩ := run_append_full (w7.alloc (.cells #[.int .u8 0] 5)) 22 (h7.fresh hx7) HL.out.symm hne (.slice (some ⟨w7.heap.size, 0, none⟩) 1 1) 1 (ys := [0]) rfl (src_nought w7) (by omega) (by omega)
  have HE8 : Hid (Ex w w8) := Ex.trans HE6.out (Ex.trans b7 (Ex.trans hx7 hx8))
  have HM1 := hidden (base_short _ (A ++ [0]) w8 (HTP.out.fresh HE8.out) hb8 (alice33 A HL.out))
  clear h7 b7 hx7 hx8 hb8 hne HE6
  go_wp2_with (refine Lib.wpList_append_run _ rfl (.tmp 30) (.tmp 31) 22 22 rfl (.slice (some ⟨b, off, none⟩) 32 32) (.slice (some ⟨w7.heap.size, 0, none⟩) 1 1) (by kernel_rfl) (by kernel_rfl) (.slice ao8 (32 + 1) c8) w8 hr8 ?_)
  refine HM1.out.mono ?_
  rintro e w9 ⟨rfl, b9⟩
  have HE9 : Hid (Ex w w9) := Ex.trans HE8.out b9
  have HT9 : Hid (Tp w9) := HTP.out.fresh HE9.out
  clear b9 HE8 HM1 hr8 HS1 HN1 HN2 H31 HL31 HTP
  go_wp2_with fail
  refine region_br 30 (by kernel_rfl) (NF w9.heap.size) (NF.br w9.heap.size) ?_ ?_
  · refine eachL_take (fun vs wx he hd => gives_make (by kernel_rfl) (by kernel_rfl) ⟨BR.ofEx (Ex.alloc wx _) he.size, OB.ofBlock (heap_alloc_new wx _) (by simp) he.size (by omega), fun _ _ _ _ => trivial⟩) ?_
    refine eachL_take (fun vs wx he hd => gives_lit1 (y := 1) (by kernel_rfl) (by kernel_rfl) ⟨BR.ofEx (Ex.alloc wx _) he.size, ⟨⟨_, rfl⟩, lit_ob wx he.size 1 (by omega) (by omega)⟩, fun _ _ _ _ => trivial⟩) ?_
    refine eachL_take (fun vs wx he hd => ?_) ?_
    · obtain ⟨⟨g, e1⟩, e2⟩ := hd 1 (by decide) (by kernel_rfl)
      exact gives_grown (s := .tmp 37) (g := g) (vs := vs 1) (by kernel_rfl) (by kernel_rfl) e1 (by kernel_rfl) e2 he.size fun v wy h1 h2 => ⟨h2, h1, fun _ _ _ _ => trivial⟩
    refine eachL_take (fun vs wx he hd => gives_lit1 (y := 255) (by kernel_rfl) (by kernel_rfl) ⟨BR.ofEx (Ex.alloc wx _) he.size, lit_ob wx he.size 255 (by omega) (by omega), fun _ _ _ _ => trivial⟩) ?_
    refine eachL_take (fun vs wx he hd => gives_sized (x := .tmp 39) (vx := vs 3) (m := 1) 32 (by omega) (by omega) (by kernel_rfl) (by kernel_rfl) (by kernel_rfl) (by kernel_rfl) (hd 3 (by decide) (by kernel_rfl)) he.size fun v wy h1 h2 => ⟨h2, h1, fun _ _ _ _ => trivial⟩) ?_
    refine eachL_take (fun vs wx he hd => gives_lit1 (y := 255) (by kernel_rfl) (by kernel_rfl) ⟨BR.ofEx (Ex.alloc wx _) he.size, lit_ob wx he.size 255 (by omega) (by omega), fun _ _ _ _ => trivial⟩) ?_
    refine eachL_take (fun vs wx he hd => gives_sized (x := .tmp 41) (vx := vs 5) (m := 1) 31 (by omega) (by omega) (by kernel_rfl) (by kernel_rfl) (by kernel_rfl) (by kernel_rfl) (hd 5 (by decide) (by kernel_rfl)) he.size fun v wy h1 h2 => ⟨h2, h1, fun _ _ _ _ => trivial⟩) ?_
    refine eachL_take (fun vs wx he hd => gives_lit1 (y := 127) (by kernel_rfl) (by kernel_rfl) ⟨BR.ofEx (Ex.alloc wx _) he.size, lit_ob wx he.size 127 (by omega) (by omega), fun _ _ _ _ => trivial⟩) ?_
    refine eachL_take (fun vs wx he hd => gives_app (s := .tmp 42) (x := .tmp 43) (vs := vs 6) (vx := vs 7) (n := 31) (m := 1) (by kernel_rfl) (by kernel_rfl) (by kernel_rfl) (hd 6 (by decide) (by kernel_rfl)) (hd 7 (by decide) (by kernel_rfl)) he.size (by omega) (by omega) fun v wy h1 h2 => ⟨h2, h1, fun _ _ _ _ => trivial⟩) ?_
    refine eachL_take (fun vs wx he hd => gives_lit1 (y := 236) (by kernel_rfl) (by kernel_rfl) ⟨BR.ofEx (Ex.alloc wx _) he.size, lit_ob wx he.size 236 (by omega) (by omega), fun _ _ _ _ => trivial⟩) ?_
    refine eachL_take (fun vs wx he hd => gives_lit1 (y := 255) (by kernel_rfl) (by kernel_rfl) ⟨BR.ofEx (Ex.alloc wx _) he.size, lit_ob wx he.size 255 (by omega) (by omega), fun _ _ _ _ => trivial⟩) ?_
    refine eachL_take (fun vs wx he hd => gives_sized (x := .tmp 46) (vx := vs 10) (m := 1) 30 (by omega) (by omega) (by kernel_rfl) (by kernel_rfl) (by kernel_rfl) (by kernel_rfl) (hd 10 (by decide) (by kernel_rfl)) he.size fun v wy h1 h2 => ⟨h2, h1, fun _ _ _ _ => trivial⟩) ?_
    refine eachL_take (fun vs wx he hd => gives_app (s := .tmp 45) (x := .tmp 47) (vs := vs 9) (vx := vs 11) (n := 1) (m := 30) (by kernel_rfl) (by kernel_rfl) (by kernel_rfl) (hd 9 (by decide) (by kernel_rfl)) (hd 11 (by decide) (by kernel_rfl)) he.size (by omega) (by omega) fun v wy h1 h2 => ⟨h2, h1, fun _ _ _ _ => trivial⟩) ?_
    refine eachL_take (fun vs wx he hd => gives_lit1 (y := 127) (by kernel_rfl) (by kernel_rfl) ⟨BR.ofEx (Ex.alloc wx _) he.size, lit_ob wx he.size 127 (by omega) (by omega), fun _ _ _ _ => trivial⟩) ?_
    refine eachL_take (fun vs wx he hd => gives_app (s := .tmp 48) (x := .tmp 49) (vs := vs 12) (vx := vs 13) (n := 31) (m := 1) (by kernel_rfl) (by kernel_rfl) (by kernel_rfl) (hd 12 (by decide) (by kernel_rfl)) (hd 13 (by decide) (by kernel_rfl)) he.size (by omega) (by omega) fun v wy h1 h2 => ⟨h2, h1, fun _ _ _ _ => trivial⟩) ?_
    refine eachL_take (fun vs wx he hd => gives_lit1 (y := 237) (by kernel_rfl) (by kernel_rfl) ⟨BR.ofEx (Ex.alloc wx _) he.size, lit_ob wx he.size 237 (by omega) (by omega), fun _ _ _ _ => trivial⟩) ?_
    refine eachL_take (fun vs wx he hd => gives_lit1 (y := 255) (by kernel_rfl) (by kernel_rfl) ⟨BR.ofEx (Ex.alloc wx _) he.size, lit_ob wx he.size 255 (by omega) (by omega), fun _ _ _ _ => trivial⟩) ?_
    refine eachL_take (fun vs wx he hd => gives_sized (x := .tmp 52) (vx := vs 16) (m := 1) 30 (by omega) (by omega) (by kernel_rfl) (by kernel_rfl) (by kernel_rfl) (by kernel_rfl) (hd 16 (by decide) (by kernel_rfl)) he.size fun v wy h1 h2 => ⟨h2, h1, fun _ _ _ _ => trivial⟩) ?_
    refine eachL_take (fun vs wx he hd => gives_app (s := .tmp 51) (x := .tmp 53) (vs := vs 15) (vx := vs 17) (n := 1) (m := 30) (by kernel_rfl) (by kernel_rfl) (by kernel_rfl) (hd 15 (by decide) (by kernel_rfl)) (hd 17 (by decide) (by kernel_rfl)) he.size (by omega) (by omega) fun v wy h1 h2 => ⟨h2, h1, fun _ _ _ _ => trivial⟩) ?_
    refine eachL_take (fun vs wx he hd => gives_lit1 (y := 127) (by kernel_rfl) (by kernel_rfl) ⟨BR.ofEx (Ex.alloc wx _) he.size, lit_ob wx he.size 127 (by omega) (by omega), fun _ _ _ _ => trivial⟩) ?_
    refine eachL_take (fun vs wx he hd => gives_app (s := .tmp 54) (x := .tmp 55) (vs := vs 18) (vx := vs 19) (n := 31) (m := 1) (by kernel_rfl) (by kernel_rfl) (by kernel_rfl) (hd 18 (by decide) (by kernel_rfl)) (hd 19 (by decide) (by kernel_rfl)) he.size (by omega) (by omega) fun v wy h1 h2 => ⟨h2, h1, fun _ _ _ _ => trivial⟩) ?_
    refine eachL_take (fun vs wx he hd => gives_lit1 (y := 238) (by kernel_rfl) (by kernel_rfl) ⟨BR.ofEx (Ex.alloc wx _) he.size, lit_ob wx he.size 238 (by omega) (by omega), fun _ _ _ _ => trivial⟩) ?_
    refine eachL_take (fun vs wx he hd => gives_lit1 (y := 255) (by kernel_rfl) (by kernel_rfl) ⟨BR.ofEx (Ex.alloc wx _) he.size, lit_ob wx he.size 255 (by omega) (by omega), fun _ _ _ _ => trivial⟩) ?_
    refine eachL_take (fun vs wx he hd => gives_sized (x := .tmp 58) (vx := vs 22) (m := 1) 30 (by omega) (by omega) (by kernel_rfl) (by kernel_rfl) (by kernel_rfl) (by kernel_rfl) (hd 22 (by decide) (by kernel_rfl)) he.size fun v wy h1 h2 => ⟨h2, h1, fun _ _ _ _ => trivial⟩) ?_
    refine eachL_take (fun vs wx he hd => gives_app (s := .tmp 57) (x := .tmp 59) (vs := vs 21) (vx := vs 23) (n := 1) (m := 30) (by kernel_rfl) (by kernel_rfl) (by kernel_rfl) (hd 21 (by decide) (by kernel_rfl)) (hd 23 (by decide) (by kernel_rfl)) he.size (by omega) (by omega) fun v wy h1 h2 => ⟨h2, h1, fun _ _ _ _ => trivial⟩) ?_
    refine eachL_take (fun vs wx he hd => gives_lit1 (y := 255) (by kernel_rfl) (by kernel_rfl) ⟨BR.ofEx (Ex.alloc wx _) he.size, lit_ob wx he.size 255 (by omega) (by omega), fun _ _ _ _ => trivial⟩) ?_
    refine eachL_take (fun vs wx he hd => gives_app (s := .tmp 60) (x := .tmp 61) (vs := vs 24) (vx := vs 25) (n := 31) (m := 1) (by kernel_rfl) (by kernel_rfl) (by kernel_rfl) (hd 24 (by decide) (by kernel_rfl)) (hd 25 (by decide) (by kernel_rfl)) he.size (by omega) (by omega) fun v wy h1 h2 => ⟨h2, h1, fun _ _ _ _ => trivial⟩) ?_
    refine eachL_take (fun vs wx he hd => ?_) ?_
    · have o0 : OB w9.heap.size 32 (vs 0) wx := hd 0 (by decide) (by kernel_rfl)
      obtain ⟨ga0, ca0, ea0⟩ := o0.shape
      have o1 : OB w9.heap.size 32 (vs 2) wx := hd 2 (by decide) (by kernel_rfl)
      obtain ⟨ga1, ca1, ea1⟩ := o1.shape
      have o2 : OB w9.heap.size 32 (vs 4) wx := hd 4 (by decide) (by kernel_rfl)
      obtain ⟨ga2, ca2, ea2⟩ := o2.shape
      have o3 : OB w9.heap.size 32 (vs 8) wx := hd 8 (by decide) (by kernel_rfl)
      obtain ⟨ga3, ca3, ea3⟩ := o3.shape
      have o4 : OB w9.heap.size 32 (vs 14) wx := hd 14 (by decide) (by kernel_rfl)
      obtain ⟨ga4, ca4, ea4⟩ := o4.shape
      have o5 : OB w9.heap.size 32 (vs 20) wx := hd 20 (by decide) (by kernel_rfl)
      obtain ⟨ga5, ca5, ea5⟩ := o5.shape
      have o6 : OB w9.heap.size 32 (vs 26) wx := hd 26 (by decide) (by kernel_rfl)
      obtain ⟨ga6, ca6, ea6⟩ := o6.shape
      refine gives_lit7 (x0 := .tmp 36) (x1 := .tmp 38) (x2 := .tmp 40) (x3 := .tmp 44) (x4 := .tmp 50) (x5 := .tmp 56) (x6 := .tmp 62) (by kernel_rfl) (Eq.trans (b := vs 0) (by kernel_rfl) ea0) (Eq.trans (b := vs 2) (by kernel_rfl) ea1) (Eq.trans (b := vs 4) (by kernel_rfl) ea2) (Eq.trans (b := vs 8) (by kernel_rfl) ea3) (Eq.trans (b := vs 14) (by kernel_rfl) ea4) (Eq.trans (b := vs 20) (by kernel_rfl) ea5) (Eq.trans (b := vs 26) (by kernel_rfl) ea6) ⟨BR.ofEx (Ex.alloc wx _) he.size, ⟨wx.heap.size, _, rfl, he.size, heap_alloc_new wx _, rfl, ?_⟩, fun _ _ _ _ => trivial⟩
      have hx : ∀ o, BR w9.heap.size wx (wx.alloc o) := fun o => BR.ofEx (Ex.alloc wx o) he.size
      rw [ea0] at o0
      rw [ea1] at o1
      rw [ea2] at o2
      rw [ea3] at o3
      rw [ea4] at o4
      rw [ea5] at o5
      rw [ea6] at o6
      exact all7 (o0.br (hx _)) (o1.br (hx _)) (o2.br (hx _)) (o3.br (hx _)) (o4.br (hx _)) (o5.br (hx _)) (o6.br (hx _))
    refine eachL_take (fun vs wx he hd => ?_) ?_
    · obtain ⟨g, cs, e1, _⟩ := hd 27 (by decide) (by kernel_rfl)
      exact gives_len7 (x := .tmp 63) (g := g) (by kernel_rfl) (Eq.trans (b := vs 27) (by kernel_rfl) e1) ⟨BR.ofEx (Ex.refl wx) he.size, rfl, fun _ _ _ _ => trivial⟩
    refine eachL_take (fun vs wx he hd => gives_move (x := .const (.int .i64 0)) (by kernel_rfl) ⟨BR.ofEx (Ex.refl wx) he.size, rfl, fun _ _ _ _ => trivial⟩) ?_
    exact eachL_zero
  intro vs w10 hx10 hF
  refine wpAny_done (by kernel_rfl) ?_ 0
  obtain ⟨g7, cs, e27, hg7, hb7, hl7, ha7⟩ := hF 27 (by omega)
  have e28 : vs 28 = .int .i64 7 := hF 28 (by omega)
  have e29 : vs 29 = .int .i64 0 := hF 29 (by omega)
  have HP : Hid (∀ i : Nat, i < 7 → ∃ ao cap L, cs[i]? = some (.slice ao 32 cap) ∧ BSl w10 (.slice ao 32 cap) L ∧ L.length = 32) := fun i hi => by
    have hm : cs[i]? = some cs[i] := List.getElem?_eq_getElem (by omega)
    obtain ⟨ao, cap, L, e, hl, hb⟩ := (ha7 cs[i] (List.getElem_mem _)).bsl
    rw [e] at hm hb
    exact ⟨ao, cap, L, hm, hb, hl⟩
  have HC : Hid (w10.heap[g7]? = some (.cells cs.toArray 22 (0, 0))) := hb7
  have HE10 : Hid (Ex w w10) := Below.trans HE9.out (hx10.old.mono HE9.out.size)
  have HT10 : Hid (Tp w10) := HT9.out.fresh hx10.old
  simp only [actsTo, if_true, dstOf, List.getElem?_toArray, List.getElem?_cons_succ, List.getElem?_cons_zero, Option.bind_some, Act.put, List.setIfInBounds_toArray, List.set_cons_zero, List.set_cons_succ]
  rw [e27, e28, e29]
  clear hF e27 e28 e29 hx10 HE9 HT9 hg7 hb7 hl7 ha7
  generalize vs 0 = q0
  generalize vs 1 = q1
  generalize vs 2 = q2
  generalize vs 3 = q3
  generalize vs 4 = q4
  generalize vs 5 = q5
  generalize vs 6 = q6
  generalize vs 7 = q7
  generalize vs 8 = q8
  generalize vs 9 = q9
  generalize vs 10 = q10
  generalize vs 11 = q11
  generalize vs 12 = q12
  generalize vs 13 = q13
  generalize vs 14 = q14
  generalize vs 15 = q15
  generalize vs 16 = q16
  generalize vs 17 = q17
  generalize vs 18 = q18
  generalize vs 19 = q19
  generalize vs 20 = q20
  generalize vs 21 = q21
  generalize vs 22 = q22
  generalize vs 23 = q23
  generalize vs 24 = q24
  generalize vs 25 = q25
  generalize vs 26 = q26
  clear vs
  go_wp2_with fail
  go_loopw [65] (fun c wr => ∃ i : Nat, i ≤ 7 ∧ c = .int .i64 (i : Int) ∧ Ex w10 wr) (fun c _ => 7 - (intOf c).toNat)
  case atStart => exact ⟨0, by omega, rfl, Ex.refl w10⟩
  case round =>
    obtain ⟨i, hi7, rfl, he⟩ := hrel
    have HE := hidden he
    clear he
    by_cases hlt : i < 7
    · have hlt' : (i : Int) < 7 := by omega
      obtain ⟨pa, pc, L, hci, hbi, hli⟩ := HP.out i hlt
      have hc := cell_row (cs := cs) (show wr.heap[g7]? = some (.cells _ _ (0, 0)) by rw [HE.out.block _ (lt_of_block HC.out)]; exact HC.out) i
      rw [hci] at hc
      have HBI := hidden (hbi.fresh HE.out)
      have HTR := hidden (HT10.out.fresh HE.out)
      have HLI := hidden hli
      clear hci hbi hli
      obtain ⟨wo, ewo⟩ : ∃ x, x = wr := ⟨wr, rfl⟩
      subst ewo
      go_wp2_with fail
      refine region_ex 7 (by kernel_rfl) MF MF.ext (fun _ _ _ _ => True) ?_ ?_
      · refine eachL_take (fun vs wx he hd => gives_make (by kernel_rfl) (by kernel_rfl) ⟨Ex.alloc wx _, ⟨_, _, _, rfl, BSl.zeros wx 32 (by omega), by simp⟩, fun _ _ _ _ => trivial⟩) ?_
        refine eachL_take (fun vs wx he hd => gives_lit1 (y := 255) (by kernel_rfl) (by kernel_rfl) ⟨Ex.alloc wx _, ⟨_, rfl, heap_alloc_new wx _⟩, fun _ _ _ _ => trivial⟩) ?_
        refine eachL_take (fun vs wx he hd => ?_) ?_
        · obtain ⟨g, e1, e2⟩ := hd 1 (by decide) (by kernel_rfl)
          refine gives_call (f := 11) (vs := #[vs 1, .int .i64 32]) (xs := #[.tmp 70, .const (.int .i64 32)]) (ts := #[22, 3]) (by kernel_rfl) (by kernel_rfl) (by kernel_rfl) Tryd.func11 (by kernel_rfl) (by kernel_rfl) ?_
          rw [e1]
          refine (sized_b 32 (by omega) _ [255] wx (BSl.ofBlock e2 (by decide))).mono fun e w' ⟨h1, h2, h3⟩ => ⟨_, h1, h3, ⟨_, _, _, rfl, h2, sizedL_length _ _⟩, fun _ _ _ _ => trivial⟩
        refine eachL_take (fun vs wx he hd => gives_call (f := 9) (vs := #[]) (xs := #[]) (ts := #[]) (by kernel_rfl) (by kernel_rfl) (by kernel_rfl) Tryd.func9 (by kernel_rfl) (by kernel_rfl) ((HAX.out wx).mono fun e w' ⟨v, h1, h2, h3⟩ => ⟨_, h1, h3, ⟨_, _, _, rfl, h2, HL.out⟩, fun _ _ _ _ => trivial⟩)) ?_
        refine eachL_take (fun vs wx he hd => ?_) ?_
        · have o0 : SB (vs 0) wx := hd 0 (by decide) (by kernel_rfl)
          have o1 : SB (vs 2) wx := hd 2 (by decide) (by kernel_rfl)
          have o2 : SB (vs 3) wx := hd 3 (by decide) (by kernel_rfl)
          obtain ⟨ga0, ca0, _, ea0, _⟩ := o0
          obtain ⟨ga1, ca1, _, ea1, _⟩ := o1
          obtain ⟨ga2, ca2, _, ea2, _⟩ := o2
          have o0 : SB (vs 0) wx := hd 0 (by decide) (by kernel_rfl)
          have o1 : SB (vs 2) wx := hd 2 (by decide) (by kernel_rfl)
          have o2 : SB (vs 3) wx := hd 3 (by decide) (by kernel_rfl)
          rw [ea0] at o0
          rw [ea1] at o1
          rw [ea2] at o2
          refine gives_lit3 (x := .tmp 69) (y := .tmp 71) (z := .tmp 72) (by kernel_rfl) (Eq.trans (b := vs 0) (by kernel_rfl) ea0) (Eq.trans (b := vs 2) (by kernel_rfl) ea1) (Eq.trans (b := vs 3) (by kernel_rfl) ea2) ⟨Ex.alloc wx _, ⟨_, [_, _, _], rfl, heap_alloc_new wx _, rfl, ?_⟩, fun _ _ _ _ => trivial⟩
          exact all3 (o0.ext (Ex.alloc wx _)) (o1.ext (Ex.alloc wx _)) (o2.ext (Ex.alloc wx _))
        refine eachL_take (fun vs wx he hd => ?_) ?_
        · obtain ⟨g, cs, e1, _⟩ := hd 4 (by decide) (by kernel_rfl)
          exact gives_len3 (x := .tmp 73) (g := g) (by kernel_rfl) (Eq.trans (b := vs 4) (by kernel_rfl) e1) ⟨Ex.refl wx, rfl, fun _ _ _ _ => trivial⟩
        refine eachL_take (fun vs wx he hd => gives_move (x := .const (.int .i64 0)) (by kernel_rfl) ⟨Ex.refl wx, rfl, fun _ _ _ _ => trivial⟩) ?_
        exact eachL_zero
      intro vs w12 hx12 hF _
      refine wpAny_done (by kernel_rfl) ?_ 0
      obtain ⟨g3, cs3, e4, hb3, hl3, ha3⟩ := hF 4 (by omega)
      have e5 : vs 5 = .int .i64 3 := hF 5 (by omega)
      have e6 : vs 6 = .int .i64 0 := hF 6 (by omega)
      have HP3 : Hid (∀ i : Nat, i < 3 → ∃ ao cap L, cs3[i]? = some (.slice ao 32 cap) ∧ BSl w12 (.slice ao 32 cap) L ∧ L.length = 32) := fun i hi => by
        have hm : cs3[i]? = some cs3[i] := List.getElem?_eq_getElem (by omega)
        obtain ⟨ao, cap, L, e, hb, hl⟩ := ha3 cs3[i] (List.getElem_mem _)
        rw [e] at hm hb
        exact ⟨ao, cap, L, hm, hb, hl⟩
      have HC3 : Hid (w12.heap[g3]? = some (.cells cs3.toArray 22 (0, 0))) := hb3
      have HE12 := hidden (Ex.trans HE.out hx12)
      have HT12 := hidden (HTR.out.fresh hx12)
      have HB12 := hidden (HBI.out.fresh hx12)
      simp only [actsTo, if_true, dstOf, List.getElem?_toArray, List.getElem?_cons_succ, List.getElem?_cons_zero, Option.bind_some, Act.put, List.setIfInBounds_toArray, List.set_cons_zero, List.set_cons_succ]
      rw [e4, e5, e6]
      clear hF e4 e5 e6 hx12 HE HTR HBI hb3 hl3 ha3 hc
      generalize vs 0 = q0
      generalize vs 1 = q1
      generalize vs 2 = q2
      generalize vs 3 = q3
      clear vs
      go_wp2_with fail
      go_loopw [75] (fun c wr => ∃ j : Nat, j ≤ 3 ∧ c = .int .i64 (j : Int) ∧ Ex w12 wr) (fun c _ => 3 - (intOf c).toNat)
      case atStart => exact ⟨0, by omega, rfl, Ex.refl w12⟩
      case round =>
        obtain ⟨j, hj3, rfl, he⟩ := hrel
        have HE := hidden he
        clear he
        by_cases hlj : j < 3
        · have hlj' : (j : Int) < 3 := by omega
          obtain ⟨sa, sc, K, hcj, hbj, hkj⟩ := HP3.out j hlj
          have hc := cell_row (cs := cs3) (show wr.heap[g3]? = some (.cells _ _ (0, 0)) by rw [HE.out.block _ (lt_of_block HC3.out)]; exact HC3.out) j
          rw [hcj] at hc
          obtain ⟨X, hm1, hm2⟩ := mul_ok K L hkj HLI.out
          have HKB := hidden (hbj.fresh HE.out)
          have HLB := hidden (HB12.out.fresh HE.out)
          have HM1 := hidden (hm1 _ _ wr (HT12.out.fresh HE.out) HKB.out HLB.out)
          have HM2 := hidden hm2
          clear hm1 hm2 hcj hbj hkj
          go_wp2_with fail
          refine HM1.out.mono ?_
          rintro e w13 ⟨b13, ao13, n13, c13, rfl, h13⟩
          have HX13 := hidden h13
          have HM3 := hidden (HM2.out _ _ w13 (HKB.out.fresh b13) (HLB.out.fresh b13))
          have HE13 := hidden (Ex.trans HE.out b13)
          clear h13 b13 HM1 HM2 HKB HLB HE hc
          go_wp2_with fail
          refine HM3.out.mono ?_
          rintro e w14 ⟨b14, ao14, n14, c14, rfl, h14⟩
          have hs1 := run_string (HX13.out.fresh b14)
          have hs2 := run_string h14
          have HE14 := hidden (Ex.trans HE13.out b14)
          clear h14 b14 HM3 HX13 HE13
          generalize (⟨X.toArray⟩ : ByteArray) = XS at hs1 hs2
          go_wp2
          go_roundw
          case rel => exact ⟨j + 1, by omega, by go_num, HE14.out⟩
          case measure => simp [intOf]; omega
        · have hlj' : ¬ (j : Int) < 3 := by omega
          obtain rfl : j = 3 := by omega
          have HE14 := hidden (Ex.trans HE12.out HE.out)
          clear HE HE12 HP3 HC3 HB12 HT12
          go_wp2
          go_roundw
          case rel => exact ⟨i + 1, by omega, by go_num, HE14.out⟩
          case measure => simp [intOf]; omega
    · have hlt' : ¬ (i : Int) < 7 := by omega
      obtain rfl : i = 7 := by omega
      have HKN := hidden (known_c wr (HT10.out.fresh HE.out))
      have HE11 := hidden (Ex.trans HE10.out HE.out)
      clear HE HP HC HT10 HE10
      go_wp2_with fail
      refine HKN.out.mono ?_
      rintro e w16 ⟨rfl, hb16⟩
      have HE16 := hidden (Ex.trans HE11.out hb16)
      clear hb16 HKN HE11
      go_wp2
      go_ret
      exact ⟨rfl, HE16.out⟩
end Go.Proofs.YtdgapijgdbhlfaaDoor
