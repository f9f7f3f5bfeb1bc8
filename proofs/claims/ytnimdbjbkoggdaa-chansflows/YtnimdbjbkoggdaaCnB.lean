/- What numbers, refused, dataOf, isWhole, isFiles, readOpening and readRequest answer. -/
import Derived.Test.YtnimdbjbkoggdaaCnM
import Derived.Deep.RegionWith
namespace Go.Proofs.Ytnimdbjbkoggdaa
open Go Go.RowKit

/-- The slice value v reads as the numbers ns, each a uint32. -/
def NSl (w : World) (v : Value) (ns : List Nat) : Prop :=
  ∃ b, v = .slice (some ⟨b, 0, none⟩) ns.length ns.length ∧ w.heap[b]? = some (.cells (ns.map fun n : Nat => Value.int .u32 (n : Int)).toArray 33 (0, 0))
theorem NSl.cell {w : World} {b : Nat} {n c : Nat} {ns : List Nat} (h : NSl w (.slice (some ⟨b, 0, none⟩) n c) ns) (j : Nat) (hj : j < ns.length) : w.cell? ⟨b, j, none⟩ = some (.int .u32 ((ns[j] : Nat) : Int)) := by
  obtain ⟨b', e, h1⟩ := h
  cases e
  rw [cell_row h1]
  simp [hj]
theorem NSl.fresh {w w' : World} {v : Value} {ns : List Nat} (h : NSl w v ns) (hb : Below w.heap.size w w') : NSl w' v ns := by
  obtain ⟨b, e, h1⟩ := h
  exact ⟨b, e, (hb.block b (lt_of_block h1)).trans h1⟩
theorem nsl_lit (w : World) (ns : List Nat) : NSl (w.alloc (.cells (ns.map fun n : Nat => Value.int .u32 (n : Int)).toArray 33)) (.slice (some ⟨w.heap.size, 0, none⟩) ns.length ns.length) ns := ⟨_, rfl, heap_alloc_new w _⟩

set_option maxHeartbeats 800000 in
set_option maxRecDepth 100000 in
theorem numbers_c (k : Nat) (v : Value) (ns : List Nat) (w : World) (hv : NSl w v ns) (hn : ∀ j (hj : j < ns.length), ns[j] ≤ 4294967295) (hl : ns.length ≤ 10) :
    Calls Try.prog 37 #[.int .i64 k, v] w fun e w' => Gave w (numL (byteOf k) ns) e w' := by
  obtain ⟨b, rfl, _⟩ := id hv
  have HV := hidden hv
  have HN := hidden hn
  clear hv hn
  go_enter Try.func37, Try.ntmps37
  go_wp2_with fail
  refine (newWriter_c _).mono ?_
  rintro e w1 ⟨rfl, rfl⟩
  have h1 := hidden (WS.new w (Nat.le_refl _))
  have b1 := hidden ((Below.refl w.heap.size w).alloc (Nat.le_refl _) (.cells #[.slice none 0 0] 111))
  generalize w.alloc (.cells #[.slice none 0 0] 111) = w1 at h1 b1 ⊢
  go_wp2_with fail
  refine (byte_c k w1 h1.out (by simp)).mono ?_
  rintro e w2 ⟨rfl, g2, h2, t2⟩
  have b2 := hidden (wrote_b b1.out t2 h1.out)
  have h2 := hidden h2
  clear h1 b1 t2
  go_wp2_with fail
  go_loopw [14] (fun i wr => ∃ (j : Nat) (g : Option Nat), j ≤ ns.length ∧ i = .int .i64 (j : Int) ∧ WS wr w.heap.size w.heap.size g (numL (byteOf k) (ns.take j)) ∧ Below w.heap.size w wr) (fun i _ => ns.length - (intOf i).toNat)
  case atStart => exact ⟨0, g2, by omega, rfl, h2.out, b2.out⟩
  case round =>
    obtain ⟨j, g, hj, rfl, hs, hb⟩ := hrel
    have HS := hidden hs
    have HB := hidden hb
    clear hs hb h2 b2
    by_cases hlt : j < ns.length
    · have i1 : (j : Int) < (ns.length : Int) := by omega
      have k1 := (HV.out.fresh HB.out).cell j hlt
      have hn := HN.out j hlt
      have HE : Hid (numL (byteOf k) (ns.take j) ++ be 4 ns[j] = numL (byteOf k) (ns.take (j + 1))) := hidden (by rw [List.take_succ_eq_append_getElem hlt, numL, numL, numsL_app]; simp only [numsL, List.cons_append, List.append_nil])
      have HZ : Hid ((numL (byteOf k) (ns.take j)).length ≤ 50) := hidden (by rw [numL_len, List.length_take]; omega)
      generalize ns[j] = n at k1 hn HE
      go_wp2_with fail
      refine (u32_c n (by omega) (by omega) wr HS.out (by have := HZ.out; omega)).mono ?_
      rintro e w3 ⟨rfl, g3, h3, t3⟩
      have b3 := hidden (wrote_b HB.out t3 HS.out)
      rw [Int.toNat_natCast, HE.out] at h3
      have h3 := hidden h3
      clear HS HB t3 HE k1
      go_wp2_with fail
      go_roundw
      case rel => exact ⟨j + 1, g3, by omega, by go_num, h3.out, b3.out⟩
      case measure => simp [intOf]; omega
    · have i1 : ¬ (j : Int) < (ns.length : Int) := by omega
      have HE : Hid (numL (byteOf k) (ns.take j) = numL (byteOf k) ns) := hidden (by rw [List.take_of_length_le (by omega)])
      have HZ : Hid ((numL (byteOf k) (ns.take j)).length ≤ 50) := hidden (by rw [numL_len, List.length_take]; omega)
      go_wp2_with fail
      refine (done_c wr HS.out (by have := HZ.out; omega)).mono ?_
      rintro e w6 ⟨v6, rfl, h6, b6⟩
      have G := hidden (gave_of HB.out h6 b6 HE.out)
      clear HS HB h6 b6 HE
      go_wp2_with fail
      go_ret
      exact G.out

theorem refL_eq (th why : Nat) : ([] ++ [byteOf 92] ++ be 4 th ++ be 4 why ++ textBytes [] ++ textBytes [] : List UInt8) = refL th why := by
  rw [show byteOf 92 = 92 from rfl]
  simp [refL, numL, numsL]
theorem datL_eq (th : Nat) (xs : List UInt8) : ([] ++ [byteOf 94] ++ be 4 th ++ textBytes xs : List UInt8) = datL th xs := by
  rw [show byteOf 94 = 94 from rfl]
  simp [datL, numL, numsL]

set_option maxHeartbeats 800000 in
set_option maxRecDepth 100000 in
theorem refused_c (th why : Nat) (ht : th ≤ 4294967295) (hw : why ≤ 4294967295) (w : World) : Calls Try.prog 52 #[.int .u32 th, .int .u32 why] w fun e w' => Gave w (refL th why) e w' := by
  have HE := hidden (refL_eq th why)
  generalize refL th why = R at HE ⊢
  go_enter Try.func52, Try.ntmps52
  go_wp2_with fail
  refine (newWriter_c _).mono ?_
  rintro e w1 ⟨rfl, rfl⟩
  have h1 := hidden (WS.new w (Nat.le_refl _))
  have b1 := hidden ((Below.refl w.heap.size w).alloc (Nat.le_refl _) (.cells #[.slice none 0 0] 111))
  generalize w.alloc (.cells #[.slice none 0 0] 111) = w1 at h1 b1 ⊢
  go_wp2_with fail
  refine (byte_c 92 w1 h1.out (by simp)).mono ?_
  rintro e w2 ⟨rfl, g2, h2, t2⟩
  have b2 := hidden (wrote_b b1.out t2 h1.out)
  have h2 := hidden h2
  clear h1 b1 t2
  go_wp2_with fail
  refine (u32_c th (by omega) (by omega) w2 h2.out (by simp)).mono ?_
  rintro e w3 ⟨rfl, g3, h3, t3⟩
  have b3 := hidden (wrote_b b2.out t3 h2.out)
  rw [Int.toNat_natCast] at h3
  have h3 := hidden h3
  clear h2 b2 t3
  go_wp2_with fail
  refine (u32_c why (by omega) (by omega) w3 h3.out (by simp [be_length])).mono ?_
  rintro e w4 ⟨rfl, g4, h4, t4⟩
  have b4 := hidden (wrote_b b3.out t4 h3.out)
  rw [Int.toNat_natCast] at h4
  have h4 := hidden h4
  clear h3 b3 t4
  go_wp2_with fail
  refine (text_c ⟨#[]⟩ (by decide) w4 h4.out (by simp [be_length]; decide)).mono ?_
  rintro e w5 ⟨rfl, g5, h5, t5⟩
  have b5 := hidden (wrote_b b4.out t5 h4.out)
  have h5 := hidden h5
  clear h4 b4 t5
  go_wp2_with fail
  refine (text_c ⟨#[]⟩ (by decide) w5 h5.out (by simp [be_length, textBytes]; decide)).mono ?_
  rintro e w6 ⟨rfl, g6, h6, t6⟩
  have b6 := hidden (wrote_b b5.out t6 h5.out)
  have h6 := hidden h6
  clear h5 b5 t6
  go_wp2_with fail
  refine (done_c w6 h6.out (by simp [be_length, textBytes])).mono ?_
  rintro e w7 ⟨v7, rfl, h7, b7⟩
  have G := hidden (gave_of b6.out h7 b7 HE.out)
  clear h6 b6 h7 b7 HE
  go_wp2_with fail
  go_ret
  exact G.out

set_option maxHeartbeats 800000 in
set_option maxRecDepth 100000 in
theorem dataOf_c (th : Nat) (ht : th ≤ 4294967295) (v : Value) (xs : List UInt8) (hx : xs.length ≤ 1000000) (w : World) (hv : BSl w v xs) : Calls Try.prog 49 #[.int .u32 th, v] w fun e w' => Gave w (datL th xs) e w' := by
  have HE := hidden (datL_eq th xs)
  generalize datL th xs = R at HE ⊢
  have HV := hidden hv
  obtain ⟨ao, cap, rfl⟩ := hv.len
  clear hv
  go_enter Try.func49, Try.ntmps49
  go_wp2_with fail
  refine (newWriter_c _).mono ?_
  rintro e w1 ⟨rfl, rfl⟩
  have h1 := hidden (WS.new w (Nat.le_refl _))
  have b1 := hidden ((Below.refl w.heap.size w).alloc (Nat.le_refl _) (.cells #[.slice none 0 0] 111))
  generalize w.alloc (.cells #[.slice none 0 0] 111) = w1 at h1 b1 ⊢
  go_wp2_with fail
  refine (byte_c 94 w1 h1.out (by simp)).mono ?_
  rintro e w2 ⟨rfl, g2, h2, t2⟩
  have b2 := hidden (wrote_b b1.out t2 h1.out)
  have h2 := hidden h2
  clear h1 b1 t2
  go_wp2_with fail
  refine (u32_c th (by omega) (by omega) w2 h2.out (by simp)).mono ?_
  rintro e w3 ⟨rfl, g3, h3, t3⟩
  have b3 := hidden (wrote_b b2.out t3 h2.out)
  rw [Int.toNat_natCast] at h3
  have h3 := hidden h3
  clear h2 b2 t3
  have q3 := run_string (HV.out.fresh b3.out)
  have HL : Hid ((⟨xs.toArray⟩ : ByteArray).size = xs.length) := hidden (size_list xs)
  have HD : Hid ((⟨xs.toArray⟩ : ByteArray).data.toList = xs) := hidden (by simp)
  generalize (⟨xs.toArray⟩ : ByteArray) = X at q3 HL HD
  generalize hn : xs.length = n at q3 hx ⊢
  have HN := hidden hn
  clear hn
  go_wp2_with fail
  refine (text_c X (by have := HL.out; have := HN.out; omega) w3 h3.out (by have := HL.out; have := HN.out; simp [be_length]; omega)).mono ?_
  rintro e w5 ⟨rfl, g5, h5, t5⟩
  have b5 := hidden (wrote_b b3.out t5 h3.out)
  rw [HD.out] at h5
  have h5 := hidden h5
  clear h3 b3 t5 q3
  go_wp2_with fail
  refine (done_c w5 h5.out (by have := HN.out; simp [be_length, textBytes]; omega)).mono ?_
  rintro e w7 ⟨v7, rfl, h7, b7⟩
  have G := hidden (gave_of b5.out h7 b7 HE.out)
  clear h5 b5 h7 b7 HE
  go_wp2_with fail
  go_ret
  exact G.out

set_option maxHeartbeats 400000 in
theorem isWhole_c (w : World) {a : Nat} {g : Option Nat} {bs : List UInt8} {p : Nat} {why : Int} (h : WR w a g bs p why) :
    Calls Try.prog 68 #[.pointer (some ⟨a, 0, none⟩)] w fun e w' => e = .returned (.bool (wholeB bs p why)) ∧ Keeps (fun _ => False) w w' := by
  have HN := hidden (end_r w h)
  unfold wholeB
  generalize ends bs p why = r at *
  clear h
  go_enter Try.func68, Try.ntmps68
  go_wp2_with fail
  refine HN.out.mono ?_
  rintro e w1 ⟨rfl, ht⟩
  go_wp2
  go_ret
  exact ⟨rfl, ht⟩

/-- While readLogin reads: the Reader, the answer's place, and the login that is filled. -/
structure RL (t : TypeId) (z0 z1 z2 z3 : Value) (W w : World) (a : Nat) (g : Option Nat) (bs : List UInt8) (p : Nat) (why : Int) (c0 c1 c2 c3 : Value) : Prop where
  st : WR w a g bs p why
  zero : w.heap[W.heap.size]? = some (.cells #[z0, z1, z2, z3] t (0, 0))
  mine : w.heap[W.heap.size + 1]? = some (.cells #[c0, c1, c2, c3] t (0, 0))
  keep : Keeps (fun k => k = a) W w
  lt : a < W.heap.size
  row : ∀ k, g = some k → k < W.heap.size
theorem RL.took {ty : TypeId} {z0 z1 z2 z3 : Value} {W w w1 : World} {a : Nat} {g : Option Nat} {bs : List UInt8} {p q : Nat} {why y : Int} {c0 c1 c2 c3 : Value} (h : RL ty z0 z1 z2 z3 W w a g bs p why c0 c1 c2 c3) (t : Took a g bs q y w w1) : RL ty z0 z1 z2 z3 W w1 a g bs q y c0 c1 c2 c3 :=
  ⟨t.state, (t.keeps.block _ (lt_of_block h.zero) (by have := h.lt; omega)).trans h.zero, (t.keeps.block _ (lt_of_block h.mine) (by have := h.lt; omega)).trans h.mine, h.keep.trans t.keeps, h.lt, h.row⟩
theorem RL.still {ty : TypeId} {z0 z1 z2 z3 : Value} {W w w1 : World} {a : Nat} {g : Option Nat} {bs : List UInt8} {p : Nat} {why : Int} {c0 c1 c2 c3 : Value} (h : RL ty z0 z1 z2 z3 W w a g bs p why c0 c1 c2 c3) (k : Keeps (fun _ => False) w w1) : RL ty z0 z1 z2 z3 W w1 a g bs p why c0 c1 c2 c3 :=
  h.took ⟨h.st.same k, k.mono fun _ _ h => h.elim⟩
theorem RL.set {ty : TypeId} {z0 z1 z2 z3 : Value} {W w : World} {a : Nat} {g : Option Nat} {bs : List UInt8} {p : Nat} {why : Int} {c0 c1 c2 c3 : Value} (h : RL ty z0 z1 z2 z3 W w a g bs p why c0 c1 c2 c3) {i : Nat} {u : Value} {d0 d1 d2 d3 : Value}
    (hs : (w.setCell ⟨W.heap.size + 1, i, none⟩ u).heap[W.heap.size + 1]? = some (.cells #[d0, d1, d2, d3] ty (0, 0))) : RL ty z0 z1 z2 z3 W (w.setCell ⟨W.heap.size + 1, i, none⟩ u) a g bs p why d0 d1 d2 d3 := by
  have hk : Keeps (fun k => k = W.heap.size + 1) w (w.setCell ⟨W.heap.size + 1, i, none⟩ u) := Keeps.setCell (S := fun k => k = W.heap.size + 1) (p := ⟨W.heap.size + 1, i, none⟩) (Keeps.refl _ _) (.inl rfl) _
  have hl := h.lt
  refine ⟨h.st.keep hk (by omega) (fun k e => by have := h.row k e; omega), (hk.block _ (lt_of_block h.zero) (by omega)).trans h.zero, hs, ?_, h.lt, h.row⟩
  exact h.keep.setCell (.inr (by show W.heap.size ≤ W.heap.size + 1; omega)) _
/-- While readLogin reads: the Reader, the answer's place, and the login that is filled. -/
structure RT (t : TypeId) (z0 z1 z2 : Value) (W w : World) (a : Nat) (g : Option Nat) (bs : List UInt8) (p : Nat) (why : Int) (c0 c1 c2 : Value) : Prop where
  st : WR w a g bs p why
  zero : w.heap[W.heap.size]? = some (.cells #[z0, z1, z2] t (0, 0))
  mine : w.heap[W.heap.size + 1]? = some (.cells #[c0, c1, c2] t (0, 0))
  keep : Keeps (fun k => k = a) W w
  lt : a < W.heap.size
  row : ∀ k, g = some k → k < W.heap.size
theorem RT.took {ty : TypeId} {z0 z1 z2 : Value} {W w w1 : World} {a : Nat} {g : Option Nat} {bs : List UInt8} {p q : Nat} {why y : Int} {c0 c1 c2 : Value} (h : RT ty z0 z1 z2 W w a g bs p why c0 c1 c2) (t : Took a g bs q y w w1) : RT ty z0 z1 z2 W w1 a g bs q y c0 c1 c2 :=
  ⟨t.state, (t.keeps.block _ (lt_of_block h.zero) (by have := h.lt; omega)).trans h.zero, (t.keeps.block _ (lt_of_block h.mine) (by have := h.lt; omega)).trans h.mine, h.keep.trans t.keeps, h.lt, h.row⟩
theorem RT.still {ty : TypeId} {z0 z1 z2 : Value} {W w w1 : World} {a : Nat} {g : Option Nat} {bs : List UInt8} {p : Nat} {why : Int} {c0 c1 c2 : Value} (h : RT ty z0 z1 z2 W w a g bs p why c0 c1 c2) (k : Keeps (fun _ => False) w w1) : RT ty z0 z1 z2 W w1 a g bs p why c0 c1 c2 :=
  h.took ⟨h.st.same k, k.mono fun _ _ h => h.elim⟩
theorem RT.set {ty : TypeId} {z0 z1 z2 : Value} {W w : World} {a : Nat} {g : Option Nat} {bs : List UInt8} {p : Nat} {why : Int} {c0 c1 c2 : Value} (h : RT ty z0 z1 z2 W w a g bs p why c0 c1 c2) {i : Nat} {u : Value} {d0 d1 d2 : Value}
    (hs : (w.setCell ⟨W.heap.size + 1, i, none⟩ u).heap[W.heap.size + 1]? = some (.cells #[d0, d1, d2] ty (0, 0))) : RT ty z0 z1 z2 W (w.setCell ⟨W.heap.size + 1, i, none⟩ u) a g bs p why d0 d1 d2 := by
  have hk : Keeps (fun k => k = W.heap.size + 1) w (w.setCell ⟨W.heap.size + 1, i, none⟩ u) := Keeps.setCell (S := fun k => k = W.heap.size + 1) (p := ⟨W.heap.size + 1, i, none⟩) (Keeps.refl _ _) (.inl rfl) _
  have hl := h.lt
  refine ⟨h.st.keep hk (by omega) (fun k e => by have := h.row k e; omega), (hk.block _ (lt_of_block h.zero) (by omega)).trans h.zero, hs, ?_, h.lt, h.row⟩
  exact h.keep.setCell (.inr (by show W.heap.size ≤ W.heap.size + 1; omega)) _
theorem set3i {w : World} {a : Nat} {t : TypeId} {v0 v1 v2 : Value} (h : w.heap[a]? = some (.cells #[v0, v1, v2] t (0, 0))) (u : Value) :
    (w.setCell ⟨a, 0, none⟩ u).heap[a]? = some (.cells #[u, v1, v2] t (0, 0)) ∧ (w.setCell ⟨a, 1, none⟩ u).heap[a]? = some (.cells #[v0, u, v2] t (0, 0)) ∧ (w.setCell ⟨a, 2, none⟩ u).heap[a]? = some (.cells #[v0, v1, u] t (0, 0)) := by
  refine ⟨?_, ?_, ?_⟩ <;> (simp only [World.setCell, Array.getElem?_modify, if_true, h]; simp)
theorem cells3i {w : World} {a : Nat} {t : TypeId} {v0 v1 v2 : Value} (h : w.heap[a]? = some (.cells #[v0, v1, v2] t (0, 0))) :
    w.cell? ⟨a, 0, none⟩ = some v0 ∧ w.cell? ⟨a, 1, none⟩ = some v1 ∧ w.cell? ⟨a, 2, none⟩ = some v2 ∧ ∀ j, w.frozen? ⟨a, j, none⟩ = false := by
  refine ⟨?_, ?_, ?_, fun j => by simp [World.frozen?, h]⟩ <;> simp [World.cell?, h]

set_option maxHeartbeats 1600000 in
set_option maxRecDepth 100000 in
theorem readOpening_c (w : World) {a : Nat} {g : Option Nat} {bs : List UInt8} {p : Nat} {why : Int} (h : WR w a g bs p why) (hne : bs ≠ []) :
    Calls Try.prog 51 #[.pointer (some ⟨a, 0, none⟩)] w fun e w' => e = .returned (.tuple #[.agg #[.string (strB (tx bs p why 64).1), .int .u32 (val (opA bs p why).1), .int .u32 (val (opB bs p why).1), .int .u32 (val (opC bs p why).1)], .bool (decide ((opC bs p why).2.2 = 0))]) ∧ Keeps (fun k => k = a) w w' := by
  have HL0 : Hid (RL 101 (.string ⟨#[]⟩) (.int .u32 0) (.int .u32 0) (.int .u32 0) w ((w.alloc (.cells #[.string ⟨#[]⟩, .int .u32 0, .int .u32 0, .int .u32 0] 101)).alloc (.cells #[.string ⟨#[]⟩, .int .u32 0, .int .u32 0, .int .u32 0] 101)) a g bs p why (.string ⟨#[]⟩) (.int .u32 0) (.int .u32 0) (.int .u32 0)) := by
    have hk : Keeps (fun _ => False) w ((w.alloc (.cells #[.string ⟨#[]⟩, .int .u32 0, .int .u32 0, .int .u32 0] 101)).alloc (.cells #[.string ⟨#[]⟩, .int .u32 0, .int .u32 0, .int .u32 0] 101)) := ((Keeps.refl _ _).alloc _).alloc _
    refine ⟨h.same hk, (Below.heap_alloc _ _ _ (by simp)).trans (heap_alloc_new w _), ?_, hk.mono (fun _ _ h => h.elim), h.lt, h.rowLt hne⟩
    have := heap_alloc_new (w.alloc (.cells #[.string ⟨#[]⟩, .int .u32 0, .int .u32 0, .int .u32 0] 101)) (.cells #[.string ⟨#[]⟩, .int .u32 0, .int .u32 0, .int .u32 0] 101)
    simpa using this
  obtain ⟨r1, e1⟩ : ∃ r, r = tx bs p why 64 := ⟨_, rfl⟩
  obtain ⟨r2, e2⟩ : ∃ r, r = tk bs r1.2.1 r1.2.2 4 := ⟨_, rfl⟩
  obtain ⟨r3, e3⟩ : ∃ r, r = tk bs r2.2.1 r2.2.2 4 := ⟨_, rfl⟩
  obtain ⟨r4, e4⟩ : ∃ r, r = tk bs r3.2.1 r3.2.2 4 := ⟨_, rfl⟩
  have q2 : opA bs p why = r2 := by rw [e2, e1]; rfl
  have q3 : opB bs p why = r3 := by rw [e3, ← q2]; rfl
  have q4 : opC bs p why = r4 := by rw [e4, ← q3]; rfl
  obtain ⟨r5, e5⟩ : ∃ r, r = tk bs r4.2.1 r4.2.2 (lft bs r4.2.1 r4.2.2) := ⟨_, rfl⟩
  have q5 : decide ((opC bs p why).2.2 = 0) = wholeB bs r5.2.1 r5.2.2 := by rw [e5, whole_rest, ← q4]
  rw [q5, q4, q3, q2, ← e1]
  obtain ⟨d, hd⟩ : ∃ d, d = wholeB bs r5.2.1 r5.2.2 := ⟨_, rfl⟩
  obtain ⟨x2, hx2⟩ : ∃ x, x = val r2.1 := ⟨_, rfl⟩
  obtain ⟨x3, hx3⟩ : ∃ x, x = val r3.1 := ⟨_, rfl⟩
  obtain ⟨x4, hx4⟩ : ∃ x, x = val r4.1 := ⟨_, rfl⟩
  rw [← hd, ← hx2, ← hx3, ← hx4]
  have E1 := hidden e1
  have E2 := hidden e2
  have E3 := hidden e3
  have E4 := hidden e4
  have E5 := hidden e5
  have ED := hidden hd
  have X2 := hidden hx2
  have X3 := hidden hx3
  have X4 := hidden hx4
  clear e1 e2 e3 e4 e5 q2 q3 q4 q5 hd h hx2 hx3 hx4
  unfold strB
  go_enter Try.func51, Try.ntmps51
  go_wp2_with fail
  generalize ((w.alloc (.cells #[.string ⟨#[]⟩, .int .u32 0, .int .u32 0, .int .u32 0] 101)).alloc (.cells #[.string ⟨#[]⟩, .int .u32 0, .int .u32 0, .int .u32 0] 101)) = w0 at HL0 ⊢
  refine (textS_r 64 (by omega) (by omega) w0 HL0.out.st).mono ?_
  rintro e w1 ⟨rfl, ht⟩
  rw [← E1.out] at ht ⊢
  have HL1 := hidden (HL0.out.took ht)
  clear ht HL0
  obtain ⟨k0, k1, k2, k3, kf⟩ := cells4 HL1.out.mine
  go_wp2_with fail
  have HL2 := hidden (HL1.out.set (set4 HL1.out.mine (.string ⟨r1.1.toArray⟩)).1)
  clear k0 k1 k2 k3 kf HL1
  generalize w1.setCell _ _ = w2 at HL2 ⊢
  refine (u32_r w2 HL2.out.st).mono ?_
  rintro e w3 ⟨rfl, ht⟩
  rw [← E2.out] at ht ⊢
  rw [← X2.out]
  have HL3 := hidden (HL2.out.took ht)
  clear ht HL2
  obtain ⟨k0, k1, k2, k3, kf⟩ := cells4 HL3.out.mine
  go_wp2_with fail
  have HL4 := hidden (HL3.out.set (set4 HL3.out.mine (.int .u32 (x2 : Int))).2.1)
  clear k0 k1 k2 k3 kf HL3
  generalize w3.setCell _ _ = w4 at HL4 ⊢
  refine (u32_r w4 HL4.out.st).mono ?_
  rintro e w5 ⟨rfl, ht⟩
  rw [← E3.out] at ht ⊢
  rw [← X3.out]
  have HL5 := hidden (HL4.out.took ht)
  clear ht HL4
  obtain ⟨k0, k1, k2, k3, kf⟩ := cells4 HL5.out.mine
  go_wp2_with fail
  have HL6 := hidden (HL5.out.set (set4 HL5.out.mine (.int .u32 (x3 : Int))).2.2.1)
  clear k0 k1 k2 k3 kf HL5
  generalize w5.setCell _ _ = w6 at HL6 ⊢
  refine (u32_r w6 HL6.out.st).mono ?_
  rintro e w7 ⟨rfl, ht⟩
  rw [← E4.out] at ht ⊢
  rw [← X4.out]
  have HL7 := hidden (HL6.out.took ht)
  clear ht HL6
  obtain ⟨k0, k1, k2, k3, kf⟩ := cells4 HL7.out.mine
  go_wp2_with fail
  have HL8 := hidden (HL7.out.set (set4 HL7.out.mine (.int .u32 (x4 : Int))).2.2.2)
  clear k0 k1 k2 k3 kf HL7
  generalize w7.setCell _ _ = w8 at HL8 ⊢
  refine (rest_r w8 HL8.out.st).mono ?_
  rintro e w9 ⟨v9, rfl, hb9, ho9, ht⟩
  rw [← E5.out] at ht
  have HL9 := hidden (HL8.out.took ht)
  obtain ⟨ao9, cp9, e9⟩ := hb9.len
  subst e9
  clear ho9 ht HL8 hb9
  obtain ⟨k0, k1, k2, k3, kf⟩ := cells4 HL9.out.mine
  obtain ⟨z0, z1, z2, z3, zf⟩ := cells4 HL9.out.zero
  have HW : Hid (∀ wx, Keeps (fun _ => False) w9 wx → Calls Try.prog 68 #[.pointer (some ⟨a, 0, none⟩)] wx fun e w' => e = .returned (.bool d) ∧ RL 101 (.string ⟨#[]⟩) (.int .u32 0) (.int .u32 0) (.int .u32 0) w w' a g bs r5.2.1 r5.2.2 (.string ⟨r1.1.toArray⟩) (.int .u32 (x2 : Int)) (.int .u32 (x3 : Int)) (.int .u32 (x4 : Int))) := by
    refine hidden fun wx hx => ?_
    have h9 := HL9.out.still hx
    refine (isWhole_c wx h9.st).mono ?_
    rintro e wy ⟨rfl, hk⟩
    exact ⟨by rw [ED.out], h9.still hk⟩
  go_wp2_with fail
  go_region_with (go_at_call 68; refine (HW.out _ (by first | exact Keeps.refl _ _ | exact (Keeps.refl _ _).drew)).mono ?_; rintro e wA ⟨rfl, hlA⟩; have HLA := hidden hlA; clear hlA k0 k1 k2 k3 kf z0 z1 z2 z3 zf; obtain ⟨k0, k1, k2, k3, kf⟩ := cells4 HLA.out.mine; obtain ⟨z0, z1, z2, z3, zf⟩ := cells4 HLA.out.zero)
  all_goals
    have hz := (set4 (set4 (set4 (set4 HLA.out.zero (.string ⟨r1.1.toArray⟩)).1 (.int .u32 (x2 : Int))).2.1 (.int .u32 (x3 : Int))).2.2.1 (.int .u32 (x4 : Int))).2.2.2
    have hk : Keeps (fun k => k = w.heap.size) wA ((((wA.setCell ⟨w.heap.size, 0, none⟩ (.string ⟨r1.1.toArray⟩)).setCell ⟨w.heap.size, 1, none⟩ (.int .u32 (x2 : Int))).setCell ⟨w.heap.size, 2, none⟩ (.int .u32 (x3 : Int))).setCell ⟨w.heap.size, 3, none⟩ (.int .u32 (x4 : Int))) :=
      Keeps.setCell (S := fun k => k = w.heap.size) (p := ⟨w.heap.size, 3, none⟩) (Keeps.setCell (S := fun k => k = w.heap.size) (p := ⟨w.heap.size, 2, none⟩) (Keeps.setCell (S := fun k => k = w.heap.size) (p := ⟨w.heap.size, 1, none⟩) (Keeps.setCell (S := fun k => k = w.heap.size) (p := ⟨w.heap.size, 0, none⟩) (Keeps.refl _ _) (.inl rfl) _) (.inl rfl) _) (.inl rfl) _) (.inl rfl) _
    have HKA : Hid (Keeps (fun k => k = a) w ((((wA.setCell ⟨w.heap.size, 0, none⟩ (.string ⟨r1.1.toArray⟩)).setCell ⟨w.heap.size, 1, none⟩ (.int .u32 (x2 : Int))).setCell ⟨w.heap.size, 2, none⟩ (.int .u32 (x3 : Int))).setCell ⟨w.heap.size, 3, none⟩ (.int .u32 (x4 : Int)))) :=
      hidden ⟨hk.os.trans HLA.out.keep.os, hk.tape.trans HLA.out.keep.tape, hk.output.trans HLA.out.keep.output, Nat.le_trans HLA.out.keep.size hk.size, fun k h1 h2 => (hk.block k (Nat.lt_of_lt_of_le h1 HLA.out.keep.size) (by omega)).trans (HLA.out.keep.block k h1 h2)⟩
    clear hk HLA k0 k1 k2 k3 kf z0 z1 z2 z3 zf HW HL9
    generalize ((((wA.setCell ⟨w.heap.size, 0, none⟩ (.string ⟨r1.1.toArray⟩)).setCell ⟨w.heap.size, 1, none⟩ (.int .u32 (x2 : Int))).setCell ⟨w.heap.size, 2, none⟩ (.int .u32 (x3 : Int))).setCell ⟨w.heap.size, 3, none⟩ (.int .u32 (x4 : Int))) = wB at hz HKA ⊢
    obtain ⟨y0, y1, y2, y3, yf⟩ := cells4 hz
    clear hz
    go_wp2
    refine bodyPost_ret (v := .tuple #[.agg #[.string ⟨r1.1.toArray⟩, .int .u32 (x2 : Int), .int .u32 (x3 : Int), .int .u32 (x4 : Int)], .bool d]) (by simp [results, Try.results51, go_sem, y0, y1, y2, y3]) rfl ⟨rfl, HKA.out⟩

set_option maxHeartbeats 1600000 in
set_option maxRecDepth 100000 in
theorem readRequest_c (w : World) {a : Nat} {g : Option Nat} {bs : List UInt8} {p : Nat} {why : Int} (h : WR w a g bs p why) (hne : bs ≠ []) :
    Calls Try.prog 72 #[.pointer (some ⟨a, 0, none⟩)] w fun e w' => ∃ v, e = .returned (.tuple #[.agg #[.string (strB (tx bs p why 64).1), .bool (wantB bs p why), v], .bool (decide ((rqW bs p why).2.2 = 0))]) ∧ BSl w' v (rqRest bs p why) ∧ (∀ k, v.ownBlock = some k → w.heap.size ≤ k) ∧ Keeps (fun k => k = a) w w' := by
  have HL0 : Hid (RT 120 (.string ⟨#[]⟩) (.bool false) (.slice none 0 0) w ((w.alloc (.cells #[.string ⟨#[]⟩, .bool false, .slice none 0 0] 120)).alloc (.cells #[.string ⟨#[]⟩, .bool false, .slice none 0 0] 120)) a g bs p why (.string ⟨#[]⟩) (.bool false) (.slice none 0 0)) := by
    have hk : Keeps (fun _ => False) w ((w.alloc (.cells #[.string ⟨#[]⟩, .bool false, .slice none 0 0] 120)).alloc (.cells #[.string ⟨#[]⟩, .bool false, .slice none 0 0] 120)) := ((Keeps.refl _ _).alloc _).alloc _
    refine ⟨h.same hk, (Below.heap_alloc _ _ _ (by simp)).trans (heap_alloc_new w _), ?_, hk.mono (fun _ _ h => h.elim), h.lt, h.rowLt hne⟩
    have := heap_alloc_new (w.alloc (.cells #[.string ⟨#[]⟩, .bool false, .slice none 0 0] 120)) (.cells #[.string ⟨#[]⟩, .bool false, .slice none 0 0] 120)
    simpa using this
  obtain ⟨r1, e1⟩ : ∃ r, r = tx bs p why 64 := ⟨_, rfl⟩
  obtain ⟨r2, e2⟩ : ∃ r, r = tk bs r1.2.1 r1.2.2 1 := ⟨_, rfl⟩
  have q2 : rqW bs p why = r2 := by rw [e2, e1]; rfl
  obtain ⟨r4, e4⟩ : ∃ r, r = tk bs r2.2.1 r2.2.2 (lft bs r2.2.1 r2.2.2) := ⟨_, rfl⟩
  have q4 : rqRest bs p why = r4.1 := by unfold rqRest; rw [e4, tk_rest, ← q2]
  have q5 : decide ((rqW bs p why).2.2 = 0) = wholeB bs r4.2.1 r4.2.2 := by rw [e4, whole_rest, ← q2]
  have q6 : wantB bs p why = (((val r2.1 : Nat) : Int) != 0) := by unfold wantB; rw [q2]
  rw [q6, q5, q4, ← e1]
  obtain ⟨d, hd⟩ : ∃ d, d = wholeB bs r4.2.1 r4.2.2 := ⟨_, rfl⟩
  obtain ⟨wa, hwa⟩ : ∃ d, d = (((val r2.1 : Nat) : Int) != 0) := ⟨_, rfl⟩
  rw [← hd, ← hwa]
  have E1 := hidden e1
  have E2 := hidden e2
  have E4 := hidden e4
  have ED := hidden hd
  have EW := hidden hwa
  clear e1 e2 e4 q2 q4 q5 q6 hd hwa h
  unfold strB
  go_enter Try.func72, Try.ntmps72
  go_wp2_with fail
  generalize ((w.alloc (.cells #[.string ⟨#[]⟩, .bool false, .slice none 0 0] 120)).alloc (.cells #[.string ⟨#[]⟩, .bool false, .slice none 0 0] 120)) = w0 at HL0 ⊢
  refine (textS_r 64 (by omega) (by omega) w0 HL0.out.st).mono ?_
  rintro e w1 ⟨rfl, ht⟩
  rw [← E1.out] at ht ⊢
  have HL1 := hidden (HL0.out.took ht)
  clear ht HL0
  obtain ⟨k0, k1, k2, kf⟩ := cells3i HL1.out.mine
  go_wp2_with fail
  have HL2 := hidden (HL1.out.set (set3i HL1.out.mine (.string ⟨r1.1.toArray⟩)).1)
  clear k0 k1 k2 kf HL1
  generalize w1.setCell _ _ = w2 at HL2 ⊢
  refine (bool_r w2 HL2.out.st).mono ?_
  rintro e w3 ⟨rfl, ht⟩
  rw [← E2.out] at ht ⊢
  rw [← EW.out]
  have HL3 := hidden (HL2.out.took ht)
  clear ht HL2
  obtain ⟨k0, k1, k2, kf⟩ := cells3i HL3.out.mine
  go_wp2_with fail
  have HL4 := hidden (HL3.out.set (set3i HL3.out.mine (.bool wa)).2.1)
  clear k0 k1 k2 kf HL3
  generalize w3.setCell _ _ = w6 at HL4 ⊢
  refine (rest_r w6 HL4.out.st).mono ?_
  rintro e w7 ⟨v7, rfl, hb7, ho7, ht⟩
  rw [← E4.out] at ht hb7
  have HL7 := hidden (HL4.out.took ht)
  have ho7' : Hid (∀ k, v7.ownBlock = some k → w.heap.size + 1 < k) := by
    have := lt_of_block HL4.out.mine
    exact hidden fun k hk => by have := ho7 k hk; omega
  clear ho7 ht HL4
  have HB7 := hidden hb7
  obtain ⟨ao7, cp7, rfl⟩ := hb7.len
  clear hb7
  obtain ⟨k0, k1, k2, kf⟩ := cells3i HL7.out.mine
  generalize r4.1.length = n7 at *
  go_wp2_with fail
  have HL8 := hidden (HL7.out.set (set3i HL7.out.mine (.slice ao7 n7 cp7)).2.2)
  have HB8 : Hid (BSl (w7.setCell ⟨w.heap.size + 1, 2, none⟩ (.slice ao7 n7 cp7)) (.slice ao7 n7 cp7) r4.1) :=
    hidden (HB7.out.keep (S := fun k => k = w.heap.size + 1) (Keeps.setCell (S := fun k => k = w.heap.size + 1) (p := ⟨w.heap.size + 1, 2, none⟩) (Keeps.refl _ _) (.inl rfl) _) (fun k hk e => by have := ho7'.out k hk; omega))
  clear k0 k1 k2 kf HL7 HB7
  generalize w7.setCell ⟨w.heap.size + 1, 2, none⟩ (.slice ao7 n7 cp7) = w8 at HL8 HB8 ⊢
  obtain ⟨k0, k1, k2, kf⟩ := cells3i HL8.out.mine
  obtain ⟨z0, z1, z2, zf⟩ := cells3i HL8.out.zero
  have HW : Hid (∀ wx, Keeps (fun _ => False) w8 wx → Calls Try.prog 68 #[.pointer (some ⟨a, 0, none⟩)] wx fun e w' => e = .returned (.bool d) ∧ RT 120 (.string ⟨#[]⟩) (.bool false) (.slice none 0 0) w w' a g bs r4.2.1 r4.2.2 (.string ⟨r1.1.toArray⟩) (.bool wa) (.slice ao7 n7 cp7) ∧ BSl w' (.slice ao7 n7 cp7) r4.1) := by
    refine hidden fun wx hx => ?_
    have h9 := HL8.out.still hx
    refine (isWhole_c wx h9.st).mono ?_
    rintro e w9 ⟨rfl, hk⟩
    exact ⟨by rw [ED.out], h9.still hk, HB8.out.keep (hx.trans hk) (fun _ _ h => h)⟩
  go_region_with (go_at_call 68; refine (HW.out _ (by first | exact Keeps.refl _ _ | exact (Keeps.refl _ _).drew)).mono ?_; rintro e w9 ⟨rfl, hl9, hb9⟩; have HL9 := hidden hl9; have HB9 := hidden hb9; clear hl9 hb9 k0 k1 k2 kf z0 z1 z2 zf; obtain ⟨k0, k1, k2, kf⟩ := cells3i HL9.out.mine; obtain ⟨z0, z1, z2, zf⟩ := cells3i HL9.out.zero)
  all_goals
    have hz := (set3i (set3i (set3i HL9.out.zero (.string ⟨r1.1.toArray⟩)).1 (.bool wa)).2.1 (.slice ao7 n7 cp7)).2.2
    have hk : Keeps (fun k => k = w.heap.size) w9 (((w9.setCell ⟨w.heap.size, 0, none⟩ (.string ⟨r1.1.toArray⟩)).setCell ⟨w.heap.size, 1, none⟩ (.bool wa)).setCell ⟨w.heap.size, 2, none⟩ (.slice ao7 n7 cp7)) :=
      Keeps.setCell (S := fun k => k = w.heap.size) (p := ⟨w.heap.size, 2, none⟩) (Keeps.setCell (S := fun k => k = w.heap.size) (p := ⟨w.heap.size, 1, none⟩) (Keeps.setCell (S := fun k => k = w.heap.size) (p := ⟨w.heap.size, 0, none⟩) (Keeps.refl _ _) (.inl rfl) _) (.inl rfl) _) (.inl rfl) _
    have HB10 := hidden (HB9.out.keep hk (fun k e h => by have := ho7'.out k e; omega))
    have HK10 : Hid (Keeps (fun k => k = a) w (((w9.setCell ⟨w.heap.size, 0, none⟩ (.string ⟨r1.1.toArray⟩)).setCell ⟨w.heap.size, 1, none⟩ (.bool wa)).setCell ⟨w.heap.size, 2, none⟩ (.slice ao7 n7 cp7))) :=
      hidden ⟨hk.os.trans HL9.out.keep.os, hk.tape.trans HL9.out.keep.tape, hk.output.trans HL9.out.keep.output, Nat.le_trans HL9.out.keep.size hk.size, fun k h1 h2 => (hk.block k (Nat.lt_of_lt_of_le h1 HL9.out.keep.size) (by omega)).trans (HL9.out.keep.block k h1 h2)⟩
    clear hk HL9 HB9 k0 k1 k2 kf z0 z1 z2 zf HW HL8 HB8
    generalize (((w9.setCell ⟨w.heap.size, 0, none⟩ (.string ⟨r1.1.toArray⟩)).setCell ⟨w.heap.size, 1, none⟩ (.bool wa)).setCell ⟨w.heap.size, 2, none⟩ (.slice ao7 n7 cp7)) = w10 at hz HB10 HK10 ⊢
    obtain ⟨y0, y1, y2, yf⟩ := cells3i hz
    clear hz
    go_wp2
    refine bodyPost_ret (v := .tuple #[.agg #[.string ⟨r1.1.toArray⟩, .bool wa, .slice ao7 n7 cp7], .bool d]) (by simp [results, Try.results72, go_sem, y0, y1, y2]) rfl ⟨_, rfl, HB10.out, fun k hk => by have := ho7'.out k hk; omega, HK10.out⟩

set_option maxHeartbeats 800000 in
theorem isFiles_c (v : Value) (rest : List UInt8) (w : World) (hv : BSl w v rest) (hl : rest.length ≤ 1000000) :
    Calls Try.prog 73 #[v] w fun e w' => e = .returned (.bool (filesB rest)) ∧ Below w.heap.size w w' := by
  have HR := hidden (newReader_c v rest w hv (by omega))
  obtain ⟨R, hR⟩ : ∃ R, R = filesB rest := ⟨_, rfl⟩
  rw [← hR]
  have HRR := hidden hR
  clear hR
  obtain ⟨ao, cap, rfl⟩ := hv.len
  clear hv
  go_enter Try.func73, Try.ntmps73
  go_wp2_with fail
  refine HR.out.mono ?_
  rintro e w1 ⟨a, g, rfl, hs, ha, hg, hb⟩
  have HB := hidden hb
  have HS := hidden hs
  have HA := hidden ha
  clear hb hs ha hg HR
  have HN := hidden (textS_r 4 (by omega) (by omega) w1 HS.out)
  obtain ⟨T, hT⟩ : ∃ T, T = tx rest 0 0 4 := ⟨_, rfl⟩
  rw [← hT] at HN
  have HTE := hidden hT
  clear hT
  obtain ⟨X, hX⟩ : ∃ X : ByteArray, X = ⟨T.1.toArray⟩ := ⟨_, rfl⟩
  rw [← hX] at HN
  have HXE := hidden hX
  clear hX
  go_wp2_with fail
  refine HN.out.mono ?_
  rintro e w3 ⟨rfl, ht⟩
  have HT2 := hidden ht
  clear ht HN
  have HW := hidden (isWhole_c w3 HT2.out.state)
  obtain ⟨d, hd⟩ : ∃ d, d = wholeB rest T.2.1 T.2.2 := ⟨_, rfl⟩
  rw [← hd] at HW
  have HDE := hidden hd
  clear hd
  obtain ⟨c, hc⟩ : ∃ c, c = decide (X = strB sftpB) := ⟨_, rfl⟩
  have hst : (X.toList == [115, 102, 116, 112]) = c := by rw [str_lit, hc]; rfl
  have HE : Hid (R = (d && c)) := by
    show _ = _
    rw [HRR.out, HDE.out, hc, HXE.out, HTE.out]
    rfl
  clear hc
  go_wp2_with fail
  refine HW.out.mono ?_
  rintro e w4 ⟨rfl, hk⟩
  have HB4 : Hid (Below w.heap.size w w4) := by
    exact hidden ((HB.out.trans (Keeps.below HT2.out.keeps HB.out.size (fun k e => by rw [e]; exact HA.out))).trans (Keeps.below hk (Nat.le_trans HB.out.size HT2.out.keeps.size) (fun _ h => h.elim)))
  clear hk HW HT2 HB HA HS
  cases d
  · go_wp2_with fail
    go_ret
    exact ⟨by rw [HE.out]; rfl, HB4.out⟩
  · go_wp2_with fail
    go_ret
    exact ⟨by rw [HE.out]; rfl, HB4.out⟩

end Go.Proofs.Ytnimdbjbkoggdaa
