/- What the law's u32 answers; what single operations of its payload give. -/
import Derived.Test.YtnimdbjbkoggdaaCnL
import Derived.Great.BuildSlice
namespace Go.Proofs.Ytnimdbjbkoggdaa
open Go Go.RowKit

def u32n (x : Int) : Nat := (x % 4294967296).toNat
theorem u32n_lt (x : Int) : u32n x ≤ 4294967295 := by unfold u32n; omega
theorem u32n_cast (x : Int) : ((u32n x : Nat) : Int) = x % 4294967296 := by unfold u32n; omega
theorem wrap_u (x : Int) : IntKind.u32.wrap x = ((u32n x : Nat) : Int) := by
  rw [u32n_cast]
  rfl

set_option maxHeartbeats 800000 in
set_option maxRecDepth 100000 in
theorem lu32_c (v u : Value) (xs : List UInt8) (ns : List Nat) (w : World) (hv : BSl w v xs) (hu : NSl w u ns) (hn : ∀ j (hj : j < ns.length), ns[j] ≤ 4294967295) (h0 : 0 < ns.length) (hl : ns.length ≤ 10) (hx : xs.length ≤ 100000) :
    Calls Try.prog 9 #[v, u] w fun e w' => Fresh w (xs ++ numsL ns) e w' := by
  obtain ⟨b, rfl, _⟩ := id hu
  have HU := hidden hu
  have HN := hidden hn
  have HV := hidden hv
  clear hu hn
  obtain ⟨R, hR⟩ : ∃ R, R = xs ++ numsL ns := ⟨_, rfl⟩
  rw [← hR]
  have HR := hidden hR
  clear hR
  go_enter Try.func9, Try.ntmps9
  go_wp2_with fail
  go_loopw [0, 5] (fun vb t wr => ∃ (j : Nat), j ≤ ns.length ∧ t = .int .i64 (j : Int) ∧ BSl wr vb (xs ++ numsL (ns.take j)) ∧ (0 < j → wr.ownsRow w.heap.size 5 1 vb (xs ++ numsL (ns.take j)).length (bcells (xs ++ numsL (ns.take j)))) ∧ Below w.heap.size w wr) (fun _ t _ => ns.length - (intOf t).toNat)
  case atStart => exact ⟨0, by omega, rfl, by simpa [numsL] using HV.out, fun h => absurd h (by omega), Below.refl _ _⟩
  case round =>
    obtain ⟨j, hj, rfl, hb, ho, hbl⟩ := hrel
    have HB := hidden hb
    have HO := hidden ho
    have HBL := hidden hbl
    obtain ⟨ba, bc, rfl⟩ := hb.len
    clear hb ho hbl
    by_cases hlt : j < ns.length
    · have i1 : (j : Int) < (ns.length : Int) := by omega
      have k1 := (HU.out.fresh HBL.out).cell j hlt
      have hn := HN.out j hlt
      have HE : Hid ((xs ++ numsL (ns.take j)) ++ be 4 ns[j] = xs ++ numsL (ns.take (j + 1))) := hidden (by rw [List.take_succ_eq_append_getElem hlt, numsL_app, List.append_assoc]; simp only [numsL, List.append_nil])
      have HZ : Hid ((xs ++ numsL (ns.take j)).length ≤ 100100) := hidden (by rw [List.length_append, numsL_len, List.length_take]; omega)
      generalize ns[j] = n at k1 hn HE
      generalize xs ++ numsL (ns.take j) = L at *
      generalize hLl : L.length = ll at *
      have HLl := hidden hLl
      clear hLl
      go_wp2_with fail
      refine (ru32_c n (by omega) (by omega) _ L _ HB.out (by have := HZ.out; have := HLl.out; omega)).mono ?_
      rintro e w3 ⟨v3, rfl, ho3, hb3⟩
      rw [Int.toNat_natCast, HE.out] at ho3
      have HB3 := hidden (BSl.ofRow ho3)
      have HO3 := hidden (ownsRow_mono ho3 HBL.out.size)
      have HBL3 := hidden (HBL.out.trans (hb3.mono HBL.out.size))
      clear ho3 hb3 HB HO HBL k1 HE
      go_wp2_with fail
      go_roundw
      case rel => exact ⟨j + 1, by omega, by go_num, HB3.out, fun _ => HO3.out, HBL3.out⟩
      case measure => simp [intOf]; omega
    · have i1 : ¬ (j : Int) < (ns.length : Int) := by omega
      have HE : Hid (xs ++ numsL (ns.take j) = R) := hidden (by rw [List.take_of_length_le (by omega), HR.out])
      have HO2 := hidden (HO.out (by omega))
      rw [HE.out] at HO2
      rw [HE.out]
      clear HE HO HB
      go_wp2_with fail
      go_ret
      exact ⟨_, rfl, HO2.out, HBL.out⟩

def Fact.nsl (ns : List Nat) : Fact := ⟨fun v w => NSl w v ns, fun _ _ _ he h => h.fresh he⟩
section
variable {o : Oper} {ρ : Operand → Value} {w w0 : World} {x y z : Operand} {v vx vy vz : Value} {Φ : Value → World → Prop}
theorem gives_lit1B (b : UInt8) (k : Int) (hb : (b.toNat : Int) = k) (ho : o.op = .buildSlice 30 1 #[(0, .const (.int .u8 k))]) (hρ : ρ (.const (.int .u8 k)) = .int .u8 k) : Gives Try.prog o ρ w fun v w2 => Ex w w2 ∧ (Fact.bsl [b]).holds v w2 := by
  obtain ⟨i0, hi, hz0, hz1, hz2⟩ := info_parts Try.infoU8
  refine Gives.value (w' := w.alloc (.cells #[.int .u8 k] 5)) (v := .slice (some ⟨w.heap.size, 0, none⟩) 1 1) ?_ ⟨Ex.alloc w _, ?_⟩
  · unfold execOp
    simp only [ho]
    have hb := run_buildSlice (P := Try.prog) w 30 5 1 (#[((0 : Nat), Operand.const (.int .u8 k))].map fun (i, x) => (i, ρ x)) #[.int .u8 k] i0 (.int .u8 0) Try.underlying30 hi hz0 (by rw [hz1]; omega) (by rw [hz1]; omega) (by rw [hz1]; simp only [List.map_toArray, List.map_cons, List.map_nil, hρ]; kernel_rfl)
    rw [Sem.run_bind, hb]
    rfl
  · have := bsl_lit w [b] (by simp)
    rw [show bcells [b] = [.int .u8 k] by simp [bcells, hb]] at this
    exact this
theorem Try.infoU32 : (Try.prog.info? 33).map (fun i => (i.zero, i.size, i.bytes)) = some (some (.int .u32 0), 1, 4) := by kernel_rfl
theorem gives_nums1 (n : Nat) (ho : o.op = .buildSlice 68 1 #[(0, x)]) (hx : ρ x = .int .u32 (n : Int)) : Gives Try.prog o ρ w fun v w2 => Ex w w2 ∧ (Fact.nsl [n]).holds v w2 := by
  obtain ⟨i0, hi, hz0, hz1, hz2⟩ := info_parts Try.infoU32
  refine Gives.value (w' := w.alloc (.cells #[.int .u32 (n : Int)] 33)) (v := .slice (some ⟨w.heap.size, 0, none⟩) 1 1) ?_ ⟨Ex.alloc w _, nsl_lit w [n]⟩
  unfold execOp
  simp only [ho]
  have hb := run_buildSlice (P := Try.prog) w 68 33 1 (#[((0 : Nat), x)].map fun (i, x) => (i, ρ x)) #[.int .u32 (n : Int)] i0 (.int .u32 0) Try.underlying68 hi hz0 (by rw [hz1]; omega) (by rw [hz1]; omega) (by rw [hz1]; simp only [List.map_toArray, List.map_cons, List.map_nil, hx]; kernel_rfl)
  rw [Sem.run_bind, hb]
  rfl
theorem gives_nums3 (a b c : Nat) (ho : o.op = .buildSlice 68 3 #[(0, x), (1, y), (2, z)]) (hx : ρ x = .int .u32 (a : Int)) (hy : ρ y = .int .u32 (b : Int)) (hz : ρ z = .int .u32 (c : Int)) : Gives Try.prog o ρ w fun v w2 => Ex w w2 ∧ (Fact.nsl [a, b, c]).holds v w2 := by
  obtain ⟨i0, hi, hz0, hz1, hz2⟩ := info_parts Try.infoU32
  refine Gives.value (w' := w.alloc (.cells #[.int .u32 (a : Int), .int .u32 (b : Int), .int .u32 (c : Int)] 33)) (v := .slice (some ⟨w.heap.size, 0, none⟩) 3 3) ?_ ⟨Ex.alloc w _, nsl_lit w [a, b, c]⟩
  unfold execOp
  simp only [ho]
  have hb := run_buildSlice (P := Try.prog) w 68 33 3 (#[((0 : Nat), x), (1, y), (2, z)].map fun (i, x) => (i, ρ x)) #[.int .u32 (a : Int), .int .u32 (b : Int), .int .u32 (c : Int)] i0 (.int .u32 0) Try.underlying68 hi hz0 (by rw [hz1]; omega) (by rw [hz1]; omega) (by rw [hz1]; simp only [List.map_toArray, List.map_cons, List.map_nil, hx, hy, hz]; kernel_rfl)
  rw [Sem.run_bind, hb]
  rfl
theorem gives_ask {g : Nat} (f : Nat) (hf : f < 6) (ho : o.op = .fieldAddr 49 x f) (hx : ρ x = .pointer (some ⟨g, 0, none⟩)) (h : Φ (.pointer (some ⟨g, f, none⟩)) w) : Gives Try.prog o ρ w Φ := by
  refine Gives.value (w' := w) (v := .pointer (some ⟨g, f, none⟩)) ?_ h
  unfold execOp
  simp only [ho, hx]
  have e : f = 0 ∨ f = 1 ∨ f = 2 ∨ f = 3 ∨ f = 4 ∨ f = 5 := by omega
  rcases e with rfl | rfl | rfl | rfl | rfl | rfl <;> simp [Instr.fieldAt, run_underlying Try.underlying49, Instr.sureAddr, fieldPlace, Addr.add]
theorem gives_ldi {a : Addr} (ho : o.op = .load 3 x) (hx : ρ x = .pointer (some a)) (hc : w.cell? a = some v) (h : Φ v w) : Gives Try.prog o ρ w Φ := by
  refine Gives.value (w' := w) (v := v) ?_ h
  unfold execOp
  simp only [ho]
  rw [hx]
  simp [Instr.loadAt, loadVar, Instr.sureAddr, hc]
theorem gives_ldb {a : Addr} (ho : o.op = .load 30 x) (hx : ρ x = .pointer (some a)) (hc : w.cell? a = some v) (h : Φ v w) : Gives Try.prog o ρ w Φ := by
  refine Gives.value (w' := w) (v := v) ?_ h
  unfold execOp
  simp only [ho]
  rw [hx]
  simp [Instr.loadAt, loadVar, Instr.sureAddr, hc]
theorem gives_mulI {t : TypeId} {a b c : Int} (ho : o.op = .binOp .mul t x y t) (hx : ρ x = .int .i64 a) (hy : ρ y = .int .i64 b) (hr : IntKind.i64.wrap (a * b) = c) (h : Φ (.int .i64 c) w) : Gives Try.prog o ρ w Φ := by
  refine Gives.value (w' := w) (v := .int .i64 c) ?_ h
  unfold execOp
  simp only [ho, hx, hy]
  simp [eqGuard, binOp, Op.intArith, ← hr]
theorem gives_remI {t : TypeId} {a b : Int} (hb : b ≠ 0) (ho : o.op = .binOp .rem t x y t) (hx : ρ x = .int .i64 a) (hy : ρ y = .int .i64 b) (h : Φ (.int .i64 (a.tmod b)) w) : Gives Try.prog o ρ w Φ := by
  refine Gives.value (w' := w) (v := .int .i64 (a.tmod b)) ?_ h
  unfold execOp
  simp only [ho, hx, hy]
  simp [eqGuard, binOp, Op.intDiv, hb]
end
theorem conv_iu (n : Int) (w : World) : (convert 3 33 (.int .i64 n)).run Try.prog w = .ok (.int .u32 ((u32n n : Nat) : Int)) w := by
  have hk : Try.prog.intKind 33 = .u32 := by kernel_rfl
  have h1 := run_convert_int (P := Try.prog) (w := w) 3 33 .i64 n (by rw [Try.underlying3]; rfl) (by rw [hk]; exact Try.underlying33)
  rw [hk, wrap_u] at h1
  exact h1
/-- Bytes in memory from B on. -/
def Fact.low (B : Nat) (xs : List UInt8) : Fact := ⟨fun v w => BSl w v xs ∧ ∀ k, v.ownBlock = some k → B ≤ k, fun _ _ _ he h => ⟨h.1.fresh he, h.2⟩⟩
theorem told_low {B : Nat} {xs : List UInt8} {w : World} {f : FuncId} {args : Array Value} (hB : B ≤ w.heap.size) (h : Calls Try.prog f args w fun e w' => Fresh w xs e w') : Calls Try.prog f args w fun e w' => ∃ v, e = .returned v ∧ Ex w w' ∧ (Fact.low B xs).holds v w' := h.mono fun _ _ ⟨v, h1, h2, h3⟩ => ⟨v, h1, h3, BSl.ofRow h2, fun k e => Nat.le_trans hB (h2.lt k e).1⟩
end Go.Proofs.Ytnimdbjbkoggdaa
