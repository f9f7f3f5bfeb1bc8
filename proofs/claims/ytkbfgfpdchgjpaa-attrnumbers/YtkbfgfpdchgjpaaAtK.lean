/- The law's helper same: both read alike. -/
import Derived.Test.YtkbfgfpdchgjpaaAtJ
namespace Go.Proofs.Ytkbfgfpdchgjpaa
open Go Go.RowKit

theorem box_keep {S : Nat → Prop} {w w' : World} {B : Nat} {o : Obj} (h : w.heap[B]? = some o) (hk : Keeps S w w') (hn : ¬ S B) : w'.heap[B]? = some o := by
  rw [hk.block B (lt_of_block h) hn]; exact h

set_option maxHeartbeats 1600000 in
set_option maxRecDepth 100000 in
theorem same_c (v : Value) (bs : List UInt8) (w : World) (hv : BSl w v bs) (hob : ∀ k, v.ownBlock = some k → k < w.heap.size) (hl : bs.length ≤ 1000000000000) :
    Calls Try.prog 13 #[v] w fun e w' => e = .returned (.bool true) ∧ Below w.heap.size w w' := by
  obtain ⟨rz, hrz⟩ : ∃ r, r = getA bs 0 0 := ⟨_, rfl⟩
  obtain ⟨ao, cap, rfl⟩ := hv.len
  have HRZ := hidden hrz
  have HV := hidden hv
  have HOB := hidden hob
  clear hrz hv hob
  generalize hn : bs.length = n at HV HOB ⊢
  go_enter Try.func13, Try.ntmps13
  go_wp2_with fail
  refine (newReader_c _ bs w HV.out (by omega)).mono ?_
  rintro e w1 ⟨a, g, rfl, h1, ha, hg, hb1⟩
  have H1 := hidden h1
  have HB1 := hidden hb1
  have HA := hidden ha
  have hs1 := hb1.size
  have HQ : Hid (QR (w1.alloc (.cells #[.slice ao n cap, .int .i64 0, .bool false, .int .i64 0, .int .i64 0] 54)) w1.heap.size (Value.slice ao n cap).ownBlock bs 0 0) :=
    hidden ⟨_, 0, false, 0, 0, heap_alloc_new w1 _, (HV.out.fresh hb1).alloc _, rfl, fun e => by have := HOB.out _ e; omega, Nat.zero_le _, hl, .inl ⟨rfl, rfl, rfl⟩⟩
  have HR : Hid (WR (w1.alloc (.cells #[.slice ao n cap, .int .i64 0, .bool false, .int .i64 0, .int .i64 0] 54)) a g bs 0 0) := hidden (h1.same ((Keeps.refl _ _).alloc _))
  have HK1 : Hid (Keeps (fun k => w.heap.size ≤ k) w (w1.alloc (.cells #[.slice ao n cap, .int .i64 0, .bool false, .int .i64 0, .int .i64 0] 54))) := hidden ((Keeps.ofFresh hb1).alloc _)
  have HAl : Hid (a < w1.heap.size) := hidden h1.lt
  have HGa : Hid (bs ≠ [] → ∀ k, g = some k → k ≠ w1.heap.size) := hidden (h1.apartB (Nat.le_refl _))
  have HGq : Hid (∀ k, (Value.slice ao n cap).ownBlock = some k → k < w.heap.size) := HOB
  clear h1 hg hb1 ha H1 HB1 HOB HV
  go_wp2_with fail
  obtain ⟨W2, hW2⟩ : ∃ W, W = w1.alloc (.cells #[.slice ao n cap, .int .i64 0, .bool false, .int .i64 0, .int .i64 0] 54) := ⟨_, rfl⟩
  rw [← hW2] at HQ HR HK1 ⊢
  obtain ⟨c, hc⟩ : ∃ c, c = w1.heap.size := ⟨_, rfl⟩
  rw [← hc] at HQ HAl HGa ⊢
  have HC : Hid (w.heap.size ≤ c) := hidden (by omega)
  clear hW2 hs1 hc
  refine (get_c W2 HR.out).mono ?_
  rintro e w3 ⟨rfl, ht3⟩
  rw [← HRZ.out] at ht3 ⊢
  have HT3 := hidden ht3
  have HQ3 : Hid (QR w3 c (Value.slice ao n cap).ownBlock bs 0 0) := hidden (HQ.out.keep ht3.keeps (by have := HAl.out; omega) (fun k e hk => by have := HGq.out k e; have := HA.out; omega))
  have hlt3 : c < w3.heap.size := HQ3.out.lt
  have hlta : a < w3.heap.size := ht3.state.lt
  have HK3 : Hid (Keeps (fun k => w.heap.size ≤ k) w w3) := hidden (HK1.out.trans (ht3.keeps.mono fun k _ e => by have := HA.out; omega))
  have hs3 := HK3.out.size
  clear ht3 HQ HR HK1
  unfold At.v At.cells
  go_wp2_with fail
  obtain ⟨W4, hW4⟩ : ∃ W, W = w3.alloc (.cells #[.int .u32 rz.1.f, .int .u64 rz.1.s, .int .u32 rz.1.u, .int .u32 rz.1.g, .int .u32 rz.1.m, .int .u32 rz.1.a, .int .u32 rz.1.t] 25) := ⟨_, rfl⟩
  have HQ4 : Hid (QR W4 c (Value.slice ao n cap).ownBlock bs 0 0) := hidden (by rw [hW4]; exact HQ3.out.same ((Keeps.refl _ _).alloc _))
  have HR4 : Hid (WR W4 a g bs rz.2.1 rz.2.2) := hidden (by rw [hW4]; exact HT3.out.state.same ((Keeps.refl _ _).alloc _))
  have HX4 : Hid (W4.heap[w3.heap.size]? = some (.cells #[.int .u32 rz.1.f, .int .u64 rz.1.s, .int .u32 rz.1.u, .int .u32 rz.1.g, .int .u32 rz.1.m, .int .u32 rz.1.a, .int .u32 rz.1.t] 25 (0, 0))) := hidden (by rw [hW4]; exact heap_alloc_new w3 _)
  have HK4 : Hid (Keeps (fun k => w.heap.size ≤ k) w W4) := hidden (by rw [hW4]; exact HK3.out.alloc _)
  rw [← hW4]
  obtain ⟨b5, hb5⟩ : ∃ c, c = w3.heap.size := ⟨_, rfl⟩
  rw [← hb5] at HX4 hlt3 hlta hs3 ⊢
  clear hW4 hb5 HQ3 HT3 HK3
  refine (rget_c W4 HQ4.out).mono ?_
  rintro e w5 ⟨rfl, ht5⟩
  rw [← HRZ.out] at ht5 ⊢
  have HQ5 : Hid (QR w5 c (Value.slice ao n cap).ownBlock bs rz.2.1 rz.2.2) := hidden ht5.state
  have HR5 : Hid (WR w5 a g bs rz.2.1 rz.2.2) := hidden (HR4.out.keepE ht5.keeps (by have := HAl.out; omega) HGa.out)
  have HX5 := hidden (box_keep HX4.out ht5.keeps (by omega))
  have hl5 := lt_of_block HX5.out
  have HK5 : Hid (Keeps (fun k => w.heap.size ≤ k) w w5) := hidden (HK4.out.trans (ht5.keeps.mono fun k _ e => by have := HC.out; omega))
  clear ht5 HQ4 HR4 HX4 HK4
  unfold At.v At.cells
  go_wp2_with fail
  obtain ⟨W6, hW6⟩ : ∃ W, W = w5.alloc (.cells #[.int .u32 rz.1.f, .int .u64 rz.1.s, .int .u32 rz.1.u, .int .u32 rz.1.g, .int .u32 rz.1.m, .int .u32 rz.1.a, .int .u32 rz.1.t] 25) := ⟨_, rfl⟩
  have HQ6 : Hid (QR W6 c (Value.slice ao n cap).ownBlock bs rz.2.1 rz.2.2) := hidden (by rw [hW6]; exact HQ5.out.same ((Keeps.refl _ _).alloc _))
  have HR6 : Hid (WR W6 a g bs rz.2.1 rz.2.2) := hidden (by rw [hW6]; exact HR5.out.same ((Keeps.refl _ _).alloc _))
  have HX6 : Hid (W6.heap[b5]? = some (.cells #[.int .u32 rz.1.f, .int .u64 rz.1.s, .int .u32 rz.1.u, .int .u32 rz.1.g, .int .u32 rz.1.m, .int .u32 rz.1.a, .int .u32 rz.1.t] 25 (0, 0))) := hidden (by rw [hW6, Below.heap_alloc w5 _ b5 hl5]; exact HX5.out)
  have HY6 : Hid (W6.heap[w5.heap.size]? = some (.cells #[.int .u32 rz.1.f, .int .u64 rz.1.s, .int .u32 rz.1.u, .int .u32 rz.1.g, .int .u32 rz.1.m, .int .u32 rz.1.a, .int .u32 rz.1.t] 25 (0, 0))) := hidden (by rw [hW6]; exact heap_alloc_new w5 _)
  have HK6 : Hid (Keeps (fun k => w.heap.size ≤ k) w W6) := hidden (by rw [hW6]; exact HK5.out.alloc _)
  rw [← hW6]
  obtain ⟨b6, hb6⟩ : ∃ c, c = w5.heap.size := ⟨_, rfl⟩
  rw [← hb6] at HY6 ⊢
  clear hW6 hb6 HQ5 HR5 HX5 HK5 hl5
  refine (end_r W6 HR6.out).mono ?_
  rintro e w7 ⟨rfl, hk7⟩
  have HQ7 := hidden (HQ6.out.same hk7)
  have HX7 := hidden (box_keep HX6.out hk7 (fun h => h))
  have HY7 := hidden (box_keep HY6.out hk7 (fun h => h))
  have HK7 : Hid (Keeps (fun k => w.heap.size ≤ k) w w7) := hidden (HK6.out.trans (hk7.mono fun _ _ e => e.elim))
  clear hk7 HQ6 HR6 HX6 HY6 HK6
  go_wp2_with fail
  refine (qend_c w7 HQ7.out).mono ?_
  rintro e w8 ⟨rfl, hk8⟩
  obtain ⟨k0, k1, k2, k3, k4, k5, k6, kf⟩ := cells7 (box_keep HX7.out hk8 (fun h => h))
  obtain ⟨z0, z1, z2, z3, z4, z5, z6, zf⟩ := cells7 (box_keep HY7.out hk8 (fun h => h))
  have HK8 : Hid (Keeps (fun k => w.heap.size ≤ k) w w8) := hidden (HK7.out.trans (hk8.mono fun _ _ e => e.elim))
  clear hk8 HQ7 HX7 HY7 HK7
  generalize (ends bs rz.2.1 rz.2.2).1 = n1
  generalize (ends bs rz.2.1 rz.2.2).2 = n2
  go_wp2_with fail
  go_ret
  exact ⟨by simp, HK8.out.below (Nat.le_refl _) (fun k e => e)⟩

end Go.Proofs.Ytkbfgfpdchgjpaa
