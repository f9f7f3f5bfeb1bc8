/- New; what is told of a thing, and of all; the chapter's run. -/
import Derived.Test.YtnigfnikajejaabTrE
import Derived.Test.YtnigfnikajejaabAtH
namespace Go.Proofs.Ytnigfnikajejaab
open Go Go.RowKit

section
variable {w : World} {R : Nat → Role} {a : Nat} {S : Tr} {B : Nat → Nat} {dv hv : Nat → Value} {tv : Value} {pa : Nat → Nat} {nm : Nat → Nm}
/-- A tree of one's own: right, at a block from base on. -/
def TS (base : Nat) (w : World) (R : Nat → Role) (a : Nat) (S : Tr) : Prop := TX w R a S ∧ (∃ pa nm, Ok S pa nm) ∧ (∀ k, k < base → R k = .no)
theorem TS.still {base : Nat} {w w' : World} (h : TS base w R a S) (hk : Keeps (fun _ => False) w w') : TS base w' R a S := ⟨h.1.still hk, h.2.1, h.2.2⟩
theorem TS.fresh {base : Nat} {w w' : World} (h : TS base w R a S) (hb : Below w.heap.size w w') : TS base w' R a S := h.still (Keeps.ofFresh hb)
theorem TS.lim {base : Nat} (h : TS base w R a S) : ∀ k, w.heap.size ≤ k → R k = .no := fun k hk => by
  obtain ⟨B, dv, hv, tv, hx⟩ := h.1
  by_cases e : R k = .no
  · exact e
  · have := hx.lim k e; omega
theorem TS.own {base : Nat} (h : TS base w R a S) : base ≤ a := by
  obtain ⟨B, dv, hv, tv, hx⟩ := h.1
  rcases Nat.lt_or_ge a base with hl | hl
  · have := h.2.2 a hl; rw [hx.ra] at this; cases this
  · exact hl
/-- What a call leaves of a tree of one's own: all below base stays. -/
def TSPost (base : Nat) (w : World) (a : Nat) (S' : Tr) (v : Value) (R : Nat → Role) (e : Ending) (w' : World) : Prop := e = .returned v ∧ ∃ R', TS base w' R' a S' ∧ Moved R R' w w'
theorem Moved.below {base : Nat} {w w' : World} {R R' : Nat → Role} (h : Moved R R' w w') (hR : ∀ k, k < base → R k = .no) (hb : base ≤ w.heap.size) : Below base w w' :=
  h.keeps.below hb fun k hk => by
    rcases Nat.lt_or_ge k base with hl | hl
    · exact absurd (hR k hl) hk
    · exact hl
theorem TPost.ts {base : Nat} {S' : Tr} {v : Value} (hR : ∀ k, k < base → R k = .no) (hb : base ≤ w.heap.size) (ho : ∃ pa nm, Ok S' pa nm) {e : Ending} {w' : World} (h : TPost R a S' v w e w') : TSPost base w a S' v R e w' := by
  obtain ⟨he, R', hx, hm⟩ := h
  exact ⟨he, R', ⟨hx, ho, fun k hk => (hm.old k (by omega)).trans (hR k hk)⟩, hm⟩

set_option maxHeartbeats 1000000 in
set_option maxRecDepth 100000 in
theorem new_c (w : World) : Calls Try.prog 5 #[] w fun e w' => ∃ R a, e = .returned (.pointer (some ⟨a, 0, none⟩)) ∧ TS w.heap.size w' R a newTr ∧ Below w.heap.size w w' := by
  go_enter Try.func5, Try.ntmps5
  go_wp2_with fail
  refine (newThing_c 0 true w).mono ?_
  rintro e w1 ⟨rfl, ht, hb⟩
  have HT := hidden ht
  have HB := hidden hb
  clear ht hb
  go_wp2
  go_ret
  have hs := HT.out.lt
  classical
  refine ⟨fun k => if k = w.heap.size then .th 0 else if k = w1.heap.size then .row else if k = w1.heap.size + 1 then .tree else .no, w1.heap.size + 1, rfl, ⟨⟨fun _ => w.heap.size, fun _ => .slice none 0 0, fun _ => .slice none 0 0, .slice (some ⟨w1.heap.size, 0, none⟩) 1 1, ?_⟩, ⟨_, _, new_ok⟩, fun k hk => ?_⟩, ?_⟩
  · have h1 : ((w1.alloc (.cells #[.pointer (some ⟨w.heap.size, 0, none⟩)] 53)).alloc (.cells #[.slice (some ⟨w1.heap.size, 0, none⟩) 1 1, .int .i64 1, .int .i64 0] 57)).heap[w1.heap.size]? = some (.cells #[.pointer (some ⟨w.heap.size, 0, none⟩)] 53 (0, 0)) :=
      (Below.heap_alloc _ _ _ (by simp)).trans (heap_alloc_new w1 _)
    refine ⟨?_, ?_, ?_, ?_, ?_, ?_, ?_, ?_, ?_, ?_, ?_⟩
    · have := heap_alloc_new (w1.alloc (.cells #[.pointer (some ⟨w.heap.size, 0, none⟩)] 53)) (.cells #[.slice (some ⟨w1.heap.size, 0, none⟩) 1 1, .int .i64 1, .int .i64 0] 57)
      simpa [newTr, sizeT, newT] using this
    · simp; omega
    · exact ⟨rfl, .inr ⟨w1.heap.size, 1, _, rfl, Nat.zero_le _, h1, Nat.le_refl _, by simp [maxLen], rfl, rfl⟩⟩
    · intro k e
      cases e
      rw [if_neg (by simp; omega), if_pos rfl]
    · intro x hx
      rw [List.mem_singleton.1 hx]
      exact (HT.out.allocd _).allocd _
    · intro x hx
      rw [List.mem_singleton.1 hx]
      exact if_pos rfl
    · intro x hx
      rw [List.mem_singleton.1 hx]
      exact Held.nil _
    · intro x hx k e; cases e
    · intro x hx
      rw [List.mem_singleton.1 hx]
      exact ERow.nil _ _
    · intro x hx k e; cases e
    · intro k hk
      split at hk
      · next h => subst h; simp; omega
      · split at hk
        · next h => subst h; simp; omega
        · split at hk
          · next h => subst h; simp
          · exact absurd rfl hk
  · simp only
    rw [if_neg (by omega), if_neg (by omega), if_neg (by omega)]
  · exact (HB.out.alloc (by omega) _).alloc (by simp; omega) _

set_option maxHeartbeats 1000000 in
set_option maxRecDepth 100000 in
theorem count_c (H : TX w R a S) : Calls Try.prog 10 #[.pointer (some ⟨a, 0, none⟩)] w fun e w' => e = .returned (.int .i64 S.ths.length) ∧ w' = w := by
  obtain ⟨B, dv, hv, tv, H⟩ := H
  obtain ⟨ao, cap, rfl, _⟩ := H.prow.shape
  have h0 := H.t0
  clear H
  go_enter Try.func10, Try.ntmps10
  go_wp2
  go_ret
  exact ⟨rfl, rfl⟩
set_option maxHeartbeats 1000000 in
set_option maxRecDepth 100000 in
theorem bytes_c (H : TX w R a S) : Calls Try.prog 11 #[.pointer (some ⟨a, 0, none⟩)] w fun e w' => e = .returned (.int .i64 (sizeT S.ths)) ∧ w' = w := by
  obtain ⟨B, dv, hv, tv, H⟩ := H
  have h0 := H.t2
  clear H
  go_enter Try.func11, Try.ntmps11
  go_wp2
  go_ret
  exact ⟨rfl, rfl⟩
/-- What is told of a thing. -/
def attrsT (S : Tr) (i : Int) : At × Nat := match findT S.ths i with
  | none => (zeroA, 22)
  | some x => (x.a, 0)
theorem results_aggTmp {fn : Func} {p q : Tmp} {ty : TypeId} (h : fn.results = #[.cell p ty, .tmp q]) (tmps : Array Value) (P : Program) (w : World) (g : Nat) (cs : Array Value) (t : TypeId) (fr : Nat × Nat) {fs : Array Field} (v : Value) (hp : tmps.getD p undef = .pointer (some ⟨g, 0, none⟩)) (hq : tmps.getD q undef = v) (hg : w.heap[g]? = some (.cells cs t fr))
    (hu : P.underlying ty = some (.struct fs)) (hi : (P.info? ty).map (·.size) = some cs.size) :
    (results fn tmps).run P w = .ok (.tuple #[.agg cs, v]) w := by
  have hp' : tmps[p]?.getD undef = .pointer (some ⟨g, 0, none⟩) := by rw [← hp]; simp
  have hq' : tmps[q]?.getD undef = v := by rw [← hq]; simp
  simp only [results, h]
  simp [hp', hq', asAddr, run_loadVar_row w g t ty cs fr _ hg hu rfl hi]
theorem sizeAt : (Try.prog.info? 30).map (·.size) = some 7 := by kernel_rfl
set_option maxHeartbeats 1000000 in
set_option maxRecDepth 100000 in
theorem attrs_c (H : TXb w R a S B dv hv tv) (o : Ok S pa nm) (i : Int) : Calls Try.prog 30 #[.pointer (some ⟨a, 0, none⟩), .int .i64 i] w fun e w' => e = .returned (.tuple #[(attrsT S i).1.v, .int .i64 (attrsT S i).2]) ∧ Below w.heap.size w w' := by
  have HH := hidden H
  have HI := hidden o.inc
  have HO := hidden o
  have HR : Hid (attrsT S i = match findT S.ths i with | none => (zeroA, 22) | some x => (x.a, 0)) := rfl
  generalize attrsT S i = rr at HR ⊢
  clear H o
  go_enter Try.func30, Try.ntmps30
  go_wp2_with fail
  have hH := HH.out.still ((Keeps.refl (fun _ => False) w).alloc (.cells #[.int .u32 0, .int .u64 0, .int .u32 0, .int .u32 0, .int .u32 0, .int .u32 0, .int .u32 0] 30))
  refine (find_c hH HO.out i).mono ?_
  rintro e w1 ⟨rfl, hb⟩
  have hbx : w1.heap[w.heap.size]? = some (.cells #[.int .u32 0, .int .u64 0, .int .u32 0, .int .u32 0, .int .u32 0, .int .u32 0, .int .u32 0] 30 (0, 0)) := (hb.block _ (by simp)).trans (heap_alloc_new w _)
  have hbw : Below w.heap.size w w1 := ((Below.refl _ w).alloc (Nat.le_refl _) _).trans (hb.mono (by simp))
  obtain ⟨k0, k1, k2, k3, k4, k5, k6, kf⟩ := cells7 hbx
  have HBX := hidden hbx
  have HBW := hidden hbw
  have H1 := hidden (hH.fresh hb)
  clear hbx hbw hH hb
  cases hf : findT S.ths i with
  | none =>
    rw [hf] at HR
    rw [show ptrT B none = .pointer none from rfl]
    clear hf
    go_wp2_with fail
    have hx := HR.out
    subst hx
    refine bodyPost_ret (results_aggTmp rfl _ _ _ w.heap.size _ 30 (0, 0) (.int .i64 22) rfl rfl (sets7_heap HBX.out (.int .u32 0) (.int .u64 0) (.int .u32 0) (.int .u32 0) (.int .u32 0) (.int .u32 0) (.int .u32 0)) Try.underlying30 sizeAt) rfl ?_
    exact ⟨rfl, HBW.out.trans ((sets7_keeps w1 w.heap.size _ _ _ _ _ _ _).below HBW.out.size fun k h => by rw [h]; exact Nat.le_refl _)⟩
  | some x =>
    rw [hf] at HR
    obtain ⟨hx, _⟩ := (findT_some HI.out _ _).1 hf
    obtain ⟨c2, c3, c4, c5, c6, c7, c8⟩ := (H1.out.th x hx).ca
    rw [show ptrT B (some x) = .pointer (some ⟨B x.id, 0, none⟩) from rfl]
    clear hf hx
    go_wp2_with fail
    have hx := HR.out
    subst hx
    refine bodyPost_ret (results_aggTmp rfl _ _ _ w.heap.size _ 30 (0, 0) (.int .i64 0) rfl rfl (sets7_heap HBX.out (.int .u32 x.a.f) (.int .u64 x.a.s) (.int .u32 x.a.u) (.int .u32 x.a.g) (.int .u32 x.a.m) (.int .u32 x.a.a) (.int .u32 x.a.t)) Try.underlying30 sizeAt) rfl ?_
    exact ⟨rfl, HBW.out.trans ((sets7_keeps w1 w.heap.size _ _ _ _ _ _ _).below HBW.out.size fun k h => by rw [h]; exact Nat.le_refl _)⟩
end
end Go.Proofs.Ytnigfnikajejaab
