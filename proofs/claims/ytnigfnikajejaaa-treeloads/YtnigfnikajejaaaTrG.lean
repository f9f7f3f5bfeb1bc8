/- List. -/
import Derived.Test.YtnigfnikajejaaaTmW
namespace Go.Proofs.Ytnigfnikajejaaa
open Go Go.RowKit

/-- What is told of a directory: each name, and the attributes of the thing there. -/
def attrsOf (S : Tr) (j : Nat) : At := match findT S.ths j with
  | none => zeroA
  | some y => y.a
def listT (S : Tr) (i : Int) : List (Nm × At) × Nat := match findT S.ths i with
  | none => ([], 22)
  | some x => if x.dir then (x.h.map fun e => (e.1, attrsOf S e.2), 0) else ([], 23)
/-- The cells of such names. -/
def nameC (e : Nm × At) : List Value := [.string e.1, .int .u32 e.2.f, .int .u64 e.2.s, .int .u32 e.2.u, .int .u32 e.2.g, .int .u32 e.2.m, .int .u32 e.2.a, .int .u32 e.2.t]
def nameCs (l : List (Nm × At)) : List Value := l.flatMap nameC
theorem nameCs_length (l : List (Nm × At)) : (nameCs l).length = l.length * 8 := by
  unfold nameCs
  induction l with
  | nil => rfl
  | cons e l ih => rw [List.flatMap_cons, List.length_append, ih, List.length_cons]; show 8 + _ = _; omega
theorem nameCs_snoc (l : List (Nm × At)) (e : Nm × At) : nameCs (l ++ [e]) = nameCs l ++ nameC e := by simp [nameCs, List.flatMap_append]
theorem Try.infoName : (Try.prog.info? 86).map (fun i => (i.zero, i.size, i.bytes)) = some (some (.agg #[.string ⟨#[]⟩, .int .u32 0, .int .u64 0, .int .u32 0, .int .u32 0, .int .u32 0, .int .u32 0, .int .u32 0]), 8, 56) := by kernel_rfl
theorem nameC_one (e : Nm × At) : ∀ u ∈ nameC e, u.oneCell' = true := by
  intro u hu
  unfold nameC at hu
  simp only [List.mem_cons, List.not_mem_nil, or_false] at hu
  rcases hu with rfl | rfl | rfl | rfl | rfl | rfl | rfl | rfl <;> rfl

section
variable {w : World} {R : Nat → Role} {a : Nat} {S : Tr} {B : Nat → Nat} {dv hv : Nat → Value} {tv : Value} {pa : Nat → Nat} {nm : Nat → Nm}
/-- What a call of List gives. -/
def ListPost (w : World) (r : List (Nm × At) × Nat) (e : Ending) (w' : World) : Prop :=
  ∃ v, e = .returned (.tuple #[v, .int .i64 r.2]) ∧ w'.ownsRow w.heap.size 86 8 v r.1.length (nameCs r.1) ∧ Below w.heap.size w w'
set_option maxHeartbeats 4000000 in
set_option maxRecDepth 100000 in
theorem list_c (H : TXb w R a S B dv hv tv) (o : Ok S pa nm) (i : Int) :
    Calls Try.prog 18 #[.pointer (some ⟨a, 0, none⟩), .int .i64 i] w (ListPost w (listT S i)) := by
  have HH := hidden H
  have HI := hidden o.inc
  have HO := hidden o
  have HR : Hid (listT S i = match findT S.ths i with | none => ([], 22) | some x => if x.dir then (x.h.map fun e => (e.1, attrsOf S e.2), 0) else ([], 23)) := rfl
  generalize listT S i = rr at HR ⊢
  clear H o
  go_enter Try.func18, Try.ntmps18
  go_wp2_with fail
  refine (find_c HH.out HO.out i).mono ?_
  rintro e w1 ⟨rfl, hb⟩
  have HB := hidden hb
  have H1 := hidden (HH.out.fresh hb)
  clear hb
  cases hf : findT S.ths i with
  | none =>
    rw [hf] at HR
    rw [show ptrT B none = .pointer none from rfl]
    clear hf
    go_wp2_with fail
    have hx := HR.out
    subst hx
    go_ret2
    exact ⟨_, rfl, World.ownsRow_nil _ _ _ _, HB.out⟩
  | some x =>
    rw [hf] at HR
    obtain ⟨hx, _⟩ := (findT_some HI.out _ _).1 hf
    have c1 := (H1.out.th x hx).c1
    have HX := hidden hx
    have HCH : Hid (∀ e ∈ x.h, ∃ y ∈ S.ths, y.id = e.2) := fun e he => ((HO.out.held x hx e.1 e.2).1 he).2.1
    have HNS := hidden (fun e (he : e ∈ x.h) => HO.out.nsize hx he)
    have c10 := (H1.out.th x hx).c10
    obtain ⟨hao, hcap, hhv, hhc, hhm, hhn⟩ := (H1.out.hel x hx).shape
    have hhl := HO.out.hlen hx
    rw [hhv] at c10
    unfold maxLen at hhm
    rw [show ptrT B (some x) = .pointer (some ⟨B x.id, 0, none⟩) from rfl]
    clear hf hx
    cases hd : x.dir with
    | false =>
      rw [hd] at c1
      go_wp2_with fail
      have hx := HR.out
      simp only [hd] at hx
      subst hx
      go_ret2
      exact ⟨_, rfl, World.ownsRow_nil _ _ _ _, HB.out⟩
    | true =>
      rw [hd] at c1
      go_wp2_with fail
      obtain ⟨L, hL⟩ : ∃ L : List (Nm × At), L = x.h.map fun e => (e.1, attrsOf S e.2) := ⟨_, rfl⟩
      have HL := hidden hL
      have HLL : Hid (L.length = x.h.length) := by show _ = _; rw [hL, List.length_map]
      clear hL
      go_loopw [7, 25] (fun l c wr => ∃ k : Nat, c = .int .i64 k ∧ k ≤ x.h.length ∧ wr.ownsRow w.heap.size 86 8 l k (nameCs (L.take k)) ∧ Below w.heap.size w wr) (fun _ c _ => x.h.length - (intOf c).toNat)
      case atStart => exact ⟨0, rfl, Nat.zero_le _, World.ownsRow_nil _ _ _ _, HB.out⟩
      case round =>
        obtain ⟨k, rfl, hk, hown, hb⟩ := hrel
        have HOW := hidden hown
        have HBW := hidden hb
        have hHr := HH.out.fresh hb
        obtain ⟨lo, lc, rfl⟩ := ownsRow_shape hown
        clear hown hb
        by_cases hlt : k < x.h.length
        · have hi1 : (k : Int) < (x.h.length : Int) := by omega
          obtain ⟨eg, rfl⟩ := hhn (by intro e; rw [e] at hlt; simp at hlt)
          have hE := hHr.hel x HX.out
          rw [hhv] at hE
          obtain ⟨e0, e1⟩ := hE.at k hlt
          have hmem : x.h[k] ∈ x.h := List.getElem_mem hlt
          obtain ⟨y, hy, hye⟩ := HCH.out _ hmem
          have hns := HNS.out _ hmem
          have HTK : Hid (L.take (k + 1) = L.take k ++ [((x.h[k]).1, y.a)]) := by
            show _ = _
            rw [List.take_succ_eq_append_getElem (by rw [HLL.out]; exact hlt)]
            congr 1
            simp only [HL.out, List.getElem_map, List.cons.injEq, and_true]
            rw [attrsOf, ← hye, findT_nat HI.out hy rfl]
          have HYE := hidden hye
          have HY := hidden hy
          have HHr := hidden hHr
          clear hE hmem hye hy hHr
          generalize x.h[k] = en at e0 e1 HTK HYE hns
          go_wp2_with fail
          obtain ⟨w2, hw2⟩ : ∃ W, W = wr.alloc (.cells #[.string en.1, .pointer (some ⟨B en.2, 0, none⟩)] 83) := ⟨_, rfl⟩
          rw [← hw2]
          have hHw2 : TXb w2 R a S B dv hv tv := by rw [hw2]; exact HHr.out.still ((Keeps.refl (fun _ => False) wr).alloc _)
          have hsz2 : w2.heap.size = wr.heap.size + 1 := by rw [hw2]; simp
          have hblk : w2.heap[wr.heap.size]? = some (.cells #[.string en.1, .pointer (some ⟨B en.2, 0, none⟩)] 83 (0, 0)) := by rw [hw2]; exact heap_alloc_new wr _
          have how2 : w2.ownsRow w.heap.size 86 8 (.slice lo k lc) k (nameCs (L.take k)) := by rw [hw2]; exact HOW.out.alloc _
          have hbw2 : Below w.heap.size w w2 := by rw [hw2]; exact HBW.out.alloc HBW.out.size _
          have HCells : Hid (∀ W, Below w2.heap.size w2 W → (W.cell? ⟨wr.heap.size, 0, none⟩ = some (.string en.1) ∧ W.cell? ⟨wr.heap.size, 1, none⟩ = some (.pointer (some ⟨B en.2, 0, none⟩))) ∧ W.cell? ⟨B en.2, 2, none⟩ = some (.int .u32 y.a.f) ∧ W.cell? ⟨B en.2, 3, none⟩ = some (.int .u64 y.a.s) ∧ W.cell? ⟨B en.2, 4, none⟩ = some (.int .u32 y.a.u) ∧ W.cell? ⟨B en.2, 5, none⟩ = some (.int .u32 y.a.g) ∧ W.cell? ⟨B en.2, 6, none⟩ = some (.int .u32 y.a.m) ∧ W.cell? ⟨B en.2, 7, none⟩ = some (.int .u32 y.a.a) ∧ W.cell? ⟨B en.2, 8, none⟩ = some (.int .u32 y.a.t)) := fun W hW => by
            have h1 := ((hHw2.fresh hW).th y HY.out).ca
            rw [HYE.out] at h1
            refine ⟨?_, h1⟩
            have h2 : W.heap[wr.heap.size]? = _ := (hW.block wr.heap.size (by omega)).trans hblk
            constructor <;> (unfold World.cell?; simp only [h2]; rfl)
          have HAP : Hid (∀ W, Below w2.heap.size w2 W → ∃ v' w', (Builtin.append_ #[51, 51] 51 #[.slice lo k lc, .slice (some ⟨W.heap.size, 0, none⟩) 1 1]).run Try.prog (W.alloc (.cells (nameC (en.1, y.a)).toArray 86)) = .ok v' w' ∧ w'.ownsRow w.heap.size 86 8 v' (k + 1) (nameCs (L.take (k + 1))) ∧ Below w.heap.size w w') := fun W hW => by
            obtain ⟨i0, hi, hz0, hz1, hz2⟩ := info_parts Try.infoName
            have hsW := hW.size
            have ho := ((Keeps.ofFresh hW).row how2 (fun _ _ h => h)).alloc (.cells (nameC (en.1, y.a)).toArray 86)
            obtain ⟨v', w', hr, hown, hg, _⟩ := run_append_own (P := Try.prog) (W.alloc (.cells (nameC (en.1, y.a)).toArray 86)) w.heap.size 51 51 86 i0 _ 8 56 Try.underlying51 hi hz0 hz1 hz2 rfl (by omega) _ _ _ ho ⟨W.heap.size, 0, none⟩ 1 1 (nameC (en.1, y.a)) rfl (World.news_of_block (t := 86) (fr := (0, 0)) (heap_alloc_new W _)) (nameC_one _) (by unfold maxLen; omega) (by omega) (by have := hbw2.size; simp; omega)
            refine ⟨v', w', hr, ?_, ?_⟩
            · rw [HTK.out, nameCs_snoc]
              exact hown
            · refine hbw2.trans ((hW.mono hbw2.size).trans ?_)
              exact ((Below.refl w.heap.size W).alloc (by have := hbw2.size; omega) _).trans (Keeps.below (Keeps.ofGrown hg fun k e => e) (by have := hbw2.size; simp; omega) fun k' e => (ho.lt k' e).1)
          clear how2 hbw2 hHw2 hblk hw2 e0 e1
          obtain ⟨⟨k0, k1⟩, k2, k3, k4, k5, k6, k7, k8⟩ := HCells.out w2 (Below.refl _ _)
          go_region_law (first
            | (go_simp; go_at_call 37; refine (sclone_c en.1 _ (by omega)).mono ?_; rintro e w3 ⟨rfl, hb3⟩; have HB3 := hidden (((Below.refl w2.heap.size w2).drew).trans hb3); obtain ⟨⟨m0, m1⟩, m2, m3, m4, m5, m6, m7, m8⟩ := HCells.out w3 HB3.out; clear hb3)
            | (obtain ⟨v4, w4, hrun, ho4, hb4⟩ := HAP.out w3 HB3.out; refine step_append_run _ rfl (.tmp 29) (.tmp 39) 51 51 rfl _ _ (by simp [Act.eval]) (by simp [Act.eval]) hrun ?_))
          all_goals
            have HO4 := hidden ho4
            have HB4 := hidden hb4
            clear ho4 hb4 k0 k1 k2 k3 k4 k5 k6 k7 k8 m0 m1 m2 m3 m4 m5 m6 m7 m8
            go_wp2_with fail
            go_roundw
            case rel => exact ⟨k + 1, by go_num, hlt, HO4.out, HB4.out⟩
            case measure => simp [intOf]; omega
        · obtain rfl : k = x.h.length := by omega
          have hi1 : ¬ ((x.h.length : Nat) : Int) < (x.h.length : Int) := by omega
          go_wp2_with fail
          go_ret2
          have hx := HR.out
          simp only [hd, if_true] at hx
          rw [← HL.out] at hx
          subst hx
          refine ⟨.slice lo x.h.length lc, rfl, ?_, HBW.out⟩
          have h1 := HOW.out
          have h2 : L.take x.h.length = L := by rw [← HLL.out, List.take_length]
          rw [h2] at h1
          show wr.ownsRow _ _ _ _ L.length (nameCs L)
          rw [HLL.out]
          exact h1
end

theorem findT_mapd (l : List Th) (g : Th → Th) (hg : ∀ z, (g z).id = z.id) (i : Int) : findT (l.map g) i = (findT l i).map g := by
  unfold findT
  rw [List.find?_map]
  simp only [Function.comp_def, hg]
/-- What becomes of a thing when something moves. -/
def movedT (i1 i2 : Nat) (n1 n2 : Nm) (j : Nat) (z : Th) : Th := if z.id = i2 then putH n2 j (if z.id = i1 then cutH n1 z else z) else (if z.id = i1 then cutH n1 z else z)
theorem movedT_eq (l : List Th) (i1 i2 : Nat) (n1 n2 : Nm) (j : Nat) : setT (setT l i1 (cutH n1)) i2 (putH n2 j) = l.map (movedT i1 i2 n1 n2 j) := by
  unfold setT
  rw [List.map_map]
  apply List.map_congr_left
  intro z _
  simp only [Function.comp, movedT]
  by_cases e1 : z.id = i1
  · rw [if_pos e1]; rfl
  · rw [if_neg e1]
theorem movedT_id (i1 i2 : Nat) (n1 n2 : Nm) (j : Nat) (z : Th) : (movedT i1 i2 n1 n2 j z).id = z.id := by unfold movedT; split <;> split <;> rfl
theorem movedT_dir (i1 i2 : Nat) (n1 n2 : Nm) (j : Nat) (z : Th) : (movedT i1 i2 n1 n2 j z).dir = z.dir := by unfold movedT; split <;> split <;> rfl
theorem movedT_a (i1 i2 : Nat) (n1 n2 : Nm) (j : Nat) (z : Th) : (movedT i1 i2 n1 n2 j z).a = z.a := by unfold movedT; split <;> split <;> rfl
theorem movedT_d (i1 i2 : Nat) (n1 n2 : Nm) (j : Nat) (z : Th) : (movedT i1 i2 n1 n2 j z).d = z.d := by unfold movedT; split <;> split <;> rfl

section
variable {S : Tr} {pa : Nat → Nat} {nm : Nat → Nm}
/-- What lies where tells what is held. -/
theorem Ok.ext {m : Nat} {g : Th → Th} {pa' : Nat → Nat} {nm' : Nat → Nm} (o : Ok S pa nm) (k : Ok ⟨S.ths.map g, m⟩ pa' nm') (h1 : ∀ z, (g z).id = z.id) (h2 : ∀ z, (g z).dir = z.dir) (h3 : ∀ z, (g z).a = z.a) (h4 : ∀ z, (g z).d = z.d)
    (hp : ∀ i, pa' i = pa i) (hn : ∀ i, nm' i = nm i) : S.ths.map g = S.ths := by
  conv => rhs; rw [← List.map_id S.ths]
  apply List.map_congr_left
  intro z hz
  have hgz : g z ∈ S.ths.map g := List.mem_map_of_mem hz
  have hh : (g z).h = z.h := by
    refine srt_ext (k.srt _ hgz) (o.srt z hz) ?_
    rintro ⟨n, j⟩
    rw [k.held _ hgz, o.held z hz, hp, hn, h1]
    have : (∃ y ∈ S.ths.map g, y.id = j) ↔ ∃ y ∈ S.ths, y.id = j := by
      constructor
      · rintro ⟨y, hy, e⟩
        obtain ⟨u, hu, rfl⟩ := List.mem_map.1 hy
        exact ⟨u, hu, by rw [← h1 u]; exact e⟩
      · rintro ⟨y, hy, e⟩
        exact ⟨g y, List.mem_map_of_mem hy, by rw [h1]; exact e⟩
    rw [show (∃ y ∈ (⟨S.ths.map g, m⟩ : Tr).ths, y.id = j) ↔ ∃ y ∈ S.ths, y.id = j from this]
  have a1 := h1 z
  have a2 := h2 z
  have a3 := h3 z
  have a4 := h4 z
  generalize g z = y at *
  obtain ⟨y1, y2, y3, y4, y5⟩ := y
  obtain ⟨z1, z2, z3, z4, z5⟩ := z
  simp only at a1 a2 a3 a4 hh
  subst a1 a2 a3 a4 hh
  rfl
/-- What does not lie under what moves stays at its path. -/
theorem Ok.stays {S' : Tr} {pa' : Nat → Nat} {nm' : Nat → Nm} {j : Nat} (o : Ok S pa nm) (k : Ok S' pa' nm') (hid : ∀ i, (∃ y ∈ S'.ths, y.id = i) ↔ ∃ y ∈ S.ths, y.id = i) (hp : ∀ i, i ≠ j → pa' i = pa i) (hn : ∀ i, i ≠ j → nm' i = nm i) :
    ∀ (m : Nat) (r : List Nm) (i : Nat), r.length ≤ m → walkT S.ths 0 r = some i → ¬ Under S.ths j i → walkT S'.ths 0 r = some i := by
  intro m
  induction m with
  | zero =>
    intro r i hr h _
    obtain rfl : r = [] := List.eq_nil_of_length_eq_zero (by omega)
    exact h
  | succ m ih =>
    intro r i hr h hu
    rcases List.eq_nil_or_concat r with rfl | ⟨r', n, rfl⟩
    · exact h
    · rw [List.concat_eq_append] at h hr ⊢
      obtain ⟨x, hx, a1, a2, a3, a4, a5, a6⟩ := o.step o.rootMem h
      have hij : i ≠ j := by rintro rfl; exact hu ⟨[], rfl⟩
      have hux : ¬ Under S.ths j x.id := by
        rintro ⟨q, hq⟩
        refine hu ⟨q ++ [n], ?_⟩
        rw [walk_snoc, hq]
        simp only [findT_nat o.inc hx rfl]
        exact a2
      have h1 := ih r' x.id (by simp at hr; omega) a1 hux
      obtain ⟨y, hy, hye⟩ := (hid x.id).2 ⟨x, hx, rfl⟩
      rw [walk_snoc, h1]
      simp only [findT_nat k.inc hy hye]
      rw [getH_some (k.srt y hy), k.held y hy]
      exact ⟨a3, (hid i).2 a4, by rw [hp i hij, hye, a5], by rw [hn i hij, a6]⟩
theorem renameT_no {p q : List Nm} (h : (renameT S p q).1 ≠ 0) : (renameT S p q).2 = S := by
  unfold renameT at h ⊢
  split
  · rfl
  · next hc =>
    rw [if_neg hc] at h
    split
    · rfl
    · next j hj =>
      simp only [hj] at h
      split
      · rfl
      · next h1 =>
        rw [if_neg h1] at h
        split
        · rfl
        · next h2 => rw [if_neg h2] at h; exact absurd rfl h
/-- A thing that is moved is the same at the other place, and is gone from the first; moved back, all is as it was. -/
theorem Ok.moves (o : Ok S pa nm) {p q : List Nm} (h : (renameT S p q).1 = 0) : ∃ j S', renameT S p q = (0, S') ∧ walkT S.ths 0 p = some j ∧ walkT S.ths 0 q = none ∧ walkT S'.ths 0 q = some j ∧ walkT S'.ths 0 p = none ∧
    (∀ i, attrsT S' i = attrsT S i) ∧ listT S' j = listT S j ∧ renameT S' q p = (0, S) := by
  have hr := h
  unfold renameT at hr
  split at hr
  · cases hr
  next hpq =>
  have hpe : p ≠ [] := fun e => hpq (.inl e)
  have hqe : q ≠ [] := fun e => hpq (.inr e)
  split at hr
  · cases hr
  next j hj =>
  split at hr
  · next h1 => exact absurd hr h1
  next h1 =>
  split at hr
  · cases hr
  next h2 =>
  have h1' : (roomT S.ths q).2 = 0 := Classical.not_not.1 h1
  obtain ⟨i2, hi2⟩ := roomT_zero h1'
  obtain ⟨hright, hw, x2, hx2, hx2i, hx2d, hx2g⟩ := roomT_ok o hi2
  obtain ⟨x1, hx1, b1, b2, b3, b4, b5⟩ := o.walk_holder hpe hj
  have hU : ¬ Under S.ths j i2 := fun e => h2 ((o.leads hj hw hqe).2 e)
  obtain ⟨ok, _⟩ := o.rename hpe b1 hj hi2 hU
  have hval : renameT S p q = (0, ⟨setT (setT S.ths x1.id (cutH (lastN p))) i2 (putH (lastN q) j), S.next⟩) := by
    unfold renameT
    rw [if_neg hpq, hj]
    simp only
    rw [if_neg h1, if_neg h2, hi2, b1]
    rfl
  rw [movedT_eq] at hval ok
  generalize hg : movedT x1.id i2 (lastN p) (lastN q) j = g at hval ok
  have g1 : ∀ z, (g z).id = z.id := fun z => by rw [← hg]; exact movedT_id _ _ _ _ _ z
  have g2 : ∀ z, (g z).dir = z.dir := fun z => by rw [← hg]; exact movedT_dir _ _ _ _ _ z
  have g3 : ∀ z, (g z).a = z.a := fun z => by rw [← hg]; exact movedT_a _ _ _ _ _ z
  have g4 : ∀ z, (g z).d = z.d := fun z => by rw [← hg]; exact movedT_d _ _ _ _ _ z
  have hid : ∀ i, (∃ y ∈ S.ths.map g, y.id = i) ↔ ∃ y ∈ S.ths, y.id = i := fun i => by
    constructor
    · rintro ⟨y, hy, e⟩
      obtain ⟨u, hu, rfl⟩ := List.mem_map.1 hy
      exact ⟨u, hu, by rw [← g1 u]; exact e⟩
    · rintro ⟨y, hy, e⟩
      exact ⟨g y, List.mem_map_of_mem hy, by rw [g1]; exact e⟩
  obtain ⟨xj, hxj, hxje⟩ := o.walk_mem _ 0 o.rootMem j hj
  have hU1 : ¬ Under S.ths j x1.id := by
    rintro ⟨r, hr⟩
    have h3 : walkT S.ths 0 (p ++ r) = some x1.id := by rw [walk_append, hj]; exact hr
    have h4 := o.inj _ _ _ _ (Nat.le_refl _) b1 h3
    have h5 := congrArg List.length h4
    rw [List.length_dropLast, List.length_append] at h5
    have := List.length_pos_iff.2 hpe
    omega
  have st := o.stays ok hid (j := j) (fun i hi => upd_ne _ _ hi) (fun i hi => upd_ne _ _ hi)
  have w2 := st _ _ _ (Nat.le_refl _) hw hU
  have w1 := st _ _ _ (Nat.le_refl _) b1 hU1
  have hf : ∀ {z : Th}, z ∈ S.ths → findT (S.ths.map g) (z.id : Int) = some (g z) := fun {z} hz => by rw [findT_mapd _ _ g1, findT_nat o.inc hz rfl]; rfl
  have wq : walkT (S.ths.map g) 0 q = some j := by
    rw [last_split hqe, walk_snoc, show walkT (S.ths.map g) 0 q.dropLast = some i2 from w2]
    simp only
    rw [← hx2i, hf hx2]
    have := List.mem_map_of_mem (f := g) hx2
    simp only
    rw [getH_some (ok.srt _ this), ok.held _ this]
    exact ⟨b3, (hid j).2 ⟨xj, hxj, hxje⟩, by rw [upd_self, g1, hx2i], upd_self _ _ _⟩
  have hgn : getH (g x1).h (lastN p) = none := by
    rw [getH_none]
    intro k hk
    have hm := List.mem_map_of_mem (f := g) hx1
    obtain ⟨k0, ke, k1, k2⟩ := (ok.held _ hm _ _).1 hk
    rw [g1] at k1
    by_cases e : k = j
    · subst e
      rw [upd_self] at k1 k2
      have : x2 = x1 := o.inc.uniq hx2 hx1 (by rw [hx2i, k1])
      subst this
      rw [k2, b2] at hx2g
      cases hx2g
    · rw [upd_ne _ _ e] at k1 k2
      obtain ⟨y, hy, hye⟩ := (hid k).1 ke
      have := o.sib y hy xj hxj (by omega) (by omega) (by rw [hye, hxje, k1, b4]) (by rw [hye, hxje, k2, b5])
      omega
  have wp : walkT (S.ths.map g) 0 p = none := by
    rw [last_split hpe, walk_snoc, show walkT (S.ths.map g) 0 p.dropLast = some x1.id from w1]
    simp only
    rw [hf hx1]
    exact hgn
  have sq : walkT S.ths 0 q = none := by
    rw [last_split hqe, walk_snoc, hw]
    simp only
    rw [← hx2i, findT_nat o.inc hx2 rfl]
    exact hx2g
  have hx1d : x1.dir = true := by
    obtain ⟨u, hu, hu1, hu2⟩ := o.par xj hxj (by omega)
    have : u = x1 := o.inc.uniq hu hx1 (by rw [hu1, hxje, b4])
    rw [← this]; exact hu2
  have hroom : roomT (S.ths.map g) p = (x1.id, 0) := by
    unfold roomT
    have hrt := o.right xj hxj (by omega)
    rw [hxje, b5] at hrt
    rw [if_neg (by rw [hrt]; simp), show walkT (S.ths.map g) 0 p.dropLast = some x1.id from w1]
    simp only
    rw [hf hx1]
    simp only
    rw [if_neg (by rw [g2, hx1d]; simp), hgn]
    rfl
  have hU3 : ¬ Under (S.ths.map g) j x1.id := by
    rintro ⟨r, hr⟩
    have h3 : walkT (S.ths.map g) 0 (q ++ r) = some x1.id := by rw [walk_append, wq]; exact hr
    have h4 := ok.inj _ _ _ _ (Nat.le_refl _) h3 w1
    have h5 : walkT S.ths 0 (q ++ r) = none := by rw [walk_append, sq]
    rw [h4, b1] at h5
    cases h5
  have hld : ¬ Proofs.Ytnigfnikajejaaa.leads p q = true := fun e => hU3 ((ok.leads wq w1 hpe).1 e)
  obtain ⟨ok2, _⟩ := ok.rename (S := ⟨S.ths.map g, S.next⟩) hqe w2 wq hroom hU3
  rw [movedT_eq] at ok2
  have hback : renameT ⟨S.ths.map g, S.next⟩ q p = (0, S) := by
    unfold renameT
    rw [if_neg fun e => hpq e.symm, show walkT (⟨S.ths.map g, S.next⟩ : Tr).ths 0 q = some j from wq]
    simp only
    rw [if_neg (by rw [hroom]; simp), if_neg hld, hroom, show walkT (S.ths.map g) 0 q.dropLast = some i2 from w2]
    simp only [Option.getD_some]
    rw [movedT_eq]
    rw [List.map_map] at ok2 ⊢
    rw [o.ext ok2 (fun z => by simp only [Function.comp]; rw [movedT_id, g1]) (fun z => by simp only [Function.comp]; rw [movedT_dir, g2]) (fun z => by simp only [Function.comp]; rw [movedT_a, g3]) (fun z => by simp only [Function.comp]; rw [movedT_d, g4]) (fun i => ?_) (fun i => ?_)]
    · by_cases e : i = j
      · subst e; rw [upd_self, b4]
      · rw [upd_ne _ _ e, upd_ne _ _ e]
    · by_cases e : i = j
      · subst e; rw [upd_self, b5]
      · rw [upd_ne _ _ e, upd_ne _ _ e]
  have hat : ∀ i, attrsT ⟨S.ths.map g, S.next⟩ i = attrsT S i := fun i => by
    unfold attrsT
    rw [show findT (⟨S.ths.map g, S.next⟩ : Tr).ths i = (findT S.ths i).map g from findT_mapd _ _ g1 i]
    cases findT S.ths i with
    | none => rfl
    | some x => simp only [Option.map_some, g3]
  have hao : ∀ i, attrsOf ⟨S.ths.map g, S.next⟩ i = attrsOf S i := fun i => by
    unfold attrsOf
    rw [show findT (⟨S.ths.map g, S.next⟩ : Tr).ths i = (findT S.ths i).map g from findT_mapd _ _ g1 i]
    cases findT S.ths i with
    | none => rfl
    | some x => simp only [Option.map_some, g3]
  have hgj : g xj = xj := by
    rw [← hg]
    unfold movedT
    rw [if_neg (fun e => hU ⟨[], by rw [← e, hxje]; rfl⟩), if_neg (fun e => hU1 ⟨[], by rw [← e, hxje]; rfl⟩)]
  refine ⟨j, ⟨S.ths.map g, S.next⟩, hval, hj, sq, wq, wp, hat, ?_, hback⟩
  unfold listT
  rw [show findT (⟨S.ths.map g, S.next⟩ : Tr).ths (j : Int) = (findT S.ths j).map g from findT_mapd _ _ g1 j, findT_nat o.inc hxj hxje]
  simp only [Option.map_some, hgj, hao]
end
end Go.Proofs.Ytnigfnikajejaaa
