/- What the law's helpers in and same do. -/
import Derived.Test.YtnnhffjajbiicaaNgG
import Derived.Great.BuildSlice
import Derived.Deep.QuietTactic
import Derived.BigQuiet
namespace Go.Proofs.Ytnnhffjajbiicaa
open Go Go.RowKit

theorem run_loadVar_part {P : Program} (w : World) (g off : Nat) (t ty : TypeId) (cs : List Value) (n : Nat) (e : TypeId) (nm : List Value) (hg : LBox w g t cs) (hp : ∀ j v, nm[j]? = some v → cs[off + j]? = some v)
    (hu : P.underlying ty = some (.array n e)) (hi : (P.info? ty).map (·.size) = some nm.length) :
    (loadVar ty ⟨g, off, none⟩).run P w = .ok (.agg nm.toArray) w := by
  have hl : (loadCells ⟨g, off, none⟩ nm.length).run P w = .ok nm.toArray w :=
    run_loadCells_list (P := P) w ⟨g, off, none⟩ nm (fun j v hv => by
      rw [add_lit']
      exact hg.cell (hp j v hv))
  cases hq : P.info? ty with
  | none => simp [hq] at hi
  | some i =>
    have hs : i.size = nm.length := by simpa [hq] using hi
    have hagg : (isAgg ty).run P w = .ok true w := by
      unfold isAgg
      rw [Sem.run_bind, run_underlying hu w]
      simp
    simp [loadVar, Sem.run_bind, hagg, sizeOf, typeInfo, hq, hs, hl]
theorem wpList_loadPart {P : Program} {ops : Array Oper} {rest : List Oper} {o : Oper} {a : Act} {w : World} {Q : Exit → Act → World → Prop} (hgd : o.guard = none) (ty : TypeId) (x : Operand) (ho : o.op = .load ty x)
    (g off : Nat) (cs : List Value) (t : TypeId) (n : Nat) (e : TypeId) (nm : List Value) (hx : a.eval x = .pointer (some ⟨g, off, none⟩)) (hg : LBox w g t cs) (hp : ∀ j v, nm[j]? = some v → cs[off + j]? = some v)
    (hu : P.underlying ty = some (.array n e)) (hi : (P.info? ty).map (·.size) = some nm.length)
    (h : wpList P ops Q rest (a.put o.dst (.agg nm.toArray)) w) : wpList P ops Q (o :: rest) a w :=
  wpList_plain hgd fun _ hK => by
    unfold Oper.wp execOp
    simp only [ho, Instr.loadAt, Sem.run_bind, hx, Instr.sureAddr, Sem.run_pure, Result.andThen, run_loadVar_part w g off t ty cs n e nm hg hp hu hi]
    exact hK _ _ h

theorem sizeA : (Try.prog.info? 36).map (·.size) = some 10 := by kernel_rfl
theorem lcells_part {ck : Value} {nm : List Value} {fo : Bool} : ∀ j v, nm[j]? = some v → (lcells ck nm fo)[1 + j]? = some v := by
  intro j v h
  unfold lcells
  rw [Nat.add_comm, List.getElem?_cons_succ, List.getElem?_append_left (List.getElem?_eq_some_iff.1 h).1]
  exact h
theorem ten {nm : List Value} (h : nm.length = 10) : ∃ a b c d e f g i j k, nm = [a, b, c, d, e, f, g, i, j, k] := by
  match nm, h with
  | [a, b, c, d, e, f, g, i, j, k], _ => exact ⟨a, b, c, d, e, f, g, i, j, k, rfl⟩
set_option maxHeartbeats 1600000 in
set_option maxRecDepth 100000 in
theorem in_c (ck : Value) (nm : List Value) (fo : Bool) (bs : List UInt8) (ls : List (List ByteArray)) (w : World) (h : LRd w ck nm bs ls) :
    Calls Try.prog 23 #[.agg (lcells ck nm fo).toArray] w fun e w' => e = .returned (.agg (lcells ck nm fo).toArray) ∧ Below w.heap.size w w' := by
  have hone := h.one (fo := fo)
  obtain ⟨hck, hnl, hll, hnm⟩ := h
  obtain ⟨ao, cap, rfl, hc1, hc2', hcx⟩ := hck
  obtain ⟨n0, n1, n2, n3, n4, n5, n6, n7, n8, n9, rfl⟩ := ten hnl
  clear hnm hcx hll hnl
  simp only [lcells, List.cons_append, List.nil_append] at hone ⊢
  obtain ⟨hx0, hx1, hbx, hsz⟩ := box_two w 38 43 [.slice ao bs.length cap, n0, n1, n2, n3, n4, n5, n6, n7, n8, n9, .bool fo] [.slice none 0 0, .slice none 0 0, .slice none 0 0, .slice none 0 0, .slice none 0 0, .slice none 0 0, .slice none 0 0, .slice none 0 0, .slice none 0 0, .slice none 0 0, .slice none 0 0, .bool false]
  have HX1 := hidden hx1
  have HBX := hidden hbx
  have HON := hidden hone
  have HSL : Hid ((Try.prog.info? 43).map (·.size) = some ([.slice ao bs.length cap, n0, n1, n2, n3, n4, n5, n6, n7, n8, n9, .bool fo] : List Value).toArray.size) := sizeR
  clear hx0 hx1 hbx hsz hone
  go_enter Try.func23, Try.ntmps23
  go_wp2_with (refine wpList_store_row rfl 43 (.tmp 2) (.tmp 9) rfl (w.heap.size + 1) ([.slice ao bs.length cap, n0, n1, n2, n3, n4, n5, n6, n7, n8, n9, .bool fo] : List Value).toArray rfl rfl 43 _ HX1.out HSL.out rfl HON.out ?_)
  refine bodyPost_ret (results_agg1 rfl _ _ _ (w.heap.size + 1) ([.slice ao bs.length cap, n0, n1, n2, n3, n4, n5, n6, n7, n8, n9, .bool fo] : List Value).toArray 43 (0, 0) rfl (HX1.out.row [.slice ao bs.length cap, n0, n1, n2, n3, n4, n5, n6, n7, n8, n9, .bool fo]) Try.underlying43 HSL.out) rfl ?_
  exact ⟨rfl, below_setRow HBX.out (by omega) _⟩

theorem SSl.drewN {w : World} {v : Value} {ss : List ByteArray} (h : SSl w v ss) (n : Nat) : SSl (w.drewN n) v ss := h
set_option maxHeartbeats 800000 in
theorem texts_d (a b : Value) (ss : List ByteArray) (w : World) (ha : SSl w a ss) (hb : SSl w b ss) :
    Calls Try.prog 56 #[a, b] w fun e w' => e = .returned (.bool true) ∧ ∃ m, w' = w.drewN m := by
  have HA : Hid (SSl w a ss) := ha
  have HB : Hid (SSl w b ss) := hb
  obtain ⟨ao, ca, rfl, hca, hcm, _⟩ := ha
  obtain ⟨bo, cb, rfl, hcb, hcn, _⟩ := hb
  unfold maxLen at hcm hcn
  go_enter Try.func56, Try.ntmps56
  go_wp2
  go_loopw [5] (fun i wr => ∃ k m : Nat, k ≤ ss.length ∧ i = .int .i64 k ∧ wr = w.drewN m) (fun i _ => ss.length - (intOf i).toNat)
  case atStart => exact ⟨0, 0, Nat.zero_le _, rfl, rfl⟩
  case round =>
    obtain ⟨k, m, hk, rfl, hkp⟩ := hrel
    have HW := hidden hkp
    clear hkp
    by_cases hlt : k < ss.length
    · have hne : ss ≠ [] := by rintro rfl; simp at hlt
      have HA1 : SSl wr (.slice ao ss.length ca) ss := by rw [HW.out]; exact HA.out.drewN m
      have HB1 : SSl wr (.slice bo ss.length cb) ss := by rw [HW.out]; exact HB.out.drewN m
      obtain ⟨b1, o1, rfl⟩ := HA1.addr hne
      obtain ⟨b2, o2, rfl⟩ := HB1.addr hne
      have k1 := HA1.cellAt k hlt
      have k2 := HB1.cellAt k hlt
      have hi0 : (0 : Int) ≤ (k : Int) := Int.natCast_nonneg _
      have hi1 : (k : Int) < (ss.length : Int) := by omega
      clear HA1 HB1
      go_wp2_with fail
      go_quiet (fail)
      go_wp2
      go_roundw
      case rel => exact ⟨k + 1, m + nq, by omega, by go_num, by rw [HW.out, World.drewN_drewN]⟩
      case measure => simp [intOf]; omega
    · go_wp2
      go_ret
      exact ⟨rfl, m, HW.out⟩

set_option maxHeartbeats 1600000 in
set_option maxRecDepth 100000 in
theorem same_c (ck dk : Value) (nm om : List Value) (fo : Bool) (bs : List UInt8) (ls : List (List ByteArray)) (w : World) (h : LRd w ck nm bs ls) (g : LRd w dk om bs ls) :
    Calls Try.prog 27 #[.agg (lcells ck nm fo).toArray, .agg (lcells dk om fo).toArray] w fun e w' => e = .returned (.bool true) ∧ Below w.heap.size w w' := by
  have hc0 : (lcells ck nm fo)[0]? = some ck := rfl
  have hd0 : (lcells dk om fo)[0]? = some dk := rfl
  have HC2 := hidden (lcells_end (ck := ck) (fo := fo) h.nl)
  have HD2 := hidden (lcells_end (ck := dk) (fo := fo) g.nl)
  have HCA : Hid (∀ i, i < 10 → (lcells ck nm fo)[1 + i]? = some (nm.getD i undef)) := fun i hi => lcells_at h.nl hi
  have HDA : Hid (∀ i, i < 10 → (lcells dk om fo)[1 + i]? = some (om.getD i undef)) := fun i hi => lcells_at g.nl hi
  generalize lcells ck nm fo = cs at *
  generalize lcells dk om fo = ds at *
  have HH := hidden h
  have HG := hidden g
  have HC0 := hidden hc0
  have HD0 := hidden hd0
  clear h g hc0 hd0
  obtain ⟨hx0, hx1, hbx, hsz⟩ := box_two w 38 43 cs ds
  have HX0 := hidden hx0
  have HX1 := hidden hx1
  have HBX := hidden hbx
  clear hx0 hx1 hbx hsz
  go_enter Try.func27, Try.ntmps27
  go_wp2_with fail
  generalize (w.alloc (.cells cs.toArray 38)).alloc (.cells ds.toArray 43) = W1 at HX0 HX1 HBX ⊢
  go_loopw [5] (fun i wr => ∃ k : Nat, k ≤ 10 ∧ i = .int .i64 k ∧ Still W1 wr) (fun i _ => 10 - (intOf i).toNat)
  case atStart => exact ⟨0, by omega, rfl, Keeps.refl _ _⟩
  case round =>
    obtain ⟨k, hk, rfl, hst⟩ := hrel
    have HST := hidden hst
    have HB := hidden (HBX.out.trans (still_below hst HBX.out.size))
    clear hst
    by_cases hlt : k < 10
    · have hi1 : (k : Int) < 10 := by omega
      have c1 := (HX0.out.still HST.out).cell (HCA.out k hlt)
      have c2 := (HX1.out.still HST.out).cell (HDA.out k hlt)
      have s1 := (HH.out.fresh HB.out).nm k hlt
      have s2 := (HG.out.fresh HB.out).nm k hlt
      generalize nm.getD k undef = v1 at c1 s1
      generalize om.getD k undef = v2 at c2 s2
      generalize ls.getD k [] = l at s1 s2
      obtain ⟨a1, p1, rfl, _⟩ := id s1
      obtain ⟨a2, p2, rfl, _⟩ := id s2
      have HS1 := hidden s1
      have HS2 := hidden s2
      clear s1 s2
      go_wp2_with fail
      go_quiet (first | (go_at_call 56; exact Calls.quiet_of (texts_d _ _ l _ (HS1.out.drewN _) (HS2.out.drewN _))))
      go_wp2
      go_roundw
      case rel => exact ⟨k + 1, by omega, by go_num, HST.out.drewN nq⟩
      case measure => simp [intOf]; omega
    · have hi1 : ¬ (k : Int) < 10 := by omega
      have c1 := (HX0.out.still HST.out).cell HC0.out
      have c2 := (HX1.out.still HST.out).cell HD0.out
      have c3 := (HX0.out.still HST.out).cell HC2.out
      have c4 := (HX1.out.still HST.out).cell HD2.out
      have r1 := run_string (HH.out.fresh HB.out).ck
      have r2 := run_string (HG.out.fresh HB.out).ck
      have hff : (fo == fo) = true := by simp
      have hss : ((⟨bs.toArray⟩ : ByteArray).toList == (⟨bs.toArray⟩ : ByteArray).toList) = true := by simp
      generalize (⟨bs.toArray⟩ : ByteArray) = s at r1 r2 hss
      go_wp2
      go_ret
      exact ⟨by simp, HB.out⟩
end Go.Proofs.Ytnnhffjajbiicaa
