/- What Save gives, plainly. -/
import Derived.Test.YtnigfnikajejaaaTrE
import Derived.Test.YtnigfnikajejaaaAtD
import Derived.Test.YtnigfnikajejaaaTmT
import Derived.Test.YtnigfnikajejaaaWrE
import Derived.Test.YtnigfnikajejaaaPaA
import Derived.Test.YtnigfnikajejaaaAtH
import Derived.Test.YtnigfnikajejaaaRdD
import Derived.Test.YtnigfnikajejaaaRows
import Derived.ProofKit
import Derived.OpenShut
import Derived.ShutString
import Derived.ChangeOld
import Derived.Deep.Strs
import Derived.SizedLaws
import Derived.ChangeArms
import Derived.Deep.Slices
namespace Go.Proofs.Ytnigfnikajejaaa
open Go Go.RowKit

/-- A thing's own bytes, ahead of what it holds. -/
def hdrB (x : Th) : List UInt8 := be 8 x.id ++ [bit x.dir] ++ putA x.a ++ x.d ++ be 4 x.h.length
def heldB (f : Nat → List UInt8) (h : HL) : List UInt8 := h.flatMap fun e => textBytes e.1.data.toList ++ f e.2
/-- A thing and all under it, as bytes, so deep and no deeper. -/
def saveO (l : List Th) : Nat → Nat → Option (List UInt8)
  | 0, _ => none
  | F + 1, i => match findT l i with
    | none => none
    | some x => if x.h.all (fun e => (saveO l F e.2).isSome) then some (hdrB x ++ heldB (fun j => (saveO l F j).getD []) x.h) else none
def savesTo (S : Tr) (b : List UInt8) : Prop := ∃ F r, saveO S.ths F 0 = some r ∧ b = be 8 S.next ++ r
theorem saveO_eq {l : List Th} {F i : Nat} {x : Th} (h : findT l i = some x) : saveO l (F + 1) i = if x.h.all (fun e => (saveO l F e.2).isSome) then some (hdrB x ++ heldB (fun j => (saveO l F j).getD []) x.h) else none := by
  rw [saveO, h]
theorem heldB_congr {f g : Nat → List UInt8} {h : HL} (he : ∀ e ∈ h, f e.2 = g e.2) : heldB f h = heldB g h := by
  unfold heldB
  induction h with
  | nil => rfl
  | cons e h ih => rw [List.flatMap_cons, List.flatMap_cons, he e List.mem_cons_self, ih fun x hx => he x (List.mem_cons_of_mem _ hx)]
theorem heldB_take (f : Nat → List UInt8) (h : HL) (k : Nat) (hk : k < h.length) : heldB f (h.take (k + 1)) = heldB f (h.take k) ++ (textBytes (h[k]).1.data.toList ++ f (h[k]).2) := by
  unfold heldB
  rw [List.take_succ_eq_append_getElem hk, List.flatMap_append]
  simp
theorem heldB_take_le (f : Nat → List UInt8) (h : HL) (k : Nat) : (heldB f (h.take k)).length ≤ (heldB f h).length := by
  conv => rhs; rw [← List.take_append_drop k h]
  unfold heldB
  rw [List.flatMap_append, List.length_append]
  omega
theorem saveO_mono (l : List Th) : ∀ F i b, saveO l F i = some b → saveO l (F + 1) i = some b
  | 0, _, _, h => by cases h
  | F + 1, i, b, h => by
    cases hf : findT l (i : Int) with
    | none => rw [saveO, hf] at h; cases h
    | some x =>
      rw [saveO_eq hf] at h ⊢
      split at h
      · next ha =>
        have ha2 := List.all_eq_true.1 ha
        have key : ∀ e ∈ x.h, saveO l (F + 1) e.2 = saveO l F e.2 := fun e he => by
          obtain ⟨c, hc⟩ := Option.isSome_iff_exists.1 (ha2 e he)
          rw [hc]
          exact saveO_mono l F e.2 c hc
        rw [if_pos (List.all_eq_true.2 fun e he => by rw [key e he]; exact ha2 e he), ← h]
        congr 2
        exact heldB_congr fun e he => by rw [key e he]
      · cases h
theorem saveO_le (l : List Th) {F G i : Nat} {b : List UInt8} (h : saveO l F i = some b) (hg : F ≤ G) : saveO l G i = some b := by
  induction hg with
  | refl => exact h
  | step _ ih => exact saveO_mono l _ _ _ ih
theorem savesTo_uniq {S : Tr} {b c : List UInt8} (h : savesTo S b) (k : savesTo S c) : b = c := by
  obtain ⟨F, r, h1, rfl⟩ := h
  obtain ⟨G, q, k1, rfl⟩ := k
  have h2 := saveO_le _ h1 (Nat.le_max_left F G)
  rw [saveO_le _ k1 (Nat.le_max_right F G)] at h2
  rw [Option.some.inj h2]
/-- The paths to all that is saved, from a thing on. -/
def pathsO (l : List Th) : Nat → Nat → List (List Nm)
  | 0, _ => []
  | F + 1, i => match findT l i with
    | none => []
    | some x => [] :: x.h.flatMap fun e => (pathsO l F e.2).map (e.1 :: ·)

section
variable {S : Tr} {pa : Nat → Nat} {nm : Nat → Nm}
theorem Ok.dsize (o : Ok S pa nm) {x : Th} (hx : x ∈ S.ths) : x.d.length ≤ 1048576 := by
  have := sizeT_at o.inc hx
  have := o.bytes
  omega
theorem Ok.nsize (o : Ok S pa nm) {x : Th} (hx : x ∈ S.ths) {e : Nm × Nat} (he : e ∈ x.h) : e.1.size ≤ 30 := by
  obtain ⟨h0, ⟨y, hy, hye⟩, _, h3⟩ := (o.held x hx e.1 e.2).1 he
  have := o.right y hy (by omega)
  rw [hye, h3] at this
  have := rightP_len this
  rw [size_len]
  exact this
/-- Every thing can be saved. -/
theorem Ok.saves (o : Ok S pa nm) : ∀ x ∈ S.ths, ∃ F b, saveO S.ths F x.id = some b := by
  obtain ⟨rk, hrk⟩ := o.rank
  obtain ⟨M, hM⟩ : ∃ M, ∀ x ∈ S.ths, rk x.id ≤ M := by
    generalize S.ths = l
    induction l with
    | nil => exact ⟨0, fun x hx => by cases hx⟩
    | cons y l ih =>
      obtain ⟨M, hM⟩ := ih
      exact ⟨max M (rk y.id), fun x hx => by
        rcases List.mem_cons.1 hx with rfl | hx
        · exact Nat.le_max_right _ _
        · exact Nat.le_trans (hM x hx) (Nat.le_max_left _ _)⟩
  have main : ∀ (n : Nat), ∀ x ∈ S.ths, M - rk x.id ≤ n → ∃ F b, saveO S.ths F x.id = some b := by
    intro n
    induction n with
    | zero =>
      intro x hx hn
      refine ⟨1, hdrB x, ?_⟩
      rw [saveO_eq (findT_nat o.inc hx rfl)]
      have : x.h = [] := by
        cases hh : x.h with
        | nil => rfl
        | cons e r =>
          obtain ⟨h0, ⟨y, hy, hye⟩, h2, _⟩ := (o.held x hx e.1 e.2).1 (by rw [hh]; exact List.mem_cons_self)
          have h1 := hrk y hy (by omega)
          rw [hye, h2, ← hye] at h1
          have := hM y hy
          omega
      rw [this]
      simp [heldB]
    | succ n ih =>
      intro x hx hn
      have each : ∀ e ∈ x.h, ∃ F b, saveO S.ths F e.2 = some b := fun e he => by
        obtain ⟨h0, ⟨y, hy, hye⟩, h2, _⟩ := (o.held x hx e.1 e.2).1 he
        have h1 := hrk y hy (by omega)
        rw [hye, h2, ← hye] at h1
        rw [← hye]
        exact ih y hy (by omega)
      obtain ⟨F, hF⟩ : ∃ F, ∀ e ∈ x.h, ∃ b, saveO S.ths F e.2 = some b := by
        generalize x.h = h at each
        induction h with
        | nil => exact ⟨0, fun e he => by cases he⟩
        | cons e r ih2 =>
          obtain ⟨F, hF⟩ := ih2 fun x hx => each x (List.mem_cons_of_mem _ hx)
          obtain ⟨G, b, hG⟩ := each e List.mem_cons_self
          refine ⟨max F G, fun x hx => ?_⟩
          rcases List.mem_cons.1 hx with rfl | hx
          · exact ⟨b, saveO_le _ hG (Nat.le_max_right _ _)⟩
          · obtain ⟨c, hc⟩ := hF x hx
            exact ⟨c, saveO_le _ hc (Nat.le_max_left _ _)⟩
      refine ⟨F + 1, hdrB x ++ heldB (fun j => (saveO S.ths F j).getD []) x.h, ?_⟩
      rw [saveO_eq (findT_nat o.inc hx rfl), if_pos (List.all_eq_true.2 fun e he => by obtain ⟨b, hb⟩ := hF e he; rw [hb]; rfl)]
  intro x hx
  exact main (M - rk x.id) x hx (Nat.le_refl _)
theorem Ok.savesRoot (o : Ok S pa nm) : ∃ F r, saveO S.ths F 0 = some r := by
  obtain ⟨x, hx, h0⟩ := o.rootMem
  obtain ⟨F, b, h⟩ := o.saves x hx
  rw [h0] at h
  exact ⟨F, b, h⟩
/-- Each thing is saved once. -/
theorem Ok.paths_walk (o : Ok S pa nm) : ∀ F, ∀ x ∈ S.ths, ∀ p ∈ pathsO S.ths F x.id, ∃ j, walkT S.ths x.id p = some j
  | 0, _, _, p, h => by cases h
  | F + 1, x, hx, p, h => by
    rw [pathsO, findT_nat o.inc hx rfl] at h
    rcases List.mem_cons.1 h with rfl | h
    · exact ⟨x.id, rfl⟩
    · obtain ⟨e, he, h2⟩ := List.mem_flatMap.1 h
      obtain ⟨q, hq, rfl⟩ := List.mem_map.1 h2
      obtain ⟨h0, ⟨y, hy, hye⟩, _, _⟩ := (o.held x hx e.1 e.2).1 he
      obtain ⟨j, hj⟩ := o.paths_walk F y hy q (by rw [hye]; exact hq)
      refine ⟨j, ?_⟩
      rw [walkT, findT_nat o.inc hx rfl]
      simp only [(getH_some (o.srt x hx) e.1 e.2).2 he]
      rw [← hye]; exact hj
theorem Ok.paths_nodup (o : Ok S pa nm) : ∀ F, ∀ x ∈ S.ths, (pathsO S.ths F x.id).Nodup
  | 0, _, _ => List.Pairwise.nil
  | F + 1, x, hx => by
    rw [pathsO, findT_nat o.inc hx rfl]
    refine List.nodup_cons.2 ⟨fun h => ?_, ?_⟩
    · obtain ⟨e, he, h2⟩ := List.mem_flatMap.1 h
      obtain ⟨q, hq, h3⟩ := List.mem_map.1 h2
      cases h3
    · refine List.pairwise_flatMap.2 ?_
      refine ⟨fun e he => ?_, ?_⟩
      · obtain ⟨h0, ⟨y, hy, hye⟩, _, _⟩ := (o.held x hx e.1 e.2).1 he
        have := o.paths_nodup F y hy
        rw [hye] at this
        exact List.pairwise_map.2 (this.imp fun h1 h2 => h1 (List.cons.inj h2).2)
      · refine (o.srt x hx).imp fun {e f} hef => ?_
        intro p h1 p2 h2 h4
        obtain ⟨q, _, rfl⟩ := List.mem_map.1 h1
        obtain ⟨r, _, rfl⟩ := List.mem_map.1 h2
        exact nlt_ne hef (List.cons.inj h4).1
theorem Ok.paths_len (o : Ok S pa nm) (F : Nat) : (pathsO S.ths F 0).length ≤ 200 := by
  obtain ⟨x, hx, h0⟩ := o.rootMem
  have hn := o.paths_nodup F x hx
  have hw := o.paths_walk F x hx
  rw [h0] at hn hw
  have hids : ((pathsO S.ths F 0).map fun p => (walkT S.ths 0 p).getD 0).Nodup := by
    refine List.pairwise_map.2 (List.Pairwise.imp_of_mem ?_ hn)
    intro p q hp hq hne he
    obtain ⟨j, hj⟩ := hw p hp
    obtain ⟨k, hk⟩ := hw q hq
    rw [hj, hk] at he
    have he : j = k := he
    exact hne (o.inj _ p q j (Nat.le_refl _) hj (by rw [he]; exact hk))
  have := nodup_le (m := S.ths.map (·.id)) hids fun j hj => by
    obtain ⟨p, hp, rfl⟩ := List.mem_map.1 hj
    obtain ⟨k, hk⟩ := hw p hp
    rw [hk]
    obtain ⟨y, hy, hye⟩ := o.walk_mem p 0 o.rootMem k hk
    exact List.mem_map.2 ⟨y, hy, hye⟩
  rw [List.length_map, List.length_map] at this
  have := o.cnt
  omega
theorem textBytes_length (xs : List UInt8) : (textBytes xs).length = 4 + xs.length := by unfold textBytes; rw [List.length_append, be_length]
theorem flatMap_le {α β γ : Type} {h : List α} {f : α → List β} {g : α → List γ} {C : Nat} (he : ∀ e ∈ h, (f e).length ≤ C * (g e).length) : (h.flatMap f).length ≤ C * (h.flatMap g).length := by
  induction h with
  | nil => simp
  | cons e h ih =>
    rw [List.flatMap_cons, List.flatMap_cons, List.length_append, List.length_append, Nat.mul_add]
    have := he e List.mem_cons_self
    have := ih fun x hx => he x (List.mem_cons_of_mem _ hx)
    omega
theorem Ok.save_len (o : Ok S pa nm) : ∀ F, ∀ x ∈ S.ths, ∀ b, saveO S.ths F x.id = some b → b.length + 1000 ≤ 1100000 * (pathsO S.ths F x.id).length
  | 0, _, _, _, h => by cases h
  | F + 1, x, hx, b, h => by
    have hf := findT_nat o.inc hx rfl
    rw [saveO_eq hf] at h
    rw [pathsO, hf]
    split at h
    · next ha =>
      have ha := List.all_eq_true.1 ha
      obtain rfl := Option.some.inj h
      have h1 : (hdrB x).length ≤ 1048676 := by
        unfold hdrB
        have := putA_le x.a
        have := o.dsize hx
        simp only [List.length_append, be_length, List.length_cons, List.length_nil]
        omega
      have h2 : (heldB (fun j => (saveO S.ths F j).getD []) x.h).length ≤ 1100000 * (x.h.flatMap fun e => (pathsO S.ths F e.2).map (e.1 :: ·)).length := by
        unfold heldB
        refine flatMap_le fun e he => ?_
        obtain ⟨c, hc⟩ := Option.isSome_iff_exists.1 (ha e he)
        obtain ⟨h0, ⟨y, hy, hye⟩, _, _⟩ := (o.held x hx e.1 e.2).1 he
        have h3 := o.save_len F y hy c (by rw [hye]; exact hc)
        have h4 := o.nsize hx he
        rw [hye] at h3
        rw [size_len] at h4
        show (textBytes e.1.data.toList ++ (saveO S.ths F e.2).getD []).length ≤ _
        rw [hc, List.length_append, textBytes_length, List.length_map]
        show _ + c.length ≤ _
        omega
      rw [List.length_append, List.length_cons, Nat.mul_add]
      omega
    · cases h
theorem Ok.root_len (o : Ok S pa nm) {F : Nat} {r : List UInt8} (h : saveO S.ths F 0 = some r) : r.length ≤ 220000000 := by
  obtain ⟨x, hx, h0⟩ := o.rootMem
  have h1 := o.save_len F x hx r (by rw [h0]; exact h)
  rw [h0] at h1
  have := o.paths_len F
  omega
end

section
variable {w : World} {R : Nat → Role} {a : Nat} {S : Tr} {B : Nat → Nat} {dv hv : Nat → Value} {tv : Value} {pa : Nat → Nat} {nm : Nat → Nm}
/-- A Writer apart from the tree goes on. -/
theorem TXb.wrote {w' : World} {aw : Nat} {g g' : Option Nat} (H : TXb w R a S B dv hv tv) (hW : Wrote aw g g' w w') (ha : R aw = .no) (hg : ∀ k, g = some k → R k = .no) : TXb w' R a S B dv hv tv ∧ ∀ k, g' = some k → R k = .no := by
  refine ⟨H.keep hW.keeps fun k hk h => ?_, fun k e => ?_⟩
  · rcases h with h | h
    · rw [h] at hk; exact hk ha
    · exact hk (hg k h)
  · rcases hW.row with h | ⟨j, h, hj⟩
    · rw [h] at e; exact hg k e
    · rw [h] at e
      cases e
      by_cases hr : R k = .no
      · exact hr
      · have := H.lim k hr; omega
theorem Wrote.then {aw : Nat} {g1 g2 g3 : Option Nat} {w1 w2 w3 : World} (h : Wrote aw g1 g2 w1 w2) (k : Wrote aw g2 g3 w2 w3) : Wrote aw g1 g3 w1 w3 := h.trans k

set_option maxHeartbeats 8000000 in
set_option maxRecDepth 100000 in
theorem save_w (o : Ok S pa nm) (hnx : S.next ≤ 9000000000000000000) {base aw : Nat} (hra : R aw = .no) (F : Nat) : ∀ (x : Th), x ∈ S.ths → ∀ (b : List UInt8), saveO S.ths F x.id = some b → ∀ (w : World), TXb w R a S B dv hv tv → ∀ (g : Option Nat) (bs : List UInt8), WS w base aw g bs → (∀ k, g = some k → R k = .no) → bs.length + b.length + 200 ≤ 140737488355328 →
    Calls Try.prog 40 #[.pointer (some ⟨B x.id, 0, none⟩), .pointer (some ⟨aw, 0, none⟩)] w fun e w' => e = .returned (.tuple #[]) ∧ ∃ g', WS w' base aw g' (bs ++ b) ∧ Wrote aw g g' w w' := by
  induction F with
  | zero => intro _ _ _ h; cases h
  | succ F ih =>
    intro x hx b h w H g bs hW hrg hl
    have hf := findT_nat o.inc hx rfl
    rw [saveO_eq hf] at h
    split at h
    case isFalse => cases h
    next ha =>
    have ha := List.all_eq_true.1 ha
    obtain rfl := Option.some.inj h
    obtain ⟨f, hfd⟩ : ∃ f : Nat → List UInt8, f = fun j => (saveO S.ths F j).getD [] := ⟨_, rfl⟩
    have HFC : Hid (∀ e ∈ x.h, saveO S.ths F e.2 = some (f e.2)) := fun e he => by
      obtain ⟨c, hc⟩ := Option.isSome_iff_exists.1 (ha e he)
      rw [hc, hfd]; simp only [hc, Option.getD_some]
    rw [← hfd] at hl ⊢
    have HCH : Hid (∀ e ∈ x.h, ∃ y ∈ S.ths, y.id = e.2) := fun e he => ((o.held x hx e.1 e.2).1 he).2.1
    have HNS := hidden (fun e (he : e ∈ x.h) => o.nsize hx he)
    have HIH := hidden ih
    have hat := (o.att x hx).1
    have hhl := o.hlen hx
    have hidl := o.lt x hx
    have hds := o.dsize hx
    have hHL : (hdrB x ++ heldB f x.h).length = 8 + 1 + (putA x.a).length + x.d.length + 4 + (heldB f x.h).length := by
      unfold hdrB
      simp only [List.length_append, be_length, List.length_cons, List.length_nil]
    rw [hHL] at hl
    have HAL := hidden (putA_le x.a)
    have HH := hidden H
    have HX := hidden hx
    have HWS := hidden hW
    have HRG := hidden hrg
    have hT := H.th x hx
    have c0 := hT.c0
    clear H hW hrg ih h hf ha hfd hHL
    go_enter Try.func40, Try.ntmps40
    have hcv : IntKind.u64.wrap (x.id : Int) = (x.id : Int) := by simp [IntKind.wrap, IntKind.bits, IntKind.signed]; omega
    go_wp2_with fail
    refine (u64_c (x.id : Int) (by omega) (by omega) _ HWS.out (by omega)).mono ?_
    rintro e w1 ⟨rfl, g1, hW1, hw1⟩
    rw [Int.toNat_natCast] at hW1
    obtain ⟨H1, hr1⟩ := HH.out.wrote hw1 hra HRG.out
    have HW1 := hidden hW1
    have HR1 := hidden hw1
    have HH1 := hidden H1
    have HG1 := hidden hr1
    have c1 := (H1.th x HX.out).c1
    have hl1 := be_length 8 x.id
    clear hW1 hw1 H1 hr1 c0
    go_wp2_with fail
    refine (bool_c x.dir _ HW1.out (by rw [List.length_append, hl1]; omega)).mono ?_
    rintro e w2 ⟨rfl, g2, hW2, hw2⟩
    obtain ⟨H2, hr2⟩ := HH1.out.wrote hw2 hra HG1.out
    have HW2 := hidden hW2
    have HR2 := hidden (HR1.out.trans hw2)
    have HH2 := hidden H2
    have HG2 := hidden hr2
    obtain ⟨c2, c3, c4, c5, c6, c7, c8⟩ := (H2.th x HX.out).ca
    clear hW2 hw2 H2 hr2 c1
    go_wp2_with fail
    refine (put_c x.a hat _ HW2.out (by rw [List.length_append, List.length_append, hl1]; simp; omega)).mono ?_
    rintro e w3 ⟨rfl, g3, hW3, hw3⟩
    obtain ⟨H3, hr3⟩ := HH2.out.wrote hw3 hra HG2.out
    have HW3 := hidden hW3
    have HR3 := hidden (HR2.out.trans hw3)
    have HH3 := hidden H3
    have HG3 := hidden hr3
    have c9 := (H3.th x HX.out).c9
    obtain ⟨dao, dcap, hdv⟩ := (H3.dat x HX.out).len
    have hbd := (H3.dat x HX.out).bsl
    rw [hdv] at c9 hbd
    have HBD := hidden hbd
    have HL3 := hidden (show (bs ++ be 8 x.id ++ [bit x.dir] ++ putA x.a).length + x.d.length + 100 ≤ 140737488355328 by rw [List.length_append, List.length_append, List.length_append, hl1]; simp only [List.length_cons, List.length_nil]; omega)
    clear hbd
    clear hW3 hw3 H3 hr3 c2 c3 c4 c5 c6 c7 c8
    go_wp2_with fail
    refine (raw_c _ x.d _ HBD.out HW3.out (by have := HL3.out; omega)).mono ?_
    rintro e w4 ⟨rfl, g4, hW4, hw4⟩
    obtain ⟨H4, hr4⟩ := HH3.out.wrote hw4 hra HG3.out
    have HW4 := hidden hW4
    have HR4 := hidden (HR3.out.trans hw4)
    have HH4 := hidden H4
    have HG4 := hidden hr4
    have c10 := (H4.th x HX.out).c10
    obtain ⟨hao, hcap, hhv, hhc, hhm, hhn⟩ := (H4.hel x HX.out).shape
    rw [hhv] at c10
    unfold maxLen at hhm
    have hcl : IntKind.u32.wrap (x.h.length : Int) = (x.h.length : Int) := by simp [IntKind.wrap, IntKind.bits, IntKind.signed]; omega
    clear hW4 hw4 H4 hr4 c9
    go_wp2_with fail
    refine (u32_c (x.h.length : Int) (by omega) (by omega) _ HW4.out (by rw [List.length_append, List.length_append, List.length_append, List.length_append, hl1]; simp; omega)).mono ?_
    rintro e w5 ⟨rfl, g5, hW5, hw5⟩
    rw [Int.toNat_natCast] at hW5
    have hW5b : WS w5 base aw g5 (bs ++ hdrB x) := by
      have e : bs ++ hdrB x = bs ++ be 8 x.id ++ [bit x.dir] ++ putA x.a ++ x.d ++ be 4 x.h.length := by unfold hdrB; simp [List.append_assoc]
      rw [e]; exact hW5
    have hhdl : (hdrB x).length = 8 + 1 + (putA x.a).length + x.d.length + 4 := by
      unfold hdrB
      simp only [List.length_append, be_length, List.length_cons, List.length_nil]
    obtain ⟨H5, hr5⟩ := HH4.out.wrote hw5 hra HG4.out
    have HW5 := hidden hW5b
    have HR5 := hidden (HR4.out.trans hw5)
    have HH5 := hidden H5
    have HG5 := hidden hr5
    have c50 := (H5.th x HX.out).c10
    rw [hhv] at c50
    clear hW5 hW5b hw5 H5 hr5 c10
    go_wp2_with fail
    go_loopw [44] (fun c wr => ∃ (k : Nat) (gk : Option Nat), c = .int .i64 k ∧ k ≤ x.h.length ∧ WS wr base aw gk (bs ++ hdrB x ++ heldB f (x.h.take k)) ∧ Wrote aw g gk w wr ∧ TXb wr R a S B dv hv tv ∧ ∀ k, gk = some k → R k = .no) (fun c _ => x.h.length - (intOf c).toNat)
    case atStart => exact ⟨0, g5, rfl, Nat.zero_le _, by simpa [heldB] using HW5.out, HR5.out, HH5.out, HG5.out⟩
    case round =>
      obtain ⟨k, gk, rfl, hk, hwk, hwr, hxk, hgk⟩ := hrel
      have HWk := hidden hwk
      have HRk := hidden hwr
      have HHk := hidden hxk
      have HGk := hidden hgk
      clear hwk hwr hxk hgk
      by_cases hlt : k < x.h.length
      · have hi1 : (k : Int) < (x.h.length : Int) := by omega
        obtain ⟨eg, rfl⟩ := hhn (by intro e; rw [e] at hlt; simp at hlt)
        have hE := HHk.out.hel x HX.out
        rw [hhv] at hE
        obtain ⟨e0, e1⟩ := hE.at k hlt
        have HTK := hidden (heldB_take f x.h k hlt)
        have hle := heldB_take_le f x.h (k + 1)
        have hmem : x.h[k] ∈ x.h := List.getElem_mem hlt
        have HF := hidden (HFC.out _ hmem)
        obtain ⟨y, hy, hye⟩ := HCH.out _ hmem
        have hns := HNS.out _ hmem
        clear hE hmem
        generalize x.h[k] = en at e0 e1 HTK HF hye hns
        rw [HTK.out, List.length_append, List.length_append, textBytes_length] at hle
        have HYE := hidden hye
        clear hye
        have hsl := size_len en.1
        go_wp2_with fail
        have hlA : (bs ++ hdrB x ++ heldB f (x.h.take k)).length = bs.length + (hdrB x).length + (heldB f (x.h.take k)).length := by simp only [List.length_append]
        refine (text_c en.1 (by omega) _ (HWk.out.alloc _) (by rw [hlA, hhdl]; omega)).mono ?_
        rintro e w6 ⟨rfl, g6, hW6, hw6⟩
        have hw6b := wrote_alloc hw6
        obtain ⟨H6, hr6⟩ := HHk.out.wrote hw6b hra HGk.out
        have HW6 := hidden hW6
        have HR6 := hidden (HRk.out.trans hw6b)
        have HH6 := hidden H6
        have HG6 := hidden hr6
        have cE : w6.cell? ⟨wr.heap.size, 1, none⟩ = some (.pointer (some ⟨B en.2, 0, none⟩)) := by
          refine hw6.keeps.cell (p := ⟨wr.heap.size, 1, none⟩) ?_ ?_
          · have := heap_alloc_new wr (.cells #[.string en.1, .pointer (some ⟨B en.2, 0, none⟩)] 83)
            unfold World.cell?
            simp only [this]
            rfl
          · rintro (h | h)
            · have := HWk.out.lt
              simp only at h
              omega
            · have := (HWk.out.rowLt _ h).2
              simp only at this
              omega
        clear hW6 hw6 hw6b H6 hr6
        go_wp2_with fail
        have hl6 : (bs ++ hdrB x ++ heldB f (x.h.take k) ++ textBytes en.1.data.toList).length + (f en.2).length + 200 ≤ 140737488355328 := by
          rw [List.length_append, hlA, textBytes_length, hhdl]
          omega
        have hcall := HIH.out y hy (f en.2) (by rw [HYE.out]; exact HF.out) w6 HH6.out g6 _ HW6.out HG6.out hl6
        rw [HYE.out] at hcall
        refine hcall.mono ?_
        rintro e w7 ⟨rfl, g7, hW7, hw7⟩
        obtain ⟨H7, hr7⟩ := HH6.out.wrote hw7 hra HG6.out
        have HW7 := hidden hW7
        have HR7 := hidden (HR6.out.trans hw7)
        have HH7 := hidden H7
        have HG7 := hidden hr7
        clear hW7 hw7 H7 hr7
        have c70 := (HH7.out.th x HX.out).c10
        rw [hhv] at c70
        go_wp2_with fail
        go_roundw
        case rel =>
          refine ⟨k + 1, g7, by go_num, hlt, ?_, HR7.out, HH7.out, HG7.out⟩
          rw [HTK.out, ← List.append_assoc, ← List.append_assoc]
          exact HW7.out
        case measure => simp [intOf]; omega
      · obtain rfl : k = x.h.length := by omega
        have hi1 : ¬ ((x.h.length : Nat) : Int) < (x.h.length : Int) := by omega
        go_wp2_with fail
        go_end0
        refine ⟨rfl, gk, ?_, HRk.out⟩
        have := HWk.out
        rw [List.take_length] at this
        rw [← List.append_assoc]
        exact this
end

section
variable {w : World} {R : Nat → Role} {a : Nat} {S : Tr} {B : Nat → Nat} {dv hv : Nat → Value} {tv : Value} {pa : Nat → Nat} {nm : Nat → Nm}
/-- What a call of Save gives: the tree's bytes, in memory of their own. -/
def SavePost (w : World) (S : Tr) (e : Ending) (w' : World) : Prop :=
  ∃ v b, e = .returned v ∧ savesTo S b ∧ b.length ≤ 220000008 ∧ w'.ownsRow w.heap.size 5 1 v b.length (bcells b) ∧ Below w.heap.size w w'
set_option maxHeartbeats 4000000 in
set_option maxRecDepth 100000 in
theorem save_c (H : TXb w R a S B dv hv tv) (o : Ok S pa nm) (hnx : S.next ≤ 9000000000000000000) :
    Calls Try.prog 19 #[.pointer (some ⟨a, 0, none⟩)] w (SavePost w S) := by
  have HO := hidden o
  obtain ⟨F, r, hsr⟩ := o.savesRoot
  have hrl := o.root_len hsr
  have HS := hidden hsr
  have hal := lt_of_block H.top
  have hra : R w.heap.size = .no := by
    by_cases e : R w.heap.size = .no
    · exact e
    · have := H.lim _ e; omega
  have HRA := hidden hra
  have hH := H.still ((Keeps.refl (fun _ => False) w).alloc (.cells #[.slice none 0 0] 109))
  have hW := WS.new w (base := w.heap.size) (Nat.le_refl _)
  have c1 := hH.t1
  have hcv : IntKind.u64.wrap (S.next : Int) = (S.next : Int) := by simp [IntKind.wrap, IntKind.bits, IntKind.signed]; omega
  have HH := hidden hH
  have HW := hidden hW
  clear H o hH hsr hra hW
  go_enter Try.func19, Try.ntmps19
  go_wp2_with fail
  refine (newWriter_c _).mono ?_
  rintro e w0 ⟨rfl, hw0⟩
  rw [← hw0] at c1
  have HH0 := hidden (show TXb w0 R a S B dv hv tv by rw [hw0]; exact HH.out)
  have HW0 := hidden (show WS w0 w.heap.size w.heap.size none [] by rw [hw0]; exact HW.out)
  have HB0 := hidden (show Below w.heap.size w w0 by rw [hw0]; exact (Below.refl _ w).alloc (Nat.le_refl _) _)
  clear hw0
  go_wp2_with fail
  refine (u64_c (S.next : Int) (by omega) (by omega) _ HW0.out (by simp)).mono ?_
  rintro e w1 ⟨rfl, g1, hW1, hw1⟩
  rw [Int.toNat_natCast, List.nil_append] at hW1
  obtain ⟨H1, hr1⟩ := HH0.out.wrote hw1 HRA.out (fun k e => by cases e)
  have c0 := H1.t0
  obtain ⟨r0, t0, hr, hr0, _⟩ := HO.out.root
  obtain ⟨ao, cap, htv, hc, hcm, hne⟩ := H1.prow.shape
  have hlen : 0 < S.ths.length := by rw [hr]; simp
  obtain ⟨g, rfl⟩ := hne (by rw [hr]; simp)
  rw [htv] at c0
  obtain ⟨c2, _⟩ := (htv ▸ H1.prow).at 0 hlen
  have hr1' : S.ths[0].id = 0 := by simp only [hr]; exact hr0
  rw [hr1'] at c2
  have hli : (0 : Int) < (S.ths.length : Int) := by omega
  have HH1 := hidden H1
  have HW1 := hidden hW1
  have HR1 := hidden hw1
  have HG1 := hidden hr1
  have hb8 := be_length 8 S.next
  clear H1 hW1 hw1 hr1 hr hr0 hr1' hne c1 htv
  go_wp2_with fail
  obtain ⟨x, hx, hx0⟩ := HO.out.rootMem
  have hcall := save_w HO.out hnx (base := w.heap.size) HRA.out F x hx r (by rw [hx0]; exact HS.out) w1 HH1.out g1 _ HW1.out HG1.out (by rw [hb8]; omega)
  rw [hx0] at hcall
  refine hcall.mono ?_
  rintro e w2 ⟨rfl, g2, hW2, hw2⟩
  have HW2 := hidden hW2
  have HR2 := hidden (HR1.out.trans hw2)
  clear hcall hW2 hw2 c0 c2
  go_wp2_with fail
  refine (done_c _ HW2.out (by rw [List.length_append, hb8]; omega)).mono ?_
  rintro e w3 ⟨v', rfl, hown, hb3⟩
  have hs2 : w.heap.size ≤ w2.heap.size := Nat.le_trans HB0.out.size HR2.out.keeps.size
  have hbelow : Below w.heap.size w w3 := HB0.out.trans ((HR2.out.keeps.below HB0.out.size fun k hk => hk.elim (fun h => by omega) (fun h => by cases h)).trans (hb3.mono hs2))
  have HP : Hid (SavePost w S (.returned v') w3) := ⟨v', _, rfl, ⟨F, r, HS.out, rfl⟩, by rw [List.length_append, hb8]; omega, ownsRow_mono hown hs2, hbelow⟩
  clear hown hb3 hbelow
  go_wp2_with fail
  go_ret
  exact HP.out
end

/-- What is told of a directory: each name, and the attributes of the thing there. -/
def attrsOf (S : Tr) (j : Nat) : At := match findT S.ths j with
  | none => zeroA
  | some y => y.a
def listT (S : Tr) (i : Int) : List (Nm × At) × Nat := match findT S.ths i with
  | none => ([], 22)
  | some x => if x.dir then (x.h.map fun e => (e.1, attrsOf S e.2), 0) else ([], 23)
/-- The cells of such names. -/
def nameC (e : Nm × At) : List Value := [.string e.1, .int .u32 e.2.f, .int .u64 e.2.s, .int .u32 e.2.u, .int .u32 e.2.g, .int .u32 e.2.m, .int .u32 e.2.a, .int .u32 e.2.t]
def nameCs (l : List (Nm × At)) : List Value := l.flatMap nameC
theorem nameCs_length (l : List (Nm × At)) : (nameCs l).length = l.length * 8 := by
  unfold nameCs
  induction l with
  | nil => rfl
  | cons e l ih => rw [List.flatMap_cons, List.length_append, ih, List.length_cons]; show 8 + _ = _; omega
theorem nameCs_snoc (l : List (Nm × At)) (e : Nm × At) : nameCs (l ++ [e]) = nameCs l ++ nameC e := by simp [nameCs, List.flatMap_append]
theorem Try.infoName : (Try.prog.info? 86).map (fun i => (i.zero, i.size, i.bytes)) = some (some (.agg #[.string ⟨#[]⟩, .int .u32 0, .int .u64 0, .int .u32 0, .int .u32 0, .int .u32 0, .int .u32 0, .int .u32 0]), 8, 56) := by kernel_rfl
theorem nameC_one (e : Nm × At) : ∀ u ∈ nameC e, u.oneCell' = true := by
  intro u hu
  unfold nameC at hu
  simp only [List.mem_cons, List.not_mem_nil, or_false] at hu
  rcases hu with rfl | rfl | rfl | rfl | rfl | rfl | rfl | rfl <;> rfl

section
variable {w : World} {R : Nat → Role} {a : Nat} {S : Tr} {B : Nat → Nat} {dv hv : Nat → Value} {tv : Value} {pa : Nat → Nat} {nm : Nat → Nm}
/-- What a call of List gives. -/
def ListPost (w : World) (r : List (Nm × At) × Nat) (e : Ending) (w' : World) : Prop :=
  ∃ v, e = .returned (.tuple #[v, .int .i64 r.2]) ∧ w'.ownsRow w.heap.size 86 8 v r.1.length (nameCs r.1) ∧ Below w.heap.size w w'
set_option maxHeartbeats 4000000 in
set_option maxRecDepth 100000 in
theorem list_c (H : TXb w R a S B dv hv tv) (o : Ok S pa nm) (i : Int) :
    Calls Try.prog 18 #[.pointer (some ⟨a, 0, none⟩), .int .i64 i] w (ListPost w (listT S i)) := by
  have HH := hidden H
  have HI := hidden o.inc
  have HO := hidden o
  have HR : Hid (listT S i = match findT S.ths i with | none => ([], 22) | some x => if x.dir then (x.h.map fun e => (e.1, attrsOf S e.2), 0) else ([], 23)) := rfl
  generalize listT S i = rr at HR ⊢
  clear H o
  go_enter Try.func18, Try.ntmps18
  go_wp2_with fail
  refine (find_c HH.out HO.out i).mono ?_
  rintro e w1 ⟨rfl, hb⟩
  have HB := hidden hb
  have H1 := hidden (HH.out.fresh hb)
  clear hb
  cases hf : findT S.ths i with
  | none =>
    rw [hf] at HR
    rw [show ptrT B none = .pointer none from rfl]
    clear hf
    go_wp2_with fail
    have hx := HR.out
    subst hx
    go_ret2
    exact ⟨_, rfl, World.ownsRow_nil _ _ _ _, HB.out⟩
  | some x =>
    rw [hf] at HR
    obtain ⟨hx, _⟩ := (findT_some HI.out _ _).1 hf
    have c1 := (H1.out.th x hx).c1
    have HX := hidden hx
    have HCH : Hid (∀ e ∈ x.h, ∃ y ∈ S.ths, y.id = e.2) := fun e he => ((HO.out.held x hx e.1 e.2).1 he).2.1
    have HNS := hidden (fun e (he : e ∈ x.h) => HO.out.nsize hx he)
    have c10 := (H1.out.th x hx).c10
    obtain ⟨hao, hcap, hhv, hhc, hhm, hhn⟩ := (H1.out.hel x hx).shape
    have hhl := HO.out.hlen hx
    rw [hhv] at c10
    unfold maxLen at hhm
    rw [show ptrT B (some x) = .pointer (some ⟨B x.id, 0, none⟩) from rfl]
    clear hf hx
    cases hd : x.dir with
    | false =>
      rw [hd] at c1
      go_wp2_with fail
      have hx := HR.out
      simp only [hd] at hx
      subst hx
      go_ret2
      exact ⟨_, rfl, World.ownsRow_nil _ _ _ _, HB.out⟩
    | true =>
      rw [hd] at c1
      go_wp2_with fail
      obtain ⟨L, hL⟩ : ∃ L : List (Nm × At), L = x.h.map fun e => (e.1, attrsOf S e.2) := ⟨_, rfl⟩
      have HL := hidden hL
      have HLL : Hid (L.length = x.h.length) := by show _ = _; rw [hL, List.length_map]
      clear hL
      go_loopw [7, 25] (fun l c wr => ∃ k : Nat, c = .int .i64 k ∧ k ≤ x.h.length ∧ wr.ownsRow w.heap.size 86 8 l k (nameCs (L.take k)) ∧ Below w.heap.size w wr) (fun _ c _ => x.h.length - (intOf c).toNat)
      case atStart => exact ⟨0, rfl, Nat.zero_le _, World.ownsRow_nil _ _ _ _, HB.out⟩
      case round =>
        obtain ⟨k, rfl, hk, hown, hb⟩ := hrel
        have HOW := hidden hown
        have HBW := hidden hb
        have hHr := HH.out.fresh hb
        obtain ⟨lo, lc, rfl⟩ := ownsRow_shape hown
        clear hown hb
        by_cases hlt : k < x.h.length
        · have hi1 : (k : Int) < (x.h.length : Int) := by omega
          obtain ⟨eg, rfl⟩ := hhn (by intro e; rw [e] at hlt; simp at hlt)
          have hE := hHr.hel x HX.out
          rw [hhv] at hE
          obtain ⟨e0, e1⟩ := hE.at k hlt
          have hmem : x.h[k] ∈ x.h := List.getElem_mem hlt
          obtain ⟨y, hy, hye⟩ := HCH.out _ hmem
          have hns := HNS.out _ hmem
          have HTK : Hid (L.take (k + 1) = L.take k ++ [((x.h[k]).1, y.a)]) := by
            show _ = _
            rw [List.take_succ_eq_append_getElem (by rw [HLL.out]; exact hlt)]
            congr 1
            simp only [HL.out, List.getElem_map, List.cons.injEq, and_true]
            rw [attrsOf, ← hye, findT_nat HI.out hy rfl]
          have HYE := hidden hye
          have HY := hidden hy
          have HHr := hidden hHr
          clear hE hmem hye hy hHr
          generalize x.h[k] = en at e0 e1 HTK HYE hns
          go_wp2_with fail
          obtain ⟨w2, hw2⟩ : ∃ W, W = wr.alloc (.cells #[.string en.1, .pointer (some ⟨B en.2, 0, none⟩)] 83) := ⟨_, rfl⟩
          rw [← hw2]
          have hHw2 : TXb w2 R a S B dv hv tv := by rw [hw2]; exact HHr.out.still ((Keeps.refl (fun _ => False) wr).alloc _)
          have hsz2 : w2.heap.size = wr.heap.size + 1 := by rw [hw2]; simp
          have hblk : w2.heap[wr.heap.size]? = some (.cells #[.string en.1, .pointer (some ⟨B en.2, 0, none⟩)] 83 (0, 0)) := by rw [hw2]; exact heap_alloc_new wr _
          have how2 : w2.ownsRow w.heap.size 86 8 (.slice lo k lc) k (nameCs (L.take k)) := by rw [hw2]; exact HOW.out.alloc _
          have hbw2 : Below w.heap.size w w2 := by rw [hw2]; exact HBW.out.alloc HBW.out.size _
          have HCells : Hid (∀ W, Below w2.heap.size w2 W → (W.cell? ⟨wr.heap.size, 0, none⟩ = some (.string en.1) ∧ W.cell? ⟨wr.heap.size, 1, none⟩ = some (.pointer (some ⟨B en.2, 0, none⟩))) ∧ W.cell? ⟨B en.2, 2, none⟩ = some (.int .u32 y.a.f) ∧ W.cell? ⟨B en.2, 3, none⟩ = some (.int .u64 y.a.s) ∧ W.cell? ⟨B en.2, 4, none⟩ = some (.int .u32 y.a.u) ∧ W.cell? ⟨B en.2, 5, none⟩ = some (.int .u32 y.a.g) ∧ W.cell? ⟨B en.2, 6, none⟩ = some (.int .u32 y.a.m) ∧ W.cell? ⟨B en.2, 7, none⟩ = some (.int .u32 y.a.a) ∧ W.cell? ⟨B en.2, 8, none⟩ = some (.int .u32 y.a.t)) := fun W hW => by
            have h1 := ((hHw2.fresh hW).th y HY.out).ca
            rw [HYE.out] at h1
            refine ⟨?_, h1⟩
            have h2 : W.heap[wr.heap.size]? = _ := (hW.block wr.heap.size (by omega)).trans hblk
            constructor <;> (unfold World.cell?; simp only [h2]; rfl)
          have HAP : Hid (∀ W, Below w2.heap.size w2 W → ∃ v' w', (Builtin.append_ #[51, 51] 51 #[.slice lo k lc, .slice (some ⟨W.heap.size, 0, none⟩) 1 1]).run Try.prog (W.alloc (.cells (nameC (en.1, y.a)).toArray 86)) = .ok v' w' ∧ w'.ownsRow w.heap.size 86 8 v' (k + 1) (nameCs (L.take (k + 1))) ∧ Below w.heap.size w w') := fun W hW => by
            obtain ⟨i0, hi, hz0, hz1, hz2⟩ := info_parts Try.infoName
            have hsW := hW.size
            have ho := ((Keeps.ofFresh hW).row how2 (fun _ _ h => h)).alloc (.cells (nameC (en.1, y.a)).toArray 86)
            obtain ⟨v', w', hr, hown, hg, _⟩ := run_append_own (P := Try.prog) (W.alloc (.cells (nameC (en.1, y.a)).toArray 86)) w.heap.size 51 51 86 i0 _ 8 56 Try.underlying51 hi hz0 hz1 hz2 rfl (by omega) _ _ _ ho ⟨W.heap.size, 0, none⟩ 1 1 (nameC (en.1, y.a)) rfl (World.news_of_block (t := 86) (fr := (0, 0)) (heap_alloc_new W _)) (nameC_one _) (by unfold maxLen; omega) (by omega) (by have := hbw2.size; simp; omega)
            refine ⟨v', w', hr, ?_, ?_⟩
            · rw [HTK.out, nameCs_snoc]
              exact hown
            · refine hbw2.trans ((hW.mono hbw2.size).trans ?_)
              exact ((Below.refl w.heap.size W).alloc (by have := hbw2.size; omega) _).trans (Keeps.below (Keeps.ofGrown hg fun k e => e) (by have := hbw2.size; simp; omega) fun k' e => (ho.lt k' e).1)
          clear how2 hbw2 hHw2 hblk hw2 e0 e1
          obtain ⟨⟨k0, k1⟩, k2, k3, k4, k5, k6, k7, k8⟩ := HCells.out w2 (Below.refl _ _)
          go_region_law (first
            | (go_simp; go_at_call 37; refine (sclone_c en.1 _ (by omega)).mono ?_; rintro e w3 ⟨rfl, hb3⟩; have HB3 := hidden (((Below.refl w2.heap.size w2).drew).trans hb3); obtain ⟨⟨m0, m1⟩, m2, m3, m4, m5, m6, m7, m8⟩ := HCells.out w3 HB3.out; clear hb3)
            | (obtain ⟨v4, w4, hrun, ho4, hb4⟩ := HAP.out w3 HB3.out; refine step_append_run _ rfl (.tmp 29) (.tmp 39) 51 51 rfl _ _ (by simp [Act.eval]) (by simp [Act.eval]) hrun ?_))
          all_goals
            have HO4 := hidden ho4
            have HB4 := hidden hb4
            clear ho4 hb4 k0 k1 k2 k3 k4 k5 k6 k7 k8 m0 m1 m2 m3 m4 m5 m6 m7 m8
            go_wp2_with fail
            go_roundw
            case rel => exact ⟨k + 1, by go_num, hlt, HO4.out, HB4.out⟩
            case measure => simp [intOf]; omega
        · obtain rfl : k = x.h.length := by omega
          have hi1 : ¬ ((x.h.length : Nat) : Int) < (x.h.length : Int) := by omega
          go_wp2_with fail
          go_ret2
          have hx := HR.out
          simp only [hd, if_true] at hx
          rw [← HL.out] at hx
          subst hx
          refine ⟨.slice lo x.h.length lc, rfl, ?_, HBW.out⟩
          have h1 := HOW.out
          have h2 : L.take x.h.length = L := by rw [← HLL.out, List.take_length]
          rw [h2] at h1
          show wr.ownsRow _ _ _ _ L.length (nameCs L)
          rw [HLL.out]
          exact h1
end

theorem findT_mapd (l : List Th) (g : Th → Th) (hg : ∀ z, (g z).id = z.id) (i : Int) : findT (l.map g) i = (findT l i).map g := by
  unfold findT
  rw [List.find?_map]
  simp only [Function.comp_def, hg]
/-- What becomes of a thing when something moves. -/
def movedT (i1 i2 : Nat) (n1 n2 : Nm) (j : Nat) (z : Th) : Th := if z.id = i2 then putH n2 j (if z.id = i1 then cutH n1 z else z) else (if z.id = i1 then cutH n1 z else z)
theorem movedT_eq (l : List Th) (i1 i2 : Nat) (n1 n2 : Nm) (j : Nat) : setT (setT l i1 (cutH n1)) i2 (putH n2 j) = l.map (movedT i1 i2 n1 n2 j) := by
  unfold setT
  rw [List.map_map]
  apply List.map_congr_left
  intro z _
  simp only [Function.comp, movedT]
  by_cases e1 : z.id = i1
  · rw [if_pos e1]; rfl
  · rw [if_neg e1]
theorem movedT_id (i1 i2 : Nat) (n1 n2 : Nm) (j : Nat) (z : Th) : (movedT i1 i2 n1 n2 j z).id = z.id := by unfold movedT; split <;> split <;> rfl
theorem movedT_dir (i1 i2 : Nat) (n1 n2 : Nm) (j : Nat) (z : Th) : (movedT i1 i2 n1 n2 j z).dir = z.dir := by unfold movedT; split <;> split <;> rfl
theorem movedT_a (i1 i2 : Nat) (n1 n2 : Nm) (j : Nat) (z : Th) : (movedT i1 i2 n1 n2 j z).a = z.a := by unfold movedT; split <;> split <;> rfl
theorem movedT_d (i1 i2 : Nat) (n1 n2 : Nm) (j : Nat) (z : Th) : (movedT i1 i2 n1 n2 j z).d = z.d := by unfold movedT; split <;> split <;> rfl

section
variable {S : Tr} {pa : Nat → Nat} {nm : Nat → Nm}
/-- What lies where tells what is held. -/
theorem Ok.ext {m : Nat} {g : Th → Th} {pa' : Nat → Nat} {nm' : Nat → Nm} (o : Ok S pa nm) (k : Ok ⟨S.ths.map g, m⟩ pa' nm') (h1 : ∀ z, (g z).id = z.id) (h2 : ∀ z, (g z).dir = z.dir) (h3 : ∀ z, (g z).a = z.a) (h4 : ∀ z, (g z).d = z.d)
    (hp : ∀ i, pa' i = pa i) (hn : ∀ i, nm' i = nm i) : S.ths.map g = S.ths := by
  conv => rhs; rw [← List.map_id S.ths]
  apply List.map_congr_left
  intro z hz
  have hgz : g z ∈ S.ths.map g := List.mem_map_of_mem hz
  have hh : (g z).h = z.h := by
    refine srt_ext (k.srt _ hgz) (o.srt z hz) ?_
    rintro ⟨n, j⟩
    rw [k.held _ hgz, o.held z hz, hp, hn, h1]
    have : (∃ y ∈ S.ths.map g, y.id = j) ↔ ∃ y ∈ S.ths, y.id = j := by
      constructor
      · rintro ⟨y, hy, e⟩
        obtain ⟨u, hu, rfl⟩ := List.mem_map.1 hy
        exact ⟨u, hu, by rw [← h1 u]; exact e⟩
      · rintro ⟨y, hy, e⟩
        exact ⟨g y, List.mem_map_of_mem hy, by rw [h1]; exact e⟩
    rw [show (∃ y ∈ (⟨S.ths.map g, m⟩ : Tr).ths, y.id = j) ↔ ∃ y ∈ S.ths, y.id = j from this]
  have a1 := h1 z
  have a2 := h2 z
  have a3 := h3 z
  have a4 := h4 z
  generalize g z = y at *
  obtain ⟨y1, y2, y3, y4, y5⟩ := y
  obtain ⟨z1, z2, z3, z4, z5⟩ := z
  simp only at a1 a2 a3 a4 hh
  subst a1 a2 a3 a4 hh
  rfl
/-- What does not lie under what moves stays at its path. -/
theorem Ok.stays {S' : Tr} {pa' : Nat → Nat} {nm' : Nat → Nm} {j : Nat} (o : Ok S pa nm) (k : Ok S' pa' nm') (hid : ∀ i, (∃ y ∈ S'.ths, y.id = i) ↔ ∃ y ∈ S.ths, y.id = i) (hp : ∀ i, i ≠ j → pa' i = pa i) (hn : ∀ i, i ≠ j → nm' i = nm i) :
    ∀ (m : Nat) (r : List Nm) (i : Nat), r.length ≤ m → walkT S.ths 0 r = some i → ¬ Under S.ths j i → walkT S'.ths 0 r = some i := by
  intro m
  induction m with
  | zero =>
    intro r i hr h _
    obtain rfl : r = [] := List.eq_nil_of_length_eq_zero (by omega)
    exact h
  | succ m ih =>
    intro r i hr h hu
    rcases List.eq_nil_or_concat r with rfl | ⟨r', n, rfl⟩
    · exact h
    · rw [List.concat_eq_append] at h hr ⊢
      obtain ⟨x, hx, a1, a2, a3, a4, a5, a6⟩ := o.step o.rootMem h
      have hij : i ≠ j := by rintro rfl; exact hu ⟨[], rfl⟩
      have hux : ¬ Under S.ths j x.id := by
        rintro ⟨q, hq⟩
        refine hu ⟨q ++ [n], ?_⟩
        rw [walk_snoc, hq]
        simp only [findT_nat o.inc hx rfl]
        exact a2
      have h1 := ih r' x.id (by simp at hr; omega) a1 hux
      obtain ⟨y, hy, hye⟩ := (hid x.id).2 ⟨x, hx, rfl⟩
      rw [walk_snoc, h1]
      simp only [findT_nat k.inc hy hye]
      rw [getH_some (k.srt y hy), k.held y hy]
      exact ⟨a3, (hid i).2 a4, by rw [hp i hij, hye, a5], by rw [hn i hij, a6]⟩
theorem renameT_no {p q : List Nm} (h : (renameT S p q).1 ≠ 0) : (renameT S p q).2 = S := by
  unfold renameT at h ⊢
  split
  · rfl
  · next hc =>
    rw [if_neg hc] at h
    split
    · rfl
    · next j hj =>
      simp only [hj] at h
      split
      · rfl
      · next h1 =>
        rw [if_neg h1] at h
        split
        · rfl
        · next h2 => rw [if_neg h2] at h; exact absurd rfl h
/-- A thing that is moved is the same at the other place, and is gone from the first; moved back, all is as it was. -/
theorem Ok.moves (o : Ok S pa nm) {p q : List Nm} (h : (renameT S p q).1 = 0) : ∃ j S', renameT S p q = (0, S') ∧ walkT S.ths 0 p = some j ∧ walkT S.ths 0 q = none ∧ walkT S'.ths 0 q = some j ∧ walkT S'.ths 0 p = none ∧
    (∀ i, attrsT S' i = attrsT S i) ∧ listT S' j = listT S j ∧ renameT S' q p = (0, S) := by
  have hr := h
  unfold renameT at hr
  split at hr
  · cases hr
  next hpq =>
  have hpe : p ≠ [] := fun e => hpq (.inl e)
  have hqe : q ≠ [] := fun e => hpq (.inr e)
  split at hr
  · cases hr
  next j hj =>
  split at hr
  · next h1 => exact absurd hr h1
  next h1 =>
  split at hr
  · cases hr
  next h2 =>
  have h1' : (roomT S.ths q).2 = 0 := Classical.not_not.1 h1
  obtain ⟨i2, hi2⟩ := roomT_zero h1'
  obtain ⟨hright, hw, x2, hx2, hx2i, hx2d, hx2g⟩ := roomT_ok o hi2
  obtain ⟨x1, hx1, b1, b2, b3, b4, b5⟩ := o.walk_holder hpe hj
  have hU : ¬ Under S.ths j i2 := fun e => h2 ((o.leads hj hw hqe).2 e)
  obtain ⟨ok, _⟩ := o.rename hpe b1 hj hi2 hU
  have hval : renameT S p q = (0, ⟨setT (setT S.ths x1.id (cutH (lastN p))) i2 (putH (lastN q) j), S.next⟩) := by
    unfold renameT
    rw [if_neg hpq, hj]
    simp only
    rw [if_neg h1, if_neg h2, hi2, b1]
    rfl
  rw [movedT_eq] at hval ok
  generalize hg : movedT x1.id i2 (lastN p) (lastN q) j = g at hval ok
  have g1 : ∀ z, (g z).id = z.id := fun z => by rw [← hg]; exact movedT_id _ _ _ _ _ z
  have g2 : ∀ z, (g z).dir = z.dir := fun z => by rw [← hg]; exact movedT_dir _ _ _ _ _ z
  have g3 : ∀ z, (g z).a = z.a := fun z => by rw [← hg]; exact movedT_a _ _ _ _ _ z
  have g4 : ∀ z, (g z).d = z.d := fun z => by rw [← hg]; exact movedT_d _ _ _ _ _ z
  have hid : ∀ i, (∃ y ∈ S.ths.map g, y.id = i) ↔ ∃ y ∈ S.ths, y.id = i := fun i => by
    constructor
    · rintro ⟨y, hy, e⟩
      obtain ⟨u, hu, rfl⟩ := List.mem_map.1 hy
      exact ⟨u, hu, by rw [← g1 u]; exact e⟩
    · rintro ⟨y, hy, e⟩
      exact ⟨g y, List.mem_map_of_mem hy, by rw [g1]; exact e⟩
  obtain ⟨xj, hxj, hxje⟩ := o.walk_mem _ 0 o.rootMem j hj
  have hU1 : ¬ Under S.ths j x1.id := by
    rintro ⟨r, hr⟩
    have h3 : walkT S.ths 0 (p ++ r) = some x1.id := by rw [walk_append, hj]; exact hr
    have h4 := o.inj _ _ _ _ (Nat.le_refl _) b1 h3
    have h5 := congrArg List.length h4
    rw [List.length_dropLast, List.length_append] at h5
    have := List.length_pos_iff.2 hpe
    omega
  have st := o.stays ok hid (j := j) (fun i hi => upd_ne _ _ hi) (fun i hi => upd_ne _ _ hi)
  have w2 := st _ _ _ (Nat.le_refl _) hw hU
  have w1 := st _ _ _ (Nat.le_refl _) b1 hU1
  have hf : ∀ {z : Th}, z ∈ S.ths → findT (S.ths.map g) (z.id : Int) = some (g z) := fun {z} hz => by rw [findT_mapd _ _ g1, findT_nat o.inc hz rfl]; rfl
  have wq : walkT (S.ths.map g) 0 q = some j := by
    rw [last_split hqe, walk_snoc, show walkT (S.ths.map g) 0 q.dropLast = some i2 from w2]
    simp only
    rw [← hx2i, hf hx2]
    have := List.mem_map_of_mem (f := g) hx2
    simp only
    rw [getH_some (ok.srt _ this), ok.held _ this]
    exact ⟨b3, (hid j).2 ⟨xj, hxj, hxje⟩, by rw [upd_self, g1, hx2i], upd_self _ _ _⟩
  have hgn : getH (g x1).h (lastN p) = none := by
    rw [getH_none]
    intro k hk
    have hm := List.mem_map_of_mem (f := g) hx1
    obtain ⟨k0, ke, k1, k2⟩ := (ok.held _ hm _ _).1 hk
    rw [g1] at k1
    by_cases e : k = j
    · subst e
      rw [upd_self] at k1 k2
      have : x2 = x1 := o.inc.uniq hx2 hx1 (by rw [hx2i, k1])
      subst this
      rw [k2, b2] at hx2g
      cases hx2g
    · rw [upd_ne _ _ e] at k1 k2
      obtain ⟨y, hy, hye⟩ := (hid k).1 ke
      have := o.sib y hy xj hxj (by omega) (by omega) (by rw [hye, hxje, k1, b4]) (by rw [hye, hxje, k2, b5])
      omega
  have wp : walkT (S.ths.map g) 0 p = none := by
    rw [last_split hpe, walk_snoc, show walkT (S.ths.map g) 0 p.dropLast = some x1.id from w1]
    simp only
    rw [hf hx1]
    exact hgn
  have sq : walkT S.ths 0 q = none := by
    rw [last_split hqe, walk_snoc, hw]
    simp only
    rw [← hx2i, findT_nat o.inc hx2 rfl]
    exact hx2g
  have hx1d : x1.dir = true := by
    obtain ⟨u, hu, hu1, hu2⟩ := o.par xj hxj (by omega)
    have : u = x1 := o.inc.uniq hu hx1 (by rw [hu1, hxje, b4])
    rw [← this]; exact hu2
  have hroom : roomT (S.ths.map g) p = (x1.id, 0) := by
    unfold roomT
    have hrt := o.right xj hxj (by omega)
    rw [hxje, b5] at hrt
    rw [if_neg (by rw [hrt]; simp), show walkT (S.ths.map g) 0 p.dropLast = some x1.id from w1]
    simp only
    rw [hf hx1]
    simp only
    rw [if_neg (by rw [g2, hx1d]; simp), hgn]
    rfl
  have hU3 : ¬ Under (S.ths.map g) j x1.id := by
    rintro ⟨r, hr⟩
    have h3 : walkT (S.ths.map g) 0 (q ++ r) = some x1.id := by rw [walk_append, wq]; exact hr
    have h4 := ok.inj _ _ _ _ (Nat.le_refl _) h3 w1
    have h5 : walkT S.ths 0 (q ++ r) = none := by rw [walk_append, sq]
    rw [h4, b1] at h5
    cases h5
  have hld : ¬ Proofs.Ytnigfnikajejaaa.leads p q = true := fun e => hU3 ((ok.leads wq w1 hpe).1 e)
  obtain ⟨ok2, _⟩ := ok.rename (S := ⟨S.ths.map g, S.next⟩) hqe w2 wq hroom hU3
  rw [movedT_eq] at ok2
  have hback : renameT ⟨S.ths.map g, S.next⟩ q p = (0, S) := by
    unfold renameT
    rw [if_neg fun e => hpq e.symm, show walkT (⟨S.ths.map g, S.next⟩ : Tr).ths 0 q = some j from wq]
    simp only
    rw [if_neg (by rw [hroom]; simp), if_neg hld, hroom, show walkT (S.ths.map g) 0 q.dropLast = some i2 from w2]
    simp only [Option.getD_some]
    rw [movedT_eq]
    rw [List.map_map] at ok2 ⊢
    rw [o.ext ok2 (fun z => by simp only [Function.comp]; rw [movedT_id, g1]) (fun z => by simp only [Function.comp]; rw [movedT_dir, g2]) (fun z => by simp only [Function.comp]; rw [movedT_a, g3]) (fun z => by simp only [Function.comp]; rw [movedT_d, g4]) (fun i => ?_) (fun i => ?_)]
    · by_cases e : i = j
      · subst e; rw [upd_self, b4]
      · rw [upd_ne _ _ e, upd_ne _ _ e]
    · by_cases e : i = j
      · subst e; rw [upd_self, b5]
      · rw [upd_ne _ _ e, upd_ne _ _ e]
  have hat : ∀ i, attrsT ⟨S.ths.map g, S.next⟩ i = attrsT S i := fun i => by
    unfold attrsT
    rw [show findT (⟨S.ths.map g, S.next⟩ : Tr).ths i = (findT S.ths i).map g from findT_mapd _ _ g1 i]
    cases findT S.ths i with
    | none => rfl
    | some x => simp only [Option.map_some, g3]
  have hao : ∀ i, attrsOf ⟨S.ths.map g, S.next⟩ i = attrsOf S i := fun i => by
    unfold attrsOf
    rw [show findT (⟨S.ths.map g, S.next⟩ : Tr).ths i = (findT S.ths i).map g from findT_mapd _ _ g1 i]
    cases findT S.ths i with
    | none => rfl
    | some x => simp only [Option.map_some, g3]
  have hgj : g xj = xj := by
    rw [← hg]
    unfold movedT
    rw [if_neg (fun e => hU ⟨[], by rw [← e, hxje]; rfl⟩), if_neg (fun e => hU1 ⟨[], by rw [← e, hxje]; rfl⟩)]
  refine ⟨j, ⟨S.ths.map g, S.next⟩, hval, hj, sq, wq, wp, hat, ?_, hback⟩
  unfold listT
  rw [show findT (⟨S.ths.map g, S.next⟩ : Tr).ths (j : Int) = (findT S.ths j).map g from findT_mapd _ _ g1 j, findT_nat o.inc hxj hxje]
  simp only [Option.map_some, hgj, hao]
end

/-- An ask. -/
structure Ask where
  kind : Int
  id : Int
  P : List Nm
  To : List Nm
  dir : Bool
  at_ : Nat
  n : Nat
  b : List UInt8
  a : At
def askC (x : Ask) (pv tv bv : Value) : Array Value := #[.int .i64 x.kind, .int .i64 x.id, pv, tv, .bool x.dir, .int .u64 x.at_, .int .u32 x.n, bv, .int .u32 x.a.f, .int .u64 x.a.s, .int .u32 x.a.u, .int .u32 x.a.g, .int .u32 x.a.m, .int .u32 x.a.a, .int .u32 x.a.t]
/-- The ask as the laws take it. -/
def shortA (x : Ask) : Ask := { x with P := fewL x.P 5 32, To := fewL x.To 5 32, b := x.b.take 200 }
theorem sizeAsk : (Try.prog.info? 47).map (·.size) = some 15 := by kernel_rfl
theorem cells15 {w : World} {B : Nat} {t : TypeId} {v0 v1 v2 v3 v4 v5 v6 v7 v8 v9 v10 v11 v12 v13 v14 : Value} (h : w.heap[B]? = some (.cells #[v0, v1, v2, v3, v4, v5, v6, v7, v8, v9, v10, v11, v12, v13, v14] t (0, 0))) :
    w.cell? ⟨B, 0, none⟩ = some v0 ∧ w.cell? ⟨B, 1, none⟩ = some v1 ∧ w.cell? ⟨B, 2, none⟩ = some v2 ∧ w.cell? ⟨B, 3, none⟩ = some v3 ∧ w.cell? ⟨B, 4, none⟩ = some v4 ∧ w.cell? ⟨B, 5, none⟩ = some v5 ∧ w.cell? ⟨B, 6, none⟩ = some v6 ∧ w.cell? ⟨B, 7, none⟩ = some v7 ∧ w.cell? ⟨B, 8, none⟩ = some v8 ∧ w.cell? ⟨B, 9, none⟩ = some v9 ∧ w.cell? ⟨B, 10, none⟩ = some v10 ∧ w.cell? ⟨B, 11, none⟩ = some v11 ∧ w.cell? ⟨B, 12, none⟩ = some v12 ∧ w.cell? ⟨B, 13, none⟩ = some v13 ∧ w.cell? ⟨B, 14, none⟩ = some v14 ∧ ∀ j, w.frozen? ⟨B, j, none⟩ = false := by
  refine ⟨?_, ?_, ?_, ?_, ?_, ?_, ?_, ?_, ?_, ?_, ?_, ?_, ?_, ?_, ?_, fun j => by simp [World.frozen?, h]⟩ <;> simp [World.cell?, h]
def ABox (w : World) (g : Nat) (x : Ask) (pv tv bv : Value) : Prop := w.heap[g]? = some (.cells (askC x pv tv bv) 47 (0, 0))
section
variable {g : Nat}
theorem ABox.set2 {w : World} {x : Ask} {pv tv bv : Value} (h : ABox w g x pv tv bv) (v : Value) : ABox (w.setCell ⟨g, 2, none⟩ v) g x v tv bv := by
  unfold ABox at h ⊢
  rw [heap_setCell_same _ _ _ _ _ _ h]; rfl
theorem ABox.set3 {w : World} {x : Ask} {pv tv bv : Value} (h : ABox w g x pv tv bv) (v : Value) : ABox (w.setCell ⟨g, 3, none⟩ v) g x pv v bv := by
  unfold ABox at h ⊢
  rw [heap_setCell_same _ _ _ _ _ _ h]; rfl
theorem ABox.set7 {w : World} {x : Ask} {pv tv bv : Value} (h : ABox w g x pv tv bv) (v : Value) : ABox (w.setCell ⟨g, 7, none⟩ v) g x pv tv v := by
  unfold ABox at h ⊢
  rw [heap_setCell_same _ _ _ _ _ _ h]; rfl
theorem setCells_heap (t : TypeId) : ∀ (vs pre old : List Value) (w : World), w.heap[g]? = some (.cells (pre ++ old).toArray t (0, 0)) → old.length = vs.length → (w.setCells g pre.length vs).heap[g]? = some (.cells (pre ++ vs).toArray t (0, 0))
  | [], pre, old, w, h, hl => by
    obtain rfl : old = [] := List.eq_nil_of_length_eq_zero hl
    exact h
  | v :: vs, pre, [], w, h, hl => by cases hl
  | v :: vs, pre, o :: old, w, h, hl => by
    have h1 : (w.setCell ⟨g, pre.length, none⟩ v).heap[g]? = some (.cells ((pre ++ [v]) ++ old).toArray t (0, 0)) := by
      rw [heap_setCell_same _ _ _ _ _ _ h]
      congr 2
      simp
    have h2 := setCells_heap t vs (pre ++ [v]) old _ h1 (by simpa using hl)
    rw [List.length_append, List.length_singleton] at h2
    rw [World.setCells]
    simpa using h2
theorem setCells_keeps : ∀ (vs : List Value) (o : Nat) (w : World), Keeps (fun k => k = g) w (w.setCells g o vs)
  | [], _, _ => Keeps.refl _ _
  | v :: vs, o, w => (keeps_set w g o v).trans (setCells_keeps vs (o + 1) _)
end
set_option maxHeartbeats 4000000 in
set_option maxRecDepth 100000 in
theorem short_c (x : Ask) (pv tv bv : Value) (w : World) (hp : SSl w pv x.P) (ht : SSl w tv x.To) (hb : BSl w bv x.b) :
    Calls Try.prog 15 #[.agg (askC x pv tv bv)] w fun e w' => ∃ pv' tv' bv', e = .returned (.agg (askC (shortA x) pv' tv' bv')) ∧ SOwn w' w.heap.size pv' (shortA x).P ∧ SOwn w' w.heap.size tv' (shortA x).To ∧ BSl w' bv' (shortA x).b ∧ bv'.ownBlock = bv.ownBlock ∧ Below w.heap.size w w' := by
  have HP := hidden hp
  have HT := hidden ht
  have HBV := hidden hb
  clear hp ht hb
  unfold askC
  go_enter Try.func15, Try.ntmps15
  go_wp2_with fail
  have hz := heap_alloc_new (w.alloc (.cells (askC x pv tv bv) 47)) (.cells #[.int .i64 0, .int .i64 0, .slice none 0 0, .slice none 0 0, .bool false, .int .u64 0, .int .u32 0, .slice none 0 0, .int .u32 0, .int .u64 0, .int .u32 0, .int .u32 0, .int .u32 0, .int .u32 0, .int .u32 0] 47)
  have hab : ABox ((w.alloc (.cells (askC x pv tv bv) 47)).alloc (.cells #[.int .i64 0, .int .i64 0, .slice none 0 0, .slice none 0 0, .bool false, .int .u64 0, .int .u32 0, .slice none 0 0, .int .u32 0, .int .u64 0, .int .u32 0, .int .u32 0, .int .u32 0, .int .u32 0, .int .u32 0] 47)) w.heap.size x pv tv bv := heap_alloc2_old w _ _
  have hb0 : Below w.heap.size w ((w.alloc (.cells (askC x pv tv bv) 47)).alloc (.cells #[.int .i64 0, .int .i64 0, .slice none 0 0, .slice none 0 0, .bool false, .int .u64 0, .int .u32 0, .slice none 0 0, .int .u32 0, .int .u64 0, .int .u32 0, .int .u32 0, .int .u32 0, .int .u32 0, .int .u32 0] 47)) := ((Below.refl _ w).alloc (Nat.le_refl _) _).alloc (by simp) _
  unfold askC at hz hab hb0
  rw [show ∀ A : Obj, (w.alloc A).heap.size = w.heap.size + 1 from fun A => by simp] at hz
  generalize hW0 : (w.alloc (.cells #[.int .i64 x.kind, .int .i64 x.id, pv, tv, .bool x.dir, .int .u64 x.at_, .int .u32 x.n, bv, .int .u32 x.a.f, .int .u64 x.a.s, .int .u32 x.a.u, .int .u32 x.a.g, .int .u32 x.a.m, .int .u32 x.a.a, .int .u32 x.a.t] 47)).alloc (.cells #[.int .i64 0, .int .i64 0, .slice none 0 0, .slice none 0 0, .bool false, .int .u64 0, .int .u32 0, .slice none 0 0, .int .u32 0, .int .u64 0, .int .u32 0, .int .u32 0, .int .u32 0, .int .u32 0, .int .u32 0] 47) = W0 at hz hab hb0 ⊢
  clear hW0
  have hl0 := lt_of_block hz
  refine (few_n 5 32 (by omega) (by omega) pv x.P _ (HP.out.fresh hb0)).mono ?_
  rintro e w1 ⟨v1, rfl, ho1, hb1⟩
  obtain ⟨a1, k1, rfl⟩ := ownsRow_shape ho1
  have hz1 := (hb1.block _ hl0).trans hz
  have hab1 : ABox w1 w.heap.size x pv tv bv := (hb1.block _ (by omega)).trans hab
  have hB1 := hb0.trans (hb1.mono hb0.size)
  have hs1 := hb1.size
  obtain ⟨c0, c1, c2, c3, c4, c5, c6, c7, c8, c9, c10, c11, c12, c13, c14, cf⟩ := cells15 hab1
  -- behind the first store
  have hB1s : Below w.heap.size w (w1.setCell ⟨w.heap.size, 2, none⟩ (.slice a1 (fewL x.P 5 32).length k1)) := hB1.trans ((keeps_set w1 w.heap.size 2 _).below hB1.size fun k h => by omega)
  have hS1 : SOwn (w1.setCell ⟨w.heap.size, 2, none⟩ (.slice a1 (fewL x.P 5 32).length k1)) W0.heap.size (.slice a1 (fewL x.P 5 32).length k1) (fewL x.P 5 32) := (keeps_set w1 w.heap.size 2 _).row ho1 fun k e h => by have := (World.ownsRow.lt ho1 k e).1; omega
  have hA1 : ABox (w1.setCell ⟨w.heap.size, 2, none⟩ (.slice a1 (fewL x.P 5 32).length k1)) w.heap.size x (.slice a1 (fewL x.P 5 32).length k1) tv bv := hab1.set2 _
  have hZ1 := ((keeps_set w1 w.heap.size 2 (.slice a1 (fewL x.P 5 32).length k1)).block (w.heap.size + 1) (by omega) (by omega)).trans hz1
  clear ho1 hz1 hab1 hB1 hz hab hb0 hb1
  go_wp2_with fail
  generalize w1.setCell ⟨w.heap.size, 2, none⟩ (.slice a1 (fewL x.P 5 32).length k1) = W1 at hB1s hS1 hA1 hZ1 ⊢
  clear c0 c1 c2 c3 c4 c5 c6 c7 c8 c9 c10 c11 c12 c13 c14 cf
  have hl1 := lt_of_block hZ1
  refine (few_n 5 32 (by omega) (by omega) tv x.To _ (HT.out.fresh hB1s)).mono ?_
  rintro e w2 ⟨v2, rfl, ho2, hb2⟩
  obtain ⟨a2, k2, rfl⟩ := ownsRow_shape ho2
  have hz2 := (hb2.block _ hl1).trans hZ1
  have hab2 : ABox w2 w.heap.size x (.slice a1 (fewL x.P 5 32).length k1) tv bv := (hb2.block _ (by omega)).trans hA1
  have hB2 := hB1s.trans (hb2.mono hB1s.size)
  have hs2 := hb2.size
  have hS12 : SOwn w2 W0.heap.size (.slice a1 (fewL x.P 5 32).length k1) (fewL x.P 5 32) := (Keeps.ofFresh (S := fun _ => False) hb2).row hS1 fun _ _ h => h
  obtain ⟨c0, c1, c2, c3, c4, c5, c6, c7, c8, c9, c10, c11, c12, c13, c14, cf⟩ := cells15 hab2
  have hB2s : Below w.heap.size w (w2.setCell ⟨w.heap.size, 3, none⟩ (.slice a2 (fewL x.To 5 32).length k2)) := hB2.trans ((keeps_set w2 w.heap.size 3 _).below hB2.size fun k h => by omega)
  have hS2 : SOwn (w2.setCell ⟨w.heap.size, 3, none⟩ (.slice a2 (fewL x.To 5 32).length k2)) W1.heap.size (.slice a2 (fewL x.To 5 32).length k2) (fewL x.To 5 32) := (keeps_set w2 w.heap.size 3 _).row ho2 fun k e h => by have := (World.ownsRow.lt ho2 k e).1; omega
  have hS1b : SOwn (w2.setCell ⟨w.heap.size, 3, none⟩ (.slice a2 (fewL x.To 5 32).length k2)) W0.heap.size (.slice a1 (fewL x.P 5 32).length k1) (fewL x.P 5 32) := (keeps_set w2 w.heap.size 3 _).row hS12 fun k e h => by have := (World.ownsRow.lt hS12 k e).1; omega
  have hA2 : ABox (w2.setCell ⟨w.heap.size, 3, none⟩ (.slice a2 (fewL x.To 5 32).length k2)) w.heap.size x (.slice a1 (fewL x.P 5 32).length k1) (.slice a2 (fewL x.To 5 32).length k2) bv := hab2.set3 _
  have hZ2 := ((keeps_set w2 w.heap.size 3 (.slice a2 (fewL x.To 5 32).length k2)).block (w.heap.size + 1) (by omega) (by omega)).trans hz2
  clear ho2 hz2 hab2 hB2 hb2 hB1s hS1 hS12 hA1 hZ1
  go_wp2_with fail
  generalize w2.setCell ⟨w.heap.size, 3, none⟩ (.slice a2 (fewL x.To 5 32).length k2) = W2 at hB2s hS2 hS1b hA2 hZ2 ⊢
  clear c0 c1 c2 c3 c4 c5 c6 c7 c8 c9 c10 c11 c12 c13 c14 cf
  have hl2 := lt_of_block hZ2
  refine (cut_c 200 (by omega) bv x.b _ (HBV.out.fresh hB2s)).mono ?_
  rintro e w3 ⟨bv', rfl, hbs, hob, rfl⟩
  have hbs0 := hbs
  obtain ⟨m3, hm3⟩ : ∃ m, m = (x.b.take 200).length := ⟨_, rfl⟩
  obtain ⟨a3, k3, hv3, _⟩ := hbs0
  rw [← hm3] at hv3
  subst hv3
  have HM3 := hidden hm3
  clear hm3
  obtain ⟨c0, c1, c2, c3, c4, c5, c6, c7, c8, c9, c10, c11, c12, c13, c14, cf⟩ := cells15 hA2
  have hA3 := hA2.set7 (.slice a3 m3 k3)
  obtain ⟨d0, d1, d2, d3, d4, d5, d6, d7, d8, d9, d10, d11, d12, d13, d14, df⟩ := cells15 hA3
  have hZ3 := ((keeps_set w3 w.heap.size 7 (.slice a3 m3 k3)).block (w.heap.size + 1) (by omega) (by omega)).trans hZ2
  obtain ⟨z0, z1, z2, z3, z4, z5, z6, z7, z8, z9, z10, z11, z12, z13, z14, zf⟩ := cells15 hZ3
  go_wp2_with fail
  have hfin := setCells_heap (g := w.heap.size + 1) 47 (askC x (.slice a1 (fewL x.P 5 32).length k1) (.slice a2 (fewL x.To 5 32).length k2) (.slice a3 m3 k3)).toList [] [.int .i64 0, .int .i64 0, .slice none 0 0, .slice none 0 0, .bool false, .int .u64 0, .int .u32 0, .slice none 0 0, .int .u32 0, .int .u64 0, .int .u32 0, .int .u32 0, .int .u32 0, .int .u32 0, .int .u32 0] _ hZ3 rfl
  have hkp := setCells_keeps (g := w.heap.size + 1) (askC x (.slice a1 (fewL x.P 5 32).length k1) (.slice a2 (fewL x.To 5 32).length k2) (.slice a3 m3 k3)).toList 0 (w3.setCell ⟨w.heap.size, 7, none⟩ (.slice a3 m3 k3))
  change bodyPost _ _ _ _ _ ((w3.setCell ⟨w.heap.size, 7, none⟩ (.slice a3 m3 k3)).setCells (w.heap.size + 1) 0 (askC x (.slice a1 (fewL x.P 5 32).length k1) (.slice a2 (fewL x.To 5 32).length k2) (.slice a3 m3 k3)).toList)
  rw [show ([] : List Value).length = 0 from rfl] at hfin
  have hkA := (keeps_set w3 w.heap.size 7 (.slice a3 m3 k3)).mono (S' := fun k => k = w.heap.size ∨ k = w.heap.size + 1) fun k _ h => .inl h
  have hkB := hkA.trans (hkp.mono (S' := fun k => k = w.heap.size ∨ k = w.heap.size + 1) fun k _ h => .inr h)
  generalize (w3.setCell ⟨w.heap.size, 7, none⟩ (.slice a3 m3 k3)).setCells (w.heap.size + 1) 0 (askC x (.slice a1 (fewL x.P 5 32).length k1) (.slice a2 (fewL x.To 5 32).length k2) (.slice a3 m3 k3)).toList = W4 at hfin hkB ⊢
  have r1 : SOwn W4 W0.heap.size (.slice a1 (fewL x.P 5 32).length k1) (fewL x.P 5 32) := hkB.row hS1b fun k e h => by have := (World.ownsRow.lt hS1b k e).1; omega
  have r2 : SOwn W4 W1.heap.size (.slice a2 (fewL x.To 5 32).length k2) (fewL x.To 5 32) := hkB.row hS2 fun k e h => by have := (World.ownsRow.lt hS2 k e).1; omega
  have r3 : BSl W4 (.slice a3 m3 k3) (x.b.take 200) := hbs.keepE hkB fun hne k e h => by
    have hxb : x.b ≠ [] := by rintro h0; rw [h0] at hne; simp at hne
    rw [hob] at e
    have := BSl.apartB HBV.out (B := k) (by omega) hxb k e
    exact this rfl
  have r4 : Below w.heap.size w W4 := hB2s.trans (hkB.below hB2s.size fun k h => by omega)
  refine bodyPost_ret (results_agg1 rfl _ _ _ (w.heap.size + 1) _ 47 (0, 0) rfl hfin Try.underlying47 sizeAsk) rfl ?_
  exact ⟨_, _, _, rfl, ownsRow_mono r1 (by omega), ownsRow_mono r2 (by omega), r3, hob, r4⟩

theorem nameCs_at : ∀ (L : List (Nm × At)) (k : Nat) (hk : k < L.length) (i : Nat), i < 8 → (nameCs L)[k * 8 + i]? = (nameC L[k])[i]?
  | [], k, hk, _, _ => by simp at hk
  | e :: L, 0, _, i, hi => by
    unfold nameCs
    rw [List.flatMap_cons, Nat.zero_mul, Nat.zero_add, List.getElem?_append_left (by show i < 8; exact hi)]
    rfl
  | e :: L, k + 1, hk, i, hi => by
    unfold nameCs
    rw [List.flatMap_cons, List.getElem?_append_right (by show 8 ≤ _; omega)]
    have h := nameCs_at L k (by simpa using hk) i hi
    unfold nameCs at h
    rw [show (k + 1) * 8 + i - (nameC e).length = k * 8 + i by show _ - 8 = _; omega, h]
    rfl
/-- A row of names, as it reads. -/
def NRow (w : World) (v : Value) (L : List (Nm × At)) : Prop := ∃ base, w.ownsRow base 86 8 v L.length (nameCs L)
section
variable {w : World} {v : Value} {L : List (Nm × At)}
theorem NRow.keep {S : Nat → Prop} {w' : World} (h : NRow w v L) (hk : Keeps S w w') (hn : ∀ k, v.ownBlock = some k → ¬ S k) : NRow w' v L := by
  obtain ⟨b, h⟩ := h
  exact ⟨b, hk.row h hn⟩
theorem NRow.fresh {w' : World} (h : NRow w v L) (hb : Below w.heap.size w w') : NRow w' v L := h.keep (S := fun _ => False) (Keeps.ofFresh hb) fun _ _ h => h
theorem NRow.shape (h : NRow w v L) : ∃ ao cap, v = .slice ao L.length cap ∧ L.length ≤ cap ∧ cap ≤ maxLen ∧ (L ≠ [] → ∃ g, ao = some ⟨g, 0, none⟩) := by
  obtain ⟨b, h1, h2⟩ := h
  rcases h2 with ⟨rfl, hl⟩ | ⟨g, cap, cur, rfl, hb, hg, hn, hm, _⟩
  · obtain rfl : L = [] := List.eq_nil_of_length_eq_zero hl
    exact ⟨none, 0, rfl, by simp, by simp [maxLen], fun h => absurd rfl h⟩
  · exact ⟨some ⟨g, 0, none⟩, cap, rfl, hn, hm, fun _ => ⟨g, rfl⟩⟩
theorem NRow.at {g n cap : Nat} (h : NRow w (.slice (some ⟨g, 0, none⟩) n cap) L) (k : Nat) (hk : k < L.length) :
    w.cell? ⟨g, k * 8, none⟩ = some (.string (L[k]).1) ∧ w.cell? ⟨g, k * 8 + 1, none⟩ = some (.int .u32 (L[k]).2.f) ∧ w.cell? ⟨g, k * 8 + 2, none⟩ = some (.int .u64 (L[k]).2.s) ∧ w.cell? ⟨g, k * 8 + 3, none⟩ = some (.int .u32 (L[k]).2.u) ∧ w.cell? ⟨g, k * 8 + 4, none⟩ = some (.int .u32 (L[k]).2.g) ∧ w.cell? ⟨g, k * 8 + 5, none⟩ = some (.int .u32 (L[k]).2.m) ∧ w.cell? ⟨g, k * 8 + 6, none⟩ = some (.int .u32 (L[k]).2.a) ∧ w.cell? ⟨g, k * 8 + 7, none⟩ = some (.int .u32 (L[k]).2.t) := by
  obtain ⟨b, h⟩ := h
  have hn : n = L.length := by
    rcases h.2 with ⟨e, hl⟩ | ⟨g', cap', cur, e, _⟩
    · cases e
    · cases e; rfl
  subst hn
  have e : ∀ i, i < 8 → w.cell? ⟨g, k * 8 + i, none⟩ = (nameC L[k])[i]? := fun i hi => by
    rw [← nameCs_at L k hk i hi]
    exact World.ownsRow.cellAt h (k * 8 + i) (by omega)
  exact ⟨e 0 (by omega), e 1 (by omega), e 2 (by omega), e 3 (by omega), e 4 (by omega), e 5 (by omega), e 6 (by omega), e 7 (by omega)⟩
set_option maxHeartbeats 4000000 in
set_option maxRecDepth 100000 in
theorem names_c (v1 v2 : Value) (h1 : NRow w v1 L) (h2 : NRow w v2 L) :
    Calls Try.prog 21 #[v1, v2] w fun e w' => e = .returned (.bool true) ∧ Below w.heap.size w w' := by
  have H1 := hidden h1
  have H2 := hidden h2
  obtain ⟨a1, k1, rfl, hc1, hm1, hn1⟩ := h1.shape
  obtain ⟨a2, k2, rfl, hc2, hm2, hn2⟩ := h2.shape
  unfold maxLen at hm1 hm2
  clear h1 h2
  go_enter Try.func21, Try.ntmps21
  go_wp2_with fail
  go_loopw [5] (fun c wr => ∃ k : Nat, c = .int .i64 k ∧ k ≤ L.length ∧ Below w.heap.size w wr) (fun c _ => L.length - (intOf c).toNat)
  case atStart => exact ⟨0, rfl, Nat.zero_le _, Below.refl _ _⟩
  case round =>
    obtain ⟨k, rfl, hk, hb⟩ := hrel
    have HB := hidden hb
    by_cases hlt : k < L.length
    · have hi1 : (k : Int) < (L.length : Int) := by omega
      have hne : L ≠ [] := by rintro rfl; simp at hlt
      obtain ⟨g1, rfl⟩ := hn1 hne
      obtain ⟨g2, rfl⟩ := hn2 hne
      have d1 := (H1.out.fresh hb).at k hlt
      have d2 := (H2.out.fresh hb).at k hlt
      clear hb
      generalize L[k] = en at d1 d2
      obtain ⟨x0, x1, x2, x3, x4, x5, x6, x7⟩ := d1
      obtain ⟨y0, y1, y2, y3, y4, y5, y6, y7⟩ := d2
      go_wp2_with fail
      go_region
      all_goals
        go_wp2_with fail
        go_roundw
        case rel => exact ⟨k + 1, by go_num, hlt, HB.out.drew⟩
        case measure => simp [intOf]; omega
    · obtain rfl : k = L.length := by omega
      have hi1 : ¬ ((L.length : Nat) : Int) < (L.length : Int) := by omega
      go_wp2_with fail
      go_ret
      exact ⟨rfl, HB.out⟩
end

/-- An ask, with its values. -/
structure AskD where
  x : Ask
  pv : Value
  tv : Value
  bv : Value
def AskD.good (w : World) (p : AskD) : Prop := SSl w p.pv p.x.P ∧ SSl w p.tv p.x.To ∧ BSl w p.bv p.x.b ∧ p.x.at_ ≤ 18446744073709551615 ∧ p.x.n ≤ 4294967295 ∧ p.x.a.Ok
/-- The slice value v reads as the asks qs in w. -/
def ASl (w : World) (v : Value) (qs : List AskD) : Prop :=
  ∃ ao cap, v = .slice ao qs.length cap ∧ qs.length ≤ cap ∧ cap ≤ maxLen ∧ (∀ p ∈ qs, p.good w) ∧
    ∀ (i : Nat) (hi : i < qs.length), ∃ b off, ao = some ⟨b, off, none⟩ ∧ ∀ (j : Nat) (c : Value), (askC qs[i].x qs[i].pv qs[i].tv qs[i].bv)[j]? = some c → w.cell? ⟨b, off + i * 15 + j, none⟩ = some c
theorem AskD.good.fresh {w w' : World} {p : AskD} (h : p.good w) (hb : Below w.heap.size w w') : p.good w' := ⟨h.1.fresh hb, h.2.1.fresh hb, h.2.2.1.fresh hb, h.2.2.2⟩
theorem ASl.fresh {w w' : World} {v : Value} {qs : List AskD} (h : ASl w v qs) (hb : Below w.heap.size w w') : ASl w' v qs := by
  obtain ⟨ao, cap, e, h1, h2, h3, hc⟩ := h
  refine ⟨ao, cap, e, h1, h2, fun p hp => (h3 p hp).fresh hb, fun i hi => ?_⟩
  obtain ⟨b, off, e, hcell⟩ := hc i hi
  exact ⟨b, off, e, fun j c hj => (Keeps.ofFresh (S := fun _ => False) hb).cell (hcell j c hj) fun h => h⟩
theorem ASl.len {w : World} {v : Value} {qs : List AskD} (h : ASl w v qs) : ∃ ao cap, v = .slice ao qs.length cap ∧ qs.length ≤ cap ∧ cap ≤ maxLen := by
  obtain ⟨ao, cap, e, h1, h2, _⟩ := h
  exact ⟨ao, cap, e, h1, h2⟩
theorem ASl.good {w : World} {v : Value} {qs : List AskD} (h : ASl w v qs) {p : AskD} (hp : p ∈ qs) : p.good w := by
  obtain ⟨ao, cap, e, h1, h2, h3, hc⟩ := h
  exact h3 p hp
theorem ASl.at {w : World} {ao : Option Addr} {n cap : Nat} {qs : List AskD} (h : ASl w (.slice ao n cap) qs) (k : Nat) (hk : k < qs.length) : ∃ b off, ao = some ⟨b, off, none⟩ ∧
    w.cell? ⟨b, off + k * 15, none⟩ = some (.int .i64 qs[k].x.kind) ∧ w.cell? ⟨b, off + k * 15 + 1, none⟩ = some (.int .i64 qs[k].x.id) ∧ w.cell? ⟨b, off + k * 15 + 2, none⟩ = some qs[k].pv ∧ w.cell? ⟨b, off + k * 15 + 3, none⟩ = some qs[k].tv ∧ w.cell? ⟨b, off + k * 15 + 4, none⟩ = some (.bool qs[k].x.dir) ∧ w.cell? ⟨b, off + k * 15 + 5, none⟩ = some (.int .u64 qs[k].x.at_) ∧ w.cell? ⟨b, off + k * 15 + 6, none⟩ = some (.int .u32 qs[k].x.n) ∧ w.cell? ⟨b, off + k * 15 + 7, none⟩ = some qs[k].bv ∧
    w.cell? ⟨b, off + k * 15 + 8, none⟩ = some (.int .u32 qs[k].x.a.f) ∧ w.cell? ⟨b, off + k * 15 + 9, none⟩ = some (.int .u64 qs[k].x.a.s) ∧ w.cell? ⟨b, off + k * 15 + 10, none⟩ = some (.int .u32 qs[k].x.a.u) ∧ w.cell? ⟨b, off + k * 15 + 11, none⟩ = some (.int .u32 qs[k].x.a.g) ∧ w.cell? ⟨b, off + k * 15 + 12, none⟩ = some (.int .u32 qs[k].x.a.m) ∧ w.cell? ⟨b, off + k * 15 + 13, none⟩ = some (.int .u32 qs[k].x.a.a) ∧ w.cell? ⟨b, off + k * 15 + 14, none⟩ = some (.int .u32 qs[k].x.a.t) := by
  obtain ⟨ao, cap, e, h1, h2, h3, hc⟩ := h
  cases e
  obtain ⟨b, off, rfl, f⟩ := hc k hk
  exact ⟨b, off, rfl, f 0 _ rfl, f 1 _ rfl, f 2 _ rfl, f 3 _ rfl, f 4 _ rfl, f 5 _ rfl, f 6 _ rfl, f 7 _ rfl, f 8 _ rfl, f 9 _ rfl, f 10 _ rfl, f 11 _ rfl, f 12 _ rfl, f 13 _ rfl, f 14 _ rfl⟩
/-- No call makes more than one thing. -/
theorem makeT_next (S : Tr) (p : List Nm) (dir : Bool) : (makeT S p dir).2.next ≤ S.next + 1 := by
  unfold makeT
  split
  · exact Nat.le_succ _
  · split
    · exact Nat.le_succ _
    · split
      · exact Nat.le_succ _
      · exact Nat.le_refl _
theorem writeT_next (S : Tr) (i : Int) (k : Nat) (b : List UInt8) : (writeT S i k b).2.next = S.next := by
  unfold writeT
  split
  · rfl
  · split
    · rfl
    · split <;> rfl
theorem renameT_next (S : Tr) (p q : List Nm) : (renameT S p q).2.next = S.next := by
  unfold renameT
  split
  · rfl
  · split
    · rfl
    · split
      · rfl
      · split <;> rfl
section
variable {w : World} {R : Nat → Role} {a base : Nat} {S : Tr}
theorem save_t (H : TS base w R a S) (hnx : S.next ≤ 9000000000000000000) : Calls Try.prog 19 #[.pointer (some ⟨a, 0, none⟩)] w (SavePost w S) := by
  obtain ⟨⟨B, dv, hv', tv, hx⟩, ⟨pa, nm, o⟩, hR⟩ := H
  exact save_c hx o hnx
theorem list_t (H : TS base w R a S) (i : Int) : Calls Try.prog 18 #[.pointer (some ⟨a, 0, none⟩), .int .i64 i] w (ListPost w (listT S i)) := by
  obtain ⟨⟨B, dv, hv', tv, hx⟩, ⟨pa, nm, o⟩, hR⟩ := H
  exact list_c hx o i
/-- What is told of what was moved, and moved back. -/
theorem TS.moves (H : TS base w R a S) {p q : List Nm} (h : (renameT S p q).1 = 0) : ∃ j S', renameT S p q = (0, S') ∧ lookT S p = (j, 0) ∧ lookT S q = (0, 22) ∧ lookT S' q = (j, 0) ∧ lookT S' p = (0, 22) ∧
    (∀ i, attrsT S' i = attrsT S i) ∧ listT S' j = listT S j ∧ renameT S' q p = (0, S) := by
  obtain ⟨_, ⟨pa, nm, o⟩, _⟩ := H
  obtain ⟨j, S', h1, h2, h3, h4, h5, h6, h7, h8⟩ := o.moves h
  exact ⟨j, S', h1, by rw [lookT, h2], by rw [lookT, h3], by rw [lookT, h4], by rw [lookT, h5], h6, h7, h8⟩
end

def mrgF (y : At) (x : Th) : Th := { x with a := mergeA x.a y }
def setAT (S : Tr) (i : Int) (y : At) : Nat × Tr := match findT S.ths i with
  | none => (22, S)
  | some x => if rightA y = false then (1, S) else if bt 1 y.f = false then (0, ⟨setT S.ths x.id (mrgF y), S.next⟩)
    else if x.dir then (23, S) else if hasRoom S x y.s ≠ 0 then (hasRoom S x y.s, S)
    else (0, ⟨setT (setT S.ths x.id (sizeF y.s)) x.id (mrgF y), S.next⟩)
theorem or15 (n : Nat) (h : n ≤ 15) : 15 ||| n = 15 := by
  have : ∀ n : Fin 16, 15 ||| n.val = 15 := by decide
  exact this ⟨n, by omega⟩
section
variable {S : Tr} {pa : Nat → Nat} {nm : Nat → Nm}
theorem mergeA_ok {x y : At} (hx : x.Ok) (hy : y.Ok) (h15 : x.f = 15) (hr : y.f ≤ 15) : (mergeA x y).Ok ∧ (mergeA x y).f = 15 := by
  have hf : (mergeA x y).f = 15 := by show x.f ||| y.f = 15; rw [h15, or15 _ hr]
  refine ⟨⟨by rw [hf]; omega, ?_, ?_, ?_, ?_, ?_, ?_⟩, hf⟩
  · show (if bt 1 y.f then y.s else x.s) ≤ _; split; exact hy.s; exact hx.s
  · show (if bt 2 y.f then y.u else x.u) ≤ _; split; exact hy.u; exact hx.u
  · show (if bt 2 y.f then y.g else x.g) ≤ _; split; exact hy.g; exact hx.g
  · show (if bt 4 y.f then y.m else x.m) ≤ _; split; exact hy.m; exact hx.m
  · show (if bt 8 y.f then y.a else x.a) ≤ _; split; exact hy.a; exact hx.a
  · show (if bt 8 y.f then y.t else x.t) ≤ _; split; exact hy.t; exact hx.t
theorem rightA_f {y : At} (h : rightA y = true) : y.f ≤ 15 := by
  unfold rightA at h
  simp only [Bool.and_eq_true, decide_eq_true_eq] at h
  exact h.1.1.1.1
theorem Ok.mrg (o : Ok S pa nm) {x : Th} (hx : x ∈ S.ths) {y : At} (hy : y.Ok) (hr : y.f ≤ 15) (hs : bt 1 y.f = true → y.s = x.d.length) : Ok ⟨setT S.ths x.id (mrgF y), S.next⟩ pa nm := by
  obtain ⟨h1, h2, h3⟩ := o.att x hx
  obtain ⟨k1, k2⟩ := mergeA_ok h1 hy h2 hr
  refine o.upd hx (mrgF y) (fun _ => rfl) (fun _ => rfl) (fun _ => rfl) (fun h => o.file x hx h) ⟨k1, k2, ?_⟩ (sizeT_set_le o.inc hx _ ?_)
  · show (if bt 1 y.f then y.s else x.a.s) = x.d.length
    split
    · next h => exact hs h
    · exact h3
  · have := sizeT_at o.inc hx
    have := o.bytes
    show sizeT S.ths - x.d.length + x.d.length ≤ _
    omega
theorem Ok.set (o : Ok S pa nm) (i : Int) {y : At} (hy : y.Ok) : Ok (setAT S i y).2 pa nm := by
  unfold setAT
  cases hf : findT S.ths i with
  | none => exact o
  | some x =>
    obtain ⟨hx, _⟩ := (findT_some o.inc _ _).1 hf
    simp only
    split
    · exact o
    · next hr =>
      have hr' : rightA y = true := by simpa using hr
      split
      · next hb => exact o.mrg hx hy (rightA_f hr') (fun h => by rw [hb] at h; cases h)
      · split
        · exact o
        · next hd =>
          split
          · exact o
          · next hh =>
            have hd' : x.dir = false := by simpa using hd
            have o1 := o.size hx hd' (Classical.not_not.1 hh)
            have hm : sizeF y.s x ∈ (⟨setT S.ths x.id (sizeF y.s), S.next⟩ : Tr).ths := mem_setT.2 ⟨x, hx, by rw [if_pos rfl]⟩
            exact o1.mrg hm hy (rightA_f hr') (fun _ => (rz_length _ _).symm)
theorem setAT_no {i : Int} {y : At} (h : (setAT S i y).1 ≠ 0) : (setAT S i y).2 = S := by
  unfold setAT at h ⊢
  cases hf : findT S.ths i with
  | none => rfl
  | some x =>
    rw [hf] at h
    simp only at h ⊢
    split
    · rfl
    · next h1 =>
      rw [if_neg h1] at h
      split
      · next h2 => rw [if_pos h2] at h; exact absurd rfl h
      · next h2 =>
        rw [if_neg h2] at h
        split
        · rfl
        · next h3 =>
          rw [if_neg h3] at h
          split
          · rfl
          · next h4 => rw [if_neg h4] at h; exact absurd rfl h
theorem makeT_no {p : List Nm} {dir : Bool} (h : (makeT S p dir).1.2 ≠ 0) : (makeT S p dir).2 = S := by
  unfold makeT at h ⊢
  split
  · rfl
  · next h1 =>
    rw [if_neg h1] at h
    split
    · rfl
    · next h2 =>
      rw [if_neg h2] at h
      split
      · rfl
      · next h3 => rw [if_neg h3] at h; exact absurd rfl h
theorem removeT_no {p : List Nm} {dir : Bool} (h : (removeT S p dir).1 ≠ 0) : (removeT S p dir).2 = S := by
  unfold removeT at h ⊢
  split
  · rfl
  · next h1 =>
    rw [if_neg h1] at h
    split
    · rfl
    · next j hj =>
      simp only [hj] at h
      split
      · rfl
      · next x hx =>
        simp only [hx] at h
        split
        · rfl
        · next h2 =>
          rw [if_neg h2] at h
          split
          · rfl
          · next h3 => rw [if_neg h3] at h; exact absurd rfl h
theorem writeT_no {i : Int} {k : Nat} {b : List UInt8} (h : (writeT S i k b).1 ≠ 0) : (writeT S i k b).2 = S := by
  unfold writeT at h ⊢
  split
  · rfl
  · next x e hx =>
    simp only [hx] at h
    split
    · rfl
    · next h1 =>
      rw [if_neg h1] at h
      split
      · rfl
      · next h2 => rw [if_neg h2] at h; exact absurd rfl h
theorem setAT_next (i : Int) (y : At) : (setAT S i y).2.next = S.next := by
  unfold setAT
  split
  · rfl
  · split
    · rfl
    · split
      · rfl
      · split
        · rfl
        · split <;> rfl
theorem removeT_next (p : List Nm) (dir : Bool) : (removeT S p dir).2.next = S.next := by
  unfold removeT
  split
  · rfl
  · split
    · rfl
    · split
      · rfl
      · split
        · rfl
        · split <;> rfl
end

theorem sizeT_filter (l : List Th) (p : Th → Bool) : sizeT (l.filter p) ≤ sizeT l := by
  induction l with
  | nil => exact Nat.le_refl _
  | cons x l ih =>
    rw [List.filter_cons]
    split
    · unfold sizeT at ih ⊢; simp only [List.map_cons, List.sum_cons]; omega
    · unfold sizeT at ih ⊢; simp only [List.map_cons, List.sum_cons]; omega
section
variable {S : Tr} {pa : Nat → Nat} {nm : Nat → Nm}
theorem Ok.remove (o : Ok S pa nm) {p : List Nm} {j : Nat} {xj : Th} (hpe : p ≠ []) (hj : walkT S.ths 0 p = some j) (hf : findT S.ths j = some xj) (hh : xj.h = []) :
    Ok ⟨(setT S.ths ((walkT S.ths 0 p.dropLast).getD 0) (cutH (lastN p))).filter fun y => !decide (y.id = j), S.next⟩ pa nm := by
  obtain ⟨hxj, hxje⟩ := (findT_some o.inc _ _).1 hf
  have hxje : xj.id = j := by omega
  obtain ⟨x1, hx1, b1, b2, b3, b4, b5⟩ := o.walk_holder hpe hj
  rw [b1, Option.getD_some]
  let g : Th → Th := fun z => if z.id = x1.id then cutH (lastN p) z else z
  have hset : setT S.ths x1.id (cutH (lastN p)) = S.ths.map g := rfl
  have g1 : ∀ z, (g z).id = z.id := fun z => by simp only [g]; split <;> rfl
  have g2 : ∀ z, (g z).dir = z.dir := fun z => by simp only [g]; split <;> rfl
  have g3 : ∀ z, (g z).a = z.a := fun z => by simp only [g]; split <;> rfl
  have g4 : ∀ z, (g z).d = z.d := fun z => by simp only [g]; split <;> rfl
  rw [hset]
  have hmem : ∀ y, y ∈ (S.ths.map g).filter (fun y => !decide (y.id = j)) ↔ ∃ z ∈ S.ths, y = g z ∧ z.id ≠ j := fun y => by
    rw [List.mem_filter, List.mem_map]
    constructor
    · rintro ⟨⟨z, h1, rfl⟩, h2⟩
      refine ⟨z, h1, rfl, ?_⟩
      simpa [g1] using h2
    · rintro ⟨z, h1, rfl, h2⟩
      exact ⟨⟨z, h1, rfl⟩, by simpa [g1] using h2⟩
  have hex : ∀ k, (∃ u ∈ (S.ths.map g).filter (fun y => !decide (y.id = j)), u.id = k) ↔ (∃ u ∈ S.ths, u.id = k) ∧ k ≠ j := fun k => by
    constructor
    · rintro ⟨u, hu, hk⟩
      obtain ⟨z, hz, rfl, hzj⟩ := (hmem u).1 hu
      rw [g1] at hk
      exact ⟨⟨z, hz, hk⟩, by rw [← hk]; exact hzj⟩
    · rintro ⟨⟨z, hz, hk⟩, hkj⟩
      exact ⟨g z, (hmem _).2 ⟨z, hz, rfl, by rw [hk]; exact hkj⟩, by rw [g1]; exact hk⟩
  have hcut : ∀ z ∈ S.ths, ∀ n k, (n, k) ∈ (g z).h ↔ (n, k) ∈ z.h ∧ k ≠ j := by
    intro z hz n k
    simp only [g]
    split
    · next e =>
      have : z = x1 := o.inc.uniq hz hx1 e
      subst this
      show (n, k) ∈ delH z.h (lastN p) ↔ _
      rw [mem_delH]
      constructor
      · rintro ⟨h1, h2⟩
        refine ⟨h1, fun h3 => h2 ?_⟩
        rw [h3] at h1
        exact (((o.held z hz n j).1 h1).2.2.2.symm).trans b5
      · rintro ⟨h1, h2⟩
        refine ⟨h1, fun h3 => h2 ?_⟩
        have h3' : n = lastN p := h3
        rw [h3'] at h1
        have := (getH_some (o.srt z hz) _ k).2 h1
        rw [b2] at this
        exact (Option.some.inj this).symm
    · next e =>
      constructor
      · intro h1
        refine ⟨h1, fun h3 => e ?_⟩
        rw [h3] at h1
        rw [← b4]
        exact ((o.held z hz n j).1 h1).2.2.1.symm
      · exact fun h => h.1
  have hleaf : ∀ z ∈ S.ths, z.id ≠ 0 → pa z.id ≠ j := by
    intro z hz h0 e
    have := (o.held xj hxj (nm z.id) z.id).2 ⟨h0, ⟨z, hz, rfl⟩, by rw [e, hxje], rfl⟩
    rw [hh] at this
    cases this
  refine ⟨?_, ?_, ?_, ?_, ?_, ?_, ?_, ?_, ?_, ?_, ?_, ?_, ?_⟩
  · obtain ⟨r, t, h1, h2, h3⟩ := o.root
    refine ⟨g r, (t.map g).filter fun y => !decide (y.id = j), ?_, by rw [g1, h2], by rw [g2, h3]⟩
    show (S.ths.map g).filter _ = _
    rw [h1, List.map_cons, List.filter_cons, if_pos (by rw [g1, h2]; simp; omega)]
  · refine List.Pairwise.filter _ (inc_ids (l := S.ths) ?_ o.inc)
    rw [List.map_map]
    exact List.map_congr_left fun z _ => g1 z
  · intro y hy
    obtain ⟨z, hz, rfl, _⟩ := (hmem y).1 hy
    rw [g1]; exact o.lt z hz
  · intro y hy h0
    obtain ⟨z, hz, rfl, _⟩ := (hmem y).1 hy
    rw [g1] at h0 ⊢
    obtain ⟨q, hq, hq1, hq2⟩ := o.par z hz h0
    exact ⟨g q, (hmem _).2 ⟨q, hq, rfl, by rw [hq1]; exact hleaf z hz h0⟩, by rw [g1]; exact hq1, by rw [g2]; exact hq2⟩
  · obtain ⟨rk, hrk⟩ := o.rank
    refine ⟨rk, fun y hy h0 => ?_⟩
    obtain ⟨z, hz, rfl, _⟩ := (hmem y).1 hy
    rw [g1] at h0 ⊢
    exact hrk z hz h0
  · intro y hy y' hy' h0 k0 e1 e2
    obtain ⟨z, hz, rfl, _⟩ := (hmem y).1 hy
    obtain ⟨z', hz', rfl, _⟩ := (hmem y').1 hy'
    rw [g1] at h0 k0
    rw [g1, g1] at e1 e2 ⊢
    exact o.sib z hz z' hz' h0 k0 e1 e2
  · intro y hy h0
    obtain ⟨z, hz, rfl, _⟩ := (hmem y).1 hy
    rw [g1] at h0 ⊢
    exact o.right z hz h0
  · intro y hy n k
    obtain ⟨z, hz, rfl, _⟩ := (hmem y).1 hy
    rw [g1, hcut z hz, o.held z hz]
    show _ ↔ k ≠ 0 ∧ (∃ u ∈ (S.ths.map g).filter (fun y => !decide (y.id = j)), u.id = k) ∧ _
    rw [hex]
    constructor
    · rintro ⟨⟨c1, c2, c3, c4⟩, c5⟩; exact ⟨c1, ⟨c2, c5⟩, c3, c4⟩
    · rintro ⟨c1, ⟨c2, c5⟩, c3, c4⟩; exact ⟨⟨c1, c2, c3, c4⟩, c5⟩
  · intro y hy
    obtain ⟨z, hz, rfl, _⟩ := (hmem y).1 hy
    simp only [g]
    split
    · exact delH_srt (o.srt z hz) _
    · exact o.srt z hz
  · intro y hy hd
    obtain ⟨z, hz, rfl, _⟩ := (hmem y).1 hy
    rw [g2] at hd
    rw [g4]; exact o.file z hz hd
  · intro y hy
    obtain ⟨z, hz, rfl, _⟩ := (hmem y).1 hy
    rw [g4, g3]; exact o.att z hz
  · refine Nat.le_trans (List.length_filter_le _ _) ?_
    rw [List.length_map]; exact o.cnt
  · refine Nat.le_trans (sizeT_filter _ _) ?_
    have : sizeT (S.ths.map g) = sizeT S.ths := by
      unfold sizeT
      rw [List.map_map]
      congr 1
      exact List.map_congr_left fun z _ => by simp only [Function.comp]; rw [g4]
    rw [this]; exact o.bytes
theorem Ok.removes (o : Ok S pa nm) (p : List Nm) (dir : Bool) : Ok (removeT S p dir).2 pa nm := by
  unfold removeT
  split
  · exact o
  · next h1 =>
    split
    · exact o
    · next j hj =>
      split
      · exact o
      · next x hx =>
        split
        · exact o
        · split
          · exact o
          · next h3 => exact o.remove h1 hj hx (Classical.not_not.1 h3)
end

/-- The numbers of a thing and of all below it, so deep and no deeper. -/
def idsO (l : List Th) : Nat → Nat → List Nat
  | 0, _ => []
  | F + 1, i => match findT l i with
    | none => []
    | some x => i :: x.h.flatMap fun e => idsO l F e.2
theorem idsO_eq {l : List Th} {F i : Nat} {x : Th} (h : findT l i = some x) : idsO l (F + 1) i = i :: x.h.flatMap fun e => idsO l F e.2 := by
  rw [idsO, h]
section
variable {S : Tr} {pa : Nat → Nat} {nm : Nat → Nm}
theorem Ok.walk_cons (o : Ok S pa nm) {x : Th} (hx : x ∈ S.ths) {e : Nm × Nat} (he : e ∈ x.h) (q : List Nm) : walkT S.ths x.id (e.1 :: q) = walkT S.ths e.2 q := by
  rw [walkT, findT_nat o.inc hx rfl]
  simp only
  rw [(getH_some (o.srt x hx) e.1 e.2).2 he]
theorem Ok.ids_mem (o : Ok S pa nm) : ∀ (F : Nat) (x : Th), x ∈ S.ths → ∀ k, k ∈ idsO S.ths F x.id ↔ ∃ q, q.length < F ∧ walkT S.ths x.id q = some k := by
  intro F
  induction F with
  | zero =>
    intro x _ k
    constructor
    · intro h; cases h
    · rintro ⟨q, h, _⟩; omega
  | succ F ih =>
    intro x hx k
    rw [idsO_eq (findT_nat o.inc hx rfl), List.mem_cons, List.mem_flatMap]
    constructor
    · rintro (rfl | ⟨e, he, hk⟩)
      · exact ⟨[], by simp, rfl⟩
      · obtain ⟨_, ⟨y, hy, hye⟩, _⟩ := (o.held x hx e.1 e.2).1 he
        rw [← hye] at hk
        obtain ⟨q, hq, hw⟩ := (ih y hy k).1 hk
        exact ⟨e.1 :: q, by simpa using hq, by rw [o.walk_cons hx he, ← hye]; exact hw⟩
    · rintro ⟨q, hq, hw⟩
      cases q with
      | nil => cases hw; exact .inl rfl
      | cons n q =>
        rw [walkT, findT_nat o.inc hx rfl] at hw
        simp only at hw
        cases hg : getH x.h n with
        | none => rw [hg] at hw; cases hw
        | some j =>
          rw [hg] at hw
          obtain ⟨_, ⟨y, hy, hye⟩, _⟩ := o.mem_child hx hg
          refine .inr ⟨(n, j), (getH_some (o.srt x hx) n j).1 hg, ?_⟩
          simp only
          rw [← hye]
          exact (ih y hy k).2 ⟨q, by simp at hq; omega, by rw [hye]; exact hw⟩
theorem Ok.ids_nodup (o : Ok S pa nm) : ∀ (F : Nat) (p : List Nm) (x : Th), x ∈ S.ths → walkT S.ths 0 p = some x.id → (idsO S.ths F x.id).Nodup := by
  intro F
  induction F with
  | zero => intro _ _ _ _; exact List.nodup_nil
  | succ F ih =>
    intro p x hx hp
    have below : ∀ e ∈ x.h, ∀ k ∈ idsO S.ths F e.2, ∃ q, walkT S.ths 0 (p ++ e.1 :: q) = some k := by
      intro e he k hk
      obtain ⟨_, ⟨y, hy, hye⟩, _⟩ := (o.held x hx e.1 e.2).1 he
      rw [← hye] at hk
      obtain ⟨q, _, hw⟩ := (o.ids_mem F y hy k).1 hk
      exact ⟨q, by rw [walk_append, hp]; show walkT S.ths x.id (e.1 :: q) = _; rw [o.walk_cons hx he, ← hye]; exact hw⟩
    rw [idsO_eq (findT_nat o.inc hx rfl), List.nodup_cons]
    constructor
    · intro h
      obtain ⟨e, he, hk⟩ := List.mem_flatMap.1 h
      obtain ⟨q, hq⟩ := below e he _ hk
      have h2 := congrArg List.length (o.inj _ _ _ _ (Nat.le_refl _) hp hq)
      simp at h2
    · refine List.pairwise_flatMap.2 ⟨fun e he => ?_, ?_⟩
      · obtain ⟨_, ⟨y, hy, hye⟩, _⟩ := (o.held x hx e.1 e.2).1 he
        rw [← hye]
        exact ih (p ++ [e.1]) y hy (by rw [walk_append, hp]; show walkT S.ths x.id [e.1] = _; rw [o.walk_cons hx he, hye]; rfl)
      · refine List.Pairwise.imp_of_mem ?_ (o.srt x hx)
        intro e e' he he' hlt k hk k' hk' hkk
        subst hkk
        obtain ⟨q, hq⟩ := below e he _ hk
        obtain ⟨q', hq'⟩ := below e' he' _ hk'
        have h2 := o.inj _ _ _ _ (Nat.le_refl _) hq hq'
        have h3 := List.append_cancel_left h2
        exact nlt_ne hlt (List.cons.inj h3).1
/-- How deep each thing lies. -/
structure Dep (S : Tr) (pa : Nat → Nat) (dp : Nat → Nat) : Prop where
  zero : dp 0 = 0
  up : ∀ x ∈ S.ths, x.id ≠ 0 → dp x.id = dp (pa x.id) + 1
  low : ∀ x ∈ S.ths, dp x.id ≤ 5
theorem Ok.path (o : Ok S pa nm) {dp : Nat → Nat} (d : Dep S pa dp) : ∀ (n : Nat) (x : Th), x ∈ S.ths → dp x.id ≤ n → ∃ p, p.length = dp x.id ∧ walkT S.ths 0 p = some x.id := by
  intro n
  induction n with
  | zero =>
    intro x hx hn
    by_cases h0 : x.id = 0
    · exact ⟨[], by rw [h0, d.zero]; rfl, by rw [h0]; rfl⟩
    · have := d.up x hx h0; omega
  | succ n ih =>
    intro x hx hn
    by_cases h0 : x.id = 0
    · exact ⟨[], by rw [h0, d.zero]; rfl, by rw [h0]; rfl⟩
    · have h1 := d.up x hx h0
      obtain ⟨q, hq, hqe, _⟩ := o.par x hx h0
      obtain ⟨p, hp, hw⟩ := ih q hq (by rw [hqe]; omega)
      refine ⟨p ++ [nm x.id], by rw [List.length_append, hp, hqe, h1]; rfl, ?_⟩
      rw [walk_snoc, hw]
      simp only [findT_nat o.inc hq rfl]
      exact (getH_some (o.srt q hq) _ _).2 ((o.held q hq _ _).2 ⟨h0, ⟨x, hx, rfl⟩, hqe.symm, rfl⟩)
/-- From the root on each thing is found once. -/
theorem Ok.ids_perm (o : Ok S pa nm) {dp : Nat → Nat} (d : Dep S pa dp) {F : Nat} (hF : 6 ≤ F) : (idsO S.ths F 0).Perm (S.ths.map (·.id)) := by
  obtain ⟨r, hr, hr0⟩ := o.rootMem
  have hn := o.ids_nodup F [] r hr (by rw [hr0]; rfl)
  rw [hr0] at hn
  have hi : (S.ths.map (·.id)).Nodup := by
    refine List.pairwise_map.2 (List.Pairwise.imp ?_ o.inc)
    intro a b hab
    omega
  rw [List.perm_ext_iff_of_nodup hn hi]
  intro k
  have hm := o.ids_mem F r hr k
  rw [hr0] at hm
  rw [hm, List.mem_map]
  constructor
  · rintro ⟨q, _, hw⟩
    obtain ⟨x, hx, hxe⟩ := o.walk_mem q 0 o.rootMem k hw
    exact ⟨x, hx, hxe⟩
  · rintro ⟨x, hx, rfl⟩
    obtain ⟨p, hp, hw⟩ := o.path d _ x hx (Nat.le_refl _)
    exact ⟨p, by have := d.low x hx; omega, hw⟩
theorem Ok.ids_count (o : Ok S pa nm) {dp : Nat → Nat} (d : Dep S pa dp) {F : Nat} (hF : 6 ≤ F) : (idsO S.ths F 0).length = S.ths.length := by
  rw [(o.ids_perm d hF).length_eq, List.length_map]
/-- So the bytes of all, too. -/
theorem Ok.ids_size (o : Ok S pa nm) {dp : Nat → Nat} (d : Dep S pa dp) {F : Nat} (hF : 6 ≤ F) : ((idsO S.ths F 0).map fun k => (attrsOf S k).s).sum = sizeT S.ths := by
  rw [((o.ids_perm d hF).map _).sum_nat, List.map_map]
  unfold sizeT
  congr 1
  apply List.map_congr_left
  intro x hx
  simp only [Function.comp, attrsOf]
  rw [findT_nat o.inc hx rfl]
  exact (o.att x hx).2.2
end

/-- A tree of no more than five names from the root on. -/
def Tall (S : Tr) : Prop := ∃ pa nm dp, Ok S pa nm ∧ Dep S pa dp
section
variable {S : Tr} {pa : Nat → Nat} {nm : Nat → Nm}
theorem Ok.depth (o : Ok S pa nm) {dp : Nat → Nat} (d : Dep S pa dp) {p : List Nm} {x : Th} (hx : x ∈ S.ths) (hw : walkT S.ths 0 p = some x.id) : p.length = dp x.id := by
  obtain ⟨q, h1, h2⟩ := o.path d _ x hx (Nat.le_refl _)
  rw [o.inj _ _ _ _ (Nat.le_refl _) hw h2, h1]
theorem tall_new : Tall newTr := by
  refine ⟨_, _, fun _ => 0, new_ok, rfl, fun x hx h => absurd (by rw [List.mem_singleton.1 hx]; rfl) h, fun _ _ => Nat.zero_le _⟩
theorem Tall.make (h : Tall S) (p : List Nm) (dir : Bool) (hp : p.length ≤ 5) : Tall (makeT S p dir).2 := by
  obtain ⟨pa, nm, dp, o, d⟩ := h
  unfold makeT
  split
  · exact ⟨pa, nm, dp, o, d⟩
  · next hpe =>
    split
    · exact ⟨pa, nm, dp, o, d⟩
    · next hr =>
      split
      · exact ⟨pa, nm, dp, o, d⟩
      · next hc =>
        obtain ⟨i, hi⟩ := roomT_zero (Classical.not_not.1 hr)
        obtain ⟨_, hw, x, hx, hxi, _⟩ := roomT_ok o hi
        obtain ⟨ok, _⟩ := o.make hi (by omega) dir
        rw [hi]
        have hdi := o.depth d hx (by rw [hxi]; exact hw)
        rw [hxi] at hdi
        have hlt := o.lt x hx
        have hpl : p.dropLast.length ≤ 4 := by rw [List.length_dropLast]; omega
        have hn0 : S.next ≠ 0 := by
          obtain ⟨r, h1, h2⟩ := o.rootMem
          have := o.lt r h1
          omega
        have hids : ∀ y ∈ setT S.ths i (putH (lastN p) S.next) ++ [newT S.next dir], (∃ z ∈ S.ths, y.id = z.id) ∨ y.id = S.next := by
          intro y hy
          rcases List.mem_append.1 hy with hy | hy
          · obtain ⟨z, hz, rfl⟩ := mem_setT.1 hy
            exact .inl ⟨z, hz, by split <;> rfl⟩
          · rw [List.mem_singleton.1 hy]; exact .inr rfl
        refine ⟨_, _, upd dp S.next (dp i + 1), ok, ?_, ?_, ?_⟩
        · rw [upd_ne _ _ (fun e => hn0 e.symm), d.zero]
        · intro y hy h0
          rcases hids y hy with ⟨z, hz, e⟩ | e
          · rw [e] at h0 ⊢
            have h1 := o.lt z hz
            obtain ⟨q, hq, hqe, _⟩ := o.par z hz h0
            have h2 := o.lt q hq
            rw [upd_ne _ _ (by omega), upd_ne pa _ (by omega), upd_ne _ _ (by omega)]
            exact d.up z hz h0
          · rw [e, upd_self, upd_self, upd_ne _ _ (by omega)]
        · intro y hy
          rcases hids y hy with ⟨z, hz, e⟩ | e
          · have h1 := o.lt z hz
            rw [e, upd_ne _ _ (by omega)]
            exact d.low z hz
          · rw [e, upd_self]; omega
theorem Tall.write (h : Tall S) (i : Int) (k : Nat) (b : List UInt8) : Tall (writeT S i k b).2 := by
  obtain ⟨pa, nm, dp, o, d⟩ := h
  have hids : ∀ y ∈ (writeT S i k b).2.ths, ∃ z ∈ S.ths, y.id = z.id := by
    unfold writeT
    split
    · exact fun y hy => ⟨y, hy, rfl⟩
    · split
      · exact fun y hy => ⟨y, hy, rfl⟩
      · split
        · exact fun y hy => ⟨y, hy, rfl⟩
        · intro y hy
          obtain ⟨z, hz, rfl⟩ := mem_setT.1 hy
          have : ∃ u ∈ S.ths, z.id = u.id := by
            split at hz
            · obtain ⟨u, hu, rfl⟩ := mem_setT.1 hz
              exact ⟨u, hu, by split <;> rfl⟩
            · exact ⟨z, hz, rfl⟩
          obtain ⟨u, hu, e⟩ := this
          exact ⟨u, hu, by rw [← e]; split <;> rfl⟩
  refine ⟨pa, nm, dp, o.write i k b, d.zero, fun y hy h0 => ?_, fun y hy => ?_⟩
  · obtain ⟨z, hz, e⟩ := hids y hy
    rw [e] at h0 ⊢
    exact d.up z hz h0
  · obtain ⟨z, hz, e⟩ := hids y hy
    rw [e]; exact d.low z hz
end

/-- So many things, and so many bytes, below the entries h. -/
def cntH (l : List Th) (F : Nat) (h : HL) : Nat := (h.flatMap fun e => idsO l F e.2).length
def sumH (S : Tr) (F : Nat) (h : HL) : Nat := ((h.flatMap fun e => idsO S.ths F e.2).map fun k => (attrsOf S k).s).sum
def cntO (l : List Th) (F i : Nat) : Nat := (idsO l F i).length
def sumO (S : Tr) (F i : Nat) : Nat := ((idsO S.ths F i).map fun k => (attrsOf S k).s).sum
theorem cntH_take (l : List Th) (F : Nat) (h : HL) (k : Nat) (hk : k < h.length) : cntH l F (h.take (k + 1)) = cntH l F (h.take k) + cntO l F (h[k]).2 := by
  unfold cntH cntO
  rw [List.take_succ_eq_append_getElem hk, List.flatMap_append, List.length_append]
  simp
theorem sumH_take (S : Tr) (F : Nat) (h : HL) (k : Nat) (hk : k < h.length) : sumH S F (h.take (k + 1)) = sumH S F (h.take k) + sumO S F (h[k]).2 := by
  unfold sumH sumO
  rw [List.take_succ_eq_append_getElem hk, List.flatMap_append, List.map_append, List.sum_append]
  simp
section
variable {S : Tr} {pa : Nat → Nat} {nm : Nat → Nm}
theorem Ok.cntO_eq (o : Ok S pa nm) {x : Th} (hx : x ∈ S.ths) (F : Nat) : cntO S.ths (F + 1) x.id = 1 + cntH S.ths F x.h := by
  unfold cntO cntH
  rw [idsO_eq (findT_nat o.inc hx rfl), List.length_cons]
  omega
theorem Ok.sumO_eq (o : Ok S pa nm) {x : Th} (hx : x ∈ S.ths) (F : Nat) : sumO S (F + 1) x.id = x.d.length + sumH S F x.h := by
  unfold sumO sumH
  rw [idsO_eq (findT_nat o.inc hx rfl), List.map_cons, List.sum_cons]
  congr 1
  rw [attrsOf, findT_nat o.inc hx rfl]
  exact (o.att x hx).2.2
/-- A directory has no bytes, a file holds nothing. -/
theorem Ok.sumO_dir (o : Ok S pa nm) {x : Th} (hx : x ∈ S.ths) (hd : x.dir = true) (F : Nat) : sumO S (F + 1) x.id = sumH S F x.h := by
  rw [o.sumO_eq hx, o.file x hx hd]
  simp
theorem Ok.cntO_file (o : Ok S pa nm) {x : Th} (hx : x ∈ S.ths) (hd : x.dir = false) (F : Nat) : cntO S.ths (F + 1) x.id = 1 ∧ sumO S (F + 1) x.id = x.d.length := by
  rw [o.cntO_eq hx, o.sumO_eq hx, o.holds hx hd]
  exact ⟨rfl, rfl⟩
/-- The whole: all things, all bytes. -/
theorem Tall.whole (h : Tall S) {F : Nat} (hF : 6 ≤ F) : cntO S.ths F 0 = S.ths.length ∧ sumO S F 0 = sizeT S.ths := by
  obtain ⟨pa, nm, dp, o, d⟩ := h
  exact ⟨o.ids_count d hF, o.ids_size d hF⟩
end

/-- From p on xs stands, and q is behind it. -/
def Stands (bs : List UInt8) (p : Nat) (xs : List UInt8) (q : Nat) : Prop := bs.drop p = xs ++ bs.drop q ∧ q = p + xs.length
theorem Stands.nil (bs : List UInt8) (p : Nat) : Stands bs p [] p := ⟨rfl, rfl⟩
theorem Stands.app {bs xs ys : List UInt8} {p q r : Nat} (h : Stands bs p xs q) (k : Stands bs q ys r) : Stands bs p (xs ++ ys) r :=
  ⟨by rw [h.1, k.1, List.append_assoc], by rw [k.2, h.2, List.length_append]; omega⟩
theorem Stands.split {bs xs ys : List UInt8} {p r : Nat} (h : Stands bs p (xs ++ ys) r) : Stands bs p xs (p + xs.length) ∧ Stands bs (p + xs.length) ys r := by
  obtain ⟨h1, h2⟩ := h
  have h3 : bs.drop (p + xs.length) = ys ++ bs.drop r := by
    rw [← List.drop_drop, h1, List.append_assoc, List.drop_left]
  exact ⟨⟨by rw [h3, h1, List.append_assoc], rfl⟩, ⟨h3, by rw [h2, List.length_append]; omega⟩⟩
theorem tk_fin {bs : List UInt8} {p : Nat} {y : Int} {n : Nat} (h : (tk bs p y n).2.2 = 0) : y = 0 ∧ (tk bs p y n).1.length = n ∧ Stands bs p (tk bs p y n).1 (tk bs p y n).2.1 := by
  unfold tk at h ⊢
  by_cases hy : y = 0
  · rw [if_pos hy] at h ⊢
    by_cases hl : bs.length - p < n
    · rw [if_pos hl] at h; cases h
    · rw [if_neg hl]
      have hln : ((bs.drop p).take n).length = n := by rw [List.length_take, List.length_drop]; omega
      refine ⟨hy, hln, ?_, by rw [hln]⟩
      show bs.drop p = (bs.drop p).take n ++ bs.drop (p + n)
      rw [← List.drop_drop, List.take_append_drop]
  · rw [if_neg hy] at h; exact absurd h hy
theorem tk_run {bs xs : List UInt8} {p q n : Nat} (h : Stands bs p xs q) (hn : n = xs.length) : tk bs p 0 n = (xs, q, 0) := by
  obtain ⟨h1, h2⟩ := h
  subst hn
  have hl := congrArg List.length h1
  rw [List.length_drop, List.length_append] at hl
  unfold tk
  rw [if_pos rfl, if_neg (by omega), h1, List.take_left, h2]
theorem valFrom_ge (xs : List UInt8) : ∀ m, m * 256 ^ xs.length ≤ valFrom m xs := by
  induction xs with
  | nil => intro m; simp [valFrom]
  | cons x xs ih =>
    intro m
    refine Nat.le_trans ?_ (ih (m * 256 + x.toNat))
    rw [List.length_cons, Nat.pow_succ, Nat.mul_comm (256 ^ xs.length), ← Nat.mul_assoc]
    exact Nat.mul_le_mul_right _ (by omega)
theorem be_valFrom : ∀ (xs : List UInt8) (m : Nat), be xs.length (valFrom m xs) = xs
  | [], _ => rfl
  | x :: xs, m => by
    have h1 := valFrom_lt xs (m * 256 + x.toNat)
    have h2 := valFrom_ge xs (m * 256 + x.toNat)
    have h3 : valFrom (m * 256 + x.toNat) xs / 256 ^ xs.length = m * 256 + x.toNat := Nat.div_eq_of_lt_le h2 h1
    have hx := x.toNat_lt
    show UInt8.ofNat (valFrom (m * 256 + x.toNat) xs / 256 ^ xs.length % 256) :: be xs.length (valFrom (m * 256 + x.toNat) xs) = x :: xs
    rw [be_valFrom xs, h3]
    congr 1
    apply UInt8.toNat_inj.1
    simp
theorem be_val {xs : List UInt8} {k : Nat} (h : xs.length = k) : be k (val xs) = xs := by subst h; exact be_valFrom xs 0
theorem valFrom_be2 (k : Nat) : ∀ (m n : Nat), valFrom m (be k n) = m * 256 ^ k + n % 256 ^ k := by
  induction k with
  | zero => intro m n; simp [be, valFrom, Nat.mod_one]
  | succ k ih =>
    intro m n
    rw [be, valFrom, ih]
    have h : (UInt8.ofNat (n / 256 ^ k % 256)).toNat = n / 256 ^ k % 256 := by simp
    rw [h, Nat.pow_succ, Nat.mod_mul, Nat.add_mul]
    have e : m * 256 * 256 ^ k = m * (256 ^ k * 256) := by rw [Nat.mul_assoc, Nat.mul_comm 256]
    rw [e, Nat.mul_comm (n / 256 ^ k % 256)]
    omega
theorem val_be2 (k n : Nat) (h : n < 256 ^ k) : val (be k n) = n := by
  unfold val
  rw [valFrom_be2, Nat.mod_eq_of_lt h]
  simp
theorem tx_fin {bs : List UInt8} {p : Nat} {y : Int} {m : Int} (h : (tx bs p y m).2.2 = 0) : y = 0 ∧ (tx bs p y m).1.length ≤ m.toNat ∧ Stands bs p (textBytes (tx bs p y m).1) (tx bs p y m).2.1 := by
  unfold tx at h ⊢
  split at h
  · cases h
  · next hm =>
    rw [if_neg hm]
    obtain ⟨h1, h2, h3⟩ := tk_fin h
    obtain ⟨k1, k2, k3⟩ := tk_fin h1
    refine ⟨k1, by rw [h2]; omega, ?_⟩
    unfold textBytes
    rw [h2, be_val k2]
    exact k3.app h3
theorem tx_run {bs xs : List UInt8} {p q : Nat} {m : Int} (h : Stands bs p (textBytes xs) q) (hm : xs.length ≤ m.toNat) (hb : xs.length ≤ 4294967295) : tx bs p 0 m = (xs, q, 0) := by
  unfold textBytes at h
  obtain ⟨h1, h2⟩ := h.split
  have e := tk_run h1 (n := 4) (by rw [be_length])
  have hv : val (be 4 xs.length) = xs.length := val_be2 4 _ (by omega)
  unfold tx
  rw [e]
  simp only [hv]
  rw [if_neg (by omega), tk_run h2 rfl]

/-- Attributes of which all is told. -/
theorem get_f1 (bs : List UInt8) (r : At × (Nat × Int)) : (get1 bs r).1.f = r.1.f := by unfold get1; split <;> rfl
theorem get_f2 (bs : List UInt8) (r : At × (Nat × Int)) : (get2 bs r).1.f = r.1.f := by unfold get2; split <;> rfl
theorem get_f4 (bs : List UInt8) (r : At × (Nat × Int)) : (get4 bs r).1.f = r.1.f := by unfold get4; split <;> rfl
theorem get_f8 (bs : List UInt8) (r : At × (Nat × Int)) : (get8 bs r).1.f = r.1.f := by unfold get8; split <;> rfl
theorem getA_f {bs : List UInt8} {p : Nat} {y : Int} (h : (getA bs p y).1.f = 15) : val (tk bs p y 4).1 = 15 ∧ (get8 bs (get4 bs (get2 bs (get1 bs (get0 bs (p, y)))))).2.2 = 0 ∧ getA bs p y = get8 bs (get4 bs (get2 bs (get1 bs (get0 bs (p, y))))) := by
  unfold getA get9 at h ⊢
  split at h
  · next h0 =>
    rw [get_f8, get_f4, get_f2, get_f1] at h
    rw [if_pos h0]
    exact ⟨h, h0, rfl⟩
  · cases h
/-- What is read behind the flags. -/
def t15 (bs : List UInt8) (t0 : List UInt8 × Nat × Int) : At × (Nat × Int) :=
  let t1 := tk bs t0.2.1 t0.2.2 8
  let t2 := tk bs t1.2.1 t1.2.2 4
  let t3 := tk bs t2.2.1 t2.2.2 4
  let t4 := tk bs t3.2.1 t3.2.2 4
  let t5 := tk bs t4.2.1 t4.2.2 4
  let t6 := tk bs t5.2.1 t5.2.2 4
  (⟨15, val t1.1, val t2.1, val t3.1, val t4.1, val t5.1, val t6.1⟩, t6.2)
theorem get_15 {bs : List UInt8} {p : Nat} {y : Int} (h : val (tk bs p y 4).1 = 15) : get8 bs (get4 bs (get2 bs (get1 bs (get0 bs (p, y))))) = t15 bs (tk bs p y 4) := by
  have h0 : get0 bs (p, y) = (⟨15, 0, 0, 0, 0, 0, 0⟩, (tk bs p y 4).2) := by
    unfold get0 rdN
    simp [h]
  rw [h0]
  have b1 : bt 1 15 = true := rfl
  have b2 : bt 2 15 = true := rfl
  have b4 : bt 4 15 = true := rfl
  have b8 : bt 8 15 = true := rfl
  simp only [get1, get2, get4, get8, b1, b2, b4, b8, if_true, t15]
theorem put_15 (s u g m a t : Nat) : putA ⟨15, s, u, g, m, a, t⟩ = be 4 15 ++ (be 8 s ++ (be 4 u ++ (be 4 g ++ (be 4 m ++ (be 4 a ++ be 4 t))))) := by
  have b1 : bt 1 15 = true := rfl
  have b2 : bt 2 15 = true := rfl
  have b4 : bt 4 15 = true := rfl
  have b8 : bt 8 15 = true := rfl
  simp only [putA, put1, put2, put4, put8, b1, b2, b4, b8, if_true, List.append_assoc]
theorem val_le4 {xs : List UInt8} (h : xs.length = 4) : val xs ≤ 4294967295 := by have := val_lt xs 4 (by omega); omega
theorem getA_fin {bs : List UInt8} {p : Nat} {y : Int} (h : (getA bs p y).1.f = 15) : y = 0 ∧ (getA bs p y).2.2 = 0 ∧ (getA bs p y).1.Ok ∧ Stands bs p (putA (getA bs p y).1) (getA bs p y).2.1 := by
  obtain ⟨h1, h2, h3⟩ := getA_f h
  rw [get_15 h1] at h2 h3
  rw [h3]
  unfold t15 at h2 ⊢
  simp only at h2 ⊢
  obtain ⟨e6, l6, s6⟩ := tk_fin h2
  obtain ⟨e5, l5, s5⟩ := tk_fin e6
  obtain ⟨e4, l4, s4⟩ := tk_fin e5
  obtain ⟨e3, l3, s3⟩ := tk_fin e4
  obtain ⟨e2, l2, s2⟩ := tk_fin e3
  obtain ⟨e1, l1, s1⟩ := tk_fin e2
  obtain ⟨e0, l0, s0⟩ := tk_fin e1
  refine ⟨e0, h2, ⟨by show 15 ≤ 4294967295; omega, ?_, val_le4 l2, val_le4 l3, val_le4 l4, val_le4 l5, val_le4 l6⟩, ?_⟩
  · have := val_lt _ 8 (Nat.le_of_eq l1)
    show val _ ≤ _
    omega
  · rw [put_15, be_val l1, be_val l2, be_val l3, be_val l4, be_val l5, be_val l6, ← h1, be_val l0]
    exact s0.app (s1.app (s2.app (s3.app (s4.app (s5.app s6)))))
theorem getA_run {bs : List UInt8} {p q : Nat} {x : At} (h : Stands bs p (putA x) q) (hx : x.Ok) (h15 : x.f = 15) : getA bs p 0 = (x, (q, 0)) := by
  obtain ⟨f, s, u, g, m, a, t⟩ := x
  have h15 : f = 15 := h15
  subst h15
  rw [put_15] at h
  obtain ⟨s0, h⟩ := h.split
  obtain ⟨s1, h⟩ := h.split
  obtain ⟨s2, h⟩ := h.split
  obtain ⟨s3, h⟩ := h.split
  obtain ⟨s4, h⟩ := h.split
  obtain ⟨s5, s6⟩ := h.split
  have r0 := tk_run s0 (n := 4) (by rw [be_length])
  have r1 := tk_run s1 (n := 8) (by rw [be_length])
  have r2 := tk_run s2 (n := 4) (by rw [be_length])
  have r3 := tk_run s3 (n := 4) (by rw [be_length])
  have r4 := tk_run s4 (n := 4) (by rw [be_length])
  have r5 := tk_run s5 (n := 4) (by rw [be_length])
  have r6 := tk_run s6 (n := 4) (by rw [be_length])
  have v0 : val (be 4 15) = 15 := val_be2 4 _ (by omega)
  have v1 : val (be 8 s) = s := val_be2 8 _ (by have : s ≤ 18446744073709551615 := hx.s; omega)
  have v2 : val (be 4 u) = u := val_be2 4 _ (by have : u ≤ 4294967295 := hx.u; omega)
  have v3 : val (be 4 g) = g := val_be2 4 _ (by have : g ≤ 4294967295 := hx.g; omega)
  have v4 : val (be 4 m) = m := val_be2 4 _ (by have : m ≤ 4294967295 := hx.m; omega)
  have v5 : val (be 4 a) = a := val_be2 4 _ (by have : a ≤ 4294967295 := hx.a; omega)
  have v6 : val (be 4 t) = t := val_be2 4 _ (by have : t ≤ 4294967295 := hx.t; omega)
  have hg : get8 bs (get4 bs (get2 bs (get1 bs (get0 bs (p, 0))))) = (⟨15, s, u, g, m, a, t⟩, (q, 0)) := by
    rw [get_15 (by rw [r0]; exact v0), r0]
    unfold t15
    simp only [r1, r2, r3, r4, r5, r6, v1, v2, v3, v4, v5, v6]
  unfold getA
  rw [hg]
  rfl

/-- A thing by itself, and a row of named things with all that they hold. -/
structure Hd where
  id : Nat
  dir : Bool
  a : At
  d : List UInt8
inductive Fo where
  | nil
  | cons (n : Nm) (x : Hd) (k r : Fo)
def Fo.heads : Fo → HL
  | .nil => []
  | .cons n x _ r => (n, x.id) :: r.heads
def thH (x : Hd) (k : Fo) : Th := ⟨x.id, x.dir, x.a, x.d, k.heads⟩
def Fo.ths : Fo → List Th
  | .nil => []
  | .cons _ x k r => thH x k :: (k.ths ++ r.ths)
def Fo.ids : Fo → List Nat
  | .nil => []
  | .cons _ x k r => x.id :: (k.ids ++ r.ids)
def Fo.size : Fo → Nat
  | .nil => 0
  | .cons _ x k r => x.d.length + k.size + r.size
def Fo.save : Fo → List UInt8
  | .nil => []
  | .cons n x k r => textBytes n.data.toList ++ (hdrB (thH x k) ++ k.save) ++ r.save
def Fo.push : Fo → List Nat → List Nat
  | .nil, l => l
  | .cons _ x k r, l => r.push (k.push (x.id :: l))
def hdGood (x : Hd) : Prop := x.a.Ok ∧ x.a.f = 15 ∧ x.a.s = x.d.length ∧ (x.dir = true → x.d = [])
def Fo.Good : Fo → Prop
  | .nil => True
  | .cons n x k r => rightP n.data.toList = true ∧ hdGood x ∧ (x.dir = false → k = .nil) ∧ (∀ m ∈ r.heads, nlt n m.1 = true) ∧ k.Good ∧ r.Good
theorem Fo.push_perm : ∀ (k : Fo) (l : List Nat), (k.push l).Perm (k.ids ++ l)
  | .nil, l => List.Perm.refl _
  | .cons _ x k r, l => by
    rw [Fo.push, Fo.ids]
    refine (r.push_perm _).trans ?_
    refine (List.Perm.append_left _ (k.push_perm _)).trans ?_
    rw [List.cons_append, List.append_assoc]
    refine (List.perm_append_comm_assoc _ _ _).trans ?_
    refine (List.Perm.append_left _ List.perm_middle).trans ?_
    exact List.perm_middle
theorem Fo.heads_le : ∀ k : Fo, k.heads.length ≤ k.ids.length
  | .nil => Nat.le_refl _
  | .cons _ x k r => by
    have := r.heads_le
    rw [Fo.heads, Fo.ids, List.length_cons, List.length_cons, List.length_append]
    omega

/-- Where the reader stands; the numbers so far, and how many bytes they have. -/
structure Ld where
  p : Nat
  y : Int
  ids : List Nat
  z : Nat
def ldK (bs : List UInt8) (s : Ld) : List UInt8 × Nat × Int := tk bs (tk bs s.p s.y 8).2.1 (tk bs s.p s.y 8).2.2 1
def ldG (bs : List UInt8) (s : Ld) : At × (Nat × Int) := getA bs (ldK bs s).2.1 (ldK bs s).2.2
/-- A thing's number, kind and attributes; its bytes; what it holds. -/
def headO (bs : List UInt8) (nx : Nat) (s : Ld) : Option (Hd × Ld) :=
  if nx ≤ val (tk bs s.p s.y 8).1 ∨ 1 < val (ldK bs s).1 ∨ (ldG bs s).1.f ≠ 15 then none
  else if val (tk bs s.p s.y 8).1 ∈ s.ids ∨ 200 ≤ s.ids.length then none
  else some (⟨val (tk bs s.p s.y 8).1, decide (val (ldK bs s).1 = 1), (ldG bs s).1, []⟩, ⟨(ldG bs s).2.1, (ldG bs s).2.2, val (tk bs s.p s.y 8).1 :: s.ids, s.z⟩)
def dataO (bs : List UInt8) (x : Hd) (s : Ld) : Option (Hd × Ld) :=
  if x.dir then (if x.a.s = 0 then some (x, s) else none)
  else if 1048576 < x.a.s ∨ 1048576 < s.z + x.a.s then none
  else some ({ x with d := (tk bs s.p s.y x.a.s).1 }, ⟨(tk bs s.p s.y x.a.s).2.1, (tk bs s.p s.y x.a.s).2.2, s.ids, s.z + (tk bs s.p s.y x.a.s).1.length⟩)
def kidsO (load : Ld → Option (Hd × Fo × Ld)) (bs : List UInt8) : Nat → Nm → Ld → Option (Fo × Ld)
  | 0, _, s => some (.nil, s)
  | c + 1, before, s =>
    if rightP (tx bs s.p s.y 30).1 = false ∨ nlt before (tb (tx bs s.p s.y 30).1) = false then none
    else match load ⟨(tx bs s.p s.y 30).2.1, (tx bs s.p s.y 30).2.2, s.ids, s.z⟩ with
      | none => none
      | some (x, k, s1) => match kidsO load bs c (tb (tx bs s.p s.y 30).1) s1 with
        | none => none
        | some (r, s2) => some (.cons (tb (tx bs s.p s.y 30).1) x k r, s2)
def loadO (bs : List UInt8) (nx : Nat) : Nat → Ld → Option (Hd × Fo × Ld)
  | 0, _ => none
  | F + 1, s => match headO bs nx s with
    | none => none
    | some (x, s1) => match dataO bs x s1 with
      | none => none
      | some (x, s2) =>
        if x.dir = false then (if val (tk bs s2.p s2.y 4).1 = 0 then some (x, .nil, ⟨(tk bs s2.p s2.y 4).2.1, (tk bs s2.p s2.y 4).2.2, s2.ids, s2.z⟩) else none)
        else match kidsO (loadO bs nx F) bs (val (tk bs s2.p s2.y 4).1) ⟨#[]⟩ ⟨(tk bs s2.p s2.y 4).2.1, (tk bs s2.p s2.y 4).2.2, s2.ids, s2.z⟩ with
          | none => none
          | some (k, s3) => some (x, k, s3)

/-- What a load that goes on has read. -/
structure Read1 (bs : List UInt8) (nx : Nat) (s : Ld) (x : Hd) (k : Fo) (s' : Ld) : Prop where
  ids : s'.ids = k.push (x.id :: s.ids)
  nod : s.ids.Nodup → s'.ids.Nodup
  cnt : s.ids.length ≤ 200 → s'.ids.length ≤ 200
  lt : x.id < nx ∧ ∀ i ∈ k.ids, i < nx
  z : s'.z = s.z + (x.d.length + k.size)
  zle : s.z ≤ 1048576 → s'.z ≤ 1048576
  fin : s'.y = 0 → s.y = 0 ∧ Stands bs s.p (hdrB (thH x k) ++ k.save) s'.p ∧ hdGood x ∧ (x.dir = false → k = .nil) ∧ k.Good
structure ReadK (bs : List UInt8) (nx : Nat) (before : Nm) (c : Nat) (s : Ld) (k : Fo) (s' : Ld) : Prop where
  ids : s'.ids = k.push s.ids
  nod : s.ids.Nodup → s'.ids.Nodup
  cnt : s.ids.length ≤ 200 → s'.ids.length ≤ 200
  lt : ∀ i ∈ k.ids, i < nx
  z : s'.z = s.z + k.size
  zle : s.z ≤ 1048576 → s'.z ≤ 1048576
  len : k.heads.length = c
  srt : ∀ m ∈ k.heads, nlt before m.1 = true
  fin : s'.y = 0 → s.y = 0 ∧ Stands bs s.p k.save s'.p ∧ k.Good
theorem kids_read {bs : List UInt8} {nx : Nat} {load : Ld → Option (Hd × Fo × Ld)} (hl : ∀ s x k s', load s = some (x, k, s') → Read1 bs nx s x k s') : ∀ (c : Nat) (before : Nm) (s : Ld) (k : Fo) (s' : Ld), kidsO load bs c before s = some (k, s') → ReadK bs nx before c s k s' := by
  intro c
  induction c with
  | zero =>
    intro before s k s' h
    rw [kidsO] at h
    obtain ⟨rfl, rfl⟩ := Prod.mk.inj (Option.some.inj h)
    exact ⟨rfl, id, id, (fun i h => by cases h), rfl, id, rfl, (fun m h => by cases h), fun h => ⟨h, Stands.nil _ _, trivial⟩⟩
  | succ c ih =>
    intro before s k s' h
    rw [kidsO] at h
    split at h
    · cases h
    next hc =>
    split at h
    · cases h
    next x k1 s1 hx =>
    split at h
    · cases h
    next r s2 hr =>
    obtain ⟨rfl, rfl⟩ := Prod.mk.inj (Option.some.inj h)
    have h1 := hl _ _ _ _ hx
    have h2 := ih _ _ _ _ hr
    have hc1 : rightP (tx bs s.p s.y 30).1 = true := by cases e : rightP (tx bs s.p s.y 30).1 with | true => rfl | false => exact absurd (.inl e) hc
    have hc2 : nlt before (tb (tx bs s.p s.y 30).1) = true := by cases e : nlt before (tb (tx bs s.p s.y 30).1) with | true => rfl | false => exact absurd (.inr e) hc
    refine ⟨?_, fun h => h2.nod (h1.nod h), fun h => h2.cnt (h1.cnt h), ?_, ?_, fun h => h2.zle (h1.zle h), ?_, ?_, fun h => ?_⟩
    · rw [h2.ids, h1.ids]; rfl
    · intro i hi
      rw [Fo.ids, List.mem_cons, List.mem_append] at hi
      rcases hi with rfl | hi | hi
      · exact h1.lt.1
      · exact h1.lt.2 i hi
      · exact h2.lt i hi
    · rw [h2.z, h1.z, Fo.size]; simp only; omega
    · rw [Fo.heads, List.length_cons, h2.len]
    · intro m hm
      rw [Fo.heads, List.mem_cons] at hm
      rcases hm with rfl | hm
      · exact hc2
      · exact nlt_trans hc2 (h2.srt m hm)
    · obtain ⟨a1, a2, a3⟩ := h2.fin h
      obtain ⟨b1, b2, b3, b4, b5⟩ := h1.fin a1
      obtain ⟨c1, c2, c3⟩ := tx_fin b1
      refine ⟨c1, ?_, ?_⟩
      · rw [Fo.save, tb_list]
        exact (c3.app b2).app a2
      · exact ⟨by rw [tb_list]; exact hc1, b3, b4, h2.srt, b5, a3⟩
theorem head_read {bs : List UInt8} {nx : Nat} {s : Ld} {x : Hd} {s' : Ld} (h : headO bs nx s = some (x, s')) :
    x.d = [] ∧ x.id < nx ∧ x.id ∉ s.ids ∧ s.ids.length < 200 ∧ s'.ids = x.id :: s.ids ∧ s'.z = s.z ∧ x.a.Ok ∧ x.a.f = 15 ∧ s.y = 0 ∧ s'.y = 0 ∧ Stands bs s.p (be 8 x.id ++ [bit x.dir] ++ putA x.a) s'.p := by
  unfold headO at h
  split at h
  · cases h
  next h1 =>
  split at h
  · cases h
  next h2 =>
  obtain ⟨rfl, rfl⟩ := Prod.mk.inj (Option.some.inj h)
  have h3 : (ldG bs s).1.f = 15 := Classical.not_not.1 fun e => h1 (.inr (.inr e))
  obtain ⟨g1, g2, g3, g4⟩ := getA_fin h3
  obtain ⟨k1, k2, k3⟩ := tk_fin (show (ldK bs s).2.2 = 0 from g1)
  obtain ⟨i1, i2, i3⟩ := tk_fin k1
  refine ⟨rfl, by show val _ < nx; omega, fun e => h2 (.inl e), by omega, rfl, rfl, g3, h3, i1, g2, ?_⟩
  have hkv : [bit (decide (val (ldK bs s).1 = 1))] = (ldK bs s).1 := by
    have hk1 : (ldK bs s).1.length = 1 := k2
    obtain ⟨b, hb⟩ := List.length_eq_one_iff.1 hk1
    have hle : val (ldK bs s).1 ≤ 1 := by omega
    rw [hb] at hle ⊢
    have hv : val [b] = b.toNat := by simp [val, valFrom]
    rw [hv] at hle ⊢
    congr 1
    by_cases e : b.toNat = 1
    · rw [decide_eq_true e]
      exact UInt8.toNat_inj.1 e.symm
    · rw [decide_eq_false e]
      exact UInt8.toNat_inj.1 (by show 0 = b.toNat; omega)
  show Stands bs s.p (be 8 (val (tk bs s.p s.y 8).1) ++ [bit (decide (val (ldK bs s).1 = 1))] ++ putA (ldG bs s).1) (ldG bs s).2.1
  rw [hkv, be_val i2]
  exact (i3.app k3).app g4
theorem load_read {bs : List UInt8} {nx : Nat} : ∀ (F : Nat) (s : Ld) (x : Hd) (k : Fo) (s' : Ld), loadO bs nx F s = some (x, k, s') → Read1 bs nx s x k s' := by
  intro F
  induction F with
  | zero => intro s x k s' h; cases h
  | succ F ih =>
    intro s x k s' h
    rw [loadO] at h
    split at h
    · cases h
    next x1 s1 h1 =>
    split at h
    · cases h
    next x2 s2 h2 =>
    obtain ⟨a0, a1, a2, a3, a4, a5, a6, a7, a8, a9, a10⟩ := head_read h1
    have hd : x2.id = x1.id ∧ x2.dir = x1.dir ∧ x2.a = x1.a ∧ s2.ids = s1.ids ∧ s2.z = s1.z + x2.d.length ∧ (s1.z ≤ 1048576 → s2.z ≤ 1048576) ∧ (x2.dir = true → x2.d = []) ∧ (s2.y = 0 → x2.a.s = x2.d.length ∧ Stands bs s1.p x2.d s2.p) := by
      unfold dataO at h2
      split at h2
      · next hdir =>
        split at h2
        · next hz =>
          obtain ⟨rfl, rfl⟩ := Prod.mk.inj (Option.some.inj h2)
          refine ⟨rfl, rfl, rfl, rfl, ?_, id, fun _ => a0, fun _ => ?_⟩
          · rw [a0]; rfl
          · rw [a0]; exact ⟨hz, Stands.nil _ _⟩
        · cases h2
      · next hdir =>
        split at h2
        · cases h2
        · next hz =>
          obtain ⟨rfl, rfl⟩ := Prod.mk.inj (Option.some.inj h2)
          have hl := tk_len bs s1.p s1.y x1.a.s
          refine ⟨rfl, rfl, rfl, rfl, rfl, fun _ => ?_, fun e => absurd e hdir, fun hy => ?_⟩
          · show s1.z + _ ≤ _; omega
          · obtain ⟨_, e2, e3⟩ := tk_fin hy
            exact ⟨e2.symm, e3⟩
    obtain ⟨d1, d2, d3, d4, d5, d6, d7, d8⟩ := hd
    have hnod : s.ids.Nodup → s2.ids.Nodup := fun h => by rw [d4, a4]; exact List.nodup_cons.2 ⟨a2, h⟩
    have hcnt : s2.ids.length ≤ 200 := by rw [d4, a4, List.length_cons]; omega
    have hzz : s2.z = s.z + x2.d.length := by rw [d5, a5]
    have hhd : s2.y = 0 → hdGood x2 ∧ Stands bs s.p (be 8 x2.id ++ [bit x2.dir] ++ putA x2.a ++ x2.d) s2.p := fun hy => by
      obtain ⟨e1, e2⟩ := d8 hy
      refine ⟨⟨by rw [d3]; exact a6, by rw [d3]; exact a7, e1, d7⟩, ?_⟩
      rw [d1, d2, d3]
      exact a10.app e2
    split at h
    · next hdir =>
      split at h
      · next hv =>
        obtain ⟨q1, q2⟩ := Prod.mk.inj (Option.some.inj h)
        obtain ⟨q3, q4⟩ := Prod.mk.inj q2
        subst q1 q3 q4
        refine ⟨by rw [d1]; exact d4.trans a4, hnod, fun _ => hcnt, ⟨by rw [d1]; exact a1, fun i h => by cases h⟩, ?_, fun h => d6 (by rw [a5]; exact h), fun hy => ?_⟩
        · simp only [Fo.size, Nat.add_zero]; exact hzz
        · obtain ⟨e1, e2, e3⟩ := tk_fin hy
          obtain ⟨f1, f2⟩ := hhd e1
          refine ⟨a8, ?_, f1, fun _ => rfl, trivial⟩
          rw [Fo.save, List.append_nil]
          have : hdrB (thH x2 .nil) = be 8 x2.id ++ [bit x2.dir] ++ putA x2.a ++ x2.d ++ (tk bs s2.p s2.y 4).1 := by
            rw [← be_val e2, hv]; rfl
          rw [this]
          exact f2.app e3
      · cases h
    · next hdir =>
      split at h
      · cases h
      next k1 s3 hk =>
      obtain ⟨q1, q2⟩ := Prod.mk.inj (Option.some.inj h)
      obtain ⟨q3, q4⟩ := Prod.mk.inj q2
      subst q1 q3 q4
      have hr := kids_read ih _ _ _ _ _ hk
      refine ⟨?_, fun h => hr.nod (hnod h), fun _ => hr.cnt hcnt, ⟨by rw [d1]; exact a1, hr.lt⟩, ?_, fun h => hr.zle (d6 (by rw [a5]; exact h)), fun hy => ?_⟩
      · rw [hr.ids, d4, a4, d1]
      · rw [hr.z]; simp only [hzz]; omega
      · obtain ⟨f1, f2, f3⟩ := hr.fin hy
        obtain ⟨e1, e2, e3⟩ := tk_fin f1
        obtain ⟨g1, g2⟩ := hhd e1
        refine ⟨a8, ?_, g1, fun e => absurd e hdir, f3⟩
        have : hdrB (thH x2 k1) = be 8 x2.id ++ [bit x2.dir] ++ putA x2.a ++ x2.d ++ (tk bs s2.p s2.y 4).1 := by
          rw [← be_val e2, ← hr.len]; rfl
        rw [this]
        exact (g2.app e3).app f2

theorem nodup_mid {a : Nat} {l m : List Nat} : (l ++ a :: m).Nodup ↔ (a :: (l ++ m)).Nodup := List.perm_middle.nodup_iff
theorem nlt_nil {n : Nm} (h : rightP n.data.toList = true) : nlt ⟨#[]⟩ n = true := by
  have := ((rightP_iff _).1 h).1
  unfold nlt
  cases e : n.data.toList with
  | nil => rw [e] at this; simp at this
  | cons a l => rfl
theorem Fo.head_right : ∀ {k : Fo}, k.Good → ∀ {m : Nm × Nat}, m ∈ k.heads → rightP m.1.data.toList = true
  | .nil, _, _, h => by cases h
  | .cons n x k r, g, m, h => by
    rw [Fo.heads, List.mem_cons] at h
    rcases h with rfl | h
    · exact g.1
    · exact Fo.head_right g.2.2.2.2.2 h
theorem head_run {bs : List UInt8} {nx : Nat} {s : Ld} {x : Hd} {q : Nat} (hg : hdGood x) (hx : x.id < nx) (hnx : nx ≤ 9000000000000000000) (hni : x.id ∉ s.ids) (hc : s.ids.length < 200) (hy : s.y = 0)
    (h : Stands bs s.p (be 8 x.id ++ [bit x.dir] ++ putA x.a) q) : headO bs nx s = some (⟨x.id, x.dir, x.a, []⟩, ⟨q, 0, x.id :: s.ids, s.z⟩) := by
  obtain ⟨p, y, ids, z⟩ := s
  have hy : y = 0 := hy
  subst hy
  rw [List.append_assoc] at h
  obtain ⟨s1, h⟩ := h.split
  obtain ⟨s2, s3⟩ := h.split
  have r1 := tk_run s1 (n := 8) (by rw [be_length])
  have r2 := tk_run s2 (n := 1) rfl
  have r3 := getA_run s3 hg.1 hg.2.1
  have v1 : val (be 8 x.id) = x.id := val_be2 8 _ (by omega)
  have v2 : val [bit x.dir] = if x.dir then 1 else 0 := by cases x.dir <;> rfl
  have hK : ldK bs ⟨p, 0, ids, z⟩ = ([bit x.dir], p + (be 8 x.id).length + 1, 0) := by
    unfold ldK
    simp only [r1]
    exact r2
  have hG : ldG bs ⟨p, 0, ids, z⟩ = (x.a, (q, 0)) := by
    unfold ldG
    rw [hK]
    exact r3
  unfold headO
  simp only [r1, hK, hG, v1, v2]
  have hk : ¬ (nx ≤ x.id ∨ 1 < (if x.dir = true then 1 else 0) ∨ x.a.f ≠ 15) := by
    rintro (h | h | h)
    · omega
    · cases hd : x.dir <;> rw [hd] at h <;> simp at h
    · exact h hg.2.1
  have hk2 : ¬ (x.id ∈ ids ∨ 200 ≤ ids.length) := by
    rintro (h | h)
    · exact hni h
    · have : ids.length < 200 := hc; omega
  rw [if_neg hk, if_neg hk2]
  cases hd : x.dir <;> rfl
theorem data_run {bs : List UInt8} {x : Hd} {s : Ld} {q : Nat} (hg : hdGood x) (hz : s.z + x.d.length ≤ 1048576) (hy : s.y = 0) (h : Stands bs s.p x.d q) :
    dataO bs ⟨x.id, x.dir, x.a, []⟩ s = some (x, ⟨q, 0, s.ids, s.z + x.d.length⟩) := by
  obtain ⟨p, y, ids, z⟩ := s
  have hy : y = 0 := hy
  subst hy
  obtain ⟨g1, g2, g3, g4⟩ := hg
  obtain ⟨i, dir, a, d⟩ := x
  unfold dataO
  cases hd : dir with
  | true =>
    have hd0 : d = [] := g4 hd
    subst hd0
    have h2 : q = p := h.2
    simp only [if_true]
    rw [if_pos (show a.s = 0 from g3), h2]
    rfl
  | false =>
    have g3 : a.s = d.length := g3
    have hz : z + d.length ≤ 1048576 := hz
    have r := tk_run h g3
    simp only [Bool.false_eq_true, if_false]
    rw [if_neg (by rw [g3]; omega), r]
/-- Behind the thing itself: how many it holds, and they. -/
theorem node_run {bs : List UInt8} {nx F : Nat} {s : Ld} {x : Hd} {k : Fo} {q : Nat} (hg : hdGood x) (hd : x.dir = false → k = .nil) (hx : x.id < nx) (hnx : nx ≤ 9000000000000000000) (hni : x.id ∉ s.ids) (hc : s.ids.length < 200) (hz : s.z + x.d.length ≤ 1048576) (hy : s.y = 0) (hkl : k.heads.length ≤ 200)
    (h : Stands bs s.p (hdrB (thH x k) ++ k.save) q)
    (ih : ∀ m, Stands bs m k.save q → kidsO (loadO bs nx F) bs k.heads.length ⟨#[]⟩ ⟨m, 0, x.id :: s.ids, s.z + x.d.length⟩ = some (k, ⟨q, 0, k.push (x.id :: s.ids), s.z + x.d.length + k.size⟩)) :
    loadO bs nx (F + 1) s = some (x, k, ⟨q, 0, k.push (x.id :: s.ids), s.z + x.d.length + k.size⟩) := by
  obtain ⟨h1, h2⟩ := h.split
  have e : hdrB (thH x k) = (be 8 x.id ++ [bit x.dir] ++ putA x.a) ++ (x.d ++ be 4 k.heads.length) := by simp [hdrB, thH]
  rw [e] at h1
  obtain ⟨s1, h1⟩ := h1.split
  obtain ⟨s2, s3⟩ := h1.split
  have hv : val (be 4 k.heads.length) = k.heads.length := val_be2 4 _ (by omega)
  have r3 := tk_run s3 (n := 4) (by rw [be_length])
  have hq : ∀ m, Stands bs m k.save q → m + k.save.length = q := fun m h => h.2.symm
  have e3 := hq _ h2
  have e4 : s.p + (be 8 x.id ++ [bit x.dir] ++ putA x.a).length + x.d.length + (be 4 k.heads.length).length = s.p + (hdrB (thH x k)).length := by rw [e]; simp only [List.length_append]; omega
  rw [loadO, head_run hg hx hnx hni hc hy s1]
  simp only
  rw [data_run (s := ⟨s.p + (be 8 x.id ++ [bit x.dir] ++ putA x.a).length, 0, x.id :: s.ids, s.z⟩) hg hz rfl s2]
  simp only
  have s3' : tk bs (s.p + (be 8 x.id ++ [bit x.dir] ++ putA x.a).length + x.d.length) 0 4 = (be 4 k.heads.length, s.p + (hdrB (thH x k)).length, 0) := by
    rw [r3]
    congr 2
    have := s3.2
    omega
  rw [s3', hv]
  cases hdx : x.dir with
  | false =>
    have := hd hdx
    subst this
    rw [if_pos rfl, if_pos (by rfl)]
    have : s.p + (hdrB (thH x .nil)).length = q := h2.2.symm
    rw [this]
    rfl
  | true =>
    rw [if_neg (by simp)]
    simp only
    rw [ih _ h2]
theorem kids_run {bs : List UInt8} {nx : Nat} (hnx : nx ≤ 9000000000000000000) : ∀ (k : Fo) (F : Nat) (before : Nm) (s : Ld) (q : Nat), k.Good → (∀ m ∈ k.heads, nlt before m.1 = true) → Stands bs s.p k.save q → s.y = 0 → (k.ids ++ s.ids).Nodup → k.ids.length + s.ids.length ≤ 200 → (∀ i ∈ k.ids, i < nx) → s.z + k.size ≤ 1048576 → 201 ≤ F + s.ids.length →
    kidsO (loadO bs nx F) bs k.heads.length before s = some (k, ⟨q, 0, k.push s.ids, s.z + k.size⟩)
  | .nil, F, before, s, q, _, _, h, hy, _, _, _, _, _ => by
    obtain ⟨p, y, ids, z⟩ := s
    have hy : y = 0 := hy
    subst hy
    have h2 : q = p := h.2
    rw [h2]
    rfl
  | .cons n x k r, F, before, s, q, hg, hb, h, hy, hn, hc, hlt, hz, hF => by
    obtain ⟨g1, g2, g3, g4, g5, g6⟩ := hg
    rw [Fo.save] at h
    obtain ⟨h, hr⟩ := h.split
    obtain ⟨ht, hx⟩ := h.split
    have g1' := rightP_len g1
    have e1 := tx_run (m := 30) ht (by show _ ≤ 30; exact g1') (by omega)
    rw [Fo.ids, List.cons_append, List.length_cons, List.length_append] at *
    rw [List.nodup_cons, List.append_assoc] at hn
    obtain ⟨hn1, hn2⟩ := hn
    rw [Fo.size] at hz
    have hbn : nlt before n = true := hb (n, x.id) (by rw [Fo.heads]; exact List.mem_cons_self)
    obtain ⟨F, rfl⟩ : ∃ F', F = F' + 1 := ⟨F - 1, by omega⟩
    rw [Fo.heads, List.length_cons, kidsO, hy, e1, tb_of]
    simp only
    rw [if_neg (by rw [g1, hbn]; simp)]
    have hkn : (k.ids ++ (x.id :: s.ids)).Nodup := by
      rw [nodup_mid, List.nodup_cons]
      refine ⟨fun e => hn1 ?_, ?_⟩
      · rcases List.mem_append.1 e with e | e
        · exact List.mem_append_left _ e
        · exact List.mem_append_right _ (List.mem_append_right _ e)
      · exact List.Nodup.sublist (List.Sublist.append_left (List.sublist_append_right _ _) _) hn2
    have hnode := node_run (bs := bs) (nx := nx) (F := F) (s := ⟨s.p + (textBytes n.data.toList).length, 0, s.ids, s.z⟩) (x := x) (k := k) g2 g3 (hlt _ List.mem_cons_self) hnx (fun e => hn1 (List.mem_append_right _ (List.mem_append_right _ e))) (by show s.ids.length < 200; omega) (by show s.z + _ ≤ _; omega) rfl (by have := k.heads_le; omega) hx (fun m hm =>
      kids_run hnx k F ⟨#[]⟩ ⟨m, 0, x.id :: s.ids, s.z + x.d.length⟩ _ g5 (fun m' hm' => nlt_nil (Fo.head_right g5 hm')) hm rfl hkn (by rw [List.length_cons]; omega) (fun i hi => hlt i (List.mem_cons_of_mem _ (List.mem_append_left _ hi))) (by show s.z + x.d.length + k.size ≤ _; omega) (by show 201 ≤ F + (x.id :: s.ids).length; rw [List.length_cons]; omega))
    rw [hnode]
    simp only
    have hpl : (k.push (x.id :: s.ids)).length = k.ids.length + (s.ids.length + 1) := by rw [(k.push_perm _).length_eq, List.length_append, List.length_cons]
    rw [kids_run hnx r (F + 1) n ⟨_, 0, k.push (x.id :: s.ids), s.z + x.d.length + k.size⟩ q g6 g4 hr rfl (by
        refine ((List.Perm.append_left _ (k.push_perm _)).nodup_iff).2 ?_
        show (r.ids ++ (k.ids ++ (x.id :: s.ids))).Nodup
        rw [← List.append_assoc, nodup_mid, List.nodup_cons]
        refine ⟨fun e => hn1 ?_, ?_⟩
        · simp only [List.mem_append] at e ⊢
          rcases e with (e | e) | e
          · exact .inr (.inl e)
          · exact .inl e
          · exact .inr (.inr e)
        · refine (List.Perm.nodup_iff ?_).1 hn2
          rw [List.append_assoc]
          exact (List.perm_append_comm_assoc _ _ _)) (by show _ + (k.push (x.id :: s.ids)).length ≤ 200; rw [hpl]; omega) (fun i hi => hlt i (List.mem_cons_of_mem _ (List.mem_append_right _ hi))) (by show s.z + x.d.length + k.size + r.size ≤ _; omega) (by show 201 ≤ F + 1 + (k.push (x.id :: s.ids)).length; rw [hpl]; omega)]
    simp only
    congr 3
    rw [Fo.size]
    omega

theorem Fo.ths_ids : ∀ k : Fo, k.ths.map (·.id) = k.ids
  | .nil => rfl
  | .cons _ x k r => by rw [Fo.ths, Fo.ids, List.map_cons, List.map_append, k.ths_ids, r.ths_ids]; rfl
/-- What is held, all together, is each thing's number once. -/
theorem Fo.kid_ids : ∀ k : Fo, (k.heads.map (·.2) ++ k.ths.flatMap fun z => z.h.map (·.2)).Perm k.ids
  | .nil => List.Perm.refl _
  | .cons n x k r => by
    rw [Fo.heads, Fo.ths, Fo.ids, List.map_cons, List.cons_append, List.flatMap_cons, List.flatMap_append]
    refine List.Perm.cons _ ?_
    show (r.heads.map (·.2) ++ (k.heads.map (·.2) ++ (_ ++ _))).Perm _
    refine (List.perm_append_comm_assoc _ _ _).trans ?_
    refine (List.Perm.append_left _ (List.perm_append_comm_assoc _ _ _)).trans ?_
    rw [← List.append_assoc]
    exact List.Perm.append k.kid_ids r.kid_ids
theorem Fo.head_mem {k : Fo} {e : Nm × Nat} (h : e ∈ k.heads) : e.2 ∈ k.ids := (k.kid_ids).mem_iff.1 (List.mem_append_left _ (List.mem_map_of_mem h))
theorem Fo.kid_mem {k : Fo} {z : Th} (hz : z ∈ k.ths) {e : Nm × Nat} (h : e ∈ z.h) : e.2 ∈ k.ids := (k.kid_ids).mem_iff.1 (List.mem_append_right _ (List.mem_flatMap.2 ⟨z, hz, List.mem_map_of_mem h⟩))
theorem Fo.id_mem {k : Fo} {z : Th} (hz : z ∈ k.ths) : z.id ∈ k.ids := by rw [← k.ths_ids]; exact List.mem_map_of_mem hz
theorem flat_uniq {α : Type} {f : α → List Nat} : ∀ {l : List α}, (l.flatMap f).Nodup → ∀ {a b : α}, a ∈ l → b ∈ l → ∀ {j : Nat}, j ∈ f a → j ∈ f b → a = b
  | [], _, a, _, h, _, _, _, _ => by cases h
  | c :: l, hn, a, b, ha, hb, j, h1, h2 => by
    rw [List.flatMap_cons, List.nodup_append] at hn
    obtain ⟨_, n2, n3⟩ := hn
    rcases List.mem_cons.1 ha with e1 | ha'
    · rcases List.mem_cons.1 hb with e2 | hb'
      · rw [e1, e2]
      · exact absurd rfl (n3 j (by rw [← e1]; exact h1) j (List.mem_flatMap.2 ⟨b, hb', h2⟩))
    · rcases List.mem_cons.1 hb with e2 | hb'
      · exact absurd rfl (n3 j (by rw [← e2]; exact h2) j (List.mem_flatMap.2 ⟨a, ha', h1⟩))
      · exact flat_uniq n2 ha' hb' h1 h2
theorem flat_nodup {α : Type} {f : α → List Nat} : ∀ {l : List α}, (l.flatMap f).Nodup → ∀ {a : α}, a ∈ l → (f a).Nodup
  | [], _, _, h => by cases h
  | c :: l, hn, a, ha => by
    rw [List.flatMap_cons, List.nodup_append] at hn
    rcases List.mem_cons.1 ha with e | ha'
    · rw [e]; exact hn.1
    · exact flat_nodup hn.2.1 ha'
theorem map_uniq {α : Type} {g : α → Nat} : ∀ {l : List α}, (l.map g).Nodup → ∀ {a b : α}, a ∈ l → b ∈ l → g a = g b → a = b
  | [], _, _, _, h, _, _ => by cases h
  | c :: l, hn, a, b, ha, hb, e => by
    rw [List.map_cons, List.nodup_cons] at hn
    rcases List.mem_cons.1 ha with e1 | ha'
    · rcases List.mem_cons.1 hb with e2 | hb'
      · rw [e1, e2]
      · exact absurd (by rw [← e1, e]; exact List.mem_map_of_mem (f := g) hb') hn.1
    · rcases List.mem_cons.1 hb with e2 | hb'
      · exact absurd (by rw [← e2, ← e]; exact List.mem_map_of_mem (f := g) ha') hn.1
      · exact map_uniq hn.2 ha' hb' e
/-- A tree, told by what each thing holds. -/
theorem Ok.of {S : Tr} (root : ∃ r t, S.ths = r :: t ∧ r.id = 0 ∧ r.dir = true) (inc : Inc S.ths) (lt : ∀ x ∈ S.ths, x.id < S.next)
    (kid : ∀ z ∈ S.ths, ∀ n j, (n, j) ∈ z.h → j ≠ 0 ∧ ∃ y ∈ S.ths, y.id = j)
    (has : ∀ y ∈ S.ths, y.id ≠ 0 → ∃ z ∈ S.ths, ∃ n, (n, y.id) ∈ z.h)
    (one : ∀ z ∈ S.ths, ∀ z' ∈ S.ths, ∀ n n' j, (n, j) ∈ z.h → (n', j) ∈ z'.h → z.id = z'.id ∧ n = n')
    (rank : ∃ rk : Nat → Nat, ∀ z ∈ S.ths, ∀ n j, (n, j) ∈ z.h → rk z.id < rk j)
    (right : ∀ z ∈ S.ths, ∀ n j, (n, j) ∈ z.h → rightP n.data.toList = true)
    (srt : ∀ z ∈ S.ths, Srt z.h) (leaf : ∀ z ∈ S.ths, z.dir = false → z.h = []) (file : ∀ x ∈ S.ths, x.dir = true → x.d = [])
    (att : ∀ x ∈ S.ths, x.a.Ok ∧ x.a.f = 15 ∧ x.a.s = x.d.length) (cnt : S.ths.length ≤ 200) (bytes : sizeT S.ths ≤ 1048576) : ∃ pa nm, Ok S pa nm := by
  classical
  obtain ⟨pa, nm, hpn⟩ : ∃ (pa : Nat → Nat) (nm : Nat → Nm), ∀ z ∈ S.ths, ∀ n j, (n, j) ∈ z.h → pa j = z.id ∧ nm j = n := by
    refine ⟨fun j => if h : ∃ m : Nat × Nm, ∃ z ∈ S.ths, z.id = m.1 ∧ (m.2, j) ∈ z.h then h.choose.1 else 0, fun j => if h : ∃ m : Nat × Nm, ∃ z ∈ S.ths, z.id = m.1 ∧ (m.2, j) ∈ z.h then h.choose.2 else ⟨#[]⟩, ?_⟩
    intro z hz n j hj
    have hex : ∃ m : Nat × Nm, ∃ z ∈ S.ths, z.id = m.1 ∧ (m.2, j) ∈ z.h := ⟨(z.id, n), z, hz, rfl, hj⟩
    simp only [dif_pos hex]
    obtain ⟨z', hz', e1, e2⟩ := hex.choose_spec
    obtain ⟨o1, o2⟩ := one z' hz' z hz _ _ _ e2 hj
    exact ⟨by rw [← e1]; exact o1, o2⟩
  have hpar : ∀ y ∈ S.ths, y.id ≠ 0 → ∃ z ∈ S.ths, z.id = pa y.id ∧ (nm y.id, y.id) ∈ z.h := fun y hy h0 => by
    obtain ⟨z, hz, n, hn⟩ := has y hy h0
    obtain ⟨e1, e2⟩ := hpn z hz n _ hn
    exact ⟨z, hz, e1.symm, by rw [e2]; exact hn⟩
  refine ⟨pa, nm, root, inc, lt, ?_, ?_, ?_, ?_, ?_, srt, file, att, cnt, bytes⟩
  · intro x hx h0
    obtain ⟨z, hz, e, hm⟩ := hpar x hx h0
    refine ⟨z, hz, e, ?_⟩
    cases hd : z.dir with
    | true => rfl
    | false => rw [leaf z hz hd] at hm; cases hm
  · obtain ⟨rk, hrk⟩ := rank
    refine ⟨rk, fun x hx h0 => ?_⟩
    obtain ⟨z, hz, e, hm⟩ := hpar x hx h0
    rw [← e]
    exact hrk z hz _ _ hm
  · intro x hx y hy hx0 hy0 e1 e2
    obtain ⟨z, hz, f1, g1⟩ := hpar x hx hx0
    obtain ⟨z', hz', f2, g2⟩ := hpar y hy hy0
    have : z = z' := inc.uniq hz hz' (by rw [f1, f2, e1])
    subst this
    rw [e2] at g1
    exact (Prod.mk.inj (mem_name (srt z hz) g1 g2 rfl)).2
  · intro x hx h0
    obtain ⟨z, hz, f1, g1⟩ := hpar x hx h0
    exact right z hz _ _ g1
  · intro x hx n j
    constructor
    · intro h
      obtain ⟨k1, k2⟩ := kid x hx n j h
      obtain ⟨p1, p2⟩ := hpn x hx n j h
      exact ⟨k1, k2, p1, p2⟩
    · rintro ⟨h0, ⟨y, hy, rfl⟩, e1, e2⟩
      obtain ⟨z, hz, f1, g1⟩ := hpar y hy h0
      have : z = x := inc.uniq hz hx (by rw [f1, e1])
      subst this
      rw [← e2]
      exact g1

theorem heldB_cons (f : Nat → List UInt8) (e : Nm × Nat) (h : HL) : heldB f (e :: h) = textBytes e.1.data.toList ++ f e.2 ++ heldB f h := by
  unfold heldB
  rw [List.flatMap_cons]
theorem Fo.saves {L : List Th} (hi : Inc L) : ∀ (k : Fo), (∀ z ∈ k.ths, z ∈ L) → ∃ F, (∀ e ∈ k.heads, (saveO L F e.2).isSome = true) ∧ heldB (fun j => (saveO L F j).getD []) k.heads = k.save
  | .nil, _ => ⟨0, (fun e h => by cases h), rfl⟩
  | .cons n x k r, hm => by
    obtain ⟨F1, a1, a2⟩ := Fo.saves hi k fun z hz => hm z (by rw [Fo.ths]; exact List.mem_cons_of_mem _ (List.mem_append_left _ hz))
    obtain ⟨F2, b1, b2⟩ := Fo.saves hi r fun z hz => hm z (by rw [Fo.ths]; exact List.mem_cons_of_mem _ (List.mem_append_right _ hz))
    have hx := hm (thH x k) (by rw [Fo.ths]; exact List.mem_cons_self)
    have hs : saveO L (F1 + 1) x.id = some (hdrB (thH x k) ++ k.save) := by
      show saveO L (F1 + 1) (thH x k).id = _
      rw [saveO_eq (findT_nat hi hx rfl)]
      rw [if_pos (show ((thH x k).h.all fun e => (saveO L F1 e.2).isSome) = true from List.all_eq_true.2 a1)]
      show some (hdrB (thH x k) ++ heldB _ k.heads) = _
      rw [a2]
    have hs2 := saveO_le L hs (Nat.le_max_left (F1 + 1) F2)
    have hr : ∀ e ∈ r.heads, saveO L (max (F1 + 1) F2) e.2 = saveO L F2 e.2 := fun e he => by
      obtain ⟨c, hc⟩ := Option.isSome_iff_exists.1 (b1 e he)
      rw [hc]
      exact saveO_le L hc (Nat.le_max_right _ _)
    refine ⟨max (F1 + 1) F2, ?_, ?_⟩
    · intro e he
      rw [Fo.heads, List.mem_cons] at he
      rcases he with rfl | he
      · show (saveO L _ x.id).isSome = true
        rw [hs2]; rfl
      · rw [hr e he]; exact b1 e he
    · rw [Fo.heads, heldB_cons, heldB_congr (g := fun j => (saveO L F2 j).getD []) (fun e he => by rw [hr e he]), b2, Fo.save]
      simp only
      rw [hs2]
      rfl
theorem Fo.saves_root {L : List Th} (hi : Inc L) {x : Hd} {k : Fo} (hx : thH x k ∈ L) (hm : ∀ z ∈ k.ths, z ∈ L) : ∃ F, saveO L F x.id = some (hdrB (thH x k) ++ k.save) := by
  obtain ⟨F1, a1, a2⟩ := Fo.saves hi k hm
  refine ⟨F1 + 1, ?_⟩
  show saveO L (F1 + 1) (thH x k).id = _
  rw [saveO_eq (findT_nat hi hx rfl)]
  rw [if_pos (show ((thH x k).h.all fun e => (saveO L F1 e.2).isSome) = true from List.all_eq_true.2 a1)]
  show some (hdrB (thH x k) ++ heldB _ k.heads) = _
  rw [a2]

/-- How deep a thing lies in a forest. -/
def Fo.rk : Fo → Nat → Nat → Nat
  | .nil, _, _ => 0
  | .cons _ x k r, d, i => if i = x.id then d else if i ∈ k.ids then k.rk (d + 1) i else r.rk d i
theorem nodup_cons3 {a : Nat} {l m : List Nat} (h : (a :: (l ++ m)).Nodup) : a ∉ l ∧ a ∉ m ∧ l.Nodup ∧ m.Nodup ∧ (∀ i, i ∈ m → i ∉ l) := by
  obtain ⟨h1, h2⟩ := List.nodup_cons.1 h
  obtain ⟨h3, h4, h5⟩ := List.nodup_append.1 h2
  exact ⟨fun e => h1 (List.mem_append_left _ e), fun e => h1 (List.mem_append_right _ e), h3, h4, fun i hi hl => h5 i hl i hi rfl⟩
theorem Fo.rk_heads : ∀ (k : Fo) (d : Nat), k.ids.Nodup → ∀ e ∈ k.heads, k.rk d e.2 = d
  | .nil, _, _, e, h => by cases h
  | .cons n x k r, d, hn, e, h => by
    rw [Fo.ids] at hn
    obtain ⟨h1, h2, h3, h4, h5⟩ := nodup_cons3 hn
    rw [Fo.heads, List.mem_cons] at h
    rw [Fo.rk]
    rcases h with rfl | h
    · exact if_pos rfl
    · have := Fo.head_mem h
      rw [if_neg (fun e => h2 (by rw [← e]; exact this)), if_neg (h5 _ this)]
      exact r.rk_heads d h4 e h
theorem Fo.rk_ths : ∀ (k : Fo) (d : Nat), k.ids.Nodup → ∀ z ∈ k.ths, ∀ e ∈ z.h, k.rk d z.id < k.rk d e.2
  | .nil, _, _, e, h => by cases h
  | .cons n x k r, d, hn, z, hz => by
    intro e he
    rw [Fo.ids] at hn
    obtain ⟨h1, h2, h3, h4, h5⟩ := nodup_cons3 hn
    rw [Fo.ths, List.mem_cons, List.mem_append] at hz
    rw [Fo.rk, Fo.rk]
    rcases hz with rfl | hz | hz
    · have he : e ∈ k.heads := he
      have := Fo.head_mem he
      rw [if_pos (show (thH x k).id = x.id from rfl), if_neg (fun e => h1 (by rw [← e]; exact this)), if_pos this, k.rk_heads (d + 1) h3 e he]
      omega
    · have hi := Fo.id_mem hz
      have hj := Fo.kid_mem hz he
      rw [if_neg (fun e => h1 (by rw [← e]; exact hi)), if_pos hi, if_neg (fun e => h1 (by rw [← e]; exact hj)), if_pos hj]
      exact k.rk_ths (d + 1) h3 z hz e he
    · have hi := Fo.id_mem hz
      have hj := Fo.kid_mem hz he
      rw [if_neg (fun e => h2 (by rw [← e]; exact hi)), if_neg (h5 _ hi), if_neg (fun e => h2 (by rw [← e]; exact hj)), if_neg (h5 _ hj)]
      exact r.rk_ths d h4 z hz e he
theorem Fo.srt : ∀ {k : Fo}, k.Good → Srt k.heads
  | .nil, _ => List.Pairwise.nil
  | .cons _ _ _ _, g => List.pairwise_cons.2 ⟨fun m hm => g.2.2.2.1 m hm, Fo.srt g.2.2.2.2.2⟩
/-- What stands of a thing by itself. -/
structure ThOk (z : Th) : Prop where
  srt : Srt z.h
  right : ∀ e ∈ z.h, rightP e.1.data.toList = true
  leaf : z.dir = false → z.h = []
  file : z.dir = true → z.d = []
  att : z.a.Ok ∧ z.a.f = 15 ∧ z.a.s = z.d.length
theorem thH_ok {x : Hd} {k : Fo} (g : hdGood x) (hd : x.dir = false → k = .nil) (hk : k.Good) : ThOk (thH x k) :=
  ⟨Fo.srt hk, fun _ he => Fo.head_right hk he, fun h => by have := hd h; subst this; rfl, g.2.2.2, g.1, g.2.1, g.2.2.1⟩
theorem Fo.ths_ok : ∀ {k : Fo}, k.Good → ∀ z ∈ k.ths, ThOk z
  | .nil, _, z, h => by cases h
  | .cons n x k r, g, z, h => by
    obtain ⟨g1, g2, g3, g4, g5, g6⟩ := g
    rw [Fo.ths, List.mem_cons, List.mem_append] at h
    rcases h with rfl | h | h
    · exact thH_ok g2 g3 g5
    · exact Fo.ths_ok g5 z h
    · exact Fo.ths_ok g6 z h
theorem Fo.ths_size : ∀ k : Fo, sizeT k.ths = k.size
  | .nil => rfl
  | .cons n x k r => by
    have h1 := k.ths_size
    have h2 := r.ths_size
    unfold sizeT at h1 h2 ⊢
    rw [Fo.ths, Fo.size, List.map_cons, List.sum_cons, List.map_append, List.sum_append, h1, h2]
    show x.d.length + (k.size + r.size) = _
    omega
theorem nodup_of_ids {l : List Th} (h : (l.map (·.id)).Nodup) : l.Nodup := by
  refine List.Pairwise.imp ?_ (List.pairwise_map.1 h)
  intro a b hab e
  exact hab (by rw [e])
theorem Inc.nodup {l : List Th} (h : Inc l) : (l.map (·.id)).Nodup := List.pairwise_map.2 (List.Pairwise.imp (fun h => Nat.ne_of_lt h) h)
/-- A root and a forest, kept: a tree, that saves as they do. -/
theorem Fo.tree {x : Hd} {k : Fo} {L : List Th} {nx : Nat} (hg : hdGood x) (hd : x.dir = true) (h0 : x.id = 0) (hk : k.Good) (hn : (x.id :: k.ids).Nodup) (hl : (x.id :: k.ids).length ≤ 200) (hlt : ∀ i ∈ x.id :: k.ids, i < nx) (hz : x.d.length + k.size ≤ 1048576)
    (inc : Inc L) (hm : ∀ z, z ∈ L ↔ z = thH x k ∨ z ∈ k.ths) : (∃ pa nm, Ok ⟨L, nx⟩ pa nm) ∧ savesTo ⟨L, nx⟩ (be 8 nx ++ (hdrB (thH x k) ++ k.save)) := by
  have hall : ∀ z, z ∈ L ↔ z ∈ thH x k :: k.ths := fun z => by rw [hm, List.mem_cons]
  have hids : (thH x k :: k.ths).map (·.id) = x.id :: k.ids := by rw [List.map_cons, k.ths_ids]; rfl
  have hperm : L.Perm (thH x k :: k.ths) := (List.perm_ext_iff_of_nodup (nodup_of_ids inc.nodup) (nodup_of_ids (by rw [hids]; exact hn))).2 hall
  have hrefs : ((thH x k :: k.ths).flatMap fun z => z.h.map (·.2)).Perm k.ids := by rw [List.flatMap_cons]; exact k.kid_ids
  obtain ⟨hx0, hkn⟩ := List.nodup_cons.1 hn
  have hrn := (hrefs.nodup_iff).2 hkn
  have hth : ∀ z ∈ L, ThOk z := fun z hz => by
    rcases (hm z).1 hz with rfl | h
    · exact thH_ok hg (fun h => by rw [hd] at h; cases h) hk
    · exact Fo.ths_ok hk z h
  have hidm : ∀ j, (∃ y ∈ L, y.id = j) ↔ j ∈ x.id :: k.ids := fun j => by
    rw [← hids, List.mem_map]
    constructor
    · rintro ⟨y, hy, e⟩; exact ⟨y, (hall y).1 hy, e⟩
    · rintro ⟨y, hy, e⟩; exact ⟨y, (hall y).2 hy, e⟩
  have hkid : ∀ z ∈ L, ∀ n j, (n, j) ∈ z.h → j ∈ k.ids := fun z hz n j hj => hrefs.mem_iff.1 (List.mem_flatMap.2 ⟨z, (hall z).1 hz, List.mem_map.2 ⟨(n, j), hj, rfl⟩⟩)
  refine ⟨Ok.of ?_ inc ?_ ?_ ?_ ?_ ?_ ?_ (fun z hz => (hth z hz).srt) (fun z hz => (hth z hz).leaf) (fun z hz => (hth z hz).file) (fun z hz => (hth z hz).att) ?_ ?_, ?_⟩
  · have hx : thH x k ∈ L := (hm _).2 (.inl rfl)
    cases L with
    | nil => cases hx
    | cons r t =>
      refine ⟨r, t, rfl, ?_⟩
      have hr : r.id = 0 := by
        rcases List.mem_cons.1 hx with e | e
        · rw [← e]; exact h0
        · have := (List.pairwise_cons.1 inc).1 _ e
          have e0 : (thH x k).id = 0 := h0
          omega
      have : r = thH x k := inc.uniq List.mem_cons_self hx (by rw [hr]; exact h0.symm)
      exact ⟨hr, by rw [this]; exact hd⟩
  · intro z hz
    exact hlt _ ((hidm z.id).1 ⟨z, hz, rfl⟩)
  · intro z hz n j hj
    have hjk := hkid z hz n j hj
    exact ⟨fun e => hx0 (by rw [h0, ← e]; exact hjk), (hidm j).2 (List.mem_cons_of_mem _ hjk)⟩
  · intro y hy hy0
    have h1 := (hidm y.id).1 ⟨y, hy, rfl⟩
    rcases List.mem_cons.1 h1 with e | e
    · rw [h0] at e; exact absurd e hy0
    · obtain ⟨z, hz, hzj⟩ := List.mem_flatMap.1 (hrefs.mem_iff.2 e)
      obtain ⟨⟨n, j⟩, hj, e2⟩ := List.mem_map.1 hzj
      have e2 : j = y.id := e2
      subst e2
      exact ⟨z, (hall z).2 hz, n, hj⟩
  · intro z hz z' hz' n n' j h1 h2
    have e : z = z' := flat_uniq hrn ((hall z).1 hz) ((hall z').1 hz') (List.mem_map.2 ⟨(n, j), h1, rfl⟩) (List.mem_map.2 ⟨(n', j), h2, rfl⟩)
    subst e
    have hzn := flat_nodup hrn ((hall z).1 hz)
    exact ⟨rfl, (Prod.mk.inj (map_uniq hzn h1 h2 rfl)).1⟩
  · refine ⟨fun i => if i = x.id then 0 else k.rk 1 i, fun z hz n j hj => ?_⟩
    have hjk := hkid z hz n j hj
    have hjx : ¬ j = x.id := fun e => hx0 (by rw [← e]; exact hjk)
    simp only
    rw [if_neg hjx]
    rcases (hm z).1 hz with rfl | h
    · rw [if_pos (show (thH x k).id = x.id from rfl), k.rk_heads 1 hkn (n, j) hj]
      omega
    · rw [if_neg (fun e => hx0 (by rw [← e]; exact Fo.id_mem h))]
      exact k.rk_ths 1 hkn z h (n, j) hj
  · intro z hz n j hj
    exact (hth z hz).right (n, j) hj
  · show L.length ≤ 200
    rw [hperm.length_eq, List.length_cons]
    have := congrArg List.length k.ths_ids
    rw [List.length_map] at this
    rw [List.length_cons] at hl
    omega
  · show sizeT L ≤ 1048576
    have h1 : sizeT L = sizeT (thH x k :: k.ths) := (hperm.map _).sum_nat
    have h2 := k.ths_size
    rw [h1]
    unfold sizeT at h2 ⊢
    rw [List.map_cons, List.sum_cons, h2]
    exact hz
  · obtain ⟨F, hF⟩ := Fo.saves_root inc ((hm _).2 (.inl rfl)) (fun z hz => (hm z).2 (.inr hz))
    rw [h0] at hF
    exact ⟨F, _, hF, rfl⟩

/-- The same of Raw, its bytes in a block of their own. -/
def RawH (a : Nat) (g : Option Nat) (bs : List UInt8) (r : List UInt8 × Nat × Int) (xs : List UInt8) (w : World) (e : Ending) (w' : World) : Prop :=
  ∃ v', e = .returned v' ∧ Held w' v' xs ∧ (∀ k, v'.ownBlock = some k → w.heap.size ≤ k) ∧ Took a g bs r.2.1 r.2.2 w w'
set_option maxHeartbeats 400000 in
theorem raw_h (n : Int) (hn0 : ¬ n < 0) (hn1 : n ≤ 140737488355328) (w : World) {a : Nat} {g : Option Nat} {bs : List UInt8} {p : Nat} {why : Int} (h : WR w a g bs p why) :
    Calls Try.prog 87 #[.pointer (some ⟨a, 0, none⟩), .int .i64 n] w fun e w' => RawH a g bs (tk bs p why n.toNat) (tk bs p why n.toNat).1 w e w' := by
  have hlen : (tk bs p why n.toNat).1.length ≤ 140737488355328 := by have := tk_len bs p why n.toNat; omega
  have HN : Hid (Calls _ _ _ _ _) := take_c n (by omega) (by omega) w h
  generalize tk bs p why n.toNat = r at *
  go_enter Try.func87, Try.ntmps87
  go_wp2_with fail
  rw [show max n 0 = n by omega]
  refine HN.out.mono ?_
  rintro e w1 ⟨v1, rfl, hb1, ho1, ht1⟩
  have HT : Hid (Took a g bs r.2.1 r.2.2 w w1) := ht1
  clear ht1 ho1 HN
  go_wp2_with fail
  refine (clone_c v1 r.1 _ hb1 (by omega)).mono ?_
  rintro e w2 ⟨v2, rfl, ho2, hb2⟩
  have HR : Hid (RawH a g bs r r.1 w (.returned v2) w2) := ⟨v2, rfl, ownsRow_mono ho2 (Nat.zero_le _), fun k hk => Nat.le_trans HT.out.keeps.size (ho2.lt k hk).1, HT.out.fresh hb2⟩
  clear ho2 hb2 HT hb1
  go_wp2
  go_ret
  exact HR.out

/-- What a load may turn: the reader and the tree's own blocks. -/
structure MvR (ar : Nat) (R R' : Nat → Role) (w w' : World) : Prop where
  old : ∀ k, k < w.heap.size → R' k = R k
  keeps : Keeps (fun k => k = ar ∨ R k ≠ .no) w w'
theorem MvR.refl (ar : Nat) (R : Nat → Role) (w : World) : MvR ar R R w w := ⟨fun _ _ => rfl, Keeps.refl _ _⟩
theorem MvR.trans {ar : Nat} {R R' R2 : Nat → Role} {w w' w2 : World} (h : MvR ar R R' w w') (k : MvR ar R' R2 w' w2) : MvR ar R R2 w w2 :=
  ⟨fun i hi => (k.old i (Nat.lt_of_lt_of_le hi h.keeps.size)).trans (h.old i hi),
   ⟨k.keeps.os.trans h.keeps.os, k.keeps.tape.trans h.keeps.tape, k.keeps.output.trans h.keeps.output, Nat.le_trans h.keeps.size k.keeps.size, fun i hi hn =>
     (k.keeps.block i (Nat.lt_of_lt_of_le hi h.keeps.size) (fun e => hn (e.imp id fun e => by rw [← h.old i hi]; exact e))).trans (h.keeps.block i hi hn)⟩⟩
theorem MvR.fresh {ar : Nat} {R : Nat → Role} {w w' : World} (hb : Below w.heap.size w w') : MvR ar R R w w' := ⟨fun _ _ => rfl, Keeps.ofFresh hb⟩
theorem MvR.still {ar : Nat} {R : Nat → Role} {w w' : World} (hb : Keeps (fun _ => False) w w') : MvR ar R R w w' := ⟨fun _ _ => rfl, hb.mono fun _ _ h => h.elim⟩
theorem MvR.took {ar : Nat} {R : Nat → Role} {w w' : World} (hb : Keeps (fun k => k = ar) w w') : MvR ar R R w w' := ⟨fun _ _ => rfl, hb.mono fun _ _ h => .inl h⟩
theorem MvR.moved {ar : Nat} {R R' : Nat → Role} {w w' : World} (h : Moved R R' w w') : MvR ar R R' w w' := ⟨h.old, h.keeps.mono fun _ _ h => .inr h⟩

section
variable {w w' : World} {R : Nat → Role} {a : Nat} {S : Tr} {B : Nat → Nat} {dv hv : Nat → Value} {tv : Value}
/-- One thing more, at its place among all, empty, at a new block. -/
theorem TXb.put {T : Nat → Prop} (H : TXb w R a S B dv hv tv) {x : Th} (hni : ∀ y ∈ S.ths, y.id ≠ x.id) (hkid : ∀ y ∈ S.ths, ∀ e ∈ y.h, e.2 ≠ x.id) (hxd : x.d = []) (hxh : x.h = []) {h : Nat} (hh0 : w.heap.size ≤ h) {tv' : Value} {L : List Th} (hm : ∀ y, y ∈ L → y ∈ S.ths ∨ y = x) (hsz : sizeT L = sizeT S.ths)
    (hk : Keeps T w w') (hT : ∀ k, k < w.heap.size → T k → R k = .row ∨ R k = .tree ∨ R k = .no)
    (htop : w'.heap[a]? = some (.cells #[tv', .int .i64 S.next, .int .i64 (sizeT S.ths)] 65 (0, 0)))
    (ht : ThB w' x h (.slice none 0 0) (.slice none 0 0)) (hrow : w'.ownsRow 0 61 1 tv' L.length (tcells (upd B x.id h) L))
    (hto : ∀ k, tv'.ownBlock = some k → (k < w.heap.size ∧ R k = .row) ∨ (w.heap.size ≤ k ∧ k ≠ h)) :
    ∃ R', TXb w' R' a ⟨L, S.next⟩ (upd B x.id h) (upd dv x.id (.slice none 0 0)) (upd hv x.id (.slice none 0 0)) tv' ∧ ∀ k, k < w.heap.size → R' k = R k := by
  classical
  refine ⟨fun k => if w.heap.size ≤ k then (if k = h then .th x.id else if tv'.ownBlock = some k then .row else .no) else R k, ?_, fun k hk => if_neg (by omega)⟩
  have hR : ∀ k, k < w.heap.size → (if w.heap.size ≤ k then (if k = h then Role.th x.id else if tv'.ownBlock = some k then .row else .no) else R k) = R k := fun k hk => if_neg (by omega)
  refine ⟨?_, ?_, hrow, ?_, ?_, ?_, ?_, ?_, ?_, ?_, ?_⟩
  · rw [hsz]; exact htop
  · rw [hR _ (lt_of_block H.top)]; exact H.ra
  · intro k e
    rcases hto k e with ⟨h1, h2⟩ | ⟨h1, h2⟩
    · rw [hR k h1]; exact h2
    · rw [if_pos h1, if_neg h2, if_pos e]
  · intro y hy
    rcases hm y hy with hy | rfl
    · rw [upd_ne _ _ (hni y hy), upd_ne _ _ (hni y hy), upd_ne _ _ (hni y hy)]
      exact (H.th y hy).keep hk fun h => by
        have := hT _ (H.th y hy).lt h
        rw [H.rth y hy] at this
        rcases this with h | h | h <;> cases h
    · rw [upd_self, upd_self, upd_self]; exact ht
  · intro y hy
    rcases hm y hy with hy | rfl
    · rw [upd_ne _ _ (hni y hy), hR _ (H.th y hy).lt]; exact H.rth y hy
    · rw [upd_self, if_pos hh0, if_pos rfl]
  · intro y hy
    rcases hm y hy with hy | rfl
    · rw [upd_ne _ _ (hni y hy)]
      exact (H.dat y hy).keep hk fun k e h => by
        have := hT _ ((H.dat y hy).lt k e) h
        rw [H.rdat y hy k e] at this
        rcases this with h | h | h <;> cases h
    · rw [upd_self, hxd]; exact Held.nil _
  · intro y hy k e
    rcases hm y hy with hy | rfl
    · rw [upd_ne _ _ (hni y hy)] at e
      rw [hR k ((H.dat y hy).lt k e)]; exact H.rdat y hy k e
    · rw [upd_self] at e; cases e
  · intro y hy
    rcases hm y hy with hy | rfl
    · rw [upd_ne _ _ (hni y hy)]
      refine ((H.hel y hy).keep hk fun k e h => ?_).congr fun e he => upd_ne _ _ (hkid y hy e he)
      have := hT _ ((H.hel y hy).lt k e) h
      rw [H.rhel y hy k e] at this
      rcases this with h | h | h <;> cases h
    · rw [upd_self, hxh]; exact ERow.nil _ _
  · intro y hy k e
    rcases hm y hy with hy | rfl
    · rw [upd_ne _ _ (hni y hy)] at e
      rw [hR k ((H.hel y hy).lt k e)]; exact H.rhel y hy k e
    · rw [upd_self] at e; cases e
  · intro k e
    by_cases h1 : w.heap.size ≤ k
    · rw [if_pos h1] at e
      by_cases h2 : k = h
      · rw [h2]; exact ht.lt
      · rw [if_neg h2] at e
        by_cases h3 : tv'.ownBlock = some k
        · exact (hrow.lt k h3).2
        · rw [if_neg h3] at e; exact absurd rfl e
    · rw [if_neg h1] at e
      exact Nat.lt_of_lt_of_le (H.lim k e) hk.size

/-- One thing turns: its own blocks alone, and the tree's. -/
theorem TXb.oneN {T : Nat → Prop} (H : TXb w R a S B dv hv tv) (hi : Inc S.ths) {x : Th} (hx : x ∈ S.ths) (f : Th → Th) (hf : ∀ y, (f y).id = y.id) {dv' hv' : Value}
    (hk : Keeps T w w') (hT : ∀ k, k < w.heap.size → T k → R k = .th x.id ∨ R k = .hel x.id ∨ R k = .dat x.id ∨ R k = .tree ∨ R k = .no)
    (htop : w'.heap[a]? = some (.cells #[tv, .int .i64 S.next, .int .i64 (sizeT (setT S.ths x.id f))] 65 (0, 0)))
    (ht : ThB w' (f x) (B x.id) dv' hv') (hd : Held w' dv' (f x).d) (he : ERow w' B hv' (f x).h)
    (hdo : ∀ k, dv'.ownBlock = some k → (k < w.heap.size ∧ R k = .dat x.id) ∨ w.heap.size ≤ k)
    (hho : ∀ k, hv'.ownBlock = some k → (k < w.heap.size ∧ R k = .hel x.id) ∨ w.heap.size ≤ k)
    (hap : ∀ k, w.heap.size ≤ k → dv'.ownBlock = some k → hv'.ownBlock = some k → False) :
    ∃ R', TXb w' R' a ⟨setT S.ths x.id f, S.next⟩ B (upd dv x.id dv') (upd hv x.id hv') tv ∧ ∀ k, k < w.heap.size → R' k = R k := by
  classical
  refine ⟨fun k => if w.heap.size ≤ k then (if dv'.ownBlock = some k then .dat x.id else if hv'.ownBlock = some k then .hel x.id else .no) else R k, ?_, fun k hk => if_neg (by omega)⟩
  have hR : ∀ k, k < w.heap.size → (if w.heap.size ≤ k then (if dv'.ownBlock = some k then Role.dat x.id else if hv'.ownBlock = some k then .hel x.id else .no) else R k) = R k := fun k hk => if_neg (by omega)
  have hmem : ∀ y, y ∈ setT S.ths x.id f → (y = f x) ∨ (y ∈ S.ths ∧ y.id ≠ x.id) := fun y hy => by
    obtain ⟨z, hz, rfl⟩ := mem_setT.1 hy
    by_cases e : z.id = x.id
    · rw [if_pos e, hi.uniq hz hx e]; exact .inl rfl
    · rw [if_neg e]; exact .inr ⟨hz, e⟩
  have hfx : (f x).id = x.id := hf x
  have hu1 : ∀ {β : Type} (g : Nat → β) (v : β), upd g x.id v (f x).id = v := fun g v => by rw [hfx]; exact upd_self _ _ _
  refine ⟨htop, ?_, ?_, ?_, ?_, ?_, ?_, ?_, ?_, ?_, ?_⟩
  · rw [hR _ (lt_of_block H.top)]; exact H.ra
  · rw [setT_length, tcells_setT _ _ _ hf]
    exact hk.row H.row fun k e h => by
      have h1 := H.rrow k e
      have := hT k (H.row.lt k e).2 h
      rw [h1] at this
      rcases this with h | h | h | h | h <;> cases h
  · intro k e; rw [hR _ (H.row.lt k e).2]; exact H.rrow k e
  · intro y hy
    rcases hmem y hy with rfl | ⟨hy, hne⟩
    · rw [hu1, hu1, hfx]; exact ht
    · rw [upd_ne _ _ hne, upd_ne _ _ hne]
      exact (H.th y hy).keep hk fun h => by
        have := hT _ (H.th y hy).lt h
        rw [H.rth y hy] at this
        rcases this with h | h | h | h | h
        · exact hne (by injection h)
        all_goals cases h
  · intro y hy
    rcases hmem y hy with rfl | ⟨hy, hne⟩
    · rw [hfx, hR _ (H.th x hx).lt]; exact H.rth x hx
    · rw [hR _ (H.th y hy).lt]; exact H.rth y hy
  · intro y hy
    rcases hmem y hy with rfl | ⟨hy, hne⟩
    · rw [hu1]; exact hd
    · rw [upd_ne _ _ hne]
      exact (H.dat y hy).keep hk fun k e h => by
        have := hT _ ((H.dat y hy).lt k e) h
        rw [H.rdat y hy k e] at this
        rcases this with h | h | h | h | h
        · cases h
        · cases h
        · exact hne (by injection h)
        · cases h
        · cases h
  · intro y hy k e
    rcases hmem y hy with rfl | ⟨hy, hne⟩
    · rw [hu1] at e
      rcases hdo k e with ⟨h1, h2⟩ | h1
      · rw [hR k h1, h2, hfx]
      · rw [if_pos h1, if_pos e, hfx]
    · rw [upd_ne _ _ hne] at e
      rw [hR k ((H.dat y hy).lt k e)]; exact H.rdat y hy k e
  · intro y hy
    rcases hmem y hy with rfl | ⟨hy, hne⟩
    · rw [hu1]; exact he
    · rw [upd_ne _ _ hne]
      exact (H.hel y hy).keep hk fun k e h => by
        have := hT _ ((H.hel y hy).lt k e) h
        rw [H.rhel y hy k e] at this
        rcases this with h | h | h | h | h
        · cases h
        · exact hne (by injection h)
        · cases h
        · cases h
        · cases h
  · intro y hy k e
    rcases hmem y hy with rfl | ⟨hy, hne⟩
    · rw [hu1] at e
      rcases hho k e with ⟨h1, h2⟩ | h1
      · rw [hR k h1, h2, hfx]
      · rw [if_pos h1, if_neg (fun h => hap k h1 h e), if_pos e, hfx]
    · rw [upd_ne _ _ hne] at e
      rw [hR k ((H.hel y hy).lt k e)]; exact H.rhel y hy k e
  · intro k e
    by_cases h1 : w.heap.size ≤ k
    · rw [if_pos h1] at e
      by_cases h2 : dv'.ownBlock = some k
      · exact hd.lt k h2
      · rw [if_neg h2] at e
        by_cases h3 : hv'.ownBlock = some k
        · exact he.lt k h3
        · rw [if_neg h3] at e; exact absurd rfl e
    · rw [if_neg h1] at e
      exact Nat.lt_of_lt_of_le (H.lim k e) hk.size

/-- A thing at its place among all. -/
def insT (l : List Th) (x : Th) : List Th := l.take (posT l x.id) ++ x :: l.drop (posT l x.id)
theorem mem_insT (l : List Th) (x y : Th) : y ∈ insT l x ↔ y ∈ l ∨ y = x := by
  unfold insT
  rw [List.mem_append, List.mem_cons]
  have : y ∈ l ↔ y ∈ l.take (posT l x.id) ∨ y ∈ l.drop (posT l x.id) := by rw [← List.mem_append, List.take_append_drop]
  rw [this]
  constructor
  · rintro (h | h | h)
    · exact .inl (.inl h)
    · exact .inr h
    · exact .inl (.inr h)
  · rintro ((h | h) | h)
    · exact .inl h
    · exact .inr (.inr h)
    · exact .inr (.inl h)
theorem insT_length (l : List Th) (x : Th) : (insT l x).length = l.length + 1 := by
  unfold insT
  have := posT_le l x.id
  simp
  omega
theorem insT_inc {l : List Th} (hi : Inc l) {x : Th} (hn : ∀ y ∈ l, y.id ≠ x.id) : Inc (insT l x) := by
  unfold insT
  have h1 : ∀ y ∈ l.take (posT l x.id), y.id < x.id := fun y hy => by
    obtain ⟨k, hk, rfl⟩ := List.mem_iff_getElem.1 hy
    rw [List.length_take] at hk
    have := posT_lt (h := l) (i := x.id) (k := k) (by omega) (by omega)
    unfold tlt at this
    rw [List.getElem_take]
    simpa using this
  have h2 : ∀ y ∈ l.drop (posT l x.id), x.id < y.id := fun y hy => by
    obtain ⟨k, hk, rfl⟩ := List.mem_iff_getElem.1 hy
    rw [List.length_drop] at hk
    have := posT_ge hi (i := x.id) (k := posT l x.id + k) (by omega) (by omega)
    unfold tlt at this
    rw [List.getElem_drop]
    have hne := hn (l[posT l x.id + k]'(by omega)) (List.getElem_mem _)
    simp at this
    omega
  refine List.pairwise_append.2 ⟨List.Pairwise.sublist (List.take_sublist _ _) hi, List.pairwise_cons.2 ⟨h2, List.Pairwise.sublist (List.drop_sublist _ _) hi⟩, ?_⟩
  intro y hy z hz
  rcases List.mem_cons.1 hz with rfl | hz
  · exact h1 y hy
  · exact Nat.lt_trans (h1 y hy) (h2 z hz)
theorem insT_size (l : List Th) (x : Th) (h : x.d = []) : sizeT (insT l x) = sizeT l := by
  unfold insT
  have : sizeT l = sizeT (l.take (posT l x.id)) + sizeT (l.drop (posT l x.id)) := by rw [← sizeT_append, List.take_append_drop]
  rw [sizeT_append, this]
  unfold sizeT
  rw [List.map_cons, List.sum_cons, h]
  simp
theorem tcells_insT (B : Nat → Nat) (l : List Th) (x : Th) : tcells B (insT l x) = (tcells B l).take (posT l x.id) ++ [.pointer (some ⟨B x.id, 0, none⟩)] ++ (tcells B l).drop (posT l x.id) := by
  unfold insT tcells
  rw [List.map_append, List.map_cons, List.map_take, List.map_drop, List.append_assoc]
  rfl

set_option maxHeartbeats 2000000 in
set_option maxRecDepth 100000 in
theorem remember_c (H : TXb w R a S B dv hv tv) (hi : Inc S.ths) (hc : S.ths.length ≤ 200) {x : Th} {h : Nat} (ht : ThB w x h (.slice none 0 0) (.slice none 0 0)) (hno : R h = .no) :
    Calls Try.prog 68 #[.pointer (some ⟨a, 0, none⟩), .pointer (some ⟨h, 0, none⟩)] w fun e w' =>
      if (findT S.ths x.id).isSome = true ∨ 200 ≤ S.ths.length then e = .returned (.bool false) ∧ Below w.heap.size w w'
      else e = .returned (.bool true) ∧ ∃ tv', w'.heap[a]? = some (.cells #[tv', .int .i64 S.next, .int .i64 (sizeT S.ths)] 65 (0, 0)) ∧ w'.ownsRow 0 61 1 tv' (S.ths.length + 1) ((tcells B S.ths).take (posT S.ths x.id) ++ [.pointer (some ⟨h, 0, none⟩)] ++ (tcells B S.ths).drop (posT S.ths x.id)) ∧
        Keeps (fun k => k = a ∨ tv.ownBlock = some k) w w' ∧ (tv'.ownBlock = tv.ownBlock ∨ ∀ k, tv'.ownBlock = some k → w.heap.size ≤ k) := by
  have HH := hidden H
  have HP := hidden (tplace_c H hi (by omega) x.id)
  have c0 := ht.c0
  obtain ⟨Q, hQ⟩ : ∃ Q : Ending → World → Prop, Q = fun e w' => if (findT S.ths x.id).isSome = true ∨ 200 ≤ S.ths.length then e = .returned (.bool false) ∧ Below w.heap.size w w'
      else e = .returned (.bool true) ∧ ∃ tv', w'.heap[a]? = some (.cells #[tv', .int .i64 S.next, .int .i64 (sizeT S.ths)] 65 (0, 0)) ∧ w'.ownsRow 0 61 1 tv' (S.ths.length + 1) ((tcells B S.ths).take (posT S.ths x.id) ++ [.pointer (some ⟨h, 0, none⟩)] ++ (tcells B S.ths).drop (posT S.ths x.id)) ∧
        Keeps (fun k => k = a ∨ tv.ownBlock = some k) w w' ∧ (tv'.ownBlock = tv.ownBlock ∨ ∀ k, tv'.ownBlock = some k → w.heap.size ≤ k) := ⟨_, rfl⟩
  rw [← hQ]
  have HQ := hidden hQ
  have hpl := posT_le S.ths x.id
  have hxa : h ≠ a := fun e => by have h1 := H.ra; rw [← e, hno] at h1; cases h1
  obtain ⟨ao, cap, rfl, hcc, hcm, _⟩ := H.prow.shape
  have hta : (Value.slice ao S.ths.length cap).ownBlock ≠ some a := fun e => by have h1 := H.rrow a e; rw [H.ra] at h1; cases h1
  have hth : (Value.slice ao S.ths.length cap).ownBlock ≠ some h := fun e => by have h1 := H.rrow h e; rw [hno] at h1; cases h1
  unfold maxLen at hcm
  clear H hQ hi
  go_enter Try.func68, Try.ntmps68
  go_wp2_with fail
  refine HP.out.mono ?_
  rintro e w1 ⟨rfl, hb1⟩
  have HH1 := hidden (HH.out.fresh hb1)
  have HB1 := hidden hb1
  have k0 := HH1.out.t0
  clear hb1 c0
  cases hf : (findT S.ths x.id).isSome with
  | true =>
    go_wp2_with fail
    rw [HQ.out]
    simp only [hf, true_or, if_true]
    exact ⟨rfl, HB1.out⟩
  | false =>
    by_cases h200 : 200 ≤ S.ths.length
    · have hi2 : (200 : Int) ≤ (S.ths.length : Int) := by omega
      go_wp2_with fail
      rw [HQ.out]
      show if (findT S.ths x.id).isSome = true ∨ 200 ≤ S.ths.length then _ else _
      rw [if_pos (.inr h200)]
      exact ⟨rfl, HB1.out⟩
    · have hi2 : ¬ (200 : Int) ≤ (S.ths.length : Int) := by omega
      have HRT : Hid (∀ W, Below w1.heap.size w1 W → W.cell? ⟨a, 0, none⟩ = some (.slice ao S.ths.length cap)) := fun W hW => (HH1.out.fresh hW).t0
      have HI : Hid (Calls Try.prog 86 #[.slice ao S.ths.length cap, .int .i64 (posT S.ths x.id), .slice (some ⟨w1.heap.size, 0, none⟩) 1 1] (w1.alloc (.cells #[.pointer (some ⟨h, 0, none⟩)] 61)) (InsPost 0 61 1 (.slice ao S.ths.length cap) S.ths.length ((tcells B S.ths).take (posT S.ths x.id) ++ [.pointer (some ⟨h, 0, none⟩)] ++ (tcells B S.ths).drop (posT S.ths x.id)) (w1.alloc (.cells #[.pointer (some ⟨h, 0, none⟩)] 61)))) := by
        have hrow := (HH1.out.row).alloc (.cells #[.pointer (some ⟨h, 0, none⟩)] 61)
        exact insP_c 0 S.ths.length (posT S.ths x.id) _ (tcells B S.ths) [.pointer (some ⟨h, 0, none⟩)] _ hrow (by omega) hpl (tcells_one B S.ths) w1.heap.size (heap_alloc_new w1 _) (fun e => by have := (HH1.out.row.lt _ e).2; omega) rfl (fun u hu => by rw [List.mem_singleton.1 hu]; rfl) (Nat.zero_le _)
      go_wp2_with fail
      refine HI.out.mono ?_
      rintro e w2 ⟨tv', rfl, ho, hk, hat⟩
      obtain ⟨ao2, cp2, rfl⟩ := ownsRow_shape ho
      have htop : w2.heap[a]? = some (.cells #[.slice ao S.ths.length cap, .int .i64 S.next, .int .i64 (sizeT S.ths)] 65 (0, 0)) := (hk.block a (by have := lt_of_block HH1.out.top; simp; omega) hta).trans ((Below.heap_alloc w1 _ a (lt_of_block HH1.out.top)).trans HH1.out.top)
      obtain ⟨c20, _, _, cf2⟩ := cells3 htop
      have HO := hidden ho
      have HK := hidden hk
      have HA := hidden hat
      have HTP := hidden htop
      clear ho hk hat htop
      go_wp2_with fail
      rw [HQ.out]
      show if (findT S.ths x.id).isSome = true ∨ 200 ≤ S.ths.length then _ else _
      rw [if_neg (by rw [hf]; rintro (h | h); cases h; exact h200 h)]
      have hs1 := HB1.out.size
      have hks : Keeps (fun k => k = a) w2 (w2.setCell ⟨a, 0, none⟩ (.slice ao2 (S.ths.length + 1) cp2)) := (Keeps.refl (fun k => k = a) w2).setCell (p := ⟨a, 0, none⟩) (.inl rfl) _
      have hao : (Value.slice ao2 (S.ths.length + 1) cp2).ownBlock ≠ some a := fun e => by
        rcases HA.out with h | h
        · rw [h] at e; exact hta e
        · have h1 := h a e
          have h2 := lt_of_block HH1.out.top
          simp at h1
          omega
      refine ⟨rfl, _, top0 HTP.out _, hks.row HO.out fun k e h => hao (by rw [← h]; exact e), ?_, HA.out.imp id fun h k e => ?_⟩
      · exact ((Keeps.ofFresh HB1.out).alloc _).trans ((HK.out.mono fun k _ h => .inr h).trans (hks.mono fun k _ h => .inl h))
      · have := h k e
        simp at this
        omega
end
open Go Go.RowKit Go.ChangeShapes Go.WideShapes Go.ChangeAt Go.Deep

theorem own : ownKnob Try.prog.godebug = none := by kernel_rfl
theorem laidOut : laidOutB Try.prog = true := by kernel_rfl
theorem cellsU8 : Try.prog.cellsOf 5 = 1 := by kernel_rfl
theorem spot_none {w : World} {a : Addr} {v : Value} (h : w.cell? a = some v) : ∃ b off, a = ⟨b, off, none⟩ := by
  obtain ⟨b, off, spot⟩ := a
  cases spot with
  | none => exact ⟨b, off, rfl⟩
  | some x =>
    simp only [World.cell?] at h
    split at h <;> simp at h
theorem cellsB : Try.prog.cellsOf 30 = 1 := by kernel_rfl
theorem cellsInt : Try.prog.cellsOf 3 = 1 := by kernel_rfl
theorem cellsStr : Try.prog.cellsOf 9 = 1 := by kernel_rfl
theorem cellsSs : Try.prog.cellsOf 29 = 1 := by kernel_rfl
theorem cellsBool : Try.prog.cellsOf 4 = 1 := by kernel_rfl
theorem cellsU32 : Try.prog.cellsOf 37 = 1 := by kernel_rfl
theorem cellsU64 : Try.prog.cellsOf 34 = 1 := by kernel_rfl
theorem cellsA7 : Try.prog.cellsOf 40 = 7 := by kernel_rfl
theorem cellsAsk : Try.prog.cellsOf 47 = 15 := by kernel_rfl
theorem len9 {α : Type} {l : List α} (h : l.length = 9) : ∃ a b c d e f g i j, l = [a, b, c, d, e, f, g, i, j] := by
  match l, h with
  | [a, b, c, d, e, f, g, i, j], _ => exact ⟨a, b, c, d, e, f, g, i, j, rfl⟩
theorem len15 {α : Type} {l : List α} (h : l.length = 15) : ∃ a b c d e f g i j k m n o p q, l = [a, b, c, d, e, f, g, i, j, k, m, n, o, p, q] := by
  match l, h with
  | [a, b, c, d, e, f, g, i, j, k, m, n, o, p, q], _ => exact ⟨a, b, c, d, e, f, g, i, j, k, m, n, o, p, q, rfl⟩

section
variable {H : Type} {enc : TypeId × Value → H} {w : World} {fuel : Nat} {cs : List Value} {x : DataW H × List MemPlace}
theorem open_bsl {ao : Option Addr} {n cap : Nat} (h : DataW.trod enc Try.prog w 0 (fun _ => true) true fuel 30 cs = some x) (hcs : cs = [.slice ao n cap]) : ∃ xs, BSl w (.slice ao n cap) xs := by
  rcases open_ints Try.underlying30 Try.underlying5 cellsU8 h with ⟨rfl, _⟩ | ⟨a, len, cap', zs, rfl, _, hl, hm, hz, _, hx, hwf⟩
  · cases hcs
    exact ⟨[], none, 0, rfl, by simp, by simp [maxLen], fun _ => ⟨rfl, rfl⟩, (fun ad e => by cases e)⟩
  · cases hcs
    simp at hz
    refine ⟨(List.range n).map fun i => byteOf (zs.getD i 0), some a, cap, by simp, by simpa using hl, hm, (fun e => by cases e), ?_⟩
    intro ad e hne
    cases e
    have hn : 0 < n := by
      rcases Nat.eq_zero_or_pos n with h0 | h0
      · subst h0; simp at hne
      · exact h0
    have h0 := hx 0 (by omega)
    rw [show a.add 0 = a from by simp [Addr.add]] at h0
    obtain ⟨b, off, rfl⟩ := spot_none h0
    refine ⟨b, off, rfl, fun j u hu => ?_⟩
    have hj : j < n := by have := (List.getElem?_eq_some_iff.1 hu).1; simpa [bcells] using this
    have := hx j (by omega)
    rw [add_lit'] at this
    rw [this]
    have hb := bounds_u8 (hwf (zs.getD j 0) (by
      rw [List.getD_eq_getElem?_getD, List.getElem?_eq_getElem (show j < zs.length by omega)]
      exact List.getElem_mem _))
    simp only [bcells, List.map_map, List.getElem?_map, List.getElem?_range hj, Option.map_some, Function.comp] at hu
    rw [← hu, byteOf_nat, Int.emod_eq_of_lt hb.1 (by omega)]
theorem open_ssl {ao : Option Addr} {n cap : Nat} (h : DataW.trod enc Try.prog w 0 (fun _ => true) true fuel 29 cs = some x) (hcs : cs = [.slice ao n cap]) : ∃ ss, SSl w (.slice ao n cap) ss := by
  rcases open_strs Try.underlying29 Try.underlying9 cellsStr h with ⟨rfl, _⟩ | ⟨a, len, cap', m, Sx, rfl, _, hl, hm, hmm, _, hx⟩
  · cases hcs
    exact ⟨[], none, 0, rfl, by simp, by simp [maxLen], fun _ => ⟨rfl, rfl⟩, (fun ad e => by cases e)⟩
  · cases hcs
    simp at hmm
    subst hmm
    refine ⟨(List.range n).map Sx, some a, m, by simp, by simpa using hl, hm, (fun e => by cases e), ?_⟩
    intro ad e hne
    cases e
    have hn : 0 < n := by
      rcases Nat.eq_zero_or_pos n with h0 | h0
      · subst h0; simp at hne
      · exact h0
    have h0 := (hx 0 (by omega)).1
    rw [show a.add 0 = a from by simp [Addr.add]] at h0
    obtain ⟨b, off, rfl⟩ := spot_none h0
    refine ⟨b, off, rfl, fun j u hu => ?_⟩
    have hj : j < n := by have := (List.getElem?_eq_some_iff.1 hu).1; simpa using this
    have := (hx j (by omega)).1
    rw [add_lit'] at this
    rw [this]
    simp [hj] at hu
    rw [hu]
theorem open_strsV {v : Value} (h : DataW.trod enc Try.prog w 0 (fun _ => true) true fuel 29 [v] = some x) : ∃ ss, SSl w v ss := by
  obtain ⟨ao, n, cap, rfl⟩ : ∃ ao n cap, v = .slice ao n cap := by
    rcases open_strs Try.underlying29 Try.underlying9 cellsStr h with ⟨e, _⟩ | ⟨a, len, cap', m, Sx, e, _⟩
    · exact ⟨_, _, _, by simpa using e⟩
    · exact ⟨_, _, _, by simpa using e⟩
  exact open_ssl h rfl
theorem open_bytesV {v : Value} (h : DataW.trod enc Try.prog w 0 (fun _ => true) true fuel 30 [v] = some x) : ∃ xs, BSl w v xs := by
  obtain ⟨ao, n, cap, rfl⟩ : ∃ ao n cap, v = .slice ao n cap := by
    rcases open_ints Try.underlying30 Try.underlying5 cellsU8 h with ⟨e, _⟩ | ⟨a, len, cap', zs, e, _⟩
    · exact ⟨_, _, _, by simpa using e⟩
    · exact ⟨_, _, _, by simpa using e⟩
  exact open_bsl h rfl
theorem len7 {α : Type} {l : List α} (h : l.length = 7) : ∃ a b c d e f g, l = [a, b, c, d, e, f, g] := by
  match l, h with
  | [a, b, c, d, e, f, g], _ => exact ⟨a, b, c, d, e, f, g, rfl⟩
theorem open_attrs (h : DataW.trod enc Try.prog w 0 (fun _ => true) true fuel 40 cs = some x) : ∃ a : At, cs = a.cells.toList ∧ a.Ok := by
  obtain ⟨xs, n, _, _, hl, hxl, hf⟩ := DataW.trod_struct Try.underlying40 h
  rw [cellsA7] at hl
  obtain ⟨v0, v1, v2, v3, v4, v5, v6, rfl⟩ := len7 hl
  obtain ⟨y0, y1, y2, y3, y4, y5, y6, rfl⟩ := len7 (show xs.length = 7 from hxl)
  have g0 : DataW.trod enc Try.prog w 0 (fun _ => true) true n 37 [v0] = some y0 := by have := hf 0 _ rfl; simpa [cellsU32] using this
  obtain ⟨a0, e0, _, w0⟩ := DataW.trod_int Try.underlying37 g0
  obtain rfl : v0 = .int .u32 a0 := by simpa using e0
  have b0 := bounds_u32 w0
  obtain ⟨n0, rfl⟩ := Int.eq_ofNat_of_zero_le b0.1
  have g1 : DataW.trod enc Try.prog w 0 (fun _ => true) true n 34 [v1] = some y1 := by have := hf 1 _ rfl; simpa [cellsU64] using this
  obtain ⟨a1, e1, _, w1⟩ := DataW.trod_int Try.underlying34 g1
  obtain rfl : v1 = .int .u64 a1 := by simpa using e1
  have b1 := bounds_u64 w1
  obtain ⟨n1, rfl⟩ := Int.eq_ofNat_of_zero_le b1.1
  have g2 : DataW.trod enc Try.prog w 0 (fun _ => true) true n 37 [v2] = some y2 := by have := hf 2 _ rfl; simpa [cellsU32] using this
  obtain ⟨a2, e2, _, w2⟩ := DataW.trod_int Try.underlying37 g2
  obtain rfl : v2 = .int .u32 a2 := by simpa using e2
  have b2 := bounds_u32 w2
  obtain ⟨n2, rfl⟩ := Int.eq_ofNat_of_zero_le b2.1
  have g3 : DataW.trod enc Try.prog w 0 (fun _ => true) true n 37 [v3] = some y3 := by have := hf 3 _ rfl; simpa [cellsU32] using this
  obtain ⟨a3, e3, _, w3⟩ := DataW.trod_int Try.underlying37 g3
  obtain rfl : v3 = .int .u32 a3 := by simpa using e3
  have b3 := bounds_u32 w3
  obtain ⟨n3, rfl⟩ := Int.eq_ofNat_of_zero_le b3.1
  have g4 : DataW.trod enc Try.prog w 0 (fun _ => true) true n 37 [v4] = some y4 := by have := hf 4 _ rfl; simpa [cellsU32] using this
  obtain ⟨a4, e4, _, w4⟩ := DataW.trod_int Try.underlying37 g4
  obtain rfl : v4 = .int .u32 a4 := by simpa using e4
  have b4 := bounds_u32 w4
  obtain ⟨n4, rfl⟩ := Int.eq_ofNat_of_zero_le b4.1
  have g5 : DataW.trod enc Try.prog w 0 (fun _ => true) true n 37 [v5] = some y5 := by have := hf 5 _ rfl; simpa [cellsU32] using this
  obtain ⟨a5, e5, _, w5⟩ := DataW.trod_int Try.underlying37 g5
  obtain rfl : v5 = .int .u32 a5 := by simpa using e5
  have b5 := bounds_u32 w5
  obtain ⟨n5, rfl⟩ := Int.eq_ofNat_of_zero_le b5.1
  have g6 : DataW.trod enc Try.prog w 0 (fun _ => true) true n 37 [v6] = some y6 := by have := hf 6 _ rfl; simpa [cellsU32] using this
  obtain ⟨a6, e6, _, w6⟩ := DataW.trod_int Try.underlying37 g6
  obtain rfl : v6 = .int .u32 a6 := by simpa using e6
  have b6 := bounds_u32 w6
  obtain ⟨n6, rfl⟩ := Int.eq_ofNat_of_zero_le b6.1
  exact ⟨⟨n0, n1, n2, n3, n4, n5, n6⟩, rfl, ⟨by have := b0.2; show n0 ≤ _; omega, by have := b1.2; show n1 ≤ _; omega, by have := b2.2; show n2 ≤ _; omega, by have := b3.2; show n3 ≤ _; omega, by have := b4.2; show n4 ≤ _; omega, by have := b5.2; show n5 ≤ _; omega, by have := b6.2; show n6 ≤ _; omega⟩⟩
theorem open_ask (h : DataW.trod enc Try.prog w 0 (fun _ => true) true fuel 47 cs = some x) : ∃ p : AskD, cs = (askC p.x p.pv p.tv p.bv).toList ∧ p.good w := by
  obtain ⟨xs, n, _, _, hl, hxl, hf⟩ := DataW.trod_struct Try.underlying47 h
  obtain ⟨y0, y1, y2, y3, y4, y5, y6, y7, y8, rfl⟩ := len9 (show xs.length = 9 from hxl)
  rw [cellsAsk] at hl
  obtain ⟨v0, v1, v2, v3, v4, v5, v6, v7, v8, v9, v10, v11, v12, v13, v14, rfl⟩ := len15 hl
  have g0 : DataW.trod enc Try.prog w 0 (fun _ => true) true n 3 [v0] = some y0 := by have := hf 0 _ rfl; simpa [cellsInt] using this
  have g1 : DataW.trod enc Try.prog w 0 (fun _ => true) true n 3 [v1] = some y1 := by have := hf 1 _ rfl; simpa [cellsInt] using this
  have g2 : DataW.trod enc Try.prog w 0 (fun _ => true) true n 29 [v2] = some y2 := by have := hf 2 _ rfl; simpa [cellsSs] using this
  have g3 : DataW.trod enc Try.prog w 0 (fun _ => true) true n 29 [v3] = some y3 := by have := hf 3 _ rfl; simpa [cellsSs] using this
  have g4 : DataW.trod enc Try.prog w 0 (fun _ => true) true n 4 [v4] = some y4 := by have := hf 4 _ rfl; simpa [cellsBool] using this
  have g5 : DataW.trod enc Try.prog w 0 (fun _ => true) true n 34 [v5] = some y5 := by have := hf 5 _ rfl; simpa [cellsU64] using this
  have g6 : DataW.trod enc Try.prog w 0 (fun _ => true) true n 37 [v6] = some y6 := by have := hf 6 _ rfl; simpa [cellsU32] using this
  have g7 : DataW.trod enc Try.prog w 0 (fun _ => true) true n 30 [v7] = some y7 := by have := hf 7 _ rfl; simpa [cellsB] using this
  have g8 : DataW.trod enc Try.prog w 0 (fun _ => true) true n 40 [v8, v9, v10, v11, v12, v13, v14] = some y8 := by have := hf 8 _ rfl; simpa [cellsA7] using this
  obtain ⟨a0, e0, _, _⟩ := DataW.trod_int Try.underlying3 g0
  obtain rfl : v0 = .int .i64 a0 := by simpa using e0
  obtain ⟨a1, e1, _, _⟩ := DataW.trod_int Try.underlying3 g1
  obtain rfl : v1 = .int .i64 a1 := by simpa using e1
  obtain ⟨P, hP⟩ := open_strsV g2
  obtain ⟨Q, hQ⟩ := open_strsV g3
  obtain ⟨d, e4, _⟩ := DataW.trod_bool Try.underlying4 g4
  obtain rfl : v4 = .bool d := by simpa using e4
  obtain ⟨a5, e5, _, w5⟩ := DataW.trod_int Try.underlying34 g5
  obtain rfl : v5 = .int .u64 a5 := by simpa using e5
  have b5 := bounds_u64 w5
  obtain ⟨n5, rfl⟩ := Int.eq_ofNat_of_zero_le b5.1
  obtain ⟨a6, e6, _, w6⟩ := DataW.trod_int Try.underlying37 g6
  obtain rfl : v6 = .int .u32 a6 := by simpa using e6
  have b6 := bounds_u32 w6
  obtain ⟨n6, rfl⟩ := Int.eq_ofNat_of_zero_le b6.1
  obtain ⟨bs, hb⟩ := open_bytesV g7
  obtain ⟨A, e8, hA⟩ := open_attrs g8
  obtain ⟨f0, f1, f2, f3, f4, f5, f6⟩ := A
  simp [At.cells] at e8
  obtain ⟨rfl, rfl, rfl, rfl, rfl, rfl, rfl⟩ := e8
  exact ⟨⟨⟨a0, a1, P, Q, d, n5, n6, bs, ⟨f0, f1, f2, f3, f4, f5, f6⟩⟩, v2, v3, v7⟩, rfl, hP, hQ, hb, by have := b5.2; show n5 ≤ _; omega, by have := b6.2; show n6 ≤ _; omega, hA⟩
theorem open_asl {ao : Option Addr} {n cap : Nat} (h : DataW.trod enc Try.prog w 0 (fun _ => true) true fuel 45 cs = some x) (hcs : cs = [.slice ao n cap]) : ∃ qs, ASl w (.slice ao n cap) qs := by
  rcases open_slice Try.underlying45 h with ⟨rfl, _⟩ | ⟨a, len, cap', m, k, D, Pl, rfl, _, hl, hm, hmm, _, hx⟩
  · cases hcs
    exact ⟨[], none, 0, rfl, by simp, by simp [maxLen], (fun p hp => by cases hp), (fun i hi => by simp at hi)⟩
  · cases hcs
    simp at hmm
    subst hmm
    rw [cellsAsk] at hx
    have each : ∀ i, i < n → ∃ p : AskD, (∀ (j : Nat) (c : Value), (askC p.x p.pv p.tv p.bv)[j]? = some c → w.cell? (a.add (i * 15 + j)) = some c) ∧ p.good w := by
      intro i hi
      obtain ⟨cs', h1, h2⟩ := hx i (by omega)
      obtain ⟨p, rfl, h3⟩ := open_ask h2
      obtain ⟨_, _, hcell⟩ := World.cells?_some h1
      refine ⟨p, fun j c hj => ?_, h3⟩
      have hj15 : j < 15 := by
        have := (Array.getElem?_eq_some_iff.1 hj).1
        exact this
      have e := hcell j (by omega)
      rw [add_add] at e
      rw [e]
      simpa using hj
    haveI : Inhabited AskD := ⟨⟨⟨0, 0, [], [], false, 0, 0, [], ⟨0, 0, 0, 0, 0, 0, 0⟩⟩, .slice none 0 0, .slice none 0 0, .slice none 0 0⟩⟩
    obtain ⟨f, hf⟩ := choose_lt each
    refine ⟨(List.range n).map f, some a, m, by simp, by simpa using hl, hm, ?_, ?_⟩
    · intro p hp
      obtain ⟨i, hi, rfl⟩ := List.mem_map.1 hp
      exact (hf i (List.mem_range.1 hi)).2
    · intro i hi
      have hi' : i < n := by simpa using hi
      have h0 := (hf 0 (by omega)).1 0 _ rfl
      rw [show a.add (0 * 15 + 0) = a from by simp [Addr.add]] at h0
      obtain ⟨b, off, hbo⟩ := spot_none h0
      subst hbo
      refine ⟨b, off, rfl, fun j c hj => ?_⟩
      rw [List.getElem_map, List.getElem_range] at hj
      have := (hf i hi').1 j c hj
      rw [add_lit'] at this
      rw [Nat.add_assoc]
      exact this
end
end Go.Proofs.Ytnigfnikajejaaa
