/- A file's bytes: which file, whether it may be so large, another size. -/
import Derived.Test.YtnigfnikajejaabTmM
namespace Go.Proofs.Ytnigfnikajejaab
open Go Go.RowKit

/-- Bytes of another number: cut off, or noughts behind them. -/
def rz (d : List UInt8) (n : Nat) : List UInt8 := d.take n ++ List.replicate (n - d.length) 0
theorem rz_length (d : List UInt8) (n : Nat) : (rz d n).length = n := by unfold rz; simp; omega
theorem rz_up {d : List UInt8} {n : Nat} (h : d.length ≤ n) : rz d n = d ++ List.replicate (n - d.length) 0 := by unfold rz; rw [List.take_of_length_le h]
theorem rz_down {d : List UInt8} {n : Nat} (h : n ≤ d.length) : rz d n = d.take n := by unfold rz; rw [Nat.sub_eq_zero_of_le h, List.replicate_zero, List.append_nil]
def sizeF (n : Nat) (x : Th) : Th := { x with d := rz x.d n, a := { x.a with s := n } }
def layF (o : Nat) (b : List UInt8) (x : Th) : Th := { x with d := lay x.d o b }
/-- Why the file x may not have n bytes. -/
def hasRoom (S : Tr) (x : Th) (n : Nat) : Nat := if 1048576 < n then 3 else if 1048576 < sizeT S.ths - x.d.length + n then 13 else 0
def fileT (S : Tr) (i : Int) : Option Th × Nat := match findT S.ths i with
  | none => (none, 22)
  | some x => if x.dir then (none, 23) else (some x, 0)
def readT (S : Tr) (i : Int) (o n : Nat) : List UInt8 × Nat := match fileT S i with
  | (none, e) => ([], e)
  | (some x, _) => if x.d.length ≤ o then ([], 10) else ((x.d.drop o).take (min (min (x.d.length - o) 32768) n), 0)
def writeT (S : Tr) (i : Int) (o : Nat) (b : List UInt8) : Nat × Tr := match fileT S i with
  | (none, e) => (e, S)
  | (some x, _) => if b = [] then (0, S) else if hasRoom S x (min o 1048576 + b.length) ≠ 0 then (hasRoom S x (min o 1048576 + b.length), S)
    else (0, ⟨setT (if x.d.length < o + b.length then setT S.ths x.id (sizeF (o + b.length)) else S.ths) x.id (layF o b), S.next⟩)

section
variable {w : World} {R : Nat → Role} {a : Nat} {S : Tr} {B : Nat → Nat} {dv hv : Nat → Value} {tv : Value} {pa : Nat → Nat} {nm : Nat → Nm}
set_option maxHeartbeats 1000000 in
set_option maxRecDepth 100000 in
theorem file_c (H : TXb w R a S B dv hv tv) (o : Ok S pa nm) (i : Int) :
    Calls Try.prog 27 #[.pointer (some ⟨a, 0, none⟩), .int .i64 i] w fun e w' => e = .returned (.tuple #[ptrT B (fileT S i).1, .int .i64 (fileT S i).2]) ∧ Below w.heap.size w w' := by
  have HF := hidden (find_c H o i)
  have HH := hidden H
  have HR : Hid (fileT S i = match findT S.ths i with
    | none => (none, 22)
    | some x => if x.dir then (none, 23) else (some x, 0)) := rfl
  generalize fileT S i = rr at HR ⊢
  have HI := hidden o.inc
  clear H o
  cases hf : findT S.ths i with
  | none =>
    rw [hf] at HR
    rw [hf, show ptrT B none = .pointer none from rfl] at HF
    go_enter Try.func27, Try.ntmps27
    go_wp2_with fail
    refine HF.out.mono ?_
    rintro e w1 ⟨rfl, hb⟩
    go_wp2_with fail
    go_ret2
    exact ⟨by rw [HR.out]; rfl, hb⟩
  | some x =>
    rw [hf] at HR
    obtain ⟨hx, _⟩ := (findT_some HI.out _ _).1 hf
    rw [hf, show ptrT B (some x) = .pointer (some ⟨B x.id, 0, none⟩) from rfl] at HF
    have HC : Hid (∀ {W : World}, Below w.heap.size w W → W.cell? ⟨B x.id, 1, none⟩ = some (.bool x.dir)) := fun {W} hb => ((HH.out.fresh hb).th x hx).c1
    clear hx hf
    have hr := HR.out
    cases hd : x.dir with
    | true =>
      simp only [hd, if_true] at hr
      rw [hd] at HC
      have HR2 := hidden hr
      clear hr HR
      go_enter Try.func27, Try.ntmps27
      go_wp2_with fail
      refine HF.out.mono ?_
      rintro e w1 ⟨rfl, hb⟩
      have k1 := HC.out hb
      go_wp2_with fail
      go_ret2
      exact ⟨by rw [HR2.out]; rfl, hb⟩
    | false =>
      simp only [hd, Bool.false_eq_true, if_false] at hr
      rw [hd] at HC
      have HR2 := hidden hr
      clear hr HR
      go_enter Try.func27, Try.ntmps27
      go_wp2_with fail
      refine HF.out.mono ?_
      rintro e w1 ⟨rfl, hb⟩
      have k1 := HC.out hb
      go_wp2_with fail
      go_ret2
      exact ⟨by rw [HR2.out]; rfl, hb⟩

set_option maxHeartbeats 1000000 in
set_option maxRecDepth 100000 in
theorem mayHave_c (H : TXb w R a S B dv hv tv) {x : Th} (hx : x ∈ S.ths) (hsz : sizeT S.ths ≤ 1048576) (hle : x.d.length ≤ sizeT S.ths) (n : Nat) :
    Calls Try.prog 28 #[.pointer (some ⟨a, 0, none⟩), .pointer (some ⟨B x.id, 0, none⟩), .int .u64 n] w fun e w' => e = .returned (.int .i64 (hasRoom S x n)) ∧ Keeps (fun _ => False) w w' := by
  have HR : Hid (hasRoom S x n = if 1048576 < n then 3 else if 1048576 < sizeT S.ths - x.d.length + n then 13 else 0) := rfl
  generalize hasRoom S x n = rr at HR ⊢
  have k2 := H.t2
  obtain ⟨dao, dcap, hdv⟩ := (H.dat x hx).len
  have k9 := (H.th x hx).c9
  rw [hdv] at k9
  have kf := H.tf 2
  by_cases h1 : 1048576 < n
  · have hr := HR.out
    rw [if_pos h1] at hr
    subst hr
    have hi : (1048576 : Int) < (n : Int) := by omega
    clear HR
    go_enter Try.func28, Try.ntmps28
    go_wp2
    go_ret
    exact ⟨rfl, Keeps.refl _ _⟩
  · have hr := HR.out
    rw [if_neg h1] at hr
    have hi : ¬ (1048576 : Int) < (n : Int) := by omega
    have hcv : IntKind.i64.wrap (n : Int) = (n : Int) := by rw [IntKind.wrap_i64]; omega
    have hsub : IntKind.i64.wrap ((sizeT S.ths : Int) - (x.d.length : Int)) = (sizeT S.ths : Int) - (x.d.length : Int) := by rw [IntKind.wrap_i64]; omega
    have hadd : IntKind.i64.wrap ((sizeT S.ths : Int) - (x.d.length : Int) + (n : Int)) = (sizeT S.ths : Int) - (x.d.length : Int) + (n : Int) := by rw [IntKind.wrap_i64]; omega
    by_cases h2 : 1048576 < sizeT S.ths - x.d.length + n
    · rw [if_pos h2] at hr
      subst hr
      have hj : (1048576 : Int) < (sizeT S.ths : Int) - (x.d.length : Int) + (n : Int) := by omega
      clear HR H hdv hx
      go_enter Try.func28, Try.ntmps28
      go_wp2
      go_quiet (fail)
      go_wp2
      go_ret
      exact ⟨rfl, (Keeps.refl _ _).drewN nq⟩
    · rw [if_neg h2] at hr
      subst hr
      have hj : ¬ (1048576 : Int) < (sizeT S.ths : Int) - (x.d.length : Int) + (n : Int) := by omega
      clear HR H hdv hx
      go_enter Try.func28, Try.ntmps28
      go_wp2
      go_quiet (fail)
      go_wp2
      go_ret
      exact ⟨rfl, (Keeps.refl _ _).drewN nq⟩
end
end Go.Proofs.Ytnigfnikajejaab
