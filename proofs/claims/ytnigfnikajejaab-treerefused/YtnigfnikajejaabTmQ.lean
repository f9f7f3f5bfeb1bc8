/- Read, Write; what is told of a thing, and of all. -/
import Derived.Test.YtnigfnikajejaabTmO
namespace Go.Proofs.Ytnigfnikajejaab
open Go Go.RowKit

section
variable {w : World} {R : Nat → Role} {a : Nat} {S : Tr} {B : Nat → Nat} {dv hv : Nat → Value} {tv : Value} {pa : Nat → Nat} {nm : Nat → Nm}
theorem fileT_ok {S : Tr} (hi : Inc S.ths) {i : Int} {x : Th} {e : Nat} (h : fileT S i = (some x, e)) : x ∈ S.ths ∧ (x.id : Int) = i ∧ x.dir = false ∧ e = 0 := by
  unfold fileT at h
  cases hf : findT S.ths i with
  | none => rw [hf] at h; cases h
  | some y =>
    rw [hf] at h
    obtain ⟨h1, h2⟩ := (findT_some hi _ _).1 hf
    simp only at h
    split at h
    · cases h
    · next hd => cases h; exact ⟨h1, h2, by simpa using hd, rfl⟩
theorem fileT_no {S : Tr} {i : Int} {e : Nat} (h : fileT S i = (none, e)) : e ≠ 0 := by
  unfold fileT at h
  split at h
  · cases h; omega
  · split at h
    · cases h; omega
    · cases h
/-- What Read leaves. -/
def ReadPost (w : World) (r : List UInt8 × Nat) (e : Ending) (w' : World) : Prop :=
  ∃ v', e = .returned (.tuple #[v', .int .i64 r.2]) ∧ BSl w' v' r.1 ∧ (∀ k, v'.ownBlock = some k → w.heap.size ≤ k) ∧ Below w.heap.size w w'
set_option maxHeartbeats 1000000 in
set_option maxRecDepth 100000 in
theorem read_c (H : TXb w R a S B dv hv tv) (o : Ok S pa nm) (i : Int) (k n : Nat) (hk : k ≤ 18446744073709551615) (hn : n ≤ 4294967295) :
    Calls Try.prog 17 #[.pointer (some ⟨a, 0, none⟩), .int .i64 i, .int .u64 k, .int .u32 n] w (ReadPost w (readT S i k n)) := by
  have HF := hidden (file_c H o i)
  have HH := hidden H
  have HR : Hid (readT S i k n = match fileT S i with
    | (none, e) => ([], e)
    | (some x, _) => if x.d.length ≤ k then ([], 10) else ((x.d.drop k).take (min (min (x.d.length - k) 32768) n), 0)) := rfl
  generalize readT S i k n = rr at HR ⊢
  have HO := hidden o
  clear H o
  cases hf : fileT S i with
  | mk ox e =>
    rw [hf] at HR HF
    cases ox with
    | none =>
      have hr := HR.out
      simp only at hr
      subst hr
      have hei : (((e : Nat) : Int) != 0) = true := by simp; exact fileT_no hf
      rw [show ptrT B (none, e).1 = .pointer none from rfl] at HF
      clear HR hf
      go_enter Try.func17, Try.ntmps17
      go_wp2_with fail
      refine HF.out.mono ?_
      rintro e1 w1 ⟨rfl, hb⟩
      go_wp2_with fail
      go_ret2
      exact ⟨.slice none 0 0, rfl, bsl_none _, (fun _ e => by cases e), hb⟩
    | some x =>
      obtain ⟨hx, _, hxd, rfl⟩ := fileT_ok HO.out.inc hf
      have hs := (HO.out.att x hx).2.2
      have hle : x.d.length ≤ 1048576 := by have := sizeT_at HO.out.inc hx; have := HO.out.bytes; omega
      rw [show ptrT B (some x, 0).1 = .pointer (some ⟨B x.id, 0, none⟩) from rfl] at HF
      have HC : Hid (∀ {W : World}, Below w.heap.size w W → W.cell? ⟨B x.id, 3, none⟩ = some (.int .u64 (x.a.s : Int)) ∧ W.cell? ⟨B x.id, 9, none⟩ = some (dv x.id) ∧ Held W (dv x.id) x.d) := fun {W} hb => ⟨((HH.out.fresh hb).th x hx).ca.2.1, ((HH.out.fresh hb).th x hx).c9, (HH.out.fresh hb).dat x hx⟩
      have hr := HR.out
      simp only at hr
      by_cases hko : x.d.length ≤ k
      · rw [if_pos hko] at hr
        subst hr
        have hki : (x.d.length : Int) ≤ (k : Int) := by omega
        clear HR hf hx
        go_enter Try.func17, Try.ntmps17
        go_wp2_with fail
        refine HF.out.mono ?_
        rintro e1 w1 ⟨rfl, hb⟩
        obtain ⟨c3, _, _⟩ := HC.out hb
        rw [hs] at c3
        go_wp2_with fail
        go_ret2
        exact ⟨.slice none 0 0, rfl, bsl_none _, (fun _ e => by cases e), hb⟩
      · rw [if_neg hko] at hr
        subst hr
        have hki : ¬ (x.d.length : Int) ≤ (k : Int) := by omega
        obtain ⟨dao, dcap, hdv, hdc, hdm, hdn⟩ := (HH.out.dat x hx).shape
        obtain ⟨M, hM⟩ : ∃ M, M = min (min (x.d.length - k) 32768) n := ⟨_, rfl⟩
        obtain ⟨L, hL⟩ : ∃ L, L = (x.d.drop k).take M := ⟨_, rfl⟩
        rw [← hM, ← hL]
        have HM := hidden hM
        have HL := hidden hL
        have hLl : L.length ≤ 1000000000 := by rw [hL, List.length_take, List.length_drop]; omega
        clear HR hf hx hM hL
        go_enter Try.func17, Try.ntmps17
        go_wp2_with fail
        refine HF.out.mono ?_
        rintro e1 w1 ⟨rfl, hb⟩
        obtain ⟨c3, c9, hH⟩ := HC.out hb
        rw [hs] at c3
        rw [hdv] at c9 hH
        have HHd := hidden hH
        clear hH
        have q1 : ((k : Int) + ((x.d.length : Int) - (k : Int))).toNat - k = x.d.length - k := by omega
        have q2 : ((k : Int) + 32768).toNat - k = 32768 := by omega
        have q3 : ((k : Int) + (n : Int)).toNat - k = n := by omega
        go_wp2_with fail
        all_goals
          try rw [q1]
          try rw [q2]
          try rw [q3]
          first
            | (have e : M = x.d.length - k := by have := HM.out; omega
               refine (bclone_c _ L _ (by rw [HL.out, e]; exact HHd.out.bsl.cut (by omega) (by omega)) hLl).mono ?_
               clear e)
            | (have e : M = 32768 := by have := HM.out; omega
               refine (bclone_c _ L _ (by rw [HL.out, e]; exact HHd.out.bsl.cut (by omega) (by omega)) hLl).mono ?_
               clear e)
            | (have e : M = n := by have := HM.out; omega
               refine (bclone_c _ L _ (by rw [HL.out, e]; exact HHd.out.bsl.cut (by omega) (by omega)) hLl).mono ?_
               clear e)
          rintro e2 w2 ⟨v2, rfl, h2, hb2, hat2⟩
          obtain ⟨ao2, cp2, rfl⟩ := h2.len
          have H2 := hidden h2.bsl
          have HB2 := hidden (hb.trans (hb2.mono hb.size))
          have HA2 := hidden (fun k e => Nat.le_trans hb.size (hat2 k e))
          clear h2 hb2 hat2
          go_wp2_with fail
          go_ret2
          exact ⟨_, rfl, H2.out, HA2.out, HB2.out⟩
end
end Go.Proofs.Ytnigfnikajejaab
