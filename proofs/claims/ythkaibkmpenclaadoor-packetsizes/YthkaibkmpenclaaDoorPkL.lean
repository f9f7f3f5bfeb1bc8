/- The length that a head tells, what stands between, and what is left behind. -/
import Derived.Test.YthkaibkmpenclaaDoorPkK
namespace Go.Proofs.YthkaibkmpenclaaDoor
open Go Go.RowKit

theorem val_le {xs : List UInt8} (h : xs.length = 4) : val xs ≤ 4294967295 := by
  match xs, h with
  | [a, b, c, d], _ =>
    have h1 := a.toNat_lt
    have h2 := b.toNat_lt
    have h3 := c.toNat_lt
    have h4 := d.toNat_lt
    simp only [val, List.foldl_cons, List.foldl_nil]
    omega
set_option maxHeartbeats 800000 in
set_option maxRecDepth 100000 in
theorem lengthOf_c (v : Value) (xs : List UInt8) (hl : xs.length = 4) (w : World) (hv : BSl w v xs) {g : Nat} {key : List UInt8} {c : Nat} (h : LineS w g key c) :
    Calls Tryd.prog 41 #[.pointer (some ⟨g, 0, none⟩), v] w fun e w' => e = .returned (.tuple #[.int .i64 (if lenE key (val xs) = 0 then (val xs : Nat) else 0 : Nat), .int .i64 (lenE key (val xs) : Nat)]) ∧ w' = w := by
  have HN := hidden (pnumberOf_c v xs (by omega) w hv)
  have hv4 := val_le hl
  have HL := hidden h
  clear hv h hl
  generalize val xs = L at *
  by_cases h1 : 35000 < L
  · have e : lenE key L = 3 := by rw [lenE, if_pos h1]
    rw [e]
    have h1' : (35000 : Int) < (L : Int) := by omega
    clear e h1
    go_enter Tryd.func41, Tryd.ntmps41
    go_wp2_with fail
    refine HN.out.mono ?_
    rintro e w2 ⟨rfl, hw2⟩
    subst hw2
    go_wp2
    go_ret2
    exact ⟨rfl, rfl⟩
  · have h1' : ¬ (35000 : Int) < (L : Int) := by omega
    by_cases h2 : L < 6
    · have e : lenE key L = 12 := by rw [lenE, if_neg h1, if_pos (.inl h2)]
      rw [e]
      have h2' : (L : Int) < 6 := by omega
      clear e h1
      go_enter Tryd.func41, Tryd.ntmps41
      go_wp2_with fail
      refine HN.out.mono ?_
      rintro e w2 ⟨rfl, hw2⟩
      subst hw2
      go_wp2
      go_ret2
      exact ⟨rfl, rfl⟩
    · have h2' : ¬ (L : Int) < 6 := by omega
      have HF := hidden (fillsUnits_c L (by omega) w HL.out)
      by_cases h3 : (hdN key + L) % 8 = 0
      · have e : lenE key L = 0 := by rw [lenE, if_neg h1, if_neg (by simp [h2, h3])]
        rw [e, if_pos rfl]
        rw [decide_eq_true h3] at HF
        clear e h1 h3
        go_enter Tryd.func41, Tryd.ntmps41
        go_wp2_with fail
        refine HN.out.mono ?_
        rintro e w2 ⟨rfl, hw2⟩
        subst hw2
        go_wp2_with fail
        refine HF.out.mono ?_
        rintro e w3 ⟨rfl, hw3⟩
        subst hw3
        go_wp2
        go_ret2
        exact ⟨rfl, rfl⟩
      · have e : lenE key L = 12 := by rw [lenE, if_neg h1, if_pos (.inr h3)]
        rw [e]
        rw [decide_eq_false h3] at HF
        clear e h1 h3
        go_enter Tryd.func41, Tryd.ntmps41
        go_wp2_with fail
        refine HN.out.mono ?_
        rintro e w2 ⟨rfl, hw2⟩
        subst hw2
        go_wp2_with fail
        refine HF.out.mono ?_
        rintro e w3 ⟨rfl, hw3⟩
        subst hw3
        go_wp2
        go_ret2
        exact ⟨rfl, rfl⟩
set_option maxHeartbeats 800000 in
set_option maxRecDepth 100000 in
theorem payloadOf_c (v : Value) (b : List UInt8) (h1 : 1 ≤ b.length) (hl : b.length ≤ 1000000) (w : World) (hv : BSl w v b) :
    Calls Tryd.prog 44 #[v] w fun e w' => Ex w w' ∧ ∃ v', e = .returned (.tuple #[v', .int .i64 (payE b : Nat)]) ∧ (payE b = 0 → Own w w' v' (payL b)) := by
  have hne : b ≠ [] := by intro e; rw [e] at h1; simp at h1
  obtain ⟨bb, oo, cap, e0, _⟩ := hv.nonnil hne
  subst e0
  have hc := hv.cellD 0 (by omega)
  rw [Nat.add_zero] at hc
  have hx := (b.getD 0 0).toNat_lt
  have HV := hidden hv
  obtain ⟨ao', cap', ee, hcap, hcm, _⟩ := hv
  cases ee
  unfold maxLen at hcm
  obtain ⟨q, hq⟩ : ∃ q, q = (b.getD 0 0).toNat := ⟨_, rfl⟩
  have HE : Hid (payE b = if q < 4 ∨ b.length ≤ 1 + q then 12 else 0) := by show _ = _; rw [payE, hq]
  have HPL : Hid (payL b = (b.drop 1).take (b.length - q - 1)) := by show _ = _; rw [payL, hq]
  rw [← hq] at hc hx
  clear hq hne
  generalize payE b = pe at HE ⊢
  generalize payL b = pl at HPL ⊢
  obtain ⟨n, hn⟩ : ∃ n, n = b.length := ⟨_, rfl⟩
  rw [← hn] at hl h1 HV HE HPL hcap ⊢
  have HNN := hidden hn
  clear hn
  have hq255 : (q : Int) ≤ 255 := by omega
  have hpos : (0 : Int) < (n : Int) := by omega
  by_cases h4 : q < 4
  · have h4' : (q : Int) < 4 := by omega
    have HP : Hid (pe = 12) := by show _ = _; rw [HE.out, if_pos (.inl h4)]
    rw [HP.out]
    clear HE h4
    go_enter Tryd.func44, Tryd.ntmps44
    go_wp2
    go_ret2
    first | exact ⟨Ex.refl _, _, rfl, fun e => by cases e⟩ | exact ⟨Ex.refl _, _, rfl⟩
  · have h4' : ¬ (q : Int) < 4 := by omega
    by_cases h5 : n ≤ 1 + q
    · have h5' : (n : Int) - (q : Int) ≤ 1 := by omega
      have HP : Hid (pe = 12) := by show _ = _; rw [HE.out, if_pos (.inr h5)]
      rw [HP.out]
      clear HE h4 h5
      go_enter Tryd.func44, Tryd.ntmps44
      go_wp2
      go_ret2
      first | exact ⟨Ex.refl _, _, rfl, fun e => by cases e⟩ | exact ⟨Ex.refl _, _, rfl⟩
    · have HP : Hid (pe = 0) := by show _ = _; rw [HE.out, if_neg (by omega)]
      rw [HP.out]
      obtain ⟨m, hm⟩ : ∃ m, n = m + q + 1 + 1 := ⟨n - q - 2, by omega⟩
      have h5' : ¬ (n : Int) - (q : Int) ≤ 1 := by omega
      have hsl : (n : Int) - (q : Int) = ((m + 2 : Nat) : Int) := by omega
      have HPART : Hid (BSl w (.slice (some ⟨bb, oo + 1, none⟩) (m + 1) (cap - 1)) pl) := by
        have := HV.out.part (i := 1) (j := m + 1) (by omega)
        rw [HPL.out, show n - q - 1 = m + 1 by omega]
        exact this
      have hc1 : ((m + 2 : Nat) : Int) ≤ (cap : Int) := by omega
      have hc2 : ¬ cap = 1 := by omega
      have hms : m + 2 - 1 = m + 1 := by omega
      have HPLL : Hid (pl.length ≤ 1000000000) := by
        show _ ≤ _
        rw [HPL.out, List.length_take]
        omega
      clear HE h4 h5 hm
      go_enter Tryd.func44, Tryd.ntmps44
      go_wp2_with fail
      refine (clone_c _ pl w HPART.out HPLL.out).mono ?_
      rintro e w2 ⟨v2, rfl, ho⟩
      have HO := hidden ho
      clear ho
      go_wp2
      go_ret2
      first | exact ⟨HO.out.b, _, rfl, fun _ => HO.out⟩ | exact ⟨HO.out.b, _, rfl, HO.out⟩
end Go.Proofs.YthkaibkmpenclaaDoor
