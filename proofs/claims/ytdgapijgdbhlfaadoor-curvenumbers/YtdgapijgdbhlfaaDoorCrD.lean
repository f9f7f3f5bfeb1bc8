/- The document's product: the walk. -/
import Derived.Test.YtdgapijgdbhlfaaDoorCrC
namespace Go.Proofs.YtdgapijgdbhlfaaDoor
open Go Go.RowKit

/-- What lies ready while a product is made. -/
structure MI (w : World) (n m : List Int) (wr : World) (T : List Int) : Prop where
  n : IB wr w.heap.size 46 n
  m : IB wr (w.heap.size + 1) 46 m
  r : IB wr (w.heap.size + 2) 46 Z16
  t : IB wr (w.heap.size + 3) 63 T
  b : Below w.heap.size w wr
theorem MI.start (w : World) (n m : List Int) :
    MI w n m ((((w.alloc (.cells (icells n).toArray 46)).alloc (.cells (icells m).toArray 46)).alloc (.cells (icells Z16).toArray 46)).alloc (.cells (icells Z31).toArray 63)) Z31 := by
  have h := QI.start w n m
  generalize hw : ((w.alloc (.cells (icells n).toArray 46)).alloc (.cells (icells m).toArray 46)).alloc (.cells (icells Z16).toArray 46) = w3 at h ⊢
  have hs : w3.heap.size = w.heap.size + 3 := by rw [← hw]; simp
  have hk : Keeps (fun _ => False) w3 (w3.alloc (.cells (icells Z31).toArray 63)) := (Keeps.refl _ w3).alloc _
  refine ⟨h.n.keep hk (fun h => h), h.m.keep hk (fun h => h), h.r.keep hk (fun h => h), ?_, h.b.alloc (by omega) _⟩
  rw [← hs]
  exact IB.new w3 _
theorem MI.keep {w : World} {n m : List Int} {wr wr' : World} {P P' : List Int} (h : MI w n m wr P) {S : Nat → Prop} (hS : ∀ k, S k → w.heap.size + 3 ≤ k) (hk : Keeps S wr wr') (hp : IB wr' (w.heap.size + 3) 63 P') : MI w n m wr' P' :=
  ⟨h.n.keep hk (fun e => by have := hS _ e; omega), h.m.keep hk (fun e => by have := hS _ e; omega), h.r.keep hk (fun e => by have := hS _ e; omega), hp, h.b.trans (hk.below (B := w.heap.size) h.b.size (by intro k e; have := hS _ e; omega))⟩
theorem MI.set {w : World} {n m : List Int} {wr : World} {P : List Int} (h : MI w n m wr P) (i : Nat) (x : Int) : MI w n m (wr.setCell ⟨w.heap.size + 3, i, none⟩ (.int .i64 x)).drew (P.set i x) :=
  h.keep (S := fun k => k = w.heap.size + 3) (by omega) ((Keeps.refl (fun k => k = w.heap.size + 3) wr).setCell (p := ⟨w.heap.size + 3, i, none⟩) (.inl rfl) _).drew (h.t.set i x)

set_option maxHeartbeats 1600000 in
set_option maxRecDepth 100000 in
theorem rmul_c {va vb : Value} {a b : Nat} (ha : IsB va a) (hb : IsB vb b) (w : World) :
    Calls Tryd.prog 24 #[va, vb] w fun e w' => ∃ v, e = .returned v ∧ IsC v (fmul a b) ∧ Ex w w' := by
  obtain ⟨L, rfl, h⟩ := ha
  obtain ⟨M, rfl, k⟩ := hb
  have HL := hidden h.bd
  have HM := hidden k.bd
  have hL := h.len
  have hM := k.len
  have HV := hidden (mulI_val h k)
  have H := hidden (MI.start w L M)
  clear h k
  go_enter Tryd.func24, Tryd.ntmps24
  generalize hLA : (icells L).toArray = LA at H ⊢
  generalize hMA : (icells M).toArray = MA at H ⊢
  clear hLA hMA
  go_upto_region 2 with fail
  change Code.wp _ _ _ _ ((((w.alloc (.cells LA 46)).alloc (.cells MA 46)).alloc (.cells (icells Z16).toArray 46)).alloc (.cells (icells Z31).toArray 63))
  generalize (((w.alloc (.cells LA 46)).alloc (.cells MA 46)).alloc (.cells (icells Z16).toArray 46)).alloc (.cells (icells Z31).toArray 63) = w3 at H ⊢
  rw [show w.heap.size + 1 + 1 = w.heap.size + 2 from rfl, show w.heap.size + 2 + 1 = w.heap.size + 3 from rfl]
  go_wp2_with fail
  go_loopw [6, 7] (fun c _ wr => ∃ i : Nat, i ≤ 16 ∧ c = .int .i64 (i : Int) ∧ MI w L M wr (muT L M i)) (fun c _ _ => 16 - (intOf c).toNat)
  case atStart => exact ⟨0, by omega, rfl, H.out⟩
  case round =>
    clear H
    obtain ⟨i, hi, rfl, ht⟩ := hrel
    have HT := hidden ht
    clear ht
    by_cases hlt : i < 16
    · have hlt' : (i : Int) < 16 := by omega
      go_wp2_with fail
      obtain ⟨wo, ewo⟩ : ∃ x, x = wr := ⟨wr, rfl⟩
      subst ewo
      go_loopw [7] (fun c wr => ∃ j : Nat, j ≤ 16 ∧ c = .int .i64 (j : Int) ∧ MI w L M wr (muR L M (muT L M i) i j)) (fun c _ => 16 - (intOf c).toNat)
      case atStart => exact ⟨0, by omega, rfl, HT.out⟩
      case round =>
        clear HT
        obtain ⟨j, hj, rfl, ht⟩ := hrel
        have HT := hidden ht
        clear ht
        by_cases hltj : j < 16
        · have hltj' : (j : Int) < 16 := by omega
          have hpb := prod_bd (HL.out i) (HM.out j)
          have hTb := muR_bd (B := 275200000000 * (i : Int)) HL.out HM.out (fun k => muT_bd HL.out HM.out i k) i j (i + j)
          have hPl : (muR L M (muT L M i) i j).length = 31 := by rw [muR_length, muT_length]
          have hcn := HT.out.n.cell i (by omega)
          have hcm := HT.out.m.cell j (by omega)
          have hcp := HT.out.t.cell (i + j) (by omega)
          have hfz := HT.out.t.frozen
          obtain ⟨p, hp⟩ : ∃ p, p = L.getD i 0 * M.getD j 0 := ⟨_, rfl⟩
          have hp2 : L.getD i 0 * M.getD j 0 = p := hp.symm
          obtain ⟨s, hs⟩ : ∃ s, s = (muR L M (muT L M i) i j).getD (i + j) 0 + p := ⟨_, rfl⟩
          have hs2 : (muR L M (muT L M i) i j).getD (i + j) 0 + p = s := hs.symm
          have HS : Hid (muR L M (muT L M i) i (j + 1) = (muR L M (muT L M i) i j).set (i + j) s) := by rw [hs, hp]; rfl
          have hpw := i64w p (by omega)
          have hsw := i64w s (by omega)
          obtain ⟨kk, hkk⟩ : ∃ kk, kk = i + j := ⟨_, rfl⟩
          have hk2 : (i : Int) + (j : Int) = (kk : Int) := by omega
          have hk31 : (kk : Int) < 31 := by omega
          have hkw := i64w (kk : Int) (by omega)
          rw [← hkk] at hcp HS hs2
          generalize (muR L M (muT L M i) i j).getD kk 0 = x0 at hcp hs2
          generalize L.getD i 0 = x1 at hcn hp2
          generalize M.getD j 0 = x2 at hcm hp2
          clear hp hs hkk hpb hTb hPl
          go_wp2_with fail
          go_region
          go_wp2
          go_roundw
          case rel =>
            refine ⟨j + 1, by omega, by go_num, ?_⟩
            rw [HS.out]
            exact HT.out.set kk s
          case measure => simp [intOf]; omega
        · have hltj' : ¬ (j : Int) < 16 := by omega
          obtain rfl : j = 16 := by omega
          go_wp2
          go_roundw
          case rel => exact ⟨i + 1, by omega, by go_num, HT.out⟩
          case measure => simp [intOf]; omega
    · have hlt' : ¬ (i : Int) < 16 := by omega
      obtain rfl : i = 16 := by omega
      obtain ⟨T, hT⟩ : ∃ T, T = muT L M 16 := ⟨_, rfl⟩
      have hTb : ∀ k, -4403200000000 ≤ T.getD k 0 ∧ T.getD k 0 ≤ 4403200000000 := fun k => by have := muT_bd HL.out HM.out 16 k; rw [hT]; omega
      have hTl : T.length = 31 := by rw [hT]; exact muT_length L M 16
      rw [← hT] at HT HV
      have HTB := hidden hTb
      clear hT HL HM hTb
      go_upto_region 10 with fail
      change Code.wp _ _ _ _ (wr.alloc (.cells (icells Z16).toArray 46))
      obtain ⟨g8, hg8⟩ : ∃ x, x = wr.heap.size := ⟨_, rfl⟩
      have hg4 : w.heap.size + 4 ≤ g8 := by have := HT.out.t.lt; omega
      have hk8 : Keeps (fun _ => False) wr (wr.alloc (.cells (icells Z16).toArray 46)) := (Keeps.refl _ wr).alloc _
      have HT8 := hidden (HT.out.keep (S := fun _ => False) (fun _ h => h.elim) hk8 (HT.out.t.keep hk8 (fun h => h)))
      have HO8 : Hid (IB (wr.alloc (.cells (icells Z16).toArray 46)) g8 46 Z16) := by rw [hg8]; exact IB.new wr _
      rw [← hg8]
      generalize wr.alloc (.cells (icells Z16).toArray 46) = wa at HT8 HO8 ⊢
      clear HT hk8 hg8
      go_wp2_with fail
      go_loopw [9] (fun c wr => ∃ i : Nat, i ≤ 15 ∧ c = .int .i64 (i : Int) ∧ MI w L M wr (fdTo T i) ∧ IB wr g8 46 Z16) (fun c _ => 15 - (intOf c).toNat)
      case atStart => exact ⟨0, by omega, rfl, HT8.out, HO8.out⟩
      case round =>
        clear HT8 HO8
        obtain ⟨i, hi3, rfl, ht, ho⟩ := hrel
        have HT := hidden ht
        have HO := hidden ho
        clear ht ho
        by_cases hl3 : i < 15
        · have hl3' : (i : Int) < 15 := by omega
          have hPl : (fdTo T i).length = 31 := by rw [fdTo_length]; exact hTl
          have c1 := HT.out.t.cell i (by omega)
          have c2 := HT.out.t.cell (i + 16) (by omega)
          rw [fdTo_off T i i (Nat.le_refl _)] at c1
          rw [fdTo_off T i (i + 16) (by omega)] at c2
          have hf := HT.out.t.frozen
          have b1 := HTB.out i
          have b2 := HTB.out (i + 16)
          obtain ⟨p, hp⟩ : ∃ p, p = 38 * T.getD (i + 16) 0 := ⟨_, rfl⟩
          have hp2 : 38 * T.getD (i + 16) 0 = p := hp.symm
          obtain ⟨s, hs⟩ : ∃ s, s = T.getD i 0 + p := ⟨_, rfl⟩
          have hs2 : T.getD i 0 + p = s := hs.symm
          have HS : Hid (fdTo T (i + 1) = (fdTo T i).set i s) := by rw [hs, hp]; rfl
          have hpw := i64w p (by omega)
          have hsw := i64w s (by omega)
          have hk31 : (i : Int) + 16 < 31 := by omega
          have hkw := i64w ((i : Int) + 16) (by omega)
          generalize T.getD (i + 16) 0 = x2 at c2 hp2
          generalize T.getD i 0 = x1 at c1 hs2
          clear hp hs b1 b2 hPl
          go_wp2_with fail
          go_region
          go_wp2
          go_roundw
          case rel =>
            refine ⟨i + 1, by omega, by go_num, ?_, HO.out.keep (S := fun k => k = w.heap.size + 3) ((Keeps.refl (fun k => k = w.heap.size + 3) wr).setCell (p := ⟨w.heap.size + 3, i, none⟩) (.inl rfl) _).drew (by omega)⟩
            rw [HS.out]
            exact HT.out.set i s
          case measure => simp [intOf]; omega
        · have hl3' : ¬ (i : Int) < 15 := by omega
          obtain rfl : i = 15 := by omega
          obtain ⟨F, hF⟩ : ∃ F, F = fdTo T 15 := ⟨_, rfl⟩
          have hFl : F.length = 31 := by rw [hF, fdTo_length]; exact hTl
          have HCP : Hid (cpI T = zpTo (fun _ y => y) Z16 F 16) := by rw [hF]; rfl
          rw [← hF] at HT
          clear hF HTB
          go_wp2_with fail
          obtain ⟨wo, ewo⟩ : ∃ x, x = wr := ⟨wr, rfl⟩
          subst ewo
          go_loopw [10] (fun c wr => ∃ i : Nat, i ≤ 16 ∧ c = .int .i64 (i : Int) ∧ MI w L M wr F ∧ IB wr g8 46 (zpTo (fun _ y => y) Z16 F i)) (fun c _ => 16 - (intOf c).toNat)
          case atStart => exact ⟨0, by omega, rfl, HT.out, HO.out⟩
          case round =>
            clear HT HO
            obtain ⟨i, hi4, rfl, ht, ho⟩ := hrel
            have HT := hidden ht
            have HO := hidden ho
            clear ht ho
            by_cases hl4 : i < 16
            · have hl4' : (i : Int) < 16 := by omega
              have hi31 : (i : Int) < 31 := by omega
              have c1 := HT.out.t.cell i (by omega)
              have hol : (zpTo (fun _ y => y) Z16 F i).length = 16 := by rw [zpTo_length]; rfl
              have c2 := HO.out.cell i (by omega)
              have hf := HO.out.frozen
              have HS : Hid (zpTo (fun _ y => y) Z16 F (i + 1) = (zpTo (fun _ y => y) Z16 F i).set i (F.getD i 0)) := rfl
              generalize F.getD i 0 = x1 at c1 HS
              generalize (zpTo (fun _ y => y) Z16 F i).getD i 0 = x2 at c2
              clear hol
              go_wp2
              go_roundw
              case rel =>
                refine ⟨i + 1, by omega, by go_num, ?_, ?_⟩
                · exact HT.out.keep (S := fun k => k = g8) (by omega) ((Keeps.refl (fun k => k = g8) wr).setCell (p := ⟨g8, i, none⟩) (.inl rfl) _) (HT.out.t.keep (S := fun k => k = g8) ((Keeps.refl (fun k => k = g8) wr).setCell (p := ⟨g8, i, none⟩) (.inl rfl) _) (by omega))
                · rw [HS.out]
                  exact HO.out.set i x1
              case measure => simp [intOf]; omega
            · have hl4' : ¬ (i : Int) < 16 := by omega
              obtain rfl : i = 16 := by omega
              rw [← HCP.out] at HO
              obtain ⟨v1, v2, v3, v4⟩ := HV.out
              have HC1 := hidden (rcarry_c g8 (cpI T) v1 v2 wr HO.out)
              have HV3 : Hid (∀ j, -200000000000000 ≤ (crTo (cpI T) 16).getD j 0 ∧ (crTo (cpI T) 16).getD j 0 ≤ 200000000000000) := fun j => by have := v3 j; omega
              have HV4 := hidden v4
              have hQl : (crTo (cpI T) 16).length = 16 := by rw [crTo_length]; exact v1
              generalize crTo (cpI T) 16 = C1 at HC1 HV3 HV4 hQl
              clear v1 v2 v3 v4 HV HCP HO
              go_wp2_with fail
              refine HC1.out.mono ?_
              rintro e w5 ⟨rfl, hn5, hk5⟩
              have H5 := hidden (HT.out.keep (S := fun k => k = g8) (by omega) hk5 (HT.out.t.keep hk5 (by omega)))
              have HC2 := hidden (rcarry_c g8 C1 hQl HV3.out w5 hn5)
              generalize crTo C1 16 = C2 at HC2 HV4
              clear HC1 hn5 hk5 HT HV3
              go_wp2_with fail
              refine HC2.out.mono ?_
              rintro e w6 ⟨rfl, hn6, hk6⟩
              have H6 := hidden (H5.out.keep (S := fun k => k = g8) (by omega) hk6 (H5.out.t.keep hk6 (by omega)))
              have HN6 := hidden hn6
              clear HC2 hn6 hk6 H5
              obtain ⟨hsz, hone, hdd⟩ := row16 C2 HV4.out.len
              have HPP : Hid (w6.heap[g8]? = some (.cells (icells C2).toArray 46 (0, 0))) := HN6.out
              have HRR : Hid (w6.heap[w.heap.size + 2]? = some (.cells (icells Z16).toArray 46 (0, 0))) := H6.out.r
              have HB4 := hidden H6.out.b
              obtain ⟨R, hR⟩ : ∃ R, R = (icells C2).toArray := ⟨_, rfl⟩
              rw [← hR] at hsz hone hdd HPP
              have HRE := hidden hR
              have HSZ := hidden hsz
              have HON := hidden hone
              have HD := hidden hdd
              have HR1 : Hid ((w6.setRow (w.heap.size + 2) R).heap[w.heap.size + 2]? = some (.cells R 46 (0, 0))) := setRow_heap w6 (w.heap.size + 2) _ _ _ _ HRR.out
              have HL1 : Hid (Below w.heap.size w (w6.setRow (w.heap.size + 2) R)) := below_setRow HB4.out (by omega) _
              clear hsz hone hdd H6 hR HN6
              go_wp2_with (first
                | (refine wpList_loadRow rfl 46 (.tmp 8) rfl g8 R 46 (0, 0) 16 2 rfl HPP.out Tryd.underlying46 HSZ.out ?_)
                | (refine wpList_store_row rfl 46 (.tmp 4) (.tmp 62) rfl (w.heap.size + 2) R rfl rfl 46 _ HRR.out HSZ.out HD.out HON.out ?_))
              (try simp only [Exit.inBlock, Exit.then])
              refine bodyPost_ret (results_cell1 rfl _ _ _ (w.heap.size + 2) R 46 (0, 0) 16 2 rfl HR1.out Tryd.underlying46 HSZ.out) rfl ?_
              exact ⟨_, rfl, ⟨C2, by rw [HRE.out], HV4.out⟩, HL1.out⟩
end Go.Proofs.YtdgapijgdbhlfaaDoor
