/- The product of two numbers. -/
import Derived.Test.YtdgapijgdbhlfaaDoorCuB
namespace Go.Proofs.YtdgapijgdbhlfaaDoor
open Go Go.RowKit

/-- What lies ready while a product is made: both factors, the answer's place, the product. -/
structure TI (w : World) (n m : List Nat) (wr : World) (P : List Nat) : Prop where
  n : NB .u64 wr w.heap.size 40 n
  m : NB .u64 wr (w.heap.size + 1) 40 m
  r : NB .u64 wr (w.heap.size + 2) 40 [0, 0, 0, 0, 0]
  p : NB .u64 wr (w.heap.size + 3) 40 P
  b : Below w.heap.size w wr
theorem TI.start (w : World) (n m : List Nat) :
    TI w n m ((((w.alloc (.cells (ncells .u64 n).toArray 40)).alloc (.cells (ncells .u64 m).toArray 40)).alloc (.cells (ncells .u64 [0, 0, 0, 0, 0]).toArray 40)).alloc (.cells (ncells .u64 [0, 0, 0, 0, 0]).toArray 40)) [0, 0, 0, 0, 0] := by
  have h := PI.start w n m
  generalize hw : ((w.alloc (.cells (ncells .u64 n).toArray 40)).alloc (.cells (ncells .u64 m).toArray 40)).alloc (.cells (ncells .u64 [0, 0, 0, 0, 0]).toArray 40) = w3 at h ⊢
  have hs : w3.heap.size = w.heap.size + 3 := by rw [← hw]; simp
  have hk : Keeps (fun _ => False) w3 (w3.alloc (.cells (ncells .u64 [0, 0, 0, 0, 0]).toArray 40)) := (Keeps.refl _ w3).alloc _
  refine ⟨h.n.keep hk (fun h => h), h.m.keep hk (fun h => h), h.r.keep hk (fun h => h), ?_, h.b.alloc (by omega) _⟩
  rw [← hs]
  exact NB.new w3 _
theorem TI.keep {w : World} {n m : List Nat} {wr wr' : World} {P P' : List Nat} (h : TI w n m wr P) {S : Nat → Prop} (hS : ∀ k, S k → w.heap.size + 3 ≤ k) (hk : Keeps S wr wr') (hp : NB .u64 wr' (w.heap.size + 3) 40 P') : TI w n m wr' P' :=
  ⟨h.n.keep hk (fun e => by have := hS _ e; omega), h.m.keep hk (fun e => by have := hS _ e; omega), h.r.keep hk (fun e => by have := hS _ e; omega), hp, h.b.trans (hk.below (B := w.heap.size) h.b.size (by intro k e; have := hS _ e; omega))⟩
theorem TI.set {w : World} {n m : List Nat} {wr : World} {P : List Nat} (h : TI w n m wr P) (i x : Nat) : TI w n m (wr.setCell ⟨w.heap.size + 3, i, none⟩ (.int .u64 (x : Int))) (P.set i x) :=
  h.keep (S := fun k => k = w.heap.size + 3) (by omega) ((Keeps.refl (fun k => k = w.heap.size + 3) wr).setCell (p := ⟨w.heap.size + 3, i, none⟩) (.inl rfl) _) (h.p.set i x)
theorem shift_join (s : Nat) (hs : s < 41538374868278621028243970633760768) : bits BinOp.or IntKind.u64 ((s / 18446744073709551616 * 8192 : Nat) : Int) ((s % 18446744073709551616 / 2251799813685248 : Nat) : Int) = ((s / 2251799813685248 : Nat) : Int) := by
  rw [u64_or_nat _ _ (by omega) (by omega), nat_join 13 _ _ (by omega) (by omega)]
  congr 1
  omega

set_option maxHeartbeats 800000 in
set_option maxRecDepth 100000 in
theorem times_l (L M : List Nat) (a b : Nat) (h : Tm L a) (k : Tm M b) (w : World) :
    Calls Tryd.prog 29 #[.agg (ncells .u64 L).toArray, .agg (ncells .u64 M).toArray] w fun e w' => e = .returned (.agg (ncells .u64 (timesL L M)).toArray) ∧ Below w.heap.size w w' := by
  have HL := hidden h.all
  have HM := hidden k.all
  have hL := h.len
  have hM := k.len
  have HF := hidden (times_tm h k)
  have H := hidden (TI.start w L M)
  clear h k
  go_enter Tryd.func29, Tryd.ntmps29
  go_upto_region 2 with fail
  change Code.wp _ _ _ _ ((((w.alloc (.cells (ncells .u64 L).toArray 40)).alloc (.cells (ncells .u64 M).toArray 40)).alloc (.cells (ncells .u64 [0, 0, 0, 0, 0]).toArray 40)).alloc (.cells (ncells .u64 [0, 0, 0, 0, 0]).toArray 40))
  generalize (((w.alloc (.cells (ncells .u64 L).toArray 40)).alloc (.cells (ncells .u64 M).toArray 40)).alloc (.cells (ncells .u64 [0, 0, 0, 0, 0]).toArray 40)).alloc (.cells (ncells .u64 [0, 0, 0, 0, 0]).toArray 40) = w3 at H ⊢
  generalize (ncells .u64 M).toArray = MA
  generalize (ncells .u64 L).toArray = LA
  go_wp2_with fail
  go_loopw [6, 10] (fun o c wr => ∃ i : Nat, i ≤ 5 ∧ c = .int .i64 (i : Int) ∧ o = .int .u64 ((prL L M i).2 : Nat) ∧ TI w L M wr (prL L M i).1) (fun _ c _ => 5 - (intOf c).toNat)
  case atStart => exact ⟨0, by omega, rfl, rfl, H.out⟩
  case round =>
    clear H
    obtain ⟨i, hi, rfl, rfl, ht⟩ := hrel
    have HT := hidden ht
    clear ht
    by_cases hlt : i < 5
    · have hlt' : (i : Int) < 5 := by omega
      have hob := prL_small HL.out HM.out i
      obtain ⟨o, ho⟩ : ∃ o, o = (prL L M i).2 := ⟨_, rfl⟩
      have hPl := prL_length L M i
      obtain ⟨P, hP⟩ : ∃ P, P = (prL L M i).1 := ⟨_, rfl⟩
      have HP1 : Hid (prL L M (i + 1) = (P.set i ((o + tmS L M i 5) % 2251799813685248), (o + tmS L M i 5) / 2251799813685248)) := by rw [hP, ho]; rfl
      rw [← ho] at hob ⊢
      rw [← hP] at HT hPl
      have HPo := hidden ho
      have HPp := hidden hP
      clear ho hP
      go_upto_region 7 with fail
      have hsz : w.heap.size + 4 ≤ wr.heap.size := by have := HT.out.p.lt; omega
      obtain ⟨g, hg⟩ : ∃ g, g = wr.heap.size := ⟨_, rfl⟩
      have HTA : Hid (TI w L M (wr.alloc (.cells #[.int .u64 0, .int .u64 (o : Int)] 67)) P) :=
        HT.out.keep (S := fun _ => False) (fun _ h => h.elim) ((Keeps.refl _ wr).alloc _) (HT.out.p.keep (S := fun _ => False) ((Keeps.refl _ wr).alloc _) (fun h => h))
      have HNA : Hid (NB .u64 (wr.alloc (.cells #[.int .u64 0, .int .u64 (o : Int)] 67)) g 67 [(o + tmS L M i 0) / 18446744073709551616, (o + tmS L M i 0) % 18446744073709551616]) := by
        show NB _ _ _ _ _
        rw [show (o + tmS L M i 0) = o from rfl, show o / 18446744073709551616 = 0 by omega, show o % 18446744073709551616 = o by omega, hg]
        exact NB.new wr [0, o]
      rw [← hg]
      generalize wr.alloc (.cells #[.int .u64 0, .int .u64 (o : Int)] 67) = wa at HTA HNA ⊢
      have hg4 : w.heap.size + 4 ≤ g := by omega
      have hTS := tmS_le HL.out HM.out i
      have HTS := hidden hTS
      clear HT hg hsz hTS
      go_wp2_with fail
      go_loopw [15] (fun c wr => ∃ j : Nat, j ≤ 5 ∧ c = .int .i64 (j : Int) ∧ TI w L M wr P ∧ NB .u64 wr g 67 [(o + tmS L M i j) / 18446744073709551616, (o + tmS L M i j) % 18446744073709551616]) (fun c _ => 5 - (intOf c).toNat)
      case atStart => exact ⟨0, by omega, rfl, HTA.out, HNA.out⟩
      case round =>
        clear HTA HNA
        obtain ⟨j, hj, rfl, ht, hn⟩ := hrel
        have HT := hidden ht
        have HN := hidden hn
        clear ht hn
        by_cases hltj : j < 5
        · have hltj' : (j : Int) < 5 := by omega
          have hb1 := HTS.out j (by omega)
          have hb2 := tm_le HL.out HM.out i j
          have hx := HL.out j
          have HS : Hid (o + tmS L M i (j + 1) = o + tmS L M i j + tm L M i j) := (Nat.add_assoc _ _ _).symm
          obtain ⟨s, hs⟩ : ∃ s, s = o + tmS L M i j := ⟨_, rfl⟩
          rw [← hs] at HN HS
          have hsb : s ≤ 600000000000000000000000000000000 := by omega
          have hcx := HT.out.n.cell j (by omega)
          by_cases hle : j ≤ i
          · have hle' : (j : Int) ≤ (i : Int) := by omega
            obtain ⟨d, hd⟩ : ∃ d, d = i - j := ⟨_, rfl⟩
            have hd2 : (i : Int) - (j : Int) = (d : Int) := by omega
            have hd5 : (d : Int) < 5 := by omega
            have hwd : IntKind.i64.wrap (d : Int) = (d : Int) := by rw [IntKind.wrap_i64]; omega
            have hy := HM.out d
            have hcy := HT.out.m.cell d (by omega)
            have HTM : Hid (tm L M i j = L.getD j 0 * M.getD d 0) := by show tm _ _ _ _ = _; unfold tm; rw [if_pos hle, hd]
            rw [HTM.out] at hb2 HS
            have HC := hidden (addProduct_c g s (L.getD j 0) (M.getD d 0) (by omega) (by omega) (by omega) wr.drew HN.out)
            generalize L.getD j 0 = x at hcx hx HC HS HTM
            generalize M.getD d 0 = y at hcy hy HC HS HTM
            clear hd hb1 hb2 hs HTM hle HN
            go_wp2_with fail
            go_region_with (go_at_call 35; refine HC.out.mono ?_; rintro e w5 ⟨rfl, hn5, hk5⟩)
            all_goals
              go_wp2
              go_roundw
              case rel =>
                refine ⟨j + 1, by omega, by go_num, ?_, ?_⟩
                · exact HT.out.keep (S := fun k => k = g) (by omega) (Keeps.trans (b := wr.drew) (Keeps.refl _ wr).drew hk5) (HT.out.p.keep (Keeps.trans (b := wr.drew) (Keeps.refl (fun k => k = g) wr).drew hk5) (by omega))
                · rw [HS.out]; exact hn5
              case measure => simp [intOf]; omega
          · have hle' : ¬ (j : Int) ≤ (i : Int) := by omega
            obtain ⟨d, hd⟩ : ∃ d, d = i + 5 - j := ⟨_, rfl⟩
            have hd2 : (i : Int) + 5 - (j : Int) = (d : Int) := by omega
            have hd5 : (d : Int) < 5 := by omega
            have hwd : IntKind.i64.wrap (d : Int) = (d : Int) := by rw [IntKind.wrap_i64]; omega
            have hwi : IntKind.i64.wrap ((i : Int) + 5) = (i : Int) + 5 := by rw [IntKind.wrap_i64]; omega
            have hy := HM.out d
            have hcy := HT.out.m.cell d (by omega)
            have HTM : Hid (tm L M i j = L.getD j 0 * (19 * M.getD d 0)) := by show tm _ _ _ _ = _; unfold tm; rw [if_neg hle, hd]
            rw [HTM.out] at hb2 HS
            obtain ⟨z, hz⟩ : ∃ z, z = 19 * M.getD d 0 := ⟨_, rfl⟩
            rw [← hz] at hb2 HS HTM
            have hz2 : 19 * ((M.getD d 0 : Nat) : Int) = (z : Int) := by omega
            have hzw := m64w z (by omega)
            have HC := hidden (addProduct_c g s (L.getD j 0) z (by omega) (by omega) (by omega) wr.drew HN.out)
            generalize L.getD j 0 = x at hcx hx HC HS HTM
            generalize M.getD d 0 = y at hcy hy hz2
            clear hd hb1 hb2 hs HTM hle HN hz
            go_wp2_with fail
            go_region_with (go_at_call 35; refine HC.out.mono ?_; rintro e w5 ⟨rfl, hn5, hk5⟩)
            all_goals
              go_wp2
              go_roundw
              case rel =>
                refine ⟨j + 1, by omega, by go_num, ?_, ?_⟩
                · exact HT.out.keep (S := fun k => k = g) (by omega) (Keeps.trans (b := wr.drew) (Keeps.refl _ wr).drew hk5) (HT.out.p.keep (Keeps.trans (b := wr.drew) (Keeps.refl (fun k => k = g) wr).drew hk5) (by omega))
                · rw [HS.out]; exact hn5
              case measure => simp [intOf]; omega
        · have hltj' : ¬ (j : Int) < 5 := by omega
          obtain rfl : j = 5 := by omega
          have hb1 := HTS.out 5 (by omega)
          obtain ⟨s, hs⟩ : ∃ s, s = o + tmS L M i 5 := ⟨_, rfl⟩
          rw [← hs] at HN HP1
          have hsb : s ≤ 600000000000000000000000000000000 := by omega
          have hc0 := HN.out.cell 0 (by simp)
          have hc1 := HN.out.cell 1 (by simp)
          rw [show [s / 18446744073709551616, s % 18446744073709551616].getD 0 0 = s / 18446744073709551616 from rfl] at hc0
          rw [show [s / 18446744073709551616, s % 18446744073709551616].getD 1 0 = s % 18446744073709551616 from rfl] at hc1
          have hf := HT.out.p.frozen i
          have hcp := HT.out.p.cell i (by omega)
          have hand := mask51 (s % 18446744073709551616) (by omega)
          have hor := shift_join s (by omega)
          have hdv : ((s % 18446744073709551616 : Nat) : Int) / 2251799813685248 = ((s % 18446744073709551616 / 2251799813685248 : Nat) : Int) := by omega
          have hml : ((s / 18446744073709551616 : Nat) : Int) * 8192 = ((s / 18446744073709551616 * 8192 : Nat) : Int) := by omega
          have hmw := m64w (s / 18446744073709551616 * 8192) (by omega)
          rw [show s % 18446744073709551616 % 2251799813685248 = s % 2251799813685248 by omega] at hand
          have hp4 : ∀ v, (wr.setCell ⟨w.heap.size + 3, i, none⟩ v).cell? ⟨g, 0, none⟩ = wr.cell? ⟨g, 0, none⟩ := fun v => World.cell?_setCell_other _ _ _ _ (by intro e; cases e; omega)
          have hp5 : ∀ v, (wr.setCell ⟨w.heap.size + 3, i, none⟩ v).cell? ⟨g, 1, none⟩ = wr.cell? ⟨g, 1, none⟩ := fun v => World.cell?_setCell_other _ _ _ _ (by intro e; cases e; omega)
          generalize P.getD i 0 = pi at hcp
          generalize s % 18446744073709551616 / 2251799813685248 = lo at hor hdv
          generalize s / 18446744073709551616 * 8192 = hi8 at hor hml hmw
          generalize s % 18446744073709551616 = sl at hc1 hand hdv
          generalize s / 18446744073709551616 = sh at hc0 hml
          have HSet := hidden (HT.out.set i (s % 2251799813685248))
          generalize s % 2251799813685248 = sm at hand HSet HP1
          generalize s / 2251799813685248 = sd at hor HP1
          clear hb1 hs hsb HN HT
          go_wp2
          go_roundw
          case rel => 
            refine ⟨i + 1, by omega, by go_num, ?_, ?_⟩
            · rw [HP1.out]
            · rw [HP1.out]; exact HSet.out
          case measure => simp [intOf]; omega
    · have hlt' : ¬ (i : Int) < 5 := by omega
      obtain rfl : i = 5 := by omega
      obtain ⟨f1, f2, f3, f4, f5, f6⟩ := HF.out
      have hPl := prL_length L M 5
      have hdg := prL_digit L M 0
      have HPR : Hid (preL L M = (prL L M 5).1.set 0 ((prL L M 5).1.getD 0 0 + 19 * (prL L M 5).2)) := rfl
      obtain ⟨o, ho⟩ : ∃ o, o = (prL L M 5).2 := ⟨_, rfl⟩
      obtain ⟨P, hP⟩ : ∃ P, P = (prL L M 5).1 := ⟨_, rfl⟩
      rw [← ho] at f5 HPR ⊢
      rw [← hP] at HT hPl hdg HPR
      have hcp := HT.out.p.cell 0 (by omega)
      have hf := HT.out.p.frozen 0
      obtain ⟨z, hz⟩ : ∃ z, z = 19 * o := ⟨_, rfl⟩
      obtain ⟨s, hs⟩ : ∃ s, s = P.getD 0 0 + z := ⟨_, rfl⟩
      rw [← hz, ← hs] at HPR
      have hz2 : 19 * (o : Int) = (z : Int) := by omega
      have hzw := m64w z (by omega)
      have hs2 : ((P.getD 0 0 : Nat) : Int) + (z : Int) = (s : Int) := by omega
      have hsw := m64w s (by omega)
      generalize P.getD 0 0 = p0 at hcp hs2
      have HSet := hidden (HT.out.set 0 s)
      have HPe : Hid (P.set 0 s = preL L M) := HPR.out.symm
      rw [HPe.out] at HSet
      have HF1 := hidden f1
      have HF2 := hidden f2
      have HF3 := hidden f3
      have HF4 := hidden f4
      clear HF f1 f2 f3 f4 f6 hdg ho hP hz hs HPR HT HPe
      go_upto_region 18 with fail
      generalize wr.setCell ⟨w.heap.size + 3, 0, none⟩ (.int .u64 (s : Int)) = w4 at HSet ⊢
      have HC := hidden (foldTop_c (w.heap.size + 3) (preL L M) HF2.out HF1.out HF3.out HF4.out w4 HSet.out.p)
      have hF5 : (foldL (preL L M)).length = 5 := by rw [foldL_length]; exact HF2.out
      clear HF1 HF2 HF3 HF4
      go_wp2_with fail
      refine HC.out.mono ?_
      rintro e w5 ⟨rfl, hp5, hk5⟩
      have H5 := hidden (HSet.out.keep (S := fun k => k = w.heap.size + 3) (by omega) hk5 hp5)
      clear hp5 hk5 HC HSet
      obtain ⟨hsz, hone, hdd⟩ := row_facts (foldL (preL L M)) hF5
      have HPP : Hid (w5.heap[w.heap.size + 3]? = some (.cells (ncells .u64 (foldL (preL L M))).toArray 40 (0, 0))) := H5.out.p
      have HRR : Hid (w5.heap[w.heap.size + 2]? = some (.cells (ncells .u64 [0, 0, 0, 0, 0]).toArray 40 (0, 0))) := H5.out.r
      have HB5 := hidden H5.out.b
      obtain ⟨R, hR⟩ : ∃ R, R = (ncells .u64 (foldL (preL L M))).toArray := ⟨_, rfl⟩
      rw [← hR] at hsz hone hdd HPP
      have HRE := hidden hR
      have HSZ := hidden hsz
      have HON := hidden hone
      have HD := hidden hdd
      have HR1 : Hid ((w5.setRow (w.heap.size + 2) R).heap[w.heap.size + 2]? = some (.cells R 40 (0, 0))) := setRow_heap w5 (w.heap.size + 2) _ _ _ _ HRR.out
      have HL1 : Hid (Below w.heap.size w (w5.setRow (w.heap.size + 2) R)) := below_setRow HB5.out (by omega) _
      clear hsz hone hdd H5 hR
      go_wp2_with (first
        | (refine wpList_loadRow rfl 40 (.tmp 5) rfl (w.heap.size + 3) R 40 (0, 0) 5 38 rfl HPP.out Tryd.underlying40 HSZ.out ?_)
        | (refine wpList_store_row rfl 40 (.tmp 4) (.tmp 62) rfl (w.heap.size + 2) R rfl rfl 40 _ HRR.out HSZ.out HD.out HON.out ?_))
      (try simp only [Exit.inBlock, Exit.then])
      refine bodyPost_ret (results_cell1 rfl _ _ _ (w.heap.size + 2) R 40 (0, 0) 5 38 rfl HR1.out Tryd.underlying40 HSZ.out) rfl ?_
      exact ⟨by rw [HRE.out]; rfl, HL1.out⟩
theorem times_c {L M : List Nat} {a b : Nat} (h : Tm L a) (k : Tm M b) (w : World) :
    Calls Tryd.prog 29 #[.agg (ncells .u64 L).toArray, .agg (ncells .u64 M).toArray] w fun e w' => ∃ R, e = .returned (.agg (ncells .u64 R).toArray) ∧ Tm R (a * b % pC) ∧ Below w.heap.size w w' :=
  (times_l L M a b h k w).mono fun _ _ ⟨h1, h2⟩ => ⟨_, h1, (times_tm h k).2.2.2.2.2, h2⟩
end Go.Proofs.YtdgapijgdbhlfaaDoor
