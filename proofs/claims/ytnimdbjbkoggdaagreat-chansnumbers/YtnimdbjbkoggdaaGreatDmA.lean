/- The document's channels: its numbers, its Split. -/
import Derived.Test.YtnimdbjbkoggdaaGreatCnU
import Derived.Deep.RegionLaw
namespace Go.Proofs.YtnimdbjbkoggdaaGreat
open Go Go.RowKit

set_option maxHeartbeats 400000 in
theorem rof_g (a b : Nat) (w : World) : Calls Tryz.prog 64 #[.int .i64 (a : Int), .int .i64 (b : Int)] w fun e w' => e = .returned (.complex .f64 (nb a) (nb (min b 32768))) ∧ w' = w := by
  by_cases hb : b ≤ 32768
  · rw [Nat.min_eq_left hb]
    exact rof_c a b hb w
  · rw [Nat.min_eq_right (by omega)]
    have h1 : (32768 : Int) < (b : Int) := by omega
    rw [← of_nat a, ← of_nat 32768]
    go_enter Tryz.func64, Tryz.ntmps64
    go_wp2
    go_ret
    exact ⟨rfl, rfl⟩

set_option maxHeartbeats 800000 in
set_option maxRecDepth 100000 in
theorem uq_c (k : Nat) (v : Value) (ns : List Nat) (w : World) (hv : NSl w v ns) (hn : ∀ j (hj : j < ns.length), ns[j] ≤ 4294967295) (h0 : 0 < ns.length) (hl : ns.length ≤ 10) :
    Calls Tryz.prog 31 #[.int .i64 k, v] w fun e w' => Gave w (numL (byteOf k) ns) e w' := by
  obtain ⟨b, rfl, _⟩ := id hv
  have HV := hidden hv
  have HN := hidden hn
  clear hv hn
  have HB0 : Hid (BSl (w.alloc (.cells #[.int .u8 ((k : Int) % 256)] 5)) (.slice (some ⟨w.heap.size, 0, none⟩) 1 1) [byteOf k]) := hidden (by
    refine BSl.ofBlock (t := 5) (xs := [byteOf k]) (g := w.heap.size) ?_ (by simp)
    rw [heap_alloc_new]
    simp [bcells, byteOf_nat])
  obtain ⟨R, hR⟩ : ∃ R, R = numL (byteOf k) ns := ⟨_, rfl⟩
  rw [← hR]
  have HR := hidden hR
  clear hR
  have hw8 : IntKind.u8.wrap (k : Int) = (k : Int) % 256 := rfl
  go_enter Tryz.func31, Tryz.ntmps31
  go_wp2_with fail
  have HB1 : Hid (Below w.heap.size w (w.alloc (.cells #[.int .u8 ((k : Int) % 256)] 5))) := hidden ((Below.refl _ w).alloc (Nat.le_refl _) _)
  generalize w.alloc (.cells #[.int .u8 ((k : Int) % 256)] 5) = w1 at *
  go_loopw [5, 6] (fun vb t wr => ∃ (j : Nat), j ≤ ns.length ∧ t = .int .i64 (j : Int) ∧ BSl wr vb (numL (byteOf k) (ns.take j)) ∧ (0 < j → wr.ownsRow w.heap.size 5 1 vb (numL (byteOf k) (ns.take j)).length (bcells (numL (byteOf k) (ns.take j)))) ∧ Below w.heap.size w wr) (fun _ t _ => ns.length - (intOf t).toNat)
  case atStart => exact ⟨0, by omega, rfl, HB0.out, fun h => absurd h (by omega), HB1.out⟩
  case round =>
    obtain ⟨j, hj, rfl, hb, ho, hbl⟩ := hrel
    have HB := hidden hb
    have HO := hidden ho
    have HBL := hidden hbl
    obtain ⟨ba, bc, rfl⟩ := hb.len
    clear hb ho hbl HB0 HB1
    by_cases hlt : j < ns.length
    · have i1 : (j : Int) < (ns.length : Int) := by omega
      have k1 := (HV.out.fresh HBL.out).cell j hlt
      have hn := HN.out j hlt
      have HE : Hid (numL (byteOf k) (ns.take j) ++ be 4 ns[j] = numL (byteOf k) (ns.take (j + 1))) := hidden (by rw [List.take_succ_eq_append_getElem hlt, numL, numL, numsL_app]; simp only [numsL, List.cons_append, List.append_nil])
      have HZ : Hid ((numL (byteOf k) (ns.take j)).length ≤ 100) := hidden (by rw [numL_len, List.length_take]; omega)
      generalize ns[j] = n at k1 hn HE
      generalize numL (byteOf k) (ns.take j) = L at *
      generalize hLl : L.length = ll at *
      have HLl := hidden hLl
      clear hLl
      go_wp2_with fail
      refine (ru32_c n (by omega) (by omega) _ L _ HB.out (by have := HZ.out; have := HLl.out; omega)).mono ?_
      rintro e w3 ⟨v3, rfl, ho3, hb3⟩
      rw [Int.toNat_natCast, HE.out] at ho3
      have HB3 := hidden (BSl.ofRow ho3)
      have HO3 := hidden (ownsRow_mono ho3 HBL.out.size)
      have HBL3 := hidden (HBL.out.trans (hb3.mono HBL.out.size))
      clear ho3 hb3 HB HO HBL k1 HE
      go_wp2_with fail
      go_roundw
      case rel => exact ⟨j + 1, by omega, by go_num, HB3.out, fun _ => HO3.out, HBL3.out⟩
      case measure => simp [intOf]; omega
    · have i1 : ¬ (j : Int) < (ns.length : Int) := by omega
      have HE : Hid (numL (byteOf k) (ns.take j) = R) := hidden (by rw [List.take_of_length_le (by omega), HR.out])
      have HG : Hid (Gave w R (.returned (.slice ba (numL (byteOf k) (ns.take j)).length bc)) wr) := hidden ⟨_, rfl, by have := HO.out (by omega); rw [← HE.out]; exact this, HBL.out⟩
      clear HB HO HBL
      generalize (numL (byteOf k) (ns.take j)).length = ll at *
      go_wp2_with fail
      go_ret
      exact HG.out

/-- The slice v reads as the numbers L, in memory from B on. -/
def JSl (B : Nat) (w : World) (v : Value) (L : List Nat) : Prop := w.ownsRow B 2 1 v L.length (icells L)
theorem JSl.shape {B : Nat} {w : World} {v : Value} {L : List Nat} (h : JSl B w v L) : ∃ sa c, v = .slice sa L.length c := ownsRow_shape h
theorem JSl.cell {B : Nat} {w : World} {sa : Option Addr} {n m : Nat} {L : List Nat} (h : JSl B w (.slice sa n m) L) (j : Nat) (hj : j < L.length) : ∃ g, sa = some ⟨g, 0, none⟩ ∧ w.cell? ⟨g, j, none⟩ = some (.int .i64 (L.getD j 0 : Nat)) := by
  rcases h.2 with ⟨e, h1⟩ | ⟨g, cap, cur, e, _, h2, _, _, _, h6⟩
  · simp at h1
    subst h1
    simp at hj
  · cases e
    refine ⟨g, rfl, ?_⟩
    rw [cell_row (cs := cur.toList) (by simpa using h2)]
    have h7 := congrArg (fun l => l[j]?) h6
    simp only [List.getElem?_take, Nat.mul_one] at h7
    rw [if_pos hj] at h7
    rw [h7]
    simp [icells, hj]
theorem JSl.keep {S : Nat → Prop} {B : Nat} {w w' : World} {v : Value} {L : List Nat} (h : JSl B w v L) (hk : Keeps S w w') (hn : ∀ k, v.ownBlock = some k → ¬ S k) : JSl B w' v L := hk.row h hn

theorem pcs_mid (k b c i : Nat) (hb : 1 ≤ b) (hc : c = (k + b - 1) / b) (hi : i < c) : i * b < k ∧ min (k - i * b) b = min b (k - i * b) ∧ (i + 1 < c → (i + 1) * b < k) := by
  subst hc
  exact ⟨below_n _ _ _ hb hi, Nat.min_comm _ _, fun h => below_n _ _ _ hb h⟩
theorem icells_snoc (L : List Nat) (x : Nat) : icells (L ++ [x]) = icells L ++ [.int .i64 (x : Int)] := by simp [icells]
theorem srcI64 {W : World} {B : Nat} {x : Nat} (hb : W.heap[B]? = some (.cells #[.int .i64 (x : Int)] 2 (0, 0))) : Src Tryz.prog 1 100 (.slice (some ⟨B, 0, none⟩) 1 1) 1 [.int .i64 (x : Int)] W :=
  Src.ofSlice _ Tryz.underlying100 ⟨B, 0, none⟩ _ _ _ rfl (World.news_of_block (t := 2) (fr := (0, 0)) hb) (by simp [Value.oneCell'])

set_option maxHeartbeats 1600000 in
set_option maxRecDepth 100000 in
/-- The document's Split. -/
theorem rsplit_c {a b : Nat} (ha : a ≤ 4294967295) (h1 : 1 ≤ b) (h2 : b ≤ 32768) (n k c : Nat) (hnm : n ≤ 1000000) (hk : k = min n a) (hc : c = (k + b - 1) / b) (w : World) :
    Calls Tryz.prog 50 #[.complex .f64 (nb a) (nb b), .int .i64 (n : Int)] w fun e w' => ∃ v, e = .returned (.tuple #[v, .complex .f64 (nb (a - k)) (nb b)]) ∧ JSl w.heap.size w' v (pcs k b c) ∧ Below w.heap.size w w' := by
  obtain ⟨i0, hi, hz0, hz1, hz2⟩ := info_parts Tryz.infoI64
  have HW := hidden (Win.mk' a b ha h1 h2)
  have HR := hidden (fun w' => rright_w HW.out w')
  have HL := hidden (fun w' => rleft_w HW.out w')
  have HM := hidden (fun w' => rmost_w HW.out w')
  have HO := hidden (fun w' => rof_c (a - k) b h2 w')
  have HC := hidden hc
  have HK := hidden hk
  have HJ : Hid (∀ j, j < c → j * b < k) := hidden fun j hj => below_n _ _ _ h1 (hc ▸ hj)
  have HEND : Hid (k ≤ c * b) := hidden (hc ▸ end_n _ _ h1)
  have hck : c ≤ k := hc ▸ nOf_le _ _ h1
  have hkn : k ≤ 1000000 := by omega
  clear hc hk
  clear HW
  generalize nb a = x1 at *
  generalize nb b = x2 at *
  generalize nb (a - k) = x3 at *
  go_enter Tryz.func50, Tryz.ntmps50
  go_wp2_with fail
  refine (HR.out _).mono ?_
  rintro e w1 ⟨rfl, rfl⟩
  go_wp2_with fail
  refine (HL.out _).mono ?_
  rintro e w2 ⟨rfl, rfl⟩
  go_wp2_with fail
  go_loopw [1, 6, 7, 8] (fun tn tl tv _ wr => ∃ (j q : Nat), j ≤ c ∧ q = min (j * b) k ∧ tn = .int .i64 ((n - q : Nat) : Int) ∧ tl = .int .i64 ((a - q : Nat) : Int) ∧ JSl w2.heap.size wr tv (pcs k b j) ∧ Below w2.heap.size w2 wr) (fun tn _ _ _ _ => (intOf tn).toNat)
  case atStart => exact ⟨0, 0, by omega, by omega, by simp, by simp, World.ownsRow_nil _ _ _ _, Below.refl _ _⟩
  case round =>
    obtain ⟨j, q, hj, hq, rfl, rfl, hs, hb⟩ := hrel
    have HS := hidden hs
    have HB := hidden hb
    obtain ⟨sa, sc, rfl⟩ := hs.shape
    clear hs hb
    rw [pcs_length]
    have hkk := HK.out
    by_cases hlt : j < c
    · have hjk := HJ.out j hlt
      have hq1 : q = j * b := by omega
      obtain ⟨m, hm⟩ : ∃ m, m = min (k - j * b) b := ⟨_, rfl⟩
      have HQ2 : Hid (q + m = min ((j + 1) * b) k) := hidden (by rw [hq1, Nat.add_mul]; omega)
      have hm1 : 1 ≤ m := by omega
      have hmb : m ≤ b := by omega
      have hmn : m ≤ n - q := by omega
      have hma : m ≤ a - q := by omega
      have hmm : m = b ∨ m = n - q ∨ m = a - q := by omega
      have HE : Hid (pcs k b (j + 1) = pcs k b j ++ [m]) := hidden (by rw [pcs_succ, hm])
      have HE2 : Hid (n - q - m = n - (q + m) ∧ a - q - m = a - (q + m)) := hidden ⟨by omega, by omega⟩
      obtain ⟨nn, hnn⟩ : ∃ nn, nn = n - q := ⟨_, rfl⟩
      obtain ⟨aa, haa⟩ : ∃ aa, aa = a - q := ⟨_, rfl⟩
      have hnn2 : nn ≤ 1000000 := by omega
      have haa2 : aa ≤ 4294967295 := by omega
      rw [← hnn] at hmn hmm HE2 ⊢
      rw [← haa] at hma hmm HE2 ⊢
      have HQ := hidden hq
      clear hq hq1 hm hnn haa hkk hjk
      have t1 : (0 : Int) < (nn : Int) := by omega
      have t2 : (0 : Int) < (aa : Int) := by omega
      have HP0 : Hid (wr.ownsRow w2.heap.size 2 1 (.slice sa j sc) j (icells (pcs k b j))) := hidden (by have := HS.out; unfold JSl at this; rw [pcs_length] at this; exact this)
      have hmx : (m = b ∧ b ≤ nn ∧ b ≤ aa) ∨ (m = nn ∧ nn < b ∧ nn ≤ aa) ∨ (m = aa ∧ nn < b ∧ aa < nn) ∨ (m = aa ∧ b ≤ nn ∧ aa < b) := by omega
      clear hmm
      rcases hmx with ⟨e, e1, e2⟩ | ⟨e, e1, e2⟩ | ⟨e, e1, e2⟩ | ⟨e, e1, e2⟩
      · have g1 : ¬ (nn : Int) < (b : Int) := by omega
        have g2 : ¬ (aa : Int) < (b : Int) := by omega
        have e3 := e.symm
        rw [e] at HQ2 HE HE2 hm1 hmb hmn hma
        clear e3 e e1 e2
        go_wp2_with fail
        refine (HM.out _).mono ?_
        rintro e w3 ⟨rfl, rfl⟩
        go_upto_region 11 with fail
        try generalize decide (nn < b) = d1
        try generalize decide (aa < b) = d2
        try generalize decide (aa < nn) = d3
        clear g1 g2
        go_wp2_with (at_builtin; refine wpList_append_src _ rfl (.tmp 31) (.tmp 33) 100 100 rfl w2.heap.size 2 i0 _ 8 Tryz.underlying100 hi hz0 hz1 hz2 rfl _ j (icells (pcs k b j)) rfl (HP0.out.alloc _) _ 1 _ rfl (srcI64 (heap_alloc_new _ _)) (by unfold maxLen; omega) (by omega) (by have := HB.out.size; simp; omega) (w3.heap.size + 1) (by simp) ?_)
        intro v5 w5 hown hgrow hnil hat
        have HB5 : Hid (Below w2.heap.size w2 w5) := hidden ((HB.out.alloc HB.out.size _).grown hgrow (by have := HB.out.size; simp; omega) (fun k hk => (HP0.out.lt k hk).1))
        have HS5 : Hid (JSl w2.heap.size w5 v5 (pcs k b (j + 1))) := hidden (by rw [HE.out]; unfold JSl; rw [icells_snoc, List.length_append, pcs_length]; exact hown)
        clear hown hgrow hnil hat
        go_wp2_with fail
        go_roundw
        case rel => exact ⟨j + 1, q + b, by omega, HQ2.out, by rw [← HE2.out.1]; go_num, by rw [← HE2.out.2]; go_num, HS5.out, HB5.out⟩
        case measure => simp [intOf]; omega
      · have g1 : (nn : Int) < (b : Int) := by omega
        have g2 : ¬ (aa : Int) < (nn : Int) := by omega
        have e3 := e.symm
        rw [e] at HQ2 HE HE2 hm1 hmb hmn hma
        clear e3 e e1 e2
        go_wp2_with fail
        refine (HM.out _).mono ?_
        rintro e w3 ⟨rfl, rfl⟩
        go_upto_region 11 with fail
        try generalize decide (nn < b) = d1
        try generalize decide (aa < b) = d2
        try generalize decide (aa < nn) = d3
        clear g1 g2
        go_wp2_with (at_builtin; refine wpList_append_src _ rfl (.tmp 31) (.tmp 33) 100 100 rfl w2.heap.size 2 i0 _ 8 Tryz.underlying100 hi hz0 hz1 hz2 rfl _ j (icells (pcs k b j)) rfl (HP0.out.alloc _) _ 1 _ rfl (srcI64 (heap_alloc_new _ _)) (by unfold maxLen; omega) (by omega) (by have := HB.out.size; simp; omega) (w3.heap.size + 1) (by simp) ?_)
        intro v5 w5 hown hgrow hnil hat
        have HB5 : Hid (Below w2.heap.size w2 w5) := hidden ((HB.out.alloc HB.out.size _).grown hgrow (by have := HB.out.size; simp; omega) (fun k hk => (HP0.out.lt k hk).1))
        have HS5 : Hid (JSl w2.heap.size w5 v5 (pcs k b (j + 1))) := hidden (by rw [HE.out]; unfold JSl; rw [icells_snoc, List.length_append, pcs_length]; exact hown)
        clear hown hgrow hnil hat
        go_wp2_with fail
        go_roundw
        case rel => exact ⟨j + 1, q + nn, by omega, HQ2.out, by rw [← HE2.out.1]; go_num, by rw [← HE2.out.2]; go_num, HS5.out, HB5.out⟩
        case measure => simp [intOf]; omega
      · have g1 : (nn : Int) < (b : Int) := by omega
        have g2 : (aa : Int) < (nn : Int) := by omega
        have e3 := e.symm
        rw [e] at HQ2 HE HE2 hm1 hmb hmn hma
        clear e3 e e1 e2
        go_wp2_with fail
        refine (HM.out _).mono ?_
        rintro e w3 ⟨rfl, rfl⟩
        go_upto_region 11 with fail
        try generalize decide (nn < b) = d1
        try generalize decide (aa < b) = d2
        try generalize decide (aa < nn) = d3
        clear g1 g2
        go_wp2_with (at_builtin; refine wpList_append_src _ rfl (.tmp 31) (.tmp 33) 100 100 rfl w2.heap.size 2 i0 _ 8 Tryz.underlying100 hi hz0 hz1 hz2 rfl _ j (icells (pcs k b j)) rfl (HP0.out.alloc _) _ 1 _ rfl (srcI64 (heap_alloc_new _ _)) (by unfold maxLen; omega) (by omega) (by have := HB.out.size; simp; omega) (w3.heap.size + 1) (by simp) ?_)
        intro v5 w5 hown hgrow hnil hat
        have HB5 : Hid (Below w2.heap.size w2 w5) := hidden ((HB.out.alloc HB.out.size _).grown hgrow (by have := HB.out.size; simp; omega) (fun k hk => (HP0.out.lt k hk).1))
        have HS5 : Hid (JSl w2.heap.size w5 v5 (pcs k b (j + 1))) := hidden (by rw [HE.out]; unfold JSl; rw [icells_snoc, List.length_append, pcs_length]; exact hown)
        clear hown hgrow hnil hat
        go_wp2_with fail
        go_roundw
        case rel => exact ⟨j + 1, q + aa, by omega, HQ2.out, by rw [← HE2.out.1]; go_num, by rw [← HE2.out.2]; go_num, HS5.out, HB5.out⟩
        case measure => simp [intOf]; omega
      · have g1 : ¬ (nn : Int) < (b : Int) := by omega
        have g2 : (aa : Int) < (b : Int) := by omega
        have e3 := e.symm
        rw [e] at HQ2 HE HE2 hm1 hmb hmn hma
        clear e3 e e1 e2
        go_wp2_with fail
        refine (HM.out _).mono ?_
        rintro e w3 ⟨rfl, rfl⟩
        go_upto_region 11 with fail
        try generalize decide (nn < b) = d1
        try generalize decide (aa < b) = d2
        try generalize decide (aa < nn) = d3
        clear g1 g2
        go_wp2_with (at_builtin; refine wpList_append_src _ rfl (.tmp 31) (.tmp 33) 100 100 rfl w2.heap.size 2 i0 _ 8 Tryz.underlying100 hi hz0 hz1 hz2 rfl _ j (icells (pcs k b j)) rfl (HP0.out.alloc _) _ 1 _ rfl (srcI64 (heap_alloc_new _ _)) (by unfold maxLen; omega) (by omega) (by have := HB.out.size; simp; omega) (w3.heap.size + 1) (by simp) ?_)
        intro v5 w5 hown hgrow hnil hat
        have HB5 : Hid (Below w2.heap.size w2 w5) := hidden ((HB.out.alloc HB.out.size _).grown hgrow (by have := HB.out.size; simp; omega) (fun k hk => (HP0.out.lt k hk).1))
        have HS5 : Hid (JSl w2.heap.size w5 v5 (pcs k b (j + 1))) := hidden (by rw [HE.out]; unfold JSl; rw [icells_snoc, List.length_append, pcs_length]; exact hown)
        clear hown hgrow hnil hat
        go_wp2_with fail
        go_roundw
        case rel => exact ⟨j + 1, q + aa, by omega, HQ2.out, by rw [← HE2.out.1]; go_num, by rw [← HE2.out.2]; go_num, HS5.out, HB5.out⟩
        case measure => simp [intOf]; omega
    · have hjc : j = c := by omega
      have hqk : q = k := by have := HEND.out; rw [hjc] at hq; omega
      have hz : n - q = 0 ∨ a - q = 0 := by omega
      subst hjc
      rw [hqk] at hz ⊢
      have HP : Hid (∃ v, Ending.returned (.tuple #[.slice sa j sc, .complex .f64 x3 x2]) = .returned (.tuple #[v, .complex .f64 x3 x2]) ∧ JSl w2.heap.size wr v (pcs k b j) ∧ Below w2.heap.size w2 wr) := hidden ⟨_, rfl, by have := HS.out; rw [pcs_length] at this; exact this, HB.out⟩
      clear HS HB hq hqk hkk
      generalize a - k = aa at *
      generalize n - k = nn at *
      rcases hz with e | e
      · have t1 : ¬ (0 : Int) < (nn : Int) := by omega
        clear e
        go_wp2_with fail
        refine (HM.out _).mono ?_
        rintro e w3 ⟨rfl, rfl⟩
        go_wp2_with fail
        refine (HO.out _).mono ?_
        rintro e w3 ⟨rfl, rfl⟩
        go_wp2_with fail
        go_ret2
        exact HP.out
      · have t2 : ¬ (0 : Int) < (aa : Int) := by omega
        clear e
        by_cases t1 : (0 : Int) < (nn : Int)
        all_goals
          go_wp2_with fail
          refine (HM.out _).mono ?_
          rintro e w3 ⟨rfl, rfl⟩
          go_wp2_with fail
          refine (HO.out _).mono ?_
          rintro e w3 ⟨rfl, rfl⟩
          go_wp2_with fail
          go_ret2
          exact HP.out

/-- The cells of a channel of the document's. -/
def qcells (oc : Option Ch) (v : Value) : List Value :=
  match oc with
  | none => [.bool false, .bool false, .bool false, .bool false, .int .u32 0, .complex .f64 0 0, .int .i64 0, .slice none 0 0]
  | some c => [.bool true, .bool c.od, .bool c.en, .bool c.cl, .int .u32 c.th, .complex .f64 (nb c.wl) (nb c.wm), .int .i64 c.ol, v]
theorem qcells_length (oc : Option Ch) (v : Value) : (qcells oc v).length = 8 := by cases oc <;> rfl
def qmc (cs : List (Option Ch)) (vs : List Value) (d : Bool) : List Value :=
  qcells (cs.getD 0 none) (vs.getD 0 undef) ++ (qcells (cs.getD 1 none) (vs.getD 1 undef) ++ (qcells (cs.getD 2 none) (vs.getD 2 undef) ++ (qcells (cs.getD 3 none) (vs.getD 3 undef) ++ [.bool d])))
theorem qmc_at (cs : List (Option Ch)) (vs : List Value) (d : Bool) (hc : cs.length = 4) (hv : vs.length = 4) (i : Nat) (hi : i < 4) :
    ∃ A Z, A.length = 8 * i ∧ qmc cs vs d = A ++ qcells (cs.getD i none) (vs.getD i undef) ++ Z ∧ ∀ oc v, qmc (cs.set i oc) (vs.set i v) d = A ++ qcells oc v ++ Z := by
  match cs, hc, vs, hv with
  | [c0, c1, c2, c3], _, [v0, v1, v2, v3], _ =>
    match i, hi with
    | 0, _ => exact ⟨[], qcells c1 v1 ++ (qcells c2 v2 ++ (qcells c3 v3 ++ [.bool d])), rfl, rfl, fun oc v => rfl⟩
    | 1, _ => exact ⟨qcells c0 v0, qcells c2 v2 ++ (qcells c3 v3 ++ [.bool d]), by rw [qcells_length], by simp [qmc], fun oc v => by simp [qmc]⟩
    | 2, _ => exact ⟨qcells c0 v0 ++ qcells c1 v1, qcells c3 v3 ++ [.bool d], by simp [qcells_length], by simp [qmc], fun oc v => by simp [qmc]⟩
    | 3, _ => exact ⟨qcells c0 v0 ++ (qcells c1 v1 ++ qcells c2 v2), [.bool d], by simp [qcells_length], by simp [qmc], fun oc v => by simp [qmc]⟩
theorem qmc_dead (cs : List (Option Ch)) (vs : List Value) : ∃ A, A.length = 32 ∧ ∀ d', qmc cs vs d' = A ++ [.bool d'] :=
  ⟨qcells (cs.getD 0 none) (vs.getD 0 undef) ++ (qcells (cs.getD 1 none) (vs.getD 1 undef) ++ (qcells (cs.getD 2 none) (vs.getD 2 undef) ++ qcells (cs.getD 3 none) (vs.getD 3 undef))), by simp [qcells_length], fun d' => by simp [qmc]⟩

/-- The document's Mux at block a; what waits lies in blocks of P. -/
structure QX (w : World) (P : Nat → Prop) (a : Nat) (S : MS) : Prop where
  ex : ∃ vs : List Value, vs.length = 4 ∧ w.heap[a]? = some (.cells (qmc S.cs vs S.dead).toArray 36 (0, 0)) ∧
    (∀ i c, S.cs.getD i none = some c → Held w (vs.getD i undef) c.wt) ∧ (∀ i k, i < 4 → (vs.getD i undef).ownBlock = some k → P k)
  na : ¬ P a
  lt : ∀ k, P k → k < w.heap.size
theorem QX.aLt {w : World} {P : Nat → Prop} {a : Nat} {S : MS} (h : QX w P a S) : a < w.heap.size := by
  obtain ⟨vs, _, h1, _⟩ := h.ex
  exact lt_of_block h1
theorem QX.keep {T : Nat → Prop} {w w' : World} {P : Nat → Prop} {a : Nat} {S : MS} (h : QX w P a S) (hk : Keeps T w w') (ha : ¬ T a) (hT : ∀ k, P k → ¬ T k) : QX w' P a S := by
  have hlt := h.aLt
  obtain ⟨⟨vs, h0, h1, h2, h3⟩, h5, h6⟩ := h
  refine ⟨⟨vs, h0, (hk.block a hlt ha).trans h1, fun i c e => ?_, h3⟩, h5, fun k e => Nat.lt_of_lt_of_le (h6 k e) hk.size⟩
  by_cases hi : i < 4
  · exact (h2 i c e).keep hk (fun k hk => hT k (h3 i k hi hk))
  · have : vs.getD i undef = undef := by simp [List.getD_eq_getElem?_getD, List.getElem?_eq_none (show vs.length ≤ i by omega)]
    have hh := h2 i c e
    rw [this] at hh ⊢
    exact hh.keep hk (fun k hk => by simp [Value.ownBlock, undef] at hk)
theorem QX.still {w w' : World} {P : Nat → Prop} {a : Nat} {S : MS} (h : QX w P a S) (hk : Keeps (fun _ => False) w w') : QX w' P a S := h.keep hk (fun h => h) (fun _ _ h => h)
theorem QX.fresh {w w' : World} {P : Nat → Prop} {a : Nat} {S : MS} (h : QX w P a S) (hb : Below w.heap.size w w') : QX w' P a S := h.still (Keeps.ofFresh hb)
/-- One channel of the document's Mux: its cells, and how the Mux is put together again. -/
theorem QX.at {w : World} {P : Nat → Prop} {a : Nat} {S : MS} (h : QX w P a S) (hS : S.cs.length = 4) (i : Nat) (hi : i < 4) :
    ∃ v A Z, w.heap[a]? = some (.cells (A ++ qcells (S.cs.getD i none) v ++ Z).toArray 36 (0, 0)) ∧ A.length = i * 8 ∧ (∀ c, S.cs.getD i none = some c → Held w v c.wt) ∧ (∀ k, v.ownBlock = some k → P k) ∧
      ∀ (w' : World) (T P' : Nat → Prop) (oc : Option Ch) (v' : Value), w'.heap[a]? = some (.cells (A ++ qcells oc v' ++ Z).toArray 36 (0, 0)) → (∀ c, oc = some c → Held w' v' c.wt) → Keeps T w w' → (∀ k, P k → ¬ T k) → (∀ k, P k → P' k) → (∀ k, v'.ownBlock = some k → P' k) → ¬ P' a → (∀ k, P' k → k < w'.heap.size) → QX w' P' a ⟨S.cs.set i oc, S.dead⟩ := by
  obtain ⟨⟨vs, h0, h1, h2, h3⟩, h5, h6⟩ := h
  obtain ⟨A, Z, e1, e2, e3⟩ := qmc_at S.cs vs S.dead hS h0 i hi
  refine ⟨vs.getD i undef, A, Z, by rw [← e2]; exact h1, by omega, fun c e => h2 i c e, fun k e => h3 i k hi e, fun w' T P' oc v' g1 g2 g4 g5 g6 g7 g8 g9 => ?_⟩
  have key : ∀ j, (vs.set i v').getD j undef = if i = j then v' else vs.getD j undef := fun j => by
    rw [getD_set]
    by_cases hj : i = j
    · rw [if_pos ⟨hj, by omega⟩, if_pos hj]
    · rw [if_neg (fun h => hj h.1), if_neg hj]
  refine ⟨⟨vs.set i v', by simp [h0], by rw [e3]; exact g1, fun j c e => ?_, fun j k hj e => ?_⟩, g8, g9⟩
  · rw [key]
    dsimp only at e
    rw [getD_set] at e
    by_cases hj : i = j
    · rw [if_pos ⟨hj, by omega⟩] at e
      rw [if_pos hj]
      exact g2 c e
    · rw [if_neg (fun h => hj h.1)] at e
      rw [if_neg hj]
      by_cases hj4 : j < 4
      · exact (h2 j c e).keep g4 (fun k e2 => g5 k (h3 j k hj4 e2))
      · have : S.cs.getD j none = none := by simp [List.getD_eq_getElem?_getD, List.getElem?_eq_none (show S.cs.length ≤ j by omega)]
        rw [this] at e
        cases e
  · rw [key] at e
    by_cases hj' : i = j
    · rw [if_pos hj'] at e
      exact g7 k e
    · rw [if_neg hj'] at e
      exact g6 k (h3 j k hj e)
theorem QX.openCell {w : World} {P : Nat → Prop} {a : Nat} {S : MS} (h : QX w P a S) (hS : S.cs.length = 4) (i : Nat) (hi : i < 4) : w.cell? ⟨a, i * 8, none⟩ = some (.bool (chAt S i).isSome) := by
  obtain ⟨v, A, Z, h1, h2, _⟩ := h.at hS i hi
  have := cell_mid h1 0 (by rw [qcells_length]; omega)
  rw [h2] at this
  rw [show i * 8 = i * 8 + 0 from rfl, this]
  unfold chAt
  cases S.cs.getD i none <;> rfl
theorem QX.waitCell {w : World} {P : Nat → Prop} {a : Nat} {S : MS} (h : QX w P a S) (hS : S.cs.length = 4) (i : Nat) (hi : i < 4) : ∃ ao cap, w.cell? ⟨a, i * 8 + 7, none⟩ = some (.slice ao (match chAt S i with | none => 0 | some c => c.wt.length) cap) := by
  obtain ⟨v, A, Z, h1, h2, h3, _⟩ := h.at hS i hi
  have := cell_mid h1 7 (by rw [qcells_length]; omega)
  rw [h2] at this
  rw [this]
  unfold chAt
  cases hc : S.cs.getD i none with
  | none => exact ⟨none, 0, rfl⟩
  | some c =>
    obtain ⟨ao, cap, rfl⟩ := (h3 c hc).len
    exact ⟨ao, cap, rfl⟩
theorem QX.closedCell {w : World} {P : Nat → Prop} {a : Nat} {S : MS} (h : QX w P a S) (hS : S.cs.length = 4) (i : Nat) (hi : i < 4) : w.cell? ⟨a, i * 8 + 3, none⟩ = some (.bool (match chAt S i with | none => false | some c => c.cl)) := by
  obtain ⟨v, A, Z, h1, h2, h3, _⟩ := h.at hS i hi
  have := cell_mid h1 3 (by rw [qcells_length]; omega)
  rw [h2] at this
  rw [this]
  unfold chAt
  cases S.cs.getD i none <;> rfl
theorem QX.deadCell {w : World} {P : Nat → Prop} {a : Nat} {S : MS} (h : QX w P a S) : w.cell? ⟨a, 32, none⟩ = some (.bool S.dead) ∧ ∀ j, w.frozen? ⟨a, j, none⟩ = false := by
  obtain ⟨vs, h0, h1, _⟩ := h.ex
  obtain ⟨A, e1, e2⟩ := qmc_dead S.cs vs
  rw [e2] at h1
  refine ⟨?_, fun j => frozen_row h1 j⟩
  have h2 : w.heap[a]? = some (.cells (A ++ [Value.bool S.dead] ++ []).toArray 36 (0, 0)) := by rw [List.append_nil]; exact h1
  have := cell_mid h2 0 (by simp)
  rw [e1] at this
  exact this
theorem QX.dies {w : World} {P : Nat → Prop} {a : Nat} {S : MS} (h : QX w P a S) (d : Bool) : QX (w.setCell ⟨a, 32, none⟩ (.bool d)) P a ⟨S.cs, d⟩ := by
  have hk := keepsSet w a 32 (.bool d)
  obtain ⟨⟨vs, h0, h1, h2, h3⟩, h5, h6⟩ := h
  obtain ⟨A, e1, e2⟩ := qmc_dead S.cs vs
  rw [e2] at h1
  have h7 : w.heap[a]? = some (.cells (A ++ [Value.bool S.dead] ++ []).toArray 36 (0, 0)) := by rw [List.append_nil]; exact h1
  have h8 := set_mid h7 0 (by simp) (.bool d)
  rw [e1, List.append_nil] at h8
  refine ⟨⟨vs, h0, ?_, fun i c e => ?_, h3⟩, h5, fun k e => Nat.lt_of_lt_of_le (h6 k e) hk.size⟩
  · dsimp only
    rw [e2]
    exact h8
  · by_cases hi : i < 4
    · exact (h2 i c e).keep hk (fun k e2 e3 => h5 (by rw [← e3]; exact h3 i k hi e2))
    · have hh := h2 i c e
      have : vs.getD i undef = undef := by simp [List.getD_eq_getElem?_getD, List.getElem?_eq_none (show vs.length ≤ i by omega)]
      rw [this] at hh ⊢
      exact hh.keep hk (fun k hk => by simp [Value.ownBlock, undef] at hk)

/-- An open channel of the document's, c, lies in block a at o, between A and Z; what waits is v. -/
structure DX (w : World) (a o : Nat) (c : Ch) (v : Value) (A Z : List Value) : Prop where
  blk : w.heap[a]? = some (.cells (A ++ qcells (some c) v ++ Z).toArray 36 (0, 0))
  len : A.length = o
  held : Held w v c.wt
  own : v.ownBlock ≠ some a
theorem DX.lt {w : World} {a o : Nat} {c : Ch} {v : Value} {A Z : List Value} (h : DX w a o c v A Z) : a < w.heap.size := lt_of_block h.blk
theorem DX.keep {S : Nat → Prop} {w w' : World} {a o : Nat} {c : Ch} {v : Value} {A Z : List Value} (h : DX w a o c v A Z) (hk : Keeps S w w') (ha : ¬ S a) (hv : ∀ k, v.ownBlock = some k → ¬ S k) : DX w' a o c v A Z :=
  ⟨(hk.block a h.lt ha).trans h.blk, h.len, h.held.keep hk hv, h.own⟩
theorem DX.still {w w' : World} {a o : Nat} {c : Ch} {v : Value} {A Z : List Value} (h : DX w a o c v A Z) (hk : Keeps (fun _ => False) w w') : DX w' a o c v A Z := h.keep hk (fun h => h) (fun _ _ h => h)
theorem DX.fresh {w w' : World} {a o : Nat} {c : Ch} {v : Value} {A Z : List Value} (h : DX w a o c v A Z) (hb : Below w.heap.size w w') : DX w' a o c v A Z := h.still (Keeps.ofFresh hb)
theorem DX.cells {w : World} {a o : Nat} {c : Ch} {v : Value} {A Z : List Value} (h : DX w a o c v A Z) :
    w.cell? ⟨a, o, none⟩ = some (.bool true) ∧ w.cell? ⟨a, o + 1, none⟩ = some (.bool c.od) ∧ w.cell? ⟨a, o + 2, none⟩ = some (.bool c.en) ∧ w.cell? ⟨a, o + 3, none⟩ = some (.bool c.cl) ∧ w.cell? ⟨a, o + 4, none⟩ = some (.int .u32 c.th) ∧ w.cell? ⟨a, o + 5, none⟩ = some (.complex .f64 (nb c.wl) (nb c.wm)) ∧ w.cell? ⟨a, o + 6, none⟩ = some (.int .i64 c.ol) ∧ w.cell? ⟨a, o + 7, none⟩ = some v ∧ ∀ j, w.frozen? ⟨a, j, none⟩ = false := by
  have hl := h.len
  subst hl
  refine ⟨cell_mid h.blk 0 (by simp [qcells]), cell_mid h.blk 1 (by simp [qcells]), cell_mid h.blk 2 (by simp [qcells]), cell_mid h.blk 3 (by simp [qcells]), cell_mid h.blk 4 (by simp [qcells]), cell_mid h.blk 5 (by simp [qcells]), cell_mid h.blk 6 (by simp [qcells]), cell_mid h.blk 7 (by simp [qcells]), fun j => frozen_row h.blk j⟩
theorem DX.set {w : World} {a o : Nat} {c : Ch} {v : Value} {A Z : List Value} (h : DX w a o c v A Z) (j : Nat) (hj : j < 8) (u : Value) (c' : Ch) (v' : Value) (he : (qcells (some c) v).set j u = qcells (some c') v') (hv : Held w v' c'.wt) (ho : v'.ownBlock ≠ some a) : DX (w.setCell ⟨a, o + j, none⟩ u) a o c' v' A Z := by
  have hl := h.len
  subst hl
  refine ⟨?_, rfl, hv.keep (keepsSet w a (A.length + j) u) (fun k e e2 => ho (by rw [e, e2])), ho⟩
  rw [← he]
  exact set_mid h.blk j (by rw [qcells_length]; exact hj) u
theorem QX.dx {w : World} {P : Nat → Prop} {a : Nat} {S : MS} (h : QX w P a S) (hS : S.cs.length = 4) (i : Nat) (hi : i < 4) {c : Ch} (hc : S.cs.getD i none = some c) :
    ∃ v A Z, DX w a (i * 8) c v A Z ∧ (∀ k, v.ownBlock = some k → P k) ∧
      ∀ (w' : World) (T P' : Nat → Prop) (oc : Option Ch) (v' : Value), w'.heap[a]? = some (.cells (A ++ qcells oc v' ++ Z).toArray 36 (0, 0)) → (∀ c, oc = some c → Held w' v' c.wt) → Keeps T w w' → (∀ k, P k → ¬ T k) → (∀ k, P k → P' k) → (∀ k, v'.ownBlock = some k → P' k) → ¬ P' a → (∀ k, P' k → k < w'.heap.size) → QX w' P' a ⟨S.cs.set i oc, S.dead⟩ := by
  obtain ⟨v, A, Z, h1, h2, h3, h4, h5⟩ := h.at hS i hi
  rw [hc] at h1
  exact ⟨v, A, Z, ⟨h1, h2, h3 c hc, fun e => h.na (h4 a e)⟩, h4, h5⟩

/-- What the document's Do leaves; its Reader, if there is one, lies at rb. -/
def QDPost (w : World) (P : Nat → Prop) (a : Nat) (T : Nat → Prop) (r : MS × List (List UInt8) × List Ev) (e : Ending) (w' : World) : Prop :=
  ∃ u1 u2, e = .returned (.tuple #[u1, u2]) ∧ Lst w.heap.size w' u1 r.2.1 ∧ Evs 95 w.heap.size w' u2 r.2.2 ∧ QX w' P a r.1 ∧ Keeps T w w'

set_option maxHeartbeats 800000 in
set_option maxRecDepth 100000 in
theorem bye_q (w : World) {P : Nat → Prop} {a : Nat} {S : MS} (h : QX w P a S) :
    Calls Tryz.prog 43 #[.pointer (some ⟨a, 0, none⟩)] w fun e w' => QDPost w P a (fun k => k = a) (⟨S.cs, true⟩, [byeL 2], []) e w' := by
  obtain ⟨c0, cf⟩ := h.deadCell
  have HX := hidden h
  have HD := hidden (h.dies true)
  have hsz := hidden (show (w.setCell ⟨a, 32, none⟩ (.bool true)).heap.size = w.heap.size by simp)
  have HK := hidden (keepsSet w a 32 (.bool true))
  have hal := h.aLt
  clear h
  go_enter Tryz.func43, Tryz.ntmps43
  go_wp2_with fail
  generalize w.setCell ⟨a, 32, none⟩ (.bool true) = w1 at *
  refine (rBye_c 2 (by omega) w1).mono ?_
  rintro e w2 ⟨v2, rfl, ho2, hb2⟩
  obtain ⟨a2, p2, e2⟩ := ownsRow_shape ho2
  subst e2
  have HP : Hid (QDPost w P a (fun k => k = a) (⟨S.cs, true⟩, [byeL 2], []) (.returned (.tuple #[.slice (some ⟨w2.heap.size, 0, none⟩) 1 1, .slice none 0 0])) (w2.alloc (.cells #[.slice a2 (byeL 2).length p2] 22))) := by
    have hk3 : Keeps (fun _ => False) w1 (w2.alloc (.cells #[.slice a2 (byeL 2).length p2] 22)) := (Keeps.ofFresh hb2).alloc _
    exact hidden ⟨_, _, rfl, Lst.one ho2 (by rw [hsz.out]; omega) hb2.size, Evs.nil' _ _ _, HD.out.still hk3, HK.out.trans (hk3.mono (fun k _ h => h.elim))⟩
  clear ho2 hb2 HX HD HK hsz c0 cf
  generalize (byeL 2).length = n2 at *
  go_wp2_with fail
  go_ret2
  exact HP.out

set_option maxHeartbeats 800000 in
theorem fine_q (ch : Int) (w : World) {P : Nat → Prop} {a : Nat} {S : MS} (h : QX w P a S) (hS : S.cs.length = 4) :
    Calls Tryz.prog 28 #[.pointer (some ⟨a, 0, none⟩), .int .i64 ch] w fun e w' => e = .returned (.int .i64 (mayO S ch).1) ∧ w' = w := by
  obtain ⟨c0, cf⟩ := h.deadCell
  unfold mayO
  cases hd : S.dead with
  | true =>
    rw [hd] at c0
    rw [if_pos rfl]
    clear h
    go_enter Tryz.func28, Tryz.ntmps28
    go_wp2_with fail
    go_ret
    exact ⟨rfl, rfl⟩
  | false =>
    rw [hd] at c0
    rw [if_neg (by simp)]
    by_cases h0 : ch < 0
    · rw [if_neg (by omega)]
      clear h
      go_enter Tryz.func28, Tryz.ntmps28
      go_wp2_with fail
      go_ret
      exact ⟨rfl, rfl⟩
    · by_cases h4 : ch < 4
      · rw [if_pos (by omega)]
        obtain ⟨i, rfl⟩ := Int.eq_ofNat_of_zero_le (show 0 ≤ ch by omega)
        rw [Int.toNat_natCast]
        have hi : i < 4 := by omega
        have h5 : ¬ (4 : Int) ≤ (i : Int) := by omega
        have k1 := h.openCell hS i hi
        have k2 := h.closedCell hS i hi
        cases hc : chAt S i with
        | none =>
          rw [hc] at k1 k2
          simp only [Option.isSome] at k1 k2
          clear h hc
          go_enter Tryz.func28, Tryz.ntmps28
          go_wp2_with fail
          go_ret
          exact ⟨rfl, rfl⟩
        | some c =>
          rw [hc] at k1 k2
          simp only [Option.isSome] at k1 k2
          clear h hc
          dsimp only
          cases hcl : c.cl
          all_goals
            rw [hcl] at k2
            go_enter Tryz.func28, Tryz.ntmps28
            go_wp2_with fail
            go_ret
            exact ⟨rfl, rfl⟩
      · rw [if_neg (by omega)]
        have h5 : (4 : Int) ≤ ch := by omega
        clear h
        go_enter Tryz.func28, Tryz.ntmps28
        go_wp2_with fail
        go_ret
        exact ⟨rfl, rfl⟩

set_option maxHeartbeats 800000 in
theorem Waits_q (ch : Int) (w : World) {P : Nat → Prop} {a : Nat} {S : MS} (h : QX w P a S) (hS : S.cs.length = 4) :
    Calls Tryz.prog 24 #[.pointer (some ⟨a, 0, none⟩), .int .i64 ch] w fun e w' => e = .returned (.int .i64 (waitsO S ch)) ∧ w' = w := by
  unfold waitsO
  by_cases h0 : ch < 0
  · rw [if_neg (by omega)]
    clear h
    go_enter Tryz.func24, Tryz.ntmps24
    go_wp2_with fail
    go_ret
    exact ⟨rfl, rfl⟩
  · by_cases h4 : ch < 4
    · rw [if_pos (by omega)]
      obtain ⟨i, rfl⟩ := Int.eq_ofNat_of_zero_le (show 0 ≤ ch by omega)
      rw [Int.toNat_natCast]
      have h5 : ¬ (4 : Int) ≤ (i : Int) := by omega
      obtain ⟨ao, cap, k1⟩ := h.waitCell hS i (by omega)
      obtain ⟨n, hn⟩ : ∃ n, n = (match chAt S i with | none => 0 | some c => c.wt.length) := ⟨_, rfl⟩
      rw [← hn] at k1
      have HN := hidden hn
      clear h hn
      have HG : Hid ((match chAt S i with | none => 0 | some c => c.wt.length) = n) := hidden HN.out.symm
      refine Calls.mono (R := fun e w' => e = .returned (.int .i64 (n : Int)) ∧ w' = w) ?_ (fun e w' hh => ⟨by rw [hh.1, HN.out]; cases chAt S i <;> rfl, hh.2⟩)
      clear HG HN
      go_enter Tryz.func24, Tryz.ntmps24
      go_wp2_with fail
      go_ret
      exact ⟨rfl, rfl⟩
    · rw [if_neg (by omega)]
      have h5 : (4 : Int) ≤ ch := by omega
      clear h
      go_enter Tryz.func24, Tryz.ntmps24
      go_wp2_with fail
      go_ret
      exact ⟨rfl, rfl⟩

def GPost (w : World) (a o : Nat) (c : Ch) (v : Value) (A Z : List Value) (e : Ending) (w' : World) : Prop :=
  ∃ u v', e = .returned u ∧ Lst w.heap.size w' u (pieces c (nOf c)) ∧ DX w' a o (behind c) v' A Z ∧ (∀ k, v'.ownBlock = some k → v.ownBlock = some k) ∧ Keeps (fun k => k = a) w w'
def cutD (c : Ch) (k m : Nat) : Ch := ⟨c.od, c.en, c.cl, c.th, c.wl - k, c.wm, c.ol, c.wt.drop m⟩
/-- While flow goes on. -/
structure GI (w wr : World) (B a o : Nat) (c : Ch) (v : Value) (A Z : List Value) (sv : Value) (L : List Nat) (pv : Value) (j : Nat) : Prop where
  cx : ∃ v', DX wr a o (cutD c (kOf c) (min (j * c.wm) (kOf c))) v' A Z ∧ ∀ k, v'.ownBlock = some k → v.ownBlock = some k
  ls : Lst B wr pv (pieces c j)
  is : JSl w.heap.size wr sv L
  so : ∀ k, sv.ownBlock = some k → k < B ∧ k ≠ a
  wB : w.heap.size ≤ B
  bw : B ≤ wr.heap.size
  kp : Keeps (fun k => k = a) w wr
  vl : ∀ k, v.ownBlock = some k → k < w.heap.size
  al : a < w.heap.size

theorem numL_text (th : Nat) (T : List UInt8) : numL (byteOf ((94 : Nat) : Int)) [th] ++ textBytes (⟨T.toArray⟩ : ByteArray).data.toList = datL th T := by
  rw [show byteOf ((94 : Nat) : Int) = 94 from rfl]
  rfl

set_option maxHeartbeats 1600000 in
set_option maxRecDepth 100000 in
theorem flow_q (w : World) {L a o i : Nat} {c : Ch} {v : Value} {A Z : List Value} (h : DX w a o c v A Z) (hok : Ok L c) (hL : L ≤ 1000000) (hi4 : i < 4) (hio : i * 8 = o) :
    Calls Tryz.prog 29 #[.pointer (some ⟨a, 0, none⟩), .int .i64 (i : Int)] w fun e w' => GPost w a o c v A Z e w' := by
  obtain ⟨i0, hi, hz0, hz1, hz2⟩ := info_parts Tryz.infoBs
  have g1 : (i : Int) < 4 := by omega
  have g0 : ¬ (i : Int) < 0 := by omega
  obtain ⟨c0, c1, c2, c3, c4, c5, c6, c7, cf⟩ := h.cells
  have HX := hidden h
  have hwt := hok.wt
  have hk1 : kOf c ≤ c.wt.length := by unfold kOf; omega
  have hk2 : kOf c ≤ c.wl := by unfold kOf; omega
  have hw1 := hok.w1
  have hth := hok.th
  have HSP := hidden (fun w' => rsplit_c hok.wl hok.w1 hok.wm c.wt.length (kOf c) (nOf c) (by omega) rfl rfl w')
  have hn1 : nOf c ≤ kOf c := nOf_le _ _ hok.w1
  have HJ : Hid (∀ j, j < nOf c → j * c.wm < kOf c) := hidden fun j hj => below_n _ _ _ hok.w1 hj
  have HEND : Hid (kOf c ≤ nOf c * c.wm) := hidden (end_n _ _ hok.w1)
  obtain ⟨ao, cap, ev⟩ := h.held.len
  have HVL := hidden h.held.lt
  have hal := h.lt
  have HIO := hidden hio
  clear h hok hio
  generalize hx3 : nb (c.wl - kOf c) = x3 at HSP
  generalize hn : nOf c = n at *
  generalize hk : kOf c = k at *
  have HS : Hid (∀ w', Below w.heap.size w w' → w'.cell? ⟨a, o + 5, none⟩ = some (.complex .f64 (nb c.wl) (nb c.wm)) ∧ w'.cell? ⟨a, o + 7, none⟩ = some (.slice ao c.wt.length cap)) := hidden fun w' hb => ⟨(Keeps.ofFresh (S := fun _ => False) hb).cell c5 (fun h => h), (Keeps.ofFresh (S := fun _ => False) hb).cell (ev ▸ c7) (fun h => h)⟩
  rw [ev] at c7
  clear ev
  have HN := hidden hn
  have HK := hidden hk
  have HX3 := hidden hx3
  clear hn hk hx3
  generalize hwl : c.wt.length = wl at *
  have HWL := hidden hwl
  clear hwl
  generalize nb c.wl = x1 at *
  generalize hx2 : nb c.wm = x2 at *
  have HX2 := hidden hx2
  clear hx2
  go_enter Tryz.func29, Tryz.ntmps29
  go_upto_region 2 with fail
  rw [HIO.out]
  go_region_held3 (fun w' => w'.cell? ⟨a, o + 5, none⟩ = some (.complex .f64 x1 x2) ∧ w'.cell? ⟨a, o + 7, none⟩ = some (.slice ao wl cap))
    (first | exact HS.out _ (Below.refl _ _) | exact HS.out _ (Below.refl _ _).drew | exact HS.out _ (below_undrew hbS) | exact HS.out _ hbS | go_keep)
    (first | (go_at_call 50; refine (HSP.out _).mono ?_; rintro e w2 ⟨u2, rfl, his2, hbS⟩))
  have HB2 := hidden (below_undrew hbS)
  obtain ⟨sa, sc, es⟩ := his2.shape
  rw [pcs_length] at es
  subst es
  have HIS := hidden his2
  have HX2w := hidden (HX.out.fresh HB2.out)
  obtain ⟨d0, d1, d2, d3, d4, d5, d6, d7, df⟩ := HX2w.out.cells
  have hs5 := store_cx w2 ⟨a, o + 5, none⟩ x3 x2 d5 (df _)
  have HCX3 := hidden (HX2w.out.set 5 (by omega) (.complex .f64 x3 x2) (cutD c k 0) v (by rw [← HX3.out, ← HX2.out]; rfl) HX2w.out.held HX2w.out.own)
  have HK3 := hidden (keepsSet w2 a (o + 5) (.complex .f64 x3 x2))
  have hsz3 := hidden (show (w2.setCell ⟨a, o + 5, none⟩ (.complex .f64 x3 x2)).heap.size = w2.heap.size by simp)
  clear hbS his2 c0 c1 c2 c3 c4 c5 c6 c7 cf HSP HS d0 d1 d2 d3 d4 d5 d6 d7
  go_wp2_with fail
  clear hs5 df
  generalize w2.setCell ⟨a, o + 5, none⟩ (.complex .f64 x3 x2) = w3 at *
  have HI0 : Hid (GI w w3 w2.heap.size a o c v A Z (.slice sa n sc) (pcs k c.wm n) (.slice none 0 0) 0) := by
    refine hidden ⟨⟨v, ?_, fun k e => e⟩, Lst.nil' _ _, HIS.out.keep HK3.out (fun k e e2 => ?_), fun k e => ?_, HB2.out.size, by rw [hsz3.out]; omega, (Keeps.ofFresh HB2.out).trans HK3.out, HVL.out, hal⟩
    · rw [Nat.zero_mul, Nat.zero_min, HK.out]
      exact HCX3.out
    · have := (HIS.out.lt k e).1
      rw [show w.drew.heap.size = w.heap.size from rfl] at this
      omega
    · have := HIS.out.lt k e
      rw [show w.drew.heap.size = w.heap.size from rfl] at this
      exact ⟨this.2, by omega⟩
  clear HK3 HB2 HIS HX2w HCX3 hsz3
  obtain ⟨B, hB⟩ : ∃ B, B = w2.heap.size := ⟨_, rfl⟩
  rw [← hB] at HI0
  clear hB
  go_loopw [8, 9] (fun pv t wr => ∃ (j : Nat), j ≤ n ∧ t = .int .i64 (j : Int) ∧ GI w wr B a o c v A Z (.slice sa n sc) (pcs k c.wm n) pv j) (fun _ t _ => n - (intOf t).toNat)
  case atStart => exact ⟨0, by omega, rfl, HI0.out⟩
  case round =>
    obtain ⟨j, hj, rfl, hfi⟩ := hrel
    have HI := hidden hfi
    clear hfi HI0
    obtain ⟨pa, pc, ep⟩ := HI.out.ls.shape
    rw [pieces_length] at ep
    subst ep
    by_cases hlt : j < n
    · have i1 : (j : Int) < (n : Int) := by omega
      obtain ⟨g, es, k1⟩ := HI.out.is.cell j (by rw [pcs_length]; exact hlt)
      subst es
      rw [pcs_at _ _ _ _ hlt] at k1
      have hjk := HJ.out j hlt
      obtain ⟨q, hq⟩ : ∃ q, q = j * c.wm := ⟨_, rfl⟩
      obtain ⟨m, hm⟩ : ∃ m, m = min (k - q) c.wm := ⟨_, rfl⟩
      rw [← hq, ← hm] at k1
      rw [← hq] at hjk
      have hmq : q + m ≤ k := by omega
      have HQ1 : Hid (min (j * c.wm) (kOf c) = q) := hidden (by rw [HK.out, ← hq]; omega)
      have HQ2 : Hid (min ((j + 1) * c.wm) (kOf c) = q + m) := hidden (by rw [HK.out, Nat.add_mul, ← hq]; omega)
      have HPA : Hid (pieceAt c j = (c.wt.drop q).take m) := hidden (by unfold pieceAt; rw [HK.out, ← hq, ← hm])
      clear hq hm
      obtain ⟨v1, hcx, hvo⟩ := HI.out.cx
      rw [HQ1.out, HK.out] at hcx
      have HCX := hidden hcx
      have HVO := hidden hvo
      obtain ⟨c0, c1, c2, c3, c4, c5, c6, c7, cf⟩ := hcx.cells
      obtain ⟨a1, p1, e1⟩ := hcx.held.len
      have hrl : (cutD c k q).wt.length = wl - q := by show (c.wt.drop q).length = _; rw [List.length_drop, HWL.out]
      rw [hrl] at e1
      subst e1
      have hrest : m ≤ wl - q := by omega
      have hcap : wl - q ≤ p1 := by
        rcases hcx.held with ⟨h1, h2⟩ | ⟨_, _, _, _, h1, _, _, h3, _⟩
        · have := congrArg List.length h2
          rw [hrl] at this
          simp at this
          omega
        · rw [hrl] at h1 h3
          cases h1
          exact h3
      have hmc : (m : Int) ≤ (p1 : Int) := by omega
      have hm0 : (0 : Int) ≤ (m : Int) := by omega
      obtain ⟨T, hT⟩ : ∃ T, T = (c.wt.drop q).take m := ⟨_, rfl⟩
      have HT := hidden hT
      have HBS : Hid (∀ w', Keeps (fun k => (Value.slice pa j pc).ownBlock = some k) wr w' → BSl w' (.slice a1 m p1) T) := hidden fun w' hk => by
        have hwB := HI.out.wB
        have h1 := (hcx.keep hk (fun e => by have := (HI.out.ls.lt a e).1; omega) (fun k e e2 => by have h1 := HI.out.vl k (hvo k e); have h2 := (HI.out.ls.lt k e2).1; omega)).held.bsl
        rw [← hrl] at h1
        rw [hT]
        exact h1.head' (by rw [hrl]; exact hrest)
      have hTl : T.length ≤ 1000000 := by rw [hT, List.length_take]; omega
      have HTL := hidden hTl
      obtain ⟨vs, hvl, hvs, hve⟩ := HI.out.ls
      rw [pieces_length] at hvl hvs hve
      have HVS := hidden hvs
      have HVLn := hidden hvl
      have HVE := hidden hve
      have hc4 : (cutD c k q).th = c.th := rfl
      rw [hc4] at c4
      have HS : Hid (∀ w', Keeps (fun k => (Value.slice pa j pc).ownBlock = some k) wr w' → (w'.cell? ⟨a, o + 4, none⟩ = some (.int .u32 (c.th : Int)) ∧ w'.cell? ⟨a, o + 7, none⟩ = some (.slice a1 (wl - q) p1)) ∧ w'.cell? ⟨g, j, none⟩ = some (.int .i64 (m : Int)) ∧ (convert 22 9 (.slice a1 m p1)).run Tryz.prog w' = .ok (.string ⟨T.toArray⟩) w') := hidden fun w' hb => by
        have hwB := HI.out.wB
        have hne : ¬ (Value.slice pa j pc).ownBlock = some a := fun e => by have := (hvs.lt a e).1; omega
        have hng : ¬ (Value.slice pa j pc).ownBlock = some g := fun e => by have := (hvs.lt g e).1; have := (HI.out.so g rfl).1; omega
        exact ⟨⟨hb.cell c4 hne, hb.cell c7 hne⟩, hb.cell k1 hng, run_string (HBS.out w' hb)⟩
      have hBs := HI.out.bw
      clear hcx hvo hvl hvs hve hrl c0 c1 c2 c3 c5 c6 hT hTl
      generalize hrl : wl - q = rl at *
      have HNL : Hid (NSl (wr.alloc (.cells #[.int .u32 (c.th : Int)] 30)).drew (.slice (some ⟨wr.heap.size, 0, none⟩) 1 1) [c.th]) := hidden (nsl_lit wr [c.th])
      go_upto_region 8 with fail
      go_region_held3 (fun w' => (w'.cell? ⟨a, o + 4, none⟩ = some (.int .u32 (c.th : Int)) ∧ w'.cell? ⟨a, o + 7, none⟩ = some (.slice a1 rl p1)) ∧ w'.cell? ⟨g, j, none⟩ = some (.int .i64 (m : Int)) ∧ (convert 22 9 (.slice a1 m p1)).run Tryz.prog w' = .ok (.string ⟨T.toArray⟩) w')
        (first | exact HS.out _ (Keeps.refl _ _) | exact HS.out _ (Keeps.refl _ _).drew | exact HS.out _ ((Keeps.refl _ _).alloc _) | exact HS.out _ ((Keeps.refl _ _).drew.alloc _) | exact HS.out _ hkT | exact HS.out _ hkS | exact HS.out _ (hkS.alloc _) | exact HS.out _ hkR | go_keep)
        (first
          | (go_at_call 31; refine (uq_c 94 _ [c.th] _ HNL.out (by intro j hj; match j, hj with | 0, _ => exact hth) (by simp) (by simp)).mono ?_; rintro e w4 ⟨v4, rfl, ho4, hb4⟩; obtain ⟨a4, p4, e4⟩ := ownsRow_shape ho4; subst e4; have hkR : Keeps (fun k => (Value.slice pa j pc).ownBlock = some k) wr w4 := Keeps.ofFresh (below_alloc (below_undrew hb4)))
          | (go_at_call 33; refine (rtext_c _ (by rw [size_list]; have := HTL.out; omega) _ _ _ (BSl.ofRow ho4) (by rw [size_list, numL_len]; have := HTL.out; simp; omega)).mono ?_; rintro e w6 ⟨v6, rfl, ho6, hb6⟩; rw [numL_text] at ho6; obtain ⟨a6, p6, e6⟩ := ownsRow_shape ho6; subst e6; have hkS : Keeps (fun k => (Value.slice pa j pc).ownBlock = some k) wr w6 := hkR.trans (Keeps.ofFresh hb6))
          | (refine step_append_src _ (by rfl) (.tmp 38) (.tmp 56) 48 48 (by rfl) B 22 i0 _ 24 Tryz.underlying48 hi hz0 hz1 hz2 rfl (.slice pa j pc) j vs (by rfl) ((((Keeps.ofFresh (S := fun _ => False) (below_alloc (below_undrew hb4))).trans (Keeps.ofFresh hb6)).alloc _).row HVS.out (fun _ _ h => h)) _ 1 _ (by rfl) (srcSl (heap_alloc_new _ _)) (by unfold maxLen; omega) (by omega) (by have := hkS.size; simp; omega) (w6.heap.size + 1) (by simp) ?_; intro v5 w5 hown hgrow hnil hat; have hkT : Keeps (fun k => (Value.slice pa j pc).ownBlock = some k) wr w5 := (hkS.alloc _).trans (Keeps.ofGrown hgrow (fun k e => e))))
      have HCX5 : Hid (DX w5 a o (cutD c k q) (.slice a1 rl p1) A Z) := by
        have hwB := HI.out.wB
        refine hidden (HCX.out.keep hkT (fun e => ?_) (fun k e e2 => ?_))
        · have := (HVS.out.lt a e).1
          omega
        · have h1 := HI.out.vl k (HVO.out k e)
          have h2 := (HVS.out.lt k e2).1
          omega
      have HKW : Hid (Keeps (fun _ => False) wr w6) := hidden ((Keeps.ofFresh (below_alloc (below_undrew hb4))).trans (Keeps.ofFresh hb6))
      have hw46 : wr.heap.size ≤ w4.heap.size := (below_alloc (below_undrew hb4)).size
      have HLS5 : Hid (Lst B w5 v5 (pieces c (j + 1))) := by
        rw [pieces_succ, HPA.out, ← HT.out]
        refine hidden (Lst.add (w := w6) (o := .slice pa j pc) (vs := vs) (by rw [pieces_length]; exact HVLn.out) (fun t ht => ?_) (BSl.ofRow ho6) (fun t e => ?_) (by rw [pieces_length]) hown hgrow hat)
        · rw [pieces_length] at ht
          have h1 := HVE.out t ht
          exact ⟨h1.1.keep HKW.out (fun _ _ h => h), fun k e => ⟨(h1.2 k e).1, Nat.lt_of_lt_of_le (h1.2 k e).2.1 HKW.out.size, (h1.2 k e).2.2⟩⟩
        · have h1 := ho6.lt t e
          exact ⟨by omega, h1.2, fun e2 => by have := (HVS.out.lt t e2).2; omega⟩
      have HIS5 : Hid (JSl w.heap.size w5 (.slice (some ⟨g, 0, none⟩) n sc) (pcs k c.wm n)) := hidden (HI.out.is.keep hkT (fun t e e2 => by have := (HI.out.so t e).1; have := (HVS.out.lt t e2).1; omega))
      have HK5 : Hid (Keeps (fun k => k = a) w w5) := by
        have hwB := HI.out.wB
        refine hidden ⟨hkT.os.trans HI.out.kp.os, hkT.tape.trans HI.out.kp.tape, hkT.output.trans HI.out.kp.output, Nat.le_trans HI.out.kp.size hkT.size, fun t h1 h2 => (hkT.block t (Nat.lt_of_lt_of_le h1 HI.out.kp.size) (fun e => ?_)).trans (HI.out.kp.block t h1 h2)⟩
        have := (HVS.out.lt t e).1
        omega
      obtain ⟨a5, p5, e5⟩ := ownsRow_shape hown
      subst e5
      have hs5 := hkT.size
      have k5 : w5.cell? ⟨g, j, none⟩ = some (.int .i64 (m : Int)) := (HS.out _ hkT).2.1
      clear hown hgrow hat hnil hkT hkS hkR hb4 ho4 hb6 ho6 HKW HS HBS HVE HVLn c4 c7 cf k1 HX HVL HNL hw46
      obtain ⟨c0, c1, c2, c3, c4, c5, c6, c7, cf⟩ := HCX5.out.cells
      have hml : (m : Int) ≤ (rl : Int) := by omega
      have hrl2 : (cutD c k q).wt.length = rl := by show (c.wt.drop q).length = _; rw [List.length_drop, HWL.out]; exact hrl
      have hd1 : Held w5 (.slice a1 (cutD c k q).wt.length p1) (cutD c k q).wt := by rw [hrl2]; exact HCX5.out.held
      have hd2 := hd1.drop m (by rw [hrl2]; exact hrest)
      rw [hrl2, show (cutD c k q).wt.drop m = (cutD c k (q + m)).wt by show (c.wt.drop q).drop m = c.wt.drop (q + m); rw [List.drop_drop]] at hd2
      have HDR := hidden hd2
      clear hd1 hd2 hrl2
      clear c0 c1 c2 c3 c4 c5 c6
      generalize hdl : (datL c.th T).length = dl at *
      clear hdl
      go_wp2_with fail
      go_region
      obtain ⟨v6, e6, h61, h62⟩ : ∃ v6, v6 = Value.slice (if p1 = m then a1 else Option.map (fun x => x.add m) a1) (rl - m) (p1 - m) ∧ Held w5 v6 (cutD c k (q + m)).wt ∧ ∀ k, v6.ownBlock = some k → (Value.slice a1 rl p1).ownBlock = some k := by
        refine ⟨_, rfl, ?_, ?_⟩
        · by_cases hp : p1 = m
          · have := HDR.out.2 (by omega)
            rw [if_pos hp, show rl - m = 0 by omega, show p1 - m = 0 by omega]
            exact this
          · rw [if_neg hp]
            exact HDR.out.1 (by omega)
        · intro t e
          by_cases hp : p1 = m
          · rw [if_pos hp] at e
            rw [← e]
            exact ownBlock_any _ _ _ _ _
          · rw [if_neg hp] at e
            rw [← e]
            exact (ownBlock_cut _ _ _ _ _ _).symm
      rw [← e6]
      clear e6
      have hk6 : Keeps (fun k => k = a) w5 (w5.setCell ⟨a, o + 7, none⟩ v6).drew := (keepsSet w5 a (o + 7) v6).drew
      have hwB := HI.out.wB
      have HGI : Hid (GI w (w5.setCell ⟨a, o + 7, none⟩ v6).drew B a o c v A Z (.slice (some ⟨g, 0, none⟩) n sc) (pcs k c.wm n) (.slice a5 (j + 1) p5) (j + 1)) := by
        refine hidden ⟨⟨v6, ?_, fun t e => HVO.out t (h62 t e)⟩, HLS5.out.keep hk6 (fun t e => by omega), HIS5.out.keep hk6 (fun t e => (HI.out.so t e).2), HI.out.so, hwB, Nat.le_trans hBs (Nat.le_trans hs5 hk6.size), HK5.out.trans hk6, HI.out.vl, hal⟩
        rw [HQ2.out, HK.out]
        exact (HCX5.out.set 7 (by omega) v6 (cutD c k (q + m)) v6 rfl h61 (fun e => HCX5.out.own (h62 _ e))).still (Keeps.refl _ _).drew
      clear h61 h62 hk6 HDR HCX5 HLS5 HIS5 HK5 HI HCX HVO HVS c7 cf k5
      generalize (w5.setCell ⟨a, o + 7, none⟩ v6).drew = w7 at *
      generalize (numL (byteOf 94) [c.th]).length = d94 at *
      go_wp2_with fail
      go_roundw
      case rel => exact ⟨j + 1, by omega, by go_num, HGI.out⟩
      case measure => simp [intOf]; omega
    · have i1 : ¬ (j : Int) < (n : Int) := by omega
      have hjn : j = n := by omega
      subst hjn
      obtain ⟨v1, hcx, hvo⟩ := HI.out.cx
      rw [HK.out, Nat.min_eq_right HEND.out] at hcx
      have he : behind c = cutD c k k := by
        unfold behind cutD
        rw [HK.out]
      rw [← he] at hcx
      clear he
      have HP : Hid (GPost w a o c v A Z (.returned (.slice pa j pc)) wr) := hidden ⟨_, v1, rfl, by rw [HN.out]; exact HI.out.ls.mono HI.out.wB, hcx, hvo, HI.out.kp⟩
      clear hcx hvo HI HX HVL
      go_wp2_with fail
      go_ret
      exact HP.out

/-- What the document's Send and Close leave. -/
def QSPost (w : World) (P : Nat → Prop) (a : Nat) (r : MS × List (List UInt8) × Nat) (e : Ending) (w' : World) : Prop :=
  ∃ (u : Value) (P' : Nat → Prop), e = .returned (.tuple #[u, .int .i64 r.2.2]) ∧ Lst w.heap.size w' u r.2.1 ∧ QX w' P' a r.1 ∧ (∀ k, P' k → P k ∨ w.heap.size ≤ k) ∧ Keeps (fun k => k = a) w w'

theorem mayO_ok0 {S : MS} {ch : Int} {e : Nat} {c : Ch} (hm : mayO S ch = (e, some c)) : e = 0 := by
  unfold mayO at hm
  split at hm
  · cases hm
  · split at hm
    · split at hm
      · cases hm
      · split at hm
        · cases hm
        · cases hm; rfl
    · cases hm

set_option maxHeartbeats 1600000 in
set_option maxRecDepth 100000 in
theorem Close_q (ch : Int) (w : World) {L : Nat} {P : Nat → Prop} {a : Nat} {S : MS} (h : QX w P a S) (hok : OkM L S) :
    Calls Tryz.prog 14 #[.pointer (some ⟨a, 0, none⟩), .int .i64 ch] w fun e w' => QSPost w P a (closeO S ch) e w' := by
  have HF := hidden (fine_q ch w h hok.four)
  unfold closeO
  have hal := h.aLt
  cases hm : mayO S ch with
  | mk e0 oc =>
  cases oc with
  | none =>
    rw [hm] at HF
    dsimp only at HF ⊢
    have hne := mayO_ne hm
    have HX := hidden h
    clear hm h hok
    go_enter Tryz.func14, Tryz.ntmps14
    go_wp2_with fail
    refine HF.out.mono ?_
    rintro e w1 ⟨rfl, rfl⟩
    go_wp2_with fail
    go_ret2
    exact ⟨_, P, rfl, Lst.nil' _ _, HX.out, fun k hk => .inl hk, Keeps.refl _ _⟩
  | some c =>
    obtain rfl := mayO_ok0 hm
    rw [hm] at HF
    dsimp only at HF ⊢
    obtain ⟨hkc, hc0, hc4, hcg, hdd, hcl, _⟩ := mayO_ok hok hm
    have hth := hkc.th
    obtain ⟨i, rfl⟩ := Int.eq_ofNat_of_zero_le hc0
    rw [Int.toNat_natCast] at hcg ⊢
    obtain ⟨v, A, Z, hx, hvP, hput⟩ := h.dx hok.four i (by omega) hcg
    have HPUT := hidden hput
    have HP0 := hidden h
    have HVP := hidden hvP
    obtain ⟨o, ho⟩ : ∃ o, o = i * 8 := ⟨_, rfl⟩
    rw [← ho] at hx
    have h1 := hx.set 3 (by omega) (.bool true) ⟨c.od, c.en, true, c.th, c.wl, c.wm, c.ol, c.wt⟩ v rfl hx.held hx.own
    have h2 := h1.set 7 (by omega) (.slice none 0 0) ⟨c.od, c.en, true, c.th, c.wl, c.wm, c.ol, []⟩ (.slice none 0 0) rfl (Held.nil _) (fun e => by simp [Value.ownBlock] at e)
    have HC2 := hidden h2
    have HK2 := hidden ((keepsSet w a (o + 3) (.bool true)).trans (keepsSet _ a (o + 7) (.slice none 0 0)))
    obtain ⟨c0, c1, c2, c3, c4, c5, c6, c7, cf⟩ := hx.cells
    obtain ⟨d0, d1, d2, d3, d4, d5, d6, d7, df⟩ := h1.cells
    obtain ⟨f0, f1, f2, f3, f4, f5, f6, f7, ff⟩ := h2.cells
    have hs2 : ((w.setCell ⟨a, o + 3, none⟩ (.bool true)).setCell ⟨a, o + 7, none⟩ (.slice none 0 0)).heap.size = w.heap.size := by simp
    have HS2 := hidden hs2
    have HO := hidden ho
    clear ho hm h hok hkc hcg hdd hcl hx hvP hput h1 h2 c0 c1 c2 c4 c5 c6 d0 d1 d2 d3 d4 d5 d6 f0 f1 f2 f3 f5 f6 f7 hs2
    go_enter Tryz.func14, Tryz.ntmps14
    go_wp2_with fail
    refine HF.out.mono ?_
    rintro e w0 ⟨rfl, rfl⟩
    clear HF
    rw [HO.out] at c3 c7 d7 f4 HC2 HK2 HS2
    go_wp2_with fail
    clear c3 c7 cf d7 df
    rw [← HO.out] at HC2 HK2 HS2 ⊢
    generalize (w0.setCell ⟨a, o + 3, none⟩ (.bool true)).setCell ⟨a, o + 7, none⟩ (.slice none 0 0) = w2 at *
    rw [← HS2.out]
    have HN := hidden (nsl_lit w2 [c.th])
    refine (uq_c 97 _ [c.th] _ HN.out (by intro j hj; match j, hj with | 0, _ => exact hth) (by simp) (by simp)).mono ?_
    rintro e w6 ⟨v6, rfl, ho6, hb6⟩
    obtain ⟨a6, p6, e6⟩ := ownsRow_shape ho6
    subst e6
    rw [show byteOf ((97 : Nat) : Int) = 97 from rfl] at ho6 ⊢
    have HP : Hid (QSPost w0 P a (⟨S.cs.set i (some ⟨c.od, c.en, true, c.th, c.wl, c.wm, c.ol, []⟩), S.dead⟩, [numL 97 [c.th]], 0) (.returned (.tuple #[.slice (some ⟨w6.heap.size, 0, none⟩) 1 1, .int .i64 0])) (w6.alloc (.cells #[.slice a6 (numL 97 [c.th]).length p6] 22))) := by
      have hk7 : Keeps (fun _ => False) w2 (w6.alloc (.cells #[.slice a6 (numL 97 [c.th]).length p6] 22)) := (Keeps.ofFresh (below_alloc hb6)).alloc _
      have hcx7 := HC2.out.still hk7
      have hk8 := HK2.out.trans (hk7.mono (S' := fun k => k = a) (fun k _ h => h.elim))
      refine hidden ⟨_, P, rfl, Lst.one ho6 (by rw [← HS2.out]; simp) hb6.size, ?_, fun k e => .inl e, hk8⟩
      exact HPUT.out _ _ P _ _ hcx7.blk (fun c' e => by cases e; exact hcx7.held) hk8 (fun k hp e => HP0.out.na (by rw [← e]; exact hp)) (fun k hp => hp) (fun k e => by simp [Value.ownBlock] at e) HP0.out.na (fun k hp => Nat.lt_of_lt_of_le (HP0.out.lt k hp) hk8.size)
    clear ho6 hb6 HN HC2 HK2 HS2 HP0 HPUT HVP f4 ff
    generalize (numL 97 [c.th]).length = n6 at *
    go_wp2_with fail
    go_ret2
    exact HP.out

set_option maxHeartbeats 1600000 in
set_option maxRecDepth 100000 in
theorem Send_q (ch : Int) (b : Value) (ys : List UInt8) (w : World) {L : Nat} {P : Nat → Prop} {a : Nat} {S : MS} (h : QX w P a S) (hok : OkM L S) (hL : L + 1000 ≤ 1000000) (hb : BSl w b ys) (hl : ys.length ≤ 1000) :
    Calls Tryz.prog 12 #[.pointer (some ⟨a, 0, none⟩), .int .i64 ch, b] w fun e w' => QSPost w P a (sendO S ch ys) e w' := by
  obtain ⟨i0, hi, hz0, hz1, hz2⟩ := info_parts Tryz.infoU8
  have HF := hidden (fine_q ch w h hok.four)
  have HB := hidden hb
  obtain ⟨ba, bc, rfl⟩ := hb.len
  unfold sendO
  have hal := h.aLt
  cases hm : mayO S ch with
  | mk e0 oc =>
  cases oc with
  | none =>
    rw [hm] at HF
    dsimp only at HF ⊢
    have hne := mayO_ne hm
    have HX := hidden h
    clear hm h hb hok hl
    generalize ys.length = yn at *
    go_enter Tryz.func12, Tryz.ntmps12
    go_wp2_with fail
    refine HF.out.mono ?_
    rintro e w1 ⟨rfl, rfl⟩
    go_wp2_with fail
    go_ret2
    exact ⟨_, P, rfl, Lst.nil' _ _, HX.out, fun k hk => .inl hk, Keeps.refl _ _⟩
  | some c =>
    obtain rfl := mayO_ok0 hm
    rw [hm] at HF
    dsimp only at HF ⊢
    obtain ⟨hkc, hc0, hc4, hcg, hdd, hcl, _⟩ := mayO_ok hok hm
    have hwt := hkc.wt
    obtain ⟨i, rfl⟩ := Int.eq_ofNat_of_zero_le hc0
    rw [Int.toNat_natCast] at hcg ⊢
    obtain ⟨v, A, Z, hx, hvP, hput⟩ := h.dx hok.four i (by omega) hcg
    have HPUT := hidden hput
    have HP0 := hidden h
    have HVP := hidden hvP
    have HX := hidden hx
    have HKC := hidden hkc
    obtain ⟨o, ho⟩ : ∃ o, o = i * 8 := ⟨_, rfl⟩
    have HO := hidden ho
    have hi4 : i < 4 := by omega
    obtain ⟨c0, c1, c2, c3, c4, c5, c6, c7, cf⟩ := hx.cells
    obtain ⟨va, vc, ev⟩ := hx.held.len
    subst ev
    have HBW : Hid (BSl w (.slice va c.wt.length vc) c.wt) := hidden hx.held.bsl
    obtain ⟨W, hW⟩ : ∃ W : World, W = (w.alloc (.cells #[] 5)).drew := ⟨_, rfl⟩
    have HB1 : Hid (Below w.heap.size w W) := hidden (by rw [hW]; exact ((Below.refl _ w).alloc (Nat.le_refl _) _).drew)
    have HE1 : Hid (W.ownsRow w.heap.size 5 1 (.slice (some ⟨w.heap.size, 0, none⟩) 0 0) 0 []) := hidden (by rw [hW]; exact own_empty w)
    have hsW : W.heap.size = w.heap.size + 1 := by rw [hW]; simp
    have HSW := hidden hsW
    have HCW : Hid (∀ w', Below w.heap.size w w' → w'.cell? ⟨a, i * 8 + 7, none⟩ = some (.slice va c.wt.length vc) ∧ w'.frozen? ⟨a, i * 8 + 7, none⟩ = false) := hidden fun w' hb' => by
      obtain ⟨_, _, _, _, _, _, _, k7, kf⟩ := (hx.fresh hb').cells
      exact ⟨k7, kf _⟩
    clear ho hm h hb hok hkc hcg hdd hcl hx hvP hput c0 c1 c2 c3 c4 c5 c6 hsW
    generalize hyn : ys.length = yn at *
    generalize hwn : c.wt.length = wn at *
    go_enter Tryz.func12, Tryz.ntmps12
    go_wp2_with fail
    refine HF.out.mono ?_
    rintro e w0 ⟨rfl, rfl⟩
    clear HF
    have HSR : Hid (Src Tryz.prog 1 22 (.slice va wn vc) wn (bcells c.wt) (w0.alloc (.cells #[] 5)).drew) := hidden (by have := (HBW.out.fresh (((Below.refl _ w0).alloc (Nat.le_refl _) (.cells #[] 5)).drew)).src; rw [hwn] at this; exact this)
    have HSR2 : Hid (∀ (v1 : Value) (w1 : World), w1.ownsRow w0.heap.size 5 1 v1 (0 + wn) ([] ++ bcells c.wt) → (w0.alloc (.cells #[] 5)).drew.grownBy w1 (Value.slice (some ⟨w0.heap.size, 0, none⟩) 0 0).ownBlock → Src Tryz.prog 1 22 (.slice ba yn bc) yn (bcells ys) w1) := hidden fun v1 w1 _ hg => by
      have hbb : Below w0.heap.size w0 w1 := (((Below.refl _ w0).alloc (Nat.le_refl _) _).drew).grown hg (by simp) (by intro k hk; simp [Value.ownBlock] at hk; omega)
      have := (HB.out.fresh hbb).src
      rw [hyn] at this
      exact this
    have HSZ : Hid (∀ (w1 : World) (ob : Option Nat), (w0.alloc (.cells #[] 5)).drew.grownBy w1 ob → w0.heap.size ≤ w1.heap.size) := hidden fun w1 ob hg => by
      have := hg.size
      simp at this
      omega
    go_upto_region 4 with fail
    go_region_law (first
      | (refine step_append_src _ (by rfl) (.tmp 17) (.tmp 24) 22 22 (by rfl) w0.heap.size 5 i0 _ 1 Tryz.underlying22 hi hz0 hz1 hz2 rfl _ 0 [] (by rfl) ((own_empty w0).drew) _ wn (bcells c.wt) (by rfl) HSR.out (by unfold maxLen; omega) (by omega) (by simp) (w0.heap.size + 1) (by simp) ?_; intro v1 w1 hown1 hgrow1 hnil1 hat1)
      | (refine step_append_src _ (by rfl) (.tmp 25) (.tmp 26) 22 22 (by rfl) w0.heap.size 5 i0 _ 1 Tryz.underlying22 hi hz0 hz1 hz2 rfl _ _ _ (by rfl) hown1 _ yn (bcells ys) (by rfl) (HSR2.out _ _ hown1 hgrow1) (by unfold maxLen; omega) (by omega) (HSZ.out _ _ hgrow1) _ rfl ?_; intro v2 w2 hown2 hgrow2 hnil2 hat2; obtain ⟨a2, p2, e2⟩ := ownsRow_shape hown2; have hb1 : Below w0.heap.size w0 w1 := (((Below.refl _ w0).alloc (Nat.le_refl _) _).drew).grown hgrow1 (by simp) (by intro k hk; simp [Value.ownBlock] at hk; omega); have hb2 : Below w0.heap.size w0 w2 := hb1.grown hgrow2 (HSZ.out _ _ hgrow1) (fun k hk => (hown1.lt k hk).1); obtain ⟨k7, kf⟩ := HCW.out w2 hb2; subst e2))
    all_goals
      have hx2 := HX.out.fresh hb2
      have hcl2 : bcells c.wt ++ bcells ys = bcells (c.wt ++ ys) := by simp [bcells]
      have hown3 : w2.ownsRow w0.heap.size 5 1 (.slice a2 (wn + yn) p2) (wn + yn) (bcells (c.wt ++ ys)) := by
        have := hown2
        simp only [List.nil_append, Nat.zero_add, hcl2] at this
        exact this
      have hheld : Held w2 (.slice a2 (wn + yn) p2) (c.wt ++ ys) := Held.ofOwns hown3 (by rw [List.length_append, hwn, hyn])
      have hown4 : ∀ k, (Value.slice a2 (wn + yn) p2).ownBlock = some k → w0.heap.size ≤ k ∧ k < w2.heap.size := fun k e => hown3.lt k e
      have hdx := hx2.set 7 (by omega) (.slice a2 (wn + yn) p2) (longer c ys) (.slice a2 (wn + yn) p2) rfl hheld (fun e => by have := (hown4 a e).1; omega)
      have hk3 := keepsSet w2 a (i * 8 + 7) (.slice a2 (wn + yn) p2)
      have hkw : Keeps (fun k => k = a) w0 (w2.setCell ⟨a, i * 8 + 7, none⟩ (.slice a2 (wn + yn) p2)) := (Keeps.ofFresh hb2).trans hk3
      have HOWN := hidden hown4
      have HDX := hidden hdx
      have HKW := hidden hkw
      have hsz3 : w2.heap.size = (w2.setCell ⟨a, i * 8 + 7, none⟩ (.slice a2 (wn + yn) p2)).heap.size := by simp
      have HSZ3 := hidden hsz3
      have HFL := hidden (flow_q _ hdx (HKC.out.longer ys) (by rw [hyn]; omega) hi4 rfl)
      clear hx2 hcl2 hown3 hheld hown4 hdx hk3 hkw hsz3 hown1 hown2 hgrow1 hgrow2 hnil1 hnil2 hat1 hat2 hb1 k7 kf HSR HSR2 HSZ HCW HE1 HB1 HBW HSW c7 cf
      generalize hv2 : Value.slice a2 (wn + yn) p2 = v2 at *
      clear hv2
      generalize w2.setCell ⟨a, i * 8 + 7, none⟩ v2 = w3 at *
      go_wp2_with fail
      refine HFL.out.mono ?_
      rintro e w4 ⟨u4, v4, rfl, hls4, hdx4, hvo4, hk4⟩
      have HP : Hid (QSPost w0 P a (⟨S.cs.set i (some (behind (longer c ys))), S.dead⟩, pieces (longer c ys) (nOf (longer c ys)), 0) (.returned (.tuple #[u4, .int .i64 0])) w4) := by
        have hsz4 := hk4.size
        have hsz0 := HKW.out.size
        have hb2s := hb2.size
        have hk04 := HKW.out.trans hk4
        have hv4 : ∀ k, v4.ownBlock = some k → w0.heap.size ≤ k ∧ k < w4.heap.size := fun k e => by
          have := HOWN.out k (hvo4 k e)
          have := HSZ3.out
          exact ⟨by omega, by omega⟩
        refine hidden ⟨u4, fun k => P k ∨ v4.ownBlock = some k, rfl, hls4.mono hsz0, ?_, fun k e => e.elim .inl (fun e => .inr (hv4 k e).1), hk04⟩
        exact HPUT.out _ _ _ _ _ hdx4.blk (fun c' e => by cases e; exact hdx4.held) hk04 (fun k hp e => HP0.out.na (by rw [← e]; exact hp)) (fun k hp => .inl hp) (fun k e => .inr e) (fun e => e.elim HP0.out.na (fun e => by have := (hv4 a e).1; omega)) (fun k e => e.elim (fun hp => Nat.lt_of_lt_of_le (HP0.out.lt k hp) hk04.size) (fun e => (hv4 k e).2))
      clear hls4 hdx4 hvo4 hk4 HFL HDX HOWN HKW HPUT HP0 HVP HX
      go_wp2_with fail
      go_ret2
      exact HP.out
end Go.Proofs.YtnimdbjbkoggdaaGreat
