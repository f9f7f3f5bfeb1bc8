/- Xor: what it answers. -/
import Derived.Test.YthkaibkmpenclaaDoorChG
namespace Go.Proofs.YthkaibkmpenclaaDoor
open Go Go.RowKit

/-- Byte i of what Xor answers. -/
def xb (key : List UInt8) (ctr : Int) (nonce ys : List UInt8) (i : Nat) : UInt8 := ys.getD i 0 ^^^ (bk key ((ctr + ((i / 64 : Nat) : Int)) % 4294967296) nonce).getD (i % 64) 0
def xorTo (key : List UInt8) (ctr : Int) (nonce ys : List UInt8) (n : Nat) : List UInt8 := (List.range n).map (xb key ctr nonce ys)
theorem xorTo_length (key : List UInt8) (ctr : Int) (nonce ys : List UInt8) (n : Nat) : (xorTo key ctr nonce ys n).length = n := by simp [xorTo]
theorem xorTo_succ (key : List UInt8) (ctr : Int) (nonce ys : List UInt8) (n : Nat) : xorTo key ctr nonce ys (n + 1) = xorTo key ctr nonce ys n ++ [xb key ctr nonce ys n] := by simp [xorTo, List.range_succ]
def xorL (key : List UInt8) (ctr : Int) (nonce ys : List UInt8) : List UInt8 := xorTo key ctr nonce ys ys.length

theorem put3_get {X : List Int} (h : X.length = 16) (ctr : Int) (nonce : List UInt8) : (putL (X.set 12 ctr) 13 nonce 3).getD 12 0 = ctr := by
  simp only [putL]
  rw [getD_set_off (by omega), getD_set_off (by omega), getD_set_off (by omega), getD_set_at (by omega)]
theorem put3_set (X : List Int) (ctr c : Int) (nonce : List UInt8) : (putL (X.set 12 ctr) 13 nonce 3).set 12 c = putL (X.set 12 c) 13 nonce 3 := by
  simp only [putL]
  rw [List.set_comm _ c (show 13 + 2 ≠ 12 by omega), List.set_comm _ c (show 13 + 1 ≠ 12 by omega), List.set_comm _ c (show 13 + 0 ≠ 12 by omega), List.set_set]
theorem initL_get (key : List UInt8) (ctr : Int) (nonce : List UInt8) : (initL key ctr nonce).getD 12 0 = ctr := put3_get (by rw [putL_length]; rfl) ctr nonce
theorem initL_set (key : List UInt8) (ctr c : Int) (nonce : List UInt8) : (initL key ctr nonce).set 12 c = initL key c nonce := put3_set _ ctr c nonce

/-- What Xor answers, as a block of its own; or nothing and ErrArg. -/
def XTold (w : World) (key nonce xs : List UInt8) (e : Ending) (w' : World) : Prop :=
  Below w.heap.size w w' ∧ ((okSizes key nonce = true ∧ ∃ g, e = .returned (.tuple #[.slice (some ⟨g, 0, none⟩) xs.length xs.length, .int .i64 0]) ∧ w.heap.size ≤ g ∧ w'.heap[g]? = some (.cells (bcells xs).toArray 5 (0, 0))) ∨
    (okSizes key nonce = false ∧ e = .returned (.tuple #[.slice none 0 0, .int .i64 1])))
theorem XTold.told {w w' : World} {key nonce xs : List UInt8} {e : Ending} (h : XTold w key nonce xs e w') (hl : xs.length ≤ 1000000) : Told w key nonce xs e w' := by
  obtain ⟨hb, hT⟩ := h
  refine ⟨hb, ?_⟩
  rcases hT with ⟨h1, g, he, hg, hblk⟩ | h1
  · exact .inl ⟨h1, _, he, BSl.ofBlock hblk (by omega), fun k e => by simp [Value.ownBlock] at e; subst e; exact ⟨hg, lt_of_block hblk⟩⟩
  · exact .inr h1
set_option maxHeartbeats 1600000 in
set_option maxRecDepth 100000 in
theorem Xor_o (v1 v2 v3 : Value) (key nonce ys : List UInt8) (ctr : Int) (hc0 : 0 ≤ ctr) (hc1 : ctr < 4294967296) (hy : ys.length ≤ 1000000) (w : World) (h1 : BSl w v1 key) (h2 : BSl w v2 nonce) (h3 : BSl w v3 ys) :
    Calls Tryd.prog 60 #[v1, .int .u32 ctr, v2, v3] w fun e w' => XTold w key nonce (xorL key ctr nonce ys) e w' := by
  obtain ⟨i0, hi, hz0, hz1, hz2⟩ := info_parts Tryd.infoU8
  have HI := hidden hi
  have HZ0 := hidden hz0
  have HZ1 := hidden hz1
  have HZ2 := hidden hz2
  clear hi hz0 hz1 hz2
  have H3 := hidden h3
  have HR := hidden (rightSizes_c v1 v2 key nonce w h1 h2)
  obtain ⟨a3, c3, e3, hc31, hc32, _⟩ := h3
  unfold maxLen at hc32
  subst e3
  have HC0 := hidden hc0
  have HC1 := hidden hc1
  clear hc0 hc1
  by_cases hk : okSizes key nonce = true
  · have hk' : key.length = 32 ∧ nonce.length = 12 := by simpa [okSizes] using hk
    obtain ⟨b1, o1, c1, rfl, l1⟩ := h1.nonnil (by intro e; rw [e] at hk'; simp at hk')
    obtain ⟨b2, o2, c2, rfl, l2⟩ := h2.nonnil (by intro e; rw [e] at hk'; simp at hk')
    rw [hk'.1] at h1 HR ⊢
    rw [hk'.2] at h2 HR ⊢
    have HSt := hidden (start_c key nonce ctr b1 o1 c1 b2 o2 c2 hk'.1 hk'.2 w h1 h2 l1 l2)
    have HK := hidden hk
    clear h1 h2 hk hk'
    have hA : (wcells (initL key ctr nonce)).toArray.size = 16 := by simp [wcells, initL_length]
    have HAS := hidden hA
    have HS : Hid ((Tryd.prog.info? 98).map (·.size) = some (wcells (initL key ctr nonce)).toArray.size) := by
      show _ = _
      rw [hA]
      kernel_rfl
    have HO : Hid ((wcells (initL key ctr nonce)).toArray.all (·.oneCell') = true) := by simp [wcells, Value.oneCell', Hid]
    clear hA
    go_enter Tryd.func60, Tryd.ntmps60
    go_wp2_with fail
    refine HR.out.mono ?_
    rintro e w' ⟨rfl, rfl⟩
    go_wp2_with fail
    refine HSt.out.mono ?_
    rintro e w1 ⟨rfl, hb1⟩
    have HB1 := hidden hb1
    clear hb1 HSt HR
    generalize hAe : (wcells (initL key ctr nonce)).toArray = A at HS HO HAS ⊢
    have HAe := hidden hAe
    clear hAe
    go_upto_region 4 with (first
      | (refine wpList_store_row rfl 98 (.tmp 10) (.tmp 24) rfl w1.heap.size A rfl rfl 98 _ (heap_alloc_new w1 _) HS.out HAS.out.symm HO.out ?_))
    rw [World.setRow_alloc_new]
    have hw2 : WB (w1.alloc (.cells A 98)) w1.heap.size 98 (initL key ctr nonce) := by
      unfold WB
      rw [HAe.out]
      exact heap_alloc_new w1 _
    have hb2 : Below w'.heap.size w' (w1.alloc (.cells A 98)) := HB1.out.alloc HB1.out.size _
    have HG : Hid (w'.heap.size ≤ w1.heap.size) := HB1.out.size
    generalize w1.alloc (.cells A 98) = w2 at hw2 hb2 ⊢
    generalize w1.heap.size = G at hw2 HG ⊢
    have HW2 := hidden hw2
    have HB2 := hidden hb2
    clear hw2 hb2
    go_wp2_with (refine wpList_make_full _ rfl (.tmp 26) (.tmp 26) 22 rfl w'.heap.size 5 i0 _ 1 Tryd.underlying22 HI.out HZ0.out HZ1.out .i64 .i64 _ _ ys.length rfl rfl rfl rfl (by rw [HZ2.out]; omega) (by unfold maxLen; omega) HB2.out.size ?_)
    intro w3 ho3 hgr3
    obtain ⟨Z, hZ, hg3⟩ : ∃ Z : List Value, Z.length = ys.length ∧ w3.heap[w2.heap.size]? = some (.cells Z.toArray 5 (0, 0)) := by
      rcases ho3.2 with ⟨h, _⟩ | ⟨g, cp, cur, h1, h2, h3, h4, h5, h6, h7⟩
      · cases h
      · cases h1
        exact ⟨cur.toList, by simp [h6], by simpa using h3⟩
    have hk3 : Keeps (fun _ => False) w2 w3 := Keeps.ofGrown hgr3 (fun k e => by cases e)
    have hw3 := HW2.out.keep hk3 (fun h => h)
    have hb3 := HB2.out.grown hgr3 HB2.out.size (by simp)
    have HF : Hid (G < w2.heap.size) := lt_of_block HW2.out
    have HZL := hidden hZ
    generalize w2.heap.size = F at hg3 HF ⊢
    clear ho3 hgr3 hk3 HW2 HB2 hZ HS HO HAS HAe HI HZ0 HZ1 HZ2
    obtain ⟨n, hn⟩ : ∃ n, n = ys.length := ⟨_, rfl⟩
    have HN := hidden hn
    have hyn : n ≤ 1000000 := by omega
    have hcn : n ≤ c3 := by omega
    rw [← hn] at H3 ⊢
    clear hn hy hc31
    go_wp2_with fail
    go_loopw [12] (fun at_ wr => ∃ k : Nat, 64 * k ≤ n + 63 ∧ at_ = .int .i64 ((64 * k : Nat) : Int) ∧ wr.heap[F]? = some (.cells (bcells (xorTo key ctr nonce ys (min (64 * k) n)) ++ Z.drop (min (64 * k) n)).toArray 5 (0, 0)) ∧ WB wr G 98 (initL key ((ctr + (k : Int)) % 4294967296) nonce) ∧ Below w'.heap.size w' wr) (fun at_ _ => n + 64 - (intOf at_).toNat)
    case atStart =>
      refine ⟨0, by omega, by simp, by simpa [xorTo, bcells] using hg3, ?_, hb3⟩
      rw [show (ctr + ((0 : Nat) : Int)) % 4294967296 = ctr by have := HC0.out; have := HC1.out; omega]
      exact hw3
    case round =>
      clear hg3 hw3 hb3
      obtain ⟨k, hk, rfl, hg, hw, hb⟩ := hrel
      obtain ⟨t, ht⟩ : ∃ t, t = 64 * k := ⟨_, rfl⟩
      rw [← ht] at hk hg ⊢
      have HT := hidden ht
      clear ht
      by_cases hlt : t < n
      · have hlt' : (t : Int) < (n : Int) := by omega
        rw [Nat.min_eq_left (by omega)] at hg
        have hne : ys ≠ [] := by intro e; have := HN.out; rw [e] at this; simp at this; omega
        obtain ⟨b3, o3, e3⟩ := H3.out.addr hne
        subst e3
        have h3 := H3.out.fresh hb
        have HSB : Hid ((Tryd.prog.info? 98).map (·.size) = some (wcells (initL key ((ctr + (k : Int)) % 4294967296) nonce)).toArray.size) := by
          show _ = _
          rw [show (wcells (initL key ((ctr + (k : Int)) % 4294967296) nonce)).toArray.size = 16 by simp [wcells, initL_length]]
          kernel_rfl
        have HG1 := hidden hg
        have HW1 := hidden hw
        have HB1' := hidden hb
        have H31 := hidden h3
        obtain ⟨wo, ewo⟩ : ∃ x, x = wr := ⟨wr, rfl⟩
        subst ewo
        clear hg hw hb h3 hne
        obtain ⟨ck, hck⟩ : ∃ x, x = (ctr + (k : Int)) % 4294967296 := ⟨_, rfl⟩
        rw [← hck] at HW1 HSB
        have HCK := hidden hck
        clear hck
        go_wp2_with (first
          | (refine wpList_loadRow rfl 98 (.tmp 10) rfl G (wcells (initL key ck nonce)).toArray 98 (0, 0) 16 70 rfl HW1.out Tryd.underlying98 HSB.out ?_))
        refine (block_c _ (initL_length key ck nonce) _).mono ?_
        rintro e w5 ⟨rfl, hb5⟩
        rw [show blockL (initL key ck nonce) = bk key ck nonce from rfl]
        have hlen := bk_length key ck nonce
        have HS5 : Hid ((Tryd.prog.info? 100).map (·.size) = some (bcells (bk key ck nonce)).toArray.size) := by
          show _ = _
          rw [show (bcells (bk key ck nonce)).toArray.size = 64 by rw [List.size_toArray, bcells_length, hlen]]
          kernel_rfl
        have HD5 : Hid (64 = (bcells (bk key ck nonce)).toArray.size) := by show _ = _; rw [List.size_toArray, bcells_length, hlen]
        have HO5 : Hid ((bcells (bk key ck nonce)).toArray.all (·.oneCell') = true) := by simp [bcells, Value.oneCell', Hid]
        have hE : (w5.alloc (.cells (bcells (bk key ck nonce)).toArray 100)).heap[w5.heap.size]? = some (.cells (bcells (bk key ck nonce)).toArray 100 (0, 0)) := heap_alloc_new w5 _
        have hk5 : Keeps (fun _ => False) wo (w5.alloc (.cells (bcells (bk key ck nonce)).toArray 100)) := (Keeps.ofFresh hb5).alloc _
        have hkk : ∀ o : Obj, (w5.alloc o).heap.size = w5.heap.size + 1 := by simp
        have HE5 : Hid (F < w5.heap.size ∧ G < w5.heap.size ∧ wo.heap.size ≤ w5.heap.size) := ⟨Nat.lt_of_lt_of_le (lt_of_block HG1.out) hb5.size, Nat.lt_of_lt_of_le (lt_of_block HW1.out) hb5.size, hb5.size⟩
        have HH := hidden hE
        have HK5 := hidden hk5
        clear hE hk5 hkk hlen hb5
        generalize hRe : (bcells (bk key ck nonce)).toArray = R at HS5 HD5 HO5 HH HK5 ⊢
        have HRe := hidden hRe
        clear hRe
        go_upto_region 9 with (first
          | (refine wpList_store_row rfl 100 (.tmp 13) (.tmp 35) rfl w5.heap.size R rfl rfl 100 _ (heap_alloc_new w5 _) HS5.out HD5.out HO5.out ?_))
        rw [World.setRow_alloc_new]
        generalize w5.alloc (.cells R 100) = w6 at HH HK5 ⊢
        generalize w5.heap.size = E at HE5 HH ⊢
        have HB3 : Hid (b3 < w'.heap.size) := by
          have hne : ys ≠ [] := by intro e; have := HN.out; rw [e] at this; simp at this; omega
          obtain ⟨y, r, hy⟩ : ∃ y r, ys = y :: r := by cases ys with | nil => exact absurd rfl hne | cons y r => exact ⟨y, r, rfl⟩
          have := H3.out
          rw [hy] at this
          exact this.blockLt b3 rfl
        have HB3 : Hid (b3 < w'.heap.size) := by
          have hne : ys ≠ [] := by intro e; have := HN.out; rw [e] at this; simp at this; omega
          obtain ⟨y, r, hy⟩ : ∃ y r, ys = y :: r := by cases ys with | nil => exact absurd rfl hne | cons y r => exact ⟨y, r, rfl⟩
          have := H3.out
          rw [hy] at this
          exact this.blockLt b3 rfl
        have HB3 : Hid (b3 < w'.heap.size) := by
          have hne : ys ≠ [] := by intro e; have := HN.out; rw [e] at this; simp at this; omega
          obtain ⟨y, r, hy⟩ : ∃ y r, ys = y :: r := by cases ys with | nil => exact absurd rfl hne | cons y r => exact ⟨y, r, rfl⟩
          have := H3.out
          rw [hy] at this
          exact this.blockLt b3 rfl
        by_cases hm : t + 64 ≤ n
        · have hm' : ((t : Int) + 64) ≤ (n : Int) := by omega

          go_wp2_with fail
          rw [Nat.add_sub_cancel_left]
          go_loopw [46] (fun i wx => ∃ j : Nat, j ≤ 64 ∧ i = .int .i64 (j : Int) ∧ wx.heap[F]? = some (.cells (bcells (xorTo key ctr nonce ys (t + j)) ++ Z.drop (t + j)).toArray 5 (0, 0)) ∧ Keeps (fun k => k = F) w6 wx) (fun i _ => 64 - (intOf i).toNat)
          case atStart =>
            refine ⟨0, by omega, by simp, ?_, Keeps.refl _ _⟩
            rw [HK5.out.block F (lt_of_block HG1.out) (fun h => h)]
            exact HG1.out
          case round =>
            obtain ⟨j, hj, rfl, hg7, hk7⟩ := hrel
            have hEF : E ≠ F := by have := HE5.out; omega
            have hGF : G ≠ F := by have := HF.out; omega
            by_cases hlt2 : j < 64
            · have hlt3 : (j : Int) < 64 := by omega
              have h37 := (H31.out.keep HK5.out (fun _ _ h => h)).keep hk7 (fun k e h => by simp [Value.ownBlock] at e; have := HB3.out; have := HG.out; have := HF.out; omega)
              have cy := h37.cellD (t + j) (by have := HN.out; omega)
              have hE7 : wr.heap[E]? = some (.cells R 100 (0, 0)) := (hk7.block E (lt_of_block HH.out) hEF).trans HH.out
              have cr : wr.cell? ⟨E, j, none⟩ = some (.int .u8 ((bk key ck nonce).getD j 0).toNat) := by
                rw [← HRe.out] at hE7
                rw [cell_row hE7]
                have := bk_length key ck nonce
                simp [bcells, show j < (bk key ck nonce).length by omega]
              obtain ⟨u, cf⟩ : ∃ u, wr.cell? ⟨F, t + j, none⟩ = some u := by
                rw [cell_row hg7]
                exact ⟨_, List.getElem?_eq_getElem (by rw [List.length_append, bcells_length, xorTo_length, List.length_drop, HZL.out]; have := HN.out; omega)⟩
              have ff := frozen_row hg7 (t + j)
              have HX : Hid (xb key ctr nonce ys (t + j) = ys.getD (t + j) 0 ^^^ (bk key ck nonce).getD j 0) := by
                show _ = _
                have := HT.out
                unfold xb
                rw [show (t + j) / 64 = k by omega, show (t + j) % 64 = j by omega, ← HCK.out]
              have HV : Hid (bits BinOp.xor IntKind.u8 ((ys.getD (t + j) 0).toNat : Int) (((bk key ck nonce).getD j 0).toNat : Int) = ((xb key ctr nonce ys (t + j)).toNat : Int)) := by
                show _ = _
                rw [u8_xor_nat _ _ (UInt8.toNat_lt _) (UInt8.toNat_lt _), HX.out, UInt8.toNat_xor]
              rw [← Nat.add_assoc] at cy
              have HG7 := hidden hg7
              have HK7 := hidden hk7
              have hl0 : (0 : Int) ≤ (j : Int) := Int.natCast_nonneg _
              have hj64 : (j : Int) < 64 := by omega
              have htn : (t : Int) + (j : Int) < (n : Int) := by omega
              clear hg7 hk7 h37 hE7 HX
              generalize ((ys.getD (t + j) 0).toNat : Nat) = xa at cy HV
              generalize ((bk key ck nonce).getD j 0).toNat = xc at cr HV
              go_wp2
              go_roundw
              case rel =>
                refine ⟨j + 1, by omega, by go_num, ?_, HK7.out.setCell (.inl rfl) _⟩
                rw [heap_setCell_same _ _ _ _ _ _ HG7.out, set_next _ _ _ _ (by rw [bcells_length, xorTo_length]) (by intro h; have := congrArg List.length h; rw [List.length_drop, HZL.out, List.length_nil] at this; have := HN.out; omega), HV.out, List.drop_drop, show t + (j + 1) = t + j + 1 by omega, xorTo_succ, bcells_append]
                rfl
              case measure => simp [intOf]; omega
            · have hlt3 : ¬ (j : Int) < 64 := by omega
              obtain rfl : j = 64 := by omega
              have hw7 := (HW1.out.keep HK5.out (fun h => h)).keep hk7 hGF
              have c12 := hw7.cell 12 (by rw [initL_length]; omega)
              rw [initL_get] at c12
              have f12 := hw7.frozen 12
              have HW7 := hidden hw7
              have HG7 := hidden hg7
              have HK7 := hidden hk7
              clear hw7 hg7 hk7
              go_wp2
              go_roundw
              case rel =>
                have hT := HT.out
                have hsub : Keeps (fun k => k = F ∨ k = G) wr (wr.setCell ⟨G, 12, none⟩ (.int .u32 ((ck + 1) % 4294967296))) := (Keeps.refl _ wr).setCell (p := ⟨G, 12, none⟩) (.inl (.inr rfl)) _
                refine ⟨k + 1, by omega, by go_num, ?_, ?_, ?_⟩
                · rw [heap_setCell_other _ _ _ _ (fun e => hGF e.symm), show min (64 * (k + 1)) n = t + 64 by omega]
                  exact HG7.out
                · have h12 := HW7.out.set 12 ((ck + 1) % 4294967296)
                  rw [initL_set] at h12
                  rw [show (ctr + ((k + 1 : Nat) : Int)) % 4294967296 = (ck + 1) % 4294967296 by rw [HCK.out, Int.emod_add_emod]; congr 1; omega]
                  exact h12
                · have hb7 : Below w'.heap.size w' wr := (HB1'.out.trans ((HK5.out.below (B := w'.heap.size) HB1'.out.size (by intro k h; exact h.elim)))).trans (HK7.out.below (B := w'.heap.size) (by have := HB1'.out.size; have := HK5.out.size; omega) (by intro k e; have := HG.out; have := HF.out; omega))
                  exact hb7.setCell HG.out _
              case measure => simp [intOf]; have := HT.out; omega
        · have hm' : ¬ ((t : Int) + 64) ≤ (n : Int) := by omega

          go_wp2_with fail

          go_loopw [46] (fun i wx => ∃ j : Nat, j ≤ (n - t) ∧ i = .int .i64 (j : Int) ∧ wx.heap[F]? = some (.cells (bcells (xorTo key ctr nonce ys (t + j)) ++ Z.drop (t + j)).toArray 5 (0, 0)) ∧ Keeps (fun k => k = F) w6 wx) (fun i _ => (n - t) - (intOf i).toNat)
          case atStart =>
            refine ⟨0, by omega, by simp, ?_, Keeps.refl _ _⟩
            rw [HK5.out.block F (lt_of_block HG1.out) (fun h => h)]
            exact HG1.out
          case round =>
            obtain ⟨j, hj, rfl, hg7, hk7⟩ := hrel
            have hEF : E ≠ F := by have := HE5.out; omega
            have hGF : G ≠ F := by have := HF.out; omega
            by_cases hlt2 : j < (n - t)
            · have hlt3 : (j : Int) < ((n - t : Nat) : Int) := by omega
              have h37 := (H31.out.keep HK5.out (fun _ _ h => h)).keep hk7 (fun k e h => by simp [Value.ownBlock] at e; have := HB3.out; have := HG.out; have := HF.out; omega)
              have cy := h37.cellD (t + j) (by have := HN.out; omega)
              have hE7 : wr.heap[E]? = some (.cells R 100 (0, 0)) := (hk7.block E (lt_of_block HH.out) hEF).trans HH.out
              have cr : wr.cell? ⟨E, j, none⟩ = some (.int .u8 ((bk key ck nonce).getD j 0).toNat) := by
                rw [← HRe.out] at hE7
                rw [cell_row hE7]
                have := bk_length key ck nonce
                simp [bcells, show j < (bk key ck nonce).length by omega]
              obtain ⟨u, cf⟩ : ∃ u, wr.cell? ⟨F, t + j, none⟩ = some u := by
                rw [cell_row hg7]
                exact ⟨_, List.getElem?_eq_getElem (by rw [List.length_append, bcells_length, xorTo_length, List.length_drop, HZL.out]; have := HN.out; omega)⟩
              have ff := frozen_row hg7 (t + j)
              have HX : Hid (xb key ctr nonce ys (t + j) = ys.getD (t + j) 0 ^^^ (bk key ck nonce).getD j 0) := by
                show _ = _
                have := HT.out
                unfold xb
                rw [show (t + j) / 64 = k by omega, show (t + j) % 64 = j by omega, ← HCK.out]
              have HV : Hid (bits BinOp.xor IntKind.u8 ((ys.getD (t + j) 0).toNat : Int) (((bk key ck nonce).getD j 0).toNat : Int) = ((xb key ctr nonce ys (t + j)).toNat : Int)) := by
                show _ = _
                rw [u8_xor_nat _ _ (UInt8.toNat_lt _) (UInt8.toNat_lt _), HX.out, UInt8.toNat_xor]
              rw [← Nat.add_assoc] at cy
              have HG7 := hidden hg7
              have HK7 := hidden hk7
              have hl0 : (0 : Int) ≤ (j : Int) := Int.natCast_nonneg _
              have hj64 : (j : Int) < 64 := by omega
              have htn : (t : Int) + (j : Int) < (n : Int) := by omega
              clear hg7 hk7 h37 hE7 HX
              generalize ((ys.getD (t + j) 0).toNat : Nat) = xa at cy HV
              generalize ((bk key ck nonce).getD j 0).toNat = xc at cr HV
              go_wp2
              go_roundw
              case rel =>
                refine ⟨j + 1, by omega, by go_num, ?_, HK7.out.setCell (.inl rfl) _⟩
                rw [heap_setCell_same _ _ _ _ _ _ HG7.out, set_next _ _ _ _ (by rw [bcells_length, xorTo_length]) (by intro h; have := congrArg List.length h; rw [List.length_drop, HZL.out, List.length_nil] at this; have := HN.out; omega), HV.out, List.drop_drop, show t + (j + 1) = t + j + 1 by omega, xorTo_succ, bcells_append]
                rfl
              case measure => simp [intOf]; omega
            · have hlt3 : ¬ (j : Int) < ((n - t : Nat) : Int) := by omega
              obtain rfl : j = (n - t) := by omega
              have hw7 := (HW1.out.keep HK5.out (fun h => h)).keep hk7 hGF
              have c12 := hw7.cell 12 (by rw [initL_length]; omega)
              rw [initL_get] at c12
              have f12 := hw7.frozen 12
              have HW7 := hidden hw7
              have HG7 := hidden hg7
              have HK7 := hidden hk7
              clear hw7 hg7 hk7
              go_wp2
              go_roundw
              case rel =>
                have hT := HT.out
                have hsub : Keeps (fun k => k = F ∨ k = G) wr (wr.setCell ⟨G, 12, none⟩ (.int .u32 ((ck + 1) % 4294967296))) := (Keeps.refl _ wr).setCell (p := ⟨G, 12, none⟩) (.inl (.inr rfl)) _
                refine ⟨k + 1, by omega, by go_num, ?_, ?_, ?_⟩
                · rw [heap_setCell_other _ _ _ _ (fun e => hGF e.symm), show min (64 * (k + 1)) n = t + (n - t) by omega]
                  exact HG7.out
                · have h12 := HW7.out.set 12 ((ck + 1) % 4294967296)
                  rw [initL_set] at h12
                  rw [show (ctr + ((k + 1 : Nat) : Int)) % 4294967296 = (ck + 1) % 4294967296 by rw [HCK.out, Int.emod_add_emod]; congr 1; omega]
                  exact h12
                · have hb7 : Below w'.heap.size w' wr := (HB1'.out.trans ((HK5.out.below (B := w'.heap.size) HB1'.out.size (by intro k h; exact h.elim)))).trans (HK7.out.below (B := w'.heap.size) (by have := HB1'.out.size; have := HK5.out.size; omega) (by intro k e; have := HG.out; have := HF.out; omega))
                  exact hb7.setCell HG.out _
              case measure => simp [intOf]; have := HT.out; omega
      · have hlt' : ¬ (t : Int) < (n : Int) := by omega
        rw [Nat.min_eq_right (by omega), List.drop_of_length_le (by rw [HZL.out, HN.out]; omega), List.append_nil] at hg
        have HGB : Hid (wr.heap[F]? = some (.cells (bcells (xorL key ctr nonce ys)).toArray 5 (0, 0))) := by
          unfold xorL
          rw [← HN.out]
          exact hg
        have HXL : Hid ((xorL key ctr nonce ys).length = n) := by unfold xorL; rw [xorTo_length]; exact HN.out.symm
        have HB7 := hidden hb
        clear hg hw hb
        go_wp2
        go_ret2
        refine ⟨HB7.out, .inl ⟨HK.out, F, ?_, by have := HG.out; have := HF.out; omega, HGB.out⟩⟩
        rw [HXL.out]
        rfl
  · have hk' : (decide (key.length = 32) && decide (nonce.length = 12)) = false := by simpa [okSizes] using hk
    rw [hk'] at HR
    have HK : Hid (okSizes key nonce = false) := by simpa [Hid] using hk
    obtain ⟨a1, c1, rfl⟩ := h1.len
    obtain ⟨a2, c2, rfl⟩ := h2.len
    clear h1 h2 hk hk'
    go_enter Tryd.func60, Tryd.ntmps60
    go_wp2_with fail
    refine HR.out.mono ?_
    rintro e w' ⟨rfl, rfl⟩
    go_wp2
    go_ret2
    exact ⟨Below.refl _ _, .inr ⟨HK.out, rfl⟩⟩
theorem Xor_c (v1 v2 v3 : Value) (key nonce ys : List UInt8) (ctr : Int) (hc0 : 0 ≤ ctr) (hc1 : ctr < 4294967296) (hy : ys.length ≤ 1000000) (w : World) (h1 : BSl w v1 key) (h2 : BSl w v2 nonce) (h3 : BSl w v3 ys) :
    Calls Tryd.prog 60 #[v1, .int .u32 ctr, v2, v3] w fun e w' => Told w key nonce (xorL key ctr nonce ys) e w' :=
  (Xor_o v1 v2 v3 key nonce ys ctr hc0 hc1 hy w h1 h2 h3).mono fun _ _ h => h.told (by unfold xorL; rw [xorTo_length]; exact hy)
end Go.Proofs.YthkaibkmpenclaaDoor
