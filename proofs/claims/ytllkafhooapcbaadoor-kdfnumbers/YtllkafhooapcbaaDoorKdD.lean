/- One block taken in. -/
import Derived.Test.YtllkafhooapcbaaDoorKdC
namespace Go.Proofs.YtllkafhooapcbaaDoor
open Go Go.RowKit

/-- The rounds' words. -/
def kL : List Int := [1116352408, 1899447441, 3049323471, 3921009573, 961987163, 1508970993, 2453635748, 2870763221, 3624381080, 310598401, 607225278, 1426881987, 1925078388, 2162078206, 2614888103, 3248222580, 3835390401, 4022224774, 264347078, 604807628, 770255983, 1249150122, 1555081692, 1996064986, 2554220882, 2821834349, 2952996808, 3210313671, 3336571891, 3584528711, 113926993, 338241895, 666307205, 773529912, 1294757372, 1396182291, 1695183700, 1986661051, 2177026350, 2456956037, 2730485921, 2820302411, 3259730800, 3345764771, 3516065817, 3600352804, 4094571909, 275423344, 430227734, 506948616, 659060556, 883997877, 958139571, 1322822218, 1537002063, 1747873779, 1955562222, 2024104815, 2227730452, 2361852424, 2428436474, 2756734187, 3204031479, 3329325298]
/-- They lie in their variable. -/
def Rw (w : World) : Prop := 0 < w.heap.size ∧ ∀ i, i < 64 → w.cell? ⟨0, i, none⟩ = some (.int .u32 (kL.getD i 0))
theorem Rw.keep {S : Nat → Prop} {w w' : World} (h : Rw w) (hk : Keeps S w w') (hn : ¬ S 0) : Rw w' :=
  ⟨by have := hk.size; have := h.1; omega, fun i hi => by exact hk.cell (h.2 i hi) hn⟩
theorem Rw.fresh {w w' : World} (h : Rw w) (hb : Below w.heap.size w w') : Rw w' := h.keep (S := fun _ => False) (Keeps.ofFresh hb) (fun h => h)

theorem Keeps.thn {S T : Nat → Prop} {a b c : World} (h : Keeps S a b) (k : Keeps T b c) (hst : ∀ i, T i → S i ∨ a.heap.size ≤ i) : Keeps S a c :=
  ⟨k.os.trans h.os, k.tape.trans h.tape, k.output.trans h.output, Nat.le_trans h.size k.size, fun i hi hs => (k.block i (Nat.lt_of_lt_of_le hi h.size) (fun ht => (hst i ht).elim hs (by omega))).trans (h.block i hi hs)⟩

def mixTo (L W : List Int) : Nat → List Int
  | 0 => L
  | j + 1 => roundL (mixTo L W j) ((W.getD j 0 + kL.getD j 0) % 4294967296)
theorem mixTo_length (L W : List Int) (j : Nat) : (mixTo L W j).length = L.length := by
  induction j with
  | zero => rfl
  | succ j ih => rw [mixTo, roundL_length, ih]
def plusTo (L M : List Int) : Nat → List Int
  | 0 => L
  | j + 1 => (plusTo L M j).set j (((plusTo L M j).getD j 0 + M.getD j 0) % 4294967296)
theorem plusTo_length (L M : List Int) (j : Nat) : (plusTo L M j).length = L.length := by
  induction j with
  | zero => rfl
  | succ j ih => rw [plusTo, List.length_set, ih]
/-- The state behind a block. -/
def blockL (L : List Int) (xs : List UInt8) : List Int := plusTo L (mixTo L (words xs) 64) 8
theorem blockL_length (L : List Int) (xs : List UInt8) : (blockL L xs).length = L.length := plusTo_length _ _ _
theorem row8 {L : List Int} (h : L.length = 8) : (Tryd.prog.info? 55).map (·.size) = some (wcells L).toArray.size ∧ (wcells L).toArray.all (·.oneCell') = true ∧ 8 = (wcells L).toArray.size := by
  have hpl : (wcells L).toArray.size = 8 := by rw [List.size_toArray, wcells_length]; omega
  exact ⟨by rw [hpl]; kernel_rfl, by simp [wcells, Value.oneCell'], by rw [hpl]⟩

/-- What lies ready while a block is taken in: the state, the block's words, the mixed words. -/
structure TI (w wr : World) (g A : Nat) (L W M : List Int) : Prop where
  s : WB wr g 55 L
  n : WB wr A 57 W
  m : WB wr (A + 1) 55 M
  v : Rw wr
  k : Keeps (fun k => k = g) w wr
  a : w.heap.size ≤ A
theorem TI.start {w w1 : World} {g : Nat} {L W : List Int} (hg : WB w g 55 L) (hv : Rw w) (hb : Below w.heap.size w w1) :
    TI w ((w1.alloc (.cells (wcells W).toArray 57)).alloc (.cells (wcells L).toArray 55)) g w1.heap.size L W L := by
  have hl := lt_of_block hg
  have hs := hb.size
  have b2 : Below w.heap.size w ((w1.alloc (.cells (wcells W).toArray 57)).alloc (.cells (wcells L).toArray 55)) := (hb.alloc hs _).alloc (by simp; omega) _
  have hk : Keeps (fun _ => False) w _ := Keeps.ofFresh b2
  refine ⟨hg.keep hk (fun h => h), ?_, ?_, hv.fresh b2, Keeps.ofFresh b2, hs⟩
  · unfold WB
    rw [Below.heap_alloc _ _ _ (by simp)]
    exact heap_alloc_new w1 _
  · unfold WB
    have := heap_alloc_new (w1.alloc (.cells (wcells W).toArray 57)) (.cells (wcells L).toArray 55)
    rwa [show (w1.alloc (.cells (wcells W).toArray 57)).heap.size = w1.heap.size + 1 by simp] at this
theorem TI.mixed {w wr wr' : World} {g A : Nat} {L W M M' : List Int} (h : TI w wr g A L W M) (hk : Keeps (fun k => k = A + 1) wr wr') (hm : WB wr' (A + 1) 55 M') (hg : g < w.heap.size) : TI w wr' g A L W M' := by
  have ha := h.a
  have h0 := h.v.1
  refine ⟨h.s.keep hk (by omega), h.n.keep hk (by omega), hm, h.v.keep hk (by omega), ?_, ha⟩
  exact h.k.thn hk (by intro k e; omega)
theorem TI.added {w wr : World} {g A : Nat} {L W M : List Int} (h : TI w wr g A L W M) (hg : g < w.heap.size) (h0 : g ≠ 0) (i : Nat) (x : Int) : TI w (wr.setCell ⟨g, i, none⟩ (.int .u32 x)) g A (L.set i x) W M := by
  have ha := h.a
  have hk := (Keeps.refl (fun k => k = g) wr).setCell (p := ⟨g, i, none⟩) (.inl rfl) (.int .u32 x)
  exact ⟨h.s.set i x, h.n.keep hk (by omega), h.m.keep hk (by omega), h.v.keep hk (by omega), h.k.trans hk, ha⟩
theorem TI.drew {w wr : World} {g A : Nat} {L W M : List Int} (h : TI w wr g A L W M) : TI w wr.drew g A L W M := ⟨h.s, h.n, h.m, h.v, h.k.drew, h.a⟩

set_option maxHeartbeats 1600000 in
set_option maxRecDepth 100000 in
theorem takeBlock_c (g B O C : Nat) (L : List Int) (hL : L.length = 8) (xs : List UInt8) (hx : xs.length = 64) (hC0 : 64 ≤ C) (w : World) (hr : Rw w) (h0 : g ≠ 0) (hg : WB w g 55 L) (hv : BSl w (.slice (some ⟨B, O, none⟩) 64 C) xs) :
    Calls Tryd.prog 45 #[.pointer (some ⟨g, 0, none⟩), .slice (some ⟨B, O, none⟩) 64 C] w fun e w' => e = .returned (.tuple #[]) ∧ WB w' g 55 (blockL L xs) ∧ Keeps (fun k => k = g) w w' := by
  have hgl := lt_of_block hg
  have HSp := hidden (spread_c B O C xs hx hC0 w hv)
  have HG := hidden hg
  have HR := hidden hr
  have HBl : Hid (blockL L xs = plusTo L (mixTo L (words xs) 64) 8) := rfl
  generalize blockL L xs = BL at HBl ⊢
  clear hv hg hr
  go_enter Tryd.func45, Tryd.ntmps45
  go_wp2_with fail
  refine HSp.out.mono ?_
  rintro e w1 ⟨rfl, hb1⟩
  have HTI := hidden (TI.start (W := words xs) HG.out HR.out hb1)
  obtain ⟨s1, s2, s3⟩ := row64 (words_length xs)
  obtain ⟨q1, q2, q3⟩ := row8 hL
  have hWl := words_length xs
  have HG1 : Hid ((w1.alloc (.cells (wcells (words xs)).toArray 57)).heap[g]? = some (.cells (wcells L).toArray 55 (0, 0))) := by
    show _ = _
    rw [Below.heap_alloc _ _ _ (by have := hb1.size; omega)]
    exact HG.out.keep (S := fun _ => False) (Keeps.ofFresh hb1) (fun h => h)
  have S1 := hidden s1
  have S2 := hidden s2
  have S3 : Hid (64 = (wcells (words xs)).toArray.size) := by show _ = _; rw [List.size_toArray, wcells_length, hWl]
  have Q1 := hidden q1
  have Q2 := hidden q2
  have Q3 := hidden q3
  clear s1 s2 s3 q1 q2 q3 hb1 HSp HG HR
  generalize words xs = W at HTI HG1 S1 S2 S3 HBl hWl ⊢
  have HWl := hidden hWl
  clear hWl
  generalize hWA : (wcells W).toArray = WA at HTI HG1 S1 S2 S3 ⊢
  generalize hLA : (wcells L).toArray = LA at HTI HG1 Q1 Q2 Q3
  clear hWA hLA
  have e1 : (w1.alloc (.cells WA 57)).heap.size = w1.heap.size + 1 := by simp
  have N2 : Hid (∀ o, ((w1.alloc (.cells WA 57)).alloc o).heap[w1.heap.size + 1]? = some o) := fun o => by
    have := heap_alloc_new (w1.alloc (.cells WA 57)) o
    rwa [e1] at this
  have N3 : Hid (∀ z, ((w1.alloc (.cells WA 57)).alloc (.cells z 55)).setRow (w1.heap.size + 1) LA = (w1.alloc (.cells WA 57)).alloc (.cells LA 55)) := fun z => by
    have := World.setRow_alloc_new (w1.alloc (.cells WA 57)) z LA 55
    rwa [e1] at this
  clear e1
  go_wp2_with (first
    | (refine wpList_store_row rfl 57 (.tmp 4) (.tmp 9) rfl w1.heap.size WA rfl rfl 57 _ (heap_alloc_new w1 _) S1.out S3.out S2.out ?_; rw [World.setRow_alloc_new])
    | (refine wpList_loadRow rfl 55 (.tmp 11) rfl g LA 55 (0, 0) 8 53 rfl HG1.out Tryd.underlying55 Q1.out ?_)
    | (refine wpList_store_row rfl 55 (.tmp 5) (.tmp 12) rfl (w1.heap.size + 1) LA rfl rfl 55 _ (N2.out _) Q1.out Q3.out Q2.out ?_; rw [N3.out]))
  generalize (w1.alloc (.cells WA 57)).alloc (.cells LA 55) = w3 at HTI ⊢
  clear N2 N3 HG1 S1 S2 S3 Q1 Q2 Q3
  generalize w1.heap.size = A at HTI ⊢
  go_loopw [13] (fun c wr => ∃ j : Nat, j ≤ 64 ∧ c = .int .i64 (j : Int) ∧ TI w wr g A L W (mixTo L W j)) (fun c _ => 64 - (intOf c).toNat)
  case atStart => exact ⟨0, by omega, rfl, HTI.out⟩
  case round =>
    clear HTI
    obtain ⟨j, hj, rfl, ht⟩ := hrel
    have HT := hidden ht
    clear ht
    by_cases hlt : j < 64
    · have hlt' : (j : Int) < 64 := by omega
      have c1 := HT.out.n.cell j (by rw [HWl.out]; omega)
      have c2 := HT.out.v.2 j hlt
      have HE : Hid (mixTo L W (j + 1) = roundL (mixTo L W j) ((W.getD j 0 + kL.getD j 0) % 4294967296)) := rfl
      have HC : Hid (∀ (x : Int) (wx : World), WB wx (A + 1) 55 (mixTo L W j) → Calls Tryd.prog 51 #[.pointer (some ⟨A + 1, 0, none⟩), .int .u32 x] wx fun en w' => en = .returned (.tuple #[]) ∧ WB w' (A + 1) 55 (roundL (mixTo L W j) x) ∧ Keeps (fun k => k = A + 1) wx w') :=
        fun x wx hx => round_l (A + 1) (mixTo L W j) (by rw [mixTo_length]; exact hL) x wx hx
      generalize W.getD j 0 = x1 at c1 HE
      generalize kL.getD j 0 = x2 at c2 HE
      go_wp2_with fail
      refine region_ord [0,1,3,4,2,5,6,7] (by kernel_rfl) (by kernel_rfl) fun K9 H9 => ?_
      simp only [List.filterMap_cons, List.filterMap_nil, List.getElem?_toArray, List.getElem?_cons_succ, List.getElem?_cons_zero]
      go_wp2_with fail
      refine (HC.out _ _ HT.out.drew.m).mono ?_
      rintro e w4 ⟨rfl, hm4, hk4⟩
      have HN := hidden (HT.out.drew.mixed hk4 hm4 hgl)
      clear hm4 hk4 c1 c2 HT HC
      go_wp2
      go_roundw
      case rel => exact ⟨j + 1, by omega, by go_num, by rw [HE.out]; exact HN.out⟩
      case measure => simp [intOf]; omega
    · have hlt' : ¬ (j : Int) < 64 := by omega
      obtain rfl : j = 64 := by omega
      have hMl : (mixTo L W 64).length = 8 := by rw [mixTo_length]; exact hL
      have HMl := hidden hMl
      clear hMl
      generalize mixTo L W 64 = M at HT HMl HBl
      go_wp2_with fail
      go_loopw [25] (fun c wr => ∃ j : Nat, j ≤ 8 ∧ c = .int .i64 (j : Int) ∧ TI w wr g A (plusTo L M j) W M) (fun c _ => 8 - (intOf c).toNat)
      case atStart => exact ⟨0, by omega, rfl, HT.out⟩
      case round =>
        clear HT
        obtain ⟨j, hj, rfl, ht⟩ := hrel
        have HT := hidden ht
        clear ht
        by_cases hlt2 : j < 8
        · have hlt3 : (j : Int) < 8 := by omega
          have c1 := HT.out.s.cell j (by rw [plusTo_length]; omega)
          have c2 := HT.out.m.cell j (by rw [HMl.out]; omega)
          have fz := HT.out.s.frozen j
          have HE : Hid (plusTo L M (j + 1) = (plusTo L M j).set j (((plusTo L M j).getD j 0 + M.getD j 0) % 4294967296)) := rfl
          generalize (plusTo L M j).getD j 0 = x1 at c1 HE
          generalize M.getD j 0 = x2 at c2 HE
          go_wp2_with fail
          refine region_ord [0,1,2,3,5,6,9,4,7,8,10,11] (by kernel_rfl) (by kernel_rfl) fun K9 H9 => ?_
          simp only [List.filterMap_cons, List.filterMap_nil, List.getElem?_toArray, List.getElem?_cons_succ, List.getElem?_cons_zero]
          go_wp2
          go_roundw
          case rel =>
            refine ⟨j + 1, by omega, by go_num, ?_⟩
            rw [HE.out]
            exact (HT.out.added hgl h0 j _).drew
          case measure => simp [intOf]; omega
        · have hlt3 : ¬ (j : Int) < 8 := by omega
          obtain rfl : j = 8 := by omega
          go_wp2
          go_end0
          exact ⟨rfl, by rw [HBl.out]; exact HT.out.s, HT.out.k⟩
end Go.Proofs.YtllkafhooapcbaaDoor
