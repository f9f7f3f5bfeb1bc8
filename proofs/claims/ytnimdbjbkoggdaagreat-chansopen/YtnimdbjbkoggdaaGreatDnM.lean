/- The walk of ChansOpen. -/
import Derived.Test.YtnimdbjbkoggdaaGreatDmE
namespace Go.Proofs.YtnimdbjbkoggdaaGreat
open Go Go.RowKit

def IntS (w : World) (v : Value) (zs : List Int) : Prop :=
  ∃ ao cap, v = .slice ao zs.length cap ∧ zs.length ≤ cap ∧ cap ≤ maxLen ∧ ∀ j (hj : j < zs.length), ∃ b off, ao = some ⟨b, off, none⟩ ∧ w.cell? ⟨b, off + j, none⟩ = some (.int .i64 zs[j])
theorem IntS.at {w w' : World} {ao : Option Addr} {n cap : Nat} {zs : List Int} (h : IntS w (.slice ao n cap) zs) (hb : Below w.heap.size w w') (j : Nat) (hj : j < zs.length) : ∃ b off, ao = some ⟨b, off, none⟩ ∧ w'.cell? ⟨b, off + j, none⟩ = some (.int .i64 zs[j]) := by
  obtain ⟨ao, cap, e, _, _, hx⟩ := h
  cases e
  obtain ⟨b, off, h1, h2⟩ := hx j hj
  exact ⟨b, off, h1, (Keeps.ofFresh (S := fun _ => False) hb).cell h2 (fun h => h)⟩
def Fact.upto (n : Nat) : Fact := ⟨fun v _ => ∃ q : Nat, q ≤ n ∧ v = .int .i64 q, fun _ _ _ _ h => h⟩
/-- A number q, told as f q. -/
def Fact.made (n : Nat) (f : Nat → Int) : Fact := ⟨fun v _ => ∃ q : Nat, q ≤ n ∧ v = .int .i64 (f q), fun _ _ _ _ h => h⟩
/-- A place of an ask, new since B. -/
def Fact.place (B : Nat) : Fact := ⟨fun v w => ∃ g, v = .pointer (some ⟨g, 0, none⟩) ∧ B ≤ g ∧ w.heap[g]? = some (.cells #[.int .i64 0, .int .i64 0, .int .i64 0, .int .i64 0, .string ⟨#[]⟩, .slice none 0 0] 24 (0, 0)), fun _ _ _ he ⟨g, h1, h2, h3⟩ => ⟨g, h1, h2, (he.block g (lt_of_block h3)).trans h3⟩⟩
/-- An ask that opens channel j. -/
def Fact.asks (j : Nat) : Fact := ⟨fun v _ => ∃ q r : Nat, q ≤ 100 ∧ r ≤ 100 ∧ v = .agg #[.int .i64 1, .int .i64 (j : Int), .int .i64 ((6 * q : Nat) : Int), .int .i64 ((1 + r : Nat) : Int), .string ⟨#[]⟩, .slice none 0 0], fun _ _ _ _ h => h⟩
theorem built_ask (j : Nat) (x y : Int) : Tryz.prog.built 24 [(0, .int .i64 1), (1, .int .i64 (j : Int)), (2, .int .i64 x), (3, .int .i64 y)] = some #[.int .i64 1, .int .i64 (j : Int), .int .i64 x, .int .i64 y, .string ⟨#[]⟩, .slice none 0 0] := by kernel_rfl
theorem all_ask (j : Nat) (x y : Int) : (#[.int .i64 1, .int .i64 (j : Int), .int .i64 x, .int .i64 y, .string ⟨#[]⟩, .slice none 0 0] : Array Value).all (·.oneCell') = true := by kernel_rfl
theorem set6_1 {w : World} {a : Nat} {t : TypeId} {v0 v1 v2 v3 v4 v5 : Value} (h : w.heap[a]? = some (.cells #[v0, v1, v2, v3, v4, v5] t (0, 0))) (u : Value) : (w.setCell ⟨a, 1, none⟩ u).heap[a]? = some (.cells #[v0, u, v2, v3, v4, v5] t (0, 0)) := by
  rw [heap_setCell_same _ _ _ _ _ _ h]
  rfl
theorem set6_2 {w : World} {a : Nat} {t : TypeId} {v0 v1 v2 v3 v4 v5 : Value} (h : w.heap[a]? = some (.cells #[v0, v1, v2, v3, v4, v5] t (0, 0))) (u : Value) : (w.setCell ⟨a, 2, none⟩ u).heap[a]? = some (.cells #[v0, v1, u, v3, v4, v5] t (0, 0)) := by
  rw [heap_setCell_same _ _ _ _ _ _ h]
  rfl
theorem Tryz.infoAsk : (Tryz.prog.info? 24).map (·.size) = some 6 := by kernel_rfl
section
variable {o : Oper} {ρ : Operand → Value} {w w0 : World} {x y z : Operand} {v vx vy vz : Value} {Φ : Value → World → Prop}
theorem zeroAsk (w : World) : (zeroValue 24).run Tryz.prog w = .ok (.agg #[.int .i64 0, .int .i64 0, .int .i64 0, .int .i64 0, .string ⟨#[]⟩, .slice none 0 0]) w := by
  have hi : (Tryz.prog.info? 24).map (·.zero) = some (some (.agg #[.int .i64 0, .int .i64 0, .int .i64 0, .int .i64 0, .string ⟨#[]⟩, .slice none 0 0])) := by kernel_rfl
  unfold zeroValue
  cases h : Tryz.prog.info? 24 with
  | none => rw [h] at hi; cases hi
  | some i =>
    rw [h] at hi
    simp at hi
    simp [Sem.run_bind, typeInfo, h, hi]
theorem gives_place (ho : o.op = .alloc 24) (he : Ex w0 w) : Gives Tryz.prog o ρ w fun v w2 => Ex w w2 ∧ (Fact.place w0.heap.size).holds v w2 := by
  refine Gives.value (w' := w.alloc (.cells #[.int .i64 0, .int .i64 0, .int .i64 0, .int .i64 0, .string ⟨#[]⟩, .slice none 0 0] 24)) (v := .pointer (some ⟨w.heap.size, 0, none⟩)) ?_ ⟨Ex.alloc w _, ⟨w.heap.size, rfl, he.size, heap_alloc_new w _⟩⟩
  unfold execOp
  simp only [ho]
  simp [Instr.alloc, zeroAsk w, newVar]
  rfl
theorem elemIs : Tryz.prog.underlying 40 = some (.slice (Tryz.prog.elem 40)) := by kernel_rfl
theorem elemIsEq : Tryz.prog.elem 40 = 3 := by kernel_rfl
theorem Tryz.infoIn : (Tryz.prog.info? 3).map (·.size) = some 1 := by kernel_rfl
theorem gives_indexI {b off n cp i : Nat} (hi : i < n) (ho : o.op = .indexAddr 40 x y) (hx : ρ x = .slice (some ⟨b, off, none⟩) n cp) (hy : ρ y = .int .i64 (i : Int)) (h : Φ (.pointer (some ⟨b, off + i, none⟩)) w) : Gives Tryz.prog o ρ w Φ := by
  refine Gives.value (w' := w) (v := .pointer (some ⟨b, off + i, none⟩)) ?_ h
  obtain ⟨i0, hi0, hz1⟩ := Option.map_eq_some_iff.1 Tryz.infoIn
  unfold execOp
  simp only [ho]
  rw [hx, hy]
  simp [run_indexAt_slice w _ _ _ _ _ _ elemIs, elemIsEq, sizeOf, typeInfo, hi0, hz1, add_lit', show (i : Int) < (n : Int) by omega]
end

set_option maxHeartbeats 3200000 in
set_option maxRecDepth 100000 in
theorem chansOpen_c (u : Value) (qs : List AskD) (uw : Value) (zs : List Int) (um : Value) (ys : List Int) (w : World) (hu : ASl w u qs) (hw : IntS w uw zs) (hm : IntS w um ys) :
    Calls Tryz.prog 5 #[u, uw, um] w fun e w' => e = .returned (.bool true) ∧ Below w.heap.size w w' := by
  have HA := hidden hu
  have HWI := hidden hw
  have HMO := hidden hm
  obtain ⟨ua, uc, rfl, _⟩ := id hu
  obtain ⟨wa, wc, rfl, _⟩ := id hw
  obtain ⟨ma, mc, rfl, _⟩ := id hm
  have HKN : Hid (∀ w1, Calls Tryz.prog 8 #[] w1 fun e w' => e = .returned (.bool true) ∧ Below w1.heap.size w1 w') := hidden known_c
  clear hu hw hm
  go_enter Tryz.func5, Tryz.ntmps5
  go_wp2_with fail
  refine (New_c w).mono ?_
  rintro e w1 ⟨rfl, hm1, hb1⟩
  have HJ0 := hidden (JI.new hm1 hb1)
  clear hm1 hb1
  obtain ⟨a, ha⟩ : ∃ a, a = w.heap.size := ⟨_, rfl⟩
  obtain ⟨b, hb⟩ : ∃ b, b = w1.heap.size := ⟨_, rfl⟩
  rw [← ha, ← hb] at HJ0
  rw [← ha]
  clear ha
  go_wp2_with fail
  rw [← hb]
  clear hb
  generalize w1.alloc (.cells #[.bool false, .bool false, .bool false, .bool false, .int .u32 0, .complex .f64 0 0, .int .i64 0, .slice none 0 0, .bool false, .bool false, .bool false, .bool false, .int .u32 0, .complex .f64 0 0, .int .i64 0, .slice none 0 0, .bool false, .bool false, .bool false, .bool false, .int .u32 0, .complex .f64 0 0, .int .i64 0, .slice none 0 0, .bool false, .bool false, .bool false, .bool false, .int .u32 0, .complex .f64 0 0, .int .i64 0, .slice none 0 0, .bool false] 36) = w2 at *
  generalize hn : qs.length = n at *
  have HN := hidden hn
  clear hn
  generalize Value.agg #[.bool false, .bool false, .bool false, .bool false, .int .u32 0, .complex .f64 0 0, .int .i64 0, .slice none 0 0, .bool false, .bool false, .bool false, .bool false, .int .u32 0, .complex .f64 0 0, .int .i64 0, .slice none 0 0, .bool false, .bool false, .bool false, .bool false, .int .u32 0, .complex .f64 0 0, .int .i64 0, .slice none 0 0, .bool false, .bool false, .bool false, .bool false, .int .u32 0, .complex .f64 0 0, .int .i64 0, .slice none 0 0, .bool false] = zq
  go_loopw [9, 10] (fun t _ wr => ∃ (j : Nat), j ≤ 4 ∧ t = .int .i64 (j : Int) ∧ ∃ P Q S, OkM (600 * j) S ∧ JI w wr P Q a b S) (fun t _ _ => 4 - (intOf t).toNat)
  case atStart => exact ⟨0, by omega, rfl, _, _, _, okM_new _, HJ0.out⟩
  case round =>
    obtain ⟨j, hj, rfl, P, Q, S, hok, hji⟩ := hrel
    have HOK := hidden hok
    have HJ := hidden hji
    clear hok hji HJ0
    by_cases hjw : j < zs.length
    · have i1 : (j : Int) < (zs.length : Int) := by omega
      by_cases hjm : j < ys.length
      · have i2 : (j : Int) < (ys.length : Int) := by omega
        by_cases hj4 : j < 4
        · have i3 : (j : Int) < 4 := by omega
          obtain ⟨bw, ow, ew, d1⟩ := HWI.out.at HJ.out.bl j hjw
          obtain ⟨bm, om, em, d2⟩ := HMO.out.at HJ.out.bl j hjm
          subst ew em
          generalize zs[j] = z1 at d1
          generalize ys[j] = z2 at d2
          have C1 := hidden d1
          have C2 := hidden d2
          clear d1 d2
          go_upto_region 8 with fail
          refine region_store [(.val (.int .i64 (j : Int))), (.val (.slice (some ⟨bw, ow, none⟩) zs.length wc)), (.val (.int .i64 (j : Int))), (.val (.pointer (some ⟨bw, ow + j, none⟩))), (.val (.int .i64 z1)), (.upto 100), (.made 100 (fun q => ((6 * q : Nat) : Int))), (.val (.slice (some ⟨bm, om, none⟩) ys.length mc)), (.val (.int .i64 (j : Int))), (.val (.pointer (some ⟨bm, om + j, none⟩))), (.val (.int .i64 z2)), (.upto 100), (.made 100 (fun q => ((1 + q : Nat) : Int))), (.asks j), (.place wr.heap.size)] 15 rfl (by kernel_rfl) ?_ (by kernel_rfl) (by kernel_rfl) 24 10 47 (by show _ = _; kernel_rfl) ?_
          · refine reqU_cons (.val (.int .i64 (j : Int))) (by kernel_rfl) (fun vs w1 he hd => gives_move (x := .tmp 9) (by kernel_rfl) (by kernel_rfl) ⟨Ex.refl _, rfl⟩) ?_
            refine reqU_cons (.val (.slice (some ⟨bw, ow, none⟩) zs.length wc)) (by kernel_rfl) (fun vs w1 he hd => gives_move (x := .tmp 1) (by kernel_rfl) (by kernel_rfl) ⟨Ex.refl _, rfl⟩) ?_
            refine reqU_cons (.val (.int .i64 (j : Int))) (by kernel_rfl) (fun vs w1 he hd => gives_move (x := .tmp 9) (by kernel_rfl) (by kernel_rfl) ⟨Ex.refl _, rfl⟩) ?_
            refine reqU_cons (.val (.pointer (some ⟨bw, ow + j, none⟩))) (by kernel_rfl) (fun vs w1 he hd => gives_indexI (i := j) hjw (x := .tmp 35) (y := .tmp 36) (by kernel_rfl) (Eq.trans (b := vs 1) (by kernel_rfl) (hd 1 (.val (.slice (some ⟨bw, ow, none⟩) zs.length wc)) (by decide) (by kernel_rfl) (by kernel_rfl))) (Eq.trans (b := vs 2) (by kernel_rfl) (hd 2 (.val (.int .i64 (j : Int))) (by decide) (by kernel_rfl) (by kernel_rfl))) ⟨Ex.refl _, rfl⟩) ?_
            refine reqU_cons (.val (.int .i64 z1)) (by kernel_rfl) (fun vs w1 he hd => gives_ldi (x := .tmp 37) (by kernel_rfl) (Eq.trans (b := vs 3) (by kernel_rfl) (hd 3 (.val (.pointer (some ⟨bw, ow + j, none⟩))) (by decide) (by kernel_rfl) (by kernel_rfl))) (cell_ex C1.out he) ⟨Ex.refl _, rfl⟩) ?_
            refine reqU_cons (.upto 100) (by kernel_rfl) (fun vs w1 he hd => gives_call (fn := Tryz.f9) (f := 9) (xs := #[.tmp 38, .const (.int .i64 0), .const (.int .i64 100)]) (ts := #[3, 3, 3]) (vs := #[(.int .i64 z1), .int .i64 0, .int .i64 100]) (by kernel_rfl) (by kernel_rfl) (Eq.trans (b := #[vs 4, .int .i64 0, .int .i64 100]) (by kernel_rfl) (by rw [show vs 4 = (.int .i64 z1) from (hd 4 (.val (.int .i64 z1)) (by decide) (by kernel_rfl) (by kernel_rfl))])) (by kernel_rfl) (by kernel_rfl) (by kernel_rfl) ((within_c z1 100 (by omega) w1).mono fun e w2 ⟨q, h1, h2, h3⟩ => ⟨_, h1, by rw [h3]; exact Ex.refl _, q, h2, rfl⟩)) ?_
            refine reqU_cons (.made 100 (fun q => ((6 * q : Nat) : Int))) (by kernel_rfl) (fun vs w1 he hd => (let ⟨q, h1, h2⟩ := (hd 5 (.upto 100) (by decide) (by kernel_rfl) (by kernel_rfl)); gives_mulI (t := 3) (a := 6) (b := (q : Int)) (c := ((6 * q : Nat) : Int)) (x := .const (.int .i64 6)) (y := .tmp 39) (by kernel_rfl) (by kernel_rfl) (Eq.trans (b := vs 5) (by kernel_rfl) h2) (by rw [show (6 : Int) * (q : Int) = ((6 * q : Nat) : Int) by omega]; exact wrap_small _ (by omega) (by omega)) ⟨Ex.refl _, q, h1, rfl⟩)) ?_
            refine reqU_cons (.val (.slice (some ⟨bm, om, none⟩) ys.length mc)) (by kernel_rfl) (fun vs w1 he hd => gives_move (x := .tmp 2) (by kernel_rfl) (by kernel_rfl) ⟨Ex.refl _, rfl⟩) ?_
            refine reqU_cons (.val (.int .i64 (j : Int))) (by kernel_rfl) (fun vs w1 he hd => gives_move (x := .tmp 9) (by kernel_rfl) (by kernel_rfl) ⟨Ex.refl _, rfl⟩) ?_
            refine reqU_cons (.val (.pointer (some ⟨bm, om + j, none⟩))) (by kernel_rfl) (fun vs w1 he hd => gives_indexI (i := j) hjm (x := .tmp 41) (y := .tmp 42) (by kernel_rfl) (Eq.trans (b := vs 7) (by kernel_rfl) (hd 7 (.val (.slice (some ⟨bm, om, none⟩) ys.length mc)) (by decide) (by kernel_rfl) (by kernel_rfl))) (Eq.trans (b := vs 8) (by kernel_rfl) (hd 8 (.val (.int .i64 (j : Int))) (by decide) (by kernel_rfl) (by kernel_rfl))) ⟨Ex.refl _, rfl⟩) ?_
            refine reqU_cons (.val (.int .i64 z2)) (by kernel_rfl) (fun vs w1 he hd => gives_ldi (x := .tmp 43) (by kernel_rfl) (Eq.trans (b := vs 9) (by kernel_rfl) (hd 9 (.val (.pointer (some ⟨bm, om + j, none⟩))) (by decide) (by kernel_rfl) (by kernel_rfl))) (cell_ex C2.out he) ⟨Ex.refl _, rfl⟩) ?_
            refine reqU_cons (.upto 100) (by kernel_rfl) (fun vs w1 he hd => gives_call (fn := Tryz.f9) (f := 9) (xs := #[.tmp 44, .const (.int .i64 0), .const (.int .i64 100)]) (ts := #[3, 3, 3]) (vs := #[(.int .i64 z2), .int .i64 0, .int .i64 100]) (by kernel_rfl) (by kernel_rfl) (Eq.trans (b := #[vs 10, .int .i64 0, .int .i64 100]) (by kernel_rfl) (by rw [show vs 10 = (.int .i64 z2) from (hd 10 (.val (.int .i64 z2)) (by decide) (by kernel_rfl) (by kernel_rfl))])) (by kernel_rfl) (by kernel_rfl) (by kernel_rfl) ((within_c z2 100 (by omega) w1).mono fun e w2 ⟨q, h1, h2, h3⟩ => ⟨_, h1, by rw [h3]; exact Ex.refl _, q, h2, rfl⟩)) ?_
            refine reqU_cons (.made 100 (fun q => ((1 + q : Nat) : Int))) (by kernel_rfl) (fun vs w1 he hd => (let ⟨q, h1, h2⟩ := (hd 11 (.upto 100) (by decide) (by kernel_rfl) (by kernel_rfl)); gives_addI (t := 3) (a := 1) (b := (q : Int)) (c := ((1 + q : Nat) : Int)) (x := .const (.int .i64 1)) (y := .tmp 45) (by kernel_rfl) (by kernel_rfl) (Eq.trans (b := vs 11) (by kernel_rfl) h2) (by rw [show (1 : Int) + (q : Int) = ((1 + q : Nat) : Int) by omega]; exact wrap_small _ (by omega) (by omega)) ⟨Ex.refl _, q, h1, rfl⟩)) ?_
            refine reqU_cons (.asks j) (by kernel_rfl) (fun vs w1 he hd => (let ⟨q, h1, h2⟩ := (hd 6 (.made 100 (fun q => ((6 * q : Nat) : Int))) (by decide) (by kernel_rfl) (by kernel_rfl)); let ⟨r, h3, h4⟩ := (hd 12 (.made 100 (fun q => ((1 + q : Nat) : Int))) (by decide) (by kernel_rfl) (by kernel_rfl)); gives_build (t := 24) (parts := #[(0, .const (.int .i64 1)), (1, .tmp 34), (2, .tmp 40), (3, .tmp 46)]) (by kernel_rfl) (Eq.trans (b := Tryz.prog.built 24 [(0, .int .i64 1), (1, vs 0), (2, vs 6), (3, vs 12)]) (by kernel_rfl) (by rw [show vs 0 = (.int .i64 (j : Int)) from (hd 0 (.val (.int .i64 (j : Int))) (by decide) (by kernel_rfl) (by kernel_rfl)), h2, h4]; exact built_ask j _ _)) ⟨Ex.refl _, q, r, h1, h3, rfl⟩)) ?_
            refine reqU_cons (.place wr.heap.size) (by kernel_rfl) (fun vs w1 he hd => gives_place (by kernel_rfl) he) reqU_nil
          · intro vs w5 o5 he hF ho hdst
            obtain ⟨q, r, hq, hr, e13⟩ : ∃ q r : Nat, q ≤ 100 ∧ r ≤ 100 ∧ vs 13 = .agg #[.int .i64 1, .int .i64 (j : Int), .int .i64 ((6 * q : Nat) : Int), .int .i64 ((1 + r : Nat) : Int), .string ⟨#[]⟩, .slice none 0 0] := told_at hF 13 (.asks j) (by decide) (by kernel_rfl)
            obtain ⟨g, e14, hg, hblk⟩ : ∃ g, vs 14 = .pointer (some ⟨g, 0, none⟩) ∧ wr.heap.size ≤ g ∧ w5.heap[g]? = some (.cells #[.int .i64 0, .int .i64 0, .int .i64 0, .int .i64 0, .string ⟨#[]⟩, .slice none 0 0] 24 (0, 0)) := told_at hF 14 (.place wr.heap.size) (by decide) (by kernel_rfl)
            have hth5 : w5.there g 0 (#[.int .i64 1, .int .i64 (j : Int), .int .i64 ((6 * q : Nat) : Int), .int .i64 ((1 + r : Nat) : Int), .string ⟨#[]⟩, .slice none 0 0] : Array Value).size := there_mid (A := []) (Z := []) (M := [.int .i64 0, .int .i64 0, .int .i64 0, .int .i64 0, .string ⟨#[]⟩, .slice none 0 0]) (n := 6) hblk rfl
            refine wp_store_mid 24 (.tmp 10) (.tmp 47) ho g 0 _ (Eq.trans (b := vs 14) (by kernel_rfl) e14) (Eq.trans (b := vs 13) (by kernel_rfl) e13) hth5 Tryz.infoAsk (all_ask j _ _) ?_
            rw [hdst]
            have hW6 : (w5.setCells g 0 (#[.int .i64 1, .int .i64 (j : Int), .int .i64 ((6 * q : Nat) : Int), .int .i64 ((1 + r : Nat) : Int), .string ⟨#[]⟩, .slice none 0 0] : Array Value).toList).heap[g]? = some (.cells #[.int .i64 1, .int .i64 (j : Int), .int .i64 ((6 * q : Nat) : Int), .int .i64 ((1 + r : Nat) : Int), .string ⟨#[]⟩, .slice none 0 0] 24 (0, 0)) := by
              have := setCells_mid (a := g) (Z := []) (#[.int .i64 1, .int .i64 (j : Int), .int .i64 ((6 * q : Nat) : Int), .int .i64 ((1 + r : Nat) : Int), .string ⟨#[]⟩, .slice none 0 0] : Array Value).toList [.int .i64 0, .int .i64 0, .int .i64 0, .int .i64 0, .string ⟨#[]⟩, .slice none 0 0] [] w5 rfl hblk
              simpa using this
            have hk6 := setCells_keeps g (#[.int .i64 1, .int .i64 (j : Int), .int .i64 ((6 * q : Nat) : Int), .int .i64 ((1 + r : Nat) : Int), .string ⟨#[]⟩, .slice none 0 0] : Array Value).toList 0 w5
            have hkw : Keeps (fun _ => False) wr (w5.setCells g 0 (#[.int .i64 1, .int .i64 (j : Int), .int .i64 ((6 * q : Nat) : Int), .int .i64 ((1 + r : Nat) : Int), .string ⟨#[]⟩, .slice none 0 0] : Array Value).toList) := ⟨hk6.os.trans he.os, hk6.tape.trans he.tape, hk6.output.trans he.output, Nat.le_trans he.size hk6.size, fun k h1 _ => (hk6.block k (Nat.lt_of_lt_of_le h1 he.size) (by omega)).trans (he.block k h1)⟩
            have HJ6 := hidden (HJ.out.still hkw)
            have HBK := hidden hW6
            simp only [actsTo, if_true, dstOf, List.getElem?_toArray, List.getElem?_cons_succ, List.getElem?_cons_zero, Option.bind_some, Act.put, List.setIfInBounds_toArray, List.set_cons_zero, List.set_cons_succ]
            rw [e14]
            clear hF e13 e14 he hg hblk hth5 hW6 hk6 hkw C1 C2
            generalize hw6 : w5.setCells g 0 _ = w6
            have hw6' : w5.setCells g 0 (#[.int .i64 1, .int .i64 (j : Int), .int .i64 ((6 * q : Nat) : Int), .int .i64 ((1 + r : Nat) : Int), .string ⟨#[]⟩, .slice none 0 0] : Array Value).toList = w6 := hw6
            rw [hw6'] at HJ6 HBK
            clear hw6 hw6'
            have HD1 := hidden (do_q 1 (j : Int) ((6 * q : Nat) : Int) ((1 + r : Nat) : Int) ⟨#[]⟩ (.slice none 0 0) [] w6 HJ6.out HOK.out (by omega) (bsl_none _))
            unfold AskV at HD1
            obtain ⟨k0, k1, k2, k3, k4, k5, kf⟩ := cells6 HBK.out
            generalize ((6 * q : Nat) : Int) = x1 at *
            generalize ((1 + r : Nat) : Int) = x2 at *
            go_wp2_with fail
            refine HD1.out.mono ?_
            rintro e w7 ⟨rfl, P1, Q1, S1, hok1, hji1⟩
            have HD2 := hidden (do_q 2 (j : Int) 0 0 ⟨#[]⟩ (.slice none 0 0) [] w7 hji1 hok1 (by omega) (bsl_none _))
            unfold AskV at HD2
            clear HD1 HJ6 HBK k0 k1 k2 k3 k4 k5 kf hok1 hji1 HJ HOK
            go_wp2_with fail
            refine HD2.out.mono ?_
            rintro e w8 ⟨rfl, P2, Q2, S2, hok2, hji2⟩
            have HOK2 := hidden hok2
            have HJ2 := hidden hji2
            clear HD2 hok2 hji2
            go_wp2_with fail
            go_roundw
            case rel => exact ⟨j + 1, by omega, by go_num, P2, Q2, S2, HOK2.out.mono (by omega), HJ2.out⟩
            case measure => simp [intOf]; omega
        · have i3 : ¬ (j : Int) < 4 := by omega
          have HOK0 := hidden (HOK.out.mono (show 600 * j ≤ 2400 by omega))
          obtain ⟨wo, eo⟩ : ∃ x, x = wr := ⟨_, rfl⟩
          subst eo
          have HJ0 := HJ
          clear HJ HOK
          go_wp2_with fail
          go_loopw [11, 12] (fun t _ wr => ∃ (i : Nat), i ≤ n ∧ i ≤ 40 ∧ t = .int .i64 (i : Int) ∧ ∃ P Q S, OkM (2400 + 300 * i) S ∧ JI w wr P Q a b S) (fun t _ _ => n - (intOf t).toNat)
          case atStart => exact ⟨0, by omega, by omega, rfl, _, _, _, HOK0.out, HJ0.out⟩
          case round =>
            obtain ⟨i, hi, hi40, rfl, P3, Q3, S3, hok, hji⟩ := hrel
            have HOK := hidden hok
            have HJ := hidden hji
            clear hok hji HJ0 HOK0
            by_cases hlt : i < n ∧ i < 40
            · have l1 : (i : Int) < (n : Int) := by omega
              have l2 : (i : Int) < 40 := by omega
              have hiq : i < qs.length := by rw [HN.out]; exact hlt.1
              obtain ⟨ab, off, eu, ⟨c0, c1, c2, c3, c4, c5⟩, hb5⟩ := (HA.out.fresh HJ.out.bl).at i hiq
              subst eu
              have hbq : BSl w (qs[i]).b (qs[i]).bs := (HA.out.at i hiq).choose_spec.choose_spec.2.2
              have HBQ := hidden hbq
              obtain ⟨ba, bc, eb⟩ := hbq.len
              clear hb5 hbq
              obtain ⟨x, hx⟩ : ∃ x, x = qs[i] := ⟨_, rfl⟩
              rw [← hx] at HBQ c0 c1 c2 c3 c4 c5 eb
              clear hx hiq
              generalize x.k = xk at *
              generalize x.ch = xc at *
              generalize x.n = xn at *
              generalize x.m = xm at *
              generalize x.s = xs at *
              generalize x.b = xb at *
              generalize hxl : x.bs.length = xbl at *
              subst eb
              have HBX := hidden (heap_alloc_new wr (.cells #[.int .i64 xk, .int .i64 xc, .int .i64 xn, .int .i64 xm, .string xs, .slice ba xbl bc] 24))
              have HJX := hidden (HJ.out.still ((Keeps.refl _ _).alloc (.cells #[.int .i64 xk, .int .i64 xc, .int .i64 xn, .int .i64 xm, .string xs, .slice ba xbl bc] 24)))
              generalize x.bs = xbs at *
              clear hxl
              go_upto_region 15 with fail
              have HKO : Hid (∀ w', Keeps (fun k => k = wr.heap.size) (wr.alloc (.cells #[.int .i64 xk, .int .i64 xc, .int .i64 xn, .int .i64 xm, .string xs, .slice ba xbl bc] 24)) w' → JI w w' P3 Q3 a b S3) := hidden fun w' hk => HJ.out.still (keeps_out hk)
              obtain ⟨bx, hbx⟩ : ∃ bx, bx = wr.heap.size := ⟨_, rfl⟩
              rw [← hbx] at HBX HKO
              rw [← hbx]
              clear hbx c0 c1 c2 c3 c4 c5 HJX
              generalize wr.alloc (.cells #[.int .i64 xk, .int .i64 xc, .int .i64 xn, .int .i64 xm, .string xs, .slice ba xbl bc] 24) = wx at *
              obtain ⟨k0, k1, k2, k3, k4, k5, kf⟩ := cells6 HBX.out
              go_wp2_with fail
              refine (within_c xc 3 (by omega) wx).mono ?_
              rintro e wx ⟨q, rfl, hq, rfl⟩
              have HKY := hidden (keepsSet wx bx 1 (.int .i64 (q : Int)))
              have HBY := hidden (set6_1 HBX.out (.int .i64 (q : Int)))
              go_upto_region 16 with fail
              clear k0 k1 k2 k3 k4 k5 kf HBX
              generalize wx.setCell ⟨bx, 1, none⟩ (.int .i64 (q : Int)) = wy at *
              obtain ⟨k0, k1, k2, k3, k4, k5, kf⟩ := cells6 HBY.out
              by_cases hk4 : xk = 4
              · subst hk4
                go_wp2_with fail
                refine (within_c xn 200 (by omega) wy).mono ?_
                rintro e wy ⟨q2, rfl, hq2, rfl⟩
                have HKZ := hidden (HKY.out.trans (keepsSet wy bx 2 (.int .i64 (q2 : Int))))
                have HBZ := hidden (set6_2 HBY.out (.int .i64 (q2 : Int)))
                have HJZ := hidden (HKO.out _ HKZ.out)
                have HDO := hidden (do_q 4 (q : Int) (q2 : Int) xm xs (.slice ba xbl bc) xbs _ HJZ.out HOK.out (by omega) HBQ.out)
                unfold AskV at HDO
                go_upto_region 18 with fail
                clear k0 k1 k2 k3 k4 k5 kf
                generalize wy.setCell ⟨bx, 2, none⟩ (.int .i64 (q2 : Int)) = wz at *
                obtain ⟨k0, k1, k2, k3, k4, k5, kf⟩ := cells6 HBZ.out
                go_wp2_with fail
                refine HDO.out.mono ?_
                rintro e w3 ⟨rfl, P4, Q4, S4, hok4, hji4⟩
                have HOK4 := hidden hok4
                have HJ4 := hidden hji4
                clear hok4 hji4 HDO HJZ k0 k1 k2 k3 k4 k5 kf HKY HBY HKO HJ HOK HKZ HBZ
                go_wp2_with fail
                go_roundw
                case rel => exact ⟨i + 1, by omega, by omega, by go_num, P4, Q4, S4, HOK4.out.mono (by omega), HJ4.out⟩
                case measure => simp [intOf]; omega
              · have hkb : (xk == 4) = false := by simpa using hk4
                clear hk4
                have HJZ := hidden (HKO.out _ HKY.out)
                have HDO := hidden (do_q xk (q : Int) xn xm xs (.slice ba xbl bc) xbs _ HJZ.out HOK.out (by omega) HBQ.out)
                unfold AskV at HDO
                go_wp2_with fail
                refine HDO.out.mono ?_
                rintro e w3 ⟨rfl, P4, Q4, S4, hok4, hji4⟩
                have HOK4 := hidden hok4
                have HJ4 := hidden hji4
                clear hok4 hji4 HDO HJZ k0 k1 k2 k3 k4 k5 kf HKY HBY HKO HJ HOK
                go_wp2_with fail
                go_roundw
                case rel => exact ⟨i + 1, by omega, by omega, by go_num, P4, Q4, S4, HOK4.out.mono (by omega), HJ4.out⟩
                case measure => simp [intOf]; omega
            · have HBL := hidden HJ.out.bl
              clear HJ HOK
              have hout : (i < n ∧ ¬ i < 40) ∨ ¬ i < n := by omega
              rcases hout with ⟨h1, h2⟩ | h1
              · have l1 : (i : Int) < (n : Int) := by omega
                have l2 : ¬ (i : Int) < 40 := by omega
                go_wp2_with fail
                refine (HKN.out _).mono ?_
                rintro e w3 ⟨rfl, hb3⟩
                have HB3 := hidden (HBL.out.trans (hb3.mono HBL.out.size))
                clear hb3
                go_wp2_with fail
                go_ret
                exact ⟨rfl, HB3.out⟩
              · have l1 : ¬ (i : Int) < (n : Int) := by omega
                go_wp2_with fail
                refine (HKN.out _).mono ?_
                rintro e w3 ⟨rfl, hb3⟩
                have HB3 := hidden (HBL.out.trans (hb3.mono HBL.out.size))
                clear hb3
                go_wp2_with fail
                go_ret
                exact ⟨rfl, HB3.out⟩
      · have i2 : ¬ (j : Int) < (ys.length : Int) := by omega
        have HOK0 := hidden (HOK.out.mono (show 600 * j ≤ 2400 by omega))
        obtain ⟨wo, eo⟩ : ∃ x, x = wr := ⟨_, rfl⟩
        subst eo
        have HJ0 := HJ
        clear HJ HOK
        go_wp2_with fail
        go_loopw [11, 12] (fun t _ wr => ∃ (i : Nat), i ≤ n ∧ i ≤ 40 ∧ t = .int .i64 (i : Int) ∧ ∃ P Q S, OkM (2400 + 300 * i) S ∧ JI w wr P Q a b S) (fun t _ _ => n - (intOf t).toNat)
        case atStart => exact ⟨0, by omega, by omega, rfl, _, _, _, HOK0.out, HJ0.out⟩
        case round =>
          obtain ⟨i, hi, hi40, rfl, P3, Q3, S3, hok, hji⟩ := hrel
          have HOK := hidden hok
          have HJ := hidden hji
          clear hok hji HJ0 HOK0
          by_cases hlt : i < n ∧ i < 40
          · have l1 : (i : Int) < (n : Int) := by omega
            have l2 : (i : Int) < 40 := by omega
            have hiq : i < qs.length := by rw [HN.out]; exact hlt.1
            obtain ⟨ab, off, eu, ⟨c0, c1, c2, c3, c4, c5⟩, hb5⟩ := (HA.out.fresh HJ.out.bl).at i hiq
            subst eu
            have hbq : BSl w (qs[i]).b (qs[i]).bs := (HA.out.at i hiq).choose_spec.choose_spec.2.2
            have HBQ := hidden hbq
            obtain ⟨ba, bc, eb⟩ := hbq.len
            clear hb5 hbq
            obtain ⟨x, hx⟩ : ∃ x, x = qs[i] := ⟨_, rfl⟩
            rw [← hx] at HBQ c0 c1 c2 c3 c4 c5 eb
            clear hx hiq
            generalize x.k = xk at *
            generalize x.ch = xc at *
            generalize x.n = xn at *
            generalize x.m = xm at *
            generalize x.s = xs at *
            generalize x.b = xb at *
            generalize hxl : x.bs.length = xbl at *
            subst eb
            have HBX := hidden (heap_alloc_new wr (.cells #[.int .i64 xk, .int .i64 xc, .int .i64 xn, .int .i64 xm, .string xs, .slice ba xbl bc] 24))
            have HJX := hidden (HJ.out.still ((Keeps.refl _ _).alloc (.cells #[.int .i64 xk, .int .i64 xc, .int .i64 xn, .int .i64 xm, .string xs, .slice ba xbl bc] 24)))
            generalize x.bs = xbs at *
            clear hxl
            go_upto_region 15 with fail
            have HKO : Hid (∀ w', Keeps (fun k => k = wr.heap.size) (wr.alloc (.cells #[.int .i64 xk, .int .i64 xc, .int .i64 xn, .int .i64 xm, .string xs, .slice ba xbl bc] 24)) w' → JI w w' P3 Q3 a b S3) := hidden fun w' hk => HJ.out.still (keeps_out hk)
            obtain ⟨bx, hbx⟩ : ∃ bx, bx = wr.heap.size := ⟨_, rfl⟩
            rw [← hbx] at HBX HKO
            rw [← hbx]
            clear hbx c0 c1 c2 c3 c4 c5 HJX
            generalize wr.alloc (.cells #[.int .i64 xk, .int .i64 xc, .int .i64 xn, .int .i64 xm, .string xs, .slice ba xbl bc] 24) = wx at *
            obtain ⟨k0, k1, k2, k3, k4, k5, kf⟩ := cells6 HBX.out
            go_wp2_with fail
            refine (within_c xc 3 (by omega) wx).mono ?_
            rintro e wx ⟨q, rfl, hq, rfl⟩
            have HKY := hidden (keepsSet wx bx 1 (.int .i64 (q : Int)))
            have HBY := hidden (set6_1 HBX.out (.int .i64 (q : Int)))
            go_upto_region 16 with fail
            clear k0 k1 k2 k3 k4 k5 kf HBX
            generalize wx.setCell ⟨bx, 1, none⟩ (.int .i64 (q : Int)) = wy at *
            obtain ⟨k0, k1, k2, k3, k4, k5, kf⟩ := cells6 HBY.out
            by_cases hk4 : xk = 4
            · subst hk4
              go_wp2_with fail
              refine (within_c xn 200 (by omega) wy).mono ?_
              rintro e wy ⟨q2, rfl, hq2, rfl⟩
              have HKZ := hidden (HKY.out.trans (keepsSet wy bx 2 (.int .i64 (q2 : Int))))
              have HBZ := hidden (set6_2 HBY.out (.int .i64 (q2 : Int)))
              have HJZ := hidden (HKO.out _ HKZ.out)
              have HDO := hidden (do_q 4 (q : Int) (q2 : Int) xm xs (.slice ba xbl bc) xbs _ HJZ.out HOK.out (by omega) HBQ.out)
              unfold AskV at HDO
              go_upto_region 18 with fail
              clear k0 k1 k2 k3 k4 k5 kf
              generalize wy.setCell ⟨bx, 2, none⟩ (.int .i64 (q2 : Int)) = wz at *
              obtain ⟨k0, k1, k2, k3, k4, k5, kf⟩ := cells6 HBZ.out
              go_wp2_with fail
              refine HDO.out.mono ?_
              rintro e w3 ⟨rfl, P4, Q4, S4, hok4, hji4⟩
              have HOK4 := hidden hok4
              have HJ4 := hidden hji4
              clear hok4 hji4 HDO HJZ k0 k1 k2 k3 k4 k5 kf HKY HBY HKO HJ HOK HKZ HBZ
              go_wp2_with fail
              go_roundw
              case rel => exact ⟨i + 1, by omega, by omega, by go_num, P4, Q4, S4, HOK4.out.mono (by omega), HJ4.out⟩
              case measure => simp [intOf]; omega
            · have hkb : (xk == 4) = false := by simpa using hk4
              clear hk4
              have HJZ := hidden (HKO.out _ HKY.out)
              have HDO := hidden (do_q xk (q : Int) xn xm xs (.slice ba xbl bc) xbs _ HJZ.out HOK.out (by omega) HBQ.out)
              unfold AskV at HDO
              go_wp2_with fail
              refine HDO.out.mono ?_
              rintro e w3 ⟨rfl, P4, Q4, S4, hok4, hji4⟩
              have HOK4 := hidden hok4
              have HJ4 := hidden hji4
              clear hok4 hji4 HDO HJZ k0 k1 k2 k3 k4 k5 kf HKY HBY HKO HJ HOK
              go_wp2_with fail
              go_roundw
              case rel => exact ⟨i + 1, by omega, by omega, by go_num, P4, Q4, S4, HOK4.out.mono (by omega), HJ4.out⟩
              case measure => simp [intOf]; omega
          · have HBL := hidden HJ.out.bl
            clear HJ HOK
            have hout : (i < n ∧ ¬ i < 40) ∨ ¬ i < n := by omega
            rcases hout with ⟨h1, h2⟩ | h1
            · have l1 : (i : Int) < (n : Int) := by omega
              have l2 : ¬ (i : Int) < 40 := by omega
              go_wp2_with fail
              refine (HKN.out _).mono ?_
              rintro e w3 ⟨rfl, hb3⟩
              have HB3 := hidden (HBL.out.trans (hb3.mono HBL.out.size))
              clear hb3
              go_wp2_with fail
              go_ret
              exact ⟨rfl, HB3.out⟩
            · have l1 : ¬ (i : Int) < (n : Int) := by omega
              go_wp2_with fail
              refine (HKN.out _).mono ?_
              rintro e w3 ⟨rfl, hb3⟩
              have HB3 := hidden (HBL.out.trans (hb3.mono HBL.out.size))
              clear hb3
              go_wp2_with fail
              go_ret
              exact ⟨rfl, HB3.out⟩
    · have i1 : ¬ (j : Int) < (zs.length : Int) := by omega
      have HOK0 := hidden (HOK.out.mono (show 600 * j ≤ 2400 by omega))
      obtain ⟨wo, eo⟩ : ∃ x, x = wr := ⟨_, rfl⟩
      subst eo
      have HJ0 := HJ
      clear HJ HOK
      go_wp2_with fail
      go_loopw [11, 12] (fun t _ wr => ∃ (i : Nat), i ≤ n ∧ i ≤ 40 ∧ t = .int .i64 (i : Int) ∧ ∃ P Q S, OkM (2400 + 300 * i) S ∧ JI w wr P Q a b S) (fun t _ _ => n - (intOf t).toNat)
      case atStart => exact ⟨0, by omega, by omega, rfl, _, _, _, HOK0.out, HJ0.out⟩
      case round =>
        obtain ⟨i, hi, hi40, rfl, P3, Q3, S3, hok, hji⟩ := hrel
        have HOK := hidden hok
        have HJ := hidden hji
        clear hok hji HJ0 HOK0
        by_cases hlt : i < n ∧ i < 40
        · have l1 : (i : Int) < (n : Int) := by omega
          have l2 : (i : Int) < 40 := by omega
          have hiq : i < qs.length := by rw [HN.out]; exact hlt.1
          obtain ⟨ab, off, eu, ⟨c0, c1, c2, c3, c4, c5⟩, hb5⟩ := (HA.out.fresh HJ.out.bl).at i hiq
          subst eu
          have hbq : BSl w (qs[i]).b (qs[i]).bs := (HA.out.at i hiq).choose_spec.choose_spec.2.2
          have HBQ := hidden hbq
          obtain ⟨ba, bc, eb⟩ := hbq.len
          clear hb5 hbq
          obtain ⟨x, hx⟩ : ∃ x, x = qs[i] := ⟨_, rfl⟩
          rw [← hx] at HBQ c0 c1 c2 c3 c4 c5 eb
          clear hx hiq
          generalize x.k = xk at *
          generalize x.ch = xc at *
          generalize x.n = xn at *
          generalize x.m = xm at *
          generalize x.s = xs at *
          generalize x.b = xb at *
          generalize hxl : x.bs.length = xbl at *
          subst eb
          have HBX := hidden (heap_alloc_new wr (.cells #[.int .i64 xk, .int .i64 xc, .int .i64 xn, .int .i64 xm, .string xs, .slice ba xbl bc] 24))
          have HJX := hidden (HJ.out.still ((Keeps.refl _ _).alloc (.cells #[.int .i64 xk, .int .i64 xc, .int .i64 xn, .int .i64 xm, .string xs, .slice ba xbl bc] 24)))
          generalize x.bs = xbs at *
          clear hxl
          go_upto_region 15 with fail
          have HKO : Hid (∀ w', Keeps (fun k => k = wr.heap.size) (wr.alloc (.cells #[.int .i64 xk, .int .i64 xc, .int .i64 xn, .int .i64 xm, .string xs, .slice ba xbl bc] 24)) w' → JI w w' P3 Q3 a b S3) := hidden fun w' hk => HJ.out.still (keeps_out hk)
          obtain ⟨bx, hbx⟩ : ∃ bx, bx = wr.heap.size := ⟨_, rfl⟩
          rw [← hbx] at HBX HKO
          rw [← hbx]
          clear hbx c0 c1 c2 c3 c4 c5 HJX
          generalize wr.alloc (.cells #[.int .i64 xk, .int .i64 xc, .int .i64 xn, .int .i64 xm, .string xs, .slice ba xbl bc] 24) = wx at *
          obtain ⟨k0, k1, k2, k3, k4, k5, kf⟩ := cells6 HBX.out
          go_wp2_with fail
          refine (within_c xc 3 (by omega) wx).mono ?_
          rintro e wx ⟨q, rfl, hq, rfl⟩
          have HKY := hidden (keepsSet wx bx 1 (.int .i64 (q : Int)))
          have HBY := hidden (set6_1 HBX.out (.int .i64 (q : Int)))
          go_upto_region 16 with fail
          clear k0 k1 k2 k3 k4 k5 kf HBX
          generalize wx.setCell ⟨bx, 1, none⟩ (.int .i64 (q : Int)) = wy at *
          obtain ⟨k0, k1, k2, k3, k4, k5, kf⟩ := cells6 HBY.out
          by_cases hk4 : xk = 4
          · subst hk4
            go_wp2_with fail
            refine (within_c xn 200 (by omega) wy).mono ?_
            rintro e wy ⟨q2, rfl, hq2, rfl⟩
            have HKZ := hidden (HKY.out.trans (keepsSet wy bx 2 (.int .i64 (q2 : Int))))
            have HBZ := hidden (set6_2 HBY.out (.int .i64 (q2 : Int)))
            have HJZ := hidden (HKO.out _ HKZ.out)
            have HDO := hidden (do_q 4 (q : Int) (q2 : Int) xm xs (.slice ba xbl bc) xbs _ HJZ.out HOK.out (by omega) HBQ.out)
            unfold AskV at HDO
            go_upto_region 18 with fail
            clear k0 k1 k2 k3 k4 k5 kf
            generalize wy.setCell ⟨bx, 2, none⟩ (.int .i64 (q2 : Int)) = wz at *
            obtain ⟨k0, k1, k2, k3, k4, k5, kf⟩ := cells6 HBZ.out
            go_wp2_with fail
            refine HDO.out.mono ?_
            rintro e w3 ⟨rfl, P4, Q4, S4, hok4, hji4⟩
            have HOK4 := hidden hok4
            have HJ4 := hidden hji4
            clear hok4 hji4 HDO HJZ k0 k1 k2 k3 k4 k5 kf HKY HBY HKO HJ HOK HKZ HBZ
            go_wp2_with fail
            go_roundw
            case rel => exact ⟨i + 1, by omega, by omega, by go_num, P4, Q4, S4, HOK4.out.mono (by omega), HJ4.out⟩
            case measure => simp [intOf]; omega
          · have hkb : (xk == 4) = false := by simpa using hk4
            clear hk4
            have HJZ := hidden (HKO.out _ HKY.out)
            have HDO := hidden (do_q xk (q : Int) xn xm xs (.slice ba xbl bc) xbs _ HJZ.out HOK.out (by omega) HBQ.out)
            unfold AskV at HDO
            go_wp2_with fail
            refine HDO.out.mono ?_
            rintro e w3 ⟨rfl, P4, Q4, S4, hok4, hji4⟩
            have HOK4 := hidden hok4
            have HJ4 := hidden hji4
            clear hok4 hji4 HDO HJZ k0 k1 k2 k3 k4 k5 kf HKY HBY HKO HJ HOK
            go_wp2_with fail
            go_roundw
            case rel => exact ⟨i + 1, by omega, by omega, by go_num, P4, Q4, S4, HOK4.out.mono (by omega), HJ4.out⟩
            case measure => simp [intOf]; omega
        · have HBL := hidden HJ.out.bl
          clear HJ HOK
          have hout : (i < n ∧ ¬ i < 40) ∨ ¬ i < n := by omega
          rcases hout with ⟨h1, h2⟩ | h1
          · have l1 : (i : Int) < (n : Int) := by omega
            have l2 : ¬ (i : Int) < 40 := by omega
            go_wp2_with fail
            refine (HKN.out _).mono ?_
            rintro e w3 ⟨rfl, hb3⟩
            have HB3 := hidden (HBL.out.trans (hb3.mono HBL.out.size))
            clear hb3
            go_wp2_with fail
            go_ret
            exact ⟨rfl, HB3.out⟩
          · have l1 : ¬ (i : Int) < (n : Int) := by omega
            go_wp2_with fail
            refine (HKN.out _).mono ?_
            rintro e w3 ⟨rfl, hb3⟩
            have HB3 := hidden (HBL.out.trans (hb3.mono HBL.out.size))
            clear hb3
            go_wp2_with fail
            go_ret
            exact ⟨rfl, HB3.out⟩
end Go.Proofs.YtnimdbjbkoggdaaGreat
