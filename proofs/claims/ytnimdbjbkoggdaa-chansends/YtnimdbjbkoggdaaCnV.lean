/- Asks as data, and the walk of ChansEnds: a channel that is closed is free again, and a dead Mux says nothing more. -/
import Derived.Test.YtnimdbjbkoggdaaCnU
namespace Go.Proofs.Ytnimdbjbkoggdaa
open Go Go.RowKit

/-- An ask, as data. -/
structure AskD where
  k : Int
  ch : Int
  n : Int
  m : Int
  s : ByteArray
  b : Value
  bs : List UInt8
/-- The slice value v reads as the asks qs in w. -/
def ASl (w : World) (v : Value) (qs : List AskD) : Prop :=
  ∃ ao cap, v = .slice ao qs.length cap ∧ qs.length ≤ cap ∧ cap ≤ maxLen ∧ (ao = none → qs = [] ∧ cap = 0) ∧ (∀ p ∈ qs, BSl w p.b p.bs) ∧
    ∀ ad, ao = some ad → qs ≠ [] → ∃ b off, ad = ⟨b, off, none⟩ ∧ ∀ (i : Nat) p, qs[i]? = some p → w.cell? ⟨b, off + i * 6, none⟩ = some (.int .i64 p.k) ∧ w.cell? ⟨b, off + i * 6 + 1, none⟩ = some (.int .i64 p.ch) ∧ w.cell? ⟨b, off + i * 6 + 2, none⟩ = some (.int .i64 p.n) ∧ w.cell? ⟨b, off + i * 6 + 3, none⟩ = some (.int .i64 p.m) ∧ w.cell? ⟨b, off + i * 6 + 4, none⟩ = some (.string p.s) ∧ w.cell? ⟨b, off + i * 6 + 5, none⟩ = some p.b
theorem ASl.at {w : World} {ao : Option Addr} {n cap : Nat} {qs : List AskD} (h : ASl w (.slice ao n cap) qs) (k : Nat) (hk : k < qs.length) : ∃ b off, ao = some ⟨b, off, none⟩ ∧ (w.cell? ⟨b, off + k * 6, none⟩ = some (.int .i64 qs[k].k) ∧ w.cell? ⟨b, off + k * 6 + 1, none⟩ = some (.int .i64 qs[k].ch) ∧ w.cell? ⟨b, off + k * 6 + 2, none⟩ = some (.int .i64 qs[k].n) ∧ w.cell? ⟨b, off + k * 6 + 3, none⟩ = some (.int .i64 qs[k].m) ∧ w.cell? ⟨b, off + k * 6 + 4, none⟩ = some (.string qs[k].s) ∧ w.cell? ⟨b, off + k * 6 + 5, none⟩ = some qs[k].b) ∧ BSl w qs[k].b qs[k].bs := by
  obtain ⟨ao, cap, e, h1, h2, h3, h4, hc⟩ := h
  cases e
  have h5 := h4 qs[k] (List.getElem_mem hk)
  cases ao with
  | none => have := (h3 rfl).1; subst this; simp at hk
  | some ad =>
    obtain ⟨b, off, rfl, hcell⟩ := hc ad rfl (by rintro rfl; simp at hk)
    exact ⟨b, off, rfl, hcell k qs[k] (List.getElem?_eq_getElem hk), h5⟩
theorem ASl.fresh {w w' : World} {v : Value} {qs : List AskD} (h : ASl w v qs) (hb : Below w.heap.size w w') : ASl w' v qs := by
  obtain ⟨ao, cap, rfl, h1, h2, h3, h4, hc⟩ := h
  have hk : Keeps (fun _ => False) w w' := Keeps.ofFresh hb
  refine ⟨ao, cap, rfl, h1, h2, h3, fun p hp => (h4 p hp).fresh hb, ?_⟩
  rintro ad rfl hx
  obtain ⟨b, off, rfl, hcell⟩ := hc ad rfl hx
  refine ⟨b, off, rfl, fun i p hp => ?_⟩
  obtain ⟨c0, c1, c2, c3, c4, c5⟩ := hcell i p hp
  exact ⟨hk.cell c0 (fun h => h), hk.cell c1 (fun h => h), hk.cell c2 (fun h => h), hk.cell c3 (fun h => h), hk.cell c4 (fun h => h), hk.cell c5 (fun h => h)⟩
/-- The payload of any ask. -/
theorem payAny (k ch n m : Int) (s : ByteArray) (b : Value) (bs : List UInt8) (w : World) (hb : BSl w b bs) : Calls Try.prog 20 #[AskV k ch n m s b] w fun e w' => PayP w b bs (fun _ => True) e w' := by
  by_cases h1 : k = 1
  · exact payOpen k ch n m s b bs w hb h1 _ (fun _ _ _ _ => trivial)
  by_cases h2 : k = 2
  · exact paySub k ch n m s b bs w hb h2 _ ⟨fun _ _ => trivial, fun _ _ => trivial⟩
  by_cases h3 : k = 3
  · exact payData k ch n m s b bs w hb h3
  by_cases h4 : k = 4
  · exact pay4 k ch n m s b bs w hb h4 _ trivial
  by_cases h5 : k = 5
  · exact pay5 k ch n m s b bs w hb h5 _ trivial
  by_cases h6 : k = 6
  · exact pay6 k ch n m s b bs w hb h6 _ trivial
  by_cases h7 : k = 7
  · exact pay7 k ch n m s b bs w hb h7
  exact payElse k ch n m s b bs w hb (by omega)
/-- While a law goes on: its Mux, made since w. -/
structure MI (w wr : World) (P : Nat → Prop) (a : Nat) (S : MS) : Prop where
  m : MX wr P a S
  ge : w.heap.size ≤ a
  pg : ∀ k, P k → w.heap.size ≤ k
  below : Below w.heap.size w wr
theorem MI.fresh {w wr w1 : World} {P : Nat → Prop} {a : Nat} {S : MS} (h : MI w wr P a S) (hb : Below wr.heap.size wr w1) : MI w w1 P a S := ⟨h.m.fresh hb, h.ge, h.pg, h.below.trans (hb.mono h.below.size)⟩
theorem MI.done {w wr w1 : World} {P : Nat → Prop} {a : Nat} {S S' : MS} (h : MI w wr P a S) (hm : MX w1 P a S') (hk : Keeps (fun k => k = a) wr w1) : MI w w1 P a S' := ⟨hm, h.ge, h.pg, h.below.trans (Keeps.below hk h.below.size (fun k e => by rw [e]; exact h.ge))⟩
/-- A Mux all of whose channels are free, and one of whose channels is open. -/
def freeM : MS := newM
def eC (c : Nat) : Ch := newC c 0 9
def eS (c : Nat) : MS := ⟨[some (eC c), none, none, none], false⟩
theorem be_val4 (n : Nat) (h : n ≤ 4294967295) : val (be 4 n) = n := by
  have : be 4 n = [UInt8.ofNat (n / 256 ^ 3 % 256), UInt8.ofNat (n / 256 ^ 2 % 256), UInt8.ofNat (n / 256 ^ 1 % 256), UInt8.ofNat (n / 256 ^ 0 % 256)] := rfl
  rw [this]
  simp only [val, valFrom, UInt8.toNat_ofNat']
  omega

theorem ends_open (x0 x1 x2 x3 : UInt8) : doO newM ([90] ++ textBytes sesB.data.toList ++ ([x0, x1, x2, x3] ++ (be 4 0 ++ (be 4 9 ++ [])))) = (eS (val [x0, x1, x2, x3]), [numL 91 [val [x0, x1, x2, x3], 0, 65536, 32768]], []) := by kernel_rfl
theorem ends_gone (c : Nat) : doO (eS c) [97, 0, 0, 0, 0] = (newM, [numL 97 [c]], [⟨4, 0, []⟩]) := by kernel_rfl
theorem ends_bye : doO newM [77] = (⟨newM.cs, true⟩, [byeL 2], []) := by kernel_rfl
theorem dead_do (S : MS) (h : S.dead = true) (bs : List UInt8) : doO S bs = (S, [], []) := by
  cases bs with
  | nil => rfl
  | cons x r => unfold doO; dsimp only; rw [if_pos h]
theorem be4 (c : Nat) : ∃ x0 x1 x2 x3 : UInt8, be 4 c = [x0, x1, x2, x3] := ⟨_, _, _, _, rfl⟩
theorem ends_openP (c : Nat) (hc : c ≤ 4294967295) : doO newM (openP sesB c 0 9) = (eS c, [numL 91 [c, 0, 65536, 32768]], []) := by
  obtain ⟨x0, x1, x2, x3, h⟩ := be4 c
  have h2 := be_val4 c hc
  have h3 := ends_open x0 x1 x2 x3
  rw [h] at h2
  rw [← h, h, h2] at h3
  rw [← h] at h3
  exact h3
theorem eS_ok (c : Nat) (hc : c ≤ 4294967295) : OkM 0 (eS c) := by
  have := doO_ok (okM_new 0) (openP sesB c 0 9)
  rw [ends_openP c hc] at this
  exact this
set_option maxHeartbeats 800000 in
theorem Send_dead (ch : Int) (ba : Option Addr) (bn bc : Nat) (w : World) {P : Nat → Prop} {a : Nat} {S : MS} (h : MX w P a S) (hS : S.cs.length = 4) (hd : S.dead = true) :
    Calls Try.prog 12 #[.pointer (some ⟨a, 0, none⟩), .int .i64 ch, .slice ba bn bc] w fun e w' => e = .returned (.tuple #[.slice none 0 0, .int .i64 25]) ∧ w' = w := by
  have HF := hidden (toSendOn_c ch w h hS)
  unfold mayV mayO at HF
  rw [if_pos hd] at HF
  dsimp only at HF
  clear h
  go_enter Try.func12, Try.ntmps12
  go_wp2_with fail
  refine HF.out.mono ?_
  rintro e w1 ⟨rfl, rfl⟩
  go_wp2_with fail
  go_ret2
  exact ⟨rfl, rfl⟩
set_option maxHeartbeats 800000 in
theorem Close_dead (ch : Int) (w : World) {P : Nat → Prop} {a : Nat} {S : MS} (h : MX w P a S) (hS : S.cs.length = 4) (hd : S.dead = true) :
    Calls Try.prog 22 #[.pointer (some ⟨a, 0, none⟩), .int .i64 ch] w fun e w' => e = .returned (.tuple #[.slice none 0 0, .int .i64 25]) ∧ w' = w := by
  have HF := hidden (toSendOn_c ch w h hS)
  unfold mayV mayO at HF
  rw [if_pos hd] at HF
  dsimp only at HF
  clear h
  go_enter Try.func22, Try.ntmps22
  go_wp2_with fail
  refine HF.out.mono ?_
  rintro e w1 ⟨rfl, rfl⟩
  go_wp2_with fail
  go_ret2
  exact ⟨rfl, rfl⟩
theorem Lst.nil1 {B : Nat} {w : World} {v : Value} (h : Lst B w v []) : ∃ ao cap, v = .slice ao 0 cap := h.shape
/-- One payload, by its first byte. -/
theorem Lst.first {B : Nat} {w : World} {v : Value} {x : UInt8} {xs : List UInt8} (h : Lst B w v [x :: xs]) : ∃ g cap b o n c, v = .slice (some ⟨g, 0, none⟩) 1 cap ∧ w.cell? ⟨g, 0, none⟩ = some (.slice (some ⟨b, o, none⟩) n c) ∧ 0 < n ∧ w.cell? ⟨b, o, none⟩ = some (.int .u8 x.toNat) ∧ B ≤ g ∧ B ≤ b := by
  obtain ⟨g, cap, u, rfl, h1, h2, h3, h4⟩ := h.one'
  obtain ⟨b, o, c, rfl, _, _, hob⟩ := h2.cons
  exact ⟨g, cap, b, o, _, c, rfl, h1, by simp, h2.head, h3, h4 b hob⟩

set_option maxHeartbeats 3200000 in
set_option maxRecDepth 100000 in
theorem chansEnds_c (u : Value) (qs : List AskD) (n : Int) (w : World) (hu : ASl w u qs) :
    Calls Try.prog 5 #[u, .int .i64 n] w fun e w' => e = .returned (.bool true) ∧ Below w.heap.size w w' := by
  have HA := hidden hu
  obtain ⟨ua, uc, rfl, huc, hum, _⟩ := id hu
  unfold maxLen at hum
  have HK : Hid (∀ w1, Calls Try.prog 19 #[] w1 fun e w' => e = .returned (.bool true) ∧ Below w1.heap.size w1 w') := hidden known_c
  have HP1 : Hid (∀ (i : Nat) (w1 : World), Calls Try.prog 20 #[.agg #[.int .i64 1, .int .i64 (i : Int), .int .i64 0, .int .i64 9, .string ⟨#[]⟩, .slice none 0 0]] w1 fun e w' => PayP w1 (.slice none 0 0) [] (fun xs => ∃ c, c ≤ 4294967295 ∧ xs = openP sesB c 0 9) e w') := hidden fun i w1 => payOpen 1 i 0 9 ⟨#[]⟩ (.slice none 0 0) [] w1 (bsl_none w1) rfl _ (fun f hf c7 h7 => by
    have hf' : f = true := hf.2 (by decide)
    subst hf'
    exact ⟨u32n c7, u32n_lt _, rfl⟩)
  have HP2 : Hid (∀ (w1 : World), Calls Try.prog 20 #[.agg #[.int .i64 6, .int .i64 0, .int .i64 0, .int .i64 0, .string ⟨#[]⟩, .slice none 0 0]] w1 fun e w' => PayP w1 (.slice none 0 0) [] (fun xs => xs = [97, 0, 0, 0, 0]) e w') := hidden fun w1 => pay6 6 0 0 0 ⟨#[]⟩ (.slice none 0 0) [] w1 (bsl_none w1) rfl _ (by show [97] ++ numsL [u32n 0] = _; kernel_rfl)
  clear hu
  go_enter Try.func5, Try.ntmps5
  go_wp2_with fail
  refine (New_c w).mono ?_
  rintro e w1 ⟨rfl, hm1, hb1⟩
  obtain ⟨a, ha⟩ : ∃ a, a = w.heap.size := ⟨_, rfl⟩
  rw [← ha] at hm1 ⊢
  have HI0 : Hid (MI w w1 (fun _ => False) a newM) := hidden ⟨hm1, by omega, fun k h => h.elim, hb1⟩
  clear hm1 hb1 ha
  go_wp2_with fail
  go_loopw [6] (fun t wr => ∃ (j : Nat), j ≤ 10 ∧ t = .int .i64 (j : Int) ∧ MI w wr (fun _ => False) a newM) (fun t _ => 10 - (intOf t).toNat)
  case atStart => exact ⟨0, by omega, rfl, HI0.out⟩
  case round =>
    obtain ⟨j, hj, rfl, hmi⟩ := hrel
    have HI := hidden hmi
    clear hmi HI0
    go_wp2_with fail
    refine (within_c n 9 (by omega) wr).mono ?_
    rintro e w2 ⟨q, rfl, hq, rfl⟩
    by_cases hlt : j < 1 + q
    · have i1 : (j : Int) < 1 + (q : Int) := by omega
      go_wp2_with fail
      refine (HP1.out j w2).mono ?_
      rintro e w3 ⟨v3, xs, rfl, hb3, hl3, ⟨c, hc, rfl⟩, _, hbl3⟩
      have HI3 := hidden (HI.out.fresh hbl3)
      have HDO := hidden (Do_c v3 _ w3 HI3.out.m (okM_new 0) (by omega) hb3 (by omega))
      rw [ends_openP c hc] at HDO
      clear hb3 hl3 hbl3 HI
      go_wp2_with fail
      refine HDO.out.mono ?_
      rintro e w4 ⟨u1, u2, rfl, hls4, hev4, hm4, hk4⟩
      have HI4 := hidden (HI3.out.done hm4 hk4)
      have hal := HI3.out.m.aLt
      obtain ⟨g1, p1, b1, o1, n1, c1, rfl, x1, y1, z1, l1, m1⟩ := hls4.first
      obtain rfl := hev4.none'
      have X1 := hidden x1
      have Z1 := hidden z1
      clear hls4 hev4 hm4 hk4 HDO HI3 x1 z1
      go_wp2_with fail
      refine (HP2.out w4).mono ?_
      rintro e w5 ⟨v5, xs, rfl, hb5, hl5, rfl, _, hbl5⟩
      have HI5 := hidden (HI4.out.fresh hbl5)
      have HDO := hidden (Do_c v5 _ w5 HI5.out.m (eS_ok c hc) (by omega) hb5 (by simp))
      rw [ends_gone c] at HDO
      have X2 := hidden ((Keeps.ofFresh (S := fun _ => False) hbl5).cell X1.out (fun h => h))
      have Z2 := hidden ((Keeps.ofFresh (S := fun _ => False) hbl5).cell Z1.out (fun h => h))
      clear hb5 hl5 hbl5 HI4 X1 Z1
      go_wp2_with fail
      refine HDO.out.mono ?_
      rintro e w6 ⟨u3, u4, rfl, hls6, hev6, hm6, hk6⟩
      have HI6 := hidden (HI5.out.done hm6 hk6)
      have x3 := hk6.cell X2.out (by show ¬ g1 = a; omega)
      have z3 := hk6.cell Z2.out (by show ¬ b1 = a; omega)
      obtain ⟨g2, p2, b2, o2, n2, c2, rfl, x4, y4, z4, l4, m4⟩ := hls6.first
      obtain ⟨g3, u5, rfl, h3, _⟩ := hev6.one'
      obtain ⟨v0, v1, v2, vf⟩ := cells3i h3
      have hn1 : (0 : Int) < (n1 : Int) := by omega
      have hn2 : (0 : Int) < (n2 : Int) := by omega
      clear hls6 hev6 hm6 hk6 HDO HI5 X2 Z2 h3
      go_wp2_with fail
      go_roundw
      case rel => exact ⟨j + 1, by omega, by go_num, HI6.out⟩
      case measure => simp [intOf]; omega
    · have i1 : ¬ (j : Int) < 1 + (q : Int) := by omega
      have hb7 := bsl_lit w2 [77] (by simp)
      have HI7 := hidden (HI.out.fresh ((Below.refl _ w2).alloc (Nat.le_refl _) (.cells (bcells [77]).toArray 5)))
      have HDO := hidden (Do_c _ [77] _ HI7.out.m (okM_new 0) (by omega) hb7 (by simp))
      rw [ends_bye] at HDO
      clear hb7 HI
      go_wp2_with fail
      refine HDO.out.mono ?_
      rintro e w4 ⟨u1, u2, rfl, hls4, hev4, hm4, hk4⟩
      have HI4 := hidden (HI7.out.done hm4 hk4)
      obtain ⟨g1, p1, b1, o1, n1, c1, rfl, x1, y1, z1, l1, m1⟩ := hls4.first
      obtain rfl := hev4.none'
      have hn1 : (0 : Int) < (n1 : Int) := by omega
      have HD := hidden (Dead_c w4 HI4.out.m)
      dsimp only at HD
      clear hls4 hev4 hm4 hk4 HDO HI7
      go_wp2_with (go_at_call 18; refine HD.out.mono ?_; rintro e w5 ⟨rfl, rfl⟩)
      clear HD x1 z1
      generalize hS1 : (⟨newM.cs, true⟩ : MS) = S1 at *
      have HSd : Hid (S1.dead = true) := hidden (by rw [← hS1])
      have HS4 : Hid (S1.cs.length = 4) := hidden (by rw [← hS1]; rfl)
      have HOK : Hid (OkM 0 S1) := hidden (by rw [← hS1]; exact (okM_new 0).dies)
      clear hS1
      go_loopw [13] (fun t wr => ∃ (j : Nat), j ≤ qs.length ∧ t = .int .i64 (j : Int) ∧ MI w wr (fun _ => False) a S1) (fun t _ => qs.length - (intOf t).toNat)
      case atStart => exact ⟨0, by omega, rfl, HI4.out⟩
      case round =>
        obtain ⟨j, hj, rfl, hmi⟩ := hrel
        have HI := hidden hmi
        clear hmi HI4
        have HEND : Hid (Calls Try.prog 18 #[.pointer (some ⟨a, 0, none⟩)] wr fun e w' => e = .returned (.bool true) ∧ w' = wr) := hidden (by have := Dead_c wr HI.out.m; rw [HSd.out] at this; exact this)
        by_cases hlt : j < qs.length
        · have i1 : (j : Int) < (qs.length : Int) := by omega
          by_cases h20 : j < 20
          · have i2 : (j : Int) < 20 := by omega
            obtain ⟨b, o, rfl, ⟨k0, k1, k2, k3, k4, k5⟩, hbs⟩ := (HA.out.fresh HI.out.below).at j hlt
            have HPC := hidden (payAny qs[j].k qs[j].ch qs[j].n qs[j].m qs[j].s qs[j].b qs[j].bs wr hbs)
            unfold AskV at HPC
            obtain ⟨ba, bc, eb⟩ := hbs.len
            generalize qs[j].b = qb at *
            generalize qs[j].bs = qbs at *
            generalize qs[j].k = qk at *
            generalize qs[j].ch = qch at *
            generalize qs[j].n = qn at *
            generalize qs[j].m = qm at *
            generalize qs[j].s = qs1 at *
            subst eb
            generalize hql : qbs.length = qbl at *
            clear hbs hql HEND
            by_cases hk : qk = 9 ∨ qk = 10
            · have HSE : Hid (∀ w', Keeps (fun _ => False) wr w' → Calls Try.prog 12 #[.pointer (some ⟨a, 0, none⟩), .int .i64 qch, .slice ba qbl bc] w' fun e w'' => e = .returned (.tuple #[.slice none 0 0, .int .i64 25]) ∧ w'' = w') := hidden fun w' hk' => Send_dead qch ba qbl bc w' (HI.out.m.still hk') HS4.out HSd.out
              have HCE : Hid (∀ w', Keeps (fun _ => False) wr w' → Calls Try.prog 22 #[.pointer (some ⟨a, 0, none⟩), .int .i64 qch] w' fun e w'' => e = .returned (.tuple #[.slice none 0 0, .int .i64 25]) ∧ w'' = w') := hidden fun w' hk' => Close_dead qch w' (HI.out.m.still hk') HS4.out HSd.out
              clear HPC
              have hkk : ((qk == 9) = true) ∨ ((qk == 9) = false ∧ (qk == 10) = true) := by
                rcases hk with hk | hk
                · exact .inl (by simp [hk])
                · exact .inr ⟨by simp; omega, by simp [hk]⟩
              clear hk
              rcases hkk with t9 | ⟨t9, t10⟩
              · go_wp2_with fail
                go_region_held3 (fun w' => w'.cell? ⟨b, o + j * 6 + 1, none⟩ = some (.int .i64 qch) ∧ w'.cell? ⟨b, o + j * 6 + 5, none⟩ = some (.slice ba qbl bc))
                  (first | go_keep)
                  (first | (go_at_call 12; refine (HSE.out _ (by first | exact Keeps.refl _ _ | exact (Keeps.refl _ _).drew | exact (Keeps.refl _ _).drewN _)).mono ?_; rintro e w5 ⟨rfl, rfl⟩))
                go_wp2_with fail
                refine (HCE.out _ (by first | exact Keeps.refl _ _ | exact (Keeps.refl _ _).drew | exact (Keeps.refl _ _).drewN _)).mono ?_
                rintro e w6 ⟨rfl, rfl⟩
                go_wp2_with fail
                go_roundw
                case rel => exact ⟨j + 1, by omega, by go_num, HI.out.fresh (by first | exact (Below.refl _ _).drew | exact Below.refl _ _)⟩
                case measure => simp [intOf]; omega
              · go_wp2_with fail
                go_region_held3 (fun w' => w'.cell? ⟨b, o + j * 6 + 1, none⟩ = some (.int .i64 qch) ∧ w'.cell? ⟨b, o + j * 6 + 5, none⟩ = some (.slice ba qbl bc))
                  (first | go_keep)
                  (first | (go_at_call 12; refine (HSE.out _ (by first | exact Keeps.refl _ _ | exact (Keeps.refl _ _).drew | exact (Keeps.refl _ _).drewN _)).mono ?_; rintro e w5 ⟨rfl, rfl⟩))
                go_wp2_with fail
                refine (HCE.out _ (by first | exact Keeps.refl _ _ | exact (Keeps.refl _ _).drew | exact (Keeps.refl _ _).drewN _)).mono ?_
                rintro e w6 ⟨rfl, rfl⟩
                go_wp2_with fail
                go_roundw
                case rel => exact ⟨j + 1, by omega, by go_num, HI.out.fresh (by first | exact (Below.refl _ _).drew | exact Below.refl _ _)⟩
                case measure => simp [intOf]; omega
            · have t9 : (qk == 9) = false := by simp; omega
              have t10 : (qk == 10) = false := by simp; omega
              clear hk
              go_wp2_with fail
              refine HPC.out.mono ?_
              rintro e w3 ⟨v3, xs, rfl, hb3, hl3, _, _, hbl3⟩
              have HI3 := hidden (HI.out.fresh hbl3)
              have HDO := hidden (Do_c v3 xs w3 HI3.out.m HOK.out (by omega) hb3 (by omega))
              rw [dead_do S1 HSd.out] at HDO
              clear hb3 hl3 hbl3 HPC k0 k1 k2 k3 k4 k5
              go_wp2_with fail
              refine HDO.out.mono ?_
              rintro e w4 ⟨u3, u4, rfl, hls4, hev4, hm4, hk4⟩
              have HI4 := hidden (HI3.out.done hm4 hk4)
              obtain ⟨a4, p4, e4⟩ := hls4.nil1
              obtain rfl := hev4.none'
              subst e4
              clear hls4 hev4 hm4 hk4 HDO HI3
              go_wp2_with fail
              go_roundw
              case rel => exact ⟨j + 1, by omega, by go_num, HI4.out⟩
              case measure => simp [intOf]; omega
          · have i2 : ¬ (j : Int) < 20 := by omega
            go_wp2_with fail
            refine HEND.out.mono ?_
            rintro e w5 ⟨rfl, rfl⟩
            go_wp2_with fail
            refine (HK.out _).mono ?_
            rintro e w7 ⟨rfl, hb7⟩
            have HB7 := hidden (HI.out.below.trans (hb7.mono HI.out.below.size))
            clear hb7
            go_wp2_with fail
            go_ret
            exact ⟨rfl, HB7.out⟩
        · have i1 : ¬ (j : Int) < (qs.length : Int) := by omega
          go_wp2_with fail
          refine HEND.out.mono ?_
          rintro e w5 ⟨rfl, rfl⟩
          go_wp2_with fail
          refine (HK.out _).mono ?_
          rintro e w7 ⟨rfl, hb7⟩
          have HB7 := hidden (HI.out.below.trans (hb7.mono HI.out.below.size))
          clear hb7
          go_wp2_with fail
          go_ret
          exact ⟨rfl, HB7.out⟩
end Go.Proofs.Ytnimdbjbkoggdaa
