/- TreeBytes. -/
import Derived.Test.YtnigfnikajejaaaTmT
import Derived.Test.YtnigfnikajejaaaWrE
namespace Go.Proofs.Ytnigfnikajejaaa
open Go Go.RowKit

/-- The slice value v reads as the rows of bytes ps in w. -/
def LSl (w : World) (v : Value) (ps : List (List UInt8)) : Prop :=
  ∃ ao cap, v = .slice ao ps.length cap ∧ ps.length ≤ cap ∧ cap ≤ maxLen ∧ ∀ j, j < ps.length → ∃ b off x, ao = some ⟨b, off, none⟩ ∧ w.cell? ⟨b, off + j, none⟩ = some x ∧ BSl w x (ps.getD j [])
/-- v is a slice of n ints. -/
def ISl (w : World) (v : Value) (n : Nat) : Prop :=
  ∃ ao cap, v = .slice ao n cap ∧ n ≤ cap ∧ cap ≤ maxLen ∧ ∀ j, j < n → ∃ b off, ao = some ⟨b, off, none⟩ ∧ ∃ z : Int, w.cell? ⟨b, off + j, none⟩ = some (.int .i64 z)

def nmF : Nm := ⟨#[102]⟩
/-- The tree of one file, that has d. -/
def trF (d : List UInt8) : Tr := ⟨[⟨0, true, ⟨15, 0, 0, 0, 16877, 0, 0⟩, [], [(nmF, 1)]⟩, ⟨1, false, ⟨15, d.length, 0, 0, 33188, 0, 0⟩, d, []⟩], 2⟩
theorem trF_make : makeT newTr [nmF] false = ((1, 0), trF []) := by kernel_rfl
theorem trF_find (d : List UInt8) : findT (trF d).ths 1 = some ⟨1, false, ⟨15, d.length, 0, 0, 33188, 0, 0⟩, d, []⟩ := by
  unfold findT trF
  rw [List.find?_cons_of_neg (by simp), List.find?_cons_of_pos (by simp)]
theorem trF_file (d : List UInt8) : fileT (trF d) 1 = (some ⟨1, false, ⟨15, d.length, 0, 0, 33188, 0, 0⟩, d, []⟩, 0) := by
  unfold fileT
  rw [trF_find]
  rfl
theorem trF_size (d : List UInt8) : sizeT (trF d).ths = d.length := by simp [sizeT, trF]
/-- What stands in the file behind b at k. -/
def newD (d : List UInt8) (k : Nat) (b : List UInt8) : List UInt8 := lay (if d.length < k + b.length then d ++ List.replicate (k + b.length - d.length) 0 else d) k b
theorem newD_length {d b : List UInt8} {k : Nat} : (newD d k b).length = max d.length (k + b.length) := by
  unfold newD
  split
  · rw [lay_length (by simp; omega)]; simp; omega
  · rw [lay_length (by omega)]; omega
theorem lay_back {d b : List UInt8} {k : Nat} (h : k + b.length ≤ d.length) : ((lay d k b).drop k).take b.length = b := by
  unfold lay
  have hk : (d.take k).length = k := by rw [List.length_take]; omega
  rw [List.append_assoc, List.drop_left' hk, List.take_left' rfl]
theorem newD_back (d b : List UInt8) (k : Nat) : ((newD d k b).drop k).take b.length = b := by
  unfold newD
  split
  · exact lay_back (by simp; omega)
  · exact lay_back (by omega)
theorem trF_write (d : List UInt8) (k : Nat) (b : List UInt8) (hk : k ≤ 500) (hb : b.length ≤ 200) : writeT (trF d) 1 k b = (0, if b = [] then trF d else trF (newD d k b)) := by
  unfold writeT
  rw [trF_file]
  simp only
  by_cases h0 : b = []
  · rw [if_pos h0, if_pos h0]
  · have hlb := List.length_pos_iff.2 h0
    rw [if_neg h0, if_neg h0]
    have hm : min k 1048576 = k := by omega
    have hr : hasRoom (trF d) ⟨1, false, ⟨15, d.length, 0, 0, 33188, 0, 0⟩, d, []⟩ (k + b.length) = 0 := by
      unfold hasRoom
      rw [if_neg (by omega), trF_size, if_neg (by simp only; omega)]
    rw [hm, hr, if_neg (fun h => h rfl)]
    unfold newD
    by_cases hu : d.length < k + b.length
    · have hl : (lay (d ++ List.replicate (k + b.length - d.length) 0) k b).length = k + b.length := by rw [lay_length (by simp; omega)]; simp; omega
      rw [if_pos hu, if_pos hu]
      simp only [trF, setT, List.map_cons, List.map_nil, sizeF, layF, rz_up (Nat.le_of_lt hu), hl]
      rfl
    · have hl : (lay d k b).length = d.length := lay_length (by omega)
      rw [if_neg hu, if_neg hu]
      simp only [trF, setT, List.map_cons, List.map_nil, layF, hl]
      rfl
theorem trF_read (d : List UInt8) (k n : Nat) (hd : d.length ≤ 700) : readT (trF d) 1 k n = if d.length ≤ k then ([], 10) else ((d.drop k).take n, 0) := by
  unfold readT
  rw [trF_file]
  simp only
  split
  · rfl
  · congr 1
    have : (d.drop k).length ≤ 700 := by rw [List.length_drop]; omega
    by_cases h : n ≤ d.length - k
    · rw [show min (min (d.length - k) 32768) n = n by omega]
    · rw [List.take_of_length_le (by rw [List.length_drop]; omega), List.take_of_length_le (by rw [List.length_drop]; omega)]
theorem trF_attrs (d : List UInt8) : attrsT (trF d) 1 = (⟨15, d.length, 0, 0, 33188, 0, 0⟩, 0) := by
  unfold attrsT
  rw [trF_find]

theorem Held.up {w : World} {base g n cap : Nat} {xs : List UInt8} (h : Held w (.slice (some ⟨g, 0, none⟩) n cap) xs) (hg : base ≤ g) (hn : n = xs.length) : w.ownsRow base 5 1 (.slice (some ⟨g, 0, none⟩) n cap) n (bcells xs) := by
  subst hn
  refine ⟨h.1, ?_⟩
  rcases h.2 with ⟨h, _⟩ | ⟨g', cap', cur, e, _, h3⟩
  · cases h
  · cases e; exact .inr ⟨g, cap, cur, rfl, hg, h3⟩
theorem TS.keepT {base : Nat} {w w' : World} {R : Nat → Role} {a : Nat} {S : Tr} {T : Nat → Prop} (h : TS base w R a S) (hk : Keeps T w w') (hT : ∀ k, R k ≠ .no → ¬ T k) : TS base w' R a S := ⟨h.1.keep hk hT, h.2.1, h.2.2⟩
section
variable {w : World}
/-- Behind so many rounds: the file and want hold the same. -/
structure BI (w wr : World) (a : Nat) (R : Nat → Role) (d : List UInt8) (vw : Value) : Prop where
  ts : TS w.heap.size wr R a (trF d)
  own : wr.ownsRow w.heap.size 5 1 vw d.length (bcells d)
  no : ∀ j, vw.ownBlock = some j → R j = .no
  len : d.length ≤ 700
  bel : Below w.heap.size w wr
set_option maxHeartbeats 8000000 in
set_option maxRecDepth 100000 in
theorem treeBytes_c (v0 v1 : Value) (ps : List (List UInt8)) (n1 : Nat) (w : World) (h0 : LSl w v0 ps) (h1 : ISl w v1 n1) :
    Calls Try.prog 3 #[v0, v1] w fun e w' => e = .returned (.bool true) ∧ Below w.heap.size w w' := by
  obtain ⟨i0, hi0, hz0, hz1, hz2⟩ := info_parts Try.infoU8
  obtain ⟨ao0, cap0, rfl, hc0, hm0, hl0⟩ := h0
  obtain ⟨ao1, cap1, rfl, hc1, hm1, hl1⟩ := h1
  unfold maxLen at hm0 hm1
  have HL0 := hidden hl0
  have HL1 := hidden hl1
  clear hl0 hl1
  go_enter Try.func3, Try.ntmps3
  go_wp2_with fail
  refine (new_c w).mono ?_
  rintro e w1 ⟨R1, a, rfl, ht1, hb1⟩
  have HT1 := hidden ht1
  have HB1 := hidden hb1
  clear ht1 hb1
  go_wp2_with fail
  have hs1 := HB1.out.size
  have htA := HT1.out.still ((Keeps.refl (fun _ => False) w1).alloc (.cells #[.string ⟨#[102]⟩] 9))
  have hmk1 := make_t htA (by simp; omega) _ [nmF] (ssl_lit w1 [nmF] (by decide)) (fun k e => by cases e; exact HT1.out.lim _ (Nat.le_refl _)) false (by decide)
  rw [trF_make] at hmk1
  refine hmk1.mono ?_
  rintro e w2 ⟨rfl, R2, ht2, hm2⟩
  have HI2 : Hid (BI w w2 a R2 [] (.slice none 0 0)) := ⟨ht2, World.ownsRow_nil _ _ _ _, fun j e => (by cases e), by simp, (HB1.out.alloc hs1 _).trans (hm2.below HT1.out.2.2 (by simp; omega))⟩
  clear ht2 hm2 htA hmk1 hs1
  go_wp2_with fail
  go_loopw [8, 9] (fun x c wr => ∃ R d, ∃ k : Nat, c = .int .i64 k ∧ k ≤ 12 ∧ BI w wr a R d x) (fun _ c _ => 12 - (intOf c).toNat)
  case atStart => exact ⟨R2, [], 0, rfl, by omega, HI2.out⟩
  case round =>
    obtain ⟨R, d, k, rfl, hk12, hI⟩ := hrel
    have HI := hidden hI
    clear hI
    obtain ⟨wo, ewo⟩ : ∃ x, x = wr := ⟨wr, rfl⟩
    subst ewo
    have hlen := HI.out.len
    obtain ⟨aw, cw, rfl⟩ := ownsRow_shape HI.out.own
    by_cases hlt : k < ps.length ∧ k < n1 ∧ k < 12
    · obtain ⟨hlt0, hlt1, hlt2⟩ := hlt
      have q0 : (k : Int) < (ps.length : Int) := by omega
      have q1 : (k : Int) < (n1 : Int) := by omega
      have q2 : (k : Int) < 12 := by omega
      obtain ⟨b0, o0, x0, rfl, c0, hx0⟩ := HL0.out k hlt0
      obtain ⟨b1, o1, rfl, z1, c1⟩ := HL1.out k hlt1
      have c0 := (HI.out.bel.cell (World.block_lt_of_cell? _ _ c0)).trans c0
      have c1 := (HI.out.bel.cell (World.block_lt_of_cell? _ _ c1)).trans c1
      have HX0 := hidden (hx0.fresh HI.out.bel)
      have HX0w := hidden hx0
      generalize ps.getD k [] = b at HX0 HX0w
      clear hx0
      go_wp2_with fail
      refine (cut_c 200 (by omega) x0 b _ HX0.out).mono ?_
      rintro e wq ⟨vb, rfl, hvb, hob, hq⟩; obtain rfl := hq.symm; clear hq
      have HVB := hidden hvb
      have hbl : (b.take 200).length ≤ 200 := by rw [List.length_take]; omega
      have HNB : Hid (b.take 200 ≠ [] → ∀ j, vb.ownBlock = some j → j < w.heap.size) := fun hne j e => by
        cases b with
        | nil => simp at hne
        | cons y t => exact HX0w.out.blockLt j (by rw [← hob]; exact e)
      clear hvb hob
      generalize b.take 200 = c at HVB hbl HNB
      obtain ⟨av, cv, rfl, hcv, hcm, _⟩ := id HVB.out
      unfold maxLen at hcm
      go_wp2_with fail
      refine (within_c z1 500 (by omega) _).mono ?_
      rintro e wq ⟨m, rfl, hm, hq⟩; obtain rfl := hq.symm; clear hq
      go_wp2_with fail
      have hwr := write_t HI.out.ts HI.out.bel.size 1 m (by omega) _ c HVB.out (by omega) (fun hne j e => HI.out.ts.2.2 j (HNB.out hne j e))
      rw [trF_write d m c hm hbl] at hwr
      refine hwr.mono ?_
      rintro e w3 ⟨rfl, R3, ht3, hm3⟩
      have HB3 : Hid (Below w.heap.size w w3) := HI.out.bel.trans (hm3.below HI.out.ts.2.2 HI.out.bel.size)
      have HO3 : Hid (w3.ownsRow w.heap.size 5 1 (.slice aw d.length cw) d.length (bcells d)) := hm3.keeps.row HI.out.own (fun j e h => h (HI.out.no j e))
      have HN3 : Hid (∀ j, (Value.slice aw d.length cw).ownBlock = some j → R3 j = .no) := fun j e => (hm3.old j (HI.out.own.lt j e).2).trans (HI.out.no j e)
      by_cases hc : c = []
      · subst hc
        rw [if_pos rfl] at ht3
        have HT3 := hidden ht3
        clear ht3 hm3 hwr HVB HNB
        have hz0 : ((([] : List UInt8).length : Nat) : Int) = 0 := rfl
        go_wp2_with fail
        have hrd := read_t HT3.out 1 m 0 (by omega) (by omega)
        rw [trF_read d m 0 hlen] at hrd
        obtain ⟨er, her⟩ : ∃ er : Nat, (if d.length ≤ m then (([] : List UInt8), 10) else ((d.drop m).take 0, 0)) = (([] : List UInt8), er) := by
          split
          · exact ⟨10, rfl⟩
          · exact ⟨0, by simp⟩
        rw [her] at hrd
        refine hrd.mono ?_
        rintro e w4 ⟨vr, rfl, hvr, _, hb4⟩
        have HI4 : Hid (BI w w4 a R3 d (.slice aw d.length cw)) := ⟨HT3.out.fresh hb4, (Keeps.ofFresh (S := fun _ => False) hb4).row HO3.out (fun _ _ h => h), HN3.out, hlen, HB3.out.trans (hb4.mono HB3.out.size)⟩
        obtain ⟨ar, cr, rfl, _⟩ := hvr
        clear hb4 hrd
        go_wp2_with fail
        refine (bytes_c HI4.out.ts.1).mono ?_
        rintro e wq ⟨rfl, hq⟩; obtain rfl := hq.symm; clear hq
        rw [trF_size]
        go_wp2_with fail
        go_roundw
        case rel => exact ⟨R3, d, k + 1, by go_num, by omega, HI4.out⟩
        case measure => simp [intOf]; omega
      · have hcl := List.length_pos_iff.2 hc
        have hcz : (0 : Int) < (c.length : Int) := by omega
        rw [if_neg hc] at ht3
        have HT3 := hidden ht3
        have HVB3 := hidden (HVB.out.keep hm3.keeps (fun j e h => h (HI.out.ts.2.2 j (HNB.out hc j e))))
        have HNB3 := hidden (HNB.out hc)
        clear ht3 hm3 hwr HVB HNB
        have hLI : Hid (∀ (W : World) (v' : Value) (n : Nat), W.ownsRow w.heap.size 5 1 v' n (bcells (d ++ List.replicate (n - d.length) 0)) → ∃ ao cp, v' = .slice ao n cp) := fun W v' n h => ownsRow_shape h
        go_wp2_with fail
        go_loopw [8] (fun x wr => ∃ q : Nat, q ≤ m + c.length - d.length ∧ wr.ownsRow w.heap.size 5 1 x (d.length + q) (bcells (d ++ List.replicate q 0)) ∧ (∀ j, x.ownBlock = some j → R3 j = .no) ∧ TS w.heap.size wr R3 a (trF (newD d m c)) ∧ Below w.heap.size w wr ∧ BSl wr (.slice av c.length cv) c) (fun x _ => m + c.length - (sliceLen x))
        case atStart => exact ⟨0, by omega, by simpa using HO3.out, HN3.out, HT3.out, HB3.out, HVB3.out⟩
        case round =>
          obtain ⟨q, hq, ho, hn, hts, hbw, hvb⟩ := hrel
          have HOq := hidden ho
          have HNq := hidden hn
          have HTq := hidden hts
          have HBq := hidden hbw
          have HVq := hidden hvb
          clear ho hn hts hbw hvb
          obtain ⟨aq, cq, rfl⟩ := ownsRow_shape HOq.out
          by_cases hlt : d.length + q < m + c.length
          · have hqi : ((d.length + q : Nat) : Int) < (m : Int) + (c.length : Int) := by omega
            have hsq := HBq.out.size
            go_wp2_with (at_builtin; refine wpList_append_src _ rfl (.tmp 72) (.tmp 73) 30 30 rfl w.heap.size 5 i0 _ 1 Try.underlying30 hi0 hz0 hz1 hz2 rfl _ _ _ rfl (HOq.out.alloc _) _ 1 [.int .u8 0] rfl (srcOne wr 0) (by unfold maxLen; omega) (by omega) (by simp; omega) (wr.heap.size + 1) (by simp) ?_)
            intro v5 w5 hown5 hgrow5 hnil5 hat5
            obtain ⟨a5, c5, rfl⟩ := ownsRow_shape hown5
            have hkk : Keeps (fun j => (Value.slice aq (d.length + q) cq).ownBlock = some j) wr w5 := ((Keeps.refl _ wr).alloc _).trans (Keeps.ofGrown hgrow5 fun _ e => e)
            have hown6 : w5.ownsRow w.heap.size 5 1 (.slice a5 (d.length + q + 1) c5) (d.length + (q + 1)) (bcells (d ++ List.replicate (q + 1) 0)) := by
              have e1 : bcells (d ++ List.replicate q 0) ++ [Value.int .u8 0] = bcells (d ++ List.replicate (q + 1) 0) := by
                rw [List.replicate_succ', ← List.append_assoc, bcells_append (d ++ List.replicate q 0)]
                rfl
              rw [← e1]
              exact hown5
            have hno6 : ∀ j, (Value.slice a5 (d.length + q + 1) c5).ownBlock = some j → R3 j = .no := fun j e => by
              rcases hat5 with h | h
              · exact HNq.out j (by rw [← h]; exact e)
              · rw [h] at e
                cases e
                exact HTq.out.lim _ (by omega)
            have hts6 : TS w.heap.size w5 R3 a (trF (newD d m c)) := HTq.out.keepT hkk fun j hj h => hj (HNq.out j h)
            have hbe6 : Below w.heap.size w w5 := HBq.out.trans (hkk.below hsq fun j e => (HOq.out.lt j e).1)
            have hvb6 : BSl w5 (.slice av c.length cv) c := HVq.out.keep hkk fun j e h => by
              have h1 := HNB3.out j e
              have h2 := (HOq.out.lt j h).1
              omega
            have H6 := hidden hown6
            have H6n := hidden hno6
            have H6t := hidden hts6
            have H6b := hidden hbe6
            have H6v := hidden hvb6
            clear hown5 hgrow5 hnil5 hat5 hkk hown6 hno6 hts6 hbe6 hvb6
            go_wp2_with fail
            go_roundw
            case rel => exact ⟨q + 1, by omega, H6.out, H6n.out, H6t.out, H6b.out, H6v.out⟩
            case measure => simp [sliceLen]; omega
          · have hqi : ¬ ((d.length + q : Nat) : Int) < (m : Int) + (c.length : Int) := by omega
            have hlq : (d ++ List.replicate q (0 : UInt8)).length = d.length + q := by simp
            have hD : lay (d ++ List.replicate q (0 : UInt8)) m c = newD d m c := by
              unfold newD
              split
              · next hu =>
                have : q = m + c.length - d.length := by omega
                rw [this]
              · next hu =>
                have : q = 0 := by omega
                rw [this, List.replicate_zero, List.append_nil]
            have hne : 0 < d.length + q := by omega
            obtain ⟨g, rfl⟩ : ∃ g, aq = some ⟨g, 0, none⟩ := by
              rcases HOq.out.2 with ⟨h, h'⟩ | ⟨g, _, _, h, _⟩
              · omega
              · cases h; exact ⟨g, rfl⟩
            have hgb := (HOq.out.lt g rfl).1
            have hHq : Held wr (.slice (some ⟨g, 0, none⟩) (d ++ List.replicate q (0 : UInt8)).length cq) (d ++ List.replicate q 0) := by
              unfold Held
              rw [hlq]
              exact ownsRow_mono HOq.out (Nat.zero_le _)
            obtain ⟨w7, hrun7, hH7, hk7⟩ := run_copy_H wr hHq HVq.out m (by rw [hlq]; omega) hc
            rw [hlq] at hrun7 hH7
            rw [hD] at hH7
            have hnl : (newD d m c).length = d.length + q := by rw [← hD, lay_length (by rw [hlq]; omega), hlq]
            have hcap : d.length + q ≤ cq ∧ cq ≤ maxLen := by
              rcases HOq.out.2 with ⟨h, _⟩ | ⟨g', cap', cur', e, _, _, x1, x2, _⟩
              · cases h
              · cases e; exact ⟨x1, x2⟩
            have hgn : R3 g = .no := HNq.out g rfl
            have HI7 : Hid (BI w w7 a R3 (newD d m c) (.slice (some ⟨g, 0, none⟩) (d.length + q) cq)) := by
              refine ⟨HTq.out.keepT hk7 fun j hj h => hj (by rw [h]; exact hgn), ?_, fun j e => by cases e; exact hgn, by rw [newD_length]; omega, HBq.out.trans (hk7.below HBq.out.size fun j e => by rw [e]; exact hgb)⟩
              rw [hnl]
              exact Held.up hH7 hgb hnl.symm
            have HV7 : Hid (BSl w7 (.slice av c.length cv) c) := HVq.out.keep hk7 fun j e h => by
              have h1 := HNB3.out j e
              rw [h] at h1
              omega
            have hq1 : ¬ cq = m := by omega
            have hq2 : m ≤ d.length + q := by omega
            have hq3 : (m : Int) ≤ ((d.length + q : Nat) : Int) := by omega
            clear hHq hH7 hk7 hD
            go_wp2_with (at_builtin; refine wpList_copy_run _ rfl (.tmp 77) (.tmp 78) 30 30 rfl _ _ rfl rfl (hrun7 _ _) ?_)
            have hrd := read_t HI7.out.ts 1 m c.length (by omega) (by omega)
            rw [trF_read _ m c.length (by rw [newD_length]; omega), if_neg (by rw [newD_length]; omega), newD_back] at hrd
            refine hrd.mono ?_
            rintro e w8 ⟨vr, rfl, hvr, _, hb8⟩
            have HI8 : Hid (BI w w8 a R3 (newD d m c) (.slice (some ⟨g, 0, none⟩) (d.length + q) cq)) := ⟨HI7.out.ts.fresh hb8, (Keeps.ofFresh (S := fun _ => False) hb8).row HI7.out.own (fun _ _ h => h), HI7.out.no, HI7.out.len, HI7.out.bel.trans (hb8.mono HI7.out.bel.size)⟩
            have hs1 := run_string hvr
            have hs2 := run_string (HV7.out.fresh hb8)
            obtain ⟨ar, cr, rfl, _⟩ := hvr
            have hcz2 : ¬ ((c.length : Nat) : Int) = 0 := by omega
            clear hb8 hrd
            go_wp2_with fail
            refine (bytes_c HI8.out.ts.1).mono ?_
            rintro e wq ⟨rfl, hq⟩; obtain rfl := hq.symm; clear hq
            rw [trF_size, hnl]
            go_wp2_with fail
            go_roundw
            case rel =>
              refine ⟨R3, newD d m c, k + 1, by go_num, by omega, ?_⟩
              exact HI8.out
            case measure => simp [intOf]; omega
    · -- the loop is left
      have hcond : (¬ (k : Int) < (ps.length : Int)) ∨ ((k : Int) < (ps.length : Int) ∧ ¬ (k : Int) < (n1 : Int)) ∨ ((k : Int) < (ps.length : Int) ∧ (k : Int) < (n1 : Int) ∧ ¬ (k : Int) < 12) := by omega
      have hrd := read_t HI.out.ts 1 0 65536 (by omega) (by omega)
      obtain ⟨er, her, herd⟩ : ∃ er : Nat, readT (trF d) 1 0 65536 = (d, er) ∧ ((er : Int) == 0) = decide (0 < d.length) := by
        rw [trF_read d 0 65536 hlen]
        by_cases hd0 : d.length ≤ 0
        · have : d = [] := List.eq_nil_of_length_eq_zero (by omega)
          subst this
          exact ⟨10, rfl, rfl⟩
        · rw [if_neg hd0]
          refine ⟨0, by rw [List.drop_zero, List.take_of_length_le (by omega)], ?_⟩
          rw [decide_eq_true (by omega)]
          rfl
      rw [her] at hrd
      have HRD := hidden hrd
      have HAT : Hid ((attrsT (trF d) 1).1.v = .agg #[.int .u32 15, .int .u64 d.length, .int .u32 0, .int .u32 0, .int .u32 33188, .int .u32 0, .int .u32 0] ∧ (attrsT (trF d) 1).2 = 0) := by rw [trF_attrs]; exact ⟨rfl, rfl⟩
      have HOW := hidden (BSl.ofRow HI.out.own)
      clear hrd her hlt
      rcases hcond with h | ⟨h, h'⟩ | ⟨h, h', h''⟩
      all_goals
        go_wp2_with fail
        refine HRD.out.mono ?_
        rintro e w8 ⟨vr, rfl, hvr, _, hb8⟩
        have HI8 : Hid (BI w w8 a R d (.slice aw d.length cw)) := ⟨HI.out.ts.fresh hb8, (Keeps.ofFresh (S := fun _ => False) hb8).row HI.out.own (fun _ _ h => h), HI.out.no, hlen, HI.out.bel.trans (hb8.mono HI.out.bel.size)⟩
        have HVR := hidden hvr
        obtain ⟨ar, cr, rfl, _⟩ := hvr
        clear hb8
        go_wp2_with fail
        refine (attrs_t HI8.out.ts 1).mono ?_
        rintro e w9 ⟨rfl, hb9⟩
        rw [HAT.out.1, HAT.out.2]
        have HB9 := hidden (HI8.out.bel.trans (hb9.mono HI8.out.bel.size))
        have hs9 := HB9.out.size
        have HS1 := hidden (HVR.out.fresh hb9)
        have HS2 := hidden ((BSl.ofRow HI8.out.own).fresh hb9)
        have hs1 := run_string (HS1.out.alloc (.cells #[.int .u32 15, .int .u64 d.length, .int .u32 0, .int .u32 0, .int .u32 33188, .int .u32 0, .int .u32 0] 40))
        have hs2 := run_string (HS2.out.alloc (.cells #[.int .u32 15, .int .u64 d.length, .int .u32 0, .int .u32 0, .int .u32 33188, .int .u32 0, .int .u32 0] 40))
        have hdi : IntKind.u64.wrap (d.length : Int) = (d.length : Int) := by simp [IntKind.wrap, IntKind.bits, IntKind.signed]; omega
        clear hb9
        go_wp2_with fail
        refine (known_c _).mono ?_
        rintro e w10 ⟨rfl, hb10⟩
        have HB10 : Hid (Below w.heap.size w w10) := (HB9.out.alloc hs9 _).trans (hb10.mono (by simp; omega))
        clear hb10
        go_wp2_with fail
        go_ret
        exact ⟨rfl, HB10.out⟩
end
end Go.Proofs.Ytnigfnikajejaaa
