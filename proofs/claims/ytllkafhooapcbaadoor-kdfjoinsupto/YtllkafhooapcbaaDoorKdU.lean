/- The walk of the law KdfJoins. -/
import Derived.Test.YtllkafhooapcbaaDoorKdT
namespace Go.Proofs.YtllkafhooapcbaaDoor
open Go Go.RowKit

theorem gives_lenS {o : Oper} {ρ : Operand → Value} {w : World} {x : Operand} {Φ : Value → World → Prop} {s : ByteArray} (ho : o.op = .call { callee := .builtin .len, args := #[x], argTypes := #[9] }) (hx : ρ x = .string s) (h : Φ (.int .i64 (s.size : Nat)) w) : Gives Tryd.prog o ρ w Φ := by
  refine Gives.value (w' := w) (v := .int .i64 (s.size : Nat)) ?_ h
  unfold execOp
  simp only [ho]
  simp [resolve, invoke, builtin, Builtin.len_, hx, run_underlying Tryd.underlying9, goInt]

theorem byteOf_self (b : UInt8) : byteOf (b.toNat : Int) = b := by
  have h1 := byteOf_nat (b.toNat : Int)
  have h2 := b.toNat_lt
  exact UInt8.toNat_inj.1 (by omega)
/-- Two Writers, their rows by number. -/
structure TG (base : Nat) (wr : World) (a1 : Nat) (g1 : Option Nat) (a2 : Nat) (g2 : Option Nat) (b1 b2 : List UInt8) : Prop where
  one : WS wr base a1 g1 b1
  two : WS wr base a2 g2 b2
  ne : a1 ≠ a2
  n1 : g1 ≠ some a2
  n2 : g2 ≠ some a1
  n3 : ∀ k, g1 = some k → g2 ≠ some k
theorem TG.next {base : Nat} {wr wr' : World} {a1 a2 : Nat} {g1 g2 g2' : Option Nat} {b1 b2 b2' : List UInt8} (h : TG base wr a1 g1 a2 g2 b1 b2) (h7 : WS wr' base a2 g2' b2') (h8 : Wrote a2 g2 g2' wr wr') : TG base wr' a1 g1 a2 g2' b1 b2' ∧ Below base wr wr' := by
  refine ⟨⟨?_, h7, h.ne, h.n1, ?_, ?_⟩, h8.below h.two⟩
  · exact h.one.keep h8.keeps (fun e => e.elim h.ne h.n2) (fun k hk e => e.elim (fun e => h.n1 (by rw [hk, e])) (fun e => h.n3 k hk e))
  · rcases h8.row with rfl | ⟨k, rfl, hk⟩
    · exact h.n2
    · intro e; cases e; have := h.one.lt; omega
  · rcases h8.row with rfl | ⟨k, rfl, hk⟩
    · exact h.n3
    · intro k2 e e2; cases e2; have := (h.one.rowLt _ e).2; omega
theorem TG.ext {base : Nat} {wr wr' : World} {a1 a2 : Nat} {g1 g2 : Option Nat} {b1 b2 : List UInt8} (h : TG base wr a1 g1 a2 g2 b1 b2) (he : Below wr.heap.size wr wr') : TG base wr' a1 g1 a2 g2 b1 b2 := ⟨h.one.fresh he, h.two.fresh he, h.ne, h.n1, h.n2, h.n3⟩

set_option maxHeartbeats 3200000 in
set_option maxRecDepth 100000 in
theorem kdfJoins_c (vc vz : ByteArray) (v2 v3 v4 : Value) (n : Nat) (z3 z4 : List UInt8) (letter : UInt8) (hvc : vc.size ≤ 2000000) (hvs : vz.size ≤ 2000000) (w : World) (hr : Rw w) (h2 : LSl w v2 n) (h3 : BSl w v3 z3) (h4 : BSl w v4 z4) :
    Calls Tryd.prog 7 #[.string vc, .string vz, v2, v3, v4, .int .u8 letter.toNat] w fun e w' => e = .returned (.bool true) ∧ Below w.heap.size w w' := by
  have HR0 := hidden hr
  have HL := hidden h2
  have H3 := hidden h3
  have H4 := hidden h4
  obtain ⟨lo, lc, rfl, hl1, hl2, _⟩ := h2
  unfold maxLen at hl2
  obtain ⟨a3, n3, rfl⟩ := h3.len
  obtain ⟨a4, n4, rfl⟩ := h4.len
  have HX0 := hidden (XI.start w)
  clear h3 h4 hr
  go_enter Tryd.func7, Tryd.ntmps7
  go_upto_block 0 with fail
  go_cut [14] from 21 to 37 (fun _ wx => XI w wx)
  case first =>
    go_wp2_with fail
    go_loopw [14] (fun c wr => ∃ j : Nat, j ≤ n ∧ j ≤ 5 ∧ c = .int .i64 (j : Int) ∧ XI w wr) (fun c _ => 5 - (intOf c).toNat)
    case atStart => exact ⟨0, by omega, by omega, rfl, HX0.out⟩
    case round =>
      clear HX0
      obtain ⟨j, hj, hj5, rfl, ht⟩ := hrel
      have HT := hidden ht
      clear ht
      by_cases h5 : j < 5
      · have h5' : (j : Int) < 5 := by omega
        by_cases hlt : j < n
        · have hlt' : (j : Int) < (n : Int) := by omega
          obtain ⟨b, off, rfl, u, us, hcu, hbu⟩ := HL.out.at j hlt
          have hbw := HT.out.below
          have hcu1 := cell_kept hcu hbw
          have HBU := hidden (hbu.fresh hbw)
          obtain ⟨au, cu, rfl⟩ := hbu.len
          obtain ⟨old, ho, hf⟩ := HT.out.cell j h5
          have HBU0 := hidden hbu
          clear hcu hbu hbw
          generalize us.length = nu at hcu1 HBU HBU0
          go_wp2_with fail
          refine (cut_c 150 (by omega) _ us _ HBU.out).mono ?_
          rintro e w2 ⟨v2, rfl, hv2, hob, rfl⟩
          obtain ⟨a2, c2, rfl⟩ := hv2.len
          have HN := hidden (HT.out.set j h5 (cut_at HBU0.out hv2 HT.out.below hob) (by simp; omega))
          clear hv2 hob
          generalize (us.take 150).length = nt at HN ⊢
          go_wp2
          go_roundw
          case rel => exact ⟨j + 1, by omega, by omega, by go_num, HN.out⟩
          case measure => simp [intOf]; omega
        · have hlt' : ¬ (j : Int) < (n : Int) := by omega
          go_wp2_with fail
          go_meet
          case rel => exact HT.out
      · have h5' : ¬ (j : Int) < 5 := by omega
        go_wp2_with fail
        go_meet
        case rel => exact HT.out
  case rest =>
    obtain ⟨pv, px, hx0, hx1, hx2, hxb⟩ := hcut
    have HP := hidden hx0
    have HPV := hidden hx1
    have HPX := hidden hx2
    have HB0 := hidden hxb
    clear HX0 HL hx0 hx1 hx2 hxb hl1 hl2
    generalize hT : w.heap.size = T at HP ⊢
    have HTe := hidden hT
    clear hT
    go_wp2_with fail
    refine (cut_c 60 (by omega) _ z3 wc (H3.out.fresh HB0.out)).mono ?_
    rintro e w1 ⟨vk, rfl, hk, _, rfl⟩
    have hlK : (z3.take 60).length ≤ 60 := by simp; omega
    generalize z3.take 60 = K at hk hlK
    obtain ⟨ak, ck, rfl⟩ := hk.len
    have HK0 := hidden hk
    clear hk H3
    go_wp2_with fail
    refine (cut_c 60 (by omega) _ z4 _ (H4.out.fresh HB0.out)).mono ?_
    rintro e w2 ⟨vi, rfl, hi, _, rfl⟩
    have hlI : (z4.take 60).length ≤ 60 := by simp; omega
    generalize z4.take 60 = I at hi hlI
    obtain ⟨ai, ci, rfl⟩ := hi.len
    have HI0 := hidden hi
    clear hi H4
    go_wp2_with fail
    refine (newWriter_c _).mono ?_
    rintro e w3 ⟨rfl, rfl⟩
    go_wp2_with fail
    refine (newWriter_c _).mono ?_
    rintro e w4 ⟨rfl, rfl⟩
    have hTW := TW.start w2
    have hb4 : Below w2.heap.size w2 ((w2.alloc (.cells #[.slice none 0 0] 66)).alloc (.cells #[.slice none 0 0] 66)) := ((Below.refl _ w2).alloc (by omega) _).alloc (by simp) _
    have hsz : (w2.alloc (.cells #[.slice none 0 0] 66)).heap.size = w2.heap.size + 1 := by simp
    rw [hsz]
    generalize (w2.alloc (.cells #[.slice none 0 0] 66)).alloc (.cells #[.slice none 0 0] 66) = w4 at hTW hb4 ⊢
    have HTW := hidden hTW
    have HB4 := hidden hb4
    have hbase : w.heap.size ≤ w2.heap.size := HB0.out.size
    have hTl : T < w2.heap.size := lt_of_block HP.out
    have HP4 : Hid (∀ wx, Below w2.heap.size w2 wx → wx.heap[T]? = some (.cells (five pv) 31 (0, 0))) := fun wx hx => (hx.block T hTl).trans HP.out
    have HBW : Hid (∀ wx, Below w2.heap.size w2 wx → Below w.heap.size w wx) := fun wx hx => HB0.out.trans (hx.mono hbase)
    have HAp : Hid (∀ g, (∀ q, g = some q → w2.heap.size ≤ q) → ∀ a, w2.heap.size ≤ a → K ≠ [] → (Value.slice ak K.length ck).ownBlock ≠ some a ∧ ∀ q, g = some q → (Value.slice ak K.length ck).ownBlock ≠ some q) := fun g hg a ha hne => by
      obtain ⟨b, o, cp, e, hl⟩ := HK0.out.nonnil hne
      cases e
      refine ⟨fun e => by simp [Value.ownBlock] at e; omega, fun q eq e => ?_⟩
      have := hg q eq
      simp [Value.ownBlock] at e
      omega
    have HKf : Hid (∀ wx, Below w2.heap.size w2 wx → BSl wx (.slice ak K.length ck) K) := fun wx hx => HK0.out.fresh hx
    have HIf : Hid (∀ wx, Below w2.heap.size w2 wx → BSl wx (.slice ai I.length ci) I) := fun wx hx => HI0.out.fresh hx
    clear hTW hb4 hsz HP HK0 HI0
    generalize hW2 : w2.heap.size = a1 at *
    clear hW2
    obtain ⟨a2, ha2⟩ : ∃ a2, a2 = a1 + 1 := ⟨_, rfl⟩
    rw [← ha2] at HTW ⊢
    have HA2 := hidden ha2
    clear ha2
    have HL0 : Hid ((textBytes vc.data.toList).length = vc.size + 4) := by show _ = _; rw [text_len, Array.length_toList]; rfl
    have HL1 : Hid ((textBytes vz.data.toList).length = vz.size + 4) := by show _ = _; rw [text_len, Array.length_toList]; rfl
    have HJ := hidden (joinTo_le px 150 HPX.out)
    have HHL : Hid (hashL vc.data.toList vz.data.toList px K = sumL (textBytes vc.data.toList ++ textBytes vz.data.toList ++ joinTo px 5 ++ mpBytes K)) := rfl
    obtain ⟨g, hws, hnext⟩ := HTW.out.one
    have HWS := hidden hws
    have HN := hidden hnext
    clear hws hnext HTW
    go_wp2_with fail
    refine (text_c vc (by omega) w4 HWS.out (by simp; omega)).mono ?_
    rintro e w5 ⟨rfl, g5, hw5, hwr5⟩
    obtain ⟨ht5, hb5⟩ := HN.out _ _ _ hw5 hwr5
    rw [List.nil_append] at ht5
    have HB5 := hidden (HB4.out.trans hb5)
    obtain ⟨g, hws, hnext⟩ := ht5.one
    clear hw5 hwr5 hb5 ht5 HWS HN HB4
    have HWS := hidden hws
    have HN := hidden hnext
    clear hws hnext
    go_wp2_with fail
    refine (text_c vz (by omega) w5 HWS.out (by rw [HL0.out]; omega)).mono ?_
    rintro e w6 ⟨rfl, g6, hw6, hwr6⟩
    obtain ⟨ht6, hb6⟩ := HN.out _ _ _ hw6 hwr6
    have HT6 := hidden ht6
    have HB6 := hidden (HB5.out.trans hb6)
    clear hw6 hwr6 hb6 ht6 HWS HN HB5
    have HD1 : Hid ((textBytes vc.data.toList ++ textBytes vz.data.toList).length = vc.size + vz.size + 8) := by show _ = _; rw [List.length_append, HL0.out, HL1.out]; omega
    generalize hHH : hashL vc.data.toList vz.data.toList px K = Hs at HHL
    have HHs : Hid (Hs = hashL vc.data.toList vz.data.toList px K) := hHH.symm
    clear hHH
    generalize textBytes vc.data.toList ++ textBytes vz.data.toList = D1 at HT6 HD1 HHL
    go_wp2_with fail
    go_loopw [17] (fun c wr => ∃ j : Nat, j ≤ 5 ∧ c = .int .i64 (j : Int) ∧ TW a1 wr a1 a2 (D1 ++ joinTo px j) [] ∧ Below a1 w2 wr) (fun c _ => 5 - (intOf c).toNat)
    case atStart => exact ⟨0, by omega, rfl, by simpa [joinTo] using HT6.out, HB6.out⟩
    case round =>
      clear HT6 HB6
      obtain ⟨j, hj, rfl, ht, hb⟩ := hrel
      have HB := hidden hb
      obtain ⟨g, hws, hnext⟩ := ht.one
      have HWS := hidden hws
      have HN := hidden hnext
      have HT := hidden ht
      clear ht hb hws hnext
      by_cases hlt : j < 5
      · have hlt' : (j : Int) < 5 := by omega
        have hcell : wr.cell? ⟨T, j, none⟩ = some (pv j) := by
          have := HP4.out wr HB.out
          rw [cell_row (cs := (five pv).toList) (by simpa using this), Array.getElem?_toList, five_at pv j hlt]
        have hvj := (HPV.out j hlt).fresh (HBW.out wr HB.out)
        have hlj : (px j).length ≤ 150 := HPX.out j
        have HPj := hidden (HJ.out j)
        have hstr := run_string hvj
        have HTx : Hid (∀ s : ByteArray, s = ⟨(px j).toArray⟩ → s.size < 4294967296 ∧ s.size ≤ 150 ∧ s.data.toList = px j) := fun s hs => by
          subst hs
          rw [size_list]
          exact ⟨by omega, hlj, rfl⟩
        obtain ⟨S, hS⟩ : ∃ S : ByteArray, S = ⟨(px j).toArray⟩ := ⟨_, rfl⟩
        rw [← hS] at hstr
        obtain ⟨q1, q2, q3⟩ := HTx.out S hS
        have Q3 := hidden q3
        obtain ⟨aj, cj, ej⟩ := hvj.len
        rw [ej] at hcell hstr
        have HJn : Hid (joinTo px (j + 1) = joinTo px j ++ textBytes (px j)) := rfl
        clear hvj ej HTx hS q3 HT
        go_wp2_with fail
        refine (text_c S q1 wr HWS.out (by rw [List.length_append, HD1.out]; have := HPj.out; omega)).mono ?_
        rintro e w7 ⟨rfl, g7, hw7, hwr7⟩
        rw [Q3.out, List.append_assoc, ← HJn.out] at hw7
        obtain ⟨ht7, hb7⟩ := HN.out _ _ _ hw7 hwr7
        have HT7 := hidden ht7
        have HB7 := hidden (HB.out.trans hb7)
        clear hw7 hwr7 hcell hstr ht7 hb7
        go_wp2
        go_roundw
        case rel => exact ⟨j + 1, by omega, by go_num, HT7.out, HB7.out⟩
        case measure => simp [intOf]; omega
      · have hlt' : ¬ (j : Int) < 5 := by omega
        obtain rfl : j = 5 := by omega
        have HPj := hidden (HJ.out 5)
        have HML := hidden (mp_le K)
        have HAp1 := hidden (HAp.out g (fun q e => (HWS.out.rowLt q e).1) a1 (Nat.le_refl _))
        generalize joinTo px 5 = J5 at HWS HHL HPj HN HT
        clear HT
        go_wp2_with fail
        refine (mpint_n _ K (by omega) wr (HKf.out wr HB.out) HWS.out HAp1.out (by rw [List.length_append, HD1.out]; have := HPj.out; omega)).mono ?_
        rintro e w7 ⟨rfl, g7, hw7, hwr7⟩
        obtain ⟨ht7, hb7⟩ := HN.out _ _ _ hw7 hwr7
        have HB7 := hidden (HB.out.trans hb7)
        have HW1L : Hid ((D1 ++ J5 ++ mpBytes K).length ≤ 100000000) := by
          show _ ≤ _
          rw [List.length_append, List.length_append, HD1.out]
          have := HPj.out
          have := HML.out
          omega
        have HT7 := hidden ht7
        clear hw7 hwr7 hb7 ht7 HWS HN HB HAp1
        generalize D1 ++ J5 ++ mpBytes K = B1 at HT7 HW1L HHL
        have c0 := cell_row (cs := (five pv).toList) (by simpa using HP4.out w7 HB7.out) 0
        have c1 := cell_row (cs := (five pv).toList) (by simpa using HP4.out w7 HB7.out) 1
        have c2 := cell_row (cs := (five pv).toList) (by simpa using HP4.out w7 HB7.out) 2
        have c3 := cell_row (cs := (five pv).toList) (by simpa using HP4.out w7 HB7.out) 3
        have c4 := cell_row (cs := (five pv).toList) (by simpa using HP4.out w7 HB7.out) 4
        rw [Array.getElem?_toList, five_at pv _ (by omega)] at c0 c1 c2 c3 c4
        obtain ⟨s0, t0, e0⟩ := (HPV.out 0 (by omega)).len
        obtain ⟨s1, t1, e1⟩ := (HPV.out 1 (by omega)).len
        obtain ⟨s2, t2, e2⟩ := (HPV.out 2 (by omega)).len
        obtain ⟨s3, t3, e3⟩ := (HPV.out 3 (by omega)).len
        obtain ⟨s4, t4, e4⟩ := (HPV.out 4 (by omega)).len
        have HHc := hidden (Hash_c vc vz pv px _ K (by omega) (by omega) (fun i => by have := HPX.out i; omega) (by omega) w7 (HR0.out.fresh (HBW.out w7 HB7.out)) (fun i hi => (HPV.out i hi).fresh (HBW.out w7 HB7.out)) (HKf.out w7 HB7.out))
        rw [← HHs.out, e0, e1, e2, e3, e4] at HHc
        rw [e0] at c0
        rw [e1] at c1
        rw [e2] at c2
        rw [e3] at c3
        rw [e4] at c4
        have HHLn : Hid (Hs.length = 32) := by show _ = _; rw [HHs.out]; exact sumL_length _
        clear e0 e1 e2 e3 e4
        generalize (px 0).length = l0 at c0 HHc
        generalize (px 1).length = l1 at c1 HHc
        generalize (px 2).length = l2 at c2 HHc
        generalize (px 3).length = l3 at c3 HHc
        generalize (px 4).length = l4 at c4 HHc
        go_wp2_with fail
        refine HHc.out.mono ?_
        rintro e w8 ⟨vh, rfl, hoh, hb8⟩
        have hh := BSl.ofRow hoh
        rw [HHLn.out] at hoh
        obtain ⟨ah, ch, rfl⟩ := ownsRow_shape hoh
        have HH8 := hidden hh
        obtain ⟨g1, g2, q1, q2, q3, q4, q5, q6⟩ := HT7.out.ws
        have HTG := hidden ((TG.mk q1 q2 q3 q4 q5 q6).ext hb8)
        have HAh : Hid ((Value.slice ah 32 ch).ownBlock ≠ some a2 ∧ ∀ q, g2 = some q → (Value.slice ah 32 ch).ownBlock ≠ some q) := by
          refine ⟨fun e => ?_, fun q eq e => ?_⟩
          · have := (hoh.lt _ e).1; have := q2.lt; omega
          · have := (hoh.lt _ e).1; have := (q2.rowLt q eq).2; omega
        have HLh : Hid (∀ q, (Value.slice ah 32 ch).ownBlock = some q → q < w8.heap.size) := fun q e => (hoh.lt _ e).2
        have HAp2 := hidden (HAp.out g2 (fun q e => (q2.rowLt q e).1) a2 (by have := HA2.out; omega))
        have HB8 := hidden (HB7.out.trans (hb8.mono (by have := q1.lt; omega)))
        clear hoh hb8 hh HHc HT7 HB7 c0 c1 c2 c3 c4 q1 q2 q3 q4 q5 q6
        go_wp2_with fail
        refine (mpint_n _ K (by omega) w8 (HKf.out w8 HB8.out) HTG.out.two HAp2.out (by simp; omega)).mono ?_
        rintro e w9 ⟨rfl, g9, hw9, hwr9⟩
        rw [List.nil_append] at hw9
        obtain ⟨ht9, hb9⟩ := HTG.out.next hw9 hwr9
        have HT9 := hidden ht9
        have HB9 := hidden (HB8.out.trans hb9)
        have HH9 := hidden (HH8.out.wrote hwr9 HAh.out)
        have HAh9 := hidden (apart_next HAh.out hwr9 HLh.out)
        have HLh9 : Hid (∀ q, (Value.slice ah 32 ch).ownBlock = some q → q < w9.heap.size) := fun q e => Nat.lt_of_lt_of_le (HLh.out q e) hwr9.keeps.size
        clear hw9 hwr9 ht9 hb9 HTG HB8 HH8 HAh HLh HAp2
        go_wp2_with fail
        refine (raw_c _ Hs w9 HH9.out HT9.out.two (by rw [HHLn.out]; have := HML.out; omega)).mono ?_
        rintro e w10 ⟨rfl, g10, hw10, hwr10⟩
        obtain ⟨ht10, hb10⟩ := HT9.out.next hw10 hwr10
        have HT10 := hidden ht10
        have HB10 := hidden (HB9.out.trans hb10)
        have HH10 := hidden (HH9.out.wrote hwr10 HAh9.out)
        have HAh10 := hidden (apart_next HAh9.out hwr10 HLh9.out)
        have HLh10 : Hid (∀ q, (Value.slice ah 32 ch).ownBlock = some q → q < w10.heap.size) := fun q e => Nat.lt_of_lt_of_le (HLh9.out q e) hwr10.keeps.size
        clear hw10 hwr10 ht10 hb10 HT9 HB9 HH9 HAh9 HLh9
        have HLn : Hid ((mpBytes K ++ Hs).length ≤ 97) := by show _ ≤ _; rw [List.length_append, HHLn.out]; have := HML.out; omega
        have HDe := hidden (derive_one K Hs letter I)
        generalize mpBytes K ++ Hs = MH at HT10 HLn HDe
        have hlb : letter.toNat ≤ 255 := by have := letter.toNat_lt; omega
        go_wp2_with fail
        refine (byte_c (letter.toNat : Int) w10 HT10.out.two (by have := HLn.out; omega)).mono ?_
        rintro e w11 ⟨rfl, g11, hw11, hwr11⟩
        rw [byteOf_self] at hw11
        obtain ⟨ht11, hb11⟩ := HT10.out.next hw11 hwr11
        have HT11 := hidden ht11
        have HB11 := hidden (HB10.out.trans hb11)
        have HH11 := hidden (HH10.out.wrote hwr11 HAh10.out)
        have HAh11 := hidden (apart_next HAh10.out hwr11 HLh10.out)
        clear hw11 hwr11 ht11 hb11 HT10 HB10 HH10 HAh10 HLh10
        go_wp2_with fail
        refine (raw_c _ I w11 (HIf.out w11 HB11.out) HT11.out.two (by rw [List.length_append]; have := HLn.out; simp; omega)).mono ?_
        rintro e w12 ⟨rfl, g12, hw12, hwr12⟩
        obtain ⟨ht12, hb12⟩ := HT11.out.next hw12 hwr12
        have HT12 := hidden ht12
        have HB12 := hidden (HB11.out.trans hb12)
        have HH12 := hidden (HH11.out.wrote hwr12 HAh11.out)
        clear hw12 hwr12 ht12 hb12 HT11 HB11 HH11 HAh11
        rw [show MH ++ letter :: I = MH ++ [letter] ++ I by simp] at HDe
        have HW2L : Hid ((MH ++ [letter] ++ I).length ≤ 1000) := by show _ ≤ _; rw [List.length_append, List.length_append]; have := HLn.out; simp; omega
        generalize MH ++ [letter] ++ I = B2 at HT12 HDe HW2L
        go_wp2_with fail
        refine (Derive_c _ _ _ K Hs I letter ((32 : Nat) : Int) (by omega) (by rw [HHLn.out]; omega) (by omega) w12 (HR0.out.fresh (HBW.out w12 HB12.out)) (HKf.out w12 HB12.out) HH12.out (HIf.out w12 HB12.out)).mono ?_
        rintro e w13 hT
        obtain ⟨hb13, ad, cd, rfl, hd⟩ := hT.ok (by omega)
        have HD := hidden hd
        have HH := hidden (HH12.out.fresh hb13)
        have HW1 := hidden (HT12.out.one.fresh hb13)
        have HW2 := hidden (HT12.out.two.fresh hb13)
        have HBZ : Hid (Below w.heap.size w w13) := by
          have h1 := HBW.out w12 HB12.out
          exact h1.trans (hb13.mono h1.size)
        have HR := hidden (HR0.out.fresh HBZ.out)
        have HE1 : Hid (sumL B1 = Hs) := HHL.out.symm
        have HE2 : Hid (sumL B2 = deriveL K Hs letter I 32) := HDe.out.symm
        generalize deriveL K Hs letter I 32 = D at HD HE2
        obtain ⟨H, hH⟩ : ∃ H, H = Hs := ⟨_, rfl⟩
        rw [← hH] at HH HE1
        clear hT hd hb13 HT12 HB12 HH12 HHL HDe HHs hH HHLn HKf HIf HAp HP4 HPV HPX HB0 HR0 HBW
        by_cases hbig : 2000 < vc.size + vz.size
        · go_wp2_with fail
          refine region_free [(.val (.string vc)), (.val (.int .i64 (vc.size : Nat))), (.val (.string vz)), (.val (.int .i64 (vz.size : Nat))), (.val (.int .i64 ((vc.size + vz.size : Nat) : Int))), (.val (.bool true)), (.val (.bool true)), (.val (.bool true)), (.val (.bool true)), (.val (.bool true)), (.val undef), (.val undef), (.val undef), (.val undef), (.val undef), (.val undef), (.val undef), (.val undef), (.val undef), (.val undef), (.val undef), (.val undef), (.val undef), (.val undef), (.val undef), (.val undef), (.val undef), (.val undef), (.val undef), (.val undef), (.val undef), (.val undef), (.val undef), (.val (.bool true)), (.val (.bool true))] (by kernel_rfl) ?_ ?_
          · refine req_cons (.val (.string vc)) (by kernel_rfl) (fun vs w1 he hd => StepG.plain (by kernel_rfl) (gives_move (x := (.tmp 0)) (v := (.string vc)) (by kernel_rfl) (by kernel_rfl) ⟨Ex.refl _, rfl⟩)) ?_
            refine req_cons (.val (.int .i64 (vc.size : Nat))) (by kernel_rfl) (fun vs w1 he hd => StepG.plain (by kernel_rfl) (gives_lenS (x := (.tmp 105)) (s := vc) (by kernel_rfl) (Eq.trans (b := vs 0) (by kernel_rfl) (hd 0 (.val (.string vc)) (by kernel_rfl) (by kernel_rfl))) ⟨Ex.refl _, rfl⟩)) ?_
            refine req_cons (.val (.string vz)) (by kernel_rfl) (fun vs w1 he hd => StepG.plain (by kernel_rfl) (gives_move (x := (.tmp 1)) (v := (.string vz)) (by kernel_rfl) (by kernel_rfl) ⟨Ex.refl _, rfl⟩)) ?_
            refine req_cons (.val (.int .i64 (vz.size : Nat))) (by kernel_rfl) (fun vs w1 he hd => StepG.plain (by kernel_rfl) (gives_lenS (x := (.tmp 107)) (s := vz) (by kernel_rfl) (Eq.trans (b := vs 2) (by kernel_rfl) (hd 2 (.val (.string vz)) (by kernel_rfl) (by kernel_rfl))) ⟨Ex.refl _, rfl⟩)) ?_
            refine req_cons (.val (.int .i64 ((vc.size + vz.size : Nat) : Int))) (by kernel_rfl) (fun vs w1 he hd => StepG.plain (by kernel_rfl) (gives_addI (t := 3) (a := (vc.size : Nat)) (b := (vz.size : Nat)) (x := (.tmp 106)) (y := (.tmp 108)) (by kernel_rfl) (Eq.trans (b := vs 1) (by kernel_rfl) (hd 1 (.val (.int .i64 (vc.size : Nat))) (by kernel_rfl) (by kernel_rfl))) (Eq.trans (b := vs 3) (by kernel_rfl) (hd 3 (.val (.int .i64 (vz.size : Nat))) (by kernel_rfl) (by kernel_rfl))) (by rw [IntKind.wrap_i64]; omega) ⟨Ex.refl _, rfl⟩)) ?_
            refine req_cons (.val (.bool true)) (by kernel_rfl) (fun vs w1 he hd => StepG.plain (by kernel_rfl) (gives_gtI (t := 3) (k := .i64) (a := ((vc.size + vz.size : Nat) : Int)) (b := 2000) (x := (.tmp 109)) (y := (.const (.int .i64 2000))) (r := true) (by kernel_rfl) (Eq.trans (b := vs 4) (by kernel_rfl) (hd 4 (.val (.int .i64 ((vc.size + vz.size : Nat) : Int))) (by kernel_rfl) (by kernel_rfl))) (by kernel_rfl) (by simp; omega) ⟨Ex.refl _, rfl⟩)) ?_
            refine req_cons (.val (.bool true)) (by kernel_rfl) (fun vs w1 he hd => StepG.plain (by kernel_rfl) (gives_move (x := (.tmp 110)) (v := (.bool true)) (by kernel_rfl) (Eq.trans (b := vs 5) (by kernel_rfl) (hd 5 (.val (.bool true)) (by kernel_rfl) (by kernel_rfl))) ⟨Ex.refl _, rfl⟩)) ?_
            refine req_cons (.val (.bool true)) (by kernel_rfl) (fun vs w1 he hd => StepG.on (g := 6) (d := 111) (x := true) (v := vs 6) (by kernel_rfl) (by kernel_rfl) (by kernel_rfl) (hd 6 (.val (.bool true)) (by kernel_rfl) (by kernel_rfl)) (gives_call (f := 15) (xs := #[]) (ts := #[]) (vs := #[]) (by kernel_rfl) (by kernel_rfl) (by kernel_rfl) Tryd.func15 (by kernel_rfl) (by kernel_rfl) (told_true (known_c _ (HR.out.fresh he))))) ?_
            refine req_cons (.val (.bool true)) (by kernel_rfl) (fun vs w1 he hd => StepG.plain (by kernel_rfl) (gives_pick_t (x := (.tmp 111)) (y := (.tmp 112)) (z := (.const (.bool false))) (v := (.bool true)) (by kernel_rfl) (Eq.trans (b := vs 6) (by kernel_rfl) (hd 6 (.val (.bool true)) (by kernel_rfl) (by kernel_rfl))) (Eq.trans (b := vs 7) (by kernel_rfl) (hd 7 (.val (.bool true)) (by kernel_rfl) (by kernel_rfl))) ⟨Ex.refl _, rfl⟩)) ?_
            refine req_cons (.val (.bool true)) (by kernel_rfl) (fun vs w1 he hd => StepG.plain (by kernel_rfl) (gives_move (x := (.tmp 113)) (v := (.bool true)) (by kernel_rfl) (Eq.trans (b := vs 8) (by kernel_rfl) (hd 8 (.val (.bool true)) (by kernel_rfl) (by kernel_rfl))) ⟨Ex.refl _, rfl⟩)) ?_
            refine req_cons (.val undef) (by kernel_rfl) (fun vs w1 he hd => StepG.off (g := 9) (d := 114) (x := false) (v := vs 9) (by kernel_rfl) (by kernel_rfl) (by kernel_rfl) (.inl (hd 9 (.val (.bool true)) (by kernel_rfl) (by kernel_rfl))) ⟨Ex.refl _, rfl⟩) ?_
            refine req_cons (.val undef) (by kernel_rfl) (fun vs w1 he hd => StepG.off (g := 9) (d := 114) (x := false) (v := vs 9) (by kernel_rfl) (by kernel_rfl) (by kernel_rfl) (.inl (hd 9 (.val (.bool true)) (by kernel_rfl) (by kernel_rfl))) ⟨Ex.refl _, rfl⟩) ?_
            refine req_cons (.val undef) (by kernel_rfl) (fun vs w1 he hd => StepG.off (g := 9) (d := 114) (x := false) (v := vs 9) (by kernel_rfl) (by kernel_rfl) (by kernel_rfl) (.inl (hd 9 (.val (.bool true)) (by kernel_rfl) (by kernel_rfl))) ⟨Ex.refl _, rfl⟩) ?_
            refine req_cons (.val undef) (by kernel_rfl) (fun vs w1 he hd => StepG.off (g := 9) (d := 114) (x := false) (v := vs 9) (by kernel_rfl) (by kernel_rfl) (by kernel_rfl) (.inl (hd 9 (.val (.bool true)) (by kernel_rfl) (by kernel_rfl))) ⟨Ex.refl _, rfl⟩) ?_
            refine req_cons (.val undef) (by kernel_rfl) (fun vs w1 he hd => StepG.off (g := 9) (d := 114) (x := false) (v := vs 9) (by kernel_rfl) (by kernel_rfl) (by kernel_rfl) (.inl (hd 9 (.val (.bool true)) (by kernel_rfl) (by kernel_rfl))) ⟨Ex.refl _, rfl⟩) ?_
            refine req_cons (.val undef) (by kernel_rfl) (fun vs w1 he hd => StepG.off (g := 9) (d := 114) (x := false) (v := vs 9) (by kernel_rfl) (by kernel_rfl) (by kernel_rfl) (.inl (hd 9 (.val (.bool true)) (by kernel_rfl) (by kernel_rfl))) ⟨Ex.refl _, rfl⟩) ?_
            refine req_cons (.val undef) (by kernel_rfl) (fun vs w1 he hd => StepG.off (g := 9) (d := 114) (x := false) (v := vs 9) (by kernel_rfl) (by kernel_rfl) (by kernel_rfl) (.inl (hd 9 (.val (.bool true)) (by kernel_rfl) (by kernel_rfl))) ⟨Ex.refl _, rfl⟩) ?_
            refine req_cons (.val undef) (by kernel_rfl) (fun vs w1 he hd => StepG.off (g := 9) (d := 114) (x := false) (v := vs 9) (by kernel_rfl) (by kernel_rfl) (by kernel_rfl) (.inl (hd 9 (.val (.bool true)) (by kernel_rfl) (by kernel_rfl))) ⟨Ex.refl _, rfl⟩) ?_
            refine req_cons (.val undef) (by kernel_rfl) (fun vs w1 he hd => StepG.off (g := 17) (d := 122) (x := true) (v := vs 17) (by kernel_rfl) (by kernel_rfl) (by kernel_rfl) (.inr (hd 17 (.val undef) (by kernel_rfl) (by kernel_rfl))) ⟨Ex.refl _, rfl⟩) ?_
            refine req_cons (.val undef) (by kernel_rfl) (fun vs w1 he hd => StepG.off (g := 17) (d := 122) (x := true) (v := vs 17) (by kernel_rfl) (by kernel_rfl) (by kernel_rfl) (.inr (hd 17 (.val undef) (by kernel_rfl) (by kernel_rfl))) ⟨Ex.refl _, rfl⟩) ?_
            refine req_cons (.val undef) (by kernel_rfl) (fun vs w1 he hd => StepG.off (g := 9) (d := 114) (x := false) (v := vs 9) (by kernel_rfl) (by kernel_rfl) (by kernel_rfl) (.inl (hd 9 (.val (.bool true)) (by kernel_rfl) (by kernel_rfl))) ⟨Ex.refl _, rfl⟩) ?_
            refine req_cons (.val undef) (by kernel_rfl) (fun vs w1 he hd => StepG.off (g := 9) (d := 114) (x := false) (v := vs 9) (by kernel_rfl) (by kernel_rfl) (by kernel_rfl) (.inl (hd 9 (.val (.bool true)) (by kernel_rfl) (by kernel_rfl))) ⟨Ex.refl _, rfl⟩) ?_
            refine req_cons (.val undef) (by kernel_rfl) (fun vs w1 he hd => StepG.off (g := 21) (d := 126) (x := true) (v := vs 21) (by kernel_rfl) (by kernel_rfl) (by kernel_rfl) (.inr (hd 21 (.val undef) (by kernel_rfl) (by kernel_rfl))) ⟨Ex.refl _, rfl⟩) ?_
            refine req_cons (.val undef) (by kernel_rfl) (fun vs w1 he hd => StepG.off (g := 21) (d := 126) (x := true) (v := vs 21) (by kernel_rfl) (by kernel_rfl) (by kernel_rfl) (.inr (hd 21 (.val undef) (by kernel_rfl) (by kernel_rfl))) ⟨Ex.refl _, rfl⟩) ?_
            refine req_cons (.val undef) (by kernel_rfl) (fun vs w1 he hd => StepG.off (g := 21) (d := 126) (x := true) (v := vs 21) (by kernel_rfl) (by kernel_rfl) (by kernel_rfl) (.inr (hd 21 (.val undef) (by kernel_rfl) (by kernel_rfl))) ⟨Ex.refl _, rfl⟩) ?_
            refine req_cons (.val undef) (by kernel_rfl) (fun vs w1 he hd => StepG.off (g := 21) (d := 126) (x := true) (v := vs 21) (by kernel_rfl) (by kernel_rfl) (by kernel_rfl) (.inr (hd 21 (.val undef) (by kernel_rfl) (by kernel_rfl))) ⟨Ex.refl _, rfl⟩) ?_
            refine req_cons (.val undef) (by kernel_rfl) (fun vs w1 he hd => StepG.off (g := 21) (d := 126) (x := true) (v := vs 21) (by kernel_rfl) (by kernel_rfl) (by kernel_rfl) (.inr (hd 21 (.val undef) (by kernel_rfl) (by kernel_rfl))) ⟨Ex.refl _, rfl⟩) ?_
            refine req_cons (.val undef) (by kernel_rfl) (fun vs w1 he hd => StepG.off (g := 21) (d := 126) (x := true) (v := vs 21) (by kernel_rfl) (by kernel_rfl) (by kernel_rfl) (.inr (hd 21 (.val undef) (by kernel_rfl) (by kernel_rfl))) ⟨Ex.refl _, rfl⟩) ?_
            refine req_cons (.val undef) (by kernel_rfl) (fun vs w1 he hd => StepG.off (g := 21) (d := 126) (x := true) (v := vs 21) (by kernel_rfl) (by kernel_rfl) (by kernel_rfl) (.inr (hd 21 (.val undef) (by kernel_rfl) (by kernel_rfl))) ⟨Ex.refl _, rfl⟩) ?_
            refine req_cons (.val undef) (by kernel_rfl) (fun vs w1 he hd => StepG.off (g := 9) (d := 114) (x := false) (v := vs 9) (by kernel_rfl) (by kernel_rfl) (by kernel_rfl) (.inl (hd 9 (.val (.bool true)) (by kernel_rfl) (by kernel_rfl))) ⟨Ex.refl _, rfl⟩) ?_
            refine req_cons (.val undef) (by kernel_rfl) (fun vs w1 he hd => StepG.off (g := 9) (d := 114) (x := false) (v := vs 9) (by kernel_rfl) (by kernel_rfl) (by kernel_rfl) (.inl (hd 9 (.val (.bool true)) (by kernel_rfl) (by kernel_rfl))) ⟨Ex.refl _, rfl⟩) ?_
            refine req_cons (.val undef) (by kernel_rfl) (fun vs w1 he hd => StepG.off (g := 30) (d := 135) (x := true) (v := vs 30) (by kernel_rfl) (by kernel_rfl) (by kernel_rfl) (.inr (hd 30 (.val undef) (by kernel_rfl) (by kernel_rfl))) ⟨Ex.refl _, rfl⟩) ?_
            refine req_cons (.val undef) (by kernel_rfl) (fun vs w1 he hd => StepG.off (g := 9) (d := 114) (x := false) (v := vs 9) (by kernel_rfl) (by kernel_rfl) (by kernel_rfl) (.inl (hd 9 (.val (.bool true)) (by kernel_rfl) (by kernel_rfl))) ⟨Ex.refl _, rfl⟩) ?_
            refine req_cons (.val (.bool true)) (by kernel_rfl) (fun vs w1 he hd => StepG.plain (by kernel_rfl) (gives_pick_t (x := (.tmp 114)) (y := (.const (.bool true))) (z := (.tmp 137)) (v := (.bool true)) (by kernel_rfl) (Eq.trans (b := vs 9) (by kernel_rfl) (hd 9 (.val (.bool true)) (by kernel_rfl) (by kernel_rfl))) (by kernel_rfl) ⟨Ex.refl _, rfl⟩)) ?_
            refine req_cons (.val (.bool true)) (by kernel_rfl) (fun vs w1 he hd => StepG.plain (by kernel_rfl) (gives_assign (x := (.tmp 138)) (v := (.bool true)) (by kernel_rfl) (Eq.trans (b := vs 33) (by kernel_rfl) (hd 33 (.val (.bool true)) (by kernel_rfl) (by kernel_rfl))) ⟨Ex.refl _, rfl⟩)) ?_
            exact req_nil
          intro vs wz hx hF
          have e0 : vs 0 = (.string vc) := told_at hF 0 (.val (.string vc)) (by decide) (by kernel_rfl)
          have e1 : vs 1 = (.int .i64 (vc.size : Nat)) := told_at hF 1 (.val (.int .i64 (vc.size : Nat))) (by decide) (by kernel_rfl)
          have e2 : vs 2 = (.string vz) := told_at hF 2 (.val (.string vz)) (by decide) (by kernel_rfl)
          have e3 : vs 3 = (.int .i64 (vz.size : Nat)) := told_at hF 3 (.val (.int .i64 (vz.size : Nat))) (by decide) (by kernel_rfl)
          have e4 : vs 4 = (.int .i64 ((vc.size + vz.size : Nat) : Int)) := told_at hF 4 (.val (.int .i64 ((vc.size + vz.size : Nat) : Int))) (by decide) (by kernel_rfl)
          have e5 : vs 5 = (.bool true) := told_at hF 5 (.val (.bool true)) (by decide) (by kernel_rfl)
          have e6 : vs 6 = (.bool true) := told_at hF 6 (.val (.bool true)) (by decide) (by kernel_rfl)
          have e7 : vs 7 = (.bool true) := told_at hF 7 (.val (.bool true)) (by decide) (by kernel_rfl)
          have e8 : vs 8 = (.bool true) := told_at hF 8 (.val (.bool true)) (by decide) (by kernel_rfl)
          have e9 : vs 9 = (.bool true) := told_at hF 9 (.val (.bool true)) (by decide) (by kernel_rfl)
          have e10 : vs 10 = undef := told_at hF 10 (.val undef) (by decide) (by kernel_rfl)
          have e11 : vs 11 = undef := told_at hF 11 (.val undef) (by decide) (by kernel_rfl)
          have e12 : vs 12 = undef := told_at hF 12 (.val undef) (by decide) (by kernel_rfl)
          have e13 : vs 13 = undef := told_at hF 13 (.val undef) (by decide) (by kernel_rfl)
          have e14 : vs 14 = undef := told_at hF 14 (.val undef) (by decide) (by kernel_rfl)
          have e15 : vs 15 = undef := told_at hF 15 (.val undef) (by decide) (by kernel_rfl)
          have e16 : vs 16 = undef := told_at hF 16 (.val undef) (by decide) (by kernel_rfl)
          have e17 : vs 17 = undef := told_at hF 17 (.val undef) (by decide) (by kernel_rfl)
          have e18 : vs 18 = undef := told_at hF 18 (.val undef) (by decide) (by kernel_rfl)
          have e19 : vs 19 = undef := told_at hF 19 (.val undef) (by decide) (by kernel_rfl)
          have e20 : vs 20 = undef := told_at hF 20 (.val undef) (by decide) (by kernel_rfl)
          have e21 : vs 21 = undef := told_at hF 21 (.val undef) (by decide) (by kernel_rfl)
          have e22 : vs 22 = undef := told_at hF 22 (.val undef) (by decide) (by kernel_rfl)
          have e23 : vs 23 = undef := told_at hF 23 (.val undef) (by decide) (by kernel_rfl)
          have e24 : vs 24 = undef := told_at hF 24 (.val undef) (by decide) (by kernel_rfl)
          have e25 : vs 25 = undef := told_at hF 25 (.val undef) (by decide) (by kernel_rfl)
          have e26 : vs 26 = undef := told_at hF 26 (.val undef) (by decide) (by kernel_rfl)
          have e27 : vs 27 = undef := told_at hF 27 (.val undef) (by decide) (by kernel_rfl)
          have e28 : vs 28 = undef := told_at hF 28 (.val undef) (by decide) (by kernel_rfl)
          have e29 : vs 29 = undef := told_at hF 29 (.val undef) (by decide) (by kernel_rfl)
          have e30 : vs 30 = undef := told_at hF 30 (.val undef) (by decide) (by kernel_rfl)
          have e31 : vs 31 = undef := told_at hF 31 (.val undef) (by decide) (by kernel_rfl)
          have e32 : vs 32 = undef := told_at hF 32 (.val undef) (by decide) (by kernel_rfl)
          have e33 : vs 33 = (.bool true) := told_at hF 33 (.val (.bool true)) (by decide) (by kernel_rfl)
          have e34 : vs 34 = (.bool true) := told_at hF 34 (.val (.bool true)) (by decide) (by kernel_rfl)
          simp only [List.length_cons, List.length_nil, actsTo, if_true, dstOf, List.getElem?_toArray, List.getElem?_cons_succ, List.getElem?_cons_zero, Option.bind_some, Act.put, List.setIfInBounds_toArray, List.set_cons_zero, List.set_cons_succ]
          simp only [e0, e1, e2, e3, e4, e5, e6, e7, e8, e9, e10, e11, e12, e13, e14, e15, e16, e17, e18, e19, e20, e21, e22, e23, e24, e25, e26, e27, e28, e29, e30, e31, e32, e33, e34]
          clear hF e0 e1 e2 e3 e4 e5 e6 e7 e8 e9 e10 e11 e12 e13 e14 e15 e16 e17 e18 e19 e20 e21 e22 e23 e24 e25 e26 e27 e28 e29 e30 e31 e32 e33 e34 vs
          go_wp2
          go_ret
          exact ⟨rfl, HBZ.out.trans (hx.mono HBZ.out.size)⟩
        · go_wp2_with fail
          refine region_free [(.val (.string vc)), (.val (.int .i64 (vc.size : Nat))), (.val (.string vz)), (.val (.int .i64 (vz.size : Nat))), (.val (.int .i64 ((vc.size + vz.size : Nat) : Int))), (.val (.bool false)), (.val (.bool false)), (.val undef), (.val (.bool false)), (.val (.bool false)), (.val (.slice ah 32 ch)), (.val (.string ⟨(List.toArray H)⟩)), (.val (.pointer (some ⟨a1, 0, none⟩))), (.bsl B1), (.bsl (sumL B1)), (.val (.string ⟨(List.toArray (sumL B1))⟩)), (.val (.bool true)), (.val (.bool true)), (.val (.int .i64 0)), (.val (.bool true)), (.val (.bool true)), (.val (.bool true)), (.val (.slice ad 32 cd)), (.val (.string ⟨(List.toArray D)⟩)), (.val (.pointer (some ⟨a2, 0, none⟩))), (.bsl B2), (.bsl (sumL B2)), (.val (.string ⟨(List.toArray (sumL B2))⟩)), (.val (.bool true)), (.val (.bool true)), (.val (.bool true)), (.val (.bool true)), (.val (.bool true)), (.val (.bool true)), (.val (.bool true))] (by kernel_rfl) ?_ ?_
          · refine req_cons (.val (.string vc)) (by kernel_rfl) (fun vs w1 he hd => StepG.plain (by kernel_rfl) (gives_move (x := (.tmp 0)) (v := (.string vc)) (by kernel_rfl) (by kernel_rfl) ⟨Ex.refl _, rfl⟩)) ?_
            refine req_cons (.val (.int .i64 (vc.size : Nat))) (by kernel_rfl) (fun vs w1 he hd => StepG.plain (by kernel_rfl) (gives_lenS (x := (.tmp 105)) (s := vc) (by kernel_rfl) (Eq.trans (b := vs 0) (by kernel_rfl) (hd 0 (.val (.string vc)) (by kernel_rfl) (by kernel_rfl))) ⟨Ex.refl _, rfl⟩)) ?_
            refine req_cons (.val (.string vz)) (by kernel_rfl) (fun vs w1 he hd => StepG.plain (by kernel_rfl) (gives_move (x := (.tmp 1)) (v := (.string vz)) (by kernel_rfl) (by kernel_rfl) ⟨Ex.refl _, rfl⟩)) ?_
            refine req_cons (.val (.int .i64 (vz.size : Nat))) (by kernel_rfl) (fun vs w1 he hd => StepG.plain (by kernel_rfl) (gives_lenS (x := (.tmp 107)) (s := vz) (by kernel_rfl) (Eq.trans (b := vs 2) (by kernel_rfl) (hd 2 (.val (.string vz)) (by kernel_rfl) (by kernel_rfl))) ⟨Ex.refl _, rfl⟩)) ?_
            refine req_cons (.val (.int .i64 ((vc.size + vz.size : Nat) : Int))) (by kernel_rfl) (fun vs w1 he hd => StepG.plain (by kernel_rfl) (gives_addI (t := 3) (a := (vc.size : Nat)) (b := (vz.size : Nat)) (x := (.tmp 106)) (y := (.tmp 108)) (by kernel_rfl) (Eq.trans (b := vs 1) (by kernel_rfl) (hd 1 (.val (.int .i64 (vc.size : Nat))) (by kernel_rfl) (by kernel_rfl))) (Eq.trans (b := vs 3) (by kernel_rfl) (hd 3 (.val (.int .i64 (vz.size : Nat))) (by kernel_rfl) (by kernel_rfl))) (by rw [IntKind.wrap_i64]; omega) ⟨Ex.refl _, rfl⟩)) ?_
            refine req_cons (.val (.bool false)) (by kernel_rfl) (fun vs w1 he hd => StepG.plain (by kernel_rfl) (gives_gtI (t := 3) (k := .i64) (a := ((vc.size + vz.size : Nat) : Int)) (b := 2000) (x := (.tmp 109)) (y := (.const (.int .i64 2000))) (r := false) (by kernel_rfl) (Eq.trans (b := vs 4) (by kernel_rfl) (hd 4 (.val (.int .i64 ((vc.size + vz.size : Nat) : Int))) (by kernel_rfl) (by kernel_rfl))) (by kernel_rfl) (by simp; omega) ⟨Ex.refl _, rfl⟩)) ?_
            refine req_cons (.val (.bool false)) (by kernel_rfl) (fun vs w1 he hd => StepG.plain (by kernel_rfl) (gives_move (x := (.tmp 110)) (v := (.bool false)) (by kernel_rfl) (Eq.trans (b := vs 5) (by kernel_rfl) (hd 5 (.val (.bool false)) (by kernel_rfl) (by kernel_rfl))) ⟨Ex.refl _, rfl⟩)) ?_
            refine req_cons (.val undef) (by kernel_rfl) (fun vs w1 he hd => StepG.off (g := 6) (d := 111) (x := true) (v := vs 6) (by kernel_rfl) (by kernel_rfl) (by kernel_rfl) (.inl (hd 6 (.val (.bool false)) (by kernel_rfl) (by kernel_rfl))) ⟨Ex.refl _, rfl⟩) ?_
            refine req_cons (.val (.bool false)) (by kernel_rfl) (fun vs w1 he hd => StepG.plain (by kernel_rfl) (gives_pick_f (x := (.tmp 111)) (y := (.tmp 112)) (z := (.const (.bool false))) (v := (.bool false)) (by kernel_rfl) (Eq.trans (b := vs 6) (by kernel_rfl) (hd 6 (.val (.bool false)) (by kernel_rfl) (by kernel_rfl))) (by kernel_rfl) ⟨Ex.refl _, rfl⟩)) ?_
            refine req_cons (.val (.bool false)) (by kernel_rfl) (fun vs w1 he hd => StepG.plain (by kernel_rfl) (gives_move (x := (.tmp 113)) (v := (.bool false)) (by kernel_rfl) (Eq.trans (b := vs 8) (by kernel_rfl) (hd 8 (.val (.bool false)) (by kernel_rfl) (by kernel_rfl))) ⟨Ex.refl _, rfl⟩)) ?_
            refine req_cons (.val (.slice ah 32 ch)) (by kernel_rfl) (fun vs w1 he hd => StepG.on (g := 9) (d := 114) (x := false) (v := vs 9) (by kernel_rfl) (by kernel_rfl) (by kernel_rfl) (hd 9 (.val (.bool false)) (by kernel_rfl) (by kernel_rfl)) (gives_move (x := (.tmp 18)) (v := (.slice ah 32 ch)) (by kernel_rfl) (by kernel_rfl) ⟨Ex.refl _, rfl⟩)) ?_
            refine req_cons (.val (.string ⟨(List.toArray H)⟩)) (by kernel_rfl) (fun vs w1 he hd => StepG.on (g := 9) (d := 114) (x := false) (v := vs 9) (by kernel_rfl) (by kernel_rfl) (by kernel_rfl) (hd 9 (.val (.bool false)) (by kernel_rfl) (by kernel_rfl)) (gives_str (x := (.tmp 115)) (v := (.slice ah 32 ch)) (xs := H) (by kernel_rfl) (Eq.trans (b := vs 10) (by kernel_rfl) (hd 10 (.val (.slice ah 32 ch)) (by kernel_rfl) (by kernel_rfl))) ((HH.out.fresh he)) ⟨Ex.refl _, rfl⟩)) ?_
            refine req_cons (.val (.pointer (some ⟨a1, 0, none⟩))) (by kernel_rfl) (fun vs w1 he hd => StepG.on (g := 9) (d := 114) (x := false) (v := vs 9) (by kernel_rfl) (by kernel_rfl) (by kernel_rfl) (hd 9 (.val (.bool false)) (by kernel_rfl) (by kernel_rfl)) (gives_move (x := (.tmp 15)) (v := (.pointer (some ⟨a1, 0, none⟩))) (by kernel_rfl) (by kernel_rfl) ⟨Ex.refl _, rfl⟩)) ?_
            refine req_cons (.bsl B1) (by kernel_rfl) (fun vs w1 he hd => StepG.on (g := 9) (d := 114) (x := false) (v := vs 9) (by kernel_rfl) (by kernel_rfl) (by kernel_rfl) (hd 9 (.val (.bool false)) (by kernel_rfl) (by kernel_rfl)) (gives_call (f := 29) (xs := #[(.tmp 117)]) (ts := #[46]) (vs := #[(vs 12)]) (by kernel_rfl) (by kernel_rfl) (by kernel_rfl) Tryd.func29 (by kernel_rfl) (by kernel_rfl) (by rw [show vs 12 = (.pointer (some ⟨a1, 0, none⟩)) from (hd 12 (.val (.pointer (some ⟨a1, 0, none⟩))) (by kernel_rfl) (by kernel_rfl))]; exact told_bytes (done_c _ (HW1.out.fresh he) (by have := HW1L.out; omega))))) ?_
            refine req_cons (.bsl (sumL B1)) (by kernel_rfl) (fun vs w1 he hd => StepG.on (g := 9) (d := 114) (x := false) (v := vs 9) (by kernel_rfl) (by kernel_rfl) (by kernel_rfl) (hd 9 (.val (.bool false)) (by kernel_rfl) (by kernel_rfl)) (gives_call (f := 9) (xs := #[(.tmp 118)]) (ts := #[22]) (vs := #[(vs 13)]) (by kernel_rfl) (by kernel_rfl) (by kernel_rfl) Tryd.func9 (by kernel_rfl) (by kernel_rfl) (told_bytes (Sum_c _ B1 (by have := HW1L.out; omega) _ (HR.out.fresh he) (hd 13 (.bsl B1) (by kernel_rfl) (by kernel_rfl)))))) ?_
            refine req_cons (.val (.string ⟨(List.toArray (sumL B1))⟩)) (by kernel_rfl) (fun vs w1 he hd => StepG.on (g := 9) (d := 114) (x := false) (v := vs 9) (by kernel_rfl) (by kernel_rfl) (by kernel_rfl) (hd 9 (.val (.bool false)) (by kernel_rfl) (by kernel_rfl)) (gives_str (x := (.tmp 119)) (v := (vs 14)) (xs := (sumL B1)) (by kernel_rfl) (by kernel_rfl) ((hd 14 (.bsl (sumL B1)) (by kernel_rfl) (by kernel_rfl))) ⟨Ex.refl _, rfl⟩)) ?_
            refine req_cons (.val (.bool true)) (by kernel_rfl) (fun vs w1 he hd => StepG.on (g := 9) (d := 114) (x := false) (v := vs 9) (by kernel_rfl) (by kernel_rfl) (by kernel_rfl) (hd 9 (.val (.bool false)) (by kernel_rfl) (by kernel_rfl)) (gives_eqS (x := (.tmp 116)) (y := (.tmp 120)) (xs := H) (ys := (sumL B1)) (r := true) (by kernel_rfl) (Eq.trans (b := vs 11) (by kernel_rfl) (hd 11 (.val (.string ⟨(List.toArray H)⟩)) (by kernel_rfl) (by kernel_rfl))) (Eq.trans (b := vs 15) (by kernel_rfl) (hd 15 (.val (.string ⟨(List.toArray (sumL B1))⟩)) (by kernel_rfl) (by kernel_rfl))) (by rw [HE1.out]; simp) ⟨Ex.refl _, rfl⟩)) ?_
            refine req_cons (.val (.bool true)) (by kernel_rfl) (fun vs w1 he hd => StepG.on (g := 9) (d := 114) (x := false) (v := vs 9) (by kernel_rfl) (by kernel_rfl) (by kernel_rfl) (hd 9 (.val (.bool false)) (by kernel_rfl) (by kernel_rfl)) (gives_move (x := (.tmp 121)) (v := (.bool true)) (by kernel_rfl) (Eq.trans (b := vs 16) (by kernel_rfl) (hd 16 (.val (.bool true)) (by kernel_rfl) (by kernel_rfl))) ⟨Ex.refl _, rfl⟩)) ?_
            refine req_cons (.val (.int .i64 0)) (by kernel_rfl) (fun vs w1 he hd => StepG.on (g := 17) (d := 122) (x := true) (v := vs 17) (by kernel_rfl) (by kernel_rfl) (by kernel_rfl) (hd 17 (.val (.bool true)) (by kernel_rfl) (by kernel_rfl)) (gives_move (x := (.tmp 20)) (v := (.int .i64 0)) (by kernel_rfl) (by kernel_rfl) ⟨Ex.refl _, rfl⟩)) ?_
            refine req_cons (.val (.bool true)) (by kernel_rfl) (fun vs w1 he hd => StepG.on (g := 17) (d := 122) (x := true) (v := vs 17) (by kernel_rfl) (by kernel_rfl) (by kernel_rfl) (hd 17 (.val (.bool true)) (by kernel_rfl) (by kernel_rfl)) (gives_eqI (t := 26) (k := .i64) (a := 0) (b := 0) (x := (.tmp 123)) (y := (.const (.int .i64 0))) (r := true) (by kernel_rfl) (Eq.trans (b := vs 18) (by kernel_rfl) (hd 18 (.val (.int .i64 0)) (by kernel_rfl) (by kernel_rfl))) (by kernel_rfl) (by simp) ⟨Ex.refl _, rfl⟩)) ?_
            refine req_cons (.val (.bool true)) (by kernel_rfl) (fun vs w1 he hd => StepG.on (g := 9) (d := 114) (x := false) (v := vs 9) (by kernel_rfl) (by kernel_rfl) (by kernel_rfl) (hd 9 (.val (.bool false)) (by kernel_rfl) (by kernel_rfl)) (gives_pick_t (x := (.tmp 122)) (y := (.tmp 124)) (z := (.const (.bool false))) (v := (.bool true)) (by kernel_rfl) (Eq.trans (b := vs 17) (by kernel_rfl) (hd 17 (.val (.bool true)) (by kernel_rfl) (by kernel_rfl))) (Eq.trans (b := vs 19) (by kernel_rfl) (hd 19 (.val (.bool true)) (by kernel_rfl) (by kernel_rfl))) ⟨Ex.refl _, rfl⟩)) ?_
            refine req_cons (.val (.bool true)) (by kernel_rfl) (fun vs w1 he hd => StepG.on (g := 9) (d := 114) (x := false) (v := vs 9) (by kernel_rfl) (by kernel_rfl) (by kernel_rfl) (hd 9 (.val (.bool false)) (by kernel_rfl) (by kernel_rfl)) (gives_move (x := (.tmp 125)) (v := (.bool true)) (by kernel_rfl) (Eq.trans (b := vs 20) (by kernel_rfl) (hd 20 (.val (.bool true)) (by kernel_rfl) (by kernel_rfl))) ⟨Ex.refl _, rfl⟩)) ?_
            refine req_cons (.val (.slice ad 32 cd)) (by kernel_rfl) (fun vs w1 he hd => StepG.on (g := 21) (d := 126) (x := true) (v := vs 21) (by kernel_rfl) (by kernel_rfl) (by kernel_rfl) (hd 21 (.val (.bool true)) (by kernel_rfl) (by kernel_rfl)) (gives_move (x := (.tmp 19)) (v := (.slice ad 32 cd)) (by kernel_rfl) (by kernel_rfl) ⟨Ex.refl _, rfl⟩)) ?_
            refine req_cons (.val (.string ⟨(List.toArray D)⟩)) (by kernel_rfl) (fun vs w1 he hd => StepG.on (g := 21) (d := 126) (x := true) (v := vs 21) (by kernel_rfl) (by kernel_rfl) (by kernel_rfl) (hd 21 (.val (.bool true)) (by kernel_rfl) (by kernel_rfl)) (gives_str (x := (.tmp 127)) (v := (.slice ad 32 cd)) (xs := D) (by kernel_rfl) (Eq.trans (b := vs 22) (by kernel_rfl) (hd 22 (.val (.slice ad 32 cd)) (by kernel_rfl) (by kernel_rfl))) ((HD.out.fresh he)) ⟨Ex.refl _, rfl⟩)) ?_
            refine req_cons (.val (.pointer (some ⟨a2, 0, none⟩))) (by kernel_rfl) (fun vs w1 he hd => StepG.on (g := 21) (d := 126) (x := true) (v := vs 21) (by kernel_rfl) (by kernel_rfl) (by kernel_rfl) (hd 21 (.val (.bool true)) (by kernel_rfl) (by kernel_rfl)) (gives_move (x := (.tmp 16)) (v := (.pointer (some ⟨a2, 0, none⟩))) (by kernel_rfl) (by kernel_rfl) ⟨Ex.refl _, rfl⟩)) ?_
            refine req_cons (.bsl B2) (by kernel_rfl) (fun vs w1 he hd => StepG.on (g := 21) (d := 126) (x := true) (v := vs 21) (by kernel_rfl) (by kernel_rfl) (by kernel_rfl) (hd 21 (.val (.bool true)) (by kernel_rfl) (by kernel_rfl)) (gives_call (f := 29) (xs := #[(.tmp 129)]) (ts := #[46]) (vs := #[(vs 24)]) (by kernel_rfl) (by kernel_rfl) (by kernel_rfl) Tryd.func29 (by kernel_rfl) (by kernel_rfl) (by rw [show vs 24 = (.pointer (some ⟨a2, 0, none⟩)) from (hd 24 (.val (.pointer (some ⟨a2, 0, none⟩))) (by kernel_rfl) (by kernel_rfl))]; exact told_bytes (done_c _ (HW2.out.fresh he) (by have := HW2L.out; omega))))) ?_
            refine req_cons (.bsl (sumL B2)) (by kernel_rfl) (fun vs w1 he hd => StepG.on (g := 21) (d := 126) (x := true) (v := vs 21) (by kernel_rfl) (by kernel_rfl) (by kernel_rfl) (hd 21 (.val (.bool true)) (by kernel_rfl) (by kernel_rfl)) (gives_call (f := 9) (xs := #[(.tmp 130)]) (ts := #[22]) (vs := #[(vs 25)]) (by kernel_rfl) (by kernel_rfl) (by kernel_rfl) Tryd.func9 (by kernel_rfl) (by kernel_rfl) (told_bytes (Sum_c _ B2 (by have := HW2L.out; omega) _ (HR.out.fresh he) (hd 25 (.bsl B2) (by kernel_rfl) (by kernel_rfl)))))) ?_
            refine req_cons (.val (.string ⟨(List.toArray (sumL B2))⟩)) (by kernel_rfl) (fun vs w1 he hd => StepG.on (g := 21) (d := 126) (x := true) (v := vs 21) (by kernel_rfl) (by kernel_rfl) (by kernel_rfl) (hd 21 (.val (.bool true)) (by kernel_rfl) (by kernel_rfl)) (gives_str (x := (.tmp 131)) (v := (vs 26)) (xs := (sumL B2)) (by kernel_rfl) (by kernel_rfl) ((hd 26 (.bsl (sumL B2)) (by kernel_rfl) (by kernel_rfl))) ⟨Ex.refl _, rfl⟩)) ?_
            refine req_cons (.val (.bool true)) (by kernel_rfl) (fun vs w1 he hd => StepG.on (g := 21) (d := 126) (x := true) (v := vs 21) (by kernel_rfl) (by kernel_rfl) (by kernel_rfl) (hd 21 (.val (.bool true)) (by kernel_rfl) (by kernel_rfl)) (gives_eqS (x := (.tmp 128)) (y := (.tmp 132)) (xs := D) (ys := (sumL B2)) (r := true) (by kernel_rfl) (Eq.trans (b := vs 23) (by kernel_rfl) (hd 23 (.val (.string ⟨(List.toArray D)⟩)) (by kernel_rfl) (by kernel_rfl))) (Eq.trans (b := vs 27) (by kernel_rfl) (hd 27 (.val (.string ⟨(List.toArray (sumL B2))⟩)) (by kernel_rfl) (by kernel_rfl))) (by rw [HE2.out]; simp) ⟨Ex.refl _, rfl⟩)) ?_
            refine req_cons (.val (.bool true)) (by kernel_rfl) (fun vs w1 he hd => StepG.on (g := 9) (d := 114) (x := false) (v := vs 9) (by kernel_rfl) (by kernel_rfl) (by kernel_rfl) (hd 9 (.val (.bool false)) (by kernel_rfl) (by kernel_rfl)) (gives_pick_t (x := (.tmp 126)) (y := (.tmp 133)) (z := (.const (.bool false))) (v := (.bool true)) (by kernel_rfl) (Eq.trans (b := vs 21) (by kernel_rfl) (hd 21 (.val (.bool true)) (by kernel_rfl) (by kernel_rfl))) (Eq.trans (b := vs 28) (by kernel_rfl) (hd 28 (.val (.bool true)) (by kernel_rfl) (by kernel_rfl))) ⟨Ex.refl _, rfl⟩)) ?_
            refine req_cons (.val (.bool true)) (by kernel_rfl) (fun vs w1 he hd => StepG.on (g := 9) (d := 114) (x := false) (v := vs 9) (by kernel_rfl) (by kernel_rfl) (by kernel_rfl) (hd 9 (.val (.bool false)) (by kernel_rfl) (by kernel_rfl)) (gives_move (x := (.tmp 134)) (v := (.bool true)) (by kernel_rfl) (Eq.trans (b := vs 29) (by kernel_rfl) (hd 29 (.val (.bool true)) (by kernel_rfl) (by kernel_rfl))) ⟨Ex.refl _, rfl⟩)) ?_
            refine req_cons (.val (.bool true)) (by kernel_rfl) (fun vs w1 he hd => StepG.on (g := 30) (d := 135) (x := true) (v := vs 30) (by kernel_rfl) (by kernel_rfl) (by kernel_rfl) (hd 30 (.val (.bool true)) (by kernel_rfl) (by kernel_rfl)) (gives_call (f := 15) (xs := #[]) (ts := #[]) (vs := #[]) (by kernel_rfl) (by kernel_rfl) (by kernel_rfl) Tryd.func15 (by kernel_rfl) (by kernel_rfl) (told_true (known_c _ (HR.out.fresh he))))) ?_
            refine req_cons (.val (.bool true)) (by kernel_rfl) (fun vs w1 he hd => StepG.on (g := 9) (d := 114) (x := false) (v := vs 9) (by kernel_rfl) (by kernel_rfl) (by kernel_rfl) (hd 9 (.val (.bool false)) (by kernel_rfl) (by kernel_rfl)) (gives_pick_t (x := (.tmp 135)) (y := (.tmp 136)) (z := (.const (.bool false))) (v := (.bool true)) (by kernel_rfl) (Eq.trans (b := vs 30) (by kernel_rfl) (hd 30 (.val (.bool true)) (by kernel_rfl) (by kernel_rfl))) (Eq.trans (b := vs 31) (by kernel_rfl) (hd 31 (.val (.bool true)) (by kernel_rfl) (by kernel_rfl))) ⟨Ex.refl _, rfl⟩)) ?_
            refine req_cons (.val (.bool true)) (by kernel_rfl) (fun vs w1 he hd => StepG.plain (by kernel_rfl) (gives_pick_f (x := (.tmp 114)) (y := (.const (.bool true))) (z := (.tmp 137)) (v := (.bool true)) (by kernel_rfl) (Eq.trans (b := vs 9) (by kernel_rfl) (hd 9 (.val (.bool false)) (by kernel_rfl) (by kernel_rfl))) (Eq.trans (b := vs 32) (by kernel_rfl) (hd 32 (.val (.bool true)) (by kernel_rfl) (by kernel_rfl))) ⟨Ex.refl _, rfl⟩)) ?_
            refine req_cons (.val (.bool true)) (by kernel_rfl) (fun vs w1 he hd => StepG.plain (by kernel_rfl) (gives_assign (x := (.tmp 138)) (v := (.bool true)) (by kernel_rfl) (Eq.trans (b := vs 33) (by kernel_rfl) (hd 33 (.val (.bool true)) (by kernel_rfl) (by kernel_rfl))) ⟨Ex.refl _, rfl⟩)) ?_
            exact req_nil
          intro vs wz hx hF
          have e0 : vs 0 = (.string vc) := told_at hF 0 (.val (.string vc)) (by decide) (by kernel_rfl)
          have e1 : vs 1 = (.int .i64 (vc.size : Nat)) := told_at hF 1 (.val (.int .i64 (vc.size : Nat))) (by decide) (by kernel_rfl)
          have e2 : vs 2 = (.string vz) := told_at hF 2 (.val (.string vz)) (by decide) (by kernel_rfl)
          have e3 : vs 3 = (.int .i64 (vz.size : Nat)) := told_at hF 3 (.val (.int .i64 (vz.size : Nat))) (by decide) (by kernel_rfl)
          have e4 : vs 4 = (.int .i64 ((vc.size + vz.size : Nat) : Int)) := told_at hF 4 (.val (.int .i64 ((vc.size + vz.size : Nat) : Int))) (by decide) (by kernel_rfl)
          have e5 : vs 5 = (.bool false) := told_at hF 5 (.val (.bool false)) (by decide) (by kernel_rfl)
          have e6 : vs 6 = (.bool false) := told_at hF 6 (.val (.bool false)) (by decide) (by kernel_rfl)
          have e7 : vs 7 = undef := told_at hF 7 (.val undef) (by decide) (by kernel_rfl)
          have e8 : vs 8 = (.bool false) := told_at hF 8 (.val (.bool false)) (by decide) (by kernel_rfl)
          have e9 : vs 9 = (.bool false) := told_at hF 9 (.val (.bool false)) (by decide) (by kernel_rfl)
          have e10 : vs 10 = (.slice ah 32 ch) := told_at hF 10 (.val (.slice ah 32 ch)) (by decide) (by kernel_rfl)
          have e11 : vs 11 = (.string ⟨(List.toArray H)⟩) := told_at hF 11 (.val (.string ⟨(List.toArray H)⟩)) (by decide) (by kernel_rfl)
          have e12 : vs 12 = (.pointer (some ⟨a1, 0, none⟩)) := told_at hF 12 (.val (.pointer (some ⟨a1, 0, none⟩))) (by decide) (by kernel_rfl)
          have e15 : vs 15 = (.string ⟨(List.toArray (sumL B1))⟩) := told_at hF 15 (.val (.string ⟨(List.toArray (sumL B1))⟩)) (by decide) (by kernel_rfl)
          have e16 : vs 16 = (.bool true) := told_at hF 16 (.val (.bool true)) (by decide) (by kernel_rfl)
          have e17 : vs 17 = (.bool true) := told_at hF 17 (.val (.bool true)) (by decide) (by kernel_rfl)
          have e18 : vs 18 = (.int .i64 0) := told_at hF 18 (.val (.int .i64 0)) (by decide) (by kernel_rfl)
          have e19 : vs 19 = (.bool true) := told_at hF 19 (.val (.bool true)) (by decide) (by kernel_rfl)
          have e20 : vs 20 = (.bool true) := told_at hF 20 (.val (.bool true)) (by decide) (by kernel_rfl)
          have e21 : vs 21 = (.bool true) := told_at hF 21 (.val (.bool true)) (by decide) (by kernel_rfl)
          have e22 : vs 22 = (.slice ad 32 cd) := told_at hF 22 (.val (.slice ad 32 cd)) (by decide) (by kernel_rfl)
          have e23 : vs 23 = (.string ⟨(List.toArray D)⟩) := told_at hF 23 (.val (.string ⟨(List.toArray D)⟩)) (by decide) (by kernel_rfl)
          have e24 : vs 24 = (.pointer (some ⟨a2, 0, none⟩)) := told_at hF 24 (.val (.pointer (some ⟨a2, 0, none⟩))) (by decide) (by kernel_rfl)
          have e27 : vs 27 = (.string ⟨(List.toArray (sumL B2))⟩) := told_at hF 27 (.val (.string ⟨(List.toArray (sumL B2))⟩)) (by decide) (by kernel_rfl)
          have e28 : vs 28 = (.bool true) := told_at hF 28 (.val (.bool true)) (by decide) (by kernel_rfl)
          have e29 : vs 29 = (.bool true) := told_at hF 29 (.val (.bool true)) (by decide) (by kernel_rfl)
          have e30 : vs 30 = (.bool true) := told_at hF 30 (.val (.bool true)) (by decide) (by kernel_rfl)
          have e31 : vs 31 = (.bool true) := told_at hF 31 (.val (.bool true)) (by decide) (by kernel_rfl)
          have e32 : vs 32 = (.bool true) := told_at hF 32 (.val (.bool true)) (by decide) (by kernel_rfl)
          have e33 : vs 33 = (.bool true) := told_at hF 33 (.val (.bool true)) (by decide) (by kernel_rfl)
          have e34 : vs 34 = (.bool true) := told_at hF 34 (.val (.bool true)) (by decide) (by kernel_rfl)
          simp only [List.length_cons, List.length_nil, actsTo, if_true, dstOf, List.getElem?_toArray, List.getElem?_cons_succ, List.getElem?_cons_zero, Option.bind_some, Act.put, List.setIfInBounds_toArray, List.set_cons_zero, List.set_cons_succ]
          simp only [e0, e1, e2, e3, e4, e5, e6, e7, e8, e9, e10, e11, e12, e15, e16, e17, e18, e19, e20, e21, e22, e23, e24, e27, e28, e29, e30, e31, e32, e33, e34]
          generalize vs 13 = y13
          generalize vs 14 = y14
          generalize vs 25 = y25
          generalize vs 26 = y26
          clear hF e0 e1 e2 e3 e4 e5 e6 e7 e8 e9 e10 e11 e12 e15 e16 e17 e18 e19 e20 e21 e22 e23 e24 e27 e28 e29 e30 e31 e32 e33 e34 vs
          go_wp2
          go_ret
          exact ⟨rfl, HBZ.out.trans (hx.mono HBZ.out.size)⟩
end Go.Proofs.YtllkafhooapcbaaDoor
