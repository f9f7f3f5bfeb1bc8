/- The walk of Decode. -/
import Derived.Test.YtnnhffjajbiicaaNgL
namespace Go.Proofs.Ytnnhffjajbiicaa
open Go Go.RowKit

set_option maxHeartbeats 800000 in
set_option maxRecDepth 100000 in
theorem decode_c (v : Value) (xs : List UInt8) (w : World) (hv : BSl w v xs) (hl : xs.length ≤ 140737488355328) :
    Calls Try.prog 14 #[v] w fun e w' => DecPost xs w e w' := by
  have HNO : Hid (decOk xs = false → ∀ w', Below w.heap.size w w' → DecPost xs w (.returned (.tuple #[.agg noL.toArray, .int .i64 12])) w') := fun h w' hb => decPost_no h hb
  have HYES : Hid (decOk xs = true → ∀ w' ck nm, LRd w' ck nm (dec xs).ck ((dec xs).ls.map texts) → (∀ k, ck.ownBlock = some k → w.heap.size ≤ k) → (∀ i, i < 10 → ∀ k, (nm.getD i undef).ownBlock = some k → w.heap.size ≤ k) → Below w.heap.size w w' → DecPost xs w (.returned (.tuple #[.agg (lcells ck nm (dec xs).fo).toArray, .int .i64 0])) w') := fun h w' ck nm h1 h2 h3 h4 => decPost_yes h h1 h2 h3 h4
  obtain ⟨Q, hQ⟩ : ∃ Q : Ending → World → Prop, Q = DecPost xs w := ⟨_, rfl⟩
  rw [← hQ] at HNO HYES
  rw [show (fun e w' => DecPost xs w e w') = Q from hQ.symm]
  clear hQ
  go_enter Try.func14, Try.ntmps14
  go_wp2_with fail
  obtain ⟨hx0, hx1, hbx, hsz⟩ := box_two w 38 38 [.slice none 0 0, .slice none 0 0, .slice none 0 0, .slice none 0 0, .slice none 0 0, .slice none 0 0, .slice none 0 0, .slice none 0 0, .slice none 0 0, .slice none 0 0, .slice none 0 0, .bool false] [.slice none 0 0, .slice none 0 0, .slice none 0 0, .slice none 0 0, .slice none 0 0, .slice none 0 0, .slice none 0 0, .slice none 0 0, .slice none 0 0, .slice none 0 0, .slice none 0 0, .bool false]
  change LBox _ _ _ noL at hx0
  change LBox _ _ _ noL at hx1
  generalize (w.alloc (.cells #[.slice none 0 0, .slice none 0 0, .slice none 0 0, .slice none 0 0, .slice none 0 0, .slice none 0 0, .slice none 0 0, .slice none 0 0, .slice none 0 0, .slice none 0 0, .slice none 0 0, .bool false] 38)).alloc (.cells #[.slice none 0 0, .slice none 0 0, .slice none 0 0, .slice none 0 0, .slice none 0 0, .slice none 0 0, .slice none 0 0, .slice none 0 0, .slice none 0 0, .slice none 0 0, .slice none 0 0, .bool false] 38) = W1 at hx0 hx1 hbx hsz ⊢
  refine (newReader_c v xs _ (hv.fresh hbx) hl).mono ?_
  rintro e w2 ⟨a, g, rfl, hr2, ha2, hg2, hb2⟩
  rw [hsz] at ha2 hg2
  have HA : Hid (w.heap.size + 2 ≤ a) := ha2
  have HG : Hid (∀ k, g = some k → w.heap.size + 2 ≤ k) := hg2
  have hx0' := hx0.fresh hb2
  have hx1' := hx1.fresh hb2
  have hbw := hbx.trans (hb2.mono hbx.size)
  have hs2 : w.heap.size + 2 ≤ w2.heap.size := hx1'.lt
  clear hx0 hx1 hbx hb2 ha2 hg2 hsz hv
  go_wp2_with fail
  refine (byte_r _ hr2).mono ?_
  rintro e w3 ⟨rfl, ht3⟩
  have HST : Hid (∀ {W : World} {q : Nat} {z : Int} {V : World}, Took a g xs q z V W → ∀ B cs, B < w.heap.size + 2 → LBox V B 38 cs → LBox W B 38 cs) := fun ht B cs hB hx => hx.keep ht.keeps (fun e => by have := HA.out; omega)
  have HBT : Hid (∀ {W : World} {q : Nat} {z : Int} {V : World}, Took a g xs q z V W → Below w.heap.size w V → Below w.heap.size w W) := fun ht hb => hb.trans (ht.keeps.below hb.size (fun k e => by have := HA.out; omega))
  have hx03 := HST.out ht3 _ _ (by omega) hx0'
  have hx13 := HST.out ht3 _ _ (by omega) hx1'
  have hb3 := HBT.out ht3 hbw
  have hw3 := ht3.state
  have hK : kindOf xs = val (tk xs 0 0 1).1 := rfl
  have hD : ∀ z, (tk xs 0 0 1).2.2 = z → dec xs = decFrom xs (tk xs 0 0 1).2.1 z := fun z e => by rw [← e]; rfl
  have hOK : decOk xs = (decide (kindOf xs = 20) && decide ((ends xs (dec xs).p (dec xs).y).1 = 0)) := rfl
  rw [← hK]
  have HOK := hidden hOK
  have HD := hidden hD
  generalize kindOf xs = kd at HOK ⊢
  generalize (tk xs 0 0 1).2.1 = p1 at hw3 HD
  generalize (tk xs 0 0 1).2.2 = y1 at hw3 HD
  have HX0 := hidden hx03
  have HX1 := hidden hx13
  have HB3 := hidden hb3
  have hs3 : w.heap.size + 2 ≤ w3.heap.size := hx13.lt
  clear hx03 hx13 hb3 hx0' hx1' hbw hr2 ht3 hK hD hOK hs2
  by_cases hk : kd = 20
  · have hq : ((kd : Int) != 20) = false := by rw [hk]; rfl
    have HFIN : Hid (∀ D : Dec, D = decFrom xs p1 y1 → decOk xs = decide ((ends xs D.p D.y).1 = 0) ∧ ((ends xs D.p D.y).1 = 0 → dec xs = D)) := fun D e => by
      have h1 := HD.out y1 rfl
      rw [HOK.out, hk, e, ← h1]
      simp
    clear hk HD HOK
    have HX0' := HX0.out
    clear HX0'
    obtain ⟨D, hDD⟩ : ∃ D, D = decFrom xs p1 y1 := ⟨_, rfl⟩
    have hFD := HFIN.out D hDD
    have hDA := decFrom_all xs p1 y1 (n := namesTo xs (tk xs p1 y1 16).2.1 (tk xs p1 y1 16).2.2 10) rfl hDD
    have hD1 := hDA.1
    have hD2 := hDA.2.1
    have hD3 := hDA.2.2
    have HFD := hidden hFD
    have HD1 := hidden hD1
    have HD2 := hidden hD2
    have HD3 := hidden hD3
    clear hDD hFD hD1 hD2 hD3 hDA HFIN
    go_wp2_with fail
    refine (raw_r 16 (by omega) (by omega) _ hw3).mono ?_
    rintro e w5 ⟨v5, rfl, hbs5, how5, ht5⟩
    rw [show (16 : Int).toNat = 16 from rfl] at hbs5 ht5
    rw [← HD1.out] at hbs5
    generalize (tk xs p1 y1 16).2.1 = p2 at ht5 HD2 HD3
    generalize (tk xs p1 y1 16).2.2 = y3 at ht5 HD2 HD3
    obtain ⟨nt, hnt⟩ : ∃ nt, nt = namesTo xs p2 y3 := ⟨_, rfl⟩
    have HN0 : Hid ((nt 0).2 = (p2, y3)) := by rw [hnt]; rfl
    have HNS : Hid (∀ k, (nt (k + 1)).2 = (nx xs (nt k).2.1 (nt k).2.2).2) := by rw [hnt]; exact fun k => rfl
    have HNG : Hid (∀ k, k < 10 → (nt 10).1.getD k [] = (nx xs (nt k).2.1 (nt k).2.2).1) := by rw [hnt]; exact fun k hk => namesTo_get xs p2 y3 10 k hk
    have HNLL : Hid ((nt 10).1.length = 10) := by rw [hnt]; exact namesTo_len _ _ _ _
    rw [← hnt] at HD2 HD3
    clear hnt
    have hx05 := HST.out ht5 _ _ (by omega) HX0.out
    have hx15 := HST.out ht5 _ _ (by omega) HX1.out
    have hb5 := HBT.out ht5 HB3.out
    have hcl5 := hx15.cell (show noL[0]? = some (.slice none 0 0) from rfl)
    have hfr5 := hx15.free
    have hs5 : w.heap.size + 2 ≤ w5.heap.size := hx15.lt
    obtain ⟨a5, c5, rfl, hc51, hc52, _⟩ := id hbs5
    have hal3 := hw3.lt
    have HB5 : Hid (∀ k, (Value.slice a5 D.ck.length c5).ownBlock = some k → w.heap.size + 2 ≤ k) := fun k e => Nat.le_trans hs3 (how5 k e)
    have HCK : Hid (∀ k, (Value.slice a5 D.ck.length c5).ownBlock = some k → a + 1 ≤ k) := fun k e => by have := how5 k e; omega
    clear hal3
    have hk6 := keeps_set w5 (w.heap.size + 1) 0 (.slice a5 D.ck.length c5)
    have HBS6 : Hid (BSl (w5.setCell ⟨w.heap.size + 1, 0, none⟩ (.slice a5 D.ck.length c5)) (.slice a5 D.ck.length c5) D.ck) := hbs5.keep hk6 (fun k e e2 => by have := HB5.out k e; omega)
    have HX06 := hidden (hx05.other (C := w.heap.size + 1) (by omega) 0 (.slice a5 D.ck.length c5))
    have HX16 : Hid (LBox (w5.setCell ⟨w.heap.size + 1, 0, none⟩ (.slice a5 D.ck.length c5)) (w.heap.size + 1) 38 (lcells (.slice a5 D.ck.length c5) (List.replicate 10 (.slice none 0 0)) false)) := hx15.set 0 _
    have HB6 := hidden (hb5.setCell (p := ⟨w.heap.size + 1, 0, none⟩) (by show _ ≤ w.heap.size + 1; omega) (.slice a5 D.ck.length c5))
    have HW6 := hidden (ht5.state.box (w.heap.size + 1) 0 (.slice a5 D.ck.length c5) (by have := HA.out; omega) (fun k e => by have := HG.out k e; omega))
    clear hx05 hx15 hb5 hbs5 how5 ht5 hk6 HX0 HX1 HB3 hw3
    go_wp2_with fail
    generalize w5.setCell ⟨w.heap.size + 1, 0, none⟩ (.slice a5 D.ck.length c5) = W6 at HBS6 HX06 HX16 HB6 HW6 ⊢
    obtain ⟨NT, hNT⟩ : ∃ NT, NT = (nt 10).1 := ⟨_, rfl⟩
    have HNT : Hid (∀ k, k < 10 → NT.getD k [] = (nx xs (nt k).2.1 (nt k).2.2).1) := by rw [hNT]; exact HNG.out
    rw [← hNT] at HD2
    have HNL : Hid (NT.length = 10) := by rw [hNT]; exact HNLL.out
    clear hNT HNG HNLL
    go_loopw [19] (fun i wr => ∃ (k : Nat) (nm : List Value), k ≤ 10 ∧ i = .int .i64 k ∧ LBox wr w.heap.size 38 noL ∧ LBox wr (w.heap.size + 1) 38 (lcells (.slice a5 D.ck.length c5) nm false) ∧ Fill wr (a + 1) nm (fun j => texts (NT.getD j [])) k ∧ WR wr a g xs (nt k).2.1 (nt k).2.2 ∧ BSl wr (.slice a5 D.ck.length c5) D.ck ∧ Below w.heap.size w wr) (fun i _ => 10 - (intOf i).toNat)
    case atStart => exact ⟨0, List.replicate 10 (.slice none 0 0), by omega, rfl, HX06.out, HX16.out, Fill.zero rfl, by rw [HN0.out]; exact HW6.out, HBS6.out, HB6.out⟩
    case round =>
      clear HX06 HX16 HB6 HW6 HBS6
      obtain ⟨k, nm, hk, rfl, hx0, hx1, hfl, hwr, hbs, hb⟩ := hrel
      have HX0 := hidden hx0
      have HX1 := hidden hx1
      have HFL := hidden hfl
      have HBS := hidden hbs
      have HB := hidden hb
      have hsr : w.heap.size + 2 ≤ wr.heap.size := hx1.lt
      have hal := hwr.lt
      clear hx0 hx1 hfl hbs hb
      by_cases hlt : k < 10
      · have hi1 : (k : Int) < 10 := by omega
        have HSUC := hidden (HNS.out k)
        have HGK := hidden (HNT.out k hlt)
        go_wp2_with fail
        refine (names_r _ hwr).mono ?_
        rintro e w7 ⟨v7, rfl, hs7, how7, ht7⟩
        rw [← HGK.out] at hs7
        rw [← HSUC.out] at ht7
        clear HSUC HGK hwr
        generalize hF : texts (NT.getD k []) = F at hs7
        have HF := hidden hF
        clear hF
        have hx07 := HST.out ht7 _ _ (by omega) HX0.out
        have hx17 := HST.out ht7 _ _ (by omega) HX1.out
        have hb7 := HBT.out ht7 HB.out
        have hcl7 := hx17.cell (lcells_at HFL.out.nl hlt)
        have hfr7 := hx17.free
        obtain ⟨a7, c7, rfl, hc71, hc72, _⟩ := id hs7
        have HO7 := hidden how7
        have HS7 := hidden hs7
        have HT7 := hidden ht7
        have HX07 := hidden hx07
        have HX17 := hidden hx17
        have HB7 := hidden hb7
        generalize nm.getD k undef = u at hcl7
        clear how7 hs7 ht7 hx07 hx17 hb7
        go_wp2
        go_roundw
        case rel =>
          have hset := keeps_set w7 (w.heap.size + 1) (1 + k) (.slice a7 F.length c7)
          have hkk := HT7.out.keeps
          refine ⟨k + 1, nm.set k (.slice a7 F.length c7), by omega, by go_num, ?_, ?_, ?_, ?_, ?_, ?_⟩
          · exact HX07.out.other (by omega) _ _
          · have := HX17.out.set (1 + k) (.slice a7 F.length c7)
            rwa [lcells_set HFL.out.nl hlt] at this
          · have h1 : Fill w7 (a + 1) nm (fun j => texts (NT.getD j [])) k := HFL.out.keep hkk (fun j e => by omega)
            have h2 := h1.next hlt (v := .slice a7 F.length c7) (by show SSl w7 _ (texts (NT.getD k [])); rw [HF.out]; exact HS7.out) (fun j e => by have := HO7.out j e; omega)
            exact h2.keep hset (fun j e => by have := HA.out; omega)
          · exact HT7.out.state.box (w.heap.size + 1) (1 + k) _ (by have := HA.out; omega) (fun j e => by have := HG.out j e; omega)
          · exact (HBS.out.keep hkk (fun j e e2 => by have := HCK.out j e; omega)).keep hset (fun j e e2 => by have := HCK.out j e; have := HA.out; omega)
          · exact HB7.out.setCell (p := ⟨w.heap.size + 1, 1 + k, none⟩) (by show _ ≤ w.heap.size + 1; omega) _
        case measure => simp [intOf]; omega
      · have hi1 : ¬ (k : Int) < 10 := by omega
        obtain rfl : k = 10 := by omega
        have hf0 := HD3.out
        generalize nt 10 = n10 at hf0 hwr
        go_wp2_with fail
        refine (bool_r _ hwr).mono ?_
        rintro e w8 ⟨rfl, ht8⟩
        rw [← hf0.1]
        generalize (tk xs n10.2.1 n10.2.2 1).2.1 = p8 at ht8 hf0
        generalize (tk xs n10.2.1 n10.2.2 1).2.2 = y8 at ht8 hf0
        have HF0 := hidden hf0
        clear hf0
        have hx08 := HST.out ht8 _ _ (by omega) HX0.out
        have hx18 := HST.out ht8 _ _ (by omega) HX1.out
        have hb8 := HBT.out ht8 HB.out
        have hcl8 := hx18.cell (lcells_end HFL.out.nl)
        have hfr8 := hx18.free
        have hset := keeps_set w8 (w.heap.size + 1) 11 (.bool D.fo)
        have hk8 := ht8.keeps
        have HFL8 : Hid (Fill (w8.setCell ⟨w.heap.size + 1, 11, none⟩ (.bool D.fo)) (a + 1) nm (fun j => texts (NT.getD j [])) 10) := (HFL.out.keep hk8 (fun j e => by omega)).keep hset (fun j e => by have := HA.out; omega)
        have HBS8 : Hid (BSl (w8.setCell ⟨w.heap.size + 1, 11, none⟩ (.bool D.fo)) (.slice a5 D.ck.length c5) D.ck) := (HBS.out.keep hk8 (fun j e e2 => by have := HCK.out j e; omega)).keep hset (fun j e e2 => by have := HCK.out j e; have := HA.out; omega)
        have hx18s := hx18.set 11 (.bool D.fo)
        rw [lcells_fo HFL.out.nl] at hx18s
        have hx08s := hx08.other (C := w.heap.size + 1) (by omega) 11 (.bool D.fo)
        have hb8s := hb8.setCell (p := ⟨w.heap.size + 1, 11, none⟩) (by show _ ≤ w.heap.size + 1; omega) (.bool D.fo)
        have hw8s := ht8.state.box (w.heap.size + 1) 11 (.bool D.fo) (by have := HA.out; omega) (fun j e => by have := HG.out j e; omega)
        clear hx08 hx18 hb8 ht8 hset hk8 HFL HBS HX0 HX1 HB hwr
        go_wp2_with fail
        refine (u32_r _ hw8s).mono ?_
        rintro e w9 ⟨rfl, ht9⟩
        rw [← HF0.out.2.1, ← HF0.out.2.2] at ht9
        have hx09 := HST.out ht9 _ _ (by omega) hx08s
        have hx19 := HST.out ht9 _ _ (by omega) hx18s
        have hb9 := HBT.out ht9 hb8s
        have hk9 := ht9.keeps
        have HFL9 : Hid (Fill w9 (a + 1) nm (fun j => texts (NT.getD j [])) 10) := HFL8.out.keep hk9 (fun j e => by omega)
        have HBS9 : Hid (BSl w9 (.slice a5 D.ck.length c5) D.ck) := HBS8.out.keep hk9 (fun j e e2 => by have := HCK.out j e; omega)
        have hw9 := ht9.state
        clear hx08s hx18s hb8s hw8s ht9 hk9 HFL8 HBS8 HF0 hcl8 hfr8
        go_wp2_with fail
        refine (end_r _ hw9).mono ?_
        rintro e w10 ⟨rfl, hk10⟩
        have HX0t := hidden (hx09.still hk10)
        have HX1t := hidden (hx19.still hk10)
        have HBt := hidden (hb9.trans (still_below hk10 hb9.size))
        have HFLt : Hid (Fill w10 (a + 1) nm (fun j => texts (NT.getD j [])) 10) := HFL9.out.keep hk10 (fun j e => e.elim)
        have HBSt : Hid (BSl w10 (.slice a5 D.ck.length c5) D.ck) := HBS9.out.keep hk10 (fun j e e2 => e2)
        clear hx09 hx19 hb9 hw9 hk10 HFL9 HBS9
        obtain ⟨E, hE⟩ : ∃ E, E = ends xs D.p D.y := ⟨_, rfl⟩
        have hfd := HFD.out
        rw [← hE] at hfd ⊢
        obtain ⟨E1, E2⟩ := E
        simp only at hfd ⊢
        clear hE
        by_cases hE1 : E1 = 0
        · have hq1 : (E1 != 0) = false := by rw [hE1]; rfl
          have hok : decOk xs = true := by rw [hfd.1, hE1]; rfl
          have hdd := hfd.2 hE1
          have HY := hidden (HYES.out hok)
          rw [hdd] at HY
          clear hfd hok hdd HNO hE1
          have hrd : LRd w10 (.slice a5 D.ck.length c5) nm D.ck (D.ls.map texts) := by
            refine ⟨HBSt.out, HFLt.out.nl, by rw [List.length_map, HD2.out]; exact HNL.out, fun i hi => ?_⟩
            have h1 := (HFLt.out.done i hi).1
            have e : (D.ls.map texts).getD i [] = texts (NT.getD i []) := by
              have h10 := HNL.out
              rw [HD2.out, List.getD_eq_getElem?_getD, List.getElem?_map, List.getD_eq_getElem?_getD, List.getElem?_eq_getElem (by omega)]
              rfl
            rw [e]
            exact h1
          have HRD := hidden hrd
          have hone := hrd.one (fo := D.fo)
          have hln := lcells_len (ck := .slice a5 D.ck.length c5) (fo := D.fo) hrd.nl
          clear hrd
          generalize hCC : lcells (.slice a5 D.ck.length c5) nm D.fo = CC at HX1t hone hln
          have HCC := hidden hCC
          clear hCC
          have HSL : Hid ((Try.prog.info? 38).map (·.size) = some CC.toArray.size) := by show _ = _; rw [sizeL]; simp [hln]
          have HZZ : Hid ((noL.toArray).size = CC.toArray.size) := by show _ = _; rw [List.size_toArray, List.size_toArray, hln]; rfl
          have HON := hidden hone
          clear hone hln
          go_wp2_with (first
            | (refine wpList_loadAgg rfl 38 (.tmp 4) rfl (w.heap.size + 1) CC.toArray 38 (0, 0) rfl HX1t.out Try.underlying38 HSL.out ?_)
            | (refine wpList_store_row rfl 38 (.tmp 2) (.tmp 41) rfl w.heap.size CC.toArray rfl rfl 38 _ HX0t.out HSL.out HZZ.out HON.out ?_))
          have hbr : Below w.heap.size w (w10.setRow w.heap.size CC.toArray) := below_setRow HBt.out (by omega) _
          refine bodyPost_ret (results_aggTmp rfl _ _ _ w.heap.size CC.toArray 38 (0, 0) (.int .i64 0) rfl rfl (HX0t.out.row CC) Try.underlying38 HSL.out) rfl ?_
          have hres := HY.out (w10.setRow w.heap.size CC.toArray) (.slice a5 D.ck.length c5) nm (HRD.out.keep (keeps_row w10 w.heap.size CC.toArray) (fun j e e2 => by have := HCK.out j e; have := HA.out; omega) (fun i hi j e e2 => by have := (HFLt.out.done i hi).2 j e; have := HA.out; omega)) (fun j e => by have := HB5.out j e; omega) (fun i hi j e => by have := (HFLt.out.done i hi).2 j e; have := HA.out; omega) hbr
          rw [HCC.out] at hres
          exact hres
        · have hq1 : (E1 != 0) = true := by rw [bne_iff_ne]; exact hE1
          have hok : decOk xs = false := by rw [hfd.1]; simpa using hE1
          have HN := hidden (HNO.out hok)
          clear hfd hok HYES hE1
          have hbr : Below w.heap.size w (w10.setRow w.heap.size noL.toArray) := below_setRow HBt.out (by omega) _
          go_wp2_with (refine wpList_store_row rfl 38 (.tmp 2) (.tmp 40) rfl w.heap.size noL.toArray rfl rfl 38 _ HX0t.out size_noL rfl noL_one ?_)
          refine bodyPost_ret (results_aggTmp rfl _ _ _ w.heap.size noL.toArray 38 (0, 0) (.int .i64 12) rfl rfl (HX0t.out.row noL) Try.underlying38 size_noL) rfl ?_
          exact HN.out _ hbr
  · have hq : ((kd : Int) != 20) = true := by rw [bne_iff_ne]; omega
    have hbad : decOk xs = false := by rw [HOK.out]; simp [hk]
    clear HD HOK hk
    go_wp2_with fail
    refine (fail_r 12 _ hw3).mono ?_
    rintro e w4 ⟨rfl, ht4⟩
    have hx04 := HST.out ht4 _ _ (by omega) HX0.out
    have hx14 := HST.out ht4 _ _ (by omega) HX1.out
    have hb4 := HBT.out ht4 HB3.out
    have hw4 := ht4.state
    obtain ⟨y2, hy2⟩ : ∃ y2 : Int, y2 = if y1 = 0 then 12 else y1 := ⟨_, rfl⟩
    have hyn : y2 ≠ 0 := by rw [hy2]; split <;> omega
    rw [← hy2] at hw4
    clear HX0 HX1 HB3 hw3 ht4 hs3 hy2
    have HFIN : Hid (∀ D : Dec, D = decFrom xs p1 y2 → decOk xs = decide ((ends xs D.p D.y).1 = 0) ∧ ((ends xs D.p D.y).1 = 0 → dec xs = D)) := fun D e => by
      have h1 := (decFrom_no (bs := xs) (p := p1) hyn).2
      have h2 : (ends xs D.p D.y).1 ≠ 0 := ends_no (by rw [e, h1]; exact hyn)
      exact ⟨by rw [hbad]; simp [h2], fun h => absurd h h2⟩
    have HX0 := hidden hx04
    have HX1 := hidden hx14
    have HB3 := hidden hb4
    have hs3 : w.heap.size + 2 ≤ w4.heap.size := hx14.lt
    clear hbad hyn hx04 hx14 hb4
    have hw3 := hw4
    clear hw4
    have HX0' := HX0.out
    clear HX0'
    obtain ⟨D, hDD⟩ : ∃ D, D = decFrom xs p1 y2 := ⟨_, rfl⟩
    have hFD := HFIN.out D hDD
    have hDA := decFrom_all xs p1 y2 (n := namesTo xs (tk xs p1 y2 16).2.1 (tk xs p1 y2 16).2.2 10) rfl hDD
    have hD1 := hDA.1
    have hD2 := hDA.2.1
    have hD3 := hDA.2.2
    have HFD := hidden hFD
    have HD1 := hidden hD1
    have HD2 := hidden hD2
    have HD3 := hidden hD3
    clear hDD hFD hD1 hD2 hD3 hDA HFIN
    go_wp2_with fail
    refine (raw_r 16 (by omega) (by omega) _ hw3).mono ?_
    rintro e w5 ⟨v5, rfl, hbs5, how5, ht5⟩
    rw [show (16 : Int).toNat = 16 from rfl] at hbs5 ht5
    rw [← HD1.out] at hbs5
    generalize (tk xs p1 y2 16).2.1 = p2 at ht5 HD2 HD3
    generalize (tk xs p1 y2 16).2.2 = y3 at ht5 HD2 HD3
    obtain ⟨nt, hnt⟩ : ∃ nt, nt = namesTo xs p2 y3 := ⟨_, rfl⟩
    have HN0 : Hid ((nt 0).2 = (p2, y3)) := by rw [hnt]; rfl
    have HNS : Hid (∀ k, (nt (k + 1)).2 = (nx xs (nt k).2.1 (nt k).2.2).2) := by rw [hnt]; exact fun k => rfl
    have HNG : Hid (∀ k, k < 10 → (nt 10).1.getD k [] = (nx xs (nt k).2.1 (nt k).2.2).1) := by rw [hnt]; exact fun k hk => namesTo_get xs p2 y3 10 k hk
    have HNLL : Hid ((nt 10).1.length = 10) := by rw [hnt]; exact namesTo_len _ _ _ _
    rw [← hnt] at HD2 HD3
    clear hnt
    have hx05 := HST.out ht5 _ _ (by omega) HX0.out
    have hx15 := HST.out ht5 _ _ (by omega) HX1.out
    have hb5 := HBT.out ht5 HB3.out
    have hcl5 := hx15.cell (show noL[0]? = some (.slice none 0 0) from rfl)
    have hfr5 := hx15.free
    have hs5 : w.heap.size + 2 ≤ w5.heap.size := hx15.lt
    obtain ⟨a5, c5, rfl, hc51, hc52, _⟩ := id hbs5
    have hal3 := hw3.lt
    have HB5 : Hid (∀ k, (Value.slice a5 D.ck.length c5).ownBlock = some k → w.heap.size + 2 ≤ k) := fun k e => Nat.le_trans hs3 (how5 k e)
    have HCK : Hid (∀ k, (Value.slice a5 D.ck.length c5).ownBlock = some k → a + 1 ≤ k) := fun k e => by have := how5 k e; omega
    clear hal3
    have hk6 := keeps_set w5 (w.heap.size + 1) 0 (.slice a5 D.ck.length c5)
    have HBS6 : Hid (BSl (w5.setCell ⟨w.heap.size + 1, 0, none⟩ (.slice a5 D.ck.length c5)) (.slice a5 D.ck.length c5) D.ck) := hbs5.keep hk6 (fun k e e2 => by have := HB5.out k e; omega)
    have HX06 := hidden (hx05.other (C := w.heap.size + 1) (by omega) 0 (.slice a5 D.ck.length c5))
    have HX16 : Hid (LBox (w5.setCell ⟨w.heap.size + 1, 0, none⟩ (.slice a5 D.ck.length c5)) (w.heap.size + 1) 38 (lcells (.slice a5 D.ck.length c5) (List.replicate 10 (.slice none 0 0)) false)) := hx15.set 0 _
    have HB6 := hidden (hb5.setCell (p := ⟨w.heap.size + 1, 0, none⟩) (by show _ ≤ w.heap.size + 1; omega) (.slice a5 D.ck.length c5))
    have HW6 := hidden (ht5.state.box (w.heap.size + 1) 0 (.slice a5 D.ck.length c5) (by have := HA.out; omega) (fun k e => by have := HG.out k e; omega))
    clear hx05 hx15 hb5 hbs5 how5 ht5 hk6 HX0 HX1 HB3 hw3
    go_wp2_with fail
    generalize w5.setCell ⟨w.heap.size + 1, 0, none⟩ (.slice a5 D.ck.length c5) = W6 at HBS6 HX06 HX16 HB6 HW6 ⊢
    obtain ⟨NT, hNT⟩ : ∃ NT, NT = (nt 10).1 := ⟨_, rfl⟩
    have HNT : Hid (∀ k, k < 10 → NT.getD k [] = (nx xs (nt k).2.1 (nt k).2.2).1) := by rw [hNT]; exact HNG.out
    rw [← hNT] at HD2
    have HNL : Hid (NT.length = 10) := by rw [hNT]; exact HNLL.out
    clear hNT HNG HNLL
    go_loopw [19] (fun i wr => ∃ (k : Nat) (nm : List Value), k ≤ 10 ∧ i = .int .i64 k ∧ LBox wr w.heap.size 38 noL ∧ LBox wr (w.heap.size + 1) 38 (lcells (.slice a5 D.ck.length c5) nm false) ∧ Fill wr (a + 1) nm (fun j => texts (NT.getD j [])) k ∧ WR wr a g xs (nt k).2.1 (nt k).2.2 ∧ BSl wr (.slice a5 D.ck.length c5) D.ck ∧ Below w.heap.size w wr) (fun i _ => 10 - (intOf i).toNat)
    case atStart => exact ⟨0, List.replicate 10 (.slice none 0 0), by omega, rfl, HX06.out, HX16.out, Fill.zero rfl, by rw [HN0.out]; exact HW6.out, HBS6.out, HB6.out⟩
    case round =>
      clear HX06 HX16 HB6 HW6 HBS6
      obtain ⟨k, nm, hk, rfl, hx0, hx1, hfl, hwr, hbs, hb⟩ := hrel
      have HX0 := hidden hx0
      have HX1 := hidden hx1
      have HFL := hidden hfl
      have HBS := hidden hbs
      have HB := hidden hb
      have hsr : w.heap.size + 2 ≤ wr.heap.size := hx1.lt
      have hal := hwr.lt
      clear hx0 hx1 hfl hbs hb
      by_cases hlt : k < 10
      · have hi1 : (k : Int) < 10 := by omega
        have HSUC := hidden (HNS.out k)
        have HGK := hidden (HNT.out k hlt)
        go_wp2_with fail
        refine (names_r _ hwr).mono ?_
        rintro e w7 ⟨v7, rfl, hs7, how7, ht7⟩
        rw [← HGK.out] at hs7
        rw [← HSUC.out] at ht7
        clear HSUC HGK hwr
        generalize hF : texts (NT.getD k []) = F at hs7
        have HF := hidden hF
        clear hF
        have hx07 := HST.out ht7 _ _ (by omega) HX0.out
        have hx17 := HST.out ht7 _ _ (by omega) HX1.out
        have hb7 := HBT.out ht7 HB.out
        have hcl7 := hx17.cell (lcells_at HFL.out.nl hlt)
        have hfr7 := hx17.free
        obtain ⟨a7, c7, rfl, hc71, hc72, _⟩ := id hs7
        have HO7 := hidden how7
        have HS7 := hidden hs7
        have HT7 := hidden ht7
        have HX07 := hidden hx07
        have HX17 := hidden hx17
        have HB7 := hidden hb7
        generalize nm.getD k undef = u at hcl7
        clear how7 hs7 ht7 hx07 hx17 hb7
        go_wp2
        go_roundw
        case rel =>
          have hset := keeps_set w7 (w.heap.size + 1) (1 + k) (.slice a7 F.length c7)
          have hkk := HT7.out.keeps
          refine ⟨k + 1, nm.set k (.slice a7 F.length c7), by omega, by go_num, ?_, ?_, ?_, ?_, ?_, ?_⟩
          · exact HX07.out.other (by omega) _ _
          · have := HX17.out.set (1 + k) (.slice a7 F.length c7)
            rwa [lcells_set HFL.out.nl hlt] at this
          · have h1 : Fill w7 (a + 1) nm (fun j => texts (NT.getD j [])) k := HFL.out.keep hkk (fun j e => by omega)
            have h2 := h1.next hlt (v := .slice a7 F.length c7) (by show SSl w7 _ (texts (NT.getD k [])); rw [HF.out]; exact HS7.out) (fun j e => by have := HO7.out j e; omega)
            exact h2.keep hset (fun j e => by have := HA.out; omega)
          · exact HT7.out.state.box (w.heap.size + 1) (1 + k) _ (by have := HA.out; omega) (fun j e => by have := HG.out j e; omega)
          · exact (HBS.out.keep hkk (fun j e e2 => by have := HCK.out j e; omega)).keep hset (fun j e e2 => by have := HCK.out j e; have := HA.out; omega)
          · exact HB7.out.setCell (p := ⟨w.heap.size + 1, 1 + k, none⟩) (by show _ ≤ w.heap.size + 1; omega) _
        case measure => simp [intOf]; omega
      · have hi1 : ¬ (k : Int) < 10 := by omega
        obtain rfl : k = 10 := by omega
        have hf0 := HD3.out
        generalize nt 10 = n10 at hf0 hwr
        go_wp2_with fail
        refine (bool_r _ hwr).mono ?_
        rintro e w8 ⟨rfl, ht8⟩
        rw [← hf0.1]
        generalize (tk xs n10.2.1 n10.2.2 1).2.1 = p8 at ht8 hf0
        generalize (tk xs n10.2.1 n10.2.2 1).2.2 = y8 at ht8 hf0
        have HF0 := hidden hf0
        clear hf0
        have hx08 := HST.out ht8 _ _ (by omega) HX0.out
        have hx18 := HST.out ht8 _ _ (by omega) HX1.out
        have hb8 := HBT.out ht8 HB.out
        have hcl8 := hx18.cell (lcells_end HFL.out.nl)
        have hfr8 := hx18.free
        have hset := keeps_set w8 (w.heap.size + 1) 11 (.bool D.fo)
        have hk8 := ht8.keeps
        have HFL8 : Hid (Fill (w8.setCell ⟨w.heap.size + 1, 11, none⟩ (.bool D.fo)) (a + 1) nm (fun j => texts (NT.getD j [])) 10) := (HFL.out.keep hk8 (fun j e => by omega)).keep hset (fun j e => by have := HA.out; omega)
        have HBS8 : Hid (BSl (w8.setCell ⟨w.heap.size + 1, 11, none⟩ (.bool D.fo)) (.slice a5 D.ck.length c5) D.ck) := (HBS.out.keep hk8 (fun j e e2 => by have := HCK.out j e; omega)).keep hset (fun j e e2 => by have := HCK.out j e; have := HA.out; omega)
        have hx18s := hx18.set 11 (.bool D.fo)
        rw [lcells_fo HFL.out.nl] at hx18s
        have hx08s := hx08.other (C := w.heap.size + 1) (by omega) 11 (.bool D.fo)
        have hb8s := hb8.setCell (p := ⟨w.heap.size + 1, 11, none⟩) (by show _ ≤ w.heap.size + 1; omega) (.bool D.fo)
        have hw8s := ht8.state.box (w.heap.size + 1) 11 (.bool D.fo) (by have := HA.out; omega) (fun j e => by have := HG.out j e; omega)
        clear hx08 hx18 hb8 ht8 hset hk8 HFL HBS HX0 HX1 HB hwr
        go_wp2_with fail
        refine (u32_r _ hw8s).mono ?_
        rintro e w9 ⟨rfl, ht9⟩
        rw [← HF0.out.2.1, ← HF0.out.2.2] at ht9
        have hx09 := HST.out ht9 _ _ (by omega) hx08s
        have hx19 := HST.out ht9 _ _ (by omega) hx18s
        have hb9 := HBT.out ht9 hb8s
        have hk9 := ht9.keeps
        have HFL9 : Hid (Fill w9 (a + 1) nm (fun j => texts (NT.getD j [])) 10) := HFL8.out.keep hk9 (fun j e => by omega)
        have HBS9 : Hid (BSl w9 (.slice a5 D.ck.length c5) D.ck) := HBS8.out.keep hk9 (fun j e e2 => by have := HCK.out j e; omega)
        have hw9 := ht9.state
        clear hx08s hx18s hb8s hw8s ht9 hk9 HFL8 HBS8 HF0 hcl8 hfr8
        go_wp2_with fail
        refine (end_r _ hw9).mono ?_
        rintro e w10 ⟨rfl, hk10⟩
        have HX0t := hidden (hx09.still hk10)
        have HX1t := hidden (hx19.still hk10)
        have HBt := hidden (hb9.trans (still_below hk10 hb9.size))
        have HFLt : Hid (Fill w10 (a + 1) nm (fun j => texts (NT.getD j [])) 10) := HFL9.out.keep hk10 (fun j e => e.elim)
        have HBSt : Hid (BSl w10 (.slice a5 D.ck.length c5) D.ck) := HBS9.out.keep hk10 (fun j e e2 => e2)
        clear hx09 hx19 hb9 hw9 hk10 HFL9 HBS9
        obtain ⟨E, hE⟩ : ∃ E, E = ends xs D.p D.y := ⟨_, rfl⟩
        have hfd := HFD.out
        rw [← hE] at hfd ⊢
        obtain ⟨E1, E2⟩ := E
        simp only at hfd ⊢
        clear hE
        by_cases hE1 : E1 = 0
        · have hq1 : (E1 != 0) = false := by rw [hE1]; rfl
          have hok : decOk xs = true := by rw [hfd.1, hE1]; rfl
          have hdd := hfd.2 hE1
          have HY := hidden (HYES.out hok)
          rw [hdd] at HY
          clear hfd hok hdd HNO hE1
          have hrd : LRd w10 (.slice a5 D.ck.length c5) nm D.ck (D.ls.map texts) := by
            refine ⟨HBSt.out, HFLt.out.nl, by rw [List.length_map, HD2.out]; exact HNL.out, fun i hi => ?_⟩
            have h1 := (HFLt.out.done i hi).1
            have e : (D.ls.map texts).getD i [] = texts (NT.getD i []) := by
              have h10 := HNL.out
              rw [HD2.out, List.getD_eq_getElem?_getD, List.getElem?_map, List.getD_eq_getElem?_getD, List.getElem?_eq_getElem (by omega)]
              rfl
            rw [e]
            exact h1
          have HRD := hidden hrd
          have hone := hrd.one (fo := D.fo)
          have hln := lcells_len (ck := .slice a5 D.ck.length c5) (fo := D.fo) hrd.nl
          clear hrd
          generalize hCC : lcells (.slice a5 D.ck.length c5) nm D.fo = CC at HX1t hone hln
          have HCC := hidden hCC
          clear hCC
          have HSL : Hid ((Try.prog.info? 38).map (·.size) = some CC.toArray.size) := by show _ = _; rw [sizeL]; simp [hln]
          have HZZ : Hid ((noL.toArray).size = CC.toArray.size) := by show _ = _; rw [List.size_toArray, List.size_toArray, hln]; rfl
          have HON := hidden hone
          clear hone hln
          go_wp2_with (first
            | (refine wpList_loadAgg rfl 38 (.tmp 4) rfl (w.heap.size + 1) CC.toArray 38 (0, 0) rfl HX1t.out Try.underlying38 HSL.out ?_)
            | (refine wpList_store_row rfl 38 (.tmp 2) (.tmp 41) rfl w.heap.size CC.toArray rfl rfl 38 _ HX0t.out HSL.out HZZ.out HON.out ?_))
          have hbr : Below w.heap.size w (w10.setRow w.heap.size CC.toArray) := below_setRow HBt.out (by omega) _
          refine bodyPost_ret (results_aggTmp rfl _ _ _ w.heap.size CC.toArray 38 (0, 0) (.int .i64 0) rfl rfl (HX0t.out.row CC) Try.underlying38 HSL.out) rfl ?_
          have hres := HY.out (w10.setRow w.heap.size CC.toArray) (.slice a5 D.ck.length c5) nm (HRD.out.keep (keeps_row w10 w.heap.size CC.toArray) (fun j e e2 => by have := HCK.out j e; have := HA.out; omega) (fun i hi j e e2 => by have := (HFLt.out.done i hi).2 j e; have := HA.out; omega)) (fun j e => by have := HB5.out j e; omega) (fun i hi j e => by have := (HFLt.out.done i hi).2 j e; have := HA.out; omega) hbr
          rw [HCC.out] at hres
          exact hres
        · have hq1 : (E1 != 0) = true := by rw [bne_iff_ne]; exact hE1
          have hok : decOk xs = false := by rw [hfd.1]; simpa using hE1
          have HN := hidden (HNO.out hok)
          clear hfd hok HYES hE1
          have hbr : Below w.heap.size w (w10.setRow w.heap.size noL.toArray) := below_setRow HBt.out (by omega) _
          go_wp2_with (refine wpList_store_row rfl 38 (.tmp 2) (.tmp 40) rfl w.heap.size noL.toArray rfl rfl 38 _ HX0t.out size_noL rfl noL_one ?_)
          refine bodyPost_ret (results_aggTmp rfl _ _ _ w.heap.size noL.toArray 38 (0, 0) (.int .i64 12) rfl rfl (HX0t.out.row noL) Try.underlying38 size_noL) rfl ?_
          exact HN.out _ hbr
end Go.Proofs.Ytnnhffjajbiicaa
