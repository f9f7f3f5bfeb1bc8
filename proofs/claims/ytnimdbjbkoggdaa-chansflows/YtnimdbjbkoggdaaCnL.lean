/- What a Mux's take and Do do. -/
import Derived.Test.YtnimdbjbkoggdaaCnK
namespace Go.Proofs.Ytnimdbjbkoggdaa
open Go Go.RowKit

theorem TPost.boxed {w w0 w1 : World} {P : Nat → Prop} {a rb : Nat} {S : MS} {r : Option (MS × List (List UInt8) × List Ev)} {p1 p2 : Option Addr} {n1 q1 n2 q2 : Nat} {b : Bool} (hal : a < w.heap.size) (hk0 : Keeps (fun _ => False) w w0) (hsz : w.heap.size + 1 ≤ w0.heap.size) (hPl : ∀ k, P k → k < w.heap.size) (hk : Keeps (fun k => k = a ∨ k = rb) w0 w1)
    (hp : (r = none ∧ b = true ∧ MX w1 P a S) ∨
     ∃ S' ls es, r = some (S', ls, es) ∧ b = false ∧ Lst w0.heap.size w1 (.slice p1 n1 q1) ls ∧ Evs 51 w0.heap.size w1 (.slice p2 n2 q2) es ∧ MX w1 P a S') :
    TPost w P a rb S r (.returned (.agg #[.slice p1 n1 q1, .slice p2 n2 q2, .bool b])) (putO w1 w.heap.size (.slice p1 n1 q1) (.slice p2 n2 q2) b) := by
  have hp2 := putO_keeps w1 w.heap.size (.slice p1 n1 q1) (.slice p2 n2 q2) b
  have hkk : Keeps (fun k => k = a ∨ k = rb) w w1 := (hk0.mono (S' := fun k => k = a ∨ k = rb) (fun k _ h => h.elim)).trans hk
  rcases hp with ⟨rfl, rfl, h1⟩ | ⟨S', ls, es, rfl, rfl, h1, h2, h3⟩
  · exact ⟨p1, n1, q1, p2, n2, q2, true, rfl, ⟨hp2.os.trans hkk.os, hp2.tape.trans hkk.tape, hp2.output.trans hkk.output, Nat.le_trans hkk.size hp2.size, fun k g1 g2 => (hp2.block k (Nat.lt_of_lt_of_le g1 hkk.size) (by omega)).trans (hkk.block k g1 g2)⟩, .inl ⟨rfl, rfl, h1.keep hp2 (by omega) (fun k g1 g2 => by have := hPl k g1; omega)⟩⟩
  · exact TPost.right hal hPl hkk (h1.mono hsz) (h2.mono hsz) h3
theorem TPost.ofOut {w w' : World} {P : Nat → Prop} {a rb i : Nat} {S : MS} {v : Value} {A Z : List Value} {r : Out} {e : Ending} (h : MX w P a S) (hvP : ∀ k, v.ownBlock = some k → P k)
    (hput : ∀ (w' : World) (T P' : Nat → Prop) (oc : Option Ch) (v' : Value), w'.heap[a]? = some (.cells (A ++ pcells i oc v' ++ Z).toArray 61 (0, 0)) → (∀ c, oc = some c → Held w' v' c.wt) → (∀ k, v'.ownBlock = some k → v.ownBlock = some k ∨ w.heap.size ≤ k) → Keeps T w w' → (∀ k, P k → T k → v.ownBlock = some k) → (∀ k, P k → P' k) → (∀ k, v'.ownBlock = some k → P' k) → ¬ P' a → (∀ k, P' k → k < w'.heap.size) → MX w' P' a ⟨S.cs.set i oc, S.dead⟩)
    (hP : ¬ P rb) (ho : OutP w a rb i v A Z r e w') : TPost w P a rb S (putC S i r) e w' := by
  obtain ⟨p1, n1, q1, p2, n2, q2, b, h1, h2, h3⟩ := ho
  refine ⟨p1, n1, q1, p2, n2, q2, b, h1, h2, ?_⟩
  rcases h3 with ⟨rfl, rfl, g1⟩ | ⟨oc, ls, es, v', rfl, rfl, g1, g2, g3, g4, g5⟩
  · refine .inl ⟨rfl, rfl, h.keep (T := fun k => k = rb ∧ k ≠ a) ⟨h2.os, h2.tape, h2.output, h2.size, fun k k1 k2 => ?_⟩ (fun e => e.2 rfl) (fun k hp e => hP (by rw [← e.1]; exact hp))⟩
    by_cases hka : k = a
    · rw [hka]; exact g1
    · exact h2.block k k1 (fun e => by rcases e with e | e; exact hka e; exact k2 ⟨e, hka⟩)
  · refine .inr ⟨_, ls, es, rfl, rfl, g1, g2, ?_⟩
    exact hput w' _ P oc v' g3 g4 (fun k e => .inl (g5 k e)) h2 (fun k hp e => by rcases e with e | e; exact absurd (by rw [← e]; exact hp) h.na; exact absurd (by rw [← e]; exact hp) hP) (fun k hp => hp) (fun k e => hvP k (g5 k e)) h.na (fun k hp => Nat.lt_of_lt_of_le (h.lt k hp) h2.size)

theorem TPost.late {w w0 w1 : World} {P : Nat → Prop} {a rb : Nat} {S : MS} {r : Option (MS × List (List UInt8) × List Ev)} {p1 p2 : Option Addr} {n1 q1 n2 q2 : Nat} {b : Bool} (hal : a < w.heap.size) (hk0 : Keeps (fun k => k = rb) w w0) (hsz : w.heap.size + 1 ≤ w0.heap.size) (hPl : ∀ k, P k → k < w.heap.size) (hk : Keeps (fun k => k = a ∨ k = rb) w0 w1)
    (hp : (r = none ∧ b = true ∧ MX w1 P a S) ∨
     ∃ S' ls es, r = some (S', ls, es) ∧ b = false ∧ Lst w0.heap.size w1 (.slice p1 n1 q1) ls ∧ Evs 51 w0.heap.size w1 (.slice p2 n2 q2) es ∧ MX w1 P a S') :
    TPost w P a rb S r (.returned (.agg #[.slice p1 n1 q1, .slice p2 n2 q2, .bool b])) (putO w1 w.heap.size (.slice p1 n1 q1) (.slice p2 n2 q2) b) := by
  have hp2 := putO_keeps w1 w.heap.size (.slice p1 n1 q1) (.slice p2 n2 q2) b
  have hkk : Keeps (fun k => k = a ∨ k = rb) w w1 := (hk0.mono (S' := fun k => k = a ∨ k = rb) (fun k _ h => Or.inr h)).trans hk
  rcases hp with ⟨rfl, rfl, h1⟩ | ⟨S', ls, es, rfl, rfl, h1, h2, h3⟩
  · exact ⟨p1, n1, q1, p2, n2, q2, true, rfl, ⟨hp2.os.trans hkk.os, hp2.tape.trans hkk.tape, hp2.output.trans hkk.output, Nat.le_trans hkk.size hp2.size, fun k g1 g2 => (hp2.block k (Nat.lt_of_lt_of_le g1 hkk.size) (by omega)).trans (hkk.block k g1 g2)⟩, .inl ⟨rfl, rfl, h1.keep hp2 (by omega) (fun k g1 g2 => by have := hPl k g1; omega)⟩⟩
  · exact TPost.right hal hPl hkk (h1.mono hsz) (h2.mono hsz) h3

set_option maxHeartbeats 3200000 in
set_option maxRecDepth 100000 in
theorem take_m (k : Nat) (w : World) {L : Nat} {P : Nat → Prop} {a rb : Nat} {S : MS} {g : Option Nat} {bs : List UInt8} {p : Nat} {why : Int} (h : MX w P a S) (hok : OkM L S) (hL : L ≤ 1000000) (hr : WR w rb g bs p why) (har : a < rb) (hPR : ∀ k, P k → k < rb) (hne : bs ≠ []) (hbl : bs.length ≤ 1000000) :
    Calls Try.prog 24 #[.pointer (some ⟨a, 0, none⟩), .int .i64 k, .pointer (some ⟨rb, 0, none⟩)] w fun e w' => TPost w P a rb S (takeO S k bs p why) e w' := by
  have hal := h.aLt
  have HM := hidden h
  have HPL := hidden h.lt
  have hrl := hr.lt
  have hP0 : ¬ P rb := fun e => by have := hPR rb e; omega
  unfold takeO
  by_cases hk : k = 1
  · rw [if_pos hk]
    have t1 : ((k : Int) == 1) = true := by simp; omega
    clear hk
    obtain ⟨d0, df⟩ := h.deadCell
    have HP : Hid (TPost w P a rb S (some (⟨S.cs, true⟩, [], [])) (.returned (.agg #[.slice none 0 0, .slice none 0 0, .bool false])) ((w.setCell ⟨a, 36, none⟩ (.bool true)).alloc (.cells #[.slice none 0 0, .slice none 0 0, .bool false] 65))) := hidden ⟨none, 0, 0, none, 0, 0, false, rfl, ((keepsSet w a 36 (.bool true)).mono (fun k _ e => Or.inl e)).alloc _, .inr ⟨_, [], [], rfl, rfl, Lst.nil' _ _, Evs.nil' _ _ _, (h.dies true).still ((Keeps.refl _ _).alloc _)⟩⟩
    clear h hr hne hbl hok
    go_enter Try.func24, Try.ntmps24
    go_wp2_with fail
    refine bodyPost_ret (v := .agg #[.slice none 0 0, .slice none 0 0, .bool false]) (by simp [results, Try.results24, go_sem]) rfl HP.out
  rw [if_neg hk]
  by_cases hk2 : k = 2 ∨ k = 3 ∨ k = 4
  · rw [if_pos hk2]
    clear h hr hne hbl hok
    rcases hk2 with hk2 | hk2 | hk2
    · have t1 : ((k : Int) == 1) = false := by simp; omega
      have t2 : ((k : Int) == 2) = true := by simp; omega
      clear hk
      go_enter Try.func24, Try.ntmps24
      go_wp2_with fail
      have HP : Hid (TPost w P a rb S (some (S, [], [])) (.returned (.agg #[.slice none 0 0, .slice none 0 0, .bool false])) (w.alloc (.cells #[.slice none 0 0, .slice none 0 0, .bool false] 65))) := hidden ⟨none, 0, 0, none, 0, 0, false, rfl, (Keeps.refl _ _).alloc _, .inr ⟨S, [], [], rfl, rfl, Lst.nil' _ _, Evs.nil' _ _ _, HM.out.still ((Keeps.refl _ _).alloc _)⟩⟩
      refine bodyPost_ret (v := .agg #[.slice none 0 0, .slice none 0 0, .bool false]) (by simp [results, Try.results24, go_sem]) rfl HP.out
    · have t1 : ((k : Int) == 1) = false := by simp; omega
      have t2 : ((k : Int) == 2) = false := by simp; omega
      have t3 : ((k : Int) == 3) = true := by simp; omega
      clear hk
      go_enter Try.func24, Try.ntmps24
      go_wp2_with fail
      have HP : Hid (TPost w P a rb S (some (S, [], [])) (.returned (.agg #[.slice none 0 0, .slice none 0 0, .bool false])) (w.alloc (.cells #[.slice none 0 0, .slice none 0 0, .bool false] 65))) := hidden ⟨none, 0, 0, none, 0, 0, false, rfl, (Keeps.refl _ _).alloc _, .inr ⟨S, [], [], rfl, rfl, Lst.nil' _ _, Evs.nil' _ _ _, HM.out.still ((Keeps.refl _ _).alloc _)⟩⟩
      refine bodyPost_ret (v := .agg #[.slice none 0 0, .slice none 0 0, .bool false]) (by simp [results, Try.results24, go_sem]) rfl HP.out
    · have t1 : ((k : Int) == 1) = false := by simp; omega
      have t2 : ((k : Int) == 2) = false := by simp; omega
      have t3 : ((k : Int) == 3) = false := by simp; omega
      have t4 : ((k : Int) == 4) = true := by simp; omega
      clear hk
      go_enter Try.func24, Try.ntmps24
      go_wp2_with fail
      have HP : Hid (TPost w P a rb S (some (S, [], [])) (.returned (.agg #[.slice none 0 0, .slice none 0 0, .bool false])) (w.alloc (.cells #[.slice none 0 0, .slice none 0 0, .bool false] 65))) := hidden ⟨none, 0, 0, none, 0, 0, false, rfl, (Keeps.refl _ _).alloc _, .inr ⟨S, [], [], rfl, rfl, Lst.nil' _ _, Evs.nil' _ _ _, HM.out.still ((Keeps.refl _ _).alloc _)⟩⟩
      refine bodyPost_ret (v := .agg #[.slice none 0 0, .slice none 0 0, .bool false]) (by simp [results, Try.results24, go_sem]) rfl HP.out
  rw [if_neg hk2]
  by_cases hk3 : k = 90
  · rw [if_pos hk3]
    have t1 : ((k : Int) == 1) = false := by simp; omega
    have t2 : ((k : Int) == 2) = false := by simp; omega
    have t3 : ((k : Int) == 3) = false := by simp; omega
    have t4 : ((k : Int) == 4) = false := by simp; omega
    have t90 : ((k : Int) == 90) = true := by simp; omega
    have HO := hidden (open_c (boxO w) (h.still (boxO_keeps w)) hok.four (hr.same (boxO_keeps w)) har hP0 hne)
    have HBX := hidden (boxO_at w)
    have HK0 := hidden (boxO_keeps w)
    have HSZ := hidden (boxO_size w)
    unfold boxO at HBX HK0 HSZ HO
    clear h hr hne hbl hok hk hk2 hk3
    generalize openO S bs p why = r at *
    go_enter Try.func24, Try.ntmps24
    go_wp2_with fail
    generalize w.alloc (.cells #[.slice none 0 0, .slice none 0 0, .bool false] 65) = w0 at *
    refine HO.out.mono ?_
    rintro e w1 ⟨p1, n1, q1, p2, n2, q2, b, rfl, hk1, hpost⟩
    have HBXw := hidden ((hk1.block _ (lt_of_block HBX.out) (by omega)).trans HBX.out)
    have HP := hidden (TPost.boxed hal HK0.out (Nat.le_of_eq HSZ.out.symm) HPL.out hk1 hpost)
    clear hk1 hpost HO HBX HK0 HSZ
    cases b
    · obtain ⟨b0, b1, b2, bf⟩ := cells3i HBXw.out
      have hy := putO_at (.slice p1 n1 q1) (.slice p2 n2 q2) false HBXw.out
      unfold putO at HP hy
      go_wp2_with fail
      generalize ((w1.setCell ⟨w.heap.size, 0, none⟩ (.slice p1 n1 q1)).setCell ⟨w.heap.size, 1, none⟩ (.slice p2 n2 q2)).setCell ⟨w.heap.size, 2, none⟩ (.bool false) = wz at HP hy ⊢
      obtain ⟨y0, y1, y2, yf⟩ := cells3i hy
      refine bodyPost_ret (v := .agg #[.slice p1 n1 q1, .slice p2 n2 q2, .bool false]) (by simp [results, Try.results24, go_sem, y0, y1, y2]) rfl HP.out
    · obtain ⟨b0, b1, b2, bf⟩ := cells3i HBXw.out
      have hy := putO_at (.slice p1 n1 q1) (.slice p2 n2 q2) true HBXw.out
      unfold putO at HP hy
      go_wp2_with fail
      generalize ((w1.setCell ⟨w.heap.size, 0, none⟩ (.slice p1 n1 q1)).setCell ⟨w.heap.size, 1, none⟩ (.slice p2 n2 q2)).setCell ⟨w.heap.size, 2, none⟩ (.bool true) = wz at HP hy ⊢
      obtain ⟨y0, y1, y2, yf⟩ := cells3i hy
      refine bodyPost_ret (v := .agg #[.slice p1 n1 q1, .slice p2 n2 q2, .bool true]) (by simp [results, Try.results24, go_sem, y0, y1, y2]) rfl HP.out
  rw [if_neg hk3]
  have t1 : ((k : Int) == 1) = false := by simp; omega
  have t2 : ((k : Int) == 2) = false := by simp; omega
  have t3 : ((k : Int) == 3) = false := by simp; omega
  have t4 : ((k : Int) == 4) = false := by simp; omega
  have t90 : ((k : Int) == 90) = false := by simp; omega
  have HN := hidden (u32_r (boxO w) (hr.same (boxO_keeps w)))
  have hxv := val4_lt _ (tk_len bs p why 4)
  generalize tk bs p why 4 = t at *
  generalize val t.1 = x at *
  have HBX := hidden (boxO_at w)
  have HM0 := hidden (h.still (boxO_keeps w))
  have HK0 := hidden (boxO_keeps w)
  have HSZ := hidden (boxO_size w)
  have HOK := hidden hok
  have HPR := hidden hPR
  unfold boxO at HBX HK0 HSZ HN HM0
  clear h hr hk hk2 hk3
  cases hc : chAt S x with
  | none =>
    dsimp only
    go_enter Try.func24, Try.ntmps24
    go_wp2_with fail
    generalize w.alloc (.cells #[.slice none 0 0, .slice none 0 0, .bool false] 65) = w0 at *
    refine HN.out.mono ?_
    rintro e w1 ⟨rfl, ht⟩
    have HR1 := hidden ht.state
    have HK1 := hidden ((HK0.out.mono (S' := fun k => k = rb) (fun k _ h => h.elim)).trans ht.keeps)
    have HBX1 := hidden ((ht.keeps.block _ (lt_of_block HBX.out) (by omega)).trans HBX.out)
    have HM1 := hidden (HM0.out.keep ht.keeps (by omega) (fun k hk e => hP0 (by rw [← e]; exact hk)))
    have HS1 := hidden (Nat.le_trans (Nat.le_of_eq HSZ.out.symm) ht.keeps.size)
    clear ht HN HM0 HBX HK0 HSZ
    have HFD := hidden (find_c x w1 HM1.out HOK.out.four)
    unfold findO at HFD
    rw [Int.toNat_natCast, hc, if_neg (by simp)] at HFD
    clear hc
    go_wp2_with fail
    refine HFD.out.mono ?_
    rintro e w2 ⟨rfl, rfl⟩
    have HBXw := HBX1
    have HKw := HK1
    have HP := hidden (TPost.wrong HM.out HKw.out (show a ≠ rb by omega) hP0)
    obtain ⟨b0, b1, b2, bf⟩ := cells3i HBXw.out
    have hy := putO_at (.slice none 0 0) (.slice none 0 0) true HBXw.out
    unfold putO at HP hy
    go_wp2_with fail
    generalize ((w2.setCell ⟨w.heap.size, 0, none⟩ (.slice none 0 0)).setCell ⟨w.heap.size, 1, none⟩ (.slice none 0 0)).setCell ⟨w.heap.size, 2, none⟩ (.bool true) = wz at HP hy ⊢
    obtain ⟨y0, y1, y2, yf⟩ := cells3i hy
    refine bodyPost_ret (v := .agg #[.slice none 0 0, .slice none 0 0, .bool true]) (by simp [results, Try.results24, go_sem, y0, y1, y2]) rfl HP.out
  | some c =>
    dsimp only
    have hx4 : x < 4 := by
      have h4 := hok.four
      rcases Nat.lt_or_ge x 4 with h1 | h1
      · exact h1
      · unfold chAt at hc
        rw [List.getD_eq_getElem?_getD, List.getElem?_eq_none (by omega)] at hc
        cases hc
    obtain ⟨R, hR⟩ : ∃ R, R = putC S x (chO k c x bs t.2.1 t.2.2) := ⟨_, rfl⟩
    rw [← hR]
    have HRR := hidden hR
    clear hR
    go_enter Try.func24, Try.ntmps24
    go_wp2_with fail
    generalize w.alloc (.cells #[.slice none 0 0, .slice none 0 0, .bool false] 65) = w0 at *
    refine HN.out.mono ?_
    rintro e w1 ⟨rfl, ht⟩
    have HR1 := hidden ht.state
    have HK1 := hidden ((HK0.out.mono (S' := fun k => k = rb) (fun k _ h => h.elim)).trans ht.keeps)
    have HBX1 := hidden ((ht.keeps.block _ (lt_of_block HBX.out) (by omega)).trans HBX.out)
    have HM1 := hidden (HM0.out.keep ht.keeps (by omega) (fun k hk e => hP0 (by rw [← e]; exact hk)))
    have HS1 := hidden (Nat.le_trans (Nat.le_of_eq HSZ.out.symm) ht.keeps.size)
    clear ht HN HM0 HBX HK0 HSZ
    have HFD := hidden (find_c x w1 HM1.out HOK.out.four)
    unfold findO at HFD
    rw [Int.toNat_natCast, hc, if_pos ⟨by omega, by omega, rfl⟩] at HFD
    obtain ⟨v, A, Z, hx, hvP, hput⟩ := HM1.out.cx HOK.out.four x hx4 hc
    have HTK := hidden (chTake_c k w1 hx (HOK.out.each x c hc) hL HR1.out har (fun k e => HPR.out k (hvP k e)) hne hbl)
    have HOT : Hid (∀ e w2, OutP w1 a rb x v A Z (chO k c x bs t.2.1 t.2.2) e w2 → TPost w1 P a rb S R e w2) := hidden fun e w2 h' => by rw [HRR.out]; exact TPost.ofOut HM1.out hvP hput hP0 h'
    generalize chO k c x bs t.2.1 t.2.2 = rr at *
    generalize hxo : x * 9 = o at *
    clear hc hx hvP hput hxo hne hbl HRR
    go_wp2_with fail
    refine HFD.out.mono ?_
    rintro e w2 ⟨rfl, rfl⟩
    clear HFD
    go_wp2_with fail
    refine HTK.out.mono ?_
    rintro e w3 hop
    obtain ⟨p1, n1, q1, p2, n2, q2, b, rfl, hk3, hpost⟩ := HOT.out _ _ hop
    have HBXw := hidden ((hk3.block _ (lt_of_block HBX1.out) (by omega)).trans HBX1.out)
    have HP : Hid (TPost w P a rb S R (.returned (.agg #[.slice p1 n1 q1, .slice p2 n2 q2, .bool b])) (putO w3 w.heap.size (.slice p1 n1 q1) (.slice p2 n2 q2) b)) := hidden (TPost.late hal HK1.out HS1.out HPL.out hk3 hpost)
    clear hk3 hpost hop HTK HOT HBX1 HK1 HS1 HM1 HR1
    cases b
    · obtain ⟨b0, b1, b2, bf⟩ := cells3i HBXw.out
      have hy := putO_at (.slice p1 n1 q1) (.slice p2 n2 q2) false HBXw.out
      unfold putO at HP hy
      go_wp2_with fail
      generalize ((w3.setCell ⟨w.heap.size, 0, none⟩ (.slice p1 n1 q1)).setCell ⟨w.heap.size, 1, none⟩ (.slice p2 n2 q2)).setCell ⟨w.heap.size, 2, none⟩ (.bool false) = wz at HP hy ⊢
      obtain ⟨y0, y1, y2, yf⟩ := cells3i hy
      refine bodyPost_ret (v := .agg #[.slice p1 n1 q1, .slice p2 n2 q2, .bool false]) (by simp [results, Try.results24, go_sem, y0, y1, y2]) rfl HP.out
    · obtain ⟨b0, b1, b2, bf⟩ := cells3i HBXw.out
      have hy := putO_at (.slice p1 n1 q1) (.slice p2 n2 q2) true HBXw.out
      unfold putO at HP hy
      go_wp2_with fail
      generalize ((w3.setCell ⟨w.heap.size, 0, none⟩ (.slice p1 n1 q1)).setCell ⟨w.heap.size, 1, none⟩ (.slice p2 n2 q2)).setCell ⟨w.heap.size, 2, none⟩ (.bool true) = wz at HP hy ⊢
      obtain ⟨y0, y1, y2, yf⟩ := cells3i hy
      refine bodyPost_ret (v := .agg #[.slice p1 n1 q1, .slice p2 n2 q2, .bool true]) (by simp [results, Try.results24, go_sem, y0, y1, y2]) rfl HP.out

set_option maxHeartbeats 3200000 in
set_option maxRecDepth 100000 in
theorem Do_c (v : Value) (bs : List UInt8) (w : World) {L : Nat} {P : Nat → Prop} {a : Nat} {S : MS} (h : MX w P a S) (hok : OkM L S) (hL : L ≤ 1000000) (hv : BSl w v bs) (hl : bs.length ≤ 1000000) :
    Calls Try.prog 8 #[.pointer (some ⟨a, 0, none⟩), v] w fun e w' => DPost w P a (doO S bs) e w' := by
  have HM := hidden h
  have hal := h.aLt
  have HV := hidden hv
  obtain ⟨d0, df⟩ := h.deadCell
  have HPL := hidden h.lt
  obtain ⟨va, vc, rfl⟩ := hv.len
  cases bs with
  | nil =>
    unfold doO
    clear hv h hok
    go_enter Try.func8, Try.ntmps8
    cases hd : S.dead
    · rw [hd] at d0
      go_wp2_with fail
      go_ret2
      exact ⟨_, _, rfl, Lst.nil' _ _, Evs.nil' _ _ _, HM.out, Keeps.refl _ _⟩
    · rw [hd] at d0
      go_wp2_with fail
      go_ret2
      exact ⟨_, _, rfl, Lst.nil' _ _, Evs.nil' _ _ _, HM.out, Keeps.refl _ _⟩
  | cons x r =>
    unfold doO
    dsimp only
    cases hd : S.dead
    · rw [if_neg (by simp)]
      rw [hd] at d0
      have HN := hidden (newReader_c _ (x :: r) w HV.out (by omega))
      have hxl := x.toNat_lt
      obtain ⟨k, hk⟩ : ∃ k, k = x.toNat := ⟨_, rfl⟩
      have HB : Hid (∀ w1 rb g, WR w1 rb g (x :: r) 0 0 → Calls Try.prog 25 #[.pointer (some ⟨rb, 0, none⟩)] w1 fun e w' => e = .returned (.int .i64 (k : Int)) ∧ Took rb g (x :: r) 1 0 w1 w') := hidden fun w1 rb g hr => by
        have := byte_r w1 hr
        rw [tk_head] at this
        refine this.mono ?_
        rintro e w2 ⟨rfl, ht⟩
        exact ⟨by rw [hk, val_one], ht⟩
      have hk255 : k ≤ 255 := by omega
      rw [← hk]
      clear hk hv
      have HE : Hid ((x :: r) ≠ []) := hidden (by simp)
      generalize (x :: r) = bs at *
      have HLL := hidden hl
      have hb0 : ((bs.length : Int) == 0) = false := by
        have := HE.out
        have : bs.length ≠ 0 := fun e => this (List.eq_nil_of_length_eq_zero e)
        simp; omega
      have HT : Hid (∀ w2 rb g, a < rb → (∀ k, P k → k < rb) → MX w2 P a S → WR w2 rb g bs 1 0 → Calls Try.prog 24 #[.pointer (some ⟨a, 0, none⟩), .int .i64 (k : Int), .pointer (some ⟨rb, 0, none⟩)] w2 fun e w' => TPost w2 P a rb S (takeO S k bs 1 0) e w') := hidden fun w2 rb g j1 j2 j3 j4 => take_m k w2 j3 hok hL j4 j1 j2 HE.out HLL.out
      generalize takeO S k bs 1 0 = R at *
      clear hl hxl h
      generalize bs.length = bl at *
      go_enter Try.func8, Try.ntmps8
      go_wp2_with fail
      refine HN.out.mono ?_
      rintro e w1 ⟨rb, g, rfl, hr, hrb, hg, hb⟩
      have HR1 := hidden hr
      have HM1 := hidden (HM.out.fresh hb)
      have HK1 : Hid (Keeps (fun _ => False) w w1) := hidden (Keeps.ofFresh hb)
      clear HN hr hg hb
      go_wp2_with fail
      refine (HB.out w1 rb g HR1.out).mono ?_
      rintro e w2 ⟨rfl, ht⟩
      have har : a < rb := by omega
      have hPrb : ∀ k, P k → k < rb := fun k hk => Nat.lt_of_lt_of_le (HPL.out k hk) hrb
      have HR2 := hidden ht.state
      have HM2 := hidden (HM1.out.keep ht.keeps (by omega) (fun k hk e => by have := hPrb k hk; omega))
      have HK2 : Hid (Keeps (fun _ => False) w w2) := hidden ⟨ht.keeps.os.trans HK1.out.os, ht.keeps.tape.trans HK1.out.tape, ht.keeps.output.trans HK1.out.output, Nat.le_trans HK1.out.size ht.keeps.size, fun j j1 j2 => (ht.keeps.block j (Nat.lt_of_lt_of_le j1 HK1.out.size) (by omega)).trans (HK1.out.block j j1 j2)⟩
      clear ht HR1 HM1 HK1 HB d0 df
      go_wp2_with fail
      refine (HT.out w2 rb g har hPrb HM2.out HR2.out).mono ?_
      rintro e w3 ⟨p1, n1, q1, p2, n2, q2, b, rfl, hk3, hpost⟩
      have HK3 : Hid (Keeps (fun k => k = a) w w3) := hidden ⟨hk3.os.trans HK2.out.os, hk3.tape.trans HK2.out.tape, hk3.output.trans HK2.out.output, Nat.le_trans HK2.out.size hk3.size, fun j j1 j2 => (hk3.block j (Nat.lt_of_lt_of_le j1 HK2.out.size) (fun e => by rcases e with e | e; exact j2 e; omega)).trans (HK2.out.block j j1 (fun h => h))⟩
      have hk4 : Keeps (fun _ => False) w3 (w3.alloc (.cells #[.slice p1 n1 q1, .slice p2 n2 q2, .bool b] 65)) := (Keeps.refl _ _).alloc _
      have HB4 := hidden (heap_alloc_new w3 (.cells #[.slice p1 n1 q1, .slice p2 n2 q2, .bool b] 65))
      have HK4 := hidden (HK3.out.alloc (.cells #[.slice p1 n1 q1, .slice p2 n2 q2, .bool b] 65))
      have hs2 := HK2.out.size
      rcases hpost with ⟨e1, rfl, hm3⟩ | ⟨S', ls, es, e1, rfl, hl3, he3, hm3⟩
      · have HR := hidden e1
        have HM4 := hidden (hm3.still hk4)
        obtain ⟨d0, df⟩ := HM4.out.deadCell
        have hb3l := lt_of_block HB4.out
        have hal4 := HM4.out.aLt
        clear hk3 hk4 hm3 e1 HT HM2 HR2 HK2 HK3 HM
        go_upto_region 5 with fail
        obtain ⟨b4, hb4⟩ : ∃ b4, b4 = w3.heap.size := ⟨_, rfl⟩
        rw [← hb4] at HB4 ⊢
        clear hb4 hb3l
        generalize w3.alloc (.cells #[.slice p1 n1 q1, .slice p2 n2 q2, .bool true] 65) = w4 at *
        obtain ⟨b0, b1, b2, bf⟩ := cells3i HB4.out
        go_upto_region 7 with fail
        have HM5 := hidden (HM4.out.dies true)
        have HK5 := hidden (HK4.out.trans (keepsSet w4 a 36 (.bool true)))
        clear b0 b1 b2 bf d0 df HB4 HM4 HK4
        generalize w4.setCell ⟨a, 36, none⟩ (.bool true) = w5 at *
        go_wp2_with fail
        refine (Bye_c 2 (by omega) w5).mono ?_
        rintro e w6 ⟨v6, rfl, ho6, hb6⟩
        obtain ⟨a6, p6, e6⟩ := ownsRow_shape ho6
        subst e6
        have HP : Hid (DPost w P a (R.getD (⟨S.cs, true⟩, [byeL 2], [])) (.returned (.tuple #[.slice (some ⟨w6.heap.size, 0, none⟩) 1 1, .slice none 0 0])) (w6.alloc (.cells #[.slice a6 (byeL 2).length p6] 30))) := by
          rw [HR.out]
          exact hidden ⟨_, _, rfl, Lst.one ho6 HK5.out.size hb6.size, Evs.nil' _ _ _, (HM5.out.fresh hb6).still ((Keeps.refl _ _).alloc _), (HK5.out.trans (Keeps.ofFresh hb6)).alloc _⟩
        clear ho6 hb6 HM5 HK5 HR
        generalize (byeL 2).length = n6 at *
        go_wp2_with fail
        go_ret2
        exact HP.out
      · have HR := hidden e1
        have HP : Hid (∀ w', Keeps (fun _ => False) (w3.alloc (.cells #[.slice p1 n1 q1, .slice p2 n2 q2, .bool false] 65)) w' → DPost w P a (R.getD (⟨S.cs, true⟩, [byeL 2], [])) (.returned (.tuple #[.slice p1 n1 q1, .slice p2 n2 q2])) w') := hidden fun w' hk' => by
          rw [HR.out]
          have hkk := hk4.trans hk'
          exact ⟨_, _, rfl, (hl3.keep hkk (fun _ h => h.elim)).mono hs2, (he3.keep hkk (fun _ h => h.elim)).mono hs2, hm3.still hkk, HK4.out.trans (hk'.mono (fun _ _ h => h.elim))⟩
        clear hk3 hk4 hm3 hl3 he3 e1 HT HM2 HR2 HK2 HK3 HM HR HK4
        go_upto_region 5 with fail
        obtain ⟨b4, hb4⟩ : ∃ b4, b4 = w3.heap.size := ⟨_, rfl⟩
        rw [← hb4] at HB4 ⊢
        clear hb4
        generalize w3.alloc (.cells #[.slice p1 n1 q1, .slice p2 n2 q2, .bool false] 65) = w4 at *
        obtain ⟨b0, b1, b2, bf⟩ := cells3i HB4.out
        go_wp2_with fail
        go_quiet (fail)
        go_wp2_with fail
        go_ret2
        exact HP.out _ ((Keeps.refl _ _).drewN nq)
    · rw [if_pos rfl]
      rw [hd] at d0
      clear hv h hok hd
      generalize (x :: r).length = bl at *
      go_enter Try.func8, Try.ntmps8
      go_wp2_with fail
      go_ret2
      exact ⟨_, _, rfl, Lst.nil' _ _, Evs.nil' _ _ _, HM.out, Keeps.refl _ _⟩
end Go.Proofs.Ytnimdbjbkoggdaa
