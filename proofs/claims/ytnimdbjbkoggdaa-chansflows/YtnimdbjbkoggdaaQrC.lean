/- What the document's Reader answers: Text, Rest, Mpint. -/
import Derived.Test.YtnimdbjbkoggdaaQrB
namespace Go.Proofs.Ytnimdbjbkoggdaa
open Go Go.RowKit

theorem QR.cell2 {w : World} {c : Nat} {g : Option Nat} {bs : List UInt8} {p : Nat} {why : Int} (h : QR w c g bs p why) : ∃ (q : Nat) (rf : Bool), w.cell? ⟨c, 1, none⟩ = some (.int .i64 q) ∧ w.cell? ⟨c, 2, none⟩ = some (.bool rf) ∧ (why = 0 → rf = false ∧ q = p) ∧ (why ≠ 0 → rf = true) := by
  obtain ⟨v, q0, rf, y0, z0, h1, h2, rfl, h4, h5, h6, h7⟩ := h
  obtain ⟨c0, c1, c2, c3, c4, hf⟩ := cells5 h1
  refine ⟨q0, rf, c1, c2, fun e => ?_, fun e => ?_⟩
  · rcases h7 with ⟨a, _, b⟩ | ⟨_, b, _⟩
    · exact ⟨a, b⟩
    · exact absurd e b
  · rcases h7 with ⟨_, a, _⟩ | ⟨a, _⟩
    · exact absurd a e
    · exact a

set_option maxHeartbeats 1600000 in
set_option maxRecDepth 100000 in
theorem qtext_c (most : Int) (hm0 : -4294967296 ≤ most) (hm1 : most ≤ 1000000000000) (w : World) {c : Nat} {g : Option Nat} {bs : List UInt8} {p : Nat} {why : Int} (h : QR w c g bs p why) :
    Calls Try.prog 15 #[.pointer (some ⟨c, 0, none⟩), .int .i64 most] w fun e w' => QPost c g bs (tx bs p why most) (.string ⟨(tx bs p why most).1.toArray⟩) w e w' := by
  have HN : Hid (Calls _ _ _ _ _) := qu32_c w h
  have hv := val_lt _ 4 (tk_len bs p why 4)
  have HO := @tk_ok bs p why 4
  have HX : Hid (tx bs p why most = if most.toNat < val (tk bs p why 4).1 then ([], p, 3) else tk bs (tk bs p why 4).2.1 (tk bs p why 4).2.2 (val (tk bs p why 4).1)) := rfl
  have HV0 : Hid ((tk bs p why 4).2.2 ≠ 0 → val (tk bs p why 4).1 = 0) := by
    intro hne
    rcases Nat.eq_zero_or_pos (val (tk bs p why 4).1) with h0 | h0
    · exact h0
    · exact absurd (tk_ok h0).2 hne
  generalize tx bs p why most = rr at *
  generalize tk bs p why 4 = r at *
  obtain ⟨xs, p1, y1⟩ := r
  simp only at *
  generalize val xs = x at *
  obtain ⟨q, rf, c1, c2, hq0, hq1⟩ := h.cell2
  have hx : (x : Int) ≤ 4294967295 := by omega
  clear hv
  by_cases hlong : most.toNat < x
  · have hy := HO (by omega)
    obtain ⟨rfl, rfl⟩ := hy
    obtain ⟨rfl, rfl⟩ := hq0 rfl
    have hrr : rr = ([], q, 3) := by rw [HX.out, if_pos hlong]
    subst hrr
    clear HO HX HV0 hq0 hq1
    by_cases hneg : most < 0
    · have hlt : 0 < x := by omega
      clear hlong hm0 hm1
      go_enter Try.func15, Try.ntmps15
      go_wp2_with fail
      refine HN.out.mono ?_
      rintro e w1 ⟨rfl, ht⟩
      obtain ⟨q', rf', c1', c2', hq0', _⟩ := ht.state.cell2
      obtain ⟨rfl, _⟩ := hq0' rfl
      have hst := ht.state
      have HK : Hid (Keeps (fun k => k = c) w w1) := ht.keeps
      clear ht HN c1 c2 hq0'
      go_wp2_with fail
      refine (qrefuse_c 3 (by omega) q _ hst).mono ?_
      rintro e w2 ⟨rfl, ht2⟩
      go_wp2
      go_ret
      exact ⟨rfl, ht2.state, HK.out.trans ht2.keeps⟩
    · have hlt : decide (most < (x : Int)) = true := by simp; omega
      have hm2 : 0 ≤ most := by omega
      clear hlong hm0
      go_enter Try.func15, Try.ntmps15
      go_wp2_with fail
      refine HN.out.mono ?_
      rintro e w1 ⟨rfl, ht⟩
      obtain ⟨q', rf', c1', c2', hq0', _⟩ := ht.state.cell2
      obtain ⟨rfl, _⟩ := hq0' rfl
      have hst := ht.state
      have HK : Hid (Keeps (fun k => k = c) w w1) := ht.keeps
      clear ht HN c1 c2 hq0'
      go_wp2_with fail
      refine (qrefuse_c 3 (by omega) q _ hst).mono ?_
      rintro e w2 ⟨rfl, ht2⟩
      go_wp2
      go_ret
      exact ⟨rfl, ht2.state, HK.out.trans ht2.keeps⟩
  · have hrr : rr = tk bs p1 y1 x := by rw [HX.out, if_neg hlong]
    subst hrr
    clear HO HX hq0 hq1
    have htlen := tk_len bs p1 y1 x
    have H2 : Hid (∀ w2, QR w2 c g bs p1 y1 → Calls Try.prog 32 #[.pointer (some ⟨c, 0, none⟩), .int .i64 x] w2 fun e w' => QRaw c g bs (tk bs p1 y1 x) (tk bs p1 y1 x).1 w2 e w') := by
      intro w2 h2
      have := qraw_c (x : Int) (by omega) w2 h2
      rw [Int.toNat_natCast] at this
      exact this
    generalize tk bs p1 y1 x = r2 at *
    by_cases hneg : most < 0
    · have hx0 : x = 0 := by omega
      subst hx0
      clear hlong hm0 hm1 hx htlen
      go_enter Try.func15, Try.ntmps15
      go_wp2_with fail
      refine HN.out.mono ?_
      rintro e w1 ⟨rfl, ht⟩
      obtain ⟨q', rf', c1', c2', _, _⟩ := ht.state.cell2
      have hst := ht.state
      have HK : Hid (Keeps (fun k => k = c) w w1) := ht.keeps
      clear ht HN c1 c2
      cases rf'
      all_goals
        go_wp2_with fail
        refine (H2.out _ hst).mono ?_
        rintro e w2 ⟨v2, rfl, hb2, ho2, ht2⟩
        have hcv := run_string hb2
        have HT2 : Hid (QTook c g bs r2.2.1 r2.2.2 w1 w2) := ht2
        clear hb2 ho2 ht2 c1' c2'
        go_wp2
        go_ret
        exact ⟨rfl, HT2.out.state, HK.out.trans HT2.out.keeps⟩
    · have hm2 : 0 ≤ most := by omega
      have hlt : ¬ most < (x : Int) := by omega
      clear hlong hm0 htlen
      go_enter Try.func15, Try.ntmps15
      go_wp2_with fail
      refine HN.out.mono ?_
      rintro e w1 ⟨rfl, ht⟩
      obtain ⟨q', rf', c1', c2', _, _⟩ := ht.state.cell2
      have hst := ht.state
      have HK : Hid (Keeps (fun k => k = c) w w1) := ht.keeps
      clear ht HN c1 c2
      cases rf'
      all_goals
        go_wp2_with fail
        refine (H2.out _ hst).mono ?_
        rintro e w2 ⟨v2, rfl, hb2, ho2, ht2⟩
        have hcv := run_string hb2
        have HT2 : Hid (QTook c g bs r2.2.1 r2.2.2 w1 w2) := ht2
        clear hb2 ho2 ht2 c1' c2'
        go_wp2
        go_ret
        exact ⟨rfl, HT2.out.state, HK.out.trans HT2.out.keeps⟩

end Go.Proofs.Ytnimdbjbkoggdaa
