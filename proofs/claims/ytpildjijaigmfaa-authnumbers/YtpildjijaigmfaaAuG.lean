/- What a Gate's service does. -/
import Derived.Test.YtpildjijaigmfaaAuE
import Derived.Test.YtpildjijaigmfaaAuF
namespace Go.Proofs.Ytpildjijaigmfaa
open Go Go.RowKit

theorem str_lit (S : ByteArray) (l : List UInt8) : (S.toList == l) = decide (S = ⟨l.toArray⟩) := by
  have h : (⟨l.toArray⟩ : ByteArray).toList = l := by simp [ByteArray.toList_mk]
  have := str_dec S ⟨l.toArray⟩
  rw [h] at this
  exact this

def servO (s : GS) (bs : List UInt8) (p : Nat) (why : Int) : GS × List (List UInt8) :=
  if wholeB bs (tx bs p why 64).2.1 (tx bs p why 64).2.2 = true then (if strB (tx bs p why 64).1 = userauthB then (⟨1, s.nm, s.tr, s.gone⟩, [accL (tx bs p why 64).1]) else endO s 7) else endO s 2

set_option maxHeartbeats 800000 in
theorem service_c (w : World) {a rb : Nat} {U : List Usr} {s : GS} {g : Option Nat} {bs : List UInt8} {p : Nat} {why : Int} (h : GW w a U s) (hr : WR w rb g bs p why) (har : a < rb) :
    Calls Try.prog 43 #[.pointer (some ⟨a, 0, none⟩), .pointer (some ⟨rb, 0, none⟩)] w fun e w' => GPost (fun k => k = a ∨ k = rb) w a U (servO s bs p why) e w' := by
  have HS := hidden (readService_c w hr)
  have HG := hidden h
  have HL := hidden (tx_len bs p why 64)
  unfold servO
  generalize tx bs p why 64 = t at HS HL ⊢
  generalize wholeB bs t.2.1 t.2.2 = d at HS ⊢
  obtain ⟨S, hS⟩ : ∃ S, S = strB t.1 := ⟨_, rfl⟩
  rw [← hS] at HS ⊢
  have HSE := hidden hS
  clear h hr hS
  cases d
  · rw [if_neg (by decide)]
    go_enter Try.func43, Try.ntmps43
    go_wp2_with fail
    refine HS.out.mono ?_
    rintro e w1 ⟨rfl, hk⟩
    have HG1 := hidden (HG.out.keep hk (fun k h1 h2 => by omega))
    have HK := hidden hk
    clear HG hk HS
    go_wp2_with fail
    refine (end_c 2 (by omega) w1 HG1.out).mono ?_
    rintro e w2 hp
    have HP := hidden (GPost.after (HK.out.mono (fun k _ h => Or.inr h)) (hp.mono (fun k _ h => Or.inl h)))
    obtain ⟨v2, rfl, _⟩ := hp
    go_wp2_with fail
    go_ret
    exact HP.out
  · rw [if_pos rfl]
    by_cases hu : S = userauthB
    · rw [if_pos hu]
      have hst : (S.toList == [115, 115, 104, 45, 117, 115, 101, 114, 97, 117, 116, 104]) = true := by rw [str_lit]; simpa [userauthB] using hu
      have HSZ : Hid (S.size ≤ 64) := hidden (by rw [HSE.out]; have := HL.out; simpa [strB, ByteArray.size] using this)
      have HSL : Hid (S.data.toList = t.1) := hidden (by rw [HSE.out]; simp [strB])
      obtain ⟨R, hR⟩ : ∃ R : GS × List (List UInt8), R = (⟨1, s.nm, s.tr, s.gone⟩, [accL t.1]) := ⟨_, rfl⟩
      rw [← hR]
      have HR := hidden hR
      clear hR hu
      go_enter Try.func43, Try.ntmps43
      go_wp2_with fail
      refine HS.out.mono ?_
      rintro e w1 ⟨rfl, hk⟩
      have HG1 := hidden (HG.out.keep hk (fun k h1 h2 => by omega))
      have HK := hidden hk
      clear HG hk HS
      obtain ⟨v, h1, h2, h3, h4, h5⟩ := HG1.out
      obtain ⟨c0, c1, c2, c3, c4, hf⟩ := cells5 h1
      have HG2 : Hid (GW (w1.setCell ⟨a, 1, none⟩ (.int .i64 1)) a U R.1) := hidden (by rw [HR.out]; exact GW.set (s' := ⟨1, s.nm, s.tr, s.gone⟩) h2 h3 (by show 1 ≤ 2; omega) h5 (set5i h1 _).1)
      have HK2 := hidden ((HK.out.mono (fun k _ h => (Or.inr h : k = a ∨ k = rb))).trans ((keepsSet w1 a 1 (.int .i64 1)).mono (fun k _ h => Or.inl h)))
      clear h1 h2 h3 h4 h5 HG1 HK
      go_wp2_with fail
      generalize w1.setCell ⟨a, 1, none⟩ (.int .i64 1) = w2 at HG2 HK2 ⊢
      refine (accepted_c S (by have := HSZ.out; omega) w2).mono ?_
      rintro e w3 ⟨v3, rfl, ho, hb⟩
      obtain ⟨ao, cp, rfl⟩ := ownsRow_shape ho
      rw [HSL.out] at ho ⊢
      have HP : Hid (GPost (fun k => k = a ∨ k = rb) w a U R (.returned (.slice (some ⟨w3.heap.size, 0, none⟩) 1 1)) (w3.alloc (.cells #[.slice ao (accL t.1).length cp] 25))) := by
        refine hidden ⟨_, rfl, ?_, ?_, ?_⟩
        · rw [HR.out]
          exact Ans.one ho HK2.out.size hb.size
        · exact (HG2.out.fresh hb).still ((Keeps.refl _ _).alloc _)
        · exact (HK2.out.trans (Keeps.ofFresh hb)).alloc _
      clear ho hb HG2 HK2 c0 c1 c2 c3 c4 hf HR
      generalize (accL t.1).length = n at *
      go_wp2_with fail
      go_ret
      exact HP.out
    · rw [if_neg hu]
      have hst : (S.toList == [115, 115, 104, 45, 117, 115, 101, 114, 97, 117, 116, 104]) = false := by rw [str_lit]; simpa [userauthB] using hu
      go_enter Try.func43, Try.ntmps43
      go_wp2_with fail
      refine HS.out.mono ?_
      rintro e w1 ⟨rfl, hk⟩
      have HG1 := hidden (HG.out.keep hk (fun k h1 h2 => by omega))
      have HK := hidden hk
      clear HG hk HS
      go_wp2_with fail
      refine (end_c 7 (by omega) w1 HG1.out).mono ?_
      rintro e w2 hp
      have HP := hidden (GPost.after (HK.out.mono (fun k _ h => Or.inr h)) (hp.mono (fun k _ h => Or.inl h)))
      obtain ⟨v2, rfl, _⟩ := hp
      go_wp2_with fail
      go_ret
      exact HP.out

/-- What a login does when a user is in. -/
def lateO (s : GS) (bs : List UInt8) (p : Nat) (why : Int) : GS × List (List UInt8) := if (tx3 bs p why).2.2 = 0 then (s, []) else endO s 2

set_option maxHeartbeats 800000 in
theorem lateLogin_c (w : World) {a rb : Nat} {U : List Usr} {s : GS} {g : Option Nat} {bs : List UInt8} {p : Nat} {why : Int} (h : GW w a U s) (hr : WR w rb g bs p why) (hne : bs ≠ []) (har : a < rb) :
    Calls Try.prog 45 #[.pointer (some ⟨a, 0, none⟩), .pointer (some ⟨rb, 0, none⟩)] w fun e w' => GPost (fun k => k = a ∨ k = rb) w a U (lateO s bs p why) e w' := by
  have HS := hidden (readLogin_c w hr hne)
  have HG := hidden h
  unfold loginV at HS
  unfold lateO
  generalize tx bs p why 64 = t1 at HS
  generalize tx2 bs p why = t2 at HS
  generalize tx3 bs p why = t3 at HS ⊢
  generalize restOf bs p why = re at HS
  clear h hr hne
  by_cases hz : t3.2.2 = 0
  · rw [if_pos hz]
    have hd : decide (t3.2.2 = 0) = true := by simpa using hz
    rw [hd] at HS
    clear hz hd
    go_enter Try.func45, Try.ntmps45
    go_wp2_with fail
    refine HS.out.mono ?_
    rintro e w1 ⟨v1, rfl, hb1, ho1, hk⟩
    obtain ⟨ao, cp, rfl⟩ := hb1.len
    have HG1 := hidden (HG.out.keep hk (fun k h1 h2 => by omega))
    have HK := hidden hk
    clear HG hk HS hb1 ho1
    generalize re.length = n at *
    go_wp2_with fail
    go_ret
    exact ⟨_, rfl, Ans.nil' _ _, HG1.out.still ((Keeps.refl _ _).alloc _), (HK.out.mono (fun k _ h => Or.inr h)).alloc _⟩
  · rw [if_neg hz]
    have hd : decide (t3.2.2 = 0) = false := by simpa using hz
    rw [hd] at HS
    clear hz hd
    go_enter Try.func45, Try.ntmps45
    go_wp2_with fail
    refine HS.out.mono ?_
    rintro e w1 ⟨v1, rfl, hb1, ho1, hk⟩
    obtain ⟨ao, cp, rfl⟩ := hb1.len
    have HG1 := hidden (HG.out.keep hk (fun k h1 h2 => by omega))
    have HK := hidden hk
    clear HG hk HS hb1 ho1
    generalize re.length = n at *
    go_wp2_with fail
    refine (end_c 2 (by omega) _ (HG1.out.still ((Keeps.refl _ _).alloc _))).mono ?_
    rintro e w2 hp
    have HP := hidden (GPost.after ((HK.out.mono (fun k _ h => Or.inr h)).alloc _) (hp.mono (fun k _ h => Or.inl h)))
    obtain ⟨v2, rfl, _⟩ := hp
    go_wp2_with fail
    go_ret
    exact HP.out

end Go.Proofs.Ytpildjijaigmfaa
