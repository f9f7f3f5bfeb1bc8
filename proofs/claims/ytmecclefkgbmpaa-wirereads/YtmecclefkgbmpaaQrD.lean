/- What the document's Reader answers: Rest, Mpint. -/
import Derived.Test.YtmecclefkgbmpaaQrC
import Derived.Deep.RegionWith
namespace Go.Proofs.Ytmecclefkgbmpaa
open Go Go.RowKit

set_option maxHeartbeats 800000 in
set_option maxRecDepth 100000 in
theorem qrest_c (w : World) {c : Nat} {g : Option Nat} {bs : List UInt8} {p : Nat} {why : Int} (h : QR w c g bs p why) :
    Calls Try.prog 53 #[.pointer (some ⟨c, 0, none⟩)] w fun e w' => QRaw c g bs (tk bs p why (lft bs p why)) (tk bs p why (lft bs p why)).1 w e w' := by
  have H := h
  obtain ⟨v, q0, rf, y0, z0, h1, h2, rfl, h4, h5, h6, h7⟩ := h
  obtain ⟨c0, c1, c2, c3, c4, hf⟩ := cells5 h1
  obtain ⟨ao, cap, rfl, _⟩ := id h2
  rcases h7 with ⟨rfl, rfl, rfl⟩ | ⟨rfl, h8, _⟩
  · have el : lft bs q0 0 = bs.length - q0 := by simp [lft]
    rw [el]
    clear el
    have hp : (q0 : Int) ≤ (bs.length : Int) := by omega
    have hwrap : IntKind.i64.wrap ((bs.length : Int) - (q0 : Int)) = (bs.length : Int) - (q0 : Int) := wrap_small _ (by omega) (by omega)
    have HH : Hid (QR w c (Value.slice ao bs.length cap).ownBlock bs q0 0) := H
    have HE : Hid (((bs.length : Int) - (q0 : Int)).toNat = bs.length - q0) := by show _ = _; omega
    clear H h2 h1 c3 c4 hf
    go_enter Try.func53, Try.ntmps53
    go_wp2_with fail
    go_region_with (go_at_call 51; refine (qraw_c _ (by omega) _ (by exact HH.out.same (Keeps.refl _ _).drew)).mono ?_; rintro e w2 ⟨v2, rfl, hb2, ho2, ht2⟩; rw [HE.out] at hb2 ht2)
    all_goals
      go_wp2
      go_ret
      exact ⟨v2, rfl, hb2, ho2, ht2.state, (Keeps.refl _ _).drew.trans ht2.keeps⟩
  · have e1 : tk bs p why (lft bs p why) = ([], p, why) := by unfold tk; rw [if_neg h8]
    rw [e1]
    go_enter Try.func53, Try.ntmps53
    go_wp2
    go_ret
    exact ⟨_, rfl, bsl_none _, (fun k e => by cases e), H, Keeps.refl _ _⟩

end Go.Proofs.Ytmecclefkgbmpaa
