/- What known tells. -/
import Derived.Test.YtpildjijaigmfaaAuJ
import Derived.Test.YtpildjijaigmfaaAuK
import Derived.Deep.RegionWith
namespace Go.Proofs.Ytpildjijaigmfaa
open Go Go.RowKit

def kU : List Usr := [(⟨#[117]⟩, ⟨#[112]⟩)]
def k1L : List UInt8 := payL 1 0 ⟨#[]⟩ ⟨#[]⟩ ⟨#[]⟩ []
def k2L : List UInt8 := payL 2 0 ⟨#[117]⟩ ⟨#[112]⟩ ⟨#[]⟩ []
def outG : GS := ⟨1, ⟨#[]⟩, 0, false⟩
theorem known1 : doO kU newG k1L = (outG, [[6, 0, 0, 0, 12, 115, 115, 104, 45, 117, 115, 101, 114, 97, 117, 116, 104]]) := by kernel_rfl
theorem known2 : doO kU outG k2L = (⟨2, ⟨#[117]⟩, 0, false⟩, [[52]]) := by kernel_rfl
theorem kUB : UB kU := ⟨by simp [kU], by intro u hu; simp [kU] at hu; subst hu; exact ⟨by decide, by decide⟩⟩
theorem usl_lit (w : World) : USl (w.alloc (.cells #[.string ⟨#[117]⟩, .string ⟨#[112]⟩] 23)) (.slice (some ⟨w.heap.size, 0, none⟩) 1 1) kU := by
  refine ⟨some ⟨w.heap.size, 0, none⟩, 1, rfl, by simp [kU], by simp [maxLen], (fun e => by cases e), fun ad e _ => ?_⟩
  cases e
  refine ⟨w.heap.size, 0, rfl, fun j x hj => ?_⟩
  have h := heap_alloc_new w (.cells #[.string ⟨#[117]⟩, .string ⟨#[112]⟩] 23)
  rw [Nat.zero_add]
  have := cell_row (cs := ucells kU) h j
  rw [this, hj]
/-- An answer of one payload. -/
theorem Ans.get {B : Nat} {w : World} {v : Value} {x : List UInt8} (h : Ans B w v [x]) : ∃ g u, v = .slice (some ⟨g, 0, none⟩) 1 1 ∧ w.heap[g]? = some (.cells #[u] 25 (0, 0)) ∧ BSl w u x ∧ B ≤ g ∧ ∀ k, u.ownBlock = some k → B ≤ k := by
  rcases h with ⟨h, _⟩ | ⟨y, g, u, e1, e2, h1, h2, h3, h4⟩
  · cases h
  · cases e1
    exact ⟨g, u, e2, h1, h2, h3, h4⟩

set_option maxHeartbeats 1600000 in
set_option maxRecDepth 100000 in
theorem known_c (w : World) : Calls Try.prog 12 #[] w fun e w' => e = .returned (.bool true) ∧ Below w.heap.size w w' := by
  have HL := hidden (usl_lit w)
  have HP1 : Hid (∀ w1 : World, Calls Try.prog 8 #[.agg #[.int .i64 1, .int .i64 0, .string ⟨#[]⟩, .string ⟨#[]⟩, .string ⟨#[]⟩, .slice none 0 0]] w1 fun e w' => PayPost w1 (.slice none 0 0) [] k1L e w') := hidden fun w1 => payload_c 1 0 ⟨#[]⟩ ⟨#[]⟩ ⟨#[]⟩ (.slice none 0 0) [] w1 (bsl_none w1)
  have HP2 : Hid (∀ w1 : World, Calls Try.prog 8 #[.agg #[.int .i64 2, .int .i64 0, .string ⟨#[117]⟩, .string ⟨#[112]⟩, .string ⟨#[]⟩, .slice none 0 0]] w1 fun e w' => PayPost w1 (.slice none 0 0) [] k2L e w') := hidden fun w1 => payload_c 2 0 ⟨#[117]⟩ ⟨#[112]⟩ ⟨#[]⟩ (.slice none 0 0) [] w1 (bsl_none w1)
  have HD1 : Hid (∀ (w1 : World) (a : Nat) (v : Value), BSl w1 v k1L → GW w1 a kU newG → Calls Try.prog 16 #[.pointer (some ⟨a, 0, none⟩), v] w1 fun e w' => GPost (fun k => k = a) w1 a kU (outG, [[6, 0, 0, 0, 12, 115, 115, 104, 45, 117, 115, 101, 114, 97, 117, 116, 104]]) e w') := hidden fun w1 a v hv hg => by
    have := do_c v k1L w1 hv (by have := payL_len 1 0 ⟨#[]⟩ ⟨#[]⟩ ⟨#[]⟩ []; exact Nat.le_trans this (by omega)) kUB hg alive_new
    rw [known1] at this
    exact this
  have HD2 : Hid (∀ (w1 : World) (a : Nat) (v : Value), BSl w1 v k2L → GW w1 a kU outG → Calls Try.prog 16 #[.pointer (some ⟨a, 0, none⟩), v] w1 fun e w' => GPost (fun k => k = a) w1 a kU (⟨2, ⟨#[117]⟩, 0, false⟩, [[52]]) e w') := hidden fun w1 a v hv hg => by
    have := do_c v k2L w1 hv (by have := payL_len 2 0 ⟨#[117]⟩ ⟨#[112]⟩ ⟨#[]⟩ []; exact Nat.le_trans this (by omega)) kUB hg (fun _ => by show 0 ≤ 4; omega)
    rw [known2] at this
    exact this
  go_enter Try.func12, Try.ntmps12
  go_wp2_with fail
  refine (New_c _ kU _ HL.out kUB).mono ?_
  rintro e w1 ⟨a, rfl, hg, ha, hb⟩
  have ha' : w.heap.size ≤ a := by simp at ha; omega
  have HG1 := hidden hg
  have HB1 : Hid (Below w.heap.size w w1) := hidden (((Below.refl _ w).alloc (Nat.le_refl _) _).trans (hb.mono (by simp)))
  clear hg ha hb HL
  go_wp2_with fail
  refine (HP1.out w1).mono ?_
  rintro e w2 ⟨v2, rfl, hb2, _, hbl2⟩
  have HG2 := hidden (HG1.out.fresh hbl2)
  have HV2 := hidden hb2
  have HB2 := hidden (HB1.out.trans (hbl2.mono HB1.out.size))
  clear hb2 hbl2 HG1 HB1 HP1
  go_wp2_with fail
  refine (HD1.out w2 a v2 HV2.out HG2.out).mono ?_
  rintro e w3 ⟨v3, rfl, ha3, hg3, hk3⟩
  have HA3 := hidden ha3
  have HG3 := hidden hg3
  have HB3 : Hid (Below w.heap.size w w3) := hidden (HB2.out.trans (Keeps.below hk3 HB2.out.size (fun k e => by rw [e]; exact ha')))
  have hlt3 := hidden HG2.out.lt
  clear ha3 hg3 HG2 HV2 HD1
  obtain ⟨g3, u3, rfl, _⟩ := HA3.out.get
  go_wp2_with fail
  refine (HP2.out w3).mono ?_
  rintro e w4 ⟨v4, rfl, hb4, _, hbl4⟩
  have HG4 := hidden (HG3.out.fresh hbl4)
  have HV4 := hidden hb4
  have HB4 := hidden (HB3.out.trans (hbl4.mono HB3.out.size))
  have HA4 := hidden (HA3.out.keep (Keeps.ofFresh (S := fun _ => False) hbl4) (fun _ h => h.elim))
  clear hb4 hbl4 HG3 HB3 HP2 HA3
  go_wp2_with fail
  refine (HD2.out w4 a v4 HV4.out HG4.out).mono ?_
  rintro e w5 ⟨v5, rfl, ha5, hg5, hk5⟩
  have HA5 := hidden ha5
  have HG5 := hidden hg5
  have HB5 : Hid (Below w.heap.size w w5) := hidden (HB4.out.trans (Keeps.below hk5 HB4.out.size (fun k e => by rw [e]; exact ha')))
  have HA6 := hidden (HA4.out.keep hk5 (fun k e => by rw [e]; exact hlt3.out))
  clear ha5 hg5 HG4 HV4 HD2 HA4 hk5 hk3
  obtain ⟨g5, u5, rfl, _⟩ := HA5.out.get
  go_wp2_with fail
  refine (User_c w5 HG5.out).mono ?_
  rintro e w6 ⟨rfl, hk6⟩
  dsimp only
  rw [show (((2 : Nat) : Int) == 2) = true from rfl]
  have HG6 := hidden (HG5.out.still hk6)
  have HB6 : Hid (Below w.heap.size w w6) := hidden (HB5.out.trans (Keeps.below hk6 HB5.out.size (fun _ h => h.elim)))
  obtain ⟨g7, u7, e7, h71, h72, _⟩ := (HA6.out.keep hk6 (fun _ h => h.elim)).get
  cases e7
  obtain ⟨g8, u8, e8, h81, h82, _⟩ := (HA5.out.keep hk6 (fun _ h => h.elim)).get
  cases e8
  have k3 := cell_of_one h71
  have k5 := cell_of_one h81
  obtain ⟨b7, o7, c7, rfl, _⟩ := h72.cons
  obtain ⟨b8, o8, c8, rfl, _⟩ := h82.cons
  have q3 : (convert 25 9 (.slice (some ⟨b7, o7, none⟩) 17 c7)).run Try.prog w6 = .ok (.string ⟨#[6, 0, 0, 0, 12, 115, 115, 104, 45, 117, 115, 101, 114, 97, 117, 116, 104]⟩) w6 := run_string h72
  have q5 : (convert 25 9 (.slice (some ⟨b8, o8, none⟩) 1 c8)).run Try.prog w6 = .ok (.string ⟨#[52]⟩) w6 := run_string h82
  have HDD := hidden (Dead_c w6 HG6.out)
  dsimp only at HDD
  clear HA5 HA6 HG5 HB5 hk6 h71 h72 h81 h82 HB2 HB4 HG6 hlt3
  go_wp2_with (go_at_call 19; refine HDD.out.mono ?_; rintro e w7 ⟨rfl, rfl⟩)
  go_ret
  exact ⟨rfl, HB6.out⟩

end Go.Proofs.Ytpildjijaigmfaa
