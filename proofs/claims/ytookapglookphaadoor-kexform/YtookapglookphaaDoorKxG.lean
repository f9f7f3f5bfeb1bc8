/- kex: what Init, Server, Client and Keys answer, as plain functions; Init and Keys. -/
import Derived.Test.YtookapglookphaaDoorKxE
namespace Go.Proofs.YtookapglookphaaDoor
open Go Go.RowKit

/-- Is it a payload of that kind, of so many Texts of 32 bytes? -/
def wfB (kind n : Nat) (b : List UInt8) : Bool := b.length == 1 + 36 * n && (val (b.take 1) == kind && (List.range n).all fun i => val ((b.drop (1 + 36 * i)).take 4) == 32)
theorem wfB_iff (kind n : Nat) (b : List UInt8) : wfB kind n b = true ↔ Wf kind n b := by
  unfold wfB
  rw [Bool.and_eq_true, Bool.and_eq_true, List.all_eq_true]
  constructor
  · rintro ⟨h1, h2, h3⟩
    exact ⟨by simpa using h1, by simpa using h2, fun i hi => by simpa using h3 i (List.mem_range.2 hi)⟩
  · intro h
    exact ⟨by simpa using h.len, by simpa using h.head, fun i hi => by simpa using h.sizes i (List.mem_range.1 hi)⟩
def px3 (a b c : List UInt8) : Nat → List UInt8
  | 0 => a
  | 1 => b
  | _ => c
def px5 (a b c d e : List UInt8) : Nat → List UInt8
  | 0 => a
  | 1 => b
  | 2 => c
  | 3 => d
  | _ => e
/-- The point of a private key. -/
def baseL (k : List UInt8) : List UInt8 := mulL k nineL
theorem baseL_length (k : List UInt8) : (baseL k).length = 32 := mulL_length _ _
/-- What Init answers: why not, and the payload. -/
def iniO (k : List UInt8) : Int × List UInt8 := if k.length = 32 then (0, payL 30 (fun _ => baseL k) 1) else (1, [])
/-- The hash of an exchange. -/
def hashK (s0 s1 : ByteArray) (i1 i2 p qc qs k : List UInt8) : List UInt8 := hashL s0.data.toList s1.data.toList (px5 i1 i2 (sumL p) qc qs) k
/-- The server's reply. -/
def repL (p qs h : List UInt8) : List UInt8 := payL 31 (px3 (sumL p) qs (macL p h)) 3
/-- What Server answers: why not, the reply, and the secret. -/
def srvO (k p : List UInt8) (s0 s1 : ByteArray) (i1 i2 init : List UInt8) : Int × List UInt8 × List UInt8 × List UInt8 :=
  if k.length = 32 then
    if wfB 30 1 init = true then
      if bare (mulL k (part init 0)) = [] then (22, [], [], [])
      else (0, repL p (baseL k) (hashK s0 s1 i1 i2 p (part init 0) (baseL k) (bare (mulL k (part init 0)))), bare (mulL k (part init 0)), hashK s0 s1 i1 i2 p (part init 0) (baseL k) (bare (mulL k (part init 0))))
    else (12, [], [], [])
  else (1, [], [], [])
/-- What Client answers: why not, and the secret. -/
def cliO (k p : List UInt8) (s0 s1 : ByteArray) (i1 i2 reply : List UInt8) : Int × List UInt8 × List UInt8 :=
  if k.length = 32 then
    if wfB 31 3 reply = true then
      if part reply 0 = sumL p then
        if bare (mulL k (part reply 1)) = [] then (22, [], [])
        else if part reply 2 = macL p (hashK s0 s1 i1 i2 p (baseL k) (part reply 1) (bare (mulL k (part reply 1)))) then (0, bare (mulL k (part reply 1)), hashK s0 s1 i1 i2 p (baseL k) (part reply 1) (bare (mulL k (part reply 1))))
        else (24, [], [])
      else (24, [], [])
    else (12, [], [])
  else (1, [], [])

theorem pay1_c (kind : Nat) (hk : kind ≤ 255) (v : Value) (M : List UInt8) (hM : M.length ≤ 1000) (w : World) (hv : BSl w v M) :
    Calls Tryd.prog 21 #[.int .i64 kind, .slice (some ⟨w.heap.size, 0, none⟩) 1 1] (w.alloc (.cells #[v] 22)) fun e w' => Fresh w (payL kind (fun _ => M) 1) e w' := by
  have hb : Below w.heap.size w (w.alloc (.cells #[v] 22)) := (Below.refl _ w).alloc (Nat.le_refl _) _
  refine (payload_c kind hk 1 w.heap.size (by omega) (fun _ => v) (fun _ => M) (fun _ => hM) _ (by simp) (fun i hi => ?_) (fun i hi => hv.fresh hb)).mono fun e w' h => Fresh.next hb h
  have : i = 0 := by omega
  subst this
  simp
theorem pay3_c (kind : Nat) (hk : kind ≤ 255) (v0 v1 v2 : Value) (M0 M1 M2 : List UInt8) (h0 : M0.length ≤ 1000) (h1 : M1.length ≤ 1000) (h2 : M2.length ≤ 1000) (w : World) (hv0 : BSl w v0 M0) (hv1 : BSl w v1 M1) (hv2 : BSl w v2 M2) :
    Calls Tryd.prog 21 #[.int .i64 kind, .slice (some ⟨w.heap.size, 0, none⟩) 3 3] (w.alloc (.cells #[v0, v1, v2] 22)) fun e w' => Fresh w (payL kind (px3 M0 M1 M2) 3) e w' := by
  have hb : Below w.heap.size w (w.alloc (.cells #[v0, v1, v2] 22)) := (Below.refl _ w).alloc (Nat.le_refl _) _
  refine (payload_c kind hk 3 w.heap.size (by omega) (fun i => match i with | 0 => v0 | 1 => v1 | _ => v2) (px3 M0 M1 M2) (fun i => ?_) _ (by simp) (fun i hi => ?_) (fun i hi => ?_)).mono fun e w' h => Fresh.next hb h
  · match i with
    | 0 => exact h0
    | 1 => exact h1
    | _ + 2 => exact h2
  · match i, hi with
    | 0, _ => simp
    | 1, _ => simp
    | 2, _ => simp
  · match i, hi with
    | 0, _ => exact hv0.fresh hb
    | 1, _ => exact hv1.fresh hb
    | 2, _ => exact hv2.fresh hb
/-- What is told: bytes, and why not. -/
def IniPost (w : World) (o : Int × List UInt8) (e : Ending) (w' : World) : Prop :=
  Below w.heap.size w w' ∧ ∃ v, e = .returned (.tuple #[v, .int .i64 o.1]) ∧ BSl w' v o.2 ∧ ∀ k, v.ownBlock = some k → w.heap.size ≤ k
set_option maxHeartbeats 800000 in
set_option maxRecDepth 100000 in
theorem Init_c (v1 : Value) (k : List UInt8) (w : World) (htp : Tp w) (h1 : BSl w v1 k) :
    Calls Tryd.prog 7 #[v1] w (IniPost w (iniO k)) := by
  have HM := hidden (Base_c v1 k w htp h1)
  obtain ⟨a1, c1, rfl⟩ := h1.len
  obtain ⟨o, ho⟩ : ∃ o, o = iniO k := ⟨_, rfl⟩
  rw [← ho]
  by_cases hk : k.length = 32
  · have HO : Hid (o = (0, payL 30 (fun _ => baseL k) 1)) := by show _ = _; rw [ho, iniO, if_pos hk]
    have HK := hidden hk
    rw [show mulL k nineL = baseL k from rfl] at HM
    have HL := hidden (baseL_length k)
    generalize baseL k = M at HM HO HL
    clear htp h1 ho hk
    go_enter Tryd.func7, Tryd.ntmps7
    go_wp2_with fail
    refine HM.out.mono ?_
    intro e w1 ht
    obtain ⟨g, rfl, hg, hgc⟩ := ht.y HK.out
    have HB1 := hidden ht.b
    have HV := hidden (BSl.ofBlock hgc (by rw [HL.out]; omega))
    rw [HL.out] at HV
    clear ht hg hgc HM
    go_wp2_with fail
    refine (pay1_c 30 (by omega) _ M (by rw [HL.out]; omega) w1 HV.out).mono ?_
    rintro e w3 hf
    obtain ⟨v3, rfl, ho3, hb3⟩ := Fresh.next HB1.out hf
    have HO3 := hidden ho3
    have HB3 := hidden hb3
    clear ho3 hb3 hf
    go_wp2
    go_ret2
    refine ⟨HB3.out, v3, by rw [HO.out]; rfl, by rw [HO.out]; exact BSl.ofRow HO3.out, fun k e => (HO3.out.lt k e).1⟩
  · have HO : Hid (o = (1, [])) := by show _ = _; rw [ho, iniO, if_neg hk]
    have HK := hidden hk
    clear htp h1 ho hk
    generalize mulL k nineL = M at HM
    go_enter Tryd.func7, Tryd.ntmps7
    go_wp2_with fail
    refine HM.out.mono ?_
    intro e w1 ht
    obtain rfl := ht.n HK.out
    have HB1 := hidden ht.b
    clear ht HM
    go_wp2
    go_ret2
    exact ⟨HB1.out, .slice none 0 0, by rw [HO.out]; rfl, by rw [HO.out]; exact bsl_none _, fun k e => by simp [Value.ownBlock] at e⟩

/-- Both keys. -/
def keysL (K H id : List UInt8) : List UInt8 × List UInt8 := (deriveL K H 67 id 32, deriveL K H 68 id 32)
set_option maxHeartbeats 800000 in
set_option maxRecDepth 100000 in
theorem Keys_c (vk vh vi : Value) (K H id : List UInt8) (hk : K.length ≤ 1000) (hh : H.length ≤ 1000) (hi : id.length ≤ 140737488351232) (w : World) (hr : Rw w) (h1 : BSl w vk K) (h2 : BSl w vh H) (h3 : BSl w vi id) :
    Calls Tryd.prog 18 #[.agg #[vk, vh], vi] w fun e w' => Below w.heap.size w w' ∧ ∃ v1 v2, e = .returned (.tuple #[v1, v2]) ∧ BSl w' v1 (deriveL K H 67 id 32) ∧ BSl w' v2 (deriveL K H 68 id 32) := by
  have HR := hidden hr
  have HDc : Hid (∀ (letter : UInt8) (wx : World), Below w.heap.size w wx → Calls Tryd.prog 19 #[vk, vh, .int .u8 letter.toNat, vi, .int .i64 32] wx fun e w' => DTold wx K H letter id 32 e w') := fun letter wx hb => Derive_c vk vh vi K H id letter 32 hk hh hi wx (hr.fresh hb) (h1.fresh hb) (h2.fresh hb) (h3.fresh hb)
  obtain ⟨a1, c1, rfl⟩ := h1.len
  obtain ⟨a2, c2, rfl⟩ := h2.len
  obtain ⟨a3, c3, rfl⟩ := h3.len
  clear hr h1 h2 h3 hk hh hi HR
  go_enter Tryd.func18, Tryd.ntmps18
  go_wp2_with fail
  obtain ⟨w1, hw1⟩ : ∃ x, x = w.alloc (.cells #[.slice a1 K.length c1, .slice a2 H.length c2] 30) := ⟨_, rfl⟩
  rw [← hw1]
  have HB1 : Hid (Below w.heap.size w w1) := by rw [hw1]; exact (Below.refl _ w).alloc (Nat.le_refl _) _
  have hc0 : ∀ wx, Below w1.heap.size w1 wx → wx.cell? ⟨w.heap.size, 0, none⟩ = some (.slice a1 K.length c1) ∧ wx.cell? ⟨w.heap.size, 1, none⟩ = some (.slice a2 H.length c2) := fun wx hx => ⟨cell_kept (by rw [hw1]; simp) hx, cell_kept (by rw [hw1]; simp) hx⟩
  have HC0 := hidden hc0
  clear hw1 hc0
  refine (HDc.out 67 w1 HB1.out).mono ?_
  rintro e w2 ⟨hb2, ht2⟩
  obtain ⟨v2, rfl, hv2⟩ : ∃ v2, e = .returned (.tuple #[v2, .int .i64 0]) ∧ BSl w2 v2 (deriveL K H 67 id 32) := by
    rcases ht2 with ⟨_, _, v, h1, h2⟩ | ⟨h, _⟩
    · exact ⟨v, h1, h2⟩
    · omega
  have HV2 := hidden hv2
  have HB2 := hidden (HB1.out.trans (hb2.mono HB1.out.size))
  obtain ⟨q0, q1⟩ := HC0.out w2 hb2
  have HP2 := hidden hb2
  clear ht2 hv2 hb2
  go_wp2_with fail
  refine (HDc.out 68 w2 HB2.out).mono ?_
  rintro e w3 ⟨hb3, ht3⟩
  obtain ⟨v3, rfl, hv3⟩ : ∃ v3, e = .returned (.tuple #[v3, .int .i64 0]) ∧ BSl w3 v3 (deriveL K H 68 id 32) := by
    rcases ht3 with ⟨_, _, v, h1, h2⟩ | ⟨h, _⟩
    · exact ⟨v, h1, h2⟩
    · omega
  have HV3 := hidden hv3
  have HV2' := hidden (HV2.out.fresh hb3)
  have HB3 := hidden (HB2.out.trans (hb3.mono HB2.out.size))
  clear ht3 hv3 hb3 q0 q1 HV2
  go_wp2
  go_ret2
  exact ⟨HB3.out, v2, v3, rfl, HV2'.out, HV3.out⟩
end Go.Proofs.YtookapglookphaaDoor
