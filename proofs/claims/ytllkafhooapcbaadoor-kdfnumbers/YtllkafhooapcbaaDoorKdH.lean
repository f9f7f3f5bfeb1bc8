/- SHA-256 of a text, by the program: Sum. -/
import Derived.Test.YtllkafhooapcbaaDoorKdG
namespace Go.Proofs.YtllkafhooapcbaaDoor
open Go Go.RowKit

theorem BSl.dropM {w : World} {ao : Option Addr} {cap k : Nat} {xs : List UInt8} (h : BSl w (.slice ao xs.length cap) xs) (hk : k ≤ xs.length) : BSl w (.slice (Option.map (fun x => x.add k) ao) (xs.length - k) (cap - k)) (xs.drop k) := by
  obtain ⟨ao', cap', e, h1, h2, h3, h4⟩ := h
  cases e
  refine ⟨_, _, by rw [List.length_drop], by rw [List.length_drop]; omega, by unfold maxLen at *; omega, ?_, ?_⟩
  · intro e
    cases ao with
    | none => obtain ⟨rfl, rfl⟩ := h3 rfl; simp
    | some a => simp at e
  · intro ad e hne
    cases ao with
    | none => simp at e
    | some a =>
      have hne' : xs ≠ [] := by rintro rfl; simp at hne
      obtain ⟨b, off, rfl, hc⟩ := h4 a rfl hne'
      simp only [Option.map_some, Option.some.injEq, add_lit'] at e
      refine ⟨b, off + k, e.symm, fun j u hu => ?_⟩
      have := hc (k + j) u (by simpa [bcells, List.getElem?_drop] using hu)
      rw [← Nat.add_assoc] at this
      exact this
theorem BSl.dropC {w : World} {ao : Option Addr} {cap k : Nat} {xs : List UInt8} (h : BSl w (.slice ao xs.length cap) xs) (hk : cap = k) : BSl w (.slice ao (xs.length - k) 0) (xs.drop k) := by
  obtain ⟨ao', cap', e, h1, h2, h3, h4⟩ := h
  cases e
  have hd : xs.drop k = [] := List.drop_of_length_le (by omega)
  rw [hd]
  exact ⟨ao, 0, by rw [show xs.length - k = 0 by omega]; rfl, by simp, by unfold maxLen; omega, fun _ => ⟨rfl, rfl⟩, fun ad _ hne => absurd rfl hne⟩
theorem iv_length : iv.length = 8 := rfl
set_option maxHeartbeats 1600000 in
set_option maxRecDepth 100000 in
theorem Sum_c (v : Value) (xs : List UInt8) (hl : xs.length ≤ 1000000000) (w : World) (hr : Rw w) (hv : BSl w v xs) :
    Calls Tryd.prog 9 #[v] w fun e w' => Fresh w (sumL xs) e w' := by
  have HV := hidden hv
  have HR := hidden hr
  obtain ⟨ao, cap, rfl, hc1, hc2, hc3, hc4⟩ := hv
  unfold maxLen at hc2
  have HS := hidden (sumL_split xs)
  generalize sumL xs = S at HS ⊢
  obtain ⟨k, hk⟩ : ∃ k, k = xs.length / 64 := ⟨_, rfl⟩
  have HBN := hidden (blocksN_len xs.length)
  rw [← hk] at HS
  have hk1 : (xs.length : Int) - (xs.length : Int) % 64 = ((64 * k : Nat) : Int) := by omega
  have hkl : 64 * k ≤ xs.length := by omega
  have hkm : xs.length - 64 * k < 64 := by omega
  have HK := hidden hk
  clear hr hk
  go_enter Tryd.func9, Tryd.ntmps9
  go_wp2_with fail
  refine (start_c _).mono ?_
  rintro e w1 ⟨rfl, hb1⟩
  obtain ⟨q1, q2, q3⟩ := row8 iv_length
  have Q1 := hidden q1
  have Q2 := hidden q2
  have Q3 := hidden q3
  have HB2 : Hid (Below w.heap.size w (w1.alloc (.cells (wcells iv).toArray 55))) := hb1.alloc hb1.size _
  have HW2 : Hid (WB (w1.alloc (.cells (wcells iv).toArray 55)) w1.heap.size 55 iv) := heap_alloc_new w1 _
  have hs1 := hb1.size
  clear hb1 q1 q2 q3
  generalize (wcells iv).toArray = LA at Q1 Q2 Q3 HB2 HW2 ⊢
  go_wp2_with (first
    | (refine wpList_store_row rfl 55 (.tmp 3) (.tmp 5) rfl w1.heap.size LA rfl rfl 55 _ (heap_alloc_new w1 _) Q1.out Q3.out Q2.out ?_; rw [World.setRow_alloc_new]))
  have H0 : Hid (w1.heap.size ≠ 0) := by have := HR.out.1; show _ ≠ _; omega
  have HTk : Hid ((xs.take (64 * k)).length = 64 * k) := by show _ = _; simp; omega
  have hown : xs ≠ [] → (Value.slice ao (64 * k) cap).ownBlock ≠ some w1.heap.size := by
    intro hne e
    obtain ⟨b, o, cp, e2, hbl⟩ := HV.out.nonnil hne
    cases e2
    simp [Value.ownBlock] at e
    omega
  have hvk := HV.out.fresh HB2.out
  refine (takeBlocks_c w1.heap.size k iv iv_length _ (xs.take (64 * k)) HTk.out (by omega) _ (HR.out.fresh HB2.out) H0.out HW2.out (hvk.head' hkl) (fun h => hown (by intro e; exact h (by rw [e]; simp)))).mono ?_
  rintro e w3 ⟨rfl, hw3, hk3⟩
  have HW3 := hidden hw3
  have HK3 := hidden hk3
  have HB3 : Hid (Below w.heap.size w w3) := HB2.out.trans (hk3.below (B := w.heap.size) HB2.out.size (by intro i e; omega))
  have HV3 : Hid (BSl w3 (.slice ao xs.length cap) xs) := HV.out.fresh HB3.out
  have HR3 := hidden (HR.out.fresh HB3.out)
  clear hw3 hk3 hvk hown HW2 HB2 Q1 Q2 Q3
  go_wp2_with fail
  all_goals
    refine (ending_c _ (xs.drop (64 * k)) xs.length (by rw [List.length_drop]; omega) (by rw [List.length_drop]; have := HK.out; omega) (by omega) w3 (by first | exact HV3.out.dropM hkl | (apply HV3.out.dropC; assumption))).mono ?_
    rintro e w4 ⟨v4, rfl, ho4, hb4⟩
    have HV4 := hidden (BSl.ofRow ho4)
    have HW4 := hidden (HW3.out.keep (S := fun _ => False) (Keeps.ofFresh hb4) (fun h => h))
    have HR4 := hidden (HR3.out.fresh hb4)
    have HB4 : Hid (Below w.heap.size w w4) := HB3.out.trans (hb4.mono HB3.out.size)
    have hlen : (xs.drop (64 * k) ++ padTail xs.length).length = 64 * (blocksN xs.length - k) := by
      have := HBN.out
      rw [List.length_append, List.length_drop, padTail_length]
      omega
    have hown : v4.ownBlock ≠ some w1.heap.size := fun e => by
      have h1 := ho4.lt _ e
      have h2 := lt_of_block HW3.out
      omega
    have HLen := hidden hlen
    have HOwn := hidden hown
    clear hlen hown ho4 hb4
    go_wp2_with fail
    refine (takeBlocks_c w1.heap.size (blocksN xs.length - k) (blocksTo iv (xs.take (64 * k)) k) (by rw [blocksTo_length]; rfl) _ _ HLen.out (by have := HBN.out; have := zN_le xs.length; omega) _ HR4.out H0.out HW4.out HV4.out (fun _ => HOwn.out)).mono ?_
    rintro e w5 ⟨rfl, hw5, hk5⟩
    have HW5 := hidden hw5
    have HB5 : Hid (Below w.heap.size w w5) := HB4.out.trans (hk5.below (B := w.heap.size) HB4.out.size (by intro i e; omega))
    clear hw5 hk5 HV4 HW4 HR4 HB4
    go_wp2_with fail
    refine (bytes_c w1.heap.size _ (by rw [blocksTo_length, blocksTo_length]; rfl) _ HW5.out).mono ?_
    rintro e w6 hf6
    rw [← HS.out] at hf6
    obtain ⟨v6, rfl, ho6, hb6⟩ := Fresh.next HB5.out hf6
    have HO6 := hidden ho6
    have HB6 := hidden hb6
    clear ho6 hb6 hf6
    go_wp2
    go_ret
    exact ⟨v6, rfl, HO6.out, HB6.out⟩
end Go.Proofs.YtllkafhooapcbaaDoor
