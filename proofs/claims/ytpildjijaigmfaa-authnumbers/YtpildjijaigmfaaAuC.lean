/- The payloads that a Gate answers, and Bye, accepted, failure and success. -/
import Derived.Test.YtpildjijaigmfaaAuA
namespace Go.Proofs.Ytpildjijaigmfaa
open Go Go.RowKit

def passB : ByteArray := ⟨#[112, 97, 115, 115, 119, 111, 114, 100]⟩
def userauthB : ByteArray := ⟨#[115, 115, 104, 45, 117, 115, 101, 114, 97, 117, 116, 104]⟩
def connB : ByteArray := ⟨#[115, 115, 104, 45, 99, 111, 110, 110, 101, 99, 116, 105, 111, 110]⟩
def byeL (r : Nat) : List UInt8 := 1 :: (be 4 r ++ (textBytes [] ++ textBytes []))
def failL : List UInt8 := 51 :: (textBytes (joined [passB]) ++ [0])
def accL (s : List UInt8) : List UInt8 := 6 :: textBytes s
theorem byeL_len (r : Nat) : (byeL r).length = 13 := by simp [byeL, textBytes, be_length]

/-- A call answers bytes xs of its own, and nothing that was there has turned. -/
def Gave (w : World) (xs : List UInt8) (e : Ending) (w' : World) : Prop := ∃ v, e = .returned v ∧ w'.ownsRow w.heap.size 5 1 v xs.length (bcells xs) ∧ Below w.heap.size w w'

theorem wrote_b {a base : Nat} {g g' : Option Nat} {w0 w w' : World} {bs : List UInt8} (hb : Below base w0 w) (h : Wrote a g g' w w') (hs : WS w base a g bs) : Below base w0 w' := hb.trans (h.below hs)
theorem gave_of {w w1 w2 : World} {bs xs : List UInt8} {v : Value} (hb : Below w.heap.size w w1) (ho : w2.ownsRow w1.heap.size 5 1 v bs.length (bcells bs)) (hb2 : Below w1.heap.size w1 w2) (e : bs = xs) : Gave w xs (.returned v) w2 := by
  subst e
  refine ⟨v, rfl, ⟨ho.1, ?_⟩, hb.trans (hb2.mono hb.size)⟩
  rcases ho.2 with h | ⟨g, cap, cur, h1, h2, h3⟩
  · exact .inl h
  · exact .inr ⟨g, cap, cur, h1, Nat.le_trans hb.size h2, h3⟩

set_option maxHeartbeats 800000 in
set_option maxRecDepth 100000 in
theorem Bye_c (r : Nat) (hr : r ≤ 4294967295) (w : World) : Calls Try.prog 10 #[.int .u32 r] w fun e w' => Gave w (byeL r) e w' := by
  have he : ([] ++ [byteOf 1] ++ be 4 r ++ textBytes [] ++ textBytes [] : List UInt8) = byeL r := by rw [show byteOf 1 = 1 from rfl]; simp [byeL]
  have HE := hidden he
  clear he
  generalize byeL r = R at HE ⊢
  go_enter Try.func10, Try.ntmps10
  go_wp2_with fail
  refine (newWriter_c _).mono ?_
  rintro e w1 ⟨rfl, rfl⟩
  have h1 := hidden (WS.new w (Nat.le_refl _))
  have b1 := hidden ((Below.refl w.heap.size w).alloc (Nat.le_refl _) (.cells #[.slice none 0 0] 73))
  generalize w.alloc (.cells #[.slice none 0 0] 73) = w1 at h1 b1 ⊢
  go_wp2_with fail
  refine (byte_c 1 w1 h1.out (by simp)).mono ?_
  rintro e w2 ⟨rfl, g2, h2, t2⟩
  have b2 := hidden (wrote_b b1.out t2 h1.out)
  have h2 := hidden h2
  clear h1 b1 t2
  go_wp2_with fail
  refine (u32_c r (by omega) (by omega) w2 h2.out (by simp)).mono ?_
  rintro e w3 ⟨rfl, g3, h3, t3⟩
  have b3 := hidden (wrote_b b2.out t3 h2.out)
  rw [Int.toNat_natCast] at h3
  have h3 := hidden h3
  clear h2 b2 t3
  go_wp2_with fail
  refine (text_c ⟨#[]⟩ (by decide) w3 h3.out (by simp [be_length]; decide)).mono ?_
  rintro e w4 ⟨rfl, g4, h4, t4⟩
  have b4 := hidden (wrote_b b3.out t4 h3.out)
  have h4 := hidden h4
  clear h3 b3 t4
  go_wp2_with fail
  refine (text_c ⟨#[]⟩ (by decide) w4 h4.out (by simp [be_length, textBytes]; decide)).mono ?_
  rintro e w5 ⟨rfl, g5, h5, t5⟩
  have b5 := hidden (wrote_b b4.out t5 h4.out)
  have h5 := hidden h5
  clear h4 b4 t5
  go_wp2_with fail
  refine (done_c w5 h5.out (by simp [be_length, textBytes])).mono ?_
  rintro e w6 ⟨v6, rfl, h6, b6⟩
  have G := hidden (gave_of b5.out h6 b6 HE.out)
  clear h5 b5 h6 b6 HE
  go_wp2_with fail
  go_ret
  exact G.out

set_option maxHeartbeats 800000 in
set_option maxRecDepth 100000 in
theorem accepted_c (s : ByteArray) (hs : s.size ≤ 1000000) (w : World) : Calls Try.prog 56 #[.string s] w fun e w' => Gave w (accL s.data.toList) e w' := by
  have he : ([] ++ [byteOf 6] ++ textBytes s.data.toList : List UInt8) = accL s.data.toList := by rw [show byteOf 6 = 6 from rfl]; simp [accL]
  have HL := hidden (show (textBytes s.data.toList).length ≤ 1000004 by simp only [textBytes, List.length_append, be_length, Array.length_toList]; have : s.data.size = s.size := rfl; omega)
  have HE := hidden he
  clear he
  generalize accL s.data.toList = R at HE ⊢
  go_enter Try.func56, Try.ntmps56
  go_wp2_with fail
  refine (newWriter_c _).mono ?_
  rintro e w1 ⟨rfl, rfl⟩
  have h1 := hidden (WS.new w (Nat.le_refl _))
  have b1 := hidden ((Below.refl w.heap.size w).alloc (Nat.le_refl _) (.cells #[.slice none 0 0] 73))
  generalize w.alloc (.cells #[.slice none 0 0] 73) = w1 at h1 b1 ⊢
  go_wp2_with fail
  refine (byte_c 6 w1 h1.out (by simp)).mono ?_
  rintro e w2 ⟨rfl, g2, h2, t2⟩
  have b2 := hidden (wrote_b b1.out t2 h1.out)
  have h2 := hidden h2
  clear h1 b1 t2
  go_wp2_with fail
  refine (text_c s (by omega) w2 h2.out (by simp; omega)).mono ?_
  rintro e w4 ⟨rfl, g4, h4, t4⟩
  have b4 := hidden (wrote_b b2.out t4 h2.out)
  have h4 := hidden h4
  clear h2 b2 t4
  go_wp2_with fail
  refine (done_c w4 h4.out (by have := HL.out; simp; omega)).mono ?_
  rintro e w6 ⟨v6, rfl, h6, b6⟩
  have G := hidden (gave_of b4.out h6 b6 HE.out)
  clear h4 b4 h6 b6 HE
  go_wp2_with fail
  go_ret
  exact G.out

set_option maxHeartbeats 800000 in
set_option maxRecDepth 100000 in
theorem success_c (w : World) : Calls Try.prog 61 #[] w fun e w' => Gave w [52] e w' := by
  have HE := hidden (show ([] ++ [byteOf 52] : List UInt8) = [52] from rfl)
  generalize ([52] : List UInt8) = R at HE ⊢
  go_enter Try.func61, Try.ntmps61
  go_wp2_with fail
  refine (newWriter_c _).mono ?_
  rintro e w1 ⟨rfl, rfl⟩
  have h1 := hidden (WS.new w (Nat.le_refl _))
  have b1 := hidden ((Below.refl w.heap.size w).alloc (Nat.le_refl _) (.cells #[.slice none 0 0] 73))
  generalize w.alloc (.cells #[.slice none 0 0] 73) = w1 at h1 b1 ⊢
  go_wp2_with fail
  refine (byte_c 52 w1 h1.out (by simp)).mono ?_
  rintro e w2 ⟨rfl, g2, h2, t2⟩
  have b2 := hidden (wrote_b b1.out t2 h1.out)
  have h2 := hidden h2
  clear h1 b1 t2
  go_wp2_with fail
  refine (done_c w2 h2.out (by simp)).mono ?_
  rintro e w6 ⟨v6, rfl, h6, b6⟩
  have G := hidden (gave_of b2.out h6 b6 HE.out)
  clear h2 b2 h6 b6 HE
  go_wp2_with fail
  go_ret
  exact G.out

theorem joined_pass : (joined [passB]).length = 8 := by decide +kernel

set_option maxHeartbeats 800000 in
set_option maxRecDepth 100000 in
theorem failure_c (w : World) : Calls Try.prog 68 #[] w fun e w' => Gave w failL e w' := by
  have HE := hidden (show ([] ++ [byteOf 51] ++ textBytes (joined [passB]) ++ [bit false] : List UInt8) = failL by rw [show byteOf 51 = 51 from rfl]; simp [failL, bit])
  have HL := hidden (show (textBytes (joined [passB])).length = 12 by simp only [textBytes, List.length_append, be_length, joined_pass])
  generalize failL = R at HE ⊢
  go_enter Try.func68, Try.ntmps68
  go_wp2_with fail
  refine (newWriter_c _).mono ?_
  rintro e w1 ⟨rfl, rfl⟩
  have h1 := hidden (WS.new w (Nat.le_refl _))
  have b1 := hidden ((Below.refl w.heap.size w).alloc (Nat.le_refl _) (.cells #[.slice none 0 0] 73))
  generalize w.alloc (.cells #[.slice none 0 0] 73) = w1 at h1 b1 ⊢
  go_wp2_with fail
  refine (byte_c 51 w1 h1.out (by simp)).mono ?_
  rintro e w2 ⟨rfl, g2, h2, t2⟩
  have b2 := hidden (wrote_b b1.out t2 h1.out)
  have h2 := hidden h2
  clear h1 b1 t2
  go_wp2_with fail
  have h2' := hidden (h2.out.alloc (.cells (([passB] : List ByteArray).map Value.string).toArray 9))
  have b2' := hidden (b2.out.alloc b2.out.size (.cells (([passB] : List ByteArray).map Value.string).toArray 9))
  have hs2 := hidden (ssl_lit w2 [passB] (by simp))
  refine (names_c _ [passB] _ hs2.out (by rw [joined_pass]; decide) (by simp) h2'.out (by rw [joined_pass]; simp)).mono ?_
  rintro e w4 ⟨rfl, g4, h4, t4⟩
  have b4 := hidden (wrote_b b2'.out t4 h2'.out)
  have h4 := hidden h4
  clear h2 b2 t4 h2' b2' hs2
  go_wp2_with fail
  refine (bool_c false w4 h4.out (by have := HL.out; simp; omega)).mono ?_
  rintro e w5 ⟨rfl, g5, h5, t5⟩
  have b5 := hidden (wrote_b b4.out t5 h4.out)
  have h5 := hidden h5
  clear h4 b4 t5
  go_wp2_with fail
  refine (done_c w5 h5.out (by have := HL.out; simp; omega)).mono ?_
  rintro e w6 ⟨v6, rfl, h6, b6⟩
  have G := hidden (gave_of b5.out h6 b6 HE.out)
  clear h5 b5 h6 b6 HE
  go_wp2_with fail
  go_ret
  exact G.out

end Go.Proofs.Ytpildjijaigmfaa
