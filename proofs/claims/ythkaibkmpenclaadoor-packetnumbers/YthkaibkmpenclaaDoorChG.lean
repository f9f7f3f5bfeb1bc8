/- Block: its sizes, and what it answers. -/
import Derived.Test.YthkaibkmpenclaaDoorChF
namespace Go.Proofs.YthkaibkmpenclaaDoor
open Go Go.RowKit


set_option maxHeartbeats 400000 in
theorem rightSizes_c (v1 v2 : Value) (key nonce : List UInt8) (w : World) (h1 : BSl w v1 key) (h2 : BSl w v2 nonce) :
    Calls Tryd.prog 69 #[v1, v2] w fun e w' => e = .returned (.bool (decide (key.length = 32) && decide (nonce.length = 12))) ∧ w' = w := by
  obtain ⟨a1, c1, rfl⟩ := h1.len
  obtain ⟨a2, c2, rfl⟩ := h2.len
  clear h1 h2
  by_cases hk : key.length = 32
  · by_cases hn : nonce.length = 12
    · rw [hk, hn]
      go_enter Tryd.func69, Tryd.ntmps69
      go_wp2
      go_ret
      exact ⟨rfl, rfl⟩
    · rw [hk]
      have e2 : ((nonce.length : Int) == 12) = false := by simp; omega
      have E3 : Hid (decide (nonce.length = 12) = false) := by simp [hn, Hid]
      generalize nonce.length = n at e2 E3 ⊢
      clear hn
      go_enter Tryd.func69, Tryd.ntmps69
      go_wp2
      go_ret
      exact ⟨by rw [E3.out]; rfl, rfl⟩
  · have e1 : ((key.length : Int) == 32) = false := by simp; omega
    have E3 : Hid (decide (key.length = 32) = false) := by simp [hk, Hid]
    generalize key.length = n at e1 E3 ⊢
    clear hk
    go_enter Tryd.func69, Tryd.ntmps69
    go_wp2
    go_ret
    exact ⟨by rw [E3.out]; rfl, rfl⟩

/-- The block of a key, a counter and a nonce. -/
def bk (key : List UInt8) (ctr : Int) (nonce : List UInt8) : List UInt8 := blockL (initL key ctr nonce)
theorem bk_length (key : List UInt8) (ctr : Int) (nonce : List UInt8) : (bk key ctr nonce).length = 64 := by rw [bk, blockL, outB_length]
def okSizes (key nonce : List UInt8) : Bool := decide (key.length = 32) && decide (nonce.length = 12)


/-- What Block and Xor answer: the bytes, new, and OK; or nothing and ErrArg. -/
def Told (w : World) (key nonce xs : List UInt8) (e : Ending) (w' : World) : Prop :=
  Below w.heap.size w w' ∧ ((okSizes key nonce = true ∧ ∃ v, e = .returned (.tuple #[v, .int .i64 0]) ∧ BSl w' v xs ∧ ∀ g, v.ownBlock = some g → w.heap.size ≤ g ∧ g < w'.heap.size) ∨
    (okSizes key nonce = false ∧ e = .returned (.tuple #[.slice none 0 0, .int .i64 1])))

set_option maxHeartbeats 800000 in
set_option maxRecDepth 100000 in
theorem Block_c (v1 v2 : Value) (key nonce : List UInt8) (ctr : Int) (w : World) (h1 : BSl w v1 key) (h2 : BSl w v2 nonce) :
    Calls Tryd.prog 68 #[v1, .int .u32 ctr, v2] w fun e w' => Told w key nonce (bk key ctr nonce) e w' := by
  have H1 := hidden h1
  have H2 := hidden h2
  have HR := hidden (rightSizes_c v1 v2 key nonce w h1 h2)
  by_cases hk : okSizes key nonce = true
  · have hk' : key.length = 32 ∧ nonce.length = 12 := by simpa [okSizes] using hk
    obtain ⟨b1, o1, c1, rfl, l1⟩ := h1.nonnil (by intro e; rw [e] at hk'; simp at hk')
    obtain ⟨b2, o2, c2, rfl, l2⟩ := h2.nonnil (by intro e; rw [e] at hk'; simp at hk')
    rw [hk'.1] at h1 HR H1 ⊢
    rw [hk'.2] at h2 HR H2 ⊢
    have HSt := hidden (start_c key nonce ctr b1 o1 c1 b2 o2 c2 hk'.1 hk'.2 w h1 h2 l1 l2)
    have HK := hidden hk
    clear h1 h2 hk hk'
    go_enter Tryd.func68, Tryd.ntmps68
    go_wp2_with fail
    refine HR.out.mono ?_
    rintro e w' ⟨rfl, rfl⟩
    go_wp2_with fail
    refine HSt.out.mono ?_
    rintro e w1 ⟨rfl, hb1⟩
    have HB1 := hidden hb1
    clear hb1
    go_wp2_with fail
    refine (block_c _ (initL_length key ctr nonce) _).mono ?_
    rintro e w2 ⟨rfl, hb2⟩
    rw [show blockL (initL key ctr nonce) = bk key ctr nonce from rfl]
    have HB2 := hidden (HB1.out.trans (hb2.mono HB1.out.size))
    clear hb2 HSt HR
    have hlen := bk_length key ctr nonce
    have hsz : (Tryd.prog.info? 100).map (·.size) = some (bcells (bk key ctr nonce)).toArray.size := by
      rw [show (bcells (bk key ctr nonce)).toArray.size = 64 by rw [List.size_toArray, bcells_length, hlen]]
      kernel_rfl
    have hold : 64 = (bcells (bk key ctr nonce)).toArray.size := by rw [List.size_toArray, bcells_length, hlen]
    have hone : (bcells (bk key ctr nonce)).toArray.all (·.oneCell') = true := by simp [bcells, Value.oneCell']
    have hbs : BSl (w2.alloc (.cells (bcells (bk key ctr nonce)).toArray 100)) (.slice (some ⟨w2.heap.size, 0, none⟩) 64 64) (bk key ctr nonce) := by
      have := BSl.ofBlock (heap_alloc_new w2 (.cells (bcells (bk key ctr nonce)).toArray 100)) (by rw [hlen]; omega)
      rw [hlen] at this
      exact this
    have hbel : Below w'.heap.size w' (w2.alloc (.cells (bcells (bk key ctr nonce)).toArray 100)) := HB2.out.alloc HB2.out.size _
    have HS3 := hidden hsz
    have HD3 := hidden hold
    have HO3 := hidden hone
    have HV3 := hidden hbs
    have HL3 := hidden hbel
    clear hlen hsz hold hone hbs hbel
    generalize (bcells (bk key ctr nonce)).toArray = R at HS3 HD3 HO3 HV3 HL3 ⊢
    go_wp2_with (first
      | (refine wpList_store_row rfl 100 (.tmp 8) (.tmp 17) rfl w2.heap.size R rfl rfl 100 _ (heap_alloc_new w2 _) HS3.out HD3.out HO3.out ?_))
    rw [World.setRow_alloc_new]
    go_ret2
    exact ⟨HL3.out, .inl ⟨HK.out, _, rfl, HV3.out, fun g e => by simp [Value.ownBlock] at e; subst e; exact ⟨HB2.out.size, by simp⟩⟩⟩
  · have hk' : (decide (key.length = 32) && decide (nonce.length = 12)) = false := by simpa [okSizes] using hk
    rw [hk'] at HR
    have HK : Hid (okSizes key nonce = false) := by simpa [Hid] using hk
    obtain ⟨a1, c1, rfl⟩ := h1.len
    obtain ⟨a2, c2, rfl⟩ := h2.len
    clear h1 h2 hk hk' H1 H2
    go_enter Tryd.func68, Tryd.ntmps68
    go_wp2_with fail
    refine HR.out.mono ?_
    rintro e w' ⟨rfl, rfl⟩
    go_wp2
    go_ret2
    exact ⟨Below.refl _ _, .inr ⟨HK.out, rfl⟩⟩
end Go.Proofs.YthkaibkmpenclaaDoor
