/- The document's SHA-256: where its things lie. -/
import Derived.Test.YtllkafhooapcbaaDoorKeA
import Derived.Deep.RegionHeld3
import Derived.Deep.CutBlock
namespace Go.Proofs.YtllkafhooapcbaaDoor
open Go Go.RowKit

/-- A word turned to the right by m bits. -/
def rotI (m x : Int) : Int := rr (2 ^ (32 - m.toNat)) (2 ^ m.toNat) x
theorem turn_i (x m : Int) (hm : m = 6 ∨ m = 11 ∨ m = 25 ∨ m = 2 ∨ m = 13 ∨ m = 22 ∨ m = 17 ∨ m = 19 ∨ m = 7 ∨ m = 18) (w : World) : Calls Tryd.prog 35 #[.int .u32 x, .int .u64 m] w fun e w' => e = .returned (.int .u32 (rotI m x)) ∧ w' = w := by
  rcases hm with rfl | rfl | rfl | rfl | rfl | rfl | rfl | rfl | rfl | rfl
  · exact turn6_c x w
  · exact turn11_c x w
  · exact turn25_c x w
  · exact turn2_c x w
  · exact turn13_c x w
  · exact turn22_c x w
  · exact turn17_c x w
  · exact turn19_c x w
  · exact turn7_c x w
  · exact turn18_c x w
theorem rot_smF (x : Int) : x32 (x32 (rotI 7 x) (rotI 18 x)) (x / 8) = smF x := rfl
theorem rot_smN (x : Int) : x32 (x32 (rotI 17 x) (rotI 19 x)) (x / 1024) = smN x := rfl
theorem rot_bigE (x : Int) : x32 (x32 (rotI 6 x) (rotI 11 x)) (rotI 25 x) = bigE x := rfl
theorem rot_bigA (x : Int) : x32 (x32 (rotI 2 x) (rotI 13 x)) (rotI 22 x) = bigA x := rfl

/-- While a block is taken in: the sum so far, the block's words. -/
structure QI (wB wx : World) (HB A : Nat) (L W : List Int) : Prop where
  h : WB wx HB 54 L
  n : WB wx A 57 W
  k : Keeps (fun k => k = HB) wB wx
  ha : wB.heap.size ≤ A
  hb : HB < wB.heap.size
theorem QI.start {wB wr : World} {HB : Nat} {L : List Int} (h : WB wr HB 54 L) (k : Keeps (fun k => k = HB) wB wr) (hb : HB < wB.heap.size) : QI wB (wr.alloc (.cells (wcells zero64).toArray 57)) HB wr.heap.size L zero64 := by
  refine ⟨?_, heap_alloc_new wr _, k.alloc _, k.size, hb⟩
  unfold WB
  rw [Below.heap_alloc _ _ _ (lt_of_block h)]
  exact h
theorem QI.set {wB wx : World} {HB A : Nat} {L W : List Int} (h : QI wB wx HB A L W) (i : Nat) (x : Int) : QI wB (wx.setCell ⟨A, i, none⟩ (.int .u32 x)) HB A L (W.set i x) := by
  have ha := h.ha
  have hb := h.hb
  have hk := (Keeps.refl (fun k => k = A) wx).setCell (p := ⟨A, i, none⟩) (.inl rfl) (.int .u32 x)
  exact ⟨h.h.keep hk (by omega), h.n.set i x, h.k.setCell (.inr ha) _, ha, hb⟩
theorem QI.drew {wB wx : World} {HB A : Nat} {L W : List Int} (h : QI wB wx HB A L W) : QI wB wx.drew HB A L W := ⟨h.h, h.n, h.k.drew, h.ha, h.hb⟩
/-- With the mixed words. -/
structure QV (wB wx : World) (HB A V : Nat) (L W M : List Int) : Prop where
  q : QI wB wx HB A L W
  v : WB wx V 54 M
  hv : wB.heap.size ≤ V
  ne : V ≠ A
theorem QV.start {wB wr : World} {HB A : Nat} {L W : List Int} (h : QI wB wr HB A L W) : QV wB (wr.alloc (.cells (wcells L).toArray 54)) HB A wr.heap.size L W L := by
  have h1 := lt_of_block h.h
  have h2 := lt_of_block h.n
  refine ⟨⟨?_, ?_, h.k.alloc _, h.ha, h.hb⟩, heap_alloc_new wr _, h.k.size, by omega⟩
  · unfold WB
    rw [Below.heap_alloc _ _ _ h1]
    exact h.h
  · unfold WB
    rw [Below.heap_alloc _ _ _ h2]
    exact h.n
theorem QV.drew {wB wx : World} {HB A V : Nat} {L W M : List Int} (h : QV wB wx HB A V L W M) : QV wB wx.drew HB A V L W M := ⟨h.q.drew, h.v, h.hv, h.ne⟩
theorem QV.mixed {wB wx : World} {HB A V : Nat} {L W M M' : List Int} (h : QV wB wx HB A V L W M) : QV wB (wx.setRow V (wcells M').toArray) HB A V L W M' := by
  have ha := h.q.ha
  have hb := h.q.hb
  have hv := h.hv
  have hne := h.ne
  refine ⟨⟨?_, ?_, ?_, ha, hb⟩, setRow_heap wx V _ _ _ _ h.v, hv, hne⟩
  · unfold WB
    rw [setRow_other _ _ _ _ (by omega)]
    exact h.q.h
  · unfold WB
    rw [setRow_other _ _ _ _ (by omega)]
    exact h.q.n
  · exact h.q.k.thn (T := fun k => k = V) ⟨rfl, rfl, rfl, by simp, fun i _ hn => setRow_other wx V i _ hn⟩ (by intro i e; omega)
theorem QV.added {wB wx : World} {HB A V : Nat} {L W M : List Int} (h : QV wB wx HB A V L W M) (i : Nat) (x : Int) : QV wB (wx.setCell ⟨HB, i, none⟩ (.int .u32 x)) HB A V (L.set i x) W M := by
  have ha := h.q.ha
  have hb := h.q.hb
  have hv := h.hv
  have hk := (Keeps.refl (fun k => k = HB) wx).setCell (p := ⟨HB, i, none⟩) (.inl rfl) (.int .u32 x)
  exact ⟨⟨h.q.h.set i x, h.q.n.keep hk (by omega), h.q.k.setCell (.inl rfl) _, ha, hb⟩, h.v.keep hk (by omega), hv, h.ne⟩
theorem Own.lit0' (w : World) : Own w (w.alloc (.cells #[] 5)) (.slice (some ⟨w.heap.size, 0, none⟩) 0 0) [] := ⟨own_empty w, (Below.refl _ w).alloc (by omega) _⟩
theorem drop_at (M : List UInt8) (t k : Nat) (hk : k < 64) : ((M.drop (64 * t)).take 64).getD k 0 = M.getD (64 * t + k) 0 := by
  simp only [List.getD_eq_getElem?_getD, List.getElem?_take, List.getElem?_drop, if_pos hk]
end Go.Proofs.YtllkafhooapcbaaDoor
