/- What walk counts: so many things and so many bytes, entry by entry. -/
import Derived.Test.YtnigfnikajejaaaTrK
namespace Go.Proofs.Ytnigfnikajejaaa
open Go Go.RowKit

/-- So many things, and so many bytes, below the entries h. -/
def cntH (l : List Th) (F : Nat) (h : HL) : Nat := (h.flatMap fun e => idsO l F e.2).length
def sumH (S : Tr) (F : Nat) (h : HL) : Nat := ((h.flatMap fun e => idsO S.ths F e.2).map fun k => (attrsOf S k).s).sum
def cntO (l : List Th) (F i : Nat) : Nat := (idsO l F i).length
def sumO (S : Tr) (F i : Nat) : Nat := ((idsO S.ths F i).map fun k => (attrsOf S k).s).sum
theorem cntH_take (l : List Th) (F : Nat) (h : HL) (k : Nat) (hk : k < h.length) : cntH l F (h.take (k + 1)) = cntH l F (h.take k) + cntO l F (h[k]).2 := by
  unfold cntH cntO
  rw [List.take_succ_eq_append_getElem hk, List.flatMap_append, List.length_append]
  simp
theorem sumH_take (S : Tr) (F : Nat) (h : HL) (k : Nat) (hk : k < h.length) : sumH S F (h.take (k + 1)) = sumH S F (h.take k) + sumO S F (h[k]).2 := by
  unfold sumH sumO
  rw [List.take_succ_eq_append_getElem hk, List.flatMap_append, List.map_append, List.sum_append]
  simp
section
variable {S : Tr} {pa : Nat → Nat} {nm : Nat → Nm}
theorem Ok.cntO_eq (o : Ok S pa nm) {x : Th} (hx : x ∈ S.ths) (F : Nat) : cntO S.ths (F + 1) x.id = 1 + cntH S.ths F x.h := by
  unfold cntO cntH
  rw [idsO_eq (findT_nat o.inc hx rfl), List.length_cons]
  omega
theorem Ok.sumO_eq (o : Ok S pa nm) {x : Th} (hx : x ∈ S.ths) (F : Nat) : sumO S (F + 1) x.id = x.d.length + sumH S F x.h := by
  unfold sumO sumH
  rw [idsO_eq (findT_nat o.inc hx rfl), List.map_cons, List.sum_cons]
  congr 1
  rw [attrsOf, findT_nat o.inc hx rfl]
  exact (o.att x hx).2.2
/-- A directory has no bytes, a file holds nothing. -/
theorem Ok.sumO_dir (o : Ok S pa nm) {x : Th} (hx : x ∈ S.ths) (hd : x.dir = true) (F : Nat) : sumO S (F + 1) x.id = sumH S F x.h := by
  rw [o.sumO_eq hx, o.file x hx hd]
  simp
theorem Ok.cntO_file (o : Ok S pa nm) {x : Th} (hx : x ∈ S.ths) (hd : x.dir = false) (F : Nat) : cntO S.ths (F + 1) x.id = 1 ∧ sumO S (F + 1) x.id = x.d.length := by
  rw [o.cntO_eq hx, o.sumO_eq hx, o.holds hx hd]
  exact ⟨rfl, rfl⟩
/-- The whole: all things, all bytes. -/
theorem Tall.whole (h : Tall S) {F : Nat} (hF : 6 ≤ F) : cntO S.ths F 0 = S.ths.length ∧ sumO S F 0 = sizeT S.ths := by
  obtain ⟨pa, nm, dp, o, d⟩ := h
  exact ⟨o.ids_count d hF, o.ids_size d hF⟩
end
end Go.Proofs.Ytnigfnikajejaaa
