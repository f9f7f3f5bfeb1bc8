/- Bytes into limbs: numberOf. -/
import Derived.Test.YtdgapijgdbhlfaaDoorCuM
import Derived.Test.YtdgapijgdbhlfaaDoorCuD
namespace Go.Proofs.YtdgapijgdbhlfaaDoor
open Go Go.RowKit

/-- What one byte more makes of the limbs. -/
def nbL (V b i : Nat) : List Nat := if 8 * i / 51 + 1 < 5 then ((L51 V).set (8 * i / 51) ((L51 V).getD (8 * i / 51) 0 + b * 2 ^ (8 * i % 51) % 2251799813685248)).set (8 * i / 51 + 1) (b * 2 ^ (8 * i % 51) / 2251799813685248) else (L51 V).set (8 * i / 51) ((L51 V).getD (8 * i / 51) 0 + b * 2 ^ (8 * i % 51) % 2251799813685248)
theorem nbx0 (V b : Nat) (hV : V < 256 ^ 0) (hb : b ≤ 255) : (L51 V).getD (8 * 0 / 51) 0 < 2 ^ (8 * 0 % 51) ∧ (8 * 0 / 51 + 1 < 5 → (L51 V).getD (8 * 0 / 51 + 1) 0 = 0) ∧ L51 ((V + b * 256 ^ 0) % 57896044618658097711785492504343953926634992332820282019728792003956564819968) = nbL V b 0 := by
  have h := nb0 V b (show V < 1 from hV) hb
  refine ⟨h.1, fun _ => h.2.1, ?_⟩
  rw [show (256 : Nat) ^ 0 = 1 from rfl, h.2.2]
  unfold nbL
  rw [if_pos (by decide)]
theorem nbx1 (V b : Nat) (hV : V < 256 ^ 1) (hb : b ≤ 255) : (L51 V).getD (8 * 1 / 51) 0 < 2 ^ (8 * 1 % 51) ∧ (8 * 1 / 51 + 1 < 5 → (L51 V).getD (8 * 1 / 51 + 1) 0 = 0) ∧ L51 ((V + b * 256 ^ 1) % 57896044618658097711785492504343953926634992332820282019728792003956564819968) = nbL V b 1 := by
  have h := nb1 V b (show V < 256 from hV) hb
  refine ⟨h.1, fun _ => h.2.1, ?_⟩
  rw [show (256 : Nat) ^ 1 = 256 from rfl, h.2.2]
  unfold nbL
  rw [if_pos (by decide)]
theorem nbx2 (V b : Nat) (hV : V < 256 ^ 2) (hb : b ≤ 255) : (L51 V).getD (8 * 2 / 51) 0 < 2 ^ (8 * 2 % 51) ∧ (8 * 2 / 51 + 1 < 5 → (L51 V).getD (8 * 2 / 51 + 1) 0 = 0) ∧ L51 ((V + b * 256 ^ 2) % 57896044618658097711785492504343953926634992332820282019728792003956564819968) = nbL V b 2 := by
  have h := nb2 V b (show V < 65536 from hV) hb
  refine ⟨h.1, fun _ => h.2.1, ?_⟩
  rw [show (256 : Nat) ^ 2 = 65536 from rfl, h.2.2]
  unfold nbL
  rw [if_pos (by decide)]
theorem nbx3 (V b : Nat) (hV : V < 256 ^ 3) (hb : b ≤ 255) : (L51 V).getD (8 * 3 / 51) 0 < 2 ^ (8 * 3 % 51) ∧ (8 * 3 / 51 + 1 < 5 → (L51 V).getD (8 * 3 / 51 + 1) 0 = 0) ∧ L51 ((V + b * 256 ^ 3) % 57896044618658097711785492504343953926634992332820282019728792003956564819968) = nbL V b 3 := by
  have h := nb3 V b (show V < 16777216 from hV) hb
  refine ⟨h.1, fun _ => h.2.1, ?_⟩
  rw [show (256 : Nat) ^ 3 = 16777216 from rfl, h.2.2]
  unfold nbL
  rw [if_pos (by decide)]
theorem nbx4 (V b : Nat) (hV : V < 256 ^ 4) (hb : b ≤ 255) : (L51 V).getD (8 * 4 / 51) 0 < 2 ^ (8 * 4 % 51) ∧ (8 * 4 / 51 + 1 < 5 → (L51 V).getD (8 * 4 / 51 + 1) 0 = 0) ∧ L51 ((V + b * 256 ^ 4) % 57896044618658097711785492504343953926634992332820282019728792003956564819968) = nbL V b 4 := by
  have h := nb4 V b (show V < 4294967296 from hV) hb
  refine ⟨h.1, fun _ => h.2.1, ?_⟩
  rw [show (256 : Nat) ^ 4 = 4294967296 from rfl, h.2.2]
  unfold nbL
  rw [if_pos (by decide)]
theorem nbx5 (V b : Nat) (hV : V < 256 ^ 5) (hb : b ≤ 255) : (L51 V).getD (8 * 5 / 51) 0 < 2 ^ (8 * 5 % 51) ∧ (8 * 5 / 51 + 1 < 5 → (L51 V).getD (8 * 5 / 51 + 1) 0 = 0) ∧ L51 ((V + b * 256 ^ 5) % 57896044618658097711785492504343953926634992332820282019728792003956564819968) = nbL V b 5 := by
  have h := nb5 V b (show V < 1099511627776 from hV) hb
  refine ⟨h.1, fun _ => h.2.1, ?_⟩
  rw [show (256 : Nat) ^ 5 = 1099511627776 from rfl, h.2.2]
  unfold nbL
  rw [if_pos (by decide)]
theorem nbx6 (V b : Nat) (hV : V < 256 ^ 6) (hb : b ≤ 255) : (L51 V).getD (8 * 6 / 51) 0 < 2 ^ (8 * 6 % 51) ∧ (8 * 6 / 51 + 1 < 5 → (L51 V).getD (8 * 6 / 51 + 1) 0 = 0) ∧ L51 ((V + b * 256 ^ 6) % 57896044618658097711785492504343953926634992332820282019728792003956564819968) = nbL V b 6 := by
  have h := nb6 V b (show V < 281474976710656 from hV) hb
  refine ⟨h.1, fun _ => h.2.1, ?_⟩
  rw [show (256 : Nat) ^ 6 = 281474976710656 from rfl, h.2.2]
  unfold nbL
  rw [if_pos (by decide)]
theorem nbx7 (V b : Nat) (hV : V < 256 ^ 7) (hb : b ≤ 255) : (L51 V).getD (8 * 7 / 51) 0 < 2 ^ (8 * 7 % 51) ∧ (8 * 7 / 51 + 1 < 5 → (L51 V).getD (8 * 7 / 51 + 1) 0 = 0) ∧ L51 ((V + b * 256 ^ 7) % 57896044618658097711785492504343953926634992332820282019728792003956564819968) = nbL V b 7 := by
  have h := nb7 V b (show V < 72057594037927936 from hV) hb
  refine ⟨h.1, fun _ => h.2.1, ?_⟩
  rw [show (256 : Nat) ^ 7 = 72057594037927936 from rfl, h.2.2]
  unfold nbL
  rw [if_pos (by decide)]
theorem nbx8 (V b : Nat) (hV : V < 256 ^ 8) (hb : b ≤ 255) : (L51 V).getD (8 * 8 / 51) 0 < 2 ^ (8 * 8 % 51) ∧ (8 * 8 / 51 + 1 < 5 → (L51 V).getD (8 * 8 / 51 + 1) 0 = 0) ∧ L51 ((V + b * 256 ^ 8) % 57896044618658097711785492504343953926634992332820282019728792003956564819968) = nbL V b 8 := by
  have h := nb8 V b (show V < 18446744073709551616 from hV) hb
  refine ⟨h.1, fun _ => h.2.1, ?_⟩
  rw [show (256 : Nat) ^ 8 = 18446744073709551616 from rfl, h.2.2]
  unfold nbL
  rw [if_pos (by decide)]
theorem nbx9 (V b : Nat) (hV : V < 256 ^ 9) (hb : b ≤ 255) : (L51 V).getD (8 * 9 / 51) 0 < 2 ^ (8 * 9 % 51) ∧ (8 * 9 / 51 + 1 < 5 → (L51 V).getD (8 * 9 / 51 + 1) 0 = 0) ∧ L51 ((V + b * 256 ^ 9) % 57896044618658097711785492504343953926634992332820282019728792003956564819968) = nbL V b 9 := by
  have h := nb9 V b (show V < 4722366482869645213696 from hV) hb
  refine ⟨h.1, fun _ => h.2.1, ?_⟩
  rw [show (256 : Nat) ^ 9 = 4722366482869645213696 from rfl, h.2.2]
  unfold nbL
  rw [if_pos (by decide)]
theorem nbx10 (V b : Nat) (hV : V < 256 ^ 10) (hb : b ≤ 255) : (L51 V).getD (8 * 10 / 51) 0 < 2 ^ (8 * 10 % 51) ∧ (8 * 10 / 51 + 1 < 5 → (L51 V).getD (8 * 10 / 51 + 1) 0 = 0) ∧ L51 ((V + b * 256 ^ 10) % 57896044618658097711785492504343953926634992332820282019728792003956564819968) = nbL V b 10 := by
  have h := nb10 V b (show V < 1208925819614629174706176 from hV) hb
  refine ⟨h.1, fun _ => h.2.1, ?_⟩
  rw [show (256 : Nat) ^ 10 = 1208925819614629174706176 from rfl, h.2.2]
  unfold nbL
  rw [if_pos (by decide)]
theorem nbx11 (V b : Nat) (hV : V < 256 ^ 11) (hb : b ≤ 255) : (L51 V).getD (8 * 11 / 51) 0 < 2 ^ (8 * 11 % 51) ∧ (8 * 11 / 51 + 1 < 5 → (L51 V).getD (8 * 11 / 51 + 1) 0 = 0) ∧ L51 ((V + b * 256 ^ 11) % 57896044618658097711785492504343953926634992332820282019728792003956564819968) = nbL V b 11 := by
  have h := nb11 V b (show V < 309485009821345068724781056 from hV) hb
  refine ⟨h.1, fun _ => h.2.1, ?_⟩
  rw [show (256 : Nat) ^ 11 = 309485009821345068724781056 from rfl, h.2.2]
  unfold nbL
  rw [if_pos (by decide)]
theorem nbx12 (V b : Nat) (hV : V < 256 ^ 12) (hb : b ≤ 255) : (L51 V).getD (8 * 12 / 51) 0 < 2 ^ (8 * 12 % 51) ∧ (8 * 12 / 51 + 1 < 5 → (L51 V).getD (8 * 12 / 51 + 1) 0 = 0) ∧ L51 ((V + b * 256 ^ 12) % 57896044618658097711785492504343953926634992332820282019728792003956564819968) = nbL V b 12 := by
  have h := nb12 V b (show V < 79228162514264337593543950336 from hV) hb
  refine ⟨h.1, fun _ => h.2.1, ?_⟩
  rw [show (256 : Nat) ^ 12 = 79228162514264337593543950336 from rfl, h.2.2]
  unfold nbL
  rw [if_pos (by decide)]
theorem nbx13 (V b : Nat) (hV : V < 256 ^ 13) (hb : b ≤ 255) : (L51 V).getD (8 * 13 / 51) 0 < 2 ^ (8 * 13 % 51) ∧ (8 * 13 / 51 + 1 < 5 → (L51 V).getD (8 * 13 / 51 + 1) 0 = 0) ∧ L51 ((V + b * 256 ^ 13) % 57896044618658097711785492504343953926634992332820282019728792003956564819968) = nbL V b 13 := by
  have h := nb13 V b (show V < 20282409603651670423947251286016 from hV) hb
  refine ⟨h.1, fun _ => h.2.1, ?_⟩
  rw [show (256 : Nat) ^ 13 = 20282409603651670423947251286016 from rfl, h.2.2]
  unfold nbL
  rw [if_pos (by decide)]
theorem nbx14 (V b : Nat) (hV : V < 256 ^ 14) (hb : b ≤ 255) : (L51 V).getD (8 * 14 / 51) 0 < 2 ^ (8 * 14 % 51) ∧ (8 * 14 / 51 + 1 < 5 → (L51 V).getD (8 * 14 / 51 + 1) 0 = 0) ∧ L51 ((V + b * 256 ^ 14) % 57896044618658097711785492504343953926634992332820282019728792003956564819968) = nbL V b 14 := by
  have h := nb14 V b (show V < 5192296858534827628530496329220096 from hV) hb
  refine ⟨h.1, fun _ => h.2.1, ?_⟩
  rw [show (256 : Nat) ^ 14 = 5192296858534827628530496329220096 from rfl, h.2.2]
  unfold nbL
  rw [if_pos (by decide)]
theorem nbx15 (V b : Nat) (hV : V < 256 ^ 15) (hb : b ≤ 255) : (L51 V).getD (8 * 15 / 51) 0 < 2 ^ (8 * 15 % 51) ∧ (8 * 15 / 51 + 1 < 5 → (L51 V).getD (8 * 15 / 51 + 1) 0 = 0) ∧ L51 ((V + b * 256 ^ 15) % 57896044618658097711785492504343953926634992332820282019728792003956564819968) = nbL V b 15 := by
  have h := nb15 V b (show V < 1329227995784915872903807060280344576 from hV) hb
  refine ⟨h.1, fun _ => h.2.1, ?_⟩
  rw [show (256 : Nat) ^ 15 = 1329227995784915872903807060280344576 from rfl, h.2.2]
  unfold nbL
  rw [if_pos (by decide)]
theorem nbx16 (V b : Nat) (hV : V < 256 ^ 16) (hb : b ≤ 255) : (L51 V).getD (8 * 16 / 51) 0 < 2 ^ (8 * 16 % 51) ∧ (8 * 16 / 51 + 1 < 5 → (L51 V).getD (8 * 16 / 51 + 1) 0 = 0) ∧ L51 ((V + b * 256 ^ 16) % 57896044618658097711785492504343953926634992332820282019728792003956564819968) = nbL V b 16 := by
  have h := nb16 V b (show V < 340282366920938463463374607431768211456 from hV) hb
  refine ⟨h.1, fun _ => h.2.1, ?_⟩
  rw [show (256 : Nat) ^ 16 = 340282366920938463463374607431768211456 from rfl, h.2.2]
  unfold nbL
  rw [if_pos (by decide)]
theorem nbx17 (V b : Nat) (hV : V < 256 ^ 17) (hb : b ≤ 255) : (L51 V).getD (8 * 17 / 51) 0 < 2 ^ (8 * 17 % 51) ∧ (8 * 17 / 51 + 1 < 5 → (L51 V).getD (8 * 17 / 51 + 1) 0 = 0) ∧ L51 ((V + b * 256 ^ 17) % 57896044618658097711785492504343953926634992332820282019728792003956564819968) = nbL V b 17 := by
  have h := nb17 V b (show V < 87112285931760246646623899502532662132736 from hV) hb
  refine ⟨h.1, fun _ => h.2.1, ?_⟩
  rw [show (256 : Nat) ^ 17 = 87112285931760246646623899502532662132736 from rfl, h.2.2]
  unfold nbL
  rw [if_pos (by decide)]
theorem nbx18 (V b : Nat) (hV : V < 256 ^ 18) (hb : b ≤ 255) : (L51 V).getD (8 * 18 / 51) 0 < 2 ^ (8 * 18 % 51) ∧ (8 * 18 / 51 + 1 < 5 → (L51 V).getD (8 * 18 / 51 + 1) 0 = 0) ∧ L51 ((V + b * 256 ^ 18) % 57896044618658097711785492504343953926634992332820282019728792003956564819968) = nbL V b 18 := by
  have h := nb18 V b (show V < 22300745198530623141535718272648361505980416 from hV) hb
  refine ⟨h.1, fun _ => h.2.1, ?_⟩
  rw [show (256 : Nat) ^ 18 = 22300745198530623141535718272648361505980416 from rfl, h.2.2]
  unfold nbL
  rw [if_pos (by decide)]
theorem nbx19 (V b : Nat) (hV : V < 256 ^ 19) (hb : b ≤ 255) : (L51 V).getD (8 * 19 / 51) 0 < 2 ^ (8 * 19 % 51) ∧ (8 * 19 / 51 + 1 < 5 → (L51 V).getD (8 * 19 / 51 + 1) 0 = 0) ∧ L51 ((V + b * 256 ^ 19) % 57896044618658097711785492504343953926634992332820282019728792003956564819968) = nbL V b 19 := by
  have h := nb19 V b (show V < 5708990770823839524233143877797980545530986496 from hV) hb
  refine ⟨h.1, fun _ => h.2.1, ?_⟩
  rw [show (256 : Nat) ^ 19 = 5708990770823839524233143877797980545530986496 from rfl, h.2.2]
  unfold nbL
  rw [if_pos (by decide)]
theorem nbx20 (V b : Nat) (hV : V < 256 ^ 20) (hb : b ≤ 255) : (L51 V).getD (8 * 20 / 51) 0 < 2 ^ (8 * 20 % 51) ∧ (8 * 20 / 51 + 1 < 5 → (L51 V).getD (8 * 20 / 51 + 1) 0 = 0) ∧ L51 ((V + b * 256 ^ 20) % 57896044618658097711785492504343953926634992332820282019728792003956564819968) = nbL V b 20 := by
  have h := nb20 V b (show V < 1461501637330902918203684832716283019655932542976 from hV) hb
  refine ⟨h.1, fun _ => h.2.1, ?_⟩
  rw [show (256 : Nat) ^ 20 = 1461501637330902918203684832716283019655932542976 from rfl, h.2.2]
  unfold nbL
  rw [if_pos (by decide)]
theorem nbx21 (V b : Nat) (hV : V < 256 ^ 21) (hb : b ≤ 255) : (L51 V).getD (8 * 21 / 51) 0 < 2 ^ (8 * 21 % 51) ∧ (8 * 21 / 51 + 1 < 5 → (L51 V).getD (8 * 21 / 51 + 1) 0 = 0) ∧ L51 ((V + b * 256 ^ 21) % 57896044618658097711785492504343953926634992332820282019728792003956564819968) = nbL V b 21 := by
  have h := nb21 V b (show V < 374144419156711147060143317175368453031918731001856 from hV) hb
  refine ⟨h.1, fun _ => h.2.1, ?_⟩
  rw [show (256 : Nat) ^ 21 = 374144419156711147060143317175368453031918731001856 from rfl, h.2.2]
  unfold nbL
  rw [if_pos (by decide)]
theorem nbx22 (V b : Nat) (hV : V < 256 ^ 22) (hb : b ≤ 255) : (L51 V).getD (8 * 22 / 51) 0 < 2 ^ (8 * 22 % 51) ∧ (8 * 22 / 51 + 1 < 5 → (L51 V).getD (8 * 22 / 51 + 1) 0 = 0) ∧ L51 ((V + b * 256 ^ 22) % 57896044618658097711785492504343953926634992332820282019728792003956564819968) = nbL V b 22 := by
  have h := nb22 V b (show V < 95780971304118053647396689196894323976171195136475136 from hV) hb
  refine ⟨h.1, fun _ => h.2.1, ?_⟩
  rw [show (256 : Nat) ^ 22 = 95780971304118053647396689196894323976171195136475136 from rfl, h.2.2]
  unfold nbL
  rw [if_pos (by decide)]
theorem nbx23 (V b : Nat) (hV : V < 256 ^ 23) (hb : b ≤ 255) : (L51 V).getD (8 * 23 / 51) 0 < 2 ^ (8 * 23 % 51) ∧ (8 * 23 / 51 + 1 < 5 → (L51 V).getD (8 * 23 / 51 + 1) 0 = 0) ∧ L51 ((V + b * 256 ^ 23) % 57896044618658097711785492504343953926634992332820282019728792003956564819968) = nbL V b 23 := by
  have h := nb23 V b (show V < 24519928653854221733733552434404946937899825954937634816 from hV) hb
  refine ⟨h.1, fun _ => h.2.1, ?_⟩
  rw [show (256 : Nat) ^ 23 = 24519928653854221733733552434404946937899825954937634816 from rfl, h.2.2]
  unfold nbL
  rw [if_pos (by decide)]
theorem nbx24 (V b : Nat) (hV : V < 256 ^ 24) (hb : b ≤ 255) : (L51 V).getD (8 * 24 / 51) 0 < 2 ^ (8 * 24 % 51) ∧ (8 * 24 / 51 + 1 < 5 → (L51 V).getD (8 * 24 / 51 + 1) 0 = 0) ∧ L51 ((V + b * 256 ^ 24) % 57896044618658097711785492504343953926634992332820282019728792003956564819968) = nbL V b 24 := by
  have h := nb24 V b (show V < 6277101735386680763835789423207666416102355444464034512896 from hV) hb
  refine ⟨h.1, fun _ => h.2.1, ?_⟩
  rw [show (256 : Nat) ^ 24 = 6277101735386680763835789423207666416102355444464034512896 from rfl, h.2.2]
  unfold nbL
  rw [if_pos (by decide)]
theorem nbx25 (V b : Nat) (hV : V < 256 ^ 25) (hb : b ≤ 255) : (L51 V).getD (8 * 25 / 51) 0 < 2 ^ (8 * 25 % 51) ∧ (8 * 25 / 51 + 1 < 5 → (L51 V).getD (8 * 25 / 51 + 1) 0 = 0) ∧ L51 ((V + b * 256 ^ 25) % 57896044618658097711785492504343953926634992332820282019728792003956564819968) = nbL V b 25 := by
  have h := nb25 V b (show V < 1606938044258990275541962092341162602522202993782792835301376 from hV) hb
  refine ⟨h.1, fun _ => h.2.1, ?_⟩
  rw [show (256 : Nat) ^ 25 = 1606938044258990275541962092341162602522202993782792835301376 from rfl, h.2.2]
  unfold nbL
  rw [if_pos (by decide)]
theorem nbx26 (V b : Nat) (hV : V < 256 ^ 26) (hb : b ≤ 255) : (L51 V).getD (8 * 26 / 51) 0 < 2 ^ (8 * 26 % 51) ∧ (8 * 26 / 51 + 1 < 5 → (L51 V).getD (8 * 26 / 51 + 1) 0 = 0) ∧ L51 ((V + b * 256 ^ 26) % 57896044618658097711785492504343953926634992332820282019728792003956564819968) = nbL V b 26 := by
  have h := nb26 V b (show V < 411376139330301510538742295639337626245683966408394965837152256 from hV) hb
  refine ⟨h.1, fun h => absurd h (by decide), ?_⟩
  rw [show (256 : Nat) ^ 26 = 411376139330301510538742295639337626245683966408394965837152256 from rfl, h.2]
  unfold nbL
  rw [if_neg (by decide)]
theorem nbx27 (V b : Nat) (hV : V < 256 ^ 27) (hb : b ≤ 255) : (L51 V).getD (8 * 27 / 51) 0 < 2 ^ (8 * 27 % 51) ∧ (8 * 27 / 51 + 1 < 5 → (L51 V).getD (8 * 27 / 51 + 1) 0 = 0) ∧ L51 ((V + b * 256 ^ 27) % 57896044618658097711785492504343953926634992332820282019728792003956564819968) = nbL V b 27 := by
  have h := nb27 V b (show V < 105312291668557186697918027683670432318895095400549111254310977536 from hV) hb
  refine ⟨h.1, fun h => absurd h (by decide), ?_⟩
  rw [show (256 : Nat) ^ 27 = 105312291668557186697918027683670432318895095400549111254310977536 from rfl, h.2]
  unfold nbL
  rw [if_neg (by decide)]
theorem nbx28 (V b : Nat) (hV : V < 256 ^ 28) (hb : b ≤ 255) : (L51 V).getD (8 * 28 / 51) 0 < 2 ^ (8 * 28 % 51) ∧ (8 * 28 / 51 + 1 < 5 → (L51 V).getD (8 * 28 / 51 + 1) 0 = 0) ∧ L51 ((V + b * 256 ^ 28) % 57896044618658097711785492504343953926634992332820282019728792003956564819968) = nbL V b 28 := by
  have h := nb28 V b (show V < 26959946667150639794667015087019630673637144422540572481103610249216 from hV) hb
  refine ⟨h.1, fun h => absurd h (by decide), ?_⟩
  rw [show (256 : Nat) ^ 28 = 26959946667150639794667015087019630673637144422540572481103610249216 from rfl, h.2]
  unfold nbL
  rw [if_neg (by decide)]
theorem nbx29 (V b : Nat) (hV : V < 256 ^ 29) (hb : b ≤ 255) : (L51 V).getD (8 * 29 / 51) 0 < 2 ^ (8 * 29 % 51) ∧ (8 * 29 / 51 + 1 < 5 → (L51 V).getD (8 * 29 / 51 + 1) 0 = 0) ∧ L51 ((V + b * 256 ^ 29) % 57896044618658097711785492504343953926634992332820282019728792003956564819968) = nbL V b 29 := by
  have h := nb29 V b (show V < 6901746346790563787434755862277025452451108972170386555162524223799296 from hV) hb
  refine ⟨h.1, fun h => absurd h (by decide), ?_⟩
  rw [show (256 : Nat) ^ 29 = 6901746346790563787434755862277025452451108972170386555162524223799296 from rfl, h.2]
  unfold nbL
  rw [if_neg (by decide)]
theorem nbx30 (V b : Nat) (hV : V < 256 ^ 30) (hb : b ≤ 255) : (L51 V).getD (8 * 30 / 51) 0 < 2 ^ (8 * 30 % 51) ∧ (8 * 30 / 51 + 1 < 5 → (L51 V).getD (8 * 30 / 51 + 1) 0 = 0) ∧ L51 ((V + b * 256 ^ 30) % 57896044618658097711785492504343953926634992332820282019728792003956564819968) = nbL V b 30 := by
  have h := nb30 V b (show V < 1766847064778384329583297500742918515827483896875618958121606201292619776 from hV) hb
  refine ⟨h.1, fun h => absurd h (by decide), ?_⟩
  rw [show (256 : Nat) ^ 30 = 1766847064778384329583297500742918515827483896875618958121606201292619776 from rfl, h.2]
  unfold nbL
  rw [if_neg (by decide)]
theorem nbx31 (V b : Nat) (hV : V < 256 ^ 31) (hb : b ≤ 255) : (L51 V).getD (8 * 31 / 51) 0 < 2 ^ (8 * 31 % 51) ∧ (8 * 31 / 51 + 1 < 5 → (L51 V).getD (8 * 31 / 51 + 1) 0 = 0) ∧ L51 ((V + b * 256 ^ 31) % 57896044618658097711785492504343953926634992332820282019728792003956564819968) = nbL V b 31 := by
  have h := nb31 V b (show V < 452312848583266388373324160190187140051835877600158453279131187530910662656 from hV) hb
  refine ⟨h.1, fun h => absurd h (by decide), ?_⟩
  rw [show (256 : Nat) ^ 31 = 452312848583266388373324160190187140051835877600158453279131187530910662656 from rfl, h.2]
  unfold nbL
  rw [if_neg (by decide)]
theorem nb_all (i V b : Nat) (hi : i < 32) (hV : V < 256 ^ i) (hb : b ≤ 255) : (L51 V).getD (8 * i / 51) 0 < 2 ^ (8 * i % 51) ∧ (8 * i / 51 + 1 < 5 → (L51 V).getD (8 * i / 51 + 1) 0 = 0) ∧ L51 ((V + b * 256 ^ i) % 57896044618658097711785492504343953926634992332820282019728792003956564819968) = nbL V b i := by
  rcases (show i = 0 ∨ i = 1 ∨ i = 2 ∨ i = 3 ∨ i = 4 ∨ i = 5 ∨ i = 6 ∨ i = 7 ∨ i = 8 ∨ i = 9 ∨ i = 10 ∨ i = 11 ∨ i = 12 ∨ i = 13 ∨ i = 14 ∨ i = 15 ∨ i = 16 ∨ i = 17 ∨ i = 18 ∨ i = 19 ∨ i = 20 ∨ i = 21 ∨ i = 22 ∨ i = 23 ∨ i = 24 ∨ i = 25 ∨ i = 26 ∨ i = 27 ∨ i = 28 ∨ i = 29 ∨ i = 30 ∨ i = 31 by omega) with rfl | rfl | rfl | rfl | rfl | rfl | rfl | rfl | rfl | rfl | rfl | rfl | rfl | rfl | rfl | rfl | rfl | rfl | rfl | rfl | rfl | rfl | rfl | rfl | rfl | rfl | rfl | rfl | rfl | rfl | rfl | rfl
  · exact nbx0 V b hV hb
  · exact nbx1 V b hV hb
  · exact nbx2 V b hV hb
  · exact nbx3 V b hV hb
  · exact nbx4 V b hV hb
  · exact nbx5 V b hV hb
  · exact nbx6 V b hV hb
  · exact nbx7 V b hV hb
  · exact nbx8 V b hV hb
  · exact nbx9 V b hV hb
  · exact nbx10 V b hV hb
  · exact nbx11 V b hV hb
  · exact nbx12 V b hV hb
  · exact nbx13 V b hV hb
  · exact nbx14 V b hV hb
  · exact nbx15 V b hV hb
  · exact nbx16 V b hV hb
  · exact nbx17 V b hV hb
  · exact nbx18 V b hV hb
  · exact nbx19 V b hV hb
  · exact nbx20 V b hV hb
  · exact nbx21 V b hV hb
  · exact nbx22 V b hV hb
  · exact nbx23 V b hV hb
  · exact nbx24 V b hV hb
  · exact nbx25 V b hV hb
  · exact nbx26 V b hV hb
  · exact nbx27 V b hV hb
  · exact nbx28 V b hV hb
  · exact nbx29 V b hV hb
  · exact nbx30 V b hV hb
  · exact nbx31 V b hV hb
end Go.Proofs.YtdgapijgdbhlfaaDoor
