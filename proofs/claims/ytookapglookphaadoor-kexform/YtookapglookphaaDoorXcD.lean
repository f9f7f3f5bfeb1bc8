/- curve: numbers to bytes; Mul, Base. -/
import Derived.Test.YtookapglookphaaDoorXcC
import Derived.Test.YtookapglookphaaDoorXcB
namespace Go.Proofs.YtookapglookphaaDoor
section
open Go Go.RowKit

theorem by0 (V : Nat) : ((L51 V).getD (8 * 0 / 51) 0 / 2 ^ (8 * 0 % 51) + (L51 V).getD (8 * 0 / 51 + 1) 0 * 2 ^ (51 - 8 * 0 % 51) % 18446744073709551616) % 256 = V / 256 ^ 0 % 256 := by
  show ((V % 2251799813685248) / 1 + (V / 2251799813685248 % 2251799813685248) * 2251799813685248 % 18446744073709551616) % 256 = V / 1 % 256
  omega
theorem by1 (V : Nat) : ((L51 V).getD (8 * 1 / 51) 0 / 2 ^ (8 * 1 % 51) + (L51 V).getD (8 * 1 / 51 + 1) 0 * 2 ^ (51 - 8 * 1 % 51) % 18446744073709551616) % 256 = V / 256 ^ 1 % 256 := by
  show ((V % 2251799813685248) / 256 + (V / 2251799813685248 % 2251799813685248) * 8796093022208 % 18446744073709551616) % 256 = V / 256 % 256
  omega
theorem by2 (V : Nat) : ((L51 V).getD (8 * 2 / 51) 0 / 2 ^ (8 * 2 % 51) + (L51 V).getD (8 * 2 / 51 + 1) 0 * 2 ^ (51 - 8 * 2 % 51) % 18446744073709551616) % 256 = V / 256 ^ 2 % 256 := by
  show ((V % 2251799813685248) / 65536 + (V / 2251799813685248 % 2251799813685248) * 34359738368 % 18446744073709551616) % 256 = V / 65536 % 256
  omega
theorem by3 (V : Nat) : ((L51 V).getD (8 * 3 / 51) 0 / 2 ^ (8 * 3 % 51) + (L51 V).getD (8 * 3 / 51 + 1) 0 * 2 ^ (51 - 8 * 3 % 51) % 18446744073709551616) % 256 = V / 256 ^ 3 % 256 := by
  show ((V % 2251799813685248) / 16777216 + (V / 2251799813685248 % 2251799813685248) * 134217728 % 18446744073709551616) % 256 = V / 16777216 % 256
  omega
theorem by4 (V : Nat) : ((L51 V).getD (8 * 4 / 51) 0 / 2 ^ (8 * 4 % 51) + (L51 V).getD (8 * 4 / 51 + 1) 0 * 2 ^ (51 - 8 * 4 % 51) % 18446744073709551616) % 256 = V / 256 ^ 4 % 256 := by
  show ((V % 2251799813685248) / 4294967296 + (V / 2251799813685248 % 2251799813685248) * 524288 % 18446744073709551616) % 256 = V / 4294967296 % 256
  omega
theorem by5 (V : Nat) : ((L51 V).getD (8 * 5 / 51) 0 / 2 ^ (8 * 5 % 51) + (L51 V).getD (8 * 5 / 51 + 1) 0 * 2 ^ (51 - 8 * 5 % 51) % 18446744073709551616) % 256 = V / 256 ^ 5 % 256 := by
  show ((V % 2251799813685248) / 1099511627776 + (V / 2251799813685248 % 2251799813685248) * 2048 % 18446744073709551616) % 256 = V / 1099511627776 % 256
  omega
theorem by6 (V : Nat) : ((L51 V).getD (8 * 6 / 51) 0 / 2 ^ (8 * 6 % 51) + (L51 V).getD (8 * 6 / 51 + 1) 0 * 2 ^ (51 - 8 * 6 % 51) % 18446744073709551616) % 256 = V / 256 ^ 6 % 256 := by
  show ((V % 2251799813685248) / 281474976710656 + (V / 2251799813685248 % 2251799813685248) * 8 % 18446744073709551616) % 256 = V / 281474976710656 % 256
  omega
theorem by7 (V : Nat) : ((L51 V).getD (8 * 7 / 51) 0 / 2 ^ (8 * 7 % 51) + (L51 V).getD (8 * 7 / 51 + 1) 0 * 2 ^ (51 - 8 * 7 % 51) % 18446744073709551616) % 256 = V / 256 ^ 7 % 256 := by
  show ((V / 2251799813685248 % 2251799813685248) / 32 + (V / 5070602400912917605986812821504 % 2251799813685248) * 70368744177664 % 18446744073709551616) % 256 = V / 72057594037927936 % 256
  omega
theorem by8 (V : Nat) : ((L51 V).getD (8 * 8 / 51) 0 / 2 ^ (8 * 8 % 51) + (L51 V).getD (8 * 8 / 51 + 1) 0 * 2 ^ (51 - 8 * 8 % 51) % 18446744073709551616) % 256 = V / 256 ^ 8 % 256 := by
  show ((V / 2251799813685248 % 2251799813685248) / 8192 + (V / 5070602400912917605986812821504 % 2251799813685248) * 274877906944 % 18446744073709551616) % 256 = V / 18446744073709551616 % 256
  omega
theorem by9 (V : Nat) : ((L51 V).getD (8 * 9 / 51) 0 / 2 ^ (8 * 9 % 51) + (L51 V).getD (8 * 9 / 51 + 1) 0 * 2 ^ (51 - 8 * 9 % 51) % 18446744073709551616) % 256 = V / 256 ^ 9 % 256 := by
  show ((V / 2251799813685248 % 2251799813685248) / 2097152 + (V / 5070602400912917605986812821504 % 2251799813685248) * 1073741824 % 18446744073709551616) % 256 = V / 4722366482869645213696 % 256
  omega
theorem by10 (V : Nat) : ((L51 V).getD (8 * 10 / 51) 0 / 2 ^ (8 * 10 % 51) + (L51 V).getD (8 * 10 / 51 + 1) 0 * 2 ^ (51 - 8 * 10 % 51) % 18446744073709551616) % 256 = V / 256 ^ 10 % 256 := by
  show ((V / 2251799813685248 % 2251799813685248) / 536870912 + (V / 5070602400912917605986812821504 % 2251799813685248) * 4194304 % 18446744073709551616) % 256 = V / 1208925819614629174706176 % 256
  omega
theorem by11 (V : Nat) : ((L51 V).getD (8 * 11 / 51) 0 / 2 ^ (8 * 11 % 51) + (L51 V).getD (8 * 11 / 51 + 1) 0 * 2 ^ (51 - 8 * 11 % 51) % 18446744073709551616) % 256 = V / 256 ^ 11 % 256 := by
  show ((V / 2251799813685248 % 2251799813685248) / 137438953472 + (V / 5070602400912917605986812821504 % 2251799813685248) * 16384 % 18446744073709551616) % 256 = V / 309485009821345068724781056 % 256
  omega
theorem by12 (V : Nat) : ((L51 V).getD (8 * 12 / 51) 0 / 2 ^ (8 * 12 % 51) + (L51 V).getD (8 * 12 / 51 + 1) 0 * 2 ^ (51 - 8 * 12 % 51) % 18446744073709551616) % 256 = V / 256 ^ 12 % 256 := by
  show ((V / 2251799813685248 % 2251799813685248) / 35184372088832 + (V / 5070602400912917605986812821504 % 2251799813685248) * 64 % 18446744073709551616) % 256 = V / 79228162514264337593543950336 % 256
  omega
theorem by13 (V : Nat) : ((L51 V).getD (8 * 13 / 51) 0 / 2 ^ (8 * 13 % 51) + (L51 V).getD (8 * 13 / 51 + 1) 0 * 2 ^ (51 - 8 * 13 % 51) % 18446744073709551616) % 256 = V / 256 ^ 13 % 256 := by
  show ((V / 5070602400912917605986812821504 % 2251799813685248) / 4 + (V / 11417981541647679048466287755595961091061972992 % 2251799813685248) * 562949953421312 % 18446744073709551616) % 256 = V / 20282409603651670423947251286016 % 256
  omega
theorem by14 (V : Nat) : ((L51 V).getD (8 * 14 / 51) 0 / 2 ^ (8 * 14 % 51) + (L51 V).getD (8 * 14 / 51 + 1) 0 * 2 ^ (51 - 8 * 14 % 51) % 18446744073709551616) % 256 = V / 256 ^ 14 % 256 := by
  show ((V / 5070602400912917605986812821504 % 2251799813685248) / 1024 + (V / 11417981541647679048466287755595961091061972992 % 2251799813685248) * 2199023255552 % 18446744073709551616) % 256 = V / 5192296858534827628530496329220096 % 256
  omega
theorem by15 (V : Nat) : ((L51 V).getD (8 * 15 / 51) 0 / 2 ^ (8 * 15 % 51) + (L51 V).getD (8 * 15 / 51 + 1) 0 * 2 ^ (51 - 8 * 15 % 51) % 18446744073709551616) % 256 = V / 256 ^ 15 % 256 := by
  show ((V / 5070602400912917605986812821504 % 2251799813685248) / 262144 + (V / 11417981541647679048466287755595961091061972992 % 2251799813685248) * 8589934592 % 18446744073709551616) % 256 = V / 1329227995784915872903807060280344576 % 256
  omega
theorem by16 (V : Nat) : ((L51 V).getD (8 * 16 / 51) 0 / 2 ^ (8 * 16 % 51) + (L51 V).getD (8 * 16 / 51 + 1) 0 * 2 ^ (51 - 8 * 16 % 51) % 18446744073709551616) % 256 = V / 256 ^ 16 % 256 := by
  show ((V / 5070602400912917605986812821504 % 2251799813685248) / 67108864 + (V / 11417981541647679048466287755595961091061972992 % 2251799813685248) * 33554432 % 18446744073709551616) % 256 = V / 340282366920938463463374607431768211456 % 256
  omega
theorem by17 (V : Nat) : ((L51 V).getD (8 * 17 / 51) 0 / 2 ^ (8 * 17 % 51) + (L51 V).getD (8 * 17 / 51 + 1) 0 * 2 ^ (51 - 8 * 17 % 51) % 18446744073709551616) % 256 = V / 256 ^ 17 % 256 := by
  show ((V / 5070602400912917605986812821504 % 2251799813685248) / 17179869184 + (V / 11417981541647679048466287755595961091061972992 % 2251799813685248) * 131072 % 18446744073709551616) % 256 = V / 87112285931760246646623899502532662132736 % 256
  omega
theorem by18 (V : Nat) : ((L51 V).getD (8 * 18 / 51) 0 / 2 ^ (8 * 18 % 51) + (L51 V).getD (8 * 18 / 51 + 1) 0 * 2 ^ (51 - 8 * 18 % 51) % 18446744073709551616) % 256 = V / 256 ^ 18 % 256 := by
  show ((V / 5070602400912917605986812821504 % 2251799813685248) / 4398046511104 + (V / 11417981541647679048466287755595961091061972992 % 2251799813685248) * 512 % 18446744073709551616) % 256 = V / 22300745198530623141535718272648361505980416 % 256
  omega
theorem by19 (V : Nat) : ((L51 V).getD (8 * 19 / 51) 0 / 2 ^ (8 * 19 % 51) + (L51 V).getD (8 * 19 / 51 + 1) 0 * 2 ^ (51 - 8 * 19 % 51) % 18446744073709551616) % 256 = V / 256 ^ 19 % 256 := by
  show ((V / 5070602400912917605986812821504 % 2251799813685248) / 1125899906842624 + (V / 11417981541647679048466287755595961091061972992 % 2251799813685248) * 2 % 18446744073709551616) % 256 = V / 5708990770823839524233143877797980545530986496 % 256
  omega
theorem by20 (V : Nat) : ((L51 V).getD (8 * 20 / 51) 0 / 2 ^ (8 * 20 % 51) + (L51 V).getD (8 * 20 / 51 + 1) 0 * 2 ^ (51 - 8 * 20 % 51) % 18446744073709551616) % 256 = V / 256 ^ 20 % 256 := by
  show ((V / 11417981541647679048466287755595961091061972992 % 2251799813685248) / 128 + (V / 25711008708143844408671393477458601640355247900524685364822016 % 2251799813685248) * 17592186044416 % 18446744073709551616) % 256 = V / 1461501637330902918203684832716283019655932542976 % 256
  omega
theorem by21 (V : Nat) : ((L51 V).getD (8 * 21 / 51) 0 / 2 ^ (8 * 21 % 51) + (L51 V).getD (8 * 21 / 51 + 1) 0 * 2 ^ (51 - 8 * 21 % 51) % 18446744073709551616) % 256 = V / 256 ^ 21 % 256 := by
  show ((V / 11417981541647679048466287755595961091061972992 % 2251799813685248) / 32768 + (V / 25711008708143844408671393477458601640355247900524685364822016 % 2251799813685248) * 68719476736 % 18446744073709551616) % 256 = V / 374144419156711147060143317175368453031918731001856 % 256
  omega
theorem by22 (V : Nat) : ((L51 V).getD (8 * 22 / 51) 0 / 2 ^ (8 * 22 % 51) + (L51 V).getD (8 * 22 / 51 + 1) 0 * 2 ^ (51 - 8 * 22 % 51) % 18446744073709551616) % 256 = V / 256 ^ 22 % 256 := by
  show ((V / 11417981541647679048466287755595961091061972992 % 2251799813685248) / 8388608 + (V / 25711008708143844408671393477458601640355247900524685364822016 % 2251799813685248) * 268435456 % 18446744073709551616) % 256 = V / 95780971304118053647396689196894323976171195136475136 % 256
  omega
theorem by23 (V : Nat) : ((L51 V).getD (8 * 23 / 51) 0 / 2 ^ (8 * 23 % 51) + (L51 V).getD (8 * 23 / 51 + 1) 0 * 2 ^ (51 - 8 * 23 % 51) % 18446744073709551616) % 256 = V / 256 ^ 23 % 256 := by
  show ((V / 11417981541647679048466287755595961091061972992 % 2251799813685248) / 2147483648 + (V / 25711008708143844408671393477458601640355247900524685364822016 % 2251799813685248) * 1048576 % 18446744073709551616) % 256 = V / 24519928653854221733733552434404946937899825954937634816 % 256
  omega
theorem by24 (V : Nat) : ((L51 V).getD (8 * 24 / 51) 0 / 2 ^ (8 * 24 % 51) + (L51 V).getD (8 * 24 / 51 + 1) 0 * 2 ^ (51 - 8 * 24 % 51) % 18446744073709551616) % 256 = V / 256 ^ 24 % 256 := by
  show ((V / 11417981541647679048466287755595961091061972992 % 2251799813685248) / 549755813888 + (V / 25711008708143844408671393477458601640355247900524685364822016 % 2251799813685248) * 4096 % 18446744073709551616) % 256 = V / 6277101735386680763835789423207666416102355444464034512896 % 256
  omega
theorem by25 (V : Nat) : ((L51 V).getD (8 * 25 / 51) 0 / 2 ^ (8 * 25 % 51) + (L51 V).getD (8 * 25 / 51 + 1) 0 * 2 ^ (51 - 8 * 25 % 51) % 18446744073709551616) % 256 = V / 256 ^ 25 % 256 := by
  show ((V / 11417981541647679048466287755595961091061972992 % 2251799813685248) / 140737488355328 + (V / 25711008708143844408671393477458601640355247900524685364822016 % 2251799813685248) * 16 % 18446744073709551616) % 256 = V / 1606938044258990275541962092341162602522202993782792835301376 % 256
  omega
theorem by26 (V : Nat) (hV : V < 57896044618658097711785492504343953926634992332820282019728792003956564819968) : (L51 V).getD (8 * 26 / 51) 0 / 2 ^ (8 * 26 % 51) % 256 = V / 256 ^ 26 % 256 := by
  show (V / 25711008708143844408671393477458601640355247900524685364822016 % 2251799813685248) / 16 % 256 = V / 411376139330301510538742295639337626245683966408394965837152256 % 256
  omega
theorem by27 (V : Nat) (hV : V < 57896044618658097711785492504343953926634992332820282019728792003956564819968) : (L51 V).getD (8 * 27 / 51) 0 / 2 ^ (8 * 27 % 51) % 256 = V / 256 ^ 27 % 256 := by
  show (V / 25711008708143844408671393477458601640355247900524685364822016 % 2251799813685248) / 4096 % 256 = V / 105312291668557186697918027683670432318895095400549111254310977536 % 256
  omega
theorem by28 (V : Nat) (hV : V < 57896044618658097711785492504343953926634992332820282019728792003956564819968) : (L51 V).getD (8 * 28 / 51) 0 / 2 ^ (8 * 28 % 51) % 256 = V / 256 ^ 28 % 256 := by
  show (V / 25711008708143844408671393477458601640355247900524685364822016 % 2251799813685248) / 1048576 % 256 = V / 26959946667150639794667015087019630673637144422540572481103610249216 % 256
  omega
theorem by29 (V : Nat) (hV : V < 57896044618658097711785492504343953926634992332820282019728792003956564819968) : (L51 V).getD (8 * 29 / 51) 0 / 2 ^ (8 * 29 % 51) % 256 = V / 256 ^ 29 % 256 := by
  show (V / 25711008708143844408671393477458601640355247900524685364822016 % 2251799813685248) / 268435456 % 256 = V / 6901746346790563787434755862277025452451108972170386555162524223799296 % 256
  omega
theorem by30 (V : Nat) (hV : V < 57896044618658097711785492504343953926634992332820282019728792003956564819968) : (L51 V).getD (8 * 30 / 51) 0 / 2 ^ (8 * 30 % 51) % 256 = V / 256 ^ 30 % 256 := by
  show (V / 25711008708143844408671393477458601640355247900524685364822016 % 2251799813685248) / 68719476736 % 256 = V / 1766847064778384329583297500742918515827483896875618958121606201292619776 % 256
  omega
theorem by31 (V : Nat) (hV : V < 57896044618658097711785492504343953926634992332820282019728792003956564819968) : (L51 V).getD (8 * 31 / 51) 0 / 2 ^ (8 * 31 % 51) % 256 = V / 256 ^ 31 % 256 := by
  show (V / 25711008708143844408671393477458601640355247900524685364822016 % 2251799813685248) / 17592186044416 % 256 = V / 452312848583266388373324160190187140051835877600158453279131187530910662656 % 256
  omega
theorem by_all (i V : Nat) (hi : i < 32) (h5 : 8 * i / 51 + 1 < 5) : ((L51 V).getD (8 * i / 51) 0 / 2 ^ (8 * i % 51) + (L51 V).getD (8 * i / 51 + 1) 0 * 2 ^ (51 - 8 * i % 51) % 18446744073709551616) % 256 = V / 256 ^ i % 256 := by
  rcases (show i = 0 ∨ i = 1 ∨ i = 2 ∨ i = 3 ∨ i = 4 ∨ i = 5 ∨ i = 6 ∨ i = 7 ∨ i = 8 ∨ i = 9 ∨ i = 10 ∨ i = 11 ∨ i = 12 ∨ i = 13 ∨ i = 14 ∨ i = 15 ∨ i = 16 ∨ i = 17 ∨ i = 18 ∨ i = 19 ∨ i = 20 ∨ i = 21 ∨ i = 22 ∨ i = 23 ∨ i = 24 ∨ i = 25 ∨ i = 26 ∨ i = 27 ∨ i = 28 ∨ i = 29 ∨ i = 30 ∨ i = 31 by omega) with rfl | rfl | rfl | rfl | rfl | rfl | rfl | rfl | rfl | rfl | rfl | rfl | rfl | rfl | rfl | rfl | rfl | rfl | rfl | rfl | rfl | rfl | rfl | rfl | rfl | rfl | rfl | rfl | rfl | rfl | rfl | rfl
  · exact by0 V
  · exact by1 V
  · exact by2 V
  · exact by3 V
  · exact by4 V
  · exact by5 V
  · exact by6 V
  · exact by7 V
  · exact by8 V
  · exact by9 V
  · exact by10 V
  · exact by11 V
  · exact by12 V
  · exact by13 V
  · exact by14 V
  · exact by15 V
  · exact by16 V
  · exact by17 V
  · exact by18 V
  · exact by19 V
  · exact by20 V
  · exact by21 V
  · exact by22 V
  · exact by23 V
  · exact by24 V
  · exact by25 V
  · exact absurd h5 (by decide)
  · exact absurd h5 (by decide)
  · exact absurd h5 (by decide)
  · exact absurd h5 (by decide)
  · exact absurd h5 (by decide)
  · exact absurd h5 (by decide)
theorem by_top (i V : Nat) (hi : i < 32) (hV : V < 57896044618658097711785492504343953926634992332820282019728792003956564819968) (h5 : ¬ 8 * i / 51 + 1 < 5) : (L51 V).getD (8 * i / 51) 0 / 2 ^ (8 * i % 51) % 256 = V / 256 ^ i % 256 := by
  rcases (show i = 0 ∨ i = 1 ∨ i = 2 ∨ i = 3 ∨ i = 4 ∨ i = 5 ∨ i = 6 ∨ i = 7 ∨ i = 8 ∨ i = 9 ∨ i = 10 ∨ i = 11 ∨ i = 12 ∨ i = 13 ∨ i = 14 ∨ i = 15 ∨ i = 16 ∨ i = 17 ∨ i = 18 ∨ i = 19 ∨ i = 20 ∨ i = 21 ∨ i = 22 ∨ i = 23 ∨ i = 24 ∨ i = 25 ∨ i = 26 ∨ i = 27 ∨ i = 28 ∨ i = 29 ∨ i = 30 ∨ i = 31 by omega) with rfl | rfl | rfl | rfl | rfl | rfl | rfl | rfl | rfl | rfl | rfl | rfl | rfl | rfl | rfl | rfl | rfl | rfl | rfl | rfl | rfl | rfl | rfl | rfl | rfl | rfl | rfl | rfl | rfl | rfl | rfl | rfl
  · exact absurd (by decide) h5
  · exact absurd (by decide) h5
  · exact absurd (by decide) h5
  · exact absurd (by decide) h5
  · exact absurd (by decide) h5
  · exact absurd (by decide) h5
  · exact absurd (by decide) h5
  · exact absurd (by decide) h5
  · exact absurd (by decide) h5
  · exact absurd (by decide) h5
  · exact absurd (by decide) h5
  · exact absurd (by decide) h5
  · exact absurd (by decide) h5
  · exact absurd (by decide) h5
  · exact absurd (by decide) h5
  · exact absurd (by decide) h5
  · exact absurd (by decide) h5
  · exact absurd (by decide) h5
  · exact absurd (by decide) h5
  · exact absurd (by decide) h5
  · exact absurd (by decide) h5
  · exact absurd (by decide) h5
  · exact absurd (by decide) h5
  · exact absurd (by decide) h5
  · exact absurd (by decide) h5
  · exact absurd (by decide) h5
  · exact by26 V hV
  · exact by27 V hV
  · exact by28 V hV
  · exact by29 V hV
  · exact by30 V hV
  · exact by31 V hV
/-- Limbs in their bounds are the limbs of what they are worth. -/
theorem limbs_eq {a b c d e : Nat} (h1 : a ≤ 2251799813685247) (h2 : b ≤ 2251799813685247) (h3 : c ≤ 2251799813685247) (h4 : d ≤ 2251799813685247) (h5 : e ≤ 2251799813685247) : [a, b, c, d, e] = L51 (V5 [a, b, c, d, e]) := by
  rw [V5_list]
  unfold L51
  obtain ⟨V, hV⟩ : ∃ V, V = a + 2251799813685248 * b + 5070602400912917605986812821504 * c + 11417981541647679048466287755595961091061972992 * d + 25711008708143844408671393477458601640355247900524685364822016 * e := ⟨_, rfl⟩
  rw [← hV]
  have e0 : V % 2251799813685248 = a := by omega
  have e1 : V / 2251799813685248 % 2251799813685248 = b := by omega
  have e2 : V / 5070602400912917605986812821504 % 2251799813685248 = c := by omega
  have e3 : V / 11417981541647679048466287755595961091061972992 % 2251799813685248 = d := by omega
  have e4 : V / 25711008708143844408671393477458601640355247900524685364822016 % 2251799813685248 = e := by omega
  rw [e0, e1, e2, e3, e4]
/-- What 'reduce' reckons. -/
theorem reduce_val {L : List Nat} {a : Nat} (h : Tm L a) : ∃ o, o ≤ 1 ∧ (cyTo (L.set 0 (L.getD 0 0 + 19)) 5).2 = o ∧ (cyTo (L.set 0 (L.getD 0 0 + 19 * o)) 5).1 = L51 a := by
  obtain ⟨x, b, c, d, e, rfl⟩ := list5 h.len
  have hs := V5_small h
  have hv := h.val
  have hp : pC = 57896044618658097711785492504343953926634992332820282019728792003956564819949 := rfl
  obtain ⟨a1, b1, c1, d1, e1, o1, h1, k1, k2, k3, k4, k5, k6⟩ := cy_list (x + 19) b c d e
  obtain ⟨a2, b2, c2, d2, e2, o2, h2, m1, m2, m3, m4, m5, m6⟩ := cy_list (x + 19 * o1) b c d e
  have s1 : [x, b, c, d, e].set 0 ([x, b, c, d, e].getD 0 0 + 19) = [x + 19, b, c, d, e] := rfl
  have s2 : [x, b, c, d, e].set 0 ([x, b, c, d, e].getD 0 0 + 19 * o1) = [x + 19 * o1, b, c, d, e] := rfl
  have v1 : V5 [x + 19, b, c, d, e] = V5 [x, b, c, d, e] + 19 := by rw [V5_list, V5_list]; omega
  have v2 : V5 [x + 19 * o1, b, c, d, e] = V5 [x, b, c, d, e] + 19 * o1 := by rw [V5_list, V5_list]; omega
  have b1' : V5 [a1, b1, c1, d1, e1] < 57896044618658097711785492504343953926634992332820282019728792003956564819968 := by rw [V5_list]; omega
  have b2' : V5 [a2, b2, c2, d2, e2] < 57896044618658097711785492504343953926634992332820282019728792003956564819968 := by rw [V5_list]; omega
  rw [v1] at k6
  rw [v2] at m6
  have ho : o1 ≤ 1 := by omega
  refine ⟨o1, ho, by rw [s1, h1], ?_⟩
  rw [s2, h2]
  show [a2, b2, c2, d2, e2] = L51 a
  rw [limbs_eq m1 m2 m3 m4 m5]
  congr 1
  rw [hp] at hv
  generalize V5 [x, b, c, d, e] = V at *
  generalize V5 [a2, b2, c2, d2, e2] = V2 at *
  generalize V5 [a1, b1, c1, d1, e1] = V1 at *
  clear h h1 h2 s1 s2 v1 v2 k1 k2 k3 k4 k5 m1 m2 m3 m4 m5
  rcases (show o1 = 0 ∨ o1 = 1 by omega) with rfl | rfl
  · have hV : V < 57896044618658097711785492504343953926634992332820282019728792003956564819949 := by omega
    rw [Nat.mod_eq_of_lt hV] at hv
    omega
  · have hV : V = V1 + 57896044618658097711785492504343953926634992332820282019728792003956564819949 := by omega
    have hV1 : V1 < 57896044618658097711785492504343953926634992332820282019728792003956564819949 := by omega
    rw [hV, Nat.add_mod_right, Nat.mod_eq_of_lt hV1] at hv
    omega
end
section
open Go Go.RowKit

theorem wpList_newL {ops : Array Oper} {rest : List Oper} {o o2 : Oper} {a : Act} {w : World} {Q : Exit → Act → World → Prop} {d e : Tmp} {R : List Nat} (hg : o.guard = none ∧ o2.guard = none) (ho : o.op = .alloc 118) (ho2 : o2.op = .store 118 (.tmp d) (.tmp e)) (hd : o.dst = some d) (hd2 : o2.dst = none)
    (hs : decide (d < a.tmps.size) = true) (hv : a.eval (.tmp e) = .agg (ncells .u64 R).toArray) (hl : R.length = 5) (hde : d ≠ e)
    (h : ∀ w', Ex w w' → NB .u64 w' w.heap.size 118 R → wpList Tryd.prog ops Q rest (a.put (some d) (.pointer (some ⟨w.heap.size, 0, none⟩))) w') : wpList Tryd.prog ops Q (o :: o2 :: rest) a w := by
  refine wpList_gives (Φ := fun u w' => u = .pointer (some ⟨w.heap.size, 0, none⟩) ∧ w' = w.alloc (.cells (ncells .u64 [0, 0, 0, 0, 0]).toArray 118)) hg.1 (gives_alloc ho ⟨rfl, rfl⟩) fun u w' ⟨e1, e2⟩ => ?_
  rw [e1, e2, hd]
  obtain ⟨z1, y1, x1⟩ := row_facts R hl
  have hn0 := heap_alloc_new w (.cells (ncells .u64 [0, 0, 0, 0, 0]).toArray 118)
  refine wpList_store_row hg.2 118 _ _ ho2 w.heap.size (ncells .u64 R).toArray ?_ ?_ 118 _ hn0 z1 x1 y1 ?_
  · rw [eval_put_tmp, if_pos ⟨rfl, of_decide_eq_true hs⟩]
  · rw [eval_put_tmp, if_neg (by intro h; exact hde (Option.some.inj h.1)), hv]
  · rw [hd2]
    refine h _ ?_ ?_
    · exact below_setRow (Ex.alloc w _) (Nat.le_refl _) _
    · unfold NB
      rw [setRow_heap _ _ _ _ _ _ hn0]

set_option maxHeartbeats 800000 in
set_option maxRecDepth 100000 in
theorem reduce_c (g : Nat) (L : List Nat) (a : Nat) (hT : Tm L a) (w : World) (h : NB .u64 w g 118 L) :
    Calls Tryd.prog 96 #[.pointer (some ⟨g, 0, none⟩)] w fun e w' => e = .returned (.tuple #[]) ∧ NB .u64 w' g 118 (L51 a) ∧ Keeps (fun k => k = g) w w' := by
  obtain ⟨o, ho, r1, r2⟩ := reduce_val hT
  have hl := hT.len
  have hall := hT.all
  have HA := hidden hall
  have hlt := h.lt
  have H := hidden h
  have HR1 := hidden r1
  have HR2 := hidden r2
  have HSZ : Hid ((Tryd.prog.info? 118).map (·.size) = some (ncells .u64 L).toArray.size) := (row_facts L hl).1
  clear h r1 r2 hT
  go_enter Tryd.func96, Tryd.ntmps96
  have HPP : Hid (w.heap[g]? = some (.cells (ncells .u64 L).toArray 118 (0, 0))) := H.out
  go_upto_region 1 with (first
    | (refine wpList_loadRow rfl 118 (.tmp 5) rfl g (ncells .u64 L).toArray 118 (0, 0) 5 87 rfl HPP.out Tryd.underlying118 HSZ.out ?_)
    | (refine wpList_newL (d := 2) (e := 6) (R := L) ⟨rfl, rfl⟩ rfl rfl rfl rfl (by kernel_rfl) (by kernel_rfl) hl (by decide) ?_; intro w1 hx n1))
  have H1 := hidden (H.out.fresh hx)
  have hc := n1.cell 0 (by omega)
  have hf := n1.frozen 0
  have h00 := hall 0
  have HX := hidden hx
  obtain ⟨s, hs⟩ : ∃ s, s = L.getD 0 0 + 19 := ⟨_, rfl⟩
  have hs2 : ((L.getD 0 0 : Nat) : Int) + 19 = (s : Int) := by omega
  have hsw := m64w s (by omega)
  rw [← hs] at HR1
  have HN1 : Hid (NB .u64 (w1.setCell ⟨w.heap.size, 0, none⟩ (.int .u64 (s : Int))) w.heap.size 118 (L.set 0 s)) := n1.set 0 s
  have HK1 : Hid (Keeps (fun k => k = w.heap.size) w1 (w1.setCell ⟨w.heap.size, 0, none⟩ (.int .u64 (s : Int)))) := (Keeps.refl (fun k => k = w.heap.size) w1).setCell (p := ⟨w.heap.size, 0, none⟩) (.inl rfl) _
  have hb : ∀ i, i < 5 → (L.set 0 s).getD i 0 ≤ 1152921504606846976 := by
    intro i _
    rw [getD_set]
    split
    · omega
    · have := hall i; omega
  have HB := hidden hb
  generalize hx0 : L.getD 0 0 = x0 at hc hs2 h00 HR2
  have HX0 := hidden hx0
  have HHS := hidden hs
  clear hb n1 hx hall H HPP hx0 hs
  go_upto_region 2 with fail
  generalize w1.setCell ⟨w.heap.size, 0, none⟩ (.int .u64 (s : Int)) = w2 at HN1 HK1 ⊢
  have HC := hidden (carry_c w.heap.size (L.set 0 s) (by rw [List.length_set]; exact hl) HB.out w2 HN1.out)
  rw [HR1.out] at HC
  clear hc hf hs2 hsw
  go_wp2_with fail
  refine HC.out.mono ?_
  rintro e w3 ⟨rfl, hn3, hk3⟩
  have HK3 : Hid (Keeps (fun k => k = w.heap.size) w1 w3) := HK1.out.trans hk3
  have H3 := hidden (H1.out.keep HK3.out (by omega))
  have hc := H3.out.cell 0 (by omega)
  rw [HX0.out] at hc
  have hf := H3.out.frozen 0
  obtain ⟨t, ht⟩ : ∃ t, t = x0 + 19 * o := ⟨_, rfl⟩
  obtain ⟨z, hz⟩ : ∃ z, z = 19 * o := ⟨_, rfl⟩
  rw [← ht] at HR2
  have hz2 : 19 * (o : Int) = (z : Int) := by omega
  have hzw := m64w z (by omega)
  have ht2 : (x0 : Int) + (z : Int) = (t : Int) := by omega
  have htw := m64w t (by omega)
  have HT : Hid (t ≤ 1152921504606846976) := by show _ ≤ _; omega
  clear hn3 hk3 HC HK1 HN1 H1 HR1 ht hz
  go_wp2_with fail
  go_region
  have HN4 : Hid (NB .u64 (w3.setCell ⟨g, 0, none⟩ (.int .u64 (t : Int))).drew g 118 (L.set 0 t)) := H3.out.set 0 t
  have HK4 : Hid (Keeps (fun k => k = g) w3 (w3.setCell ⟨g, 0, none⟩ (.int .u64 (t : Int))).drew) := ((Keeps.refl (fun k => k = g) w3).setCell (p := ⟨g, 0, none⟩) (.inl rfl) _).drew
  have hb : ∀ i, i < 5 → (L.set 0 t).getD i 0 ≤ 1152921504606846976 := by
    intro i _
    rw [getD_set]
    split
    · exact HT.out
    · have := HA.out i; omega
  have HB2 := hidden hb
  clear hb hc hf hz2 hzw ht2 htw H3
  generalize (w3.setCell ⟨g, 0, none⟩ (.int .u64 (t : Int))).drew = w4 at HN4 HK4 ⊢
  have HC := hidden (carry_c g (L.set 0 t) (by rw [List.length_set]; exact hl) HB2.out w4 HN4.out)
  rw [HR2.out] at HC
  generalize (cyTo (L.set 0 t) 5).2 = oo at HC
  go_wp2_with fail
  refine HC.out.mono ?_
  rintro e w5 ⟨rfl, hn5, hk5⟩
  have HK5 : Hid (Keeps (fun k => k = g) w w5) := by
    have k1 : Keeps (fun k => k = g ∨ k = w.heap.size) w w5 := ((Keeps.ofFresh HX.out).trans (HK3.out.mono fun k _ e => .inr e)).trans ((HK4.out.trans hk5).mono fun k _ e => .inl e)
    exact k1.mono fun k hk e => e.resolve_right (by omega)
  have HN5 := hidden hn5
  clear hn5 hk5 HC
  go_wp2
  go_end0
  exact ⟨rfl, HN5.out, HK5.out⟩
end
section
open Go Go.RowKit

/-- The 32 bytes of a number, the lowest first. -/
def outL (a : Nat) (n : Nat) : List UInt8 := (List.range n).map fun i => UInt8.ofNat (a / 256 ^ i % 256)
theorem outL_length (a n : Nat) : (outL a n).length = n := by simp [outL]
theorem outL_succ (a n : Nat) : outL a (n + 1) = outL a n ++ [UInt8.ofNat (a / 256 ^ n % 256)] := by simp [outL, List.range_succ]
theorem out_set (a k : Nat) (h : k < 32) (y : Nat) (hy : y = a / 256 ^ k % 256) : (bcells (outL a k ++ List.replicate (32 - k) 0)).toArray.setIfInBounds k (.int .u8 (y : Int)) = (bcells (outL a (k + 1) ++ List.replicate (32 - (k + 1)) 0)).toArray := by
  rw [outL_succ, bcells_append, set_next _ _ _ _ (by simp [bcells_length, outL_length]) (by rw [show 32 - k = (32 - (k + 1)) + 1 by omega, List.replicate_succ]; simp [bcells])]
  rw [show 32 - k = (32 - (k + 1)) + 1 by omega, List.replicate_succ]
  have e : (UInt8.ofNat (a / 256 ^ k % 256)).toNat = y := by rw [hy, UInt8.toNat_ofNat']; omega
  simp only [bcells, List.map_append, List.map_cons, List.append_assoc, List.drop_succ_cons, List.drop_zero, e, List.cons_append, List.nil_append]
theorem wrap8 (n : Nat) : IntKind.u8.wrap (n : Int) = ((n % 256 : Nat) : Int) := by rw [IntKind.wrap_u8]; omega
/-- The two parts of a byte. -/
theorem or_high (x y s : Nat) (hs : s ≤ 50) (hx : x < 2251799813685248) : bits BinOp.or IntKind.u64 ((x / 2 ^ s : Nat) : Int) ((y * 2 ^ (51 - s) % 18446744073709551616 : Nat) : Int) = ((x / 2 ^ s + y * 2 ^ (51 - s) % 18446744073709551616 : Nat) : Int) := by
  have h1 : x / 2 ^ s < 2 ^ (51 - s) := by
    rw [Nat.div_lt_iff_lt_mul (Nat.two_pow_pos s), ← Nat.pow_add, show 51 - s + s = 51 by omega]
    exact hx
  have h3 : y * 2 ^ (51 - s) % 18446744073709551616 % 2 ^ (51 - s) = 0 := by
    obtain ⟨r, hr⟩ : ∃ r, 64 = (51 - s) + r := ⟨64 - (51 - s), by omega⟩
    rw [show 18446744073709551616 = 2 ^ (51 - s) * 2 ^ r by rw [← Nat.pow_add, ← hr], Nat.mod_mul_right_mod, Nat.mul_mod_left]
  have h4 : x / 2 ^ s ≤ x := Nat.div_le_self _ _
  rw [u64_or_nat _ _ (by omega) (by omega), Nat.or_comm, nat_join (51 - s) _ _ h3 h1, Nat.add_comm]

structure YI (w : World) (g gb : Nat) (wr : World) (L : List Nat) (xs : List UInt8) : Prop where
  n : NB .u64 wr g 118 L
  o : wr.heap[gb]? = some (.cells (bcells xs).toArray 5 (0, 0))
  k : Keeps (fun k => k = g) w wr

set_option maxHeartbeats 800000 in
set_option maxRecDepth 100000 in
theorem bytes_c (g : Nat) (L : List Nat) (a : Nat) (hT : Tm L a) (w : World) (h : NB .u64 w g 118 L) :
    Calls Tryd.prog 83 #[.pointer (some ⟨g, 0, none⟩)] w fun e w' => ∃ gb, e = .returned (.slice (some ⟨gb, 0, none⟩) 32 32) ∧ w.heap.size ≤ gb ∧ w'.heap[gb]? = some (.cells (bcells (outL a 32)).toArray 5 (0, 0)) ∧ Keeps (fun k => k = g) w w' := by
  have hap : a < 57896044618658097711785492504343953926634992332820282019728792003956564819968 := by have := hT.lt; unfold pC at this; omega
  have HC := hidden (reduce_c g L a hT w h)
  have hlt := h.lt
  have HAP := hidden hap
  clear h hT hap
  go_enter Tryd.func83, Tryd.ntmps83
  go_wp2_with fail
  refine HC.out.mono ?_
  rintro e w1 ⟨rfl, hn, hk⟩
  have HN := hidden hn
  have HK := hidden hk
  have HMK := made_run 32 (by omega) w1
  have hs1 := hidden hk.size
  clear HC hn hk
  rw [show ((32 : Nat) : Int) = 32 from rfl] at HMK
  obtain ⟨ZA, hZA⟩ : ∃ ZA, ZA = (bcells (List.replicate 32 0)).toArray := ⟨_, rfl⟩
  rw [← hZA] at HMK
  have HZA := hidden hZA
  clear hZA
  go_wp2_with fail
  obtain ⟨gb, hgb⟩ : ∃ x, x = w1.heap.size := ⟨_, rfl⟩
  have HY : Hid (YI w g gb (w1.alloc (.cells ZA 5)) (L51 a) (outL a 0 ++ List.replicate (32 - 0) 0)) :=
    ⟨HN.out.keep (S := fun _ => False) ((Keeps.refl _ w1).alloc _) (fun h => h), by rw [hgb, HZA.out]; exact heap_alloc_new w1 _, HK.out.alloc _⟩
  have HG : Hid (w.heap.size ≤ gb) := by show _ ≤ _; rw [hgb]; exact hs1.out
  rw [← hgb]
  generalize w1.alloc (.cells ZA 5) = wa at HY ⊢
  clear HN HK HMK hs1 hgb
  go_loopw [13] (fun c wr => ∃ i : Nat, i ≤ 32 ∧ c = .int .i64 (i : Int) ∧ YI w g gb wr (L51 a) (outL a i ++ List.replicate (32 - i) 0)) (fun c _ => 32 - (intOf c).toNat)
  case atStart => exact ⟨0, by omega, rfl, HY.out⟩
  case round =>
    clear HY
    obtain ⟨i, hi, rfl, hy⟩ := hrel
    have HY := hidden hy
    clear hy
    have hgg : g ≠ gb := by have := HG.out; omega
    by_cases hlt32 : i < 32
    · have hlt' : (i : Int) < 32 := by omega
      have hk5 : 8 * i / 51 < 5 := by omega
      have hs50 : 8 * i % 51 ≤ 50 := by omega
      have c1 := HY.out.n.cell (8 * i / 51) (by rw [L51_length]; omega)
      have hcell := cell_row HY.out.o i
      have hcl : i < (bcells (outL a i ++ List.replicate (32 - i) 0)).length := by simp [bcells_length, outL_length]; omega
      rw [List.getElem?_eq_getElem hcl] at hcell
      generalize (bcells (outL a i ++ List.replicate (32 - i) 0))[i] = uu at hcell
      have hfz := frozen_row HY.out.o i
      have hx51 : (L51 a).getD (8 * i / 51) 0 < 2251799813685248 := by
        have h2 : ∀ j, (L51 a).getD j 0 < 2251799813685248 := by
          intro j
          match j with
          | 0 => show a % _ < _; omega
          | 1 => show a / _ % _ < _; omega
          | 2 => show a / _ % _ < _; omega
          | 3 => show a / _ % _ < _; omega
          | 4 => show a / _ % _ < _; omega
          | k + 5 => simp [L51]
        exact h2 _
      by_cases h5 : 8 * i / 51 + 1 < 5
      · have h5' : 8 * (i : Int) / 51 + 1 < 5 := by omega
        have c2 := HY.out.n.cell (8 * i / 51 + 1) (by rw [L51_length]; omega)
        have HV := hidden (by_all i a hlt32 h5)
        have hor := or_high ((L51 a).getD (8 * i / 51) 0) ((L51 a).getD (8 * i / 51 + 1) 0) (8 * i % 51) hs50 hx51
        generalize (L51 a).getD (8 * i / 51) 0 = x at c1 hor HV hx51
        generalize (L51 a).getD (8 * i / 51 + 1) 0 = y at c2 hor HV
        have hdv : (x : Int) / 2 ^ (8 * i % 51) = ((x / 2 ^ (8 * i % 51) : Nat) : Int) := by simp
        have hsl : IntKind.u64.wrap ((y : Int) * 2 ^ (51 - 8 * i % 51)) = ((y * 2 ^ (51 - 8 * i % 51) % 18446744073709551616 : Nat) : Int) := by
          rw [← m64r]
          congr 1
        have hx1 : x / 2 ^ (8 * i % 51) ≤ x := Nat.div_le_self _ _
        have hy1 : y * 2 ^ (51 - 8 * i % 51) % 18446744073709551616 ≤ 18446744073709551615 := by omega
        generalize x / 2 ^ (8 * i % 51) = xq at hdv hor HV hx1
        generalize y * 2 ^ (51 - 8 * i % 51) % 18446744073709551616 = yq at hsl hor HV hy1
        have hw8 := wrap8 (xq + yq)
        rw [HV.out] at hw8
        obtain ⟨z, hz⟩ : ∃ z, z = a / 256 ^ i % 256 := ⟨_, rfl⟩
        rw [← hz] at hw8
        have HO := hidden (out_set a i hlt32 z hz)
        generalize xq + yq = xy at hor hw8
        clear hz HV hcl hx1 hy1
        go_wp2
        go_roundw
        case rel =>
          refine ⟨i + 1, by omega, by go_num, HY.out.n.keep (S := fun k => k = gb) ((Keeps.refl (fun k => k = gb) wr).setCell (p := ⟨gb, i, none⟩) (.inl rfl) _) hgg, ?_, HY.out.k.setCell (p := ⟨gb, i, none⟩) (.inr HG.out) _⟩
          rw [heap_setCell_same _ _ _ _ _ _ HY.out.o, HO.out]
        case measure => simp [intOf]; omega
      · have h5' : ¬ 8 * (i : Int) / 51 + 1 < 5 := by omega
        have HV := hidden (by_top i a hlt32 HAP.out h5)
        generalize (L51 a).getD (8 * i / 51) 0 = x at c1 HV hx51
        have hdv : (x : Int) / 2 ^ (8 * i % 51) = ((x / 2 ^ (8 * i % 51) : Nat) : Int) := by simp
        generalize x / 2 ^ (8 * i % 51) = xq at hdv HV
        have hw8 := wrap8 xq
        rw [HV.out] at hw8
        obtain ⟨z, hz⟩ : ∃ z, z = a / 256 ^ i % 256 := ⟨_, rfl⟩
        rw [← hz] at hw8
        have HO := hidden (out_set a i hlt32 z hz)
        clear hz HV hcl
        go_wp2
        go_roundw
        case rel =>
          refine ⟨i + 1, by omega, by go_num, HY.out.n.keep (S := fun k => k = gb) ((Keeps.refl (fun k => k = gb) wr).setCell (p := ⟨gb, i, none⟩) (.inl rfl) _) hgg, ?_, HY.out.k.setCell (p := ⟨gb, i, none⟩) (.inr HG.out) _⟩
          rw [heap_setCell_same _ _ _ _ _ _ HY.out.o, HO.out]
        case measure => simp [intOf]; omega
    · have hlt' : ¬ (i : Int) < 32 := by omega
      obtain rfl : i = 32 := by omega
      go_wp2
      go_ret
      refine ⟨gb, rfl, HG.out, ?_, HY.out.k⟩
      have := HY.out.o
      rwa [Nat.sub_self, List.replicate_zero, List.append_nil] at this
end
section
open Go Go.RowKit

/-- What Mul answers where both have 32 bytes. -/
def mulL (k p : List UInt8) : List UInt8 := outL (ladderOf (clampL k) (numV p % pC)) 32
theorem mulL_length (k p : List UInt8) : (mulL k p).length = 32 := outL_length _ _
/-- What is told: new bytes beside OK, or nothing beside ErrArg. -/
structure Told (w : World) (ok : Prop) (x : List UInt8) (e : Ending) (w' : World) : Prop where
  b : Below w.heap.size w w'
  y : ok → ∃ g, e = .returned (.tuple #[.slice (some ⟨g, 0, none⟩) 32 32, .int .i64 0]) ∧ w.heap.size ≤ g ∧ w'.heap[g]? = some (.cells (bcells x).toArray 5 (0, 0))
  n : ¬ ok → e = .returned (.tuple #[.slice none 0 0, .int .i64 1])

set_option maxHeartbeats 800000 in
set_option maxRecDepth 100000 in
theorem Mul_c (v1 v2 : Value) (k p : List UInt8) (w : World) (htp : Tp w) (h1 : BSl w v1 k) (h2 : BSl w v2 p) :
    Calls Tryd.prog 47 #[v1, v2] w (Told w (k.length = 32 ∧ p.length = 32) (mulL k p)) := by
  have H1 := hidden h1
  have H2 := hidden h2
  obtain ⟨ao1, cap1, rfl, hc1, hc2, _⟩ := h1
  obtain ⟨ao2, cap2, rfl, hc3, hc4, _⟩ := h2
  by_cases hk : k.length = 32
  · by_cases hp : p.length = 32
    · obtain ⟨SA, hSA⟩ : ∃ SA, SA = (bcells (clampL k)).toArray := ⟨_, rfl⟩
      have HA := hidden (clamped_c _ k hk w H1.out)
      have HB : Hid (∀ w', Below w.heap.size w w' → Calls Tryd.prog 82 #[.slice ao2 p.length cap2] w' fun e w'' => ∃ r, e = .returned r ∧ IsN r (numV p % pC) ∧ Ex w' w'') := fun w' hb => numberOf_c _ p hp w' (H2.out.fresh hb)
      have HC : Hid (∀ r w', IsN r (numV p % pC) → Tp w' → Calls Tryd.prog 80 #[.agg SA, r] w' fun e w'' => ∃ r2, e = .returned r2 ∧ IsN r2 (ladderOf (clampL k) (numV p % pC)) ∧ Ex w' w'') := fun r w' hr ht => by rw [hSA]; exact climb_c (clampL k) (by rw [clampL_length]; exact hk) hr w' ht
      have HTP := hidden htp
      have HX : Hid (mulL k p = outL (ladderOf (clampL k) (numV p % pC)) 32) := rfl
      generalize ladderOf (clampL k) (numV p % pC) = A at HC HX
      generalize numV p % pC = u at HB HC
      rw [← hSA] at HA
      have HK := hidden hk
      have HP := hidden hp
      rw [hk] at HA ⊢
      rw [hp] at HB ⊢
      clear hSA htp hk hp hc1 hc3
      go_enter Tryd.func47, Tryd.ntmps47
      go_wp2_with fail
      refine HA.out.mono ?_
      rintro e w1 ⟨rfl, b1⟩
      clear HA
      go_wp2_with fail
      refine (HB.out w1 b1).mono ?_
      rintro e w2 ⟨r, rfl, hr, x2⟩
      have b2 : Ex w w2 := Ex.trans b1 x2
      have HR := hidden hr
      clear HB b1 x2 hr
      go_wp2_with fail
      refine (HC.out r w2 HR.out (HTP.out.fresh b2)).mono ?_
      rintro e w3 ⟨r2, rfl, hr2, x3⟩
      have b3 : Ex w w3 := b2.trans x3
      clear HC b2 x3 HR
      go_wp2_with (first
        | (refine wpList_new (d := 6) (e := 19) (v := r2) ⟨rfl, rfl⟩ rfl rfl rfl rfl (by kernel_rfl) (by kernel_rfl) hr2 (by decide) ?_; intro g6 w4 x4 n4 l4))
      obtain ⟨R, nR, tR⟩ := n4
      have b4 : Ex w w4 := b3.trans x4
      have HD := hidden (bytes_c g6 R A tR w4 nR)
      have HG : Hid (w.heap.size ≤ g6) := by show _ ≤ _; have := b3.size; omega
      have HB4 := hidden b4
      clear hr2 b3 x4 l4 nR tR b4
      go_wp2_with fail
      refine HD.out.mono ?_
      rintro e w5 ⟨gb, rfl, l5, n5, k5⟩
      have HB5 : Hid (Below w.heap.size w w5) := Below.trans HB4.out (k5.below (B := w.heap.size) HB4.out.size (by intro k e; rw [e]; exact HG.out))
      have HL5 : Hid (w.heap.size ≤ gb) := Nat.le_trans HB4.out.size l5
      have HN5 := hidden n5
      clear HD l5 n5 k5 HB4 HG
      go_wp2
      go_ret2
      exact ⟨HB5.out, fun _ => ⟨gb, rfl, HL5.out, by rw [HX.out]; exact HN5.out⟩, fun h => absurd (by simp) h⟩
    · have hq1 : ((k.length : Int) != 32) = false := by rw [hk]; rfl
      have hq2 : ((p.length : Int) != 32) = true := by rw [bne_iff_ne]; omega
      have HNO : Hid (¬ (k.length = 32 ∧ p.length = 32)) := fun h => hp h.2
      generalize (k.length = 32 ∧ p.length = 32) = ok at HNO ⊢
      rw [hk]
      clear hk hp hc1 hc3
      go_enter Tryd.func47, Tryd.ntmps47
      go_wp2
      go_ret2
      exact ⟨Below.refl _ _, fun h => absurd h HNO.out, fun _ => rfl⟩
  · have hq1 : ((k.length : Int) != 32) = true := by rw [bne_iff_ne]; omega
    have HNO : Hid (¬ (k.length = 32 ∧ p.length = 32)) := fun h => hk h.1
    clear hk hc1 hc3
    generalize (k.length = 32 ∧ p.length = 32) = ok at HNO ⊢
    go_enter Tryd.func47, Tryd.ntmps47
    go_wp2
    go_ret2
    exact ⟨Below.refl _ _, fun h => absurd h HNO.out, fun _ => rfl⟩
/-- The base point. -/
def nineL : List UInt8 := 9 :: List.replicate 31 0
set_option maxHeartbeats 800000 in
set_option maxRecDepth 100000 in
theorem Base_c (v1 : Value) (k : List UInt8) (w : World) (htp : Tp w) (h1 : BSl w v1 k) :
    Calls Tryd.prog 20 #[v1] w (Told w (k.length = 32) (mulL k nineL)) := by
  have H1 := hidden h1
  obtain ⟨ao1, cap1, rfl, hc1, hc2, _⟩ := h1
  have HMK := made_run 32 (by omega) w
  rw [show ((32 : Nat) : Int) = 32 from rfl] at HMK
  obtain ⟨ZA, hZA⟩ : ∃ ZA, ZA = (bcells (List.replicate 32 0)).toArray := ⟨_, rfl⟩
  rw [← hZA] at HMK
  have hg0 := heap_alloc_new w (.cells ZA 5)
  have hx : Below w.heap.size w (w.alloc (.cells ZA 5)) := (Below.refl _ w).alloc (Nat.le_refl _) _
  rw [hZA] at hg0
  have hc := cell_row hg0 0
  rw [show (bcells (List.replicate 32 0))[0]? = some (.int .u8 0) from rfl] at hc
  have hf := frozen_row hg0 0
  have HN : Hid (((w.alloc (.cells ZA 5)).setCell ⟨w.heap.size, 0, none⟩ (.int .u8 9)).heap[w.heap.size]? = some (.cells (bcells nineL).toArray 5 (0, 0))) := by
    show _ = _
    rw [heap_setCell_same _ _ _ _ _ _ (by rw [hZA]; exact hg0)]
    rfl
  have HB : Hid (Below w.heap.size w ((w.alloc (.cells ZA 5)).setCell ⟨w.heap.size, 0, none⟩ (.int .u8 9))) := hx.setCell (Nat.le_refl _) _
  rw [← hZA] at hc hf
  have HTP := hidden htp
  clear hg0 hx hZA htp
  generalize w.alloc (.cells ZA 5) = w1 at HMK hc hf HN HB
  go_enter Tryd.func20, Tryd.ntmps20
  go_wp2_with fail
  generalize w1.setCell ⟨w.heap.size, 0, none⟩ (.int .u8 9) = w2 at HN HB ⊢
  have HV2 := hidden (BSl.ofBlock HN.out (by decide))
  have HC := hidden (Mul_c _ _ k nineL w2 (HTP.out.fresh HB.out) (H1.out.fresh HB.out) HV2.out)
  have h32 : nineL.length = 32 := by decide
  rw [show nineL.length = 32 from h32] at HC
  clear HMK hc hf h32
  refine HC.out.mono ?_
  intro e w3 hT
  have HB3 : Hid (Below w.heap.size w w3) := Below.trans HB.out (hT.b.mono HB.out.size)
  have HSZ := hidden HB.out.size
  clear HC HV2 HN HTP
  by_cases hk : k.length = 32
  · obtain ⟨g, rfl, l3, n3⟩ := hT.y ⟨hk, rfl⟩
    have HK := hidden hk
    have HL3 : Hid (w.heap.size ≤ g) := Nat.le_trans HSZ.out l3
    have HN3 := hidden n3
    clear hT hk l3 n3 HSZ
    go_wp2
    go_ret2
    exact ⟨HB3.out, fun _ => ⟨g, rfl, HL3.out, HN3.out⟩, fun h => absurd HK.out h⟩
  · have hn := hT.n (fun h => hk h.1)
    subst hn
    have HK := hidden hk
    clear hT hk
    go_wp2
    go_ret2
    exact ⟨HB3.out, fun h => absurd h HK.out, fun _ => rfl⟩
end
end Go.Proofs.YtookapglookphaaDoor
