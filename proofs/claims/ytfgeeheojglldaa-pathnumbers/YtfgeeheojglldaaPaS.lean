/- Appends in a region that draws its order; the walk of the law PathNames. -/
import Derived.Test.YtfgeeheojglldaaPaR
import Derived.Deep.CutRange
import Derived.Deep.CutBlock
import Derived.Deep.RegionLaw
namespace Go.Proofs.Ytfgeeheojglldaa
open Go Go.RowKit

/-- Append onto a row of texts of one's own, at a step of a region that draws its order. -/
theorem step_str {ops : Array Oper} {o : Oper} {a : Act} {W : World} {K : Act → World → Prop} {Q : Exit → Act → World → Prop} {E : Prop} (hgd : o.guard = none) (s xo : Operand)
    (ho : o.op = .call { callee := .builtin .append, args := #[s, xo], argTypes := #[24, 24] })
    (w0 : World) (B : Nat) (v : Value) (xs : List ByteArray) (hsv : a.eval s = v) (hown : SOwn W B v xs) (hb : Below B w0 W) (hB : B ≤ w0.heap.size)
    (x : Value) (ys : List ByteArray) (hx : a.eval xo = x) (hs : Src Try.prog 1 24 x ys.length (ys.map Value.string) W)
    (hl : xs.length + ys.length ≤ 100000)
    (h : ∀ ao n c w', n = (xs ++ ys).length → SOwn w' B (.slice ao n c) (xs ++ ys) → Below B w0 w' → W.grownBy w' v.ownBlock → K (a.put o.dst (.slice ao n c)) w') :
    if Region.wanted o (yielded ops a.tmps) = true then Oper.wp Try.prog o a W K Q else E := by
  obtain ⟨i0, hi, hz0, hz1, hz2⟩ := info_parts Try.infoStr
  refine step_append_src W hgd s xo 24 24 ho B 9 i0 _ 16 Try.underlying24 hi hz0 hz1 hz2 rfl v xs.length _ hsv hown x ys.length _ hx hs (by unfold maxLen; omega) (by omega) (Nat.le_trans hB hb.size) W.heap.size rfl ?_
  intro v' w' h1 h2 _ _
  have h3 : SOwn w' B v' (xs ++ ys) := by
    unfold SOwn
    rw [List.length_append, List.map_append]
    exact h1
  obtain ⟨ao, cap, rfl⟩ := h3.len
  exact h ao _ cap w' rfl h3 (hb.grown h2 (Nat.le_trans hB hb.size) (fun g hg => (hown.lt g hg).1)) h2
theorem own_at {W : World} {B g : Nat} (hB : B ≤ g) (hh : W.heap[g]? = some (.cells #[] 9 (0, 0))) : SOwn W B (.slice (some ⟨g, 0, none⟩) 0 0) [] :=
  ⟨rfl, .inr ⟨g, 0, #[], rfl, hB, hh, Nat.le_refl _, by simp [maxLen], rfl, rfl⟩⟩
theorem SOwn.alloc {w : World} {base : Nat} {v : Value} {ss : List ByteArray} (h : SOwn w base v ss) (o : Obj) : SOwn (w.alloc o) base v ss := World.ownsRow.alloc h o
theorem heap_new_at {w : World} {o : Obj} {k : Nat} (h : k = w.heap.size) : (w.alloc o).heap[k]? = some o := by subst h; exact heap_alloc_new w o
theorem heap_old {w : World} {o p : Obj} {k : Nat} (h : w.heap[k]? = some p) : (w.alloc o).heap[k]? = some p := by
  rw [Below.heap_alloc w o k (Array.getElem?_eq_some_iff.1 h).1]; exact h
/-- A list's parts. -/
theorem SSl.takeS {w : World} {ao : Option Addr} {n cap k : Nat} {ss : List ByteArray} (h : SSl w (.slice ao n cap) ss) (hk : k ≤ ss.length) : SSl w (.slice ao k cap) (ss.take k) := by
  obtain ⟨ao', cap', e, h1, h2, h3, h4⟩ := h
  cases e
  refine ⟨ao, cap, by simp; omega, by simp; omega, h2, (fun e => ?_), (fun ad e hne => ?_)⟩
  · obtain ⟨rfl, rfl⟩ := h3 e
    exact ⟨by simp, rfl⟩
  · obtain ⟨b, off, rfl, hc⟩ := h4 ad e (by rintro rfl; simp at hne)
    refine ⟨b, off, rfl, fun j x hx => hc j x ?_⟩
    rw [List.getElem?_take] at hx
    split at hx
    · exact hx
    · cases hx
theorem SSl.dropS {w : World} {b o n cap k : Nat} {ss : List ByteArray} (h : SSl w (.slice (some ⟨b, o, none⟩) n cap) ss) (hk : k ≤ ss.length) : SSl w (.slice (some ⟨b, o + k, none⟩) (n - k) (cap - k)) (ss.drop k) := by
  obtain ⟨ao', cap', e, h1, h2, h3, h4⟩ := h
  cases e
  refine ⟨some ⟨b, o + k, none⟩, cap - k, by simp, by simp; omega, by omega, (fun e => by cases e), (fun ad e hne => ?_)⟩
  cases e
  obtain ⟨b', off, e2, hc⟩ := h4 _ rfl (by rintro rfl; simp at hne)
  cases e2
  refine ⟨b, o + k, rfl, fun j x hx => ?_⟩
  rw [List.getElem?_drop] at hx
  have := hc (k + j) x hx
  rwa [← Nat.add_assoc] at this

set_option maxHeartbeats 3200000 in
set_option maxRecDepth 100000 in
theorem pathNames_c (v : Value) (l : List ByteArray) (bad : ByteArray) (at_ : Int) (hat1 : -9223372036854775808 ≤ at_) (hat2 : at_ ≤ 9223372036854775807) (w : World) (hv : SSl w v l) :
    Calls Try.prog 6 #[v, .string bad, .int .i64 at_] w fun e w' => e = .returned (.bool true) ∧ Below w.heap.size w w' := by
  obtain ⟨i0, hi, hz0, hz1, hz2⟩ := info_parts Try.infoStr
  have HV := hidden hv
  obtain ⟨va, vc, rfl, hvc, hvm, _⟩ := hv
  unfold maxLen at hvm
  go_enter Try.func6, Try.ntmps6
  go_upto_block 0 with fail
  go_cut [7, 8, 9] from 16 to 55 (fun o _ _ wx => ∃ N : List ByteArray, N.length ≤ 6 ∧ (flat N).length ≤ 150 ∧ (∀ s ∈ N, rightP s.data.toList = true) ∧ SOwn wx w.heap.size o N ∧ Below w.heap.size w wx)
  case first =>
    go_wp2_with fail
    go_loopw [7, 8, 9] (fun o z i wr => ∃ (k : Nat) (N : List ByteArray), k ≤ l.length ∧ k ≤ 6 ∧ i = .int .i64 k ∧ z = .int .i64 ((flat N).length : Nat) ∧ N.length ≤ k ∧ (flat N).length ≤ 150 ∧ (∀ s ∈ N, rightP s.data.toList = true) ∧ SOwn wr w.heap.size o N ∧ Below w.heap.size w wr) (fun _ _ i _ => l.length - (intOf i).toNat)
    case atStart => exact ⟨0, [], Nat.zero_le _, Nat.zero_le _, rfl, rfl, by simp, by simp [flat], by simp, SOwn.nil _ _, Below.refl _ _⟩
    case round =>
      obtain ⟨k, N, hk, hk6, rfl, rfl, hNl, hfl, hall, ho, hb⟩ := hrel
      have HO := hidden ho
      have HB := hidden hb
      have HALL := hidden hall
      clear ho hb hall
      obtain ⟨na, nc, rfl⟩ := HO.out.len
      by_cases hlt : k < l.length
      · have hi1 : (k : Int) < (l.length : Int) := by omega
        by_cases hlt6 : k < 6
        · have hi2 : (k : Int) < 6 := by omega
          obtain ⟨b1, o1, rfl⟩ := HV.out.addr' (by rintro rfl; simp at hlt)
          have x0 := HV.out.cellAt k hlt
          have x1 := (Keeps.ofFresh (S := fun _ => False) HB.out).cell x0 (fun h => h)
          generalize l[k] = n at x0 x1
          have X0 := hidden x0
          clear x0
          have HR := hidden (right_c n)
          cases hr : rightP n.data.toList with
          | false =>
            rw [hr] at HR
            go_wp2_with fail
            refine (HR.out _).mono ?_
            rintro e w1 ⟨rfl, rfl⟩
            go_wp2
            go_roundw
            case rel => exact ⟨k + 1, N, by omega, by omega, by go_num, rfl, by omega, hfl, HALL.out, HO.out, HB.out⟩
            case measure => simp [intOf]; omega
          | true =>
            rw [hr] at HR
            have hns : n.size ≤ 30 := by rw [size_len]; exact ((rightP_iff _).1 hr).2.1
            have HAN : Hid (∀ s ∈ N ++ [n], rightP s.data.toList = true) := fun s hs => by
              rcases List.mem_append.1 hs with h | h
              · exact HALL.out s h
              · rw [List.mem_singleton.1 h]; exact hr
            have HFN : Hid ((flat (N ++ [n])).length = (flat N).length + 1 + n.size) := by
              show _ = _
              rw [flat_append, List.length_append, size_len]
              simp [flat]
              omega
            by_cases h150 : (flat N).length + n.size < 150
            · have hi3 : ((flat N).length : Int) + (n.size : Int) < 150 := by omega
              clear hr
              generalize hz : (flat N).length = z at hfl h150 hi3 HFN
              have HZ := hidden hz
              clear hz
              go_wp2_with fail
              refine (HR.out _).mono ?_
              rintro e w1 ⟨rfl, rfl⟩
              go_wp2_with (at_builtin; refine wpList_append_src _ rfl (.tmp 41) (.tmp 46) 24 24 rfl w.heap.size 9 i0 _ 16 Try.underlying24 hi hz0 hz1 hz2 rfl _ _ _ rfl (HO.out.alloc _) _ 1 [.string n] rfl (srcStr1 n) (by unfold maxLen; omega) (by omega) (by have := HB.out.size; simp; omega) (w1.heap.size + 1) (by simp) ?_)
              intro v' w2 hown' hgrow hnil hat
              obtain ⟨ao', cp', rfl⟩ := ownsRow_shape hown'
              have HO2 := hidden hown'
              have HB2 := hidden ((HB.out.alloc HB.out.size _).grown hgrow (by have := HB.out.size; simp; omega) (fun g hg => (HO.out.lt g hg).1))
              have x2 := (Keeps.ofFresh (S := fun _ => False) HB2.out).cell X0.out (fun h => h)
              clear hown' hgrow hnil hat
              go_wp2
              go_roundw
              case rel =>
                refine ⟨k + 1, N ++ [n], by omega, by omega, by go_num, by rw [HFN.out]; go_num, by simp; omega, by rw [HFN.out]; omega, HAN.out, ?_, HB2.out⟩
                unfold SOwn
                rw [List.length_append, List.map_append]
                exact HO2.out
              case measure => simp [intOf]; omega
            · have hi3 : ¬ ((flat N).length : Int) + (n.size : Int) < 150 := by omega
              clear hr
              generalize hz : (flat N).length = z at hfl h150 hi3 HFN
              have HZ := hidden hz
              clear hz
              go_wp2_with fail
              refine (HR.out _).mono ?_
              rintro e w1 ⟨rfl, rfl⟩
              go_wp2
              go_roundw
              case rel => exact ⟨k + 1, N, by omega, by omega, by go_num, by rw [HZ.out], by omega, by rw [HZ.out]; exact hfl, HALL.out, HO.out, HB.out⟩
              case measure => simp [intOf]; omega
        · have hi2 : ¬ (k : Int) < 6 := by omega
          go_wp2
          go_meet
          case rel => exact ⟨N, by omega, hfl, HALL.out, HO.out, HB.out⟩
      · have hi1 : ¬ (k : Int) < (l.length : Int) := by omega
        go_wp2
        go_meet
        case rel => exact ⟨N, by omega, hfl, HALL.out, HO.out, HB.out⟩
  case rest =>
    obtain ⟨N, hNl, hfl, hall, ho, hb⟩ := hcut
    have hjl : (joinP N).length ≤ 150 := by
      by_cases h : N = []
      · subst h; simp [joinP]
      · rw [joinP_flat h]; exact hfl
    have HJ := hidden (fun v W (hv : SSl W v N) => join_c v N W hv (by omega))
    have HS := hidden (fun W => split_known (tb (joinP N)) W (by rw [tb_size]; omega) N (by rw [tb_list]; exact goP_join N hall))
    have HALL := hidden hall
    have HO := hidden ho
    have HB := hidden hb
    clear ho hb hall hjl hvc hvm
    obtain ⟨na, nc, rfl⟩ := HO.out.len
    generalize tb (joinP N) = C at HJ HS
    go_wp2_with fail
    refine (HJ.out _ _ HO.out.ssl).mono ?_
    rintro e w2 ⟨rfl, hb2⟩
    have HB2 := hidden (HB.out.trans (hb2.mono HB.out.size))
    have HO2 := hidden (HO.out.fresh hb2)
    clear hb2
    go_wp2_with fail
    refine (HS.out _).mono ?_
    rintro e w3 ⟨v3, rfl, ho3, hb3⟩
    have HB3 := hidden (HB2.out.trans (hb3.mono HB2.out.size))
    have HO3 := hidden (HO2.out.fresh hb3)
    have HA3 := hidden ho3.ssl
    clear hb3 ho3
    go_wp2_with fail
    refine (texts_c _ _ N N _ HA3.out HO3.out.ssl).mono ?_
    rintro e w4 ⟨rfl, q, rfl⟩
    rw [show decide (N = N) = true by simp]
    have HB4 := hidden (below_drewN HB3.out q)
    have HO4 : Hid (SOwn (w3.drewN q) w.heap.size (.slice na N.length nc) N) := HO3.out
    clear HB3 HO3 HA3 HO2 HB2 HO HB HS HJ
    generalize w3.drewN q = w4 at HB4 HO4 ⊢
    go_wp2_with fail
    refine (head_c bad 33 (by omega) _).mono ?_
    rintro e w5 ⟨rfl, rfl⟩
    have hbs : (bad.extract 0 33).size ≤ 33 := by simp; omega
    generalize bad.extract 0 33 = bad at hbs ⊢
    go_upto_if 73 with fail
    go_cut [2] from 74 to 76 (fun u wx => ∃ a : Nat, u = .int .i64 a ∧ a ≤ 9223372036854775807 ∧ wx = w5)
    case first =>
      by_cases hneg : at_ < 0
      · obtain ⟨m, hm⟩ : ∃ m : Nat, at_ = -(m : Int) - 1 := ⟨(-at_ - 1).toNat, by omega⟩
        subst hm
        go_wp2_with fail
        go_meet
        case rel => exact ⟨m, rfl, by omega, rfl⟩
      · obtain ⟨m, rfl⟩ : ∃ m : Nat, at_ = (m : Int) := ⟨at_.toNat, by omega⟩
        go_wp2_with fail
        go_meet
        case rel => exact ⟨m, rfl, by omega, rfl⟩
    case rest =>
      obtain ⟨a, hu, ha, hw⟩ := hcut
      subst hu
      subst hw
      go_upto_region 16 with fail
      have hk : ((a : Int) % ((N.length : Int) + 1)) = ((a % (N.length + 1) : Nat) : Int) := by push_cast; rfl
      rw [hk]
      have hj : a % (N.length + 1) ≤ N.length := by have := Nat.mod_lt a (show 0 < N.length + 1 by omega); omega
      generalize a % (N.length + 1) = j at hj
      clear hk ha
      go_cut [13] from 82 to 93 (fun v wx => SOwn wx wc.heap.size v (N.take j ++ [bad] ++ N.drop j) ∧ Below wc.heap.size wc wx)
      case first =>
        have HT := hidden (HO4.out.ssl.takeS hj)
        have htl : (N.take j).length = j := by simp; omega
        have hj1 : (j : Int) ≤ (N.length : Int) := by omega
        have hcap : N.length ≤ nc := by
          obtain ⟨_, _, e, h1, _⟩ := HO4.out.ssl
          cases e
          exact h1
        have hj2 : (j : Int) ≤ (nc : Int) := by omega
        cases na with
        | none =>
          obtain ⟨rfl, rfl⟩ : N = [] ∧ nc = 0 := by
            rcases HO4.out.2 with ⟨e, h0⟩ | ⟨g, c, cur, e, _⟩
            · injection e with e1 e2 e3
              exact ⟨List.eq_nil_of_length_eq_zero h0, e3⟩
            · cases e
          obtain rfl : j = 0 := by simpa using hj
          have HD := HT
          clear hj1 hj2 hj hcap
          go_region_law (first
            | (refine step_str (by rfl) (.tmp 82) (.tmp 85) (by rfl) wc wc.heap.size _ [] (by rfl) (own_at (by simp) (by repeat (first | exact heap_new_at (by simp) | refine heap_old ?_))) (by repeat (first | exact Below.refl _ _ | refine Below.drew ?_ | refine Below.alloc ?_ (by simp) _)) (Nat.le_refl _) _ [] (by rfl) (SSl.src (HT.out.fresh (by repeat (first | exact Below.refl _ _ | refine Below.drew ?_ | refine Below.alloc ?_ (by simp) _)))) (by first | (simp; done) | (simp; omega)) ?_; intro ao1 n1 c1 w1 hn1 ho1 hb1 hg1; (have e1 : n1 = 0 := by rw [hn1]; rfl); rw [e1] at ho1 ⊢; clear e1 hn1)
            | (refine step_str (by rfl) (.tmp 86) (.tmp 88) (by rfl) wc wc.heap.size _ _ (by rfl) (SOwn.alloc ho1 _) (Below.alloc hb1 (by have := hb1.size; omega) _) (Nat.le_refl _) _ [bad] (by rfl) (srcStr1 bad) (by first | (simp; done) | (simp; omega)) ?_; intro ao2 n2 c2 w2 hn2 ho2 hb2 hg2; (have e2 : n2 = 0 + 1 := by rw [hn2]; rfl); rw [e2] at ho2 ⊢; clear e2 hn2)
            | (refine step_str (by rfl) (.tmp 89) (.tmp 92) (by rfl) wc wc.heap.size _ _ (by rfl) ho2 hb2 (Nat.le_refl _) _ [] (by rfl) (SSl.src (HD.out.fresh hb2)) (by first | (simp; done) | (simp; omega)) ?_; intro ao3 n3 c3 w3 hn3 ho3 hb3 hg3; (have e3 : n3 = 0 + 1 := by rw [hn3]; rfl); rw [e3] at ho3 ⊢; clear e3 hn3)
            | (refine step_str (by rfl) (.tmp 86) (.tmp 88) (by rfl) wc wc.heap.size _ _ (by rfl) ho1 hb1 (Nat.le_refl _) _ [bad] (by rfl) (srcStr ((hg1.block _ (by first | (simp; done) | (simp; omega)) (by simp [Value.ownBlock])).trans (by repeat (first | exact heap_new_at (by simp) | refine heap_old ?_)))) (by first | (simp; done) | (simp; omega)) ?_; intro ao2 n2 c2 w2 hn2 ho2 hb2 hg2; (have e2 : n2 = 0 + 1 := by rw [hn2]; rfl); rw [e2] at ho2 ⊢; clear e2 hn2)
            | fail)
          all_goals
            go_wp2_with fail
            go_meet
            case rel => exact ⟨ho3, hb3⟩
        | some ad =>
          obtain ⟨g, rfl⟩ : ∃ g, ad = ⟨g, 0, none⟩ := by
            rcases HO4.out.2 with ⟨e, _⟩ | ⟨g, c, cur, e, _⟩
            · cases e
            · cases e; exact ⟨g, rfl⟩
          have hd0 := HO4.out.ssl.dropS hj
          rw [Nat.zero_add] at hd0
          have HD := hidden hd0
          clear hd0
          by_cases hcj : nc = j
          · have hcj2 : ((nc : Int) = (j : Int)) := by omega
            have hd0 : N.drop j = [] := List.drop_of_length_le (by omega)
            clear HD
            have HD : Hid (SSl wc (.slice (some ⟨g, 0, none⟩) 0 0) []) := ⟨_, 0, rfl, Nat.le_refl _, by simp [maxLen], (fun _ => ⟨rfl, rfl⟩), (fun ad _ h => absurd rfl h)⟩
            have HD0 := hidden hd0
            clear hd0
            subst nc
            go_region_law (first
              | (refine step_str (by rfl) (.tmp 82) (.tmp 85) (by rfl) wc wc.heap.size _ [] (by rfl) (own_at (by simp) (by repeat (first | exact heap_new_at (by simp) | refine heap_old ?_))) (by repeat (first | exact Below.refl _ _ | refine Below.drew ?_ | refine Below.alloc ?_ (by simp) _)) (Nat.le_refl _) _ (N.take j) (by rfl) (SSl.src (HT.out.fresh (by repeat (first | exact Below.refl _ _ | refine Below.drew ?_ | refine Below.alloc ?_ (by simp) _)))) (by first | (simp; done) | (simp; omega)) ?_; intro ao1 n1 c1 w1 hn1 ho1 hb1 hg1; (have e1 : n1 = j := by rw [hn1]; (first | (simp; done) | (simp; omega))); rw [e1] at ho1 ⊢; clear e1 hn1)
              | (refine step_str (by rfl) (.tmp 86) (.tmp 88) (by rfl) wc wc.heap.size _ _ (by rfl) (SOwn.alloc ho1 _) (Below.alloc hb1 (by have := hb1.size; omega) _) (Nat.le_refl _) _ [bad] (by rfl) (srcStr1 bad) (by first | (simp; done) | (simp; omega)) ?_; intro ao2 n2 c2 w2 hn2 ho2 hb2 hg2; (have e2 : n2 = j + 1 := by rw [hn2]; (first | (simp; done) | (simp; omega))); rw [e2] at ho2 ⊢; clear e2 hn2)
              | (refine step_str (by rfl) (.tmp 89) (.tmp 92) (by rfl) wc wc.heap.size _ _ (by rfl) ho2 hb2 (Nat.le_refl _) _ [] (by rfl) (SSl.src (HD.out.fresh hb2)) (by first | (simp; done) | (simp; omega)) ?_; intro ao3 n3 c3 w3 hn3 ho3 hb3 hg3; (have e3 : n3 = N.length + 1 := by rw [hn3]; (first | (simp; done) | (simp; omega))); rw [e3] at ho3 ⊢; clear e3 hn3)
              | (refine step_str (by rfl) (.tmp 86) (.tmp 88) (by rfl) wc wc.heap.size _ _ (by rfl) ho1 hb1 (Nat.le_refl _) _ [bad] (by rfl) (srcStr ((hg1.block _ (by first | (simp; done) | (simp; omega)) (by simp [Value.ownBlock])).trans (by repeat (first | exact heap_new_at (by simp) | refine heap_old ?_)))) (by first | (simp; done) | (simp; omega)) ?_; intro ao2 n2 c2 w2 hn2 ho2 hb2 hg2; (have e2 : n2 = j + 1 := by rw [hn2]; (first | (simp; done) | (simp; omega))); rw [e2] at ho2 ⊢; clear e2 hn2)
              | fail)
            all_goals
              go_wp2_with fail
              go_meet
              case rel => exact ⟨by rw [HD0.out]; exact ho3, hb3⟩
          · have hcj2 : ¬ ((nc : Int) = (j : Int)) := by omega
            go_region_law (first
              | (refine step_str (by rfl) (.tmp 82) (.tmp 85) (by rfl) wc wc.heap.size _ [] (by rfl) (own_at (by simp) (by repeat (first | exact heap_new_at (by simp) | refine heap_old ?_))) (by repeat (first | exact Below.refl _ _ | refine Below.drew ?_ | refine Below.alloc ?_ (by simp) _)) (Nat.le_refl _) _ (N.take j) (by rfl) (SSl.src (HT.out.fresh (by repeat (first | exact Below.refl _ _ | refine Below.drew ?_ | refine Below.alloc ?_ (by simp) _)))) (by first | (simp; done) | (simp; omega)) ?_; intro ao1 n1 c1 w1 hn1 ho1 hb1 hg1; (have e1 : n1 = j := by rw [hn1]; (first | (simp; done) | (simp; omega))); rw [e1] at ho1 ⊢; clear e1 hn1)
              | (refine step_str (by rfl) (.tmp 86) (.tmp 88) (by rfl) wc wc.heap.size _ _ (by rfl) (SOwn.alloc ho1 _) (Below.alloc hb1 (by have := hb1.size; omega) _) (Nat.le_refl _) _ [bad] (by rfl) (srcStr1 bad) (by first | (simp; done) | (simp; omega)) ?_; intro ao2 n2 c2 w2 hn2 ho2 hb2 hg2; (have e2 : n2 = j + 1 := by rw [hn2]; (first | (simp; done) | (simp; omega))); rw [e2] at ho2 ⊢; clear e2 hn2)
              | (refine step_str (by rfl) (.tmp 89) (.tmp 92) (by rfl) wc wc.heap.size _ _ (by rfl) ho2 hb2 (Nat.le_refl _) _ (N.drop j) (by rfl) (SSl.src (HD.out.fresh hb2)) (by first | (simp; done) | (simp; omega)) ?_; intro ao3 n3 c3 w3 hn3 ho3 hb3 hg3; (have e3 : n3 = N.length + 1 := by rw [hn3]; (first | (simp; done) | (simp; omega))); rw [e3] at ho3 ⊢; clear e3 hn3)
              | (refine step_str (by rfl) (.tmp 86) (.tmp 88) (by rfl) wc wc.heap.size _ _ (by rfl) ho1 hb1 (Nat.le_refl _) _ [bad] (by rfl) (srcStr ((hg1.block _ (by first | (simp; done) | (simp; omega)) (by simp [Value.ownBlock])).trans (by repeat (first | exact heap_new_at (by simp) | refine heap_old ?_)))) (by first | (simp; done) | (simp; omega)) ?_; intro ao2 n2 c2 w2 hn2 ho2 hb2 hg2; (have e2 : n2 = j + 1 := by rw [hn2]; (first | (simp; done) | (simp; omega))); rw [e2] at ho2 ⊢; clear e2 hn2)
              | fail)
            all_goals
              go_wp2_with fail
              go_meet
              case rel => exact ⟨ho3, hb3⟩
      case rest =>
        obtain ⟨hoA, hbA⟩ := hcut
        have hAl : (flat (N.take j ++ [bad] ++ N.drop j)).length ≤ 184 := by
          rw [flat_append, flat_append, List.length_append, List.length_append]
          have h1 : (flat N).length = (flat (N.take j)).length + (flat (N.drop j)).length := by
            conv => lhs; rw [← List.take_append_drop j N, flat_append, List.length_append]
          have h2 : (flat [bad]).length = 1 + bad.size := by rw [size_len]; simp [flat]; omega
          omega
        have hne : N.take j ++ [bad] ++ N.drop j ≠ [] := by simp
        have hjA := joinP_flat hne
        have hmem : bad ∈ N.take j ++ [bad] ++ N.drop j := by simp
        have hri : rightP bad.data.toList = true → ∀ s ∈ N.take j ++ [bad] ++ N.drop j, rightP s.data.toList = true := fun h s hs => by
          rcases List.mem_append.1 hs with h1 | h1
          · rcases List.mem_append.1 h1 with h2 | h2
            · exact HALL.out s (List.mem_of_mem_take h2)
            · rw [List.mem_singleton.1 h2]; exact h
          · exact HALL.out s (List.mem_of_mem_drop h1)
        generalize N.take j ++ [bad] ++ N.drop j = A at hoA hAl hne hjA hmem hri
        have HJA := hidden (fun v W (hv : SSl W v A) => join_c v A W hv (by omega))
        have hsz : (tb (joinP A)).size ≤ 200 := by rw [tb_size, hjA]; omega
        have HOA := hidden hoA
        have HBA := hidden (HB4.out.trans (hbA.mono HB4.out.size))
        obtain ⟨oa, oc, rfl⟩ := HOA.out.len
        have HR := hidden (right_c bad)
        clear hoA hbA hne hAl HO4 HB4 HALL hfl hNl
        cases hr : rightP bad.data.toList with
        | true =>
          have HSA := hidden (fun W => split_known (tb (joinP A)) W hsz A (by rw [tb_list]; exact goP_join A (hri hr)))
          rw [hr] at HR
          clear hri hr hmem hjA hsz
          generalize tb (joinP A) = CA at HJA HSA
          go_wp2_with fail
          refine (HJA.out _ _ HOA.out.ssl).mono ?_
          rintro e w7 ⟨rfl, hb7⟩
          have HB7 := hidden (HBA.out.trans (hb7.mono HBA.out.size))
          have HO7 := hidden (HOA.out.fresh hb7)
          clear hb7
          go_wp2_with fail
          refine (HSA.out _).mono ?_
          rintro e w8 ⟨v8, rfl, ho8, hb8⟩
          have HB8 := hidden (HB7.out.trans (hb8.mono HB7.out.size))
          have HO8 := hidden (HO7.out.fresh hb8)
          have HX8 := hidden ho8.ssl
          clear hb8 ho8
          go_wp2_with fail
          refine (HR.out _).mono ?_
          rintro e w9 ⟨rfl, rfl⟩
          go_wp2_with fail
          refine (texts_c _ _ A A _ HX8.out HO8.out.ssl).mono ?_
          rintro e w10 ⟨rfl, q2, rfl⟩
          rw [show decide (A = A) = true by simp]
          have HB10 := hidden (below_drewN HB8.out q2)
          go_wp2_with fail
          refine (known_c _).mono ?_
          rintro e w11 ⟨rfl, hb11⟩
          have HB11 := hidden (HB10.out.trans (hb11.mono HB10.out.size))
          go_wp2
          go_ret
          exact ⟨rfl, HB11.out⟩
        | false =>
          rw [hr] at HR
          cases hg : goP [] [] (joinP A) with
          | none =>
            have HSA : Hid (∀ W, Calls Try.prog 9 #[.string (tb (joinP A))] W fun e w' => ∃ v, e = .returned (.tuple #[v, .int .i64 20]) ∧ SOwn w' W.heap.size v [] ∧ Below W.heap.size W w') := fun W => by
              have h1 := split_c (tb (joinP A)) W (by omega)
              obtain ⟨x, y, _⟩ := split_no (s := (tb (joinP A)).data.toList) (by rw [← size_len]; exact hsz) (by rw [tb_list]; exact hg)
              rw [x, y] at h1
              exact h1
            clear hri hr hmem hjA hsz hg
            generalize tb (joinP A) = CA at HJA HSA
            go_wp2_with fail
            refine (HJA.out _ _ HOA.out.ssl).mono ?_
            rintro e w7 ⟨rfl, hb7⟩
            have HB7 := hidden (HBA.out.trans (hb7.mono HBA.out.size))
            clear hb7
            go_wp2_with fail
            refine (HSA.out _).mono ?_
            rintro e w8 ⟨v8, rfl, ho8, hb8⟩
            have HB8 := hidden (HB7.out.trans (hb8.mono HB7.out.size))
            clear hb8 ho8
            go_wp2_with fail
            refine (HR.out _).mono ?_
            rintro e w9 ⟨rfl, rfl⟩
            go_wp2_with fail
            refine (known_c _).mono ?_
            rintro e w11 ⟨rfl, hb11⟩
            have HB11 := hidden (HB8.out.trans (hb11.mono HB8.out.size))
            go_wp2
            go_ret
            exact ⟨rfl, HB11.out⟩
          | some M =>
            have hMA : M ≠ A := fun e => by subst e; exact goP_wrong hmem hr hg
            have HSA := hidden (fun W => split_known (tb (joinP A)) W hsz M (by rw [tb_list]; exact hg))
            have HMA := hidden hMA
            clear hri hr hmem hjA hsz hg hMA
            generalize tb (joinP A) = CA at HJA HSA
            go_wp2_with fail
            refine (HJA.out _ _ HOA.out.ssl).mono ?_
            rintro e w7 ⟨rfl, hb7⟩
            have HB7 := hidden (HBA.out.trans (hb7.mono HBA.out.size))
            have HO7 := hidden (HOA.out.fresh hb7)
            clear hb7
            go_wp2_with fail
            refine (HSA.out _).mono ?_
            rintro e w8 ⟨v8, rfl, ho8, hb8⟩
            have HB8 := hidden (HB7.out.trans (hb8.mono HB7.out.size))
            have HO8 := hidden (HO7.out.fresh hb8)
            have HX8 := hidden ho8.ssl
            clear hb8 ho8
            go_wp2_with fail
            refine (HR.out _).mono ?_
            rintro e w9 ⟨rfl, rfl⟩
            go_wp2_with fail
            refine (texts_c _ _ M A _ HX8.out HO8.out.ssl).mono ?_
            rintro e w10 ⟨rfl, q2, rfl⟩
            rw [show decide (M = A) = false from decide_eq_false HMA.out]
            have HB10 := hidden (below_drewN HB8.out q2)
            go_wp2_with fail
            refine (known_c _).mono ?_
            rintro e w11 ⟨rfl, hb11⟩
            have HB11 := hidden (HB10.out.trans (hb11.mono HB10.out.size))
            go_wp2
            go_ret
            exact ⟨rfl, HB11.out⟩
end Go.Proofs.Ytfgeeheojglldaa
