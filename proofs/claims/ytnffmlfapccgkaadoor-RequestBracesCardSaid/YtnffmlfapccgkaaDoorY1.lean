/- Braces, both ways. -/
import Derived.Test.YtnffmlfapccgkaaDoorX2
namespace Go.Proofs.YtnffmlfapccgkaaDoor
open Go.RowKit Go.Shelf
set_option maxRecDepth 100000
set_option linter.unusedSimpArgs false
set_option linter.unusedVariables false
/-- The depth behind, and the place behind the brace that ends. -/
def brS : List UInt8 → Nat → Nat → Nat × Int
  | [], _, d => (d, -1)
  | [_], _, d => (d, -1)
  | c :: e :: t, p, d => if c = 92 then (if e = 123 then brS t (p + 2) (d + 1) else if e = 125 then (if d = 1 then (0, ((p + 2 : Nat) : Int)) else brS t (p + 2) (d - 1)) else brS t (p + 2) d) else brS (e :: t) (p + 1) d
def bR (l : List UInt8) (j d : Nat) : Nat × Int := brS (l.drop j) j d
theorem bR_end (l : List UInt8) (j d : Nat) (h : l.length ≤ j + 1) : bR l j d = (d, -1) := by
  unfold bR
  by_cases h2 : l.length ≤ j
  · rw [List.drop_eq_nil_of_le h2]; rfl
  · obtain ⟨c, hc⟩ := some_of l j (by omega)
    rw [drop_of hc, List.drop_eq_nil_of_le h]; rfl
theorem bR_or (l : List UInt8) (j d : Nat) (c : UInt8) (hc : l[j]? = some c) (h : c ≠ 92) : bR l j d = bR l (j + 1) d := by
  by_cases h2 : j + 1 < l.length
  · obtain ⟨e, he⟩ := some_of l (j + 1) h2
    unfold bR
    rw [drop_of hc, drop_of he]
    conv => lhs; unfold brS
    rw [if_neg h]
  · rw [bR_end l j d (by omega), bR_end l (j + 1) d (by omega)]
theorem bR_esc (l : List UInt8) (j d : Nat) (e : UInt8) (hc : l[j]? = some 92) (he : l[j + 1]? = some e) : bR l j d = if e = 123 then bR l (j + 2) (d + 1) else if e = 125 then (if d = 1 then (0, ((j + 2 : Nat) : Int)) else bR l (j + 2) (d - 1)) else bR l (j + 2) d := by
  unfold bR
  rw [drop_of hc, drop_of he]
  conv => lhs; unfold brS
  rw [if_pos rfl]
def BrR (l : List UInt8) (R : Nat × Int) (k : Nat) (dp nx at_ : Value) : Prop := ∃ j d : Nat, l.length ≤ j + k ∧ j ≤ l.length ∧ d ≤ 1000000 + j ∧ dp = .int .i64 (d : Int) ∧ nx = .int .i64 (j : Int) ∧ at_ = .int .i64 (j : Int) ∧ R = bR l j d
set_option maxHeartbeats 4000000 in
theorem braces_any (l : List UInt8) (hl : l.length ≤ 100000) (z : Int) (d0 : Nat) (hz : max z 0 = (d0 : Int)) (hd : d0 ≤ 1000000) (w : World) : Calls Tryd.prog 34 #[.string (bs l), .int .i64 z] w fun e w' => e = .returned (.tuple #[.int .i64 ((bR l 0 d0).1 : Int), .int .i64 (bR l 0 d0).2]) ∧ w = w' := by
  have HSZ := Lib.hid (bs_size l)
  have HBE := Lib.hid (fun k (hk : k < (bs l).size) W => behind_any (bs l) k hk (by rw [bs_size]; omega) W)
  rw [bs_list] at HBE
  obtain ⟨R, hR⟩ : ∃ R, R = bR l 0 d0 := ⟨_, rfl⟩
  rw [← hR]
  have HR := Lib.hid hR
  have HD := Lib.hid hd
  clear hR hd
  go_enter Tryd.func34, Tryd.ntmps34
  go_wp2_with fail
  go_loopg [1, 6, 7] l.length (fun k dp nx a wr => BrR l R k dp nx a ∧ wr = w)
  case atStart => exact ⟨⟨0, d0, by omega, Nat.zero_le _, HD.out, by go_num, rfl, rfl, HR.out⟩, rfl⟩
  case round =>
    obtain ⟨⟨j, d, hk, hj, hdj, rfl, rfl, rfl, hr⟩, hw⟩ := hrel
    subst hw
    have HK := Lib.hid hk
    have HRR := Lib.hid hr
    clear hk hr
    have hd9 : d ≤ 1100000 := by omega
    by_cases hlt : j < l.length
    · obtain ⟨c, hc⟩ := some_of l j hlt
      have hjs : j < (bs l).size := by rw [HSZ.out]; exact hlt
      have d1 : decide (j < (bs l).size) = true := decide_eq_true hjs
      have HBJ := Lib.hid (fun W => HBE.out j hjs W)
      have hbb := bh_le l j hlt
      have hbo := bh_of hc
      have hx2 : bh l j ≤ (bs l).size := by rw [HSZ.out]; exact hbb.2
      have hxj : j ≤ bh l j := by omega
      have hT : ((bs l).extract j (bh l j)).toList = seg l j (bh l j) := by rw [bs_seg _ _ _ hbb.2, Lib.toList_data, bs_list]
      by_cases hn : c = 92 ∧ j + 1 < l.length
      · obtain ⟨e, he⟩ := some_of l (j + 1) hn.2
        have hbe : bh l j = j + 2 := by have h2 := hn.2; rw [hbo, if_pos hn.1, Nat.min_eq_left (by omega)]
        have hsg : seg l j (bh l j) = [92, e] := by
          rw [hbe, ← seg_app l j (j + 1) (j + 2) (by omega) (by omega) (by omega)]
          rw [show seg l j (j + 1) = [c] from take_of hc, show seg l (j + 1) (j + 2) = [e] from take_of he, hn.1]; rfl
        rw [hsg] at hT
        have HE := Lib.hid (bR_esc l j d e (by rw [hc, hn.1]) he)
        have hx3 : bh l j ≤ l.length := hbb.2
        obtain ⟨x, hxe⟩ : ∃ x, x = bh l j := ⟨_, rfl⟩
        rw [← hxe] at HBJ hx2 hxj hT hbe hx3
        have HXE := Lib.hid hbe
        have HX3 := Lib.hid hx3
        by_cases h123 : e = 123
        · have u1 : (((bs l).extract j x).toList == [92, 123]) = true := by rw [hT, h123]; rfl
          rw [h123, if_pos rfl] at HE
          clear hc hbb hbo hn he hsg hT h123 hxe hbe hx3
          go_wp2_with fail
          refine (HBJ.out _).mono ?_
          rintro e w1 ⟨rfl, rfl⟩
          go_wp2_with fail
          go_roundg (gk - 1)
          case measure => have := HK.out; have := HXE.out; omega
          case rel => exact ⟨⟨x, d + 1, by have := HK.out; have := HXE.out; omega, HX3.out, by have := HXE.out; omega, by go_num, by go_num, by go_num, by rw [HRR.out, HE.out, HXE.out]⟩, rfl⟩
        · have u1 : (((bs l).extract j x).toList == [92, 123]) = false := by rw [hT]; simp [h123]
          rw [if_neg h123] at HE
          by_cases h125 : e = 125
          · have u2 : (((bs l).extract j x).toList == [92, 125]) = true := by rw [hT, h125]; rfl
            rw [h125, if_pos rfl] at HE
            clear hc hbb hbo hn he hsg hT h123 h125 hxe hbe hx3
            by_cases hd1 : d = 1
            · have t1 : ((d : Int) == 1) = true := by rw [hd1]; rfl
              rw [if_pos hd1] at HE
              have HF := Lib.hid (show R = (0, (x : Int)) by rw [HRR.out, HE.out, HXE.out])
              clear hd1
              go_wp2_with fail
              refine (HBJ.out _).mono ?_
              rintro e w1 ⟨rfl, rfl⟩
              go_wp2_with fail
              go_ret2
              rw [HF.out]
              exact ⟨rfl, rfl⟩
            · have t1 : ((d : Int) == 1) = false := beq_eq_false_iff_ne.2 (by omega)
              rw [if_neg hd1] at HE
              by_cases hd0 : d = 0
              · have t2 : ((d : Int) != 0) = false := by rw [hd0]; rfl
                have HE2 := Lib.hid (show bR l j d = bR l (j + 2) d by rw [HE.out, hd0])
                clear hd0 hd1
                go_wp2_with fail
                refine (HBJ.out _).mono ?_
                rintro e w1 ⟨rfl, rfl⟩
                go_wp2_with fail
                go_roundg (gk - 1)
                case measure => have := HK.out; have := HXE.out; omega
                case rel => exact ⟨⟨x, d, by have := HK.out; have := HXE.out; omega, HX3.out, by have := HXE.out; omega, by go_num, by go_num, by go_num, by rw [HRR.out, HE2.out, HXE.out]⟩, rfl⟩
              · have t2 : ((d : Int) != 0) = true := by rw [bne_iff_ne]; omega
                have hdp : (d : Int) - 1 = ((d - 1 : Nat) : Int) := by omega
                clear hd1
                go_wp2_with fail
                refine (HBJ.out _).mono ?_
                rintro e w1 ⟨rfl, rfl⟩
                go_wp2_with fail
                go_roundg (gk - 1)
                case measure => have := HK.out; have := HXE.out; omega
                case rel => exact ⟨⟨x, d - 1, by have := HK.out; have := HXE.out; omega, HX3.out, by have := HXE.out; omega, by go_num, by go_num, by go_num, by rw [HRR.out, HE.out, HXE.out]⟩, rfl⟩
          · have u2 : (((bs l).extract j x).toList == [92, 125]) = false := by rw [hT]; simp [h125]
            rw [if_neg h125] at HE
            clear hc hbb hbo hn he hsg hT h123 h125 hxe hbe hx3
            go_wp2_with fail
            refine (HBJ.out _).mono ?_
            rintro e w1 ⟨rfl, rfl⟩
            go_wp2_with fail
            go_roundg (gk - 1)
            case measure => have := HK.out; have := HXE.out; omega
            case rel => exact ⟨⟨x, d, by have := HK.out; have := HXE.out; omega, HX3.out, by have := HXE.out; omega, by go_num, by go_num, by go_num, by rw [HRR.out, HE.out, HXE.out]⟩, rfl⟩
      · have hbe : bh l j = j + 1 := by
          by_cases h92 : c = 92
          · have h2 : ¬ j + 1 < l.length := fun h => hn ⟨h92, h⟩
            rw [hbo, if_pos h92, Nat.min_eq_right (by omega)]; omega
          · rw [hbo, if_neg h92]
        have HE := Lib.hid (show bR l j d = bR l (j + 1) d by
          by_cases h92 : c = 92
          · have h2 : ¬ j + 1 < l.length := fun h => hn ⟨h92, h⟩
            rw [bR_end l j d (by omega), bR_end l (j + 1) d (by omega)]
          · exact bR_or l j d c hc h92)
        have hsg : seg l j (bh l j) = [c] := by rw [hbe]; exact take_of hc
        rw [hsg] at hT
        have hx3 : bh l j ≤ l.length := hbb.2
        obtain ⟨x, hxe⟩ : ∃ x, x = bh l j := ⟨_, rfl⟩
        rw [← hxe] at HBJ hx2 hxj hT hbe hx3
        have HXE := Lib.hid hbe
        have HX3 := Lib.hid hx3
        have u1 : (((bs l).extract j x).toList == [92, 123]) = false := by rw [hT]; simp
        have u2 : (((bs l).extract j x).toList == [92, 125]) = false := by rw [hT]; simp
        clear hc hbb hbo hn hsg hT hxe hbe hx3
        go_wp2_with fail
        refine (HBJ.out _).mono ?_
        rintro e w1 ⟨rfl, rfl⟩
        go_wp2_with fail
        go_roundg (gk - 1)
        case measure => have := HK.out; have := HXE.out; omega
        case rel => exact ⟨⟨x, d, by have := HK.out; have := HXE.out; omega, HX3.out, by have := HXE.out; omega, by go_num, by go_num, by go_num, by rw [HRR.out, HE.out, HXE.out]⟩, rfl⟩
    · have d1 : decide (j < (bs l).size) = false := decide_eq_false (by rw [HSZ.out]; exact hlt)
      have HF := Lib.hid (show R = (d, -1) by rw [HRR.out, bR_end l j d (by omega)])
      go_wp2_with fail
      go_ret2
      rw [HF.out]
      exact ⟨rfl, rfl⟩
def RbR (l : List UInt8) (R : Nat × Int) (k : Nat) (dp at_ : Value) : Prop := ∃ j d : Nat, l.length ≤ j + k ∧ j ≤ l.length ∧ d ≤ 1000000 + j ∧ dp = .int .i64 (d : Int) ∧ at_ = .int .i64 (j : Int) ∧ R = bR l j d
set_option maxHeartbeats 4000000 in
theorem rbraces_any (l : List UInt8) (hl : l.length ≤ 100000) (z : Int) (d0 : Nat) (hz : max 0 z = (d0 : Int)) (hd : d0 ≤ 1000000) (w : World) : Calls Tryd.prog 35 #[.string (bs l), .int .i64 z] w fun e w' => e = .returned (.tuple #[.int .i64 ((bR l 0 d0).1 : Int), .int .i64 (bR l 0 d0).2]) ∧ w = w' := by
  have HSZ := Lib.hid (bs_size l)
  obtain ⟨R, hR⟩ : ∃ R, R = bR l 0 d0 := ⟨_, rfl⟩
  rw [← hR]
  have HR := Lib.hid hR
  have HD := Lib.hid hd
  clear hR hd
  go_enter Tryd.func35, Tryd.ntmps35
  go_wp2_with fail
  go_loopg [1, 6] l.length (fun k dp a wr => RbR l R k dp a ∧ wr = w)
  case atStart => exact ⟨⟨0, d0, by omega, Nat.zero_le _, HD.out, by go_num, rfl, HR.out⟩, rfl⟩
  case round =>
    obtain ⟨⟨j, d, hk, hj, hdj, rfl, rfl, hr⟩, hw⟩ := hrel
    subst hw
    have HK := Lib.hid hk
    have HRR := Lib.hid hr
    clear hk hr
    have hd9 : d ≤ 1100000 := by omega
    have hj9 : j ≤ 100000 := by omega
    by_cases hlt : j + 1 < l.length
    · obtain ⟨c, hc⟩ := some_of l j (by omega)
      obtain ⟨e, he⟩ := some_of l (j + 1) hlt
      have hjs : j < (bs l).size := by rw [HSZ.out]; omega
      have hjs1 : j + 1 < (bs l).size := by rw [HSZ.out]; omega
      have d1 : decide ((j : Int) + 1 < ((bs l).size : Int)) = true := decide_eq_true (by omega)
      have hat := bs_at hc hjs
      have hat1 := bs_at he hjs1
      have HL := Lib.hid hlt
      by_cases h92 : c = 92
      · have t1 : (((bs l)[j].toNat : Int) != 92) = false := by rw [hat, h92]; rfl
        have HE := Lib.hid (bR_esc l j d e (by rw [hc, h92]) he)
        by_cases h123 : e = 123
        · have t2 : ((((bs l)[j + 1]'hjs1).toNat : Int) == 123) = true := by rw [hat1, h123]; rfl
          have t3 : ((((bs l)[j + 1]'hjs1).toNat : Int) == 125) = false := by rw [hat1, h123]; rfl
          rw [h123, if_pos rfl] at HE
          clear hc he hat hat1 h92 h123 hlt
          go_wp2_with fail
          go_roundg (gk - 1)
          case measure => have := HK.out; have := HL.out; omega
          case rel => exact ⟨⟨j + 2, d + 1, by have := HK.out; omega, by have := HL.out; omega, by omega, by go_num, by go_num, by rw [HRR.out, HE.out]⟩, rfl⟩
        · have t2 : ((((bs l)[j + 1]'hjs1).toNat : Int) == 123) = false := by rw [hat1]; exact nb _ 123 h123
          rw [if_neg h123] at HE
          by_cases h125 : e = 125
          · have t3 : ((((bs l)[j + 1]'hjs1).toNat : Int) == 125) = true := by rw [hat1, h125]; rfl
            rw [h125, if_pos rfl] at HE
            clear hc he hat hat1 h92 h123 h125 hlt
            by_cases hd0 : d = 0
            · have t4 : decide ((0 : Int) < (d : Int)) = false := decide_eq_false (by omega)
              have t4n : decide (0 < d) = false := decide_eq_false (by omega)
              have HE2 := Lib.hid (show bR l j d = bR l (j + 2) d by rw [HE.out, hd0]; rfl)
              clear hd0
              go_wp2_with fail
              go_roundg (gk - 1)
              case measure => have := HK.out; have := HL.out; omega
              case rel => exact ⟨⟨j + 2, d, by have := HK.out; omega, by have := HL.out; omega, by omega, by go_num, by go_num, by rw [HRR.out, HE2.out]⟩, rfl⟩
            · obtain ⟨q, hq⟩ : ∃ q, d = q + 1 := ⟨d - 1, by omega⟩
              subst hq
              have t4 : decide ((0 : Int) < ((q + 1 : Nat) : Int)) = true := decide_eq_true (by omega)
              have hqe : ((q + 1 : Nat) : Int) - 1 = (q : Int) := by omega
              by_cases hq0 : q = 0
              · have t5 : ((q : Int) == 0) = true := by rw [hq0]; rfl
                have HF := Lib.hid (show R = (0, ((j + 2 : Nat) : Int)) by rw [HRR.out, HE.out, if_pos (by omega)])
                have hje : (j : Int) + 1 + 1 = ((j + 2 : Nat) : Int) := by omega
                clear hq0 hd0
                go_wp2_with fail
                go_ret2
                rw [HF.out]
                exact ⟨rfl, rfl⟩
              · have t5 : ((q : Int) == 0) = false := beq_eq_false_iff_ne.2 (by omega)
                have HE2 := Lib.hid (show bR l j (q + 1) = bR l (j + 2) q by rw [HE.out, if_neg (by omega)]; rfl)
                clear hq0 hd0
                go_wp2_with fail
                go_roundg (gk - 1)
                case measure => have := HK.out; have := HL.out; omega
                case rel => exact ⟨⟨j + 2, q, by have := HK.out; omega, by have := HL.out; omega, by omega, by go_num, by go_num, by rw [HRR.out, HE2.out]⟩, rfl⟩
          · have t3 : ((((bs l)[j + 1]'hjs1).toNat : Int) == 125) = false := by rw [hat1]; exact nb _ 125 h125
            rw [if_neg h125] at HE
            clear hc he hat hat1 h92 h123 h125 hlt
            go_wp2_with fail
            go_roundg (gk - 1)
            case measure => have := HK.out; have := HL.out; omega
            case rel => exact ⟨⟨j + 2, d, by have := HK.out; omega, by have := HL.out; omega, by omega, by go_num, by go_num, by rw [HRR.out, HE.out]⟩, rfl⟩
      · have t1 : (((bs l)[j].toNat : Int) != 92) = true := by
          rw [hat, show ((c.toNat : Int) != 92) = !(c == 92) from ne_u8 c 92]
          simpa using h92
        have HE := Lib.hid (bR_or l j d c hc h92)
        clear hc he hat hat1 h92 hlt
        go_wp2_with fail
        go_roundg (gk - 1)
        case measure => have := HK.out; have := HL.out; omega
        case rel => exact ⟨⟨j + 1, d, by have := HK.out; omega, by have := HL.out; omega, by omega, by go_num, by go_num, by rw [HRR.out, HE.out]⟩, rfl⟩
    · have d1 : decide ((j : Int) + 1 < ((bs l).size : Int)) = false := decide_eq_false (by rw [HSZ.out]; omega)
      have HF := Lib.hid (show R = (d, -1) by rw [HRR.out, bR_end l j d (by omega)])
      clear hlt
      go_wp2_with fail
      go_ret2
      rw [HF.out]
      exact ⟨rfl, rfl⟩
theorem bracesL_any (l : List UInt8) (hl : l.length ≤ 100000) (z : Int) (h1 : z ≤ 1000000) (w : World) : Calls Tryd.prog 18 #[.string (bs l), .int .i64 z] w fun e w' => e = .returned (.bool true) ∧ w = w' := by
  have H1 := Lib.hid (fun W => braces_any l hl z z.toNat (by omega) (by omega) W)
  have H2 := Lib.hid (fun W => rbraces_any l hl z z.toNat (by omega) (by omega) W)
  obtain ⟨R, hR⟩ : ∃ R, R = bR l 0 z.toNat := ⟨_, rfl⟩
  rw [← hR] at H1 H2
  have s1 : ((R.1 : Int) == (R.1 : Int)) = true := by simp
  have s2 : (R.2 == R.2) = true := by simp
  clear hR
  go_enter Tryd.func18, Tryd.ntmps18
  go_wp2_with fail
  refine (H1.out _).mono ?_
  rintro e w1 ⟨rfl, rfl⟩
  go_wp2_with fail
  refine (H2.out _).mono ?_
  rintro e w1 ⟨rfl, rfl⟩
  go_wp2_with fail
  go_ret
  exact ⟨rfl, rfl⟩
end Go.Proofs.YtnffmlfapccgkaaDoor
