/- ExpandJoins: the law's walk. -/
import Derived.Test.YtoggjiblhcbmjaaDoorJR
namespace Go.Proofs.YtoggjiblhcbmjaaDoor
open Go.RowKit Go.Shelf
set_option maxRecDepth 100000
theorem list_same (A1 A2 : Option Addr) (n c1 c2 : Nat) (ls : List (List UInt8)) (w : World) (h1 : StrsAt w A1 n (ls.map bs)) (h2 : StrsAt w A2 n (ls.map bs)) (hn : (n : Int) ≤ 9223372036854775807) :
    Calls Tryd.prog 9 #[.slice A1 n c1, .slice A2 n c2] w fun e w' => e = .returned (.bool true) ∧ Below w.heap.size w w' := by
  have hlen := h1.len
  have H1 := Lib.hid h1
  have H2 := Lib.hid h2
  have HL := Lib.hid hlen
  clear h1 h2 hlen
  go_enter Tryd.func9, Tryd.ntmps9
  go_wp2_with fail
  go_loopg [5] n (fun k i wr => (∃ j : Nat, k + j = n ∧ i = .int .i64 (j : Int)) ∧ Below w.heap.size w wr)
  case atStart => exact ⟨⟨0, rfl, rfl⟩, Below.refl _ _⟩
  case round =>
    obtain ⟨⟨j, hk, rfl⟩, hb⟩ := hrel
    have HK := Lib.hid hk
    have HB := Lib.hid hb
    clear hk hb
    by_cases hj : j < n
    · have d1 : decide (j < n) = true := decide_eq_true hj
      have hjl : j < ls.length := by have := HL.out; omega
      obtain ⟨b1, o1, rfl, _, k1⟩ := (H1.out.below HB.out).cell j hjl
      obtain ⟨b2, o2, rfl, _, k2⟩ := (H2.out.below HB.out).cell j hjl
      obtain ⟨x, hx⟩ : ∃ x, x = bs ls[j] := ⟨_, rfl⟩
      rw [← hx] at k1 k2
      clear hx
      go_wp2_with fail
      go_region
      all_goals
        go_wp2_with fail
        go_roundg (gk - 1)
        case measure => have := HK.out; omega
        case rel => exact ⟨⟨j + 1, by have := HK.out; omega, by go_num⟩, below_drewN HB.out 1⟩
    · have d1 : decide (j < n) = false := decide_eq_false hj
      go_wp2_with fail
      go_ret
      exact ⟨rfl, HB.out⟩
theorem tot_le (ls : List (List UInt8)) (m : Nat) (h : ∀ l ∈ ls, l.length ≤ m) : tot ls ≤ m * ls.length := by
  induction ls with
  | nil => simp [tot]
  | cons l r ih =>
    have h1 := h l (by simp)
    have h2 := ih (fun x hx => h x (by simp [hx]))
    rw [tot, List.length_cons, Nat.mul_add]
    omega
set_option maxHeartbeats 2000000 in
theorem law_joins (A : Option Addr) (n c : Nat) (ls : List (List UInt8)) (w : World) (hA : StrsAt w A n (ls.map bs)) (hnc : n ≤ c) (hc9 : (c : Int) ≤ 9223372036854775807) (hr : ∀ l ∈ ls, l.length ≤ 140737488351232) :
    Calls Tryd.prog 4 #[.slice A n c] w fun e w' => e = .returned (.bool true) ∧ Below w.heap.size w w' := by
  have HS := Lib.hid (fun W => sane_any W)
  have hlen := hA.len
  have HA := Lib.hid hA
  clear hA
  subst hlen
  by_cases hb : ls.length ≤ 40
  case neg =>
    have d1 : decide ((40 : Int) < (ls.length : Int)) = true := decide_eq_true (by omega)
    clear hb
    go_enter Tryd.func4, Tryd.ntmps4
    go_wp2_with fail
    refine (HS.out _).mono ?_
    rintro e w1 ⟨rfl, hb⟩
    have HB := Lib.hid hb
    clear hb
    go_wp2_with fail
    go_ret
    exact ⟨rfl, HB.out⟩
  have d1 : decide ((40 : Int) < (ls.length : Int)) = false := decide_eq_false (by omega)
  have htot : tot ls ≤ 5629499534049280 := Nat.le_trans (tot_le ls _ hr) (by omega)
  have HR := Lib.hid hr
  clear hr
  go_enter Tryd.func4, Tryd.ntmps4
  go_wp2_with fail
  go_loopg [3, 4] ls.length (fun k q i wr => (∃ (j m : Nat), k + j = ls.length ∧ i = .int .i64 (j : Int) ∧ q = .int .i64 (m : Int) ∧ m + tot (ls.drop j) = tot ls) ∧ wr = w)
  case atStart => exact ⟨⟨0, 0, rfl, rfl, rfl, by simp⟩, rfl⟩
  case round =>
    obtain ⟨⟨j, m, hk, rfl, rfl, hm⟩, hw⟩ := hrel
    subst hw
    have HK := Lib.hid hk
    clear hk
    by_cases hj : j < ls.length
    · have dj : decide (j < ls.length) = true := decide_eq_true hj
      obtain ⟨b, off, rfl, _, hcell⟩ := HA.out.cell j hj
      have htj := tot_at ls j hj
      obtain ⟨l, hl⟩ : ∃ l, l = ls[j] := ⟨_, rfl⟩
      rw [← hl] at hcell htj
      have hz : (bs l).size + m ≤ 5629499534049280 := by rw [bs_size]; omega
      have HZ := Lib.hid (bs_size l)
      have HM := Lib.hid hm
      have HTJ := Lib.hid htj
      clear hl hm htj
      go_wp2_with fail
      go_roundg (gk - 1)
      case measure => have := HK.out; omega
      case rel => exact ⟨⟨j + 1, m + (bs l).size, by have := HK.out; omega, by go_num, by go_num, by have := HM.out; have := HTJ.out; have := HZ.out; omega⟩, rfl⟩
    · have dj : decide (j < ls.length) = false := decide_eq_false hj
      have hje : tot (ls.drop j) = 0 := by rw [List.drop_eq_nil_of_le (by omega)]; rfl
      have hmt : m = tot ls := by omega
      clear hm hje
      by_cases hbig : tot ls ≤ 4000
      case neg =>
        have d2 : decide ((4000 : Int) < (m : Int)) = true := decide_eq_true (by omega)
        clear hmt hbig htot
        go_wp2_with fail
        refine (HS.out _).mono ?_
        rintro e w1 ⟨rfl, hb⟩
        have HB := Lib.hid hb
        clear hb
        go_wp2_with fail
        go_ret
        exact ⟨rfl, HB.out⟩
      have d2 : decide ((4000 : Int) < (m : Int)) = false := decide_eq_false (by omega)
      have HJ := Lib.hid (join_any A ls.length c ls wr HA.out hnc hc9 hb hbig)
      have HT4 := Lib.hid hbig
      clear hmt hbig htot
      go_wp2_with fail
      refine HJ.out.mono ?_
      rintro e w1 ⟨A1, c1, rfl, hs1, hc1, hlc1, hb1⟩
      have HB1 := Lib.hid hb1
      have HS1 := Lib.hid hs1
      have HRJ := Lib.hid (rjoin_any A ls.length c ls w1 (HA.out.below hb1) hnc hc9 hb HT4.out)
      clear hb1 hs1
      go_wp2_with fail
      refine HRJ.out.mono ?_
      rintro e w2 ⟨A2, c2, rfl, hs2, hc2, hlc2, hb2⟩
      have HB2 := Lib.hid (HB1.out.trans (hb2.mono HB1.out.size))
      have HLS := Lib.hid (list_same A1 A2 (joinC ls []).length c1 c2 (joinC ls []) w2 (HS1.out.below hb2) hs2 (by omega))
      clear hb2 hs2
      go_wp2_with fail
      refine HLS.out.mono ?_
      rintro e w3 ⟨rfl, hb3⟩
      have HB3 := Lib.hid (HB2.out.trans (hb3.mono HB2.out.size))
      clear hb3
      go_wp2_with fail
      refine (HS.out _).mono ?_
      rintro e w4 ⟨rfl, hb4⟩
      have HB4 := Lib.hid (HB3.out.trans (hb4.mono HB3.out.size))
      clear hb4
      go_wp2_with fail
      go_ret
      exact ⟨rfl, HB4.out⟩
end Go.Proofs.YtoggjiblhcbmjaaDoor
