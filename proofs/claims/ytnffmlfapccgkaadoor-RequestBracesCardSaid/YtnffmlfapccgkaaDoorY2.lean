/- RequestBraces: the law's walk. -/
import Derived.Test.YtnffmlfapccgkaaDoorY1
namespace Go.Proofs.YtnffmlfapccgkaaDoor
open Go.RowKit Go.Shelf
set_option maxRecDepth 100000
set_option linter.unusedSimpArgs false
set_option linter.unusedVariables false
set_option maxHeartbeats 4000000 in
theorem law_braces (s : ByteArray) (hs : s.size ≤ maxLen) (A : Option Addr) (n c : Nat) (xs : List Nat) (z : Int) (hz : -9223372036854775808 ≤ z ∧ z ≤ 9223372036854775807) (w : World) (hA : BytsAt w A n xs) (hx : ∀ x ∈ xs, x < 256) (hnc : n ≤ c) (hc9 : (c : Int) ≤ 9223372036854775807) : Calls Tryd.prog 7 #[.string s, .slice A n c, .int .i64 z] w fun e w' => e = .returned (.bool true) ∧ Below w.heap.size w w' := by
  have HS := Lib.hid (fun W => sane_any W)
  have hlen := hA.1
  unfold maxLen at hs
  have HZ := Lib.hid hz
  have HSZ := Lib.hid hs
  have HNC := Lib.hid (And.intro hnc hc9)
  clear hz hs hnc hc9
  obtain ⟨b1, hb1⟩ : ∃ b, decide ((2200 : Int) < (s.size : Int)) = b := ⟨_, rfl⟩
  obtain ⟨b2, hb2⟩ : ∃ b, decide ((60 : Int) < (n : Int)) = b := ⟨_, rfl⟩
  obtain ⟨b3, hb3⟩ : ∃ b, decide ((1000000 : Int) < z) = b := ⟨_, rfl⟩
  obtain ⟨b4, hb4⟩ : ∃ b, decide (z < -1000000) = b := ⟨_, rfl⟩
  cases b1
  case true =>
    clear hA hlen hb2 hb3 hb4
    go_enter Tryd.func7, Tryd.ntmps7
    go_wp2_with fail
    refine (HS.out _).mono ?_
    rintro e w1 ⟨rfl, hb⟩
    have HB := Lib.hid hb
    clear hb
    go_wp2_with fail
    go_ret
    exact ⟨rfl, HB.out⟩
  cases b2
  case true =>
    clear hA hlen hb3 hb4
    go_enter Tryd.func7, Tryd.ntmps7
    go_wp2_with fail
    refine (HS.out _).mono ?_
    rintro e w1 ⟨rfl, hb⟩
    have HB := Lib.hid hb
    clear hb
    go_wp2_with fail
    go_ret
    exact ⟨rfl, HB.out⟩
  cases b3
  case true =>
    clear hA hlen hb4
    go_enter Tryd.func7, Tryd.ntmps7
    go_wp2_with fail
    refine (HS.out _).mono ?_
    rintro e w1 ⟨rfl, hb⟩
    have HB := Lib.hid hb
    clear hb
    go_wp2_with fail
    go_ret
    exact ⟨rfl, HB.out⟩
  cases b4
  case true =>
    clear hA hlen
    go_enter Tryd.func7, Tryd.ntmps7
    go_wp2_with fail
    refine (HS.out _).mono ?_
    rintro e w1 ⟨rfl, hb⟩
    have HB := Lib.hid hb
    clear hb
    go_wp2_with fail
    go_ret
    exact ⟨rfl, HB.out⟩
  have h1 := of_decide_eq_false hb1
  have h2 := of_decide_eq_false hb2
  have h3 := of_decide_eq_false hb3
  have HR1 := Lib.hid (fun W => bracesL_any s.data.toList (by rw [show s.data.toList.length = s.size from (sz_of s _ rfl).symm]; omega) z (by omega) W)
  rw [bs_self] at HR1
  have hbl := bitS_len xs
  have HA := Lib.hid hA
  have HBT := Lib.hid (fun W (h : Below w.heap.size w W) => bits_any A n c xs W (HA.out.below h) hx (by omega))
  obtain ⟨l, hl⟩ : ∃ l, l = bitS xs := ⟨_, rfl⟩
  rw [← hl] at HBT hbl
  have HR2 := Lib.hid (fun W => bracesL_any l (by omega) z (by omega) W)
  have HR3 := Lib.hid (fun W => bracesL_any l (by omega) 1 (by omega) W)
  clear hl hbl h1 h2 h3 hA hlen hx
  go_enter Tryd.func7, Tryd.ntmps7
  go_wp2_with fail
  refine (HR1.out _).mono ?_
  rintro e w1 ⟨rfl, hw⟩
  rw [← hw]
  clear hw
  go_wp2_with fail
  refine (HBT.out _ (Below.refl _ _)).mono ?_
  rintro e w2 ⟨rfl, hb⟩
  have HB2 := Lib.hid hb
  clear hb
  go_wp2_with fail
  refine (HR2.out _).mono ?_
  rintro e w3 ⟨rfl, hw⟩
  rw [← hw]
  clear hw
  go_wp2_with fail
  refine (HBT.out _ HB2.out).mono ?_
  rintro e w4 ⟨rfl, hb⟩
  have HB4 := Lib.hid (HB2.out.trans (hb.mono HB2.out.size))
  clear hb
  go_wp2_with fail
  refine (HR3.out _).mono ?_
  rintro e w5 ⟨rfl, hw⟩
  rw [← hw]
  clear hw
  go_wp2_with fail
  refine (HS.out _).mono ?_
  rintro e w6 ⟨rfl, hb⟩
  have HB6 := Lib.hid (HB4.out.trans (hb.mono HB4.out.size))
  clear hb
  go_wp2_with fail
  go_ret
  exact ⟨rfl, HB6.out⟩
theorem wf64 {z : Int} (h : (Lit.int .i64 z).wf = true) : -9223372036854775808 ≤ z ∧ z ≤ 9223372036854775807 := by
  simp [Lit.wf] at h
  have h1 : IntKind.i64.min = -9223372036854775808 := by decide
  have h2 : IntKind.i64.max = 9223372036854775807 := by decide
  omega
end Go.Proofs.YtnffmlfapccgkaaDoor
