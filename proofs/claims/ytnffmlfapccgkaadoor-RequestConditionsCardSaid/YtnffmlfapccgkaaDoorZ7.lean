/- RequestConditions: the law's walk. -/
import Derived.Test.YtnffmlfapccgkaaDoorZ4
import Derived.Test.YtnffmlfapccgkaaDoorZ6
import Derived.Test.YtnffmlfapccgkaaDoorX1
namespace Go.Proofs.YtnffmlfapccgkaaDoor
open Go.RowKit Go.Shelf
set_option maxRecDepth 100000
set_option linter.unusedSimpArgs false
set_option linter.unusedVariables false
theorem condV_six (l : List UInt8) : ∃ (a : Bool) (k : Nat) (N L R Q : ByteArray) (e : Int), condV l = .tuple #[.agg #[.bool a, .int .u8 (k : Int), .string N, .string L, .string R, .string Q], .int .i64 e] := by
  unfold condV
  split
  · rcases cnR_shape (exN (skB l)) with h | ⟨k, nm, lf, rt, rs, h⟩
    · exact ⟨false, 0, _, _, _, _, 4, by rw [h]; rfl⟩
    · exact ⟨_, k.toNat, _, _, _, _, 0, by rw [h]; rfl⟩
  · exact ⟨false, 0, _, _, _, _, 1, rfl⟩
set_option maxHeartbeats 4000000 in
theorem conds_any (l : List UInt8) (hl : l.length ≤ 100000) (w : World) (hM : MaxI w) : Calls Tryd.prog 16 #[.string (bs l)] w fun e w' => e = .returned (.bool true) ∧ Below w.heap.size w w' := by
  have HC1 := Lib.hid (cond_any l hl w hM)
  have HC2 := Lib.hid (fun W => rcond_any l hl W)
  obtain ⟨a, k, N, L, R, Q, e, hv⟩ := condV_six l
  rw [hv] at HC1 HC2
  obtain ⟨S, hS⟩ : ∃ S, S = bs l := ⟨_, rfl⟩
  rw [← hS] at HC1 HC2 ⊢
  have r0 : (e == e) = true := by simp
  have r1 : (a == a) = true := by simp
  have r2 : ((k : Int) == (k : Int)) = true := by simp
  have r3 : (N.toList == N.toList) = true := by simp
  have r4 : (L.toList == L.toList) = true := by simp
  have r5 : (R.toList == R.toList) = true := by simp
  have r6 : (Q.toList == Q.toList) = true := by simp
  clear hv hS hl hM
  go_enter Tryd.func16, Tryd.ntmps16
  go_wp2_with fail
  refine HC1.out.mono ?_
  rintro e1 w1 ⟨rfl, hb1⟩
  have HA1 := Lib.hid (heap_alloc_new w1 (.cells #[.bool a, .int .u8 (k : Int), .string N, .string L, .string R, .string Q] 33))
  have HB1 := Lib.hid (hb1.trans ((bel0 w1 (.cells #[.bool a, .int .u8 (k : Int), .string N, .string L, .string R, .string Q] 33)).mono hb1.size))
  clear hb1
  go_wp2_with fail
  refine (HC2.out _).mono ?_
  rintro e2 w2 ⟨rfl, hb2⟩
  have hbb := hb2.trans ((bel0 w2 (.cells #[.bool a, .int .u8 (k : Int), .string N, .string L, .string R, .string Q] 57)).mono hb2.size)
  obtain ⟨⟨a0, a1, a2, a3, a4, a5⟩, _⟩ := blk6 ((hbb.block w1.heap.size (Array.getElem?_eq_some_iff.1 HA1.out).1).trans HA1.out)
  obtain ⟨⟨b0, b1, b2, b3, b4, b5⟩, _⟩ := blk6 (heap_alloc_new w2 (.cells #[.bool a, .int .u8 (k : Int), .string N, .string L, .string R, .string Q] 57))
  have HB2 := Lib.hid (HB1.out.trans (hbb.mono HB1.out.size))
  clear hb2 hbb
  go_wp2_with fail
  go_ret
  exact ⟨rfl, HB2.out⟩
set_option maxHeartbeats 4000000 in
theorem law_conditions (s : ByteArray) (hs : s.size ≤ maxLen) (A : Option Addr) (n c : Nat) (xs : List Nat) (w : World) (hM : MaxI w) (hA : BytsAt w A n xs) (hx : ∀ x ∈ xs, x < 256) (hnc : n ≤ c) (hc9 : (c : Int) ≤ 9223372036854775807) : Calls Tryd.prog 5 #[.string s, .slice A n c] w fun e w' => e = .returned (.bool true) ∧ Below w.heap.size w w' := by
  have HS := Lib.hid (fun W => sane_any W)
  have hlen := hA.1
  unfold maxLen at hs
  have HSZ := Lib.hid hs
  have HNC := Lib.hid (And.intro hnc hc9)
  have HM := Lib.hid hM
  clear hs hnc hc9 hM
  obtain ⟨b1, hb1⟩ : ∃ b, decide ((2200 : Int) < (s.size : Int)) = b := ⟨_, rfl⟩
  obtain ⟨b2, hb2⟩ : ∃ b, decide ((40 : Int) < (n : Int)) = b := ⟨_, rfl⟩
  cases b1
  case true =>
    clear hA hlen hb2
    go_enter Tryd.func5, Tryd.ntmps5
    go_wp2_with fail
    refine (HS.out _).mono ?_
    rintro e w1 ⟨rfl, hb⟩
    have HB := Lib.hid hb
    clear hb
    go_wp2_with fail
    go_ret
    exact ⟨rfl, HB.out⟩
  cases b2
  case true =>
    clear hA hlen
    go_enter Tryd.func5, Tryd.ntmps5
    go_wp2_with fail
    refine (HS.out _).mono ?_
    rintro e w1 ⟨rfl, hb⟩
    have HB := Lib.hid hb
    clear hb
    go_wp2_with fail
    go_ret
    exact ⟨rfl, HB.out⟩
  have h1 := of_decide_eq_false hb1
  have h2 := of_decide_eq_false hb2
  have HR1 := Lib.hid (fun W (hM : MaxI W) => conds_any s.data.toList (by rw [show s.data.toList.length = s.size from (sz_of s _ rfl).symm]; omega) W hM)
  rw [bs_self] at HR1
  have hbl := bitS_len xs
  have HA := Lib.hid hA
  have HBT := Lib.hid (fun W (h : Below w.heap.size w W) => bits_any A n c xs W (HA.out.below h) hx (by omega))
  obtain ⟨l, hl⟩ : ∃ l, l = bitS xs := ⟨_, rfl⟩
  rw [← hl] at HBT hbl
  have HR2 := Lib.hid (fun W (hM : MaxI W) => conds_any l (by omega) W hM)
  clear hl hbl h1 h2 hA hlen hx
  go_enter Tryd.func5, Tryd.ntmps5
  go_wp2_with fail
  refine (HR1.out _ HM.out).mono ?_
  rintro e w1 ⟨rfl, hb⟩
  have HB1 := Lib.hid hb
  clear hb
  go_wp2_with fail
  refine (HBT.out _ HB1.out).mono ?_
  rintro e w2 ⟨rfl, hb⟩
  have HB2 := Lib.hid (HB1.out.trans (hb.mono HB1.out.size))
  clear hb
  go_wp2_with fail
  refine (HR2.out _ (HM.out.below HB2.out (Nat.le_refl _))).mono ?_
  rintro e w3 ⟨rfl, hb⟩
  have HB3 := Lib.hid (HB2.out.trans (hb.mono HB2.out.size))
  clear hb
  go_wp2_with fail
  refine (HS.out _).mono ?_
  rintro e w6 ⟨rfl, hb⟩
  have HB6 := Lib.hid (HB3.out.trans (hb.mono HB3.out.size))
  clear hb
  go_wp2_with fail
  go_ret
  exact ⟨rfl, HB6.out⟩
end Go.Proofs.YtnffmlfapccgkaaDoor
