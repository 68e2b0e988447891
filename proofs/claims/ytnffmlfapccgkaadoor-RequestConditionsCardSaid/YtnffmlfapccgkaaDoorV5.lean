/- Both Splits alike; RequestSplits: the walk. -/
import Derived.Test.YtnffmlfapccgkaaDoorV4
namespace Go.Proofs.YtnffmlfapccgkaaDoor
open Go.RowKit Go.Shelf
set_option maxRecDepth 100000
set_option linter.unusedSimpArgs false
set_option linter.unusedVariables false
/-- What comes back, whichever case it is. -/
def SpU (N R : ByteArray) (q is : Bool) (k : Int) (ws : List (List UInt8)) (w : World) (e : Ending) (w' : World) : Prop :=
  ∃ A c, e = .returned (.tuple #[.agg #[.string N, .slice A ws.length c, .string R, .bool q], .bool is, .int .i64 k]) ∧ StrsAt w' A ws.length (ws.map bs) ∧ (ws.length : Int) ≤ 9223372036854775807 ∧ Below w.heap.size w w'
theorem spU_of (l : List UInt8) (a b : UInt8) : ∃ N R q is k ws, ∀ w e w', SpP l a b w e w' → SpU N R q is k ws w e w' := by
  have h0 : ∀ w', StrsAt w' none 0 (([] : List (List UInt8)).map bs) := fun w' => ⟨rfl, fun h => absurd h (Nat.lt_irrefl 0)⟩
  cases h : csS l a b with
  | false =>
    refine ⟨⟨#[]⟩, ⟨#[]⟩, false, false, 1, [], fun w e w' hs => ?_⟩
    unfold SpP at hs
    rw [h] at hs
    simp only [Bool.false_eq_true, if_false] at hs
    exact ⟨none, 0, hs.1, h0 w', by decide, hs.2⟩
  | true =>
    cases h2 : isC l a b with
    | false =>
      refine ⟨⟨#[]⟩, ⟨#[]⟩, false, false, 0, [], fun w e w' hs => ?_⟩
      unfold SpP at hs
      rw [h, h2] at hs
      simp only [Bool.false_eq_true, if_false, if_true] at hs
      exact ⟨none, 0, hs.1, h0 w', by decide, hs.2⟩
    | true =>
      refine ⟨bs (nmS l), bs (rsS l), l.head? == some b, true, 0, wds (rsS l), fun w e w' hs => ?_⟩
      unfold SpP at hs
      rw [h, h2] at hs
      simp only [if_true] at hs
      obtain ⟨A, c, h1, h2, h3, h4, h5⟩ := hs
      exact ⟨A, c, h1, h2, by omega, h5⟩
set_option maxHeartbeats 2000000 in
theorem splits_any (l : List UInt8) (a b : UInt8) (hl : l.length ≤ 100000) (w : World) : Calls Tryd.prog 11 #[.string (bs l), .int .u8 (a.toNat : Int), .int .u8 (b.toNat : Int)] w fun e w' => e = .returned (.bool true) ∧ Below w.heap.size w w' := by
  obtain ⟨N, R, q, is, k, ws, hU⟩ := spU_of l a b
  have HC := Lib.hid (fun W => (split_any l a b hl W).mono (fun e w' h => hU W e w' h))
  have HD := Lib.hid (fun W => (rsplit_any l a b hl W).mono (fun e w' h => hU W e w' h))
  have s1 : (N.toList == N.toList) = true := by simp
  have s2 : (R.toList == R.toList) = true := by simp
  have s3 : (q == q) = true := by simp
  have s4 : (is == is) = true := by simp
  have s5 : (k == k) = true := by simp
  obtain ⟨ka, hka⟩ : ∃ v, v = a.toNat := ⟨_, rfl⟩
  obtain ⟨kb, hkb⟩ : ∃ v, v = b.toNat := ⟨_, rfl⟩
  obtain ⟨S, hS⟩ : ∃ S, S = bs l := ⟨_, rfl⟩
  rw [← hka, ← hkb, ← hS] at HC HD ⊢
  clear hU hka hkb hS
  go_enter Tryd.func11, Tryd.ntmps11
  go_wp2_with fail
  refine (HC.out _).mono ?_
  rintro e w2 ⟨A2, c2, rfl, hs2, hn9, hb2⟩
  have HB2 := Lib.hid hb2
  have HS2 := Lib.hid hs2
  clear hs2 hb2
  go_wp2_with fail
  refine (HD.out _).mono ?_
  rintro e w4 ⟨A4, c4, rfl, hs4, _, hb4⟩
  have hlt : w2.heap.size < (w2.alloc (.cells #[.string N, .slice A2 ws.length c2, .string R, .bool q] 44)).heap.size := by simp
  have he4 : w4.heap[w2.heap.size]? = some (.cells #[.string N, .slice A2 ws.length c2, .string R, .bool q] 44 (0, 0)) := (hb4.block _ hlt).trans (heap_alloc_new w2 _)
  have HB3 := Lib.hid ((bel0 w2 (.cells #[.string N, .slice A2 ws.length c2, .string R, .bool q] 44)).trans (hb4.mono (Nat.le_of_lt hlt)))
  have HB4 := Lib.hid (HB2.out.trans (HB3.out.mono HB2.out.size))
  have HBL := Lib.hid (bel0 w4 (.cells #[.string N, .slice A4 ws.length c4, .string R, .bool q] 48))
  have he5 := (HBL.out.block w2.heap.size (Array.getElem?_eq_some_iff.1 he4).1).trans he4
  obtain ⟨⟨k0, k1, k2, k3⟩, _⟩ := blk4 he5
  have HL := Lib.hid (list_same A2 A4 ws.length c2 c4 ws _ ((HS2.out.below HB3.out).below HBL.out) (hs4.below HBL.out) hn9)
  have HB5 := Lib.hid (HB4.out.trans (HBL.out.mono HB4.out.size))
  clear hs4 hb4 hlt he4 he5
  go_wp2_with fail
  refine HL.out.mono ?_
  rintro e w6 ⟨rfl, hb6⟩
  have HB6 := Lib.hid (HB5.out.trans (hb6.mono HB5.out.size))
  clear hb6
  go_wp2_with fail
  go_ret
  exact ⟨rfl, HB6.out⟩
theorem words_both (l : List UInt8) (hl : l.length ≤ 100000) (w : World) : True := trivial
set_option maxHeartbeats 2000000 in
theorem law_splits (s : ByteArray) (a b : Nat) (ha : a < 256) (hb : b < 256) (hs : s.size ≤ maxLen) (w : World) : Calls Tryd.prog 3 #[.string s, .int .u8 (a : Int), .int .u8 (b : Int)] w fun e w' => e = .returned (.bool true) ∧ Below w.heap.size w w' := by
  have HS := Lib.hid (fun W => sane_any W)
  unfold maxLen at hs
  by_cases hbig : 2200 < s.size
  · have d1 : decide ((2200 : Int) < (s.size : Int)) = true := decide_eq_true (by omega)
    clear hbig
    go_enter Tryd.func3, Tryd.ntmps3
    go_wp2_with fail
    refine (HS.out _).mono ?_
    rintro e w1 ⟨rfl, hb⟩
    have HB := Lib.hid hb
    clear hb
    go_wp2_with fail
    go_ret
    exact ⟨rfl, HB.out⟩
  · have d1 : decide ((2200 : Int) < (s.size : Int)) = false := decide_eq_false (by omega)
    have hl : s.data.toList.length ≤ 100000 := by rw [show s.data.toList.length = s.size from (sz_of s _ rfl).symm]; omega
    have H1 := Lib.hid (fun W => splits_any s.data.toList (UInt8.ofNat a) (UInt8.ofNat b) hl W)
    rw [show ((UInt8.ofNat a).toNat : Int) = (a : Int) by simp; omega, show ((UInt8.ofNat b).toNat : Int) = (b : Int) by simp; omega, bs_self] at H1
    have H2 : Hid (∀ W, Calls Tryd.prog 11 #[.string s, .int .u8 46, .int .u8 39] W fun e w' => e = .returned (.bool true) ∧ Below W.heap.size W w') := Lib.hid (fun W => by
      have h := splits_any s.data.toList 46 39 hl W
      rw [bs_self] at h
      exact h)
    have HW := Lib.hid (fun W => words_any s.data.toList hl W)
    have HV := Lib.hid (fun W => rwords_any s.data.toList hl W)
    rw [bs_self] at HW HV
    have HSUM := Lib.hid (wds_sum s.data.toList)
    obtain ⟨ws, hws⟩ : ∃ ws, ws = wds s.data.toList := ⟨_, rfl⟩
    unfold WsP at HW HV
    rw [← hws] at HW HV HSUM
    have hn9 : (ws.length : Int) ≤ 9223372036854775807 := by have := HSUM.out; omega
    clear hbig hl hws
    go_enter Tryd.func3, Tryd.ntmps3
    go_wp2_with fail
    refine (H1.out _).mono ?_
    rintro e w1 ⟨rfl, hb1⟩
    have HB1 := Lib.hid hb1
    clear hb1
    go_wp2_with fail
    refine (H2.out _).mono ?_
    rintro e w2 ⟨rfl, hb2⟩
    have HB2 := Lib.hid (HB1.out.trans (hb2.mono HB1.out.size))
    clear hb2
    go_wp2_with fail
    refine (HW.out _).mono ?_
    rintro e w3 ⟨A3, c3, rfl, hs3, _, _, hb3, _⟩
    have HB3 := Lib.hid (HB2.out.trans (hb3.mono HB2.out.size))
    have HS3 := Lib.hid hs3
    clear hs3 hb3
    go_wp2_with fail
    refine (HV.out _).mono ?_
    rintro e w4 ⟨A4, c4, rfl, hs4, _, _, hb4, _⟩
    have HB4 := Lib.hid (HB3.out.trans (hb4.mono HB3.out.size))
    have HL := Lib.hid (list_same A3 A4 ws.length c3 c4 ws _ (HS3.out.below hb4) hs4 hn9)
    clear hs4 hb4
    go_wp2_with fail
    refine HL.out.mono ?_
    rintro e w5 ⟨rfl, hb5⟩
    have HB5 := Lib.hid (HB4.out.trans (hb5.mono HB4.out.size))
    clear hb5
    go_wp2_with fail
    refine (HS.out _).mono ?_
    rintro e w6 ⟨rfl, hb6⟩
    have HB6 := Lib.hid (HB5.out.trans (hb6.mono HB5.out.size))
    clear hb6
    go_wp2_with fail
    go_ret
    exact ⟨rfl, HB6.out⟩
end Go.Proofs.YtnffmlfapccgkaaDoor
