/- A file's frame: the walk. -/
import Derived.Test.YtfobbcddedcepaaDoorBI
namespace Go.Proofs.YtfobbcddedcepaaDoor
open Go.RowKit
set_option maxRecDepth 100000
set_option linter.unusedSimpArgs false
set_option linter.unusedVariables false
theorem mkL_len (xs : List ByteArray) : (mkL xs).length = xs.length := by simp [mkL]
theorem linesS_le (s : ByteArray) : (linesS s).length ≤ (parts s).length := by
  unfold linesS; split
  · rw [List.length_dropLast]; omega
  · exact Nat.le_refl _
theorem linesS_at (s : ByteArray) (j : Nat) (x : ByteArray) (h : (linesS s)[j]? = some x) : (parts s)[j]? = some x := by
  unfold linesS at h
  split at h
  · rw [List.getElem?_dropLast] at h
    split at h
    · exact h
    · cases h
  · exact h
set_option maxHeartbeats 1000000 in
theorem file_no (nm s : ByteArray) (hs : s.size ≤ 1000000) (w : World) (hno : okName nm = false ∨ 20000 < (linesS s).length) : Calls Tryd.prog 44 #[.string nm, .string s] w (FileP nm s w) := by
  have hP : ∀ w', Below w.heap.size w w' → FileP nm s w (.returned (.tuple #[rfA RF0, .bool false])) w' := by
    intro w' hb
    have e : (okName nm && okLs (mkL (linesS s))) = false := by
      rcases hno with h | h
      · rw [h]; rfl
      · have : okLs (mkL (linesS s)) = false := by unfold okLs; rw [mkL_len, decide_eq_false (by omega)]; rfl
        rw [this, Bool.and_false]
    exact ⟨RF0, by rw [e], fun h => (by rw [e] at h; cases h), hb⟩
  have hb0 := (Below.refl w.heap.size w).alloc (Nat.le_refl _) (.cells #[.int .i64 0, .string ⟨#[]⟩, .slice none 0 0, .slice none 0 0, .int .i64 0] 64)
  have hx0 := heap_alloc_new w (.cells #[.int .i64 0, .string ⟨#[]⟩, .slice none 0 0, .slice none 0 0, .int .i64 0] 64)
  have hl := lines_call s hs (w.alloc (.cells #[.int .i64 0, .string ⟨#[]⟩, .slice none 0 0, .slice none 0 0, .int .i64 0] 64))
  unfold LiP at hl
  have hle := linesS_le s
  have hle2 := parts_le s
  have HN := Lib.hid (fun W => validName_any nm W)
  have HL := Lib.hid hl
  have HP := Lib.hid hP
  have HB0 := Lib.hid hb0
  have HX0 := Lib.hid hx0
  have hpl : (parts s).length ≤ 1000001 := by omega
  generalize (linesS s).length = n at *
  generalize (parts s).length = m at *
  generalize ((parts s).map Value.string).toArray = cs at *
  generalize okName nm = t at *
  clear hl hP hb0 hx0 hle2
  go_enter Tryd.func44, Tryd.ntmps44
  go_wp2_with fail
  refine HL.out.mono ?_
  rintro e w1 ⟨rfl, rfl⟩
  have hb1 := (Below.refl _ (w.alloc (.cells #[.int .i64 0, .string ⟨#[]⟩, .slice none 0 0, .slice none 0 0, .int .i64 0] 64))).alloc (Nat.le_refl _) (.cells cs 9)
  have hx1 := (hb1.block w.heap.size (by simp)).trans HX0.out
  have HX1 := Lib.hid hx1
  have HB1 := Lib.hid (HB0.out.trans (hb1.mono (by simp)))
  obtain ⟨⟨p0, p1, p2, p3, p4⟩, q0, q1, q2, q3, q4⟩ := fresh_fr hx1
  clear hb1 hx1
  cases t with
  | false =>
    go_wp2_with fail
    refine (HN.out _).mono ?_
    rintro e w2 ⟨rfl, rfl⟩
    go_wp2_with fail
    refine frbool_end (t := 4) (u := 5) (g := w.heap.size) rfl rfl rfl rfl HX1.out ?_
    exact HP.out _ HB1.out
  | true =>
    have d1 : decide ((20000 : Int) < (n : Int)) = true := decide_eq_true (by rcases hno with h | h; cases h; omega)
    go_wp2_with fail
    refine (HN.out _).mono ?_
    rintro e w2 ⟨rfl, rfl⟩
    go_wp2_with fail
    refine frbool_end (t := 4) (u := 5) (g := w.heap.size) rfl rfl rfl rfl HX1.out ?_
    exact HP.out _ HB1.out
set_option maxHeartbeats 2000000 in
theorem file_yes (nm s : ByteArray) (hs : s.size ≤ 1000000) (w : World) (hn : okName nm = true) (hlen : (linesS s).length ≤ 20000) : Calls Tryd.prog 44 #[.string nm, .string s] w (FileP nm s w) := by
  have hP : FileP nm s w = fun e w' => ∃ r, e = .returned (.tuple #[rfA r, .bool ((mkL (linesS s)).all okLn)]) ∧ ((mkL (linesS s)).all okLn = true → RfIs (Tg w') w' r ⟨1, nm, mkL (linesS s), [], 0⟩) ∧ Below w.heap.size w w' := by
    have e : (okName nm && okLs (mkL (linesS s))) = (mkL (linesS s)).all okLn := by rw [hn]; unfold okLs; rw [mkL_len, decide_eq_true hlen]; rfl
    unfold FileP
    rw [e]
  rw [hP]
  have hb0 := (Below.refl w.heap.size w).alloc (Nat.le_refl _) (.cells #[.int .i64 0, .string ⟨#[]⟩, .slice none 0 0, .slice none 0 0, .int .i64 0] 64)
  have hx0 := heap_alloc_new w (.cells #[.int .i64 0, .string ⟨#[]⟩, .slice none 0 0, .slice none 0 0, .int .i64 0] 64)
  have hl := lines_call s hs (w.alloc (.cells #[.int .i64 0, .string ⟨#[]⟩, .slice none 0 0, .slice none 0 0, .int .i64 0] 64))
  unfold LiP at hl
  have hle := linesS_le s
  have hle2 := parts_le s
  have hN := fun W => validName_any nm W
  rw [hn] at hN
  have HN := Lib.hid hN
  obtain ⟨W1, hW1⟩ : ∃ W1, W1 = (w.alloc (.cells #[.int .i64 0, .string ⟨#[]⟩, .slice none 0 0, .slice none 0 0, .int .i64 0] 64)).alloc (.cells ((parts s).map Value.string).toArray 9) := ⟨_, rfl⟩
  have hz1 : W1.heap.size = w.heap.size + 2 := by rw [hW1]; simp
  have hcs : ∀ j x, (linesS s)[j]? = some x → W1.cell? ⟨w.heap.size + 1, j, none⟩ = some (.string x) := fun j x hx => by
    have := cell_str (w.alloc (.cells #[.int .i64 0, .string ⟨#[]⟩, .slice none 0 0, .slice none 0 0, .int .i64 0] 64)) (parts s) j x (linesS_at s j x hx)
    rw [hW1]
    rwa [show (w.alloc (.cells #[.int .i64 0, .string ⟨#[]⟩, .slice none 0 0, .slice none 0 0, .int .i64 0] 64)).heap.size = w.heap.size + 1 by simp] at this
  rw [← hW1] at hl
  have hb1' := (Below.refl _ (w.alloc (.cells #[.int .i64 0, .string ⟨#[]⟩, .slice none 0 0, .slice none 0 0, .int .i64 0] 64))).alloc (Nat.le_refl _) (.cells ((parts s).map Value.string).toArray 9)
  rw [← hW1] at hb1'
  have hx1 := (hb1'.block w.heap.size (by simp)).trans hx0
  have hb1 := hb0.trans (hb1'.mono (by simp))
  have HL := Lib.hid hl
  have HB1 := Lib.hid hb1
  have HX1 := Lib.hid hx1
  have HZ1 := Lib.hid hz1
  have HCS := Lib.hid hcs
  have hpl : (parts s).length ≤ 1000001 := by omega
  obtain ⟨n, hnn⟩ : ∃ n, n = (linesS s).length := ⟨_, rfl⟩
  rw [← hnn] at HL hlen hle
  have HNN := Lib.hid hnn
  obtain ⟨i0, hi0, hy0, hy1, hy2⟩ := info_parts info_line
  generalize (parts s).length = m at *
  have d1 : decide ((20000 : Int) < (n : Int)) = false := decide_eq_false (by omega)
  clear hP hb0 hx0 hl hle2 hN hW1 hz1 hcs hb1' hb1 hx1 hnn hn
  go_enter Tryd.func44, Tryd.ntmps44
  go_wp2_with fail
  refine HL.out.mono ?_
  rintro e w1 ⟨rfl, hw1⟩
  obtain rfl : W1 = w1 := hw1.symm
  go_wp2_with fail
  refine (HN.out _).mono ?_
  rintro e w2 ⟨rfl, rfl⟩
  go_wp2_with (first
    | (at_make; refine wpList_make_full _ rfl _ _ 35 rfl W1.heap.size 31 i0 _ 5 Tryd.underlying35 hi0 hy0 hy1 .i64 .i64 n n n rfl rfl rfl rfl (by rw [hy2]; omega) (by unfold maxLen; omega) (Nat.le_refl _) ?_
       intro w2 hrow2 hgrow2
       rw [made_rows] at hrow2
       have HROW2 : Hid (FiR (linesS s) n m W1.heap.size W1 0 w2) := Lib.hid ⟨by simpa [rowJ, mkRL] using hrow2, ⟨hgrow2.os, hgrow2.tape, hgrow2.output, hgrow2.size, fun k hk => hgrow2.block k hk (by simp)⟩⟩
       clear hrow2 hgrow2))
  have hnl : n ≤ (linesS s).length := Nat.le_of_eq HNN.out
  have HNL := Lib.hid hnl
  clear hnl
  go_loopg [26] n (fun k i wr => ∃ j : Nat, k + j = n ∧ i = .int .i64 j ∧ FiR (linesS s) n m W1.heap.size W1 j wr)
  case atStart => exact ⟨0, rfl, rfl, HROW2.out⟩
  case round =>
    obtain ⟨j, hk, rfl, hfi⟩ := hrel
    have HK := Lib.hid hk
    have HFI := Lib.hid hfi
    by_cases hj : j < n
    · have dj : decide (j < n) = true := decide_eq_true hj
      have hxj : (linesS s)[j]? = some ((linesS s)[j]'(by have := HNL.out; omega)) := List.getElem?_eq_getElem (by have := HNL.out; omega)
      obtain ⟨x, hx⟩ : ∃ x, x = (linesS s)[j]'(by have := HNL.out; omega) := ⟨_, rfl⟩
      rw [← hx] at hxj
      have c0 := (hfi.below.cell (p := ⟨w.heap.size + 1, j, none⟩) (by rw [HZ1.out]; show w.heap.size + 1 < w.heap.size + 2; omega)).trans (HCS.out j x hxj)
      have hrow := own_cell hfi.row (j * 5 + 0) (.string ⟨#[]⟩) (fm_at rl_len _ j 0 RL0 (rowJ_at _ n j HNL.out hj) (by omega))
      rw [Nat.add_zero] at hrow
      obtain ⟨e0, f0⟩ := hrow
      have HST := Lib.hid (hfi.step HNL.out hj hxj)
      have HJ := Lib.hid hj
      have hj0 : (0 : Int) ≤ (j : Int) := by omega
      have hj1 : (j : Int) < (n : Int) := by omega
      clear hk hfi hj hxj hx
      go_wp2_with fail
      go_roundg (gk - 1)
      case measure => have := HK.out; have := HJ.out; omega
      case rel =>
        have := HK.out
        have := HJ.out
        exact ⟨j + 1, by omega, by go_num, HST.out⟩
    · have dj : decide (j < n) = false := decide_eq_false hj
      have hjn : j = n := by omega
      rw [hjn] at hfi
      have hrd := ReadsP.of_own (P := Tg wr 31) hfi.row (fun g cs hg _ => ⟨cs, _, hg⟩)
      rw [rowJ_end _ _ HNN.out] at hrd
      have hat : LnsAt (Tg wr) wr (some ⟨W1.heap.size, 0, none⟩) n (mkL (linesS s)) := ⟨⟨mkRL (linesS s), hrd, mkL_is wr _⟩, by rw [mkL_len]; exact HNN.out⟩
      have hvl := validLines_any (c := n) hat (fun e b hb => hb.lt) (by omega)
      have hxw := (hfi.below.block w.heap.size (by rw [HZ1.out]; omega)).trans HX1.out
      have HXW := Lib.hid hxw
      have HBW := Lib.hid (HB1.out.trans (hfi.below.mono (by rw [HZ1.out]; omega)))
      have HAT := Lib.hid hat
      have HVL := Lib.hid hvl
      have HNJ := Lib.hid hj
      clear hk hfi hj hjn hrd hat hvl hxw HFI HK
      generalize hall : (mkL (linesS s)).all okLn = t at HVL
      have HALL := Lib.hid hall
      clear hall
      go_wp2_with fail
      refine HVL.out.mono ?_
      rintro e w5 ⟨rfl, hb5⟩
      have hx5 := (hb5.block w.heap.size (lt_of_block HXW.out)).trans HXW.out
      have HX5 := Lib.hid hx5
      have HB5 := Lib.hid hb5
      obtain ⟨⟨p0, p1, p2, p3, p4⟩, q0, q1, q2, q3, q4⟩ := fresh_fr hx5
      clear hx5 hb5
      go_wp2_with fail
      have hfw := frW_at (kd := 1) (nm := nm) (lo := some ⟨W1.heap.size, 0, none⟩) (ln := n) (lc := n) (ao := none) (an := 0) (ac := 0) (tk := 0) HX5.out
      refine frbool_end (t := 4) (u := 5) (g := w.heap.size) rfl rfl rfl rfl (by rw [← hfw]; rfl) ?_
      rw [HALL.out]
      refine ⟨⟨1, nm, some ⟨W1.heap.size, 0, none⟩, n, n, none, 0, 0, 0⟩, rfl, fun _ => ?_, ?_⟩
      · show RfIs (Tg (FrW w5 w.heap.size 1 nm (some ⟨W1.heap.size, 0, none⟩) n n none 0 0 0)) (FrW w5 w.heap.size 1 nm (some ⟨W1.heap.size, 0, none⟩) n n none 0 0 0) _ _
        have hls := (HAT.out.dt (Dt.below HB5.out)).dt (RfIs.frW (kd := 1) (nm := nm) (lo := some ⟨W1.heap.size, 0, none⟩) (ln := n) (lc := n) (ao := none) (an := 0) (ac := 0) (tk := 0) HX5.out)
        exact ⟨rfl, rfl, rfl, hls, (fun h => by cases h), Nat.le_refl _, show ((n : Nat) : Int) ≤ 9223372036854775807 by omega, strs_none _, fun _ => rfl, Nat.le_refl _, show ((0 : Nat) : Int) ≤ 9223372036854775807 by decide, show 0 * 16 ≤ 140737488351232 by decide⟩
      · exact frW_below (HBW.out.trans (HB5.out.mono HBW.out.size)) (Nat.le_refl _)
theorem file_any (nm s : ByteArray) (hs : s.size ≤ 1000000) (w : World) : Calls Tryd.prog 44 #[.string nm, .string s] w (FileP nm s w) := by
  by_cases h : okName nm = true ∧ (linesS s).length ≤ 20000
  · exact file_yes nm s hs w h.1 h.2
  · refine file_no nm s hs w ?_
    cases hn : okName nm with
    | false => exact .inl rfl
    | true => exact .inr (by have h2 : ¬ (linesS s).length ≤ 20000 := fun h2 => h ⟨hn, h2⟩; omega)
end Go.Proofs.YtfobbcddedcepaaDoor
