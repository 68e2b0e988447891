/- The code's quoted texts. -/
import Derived.Test.YtnffmlfapccgkaaDoorW2
namespace Go.Proofs.YtnffmlfapccgkaaDoor
open Go.RowKit Go.Shelf
set_option maxRecDepth 100000
set_option linter.unusedSimpArgs false
set_option linter.unusedVariables false
theorem bh_le (l : List UInt8) (j : Nat) (h : j < l.length) : j < bh l j ∧ bh l j ≤ l.length := by
  unfold bh
  split <;> omega
theorem lt_of_some {α : Type} {l : List α} {j : Nat} {c : α} (h : l[j]? = some c) : j < l.length := (List.getElem?_eq_some_iff.1 h).1
theorem drop_of {l : List UInt8} {j : Nat} {c : UInt8} (h : l[j]? = some c) : l.drop j = c :: l.drop (j + 1) := by
  obtain ⟨h1, h2⟩ := List.getElem?_eq_some_iff.1 h
  rw [List.drop_eq_getElem_cons h1, h2]
theorem take_of {l : List UInt8} {j : Nat} {c : UInt8} (h : l[j]? = some c) : (l.take (j + 1)).drop j = [c] := by
  obtain ⟨h1, h2⟩ := List.getElem?_eq_some_iff.1 h
  rw [List.take_succ_eq_append_getElem h1, List.drop_append, List.drop_eq_nil_of_le (by simp; omega), h2]
  simp [Nat.min_eq_left (Nat.le_of_lt h1)]
theorem bs_at {t : List UInt8} {j : Nat} {c : UInt8} (h : t[j]? = some c) (hj : j < (bs t).size) : (bs t)[j] = c := by
  obtain ⟨h1, h2⟩ := List.getElem?_eq_some_iff.1 h
  rw [← h2]; rfl
theorem some_of {α : Type} (l : List α) (j : Nat) (h : j < l.length) : ∃ c, l[j]? = some c := ⟨_, List.getElem?_eq_getElem h⟩
theorem bh_of {l : List UInt8} {j : Nat} {c : UInt8} (h : l[j]? = some c) : bh l j = if c = 92 then min (j + 2) l.length else j + 1 := by
  unfold bh; rw [h]; simp
theorem qt_one (c : UInt8) (h : c ≠ 34) : qt [c] = ([c], []) := by simp [qt, h]
theorem qt_bs (d : UInt8) (t : List UInt8) : qt (92 :: d :: t) = (92 :: d :: (qt t).1, (qt t).2) := by simp [qt]
theorem qt_or (c d : UInt8) (t : List UInt8) (h : c ≠ 34) (h2 : c ≠ 92) : qt (c :: d :: t) = (c :: (qt (d :: t)).1, (qt (d :: t)).2) := by simp [qt, h, h2]
theorem qt_dq (t : List UInt8) : qt (34 :: 34 :: t) = (34 :: (qt t).1, (qt t).2) := by simp [qt]
theorem qt_end (d : UInt8) (t : List UInt8) (h : d ≠ 34) : qt (34 :: d :: t) = ([], d :: t) := by simp [qt, h]
theorem qt_end1 : qt [34] = ([], []) := by simp [qt]
/-- A piece that is no quote. -/
theorem qt_step (l : List UInt8) (j : Nat) (c : UInt8) (hc : l[j]? = some c) (h : c ≠ 34) : qt (l.drop j) = ((l.take (bh l j)).drop j ++ (qt (l.drop (bh l j))).1, (qt (l.drop (bh l j))).2) := by
  have hb := bh_of hc
  have hj := lt_of_some hc
  have t1 := take_of hc
  by_cases hlast : j + 1 < l.length
  · obtain ⟨d, hd⟩ := some_of l (j + 1) hlast
    have d2 := drop_of hd
    by_cases h92 : c = 92
    · rw [hb, if_pos h92, Nat.min_eq_left (by omega), drop_of hc, h92, d2, qt_bs]
      have t2 : (l.take (j + 2)).drop j = [92, d] := by
        obtain ⟨h1, h2⟩ := List.getElem?_eq_some_iff.1 hd
        rw [List.take_succ_eq_append_getElem h1, List.drop_append, t1, h92, h2]
        simp [Nat.min_eq_left (Nat.le_of_lt h1)]
      rw [t2]; rfl
    · rw [hb, if_neg h92, t1, drop_of hc, d2, qt_or _ _ _ h h92, ← d2]; rfl
  · have he : l.drop (j + 1) = [] := List.drop_eq_nil_of_le (by omega)
    have hbe : bh l j = j + 1 := by rw [hb]; split <;> omega
    rw [hbe, t1, drop_of hc, he, qt_one _ h]; rfl
/-- What a writing of a quoted text holds at its head. -/
def CqR (t : List UInt8) (w : World) (k : Nat) (n a : Value) (wr : World) : Prop :=
  ∃ (j : Nat) (acc : List UInt8), t.length ≤ j + k ∧ j ≤ t.length ∧ n = .int .i64 (j : Int) ∧ a = .int .i64 (j : Int) ∧ qt t = (acc ++ (qt (t.drop j)).1, (qt (t.drop j)).2) ∧ acc.length ≤ j ∧ Bu w.heap.size w.heap.size acc wr ∧ Below w.heap.size w wr
theorem bu_heap {B b : Nat} {l : List UInt8} {w W : World} (h : Bu B b l w) (hW : W.heap = w.heap) : Bu B b l W := h.keep2 fun k c t fz hk _ => by rw [hW]; exact hk
theorem pre_call (s p : ByteArray) (w : World) : Calls Tryd.prog 68 #[.string s, .string p] w fun e w' => e = .returned (.bool (Lib.hasPrefix s.data.toList p.data.toList)) ∧ w = w' :=
  (Tryd.strings_HasPrefix s p w).mono fun _ _ h => ⟨h.1, h.2.symm⟩
theorem pre34 (l : List UInt8) : Lib.hasPrefix l [34] = (l.head? == some 34) := by
  cases l with
  | nil => rfl
  | cons a t =>
    show ((34 : UInt8) == a && List.isPrefixOf [] t) = _
    simp only [List.isPrefixOf, Bool.and_true, List.head?_cons]
    cases h : (34 : UInt8) == a with
    | true => rw [eq_of_beq h]; simp
    | false => 
      have : a ≠ 34 := fun e => by rw [e] at h; simp at h
      simp [this]
set_option maxHeartbeats 4000000 in
theorem cutQuoted_any (t : List UInt8) (ht : t.length ≤ 1000000) (w : World) : Calls Tryd.prog 48 #[.string (bs t)] w fun e w' => e = .returned (.tuple #[.string (bs (qt t).1), .string (bs (qt t).2)]) ∧ Below w.heap.size w w' := by
  have HBE := Lib.hid (fun k (hk : k < (bs t).size) W => behind_any (bs t) k hk (by rw [bs_size]; exact ht) W)
  rw [bs_list] at HBE
  have HST : Hid (CqR t w t.length (.int .i64 0) (.int .i64 0) (w.alloc (.cells #[.pointer none, .slice none 0 0] 68))) := Lib.hid ⟨0, [], by omega, Nat.zero_le _, rfl, rfl, by simp, Nat.le_refl _, bu_new w, bel0 w _⟩
  have HSZ := Lib.hid (bs_size t)
  obtain ⟨R, hR⟩ : ∃ R, R = qt t := ⟨_, rfl⟩
  rw [← hR]
  have HR := Lib.hid hR
  clear hR
  go_enter Tryd.func48, Tryd.ntmps48
  go_wp2_with fail
  go_loopg [5, 6] t.length (fun k n a wr => CqR t w k n a wr)
  case atStart => exact HST.out
  case round =>
    obtain ⟨j, acc, hk, hj, rfl, rfl, hq, hal, hbu, hb⟩ := hrel
    have HK := Lib.hid hk
    have HQ := Lib.hid hq
    have HBU := Lib.hid hbu
    have HB := Lib.hid hb
    have hsz := hb.size
    clear hk hq hb
    by_cases hlt : j < t.length
    case neg =>
      have d1 : decide (j < (bs t).size) = false := decide_eq_false (by rw [HSZ.out]; exact hlt)
      have hje : j = t.length := by omega
      have HF := Lib.hid (show R = (acc, []) by rw [HR.out, HQ.out, hje, List.drop_length]; simp [qt])
      have HO := Lib.hid (bldK_out hbu hsz)
      clear hbu hje
      go_wp2_with fail
      refine HO.out.mono ?_
      rintro e w2 ⟨rfl, hw⟩
      have HW := Lib.hid hw
      clear hw
      go_wp2_with fail
      go_ret2
      rw [HF.out]
      exact ⟨rfl, HB.out.trans HW.out.fr⟩
    case pos =>
    have hjs : j < (bs t).size := by rw [HSZ.out]; exact hlt
    have d1 : decide (j < (bs t).size) = true := decide_eq_true hjs
    have HBJ := Lib.hid (fun W => HBE.out j hjs W)
    have hbl := bh_le t j hlt
    obtain ⟨c, hc⟩ := some_of t j hlt
    have hat := bs_at hc hjs
    by_cases h34 : c = 34
    · have t1 : (((bs t)[j].toNat : Int) == 34) = true := by rw [hat, h34]; rfl
      have hbe : bh t j = j + 1 := by rw [bh_of hc, h34]; rfl
      rw [hbe] at HBJ
      have hx1 : j + 1 ≤ (bs t).size := by omega
      have HX := Lib.hid (show (bs t).extract (j + 1) (bs t).size = bs (t.drop (j + 1)) by rw [bs_ext _ _ _ (Nat.le_refl _), bs_list, List.take_of_length_le (by rw [bs_size]; exact Nat.le_refl _)])
      have HP := Lib.hid (fun W => pre_call (bs (t.drop (j + 1))) ⟨#[34]⟩ W)
      rw [bs_list, show (⟨#[34]⟩ : ByteArray).data.toList = [34] from rfl, pre34] at HP
      have hjz : j + 1 ≤ 1000000 := by omega
      by_cases hd : (t.drop (j + 1)).head? = some 34
      · rw [hd] at HP
        rw [show ((some (34 : UInt8)) == some 34) = true from rfl] at HP
        have hlt2 : j + 1 < t.length := by
          rcases Nat.lt_or_ge (j + 1) t.length with h | h
          · exact h
          · rw [List.drop_eq_nil_of_le h] at hd; cases hd
        have hx2 : (bs t).extract j (j + 1) = bs [34] := by
          rw [bs_ext _ _ _ hx1, bs_list, take_of hc, h34]
        have HX2 := Lib.hid hx2
        have HW := Lib.hid (bldK_str hbu [34] (by simp; omega) hsz)
        have HN := Lib.hid (show R = ((acc ++ [34]) ++ (qt (t.drop (j + 2))).1, (qt (t.drop (j + 2))).2) by
          obtain ⟨d, hdd⟩ := some_of t (j + 1) hlt2
          rw [drop_of hdd, List.head?_cons] at hd
          rw [HR.out, HQ.out, drop_of hc, drop_of hdd, h34, Option.some.inj hd, qt_dq]; simp)
        have HAL := Lib.hid hal
        have HLT := Lib.hid hlt2
        clear hbu hd hbl hat h34 hbe hx2 hal hc
        go_wp2_with fail
        refine (HBJ.out _).mono ?_
        rintro e w2 ⟨rfl, rfl⟩
        go_wp2_with fail
        rw [HX.out]
        refine (HP.out _).mono ?_
        rintro e w2 ⟨rfl, rfl⟩
        go_wp2_with fail
        rw [HX2.out]
        refine HW.out.mono ?_
        rintro e w2 ⟨rfl, hw⟩
        have HWK := Lib.hid hw
        clear hw
        go_wp2_with fail
        go_roundg (gk - 1)
        case measure => have := HK.out; omega
        case rel => exact ⟨j + 2, acc ++ [34], by have := HK.out; omega, by have := HLT.out; omega, by go_num, by go_num, HR.out ▸ HN.out, by have := HAL.out; simp; omega, HWK.out.bu, HB.out.trans HWK.out.fr⟩
      · rw [show ((t.drop (j + 1)).head? == some 34) = false by simpa using hd] at HP
        have HF := Lib.hid (show R = (acc, t.drop (j + 1)) by
          rw [HR.out, HQ.out, drop_of hc, h34]
          cases he : t.drop (j + 1) with
          | nil => rw [qt_end1]; simp
          | cons d r =>
            rw [he, List.head?_cons] at hd
            rw [qt_end d r (fun e => hd (by rw [e]))]; simp)
        have HO : Hid (∀ W, W.heap = wr.heap → Calls Tryd.prog 38 #[.pointer (some ⟨w.heap.size, 0, none⟩)] W fun e w' => e = .returned (.string (bs acc)) ∧ Below w.heap.size W w') := Lib.hid fun W hW => (bldK_out (w := W) (bu_heap hbu hW) (by rw [hW]; exact hsz)).mono fun e w' ⟨h1, h2⟩ => ⟨h1, h2.fr⟩
        clear hbu hd hbl hat h34 hbe hc
        go_wp2_with fail
        refine (HBJ.out _).mono ?_
        rintro e w2 ⟨rfl, rfl⟩
        go_wp2_with fail
        rw [HX.out]
        refine (HP.out _).mono ?_
        rintro e w2 ⟨rfl, rfl⟩
        go_wp2_with fail
        go_region_with (first
          | (go_at_call 38; refine (HO.out _ ?_).mono ?_
             · rfl
             rintro e w2 ⟨rfl, hb2⟩
             have HB2 := Lib.hid hb2
             clear hb2))
        all_goals
          go_wp2_with fail
          go_ret2
          rw [HF.out, HX.out]
          exact ⟨rfl, HB.out.trans ⟨HB2.out.os, HB2.out.tape, HB2.out.output, HB2.out.size, HB2.out.block⟩⟩
    · have t1 : (((bs t)[j].toNat : Int) == 34) = false := by rw [hat]; exact nb _ 34 h34
      have HN := Lib.hid (show R = ((acc ++ (t.take (bh t j)).drop j) ++ (qt (t.drop (bh t j))).1, (qt (t.drop (bh t j))).2) by
        rw [HR.out, HQ.out, qt_step t j c hc h34]; simp)
      have HX2 := Lib.hid (show (bs t).extract j (bh t j) = bs ((t.take (bh t j)).drop j) by rw [bs_ext _ _ _ (by rw [HSZ.out]; exact hbl.2), bs_list])
      have hpl : ((t.take (bh t j)).drop j).length = bh t j - j := by rw [List.length_drop, List.length_take]; omega
      obtain ⟨p, hp⟩ : ∃ p, p = (t.take (bh t j)).drop j := ⟨_, rfl⟩
      rw [← hp] at HN HX2 hpl
      obtain ⟨q, hqq⟩ : ∃ q, q = bh t j := ⟨_, rfl⟩
      rw [← hqq] at HN HX2 hpl hbl HBJ
      have HW := Lib.hid (bldK_str hbu p (by omega) hsz)
      have HAL := Lib.hid (show (acc ++ p).length ≤ q by rw [List.length_append]; omega)
      have HQL := Lib.hid hbl
      have hq1 : j ≤ q := by omega
      have hq2 : q ≤ (bs t).size := by rw [HSZ.out]; exact hbl.2
      clear hbu hbl hat h34 hp hqq hpl hal hc
      go_wp2_with fail
      refine (HBJ.out _).mono ?_
      rintro e w2 ⟨rfl, rfl⟩
      go_wp2_with fail
      rw [HX2.out]
      refine HW.out.mono ?_
      rintro e w2 ⟨rfl, hw⟩
      have HWK := Lib.hid hw
      clear hw
      go_wp2_with fail
      go_roundg (gk - 1)
      case measure => have := HK.out; have := HQL.out; omega
      case rel => exact ⟨q, acc ++ p, by have := HK.out; have := HQL.out; omega, HQL.out.2, by go_num, by go_num, HR.out ▸ HN.out, HAL.out, HWK.out.bu, HB.out.trans HWK.out.fr⟩
end Go.Proofs.YtnffmlfapccgkaaDoor
