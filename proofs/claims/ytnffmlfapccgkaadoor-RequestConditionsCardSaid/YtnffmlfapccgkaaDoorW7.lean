/- The fixed example; lists of texts compared. -/
import Derived.Test.YtnffmlfapccgkaaDoorW6
namespace Go.Proofs.YtnffmlfapccgkaaDoor
open Go.RowKit Go.Shelf
set_option maxRecDepth 100000
set_option linter.unusedSimpArgs false
set_option linter.unusedVariables false
/-- The cell of the library's variable: some number. -/
def MaxI (w : World) : Prop := ∃ m, w.cell? ⟨0, 0, none⟩ = some (.int .i64 m)
theorem MaxI.below {B : Nat} {w w' : World} (h : MaxI w) (k : Below B w w') (hB : w.heap.size ≤ B) : MaxI w' := by
  obtain ⟨m, hm⟩ := h
  have hlt := World.block_lt_of_cell? w _ hm
  exact ⟨m, (k.cell (p := ⟨0, 0, none⟩) (Nat.lt_of_lt_of_le hlt hB)).trans hm⟩
def saneL : List UInt8 := [46, 120, 120, 32, 97, 32, 34, 98, 32, 99, 34, 32, 100, 34, 101]
theorem sane_facts : csS saneL 46 39 = true ∧ isC saneL 46 39 = true ∧ nmS saneL = [120, 120] ∧ wds (rsS saneL) = [[97], [98, 32, 99], [100, 34, 101]] ∧ (saneL.head? == some 39) = false := by decide +kernel
theorem fresh_put (w : World) (t : TypeId) (d0 d1 d2 d3 c0 c1 c2 c3 : Value) : (put4 (w.alloc (.cells #[d0, d1, d2, d3] t)) w.heap.size c0 c1 c2 c3).heap[w.heap.size]? = some (.cells #[c0, c1, c2, c3] t (0, 0)) := put4_at (heap_alloc_new w _)
theorem sane_any (w : World) : Calls Tryd.prog 10 #[] w fun e w' => e = .returned (.bool true) ∧ Below w.heap.size w w' := by
  have HS := split_any saneL 46 39 (by decide) w
  obtain ⟨f1, f2, f3, f4, f5⟩ := sane_facts
  unfold SpP at HS
  rw [f1, f2] at HS
  simp only [if_true] at HS
  unfold SpL at HS
  rw [f3, f4, f5] at HS
  have HC := Lib.hid HS
  clear HS f1 f2 f3 f4 f5
  go_enter Tryd.func10, Tryd.ntmps10
  go_wp2_with fail
  refine HC.out.mono ?_
  rintro e w1 ⟨A, c, rfl, hs, hc, hle, hb⟩
  obtain ⟨b, off, rfl, hbl, hcell⟩ := hs.2 (by decide)
  have k1 := hcell 1 (by decide)
  have k2 := hcell 2 (by decide)
  have HB := Lib.hid hb
  have HBL := Lib.hid hbl
  have e0 : ((bs [120, 120]).toList == [120, 120]) = true := by rw [Lib.toList_data, bs_list]; rfl
  have e1 : ((bs [98, 32, 99]).toList == [98, 32, 99]) = true := by rw [Lib.toList_data, bs_list]; rfl
  have e2 : ((bs [100, 34, 101]).toList == [100, 34, 101]) = true := by rw [Lib.toList_data, bs_list]; rfl
  clear hs hb hcell
  go_wp2_with fail
  go_ret
  exact ⟨rfl, HB.out.trans ((bel0 w1 _).mono HB.out.size)⟩
theorem list_same (A1 A2 : Option Addr) (n c1 c2 : Nat) (ls : List (List UInt8)) (w : World) (h1 : StrsAt w A1 n (ls.map bs)) (h2 : StrsAt w A2 n (ls.map bs)) (hn : (n : Int) ≤ 9223372036854775807) :
    Calls Tryd.prog 12 #[.slice A1 n c1, .slice A2 n c2] w fun e w' => e = .returned (.bool true) ∧ Below w.heap.size w w' := by
  have hlen := h1.len
  have H1 := Lib.hid h1
  have H2 := Lib.hid h2
  have HL := Lib.hid hlen
  clear h1 h2 hlen
  go_enter Tryd.func12, Tryd.ntmps12
  go_wp2_with fail
  go_loopg [5] n (fun k i wr => (∃ j : Nat, k + j = n ∧ i = .int .i64 (j : Int)) ∧ Below w.heap.size w wr)
  case atStart => exact ⟨⟨0, rfl, rfl⟩, Below.refl _ _⟩
  case round =>
    obtain ⟨⟨j, hk, rfl⟩, hb⟩ := hrel
    have HK := Lib.hid hk
    have HB := Lib.hid hb
    clear hk hb
    by_cases hj : j < n
    · have d1 : decide (j < n) = true := decide_eq_true hj
      have hjl : j < ls.length := by have := HL.out; omega
      obtain ⟨b1, o1, rfl, _, k1⟩ := (H1.out.below HB.out).cell j hjl
      obtain ⟨b2, o2, rfl, _, k2⟩ := (H2.out.below HB.out).cell j hjl
      obtain ⟨x, hx⟩ : ∃ x, x = bs ls[j] := ⟨_, rfl⟩
      rw [← hx] at k1 k2
      clear hx
      go_wp2_with fail
      go_region
      all_goals
        go_wp2_with fail
        go_roundg (gk - 1)
        case measure => have := HK.out; omega
        case rel => exact ⟨⟨j + 1, by have := HK.out; omega, by go_num⟩, below_drewN HB.out 1⟩
    · have d1 : decide (j < n) = false := decide_eq_false hj
      go_wp2_with fail
      go_ret
      exact ⟨rfl, HB.out⟩
theorem rdTrim_len (l : List UInt8) : (Lib.trimRightB l 92).length ≤ l.length := by
  unfold Lib.trimRightB
  simp only [List.length_reverse]
  have := (List.dropWhile_sublist (fun b => b == 92) (l := l.reverse)).length_le
  simpa using this
theorem odd_any (s : ByteArray) (hs : s.size ≤ 1000000) : ∃ b : Bool, ∀ w, Calls Tryd.prog 62 #[.string s] w fun e w' => e = .returned (.bool b) ∧ w = w' := by
  have HT := Lib.hid (fun W => Tryd.strings_TrimRight_one s 92 (by decide) W (by omega))
  have hle := rdTrim_len s.data.toList
  rw [show s.data.toList.length = s.size from (sz_of s _ rfl).symm] at hle
  have hX : (⟨(Lib.trimRightB s.data.toList 92).toArray⟩ : ByteArray).size ≤ s.size := by
    show (Lib.trimRightB s.data.toList 92).toArray.size ≤ _
    simpa using hle
  obtain ⟨X, hXX⟩ : ∃ X : ByteArray, X = ⟨(Lib.trimRightB s.data.toList 92).toArray⟩ := ⟨_, rfl⟩
  rw [← hXX] at HT hX
  clear hle hXX
  refine ⟨((((s.size : Int) - (X.size : Int)) % 2 : Int) == 1), fun w => ?_⟩
  go_enter Tryd.func62, Tryd.ntmps62
  go_wp2_with fail
  refine (HT.out _).mono ?_
  rintro e w1 ⟨rfl, hw⟩
  rw [hw]
  clear hw
  go_wp2_with fail
  go_ret
  exact ⟨rfl, rfl⟩
/-- Each quote twice. -/
def dbl : List UInt8 → List UInt8
  | [] => []
  | c :: t => if c = 34 then 34 :: 34 :: dbl t else c :: dbl t
theorem dbl_len (l : List UInt8) : (dbl l).length = l.length + l.count 34 := by
  induction l with
  | nil => rfl
  | cons c t ih =>
    rw [dbl]
    by_cases h : c = 34
    · rw [if_pos h, h]; simp only [List.length_cons, List.count_cons_self]; omega
    · rw [if_neg h, List.count_cons_of_ne (by simpa using fun e => h e)]; simp only [List.length_cons]; omega
theorem dbl_app (a b : List UInt8) : dbl (a ++ b) = dbl a ++ dbl b := by
  induction a with
  | nil => rfl
  | cons c t ih =>
    rw [List.cons_append, dbl, dbl]
    split <;> simp [ih]
theorem dbl_no (l : List UInt8) (h : l.count 34 = 0) : dbl l = l := by
  induction l with
  | nil => rfl
  | cons c t ih =>
    by_cases hc : c = 34
    · rw [hc] at h; simp at h
    · rw [List.count_cons_of_ne (by simpa using fun e => hc e)] at h
      rw [dbl, if_neg hc, ih h]
theorem ix_none (l : List UInt8) (h : Lib.indexByte l 34 = -1) : l.count 34 = 0 := by
  rw [List.count_eq_zero]
  intro hm
  obtain ⟨k, hk⟩ := List.mem_iff_getElem?.1 hm
  exact Lib.indexByte_none h k hk
/-- The place of the first backslash parts the text. -/
theorem ix_part (l : List UInt8) (i : Nat) (h : Lib.indexByte l 34 = i) : l = l.take i ++ 34 :: l.drop (i + 1) ∧ (l.take i).count 34 = 0 := by
  obtain ⟨h1, h2⟩ := Lib.indexByte_some h
  have hi : i < l.length := (List.getElem?_eq_some_iff.1 h1).1
  have he : l[i] = 34 := (List.getElem?_eq_some_iff.1 h1).2
  constructor
  · conv => lhs; rw [← List.take_append_drop i l]
    rw [List.drop_eq_getElem_cons hi, he]
  · rw [List.count_eq_zero]
    intro hm
    obtain ⟨k, hk⟩ := List.mem_iff_getElem?.1 hm
    rw [List.getElem?_take] at hk
    split at hk
    · exact h2 k (by assumption) hk
    · cases hk
theorem replaceK_dbl (n : Nat) : ∀ l : List UInt8, l.count 34 = n → Lib.replaceK [34] [34, 34] n l = dbl l := by
  induction n with
  | zero => intro l h; rw [dbl_no l h]; rfl
  | succ n ih =>
    intro l h
    have hge := Lib.indexByte_ge l 34
    by_cases hm : Lib.indexByte l 34 = -1
    · rw [ix_none l hm] at h; cases h
    · obtain ⟨i, hi⟩ : ∃ i : Nat, Lib.indexByte l 34 = i := ⟨(Lib.indexByte l 34).toNat, by omega⟩
      obtain ⟨h1, h2⟩ := ix_part l i hi
      rw [Lib.replaceK_hit [34] [34, 34] n l i (by rw [Lib.index_one]; exact hi)]
      have h3 : (l.drop (i + 1)).count 34 = n := by
        rw [h1, List.count_append, h2, List.count_cons_self] at h
        omega
      rw [show Lib.replaceK [34] [34, 34] n (l.drop (i + ([34] : List UInt8).length)) = dbl (l.drop (i + 1)) from ih _ h3]
      conv => rhs; rw [h1]
      rw [dbl_app, dbl_no _ h2, dbl, if_pos rfl]
      simp
theorem replaceAll_dbl (l : List UInt8) : Lib.replaceAll l [34] [34, 34] = dbl l := by
  unfold Lib.replaceAll Lib.replace
  rw [if_neg (by decide)]
  unfold Lib.replaceNum
  rw [if_pos (.inl (by decide)), Lib.count_one]
  exact replaceK_dbl _ l rfl
theorem dbl_two (l : List UInt8) : (dbl l).length ≤ 2 * l.length := by
  have := dbl_len l
  have := List.count_le_length (a := (34 : UInt8)) (l := l)
  omega
theorem repl_call (l : List UInt8) (hl : l.length ≤ 100000) (W : World) (hM : MaxI W) : Calls Tryd.prog 63 #[.string (bs l), .string ⟨#[34]⟩, .string ⟨#[34, 34]⟩] W fun e w' => e = .returned (.string (bs (dbl l))) ∧ Below W.heap.size W w' := by
  obtain ⟨m, hm⟩ := hM
  have h := Tryd.strings_ReplaceAll (bs l) ⟨#[34]⟩ ⟨#[34, 34]⟩ m W (by rw [bs_size]; omega) hm (by decide) (by
    show _ + Lib.count (bs l).data.toList [34] * 2 ≤ _
    rw [bs_list, Lib.count_one, bs_size]
    have := List.count_le_length (a := (34 : UInt8)) (l := l)
    omega)
  rw [show (⟨#[34]⟩ : ByteArray).data.toList = [34] from rfl, show (⟨#[34, 34]⟩ : ByteArray).data.toList = [34, 34] from rfl, bs_list, replaceAll_dbl] at h
  exact h
theorem quot_cat (l : List UInt8) : (⟨#[34]⟩ : ByteArray) ++ bs l ++ (⟨#[34]⟩ : ByteArray) = bs (34 :: l ++ [34]) := by
  apply ByteArray.ext; rw [ByteArray.data_append, ByteArray.data_append]; simp [bs]
set_option maxHeartbeats 2000000 in
theorem written_any (l : List UInt8) (hl : l.length ≤ 100000) : ∃ r : List UInt8, r.length ≤ 2 * l.length + 2 ∧ ∀ w, MaxI w → Calls Tryd.prog 37 #[.string (bs l)] w fun e w' => e = .returned (.string (bs r)) ∧ Below w.heap.size w w' := by
  have HR := Lib.hid (fun W (hM : MaxI W) => repl_call l hl W hM)
  have HQ := Lib.hid (quot_cat (dbl l))
  have hd2 := dbl_two l
  have hq1 : (⟨#[34]⟩ : ByteArray).size + (bs (dbl l)).size ≤ 1000000 := by rw [bs_size]; show 1 + _ ≤ _; omega
  have hq2 : ((⟨#[34]⟩ : ByteArray) ++ bs (dbl l)).size + (⟨#[34]⟩ : ByteArray).size ≤ 1000000 := by
    rw [ByteArray.size_append, bs_size]; show 1 + _ + 1 ≤ _; omega
  have hqq : (34 :: dbl l ++ [34]).length ≤ 2 * l.length + 2 := by simp; omega
  have HCA := Lib.hid (fun W => ctAny_any (bs l) (by rw [bs_size]; omega) W)
  rw [bs_list] at HCA
  obtain ⟨D, hD⟩ : ∃ D, D = bs (dbl l) := ⟨_, rfl⟩
  rw [← hD] at HR HQ hq1 hq2
  cases hl0 : l with
  | nil =>
    have hne : ((bs l).toList).isEmpty = true := by rw [hl0, Lib.toList_data, bs_list]; rfl
    have hne2 : (bs l).toList = [] := by rw [hl0, Lib.toList_data, bs_list]
    rw [← hl0]
    obtain ⟨S, hS⟩ : ∃ S, S = bs l := ⟨_, rfl⟩
    rw [← hS] at HR hne hne2 ⊢
    refine ⟨34 :: dbl l ++ [34], hqq, fun w hM => ?_⟩
    have HRR := Lib.hid (HR.out w hM)
    clear hS hD hM hl0
    go_enter Tryd.func37, Tryd.ntmps37
    go_wp2_with fail
    refine HRR.out.mono ?_
    rintro e w1 ⟨rfl, hb⟩
    have HB := Lib.hid hb
    clear hb
    go_wp2_with fail
    go_ret
    rw [HQ.out]
    exact ⟨rfl, HB.out⟩
  | cons c t =>
    rw [← hl0]
    obtain ⟨S, hS⟩ : ∃ S, S = bs l := ⟨_, rfl⟩
    obtain ⟨h0s, hat, hne, hne2⟩ := head_facts S c t (by rw [hS, hl0])
    obtain ⟨od, hod⟩ : ∃ od : Bool, ∀ W, Calls Tryd.prog 62 #[.string S] W fun e w' => e = .returned (.bool od) ∧ W = w' := odd_any S (by rw [hS, bs_size]; omega)
    have HOD := Lib.hid hod
    rw [← hS] at HR HCA ⊢
    obtain ⟨ca, hca⟩ : ∃ ca, ca = decide (0 ≤ Lib.indexAny l [32, 9]) := ⟨_, rfl⟩
    rw [← hca] at HCA
    clear hca hod
    cases ca with
    | true =>
      refine ⟨34 :: dbl l ++ [34], hqq, fun w hM => ?_⟩
      have HM := Lib.hid hM
      clear hS hD hM hl0
      go_enter Tryd.func37, Tryd.ntmps37
      go_wp2_with fail
      refine (HCA.out _).mono ?_
      rintro e w1 ⟨rfl, hb⟩
      have HRR := Lib.hid (HR.out w1 (HM.out.below hb (Nat.le_refl _)))
      have HB := Lib.hid hb
      clear hb
      go_wp2_with fail
      refine HRR.out.mono ?_
      rintro e w2 ⟨rfl, hb⟩
      have HB2 := Lib.hid (HB.out.trans (hb.mono HB.out.size))
      clear hb
      go_wp2_with fail
      go_ret
      rw [HQ.out]
      exact ⟨rfl, HB2.out⟩
    | false =>
      by_cases h34 : c = 34
      · have t1 : ((S[0].toNat : Int) == 34) = true := by rw [hat, h34]; rfl
        refine ⟨34 :: dbl l ++ [34], hqq, fun w hM => ?_⟩
        have HM := Lib.hid hM
        clear hS hD hM hl0 hat
        go_enter Tryd.func37, Tryd.ntmps37
        go_wp2_with fail
        refine (HCA.out _).mono ?_
        rintro e w1 ⟨rfl, hb⟩
        have HRR := Lib.hid (HR.out w1 (HM.out.below hb (Nat.le_refl _)))
        have HB := Lib.hid hb
        clear hb
        go_wp2_with fail
        refine HRR.out.mono ?_
        rintro e w2 ⟨rfl, hb⟩
        have HB2 := Lib.hid (HB.out.trans (hb.mono HB.out.size))
        clear hb
        go_wp2_with fail
        go_ret
        rw [HQ.out]
        exact ⟨rfl, HB2.out⟩
      · have t1 : ((S[0].toNat : Int) == 34) = false := by rw [hat]; exact nb _ 34 h34
        cases od with
        | true =>
          refine ⟨34 :: dbl l ++ [34], hqq, fun w hM => ?_⟩
          have HM := Lib.hid hM
          clear hS hD hM hl0 hat
          go_enter Tryd.func37, Tryd.ntmps37
          go_wp2_with fail
          refine (HCA.out _).mono ?_
          rintro e w1 ⟨rfl, hb⟩
          have HRR := Lib.hid (HR.out w1 (HM.out.below hb (Nat.le_refl _)))
          have HB := Lib.hid hb
          clear hb
          go_wp2_with fail
          refine (HOD.out _).mono ?_
          rintro e w2 ⟨rfl, hw⟩
          rw [← hw]
          clear hw
          go_wp2_with fail
          refine HRR.out.mono ?_
          rintro e w2 ⟨rfl, hb⟩
          have HB2 := Lib.hid (HB.out.trans (hb.mono HB.out.size))
          clear hb
          go_wp2_with fail
          go_ret
          rw [HQ.out]
          exact ⟨rfl, HB2.out⟩
        | false =>
          refine ⟨l, by omega, fun w hM => ?_⟩
          rw [← hS]
          clear hS hD hM hl0 hat
          go_enter Tryd.func37, Tryd.ntmps37
          go_wp2_with fail
          refine (HCA.out _).mono ?_
          rintro e w1 ⟨rfl, hb⟩
          have HB := Lib.hid hb
          clear hb
          go_wp2_with fail
          refine (HOD.out _).mono ?_
          rintro e w2 ⟨rfl, hw⟩
          rw [← hw]
          clear hw
          go_wp2_with fail
          go_ret
          exact ⟨rfl, HB.out⟩
end Go.Proofs.YtnffmlfapccgkaaDoor
