/- SourceLines: the walk. -/
import Derived.Test.YtfmlokkkhfnglaaDoorRA
namespace Go.Proofs.YtfmlokkkhfnglaaDoor
open Go.RowKit
set_option maxRecDepth 100000
set_option linter.unusedSimpArgs false
set_option linter.unusedVariables false
theorem str_at (xs : List ByteArray) (j : Nat) (h : j < xs.length) : (strCs xs)[j]? = some (.string xs[j]) := by
  unfold strCs; rw [List.getElem?_map, List.getElem?_eq_getElem h]; rfl
theorem texts_eq {P P' : TypeId → Nat → Prop} {w : World} {A A' : Option Addr} {n c c' : Nat} {xs : List ByteArray} (h : StrsAt P w A n xs) (h' : StrsAt P' w A' n xs) (hn : (n : Int) ≤ 9223372036854775807) :
    Calls Tryd.prog 22 #[.slice A n c, .slice A' n c'] w fun e w' => e = .returned (.bool true) ∧ Below w.heap.size w w' := by
  have H := Lib.hid h.rd
  have H' := Lib.hid h'.rd
  have HL := Lib.hid h.len
  have hself : ((n : Int) != (n : Int)) = false := by simp
  clear h h'
  go_enter Tryd.func22, Tryd.ntmps22
  go_wp2_with fail
  go_loopg [5] n (fun k i wr => ∃ j : Nat, k + j = n ∧ i = .int .i64 j ∧ wr.heap = w.heap ∧ Below w.heap.size w wr)
  case atStart => exact ⟨0, rfl, rfl, rfl, Below.refl _ _⟩
  case round =>
    obtain ⟨j, hk, rfl, hh, hb⟩ := hrel
    have HK := Lib.hid hk
    have HH := Lib.hid hh
    have HB := Lib.hid hb
    by_cases hj : j < n
    · have dj : decide (j < n) = true := decide_eq_true hj
      have hjl : j < xs.length := by rw [← HL.out]; exact hj
      obtain ⟨b, off, rfl, _, hc⟩ := H.out.2 (by omega)
      obtain ⟨b', off', rfl, _, hc'⟩ := H'.out.2 (by omega)
      have c0 := hc j _ (str_at xs j hjl)
      have c0' := hc' j _ (str_at xs j hjl)
      have key : ∀ p : Addr, wr.cell? p = w.cell? p := fun p => by unfold World.cell?; rw [HH.out]
      rw [← key] at c0 c0'
      obtain ⟨z, hz⟩ : ∃ z, z = xs[j] := ⟨_, rfl⟩
      rw [← hz] at c0 c0'
      have HJ := Lib.hid hj
      have hj0 : (0 : Int) ≤ (j : Int) := by omega
      have hj1 : (j : Int) < (n : Int) := by omega
      clear hk hj hh hb hjl hc hc' key hz
      go_wp2_with fail
      go_quiet (fail)
      go_wp2_with fail
      go_roundg (gk - 1)
      case measure => have := HK.out; have := HJ.out; omega
      case rel => have := HK.out; have := HJ.out; exact ⟨j + 1, by omega, by go_num, HH.out, ⟨HB.out.os, HB.out.tape, HB.out.output, HB.out.size, HB.out.block⟩⟩
    · have dj : decide (j < n) = false := decide_eq_false hj
      clear hk hj hh hb
      go_wp2_with fail
      go_ret
      exact ⟨rfl, HB.out⟩
def joinL (p : List (List UInt8)) : List UInt8 := p.flatMap fun x => x ++ [10]
theorem joinL_cons (x : List UInt8) (p : List (List UInt8)) : joinL (x :: p) = x ++ [10] ++ joinL p := by simp [joinL]
theorem joinL_snoc (p : List (List UInt8)) (x : List UInt8) : joinL (p ++ [x]) = joinL p ++ (x ++ [10]) := by simp [joinL]
theorem spl_join : ∀ (l : List UInt8) (init : List (List UInt8)) (cur : List UInt8), spl l = init ++ [cur] → joinL init ++ cur = l ∧ (10 : UInt8) ∉ cur
  | [], init, cur, h => by
    have e : init = [] ∧ cur = [] := by
      cases init with
      | nil => simp [spl] at h; exact ⟨rfl, h⟩
      | cons x t => simp [spl] at h
    rw [e.1, e.2]; exact ⟨rfl, by simp⟩
  | c :: t, init, cur, h => by
    unfold spl at h
    by_cases hc : c = 10
    · rw [if_pos hc] at h
      cases init with
      | nil =>
        simp only [List.nil_append, List.cons.injEq] at h
        exact absurd h.2 (spl_ne t)
      | cons x xs =>
        simp only [List.cons_append, List.cons.injEq] at h
        obtain ⟨h1, h2⟩ := spl_join t xs cur h.2
        refine ⟨?_, h2⟩
        rw [joinL_cons, ← h.1, hc]
        simp [h1]
    · rw [if_neg hc] at h
      cases ht : spl t with
      | nil => exact absurd ht (spl_ne t)
      | cons p ps =>
        rw [ht] at h
        cases init with
        | nil =>
          simp only [List.nil_append, List.cons.injEq] at h
          obtain ⟨h1, h2⟩ := spl_join t [] p (by rw [ht, h.2]; rfl)
          rw [← h.1]
          refine ⟨?_, ?_⟩
          · have h1' : p = t := by simpa [joinL] using h1
            rw [h1']; rfl
          · simp only [List.mem_cons, not_or]
            exact ⟨fun e => hc e.symm, h2⟩
        | cons x xs =>
          simp only [List.cons_append, List.cons.injEq] at h
          obtain ⟨h1, h2⟩ := spl_join t (p :: xs) cur (by rw [ht, h.2]; rfl)
          refine ⟨?_, h2⟩
          rw [joinL_cons, ← h.1]
          rw [joinL_cons] at h1
          rw [← h1]; simp
/-- The lines, joined. -/
theorem join_lines (s : ByteArray) : joinL ((linesS s).map (·.data.toList)) = s.data.toList ∨ (joinL ((linesS s).map (·.data.toList)) = s.data.toList ++ [10] ∧ ∃ c, s.data.toList.getLast? = some c ∧ c ≠ 10) := by
  have hp := parts_data s
  have hne : parts s ≠ [] := fun e => spl_ne s.data.toList (by rw [← hp, e]; rfl)
  obtain ⟨init, cur, hic⟩ : ∃ init cur, parts s = init ++ [cur] := ⟨_, _, (List.dropLast_concat_getLast hne).symm⟩
  rw [hic, List.map_append] at hp
  obtain ⟨h1, h2⟩ := spl_join _ _ _ hp.symm
  dsimp only at h1 h2
  have hL : (parts s).getLast?.getD ⟨#[]⟩ = cur := by rw [hic]; simp
  have key : linesS s = if cur.data.toList = [] then (parts s).dropLast else parts s := by unfold linesS; simp only [hL]
  rw [key, hic]
  by_cases hc : cur.data.toList = []
  · rw [if_pos hc, List.dropLast_concat]
    rw [hc, List.append_nil] at h1
    exact .inl h1
  · rw [if_neg hc, List.map_append]
    refine .inr ⟨?_, ?_⟩
    · show joinL (init.map (·.data.toList) ++ [cur.data.toList]) = _
      rw [joinL_snoc, ← List.append_assoc, h1]
    · refine ⟨cur.data.toList.getLast hc, ?_, fun e => h2 (by rw [← e]; exact List.getLast_mem hc)⟩
      rw [← h1, List.getLast?_append, List.getLast?_eq_some_getLast hc]; rfl
theorem li_strs (s : ByteArray) (w : World) : StrsAt (Tg (w.alloc (.cells ((parts s).map Value.string).toArray 9))) (w.alloc (.cells ((parts s).map Value.string).toArray 9)) (some ⟨w.heap.size, 0, none⟩) (linesS s).length (linesS s) := by
  refine ⟨⟨by simp [strCs], fun _ => ⟨w.heap.size, 0, rfl, ⟨_, _, heap_alloc_new _ _⟩, fun j u hu => ?_⟩⟩, rfl⟩
  have hj : j < (linesS s).length := by
    have := (List.getElem?_eq_some_iff.1 hu).1
    simpa [strCs] using this
  rw [str_at _ j hj] at hu
  rw [← Option.some.inj hu, Nat.zero_add]
  exact cell_str w (parts s) j _ (linesS_at s j _ (List.getElem?_eq_getElem hj))
/-- The loop that joins. -/
def JnR (xs : List ByteArray) (w : World) (k : Nat) (x i : Value) (wr : World) : Prop :=
  ∃ (j : Nat) (b : ByteArray), k + j = xs.length ∧ i = .int .i64 j ∧ x = .string b ∧ b.data.toList = joinL ((xs.take j).map (·.data.toList)) ∧ Below w.heap.size w wr
theorem join_le : ∀ (xs : List ByteArray) (j : Nat), (joinL ((xs.take j).map (·.data.toList))).length ≤ (joinL (xs.map (·.data.toList))).length
  | [], j => by simp
  | x :: xs, 0 => by simp [joinL]
  | x :: xs, j + 1 => by
    rw [List.take_succ_cons, List.map_cons, List.map_cons, joinL_cons, joinL_cons]
    have := join_le xs j
    simp only [List.length_append]; omega
theorem join_succ (xs : List ByteArray) (j : Nat) (x : ByteArray) (h : xs[j]? = some x) : joinL ((xs.take (j + 1)).map (·.data.toList)) = joinL ((xs.take j).map (·.data.toList)) ++ (x.data.toList ++ [10]) := by
  have hj := (List.getElem?_eq_some_iff.1 h).1
  rw [List.take_succ_eq_append_getElem hj, (List.getElem?_eq_some_iff.1 h).2, List.map_append, List.map_cons, List.map_nil, joinL_snoc]
set_option maxHeartbeats 2000000 in
theorem law_lines (s : ByteArray) (w : World) : Calls Tryd.prog 5 #[.string s] w fun e w' => e = .returned (.bool true) ∧ Below w.heap.size w w' := by
  by_cases hbig : 4000 < s.size
  · have d1 : decide ((4000 : Int) < (s.size : Int)) = true := decide_eq_true (by omega)
    have HS := Lib.hid (sane_any w)
    clear hbig
    go_enter Tryd.func5, Tryd.ntmps5
    go_wp2_with fail
    refine HS.out.mono ?_
    rintro e w1 ⟨rfl, hb⟩
    have HB := Lib.hid hb
    clear hb
    go_wp2_with fail
    go_ret
    exact ⟨rfl, HB.out⟩
  · have d1 : decide ((4000 : Int) < (s.size : Int)) = false := decide_eq_false (by omega)
    have hs4 : s.size ≤ 4000 := by omega
    have hl := lines_call s (by omega) w
    unfold LiP at hl
    have hst := li_strs s w
    have hle := linesS_le s
    have hle2 := parts_le s
    obtain ⟨W1, hW1⟩ : ∃ W1, W1 = w.alloc (.cells ((parts s).map Value.string).toArray 9) := ⟨_, rfl⟩
    have hb1 := (Below.refl w.heap.size w).alloc (Nat.le_refl _) (.cells ((parts s).map Value.string).toArray 9)
    rw [← hW1] at hl hst hb1
    have hr := rLines_any s (by omega) W1
    obtain ⟨xs, hxs⟩ : ∃ xs, xs = linesS s := ⟨_, rfl⟩
    rw [← hxs] at hl hst hle hr
    have hjoin := join_lines s
    rw [← hxs] at hjoin
    have hn4 : xs.length ≤ 4001 := by omega
    generalize (parts s).length = m at *
    have HL := Lib.hid hl
    have HST := Lib.hid hst
    have HB1 := Lib.hid hb1
    have HR := Lib.hid hr
    have HJ := Lib.hid hjoin
    clear hbig hl hst hle2 hW1 hb1 hr hxs hjoin
    go_enter Tryd.func5, Tryd.ntmps5
    go_wp2_with fail
    refine HL.out.mono ?_
    rintro e w1 ⟨rfl, hw1⟩
    obtain rfl : W1 = w1 := hw1.symm
    go_wp2_with fail
    refine HR.out.mono ?_
    rintro e w2 ⟨⟨A, n, c, rfl, hs2, hn2, hle3, hcap2⟩, hb2⟩
    obtain rfl : n = xs.length := hs2.len
    have hst2 := HST.out.dt (Dt.below hb2)
    have htx := texts_eq (c := m) (c' := c) hst2 hs2 (by omega)
    have HTX := Lib.hid htx
    have HST2 := Lib.hid hst2
    have HB2 := Lib.hid (HB1.out.trans (hb2.mono HB1.out.size))
    clear hs2 hst2 htx hb2
    go_wp2_with fail
    refine HTX.out.mono ?_
    rintro e w3 ⟨rfl, hb3⟩
    have HST3 := Lib.hid (HST2.out.dt (Dt.below hb3))
    have HB3 := Lib.hid (HB2.out.trans (hb3.mono HB2.out.size))
    clear hb3
    go_wp2_with fail
    go_loopg [4, 5] xs.length (fun k x i wr => JnR xs w3 k x i wr)
    case atStart => exact ⟨0, ⟨#[]⟩, rfl, rfl, rfl, rfl, Below.refl _ _⟩
    case round =>
      obtain ⟨j, b, hk, rfl, rfl, hbd, hb⟩ := hrel
      have HK := Lib.hid hk
      have hbl := join_le xs j
      rw [← hbd] at hbl
      have hbz : b.size ≤ 4001 := by
        have h1 : b.data.toList.length = b.size := by simp
        have h2 : s.data.toList.length = s.size := by simp
        rcases HJ.out with e | ⟨e, _⟩
        · rw [e] at hbl; omega
        · rw [e, List.length_append] at hbl; simp at hbl; omega
      by_cases hj : j < xs.length
      · have dj : decide (j < xs.length) = true := decide_eq_true hj
        have hxj : xs[j]? = some xs[j] := List.getElem?_eq_getElem hj
        obtain ⟨x, hx⟩ : ∃ x, x = xs[j] := ⟨_, rfl⟩
        rw [← hx] at hxj
        obtain ⟨q, off, hq, hqt, hc⟩ := HST3.out.rd.2 (by omega)
        injection hq with hq
        injection hq with hq1 hq2
        subst hq1 hq2
        have c0 := (hb.cell (p := ⟨w.heap.size, 0 + j, none⟩) hqt.lt).trans (hc j _ (by rw [str_at xs j hj, ← hx]))
        rw [Nat.zero_add] at c0
        have hbs := join_succ xs j x hxj
        rw [← hbd] at hbs
        have hxz : x.size ≤ 4001 := by
          have h1 := join_le xs (j + 1)
          rw [hbs] at h1
          have h2 : s.data.toList.length = s.size := by simp
          have h3 : x.data.toList.length = x.size := by simp
          rw [List.length_append, List.length_append] at h1
          rcases HJ.out with e | ⟨e, _⟩
          · rw [e] at h1; omega
          · rw [e, List.length_append] at h1; simp at h1; omega
        have HBS := Lib.hid hbs
        have HJ2 := Lib.hid hj
        have HB := Lib.hid hb
        have hj0 : (0 : Int) ≤ (j : Int) := by omega
        have hj1 : (j : Int) < (xs.length : Int) := by omega
        clear hk hbd hb hbl hj hxj hx hqt hc hbs
        go_wp2_with fail
        go_roundg (gk - 1)
        case measure => have := HK.out; have := HJ2.out; omega
        case rel =>
          have := HK.out
          have := HJ2.out
          exact ⟨j + 1, _, by omega, by go_num, rfl, by rw [HBS.out]; simp, HB.out⟩
      · have dj : decide (j < xs.length) = false := decide_eq_false hj
        rw [List.take_of_length_le (by omega)] at hbd
        have HB := Lib.hid (HB3.out.trans (hb.mono HB3.out.size))
        have HS := Lib.hid (sane_any wr)
        have HBD := Lib.hid hbd
        rcases HJ.out with he | ⟨he, c, hc1, hc2⟩
        · have hbs : b = s := bytes_ext (by rw [HBD.out, he])
          subst hbs
          have e1 : (b.toList == b.toList) = true := by simp
          clear hk hbd hb hbl hj he
          go_wp2_with fail
          refine HS.out.mono ?_
          rintro e w5 ⟨rfl, hb5⟩
          have HB5 := Lib.hid (HB.out.trans (hb5.mono HB.out.size))
          clear hb5
          go_wp2_with fail
          go_ret
          exact ⟨rfl, HB5.out⟩
        · have hbs : b = s ++ ⟨#[10]⟩ := bytes_ext (by rw [HBD.out, he]; simp)
          have hne : s.data.toList ≠ [] := fun e => by rw [e] at hc1; cases hc1
          have hpos : 0 < s.size := by
            have h1 : s.data.toList.length = s.size := by simp
            have := List.length_pos_iff.2 hne; omega
          have hlast : s[s.size - 1]'(by omega) = c := by
            have h1 : s.data.toList.length = s.size := by simp
            rw [List.getLast?_eq_getElem?, h1, byte_at s (s.size - 1) (by omega)] at hc1
            exact Option.some.inj hc1
          subst hbs
          have e1 : ((s ++ ⟨#[10]⟩ : ByteArray).toList == s.toList) = false := by
            rw [beq_eq_false_iff_ne]; intro e
            have h2 := congrArg List.length e
            rw [Lib.toList_data, Lib.toList_data] at h2
            simp at h2
          have e2 : ((s ++ ⟨#[10]⟩ : ByteArray).toList == (s ++ ⟨#[10]⟩ : ByteArray).toList) = true := by simp
          have e3 : decide ((0 : Int) < (s.size : Int)) = true := decide_eq_true (by omega)
          have e4 : (((s[s.size - 1]'(by omega)).toNat : Int) != 10) = true := by
            rw [hlast, bne_iff_ne]; intro h; exact hc2 (UInt8.toNat_inj.1 (by show c.toNat = 10; omega))
          have hlast2 := Lib.hid hlast
          clear hlast hk hbd hb hbl hj he hc1 hc2 hne
          go_wp2_with fail
          refine HS.out.mono ?_
          rintro e w5 ⟨rfl, hb5⟩
          have HB5 := Lib.hid (HB.out.trans (hb5.mono HB.out.size))
          clear hb5
          go_wp2_with fail
          go_ret
          exact ⟨rfl, HB5.out⟩
end Go.Proofs.YtfmlokkkhfnglaaDoor
