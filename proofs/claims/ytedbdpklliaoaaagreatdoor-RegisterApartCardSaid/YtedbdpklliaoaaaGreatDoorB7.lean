/- The code's book: what it tells of a name, Move, Remove, Copy. -/
import Derived.Test.YtedbdpklliaoaaaGreatDoorB6
import Derived.Shelf.SlMaps.Clone
namespace Go.Proofs.YtedbdpklliaoaaaGreatDoor
open Go.RowKit Go.Shelf Go.Maps
set_option maxRecDepth 100000
theorem value_call {bb mb : Nat} {L : List Reg} {w : World} (h : BK bb mb L w) (s : ByteArray) : Calls Tryz.prog 13 #[BP bb, .string s] w fun e w' => e = .returned (.tuple #[.int .i64 (if okNm s.data.toList = true then (getS L s.data.toList).v else 0), .int .i64 (if okNm s.data.toList = true then 0 else 6)]) ∧ Below w.heap.size w w' := by
  cases hn : okNm s.data.toList with
  | false =>
    rw [if_neg (by decide), if_neg (by decide)]
    have HF := Lib.hid (find_bad h s hn)
    clear h hn
    go_enter Tryz.func13, Tryz.ntmps13
    go_wp2_with fail
    refine HF.out.mono ?_
    rintro e w1 ⟨rfl, hb⟩
    have HB := Lib.hid hb
    have hz := hb.size
    clear hb
    go_wp2_with fail
    go_ret2
    exact ⟨rfl, HB.out.alloc hz _⟩
  | true =>
    rw [if_pos rfl, if_pos rfl]
    have HF := Lib.hid (find_good h s hn _ rfl _ rfl)
    generalize getS L s.data.toList = r at HF ⊢
    generalize hasS L s.data.toList = t at HF
    clear h hn
    go_enter Tryz.func13, Tryz.ntmps13
    go_wp2_with fail
    refine HF.out.mono ?_
    rintro e w1 ⟨rfl, hb⟩
    have HB := Lib.hid hb
    have hz := hb.size
    clear hb
    go_wp2_with fail
    go_ret2
    exact ⟨rfl, HB.out.alloc hz _⟩
theorem formatOf_call {bb mb : Nat} {L : List Reg} {w : World} (h : BK bb mb L w) (s : ByteArray) : Calls Tryz.prog 15 #[BP bb, .string s] w fun e w' => e = .returned (.tuple #[.string ⟨(if okNm s.data.toList = true then (getS L s.data.toList).fm else []).toArray⟩, .int .i64 (if okNm s.data.toList = true then 0 else 6)]) ∧ Below w.heap.size w w' := by
  cases hn : okNm s.data.toList with
  | false =>
    rw [if_neg (by decide), if_neg (by decide)]
    have HF := Lib.hid (find_bad h s hn)
    clear h hn
    go_enter Tryz.func15, Tryz.ntmps15
    go_wp2_with fail
    refine HF.out.mono ?_
    rintro e w1 ⟨rfl, hb⟩
    have HB := Lib.hid hb
    have hz := hb.size
    clear hb
    go_wp2_with fail
    go_ret2
    exact ⟨rfl, HB.out.alloc hz _⟩
  | true =>
    rw [if_pos rfl, if_pos rfl]
    have HF := Lib.hid (find_good h s hn _ rfl _ rfl)
    generalize getS L s.data.toList = r at HF ⊢
    generalize hasS L s.data.toList = t at HF
    clear h hn
    go_enter Tryz.func15, Tryz.ntmps15
    go_wp2_with fail
    refine HF.out.mono ?_
    rintro e w1 ⟨rfl, hb⟩
    have HB := Lib.hid hb
    have hz := hb.size
    clear hb
    go_wp2_with fail
    go_ret2
    exact ⟨rfl, HB.out.alloc hz _⟩
theorem text_call {bb mb : Nat} {L : List Reg} {w : World} (h : BK bb mb L w) (hT : TB w) (s : ByteArray) : Calls Tryz.prog 14 #[BP bb, .string s] w fun e w' => e = .returned (.tuple #[.string ⟨(if okNm s.data.toList = true then txt (getS L s.data.toList).v (getS L s.data.toList).fm else []).toArray⟩, .int .i64 (if okNm s.data.toList = true then 0 else 6)]) ∧ Below w.heap.size w w' := by
  have HT := Lib.hid hT
  cases hn : okNm s.data.toList with
  | false =>
    rw [if_neg (by decide), if_neg (by decide)]
    have HF := Lib.hid (find_bad h s hn)
    clear h hn hT
    go_enter Tryz.func14, Tryz.ntmps14
    go_wp2_with fail
    refine HF.out.mono ?_
    rintro e w1 ⟨rfl, hb⟩
    have HB := Lib.hid hb
    have hz := hb.size
    clear hb
    go_wp2_with fail
    go_ret2
    exact ⟨rfl, HB.out.alloc hz _⟩
  | true =>
    rw [if_pos rfl, if_pos rfl]
    have HF := Lib.hid (find_good h s hn _ rfl _ rfl)
    have HOK := getS_ok L s.data.toList h.ok hn
    generalize getS L s.data.toList = r at HF HOK ⊢
    generalize hasS L s.data.toList = t at HF
    have HX := Lib.hid (fun W hW => text_any r.v HOK.2.1 ⟨r.fm.toArray⟩ HOK.2.2.2 W hW)
    clear h hn hT HOK
    go_enter Tryz.func14, Tryz.ntmps14
    go_wp2_with fail
    refine HF.out.mono ?_
    rintro e w1 ⟨rfl, hb⟩
    have hz := hb.size
    have hb1 := hb.alloc hz (.cells #[.int .i64 r.v, .int .i64 r.st, .string ⟨r.fm.toArray⟩] 60)
    have HB := Lib.hid hb1
    have T1 := Lib.hid (HT.out.below hb1 (Nat.le_refl _))
    clear hb hb1
    go_wp2_with fail
    refine (HX.out _ T1.out).mono ?_
    rintro e w2 ⟨rfl, hb2⟩
    have HB2 := Lib.hid (HB.out.trans (hb2.mono HB.out.size))
    clear hb2
    go_wp2_with fail
    go_ret2
    exact ⟨rfl, HB2.out⟩
/- Remove. -/
theorem BK.del {bb mb : Nat} {L : List Reg} {w w' : World} {D : DataW Unit} (h : BK bb mb L w) (hown : w.ownsMap Tryz.prog 9 regElem mb L.length D) (his : MapIs D L) (nm : List UInt8)
    (hown' : w'.ownsMap Tryz.prog 9 regElem mb L.length (D.del (.string nm))) (hg : w.grownBy w' (some mb)) : BK bb mb (delS L nm) w' := by
  have hT : Tidy D := hown.tidy law
  have hm := his.del hT h.asc nm
  have hlen := len_del L nm h.asc
  have := h.len
  refine ⟨(hg.block bb h.lt.1 (by simpa using h.ne)).trans h.cell, h.ne, asc_del L nm h.asc, ⟨_, ?_, hm⟩, fun x hx => ?_, ?_⟩
  · have := info_tight hown'
    rwa [hm.size] at this
  · exact h.ok x (List.mem_filter.1 hx).1
  · omega
def remS (L : List Reg) (nm : List UInt8) : Int × List Reg := if okNm nm = false then (6, L) else (0, delS L nm)
theorem remove_call {bb mb : Nat} {L : List Reg} {w : World} (h : BK bb mb L w) (s : ByteArray) : Calls Tryz.prog 20 #[BP bb, .string s] w fun e w' => e = .returned (.int .i64 (remS L s.data.toList).1) ∧ BK bb mb (remS L s.data.toList).2 w' ∧ Kept (· = mb) w w' := by
  unfold remS
  cases hn : okNm s.data.toList with
  | false =>
    rw [if_pos rfl]
    have HF := Lib.hid (find_bad h s hn)
    have H := Lib.hid h
    clear h hn
    go_enter Tryz.func20, Tryz.ntmps20
    go_wp2_with fail
    refine HF.out.mono ?_
    rintro e w1 ⟨rfl, hb⟩
    have hz := hb.size
    have HB := Lib.hid (hb.alloc hz (.cells #[.int .i64 0, .int .i64 0, .string ⟨#[]⟩] 60))
    clear hb
    go_wp2_with fail
    go_ret
    exact ⟨rfl, H.out.below HB.out, .of HB.out⟩
  | true =>
    rw [if_neg (by decide)]
    have HF := Lib.hid (find_good h s hn _ rfl _ rfl)
    have hs : s.size ≤ maxLen := by
      rw [okNm_eq] at hn
      simp only [Bool.and_eq_true, decide_eq_true_eq] at hn
      unfold maxLen; omega
    have HS := Lib.hid hs
    have H := Lib.hid h
    generalize getS L s.data.toList = r at HF
    generalize hasS L s.data.toList = t at HF
    clear h hn hs
    go_enter Tryz.func20, Tryz.ntmps20
    go_wp2_with fail
    refine HF.out.mono ?_
    rintro e w1 ⟨rfl, hb⟩
    have hz := hb.size
    have hb1 := hb.alloc hz (.cells #[.int .i64 r.v, .int .i64 r.st, .string ⟨r.fm.toArray⟩] 60)
    have h1 := H.out.below hb1
    have H1 := Lib.hid h1
    have hc := h1.c0
    obtain ⟨D, hown, his⟩ := h1.map
    have HOWN := Lib.hid hown
    have HIS : Hid (MapIs D L) := Lib.hid his
    have HB := Lib.hid hb1
    clear hb hb1 h1 hown his
    go_wp2_with (at_delete; refine wpList_delete_own _ rfl _ _ 54 9 rfl 60 law Tryz.underlying54 regElem mb L.length D rfl HOWN.out (.string s) (.string s.data.toList) rfl (WideMaps.keyOf_string_mk Tryz.underlying9 HS.out) ?_; intro w3 hown3 hturn3; have HO3 := Lib.hid hown3; have HG3 := Lib.hid hturn3.grown; clear hown3 hturn3)
    go_ret
    exact ⟨rfl, H1.out.del HOWN.out HIS.out _ HO3.out HG3.out, (Kept.of (S := (· = mb)) HB.out).trans (.grown HG3.out)⟩
/- Copy. -/
theorem copy_call {bb mb : Nat} {L : List Reg} {w : World} (h : BK bb mb L w) : Calls Tryz.prog 11 #[BP bb] w fun e w' => ∃ cb cm, e = .returned (BP cb) ∧ w.heap.size ≤ cb ∧ w.heap.size ≤ cm ∧ BK cb cm L w' ∧ Below w.heap.size w w' := by
  obtain ⟨D, hown, his⟩ := h.map
  have hcon := fun W hW => AnyW.maps_Clone_owns Tryz.cloneM 9 regElem mb L.length D W hW
  have HM := Lib.hid (made_any h)
  have HOWN := Lib.hid hown
  have H := Lib.hid h
  have HIS : Hid (MapIs D L) := Lib.hid his
  have hc := h.c0
  have HCON := Lib.hid hcon
  clear h hown his hcon
  go_enter Tryz.func11, Tryz.ntmps11
  go_wp2_with fail
  refine HM.out.mono ?_
  rintro e w1 ⟨rfl, rfl⟩
  go_wp2_with fail
  refine (HCON.out _ HOWN.out).mono ?_
  rintro e w2 ⟨rfl, hown2, _, hb⟩
  have HO2 := Lib.hid hown2
  have HB2 := Lib.hid hb
  clear hown2 hb
  go_wp2_with fail
  go_ret
  have hz := HB2.out.size
  have hlt := HO2.out.lt
  refine ⟨_, _, rfl, ?_, Nat.le_refl _, ⟨?_, ?_, H.out.asc, ⟨D, ?_, HIS.out⟩, H.out.ok, H.out.len⟩, ?_⟩
  · omega
  · exact heap_alloc_new _ _
  · omega
  · exact HO2.out.alloc _
  · exact HB2.out.alloc hz _
end Go.Proofs.YtedbdpklliaoaaaGreatDoor
