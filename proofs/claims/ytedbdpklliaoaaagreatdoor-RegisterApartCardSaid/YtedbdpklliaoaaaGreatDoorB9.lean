/- The code's book: Rename. -/
import Derived.Test.YtedbdpklliaoaaaGreatDoorB8
namespace Go.Proofs.YtedbdpklliaoaaaGreatDoor
open Go.RowKit Go.Shelf Go.Maps
set_option maxRecDepth 100000
def reNm (r : Reg) (nm : List UInt8) : Reg := { r with nm := nm }
def renS (L : List Reg) (a b : List UInt8) : Int × List Reg :=
  if okNm a = false then (6, L) else if (hasS L a && okNm b) = false then (6, L) else (0, putS (delS L a) (reNm (getS L a) b))
set_option maxHeartbeats 1000000 in
theorem rename_call {bb mb : Nat} {L : List Reg} {w : World} (h : BK bb mb L w) (s t : ByteArray) : Calls Tryz.prog 21 #[BP bb, .string s, .string t] w fun e w' => e = .returned (.int .i64 (renS L s.data.toList t.data.toList).1) ∧ BK bb mb (renS L s.data.toList t.data.toList).2 w' ∧ Kept (· = mb) w w' := by
  have H := Lib.hid h
  unfold renS
  cases hn : okNm s.data.toList with
  | false =>
    rw [if_pos rfl]
    have HF := Lib.hid (find_bad h s hn)
    clear h hn
    go_enter Tryz.func21, Tryz.ntmps21
    go_wp2_with fail
    refine HF.out.mono ?_
    rintro e w1 ⟨rfl, hb⟩
    have hz := hb.size
    have HB := Lib.hid (hb.alloc hz (.cells #[.int .i64 0, .int .i64 0, .string ⟨#[]⟩] 60))
    clear hb
    go_wp2_with fail
    go_ret
    exact ⟨rfl, H.out.below HB.out, .of HB.out⟩
  | true =>
    rw [if_neg (by decide)]
    cases ht : hasS L s.data.toList with
    | false =>
      rw [Bool.false_and, if_pos rfl]
      have HF := Lib.hid (find_good h s hn _ rfl _ ht)
      obtain ⟨r, hr⟩ : ∃ r, r = getS L s.data.toList := ⟨_, rfl⟩
      rw [← hr] at HF
      clear h hn ht hr
      go_enter Tryz.func21, Tryz.ntmps21
      go_wp2_with fail
      refine HF.out.mono ?_
      rintro e w1 ⟨rfl, hb⟩
      have hz := hb.size
      have HB := Lib.hid (hb.alloc hz (.cells #[.int .i64 r.v, .int .i64 r.st, .string ⟨r.fm.toArray⟩] 60))
      clear hb
      go_wp2_with fail
      go_ret
      exact ⟨rfl, H.out.below HB.out, .of HB.out⟩
    | true =>
      rw [Bool.true_and]
      have HF := Lib.hid (find_good h s hn _ rfl _ ht)
      have HV := Lib.hid (fun W => validName_any t W)
      have hok := getS_ok L s.data.toList h.ok hn
      have hlen := len_del L s.data.toList h.asc
      rw [ht] at hlen
      have h5 := h.len
      have HLEN := Lib.hid (show (delS L s.data.toList).length < 500 by simp at hlen; omega)
      have hs : s.size ≤ maxLen := by
        rw [okNm_eq] at hn
        simp only [Bool.and_eq_true, decide_eq_true_eq] at hn
        unfold maxLen; omega
      have HS := Lib.hid hs
      obtain ⟨r, hr⟩ : ∃ r, r = getS L s.data.toList := ⟨_, rfl⟩
      rw [← hr] at HF hok ⊢
      have HOK := Lib.hid hok
      cases hn2 : okNm t.data.toList with
      | false =>
        rw [if_pos rfl]
        rw [hn2] at HV
        clear h hn ht hr hok hlen h5 hs hn2
        go_enter Tryz.func21, Tryz.ntmps21
        go_wp2_with fail
        refine HF.out.mono ?_
        rintro e w1 ⟨rfl, hb⟩
        have hz := hb.size
        have HB := Lib.hid (hb.alloc hz (.cells #[.int .i64 r.v, .int .i64 r.st, .string ⟨r.fm.toArray⟩] 60))
        clear hb
        go_wp2_with fail
        refine (HV.out _).mono ?_
        rintro e w2 ⟨rfl, hb2⟩
        have HB2 := Lib.hid (HB.out.trans (hb2.mono HB.out.size))
        clear hb2
        go_wp2_with fail
        go_ret
        exact ⟨rfl, H.out.below HB2.out, .of HB2.out⟩
      | true =>
        rw [if_neg (by decide)]
        rw [hn2] at HV
        have ht2 : t.size ≤ maxLen := by
          rw [okNm_eq] at hn2
          simp only [Bool.and_eq_true, decide_eq_true_eq] at hn2
          unfold maxLen; omega
        have HT2 := Lib.hid ht2
        have HN2 := Lib.hid hn2
        clear h hn ht hr hok hlen h5 hs hn2 ht2
        go_enter Tryz.func21, Tryz.ntmps21
        go_wp2_with fail
        refine HF.out.mono ?_
        rintro e w1 ⟨rfl, hb⟩
        have hz := hb.size
        have HB := Lib.hid (hb.alloc hz (.cells #[.int .i64 r.v, .int .i64 r.st, .string ⟨r.fm.toArray⟩] 60))
        clear hb
        go_wp2_with fail
        refine (HV.out _).mono ?_
        rintro e w2 ⟨rfl, hb2⟩
        have hb3 := HB.out.trans (hb2.mono HB.out.size)
        have h1 := H.out.below hb3
        have H1 : Hid (BK bb mb L w2) := Lib.hid h1
        have hc := h1.c0
        have hblk2 : w2.heap[w1.heap.size]? = some (.cells #[.int .i64 r.v, .int .i64 r.st, .string ⟨r.fm.toArray⟩] 60 (0, 0)) :=
          (hb2.block w1.heap.size (by simp)).trans (heap_alloc_new _ _)
        have HBLK := Lib.hid hblk2
        have hlt := H.out.lt
        have HNE := Lib.hid (show w1.heap.size ≠ mb by omega)
        obtain ⟨D, hown, his⟩ := h1.map
        have HOWN := Lib.hid hown
        have HIS : Hid (MapIs D L) := Lib.hid his
        have HB2 := Lib.hid hb3
        clear hb2 hb3 h1 hown his hblk2 hlt
        go_wp2_with (at_delete; refine wpList_delete_own _ rfl _ _ 54 9 rfl 60 law Tryz.underlying54 regElem mb L.length D rfl HOWN.out (.string s) (.string s.data.toList) rfl (WideMaps.keyOf_string_mk Tryz.underlying9 HS.out) ?_; intro w3 hown3 hturn3; have HO3 := Lib.hid hown3; have HG3 := Lib.hid hturn3.grown; clear hown3 hturn3)
        have h3 := H1.out.del HOWN.out HIS.out _ HO3.out HG3.out
        have hc3 := h3.c0
        obtain ⟨⟨c0, c1, c2⟩, f0, f1, f2⟩ := fresh_reg (show w3.heap[w1.heap.size]? = _ from (HG3.out.block w1.heap.size (by
          have := HBLK.out
          rcases Nat.lt_or_ge w1.heap.size w2.heap.size with h | h
          · exact h
          · rw [Array.getElem?_eq_none h] at this; cases this) (by simpa using HNE.out)).trans HBLK.out)
        obtain ⟨D3, hown3, his3⟩ := h3.map
        have HOWN3 := Lib.hid (show w3.drew.ownsMap Tryz.prog 9 regElem mb (delS L s.data.toList).length D3 from hown3)
        have HIS3 : Hid (MapIs D3 (delS L s.data.toList)) := Lib.hid his3
        have H3 : Hid (BK bb mb (delS L s.data.toList) w3.drew) := Lib.hid (h3.move rfl rfl)
        have HK3 := Lib.hid (((Kept.of (S := (· = mb)) HB2.out).trans (.grown HG3.out)).drew)
        have HLM := Lib.hid (show (delS L s.data.toList).length < maxLen by have := HLEN.out; unfold maxLen; omega)
        clear h3 hown3 his3
        rw [show ∀ (a : Act) (v : Value), a.put none v = a from fun _ _ => rfl]
        go_still_tail 6, (by kernel_rfl)
        change wpList _ _ _ _ _ w3.drew
        go_wp2_with (at_mapUpdate; refine wpList_mapUpdate_own _ rfl _ _ _ 54 rfl 9 60 law Tryz.underlying54 regElem mb (delS L s.data.toList).length D3 rfl HOWN3.out HLM.out (.string t) _ (.string t.data.toList) rfl rfl (WideMaps.keyOf_string_mk Tryz.underlying9 HT2.out) (regD (reNm r t.data.toList)) [] rfl ?_; intro w4 hown4 hg4; have HO4 := Lib.hid hown4; have HG4 := Lib.hid hg4; clear hown4 hg4)
        go_ret
        exact ⟨rfl, H3.out.put HOWN3.out HIS3.out (reNm r t.data.toList) ⟨HN2.out, HOK.out.2.1, HOK.out.2.2.1, HOK.out.2.2.2⟩ (.inr HLEN.out) HO4.out HG4.out, HK3.out.trans (.grown HG4.out)⟩
end Go.Proofs.YtedbdpklliaoaaaGreatDoor
