/- The code's store: Rename, Remove, Length; the fixed example. -/
import Derived.Test.YtgpanlkcpnlejaaS6
namespace Go.Proofs.Ytgpanlkcpnlejaa
open Go.RowKit Go.Maps
set_option maxRecDepth 100000
theorem SK.del {sb mb : Nat} {L : List Reg} {E : Nat → En} {w w' : World} {D : DataW Unit} (h : SK sb mb L E w) (hown : w.ownsMap Try.prog 9 regElem mb L.length D) (his : MapIs D L) (nm : List UInt8)
    (hown' : w'.ownsMap Try.prog 9 regElem mb L.length (D.del (.string nm))) (hg : w.grownBy w' (some mb)) : SK sb mb (delS L nm) E w' := by
  have hT : Tidy D := hown.tidy law
  have hm := his.del hT h.asc nm
  have hlen := len_del L nm h.asc
  have := h.len
  refine ⟨(hg.block sb h.lt.1 (by simpa using h.ne)).trans h.cell, h.ne, asc_del L nm h.asc, ⟨_, ?_, hm⟩, fun x hx => ?_, ?_, fun x hx => ?_⟩
  · have := info_tight hown'
    rwa [hm.size] at this
  · exact h.ok x (List.mem_filter.1 hx).1
  · omega
  · have hx' := (List.mem_filter.1 hx).1
    exact (hg.block _ (h.elt x hx') (by simpa using (h.ne1 x hx').2)).trans (h.ent x hx')
theorem rename_no {sb mb : Nat} {L : List Reg} {E : Nat → En} {w : World} (h : SK sb mb L E w) (s t : ByteArray) (hs : s.size ≤ maxLen) (hh : hasS L s.data.toList = false) :
    Calls Try.prog 28 #[BP sb, .string s, .string t] w fun e w' => e = .returned (.int .i64 6) ∧ w = w' := by
  have HG := Lib.hid (get_no h s hs hh)
  clear h hs hh
  go_enter Try.func28, Try.ntmps28
  go_wp2_with fail
  refine HG.out.mono ?_
  rintro e w1 ⟨rfl, rfl⟩
  go_wp2_with fail
  go_ret
  exact ⟨rfl, rfl⟩
theorem rename_bad {sb mb : Nat} {L : List Reg} {E : Nat → En} {w : World} (h : SK sb mb L E w) (s t : ByteArray) (hs : s.size ≤ maxLen) (hh : hasS L s.data.toList = true) (hn : okNm t.data.toList = false) :
    Calls Try.prog 28 #[BP sb, .string s, .string t] w fun e w' => e = .returned (.int .i64 6) ∧ Below w.heap.size w w' := by
  have HG := Lib.hid (get_yes h s hs hh)
  have HV := Lib.hid (fun W => validName_any t W)
  rw [hn] at HV
  clear h hs hh hn
  go_enter Try.func28, Try.ntmps28
  go_wp2_with fail
  refine HG.out.mono ?_
  rintro e w1 ⟨rfl, rfl⟩
  go_wp2_with fail
  refine (HV.out _).mono ?_
  rintro e w1 ⟨rfl, hb⟩
  have HB := Lib.hid hb
  clear hb
  go_wp2_with fail
  go_ret
  exact ⟨rfl, HB.out⟩
set_option maxHeartbeats 1000000 in
theorem rename_ok {sb mb : Nat} {L : List Reg} {E : Nat → En} {w : World} (h : SK sb mb L E w) (s t : ByteArray) (hs : s.size ≤ maxLen) (hh : hasS L s.data.toList = true) (hn : okNm t.data.toList = true) :
    Calls Try.prog 28 #[BP sb, .string s, .string t] w fun e w' => e = .returned (.int .i64 0) ∧ SK sb mb (putS (delS L s.data.toList) ⟨t.data.toList, (getS L s.data.toList).v⟩) E w' ∧ Kept (· = mb) w w' := by
  have HG := Lib.hid (get_yes h s hs hh)
  have HV := Lib.hid (fun W => validName_any t W)
  rw [hn] at HV
  have H := Lib.hid h
  have HS := Lib.hid hs
  have HN := Lib.hid hn
  have hmem := getS_mem L _ hh
  have hlen := len_del L s.data.toList h.asc
  have h5 := h.len
  rw [hh, if_pos rfl] at hlen
  have HLEN := Lib.hid (show (delS L s.data.toList).length < 500 by omega)
  obtain ⟨r, hr⟩ : ∃ r, r = getS L s.data.toList := ⟨_, rfl⟩
  rw [← hr] at HG hmem ⊢
  have HMEM := Lib.hid hmem
  clear h hs hh hn hmem hr hlen h5
  go_enter Try.func28, Try.ntmps28
  go_wp2_with fail
  refine HG.out.mono ?_
  rintro e w1 ⟨rfl, rfl⟩
  go_wp2_with fail
  refine (HV.out _).mono ?_
  rintro e w1 ⟨rfl, hb⟩
  have h1 := H.out.below hb
  have H1 := Lib.hid h1
  have hc := h1.c0
  obtain ⟨D, hown, his⟩ := h1.map
  have HOWN := Lib.hid hown
  have HIS : Hid (MapIs D L) := Lib.hid his
  have HB := Lib.hid hb
  clear hb h1 hown his
  go_wp2_with (at_delete; refine wpList_delete_own _ rfl _ _ 48 9 rfl 63 law Try.underlying48 regElem mb L.length D rfl HOWN.out (.string s) (.string s.data.toList) rfl (WideMaps.keyOf_string_mk Try.underlying9 HS.out) ?_; intro w3 hown3 hturn3; have HO3 := Lib.hid hown3; have HG3 := Lib.hid hturn3.grown; clear hown3 hturn3)
  have h2 := H1.out.del HOWN.out HIS.out _ HO3.out HG3.out
  have hk2 := (Kept.of (S := (· = mb)) HB.out).trans (.grown HG3.out)
  have he : EnAt w3 r.v (E r.v) := (HG3.out.block _ (H1.out.elt r HMEM.out) (by simpa using (H1.out.ne1 r HMEM.out).2)).trans (H1.out.ent r HMEM.out)
  have HGV : Hid (Calls Try.prog 39 #[BP sb, .string t, BP r.v] w3 fun e w' => e = .returned (.int .i64 0) ∧ SK sb mb (putS (delS L s.data.toList) ⟨t.data.toList, r.v⟩) E w' ∧ Kept (· = mb) w3 w') := by
    refine Lib.hid ?_
    cases ht : hasS (delS L s.data.toList) t.data.toList with
    | true => exact give_old h2 t r.v HN.out ht he
    | false => exact give_new h2 t r.v HN.out ht HLEN.out he
  have HK2 := Lib.hid hk2
  clear h2 hk2 he
  go_wp2_with fail
  refine HGV.out.mono ?_
  rintro e w4 ⟨rfl, hs4, hk4⟩
  have HS4 := Lib.hid hs4
  have HK4 := Lib.hid (HK2.out.trans hk4)
  clear hs4 hk4
  go_wp2_with fail
  go_ret
  exact ⟨rfl, HS4.out, HK4.out⟩
set_option maxHeartbeats 1000000 in
theorem remove_ok {sb mb : Nat} {L : List Reg} {E : Nat → En} {w : World} (h : SK sb mb L E w) (s : ByteArray) (hn : okNm s.data.toList = true) :
    Calls Try.prog 23 #[BP sb, .string s] w fun e w' => e = .returned (.int .i64 0) ∧ SK sb mb (delS L s.data.toList) E w' ∧ Kept (· = mb) w w' := by
  have HF := Lib.hid (find_ok h s hn)
  have HS := Lib.hid (size_ok hn)
  have H := Lib.hid h
  obtain ⟨⟨kd, tx, lo, ln, lc⟩, hen⟩ : ∃ en, en = entOf L E s.data.toList := ⟨_, rfl⟩
  rw [← hen] at HF
  unfold enA at HF
  simp only at HF
  clear h hn hen
  go_enter Try.func23, Try.ntmps23
  go_wp2_with fail
  refine HF.out.mono ?_
  rintro e w1 ⟨rfl, hb⟩
  have hb1 := hb.alloc hb.size (.cells #[.int .i64 kd, .string tx, .slice lo ln lc] 59)
  have h1 := H.out.below hb1
  have H1 := Lib.hid h1
  have hc := h1.c0
  have hz := hb.size
  obtain ⟨D, hown, his⟩ := h1.map
  have HOWN := Lib.hid hown
  have HIS : Hid (MapIs D L) := Lib.hid his
  have HB := Lib.hid hb1
  clear hb hb1 h1 hown his
  go_wp2_with (at_delete; refine wpList_delete_own _ rfl _ _ 48 9 rfl 63 law Try.underlying48 regElem mb L.length D rfl HOWN.out (.string s) (.string s.data.toList) rfl (WideMaps.keyOf_string_mk Try.underlying9 HS.out) ?_; intro w3 hown3 hturn3; have HO3 := Lib.hid hown3; have HG3 := Lib.hid hturn3.grown; clear hown3 hturn3)
  go_ret
  exact ⟨rfl, H1.out.del HOWN.out HIS.out _ HO3.out HG3.out, (Kept.of (S := (· = mb)) HB.out).trans (.grown HG3.out)⟩
theorem remove_bad {sb mb : Nat} {L : List Reg} {E : Nat → En} {w : World} (h : SK sb mb L E w) (s : ByteArray) (hn : okNm s.data.toList = false) :
    Calls Try.prog 23 #[BP sb, .string s] w fun e w' => e = .returned (.int .i64 6) ∧ Below w.heap.size w w' := by
  have HF := Lib.hid (find_bad h s hn)
  clear h hn
  go_enter Try.func23, Try.ntmps23
  go_wp2_with fail
  refine HF.out.mono ?_
  rintro e w1 ⟨rfl, hb⟩
  have hz := hb.size
  have HB := Lib.hid hb
  clear hb
  go_wp2_with fail
  go_ret
  exact ⟨rfl, HB.out.alloc hz _⟩
/- The fixed example. -/
theorem get_one (nm : List UInt8) (b : Nat) : getS [⟨nm, b⟩] nm = ⟨nm, b⟩ := by simp [getS]
theorem has_one (nm : List UInt8) (b : Nat) : hasS [⟨nm, b⟩] nm = true := by simp [hasS]
def E9 : Nat → En := fun _ => E0
set_option maxHeartbeats 1000000 in
theorem sane_any (w : World) : Calls Try.prog 9 #[] w fun e w' => e = .returned (.bool true) ∧ Below w.heap.size w w' := by
  go_enter Try.func9, Try.ntmps9
  go_wp2_with fail
  refine (new_any _).mono ?_
  rintro e w1 ⟨rfl, hk, hb⟩
  have HK1 := Lib.hid (hk E9)
  have HB1 := Lib.hid hb
  clear hk hb
  go_wp2_with fail
  refine (define_new HK1.out ⟨#[97]⟩ ⟨#[97, 98, 99, 100, 101]⟩ rfl rfl rfl (by simp)).mono ?_
  rintro e w2 ⟨rfl, ⟨b, hbs, hk⟩, hw⟩
  have HK2 : Hid (SK (w.heap.size + 1) w.heap.size [⟨[97], b⟩] (upd E9 b ⟨1, ⟨#[97, 98, 99, 100, 101]⟩, none, 0, 0⟩) w2) := Lib.hid hk
  have HB2 := Lib.hid (HB1.out.trans (hw.to HB1.out.size (fun k e => Nat.le_of_eq e.symm)))
  have HBS := Lib.hid (Nat.le_trans HB1.out.size hbs)
  clear hk hw hbs
  have HP := part_str HK2.out ⟨#[97]⟩ 1 (-2) (by unfold I64; omega) (by unfold I64; omega) (by unfold maxLen; decide) (has_one _ _) (by show (upd E9 b _ (getS [⟨[97], b⟩] [97]).v).kind = 1; rw [get_one, upd_same]) (by show (upd E9 b _ (getS [⟨[97], b⟩] [97]).v).tx.size ≤ 2000; rw [get_one, upd_same]; decide) 1 4 (by show spanS (upd E9 b _ (getS [⟨[97], b⟩] [97]).v).tx.size 1 (-2) = _; rw [get_one, upd_same]; rfl)
  have e1 : (getS [⟨[97], b⟩] (⟨#[97]⟩ : ByteArray).data.toList) = ⟨[97], b⟩ := get_one _ _
  rw [e1, upd_same] at HP
  have HP' := Lib.hid HP
  clear HP
  go_wp2_with fail
  refine HP'.out.mono ?_
  rintro e w3 ⟨rfl, hk, hw⟩
  have HB3 := Lib.hid (HB2.out.trans (hw.to HB2.out.size (fun k e => by have := HBS.out; omega)))
  have HT := text_yes hk ⟨#[97]⟩ (by unfold maxLen; decide) (has_one _ _) (by rw [e1, upd_same])
  rw [e1, upd_same] at HT
  have HT' := Lib.hid HT
  clear hk hw HT e1
  go_wp2_with fail
  refine HT'.out.mono ?_
  rintro e w4 ⟨rfl, rfl⟩
  have hx : (⟨#[97, 98, 99, 100, 101]⟩ : ByteArray).extract 1 4 = ⟨#[98, 99, 100]⟩ := by decide +kernel
  go_wp2_with fail
  go_ret
  exact ⟨rfl, HB3.out⟩
end Go.Proofs.Ytgpanlkcpnlejaa
