/- The code's store: give, put. -/
import Derived.Test.YtgpanlkcpnlejaaS2
namespace Go.Proofs.Ytgpanlkcpnlejaa
open Go.RowKit Go.Maps
set_option maxRecDepth 100000
abbrev E0 : En := ⟨0, ⟨#[]⟩, none, 0, 0⟩
/-- What a name has; nothing: kind 0. -/
def entOf (L : List Reg) (E : Nat → En) (nm : List UInt8) : En := if hasS L nm then E (getS L nm).v else E0
theorem find_ok {sb mb : Nat} {L : List Reg} {E : Nat → En} {w : World} (h : SK sb mb L E w) (s : ByteArray) (hn : okNm s.data.toList = true) :
    Calls Try.prog 29 #[BP sb, .string s, .bool true] w fun e w' => e = .returned (.tuple #[enA (entOf L E s.data.toList), .int .i64 0]) ∧ Below w.heap.size w w' := by
  unfold entOf
  cases ht : hasS L s.data.toList with
  | true => exact find_yes h s hn ht
  | false => exact find_no h s hn ht
def upd (E : Nat → En) (b : Nat) (c : En) : Nat → En := fun k => if k = b then c else E k
theorem upd_same (E : Nat → En) (b : Nat) (c : En) : upd E b c b = c := if_pos rfl
theorem upd_other (E : Nat → En) (b : Nat) (c : En) {k : Nat} (h : k ≠ b) : upd E b c k = E k := if_neg h
theorem SK.congr {sb mb : Nat} {L : List Reg} {E E' : Nat → En} {w : World} (h : SK sb mb L E w) (he : ∀ r ∈ L, E' r.v = E r.v) : SK sb mb L E' w :=
  ⟨h.cell, h.ne, h.asc, h.map, h.ok, h.len, fun r hr => by rw [he r hr]; exact h.ent r hr⟩
theorem SK.elt {sb mb : Nat} {L : List Reg} {E : Nat → En} {w : World} (h : SK sb mb L E w) (r : Reg) (hr : r ∈ L) : r.v < w.heap.size := lt_of_block (h.ent r hr)
/-- A store into the map is a name put. -/
theorem SK.put {sb mb : Nat} {L : List Reg} {E : Nat → En} {w w' : World} {D : DataW Unit} (h : SK sb mb L E w) (hown : w.ownsMap Try.prog 9 regElem mb L.length D) (his : MapIs D L) (r : Reg) (hr : okNm r.nm = true) (he : EnAt w r.v (E r.v)) (hl : hasS L r.nm = true ∨ L.length < 500)
    (hown' : w'.ownsMap Try.prog 9 regElem mb (L.length + 1) (D.put (.string r.nm) (regD r))) (hg : w.grownBy w' (some mb)) : SK sb mb (putS L r) E w' := by
  have hT : Tidy D := hown.tidy law
  have hm := his.put hT h.asc r
  have hne : r.v ≠ mb := by
    intro e
    rw [e] at he
    obtain ⟨es, c, h4, _⟩ := hown
    unfold EnAt at he; rw [h4] at he; injection he with he; cases he
  refine ⟨(hg.block sb h.lt.1 (by simpa using h.ne)).trans h.cell, h.ne, asc_put L r h.asc, ⟨_, ?_, hm⟩, fun x hx => ?_, ?_, fun x hx => ?_⟩
  · have := info_tight hown'
    rwa [hm.size] at this
  · rcases mem_put L r x hx with rfl | hx
    · exact hr
    · exact h.ok x hx
  · rw [len_put L r h.asc]
    have := h.len
    split
    · exact this
    · rename_i hc
      rcases hl with hl | hl
      · exact absurd hl hc
      · omega
  · rcases mem_put L r x hx with rfl | hx
    · exact (hg.block _ (lt_of_block he) (by simpa using hne)).trans he
    · exact (hg.block _ (h.elt x hx) (by simpa using (h.ne1 x hx).2)).trans (h.ent x hx)
theorem Kept.drew {S : Nat → Prop} {u w : World} (h : Kept S u w) : Kept S u w.drew := ⟨h.os, h.tape, h.output, h.size, h.block⟩
set_option maxHeartbeats 1000000 in
theorem give_full {sb mb : Nat} {L : List Reg} {E : Nat → En} {w : World} (h : SK sb mb L E w) (s : ByteArray) (b : Nat) (hs : s.size ≤ maxLen) (ht : hasS L s.data.toList = false) (hl : L.length = 500) :
    Calls Try.prog 39 #[BP sb, .string s, BP b] w fun e w' => e = .returned (.int .i64 9) ∧ w = w' := by
  have HS := Lib.hid hs
  have hcb := h.c0
  obtain ⟨D, hown, his⟩ := h.map
  have HHAS := Lib.hid ((his.has s.data.toList).trans ht)
  have HOWN := Lib.hid hown
  have hlen := fun ty => hown.len Try.underlying48 ty
  rw [his.size, hl] at hlen
  clear h hs ht hown his
  go_enter Try.func39, Try.ntmps39
  go_wp2_with (at_lookup; refine wpList_lookup_none _ rfl _ _ rfl mb L.length D s HS.out rfl HOWN.out rfl HHAS.out ?_)
  go_ret
  exact ⟨rfl, rfl⟩
set_option maxHeartbeats 1000000 in
theorem give_old {sb mb : Nat} {L : List Reg} {E : Nat → En} {w : World} (h : SK sb mb L E w) (s : ByteArray) (b : Nat) (hn : okNm s.data.toList = true) (ht : hasS L s.data.toList = true) (he : EnAt w b (E b)) :
    Calls Try.prog 39 #[BP sb, .string s, BP b] w fun e w' => e = .returned (.int .i64 0) ∧ SK sb mb (putS L ⟨s.data.toList, b⟩) E w' ∧ Kept (· = mb) w w' := by
  have HS := Lib.hid (size_ok hn)
  have hcb := h.c0
  obtain ⟨D, hown, his⟩ := h.map
  have HAT := Lib.hid (his.at_ s.data.toList ht (.lit (.int .i64 (-1))))
  have HHAS := Lib.hid ((his.has s.data.toList).trans ht)
  have HOWN := Lib.hid hown
  have hl5 := h.len
  have HLM := Lib.hid (show L.length < maxLen by unfold maxLen; omega)
  have H : Hid (SK sb mb L E w) := Lib.hid h
  have HIS : Hid (MapIs D L) := Lib.hid his
  have HE : Hid (EnAt w b (E b)) := Lib.hid he
  have HN := Lib.hid hn
  have HT := Lib.hid ht
  obtain ⟨r, hr⟩ : ∃ r, r = getS L s.data.toList := ⟨_, rfl⟩
  rw [← hr] at HAT
  clear h hn ht hown his hr he hl5
  go_enter Try.func39, Try.ntmps39
  go_wp2_with (first | (at_lookup; refine wpList_lookup_reg _ rfl _ _ rfl mb L.length D s HS.out r rfl HOWN.out rfl HAT.out HHAS.out ?_) | (at_mapUpdate; refine wpList_mapUpdate_own _ rfl _ _ _ 48 rfl 9 63 law Try.underlying48 regElem mb L.length D rfl HOWN.out HLM.out (.string s) _ (.string s.data.toList) rfl rfl (WideMaps.keyOf_string_mk Try.underlying9 HS.out) (regD ⟨s.data.toList, b⟩) [] (regElem_mk ⟨s.data.toList, b⟩) ?_; intro w3 hown3 hg3; have HO3 := Lib.hid hown3; have HG3 := Lib.hid hg3; clear hown3 hg3))
  go_ret
  exact ⟨rfl, H.out.put HOWN.out HIS.out ⟨s.data.toList, b⟩ HN.out HE.out (.inl HT.out) HO3.out HG3.out, Kept.grown HG3.out⟩
set_option maxHeartbeats 1000000 in
theorem give_new {sb mb : Nat} {L : List Reg} {E : Nat → En} {w : World} (h : SK sb mb L E w) (s : ByteArray) (b : Nat) (hn : okNm s.data.toList = true) (ht : hasS L s.data.toList = false) (hl : L.length < 500) (he : EnAt w b (E b)) :
    Calls Try.prog 39 #[BP sb, .string s, BP b] w fun e w' => e = .returned (.int .i64 0) ∧ SK sb mb (putS L ⟨s.data.toList, b⟩) E w' ∧ Kept (· = mb) w w' := by
  have HS := Lib.hid (size_ok hn)
  have hcb := h.c0
  obtain ⟨D, hown, his⟩ := h.map
  have HHAS := Lib.hid ((his.has s.data.toList).trans ht)
  have HOWN := Lib.hid hown
  have hlen := fun ty => hown.len Try.underlying48 ty
  rw [his.size] at hlen
  have hl500 : ((L.length : Int) == 500) = false := by simp; omega
  have HLM := Lib.hid (show L.length < maxLen by unfold maxLen; omega)
  have H : Hid (SK sb mb L E w) := Lib.hid h
  have HIS : Hid (MapIs D L) := Lib.hid his
  have HE : Hid (EnAt w b (E b)) := Lib.hid he
  have HN := Lib.hid hn
  have HL : Hid (hasS L s.data.toList = true ∨ L.length < 500) := Lib.hid (.inr hl)
  clear h hn ht hown his he hl
  go_enter Try.func39, Try.ntmps39
  go_wp2_with (first | (at_lookup; refine wpList_lookup_none _ rfl _ _ rfl mb L.length D s HS.out rfl HOWN.out rfl HHAS.out ?_) | (at_mapUpdate; refine wpList_mapUpdate_own _ rfl _ _ _ 48 rfl 9 63 law Try.underlying48 regElem mb L.length D rfl HOWN.out HLM.out (.string s) _ (.string s.data.toList) rfl rfl (WideMaps.keyOf_string_mk Try.underlying9 HS.out) (regD ⟨s.data.toList, b⟩) [] (regElem_mk ⟨s.data.toList, b⟩) ?_; intro w3 hown3 hg3; have HO3 := Lib.hid hown3; have HG3 := Lib.hid hg3; clear hown3 hg3))
  go_ret
  exact ⟨rfl, H.out.put HOWN.out HIS.out ⟨s.data.toList, b⟩ HN.out HE.out HL.out HO3.out HG3.out, Kept.grown HG3.out⟩
/- put. -/
theorem SK.with {sb mb : Nat} {L : List Reg} {E : Nat → En} {w w' : World} (h : SK sb mb L E w) (r : Reg) (hr : r ∈ L) (c : En) (hb : EnAt w' r.v c) (k : Kept (· = r.v) w w') : SK sb mb L (upd E r.v c) w' := by
  obtain ⟨D, h4, h5⟩ := h.map
  have hne := h.ne1 r hr
  refine ⟨(k.block _ h.lt.1 (Ne.symm hne.1)).trans h.cell, h.ne, h.asc, ⟨D, ownsMap_move h4 (k.block _ h.lt.2 (Ne.symm hne.2)), h5⟩, h.ok, h.len, fun x hx => ?_⟩
  by_cases e : x.v = r.v
  · rw [e, upd_same]; exact hb
  · rw [upd_other _ _ _ e]; exact (k.block _ (h.elt x hx) e).trans (h.ent x hx)
abbrev EO (kd : Int) (t : ByteArray) (lo : Option Addr) (ln lc : Nat) : Obj := .cells #[.int .i64 kd, .string t, .slice lo ln lc] 59
theorem Kept.setCell {S : Nat → Prop} {u w : World} (h : Kept S u w) {p : Addr} (hp : S p.block) (x : Value) : Kept S u (w.setCell p x) :=
  h.trans ⟨rfl, rfl, rfl, by simp [World.setCell], fun k _ hk => Below.heap_setCell _ _ _ _ (fun e => hk (by rw [e]; exact hp))⟩
set_option maxHeartbeats 1000000 in
theorem put_old {sb mb : Nat} {L : List Reg} {E : Nat → En} {w : World} (h : SK sb mb L E w) (s : ByteArray) (kd : Int) (t : ByteArray) (lo : Option Addr) (ln lc : Nat) (hs : s.size ≤ maxLen) (ht : hasS L s.data.toList = true) :
    Calls Try.prog 31 #[BP sb, .string s, .agg #[.int .i64 kd, .string t, .slice lo ln lc]] w fun e w' => e = .returned (.int .i64 0) ∧ SK sb mb L (upd E (getS L s.data.toList).v ⟨kd, t, lo, ln, lc⟩) w' ∧ Kept (· = (getS L s.data.toList).v) w w' := by
  have hb0 : Below w.heap.size w (w.alloc (EO kd t lo ln lc)) := (Below.refl _ _).alloc (Nat.le_refl _) _
  have h0 := h.below hb0
  have H := Lib.hid h0
  have HB0 := Lib.hid hb0
  have HS := Lib.hid hs
  have hmem := getS_mem L s.data.toList ht
  have hcb := h.c0
  have hsl := h.lt.1
  have hsne : sb ≠ w.heap.size := by omega
  have hrl := h.elt _ hmem
  have hre := h.ent _ hmem
  obtain ⟨D, hown, his⟩ := h0.map
  have HAT := Lib.hid (his.at_ s.data.toList ht (.lit (.int .i64 (-1))))
  have HHAS := Lib.hid ((his.has s.data.toList).trans ht)
  have HOWN := Lib.hid hown
  obtain ⟨r, hr⟩ : ∃ r, r = getS L s.data.toList := ⟨_, rfl⟩
  rw [← hr] at HAT hre hmem hrl ⊢
  have HMEM := Lib.hid hmem
  unfold EnAt enCs at hre
  obtain ⟨⟨gc0, gc1, gc2⟩, gf0, gf1, gf2⟩ := fresh_en hre
  have HRC := Lib.hid hre
  have HRA := Lib.hid (show (w.alloc (EO kd t lo ln lc)).heap[r.v]? = _ from (h0.ent _ hmem))
  unfold EnAt enCs at HRA
  have H0 := Lib.hid h
  have hne : r.v ≠ w.heap.size := by omega
  have hne2 : w.heap.size ≠ r.v := by omega
  clear h h0 hb0 hs ht hmem hown his hr hre
  go_enter Try.func31, Try.ntmps31
  go_wp2_with (at_lookup; refine wpList_lookup_reg _ rfl _ _ rfl mb L.length D s HS.out r rfl HOWN.out rfl HAT.out HHAS.out ?_)
  go_ret
  have hat : EnAt ((((w.setCell ⟨r.v, 0, none⟩ (.int .i64 kd)).setCell ⟨r.v, 1, none⟩ (.string t)).setCell ⟨r.v, 2, none⟩ (.slice lo ln lc)).alloc (EO kd t lo ln lc)) r.v ⟨kd, t, lo, ln, lc⟩ := by
    unfold EnAt enCs
    rw [Below.heap_alloc _ _ _ (by simp [World.setCell]; exact hrl)]
    simp only [World.setCell, Array.getElem?_modify, HRC.out]
    simp
  have hkk : Kept (· = r.v) w ((((w.setCell ⟨r.v, 0, none⟩ (.int .i64 kd)).setCell ⟨r.v, 1, none⟩ (.string t)).setCell ⟨r.v, 2, none⟩ (.slice lo ln lc)).alloc (EO kd t lo ln lc)) :=
    ((((Kept.refl (· = r.v) w).setCell (p := ⟨r.v, 0, none⟩) rfl _).setCell (p := ⟨r.v, 1, none⟩) rfl _).setCell (p := ⟨r.v, 2, none⟩) rfl _).trans (.of ((Below.refl _ _).alloc (Nat.le_refl _) _))
  exact ⟨rfl, H0.out.with r HMEM.out _ hat hkk, hkk⟩
set_option maxHeartbeats 1000000 in
/-- put of a name that is not there: a new entry. -/
theorem put_new {sb mb : Nat} {L : List Reg} {E : Nat → En} {w : World} (h : SK sb mb L E w) (s : ByteArray) (kd : Int) (t : ByteArray) (lo : Option Addr) (ln lc : Nat) (hn : okNm s.data.toList = true) (ht : hasS L s.data.toList = false) (hl : L.length < 500) :
    Calls Try.prog 31 #[BP sb, .string s, .agg #[.int .i64 kd, .string t, .slice lo ln lc]] w fun e w' => e = .returned (.int .i64 0) ∧ SK sb mb (putS L ⟨s.data.toList, w.heap.size⟩) (upd E w.heap.size ⟨kd, t, lo, ln, lc⟩) w' ∧ Kept (· = mb) w w' := by
  have hb0 : Below w.heap.size w (w.alloc (EO kd t lo ln lc)) := (Below.refl _ _).alloc (Nat.le_refl _) _
  have h0 : SK sb mb L (upd E w.heap.size ⟨kd, t, lo, ln, lc⟩) (w.alloc (EO kd t lo ln lc)) := (h.below hb0).congr (fun r hr => upd_other _ _ _ (by have := h.elt r hr; omega))
  have HB0 := Lib.hid hb0
  have HS := Lib.hid (size_ok hn)
  have hcb := h.c0
  have hsl := h.lt.1
  have hsne : sb ≠ w.heap.size := by omega
  have HG := Lib.hid (give_new h0 s w.heap.size hn ht hl (by rw [upd_same]; exact heap_alloc_new _ _))
  obtain ⟨D, hown, his⟩ := h0.map
  have HHAS := Lib.hid ((his.has s.data.toList).trans ht)
  have HOWN := Lib.hid hown
  clear h h0 hb0 hn ht hown his hl
  go_enter Try.func31, Try.ntmps31
  go_wp2_with (at_lookup; refine wpList_lookup_none _ rfl _ _ rfl mb L.length D s HS.out rfl HOWN.out rfl HHAS.out ?_)
  refine HG.out.mono ?_
  rintro e w1 ⟨rfl, hk, hw⟩
  have HK := Lib.hid hk
  have HW := Lib.hid ((Kept.of (S := (· = mb)) HB0.out).trans hw)
  clear hk hw
  go_wp2_with fail
  go_ret
  exact ⟨rfl, HK.out, HW.out⟩
set_option maxHeartbeats 1000000 in
theorem put_full {sb mb : Nat} {L : List Reg} {E : Nat → En} {w : World} (h : SK sb mb L E w) (s : ByteArray) (kd : Int) (t : ByteArray) (lo : Option Addr) (ln lc : Nat) (hn : okNm s.data.toList = true) (ht : hasS L s.data.toList = false) (hl : L.length = 500) :
    Calls Try.prog 31 #[BP sb, .string s, .agg #[.int .i64 kd, .string t, .slice lo ln lc]] w fun e w' => e = .returned (.int .i64 9) ∧ Below w.heap.size w w' := by
  have hb0 : Below w.heap.size w (w.alloc (EO kd t lo ln lc)) := (Below.refl _ _).alloc (Nat.le_refl _) _
  have h0 := h.below hb0
  have HB0 := Lib.hid hb0
  have HS := Lib.hid (size_ok hn)
  have hcb := h.c0
  have hsl := h.lt.1
  have hsne : sb ≠ w.heap.size := by omega
  have HG := Lib.hid (give_full h0 s w.heap.size (size_ok hn) ht hl)
  obtain ⟨D, hown, his⟩ := h0.map
  have HHAS := Lib.hid ((his.has s.data.toList).trans ht)
  have HOWN := Lib.hid hown
  clear h h0 hb0 hn ht hown his hl
  go_enter Try.func31, Try.ntmps31
  go_wp2_with (at_lookup; refine wpList_lookup_none _ rfl _ _ rfl mb L.length D s HS.out rfl HOWN.out rfl HHAS.out ?_)
  refine HG.out.mono ?_
  rintro e w1 ⟨rfl, rfl⟩
  go_wp2_with fail
  go_ret
  exact ⟨rfl, HB0.out⟩
end Go.Proofs.Ytgpanlkcpnlejaa
