/- The code's book: a register is changed. -/
import Derived.Test.YtedbdpklliaoaaaGreatDoorB3
import Derived.StillTailTactics
namespace Go.Proofs.YtedbdpklliaoaaaGreatDoor
open Go.RowKit Go.Shelf Go.Maps
set_option maxRecDepth 100000
/-- A store into the map is a register put. -/
theorem BK.put {bb mb : Nat} {L : List Reg} {w w' : World} {D : DataW Unit} (h : BK bb mb L w) (hown : w.ownsMap Tryz.prog 9 regElem mb L.length D) (his : MapIs D L) (r : Reg) (hr : regOk r) (hl : hasS L r.nm = true ∨ L.length < 500)
    (hown' : w'.ownsMap Tryz.prog 9 regElem mb (L.length + 1) (D.put (.string r.nm) (regD r))) (hg : w.grownBy w' (some mb)) : BK bb mb (putS L r) w' := by
  have hT : Tidy D := hown.tidy law
  have hm := his.put hT h.asc r
  refine ⟨(hg.block bb h.lt.1 (by simpa using h.ne)).trans h.cell, h.ne, asc_put L r h.asc, ⟨_, ?_, hm⟩, fun x hx => ?_, ?_⟩
  · have := info_tight hown'
    rwa [hm.size] at this
  · rcases mem_put L r x hx with rfl | hx
    · exact hr
    · exact h.ok x hx
  · rw [len_put L r h.asc]
    have := h.len
    split
    · exact this
    · rename_i hc
      rcases hl with hl | hl
      · exact absurd hl hc
      · omega
theorem Kept.new {S : Nat → Prop} {u v w : World} {g : Nat} (h : Kept S u v) (k : Kept (· = g) v w) (hg : u.heap.size ≤ g) : Kept S u w :=
  ⟨k.os.trans h.os, k.tape.trans h.tape, k.output.trans h.output, Nat.le_trans h.size k.size, fun i hi hs => (k.block i (Nat.lt_of_lt_of_le hi h.size) (by intro e; omega)).trans (h.block i hi hs)⟩
theorem Kept.drew {S : Nat → Prop} {u w : World} (h : Kept S u w) : Kept S u w.drew := ⟨h.os, h.tape, h.output, h.size, h.block⟩
theorem set1_any (b cb : Nat) (n v st : Int) (fm : ByteArray) (w : World) (hc : w.cell? ⟨cb, 0, none⟩ = some (.int .i64 n)) (hb : w.heap[b]? = some (.cells #[.int .i64 v, .int .i64 st, .string fm] 60 (0, 0))) :
    Calls Tryz.prog 40 #[BP b, BP cb] w fun e w' => e = .returned (.tuple #[]) ∧ w'.heap[b]? = some (.cells #[.int .i64 n, .int .i64 st, .string fm] 60 (0, 0)) ∧ Kept (· = b) w w' := by
  obtain ⟨⟨c0, c1, c2⟩, f0, f1, f2⟩ := fresh_reg hb
  have HBB := Lib.hid hb
  clear hb
  go_enter Tryz.func40, Tryz.ntmps40
  go_wp2_with fail
  go_end0
  exact ⟨rfl, by simp [World.setCell, Array.getElem?_modify, HBB.out], rfl, rfl, rfl, by simp [World.setCell], fun k _ hk => Below.heap_setCell _ _ _ _ hk⟩
theorem step1_any (b cb : Nat) (n v st : Int) (fm : ByteArray) (w : World) (hc : w.cell? ⟨cb, 0, none⟩ = some (.int .i64 n)) (hb : w.heap[b]? = some (.cells #[.int .i64 v, .int .i64 st, .string fm] 60 (0, 0))) :
    Calls Tryz.prog 41 #[BP b, BP cb] w fun e w' => e = .returned (.tuple #[]) ∧ w'.heap[b]? = some (.cells #[.int .i64 v, .int .i64 n, .string fm] 60 (0, 0)) ∧ Kept (· = b) w w' := by
  obtain ⟨⟨c0, c1, c2⟩, f0, f1, f2⟩ := fresh_reg hb
  have HBB := Lib.hid hb
  clear hb
  go_enter Tryz.func41, Tryz.ntmps41
  go_wp2_with fail
  go_end0
  exact ⟨rfl, by simp [World.setCell, Array.getElem?_modify, HBB.out], rfl, rfl, rfl, by simp [World.setCell], fun k _ hk => Below.heap_setCell _ _ _ _ hk⟩
theorem format1_any (b cb : Nat) (n : ByteArray) (v st : Int) (fm : ByteArray) (w : World) (hc : w.cell? ⟨cb, 0, none⟩ = some (.string n)) (hb : w.heap[b]? = some (.cells #[.int .i64 v, .int .i64 st, .string fm] 60 (0, 0))) :
    Calls Tryz.prog 43 #[BP b, BP cb] w fun e w' => e = .returned (.tuple #[]) ∧ w'.heap[b]? = some (.cells #[.int .i64 v, .int .i64 st, .string n] 60 (0, 0)) ∧ Kept (· = b) w w' := by
  obtain ⟨⟨c0, c1, c2⟩, f0, f1, f2⟩ := fresh_reg hb
  have HBB := Lib.hid hb
  clear hb
  go_enter Tryz.func43, Tryz.ntmps43
  go_wp2_with fail
  go_end0
  exact ⟨rfl, by simp [World.setCell, Array.getElem?_modify, HBB.out], rfl, rfl, rfl, by simp [World.setCell], fun k _ hk => Below.heap_setCell _ _ _ _ hk⟩
abbrev FnV (f cb : Nat) : Value := .func (.func f) #[] #[BP cb]
/-- The errors that come ahead of a change. -/
theorem change_bad {bb mb : Nat} {L : List Reg} {w : World} (h : BK bb mb L w) (s : ByteArray) (x : Int) (f : Value) (hn : okNm s.data.toList = false) :
    Calls Tryz.prog 38 #[BP bb, .string s, .int .i64 x, f] w fun e w' => e = .returned (.int .i64 6) ∧ Below w.heap.size w w' := by
  have HF := Lib.hid (find_bad h s hn)
  clear h hn
  go_enter Tryz.func38, Tryz.ntmps38
  go_wp2_with fail
  refine HF.out.mono ?_
  rintro e w1 ⟨rfl, hb⟩
  have HB := Lib.hid hb
  have hz := hb.size
  clear hb
  go_wp2_with fail
  go_ret
  exact ⟨rfl, HB.out.alloc hz _⟩
/-- find of a good name, whether it is there or not. -/
theorem find_good {bb mb : Nat} {L : List Reg} {w : World} (h : BK bb mb L w) (s : ByteArray) (hn : okNm s.data.toList = true) (r : Reg) (hr : getS L s.data.toList = r) (t : Bool) (ht : hasS L s.data.toList = t) :
    Calls Tryz.prog 36 #[BP bb, .string s] w fun e w' => e = .returned (tup3 r t 0) ∧ Below w.heap.size w w' := by
  cases t with
  | true => exact find_yes h s hn r hr ht
  | false =>
    rw [getS_of_not L _ ht] at hr
    subst hr
    exact find_no h s hn ht
theorem change_wrong {bb mb : Nat} {L : List Reg} {w : World} (h : BK bb mb L w) (s : ByteArray) (x : Int) (f : Value) (hn : okNm s.data.toList = true) (hx : x ≠ 0) :
    Calls Tryz.prog 38 #[BP bb, .string s, .int .i64 x, f] w fun e w' => e = .returned (.int .i64 x) ∧ Below w.heap.size w w' := by
  have HF := Lib.hid (find_good h s hn _ rfl _ rfl)
  have hx1 : (x == 0) = false := by simpa using hx
  have hx2 : (x != 0) = true := by simpa using hx
  generalize getS L s.data.toList = r at HF
  generalize hasS L s.data.toList = t at HF
  clear h hn hx
  go_enter Tryz.func38, Tryz.ntmps38
  go_wp2_with fail
  refine HF.out.mono ?_
  rintro e w1 ⟨rfl, hb⟩
  have HB := Lib.hid hb
  have hz := hb.size
  clear hb
  go_wp2_with fail
  go_ret
  exact ⟨rfl, HB.out.alloc hz _⟩
theorem change_full {bb mb : Nat} {L : List Reg} {w : World} (h : BK bb mb L w) (s : ByteArray) (f : Value) (hn : okNm s.data.toList = true) (ht : hasS L s.data.toList = false) (hl : L.length = 500) :
    Calls Tryz.prog 38 #[BP bb, .string s, .int .i64 0, f] w fun e w' => e = .returned (.int .i64 9) ∧ Below w.heap.size w w' := by
  have HF := Lib.hid (find_no h s hn ht)
  have H := Lib.hid h
  clear h hn ht
  go_enter Tryz.func38, Tryz.ntmps38
  go_wp2_with fail
  refine HF.out.mono ?_
  rintro e w1 ⟨rfl, hb⟩
  have HB := Lib.hid hb
  have hz := hb.size
  have hb2 : BK bb mb L (w1.alloc (.cells #[.int .i64 0, .int .i64 0, .string ⟨#[48]⟩] 60)) := H.out.below (hb.alloc hz _)
  have hc := hb2.c0
  obtain ⟨D, hown, his⟩ := hb2.map
  have hlen := fun ty => hown.len Tryz.underlying54 ty
  rw [his.size, hl] at hlen
  clear hb hb2 hown his
  go_wp2_with fail
  go_ret
  exact ⟨rfl, HB.out.alloc hz _⟩
set_option maxHeartbeats 1000000 in
theorem change_set {bb mb : Nat} {L : List Reg} {w : World} (h : BK bb mb L w) (s : ByteArray) (cb : Nat) (n : Int) (hn : okNm s.data.toList = true) (hl : hasS L s.data.toList = true ∨ L.length < 500) (hv : okN n = true) (hc : w.cell? ⟨cb, 0, none⟩ = some (.int .i64 n)) (hcb : cb < w.heap.size) :
    Calls Tryz.prog 38 #[BP bb, .string s, .int .i64 0, FnV 40 cb] w fun e w' => e = .returned (.int .i64 0) ∧ BK bb mb (putS L (setV n (getS L s.data.toList))) w' ∧ Kept (· = mb) w w' := by
  have HF := Lib.hid (find_good h s hn _ rfl _ rfl)
  have H := Lib.hid h
  have HRO := Lib.hid (getS_ok L s.data.toList h.ok hn)
  have HNM := Lib.hid (getS_nm L s.data.toList)
  have HLL := Lib.hid hl
  have HV : Hid (okN n = true) := Lib.hid hv
  have hs : s.size ≤ maxLen := by
    rw [okNm_eq] at hn
    simp only [Bool.and_eq_true, decide_eq_true_eq] at hn
    unfold maxLen; omega
  have HS := Lib.hid hs
  have HC := Lib.hid hc
  have hl5 := h.len
  have HLM := Lib.hid (show L.length < maxLen by unfold maxLen; omega)
  have HHAS : Hid (hasS L s.data.toList = true ∨ L.length < 500) := Lib.hid hl
  obtain ⟨r, hr⟩ : ∃ r, r = getS L s.data.toList := ⟨_, rfl⟩
  rw [← hr] at HF HRO HNM ⊢
  obtain ⟨t, ht⟩ : ∃ t, t = hasS L s.data.toList := ⟨_, rfl⟩
  rw [← ht] at HF HLL
  clear h hn hl hv hs hc hr ht
  have hcases : t = true ∨ (t = false ∧ ((L.length : Int) == 500) = false) := by
    cases t with
    | true => exact .inl rfl
    | false => refine .inr ⟨rfl, ?_⟩; rcases HLL.out with h | h; cases h; simp; omega
  rcases hcases with rfl | ⟨rfl, hl500⟩
  · go_enter Tryz.func38, Tryz.ntmps38
    go_wp2_with fail
    refine HF.out.mono ?_
    rintro e w1 ⟨rfl, hb⟩
    have hz := hb.size
    have hb1 := hb.alloc hz (.cells #[.int .i64 r.v, .int .i64 r.st, .string ⟨r.fm.toArray⟩] 60)
    have HB1 := Lib.hid hb1
    have H1 := Lib.hid (H.out.below hb1)
    have hc1 : (w1.alloc (.cells #[.int .i64 r.v, .int .i64 r.st, .string ⟨r.fm.toArray⟩] 60)).cell? ⟨cb, 0, none⟩ = some (.int .i64 n) := by rw [hb1.cell (p := ⟨cb, 0, none⟩) hcb]; exact HC.out
    have HC1 := Lib.hid hc1
    clear hb hb1 hc1
    go_wp2_with fail
    refine (set1_any _ _ n _ _ _ _ HC1.out (heap_alloc_new _ _)).mono ?_
    rintro e w2 ⟨rfl, hblk, hk⟩
    have h2 : BK bb mb L w2 := H1.out.kept hk (by have := H1.out.lt; have := H.out.lt; omega) (by have := H.out.lt; omega)
    have hcb2 := h2.c0
    obtain ⟨⟨c0, c1, c2⟩, f0, f1, f2⟩ := fresh_reg hblk
    obtain ⟨D, hown, his⟩ := h2.map
    have HOWN := Lib.hid (show w2.drew.ownsMap Tryz.prog 9 regElem mb L.length D from hown)
    have HIS : Hid (MapIs D L) := Lib.hid his
    have H2 : Hid (BK bb mb L w2.drew) := Lib.hid (h2.move rfl rfl)
    have HK := Lib.hid (((Kept.of (S := (· = mb)) HB1.out).new hk hz).drew)
    clear hblk hk h2 hown his
    go_wp2_with fail
    go_still_tail 6, (by kernel_rfl)
    change wpList _ _ _ _ _ w2.drew
    go_wp2_with (at_mapUpdate; refine wpList_mapUpdate_own _ rfl _ _ _ 54 rfl 9 60 law Tryz.underlying54 regElem mb L.length D rfl HOWN.out HLM.out (.string s) _ (.string s.data.toList) rfl rfl (WideMaps.keyOf_string_mk Tryz.underlying9 HS.out) (regD (setV n r)) [] rfl ?_; intro w3 hown3 hg3; have HO3 := Lib.hid hown3; have HG3 := Lib.hid hg3; clear hown3 hg3)
    go_ret
    refine ⟨rfl, ?_, HK.out.trans (.grown HG3.out)⟩
    have e : (setV n r).nm = s.data.toList := HNM.out
    refine H2.out.put HOWN.out HIS.out (setV n r) ?_ (by rw [e]; exact HHAS.out) (by rw [e]; exact HO3.out) HG3.out
    exact ⟨HRO.out.1, HV.out, HRO.out.2.2.1, HRO.out.2.2.2⟩
  · go_enter Tryz.func38, Tryz.ntmps38
    go_wp2_with fail
    refine HF.out.mono ?_
    rintro e w1 ⟨rfl, hb⟩
    have hz := hb.size
    have hb1 := hb.alloc hz (.cells #[.int .i64 r.v, .int .i64 r.st, .string ⟨r.fm.toArray⟩] 60)
    have HB1 := Lib.hid hb1
    have H1 := Lib.hid (H.out.below hb1)
    have hc1 : (w1.alloc (.cells #[.int .i64 r.v, .int .i64 r.st, .string ⟨r.fm.toArray⟩] 60)).cell? ⟨cb, 0, none⟩ = some (.int .i64 n) := by rw [hb1.cell (p := ⟨cb, 0, none⟩) hcb]; exact HC.out
    have HC1 := Lib.hid hc1
    clear hb hb1 hc1
    obtain ⟨D0, hown0, his0⟩ := H1.out.map
    have HOWN0 := Lib.hid hown0
    have HIS0 : Hid (MapIs D0 L) := Lib.hid his0
    have hcb1 := H1.out.c0
    clear hown0 his0
    have hlen := fun ty => HOWN0.out.len Tryz.underlying54 ty
    rw [HIS0.out.size] at hlen
    go_wp2_with fail
    refine (set1_any _ _ n _ _ _ _ HC1.out (heap_alloc_new _ _)).mono ?_
    rintro e w2 ⟨rfl, hblk, hk⟩
    have h2 : BK bb mb L w2 := H1.out.kept hk (by have := H1.out.lt; have := H.out.lt; omega) (by have := H.out.lt; omega)
    have hcb2 := h2.c0
    obtain ⟨⟨c0, c1, c2⟩, f0, f1, f2⟩ := fresh_reg hblk
    obtain ⟨D, hown, his⟩ := h2.map
    have HOWN := Lib.hid (show w2.drew.ownsMap Tryz.prog 9 regElem mb L.length D from hown)
    have HIS : Hid (MapIs D L) := Lib.hid his
    have H2 : Hid (BK bb mb L w2.drew) := Lib.hid (h2.move rfl rfl)
    have HK := Lib.hid (((Kept.of (S := (· = mb)) HB1.out).new hk hz).drew)
    clear hblk hk h2 hown his
    go_wp2_with fail
    go_still_tail 6, (by kernel_rfl)
    change wpList _ _ _ _ _ w2.drew
    go_wp2_with (at_mapUpdate; refine wpList_mapUpdate_own _ rfl _ _ _ 54 rfl 9 60 law Tryz.underlying54 regElem mb L.length D rfl HOWN.out HLM.out (.string s) _ (.string s.data.toList) rfl rfl (WideMaps.keyOf_string_mk Tryz.underlying9 HS.out) (regD (setV n r)) [] rfl ?_; intro w3 hown3 hg3; have HO3 := Lib.hid hown3; have HG3 := Lib.hid hg3; clear hown3 hg3)
    go_ret
    refine ⟨rfl, ?_, HK.out.trans (.grown HG3.out)⟩
    have e : (setV n r).nm = s.data.toList := HNM.out
    refine H2.out.put HOWN.out HIS.out (setV n r) ?_ (by rw [e]; exact HHAS.out) (by rw [e]; exact HO3.out) HG3.out
    exact ⟨HRO.out.1, HV.out, HRO.out.2.2.1, HRO.out.2.2.2⟩
end Go.Proofs.YtedbdpklliaoaaaGreatDoor
