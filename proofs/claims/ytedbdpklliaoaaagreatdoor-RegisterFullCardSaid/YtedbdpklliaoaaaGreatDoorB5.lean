/- The code's book: Step and Format, Set. -/
import Derived.Test.YtedbdpklliaoaaaGreatDoorB4
namespace Go.Proofs.YtedbdpklliaoaaaGreatDoor
open Go.RowKit Go.Shelf Go.Maps
set_option maxRecDepth 100000
set_option maxHeartbeats 1000000 in
theorem change_step {bb mb : Nat} {L : List Reg} {w : World} (h : BK bb mb L w) (s : ByteArray) (cb : Nat) (n : Int) (hn : okNm s.data.toList = true) (hl : hasS L s.data.toList = true ∨ L.length < 500) (hv : okN n = true) (hc : w.cell? ⟨cb, 0, none⟩ = some (.int .i64 n)) (hcb : cb < w.heap.size) :
    Calls Tryz.prog 38 #[BP bb, .string s, .int .i64 0, FnV 41 cb] w fun e w' => e = .returned (.int .i64 0) ∧ BK bb mb (putS L (setSt n (getS L s.data.toList))) w' ∧ Kept (· = mb) w w' := by
  have HF := Lib.hid (find_good h s hn _ rfl _ rfl)
  have H := Lib.hid h
  have HRO := Lib.hid (getS_ok L s.data.toList h.ok hn)
  have HNM := Lib.hid (getS_nm L s.data.toList)
  have HLL := Lib.hid hl
  have HV : Hid (okN n = true) := Lib.hid hv
  have hs : s.size ≤ maxLen := by
    rw [okNm_eq] at hn
    simp only [Bool.and_eq_true, decide_eq_true_eq] at hn
    unfold maxLen; omega
  have HS := Lib.hid hs
  have HC := Lib.hid hc
  have hl5 := h.len
  have HLM := Lib.hid (show L.length < maxLen by unfold maxLen; omega)
  have HHAS : Hid (hasS L s.data.toList = true ∨ L.length < 500) := Lib.hid hl
  obtain ⟨r, hr⟩ : ∃ r, r = getS L s.data.toList := ⟨_, rfl⟩
  rw [← hr] at HF HRO HNM ⊢
  obtain ⟨t, ht⟩ : ∃ t, t = hasS L s.data.toList := ⟨_, rfl⟩
  rw [← ht] at HF HLL
  clear h hn hl hv hs hc hr ht
  have hcases : t = true ∨ (t = false ∧ ((L.length : Int) == 500) = false) := by
    cases t with
    | true => exact .inl rfl
    | false => refine .inr ⟨rfl, ?_⟩; rcases HLL.out with h | h; cases h; simp; omega
  rcases hcases with rfl | ⟨rfl, hl500⟩
  · go_enter Tryz.func38, Tryz.ntmps38
    go_wp2_with fail
    refine HF.out.mono ?_
    rintro e w1 ⟨rfl, hb⟩
    have hz := hb.size
    have hb1 := hb.alloc hz (.cells #[.int .i64 r.v, .int .i64 r.st, .string ⟨r.fm.toArray⟩] 60)
    have HB1 := Lib.hid hb1
    have H1 := Lib.hid (H.out.below hb1)
    have hc1 : (w1.alloc (.cells #[.int .i64 r.v, .int .i64 r.st, .string ⟨r.fm.toArray⟩] 60)).cell? ⟨cb, 0, none⟩ = some (.int .i64 n) := by rw [hb1.cell (p := ⟨cb, 0, none⟩) hcb]; exact HC.out
    have HC1 := Lib.hid hc1
    clear hb hb1 hc1
    go_wp2_with fail
    refine (step1_any _ _ n _ _ _ _ HC1.out (heap_alloc_new _ _)).mono ?_
    rintro e w2 ⟨rfl, hblk, hk⟩
    have h2 : BK bb mb L w2 := H1.out.kept hk (by have := H1.out.lt; have := H.out.lt; omega) (by have := H.out.lt; omega)
    have hcb2 := h2.c0
    obtain ⟨⟨c0, c1, c2⟩, f0, f1, f2⟩ := fresh_reg hblk
    obtain ⟨D, hown, his⟩ := h2.map
    have HOWN := Lib.hid (show w2.drew.ownsMap Tryz.prog 9 regElem mb L.length D from hown)
    have HIS : Hid (MapIs D L) := Lib.hid his
    have H2 : Hid (BK bb mb L w2.drew) := Lib.hid (h2.move rfl rfl)
    have HK := Lib.hid (((Kept.of (S := (· = mb)) HB1.out).new hk hz).drew)
    clear hblk hk h2 hown his
    go_wp2_with fail
    go_still_tail 6, (by kernel_rfl)
    change wpList _ _ _ _ _ w2.drew
    go_wp2_with (at_mapUpdate; refine wpList_mapUpdate_own _ rfl _ _ _ 54 rfl 9 60 law Tryz.underlying54 regElem mb L.length D rfl HOWN.out HLM.out (.string s) _ (.string s.data.toList) rfl rfl (WideMaps.keyOf_string_mk Tryz.underlying9 HS.out) (regD (setSt n r)) [] rfl ?_; intro w3 hown3 hg3; have HO3 := Lib.hid hown3; have HG3 := Lib.hid hg3; clear hown3 hg3)
    go_ret
    refine ⟨rfl, ?_, HK.out.trans (.grown HG3.out)⟩
    have e : (setSt n r).nm = s.data.toList := HNM.out
    refine H2.out.put HOWN.out HIS.out (setSt n r) ?_ (by rw [e]; exact HHAS.out) (by rw [e]; exact HO3.out) HG3.out
    exact ⟨HRO.out.1, HRO.out.2.1, HV.out, HRO.out.2.2.2⟩
  · go_enter Tryz.func38, Tryz.ntmps38
    go_wp2_with fail
    refine HF.out.mono ?_
    rintro e w1 ⟨rfl, hb⟩
    have hz := hb.size
    have hb1 := hb.alloc hz (.cells #[.int .i64 r.v, .int .i64 r.st, .string ⟨r.fm.toArray⟩] 60)
    have HB1 := Lib.hid hb1
    have H1 := Lib.hid (H.out.below hb1)
    have hc1 : (w1.alloc (.cells #[.int .i64 r.v, .int .i64 r.st, .string ⟨r.fm.toArray⟩] 60)).cell? ⟨cb, 0, none⟩ = some (.int .i64 n) := by rw [hb1.cell (p := ⟨cb, 0, none⟩) hcb]; exact HC.out
    have HC1 := Lib.hid hc1
    clear hb hb1 hc1
    obtain ⟨D0, hown0, his0⟩ := H1.out.map
    have HOWN0 := Lib.hid hown0
    have HIS0 : Hid (MapIs D0 L) := Lib.hid his0
    have hcb1 := H1.out.c0
    clear hown0 his0
    have hlen := fun ty => HOWN0.out.len Tryz.underlying54 ty
    rw [HIS0.out.size] at hlen
    go_wp2_with fail
    refine (step1_any _ _ n _ _ _ _ HC1.out (heap_alloc_new _ _)).mono ?_
    rintro e w2 ⟨rfl, hblk, hk⟩
    have h2 : BK bb mb L w2 := H1.out.kept hk (by have := H1.out.lt; have := H.out.lt; omega) (by have := H.out.lt; omega)
    have hcb2 := h2.c0
    obtain ⟨⟨c0, c1, c2⟩, f0, f1, f2⟩ := fresh_reg hblk
    obtain ⟨D, hown, his⟩ := h2.map
    have HOWN := Lib.hid (show w2.drew.ownsMap Tryz.prog 9 regElem mb L.length D from hown)
    have HIS : Hid (MapIs D L) := Lib.hid his
    have H2 : Hid (BK bb mb L w2.drew) := Lib.hid (h2.move rfl rfl)
    have HK := Lib.hid (((Kept.of (S := (· = mb)) HB1.out).new hk hz).drew)
    clear hblk hk h2 hown his
    go_wp2_with fail
    go_still_tail 6, (by kernel_rfl)
    change wpList _ _ _ _ _ w2.drew
    go_wp2_with (at_mapUpdate; refine wpList_mapUpdate_own _ rfl _ _ _ 54 rfl 9 60 law Tryz.underlying54 regElem mb L.length D rfl HOWN.out HLM.out (.string s) _ (.string s.data.toList) rfl rfl (WideMaps.keyOf_string_mk Tryz.underlying9 HS.out) (regD (setSt n r)) [] rfl ?_; intro w3 hown3 hg3; have HO3 := Lib.hid hown3; have HG3 := Lib.hid hg3; clear hown3 hg3)
    go_ret
    refine ⟨rfl, ?_, HK.out.trans (.grown HG3.out)⟩
    have e : (setSt n r).nm = s.data.toList := HNM.out
    refine H2.out.put HOWN.out HIS.out (setSt n r) ?_ (by rw [e]; exact HHAS.out) (by rw [e]; exact HO3.out) HG3.out
    exact ⟨HRO.out.1, HRO.out.2.1, HV.out, HRO.out.2.2.2⟩
set_option maxHeartbeats 1000000 in
theorem change_format {bb mb : Nat} {L : List Reg} {w : World} (h : BK bb mb L w) (s : ByteArray) (cb : Nat) (n : ByteArray) (hn : okNm s.data.toList = true) (hl : hasS L s.data.toList = true ∨ L.length < 500) (hv : isForm n.data.toList = true) (hc : w.cell? ⟨cb, 0, none⟩ = some (.string n)) (hcb : cb < w.heap.size) :
    Calls Tryz.prog 38 #[BP bb, .string s, .int .i64 0, FnV 43 cb] w fun e w' => e = .returned (.int .i64 0) ∧ BK bb mb (putS L (setFm n.data.toList (getS L s.data.toList))) w' ∧ Kept (· = mb) w w' := by
  have HF := Lib.hid (find_good h s hn _ rfl _ rfl)
  have H := Lib.hid h
  have HRO := Lib.hid (getS_ok L s.data.toList h.ok hn)
  have HNM := Lib.hid (getS_nm L s.data.toList)
  have HLL := Lib.hid hl
  have HV : Hid (isForm n.data.toList = true) := Lib.hid hv
  have hs : s.size ≤ maxLen := by
    rw [okNm_eq] at hn
    simp only [Bool.and_eq_true, decide_eq_true_eq] at hn
    unfold maxLen; omega
  have HS := Lib.hid hs
  have HC := Lib.hid hc
  have hl5 := h.len
  have HLM := Lib.hid (show L.length < maxLen by unfold maxLen; omega)
  have HHAS : Hid (hasS L s.data.toList = true ∨ L.length < 500) := Lib.hid hl
  obtain ⟨r, hr⟩ : ∃ r, r = getS L s.data.toList := ⟨_, rfl⟩
  rw [← hr] at HF HRO HNM ⊢
  obtain ⟨t, ht⟩ : ∃ t, t = hasS L s.data.toList := ⟨_, rfl⟩
  rw [← ht] at HF HLL
  clear h hn hl hv hs hc hr ht
  have hcases : t = true ∨ (t = false ∧ ((L.length : Int) == 500) = false) := by
    cases t with
    | true => exact .inl rfl
    | false => refine .inr ⟨rfl, ?_⟩; rcases HLL.out with h | h; cases h; simp; omega
  rcases hcases with rfl | ⟨rfl, hl500⟩
  · go_enter Tryz.func38, Tryz.ntmps38
    go_wp2_with fail
    refine HF.out.mono ?_
    rintro e w1 ⟨rfl, hb⟩
    have hz := hb.size
    have hb1 := hb.alloc hz (.cells #[.int .i64 r.v, .int .i64 r.st, .string ⟨r.fm.toArray⟩] 60)
    have HB1 := Lib.hid hb1
    have H1 := Lib.hid (H.out.below hb1)
    have hc1 : (w1.alloc (.cells #[.int .i64 r.v, .int .i64 r.st, .string ⟨r.fm.toArray⟩] 60)).cell? ⟨cb, 0, none⟩ = some (.string n) := by rw [hb1.cell (p := ⟨cb, 0, none⟩) hcb]; exact HC.out
    have HC1 := Lib.hid hc1
    clear hb hb1 hc1
    go_wp2_with fail
    refine (format1_any _ _ n _ _ _ _ HC1.out (heap_alloc_new _ _)).mono ?_
    rintro e w2 ⟨rfl, hblk, hk⟩
    have h2 : BK bb mb L w2 := H1.out.kept hk (by have := H1.out.lt; have := H.out.lt; omega) (by have := H.out.lt; omega)
    have hcb2 := h2.c0
    obtain ⟨⟨c0, c1, c2⟩, f0, f1, f2⟩ := fresh_reg hblk
    obtain ⟨D, hown, his⟩ := h2.map
    have HOWN := Lib.hid (show w2.drew.ownsMap Tryz.prog 9 regElem mb L.length D from hown)
    have HIS : Hid (MapIs D L) := Lib.hid his
    have H2 : Hid (BK bb mb L w2.drew) := Lib.hid (h2.move rfl rfl)
    have HK := Lib.hid (((Kept.of (S := (· = mb)) HB1.out).new hk hz).drew)
    clear hblk hk h2 hown his
    go_wp2_with fail
    go_still_tail 6, (by kernel_rfl)
    change wpList _ _ _ _ _ w2.drew
    go_wp2_with (at_mapUpdate; refine wpList_mapUpdate_own _ rfl _ _ _ 54 rfl 9 60 law Tryz.underlying54 regElem mb L.length D rfl HOWN.out HLM.out (.string s) _ (.string s.data.toList) rfl rfl (WideMaps.keyOf_string_mk Tryz.underlying9 HS.out) (regD (setFm n.data.toList r)) [] rfl ?_; intro w3 hown3 hg3; have HO3 := Lib.hid hown3; have HG3 := Lib.hid hg3; clear hown3 hg3)
    go_ret
    refine ⟨rfl, ?_, HK.out.trans (.grown HG3.out)⟩
    have e : (setFm n.data.toList r).nm = s.data.toList := HNM.out
    refine H2.out.put HOWN.out HIS.out (setFm n.data.toList r) ?_ (by rw [e]; exact HHAS.out) (by rw [e]; exact HO3.out) HG3.out
    exact ⟨HRO.out.1, HRO.out.2.1, HRO.out.2.2.1, HV.out⟩
  · go_enter Tryz.func38, Tryz.ntmps38
    go_wp2_with fail
    refine HF.out.mono ?_
    rintro e w1 ⟨rfl, hb⟩
    have hz := hb.size
    have hb1 := hb.alloc hz (.cells #[.int .i64 r.v, .int .i64 r.st, .string ⟨r.fm.toArray⟩] 60)
    have HB1 := Lib.hid hb1
    have H1 := Lib.hid (H.out.below hb1)
    have hc1 : (w1.alloc (.cells #[.int .i64 r.v, .int .i64 r.st, .string ⟨r.fm.toArray⟩] 60)).cell? ⟨cb, 0, none⟩ = some (.string n) := by rw [hb1.cell (p := ⟨cb, 0, none⟩) hcb]; exact HC.out
    have HC1 := Lib.hid hc1
    clear hb hb1 hc1
    obtain ⟨D0, hown0, his0⟩ := H1.out.map
    have HOWN0 := Lib.hid hown0
    have HIS0 : Hid (MapIs D0 L) := Lib.hid his0
    have hcb1 := H1.out.c0
    clear hown0 his0
    have hlen := fun ty => HOWN0.out.len Tryz.underlying54 ty
    rw [HIS0.out.size] at hlen
    go_wp2_with fail
    refine (format1_any _ _ n _ _ _ _ HC1.out (heap_alloc_new _ _)).mono ?_
    rintro e w2 ⟨rfl, hblk, hk⟩
    have h2 : BK bb mb L w2 := H1.out.kept hk (by have := H1.out.lt; have := H.out.lt; omega) (by have := H.out.lt; omega)
    have hcb2 := h2.c0
    obtain ⟨⟨c0, c1, c2⟩, f0, f1, f2⟩ := fresh_reg hblk
    obtain ⟨D, hown, his⟩ := h2.map
    have HOWN := Lib.hid (show w2.drew.ownsMap Tryz.prog 9 regElem mb L.length D from hown)
    have HIS : Hid (MapIs D L) := Lib.hid his
    have H2 : Hid (BK bb mb L w2.drew) := Lib.hid (h2.move rfl rfl)
    have HK := Lib.hid (((Kept.of (S := (· = mb)) HB1.out).new hk hz).drew)
    clear hblk hk h2 hown his
    go_wp2_with fail
    go_still_tail 6, (by kernel_rfl)
    change wpList _ _ _ _ _ w2.drew
    go_wp2_with (at_mapUpdate; refine wpList_mapUpdate_own _ rfl _ _ _ 54 rfl 9 60 law Tryz.underlying54 regElem mb L.length D rfl HOWN.out HLM.out (.string s) _ (.string s.data.toList) rfl rfl (WideMaps.keyOf_string_mk Tryz.underlying9 HS.out) (regD (setFm n.data.toList r)) [] rfl ?_; intro w3 hown3 hg3; have HO3 := Lib.hid hown3; have HG3 := Lib.hid hg3; clear hown3 hg3)
    go_ret
    refine ⟨rfl, ?_, HK.out.trans (.grown HG3.out)⟩
    have e : (setFm n.data.toList r).nm = s.data.toList := HNM.out
    refine H2.out.put HOWN.out HIS.out (setFm n.data.toList r) ?_ (by rw [e]; exact HHAS.out) (by rw [e]; exact HO3.out) HG3.out
    exact ⟨HRO.out.1, HRO.out.2.1, HRO.out.2.2.1, HV.out⟩
theorem eRange_cases (n : Int) : (eRange n = 0 ∧ okN n = true) ∨ (eRange n = 5 ∧ okN n = false) := by
  unfold eRange
  cases h : okN n <;> simp
theorem eForm_cases (l : List UInt8) : (eForm l = 0 ∧ isForm l = true) ∨ (eForm l = 4 ∧ isForm l = false) := by
  unfold eForm
  cases h : isForm l <;> simp
theorem full_cases (L : List Reg) (nm : List UInt8) (h : L.length ≤ 500) : (hasS L nm = false ∧ L.length = 500) ∨ (hasS L nm = true ∨ L.length < 500) := by
  cases hasS L nm <;> simp <;> omega
theorem set_call {bb mb : Nat} {L : List Reg} {w : World} (h : BK bb mb L w) (s : ByteArray) (n : Int) : Calls Tryz.prog 17 #[BP bb, .string s, .int .i64 n] w fun e w' => e = .returned (.int .i64 (chgS L s.data.toList (eRange n) (setV n)).1) ∧ BK bb mb (chgS L s.data.toList (eRange n) (setV n)).2 w' ∧ Kept (· = mb) w w' := by
  have hb0 : Below w.heap.size w (w.alloc (.cells #[.int .i64 n] 3)) := (Below.refl _ _).alloc (Nat.le_refl _) _
  have h0 := h.below hb0
  have hc0 : (w.alloc (.cells #[.int .i64 n] 3)).cell? ⟨w.heap.size, 0, none⟩ = some (.int .i64 n) := by simp [go_sem]
  have hlen := h.len
  have HB0 := Lib.hid hb0
  have H := Lib.hid h
  have key : Calls Tryz.prog 38 #[BP bb, .string s, .int .i64 (eRange n), FnV 40 w.heap.size] (w.alloc (.cells #[.int .i64 n] 3)) fun e w' => e = .returned (.int .i64 (chgS L s.data.toList (eRange n) (setV n)).1) ∧ BK bb mb (chgS L s.data.toList (eRange n) (setV n)).2 w' ∧ Kept (· = mb) (w.alloc (.cells #[.int .i64 n] 3)) w' := by
    cases hn : okNm s.data.toList with
    | false =>
      rw [show chgS L s.data.toList (eRange n) (setV n) = (6, L) by unfold chgS; rw [if_pos hn]]
      exact (change_bad h0 s _ _ hn).mono fun e w' ⟨he, hb⟩ => ⟨he, h0.below hb, .of hb⟩
    | true =>
      rcases eRange_cases n with ⟨he, hv⟩ | ⟨he, hv⟩
      · rw [he]
        rcases full_cases L s.data.toList hlen with ⟨h1, h2⟩ | h1
        · rw [show chgS L s.data.toList 0 (setV n) = (9, L) by unfold chgS; rw [if_neg (by rw [hn]; decide), if_neg (by decide), if_pos ⟨h1, h2⟩]]
          exact (change_full h0 s _ hn h1 h2).mono fun e w' ⟨he, hb⟩ => ⟨he, h0.below hb, .of hb⟩
        · rw [show chgS L s.data.toList 0 (setV n) = (0, putS L ((setV n) (getS L s.data.toList))) by
            unfold chgS; rw [if_neg (by rw [hn]; decide), if_neg (by decide), if_neg (by rintro ⟨a, b⟩; rcases h1 with h1 | h1; rw [a] at h1; cases h1; omega)]]
          exact change_set h0 s w.heap.size n hn h1 hv hc0 (by simp)
      · rw [show chgS L s.data.toList (eRange n) (setV n) = (eRange n, L) by unfold chgS; rw [if_neg (by rw [hn]; decide), if_pos (by rw [he]; decide)]]
        exact (change_wrong h0 s _ _ hn (by rw [he]; decide)).mono fun e w' ⟨he, hb⟩ => ⟨he, h0.below hb, .of hb⟩
  have HK := Lib.hid key
  clear h h0 hb0 hc0 hlen key
  go_enter Tryz.func17, Tryz.ntmps17
  go_wp2_with fail
  refine (rangeError_any n _).mono ?_
  rintro e w1 ⟨rfl, rfl⟩
  go_wp2_with fail
  refine HK.out.mono ?_
  rintro e w2 ⟨rfl, hbk, hk⟩
  have HBK := Lib.hid hbk
  have HKK := Lib.hid ((Kept.of (S := (· = mb)) HB0.out).trans hk)
  clear hbk hk
  go_wp2_with fail
  go_ret
  exact ⟨rfl, HBK.out, HKK.out⟩
theorem step_call {bb mb : Nat} {L : List Reg} {w : World} (h : BK bb mb L w) (s : ByteArray) (n : Int) : Calls Tryz.prog 18 #[BP bb, .string s, .int .i64 n] w fun e w' => e = .returned (.int .i64 (chgS L s.data.toList (eRange n) (setSt n)).1) ∧ BK bb mb (chgS L s.data.toList (eRange n) (setSt n)).2 w' ∧ Kept (· = mb) w w' := by
  have hb0 : Below w.heap.size w (w.alloc (.cells #[.int .i64 n] 3)) := (Below.refl _ _).alloc (Nat.le_refl _) _
  have h0 := h.below hb0
  have hc0 : (w.alloc (.cells #[.int .i64 n] 3)).cell? ⟨w.heap.size, 0, none⟩ = some (.int .i64 n) := by simp [go_sem]
  have hlen := h.len
  have HB0 := Lib.hid hb0
  have H := Lib.hid h
  have key : Calls Tryz.prog 38 #[BP bb, .string s, .int .i64 (eRange n), FnV 41 w.heap.size] (w.alloc (.cells #[.int .i64 n] 3)) fun e w' => e = .returned (.int .i64 (chgS L s.data.toList (eRange n) (setSt n)).1) ∧ BK bb mb (chgS L s.data.toList (eRange n) (setSt n)).2 w' ∧ Kept (· = mb) (w.alloc (.cells #[.int .i64 n] 3)) w' := by
    cases hn : okNm s.data.toList with
    | false =>
      rw [show chgS L s.data.toList (eRange n) (setSt n) = (6, L) by unfold chgS; rw [if_pos hn]]
      exact (change_bad h0 s _ _ hn).mono fun e w' ⟨he, hb⟩ => ⟨he, h0.below hb, .of hb⟩
    | true =>
      rcases eRange_cases n with ⟨he, hv⟩ | ⟨he, hv⟩
      · rw [he]
        rcases full_cases L s.data.toList hlen with ⟨h1, h2⟩ | h1
        · rw [show chgS L s.data.toList 0 (setSt n) = (9, L) by unfold chgS; rw [if_neg (by rw [hn]; decide), if_neg (by decide), if_pos ⟨h1, h2⟩]]
          exact (change_full h0 s _ hn h1 h2).mono fun e w' ⟨he, hb⟩ => ⟨he, h0.below hb, .of hb⟩
        · rw [show chgS L s.data.toList 0 (setSt n) = (0, putS L ((setSt n) (getS L s.data.toList))) by
            unfold chgS; rw [if_neg (by rw [hn]; decide), if_neg (by decide), if_neg (by rintro ⟨a, b⟩; rcases h1 with h1 | h1; rw [a] at h1; cases h1; omega)]]
          exact change_step h0 s w.heap.size n hn h1 hv hc0 (by simp)
      · rw [show chgS L s.data.toList (eRange n) (setSt n) = (eRange n, L) by unfold chgS; rw [if_neg (by rw [hn]; decide), if_pos (by rw [he]; decide)]]
        exact (change_wrong h0 s _ _ hn (by rw [he]; decide)).mono fun e w' ⟨he, hb⟩ => ⟨he, h0.below hb, .of hb⟩
  have HK := Lib.hid key
  clear h h0 hb0 hc0 hlen key
  go_enter Tryz.func18, Tryz.ntmps18
  go_wp2_with fail
  refine (rangeError_any n _).mono ?_
  rintro e w1 ⟨rfl, rfl⟩
  go_wp2_with fail
  refine HK.out.mono ?_
  rintro e w2 ⟨rfl, hbk, hk⟩
  have HBK := Lib.hid hbk
  have HKK := Lib.hid ((Kept.of (S := (· = mb)) HB0.out).trans hk)
  clear hbk hk
  go_wp2_with fail
  go_ret
  exact ⟨rfl, HBK.out, HKK.out⟩
end Go.Proofs.YtedbdpklliaoaaaGreatDoor
