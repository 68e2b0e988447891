/- The code's store: Part, Chop of strings; Append; Rename; Remove; the fixed example. -/
import Derived.Test.YtgpanlkcpnlejaaS5
namespace Go.Proofs.Ytgpanlkcpnlejaa
open Go.RowKit Go.Maps
set_option maxRecDepth 100000
theorem length_str (b : Nat) (t : ByteArray) (lo : Option Addr) (ln lc : Nat) (w : World) (h : w.heap[b]? = some (EO 1 t lo ln lc)) : Calls Try.prog 43 #[BP b] w fun e w' => e = .returned (.int .i64 t.size) ∧ w = w' := by
  obtain ⟨⟨c0, c1, c2⟩, _⟩ := fresh_en h
  clear h
  go_enter Try.func43, Try.ntmps43
  go_wp2_with fail
  go_ret
  exact ⟨rfl, rfl⟩
theorem length_mac (b : Nat) (kd : Int) (t : ByteArray) (lo : Option Addr) (ln lc : Nat) (w : World) (hk : (kd == 1) = false) (h : w.heap[b]? = some (EO kd t lo ln lc)) : Calls Try.prog 43 #[BP b] w fun e w' => e = .returned (.int .i64 ln) ∧ w = w' := by
  obtain ⟨⟨c0, c1, c2⟩, _⟩ := fresh_en h
  clear h
  go_enter Try.func43, Try.ntmps43
  go_wp2_with fail
  go_ret
  exact ⟨rfl, rfl⟩
theorem keep_str (b : Nat) (t : ByteArray) (lo : Option Addr) (ln lc : Nat) (x y : Nat) (hxy : x ≤ y) (hy : y ≤ t.size) (hsz : t.size ≤ 2000) (w : World) (h : w.heap[b]? = some (EO 1 t lo ln lc)) :
    Calls Try.prog 41 #[BP b, .int .i64 x, .int .i64 y] w fun e w' => e = .returned (.tuple #[]) ∧ w'.heap[b]? = some (EO 1 (t.extract x y) lo ln lc) ∧ Kept (· = b) w w' := by
  obtain ⟨⟨c0, c1, c2⟩, f0, f1, f2⟩ := fresh_en h
  have H := Lib.hid h
  clear h
  go_enter Try.func41, Try.ntmps41
  go_wp2_with fail
  refine bodyPost_ret (results_none rfl _ _ _) rfl ?_
  exact ⟨rfl, by simp only [World.setCell, Array.getElem?_modify, H.out]; simp, (Kept.refl (· = b) w).setCell (p := ⟨b, 1, none⟩) rfl _⟩
/-- Part of a string. -/
theorem part_str {sb mb : Nat} {L : List Reg} {E : Nat → En} {w : World} (h : SK sb mb L E w) (s : ByteArray) (f t : Int) (hf : I64 f) (ht : I64 t) (hs : s.size ≤ maxLen) (hh : hasS L s.data.toList = true) (hk : (E (getS L s.data.toList).v).kind = 1) (hz : (E (getS L s.data.toList).v).tx.size ≤ 2000)
    (a b : Nat) (hab : spanS (E (getS L s.data.toList).v).tx.size f t = ((a : Int), (b : Int))) :
    Calls Try.prog 24 #[BP sb, .string s, .int .i64 f, .int .i64 t] w fun e w' => e = .returned (.int .i64 0) ∧ SK sb mb L (upd E (getS L s.data.toList).v { E (getS L s.data.toList).v with tx := (E (getS L s.data.toList).v).tx.extract a b }) w' ∧ Kept (· = (getS L s.data.toList).v) w w' := by
  have HG := Lib.hid (get_yes h s hs hh)
  have hmem := getS_mem L _ hh
  have hre := h.ent _ hmem
  have H := Lib.hid h
  have hsp := span_nat (E (getS L s.data.toList).v).tx.size f t
  obtain ⟨r, hr⟩ : ∃ r, r = getS L s.data.toList := ⟨_, rfl⟩
  rw [← hr] at HG hre hk hz hmem hab hsp ⊢
  have HMEM := Lib.hid hmem
  unfold EnAt at hre
  obtain ⟨en, hen⟩ : ∃ en, en = E r.v := ⟨_, rfl⟩
  rw [← hen] at hre hk hz hab hsp ⊢
  obtain ⟨kd, tx, lo, ln, lc⟩ := en
  unfold enCs at hre
  simp only at hk hz hre hab hsp ⊢
  subst hk
  have hres : a ≤ b ∧ b ≤ tx.size := by
    obtain ⟨x, y, h1, h2, h3⟩ := hsp
    rw [hab] at h1
    simp only [Prod.mk.injEq] at h1
    omega
  have HL := Lib.hid (length_str r.v tx lo ln lc w hre)
  have HSP := Lib.hid (span_any tx.size f t hz hf ht w)
  rw [hab] at HSP
  have HK := Lib.hid (keep_str r.v tx lo ln lc a b hres.1 hres.2 hz w hre)
  clear h hs hh hr hre hmem hz hf ht hab hsp hres hen
  go_enter Try.func24, Try.ntmps24
  go_wp2_with fail
  refine HG.out.mono ?_
  rintro e w1 ⟨rfl, rfl⟩
  go_wp2_with fail
  refine HL.out.mono ?_
  rintro e w1 ⟨rfl, rfl⟩
  go_wp2_with fail
  refine HSP.out.mono ?_
  rintro e w1 ⟨rfl, rfl⟩
  go_wp2_with fail
  refine HK.out.mono ?_
  rintro e w1 ⟨rfl, hb, hk⟩
  have HB := Lib.hid hb
  have HKK := Lib.hid hk
  clear hb hk
  go_wp2_with fail
  go_ret
  exact ⟨rfl, H.out.with r HMEM.out _ HB.out HKK.out, HKK.out⟩
/-- Chop of a string. -/
theorem chop_str {sb mb : Nat} {L : List Reg} {E : Nat → En} {w : World} (h : SK sb mb L E w) (s : ByteArray) (hs : s.size ≤ maxLen) (hh : hasS L s.data.toList = true) (hk : (E (getS L s.data.toList).v).kind = 1) (hz : (E (getS L s.data.toList).v).tx.size ≤ 2000) :
    Calls Try.prog 40 #[BP sb, .string s] w fun e w' => e = .returned (.int .i64 0) ∧ SK sb mb L (upd E (getS L s.data.toList).v { E (getS L s.data.toList).v with tx := (E (getS L s.data.toList).v).tx.extract 0 ((E (getS L s.data.toList).v).tx.size - 1) }) w' ∧ Kept (· = (getS L s.data.toList).v) w w' := by
  have HG := Lib.hid (get_yes h s hs hh)
  have hmem := getS_mem L _ hh
  have hre := h.ent _ hmem
  have H := Lib.hid h
  obtain ⟨r, hr⟩ : ∃ r, r = getS L s.data.toList := ⟨_, rfl⟩
  rw [← hr] at HG hre hk hz hmem ⊢
  have HMEM := Lib.hid hmem
  unfold EnAt at hre
  obtain ⟨en, hen⟩ : ∃ en, en = E r.v := ⟨_, rfl⟩
  rw [← hen] at hre hk hz ⊢
  obtain ⟨kd, tx, lo, ln, lc⟩ := en
  unfold enCs at hre
  simp only at hk hz hre ⊢
  subst hk
  have HL := Lib.hid (length_str r.v tx lo ln lc w hre)
  have HK := Lib.hid (keep_str r.v tx lo ln lc 0 (tx.size - 1) (Nat.zero_le _) (by omega) hz w hre)
  have HM := Lib.hid (show max (0 : Int) ((tx.size : Int) - 1) = ((tx.size - 1 : Nat) : Int) by omega)
  clear h hs hh hr hre hmem hen
  go_enter Try.func40, Try.ntmps40
  go_wp2_with fail
  refine HG.out.mono ?_
  rintro e w1 ⟨rfl, rfl⟩
  go_wp2_with fail
  refine HL.out.mono ?_
  rintro e w1 ⟨rfl, rfl⟩
  go_wp2_with fail
  rw [HM.out]
  refine HK.out.mono ?_
  rintro e w1 ⟨rfl, hb, hk⟩
  have HB := Lib.hid hb
  have HKK := Lib.hid hk
  clear hb hk
  go_wp2_with fail
  go_ret
  exact ⟨rfl, H.out.with r HMEM.out _ HB.out HKK.out, HKK.out⟩
/-- What is got and is not there: Part, Chop, Length, Lines. -/
theorem part_no {sb mb : Nat} {L : List Reg} {E : Nat → En} {w : World} (h : SK sb mb L E w) (s : ByteArray) (f t : Int) (hs : s.size ≤ maxLen) (hh : hasS L s.data.toList = false) :
    Calls Try.prog 24 #[BP sb, .string s, .int .i64 f, .int .i64 t] w fun e w' => e = .returned (.int .i64 6) ∧ w = w' := by
  have HG := Lib.hid (get_no h s hs hh)
  clear h hs hh
  go_enter Try.func24, Try.ntmps24
  go_wp2_with fail
  refine HG.out.mono ?_
  rintro e w1 ⟨rfl, rfl⟩
  go_wp2_with fail
  go_ret
  exact ⟨rfl, rfl⟩
theorem chop_no {sb mb : Nat} {L : List Reg} {E : Nat → En} {w : World} (h : SK sb mb L E w) (s : ByteArray) (hs : s.size ≤ maxLen) (hh : hasS L s.data.toList = false) :
    Calls Try.prog 40 #[BP sb, .string s] w fun e w' => e = .returned (.int .i64 6) ∧ w = w' := by
  have HG := Lib.hid (get_no h s hs hh)
  clear h hs hh
  go_enter Try.func40, Try.ntmps40
  go_wp2_with fail
  refine HG.out.mono ?_
  rintro e w1 ⟨rfl, rfl⟩
  go_wp2_with fail
  go_ret
  exact ⟨rfl, rfl⟩
/- Append. -/
theorem append_arg {sb mb : Nat} {L : List Reg} {E : Nat → En} {w : World} (h : SK sb mb L E w) (s t : ByteArray) (ht : okTx t.data.toList = false) :
    Calls Try.prog 12 #[BP sb, .string s, .string t] w fun e w' => e = .returned (.int .i64 1) ∧ Below w.heap.size w w' := by
  have HV := Lib.hid (fun W => validText_any t W)
  rw [ht] at HV
  have HF := Lib.hid (find_arg h s)
  clear h ht
  go_enter Try.func12, Try.ntmps12
  go_wp2_with fail
  refine (HV.out _).mono ?_
  rintro e w1 ⟨rfl, rfl⟩
  go_wp2_with fail
  refine HF.out.mono ?_
  rintro e w2 ⟨rfl, hb⟩
  have HB := Lib.hid hb
  have hz := hb.size
  clear hb
  go_wp2_with fail
  go_ret
  exact ⟨rfl, HB.out.alloc hz _⟩
theorem append_bad {sb mb : Nat} {L : List Reg} {E : Nat → En} {w : World} (h : SK sb mb L E w) (s t : ByteArray) (ht : okTx t.data.toList = true) (hn : okNm s.data.toList = false) :
    Calls Try.prog 12 #[BP sb, .string s, .string t] w fun e w' => e = .returned (.int .i64 6) ∧ Below w.heap.size w w' := by
  have HV := Lib.hid (fun W => validText_any t W)
  rw [ht] at HV
  have HF := Lib.hid (find_bad h s hn)
  clear h ht hn
  go_enter Try.func12, Try.ntmps12
  go_wp2_with fail
  refine (HV.out _).mono ?_
  rintro e w1 ⟨rfl, rfl⟩
  go_wp2_with fail
  refine HF.out.mono ?_
  rintro e w2 ⟨rfl, hb⟩
  have HB := Lib.hid hb
  have hz := hb.size
  clear hb
  go_wp2_with fail
  go_ret
  exact ⟨rfl, HB.out.alloc hz _⟩
theorem okTx_size {t : ByteArray} (h : okTx t.data.toList = true) : t.size ≤ 2000 := by
  unfold okTx at h
  simp only [Bool.and_eq_true, decide_eq_true_eq] at h
  have := h.1
  rwa [show t.data.toList.length = t.size by simp] at this
theorem append_limit {sb mb : Nat} {L : List Reg} {E : Nat → En} {w : World} (h : SK sb mb L E w) (s t : ByteArray) (ht : okTx t.data.toList = true) (hn : okNm s.data.toList = true) (hz : (entOf L E s.data.toList).tx.size ≤ 2000) (hl : 2000 < (entOf L E s.data.toList).tx.size + t.size) :
    Calls Try.prog 12 #[BP sb, .string s, .string t] w fun e w' => e = .returned (.int .i64 2) ∧ Below w.heap.size w w' := by
  have HV := Lib.hid (fun W => validText_any t W)
  have htz := okTx_size ht
  rw [ht] at HV
  have HF := Lib.hid (find_ok h s hn)
  obtain ⟨⟨kd, tx, lo, ln, lc⟩, hen⟩ : ∃ en, en = entOf L E s.data.toList := ⟨_, rfl⟩
  rw [← hen] at HF hz hl
  unfold enA at HF
  simp only at HF hz hl
  have d1 : decide ((2000 : Int) < (tx.size : Int) + (t.size : Int)) = true := decide_eq_true (by omega)
  clear h ht hn hen hl
  go_enter Try.func12, Try.ntmps12
  go_wp2_with fail
  refine (HV.out _).mono ?_
  rintro e w1 ⟨rfl, rfl⟩
  go_wp2_with fail
  refine HF.out.mono ?_
  rintro e w2 ⟨rfl, hb⟩
  have HB := Lib.hid (hb.alloc hb.size (.cells #[.int .i64 kd, .string tx, .slice lo ln lc] 59))
  have hsz := hb.size
  clear hb
  go_wp2_with fail
  go_ret
  exact ⟨rfl, HB.out⟩
/-- Append comes to put. -/
theorem append_put {sb mb : Nat} {L : List Reg} {E : Nat → En} {w : World} (h : SK sb mb L E w) (s t : ByteArray) (ht : okTx t.data.toList = true) (hn : okNm s.data.toList = true) (hz : (entOf L E s.data.toList).tx.size ≤ 2000) (hl : (entOf L E s.data.toList).tx.size + t.size ≤ 2000) (c : Int) (R : World → World → Prop)
    (hP : ∀ W, Below w.heap.size w W → Calls Try.prog 31 #[BP sb, .string s, .agg #[.int .i64 1, .string ((entOf L E s.data.toList).tx ++ t), .slice none 0 0]] W fun e w' => e = .returned (.int .i64 c) ∧ R W w') :
    Calls Try.prog 12 #[BP sb, .string s, .string t] w fun e w' => e = .returned (.int .i64 c) ∧ ∃ W, Below w.heap.size w W ∧ R W w' := by
  have HV := Lib.hid (fun W => validText_any t W)
  have htz := okTx_size ht
  rw [ht] at HV
  have HF := Lib.hid (find_ok h s hn)
  have HP := Lib.hid hP
  obtain ⟨⟨kd, tx, lo, ln, lc⟩, hen⟩ : ∃ en, en = entOf L E s.data.toList := ⟨_, rfl⟩
  rw [← hen] at HF hz hl HP
  unfold enA at HF
  simp only at HF hz hl HP
  have d1 : decide ((2000 : Int) < (tx.size : Int) + (t.size : Int)) = false := decide_eq_false (by omega)
  clear h ht hn hen hl hP
  go_enter Try.func12, Try.ntmps12
  go_wp2_with fail
  refine (HV.out _).mono ?_
  rintro e w1 ⟨rfl, rfl⟩
  go_wp2_with fail
  refine HF.out.mono ?_
  rintro e w2 ⟨rfl, hb⟩
  have HB := Lib.hid (hb.alloc hb.size (.cells #[.int .i64 kd, .string tx, .slice lo ln lc] 59))
  have hsz := hb.size
  clear hb
  go_wp2_with fail
  refine (HP.out _ HB.out).mono ?_
  rintro e w3 ⟨rfl, hR⟩
  have HR := Lib.hid hR
  clear hR
  go_wp2_with fail
  go_ret
  exact ⟨rfl, _, HB.out, HR.out⟩
end Go.Proofs.Ytgpanlkcpnlejaa
