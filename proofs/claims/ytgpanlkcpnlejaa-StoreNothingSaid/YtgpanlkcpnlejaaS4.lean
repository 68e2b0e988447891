/- The code's store: Define, Append, Text, Kind, Alias, Rename, Remove. -/
import Derived.Test.YtgpanlkcpnlejaaS3
namespace Go.Proofs.Ytgpanlkcpnlejaa
open Go.RowKit Go.Maps
set_option maxRecDepth 100000
theorem define_arg {sb mb : Nat} {L : List Reg} {E : Nat → En} {w : World} (h : SK sb mb L E w) (s t : ByteArray) (ht : okTx t.data.toList = false) :
    Calls Try.prog 11 #[BP sb, .string s, .string t] w fun e w' => e = .returned (.int .i64 1) ∧ Below w.heap.size w w' := by
  have HV := Lib.hid (fun W => validText_any t W)
  rw [ht] at HV
  have HF := Lib.hid (find_arg h s)
  clear h ht
  go_enter Try.func11, Try.ntmps11
  go_wp2_with fail
  refine (HV.out _).mono ?_
  rintro e w1 ⟨rfl, rfl⟩
  go_wp2_with fail
  refine HF.out.mono ?_
  rintro e w2 ⟨rfl, hb⟩
  have HB := Lib.hid hb
  have hz := hb.size
  clear hb
  go_wp2_with fail
  go_ret
  exact ⟨rfl, HB.out.alloc hz _⟩
theorem define_bad {sb mb : Nat} {L : List Reg} {E : Nat → En} {w : World} (h : SK sb mb L E w) (s t : ByteArray) (ht : okTx t.data.toList = true) (hn : okNm s.data.toList = false) :
    Calls Try.prog 11 #[BP sb, .string s, .string t] w fun e w' => e = .returned (.int .i64 6) ∧ Below w.heap.size w w' := by
  have HV := Lib.hid (fun W => validText_any t W)
  rw [ht] at HV
  have HF := Lib.hid (find_bad h s hn)
  clear h ht hn
  go_enter Try.func11, Try.ntmps11
  go_wp2_with fail
  refine (HV.out _).mono ?_
  rintro e w1 ⟨rfl, rfl⟩
  go_wp2_with fail
  refine HF.out.mono ?_
  rintro e w2 ⟨rfl, hb⟩
  have HB := Lib.hid hb
  have hz := hb.size
  clear hb
  go_wp2_with fail
  go_ret
  exact ⟨rfl, HB.out.alloc hz _⟩
/-- Define comes to put. -/
theorem define_put {sb mb : Nat} {L : List Reg} {E : Nat → En} {w : World} (h : SK sb mb L E w) (s t : ByteArray) (ht : okTx t.data.toList = true) (hn : okNm s.data.toList = true) (c : Int) (R : World → World → Prop)
    (hP : ∀ W, Below w.heap.size w W → Calls Try.prog 31 #[BP sb, .string s, .agg #[.int .i64 1, .string t, .slice none 0 0]] W fun e w' => e = .returned (.int .i64 c) ∧ R W w') :
    Calls Try.prog 11 #[BP sb, .string s, .string t] w fun e w' => e = .returned (.int .i64 c) ∧ ∃ W, Below w.heap.size w W ∧ R W w' := by
  have HV := Lib.hid (fun W => validText_any t W)
  rw [ht] at HV
  have HF := Lib.hid (find_ok h s hn)
  have HP := Lib.hid hP
  obtain ⟨⟨kd, tx, lo, ln, lc⟩, hen⟩ : ∃ en, en = entOf L E s.data.toList := ⟨_, rfl⟩
  rw [← hen] at HF
  unfold enA at HF
  simp only at HF
  clear h ht hn hP hen
  go_enter Try.func11, Try.ntmps11
  go_wp2_with fail
  refine (HV.out _).mono ?_
  rintro e w1 ⟨rfl, rfl⟩
  go_wp2_with fail
  refine HF.out.mono ?_
  rintro e w2 ⟨rfl, hb⟩
  have HB := Lib.hid (hb.alloc hb.size (.cells #[.int .i64 kd, .string tx, .slice lo ln lc] 59))
  have hz := hb.size
  clear hb
  go_wp2_with fail
  refine (HP.out _ HB.out).mono ?_
  rintro e w3 ⟨rfl, hR⟩
  have HR := Lib.hid hR
  clear hR
  go_wp2_with fail
  go_ret
  exact ⟨rfl, _, HB.out, HR.out⟩
/-- Define of a name that is there. -/
theorem define_old {sb mb : Nat} {L : List Reg} {E : Nat → En} {w : World} (h : SK sb mb L E w) (s t : ByteArray) (ht : okTx t.data.toList = true) (hn : okNm s.data.toList = true) (hh : hasS L s.data.toList = true) :
    Calls Try.prog 11 #[BP sb, .string s, .string t] w fun e w' => e = .returned (.int .i64 0) ∧ SK sb mb L (upd E (getS L s.data.toList).v ⟨1, t, none, 0, 0⟩) w' ∧ Kept (· = (getS L s.data.toList).v) w w' :=
  (define_put h s t ht hn 0 (fun W w' => SK sb mb L (upd E (getS L s.data.toList).v ⟨1, t, none, 0, 0⟩) w' ∧ Kept (· = (getS L s.data.toList).v) W w') (fun W hW => put_old (h.below hW) s 1 t none 0 0 (size_ok hn) hh)).mono
    fun _ _ ⟨a, W, hW, b, k⟩ => ⟨a, b, (Kept.of hW).trans k⟩
theorem Kept.fresh {S : Nat → Prop} {u v w : World} {g : Nat} (h : Below u.heap.size u v) (k : Kept (fun x => S x ∨ x = g) v w) (hg : u.heap.size ≤ g) : Kept S u w :=
  ⟨k.os.trans h.os, k.tape.trans h.tape, k.output.trans h.output, Nat.le_trans h.size k.size, fun i hi hs => (k.block i (Nat.lt_of_lt_of_le hi h.size) (by rintro (e | e); exact hs e; omega)).trans (h.block i hi)⟩
theorem define_new {sb mb : Nat} {L : List Reg} {E : Nat → En} {w : World} (h : SK sb mb L E w) (s t : ByteArray) (ht : okTx t.data.toList = true) (hn : okNm s.data.toList = true) (hh : hasS L s.data.toList = false) (hl : L.length < 500) :
    Calls Try.prog 11 #[BP sb, .string s, .string t] w fun e w' => e = .returned (.int .i64 0) ∧ (∃ b, w.heap.size ≤ b ∧ SK sb mb (putS L ⟨s.data.toList, b⟩) (upd E b ⟨1, t, none, 0, 0⟩) w') ∧ Kept (· = mb) w w' :=
  (define_put h s t ht hn 0 (fun W w' => SK sb mb (putS L ⟨s.data.toList, W.heap.size⟩) (upd E W.heap.size ⟨1, t, none, 0, 0⟩) w' ∧ Kept (· = mb) W w') (fun W hW => put_new (h.below hW) s 1 t none 0 0 hn hh hl)).mono
    fun _ _ ⟨a, W, hW, b, k⟩ => ⟨a, ⟨_, hW.size, b⟩, (Kept.of hW).trans k⟩
theorem define_full {sb mb : Nat} {L : List Reg} {E : Nat → En} {w : World} (h : SK sb mb L E w) (s t : ByteArray) (ht : okTx t.data.toList = true) (hn : okNm s.data.toList = true) (hh : hasS L s.data.toList = false) (hl : L.length = 500) :
    Calls Try.prog 11 #[BP sb, .string s, .string t] w fun e w' => e = .returned (.int .i64 9) ∧ Below w.heap.size w w' :=
  (define_put h s t ht hn 9 (fun W w' => Below W.heap.size W w') (fun W hW => put_full (h.below hW) s 1 t none 0 0 hn hh hl)).mono
    fun _ _ ⟨a, W, hW, k⟩ => ⟨a, hW.trans (k.mono hW.size)⟩
/- Text. -/
theorem text_yes {sb mb : Nat} {L : List Reg} {E : Nat → En} {w : World} (h : SK sb mb L E w) (s : ByteArray) (hs : s.size ≤ maxLen) (hh : hasS L s.data.toList = true) (hk : (E (getS L s.data.toList).v).kind = 1) :
    Calls Try.prog 13 #[BP sb, .string s] w fun e w' => e = .returned (.tuple #[.string (E (getS L s.data.toList).v).tx, .int .i64 0]) ∧ w = w' := by
  have HG := Lib.hid (get_yes h s hs hh)
  have hre := h.ent _ (getS_mem L _ hh)
  obtain ⟨r, hr⟩ : ∃ r, r = getS L s.data.toList := ⟨_, rfl⟩
  rw [← hr] at HG hre hk ⊢
  unfold EnAt enCs at hre
  rw [hk] at hre
  obtain ⟨⟨c0, c1, c2⟩, _⟩ := fresh_en hre
  obtain ⟨tx, htx⟩ : ∃ tx, tx = (E r.v).tx := ⟨_, rfl⟩
  rw [← htx] at c1 ⊢
  clear h hs hh hr hre c2 htx hk
  go_enter Try.func13, Try.ntmps13
  go_wp2_with fail
  refine HG.out.mono ?_
  rintro e w1 ⟨rfl, rfl⟩
  go_wp2_with fail
  go_ret2
  exact ⟨rfl, rfl⟩
theorem text_kind {sb mb : Nat} {L : List Reg} {E : Nat → En} {w : World} (h : SK sb mb L E w) (s : ByteArray) (hs : s.size ≤ maxLen) (hh : hasS L s.data.toList = true) (hk : ((E (getS L s.data.toList).v).kind == 1) = false) :
    Calls Try.prog 13 #[BP sb, .string s] w fun e w' => e = .returned (.tuple #[.string ⟨#[]⟩, .int .i64 6]) ∧ w = w' := by
  have HG := Lib.hid (get_yes h s hs hh)
  have hre := h.ent _ (getS_mem L _ hh)
  obtain ⟨r, hr⟩ : ∃ r, r = getS L s.data.toList := ⟨_, rfl⟩
  rw [← hr] at HG hre hk
  unfold EnAt enCs at hre
  obtain ⟨⟨c0, c1, c2⟩, _⟩ := fresh_en hre
  obtain ⟨kd, hkd⟩ : ∃ kd, kd = (E r.v).kind := ⟨_, rfl⟩
  rw [← hkd] at c0 hk
  have hk2 : (kd != 1) = true := by simp [bne, hk]
  clear h hs hh hr hre c2 c1 hkd
  go_enter Try.func13, Try.ntmps13
  go_wp2_with fail
  refine HG.out.mono ?_
  rintro e w1 ⟨rfl, rfl⟩
  go_wp2_with fail
  go_ret2
  exact ⟨rfl, rfl⟩
theorem text_no {sb mb : Nat} {L : List Reg} {E : Nat → En} {w : World} (h : SK sb mb L E w) (s : ByteArray) (hs : s.size ≤ maxLen) (hh : hasS L s.data.toList = false) :
    Calls Try.prog 13 #[BP sb, .string s] w fun e w' => e = .returned (.tuple #[.string ⟨#[]⟩, .int .i64 6]) ∧ w = w' := by
  have HG := Lib.hid (get_no h s hs hh)
  clear h hs hh
  go_enter Try.func13, Try.ntmps13
  go_wp2_with fail
  refine HG.out.mono ?_
  rintro e w1 ⟨rfl, rfl⟩
  go_wp2_with fail
  go_ret2
  exact ⟨rfl, rfl⟩
/- Kind. -/
theorem kind_any {sb mb : Nat} {L : List Reg} {E : Nat → En} {w : World} (h : SK sb mb L E w) (s : ByteArray) :
    Calls Try.prog 22 #[BP sb, .string s] w fun e w' => e = .returned (.int .i64 (if okNm s.data.toList then (entOf L E s.data.toList).kind else 0)) ∧ Below w.heap.size w w' := by
  cases hn : okNm s.data.toList with
  | false =>
    have HF := Lib.hid (find_bad h s hn)
    clear h hn
    go_enter Try.func22, Try.ntmps22
    go_wp2_with fail
    refine HF.out.mono ?_
    rintro e w2 ⟨rfl, hb⟩
    have HB := Lib.hid hb
    have hz := hb.size
    clear hb
    go_wp2_with fail
    go_ret
    exact ⟨rfl, HB.out.alloc hz _⟩
  | true =>
    have HF := Lib.hid (find_ok h s hn)
    obtain ⟨⟨kd, tx, lo, ln, lc⟩, hen⟩ : ∃ en, en = entOf L E s.data.toList := ⟨_, rfl⟩
    rw [← hen] at HF ⊢
    unfold enA at HF
    simp only at HF
    clear h hn hen
    go_enter Try.func22, Try.ntmps22
    go_wp2_with fail
    refine HF.out.mono ?_
    rintro e w2 ⟨rfl, hb⟩
    have HB := Lib.hid hb
    have hz := hb.size
    clear hb
    go_wp2_with fail
    go_ret
    exact ⟨rfl, HB.out.alloc hz _⟩
/- Alias. -/
theorem alias_no {sb mb : Nat} {L : List Reg} {E : Nat → En} {w : World} (h : SK sb mb L E w) (f s : ByteArray) (hs : s.size ≤ maxLen) (hh : hasS L s.data.toList = false) :
    Calls Try.prog 20 #[BP sb, .string f, .string s] w fun e w' => e = .returned (.int .i64 6) ∧ w = w' := by
  have HG := Lib.hid (get_no h s hs hh)
  clear h hs hh
  go_enter Try.func20, Try.ntmps20
  go_wp2_with fail
  refine HG.out.mono ?_
  rintro e w1 ⟨rfl, rfl⟩
  go_wp2_with fail
  go_ret
  exact ⟨rfl, rfl⟩
theorem alias_bad {sb mb : Nat} {L : List Reg} {E : Nat → En} {w : World} (h : SK sb mb L E w) (f s : ByteArray) (hs : s.size ≤ maxLen) (hh : hasS L s.data.toList = true) (hn : okNm f.data.toList = false) :
    Calls Try.prog 20 #[BP sb, .string f, .string s] w fun e w' => e = .returned (.int .i64 6) ∧ Below w.heap.size w w' := by
  have HG := Lib.hid (get_yes h s hs hh)
  have HV := Lib.hid (fun W => validName_any f W)
  rw [hn] at HV
  clear h hs hh hn
  go_enter Try.func20, Try.ntmps20
  go_wp2_with fail
  refine HG.out.mono ?_
  rintro e w1 ⟨rfl, rfl⟩
  go_wp2_with fail
  refine (HV.out _).mono ?_
  rintro e w1 ⟨rfl, hb⟩
  have HB := Lib.hid hb
  clear hb
  go_wp2_with fail
  go_ret
  exact ⟨rfl, HB.out⟩
theorem alias_loop {sb mb : Nat} {L : List Reg} {E : Nat → En} {w : World} (h : SK sb mb L E w) (s : ByteArray) (hs : s.size ≤ maxLen) (hh : hasS L s.data.toList = true) (hn : okNm s.data.toList = true) :
    Calls Try.prog 20 #[BP sb, .string s, .string s] w fun e w' => e = .returned (.int .i64 12) ∧ Below w.heap.size w w' := by
  have HG := Lib.hid (get_yes h s hs hh)
  have HV := Lib.hid (fun W => validName_any s W)
  rw [hn] at HV
  clear h hs hh hn
  go_enter Try.func20, Try.ntmps20
  go_wp2_with fail
  refine HG.out.mono ?_
  rintro e w1 ⟨rfl, rfl⟩
  go_wp2_with fail
  refine (HV.out _).mono ?_
  rintro e w1 ⟨rfl, hb⟩
  have HB := Lib.hid hb
  clear hb
  go_wp2_with fail
  go_ret
  exact ⟨rfl, HB.out⟩
/-- Alias comes to give. -/
theorem alias_give {sb mb : Nat} {L : List Reg} {E : Nat → En} {w : World} (h : SK sb mb L E w) (f s : ByteArray) (hs : s.size ≤ maxLen) (hh : hasS L s.data.toList = true) (hn : okNm f.data.toList = true) (hne : (f.toList == s.toList) = false) (c : Int) (R : World → World → Prop)
    (hP : ∀ W, Below w.heap.size w W → Calls Try.prog 39 #[BP sb, .string f, BP (getS L s.data.toList).v] W fun e w' => e = .returned (.int .i64 c) ∧ R W w') :
    Calls Try.prog 20 #[BP sb, .string f, .string s] w fun e w' => e = .returned (.int .i64 c) ∧ ∃ W, Below w.heap.size w W ∧ R W w' := by
  have HG := Lib.hid (get_yes h s hs hh)
  have HV := Lib.hid (fun W => validName_any f W)
  rw [hn] at HV
  have HP := Lib.hid hP
  clear h hs hh hn hP
  go_enter Try.func20, Try.ntmps20
  go_wp2_with fail
  refine HG.out.mono ?_
  rintro e w1 ⟨rfl, rfl⟩
  go_wp2_with fail
  refine (HV.out _).mono ?_
  rintro e w1 ⟨rfl, hb⟩
  have HB := Lib.hid hb
  clear hb
  go_wp2_with fail
  refine (HP.out _ HB.out).mono ?_
  rintro e w2 ⟨rfl, hR⟩
  have HR := Lib.hid hR
  clear hR
  go_wp2_with fail
  go_ret
  exact ⟨rfl, _, HB.out, HR.out⟩
end Go.Proofs.Ytgpanlkcpnlejaa
