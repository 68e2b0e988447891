/- The code's book: Format, Has; decimal names. -/
import Derived.Test.YtedbdpklliaoaaaGreatDoorB5
import Derived.Test.YtedbdpklliaoaaaGreatDoorNames
namespace Go.Proofs.YtedbdpklliaoaaaGreatDoor
open Go.RowKit Go.Shelf Go.Maps
set_option maxRecDepth 100000
theorem format_call {bb mb : Nat} {L : List Reg} {w : World} (h : BK bb mb L w) (s n : ByteArray) (hn9 : n.size ≤ 9223372036854775807) : Calls Tryz.prog 19 #[BP bb, .string s, .string n] w fun e w' => e = .returned (.int .i64 (chgS L s.data.toList (eForm n.data.toList) (setFm n.data.toList)).1) ∧ BK bb mb (chgS L s.data.toList (eForm n.data.toList) (setFm n.data.toList)).2 w' ∧ Kept (· = mb) w w' := by
  have key : ∀ W : World, BK bb mb L W → ∀ cb, W.cell? ⟨cb, 0, none⟩ = some (.string n) → cb < W.heap.size → Calls Tryz.prog 38 #[BP bb, .string s, .int .i64 (eForm n.data.toList), FnV 43 cb] W fun e w' => e = .returned (.int .i64 (chgS L s.data.toList (eForm n.data.toList) (setFm n.data.toList)).1) ∧ BK bb mb (chgS L s.data.toList (eForm n.data.toList) (setFm n.data.toList)).2 w' ∧ Kept (· = mb) W w' := by
    intro W h0 cb hc0 hcb
    have hlen := h0.len
    cases hn : okNm s.data.toList with
    | false =>
      rw [show chgS L s.data.toList (eForm n.data.toList) (setFm n.data.toList) = (6, L) by unfold chgS; rw [if_pos hn]]
      exact (change_bad h0 s _ _ hn).mono fun e w' ⟨he, hb⟩ => ⟨he, h0.below hb, .of hb⟩
    | true =>
      rcases eForm_cases n.data.toList with ⟨he, hv⟩ | ⟨he, hv⟩
      · rw [he]
        rcases full_cases L s.data.toList hlen with ⟨h1, h2⟩ | h1
        · rw [show chgS L s.data.toList 0 (setFm n.data.toList) = (9, L) by unfold chgS; rw [if_neg (by rw [hn]; decide), if_neg (by decide), if_pos ⟨h1, h2⟩]]
          exact (change_full h0 s _ hn h1 h2).mono fun e w' ⟨he, hb⟩ => ⟨he, h0.below hb, .of hb⟩
        · rw [show chgS L s.data.toList 0 (setFm n.data.toList) = (0, putS L ((setFm n.data.toList) (getS L s.data.toList))) by
            unfold chgS; rw [if_neg (by rw [hn]; decide), if_neg (by decide), if_neg (by rintro ⟨a, b⟩; rcases h1 with h1 | h1; rw [a] at h1; cases h1; omega)]]
          exact change_format h0 s cb n hn h1 hv hc0 hcb
      · rw [show chgS L s.data.toList (eForm n.data.toList) (setFm n.data.toList) = (eForm n.data.toList, L) by unfold chgS; rw [if_neg (by rw [hn]; decide), if_pos (by rw [he]; decide)]]
        exact (change_wrong h0 s _ _ hn (by rw [he]; decide)).mono fun e w' ⟨he, hb⟩ => ⟨he, h0.below hb, .of hb⟩
  have hb0 : Below w.heap.size w (w.alloc (.cells #[.string n] 9)) := (Below.refl _ _).alloc (Nat.le_refl _) _
  have HB0 := Lib.hid hb0
  have H := Lib.hid h
  have HKEY := Lib.hid key
  have HF := Lib.hid (fun W => formError_any n W hn9)
  obtain ⟨e0, he0⟩ : ∃ e0, e0 = eForm n.data.toList := ⟨_, rfl⟩
  rw [← he0] at HKEY HF ⊢
  clear h hb0 key hn9 he0
  go_enter Tryz.func19, Tryz.ntmps19
  go_wp2_with fail
  refine (HF.out _).mono ?_
  rintro e w1 ⟨rfl, hb⟩
  have HB1 := Lib.hid (HB0.out.trans (hb.mono (by simp)))
  have hcell : w1.cell? ⟨w.heap.size, 0, none⟩ = some (.string n) := by rw [hb.cell (p := ⟨w.heap.size, 0, none⟩) (by simp)]; simp [go_sem]
  have hlt : w.heap.size < w1.heap.size := by have := hb.size; simp at this; omega
  have HCELL := Lib.hid hcell
  clear hb hcell
  go_wp2_with fail
  refine (HKEY.out _ (H.out.below HB1.out) _ HCELL.out hlt).mono ?_
  rintro e w2 ⟨rfl, hbk, hk⟩
  have HBK := Lib.hid hbk
  have HKK := Lib.hid ((Kept.of (S := (· = mb)) HB1.out).trans hk)
  clear hbk hk
  go_wp2_with fail
  go_ret
  exact ⟨rfl, HBK.out, HKK.out⟩
theorem has_call {bb mb : Nat} {L : List Reg} {w : World} (h : BK bb mb L w) (s : ByteArray) : Calls Tryz.prog 22 #[BP bb, .string s] w fun e w' => e = .returned (.bool (okNm s.data.toList && hasS L s.data.toList)) ∧ Below w.heap.size w w' := by
  cases hn : okNm s.data.toList with
  | false =>
    have HF := Lib.hid (find_bad h s hn)
    clear h hn
    go_enter Tryz.func22, Tryz.ntmps22
    go_wp2_with fail
    refine HF.out.mono ?_
    rintro e w1 ⟨rfl, hb⟩
    have HB := Lib.hid hb
    have hz := hb.size
    clear hb
    go_wp2_with fail
    go_ret
    exact ⟨rfl, HB.out.alloc hz _⟩
  | true =>
    have HF := Lib.hid (find_good h s hn _ rfl _ rfl)
    generalize getS L s.data.toList = r at HF
    generalize hasS L s.data.toList = t at HF ⊢
    clear h hn
    go_enter Tryz.func22, Tryz.ntmps22
    go_wp2_with fail
    refine HF.out.mono ?_
    rintro e w1 ⟨rfl, hb⟩
    have HB := Lib.hid hb
    have hz := hb.size
    clear hb
    go_wp2_with fail
    go_ret
    exact ⟨by simp, HB.out.alloc hz _⟩
/- Names in decimal. -/
def undec (l : List UInt8) : Nat := l.foldl (fun a c => a * 10 + (c.toNat - 48)) 0
theorem undec_snoc (l : List UInt8) (c : UInt8) : undec (l ++ [c]) = undec l * 10 + (c.toNat - 48) := by unfold undec; rw [List.foldl_append]; rfl
theorem undec_dec (n : Nat) : undec (dec n) = n := by
  induction n using Nat.strongRecOn with
  | _ n ih =>
    by_cases h : n < 10
    · rw [dec_small n h]
      unfold undec dgB
      simp only [List.foldl_cons, List.foldl_nil]
      rw [UInt8.toNat_ofNat']; omega
    · rw [dec_big n h, undec_snoc, ih _ (by omega)]
      unfold dgB; rw [UInt8.toNat_ofNat']; omega
theorem dec_inj {a b : Nat} (h : dec a = dec b) : a = b := by rw [← undec_dec a, ← undec_dec b, h]
def rNm (n : Nat) : List UInt8 := 114 :: dec n
theorem rNm_ok (n : Nat) (h : n < 1000000) : okNm (rNm n) = true := by
  have h1 := dec_len 6 n (by omega) (by omega)
  unfold okNm rNm
  rw [List.length_cons, decide_eq_true (by omega), decide_eq_true (by omega)]
  simp only [Bool.and_self, Bool.true_and, List.all_cons]
  rw [Bool.and_eq_true]
  refine ⟨by decide, ?_⟩
  rw [List.all_eq_true]
  intro c hc
  have := dec_digit n c hc
  unfold okB
  rw [decide_eq_true (by omega), decide_eq_true (by omega)]
  have : (c == 93) = false := by
    rw [beq_eq_false_iff_ne]; rintro rfl; simp at this
  rw [this]; rfl
theorem decimal_any (N : Nat) (hN : N ≤ 1000000) (w : World) : Calls Tryz.prog 24 #[.int .i64 N] w fun e w' => e = .returned (.string ⟨(dec N).toArray⟩) ∧ Below w.heap.size w w' := by
  have d1 : decide ((N : Int) < -9223372036854775807) = false := decide_eq_false (by omega)
  have d2 : decide ((N : Int) < 0) = false := decide_eq_false (by omega)
  have HD := Lib.hid (digits_str N (by omega) w)
  go_enter Tryz.func24, Tryz.ntmps24
  go_wp2_with fail
  refine HD.out.mono ?_
  rintro e w1 ⟨rfl, hb⟩
  have HB := Lib.hid hb
  clear hb
  go_wp2_with fail
  go_ret
  exact ⟨rfl, HB.out⟩
/-- The book behind k registers of decimal names. -/
def NmIs (L : List Reg) (a k : Nat) : Prop := L.length = k ∧ ∀ nm, hasS L nm = true ↔ ∃ j, j < k ∧ nm = rNm (a + j)
theorem NmIs.zero (a : Nat) : NmIs [] a 0 := ⟨rfl, fun nm => ⟨(fun h => by cases h), fun ⟨j, hj, _⟩ => by omega⟩⟩
theorem NmIs.not {L : List Reg} {a k : Nat} (h : NmIs L a k) : hasS L (rNm (a + k)) = false := by
  cases e : hasS L (rNm (a + k)) with
  | false => rfl
  | true =>
    obtain ⟨j, hj, he⟩ := (h.2 _).1 e
    have := dec_inj (List.cons.inj he).2
    omega
theorem NmIs.step {L : List Reg} {a k : Nat} (h : NmIs L a k) (hA : Asc L) (r : Reg) (hr : r.nm = rNm (a + k)) : NmIs (putS L r) a (k + 1) := by
  refine ⟨?_, fun nm => ?_⟩
  · rw [len_put L r hA, hr, h.not]; simp [h.1]
  · rw [hasS_put, Bool.or_eq_true, h.2, beq_iff_eq, hr]
    constructor
    · rintro (rfl | ⟨j, hj, rfl⟩)
      · exact ⟨k, by omega, rfl⟩
      · exact ⟨j, by omega, rfl⟩
    · rintro ⟨j, hj, rfl⟩
      by_cases e : j = k
      · subst e; exact .inl rfl
      · exact .inr ⟨j, by omega, rfl⟩
theorem NmIs.more {L : List Reg} {a k : Nat} (h : NmIs L a k) : hasS L [109, 111, 114, 101] = false := by
  cases e : hasS L [109, 111, 114, 101] with
  | false => rfl
  | true =>
    obtain ⟨j, hj, he⟩ := (h.2 _).1 e
    exact absurd (List.cons.inj he).1 (by decide)
end Go.Proofs.YtedbdpklliaoaaaGreatDoor
