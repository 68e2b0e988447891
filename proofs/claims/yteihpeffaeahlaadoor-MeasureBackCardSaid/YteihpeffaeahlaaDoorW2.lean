/- Contracts of the reader's loops over bytes. -/
import Derived.Test.YteihpeffaeahlaaDoorW1
import Derived.Deep.LoopGhost
namespace Go.Proofs.YteihpeffaeahlaaDoor
open Go.RowKit
set_option maxRecDepth 100000
section
variable {b : Nat} {r : RS} {p dp wh : Nat} {w : World}
def SkR (b : Nat) (r : RS) (dp wh : Nat) (w : World) (fin : Nat) (k : Nat) (wr : World) : Prop :=
  ∃ q, Has 64 b r q dp wh wr ∧ Own b w wr ∧ blanks r.l k q = fin ∧ k = r.l.length - q ∧ q ≤ r.l.length
theorem skip_any (h : Has 64 b r p dp wh w) (hl : r.s.size ≤ 9223372036854775807) (hp : p ≤ r.l.length) :
    Calls Tryd.prog 68 #[RP b] w fun e w' => e = .returned (.tuple #[]) ∧ Has 64 b r (skipS r.l dp p) dp wh w' ∧ Own b w w' := by
  by_cases hd0 : dp = 0
  · have h6 := h.c6
    have hx : Has 64 b r (skipS r.l dp p) dp wh w ∧ Own b w w := ⟨by unfold skipS; rw [if_pos hd0]; exact h, Own.refl _ _⟩
    have HX := Lib.hid hx
    clear hx h
    have hd : decide ((0 : Int) < (dp : Int)) = false := by simp; omega
    subst hd0
    go_enter Tryd.func68, Tryd.ntmps68
    go_wp2
    go_loopg [2] 1 (fun k v wr => wr = w)
    case atStart => rfl
    case round =>
      subst hrel
      go_wp2_with fail
      all_goals (go_end0; exact ⟨rfl, HX.out⟩)
  · have hd : 0 < dp := by omega
    have hst : SkR b r dp wh w (skipS r.l dp p) (r.l.length - p) w := ⟨p, h, Own.refl _ _, by unfold skipS; rw [if_neg hd0], rfl, hp⟩
    have HL := Lib.hid hl
    clear h hl hd0
    go_enter Tryd.func68, Tryd.ntmps68
    go_wp2
    go_loopg [2] (r.l.length - p) (fun k v wr => SkR b r dp wh w (skipS r.l dp p) k wr)
    case atStart => exact hst
    case round =>
      obtain ⟨q, hh, ho, hb, hk, hq⟩ := hrel
      have h6 := hh.c6
      by_cases hc : r.l[q]? = some 32
      · have hql := (List.getElem?_eq_some_iff.1 hc).1
        have HH := Lib.hid hh
        have HC := Lib.hid hc
        have HO := Lib.hid ho
        have HB := Lib.hid hb
        have HK := Lib.hid hk
        clear hh hc ho hb hk hst hp
        go_wp2_with fail
        refine (take_yes 32 HH.out HL.out HC.out).mono ?_
        rintro e w' ⟨rfl, hh', ho'⟩
        have HH' := Lib.hid hh'
        have HO' := Lib.hid ho'
        clear hh' ho'
        go_wp2_with fail
        go_roundg (gk - 1)
        case measure => have := HK.out; omega
        case rel =>
          have hk := HK.out
          refine ⟨q + 1, HH'.out, HO.out.trans HO'.out, ?_, by omega, by omega⟩
          have hb := HB.out
          obtain ⟨k', rfl⟩ : ∃ k', gk = k' + 1 := ⟨gk - 1, by omega⟩
          rw [blanks, if_pos HC.out] at hb
          exact hb
      · have HH := Lib.hid hh
        have HC := Lib.hid hc
        have hfin : q = skipS r.l dp p := by
          rw [← hb]
          cases gk with
          | zero => rfl
          | succ n => rw [blanks, if_neg hc]
        have hx : Has 64 b r (skipS r.l dp p) dp wh wr ∧ Own b w wr := by rw [← hfin]; exact ⟨hh, ho⟩
        have HX := Lib.hid hx
        clear hh hc ho hb hk hst hp hx hfin
        go_wp2_with fail
        refine (take_no 32 HH.out HL.out HC.out).mono ?_
        rintro e w' ⟨rfl, n, rfl⟩
        go_wp2_with fail
        go_end0
        exact ⟨rfl, HX.out.1.drewN n, HX.out.2.drewN n⟩

/- digits -/
theorem isDigit_is (c : UInt8) (t : Bool) (h : isDg c = t) (w : World) : Calls Tryd.prog 76 #[.int .u8 c.toNat] w fun e w' => e = .returned (.bool t) ∧ w' = w := by
  subst h; exact isDigit_any c w
def DgR (b : Nat) (r : RS) (p dp wh : Nat) (w : World) (k : Nat) (v c : Value) (wr : World) : Prop :=
  ∃ i, i ≤ 9 ∧ k + i = 9 ∧ (∀ j, j < i → dg r.l (p + j) = true) ∧ v = .int .i64 (dval r.l p i) ∧ c = .int .i64 i ∧ Has 64 b r (p + i) dp wh wr ∧ Own b w wr
theorem digits_any (h : Has 64 b r p dp wh w) (hl : r.s.size ≤ 9223372036854775807) :
    Calls Tryd.prog 75 #[RP b] w fun e w' => e = .returned (.tuple #[.int .i64 (dval r.l p (cnt r.l 9 p)), .int .i64 (cnt r.l 9 p)]) ∧ Has 64 b r (p + cnt r.l 9 p) dp wh w' ∧ Own b w w' := by
  have hst : DgR b r p dp wh w 9 (.int .i64 0) (.int .i64 0) w := ⟨0, by omega, by omega, fun _ h => absurd h (by omega), rfl, rfl, h, Own.refl _ _⟩
  have HL := Lib.hid hl
  clear h hl
  go_enter Tryd.func75, Tryd.ntmps75
  go_wp2
  go_loopg [2, 3] 9 (fun k v c wr => DgR b r p dp wh w k v c wr)
  case atStart => exact hst
  case round =>
    obtain ⟨i, hi, hk, hd, rfl, rfl, hh, ho⟩ := hrel
    have HD := Lib.hid hd
    have HO := Lib.hid ho
    have HK := Lib.hid hk
    clear hd ho hk hst
    by_cases h9 : i = 9
    · subst h9
      have e : cnt r.l 9 p = 9 := cnt_eq _ _ _ _ (Nat.le_refl _) HD.out (Or.inl rfl)
      have HE := Lib.hid e
      have HH := Lib.hid hh
      clear e hh
      go_wp2_with fail
      go_quiet (fail)
      go_wp2_with fail
      go_ret2
      rw [HE.out]
      exact ⟨rfl, HH.out.drewN _, HO.out.drewN _⟩
    · have hd9 : i < 9 := by omega
      have hdi : decide ((i : Int) < 9) = true := by simp; omega
      obtain ⟨q, hq⟩ : ∃ q, q = p + i := ⟨_, rfl⟩
      rw [← hq] at hh
      have HQ := Lib.hid hq
      clear hq
      have h0 := hh.c0
      have h1 := hh.c1
      have hf := hh.fz 1
      have HH := Lib.hid hh
      clear hh h9
      by_cases hlt : q < r.s.size
      · have hdl : decide (q < r.s.size) = true := decide_eq_true hlt
        have hls := HL.out
        have hb := byte_at r.s q hlt
        by_cases hdg : isDg r.s[q] = true
        · have hlo : 48 ≤ (r.s[q]).toNat ∧ (r.s[q]).toNat ≤ 57 := by simpa [isDg] using hdg
          have hv := dval_lt r.l p i HD.out
          have hv2 : dval r.l p i < 1000000000 := Nat.lt_of_lt_of_le hv (Nat.pow_le_pow_right (by omega) (by omega : i ≤ 9))
          have HB := Lib.hid hb
          have HG := Lib.hid hdg
          clear hb hdg hv
          go_wp2_with fail
          go_quiet ((go_at_call 76; exact Calls.quiet_of_same (isDigit_is _ _ HG.out _)))
          go_wp2_with fail
          go_quiet (fail)
          go_wp2_with fail
          go_roundg (8 - i)
          case measure => have := HK.out; omega
          case rel =>
            have hk := HK.out
            have hq := HQ.out
            have hb : r.l[p + i]? = some r.s[q] := by rw [← hq]; exact HB.out
            have hv3 : dgv r.l (p + i) = (r.s[q]).toNat - 48 := by unfold dgv; rw [hb]; rfl
            refine ⟨i + 1, by omega, by omega, ?_, ?_, by go_num, ?_, ?_⟩
            · intro j hj
              by_cases e : j = i
              · subst e; unfold dg; rw [hb]; exact HG.out
              · exact HD.out j (by omega)
            · rw [dval, hv3]; congr 1; omega
            · rw [show p + (i + 1) = q + 1 by omega]
              exact (HH.out.drewN _).set1 (q + 1)
            · exact (HO.out.drewN _).setCell 1 _
        · have hdg' : isDg r.s[q] = false := by simpa using hdg
          have hfin : cnt r.l 9 p = i := cnt_eq _ _ _ _ (by omega) HD.out (Or.inr (by rw [← HQ.out]; unfold dg RS.l; rw [hb]; exact hdg'))
          have HG := Lib.hid hdg'
          have HE := Lib.hid hfin
          clear hb hdg hdg' hfin
          go_wp2_with fail
          go_quiet ((go_at_call 76; exact Calls.quiet_of_same (isDigit_is _ _ HG.out _)))
          go_wp2_with fail
          go_ret2
          rw [HE.out, ← HQ.out]
          exact ⟨rfl, HH.out.drewN _, HO.out.drewN _⟩
      · have hdl : decide (q < r.s.size) = false := decide_eq_false hlt
        have hfin : cnt r.l 9 p = i := cnt_eq _ _ _ _ (by omega) HD.out (Or.inr (by rw [← HQ.out]; unfold dg RS.l; rw [byte_none _ _ (by omega)]))
        have HE := Lib.hid hfin
        clear hfin
        go_wp2_with fail
        go_quiet (fail)
        go_wp2_with fail
        go_ret2
        rw [HE.out, ← HQ.out]
        exact ⟨rfl, HH.out.drewN _, HO.out.drewN _⟩
end
end Go.Proofs.YteihpeffaeahlaaDoor
