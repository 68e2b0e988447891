/- Contracts: the readings, and what a scale and a context must be. -/
import Derived.Test.YteihpeffaeahlaaDoorWB
namespace Go.Proofs.YteihpeffaeahlaaDoor
open Go.RowKit
set_option maxRecDepth 100000
section
variable {b : Nat} {r : RS} {p dp wh : Nat} {w : World}
theorem end_bad (h : Has 64 b r p dp wh w) (hr : Rok r) (hp : p < r.l.length) : Calls Tryd.prog 51 #[RP b] w fun e w' => e = thrown 4 ∧ ∃ n, w' = w.drewN n := by
  have c0 := h.c0
  have c1 := h.c1
  have hl := hr.hl7
  have hd : decide (p < r.s.size) = true := decide_eq_true (by rw [← Rok.len]; exact hp)
  clear h hr
  go_enter Tryd.func51, Tryd.ntmps51
  go_wp2_with fail
  go_quiet (fail)
  go_wp2_with fail
  refine (fail_form 4 rfl).mono ?_
  rintro e w1 ⟨rfl, rfl⟩
  exact ⟨rfl, rfl, _, rfl⟩
theorem end_ok (h : Has 64 b r p dp wh w) (hr : Rok r) (hp : ¬ p < r.l.length) : Calls Tryd.prog 51 #[RP b] w fun e w' => e = .returned (.tuple #[]) ∧ ∃ n, w' = w.drewN n := by
  have c0 := h.c0
  have c1 := h.c1
  have hl := hr.hl7
  have hd : decide (p < r.s.size) = false := decide_eq_false (by rw [← Rok.len]; exact hp)
  clear h hr
  go_enter Tryd.func51, Tryd.ntmps51
  go_wp2_with fail
  go_quiet (fail)
  go_wp2_with fail
  go_end0
  exact ⟨rfl, _, rfl⟩

/-- What a whole text is as an expression: the number and the error. -/
def evR (r : RS) : Int × Int := match ex r (2 * r.l.length + 3) 1 0 0 0 with
  | .error e => (0, e)
  | .ok (v, z) => if z < r.l.length then (0, 4) else (v, 0)
theorem onlyExpression_any (hr : Rok r) (hf : r.fm = false) (w : World) (h : Has 64 b r 0 0 wh w) (hT : Tab w) :
    Calls Tryd.prog 36 #[RP b] w (ReadP b r w fun n x _ => (n, x) = evR r) := by
  have H := Lib.hid h
  have HT := Lib.hid hT
  have HR := Lib.hid hr
  have HF := Lib.hid hf
  clear h hT hr hf
  go_enter Tryd.func36, Tryd.ntmps36
  go_wp2_with fail
  refine (exp_top HR.out (2 * r.l.length + 2) (fun k => (ex_all HR.out k).1) H.out HT.out (Nat.zero_le _) (by omega)).mono ?_
  rintro e w1 ⟨o1, hm⟩
  cases hR : ex r (2 * r.l.length + 2 + 1) 1 0 0 0 with
  | error x =>
    rw [hR] at hm
    obtain ⟨rfl, q, d, wh', hq, _⟩ := hm
    have e : evR r = (0, x) := by unfold evR; rw [hR]
    exact ⟨rfl, o1, 0, x, q, d, wh', by rw [e], hq, .inr ⟨rfl, rfl⟩⟩
  | ok vz =>
    obtain ⟨v, z⟩ := vz
    rw [hR] at hm
    simp only at hm
    rw [if_neg (by rw [HF.out]; decide)] at hm
    obtain ⟨rfl, hv, h1⟩ := hm
    have H1 := Lib.hid h1
    have O1 := Lib.hid o1
    have HRR := Lib.hid hR
    clear h1 o1 hR hv
    by_cases hz : z < r.l.length
    · have HZ := Lib.hid hz
      clear hz
      go_wp2_with fail
      refine (end_bad H1.out HR.out HZ.out).mono ?_
      rintro e w2 ⟨rfl, n, rfl⟩
      have e : evR r = (0, 4) := by unfold evR; rw [HRR.out]; simp only; rw [if_pos HZ.out]
      exact ⟨rfl, O1.out.drewN n, 0, 4, z, 0, z, by rw [e], H1.out.drewN n, .inr ⟨rfl, rfl⟩⟩
    · have HZ := Lib.hid hz
      clear hz
      go_wp2_with fail
      refine (end_ok H1.out HR.out HZ.out).mono ?_
      rintro e w2 ⟨rfl, n, rfl⟩
      go_wp2_with fail
      go_ret
      have e : evR r = (v, 0) := by unfold evR; rw [HRR.out]; simp only; rw [if_neg HZ.out]
      exact ⟨O1.out.drewN n, v, 0, z, 0, z, by rw [e], H1.out.drewN n, .inl ⟨rfl, rfl⟩⟩

/-- How far the form of a text reaches: the expression's end, or none. -/
def foR (r : RS) : Option Nat := match ex r (2 * r.l.length + 3) 1 0 0 0 with
  | .error _ => none
  | .ok (_, z) => some z
theorem form_any (hr : Rok r) (hf : r.fm = true) (w : World) (h : Has 64 b r 0 0 0 w) (hT : Tab w) :
    Calls Tryd.prog 37 #[RP b] w (ReadP b r w fun _ _ wh => wh = (foR r).getD 0) := by
  refine (exp_top hr (2 * r.l.length + 2) (fun k => (ex_all hr k).1) h hT (Nat.zero_le _) (by omega)).mono ?_
  rintro e w1 ⟨o1, hm⟩
  cases hR : ex r (2 * r.l.length + 2 + 1) 1 0 0 0 with
  | error x =>
    rw [hR] at hm
    obtain ⟨rfl, q, d, wh', hq, hw⟩ := hm
    have e : foR r = none := by unfold foR; rw [hR]
    exact ⟨o1, 0, x, q, d, wh', by rw [e]; exact hw hf, hq, .inr ⟨rfl, rfl⟩⟩
  | ok vz =>
    obtain ⟨v, z⟩ := vz
    rw [hR] at hm
    simp only at hm
    rw [if_pos hf] at hm
    obtain ⟨hu, q, d, hq⟩ := hm
    have e : foR r = some z := by unfold foR; rw [hR]
    rcases hu with ⟨u, rfl⟩ | ⟨x, rfl⟩
    · exact ⟨o1, u, 0, q, d, z, by rw [e]; rfl, hq, .inl ⟨rfl, rfl⟩⟩
    · exact ⟨o1, 0, x, q, d, z, by rw [e]; rfl, hq, .inr ⟨rfl, rfl⟩⟩

/-- What a whole text is as one number. -/
def nuR (r : RS) : Int × Int :=
  match numR r (if r.l[0]? = some 45 ∨ r.l[0]? = some 43 then 1 else 0) with
  | .error e => (0, e)
  | .ok (v, z) => if z < r.l.length then (0, 4) else (if r.l[0]? = some 45 then -v else v, 0)
theorem onlyNumber_any (hr : Rok r) (hf : r.fm = false) (w : World) (h : Has 64 b r 0 dp wh w) (hT : Tab w) :
    Calls Tryd.prog 38 #[RP b] w (ReadP b r w fun n x _ => (n, x) = nuR r) := by
  have H := Lib.hid h
  have HR := Lib.hid hr
  have HF := Lib.hid hf
  clear h hT hr hf
  by_cases h1 : r.l[0]? = some 45
  · have hi : (if r.l[0]? = some 45 ∨ r.l[0]? = some 43 then 1 else 0) = 1 := if_pos (.inl h1)
    have HI := Lib.hid hi
    have HM := Lib.hid h1
    have HP := Lib.hid (show 1 ≤ r.l.length from (List.getElem?_eq_some_iff.1 h1).1)
    clear h1 hi
    go_enter Tryd.func38, Tryd.ntmps38
    go_wp2_with fail
    refine (take_yes 45 H.out HR.out.hl7 HM.out).mono ?_
    rintro e w2 ⟨rfl, h2, o2⟩
    have H2 := Lib.hid h2
    have O2 := Lib.hid o2
    clear h2 o2
    go_wp2_with fail
    refine (number_opd H2.out HR.out HP.out).mono ?_
    rintro e w3 ⟨o3, hm⟩
    cases hR : numR r 1 with
    | error x =>
      rw [hR] at hm
      obtain ⟨rfl, q, d, hq⟩ := hm
      have e : nuR r = (0, x) := by unfold nuR; rw [HI.out, hR]
      exact ⟨rfl, O2.out.trans o3, 0, x, q, d, wh, by rw [e], hq, .inr ⟨rfl, rfl⟩⟩
    | ok vz =>
      obtain ⟨v, z⟩ := vz
      rw [hR] at hm
      obtain ⟨v', g1, g2, rfl, h3⟩ := hm
      obtain rfl : v' = v := g2 HF.out
      have hv : -1000000000 ≤ v' ∧ v' ≤ 1000000000 := g1
      have H3 := Lib.hid h3
      have O3 := Lib.hid o3
      have HRR := Lib.hid hR
      clear h3 o3 hR g1 g2
      by_cases hz : z < r.l.length
      · have HZ := Lib.hid hz
        clear hz
        go_wp2_with fail
        refine (end_bad H3.out HR.out HZ.out).mono ?_
        rintro e w4 ⟨rfl, n, rfl⟩
        have e : nuR r = (0, 4) := by unfold nuR; rw [HI.out, HRR.out]; simp only; rw [if_pos HZ.out]
        exact ⟨rfl, (O2.out.trans O3.out).drewN n, 0, 4, z, dp, wh, by rw [e], H3.out.drewN n, .inr ⟨rfl, rfl⟩⟩
      · have HZ := Lib.hid hz
        clear hz
        go_wp2_with fail
        refine (end_ok H3.out HR.out HZ.out).mono ?_
        rintro e w4 ⟨rfl, n, rfl⟩
        go_wp2_with fail
        go_ret
        have e : nuR r = (-v', 0) := by unfold nuR; rw [HI.out, HRR.out]; simp only; rw [if_neg HZ.out, if_pos HM.out]
        exact ⟨(O2.out.trans O3.out).drewN n, -v', 0, z, dp, wh, by rw [e], H3.out.drewN n, .inl ⟨rfl, rfl⟩⟩
  · by_cases h2 : r.l[0]? = some 43
    · have hi : (if r.l[0]? = some 45 ∨ r.l[0]? = some 43 then 1 else 0) = 1 := if_pos (.inr h2)
      have HI := Lib.hid hi
      have HM := Lib.hid h1
      have HM2 := Lib.hid h2
      have HP := Lib.hid (show 1 ≤ r.l.length from (List.getElem?_eq_some_iff.1 h2).1)
      clear h1 h2 hi
      go_enter Tryd.func38, Tryd.ntmps38
      go_wp2_with fail
      refine (take_no 45 H.out HR.out.hl7 HM.out).mono ?_
      rintro e w1 ⟨rfl, n1, rfl⟩
      go_wp2_with fail
      refine (take_yes 43 (H.out.drewN n1) HR.out.hl7 HM2.out).mono ?_
      rintro e w2 ⟨rfl, h2, o2⟩
      have H2 := Lib.hid h2
      have O2 := Lib.hid (((Own.refl b w).drewN n1).trans o2)
      clear h2 o2
      go_wp2_with fail
      refine (number_opd H2.out HR.out HP.out).mono ?_
      rintro e w3 ⟨o3, hm⟩
      cases hR : numR r 1 with
      | error x =>
        rw [hR] at hm
        obtain ⟨rfl, q, d, hq⟩ := hm
        have e : nuR r = (0, x) := by unfold nuR; rw [HI.out, hR]
        exact ⟨rfl, O2.out.trans o3, 0, x, q, d, wh, by rw [e], hq, .inr ⟨rfl, rfl⟩⟩
      | ok vz =>
        obtain ⟨v, z⟩ := vz
        rw [hR] at hm
        obtain ⟨v', g1, g2, rfl, h3⟩ := hm
        obtain rfl : v' = v := g2 HF.out
        have hv : -1000000000 ≤ v' ∧ v' ≤ 1000000000 := g1
        have H3 := Lib.hid h3
        have O3 := Lib.hid o3
        have HRR := Lib.hid hR
        clear h3 o3 hR g1 g2
        by_cases hz : z < r.l.length
        · have HZ := Lib.hid hz
          clear hz
          go_wp2_with fail
          refine (end_bad H3.out HR.out HZ.out).mono ?_
          rintro e w4 ⟨rfl, n, rfl⟩
          have e : nuR r = (0, 4) := by unfold nuR; rw [HI.out, HRR.out]; simp only; rw [if_pos HZ.out]
          exact ⟨rfl, (O2.out.trans O3.out).drewN n, 0, 4, z, dp, wh, by rw [e], H3.out.drewN n, .inr ⟨rfl, rfl⟩⟩
        · have HZ := Lib.hid hz
          clear hz
          go_wp2_with fail
          refine (end_ok H3.out HR.out HZ.out).mono ?_
          rintro e w4 ⟨rfl, n, rfl⟩
          go_wp2_with fail
          go_ret
          have e : nuR r = (v', 0) := by unfold nuR; rw [HI.out, HRR.out]; simp only; rw [if_neg HZ.out, if_neg HM.out]
          exact ⟨(O2.out.trans O3.out).drewN n, v', 0, z, dp, wh, by rw [e], H3.out.drewN n, .inl ⟨rfl, rfl⟩⟩
    · have hi : (if r.l[0]? = some 45 ∨ r.l[0]? = some 43 then 1 else 0) = 0 := if_neg (by rintro (h | h); exact h1 h; exact h2 h)
      have HI := Lib.hid hi
      have HM := Lib.hid h1
      have HM2 := Lib.hid h2
      have HP := Lib.hid (Nat.zero_le r.l.length)
      clear h1 h2 hi
      go_enter Tryd.func38, Tryd.ntmps38
      go_wp2_with fail
      refine (take_no 45 H.out HR.out.hl7 HM.out).mono ?_
      rintro e w1 ⟨rfl, n1, rfl⟩
      go_wp2_with fail
      refine (take_no 43 (H.out.drewN n1) HR.out.hl7 HM2.out).mono ?_
      rintro e w2 ⟨rfl, n2, rfl⟩
      have H2 := Lib.hid (H.out.drewN (n1 + n2))
      have O2 := Lib.hid ((Own.refl b w).drewN (n1 + n2))
      go_wp2_with fail
      refine (number_opd H2.out HR.out HP.out).mono ?_
      rintro e w3 ⟨o3, hm⟩
      cases hR : numR r 0 with
      | error x =>
        rw [hR] at hm
        obtain ⟨rfl, q, d, hq⟩ := hm
        have e : nuR r = (0, x) := by unfold nuR; rw [HI.out, hR]
        exact ⟨rfl, O2.out.trans o3, 0, x, q, d, wh, by rw [e], hq, .inr ⟨rfl, rfl⟩⟩
      | ok vz =>
        obtain ⟨v, z⟩ := vz
        rw [hR] at hm
        obtain ⟨v', g1, g2, rfl, h3⟩ := hm
        obtain rfl : v' = v := g2 HF.out
        have hv : -1000000000 ≤ v' ∧ v' ≤ 1000000000 := g1
        have H3 := Lib.hid h3
        have O3 := Lib.hid o3
        have HRR := Lib.hid hR
        clear h3 o3 hR g1 g2
        by_cases hz : z < r.l.length
        · have HZ := Lib.hid hz
          clear hz
          go_wp2_with fail
          refine (end_bad H3.out HR.out HZ.out).mono ?_
          rintro e w4 ⟨rfl, n, rfl⟩
          have e : nuR r = (0, 4) := by unfold nuR; rw [HI.out, HRR.out]; simp only; rw [if_pos HZ.out]
          exact ⟨rfl, (O2.out.trans O3.out).drewN n, 0, 4, z, dp, wh, by rw [e], H3.out.drewN n, .inr ⟨rfl, rfl⟩⟩
        · have HZ := Lib.hid hz
          clear hz
          go_wp2_with fail
          refine (end_ok H3.out HR.out HZ.out).mono ?_
          rintro e w4 ⟨rfl, n, rfl⟩
          go_wp2_with fail
          go_ret
          have e : nuR r = (v', 0) := by unfold nuR; rw [HI.out, HRR.out]; simp only; rw [if_neg HZ.out, if_neg HM.out]
          exact ⟨(O2.out.trans O3.out).drewN n, v', 0, z, dp, wh, by rw [e], H3.out.drewN n, .inl ⟨rfl, rfl⟩⟩

/- What a scale and a context must be. -/
def validP (k : UInt8) (sz vs hr : Int) : Prop := (unitK k sz vs).isSome = true ∧ cxOk sz vs ∧ ok9 hr
theorem unitOf_is (k : UInt8) (sz vs hr : Int) (h : (unitK k sz vs).isSome = true) (w : World) : Calls Tryd.prog 28 #[.int .u8 k.toNat, CX sz vs hr] w fun e w' => (∃ u, e = .returned (.tuple #[.int .i64 u, .bool true])) ∧ w' = w.alloc (CXo sz vs hr) := by
  unfold unitK at h
  by_cases h1 : k = 117
  · subst h1; exact (unitOf_117 sz vs hr w).mono fun _ _ h => ⟨⟨_, h.1⟩, h.2⟩
  rw [if_neg h1] at h
  by_cases h1 : k = 112
  · subst h1; exact (unitOf_112 sz vs hr w).mono fun _ _ h => ⟨⟨_, h.1⟩, h.2⟩
  rw [if_neg h1] at h
  by_cases h1 : k = 80
  · subst h1; exact (unitOf_80 sz vs hr w).mono fun _ _ h => ⟨⟨_, h.1⟩, h.2⟩
  rw [if_neg h1] at h
  by_cases h1 : k = 105
  · subst h1; exact (unitOf_105 sz vs hr w).mono fun _ _ h => ⟨⟨_, h.1⟩, h.2⟩
  rw [if_neg h1] at h
  by_cases h1 : k = 99
  · subst h1; exact (unitOf_99 sz vs hr w).mono fun _ _ h => ⟨⟨_, h.1⟩, h.2⟩
  rw [if_neg h1] at h
  by_cases h1 : k = 109
  · subst h1; exact (unitOf_109 sz vs hr w).mono fun _ _ h => ⟨⟨_, h.1⟩, h.2⟩
  rw [if_neg h1] at h
  by_cases h1 : k = 110
  · subst h1; exact (unitOf_110 sz vs hr w).mono fun _ _ h => ⟨⟨_, h.1⟩, h.2⟩
  rw [if_neg h1] at h
  by_cases h1 : k = 118
  · subst h1; exact (unitOf_118 sz vs hr w).mono fun _ _ h => ⟨⟨_, h.1⟩, h.2⟩
  rw [if_neg h1] at h
  cases h
theorem valid_unknown (k : UInt8) (sz vs hr : Int) (h : unitK k sz vs = none) (w : World) : Calls Tryd.prog 32 #[.int .u8 k.toNat, CX sz vs hr] w fun e w' => e = .returned (.bool false) ∧ w' = (w.alloc (CXo sz vs hr)).alloc (CXo sz vs hr) := by
  have HU := Lib.hid h
  clear h
  go_enter Tryd.func32, Tryd.ntmps32
  go_wp2_with (go_at_call 28; refine (unitOf_no k sz vs hr HU.out _).mono ?_; rintro e w' ⟨rfl, rfl⟩)
  go_ret
  exact ⟨rfl, rfl⟩
theorem valid_range (k : UInt8) (sz vs hr : Int) (h : (unitK k sz vs).isSome = true) (t : Bool) (ht : (cxOk sz vs ∧ ok9 hr) ↔ t = true) (w : World) : Calls Tryd.prog 32 #[.int .u8 k.toNat, CX sz vs hr] w fun e w' => e = .returned (.bool t) ∧ w' = (w.alloc (CXo sz vs hr)).alloc (CXo sz vs hr) := by
  have HU := Lib.hid h
  clear h
  unfold cxOk at ht
  by_cases a1 : 0 ≤ sz
  · have d1 : decide (0 ≤ sz) = true := decide_eq_true a1
    by_cases a2 : sz ≤ 1000000
    · have d2 : decide (sz ≤ 1000000) = true := decide_eq_true a2
      by_cases a3 : 0 ≤ vs
      · have d3 : decide (0 ≤ vs) = true := decide_eq_true a3
        by_cases a4 : vs ≤ 1000000
        · have d4 : decide (vs ≤ 1000000) = true := decide_eq_true a4
          have e : decide (ok9 hr) = t := by
            rw [Bool.eq_iff_iff, decide_eq_true_eq, ← ht]; exact ⟨fun h => ⟨⟨a1, a2, a3, a4⟩, h⟩, fun h => h.2⟩
          have HE := Lib.hid e
          clear ht e
          go_enter Tryd.func32, Tryd.ntmps32
          go_wp2_with (first | (go_at_call 28; refine (unitOf_is k sz vs hr HU.out _).mono ?_; rintro e w' ⟨⟨u, rfl⟩, rfl⟩) | (go_at_call 42; refine (inRange_any _ _).mono ?_; rintro e w' ⟨rfl, rfl⟩; rw [HE.out]))
          go_ret
          exact ⟨rfl, rfl⟩
        · have d4 : decide (vs ≤ 1000000) = false := decide_eq_false a4
          obtain rfl : t = false := by cases t with | false => rfl | true => have := ht.2 rfl; omega
          clear ht
          go_enter Tryd.func32, Tryd.ntmps32
          go_wp2_with (first | (go_at_call 28; refine (unitOf_is k sz vs hr HU.out _).mono ?_; rintro e w' ⟨⟨u, rfl⟩, rfl⟩))
          go_ret
          exact ⟨rfl, rfl⟩
      · have d3 : decide (0 ≤ vs) = false := decide_eq_false a3
        obtain rfl : t = false := by cases t with | false => rfl | true => have := ht.2 rfl; omega
        clear ht
        go_enter Tryd.func32, Tryd.ntmps32
        go_wp2_with (first | (go_at_call 28; refine (unitOf_is k sz vs hr HU.out _).mono ?_; rintro e w' ⟨⟨u, rfl⟩, rfl⟩))
        go_ret
        exact ⟨rfl, rfl⟩
    · have d2 : decide (sz ≤ 1000000) = false := decide_eq_false a2
      obtain rfl : t = false := by cases t with | false => rfl | true => have := ht.2 rfl; omega
      clear ht
      go_enter Tryd.func32, Tryd.ntmps32
      go_wp2_with (first | (go_at_call 28; refine (unitOf_is k sz vs hr HU.out _).mono ?_; rintro e w' ⟨⟨u, rfl⟩, rfl⟩))
      go_ret
      exact ⟨rfl, rfl⟩
  · have d1 : decide (0 ≤ sz) = false := decide_eq_false a1
    obtain rfl : t = false := by cases t with | false => rfl | true => have := ht.2 rfl; omega
    clear ht
    go_enter Tryd.func32, Tryd.ntmps32
    go_wp2_with (first | (go_at_call 28; refine (unitOf_is k sz vs hr HU.out _).mono ?_; rintro e w' ⟨⟨u, rfl⟩, rfl⟩))
    go_ret
    exact ⟨rfl, rfl⟩
theorem valid_any (k : UInt8) (sz vs hr : Int) (t : Bool) (ht : validP k sz vs hr ↔ t = true) (w : World) : Calls Tryd.prog 32 #[.int .u8 k.toNat, CX sz vs hr] w fun e w' => e = .returned (.bool t) ∧ w' = (w.alloc (CXo sz vs hr)).alloc (CXo sz vs hr) := by
  unfold validP at ht
  cases hu : unitK k sz vs with
  | none =>
    obtain rfl : t = false := by rw [hu] at ht; simp at ht; simpa using ht
    exact valid_unknown k sz vs hr hu w
  | some u =>
    refine valid_range k sz vs hr (by rw [hu]; rfl) t ?_ w
    rw [hu] at ht
    simp only [Option.isSome_some, true_and] at ht
    cases t with
    | true => exact ht
    | false => exact ht
end
end Go.Proofs.YteihpeffaeahlaaDoor
