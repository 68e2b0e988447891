/- Contracts: brackets, operands. -/
import Derived.Test.YteihpeffaeahlaaDoorW6
import Derived.Test.YteihpeffaeahlaaDoorShelf
namespace Go.Proofs.YteihpeffaeahlaaDoor
open Go.RowKit
set_option maxRecDepth 100000
/-- What is asked of a reader. -/
structure Rok (r : RS) : Prop where
  hl : r.s.size ≤ 9223372036854775806
  hc : cxOk r.sz r.vs
  hu : (unitK r.sc r.sz r.vs).isSome
  hr : ok9 r.hr
theorem Rok.hl7 {r : RS} (h : Rok r) : r.s.size ≤ 9223372036854775807 := by have := h.hl; omega
theorem Rok.len {r : RS} : r.l.length = r.s.size := (Lib.size_eq _).symm

def ixB (c : UInt8) : Int := Lib.indexByte [43, 45, 33, 124] c
theorem indexSign (c : UInt8) (w : World) : Calls Tryd.prog 27 #[.string ⟨#[43, 45, 33, 124]⟩, .int .u8 c.toNat] w fun e w' => e = .returned (.int .i64 (ixB c)) ∧ w' = w := by
  have := Tryd.strings_IndexByte ⟨#[43, 45, 33, 124]⟩ c.toNat w
  simp only [Int.toNat_natCast] at this
  rw [show c.toNat.toUInt8 = c by simp [Nat.toUInt8]] at this
  exact this
theorem ixB_sg (c : UInt8) : decide ((0 : Int) ≤ ixB c) = isSg c := by
  unfold ixB isSg
  by_cases h1 : c = 43
  · subst h1; decide
  by_cases h2 : c = 45
  · subst h2; decide
  by_cases h3 : c = 33
  · subst h3; decide
  by_cases h4 : c = 124
  · subst h4; decide
  · have : Lib.indexByte [43, 45, 33, 124] c = -1 := by
      simp [Lib.indexByte, Ne.symm h1, Ne.symm h2, Ne.symm h3, Ne.symm h4]
    rw [this]; simp [h1, h2, h3, h4]

/-- How reckoning an operand ends. -/
def OpdP (b : Nat) (r : RS) (dp wh : Nat) (w : World) (R : Res) (e : Ending) (w' : World) : Prop :=
  Own b w w' ∧ match R with
    | .ok (v, z) => ∃ v', ok9 v' ∧ (r.fm = false → v' = v) ∧ e = .returned (.int .i64 v') ∧ Has 64 b r z dp wh w'
    | .error x => e = thrown x ∧ ∃ q d, Has 64 b r q d wh w'
theorem OpdP.yes {b : Nat} {r : RS} {dp wh : Nat} {w : World} {R : Res} {e : Ending} {w' : World} (h : OpdP b r dp wh w R e w') {v : Int} {z : Nat} (hR : R = .ok (v, z)) :
    ∃ v', ok9 v' ∧ (r.fm = false → v' = v) ∧ e = .returned (.int .i64 v') ∧ Has 64 b r z dp wh w' := by have := h.2; rw [hR] at this; exact this
theorem OpdP.no {b : Nat} {r : RS} {dp wh : Nat} {w : World} {R : Res} {e : Ending} {w' : World} (h : OpdP b r dp wh w R e w') {x : Int} (hR : R = .error x) :
    e = thrown x ∧ ∃ q d, Has 64 b r q d wh w' := by have := h.2; rw [hR] at this; exact this
/-- How reckoning an expression within brackets ends. -/
def ExpP (b : Nat) (r : RS) (dp wh : Nat) (w : World) (R : Res) (e : Ending) (w' : World) : Prop :=
  Own b w w' ∧ match R with
    | .ok (v, z) => ∃ v', ok9 v' ∧ (r.fm = false → v' = v) ∧ e = .returned (.int .i64 v') ∧ Has 64 b r (skipS r.l dp z) dp wh w'
    | .error x => e = thrown x ∧ ∃ q d, Has 64 b r q d wh w'

section
variable {b : Nat} {r : RS} {p dp wh : Nat} {w : World}
theorem number_opd (h : Has 64 b r p dp wh w) (hr : Rok r) (hp : p ≤ r.l.length) : Calls Tryd.prog 56 #[RP b] w (OpdP b r dp wh w (numR r p)) := by
  refine (number_any h hr.hl (by rw [← Rok.len]; exact hp) hr.hc hr.hu).mono ?_
  rintro e w' ⟨o, hm⟩
  refine ⟨o, ?_⟩
  unfold numR
  cases hn : numS r.l r.sc r.sz r.vs p with
  | none =>
    rw [hn] at hm
    obtain ⟨rfl, q, hq⟩ := hm
    exact ⟨rfl, q, dp, hq⟩
  | some vz =>
    obtain ⟨v, z⟩ := vz
    rw [hn] at hm
    simp only at hm ⊢
    by_cases hok : ok9 v
    · rw [if_pos hok] at hm ⊢
      exact ⟨v, hok, fun _ => rfl, hm.1, hm.2⟩
    · rw [if_neg hok] at hm ⊢
      cases hf : r.fm with
      | true =>
        rw [hf, if_pos rfl] at hm
        rw [if_pos rfl]
        exact ⟨0, by decide, (fun h => by cases h), hm.1, hm.2⟩
      | false =>
        rw [hf, if_neg (by decide)] at hm
        rw [if_neg (by decide)]
        obtain ⟨he, q, hq⟩ := hm
        exact ⟨he, q, dp, hq⟩

/-- The bracket that stands ahead of p has been taken. -/
theorem bracket_any (S : Nat → Nat → Res) (h : Has 64 b r (p + 1) dp wh w) (hr : Rok r)
    (hS : dp ≠ 20 → ∀ w, Has 64 b r (p + 1) (dp + 1) wh w → Tab w → Calls Tryd.prog 37 #[RP b] w (ExpP b r (dp + 1) wh w (S (p + 1) (dp + 1)))) (hT : Tab w) (hd : dp ≤ 20) :
    Calls Tryd.prog 69 #[RP b] w (OpdP b r dp wh w (braR r S p dp)) := by
  have c6 := h.c6
  have f6 := h.fz 6
  have H := Lib.hid h
  have HR := Lib.hid hr
  have HS := Lib.hid hS
  have HT := Lib.hid hT
  clear h hr hS hT
  by_cases hd20 : dp = 20
  · have e : braR r S p dp = .error 4 := by unfold braR; rw [if_pos hd20]
    have HE := Lib.hid e
    have ht : ((dp : Int) == 20) = true := by rw [beq_iff_eq]; omega
    clear e hd20
    go_enter Tryd.func69, Tryd.ntmps69
    go_wp2_with fail
    refine (fail_form 4 rfl).mono ?_
    rintro e w1 ⟨rfl, rfl⟩
    exact ⟨rfl, Own.refl _ _, by rw [HE.out]; exact ⟨rfl, _, _, H.out⟩⟩
  · have e : braR r S p dp = match S (p + 1) (dp + 1) with
        | .error e => .error e
        | .ok (v, z) => if r.l[skipS r.l (dp + 1) z]? = some 41 then .ok (v, skipS r.l (dp + 1) z + 1) else .error 4 := by unfold braR; rw [if_neg hd20]; rfl
    have HE := Lib.hid e
    have ht : ((dp : Int) == 20) = false := by rw [beq_eq_false_iff_ne]; omega
    have HD := Lib.hid hd20
    clear e hd20
    go_enter Tryd.func69, Tryd.ntmps69
    go_wp2_with fail
    refine (HS.out HD.out _ (H.out.set6 (dp + 1)) (HT.out.own ((Own.refl _ _).setCell 6 _) (HT.out.has H.out))).mono ?_
    rintro e w1 ⟨o1, hm⟩
    cases hR : S (p + 1) (dp + 1) with
    | error x =>
      rw [hR] at hm
      obtain ⟨rfl, q, d, hq⟩ := hm
      exact ⟨rfl, ((Own.refl _ _).setCell 6 _).trans o1, by rw [HE.out, hR]; exact ⟨rfl, q, d, hq⟩⟩
    | ok vz =>
      obtain ⟨v, z⟩ := vz
      rw [hR] at hm
      obtain ⟨v', g1, g2, rfl, h1⟩ := hm
      have HRR := Lib.hid hR
      have H1 := Lib.hid h1
      have O1 := Lib.hid o1
      have G1 := Lib.hid g1
      have G2 := Lib.hid g2
      clear hR h1 o1 g1 g2
      by_cases hc : r.l[skipS r.l (dp + 1) z]? = some 41
      · have HC := Lib.hid hc
        clear hc
        go_wp2_with fail
        refine (take_yes 41 H1.out HR.out.hl7 HC.out).mono ?_
        rintro e w2 ⟨rfl, h2, o2⟩
        have H2 := Lib.hid h2
        have O2 := Lib.hid o2
        have c6' := h2.c6
        have f6' := h2.fz 6
        clear h2 o2
        go_wp2_with fail
        go_ret
        refine ⟨((((Own.refl _ _).setCell 6 _).trans O1.out).trans O2.out).setCell 6 _, ?_⟩
        rw [HE.out, HRR.out]
        simp only
        rw [if_pos HC.out]
        exact ⟨v', G1.out, G2.out, rfl, H2.out.set6 dp⟩
      · have HC := Lib.hid hc
        clear hc
        go_wp2_with fail
        refine (take_no 41 H1.out HR.out.hl7 HC.out).mono ?_
        rintro e w2 ⟨rfl, n, rfl⟩
        go_wp2_with fail
        refine (fail_form 4 rfl).mono ?_
        rintro e w3 ⟨rfl, rfl⟩
        refine ⟨rfl, (((Own.refl _ _).setCell 6 _).trans O1.out).drewN n, ?_⟩
        rw [HE.out, HRR.out]
        simp only
        rw [if_neg HC.out]
        exact ⟨rfl, _, _, H1.out.drewN n⟩
end
end Go.Proofs.YteihpeffaeahlaaDoor
