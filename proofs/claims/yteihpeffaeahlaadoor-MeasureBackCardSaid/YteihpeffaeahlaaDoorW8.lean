/- Contracts: operands. -/
import Derived.Test.YteihpeffaeahlaaDoorW7
namespace Go.Proofs.YteihpeffaeahlaaDoor
open Go.RowKit
set_option maxRecDepth 100000
/-- The signs' loop. -/
def SgI (b : Nat) (r : RS) (dp wh fin : Nat) (w : World) (k : Nat) (wr : World) : Prop :=
  ∃ q, Has 64 b r q dp wh wr ∧ Own b w wr ∧ sgEnd r.l dp k q = fin ∧ r.l.length ≤ k + q ∧ q ≤ r.l.length
/-- The loop that uses the signs, the last one first. -/
def UsI (r : RS) (f bh : Nat) (R : Except Int Int) (w : World) (k : Nat) (s i : Value) (wr : World) : Prop :=
  ∃ v I, f + k ≤ bh ∧ ok9 v ∧ i = .int .i64 I ∧ I + 1 = (f : Int) + k ∧ s = .int .i64 v ∧ (r.fm = false → apS r.l r.hr f k v = R) ∧ wr = w
section
variable {b : Nat} {r : RS} {p dp wh : Nat} {w : World}
set_option maxHeartbeats 2000000 in
theorem operand_any (S : Nat → Nat → Res) (h : Has 64 b r p dp wh w) (hr : Rok r) (hp : p ≤ r.l.length)
    (hS : dp ≠ 20 → ∀ q w, p ≤ q → q < r.l.length → Has 64 b r (q + 1) (dp + 1) wh w → Tab w → Calls Tryd.prog 37 #[RP b] w (ExpP b r (dp + 1) wh w (S (q + 1) (dp + 1)))) (hT : Tab w) (hd : dp ≤ 20) :
    Calls Tryd.prog 52 #[RP b] w (OpdP b r dp wh w (opdR r S p dp)) := by
  obtain ⟨f, hf⟩ : ∃ f, f = skipS r.l dp p := ⟨_, rfl⟩
  obtain ⟨bh, hbh⟩ : ∃ x, x = SE r.l dp f := ⟨_, rfl⟩
  have hfp : p ≤ f := by rw [hf]; exact skipS_ge _ _ _
  have hfl : f ≤ r.l.length := by rw [hf]; exact skipS_le _ _ _ hp
  have hbf : f ≤ bh := by rw [hbh]; exact sgEnd_ge _ _ _ _
  have hbl : bh ≤ r.l.length := by rw [hbh]; exact sgEnd_le _ _ _ _ hfl
  have hlen : r.l.length = r.s.size := Rok.len
  have hls := hr.hl
  have hb0 := hT.has h
  have e : opdR r S p dp = sgR r f bh (priR r S bh dp) := by unfold opdR; rw [← hf, ← hbh]
  have HE := Lib.hid e
  have HF := Lib.hid hf
  have HB := Lib.hid hbh
  have HH := Lib.hid h
  have HR := Lib.hid hr
  have HS := Lib.hid hS
  have HT := Lib.hid hT
  have HN := Lib.hid hb0
  clear e hf hbh h hr hS hT hb0
  go_enter Tryd.func52, Tryd.ntmps52
  go_wp2_with fail
  refine (skip_any HH.out HR.out.hl7 hp).mono ?_
  rintro e w1 ⟨rfl, h1, o1⟩
  rw [← HF.out] at h1
  have H1 := Lib.hid h1
  have O1 := Lib.hid o1
  have c1 := h1.c1
  clear h1 o1
  go_wp2_with fail
  go_loopg [13] (r.l.length - f) (fun k s wr => SgI b r dp wh bh w k wr)
  case atStart => exact ⟨f, H1.out, O1.out, by rw [HB.out]; rfl, by omega, hfl⟩
  case round =>
    clear c1
    obtain ⟨q, h2, o2, hse, hk, hq⟩ := hrel
    have c0 := h2.c0
    have c1 := h2.c1
    have f1 := h2.fz 1
    have H2 := Lib.hid h2
    have O2 := Lib.hid o2
    have HSE := Lib.hid hse
    have HK := Lib.hid hk
    clear h2 o2 hse hk
    by_cases hsa : sgAt r.l q = true
    · have hlt : q < r.s.size := by have := sgAt_lt hsa; omega
      have hdl : decide (q < r.s.size) = true := decide_eq_true hlt
      have hsg : isSg r.s[q] = true := by unfold sgAt RS.l at hsa; rw [byte_at _ _ hlt] at hsa; exact hsa
      have hix : decide ((0 : Int) ≤ ixB r.s[q]) = true := by rw [ixB_sg]; exact hsg
      have HSA := Lib.hid hsa
      clear hsg hsa
      go_wp2_with fail
      go_quiet ((go_at_call 27; exact Calls.quiet_of_same (indexSign _ _)))
      go_wp2_with fail
      refine (skip_any ((H2.out.drewN _).set1 (q + 1)) HR.out.hl7 (by omega)).mono ?_
      rintro e w3 ⟨rfl, h3, o3⟩
      have H3 := Lib.hid h3
      have O3 := Lib.hid o3
      clear h3 o3
      go_wp2_with fail
      go_roundg (gk - 1)
      case measure => have := HK.out; omega
      case rel =>
        have hk := HK.out
        have hs1 := skipS_ge r.l dp (q + 1)
        refine ⟨_, H3.out, ((O2.out.drewN _).setCell 1 _).trans O3.out, ?_, by omega, skipS_le _ _ _ (by omega)⟩
        have hse := HSE.out
        obtain ⟨k', rfl⟩ : ∃ k', gk = k' + 1 := ⟨gk - 1, by omega⟩
        rw [sgEnd, if_pos HSA.out] at hse
        exact hse
    · have hqb : bh = q := by
        rw [← HSE.out]
        cases gk with
        | zero => rfl
        | succ n => rw [sgEnd, if_neg hsa]
      have HSA := Lib.hid hsa
      clear hsa HSE HK
      subst hqb
      by_cases hlt : bh < r.s.size
      case' pos =>
        have hdl : decide (bh < r.s.size) = true := decide_eq_true hlt
        have hsg : isSg r.s[bh] = false := by have := HSA.out; unfold sgAt RS.l at this; rw [byte_at _ _ hlt] at this; simpa using this
        have hix : decide ((0 : Int) ≤ ixB r.s[bh]) = false := by rw [ixB_sg]; exact hsg
        clear hsg
        go_wp2_with fail
        go_quiet ((go_at_call 27; exact Calls.quiet_of_same (indexSign _ _)))
        clear hix hdl
        go_wp2_with fail
      case' neg =>
        have hdl : decide (bh < r.s.size) = false := decide_eq_false hlt
        go_wp2_with fail
        go_quiet (fail)
        clear hdl
        go_wp2_with fail
      all_goals
        have H3 := Lib.hid (H2.out.drewN nq)
        have O3 := Lib.hid (O2.out.drewN nq)
        have T3 := Lib.hid (HT.out.own O3.out HN.out)
        clear H2 O2 c0 c1 f1
        generalize wr.drewN nq = w3 at *
        by_cases h40 : r.l[bh]? = some 40
        case' pos =>
          have H40 := Lib.hid h40
          have hbl2 := (List.getElem?_eq_some_iff.1 h40).1
          have e : priR r S bh dp = braR r S bh dp := by unfold priR; rw [if_pos h40]
          have HP := Lib.hid e
          clear h40 e
          refine (take_yes 40 H3.out HR.out.hl7 H40.out).mono ?_
          rintro e w4 ⟨rfl, h4, o4⟩
          have H4 := Lib.hid h4
          have O4 := Lib.hid o4
          have T4 := Lib.hid (T3.out.own o4 HN.out)
          clear h4 o4
          go_wp2_with fail
          refine (bracket_any S H4.out HR.out (fun hd w hw hT => HS.out hd bh w (by omega) (by omega) hw hT) T4.out hd).mono ?_
          rintro e w5 ⟨o5, hm⟩
          rw [← HP.out] at hm
          have O5 := Lib.hid ((O3.out.trans O4.out).trans o5)
          clear H4 O4 T4 hbl2 o5
        case' neg =>
          have H40 := Lib.hid h40
          have e : priR r S bh dp = numR r bh := by unfold priR; rw [if_neg h40]
          have HP := Lib.hid e
          clear h40 e
          refine (take_no 40 H3.out HR.out.hl7 H40.out).mono ?_
          rintro e w4 ⟨rfl, n4, rfl⟩
          go_wp2_with fail
          refine (number_opd (H3.out.drewN n4) HR.out (by omega)).mono ?_
          rintro e w5 ⟨o5, hm⟩
          rw [← HP.out] at hm
          have O5 := Lib.hid ((O3.out.drewN n4).trans o5)
          clear o5
        all_goals
          clear HP H40 H3 O3 T3
          cases hR : priR r S bh dp with
          | error x =>
            rw [hR] at hm
            obtain ⟨rfl, q, d, hq⟩ := hm
            exact ⟨rfl, O5.out, by rw [HE.out, hR]; exact ⟨rfl, q, d, hq⟩⟩
          | ok vz =>
            obtain ⟨v, z⟩ := vz
            rw [hR] at hm
            obtain ⟨v', g1, g2, rfl, h5⟩ := hm
            have HPR := Lib.hid hR
            have H5 := Lib.hid h5
            have G1 := Lib.hid g1
            have G2 := Lib.hid g2
            clear hR h5 g1 g2
            go_wp2_with fail
            go_loopg [5, 6] (bh - f) (fun k s i wr => UsI r f bh (apS r.l r.hr f (bh - f) v) w5 k s i wr)
            case atStart => exact ⟨v', _, by omega, G1.out, rfl, by omega, rfl, fun h => by rw [G2.out h], rfl⟩
            case round =>
              obtain ⟨u, I, hkb, g3, rfl, hI, rfl, g4, rfl⟩ := hrel
              have G3 := Lib.hid g3
              have G4 := Lib.hid g4
              cases gk with
              | zero =>
                have hlt3 : I < (f : Int) := by omega
                clear hI g3 g4
                go_wp2_with fail
                go_ret
                refine ⟨O5.out, ?_⟩
                rw [HE.out, HPR.out]
                unfold sgR
                simp only
                cases hf : r.fm with
                | true => exact ⟨u, G3.out, (fun h => by cases h), rfl, H5.out⟩
                | false =>
                  have := G4.out hf
                  rw [apS] at this
                  rw [← this]
                  exact ⟨u, G3.out, fun _ => rfl, rfl, H5.out⟩
              | succ k =>
                obtain ⟨q, hq⟩ : ∃ q, q = f + k := ⟨_, rfl⟩
                obtain rfl : I = (q : Int) := by omega
                have hge : (f : Int) ≤ (q : Int) := by omega
                have c0 := H5.out.c0
                have HQ := Lib.hid hq
                clear hI g3 g4 hq
                have hq2 : q < r.s.size := by have := HQ.out; omega
                go_wp2_with fail
                refine (signed_any r.s[q] u G3.out H5.out HR.out.hr).mono ?_
                rintro e w6 ⟨rfl, ⟨u', g5, rfl, g6⟩ | ⟨x, rfl, g5, g6⟩⟩
                · have G5 := Lib.hid g5
                  have G6 := Lib.hid g6
                  clear g5 g6
                  go_wp2_with fail
                  go_roundg k
                  case measure => omega
                  case rel =>
                    have hq := HQ.out
                    refine ⟨u', _, by omega, G5.out, rfl, by omega, rfl, fun hf => ?_, rfl⟩
                    have h4 := G4.out hf
                    rw [apS, ← hq, show r.l[q]? = some r.s[q] from byte_at _ _ hq2] at h4
                    simp only [Option.getD_some] at h4
                    rw [G6.out hf] at h4
                    exact h4
                · refine ⟨rfl, O5.out, ?_⟩
                  rw [HE.out, HPR.out]
                  unfold sgR
                  have h4 := G4.out g5
                  rw [apS, ← HQ.out, show r.l[q]? = some r.s[q] from byte_at _ _ hq2] at h4
                  simp only [Option.getD_some] at h4
                  rw [g6] at h4
                  simp only at h4 ⊢
                  rw [if_neg (by rw [g5]; decide), ← h4]
                  exact ⟨rfl, _, _, H5.out⟩
end
end Go.Proofs.YteihpeffaeahlaaDoor
