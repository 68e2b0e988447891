/- Contracts: a number. -/
import Derived.Test.YteihpeffaeahlaaDoorW3
import Derived.Deep.DeepCutAuto
namespace Go.Proofs.YteihpeffaeahlaaDoor
open Go.RowKit
set_option maxRecDepth 100000
/-- What the number has behind its fraction. -/
def NuC (b : Nat) (r : RS) (dp wh q : Nat) (w : World) (s5 s6 : Value) (wx : World) : Prop :=
  s5 = .int .i64 (fracV r.l q) ∧ s6 = .int .i64 (fracN r.l q) ∧ Has 64 b r (fracE r.l q) dp wh wx ∧ Own b w wx
def BoC (w : World) (t : Bool) (s : Value) (wx : World) : Prop := s = .bool t ∧ ∃ n, wx = w.drewN n
/-- How reading a number ends. -/
def NuP (b : Nat) (r : RS) (dp wh p : Nat) (w : World) (e : Ending) (w' : World) : Prop :=
  Own b w w' ∧ match numS r.l r.sc r.sz r.vs p with
    | none => e = thrown 4 ∧ ∃ q, Has 64 b r q dp wh w'
    | some (v, z) => if ok9 v then e = .returned (.int .i64 v) ∧ Has 64 b r z dp wh w'
      else if r.fm then e = .returned (.int .i64 0) ∧ Has 64 b r z dp wh w' else e = thrown 5 ∧ ∃ q, Has 64 b r q dp wh w'
section
variable {b : Nat} {r : RS} {p dp wh : Nat} {w : World}
set_option maxHeartbeats 2000000 in
theorem number_any (h : Has 64 b r p dp wh w) (hl : r.s.size ≤ 9223372036854775806) (hp : p ≤ r.s.size) (hc : cxOk r.sz r.vs) (hu : (unitK r.sc r.sz r.vs).isSome) :
    Calls Tryd.prog 56 #[RP b] w (NuP b r dp wh p w) := by
  have hl' : r.s.size ≤ 9223372036854775807 := by omega
  have HL := Lib.hid hl'
  have HU := Lib.hid hu
  have HC := Lib.hid hc
  clear hu hc
  have HH := Lib.hid h
  clear h hl'
  go_enter Tryd.func56, Tryd.ntmps56
  go_wp2_with fail
  refine (digits_any HH.out HL.out).mono ?_
  rintro e w1 ⟨rfl, h1, o1⟩
  obtain ⟨q, hq⟩ : ∃ q, q = p + cnt r.l 9 p := ⟨_, rfl⟩
  rw [← hq] at h1
  have HQ := Lib.hid hq
  have H1 := Lib.hid h1
  have O1 := Lib.hid o1
  clear hq h1 o1
  go_upto_region 3 with (fail)
  go_cut [48] (fun s48 wx => BoC w1 (pt r.l q) s48 wx)
  case first =>
    have c0 := H1.out.c0
    have c1 := H1.out.c1
    have hqs : q ≤ r.s.size := by rw [HQ.out]; have := cnt_end r.l 9 p (by simpa [RS.l] using hp); simpa [RS.l] using this
    have hw1 : IntKind.i64.wrap ((q : Int) + 1) = (q : Int) + 1 := IntWalk.i64_in _ (by omega)
    have hz : (0 : Int) ≤ (q : Int) + 1 := by omega
    have hn1 : ((q : Int) + 1).toNat = q + 1 := by omega
    by_cases a1 : q + 1 < r.s.size
    · have d1' : decide ((q : Int) + 1 < (r.s.size : Int)) = true := by simp; omega
      have a1i : (q : Int) + 1 < (r.s.size : Int) := by omega
      have a0 : q < r.s.size := by omega
      by_cases a2 : r.s[q] = 46
      · have d2 : ((r.s[q].toNat : Int) == 46) = true := by rw [a2]; rfl
        by_cases a3 : isDg r.s[q + 1] = true
        · have e : pt r.l q = true := by unfold pt dg RS.l; rw [byte_at _ _ a0, byte_at _ _ a1]; simp [a2, a3]
          have HG := Lib.hid a3
          have HE := Lib.hid e
          clear a2 a3 e
          go_quiet ((go_at_call 76; exact Calls.quiet_of_same (isDigit_is _ _ HG.out _)))
          clear hw1
          go_wp2_with fail
          go_meet
          exact ⟨by rw [HE.out], _, rfl⟩
        · have a3' : isDg r.s[q + 1] = false := by simpa using a3
          have e : pt r.l q = false := by unfold pt dg RS.l; rw [byte_at _ _ a0, byte_at _ _ a1]; simp [a2, a3']
          have HG := Lib.hid a3'
          have HE := Lib.hid e
          clear a2 a3 a3' e
          go_quiet ((go_at_call 76; exact Calls.quiet_of_same (isDigit_is _ _ HG.out _)))
          clear hw1
          go_wp2_with fail
          go_meet
          exact ⟨by rw [HE.out], _, rfl⟩
      · have d2 : ((r.s[q].toNat : Int) == 46) = false := ne_b a2
        have e : pt r.l q = false := by unfold pt RS.l; rw [byte_at _ _ a0]; simp [a2]
        have HE := Lib.hid e
        clear a2 e
        go_quiet (fail)
        clear hw1
        go_wp2_with fail
        go_meet
        exact ⟨by rw [HE.out], _, rfl⟩
    · have d1' : decide ((q : Int) + 1 < (r.s.size : Int)) = false := by simp; omega
      have e : pt r.l q = false := by unfold pt dg RS.l; rw [byte_none _ (q + 1) (by omega)]; simp
      have HE := Lib.hid e
      clear e
      go_quiet (fail)
      clear hw1
      go_wp2_with fail
      go_meet
      exact ⟨by rw [HE.out], _, rfl⟩
  case rest =>
    obtain ⟨rfl, nn, rfl⟩ := hcut
    have hqs : q ≤ r.s.size := by rw [HQ.out]; have := cnt_end r.l 9 p (by simpa [RS.l] using hp); simpa [RS.l] using this
    have H2 := Lib.hid (H1.out.drewN nn)
    have O2 := Lib.hid (O1.out.drewN nn)
    clear H1 O1
    generalize w1.drewN nn = w2 at *
    go_upto_if 48 with (fail)
    go_cut [5, 6] (fun s5 s6 wx => NuC b r dp wh q w s5 s6 wx)
    case first =>
      have c1 := H2.out.c1
      have f1 := H2.out.fz 1
      cases hpt : pt r.l q with
      | true =>
        have HP := Lib.hid hpt
        clear hpt
        go_wp2_with fail
        refine (digits_any ((H2.out.set1 (q + 1))) HL.out).mono ?_
        rintro e w3 ⟨rfl, h3, o3⟩
        have H3 := Lib.hid h3
        have O3 := Lib.hid o3
        clear h3 o3
        go_wp2_with fail
        go_meet
        refine ⟨?_, ?_, ?_, ?_⟩
        · unfold fracV; rw [if_pos HP.out]
        · unfold fracN; rw [if_pos HP.out]
        · unfold fracE; rw [if_pos HP.out]; exact H3.out
        · exact (O2.out.setCell 1 _).trans O3.out
      | false =>
        have HP := Lib.hid hpt
        clear hpt
        go_wp2_with fail
        go_meet
        refine ⟨?_, ?_, ?_, O2.out⟩
        · unfold fracV; rw [HP.out]; rfl
        · unfold fracN; rw [HP.out]; rfl
        · unfold fracE; rw [HP.out]; exact H2.out
    case rest =>
      obtain ⟨rfl, rfl, h3, o3⟩ := hcut
      have H3 := Lib.hid h3
      have O3 := Lib.hid o3
      clear h3 o3 O2 H2
      have hm := cnt_le r.l 9 p
      have hk := fracN_le r.l q
      have hN : numS r.l r.sc r.sz r.vs p = if cnt r.l 9 p + fracN r.l q = 0 then none else some (dval r.l p (cnt r.l 9 p) * (unS r.l r.sc r.sz r.vs (fracE r.l q)).1 + fracV r.l q * (unS r.l r.sc r.sz r.vs (fracE r.l q)).1 / 10 ^ fracN r.l q, (unS r.l r.sc r.sz r.vs (fracE r.l q)).2) := by
        rw [HQ.out]; rfl
      have hu := unS_le r.l r.sc r.sz r.vs (fracE r.l q) HC.out
      have hV := mul_bd _ _ (fracV_le r.l q) hu.1 hu.2
      have hD := mul_bd _ _ (dvalC_le r.l p) hu.1 hu.2
      have hun := unit_any H3.out HL.out HC.out HU.out
      clear HQ
      generalize unS r.l r.sc r.sz r.vs (fracE r.l q) = uz at *
      obtain ⟨u, z⟩ := uz
      simp only at hu hV hD hN hun
      generalize cnt r.l 9 p = m at *
      generalize fracN r.l q = k at *
      generalize fracV r.l q = V at *
      generalize dval r.l p m = D at *
      have HN := Lib.hid hN
      have HUN := Lib.hid hun
      clear hN hun
      by_cases h0 : m + k = 0
      · obtain rfl : m = 0 := by omega
        obtain rfl : k = 0 := by omega
        go_wp2_with fail
        refine (fail_form 4 rfl).mono ?_
        rintro e w4 ⟨rfl, rfl⟩
        refine ⟨rfl, O3.out, ?_⟩
        rw [HN.out]
        exact ⟨rfl, _, H3.out⟩
      · have h00 : ((m : Int) + (k : Int) == 0) = false := by rw [beq_eq_false_iff_ne]; omega
        have h0' := Lib.hid h0
        clear h0
        go_wp2_with fail
        refine HUN.out.mono ?_
        rintro e w4 ⟨rfl, h4, o4⟩
        have H4 := Lib.hid h4
        have O4 := Lib.hid o4
        clear h4 o4
        go_wp2_with fail
        go_loop [5, 73] (fun s i => ∃ j : Nat, j ≤ k ∧ i = .int .i64 j ∧ s = .int .i64 ((V : Int) * u / 10 ^ j)) (fun _ i => k - (intOf i).toNat)
        case atStart => exact ⟨0, Nat.zero_le _, rfl, by simp⟩
        case round =>
          obtain ⟨j, hj, rfl, rfl⟩ := hrel
          have hb := div10_le ((V : Int) * u) j hV.1
          have hd := div10 ((V : Int) * u) j
          have HDD := Lib.hid hd
          clear hd
          by_cases hlt : j < k
          · go_wp2_with fail
            go_round
            case rel => exact ⟨j + 1, by omega, by go_num, by rw [← HDD.out]⟩
            case measure => simp [intOf]; omega
          · obtain rfl : j = k := by omega
            by_cases hok : ok9 ((D : Int) * u + (V : Int) * u / 10 ^ j)
            · have HOK := Lib.hid hok
              clear hok
              go_wp2_with fail
              refine (within_ok _ HOK.out).mono ?_
              rintro e w5 ⟨rfl, rfl⟩
              go_wp2_with fail
              go_ret
              refine ⟨O3.out.trans O4.out, ?_⟩
              rw [HN.out, if_neg h0'.out]
              simp only
              rw [if_pos HOK.out]
              exact ⟨rfl, H4.out⟩
            · have HOK := Lib.hid hok
              clear hok
              cases hfm : r.fm with
              | true =>
                have HF := Lib.hid hfm
                clear hfm
                go_wp2_with fail
                refine (within_form _ HOK.out H4.out HF.out).mono ?_
                rintro e w5 ⟨rfl, rfl⟩
                go_wp2_with fail
                go_ret
                refine ⟨O3.out.trans O4.out, ?_⟩
                rw [HN.out, if_neg h0'.out]
                simp only
                rw [if_neg HOK.out, if_pos HF.out]
                exact ⟨rfl, H4.out⟩
              | false =>
                have HF := Lib.hid hfm
                clear hfm
                go_wp2_with fail
                refine (within_bad _ HOK.out H4.out HF.out).mono ?_
                rintro e w5 ⟨rfl, rfl⟩
                refine ⟨rfl, O3.out.trans O4.out, ?_⟩
                rw [HN.out, if_neg h0'.out]
                simp only
                rw [if_neg HOK.out, if_neg (by rw [HF.out]; decide)]
                exact ⟨trivial, _, H4.out⟩
end
end Go.Proofs.YteihpeffaeahlaaDoor
