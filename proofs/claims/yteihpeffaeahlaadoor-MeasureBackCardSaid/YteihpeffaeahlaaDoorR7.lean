/- Contracts of the specification: operands. -/
import Derived.Test.YteihpeffaeahlaaDoorR6
namespace Go.Proofs.YteihpeffaeahlaaDoor
open Go.RowKit
set_option maxRecDepth 100000
/-- What the specification asks of a reader. -/
structure Rsk (r : RS) : Prop where
  ok : Rok r
  hl : r.s.size ≤ 9223372036854775800
section
variable {r : RS}
set_option maxHeartbeats 4000000 in
theorem roperand_step (hr : Rsk r) (m : Nat) (hS : RSm r m) : ∀ (k : Nat) (p dp : Nat) (w : World), r.l.length ≤ k + p → p ≤ r.l.length → dp ≤ 20 → 2 * (r.l.length - p) + 2 ≤ m + 1 →
    Calls Tryd.prog 58 #[RA r, .int .i64 p, .int .i64 dp] w (RxP r (opdR r (fun p dp => ex r m 1 0 p dp) p dp) w) := by
  intro k
  induction k using Nat.strongRecOn with
  | _ k ih =>
  intro p dp w hk hp hd hm
  have hlen : r.l.length = r.s.size := Rok.len
  have hls := hr.hl
  have hfp := skipS_ge r.l dp p
  have hfl := skipS_le r.l dp p hp
  obtain ⟨f, hf⟩ : ∃ f, f = skipS r.l dp p := ⟨_, rfl⟩
  have hsk := rskip_any r p dp (by omega) hp (by omega) (w.alloc (RO r))
  rw [← hf] at hsk hfp hfl
  have HSK := Lib.hid hsk
  have HF := Lib.hid hf
  have HR := Lib.hid hr
  have HS := Lib.hid hS
  have HI := Lib.hid ih
  clear hsk hf hr hS ih
  go_enter Tryd.func58, Tryd.ntmps58
  go_wp2_with fail
  refine HSK.out.mono ?_
  rintro e w1 ⟨rfl, hb1⟩
  have bx := (Bx.new w r).below hb1
  have B1 := Lib.hid (((Below.refl _ _).alloc (Nat.le_refl _) (RO r)).trans (hb1.mono (by simp)))
  have c0 := bx.c0
  have c1 := bx.c1
  have c2 := bx.c2
  have c3 := bx.c3
  have c4 := bx.c4
  have c5 := bx.c5
  have BX := Lib.hid bx
  clear hb1 bx
  by_cases h0 : f < r.s.size
  · have hcf : r.l[f]? = some r.s[f] := byte_at r.s f h0
    by_cases h40 : r.s[f] = 40
    · have e := opd_bra r (fun p dp => ex r m 1 0 p dp) p dp (by rw [← HF.out, hcf, h40])
      rw [← HF.out] at e
      have HE := Lib.hid e
      have t40 : ((r.s[f].toNat : Int) == 40) = true := by rw [h40]; rfl
      clear e hcf h40
      by_cases h20 : dp = 20
      · have t20 : ((dp : Int) == 20) = true := by rw [beq_iff_eq]; omega
        have e2 : braR r (fun p dp => ex r m 1 0 p dp) f dp = .error 4 := by unfold braR; rw [if_pos h20]
        have HE2 := Lib.hid e2
        clear h20 e2
        go_wp2_with fail
        go_ret3
        exact ⟨B1.out, by rw [HE.out, HE2.out]; exact ⟨by decide, _, _, rfl⟩⟩
      · have t20 : ((dp : Int) == 20) = false := by rw [beq_eq_false_iff_ne]; omega
        have e2 : braR r (fun p dp => ex r m 1 0 p dp) f dp = match ex r m 1 0 (f + 1) (dp + 1) with
            | .error e => .error e
            | .ok (v, z) => if r.l[skipS r.l (dp + 1) z]? = some 41 then .ok (v, skipS r.l (dp + 1) z + 1) else .error 4 := by unfold braR; rw [if_neg h20]; rfl
        have HE2 := Lib.hid e2
        have hsum := HS.out (f + 1) (dp + 1) w1 (by omega) (by omega) (by omega)
        have HSU := Lib.hid hsum
        clear h20 e2 hsum
        go_wp2_with fail
        refine HSU.out.mono ?_
        rintro e w2 ⟨hb2, hm⟩
        cases hR : ex r m 1 0 (f + 1) (dp + 1) with
        | error x =>
          rw [hR] at hm
          obtain ⟨hx0, n, z, rfl⟩ := hm
          have hx : (x != 0) = true := by simpa using hx0
          have HRR := Lib.hid hR
          have HX0 := Lib.hid hx0
          have B2 := Lib.hid (B1.out.trans (hb2.mono B1.out.size))
          clear hR hb2 hx0
          go_wp2_with fail
          go_ret3
          exact ⟨B2.out, by rw [HE.out, HE2.out, HRR.out]; exact ⟨HX0.out, _, _, rfl⟩⟩
        | ok vz =>
          obtain ⟨v, z⟩ := vz
          have hz := ex_bd hR (show f + 1 ≤ r.l.length by omega)
          rw [hR] at hm
          obtain ⟨v', g1, g2, rfl⟩ := hm
          have HRR := Lib.hid hR
          have G1 := Lib.hid g1
          have G2 := Lib.hid g2
          have B2 := Lib.hid (B1.out.trans (hb2.mono B1.out.size))
          have bx := BX.out.below hb2
          have c0' := bx.c0
          have c1' := bx.c1
          have c2' := bx.c2
          have c3' := bx.c3
          have c4' := bx.c4
          have c5' := bx.c5
          have BX2 := Lib.hid bx
          obtain ⟨g, hg⟩ : ∃ g, g = skipS r.l (dp + 1) z := ⟨_, rfl⟩
          have hgl := skipS_le r.l (dp + 1) z hz.2.1
          have hsk2 := rskip_any r z (dp + 1) (by omega) hz.2.1 (by omega) w2
          rw [← hg] at hsk2 hgl
          have HSK2 := Lib.hid hsk2
          have HG := Lib.hid hg
          clear hR hb2 g1 g2 bx c0 c1 c2 c3 c4 c5 hsk2 hg
          go_wp2_with fail
          refine HSK2.out.mono ?_
          rintro e w3 ⟨rfl, hb3⟩
          have bx3 := BX2.out.below hb3
          have c0 := bx3.c0
          have B3 := Lib.hid (B2.out.trans (hb3.mono B2.out.size))
          clear hb3 bx3 c0' c1' c2' c3' c4' c5'
          by_cases hg0 : g < r.s.size
          · have hgd : decide ((r.s.size : Int) ≤ (g : Int)) = false := by simp; omega
            have hcg : r.l[g]? = some r.s[g] := byte_at r.s g hg0
            by_cases h41 : r.s[g] = 41
            · have t41 : ((r.s[g].toNat : Int) != 41) = false := by rw [h41]; rfl
              have e3 : r.l[skipS r.l (dp + 1) z]? = some 41 := by rw [← HG.out, hcg, h41]
              have HE3 := Lib.hid e3
              clear h41 hcg e3
              go_wp2_with fail
              go_ret3
              refine ⟨B3.out, ?_⟩
              rw [HE.out, HE2.out, HRR.out]
              simp only
              rw [if_pos HE3.out, ← HG.out]
              simp only
              cases hfm : r.fm with
              | true => rw [if_pos rfl]; exact ⟨v', G1.out, (fun h => by cases h), rfl⟩
              | false => rw [if_neg (by decide)]; exact ⟨v', G1.out, (fun _ => G2.out hfm), rfl⟩
            · have t41 : ((r.s[g].toNat : Int) != 41) = true := by
                have h := ne_b (k := r.s[g]) (c := 41) h41
                have h' : ((r.s[g].toNat : Int) == 41) = false := h
                rw [bne, h']; rfl
              have e3 : ¬ r.l[skipS r.l (dp + 1) z]? = some 41 := by rw [← HG.out, hcg]; simpa using h41
              have HE3 := Lib.hid e3
              clear h41 hcg e3
              go_wp2_with fail
              go_ret3
              refine ⟨B3.out, ?_⟩
              rw [HE.out, HE2.out, HRR.out]
              simp only
              rw [if_neg HE3.out]
              exact ⟨by decide, _, _, rfl⟩
          · have hgd : decide ((r.s.size : Int) ≤ (g : Int)) = true := by simp; omega
            have e3 : ¬ r.l[skipS r.l (dp + 1) z]? = some 41 := by rw [← HG.out, List.getElem?_eq_none (by omega)]; decide
            have HE3 := Lib.hid e3
            clear e3
            go_wp2_with fail
            go_ret3
            refine ⟨B3.out, ?_⟩
            rw [HE.out, HE2.out, HRR.out]
            simp only
            rw [if_neg HE3.out]
            exact ⟨by decide, _, _, rfl⟩
    · by_cases h43 : r.s[f] = 43
      · have hc := h43
        clear h43
        have t40 : ((r.s[f].toNat : Int) == 40) = false := by rw [hc]; rfl
        have t43 : ((r.s[f].toNat : Int) == 43) = true := by rw [hc]; rfl
        have t45 : ((r.s[f].toNat : Int) == 45) = false := by rw [hc]; rfl
        have t33 : ((r.s[f].toNat : Int) == 33) = false := by rw [hc]; rfl
        have t124 : ((r.s[f].toNat : Int) == 124) = false := by rw [hc]; rfl
        have e := opd_sign r (fun p dp => ex r m 1 0 p dp) p dp 43 hp (by rw [← HF.out, hcf, hc]) rfl
        rw [← HF.out] at e
        have HE := Lib.hid e
        clear e hc hcf h40
        go_wp2_with fail
        have hrec := HI.out (r.l.length - (f + 1)) (by omega) (f + 1) dp w1 (by omega) (by omega) hd (by omega)
        refine hrec.mono ?_
        rintro e w2 ⟨hb2, hm⟩
        cases hR : opdR r (fun p dp => ex r m 1 0 p dp) (f + 1) dp with
        | error x =>
          rw [hR] at hm
          obtain ⟨hx0, n, z, rfl⟩ := hm
          have hx : (x != 0) = true := by simpa using hx0
          have HRR := Lib.hid hR
          have HX0 := Lib.hid hx0
          have B2 := Lib.hid (B1.out.trans (hb2.mono B1.out.size))
          clear hR hb2 hx0 hrec
          go_wp2_with fail
          go_ret3
          exact ⟨B2.out, by rw [HE.out, HRR.out]; exact ⟨HX0.out, _, _, rfl⟩⟩
        | ok vz =>
          obtain ⟨v, z⟩ := vz
          rw [hR] at hm
          obtain ⟨v', g1, g2, rfl⟩ := hm
          have HRR := Lib.hid hR
          have G2 := Lib.hid g2
          have B2 := Lib.hid (B1.out.trans (hb2.mono B1.out.size))
          have bx := BX.out.below hb2
          have c0' := bx.c0
          have c4' := bx.c4
          have c5' := bx.c5
          have hv : -1000000000 ≤ v' ∧ v' ≤ 1000000000 := g1
          have hhr : -1000000000 ≤ r.hr ∧ r.hr ≤ 1000000000 := HR.out.ok.hr
          have G1 := Lib.hid g1
          clear hR hb2 g2 bx g1 hrec c0 c1 c2 c3 c4 c5
          cases hfm : r.fm with
          | true =>
            have HFM := Lib.hid hfm
            rw [hfm] at c5'
            clear hfm
            go_wp2_with fail
            go_ret3
            refine ⟨B2.out, ?_⟩
            rw [HE.out, HRR.out]
            simp only
            rw [if_pos HFM.out]
            exact ⟨0, by decide, (fun _ => rfl), rfl⟩
          | false =>
            have HFM := Lib.hid hfm
            rw [hfm] at c5'
            obtain rfl : v' = v := G2.out hfm
            clear hfm
            have hok : ok9 (v') := by unfold ok9; omega
            have HOK := Lib.hid hok
            have HOD := Lib.hid (decide_eq_true hok)
            clear hok
            go_wp2_with (go_at_call 43; refine (rwithin_is _ true HOD.out _).mono ?_; rintro e w' ⟨rfl, rfl⟩)
            go_ret3
            refine ⟨B2.out, ?_⟩
            rw [HE.out, HRR.out]
            simp only
            rw [if_neg (by rw [HFM.out]; decide), show sgn r.hr 43 v' = .ok (v') by simp [sgn]]
            exact ⟨_, HOK.out, (fun _ => rfl), rfl⟩
      by_cases h45 : r.s[f] = 45
      · have hc := h45
        clear h45 h43
        have t40 : ((r.s[f].toNat : Int) == 40) = false := by rw [hc]; rfl
        have t43 : ((r.s[f].toNat : Int) == 43) = false := by rw [hc]; rfl
        have t45 : ((r.s[f].toNat : Int) == 45) = true := by rw [hc]; rfl
        have t33 : ((r.s[f].toNat : Int) == 33) = false := by rw [hc]; rfl
        have t124 : ((r.s[f].toNat : Int) == 124) = false := by rw [hc]; rfl
        have e := opd_sign r (fun p dp => ex r m 1 0 p dp) p dp 45 hp (by rw [← HF.out, hcf, hc]) rfl
        rw [← HF.out] at e
        have HE := Lib.hid e
        clear e hc hcf h40
        go_wp2_with fail
        have hrec := HI.out (r.l.length - (f + 1)) (by omega) (f + 1) dp w1 (by omega) (by omega) hd (by omega)
        refine hrec.mono ?_
        rintro e w2 ⟨hb2, hm⟩
        cases hR : opdR r (fun p dp => ex r m 1 0 p dp) (f + 1) dp with
        | error x =>
          rw [hR] at hm
          obtain ⟨hx0, n, z, rfl⟩ := hm
          have hx : (x != 0) = true := by simpa using hx0
          have HRR := Lib.hid hR
          have HX0 := Lib.hid hx0
          have B2 := Lib.hid (B1.out.trans (hb2.mono B1.out.size))
          clear hR hb2 hx0 hrec
          go_wp2_with fail
          go_ret3
          exact ⟨B2.out, by rw [HE.out, HRR.out]; exact ⟨HX0.out, _, _, rfl⟩⟩
        | ok vz =>
          obtain ⟨v, z⟩ := vz
          rw [hR] at hm
          obtain ⟨v', g1, g2, rfl⟩ := hm
          have HRR := Lib.hid hR
          have G2 := Lib.hid g2
          have B2 := Lib.hid (B1.out.trans (hb2.mono B1.out.size))
          have bx := BX.out.below hb2
          have c0' := bx.c0
          have c4' := bx.c4
          have c5' := bx.c5
          have hv : -1000000000 ≤ v' ∧ v' ≤ 1000000000 := g1
          have hhr : -1000000000 ≤ r.hr ∧ r.hr ≤ 1000000000 := HR.out.ok.hr
          have G1 := Lib.hid g1
          clear hR hb2 g2 bx g1 hrec c0 c1 c2 c3 c4 c5
          cases hfm : r.fm with
          | true =>
            have HFM := Lib.hid hfm
            rw [hfm] at c5'
            clear hfm
            go_wp2_with fail
            go_ret3
            refine ⟨B2.out, ?_⟩
            rw [HE.out, HRR.out]
            simp only
            rw [if_pos HFM.out]
            exact ⟨0, by decide, (fun _ => rfl), rfl⟩
          | false =>
            have HFM := Lib.hid hfm
            rw [hfm] at c5'
            obtain rfl : v' = v := G2.out hfm
            clear hfm
            have hok : ok9 (-v') := by unfold ok9; omega
            have HOK := Lib.hid hok
            have HOD := Lib.hid (decide_eq_true hok)
            clear hok
            go_wp2_with (go_at_call 43; refine (rwithin_is _ true HOD.out _).mono ?_; rintro e w' ⟨rfl, rfl⟩)
            go_ret3
            refine ⟨B2.out, ?_⟩
            rw [HE.out, HRR.out]
            simp only
            rw [if_neg (by rw [HFM.out]; decide), show sgn r.hr 45 v' = .ok (-v') by simp [sgn]]
            exact ⟨_, HOK.out, (fun _ => rfl), rfl⟩
      by_cases h33 : r.s[f] = 33
      · have hc := h33
        clear h33 h45 h43
        have t40 : ((r.s[f].toNat : Int) == 40) = false := by rw [hc]; rfl
        have t43 : ((r.s[f].toNat : Int) == 43) = false := by rw [hc]; rfl
        have t45 : ((r.s[f].toNat : Int) == 45) = false := by rw [hc]; rfl
        have t33 : ((r.s[f].toNat : Int) == 33) = true := by rw [hc]; rfl
        have t124 : ((r.s[f].toNat : Int) == 124) = false := by rw [hc]; rfl
        have e := opd_sign r (fun p dp => ex r m 1 0 p dp) p dp 33 hp (by rw [← HF.out, hcf, hc]) rfl
        rw [← HF.out] at e
        have HE := Lib.hid e
        clear e hc hcf h40
        go_wp2_with fail
        have hrec := HI.out (r.l.length - (f + 1)) (by omega) (f + 1) dp w1 (by omega) (by omega) hd (by omega)
        refine hrec.mono ?_
        rintro e w2 ⟨hb2, hm⟩
        cases hR : opdR r (fun p dp => ex r m 1 0 p dp) (f + 1) dp with
        | error x =>
          rw [hR] at hm
          obtain ⟨hx0, n, z, rfl⟩ := hm
          have hx : (x != 0) = true := by simpa using hx0
          have HRR := Lib.hid hR
          have HX0 := Lib.hid hx0
          have B2 := Lib.hid (B1.out.trans (hb2.mono B1.out.size))
          clear hR hb2 hx0 hrec
          go_wp2_with fail
          go_ret3
          exact ⟨B2.out, by rw [HE.out, HRR.out]; exact ⟨HX0.out, _, _, rfl⟩⟩
        | ok vz =>
          obtain ⟨v, z⟩ := vz
          rw [hR] at hm
          obtain ⟨v', g1, g2, rfl⟩ := hm
          have HRR := Lib.hid hR
          have G2 := Lib.hid g2
          have B2 := Lib.hid (B1.out.trans (hb2.mono B1.out.size))
          have bx := BX.out.below hb2
          have c0' := bx.c0
          have c4' := bx.c4
          have c5' := bx.c5
          have hv : -1000000000 ≤ v' ∧ v' ≤ 1000000000 := g1
          have hhr : -1000000000 ≤ r.hr ∧ r.hr ≤ 1000000000 := HR.out.ok.hr
          have G1 := Lib.hid g1
          clear hR hb2 g2 bx g1 hrec c0 c1 c2 c3 c4 c5
          cases hfm : r.fm with
          | true =>
            have HFM := Lib.hid hfm
            rw [hfm] at c5'
            clear hfm
            go_wp2_with fail
            go_ret3
            refine ⟨B2.out, ?_⟩
            rw [HE.out, HRR.out]
            simp only
            rw [if_pos HFM.out]
            exact ⟨0, by decide, (fun _ => rfl), rfl⟩
          | false =>
            have HFM := Lib.hid hfm
            rw [hfm] at c5'
            obtain rfl : v' = v := G2.out hfm
            clear hfm
            have HOD := fun b => Lib.hid (decide_eq_true (tr_ok9 b))
            have H1 := Lib.hid (decide_eq_true (show ok9 1 by decide))
            have H0 := Lib.hid (decide_eq_true (show ok9 0 by decide))
            by_cases hle : v' ≤ 0
            · have e3 : sgn r.hr 33 v' = .ok 1 := by simp [sgn, tr, hle]
              have HE3 := Lib.hid e3
              clear e3
              go_wp2_with (go_at_call 43; refine (rwithin_is _ true H1.out _).mono ?_; rintro e w' ⟨rfl, rfl⟩)
              go_ret3
              refine ⟨B2.out, ?_⟩
              rw [HE.out, HRR.out]
              simp only
              rw [if_neg (by rw [HFM.out]; decide), HE3.out]
              exact ⟨1, by decide, (fun _ => rfl), rfl⟩
            · have e3 : sgn r.hr 33 v' = .ok 0 := by simp [sgn, tr, hle]
              have HE3 := Lib.hid e3
              clear e3
              go_wp2_with (go_at_call 43; refine (rwithin_is _ true H0.out _).mono ?_; rintro e w' ⟨rfl, rfl⟩)
              go_ret3
              refine ⟨B2.out, ?_⟩
              rw [HE.out, HRR.out]
              simp only
              rw [if_neg (by rw [HFM.out]; decide), HE3.out]
              exact ⟨0, by decide, (fun _ => rfl), rfl⟩
      by_cases h124 : r.s[f] = 124
      · have hc := h124
        clear h124 h33 h45 h43
        have t40 : ((r.s[f].toNat : Int) == 40) = false := by rw [hc]; rfl
        have t43 : ((r.s[f].toNat : Int) == 43) = false := by rw [hc]; rfl
        have t45 : ((r.s[f].toNat : Int) == 45) = false := by rw [hc]; rfl
        have t33 : ((r.s[f].toNat : Int) == 33) = false := by rw [hc]; rfl
        have t124 : ((r.s[f].toNat : Int) == 124) = true := by rw [hc]; rfl
        have e := opd_sign r (fun p dp => ex r m 1 0 p dp) p dp 124 hp (by rw [← HF.out, hcf, hc]) rfl
        rw [← HF.out] at e
        have HE := Lib.hid e
        clear e hc hcf h40
        go_wp2_with fail
        have hrec := HI.out (r.l.length - (f + 1)) (by omega) (f + 1) dp w1 (by omega) (by omega) hd (by omega)
        refine hrec.mono ?_
        rintro e w2 ⟨hb2, hm⟩
        cases hR : opdR r (fun p dp => ex r m 1 0 p dp) (f + 1) dp with
        | error x =>
          rw [hR] at hm
          obtain ⟨hx0, n, z, rfl⟩ := hm
          have hx : (x != 0) = true := by simpa using hx0
          have HRR := Lib.hid hR
          have HX0 := Lib.hid hx0
          have B2 := Lib.hid (B1.out.trans (hb2.mono B1.out.size))
          clear hR hb2 hx0 hrec
          go_wp2_with fail
          go_ret3
          exact ⟨B2.out, by rw [HE.out, HRR.out]; exact ⟨HX0.out, _, _, rfl⟩⟩
        | ok vz =>
          obtain ⟨v, z⟩ := vz
          rw [hR] at hm
          obtain ⟨v', g1, g2, rfl⟩ := hm
          have HRR := Lib.hid hR
          have G2 := Lib.hid g2
          have B2 := Lib.hid (B1.out.trans (hb2.mono B1.out.size))
          have bx := BX.out.below hb2
          have c0' := bx.c0
          have c4' := bx.c4
          have c5' := bx.c5
          have hv : -1000000000 ≤ v' ∧ v' ≤ 1000000000 := g1
          have hhr : -1000000000 ≤ r.hr ∧ r.hr ≤ 1000000000 := HR.out.ok.hr
          have G1 := Lib.hid g1
          clear hR hb2 g2 bx g1 hrec c0 c1 c2 c3 c4 c5
          cases hfm : r.fm with
          | true =>
            have HFM := Lib.hid hfm
            rw [hfm] at c5'
            clear hfm
            go_wp2_with fail
            go_ret3
            refine ⟨B2.out, ?_⟩
            rw [HE.out, HRR.out]
            simp only
            rw [if_pos HFM.out]
            exact ⟨0, by decide, (fun _ => rfl), rfl⟩
          | false =>
            have HFM := Lib.hid hfm
            rw [hfm] at c5'
            obtain rfl : v' = v := G2.out hfm
            clear hfm
            by_cases hok : ok9 (v' - r.hr)
            · have HOK := Lib.hid hok
              have HOD := Lib.hid (decide_eq_true hok)
              clear hok
              go_wp2_with (go_at_call 43; refine (rwithin_is _ true HOD.out _).mono ?_; rintro e w' ⟨rfl, rfl⟩)
              go_ret3
              refine ⟨B2.out, ?_⟩
              rw [HE.out, HRR.out]
              simp only
              rw [if_neg (by rw [HFM.out]; decide), show sgn r.hr 124 v' = .ok (v' - r.hr) by simp [sgn, chk, HOK.out]]
              exact ⟨_, HOK.out, (fun _ => rfl), rfl⟩
            · have HOK := Lib.hid hok
              have HOD := Lib.hid (decide_eq_false hok)
              clear hok
              go_wp2_with (go_at_call 43; refine (rwithin_is _ false HOD.out _).mono ?_; rintro e w' ⟨rfl, rfl⟩)
              go_ret3
              refine ⟨B2.out, ?_⟩
              rw [HE.out, HRR.out]
              simp only
              rw [if_neg (by rw [HFM.out]; decide), show sgn r.hr 124 v' = .error 5 by simp [sgn, chk, HOK.out]]
              exact ⟨by decide, _, _, rfl⟩
      · have hns : isSg r.s[f] = false := by
          unfold isSg
          simp only [Bool.or_eq_false_iff, beq_eq_false_iff_ne]
          exact ⟨⟨⟨h43, h45⟩, h33⟩, h124⟩
        have e := opd_else r (fun p dp => ex r m 1 0 p dp) p dp r.s[f] (by rw [← HF.out]; exact hcf) h40 hns
        rw [← HF.out] at e
        have HE := Lib.hid e
        have t40 : ((r.s[f].toNat : Int) == 40) = false := ne_b h40
        have t43 : ((r.s[f].toNat : Int) == 43) = false := ne_b h43
        have t45 : ((r.s[f].toNat : Int) == 45) = false := ne_b h45
        have t33 : ((r.s[f].toNat : Int) == 33) = false := ne_b h33
        have t124 : ((r.s[f].toNat : Int) == 124) = false := ne_b h124
        have hnu := rnumber_any r f HR.out.ok hfl w1
        have HNU := Lib.hid hnu
        clear e hns hcf h40 h43 h45 h33 h124 hnu
        go_wp2_with fail
        refine HNU.out.mono ?_
        rintro e w2 ⟨hb2, hm⟩
        have B2 := Lib.hid (B1.out.trans (hb2.mono B1.out.size))
        have bx := BX.out.below hb2
        have c5' := bx.c5
        clear hb2 bx c0 c1 c2 c3 c4 c5
        cases hN : numS r.l r.sc r.sz r.vs f with
        | none =>
          rw [hN] at hm
          obtain rfl := hm
          have e2 : numR r f = .error 4 := by unfold numR; rw [hN]
          have HE2 := Lib.hid e2
          clear hN e2
          cases hfm : r.fm with
          | true =>
            rw [hfm] at c5'
            clear hfm
            go_wp2_with fail
            go_ret3
            exact ⟨B2.out, by rw [HE.out, HE2.out]; exact ⟨by decide, _, _, rfl⟩⟩
          | false =>
            rw [hfm] at c5'
            clear hfm
            go_wp2_with fail
            go_ret3
            exact ⟨B2.out, by rw [HE.out, HE2.out]; exact ⟨by decide, _, _, rfl⟩⟩
        | some vz =>
          obtain ⟨v, z⟩ := vz
          rw [hN] at hm
          simp only at hm
          by_cases hok : ok9 v
          · rw [if_pos hok] at hm
            obtain rfl := hm
            have e2 : numR r f = .ok (v, z) := by unfold numR; rw [hN]; simp only; rw [if_pos hok]
            have HE2 := Lib.hid e2
            have HOK := Lib.hid hok
            clear hN e2 hok
            cases hfm : r.fm with
            | true =>
              have HFM := Lib.hid hfm
              rw [hfm] at c5'
              clear hfm
              go_wp2_with fail
              go_ret3
              refine ⟨B2.out, ?_⟩
              rw [HE.out, HE2.out]
              simp only
              rw [if_pos HFM.out]
              exact ⟨v, HOK.out, (fun h => by rw [HFM.out] at h; cases h), rfl⟩
            | false =>
              have HFM := Lib.hid hfm
              rw [hfm] at c5'
              clear hfm
              go_wp2_with fail
              go_ret3
              refine ⟨B2.out, ?_⟩
              rw [HE.out, HE2.out]
              simp only
              rw [if_neg (by rw [HFM.out]; decide)]
              exact ⟨v, HOK.out, (fun _ => rfl), rfl⟩
          · rw [if_neg hok] at hm
            obtain rfl := hm
            have HOK := Lib.hid hok
            have HNN := Lib.hid hN
            clear hN hok
            cases hfm : r.fm with
            | true =>
              have HFM := Lib.hid hfm
              rw [hfm] at c5'
              clear hfm
              go_wp2_with fail
              go_ret3
              refine ⟨B2.out, ?_⟩
              rw [HE.out]
              unfold numR
              rw [HNN.out]
              simp only
              rw [if_neg HOK.out, if_pos HFM.out]
              simp only
              rw [if_pos HFM.out]
              exact ⟨0, by decide, (fun _ => rfl), rfl⟩
            | false =>
              have HFM := Lib.hid hfm
              rw [hfm] at c5'
              clear hfm
              go_wp2_with fail
              go_ret3
              refine ⟨B2.out, ?_⟩
              rw [HE.out]
              unfold numR
              rw [HNN.out]
              simp only
              rw [if_neg HOK.out, if_neg (by rw [HFM.out]; decide)]
              exact ⟨by decide, _, _, rfl⟩
  · have e := opd_none r (fun p dp => ex r m 1 0 p dp) p dp (by rw [← HF.out]; omega)
    have HE := Lib.hid e
    clear e
    go_wp2_with fail
    go_ret3
    exact ⟨B1.out, by rw [HE.out]; exact ⟨by decide, _, _, rfl⟩⟩
end
end Go.Proofs.YteihpeffaeahlaaDoor
