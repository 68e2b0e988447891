/- The document's Condition. -/
import Derived.Test.YtnffmlfapccgkaaDoorZ5
namespace Go.Proofs.YtnffmlfapccgkaaDoor
open Go.RowKit Go.Shelf
set_option maxRecDepth 100000
set_option linter.unusedSimpArgs false
set_option linter.unusedVariables false
theorem rcond_end {F : Func} {a : Act} {W' : World} {t u g : Nat} {c0 c1 c2 c3 c4 c5 x : Value} {Q : Ending → World → Prop} (hF : F.results = #[.cell t 57, .tmp u]) (hd : a.defers = []) (h2 : a.tmps.getD t undef = .pointer (some ⟨g, 0, none⟩)) (h3 : a.tmps.getD u undef = x)
    (hg : W'.heap[g]? = some (.cells #[c0, c1, c2, c3, c4, c5] 57 (0, 0))) (hQ : Q (.returned (.tuple #[.agg #[c0, c1, c2, c3, c4, c5], x])) W') : bodyPost Tryd.prog F Q Exit.ret a W' := by
  have h2' : a.tmps[t]?.getD undef = .pointer (some ⟨g, 0, none⟩) := by simpa using h2
  have h3' : a.tmps[u]?.getD undef = x := by simpa using h3
  obtain ⟨⟨e0, e1, e2, e3, e4, e5⟩, _⟩ := blk6 hg
  refine bodyPost_ret (v := .tuple #[.agg #[c0, c1, c2, c3, c4, c5], x]) ?_ hd hQ
  simp [results, hF, h2', h3', go_sem, e0, e1, e2, e3, e4, e5]
theorem qS_of (c : UInt8) (h : bl c = false) (h33 : c ≠ 33) : qS c = !(ld c || inB c) := by
  have hh : ∀ n, n < 256 → (bl (UInt8.ofNat n) || UInt8.ofNat n == 33 || (qS (UInt8.ofNat n) == !(ld (UInt8.ofNat n) || inB (UInt8.ofNat n)))) = true := by decide +kernel
  have := hh c.toNat c.toNat_lt
  rw [UInt8.ofNat_toNat, h] at this
  have h2 : (c == 33) = false := by simpa using h33
  rw [h2] at this
  simpa using this
theorem inA_four (c : UInt8) (h : inA c = true) (hd : ¬ (c = 100 ∨ c = 114)) : c = 111 ∨ c = 101 ∨ c = 116 ∨ c = 110 := by
  have hh : ∀ n, n < 256 → (!inA (UInt8.ofNat n) || UInt8.ofNat n == 100 || UInt8.ofNat n == 114 || UInt8.ofNat n == 111 || UInt8.ofNat n == 101 || UInt8.ofNat n == 116 || UInt8.ofNat n == 110) = true := by decide +kernel
  have := hh c.toNat c.toNat_lt
  rw [UInt8.ofNat_toNat, h] at this
  simp only [Bool.not_true, Bool.false_or, Bool.or_eq_true, beq_iff_eq] at this
  rcases this with (((((h | h) | h) | h) | h) | h)
  · exact absurd (.inl h) hd
  · exact absurd (.inr h) hd
  · exact .inl h
  · exact .inr (.inl h)
  · exact .inr (.inr (.inl h))
  · exact .inr (.inr (.inr h))
theorem rcond_bad (l : List UInt8) (hl : l.length ≤ 100000) (h : okTx l = false) (w : World) : Calls Tryd.prog 27 #[.string (bs l)] w fun e w' => e = .returned (condV l) ∧ Below w.heap.size w w' := by
  have HV := Lib.hid (fun W => rIsLine_any (bs l) (by rw [bs_size]; unfold maxLen; omega) W)
  rw [bs_list, h] at HV
  have HE := Lib.hid (heap_alloc_new w (.cells zC 57))
  have HB := Lib.hid (bel0 w (.cells zC 57))
  have HQ := Lib.hid (show condV l = noC 1 by unfold condV; rw [h]; rfl)
  rw [HQ.out]
  clear h HQ
  go_enter Tryd.func27, Tryd.ntmps27
  go_wp2_with fail
  refine (HV.out _).mono ?_
  rintro e w1 ⟨rfl, hw⟩
  rw [← hw]
  clear hw
  go_wp2_with fail
  exact rcond_end (t := 2) (u := 3) (g := w.heap.size) rfl rfl rfl rfl HE.out ⟨rfl, HB.out⟩
theorem exN_mark (l : List UInt8) (j : Nat) (h : l[j]? = some 33) : exN (l.drop j) = exN (l.drop (j + 1)) := by
  rw [drop_of h]; rfl
theorem exN_stop (l : List UInt8) (j : Nat) (h : ∀ c, l[j]? = some c → c ≠ 33) : exN (l.drop j) = l.drop j := by
  cases hc : l[j]? with
  | none => rw [List.drop_eq_nil_of_le (List.getElem?_eq_none_iff.1 hc)]; rfl
  | some c =>
    rw [drop_of hc]
    unfold exN
    rw [List.dropWhile_cons, if_neg (by simpa using h c hc)]
def CrR (l : List UInt8) (p0 : Nat) (w : World) (k : Nat) (x : Value) (wr : World) : Prop :=
  ∃ (j : Nat) (nt : Bool), l.length ≤ j + k ∧ p0 ≤ j ∧ j ≤ l.length ∧ x = .int .i64 (j : Int) ∧ exN (l.drop p0) = exN (l.drop j) ∧ nt = ((j - p0) % 2 == 1) ∧
    wr.heap[w.heap.size + 1]? = some (.cells #[.bool nt, .int .u8 0, .string ⟨#[]⟩, .string ⟨#[]⟩, .string ⟨#[]⟩, .string ⟨#[]⟩] 57 (0, 0)) ∧ wr.heap[w.heap.size]? = some (.cells zC 57 (0, 0)) ∧ Below w.heap.size w wr
set_option maxHeartbeats 16000000 in
theorem rcond_good (l : List UInt8) (h : okTx l = true) (hl : l.length ≤ 100000) (w : World) : Calls Tryd.prog 27 #[.string (bs l)] w fun e w' => e = .returned (condV l) ∧ Below w.heap.size w w' := by
  have HV := Lib.hid (fun W => rIsLine_any (bs l) (by rw [bs_size]; unfold maxLen; omega) W)
  rw [bs_list, h] at HV
  have HQ := Lib.hid (show condV l = cnR (ntS l) (exN (skB l)) by unfold condV; rw [h]; rfl)
  obtain ⟨V, hVV⟩ : ∃ V, V = condV l := ⟨_, rfl⟩
  rw [← hVV] at HQ ⊢
  have HS0 := Lib.hid (fun W => rskip_any l 0 (Nat.zero_le _) (by omega) W)
  obtain ⟨S, hS⟩ : ∃ S, S = bs l := ⟨_, rfl⟩
  have HSZ := Lib.hid (show S.size = l.length by rw [hS, bs_size])
  have hS9 : S.size ≤ 100000 := by rw [hS, bs_size]; exact hl
  have HSK := Lib.hid (fun (a : Nat) (ha : a ≤ l.length) W => rskip_any l a ha (by omega) W)
  have HWO := Lib.hid (fun (a : Nat) (ha : a ≤ l.length) W => rword_any l a ha (by omega) W)
  have HTO := Lib.hid (fun (c : UInt8) (a : Nat) (ha : a ≤ l.length) W => rto_any c l a ha hl W)
  have HSEG := Lib.hid (fun (x y : Nat) (hy : y ≤ l.length) => bs_seg l x y hy)
  have HDR := Lib.hid (fun (x : Nat) (hx : x ≤ l.length) => (show S.extract x S.size = bs (l.drop x) by rw [hS, bs_seg l x _ (by rw [bs_size]; exact Nat.le_refl _), bs_size]; unfold seg; rw [List.take_of_length_le (Nat.le_refl _)]))
  have HAT : Hid (∀ (j : Nat) (c : UInt8), l[j]? = some c → ∃ hj : j < S.size, S[j]'hj = c) := Lib.hid fun j c hc => by
    subst hS
    exact ⟨by rw [bs_size]; exact lt_of_some hc, bs_at hc _⟩
  rw [← hS] at HV HS0 HSK HWO HTO HSEG ⊢
  have HL := Lib.hid hl
  obtain ⟨T2, T1, TZ⟩ := two_new w (.cells zC 57) (.cells zC 57)
  have H2 := Lib.hid T2
  have H1 := Lib.hid T1
  have HBW := Lib.hid ((bel0 w (.cells zC 57)).trans ((bel0 (w.alloc (.cells zC 57)) (.cells zC 57)).mono (by simp)))
  have HNE : Hid (w.heap.size ≠ w.heap.size + 1) := Lib.hid (by omega)
  have HWC : Hid (w.heap.size ≤ w.heap.size + 1) := Lib.hid (by omega)
  clear h hVV hS T2 T1 TZ hl
  go_enter Tryd.func27, Tryd.ntmps27
  go_wp2_with fail
  refine (HV.out _).mono ?_
  rintro e w1 ⟨rfl, hw⟩
  rw [← hw]
  clear hw
  go_wp2_with fail
  refine (HS0.out _).mono ?_
  rintro e w1 ⟨p0, rfl, _, hp0, hd0, hw⟩
  rw [← hw]
  clear hw
  have HP0 := Lib.hid (And.intro hp0 hd0)
  clear hp0 hd0
  go_wp2_with fail
  go_loopg [5] l.length (fun k x wr => CrR l p0 w k x wr)
  case atStart => exact ⟨p0, false, by have := HP0.out.1; omega, Nat.le_refl _, HP0.out.1, rfl, rfl, by simp, H1.out, H2.out, HBW.out⟩
  case round =>
    obtain ⟨j, nt, hk, hpj, hj, rfl, hex, hnt, hC, hB, hbl⟩ := hrel
    have HK := Lib.hid hk
    have HEX := Lib.hid hex
    have HNT := Lib.hid hnt
    have HCr := Lib.hid hC
    have HBr := Lib.hid hB
    have HBl := Lib.hid hbl
    obtain ⟨⟨kc0, kc1, kc2, kc3, kc4, kc5⟩, ⟨fc0, fc1, fc2, fc3, fc4, fc5⟩⟩ := blk6 hC
    obtain ⟨⟨jb0, jb1, jb2, jb3, jb4, jb5⟩, ⟨gb0, gb1, gb2, gb3, gb4, gb5⟩⟩ := blk6 hB
    have hjz : j ≤ 100000 := by have := HL.out; omega
    clear hk hex hnt hC hB hbl
    by_cases hm : l[j]? = some 33
    · obtain ⟨hjs, hat⟩ := HAT.out j 33 hm
      have d1 : decide (j < S.size) = true := decide_eq_true hjs
      have t1 : ((S[j].toNat : Int) == 33) = true := by rw [hat]; rfl
      have HE := Lib.hid (exN_mark l j hm)
      have hlt := lt_of_some hm
      have HNN := Lib.hid (show (!nt) = ((j + 1 - p0) % 2 == 1) by
        rw [HNT.out]
        rcases (show (j - p0) % 2 = 0 ∨ (j - p0) % 2 = 1 by omega) with e | e
        · rw [e, show (j + 1 - p0) % 2 = 1 by omega]; rfl
        · rw [e, show (j + 1 - p0) % 2 = 0 by omega]; rfl)
      clear hat hm
      go_wp2_with fail
      go_roundg (gk - 1)
      case measure => have := HK.out; omega
      case rel => exact ⟨j + 1, !nt, by have := HK.out; omega, by omega, by omega, by go_num, by rw [HEX.out, HE.out], HNN.out, set_at (k := 0) _ HCr.out, (set_ne HNE.out _).trans HBr.out, set_bel HBl.out HWC.out _⟩
    · have HQ2 := Lib.hid (show V = cnR nt (l.drop j) by
        have he : exN (skB l) = l.drop j := by
          rw [← List.drop_zero (l := l), ← HP0.out.2, HEX.out]
          exact exN_stop l j (fun c hc e => hm (by rw [hc, e]))
        rw [HQ.out, he, HNT.out]
        congr 1
        unfold ntS
        rw [he, show skB l = l.drop p0 by rw [HP0.out.2, List.drop_zero], List.length_drop, List.length_drop]
        rw [show l.length - p0 - (l.length - j) = j - p0 by have := HP0.out.1; omega])
      by_cases hlt : j < l.length
      case neg =>
        have d1 : decide (j < S.size) = false := decide_eq_false (by rw [HSZ.out]; exact hlt)
        have d2 : ((j : Int) == (S.size : Int)) = true := by rw [HSZ.out, beq_iff_eq]; omega
        have HV2 := Lib.hid (show V = noC 4 by rw [HQ2.out, List.drop_eq_nil_of_le (by omega)]; rfl)
        clear hm hlt
        go_wp2_with fail
        rw [HV2.out]
        exact rcond_end (t := 2) (u := 3) (g := w.heap.size) rfl rfl rfl rfl (put6_at HBr.out) ⟨rfl, put6_bel HBl.out (Nat.le_refl _)⟩
      obtain ⟨c, hc⟩ := some_of l j hlt
      obtain ⟨hjs, hat⟩ := HAT.out j c hc
      have d1 : decide (j < S.size) = true := decide_eq_true hjs
      have h33 : c ≠ 33 := fun e => hm (by rw [hc, e])
      have t1 : ((S[j].toNat : Int) == 33) = false := by rw [hat]; exact nb c 33 h33
      have d2 : ((j : Int) == (S.size : Int)) = false := beq_eq_false_iff_ne.2 (by omega)
      have hbx : Hid (∀ W, Calls Tryd.prog 51 #[.int .u8 (S[j].toNat : Int)] W fun e w' => e = .returned (.bool (bl c)) ∧ W = w') := Lib.hid (fun W => by rw [hat]; exact rblank_any c W)
      have HQ3 := Lib.hid (show V = cnR nt (c :: l.drop (j + 1)) by rw [HQ2.out, drop_of hc])
      clear hm
      cases hb : bl c with
      | true =>
        rw [hb] at hbx
        have HV2 := Lib.hid (show V = noC 4 by rw [HQ3.out, (cn_bl nt c _ hb).1])
        clear hc hat hb h33
        go_wp2_with fail
        refine (hbx.out _).mono ?_
        rintro e w2 ⟨rfl, hw⟩
        rw [← hw]
        clear hw
        go_wp2_with fail
        rw [HV2.out]
        exact rcond_end (t := 2) (u := 3) (g := w.heap.size) rfl rfl rfl rfl (put6_at HBr.out) ⟨rfl, put6_bel HBl.out (Nat.le_refl _)⟩
      | false =>
        rw [hb] at hbx
        have HXJ := Lib.hid hat
        clear hat
        go_wp2_with fail
        refine (hbx.out _).mono ?_
        rintro e w2 ⟨rfl, hw⟩
        rw [← hw]
        clear hw
        have hj1 : j + 1 ≤ l.length := hlt
        by_cases hd : c = 100 ∨ c = 114
        · obtain ⟨hV, _⟩ := cn_d nt c (l.drop (j + 1)) hb hd
          have hcB := cutB_step l j c hc hb
          have HV1 := Lib.hid (show V = _ by rw [HQ3.out, hV])
          have q1 : ((S[j].toNat : Int) == 111) = false := by rw [HXJ.out]; rcases hd with rfl | rfl <;> rfl
          have q2 : ((S[j].toNat : Int) == 101) = false := by rw [HXJ.out]; rcases hd with rfl | rfl <;> rfl
          have q3 : ((S[j].toNat : Int) == 116) = false := by rw [HXJ.out]; rcases hd with rfl | rfl <;> rfl
          have q4 : ((S[j].toNat : Int) == 110) = false := by rw [HXJ.out]; rcases hd with rfl | rfl <;> rfl
          have hcase : ((S[j].toNat : Int) == 100) = true ∨ (((S[j].toNat : Int) == 100) = false ∧ ((S[j].toNat : Int) == 114) = true) := by
            rw [HXJ.out]; rcases hd with rfl | rfl
            · left; rfl
            · right; exact ⟨rfl, rfl⟩
          have HWJ := Lib.hid (fun W => HWO.out j hj W)
          have HCB := Lib.hid hcB
          have HC := Lib.hid hc
          clear hc hb h33 hV hcB hd
          rcases hcase with q5 | ⟨q5, q6⟩
          all_goals
            go_wp2_with fail
            refine (HWJ.out _).mono ?_
            rintro e w2 ⟨p, rfl, hp1, hp2, hp3, hw⟩
            rw [← hw]
            clear hw
            have hseg : seg l j p = c :: (cutB (l.drop (j + 1))).1 ∧ l.drop (p + 1) = (cutB (l.drop (j + 1))).2 := by
              rw [HCB.out] at hp3
              injection hp3 with h1 h2
              exact ⟨h1.symm, h2.symm⟩
            have hpj1 : j + 1 ≤ p := by
              have := congrArg List.length hseg.1
              rw [seg_len _ _ _ hp2, List.length_cons] at this
              omega
            have hnm : (cutB (l.drop (j + 1))).1 = seg l (j + 1) p := by
              have h1 := hseg.1
              rw [← seg_app l j (j + 1) p (by omega) hpj1 hp2, show seg l j (j + 1) = [c] from take_of HC.out] at h1
              injection h1 with _ h1
              exact h1.symm
            have HWB := Lib.hid (word_behind l j p hp1 hp2 hp3)
            have HNM := Lib.hid hnm
            have HSG := Lib.hid hseg.2
            by_cases hpe : p = j + 1
            · have r1 : ((p : Int) == (j : Int) + 1) = true := by rw [beq_iff_eq]; omega
              have HV2 := Lib.hid (show V = noC 4 by rw [HV1.out, if_pos (by rw [hnm, hpe, seg_self])])
              have HPE := Lib.hid hpe
              clear hp1 hp2 hp3 hseg hpj1 hnm hpe
              go_wp2_with fail
              rw [HV2.out]
              exact rcond_end (t := 2) (u := 3) (g := w.heap.size) rfl rfl rfl rfl (put6_at HBr.out) ⟨rfl, put6_bel HBl.out (Nat.le_refl _)⟩
            · have r1 : ((p : Int) == (j : Int) + 1) = false := beq_eq_false_iff_ne.2 (by omega)
              have HV2 := Lib.hid (show V = okC nt c (seg l (j + 1) p) [] [] (l.drop (p + 1)) by
                rw [HV1.out, if_neg (by
                  rw [hnm]
                  intro e
                  have := congrArg List.length e
                  rw [seg_len _ _ _ hp2] at this
                  simp at this; omega), hnm, ← hseg.2])
              have hps : p ≤ S.size := by rw [HSZ.out]; exact hp2
              have HXN := Lib.hid (HSEG.out (j + 1) p hp2)
              have HSKA := Lib.hid (fun W => HSK.out p hp2 W)
              have hpz : p ≤ 100000 := by omega
              clear hp1 hp2 hp3 hseg hnm hpe
              go_wp2_with fail
              refine (HSKA.out _).mono ?_
              rintro e wy ⟨p2, rfl, hp1, hp2, hp3, hw⟩
              rw [← hw]
              clear hw
              have HX2 := Lib.hid (HDR.out p2 hp2)
              have HP3 := Lib.hid hp3
              have p2s : p2 ≤ S.size := by rw [HSZ.out]; exact hp2
              clear hp1 hp2 hp3
              go_wp2_with fail
              rw [HV2.out]
              exact rcond_end (t := 2) (u := 3) (g := w.heap.size) rfl rfl rfl rfl (put6_at ((set_ne HNE.out _).trans ((set_ne HNE.out _).trans ((set_ne HNE.out _).trans HBr.out)))) ⟨by rw [HX2.out, HXN.out, HP3.out, HWB.out, HXJ.out]; rfl, put6_bel (set_bel (set_bel (set_bel HBl.out HWC.out _) HWC.out _) HWC.out _) (Nat.le_refl _)⟩
        · have q5 : ((S[j].toNat : Int) == 100) = false := by rw [HXJ.out]; exact nb c 100 (fun e => hd (.inl e))
          have q6 : ((S[j].toNat : Int) == 114) = false := by rw [HXJ.out]; exact nb c 114 (fun e => hd (.inr e))
          have hcast : ((j + 1 : Nat) : Int) = (j : Int) + 1 := by omega
          cases hA : inA c with
          | true =>
            have HV2 := Lib.hid (show V = okC nt c [] [] [] (l.drop (j + 1)) by rw [HQ3.out, (cn_o nt c _ hb hd hA).1])
            have HSKA := Lib.hid (fun W => HSK.out (j + 1) hj1 W)
            rw [hcast] at HSKA
            have h4 := inA_four c hA hd
            have hqs : ((S[j].toNat : Int) == 111) = true ∨ (((S[j].toNat : Int) == 111) = false ∧ ((S[j].toNat : Int) == 101) = true) ∨ (((S[j].toNat : Int) == 111) = false ∧ ((S[j].toNat : Int) == 101) = false ∧ ((S[j].toNat : Int) == 116) = true) ∨ (((S[j].toNat : Int) == 111) = false ∧ ((S[j].toNat : Int) == 101) = false ∧ ((S[j].toNat : Int) == 116) = false ∧ ((S[j].toNat : Int) == 110) = true) := by
              rw [HXJ.out]
              rcases h4 with rfl | rfl | rfl | rfl
              · exact .inl rfl
              · exact .inr (.inl ⟨rfl, rfl⟩)
              · exact .inr (.inr (.inl ⟨rfl, rfl, rfl⟩))
              · exact .inr (.inr (.inr ⟨rfl, rfl, rfl, rfl⟩))
            clear hc hb h33 hd hA h4 hcast
            rcases hqs with q1 | ⟨q1, q2⟩ | ⟨q1, q2, q3⟩ | ⟨q1, q2, q3, q4⟩
            all_goals
              go_wp2_with fail
              refine (HSKA.out _).mono ?_
              rintro e wy ⟨p2, rfl, hp1, hp2, hp3, hw⟩
              rw [← hw]
              clear hw
              have HX2 := Lib.hid (HDR.out p2 hp2)
              have HP3 := Lib.hid hp3
              have p2s : p2 ≤ S.size := by rw [HSZ.out]; exact hp2
              clear hp1 hp2 hp3
              go_wp2_with fail
              rw [HV2.out]
              exact rcond_end (t := 2) (u := 3) (g := w.heap.size) rfl rfl rfl rfl (put6_at ((set_ne HNE.out _).trans ((set_ne HNE.out _).trans HBr.out))) ⟨by rw [HX2.out, HP3.out, HXJ.out]; rfl, put6_bel (set_bel (set_bel HBl.out HWC.out _) HWC.out _) (Nat.le_refl _)⟩
          | false =>
            have q1 : ((S[j].toNat : Int) == 111) = false := by rw [HXJ.out]; exact nb c 111 (fun e => by rw [e] at hA; exact absurd hA (by decide))
            have q2 : ((S[j].toNat : Int) == 101) = false := by rw [HXJ.out]; exact nb c 101 (fun e => by rw [e] at hA; exact absurd hA (by decide))
            have q3 : ((S[j].toNat : Int) == 116) = false := by rw [HXJ.out]; exact nb c 116 (fun e => by rw [e] at hA; exact absurd hA (by decide))
            have q4 : ((S[j].toNat : Int) == 110) = false := by rw [HXJ.out]; exact nb c 110 (fun e => by rw [e] at hA; exact absurd hA (by decide))
            have HQT : Hid (∀ W, Calls Tryd.prog 52 #[.int .u8 (S[j].toNat : Int)] W fun e w' => e = .returned (.bool (!(ld c || inB c))) ∧ W = w') := Lib.hid (fun W => by rw [HXJ.out, ← qS_of c hb h33]; exact rquotes_any c W)
            cases hx : (ld c || inB c) with
            | true =>
              rw [hx] at HQT
              have hcd : c :: l.drop (j + 1) = l.drop j := (drop_of hc).symm
              have HV1 := Lib.hid (show V = okC nt 120 (cutB (l.drop j)).1 [] [] (cutB (l.drop j)).2 by rw [HQ3.out, (cn_x nt c _ hb hA hx).1, hcd])
              have HWJ := Lib.hid (fun W => HWO.out j hj W)
              clear hc hb h33 hd hA hx hcast hcd
              go_wp2_with fail
              refine (HQT.out _).mono ?_
              rintro e w2 ⟨rfl, hw⟩
              rw [← hw]
              clear hw
              go_wp2_with fail
              refine (HWJ.out _).mono ?_
              rintro e w2 ⟨p, rfl, hp1, hp2, hp3, hw⟩
              rw [← hw]
              clear hw
              have HWB := Lib.hid (word_behind l j p hp1 hp2 hp3)
              have HV2 := Lib.hid (show V = okC nt 120 (seg l j p) [] [] (l.drop (p + 1)) by rw [HV1.out, hp3])
              have hps : p ≤ S.size := by rw [HSZ.out]; exact hp2
              have HXN := Lib.hid (HSEG.out j p hp2)
              have HSKA := Lib.hid (fun W => HSK.out p hp2 W)
              have hpz : p ≤ 100000 := by omega
              clear hp2 hp3
              go_wp2_with fail
              refine (HSKA.out _).mono ?_
              rintro e wy ⟨p2, rfl, hp1, hp2, hp3, hw⟩
              rw [← hw]
              clear hw
              have HX2 := Lib.hid (HDR.out p2 hp2)
              have HP3 := Lib.hid hp3
              have p2s : p2 ≤ S.size := by rw [HSZ.out]; exact hp2
              clear hp1 hp2 hp3
              go_wp2_with fail
              rw [HV2.out]
              exact rcond_end (t := 2) (u := 3) (g := w.heap.size) rfl rfl rfl rfl (put6_at ((set_ne HNE.out _).trans ((set_ne HNE.out _).trans ((set_ne HNE.out _).trans HBr.out)))) ⟨by rw [HX2.out, HXN.out, HP3.out, HWB.out]; rfl, put6_bel (set_bel (set_bel (set_bel HBl.out HWC.out _) HWC.out _) HWC.out _) (Nat.le_refl _)⟩
            | false =>
              rw [hx] at HQT
              have HV1 := Lib.hid (show V = _ by rw [HQ3.out, (cn_q nt c _ hb hA hx).1])
              have HT1 : Hid (∀ W, Calls Tryd.prog 44 #[.string S, .int .i64 ((j : Int) + 1), .int .u8 (S[j].toNat : Int)] W fun e w' => ToP c l (j + 1) e ∧ W = w') := Lib.hid (fun W => by
                have h := HTO.out c (j + 1) hj1 W
                rw [hcast] at h
                rw [HXJ.out]; exact h)
              clear hc hb h33 hd hA hx hcast
              go_wp2_with fail
              refine (HQT.out _).mono ?_
              rintro e w2 ⟨rfl, hw⟩
              rw [← hw]
              clear hw
              go_wp2_with fail
              refine (HT1.out _).mono ?_
              rintro e w2 ⟨⟨rfl, hn⟩ | ⟨p, rfl, hp1, hp2, hp3⟩, hw⟩
              · rw [← hw]
                clear hw
                have HV2 := Lib.hid (show V = noC 4 by rw [HV1.out]; unfold cutT; rw [hn])
                clear hn
                go_wp2_with fail
                rw [HV2.out]
                exact rcond_end (t := 2) (u := 3) (g := w.heap.size) rfl rfl rfl rfl (put6_at HBr.out) ⟨rfl, put6_bel HBl.out (Nat.le_refl _)⟩
              · rw [← hw]
                clear hw
                have hp1c : ((p + 1 : Nat) : Int) = (p : Int) + 1 := by omega
                have hp1l : p + 1 ≤ l.length := hp2
                have r1 : decide ((p : Int) < 0) = false := decide_eq_false (by omega)
                have HT2 : Hid (∀ W, Calls Tryd.prog 44 #[.string S, .int .i64 ((p : Int) + 1), .int .u8 (S[j].toNat : Int)] W fun e w' => ToP c l (p + 1) e ∧ W = w') := Lib.hid (fun W => by
                  have h := HTO.out c (p + 1) hp1l W
                  rw [hp1c] at h
                  rw [HXJ.out]; exact h)
                have hpz : p ≤ 100000 := by have := HL.out; omega
                have HP3' := Lib.hid hp3
                have hp2' := Lib.hid hp2
                clear hp1c hp3 hp2
                go_wp2_with fail
                refine (HT2.out _).mono ?_
                rintro e w2 ⟨⟨rfl, hn⟩ | ⟨u, rfl, hu1, hu2, hu3⟩, hw⟩
                · rw [← hw]
                  clear hw
                  have HV2 := Lib.hid (show V = noC 4 by rw [HV1.out]; unfold cutT; rw [HP3'.out]; dsimp only; rw [hn])
                  clear hn
                  go_wp2_with fail
                  rw [HV2.out]
                  exact rcond_end (t := 2) (u := 3) (g := w.heap.size) rfl rfl rfl rfl (put6_at HBr.out) ⟨rfl, put6_bel HBl.out (Nat.le_refl _)⟩
                · rw [← hw]
                  clear hw
                  have huc : ((u + 1 : Nat) : Int) = (u : Int) + 1 := by omega
                  have hul : u + 1 ≤ l.length := hu2
                  have r2 : decide ((u : Int) < 0) = false := decide_eq_false (by omega)
                  have HV2 := Lib.hid (show V = okC nt 39 [] (seg l (j + 1) p) (seg l (p + 1) u) (l.drop (u + 1)) by rw [HV1.out]; unfold cutT; rw [HP3'.out]; dsimp only; rw [hu3])
                  have hus : u ≤ S.size := by rw [HSZ.out]; omega
                  have hps : p ≤ S.size := by rw [HSZ.out]; omega
                  have HXN := Lib.hid (HSEG.out (j + 1) p (by omega))
                  have HXM := Lib.hid (HSEG.out (p + 1) u (by omega))
                  have HSKA := Lib.hid (fun W => HSK.out (u + 1) hul W)
                  rw [huc] at HSKA
                  have huz : u ≤ 100000 := by have := HL.out; omega
                  clear huc hul hu3
                  go_wp2_with fail
                  refine (HSKA.out _).mono ?_
                  rintro e wy ⟨p2, rfl, hp1, hp2, hp3, hw⟩
                  rw [← hw]
                  clear hw
                  have HX2 := Lib.hid (HDR.out p2 hp2)
                  have HP3 := Lib.hid hp3
                  have p2s : p2 ≤ S.size := by rw [HSZ.out]; exact hp2
                  clear hp1 hp2 hp3
                  go_wp2_with fail
                  rw [HV2.out]
                  exact rcond_end (t := 2) (u := 3) (g := w.heap.size) rfl rfl rfl rfl (put6_at ((set_ne HNE.out _).trans ((set_ne HNE.out _).trans ((set_ne HNE.out _).trans ((set_ne HNE.out _).trans HBr.out))))) ⟨by rw [HX2.out, HXN.out, HXM.out, HP3.out]; rfl, put6_bel (set_bel (set_bel (set_bel (set_bel HBl.out HWC.out _) HWC.out _) HWC.out _) HWC.out _) (Nat.le_refl _)⟩
theorem rcond_any (l : List UInt8) (hl : l.length ≤ 100000) (w : World) : Calls Tryd.prog 27 #[.string (bs l)] w fun e w' => e = .returned (condV l) ∧ Below w.heap.size w w' := by
  cases h : okTx l with
  | false => exact rcond_bad l hl h w
  | true => exact rcond_good l h hl w
end Go.Proofs.YtnffmlfapccgkaaDoor
