/- The document's Words. -/
import Derived.Test.YtnffmlfapccgkaaDoorV1
namespace Go.Proofs.YtnffmlfapccgkaaDoor
open Go.RowKit Go.Shelf
set_option maxRecDepth 100000
set_option linter.unusedSimpArgs false
set_option linter.unusedVariables false
theorem wds_at (l : List UInt8) (p : Nat) (h : skB (l.drop p) = l.drop p) (hp : p < l.length) : wds (l.drop p) = (wdS (l.drop p)).1 :: wds (wdS (l.drop p)).2 := by
  obtain ⟨c, hc⟩ := some_of l p hp
  rw [drop_of hc] at h ⊢
  exact wds_cons h
theorem head_nb (l : List UInt8) (p : Nat) (c : UInt8) (hc : l[p]? = some c) (h : skB (l.drop p) = l.drop p) : bl c = false := by
  rw [drop_of hc] at h
  exact skB_head h
theorem drop_add (l : List UInt8) (a k : Nat) : (l.drop a).drop k = l.drop (a + k) := List.drop_drop
theorem take_seg (l : List UInt8) (a k : Nat) : (l.drop a).take k = seg l a (a + k) := by unfold seg; rw [List.drop_take]; congr 1; omega
theorem wds_form (l : List UInt8) (p a : Nat) (q : List UInt8) (hs : skB (l.drop p) = l.drop p) (hp : p < l.length) (h : wdS (l.drop p) = (q ++ (l.drop a).take (tn (l.drop a)), (l.drop a).drop (tn (l.drop a)))) : wds (l.drop p) = (q ++ seg l a (a + tn (l.drop a))) :: wds (l.drop (a + tn (l.drop a))) := by
  rw [wds_at l p hs hp, h, take_seg, drop_add]
def RwR (l : List UInt8) (w : World) (k : Nat) (v x : Value) (wr : World) : Prop :=
  ∃ (p : Nat) (outs : List (List UInt8)), l.length ≤ p + k ∧ p ≤ l.length ∧ x = .int .i64 (p : Int) ∧ wds l = outs ++ wds (l.drop p) ∧ skB (l.drop p) = l.drop p ∧ outs.length ≤ p ∧ wr.ownsRow w.heap.size 9 1 v outs.length (outs.map encS) ∧ Below w.heap.size w wr
def RiR (l : List UInt8) (p k : Nat) (x o : Value) : Prop :=
  ∃ (j : Nat) (acc : List UInt8), l.length ≤ j + k ∧ p + 1 ≤ j ∧ j ≤ l.length ∧ x = .int .i64 (j : Int) ∧ o = .string (bs acc) ∧ acc.length ≤ j ∧ qt (l.drop (p + 1)) = (acc ++ (qt (l.drop j)).1, (qt (l.drop j)).2)
set_option maxHeartbeats 8000000 in
theorem rwords_any (l : List UInt8) (hl : l.length ≤ 100000) (w : World) : Calls Tryd.prog 14 #[.string (bs l)] w (WsP l w) := by
  obtain ⟨i0, hi0, hz0, hz1, hz2⟩ := info_parts info_str
  have HSZ := Lib.hid (bs_size l)
  have HS0 := Lib.hid (rskip_any l 0 (Nat.zero_le _) (by omega) w)
  go_enter Tryd.func14, Tryd.ntmps14
  go_wp2_with fail
  refine HS0.out.mono ?_
  rintro e w1 ⟨p0, rfl, _, hp0, hd0, hw⟩
  rw [← hw]
  clear hw
  have HP0 := Lib.hid (And.intro hp0 hd0)
  clear hd0
  go_wp2_with fail
  go_loopg [3, 4] l.length (fun k v x wr => RwR l w k v x wr)
  case atStart => exact ⟨p0, [], by omega, HP0.out.1, rfl, by rw [HP0.out.2, List.drop_zero, wds_sk]; rfl, by rw [HP0.out.2]; exact skB_idem _, Nat.zero_le _, World.ownsRow_nil _ _ _ _, Below.refl _ _⟩
  case round =>
    obtain ⟨p, outs, hk, hp, rfl, hwd, hsk, hol, hown, hb⟩ := hrel
    obtain ⟨o, cap, rfl, hcp1, hcp2⟩ := row_shape hown
    have HK := Lib.hid hk
    have HO := Lib.hid hown
    have HW0 := Lib.hid hwd
    have HB := Lib.hid hb
    have hsz := hb.size
    clear hk hown hwd hb
    by_cases hlt : p < l.length
    case neg =>
      have d1 : decide (p < (bs l).size) = false := decide_eq_false (by rw [HSZ.out]; exact hlt)
      have HF := Lib.hid (show wds l = outs by rw [HW0.out, List.drop_eq_nil_of_le (by omega), wds_nil (l := []) rfl]; simp)
      go_wp2_with fail
      go_ret
      unfold WsP
      rw [HF.out]
      have h1 := own_strs HO.out
      exact ⟨o, cap, rfl, h1, hcp2, hcp1, HB.out, own_new HO.out⟩
    obtain ⟨c, hc⟩ := some_of l p hlt
    have hps : p < (bs l).size := by rw [HSZ.out]; exact hlt
    have d1 : decide (p < (bs l).size) = true := decide_eq_true hps
    have hat := bs_at hc hps
    have hbl := head_nb l p c hc hsk
    have hn5 : outs.length ≤ p := hol
    have hpz : p ≤ 100000 := by omega
    have HW := HW0
    by_cases h34 : c = 34
    case neg =>
      have t1 : (((bs l)[p].toNat : Int) == 34) = false := by rw [hat]; exact nb _ 34 h34
      obtain ⟨a, ha⟩ : ∃ a, a = p := ⟨_, rfl⟩
      obtain ⟨q, hq⟩ : ∃ q : List UInt8, q = [] := ⟨_, rfl⟩
      have haL : a ≤ l.length := by omega
      have hqa : q.length ≤ a := by rw [hq]; simp
      have hpa : p < a + tn (l.drop a) := by
        rw [ha, drop_of hc]
        have := tn_pos (t := l.drop (p + 1)) hbl
        omega
      have HWS := Lib.hid (wds_form l p a q hsk hlt (by rw [ha, hq, drop_of hc, wdS_n _ h34]; simp))
      subst ha
      subst hq
      clear hc hat hbl h34 hol hsk
      obtain ⟨b, hbe⟩ : ∃ b, b = a + tn (l.drop a) := ⟨_, rfl⟩
      have htl := tn_end l a haL
      have HTL := Lib.hid (fun W => rtail_any l a haL hl W)
      rw [← hbe] at htl HTL hpa HWS
      obtain ⟨sg, hsg⟩ : ∃ sg, sg = seg l a b := ⟨_, rfl⟩
      have hsl : sg.length ≤ b - a := by rw [hsg, seg_len _ _ _ htl]; exact Nat.le_refl _
      have hab : a ≤ b := by omega
      rw [← hsg] at HTL HWS
      have HCAT := Lib.hid (show (⟨#[]⟩ : ByteArray) ++ bs sg = bs (([] : List UInt8) ++ sg) by first | (rw [← bs_app]; done) | (rw [← bs_app]; rfl))
      have hcs : ((⟨#[]⟩ : ByteArray) : ByteArray).size + (bs sg).size ≤ 1000000 := by
        rw [show ((⟨#[]⟩ : ByteArray) : ByteArray) = bs ([] : List UInt8) from rfl, bs_size, bs_size]; omega
      have HSKP := Lib.hid (fun W => rskip_any l b htl (by omega) W)
      have HPB := Lib.hid hpa
      have HN5 := Lib.hid hn5
      have HRW := Lib.hid (fun g e => (HO.out.lt g e).1)
      have HRA := Lib.hid (HO.out.alloc (.cells #[.string ((⟨#[]⟩ : ByteArray) ++ bs sg)] 9))
      have HSRC := Lib.hid (cell_one_new wr (.string ((⟨#[]⟩ : ByteArray) ++ bs sg)))
      clear hbe hsg hsl hpa
      go_wp2_with fail
      refine (HTL.out _).mono ?_
      rintro e w1 ⟨rfl, hw⟩
      rw [← hw]
      clear hw
      go_wp2_with (first
        | (at_builtin; refine wpList_append_own _ rfl _ _ 25 rfl w.heap.size 9 i0 (.string ⟨#[]⟩) 1 16 Tryd.underlying25 hi0 hz0 hz1 hz2 rfl (by decide) _ _ _ rfl HRA.out ⟨_, 0, none⟩ 1 1 [.string ((⟨#[]⟩ : ByteArray) ++ bs sg)] rfl rfl HSRC.out (fun u hu => by simp at hu; subst hu; rfl) (by unfold maxLen; omega) (by omega) (by simp; omega) ?_
           intro v1 w4 hown1 hgrow1 _
           rw [HCAT.out, outs_snoc] at hown1
           have HO4 := Lib.hid hown1
           have HG4 := Lib.hid hgrow1
           clear hown1 hgrow1))
      have HB4 := Lib.hid ((HB.out.trans ((bel0 wr (.cells #[.string ((⟨#[]⟩ : ByteArray) ++ bs sg)] 9)).mono hsz)).trans (grown_below HG4.out (fun g e => HRW.out g e) (by simp; omega)))
      go_wp2_with fail
      refine (HSKP.out _).mono ?_
      rintro e w6 ⟨p2, rfl, hb2, hp2, hd2, hw⟩
      rw [← hw]
      clear hw
      go_wp2_with fail
      go_roundg (gk - 1)
      case measure => have := HK.out; have := HPB.out; omega
      case rel =>
        have hwds := HWS.out
        exact ⟨p2, outs ++ [([] : List UInt8) ++ sg], by have := HK.out; have := HPB.out; omega, hp2, by go_num, by rw [hd2, wds_sk, HW.out, hwds]; simp, by rw [hd2]; exact skB_idem _, by rw [List.length_append]; have := HPB.out; have := HN5.out; simp only [List.length_cons, List.length_nil]; omega, by rw [List.length_append]; exact HO4.out, HB4.out⟩
    have t1 : (((bs l)[p].toNat : Int) == 34) = true := by rw [hat, h34]; rfl
    have HWQ := Lib.hid (show wdS (l.drop p) = ((qt (l.drop (p + 1))).1 ++ (qt (l.drop (p + 1))).2.take (tn (qt (l.drop (p + 1))).2), (qt (l.drop (p + 1))).2.drop (tn (qt (l.drop (p + 1))).2)) by rw [drop_of hc, h34, wdS_q])
    have HSK := Lib.hid hsk
    obtain ⟨g1, hg1⟩ : ∃ g1, g1 = gk := ⟨_, rfl⟩
    have hg2 := hg1.symm
    clear hc hat hbl h34 hol hsk hg1
    go_wp2_with fail
    go_loopg [4, 5] l.length (fun k x o wx => RiR l p k x o ∧ wx = wr)
    case atStart => exact ⟨⟨p + 1, [], by omega, Nat.le_refl _, by omega, by go_num, rfl, Nat.zero_le _, by simp⟩, rfl⟩
    case round =>
      obtain ⟨⟨j, acc, hk2, hpj, hj, rfl, rfl, hal, hqt⟩, hw⟩ := hrel
      subst hw
      have HK2 := Lib.hid hk2
      have HQT := Lib.hid hqt
      clear hk2 hqt
      have hjz : j ≤ 100000 := by omega
      by_cases hjl : j < l.length
      case neg =>
        have d2 : decide (j < (bs l).size) = false := decide_eq_false (by rw [HSZ.out]; exact hjl)
        obtain ⟨a, ha⟩ : ∃ a, a = j := ⟨_, rfl⟩
        obtain ⟨q, hq⟩ : ∃ q : List UInt8, q = acc := ⟨_, rfl⟩
        have haL : a ≤ l.length := by omega
        have hqa : q.length ≤ a := by rw [hq, ha]; exact hal
        have hpa : p < a + tn (l.drop a) := by omega
        have HWS := Lib.hid (wds_form l p a q HSK.out hlt (by
          rw [HWQ.out, HQT.out, ha, hq, List.drop_eq_nil_of_le (show l.length ≤ j by omega)]; simp [qt]))
        subst ha
        subst hq
        clear hal
        obtain ⟨b, hbe⟩ : ∃ b, b = a + tn (l.drop a) := ⟨_, rfl⟩
        have htl := tn_end l a haL
        have HTL := Lib.hid (fun W => rtail_any l a haL hl W)
        rw [← hbe] at htl HTL hpa HWS
        obtain ⟨sg, hsg⟩ : ∃ sg, sg = seg l a b := ⟨_, rfl⟩
        have hsl : sg.length ≤ b - a := by rw [hsg, seg_len _ _ _ htl]; exact Nat.le_refl _
        have hab : a ≤ b := by omega
        rw [← hsg] at HTL HWS
        have HCAT := Lib.hid (show bs q ++ bs sg = bs (q ++ sg) by first | (rw [← bs_app]; done) | (rw [← bs_app]; rfl))
        have hcs : (bs q : ByteArray).size + (bs sg).size ≤ 1000000 := by
          rw [show (bs q : ByteArray) = bs q from rfl, bs_size, bs_size]; omega
        have HSKP := Lib.hid (fun W => rskip_any l b htl (by omega) W)
        have HPB := Lib.hid hpa
        have HN5 := Lib.hid hn5
        have HRW := Lib.hid (fun g e => (HO.out.lt g e).1)
        have HRA := Lib.hid (HO.out.alloc (.cells #[.string (bs q ++ bs sg)] 9))
        have HSRC := Lib.hid (cell_one_new wr (.string (bs q ++ bs sg)))
        clear hbe hsg hsl hpa
        go_wp2_with fail
        refine (HTL.out _).mono ?_
        rintro e w1 ⟨rfl, hw⟩
        rw [← hw]
        clear hw
        go_wp2_with (first
          | (at_builtin; refine wpList_append_own _ rfl _ _ 25 rfl w.heap.size 9 i0 (.string ⟨#[]⟩) 1 16 Tryd.underlying25 hi0 hz0 hz1 hz2 rfl (by decide) _ _ _ rfl HRA.out ⟨_, 0, none⟩ 1 1 [.string (bs q ++ bs sg)] rfl rfl HSRC.out (fun u hu => by simp at hu; subst hu; rfl) (by unfold maxLen; omega) (by omega) (by simp; omega) ?_
             intro v1 w4 hown1 hgrow1 _
             rw [HCAT.out, outs_snoc] at hown1
             have HO4 := Lib.hid hown1
             have HG4 := Lib.hid hgrow1
             clear hown1 hgrow1))
        have HB4 := Lib.hid ((HB.out.trans ((bel0 wr (.cells #[.string (bs q ++ bs sg)] 9)).mono hsz)).trans (grown_below HG4.out (fun g e => HRW.out g e) (by simp; omega)))
        go_wp2_with fail
        refine (HSKP.out _).mono ?_
        rintro e w6 ⟨p2, rfl, hb2, hp2, hd2, hw⟩
        rw [← hw]
        clear hw
        go_wp2_with fail
        go_roundg (g1 - 1)
        case measure => have := HK.out; have := HPB.out; omega
        case rel =>
          have hwds := HWS.out
          exact ⟨p2, outs ++ [q ++ sg], by have := HK.out; have := HPB.out; omega, hp2, by go_num, by rw [hd2, wds_sk, HW.out, hwds]; simp, by rw [hd2]; exact skB_idem _, by rw [List.length_append]; have := HPB.out; have := HN5.out; simp only [List.length_cons, List.length_nil]; omega, by rw [List.length_append]; exact HO4.out, HB4.out⟩
      obtain ⟨d, hd⟩ := some_of l j hjl
      have hjs : j < (bs l).size := by rw [HSZ.out]; exact hjl
      have d2 : decide (j < (bs l).size) = true := decide_eq_true hjs
      have hdat := bs_at hd hjs
      by_cases hd34 : d = 34
      · have t2 : (((bs l)[j].toNat : Int) == 34) = true := by rw [hdat, hd34]; rfl
        by_cases hdd : l[j + 1]? = some 34
        · -- a doubled quote
          have hj1 := lt_of_some hdd
          have hjs1 : j + 1 < (bs l).size := by rw [HSZ.out]; exact hj1
          have d3 : ((j : Int) + 1 == ((bs l).size : Int)) = false := beq_eq_false_iff_ne.2 (by omega)
          have t3 : (((bs l)[j + 1].toNat : Int) != 34) = false := by rw [bs_at hdd hjs1]; rfl
          have e4 : j + 1 + 1 ≤ (bs l).size := hjs1
          have HXE := Lib.hid (show (bs l).extract (j + 1) (j + 1 + 1) = bs [34] by rw [bs_seg _ _ _ (by omega)]; unfold seg; rw [take_of hdd])
          have HX2 := Lib.hid (show bs acc ++ (bs l).extract (j + 1) (j + 1 + 1) = bs (acc ++ [34]) by rw [HXE.out, bs_app])
          have hss : (bs acc).size + ((bs l).extract (j + 1) (j + 1 + 1)).size ≤ 1000000 := by rw [HXE.out, bs_size, bs_size]; simp only [List.length_cons, List.length_nil]; omega
          have HQN := Lib.hid (show qt (l.drop (p + 1)) = ((acc ++ [34]) ++ (qt (l.drop (j + 2))).1, (qt (l.drop (j + 2))).2) by
            rw [HQT.out, drop_of hd, hd34, drop_of hdd, qt_dq]; simp)
          have HALN := Lib.hid (show (acc ++ [(34 : UInt8)]).length ≤ j + 2 by simp only [List.length_append, List.length_cons, List.length_nil]; omega)
          have HJ1 := Lib.hid hj1
          clear hd hdat hd34 hdd
          go_wp2_with fail
          rw [HX2.out]
          go_roundg (gk - 1)
          case measure => have := HK2.out; have := HJ1.out; omega
          case rel => exact ⟨⟨j + 2, acc ++ [34], by have := HK2.out; omega, by omega, by have := HJ1.out; omega, by go_num, rfl, HALN.out, HQN.out⟩, rfl⟩
        · -- the closing quote
          have HCL := Lib.hid (show qt (l.drop j) = ([], l.drop (j + 1)) by
            rw [drop_of hd, hd34]
            cases he : l.drop (j + 1) with
            | nil => rw [qt_end1]
            | cons x r =>
              rw [qt_end x r]
              intro e
              have : l[j + 1]? = some x := by
                have := congrArg (fun m => m[0]?) he
                simpa using this
              rw [this, e] at hdd
              exact hdd rfl)
          obtain ⟨a, ha⟩ : ∃ a, a = j + 1 := ⟨_, rfl⟩
          obtain ⟨q, hq⟩ : ∃ q : List UInt8, q = acc := ⟨_, rfl⟩
          have haL : a ≤ l.length := by omega
          have hqa : q.length ≤ a := by rw [hq, ha]; omega
          have hpa : p < a + tn (l.drop a) := by omega
          have HWS := Lib.hid (wds_form l p a q HSK.out hlt (by
            rw [HWQ.out, HQT.out, HCL.out, ha, hq]; simp))
          have hcase : ((j : Int) + 1 == ((bs l).size : Int)) = true ∨ (((j : Int) + 1 == ((bs l).size : Int)) = false ∧ ∃ h : j + 1 < (bs l).size, (((bs l)[j + 1].toNat : Int) != 34) = true) := by
            by_cases hj1 : j + 1 < l.length
            · right
              obtain ⟨x, hx⟩ := some_of l (j + 1) hj1
              have hjs1 : j + 1 < (bs l).size := by rw [HSZ.out]; exact hj1
              refine ⟨beq_eq_false_iff_ne.2 (by omega), hjs1, ?_⟩
              rw [bs_at hx hjs1]
              have : x ≠ 34 := fun e => hdd (by rw [hx, e])
              rw [show ((x.toNat : Int) != 34) = !(x == 34) from ne_u8 x 34]
              simpa using this
            · left
              rw [beq_iff_eq, HSZ.out]
              omega
          clear hd hdat hd34 hdd hal
          have hae : ((a : Nat) : Int) = (j : Int) + 1 := by omega
          subst hq
          rcases hcase with d3 | ⟨d3, hjs1, t3⟩
          · clear HCL
            obtain ⟨b, hbe⟩ : ∃ b, b = a + tn (l.drop a) := ⟨_, rfl⟩
            have htl := tn_end l a haL
            have HTL := Lib.hid (fun W => rtail_any l a haL hl W)
            rw [← hbe] at htl HTL hpa HWS
            obtain ⟨sg, hsg⟩ : ∃ sg, sg = seg l a b := ⟨_, rfl⟩
            have hsl : sg.length ≤ b - a := by rw [hsg, seg_len _ _ _ htl]; exact Nat.le_refl _
            have hab : a ≤ b := by omega
            rw [← hsg] at HTL HWS
            have HCAT := Lib.hid (show bs q ++ bs sg = bs (q ++ sg) by first | (rw [← bs_app]; done) | (rw [← bs_app]; rfl))
            have hcs : (bs q : ByteArray).size + (bs sg).size ≤ 1000000 := by
              rw [show (bs q : ByteArray) = bs q from rfl, bs_size, bs_size]; omega
            have HSKP := Lib.hid (fun W => rskip_any l b htl (by omega) W)
            have HPB := Lib.hid hpa
            have HN5 := Lib.hid hn5
            have HRW := Lib.hid (fun g e => (HO.out.lt g e).1)
            have HRA := Lib.hid (HO.out.alloc (.cells #[.string (bs q ++ bs sg)] 9))
            have HSRC := Lib.hid (cell_one_new wr (.string (bs q ++ bs sg)))
            rw [hae] at HTL
            clear hae
            clear hbe hsg hsl hpa
            go_wp2_with fail
            refine (HTL.out _).mono ?_
            rintro e w1 ⟨rfl, hw⟩
            rw [← hw]
            clear hw
            go_wp2_with (first
              | (at_builtin; refine wpList_append_own _ rfl _ _ 25 rfl w.heap.size 9 i0 (.string ⟨#[]⟩) 1 16 Tryd.underlying25 hi0 hz0 hz1 hz2 rfl (by decide) _ _ _ rfl HRA.out ⟨_, 0, none⟩ 1 1 [.string (bs q ++ bs sg)] rfl rfl HSRC.out (fun u hu => by simp at hu; subst hu; rfl) (by unfold maxLen; omega) (by omega) (by simp; omega) ?_
                 intro v1 w4 hown1 hgrow1 _
                 rw [HCAT.out, outs_snoc] at hown1
                 have HO4 := Lib.hid hown1
                 have HG4 := Lib.hid hgrow1
                 clear hown1 hgrow1))
            have HB4 := Lib.hid ((HB.out.trans ((bel0 wr (.cells #[.string (bs q ++ bs sg)] 9)).mono hsz)).trans (grown_below HG4.out (fun g e => HRW.out g e) (by simp; omega)))
            go_wp2_with fail
            refine (HSKP.out _).mono ?_
            rintro e w6 ⟨p2, rfl, hb2, hp2, hd2, hw⟩
            rw [← hw]
            clear hw
            go_wp2_with fail
            go_roundg (g1 - 1)
            case measure => have := HK.out; have := HPB.out; omega
            case rel =>
              have hwds := HWS.out
              exact ⟨p2, outs ++ [q ++ sg], by have := HK.out; have := HPB.out; omega, hp2, by go_num, by rw [hd2, wds_sk, HW.out, hwds]; simp, by rw [hd2]; exact skB_idem _, by rw [List.length_append]; have := HPB.out; have := HN5.out; simp only [List.length_cons, List.length_nil]; omega, by rw [List.length_append]; exact HO4.out, HB4.out⟩
          · clear HCL
            obtain ⟨b, hbe⟩ : ∃ b, b = a + tn (l.drop a) := ⟨_, rfl⟩
            have htl := tn_end l a haL
            have HTL := Lib.hid (fun W => rtail_any l a haL hl W)
            rw [← hbe] at htl HTL hpa HWS
            obtain ⟨sg, hsg⟩ : ∃ sg, sg = seg l a b := ⟨_, rfl⟩
            have hsl : sg.length ≤ b - a := by rw [hsg, seg_len _ _ _ htl]; exact Nat.le_refl _
            have hab : a ≤ b := by omega
            rw [← hsg] at HTL HWS
            have HCAT := Lib.hid (show bs q ++ bs sg = bs (q ++ sg) by first | (rw [← bs_app]; done) | (rw [← bs_app]; rfl))
            have hcs : (bs q : ByteArray).size + (bs sg).size ≤ 1000000 := by
              rw [show (bs q : ByteArray) = bs q from rfl, bs_size, bs_size]; omega
            have HSKP := Lib.hid (fun W => rskip_any l b htl (by omega) W)
            have HPB := Lib.hid hpa
            have HN5 := Lib.hid hn5
            have HRW := Lib.hid (fun g e => (HO.out.lt g e).1)
            have HRA := Lib.hid (HO.out.alloc (.cells #[.string (bs q ++ bs sg)] 9))
            have HSRC := Lib.hid (cell_one_new wr (.string (bs q ++ bs sg)))
            rw [hae] at HTL
            clear hae
            clear hbe hsg hsl hpa
            go_wp2_with fail
            refine (HTL.out _).mono ?_
            rintro e w1 ⟨rfl, hw⟩
            rw [← hw]
            clear hw
            go_wp2_with (first
              | (at_builtin; refine wpList_append_own _ rfl _ _ 25 rfl w.heap.size 9 i0 (.string ⟨#[]⟩) 1 16 Tryd.underlying25 hi0 hz0 hz1 hz2 rfl (by decide) _ _ _ rfl HRA.out ⟨_, 0, none⟩ 1 1 [.string (bs q ++ bs sg)] rfl rfl HSRC.out (fun u hu => by simp at hu; subst hu; rfl) (by unfold maxLen; omega) (by omega) (by simp; omega) ?_
                 intro v1 w4 hown1 hgrow1 _
                 rw [HCAT.out, outs_snoc] at hown1
                 have HO4 := Lib.hid hown1
                 have HG4 := Lib.hid hgrow1
                 clear hown1 hgrow1))
            have HB4 := Lib.hid ((HB.out.trans ((bel0 wr (.cells #[.string (bs q ++ bs sg)] 9)).mono hsz)).trans (grown_below HG4.out (fun g e => HRW.out g e) (by simp; omega)))
            go_wp2_with fail
            refine (HSKP.out _).mono ?_
            rintro e w6 ⟨p2, rfl, hb2, hp2, hd2, hw⟩
            rw [← hw]
            clear hw
            go_wp2_with fail
            go_roundg (g1 - 1)
            case measure => have := HK.out; have := HPB.out; omega
            case rel =>
              have hwds := HWS.out
              exact ⟨p2, outs ++ [q ++ sg], by have := HK.out; have := HPB.out; omega, hp2, by go_num, by rw [hd2, wds_sk, HW.out, hwds]; simp, by rw [hd2]; exact skB_idem _, by rw [List.length_append]; have := HPB.out; have := HN5.out; simp only [List.length_cons, List.length_nil]; omega, by rw [List.length_append]; exact HO4.out, HB4.out⟩
      · have t2 : (((bs l)[j].toNat : Int) == 34) = false := by rw [hdat]; exact nb _ 34 hd34
        have hbb := bh_le l j hjl
        have hbo := bh_of hd
        have HST := Lib.hid (qt_step l j d hd hd34)
        obtain ⟨x, hx⟩ : ∃ x, x = bh l j := ⟨_, rfl⟩
        rw [← hx] at hbb hbo HST
        have HXE := Lib.hid (show (bs l).extract j x = bs (seg l j x) from bs_seg _ _ _ hbb.2)
        have HX2 := Lib.hid (show bs acc ++ (bs l).extract j x = bs (acc ++ seg l j x) by rw [HXE.out, bs_app])
        have hss : (bs acc).size + ((bs l).extract j x).size ≤ 1000000 := by rw [HXE.out, bs_size, bs_size, seg_len _ _ _ hbb.2]; omega
        have HQN := Lib.hid (show qt (l.drop (p + 1)) = ((acc ++ seg l j x) ++ (qt (l.drop x)).1, (qt (l.drop x)).2) by
          rw [HQT.out, HST.out]; unfold seg; simp)
        have HALN := Lib.hid (show (acc ++ seg l j x).length ≤ x by rw [List.length_append, seg_len _ _ _ hbb.2]; omega)
        have HBB := Lib.hid hbb
        by_cases hn : d = 92 ∧ j + 1 < l.length
        · have hqe : x = j + 2 := by have h2 := hn.2; rw [hbo, if_pos hn.1, Nat.min_eq_left (by omega)]
          have t4 : (((bs l)[j].toNat : Int) == 92) = true := by rw [hdat, hn.1]; rfl
          have d3 : decide ((j : Int) + 1 < ((bs l).size : Int)) = true := decide_eq_true (by rw [HSZ.out]; have := hn.2; omega)
          have e4 : j + 2 ≤ (bs l).size := by rw [HSZ.out]; have := hn.2; omega
          clear hd hdat hd34 hbb hbo hx hn HST hal
          subst hqe
          go_wp2_with fail
          rw [HX2.out]
          go_roundg (gk - 1)
          case measure => have := HK2.out; have := HBB.out; omega
          case rel => exact ⟨⟨_, acc ++ seg l j _, by have := HK2.out; omega, by omega, HBB.out.2, by go_num, rfl, HALN.out, HQN.out⟩, rfl⟩
        · have hqe : x = j + 1 := by
            by_cases h92 : d = 92
            · have h2 : ¬ j + 1 < l.length := fun h => hn ⟨h92, h⟩
              rw [hbo, if_pos h92, Nat.min_eq_right (by omega)]; omega
            · rw [hbo, if_neg h92]
          have hcase : (((bs l)[j].toNat : Int) == 92) = false ∨ ((((bs l)[j].toNat : Int) == 92) = true ∧ decide ((j : Int) + 1 < ((bs l).size : Int)) = false) := by
            by_cases h92 : d = 92
            · right
              refine ⟨by rw [hdat, h92]; rfl, decide_eq_false ?_⟩
              rw [HSZ.out]
              have : ¬ j + 1 < l.length := fun h => hn ⟨h92, h⟩
              omega
            · left; rw [hdat]; exact nb _ 92 h92
          have e4 : j + 1 ≤ (bs l).size := by rw [HSZ.out]; omega
          clear hd hdat hd34 hbb hbo hx hn HST hal
          subst hqe
          rcases hcase with t4 | ⟨t4, d3⟩
          all_goals
            go_wp2_with fail
            rw [HX2.out]
            go_roundg (gk - 1)
            case measure => have := HK2.out; have := HBB.out; omega
            case rel => exact ⟨⟨_, acc ++ seg l j _, by have := HK2.out; omega, by omega, HBB.out.2, by go_num, rfl, HALN.out, HQN.out⟩, rfl⟩
end Go.Proofs.YtnffmlfapccgkaaDoor
