/- The code's words. -/
import Derived.Test.YtnffmlfapccgkaaDoorW3
namespace Go.Proofs.YtnffmlfapccgkaaDoor
open Go.RowKit Go.Shelf
set_option maxRecDepth 100000
set_option linter.unusedSimpArgs false
set_option linter.unusedVariables false
theorem tn_bl {c : UInt8} {t : List UInt8} (h : bl c = true) : tn (c :: t) = 0 := by
  cases t with
  | nil => simp [tn, h]
  | cons d t => simp [tn, h]
theorem tn_bs (d : UInt8) (t : List UInt8) : tn (92 :: d :: t) = 2 + tn t := by
  have : bl 92 = false := by decide
  simp [tn, this]
theorem tn_or {c : UInt8} (d : UInt8) (t : List UInt8) (h : bl c = false) (h2 : c ≠ 92) : tn (c :: d :: t) = 1 + tn (d :: t) := by simp [tn, h, h2]
theorem tn_one {c : UInt8} (h : bl c = false) : tn [c] = 1 := by simp [tn, h]
/-- A word goes on by a piece. -/
theorem tn_step (l : List UInt8) (j : Nat) (c : UInt8) (hc : l[j]? = some c) (h : bl c = false) : j + tn (l.drop j) = bh l j + tn (l.drop (bh l j)) := by
  have hb := bh_of hc
  have hj := lt_of_some hc
  by_cases hlast : j + 1 < l.length
  · obtain ⟨d, hd⟩ := some_of l (j + 1) hlast
    by_cases h92 : c = 92
    · have hbe : bh l j = j + 2 := by rw [hb, if_pos h92]; omega
      rw [hbe, drop_of hc, h92, drop_of hd, tn_bs, show l.drop (j + 1 + 1) = l.drop (j + 2) from rfl]; omega
    · have hbe : bh l j = j + 1 := by rw [hb, if_neg h92]
      rw [hbe, drop_of hc, drop_of hd, tn_or _ _ h h92]; omega
  · have he : l.drop (j + 1) = [] := List.drop_eq_nil_of_le (by omega)
    have hbe : bh l j = j + 1 := by rw [hb]; split <;> omega
    rw [hbe, drop_of hc, he, tn_one h]; simp [tn]
def TwR (t : List UInt8) (k : Nat) (a : Value) : Prop := ∃ j : Nat, t.length ≤ j + k ∧ j ≤ t.length ∧ a = .int .i64 (j : Int) ∧ tn t = j + tn (t.drop j)
set_option maxHeartbeats 4000000 in
theorem cutWord_any (c0 : UInt8) (t0 : List UInt8) (ht : t0.length + 1 ≤ 1000000) (w : World) : Calls Tryd.prog 24 #[.string (bs (c0 :: t0))] w fun e w' => e = .returned (.tuple #[.string (bs (wdS (c0 :: t0)).1), .string (bs (wdS (c0 :: t0)).2)]) ∧ Below w.heap.size w w' := by
  have hat : (bs (c0 :: t0))[0]'(by rw [bs_size]; simp) = c0 := bs_at (j := 0) rfl _
  have h1s : 1 ≤ (bs (c0 :: t0)).size := by rw [bs_size]; simp
  have h0s : 0 < (bs (c0 :: t0)).size := h1s
  -- the loop that both ways end in
  have LOOP : ∀ (q t : List UInt8) (W : World), q.length + t.length ≤ 1000000 → t.length ≤ 1000000 → (∀ k (hk : k < (bs t).size) (W : World), Calls Tryd.prog 50 #[.string (bs t), .int .i64 (k : Int)] W fun e w' => e = .returned (.int .i64 (bh t k : Nat)) ∧ W = w') := by
    intro q t W h1 h2 k hk W
    have := behind_any (bs t) k hk (by rw [bs_size]; omega) W
    rw [bs_list] at this
    exact this
  by_cases h34 : c0 = 34
  · subst h34
    have t1 : (((bs (34 :: t0))[0].toNat : Int) == 34) = true := by rw [hat]; rfl
    have HX := Lib.hid (show (bs (34 :: t0)).extract 1 (bs (34 :: t0)).size = bs t0 from ext1 _ 34 t0 rfl)
    have HC := Lib.hid (cutQuoted_any t0 (by omega) w)
    have hql := qt_le t0
    have HW : Hid (wdS (34 :: t0) = ((qt t0).1 ++ (qt t0).2.take (tn (qt t0).2), (qt t0).2.drop (tn (qt t0).2))) := Lib.hid (wdS_q t0)
    rw [HW.out]
    clear HW
    obtain ⟨q, hq⟩ : ∃ q, q = (qt t0).1 := ⟨_, rfl⟩
    obtain ⟨t, htt⟩ : ∃ t, t = (qt t0).2 := ⟨_, rfl⟩
    rw [← hq, ← htt] at HC hql ⊢
    have HBE := Lib.hid (LOOP q t w (by omega) (by omega))
    have HTN := Lib.hid (tn_le t)
    obtain ⟨Ra, hRa⟩ : ∃ Ra, Ra = q ++ t.take (tn t) := ⟨_, rfl⟩
    obtain ⟨Rb, hRb⟩ : ∃ Rb, Rb = t.drop (tn t) := ⟨_, rfl⟩
    rw [← hRa, ← hRb]
    have HRA := Lib.hid hRa
    have HRB := Lib.hid hRb
    clear hRa hRb
    have HQL := Lib.hid (show q.length + t.length ≤ 1000000 by omega)
    clear hq htt hat LOOP
    go_enter Tryd.func24, Tryd.ntmps24
    go_wp2_with fail
    rw [HX.out]
    refine HC.out.mono ?_
    rintro e w1 ⟨rfl, hb⟩
    have HB := Lib.hid hb
    clear hb
    go_wp2_with fail
    go_loopg [5] t.length (fun k a wr => TwR t k a ∧ wr = w1)
    case atStart => exact ⟨⟨0, by omega, Nat.zero_le _, rfl, by simp⟩, rfl⟩
    case round =>
      obtain ⟨⟨j, hk, hj, rfl, hn⟩, hw⟩ := hrel
      subst hw
      have HK := Lib.hid hk
      have HN := Lib.hid hn
      clear hk hn
      by_cases hgo : ∃ c, t[j]? = some c ∧ bl c = false
      · obtain ⟨c, hc, hbl⟩ := hgo
        have hlt := lt_of_some hc
        have hjs : j < (bs t).size := by rw [bs_size]; exact hlt
        have d1 : decide (j < (bs t).size) = true := decide_eq_true hjs
        have hat := bs_at hc hjs
        have HBL := Lib.hid (fun W => blank_any c W)
        rw [hbl, ← hat] at HBL
        have HBJ := Lib.hid (fun W => HBE.out j hjs W)
        have hbb := Lib.hid (bh_le t j hlt)
        have HS := Lib.hid (tn_step t j c hc hbl)
        obtain ⟨x, hx⟩ : ∃ x, x = bh t j := ⟨_, rfl⟩
        rw [← hx] at HBJ hbb HS
        clear hc hbl hat hx
        go_wp2_with fail
        refine (HBL.out _).mono ?_
        rintro e w2 ⟨rfl, rfl⟩
        go_wp2_with fail
        refine (HBJ.out _).mono ?_
        rintro e w2 ⟨rfl, rfl⟩
        go_wp2_with fail
        go_roundg (gk - 1)
        case measure => have := HK.out; have := hbb.out; omega
        case rel => exact ⟨⟨x, by have := HK.out; have := hbb.out; omega, hbb.out.2, by go_num, by rw [HN.out, HS.out]⟩, rfl⟩
      · have htn : tn (t.drop j) = 0 := by
          by_cases hlt : j < t.length
          · obtain ⟨c, hc⟩ := some_of t j hlt
            rw [drop_of hc]
            refine tn_bl ?_
            cases hb : bl c with
            | true => rfl
            | false => exact absurd ⟨c, hc, hb⟩ hgo
          · rw [List.drop_eq_nil_of_le (by omega)]; rfl
        have HJN := Lib.hid (show tn t = j by rw [HN.out, htn]; rfl)
        have hjs : j ≤ (bs t).size := by rw [bs_size]; exact hj
        have HX1 := Lib.hid (show (bs t).extract 0 j = bs (t.take j) by rw [bs_ext _ _ _ hjs, bs_list, List.drop_zero])
        have HX2 := Lib.hid (show (bs t).extract j (bs t).size = bs (t.drop j) by rw [bs_ext _ _ _ (Nat.le_refl _), bs_list, List.take_of_length_le (by rw [bs_size]; exact Nat.le_refl _)])
        have HCAT := Lib.hid (show bs q ++ bs (t.take j) = bs (q ++ t.take j) by apply ByteArray.ext; rw [ByteArray.data_append]; simp [bs])
        have hsum : (bs q).size + ((bs t).extract 0 j).size ≤ 1000000 := by rw [HX1.out]; have := HQL.out; rw [bs_size, bs_size, List.length_take]; omega
        have HEND : Hid (bs q ++ (bs t).extract 0 j = bs Ra ∧ (bs t).extract j (bs t).size = bs Rb) := Lib.hid ⟨by rw [HX1.out, HCAT.out, HRA.out, HJN.out], by rw [HX2.out, HRB.out, HJN.out]⟩
        by_cases hlt : j < t.length
        · obtain ⟨c, hc⟩ := some_of t j hlt
          have hbl : bl c = true := by
            cases hb : bl c with
            | true => rfl
            | false => exact absurd ⟨c, hc, hb⟩ hgo
          have hjs2 : j < (bs t).size := by rw [bs_size]; exact hlt
          have d1 : decide (j < (bs t).size) = true := decide_eq_true hjs2
          have HBL := Lib.hid (fun W => blank_any c W)
          rw [hbl, ← bs_at hc hjs2] at HBL
          clear hgo htn hc hbl
          go_wp2_with fail
          refine (HBL.out _).mono ?_
          rintro e w2 ⟨rfl, rfl⟩
          go_wp2_with fail
          go_quiet (fail)
          go_wp2_with fail
          go_ret2
          rw [HEND.out.1, HEND.out.2]
          exact ⟨rfl, below_drewN HB.out _⟩
        · have d1 : decide (j < (bs t).size) = false := decide_eq_false (by rw [bs_size]; exact hlt)
          clear hgo htn
          go_wp2_with fail
          go_quiet (fail)
          go_wp2_with fail
          go_ret2
          rw [HEND.out.1, HEND.out.2]
          exact ⟨rfl, below_drewN HB.out _⟩
  · have t1' : (((bs (c0 :: t0))[0].toNat : Int) == 34) = false := by rw [hat]; exact nb _ 34 h34
    have HW : Hid (wdS (c0 :: t0) = ((c0 :: t0).take (tn (c0 :: t0)), (c0 :: t0).drop (tn (c0 :: t0)))) := Lib.hid (wdS_n t0 h34)
    rw [HW.out]
    clear HW
    obtain ⟨q, hq⟩ : ∃ q : List UInt8, q = [] := ⟨_, rfl⟩
    obtain ⟨t, htt⟩ : ∃ t, t = c0 :: t0 := ⟨_, rfl⟩
    have hl : q.length + t.length ≤ 1000000 := by rw [hq, htt]; simpa using ht
    dsimp only
    rw [← htt]
    have h1s' : 1 ≤ (bs t).size := by rw [htt]; exact h1s
    have h0s' : 0 < (bs t).size := h1s'
    have t1 : (((bs t)[0].toNat : Int) == 34) = false := by subst htt; exact t1'
    clear t1' hat h1s h0s
    rw [show t.take (tn t) = q ++ t.take (tn t) by rw [hq]; rfl]
    have HBE := Lib.hid (LOOP q t w (by omega) (by omega))
    have HTN := Lib.hid (tn_le t)
    obtain ⟨Ra, hRa⟩ : ∃ Ra, Ra = q ++ t.take (tn t) := ⟨_, rfl⟩
    obtain ⟨Rb, hRb⟩ : ∃ Rb, Rb = t.drop (tn t) := ⟨_, rfl⟩
    rw [← hRa, ← hRb]
    have HRA := Lib.hid hRa
    have HRB := Lib.hid hRb
    clear hRa hRb
    have HQL := Lib.hid (show q.length + t.length ≤ 1000000 from hl)
    have HQ : Hid ((⟨#[]⟩ : ByteArray) = bs q) := Lib.hid (by rw [hq]; rfl)
    have HB := Lib.hid (Below.refl w.heap.size w)
    clear hq htt LOOP hl
    go_enter Tryd.func24, Tryd.ntmps24
    go_wp2_with fail
    go_loopg [5] t.length (fun k a wr => TwR t k a ∧ wr = w)
    case atStart => exact ⟨⟨0, by omega, Nat.zero_le _, rfl, by simp⟩, rfl⟩
    case round =>
      obtain ⟨⟨j, hk, hj, rfl, hn⟩, hw⟩ := hrel
      subst hw
      have HK := Lib.hid hk
      have HN := Lib.hid hn
      clear hk hn
      by_cases hgo : ∃ c, t[j]? = some c ∧ bl c = false
      · obtain ⟨c, hc, hbl⟩ := hgo
        have hlt := lt_of_some hc
        have hjs : j < (bs t).size := by rw [bs_size]; exact hlt
        have d1 : decide (j < (bs t).size) = true := decide_eq_true hjs
        have hat := bs_at hc hjs
        have HBL := Lib.hid (fun W => blank_any c W)
        rw [hbl, ← hat] at HBL
        have HBJ := Lib.hid (fun W => HBE.out j hjs W)
        have hbb := Lib.hid (bh_le t j hlt)
        have HS := Lib.hid (tn_step t j c hc hbl)
        obtain ⟨x, hx⟩ : ∃ x, x = bh t j := ⟨_, rfl⟩
        rw [← hx] at HBJ hbb HS
        clear hc hbl hat hx
        go_wp2_with fail
        refine (HBL.out _).mono ?_
        rintro e w2 ⟨rfl, rfl⟩
        go_wp2_with fail
        refine (HBJ.out _).mono ?_
        rintro e w2 ⟨rfl, rfl⟩
        go_wp2_with fail
        go_roundg (gk - 1)
        case measure => have := HK.out; have := hbb.out; omega
        case rel => exact ⟨⟨x, by have := HK.out; have := hbb.out; omega, hbb.out.2, by go_num, by rw [HN.out, HS.out]⟩, rfl⟩
      · have htn : tn (t.drop j) = 0 := by
          by_cases hlt : j < t.length
          · obtain ⟨c, hc⟩ := some_of t j hlt
            rw [drop_of hc]
            refine tn_bl ?_
            cases hb : bl c with
            | true => rfl
            | false => exact absurd ⟨c, hc, hb⟩ hgo
          · rw [List.drop_eq_nil_of_le (by omega)]; rfl
        have HJN := Lib.hid (show tn t = j by rw [HN.out, htn]; rfl)
        have hjs : j ≤ (bs t).size := by rw [bs_size]; exact hj
        have HX1 := Lib.hid (show (bs t).extract 0 j = bs (t.take j) by rw [bs_ext _ _ _ hjs, bs_list, List.drop_zero])
        have HX2 := Lib.hid (show (bs t).extract j (bs t).size = bs (t.drop j) by rw [bs_ext _ _ _ (Nat.le_refl _), bs_list, List.take_of_length_le (by rw [bs_size]; exact Nat.le_refl _)])
        have HCAT := Lib.hid (show bs q ++ bs (t.take j) = bs (q ++ t.take j) by apply ByteArray.ext; rw [ByteArray.data_append]; simp [bs])
        have hsum : (bs q).size + ((bs t).extract 0 j).size ≤ 1000000 := by rw [HX1.out]; have := HQL.out; rw [bs_size, bs_size, List.length_take]; omega
        have hsum2 : (⟨#[]⟩ : ByteArray).size + ((bs t).extract 0 j).size ≤ 1000000 := by rw [HQ.out]; exact hsum
        have hsum3 : ((bs t).extract 0 j).size ≤ 1000000 := by omega
        have HEND : Hid (bs q ++ (bs t).extract 0 j = bs Ra ∧ (bs t).extract j (bs t).size = bs Rb) := Lib.hid ⟨by rw [HX1.out, HCAT.out, HRA.out, HJN.out], by rw [HX2.out, HRB.out, HJN.out]⟩
        by_cases hlt : j < t.length
        · obtain ⟨c, hc⟩ := some_of t j hlt
          have hbl : bl c = true := by
            cases hb : bl c with
            | true => rfl
            | false => exact absurd ⟨c, hc, hb⟩ hgo
          have hjs2 : j < (bs t).size := by rw [bs_size]; exact hlt
          have d1 : decide (j < (bs t).size) = true := decide_eq_true hjs2
          have HBL := Lib.hid (fun W => blank_any c W)
          rw [hbl, ← bs_at hc hjs2] at HBL
          clear hgo htn hc hbl
          go_wp2_with fail
          refine (HBL.out _).mono ?_
          rintro e w2 ⟨rfl, rfl⟩
          go_wp2_with fail
          go_quiet (fail)
          go_wp2_with fail
          go_ret2
          rw [show ((⟨#[]⟩ : ByteArray) ++ (bs t).extract 0 j) = bs q ++ (bs t).extract 0 j by rw [HQ.out]]
          rw [HEND.out.1, HEND.out.2]
          exact ⟨rfl, below_drewN HB.out _⟩
        · have d1 : decide (j < (bs t).size) = false := decide_eq_false (by rw [bs_size]; exact hlt)
          clear hgo htn
          go_wp2_with fail
          go_quiet (fail)
          go_wp2_with fail
          go_ret2
          rw [show ((⟨#[]⟩ : ByteArray) ++ (bs t).extract 0 j) = bs q ++ (bs t).extract 0 j by rw [HQ.out]]
          rw [HEND.out.1, HEND.out.2]
          exact ⟨rfl, below_drewN HB.out _⟩
end Go.Proofs.YtnffmlfapccgkaaDoor
