/- The code's Condition. -/
import Derived.Test.YtnffmlfapccgkaaDoorZ2
import Derived.Deep.RegionHeld3
namespace Go.Proofs.YtnffmlfapccgkaaDoor
open Go.RowKit Go.Shelf
set_option maxRecDepth 100000
set_option linter.unusedSimpArgs false
set_option linter.unusedVariables false
set_option maxHeartbeats 8000000 in
theorem cond_good (l : List UInt8) (h : okTx l = true) (hl : l.length ≤ 100000) (w : World) (hM : MaxI w) : Calls Tryd.prog 17 #[.string (bs l)] w fun e w' => e = .returned (condV l) ∧ Below w.heap.size w w' := by
  have HSKIP := Lib.hid (fun (x : List UInt8) W => (by have h := skip_any (bs x) W; rw [bs_list] at h; exact h : Calls Tryd.prog 23 #[.string (bs x)] W fun e w' => e = .returned (.string (bs (skB x))) ∧ Below W.heap.size W w'))
  have HV := Lib.hid (fun W => validText_any (bs l) W)
  rw [bs_list, h] at HV
  have HQ := Lib.hid (show condV l = cnR (ntS l) (exN (skB l)) by unfold condV; rw [h]; rfl)
  obtain ⟨m, hm⟩ : ∃ m, m = skB l := ⟨_, rfl⟩
  obtain ⟨r, hr⟩ : ∃ r, r = exN m := ⟨_, rfl⟩
  have hml : m.length ≤ l.length := by rw [hm]; exact skB_le l
  have hrl : r.length ≤ m.length := by rw [hr]; exact exN_le m
  have HSK := Lib.hid (fun W => skip_any (bs l) W)
  rw [bs_list, ← hm] at HSK
  have HT := Lib.hid (fun W => trim33 (bs m) W)
  rw [bs_list, ← hr] at HT
  obtain ⟨nt, hnt⟩ : ∃ x, x = ntS l := ⟨_, rfl⟩
  have hnt2 : ((((bs m).size : Int) - ((bs r).size : Int)) % 2 == 1) = nt := by
    rw [hnt]; unfold ntS
    rw [← hm, ← hr, bs_size, bs_size]
    exact (show ((((m.length : Nat) : Int) - (r.length : Int)) % 2 == 1) = ((m.length - r.length) % 2 == 1) by
      have : (m.length : Int) - (r.length : Int) = ((m.length - r.length : Nat) : Int) := by omega
      rw [this]
      rcases (show (m.length - r.length) % 2 = 0 ∨ (m.length - r.length) % 2 = 1 by omega) with e | e
      · rw [e, show ((m.length - r.length : Nat) : Int) % 2 = 0 by omega]; rfl
      · rw [e, show ((m.length - r.length : Nat) : Int) % 2 = 1 by omega]; rfl)
  rw [← hm, ← hr, ← hnt] at HQ
  have HNT := Lib.hid (show ((IntKind.i64.wrap (((bs m).size : Int) - ((bs r).size : Int))).tmod 2 == 1) = nt by
    rw [← hnt2, IntWalk.i64_in _ (by rw [bs_size, bs_size]; omega), Int.tmod_eq_emod_of_nonneg (by rw [bs_size, bs_size]; omega)])
  clear hnt2
  have HKD := Lib.hid (fun W => kindOf_any r W)
  obtain ⟨kd, hkd⟩ : ∃ x, x = (kdS r).toNat := ⟨_, rfl⟩
  rw [← hkd] at HKD
  obtain ⟨V, hVV⟩ : ∃ V, V = condV l := ⟨_, rfl⟩
  rw [← hVV] at HQ ⊢
  have HKV := Lib.hid hkd
  have HRL := Lib.hid (show r.length ≤ 100000 by omega)
  have hms : (bs m).size ≤ 100000 := by rw [bs_size]; omega
  have hrs : (bs r).size ≤ (bs m).size := by rw [bs_size, bs_size]; exact hrl
  have HM := Lib.hid hM
  have HB0 := Lib.hid (bel0 w (.cells zC 33))
  have HZ0 := Lib.hid (heap_alloc_new w (.cells zC 33))
  clear h hm hr hml hrl hnt hkd hVV hM
  go_enter Tryd.func17, Tryd.ntmps17
  go_wp2_with fail
  refine (HV.out _).mono ?_
  rintro e w1 ⟨rfl, hw⟩
  rw [← hw]
  clear hw
  go_wp2_with fail
  refine (HSK.out _).mono ?_
  rintro e w1 ⟨rfl, hb1⟩
  have HB1 := Lib.hid (HB0.out.trans (hb1.mono HB0.out.size))
  have hlt1 : w.heap.size < w1.heap.size := Nat.lt_of_lt_of_le (by simp) hb1.size
  have HZ1 := Lib.hid ((hb1.block w.heap.size (by simp)).trans HZ0.out)
  clear hb1
  go_wp2_with fail
  refine (HT.out _).mono ?_
  rintro e w2 ⟨rfl, hw⟩
  rw [← hw]
  clear hw
  have HB2 := Lib.hid (bel0 w1 (.cells #[.string (bs r)] 9))
  have HZ2 := Lib.hid ((HB2.out.block w.heap.size hlt1).trans HZ1.out)
  have HR2 := Lib.hid (heap_alloc_new w1 (.cells #[.string (bs r)] 9))
  obtain ⟨k0, _⟩ := blk1 HR2.out
  go_wp2_with fail
  go_region_held3 (fun w' => w'.cell? ⟨w1.heap.size, 0, none⟩ = some (.string (bs r))) (first | with_reducible exact k0 | go_keep)
    (first
    | (go_at_call 30; refine (HKD.out _).mono ?_; rintro e wx ⟨rfl, hw⟩; rw [← hw]; clear hw))
  all_goals
    rw [HNT.out]
    obtain ⟨T2, T1, TZ⟩ := two_new w1 (.cells #[.string (bs r)] 9) (.cells #[.bool nt, .int .u8 (kd : Int), .string ⟨#[]⟩, .string ⟨#[]⟩, .string ⟨#[]⟩, .string ⟨#[]⟩] 33)
    have HBN := Lib.hid ((bel0 w1 (.cells #[.string (bs r)] 9)).trans ((bel0 (w1.alloc (.cells #[.string (bs r)] 9)) (.cells #[.bool nt, .int .u8 (kd : Int), .string ⟨#[]⟩, .string ⟨#[]⟩, .string ⟨#[]⟩, .string ⟨#[]⟩] 33)).mono (by simp)))
    obtain ⟨W5, hW5⟩ : ∃ W5, W5 = ((w1.alloc (.cells #[.string (bs r)] 9)).alloc (.cells #[.bool nt, .int .u8 (kd : Int), .string ⟨#[]⟩, .string ⟨#[]⟩, .string ⟨#[]⟩, .string ⟨#[]⟩] 33)).drew := ⟨_, rfl⟩
    have hR5 : W5.heap[w1.heap.size]? = some (.cells #[.string (bs r)] 9 (0, 0)) := by rw [hW5]; exact T2
    have hC5 : W5.heap[w1.heap.size + 1]? = some (.cells #[.bool nt, .int .u8 (kd : Int), .string ⟨#[]⟩, .string ⟨#[]⟩, .string ⟨#[]⟩, .string ⟨#[]⟩] 33 (0, 0)) := by rw [hW5]; exact T1
    have HB5 : Hid (Below w1.heap.size w1 W5) := Lib.hid (by rw [hW5]; exact ⟨HBN.out.os, HBN.out.tape, HBN.out.output, HBN.out.size, HBN.out.block⟩)
    have hB5 : W5.heap[w.heap.size]? = some (.cells zC 33 (0, 0)) := (HB5.out.block w.heap.size hlt1).trans HZ1.out
    have HBX5 := Lib.hid (HB1.out.trans (HB5.out.mono HB1.out.size))
    rw [← hW5]
    have HR5 := Lib.hid hR5
    have HC5 := Lib.hid hC5
    have HB5' := Lib.hid hB5
    obtain ⟨k5, n5⟩ := blk1 hR5
    obtain ⟨⟨x0, x1, x2, x3, x4, x5⟩, ⟨y0, y1, y2, y3, y4, y5⟩⟩ := blk6 hC5
    clear T2 T1 TZ HBN hW5 hR5 hC5 hB5 k0 HB2 HZ2 HR2
    have HNE : Hid (w.heap.size ≠ w1.heap.size + 1) := Lib.hid (by omega)
    have HNE3 : Hid (w1.heap.size ≠ w1.heap.size + 1) := Lib.hid (by omega)
    have HBB := Lib.hid (fun (W6 : World) (hbut : But (fun k => k = w1.heap.size ∨ k = w1.heap.size + 1) W5 W6) => but_zero hbut HB5'.out hlt1 HBX5.out)
    by_cases hA : ∀ c t, r = c :: t → bl c = true
    · have hkd : kd = 120 := by
        rw [HKV.out]
        cases hr0 : r with
        | nil => rfl
        | cons c t => rw [(cn_bl nt c t (hA c t hr0)).2.1]; rfl
      have hV : V = noC 4 := by
        rw [HQ.out]
        cases hr0 : r with
        | nil => rfl
        | cons c t => rw [(cn_bl nt c t (hA c t hr0)).1]
      have hcut : decide ((cutB r).1 = []) = true := by
        cases hr0 : r with
        | nil => rfl
        | cons c t => exact decide_eq_true (cn_bl nt c t (hA c t hr0)).2.2
      have HV2 := Lib.hid hV
      have hk : (kd : Int) = 120 := by omega
      have u1 : ((kd : Int) == 100) = false := by rw [hk]; rfl
      have u2 : ((kd : Int) == 114) = false := by rw [hk]; rfl
      have u3 : ((kd : Int) == 120) = true := by rw [hk]; rfl
      have HCN := Lib.hid (cutName_any w1.heap.size (w1.heap.size + 1) r HRL.out _ _ _ _ _ _ W5 HR5.out HC5.out HNE3.out)
      unfold CnP at HCN
      rw [hcut] at HCN
      clear hk hV
      go_wp2_with fail
      refine HCN.out.mono ?_
      rintro e w6 ⟨rfl, hRx, hCx, hbut⟩
      obtain ⟨hBx, hbx⟩ := HBB.out w6 hbut
      have HBx := Lib.hid hbx
      clear hRx hCx hbut hbx x0 x1 x2 x3 x4 x5 y0 y1 y2 y3 y4 y5 k5 n5
      obtain ⟨⟨jb0, jb1, jb2, jb3, jb4, jb5⟩, ⟨gb0, gb1, gb2, gb3, gb4, gb5⟩⟩ := blk6 hBx
      have HXB := Lib.hid hBx
      clear hBx
      go_wp2_with fail
      rw [HV2.out]
      exact cond_end (t := 2) (u := 3) (g := w.heap.size) rfl rfl rfl rfl (put6_at HXB.out) ⟨rfl, put6_bel HBx.out (Nat.le_refl _)⟩
    · obtain ⟨c, t, hrc, hbl⟩ : ∃ c t, r = c :: t ∧ bl c = false := by
        cases hr0 : r with
        | nil => exact absurd (fun c t e => by rw [hr0] at e; cases e) hA
        | cons c t =>
          cases hb : bl c with
          | false => exact ⟨c, t, rfl, hb⟩
          | true => exact absurd (fun c' t' e => by rw [hr0] at e; injection e with e1 _; rw [← e1]; exact hb) hA
      have hl1 : t.length ≤ 100000 := by have := HRL.out; rw [hrc] at this; simp at this; omega
      have hr1s : 1 ≤ (bs r).size := by rw [hrc, bs_size]; simp
      have HX := Lib.hid (show (bs r).extract 1 (bs r).size = bs t by rw [hrc]; exact ext1 _ c t rfl)
      have HWC : Hid (w.heap.size ≤ w1.heap.size + 1) := Lib.hid (by omega)
      have HWR : Hid (w.heap.size ≤ w1.heap.size) := Lib.hid (Nat.le_of_lt hlt1)
      have HNB : Hid (w.heap.size ≠ w1.heap.size) := Lib.hid (Nat.ne_of_lt hlt1)
      have HRT := Lib.hid (set_at (k := 0) (.string (bs t)) HR5.out)
      have HCT := Lib.hid ((set_ne (w := W5) (g := w1.heap.size) (k := 0) (Ne.symm HNE3.out) (.string (bs t))).trans HC5.out)
      have HBT := Lib.hid (fun (W6 : World) (hbut : But (fun k => k = w1.heap.size ∨ k = w1.heap.size + 1) (W5.setCell ⟨w1.heap.size, 0, none⟩ (.string (bs t))) W6) => HBB.out W6 ((But.set (But.of (Below.refl _ _)) (.inl rfl) _).trans hbut))
      by_cases hd : c = 100 ∨ c = 114
      · obtain ⟨hV, hK⟩ := cn_d nt c t hbl hd
        have HVV := Lib.hid (show V = (if (cutB t).1 = [] then noC 4 else okC nt c (cutB t).1 [] [] (cutB t).2) by rw [HQ.out, hrc, hV])
        have hkc : kd = c.toNat := by rw [HKV.out, hrc, hK]
        have HCN := Lib.hid (cutName_any w1.heap.size (w1.heap.size + 1) t hl1 _ _ _ _ _ _ _ HRT.out HCT.out HNE3.out)
        unfold CnP at HCN
        rcases hd with hc | hc
        · have hk : (kd : Int) = 100 := by rw [hkc, hc]; rfl
          have u1 : ((kd : Int) == 100) = true := by rw [hk]; rfl
          cases hq : decide ((cutB t).1 = []) with
          | true =>
            have HV2 := Lib.hid (show V = noC 4 by rw [HVV.out, if_pos (of_decide_eq_true hq)])
            rw [hq] at HCN
            clear hk hV hK hkc hbl hrc hA hl1 hq
            go_wp2_with fail
            rw [HX.out]
            refine HCN.out.mono ?_
            rintro e w6 ⟨rfl, hRx, hCx, hbut⟩
            obtain ⟨hBx, hbx⟩ := HBT.out w6 hbut
            have HBx := Lib.hid hbx
            clear hRx hCx hbut hbx x0 x1 x2 x3 x4 x5 y0 y1 y2 y3 y4 y5 k5 n5
            obtain ⟨⟨jb0, jb1, jb2, jb3, jb4, jb5⟩, ⟨gb0, gb1, gb2, gb3, gb4, gb5⟩⟩ := blk6 hBx
            have HXB := Lib.hid hBx
            clear hBx
            go_wp2_with fail
            rw [HV2.out]
            exact cond_end (t := 2) (u := 3) (g := w.heap.size) rfl rfl rfl rfl (put6_at HXB.out) ⟨rfl, put6_bel HBx.out (Nat.le_refl _)⟩
          | false =>
            have HV2 := Lib.hid (show V = okC nt c (cutB t).1 [] [] (cutB t).2 by rw [HVV.out, if_neg (of_decide_eq_false hq)])
            have HKC := Lib.hid hkc
            rw [hq] at HCN
            obtain ⟨ca, hca⟩ : ∃ x, x = (cutB t).1 := ⟨_, rfl⟩
            obtain ⟨cb, hcb⟩ : ∃ x, x = (cutB t).2 := ⟨_, rfl⟩
            rw [← hca, ← hcb] at HCN HV2
            clear hk hV hK hkc hbl hrc hA hl1 hq hc hca hcb HVV
            go_wp2_with fail
            rw [HX.out]
            refine HCN.out.mono ?_
            rintro e w6 ⟨rfl, hRx, hCx, hbut⟩
            obtain ⟨hBx, hbx⟩ := HBT.out w6 hbut
            have HBx := Lib.hid hbx
            clear hbut hbx x0 x1 x2 x3 x4 x5 y0 y1 y2 y3 y4 y5 k5 n5
            obtain ⟨kr, _⟩ := blk1 hRx
            obtain ⟨⟨kc0, kc1, kc2, kc3, kc4, kc5⟩, ⟨fc0, fc1, fc2, fc3, fc4, fc5⟩⟩ := blk6 hCx
            have HXB := Lib.hid hBx
            have HXC := Lib.hid hCx
            have hszB := (Array.getElem?_eq_some_iff.1 hBx).1
            have hszC := (Array.getElem?_eq_some_iff.1 hCx).1
            clear hBx hRx hCx
            go_wp2_with fail
            refine (HSKIP.out _ _).mono ?_
            rintro e wy ⟨rfl, hby⟩
            have hBy := (hby.block w.heap.size hszB).trans HXB.out
            have hCy := (hby.block (w1.heap.size + 1) hszC).trans HXC.out
            have HBy := Lib.hid (HBx.out.trans (hby.mono HBx.out.size))
            obtain ⟨⟨jc0, jc1, jc2, jc3, jc4, jc5⟩, ⟨gc0, gc1, gc2, gc3, gc4, gc5⟩⟩ := blk6 hCy
            obtain ⟨⟨jb0, jb1, jb2, jb3, jb4, jb5⟩, ⟨gb0, gb1, gb2, gb3, gb4, gb5⟩⟩ := blk6 hBy
            have HYB := Lib.hid hBy
            clear hby hBy hCy kr kc0 kc1 kc2 kc3 kc4 kc5 fc0 fc1 fc2 fc3 fc4 fc5
            go_wp2_with fail
            rw [HV2.out]
            exact cond_end (t := 2) (u := 3) (g := w.heap.size) rfl rfl rfl rfl (put6_at ((set_ne HNE.out _).trans HYB.out)) ⟨by rw [HKC.out]; rfl, put6_bel (set_bel HBy.out HWC.out _) (Nat.le_refl _)⟩
        · have hk : (kd : Int) = 114 := by rw [hkc, hc]; rfl
          have u1 : ((kd : Int) == 100) = false := by rw [hk]; rfl
          have u2 : ((kd : Int) == 114) = true := by rw [hk]; rfl
          cases hq : decide ((cutB t).1 = []) with
          | true =>
            have HV2 := Lib.hid (show V = noC 4 by rw [HVV.out, if_pos (of_decide_eq_true hq)])
            rw [hq] at HCN
            clear hk hV hK hkc hbl hrc hA hl1 hq
            go_wp2_with fail
            rw [HX.out]
            refine HCN.out.mono ?_
            rintro e w6 ⟨rfl, hRx, hCx, hbut⟩
            obtain ⟨hBx, hbx⟩ := HBT.out w6 hbut
            have HBx := Lib.hid hbx
            clear hRx hCx hbut hbx x0 x1 x2 x3 x4 x5 y0 y1 y2 y3 y4 y5 k5 n5
            obtain ⟨⟨jb0, jb1, jb2, jb3, jb4, jb5⟩, ⟨gb0, gb1, gb2, gb3, gb4, gb5⟩⟩ := blk6 hBx
            have HXB := Lib.hid hBx
            clear hBx
            go_wp2_with fail
            rw [HV2.out]
            exact cond_end (t := 2) (u := 3) (g := w.heap.size) rfl rfl rfl rfl (put6_at HXB.out) ⟨rfl, put6_bel HBx.out (Nat.le_refl _)⟩
          | false =>
            have HV2 := Lib.hid (show V = okC nt c (cutB t).1 [] [] (cutB t).2 by rw [HVV.out, if_neg (of_decide_eq_false hq)])
            have HKC := Lib.hid hkc
            rw [hq] at HCN
            obtain ⟨ca, hca⟩ : ∃ x, x = (cutB t).1 := ⟨_, rfl⟩
            obtain ⟨cb, hcb⟩ : ∃ x, x = (cutB t).2 := ⟨_, rfl⟩
            rw [← hca, ← hcb] at HCN HV2
            clear hk hV hK hkc hbl hrc hA hl1 hq hc hca hcb HVV
            go_wp2_with fail
            rw [HX.out]
            refine HCN.out.mono ?_
            rintro e w6 ⟨rfl, hRx, hCx, hbut⟩
            obtain ⟨hBx, hbx⟩ := HBT.out w6 hbut
            have HBx := Lib.hid hbx
            clear hbut hbx x0 x1 x2 x3 x4 x5 y0 y1 y2 y3 y4 y5 k5 n5
            obtain ⟨kr, _⟩ := blk1 hRx
            obtain ⟨⟨kc0, kc1, kc2, kc3, kc4, kc5⟩, ⟨fc0, fc1, fc2, fc3, fc4, fc5⟩⟩ := blk6 hCx
            have HXB := Lib.hid hBx
            have HXC := Lib.hid hCx
            have hszB := (Array.getElem?_eq_some_iff.1 hBx).1
            have hszC := (Array.getElem?_eq_some_iff.1 hCx).1
            clear hBx hRx hCx
            go_wp2_with fail
            refine (HSKIP.out _ _).mono ?_
            rintro e wy ⟨rfl, hby⟩
            have hBy := (hby.block w.heap.size hszB).trans HXB.out
            have hCy := (hby.block (w1.heap.size + 1) hszC).trans HXC.out
            have HBy := Lib.hid (HBx.out.trans (hby.mono HBx.out.size))
            obtain ⟨⟨jc0, jc1, jc2, jc3, jc4, jc5⟩, ⟨gc0, gc1, gc2, gc3, gc4, gc5⟩⟩ := blk6 hCy
            obtain ⟨⟨jb0, jb1, jb2, jb3, jb4, jb5⟩, ⟨gb0, gb1, gb2, gb3, gb4, gb5⟩⟩ := blk6 hBy
            have HYB := Lib.hid hBy
            clear hby hBy hCy kr kc0 kc1 kc2 kc3 kc4 kc5 fc0 fc1 fc2 fc3 fc4 fc5
            go_wp2_with fail
            rw [HV2.out]
            exact cond_end (t := 2) (u := 3) (g := w.heap.size) rfl rfl rfl rfl (put6_at ((set_ne HNE.out _).trans HYB.out)) ⟨by rw [HKC.out]; rfl, put6_bel (set_bel HBy.out HWC.out _) (Nat.le_refl _)⟩
      by_cases hA2 : inA c = true
      · obtain ⟨hV, hK⟩ := cn_o nt c t hbl hd hA2
        have HV2 := Lib.hid (show V = okC nt c [] [] [] t by rw [HQ.out, hrc, hV])
        have hkc : kd = c.toNat := by rw [HKV.out, hrc, hK]
        have HKC := Lib.hid hkc
        have hx := inA_x c hA2
        have u1 : ((kd : Int) == 100) = false := by rw [hkc]; exact nb c 100 (fun e => hd (.inl e))
        have u2 : ((kd : Int) == 114) = false := by rw [hkc]; exact nb c 114 (fun e => hd (.inr e))
        have u3 : ((kd : Int) == 120) = false := by rw [hkc]; exact nb c 120 hx.1
        have u4 : ((kd : Int) == 39) = false := by rw [hkc]; exact nb c 39 hx.2
        clear hV hK hkc hbl hrc hA hl1 hA2 hd hx
        go_wp2_with fail
        rw [HX.out]
        refine (HSKIP.out t _).mono ?_
        rintro e wy ⟨rfl, hby⟩
        have hBy := (hby.block w.heap.size (by rw [set_size]; exact (Array.getElem?_eq_some_iff.1 HB5'.out).1)).trans ((set_ne HNB.out _).trans HB5'.out)
        have hCy := (hby.block (w1.heap.size + 1) (by rw [set_size]; exact (Array.getElem?_eq_some_iff.1 HC5.out).1)).trans HCT.out
        have HS5 := Lib.hid (set_bel (k := 0) HBX5.out HWR.out (.string (bs t)))
        have HBy := Lib.hid (HS5.out.trans (hby.mono HS5.out.size))
        clear x0 x1 x2 x3 x4 x5 y0 y1 y2 y3 y4 y5 k5 n5
        obtain ⟨⟨jc0, jc1, jc2, jc3, jc4, jc5⟩, ⟨gc0, gc1, gc2, gc3, gc4, gc5⟩⟩ := blk6 hCy
        obtain ⟨⟨jb0, jb1, jb2, jb3, jb4, jb5⟩, ⟨gb0, gb1, gb2, gb3, gb4, gb5⟩⟩ := blk6 hBy
        have HYB := Lib.hid hBy
        clear hby hBy hCy
        go_wp2_with fail
        rw [HV2.out]
        exact cond_end (t := 2) (u := 3) (g := w.heap.size) rfl rfl rfl rfl (put6_at ((set_ne HNE.out _).trans HYB.out)) ⟨by rw [HKC.out]; rfl, put6_bel (set_bel HBy.out HWC.out _) (Nat.le_refl _)⟩
      · have hA2f : inA c = false := by simpa using hA2
        by_cases hx : (ld c || inB c) = true
        · obtain ⟨hV, hK, hcn⟩ := cn_x nt c t hbl hA2f hx
          have HV2 := Lib.hid (show V = okC nt 120 (cutB r).1 [] [] (cutB r).2 by rw [HQ.out, hrc, hV])
          have hk : (kd : Int) = 120 := by rw [HKV.out, hrc, hK]; rfl
          have u1 : ((kd : Int) == 100) = false := by rw [hk]; rfl
          have u2 : ((kd : Int) == 114) = false := by rw [hk]; rfl
          have u3 : ((kd : Int) == 120) = true := by rw [hk]; rfl
          have HK2 := Lib.hid hk
          have HCN := Lib.hid (cutName_any w1.heap.size (w1.heap.size + 1) r HRL.out _ _ _ _ _ _ W5 HR5.out HC5.out HNE3.out)
          unfold CnP at HCN
          rw [show decide ((cutB r).1 = []) = false from decide_eq_false (by rw [hrc]; exact hcn)] at HCN
          obtain ⟨ca, hca⟩ : ∃ x, x = (cutB r).1 := ⟨_, rfl⟩
          obtain ⟨cb, hcb⟩ : ∃ x, x = (cutB r).2 := ⟨_, rfl⟩
          rw [← hca, ← hcb] at HCN HV2
          clear hk hV hK hbl hrc hA hl1 hA2 hA2f hx hcn hca hcb hd
          go_wp2_with fail
          refine HCN.out.mono ?_
          rintro e w6 ⟨rfl, hRx, hCx, hbut⟩
          obtain ⟨hBx, hbx⟩ := HBB.out w6 hbut
          have HBx := Lib.hid hbx
          clear hbut hbx x0 x1 x2 x3 x4 x5 y0 y1 y2 y3 y4 y5 k5 n5
          obtain ⟨kr, _⟩ := blk1 hRx
          obtain ⟨⟨kc0, kc1, kc2, kc3, kc4, kc5⟩, ⟨fc0, fc1, fc2, fc3, fc4, fc5⟩⟩ := blk6 hCx
          have HXB := Lib.hid hBx
          have HXC := Lib.hid hCx
          have hszB := (Array.getElem?_eq_some_iff.1 hBx).1
          have hszC := (Array.getElem?_eq_some_iff.1 hCx).1
          clear hBx hRx hCx
          go_wp2_with fail
          refine (HSKIP.out _ _).mono ?_
          rintro e wy ⟨rfl, hby⟩
          have hBy := (hby.block w.heap.size hszB).trans HXB.out
          have hCy := (hby.block (w1.heap.size + 1) hszC).trans HXC.out
          have HBy := Lib.hid (HBx.out.trans (hby.mono HBx.out.size))
          obtain ⟨⟨jc0, jc1, jc2, jc3, jc4, jc5⟩, ⟨gc0, gc1, gc2, gc3, gc4, gc5⟩⟩ := blk6 hCy
          obtain ⟨⟨jb0, jb1, jb2, jb3, jb4, jb5⟩, ⟨gb0, gb1, gb2, gb3, gb4, gb5⟩⟩ := blk6 hBy
          have HYB := Lib.hid hBy
          clear hby hBy hCy kr kc0 kc1 kc2 kc3 kc4 kc5 fc0 fc1 fc2 fc3 fc4 fc5
          go_wp2_with fail
          rw [HV2.out]
          exact cond_end (t := 2) (u := 3) (g := w.heap.size) rfl rfl rfl rfl (put6_at ((set_ne HNE.out _).trans HYB.out)) ⟨by rw [show kd = 120 by have := HK2.out; omega]; rfl, put6_bel (set_bel HBy.out HWC.out _) (Nat.le_refl _)⟩
        · have hxf : (ld c || inB c) = false := by simpa using hx
          obtain ⟨hV, hK⟩ := cn_q nt c t hbl hA2f hxf
          have HVV := Lib.hid (show V = _ by rw [HQ.out, hrc, hV])
          have hk : (kd : Int) = 39 := by rw [HKV.out, hrc, hK]; rfl
          have u1 : ((kd : Int) == 100) = false := by rw [hk]; rfl
          have u2 : ((kd : Int) == 114) = false := by rw [hk]; rfl
          have u3 : ((kd : Int) == 120) = false := by rw [hk]; rfl
          have u4 : ((kd : Int) == 39) = true := by rw [hk]; rfl
          have HKD2 : Hid (kd = 39) := Lib.hid (by omega)
          have HCX := Lib.hid (cutTexts_any c t hl1 W5 (HM.out.below HBX5.out (Nat.le_refl _)))
          rw [← hrc] at HCX
          unfold ctP at HCX
          have hzR := (Array.getElem?_eq_some_iff.1 HR5.out).1
          have hzC := (Array.getElem?_eq_some_iff.1 HC5.out).1
          have hzB := (Array.getElem?_eq_some_iff.1 HB5'.out).1
          cases hct : cutT c t with
          | none =>
            have HV2 := Lib.hid (show V = noC 4 by rw [HVV.out, hct])
            rw [hct] at HCX
            clear hk hV hK hbl hrc hA hl1 hA2 hA2f hx hxf hct hd HVV
            go_wp2_with fail
            refine HCX.out.mono ?_
            rintro e w6 ⟨rfl, hb6⟩
            have hR6 := (hb6.block _ hzR).trans HR5.out
            have hC6 := (hb6.block _ hzC).trans HC5.out
            have hB6 := (hb6.block _ hzB).trans HB5'.out
            have HR6 := Lib.hid hR6
            have HC6 := Lib.hid hC6
            have HB6 := Lib.hid hB6
            have HBL6 := Lib.hid (HBX5.out.trans (hb6.mono HBX5.out.size))
            obtain ⟨kr, kf⟩ := blk1 hR6
            obtain ⟨⟨kc0, kc1, kc2, kc3, kc4, kc5⟩, ⟨fc0, fc1, fc2, fc3, fc4, fc5⟩⟩ := blk6 hC6
            obtain ⟨⟨jb0, jb1, jb2, jb3, jb4, jb5⟩, ⟨gb0, gb1, gb2, gb3, gb4, gb5⟩⟩ := blk6 hB6
            clear hb6 hR6 hC6 hB6 x0 x1 x2 x3 x4 x5 y0 y1 y2 y3 y4 y5 k5 n5
            go_wp2_with fail
            rw [HV2.out]
            exact cond_end (t := 2) (u := 3) (g := w.heap.size) rfl rfl rfl rfl (put6_at ((set_ne HNB.out _).trans ((set_ne HNE.out _).trans ((set_ne HNE.out _).trans HB6.out)))) ⟨rfl, put6_bel (set_bel (set_bel (set_bel HBL6.out HWC.out _) HWC.out _) HWR.out _) (Nat.le_refl _)⟩
          | some p =>
            obtain ⟨px, py, pr⟩ := p
            have HV2 := Lib.hid (show V = okC nt 39 [] px py pr by rw [HVV.out, hct])
            rw [hct] at HCX
            dsimp only at HCX
            clear hk hV hK hbl hrc hA hl1 hA2 hA2f hx hxf hct hd HVV
            go_wp2_with fail
            refine HCX.out.mono ?_
            rintro e w6 ⟨rfl, hb6⟩
            have hR6 := (hb6.block _ hzR).trans HR5.out
            have hC6 := (hb6.block _ hzC).trans HC5.out
            have hB6 := (hb6.block _ hzB).trans HB5'.out
            have HB6 := Lib.hid hB6
            have HBL6 := Lib.hid (HBX5.out.trans (hb6.mono HBX5.out.size))
            obtain ⟨kr, kf⟩ := blk1 hR6
            obtain ⟨⟨kc0, kc1, kc2, kc3, kc4, kc5⟩, ⟨fc0, fc1, fc2, fc3, fc4, fc5⟩⟩ := blk6 hC6
            have HC7 := Lib.hid ((set_ne (k := 0) (Ne.symm HNE3.out) (.string (bs pr))).trans (set_at (k := 4) (.string (bs py)) (set_at (k := 3) (.string (bs px)) hC6)))
            have HB7 := Lib.hid ((set_ne (k := 0) HNB.out (.string (bs pr))).trans ((set_ne (k := 4) HNE.out (.string (bs py))).trans ((set_ne (k := 3) HNE.out (.string (bs px))).trans hB6)))
            have HBL7 := Lib.hid (set_bel (k := 0) (set_bel (k := 4) (set_bel (k := 3) HBL6.out HWC.out (.string (bs px))) HWC.out (.string (bs py))) HWR.out (.string (bs pr)))
            clear hb6 hR6 hC6 hB6 x0 x1 x2 x3 x4 x5 y0 y1 y2 y3 y4 y5 k5 n5
            go_wp2_with fail
            refine (HSKIP.out pr _).mono ?_
            rintro e wy ⟨rfl, hby⟩
            have hBy := (hby.block w.heap.size (Array.getElem?_eq_some_iff.1 HB7.out).1).trans HB7.out
            have hCy := (hby.block (w1.heap.size + 1) (Array.getElem?_eq_some_iff.1 HC7.out).1).trans HC7.out
            have HBy := Lib.hid (HBL7.out.trans (hby.mono HBL7.out.size))
            clear kr kf kc0 kc1 kc2 kc3 kc4 kc5 fc0 fc1 fc2 fc3 fc4 fc5
            obtain ⟨⟨jc0, jc1, jc2, jc3, jc4, jc5⟩, ⟨gc0, gc1, gc2, gc3, gc4, gc5⟩⟩ := blk6 hCy
            obtain ⟨⟨jb0, jb1, jb2, jb3, jb4, jb5⟩, ⟨gb0, gb1, gb2, gb3, gb4, gb5⟩⟩ := blk6 hBy
            have HYB := Lib.hid hBy
            clear hby hBy hCy
            go_wp2_with fail
            rw [HV2.out]
            exact cond_end (t := 2) (u := 3) (g := w.heap.size) rfl rfl rfl rfl (put6_at ((set_ne HNE.out _).trans HYB.out)) ⟨by rw [HKD2.out]; rfl, put6_bel (set_bel HBy.out HWC.out _) (Nat.le_refl _)⟩
end Go.Proofs.YtnffmlfapccgkaaDoor
