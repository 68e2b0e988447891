/- SourceCopies: the walk. -/
import Derived.Test.YtfobbcddedcepaaDoorTp
namespace Go.Proofs.YtfobbcddedcepaaDoor
open Go.RowKit
set_option maxRecDepth 100000
set_option linter.unusedSimpArgs false
set_option linter.unusedVariables false
/-- The pair of copies, and the pair that was copied. -/
theorem bo_copy {X : Nat} {w W : World} {sb xb : Nat} {F : List Fr} (h : Bo X w sb xb F W) : Calls Tryd.prog 14 #[BP sb] W fun e W1 => e = .returned (BP (W.heap.size + 1)) ∧ At W.heap.size W (W.heap.size + 1) F W1 ∧ Bo X w sb xb F W1 := by
  obtain ⟨g, hg, ⟨c, rs, hc⟩, hk⟩ := h.c
  refine (copy_call hc).mono ?_
  rintro e W1 ⟨he, ⟨g', hg', hcs⟩, hb⟩
  exact ⟨he, ⟨g', ⟨hg', Nat.le_refl _⟩, hcs, hb⟩, h.below hb⟩
theorem bo_rcopy {X : Nat} {w W W1 : World} {sb xb : Nat} {F : List Fr} (h : Bo X w sb xb F W1) (ha : At W.heap.size W (W.heap.size + 1) F W1) : Calls Tryd.prog 15 #[BP xb] W1 fun e W2 => e = .returned (BP W1.heap.size) ∧ Bo W.heap.size W (W.heap.size + 1) W1.heap.size F W2 := by
  obtain ⟨A, c, rs, hc⟩ := h.d
  refine (rCopy_any hc).mono ?_
  rintro e W2 ⟨he, hr, hb⟩
  exact ⟨he, Bo.made (Nat.le_succ _) ha hr hb⟩
theorem reads_dd_below {w w' : World} {A : Option Addr} {n : Nat} {ds : List Dd} (h : ReadsP (fun b => b < w.heap.size) w 6 A n (ds.flatMap ddCs)) (hb : Below w.heap.size w w') : ReadsP (fun b => b < w'.heap.size) w' 6 A n (ds.flatMap ddCs) :=
  h.keep fun b hb' => ⟨hb.block b hb', Nat.lt_of_lt_of_le hb' hb.size⟩
set_option maxHeartbeats 4000000 in
theorem law_copies {w : World} (A : Option Addr) (n c : Nat) (ds : List Dd) (hn : n = ds.length) (hn9 : (n : Int) ≤ 9223372036854775807) (hr : ReadsP (fun b => b < w.heap.size) w 6 A n (ds.flatMap ddCs)) (hd : ∀ d ∈ ds, DdOk w d)
    (A' : Option Addr) (n' c' : Nat) (ds' : List Dd) (hn' : n' = ds'.length) (hn9' : (n' : Int) ≤ 9223372036854775807) (hr' : ReadsP (fun b => b < w.heap.size) w 6 A' n' (ds'.flatMap ddCs)) (hd' : ∀ d ∈ ds', DdOk w d) :
    Calls Tryd.prog 4 #[.slice A n c, .slice A' n' c'] w fun e w' => e = .returned (.bool true) ∧ Below w.heap.size w w' := by
  have HN0 := Lib.hid hn
  have HR := Lib.hid hr
  have HD := Lib.hid hd
  have HN0' := Lib.hid hn'
  have HR' := Lib.hid hr'
  have HD' := Lib.hid hd'
  have HBG := Lib.hid (big_few (c := c) A n ds hn hn9 hr hd)
  clear hn hr hd hn' hr' hd'
  go_enter Tryd.func4, Tryd.ntmps4
  go_wp2_with fail
  refine HBG.out.mono ?_
  rintro e w0 ⟨⟨t, rfl, hfew⟩, hb0⟩
  have HFEW := Lib.hid hfew
  have HB0 := Lib.hid hb0
  have hbg2 := big_few (c := c') A' n' ds' HN0'.out hn9' (reads_dd_below HR'.out hb0) (fun d hd => (HD'.out d hd).below hb0)
  have HBG2 := Lib.hid hbg2
  clear hfew hb0 hbg2
  cases t with
  | true =>
    go_wp2_with fail
    refine (sane_any _).mono ?_
    rintro e w2 ⟨rfl, hb2⟩
    have HB2 := Lib.hid (HB0.out.trans (hb2.mono HB0.out.size))
    clear hb2
    go_wp2_with fail
    go_ret
    exact ⟨rfl, HB2.out⟩
  | false =>
    have HF := Lib.hid (HFEW.out rfl).2
    have hn150 : n ≤ 150 := (HFEW.out rfl).1
    go_wp2_with fail
    refine HBG2.out.mono ?_
    rintro e w1 ⟨⟨t, rfl, hfew'⟩, hb1⟩
    have HFEW' := Lib.hid hfew'
    have HB1 := Lib.hid (HB0.out.trans (hb1.mono HB0.out.size))
    clear hfew' hb1
    cases t with
    | true =>
      go_wp2_with fail
      refine (sane_any _).mono ?_
      rintro e w2 ⟨rfl, hb2⟩
      have HB2 := Lib.hid (HB1.out.trans (hb2.mono HB1.out.size))
      clear hb2
      go_wp2_with fail
      go_ret
      exact ⟨rfl, HB2.out⟩
    | false =>
      have HF' := Lib.hid (HFEW'.out rfl).2
      have hn150' : n' ≤ 150 := (HFEW'.out rfl).1
      go_wp2_with fail
      refine step_new.mono ?_
      rintro e w2 ⟨rfl, h2⟩
      have H2 := Lib.hid h2
      clear h2
      go_wp2_with fail
      refine (rNew_any (X := w2.heap.size) w2 (Nat.le_refl _)).mono ?_
      rintro e w3 ⟨rfl, h3, hb3⟩
      have HBO := Lib.hid (Bo.made (Nat.le_succ _) H2.out h3 hb3)
      clear h3 hb3
      go_wp2_with fail
      go_loopg [7] n (fun k i wr => ∃ j : Nat, k + j = n ∧ i = .int .i64 j ∧ ∃ F, Bo w1.heap.size w1 (w1.heap.size + 1) w2.heap.size F wr)
      case atStart => exact ⟨0, rfl, rfl, [], HBO.out⟩
      case round =>
        obtain ⟨j, hk, rfl, F, hbo⟩ := hrel
        have HK := Lib.hid hk
        have HBQ := Lib.hid hbo
        rcases or_cases2 j n with dj | dj
        · have hj : j < n := of_decide_eq_true dj
          have hdj : ds[j]? = some (ds[j]'(by have := HN0.out; omega)) := List.getElem?_eq_getElem (by have := HN0.out; omega)
          obtain ⟨r, hre⟩ : ∃ r, r = ds[j]'(by have := HN0.out; omega) := ⟨_, rfl⟩
          rw [← hre] at hdj
          have hbw : Below w.heap.size w wr := HB1.out.trans (hbo.c.to.mono HB1.out.size)
          obtain ⟨b, off, rfl, hbl, c0, c1, c2, c3, c4, c5⟩ := reads_dd HR.out j r hdj
          have hok := (HD.out r (List.mem_of_getElem? hdj)).below hbw
          have ec : ∀ o x, w.cell? ⟨b, o, none⟩ = some x → wr.cell? ⟨b, o, none⟩ = some x := fun o x h => (hbw.cell (p := ⟨b, o, none⟩) hbl).trans h
          have HCS := Lib.hid (⟨c0, c1, c2, c3, c4, c5⟩ : _ ∧ _ ∧ _ ∧ _ ∧ _ ∧ _)
          have HBL := Lib.hid hbl
          have c0 := ec _ _ c0
          have c1 := ec _ _ c1
          have c2 := ec _ _ c2
          have c3 := ec _ _ c3
          have c4 := ec _ _ c4
          have c5 := ec _ _ c5
          have htx : r.tx.size ≤ 1000000 := by have := (HF.out r (List.mem_of_getElem? hdj)).2.2; omega
          have hls : ∀ l ∈ r.ls, l.tx.size ≤ 9223372036854775807 := fun l hl => by have := hok.txs l hl; omega
          have HOK := Lib.hid (HD.out r (List.mem_of_getElem? hdj))
          obtain ⟨dk, nm, tx, dA, dn, dc, dB, sn, sc, da, dls, dss⟩ := r
          simp only at c0 c1 c2 c3 c4 c5 htx hls
          have HJ := Lib.hid hj
          have hj0 : (0 : Int) ≤ (j : Int) := by omega
          have hj1 : (j : Int) < (n : Int) := by omega
          have hdo := bo_do hbo dk nm tx (n := dn) (c := dc) (m := sn) (e := sc) da hok.ls hok.ss htx
          have hto := fun (W : World) (ha : At w1.heap.size w1 (w1.heap.size + 1) (deedF F dk nm tx da dls dss).2 W) (hd : RS w1.heap.size w2.heap.size F W) (hok : DdOk W ⟨dk, nm, tx, dA, dn, dc, dB, sn, sc, da, dls, dss⟩) => bo_told HBQ.out.ge ha hd (rl_none (P := Tg W) W) dk nm tx (n := dn) (c := dc) (m := sn) (e := sc) da hok.ls hok.ss htx hls rfl
          try simp only at hdo
          generalize deedF F dk nm tx da dls dss = R at hdo hto
          have HDO := Lib.hid hdo
          have HTO := Lib.hid hto
          clear hk hj hbo hbl hok ec hre hdj hbw hdo hto hls htx
          go_wp2_with fail
          refine HDO.out.mono ?_
          rintro e w6 ⟨r6, rfl, hr6, ha6, hd6⟩
          have hbw7 := HB1.out.trans (ha6.to.mono HB1.out.size)
          have hto := HTO.out _ ha6 hd6 (HOK.out.below hbw7)
          have HTO2 := Lib.hid hto
          have ec : ∀ o x, w.cell? ⟨b, o, none⟩ = some x → w6.cell? ⟨b, o, none⟩ = some x := fun o x h => (hbw7.cell (p := ⟨b, o, none⟩) HBL.out).trans h
          obtain ⟨k0, k1, k2, k3, k4, k5⟩ := HCS.out
          have k0 := ec _ _ k0
          have k1 := ec _ _ k1
          have k2 := ec _ _ k2
          have k3 := ec _ _ k3
          have k4 := ec _ _ k4
          have k5 := ec _ _ k5
          try simp only at k0 k1 k2 k3 k4 k5
          clear hr6 ha6 hd6 hbw7 hto ec c0 c1 c2 c3 c4 c5
          go_wp2_with fail
          refine HTO2.out.mono ?_
          rintro e w8 ⟨r8, rfl, hr8, hr08, hbo8, hdt8⟩
          have HBO8 := Lib.hid hbo8
          clear hr8 hr08 hbo8 hdt8 k0 k1 k2 k3 k4 k5
          go_wp2_with fail
          go_roundg (gk - 1)
          case measure => have := HK.out; have := HJ.out; omega
          case rel =>
            have := HK.out
            have := HJ.out
            exact ⟨j + 1, by omega, by first | go_num | (congr 1; rw [IntWalk.wrap64_in _ (by omega)]; omega), R.2, HBO8.out⟩
        · have hj : ¬ j < n := of_decide_eq_false dj
          have HCP := Lib.hid (bo_copy hbo)
          clear hk hj hbo
          go_wp2_with fail
          refine HCP.out.mono ?_
          rintro e W1 ⟨rfl, haC, hboC⟩
          have HRC := Lib.hid (bo_rcopy hboC haC)
          clear haC hboC
          go_wp2_with fail
          refine HRC.out.mono ?_
          rintro e W2 ⟨rfl, hboD⟩
          have HBD := Lib.hid hboD
          clear hboD
          go_wp2_with fail
          go_loopg [10, 11, 12, 13, 14] n' (fun k i p q p2 q2 wq => ∃ j : Nat, k + j = n' ∧ i = .int .i64 j ∧ ∃ F', Bo wr.heap.size wr (wr.heap.size + 1) W1.heap.size F' wq)
          case atStart => exact ⟨0, rfl, rfl, F, HBD.out⟩
          case round =>
            rename World => wq
            obtain ⟨j', hk', rfl, F', hbo'⟩ := hrel
            have HK' := Lib.hid hk'
            have HBQ' := Lib.hid hbo'
            rcases or_cases2 j' n' with dj' | dj'
            · have hj : j' < n' := of_decide_eq_true dj'
              have hdj : ds'[j']? = some (ds'[j']'(by have := HN0'.out; omega)) := List.getElem?_eq_getElem (by have := HN0'.out; omega)
              obtain ⟨r, hre⟩ : ∃ r, r = ds'[j']'(by have := HN0'.out; omega) := ⟨_, rfl⟩
              rw [← hre] at hdj
              have hbw0 : Below w.heap.size w wr := HB1.out.trans (HBQ.out.c.to.mono HB1.out.size)
              have hbw : Below w.heap.size w wq := hbw0.trans (hbo'.c.to.mono hbw0.size)
              have HBW0 := Lib.hid hbw0
              obtain ⟨b, off, rfl, hbl, c0, c1, c2, c3, c4, c5⟩ := reads_dd HR'.out j' r hdj
              have hok := (HD'.out r (List.mem_of_getElem? hdj)).below hbw
              have ec : ∀ o x, w.cell? ⟨b, o, none⟩ = some x → wq.cell? ⟨b, o, none⟩ = some x := fun o x h => (hbw.cell (p := ⟨b, o, none⟩) hbl).trans h
              have HCS := Lib.hid (⟨c0, c1, c2, c3, c4, c5⟩ : _ ∧ _ ∧ _ ∧ _ ∧ _ ∧ _)
              have HBL := Lib.hid hbl
              have c0 := ec _ _ c0
              have c1 := ec _ _ c1
              have c2 := ec _ _ c2
              have c3 := ec _ _ c3
              have c4 := ec _ _ c4
              have c5 := ec _ _ c5
              have htx : r.tx.size ≤ 1000000 := by have := (HF'.out r (List.mem_of_getElem? hdj)).2.2; omega
              have hls : ∀ l ∈ r.ls, l.tx.size ≤ 9223372036854775807 := fun l hl => by have := hok.txs l hl; omega
              have HOK := Lib.hid (HD'.out r (List.mem_of_getElem? hdj))
              obtain ⟨dk, nm, tx, dA, dn, dc, dB, sn, sc, da, dls, dss⟩ := r
              simp only at c0 c1 c2 c3 c4 c5 htx hls
              have HJ := Lib.hid hj
              have hj0 : (0 : Int) ≤ (j' : Int) := by omega
              have hj1 : (j' : Int) < (n' : Int) := by omega
              have hdo := bo_do hbo' dk nm tx (n := dn) (c := dc) (m := sn) (e := sc) da hok.ls hok.ss htx
              have hto := fun (W : World) (ha : At wr.heap.size wr (wr.heap.size + 1) (deedF F' dk nm tx da dls dss).2 W) (hd : RS wr.heap.size W1.heap.size F' W) (r0 : RL) (hr0 : RlIs (Tg W) W r0 (deedF F' dk nm tx da dls dss).1.1) (hok : DdOk W ⟨dk, nm, tx, dA, dn, dc, dB, sn, sc, da, dls, dss⟩) => bo_told HBQ'.out.ge ha hd hr0 dk nm tx (n := dn) (c := dc) (m := sn) (e := sc) da hok.ls hok.ss htx hls rfl
              try simp only at hdo
              generalize deedF F' dk nm tx da dls dss = R at hdo hto
              have HDO := Lib.hid hdo
              have HTO := Lib.hid hto
              clear hk' hj hbo' hbl hok ec hre hdj hbw hbw0 hdo hto hls htx
              go_wp2_with fail
              refine HDO.out.mono ?_
              rintro e w6 ⟨⟨tx0, md0, up0, dn0, bo0, bn0, bc0⟩, rfl, hr6, ha6, hd6⟩
              have hb7 := (Below.refl w6.heap.size w6).alloc (Nat.le_refl _) (.cells #[.string tx0, .bool md0, .int .i64 up0, .int .i64 dn0, .slice bo0 bn0 bc0] 31)
              have hx7 := heap_alloc_new w6 (.cells #[.string tx0, .bool md0, .int .i64 up0, .int .i64 dn0, .slice bo0 bn0 bc0] 31)
              have ha7 := ha6.below hb7
              have hbw7 := HBW0.out.trans (ha7.to.mono HBW0.out.size)
              have hto := HTO.out _ ha7 (hd6.below hb7) _ (hr6.keep fun e _ b hb => hb.below hb7) (HOK.out.below hbw7)
              have HTO2 := Lib.hid hto
              have HX7 := Lib.hid hx7
              have ec : ∀ o x, w.cell? ⟨b, o, none⟩ = some x → (w6.alloc (.cells #[.string tx0, .bool md0, .int .i64 up0, .int .i64 dn0, .slice bo0 bn0 bc0] 31)).cell? ⟨b, o, none⟩ = some x := fun o x h => (hbw7.cell (p := ⟨b, o, none⟩) HBL.out).trans h
              obtain ⟨k0, k1, k2, k3, k4, k5⟩ := HCS.out
              have k0 := ec _ _ k0
              have k1 := ec _ _ k1
              have k2 := ec _ _ k2
              have k3 := ec _ _ k3
              have k4 := ec _ _ k4
              have k5 := ec _ _ k5
              try simp only at k0 k1 k2 k3 k4 k5
              clear hr6 ha6 hd6 hb7 hx7 ha7 hbw7 hto ec c0 c1 c2 c3 c4 c5
              go_wp2_with fail
              refine HTO2.out.mono ?_
              rintro e w8 ⟨⟨tx1, md1, up1, dn1, bo1, bn1, bc1⟩, rfl, hr8, hr08, hbo8, hdt8⟩
              have hb9 := (Below.refl w8.heap.size w8).alloc (Nat.le_refl _) (.cells #[.string tx1, .bool md1, .int .i64 up1, .int .i64 dn1, .slice bo1 bn1 bc1] 31)
              have hy9 := heap_alloc_new w8 (.cells #[.string tx1, .bool md1, .int .i64 up1, .int .i64 dn1, .slice bo1 bn1 bc1] 31)
              have hx8 := hdt8.ln HX7.out
              have hx9 := (hb9.block _ (lt_of_block hx8)).trans hx8
              have HLE := Lib.hid (line_eq (hr08.tglt.lt hb9) (hr8.tglt.lt hb9))
              have HBO9 := Lib.hid (hbo8.below hb9)
              obtain ⟨⟨x0, x1, x2, x3, x4⟩, _⟩ := fresh_ln hx9
              obtain ⟨⟨y0, y1, y2, y3, y4⟩, _⟩ := fresh_ln hy9
              clear hr8 hr08 hbo8 hdt8 hb9 hy9 hx8 hx9 k0 k1 k2 k3 k4 k5
              go_wp2_with fail
              refine HLE.out.mono ?_
              rintro e w10 ⟨rfl, hb10⟩
              have HBO10 := Lib.hid (HBO9.out.below hb10)
              clear hb10 x0 x1 x2 x3 x4 y0 y1 y2 y3 y4
              go_wp2_with fail
              go_roundg (gk - 1)
              case measure => have := HK'.out; have := HJ.out; omega
              case rel =>
                have := HK'.out
                have := HJ.out
                exact ⟨j' + 1, by omega, by first | go_num | (congr 1; rw [IntWalk.wrap64_in _ (by omega)]; omega), R.2, HBO10.out⟩
            · have hj : ¬ j' < n' := of_decide_eq_false dj'
              have HAL := Lib.hid (alike_any hbo')
              clear hk' hj hbo'
              go_wp2_with fail
              refine HAL.out.mono ?_
              rintro e w20 ⟨rfl, hb20⟩
              have hq20 := (HBQ'.out.below hb20).c.to
              have hold := HBQ.out.below hq20
              have HAL2 := Lib.hid (alike_any hold)
              have HQ20 := Lib.hid hold.c.to
              clear hb20 hold hq20
              go_wp2_with fail
              refine HAL2.out.mono ?_
              rintro e w21 ⟨rfl, hb21⟩
              have HB21 := Lib.hid (HQ20.out.trans (hb21.mono HQ20.out.size))
              clear hb21
              go_wp2_with fail
              refine (sane_any _).mono ?_
              rintro e w22 ⟨rfl, hb22⟩
              have HB22 := Lib.hid (HB21.out.trans (hb22.mono HB21.out.size))
              clear hb22
              go_wp2_with fail
              go_ret
              exact ⟨rfl, HB1.out.trans (HB22.out.mono HB1.out.size)⟩
end Go.Proofs.YtfobbcddedcepaaDoor
