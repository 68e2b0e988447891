/- The document's stack: Peek. -/
import Derived.Test.YtfobbcddedcepaaDoorPa
import Derived.StillTailTactics
import Derived.Laws.AppendOwnNone
namespace Go.Proofs.YtfobbcddedcepaaDoor
open Go.RowKit
set_option maxRecDepth 100000
set_option linter.unusedSimpArgs false
set_option linter.unusedVariables false
theorem rown_ln {P : TypeId → Nat → Prop} {w : World} {r : RL} {l : Ln} (h : RlIs P w r l) (hP : ∀ e b, P e b → b < w.heap.size) (hb : l.bx.length ≤ 2000) : Calls Tryd.prog 62 #[lvA r] w (LnOut l w) := by
  have hc := rOwn_any r.tx r.md r.up r.dn r.bo r.bn r.bc l.bx h.bx hP (by rw [h.bx.len]; exact hb)
  refine hc.mono ?_
  rintro e w' ⟨bo, bc, rfl, ho, hn, h1, h2, hb⟩
  exact ⟨⟨r.tx, r.md, r.up, r.dn, bo, r.bn, bc⟩, rfl, ⟨⟨h.tx, h.md, h.up, h.dn, hn, h1, h2, ho.keep fun e he b hb => ⟨rfl, hb.2⟩⟩, hb⟩⟩
section
variable {X xb : Nat} {A : Option Addr} {c : Nat} {F : List Fr} {rs : List RF} {w : World}
set_option maxHeartbeats 1000000 in
theorem rPeek_any (h : RK X xb A c F rs w) : Calls Tryd.prog 28 #[BP xb] w (PkP (peekS F) w) := by
  obtain ⟨w0, hw0⟩ : ∃ w0, w0 = w.alloc (.cells #[.string ⟨#[]⟩, .bool false, .int .i64 0, .int .i64 0, .slice none 0 0] 31) := ⟨_, rfl⟩
  have hb0 := (Below.refl w.heap.size w).alloc (Nat.le_refl _) (.cells #[.string ⟨#[]⟩, .bool false, .int .i64 0, .int .i64 0, .slice none 0 0] 31)
  have hx0 := heap_alloc_new w (.cells #[.string ⟨#[]⟩, .bool false, .int .i64 0, .int .i64 0, .slice none 0 0] 31)
  rw [← hw0] at hb0 hx0
  have h0 := h.below hb0
  have HM := Lib.hid (rno_any h0)
  have hc := h0.c0.2
  have hlen : F.length ≤ 50 := h.len
  have hsz : w0.heap.size = w.heap.size + 1 := by rw [hw0]; simp
  have HSZ := Lib.hid hsz
  have HB0 := Lib.hid hb0
  have HX0 := Lib.hid hx0
  have H0 := Lib.hid h0
  have HW0 := Lib.hid hw0
  have HPK := Lib.hid (show peekS F = pickS F (topS hasMore F) from rfl)
  clear h hb0 hx0 h0 hsz hw0
  go_enter Tryd.func28, Tryd.ntmps28
  go_wp2_with fail
  rw [← HW0.out]
  refine HM.out.mono ?_
  rintro e w1 ⟨rfl, rfl⟩
  go_wp2_with fail
  go_loopg [4] F.length (fun q i wr => ∃ j : Nat, q = j ∧ j ≤ F.length ∧ i = .int .i64 ((j : Int) - 1) ∧ topS hasMore F = topN hasMore F j ∧ Below w0.heap.size w0 wr)
  case atStart => exact ⟨F.length, rfl, Nat.le_refl _, rfl, rfl, Below.refl _ _⟩
  case round =>
    obtain ⟨j, rfl, hj, rfl, ht, hb⟩ := hrel
    have HT := Lib.hid ht
    have HB := Lib.hid hb
    have hxr := (hb.block w.heap.size (lt_of_block HX0.out)).trans HX0.out
    have HXR := Lib.hid hxr
    cases gk with
    | zero =>
      have d0 : decide ((0 : Int) ≤ ((0 : Nat) : Int) - 1) = false := by decide
      obtain ⟨⟨p0, p1, p2, p3, p4⟩, q0, q1, q2, q3, q4⟩ := fresh_ln hxr
      clear ht hb hxr
      go_wp2_with fail
      have hlw := lnW_at (tx := ⟨#[]⟩) (md := false) (up := 0) (dn := 0) (o := none) (n := 0) (c := 0) HXR.out
      refine lnerr_end (t := 2) (u := 3) (g := w.heap.size) rfl rfl rfl rfl (by rw [← hlw]; rfl) ?_
      rw [HPK.out, HT.out]
      exact ⟨RL0, rfl, told_last (t := RL0) (Nat.le_refl _) (HB0.out.trans (HB.out.mono (by rw [HSZ.out]; omega))) (rl_none _) HXR.out⟩
    | succ j =>
      have hr : rs[j]? = some (rs[j]'(by have := H0.out.rl; omega)) := List.getElem?_eq_getElem (by have := H0.out.rl; omega)
      obtain ⟨r, hre⟩ : ∃ r, r = rs[j]'(by have := H0.out.rl; omega) := ⟨_, rfl⟩
      rw [← hre] at hr
      have hf : F[j]? = some (F[j]'(by omega)) := List.getElem?_eq_getElem (by omega)
      obtain ⟨f, hfe⟩ : ∃ f, f = F[j]'(by omega) := ⟨_, rfl⟩
      rw [← hfe] at hf
      have h1 := H0.out.below hb
      have hri := h1.fr.2 j r f hr hf
      have hq := q_more r f hri
      have hcr := h1.c0.2
      obtain ⟨g, rfl, _, ⟨c0, c1, c2, c3, c4⟩, _⟩ := h1.fc j r hr
      have hov := rover_any r wr
      rw [hq] at hov
      have HF := Lib.hid hf
      have HR := Lib.hid hr
      have H1 := Lib.hid h1
      have HJ := Lib.hid hj
      have e1 : ((j + 1 : Nat) : Int) - 1 = (j : Int) := by omega
      rw [e1]
      have hj0 : (0 : Int) ≤ (j : Int) := by omega
      have hj1 : (j : Int) < (F.length : Int) := by omega
      have hj5 : (j : Int) < 50 := by omega
      cases hm : hasMore f with
      | false =>
        rw [hm] at hov
        have HO := Lib.hid hov
        have HMO := Lib.hid hm
        obtain ⟨kd, nm, lo, ln, lc, ao, an, ac, tk⟩ := r
        simp only at c0 c1 c2 c3 c4
        clear ht hb hxr hre hr hfe hf h1 hri hq hov hc e1 hj hm
        go_wp2_with fail
        refine HO.out.mono ?_
        rintro e w2 ⟨rfl, hb2⟩
        have HB2 := Lib.hid hb2
        clear hb2
        go_wp2_with fail
        go_roundg j
        case measure => omega
        case rel => exact ⟨j, rfl, by have := HJ.out; omega, by first | go_num | rfl, by rw [HT.out, topN_no hasMore F j f HF.out HMO.out], HB.out.trans (HB2.out.mono HB.out.size)⟩
      | true =>
        rw [hm] at hov
        have HO := Lib.hid hov
        have HMO := Lib.hid hm
        clear ht hb hxr hre hr hfe hf h1 hri hq hov hc e1 hj hm
        obtain ⟨l, hl⟩ := more_line HMO.out
        have HL := Lib.hid hl
        clear hl
        go_wp2_with fail
        refine HO.out.mono ?_
        rintro e w2 ⟨rfl, hb2⟩
        have HB2 := Lib.hid hb2
        clear hb2 hcr c0 c1 c2 c3 c4
        have h2 := H1.out.below HB2.out
        have hri := h2.fr.2 j r f HR.out HF.out
        have hcr := h2.c0.2
        obtain ⟨_, e, _, ⟨c0, c1, c2, c3, c4⟩, _⟩ := h2.fc j r HR.out
        obtain rfl : g = _ := by injection e with e; injection e with e
        have htk : r.tk < r.ln := by rw [hri.tk, hri.ls.len]; exact (List.getElem?_eq_some_iff.1 HL.out).1
        obtain ⟨⟨qs, hqr, hqa⟩, hqlen⟩ := hri.ls
        have hql : qs.length = r.ln := by rw [hqa.1, hqlen]
        have hqj : qs[r.tk]? = some (qs[r.tk]'(by omega)) := List.getElem?_eq_getElem (by omega)
        obtain ⟨q, hqe⟩ : ∃ q, q = qs[r.tk]'(by omega) := ⟨_, rfl⟩
        rw [← hqe] at hqj
        have hqi := hqa.2 r.tk q l hqj (by rw [hri.tk]; exact HL.out)
        obtain ⟨b, off, hlo, hp, y0, y1, y2, y3, y4⟩ := reads_ln hqr r.tk q hqj
        have how := rown_ln (P := Tg w2) (w := w2.drew) (hqi.keep fun e _ b hb' => ⟨rfl, hb'⟩) (fun e b hb' => by have := Tg.lt hb'; exact this) (okLn_bx (H0.out.ok f (List.mem_of_getElem? HF.out)).ls l (List.mem_of_getElem? HL.out))
        have HOW := Lib.hid how
        have hxr2 := (HB2.out.block w.heap.size (lt_of_block HXR.out)).trans HXR.out
        have HXR2 := Lib.hid hxr2
        have ht0 : (0 : Int) ≤ (r.tk : Int) := by omega
        have ht1 : (r.tk : Int) < (r.ln : Int) := by omega
        have htc := hri.lcap
        have htl := hri.lle
        obtain ⟨kd, nm, lo, ln, lc, ao, an, ac, tk⟩ := r
        simp only at c0 c1 c2 c3 c4 hlo ht0 ht1 htc htl y0 y1 y2 y3 y4
        subst hlo
        clear e h2 hri htk hqr hqa hqlen hql hqj hqe hqi hp how hxr2
        go_wp2_with fail
        go_still_tail 18, (by kernel_rfl)
        change wpList _ _ _ _ _ w2.drew
        go_wp2_with fail
        refine HOW.out.mono ?_
        rintro e w3 ⟨t, rfl, htd⟩
        have hk3 := (htd.below.block w.heap.size (lt_of_block HXR2.out)).trans HXR2.out
        have HK3 := Lib.hid hk3
        have HTD := Lib.hid htd
        obtain ⟨⟨p0, p1, p2, p3, p4⟩, q0, q1, q2, q3, q4⟩ := fresh_ln hk3
        clear hk3 htd
        go_wp2_with fail
        have hlw := lnW_at (tx := t.tx) (md := t.md) (up := t.up) (dn := t.dn) (o := t.bo) (n := t.bn) (c := t.bc) HK3.out
        refine lnerr_end (t := 2) (u := 3) (g := w.heap.size) rfl rfl rfl rfl (by rw [← hlw]; rfl) ?_
        have hpk : peekS F = (l, 0) := by rw [HPK.out, HT.out, topN_yes hasMore F j f HF.out HMO.out]; simp [pickS, HF.out, HL.out]
        rw [hpk]
        have hb3 : Below w2.heap.size w2 w3 := ⟨HTD.out.below.os, HTD.out.below.tape, HTD.out.below.output, HTD.out.below.size, HTD.out.below.block⟩
        have hbb : Below w.heap.size w w3 := HB0.out.trans ((HB.out.mono (by rw [HSZ.out]; omega)).trans ((HB2.out.mono (by have := HB.out.size; have := HSZ.out; omega)).trans (hb3.mono (by have := HB.out.size; have := HB2.out.size; have := HSZ.out; omega))))
        exact ⟨t, rfl, told_last (t := t) (Nat.le_refl _) hbb HTD.out.is HK3.out⟩
end
end Go.Proofs.YtfobbcddedcepaaDoor
/- The document's lines of a text; what may be a name. -/
namespace Go.Proofs.YtfobbcddedcepaaDoor
open Go.RowKit
set_option maxRecDepth 100000
set_option linter.unusedSimpArgs false
set_option linter.unusedVariables false
theorem rnamed_any (s : ByteArray) (w : World) : Calls Tryd.prog 58 #[.string s] w fun e w' => e = .returned (.bool (okName s)) ∧ w = w' := by
  by_cases h1 : 1 ≤ s.size
  · have d1 : decide ((1 : Int) ≤ (s.size : Int)) = true := decide_eq_true (by omega)
    by_cases h2 : s.size ≤ 100
    · have d2 : decide ((s.size : Int) ≤ 100) = true := decide_eq_true (by omega)
      have HN := Lib.hid (show okName s = true by unfold okName; simp [h1, h2])
      clear h1 h2
      go_enter Tryd.func58, Tryd.ntmps58
      go_wp2_with fail
      go_ret
      rw [HN.out]
      exact ⟨rfl, rfl⟩
    · have d2 : decide ((s.size : Int) ≤ 100) = false := decide_eq_false (by omega)
      have HN := Lib.hid (show okName s = false by unfold okName; simp [h1, h2])
      clear h1 h2
      go_enter Tryd.func58, Tryd.ntmps58
      go_wp2_with fail
      go_ret
      rw [HN.out]
      exact ⟨rfl, rfl⟩
  · have d1 : decide ((1 : Int) ≤ (s.size : Int)) = false := decide_eq_false (by omega)
    have HN := Lib.hid (show okName s = false by unfold okName; simp [h1])
    clear h1
    go_enter Tryd.func58, Tryd.ntmps58
    go_wp2_with fail
    go_ret
    rw [HN.out]
    exact ⟨rfl, rfl⟩
/-- All parts are short, and there are few. -/
def rdOk (xs : List ByteArray) : Bool := xs.all (fun x => decide (x.size ≤ 2000)) && decide (xs.length ≤ 20000)
structure RdP (xs : List ByteArray) (w : World) (e : Ending) (w' : World) : Prop where
  ex : ∃ A n c, e = .returned (.tuple #[.slice A n c, .bool (rdOk xs)]) ∧ (rdOk xs = true → n = xs.length ∧ LnsAt (NT w.heap.size w') w' A n (mkL xs) ∧ (A = none → n = 0) ∧ n ≤ c ∧ (c : Int) ≤ 9223372036854775807)
  below : Below w.heap.size w w'
theorem rd_no {xs : List ByteArray} {j : Nat} {x : ByteArray} (h : xs[j]? = some x) (hx : 2000 < x.size) : rdOk xs = false := by
  unfold rdOk
  rw [Bool.and_eq_false_iff]
  left
  rw [List.all_eq_false]
  exact ⟨x, List.mem_of_getElem? h, by simp; omega⟩
theorem rd_all {xs : List ByteArray} (h : ∀ (i : Nat) (x : ByteArray), xs[i]? = some x → x.size ≤ 2000) : rdOk xs = decide (xs.length ≤ 20000) := by
  unfold rdOk
  have : xs.all (fun x => decide (x.size ≤ 2000)) = true := by
    rw [List.all_eq_true]
    intro x hx
    obtain ⟨i, hi⟩ := List.mem_iff_getElem?.1 hx
    exact decide_eq_true (h i x hi)
  rw [this, Bool.true_and]
set_option maxHeartbeats 4000000 in
theorem rread_any (s : ByteArray) (hs : s.size ≤ 1000000) (w : World) : Calls Tryd.prog 57 #[.string s] w (RdP (linesS s) w) := by
  have HL := Lib.hid (rLines_any s hs w)
  have hpl := parts_le s
  have hll := linesS_le s
  obtain ⟨xs, hxs⟩ : ∃ xs, xs = linesS s := ⟨_, rfl⟩
  rw [← hxs] at HL hll ⊢
  have hn0 : xs.length ≤ 1000001 := by omega
  clear hpl hll hxs hs
  obtain ⟨i0, hi0, hz0, hz1, hz2⟩ := info_parts info_line
  go_enter Tryd.func57, Tryd.ntmps57
  go_wp2_with fail
  refine HL.out.mono ?_
  rintro e w1 ⟨⟨A, n, c, rfl, hsa, _, _, _⟩, hb1⟩
  have HR := Lib.hid hsa.rd
  have HLEN := Lib.hid hsa.len
  have HB1 := Lib.hid hb1
  have hn : n ≤ 1000001 := by rw [hsa.len]; exact hn0
  have HST : Hid (OaR w1 (mkL xs) 0 (.slice none 0 0) w1) := Lib.hid ⟨⟨[], World.ownsRow_nil _ _ _ _, rfl, fun i r b h => by simp at h⟩, Below.refl _ _⟩
  clear hsa hb1 hn0
  go_wp2_with fail
  go_loopg [5, 6] n (fun k x i wr => ∃ j : Nat, k + j = n ∧ i = .int .i64 j ∧ OaR w1 (mkL xs) j x wr ∧ ∀ (i : Nat) (x : ByteArray), i < j → xs[i]? = some x → x.size ≤ 2000)
  case atStart => exact ⟨0, rfl, rfl, HST.out, fun i x h => by omega⟩
  case round =>
    obtain ⟨j, hk, rfl, ⟨⟨rs', ho, hl, hx⟩, hb⟩, hsh⟩ := hrel
    have HK := Lib.hid hk
    have HSH := Lib.hid hsh
    by_cases hj : j < n
    · have dj : decide (j < n) = true := decide_eq_true hj
      have hjl : j < xs.length := by rw [← HLEN.out]; exact hj
      have hxj : xs[j]? = some xs[j] := List.getElem?_eq_getElem hjl
      obtain ⟨y, hy⟩ : ∃ y, y = xs[j] := ⟨_, rfl⟩
      rw [← hy] at hxj
      obtain ⟨b, off, rfl, hbt, hc⟩ := HR.out.2 (by omega)
      have c0 := hc j (.string y) (by unfold strCs; rw [List.getElem?_map, hxj]; rfl)
      have e0 := hb.cell (p := (⟨b, off + j, none⟩ : Addr)) (Tg.lt hbt)
      rw [← e0] at c0
      obtain ⟨o, cap, rfl, _, _⟩ := row_shape ho
      have HO := Lib.hid ho
      have HLn := Lib.hid hl
      have HX := Lib.hid hx
      have HB := Lib.hid hb
      have HJ := Lib.hid hj
      have HXJ := Lib.hid hxj
      have hj47 : j * 64 + 64 ≤ 140737488351232 := by omega
      have hj0 : (0 : Int) ≤ (j : Int) := by omega
      have hj1 : (j : Int) < (n : Int) := by omega
      clear hk hsh hj hjl hxj hy hbt hc e0 ho hl hx hb
      by_cases hys : 2000 < y.size
      · have d0 : decide ((2000 : Int) < (y.size : Int)) = true := decide_eq_true (by omega)
        have HNO := Lib.hid (rd_no HXJ.out hys)
        clear hys
        go_wp2_with fail
        go_ret2
        exact ⟨⟨none, 0, 0, by rw [HNO.out]; rfl, fun h => by rw [HNO.out] at h; cases h⟩, HB1.out.trans (HB.out.mono HB1.out.size)⟩
      · have d0 : decide ((2000 : Int) < (y.size : Int)) = false := decide_eq_false (by omega)
        have HYS := Lib.hid hys
        have hs4 := cell_five_new wr (.string y) (.bool false) (.int .i64 0) (.int .i64 0) (.slice none 0 0) 31
        have HSRC := Lib.hid hs4
        have HO4 := Lib.hid (own_kept HO.out (Kept.of (S := fun _ => False) ((Below.refl wr.heap.size wr).alloc (Nat.le_refl _) (.cells #[.string y, .bool false, .int .i64 0, .int .i64 0, .slice none 0 0] 31))) (fun _ _ h => h))
        have HZ := Lib.hid HB.out.size
        have HRI : Hid (RlIs (NT wr.heap.size wr) wr ⟨y, false, 0, 0, none, 0, 0⟩ ⟨y, false, 0, 0, []⟩) := Lib.hid ⟨rfl, rfl, rfl, rfl, fun _ => rfl, Nat.le_refl _, (show ((0 : Nat) : Int) ≤ 9223372036854775807 by decide), bxs_none _⟩
        have HLJ := Lib.hid (show (mkL xs)[j]? = some ⟨y, false, 0, 0, []⟩ by unfold mkL; rw [List.getElem?_map, HXJ.out]; rfl)
        clear hys hs4
        go_wp2_with (first
          | (at_builtin; refine wpList_append_own _ rfl _ _ 35 rfl w1.heap.size 31 i0 _ 5 64 Tryd.underlying35 hi0 hz0 hz1 hz2 rfl (by decide) _ _ _ rfl HO4.out ⟨wr.heap.size, 0, none⟩ 1 1 [.string y, .bool false, .int .i64 0, .int .i64 0, .slice none 0 0] rfl rfl HSRC.out (fun u hu => by simp only [List.mem_cons, List.not_mem_nil, or_false] at hu; rcases hu with rfl | rfl | rfl | rfl | rfl <;> rfl) (by unfold maxLen; omega) (by omega) (by have := HZ.out; simp; omega) ?_
             intro v5 w5 hown5 hgrow5 _
             have hg5 : (wr.alloc (.cells #[.string y, .bool false, .int .i64 0, .int .i64 0, .slice none 0 0] 31)).grownBy w5 (Value.slice o j cap).ownBlock := hgrow5
             have HG5 := Lib.hid hg5
             have HO5 := Lib.hid hown5
             clear hgrow5 hg5 hown5))
        have hfin := OaR.step (v5 := v5) (w5 := w5) HO.out HLn.out HX.out HB.out (Below.refl wr.heap.size wr) HRI.out HLJ.out _ HG5.out HO5.out
        have HFIN := Lib.hid hfin
        clear hfin
        go_roundg (gk - 1)
        case measure => have := HK.out; have := HJ.out; omega
        case rel =>
          have := HK.out
          have := HJ.out
          refine ⟨j + 1, by omega, by first | go_num | (congr 1; rw [IntWalk.wrap64_in _ (by omega)]; omega), HFIN.out, fun i x hi hix => ?_⟩
          by_cases e : i = j
          · subst e
            rw [HXJ.out] at hix
            obtain rfl := Option.some.inj hix
            have := HYS.out; omega
          · exact HSH.out i x (by omega) hix
    · have dj : decide (j < n) = false := decide_eq_false hj
      have hje : j = n := by omega
      obtain ⟨o, cap, rfl, hcap1, hcap2⟩ := row_shape ho
      have hall := rd_all (xs := xs) (fun i x h => hsh i x (by have := (List.getElem?_eq_some_iff.1 h).1; have := HLEN.out; omega) h)
      have hml : (mkL xs).length = xs.length := by unfold mkL; rw [List.length_map]
      have hlen2 : rs'.length = (mkL xs).length := by rw [hl, hje, HLEN.out, hml]
      have hat : LnsAt (NT w1.heap.size wr) wr o j (mkL xs) := ⟨⟨_, ReadsP.of_own ho (fun g cs hg hb => ⟨hb, cs, _, hg⟩), hlen2, fun i r l hr hl => hx i r l hr hl⟩, by rw [hje, HLEN.out, hml]⟩
      have hz := HB1.out.size
      have hat2 : LnsAt (NT w.heap.size wr) wr o j (mkL xs) := hat.keep fun e b hb' => ⟨rfl, by have := hb'.1; omega, hb'.2⟩
      have HFIN : Hid (RdP xs w (.returned (.tuple #[.slice o j cap, .bool (decide (xs.length ≤ 20000))])) wr) := Lib.hid ⟨⟨o, j, cap, by rw [hall], fun _ => ⟨by rw [hje, HLEN.out], hat2, fun hn => own_none ho hn, hcap1, hcap2⟩⟩, HB1.out.trans (hb.mono HB1.out.size)⟩
      have HD := Lib.hid (show decide (xs.length ≤ 20000) = decide (n ≤ 20000) by rw [HLEN.out])
      obtain ⟨bb, hbb⟩ : ∃ bb, decide (n ≤ 20000) = bb := ⟨_, rfl⟩
      have hbb2 : decide ((n : Int) ≤ 20000) = bb := by rw [← hbb]; simp only [decide_eq_decide]; omega
      rw [HD.out, hbb] at HFIN
      clear hk hsh hj ho hl hx hb hcap1 hcap2 hje hat hat2 hall hml hlen2 hz hbb HD
      go_wp2_with fail
      go_ret2
      exact HFIN.out
end Go.Proofs.YtfobbcddedcepaaDoor
/- The document's lines of a text may be a frame's lines just where the code's may. -/
namespace Go.Proofs.YtfobbcddedcepaaDoor
open Go.RowKit
set_option maxRecDepth 100000
set_option linter.unusedSimpArgs false
set_option linter.unusedVariables false
theorem spl_no : ∀ (l : List UInt8), ∀ p ∈ spl l, (10 : UInt8) ∉ p
  | [], p, hp => by
    unfold spl at hp
    rw [List.mem_singleton] at hp
    subst hp; simp
  | c :: t, p, hp => by
    have ih := spl_no t
    unfold spl at hp
    by_cases hc : c = 10
    · rw [if_pos hc] at hp
      rcases List.mem_cons.1 hp with rfl | h
      · simp
      · exact ih p h
    · rw [if_neg hc] at hp
      have hne := spl_ne t
      cases hs : spl t with
      | nil => exact absurd hs hne
      | cons q qs =>
        rw [hs] at hp
        rcases List.mem_cons.1 hp with rfl | h
        · have := ih q (by rw [hs]; simp)
          intro h10
          rcases List.mem_cons.1 h10 with e | e
          · exact hc e.symm
          · exact this e
        · exact ih p (by rw [hs]; simp [h])
theorem ib_no : ∀ (l : List UInt8), (10 : UInt8) ∉ l → Lib.indexByte l 10 = -1
  | [], _ => rfl
  | c :: t, h => by
    have ih := ib_no t (fun e => h (List.mem_cons_of_mem _ e))
    have hc : ¬ c = 10 := fun e => h (by rw [e]; simp)
    unfold Lib.indexByte
    rw [if_neg (by simpa using hc), if_pos (by simp [ih])]
theorem parts_no (s : ByteArray) (x : ByteArray) (h : x ∈ parts s) : (10 : UInt8) ∉ x.data.toList :=
  spl_no s.data.toList _ (by rw [← parts_data]; exact List.mem_map.2 ⟨x, h, rfl⟩)
theorem rd_ok (s : ByteArray) : rdOk (linesS s) = okLs (mkL (linesS s)) := by
  have key : ∀ x ∈ linesS s, okLn ⟨x, false, 0, 0, []⟩ = decide (x.size ≤ 2000) := by
    intro x hx
    have hp : x ∈ parts s := by
      unfold linesS at hx
      split at hx
      · exact List.dropLast_subset _ hx
      · exact hx
    have hi := ib_no _ (parts_no s x hp)
    show okRL x false 0 0 0 = _
    unfold okRL okTx
    rw [hi]
    have hz : x.data.toList.length = x.size := rfl
    simp [hz]
  have h1 : (linesS s).all (fun x => decide (x.size ≤ 2000)) = (mkL (linesS s)).all okLn := by
    unfold mkL
    rw [List.all_map]
    rw [Bool.eq_iff_iff, List.all_eq_true, List.all_eq_true]
    constructor
    · intro h x hx
      show okLn ⟨x, false, 0, 0, []⟩ = true
      rw [key x hx]; exact h x hx
    · intro h x hx
      have := h x hx
      rw [← key x hx]; exact this
  unfold rdOk okLs
  rw [h1, Bool.and_comm]
  congr 2
  unfold mkL
  rw [List.length_map]
end Go.Proofs.YtfobbcddedcepaaDoor
/- Rows of frames: append from a row or from nothing, a row cut short, the cells of a frame. -/
namespace Go.Proofs.YtfobbcddedcepaaDoor
open Go.RowKit
set_option maxRecDepth 100000
set_option linter.unusedSimpArgs false
set_option linter.unusedVariables false
/-- append from a row of one's own, or from nothing. -/
theorem wpList_append_row {w : World} {ops : Array Oper} {rest : List Oper} {o : Oper} {a : Act} {Q : Exit → Act → World → Prop} (hgd : o.guard = none) (s x : Operand) (t : TypeId)
    (ho : o.op = .call { callee := .builtin .append, args := #[s, x], argTypes := #[t, t] })
    (base : Nat) (e : TypeId) (i : TypeInfo) (z : Value) (size bytes : Nat) (ht : Tryd.prog.underlying t = some (.slice e)) (hi : Tryd.prog.info? e = some i) (hz : i.zero = some z)
    (hsize : i.size = size) (hby : i.bytes = bytes) (hzs : z.cells.size = size) (hsz : 0 < size)
    (v : Value) (n : Nat) (xs : List Value) (hs : a.eval s = v) (hown : w.ownsRow base e size v n xs)
    (b2 : Nat) (x2 : Value) (m : Nat) (news : List Value) (hx : a.eval x = x2) (hsrc : w.ownsRow b2 e size x2 m news) (hl : news.length = m * size) (h1 : ∀ u ∈ news, u.oneCell' = true)
    (h63 : n + m ≤ maxLen) (hbytes : (n + m) * bytes ≤ 140737488355328) (hbase : base ≤ w.heap.size)
    (h : ∀ v' w', w'.ownsRow base e size v' (n + m) (xs ++ news) → w.grownBy w' v.ownBlock → wpList Tryd.prog ops Q rest (a.put o.dst v') w') : wpList Tryd.prog ops Q (o :: rest) a w := by
  rcases hsrc.2 with ⟨hv, hm⟩ | ⟨g, cap, cur, hv, _⟩
  · subst hv hm
    obtain rfl : news = [] := List.eq_nil_of_length_eq_zero (by omega)
    exact wpList_append_own_none hgd s x t ho base e i size ht hi v n xs hs hown hx (h v w (by simpa using hown) ⟨rfl, rfl, rfl, Nat.le_refl _, fun _ _ _ => rfl⟩)
  · subst hv
    exact wpList_append_own w hgd s x t ho base e i z size bytes ht hi hz hsize hby hzs hsz v n xs hs hown ⟨g, 0, none⟩ m cap news hx hl (fun j u hu => hsrc.cells rfl j u hu) h1 h63 hbytes hbase fun v' w' h2 h3 _ => h v' w' h2 h3
/-- The first elements of a row are a row. -/
theorem own_short {w : World} {base size n m c : Nat} {e : TypeId} {A : Option Addr} {xs : List Value} (h : w.ownsRow base e size (.slice A n c) n xs) (hm : m ≤ n) : w.ownsRow base e size (.slice A m c) m (xs.take (m * size)) := by
  have hle : m * size ≤ n * size := Nat.mul_le_mul_right _ hm
  refine ⟨by rw [List.length_take, h.1, Nat.min_eq_left hle], ?_⟩
  rcases h.2 with ⟨hv, h0⟩ | ⟨g, cap, cur, hv, hb, hg, h1, h2, h3, h4⟩
  · left
    injection hv with e1 e2 e3
    subst e1 e3
    obtain rfl : m = 0 := by omega
    exact ⟨rfl, rfl⟩
  · right
    injection hv with e1 e2 e3
    subst e1 e3
    exact ⟨g, c, cur, rfl, hb, hg, by omega, h2, h3, by rw [← h4, List.take_take, Nat.min_eq_left hle]⟩
theorem rows_short {w : World} {base n m c : Nat} {A : Option Addr} {rs : List RF} (h : w.ownsRow base 61 5 (.slice A n c) n (rs.flatMap rfCs)) (hm : m ≤ n) : w.ownsRow base 61 5 (.slice A m c) m ((rs.take m).flatMap rfCs) := by
  have h1 := own_short h hm
  have key : ∀ (l : List RF) (k : Nat), (l.flatMap rfCs).take (k * 5) = (l.take k).flatMap rfCs := by
    intro l
    induction l with
    | nil => intro k; simp
    | cons a t ih =>
      intro k
      cases k with
      | zero => simp
      | succ k =>
        rw [List.flatMap_cons, List.take_succ_cons, List.flatMap_cons, ← ih k]
        have hl : (rfCs a).length = 5 := rf_len a
        rw [List.take_append, List.take_of_length_le (by omega), hl, show (k + 1) * 5 - 5 = k * 5 by omega]
  rw [key] at h1
  exact h1
/-- The cells of frame j of a row. -/
theorem row_fc {w : World} {base n c : Nat} {A : Option Addr} {rs : List RF} (h : w.ownsRow base 61 5 (.slice A n c) n (rs.flatMap rfCs)) (hl : rs.length = n) (j : Nat) (r : RF) (hr : rs[j]? = some r) : ∃ g, A = some ⟨g, 0, none⟩ ∧ base ≤ g ∧ Tg w 61 g ∧
    (w.cell? ⟨g, j * 5, none⟩ = some (.int .i64 r.kd) ∧ w.cell? ⟨g, j * 5 + 1, none⟩ = some (.string r.nm) ∧ w.cell? ⟨g, j * 5 + 2, none⟩ = some (.slice r.lo r.ln r.lc) ∧ w.cell? ⟨g, j * 5 + 3, none⟩ = some (.slice r.ao r.an r.ac) ∧ w.cell? ⟨g, j * 5 + 4, none⟩ = some (.int .i64 r.tk)) := by
  have hjl := (List.getElem?_eq_some_iff.1 hr).1
  obtain ⟨g, hA, hb, _, cur, hg, _⟩ := own_head h (by omega)
  subst hA
  have key := fun k (hk : k < 5) => fm_at rf_len rs j k r hr hk
  have key2 : ∀ k (hk : k < 5) u, (rfCs r)[k]? = some u → w.cell? ⟨g, j * 5 + k, none⟩ = some u := fun k hk u hu => (own_cell h _ u ((key k hk).trans hu)).1
  exact ⟨g, rfl, hb, ⟨cur, _, hg⟩, key2 0 (by omega) _ rfl, key2 1 (by omega) _ rfl, key2 2 (by omega) _ rfl, key2 3 (by omega) _ rfl, key2 4 (by omega) _ rfl⟩
end Go.Proofs.YtfobbcddedcepaaDoor
/- The document's push. -/
namespace Go.Proofs.YtfobbcddedcepaaDoor
open Go.RowKit
set_option maxRecDepth 100000
set_option linter.unusedSimpArgs false
set_option linter.unusedVariables false
theorem info_rframe : (Tryd.prog.info? 61).map (fun i => (i.zero, i.size, i.bytes)) = some (some (.agg #[.int .i64 0, .string ⟨#[]⟩, .slice none 0 0, .slice none 0 0, .int .i64 0]), 5, 80) := by kernel_rfl
/-- What a deed of the document's stack leaves. -/
def RpP (X xb : Nat) (R : Int × List Fr) (w : World) (e : Ending) (w' : World) : Prop := e = .returned (.int .i64 R.1) ∧ RS X xb R.2 w' ∧ Kept (fun b => b = xb) w w'
theorem rf_all_one (rs : List RF) : ∀ u ∈ rs.flatMap rfCs, u.oneCell' = true := by
  intro u hu
  obtain ⟨r, _, h⟩ := List.mem_flatMap.1 hu
  exact rf_one r u h
abbrev rfX (r : RF) : Obj := .cells #[.int .i64 r.kd, .string r.nm, .slice r.lo r.ln r.lc, .slice r.ao r.an r.ac, .int .i64 r.tk] 61
section
variable {X xb : Nat} {A : Option Addr} {c : Nat} {F : List Fr} {rs : List RF} {w : World}
theorem cell_five_rf (w : World) (r : RF) : ∀ j u, (rfCs r)[j]? = some u → (w.alloc (rfX r)).cell? ((⟨w.heap.size, 0, none⟩ : Addr).add j) = some u := by
  intro j u hu
  rw [cell_add]
  have h := heap_alloc_new w (rfX r)
  simp only [World.cell?, h, Nat.zero_add]
  have : (#[.int .i64 r.kd, .string r.nm, .slice r.lo r.ln r.lc, .slice r.ao r.an r.ac, .int .i64 r.tk] : Array Value).toList[j]? = some u := hu
  rwa [Array.getElem?_toList] at this
theorem rfX_cells {w : World} {b : Nat} {r : RF} (h : w.heap[b]? = some (rfX r)) : w.cell? ⟨b, 0, none⟩ = some (.int .i64 r.kd) ∧ w.cell? ⟨b, 1, none⟩ = some (.string r.nm) ∧ w.cell? ⟨b, 2, none⟩ = some (.slice r.lo r.ln r.lc) ∧ w.cell? ⟨b, 3, none⟩ = some (.slice r.ao r.an r.ac) ∧ w.cell? ⟨b, 4, none⟩ = some (.int .i64 r.tk) := by
  simp [World.cell?, h]
/-- A frame more, in a new row. -/
theorem RK.add (h : RK X xb A c F rs w) {m : Nat} (hm : m ≤ F.length) (h50 : m < 50) {r : RF} {f : Fr} (hr : RfIs (Tg w) w r f) (hf : okFr f) (hst : ∀ (i : Nat) (x : Fr), (F.take m)[i]? = some x → stays x = true) {w5 : World} {v5 : Value}
    (hown : w5.ownsRow (w.heap.size + 1) 61 5 v5 (m + 1) ((rs.take m).flatMap rfCs ++ rfCs r)) (hb : Below w.heap.size w w5) : RS X xb (F.take m ++ [f]) (w5.setCell ⟨xb, 1, none⟩ v5) ∧ Kept (fun b => b = xb) w (w5.setCell ⟨xb, 1, none⟩ v5) := by
  have hK : Kept (fun b => b = xb) w (w5.setCell ⟨xb, 1, none⟩ v5) := (Kept.of (S := fun b => b = xb) hb).setCell (p := ⟨xb, 1, none⟩) rfl v5
  have hs := (hb.block xb h.lt).trans h.cell
  have hdt : Dt w (w5.setCell ⟨xb, 1, none⟩ v5) := fun e b he hb' => hK.block b hb'.lt (fun e' => by subst e'; exact (hb'.ne (show Tg w 52 b from ⟨_, _, h.cell⟩) (by rcases he with rfl | rfl | rfl | rfl <;> decide)) rfl)
  obtain ⟨o, cap, rfl, hc1, hc2⟩ := row_shape hown
  have hlt : ∀ g, (Value.slice o (m + 1) cap).ownBlock = some g → g ≠ xb := fun g hg e => by
    have := (own_tag hown hg).2
    have := h.lt
    omega
  have hlm : (F.take m).length = m := by rw [List.length_take]; omega
  have hlr : (rs.take m).length = m := by rw [List.length_take, h.rl]; omega
  refine ⟨⟨o, cap, rs.take m ++ [r], ⟨?_, ?_, ⟨by simp [h.rl], fun i a b ha hb => ?_⟩, fun x hx => ?_, by simp [hlm]; omega, fun i x hi hx => ?_, h.bx⟩⟩, hK⟩
  · rw [List.length_append, hlm]; simp [World.setCell, Array.getElem?_modify, hs]
  · rw [List.length_append, hlm, List.flatMap_append]
    have e : [r].flatMap rfCs = rfCs r := by simp
    rw [e]
    have hz : w5.ownsRow X 61 5 (.slice o (m + 1) cap) (m + 1) ((rs.take m).flatMap rfCs ++ rfCs r) := own_base hown (by have := h.bx; have := h.lt; omega)
    exact own_far hz fun b hb => Below.heap_setCell _ _ _ _ (by exact hlt b hb)
  · by_cases hi : i < m
    · rw [List.getElem?_append_left (by omega), List.getElem?_take, if_pos hi] at ha
      rw [List.getElem?_append_left (by omega), List.getElem?_take, if_pos hi] at hb
      exact (h.fr.2 i a b ha hb).dt hdt
    · have hl1 := (List.getElem?_eq_some_iff.1 ha).1
      have hi' : i = m := by simp [hlr] at hl1; omega
      subst hi'
      rw [List.getElem?_append_right (by omega), hlr, Nat.sub_self] at ha
      rw [List.getElem?_append_right (by omega), hlm, Nat.sub_self] at hb
      simp only [List.getElem?_cons_zero, Option.some.injEq] at ha hb
      subst ha hb
      exact hr.dt hdt
  · rcases List.mem_append.1 hx with hx | hx
    · exact h.ok x (List.mem_of_mem_take hx)
    · simp only [List.mem_cons, List.not_mem_nil, or_false] at hx
      subst hx; exact hf
  · rw [List.length_append, hlm] at hi
    rw [List.getElem?_append_left (by simp at hi; omega)] at hx
    exact hst i x hx
end
end Go.Proofs.YtfobbcddedcepaaDoor
/- The document's push: the walk. -/
namespace Go.Proofs.YtfobbcddedcepaaDoor
open Go.RowKit
set_option maxRecDepth 100000
set_option linter.unusedSimpArgs false
set_option linter.unusedVariables false
section
variable {X xb : Nat} {A : Option Addr} {c : Nat} {F : List Fr} {rs : List RF} {w : World}
set_option maxHeartbeats 2000000 in
theorem rpush_any (h : RK X xb A c F rs w) {r : RF} {f : Fr} (hr : RfIs (Tg w) w r f) (hf : okFr f) : Calls Tryd.prog 59 #[BP xb, rfA r] w (RpP X xb (pushS F f) w) := by
  obtain ⟨i0, hi0, hz0, hz1, hz2⟩ := info_parts info_rframe
  have hb1 := (Below.refl w.heap.size w).alloc (Nat.le_refl _) (rfX r)
  have hb2 := hb1.alloc hb1.size (.cells #[] 61)
  have h2 := h.below hb2
  have hc := h2.c0.2
  have HR0 := Lib.hid (World.ownsRow_made (base := w.heap.size + 1) (e := 61) (size := 5) (w.alloc (rfX r)) #[] 0 (by simp) (by unfold maxLen; omega) rfl)
  rw [show (w.alloc (rfX r)).heap.size = w.heap.size + 1 by simp] at HR0
  have HROW := Lib.hid h2.row
  have HRL := Lib.hid (show (rs.flatMap rfCs).length = F.length * 5 from h2.row.1)
  have hlen := h.len
  have H := Lib.hid h
  have HR := Lib.hid hr
  have HF := Lib.hid hf
  have HB2 := Lib.hid hb2
  have HX := Lib.hid ((Below.heap_alloc (w.alloc (rfX r)) (.cells #[] 61) w.heap.size (by simp)).trans (heap_alloc_new w (rfX r)))
  have HP := Lib.hid (show pushS F f = if topS stays F = 50 then (2, F) else (0, F.take (topS stays F) ++ [f]) from rfl)
  obtain ⟨kd, nm, lo, ln, lc, ao, an, ac, tk⟩ := r
  clear hb1 hb2 h2 h hr hf
  go_enter Tryd.func59, Tryd.ntmps59
  go_wp2_with (first
    | (at_builtin; refine wpList_append_row rfl _ _ 50 rfl (w.heap.size + 1) 61 i0 _ 5 80 Tryd.underlying50 hi0 hz0 hz1 hz2 rfl (by decide) _ 0 [] rfl HR0.out X _ F.length (rs.flatMap rfCs) rfl HROW.out HRL.out (rf_all_one rs) (by unfold maxLen; omega) (by omega) (by simp) ?_
       intro v3 w3 hown3 hgrow3
       obtain ⟨o3, cap3, rfl, h31, h32⟩ := row_shape hown3
       rw [Nat.zero_add, List.nil_append] at hown3
       have HO3 := Lib.hid hown3
       have hc3 : F.length ≤ cap3 := by omega
       have hg3 : ((w.alloc (rfX ⟨kd, nm, lo, ln, lc, ao, an, ac, tk⟩)).alloc (.cells #[] 61)).grownBy w3 (some (w.heap.size + 1)) := hgrow3
       have HB3 := Lib.hid (HB2.out.grown hg3 (by simp; omega) (fun g e => by injection e with e; omega))
       have HX3 := Lib.hid ((hg3.block w.heap.size (by simp; omega) (by intro e; injection e with e; omega)).trans HX.out)
       have HZ3 : Hid (w.heap.size + 1 ≤ w3.heap.size) := Lib.hid (by have := hg3.size; simp at this; omega)
       rw [Nat.zero_add]
       clear hown3 hgrow3 h31 h32 hg3))
  go_loopg [5] F.length (fun q x wr => ∃ m : Nat, q = m ∧ m ≤ F.length ∧ x = .slice o3 m cap3 ∧ topS stays F = topN stays F m ∧ Below w3.heap.size w3 wr)
  case atStart => exact ⟨F.length, rfl, Nat.le_refl _, rfl, rfl, Below.refl _ _⟩
  case round =>
    obtain ⟨m, rfl, hm, rfl, ht, hb⟩ := hrel
    have HB := Lib.hid hb
    have HML := Lib.hid hm
    cases gk with
    | zero =>
      have d0 : decide ((0 : Int) < ((0 : Nat) : Int)) = false := by decide
      have HTOP := Lib.hid (show topS stays F = 0 from ht)
      have HLAST : Hid (∀ (i : Nat) (x : Fr), i + 1 = 0 → F[i]? = some x → stays x = true) := Lib.hid (fun i x h => by omega)
      clear hm ht hb
      have HST : Hid (∀ (i : Nat) (x : Fr), (F.take (0))[i]? = some x → stays x = true) := Lib.hid (fun i x hx => by
        rw [List.getElem?_take] at hx
        split at hx
        · rename_i hi
          by_cases hik : i + 1 = 0
          · exact HLAST.out i x hik hx
          · exact H.out.inv i x (by have := HML.out; omega) hx
        · cases hx)
      have HM49 := Lib.hid (show 0 < 50 by decide)
      have d50 : decide ((50 : Int) ≤ ((0 : Nat) : Int)) = false := by decide
      have hxw := (HB.out.block w.heap.size (lt_of_block HX3.out)).trans HX3.out
      obtain ⟨x0, x1, x2, x3, x4⟩ := rfX_cells hxw
      have hbw : Below w.heap.size w wr := HB3.out.trans (HB.out.mono HB3.out.size)
      have hsw := (hbw.block xb H.out.lt).trans H.out.cell
      have HBW := Lib.hid hbw
      have HSW := Lib.hid hsw
      have hrow := rows_short (own_kept HO3.out (Kept.of (S := fun _ => False) HB.out) (fun _ _ h => h)) HML.out
      have hrow2 := hrow.alloc (rfX ⟨kd, nm, lo, ln, lc, ao, an, ac, tk⟩)
      have HROWM := Lib.hid hrow2
      have HSRC := Lib.hid (cell_five_rf wr ⟨kd, nm, lo, ln, lc, ao, an, ac, tk⟩)
      have HZW := Lib.hid (show w.heap.size + 1 ≤ wr.heap.size from Nat.le_trans HZ3.out HB.out.size)
      have hm49 : 0 < 50 := HM49.out
      clear hxw hbw hsw hrow hrow2
      go_wp2_with (first
        | (at_builtin; refine wpList_append_own _ rfl _ _ 50 rfl (w.heap.size + 1) 61 i0 _ 5 80 Tryd.underlying50 hi0 hz0 hz1 hz2 rfl (by decide) _ (0) ((rs.take (0)).flatMap rfCs) rfl HROWM.out ⟨wr.heap.size, 0, none⟩ 1 1 (rfCs ⟨kd, nm, lo, ln, lc, ao, an, ac, tk⟩) rfl rfl HSRC.out (rf_one ⟨kd, nm, lo, ln, lc, ao, an, ac, tk⟩) (by unfold maxLen; omega) (by omega) (by have := HZW.out; simp; omega) ?_
           intro v5 w5 hown5 hgrow5 _
           obtain ⟨o5, cap5, rfl, _, _⟩ := row_shape hown5
           have hg5 : (wr.alloc (rfX ⟨kd, nm, lo, ln, lc, ao, an, ac, tk⟩)).grownBy w5 (Value.slice o3 (0) cap3).ownBlock := hgrow5
           have hbn := HBW.out.alloc HBW.out.size (rfX ⟨kd, nm, lo, ln, lc, ao, an, ac, tk⟩)
           have hb5 := hbn.grown hg5 (by have := HBW.out.size; simp; omega) (fun k hk => by have := (own_tag HROWM.out hk).2; omega)
           have HADD := Lib.hid (H.out.add HML.out HM49.out HR.out HF.out HST.out hown5 hb5)
           have hs5 := (hb5.block xb H.out.lt).trans H.out.cell
           have e1 : w5.cell? ⟨xb, 1, none⟩ = some (.slice A F.length c) := by simp [World.cell?, hs5]
           have e2 : w5.frozen? ⟨xb, 1, none⟩ = false := by simp [World.frozen?, hs5]
           clear hown5 hgrow5 hg5 hbn hb5 hs5))
      go_wp2_with fail
      go_ret
      rw [HP.out, HTOP.out, if_neg (by have := HM49.out; omega)]
      exact ⟨rfl, HADD.out.1, HADD.out.2⟩
    | succ k =>
      have hrk : rs[k]? = some (rs[k]'(by have := H.out.rl; omega)) := List.getElem?_eq_getElem (by have := H.out.rl; omega)
      obtain ⟨q, hq⟩ : ∃ q, q = rs[k]'(by have := H.out.rl; omega) := ⟨_, rfl⟩
      rw [← hq] at hrk
      have hfk : F[k]? = some (F[k]'(by omega)) := List.getElem?_eq_getElem (by omega)
      obtain ⟨y, hy⟩ : ∃ y, y = F[k]'(by omega) := ⟨_, rfl⟩
      rw [← hy] at hfk
      have hqi := H.out.fr.2 k q y hrk hfk
      have hqm := q_more q y hqi
      have hrow := own_kept HO3.out (Kept.of (S := fun _ => False) hb) (fun _ _ h => h)
      obtain ⟨g, rfl, _, _, c0, c1, c2, c3, c4⟩ := row_fc hrow H.out.rl k q hrk
      have hov := rover_any q wr
      rw [hqm] at hov
      have d0 : decide ((0 : Int) < ((k + 1 : Nat) : Int)) = true := decide_eq_true (by omega)
      have hk0 : (0 : Int) ≤ (k : Int) := by omega
      have hk1 : (k : Int) < ((k + 1 : Nat) : Int) := by omega
      have hk2 : ((k + 1 : Nat) : Int) - 1 = (k : Int) := by omega
      have hk3 : (k : Int) < (k : Int) + 1 := by omega
      have hk50 : (k : Int) ≤ 50 := by omega
      have hkc : (k : Int) ≤ (cap3 : Int) := by omega
      have hkd := hqi.kd
      by_cases h3 : q.kd = 3
      · have d3 : (q.kd == (3 : Int)) = true := by rw [h3]; rfl
        cases hmo : hasMore y with
        | true =>
          have hsty : stays y = true := by unfold stays; rw [hmo, Bool.or_true]
          have HTOP := Lib.hid (show topS stays F = k + 1 by rw [ht, topN_yes stays F k y hfk hsty])
          have HLAST : Hid (∀ (i : Nat) (x : Fr), i + 1 = k + 1 → F[i]? = some x → stays x = true) := Lib.hid (fun i x h hx => by
            obtain rfl : i = k := by omega
            rw [hfk] at hx
            rw [← Option.some.inj hx]; exact hsty)
          rw [hmo] at hov
          have HO := Lib.hid hov
          obtain ⟨qkd, qnm, qlo, qln, qlc, qao, qan, qac, qtk⟩ := q
          simp only at c0 c1 c2 c3 c4 d3
          clear hm ht hb hrk hq hfk hy hqi hqm hrow hov hkd h3 hmo hsty
          go_wp2_with fail
          refine HO.out.mono ?_
          rintro e w4 ⟨rfl, hb4⟩
          have HB4 := Lib.hid (HB.out.trans (hb4.mono HB.out.size))
          clear hb4
          have HST : Hid (∀ (i : Nat) (x : Fr), (F.take (k + 1))[i]? = some x → stays x = true) := Lib.hid (fun i x hx => by
            rw [List.getElem?_take] at hx
            split at hx
            · rename_i hi
              by_cases hik : i + 1 = k + 1
              · exact HLAST.out i x hik hx
              · exact H.out.inv i x (by have := HML.out; omega) hx
            · cases hx)
          by_cases h50 : k + 1 = 50
          · have HM50 := Lib.hid h50
            have d50 : decide ((50 : Int) ≤ ((k + 1 : Nat) : Int)) = true := decide_eq_true (by omega)
            have d51 : decide ((50 : Int) ≤ (k : Int) + 1) = true := decide_eq_true (by omega)
            clear h50
            go_wp2_with fail
            go_ret
            rw [HP.out, HTOP.out, if_pos HM50.out]
            exact ⟨rfl, ⟨_, _, _, H.out.below (HB3.out.trans (HB4.out.mono HB3.out.size))⟩, Kept.of (HB3.out.trans (HB4.out.mono HB3.out.size))⟩
          · have HM49 := Lib.hid (Nat.lt_of_le_of_ne (Nat.le_trans HML.out hlen) h50)
            have hm49 : k + 1 < 50 := HM49.out
            have d50 : decide ((50 : Int) ≤ ((k + 1 : Nat) : Int)) = false := decide_eq_false (by omega)
            have d51 : decide ((50 : Int) ≤ (k : Int) + 1) = false := decide_eq_false (by omega)
            clear h50
            have hxw := (HB4.out.block w.heap.size (lt_of_block HX3.out)).trans HX3.out
            obtain ⟨x0, x1, x2, x3, x4⟩ := rfX_cells hxw
            have hbw : Below w.heap.size w w4 := HB3.out.trans (HB4.out.mono HB3.out.size)
            have hsw := (hbw.block xb H.out.lt).trans H.out.cell
            have HBW := Lib.hid hbw
            have HSW := Lib.hid hsw
            have hrow := rows_short (own_kept HO3.out (Kept.of (S := fun _ => False) HB4.out) (fun _ _ h => h)) HML.out
            have hrow2 := hrow.alloc (rfX ⟨kd, nm, lo, ln, lc, ao, an, ac, tk⟩)
            have HROWM := Lib.hid hrow2
            have HSRC := Lib.hid (cell_five_rf w4 ⟨kd, nm, lo, ln, lc, ao, an, ac, tk⟩)
            have HZW := Lib.hid (show w.heap.size + 1 ≤ w4.heap.size from Nat.le_trans HZ3.out HB4.out.size)
            have hm49 : k + 1 < 50 := HM49.out
            clear hxw hbw hsw hrow hrow2
            go_wp2_with (first
              | (at_builtin; refine wpList_append_own _ rfl _ _ 50 rfl (w.heap.size + 1) 61 i0 _ 5 80 Tryd.underlying50 hi0 hz0 hz1 hz2 rfl (by decide) _ (k + 1) ((rs.take (k + 1)).flatMap rfCs) rfl HROWM.out ⟨w4.heap.size, 0, none⟩ 1 1 (rfCs ⟨kd, nm, lo, ln, lc, ao, an, ac, tk⟩) rfl rfl HSRC.out (rf_one ⟨kd, nm, lo, ln, lc, ao, an, ac, tk⟩) (by unfold maxLen; omega) (by omega) (by have := HZW.out; simp; omega) ?_
                 intro v5 w5 hown5 hgrow5 _
                 obtain ⟨o5, cap5, rfl, _, _⟩ := row_shape hown5
                 have hg5 : (w4.alloc (rfX ⟨kd, nm, lo, ln, lc, ao, an, ac, tk⟩)).grownBy w5 (Value.slice (some ⟨g, 0, none⟩) (k + 1) cap3).ownBlock := hgrow5
                 have hbn := HBW.out.alloc HBW.out.size (rfX ⟨kd, nm, lo, ln, lc, ao, an, ac, tk⟩)
                 have hb5 := hbn.grown hg5 (by have := HBW.out.size; simp; omega) (fun k hk => by have := (own_tag HROWM.out hk).2; omega)
                 have HADD := Lib.hid (H.out.add HML.out HM49.out HR.out HF.out HST.out hown5 hb5)
                 have hs5 := (hb5.block xb H.out.lt).trans H.out.cell
                 have e1 : w5.cell? ⟨xb, 1, none⟩ = some (.slice A F.length c) := by simp [World.cell?, hs5]
                 have e2 : w5.frozen? ⟨xb, 1, none⟩ = false := by simp [World.frozen?, hs5]
                 clear hown5 hgrow5 hg5 hbn hb5 hs5))
            go_wp2_with fail
            go_ret
            rw [HP.out, HTOP.out, if_neg (by have := HM49.out; omega)]
            exact ⟨rfl, HADD.out.1, HADD.out.2⟩
        | false =>
          have hsty : stays y = false := by unfold stays; rw [hmo, ← hkd, h3]; rfl
          have HNXT := Lib.hid (show topS stays F = topN stays F k by rw [ht, topN_no stays F k y hfk hsty])
          rw [hmo] at hov
          have HO := Lib.hid hov
          obtain ⟨qkd, qnm, qlo, qln, qlc, qao, qan, qac, qtk⟩ := q
          simp only at c0 c1 c2 c3 c4 d3
          clear hm ht hb hrk hq hfk hy hqi hqm hrow hov hkd h3 hmo hsty
          go_wp2_with fail
          refine HO.out.mono ?_
          rintro e w4 ⟨rfl, hb4⟩
          have HB4 := Lib.hid (HB.out.trans (hb4.mono HB.out.size))
          clear hb4
          go_wp2_with fail
          go_roundg k
          case measure => omega
          case rel => exact ⟨k, rfl, by have := HML.out; omega, by first | rfl | simp, HNXT.out, HB4.out⟩
      · have d3 : (q.kd == (3 : Int)) = false := beq_eq_false_iff_ne.2 h3
        have hsty : stays y = true := by unfold stays; rw [← hkd]; simp [h3]
        have HTOP := Lib.hid (show topS stays F = k + 1 by rw [ht, topN_yes stays F k y hfk hsty])
        have HLAST : Hid (∀ (i : Nat) (x : Fr), i + 1 = k + 1 → F[i]? = some x → stays x = true) := Lib.hid (fun i x h hx => by
          obtain rfl : i = k := by omega
          rw [hfk] at hx
          rw [← Option.some.inj hx]; exact hsty)
        obtain ⟨qkd, qnm, qlo, qln, qlc, qao, qan, qac, qtk⟩ := q
        simp only at c0 c1 c2 c3 c4 d3
        clear hm ht hb hrk hq hfk hy hqi hqm hrow hov hkd h3 hsty
        have HST : Hid (∀ (i : Nat) (x : Fr), (F.take (k + 1))[i]? = some x → stays x = true) := Lib.hid (fun i x hx => by
          rw [List.getElem?_take] at hx
          split at hx
          · rename_i hi
            by_cases hik : i + 1 = k + 1
            · exact HLAST.out i x hik hx
            · exact H.out.inv i x (by have := HML.out; omega) hx
          · cases hx)
        by_cases h50 : k + 1 = 50
        · have HM50 := Lib.hid h50
          have d50 : decide ((50 : Int) ≤ ((k + 1 : Nat) : Int)) = true := decide_eq_true (by omega)
          have d51 : decide ((50 : Int) ≤ (k : Int) + 1) = true := decide_eq_true (by omega)
          clear h50
          go_wp2_with fail
          go_ret
          rw [HP.out, HTOP.out, if_pos HM50.out]
          exact ⟨rfl, ⟨_, _, _, H.out.below (HB3.out.trans (HB.out.mono HB3.out.size))⟩, Kept.of (HB3.out.trans (HB.out.mono HB3.out.size))⟩
        · have HM49 := Lib.hid (Nat.lt_of_le_of_ne (Nat.le_trans HML.out hlen) h50)
          have hm49 : k + 1 < 50 := HM49.out
          have d50 : decide ((50 : Int) ≤ ((k + 1 : Nat) : Int)) = false := decide_eq_false (by omega)
          have d51 : decide ((50 : Int) ≤ (k : Int) + 1) = false := decide_eq_false (by omega)
          clear h50
          have hxw := (HB.out.block w.heap.size (lt_of_block HX3.out)).trans HX3.out
          obtain ⟨x0, x1, x2, x3, x4⟩ := rfX_cells hxw
          have hbw : Below w.heap.size w wr := HB3.out.trans (HB.out.mono HB3.out.size)
          have hsw := (hbw.block xb H.out.lt).trans H.out.cell
          have HBW := Lib.hid hbw
          have HSW := Lib.hid hsw
          have hrow := rows_short (own_kept HO3.out (Kept.of (S := fun _ => False) HB.out) (fun _ _ h => h)) HML.out
          have hrow2 := hrow.alloc (rfX ⟨kd, nm, lo, ln, lc, ao, an, ac, tk⟩)
          have HROWM := Lib.hid hrow2
          have HSRC := Lib.hid (cell_five_rf wr ⟨kd, nm, lo, ln, lc, ao, an, ac, tk⟩)
          have HZW := Lib.hid (show w.heap.size + 1 ≤ wr.heap.size from Nat.le_trans HZ3.out HB.out.size)
          have hm49 : k + 1 < 50 := HM49.out
          clear hxw hbw hsw hrow hrow2
          go_wp2_with (first
            | (at_builtin; refine wpList_append_own _ rfl _ _ 50 rfl (w.heap.size + 1) 61 i0 _ 5 80 Tryd.underlying50 hi0 hz0 hz1 hz2 rfl (by decide) _ (k + 1) ((rs.take (k + 1)).flatMap rfCs) rfl HROWM.out ⟨wr.heap.size, 0, none⟩ 1 1 (rfCs ⟨kd, nm, lo, ln, lc, ao, an, ac, tk⟩) rfl rfl HSRC.out (rf_one ⟨kd, nm, lo, ln, lc, ao, an, ac, tk⟩) (by unfold maxLen; omega) (by omega) (by have := HZW.out; simp; omega) ?_
               intro v5 w5 hown5 hgrow5 _
               obtain ⟨o5, cap5, rfl, _, _⟩ := row_shape hown5
               have hg5 : (wr.alloc (rfX ⟨kd, nm, lo, ln, lc, ao, an, ac, tk⟩)).grownBy w5 (Value.slice (some ⟨g, 0, none⟩) (k + 1) cap3).ownBlock := hgrow5
               have hbn := HBW.out.alloc HBW.out.size (rfX ⟨kd, nm, lo, ln, lc, ao, an, ac, tk⟩)
               have hb5 := hbn.grown hg5 (by have := HBW.out.size; simp; omega) (fun k hk => by have := (own_tag HROWM.out hk).2; omega)
               have HADD := Lib.hid (H.out.add HML.out HM49.out HR.out HF.out HST.out hown5 hb5)
               have hs5 := (hb5.block xb H.out.lt).trans H.out.cell
               have e1 : w5.cell? ⟨xb, 1, none⟩ = some (.slice A F.length c) := by simp [World.cell?, hs5]
               have e2 : w5.frozen? ⟨xb, 1, none⟩ = false := by simp [World.frozen?, hs5]
               clear hown5 hgrow5 hg5 hbn hb5 hs5))
          go_wp2_with fail
          go_ret
          rw [HP.out, HTOP.out, if_neg (by have := HM49.out; omega)]
          exact ⟨rfl, HADD.out.1, HADD.out.2⟩
end
end Go.Proofs.YtfobbcddedcepaaDoor
/- The document's File. -/
namespace Go.Proofs.YtfobbcddedcepaaDoor
open Go.RowKit
set_option maxRecDepth 100000
set_option linter.unusedSimpArgs false
set_option linter.unusedVariables false
theorem RpP.to {X xb : Nat} {R : Int × List Fr} {w w1 : World} {e : Ending} {w' : World} (h : RpP X xb R w1 e w') (hb : Below w.heap.size w w1) : RpP X xb R w e w' := ⟨h.1, h.2.1, (Kept.of hb).trans h.2.2⟩
section
variable {X xb : Nat} {A : Option Addr} {c : Nat} {F : List Fr} {rs : List RF} {w : World}
set_option maxHeartbeats 1000000 in
theorem rFile_any (h : RK X xb A c F rs w) (nm s : ByteArray) (hs : s.size ≤ 1000000) : Calls Tryd.prog 24 #[BP xb, .string nm, .string s] w (RpP X xb (fileS F nm s) w) := by
  have HRD := Lib.hid (rread_any s hs w)
  have HNO := Lib.hid (fun W (hb : Below w.heap.size w W) => rno_any (h.below hb))
  have HNM := Lib.hid (fun W => rnamed_any nm W)
  have H := Lib.hid h
  obtain ⟨b1, hb1⟩ : ∃ b, b = okName nm := ⟨_, rfl⟩
  obtain ⟨b2, hb2⟩ : ∃ b, b = rdOk (linesS s) := ⟨_, rfl⟩
  have HP := Lib.hid (show fileS F nm s = if (b1 && b2) = true then pushS F (fileFr nm s) else (1, F) by unfold fileS okF; rw [hb1, hb2, rd_ok])
  have HOK := Lib.hid (show b2 = true → okFr (fileFr nm s) by
    intro h
    rw [hb2, rd_ok] at h
    unfold okLs at h
    rw [Bool.and_eq_true] at h
    exact ⟨h.2, of_decide_eq_true h.1, Nat.zero_le _, .inl rfl⟩)
  have HRX : Hid (∀ e w', RdP (linesS s) w e w' → ∃ A n c, e = .returned (.tuple #[.slice A n c, .bool b2]) ∧ (b2 = true → RfIs (Tg w') w' ⟨1, nm, A, n, c, none, 0, 0, 0⟩ (fileFr nm s)) ∧ Below w.heap.size w w') := Lib.hid (by
    rintro e w' ⟨⟨A, n, c, he, hx⟩, hb⟩
    rw [← hb2] at he hx
    refine ⟨A, n, c, he, fun h2 => ?_, hb⟩
    obtain ⟨h1, h3, h4, h5, h6⟩ := hx h2
    exact ⟨rfl, rfl, rfl, h3.keep fun e b hb' => ⟨rfl, hb'.2⟩, h4, h5, h6, strs_none _, fun _ => rfl, Nat.le_refl _, (show ((0 : Nat) : Int) ≤ 9223372036854775807 by decide), (show 0 * 16 ≤ 140737488351232 by decide)⟩)
  rw [← hb1] at HNM
  clear hb1 hb2 h hs
  cases b1 with
  | false =>
    go_enter Tryd.func24, Tryd.ntmps24
    go_wp2_with fail
    refine HRD.out.mono ?_
    intro e w1 hx
    obtain ⟨A1, n1, c1, rfl, _, hb⟩ := HRX.out e w1 hx
    have HB := Lib.hid hb
    clear hx hb
    go_wp2_with fail
    refine (HNO.out _ HB.out).mono ?_
    rintro e w2 ⟨rfl, rfl⟩
    go_wp2_with fail
    refine (HNM.out _).mono ?_
    rintro e w2 ⟨rfl, rfl⟩
    go_wp2_with fail
    go_ret
    rw [HP.out]
    exact ⟨rfl, ⟨_, _, _, H.out.below HB.out⟩, Kept.of HB.out⟩
  | true =>
    cases b2 with
    | false =>
      go_enter Tryd.func24, Tryd.ntmps24
      go_wp2_with fail
      refine HRD.out.mono ?_
      intro e w1 hx
      obtain ⟨A1, n1, c1, rfl, _, hb⟩ := HRX.out e w1 hx
      have HB := Lib.hid hb
      clear hx hb
      go_wp2_with fail
      refine (HNO.out _ HB.out).mono ?_
      rintro e w2 ⟨rfl, rfl⟩
      go_wp2_with fail
      refine (HNM.out _).mono ?_
      rintro e w2 ⟨rfl, rfl⟩
      go_wp2_with fail
      go_ret
      rw [HP.out]
      exact ⟨rfl, ⟨_, _, _, H.out.below HB.out⟩, Kept.of HB.out⟩
    | true =>
      go_enter Tryd.func24, Tryd.ntmps24
      go_wp2_with fail
      refine HRD.out.mono ?_
      intro e w1 hx
      obtain ⟨A1, n1, c1, rfl, hri, hb⟩ := HRX.out e w1 hx
      have HB := Lib.hid hb
      have HPU := Lib.hid (rpush_any (H.out.below hb) (hri (by first | rfl | trivial)) (HOK.out (by first | rfl | trivial)))
      clear hx hb hri
      go_wp2_with fail
      refine (HNO.out _ HB.out).mono ?_
      rintro e w2 ⟨rfl, rfl⟩
      go_wp2_with fail
      refine (HNM.out _).mono ?_
      rintro e w2 ⟨rfl, rfl⟩
      go_wp2_with fail
      refine HPU.out.mono ?_
      rintro e w3 ⟨rfl, hst, hk⟩
      have HST := Lib.hid hst
      have HK := Lib.hid hk
      clear hst hk
      go_wp2_with fail
      go_ret
      rw [HP.out]
      exact ⟨rfl, HST.out, (Kept.of HB.out).trans HK.out⟩
end
end Go.Proofs.YtfobbcddedcepaaDoor
