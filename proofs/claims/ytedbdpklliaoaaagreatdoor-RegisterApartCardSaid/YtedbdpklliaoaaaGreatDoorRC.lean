/- The document's book: Rename. -/
import Derived.Test.YtedbdpklliaoaaaGreatDoorRB
namespace Go.Proofs.YtedbdpklliaoaaaGreatDoor
open Go.RowKit Go.Shelf Go.Maps
set_option maxRecDepth 100000
theorem ren_same (r : Reg) (nm : List UInt8) (h : r.nm = nm) : reNm r nm = r := by subst h; rfl
theorem Fr.setNew {bx : Nat} {v v' : Value} {u w : World} (h : Fr bx v v' u w) (b i : Nat) (x : Value) (hb : u.heap.size ≤ b) : Fr bx v v' u (w.setCell ⟨b, i, none⟩ x) :=
  ⟨h.kept.new (setCell_kept w b i x) hb, h.own⟩
set_option maxHeartbeats 2000000 in
theorem rRename_any {B bx : Nat} {v : Value} {L : List Reg} {w : World} (h : RK B bx v L w) (hA : Asc L) (hl : L.length ≤ 500) (s t : ByteArray) :
    Calls Tryz.prog 31 #[BP bx, .string s, .string t] w fun e w' => ∃ v', e = .returned (.int .i64 (renS L s.data.toList t.data.toList).1) ∧ RK B bx v' (renS L s.data.toList t.data.toList).2 w' ∧ Fr bx v v' w w' := by
  have HN := Lib.hid (rIsName_any s w)
  have HN2 := Lib.hid (rIsName_any t w)
  have HH := Lib.hid (rHas_any h hA hl s)
  have H := Lib.hid h
  unfold renS
  cases hn : okNm s.data.toList with
  | false =>
    rw [if_pos rfl]
    rw [hn] at HN
    clear h hn
    go_enter Tryz.func31, Tryz.ntmps31
    go_wp2_with fail
    refine HN.out.mono ?_
    rintro e w1 ⟨rfl, rfl⟩
    go_wp2_with fail
    go_ret
    exact ⟨v, rfl, H.out, Fr.refl _ _ _⟩
  | true =>
    rw [if_neg (by decide)]
    rw [hn] at HN
    cases hn2 : okNm t.data.toList with
    | false =>
      rw [Bool.and_false, if_pos rfl]
      rw [hn2] at HN2
      clear h hn hn2
      go_enter Tryz.func31, Tryz.ntmps31
      go_wp2_with fail
      refine HN.out.mono ?_
      rintro e w1 ⟨rfl, rfl⟩
      go_wp2_with fail
      refine HN2.out.mono ?_
      rintro e w1 ⟨rfl, rfl⟩
      go_wp2_with fail
      go_ret
      exact ⟨v, rfl, H.out, Fr.refl _ _ _⟩
    | true =>
      rw [hn2] at HN2
      cases ht : hasS L s.data.toList with
      | false =>
        rw [Bool.false_and, if_pos rfl]
        rw [ht] at HH
        clear h hn hn2 ht
        go_enter Tryz.func31, Tryz.ntmps31
        go_wp2_with fail
        refine HN.out.mono ?_
        rintro e w1 ⟨rfl, rfl⟩
        go_wp2_with fail
        refine HN2.out.mono ?_
        rintro e w1 ⟨rfl, rfl⟩
        go_wp2_with fail
        refine HH.out.mono ?_
        rintro e w2 ⟨rfl, hb⟩
        have HB := Lib.hid hb
        clear hb
        go_wp2_with fail
        go_ret
        exact ⟨v, rfl, H.out.below HB.out, .below HB.out⟩
      | true =>
        rw [Bool.true_and, if_neg (by decide)]
        rw [ht] at HH
        by_cases hst : s.data.toList = t.data.toList
        · have hR : putS (delS L s.data.toList) (reNm (getS L s.data.toList) t.data.toList) = L := by
            rw [← hst, ren_same _ _ (getS_nm L s.data.toList)]
            exact put_del_same L _ hA ht
          rw [hR]
          have hq : (s.toList == t.toList) = true := by rw [Lib.toList_data, Lib.toList_data, hst]; simp
          clear h hn hn2 ht hR hst
          go_enter Tryz.func31, Tryz.ntmps31
          go_wp2_with fail
          refine HN.out.mono ?_
          rintro e w1 ⟨rfl, rfl⟩
          go_wp2_with fail
          refine HN2.out.mono ?_
          rintro e w1 ⟨rfl, rfl⟩
          go_wp2_with fail
          refine HH.out.mono ?_
          rintro e w2 ⟨rfl, hb⟩
          have HB := Lib.hid hb
          clear hb
          go_wp2_with fail
          go_ret
          exact ⟨v, rfl, H.out.below HB.out, .below HB.out⟩
        · have hq : (s.toList == t.toList) = false := by rw [Lib.toList_data, Lib.toList_data]; simpa using hst
          have HG := Lib.hid (fun W hW => rget_any (h.below (w' := W) hW) hA hl s)
          have HRM : Hid (∀ W, Below w.heap.size w W → Calls Tryz.prog 30 #[BP bx, .string s] W fun e w' => ∃ v', e = .returned (.int .i64 0) ∧ RK B bx v' (delS L s.data.toList) w' ∧ Fr bx v v' W w') := Lib.hid (fun W hW => by
            have := rRemove_any (h.below (w' := W) hW) hA hl s
            unfold remS at this
            rw [if_neg (by rw [hn]; decide)] at this
            exact this)
          have hlen := len_del L s.data.toList hA
          rw [ht, if_pos rfl] at hlen
          have HPT : Hid (∀ (r : Reg) v' W, RK B bx v' (delS L s.data.toList) W → Calls Tryz.prog 51 #[BP bx, .agg #[.string t, .int .i64 r.v, .int .i64 r.st, .string ⟨r.fm.toArray⟩]] W fun e w' => ∃ v'', e = .returned (.int .i64 0) ∧ RK B bx v'' (putS (delS L s.data.toList) (reNm r t.data.toList)) w' ∧ Fr bx v' v'' W w') := Lib.hid (fun r v' W hW => by
            have := rput_any hW (asc_del L _ hA) (by omega) (reNm r t.data.toList)
            unfold ptS at this
            rw [if_neg (by rintro ⟨_, h5⟩; omega)] at this
            exact this.mono fun e w' ⟨v'', he, hr, hk, hf⟩ => ⟨v'', he, hr, ⟨hk, hf⟩⟩)
          obtain ⟨r, hr⟩ : ∃ r, r = getS L s.data.toList := ⟨_, rfl⟩
          rw [← hr] at HG ⊢
          unfold regX at HG
          clear h hn hn2 ht hst hlen hr
          go_enter Tryz.func31, Tryz.ntmps31
          go_wp2_with fail
          refine HN.out.mono ?_
          rintro e w1 ⟨rfl, rfl⟩
          go_wp2_with fail
          refine HN2.out.mono ?_
          rintro e w1 ⟨rfl, rfl⟩
          go_wp2_with fail
          refine HH.out.mono ?_
          rintro e w2 ⟨rfl, hb⟩
          have HB := Lib.hid hb
          clear hb
          go_wp2_with fail
          refine (HG.out _ HB.out).mono ?_
          rintro e w3 ⟨rfl, hb3⟩
          have hb3' := HB.out.trans (hb3.mono HB.out.size)
          have HB3 := Lib.hid hb3'
          have hz3 := hb3'.size
          clear hb3 hb3'
          go_wp2_with fail
          have hbw := HB3.out.alloc hz3 (.cells #[.string ⟨r.nm.toArray⟩, .int .i64 r.v, .int .i64 r.st, .string ⟨r.fm.toArray⟩] 74)
          refine (HRM.out _ hbw).mono ?_
          rintro e w4 ⟨v', rfl, hr4, hf4⟩
          have HR4 := Lib.hid hr4
          have HF4 := Lib.hid ((Fr.below (bx := bx) (v := v) hbw).trans hf4)
          have hblk := hf4.kept.block w3.heap.size (by simp) (H.out.far _ hz3)
          rw [heap_alloc_new] at hblk
          obtain ⟨⟨c0, c1, c2, c3⟩, f0, f1, f2, f3⟩ := fresh_rr hblk
          have HFAR : Hid (∀ k, v'.ownBlock = some k → k ≠ w3.heap.size) := Lib.hid (fun k hk e => by
            rcases hf4.own k hk with h | h
            · have := (H.out.row.lt k h).2; omega
            · simp at h; omega)
          have hlt4 : w3.heap.size < w4.heap.size := by have := hf4.kept.size; simp at this; omega
          clear hr4 hf4 hbw hblk
          go_wp2_with fail
          have hr5 := HR4.out.kept (setCell_kept w4 w3.heap.size 0 (.string t)) (fun e => by have := H.out.lt; omega) (fun g hg e => HFAR.out g hg e)
          refine (HPT.out r v' _ hr5).mono ?_
          rintro e w5 ⟨v'', rfl, hr6, hf6⟩
          have HR6 := Lib.hid hr6
          have HF6 := Lib.hid ((HF4.out.setNew w3.heap.size 0 (.string t) hz3).trans hf6)
          clear hr5 hr6 hf6
          go_wp2_with fail
          go_ret
          exact ⟨v'', rfl, HR6.out, HF6.out⟩
end Go.Proofs.YtedbdpklliaoaaaGreatDoor
