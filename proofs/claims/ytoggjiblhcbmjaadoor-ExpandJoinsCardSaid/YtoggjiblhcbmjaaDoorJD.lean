/- The code's Join: the walk. -/
import Derived.Test.YtoggjiblhcbmjaaDoorJC
namespace Go.Proofs.YtoggjiblhcbmjaaDoor
open Go.RowKit Go.Shelf
set_option maxRecDepth 100000
theorem info_str : (Tryd.prog.info? 9).map (fun i => (i.zero, i.size, i.bytes)) = some (some (.string ⟨#[]⟩), 1, 16) := by kernel_rfl
theorem cell_one_new (w : World) (a : Value) : ∀ (j : Nat) (u : Value), [a][j]? = some u → (w.alloc (.cells #[a] 9)).cell? ((⟨w.heap.size, 0, none⟩ : Addr).add j) = some u := by
  intro j u h
  have hh := heap_alloc_new w (.cells #[a] 9)
  match j, h with
  | 0, h => rw [add_eq]; simp only [World.cell?, hh]; exact h
  | j + 1, h => cases h
structure JcI (ls : List (List UInt8)) (w : World) (j : Nat) (v : Value) (wr : World) : Prop where
  ex : ∃ (outs : List (List UInt8)) (acc : List UInt8), wr.ownsRow w.heap.size 9 1 v outs.length (outs.map encS) ∧ joinC ls [] = outs ++ joinC (ls.drop j) acc ∧ Bu w.heap.size w.heap.size acc wr ∧ acc.length + tot (ls.drop j) ≤ tot ls ∧ outs.length ≤ j
  bel : Below w.heap.size w wr
def JcR (ls : List (List UInt8)) (w : World) (k : Nat) (v i : Value) (wr : World) : Prop := ∃ j : Nat, k + j = ls.length ∧ i = .int .i64 (j : Int) ∧ JcI ls w j v wr
theorem StrsAt.len {W : World} {A : Option Addr} {n : Nat} {ls : List (List UInt8)} (h : StrsAt W A n (ls.map bs)) : n = ls.length := by rw [h.1, List.length_map]
theorem StrsAt.cell {W : World} {A : Option Addr} {n : Nat} {ls : List (List UInt8)} (h : StrsAt W A n (ls.map bs)) (j : Nat) (hj : j < ls.length) : ∃ b off, A = some ⟨b, off, none⟩ ∧ b < W.heap.size ∧ W.cell? ⟨b, off + j, none⟩ = some (.string (bs ls[j])) := by
  obtain ⟨b, off, h1, h2, h3⟩ := h.at_ j (by rw [List.length_map]; exact hj)
  exact ⟨b, off, h1, h2, by rw [h3, List.getElem_map]⟩
theorem grown_below {B : Nat} {w w' : World} {row : Option Nat} (hg : w.grownBy w' row) (h : ∀ g, row = some g → B ≤ g) (hB : B ≤ w.heap.size) : Below B w w' :=
  ⟨hg.os, hg.tape, hg.output, hg.size, fun k hk => hg.block k (by omega) (fun e => by have := h k e.symm; omega)⟩
theorem outs_snoc (outs : List (List UInt8)) (x : List UInt8) : outs.map encS ++ [.string (bs x)] = (outs ++ [x]).map encS := by simp [encS]
set_option maxHeartbeats 4000000 in
theorem join_any (A : Option Addr) (n c : Nat) (ls : List (List UInt8)) (w : World) (hA : StrsAt w A n (ls.map bs)) (hnc : n ≤ c) (hc9 : (c : Int) ≤ 9223372036854775807) (hn : ls.length ≤ 40) (ht : tot ls ≤ 4000) :
    Calls Tryd.prog 10 #[.slice A n c] w fun e w' => ∃ A' c', e = .returned (.slice A' (joinC ls []).length c') ∧ StrsAt w' A' (joinC ls []).length ((joinC ls []).map bs) ∧ (c' : Int) ≤ 9223372036854775807 ∧ (joinC ls []).length ≤ c' ∧ Below w.heap.size w w' := by
  have hlen := hA.len
  obtain ⟨i0, hi0, hz0, hz1, hz2⟩ := info_parts info_str
  have HA := Lib.hid hA
  have HST : Hid (JcI ls w 0 (.slice none 0 0) (w.alloc (.cells #[.pointer none, .slice none 0 0] 46))) := Lib.hid ⟨⟨[], [], World.ownsRow_nil _ _ _ _, rfl, bu_new w, by simp, Nat.zero_le _⟩, bel0 w _⟩
  subst hlen
  clear hA
  go_enter Tryd.func10, Tryd.ntmps10
  go_wp2_with fail
  go_loopg [3, 9] ls.length (fun k v i wr => JcR ls w k v i wr)
  case atStart => exact ⟨0, rfl, rfl, HST.out⟩
  case round =>
    obtain ⟨j, hk, rfl, hin⟩ := hrel
    obtain ⟨⟨outs, acc, hown, hj, hbu, htot, hoj⟩, hb⟩ := hin
    obtain ⟨o, cap, rfl, hcp1, hcp2⟩ := row_shape hown
    have HK := Lib.hid hk
    have HO := Lib.hid hown
    have HJ := Lib.hid hj
    have HBU := Lib.hid hbu
    have HB := Lib.hid hb
    have hsz := hb.size
    clear hk hown hj hbu hb
    by_cases hlt : j < ls.length
    case neg =>
      have d1 : decide (j < ls.length) = false := decide_eq_false hlt
      have hje : j = ls.length := by have := HK.out; omega
      have HF := Lib.hid (show joinC ls [] = outs by rw [HJ.out, hje, List.drop_length]; simp [joinC])
      clear hje
      go_wp2_with fail
      go_ret
      rw [HF.out]
      have h1 := own_strs HO.out
      exact ⟨o, cap, rfl, h1, hcp2, hcp1, HB.out⟩
    have d1 : decide (j < ls.length) = true := decide_eq_true hlt
    obtain ⟨l, hl⟩ : ∃ l, l = ls[j] := ⟨_, rfl⟩
    obtain ⟨b, off, hAe, hbl, hcell⟩ := (HA.out.below HB.out).cell j hlt
    subst hAe
    rw [← hl] at hcell
    have htj := tot_at ls j hlt
    rw [← hl] at htj
    have hlb : (bs l).size ≤ 4000 := by rw [bs_size]; omega
    have HG := Lib.hid (fun W => goesOn_any (bs l) (by omega) W)
    rw [bs_list] at HG
    have HD := Lib.hid (show ls.drop j = l :: ls.drop (j + 1) by rw [List.drop_eq_getElem_cons hlt, hl])
    have HLEN : Hid (ls.drop (j + 1) = [] ↔ ls.length ≤ j + 1) := Lib.hid List.drop_eq_nil_iff
    clear hl
    by_cases hon : j + 1 < ls.length ∧ oddS l = true
    · obtain ⟨h1, h2⟩ := hon
      have d2 : decide ((j : Int) < (ls.length : Int) - 1) = true := decide_eq_true (by omega)
      rw [h2] at HG
      have hne := odd_ne h2
      have hlp : 1 ≤ (bs l).size := by rw [bs_size]; cases l with | nil => exact absurd rfl hne | cons a t => simp
      obtain ⟨q, hq⟩ : ∃ q, q + 1 = (bs l).size := ⟨(bs l).size - 1, by omega⟩
      have hqe : ((bs l).size : Int) - 1 = (q : Int) := by omega
      have hqs : q ≤ (bs l).size := by omega
      have HX := Lib.hid (show (bs l).extract 0 q = bs l.dropLast by
        rw [bs_ext _ 0 q (by omega), bs_list, List.drop_zero, List.dropLast_eq_take]
        rw [bs_size] at hq
        rw [show l.length - 1 = q by omega])
      have HJ2 := Lib.hid (joinC_on l (ls.drop (j + 1)) acc (fun e => by have := HLEN.out.1 e; omega) h2)
      have hdl : l.dropLast.length ≤ l.length := by rw [List.length_dropLast]; omega
      have HW := Lib.hid (bldK_str HBU.out l.dropLast (by omega) hsz)
      clear h2 hne hq
      go_wp2_with fail
      refine (HG.out _).mono ?_
      rintro e w1 ⟨rfl, rfl⟩
      go_wp2_with fail
      rw [HX.out]
      refine HW.out.mono ?_
      rintro e w2 ⟨rfl, hw⟩
      have HWK := Lib.hid hw
      clear hw
      go_wp2_with fail
      go_roundg (gk - 1)
      case measure => have := HK.out; omega
      case rel =>
        refine ⟨j + 1, by have := HK.out; omega, by go_num, ⟨⟨outs, acc ++ l.dropLast, own_other HO.out HWK.out.ot HBU.out.blk, ?_, HWK.out.bu, ?_, by omega⟩, HB.out.trans (HWK.out.fr)⟩⟩
        · rw [HJ.out, HD.out, HJ2.out]
        · rw [List.length_append]; omega
    · have HJ2 := Lib.hid (joinC_end l (ls.drop (j + 1)) acc (by
        by_cases h1 : j + 1 < ls.length
        · right
          cases ho : oddS l with
          | false => rfl
          | true => exact absurd ⟨h1, ho⟩ hon
        · left; exact HLEN.out.2 (by omega)))
      have HW := Lib.hid (bldK_str HBU.out l (by omega) hsz)
      have hif : (decide ((j : Int) < (ls.length : Int) - 1) = true → oddS l = false) := by
        intro h
        have := of_decide_eq_true h
        cases ho : oddS l with
        | false => rfl
        | true => exact absurd ⟨by omega, ho⟩ hon
      have HIF := Lib.hid hif
      clear hon hif
      cases d2 : decide ((j : Int) < (ls.length : Int) - 1) with
      | true =>
        have ho := HIF.out d2
        rw [ho] at HG
        clear ho
        go_wp2_with fail
        refine (HG.out _).mono ?_
        rintro e w1 ⟨rfl, rfl⟩
        go_wp2_with fail
        refine HW.out.mono ?_
        rintro e w2 ⟨rfl, hw⟩
        have HWK := Lib.hid hw
        clear hw
        have HSS := Lib.hid (bldK_out HWK.out.bu (Nat.le_trans hsz HWK.out.fr.size))
        go_wp2_with fail
        refine HSS.out.mono ?_
        rintro e w3 ⟨rfl, hw⟩
        have HSK := Lib.hid hw
        clear hw
        have ho3 := own_other (own_other HO.out HWK.out.ot HBU.out.blk) HSK.out.ot HWK.out.bu.blk
        have hz3 : w.heap.size ≤ w3.heap.size := Nat.le_trans (Nat.le_trans hsz HWK.out.fr.size) HSK.out.fr.size
        have HRW := Lib.hid (fun g e => (ho3.lt g e).1)
        have HRA := Lib.hid (ho3.alloc (.cells #[.string (bs (acc ++ l))] 9))
        have HSRC := Lib.hid (cell_one_new w3 (.string (bs (acc ++ l))))
        have HB3 := Lib.hid ((HB.out.trans HWK.out.fr).trans HSK.out.fr)
        have HBU3 := Lib.hid (HSK.out.bu.below (bel0 w3 (.cells #[.string (bs (acc ++ l))] 9)))
        clear ho3
        go_wp2_with (at_builtin; refine wpList_append_own _ rfl _ _ 27 rfl w.heap.size 9 i0 (.string ⟨#[]⟩) 1 16 Tryd.underlying27 hi0 hz0 hz1 hz2 rfl (by decide) _ _ _ rfl HRA.out ⟨w3.heap.size, 0, none⟩ 1 1 [.string (bs (acc ++ l))] rfl rfl HSRC.out (fun u hu => by simp at hu; subst hu; rfl) (by unfold maxLen; omega) (by omega) (by simp; omega) ?_
                     intro v1 w4 hown1 hgrow1 _
                     have HG4 : Hid ((w3.alloc (.cells #[.string (bs (acc ++ l))] 9)).grownBy w4 _) := Lib.hid hgrow1
                     have HBU4 := Lib.hid (HBU3.out.keep2 (fun k c t fz hk ht => (HG4.out.block k (Array.getElem?_eq_some_iff.1 hk).1 (own_ne HRA.out hk (by rcases ht with rfl | rfl <;> decide))).trans hk))
                     rw [outs_snoc] at hown1
                     have HO4 := Lib.hid hown1
                     have HRS := Lib.hid (bld_reset HBU4.out)
                     clear hown1 hgrow1)
        refine HRS.out.mono ?_
        rintro e w5 ⟨rfl, hbu5, hk5, hb5⟩
        obtain ⟨cb, fb, hblk4⟩ := HBU4.out.blk
        have hne4 := own_ne HO4.out hblk4 (by decide)
        have HO5 := Lib.hid (HO4.out.kept (w' := w5) (row := some w.heap.size) ⟨hb5.os, hb5.tape, hb5.output, hb5.size, fun k _ hk => hk5 k (fun e => hk (by rw [e]))⟩ (.inr hne4.symm))
        have HBU5 := Lib.hid hbu5
        have HB5 := Lib.hid (((HB3.out.trans ((bel0 w3 (.cells #[.string (bs (acc ++ l))] 9)).mono hz3)).trans (grown_below HG4.out (fun g e => HRW.out g e) (by simp; omega))).trans hb5)
        clear hbu5 hk5 hb5 hblk4 hne4
        go_wp2_with fail
        go_roundg (gk - 1)
        case measure => have := HK.out; omega
        case rel =>
          refine ⟨j + 1, by have := HK.out; omega, by go_num, ⟨⟨outs ++ [acc ++ l], [], ?_, ?_, HBU5.out, ?_, ?_⟩, HB5.out⟩⟩
          · rw [List.length_append]; exact HO5.out
          · rw [HJ.out, HD.out, HJ2.out]; simp
          · simp only [List.length_nil]; omega
          · rw [List.length_append]; simp only [List.length_cons, List.length_nil]; omega
      | false =>
        go_wp2_with fail
        refine HW.out.mono ?_
        rintro e w2 ⟨rfl, hw⟩
        have HWK := Lib.hid hw
        clear hw
        have HSS := Lib.hid (bldK_out HWK.out.bu (Nat.le_trans hsz HWK.out.fr.size))
        go_wp2_with fail
        refine HSS.out.mono ?_
        rintro e w3 ⟨rfl, hw⟩
        have HSK := Lib.hid hw
        clear hw
        have ho3 := own_other (own_other HO.out HWK.out.ot HBU.out.blk) HSK.out.ot HWK.out.bu.blk
        have hz3 : w.heap.size ≤ w3.heap.size := Nat.le_trans (Nat.le_trans hsz HWK.out.fr.size) HSK.out.fr.size
        have HRW := Lib.hid (fun g e => (ho3.lt g e).1)
        have HRA := Lib.hid (ho3.alloc (.cells #[.string (bs (acc ++ l))] 9))
        have HSRC := Lib.hid (cell_one_new w3 (.string (bs (acc ++ l))))
        have HB3 := Lib.hid ((HB.out.trans HWK.out.fr).trans HSK.out.fr)
        have HBU3 := Lib.hid (HSK.out.bu.below (bel0 w3 (.cells #[.string (bs (acc ++ l))] 9)))
        clear ho3
        go_wp2_with (at_builtin; refine wpList_append_own _ rfl _ _ 27 rfl w.heap.size 9 i0 (.string ⟨#[]⟩) 1 16 Tryd.underlying27 hi0 hz0 hz1 hz2 rfl (by decide) _ _ _ rfl HRA.out ⟨w3.heap.size, 0, none⟩ 1 1 [.string (bs (acc ++ l))] rfl rfl HSRC.out (fun u hu => by simp at hu; subst hu; rfl) (by unfold maxLen; omega) (by omega) (by simp; omega) ?_
                     intro v1 w4 hown1 hgrow1 _
                     have HG4 : Hid ((w3.alloc (.cells #[.string (bs (acc ++ l))] 9)).grownBy w4 _) := Lib.hid hgrow1
                     have HBU4 := Lib.hid (HBU3.out.keep2 (fun k c t fz hk ht => (HG4.out.block k (Array.getElem?_eq_some_iff.1 hk).1 (own_ne HRA.out hk (by rcases ht with rfl | rfl <;> decide))).trans hk))
                     rw [outs_snoc] at hown1
                     have HO4 := Lib.hid hown1
                     have HRS := Lib.hid (bld_reset HBU4.out)
                     clear hown1 hgrow1)
        refine HRS.out.mono ?_
        rintro e w5 ⟨rfl, hbu5, hk5, hb5⟩
        obtain ⟨cb, fb, hblk4⟩ := HBU4.out.blk
        have hne4 := own_ne HO4.out hblk4 (by decide)
        have HO5 := Lib.hid (HO4.out.kept (w' := w5) (row := some w.heap.size) ⟨hb5.os, hb5.tape, hb5.output, hb5.size, fun k _ hk => hk5 k (fun e => hk (by rw [e]))⟩ (.inr hne4.symm))
        have HBU5 := Lib.hid hbu5
        have HB5 := Lib.hid (((HB3.out.trans ((bel0 w3 (.cells #[.string (bs (acc ++ l))] 9)).mono hz3)).trans (grown_below HG4.out (fun g e => HRW.out g e) (by simp; omega))).trans hb5)
        clear hbu5 hk5 hb5 hblk4 hne4
        go_wp2_with fail
        go_roundg (gk - 1)
        case measure => have := HK.out; omega
        case rel =>
          refine ⟨j + 1, by have := HK.out; omega, by go_num, ⟨⟨outs ++ [acc ++ l], [], ?_, ?_, HBU5.out, ?_, ?_⟩, HB5.out⟩⟩
          · rw [List.length_append]; exact HO5.out
          · rw [HJ.out, HD.out, HJ2.out]; simp
          · simp only [List.length_nil]; omega
          · rw [List.length_append]; simp only [List.length_cons, List.length_nil]; omega
end Go.Proofs.YtoggjiblhcbmjaaDoor
