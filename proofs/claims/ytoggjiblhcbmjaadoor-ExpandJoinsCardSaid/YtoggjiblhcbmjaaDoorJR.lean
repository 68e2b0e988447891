/- The document's Join: the walk. -/
import Derived.Test.YtoggjiblhcbmjaaDoorJD
namespace Go.Proofs.YtoggjiblhcbmjaaDoor
open Go.RowKit Go.Shelf
set_option maxRecDepth 100000
theorem own_below {w w' : World} {base n : Nat} {e : TypeId} {size : Nat} {v : Value} {xs : List Value} (h : w.ownsRow base e size v n xs) (k : Below w.heap.size w w') : w'.ownsRow base e size v n xs :=
  h.kept (row := none) ⟨k.os, k.tape, k.output, k.size, fun j hj _ => k.block j hj⟩ (by cases hv : v.ownBlock <;> simp)
def JrR (ls : List (List UInt8)) (w : World) (k : Nat) (v i : Value) (wr : World) : Prop :=
  ∃ (j : Nat) (outs : List (List UInt8)), k + j = ls.length ∧ i = .int .i64 (j : Int) ∧ wr.ownsRow w.heap.size 9 1 v outs.length (outs.map encS) ∧ joinC ls [] = outs ++ joinC (ls.drop j) [] ∧ outs.length ≤ j ∧ Below w.heap.size w wr
def JrS (ls : List (List UInt8)) (wo : World) (j0 k : Nat) (i s : Value) (wr : World) : Prop :=
  ∃ (j : Nat) (acc : List UInt8) (hj : j < ls.length), k + j = ls.length ∧ i = .int .i64 (j : Int) ∧ s = .string (bs (acc ++ ls[j])) ∧ j0 ≤ j ∧ oddS acc = false ∧ joinC (ls.drop j0) [] = joinC (ls.drop j) acc ∧ acc.length + tot (ls.drop j) ≤ tot ls ∧ Below wo.heap.size wo wr
theorem tot_drop (ls : List (List UInt8)) (j : Nat) : tot (ls.drop j) ≤ tot ls := by
  induction ls generalizing j with
  | nil => simp [tot]
  | cons l r ih =>
    cases j with
    | zero => exact Nat.le_refl _
    | succ j => rw [List.drop_succ_cons, tot]; have := ih j; omega
set_option maxHeartbeats 4000000 in
theorem rjoin_any (A : Option Addr) (n c : Nat) (ls : List (List UInt8)) (w : World) (hA : StrsAt w A n (ls.map bs)) (hnc : n ≤ c) (hc9 : (c : Int) ≤ 9223372036854775807) (hn : ls.length ≤ 40) (ht : tot ls ≤ 4000) :
    Calls Tryd.prog 11 #[.slice A n c] w fun e w' => ∃ A' c', e = .returned (.slice A' (joinC ls []).length c') ∧ StrsAt w' A' (joinC ls []).length ((joinC ls []).map bs) ∧ (c' : Int) ≤ 9223372036854775807 ∧ (joinC ls []).length ≤ c' ∧ Below w.heap.size w w' := by
  have hlen := hA.len
  obtain ⟨i0, hi0, hz0, hz1, hz2⟩ := info_parts info_str
  have HA := Lib.hid hA
  subst hlen
  clear hA
  go_enter Tryd.func11, Tryd.ntmps11
  go_wp2_with fail
  go_loopg [3, 4] ls.length (fun k v i wr => JrR ls w k v i wr)
  case atStart => exact ⟨0, [], rfl, rfl, World.ownsRow_nil _ _ _ _, rfl, Nat.zero_le _, Below.refl _ _⟩
  case round =>
    obtain ⟨j, outs, hk, rfl, hown, hj, hoj, hb⟩ := hrel
    obtain ⟨o, cap, rfl, hcp1, hcp2⟩ := row_shape hown
    have HK := Lib.hid hk
    have HO := Lib.hid hown
    have HJ := Lib.hid hj
    have HB := Lib.hid hb
    have hsz := hb.size
    clear hk hown hj hb
    by_cases hlt : j < ls.length
    case neg =>
      have d1 : decide (j < ls.length) = false := decide_eq_false hlt
      have hje : j = ls.length := by have := HK.out; omega
      have HF := Lib.hid (show joinC ls [] = outs by rw [HJ.out, hje, List.drop_length]; simp [joinC])
      clear hje
      go_wp2_with fail
      go_ret
      rw [HF.out]
      have h1 := own_strs HO.out
      exact ⟨o, cap, rfl, h1, hcp2, hcp1, HB.out⟩
    have d1 : decide (j < ls.length) = true := decide_eq_true hlt
    obtain ⟨b, off, hAe, hbl, hcell⟩ := (HA.out.below HB.out).cell j hlt
    subst hAe
    obtain ⟨wo, rfl⟩ : ∃ wo : World, wo = wr := ⟨_, rfl⟩
    obtain ⟨g1, rfl⟩ : ∃ g1, g1 = gk := ⟨_, rfl⟩
    have HIN : Hid (JrS ls wo j (ls.length - j) (.int .i64 (j : Int)) (.string (bs ls[j])) wo) := Lib.hid ⟨j, [], hlt, by omega, rfl, rfl, Nat.le_refl _, rfl, rfl, by have := tot_drop ls j; simp only [List.length_nil]; omega, Below.refl _ _⟩
    go_wp2_with fail
    go_loopg [4, 5] (ls.length - j) (fun k i s wr => JrS ls wo j k i s wr)
    case atStart => exact HIN.out
    case round =>
      obtain ⟨m, acc, hm, hk2, rfl, rfl, hjm, hacc, hjc, htt, hb2⟩ := hrel
      have HK2 := Lib.hid hk2
      have HAC := Lib.hid hacc
      have HJC := Lib.hid hjc
      have HB2 := Lib.hid hb2
      have hsz2 := hb2.size
      have htj := tot_at ls m hm
      have HD := Lib.hid (List.drop_eq_getElem_cons hm)
      obtain ⟨l, hl⟩ : ∃ l, l = ls[m] := ⟨_, rfl⟩
      rw [← hl] at htj HD ⊢
      have hXs : (bs (acc ++ l)).size ≤ 4000 := by rw [bs_size, List.length_append]; omega
      have HOD := Lib.hid (fun W => odd_any (bs (acc ++ l)) (by omega) W)
      rw [bs_list, oddS_app acc l hacc] at HOD
      clear hk2 hacc hjc hb2 hl
      by_cases hon : m + 1 < ls.length ∧ oddS l = true
      · obtain ⟨h1, h2⟩ := hon
        rw [h2] at HOD
        have d2 : decide (m + 1 < ls.length) = true := decide_eq_true h1
        have hne := odd_ne h2
        have hll : 1 ≤ l.length := by cases l with | nil => exact absurd rfl hne | cons a t => simp
        obtain ⟨q, hq⟩ : ∃ q, q + 1 = (bs (acc ++ l)).size := ⟨(bs (acc ++ l)).size - 1, by rw [bs_size, List.length_append]; omega⟩
        have hqs : q ≤ (bs (acc ++ l)).size := by omega
        have HX := Lib.hid (show (bs (acc ++ l)).extract 0 q = bs (acc ++ l.dropLast) by
          rw [bs_ext _ 0 q (by omega), bs_list, List.drop_zero, ← drop_last_app acc l hne, List.dropLast_eq_take]
          rw [bs_size] at hq
          rw [show (acc ++ l).length - 1 = q by omega])
        have HJ2 := Lib.hid (joinC_on l (ls.drop (m + 1)) acc (fun e => by have := List.drop_eq_nil_iff.1 e; omega) h2)
        have HOE := Lib.hid (show oddS (acc ++ l.dropLast) = false by rw [oddS_app _ _ HAC.out]; exact odd_last h2)
        obtain ⟨b', off', hAe', hbl', hcell'⟩ := ((HA.out.below HB.out).below (HB2.out.mono (Nat.le_refl _))).cell (m + 1) h1
        injection hAe' with hAe'
        injection hAe' with hb' ho' _
        subst hb' ho'
        have htj2 := tot_at ls (m + 1) h1
        obtain ⟨l2, hl2⟩ : ∃ l2, l2 = ls[m + 1] := ⟨_, rfl⟩
        rw [← hl2] at hcell' htj2
        have hls2 : (bs l2).size ≤ 4000 := by rw [bs_size]; omega
        have hxe : ((bs (acc ++ l)).extract 0 q).size ≤ 4000 := by rw [HX.out, bs_size, List.length_append, List.length_dropLast]; omega
        have HCAT := Lib.hid (show bs (acc ++ l.dropLast) ++ bs l2 = bs (acc ++ l.dropLast ++ l2) by apply ByteArray.ext; rw [ByteArray.data_append]; simp [bs])
        have HL2 := Lib.hid hl2
        have HMQ := Lib.hid hq
        have hm40 : m ≤ 40 := by omega
        have HDL := Lib.hid (show l.dropLast.length ≤ l.length by rw [List.length_dropLast]; omega)
        clear h2 hne hl2
        go_wp2_with fail
        refine (HOD.out _).mono ?_
        rintro e w1 ⟨rfl, rfl⟩
        go_wp2_with fail
        have hw1 : IntKind.i64.wrap (((bs (acc ++ l)).size : Int) - 1) = (q : Int) := by rw [IntWalk.i64_in _ (by omega)]; have := HMQ.out; omega
        have hw2 : ((m : Int) + 1).toNat = m + 1 := by omega
        have hw3 : (0 : Int) ≤ (m : Int) + 1 := by omega
        clear hq
        go_quiet (fail)
        clear hw1 hw2 hw3
        rw [HX.out, HCAT.out]
        go_wp2_with fail
        go_roundg (gk - 1)
        case measure => have := HK2.out; omega
        case rel =>
          refine ⟨m + 1, acc ++ l.dropLast, h1, by have := HK2.out; omega, by go_num, by rw [HL2.out], by omega, HOE.out, ?_, ?_, below_drewN HB2.out _⟩
          · rw [HJC.out, HD.out, HJ2.out]
          · rw [List.length_append]; have := HDL.out; omega
      · have HJ2 := Lib.hid (joinC_end l (ls.drop (m + 1)) acc (by
          by_cases h1 : m + 1 < ls.length
          · right
            cases ho : oddS l with
            | false => rfl
            | true => exact absurd ⟨h1, ho⟩ hon
          · left; exact List.drop_eq_nil_of_le (by omega)))
        have ho3 := own_below HO.out HB2.out
        have hz3 : w.heap.size ≤ wr.heap.size := Nat.le_trans hsz hsz2
        have HRW := Lib.hid (fun g e => (ho3.lt g e).1)
        have HRA := Lib.hid (ho3.alloc (.cells #[.string (bs (acc ++ l))] 9))
        have HSRC := Lib.hid (cell_one_new wr (.string (bs (acc ++ l))))
        have HB3 := Lib.hid (HB.out.trans (HB2.out.mono hsz))
        have hm40 : m ≤ 40 := by omega
        have hor : oddS l = false ∨ decide (m + 1 < ls.length) = false := by
          cases ho : oddS l with
          | false => exact .inl rfl
          | true => exact .inr (decide_eq_false (fun h1 => hon ⟨h1, ho⟩))
        clear ho3 hon
        rcases hor with ho | d2
        · rw [ho] at HOD
          clear ho
          go_wp2_with (first
            | (go_at_call 26; refine (HOD.out _).mono ?_; rintro e w1 ⟨rfl, rfl⟩)
            | (at_builtin; refine wpList_append_own _ rfl _ _ 27 rfl w.heap.size 9 i0 (.string ⟨#[]⟩) 1 16 Tryd.underlying27 hi0 hz0 hz1 hz2 rfl (by decide) _ _ _ rfl HRA.out ⟨_, 0, none⟩ 1 1 [.string (bs (acc ++ l))] rfl rfl HSRC.out (fun u hu => by simp at hu; subst hu; rfl) (by unfold maxLen; omega) (by omega) (by simp; omega) ?_
               intro v1 w4 hown1 hgrow1 _
               rw [outs_snoc] at hown1
               have HO4 := Lib.hid hown1
               have HG4 := Lib.hid hgrow1
               clear hown1 hgrow1))
          have HB4 := Lib.hid ((HB3.out.trans ((bel0 wr (.cells #[.string (bs (acc ++ l))] 9)).mono hz3)).trans (grown_below HG4.out (fun g e => HRW.out g e) (by simp; omega)))
          go_roundg (g1 - 1 - (m - j))
          case measure => have := HK.out; have := HK2.out; omega
          case rel =>
            refine ⟨m + 1, outs ++ [acc ++ l], by have := HK.out; have := HK2.out; omega, by go_num, by rw [List.length_append]; exact HO4.out, ?_, ?_, HB4.out⟩
            · rw [HJ.out, HJC.out, HD.out, HJ2.out]; simp
            · rw [List.length_append]; simp only [List.length_cons, List.length_nil]; omega
        · cases hoo : oddS l with
          | false =>
            rw [hoo] at HOD
            clear hoo
            go_wp2_with (first
              | (go_at_call 26; refine (HOD.out _).mono ?_; rintro e w1 ⟨rfl, rfl⟩)
              | (at_builtin; refine wpList_append_own _ rfl _ _ 27 rfl w.heap.size 9 i0 (.string ⟨#[]⟩) 1 16 Tryd.underlying27 hi0 hz0 hz1 hz2 rfl (by decide) _ _ _ rfl HRA.out ⟨_, 0, none⟩ 1 1 [.string (bs (acc ++ l))] rfl rfl HSRC.out (fun u hu => by simp at hu; subst hu; rfl) (by unfold maxLen; omega) (by omega) (by simp; omega) ?_
                 intro v1 w4 hown1 hgrow1 _
                 rw [outs_snoc] at hown1
                 have HO4 := Lib.hid hown1
                 have HG4 := Lib.hid hgrow1
                 clear hown1 hgrow1))
            have HB4 := Lib.hid ((HB3.out.trans ((bel0 wr (.cells #[.string (bs (acc ++ l))] 9)).mono hz3)).trans (grown_below HG4.out (fun g e => HRW.out g e) (by simp; omega)))
            go_roundg (g1 - 1 - (m - j))
            case measure => have := HK.out; have := HK2.out; omega
            case rel =>
              refine ⟨m + 1, outs ++ [acc ++ l], by have := HK.out; have := HK2.out; omega, by go_num, by rw [List.length_append]; exact HO4.out, ?_, ?_, HB4.out⟩
              · rw [HJ.out, HJC.out, HD.out, HJ2.out]; simp
              · rw [List.length_append]; simp only [List.length_cons, List.length_nil]; omega
          | true =>
            rw [hoo] at HOD
            have hge := of_decide_eq_false d2
            have d3 : decide ((m : Int) + 1 < (ls.length : Int)) = false := decide_eq_false (by omega)
            clear hoo hge
            go_wp2_with (first
              | (go_at_call 26; refine (HOD.out _).mono ?_; rintro e w1 ⟨rfl, rfl⟩)
              | (at_builtin; refine wpList_append_own _ rfl _ _ 27 rfl w.heap.size 9 i0 (.string ⟨#[]⟩) 1 16 Tryd.underlying27 hi0 hz0 hz1 hz2 rfl (by decide) _ _ _ rfl HRA.out ⟨_, 0, none⟩ 1 1 [.string (bs (acc ++ l))] rfl rfl HSRC.out (fun u hu => by simp at hu; subst hu; rfl) (by unfold maxLen; omega) (by omega) (by simp; omega) ?_
                 intro v1 w4 hown1 hgrow1 _
                 rw [outs_snoc] at hown1
                 have HO4 := Lib.hid hown1
                 have HG4 := Lib.hid hgrow1
                 clear hown1 hgrow1))
            have HB4 := Lib.hid ((HB3.out.trans ((bel0 wr (.cells #[.string (bs (acc ++ l))] 9)).mono hz3)).trans (grown_below HG4.out (fun g e => HRW.out g e) (by simp; omega)))
            go_roundg (g1 - 1 - (m - j))
            case measure => have := HK.out; have := HK2.out; omega
            case rel =>
              refine ⟨m + 1, outs ++ [acc ++ l], by have := HK.out; have := HK2.out; omega, by go_num, by rw [List.length_append]; exact HO4.out, ?_, ?_, HB4.out⟩
              · rw [HJ.out, HJC.out, HD.out, HJ2.out]; simp
              · rw [List.length_append]; simp only [List.length_cons, List.length_nil]; omega
end Go.Proofs.YtoggjiblhcbmjaaDoor
