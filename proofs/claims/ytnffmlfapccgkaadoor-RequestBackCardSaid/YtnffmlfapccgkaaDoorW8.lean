/- The code's Write: what comes back, if it is a line. -/
import Derived.Test.YtnffmlfapccgkaaDoorW7
namespace Go.Proofs.YtnffmlfapccgkaaDoor
open Go.RowKit Go.Shelf
set_option maxRecDepth 100000
set_option linter.unusedSimpArgs false
set_option linter.unusedVariables false
theorem Bu.below {B b : Nat} {l : List UInt8} {w w' : World} (h : Bu B b l w) (k : Below w.heap.size w w') : Bu B b l w' :=
  h.keep2 fun i c t fz hi _ => (k.block i (Array.getElem?_eq_some_iff.1 hi).1).trans hi
theorem equal_any (A1 A2 : Option Addr) (n c m d : Nat) (xs ys : List ByteArray) (w : World) (h1 : StrsAt w A1 n xs) (h2 : StrsAt w A2 m ys) (hn : n ≤ 1000000) (hm : m ≤ 1000000) :
    Calls Tryd.prog 41 #[.slice A1 n c, .slice A2 m d] w fun e w' => e = .returned (.bool (decide (xs = ys))) ∧ Below w.heap.size w w' := by
  by_cases hnm : n = m
  · subst hnm
    by_cases h0 : n = 0
    · subst h0
      refine (Tryd.slices_Equal_string_empty A1 A2 c 0 d w (by omega)).mono ?_
      rintro e w' ⟨rfl, hw⟩
      rw [hw]
      have e1 : xs = [] := List.length_eq_zero_iff.1 h1.1.symm
      have e2 : ys = [] := List.length_eq_zero_iff.1 h2.1.symm
      rw [e1, e2]
      exact ⟨rfl, Below.refl _ _⟩
    · obtain ⟨b1, o1, rfl, _, k1⟩ := h1.2 (by omega)
      obtain ⟨b2, o2, rfl, _, k2⟩ := h2.2 (by omega)
      have hx := h1.1
      have hy := h2.1
      refine (Tryd.slices_Equal_string b1 o1 n c b2 o2 n d xs ys w (by omega) (by omega) (by omega) (by omega) (fun j hj => by rw [k1 j hj, List.getD_eq_getElem?_getD, List.getElem?_eq_getElem hj]; rfl) (fun j hj => by rw [k2 j hj, List.getD_eq_getElem?_getD, List.getElem?_eq_getElem hj]; rfl)).mono ?_
      rintro e w' ⟨rfl, q, hw⟩
      rw [hw, List.take_of_length_le (by omega), List.take_of_length_le (by omega)]
      exact ⟨rfl, below_drewN (Below.refl _ _) _⟩
  · refine (Tryd.slices_Equal_string_lens A1 A2 n c m d w hnm).mono ?_
    rintro e w' ⟨rfl, hw⟩
    rw [hw, decide_eq_false (fun e => hnm (by rw [h1.1, h2.1, e]))]
    exact ⟨rfl, Below.refl _ _⟩
theorem bs_map_inj {xs ys : List (List UInt8)} (h : xs.map bs = ys.map bs) : xs = ys := by
  induction xs generalizing ys with
  | nil => cases ys with | nil => rfl | cons a t => cases h
  | cons x xs ih =>
    cases ys with
    | nil => cases h
    | cons y ys =>
      simp only [List.map_cons, List.cons.injEq] at h
      rw [bs_inj h.1, ih h.2]
def spX (X : List UInt8) : Prop := X = [] ∨ ∃ t, X = 32 :: t
theorem spX_app {X : List UInt8} (h : spX X) (r : List UInt8) : spX (X ++ 32 :: r) := by
  rcases h with rfl | ⟨t, rfl⟩
  · exact .inr ⟨r, rfl⟩
  · exact .inr ⟨t ++ 32 :: r, rfl⟩
/-- What Write leaves. -/
def WrP (nm : List UInt8) (ls : List (List UInt8)) (w : World) (e : Ending) (w' : World) : Prop :=
  Below w.heap.size w w' ∧ ((∃ k : Int, (k == 0) = false ∧ e = .returned (.tuple #[.string ⟨#[]⟩, .int .i64 k])) ∨
    ∃ X, spX X ∧ (46 :: nm ++ X).length ≤ 2000 ∧ nm ≠ [] ∧ Lib.indexAny nm [32, 9] < 0 ∧ Lib.indexByte (46 :: nm ++ X) 10 < 0 ∧ wds X = ls ∧ e = .returned (.tuple #[.string (bs (46 :: nm ++ X)), .int .i64 0]))
def WrR (ls : List (List UInt8)) (w : World) (k : Nat) (i : Value) (wr : World) : Prop :=
  ∃ (j : Nat) (acc : List UInt8), k + j = ls.length ∧ i = .int .i64 (j : Int) ∧ spX acc ∧ acc.length + 2 * tot (ls.drop j) + 3 * (ls.length - j) ≤ 2 * tot ls + 3 * ls.length ∧ Bu w.heap.size w.heap.size acc wr ∧ Below w.heap.size w wr
theorem tot_drop (ls : List (List UInt8)) (j : Nat) : tot (ls.drop j) ≤ tot ls := by
  induction ls generalizing j with
  | nil => simp [tot]
  | cons l r ih =>
    cases j with
    | zero => exact Nat.le_refl _
    | succ j => rw [List.drop_succ_cons, tot]; have := ih j; omega
set_option maxHeartbeats 4000000 in
theorem write_any (nm : List UInt8) (hnm : nm.length ≤ 140737488351232) (A : Option Addr) (n c : Nat) (ls : List (List UInt8)) (w : World) (hM : MaxI w) (hA : StrsAt w A n (ls.map bs)) (hn : ls.length ≤ 30) (ht : tot ls ≤ 1500) :
    Calls Tryd.prog 19 #[.string (bs nm), .slice A n c] w (WrP nm ls w) := by
  have hlen := hA.len
  have HA := Lib.hid hA
  have HM := Lib.hid hM
  have HST : Hid (WrR ls w ls.length (.int .i64 0) (w.alloc (.cells #[.pointer none, .slice none 0 0] 68))) := Lib.hid ⟨0, [], by omega, rfl, .inl rfl, by simp, bu_new w, bel0 w _⟩
  subst hlen
  clear hA hM
  go_enter Tryd.func19, Tryd.ntmps19
  go_wp2_with fail
  go_loopg [8, 12] ls.length (fun k _ i wr => WrR ls w k i wr)
  case atStart => exact HST.out
  case round =>
    obtain ⟨j, acc, hk, rfl, hsp, hal, hbu, hb⟩ := hrel
    have HK := Lib.hid hk
    have HSP := Lib.hid hsp
    have HAL := Lib.hid hal
    have HBU := Lib.hid hbu
    have HB := Lib.hid hb
    have hsz := hb.size
    clear hk hsp hal hbu hb
    by_cases hlt : j < ls.length
    · have d1 : decide (j < ls.length) = true := decide_eq_true hlt
      obtain ⟨b, off, hAe, hbl, hcell⟩ := (HA.out.below HB.out).cell j hlt
      subst hAe
      have htj := tot_at ls j hlt
      have htd := tot_drop ls j
      obtain ⟨l, hl⟩ : ∃ l, l = ls[j] := ⟨_, rfl⟩
      rw [← hl] at hcell htj
      obtain ⟨r, hr, hwr⟩ := written_any l (by omega)
      have HWR := Lib.hid (hwr wr (HM.out.below HB.out (Nat.le_refl _)))
      have HCAT := Lib.hid (show (⟨#[32]⟩ : ByteArray) ++ bs r = bs (32 :: r) by apply ByteArray.ext; rw [ByteArray.data_append]; simp [bs])
      have hrs : (⟨#[32]⟩ : ByteArray).size + (bs r).size ≤ 1000000 := by rw [bs_size]; show 1 + _ ≤ _; omega
      have HLEN := Lib.hid (show (acc ++ 32 :: r).length + 2 * tot (ls.drop (j + 1)) + 3 * (ls.length - (j + 1)) ≤ 2 * tot ls + 3 * ls.length by
        have := HAL.out; rw [List.length_append, List.length_cons]; omega)
      have haz : acc.length + (32 :: r).length ≤ 100000 := by have := HAL.out; rw [List.length_cons]; omega
      clear hl hwr htj htd
      go_wp2_with fail
      refine HWR.out.mono ?_
      rintro e w1 ⟨rfl, hb1⟩
      have HB1 := Lib.hid (HB.out.trans (hb1.mono hsz))
      have HW := Lib.hid (bldK_str (HBU.out.below hb1) (32 :: r) (by omega) (Nat.le_trans hsz hb1.size))
      clear hb1
      go_wp2_with fail
      rw [HCAT.out]
      refine HW.out.mono ?_
      rintro e w2 ⟨rfl, hw⟩
      have HWK := Lib.hid hw
      clear hw
      go_wp2_with fail
      go_roundg (gk - 1)
      case measure => have := HK.out; omega
      case rel => exact ⟨j + 1, acc ++ 32 :: r, by have := HK.out; omega, by go_num, spX_app HSP.out r, HLEN.out, HWK.out.bu, HB1.out.trans HWK.out.fr⟩
    · have d1 : decide (j < ls.length) = false := decide_eq_false hlt
      have HX := Lib.hid (show acc.length ≤ 4000 by have := HAL.out; omega)
      have HO := Lib.hid (bldK_out HBU.out hsz)
      have hs1 : (⟨#[46]⟩ : ByteArray).size + (bs nm).size ≤ 140737488355328 := by rw [bs_size]; show 1 + _ ≤ _; omega
      have hs2 : ((⟨#[46]⟩ : ByteArray) ++ bs nm).size + (bs acc).size ≤ 140737488355328 := by
        have := HX.out; rw [ByteArray.size_append, bs_size, bs_size]; show 1 + _ + _ ≤ _; omega
      have HL := Lib.hid (show (⟨#[46]⟩ : ByteArray) ++ bs nm ++ bs acc = bs (46 :: nm ++ acc) by apply ByteArray.ext; rw [ByteArray.data_append, ByteArray.data_append]; simp [bs])
      have HJ := Lib.hid hlt
      clear hlt
      obtain ⟨N, hN⟩ : ∃ N, N = bs nm := ⟨_, rfl⟩
      obtain ⟨T, hT⟩ : ∃ T, T = bs acc := ⟨_, rfl⟩
      have hNs : N.size = nm.length := by rw [hN, bs_size]
      have hTs : T.size = acc.length := by rw [hT, bs_size]
      have HCA := Lib.hid (fun W (h : nm.length ≤ 2000) => ctAny_any N (by omega) W)
      rw [show N.data.toList = nm by rw [hN, bs_list]] at HCA
      have HCT := Lib.hid (fun W => contains_call (bs (46 :: nm ++ acc)) W)
      rw [bs_list] at HCT
      have HWD := Lib.hid (fun W => words_any acc (by have := HX.out; omega) W)
      have hNe : N.toList.isEmpty = decide (nm = []) := by rw [hN, Lib.toList_data, bs_list]; cases nm <;> simp
      have hNl : N.toList = nm := by rw [hN, Lib.toList_data, bs_list]
      have HLL := Lib.hid (show (46 :: nm ++ acc).length = 1 + nm.length + acc.length by simp; omega)
      rw [← hN, ← hT] at hs2 HL
      rw [← hN] at hs1 ⊢
      rw [← hT] at HO HWD
      have HTT := Lib.hid hT
      clear hN hT
      by_cases hbig : 2000 < 1 + nm.length + acc.length
      · have d2 : decide ((2000 : Int) < 1 + (N.size : Int) + (T.size : Int)) = true := decide_eq_true (by omega)
        clear hbig hNe hNl hNs hTs
        go_wp2_with fail
        refine HO.out.mono ?_
        rintro e w1 ⟨rfl, hw⟩
        have HWK := Lib.hid hw
        have HB1 := Lib.hid (HB.out.trans hw.fr)
        clear hw
        go_wp2_with fail
        go_ret2
        exact ⟨HB1.out, .inl ⟨1, rfl, rfl⟩⟩
      have d2 : decide ((2000 : Int) < 1 + (N.size : Int) + (T.size : Int)) = false := decide_eq_false (by omega)
      have HBIG := Lib.hid (show 1 + nm.length + acc.length ≤ 2000 by omega)
      clear hbig
      by_cases hn0 : nm = []
      · have e1 : N.toList.isEmpty = true := by rw [hNe, hn0]; rfl
        have e2 : N.toList = [] := by rw [hNl, hn0]
        clear hn0 hNe hNl hNs hTs
        go_wp2_with fail
        refine HO.out.mono ?_
        rintro e w1 ⟨rfl, hw⟩
        have HWK := Lib.hid hw
        have HB1 := Lib.hid (HB.out.trans hw.fr)
        clear hw
        go_wp2_with fail
        go_ret2
        exact ⟨HB1.out, .inl ⟨4, rfl, rfl⟩⟩
      have e1 : N.toList.isEmpty = false := by rw [hNe]; exact decide_eq_false hn0
      have e2 : ¬ N.toList = [] := by rw [hNl]; exact hn0
      have HN0 := Lib.hid hn0
      have HCA2 := Lib.hid (fun W => HCA.out W (by have := HBIG.out; omega))
      obtain ⟨ca, hca⟩ : ∃ ca, ca = decide (0 ≤ Lib.indexAny nm [32, 9]) := ⟨_, rfl⟩
      obtain ⟨ct, hct⟩ : ∃ ct, ct = decide (0 ≤ Lib.indexByte (46 :: nm ++ acc) 10) := ⟨_, rfl⟩
      rw [← hca] at HCA2
      rw [← hct] at HCT
      have HC := Lib.hid hca
      have HT2 := Lib.hid hct
      clear hn0 hNe hNl hNs hTs HCA hca hct
      cases ca with
      | true =>
        go_wp2_with fail
        refine HO.out.mono ?_
        rintro e w1 ⟨rfl, hw⟩
        have HWK := Lib.hid hw
        have HB1 := Lib.hid (HB.out.trans hw.fr)
        clear hw
        go_wp2_with fail
        refine (HCA2.out _).mono ?_
        rintro e w2 ⟨rfl, hb⟩
        have HB2 := Lib.hid (HB1.out.trans (hb.mono HB1.out.size))
        clear hb
        go_wp2_with fail
        go_ret2
        exact ⟨HB2.out, .inl ⟨4, rfl, rfl⟩⟩
      | false =>
        cases ct with
        | true =>
          go_wp2_with fail
          refine HO.out.mono ?_
          rintro e w1 ⟨rfl, hw⟩
          have HWK := Lib.hid hw
          have HB1 := Lib.hid (HB.out.trans hw.fr)
          clear hw
          go_wp2_with fail
          refine (HCA2.out _).mono ?_
          rintro e w2 ⟨rfl, hb⟩
          have HB2 := Lib.hid (HB1.out.trans (hb.mono HB1.out.size))
          clear hb
          go_wp2_with fail
          rw [HL.out]
          refine (HCT.out _).mono ?_
          rintro e w3 ⟨rfl, hw⟩
          rw [← hw]
          clear hw
          go_wp2_with fail
          go_ret2
          exact ⟨HB2.out, .inl ⟨4, rfl, rfl⟩⟩
        | false =>
          have HALL : Hid (∀ e w', ((∃ k : Int, (k == 0) = false ∧ e = Ending.returned (.tuple #[.string ⟨#[]⟩, .int .i64 k])) ∨ (wds acc = ls ∧ e = .returned (.tuple #[.string (bs (46 :: nm ++ acc)), .int .i64 0]))) → Below w.heap.size w w' → WrP nm ls w e w') := Lib.hid fun e w' h hb => ⟨hb, by
            rcases h with h | ⟨h1, h2⟩
            · exact .inl h
            · exact .inr ⟨acc, HSP.out, by rw [HLL.out]; exact HBIG.out, HN0.out, by have := of_decide_eq_false HC.out.symm; omega, by have := of_decide_eq_false HT2.out.symm; omega, h1, h2⟩⟩
          go_wp2_with fail
          refine HO.out.mono ?_
          rintro e w1 ⟨rfl, hw⟩
          have HWK := Lib.hid hw
          have HB1 := Lib.hid (HB.out.trans hw.fr)
          clear hw
          go_wp2_with fail
          refine (HCA2.out _).mono ?_
          rintro e w2 ⟨rfl, hb⟩
          have HBU2 := Lib.hid (HWK.out.bu.below hb)
          have HB2 := Lib.hid (HB1.out.trans (hb.mono HB1.out.size))
          clear hb
          go_wp2_with fail
          rw [HL.out]
          refine (HCT.out _).mono ?_
          rintro e w3 ⟨rfl, hw⟩
          rw [← hw]
          clear hw
          have HO2 := Lib.hid (bldK_out HBU2.out HB2.out.size)
          rw [← HTT.out] at HO2
          go_wp2_with fail
          refine HO2.out.mono ?_
          rintro e w4 ⟨rfl, hw⟩
          have HB4 := Lib.hid (HB2.out.trans hw.fr)
          clear hw
          go_wp2_with fail
          refine (HWD.out _).mono ?_
          rintro e w5 ⟨A2, c2, rfl, hs, hc9, hle, hb5, hnew⟩
          have HB5 := Lib.hid (HB4.out.trans (hb5.mono HB4.out.size))
          have hsum := wds_sum acc
          have HE := Lib.hid (equal_any A2 A (wds acc).length c2 ls.length c _ _ w5 hs (HA.out.below HB5.out) (by have := HX.out; omega) (by omega))
          clear hs hb5 hnew hc9 hle hsum
          cases heq : decide ((wds acc).map bs = ls.map bs) with
          | true =>
            rw [heq] at HE
            have HEQ := Lib.hid (bs_map_inj (of_decide_eq_true heq))
            clear heq
            go_wp2_with fail
            refine HE.out.mono ?_
            rintro e w6 ⟨rfl, hb⟩
            have HB6 := Lib.hid (HB5.out.trans (hb.mono HB5.out.size))
            clear hb
            go_wp2_with fail
            go_ret2
            exact HALL.out _ _ (.inr ⟨HEQ.out, rfl⟩) HB6.out
          | false =>
            rw [heq] at HE
            clear heq
            go_wp2_with fail
            refine HE.out.mono ?_
            rintro e w6 ⟨rfl, hb⟩
            have HB6 := Lib.hid (HB5.out.trans (hb.mono HB5.out.size))
            clear hb
            go_wp2_with fail
            go_ret2
            exact HALL.out _ _ (.inl ⟨4, rfl, rfl⟩) HB6.out
end Go.Proofs.YtnffmlfapccgkaaDoor
