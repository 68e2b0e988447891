/- The law StoreAliases: its walk. -/
import Derived.Test.YtgpanlkcpnlejaaE5
set_option linter.unusedSimpArgs false
set_option linter.unusedVariables false
namespace Go.Proofs.Ytgpanlkcpnlejaa
open Go.RowKit Go.Maps
set_option maxRecDepth 100000
theorem kind_ab {T sb mb ie : Nat} {M : Nat → Mc} {w : World} (h : SA T sb mb (LA ie) M w) (s : ByteArray) (hs : Ab s) :
    Calls Try.prog 22 #[BP sb, .string s] w fun e w' => e = .returned (.int .i64 (M ie).kind) ∧ Below w.heap.size w w' := by
  have := kindA h s
  rw [if_pos hs.ok] at this
  have hm : mOf (LA ie) M s.data.toList = M ie := by unfold mOf; rw [if_pos (hs.has ie), hs.get ie]
  rwa [hm] at this
theorem lines_ab {T sb mb ie : Nat} {M : Nat → Mc} {w : World} (h : SA T sb mb (LA ie) M w) (s : ByteArray) (hs : Ab s) :
    Calls Try.prog 17 #[BP sb, .string s] w fun e w' => ∃ A n c, e = .returned (.tuple #[.slice A n c, .int .i64 0]) ∧ LinP (mLines (M ie)) w A n c w' := by
  have := linesA h s hs.size (hs.has ie)
  rwa [hs.get ie] at this
theorem rem_a {T sb mb ie : Nat} {M : Nat → Mc} {w : World} (h : SA T sb mb (LA ie) M w) :
    Calls Try.prog 23 #[BP sb, .string ⟨#[97]⟩] w fun e w' => e = .returned (.int .i64 0) ∧ SA T sb mb [⟨[98], ie⟩] M w' ∧ Below T w w' := by
  obtain ⟨E, h⟩ := h
  refine (remove_ok h.sk ⟨#[97]⟩ rfl).mono fun e w' ⟨he, hsk, hk⟩ => ?_
  obtain ⟨h1, h2⟩ := h.names hsk hk (fun r hr => ⟨⟨[97], ie⟩, by simp, by
    have hr2 : r ∈ [(⟨[98], ie⟩ : Reg)] := hr
    simp only [List.mem_cons, List.not_mem_nil, or_false] at hr2
    rw [hr2]⟩)
  exact ⟨he, ⟨E, h1⟩, h2⟩
theorem kind_b {T sb mb ie : Nat} {M : Nat → Mc} {w : World} (h : SA T sb mb [⟨[98], ie⟩] M w) :
    Calls Try.prog 22 #[BP sb, .string ⟨#[98]⟩] w fun e w' => e = .returned (.int .i64 (M ie).kind) ∧ Below w.heap.size w w' := by
  have := kindA h ⟨#[98]⟩
  rw [if_pos (by rfl)] at this
  exact this
theorem kind_a {T sb mb ie : Nat} {M : Nat → Mc} {w : World} (h : SA T sb mb [⟨[98], ie⟩] M w) :
    Calls Try.prog 22 #[BP sb, .string ⟨#[97]⟩] w fun e w' => e = .returned (.int .i64 0) ∧ Below w.heap.size w w' := by
  have := kindA h ⟨#[97]⟩
  rw [if_pos (by rfl)] at this
  exact this
theorem kind_12 {T sb mb ie : Nat} {M : Nat → Mc} {w : World} (h : SA T sb mb (LA ie) M w) : (M ie).kind = 1 ∨ (M ie).kind = 2 := by
  obtain ⟨E, h⟩ := h
  rcases (h.en ⟨[97], ie⟩ (by simp)).ok with h | h
  · exact .inl h.1
  · exact .inr h.1
def ArR (w : World) (T sb mb ie n k : Nat) (i : Value) (wr : World) : Prop := ∃ j : Nat, k + j = n ∧ i = .int .i64 j ∧ Al T sb mb ie wr ∧ Below w.heap.size w wr
theorem dk_cases (k : Int) : decide (k < 0) = true ∨ (decide (k < 0) = false ∧ decide (3 < k) = false ∧ decide (8 < k) = false) ∨ (decide (k < 0) = false ∧ decide (3 < k) = true ∧ decide (k < 7) = true) ∨ (decide (k < 0) = false ∧ decide (3 < k) = true ∧ decide (k < 7) = false ∧ decide (8 < k) = false) ∨ (decide (k < 0) = false ∧ decide (3 < k) = true ∧ decide (k < 7) = false ∧ decide (8 < k) = true) := by
  simp only [decide_eq_true_eq, decide_eq_false_iff_not]; omega
theorem dk_in (k : Int) (h : (decide (k < 0) = false ∧ decide (3 < k) = false ∧ decide (8 < k) = false) ∨ (decide (k < 0) = false ∧ decide (3 < k) = true ∧ decide (k < 7) = false ∧ decide (8 < k) = false)) : k = 0 ∨ k = 1 ∨ k = 2 ∨ k = 3 ∨ k = 7 ∨ k = 8 := by
  simp only [decide_eq_true_eq, decide_eq_false_iff_not] at h; omega
theorem ab_ex (j : Nat) : Ab ((⟨#[97, 98]⟩ : ByteArray).extract (j % 2) (j % 2 + 1)) := by
  rcases Nat.mod_two_eq_zero_or_one j with h | h <;> rw [h]
  · exact .inl rfl
  · exact .inr rfl
theorem below_al (w wr : World) (h : Below w.heap.size w wr) (X : Array Value) (e : TypeId) : Below w.heap.size w (wr.alloc (.cells X e)) := h.alloc h.size _
theorem al_al {T sb mb ie : Nat} {wr : World} (h : Al T sb mb ie wr) (X : Array Value) (e : TypeId) : Al T sb mb ie (wr.alloc (.cells X e)) := h.below ((Below.refl _ _).alloc (Nat.le_refl _) _)
theorem ls_al {w W : World} {A : Option Addr} {n : Nat} {ls : List Ln} (h : LnsAt (fun _ b => b < w.heap.size) w A n ls) (k : Below w.heap.size w W) : LnsAt (fun _ b => b < w.heap.size) W A n ls := h.keep fun _ b hb => ⟨k.block b hb, hb⟩
set_option maxHeartbeats 8000000 in
theorem law_aliases {w : World} (A : Option Addr) (n c : Nat) (ds : List Dd) (hn : n = ds.length) (hn9 : (n : Int) ≤ 9223372036854775807) (hr : ReadsP (fun b => b < w.heap.size) w 7 A n (ds.flatMap ddCs)) (hd : ∀ d ∈ ds, DdOk w d) :
    Calls Try.prog 4 #[.slice A n c] w fun e w' => e = .returned (.bool true) ∧ Below w.heap.size w w' := by
  have HBG := Lib.hid (big_any (c := c) A n ds hn hn9 hr hd)
  have HN := Lib.hid hn
  have HR := Lib.hid hr
  have HD := Lib.hid hd
  clear hn hr hd
  go_enter Try.func4, Try.ntmps4
  go_wp2_with fail
  refine HBG.out.mono ?_
  rintro e w1 ⟨⟨t, rfl⟩, hb⟩
  have HB1 := Lib.hid hb
  clear hb
  cases t with
  | true =>
    go_wp2_with fail
    refine (sane_any _).mono ?_
    rintro e w2 ⟨rfl, hb2⟩
    have HB2 := Lib.hid (HB1.out.trans (hb2.mono HB1.out.size))
    clear hb2
    go_wp2_with fail
    go_ret
    exact ⟨rfl, HB2.out⟩
  | false =>
    go_wp2_with fail
    refine (newL_any _).mono ?_
    rintro e w2 ⟨rfl, hsl, hb1⟩
    have HSA : Hid (SA w1.heap.size (w1.heap.size + 1) w1.heap.size [] (fun _ => M0) w2) := Lib.hid ⟨E9, hsl E9 (fun _ => M0)⟩
    have HB2 := Lib.hid (HB1.out.trans (hb1.mono HB1.out.size))
    clear hsl hb1
    go_wp2_with fail
    refine (defineA HSA.out ⟨#[97]⟩ ⟨#[116, 101, 120, 116]⟩ rfl rfl).mono ?_
    rintro e w3 ⟨⟨ie, _, rfl, hs3⟩, hw3⟩
    have HS3 : Hid (SA w1.heap.size (w1.heap.size + 1) w1.heap.size [⟨[97], ie⟩] _ w3) := Lib.hid hs3
    have HB3 := Lib.hid (HB2.out.trans (hw3.mono HB1.out.size))
    clear hs3 hw3
    go_wp2_with fail
    refine (al_new HS3.out).mono ?_
    rintro e w4 ⟨rfl, ha4, hw4⟩
    have HB4 := Lib.hid (HB3.out.trans (hw4.mono HB1.out.size))
    have HST : Hid (ArR w w1.heap.size (w1.heap.size + 1) w1.heap.size ie n n (.int .i64 0) w4) := Lib.hid ⟨0, rfl, rfl, ha4, HB4.out⟩
    clear ha4 hw4
    go_wp2_with fail
    go_loopg [4] n (fun k i wr => ArR w w1.heap.size (w1.heap.size + 1) w1.heap.size ie n k i wr)
    case atStart => exact HST.out
    case round =>
      obtain ⟨j, hk, rfl, hal, hb⟩ := hrel
      have HK := Lib.hid hk
      have HAL := Lib.hid hal
      have HB := Lib.hid hb
      by_cases hj : j < n
      · have dj : decide (j < n) = true := decide_eq_true hj
        have hdj : ds[j]? = some (ds[j]'(by have := HN.out; omega)) := List.getElem?_eq_getElem (by have := HN.out; omega)
        obtain ⟨r, hre⟩ : ∃ r, r = ds[j]'(by have := HN.out; omega) := ⟨_, rfl⟩
        rw [← hre] at hdj
        obtain ⟨b, off, rfl, hbl, c0, c1, c2, c3, c4, c5, c6⟩ := reads_dd HR.out j r hdj
        have HOK := Lib.hid (HD.out r (List.mem_of_getElem? hdj))
        have e := fun o => hb.cell (p := ⟨b, o, none⟩) hbl
        rw [← e] at c0 c1 c2 c3 c4 c5 c6
        obtain ⟨dk, nm, ot, tx, dA, dn, dc, da, db, dls⟩ := r
        simp only at c0 c1 c2 c3 c4 c5 c6
        have HJ := Lib.hid hj
        have hba := (Below.refl wr.heap.size wr).alloc (Nat.le_refl _)
        have HK5 := Lib.hid (dk_cases dk)
        clear hk hj hal hb hbl hre hdj e hba
        rcases HK5.out with d1 | ⟨d1, d2, d4⟩ | ⟨d1, d2, d3⟩ | ⟨d1, d2, d3, d4⟩ | ⟨d1, d2, d3, d4⟩
        · go_wp2_with fail
          go_roundg (gk - 1)
          case measure => have := HK.out; have := HJ.out; omega
          case rel =>
            have := HK.out
            have := HJ.out
            exact ⟨j + 1, by omega, by first | go_num | (congr 1; rw [IntWalk.wrap64_in _ (by omega)]; omega), al_al HAL.out _ _, below_al _ _ HB.out _ _⟩
        · go_wp2_with fail
          refine (al_do (al_al HAL.out _ _) _ (ab_ex j) dk ot tx dA dn dc da db dls (ls_al HOK.out.ls (below_al _ _ HB.out _ _)) (fun _ b hb => Nat.lt_of_lt_of_le hb (below_al _ _ HB.out _ _).size) HOK.out.nil (by have := HOK.out.fit; simp only at this; omega) HOK.out.a9 HOK.out.b9 (dk_in dk (by simp only [*]; simp))).mono ?_
          rintro e w5 ⟨x, rfl, ⟨⟨M, hsa⟩⟩, hb5⟩
          have HB5 := Lib.hid ((below_al _ _ HB.out _ _).trans (hb5.mono HB1.out.size))
          have HS5 := Lib.hid hsa
          clear hsa hb5
          go_wp2_with fail
          refine (lines_ab HS5.out ⟨#[97]⟩ (.inl rfl)).mono ?_
          rintro e w6 ⟨A6, n6, k6, rfl, hl6⟩
          have HL6 := Lib.hid hl6.at_
          have HS6 := Lib.hid (HS5.out.below hl6.below)
          have HB6 := Lib.hid (HB5.out.trans (hl6.below.mono HB5.out.size))
          clear hl6
          go_wp2_with fail
          refine (lines_ab HS6.out ⟨#[98]⟩ (.inr rfl)).mono ?_
          rintro e w7 ⟨A7, n7, k7, rfl, hl7⟩
          obtain rfl : n7 = n6 := hl7.at_.len.trans HL6.out.len.symm
          have HL7 := Lib.hid hl7.at_
          have HL6b := Lib.hid (HL6.out.keep (P' := Tg w7) fun _ b hb => hb.below hl7.below)
          have hcap7 : (n7 : Int) ≤ 9223372036854775807 := by have := hl7.le; have := hl7.cap; omega
          have HCAP := Lib.hid hcap7
          have HS7 := Lib.hid (HS6.out.below hl7.below)
          have HB7 := Lib.hid (HB6.out.trans (hl7.below.mono HB6.out.size))
          clear hl7 hcap7
          go_wp2_with fail
          refine (sameLines_eq HL6b.out HL7.out (fun _ b hb => hb.lt) (fun _ b hb => hb.lt) HCAP.out).mono ?_
          rintro e w8 ⟨rfl, hb8⟩
          have HS8 := Lib.hid (HS7.out.below hb8)
          have HB8 := Lib.hid (HB7.out.trans (hb8.mono HB7.out.size))
          clear hb8
          go_wp2_with fail
          refine (kind_ab HS8.out ⟨#[97]⟩ (.inl rfl)).mono ?_
          rintro e w9 ⟨rfl, hb9⟩
          have HS9 := Lib.hid (HS8.out.below hb9)
          have HB9 := Lib.hid (HB8.out.trans (hb9.mono HB8.out.size))
          clear hb9
          go_wp2_with fail
          refine (kind_ab HS9.out ⟨#[98]⟩ (.inr rfl)).mono ?_
          rintro e w10 ⟨rfl, hb10⟩
          have HS10 := Lib.hid (HS9.out.below hb10)
          have HB10 := Lib.hid (HB9.out.trans (hb10.mono HB9.out.size))
          have hself : ((M ie).kind != (M ie).kind) = false := by simp
          clear hb10
          go_wp2_with fail
          go_roundg (gk - 1)
          case measure => have := HK.out; have := HJ.out; omega
          case rel =>
            have := HK.out
            have := HJ.out
            exact ⟨j + 1, by omega, by first | go_num | (congr 1; rw [IntWalk.wrap64_in _ (by omega)]; omega), ⟨_, HS10.out⟩, HB10.out⟩
        · go_wp2_with fail
          go_roundg (gk - 1)
          case measure => have := HK.out; have := HJ.out; omega
          case rel =>
            have := HK.out
            have := HJ.out
            exact ⟨j + 1, by omega, by first | go_num | (congr 1; rw [IntWalk.wrap64_in _ (by omega)]; omega), al_al HAL.out _ _, below_al _ _ HB.out _ _⟩
        · go_wp2_with fail
          refine (al_do (al_al HAL.out _ _) _ (ab_ex j) dk ot tx dA dn dc da db dls (ls_al HOK.out.ls (below_al _ _ HB.out _ _)) (fun _ b hb => Nat.lt_of_lt_of_le hb (below_al _ _ HB.out _ _).size) HOK.out.nil (by have := HOK.out.fit; simp only at this; omega) HOK.out.a9 HOK.out.b9 (dk_in dk (by simp only [*]; simp))).mono ?_
          rintro e w5 ⟨x, rfl, ⟨⟨M, hsa⟩⟩, hb5⟩
          have HB5 := Lib.hid ((below_al _ _ HB.out _ _).trans (hb5.mono HB1.out.size))
          have HS5 := Lib.hid hsa
          clear hsa hb5
          go_wp2_with fail
          refine (lines_ab HS5.out ⟨#[97]⟩ (.inl rfl)).mono ?_
          rintro e w6 ⟨A6, n6, k6, rfl, hl6⟩
          have HL6 := Lib.hid hl6.at_
          have HS6 := Lib.hid (HS5.out.below hl6.below)
          have HB6 := Lib.hid (HB5.out.trans (hl6.below.mono HB5.out.size))
          clear hl6
          go_wp2_with fail
          refine (lines_ab HS6.out ⟨#[98]⟩ (.inr rfl)).mono ?_
          rintro e w7 ⟨A7, n7, k7, rfl, hl7⟩
          obtain rfl : n7 = n6 := hl7.at_.len.trans HL6.out.len.symm
          have HL7 := Lib.hid hl7.at_
          have HL6b := Lib.hid (HL6.out.keep (P' := Tg w7) fun _ b hb => hb.below hl7.below)
          have hcap7 : (n7 : Int) ≤ 9223372036854775807 := by have := hl7.le; have := hl7.cap; omega
          have HCAP := Lib.hid hcap7
          have HS7 := Lib.hid (HS6.out.below hl7.below)
          have HB7 := Lib.hid (HB6.out.trans (hl7.below.mono HB6.out.size))
          clear hl7 hcap7
          go_wp2_with fail
          refine (sameLines_eq HL6b.out HL7.out (fun _ b hb => hb.lt) (fun _ b hb => hb.lt) HCAP.out).mono ?_
          rintro e w8 ⟨rfl, hb8⟩
          have HS8 := Lib.hid (HS7.out.below hb8)
          have HB8 := Lib.hid (HB7.out.trans (hb8.mono HB7.out.size))
          clear hb8
          go_wp2_with fail
          refine (kind_ab HS8.out ⟨#[97]⟩ (.inl rfl)).mono ?_
          rintro e w9 ⟨rfl, hb9⟩
          have HS9 := Lib.hid (HS8.out.below hb9)
          have HB9 := Lib.hid (HB8.out.trans (hb9.mono HB8.out.size))
          clear hb9
          go_wp2_with fail
          refine (kind_ab HS9.out ⟨#[98]⟩ (.inr rfl)).mono ?_
          rintro e w10 ⟨rfl, hb10⟩
          have HS10 := Lib.hid (HS9.out.below hb10)
          have HB10 := Lib.hid (HB9.out.trans (hb10.mono HB9.out.size))
          have hself : ((M ie).kind != (M ie).kind) = false := by simp
          clear hb10
          go_wp2_with fail
          go_roundg (gk - 1)
          case measure => have := HK.out; have := HJ.out; omega
          case rel =>
            have := HK.out
            have := HJ.out
            exact ⟨j + 1, by omega, by first | go_num | (congr 1; rw [IntWalk.wrap64_in _ (by omega)]; omega), ⟨_, HS10.out⟩, HB10.out⟩
        · go_wp2_with fail
          go_roundg (gk - 1)
          case measure => have := HK.out; have := HJ.out; omega
          case rel =>
            have := HK.out
            have := HJ.out
            exact ⟨j + 1, by omega, by first | go_num | (congr 1; rw [IntWalk.wrap64_in _ (by omega)]; omega), al_al HAL.out _ _, below_al _ _ HB.out _ _⟩
      · have dj : decide (j < n) = false := decide_eq_false hj
        obtain ⟨M, hsa⟩ := hal
        have HSX := Lib.hid hsa
        have hk12 := kind_12 hsa
        obtain ⟨kd, hkd⟩ : ∃ kd, kd = (M ie).kind := ⟨_, rfl⟩
        have HKB := Lib.hid (fun W (hW : SA w1.heap.size (w1.heap.size + 1) w1.heap.size [⟨[98], ie⟩] M W) => kind_b hW)
        rw [← hkd] at hk12 HKB
        have HNZ : Hid ((kd != 0) = true) := Lib.hid (by rcases hk12 with rfl | rfl <;> rfl)
        clear hk hj hsa hb hk12 hkd
        go_wp2_with fail
        refine (rem_a HSX.out).mono ?_
        rintro e w5 ⟨rfl, hs5, hw5⟩
        have HS5 := Lib.hid hs5
        have HB5 := Lib.hid (HB.out.trans (hw5.mono HB1.out.size))
        clear hs5 hw5
        go_wp2_with fail
        refine (HKB.out _ HS5.out).mono ?_
        rintro e w6 ⟨rfl, hb6⟩
        have HS6 := Lib.hid (HS5.out.below hb6)
        have HB6 := Lib.hid (HB5.out.trans (hb6.mono HB5.out.size))
        have hnz := HNZ.out
        clear hb6
        go_wp2_with fail
        refine (kind_a HS6.out).mono ?_
        rintro e w7 ⟨rfl, hb7⟩
        have HB7 := Lib.hid (HB6.out.trans (hb7.mono HB6.out.size))
        clear hb7
        go_wp2_with fail
        refine (sane_any _).mono ?_
        rintro e w8 ⟨rfl, hb8⟩
        have HB8 := Lib.hid (HB7.out.trans (hb8.mono HB7.out.size))
        clear hb8
        go_wp2_with fail
        go_ret
        exact ⟨rfl, HB8.out⟩
end Go.Proofs.Ytgpanlkcpnlejaa
