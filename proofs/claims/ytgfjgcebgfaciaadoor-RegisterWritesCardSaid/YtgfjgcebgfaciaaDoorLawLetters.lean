/- The fixed example; the law RegisterLetters: its walk. -/
import Derived.Test.YtgfjgcebgfaciaaDoorW5
import Derived.Test.YtgfjgcebgfaciaaDoorLet
namespace Go.Proofs.YtgfjgcebgfaciaaDoor
open Go.RowKit Go.Shelf
set_option maxRecDepth 100000
theorem umod (A m : Int) (hm : 0 < m) (_hm2 : m ≤ 4611686018427387904) : ∃ a : Nat, (a : Int) < m ∧ (IntKind.u64.wrap A).tmod m = a := by
  have h0 : 0 ≤ IntKind.u64.wrap A := by rw [IntKind.wrap_u64]; exact Int.emod_nonneg _ (by decide)
  refine ⟨((IntKind.u64.wrap A).tmod m).toNat, ?_, ?_⟩
  · rw [Int.toNat_of_nonneg (Int.tmod_nonneg _ h0)]; exact Int.tmod_lt_of_pos _ hm
  · rw [Int.toNat_of_nonneg (Int.tmod_nonneg _ h0)]
theorem write_a (N : Nat) (hN : N ≤ 999999999) (w : World) (hT : TB w) :
    Calls Tryd.prog 7 #[.int .i64 N, .string ⟨#[97]⟩] w fun e w' => e = .returned (.tuple #[.string ⟨(if N = 0 then [48] else lets N).toArray⟩, .int .i64 0]) ∧ Below w.heap.size w w' := by
  have := write_any N ⟨#[97]⟩ (by decide) w hT
  have hn : okN (N : Int) = true := by unfold okN; simp; omega
  rw [show writeS (N : Int) (⟨#[97]⟩ : ByteArray).data.toList = (if N = 0 then [48] else lets N, 0) by
    unfold writeS
    rw [if_neg (by decide), if_neg (by rw [hn]; decide)]
    unfold txt; rw [if_neg (by omega)]; rfl] at this
  exact this
theorem lets28 : (if (28 : Nat) = 0 then [48] else lets 28) = [97, 98] := by decide +kernel
theorem sane_any (w : World) (hT : TB w) : Calls Tryd.prog 6 #[] w fun e w' => e = .returned (.bool true) ∧ Below w.heap.size w w' := by
  have HW := write_a 28 (by omega) w hT
  rw [lets28] at HW
  have H := Lib.hid HW
  clear HW hT
  go_enter Tryd.func6, Tryd.ntmps6
  go_wp2_with fail
  refine H.out.mono ?_
  rintro e w1 ⟨rfl, hb⟩
  have HB := Lib.hid hb
  clear hb
  go_wp2_with fail
  go_ret
  exact ⟨rfl, HB.out⟩
set_option maxHeartbeats 1000000 in
theorem letters_walk (A : Int) (w : World) (hT : TB w) :
    Calls Tryd.prog 5 #[.int .i64 A] w fun e w' => e = .returned (.bool true) ∧ Below w.heap.size w w' := by
  obtain ⟨a, ha, hA⟩ := umod A 999999999 (by omega) (by omega)
  have HT := Lib.hid hT
  clear hT
  by_cases h0 : a = 0
  · subst h0
    go_enter Tryd.func5, Tryd.ntmps5
    go_wp2_with fail
    refine (write_a 0 (by omega) _ HT.out).mono ?_
    rintro e w1 ⟨rfl, hb⟩
    have T1 := Lib.hid (HT.out.below hb (Nat.le_refl _))
    have HB := Lib.hid hb
    clear hb
    go_wp2_with fail
    refine (write_a 1 (by omega) _ T1.out).mono ?_
    rintro e w2 ⟨rfl, hb⟩
    have T2 := Lib.hid (T1.out.below hb (Nat.le_refl _))
    have HB2 := Lib.hid (HB.out.trans (hb.mono HB.out.size))
    clear hb
    rw [show lets 1 = [97] by decide +kernel]
    go_wp2_with fail
    refine (sane_any _ T2.out).mono ?_
    rintro e w3 ⟨rfl, hb⟩
    have HB3 := Lib.hid (HB2.out.trans (hb.mono HB2.out.size))
    clear hb
    go_wp2_with fail
    go_ret
    exact ⟨rfl, HB3.out⟩
  · have h1 : ((a : Int) == 0) = false := by simp; omega
    have hl := lets_next a (by omega)
    have HW1 := Lib.hid (fun W h => write_a a (by omega) W h)
    have HW2 := Lib.hid (fun W h => write_a (a + 1) (by omega) W h)
    rw [if_neg h0] at HW1
    rw [if_neg (by omega)] at HW2
    obtain ⟨s, hs⟩ : ∃ s : ByteArray, s = ⟨(lets a).toArray⟩ := ⟨_, rfl⟩
    obtain ⟨t, ht⟩ : ∃ t : ByteArray, t = ⟨(lets (a + 1)).toArray⟩ := ⟨_, rfl⟩
    have hsl : s.size = (lets a).length := by rw [hs]; show (lets a).toArray.size = _; simp
    have htl : t.size = (lets (a + 1)).length := by rw [ht]; show (lets (a + 1)).toArray.size = _; simp
    have hsd : s.toList = lets a := by rw [Lib.toList_data, hs]
    have htd : t.toList = lets (a + 1) := by rw [Lib.toList_data, ht]
    rw [← hs] at HW1
    rw [← ht] at HW2
    have hle : decide (t.size < s.size) = false := decide_eq_false (by omega)
    have hcmp : s.size < t.size ∨ (decide (s.size < t.size) = false ∧ Op.bytesLess t.toList s.toList = false ∧ (t.toList == s.toList) = false) := by
      rcases hl with h | ⟨h, k⟩
      · left; omega
      · right
        obtain ⟨k1, k2⟩ := bl_asymm _ _ k
        exact ⟨decide_eq_false (by omega), by rw [hsd, htd]; exact k1, by rw [hsd, htd]; exact k2⟩
    have HL1 : s.size ≤ 100 := by have := lets_len 10 a (by omega); omega
    have HL2 : t.size ≤ 100 := by have := lets_len 10 (a + 1) (by omega); omega
    clear hl h0 hs ht hsl htl hsd htd
    rcases hcmp with hc | ⟨hc0, hc1, hc2⟩
    · have hc' : decide (s.size < t.size) = true := decide_eq_true hc
      clear hc
      go_enter Tryd.func5, Tryd.ntmps5
      go_wp2_with fail
      refine (HW1.out _ HT.out).mono ?_
      rintro e w1 ⟨rfl, hb⟩
      have T1 := Lib.hid (HT.out.below hb (Nat.le_refl _))
      have HB := Lib.hid hb
      clear hb
      go_wp2_with fail
      refine (HW2.out _ T1.out).mono ?_
      rintro e w2 ⟨rfl, hb⟩
      have T2 := Lib.hid (T1.out.below hb (Nat.le_refl _))
      have HB2 := Lib.hid (HB.out.trans (hb.mono HB.out.size))
      clear hb
      go_wp2_with fail
      refine (sane_any _ T2.out).mono ?_
      rintro e w3 ⟨rfl, hb⟩
      have HB3 := Lib.hid (HB2.out.trans (hb.mono HB2.out.size))
      clear hb
      go_wp2_with fail
      go_ret
      exact ⟨rfl, HB3.out⟩
    · go_enter Tryd.func5, Tryd.ntmps5
      go_wp2_with fail
      refine (HW1.out _ HT.out).mono ?_
      rintro e w1 ⟨rfl, hb⟩
      have T1 := Lib.hid (HT.out.below hb (Nat.le_refl _))
      have HB := Lib.hid hb
      clear hb
      go_wp2_with fail
      refine (HW2.out _ T1.out).mono ?_
      rintro e w2 ⟨rfl, hb⟩
      have T2 := Lib.hid (T1.out.below hb (Nat.le_refl _))
      have HB2 := Lib.hid (HB.out.trans (hb.mono HB.out.size))
      clear hb
      go_wp2_with fail
      refine (sane_any _ T2.out).mono ?_
      rintro e w3 ⟨rfl, hb⟩
      have HB3 := Lib.hid (HB2.out.trans (hb.mono HB2.out.size))
      clear hb
      go_wp2_with fail
      go_ret
      exact ⟨rfl, HB3.out⟩
end Go.Proofs.YtgfjgcebgfaciaaDoor
