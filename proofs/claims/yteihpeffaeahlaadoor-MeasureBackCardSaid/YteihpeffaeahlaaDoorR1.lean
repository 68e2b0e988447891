/- Contracts of the specification's small functions. -/
import Derived.Test.YteihpeffaeahlaaDoorMA
namespace Go.Proofs.YteihpeffaeahlaaDoor
open Go.RowKit
set_option maxRecDepth 100000
abbrev CXp (sz vs hr : Int) : Obj := .cells #[.int .i64 sz, .int .i64 vs, .int .i64 hr] 38
theorem rdigit_is (c : UInt8) (t : Bool) (h : isDg c = t) (w : World) : Calls Tryd.prog 57 #[.int .u8 c.toNat] w fun e w' => e = .returned (.bool t) ∧ w' = w := by
  subst h
  by_cases h1 : 48 ≤ c.toNat
  · by_cases h2 : c.toNat ≤ 57
    · have e1 : decide ((48 : Int) ≤ (c.toNat : Int)) = true := by simp; omega
      have e2 : decide ((c.toNat : Int) ≤ 57) = true := by simp; omega
      have e : isDg c = true := by simp [isDg]; omega
      rw [e]; clear e
      go_enter Tryd.func57, Tryd.ntmps57
      go_wp2
      go_ret
      exact ⟨rfl, rfl⟩
    · have e1 : decide ((48 : Int) ≤ (c.toNat : Int)) = true := by simp; omega
      have e2 : decide ((c.toNat : Int) ≤ 57) = false := by simp; omega
      have e : isDg c = false := by simp [isDg]; omega
      rw [e]; clear e
      go_enter Tryd.func57, Tryd.ntmps57
      go_wp2
      go_ret
      exact ⟨rfl, rfl⟩
  · have e1 : decide ((48 : Int) ≤ (c.toNat : Int)) = false := by simp; omega
    have e : isDg c = false := by simp [isDg]; omega
    rw [e]; clear e
    go_enter Tryd.func57, Tryd.ntmps57
    go_wp2
    go_ret
    exact ⟨rfl, rfl⟩
theorem rwithin_is (n : Int) (t : Bool) (h : decide (ok9 n) = t) (w : World) : Calls Tryd.prog 43 #[.int .i64 n] w fun e w' => e = .returned (.bool t) ∧ w' = w := by
  subst h
  by_cases h1 : -1000000000 ≤ n
  · by_cases h2 : n ≤ 1000000000
    · have e : decide (ok9 n) = true := decide_eq_true (show ok9 n from ⟨h1, h2⟩)
      rw [e]; clear e
      go_enter Tryd.func43, Tryd.ntmps43
      go_wp2
      go_ret
      exact ⟨rfl, rfl⟩
    · have e : decide (ok9 n) = false := decide_eq_false (fun h => by unfold ok9 at h; omega)
      rw [e]; clear e
      go_enter Tryd.func43, Tryd.ntmps43
      go_wp2
      go_ret
      exact ⟨rfl, rfl⟩
  · have e : decide (ok9 n) = false := decide_eq_false (fun h => by unfold ok9 at h; omega)
    rw [e]; clear e
    go_enter Tryd.func43, Tryd.ntmps43
    go_wp2
    go_ret
    exact ⟨rfl, rfl⟩
theorem rtruth_any (t : Bool) (w : World) : Calls Tryd.prog 78 #[.bool t] w fun e w' => e = .returned (.int .i64 (tr t)) ∧ w' = w := by
  cases t
  · go_enter Tryd.func78, Tryd.ntmps78
    go_wp2
    go_ret
    exact ⟨rfl, rfl⟩
  · go_enter Tryd.func78, Tryd.ntmps78
    go_wp2
    go_ret
    exact ⟨rfl, rfl⟩
/- The letters of scales. -/
def scL : List UInt8 := [117, 112, 80, 105, 99, 109, 110, 118]
def scB (i : Nat) : UInt8 := scL.getD i 0
theorem scB_at (i : Nat) (h : i < 8) (w : World) : (Instr.index 9 (.string ⟨#[117, 112, 80, 105, 99, 109, 110, 118]⟩) (.int .i64 i)).run Tryd.prog w = .ok (.int .u8 (scB i).toNat) w := by
  have hi : i = 0 ∨ i = 1 ∨ i = 2 ∨ i = 3 ∨ i = 4 ∨ i = 5 ∨ i = 6 ∨ i = 7 := by omega
  clear h
  rcases hi with rfl | rfl | rfl | rfl | rfl | rfl | rfl | rfl <;> (show _ = _; kernel_rfl)
theorem unitK_isSome (k : UInt8) (sz vs : Int) : (unitK k sz vs).isSome = true ↔ k ∈ scL := by
  unfold unitK scL
  repeat' split
  all_goals simp_all
def IsI (k : UInt8) (w : World) (n : Nat) (i : Value) (wr : World) : Prop := ∃ j : Nat, n + j = 8 ∧ i = .int .i64 j ∧ (∀ m, m < j → scB m ≠ k) ∧ wr = w
theorem isScale_is (k : UInt8) (sz vs : Int) (t : Bool) (h : (unitK k sz vs).isSome = t) (w : World) : Calls Tryd.prog 34 #[.int .u8 k.toNat] w fun e w' => e = .returned (.bool t) ∧ w' = w := by
  have H := Lib.hid h
  clear h
  go_enter Tryd.func34, Tryd.ntmps34
  go_wp2_with fail
  go_loopg [3] 8 (fun n i wr => IsI k w n i wr)
  case atStart => exact ⟨0, rfl, rfl, fun m hm => absurd hm (by omega), rfl⟩
  case round =>
    obtain ⟨j, hn, rfl, hm, rfl⟩ := hrel
    have HN := Lib.hid hn
    have HM := Lib.hid hm
    by_cases h8 : j < 8
    · have hx := scB_at j h8
      clear hn hm
      by_cases hk : scB j = k
      · have ht : (((scB j).toNat : Int) == (k.toNat : Int)) = true := by rw [hk]; simp
        have e : t = true := by
          rw [← H.out, unitK_isSome, ← hk]
          unfold scB
          rw [List.getD_eq_getElem?_getD, List.getElem?_eq_getElem (show j < scL.length from h8)]
          exact List.getElem_mem _
        clear hk
        go_wp2_with fail
        go_ret
        exact ⟨by rw [e]; rfl, rfl⟩
      · have ht : (((scB j).toNat : Int) == (k.toNat : Int)) = false := ne_b hk
        have HK := Lib.hid hk
        clear hk
        go_wp2_with fail
        go_roundg (7 - j)
        case measure => have := HN.out; omega
        case rel =>
          have hn := HN.out
          refine ⟨j + 1, by omega, by go_num, ?_, rfl⟩
          intro m hm
          by_cases e : m = j
          · rw [e]; exact HK.out
          · exact HM.out m (by omega)
    · have e : t = false := by
        rw [← H.out]
        have : ¬ (unitK k sz vs).isSome = true := by
          rw [unitK_isSome]
          intro hk
          obtain ⟨m, hml, he⟩ := List.getElem_of_mem hk
          have hm8 : m < 8 := hml
          refine hm m (by omega) ?_
          unfold scB
          rw [List.getD_eq_getElem?_getD, List.getElem?_eq_getElem hml]
          exact he
        simpa using this
      clear hm hn
      go_wp2_with fail
      go_ret
      exact ⟨by rw [e]; rfl, rfl⟩
end Go.Proofs.YteihpeffaeahlaaDoor
