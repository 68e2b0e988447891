/- Texts that are alike. -/
import Derived.Test.YtfobbcddedcepaaDoorRA
namespace Go.Proofs.YtfobbcddedcepaaDoor
open Go.RowKit
set_option maxRecDepth 100000
set_option linter.unusedSimpArgs false
set_option linter.unusedVariables false
theorem str_at (xs : List ByteArray) (j : Nat) (h : j < xs.length) : (strCs xs)[j]? = some (.string xs[j]) := by
  unfold strCs; rw [List.getElem?_map, List.getElem?_eq_getElem h]; rfl
theorem texts_eq {P P' : TypeId → Nat → Prop} {w : World} {A A' : Option Addr} {n c c' : Nat} {xs : List ByteArray} (h : StrsAt P w A n xs) (h' : StrsAt P' w A' n xs) (hn : (n : Int) ≤ 9223372036854775807) :
    Calls Tryd.prog 33 #[.slice A n c, .slice A' n c'] w fun e w' => e = .returned (.bool true) ∧ Below w.heap.size w w' := by
  have H := Lib.hid h.rd
  have H' := Lib.hid h'.rd
  have HL := Lib.hid h.len
  have hself : ((n : Int) != (n : Int)) = false := by simp
  clear h h'
  go_enter Tryd.func33, Tryd.ntmps33
  go_wp2_with fail
  go_loopg [5] n (fun k i wr => ∃ j : Nat, k + j = n ∧ i = .int .i64 j ∧ wr.heap = w.heap ∧ Below w.heap.size w wr)
  case atStart => exact ⟨0, rfl, rfl, rfl, Below.refl _ _⟩
  case round =>
    obtain ⟨j, hk, rfl, hh, hb⟩ := hrel
    have HK := Lib.hid hk
    have HH := Lib.hid hh
    have HB := Lib.hid hb
    by_cases hj : j < n
    · have dj : decide (j < n) = true := decide_eq_true hj
      have hjl : j < xs.length := by rw [← HL.out]; exact hj
      obtain ⟨b, off, rfl, _, hc⟩ := H.out.2 (by omega)
      obtain ⟨b', off', rfl, _, hc'⟩ := H'.out.2 (by omega)
      have c0 := hc j _ (str_at xs j hjl)
      have c0' := hc' j _ (str_at xs j hjl)
      have key : ∀ p : Addr, wr.cell? p = w.cell? p := fun p => by unfold World.cell?; rw [HH.out]
      rw [← key] at c0 c0'
      obtain ⟨z, hz⟩ : ∃ z, z = xs[j] := ⟨_, rfl⟩
      rw [← hz] at c0 c0'
      have HJ := Lib.hid hj
      have hj0 : (0 : Int) ≤ (j : Int) := by omega
      have hj1 : (j : Int) < (n : Int) := by omega
      clear hk hj hh hb hjl hc hc' key hz
      go_wp2_with fail
      go_quiet (fail)
      go_wp2_with fail
      go_roundg (gk - 1)
      case measure => have := HK.out; have := HJ.out; omega
      case rel => have := HK.out; have := HJ.out; exact ⟨j + 1, by omega, by go_num, HH.out, ⟨HB.out.os, HB.out.tape, HB.out.output, HB.out.size, HB.out.block⟩⟩
    · have dj : decide (j < n) = false := decide_eq_false hj
      clear hk hj hh hb
      go_wp2_with fail
      go_ret
      exact ⟨rfl, HB.out⟩
end Go.Proofs.YtfobbcddedcepaaDoor
