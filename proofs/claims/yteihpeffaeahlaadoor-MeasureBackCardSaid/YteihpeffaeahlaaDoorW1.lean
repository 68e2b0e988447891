/- Contracts of the reader's small methods. -/
import Derived.Test.YteihpeffaeahlaaDoorProg
import Derived.Test.YteihpeffaeahlaaDoorBase
import Derived.BigQuiet
import Derived.Outline
import Derived.WalkSpells
import Derived.WalkLawsBesides
import Derived.Lib.Hide
namespace Go.Proofs.YteihpeffaeahlaaDoor
open Go.RowKit
set_option maxRecDepth 100000
abbrev RP (b : Nat) : Value := .pointer (some ⟨b, 0, none⟩)
/-- What fail throws. -/
abbrev thrown (e : Int) : Ending := .panicked [{ v := .iface 31 (.int .i64 e), recovered := false }]

theorem isDigit_any (c : UInt8) (w : World) : Calls Tryd.prog 76 #[.int .u8 c.toNat] w fun e w' => e = .returned (.bool (isDg c)) ∧ w' = w := by
  by_cases h1 : 48 ≤ c.toNat
  · by_cases h2 : c.toNat ≤ 57
    · have e1 : decide ((48 : Int) ≤ (c.toNat : Int)) = true := by simp; omega
      have e2 : decide ((c.toNat : Int) ≤ 57) = true := by simp; omega
      have e : isDg c = true := by simp [isDg]; omega
      rw [e]; clear e
      go_enter Tryd.func76, Tryd.ntmps76
      go_wp2
      go_ret
      exact ⟨rfl, rfl⟩
    · have e1 : decide ((48 : Int) ≤ (c.toNat : Int)) = true := by simp; omega
      have e2 : decide ((c.toNat : Int) ≤ 57) = false := by simp; omega
      have e : isDg c = false := by simp [isDg]; omega
      rw [e]; clear e
      go_enter Tryd.func76, Tryd.ntmps76
      go_wp2
      go_ret
      exact ⟨rfl, rfl⟩
  · have e1 : decide ((48 : Int) ≤ (c.toNat : Int)) = false := by simp; omega
    have e : isDg c = false := by simp [isDg]; omega
    rw [e]; clear e
    go_enter Tryd.func76, Tryd.ntmps76
    go_wp2
    go_ret
    exact ⟨rfl, rfl⟩

theorem inRange_any (n : Int) (w : World) : Calls Tryd.prog 42 #[.int .i64 n] w fun e w' => e = .returned (.bool (decide (ok9 n))) ∧ w' = w := by
  by_cases h1 : -1000000000 ≤ n
  · by_cases h2 : n ≤ 1000000000
    · have e : decide (ok9 n) = true := decide_eq_true (show ok9 n from ⟨h1, h2⟩)
      rw [e]; clear e
      go_enter Tryd.func42, Tryd.ntmps42
      go_wp2
      go_ret
      exact ⟨rfl, rfl⟩
    · have e : decide (ok9 n) = false := decide_eq_false (fun h => by unfold ok9 at h; omega)
      rw [e]; clear e
      go_enter Tryd.func42, Tryd.ntmps42
      go_wp2
      go_ret
      exact ⟨rfl, rfl⟩
  · have e : decide (ok9 n) = false := decide_eq_false (fun h => by unfold ok9 at h; omega)
    rw [e]; clear e
    go_enter Tryd.func42, Tryd.ntmps42
    go_wp2
    go_ret
    exact ⟨rfl, rfl⟩

theorem truth_any (t : Bool) (w : World) : Calls Tryd.prog 74 #[.bool t] w fun e w' => e = .returned (.int .i64 (if t then 1 else 0)) ∧ w' = w := by
  cases t
  · go_enter Tryd.func74, Tryd.ntmps74
    go_wp2
    go_ret
    exact ⟨rfl, rfl⟩
  · go_enter Tryd.func74, Tryd.ntmps74
    go_wp2
    go_ret
    exact ⟨rfl, rfl⟩

section
variable {b : Nat} {r : RS} {p dp wh : Nat} {w : World}
theorem take_no (c : UInt8) (h : Has 64 b r p dp wh w) (hl : r.s.size ≤ 9223372036854775807) (hc : r.l[p]? ≠ some c) :
    Calls Tryd.prog 55 #[RP b, .int .u8 c.toNat] w fun e w' => e = .returned (.bool false) ∧ ∃ n, w' = w.drewN n := by
  have h0 := h.c0
  have h1 := h.c1
  obtain ⟨s, sc, sz, vs, hr, fm⟩ := r
  simp only at h0 hl
  by_cases hlt : p < s.size
  · have hc' : ((s[p].toNat : Int) == (c.toNat : Int)) = false := by
      rw [beq_eq_false_iff_ne]; intro e; apply hc
      show s.data.toList[p]? = _
      rw [byte_at _ _ hlt]; congr 1; apply UInt8.toNat_inj.1; omega
    have hd : decide ((p : Int) < (s.size : Int)) = true := by simp; omega
    clear h hc
    go_enter Tryd.func55, Tryd.ntmps55
    go_wp2
    go_quiet (fail)
    go_wp2
    go_ret
    exact ⟨rfl, _, rfl⟩
  · have hd : decide (p < s.size) = false := by simp; omega
    clear h hc
    go_enter Tryd.func55, Tryd.ntmps55
    go_wp2
    go_quiet (fail)
    go_wp2
    go_ret
    exact ⟨rfl, _, rfl⟩

theorem take_yes (c : UInt8) (h : Has 64 b r p dp wh w) (hl : r.s.size ≤ 9223372036854775807) (hc : r.l[p]? = some c) :
    Calls Tryd.prog 55 #[RP b, .int .u8 c.toNat] w fun e w' => e = .returned (.bool true) ∧ Has 64 b r (p + 1) dp wh w' ∧ Own b w w' := by
  have h0 := h.c0
  have h1 := h.c1
  have hf := h.fz 1
  have HH : Has 64 b r (p + 1) dp wh (w.setCell ⟨b, 1, none⟩ (.int .i64 (p + 1 : Nat))) := h.set1 (p + 1)
  obtain ⟨s, sc, sz, vs, hr, fm⟩ := r
  simp only at h0 hl
  have hlt : p < s.size := by
    have := (List.getElem?_eq_some_iff.1 hc).1; simpa [RS.l] using this
  have hc' : ((s[p].toNat : Int) == (c.toNat : Int)) = true := by
    rw [beq_iff_eq]
    have : s.data.toList[p]? = some c := hc
    rw [byte_at _ _ hlt] at this; rw [Option.some.inj this]
  have hd : decide ((p : Int) < (s.size : Int)) = true := by simp; omega
  have HO := ((Own.refl b w).setCell 1 (.int .i64 (p + 1 : Nat)))
  have HX := Lib.hid HH
  clear h hc HH
  go_enter Tryd.func55, Tryd.ntmps55
  go_wp2
  go_quiet (fail)
  go_wp2
  go_ret
  exact ⟨rfl, HX.out, HO.os, HO.tape, HO.output, HO.size, HO.block⟩
end

section
variable {b : Nat} {r : RS} {p dp wh : Nat} {w : World}
theorem fail_form (e : Int) (he : e = 4) : Calls Tryd.prog 67 #[RP b, .int .i64 e] w fun e' w' => e' = thrown e ∧ w' = w := by
  subst he
  go_enter Tryd.func67, Tryd.ntmps67
  go_wp2
  exact ⟨rfl, rfl, rfl⟩
theorem fail_throws (e : Int) (h : Has 64 b r p dp wh w) (hf : r.fm = false) (he : (e == 4) = false) : Calls Tryd.prog 67 #[RP b, .int .i64 e] w fun e' w' => e' = thrown e ∧ w' = w := by
  have h8 := h.c8
  rw [hf] at h8
  clear h hf
  go_enter Tryd.func67, Tryd.ntmps67
  go_wp2
  exact ⟨rfl, rfl, rfl⟩
theorem fail_passes (e : Int) (h : Has 64 b r p dp wh w) (hf : r.fm = true) (he : (e == 4) = false) : Calls Tryd.prog 67 #[RP b, .int .i64 e] w fun e' w' => e' = .returned (.tuple #[]) ∧ w' = w := by
  have h8 := h.c8
  rw [hf] at h8
  clear h hf
  go_enter Tryd.func67, Tryd.ntmps67
  go_wp2
  go_end0
  exact ⟨rfl, rfl⟩
end

section
variable {b : Nat} {r : RS} {p dp wh : Nat} {w : World}
theorem within_ok (n : Int) (hn : ok9 n) : Calls Tryd.prog 72 #[RP b, .int .i64 n] w fun e w' => e = .returned (.int .i64 n) ∧ w' = w := by
  have e0 : decide (ok9 n) = true := decide_eq_true hn
  have HE := Lib.hid e0
  clear e0 hn
  go_enter Tryd.func72, Tryd.ntmps72
  go_wp2_with (go_at_call 42; refine (inRange_any _ _).mono ?_; rintro e w' ⟨rfl, rfl⟩; rw [HE.out])
  go_ret
  exact ⟨rfl, rfl⟩
theorem within_bad (n : Int) (hn : ¬ ok9 n) (h : Has 64 b r p dp wh w) (hf : r.fm = false) : Calls Tryd.prog 72 #[RP b, .int .i64 n] w fun e w' => e = thrown 5 ∧ w' = w := by
  have e0 : decide (ok9 n) = false := decide_eq_false hn
  have HE := Lib.hid e0
  have HF := Lib.hid hf
  have HH := Lib.hid h
  clear e0 hn hf h
  go_enter Tryd.func72, Tryd.ntmps72
  go_wp2_with (first | (go_at_call 42; refine (inRange_any _ _).mono ?_; rintro e w' ⟨rfl, rfl⟩; rw [HE.out]) | (go_at_call 67; refine (fail_throws 5 HH.out HF.out rfl).mono ?_; rintro e w' ⟨rfl, rfl⟩))
  exact ⟨rfl, rfl, rfl⟩
theorem within_form (n : Int) (hn : ¬ ok9 n) (h : Has 64 b r p dp wh w) (hf : r.fm = true) : Calls Tryd.prog 72 #[RP b, .int .i64 n] w fun e w' => e = .returned (.int .i64 0) ∧ w' = w := by
  have e0 : decide (ok9 n) = false := decide_eq_false hn
  have HE := Lib.hid e0
  have HF := Lib.hid hf
  have HH := Lib.hid h
  clear e0 hn hf h
  go_enter Tryd.func72, Tryd.ntmps72
  go_wp2_with (first | (go_at_call 42; refine (inRange_any _ _).mono ?_; rintro e w' ⟨rfl, rfl⟩; rw [HE.out]) | (go_at_call 67; refine (fail_passes 5 HH.out HF.out rfl).mono ?_; rintro e w' ⟨rfl, rfl⟩))
  go_ret
  exact ⟨rfl, rfl⟩
end

end Go.Proofs.YteihpeffaeahlaaDoor
