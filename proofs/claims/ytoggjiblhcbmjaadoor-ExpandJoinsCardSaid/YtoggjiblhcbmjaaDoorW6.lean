/- Which texts can be expanded; a piece with a name. -/
import Derived.Test.YtoggjiblhcbmjaaDoorW5
namespace Go.Proofs.YtoggjiblhcbmjaaDoor
open Go.RowKit Go.Shelf
set_option maxRecDepth 100000
/-- A text that can be expanded. -/
def okS (l : List UInt8) : Bool := decide (l.length ≤ 2000) && !decide (0 ≤ Lib.indexByte l 10)
theorem valid_any (s : ByteArray) (w : World) : Calls Tryd.prog 27 #[.string s] w fun e w' => e = .returned (.bool (okS s.data.toList)) ∧ w = w' := by
  have HC := Lib.hid (fun W => Tryd.strings_Contains_one s 10 W)
  have hlen : s.data.toList.length = s.size := (sz_of s _ rfl).symm
  obtain ⟨R, hR⟩ : ∃ R, R = okS s.data.toList := ⟨_, rfl⟩
  rw [← hR]
  unfold okS at hR
  rw [hlen] at hR
  generalize decide (0 ≤ Lib.indexByte s.data.toList 10) = c at *
  by_cases h : s.size ≤ 2000
  · have d1 : decide ((s.size : Int) ≤ 2000) = true := decide_eq_true (by omega)
    have HR := Lib.hid (show R = !c by rw [hR, decide_eq_true h]; rfl)
    clear hR hlen h
    go_enter Tryd.func27, Tryd.ntmps27
    go_wp2_with fail
    refine (HC.out _).mono ?_
    rintro e w1 ⟨rfl, rfl⟩
    go_wp2_with fail
    go_ret
    rw [HR.out]
    exact ⟨rfl, rfl⟩
  · have d1 : decide ((s.size : Int) ≤ 2000) = false := decide_eq_false (by omega)
    have HR := Lib.hid (show R = false by rw [hR, decide_eq_false h]; rfl)
    clear hR hlen h
    go_enter Tryd.func27, Tryd.ntmps27
    go_wp2_with fail
    go_ret
    rw [HR.out]
    exact ⟨rfl, rfl⟩
/-- A piece that has a name. -/
def namS (p : Pc) : Bool := p.kd == 110 || p.kd == 42 || p.kd == 36
theorem kd_eq (p : Pc) (d : UInt8) : ((p.kd.toNat : Int) == (d.toNat : Int)) = (p.kd == d) := by
  by_cases h : p.kd = d
  · rw [h]; simp
  · rw [nb _ _ h]; symm; simpa using h
theorem named_any (p : Pc) (w : World) : Calls Tryd.prog 35 #[pcV p] w fun e w' => e = .returned (.bool (namS p)) ∧ Below w.heap.size w w' := by
  have k1 := kd_eq p 110
  have k2 := kd_eq p 42
  have k3 := kd_eq p 36
  obtain ⟨R, hR⟩ : ∃ R, R = namS p := ⟨_, rfl⟩
  rw [← hR]
  unfold namS at hR
  generalize (p.kd == 110) = a at *
  generalize (p.kd == 42) = b at *
  generalize (p.kd == 36) = c at *
  have t1 : ((p.kd.toNat : Int) == 110) = a := k1
  have t2 : ((p.kd.toNat : Int) == 42) = b := k2
  have t3 : ((p.kd.toNat : Int) == 36) = c := k3
  have HR := Lib.hid hR
  clear k1 k2 k3 hR
  unfold pcV
  obtain ⟨tx, kd, nm, st⟩ := p
  simp only at t1 t2 t3
  cases a <;> cases b <;> cases c
  all_goals
    go_enter Tryd.func35, Tryd.ntmps35
    go_wp2_with fail
    go_ret
    rw [HR.out]
    exact ⟨rfl, bel0 w _⟩
/-- A piece that stays as it is. -/
def staysS (p : Pc) : Bool := !namS p && !(p.kd == 119) && !(p.kd == 34)
theorem kd_ne (p : Pc) (d : UInt8) : ((p.kd.toNat : Int) != (d.toNat : Int)) = !(p.kd == d) := by
  rw [← kd_eq]; rfl
theorem plainF_any (p : Pc) (w : World) : Calls Tryd.prog 34 #[pcV p] w fun e w' => e = .returned (.bool (staysS p)) ∧ Below w.heap.size w w' := by
  have HN := Lib.hid (fun W => named_any p W)
  have k1 := kd_ne p 119
  have k2 := kd_ne p 34
  obtain ⟨R, hR⟩ : ∃ R, R = staysS p := ⟨_, rfl⟩
  rw [← hR]
  unfold staysS at hR
  generalize namS p = n at *
  generalize (p.kd == 119) = a at *
  generalize (p.kd == 34) = b at *
  have t1 : ((p.kd.toNat : Int) != 119) = !a := k1
  have t2 : ((p.kd.toNat : Int) != 34) = !b := k2
  have HR := Lib.hid hR
  clear k1 k2 hR
  unfold pcV at HN ⊢
  obtain ⟨tx, kd, nm, st⟩ := p
  simp only at t1 t2
  cases n <;> cases a <;> cases b
  all_goals
    simp only [Bool.not_true, Bool.not_false] at t1 t2
    go_enter Tryd.func34, Tryd.ntmps34
    go_wp2_with fail
    refine (HN.out _).mono ?_
    rintro e w1 ⟨rfl, hb⟩
    obtain ⟨hc, hf⟩ := bcell hb
    have HB := Lib.hid ((bel0 w _).trans (hb.mono (by rw [siz0]; omega)))
    clear hb
    go_wp2_with fail
    go_ret
    rw [HR.out]
    exact ⟨rfl, HB.out⟩
end Go.Proofs.YtoggjiblhcbmjaaDoor
