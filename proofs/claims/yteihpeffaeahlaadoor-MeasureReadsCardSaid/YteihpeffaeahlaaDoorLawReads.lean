/- The law MeasureReads: its walk. -/
import Derived.Test.YteihpeffaeahlaaDoorRD
namespace Go.Proofs.YteihpeffaeahlaaDoor
open Go.RowKit
set_option maxRecDepth 100000
theorem law_reads (s : ByteArray) (sz vs hr n : Int) (w : World) (hT : Tab w) :
    Calls Tryd.prog 3 #[.string s, CX sz vs hr, .int .i64 n] w fun e w' => e = .returned (.bool true) ∧ Below w.heap.size w w' := by
  have b1 : Below w.heap.size w (w.alloc (CXo sz vs hr)) := (Below.refl _ _).alloc (Nat.le_refl _) _
  have B1 := Lib.hid b1
  have HT := Lib.hid (hT.alloc (CXo sz vs hr))
  by_cases hs : 600 < s.size
  · have t1 : decide ((600 : Int) < (s.size : Int)) = true := decide_eq_true (by omega)
    clear hs hT b1
    go_enter Tryd.func3, Tryd.ntmps3
    go_wp2_with fail
    refine (sane_any _ HT.out).mono ?_
    rintro e w' ⟨rfl, hb⟩
    have HB := Lib.hid hb
    clear hb
    go_wp2_with fail
    go_ret
    exact ⟨rfl, B1.out.trans (HB.out.mono B1.out.size)⟩
  · have t1 : decide ((600 : Int) < (s.size : Int)) = false := decide_eq_false (by omega)
    have HS := Lib.hid hs
    clear hs hT b1
    go_enter Tryd.func3, Tryd.ntmps3
    go_wp2_with fail
    refine (reads_any s sz vs hr n (by have := HS.out; omega) _ HT.out).mono ?_
    rintro e w' ⟨rfl, hb⟩
    have HB := Lib.hid hb
    have HT2 := Lib.hid (HT.out.below hb HT.out.pos)
    clear hb
    go_wp2_with fail
    refine (sane_any _ HT2.out).mono ?_
    rintro e w'' ⟨rfl, hb⟩
    have HB2 := Lib.hid hb
    clear hb
    go_wp2_with fail
    go_ret
    exact ⟨rfl, (B1.out.trans (HB.out.mono B1.out.size)).trans (HB2.out.mono (Nat.le_trans B1.out.size HB.out.size))⟩
end Go.Proofs.YteihpeffaeahlaaDoor
