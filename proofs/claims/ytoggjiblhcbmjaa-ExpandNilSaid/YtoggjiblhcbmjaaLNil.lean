/- ExpandNil: the law's walk. -/
import Derived.Test.YtoggjiblhcbmjaaWD
namespace Go.Proofs.Ytoggjiblhcbmjaa
open Go.RowKit Go.Shelf
set_option maxRecDepth 100000
theorem law_nil (s : ByteArray) (cp : Bool) (_ : s.size ≤ maxLen) (w : World) : Calls Try.prog 6 #[.string s, .bool cp] w fun e w' => e = .returned (.bool true) ∧ Below w.heap.size w w' := by
  have HN := Lib.hid (fun W => expand_nil s cp W)
  have HS := Lib.hid (fun W => sane_any W)
  go_enter Try.func6, Try.ntmps6
  go_wp2_with fail
  refine (HN.out _).mono ?_
  rintro e w1 ⟨rfl, hb⟩
  have HB := Lib.hid hb
  clear hb
  go_wp2_with fail
  refine (HS.out _).mono ?_
  rintro e w2 ⟨rfl, hb⟩
  have HB2 := Lib.hid (HB.out.trans (hb.mono HB.out.size))
  clear hb
  go_wp2_with fail
  go_ret
  exact ⟨rfl, HB2.out⟩
end Go.Proofs.Ytoggjiblhcbmjaa
