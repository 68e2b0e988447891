/- The fixed example. -/
import Derived.Test.YtfobbcddedcepaaDoorBK
namespace Go.Proofs.YtfobbcddedcepaaDoor
open Go.RowKit
set_option maxRecDepth 100000
set_option linter.unusedSimpArgs false
set_option linter.unusedVariables false
abbrev lnT (s : ByteArray) : Ln := ⟨s, false, 0, 0, []⟩
abbrev sA0 : Fr := ⟨1, ⟨#[102]⟩, [lnT ⟨#[97]⟩, lnT ⟨#[98]⟩], [], 0⟩
abbrev sM0 : Fr := ⟨2, ⟨#[109]⟩, [lnT ⟨#[99]⟩], [], 0⟩
theorem sane_lines : linesS ⟨#[97, 10, 98, 10]⟩ = [⟨#[97]⟩, ⟨#[98]⟩] := by kernel_rfl
theorem sane_1 : fileS [] ⟨#[102]⟩ ⟨#[97, 10, 98, 10]⟩ = (0, [sA0]) := by
  unfold fileS okF fileFr
  rw [sane_lines]
  kernel_rfl
theorem sane_2 : nextS [sA0] = ((lnT ⟨#[97]⟩, 0), [bump sA0]) := by kernel_rfl
theorem sane_3 : macS [bump sA0] ⟨#[109]⟩ [lnT ⟨#[99]⟩] [] = (0, [bump sA0, sM0]) := by kernel_rfl
theorem sane_4 : nextS [bump sA0, sM0] = ((lnT ⟨#[99]⟩, 0), [bump sA0, bump sM0]) := by kernel_rfl
theorem sane_5 : nextS [bump sA0, bump sM0] = ((lnT ⟨#[98]⟩, 0), [bump (bump sA0)]) := by kernel_rfl
end Go.Proofs.YtfobbcddedcepaaDoor
