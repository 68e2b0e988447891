/- A macro of no lines in a full store. -/
import Derived.Test.YtgpanlkcpnlejaaS8
import Derived.Test.YtgpanlkcpnlejaaD1
import Derived.Laws.AppendOwnNone
namespace Go.Proofs.Ytgpanlkcpnlejaa
open Go.RowKit Go.Maps
set_option maxRecDepth 100000
theorem validLines_nil (w : World) : Calls Try.prog 34 #[.slice none 0 0] w fun e w' => e = .returned (.bool true) ∧ w = w' := by
  have d0 : decide ((0 : Int) < 0) = false := by decide
  go_enter Try.func34, Try.ntmps34
  go_wp2_with fail
  go_loopg [7] 0 (fun k i wr => i = .int .i64 0 ∧ w = wr)
  case atStart => exact ⟨rfl, rfl⟩
  case round =>
    obtain ⟨rfl, rfl⟩ := hrel
    go_wp2_with fail
    go_ret
    exact ⟨rfl, rfl⟩
theorem cloneL_nil (w : World) : Calls Try.prog 49 #[.slice none 0 0] w fun e w' => e = .returned (.slice none 0 0) ∧ w = w' := by
  have he := fun (w : World) (o : Option Addr) (n c : Nat) => Lib.run_eql_slice_nil (P := Try.prog) w 23 69 o n c 0 0 Try.underlying23
  go_enter Try.func49, Try.ntmps49
  go_wp2_with fail
  go_ret
  exact ⟨rfl, rfl⟩
theorem copyLines_nil (w : World) : Calls Try.prog 36 #[.slice none 0 0] w fun e w' => e = .returned (.slice none 0 0) ∧ w = w' := by
  have HC := Lib.hid (fun W => cloneL_nil W)
  go_enter Try.func36, Try.ntmps36
  go_wp2_with fail
  refine (HC.out _).mono ?_
  rintro e w1 ⟨rfl, rfl⟩
  go_wp2_with fail
  go_loopg [10] 0 (fun k i wr => i = .int .i64 0 ∧ w = wr)
  case atStart => exact ⟨rfl, rfl⟩
  case round =>
    obtain ⟨rfl, rfl⟩ := hrel
    go_wp2_with fail
    go_ret
    exact ⟨rfl, rfl⟩

/-- A macro of no lines in a store that is full. -/
theorem macro_nil_full {sb mb : Nat} {L : List Reg} {E : Nat → En} {w : World} (h : SK sb mb L E w) (s : ByteArray) (hn : okNm s.data.toList = true) (hh : hasS L s.data.toList = false) (hl : L.length = 500) :
    Calls Try.prog 15 #[BP sb, .string s, .slice none 0 0] w fun e w' => e = .returned (.int .i64 9) ∧ Below w.heap.size w w' := by
  obtain ⟨i0, hi0, hz0, hz1, hz2⟩ := info_parts info_line
  have HF := Lib.hid (find_no h s hn hh)
  have HV := Lib.hid (fun W => validLines_nil W)
  have HC := Lib.hid (fun W => copyLines_nil W)
  have HP := Lib.hid (fun W (hW : Below w.heap.size w W) => put_full (h.below hW) s 2 ⟨#[]⟩ none 0 0 hn hh hl)
  have HL : Hid (∀ W, Below w.heap.size w W → Calls Try.prog 35 #[BP sb, .string s, .slice none 0 0, .slice none 0 0] W fun e w' => e = .returned (.int .i64 9) ∧ Below W.heap.size W w') := by
    refine Lib.hid (fun W hW => ?_)
    have HPW := Lib.hid (HP.out W hW)
    clear HP HF hW
    go_enter Try.func35, Try.ntmps35
    go_wp2_with fail
    refine (HC.out _).mono ?_
    rintro e w1 ⟨rfl, rfl⟩
    go_wp2_with (at_builtin; refine wpList_append_own_none rfl _ _ 23 rfl 0 69 i0 5 Try.underlying23 hi0 _ _ _ rfl (World.ownsRow_nil _ _ _ _) rfl ?_)
    refine HPW.out.mono ?_
    rintro e w2 ⟨rfl, hb⟩
    have HB := Lib.hid hb
    clear hb
    go_wp2_with fail
    go_ret
    exact ⟨rfl, HB.out⟩
  clear h hn hh hl HP
  go_enter Try.func15, Try.ntmps15
  go_wp2_with fail
  refine (HV.out _).mono ?_
  rintro e w1 ⟨rfl, rfl⟩
  go_wp2_with fail
  refine HF.out.mono ?_
  rintro e w2 ⟨rfl, hb⟩
  have HB := Lib.hid (hb.alloc hb.size (.cells #[.int .i64 0, .string ⟨#[]⟩, .slice none 0 0] 59))
  have hz := hb.size
  clear hb
  go_wp2_with fail
  refine (HL.out _ HB.out).mono ?_
  rintro e w3 ⟨rfl, hb⟩
  have HB3 := Lib.hid (HB.out.trans (hb.mono HB.out.size))
  clear hb
  go_wp2_with fail
  go_ret
  exact ⟨rfl, HB3.out⟩
end Go.Proofs.Ytgpanlkcpnlejaa
