/- A book that is nil: each method's contract; the law RegisterNil: its walk. -/
import Derived.Test.YtedbdpklliaoaaaGreatDoorSane
namespace Go.Proofs.YtedbdpklliaoaaaGreatDoor
open Go.RowKit Go.Shelf
set_option maxRecDepth 100000
abbrev NB : Value := .pointer none
theorem made_nil (w : World) : Calls Tryz.prog 34 #[NB] w fun e w' => e = .returned (.bool false) ∧ w = w' := by
  go_enter Tryz.func34, Tryz.ntmps34
  go_wp2_with fail
  go_ret
  exact ⟨rfl, rfl⟩
/-- A register of the zero value. -/
abbrev R0 : Value := .agg #[.int .i64 0, .int .i64 0, .string ⟨#[]⟩]
theorem find_nil (s : ByteArray) (w : World) : Calls Tryz.prog 36 #[NB, .string s] w fun e w' => e = .returned (.tuple #[R0, .bool false, .int .i64 1]) ∧ Below w.heap.size w w' := by
  go_enter Tryz.func36, Tryz.ntmps36
  go_wp2_with fail
  refine (made_nil _).mono ?_
  rintro e w1 ⟨rfl, rfl⟩
  go_wp2_with fail
  refine bodyPost_ret (v := .tuple #[R0, .bool false, .int .i64 1]) (by simp [results, Tryz.results36, go_sem]) rfl ⟨rfl, (Below.refl _ _).alloc (Nat.le_refl _) _⟩
theorem value_nil (s : ByteArray) (w : World) : Calls Tryz.prog 13 #[NB, .string s] w fun e w' => e = .returned (.tuple #[.int .i64 0, .int .i64 1]) ∧ Below w.heap.size w w' := by
  go_enter Tryz.func13, Tryz.ntmps13
  go_wp2_with fail
  refine (find_nil _ _).mono ?_
  rintro e w1 ⟨rfl, hb⟩
  have HB := Lib.hid hb
  have hz := hb.size
  clear hb
  go_wp2_with fail
  go_ret2
  exact ⟨rfl, HB.out.alloc hz _⟩
theorem text_nil (s : ByteArray) (w : World) : Calls Tryz.prog 14 #[NB, .string s] w fun e w' => e = .returned (.tuple #[.string ⟨#[]⟩, .int .i64 1]) ∧ Below w.heap.size w w' := by
  go_enter Tryz.func14, Tryz.ntmps14
  go_wp2_with fail
  refine (find_nil _ _).mono ?_
  rintro e w1 ⟨rfl, hb⟩
  have HB := Lib.hid hb
  have hz := hb.size
  clear hb
  go_wp2_with fail
  go_ret2
  exact ⟨rfl, HB.out.alloc hz _⟩
theorem formatOf_nil (s : ByteArray) (w : World) : Calls Tryz.prog 15 #[NB, .string s] w fun e w' => e = .returned (.tuple #[.string ⟨#[]⟩, .int .i64 1]) ∧ Below w.heap.size w w' := by
  go_enter Tryz.func15, Tryz.ntmps15
  go_wp2_with fail
  refine (find_nil _ _).mono ?_
  rintro e w1 ⟨rfl, hb⟩
  have HB := Lib.hid hb
  have hz := hb.size
  clear hb
  go_wp2_with fail
  go_ret2
  exact ⟨rfl, HB.out.alloc hz _⟩
theorem move_nil (s : ByteArray) (u : Bool) (w : World) : Calls Tryz.prog 16 #[NB, .string s, .bool u] w fun e w' => e = .returned (.tuple #[.int .i64 0, .int .i64 1]) ∧ Below w.heap.size w w' := by
  go_enter Tryz.func16, Tryz.ntmps16
  go_wp2_with fail
  refine (find_nil _ _).mono ?_
  rintro e w1 ⟨rfl, hb⟩
  have HB := Lib.hid hb
  have hz := hb.size
  clear hb
  go_wp2_with fail
  go_ret2
  exact ⟨rfl, HB.out.alloc hz _⟩
theorem remove_nil (s : ByteArray) (w : World) : Calls Tryz.prog 20 #[NB, .string s] w fun e w' => e = .returned (.int .i64 1) ∧ Below w.heap.size w w' := by
  go_enter Tryz.func20, Tryz.ntmps20
  go_wp2_with fail
  refine (find_nil _ _).mono ?_
  rintro e w1 ⟨rfl, hb⟩
  have HB := Lib.hid hb
  have hz := hb.size
  clear hb
  go_wp2_with fail
  go_ret
  exact ⟨rfl, HB.out.alloc hz _⟩
theorem rename_nil (s t : ByteArray) (w : World) : Calls Tryz.prog 21 #[NB, .string s, .string t] w fun e w' => e = .returned (.int .i64 1) ∧ Below w.heap.size w w' := by
  go_enter Tryz.func21, Tryz.ntmps21
  go_wp2_with fail
  refine (find_nil _ _).mono ?_
  rintro e w1 ⟨rfl, hb⟩
  have HB := Lib.hid hb
  have hz := hb.size
  clear hb
  go_wp2_with fail
  go_ret
  exact ⟨rfl, HB.out.alloc hz _⟩
theorem has_nil (s : ByteArray) (w : World) : Calls Tryz.prog 22 #[NB, .string s] w fun e w' => e = .returned (.bool false) ∧ Below w.heap.size w w' := by
  go_enter Tryz.func22, Tryz.ntmps22
  go_wp2_with fail
  refine (find_nil _ _).mono ?_
  rintro e w1 ⟨rfl, hb⟩
  have HB := Lib.hid hb
  have hz := hb.size
  clear hb
  go_wp2_with fail
  go_ret
  exact ⟨rfl, HB.out.alloc hz _⟩
theorem names_nil (w : World) : Calls Tryz.prog 23 #[NB] w fun e w' => e = .returned (.slice none 0 0) ∧ w = w' := by
  go_enter Tryz.func23, Tryz.ntmps23
  go_wp2_with fail
  refine (made_nil _).mono ?_
  rintro e w1 ⟨rfl, rfl⟩
  go_wp2_with fail
  go_ret
  exact ⟨rfl, rfl⟩
theorem copy_nil (w : World) : Calls Tryz.prog 11 #[NB] w fun e w' => e = .returned NB ∧ w = w' := by
  go_enter Tryz.func11, Tryz.ntmps11
  go_wp2_with fail
  refine (made_nil _).mono ?_
  rintro e w1 ⟨rfl, rfl⟩
  go_wp2_with fail
  go_ret
  exact ⟨rfl, rfl⟩
theorem change_nil (s : ByteArray) (x : Int) (f : Value) (w : World) : Calls Tryz.prog 38 #[NB, .string s, .int .i64 x, f] w fun e w' => e = .returned (.int .i64 1) ∧ Below w.heap.size w w' := by
  go_enter Tryz.func38, Tryz.ntmps38
  go_wp2_with fail
  refine (find_nil _ _).mono ?_
  rintro e w1 ⟨rfl, hb⟩
  have HB := Lib.hid hb
  have hz := hb.size
  clear hb
  go_wp2_with fail
  go_ret
  exact ⟨rfl, HB.out.alloc hz _⟩
theorem set_nil (s : ByteArray) (n : Int) (w : World) : Calls Tryz.prog 17 #[NB, .string s, .int .i64 n] w fun e w' => e = .returned (.int .i64 1) ∧ Below w.heap.size w w' := by
  go_enter Tryz.func17, Tryz.ntmps17
  go_wp2_with fail
  refine (rangeError_any _ _).mono ?_
  rintro e w1 ⟨rfl, rfl⟩
  go_wp2_with fail
  refine (change_nil _ _ _ _).mono ?_
  rintro e w2 ⟨rfl, hb⟩
  have HB := Lib.hid (((Below.refl w.heap.size w).alloc (Nat.le_refl _) (.cells #[.int .i64 n] 3)).trans (hb.mono (by simp)))
  clear hb
  go_wp2_with fail
  go_ret
  exact ⟨rfl, HB.out⟩
theorem step_nil (s : ByteArray) (n : Int) (w : World) : Calls Tryz.prog 18 #[NB, .string s, .int .i64 n] w fun e w' => e = .returned (.int .i64 1) ∧ Below w.heap.size w w' := by
  go_enter Tryz.func18, Tryz.ntmps18
  go_wp2_with fail
  refine (rangeError_any _ _).mono ?_
  rintro e w1 ⟨rfl, rfl⟩
  go_wp2_with fail
  refine (change_nil _ _ _ _).mono ?_
  rintro e w2 ⟨rfl, hb⟩
  have HB := Lib.hid (((Below.refl w.heap.size w).alloc (Nat.le_refl _) (.cells #[.int .i64 n] 3)).trans (hb.mono (by simp)))
  clear hb
  go_wp2_with fail
  go_ret
  exact ⟨rfl, HB.out⟩
theorem format_nil (s f : ByteArray) (hf : f.size ≤ 9223372036854775807) (w : World) : Calls Tryz.prog 19 #[NB, .string s, .string f] w fun e w' => e = .returned (.int .i64 1) ∧ Below w.heap.size w w' := by
  have HF := Lib.hid (fun W => formError_any f W hf)
  clear hf
  go_enter Tryz.func19, Tryz.ntmps19
  go_wp2_with fail
  refine (HF.out _).mono ?_
  rintro e w1 ⟨rfl, hb1⟩
  have HB1 := Lib.hid (((Below.refl w.heap.size w).alloc (Nat.le_refl _) (.cells #[.string f] 9)).trans (hb1.mono (by simp)))
  obtain ⟨hc, hfz⟩ : (∀ b o, b < (w.alloc (.cells #[.string f] 9)).heap.size → w1.cell? ⟨b, o, none⟩ = (w.alloc (.cells #[.string f] 9)).cell? ⟨b, o, none⟩) ∧ True := ⟨fun b o h => hb1.cell (p := ⟨b, o, none⟩) h, trivial⟩
  have hcell : w1.cell? ⟨w.heap.size, 0, none⟩ = some (.string f) := by rw [hc _ _ (by simp)]; simp [go_sem]
  clear hb1 hc hfz
  go_wp2_with fail
  refine (change_nil _ _ _ _).mono ?_
  rintro e w2 ⟨rfl, hb⟩
  have HB := Lib.hid (HB1.out.trans (hb.mono HB1.out.size))
  clear hb
  go_wp2_with fail
  go_ret
  exact ⟨rfl, HB.out⟩
end Go.Proofs.YtedbdpklliaoaaaGreatDoor
