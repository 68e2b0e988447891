/- A store that is nil or was not made: what each deed says. -/
import Derived.Test.YtgpanlkcpnlejaaE4
set_option linter.unusedSimpArgs false
set_option linter.unusedVariables false
namespace Go.Proofs.Ytgpanlkcpnlejaa
open Go.RowKit Go.Maps
set_option maxRecDepth 100000
inductive No (w : World) : Value → Prop
  | nil : No w (.pointer none)
  | zero (b : Nat) (h : w.heap[b]? = some (.cells #[.map none] 50 (0, 0))) : No w (BP b)
theorem No.below {w w' : World} {p : Value} (h : No w p) (k : Below w.heap.size w w') : No w' p := by
  cases h with
  | nil => exact .nil
  | zero b h => exact .zero b ((k.block b (lt_of_block h)).trans h)
theorem made_no {p : Value} {w : World} (h : No w p) : Calls Try.prog 44 #[p] w fun e w' => e = .returned (.bool false) ∧ w = w' := by
  have hmn := fun (w : World) (r : Option Nat) => run_neq_map_nil (P := Try.prog) w 48 9 63 r Try.underlying48
  cases h with
  | nil =>
    go_enter Try.func44, Try.ntmps44
    go_wp2_with fail
    go_ret
    exact ⟨rfl, rfl⟩
  | zero b h =>
    have hc : w.cell? ⟨b, 0, none⟩ = some (.map none) := by simp [World.cell?, h]
    clear h
    go_enter Try.func44, Try.ntmps44
    go_wp2_with fail
    go_ret
    exact ⟨rfl, rfl⟩
theorem find_none {p : Value} {w : World} (h : No w p) (s : ByteArray) (v : Bool) : Calls Try.prog 29 #[p, .string s, .bool v] w fun e w' => e = .returned (.tuple #[ZE, .int .i64 1]) ∧ Below w.heap.size w w' := by
  have hb0 : Below w.heap.size w (w.alloc ZO) := (Below.refl _ _).alloc (Nat.le_refl _) _
  have H := Lib.hid (h.below hb0)
  have HB0 := Lib.hid hb0
  clear h hb0
  go_enter Try.func29, Try.ntmps29
  go_wp2_with fail
  refine (made_no H.out).mono ?_
  rintro e w1 ⟨rfl, rfl⟩
  go_wp2_with fail
  refine find_end rfl rfl rfl ?_ ⟨rfl, ?_⟩
  · have hblk : (w.alloc (.cells #[.int .i64 0, .string ⟨#[]⟩, .slice none 0 0] 59)).heap[w.heap.size]? = some (.cells #[.int .i64 0, .string ⟨#[]⟩, .slice none 0 0] 59 (0, 0)) := heap_alloc_new _ _
    simp only [World.setCell, Array.getElem?_modify, hblk]
  · repeat (with_reducible refine Below.setCell ?_ (Nat.le_refl w.heap.size) _)
    exact HB0.out
theorem get_none {p : Value} {w : World} (h : No w p) (s : ByteArray) : Calls Try.prog 32 #[p, .string s] w fun e w' => e = .returned (.tuple #[.pointer none, .int .i64 1]) ∧ w = w' := by
  have HM := Lib.hid (made_no h)
  clear h
  go_enter Try.func32, Try.ntmps32
  go_wp2_with fail
  refine HM.out.mono ?_
  rintro e w1 ⟨rfl, rfl⟩
  go_wp2_with fail
  go_ret2
  exact ⟨rfl, rfl⟩
abbrev E1R (w : World) : Ending → World → Prop := fun e w' => e = .returned (.int .i64 1) ∧ Below w.heap.size w w'
theorem Define_none {p : Value} {w : World} (h : No w p) (s t : ByteArray) : Calls Try.prog 11 #[p, .string s, .string t] w (E1R w) := by
  have HV := Lib.hid (fun W => validText_any t W)
  have HF := Lib.hid (fun v => find_none h s v)
  clear h
  go_enter Try.func11, Try.ntmps11
  go_wp2_with fail
  refine (HV.out _).mono ?_
  rintro e w1 ⟨rfl, rfl⟩
  go_wp2_with fail
  refine (HF.out _).mono ?_
  rintro e w2 ⟨rfl, hb⟩
  have HB := Lib.hid hb
  have hz := hb.size
  clear hb
  go_wp2_with fail
  go_ret
  exact ⟨rfl, HB.out.alloc hz _⟩
theorem Append_none {p : Value} {w : World} (h : No w p) (s t : ByteArray) : Calls Try.prog 12 #[p, .string s, .string t] w (E1R w) := by
  have HV := Lib.hid (fun W => validText_any t W)
  have HF := Lib.hid (fun v => find_none h s v)
  clear h
  go_enter Try.func12, Try.ntmps12
  go_wp2_with fail
  refine (HV.out _).mono ?_
  rintro e w1 ⟨rfl, rfl⟩
  go_wp2_with fail
  refine (HF.out _).mono ?_
  rintro e w2 ⟨rfl, hb⟩
  have HB := Lib.hid hb
  have hz := hb.size
  clear hb
  go_wp2_with fail
  go_ret
  exact ⟨rfl, HB.out.alloc hz _⟩
theorem Macro_none {P : TypeId → Nat → Prop} {p : Value} {w : World} {A : Option Addr} {n c : Nat} {ls : List Ln} (h : No w p) (s : ByteArray) (hl : LnsAt P w A n ls) (hP : ∀ e b, P e b → b < w.heap.size) (hn9 : (n : Int) ≤ 9223372036854775807) : Calls Try.prog 15 #[p, .string s, .slice A n c] w (E1R w) := by
  have HV := Lib.hid (validLines_any (c := c) hl hP hn9)
  have HF := Lib.hid (fun W (hW : Below w.heap.size w W) v => find_none (h.below hW) s v)
  generalize ls.all okLn = t at HV
  clear h hl hP
  go_enter Try.func15, Try.ntmps15
  go_wp2_with fail
  refine HV.out.mono ?_
  rintro e w1 ⟨rfl, hb1⟩
  have HB1 := Lib.hid hb1
  clear hb1
  go_wp2_with fail
  refine (HF.out _ HB1.out _).mono ?_
  rintro e w2 ⟨rfl, hb⟩
  have HB := Lib.hid (HB1.out.trans (hb.mono HB1.out.size))
  have hz := hb.size
  clear hb
  go_wp2_with fail
  go_ret
  exact ⟨rfl, HB.out.alloc HB.out.size _⟩
theorem Add_none {P : TypeId → Nat → Prop} {p : Value} {w : World} {A : Option Addr} {n c : Nat} {ls : List Ln} (h : No w p) (s : ByteArray) (hl : LnsAt P w A n ls) (hP : ∀ e b, P e b → b < w.heap.size) (hn9 : (n : Int) ≤ 9223372036854775807) : Calls Try.prog 16 #[p, .string s, .slice A n c] w (E1R w) := by
  have HV := Lib.hid (validLines_any (c := c) hl hP hn9)
  have HF := Lib.hid (fun W (hW : Below w.heap.size w W) v => find_none (h.below hW) s v)
  generalize ls.all okLn = t at HV
  clear h hl hP
  go_enter Try.func16, Try.ntmps16
  go_wp2_with fail
  refine HV.out.mono ?_
  rintro e w1 ⟨rfl, hb1⟩
  have HB1 := Lib.hid hb1
  clear hb1
  go_wp2_with fail
  refine (HF.out _ HB1.out _).mono ?_
  rintro e w2 ⟨rfl, hb⟩
  have HB := Lib.hid (HB1.out.trans (hb.mono HB1.out.size))
  have hz := hb.size
  clear hb
  go_wp2_with fail
  go_ret
  exact ⟨rfl, HB.out.alloc HB.out.size _⟩
theorem Remove_none {p : Value} {w : World} (h : No w p) (s : ByteArray) : Calls Try.prog 23 #[p, .string s] w fun e w' => e = .returned (.int .i64 1) ∧ Below w.heap.size w w' := by
  have HF := Lib.hid (fun v => find_none h s v)
  clear h
  go_enter Try.func23, Try.ntmps23
  go_wp2_with fail
  refine (HF.out _).mono ?_
  rintro e w1 ⟨rfl, hb⟩
  have hz := hb.size
  have HB := Lib.hid hb
  clear hb
  go_wp2_with fail
  go_ret
  exact ⟨rfl, HB.out.alloc hz _⟩
theorem Kind_none {p : Value} {w : World} (h : No w p) (s : ByteArray) : Calls Try.prog 22 #[p, .string s] w fun e w' => e = .returned (.int .i64 0) ∧ Below w.heap.size w w' := by
  have HF := Lib.hid (fun v => find_none h s v)
  clear h
  go_enter Try.func22, Try.ntmps22
  go_wp2_with fail
  refine (HF.out _).mono ?_
  rintro e w1 ⟨rfl, hb⟩
  have hz := hb.size
  have HB := Lib.hid hb
  clear hb
  go_wp2_with fail
  go_ret
  exact ⟨rfl, HB.out.alloc hz _⟩
theorem Rename_none {p : Value} {w : World} (h : No w p) (s t : ByteArray) : Calls Try.prog 28 #[p, .string s, .string t] w fun e w' => e = .returned (.int .i64 1) ∧ w = w' := by
  have HG := Lib.hid (get_none h s)
  clear h
  go_enter Try.func28, Try.ntmps28
  go_wp2_with fail
  refine HG.out.mono ?_
  rintro e w1 ⟨rfl, rfl⟩
  go_wp2_with fail
  go_ret
  exact ⟨rfl, rfl⟩
theorem Alias_none {p : Value} {w : World} (h : No w p) (t s : ByteArray) : Calls Try.prog 20 #[p, .string t, .string s] w fun e w' => e = .returned (.int .i64 1) ∧ w = w' := by
  have HG := Lib.hid (get_none h s)
  clear h
  go_enter Try.func20, Try.ntmps20
  go_wp2_with fail
  refine HG.out.mono ?_
  rintro e w1 ⟨rfl, rfl⟩
  go_wp2_with fail
  go_ret
  exact ⟨rfl, rfl⟩
theorem Chop_none {p : Value} {w : World} (h : No w p) (s : ByteArray) : Calls Try.prog 40 #[p, .string s] w fun e w' => e = .returned (.int .i64 1) ∧ w = w' := by
  have HG := Lib.hid (get_none h s)
  clear h
  go_enter Try.func40, Try.ntmps40
  go_wp2_with fail
  refine HG.out.mono ?_
  rintro e w1 ⟨rfl, rfl⟩
  go_wp2_with fail
  go_ret
  exact ⟨rfl, rfl⟩
theorem Part_none {p : Value} {w : World} (h : No w p) (s : ByteArray) (a b : Int) : Calls Try.prog 24 #[p, .string s, .int .i64 a, .int .i64 b] w fun e w' => e = .returned (.int .i64 1) ∧ w = w' := by
  have HG := Lib.hid (get_none h s)
  clear h
  go_enter Try.func24, Try.ntmps24
  go_wp2_with fail
  refine HG.out.mono ?_
  rintro e w1 ⟨rfl, rfl⟩
  go_wp2_with fail
  go_ret
  exact ⟨rfl, rfl⟩
theorem Text_none {p : Value} {w : World} (h : No w p) (s : ByteArray) : Calls Try.prog 13 #[p, .string s] w fun e w' => e = .returned (.tuple #[.string ⟨#[]⟩, .int .i64 1]) ∧ w = w' := by
  have HG := Lib.hid (get_none h s)
  clear h
  go_enter Try.func13, Try.ntmps13
  go_wp2_with fail
  refine HG.out.mono ?_
  rintro e w1 ⟨rfl, rfl⟩
  go_wp2_with fail
  go_ret2
  exact ⟨rfl, rfl⟩
theorem Lines_none {p : Value} {w : World} (h : No w p) (s : ByteArray) : Calls Try.prog 17 #[p, .string s] w fun e w' => e = .returned (.tuple #[.slice none 0 0, .int .i64 1]) ∧ w = w' := by
  have HG := Lib.hid (get_none h s)
  clear h
  go_enter Try.func17, Try.ntmps17
  go_wp2_with fail
  refine HG.out.mono ?_
  rintro e w1 ⟨rfl, rfl⟩
  go_wp2_with fail
  go_ret2
  exact ⟨rfl, rfl⟩
theorem Length_none {p : Value} {w : World} (h : No w p) (s : ByteArray) : Calls Try.prog 25 #[p, .string s] w fun e w' => e = .returned (.tuple #[.int .i64 0, .int .i64 1]) ∧ w = w' := by
  have HG := Lib.hid (get_none h s)
  clear h
  go_enter Try.func25, Try.ntmps25
  go_wp2_with fail
  refine HG.out.mono ?_
  rintro e w1 ⟨rfl, rfl⟩
  go_wp2_with fail
  go_ret2
  exact ⟨rfl, rfl⟩
theorem Names_none {p : Value} {w : World} (h : No w p) : Calls Try.prog 26 #[p] w fun e w' => e = .returned (.slice none 0 0) ∧ w = w' := by
  have HM := Lib.hid (made_no h)
  clear h
  go_enter Try.func26, Try.ntmps26
  go_wp2_with fail
  refine HM.out.mono ?_
  rintro e w1 ⟨rfl, rfl⟩
  go_wp2_with fail
  go_ret
  exact ⟨rfl, rfl⟩
theorem Copy_none {p : Value} {w : World} (h : No w p) : Calls Try.prog 27 #[p] w fun e w' => e = .returned (.pointer none) ∧ w = w' := by
  have HM := Lib.hid (made_no h)
  clear h
  go_enter Try.func27, Try.ntmps27
  go_wp2_with fail
  refine HM.out.mono ?_
  rintro e w1 ⟨rfl, rfl⟩
  go_wp2_with fail
  go_ret
  exact ⟨rfl, rfl⟩
end Go.Proofs.Ytgpanlkcpnlejaa
