/- A deed: it comes to what it names. -/
import Derived.Test.YtgpanlkcpnlejaaE2
set_option linter.unusedSimpArgs false
set_option linter.unusedVariables false
namespace Go.Proofs.Ytgpanlkcpnlejaa
open Go.RowKit Go.Maps
set_option maxRecDepth 100000
/-- A deed as a value. -/
abbrev DV (k : Int) (nm ot tx : ByteArray) (A : Option Addr) (n c : Nat) (a b : Int) : Value := .agg #[.int .i64 k, .string nm, .string ot, .string tx, .slice A n c, .int .i64 a, .int .i64 b]
/-- A number comes back, and what is left. -/
abbrev Nb (R : Int → World → Prop) : Ending → World → Prop := fun e w' => ∃ x, e = .returned (.int .i64 x) ∧ R x w'
theorem do_0 {p : Value} {nm ot tx : ByteArray} {A : Option Addr} {n c : Nat} {a b : Int} {w : World} {R : Int → World → Prop} (h : ∀ W, Below w.heap.size w W → Calls Try.prog 11 #[p, .string nm, .string tx] W (Nb R)) :
    Calls Try.prog 21 #[p, DV 0 nm ot tx A n c a b] w (Nb R) := by
  have H := Lib.hid h
  have HB := Lib.hid ((Below.refl w.heap.size w).alloc (Nat.le_refl _) (.cells #[.int .i64 0, .string nm, .string ot, .string tx, .slice A n c, .int .i64 a, .int .i64 b] 42))
  clear h
  go_enter Try.func21, Try.ntmps21
  go_wp2_with fail
  refine (H.out _ HB.out).mono ?_
  rintro e w1 ⟨x, rfl, hr⟩
  have HR := Lib.hid hr
  clear hr
  go_wp2_with fail
  go_ret
  exact ⟨x, rfl, HR.out⟩
theorem do_1 {p : Value} {nm ot tx : ByteArray} {A : Option Addr} {n c : Nat} {a b : Int} {w : World} {R : Int → World → Prop} (h : ∀ W, Below w.heap.size w W → Calls Try.prog 12 #[p, .string nm, .string tx] W (Nb R)) :
    Calls Try.prog 21 #[p, DV 1 nm ot tx A n c a b] w (Nb R) := by
  have H := Lib.hid h
  have HB := Lib.hid ((Below.refl w.heap.size w).alloc (Nat.le_refl _) (.cells #[.int .i64 1, .string nm, .string ot, .string tx, .slice A n c, .int .i64 a, .int .i64 b] 42))
  clear h
  go_enter Try.func21, Try.ntmps21
  go_wp2_with fail
  refine (H.out _ HB.out).mono ?_
  rintro e w1 ⟨x, rfl, hr⟩
  have HR := Lib.hid hr
  clear hr
  go_wp2_with fail
  go_ret
  exact ⟨x, rfl, HR.out⟩
theorem do_2 {p : Value} {nm ot tx : ByteArray} {A : Option Addr} {n c : Nat} {a b : Int} {w : World} {R : Int → World → Prop} (h : ∀ W, Below w.heap.size w W → Calls Try.prog 15 #[p, .string nm, .slice A n c] W (Nb R)) :
    Calls Try.prog 21 #[p, DV 2 nm ot tx A n c a b] w (Nb R) := by
  have H := Lib.hid h
  have HB := Lib.hid ((Below.refl w.heap.size w).alloc (Nat.le_refl _) (.cells #[.int .i64 2, .string nm, .string ot, .string tx, .slice A n c, .int .i64 a, .int .i64 b] 42))
  clear h
  go_enter Try.func21, Try.ntmps21
  go_wp2_with fail
  refine (H.out _ HB.out).mono ?_
  rintro e w1 ⟨x, rfl, hr⟩
  have HR := Lib.hid hr
  clear hr
  go_wp2_with fail
  go_ret
  exact ⟨x, rfl, HR.out⟩
theorem do_3 {p : Value} {nm ot tx : ByteArray} {A : Option Addr} {n c : Nat} {a b : Int} {w : World} {R : Int → World → Prop} (h : ∀ W, Below w.heap.size w W → Calls Try.prog 16 #[p, .string nm, .slice A n c] W (Nb R)) :
    Calls Try.prog 21 #[p, DV 3 nm ot tx A n c a b] w (Nb R) := by
  have H := Lib.hid h
  have HB := Lib.hid ((Below.refl w.heap.size w).alloc (Nat.le_refl _) (.cells #[.int .i64 3, .string nm, .string ot, .string tx, .slice A n c, .int .i64 a, .int .i64 b] 42))
  clear h
  go_enter Try.func21, Try.ntmps21
  go_wp2_with fail
  refine (H.out _ HB.out).mono ?_
  rintro e w1 ⟨x, rfl, hr⟩
  have HR := Lib.hid hr
  clear hr
  go_wp2_with fail
  go_ret
  exact ⟨x, rfl, HR.out⟩
theorem do_4 {p : Value} {nm ot tx : ByteArray} {A : Option Addr} {n c : Nat} {a b : Int} {w : World} {R : Int → World → Prop} (h : ∀ W, Below w.heap.size w W → Calls Try.prog 23 #[p, .string nm] W (Nb R)) :
    Calls Try.prog 21 #[p, DV 4 nm ot tx A n c a b] w (Nb R) := by
  have H := Lib.hid h
  have HB := Lib.hid ((Below.refl w.heap.size w).alloc (Nat.le_refl _) (.cells #[.int .i64 4, .string nm, .string ot, .string tx, .slice A n c, .int .i64 a, .int .i64 b] 42))
  clear h
  go_enter Try.func21, Try.ntmps21
  go_wp2_with fail
  refine (H.out _ HB.out).mono ?_
  rintro e w1 ⟨x, rfl, hr⟩
  have HR := Lib.hid hr
  clear hr
  go_wp2_with fail
  go_ret
  exact ⟨x, rfl, HR.out⟩
theorem do_5 {p : Value} {nm ot tx : ByteArray} {A : Option Addr} {n c : Nat} {a b : Int} {w : World} {R : Int → World → Prop} (h : ∀ W, Below w.heap.size w W → Calls Try.prog 28 #[p, .string nm, .string ot] W (Nb R)) :
    Calls Try.prog 21 #[p, DV 5 nm ot tx A n c a b] w (Nb R) := by
  have H := Lib.hid h
  have HB := Lib.hid ((Below.refl w.heap.size w).alloc (Nat.le_refl _) (.cells #[.int .i64 5, .string nm, .string ot, .string tx, .slice A n c, .int .i64 a, .int .i64 b] 42))
  clear h
  go_enter Try.func21, Try.ntmps21
  go_wp2_with fail
  refine (H.out _ HB.out).mono ?_
  rintro e w1 ⟨x, rfl, hr⟩
  have HR := Lib.hid hr
  clear hr
  go_wp2_with fail
  go_ret
  exact ⟨x, rfl, HR.out⟩
theorem do_6 {p : Value} {nm ot tx : ByteArray} {A : Option Addr} {n c : Nat} {a b : Int} {w : World} {R : Int → World → Prop} (h : ∀ W, Below w.heap.size w W → Calls Try.prog 20 #[p, .string nm, .string ot] W (Nb R)) :
    Calls Try.prog 21 #[p, DV 6 nm ot tx A n c a b] w (Nb R) := by
  have H := Lib.hid h
  have HB := Lib.hid ((Below.refl w.heap.size w).alloc (Nat.le_refl _) (.cells #[.int .i64 6, .string nm, .string ot, .string tx, .slice A n c, .int .i64 a, .int .i64 b] 42))
  clear h
  go_enter Try.func21, Try.ntmps21
  go_wp2_with fail
  refine (H.out _ HB.out).mono ?_
  rintro e w1 ⟨x, rfl, hr⟩
  have HR := Lib.hid hr
  clear hr
  go_wp2_with fail
  go_ret
  exact ⟨x, rfl, HR.out⟩
theorem do_7 {p : Value} {nm ot tx : ByteArray} {A : Option Addr} {n c : Nat} {a b : Int} {w : World} {R : Int → World → Prop} (h : ∀ W, Below w.heap.size w W → Calls Try.prog 40 #[p, .string nm] W (Nb R)) :
    Calls Try.prog 21 #[p, DV 7 nm ot tx A n c a b] w (Nb R) := by
  have H := Lib.hid h
  have HB := Lib.hid ((Below.refl w.heap.size w).alloc (Nat.le_refl _) (.cells #[.int .i64 7, .string nm, .string ot, .string tx, .slice A n c, .int .i64 a, .int .i64 b] 42))
  clear h
  go_enter Try.func21, Try.ntmps21
  go_wp2_with fail
  refine (H.out _ HB.out).mono ?_
  rintro e w1 ⟨x, rfl, hr⟩
  have HR := Lib.hid hr
  clear hr
  go_wp2_with fail
  go_ret
  exact ⟨x, rfl, HR.out⟩
theorem do_8 {p : Value} {nm ot tx : ByteArray} {A : Option Addr} {n c : Nat} {a b : Int} {w : World} {R : Int → World → Prop} (h : ∀ W, Below w.heap.size w W → Calls Try.prog 24 #[p, .string nm, .int .i64 a, .int .i64 b] W (Nb R)) :
    Calls Try.prog 21 #[p, DV 8 nm ot tx A n c a b] w (Nb R) := by
  have H := Lib.hid h
  have HB := Lib.hid ((Below.refl w.heap.size w).alloc (Nat.le_refl _) (.cells #[.int .i64 8, .string nm, .string ot, .string tx, .slice A n c, .int .i64 a, .int .i64 b] 42))
  clear h
  go_enter Try.func21, Try.ntmps21
  go_wp2_with fail
  refine (H.out _ HB.out).mono ?_
  rintro e w1 ⟨x, rfl, hr⟩
  have HR := Lib.hid hr
  clear hr
  go_wp2_with fail
  go_ret
  exact ⟨x, rfl, HR.out⟩
end Go.Proofs.Ytgpanlkcpnlejaa
