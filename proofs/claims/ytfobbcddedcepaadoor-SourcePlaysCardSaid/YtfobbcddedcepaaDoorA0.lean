/- What a call leaves; texts. -/
import Derived.Test.YtfobbcddedcepaaDoorProg
import Derived.WalkKit
import Derived.WalkLawsBesides
import Derived.WalkSpells
import Derived.IntWalk
import Derived.Deep.LoopGhost
import Derived.Laws.IdiomStrings
import Derived.Laws.Rows
import Derived.Laws.AppendOwn
import Derived.Lib.Hide
import Derived.Lib.ConvBytes
import Derived.LoopTactic
import Derived.Deep.QuietTactic
import Derived.BigQuiet
import Derived.StillTailTactics
import Derived.Deep.RegionWith
import Derived.Deep.DeepCutAuto
import Derived.Outline
import Derived.Test.YtfobbcddedcepaaDoorShelf
import Derived.Below
import Derived.Laws.Strings
import Derived.Laws.AppendOwnNone
namespace Go.Proofs.YtfobbcddedcepaaDoor
open Go.RowKit
set_option maxRecDepth 100000
set_option linter.unusedSimpArgs false
set_option linter.unusedVariables false
theorem byte_at (s : ByteArray) (k : Nat) (h : k < s.size) : s.data.toList[k]? = some s[k] := by
  rw [List.getElem?_eq_getElem (by simpa using h)]; rfl
/-- Of the blocks that were there, those of S alone may have turned. -/
structure Kept (S : Nat → Prop) (w w' : World) : Prop where
  os : w'.os = w.os
  tape : w'.tape = w.tape
  output : w'.output = w.output
  size : w.heap.size ≤ w'.heap.size
  block : ∀ k, k < w.heap.size → ¬ S k → w'.heap[k]? = w.heap[k]?
theorem Kept.refl (S : Nat → Prop) (w : World) : Kept S w w := ⟨rfl, rfl, rfl, Nat.le_refl _, fun _ _ _ => rfl⟩
theorem Kept.trans {S : Nat → Prop} {u v w : World} (h : Kept S u v) (k : Kept S v w) : Kept S u w :=
  ⟨k.os.trans h.os, k.tape.trans h.tape, k.output.trans h.output, Nat.le_trans h.size k.size, fun i hi hs => (k.block i (Nat.lt_of_lt_of_le hi h.size) hs).trans (h.block i hi hs)⟩
theorem Kept.of {S : Nat → Prop} {w w' : World} (h : Below w.heap.size w w') : Kept S w w' := ⟨h.os, h.tape, h.output, h.size, fun k hk _ => h.block k hk⟩
theorem Kept.to {S : Nat → Prop} {w w' : World} {B : Nat} (h : Kept S w w') (hB : B ≤ w.heap.size) (hS : ∀ k, S k → B ≤ k) : Below B w w' :=
  ⟨h.os, h.tape, h.output, h.size, fun k hk => h.block k (by omega) (fun hs => by have := hS k hs; omega)⟩
theorem Kept.mono {S T : Nat → Prop} {w w' : World} (h : Kept S w w') (hT : ∀ k, S k → T k) : Kept T w w' := ⟨h.os, h.tape, h.output, h.size, fun k hk hs => h.block k hk fun c => hs (hT k c)⟩
theorem Kept.grown {b : Nat} {w w' : World} (h : w.grownBy w' (some b)) : Kept (· = b) w w' :=
  ⟨h.os, h.tape, h.output, h.size, fun k hk hs => h.block k hk (by simpa using hs)⟩
theorem Kept.below {S : Nat → Prop} {u w w' : World} (h : Kept S u w) (k : Below w.heap.size w w') : Kept S u w' := h.trans (.of k)
theorem Kept.drew {S : Nat → Prop} {u w : World} (h : Kept S u w) : Kept S u w.drew := ⟨h.os, h.tape, h.output, h.size, h.block⟩
theorem lt_of_block {w : World} {b : Nat} {o : Obj} (h : w.heap[b]? = some o) : b < w.heap.size := (Array.getElem?_eq_some_iff.1 h).1
theorem Kept.setCell {S : Nat → Prop} {u w : World} (h : Kept S u w) {p : Addr} (hp : S p.block) (x : Value) : Kept S u (w.setCell p x) :=
  h.trans ⟨rfl, rfl, rfl, by simp [World.setCell], fun k _ hk => Below.heap_setCell _ _ _ _ (fun e => hk (by rw [e]; exact hp))⟩
theorem Kept.fresh {S : Nat → Prop} {u v w : World} {g : Nat} (h : Below u.heap.size u v) (k : Kept (fun x => S x ∨ x = g) v w) (hg : u.heap.size ≤ g) : Kept S u w :=
  ⟨k.os.trans h.os, k.tape.trans h.tape, k.output.trans h.output, Nat.le_trans h.size k.size, fun i hi hs => (k.block i (Nat.lt_of_lt_of_le hi h.size) (by rintro (e | e); exact hs e; omega)).trans (h.block i hi)⟩
abbrev BP (b : Nat) : Value := .pointer (some ⟨b, 0, none⟩)
def I64 (a : Int) : Prop := -9223372036854775808 ≤ a ∧ a ≤ 9223372036854775807
/-- A text of a line. -/
def okTx (l : List UInt8) : Bool := decide (l.length ≤ 2000) && !decide (0 ≤ Lib.indexByte l 10)
theorem contains_call (s : ByteArray) (w : World) : Calls Tryd.prog 87 #[.string s, .string ⟨#[10]⟩] w fun e w' => e = .returned (.bool (decide (0 ≤ Lib.indexByte s.data.toList 10))) ∧ w = w' :=
  (Tryd.strings_Contains_one s 10 w).mono fun _ _ ⟨h, k⟩ => ⟨h, k.symm⟩
theorem validText_any (s : ByteArray) (w : World) : Calls Tryd.prog 83 #[.string s] w fun e w' => e = .returned (.bool (okTx s.data.toList)) ∧ w = w' := by
  have HE := Lib.hid (show okTx s.data.toList = (decide (s.size ≤ 2000) && !decide (0 ≤ Lib.indexByte s.data.toList 10)) by unfold okTx; rw [show s.data.toList.length = s.size by simp])
  have HC := Lib.hid (fun W => contains_call s W)
  generalize decide (0 ≤ Lib.indexByte s.data.toList 10) = t at HE HC
  by_cases h1 : s.size ≤ 2000
  · have d1 : decide ((s.size : Int) ≤ 2000) = true := decide_eq_true (by omega)
    have HX := Lib.hid (show (decide (s.size ≤ 2000) && !t) = !t by rw [decide_eq_true h1]; rfl)
    clear h1
    go_enter Tryd.func83, Tryd.ntmps83
    go_wp2_with fail
    refine (HC.out _).mono ?_
    rintro e w1 ⟨rfl, rfl⟩
    go_wp2_with fail
    go_ret
    rw [HE.out, HX.out]
    exact ⟨rfl, rfl⟩
  · have d1 : decide ((s.size : Int) ≤ 2000) = false := decide_eq_false (by omega)
    have HX := Lib.hid (show (decide (s.size ≤ 2000) && !t) = false by rw [decide_eq_false h1]; rfl)
    clear h1
    go_enter Tryd.func83, Tryd.ntmps83
    go_wp2_with fail
    go_ret
    rw [HE.out, HX.out]
    exact ⟨rfl, rfl⟩
end Go.Proofs.YtfobbcddedcepaaDoor
