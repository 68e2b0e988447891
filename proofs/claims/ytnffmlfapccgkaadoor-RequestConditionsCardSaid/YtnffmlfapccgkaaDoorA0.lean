/- Texts by their bytes; the library on them. -/
import Derived.Test.YtnffmlfapccgkaaDoorProg
import Derived.WalkKit
import Derived.WalkLawsBesides
import Derived.WalkSpells
import Derived.IntWalk
import Derived.Deep.LoopGhost
import Derived.Laws.IdiomStrings
import Derived.Laws.Rows
import Derived.Laws.AppendOwn
import Derived.Lib.Hide
import Derived.Lib.ConvBytes
import Derived.LoopTactic
import Derived.Deep.QuietTactic
import Derived.BigQuiet
import Derived.StillTailTactics
import Derived.Deep.RegionWith
import Derived.Deep.DeepCutAuto
import Derived.Outline
import Derived.Test.YtnffmlfapccgkaaDoorShelf
import Derived.Below
import Derived.Laws.Strings
import Derived.Laws.AppendOwnNone
import Derived.Lib.Bytealg
import Derived.Lib.IndexLaws
import Derived.Lib.SmallJoins
import Derived.Lib.SlTrimSet
import Derived.Lib.IndexAny
namespace Go.Proofs.YtnffmlfapccgkaaDoor
open Go.RowKit
set_option maxRecDepth 100000
set_option linter.unusedSimpArgs false
set_option linter.unusedVariables false
/-- A text by its bytes. -/
def bs (l : List UInt8) : ByteArray := ⟨l.toArray⟩
theorem bs_list (l : List UInt8) : (bs l).data.toList = l := rfl
theorem bs_size (l : List UInt8) : (bs l).size = l.length := by show l.toArray.size = _; simp
theorem bs_self (s : ByteArray) : bs s.data.toList = s := by cases s; rfl
theorem bs_inj {a b : List UInt8} (h : bs a = bs b) : a = b := by rw [← bs_list a, h, bs_list]
theorem bs_ext (s : ByteArray) (a b : Nat) (hb : b ≤ s.size) : s.extract a b = bs ((s.data.toList.take b).drop a) := by
  apply ByteArray.ext
  rw [ByteArray.data_extract]
  apply Array.toList_inj.1
  simp only [bs, Array.toList_extract, List.extract_eq_take_drop]
  rw [List.take_drop]
  by_cases h : a ≤ b
  · rw [show a + (b - a) = b by omega]
  · rw [List.drop_eq_nil_of_le (by simp; omega), List.drop_eq_nil_of_le (by simp; omega)]
theorem byte_at (s : ByteArray) (k : Nat) (h : k < s.size) : s.data.toList[k]? = some s[k] := by
  rw [List.getElem?_eq_getElem (by simpa using h)]; rfl
theorem str_of (s : ByteArray) (l : List UInt8) (h : s.data.toList = l) : s = bs l := by rw [← bs_self s, h]
theorem ext1 (s : ByteArray) (c : UInt8) (t : List UInt8) (h : s.data.toList = c :: t) : s.extract 1 s.size = bs t := by
  rw [bs_ext s 1 s.size (Nat.le_refl _), h]
  have : s.size = t.length + 1 := by rw [← bs_self s, bs_size, h]; simp
  rw [this]; simp
theorem sz_of (s : ByteArray) (l : List UInt8) (h : s.data.toList = l) : s.size = l.length := by rw [← bs_self s, bs_size, h]
theorem at_of (s : ByteArray) (l : List UInt8) (h : s.data.toList = l) (k : Nat) (hk : k < s.size) (hl : k < l.length) : s[k] = l[k] := by subst h; rfl
theorem nb (c d : UInt8) (h : c ≠ d) : ((c.toNat : Int) == (d.toNat : Int)) = false := by
  have : c.toNat ≠ d.toNat := fun e => h (UInt8.toNat_inj.1 e)
  simp; omega
/-- A piece's first block. -/
theorem bel0 (w : World) (o : Obj) : Below w.heap.size w (w.alloc o) := (Below.refl w.heap.size w).alloc (Nat.le_refl _) o
theorem ix_call (s : ByteArray) (c : UInt8) (w : World) : Calls Tryd.prog 57 #[.string s, .int .u8 (c.toNat : Int)] w fun e w' => e = .returned (.int .i64 (Lib.indexByte s.data.toList c)) ∧ w = w' := by
  have := Tryd.strings_IndexByte s (c.toNat : Int) w
  rw [show ((c.toNat : Int)).toNat.toUInt8 = c by rw [Int.toNat_natCast]; exact UInt8.ofNat_toNat] at this
  exact this.mono fun _ _ h => ⟨h.1, h.2.symm⟩
/-- A text of a line. -/
def okTx (l : List UInt8) : Bool := decide (l.length ≤ 2000) && !decide (0 ≤ Lib.indexByte l 10)
theorem contains_call (s : ByteArray) (w : World) : Calls Tryd.prog 40 #[.string s, .string ⟨#[10]⟩] w fun e w' => e = .returned (.bool (decide (0 ≤ Lib.indexByte s.data.toList 10))) ∧ w = w' :=
  (Tryd.strings_Contains_one s 10 w).mono fun _ _ ⟨h, k⟩ => ⟨h, k.symm⟩
theorem validText_any (s : ByteArray) (w : World) : Calls Tryd.prog 28 #[.string s] w fun e w' => e = .returned (.bool (okTx s.data.toList)) ∧ w = w' := by
  have HE := Lib.hid (show okTx s.data.toList = (decide (s.size ≤ 2000) && !decide (0 ≤ Lib.indexByte s.data.toList 10)) by unfold okTx; rw [show s.data.toList.length = s.size by simp])
  have HC := Lib.hid (fun W => contains_call s W)
  generalize decide (0 ≤ Lib.indexByte s.data.toList 10) = t at HE HC
  by_cases h1 : s.size ≤ 2000
  · have d1 : decide ((s.size : Int) ≤ 2000) = true := decide_eq_true (by omega)
    have HX := Lib.hid (show (decide (s.size ≤ 2000) && !t) = !t by rw [decide_eq_true h1]; rfl)
    clear h1
    go_enter Tryd.func28, Tryd.ntmps28
    go_wp2_with fail
    refine (HC.out _).mono ?_
    rintro e w1 ⟨rfl, rfl⟩
    go_wp2_with fail
    go_ret
    rw [HE.out, HX.out]
    exact ⟨rfl, rfl⟩
  · have d1 : decide ((s.size : Int) ≤ 2000) = false := decide_eq_false (by omega)
    have HX := Lib.hid (show (decide (s.size ≤ 2000) && !t) = false by rw [decide_eq_false h1]; rfl)
    clear h1
    go_enter Tryd.func28, Tryd.ntmps28
    go_wp2_with fail
    go_ret
    rw [HE.out, HX.out]
    exact ⟨rfl, rfl⟩
end Go.Proofs.YtnffmlfapccgkaaDoor
