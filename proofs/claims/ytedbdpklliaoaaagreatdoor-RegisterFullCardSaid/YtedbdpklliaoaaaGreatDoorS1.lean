/- What the laid tables hold, and the library's contracts in this layer's words. -/
import Derived.Test.YtedbdpklliaoaaaGreatDoorW2
import Derived.Test.YtedbdpklliaoaaaGreatDoorShelf
import Derived.Shelf.Strings.SlTrimAscii
import Derived.Lib.SmallJoins
import Derived.Lib.LaidTab
namespace Go.Proofs.YtedbdpklliaoaaaGreatDoor
open Go.RowKit Go.Shelf
set_option maxRecDepth 100000
theorem gP10 : Tryz.prog.globalNamed "internal/strconv.uint64pow10" = some 5 := by kernel_rfl
theorem gNum : Tryz.prog.globalNamed "frisket/register.numerals" = some 0 := by kernel_rfl
/-- The cells of the table of numerals. -/
def numCs : List Value := nums.flatMap fun x => [.int .i64 x.1, .string ⟨x.2.toArray⟩]
def numA : Array Value := numCs.toArray
/-- What the program's own table and the table of powers hold. -/
structure TB (w : World) : Prop where
  num : ∃ t fr, w.heap[(0 : Nat)]? = some (.cells numA t fr)
  p10 : Lib.TabIs Tryz.prog w "internal/strconv.uint64pow10" .u64 Lib.pow10Tab
theorem TB.pos {w : World} (h : TB w) : 0 < w.heap.size := by
  obtain ⟨t, fr, hh⟩ := h.num
  exact (Array.getElem?_eq_some_iff.1 hh).1
theorem TB.below {B : Nat} {w w' : World} (h : TB w) (k : Below B w w') (hB : w.heap.size ≤ B) : TB w' := by
  have hp := h.pos
  refine ⟨?_, Joins.var_stays gP10 h.p10 k hB⟩
  obtain ⟨t, fr, hh⟩ := h.num
  exact ⟨t, fr, (k.block _ (by omega)).trans hh⟩
theorem below_grow (w : World) (os : Array Obj) : Below w.heap.size w (Sort.grow w os) :=
  ⟨rfl, rfl, rfl, by simp, fun k hk => by unfold Sort.grow; exact Array.getElem?_append_left hk⟩
theorem decDigits_dec (n : Nat) : Lib.decDigits n = dec n := by
  induction n using Nat.strongRecOn with
  | _ n ih =>
    rw [Lib.decDigits]
    split
    · rename_i h; rw [dec_small n h]; rfl
    · rename_i h; rw [dec_big n h, ih (n / 10) (by omega)]; rfl
theorem itoa_dec (n : Nat) : Lib.itoa n = dec n := by
  unfold Lib.itoa
  rw [if_neg (by omega), Int.toNat_natCast, decDigits_dec]
theorem itoa_call (n : Nat) (hn : n ≤ 9223372036854775807) (w : World) (h : TB w) :
    Calls Tryz.prog 62 #[.int .i64 n] w fun e w' => e = .returned (.string ⟨(dec n).toArray⟩) ∧ Below w.heap.size w w' := by
  refine (Tryz.strconv_Itoa n (by omega) (by omega) w h.p10).mono ?_
  rintro e w' ⟨rfl, k, os, rfl⟩
  exact ⟨by rw [itoa_dec], (below_drewN (Below.refl _ _) k).trans (by exact below_grow (w.drewN k) os)⟩
/- Trim of a format. -/
def digSet : List UInt8 := [48, 49, 50, 51, 52, 53, 54, 55, 56, 57]
theorem dig_has (c : UInt8) : digSet.contains c = isDg c := by
  have h : ∀ n, n < 256 → digSet.contains (UInt8.ofNat n) = isDg (UInt8.ofNat n) := by decide +kernel
  have := h c.toNat c.toNat_lt
  rwa [UInt8.ofNat_toNat] at this
theorem dropWhile_nil (p : UInt8 → Bool) (l : List UInt8) : l.dropWhile p = [] ↔ l.all p = true := by
  induction l with
  | nil => simp
  | cons a l ih =>
    rw [List.dropWhile]
    cases h : p a with
    | true => simp [h, ih]
    | false => simp [h]
theorem all_rev (p : UInt8 → Bool) (l : List UInt8) : l.reverse.all p = l.all p := by
  rw [Bool.eq_iff_iff]; simp
theorem dropWhile_last (p : UInt8 → Bool) (l : List UInt8) (h : l.dropWhile p ≠ []) : (l.dropWhile p).all p = false := by
  induction l with
  | nil => simp at h
  | cons a l ih =>
    rw [List.dropWhile] at h ⊢
    cases h1 : p a with
    | true => simp only [h1] at h ⊢; exact ih h
    | false => simp [h1]
theorem trim_nil (l : List UInt8) : Lib.trimS l digSet = [] ↔ l.all isDg = true := by
  unfold Lib.trimS Lib.trimLeftS Lib.trimRightS
  have e : (fun x : UInt8 => digSet.contains x) = isDg := funext dig_has
  rw [e, dropWhile_nil, all_rev]
  constructor
  · intro h
    by_cases h2 : l.reverse.dropWhile isDg = []
    · rw [← all_rev]; exact (dropWhile_nil _ _).1 h2
    · rw [dropWhile_last _ _ h2] at h; cases h
  · intro h
    rw [(dropWhile_nil isDg l.reverse).2 (by rw [all_rev]; exact h)]; rfl
theorem trim_call (s : ByteArray) (w : World) (hs : s.size ≤ 9223372036854775807) :
    Calls Tryz.prog 64 #[.string s, .string ⟨#[48, 49, 50, 51, 52, 53, 54, 55, 56, 57]⟩] w fun e w' => e = .returned (.string ⟨(Lib.trimS s.data.toList digSet).toArray⟩) ∧ Below w.heap.size w w' :=
  Any.strings_Trim_laid Tryz.lays160 (by kernel_rfl) s ⟨#[48, 49, 50, 51, 52, 53, 54, 55, 56, 57]⟩ w hs (by decide) (ascii_of_all (by decide))
/- Upper case of small letters and digits. -/
theorem upper_up (c : UInt8) : Lib.upperB c = upB c := by
  have h : ∀ n, n < 256 → Lib.upperB (UInt8.ofNat n) = upB (UInt8.ofNat n) := by decide +kernel
  have := h c.toNat c.toNat_lt
  rwa [UInt8.ofNat_toNat] at this
theorem upper_call (l : List UInt8) (hl : l.length ≤ 1000) (ha : ∀ c ∈ l, c.toNat < 128) (w : World) :
    Calls Tryz.prog 60 #[.string ⟨l.toArray⟩] w fun e w' => e = .returned (.string ⟨(l.map upB).toArray⟩) ∧ Below w.heap.size w w' := by
  have := Tryz.strings_ToUpper_ascii ⟨l.toArray⟩ w (by show l.toArray.size ≤ _; rw [List.size_toArray]; omega) (fun j b hj => ha b (List.mem_of_getElem? hj))
  unfold Lib.toUpperA at this
  rwa [show (⟨l.toArray⟩ : ByteArray).data.toList.map Lib.upperB = l.map upB from List.map_congr_left fun c _ => upper_up c] at this
/- Repeat of a zero. -/
theorem repeat0 (c : Nat) : Lib.repeatL [48] c = List.replicate c 48 := by
  induction c with
  | zero => rfl
  | succ c ih => rw [Lib.repeatL, ih]; rfl
theorem repeat_call (c : Nat) (hc : c ≤ 1000) (w : World) :
    Calls Tryz.prog 63 #[.string ⟨#[48]⟩, .int .i64 c] w fun e w' => e = .returned (.string ⟨(List.replicate c 48).toArray⟩) ∧ Below w.heap.size w w' := by
  have := Tryz.strings_Repeat ⟨#[48]⟩ c w (by omega) (by show 1 * c ≤ _; omega)
  rwa [repeat0] at this
/- The Builder. -/
theorem bld_write (B b : Nat) (l : List UInt8) (s : ByteArray) (w : World) (h : Lib.IsBuilderF 88 5 B b (Lib.byteCells l) w) (hlen : l.length + s.size ≤ 140737488355328) (hB : B ≤ w.heap.size) :
    Calls Tryz.prog 69 #[.pointer (some ⟨b, 0, none⟩), .string s] w fun e w' => e = .returned (.tuple #[.int .i64 s.size, .nilIface]) ∧ Lib.IsBuilderF 88 5 B b (Lib.byteCells (l ++ s.data.toList)) w' ∧ Below B w w' ∧ Lib.OthersKept 5 (some b) w w' := by
  have := Any.Builder_WriteString_k (P := Tryz.prog) (ρ := Tryz.lays105_ren) { Tryz.lays105 with } Tryz.Builder_Extra_105 B b (Lib.byteCells l) s w h (by rw [Lib.byteCells_length]; exact hlen) hB
  refine this.mono ?_
  rintro e w' ⟨rfl, h1, h2, h3⟩
  refine ⟨rfl, .inr ?_, h2, h3⟩
  have e : Lib.byteCells (l ++ s.data.toList) = Lib.byteCells l ++ Lib.strCells s := by simp [Lib.byteCells, Lib.strCells]
  rw [e]; exact h1
theorem bld_string (B b : Nat) (l : List UInt8) (w : World) (h : Lib.IsBuilderF 88 5 B b (Lib.byteCells l) w) (hB : B ≤ w.heap.size) :
    Calls Tryz.prog 70 #[.pointer (some ⟨b, 0, none⟩)] w fun e w' => e = .returned (.string ⟨l.toArray⟩) ∧ Below B w w' :=
  (Tryz.Builder_String_any_f B b l w h hB).mono fun _ _ h => ⟨h.1, h.2.2⟩
end Go.Proofs.YtedbdpklliaoaaaGreatDoor
