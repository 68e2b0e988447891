/- The lines of a text. -/
import Derived.Test.YtfobbcddedcepaaDoorBF
import Derived.Lib.SplitLaws
import Derived.Lib.IndexLaws
import Derived.Lib.IndexBytes
namespace Go.Proofs.YtfobbcddedcepaaDoor
open Go.RowKit
set_option maxRecDepth 100000
set_option linter.unusedSimpArgs false
set_option linter.unusedVariables false
/-- Cut at line feeds. -/
def spl : List UInt8 → List (List UInt8)
  | [] => [[]]
  | c :: t => if c = 10 then [] :: spl t else match spl t with
    | [] => [[c]]
    | p :: ps => (c :: p) :: ps
theorem spl_ne (l : List UInt8) : spl l ≠ [] := by
  cases l with
  | nil => simp [spl]
  | cons c t =>
    unfold spl
    split
    · simp
    · split <;> simp
theorem ib_count (l : List UInt8) (h : Lib.indexByte l 10 = -1) : l.count 10 = 0 := by
  rw [List.count_eq_zero]
  intro hm
  obtain ⟨k, hk⟩ := List.getElem?_of_mem hm
  exact Lib.indexByte_none h k hk
theorem ib_nat (l : List UInt8) (h : Lib.indexByte l 10 ≠ -1) : ∃ i : Nat, Lib.indexByte l 10 = i := by
  have := Lib.indexByte_ge l 10
  exact ⟨(Lib.indexByte l 10).toNat, by omega⟩
theorem splK_spl : ∀ l : List UInt8, Lib.splitK [10] 0 (l.count 10) l = spl l
  | [] => rfl
  | c :: t => by
    have ih := splK_spl t
    by_cases hc : c = 10
    · subst hc
      rw [List.count_cons_self]
      unfold spl Lib.splitK
      rw [if_pos rfl, Lib.index_one]
      have e : Lib.indexByte (10 :: t) 10 = 0 := by simp [Lib.indexByte]
      rw [e, if_neg (by decide)]
      simp only [Int.toNat_zero, Nat.add_zero, List.take_zero, List.length_cons, List.length_nil, Nat.zero_add, List.drop_succ_cons, List.drop_zero]
      rw [ih]
    · rw [List.count_cons_of_ne (by simpa using hc)]
      have hs : spl (c :: t) = match spl t with | [] => [[c]] | p :: ps => (c :: p) :: ps := by
        conv => lhs; unfold spl
        rw [if_neg hc]
      rw [hs, ← ih]
      cases hk : t.count 10 with
      | zero => rfl
      | succ k =>
        have hne : Lib.indexByte t 10 ≠ -1 := fun e => by have := ib_count t e; omega
        obtain ⟨i, hi⟩ := ib_nat t hne
        have hi2 : Lib.indexByte (c :: t) 10 = ((i + 1 : Nat) : Int) := by
          unfold Lib.indexByte
          rw [if_neg (by simpa using hc), if_neg (by simpa using hne), hi]; omega
        conv => lhs; unfold Lib.splitK
        conv => rhs; unfold Lib.splitK
        rw [Lib.index_one, Lib.index_one, hi, hi2, if_neg (by simp [bne_iff_ne]; try omega), if_neg (by simp; try omega)]
        simp
/-- The parts of a text. -/
def parts (s : ByteArray) : List ByteArray := Lib.splitB ⟨#[10]⟩ 0 (Lib.countB s ⟨#[10]⟩) s
theorem countB_10 (s : ByteArray) : Lib.countB s ⟨#[10]⟩ = s.data.toList.count 10 := Lib.count_one 10 s.data.toList
theorem parts_data (s : ByteArray) : (parts s).map (·.data.toList) = spl s.data.toList := by
  unfold parts
  rw [Lib.splitB_data, countB_10]
  exact splK_spl _
theorem parts_len (s : ByteArray) : (parts s).length = Lib.countB s ⟨#[10]⟩ + 1 := Lib.splitB_all ⟨#[10]⟩ (by decide) 0 _ s rfl
theorem parts_le (s : ByteArray) : (parts s).length ≤ s.size + 1 := by
  rw [parts_len]
  have := Lib.countB_le ⟨#[10]⟩ (by decide) s.size s (Nat.le_refl _)
  omega
theorem bytes_ext {a b : ByteArray} (h : a.data.toList = b.data.toList) : a = b := by
  cases a; cases b; simp at h; subst h; rfl
/-- What Split leaves. -/
def SpP (s : ByteArray) (w : World) (e : Ending) (w' : World) : Prop :=
  e = .returned (.slice (some ⟨w.heap.size, 0, none⟩) (parts s).length (parts s).length) ∧ w' = w.alloc (.cells ((parts s).map Value.string).toArray 9)
theorem genSplit_call (s : ByteArray) (hs : s.size ≤ 1000000) (w : World) : Calls Tryd.prog 81 #[.string s, .string ⟨#[10]⟩, .int .i64 0, .int .i64 (-1)] w (SpP s w) := by
  have hle := Lib.countB_le ⟨#[10]⟩ (by decide) s.size s (Nat.le_refl _)
  have c := Any.strings_genSplit_core Tryd.lays221 (by kernel_rfl) s ⟨#[10]⟩ 0 (-1) (Lib.countB s ⟨#[10]⟩ + 1) w (by omega) (by decide) (Nat.zero_le _)
    (fun x c hx => (Tryd.strings_Index_one x 10 _).mono fun e w' ⟨he, hw⟩ => ⟨by rw [he]; show _ = Ending.returned (.int .i64 (Lib.index x.data.toList [10])); rw [Lib.index_one], hw⟩)
    ((Tryd.strings_Count_one s 10 w).mono fun e w' ⟨he, hw⟩ => ⟨by rw [he]; show _ = Ending.returned (.int .i64 (Lib.countB s ⟨#[10]⟩ : Nat)); rw [countB_10]; rfl, hw⟩) (by decide) (by decide) (by rw [if_pos (by decide)]; omega)
  rw [Nat.add_sub_cancel] at c
  have hl := parts_len s
  unfold parts at hl
  rw [hl] at c
  refine c.mono ?_
  rintro e w' ⟨rfl, rfl⟩
  refine ⟨by rw [parts_len], ?_⟩
  have e2 : Lib.cellsOf (parts s) (Lib.countB s ⟨#[10]⟩ + 1) = ((parts s).map Value.string).toArray := by rw [← parts_len]; exact Lib.cellsOf_full _
  unfold parts at e2 ⊢
  rw [e2]
  rfl
theorem split_call (s : ByteArray) (hs : s.size ≤ 1000000) (w : World) : Calls Tryd.prog 75 #[.string s, .string ⟨#[10]⟩] w (SpP s w) := by
  have HG := Lib.hid (genSplit_call s hs w)
  clear hs
  go_enter Tryd.func75, Tryd.ntmps75
  go_wp2_with fail
  refine HG.out.mono ?_
  rintro e w1 ⟨rfl, rfl⟩
  go_wp2_with fail
  go_ret
  exact ⟨rfl, rfl⟩
/-- The lines of a text. -/
def linesS (s : ByteArray) : List ByteArray := if ((parts s).getLast?.getD ⟨#[]⟩).data.toList = [] then (parts s).dropLast else parts s
end Go.Proofs.YtfobbcddedcepaaDoor
