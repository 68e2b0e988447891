/- Lower case of a text; the law RegisterRoman: its walk. -/
import Derived.Test.YtgfjgcebgfaciaaDoorW6
import Derived.Test.YtgfjgcebgfaciaaDoorLawLetters
import Derived.Shelf.Strings.CaseAny
namespace Go.Proofs.YtgfjgcebgfaciaaDoor
open Go.RowKit Go.Shelf
set_option maxRecDepth 100000
theorem lower_lo (c : UInt8) : Lib.lowerB c = loB c := by
  have h : ∀ n, n < 256 → Lib.lowerB (UInt8.ofNat n) = loB (UInt8.ofNat n) := by decide +kernel
  have := h c.toNat c.toNat_lt
  rwa [UInt8.ofNat_toNat] at this
theorem low_ascii (s : ByteArray) (hs : s.size ≤ 1000000) (ha : ∀ c ∈ s.data.toList, c.toNat < 128) (w : World) : LowCall s w := by
  refine (Tryd.strings_ToLower_ascii s w (by omega) (fun j b hj => ha b (List.mem_of_getElem? hj))).mono ?_
  rintro e w' ⟨rfl, hb⟩
  have e1 : Lib.toLowerA s.data.toList = s.data.toList.map loB := List.map_congr_left fun c _ => lower_lo c
  exact ⟨_, rfl, ⟨by rw [e1, List.length_map]; simp; omega, fun _ => e1⟩, hb⟩
theorem write_i (N : Nat) (h1 : 1 ≤ N) (h2 : N ≤ 39999) (w : World) (hT : TB w) :
    Calls Tryd.prog 7 #[.int .i64 N, .string ⟨#[105]⟩] w fun e w' => e = .returned (.tuple #[.string ⟨(rom N).toArray⟩, .int .i64 0]) ∧ Below w.heap.size w w' := by
  have := write_any N ⟨#[105]⟩ (by decide) w hT
  have hn : okN (N : Int) = true := by unfold okN; simp; omega
  rw [show writeS (N : Int) (⟨#[105]⟩ : ByteArray).data.toList = (rom N, 0) by
    unfold writeS
    rw [if_neg (by decide), if_neg (by rw [hn]; decide)]
    unfold txt; rw [if_neg (by omega)]
    show ((if N = 0 ∨ 39999 < N then dec N else rom N), (0 : Int)) = _
    rw [if_neg (by omega)]] at this
  exact this
theorem write_I (N : Nat) (h1 : 1 ≤ N) (h2 : N ≤ 39999) (w : World) (hT : TB w) :
    Calls Tryd.prog 7 #[.int .i64 N, .string ⟨#[73]⟩] w fun e w' => e = .returned (.tuple #[.string ⟨((rom N).map upB).toArray⟩, .int .i64 0]) ∧ Below w.heap.size w w' := by
  have := write_any N ⟨#[73]⟩ (by decide) w hT
  have hn : okN (N : Int) = true := by unfold okN; simp; omega
  rw [show writeS (N : Int) (⟨#[73]⟩ : ByteArray).data.toList = ((rom N).map upB, 0) by
    unfold writeS
    rw [if_neg (by decide), if_neg (by rw [hn]; decide)]
    unfold txt; rw [if_neg (by omega)]
    show ((if N = 0 ∨ 39999 < N then dec N else (rom N).map upB), (0 : Int)) = _
    rw [if_neg (by omega)]] at this
  exact this
theorem read_rom (N : Nat) (h1 : 1 ≤ N) (h2 : N ≤ 39999) (l : List UInt8) (h : l = rom N ∨ l = (rom N).map upB) (w : World) (hT : TB w) :
    Calls Tryd.prog 9 #[.string ⟨l.toArray⟩] w fun e w' => e = .returned (.tuple #[.int .i64 N, .int .i64 0]) ∧ Below w.heap.size w w' := by
  have hl : l.length ≤ 51 := by rcases h with rfl | rfl; exact rom_len N h2; rw [List.length_map]; exact rom_len N h2
  have := roman_read ⟨l.toArray⟩ w hT (low_ascii _ (by show l.toArray.size ≤ _; rw [List.size_toArray]; omega) (rom_ascii N l h) w)
  rwa [show romanS (⟨l.toArray⟩ : ByteArray).data.toList = ((N : Int), 0) from romanS_of l N h1 h2 h] at this
set_option maxHeartbeats 1000000 in
theorem roman_walk (A : Int) (w : World) (hT : TB w) :
    Calls Tryd.prog 4 #[.int .i64 A] w fun e w' => e = .returned (.bool true) ∧ Below w.heap.size w w' := by
  obtain ⟨a, ha, hA⟩ := umod A 39999 (by omega) (by omega)
  have HT := Lib.hid hT
  obtain ⟨n, hn⟩ : ∃ n : Nat, 1 + (a : Int) = n := ⟨1 + a, by omega⟩
  have hn1 : 1 ≤ n := by omega
  have hn2 : n ≤ 39999 := by omega
  have HW1 := Lib.hid (fun W h => write_i n hn1 hn2 W h)
  have HW2 := Lib.hid (fun W h => write_I n hn1 hn2 W h)
  have HR1 := Lib.hid (fun W h => read_rom n hn1 hn2 _ (.inl rfl) W h)
  have HR2 := Lib.hid (fun W h => read_rom n hn1 hn2 _ (.inr rfl) W h)
  have HN := Lib.hid hn
  clear hT hn
  go_enter Tryd.func4, Tryd.ntmps4
  go_wp2_with fail
  rw [HN.out]
  refine (HW1.out _ HT.out).mono ?_
  rintro e w1 ⟨rfl, hb⟩
  have T1 := Lib.hid (HT.out.below hb (Nat.le_refl _))
  have HB := Lib.hid hb
  clear hb
  go_wp2_with fail
  refine (HW2.out _ T1.out).mono ?_
  rintro e w2 ⟨rfl, hb⟩
  have T2 := Lib.hid (T1.out.below hb (Nat.le_refl _))
  have HB2 := Lib.hid (HB.out.trans (hb.mono HB.out.size))
  clear hb
  go_wp2_with fail
  refine (HR1.out _ T2.out).mono ?_
  rintro e w3 ⟨rfl, hb⟩
  have T3 := Lib.hid (T2.out.below hb (Nat.le_refl _))
  have HB3 := Lib.hid (HB2.out.trans (hb.mono HB2.out.size))
  clear hb
  go_wp2_with fail
  refine (HR2.out _ T3.out).mono ?_
  rintro e w4 ⟨rfl, hb⟩
  have T4 := Lib.hid (T3.out.below hb (Nat.le_refl _))
  have HB4 := Lib.hid (HB3.out.trans (hb.mono HB3.out.size))
  clear hb
  go_wp2_with fail
  refine (sane_any _ T4.out).mono ?_
  rintro e w5 ⟨rfl, hb⟩
  have HB5 := Lib.hid (HB4.out.trans (hb.mono HB4.out.size))
  clear hb
  go_wp2_with fail
  go_ret
  exact ⟨rfl, HB5.out⟩
end Go.Proofs.YtgfjgcebgfaciaaDoor
