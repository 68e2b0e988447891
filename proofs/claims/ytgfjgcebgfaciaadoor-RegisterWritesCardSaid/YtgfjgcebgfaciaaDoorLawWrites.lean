/- The law RegisterWrites: its walk. -/
import Derived.Test.YtgfjgcebgfaciaaDoorV5
import Derived.Test.YtgfjgcebgfaciaaDoorLawRoman
import Derived.Lib.MapLaws
import Derived.Lib.TrimU
import Derived.Lib.RuneBytes
namespace Go.Proofs.YtgfjgcebgfaciaaDoor
open Go.RowKit Go.Shelf
set_option maxRecDepth 100000
theorem encodeRune_le (r : Int) : (Lib.encodeRune r).length ≤ 4 := by
  unfold Lib.encodeRune Lib.encodeRuneZ
  rw [List.length_map]
  (repeat' split) <;> simp
theorem decode_step (l : List UInt8) (_h : l ≠ []) : 1 ≤ (Lib.decodeL l).2 := Lib.decodeL_width l
theorem mapD_le (f : Int → Int) : ∀ (n : Nat) (l : List UInt8), l.length ≤ n → (Lib.mapD f l).length ≤ 4 * l.length := by
  intro n
  induction n with
  | zero => intro l hl; obtain rfl : l = [] := List.length_eq_zero_iff.1 (by omega); simp [Lib.mapD_nil]
  | succ n ih =>
    intro l hl
    by_cases hn : l = []
    · subst hn; simp [Lib.mapD_nil]
    · rw [Lib.mapD_step f l hn, List.length_append]
      have h1 := decode_step l hn
      have hl0 : 0 < l.length := List.length_pos_iff.2 hn
      have h2 := ih (l.drop (Lib.decodeL l).2) (by rw [List.length_drop]; omega)
      rw [List.length_drop] at h2
      have h3 := encodeRune_le (f (Lib.decodeL l).1)
      split
      · omega
      · simp; omega
/-- What the unicode tables hold. -/
structure TC (w : World) : Prop where
  cv : Lib.CaseVar 1 Lib.caseA w
  u8 : Lib.Utf8Tabs 3 4 w
theorem low_any (s : ByteArray) (hs : s.size ≤ 1000000) (w : World) (hC : TC w) : LowCall s w := by
  refine (Tryd.strings_ToLower_any s w (by omega) hC.cv hC.u8).mono ?_
  rintro e w' ⟨rfl, hb⟩
  refine ⟨_, rfl, ⟨?_, fun ha => ?_⟩, hb⟩
  · have := mapD_le Lib.toLowerU _ s.data.toList (Nat.le_refl _)
    have h2 : s.data.toList.length = s.size := by simp
    unfold Lib.toLowerD; omega
  · rw [Lib.toLowerD_ascii _ ha]
    exact List.map_congr_left fun c _ => lower_lo c
theorem TC.below {w w' : World} (h : TC w) (k : Below w.heap.size w w') : TC w' := ⟨Lib.CaseVar_below h.cv k, Utf8Tabs_below h.u8 k⟩
set_option maxHeartbeats 1000000 in
theorem writes_sane (n : Int) (f s : ByteArray) (h : 200 < s.size ∨ 50 < f.size) (w : World) (hT : TB w) :
    Calls Tryd.prog 3 #[.int .i64 n, .string f, .string s] w fun e w' => e = .returned (.bool true) ∧ Below w.heap.size w w' := by
  have HS := Lib.hid (sane_any w hT)
  clear hT
  by_cases h1 : 200 < s.size
  · have d1 : decide ((200 : Int) < (s.size : Int)) = true := decide_eq_true (by omega)
    clear h h1
    go_enter Tryd.func3, Tryd.ntmps3
    go_wp2_with fail
    refine HS.out.mono ?_
    rintro e w1 ⟨rfl, hb⟩
    have HB := Lib.hid hb
    clear hb
    go_wp2_with fail
    go_ret
    exact ⟨rfl, HB.out⟩
  · have d1 : decide ((200 : Int) < (s.size : Int)) = false := decide_eq_false (by omega)
    have d2 : decide ((50 : Int) < (f.size : Int)) = true := decide_eq_true (by omega)
    clear h h1
    go_enter Tryd.func3, Tryd.ntmps3
    go_wp2_with fail
    refine HS.out.mono ?_
    rintro e w1 ⟨rfl, hb⟩
    have HB := Lib.hid hb
    clear hb
    go_wp2_with fail
    go_ret
    exact ⟨rfl, HB.out⟩
set_option maxHeartbeats 1000000 in
theorem writes_walk (n : Int) (f s : ByteArray) (w : World) (hT : TB w) (hC : TC w) :
    Calls Tryd.prog 3 #[.int .i64 n, .string f, .string s] w fun e w' => e = .returned (.bool true) ∧ Below w.heap.size w w' := by
  by_cases hh : 200 < s.size ∨ 50 < f.size
  · exact writes_sane n f s hh w hT
  have hs : s.size ≤ 200 := by omega
  have hf : f.size ≤ 50 := by omega
  have d1 : decide ((200 : Int) < (s.size : Int)) = false := decide_eq_false (by omega)
  have d2 : decide ((50 : Int) < (f.size : Int)) = false := decide_eq_false (by omega)
  have HT := Lib.hid hT
  have HC := Lib.hid hC
  have HW1 := Lib.hid (write_any n f (by omega) w hT)
  have HW2 := Lib.hid (fun W => rWrite_any n f (by omega) W)
  have HR1 := Lib.hid (fun W (hT : TB W) (hC : TC W) => roman_read s W hT (low_any s (by omega) W hC))
  have HR2 := Lib.hid (fun W => rRoman_any s hs W)
  unfold rroRes at HR2
  obtain ⟨x, hx⟩ : ∃ x : ByteArray, x = ⟨(writeS n f.data.toList).1.toArray⟩ := ⟨_, rfl⟩
  rw [← hx] at HW1 HW2
  obtain ⟨e1, he1⟩ : ∃ e1 : Int, e1 = (writeS n f.data.toList).2 := ⟨_, rfl⟩
  rw [← he1] at HW1 HW2
  obtain ⟨y, hy⟩ : ∃ y : Int, y = (romanS s.data.toList).1 := ⟨_, rfl⟩
  rw [← hy] at HR1 HR2
  obtain ⟨e2, he2⟩ : ∃ e2 : Int, e2 = (romanS s.data.toList).2 := ⟨_, rfl⟩
  rw [← he2] at HR1 HR2
  clear hh hT hC hx he1 hy he2 hs hf
  go_enter Tryd.func3, Tryd.ntmps3
  go_wp2_with fail
  refine HW1.out.mono ?_
  rintro e w1 ⟨rfl, hb⟩
  have T1 := Lib.hid (HT.out.below hb (Nat.le_refl _))
  have C1 := Lib.hid (HC.out.below hb)
  have HB := Lib.hid hb
  clear hb
  go_wp2_with fail
  refine (HW2.out _).mono ?_
  rintro e w2 ⟨rfl, hb⟩
  have T2 := Lib.hid (T1.out.below hb (Nat.le_refl _))
  have C2 := Lib.hid (C1.out.below hb)
  have HB2 := Lib.hid (HB.out.trans (hb.mono HB.out.size))
  clear hb
  go_wp2_with fail
  refine (HR1.out _ T2.out C2.out).mono ?_
  rintro e w3 ⟨rfl, hb⟩
  have T3 := Lib.hid (T2.out.below hb (Nat.le_refl _))
  have HB3 := Lib.hid (HB2.out.trans (hb.mono HB2.out.size))
  clear hb
  go_wp2_with fail
  refine (HR2.out _).mono ?_
  rintro e w4 ⟨rfl, hb⟩
  have T4 := Lib.hid (T3.out.below hb (Nat.le_refl _))
  have HB4 := Lib.hid (HB3.out.trans (hb.mono HB3.out.size))
  clear hb
  go_wp2_with fail
  refine (sane_any _ T4.out).mono ?_
  rintro e w5 ⟨rfl, hb⟩
  have HB5 := Lib.hid (HB4.out.trans (hb.mono HB4.out.size))
  clear hb
  go_wp2_with fail
  go_ret
  exact ⟨rfl, HB5.out⟩
end Go.Proofs.YtgfjgcebgfaciaaDoor
