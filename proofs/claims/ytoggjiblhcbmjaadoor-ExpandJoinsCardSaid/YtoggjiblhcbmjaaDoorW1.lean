/- The code's escapes: the names' bytes, the steps. -/
import Derived.Test.YtoggjiblhcbmjaaDoorK2
import Derived.Test.YtoggjiblhcbmjaaDoorM1
import Derived.Test.YtoggjiblhcbmjaaDoorShelf
namespace Go.Proofs.YtoggjiblhcbmjaaDoor
open Go.RowKit Go.Shelf
set_option maxRecDepth 100000
theorem ix_call (s : ByteArray) (c : UInt8) (w : World) : Calls Tryd.prog 59 #[.string s, .int .u8 (c.toNat : Int)] w fun e w' => e = .returned (.int .i64 (Lib.indexByte s.data.toList c)) ∧ w = w' := by
  have := Tryd.strings_IndexByte s (c.toNat : Int) w
  rw [show ((c.toNat : Int)).toNat.toUInt8 = c by rw [Int.toNat_natCast]; exact UInt8.ofNat_toNat] at this
  exact this.mono fun _ _ h => ⟨h.1, h.2.symm⟩
theorem ix92 (s : ByteArray) (w : World) : Calls Tryd.prog 59 #[.string s, .int .u8 92] w fun e w' => e = .returned (.int .i64 (Lib.indexByte s.data.toList 92)) ∧ w = w' := ix_call s 92 w
theorem ix93 (s : ByteArray) (w : World) : Calls Tryd.prog 59 #[.string s, .int .u8 93] w fun e w' => e = .returned (.int .i64 (Lib.indexByte s.data.toList 93)) ∧ w = w' := ix_call s 93 w
theorem inSh_eq (c : UInt8) : inSh c = (decide (33 ≤ (c.toNat : Int)) && decide ((c.toNat : Int) ≤ 126) && decide (Lib.indexByte [40, 91, 43, 45] c < 0)) := by
  have h : ∀ n, n < 256 → inSh (UInt8.ofNat n) = (decide (33 ≤ ((UInt8.ofNat n).toNat : Int)) && decide (((UInt8.ofNat n).toNat : Int) ≤ 126) && decide (Lib.indexByte [40, 91, 43, 45] (UInt8.ofNat n) < 0)) := by decide +kernel
  have := h c.toNat c.toNat_lt
  rwa [UInt8.ofNat_toNat] at this
theorem inSh_any (c : UInt8) (w : World) : Calls Tryd.prog 80 #[.int .u8 (c.toNat : Int)] w fun e w' => e = .returned (.bool (inSh c)) ∧ w = w' := by
  have HE := Lib.hid (inSh_eq c)
  have HC := Lib.hid (fun W => ix_call ⟨#[40, 91, 43, 45]⟩ c W)
  rw [show (⟨#[40, 91, 43, 45]⟩ : ByteArray).data.toList = [40, 91, 43, 45] from rfl] at HC
  have hb := c.toNat_lt
  obtain ⟨k, hk⟩ : ∃ k, k = c.toNat := ⟨_, rfl⟩
  generalize Lib.indexByte [40, 91, 43, 45] c = i at HE HC
  rw [← hk] at HE HC hb ⊢
  clear hk
  cases h1 : decide (33 ≤ (k : Int)) with
  | false =>
    rw [h1] at HE
    go_enter Tryd.func80, Tryd.ntmps80
    go_wp2_with fail
    go_ret
    rw [HE.out]
    exact ⟨rfl, rfl⟩
  | true =>
    cases h2 : decide ((k : Int) ≤ 126) with
    | false =>
      rw [h1, h2] at HE
      go_enter Tryd.func80, Tryd.ntmps80
      go_wp2_with fail
      go_ret
      rw [HE.out]
      exact ⟨rfl, rfl⟩
    | true =>
      rw [h1, h2] at HE
      go_enter Tryd.func80, Tryd.ntmps80
      go_wp2_with fail
      refine (HC.out _).mono ?_
      rintro e w1 ⟨rfl, rfl⟩
      go_wp2_with fail
      go_ret
      rw [HE.out]
      exact ⟨rfl, rfl⟩
theorem pre_call (s p : ByteArray) (w : World) : Calls Tryd.prog 79 #[.string s, .string p] w fun e w' => e = .returned (.bool (Lib.hasPrefix s.data.toList p.data.toList)) ∧ w = w' :=
  (Tryd.strings_HasPrefix s p w).mono fun _ _ h => ⟨h.1, h.2.symm⟩
def preB (l : List UInt8) (c : UInt8) : Bool := Lib.hasPrefix l [c]
theorem preB_nil (c : UInt8) : preB [] c = false := rfl
theorem preB_cons (a c : UInt8) (t : List UInt8) : preB (a :: t) c = (a == c) := by
  show (c == a && List.isPrefixOf [] t) = _
  simp only [List.isPrefixOf, Bool.and_true]
  exact BEq.comm
theorem str_of (s : ByteArray) (l : List UInt8) (h : s.data.toList = l) : s = bs l := by rw [← bs_self s, h]
theorem ext1 (s : ByteArray) (c : UInt8) (t : List UInt8) (h : s.data.toList = c :: t) : s.extract 1 s.size = bs t := by
  rw [bs_ext s 1 s.size (Nat.le_refl _), h]
  have : s.size = t.length + 1 := by rw [← bs_self s, bs_size, h]; simp
  rw [this]; simp
theorem sz_of (s : ByteArray) (l : List UInt8) (h : s.data.toList = l) : s.size = l.length := by rw [← bs_self s, bs_size, h]
theorem at_of (s : ByteArray) (l : List UInt8) (h : s.data.toList = l) (k : Nat) (hk : k < s.size) (hl : k < l.length) : s[k] = l[k] := by subst h; rfl
theorem cutStep_any (s : ByteArray) (hs : s.size ≤ maxLen) (w : World) : Calls Tryd.prog 71 #[.string s] w fun e w' => e = .returned (.tuple #[.int .i64 (stepS s.data.toList).1, .string (bs (stepS s.data.toList).2)]) ∧ Below w.heap.size w w' := by
  have HP := Lib.hid (fun W => pre_call s ⟨#[43]⟩ W)
  have HM := Lib.hid (fun W => pre_call s ⟨#[45]⟩ W)
  rw [show Lib.hasPrefix s.data.toList (⟨#[43]⟩ : ByteArray).data.toList = preB s.data.toList 43 from rfl] at HP
  rw [show Lib.hasPrefix s.data.toList (⟨#[45]⟩ : ByteArray).data.toList = preB s.data.toList 45 from rfl] at HM
  unfold maxLen at hs
  cases hl : s.data.toList with
  | nil =>
    rw [hl, preB_nil] at HP HM
    have HE := Lib.hid (str_of s [] hl)
    clear hl
    go_enter Tryd.func71, Tryd.ntmps71
    go_wp2_with fail
    refine (HP.out _).mono ?_
    rintro e w1 ⟨rfl, rfl⟩
    go_wp2_with fail
    refine (HM.out _).mono ?_
    rintro e w1 ⟨rfl, rfl⟩
    go_wp2_with fail
    go_ret2
    rw [HE.out]
    exact ⟨rfl, Below.refl _ _⟩
  | cons c t =>
    rw [hl, preB_cons] at HP HM
    have HX := Lib.hid (ext1 s c t hl)
    have hsz := sz_of s _ hl
    have h1 : 1 ≤ s.size := by rw [hsz]; simp
    have HE := Lib.hid (str_of s _ hl)
    clear hl hsz
    rw [stepS]
    by_cases c1 : c = 43
    · rw [if_pos c1]
      rw [show (c == 43) = true by rw [c1]; rfl] at HP
      go_enter Tryd.func71, Tryd.ntmps71
      go_wp2_with fail
      refine (HP.out _).mono ?_
      rintro e w1 ⟨rfl, rfl⟩
      go_wp2_with fail
      go_region
      all_goals
        go_wp2_with fail
        go_ret2
        rw [HX.out]
        exact ⟨rfl, below_drewN (Below.refl _ _) _⟩
    · rw [if_neg c1]
      rw [show (c == 43) = false by simpa using c1] at HP
      by_cases c2 : c = 45
      · rw [if_pos c2]
        rw [show (c == 45) = true by rw [c2]; rfl] at HM
        go_enter Tryd.func71, Tryd.ntmps71
        go_wp2_with fail
        refine (HP.out _).mono ?_
        rintro e w1 ⟨rfl, rfl⟩
        go_wp2_with fail
        refine (HM.out _).mono ?_
        rintro e w1 ⟨rfl, rfl⟩
        go_wp2_with fail
        go_region
        all_goals
          go_wp2_with fail
          go_ret2
          rw [HX.out]
          exact ⟨rfl, below_drewN (Below.refl _ _) _⟩
      · rw [if_neg c2]
        rw [show (c == 45) = false by simpa using c2] at HM
        go_enter Tryd.func71, Tryd.ntmps71
        go_wp2_with fail
        refine (HP.out _).mono ?_
        rintro e w1 ⟨rfl, rfl⟩
        go_wp2_with fail
        refine (HM.out _).mono ?_
        rintro e w1 ⟨rfl, rfl⟩
        go_wp2_with fail
        go_ret2
        rw [HE.out]
        exact ⟨rfl, Below.refl _ _⟩
end Go.Proofs.YtoggjiblhcbmjaaDoor
