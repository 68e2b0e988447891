/- The code's escapes: quoted texts; an escape. -/
import Derived.Test.YtoggjiblhcbmjaaDoorW2
namespace Go.Proofs.YtoggjiblhcbmjaaDoor
open Go.RowKit Go.Shelf
set_option maxRecDepth 100000
theorem ixq (s : ByteArray) (c : UInt8) (w : World) : Calls Tryd.prog 59 #[.string s, .int .u8 (c.toNat : Int)] w fun e w' => e = .returned (.int .i64 (Lib.indexByte s.data.toList c)) ∧ w' = w :=
  (ix_call s c w).mono fun _ _ h => ⟨h.1, h.2.symm⟩
theorem quoted_nil (s : ByteArray) (hl : s.data.toList = []) (w : World) : Calls Tryd.prog 73 #[.string s] w fun e w' => e = .returned (.tuple #[.string (bs (quotS []).1), .int .i64 ((quotS []).2 : Int)]) ∧ Below w.heap.size w w' := by
  obtain rfl : s = ⟨#[]⟩ := str_of s [] hl
  clear hl
  go_enter Tryd.func73, Tryd.ntmps73
  go_wp2_with fail
  go_ret2
  exact ⟨rfl, Below.refl _ _⟩
set_option maxHeartbeats 1000000 in
theorem quoted_cons (s : ByteArray) (c : UInt8) (t : List UInt8) (hl : s.data.toList = c :: t) (hs : s.size ≤ maxLen) (w : World) : Calls Tryd.prog 73 #[.string s] w fun e w' => e = .returned (.tuple #[.string (bs (quotS (c :: t)).1), .int .i64 ((quotS (c :: t)).2 : Int)]) ∧ Below w.heap.size w w' := by
  unfold maxLen at hs
  have hsz := sz_of s _ hl
  rw [List.length_cons] at hsz
  have h1 : 0 < s.size := by omega
  have e0 := at_of s _ hl 0 h1 (by simp)
  simp only [List.getElem_cons_zero] at e0
  have hne : s.toList.isEmpty = false := by rw [Lib.toList_data, hl]; rfl
  obtain ⟨R, hR⟩ : ∃ R, R = quotS (c :: t) := ⟨_, rfl⟩
  rw [← hR]
  rw [quotS] at hR
  by_cases hc : c = 92
  · have t0 : ((s[0].toNat : Int) == 92) = true := by rw [e0, hc]; rfl
    have HR := Lib.hid (show R = ([], 0) by rw [hR, if_pos hc])
    clear hR e0 hl hsz hc
    go_enter Tryd.func73, Tryd.ntmps73
    go_wp2_with fail
    go_ret2
    rw [HR.out]
    exact ⟨rfl, Below.refl _ _⟩
  rw [if_neg hc] at hR
  have t0 : ((s[0].toNat : Int) == 92) = false := by
    rw [e0]
    have : c.toNat ≠ 92 := fun h => hc (UInt8.toNat_inj.1 h)
    simp; omega
  have hx1 := ext1 s c t hl
  have HI := Lib.hid (fun W => ixq (s.extract 1 s.size) s[0] W)
  rw [hx1, bs_list, e0, ← e0] at HI
  have hige := Lib.indexByte_ge t c
  have hilt := ix_le t c
  rw [← e0] at hR hige hilt
  generalize Lib.indexByte t s[0] = i at *
  have HX1 := Lib.hid hx1
  by_cases hi : i < 0
  · have d1 : decide (i < 0) = true := decide_eq_true hi
    have HR := Lib.hid (show R = ([], 0) by rw [hR, if_pos hi])
    clear hR e0 hl hsz hige hilt hi hx1
    go_enter Tryd.func73, Tryd.ntmps73
    go_wp2_with fail
    go_quiet ((go_at_call 59; rw [HX1.out]; exact Calls.quiet_of_same (HI.out _)))
    go_wp2_with fail
    go_ret2
    rw [HR.out]
    exact ⟨rfl, below_drewN (Below.refl _ _) _⟩
  · obtain ⟨k, rfl⟩ : ∃ k : Nat, i = k := ⟨i.toNat, by omega⟩
    have hk := hilt (by omega)
    rw [Int.toNat_natCast] at hk hR
    have d1 : decide ((k : Int) < 0) = false := decide_eq_false (by omega)
    have hks : k + 1 < s.size := by omega
    have HR := Lib.hid (show R = (t.take k, k + 2) by rw [hR, if_neg (by omega)])
    have HX := Lib.hid (show s.extract 1 (1 + k) = bs (t.take k) by rw [Nat.add_comm 1 k, bs_ext s 1 (k + 1) (by omega), hl]; simp)
    clear hR e0 hl hsz hige hilt hi hx1 hk
    go_enter Tryd.func73, Tryd.ntmps73
    go_wp2_with fail
    go_quiet ((go_at_call 59; rw [HX1.out]; exact Calls.quiet_of_same (HI.out _)))
    go_wp2_with fail
    go_ret2
    rw [HR.out, HX.out]
    exact ⟨rfl, below_drewN (Below.refl _ _) _⟩
theorem quoted_any (s : ByteArray) (hs : s.size ≤ maxLen) (w : World) : Calls Tryd.prog 73 #[.string s] w fun e w' => e = .returned (.tuple #[.string (bs (quotS s.data.toList).1), .int .i64 ((quotS s.data.toList).2 : Int)]) ∧ Below w.heap.size w w' := by
  cases hl : s.data.toList with
  | nil => exact quoted_nil s hl w
  | cons c t => exact quoted_cons s c t hl hs w
/-- A piece as a value. -/
def pcV (p : Pc) : Value := .agg #[.string (bs p.tx), .int .u8 (p.kd.toNat : Int), .string (bs p.nm), .int .i64 p.st]
theorem escape_short (s : ByteArray) (hl : s.data.toList.length < 2) (w : World) : Calls Tryd.prog 60 #[.string s] w fun e w' => e = .returned (.tuple #[pcV pc0, .int .i64 1]) ∧ Below w.heap.size w w' := by
  have d1 : decide ((s.size : Int) < 2) = true := decide_eq_true (by rw [sz_of s _ rfl]; omega)
  go_enter Tryd.func60, Tryd.ntmps60
  go_wp2_with fail
  trace_state
  exact bodyPost_ret (v := .tuple #[pcV pc0, .int .i64 1]) (by simp [results, Tryd.results60, go_sem]; rfl) rfl ⟨rfl, by exact (((Below.refl _ _).alloc (Nat.le_refl _) _))⟩
end Go.Proofs.YtoggjiblhcbmjaaDoor
