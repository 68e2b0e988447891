/- The code's blanks and pieces. -/
import Derived.Test.YtnffmlfapccgkaaDoorA1
namespace Go.Proofs.YtnffmlfapccgkaaDoor
open Go.RowKit
set_option maxRecDepth 100000
set_option linter.unusedSimpArgs false
set_option linter.unusedVariables false
theorem bl_cont (c : UInt8) : ([32, 9] : List UInt8).contains c = bl c := by
  simp only [List.contains, List.elem, bl]
  cases c == 32 <;> cases c == 9 <;> rfl
theorem sk_trim (l : List UInt8) : Lib.trimLeftS l [32, 9] = skB l := by
  unfold Lib.trimLeftS skB
  congr 1
  funext c
  exact bl_cont c
theorem skip_any (s : ByteArray) (w : World) : Calls Tryd.prog 23 #[.string s] w fun e w' => e = .returned (.string (bs (skB s.data.toList))) ∧ Below w.heap.size w w' := by
  have HC := Lib.hid (Any.strings_TrimLeft_laid Tryd.lays161 (by kernel_rfl) s ⟨#[32, 9]⟩ w (by decide) (ascii_of_all (by decide)))
  rw [show (⟨#[32, 9]⟩ : ByteArray).data.toList = [32, 9] from rfl, sk_trim] at HC
  rw [show (⟨(skB s.data.toList).toArray⟩ : ByteArray) = bs (skB s.data.toList) from rfl] at HC
  go_enter Tryd.func23, Tryd.ntmps23
  go_wp2_with fail
  refine HC.out.mono ?_
  rintro e w1 ⟨rfl, hb⟩
  have HB := Lib.hid hb
  clear hb
  go_wp2_with fail
  go_ret
  exact ⟨rfl, HB.out⟩
theorem bl_ix (c : UInt8) : decide ((0 : Int) ≤ Lib.indexByte [32, 9] c) = bl c := by
  have h : ∀ n, n < 256 → decide ((0 : Int) ≤ Lib.indexByte [32, 9] (UInt8.ofNat n)) = bl (UInt8.ofNat n) := by decide +kernel
  have := h c.toNat c.toNat_lt
  rwa [UInt8.ofNat_toNat] at this
theorem blank_any (c : UInt8) (w : World) : Calls Tryd.prog 49 #[.int .u8 (c.toNat : Int)] w fun e w' => e = .returned (.bool (bl c)) ∧ w = w' := by
  have HC := Lib.hid (fun W => ix_call ⟨#[32, 9]⟩ c W)
  rw [show (⟨#[32, 9]⟩ : ByteArray).data.toList = [32, 9] from rfl] at HC
  have HE := Lib.hid (bl_ix c)
  obtain ⟨i, hi⟩ : ∃ i, i = Lib.indexByte [32, 9] c := ⟨_, rfl⟩
  obtain ⟨k, hk⟩ : ∃ k, k = c.toNat := ⟨_, rfl⟩
  rw [← hi, ← hk] at HC
  rw [← hi] at HE
  rw [← hk]
  clear hi hk
  go_enter Tryd.func49, Tryd.ntmps49
  go_wp2_with fail
  refine (HC.out _).mono ?_
  rintro e w1 ⟨rfl, rfl⟩
  go_wp2_with fail
  go_ret
  rw [← HE.out]
  exact ⟨rfl, rfl⟩
/-- How far a byte reaches: a backslash has the byte behind it. -/
def bh (l : List UInt8) (k : Nat) : Nat := if l[k]? = some 92 then min (k + 2) l.length else k + 1
theorem behind_any (s : ByteArray) (k : Nat) (hk : k < s.size) (hs : s.size ≤ 1000000) (w : World) : Calls Tryd.prog 50 #[.string s, .int .i64 (k : Int)] w fun e w' => e = .returned (.int .i64 (bh s.data.toList k : Nat)) ∧ w = w' := by
  have hl : s.data.toList[k]? = some s[k] := byte_at s k hk
  have hlen : s.data.toList.length = s.size := (sz_of s _ rfl).symm
  by_cases h92 : s[k] = 92
  · have t1 : ((s[k].toNat : Int) == 92) = true := by rw [h92]; rfl
    have HE := Lib.hid (show bh s.data.toList k = min (k + 2) s.size by unfold bh; rw [hl, h92, if_pos rfl, hlen])
    clear h92 hl hlen
    go_enter Tryd.func50, Tryd.ntmps50
    go_wp2_with fail
    go_ret
    rw [HE.out]
    refine ⟨?_, rfl⟩
    have key : min ((k : Int) + 2) (s.size : Int) = ((min (k + 2) s.size : Nat) : Int) := by omega
    rw [← key]
    rfl
  · have t1 : ((s[k].toNat : Int) == 92) = false := nb _ 92 h92
    have HE := Lib.hid (show bh s.data.toList k = k + 1 by unfold bh; rw [hl, if_neg (fun e => h92 (Option.some.inj e))])
    clear h92 hl hlen
    go_enter Tryd.func50, Tryd.ntmps50
    go_wp2_with fail
    go_ret
    rw [HE.out]
    exact ⟨rfl, rfl⟩
theorem cut_ix (l : List UInt8) : (Lib.indexAny l [32, 9] = -1 ∧ cutB l = (l, [])) ∨ ∃ k : Nat, Lib.indexAny l [32, 9] = k ∧ k < l.length ∧ cutB l = (l.take k, l.drop (k + 1)) := by
  induction l with
  | nil => exact .inl ⟨rfl, rfl⟩
  | cons c t ih =>
    unfold Lib.indexAny cutB
    rw [bl_cont]
    cases hc : bl c with
    | true => exact .inr ⟨0, rfl, by simp, rfl⟩
    | false =>
      rcases ih with ⟨h1, h2⟩ | ⟨k, h1, h2, h3⟩
      · refine .inl ⟨?_, ?_⟩
        · rw [h1]; rfl
        · rw [h2]; rfl
      · refine .inr ⟨k + 1, ?_, by simp; omega, ?_⟩
        · rw [h1]
          rw [if_neg (by simp), if_neg (by first | (simp; done) | (simp; omega))]
          push_cast; rfl
        · rw [h3]; rfl
theorem cutAt_any (s : ByteArray) (hs : s.size ≤ 1000000) (w : World) : Calls Tryd.prog 32 #[.string s] w fun e w' => e = .returned (.tuple #[.string (bs (cutB s.data.toList).1), .string (bs (cutB s.data.toList).2)]) ∧ Below w.heap.size w w' := by
  have HC := Lib.hid (ixAny_any s (by omega) w)
  have hlen : s.data.toList.length = s.size := (sz_of s _ rfl).symm
  rcases cut_ix s.data.toList with ⟨h1, h2⟩ | ⟨k, h1, h2, h3⟩
  · rw [h1] at HC
    rw [h2]
    have HE := Lib.hid (bs_self s)
    clear h1 h2 hlen
    go_enter Tryd.func32, Tryd.ntmps32
    go_wp2_with fail
    refine HC.out.mono ?_
    rintro e w1 ⟨rfl, hb⟩
    have HB := Lib.hid hb
    clear hb
    go_wp2_with fail
    go_ret2
    dsimp only
    rw [HE.out]
    exact ⟨rfl, HB.out⟩
  · rw [h1] at HC
    rw [h3]
    have hks : k < s.size := by omega
    have hk1 : k + 1 ≤ s.size := by omega
    have HX1 := Lib.hid (show s.extract 0 k = bs (s.data.toList.take k) by rw [bs_ext s 0 k (by omega), List.drop_zero])
    have HX2 := Lib.hid (show s.extract (k + 1) s.size = bs (s.data.toList.drop (k + 1)) by rw [bs_ext s _ _ (Nat.le_refl _), List.take_of_length_le (by omega)])
    have d1 : decide ((k : Int) < 0) = false := decide_eq_false (by omega)
    have e1 : IntKind.i64.wrap ((k : Int) + 1) = ((k + 1 : Nat) : Int) := by rw [IntWalk.i64_in _ (by omega)]; omega
    have e2 : ((k : Int) + 1).toNat = k + 1 := by omega
    have e3 : (0 : Int) ≤ (k : Int) + 1 := by omega
    clear h1 h2 h3 hlen
    go_enter Tryd.func32, Tryd.ntmps32
    go_wp2_with fail
    refine HC.out.mono ?_
    rintro e w1 ⟨rfl, hb⟩
    have HB := Lib.hid hb
    clear hb
    go_wp2_with fail
    go_quiet (fail)
    go_wp2_with fail
    go_ret2
    dsimp only
    first | rw [HX1.out, HX2.out] | skip
    exact ⟨rfl, below_drewN HB.out _⟩
end Go.Proofs.YtnffmlfapccgkaaDoor
