/- The law MeasureLeft: its walk. -/
import Derived.Test.YteihpeffaeahlaaDoorMA
namespace Go.Proofs.YteihpeffaeahlaaDoor
open Go.RowKit
set_option maxRecDepth 100000
theorem umod (A m : Int) (hm : 0 < m) (hm2 : m ≤ 4611686018427387904) : ∃ a : Nat, (a : Int) < m ∧ (IntKind.u64.wrap A).tmod m = a := by
  have h0 : 0 ≤ IntKind.u64.wrap A := by rw [IntKind.wrap_u64]; exact Int.emod_nonneg _ (by decide)
  refine ⟨((IntKind.u64.wrap A).tmod m).toNat, ?_, ?_⟩
  · rw [Int.toNat_of_nonneg (Int.tmod_nonneg _ h0)]; exact Int.tmod_lt_of_pos _ hm
  · rw [Int.toNat_of_nonneg (Int.tmod_nonneg _ h0)]
def ops10 : List UInt8 := [43, 45, 42, 47, 37, 60, 62, 61, 38, 58]
def opB (o : Nat) : UInt8 := ops10.getD o 43
theorem opB_is (o : Nat) (h : o < 10) : isOp (opB o) := by
  have : o = 0 ∨ o = 1 ∨ o = 2 ∨ o = 3 ∨ o = 4 ∨ o = 5 ∨ o = 6 ∨ o = 7 ∨ o = 8 ∨ o = 9 := by omega
  rcases this with rfl | rfl | rfl | rfl | rfl | rfl | rfl | rfl | rfl | rfl <;> simp [isOp, opB, ops10]
theorem opB_cut (o : Nat) (h : o < 10) : ((⟨#[43, 45, 42, 47, 37, 60, 62, 61, 38, 58]⟩ : ByteArray).extract o (o + 1)) = ⟨[opB o].toArray⟩ := by
  have : o = 0 ∨ o = 1 ∨ o = 2 ∨ o = 3 ∨ o = 4 ∨ o = 5 ∨ o = 6 ∨ o = 7 ∨ o = 8 ∨ o = 9 := by omega
  rcases this with rfl | rfl | rfl | rfl | rfl | rfl | rfl | rfl | rfl | rfl <;> rfl
set_option maxHeartbeats 2000000 in
theorem left_walk (A B C O T : Int) (w : World) (hT : Tab w) :
    Calls Tryd.prog 8 #[.agg #[.int .i64 A, .int .i64 B, .int .i64 C, .int .i64 O, .int .i64 T]] w fun e w' => e = .returned (.bool true) ∧ Below w.heap.size w w' := by
  obtain ⟨a, ha, hA⟩ := umod A 3000 (by omega) (by omega)
  obtain ⟨b, hb, hB⟩ := umod B 3000 (by omega) (by omega)
  obtain ⟨c, hc, hC⟩ := umod C 3000 (by omega) (by omega)
  obtain ⟨o, ho, hO⟩ := umod O 10 (by omega) (by omega)
  obtain ⟨t, ht, hTT⟩ := umod T 10 (by omega) (by omega)
  have HT := Lib.hid hT
  clear hT
  go_enter Tryd.func8, Tryd.ntmps8
  go_wp2_with fail
  go_quiet (fail)
  go_wp2_with fail
  refine (digits_str a (by omega) _).mono ?_
  rintro e w1 ⟨rfl, hb1⟩
  have B1 := Lib.hid ((below_drewN ((Below.refl w.heap.size w).alloc (Nat.le_refl _) (.cells #[.int .i64 A, .int .i64 B, .int .i64 C, .int .i64 O, .int .i64 T] 48)) nq).trans (hb1.mono (by simp [World.drewN])))
  clear hb1
  go_wp2_with fail
  refine (digits_str b (by omega) _).mono ?_
  rintro e w2 ⟨rfl, hb2⟩
  have B2 := Lib.hid (B1.out.trans (hb2.mono B1.out.size))
  clear hb2 B1
  go_wp2_with fail
  refine (digits_str c (by omega) _).mono ?_
  rintro e w3 ⟨rfl, hb3⟩
  have B3 := Lib.hid (B2.out.trans (hb3.mono B2.out.size))
  clear hb3 B2
  go_wp2_with fail
  have hwo : IntKind.i64.wrap ((o : Int) + 1) = (o : Int) + 1 := IntWalk.i64_in _ (by omega)
  have hwt : IntKind.i64.wrap ((t : Int) + 1) = (t : Int) + 1 := IntWalk.i64_in _ (by omega)
  have hwo0 : IntKind.i64.wrap (o : Int) = (o : Int) := IntWalk.i64_in _ (by omega)
  have hwt0 : IntKind.i64.wrap (t : Int) = (t : Int) := IntWalk.i64_in _ (by omega)
  have hno : ((o : Int) + 1).toNat = o + 1 := by omega
  have hnt : ((t : Int) + 1).toNat = t + 1 := by omega
  have ho1 : (o : Int) + 1 ≤ 10 := by omega
  have ht1 : (t : Int) + 1 ≤ 10 := by omega
  have ho2 : (o : Int) ≤ (o : Int) + 1 := by omega
  have ht2 : (t : Int) ≤ (t : Int) + 1 := by omega
  have hco := opB_cut o (by omega)
  have hct := opB_cut t (by omega)
  go_quiet (fail)
  clear hwo hwt hwo0 hwt0 ho2 ht2 hco hct hno hnt ho1 ht1 hA hB hC hO hTT
  have la := dec_len 4 a (by omega) (by omega)
  have lb := dec_len 4 b (by omega) (by omega)
  have lc := dec_len 4 c (by omega) (by omega)
  go_wp2_with fail
  have T3 := Lib.hid (HT.out.below B3.out HT.out.pos)
  refine (eval_u _ (dec a ++ opB o :: (dec b ++ opB t :: (dec c ++ []))) (by simp) (by simp; omega) _ (by exact T3.out)).mono ?_
  rw [left_a (opB o) (opB t) (opB_is o (by omega)) (opB_is t (by omega)) a b c (by omega) (by omega) (by omega)]
  rintro e w4 ⟨rfl, hb4⟩
  have B4 := Lib.hid ((below_drewN B3.out nq).trans (hb4.mono B3.out.size))
  have T4 := Lib.hid (HT.out.below B4.out HT.out.pos)
  clear hb4
  have hlv := left_b (opB o) (opB t) (opB_is o (by omega)) (opB_is t (by omega)) a b c (by omega) (by omega) (by omega)
  have HLV := Lib.hid hlv
  clear hlv
  generalize LV (opB o) (opB t) a b c = y at *
  obtain ⟨y1, y2⟩ := y
  go_wp2_with fail
  refine (eval_u _ (40 :: (dec a ++ opB o :: (dec b ++ 41 :: opB t :: (dec c ++ [])))) (by simp) (by simp; omega) _ T4.out).mono ?_
  rw [HLV.out]
  rintro e w5 ⟨rfl, hb5⟩
  have B5 := Lib.hid (B4.out.trans (hb5.mono B4.out.size))
  have hs := sane_any w5 (HT.out.below B5.out HT.out.pos)
  have HS := Lib.hid hs
  clear hb5 hs
  go_wp2_with fail
  refine HS.out.mono ?_
  rintro e w6 ⟨rfl, hb6⟩
  have B6 := Lib.hid (B5.out.trans (hb6.mono B5.out.size))
  clear hb6
  go_wp2_with fail
  go_ret
  exact ⟨rfl, B6.out⟩
end Go.Proofs.YteihpeffaeahlaaDoor
