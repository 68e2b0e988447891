/- The code's store: what is kept. -/
import Derived.Test.YtgpanlkcpnlejaaS4
namespace Go.Proofs.Ytgpanlkcpnlejaa
open Go.RowKit Go.Maps
set_option maxRecDepth 100000
def I64 (a : Int) : Prop := -9223372036854775808 ≤ a ∧ a ≤ 9223372036854775807
def placeS (n : Nat) (a : Int) : Int := if a < 0 then n + a else a
theorem place_any (n : Nat) (a : Int) (hn : n ≤ 2000) (ha : I64 a) (w : World) : Calls Try.prog 51 #[.int .i64 n, .int .i64 a] w fun e w' => e = .returned (.int .i64 (placeS n a)) ∧ w = w' := by
  by_cases h : a < 0
  · have HE := Lib.hid (show placeS n a = n + a by unfold placeS; rw [if_pos h])
    have HW := Lib.hid (IntWalk.wrap64_in (n + a) (by unfold I64 at ha; omega))
    have d : decide (a < 0) = true := decide_eq_true h
    clear h ha
    go_enter Try.func51, Try.ntmps51
    go_wp2_with fail
    go_ret
    rw [HE.out]
    exact ⟨by show Ending.returned (.int .i64 (wrap64 (n + a))) = _; rw [HW.out], rfl⟩
  · have HE := Lib.hid (show placeS n a = a by unfold placeS; rw [if_neg h])
    have d : decide (a < 0) = false := decide_eq_false h
    clear h ha
    go_enter Try.func51, Try.ntmps51
    go_wp2_with fail
    go_ret
    rw [HE.out]
    exact ⟨rfl, rfl⟩
theorem place_in (n : Nat) (a : Int) (hn : n ≤ 2000) (ha : I64 a) : I64 (placeS n a) := by
  unfold placeS I64 at *; split <;> omega
def spanPQ (n : Nat) (p q : Int) : Int × Int :=
  if min (max p q) (n - 1) + 1 ≤ max (min p q) 0 then (0, 0) else (max (min p q) 0, min (max p q) (n - 1) + 1)
def spanS (n : Nat) (f t : Int) : Int × Int := spanPQ n (placeS n f) (placeS n t)
theorem span_nat (n : Nat) (f t : Int) : ∃ a b : Nat, spanS n f t = ((a : Int), (b : Int)) ∧ a ≤ b ∧ b ≤ n := by
  unfold spanS spanPQ
  generalize placeS n f = p
  generalize placeS n t = q
  split
  · exact ⟨0, 0, rfl, Nat.le_refl _, Nat.zero_le _⟩
  · exact ⟨(max (min p q) 0).toNat, (min (max p q) (n - 1) + 1).toNat, by rw [Int.toNat_of_nonneg (by omega), Int.toNat_of_nonneg (by omega)], by omega, by omega⟩
theorem ret_two {a b a' b' : Int} (h : a = a' ∧ b = b') : Ending.returned (.tuple #[.int .i64 a, .int .i64 b]) = .returned (.tuple #[.int .i64 a', .int .i64 b']) := by rw [h.1, h.2]
set_option maxHeartbeats 1000000 in
theorem span_any (n : Nat) (f t : Int) (hn : n ≤ 2000) (hf : I64 f) (ht : I64 t) (w : World) : Calls Try.prog 42 #[.int .i64 n, .int .i64 f, .int .i64 t] w fun e w' => e = .returned (.tuple #[.int .i64 (spanS n f t).1, .int .i64 (spanS n f t).2]) ∧ w = w' := by
  have P1 := Lib.hid (fun W => place_any n f hn hf W)
  have P2 := Lib.hid (fun W => place_any n t hn ht W)
  have I1 := place_in n f hn hf
  have I2 := place_in n t hn ht
  unfold spanS
  generalize placeS n f = p at *
  generalize placeS n t = q at *
  have HW : Hid (∀ x : Int, I64 x → wrap64 (min x (n - 1) + 1) = min x (n - 1) + 1) := Lib.hid (fun x hx => IntWalk.wrap64_in _ (by unfold I64 at hx; omega))
  have HX : Hid (∀ x y, (x, y) = spanPQ n p q → Ending.returned (.tuple #[.int .i64 x, .int .i64 y]) = .returned (.tuple #[.int .i64 (spanPQ n p q).1, .int .i64 (spanPQ n p q).2])) := Lib.hid (fun x y h => by rw [← h])
  clear hf ht
  by_cases hpq : q < p
  · have d1 : decide (q < p) = true := decide_eq_true hpq
    have HPQ := Lib.hid hpq
    clear hpq
    go_enter Try.func42, Try.ntmps42
    go_wp2_with fail
    refine (P1.out _).mono ?_
    rintro e w1 ⟨rfl, rfl⟩
    go_wp2_with fail
    refine (P2.out _).mono ?_
    rintro e w1 ⟨rfl, rfl⟩
    go_wp2_with fail
    · have hle : wrap64 (min p (n - 1) + 1) ≤ max q 0 := by assumption
      go_ret2
      refine ⟨HX.out _ _ ?_, rfl⟩
      rw [HW.out p I1] at hle
      have := HPQ.out
      unfold spanPQ
      rw [if_pos (by omega)]
    · have hle : max q 0 < wrap64 (min p (n - 1) + 1) := by assumption
      go_ret2
      refine ⟨HX.out _ (wrap64 (min p (n - 1) + 1)) ?_, rfl⟩
      rw [HW.out p I1] at hle ⊢
      have := HPQ.out
      unfold spanPQ
      rw [if_neg (by omega)]
      exact Prod.ext (by show max q 0 = _; omega) (by show min p (n - 1) + 1 = _; omega)
  · have d1 : decide (q < p) = false := decide_eq_false hpq
    have HPQ := Lib.hid hpq
    clear hpq
    go_enter Try.func42, Try.ntmps42
    go_wp2_with fail
    refine (P1.out _).mono ?_
    rintro e w1 ⟨rfl, rfl⟩
    go_wp2_with fail
    refine (P2.out _).mono ?_
    rintro e w1 ⟨rfl, rfl⟩
    go_wp2_with fail
    · have hle : wrap64 (min q (n - 1) + 1) ≤ max p 0 := by assumption
      go_ret2
      refine ⟨HX.out _ _ ?_, rfl⟩
      rw [HW.out q I2] at hle
      have := HPQ.out
      unfold spanPQ
      rw [if_pos (by omega)]
    · have hle : max p 0 < wrap64 (min q (n - 1) + 1) := by assumption
      go_ret2
      refine ⟨HX.out _ (wrap64 (min q (n - 1) + 1)) ?_, rfl⟩
      rw [HW.out q I2] at hle ⊢
      have := HPQ.out
      unfold spanPQ
      rw [if_neg (by omega)]
      exact Prod.ext (by show max p 0 = _; omega) (by show min q (n - 1) + 1 = _; omega)
end Go.Proofs.Ytgpanlkcpnlejaa
