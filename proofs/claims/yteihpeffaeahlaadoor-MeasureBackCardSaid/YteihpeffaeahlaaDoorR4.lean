/- Contracts of the specification: operators. -/
import Derived.Test.YteihpeffaeahlaaDoorR2
namespace Go.Proofs.YteihpeffaeahlaaDoor
open Go.RowKit
set_option maxRecDepth 100000
/-- How the specification's reckoning ends. -/
def RkP (R : Except Int Int) (w : World) (e : Ending) (w' : World) : Prop :=
  w' = w ∧ match R with
    | .ok v => e = .returned (.tuple #[.int .i64 v, .int .i64 0])
    | .error x => e = .returned (.tuple #[.int .i64 0, .int .i64 x])
theorem RkP.chk_of {n : Int} {w : World} {e : Ending} (h : e = .returned (.tuple #[.int .i64 (if ok9 n then n else 0), .int .i64 (if ok9 n then 0 else 5)])) : RkP (chk n) w e w := by
  refine ⟨rfl, ?_⟩
  unfold chk
  by_cases hn : ok9 n
  · rw [if_pos hn, if_pos hn] at h; rw [if_pos hn]; exact h
  · rw [if_neg hn, if_neg hn] at h; rw [if_neg hn]; exact h
theorem rk_add (x y : Int) (hx : ok9 x) (hy : ok9 y) (w : World) : Calls Tryd.prog 61 #[OS [43], .int .i64 x, .int .i64 y] w (RkP (chk (x + y)) w) := by
  have hx' : -1000000000 ≤ x ∧ x ≤ 1000000000 := hx
  have hy' : -1000000000 ≤ y ∧ y ≤ 1000000000 := hy
  clear hx hy
  by_cases hok : ok9 (x + y)
  · have HK := Lib.hid hok
    have HOD := Lib.hid (decide_eq_true hok)
    clear hok
    go_enter Tryd.func61, Tryd.ntmps61
    go_wp2_with (go_at_call 43; refine (rwithin_is _ true HOD.out _).mono ?_; rintro e w' ⟨rfl, rfl⟩)
    go_ret2
    exact RkP.chk_of (by rw [if_pos HK.out, if_pos HK.out]; rfl)
  · have HK := Lib.hid hok
    have HOD := Lib.hid (decide_eq_false hok)
    clear hok
    go_enter Tryd.func61, Tryd.ntmps61
    go_wp2_with (go_at_call 43; refine (rwithin_is _ false HOD.out _).mono ?_; rintro e w' ⟨rfl, rfl⟩)
    go_ret2
    exact RkP.chk_of (by rw [if_neg HK.out, if_neg HK.out]; rfl)
theorem rk_sub (x y : Int) (hx : ok9 x) (hy : ok9 y) (w : World) : Calls Tryd.prog 61 #[OS [45], .int .i64 x, .int .i64 y] w (RkP (chk (x - y)) w) := by
  have hx' : -1000000000 ≤ x ∧ x ≤ 1000000000 := hx
  have hy' : -1000000000 ≤ y ∧ y ≤ 1000000000 := hy
  clear hx hy
  by_cases hok : ok9 (x - y)
  · have HK := Lib.hid hok
    have HOD := Lib.hid (decide_eq_true hok)
    clear hok
    go_enter Tryd.func61, Tryd.ntmps61
    go_wp2_with (go_at_call 43; refine (rwithin_is _ true HOD.out _).mono ?_; rintro e w' ⟨rfl, rfl⟩)
    go_ret2
    exact RkP.chk_of (by rw [if_pos HK.out, if_pos HK.out]; rfl)
  · have HK := Lib.hid hok
    have HOD := Lib.hid (decide_eq_false hok)
    clear hok
    go_enter Tryd.func61, Tryd.ntmps61
    go_wp2_with (go_at_call 43; refine (rwithin_is _ false HOD.out _).mono ?_; rintro e w' ⟨rfl, rfl⟩)
    go_ret2
    exact RkP.chk_of (by rw [if_neg HK.out, if_neg HK.out]; rfl)
theorem rk_mul (x y : Int) (hx : ok9 x) (hy : ok9 y) (w : World) : Calls Tryd.prog 61 #[OS [42], .int .i64 x, .int .i64 y] w (RkP (chk (x * y)) w) := by
  have hx' : -1000000000 ≤ x ∧ x ≤ 1000000000 := hx
  have hy' : -1000000000 ≤ y ∧ y ≤ 1000000000 := hy
  have hm := mul9 hx hy
  clear hx hy
  by_cases hok : ok9 (x * y)
  · have HK := Lib.hid hok
    have HOD := Lib.hid (decide_eq_true hok)
    clear hok
    go_enter Tryd.func61, Tryd.ntmps61
    go_wp2_with (go_at_call 43; refine (rwithin_is _ true HOD.out _).mono ?_; rintro e w' ⟨rfl, rfl⟩)
    go_ret2
    exact RkP.chk_of (by rw [if_pos HK.out, if_pos HK.out]; rfl)
  · have HK := Lib.hid hok
    have HOD := Lib.hid (decide_eq_false hok)
    clear hok
    go_enter Tryd.func61, Tryd.ntmps61
    go_wp2_with (go_at_call 43; refine (rwithin_is _ false HOD.out _).mono ?_; rintro e w' ⟨rfl, rfl⟩)
    go_ret2
    exact RkP.chk_of (by rw [if_neg HK.out, if_neg HK.out]; rfl)
theorem rk_quo (x y : Int) (hx : ok9 x) (w : World) : Calls Tryd.prog 61 #[OS [47], .int .i64 x, .int .i64 y] w (RkP (reck [47] x y) w) := by
  have hx' : -1000000000 ≤ x ∧ x ≤ 1000000000 := hx
  by_cases hy : y = 0
  · subst hy
    rw [show reck [47] x 0 = .error 11 by simp [reck]]
    clear hx
    go_enter Tryd.func61, Tryd.ntmps61
    go_wp2_with fail
    go_ret2
    exact ⟨rfl, rfl⟩
  · rw [show reck [47] x y = .ok (x.tdiv y) by simp [reck, hy]]
    have hy' : (y == 0) = false := by simpa using hy
    have h1 : (x.tdiv y).natAbs ≤ x.natAbs := by rw [Int.natAbs_tdiv]; exact Nat.div_le_self _ _
    have hok : ok9 (x.tdiv y) := by unfold ok9; omega
    have HOD := Lib.hid (decide_eq_true hok)
    have hq := IntWalk.wrap64_in (x.tdiv y) (by omega)
    have hxb : -1000000000 ≤ x.tdiv y ∧ x.tdiv y ≤ 1000000000 := hok
    clear hx hok h1
    go_enter Tryd.func61, Tryd.ntmps61
    go_wp2_with (go_at_call 43; refine (rwithin_is _ true HOD.out _).mono ?_; rintro e w' ⟨rfl, rfl⟩)
    go_ret2
    exact ⟨rfl, rfl⟩
theorem rk_rem (x y : Int) (hx : ok9 x) (w : World) : Calls Tryd.prog 61 #[OS [37], .int .i64 x, .int .i64 y] w (RkP (reck [37] x y) w) := by
  have hx' : -1000000000 ≤ x ∧ x ≤ 1000000000 := hx
  by_cases hy : y = 0
  · subst hy
    rw [show reck [37] x 0 = .error 11 by simp [reck]]
    clear hx
    go_enter Tryd.func61, Tryd.ntmps61
    go_wp2_with fail
    go_ret2
    exact ⟨rfl, rfl⟩
  · rw [show reck [37] x y = .ok (x.tmod y) by simp [reck, hy]]
    have hy' : (y == 0) = false := by simpa using hy
    have h1 : (x.tmod y).natAbs ≤ x.natAbs := by rw [Int.natAbs_tmod]; exact Nat.mod_le _ _
    have hok : ok9 (x.tmod y) := by unfold ok9; omega
    have HOD := Lib.hid (decide_eq_true hok)
    have hq := IntWalk.wrap64_in (x.tmod y) (by omega)
    have hxb : -1000000000 ≤ x.tmod y ∧ x.tmod y ≤ 1000000000 := hok
    clear hx hok h1
    go_enter Tryd.func61, Tryd.ntmps61
    go_wp2_with (go_at_call 43; refine (rwithin_is _ true HOD.out _).mono ?_; rintro e w' ⟨rfl, rfl⟩)
    go_ret2
    exact ⟨rfl, rfl⟩
theorem rk_lt (x y : Int) (w : World) : Calls Tryd.prog 61 #[OS [60], .int .i64 x, .int .i64 y] w (RkP (.ok (tr (decide (x < y)))) w) := by
  have HOD := fun b => Lib.hid (decide_eq_true (tr_ok9 b))
  by_cases ht : x < y
  · have e : decide (x < y) = true := decide_eq_true ht
    rw [e]; clear e
    go_enter Tryd.func61, Tryd.ntmps61
    go_wp2_with (first | (go_at_call 78; refine (rtruth_any _ _).mono ?_; rintro e w' ⟨rfl, rfl⟩) | (go_at_call 43; refine (rwithin_is _ true (HOD _).out _).mono ?_; rintro e w' ⟨rfl, rfl⟩))
    go_ret2
    exact ⟨rfl, by simp [*]⟩
  · have e : decide (x < y) = false := decide_eq_false ht
    rw [e]; clear e
    go_enter Tryd.func61, Tryd.ntmps61
    go_wp2_with (first | (go_at_call 78; refine (rtruth_any _ _).mono ?_; rintro e w' ⟨rfl, rfl⟩) | (go_at_call 43; refine (rwithin_is _ true (HOD _).out _).mono ?_; rintro e w' ⟨rfl, rfl⟩))
    go_ret2
    exact ⟨rfl, by simp [*]⟩
theorem rk_gt (x y : Int) (w : World) : Calls Tryd.prog 61 #[OS [62], .int .i64 x, .int .i64 y] w (RkP (.ok (tr (decide (y < x)))) w) := by
  have HOD := fun b => Lib.hid (decide_eq_true (tr_ok9 b))
  by_cases ht : y < x
  · have e : decide (y < x) = true := decide_eq_true ht
    rw [e]; clear e
    go_enter Tryd.func61, Tryd.ntmps61
    go_wp2_with (first | (go_at_call 78; refine (rtruth_any _ _).mono ?_; rintro e w' ⟨rfl, rfl⟩) | (go_at_call 43; refine (rwithin_is _ true (HOD _).out _).mono ?_; rintro e w' ⟨rfl, rfl⟩))
    go_ret2
    exact ⟨rfl, by simp [*]⟩
  · have e : decide (y < x) = false := decide_eq_false ht
    rw [e]; clear e
    go_enter Tryd.func61, Tryd.ntmps61
    go_wp2_with (first | (go_at_call 78; refine (rtruth_any _ _).mono ?_; rintro e w' ⟨rfl, rfl⟩) | (go_at_call 43; refine (rwithin_is _ true (HOD _).out _).mono ?_; rintro e w' ⟨rfl, rfl⟩))
    go_ret2
    exact ⟨rfl, by simp [*]⟩
theorem rk_le (x y : Int) (w : World) : Calls Tryd.prog 61 #[OS [60, 61], .int .i64 x, .int .i64 y] w (RkP (.ok (tr (decide (x ≤ y)))) w) := by
  have HOD := fun b => Lib.hid (decide_eq_true (tr_ok9 b))
  by_cases ht : x ≤ y
  · have e : decide (x ≤ y) = true := decide_eq_true ht
    rw [e]; clear e
    go_enter Tryd.func61, Tryd.ntmps61
    go_wp2_with (first | (go_at_call 78; refine (rtruth_any _ _).mono ?_; rintro e w' ⟨rfl, rfl⟩) | (go_at_call 43; refine (rwithin_is _ true (HOD _).out _).mono ?_; rintro e w' ⟨rfl, rfl⟩))
    go_ret2
    exact ⟨rfl, by simp [*]⟩
  · have e : decide (x ≤ y) = false := decide_eq_false ht
    rw [e]; clear e
    go_enter Tryd.func61, Tryd.ntmps61
    go_wp2_with (first | (go_at_call 78; refine (rtruth_any _ _).mono ?_; rintro e w' ⟨rfl, rfl⟩) | (go_at_call 43; refine (rwithin_is _ true (HOD _).out _).mono ?_; rintro e w' ⟨rfl, rfl⟩))
    go_ret2
    exact ⟨rfl, by simp [*]⟩
theorem rk_ge (x y : Int) (w : World) : Calls Tryd.prog 61 #[OS [62, 61], .int .i64 x, .int .i64 y] w (RkP (.ok (tr (decide (y ≤ x)))) w) := by
  have HOD := fun b => Lib.hid (decide_eq_true (tr_ok9 b))
  by_cases ht : y ≤ x
  · have e : decide (y ≤ x) = true := decide_eq_true ht
    rw [e]; clear e
    go_enter Tryd.func61, Tryd.ntmps61
    go_wp2_with (first | (go_at_call 78; refine (rtruth_any _ _).mono ?_; rintro e w' ⟨rfl, rfl⟩) | (go_at_call 43; refine (rwithin_is _ true (HOD _).out _).mono ?_; rintro e w' ⟨rfl, rfl⟩))
    go_ret2
    exact ⟨rfl, by simp [*]⟩
  · have e : decide (y ≤ x) = false := decide_eq_false ht
    rw [e]; clear e
    go_enter Tryd.func61, Tryd.ntmps61
    go_wp2_with (first | (go_at_call 78; refine (rtruth_any _ _).mono ?_; rintro e w' ⟨rfl, rfl⟩) | (go_at_call 43; refine (rwithin_is _ true (HOD _).out _).mono ?_; rintro e w' ⟨rfl, rfl⟩))
    go_ret2
    exact ⟨rfl, by simp [*]⟩
theorem rk_eq (x y : Int) (w : World) : Calls Tryd.prog 61 #[OS [61], .int .i64 x, .int .i64 y] w (RkP (.ok (tr (decide (x = y)))) w) := by
  have HOD := fun b => Lib.hid (decide_eq_true (tr_ok9 b))
  by_cases ht : x = y
  · have e : decide (x = y) = true := decide_eq_true ht
    rw [e]; clear e
    go_enter Tryd.func61, Tryd.ntmps61
    go_wp2_with (first | (go_at_call 78; refine (rtruth_any _ _).mono ?_; rintro e w' ⟨rfl, rfl⟩) | (go_at_call 43; refine (rwithin_is _ true (HOD _).out _).mono ?_; rintro e w' ⟨rfl, rfl⟩))
    go_ret2
    exact ⟨rfl, by simp [*]⟩
  · have e : decide (x = y) = false := decide_eq_false ht
    rw [e]; clear e
    go_enter Tryd.func61, Tryd.ntmps61
    go_wp2_with (first | (go_at_call 78; refine (rtruth_any _ _).mono ?_; rintro e w' ⟨rfl, rfl⟩) | (go_at_call 43; refine (rwithin_is _ true (HOD _).out _).mono ?_; rintro e w' ⟨rfl, rfl⟩))
    go_ret2
    exact ⟨rfl, by have hb : (x == y) = false := by simpa using ht
                   simp [hb]⟩
theorem rk_eqeq (x y : Int) (w : World) : Calls Tryd.prog 61 #[OS [61, 61], .int .i64 x, .int .i64 y] w (RkP (.ok (tr (decide (x = y)))) w) := by
  have HOD := fun b => Lib.hid (decide_eq_true (tr_ok9 b))
  by_cases ht : x = y
  · have e : decide (x = y) = true := decide_eq_true ht
    rw [e]; clear e
    go_enter Tryd.func61, Tryd.ntmps61
    go_wp2_with (first | (go_at_call 78; refine (rtruth_any _ _).mono ?_; rintro e w' ⟨rfl, rfl⟩) | (go_at_call 43; refine (rwithin_is _ true (HOD _).out _).mono ?_; rintro e w' ⟨rfl, rfl⟩))
    go_ret2
    exact ⟨rfl, by simp [*]⟩
  · have e : decide (x = y) = false := decide_eq_false ht
    rw [e]; clear e
    go_enter Tryd.func61, Tryd.ntmps61
    go_wp2_with (first | (go_at_call 78; refine (rtruth_any _ _).mono ?_; rintro e w' ⟨rfl, rfl⟩) | (go_at_call 43; refine (rwithin_is _ true (HOD _).out _).mono ?_; rintro e w' ⟨rfl, rfl⟩))
    go_ret2
    exact ⟨rfl, by have hb : (x == y) = false := by simpa using ht
                   simp [hb]⟩
instance (c : UInt8) : Decidable (isOp c) := by unfold isOp; infer_instance
theorem rk_and (x y : Int) (w : World) : Calls Tryd.prog 61 #[OS [38], .int .i64 x, .int .i64 y] w (RkP (.ok (tr (decide (0 < x ∧ 0 < y)))) w) := by
  have HOD := fun b => Lib.hid (decide_eq_true (tr_ok9 b))
  by_cases hx : 0 < x
  · have ex : decide (0 < x) = true := decide_eq_true hx
    by_cases hy : 0 < y
    · have ey : decide (0 < y) = true := decide_eq_true hy
      have e : decide (0 < x ∧ 0 < y) = true := by simp [hx, hy]
      rw [e]; clear e
      go_enter Tryd.func61, Tryd.ntmps61
      go_wp2_with (first | (go_at_call 78; refine (rtruth_any _ _).mono ?_; rintro e w' ⟨rfl, rfl⟩) | (go_at_call 43; refine (rwithin_is _ true (HOD _).out _).mono ?_; rintro e w' ⟨rfl, rfl⟩))
      go_ret2
      exact ⟨rfl, rfl⟩
    · have ey : decide (0 < y) = false := decide_eq_false hy
      have e : decide (0 < x ∧ 0 < y) = false := by simp [hx, hy]
      rw [e]; clear e
      go_enter Tryd.func61, Tryd.ntmps61
      go_wp2_with (first | (go_at_call 78; refine (rtruth_any _ _).mono ?_; rintro e w' ⟨rfl, rfl⟩) | (go_at_call 43; refine (rwithin_is _ true (HOD _).out _).mono ?_; rintro e w' ⟨rfl, rfl⟩))
      go_ret2
      exact ⟨rfl, rfl⟩
  · have ex : decide (0 < x) = false := decide_eq_false hx
    by_cases hy : 0 < y
    · have ey : decide (0 < y) = true := decide_eq_true hy
      have e : decide (0 < x ∧ 0 < y) = false := by simp [hx, hy]
      rw [e]; clear e
      go_enter Tryd.func61, Tryd.ntmps61
      go_wp2_with (first | (go_at_call 78; refine (rtruth_any _ _).mono ?_; rintro e w' ⟨rfl, rfl⟩) | (go_at_call 43; refine (rwithin_is _ true (HOD _).out _).mono ?_; rintro e w' ⟨rfl, rfl⟩))
      go_ret2
      exact ⟨rfl, rfl⟩
    · have ey : decide (0 < y) = false := decide_eq_false hy
      have e : decide (0 < x ∧ 0 < y) = false := by simp [hx, hy]
      rw [e]; clear e
      go_enter Tryd.func61, Tryd.ntmps61
      go_wp2_with (first | (go_at_call 78; refine (rtruth_any _ _).mono ?_; rintro e w' ⟨rfl, rfl⟩) | (go_at_call 43; refine (rwithin_is _ true (HOD _).out _).mono ?_; rintro e w' ⟨rfl, rfl⟩))
      go_ret2
      exact ⟨rfl, rfl⟩
theorem rk_or (x y : Int) (w : World) : Calls Tryd.prog 61 #[OS [58], .int .i64 x, .int .i64 y] w (RkP (.ok (tr (decide (0 < x ∨ 0 < y)))) w) := by
  have HOD := fun b => Lib.hid (decide_eq_true (tr_ok9 b))
  by_cases hx : 0 < x
  · have ex : decide (0 < x) = true := decide_eq_true hx
    by_cases hy : 0 < y
    · have ey : decide (0 < y) = true := decide_eq_true hy
      have e : decide (0 < x ∨ 0 < y) = true := by simp [hx, hy]
      rw [e]; clear e
      go_enter Tryd.func61, Tryd.ntmps61
      go_wp2_with (first | (go_at_call 78; refine (rtruth_any _ _).mono ?_; rintro e w' ⟨rfl, rfl⟩) | (go_at_call 43; refine (rwithin_is _ true (HOD _).out _).mono ?_; rintro e w' ⟨rfl, rfl⟩))
      go_ret2
      exact ⟨rfl, rfl⟩
    · have ey : decide (0 < y) = false := decide_eq_false hy
      have e : decide (0 < x ∨ 0 < y) = true := by simp [hx, hy]
      rw [e]; clear e
      go_enter Tryd.func61, Tryd.ntmps61
      go_wp2_with (first | (go_at_call 78; refine (rtruth_any _ _).mono ?_; rintro e w' ⟨rfl, rfl⟩) | (go_at_call 43; refine (rwithin_is _ true (HOD _).out _).mono ?_; rintro e w' ⟨rfl, rfl⟩))
      go_ret2
      exact ⟨rfl, rfl⟩
  · have ex : decide (0 < x) = false := decide_eq_false hx
    by_cases hy : 0 < y
    · have ey : decide (0 < y) = true := decide_eq_true hy
      have e : decide (0 < x ∨ 0 < y) = true := by simp [hx, hy]
      rw [e]; clear e
      go_enter Tryd.func61, Tryd.ntmps61
      go_wp2_with (first | (go_at_call 78; refine (rtruth_any _ _).mono ?_; rintro e w' ⟨rfl, rfl⟩) | (go_at_call 43; refine (rwithin_is _ true (HOD _).out _).mono ?_; rintro e w' ⟨rfl, rfl⟩))
      go_ret2
      exact ⟨rfl, rfl⟩
    · have ey : decide (0 < y) = false := decide_eq_false hy
      have e : decide (0 < x ∨ 0 < y) = false := by simp [hx, hy]
      rw [e]; clear e
      go_enter Tryd.func61, Tryd.ntmps61
      go_wp2_with (first | (go_at_call 78; refine (rtruth_any _ _).mono ?_; rintro e w' ⟨rfl, rfl⟩) | (go_at_call 43; refine (rwithin_is _ true (HOD _).out _).mono ?_; rintro e w' ⟨rfl, rfl⟩))
      go_ret2
      exact ⟨rfl, rfl⟩
theorem rk_any (o : List UInt8) (ho : o ∈ tbl) (x y : Int) (hx : ok9 x) (hy : ok9 y) (w : World) : Calls Tryd.prog 61 #[OS o, .int .i64 x, .int .i64 y] w (RkP (reck o x y) w) := by
  simp only [tbl, List.mem_cons, List.not_mem_nil, or_false] at ho
  rcases ho with rfl | rfl | rfl | rfl | rfl | rfl | rfl | rfl | rfl | rfl | rfl | rfl | rfl
  · have := rk_le x y w; rw [show reck [60, 61] x y = .ok (tr (decide (x ≤ y))) by simp [reck]]; exact this
  · have := rk_ge x y w; rw [show reck [62, 61] x y = .ok (tr (decide (y ≤ x))) by simp [reck]]; exact this
  · have := rk_eqeq x y w; rw [show reck [61, 61] x y = .ok (tr (decide (x = y))) by simp [reck]]; exact this
  · have := rk_lt x y w; rw [show reck [60] x y = .ok (tr (decide (x < y))) by simp [reck]]; exact this
  · have := rk_gt x y w; rw [show reck [62] x y = .ok (tr (decide (y < x))) by simp [reck]]; exact this
  · have := rk_eq x y w; rw [show reck [61] x y = .ok (tr (decide (x = y))) by simp [reck]]; exact this
  · have := rk_add x y hx hy w; rw [show reck [43] x y = chk (x + y) by simp [reck]]; exact this
  · have := rk_sub x y hx hy w; rw [show reck [45] x y = chk (x - y) by simp [reck]]; exact this
  · have := rk_mul x y hx hy w; rw [show reck [42] x y = chk (x * y) by simp [reck]]; exact this
  · exact rk_quo x y hx w
  · exact rk_rem x y hx w
  · have := rk_and x y w; rw [show reck [38] x y = .ok (tr (decide (0 < x ∧ 0 < y))) by simp [reck]]; exact this
  · have := rk_or x y w; rw [show reck [58] x y = .ok (tr (decide (0 < x ∨ 0 < y))) by simp [reck]]; exact this

/- Which operator stands there. -/
theorem opr_two (l : List UInt8) (p : Nat) (c d : UInt8) (rest : List UInt8) (h : l.drop p = c :: d :: rest) : opr l p = if d = 61 ∧ (c = 60 ∨ c = 62 ∨ c = 61) then [c, d] else if isOp c then [c] else [] := by
  unfold opr isOp
  rw [h]
  by_cases h1 : c = 60
  · subst h1; by_cases hd : d = 61
    · subst hd; rfl
    · have hd' : (61 == d) = false := by simpa using Ne.symm hd
      simp [tbl, List.find?, List.isPrefixOf, hd, hd']
  by_cases h2 : c = 62
  · subst h2; by_cases hd : d = 61
    · subst hd; rfl
    · have hd' : (61 == d) = false := by simpa using Ne.symm hd
      simp [tbl, List.find?, List.isPrefixOf, hd, hd']
  by_cases h3 : c = 61
  · subst h3; by_cases hd : d = 61
    · subst hd; rfl
    · have hd' : (61 == d) = false := by simpa using Ne.symm hd
      simp [tbl, List.find?, List.isPrefixOf, hd, hd']
  rw [if_neg (by rintro ⟨_, h | h | h⟩; exact h1 h; exact h2 h; exact h3 h)]
  by_cases ho : c = 43 ∨ c = 45 ∨ c = 42 ∨ c = 47 ∨ c = 37 ∨ c = 38 ∨ c = 58
  · rcases ho with rfl | rfl | rfl | rfl | rfl | rfl | rfl <;> simp [tbl, List.find?, List.isPrefixOf]
  · simp only [not_or] at ho
    obtain ⟨a1, a2, a3, a4, a5, a6, a7⟩ := ho
    have e : ∀ x : UInt8, c ≠ x → (x == c) = false := fun x hx => by simpa using Ne.symm hx
    simp [tbl, List.find?, List.isPrefixOf, e _ h1, e _ h2, e _ h3, e _ a1, e _ a2, e _ a3, e _ a4, e _ a5, e _ a6, e _ a7, h1, h2, h3, a1, a2, a3, a4, a5, a6, a7]
theorem opr_last (l : List UInt8) (p : Nat) (c : UInt8) (h : l.drop p = [c]) : opr l p = if isOp c then [c] else [] := by
  unfold opr
  rw [h]
  by_cases ho : isOp c
  · rw [if_pos ho]
    unfold isOp at ho
    rcases ho with rfl | rfl | rfl | rfl | rfl | rfl | rfl | rfl | rfl | rfl <;> rfl
  · rw [if_neg ho]
    unfold isOp at ho
    simp only [not_or] at ho
    obtain ⟨a1, a2, a3, a4, a5, a6, a7, a8, a9, a10⟩ := ho
    have e : ∀ x : UInt8, c ≠ x → (x == c) = false := fun x hx => by simpa using Ne.symm hx
    simp [tbl, List.find?, List.isPrefixOf, e _ a1, e _ a2, e _ a3, e _ a4, e _ a5, e _ a6, e _ a7, e _ a8, e _ a9, e _ a10]
end Go.Proofs.YteihpeffaeahlaaDoor
