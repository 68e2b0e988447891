/- Contracts: signs and operators. -/
import Derived.Test.YteihpeffaeahlaaDoorW4
import Derived.Test.YteihpeffaeahlaaDoorExpr
namespace Go.Proofs.YteihpeffaeahlaaDoor
open Go.RowKit
set_option maxRecDepth 100000
/-- What reckoning comes to: a value (the very one, unless the form alone is asked), or an error that is thrown. -/
def OutP (fm : Bool) (R : Except Int Int) (w : World) (e : Ending) (w' : World) : Prop :=
  w' = w ∧ ((∃ v, ok9 v ∧ e = .returned (.int .i64 v) ∧ (fm = false → R = .ok v)) ∨ (∃ x, e = thrown x ∧ fm = false ∧ R = .error x))
theorem OutP.val {fm : Bool} {R : Except Int Int} {w : World} {v : Int} (hv : ok9 v) (h : R = .ok v) : OutP fm R w (.returned (.int .i64 v)) w := ⟨rfl, .inl ⟨v, hv, rfl, fun _ => h⟩⟩
theorem ok9_tr (b : Bool) : ok9 (tr b) := by cases b <;> decide
section
variable {b : Nat} {r : RS} {p dp wh : Nat} {w : World}
/-- within, whatever comes. -/
theorem within_any (n : Int) (h : Has 64 b r p dp wh w) : Calls Tryd.prog 72 #[RP b, .int .i64 n] w (OutP r.fm (chk n) w) := by
  by_cases hn : ok9 n
  · refine (within_ok n hn).mono ?_
    rintro e w' ⟨rfl, rfl⟩
    exact OutP.val hn (by unfold chk; rw [if_pos hn])
  · cases hf : r.fm with
    | true =>
      refine (within_form n hn h hf).mono ?_
      rintro e w' ⟨rfl, rfl⟩
      exact ⟨rfl, .inl ⟨0, by decide, rfl, by simp⟩⟩
    | false =>
      refine (within_bad n hn h hf).mono ?_
      rintro e w' ⟨rfl, rfl⟩
      exact ⟨rfl, .inr ⟨5, rfl, rfl, by unfold chk; rw [if_neg hn]⟩⟩

theorem signed_neg (v : Int) (hv : ok9 v) : Calls Tryd.prog 70 #[RP b, .int .u8 45, .int .i64 v] w fun e w' => e = .returned (.int .i64 (-v)) ∧ w' = w := by
  have hv' : -1000000000 ≤ v ∧ v ≤ 1000000000 := hv
  clear hv
  go_enter Tryd.func70, Tryd.ntmps70
  go_wp2_with fail
  go_ret
  exact ⟨rfl, rfl⟩
theorem signed_not (v : Int) : Calls Tryd.prog 70 #[RP b, .int .u8 33, .int .i64 v] w fun e w' => e = .returned (.int .i64 (tr (decide (v ≤ 0)))) ∧ w' = w := by
  go_enter Tryd.func70, Tryd.ntmps70
  go_wp2_with (go_at_call 74; refine (truth_any _ _).mono ?_; rintro e w' ⟨rfl, rfl⟩)
  all_goals
    go_ret
    exact ⟨rfl, rfl⟩
theorem signed_here (v : Int) (hv : ok9 v) (h : Has 64 b r p dp wh w) (hr : ok9 r.hr) : Calls Tryd.prog 70 #[RP b, .int .u8 124, .int .i64 v] w (OutP r.fm (chk (v - r.hr)) w) := by
  have hv' : -1000000000 ≤ v ∧ v ≤ 1000000000 := hv
  have hr' : -1000000000 ≤ r.hr ∧ r.hr ≤ 1000000000 := hr
  have c5 := h.c5
  have H := Lib.hid h
  clear hv hr h
  go_enter Tryd.func70, Tryd.ntmps70
  go_wp2_with fail
  refine (within_any (v - r.hr) H.out).mono ?_
  rintro e w' ⟨rfl, ⟨v', g1, rfl, g2⟩ | ⟨x, rfl, g1, g2⟩⟩
  · have G := Lib.hid (And.intro g1 g2)
    clear g1 g2
    go_wp2_with fail
    go_ret
    exact ⟨rfl, .inl ⟨v', G.out.1, rfl, G.out.2⟩⟩
  · exact ⟨rfl, rfl, .inr ⟨x, rfl, g1, g2⟩⟩
theorem signed_as (c : UInt8) (v : Int) (h1 : c ≠ 45) (h2 : c ≠ 33) (h3 : c ≠ 124) : Calls Tryd.prog 70 #[RP b, .int .u8 c.toNat, .int .i64 v] w fun e w' => e = .returned (.int .i64 v) ∧ w' = w := by
  have e1 : ((c.toNat : Int) == 45) = false := ne_b h1
  have e2 : ((c.toNat : Int) == 33) = false := ne_b h2
  have e3 : ((c.toNat : Int) == 124) = false := ne_b h3
  clear h1 h2 h3
  go_enter Tryd.func70, Tryd.ntmps70
  go_wp2_with fail
  go_ret
  exact ⟨rfl, rfl⟩
theorem signed_any (c : UInt8) (v : Int) (hv : ok9 v) (h : Has 64 b r p dp wh w) (hr : ok9 r.hr) : Calls Tryd.prog 70 #[RP b, .int .u8 c.toNat, .int .i64 v] w (OutP r.fm (sgn r.hr c v) w) := by
  by_cases h1 : c = 45
  · subst h1
    refine (signed_neg v hv).mono ?_
    rintro e w' ⟨rfl, rfl⟩
    exact OutP.val (by unfold ok9 at *; omega) (by unfold sgn; rw [if_pos rfl])
  by_cases h2 : c = 33
  · subst h2
    refine (signed_not v).mono ?_
    rintro e w' ⟨rfl, rfl⟩
    exact OutP.val (ok9_tr _) (by unfold sgn; rw [if_neg (by decide), if_pos rfl])
  by_cases h3 : c = 124
  · subst h3
    have := signed_here v hv h hr
    unfold sgn; rw [if_neg (by decide), if_neg (by decide), if_pos rfl]; exact this
  · refine (signed_as c v h1 h2 h3).mono ?_
    rintro e w' ⟨rfl, rfl⟩
    exact OutP.val hv (by unfold sgn; rw [if_neg h1, if_neg h2, if_neg h3])

/- Operators. -/
abbrev OS (l : List UInt8) : Value := .string ⟨l.toArray⟩
theorem divide_zero (o : List UInt8) (x : Int) (h : Has 64 b r p dp wh w) (hf : r.fm = false) : Calls Tryd.prog 73 #[RP b, OS o, .int .i64 x, .int .i64 0] w fun e w' => e = thrown 11 ∧ w' = w := by
  have H := Lib.hid h
  have HF := Lib.hid hf
  clear h hf
  go_enter Tryd.func73, Tryd.ntmps73
  go_wp2_with (go_at_call 67; refine (fail_throws 11 H.out HF.out rfl).mono ?_; rintro e w' ⟨rfl, rfl⟩)
  exact ⟨rfl, rfl, rfl⟩
theorem divide_zerof (o : List UInt8) (x : Int) (h : Has 64 b r p dp wh w) (hf : r.fm = true) : Calls Tryd.prog 73 #[RP b, OS o, .int .i64 x, .int .i64 0] w fun e w' => e = .returned (.int .i64 0) ∧ w' = w := by
  have H := Lib.hid h
  have HF := Lib.hid hf
  clear h hf
  go_enter Tryd.func73, Tryd.ntmps73
  go_wp2_with (go_at_call 67; refine (fail_passes 11 H.out HF.out rfl).mono ?_; rintro e w' ⟨rfl, rfl⟩)
  go_ret
  exact ⟨rfl, rfl⟩
theorem divide_quo (x y : Int) (hy : ¬ y = 0) : Calls Tryd.prog 73 #[RP b, OS [47], .int .i64 x, .int .i64 y] w fun e w' => e = .returned (.int .i64 (wrap64 (x.tdiv y))) ∧ w' = w := by
  have hy' : (y == 0) = false := by simpa using hy
  go_enter Tryd.func73, Tryd.ntmps73
  go_wp2_with fail
  go_ret
  exact ⟨rfl, rfl⟩
theorem divide_rem (x y : Int) (hy : ¬ y = 0) : Calls Tryd.prog 73 #[RP b, OS [37], .int .i64 x, .int .i64 y] w fun e w' => e = .returned (.int .i64 (x.tmod y)) ∧ w' = w := by
  have hy' : (y == 0) = false := by simpa using hy
  go_enter Tryd.func73, Tryd.ntmps73
  go_wp2_with fail
  go_ret
  exact ⟨rfl, rfl⟩
theorem divide_any (o : List UInt8) (ho : o = [47] ∨ o = [37]) (x y : Int) (hx : ok9 x) (h : Has 64 b r p dp wh w) : Calls Tryd.prog 73 #[RP b, OS o, .int .i64 x, .int .i64 y] w (OutP r.fm (reck o x y) w) := by
  have hx' : -1000000000 ≤ x ∧ x ≤ 1000000000 := hx
  by_cases hy : y = 0
  · subst hy
    have hz : reck o x 0 = .error 11 := by rcases ho with rfl | rfl <;> simp [reck]
    rw [hz]
    cases hf : r.fm with
    | true =>
      refine (divide_zerof o x h hf).mono ?_
      rintro e w' ⟨rfl, rfl⟩
      exact ⟨rfl, .inl ⟨0, by decide, rfl, by simp⟩⟩
    | false =>
      refine (divide_zero o x h hf).mono ?_
      rintro e w' ⟨rfl, rfl⟩
      exact ⟨rfl, .inr ⟨11, rfl, rfl, rfl⟩⟩
  · have h1 : (x.tdiv y).natAbs ≤ x.natAbs := by rw [Int.natAbs_tdiv]; exact Nat.div_le_self _ _
    have h2 : (x.tmod y).natAbs ≤ x.natAbs := by rw [Int.natAbs_tmod]; exact Nat.mod_le _ _
    rcases ho with rfl | rfl
    · refine (divide_quo x y hy).mono ?_
      rintro e w' ⟨rfl, rfl⟩
      rw [show wrap64 (x.tdiv y) = x.tdiv y from IntWalk.wrap64_in _ (by omega)]
      exact OutP.val (by unfold ok9; omega) (by simp [reck, hy])
    · refine (divide_rem x y hy).mono ?_
      rintro e w' ⟨rfl, rfl⟩
      exact OutP.val (by unfold ok9; omega) (by simp [reck, hy])

theorem _root_.Go.Proofs.YteihpeffaeahlaaDoor.mul9 {x y : Int} (hx : ok9 x) (hy : ok9 y) : -1000000000000000000 ≤ x * y ∧ x * y ≤ 1000000000000000000 := by
  have h : (x * y).natAbs ≤ 1000000000 * 1000000000 := by rw [Int.natAbs_mul]; exact Nat.mul_le_mul (by unfold ok9 at hx; omega) (by unfold ok9 at hy; omega)
  omega
theorem apply_add (x y : Int) (hx : ok9 x) (hy : ok9 y) (h : Has 64 b r p dp wh w) : Calls Tryd.prog 54 #[RP b, OS [43], .int .i64 x, .int .i64 y] w (OutP r.fm (chk (x + y)) w) := by
  have hx' : -1000000000 ≤ x ∧ x ≤ 1000000000 := hx
  have hy' : -1000000000 ≤ y ∧ y ≤ 1000000000 := hy
  have H := Lib.hid h
  clear hx hy h
  go_enter Tryd.func54, Tryd.ntmps54
  go_wp2_with fail
  refine (within_any (x + y) H.out).mono ?_
  rintro e w' ⟨rfl, ⟨v', g1, rfl, g2⟩ | ⟨z, rfl, g1, g2⟩⟩
  · have G := Lib.hid (And.intro g1 g2)
    clear g1 g2
    go_wp2_with fail
    go_ret
    exact ⟨rfl, .inl ⟨v', G.out.1, rfl, G.out.2⟩⟩
  · exact ⟨rfl, rfl, .inr ⟨z, rfl, g1, g2⟩⟩
theorem apply_sub (x y : Int) (hx : ok9 x) (hy : ok9 y) (h : Has 64 b r p dp wh w) : Calls Tryd.prog 54 #[RP b, OS [45], .int .i64 x, .int .i64 y] w (OutP r.fm (chk (x - y)) w) := by
  have hx' : -1000000000 ≤ x ∧ x ≤ 1000000000 := hx
  have hy' : -1000000000 ≤ y ∧ y ≤ 1000000000 := hy
  have H := Lib.hid h
  clear hx hy h
  go_enter Tryd.func54, Tryd.ntmps54
  go_wp2_with fail
  refine (within_any (x - y) H.out).mono ?_
  rintro e w' ⟨rfl, ⟨v', g1, rfl, g2⟩ | ⟨z, rfl, g1, g2⟩⟩
  · have G := Lib.hid (And.intro g1 g2)
    clear g1 g2
    go_wp2_with fail
    go_ret
    exact ⟨rfl, .inl ⟨v', G.out.1, rfl, G.out.2⟩⟩
  · exact ⟨rfl, rfl, .inr ⟨z, rfl, g1, g2⟩⟩
theorem apply_mul (x y : Int) (hx : ok9 x) (hy : ok9 y) (h : Has 64 b r p dp wh w) : Calls Tryd.prog 54 #[RP b, OS [42], .int .i64 x, .int .i64 y] w (OutP r.fm (chk (x * y)) w) := by
  have hx' : -1000000000 ≤ x ∧ x ≤ 1000000000 := hx
  have hy' : -1000000000 ≤ y ∧ y ≤ 1000000000 := hy
  have hm := mul9 hx hy
  have H := Lib.hid h
  clear hx hy h
  go_enter Tryd.func54, Tryd.ntmps54
  go_wp2_with fail
  refine (within_any (x * y) H.out).mono ?_
  rintro e w' ⟨rfl, ⟨v', g1, rfl, g2⟩ | ⟨z, rfl, g1, g2⟩⟩
  · have G := Lib.hid (And.intro g1 g2)
    clear g1 g2
    go_wp2_with fail
    go_ret
    exact ⟨rfl, .inl ⟨v', G.out.1, rfl, G.out.2⟩⟩
  · exact ⟨rfl, rfl, .inr ⟨z, rfl, g1, g2⟩⟩
theorem apply_quo (x y : Int) (hx : ok9 x) (h : Has 64 b r p dp wh w) : Calls Tryd.prog 54 #[RP b, OS [47], .int .i64 x, .int .i64 y] w (OutP r.fm (reck [47] x y) w) := by
  have HX := Lib.hid hx
  have H := Lib.hid h
  clear hx h
  go_enter Tryd.func54, Tryd.ntmps54
  go_wp2_with fail
  refine (divide_any [47] (by simp) x y HX.out H.out).mono ?_
  rintro e w' ⟨rfl, ⟨v', g1, rfl, g2⟩ | ⟨z, rfl, g1, g2⟩⟩
  · have G := Lib.hid (And.intro g1 g2)
    clear g1 g2
    go_wp2_with fail
    go_ret
    exact ⟨rfl, .inl ⟨v', G.out.1, rfl, G.out.2⟩⟩
  · exact ⟨rfl, rfl, .inr ⟨z, rfl, g1, g2⟩⟩
theorem apply_rem (x y : Int) (hx : ok9 x) (h : Has 64 b r p dp wh w) : Calls Tryd.prog 54 #[RP b, OS [37], .int .i64 x, .int .i64 y] w (OutP r.fm (reck [37] x y) w) := by
  have HX := Lib.hid hx
  have H := Lib.hid h
  clear hx h
  go_enter Tryd.func54, Tryd.ntmps54
  go_wp2_with fail
  refine (divide_any [37] (by simp) x y HX.out H.out).mono ?_
  rintro e w' ⟨rfl, ⟨v', g1, rfl, g2⟩ | ⟨z, rfl, g1, g2⟩⟩
  · have G := Lib.hid (And.intro g1 g2)
    clear g1 g2
    go_wp2_with fail
    go_ret
    exact ⟨rfl, .inl ⟨v', G.out.1, rfl, G.out.2⟩⟩
  · exact ⟨rfl, rfl, .inr ⟨z, rfl, g1, g2⟩⟩
theorem apply_lt (x y : Int) : Calls Tryd.prog 54 #[RP b, OS [60], .int .i64 x, .int .i64 y] w fun e w' => e = .returned (.int .i64 (tr (decide (x < y)))) ∧ w' = w := by
  go_enter Tryd.func54, Tryd.ntmps54
  by_cases ht : x < y
  · go_wp2_with (go_at_call 74; refine (truth_any _ _).mono ?_; rintro e w' ⟨rfl, rfl⟩)
    go_ret
    exact ⟨by simp [tr, ht], rfl⟩
  · go_wp2_with (go_at_call 74; refine (truth_any _ _).mono ?_; rintro e w' ⟨rfl, rfl⟩)
    go_ret
    exact ⟨by simp [tr, ht], rfl⟩
theorem apply_gt (x y : Int) : Calls Tryd.prog 54 #[RP b, OS [62], .int .i64 x, .int .i64 y] w fun e w' => e = .returned (.int .i64 (tr (decide (y < x)))) ∧ w' = w := by
  go_enter Tryd.func54, Tryd.ntmps54
  by_cases ht : y < x
  · go_wp2_with (go_at_call 74; refine (truth_any _ _).mono ?_; rintro e w' ⟨rfl, rfl⟩)
    go_ret
    exact ⟨by simp [tr, ht], rfl⟩
  · go_wp2_with (go_at_call 74; refine (truth_any _ _).mono ?_; rintro e w' ⟨rfl, rfl⟩)
    go_ret
    exact ⟨by simp [tr, ht], rfl⟩
theorem apply_le (x y : Int) : Calls Tryd.prog 54 #[RP b, OS [60, 61], .int .i64 x, .int .i64 y] w fun e w' => e = .returned (.int .i64 (tr (decide (x ≤ y)))) ∧ w' = w := by
  go_enter Tryd.func54, Tryd.ntmps54
  by_cases ht : x ≤ y
  · go_wp2_with (go_at_call 74; refine (truth_any _ _).mono ?_; rintro e w' ⟨rfl, rfl⟩)
    go_ret
    exact ⟨by simp [tr, ht], rfl⟩
  · go_wp2_with (go_at_call 74; refine (truth_any _ _).mono ?_; rintro e w' ⟨rfl, rfl⟩)
    go_ret
    exact ⟨by simp [tr, ht], rfl⟩
theorem apply_ge (x y : Int) : Calls Tryd.prog 54 #[RP b, OS [62, 61], .int .i64 x, .int .i64 y] w fun e w' => e = .returned (.int .i64 (tr (decide (y ≤ x)))) ∧ w' = w := by
  go_enter Tryd.func54, Tryd.ntmps54
  by_cases ht : y ≤ x
  · go_wp2_with (go_at_call 74; refine (truth_any _ _).mono ?_; rintro e w' ⟨rfl, rfl⟩)
    go_ret
    exact ⟨by simp [tr, ht], rfl⟩
  · go_wp2_with (go_at_call 74; refine (truth_any _ _).mono ?_; rintro e w' ⟨rfl, rfl⟩)
    go_ret
    exact ⟨by simp [tr, ht], rfl⟩
theorem apply_eq (x y : Int) : Calls Tryd.prog 54 #[RP b, OS [61], .int .i64 x, .int .i64 y] w fun e w' => e = .returned (.int .i64 (tr (decide (x = y)))) ∧ w' = w := by
  go_enter Tryd.func54, Tryd.ntmps54
  by_cases ht : x = y
  · go_wp2_with (go_at_call 74; refine (truth_any _ _).mono ?_; rintro e w' ⟨rfl, rfl⟩)
    go_ret
    exact ⟨by simp [tr, ht], rfl⟩
  · go_wp2_with (go_at_call 74; refine (truth_any _ _).mono ?_; rintro e w' ⟨rfl, rfl⟩)
    go_ret
    exact ⟨by simp [tr, ht], rfl⟩
theorem apply_eqeq (x y : Int) : Calls Tryd.prog 54 #[RP b, OS [61, 61], .int .i64 x, .int .i64 y] w fun e w' => e = .returned (.int .i64 (tr (decide (x = y)))) ∧ w' = w := by
  go_enter Tryd.func54, Tryd.ntmps54
  by_cases ht : x = y
  · go_wp2_with (go_at_call 74; refine (truth_any _ _).mono ?_; rintro e w' ⟨rfl, rfl⟩)
    go_ret
    exact ⟨by simp [tr, ht], rfl⟩
  · go_wp2_with (go_at_call 74; refine (truth_any _ _).mono ?_; rintro e w' ⟨rfl, rfl⟩)
    go_ret
    exact ⟨by simp [tr, ht], rfl⟩
theorem apply_and (x y : Int) : Calls Tryd.prog 54 #[RP b, OS [38], .int .i64 x, .int .i64 y] w fun e w' => e = .returned (.int .i64 (tr (decide (0 < x ∧ 0 < y)))) ∧ w' = w := by
  by_cases hx : 0 < x
  · have ex : decide (0 < x) = true := decide_eq_true hx
    by_cases hy : 0 < y
    · have ey : decide (0 < y) = true := decide_eq_true hy
      go_enter Tryd.func54, Tryd.ntmps54
      go_wp2_with (go_at_call 74; refine (truth_any _ _).mono ?_; rintro e w' ⟨rfl, rfl⟩)
      go_ret
      exact ⟨by simp [tr, hx, hy], rfl⟩
    · have ey : decide (0 < y) = false := decide_eq_false hy
      go_enter Tryd.func54, Tryd.ntmps54
      go_wp2_with (go_at_call 74; refine (truth_any _ _).mono ?_; rintro e w' ⟨rfl, rfl⟩)
      go_ret
      exact ⟨by simp [tr, hx, ey], rfl⟩
  · have ex : decide (0 < x) = false := decide_eq_false hx
    by_cases hy : 0 < y
    · have ey : decide (0 < y) = true := decide_eq_true hy
      go_enter Tryd.func54, Tryd.ntmps54
      go_wp2_with (go_at_call 74; refine (truth_any _ _).mono ?_; rintro e w' ⟨rfl, rfl⟩)
      go_ret
      exact ⟨by simp [tr, ex, hy], rfl⟩
    · have ey : decide (0 < y) = false := decide_eq_false hy
      go_enter Tryd.func54, Tryd.ntmps54
      go_wp2_with (go_at_call 74; refine (truth_any _ _).mono ?_; rintro e w' ⟨rfl, rfl⟩)
      go_ret
      exact ⟨by simp [tr, ex, ey], rfl⟩
theorem apply_or (x y : Int) : Calls Tryd.prog 54 #[RP b, OS [58], .int .i64 x, .int .i64 y] w fun e w' => e = .returned (.int .i64 (tr (decide (0 < x ∨ 0 < y)))) ∧ w' = w := by
  by_cases hx : 0 < x
  · have ex : decide (0 < x) = true := decide_eq_true hx
    by_cases hy : 0 < y
    · have ey : decide (0 < y) = true := decide_eq_true hy
      go_enter Tryd.func54, Tryd.ntmps54
      go_wp2_with (go_at_call 74; refine (truth_any _ _).mono ?_; rintro e w' ⟨rfl, rfl⟩)
      go_ret
      exact ⟨by simp [tr, hx, hy], rfl⟩
    · have ey : decide (0 < y) = false := decide_eq_false hy
      go_enter Tryd.func54, Tryd.ntmps54
      go_wp2_with (go_at_call 74; refine (truth_any _ _).mono ?_; rintro e w' ⟨rfl, rfl⟩)
      go_ret
      exact ⟨by simp [tr, hx, ey], rfl⟩
  · have ex : decide (0 < x) = false := decide_eq_false hx
    by_cases hy : 0 < y
    · have ey : decide (0 < y) = true := decide_eq_true hy
      go_enter Tryd.func54, Tryd.ntmps54
      go_wp2_with (go_at_call 74; refine (truth_any _ _).mono ?_; rintro e w' ⟨rfl, rfl⟩)
      go_ret
      exact ⟨by simp [tr, ex, hy], rfl⟩
    · have ey : decide (0 < y) = false := decide_eq_false hy
      go_enter Tryd.func54, Tryd.ntmps54
      go_wp2_with (go_at_call 74; refine (truth_any _ _).mono ?_; rintro e w' ⟨rfl, rfl⟩)
      go_ret
      exact ⟨by simp [tr, ex, ey], rfl⟩
theorem apply_any (o : List UInt8) (ho : o ∈ tbl) (x y : Int) (hx : ok9 x) (hy : ok9 y) (h : Has 64 b r p dp wh w) : Calls Tryd.prog 54 #[RP b, OS o, .int .i64 x, .int .i64 y] w (OutP r.fm (reck o x y) w) := by
  simp only [tbl, List.mem_cons, List.not_mem_nil, or_false] at ho
  rcases ho with rfl | rfl | rfl | rfl | rfl | rfl | rfl | rfl | rfl | rfl | rfl | rfl | rfl
  · refine (apply_le x y).mono ?_; rintro e w' ⟨rfl, rfl⟩; exact OutP.val (ok9_tr _) (by simp [reck])
  · refine (apply_ge x y).mono ?_; rintro e w' ⟨rfl, rfl⟩; exact OutP.val (ok9_tr _) (by simp [reck])
  · refine (apply_eqeq x y).mono ?_; rintro e w' ⟨rfl, rfl⟩; exact OutP.val (ok9_tr _) (by simp [reck])
  · refine (apply_lt x y).mono ?_; rintro e w' ⟨rfl, rfl⟩; exact OutP.val (ok9_tr _) (by simp [reck])
  · refine (apply_gt x y).mono ?_; rintro e w' ⟨rfl, rfl⟩; exact OutP.val (ok9_tr _) (by simp [reck])
  · refine (apply_eq x y).mono ?_; rintro e w' ⟨rfl, rfl⟩; exact OutP.val (ok9_tr _) (by simp [reck])
  · have := apply_add x y hx hy h; rw [show reck [43] x y = chk (x + y) by simp [reck]]; exact this
  · have := apply_sub x y hx hy h; rw [show reck [45] x y = chk (x - y) by simp [reck]]; exact this
  · have := apply_mul x y hx hy h; rw [show reck [42] x y = chk (x * y) by simp [reck]]; exact this
  · exact apply_quo x y hx h
  · exact apply_rem x y hx h
  · refine (apply_and x y).mono ?_; rintro e w' ⟨rfl, rfl⟩; exact OutP.val (ok9_tr _) (by simp [reck])
  · refine (apply_or x y).mono ?_; rintro e w' ⟨rfl, rfl⟩; exact OutP.val (ok9_tr _) (by simp [reck])
end
end Go.Proofs.YteihpeffaeahlaaDoor
