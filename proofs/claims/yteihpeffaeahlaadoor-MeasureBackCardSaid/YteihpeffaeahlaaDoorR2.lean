/- Contracts of the specification: units, contexts, blanks. -/
import Derived.Test.YteihpeffaeahlaaDoorR1
namespace Go.Proofs.YteihpeffaeahlaaDoor
open Go.RowKit
set_option maxRecDepth 100000
theorem runit_117 (sz vs hr : Int) (w : World) : Calls Tryd.prog 31 #[.int .u8 117, CX sz vs hr] w fun e w' => e = .returned (.int .i64 (1)) ∧ w' = w.alloc (CXp sz vs hr) := by
  go_enter Tryd.func31, Tryd.ntmps31
  go_wp2
  go_ret
  exact ⟨rfl, rfl⟩
theorem runit_112 (sz vs hr : Int) (w : World) : Calls Tryd.prog 31 #[.int .u8 112, CX sz vs hr] w fun e w' => e = .returned (.int .i64 (10)) ∧ w' = w.alloc (CXp sz vs hr) := by
  go_enter Tryd.func31, Tryd.ntmps31
  go_wp2
  go_ret
  exact ⟨rfl, rfl⟩
theorem runit_80 (sz vs hr : Int) (w : World) : Calls Tryd.prog 31 #[.int .u8 80, CX sz vs hr] w fun e w' => e = .returned (.int .i64 (120)) ∧ w' = w.alloc (CXp sz vs hr) := by
  go_enter Tryd.func31, Tryd.ntmps31
  go_wp2
  go_ret
  exact ⟨rfl, rfl⟩
theorem runit_105 (sz vs hr : Int) (w : World) : Calls Tryd.prog 31 #[.int .u8 105, CX sz vs hr] w fun e w' => e = .returned (.int .i64 (720)) ∧ w' = w.alloc (CXp sz vs hr) := by
  go_enter Tryd.func31, Tryd.ntmps31
  go_wp2
  go_ret
  exact ⟨rfl, rfl⟩
theorem runit_99 (sz vs hr : Int) (w : World) : Calls Tryd.prog 31 #[.int .u8 99, CX sz vs hr] w fun e w' => e = .returned (.int .i64 (283)) ∧ w' = w.alloc (CXp sz vs hr) := by
  go_enter Tryd.func31, Tryd.ntmps31
  go_wp2
  go_ret
  exact ⟨rfl, rfl⟩
theorem runit_109 (sz vs hr : Int) (w : World) : Calls Tryd.prog 31 #[.int .u8 109, CX sz vs hr] w fun e w' => e = .returned (.int .i64 (wrap64 (10 * sz))) ∧ w' = w.alloc (CXp sz vs hr) := by
  go_enter Tryd.func31, Tryd.ntmps31
  go_wp2
  go_ret
  exact ⟨rfl, rfl⟩
theorem runit_110 (sz vs hr : Int) (w : World) : Calls Tryd.prog 31 #[.int .u8 110, CX sz vs hr] w fun e w' => e = .returned (.int .i64 (wrap64 (5 * sz))) ∧ w' = w.alloc (CXp sz vs hr) := by
  go_enter Tryd.func31, Tryd.ntmps31
  go_wp2
  go_ret
  exact ⟨rfl, rfl⟩
theorem runit_118 (sz vs hr : Int) (w : World) : Calls Tryd.prog 31 #[.int .u8 118, CX sz vs hr] w fun e w' => e = .returned (.int .i64 (vs)) ∧ w' = w.alloc (CXp sz vs hr) := by
  go_enter Tryd.func31, Tryd.ntmps31
  go_wp2
  go_ret
  exact ⟨rfl, rfl⟩
theorem runit_some (k : UInt8) (sz vs hr u : Int) (h : unitK k sz vs = some u) (hc : cxOk sz vs) (w : World) : Calls Tryd.prog 31 #[.int .u8 k.toNat, CX sz vs hr] w fun e w' => e = .returned (.int .i64 u) ∧ w' = w.alloc (CXp sz vs hr) := by
  unfold cxOk at hc
  unfold unitK at h
  by_cases h1 : k = 117
  · subst h1; rw [if_pos rfl] at h; obtain rfl := Option.some.inj h
    exact runit_117 sz vs hr w
  rw [if_neg h1] at h
  by_cases h1 : k = 112
  · subst h1; rw [if_pos rfl] at h; obtain rfl := Option.some.inj h
    exact runit_112 sz vs hr w
  rw [if_neg h1] at h
  by_cases h1 : k = 80
  · subst h1; rw [if_pos rfl] at h; obtain rfl := Option.some.inj h
    exact runit_80 sz vs hr w
  rw [if_neg h1] at h
  by_cases h1 : k = 105
  · subst h1; rw [if_pos rfl] at h; obtain rfl := Option.some.inj h
    exact runit_105 sz vs hr w
  rw [if_neg h1] at h
  by_cases h1 : k = 99
  · subst h1; rw [if_pos rfl] at h; obtain rfl := Option.some.inj h
    exact runit_99 sz vs hr w
  rw [if_neg h1] at h
  by_cases h1 : k = 109
  · subst h1; rw [if_pos rfl] at h; obtain rfl := Option.some.inj h
    have := runit_109 sz vs hr w
    rw [show wrap64 (10 * sz) = 10 * sz from IntWalk.wrap64_in _ (by omega)] at this
    exact this
  rw [if_neg h1] at h
  by_cases h1 : k = 110
  · subst h1; rw [if_pos rfl] at h; obtain rfl := Option.some.inj h
    have := runit_110 sz vs hr w
    rw [show wrap64 (5 * sz) = 5 * sz from IntWalk.wrap64_in _ (by omega)] at this
    exact this
  rw [if_neg h1] at h
  by_cases h1 : k = 118
  · subst h1; rw [if_pos rfl] at h; obtain rfl := Option.some.inj h
    exact runit_118 sz vs hr w
  rw [if_neg h1] at h
  cases h
theorem fits_is (sz vs hr : Int) (t : Bool) (ht : (cxOk sz vs ∧ ok9 hr) ↔ t = true) (w : World) : Calls Tryd.prog 33 #[CX sz vs hr] w fun e w' => e = .returned (.bool t) ∧ w' = w.alloc (CXp sz vs hr) := by
  unfold cxOk ok9 at ht
  by_cases a1 : 0 ≤ sz
  · have d0 : decide (0 ≤ sz) = true := decide_eq_true a1
    by_cases a2 : sz ≤ 1000000
    · have d1 : decide (sz ≤ 1000000) = true := decide_eq_true a2
      by_cases a3 : 0 ≤ vs
      · have d2 : decide (0 ≤ vs) = true := decide_eq_true a3
        by_cases a4 : vs ≤ 1000000
        · have d3 : decide (vs ≤ 1000000) = true := decide_eq_true a4
          by_cases a5 : -1000000000 ≤ hr
          · have d4 : decide (-1000000000 ≤ hr) = true := decide_eq_true a5
            by_cases a6 : hr ≤ 1000000000
            · have d5 : decide (hr ≤ 1000000000) = true := decide_eq_true a6
              obtain rfl : t = true := ht.1 ⟨⟨a1, a2, a3, a4⟩, a5, a6⟩
              clear ht
              go_enter Tryd.func33, Tryd.ntmps33
              go_wp2
              go_ret
              exact ⟨rfl, rfl⟩
            · have d5 : decide (hr ≤ 1000000000) = false := decide_eq_false a6
              obtain rfl : t = false := by cases t with | false => rfl | true => have := ht.2 rfl; omega
              clear ht
              go_enter Tryd.func33, Tryd.ntmps33
              go_wp2
              go_ret
              exact ⟨rfl, rfl⟩
          · have d4 : decide (-1000000000 ≤ hr) = false := decide_eq_false a5
            obtain rfl : t = false := by cases t with | false => rfl | true => have := ht.2 rfl; omega
            clear ht
            go_enter Tryd.func33, Tryd.ntmps33
            go_wp2
            go_ret
            exact ⟨rfl, rfl⟩
        · have d3 : decide (vs ≤ 1000000) = false := decide_eq_false a4
          obtain rfl : t = false := by cases t with | false => rfl | true => have := ht.2 rfl; omega
          clear ht
          go_enter Tryd.func33, Tryd.ntmps33
          go_wp2
          go_ret
          exact ⟨rfl, rfl⟩
      · have d2 : decide (0 ≤ vs) = false := decide_eq_false a3
        obtain rfl : t = false := by cases t with | false => rfl | true => have := ht.2 rfl; omega
        clear ht
        go_enter Tryd.func33, Tryd.ntmps33
        go_wp2
        go_ret
        exact ⟨rfl, rfl⟩
    · have d1 : decide (sz ≤ 1000000) = false := decide_eq_false a2
      obtain rfl : t = false := by cases t with | false => rfl | true => have := ht.2 rfl; omega
      clear ht
      go_enter Tryd.func33, Tryd.ntmps33
      go_wp2
      go_ret
      exact ⟨rfl, rfl⟩
  · have d0 : decide (0 ≤ sz) = false := decide_eq_false a1
    obtain rfl : t = false := by cases t with | false => rfl | true => have := ht.2 rfl; omega
    clear ht
    go_enter Tryd.func33, Tryd.ntmps33
    go_wp2
    go_ret
    exact ⟨rfl, rfl⟩
theorem arg_is (k : UInt8) (sz vs hr : Int) (t : Bool) (ht : validP k sz vs hr ↔ t = true) (w : World) : Calls Tryd.prog 39 #[.int .u8 k.toNat, CX sz vs hr] w fun e w' => e = .returned (.bool t) ∧ w' = (w.alloc (CXp sz vs hr)).alloc (CXp sz vs hr) := by
  unfold validP at ht
  by_cases hf : cxOk sz vs ∧ ok9 hr
  · have HF := Lib.hid (fits_is sz vs hr true (by simp [hf]))
    have e : (unitK k sz vs).isSome = t := by
      rw [Bool.eq_iff_iff, ← ht]; exact ⟨fun h => ⟨h, hf.1, hf.2⟩, fun h => h.1⟩
    have HE := Lib.hid (isScale_is k sz vs t e)
    clear ht e hf
    go_enter Tryd.func39, Tryd.ntmps39
    go_wp2_with (first | (go_at_call 33; refine (HF.out _).mono ?_; rintro e w' ⟨rfl, rfl⟩) | (go_at_call 34; refine (HE.out _).mono ?_; rintro e w' ⟨rfl, rfl⟩))
    go_ret
    exact ⟨rfl, rfl⟩
  · have HF := Lib.hid (fits_is sz vs hr false (by simp only [hf]; simp))
    obtain rfl : t = false := by cases t with | false => rfl | true => exact absurd (ht.2 rfl).2 hf
    clear ht hf
    go_enter Tryd.func39, Tryd.ntmps39
    go_wp2_with (first | (go_at_call 33; refine (HF.out _).mono ?_; rintro e w' ⟨rfl, rfl⟩))
    go_ret
    exact ⟨rfl, rfl⟩

/-- The specification's reader, by value. -/
abbrev RA (r : RS) : Value := .agg #[.string r.s, .int .u8 r.sc.toNat, .int .i64 r.sz, .int .i64 r.vs, .int .i64 r.hr, .bool r.fm]
def rskI (r : RS) (dp fin : Nat) (w : World) (k : Nat) (a : Value) (wr : World) : Prop :=
  ∃ q : Nat, a = .int .i64 q ∧ blanks r.l k q = fin ∧ k = r.l.length - q ∧ q ≤ r.l.length ∧ wr = w
theorem rskip_any (r : RS) (p dp : Nat) (hl : r.s.size ≤ 9223372036854775806) (hp : p ≤ r.l.length) (hd : dp ≤ 21) (w : World) :
    Calls Tryd.prog 60 #[RA r, .int .i64 p, .int .i64 dp] w fun e w' => e = .returned (.int .i64 (skipS r.l dp p)) ∧ Below w.heap.size w w' := by
  obtain ⟨s, sc, sz, vs, hr, fm⟩ := r
  have hlen : (RS.mk s sc sz vs hr fm).l.length = s.size := Rok.len
  simp only at hl
  by_cases hd0 : dp = 0
  · subst hd0
    have hx : skipS (RS.mk s sc sz vs hr fm).l 0 p = p := rfl
    have HX := Lib.hid hx
    clear hx
    go_enter Tryd.func60, Tryd.ntmps60
    go_wp2_with fail
    go_loopg [1] 1 (fun k v wr => v = .int .i64 p ∧ wr = w.alloc (.cells #[.string s, .int .u8 sc.toNat, .int .i64 sz, .int .i64 vs, .int .i64 hr, .bool fm] 70))
    case atStart => exact ⟨rfl, rfl⟩
    case round =>
      obtain ⟨rfl, rfl⟩ := hrel
      go_wp2_with fail
      go_ret
      exact ⟨by rw [HX.out]; rfl, (Below.refl _ _).alloc (Nat.le_refl _) _⟩
  · have hd1 : 0 < dp := by omega
    have hd2 : decide ((0 : Int) < (dp : Int)) = true := by simp; omega
    have hx : skipS (RS.mk s sc sz vs hr fm).l dp p = blanks (RS.mk s sc sz vs hr fm).l ((RS.mk s sc sz vs hr fm).l.length - p) p := by unfold skipS; rw [if_neg hd0]
    have HX := Lib.hid hx
    clear hx hd0
    go_enter Tryd.func60, Tryd.ntmps60
    go_wp2_with fail
    go_loopg [1] ((RS.mk s sc sz vs hr fm).l.length - p) (fun k v wr => rskI ⟨s, sc, sz, vs, hr, fm⟩ dp (skipS (RS.mk s sc sz vs hr fm).l dp p) (w.alloc (.cells #[.string s, .int .u8 sc.toNat, .int .i64 sz, .int .i64 vs, .int .i64 hr, .bool fm] 70)) k v wr)
    case atStart => exact ⟨p, rfl, HX.out.symm, rfl, hp, rfl⟩
    case round =>
      obtain ⟨q, rfl, hb, hk, hq, rfl⟩ := hrel
      have HB := Lib.hid hb
      have HK := Lib.hid hk
      clear hb hk
      by_cases hlt : q < s.size
      · have hdl : decide ((q : Int) < (s.size : Int)) = true := by simp; omega
        by_cases hc : s[q] = 32
        · have ht : ((s[q].toNat : Int) == 32) = true := by rw [hc]; rfl
          have hc2 : (RS.mk s sc sz vs hr fm).l[q]? = some 32 := by unfold RS.l; rw [byte_at _ _ hlt, hc]
          have HC := Lib.hid hc2
          clear hc hc2
          go_wp2_with fail
          go_roundg (gk - 1)
          case measure => have := HK.out; omega
          case rel =>
            have hk := HK.out
            have hb := HB.out
            refine ⟨q + 1, by go_num, ?_, by omega, by omega, rfl⟩
            obtain ⟨k', rfl⟩ : ∃ k', gk = k' + 1 := ⟨gk - 1, by omega⟩
            rw [blanks, if_pos HC.out] at hb
            exact hb
        · have ht : ((s[q].toNat : Int) == 32) = false := ne_b hc
          have hc2 : ¬ (RS.mk s sc sz vs hr fm).l[q]? = some 32 := by unfold RS.l; rw [byte_at _ _ hlt]; simpa using hc
          have hfin : q = skipS (RS.mk s sc sz vs hr fm).l dp p := by
            rw [← HB.out]
            cases gk with
            | zero => rfl
            | succ n => rw [blanks, if_neg hc2]
          have HF := Lib.hid hfin
          clear hc hc2 hfin
          go_wp2_with fail
          go_ret
          exact ⟨by rw [← HF.out]; rfl, (Below.refl _ _).alloc (Nat.le_refl _) _⟩
      · have hdl : decide ((q : Int) < (s.size : Int)) = false := by simp; omega
        have hfin : q = skipS (RS.mk s sc sz vs hr fm).l dp p := by
          rw [← HB.out]
          obtain rfl : gk = 0 := by have := HK.out; omega
          rfl
        have HF := Lib.hid hfin
        clear hfin
        go_wp2_with fail
        go_ret
        exact ⟨by rw [← HF.out]; rfl, (Below.refl _ _).alloc (Nat.le_refl _) _⟩
end Go.Proofs.YteihpeffaeahlaaDoor
