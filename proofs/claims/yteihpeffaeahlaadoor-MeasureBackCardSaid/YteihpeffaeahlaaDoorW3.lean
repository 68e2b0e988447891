/- Contracts: what one of a scale is; a number. -/
import Derived.Test.YteihpeffaeahlaaDoorW2
import Derived.Deep.RegionHeld3
namespace Go.Proofs.YteihpeffaeahlaaDoor
open Go.RowKit
set_option maxRecDepth 100000
abbrev CX (sz vs hr : Int) : Value := .agg #[.int .i64 sz, .int .i64 vs, .int .i64 hr]
abbrev CXo (sz vs hr : Int) : Obj := .cells #[.int .i64 sz, .int .i64 vs, .int .i64 hr] 23
theorem ne_b {k c : UInt8} (h : k ≠ c) : ((k.toNat : Int) == (c.toNat : Int)) = false := by
  rw [beq_eq_false_iff_ne]; intro e; exact h (UInt8.toNat_inj.1 (by omega))

/-- unitOf, at a letter. -/
theorem unitOf_117 (sz vs hr : Int) (w : World) : Calls Tryd.prog 28 #[.int .u8 117, CX sz vs hr] w fun e w' => e = .returned (.tuple #[.int .i64 1, .bool true]) ∧ w' = w.alloc (CXo sz vs hr) := by
  go_enter Tryd.func28, Tryd.ntmps28
  go_wp2
  go_ret2
  exact ⟨rfl, rfl⟩
theorem unitOf_112 (sz vs hr : Int) (w : World) : Calls Tryd.prog 28 #[.int .u8 112, CX sz vs hr] w fun e w' => e = .returned (.tuple #[.int .i64 10, .bool true]) ∧ w' = w.alloc (CXo sz vs hr) := by
  go_enter Tryd.func28, Tryd.ntmps28
  go_wp2
  go_ret2
  exact ⟨rfl, rfl⟩
theorem unitOf_80 (sz vs hr : Int) (w : World) : Calls Tryd.prog 28 #[.int .u8 80, CX sz vs hr] w fun e w' => e = .returned (.tuple #[.int .i64 120, .bool true]) ∧ w' = w.alloc (CXo sz vs hr) := by
  go_enter Tryd.func28, Tryd.ntmps28
  go_wp2
  go_ret2
  exact ⟨rfl, rfl⟩
theorem unitOf_105 (sz vs hr : Int) (w : World) : Calls Tryd.prog 28 #[.int .u8 105, CX sz vs hr] w fun e w' => e = .returned (.tuple #[.int .i64 720, .bool true]) ∧ w' = w.alloc (CXo sz vs hr) := by
  go_enter Tryd.func28, Tryd.ntmps28
  go_wp2
  go_ret2
  exact ⟨rfl, rfl⟩
theorem unitOf_99 (sz vs hr : Int) (w : World) : Calls Tryd.prog 28 #[.int .u8 99, CX sz vs hr] w fun e w' => e = .returned (.tuple #[.int .i64 283, .bool true]) ∧ w' = w.alloc (CXo sz vs hr) := by
  go_enter Tryd.func28, Tryd.ntmps28
  go_wp2
  go_ret2
  exact ⟨rfl, rfl⟩
theorem unitOf_109 (sz vs hr : Int) (w : World) : Calls Tryd.prog 28 #[.int .u8 109, CX sz vs hr] w fun e w' => e = .returned (.tuple #[.int .i64 (wrap64 (10 * sz)), .bool true]) ∧ w' = w.alloc (CXo sz vs hr) := by
  go_enter Tryd.func28, Tryd.ntmps28
  go_wp2
  go_ret2
  exact ⟨rfl, rfl⟩
theorem unitOf_110 (sz vs hr : Int) (w : World) : Calls Tryd.prog 28 #[.int .u8 110, CX sz vs hr] w fun e w' => e = .returned (.tuple #[.int .i64 (wrap64 (5 * sz)), .bool true]) ∧ w' = w.alloc (CXo sz vs hr) := by
  go_enter Tryd.func28, Tryd.ntmps28
  go_wp2
  go_ret2
  exact ⟨rfl, rfl⟩
theorem unitOf_118 (sz vs hr : Int) (w : World) : Calls Tryd.prog 28 #[.int .u8 118, CX sz vs hr] w fun e w' => e = .returned (.tuple #[.int .i64 vs, .bool true]) ∧ w' = w.alloc (CXo sz vs hr) := by
  go_enter Tryd.func28, Tryd.ntmps28
  go_wp2
  go_ret2
  exact ⟨rfl, rfl⟩
theorem unitOf_no (k : UInt8) (sz vs hr : Int) (h : unitK k sz vs = none) (w : World) : Calls Tryd.prog 28 #[.int .u8 k.toNat, CX sz vs hr] w fun e w' => e = .returned (.tuple #[.int .i64 0, .bool false]) ∧ w' = w.alloc (CXo sz vs hr) := by
  have h1 : k ≠ 117 := by rintro rfl; simp [unitK] at h
  have h2 : k ≠ 112 := by rintro rfl; simp [unitK] at h
  have h3 : k ≠ 80 := by rintro rfl; simp [unitK] at h
  have h4 : k ≠ 105 := by rintro rfl; simp [unitK] at h
  have h5 : k ≠ 99 := by rintro rfl; simp [unitK] at h
  have h6 : k ≠ 109 := by rintro rfl; simp [unitK] at h
  have h7 : k ≠ 110 := by rintro rfl; simp [unitK] at h
  have h8 : k ≠ 118 := by rintro rfl; simp [unitK] at h
  have e1 : ((k.toNat : Int) == 117) = false := ne_b h1
  have e2 : ((k.toNat : Int) == 112) = false := ne_b h2
  have e3 : ((k.toNat : Int) == 80) = false := ne_b h3
  have e4 : ((k.toNat : Int) == 105) = false := ne_b h4
  have e5 : ((k.toNat : Int) == 99) = false := ne_b h5
  have e6 : ((k.toNat : Int) == 109) = false := ne_b h6
  have e7 : ((k.toNat : Int) == 110) = false := ne_b h7
  have e8 : ((k.toNat : Int) == 118) = false := ne_b h8
  clear h1 h2 h3 h4 h5 h6 h7 h8 h
  go_enter Tryd.func28, Tryd.ntmps28
  go_wp2
  go_ret2
  exact ⟨rfl, rfl⟩
theorem unitOf_some (k : UInt8) (sz vs hr u : Int) (h : unitK k sz vs = some u) (hc : cxOk sz vs) (w : World) : Calls Tryd.prog 28 #[.int .u8 k.toNat, CX sz vs hr] w fun e w' => e = .returned (.tuple #[.int .i64 u, .bool true]) ∧ w' = w.alloc (CXo sz vs hr) := by
  unfold cxOk at hc
  unfold unitK at h
  by_cases h1 : k = 117
  · subst h1; rw [if_pos rfl] at h; obtain rfl := Option.some.inj h; exact unitOf_117 sz vs hr w
  rw [if_neg h1] at h
  by_cases h1 : k = 112
  · subst h1; rw [if_pos rfl] at h; obtain rfl := Option.some.inj h; exact unitOf_112 sz vs hr w
  rw [if_neg h1] at h
  by_cases h1 : k = 80
  · subst h1; rw [if_pos rfl] at h; obtain rfl := Option.some.inj h; exact unitOf_80 sz vs hr w
  rw [if_neg h1] at h
  by_cases h1 : k = 105
  · subst h1; rw [if_pos rfl] at h; obtain rfl := Option.some.inj h; exact unitOf_105 sz vs hr w
  rw [if_neg h1] at h
  by_cases h1 : k = 99
  · subst h1; rw [if_pos rfl] at h; obtain rfl := Option.some.inj h; exact unitOf_99 sz vs hr w
  rw [if_neg h1] at h
  by_cases h1 : k = 109
  · subst h1; rw [if_pos rfl] at h; obtain rfl := Option.some.inj h
    have := unitOf_109 sz vs hr w
    rw [show wrap64 (10 * sz) = 10 * sz from IntWalk.wrap64_in _ (by omega)] at this
    exact this
  rw [if_neg h1] at h
  by_cases h1 : k = 110
  · subst h1; rw [if_pos rfl] at h; obtain rfl := Option.some.inj h
    have := unitOf_110 sz vs hr w
    rw [show wrap64 (5 * sz) = 5 * sz from IntWalk.wrap64_in _ (by omega)] at this
    exact this
  rw [if_neg h1] at h
  by_cases h1 : k = 118
  · subst h1; rw [if_pos rfl] at h; obtain rfl := Option.some.inj h; exact unitOf_118 sz vs hr w
  rw [if_neg h1] at h
  cases h

section
variable {b : Nat} {r : RS} {p dp wh : Nat} {w : World}
/-- The unit that stands at p, or the given one. -/
theorem unit_end (h : Has 64 b r p dp wh w) (hl : r.s.size ≤ 9223372036854775807) (hc : cxOk r.sz r.vs) (u : Int) (hu : unitK r.sc r.sz r.vs = some u) (hn : r.s.size ≤ p) :
    Calls Tryd.prog 77 #[RP b] w fun e w' => e = .returned (.int .i64 u) ∧ Has 64 b r p dp wh w' ∧ Own b w w' := by
  have h0 := h.c0
  have h1 := h.c1
  have h2 := h.c2
  have h3 := h.c3
  have h4 := h.c4
  have h5 := h.c5
  have HH := Lib.hid h
  have HU := Lib.hid hu
  have HC := Lib.hid hc
  have hdl : decide (p < r.s.size) = false := decide_eq_false (by omega)
  clear h hu hc
  go_enter Tryd.func77, Tryd.ntmps77
  go_wp2_with fail
  go_quiet (fail)
  go_wp2_with fail
  go_region_held3 (fun w' => w'.cell? ⟨b, 2, none⟩ = some (.int .u8 r.sc.toNat) ∧ w'.cell? ⟨b, 3, none⟩ = some (.int .i64 r.sz) ∧ w'.cell? ⟨b, 4, none⟩ = some (.int .i64 r.vs) ∧ w'.cell? ⟨b, 5, none⟩ = some (.int .i64 r.hr)) (go_keep)
    (first | (go_at_call 28; refine (unitOf_some _ _ _ _ _ HU.out HC.out _).mono ?_; rintro e w' ⟨rfl, rfl⟩))
  go_wp2_with fail
  go_ret
  exact ⟨rfl, (HH.out.drewN _).alloc _, ((Own.refl _ _).drewN _).alloc _⟩
theorem unit_here (h : Has 64 b r p dp wh w) (hl : r.s.size ≤ 9223372036854775807) (hc : cxOk r.sz r.vs) (u : Int) (hn : p < r.s.size) (hu : unitK r.s[p] r.sz r.vs = some u) :
    Calls Tryd.prog 77 #[RP b] w fun e w' => e = .returned (.int .i64 u) ∧ Has 64 b r (p + 1) dp wh w' ∧ Own b w w' := by
  have h0 := h.c0
  have h1 := h.c1
  have h2 := h.c2
  have h3 := h.c3
  have h4 := h.c4
  have h5 := h.c5
  have hf := h.fz 1
  have hb := h.lt
  have HH := Lib.hid h
  have HU := Lib.hid hu
  have HC := Lib.hid hc
  have hdl : decide (p < r.s.size) = true := decide_eq_true hn
  clear h hu hc
  go_enter Tryd.func77, Tryd.ntmps77
  go_wp2_with fail
  go_quiet (fail)
  go_wp2_with fail
  go_region_held3 (fun w' => w'.cell? ⟨b, 0, none⟩ = some (.string r.s) ∧ w'.cell? ⟨b, 1, none⟩ = some (.int .i64 p) ∧ w'.cell? ⟨b, 3, none⟩ = some (.int .i64 r.sz) ∧ w'.cell? ⟨b, 4, none⟩ = some (.int .i64 r.vs) ∧ w'.cell? ⟨b, 5, none⟩ = some (.int .i64 r.hr)) (go_keep)
    (first | (go_at_call 28; refine (unitOf_some _ _ _ _ _ HU.out HC.out _).mono ?_; rintro e w' ⟨rfl, rfl⟩))
  have hfz := ((HH.out.drewN (nq + 1)).alloc (CXo r.sz r.vs r.hr)).fz 1
  go_wp2_with fail
  go_ret
  exact ⟨rfl, ((HH.out.drewN _).alloc _).set1 (p + 1), (((Own.refl _ _).drewN _).alloc _).setCell 1 _⟩
theorem unit_not (h : Has 64 b r p dp wh w) (hl : r.s.size ≤ 9223372036854775807) (hc : cxOk r.sz r.vs) (u : Int) (hu : unitK r.sc r.sz r.vs = some u) (hn : p < r.s.size) (hv : unitK r.s[p] r.sz r.vs = none) :
    Calls Tryd.prog 77 #[RP b] w fun e w' => e = .returned (.int .i64 u) ∧ Has 64 b r p dp wh w' ∧ Own b w w' := by
  have h0 := h.c0
  have h1 := h.c1
  have h2 := h.c2
  have h3 := h.c3
  have h4 := h.c4
  have h5 := h.c5
  have HH := Lib.hid h
  have HU := Lib.hid hu
  have HV := Lib.hid hv
  have HC := Lib.hid hc
  have hdl : decide (p < r.s.size) = true := decide_eq_true hn
  clear h hu hc hv
  go_enter Tryd.func77, Tryd.ntmps77
  go_wp2_with fail
  go_quiet (fail)
  go_wp2_with fail
  go_region_held3 (fun w' => w'.cell? ⟨b, 0, none⟩ = some (.string r.s) ∧ w'.cell? ⟨b, 1, none⟩ = some (.int .i64 p) ∧ w'.cell? ⟨b, 3, none⟩ = some (.int .i64 r.sz) ∧ w'.cell? ⟨b, 4, none⟩ = some (.int .i64 r.vs) ∧ w'.cell? ⟨b, 5, none⟩ = some (.int .i64 r.hr)) (go_keep)
    (first | (go_at_call 28; refine (unitOf_no _ _ _ _ HV.out _).mono ?_; rintro e w' ⟨rfl, rfl⟩))
  go_wp2_with fail
  go_region_held3 (fun w' => w'.cell? ⟨b, 2, none⟩ = some (.int .u8 r.sc.toNat) ∧ w'.cell? ⟨b, 3, none⟩ = some (.int .i64 r.sz) ∧ w'.cell? ⟨b, 4, none⟩ = some (.int .i64 r.vs) ∧ w'.cell? ⟨b, 5, none⟩ = some (.int .i64 r.hr)) (go_keep)
    (first | (go_at_call 28; refine (unitOf_some _ _ _ _ _ HU.out HC.out _).mono ?_; rintro e w' ⟨rfl, rfl⟩))
  go_wp2_with fail
  go_ret
  exact ⟨rfl, ((((HH.out.drewN _).alloc _).drewN _).alloc _), (((((Own.refl _ _).drewN _).alloc _).drewN _).alloc _)⟩

theorem unit_any (h : Has 64 b r p dp wh w) (hl : r.s.size ≤ 9223372036854775807) (hc : cxOk r.sz r.vs) (hu : (unitK r.sc r.sz r.vs).isSome) :
    Calls Tryd.prog 77 #[RP b] w fun e w' => e = .returned (.int .i64 (unS r.l r.sc r.sz r.vs p).1) ∧ Has 64 b r (unS r.l r.sc r.sz r.vs p).2 dp wh w' ∧ Own b w w' := by
  obtain ⟨u, hu⟩ := Option.isSome_iff_exists.1 hu
  by_cases hn : p < r.s.size
  · cases hv : unitK r.s[p] r.sz r.vs with
    | none =>
      have e : unS r.l r.sc r.sz r.vs p = (u, p) := by unfold unS unitAt RS.l; rw [byte_at _ _ hn]; simp only [hv, hu]; rfl
      rw [e]; exact unit_not h hl hc u hu hn hv
    | some u' =>
      have e : unS r.l r.sc r.sz r.vs p = (u', p + 1) := by unfold unS unitAt RS.l; rw [byte_at _ _ hn]; simp only [hv]
      rw [e]; exact unit_here h hl hc u' hn hv
  · have e : unS r.l r.sc r.sz r.vs p = (u, p) := by unfold unS unitAt RS.l; rw [byte_none _ _ (by omega)]; simp only [hu]; rfl
    rw [e]; exact unit_end h hl hc u hu (by omega)
end
end Go.Proofs.YteihpeffaeahlaaDoor
