/- Contracts of the specification: Eval, Unit. -/
import Derived.Test.YteihpeffaeahlaaDoorR8
namespace Go.Proofs.YteihpeffaeahlaaDoor
open Go.RowKit
set_option maxRecDepth 100000
theorem Rsk.mk' {s : ByteArray} {k : UInt8} {sz vs hr : Int} (hv : validP k sz vs hr) (hs : s.size ≤ 9223372036854775800) (fm : Bool) : Rsk ⟨s, k, sz, vs, hr, fm⟩ :=
  ⟨⟨by show s.size ≤ _; omega, hv.2.1, hv.1, hv.2.2⟩, hs⟩
section
variable {w : World}
/-- The world once the specification's reader is made. -/
abbrev rW (w : World) (r : RS) : World := (((w.alloc (CXp r.sz r.vs r.hr)).alloc (CXp r.sz r.vs r.hr)).alloc (CXp r.sz r.vs r.hr)).alloc (RO r)
theorem rW_below (w : World) (r : RS) : Below w.heap.size w (rW w r) := ((((Below.refl _ _).alloc (Nat.le_refl _) _).alloc (by simp) _).alloc (by simp; omega) _).alloc (by simp; omega) _
theorem rW3_below (w : World) (sz vs hr : Int) : Below w.heap.size w (((w.alloc (CXp sz vs hr)).alloc (CXp sz vs hr)).alloc (CXp sz vs hr)) := (((Below.refl _ _).alloc (Nat.le_refl _) _).alloc (by simp) _).alloc (by simp; omega) _
theorem rsum_top {r : RS} (hr : Rsk r) (w : World) : Calls Tryd.prog 41 #[RA r, .int .i64 0, .int .i64 0] w (RxP r (ex r (2 * r.l.length + 3) 1 0 0 0) w) := by
  have := (rex_all hr (2 * r.l.length + 3)).2 0 0 w (Nat.zero_le _) (by omega) (by omega)
  exact this
theorem reval_any (s : ByteArray) (k : UInt8) (sz vs hr : Int) (hs : s.size ≤ 9223372036854775800) (w : World) :
    Calls Tryd.prog 23 #[.string s, .int .u8 k.toNat, CX sz vs hr] w fun e w' => e = .returned (.tuple #[.int .i64 (evalS s k sz vs hr).1, .int .i64 (evalS s k sz vs hr).2]) ∧ Below w.heap.size w w' := by
  unfold evalS
  by_cases hv : validP k sz vs hr
  · rw [if_pos hv]
    have HK := Lib.hid (rsum_top (Rsk.mk' hv hs false) (rW w ⟨s, k, sz, vs, hr, false⟩))
    have HV := Lib.hid (arg_is k sz vs hr true (by simp [hv]))
    clear hv
    go_enter Tryd.func23, Tryd.ntmps23
    go_wp2_with (first | (go_at_call 39; refine (HV.out _).mono ?_; rintro e w' ⟨rfl, rfl⟩))
    refine HK.out.mono ?_
    rintro e w1 ⟨hb, hm⟩
    have HB := Lib.hid ((rW_below w ⟨s, k, sz, vs, hr, false⟩).trans (hb.mono (rW_below w ⟨s, k, sz, vs, hr, false⟩).size))
    cases hR : ex ⟨s, k, sz, vs, hr, false⟩ (2 * (RS.mk s k sz vs hr false).l.length + 3) 1 0 0 0 with
    | error x =>
      rw [hR] at hm
      obtain ⟨hx, n, z, rfl⟩ := hm
      have hxx : (x != 0) = true := by simpa using hx
      have HEV := Lib.hid (show evR ⟨s, k, sz, vs, hr, false⟩ = (0, x) by unfold evR; rw [hR])
      clear hR hb hx
      go_wp2_with fail
      go_ret2
      rw [HEV.out]
      exact ⟨rfl, HB.out⟩
    | ok vz =>
      obtain ⟨v, z⟩ := vz
      rw [hR] at hm
      obtain ⟨v', g1, g2, rfl⟩ := hm
      obtain rfl := g2 rfl
      have HRR := Lib.hid hR
      clear hR hb g1
      have hl : (RS.mk s k sz vs hr false).l.length = s.size := Rok.len
      by_cases hz : z < (RS.mk s k sz vs hr false).l.length
      · have HEV := Lib.hid (show evR ⟨s, k, sz, vs, hr, false⟩ = (0, 4) by unfold evR; rw [HRR.out]; simp only; rw [if_pos hz])
        have hz' : decide (z < s.size) = true := by simp; omega
        clear hz hl
        go_wp2_with fail
        go_ret2
        rw [HEV.out]
        exact ⟨rfl, HB.out⟩
      · have HEV := Lib.hid (show evR ⟨s, k, sz, vs, hr, false⟩ = (v', 0) by unfold evR; rw [HRR.out]; simp only; rw [if_neg hz])
        have hz' : decide (z < s.size) = false := by simp; omega
        clear hz hl
        go_wp2_with fail
        go_ret2
        rw [HEV.out]
        exact ⟨rfl, HB.out⟩
  · rw [if_neg hv]
    have HV := Lib.hid (arg_is k sz vs hr false (by simp [hv]))
    clear hv
    go_enter Tryd.func23, Tryd.ntmps23
    go_wp2_with (first | (go_at_call 39; refine (HV.out _).mono ?_; rintro e w' ⟨rfl, rfl⟩))
    go_ret2
    exact ⟨rfl, rW3_below w sz vs hr⟩
theorem runit_call (k : UInt8) (sz vs hr : Int) (w : World) :
    Calls Tryd.prog 16 #[.int .u8 k.toNat, CX sz vs hr] w fun e w' => e = .returned (.tuple #[.int .i64 (unitS k sz vs hr).1, .int .i64 (unitS k sz vs hr).2]) ∧ Below w.heap.size w w' := by
  unfold unitS
  by_cases hf : cxOk sz vs ∧ ok9 hr
  · have HF := Lib.hid (fits_is sz vs hr true (by simp [hf]))
    cases hu : unitK k sz vs with
    | some u =>
      have hv : validP k sz vs hr := ⟨by rw [hu]; rfl, hf.1, hf.2⟩
      rw [if_pos hv]
      have HS := Lib.hid (isScale_is k sz vs true (by rw [hu]; rfl))
      have HU := Lib.hid (runit_some k sz vs hr u hu hf.1)
      clear hf hu hv
      go_enter Tryd.func16, Tryd.ntmps16
      go_wp2_with (first | (go_at_call 33; refine (HF.out _).mono ?_; rintro e w' ⟨rfl, rfl⟩) | (go_at_call 34; refine (HS.out _).mono ?_; rintro e w' ⟨rfl, rfl⟩) | (go_at_call 31; refine (HU.out _).mono ?_; rintro e w' ⟨rfl, rfl⟩))
      go_ret2
      exact ⟨rfl, rW3_below w sz vs hr⟩
    | none =>
      have hv : ¬ validP k sz vs hr := fun h => by have := h.1; rw [hu] at this; cases this
      rw [if_neg hv]
      have HS := Lib.hid (isScale_is k sz vs false (by rw [hu]; rfl))
      clear hf hu hv
      go_enter Tryd.func16, Tryd.ntmps16
      go_wp2_with (first | (go_at_call 33; refine (HF.out _).mono ?_; rintro e w' ⟨rfl, rfl⟩) | (go_at_call 34; refine (HS.out _).mono ?_; rintro e w' ⟨rfl, rfl⟩))
      go_ret2
      exact ⟨rfl, ((Below.refl _ _).alloc (Nat.le_refl _) _).alloc (by simp) _⟩
  · have HF := Lib.hid (fits_is sz vs hr false (by simp only [hf]; simp))
    rw [if_neg (fun h => hf h.2)]
    clear hf
    go_enter Tryd.func16, Tryd.ntmps16
    go_wp2_with (first | (go_at_call 33; refine (HF.out _).mono ?_; rintro e w' ⟨rfl, rfl⟩))
    go_ret2
    exact ⟨rfl, ((Below.refl _ _).alloc (Nat.le_refl _) _).alloc (by simp) _⟩
end
end Go.Proofs.YteihpeffaeahlaaDoor
