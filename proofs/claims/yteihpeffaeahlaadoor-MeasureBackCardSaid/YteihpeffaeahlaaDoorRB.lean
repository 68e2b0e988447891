/- Contracts of the specification: Number. -/
import Derived.Test.YteihpeffaeahlaaDoorRA
namespace Go.Proofs.YteihpeffaeahlaaDoor
open Go.RowKit
set_option maxRecDepth 100000
section
variable {w : World}
theorem rn_call {r : RS} (hr : Rok r) (hf : r.fm = false) (p : Nat) (hp : p = if r.l[0]? = some 45 ∨ r.l[0]? = some 43 then 1 else 0) (w : World) :
    Calls Tryd.prog 40 #[.string r.s, .int .i64 p, .int .u8 r.sc.toNat, CX r.sz r.vs r.hr] w fun e w' => Below w.heap.size w w' ∧ ∃ (n : Int) (z : Nat) (x : Int),
      e = .returned (.tuple #[.int .i64 n, .int .i64 z, .int .i64 x]) ∧ ok9 n ∧ nuR r = if x = 0 then (if z < r.s.size then (0, 4) else (if r.l[0]? = some 45 then -n else n, 0)) else (0, x) := by
  have hl : r.l.length = r.s.size := Rok.len
  have hpl : p ≤ r.l.length := by
    rw [hp]; split
    · rename_i h; rcases h with h | h <;> exact (List.getElem?_eq_some_iff.1 h).1
    · omega
  refine (rnumber_any r p hr hpl w).mono ?_
  rintro e w' ⟨hb, hm⟩
  refine ⟨hb, ?_⟩
  unfold nuR
  rw [← hp]
  unfold numR
  have o0 : ok9 0 := by unfold ok9; omega
  cases hN : numS r.l r.sc r.sz r.vs p with
  | none => rw [hN] at hm; exact ⟨0, 0, 4, hm, o0, by rw [if_neg (by decide)]⟩
  | some vz =>
    obtain ⟨v, z⟩ := vz
    rw [hN] at hm
    simp only at hm ⊢
    by_cases ho : ok9 v
    · rw [if_pos ho] at hm
      exact ⟨v, z, 0, hm, ho, by rw [if_pos ho, if_pos rfl, hl]⟩
    · rw [if_neg ho] at hm
      exact ⟨0, z, 5, hm, o0, by rw [if_neg ho, hf, if_neg (by decide), if_neg (by decide)]⟩
theorem ne_empty {s : ByteArray} (h : 0 < s.size) : s.toList.isEmpty = false := by
  rw [Lib.toList_data]; cases h2 : s.data.toList with
  | nil => rw [Lib.size_eq, h2] at h; simp at h
  | cons a l => rfl
theorem is_empty {s : ByteArray} (h : ¬ 0 < s.size) : s.toList.isEmpty = true := by
  rw [Lib.toList_data]; cases h2 : s.data.toList with
  | nil => rfl
  | cons a l => rw [Lib.size_eq, h2] at h; simp at h
theorem rnumber_call (s : ByteArray) (k : UInt8) (sz vs hr : Int) (hs : s.size ≤ 9223372036854775800) (w : World) :
    Calls Tryd.prog 22 #[.string s, .int .u8 k.toNat, CX sz vs hr] w fun e w' => e = .returned (.tuple #[.int .i64 (numberS s k sz vs hr).1, .int .i64 (numberS s k sz vs hr).2]) ∧ Below w.heap.size w w' := by
  by_cases hv : validP k sz vs hr
  · have hE : numberS s k sz vs hr = nuR ⟨s, k, sz, vs, hr, false⟩ := by unfold numberS; rw [if_pos hv]
    rw [hE]
    have HV := Lib.hid (arg_is k sz vs hr true (by simp [hv]))
    have hcall := fun (p : Nat) hp (W : World) => rn_call (Rsk.mk' hv hs false).ok rfl p hp W
    simp only at hcall
    generalize nuR ⟨s, k, sz, vs, hr, false⟩ = y at hcall ⊢
    have HB := Lib.hid (rW3_below w sz vs hr)
    clear hE hv
    by_cases h0 : 0 < s.size
    · have e0 := ne_empty h0
      have hl0 : (RS.mk s k sz vs hr false).l[0]? = some s[0] := byte_at s 0 h0
      rw [hl0] at hcall
      by_cases h45 : s[0] = 45
      · have t1 : ((s[0].toNat : Int) == 43) = false := by rw [h45]; rfl
        have t2 : ((s[0].toNat : Int) == 45) = true := by rw [h45]; rfl
        have HC := Lib.hid (hcall 1 (by rw [h45]; rfl))
        have H45 := Lib.hid h45
        clear hcall h45 hl0
        go_enter Tryd.func22, Tryd.ntmps22
        go_wp2_with (first | (go_at_call 39; refine (HV.out _).mono ?_; rintro e w' ⟨rfl, rfl⟩))
        refine (HC.out _).mono ?_
        rintro e w1 ⟨hb, n, z, x, rfl, ho, hy⟩
        have ho' : -1000000000 ≤ n ∧ n ≤ 1000000000 := ho
        have HBB := Lib.hid (HB.out.trans (hb.mono HB.out.size))
        by_cases hx : x = 0
        · subst hx
          rw [if_pos rfl, H45.out] at hy
          by_cases hz : z < s.size
          · rw [if_pos hz] at hy
            have hz' : decide (z < s.size) = true := decide_eq_true hz
            have HY := Lib.hid hy
            clear hb ho hy hz
            go_wp2_with fail
            go_ret2
            rw [HY.out]; exact ⟨rfl, HBB.out⟩
          · rw [if_neg hz, if_pos rfl] at hy
            have hz' : decide (z < s.size) = false := decide_eq_false hz
            have HY := Lib.hid hy
            clear hb ho hy hz
            go_wp2_with fail
            go_ret2
            rw [HY.out]; exact ⟨rfl, HBB.out⟩
        · have hx' : (x != 0) = true := by simpa using hx
          rw [if_neg hx] at hy
          have HY := Lib.hid hy
          clear hb ho hy hx
          go_wp2_with fail
          go_ret2
          rw [HY.out]; exact ⟨rfl, HBB.out⟩
      · by_cases h43 : s[0] = 43
        · have t1 : ((s[0].toNat : Int) == 43) = true := by rw [h43]; rfl
          have t2 : ((s[0].toNat : Int) == 45) = false := by rw [h43]; rfl
          have HC := Lib.hid (hcall 1 (by rw [h43]; rfl))
          have H43 := Lib.hid h43
          clear hcall h43 h45 hl0
          go_enter Tryd.func22, Tryd.ntmps22
          go_wp2_with (first | (go_at_call 39; refine (HV.out _).mono ?_; rintro e w' ⟨rfl, rfl⟩))
          refine (HC.out _).mono ?_
          rintro e w1 ⟨hb, n, z, x, rfl, ho, hy⟩
          have HBB := Lib.hid (HB.out.trans (hb.mono HB.out.size))
          by_cases hx : x = 0
          · subst hx
            rw [if_pos rfl, H43.out] at hy
            by_cases hz : z < s.size
            · rw [if_pos hz] at hy
              have hz' : decide (z < s.size) = true := decide_eq_true hz
              have HY := Lib.hid hy
              clear hb ho hy hz
              go_wp2_with fail
              go_ret2
              rw [HY.out]; exact ⟨rfl, HBB.out⟩
            · rw [if_neg hz, if_neg (by decide)] at hy
              have hz' : decide (z < s.size) = false := decide_eq_false hz
              have HY := Lib.hid hy
              clear hb ho hy hz
              go_wp2_with fail
              go_ret2
              rw [HY.out]; exact ⟨rfl, HBB.out⟩
          · have hx' : (x != 0) = true := by simpa using hx
            rw [if_neg hx] at hy
            have HY := Lib.hid hy
            clear hb ho hy hx
            go_wp2_with fail
            go_ret2
            rw [HY.out]; exact ⟨rfl, HBB.out⟩
        · have t1 : ((s[0].toNat : Int) == 43) = false := ne_b (c := 43) h43
          have t2 : ((s[0].toNat : Int) == 45) = false := ne_b (c := 45) h45
          have HC := Lib.hid (hcall 0 (by rw [if_neg]; rintro (h | h); exact h45 (Option.some.inj h); exact h43 (Option.some.inj h)))
          have H45 := Lib.hid h45
          clear hcall h43 h45 hl0
          go_enter Tryd.func22, Tryd.ntmps22
          go_wp2_with (first | (go_at_call 39; refine (HV.out _).mono ?_; rintro e w' ⟨rfl, rfl⟩))
          refine (HC.out _).mono ?_
          rintro e w1 ⟨hb, n, z, x, rfl, ho, hy⟩
          have HBB := Lib.hid (HB.out.trans (hb.mono HB.out.size))
          by_cases hx : x = 0
          · subst hx
            rw [if_pos rfl, if_neg (show ¬ some s[0] = some 45 from fun h => H45.out (Option.some.inj h))] at hy
            by_cases hz : z < s.size
            · rw [if_pos hz] at hy
              have hz' : decide (z < s.size) = true := decide_eq_true hz
              have HY := Lib.hid hy
              clear hb ho hy hz
              go_wp2_with fail
              go_ret2
              rw [HY.out]; exact ⟨rfl, HBB.out⟩
            · rw [if_neg hz] at hy
              have hz' : decide (z < s.size) = false := decide_eq_false hz
              have HY := Lib.hid hy
              clear hb ho hy hz
              go_wp2_with fail
              go_ret2
              rw [HY.out]; exact ⟨rfl, HBB.out⟩
          · have hx' : (x != 0) = true := by simpa using hx
            rw [if_neg hx] at hy
            have HY := Lib.hid hy
            clear hb ho hy hx
            go_wp2_with fail
            go_ret2
            rw [HY.out]; exact ⟨rfl, HBB.out⟩
    · have e0 := is_empty h0
      have hl0 : (RS.mk s k sz vs hr false).l[0]? = none := by
        rw [List.getElem?_eq_none_iff, Rok.len]; show s.size ≤ 0; omega
      rw [hl0] at hcall
      have HC := Lib.hid (hcall 0 (by rw [if_neg]; rintro (h | h) <;> cases h))
      clear hcall hl0
      go_enter Tryd.func22, Tryd.ntmps22
      go_wp2_with (first | (go_at_call 39; refine (HV.out _).mono ?_; rintro e w' ⟨rfl, rfl⟩))
      refine (HC.out _).mono ?_
      rintro e w1 ⟨hb, n, z, x, rfl, ho, hy⟩
      have HBB := Lib.hid (HB.out.trans (hb.mono HB.out.size))
      by_cases hx : x = 0
      · subst hx
        rw [if_pos rfl, if_neg (by omega), if_neg (by intro h; cases h)] at hy
        have hz' : decide (z < s.size) = false := decide_eq_false (by omega)
        have HY := Lib.hid hy
        clear hb ho hy
        go_wp2_with fail
        go_ret2
        rw [HY.out]; exact ⟨rfl, HBB.out⟩
      · have hx' : (x != 0) = true := by simpa using hx
        rw [if_neg hx] at hy
        have HY := Lib.hid hy
        clear hb ho hy hx
        go_wp2_with fail
        go_ret2
        rw [HY.out]; exact ⟨rfl, HBB.out⟩
  · have hE : numberS s k sz vs hr = (0, 1) := by unfold numberS; rw [if_neg hv]
    rw [hE]
    have HV := Lib.hid (arg_is k sz vs hr false (by simp [hv]))
    clear hv hE
    go_enter Tryd.func22, Tryd.ntmps22
    go_wp2_with (first | (go_at_call 39; refine (HV.out _).mono ?_; rintro e w' ⟨rfl, rfl⟩))
    go_ret2
    exact ⟨rfl, rW3_below w sz vs hr⟩
end
end Go.Proofs.YteihpeffaeahlaaDoor
