/- Contracts of the specification: Prefix, Number. -/
import Derived.Test.YteihpeffaeahlaaDoorR9
namespace Go.Proofs.YteihpeffaeahlaaDoor
open Go.RowKit
set_option maxRecDepth 100000
section
variable {w : World}
theorem rprefix_any (s : ByteArray) (k : UInt8) (sz vs hr : Int) (hs : s.size ≤ 9223372036854775800) (w : World) :
    Calls Tryd.prog 24 #[.string s, .int .u8 k.toNat, CX sz vs hr] w fun e w' => e = .returned (.tuple #[.int .i64 (prefixS s k sz vs hr).1, .int .i64 (prefixS s k sz vs hr).2.1, .int .i64 (prefixS s k sz vs hr).2.2]) ∧ Below w.heap.size w w' := by
  by_cases hv : validP k sz vs hr
  · have HVV := Lib.hid hv
    have HK := Lib.hid (rsum_top (Rsk.mk' hv hs true) (rW w ⟨s, k, sz, vs, hr, true⟩))
    have HV := Lib.hid (arg_is k sz vs hr true (by simp [hv]))
    clear hv
    go_enter Tryd.func24, Tryd.ntmps24
    go_wp2_with (first | (go_at_call 39; refine (HV.out _).mono ?_; rintro e w' ⟨rfl, rfl⟩))
    refine HK.out.mono ?_
    rintro e w1 ⟨hb, hm⟩
    have hb2 := (rW_below w ⟨s, k, sz, vs, hr, true⟩).trans (hb.mono (rW_below w ⟨s, k, sz, vs, hr, true⟩).size)
    have hw1 : w.heap.size < w1.heap.size := by have := hb.size; simp at this; omega
    have HB := Lib.hid hb2
    have x0 : w1.cell? ⟨w.heap.size, 0, none⟩ = some (.int .i64 sz) := by rw [hb.cell (by simp; omega)]; simp [go_sem]
    have x1 : w1.cell? ⟨w.heap.size, 1, none⟩ = some (.int .i64 vs) := by rw [hb.cell (by simp; omega)]; simp [go_sem]
    have x2 : w1.cell? ⟨w.heap.size, 2, none⟩ = some (.int .i64 hr) := by rw [hb.cell (by simp; omega)]; simp [go_sem]
    cases hR : ex ⟨s, k, sz, vs, hr, true⟩ (2 * (RS.mk s k sz vs hr true).l.length + 3) 1 0 0 0 with
    | error x =>
      rw [hR] at hm
      obtain ⟨hx, n, z, rfl⟩ := hm
      have hxx : (x != 0) = true := by simpa using hx
      have hf : foR ⟨s, k, sz, vs, hr, true⟩ = none := by unfold foR; rw [hR]
      have e : prefixS s k sz vs hr = (0, 0, 4) := by unfold prefixS; rw [if_pos HVV.out, hf]
      have HE := Lib.hid e
      clear hR hb hb2 hx hf e x0 x1 x2
      go_wp2_with fail
      go_ret3
      rw [HE.out]
      exact ⟨rfl, HB.out⟩
    | ok vz =>
      obtain ⟨v, z⟩ := vz
      rw [hR] at hm
      obtain ⟨v', g1, g2, rfl⟩ := hm
      have hf : foR ⟨s, k, sz, vs, hr, true⟩ = some z := by unfold foR; rw [hR]
      have hz := foR_bd hf
      have hzs : z ≤ s.size := by have := hz.2; rw [Rok.len] at this; exact this
      have hzi : (z : Int) ≤ (s.size : Int) := by omega
      have hzs2 : (s.extract 0 z).size ≤ 9223372036854775800 := by rw [ByteArray.size_extract]; omega
      have e : prefixS s k sz vs hr = if (evR ⟨s.extract 0 z, k, sz, vs, hr, false⟩).2 = 0 then ((evR ⟨s.extract 0 z, k, sz, vs, hr, false⟩).1, (z : Int), 0) else (0, 0, (evR ⟨s.extract 0 z, k, sz, vs, hr, false⟩).2) := by unfold prefixS; rw [if_pos HVV.out, hf]
      have hcall := fun (W : World) => reval_any (s.extract 0 z) k sz vs hr hzs2 W
      unfold evalS at hcall
      simp only [if_pos HVV.out] at hcall
      generalize evR ⟨s.extract 0 z, k, sz, vs, hr, false⟩ = y at hcall e
      obtain ⟨ny, ey⟩ := y
      simp only at hcall e
      have HCA := Lib.hid hcall
      clear hR hb hb2 g1 g2 hf hzs2 hcall hz
      by_cases hey : ey = 0
      · subst hey
        rw [if_pos rfl] at e
        have HE := Lib.hid e
        clear e
        go_wp2_with fail
        go_region_held3 (fun w' => w'.cell? ⟨w.heap.size, 0, none⟩ = some (.int .i64 sz) ∧ w'.cell? ⟨w.heap.size, 1, none⟩ = some (.int .i64 vs) ∧ w'.cell? ⟨w.heap.size, 2, none⟩ = some (.int .i64 hr)) (go_keep)
          (first | (go_at_call 23; refine (HCA.out _).mono ?_; rintro e w' ⟨rfl, hb⟩; have k0 := (bcell hb).1 w.heap.size 0 (by exact hw1); have k1 := (bcell hb).1 w.heap.size 1 (by exact hw1); have k2 := (bcell hb).1 w.heap.size 2 (by exact hw1); have HBB := Lib.hid hb; clear hb))
        go_wp2_with fail
        go_ret3
        rw [HE.out]
        exact ⟨rfl, (below_drewN HB.out _).trans (HBB.out.mono HB.out.size)⟩
      · have hey' : (ey != 0) = true := by simpa using hey
        rw [if_neg hey] at e
        have HE := Lib.hid e
        clear e
        go_wp2_with fail
        go_region_held3 (fun w' => w'.cell? ⟨w.heap.size, 0, none⟩ = some (.int .i64 sz) ∧ w'.cell? ⟨w.heap.size, 1, none⟩ = some (.int .i64 vs) ∧ w'.cell? ⟨w.heap.size, 2, none⟩ = some (.int .i64 hr)) (go_keep)
          (first | (go_at_call 23; refine (HCA.out _).mono ?_; rintro e w' ⟨rfl, hb⟩; have k0 := (bcell hb).1 w.heap.size 0 (by exact hw1); have k1 := (bcell hb).1 w.heap.size 1 (by exact hw1); have k2 := (bcell hb).1 w.heap.size 2 (by exact hw1); have HBB := Lib.hid hb; clear hb))
        go_wp2_with fail
        go_ret3
        rw [HE.out]
        exact ⟨rfl, (below_drewN HB.out _).trans (HBB.out.mono HB.out.size)⟩
  · have hE : prefixS s k sz vs hr = (0, 0, 1) := by unfold prefixS; rw [if_neg hv]
    rw [hE]
    have HV := Lib.hid (arg_is k sz vs hr false (by simp [hv]))
    clear hv hE
    go_enter Tryd.func24, Tryd.ntmps24
    go_wp2_with (first | (go_at_call 39; refine (HV.out _).mono ?_; rintro e w' ⟨rfl, rfl⟩))
    go_ret3
    exact ⟨rfl, rW3_below w sz vs hr⟩
end
end Go.Proofs.YteihpeffaeahlaaDoor
