/- Contracts: the calls of package measure, two. -/
import Derived.Test.YteihpeffaeahlaaDoorWD
namespace Go.Proofs.YteihpeffaeahlaaDoor
open Go.RowKit
set_option maxRecDepth 100000
/-- Prefix: the number, how far it reaches, the error. -/
def prefixS (s : ByteArray) (k : UInt8) (sz vs hr : Int) : Int × Int × Int :=
  if validP k sz vs hr then match foR ⟨s, k, sz, vs, hr, true⟩ with
    | none => (0, 0, 4)
    | some z => if (evR ⟨s.extract 0 z, k, sz, vs, hr, false⟩).2 = 0 then ((evR ⟨s.extract 0 z, k, sz, vs, hr, false⟩).1, z, 0) else (0, 0, (evR ⟨s.extract 0 z, k, sz, vs, hr, false⟩).2)
  else (0, 0, 1)
theorem foR_bd {r : RS} {z : Nat} (h : foR r = some z) : 0 < z ∧ z ≤ r.l.length := by
  unfold foR at h
  split at h
  · cases h
  · rename_i v z' e
    cases h
    have := ex_bd e (Nat.zero_le _)
    omega
theorem bcell {W w1 : World} (hb : Below W.heap.size W w1) : (∀ b o, b < W.heap.size → w1.cell? ⟨b, o, none⟩ = W.cell? ⟨b, o, none⟩) ∧ (∀ b o, b < W.heap.size → w1.frozen? ⟨b, o, none⟩ = W.frozen? ⟨b, o, none⟩) :=
  ⟨fun b o h => hb.cell (p := ⟨b, o, none⟩) h, fun b o h => hb.frozen (p := ⟨b, o, none⟩) h⟩
section
variable {w : World}
theorem prefix_invalid (s : ByteArray) (k : UInt8) (sz vs hr : Int) (hv : ¬ validP k sz vs hr) :
    Calls Tryd.prog 20 #[.string s, .int .u8 k.toNat, CX sz vs hr] w fun e w' => e = .returned (.tuple #[.int .i64 0, .int .i64 0, .int .i64 1]) ∧ Below w.heap.size w w' := by
  have hh : validP k sz vs hr ↔ false = true := by simp [hv]
  have HV := Lib.hid hh
  clear hv hh
  go_enter Tryd.func20, Tryd.ntmps20
  go_wp2_with (go_at_call 32; refine (valid_any k sz vs hr false HV.out _).mono ?_; rintro e w' ⟨rfl, rfl⟩)
  go_ret3
  exact ⟨rfl, (((Below.refl _ _).alloc (Nat.le_refl _) _).alloc (by simp) _).alloc (by simp; omega) _⟩
theorem prefix_valid (s : ByteArray) (k : UInt8) (sz vs hr : Int) (hv : validP k sz vs hr) (hs : s.size ≤ 9223372036854775806) (hT : Tab w) :
    Calls Tryd.prog 20 #[.string s, .int .u8 k.toNat, CX sz vs hr] w fun e w' => e = .returned (.tuple #[.int .i64 (prefixS s k sz vs hr).1, .int .i64 (prefixS s k sz vs hr).2.1, .int .i64 (prefixS s k sz vs hr).2.2]) ∧ Below w.heap.size w w' := by
  have hh : validP k sz vs hr ↔ true = true := by simp [hv]
  have HV := Lib.hid hh
  have HVV := Lib.hid hv
  have HK := Lib.hid (Rok.mk' hv hs true)
  have HT := Lib.hid hT
  clear hv hh hT
  have hmf : ∀ (fn : Fn) (first cap : Array Value) (w : World), (Instr.makeFunc fn first cap).run Tryd.prog w = .ok (.func fn first cap) w := fun _ _ _ _ => rfl
  go_enter Tryd.func20, Tryd.ntmps20
  go_wp2_with (go_at_call 32; refine (valid_any k sz vs hr true HV.out _).mono ?_; rintro e w' ⟨rfl, rfl⟩)
  refine (caught_any (b := w.heap.size + 1 + 1 + 1) (r := ⟨s, k, sz, vs, hr, true⟩) (p := 0) (dp := 0) (wh := 0) 37 (fun _ _ wh => wh = (foR ⟨s, k, sz, vs, hr, true⟩).getD 0)
    (fun w1 h1 t1 => form_any HK.out rfl w1 h1 t1) (fun _ => by show _ = _; kernel_rfl) (newR_has w ⟨s, k, sz, vs, hr, true⟩) (HT.out.below (newR_below w ⟨s, k, sz, vs, hr, true⟩) HT.out.pos)).mono ?_
  rintro e w1 ⟨o1, n, x, q, d, wh, rfl, h1, rfl⟩
  have o1' : Own (w.heap.size + 1 + 1 + 1) (newR w ⟨s, k, sz, vs, hr, true⟩) w1 := o1
  have hb := (newR_below w ⟨s, k, sz, vs, hr, true⟩).trans ((o1'.toBelow (by rw [newR_size]; omega)).mono (by omega))
  have hw1 : w.heap.size + 4 ≤ w1.heap.size := by have := o1'.size; rw [newR_size] at this; exact this
  have HB := Lib.hid hb
  have c7 := h1.c7
  have T1 := Lib.hid (HT.out.below hb HT.out.pos)
  have x0 : w1.cell? ⟨w.heap.size, 0, none⟩ = some (.int .i64 sz) := by
    rw [o1'.cell (by rw [newR_size]; simp) (by simp; omega)]; simp [newR, go_sem]
  have x1 : w1.cell? ⟨w.heap.size, 1, none⟩ = some (.int .i64 vs) := by
    rw [o1'.cell (by rw [newR_size]; simp) (by simp; omega)]; simp [newR, go_sem]
  have x2 : w1.cell? ⟨w.heap.size, 2, none⟩ = some (.int .i64 hr) := by
    rw [o1'.cell (by rw [newR_size]; simp) (by simp; omega)]; simp [newR, go_sem]
  clear o1 o1' hb
  cases hf : foR ⟨s, k, sz, vs, hr, true⟩ with
  | none =>
    have e : prefixS s k sz vs hr = (0, 0, 4) := by unfold prefixS; rw [if_pos HVV.out, hf]
    have HE := Lib.hid e
    rw [hf] at c7
    simp only [Option.getD_none] at c7
    clear hf e h1 x0 x1 x2
    go_wp2_with fail
    go_ret3
    rw [HE.out]
    exact ⟨rfl, HB.out⟩
  | some z =>
    have hz := foR_bd hf
    have hzs : z ≤ s.size := by have := hz.2; rw [Rok.len] at this; exact this
    have hz0 : ((z : Int) == 0) = false := by rw [beq_eq_false_iff_ne]; omega
    have hzi : (z : Int) ≤ (s.size : Int) := by omega
    have hzs2 : (s.extract 0 z).size ≤ 9223372036854775806 := by rw [ByteArray.size_extract]; omega
    have e : prefixS s k sz vs hr = if (evR ⟨s.extract 0 z, k, sz, vs, hr, false⟩).2 = 0 then ((evR ⟨s.extract 0 z, k, sz, vs, hr, false⟩).1, (z : Int), 0) else (0, 0, (evR ⟨s.extract 0 z, k, sz, vs, hr, false⟩).2) := by unfold prefixS; rw [if_pos HVV.out, hf]
    have hcall := fun (W : World) (hW : Tab W) => eval_valid (w := W) (s.extract 0 z) k sz vs hr HVV.out hzs2 hW
    generalize evR ⟨s.extract 0 z, k, sz, vs, hr, false⟩ = y at hcall e
    obtain ⟨ny, ey⟩ := y
    simp only at hcall e
    have HCA := Lib.hid hcall
    rw [hf] at c7
    simp only [Option.getD_some] at c7
    have hb1 : w.heap.size + 1 + 1 + 1 < w1.heap.size := by omega
    have hb0 : w.heap.size < w1.heap.size := by omega
    clear hf h1 hzs2 hcall
    by_cases hey : ey = 0
    · subst hey
      rw [if_pos rfl] at e
      have HE := Lib.hid e
      clear e
      go_wp2_with fail
      go_region_held3 (fun w' => w'.cell? ⟨w.heap.size + 1 + 1 + 1, 7, none⟩ = some (.int .i64 z) ∧ w'.cell? ⟨w.heap.size, 0, none⟩ = some (.int .i64 sz) ∧ w'.cell? ⟨w.heap.size, 1, none⟩ = some (.int .i64 vs) ∧ w'.cell? ⟨w.heap.size, 2, none⟩ = some (.int .i64 hr)) (go_keep)
        (first | (go_at_call 18; refine (HCA.out _ (by exact T1.out)).mono ?_; rintro e w' ⟨rfl, hb⟩; have k7 := (bcell hb).1 (w.heap.size + 1 + 1 + 1) 7 (by exact hb1); have k0 := (bcell hb).1 w.heap.size 0 (by exact hb0); have k1 := (bcell hb).1 w.heap.size 1 (by exact hb0); have k2 := (bcell hb).1 w.heap.size 2 (by exact hb0); have HBB := Lib.hid hb; clear hb))
      go_wp2_with fail
      go_quiet (fail)
      go_wp2_with fail
      go_ret3
      rw [HE.out]
      exact ⟨rfl, below_drewN ((below_drewN HB.out _).trans (HBB.out.mono (by show _ ≤ w1.heap.size; omega))) _⟩
    · have hey' : (ey != 0) = true := by simpa using hey
      rw [if_neg hey] at e
      have HE := Lib.hid e
      clear e
      go_wp2_with fail
      go_region_held3 (fun w' => w'.cell? ⟨w.heap.size + 1 + 1 + 1, 7, none⟩ = some (.int .i64 z) ∧ w'.cell? ⟨w.heap.size, 0, none⟩ = some (.int .i64 sz) ∧ w'.cell? ⟨w.heap.size, 1, none⟩ = some (.int .i64 vs) ∧ w'.cell? ⟨w.heap.size, 2, none⟩ = some (.int .i64 hr)) (go_keep)
        (first | (go_at_call 18; refine (HCA.out _ (by exact T1.out)).mono ?_; rintro e w' ⟨rfl, hb⟩; have k7 := (bcell hb).1 (w.heap.size + 1 + 1 + 1) 7 (by exact hb1); have k0 := (bcell hb).1 w.heap.size 0 (by exact hb0); have k1 := (bcell hb).1 w.heap.size 1 (by exact hb0); have k2 := (bcell hb).1 w.heap.size 2 (by exact hb0); have HBB := Lib.hid hb; clear hb))
      go_wp2_with fail
      go_ret3
      rw [HE.out]
      exact ⟨rfl, (below_drewN HB.out _).trans (HBB.out.mono (by show _ ≤ w1.heap.size; omega))⟩
end
end Go.Proofs.YteihpeffaeahlaaDoor
