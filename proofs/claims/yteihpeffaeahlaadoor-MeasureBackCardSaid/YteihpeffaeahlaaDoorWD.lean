/- Contracts: the calls of package measure. -/
import Derived.Test.YteihpeffaeahlaaDoorWC
namespace Go.Proofs.YteihpeffaeahlaaDoor
open Go.RowKit
set_option maxRecDepth 100000
instance (sz vs : Int) : Decidable (cxOk sz vs) := by unfold cxOk; infer_instance
instance (k : UInt8) (sz vs hr : Int) : Decidable (validP k sz vs hr) := by unfold validP; infer_instance
theorem Rok.mk' {s : ByteArray} {k : UInt8} {sz vs hr : Int} (h : validP k sz vs hr) (hs : s.size ≤ 9223372036854775806) (fm : Bool) : Rok ⟨s, k, sz, vs, hr, fm⟩ :=
  ⟨hs, h.2.1, h.1, h.2.2⟩
/-- Eval. -/
def evalS (s : ByteArray) (k : UInt8) (sz vs hr : Int) : Int × Int := if validP k sz vs hr then evR ⟨s, k, sz, vs, hr, false⟩ else (0, 1)
def numberS (s : ByteArray) (k : UInt8) (sz vs hr : Int) : Int × Int := if validP k sz vs hr then nuR ⟨s, k, sz, vs, hr, false⟩ else (0, 1)
theorem Tab.alloc {w : World} (h : Tab w) (o : Obj) : Tab (w.alloc o) := by
  obtain ⟨t, fr, h⟩ := h
  exact ⟨t, fr, by rw [Below.heap_alloc _ _ _ (Array.getElem?_eq_some_iff.1 h).1]; exact h⟩
theorem Tab.below {w w' : World} (h : Tab w) {B : Nat} (k : Below B w w') (hB : 0 < B) : Tab w' := by
  obtain ⟨t, fr, h⟩ := h
  exact ⟨t, fr, by rw [k.block 0 hB]; exact h⟩
theorem Tab.pos {w : World} (h : Tab w) : 0 < w.heap.size := by
  obtain ⟨t, fr, h⟩ := h
  exact (Array.getElem?_eq_some_iff.1 h).1
/-- Three boxes of a context, and a new reader. -/
def newR (w : World) (r : RS) : World := (((w.alloc (CXo r.sz r.vs r.hr)).alloc (CXo r.sz r.vs r.hr)).alloc (CXo r.sz r.vs r.hr)).alloc (rdObj 64 r 0 0 0)
theorem newR_has (w : World) (r : RS) : Has 64 (w.heap.size + 1 + 1 + 1) r 0 0 0 (newR w r) := by
  show (newR w r).heap[w.heap.size + 1 + 1 + 1]? = _
  have : w.heap.size + 1 + 1 + 1 = (((w.alloc (CXo r.sz r.vs r.hr)).alloc (CXo r.sz r.vs r.hr)).alloc (CXo r.sz r.vs r.hr)).heap.size := by simp
  rw [this]
  exact heap_alloc_new _ _
theorem newR_below (w : World) (r : RS) : Below w.heap.size w (newR w r) :=
  ((((Below.refl _ _).alloc (Nat.le_refl _) _).alloc (by simp) _).alloc (by simp; omega) _).alloc (by simp; omega) _
theorem newR_size (w : World) (r : RS) : (newR w r).heap.size = w.heap.size + 4 := by simp [newR]
section
variable {w : World}
theorem eval_invalid (s : ByteArray) (k : UInt8) (sz vs hr : Int) (hv : ¬ validP k sz vs hr) :
    Calls Tryd.prog 18 #[.string s, .int .u8 k.toNat, CX sz vs hr] w fun e w' => e = .returned (.tuple #[.int .i64 0, .int .i64 1]) ∧ Below w.heap.size w w' := by
  have hh : validP k sz vs hr ↔ false = true := by simp [hv]
  have HV := Lib.hid hh
  clear hv hh
  go_enter Tryd.func18, Tryd.ntmps18
  go_wp2_with (go_at_call 32; refine (valid_any k sz vs hr false HV.out _).mono ?_; rintro e w' ⟨rfl, rfl⟩)
  go_ret2
  exact ⟨rfl, (((Below.refl _ _).alloc (Nat.le_refl _) _).alloc (by simp) _).alloc (by simp; omega) _⟩
theorem eval_valid (s : ByteArray) (k : UInt8) (sz vs hr : Int) (hv : validP k sz vs hr) (hs : s.size ≤ 9223372036854775806) (hT : Tab w) :
    Calls Tryd.prog 18 #[.string s, .int .u8 k.toNat, CX sz vs hr] w fun e w' => e = .returned (.tuple #[.int .i64 (evR ⟨s, k, sz, vs, hr, false⟩).1, .int .i64 (evR ⟨s, k, sz, vs, hr, false⟩).2]) ∧ Below w.heap.size w w' := by
  have hh : validP k sz vs hr ↔ true = true := by simp [hv]
  have HV := Lib.hid hh
  have HK := Lib.hid (Rok.mk' hv hs false)
  have HT := Lib.hid hT
  clear hv hh hT
  have hmf : ∀ (fn : Fn) (first cap : Array Value) (w : World), (Instr.makeFunc fn first cap).run Tryd.prog w = .ok (.func fn first cap) w := fun _ _ _ _ => rfl
  go_enter Tryd.func18, Tryd.ntmps18
  go_wp2_with (go_at_call 32; refine (valid_any k sz vs hr true HV.out _).mono ?_; rintro e w' ⟨rfl, rfl⟩)
  refine (caught_any (b := w.heap.size + 1 + 1 + 1) (r := ⟨s, k, sz, vs, hr, false⟩) (p := 0) (dp := 0) (wh := 0) 36 (fun n x _ => (n, x) = evR ⟨s, k, sz, vs, hr, false⟩)
    (fun w1 h1 t1 => onlyExpression_any HK.out rfl w1 h1 t1) (fun _ => by show _ = _; kernel_rfl) (newR_has w ⟨s, k, sz, vs, hr, false⟩) (HT.out.below (newR_below w ⟨s, k, sz, vs, hr, false⟩) HT.out.pos)).mono ?_
  rintro e w1 ⟨o1, n, x, q, d, wh, hV, h1, rfl⟩
  have o1' : Own (w.heap.size + 1 + 1 + 1) (newR w ⟨s, k, sz, vs, hr, false⟩) w1 := o1
  have hb := (newR_below w ⟨s, k, sz, vs, hr, false⟩).trans ((o1'.toBelow (by rw [newR_size]; omega)).mono (by omega))
  have HB := Lib.hid hb
  have HV2 := Lib.hid hV
  clear o1 h1 hV o1' hb
  go_wp2_with fail
  go_ret2
  exact ⟨by rw [← HV2.out]; rfl, HB.out⟩
theorem eval_any (s : ByteArray) (k : UInt8) (sz vs hr : Int) (hs : s.size ≤ 9223372036854775806) (hT : Tab w) :
    Calls Tryd.prog 18 #[.string s, .int .u8 k.toNat, CX sz vs hr] w fun e w' => e = .returned (.tuple #[.int .i64 (evalS s k sz vs hr).1, .int .i64 (evalS s k sz vs hr).2]) ∧ Below w.heap.size w w' := by
  unfold evalS
  by_cases hv : validP k sz vs hr
  · rw [if_pos hv]; exact eval_valid s k sz vs hr hv hs hT
  · rw [if_neg hv]; exact eval_invalid s k sz vs hr hv
theorem number_invalid (s : ByteArray) (k : UInt8) (sz vs hr : Int) (hv : ¬ validP k sz vs hr) :
    Calls Tryd.prog 21 #[.string s, .int .u8 k.toNat, CX sz vs hr] w fun e w' => e = .returned (.tuple #[.int .i64 0, .int .i64 1]) ∧ Below w.heap.size w w' := by
  have hh : validP k sz vs hr ↔ false = true := by simp [hv]
  have HV := Lib.hid hh
  clear hv hh
  go_enter Tryd.func21, Tryd.ntmps21
  go_wp2_with (go_at_call 32; refine (valid_any k sz vs hr false HV.out _).mono ?_; rintro e w' ⟨rfl, rfl⟩)
  go_ret2
  exact ⟨rfl, (((Below.refl _ _).alloc (Nat.le_refl _) _).alloc (by simp) _).alloc (by simp; omega) _⟩
theorem number_valid (s : ByteArray) (k : UInt8) (sz vs hr : Int) (hv : validP k sz vs hr) (hs : s.size ≤ 9223372036854775806) (hT : Tab w) :
    Calls Tryd.prog 21 #[.string s, .int .u8 k.toNat, CX sz vs hr] w fun e w' => e = .returned (.tuple #[.int .i64 (nuR ⟨s, k, sz, vs, hr, false⟩).1, .int .i64 (nuR ⟨s, k, sz, vs, hr, false⟩).2]) ∧ Below w.heap.size w w' := by
  have hh : validP k sz vs hr ↔ true = true := by simp [hv]
  have HV := Lib.hid hh
  have HK := Lib.hid (Rok.mk' hv hs false)
  have HT := Lib.hid hT
  clear hv hh hT
  have hmf : ∀ (fn : Fn) (first cap : Array Value) (w : World), (Instr.makeFunc fn first cap).run Tryd.prog w = .ok (.func fn first cap) w := fun _ _ _ _ => rfl
  go_enter Tryd.func21, Tryd.ntmps21
  go_wp2_with (go_at_call 32; refine (valid_any k sz vs hr true HV.out _).mono ?_; rintro e w' ⟨rfl, rfl⟩)
  refine (caught_any (b := w.heap.size + 1 + 1 + 1) (r := ⟨s, k, sz, vs, hr, false⟩) (p := 0) (dp := 0) (wh := 0) 38 (fun n x _ => (n, x) = nuR ⟨s, k, sz, vs, hr, false⟩)
    (fun w1 h1 t1 => onlyNumber_any HK.out rfl w1 h1 t1) (fun _ => by show _ = _; kernel_rfl) (newR_has w ⟨s, k, sz, vs, hr, false⟩) (HT.out.below (newR_below w ⟨s, k, sz, vs, hr, false⟩) HT.out.pos)).mono ?_
  rintro e w1 ⟨o1, n, x, q, d, wh, hV, h1, rfl⟩
  have o1' : Own (w.heap.size + 1 + 1 + 1) (newR w ⟨s, k, sz, vs, hr, false⟩) w1 := o1
  have hb := (newR_below w ⟨s, k, sz, vs, hr, false⟩).trans ((o1'.toBelow (by rw [newR_size]; omega)).mono (by omega))
  have HB := Lib.hid hb
  have HV2 := Lib.hid hV
  clear o1 h1 hV o1' hb
  go_wp2_with fail
  go_ret2
  exact ⟨by rw [← HV2.out]; rfl, HB.out⟩
theorem number_call (s : ByteArray) (k : UInt8) (sz vs hr : Int) (hs : s.size ≤ 9223372036854775806) (hT : Tab w) :
    Calls Tryd.prog 21 #[.string s, .int .u8 k.toNat, CX sz vs hr] w fun e w' => e = .returned (.tuple #[.int .i64 (numberS s k sz vs hr).1, .int .i64 (numberS s k sz vs hr).2]) ∧ Below w.heap.size w w' := by
  unfold numberS
  by_cases hv : validP k sz vs hr
  · rw [if_pos hv]; exact number_valid s k sz vs hr hv hs hT
  · rw [if_neg hv]; exact number_invalid s k sz vs hr hv
end
end Go.Proofs.YteihpeffaeahlaaDoor
