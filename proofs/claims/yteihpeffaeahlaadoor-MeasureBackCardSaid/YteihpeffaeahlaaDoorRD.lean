/- The law's helpers as, letter, reads. -/
import Derived.Test.YteihpeffaeahlaaDoorRC
import Derived.Test.YteihpeffaeahlaaDoorLawLeft
namespace Go.Proofs.YteihpeffaeahlaaDoor
open Go.RowKit
set_option maxRecDepth 100000
def lets : List UInt8 := [117, 112, 80, 105, 99, 109, 110, 118]
def letS (n : Int) : UInt8 := if 0 ≤ n ∧ n < 256 then UInt8.ofNat n.toNat else lets.getD ((IntKind.u64.wrap n).tmod 8).toNat 0
theorem lets_at (a : Nat) (h : a < 8) : (⟨#[117, 112, 80, 105, 99, 109, 110, 118]⟩ : ByteArray)[a]'h = lets[a]?.getD 0 := by
  have : a = 0 ∨ a = 1 ∨ a = 2 ∨ a = 3 ∨ a = 4 ∨ a = 5 ∨ a = 6 ∨ a = 7 := by omega
  rcases this with rfl | rfl | rfl | rfl | rfl | rfl | rfl | rfl <;> rfl
theorem letter_any (n : Int) (w : World) : Calls Tryd.prog 13 #[.int .i64 n] w fun e w' => e = .returned (.int .u8 (letS n).toNat) ∧ w' = w := by
  obtain ⟨a, ha, hA⟩ := umod n 8 (by omega) (by omega)
  by_cases h0 : 0 ≤ n
  · by_cases h1 : n < 256
    · have e : letS n = UInt8.ofNat n.toNat := by unfold letS; rw [if_pos ⟨h0, h1⟩]
      have e2 : (((letS n).toNat : Nat) : Int) = n := by rw [e]; simp; omega
      rw [e2]
      have hw : IntKind.u8.wrap n = n := by rw [IntKind.wrap_u8]; omega
      have t0 : decide (0 ≤ n) = true := decide_eq_true h0
      have t1 : decide (n < 256) = true := decide_eq_true h1
      clear e e2 hA
      go_enter Tryd.func13, Tryd.ntmps13
      go_wp2_with fail
      go_ret
      exact ⟨rfl, rfl⟩
    · have t0 : decide (0 ≤ n) = true := decide_eq_true h0
      have t1 : decide (n < 256) = false := decide_eq_false h1
      have e : letS n = lets.getD a 0 := by unfold letS; rw [if_neg (fun h => h1 h.2), hA]; rfl
      rw [e]
      have HL := Lib.hid (lets_at a (by omega))
      have hai : (a : Int) < 8 := ha
      clear e
      go_enter Tryd.func13, Tryd.ntmps13
      go_wp2_with fail
      go_ret
      rw [← HL.out]
      exact ⟨rfl, rfl⟩
  · have t0 : decide (0 ≤ n) = false := decide_eq_false h0
    have e : letS n = lets.getD a 0 := by unfold letS; rw [if_neg (fun h => h0 h.1), hA]; rfl
    rw [e]
    have HL := Lib.hid (lets_at a (by omega))
    have hai : (a : Int) < 8 := ha
    clear e
    go_enter Tryd.func13, Tryd.ntmps13
    go_wp2_with fail
    go_ret
    rw [← HL.out]
    exact ⟨rfl, rfl⟩
theorem as_any (sz vs hr : Int) (w : World) : Calls Tryd.prog 17 #[CX sz vs hr] w fun e w' => e = .returned (CX sz vs hr) ∧ Below w.heap.size w w' := by
  go_enter Tryd.func17, Tryd.ntmps17
  go_wp2_with fail
  refine bodyPost_ret (v := CX sz vs hr) (by simp [results, Tryd.results17, go_sem]) rfl ⟨rfl, ((Below.refl _ _).alloc (Nat.le_refl _) _).alloc (by simp) _⟩
/-- A context in memory. -/
def Cxb (o b : Nat) (sz vs hr : Int) (w : World) : Prop := w.heap[b]? = some (.cells #[.int .i64 sz, .int .i64 vs, .int .i64 hr] o)
section
variable {o b : Nat} {sz vs hr : Int} {w w' : World}
theorem Cxb.c0 (h : Cxb o b sz vs hr w) : w.cell? ⟨b, 0, none⟩ = some (.int .i64 sz) := by simp [World.cell?, show w.heap[b]? = _ from h]
theorem Cxb.c1 (h : Cxb o b sz vs hr w) : w.cell? ⟨b, 1, none⟩ = some (.int .i64 vs) := by simp [World.cell?, show w.heap[b]? = _ from h]
theorem Cxb.c2 (h : Cxb o b sz vs hr w) : w.cell? ⟨b, 2, none⟩ = some (.int .i64 hr) := by simp [World.cell?, show w.heap[b]? = _ from h]
theorem Cxb.lt (h : Cxb o b sz vs hr w) : b < w.heap.size := (Array.getElem?_eq_some_iff.1 (show w.heap[b]? = _ from h)).1
theorem Cxb.below (h : Cxb o b sz vs hr w) (k : Below w.heap.size w w') : Cxb o b sz vs hr w' := (k.block b h.lt).trans h
theorem Cxb.new (w : World) : Cxb o w.heap.size sz vs hr (w.alloc (.cells #[.int .i64 sz, .int .i64 vs, .int .i64 hr] o)) := heap_alloc_new _ _
end
/-- Both contexts in memory, and the table. -/
structure Two (b x : Nat) (sz vs hr : Int) (w0 w : World) : Prop where
  l : Cxb 23 b sz vs hr w
  r : Cxb 38 x sz vs hr w
  t : Tab w
  b : Below w0.heap.size w0 w
theorem Two.below {b x : Nat} {sz vs hr : Int} {w0 w w' : World} (h : Two b x sz vs hr w0 w) (k : Below w.heap.size w w') : Two b x sz vs hr w0 w' :=
  ⟨h.l.below k, h.r.below k, h.t.below k h.t.pos, h.b.trans (k.mono h.b.size)⟩
theorem reads_any (s : ByteArray) (sz vs hr n : Int) (hs : s.size ≤ 9223372036854775800) (w : World) (hT : Tab w) :
    Calls Tryd.prog 10 #[.string s, CX sz vs hr, .int .i64 n] w fun e w' => e = .returned (.bool true) ∧ Below w.heap.size w w' := by
  have HS := Lib.hid hs
  have HT := Lib.hid hT
  obtain ⟨k, hk⟩ : ∃ k, k = letS n := ⟨_, rfl⟩
  have hl := fun W => letter_any n W
  rw [← hk] at hl
  have HL := Lib.hid hl
  clear hs hT hl hk
  go_enter Tryd.func10, Tryd.ntmps10
  go_wp2_with fail
  refine (as_any sz vs hr _).mono ?_
  rintro e w1 ⟨rfl, hb1⟩
  have cb := (Cxb.new (o := 23) (sz := sz) (vs := vs) (hr := hr) w).below hb1
  have hba : Below w.heap.size w w1 := ((Below.refl w.heap.size w).alloc (Nat.le_refl _) _).trans (hb1.mono (by simp))
  have d0 := cb.c0
  have d1 := cb.c1
  have d2 := cb.c2
  have hlt := cb.lt
  have tw : Two w.heap.size w1.heap.size sz vs hr w (w1.alloc (CXp sz vs hr)) :=
    ⟨cb.below ((Below.refl _ _).alloc (Nat.le_refl _) _), Cxb.new w1, (HT.out.below hba HT.out.pos).alloc _, hba.alloc hba.size _⟩
  have TW := Lib.hid tw
  clear hb1 cb hba tw
  go_wp2_with (first | (go_at_call 13; refine (HL.out _).mono ?_; rintro e w' ⟨rfl, rfl⟩))
  refine (number_call s k sz vs hr (Nat.le_trans HS.out (by decide)) TW.out.t).mono ?_
  rintro e v1 ⟨rfl, hb⟩
  have tw := TW.out.below hb
  have l0 := tw.l.c0
  have l1 := tw.l.c1
  have l2 := tw.l.c2
  have r0 := tw.r.c0
  have r1 := tw.r.c1
  have r2 := tw.r.c2
  have T1 := Lib.hid tw
  clear hb tw TW d0 d1 d2 hlt
  go_wp2_with fail
  clear l0 l1 l2 r0 r1 r2
  refine (rnumber_call s k sz vs hr HS.out _).mono ?_
  rintro e v2 ⟨rfl, hb⟩
  have tw := T1.out.below hb
  have l0 := tw.l.c0
  have l1 := tw.l.c1
  have l2 := tw.l.c2
  have r0 := tw.r.c0
  have r1 := tw.r.c1
  have r2 := tw.r.c2
  have T2 := Lib.hid tw
  clear hb tw T1
  go_wp2_with fail
  clear l0 l1 l2 r0 r1 r2
  refine (eval_any s k sz vs hr (Nat.le_trans HS.out (by decide)) T2.out.t).mono ?_
  rintro e v3 ⟨rfl, hb⟩
  have tw := T2.out.below hb
  have l0 := tw.l.c0
  have l1 := tw.l.c1
  have l2 := tw.l.c2
  have r0 := tw.r.c0
  have r1 := tw.r.c1
  have r2 := tw.r.c2
  have T3 := Lib.hid tw
  clear hb tw T2
  go_wp2_with fail
  clear l0 l1 l2 r0 r1 r2
  refine (reval_any s k sz vs hr HS.out _).mono ?_
  rintro e v4 ⟨rfl, hb⟩
  have tw := T3.out.below hb
  have l0 := tw.l.c0
  have l1 := tw.l.c1
  have l2 := tw.l.c2
  have r0 := tw.r.c0
  have r1 := tw.r.c1
  have r2 := tw.r.c2
  have T4 := Lib.hid tw
  clear hb tw T3
  go_wp2_with fail
  clear l0 l1 l2 r0 r1 r2
  refine (prefix_any s k sz vs hr (Nat.le_trans HS.out (by decide)) T4.out.t).mono ?_
  rintro e v5 ⟨rfl, hb⟩
  have tw := T4.out.below hb
  have l0 := tw.l.c0
  have l1 := tw.l.c1
  have l2 := tw.l.c2
  have r0 := tw.r.c0
  have r1 := tw.r.c1
  have r2 := tw.r.c2
  have T5 := Lib.hid tw
  clear hb tw T4
  go_wp2_with fail
  clear l0 l1 l2 r0 r1 r2
  refine (rprefix_any s k sz vs hr HS.out _).mono ?_
  rintro e v6 ⟨rfl, hb⟩
  have tw := T5.out.below hb
  have l0 := tw.l.c0
  have l1 := tw.l.c1
  have l2 := tw.l.c2
  have r0 := tw.r.c0
  have r1 := tw.r.c1
  have r2 := tw.r.c2
  have T6 := Lib.hid tw
  clear hb tw T5
  go_wp2_with fail
  clear l0 l1 l2 r0 r1 r2
  refine (change_any n s k sz vs hr (Nat.le_trans HS.out (by decide)) T6.out.t).mono ?_
  rintro e v7 ⟨rfl, hb⟩
  have tw := T6.out.below hb
  have l0 := tw.l.c0
  have l1 := tw.l.c1
  have l2 := tw.l.c2
  have r0 := tw.r.c0
  have r1 := tw.r.c1
  have r2 := tw.r.c2
  have T7 := Lib.hid tw
  clear hb tw T6
  go_wp2_with fail
  clear l0 l1 l2 r0 r1 r2
  refine (rchange_any n s k sz vs hr HS.out _).mono ?_
  rintro e v8 ⟨rfl, hb⟩
  have tw := T7.out.below hb
  have l0 := tw.l.c0
  have l1 := tw.l.c1
  have l2 := tw.l.c2
  have r0 := tw.r.c0
  have r1 := tw.r.c1
  have r2 := tw.r.c2
  have T8 := Lib.hid tw
  clear hb tw T7
  go_wp2_with fail
  clear l0 l1 l2 r0 r1 r2
  go_ret
  exact ⟨rfl, T8.out.b⟩
end Go.Proofs.YteihpeffaeahlaaDoor
