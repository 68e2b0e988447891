/- The law MeasureTexts: its walk. -/
import Derived.Test.YteihpeffaeahlaaDoorRG
namespace Go.Proofs.YteihpeffaeahlaaDoor
open Go.RowKit
set_option maxRecDepth 100000
theorem Cxb.drewN {o b : Nat} {sz vs hr : Int} {w : World} (h : Cxb o b sz vs hr w) (n : Nat) : Cxb o b sz vs hr (w.drewN n) := h
set_option maxHeartbeats 1000000 in
theorem law_texts (n sc sz vs hr : Int) (hn : n ≤ 9223372036854775807) (w : World) (hT : Tab w) (hP : P10 w) :
    Calls Tryd.prog 5 #[.int .i64 n, .int .i64 sc, CX sz vs hr] w fun e w' => e = .returned (.bool true) ∧ Below w.heap.size w w' := by
  obtain ⟨k, hk⟩ : ∃ k, k = letS sc := ⟨_, rfl⟩
  have hl := fun W => letter_any sc W
  rw [← hk] at hl
  have HL := Lib.hid hl
  have b1 : Below w.heap.size w (w.alloc (CXo sz vs hr)) := (Below.refl _ _).alloc (Nat.le_refl _) _
  have B1 := Lib.hid b1
  have P1 := Lib.hid (hP.below b1)
  have HT := Lib.hid hT
  have cb := Cxb.new (o := 23) (sz := sz) (vs := vs) (hr := hr) w
  have HC := Lib.hid cb
  have HX := Lib.hid (text_any n k hn (w.alloc (CXo sz vs hr)) (hP.below b1))
  have HR := Lib.hid (fun W => rtext_any n k hn W)
  clear hl hk b1 hT hP cb
  generalize textS n k = y at HX HR
  go_enter Tryd.func5, Tryd.ntmps5
  go_wp2_with (first | (go_at_call 13; refine (HL.out _).mono ?_; rintro e w' ⟨rfl, rfl⟩))
  refine HX.out.mono ?_
  rintro e w1 ⟨rfl, hb1⟩
  have B2 := Lib.hid (B1.out.trans (hb1.mono B1.out.size))
  have HC1 := Lib.hid (HC.out.below hb1)
  clear hb1
  go_wp2_with (first | (go_at_call 13; refine (HL.out _).mono ?_; rintro e w' ⟨rfl, rfl⟩))
  refine (HR.out _).mono ?_
  rintro e w2 ⟨rfl, hb2⟩
  have B3 := Lib.hid (B2.out.trans (hb2.mono B2.out.size))
  have cb2 := HC1.out.below hb2
  have HC2 := Lib.hid cb2
  have l0 := cb2.c0
  have l1 := cb2.c1
  have l2 := cb2.c2
  have hlt := cb2.lt
  clear hb2 cb2
  have HU1 := Lib.hid (fun (W : World) => unit_call (w := W) k sz vs hr)
  have HU2 := Lib.hid (fun (W : World) => runit_call k sz vs hr W)
  have HA := Lib.hid (fun (W : World) => as_any sz vs hr W)
  generalize unitS k sz vs hr = x at HU1 HU2
  go_wp2_with fail
  go_region_held3 (fun w' => w'.cell? ⟨w.heap.size, 0, none⟩ = some (.int .i64 sz) ∧ w'.cell? ⟨w.heap.size, 1, none⟩ = some (.int .i64 vs) ∧ w'.cell? ⟨w.heap.size, 2, none⟩ = some (.int .i64 hr)) (go_keep)
    (first | (go_at_call 13; refine (HL.out _).mono ?_; rintro e w' ⟨rfl, rfl⟩) | (go_at_call 15; refine (HU1.out _).mono ?_; rintro e w3 ⟨rfl, hb⟩; have k0 := (bcell hb).1 w.heap.size 0 (by exact hlt); have k1 := (bcell hb).1 w.heap.size 1 (by exact hlt); have k2 := (bcell hb).1 w.heap.size 2 (by exact hlt); have hlt3 : w.heap.size < w3.heap.size := Nat.lt_of_lt_of_le hlt hb.size; have HB3 := Lib.hid hb; clear hb))
  have b3 := (below_drewN B3.out _).trans (HB3.out.mono B3.out.size)
  have B4 := Lib.hid b3
  have cb3 := (HC2.out.drewN _).below HB3.out
  have m0 := cb3.c0
  have m1 := cb3.c1
  have m2 := cb3.c2
  clear b3 cb3 l0 l1 l2 k0 k1 k2
  go_wp2_with fail
  go_region_held3 (fun w' => w'.cell? ⟨w.heap.size, 0, none⟩ = some (.int .i64 sz) ∧ w'.cell? ⟨w.heap.size, 1, none⟩ = some (.int .i64 vs) ∧ w'.cell? ⟨w.heap.size, 2, none⟩ = some (.int .i64 hr)) (go_keep)
    (first | (go_at_call 13; refine (HL.out _).mono ?_; rintro e w' ⟨rfl, rfl⟩) | (go_at_call 17; refine (HA.out _).mono ?_; rintro e w4 ⟨rfl, hb⟩; have g0 := (bcell hb).1 w.heap.size 0 (by exact hlt3); have g1 := (bcell hb).1 w.heap.size 1 (by exact hlt3); have g2 := (bcell hb).1 w.heap.size 2 (by exact hlt3); have hlt4 : w.heap.size < w4.heap.size := Nat.lt_of_lt_of_le hlt3 hb.size; have HB4 := Lib.hid hb; clear hb) | (go_at_call 16; refine (HU2.out _).mono ?_; rintro e w5 ⟨rfl, hb⟩; have h0 := (bcell hb).1 w.heap.size 0 (by exact hlt4); have h1 := (bcell hb).1 w.heap.size 1 (by exact hlt4); have h2 := (bcell hb).1 w.heap.size 2 (by exact hlt4); have hlt5 : w.heap.size < w5.heap.size := Nat.lt_of_lt_of_le hlt4 hb.size; have HB5 := Lib.hid hb; clear hb))
  have b5 := ((below_drewN B4.out _).trans (HB4.out.mono B4.out.size)).trans (HB5.out.mono (Nat.le_of_lt hlt4))
  have T5 := Lib.hid (HT.out.below b5 HT.out.pos)
  have B5 := Lib.hid b5
  clear b5
  go_wp2_with fail
  refine (sane_any _ T5.out).mono ?_
  rintro e w6 ⟨rfl, hb6⟩
  have B6 := Lib.hid (B5.out.trans (hb6.mono B5.out.size))
  clear hb6
  go_wp2_with fail
  go_ret
  exact ⟨rfl, B6.out⟩
end Go.Proofs.YteihpeffaeahlaaDoor
