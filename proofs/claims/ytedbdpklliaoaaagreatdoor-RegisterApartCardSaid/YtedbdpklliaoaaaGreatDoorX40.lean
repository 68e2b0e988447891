/- Both books: a deed of kind 0. -/
import Derived.Test.YtedbdpklliaoaaaGreatDoorX3
import Derived.Deep.RegionHeld3
namespace Go.Proofs.YtedbdpklliaoaaaGreatDoor
open Go.RowKit Go.Shelf Go.Maps
set_option maxRecDepth 100000
set_option maxHeartbeats 8000000 in
theorem does_0 {T bb mb B bx : Nat} {v : Value} {L : List Reg} {w : World} (h : Two T bb mb B bx v L w) (D n : Int) (nm fm : ByteArray) (hD : (IntKind.u64.wrap D).tmod 7 = 0) :
    Calls Tryz.prog 9 #[BP bb, BP bx, .agg #[.int .i64 D, .string nm, .string fm, .int .i64 n]] w fun e w' => ∃ v' L', e = .returned (.bool true) ∧ Two T bb mb B bx v' L' w' ∧ Dn mb bx v v' w w' := by
  have hbw := (Below.refl w.heap.size w).alloc (Nat.le_refl _) (.cells #[.int .i64 D, .string nm, .string fm, .int .i64 n] 32)
  have HB := Lib.hid (h.below hbw)
  have HBW := Lib.hid (Dn.of (mb := mb) (bx := bx) (v := v) hbw)
  obtain ⟨W0, hW0⟩ : ∃ W0, W0 = w.alloc (.cells #[.int .i64 D, .string nm, .string fm, .int .i64 n] 32) := ⟨_, rfl⟩
  have HC : Hid (∀ W : World, W.heap = (w.alloc (.cells #[.int .i64 D, .string nm, .string fm, .int .i64 n] 32)).heap → W.os = w.os → W.tape = w.tape → W.output = w.output → Calls Tryz.prog 17 #[BP bb, .string nm, .int .i64 n] W fun e w' => e = .returned (.int .i64 (chgS L nm.data.toList (eRange n) (setV n)).1) ∧ BK bb mb (chgS L nm.data.toList (eRange n) (setV n)).2 w' ∧ Kept (· = mb) (w.alloc (.cells #[.int .i64 D, .string nm, .string fm, .int .i64 n] 32)) w') := Lib.hid (fun W h1 h2 h3 h4 => (set_call (HB.out.bk.move (by rw [h1]) (by rw [h1])) nm n).mono fun e w' ⟨a, b, c⟩ => ⟨a, b, ⟨c.os.trans h2, c.tape.trans h3, c.output.trans h4, by rw [← h1]; exact c.size, fun k hk hs => by rw [← h1] at hk ⊢; exact c.block k hk hs⟩⟩)
  have HR : Hid (∀ w1 W : World, Kept (· = mb) (w.alloc (.cells #[.int .i64 D, .string nm, .string fm, .int .i64 n] 32)) w1 → W.heap = w1.heap → W.os = w1.os → W.tape = w1.tape → W.output = w1.output → Calls Tryz.prog 26 #[BP bx, .string nm, .int .i64 n] W fun e w' => ∃ v', e = .returned (.int .i64 (chgS L nm.data.toList (eRange n) (setV n)).1) ∧ RK B bx v' (chgS L nm.data.toList (eRange n) (setV n)).2 w' ∧ Fr bx v v' w1 w') := Lib.hid (fun w1 W k h1 h2 h3 h4 => (rSet_any ((HB.out.rk1 k).kept (Kept.of (S := fun _ => False) (show Below w1.heap.size w1 W from ⟨h2, h3, h4, by rw [h1]; exact Nat.le_refl _, fun k _ => by rw [h1]⟩)) (fun h => h) (fun _ _ h => h)) HB.out.bk.asc HB.out.bk.len nm n).mono fun e w' ⟨v', a, b, c, d⟩ => ⟨v', a, b, (Fr.below (bx := bx) (v := v) (show Below w1.heap.size w1 W from ⟨h2, h3, h4, by rw [h1]; exact Nat.le_refl _, fun k _ => by rw [h1]⟩)).trans ⟨c, d⟩⟩)
  have H0 := Lib.hid h
  clear h hbw hW0 W0
  generalize chgS L nm.data.toList (eRange n) (setV n) = R at HC HR
  go_enter Tryz.func9, Tryz.ntmps9
  go_wp2_with fail
  go_region_held3 (fun w' => w'.cell? ⟨w.heap.size, 1, none⟩ = some (.string nm) ∧ w'.cell? ⟨w.heap.size, 2, none⟩ = some (.string fm) ∧ w'.cell? ⟨w.heap.size, 3, none⟩ = some (.int .i64 n)) (first | exact ⟨d1, d2, d3⟩ | exact ⟨c1, c2, c3⟩ | go_keep)
    (first
    | (go_at_call 17; refine (HC.out _ ?_ ?_ ?_ ?_).mono ?_
       · rfl
       · rfl
       · rfl
       · rfl
       rintro e w1 ⟨rfl, hbk, hk1⟩
       have HBK1 := Lib.hid hbk
       have HK1 := Lib.hid hk1
       have hblk := hk1.block w.heap.size (by simp) (fun e => by have e' : w.heap.size = mb := e; have := H0.out.bk.lt; omega)
       rw [heap_alloc_new] at hblk
       obtain ⟨⟨c0, c1, c2, c3⟩, _⟩ := fresh_dd hblk
       clear hbk hk1 hblk)
    | (go_at_call 26; refine (HR.out w1 _ HK1.out ?_ ?_ ?_ ?_).mono ?_
       · rfl
       · rfl
       · rfl
       · rfl
       rintro e w2 ⟨v', rfl, hr2, hf2⟩
       have HX := Lib.hid (HB.out.step HK1.out HBK1.out hr2 hf2)
       have hblk := HX.out.2.kept.block w.heap.size (by simp) (by
         have h1 := H0.out.bk.lt; have h2 := H0.out.rk.lt
         rintro (e | e | e)
         · omega
         · omega
         · have := (H0.out.rk.row.lt _ e).2; omega)
       rw [heap_alloc_new] at hblk
       obtain ⟨⟨d0, d1, d2, d3⟩, _⟩ := fresh_dd hblk
       clear hr2 hf2 hblk))
  all_goals
    go_wp2_with fail
    go_ret
    exact ⟨v', _, by first | rfl | simp, HX.out.1, HBW.out.trans HX.out.2⟩
end Go.Proofs.YtedbdpklliaoaaaGreatDoor
