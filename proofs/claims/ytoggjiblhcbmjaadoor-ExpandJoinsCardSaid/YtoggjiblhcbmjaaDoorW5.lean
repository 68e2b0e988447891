/- The code's pieces: a text's first piece. -/
import Derived.Test.YtoggjiblhcbmjaaDoorW4
namespace Go.Proofs.YtoggjiblhcbmjaaDoor
open Go.RowKit Go.Shelf
set_option maxRecDepth 100000
/-- What cut tells. -/
def cutV (l : List UInt8) : Value := .tuple #[pcV (cutS l).1, .string (bs (l.drop (cutS l).2))]
theorem cut_end {a : Act} {W' : World} {g : Nat} {x y z u n : Value} {Q : Ending → World → Prop} (hd : a.defers = []) (h2 : a.tmps.getD 2 undef = .pointer (some ⟨g, 0, none⟩)) (h3 : a.tmps.getD 3 undef = n)
    (hg : W'.heap[g]? = some (.cells #[x, y, z, u] 65 (0, 0))) (hQ : Q (.returned (.tuple #[.agg #[x, y, z, u], n])) W') : bodyPost Tryd.prog Tryd.f46 Q Exit.ret a W' := by
  have h2' : a.tmps[2]?.getD undef = .pointer (some ⟨g, 0, none⟩) := by simpa using h2
  have h3' : a.tmps[3]?.getD undef = n := by simpa using h3
  refine bodyPost_ret (v := .tuple #[.agg #[x, y, z, u], n]) ?_ hd hQ
  obtain ⟨c0, c1, c2, c3⟩ := fresh_pc hg
  simp [results, Tryd.results46, h2', h3', go_sem, c0, c1, c2, c3]
theorem drew_blk {W : World} {b : Nat} {o : Option Obj} (h : W.heap[b]? = o) : W.drew.heap[b]? = o := h
theorem drew_bel {B : Nat} {w W : World} (h : Below B w W) : Below B w W.drew := below_drewN h 1
theorem ext_take (s : ByteArray) (n : Nat) (h : n ≤ s.size) : s.extract 0 n = bs (s.data.toList.take n) := by rw [bs_ext s 0 n h, List.drop_zero]
theorem ext_drop (s : ByteArray) (n : Nat) : s.extract n s.size = bs (s.data.toList.drop n) := by
  rw [bs_ext s n s.size (Nat.le_refl _), List.take_of_length_le (by rw [sz_of s _ rfl]; exact Nat.le_refl _)]
set_option maxHeartbeats 1000000 in
theorem cut_any (s : ByteArray) (hs : s.size ≤ maxLen) (hne : s.data.toList ≠ []) (w : World) : Calls Tryd.prog 46 #[.string s] w fun e w' => e = .returned (cutV s.data.toList) ∧ Below w.heap.size w w' := by
  have hlen : s.data.toList.length = s.size := (sz_of s _ rfl).symm
  have HI := Lib.hid (fun W => ix92 s W)
  have HE := Lib.hid (fun W => escape_any s hs W)
  unfold maxLen at hs
  have hok := escS_ok s.data.toList hne
  obtain ⟨R, hR⟩ : ∃ R, R = cutV s.data.toList := ⟨_, rfl⟩
  rw [← hR]
  unfold cutV cutS at hR
  have hige := Lib.indexByte_ge s.data.toList 92
  have hilt := ix_le s.data.toList 92
  generalize Lib.indexByte s.data.toList 92 = i at *
  by_cases hi : i < 0
  · rw [if_pos hi] at hR
    have d1 : decide (i < 0) = true := decide_eq_true hi
    have HR := Lib.hid (show R = .tuple #[pcV ⟨s.data.toList, 0, [], 0⟩, .string (bs [])] by rw [hR, List.drop_of_length_le (Nat.le_refl _)])
    have HBLK := Lib.hid (heap_alloc_new w (.cells #[.string s, .int .u8 0, .string ⟨#[]⟩, .int .i64 0] 65))
    clear hR hok hige hilt hi hlen hne
    go_enter Tryd.func46, Tryd.ntmps46
    go_wp2_with fail
    refine (HI.out _).mono ?_
    rintro e w1 ⟨rfl, rfl⟩
    go_wp2_with fail
    go_region
    all_goals
      go_wp2_with fail
      rw [HR.out]
      refine cut_end (x := .string (bs s.data.toList)) (y := .int .u8 0) (z := .string (bs [])) (u := .int .i64 0) (n := .string (bs [])) rfl rfl rfl ?_ ⟨rfl, ?_⟩
      · rw [bs_self]; exact HBLK.out
      · exact below_drewN (bel0 w _) 1
  · rw [if_neg hi] at hR
    obtain ⟨k, rfl⟩ : ∃ k : Nat, i = k := ⟨i.toNat, by omega⟩
    have hk := hilt (by omega)
    rw [Int.toNat_natCast] at hk
    have d1 : decide ((k : Int) < 0) = false := decide_eq_false (by omega)
    by_cases hk0 : k = 0
    · rw [if_pos (by omega)] at hR
      have d2 : ((k : Int) == 0) = true := by rw [hk0]; rfl
      generalize escS s.data.toList = E at *
      obtain ⟨p, n⟩ := E
      have hn1 := hok.n1
      have hnl := hok.nl
      simp only at hn1 hnl hR
      have hns : n ≤ s.size := by omega
      have HR := Lib.hid hR
      have HX0 := Lib.hid (ext_take s n hns)
      have HX1 := Lib.hid (ext_drop s n)
      obtain ⟨tx, kd, nm, st⟩ := p
      unfold escV pcV at HE
      clear hR hok hige hilt hi hlen hne hk hk0 hnl
      go_enter Tryd.func46, Tryd.ntmps46
      go_wp2_with fail
      refine (HI.out _).mono ?_
      rintro e w1 ⟨rfl, rfl⟩
      go_wp2_with fail
      refine (HE.out _).mono ?_
      rintro e w1 ⟨rfl, hb⟩
      have hz : w.heap.size < w1.heap.size := by have := hb.size; rw [siz0] at this; omega
      have HBLK := Lib.hid ((hb.block w.heap.size (by rw [siz0]; omega)).trans (heap_alloc_new w _))
      have HB := Lib.hid ((bel0 w _).trans (hb.mono (by rw [siz0]; omega)))
      have hf := (bcell hb).2
      clear hb
      have h0 : w1.cell? ⟨w.heap.size, 0, none⟩ = some (.string ⟨#[]⟩) := (fresh_pc HBLK.out).1
      have h1 : w1.cell? ⟨w.heap.size, 1, none⟩ = some (.int .u8 0) := (fresh_pc HBLK.out).2.1
      have h2 : w1.cell? ⟨w.heap.size, 2, none⟩ = some (.string ⟨#[]⟩) := (fresh_pc HBLK.out).2.2.1
      have h3 : w1.cell? ⟨w.heap.size, 3, none⟩ = some (.int .i64 0) := (fresh_pc HBLK.out).2.2.2
      go_wp2_with fail
      go_region
      all_goals
        go_wp2_with fail
        rw [HR.out]
        refine cut_end (x := .string (bs (s.data.toList.take n))) (y := .int .u8 kd.toNat) (z := .string (bs nm)) (u := .int .i64 st) (n := .string (bs (s.data.toList.drop n))) rfl rfl ?_ ?_ ⟨rfl, ?_⟩
        · rw [← HX1.out]; rfl
        · refine drew_blk ?_
          rw [← HX0.out]; simp [World.setCell, Array.getElem?_modify, HBLK.out]
        · refine drew_bel ?_
          repeat (with_reducible refine Below.setCell ?_ (Nat.le_refl w.heap.size) _)
          exact HB.out
    · rw [if_neg (by omega), Int.toNat_natCast] at hR
      have d2 : ((k : Int) == 0) = false := by simp; omega
      have hks : k ≤ s.size := by omega
      have HR := Lib.hid hR
      have HX0 := Lib.hid (ext_take s k hks)
      have HX1 := Lib.hid (ext_drop s k)
      have HBLK := Lib.hid (heap_alloc_new w (.cells #[.string (s.extract 0 k), .int .u8 0, .string ⟨#[]⟩, .int .i64 0] 65))
      clear hR hok hige hilt hi hlen hne hk hk0
      go_enter Tryd.func46, Tryd.ntmps46
      go_wp2_with fail
      refine (HI.out _).mono ?_
      rintro e w1 ⟨rfl, rfl⟩
      go_wp2_with fail
      go_region
      all_goals
        go_wp2_with fail
        rw [HR.out]
        refine cut_end (x := .string (bs (s.data.toList.take k))) (y := .int .u8 0) (z := .string (bs [])) (u := .int .i64 0) (n := .string (bs (s.data.toList.drop k))) rfl rfl ?_ ?_ ⟨rfl, ?_⟩
        · rw [← HX1.out]; rfl
        · rw [← HX0.out]; exact HBLK.out
        · exact below_drewN (bel0 w _) 1
end Go.Proofs.YtoggjiblhcbmjaaDoor
