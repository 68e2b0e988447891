/- Contract: the code's roman numbers. -/
import Derived.Test.YtedbdpklliaoaaaGreatDoorW3
import Derived.Laws.Rows
namespace Go.Proofs.YtedbdpklliaoaaaGreatDoor
open Go.RowKit Go.Shelf
set_option maxRecDepth 100000
theorem greedy_step (v : Nat) (t : List UInt8) (r : List (Nat × List UInt8)) (m : Nat) (hv : 0 < v) (h : v ≤ m) : greedy ((v, t) :: r) m = t ++ greedy ((v, t) :: r) (m - v) := by
  simp only [greedy]
  rw [Nat.div_eq_sub_div hv h, rept, List.append_assoc, ← Nat.mod_eq_sub_mod h]
theorem greedy_end (v : Nat) (t : List UInt8) (r : List (Nat × List UInt8)) (m : Nat) (h : m < v) : greedy ((v, t) :: r) m = greedy r m := by
  simp only [greedy]
  rw [Nat.div_eq_of_lt h, Nat.mod_eq_of_lt h]; rfl
def nv (k : Nat) : Nat := (nums.getD k (0, [])).1
def nt (k : Nat) : List UInt8 := (nums.getD k (0, [])).2
theorem num_cases (k : Nat) (h : k < 13) : k = 0 ∨ k = 1 ∨ k = 2 ∨ k = 3 ∨ k = 4 ∨ k = 5 ∨ k = 6 ∨ k = 7 ∨ k = 8 ∨ k = 9 ∨ k = 10 ∨ k = 11 ∨ k = 12 := by omega
theorem num_drop (k : Nat) (h : k < 13) : nums.drop k = (nv k, nt k) :: nums.drop (k + 1) ∧ 0 < nv k ∧ nv k ≤ 1000 ∧ (nt k).length ≤ 2 ∧ 0 < (nt k).length := by
  rcases num_cases k h with rfl | rfl | rfl | rfl | rfl | rfl | rfl | rfl | rfl | rfl | rfl | rfl | rfl <;> decide
theorem num_ix (k : Nat) (h : k < 13) (w : World) : (Instr.index 90 (.agg numA) (.int .i64 k)).run Tryz.prog w = .ok (.agg #[.int .i64 (nv k), .string ⟨(nt k).toArray⟩]) w := by
  rcases num_cases k h with rfl | rfl | rfl | rfl | rfl | rfl | rfl | rfl | rfl | rfl | rfl | rfl | rfl <;> kernel_rfl
/-- At the head of the outer loop. -/
def RmO (N : Nat) (w : World) (k : Nat) (n i : Value) (wr : World) : Prop :=
  ∃ j m l, k + j = 13 ∧ m ≤ N ∧ n = .int .i64 m ∧ i = .int .i64 j ∧ rom N = l ++ greedy (nums.drop j) m ∧ Lib.IsBuilderF 88 5 w.heap.size w.heap.size (Lib.byteCells l) wr ∧ Below w.heap.size w wr ∧ w.heap.size < wr.heap.size
/-- At the head of the inner loop. -/
def RmI (N : Nat) (w : World) (j c : Nat) (k : Nat) (n : Value) (wr : World) : Prop :=
  ∃ m l, k = m ∧ m ≤ N ∧ n = .int .i64 m ∧ rom N = l ++ greedy (nums.drop j) m ∧ Lib.IsBuilderF 88 5 w.heap.size w.heap.size (Lib.byteCells l) wr ∧ Below w.heap.size w wr ∧ w.heap.size < wr.heap.size ∧ w.heap.size < c ∧ wr.heap[c]? = some (.cells #[.int .i64 (nv j), .string ⟨(nt j).toArray⟩] 89 (0, 0))
theorem roman_dec (N : Nat) (hN : N ≤ 1000000000) (h : N = 0 ∨ 39999 < N) (w : World) (hT : TB w) : Calls Tryz.prog 59 #[.int .i64 N] w fun e w' => e = .returned (.string ⟨(dec N).toArray⟩) ∧ Below w.heap.size w w' := by
  have HC := Lib.hid (itoa_call N (by omega) w hT)
  clear hT
  rcases h with h | h
  · subst h
    go_enter Tryz.func59, Tryz.ntmps59
    go_wp2_with fail
    refine HC.out.mono ?_
    rintro e w' ⟨rfl, hb⟩
    have HB := Lib.hid hb
    clear hb
    go_wp2_with fail
    go_ret
    exact ⟨rfl, HB.out⟩
  · have h1 : ((N : Int) == 0) = false := by simp; omega
    have h2 : decide ((39999 : Int) < (N : Int)) = true := decide_eq_true (by omega)
    clear h
    go_enter Tryz.func59, Tryz.ntmps59
    go_wp2_with fail
    refine HC.out.mono ?_
    rintro e w' ⟨rfl, hb⟩
    have HB := Lib.hid hb
    clear hb
    go_wp2_with fail
    go_ret
    exact ⟨rfl, HB.out⟩
set_option maxHeartbeats 1000000 in
theorem roman_rom (N : Nat) (h1 : 0 < N) (h2 : N ≤ 39999) (w : World) (hT : TB w) : Calls Tryz.prog 59 #[.int .i64 N] w fun e w' => e = .returned (.string ⟨(rom N).toArray⟩) ∧ Below w.heap.size w w' := by
  have d1 : ((N : Int) == 0) = false := by simp; omega
  have d2 : decide ((39999 : Int) < (N : Int)) = false := decide_eq_false (by omega)
  obtain ⟨t0, fr0, hnum⟩ := hT.num
  have hpos := hT.pos
  have HB0 := Lib.hid (Lib.IsBuilderF.of (Lib.fresh_isBuilder 88 5 w))
  have HL := Lib.hid (rom_len N h2)
  have HNUM := Lib.hid hnum
  have hix := num_ix
  clear hT hnum
  go_enter Tryz.func59, Tryz.ntmps59
  have HG := Lib.hid (show (w.alloc (.cells #[.pointer none, .slice none 0 0] 88)).heap[(0 : Nat)]? = some (.cells numA t0 fr0) from (Below.heap_alloc _ _ _ hpos).trans HNUM.out)
  go_wp2_with (refine wpList_load_row rfl 90 _ rfl 0 rfl t0 numA fr0 _ HG.out Tryz.underlying90 rfl (by kernel_rfl) ?_)
  go_loopg [0, 15] 13 (fun k n i wr => RmO N w k n i wr)
  case atStart => exact ⟨0, N, [], rfl, Nat.le_refl _, rfl, rfl, rfl, HB0.out, (Below.refl _ _).alloc (Nat.le_refl _) _, by simp⟩
  case round =>
    obtain ⟨j, m, l, hk, hm, rfl, rfl, hr, hib, hb, hsz⟩ := hrel
    have HK := Lib.hid hk
    have HR := Lib.hid hr
    have HIB := Lib.hid hib
    have HB := Lib.hid hb
    clear hk hr hib hb
    by_cases hj : j < 13
    · have hji : decide ((j : Int) < 13) = true := decide_eq_true (by omega)
      obtain ⟨hdr, hv0, hv1, htl, htp⟩ := num_drop j hj
      have HD := Lib.hid hdr
      have hsl : (nt j).toArray.size ≤ 2 := by rw [List.size_toArray]; exact htl
      clear hdr htl htp
      obtain ⟨wo, rfl⟩ : ∃ wo : World, wo = wr := ⟨_, rfl⟩
      obtain ⟨g1, rfl⟩ : ∃ g1, g1 = gk := ⟨_, rfl⟩
      have HC0 := Lib.hid (show (wo.alloc (.cells #[.int .i64 (nv j), .string ⟨(nt j).toArray⟩] 89)).heap[wo.heap.size]? = some (.cells #[.int .i64 (nv j), .string ⟨(nt j).toArray⟩] 89 (0, 0)) from heap_alloc_new _ _)
      go_wp2_with fail
      go_loopg [0] m (fun k n wr => RmI N w j wo.heap.size k n wr)
      case atStart =>
        exact ⟨m, l, rfl, hm, rfl, HR.out, HIB.out.alloc _, HB.out.alloc (by omega) _, by simp; omega, hsz, HC0.out⟩
      case round =>
        obtain ⟨m', l', rfl, hm', rfl, hr', hib', hb', hsz', hc', hcell⟩ := hrel
        have HR' := Lib.hid hr'
        have HIB' := Lib.hid hib'
        have HB' := Lib.hid hb'
        have HCELL := Lib.hid hcell
        have hce0 : wr.cell? ⟨wo.heap.size, 0, none⟩ = some (.int .i64 (nv j)) := by simp [World.cell?, hcell]
        have hce1 : wr.cell? ⟨wo.heap.size, 1, none⟩ = some (.string ⟨(nt j).toArray⟩) := by simp [World.cell?, hcell]
        clear hr' hib' hb' hcell
        by_cases hge : nv j ≤ gk
        · have dge : decide (nv j ≤ gk) = true := decide_eq_true hge
          have dge' : decide ((nv j : Int) ≤ (gk : Int)) = true := decide_eq_true (by omega)
          go_wp2_with fail
          have hll : l'.length ≤ 51 := by
            have h1 := HL.out
            rw [HR'.out] at h1; simp at h1; omega
          refine (bld_write w.heap.size w.heap.size l' ⟨(nt j).toArray⟩ _ HIB'.out (by show l'.length + (nt j).toArray.size ≤ _; omega) (by omega)).mono ?_
          rintro e w2 ⟨rfl, hib2, hb2, hok⟩
          have hcell2 := hok wo.heap.size _ HCELL.out (by intro hx; have := Option.some.inj hx; omega) (by intro c fz hx; cases hx)
          have hce2 : w2.cell? ⟨wo.heap.size, 0, none⟩ = some (.int .i64 (nv j)) := by simp [World.cell?, hcell2]
          have HIB2 := Lib.hid hib2
          have HB2 := Lib.hid (HB'.out.trans hb2)
          have HCELL2 := Lib.hid hcell2
          have hsz2 := hb2.size
          clear hib2 hb2 hok hcell2 hce0 hce1
          go_wp2_with fail
          go_roundg (gk - nv j)
          case measure => omega
          case rel =>
            refine ⟨gk - nv j, l' ++ nt j, rfl, by omega, by rw [Int.ofNat_sub hge], ?_, HIB2.out, HB2.out, by omega, hc', HCELL2.out⟩
            rw [HR'.out, HD.out, greedy_step _ _ _ _ hv0 hge, List.append_assoc]
        · have dge : decide (nv j ≤ gk) = false := decide_eq_false hge
          have dge' : decide ((nv j : Int) ≤ (gk : Int)) = false := decide_eq_false (by omega)
          go_wp2_with fail
          go_roundg (g1 - 1)
          case measure => have := HK.out; omega
          case rel =>
            have hk := HK.out
            refine ⟨j + 1, gk, l', by omega, by omega, rfl, by go_num, ?_, HIB'.out, HB'.out, by omega⟩
            rw [HR'.out, HD.out, greedy_end _ _ _ _ (by omega)]
    · have hji : decide ((j : Int) < 13) = false := decide_eq_false (by omega)
      have hj13 : j = 13 := by have := HK.out; omega
      have HE := Lib.hid (show rom N = l by rw [HR.out, hj13]; simp [nums, greedy])
      clear hj13
      go_wp2_with fail
      refine (bld_string w.heap.size w.heap.size l _ HIB.out (by omega)).mono ?_
      rintro e w2 ⟨rfl, hb2⟩
      have HB2 := Lib.hid (HB.out.trans hb2)
      clear hb2
      go_wp2_with fail
      go_ret
      rw [HE.out]
      exact ⟨rfl, HB2.out⟩
theorem roman_any (N : Nat) (hN : N ≤ 1000000000) (w : World) (hT : TB w) : Calls Tryz.prog 59 #[.int .i64 N] w fun e w' => e = .returned (.string ⟨(if N = 0 ∨ 39999 < N then dec N else rom N).toArray⟩) ∧ Below w.heap.size w w' := by
  by_cases h : N = 0 ∨ 39999 < N
  · rw [if_pos h]; exact roman_dec N hN h w hT
  · rw [if_neg h]; exact roman_rom N (by omega) (by omega) w hT
end Go.Proofs.YtedbdpklliaoaaaGreatDoor
