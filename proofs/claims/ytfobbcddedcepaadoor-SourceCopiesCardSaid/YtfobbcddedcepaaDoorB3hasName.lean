/- The topmost frame that is wanted: the walk. -/
import Derived.Test.YtfobbcddedcepaaDoorB2
namespace Go.Proofs.YtfobbcddedcepaaDoor
open Go.RowKit Go.Shelf
set_option maxRecDepth 100000
set_option linter.unusedSimpArgs false
set_option linter.unusedVariables false
attribute [local go_sem] Oper.semAt_some
set_option maxHeartbeats 1000000 in
theorem topmost_hasName {sb g c : Nat} {F : List Fr} {rs : List RF} {w : World} (hK : CK sb g c F rs w) :
    CallsIn Fence.wide 9 Tryd.prog 46 #[BP sb, .func (.func 65) #[] #[]] w (TopP qName rs w) := by
  have mixed : Tryd.prog.follows Departure.mixedOrders = true := by kernel_rfl
  have hw : Wants 65 qName := hasName_w
  refine callsIn_of_wp_marks Tryd.func46 rfl trivial ?_ rfl
  simp only [Tryd.ntmps46, List.size_toArray, List.length_cons, List.length_nil, Nat.reduceAdd, Nat.reduceSub, Array.replicate_succ, Array.replicate_zero, List.push_toArray, List.append_toArray, List.nil_append, List.cons_append]
  gi_wp2_with ((refine ⟨trivial, ?_⟩; gi_at_call 69; refine (fromTop_any _ _ _ ⟨_, rfl⟩).mono ?_; rintro e w' ⟨rfl, rfl⟩))
  simp only [World.size_alloc, Nat.add_assoc, Nat.reduceAdd]
  have hz : ∀ (v0 v1 v2 v3 : Array Value) (t0 t1 t2 t3 : TypeId), ((((w.alloc (.cells v0 t0)).alloc (.cells v1 t1)).alloc (.cells v2 t2)).alloc (.cells v3 t3)).heap.size = w.heap.size + 4 := by intros; simp
  obtain ⟨W0, hW0⟩ : ∃ W0, W0 = (((w.alloc (.cells #[.func (.func 65) #[] #[]] 70)).alloc (.cells #[.int .i64 0] 3)).alloc (.cells #[.int .i64 0, .string ⟨#[]⟩, .slice none 0 0, .slice none 0 0, .int .i64 0] 64)).alloc (.cells #[BP sb] 25) := ⟨_, rfl⟩
  have hsz : W0.heap.size = w.heap.size + 4 := by rw [hW0]; exact hz _ _ _ _ _ _ _ _
  have hfour := four_alloc w #[.func (.func 65) #[] #[]] #[.int .i64 0] #[.int .i64 0, .string ⟨#[]⟩, .slice none 0 0, .slice none 0 0, .int .i64 0] #[BP sb] 70 3 64 25
  rw [← hW0] at hfour ⊢
  obtain ⟨k0, k1, k2, k3, hB0⟩ := hfour
  have hKW := hK.below hB0
  have hlt := hK.lt
  have hb3 : W0.cell? ⟨w.heap.size + 3, 0, none⟩ = some (BP sb) := by simp [World.cell?, k3]
  refine wpIn_rangeFunc_ownH rfl (by omega) (gf := 77) (lb := #[.pointer (some ⟨w.heap.size + 3, 0, none⟩)]) rfl trivial (enters_of Tryd.func77 (by kernel_rfl) rfl)
    (iter_stops 8 (by omega) (w.heap.size + 3) sb g c F rs W0.heap.size W0 hb3 (by omega) hKW (by omega) (Nat.le_refl _)) belowK_t (belowK_b (Nat.le_refl _)) (Below.refl _ _) (fun _ => rfl)
    (fun pre W => (∀ y ∈ pre, qName y.2 = false) ∧ (W.heap[w.heap.size]? = some (.cells #[.func (.func 65) #[] #[]] 70 (0, 0)) ∧ W.heap[w.heap.size + 1]? = some (.cells #[.int .i64 0] 3 (0, 0)) ∧ W.heap[w.heap.size + 2]? = some (.cells #[.int .i64 0, .string ⟨#[]⟩, .slice none 0 0, .slice none 0 0, .int .i64 0] 64 (0, 0)) ∧ W.heap[w.heap.size + 3]? = some (.cells #[BP sb] 25 (0, 0))) ∧ Below w.heap.size w W)
    (fun k pre W => ∃ p x, k = .ret ∧ pre = p ++ [x] ∧ (∀ y ∈ p, qName y.2 = false) ∧ qName x.2 = true ∧ W.heap[w.heap.size + 1]? = some (.cells #[.int .i64 x.1] 3 (0, 0)) ∧ W.heap[w.heap.size + 2]? = some (.cells #[.int .i64 x.2.kd, .string x.2.nm, .slice x.2.lo x.2.ln x.2.lc, .slice x.2.ao x.2.an x.2.ac, .int .i64 x.2.tk] 64 (0, 0)) ∧ Below w.heap.size w W)
    ?hI ?hIx ?h0
    (fun x a' W => ∃ Bx, w.heap.size + 3 < Bx ∧ W.heap[Bx]? = some (.cells #[.int .i64 x.2.kd, .string x.2.nm, .slice x.2.lo x.2.ln x.2.lc, .slice x.2.ao x.2.an x.2.ac, .int .i64 x.2.tk] 64 (0, 0)) ∧ a' = { tmps := #[BP sb, .func (.func 65) #[] #[], undef, .pointer (some ⟨w.heap.size, 0, none⟩), .pointer (some ⟨w.heap.size + 1, 0, none⟩), .pointer (some ⟨w.heap.size + 2, 0, none⟩), .int .i64 x.1, .pointer (some ⟨Bx, 0, none⟩), BP sb, .func (.func 77) #[] #[.pointer (some ⟨w.heap.size + 3, 0, none⟩)], .int .i64 x.1, rfA x.2, undef, undef, undef, undef, undef, undef], defers := [] })
    ?hAx ?assign ?body ?done ?stop
  case hI => exact OwnFrom.and (fun _ _ _ _ hs _ _ => hs) (OwnFrom.and (OwnFrom.and (Own.from (own_blk _ _ _ _) _) (OwnFrom.and (Own.from (own_blk _ _ _ _) _) (OwnFrom.and (Own.from (own_blk _ _ _ _) _) (Own.from (own_blk _ _ _ _) _)))) (ownFrom_below (Nat.le_refl _) (by omega)))
  case hIx =>
    rintro k pre A B row ⟨p, x, h1, h2, h3, h4, h5, h6, h7⟩ hg hr
    have o1 := own_blk (w.heap.size + 1) #[.int .i64 x.1] 3 (0, 0) () A B row h5 hg (fun r e => (hr r e).2)
    have o2 := own_blk (w.heap.size + 2) _ 64 (0, 0) () A B row h6 hg (fun r e => (hr r e).2)
    exact ⟨p, x, h1, h2, h3, h4, o1, o2, ownFrom_below (β := Unit) (Nat.le_refl _) (show w.heap.size ≤ W0.heap.size by omega) () A B row h7 hg hr⟩
  case h0 => exact ⟨by simp, ⟨k0, k1, k2, k3⟩, hB0⟩
  case hAx =>
    rintro x a' _ A B row ⟨Bx, h1, h2, h3⟩ hg hr
    exact ⟨Bx, h1, own_blk Bx _ 64 (0, 0) () A B row h2 hg (fun r e => (hr r e).2), h3⟩
  case assign =>
    rintro l pre ⟨k, r⟩ W K ⟨hp, ⟨a0, a1, a2, a3⟩, hB⟩ hK
    dsimp only [encF, rfA] at *
    have hbz := hB.size
    have hw0 := lt_of_block a3
    gi_wp2
    refine hK _ _ ((KeepsOthers.alloc _ _).from _) ?_ ⟨hp, ⟨?_, ?_, ?_, ?_⟩, ?_⟩ ⟨W.heap.size, ?_, ?_, rfl⟩
    · exact (Below.refl _ W).alloc (Nat.le_trans (Nat.le_of_eq hsz) (by omega)) _
    · exact (Below.heap_alloc _ _ _ (lt_of_block a0)).trans a0
    · exact (Below.heap_alloc _ _ _ (lt_of_block a1)).trans a1
    · exact (Below.heap_alloc _ _ _ (lt_of_block a2)).trans a2
    · exact (Below.heap_alloc _ _ _ hw0).trans a3
    · exact hB.alloc hbz _
    · exact hw0
    · exact heap_alloc_new _ _
  case body =>
    rintro l pre ⟨k, r⟩ a' W hl ⟨o, ho⟩ ⟨hp, ⟨a0, a1, a2, a3⟩, hB⟩ ⟨Bx, hBx, aX, rfl⟩ hlen
    obtain ⟨⟨x0, x1, x2, x3, x4⟩, _⟩ := fresh_fr aX
    have y0 : W.cell? ⟨w.heap.size, 0, none⟩ = some (.func (.func 65) #[] #[]) := by simp [World.cell?, a0]
    have hwr := hw r W
    dsimp only [encF, rfA] at *
    have HB := Lib.hid hB
    have HP := Lib.hid hp
    have HA0 := Lib.hid a0
    have HA1 := Lib.hid a1
    have HA2 := Lib.hid a2
    have HA3 := Lib.hid a3
    have HAX := Lib.hid aX
    have z1 : W.cell? ⟨w.heap.size + 1, 0, none⟩ = some (.int .i64 0) := by simp [World.cell?, a1]
    cases hq : qName r with
    | false =>
      rw [hq] at hwr
      have HW := Lib.hid hwr
      have HQ := Lib.hid hq
      clear hwr hB hp hw hK hKW hlt hb3 hlen hq a0 a1 a2 a3 aX z1
      gi_wp2_with ((refine ⟨trivial, ?_⟩; gi_at_call 65; refine (CallsIn.inRound l (callsIn_wide.2 HW.out)).mono ?_; rintro e w1 ⟨rfl, hb1⟩))
      refine ⟨keeps_below hb1, hb1.mono (Nat.le_trans hl (Nat.le_of_lt (lt_of_block ho))), ⟨fun y hy => ?_, ⟨(hb1.block _ (lt_of_block HA0.out)).trans HA0.out, (hb1.block _ (lt_of_block HA1.out)).trans HA1.out, (hb1.block _ (lt_of_block HA2.out)).trans HA2.out, (hb1.block _ (lt_of_block HA3.out)).trans HA3.out⟩, HB.out.trans (hb1.mono HB.out.size)⟩⟩
      rcases List.mem_append.1 hy with hy | hy
      · exact HP.out y hy
      · simp only [List.mem_cons, List.not_mem_nil, or_false] at hy
        subst hy
        exact HQ.out
    | true =>
      rw [hq] at hwr
      have HW := Lib.hid hwr
      have HQ := Lib.hid hq
      clear hwr hB hp hw hK hKW hlt hb3 hlen hq a0 a1 a2 a3 aX
      gi_wp2_with ((refine ⟨trivial, ?_⟩; gi_at_call 65; refine (CallsIn.inRound l (callsIn_wide.2 HW.out)).mono ?_; rintro e w1 ⟨rfl, hb1⟩
                    have HB1 := Lib.hid hb1
                    have u0 := (hb1.block _ (lt_of_block HAX.out)).trans HAX.out
                    have u1 := (hb1.block _ (lt_of_block HA1.out)).trans HA1.out
                    have u2 := (hb1.block _ (lt_of_block HA2.out)).trans HA2.out
                    obtain ⟨⟨p0, p1, p2, p3, p4⟩, _⟩ := fresh_fr u0
                    obtain ⟨⟨q0, q1, q2, q3, q4⟩, f0, f1, f2, f3, f4⟩ := fresh_fr u2
                    have s0 : w1.cell? ⟨w.heap.size + 1, 0, none⟩ = some (.int .i64 0) := by simp [World.cell?, u1]
                    have s1 : w1.frozen? ⟨w.heap.size + 1, 0, none⟩ = false := by simp [World.frozen?, u1]
                    clear hb1))
      have hA := topA (k := (k : Int)) (r := r) u1 u2 (by omega)
      have hB := topB (k := (k : Int)) (r := r) u1 u2 (by omega)
      have HA := Lib.hid hA
      have HBB := Lib.hid hB
      clear hA hB
      gi_region_with_o (fail)
      all_goals
        gi_wp2
        first
          | exact ⟨(keeps_below HB1.out).trans (HA.out.1.from _), pre, (k, r), rfl, rfl, HP.out, HQ.out, HA.out.2.1, HA.out.2.2.1, HB.out.trans ((HB1.out.mono HB.out.size).trans (HA.out.2.2.2 _ (Nat.le_add_right _ _) (Nat.le_add_right _ _)))⟩
          | exact ⟨(keeps_below HB1.out).trans (HBB.out.1.from _), pre, (k, r), rfl, rfl, HP.out, HQ.out, HBB.out.2.1, HBB.out.2.2.1, HB.out.trans ((HB1.out.mono HB.out.size).trans (HBB.out.2.2.2 _ (Nat.le_add_right _ _) (Nat.le_add_right _ _)))⟩
  case done =>
    rintro D ys W hD rfl ⟨hp, ⟨a0, a1, a2, a3⟩, hB⟩ hDf
    have hz0 := down_none qName rs rs.length (Nat.le_refl _) hp
    have s0 : W.cell? ⟨w.heap.size + 1, 0, none⟩ = some (.int .i64 0) := by simp [World.cell?, a1]
    have s1 : W.frozen? ⟨w.heap.size + 1, 0, none⟩ = false := by simp [World.frozen?, a1]
    obtain ⟨⟨q0, q1, q2, q3, q4⟩, f0, f1, f2, f3, f4⟩ := fresh_fr a2
    have hA := topC a1 a2 (by omega)
    have HA := Lib.hid hA
    have HZ := Lib.hid hz0
    have HB := Lib.hid hB
    have HD := Lib.hid hDf
    clear hA hz0 hB hDf hp hw hK hKW hlt hb3 a0 a1 a2 a3
    gi_wp2
    have hD5 := HA.out.1.same D _ HD.out rfl
    refine ⟨by simp, .inl ⟨_, _, rfl, run_takeDeferred hD5, ?_⟩⟩
    refine ⟨_, top_end rfl rfl rfl ((World.putObj_heap_other (by omega)).trans HA.out.2.1) ((World.putObj_heap_other (by omega)).trans HA.out.2.2.1), ?_, ?_⟩
    · rw [HZ.out]; rfl
    · exact HB.out.trans ((HA.out.2.2.2 _ (Nat.le_add_right _ _) (Nat.le_add_right _ _)).trans (belowK_b (w := W0) (by omega) _ D _ _ hD hD5 rfl rfl))
  case stop =>
    rintro D k pre W hD hpre ⟨p, x, rfl, rfl, h3, h4, h5, h6, h7⟩ hDf
    have hf := down_found qName rs rs.length (Nat.le_refl _) p x hpre h3 h4
    have HF := Lib.hid hf
    have HD := Lib.hid hDf
    clear hf
    gi_wp2
    refine ⟨by simp, .inl ⟨_, _, rfl, run_takeDeferred HD.out, ?_⟩⟩
    refine ⟨_, top_end rfl rfl rfl ((World.putObj_heap_other (by omega)).trans h5) ((World.putObj_heap_other (by omega)).trans h6), ?_, ?_⟩
    · rw [HF.out.1]
      have hg : gotR rs (x.1 + 1) = x.2 := by unfold gotR; rw [if_neg (by omega), Nat.add_sub_cancel, HF.out.2]; rfl
      rw [hg]
      have hi : ((x.1 + 1 : Nat) : Int) - 1 = (x.1 : Int) := by omega
      rw [hi]
    · exact h7.trans (belowK_b (w := W0) (by omega) _ D _ _ hD HD.out rfl rfl)
theorem top_hasName {sb g c : Nat} {F : List Fr} {rs : List RF} {w : World} (hK : CK sb g c F rs w) : Calls Tryd.prog 46 #[BP sb, .func (.func 65) #[] #[]] w (TopP qName rs w) :=
  callsIn_wide.1 (topmost_hasName hK)
end Go.Proofs.YtfobbcddedcepaaDoor
