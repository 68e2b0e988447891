/- A stack that is nil or was not made: going over its frames. -/
import Derived.Test.YtfobbcddedcepaaDoorOa
namespace Go.Proofs.YtfobbcddedcepaaDoor
open Go.RowKit Go.Shelf
set_option maxRecDepth 100000
set_option linter.unusedSimpArgs false
set_option linter.unusedVariables false
inductive No (w : World) : Option Addr → Prop
  | nil : No w none
  | zero (b : Nat) (h : w.heap[b]? = some (.cells #[.slice none 0 0] 49 (0, 0))) : No w (some ⟨b, 0, none⟩)
theorem No.below {w w' : World} {q : Option Addr} (h : No w q) (k : Below w.heap.size w w') : No w' q := by
  cases h with
  | nil => exact .nil
  | zero b h => exact .zero b ((k.block b (lt_of_block h)).trans h)
theorem No.heap {w w' : World} {q : Option Addr} (h : No w q) (k : w'.heap = w.heap) : No w' q := by
  cases h with
  | nil => exact .nil
  | zero b h => exact .zero b (by rw [k]; exact h)
theorem made_no {q : Option Addr} {w : World} (h : No w q) : Calls Tryd.prog 41 #[.pointer q] w fun e w' => e = .returned (.bool false) ∧ w = w' := by
  cases h with
  | nil =>
    go_enter Tryd.func41, Tryd.ntmps41
    go_wp2_with fail
    go_ret
    exact ⟨rfl, rfl⟩
  | zero b h =>
    have hc : w.cell? ⟨b, 0, none⟩ = some (.slice none 0 0) := by simp [World.cell?, h]
    have hmn := fun (w : World) (o : Option Addr) (n c : Nat) => Lib.run_eql_slice_nil (P := Tryd.prog) w 47 64 o n c 0 0 Tryd.underlying47
    clear h
    go_enter Tryd.func41, Tryd.ntmps41
    go_wp2_with fail
    go_ret
    exact ⟨rfl, rfl⟩
theorem iter_none (n : Nat) (hn : 1 ≤ n) (Bn : Nat) (q : Option Addr) (n₀ : Nat) (w : World) (hBn : w.cell? ⟨Bn, 0, none⟩ = some (.pointer q)) (hBl : Bn < n₀) (hK : No w q) (hn₀ : n₀ ≤ w.heap.size) :
    SeqStopsK Fence.wide n Tryd.prog 77 #[.pointer (some ⟨Bn, 0, none⟩)] encF (Below n₀) (fun ys => ys = down [] 0) (fun pre => pre <+: down [] 0) 0 w := fun l J Jx W hW _ _ hY h0 => by
  refine callsIn_of_wp Tryd.func77 rfl trivial ?_ rfl
  simp only [Tryd.ntmps77, List.size_toArray, List.length_cons, List.length_nil, Nat.reduceAdd, Nat.reduceSub, Array.replicate_succ, Array.replicate_zero, List.push_toArray, List.append_toArray, List.nil_append, List.cons_append]
  have hc := (hW.cell (p := ⟨Bn, 0, none⟩) (Nat.lt_of_lt_of_le hBl hn₀)).trans hBn
  have HM := Lib.hid (made_no (hK.below hW))
  gi_wp2_with ((refine ⟨trivial, ?_⟩; gi_at_call 41; refine (callsIn_wide.2 HM.out).mono ?_; rintro e w1 ⟨rfl, rfl⟩))
  refine bodyPost_ret (results_none rfl _ _ _) rfl ?_
  exact ⟨⟨_, rfl⟩, .inl ⟨[], rfl, h0⟩⟩
end Go.Proofs.YtfobbcddedcepaaDoor
/- The topmost frame that is wanted: the walk. -/
namespace Go.Proofs.YtfobbcddedcepaaDoor
open Go.RowKit Go.Shelf
set_option maxRecDepth 100000
set_option linter.unusedSimpArgs false
set_option linter.unusedVariables false
attribute [local go_sem] Oper.semAt_some
set_option maxHeartbeats 1000000 in
theorem topno_isFile_ {q : Option Addr} {w : World} (hK : No w q) :
    CallsIn Fence.wide 9 Tryd.prog 46 #[.pointer q, .func (.func 56) #[] #[]] w (TopP qFile [] w) := by
  have mixed : Tryd.prog.follows Departure.mixedOrders = true := by kernel_rfl
  have hw : Wants 56 qFile := isFile_w
  refine callsIn_of_wp_marks Tryd.func46 rfl trivial ?_ rfl
  simp only [Tryd.ntmps46, List.size_toArray, List.length_cons, List.length_nil, Nat.reduceAdd, Nat.reduceSub, Array.replicate_succ, Array.replicate_zero, List.push_toArray, List.append_toArray, List.nil_append, List.cons_append]
  gi_wp2_with ((refine ⟨trivial, ?_⟩; gi_at_call 69; refine (fromTop_any _ _ _ ⟨_, rfl⟩).mono ?_; rintro e w' ⟨rfl, rfl⟩))
  simp only [World.size_alloc, Nat.add_assoc, Nat.reduceAdd]
  have hz : ∀ (v0 v1 v2 v3 : Array Value) (t0 t1 t2 t3 : TypeId), ((((w.alloc (.cells v0 t0)).alloc (.cells v1 t1)).alloc (.cells v2 t2)).alloc (.cells v3 t3)).heap.size = w.heap.size + 4 := by intros; simp
  obtain ⟨W0, hW0⟩ : ∃ W0, W0 = (((w.alloc (.cells #[.func (.func 56) #[] #[]] 70)).alloc (.cells #[.int .i64 0] 3)).alloc (.cells #[.int .i64 0, .string ⟨#[]⟩, .slice none 0 0, .slice none 0 0, .int .i64 0] 64)).alloc (.cells #[.pointer q] 25) := ⟨_, rfl⟩
  have hsz : W0.heap.size = w.heap.size + 4 := by rw [hW0]; exact hz _ _ _ _ _ _ _ _
  have hfour := four_alloc w #[.func (.func 56) #[] #[]] #[.int .i64 0] #[.int .i64 0, .string ⟨#[]⟩, .slice none 0 0, .slice none 0 0, .int .i64 0] #[.pointer q] 70 3 64 25
  rw [← hW0] at hfour ⊢
  obtain ⟨k0, k1, k2, k3, hB0⟩ := hfour
  have hKW := hK.below hB0
  have hb3 : W0.cell? ⟨w.heap.size + 3, 0, none⟩ = some (.pointer q) := by simp [World.cell?, k3]
  refine wpIn_rangeFunc_ownH rfl (by omega) (gf := 77) (lb := #[.pointer (some ⟨w.heap.size + 3, 0, none⟩)]) rfl trivial (enters_of Tryd.func77 (by kernel_rfl) rfl)
    (iter_none 8 (by omega) (w.heap.size + 3) q W0.heap.size W0 hb3 (by omega) hKW (Nat.le_refl _)) belowK_t (belowK_b (Nat.le_refl _)) (Below.refl _ _) (fun _ => rfl)
    (fun pre W => (∀ y ∈ pre, qFile y.2 = false) ∧ (W.heap[w.heap.size]? = some (.cells #[.func (.func 56) #[] #[]] 70 (0, 0)) ∧ W.heap[w.heap.size + 1]? = some (.cells #[.int .i64 0] 3 (0, 0)) ∧ W.heap[w.heap.size + 2]? = some (.cells #[.int .i64 0, .string ⟨#[]⟩, .slice none 0 0, .slice none 0 0, .int .i64 0] 64 (0, 0)) ∧ W.heap[w.heap.size + 3]? = some (.cells #[.pointer q] 25 (0, 0))) ∧ Below w.heap.size w W)
    (fun k pre W => ∃ p x, k = .ret ∧ pre = p ++ [x] ∧ (∀ y ∈ p, qFile y.2 = false) ∧ qFile x.2 = true ∧ W.heap[w.heap.size + 1]? = some (.cells #[.int .i64 x.1] 3 (0, 0)) ∧ W.heap[w.heap.size + 2]? = some (.cells #[.int .i64 x.2.kd, .string x.2.nm, .slice x.2.lo x.2.ln x.2.lc, .slice x.2.ao x.2.an x.2.ac, .int .i64 x.2.tk] 64 (0, 0)) ∧ Below w.heap.size w W)
    ?hI ?hIx ?h0
    (fun x a' W => ∃ Bx, w.heap.size + 3 < Bx ∧ W.heap[Bx]? = some (.cells #[.int .i64 x.2.kd, .string x.2.nm, .slice x.2.lo x.2.ln x.2.lc, .slice x.2.ao x.2.an x.2.ac, .int .i64 x.2.tk] 64 (0, 0)) ∧ a' = { tmps := #[.pointer q, .func (.func 56) #[] #[], undef, .pointer (some ⟨w.heap.size, 0, none⟩), .pointer (some ⟨w.heap.size + 1, 0, none⟩), .pointer (some ⟨w.heap.size + 2, 0, none⟩), .int .i64 x.1, .pointer (some ⟨Bx, 0, none⟩), .pointer q, .func (.func 77) #[] #[.pointer (some ⟨w.heap.size + 3, 0, none⟩)], .int .i64 x.1, rfA x.2, undef, undef, undef, undef, undef, undef], defers := [] })
    ?hAx ?assign ?body ?done ?stop
  case hI => exact OwnFrom.and (fun _ _ _ _ hs _ _ => hs) (OwnFrom.and (OwnFrom.and (Own.from (own_blk _ _ _ _) _) (OwnFrom.and (Own.from (own_blk _ _ _ _) _) (OwnFrom.and (Own.from (own_blk _ _ _ _) _) (Own.from (own_blk _ _ _ _) _)))) (ownFrom_below (Nat.le_refl _) (by omega)))
  case hIx =>
    rintro k pre A B row ⟨p, x, h1, h2, h3, h4, h5, h6, h7⟩ hg hr
    have o1 := own_blk (w.heap.size + 1) #[.int .i64 x.1] 3 (0, 0) () A B row h5 hg (fun r e => (hr r e).2)
    have o2 := own_blk (w.heap.size + 2) _ 64 (0, 0) () A B row h6 hg (fun r e => (hr r e).2)
    exact ⟨p, x, h1, h2, h3, h4, o1, o2, ownFrom_below (β := Unit) (Nat.le_refl _) (show w.heap.size ≤ W0.heap.size by omega) () A B row h7 hg hr⟩
  case h0 => exact ⟨by simp, ⟨k0, k1, k2, k3⟩, hB0⟩
  case hAx =>
    rintro x a' _ A B row ⟨Bx, h1, h2, h3⟩ hg hr
    exact ⟨Bx, h1, own_blk Bx _ 64 (0, 0) () A B row h2 hg (fun r e => (hr r e).2), h3⟩
  case assign =>
    rintro l pre ⟨k, r⟩ W K ⟨hp, ⟨a0, a1, a2, a3⟩, hB⟩ hK
    dsimp only [encF, rfA] at *
    have hbz := hB.size
    have hw0 := lt_of_block a3
    gi_wp2
    refine hK _ _ ((KeepsOthers.alloc _ _).from _) ?_ ⟨hp, ⟨?_, ?_, ?_, ?_⟩, ?_⟩ ⟨W.heap.size, ?_, ?_, rfl⟩
    · exact (Below.refl _ W).alloc (Nat.le_trans (Nat.le_of_eq hsz) (by omega)) _
    · exact (Below.heap_alloc _ _ _ (lt_of_block a0)).trans a0
    · exact (Below.heap_alloc _ _ _ (lt_of_block a1)).trans a1
    · exact (Below.heap_alloc _ _ _ (lt_of_block a2)).trans a2
    · exact (Below.heap_alloc _ _ _ hw0).trans a3
    · exact hB.alloc hbz _
    · exact hw0
    · exact heap_alloc_new _ _
  case body =>
    rintro l pre ⟨k, r⟩ a' W hl ⟨o, ho⟩ ⟨hp, ⟨a0, a1, a2, a3⟩, hB⟩ ⟨Bx, hBx, aX, rfl⟩ hlen
    obtain ⟨⟨x0, x1, x2, x3, x4⟩, _⟩ := fresh_fr aX
    have y0 : W.cell? ⟨w.heap.size, 0, none⟩ = some (.func (.func 56) #[] #[]) := by simp [World.cell?, a0]
    have hwr := hw r W
    dsimp only [encF, rfA] at *
    have HB := Lib.hid hB
    have HP := Lib.hid hp
    have HA0 := Lib.hid a0
    have HA1 := Lib.hid a1
    have HA2 := Lib.hid a2
    have HA3 := Lib.hid a3
    have HAX := Lib.hid aX
    have z1 : W.cell? ⟨w.heap.size + 1, 0, none⟩ = some (.int .i64 0) := by simp [World.cell?, a1]
    cases hq : qFile r with
    | false =>
      rw [hq] at hwr
      have HW := Lib.hid hwr
      have HQ := Lib.hid hq
      clear hwr hB hp hw hK hKW hb3 hlen hq a0 a1 a2 a3 aX z1
      gi_wp2_with ((refine ⟨trivial, ?_⟩; gi_at_call 56; refine (CallsIn.inRound l (callsIn_wide.2 HW.out)).mono ?_; rintro e w1 ⟨rfl, hb1⟩))
      refine ⟨keeps_below hb1, hb1.mono (Nat.le_trans hl (Nat.le_of_lt (lt_of_block ho))), ⟨fun y hy => ?_, ⟨(hb1.block _ (lt_of_block HA0.out)).trans HA0.out, (hb1.block _ (lt_of_block HA1.out)).trans HA1.out, (hb1.block _ (lt_of_block HA2.out)).trans HA2.out, (hb1.block _ (lt_of_block HA3.out)).trans HA3.out⟩, HB.out.trans (hb1.mono HB.out.size)⟩⟩
      rcases List.mem_append.1 hy with hy | hy
      · exact HP.out y hy
      · simp only [List.mem_cons, List.not_mem_nil, or_false] at hy
        subst hy
        exact HQ.out
    | true =>
      rw [hq] at hwr
      have HW := Lib.hid hwr
      have HQ := Lib.hid hq
      clear hwr hB hp hw hK hKW hb3 hlen hq a0 a1 a2 a3 aX
      gi_wp2_with ((refine ⟨trivial, ?_⟩; gi_at_call 56; refine (CallsIn.inRound l (callsIn_wide.2 HW.out)).mono ?_; rintro e w1 ⟨rfl, hb1⟩
                    have HB1 := Lib.hid hb1
                    have u0 := (hb1.block _ (lt_of_block HAX.out)).trans HAX.out
                    have u1 := (hb1.block _ (lt_of_block HA1.out)).trans HA1.out
                    have u2 := (hb1.block _ (lt_of_block HA2.out)).trans HA2.out
                    obtain ⟨⟨p0, p1, p2, p3, p4⟩, _⟩ := fresh_fr u0
                    obtain ⟨⟨q0, q1, q2, q3, q4⟩, f0, f1, f2, f3, f4⟩ := fresh_fr u2
                    have s0 : w1.cell? ⟨w.heap.size + 1, 0, none⟩ = some (.int .i64 0) := by simp [World.cell?, u1]
                    have s1 : w1.frozen? ⟨w.heap.size + 1, 0, none⟩ = false := by simp [World.frozen?, u1]
                    clear hb1))
      have hA := topA (k := (k : Int)) (r := r) u1 u2 (by omega)
      have hB := topB (k := (k : Int)) (r := r) u1 u2 (by omega)
      have HA := Lib.hid hA
      have HBB := Lib.hid hB
      clear hA hB
      gi_region_with_o (fail)
      all_goals
        gi_wp2
        first
          | exact ⟨(keeps_below HB1.out).trans (HA.out.1.from _), pre, (k, r), rfl, rfl, HP.out, HQ.out, HA.out.2.1, HA.out.2.2.1, HB.out.trans ((HB1.out.mono HB.out.size).trans (HA.out.2.2.2 _ (Nat.le_add_right _ _) (Nat.le_add_right _ _)))⟩
          | exact ⟨(keeps_below HB1.out).trans (HBB.out.1.from _), pre, (k, r), rfl, rfl, HP.out, HQ.out, HBB.out.2.1, HBB.out.2.2.1, HB.out.trans ((HB1.out.mono HB.out.size).trans (HBB.out.2.2.2 _ (Nat.le_add_right _ _) (Nat.le_add_right _ _)))⟩
  case done =>
    rintro D ys W hD rfl ⟨hp, ⟨a0, a1, a2, a3⟩, hB⟩ hDf
    have hz0 : topQ qFile [] ([] : List RF).length = 0 := down_none qFile [] 0 (Nat.le_refl _) hp
    have s0 : W.cell? ⟨w.heap.size + 1, 0, none⟩ = some (.int .i64 0) := by simp [World.cell?, a1]
    have s1 : W.frozen? ⟨w.heap.size + 1, 0, none⟩ = false := by simp [World.frozen?, a1]
    obtain ⟨⟨q0, q1, q2, q3, q4⟩, f0, f1, f2, f3, f4⟩ := fresh_fr a2
    have hA := topC a1 a2 (by omega)
    have HA := Lib.hid hA
    have HZ := Lib.hid hz0
    have HB := Lib.hid hB
    have HD := Lib.hid hDf
    clear hA hz0 hB hDf hp hw hK hKW hb3 a0 a1 a2 a3
    gi_wp2
    have hD5 := HA.out.1.same D _ HD.out rfl
    refine ⟨by simp, .inl ⟨_, _, rfl, run_takeDeferred hD5, ?_⟩⟩
    refine ⟨_, top_end rfl rfl rfl ((World.putObj_heap_other (by omega)).trans HA.out.2.1) ((World.putObj_heap_other (by omega)).trans HA.out.2.2.1), ?_, ?_⟩
    · rw [HZ.out]; rfl
    · exact HB.out.trans ((HA.out.2.2.2 _ (Nat.le_add_right _ _) (Nat.le_add_right _ _)).trans (belowK_b (w := W0) (by omega) _ D _ _ hD hD5 rfl rfl))
  case stop =>
    rintro D k pre W hD hpre ⟨p, x, rfl, rfl, h3, h4, h5, h6, h7⟩ hDf
    have hf : topQ qFile [] ([] : List RF).length = x.1 + 1 ∧ ([] : List RF)[x.1]? = some x.2 := down_found qFile [] 0 (Nat.le_refl _) p x hpre h3 h4
    have HF := Lib.hid hf
    have HD := Lib.hid hDf
    clear hf
    gi_wp2
    refine ⟨by simp, .inl ⟨_, _, rfl, run_takeDeferred HD.out, ?_⟩⟩
    refine ⟨_, top_end rfl rfl rfl ((World.putObj_heap_other (by omega)).trans h5) ((World.putObj_heap_other (by omega)).trans h6), ?_, ?_⟩
    · rw [HF.out.1]
      have hg : gotR [] (x.1 + 1) = x.2 := by unfold gotR; rw [if_neg (by omega), Nat.add_sub_cancel, HF.out.2]; rfl
      rw [hg]
      have hi : ((x.1 + 1 : Nat) : Int) - 1 = (x.1 : Int) := by omega
      rw [hi]
    · exact h7.trans (belowK_b (w := W0) (by omega) _ D _ _ hD HD.out rfl rfl)
theorem topno_isFile {q : Option Addr} {w : World} (hK : No w q) : Calls Tryd.prog 46 #[.pointer q, .func (.func 56) #[] #[]] w (TopP qFile [] w) :=
  callsIn_wide.1 (topno_isFile_ hK)
end Go.Proofs.YtfobbcddedcepaaDoor
/- The topmost frame that is wanted: the walk. -/
namespace Go.Proofs.YtfobbcddedcepaaDoor
open Go.RowKit Go.Shelf
set_option maxRecDepth 100000
set_option linter.unusedSimpArgs false
set_option linter.unusedVariables false
attribute [local go_sem] Oper.semAt_some
set_option maxHeartbeats 1000000 in
theorem topno_isMacro_ {q : Option Addr} {w : World} (hK : No w q) :
    CallsIn Fence.wide 9 Tryd.prog 46 #[.pointer q, .func (.func 54) #[] #[]] w (TopP qMacro [] w) := by
  have mixed : Tryd.prog.follows Departure.mixedOrders = true := by kernel_rfl
  have hw : Wants 54 qMacro := isMacro_w
  refine callsIn_of_wp_marks Tryd.func46 rfl trivial ?_ rfl
  simp only [Tryd.ntmps46, List.size_toArray, List.length_cons, List.length_nil, Nat.reduceAdd, Nat.reduceSub, Array.replicate_succ, Array.replicate_zero, List.push_toArray, List.append_toArray, List.nil_append, List.cons_append]
  gi_wp2_with ((refine ⟨trivial, ?_⟩; gi_at_call 69; refine (fromTop_any _ _ _ ⟨_, rfl⟩).mono ?_; rintro e w' ⟨rfl, rfl⟩))
  simp only [World.size_alloc, Nat.add_assoc, Nat.reduceAdd]
  have hz : ∀ (v0 v1 v2 v3 : Array Value) (t0 t1 t2 t3 : TypeId), ((((w.alloc (.cells v0 t0)).alloc (.cells v1 t1)).alloc (.cells v2 t2)).alloc (.cells v3 t3)).heap.size = w.heap.size + 4 := by intros; simp
  obtain ⟨W0, hW0⟩ : ∃ W0, W0 = (((w.alloc (.cells #[.func (.func 54) #[] #[]] 70)).alloc (.cells #[.int .i64 0] 3)).alloc (.cells #[.int .i64 0, .string ⟨#[]⟩, .slice none 0 0, .slice none 0 0, .int .i64 0] 64)).alloc (.cells #[.pointer q] 25) := ⟨_, rfl⟩
  have hsz : W0.heap.size = w.heap.size + 4 := by rw [hW0]; exact hz _ _ _ _ _ _ _ _
  have hfour := four_alloc w #[.func (.func 54) #[] #[]] #[.int .i64 0] #[.int .i64 0, .string ⟨#[]⟩, .slice none 0 0, .slice none 0 0, .int .i64 0] #[.pointer q] 70 3 64 25
  rw [← hW0] at hfour ⊢
  obtain ⟨k0, k1, k2, k3, hB0⟩ := hfour
  have hKW := hK.below hB0
  have hb3 : W0.cell? ⟨w.heap.size + 3, 0, none⟩ = some (.pointer q) := by simp [World.cell?, k3]
  refine wpIn_rangeFunc_ownH rfl (by omega) (gf := 77) (lb := #[.pointer (some ⟨w.heap.size + 3, 0, none⟩)]) rfl trivial (enters_of Tryd.func77 (by kernel_rfl) rfl)
    (iter_none 8 (by omega) (w.heap.size + 3) q W0.heap.size W0 hb3 (by omega) hKW (Nat.le_refl _)) belowK_t (belowK_b (Nat.le_refl _)) (Below.refl _ _) (fun _ => rfl)
    (fun pre W => (∀ y ∈ pre, qMacro y.2 = false) ∧ (W.heap[w.heap.size]? = some (.cells #[.func (.func 54) #[] #[]] 70 (0, 0)) ∧ W.heap[w.heap.size + 1]? = some (.cells #[.int .i64 0] 3 (0, 0)) ∧ W.heap[w.heap.size + 2]? = some (.cells #[.int .i64 0, .string ⟨#[]⟩, .slice none 0 0, .slice none 0 0, .int .i64 0] 64 (0, 0)) ∧ W.heap[w.heap.size + 3]? = some (.cells #[.pointer q] 25 (0, 0))) ∧ Below w.heap.size w W)
    (fun k pre W => ∃ p x, k = .ret ∧ pre = p ++ [x] ∧ (∀ y ∈ p, qMacro y.2 = false) ∧ qMacro x.2 = true ∧ W.heap[w.heap.size + 1]? = some (.cells #[.int .i64 x.1] 3 (0, 0)) ∧ W.heap[w.heap.size + 2]? = some (.cells #[.int .i64 x.2.kd, .string x.2.nm, .slice x.2.lo x.2.ln x.2.lc, .slice x.2.ao x.2.an x.2.ac, .int .i64 x.2.tk] 64 (0, 0)) ∧ Below w.heap.size w W)
    ?hI ?hIx ?h0
    (fun x a' W => ∃ Bx, w.heap.size + 3 < Bx ∧ W.heap[Bx]? = some (.cells #[.int .i64 x.2.kd, .string x.2.nm, .slice x.2.lo x.2.ln x.2.lc, .slice x.2.ao x.2.an x.2.ac, .int .i64 x.2.tk] 64 (0, 0)) ∧ a' = { tmps := #[.pointer q, .func (.func 54) #[] #[], undef, .pointer (some ⟨w.heap.size, 0, none⟩), .pointer (some ⟨w.heap.size + 1, 0, none⟩), .pointer (some ⟨w.heap.size + 2, 0, none⟩), .int .i64 x.1, .pointer (some ⟨Bx, 0, none⟩), .pointer q, .func (.func 77) #[] #[.pointer (some ⟨w.heap.size + 3, 0, none⟩)], .int .i64 x.1, rfA x.2, undef, undef, undef, undef, undef, undef], defers := [] })
    ?hAx ?assign ?body ?done ?stop
  case hI => exact OwnFrom.and (fun _ _ _ _ hs _ _ => hs) (OwnFrom.and (OwnFrom.and (Own.from (own_blk _ _ _ _) _) (OwnFrom.and (Own.from (own_blk _ _ _ _) _) (OwnFrom.and (Own.from (own_blk _ _ _ _) _) (Own.from (own_blk _ _ _ _) _)))) (ownFrom_below (Nat.le_refl _) (by omega)))
  case hIx =>
    rintro k pre A B row ⟨p, x, h1, h2, h3, h4, h5, h6, h7⟩ hg hr
    have o1 := own_blk (w.heap.size + 1) #[.int .i64 x.1] 3 (0, 0) () A B row h5 hg (fun r e => (hr r e).2)
    have o2 := own_blk (w.heap.size + 2) _ 64 (0, 0) () A B row h6 hg (fun r e => (hr r e).2)
    exact ⟨p, x, h1, h2, h3, h4, o1, o2, ownFrom_below (β := Unit) (Nat.le_refl _) (show w.heap.size ≤ W0.heap.size by omega) () A B row h7 hg hr⟩
  case h0 => exact ⟨by simp, ⟨k0, k1, k2, k3⟩, hB0⟩
  case hAx =>
    rintro x a' _ A B row ⟨Bx, h1, h2, h3⟩ hg hr
    exact ⟨Bx, h1, own_blk Bx _ 64 (0, 0) () A B row h2 hg (fun r e => (hr r e).2), h3⟩
  case assign =>
    rintro l pre ⟨k, r⟩ W K ⟨hp, ⟨a0, a1, a2, a3⟩, hB⟩ hK
    dsimp only [encF, rfA] at *
    have hbz := hB.size
    have hw0 := lt_of_block a3
    gi_wp2
    refine hK _ _ ((KeepsOthers.alloc _ _).from _) ?_ ⟨hp, ⟨?_, ?_, ?_, ?_⟩, ?_⟩ ⟨W.heap.size, ?_, ?_, rfl⟩
    · exact (Below.refl _ W).alloc (Nat.le_trans (Nat.le_of_eq hsz) (by omega)) _
    · exact (Below.heap_alloc _ _ _ (lt_of_block a0)).trans a0
    · exact (Below.heap_alloc _ _ _ (lt_of_block a1)).trans a1
    · exact (Below.heap_alloc _ _ _ (lt_of_block a2)).trans a2
    · exact (Below.heap_alloc _ _ _ hw0).trans a3
    · exact hB.alloc hbz _
    · exact hw0
    · exact heap_alloc_new _ _
  case body =>
    rintro l pre ⟨k, r⟩ a' W hl ⟨o, ho⟩ ⟨hp, ⟨a0, a1, a2, a3⟩, hB⟩ ⟨Bx, hBx, aX, rfl⟩ hlen
    obtain ⟨⟨x0, x1, x2, x3, x4⟩, _⟩ := fresh_fr aX
    have y0 : W.cell? ⟨w.heap.size, 0, none⟩ = some (.func (.func 54) #[] #[]) := by simp [World.cell?, a0]
    have hwr := hw r W
    dsimp only [encF, rfA] at *
    have HB := Lib.hid hB
    have HP := Lib.hid hp
    have HA0 := Lib.hid a0
    have HA1 := Lib.hid a1
    have HA2 := Lib.hid a2
    have HA3 := Lib.hid a3
    have HAX := Lib.hid aX
    have z1 : W.cell? ⟨w.heap.size + 1, 0, none⟩ = some (.int .i64 0) := by simp [World.cell?, a1]
    cases hq : qMacro r with
    | false =>
      rw [hq] at hwr
      have HW := Lib.hid hwr
      have HQ := Lib.hid hq
      clear hwr hB hp hw hK hKW hb3 hlen hq a0 a1 a2 a3 aX z1
      gi_wp2_with ((refine ⟨trivial, ?_⟩; gi_at_call 54; refine (CallsIn.inRound l (callsIn_wide.2 HW.out)).mono ?_; rintro e w1 ⟨rfl, hb1⟩))
      refine ⟨keeps_below hb1, hb1.mono (Nat.le_trans hl (Nat.le_of_lt (lt_of_block ho))), ⟨fun y hy => ?_, ⟨(hb1.block _ (lt_of_block HA0.out)).trans HA0.out, (hb1.block _ (lt_of_block HA1.out)).trans HA1.out, (hb1.block _ (lt_of_block HA2.out)).trans HA2.out, (hb1.block _ (lt_of_block HA3.out)).trans HA3.out⟩, HB.out.trans (hb1.mono HB.out.size)⟩⟩
      rcases List.mem_append.1 hy with hy | hy
      · exact HP.out y hy
      · simp only [List.mem_cons, List.not_mem_nil, or_false] at hy
        subst hy
        exact HQ.out
    | true =>
      rw [hq] at hwr
      have HW := Lib.hid hwr
      have HQ := Lib.hid hq
      clear hwr hB hp hw hK hKW hb3 hlen hq a0 a1 a2 a3 aX
      gi_wp2_with ((refine ⟨trivial, ?_⟩; gi_at_call 54; refine (CallsIn.inRound l (callsIn_wide.2 HW.out)).mono ?_; rintro e w1 ⟨rfl, hb1⟩
                    have HB1 := Lib.hid hb1
                    have u0 := (hb1.block _ (lt_of_block HAX.out)).trans HAX.out
                    have u1 := (hb1.block _ (lt_of_block HA1.out)).trans HA1.out
                    have u2 := (hb1.block _ (lt_of_block HA2.out)).trans HA2.out
                    obtain ⟨⟨p0, p1, p2, p3, p4⟩, _⟩ := fresh_fr u0
                    obtain ⟨⟨q0, q1, q2, q3, q4⟩, f0, f1, f2, f3, f4⟩ := fresh_fr u2
                    have s0 : w1.cell? ⟨w.heap.size + 1, 0, none⟩ = some (.int .i64 0) := by simp [World.cell?, u1]
                    have s1 : w1.frozen? ⟨w.heap.size + 1, 0, none⟩ = false := by simp [World.frozen?, u1]
                    clear hb1))
      have hA := topA (k := (k : Int)) (r := r) u1 u2 (by omega)
      have hB := topB (k := (k : Int)) (r := r) u1 u2 (by omega)
      have HA := Lib.hid hA
      have HBB := Lib.hid hB
      clear hA hB
      gi_region_with_o (fail)
      all_goals
        gi_wp2
        first
          | exact ⟨(keeps_below HB1.out).trans (HA.out.1.from _), pre, (k, r), rfl, rfl, HP.out, HQ.out, HA.out.2.1, HA.out.2.2.1, HB.out.trans ((HB1.out.mono HB.out.size).trans (HA.out.2.2.2 _ (Nat.le_add_right _ _) (Nat.le_add_right _ _)))⟩
          | exact ⟨(keeps_below HB1.out).trans (HBB.out.1.from _), pre, (k, r), rfl, rfl, HP.out, HQ.out, HBB.out.2.1, HBB.out.2.2.1, HB.out.trans ((HB1.out.mono HB.out.size).trans (HBB.out.2.2.2 _ (Nat.le_add_right _ _) (Nat.le_add_right _ _)))⟩
  case done =>
    rintro D ys W hD rfl ⟨hp, ⟨a0, a1, a2, a3⟩, hB⟩ hDf
    have hz0 : topQ qMacro [] ([] : List RF).length = 0 := down_none qMacro [] 0 (Nat.le_refl _) hp
    have s0 : W.cell? ⟨w.heap.size + 1, 0, none⟩ = some (.int .i64 0) := by simp [World.cell?, a1]
    have s1 : W.frozen? ⟨w.heap.size + 1, 0, none⟩ = false := by simp [World.frozen?, a1]
    obtain ⟨⟨q0, q1, q2, q3, q4⟩, f0, f1, f2, f3, f4⟩ := fresh_fr a2
    have hA := topC a1 a2 (by omega)
    have HA := Lib.hid hA
    have HZ := Lib.hid hz0
    have HB := Lib.hid hB
    have HD := Lib.hid hDf
    clear hA hz0 hB hDf hp hw hK hKW hb3 a0 a1 a2 a3
    gi_wp2
    have hD5 := HA.out.1.same D _ HD.out rfl
    refine ⟨by simp, .inl ⟨_, _, rfl, run_takeDeferred hD5, ?_⟩⟩
    refine ⟨_, top_end rfl rfl rfl ((World.putObj_heap_other (by omega)).trans HA.out.2.1) ((World.putObj_heap_other (by omega)).trans HA.out.2.2.1), ?_, ?_⟩
    · rw [HZ.out]; rfl
    · exact HB.out.trans ((HA.out.2.2.2 _ (Nat.le_add_right _ _) (Nat.le_add_right _ _)).trans (belowK_b (w := W0) (by omega) _ D _ _ hD hD5 rfl rfl))
  case stop =>
    rintro D k pre W hD hpre ⟨p, x, rfl, rfl, h3, h4, h5, h6, h7⟩ hDf
    have hf : topQ qMacro [] ([] : List RF).length = x.1 + 1 ∧ ([] : List RF)[x.1]? = some x.2 := down_found qMacro [] 0 (Nat.le_refl _) p x hpre h3 h4
    have HF := Lib.hid hf
    have HD := Lib.hid hDf
    clear hf
    gi_wp2
    refine ⟨by simp, .inl ⟨_, _, rfl, run_takeDeferred HD.out, ?_⟩⟩
    refine ⟨_, top_end rfl rfl rfl ((World.putObj_heap_other (by omega)).trans h5) ((World.putObj_heap_other (by omega)).trans h6), ?_, ?_⟩
    · rw [HF.out.1]
      have hg : gotR [] (x.1 + 1) = x.2 := by unfold gotR; rw [if_neg (by omega), Nat.add_sub_cancel, HF.out.2]; rfl
      rw [hg]
      have hi : ((x.1 + 1 : Nat) : Int) - 1 = (x.1 : Int) := by omega
      rw [hi]
    · exact h7.trans (belowK_b (w := W0) (by omega) _ D _ _ hD HD.out rfl rfl)
theorem topno_isMacro {q : Option Addr} {w : World} (hK : No w q) : Calls Tryd.prog 46 #[.pointer q, .func (.func 54) #[] #[]] w (TopP qMacro [] w) :=
  callsIn_wide.1 (topno_isMacro_ hK)
end Go.Proofs.YtfobbcddedcepaaDoor
/- The topmost frame that is wanted: the walk. -/
namespace Go.Proofs.YtfobbcddedcepaaDoor
open Go.RowKit Go.Shelf
set_option maxRecDepth 100000
set_option linter.unusedSimpArgs false
set_option linter.unusedVariables false
attribute [local go_sem] Oper.semAt_some
set_option maxHeartbeats 1000000 in
theorem topno_hasName_ {q : Option Addr} {w : World} (hK : No w q) :
    CallsIn Fence.wide 9 Tryd.prog 46 #[.pointer q, .func (.func 65) #[] #[]] w (TopP qName [] w) := by
  have mixed : Tryd.prog.follows Departure.mixedOrders = true := by kernel_rfl
  have hw : Wants 65 qName := hasName_w
  refine callsIn_of_wp_marks Tryd.func46 rfl trivial ?_ rfl
  simp only [Tryd.ntmps46, List.size_toArray, List.length_cons, List.length_nil, Nat.reduceAdd, Nat.reduceSub, Array.replicate_succ, Array.replicate_zero, List.push_toArray, List.append_toArray, List.nil_append, List.cons_append]
  gi_wp2_with ((refine ⟨trivial, ?_⟩; gi_at_call 69; refine (fromTop_any _ _ _ ⟨_, rfl⟩).mono ?_; rintro e w' ⟨rfl, rfl⟩))
  simp only [World.size_alloc, Nat.add_assoc, Nat.reduceAdd]
  have hz : ∀ (v0 v1 v2 v3 : Array Value) (t0 t1 t2 t3 : TypeId), ((((w.alloc (.cells v0 t0)).alloc (.cells v1 t1)).alloc (.cells v2 t2)).alloc (.cells v3 t3)).heap.size = w.heap.size + 4 := by intros; simp
  obtain ⟨W0, hW0⟩ : ∃ W0, W0 = (((w.alloc (.cells #[.func (.func 65) #[] #[]] 70)).alloc (.cells #[.int .i64 0] 3)).alloc (.cells #[.int .i64 0, .string ⟨#[]⟩, .slice none 0 0, .slice none 0 0, .int .i64 0] 64)).alloc (.cells #[.pointer q] 25) := ⟨_, rfl⟩
  have hsz : W0.heap.size = w.heap.size + 4 := by rw [hW0]; exact hz _ _ _ _ _ _ _ _
  have hfour := four_alloc w #[.func (.func 65) #[] #[]] #[.int .i64 0] #[.int .i64 0, .string ⟨#[]⟩, .slice none 0 0, .slice none 0 0, .int .i64 0] #[.pointer q] 70 3 64 25
  rw [← hW0] at hfour ⊢
  obtain ⟨k0, k1, k2, k3, hB0⟩ := hfour
  have hKW := hK.below hB0
  have hb3 : W0.cell? ⟨w.heap.size + 3, 0, none⟩ = some (.pointer q) := by simp [World.cell?, k3]
  refine wpIn_rangeFunc_ownH rfl (by omega) (gf := 77) (lb := #[.pointer (some ⟨w.heap.size + 3, 0, none⟩)]) rfl trivial (enters_of Tryd.func77 (by kernel_rfl) rfl)
    (iter_none 8 (by omega) (w.heap.size + 3) q W0.heap.size W0 hb3 (by omega) hKW (Nat.le_refl _)) belowK_t (belowK_b (Nat.le_refl _)) (Below.refl _ _) (fun _ => rfl)
    (fun pre W => (∀ y ∈ pre, qName y.2 = false) ∧ (W.heap[w.heap.size]? = some (.cells #[.func (.func 65) #[] #[]] 70 (0, 0)) ∧ W.heap[w.heap.size + 1]? = some (.cells #[.int .i64 0] 3 (0, 0)) ∧ W.heap[w.heap.size + 2]? = some (.cells #[.int .i64 0, .string ⟨#[]⟩, .slice none 0 0, .slice none 0 0, .int .i64 0] 64 (0, 0)) ∧ W.heap[w.heap.size + 3]? = some (.cells #[.pointer q] 25 (0, 0))) ∧ Below w.heap.size w W)
    (fun k pre W => ∃ p x, k = .ret ∧ pre = p ++ [x] ∧ (∀ y ∈ p, qName y.2 = false) ∧ qName x.2 = true ∧ W.heap[w.heap.size + 1]? = some (.cells #[.int .i64 x.1] 3 (0, 0)) ∧ W.heap[w.heap.size + 2]? = some (.cells #[.int .i64 x.2.kd, .string x.2.nm, .slice x.2.lo x.2.ln x.2.lc, .slice x.2.ao x.2.an x.2.ac, .int .i64 x.2.tk] 64 (0, 0)) ∧ Below w.heap.size w W)
    ?hI ?hIx ?h0
    (fun x a' W => ∃ Bx, w.heap.size + 3 < Bx ∧ W.heap[Bx]? = some (.cells #[.int .i64 x.2.kd, .string x.2.nm, .slice x.2.lo x.2.ln x.2.lc, .slice x.2.ao x.2.an x.2.ac, .int .i64 x.2.tk] 64 (0, 0)) ∧ a' = { tmps := #[.pointer q, .func (.func 65) #[] #[], undef, .pointer (some ⟨w.heap.size, 0, none⟩), .pointer (some ⟨w.heap.size + 1, 0, none⟩), .pointer (some ⟨w.heap.size + 2, 0, none⟩), .int .i64 x.1, .pointer (some ⟨Bx, 0, none⟩), .pointer q, .func (.func 77) #[] #[.pointer (some ⟨w.heap.size + 3, 0, none⟩)], .int .i64 x.1, rfA x.2, undef, undef, undef, undef, undef, undef], defers := [] })
    ?hAx ?assign ?body ?done ?stop
  case hI => exact OwnFrom.and (fun _ _ _ _ hs _ _ => hs) (OwnFrom.and (OwnFrom.and (Own.from (own_blk _ _ _ _) _) (OwnFrom.and (Own.from (own_blk _ _ _ _) _) (OwnFrom.and (Own.from (own_blk _ _ _ _) _) (Own.from (own_blk _ _ _ _) _)))) (ownFrom_below (Nat.le_refl _) (by omega)))
  case hIx =>
    rintro k pre A B row ⟨p, x, h1, h2, h3, h4, h5, h6, h7⟩ hg hr
    have o1 := own_blk (w.heap.size + 1) #[.int .i64 x.1] 3 (0, 0) () A B row h5 hg (fun r e => (hr r e).2)
    have o2 := own_blk (w.heap.size + 2) _ 64 (0, 0) () A B row h6 hg (fun r e => (hr r e).2)
    exact ⟨p, x, h1, h2, h3, h4, o1, o2, ownFrom_below (β := Unit) (Nat.le_refl _) (show w.heap.size ≤ W0.heap.size by omega) () A B row h7 hg hr⟩
  case h0 => exact ⟨by simp, ⟨k0, k1, k2, k3⟩, hB0⟩
  case hAx =>
    rintro x a' _ A B row ⟨Bx, h1, h2, h3⟩ hg hr
    exact ⟨Bx, h1, own_blk Bx _ 64 (0, 0) () A B row h2 hg (fun r e => (hr r e).2), h3⟩
  case assign =>
    rintro l pre ⟨k, r⟩ W K ⟨hp, ⟨a0, a1, a2, a3⟩, hB⟩ hK
    dsimp only [encF, rfA] at *
    have hbz := hB.size
    have hw0 := lt_of_block a3
    gi_wp2
    refine hK _ _ ((KeepsOthers.alloc _ _).from _) ?_ ⟨hp, ⟨?_, ?_, ?_, ?_⟩, ?_⟩ ⟨W.heap.size, ?_, ?_, rfl⟩
    · exact (Below.refl _ W).alloc (Nat.le_trans (Nat.le_of_eq hsz) (by omega)) _
    · exact (Below.heap_alloc _ _ _ (lt_of_block a0)).trans a0
    · exact (Below.heap_alloc _ _ _ (lt_of_block a1)).trans a1
    · exact (Below.heap_alloc _ _ _ (lt_of_block a2)).trans a2
    · exact (Below.heap_alloc _ _ _ hw0).trans a3
    · exact hB.alloc hbz _
    · exact hw0
    · exact heap_alloc_new _ _
  case body =>
    rintro l pre ⟨k, r⟩ a' W hl ⟨o, ho⟩ ⟨hp, ⟨a0, a1, a2, a3⟩, hB⟩ ⟨Bx, hBx, aX, rfl⟩ hlen
    obtain ⟨⟨x0, x1, x2, x3, x4⟩, _⟩ := fresh_fr aX
    have y0 : W.cell? ⟨w.heap.size, 0, none⟩ = some (.func (.func 65) #[] #[]) := by simp [World.cell?, a0]
    have hwr := hw r W
    dsimp only [encF, rfA] at *
    have HB := Lib.hid hB
    have HP := Lib.hid hp
    have HA0 := Lib.hid a0
    have HA1 := Lib.hid a1
    have HA2 := Lib.hid a2
    have HA3 := Lib.hid a3
    have HAX := Lib.hid aX
    have z1 : W.cell? ⟨w.heap.size + 1, 0, none⟩ = some (.int .i64 0) := by simp [World.cell?, a1]
    cases hq : qName r with
    | false =>
      rw [hq] at hwr
      have HW := Lib.hid hwr
      have HQ := Lib.hid hq
      clear hwr hB hp hw hK hKW hb3 hlen hq a0 a1 a2 a3 aX z1
      gi_wp2_with ((refine ⟨trivial, ?_⟩; gi_at_call 65; refine (CallsIn.inRound l (callsIn_wide.2 HW.out)).mono ?_; rintro e w1 ⟨rfl, hb1⟩))
      refine ⟨keeps_below hb1, hb1.mono (Nat.le_trans hl (Nat.le_of_lt (lt_of_block ho))), ⟨fun y hy => ?_, ⟨(hb1.block _ (lt_of_block HA0.out)).trans HA0.out, (hb1.block _ (lt_of_block HA1.out)).trans HA1.out, (hb1.block _ (lt_of_block HA2.out)).trans HA2.out, (hb1.block _ (lt_of_block HA3.out)).trans HA3.out⟩, HB.out.trans (hb1.mono HB.out.size)⟩⟩
      rcases List.mem_append.1 hy with hy | hy
      · exact HP.out y hy
      · simp only [List.mem_cons, List.not_mem_nil, or_false] at hy
        subst hy
        exact HQ.out
    | true =>
      rw [hq] at hwr
      have HW := Lib.hid hwr
      have HQ := Lib.hid hq
      clear hwr hB hp hw hK hKW hb3 hlen hq a0 a1 a2 a3 aX
      gi_wp2_with ((refine ⟨trivial, ?_⟩; gi_at_call 65; refine (CallsIn.inRound l (callsIn_wide.2 HW.out)).mono ?_; rintro e w1 ⟨rfl, hb1⟩
                    have HB1 := Lib.hid hb1
                    have u0 := (hb1.block _ (lt_of_block HAX.out)).trans HAX.out
                    have u1 := (hb1.block _ (lt_of_block HA1.out)).trans HA1.out
                    have u2 := (hb1.block _ (lt_of_block HA2.out)).trans HA2.out
                    obtain ⟨⟨p0, p1, p2, p3, p4⟩, _⟩ := fresh_fr u0
                    obtain ⟨⟨q0, q1, q2, q3, q4⟩, f0, f1, f2, f3, f4⟩ := fresh_fr u2
                    have s0 : w1.cell? ⟨w.heap.size + 1, 0, none⟩ = some (.int .i64 0) := by simp [World.cell?, u1]
                    have s1 : w1.frozen? ⟨w.heap.size + 1, 0, none⟩ = false := by simp [World.frozen?, u1]
                    clear hb1))
      have hA := topA (k := (k : Int)) (r := r) u1 u2 (by omega)
      have hB := topB (k := (k : Int)) (r := r) u1 u2 (by omega)
      have HA := Lib.hid hA
      have HBB := Lib.hid hB
      clear hA hB
      gi_region_with_o (fail)
      all_goals
        gi_wp2
        first
          | exact ⟨(keeps_below HB1.out).trans (HA.out.1.from _), pre, (k, r), rfl, rfl, HP.out, HQ.out, HA.out.2.1, HA.out.2.2.1, HB.out.trans ((HB1.out.mono HB.out.size).trans (HA.out.2.2.2 _ (Nat.le_add_right _ _) (Nat.le_add_right _ _)))⟩
          | exact ⟨(keeps_below HB1.out).trans (HBB.out.1.from _), pre, (k, r), rfl, rfl, HP.out, HQ.out, HBB.out.2.1, HBB.out.2.2.1, HB.out.trans ((HB1.out.mono HB.out.size).trans (HBB.out.2.2.2 _ (Nat.le_add_right _ _) (Nat.le_add_right _ _)))⟩
  case done =>
    rintro D ys W hD rfl ⟨hp, ⟨a0, a1, a2, a3⟩, hB⟩ hDf
    have hz0 : topQ qName [] ([] : List RF).length = 0 := down_none qName [] 0 (Nat.le_refl _) hp
    have s0 : W.cell? ⟨w.heap.size + 1, 0, none⟩ = some (.int .i64 0) := by simp [World.cell?, a1]
    have s1 : W.frozen? ⟨w.heap.size + 1, 0, none⟩ = false := by simp [World.frozen?, a1]
    obtain ⟨⟨q0, q1, q2, q3, q4⟩, f0, f1, f2, f3, f4⟩ := fresh_fr a2
    have hA := topC a1 a2 (by omega)
    have HA := Lib.hid hA
    have HZ := Lib.hid hz0
    have HB := Lib.hid hB
    have HD := Lib.hid hDf
    clear hA hz0 hB hDf hp hw hK hKW hb3 a0 a1 a2 a3
    gi_wp2
    have hD5 := HA.out.1.same D _ HD.out rfl
    refine ⟨by simp, .inl ⟨_, _, rfl, run_takeDeferred hD5, ?_⟩⟩
    refine ⟨_, top_end rfl rfl rfl ((World.putObj_heap_other (by omega)).trans HA.out.2.1) ((World.putObj_heap_other (by omega)).trans HA.out.2.2.1), ?_, ?_⟩
    · rw [HZ.out]; rfl
    · exact HB.out.trans ((HA.out.2.2.2 _ (Nat.le_add_right _ _) (Nat.le_add_right _ _)).trans (belowK_b (w := W0) (by omega) _ D _ _ hD hD5 rfl rfl))
  case stop =>
    rintro D k pre W hD hpre ⟨p, x, rfl, rfl, h3, h4, h5, h6, h7⟩ hDf
    have hf : topQ qName [] ([] : List RF).length = x.1 + 1 ∧ ([] : List RF)[x.1]? = some x.2 := down_found qName [] 0 (Nat.le_refl _) p x hpre h3 h4
    have HF := Lib.hid hf
    have HD := Lib.hid hDf
    clear hf
    gi_wp2
    refine ⟨by simp, .inl ⟨_, _, rfl, run_takeDeferred HD.out, ?_⟩⟩
    refine ⟨_, top_end rfl rfl rfl ((World.putObj_heap_other (by omega)).trans h5) ((World.putObj_heap_other (by omega)).trans h6), ?_, ?_⟩
    · rw [HF.out.1]
      have hg : gotR [] (x.1 + 1) = x.2 := by unfold gotR; rw [if_neg (by omega), Nat.add_sub_cancel, HF.out.2]; rfl
      rw [hg]
      have hi : ((x.1 + 1 : Nat) : Int) - 1 = (x.1 : Int) := by omega
      rw [hi]
    · exact h7.trans (belowK_b (w := W0) (by omega) _ D _ _ hD HD.out rfl rfl)
theorem topno_hasName {q : Option Addr} {w : World} (hK : No w q) : Calls Tryd.prog 46 #[.pointer q, .func (.func 65) #[] #[]] w (TopP qName [] w) :=
  callsIn_wide.1 (topno_hasName_ hK)
end Go.Proofs.YtfobbcddedcepaaDoor
/- A stack that is nil or was not made: what each deed says. -/
namespace Go.Proofs.YtfobbcddedcepaaDoor
open Go.RowKit
set_option maxRecDepth 100000
set_option linter.unusedSimpArgs false
set_option linter.unusedVariables false
abbrev LZ : Value := .agg #[.string ⟨#[]⟩, .bool false, .int .i64 0, .int .i64 0, .slice none 0 0]
abbrev NP (v : Value) (w : World) : Ending → World → Prop := fun e w' => e = .returned v ∧ Below w.heap.size w w'
theorem File_no {q : Option Addr} {w : World} (h : No w q) (nm s : ByteArray) (hs : s.size ≤ 1000000) : Calls Tryd.prog 16 #[.pointer q, .string nm, .string s] w (NP (.int .i64 1) w) := by
  have hfl := file_any nm s hs w
  unfold FileP at hfl
  change Calls _ _ _ _ (fun e w' => ∃ r, e = .returned (.tuple #[rfA r, .bool (okF nm s)]) ∧ (okF nm s = true → RfIs (Tg w') w' r (fileFr nm s)) ∧ Below w.heap.size w w') at hfl
  have H := Lib.hid h
  have HFL := Lib.hid hfl
  clear h hfl
  generalize okF nm s = t at *
  go_enter Tryd.func16, Tryd.ntmps16
  go_wp2_with fail
  refine HFL.out.mono ?_
  rintro e w1 ⟨r, rfl, _, hb1⟩
  have hb2 := hb1.alloc hb1.size (.cells #[.int .i64 r.kd, .string r.nm, .slice r.lo r.ln r.lc, .slice r.ao r.an r.ac, .int .i64 r.tk] 64)
  have HB2 := Lib.hid hb2
  have HM := Lib.hid (made_no (H.out.below hb2))
  clear hb1 hb2
  go_wp2_with fail
  refine HM.out.mono ?_
  rintro e w3 ⟨rfl, rfl⟩
  go_wp2_with fail
  go_ret
  exact ⟨rfl, HB2.out⟩
theorem Instead_no {q : Option Addr} {w : World} (h : No w q) (nm s : ByteArray) (hs : s.size ≤ 1000000) : Calls Tryd.prog 22 #[.pointer q, .string nm, .string s] w (NP (.int .i64 1) w) := by
  have hfl := file_any nm s hs w
  unfold FileP at hfl
  change Calls _ _ _ _ (fun e w' => ∃ r, e = .returned (.tuple #[rfA r, .bool (okF nm s)]) ∧ (okF nm s = true → RfIs (Tg w') w' r (fileFr nm s)) ∧ Below w.heap.size w w') at hfl
  have H := Lib.hid h
  have HFL := Lib.hid hfl
  clear h hfl
  generalize okF nm s = t at *
  go_enter Tryd.func22, Tryd.ntmps22
  go_wp2_with fail
  refine HFL.out.mono ?_
  rintro e w1 ⟨r, rfl, _, hb1⟩
  have hb2 := hb1.alloc hb1.size (.cells #[.int .i64 r.kd, .string r.nm, .slice r.lo r.ln r.lc, .slice r.ao r.an r.ac, .int .i64 r.tk] 64)
  have HB2 := Lib.hid hb2
  have HM := Lib.hid (made_no (H.out.below hb2))
  clear hb1 hb2
  go_wp2_with fail
  refine HM.out.mono ?_
  rintro e w3 ⟨rfl, rfl⟩
  go_wp2_with fail
  go_ret
  exact ⟨rfl, HB2.out⟩
theorem Macro_no {q : Option Addr} {w : World} (h : No w q) (nm : ByteArray) (A B : Option Addr) (n c m e : Nat) : Calls Tryd.prog 18 #[.pointer q, .string nm, .slice A n c, .slice B m e] w (NP (.int .i64 1) w) := by
  have HM := Lib.hid (made_no h)
  clear h
  go_enter Tryd.func18, Tryd.ntmps18
  go_wp2_with fail
  refine HM.out.mono ?_
  rintro e w3 ⟨rfl, rfl⟩
  go_wp2_with fail
  go_ret
  exact ⟨rfl, Below.refl _ _⟩
theorem Wait_no {q : Option Addr} {w : World} (h : No w q) (A : Option Addr) (n c : Nat) : Calls Tryd.prog 19 #[.pointer q, .slice A n c] w (NP (.int .i64 1) w) := by
  have HM := Lib.hid (made_no h)
  clear h
  go_enter Tryd.func19, Tryd.ntmps19
  go_wp2_with fail
  refine HM.out.mono ?_
  rintro e w3 ⟨rfl, rfl⟩
  go_wp2_with fail
  go_ret
  exact ⟨rfl, Below.refl _ _⟩
theorem Return_no {q : Option Addr} {w : World} (h : No w q) (b : Bool) : Calls Tryd.prog 21 #[.pointer q, .bool b] w (NP (.int .i64 1) w) := by
  have HM := Lib.hid (made_no h)
  clear h
  go_enter Tryd.func21, Tryd.ntmps21
  go_wp2_with fail
  refine HM.out.mono ?_
  rintro e w3 ⟨rfl, rfl⟩
  go_wp2_with fail
  go_ret
  exact ⟨rfl, Below.refl _ _⟩
theorem Shift_no {q : Option Addr} {w : World} (h : No w q) (n : Int) : Calls Tryd.prog 23 #[.pointer q, .int .i64 n] w (NP (.int .i64 1) w) := by
  have HM := Lib.hid (made_no h)
  clear h
  go_enter Tryd.func23, Tryd.ntmps23
  go_wp2_with fail
  refine HM.out.mono ?_
  rintro e w3 ⟨rfl, rfl⟩
  go_wp2_with fail
  go_ret
  exact ⟨rfl, Below.refl _ _⟩
theorem Depth_no {q : Option Addr} {w : World} (h : No w q) : Calls Tryd.prog 13 #[.pointer q] w (NP (.int .i64 0) w) := by
  have HM := Lib.hid (made_no h)
  clear h
  go_enter Tryd.func13, Tryd.ntmps13
  go_wp2_with fail
  refine HM.out.mono ?_
  rintro e w3 ⟨rfl, rfl⟩
  go_wp2_with fail
  go_ret
  exact ⟨rfl, Below.refl _ _⟩
theorem Copy_no {q : Option Addr} {w : World} (h : No w q) : Calls Tryd.prog 14 #[.pointer q] w (NP (.pointer none) w) := by
  have HM := Lib.hid (made_no h)
  clear h
  go_enter Tryd.func14, Tryd.ntmps14
  go_wp2_with fail
  refine HM.out.mono ?_
  rintro e w3 ⟨rfl, rfl⟩
  go_wp2_with fail
  go_ret
  exact ⟨rfl, Below.refl _ _⟩
theorem Line_no {q : Option Addr} {w : World} (h : No w q) : Calls Tryd.prog 38 #[.pointer q] w (NP (.int .i64 0) w) := by
  have HT := Lib.hid (topno_isFile h)
  clear h
  unfold TopP at HT
  go_enter Tryd.func38, Tryd.ntmps38
  go_wp2_with fail
  refine HT.out.mono ?_
  rintro e w1 ⟨rfl, hb1⟩
  have HB := Lib.hid (hb1.alloc hb1.size (.cells #[.int .i64 0, .string ⟨#[]⟩, .slice none 0 0, .slice none 0 0, .int .i64 0] 64))
  clear hb1
  go_wp2_with fail
  go_ret
  exact ⟨rfl, HB.out⟩
theorem Name_no {q : Option Addr} {w : World} (h : No w q) : Calls Tryd.prog 36 #[.pointer q] w (NP (.string ⟨#[]⟩) w) := by
  have HT := Lib.hid (topno_hasName h)
  clear h
  unfold TopP at HT
  go_enter Tryd.func36, Tryd.ntmps36
  go_wp2_with fail
  refine HT.out.mono ?_
  rintro e w1 ⟨rfl, hb1⟩
  have HB := Lib.hid (hb1.alloc hb1.size (.cells #[.int .i64 0, .string ⟨#[]⟩, .slice none 0 0, .slice none 0 0, .int .i64 0] 64))
  clear hb1
  go_wp2_with fail
  go_ret
  exact ⟨rfl, HB.out⟩
theorem Args_no {q : Option Addr} {w : World} (h : No w q) : Calls Tryd.prog 34 #[.pointer q] w fun e w' => (∃ A c, e = .returned (.slice A 0 c)) ∧ Below w.heap.size w w' := by
  have HT := Lib.hid (topno_isMacro h)
  clear h
  unfold TopP at HT
  go_enter Tryd.func34, Tryd.ntmps34
  go_wp2_with fail
  refine HT.out.mono ?_
  rintro e w1 ⟨rfl, hb1⟩
  have HB := Lib.hid (hb1.alloc hb1.size (.cells #[.int .i64 0, .string ⟨#[]⟩, .slice none 0 0, .slice none 0 0, .int .i64 0] 64))
  have HCL := Lib.hid (fun W => cloneStr_any (P := Lt W) (c := 0) (strs_none W) (fun _ => rfl) (by decide))
  clear hb1
  go_wp2_with fail
  refine (HCL.out _).mono ?_
  rintro e w3 ⟨⟨A, n, c', rfl, hs, h1, h2, h3⟩, hb3⟩
  obtain rfl : n = 0 := hs.len
  have HS := Lib.hid (HB.out.trans (hb3.mono HB.out.size))
  clear hs h1 h2 h3 hb3
  go_wp2_with fail
  go_ret
  exact ⟨⟨_, _, rfl⟩, HS.out⟩
end Go.Proofs.YtfobbcddedcepaaDoor
/- A deed: it comes to what it names. -/
namespace Go.Proofs.YtfobbcddedcepaaDoor
open Go.RowKit
set_option maxRecDepth 100000
set_option linter.unusedSimpArgs false
set_option linter.unusedVariables false
abbrev LZb : Obj := .cells #[.string ⟨#[]⟩, .bool false, .int .i64 0, .int .i64 0, .slice none 0 0] 31 (0, 0)
abbrev ddA (k : Int) (nm tx : ByteArray) (A : Option Addr) (n c : Nat) (B : Option Addr) (m e : Nat) (a : Int) : Array Value := #[.int .i64 k, .string nm, .string tx, .slice A n c, .slice B m e, .int .i64 a]
abbrev DV (k : Int) (nm tx : ByteArray) (A : Option Addr) (n c : Nat) (B : Option Addr) (m e : Nat) (a : Int) : Value := .agg (ddA k nm tx A n c B m e a)
theorem setCell_id {w : World} {g k : Nat} {v : Value} {cs : Array Value} {t : TypeId} {fz : Nat × Nat} (h : w.heap[g]? = some (.cells cs t fz)) (hk : cs[k]? = some v) : w.setCell ⟨g, k, none⟩ v = w := by
  have e1 : (w.setCell ⟨g, k, none⟩ v).heap = w.heap := by
    apply Array.ext_getElem?
    intro i
    simp only [World.setCell, Array.getElem?_modify]
    by_cases e : g = i
    · subst e
      rw [h, if_pos rfl]
      have e2 : cs.setIfInBounds k v = cs := by
        apply Array.ext_getElem?
        intro j
        rw [Array.getElem?_setIfInBounds]
        by_cases e : k = j
        · subst e
          rw [if_pos rfl]
          have := (Array.getElem?_eq_some_iff.1 hk).1
          rw [if_pos this, hk]
        · rw [if_neg e]
      simp [e2]
    · rw [if_neg e]
  have e3 : w.setCell ⟨g, k, none⟩ v = { w with heap := (w.setCell ⟨g, k, none⟩ v).heap } := rfl
  rw [e3, e1]
theorem lnW_id {w : World} {g : Nat} (h : w.heap[g]? = some LZb) : LnW w g ⟨#[]⟩ false 0 0 none 0 0 = w := by
  unfold LnW
  rw [setCell_id h rfl, setCell_id h rfl, setCell_id h rfl, setCell_id h rfl, setCell_id h rfl]
/-- Where the call that is named begins. -/
abbrev dw (w : World) (k : Int) (nm tx : ByteArray) (A : Option Addr) (n c : Nat) (B : Option Addr) (m e : Nat) (a : Int) : World :=
  (w.alloc (.cells (ddA k nm tx A n c B m e a) 38)).alloc (.cells #[.string ⟨#[]⟩, .bool false, .int .i64 0, .int .i64 0, .slice none 0 0] 31)
/-- A number comes back; the line that was made is as it was. -/
abbrev Nb (w : World) (R : Int → World → Prop) : Ending → World → Prop := fun e w' => ∃ x, e = .returned (.int .i64 x) ∧ w'.heap[w.heap.size + 1]? = some LZb ∧ R x w'
abbrev Nl (R : Int → World → Prop) : Ending → World → Prop := fun e w' => ∃ x, e = .returned (.tuple #[LZ, .int .i64 x]) ∧ R x w'
abbrev Tb (w : World) (R : RL → Int → World → Prop) : Ending → World → Prop := fun e w' => ∃ r x, e = .returned (.tuple #[lvA r, .int .i64 x]) ∧ w'.heap[w.heap.size + 1]? = some LZb ∧ R r x w'
abbrev Tl (w : World) (R : RL → Int → World → Prop) : Ending → World → Prop := fun e w' => ∃ r x w1, e = .returned (.tuple #[lvA r, .int .i64 x]) ∧ R r x w1 ∧ w1.heap[w.heap.size + 1]? = some LZb ∧ w' = LnW w1 (w.heap.size + 1) r.tx r.md r.up r.dn r.bo r.bn r.bc
theorem do_0 {q : Option Addr} {nm tx : ByteArray} {A : Option Addr} {n c : Nat} {B : Option Addr} {m e : Nat} {a : Int} {w : World} {R : Int → World → Prop} (h : Calls Tryd.prog 16 #[.pointer q, .string nm, .string tx] (dw w 0 nm tx A n c B m e a) (Nb w R)) :
    Calls Tryd.prog 9 #[.pointer q, DV 0 nm tx A n c B m e a] w (Nl R) := by
  have H := Lib.hid h
  clear h
  go_enter Tryd.func9, Tryd.ntmps9
  go_wp2_with fail
  refine H.out.mono ?_
  rintro e w1 ⟨x, rfl, hx, hr⟩
  have HR := Lib.hid hr
  have HX := Lib.hid hx
  obtain ⟨⟨p0, p1, p2, p3, p4⟩, q0, q1, q2, q3, q4⟩ := fresh_ln hx
  clear hr hx
  go_wp2_with fail
  have hlw := lnW_at (tx := ⟨#[]⟩) (md := false) (up := 0) (dn := 0) (o := none) (n := 0) (c := 0) HX.out
  refine lnerr_end (t := 4) (u := 5) (g := w.heap.size + 1) rfl rfl rfl rfl (by rw [← hlw]; rfl) ?_
  refine ⟨x, rfl, ?_⟩
  have hid := lnW_id HX.out
  unfold LnW at hid
  rw [hid]
  exact HR.out
theorem do_1 {q : Option Addr} {nm tx : ByteArray} {A : Option Addr} {n c : Nat} {B : Option Addr} {m e : Nat} {a : Int} {w : World} {R : Int → World → Prop} (h : Calls Tryd.prog 18 #[.pointer q, .string nm, .slice A n c, .slice B m e] (dw w 1 nm tx A n c B m e a) (Nb w R)) :
    Calls Tryd.prog 9 #[.pointer q, DV 1 nm tx A n c B m e a] w (Nl R) := by
  have H := Lib.hid h
  clear h
  go_enter Tryd.func9, Tryd.ntmps9
  go_wp2_with fail
  refine H.out.mono ?_
  rintro e w1 ⟨x, rfl, hx, hr⟩
  have HR := Lib.hid hr
  have HX := Lib.hid hx
  obtain ⟨⟨p0, p1, p2, p3, p4⟩, q0, q1, q2, q3, q4⟩ := fresh_ln hx
  clear hr hx
  go_wp2_with fail
  have hlw := lnW_at (tx := ⟨#[]⟩) (md := false) (up := 0) (dn := 0) (o := none) (n := 0) (c := 0) HX.out
  refine lnerr_end (t := 4) (u := 5) (g := w.heap.size + 1) rfl rfl rfl rfl (by rw [← hlw]; rfl) ?_
  refine ⟨x, rfl, ?_⟩
  have hid := lnW_id HX.out
  unfold LnW at hid
  rw [hid]
  exact HR.out
theorem do_2 {q : Option Addr} {nm tx : ByteArray} {A : Option Addr} {n c : Nat} {B : Option Addr} {m e : Nat} {a : Int} {w : World} {R : Int → World → Prop} (h : Calls Tryd.prog 19 #[.pointer q, .slice A n c] (dw w 2 nm tx A n c B m e a) (Nb w R)) :
    Calls Tryd.prog 9 #[.pointer q, DV 2 nm tx A n c B m e a] w (Nl R) := by
  have H := Lib.hid h
  clear h
  go_enter Tryd.func9, Tryd.ntmps9
  go_wp2_with fail
  refine H.out.mono ?_
  rintro e w1 ⟨x, rfl, hx, hr⟩
  have HR := Lib.hid hr
  have HX := Lib.hid hx
  obtain ⟨⟨p0, p1, p2, p3, p4⟩, q0, q1, q2, q3, q4⟩ := fresh_ln hx
  clear hr hx
  go_wp2_with fail
  have hlw := lnW_at (tx := ⟨#[]⟩) (md := false) (up := 0) (dn := 0) (o := none) (n := 0) (c := 0) HX.out
  refine lnerr_end (t := 4) (u := 5) (g := w.heap.size + 1) rfl rfl rfl rfl (by rw [← hlw]; rfl) ?_
  refine ⟨x, rfl, ?_⟩
  have hid := lnW_id HX.out
  unfold LnW at hid
  rw [hid]
  exact HR.out
theorem do_5 {q : Option Addr} {nm tx : ByteArray} {A : Option Addr} {n c : Nat} {B : Option Addr} {m e : Nat} {a : Int} {w : World} {R : Int → World → Prop} (h : Calls Tryd.prog 21 #[.pointer q, .bool (a.tmod 2 != 0)] (dw w 5 nm tx A n c B m e a) (Nb w R)) :
    Calls Tryd.prog 9 #[.pointer q, DV 5 nm tx A n c B m e a] w (Nl R) := by
  have H := Lib.hid h
  clear h
  go_enter Tryd.func9, Tryd.ntmps9
  go_wp2_with fail
  refine H.out.mono ?_
  rintro e w1 ⟨x, rfl, hx, hr⟩
  have HR := Lib.hid hr
  have HX := Lib.hid hx
  obtain ⟨⟨p0, p1, p2, p3, p4⟩, q0, q1, q2, q3, q4⟩ := fresh_ln hx
  clear hr hx
  go_wp2_with fail
  have hlw := lnW_at (tx := ⟨#[]⟩) (md := false) (up := 0) (dn := 0) (o := none) (n := 0) (c := 0) HX.out
  refine lnerr_end (t := 4) (u := 5) (g := w.heap.size + 1) rfl rfl rfl rfl (by rw [← hlw]; rfl) ?_
  refine ⟨x, rfl, ?_⟩
  have hid := lnW_id HX.out
  unfold LnW at hid
  rw [hid]
  exact HR.out
theorem do_6 {q : Option Addr} {nm tx : ByteArray} {A : Option Addr} {n c : Nat} {B : Option Addr} {m e : Nat} {a : Int} {w : World} {R : Int → World → Prop} (h : Calls Tryd.prog 22 #[.pointer q, .string nm, .string tx] (dw w 6 nm tx A n c B m e a) (Nb w R)) :
    Calls Tryd.prog 9 #[.pointer q, DV 6 nm tx A n c B m e a] w (Nl R) := by
  have H := Lib.hid h
  clear h
  go_enter Tryd.func9, Tryd.ntmps9
  go_wp2_with fail
  refine H.out.mono ?_
  rintro e w1 ⟨x, rfl, hx, hr⟩
  have HR := Lib.hid hr
  have HX := Lib.hid hx
  obtain ⟨⟨p0, p1, p2, p3, p4⟩, q0, q1, q2, q3, q4⟩ := fresh_ln hx
  clear hr hx
  go_wp2_with fail
  have hlw := lnW_at (tx := ⟨#[]⟩) (md := false) (up := 0) (dn := 0) (o := none) (n := 0) (c := 0) HX.out
  refine lnerr_end (t := 4) (u := 5) (g := w.heap.size + 1) rfl rfl rfl rfl (by rw [← hlw]; rfl) ?_
  refine ⟨x, rfl, ?_⟩
  have hid := lnW_id HX.out
  unfold LnW at hid
  rw [hid]
  exact HR.out
theorem do_7 {q : Option Addr} {nm tx : ByteArray} {A : Option Addr} {n c : Nat} {B : Option Addr} {m e : Nat} {a : Int} {w : World} {R : Int → World → Prop} (h : Calls Tryd.prog 23 #[.pointer q, .int .i64 a] (dw w 7 nm tx A n c B m e a) (Nb w R)) :
    Calls Tryd.prog 9 #[.pointer q, DV 7 nm tx A n c B m e a] w (Nl R) := by
  have H := Lib.hid h
  clear h
  go_enter Tryd.func9, Tryd.ntmps9
  go_wp2_with fail
  refine H.out.mono ?_
  rintro e w1 ⟨x, rfl, hx, hr⟩
  have HR := Lib.hid hr
  have HX := Lib.hid hx
  obtain ⟨⟨p0, p1, p2, p3, p4⟩, q0, q1, q2, q3, q4⟩ := fresh_ln hx
  clear hr hx
  go_wp2_with fail
  have hlw := lnW_at (tx := ⟨#[]⟩) (md := false) (up := 0) (dn := 0) (o := none) (n := 0) (c := 0) HX.out
  refine lnerr_end (t := 4) (u := 5) (g := w.heap.size + 1) rfl rfl rfl rfl (by rw [← hlw]; rfl) ?_
  refine ⟨x, rfl, ?_⟩
  have hid := lnW_id HX.out
  unfold LnW at hid
  rw [hid]
  exact HR.out
theorem do_3 {q : Option Addr} {nm tx : ByteArray} {A : Option Addr} {n c : Nat} {B : Option Addr} {m e : Nat} {a : Int} {w : World} {R : RL → Int → World → Prop} (h : Calls Tryd.prog 17 #[.pointer q] (dw w 3 nm tx A n c B m e a) (Tb w R)) :
    Calls Tryd.prog 9 #[.pointer q, DV 3 nm tx A n c B m e a] w (Tl w R) := by
  have H := Lib.hid h
  clear h
  go_enter Tryd.func9, Tryd.ntmps9
  go_wp2_with fail
  refine H.out.mono ?_
  rintro e w1 ⟨⟨rt, rm, ru, rd, rb, rn, rc⟩, x, rfl, hx, hr⟩
  have HR := Lib.hid hr
  have HX := Lib.hid hx
  obtain ⟨⟨p0, p1, p2, p3, p4⟩, q0, q1, q2, q3, q4⟩ := fresh_ln hx
  clear hr hx
  go_wp2_with fail
  have hlw := lnW_at (tx := rt) (md := rm) (up := ru) (dn := rd) (o := rb) (n := rn) (c := rc) HX.out
  refine lnerr_end (t := 4) (u := 5) (g := w.heap.size + 1) rfl rfl rfl rfl hlw ?_
  exact ⟨⟨rt, rm, ru, rd, rb, rn, rc⟩, x, w1, rfl, HR.out, HX.out, rfl⟩
theorem do_4 {q : Option Addr} {nm tx : ByteArray} {A : Option Addr} {n c : Nat} {B : Option Addr} {m e : Nat} {a : Int} {w : World} {R : RL → Int → World → Prop} (h : Calls Tryd.prog 20 #[.pointer q] (dw w 4 nm tx A n c B m e a) (Tb w R)) :
    Calls Tryd.prog 9 #[.pointer q, DV 4 nm tx A n c B m e a] w (Tl w R) := by
  have H := Lib.hid h
  clear h
  go_enter Tryd.func9, Tryd.ntmps9
  go_wp2_with fail
  refine H.out.mono ?_
  rintro e w1 ⟨⟨rt, rm, ru, rd, rb, rn, rc⟩, x, rfl, hx, hr⟩
  have HR := Lib.hid hr
  have HX := Lib.hid hx
  obtain ⟨⟨p0, p1, p2, p3, p4⟩, q0, q1, q2, q3, q4⟩ := fresh_ln hx
  clear hr hx
  go_wp2_with fail
  have hlw := lnW_at (tx := rt) (md := rm) (up := ru) (dn := rd) (o := rb) (n := rn) (c := rc) HX.out
  refine lnerr_end (t := 4) (u := 5) (g := w.heap.size + 1) rfl rfl rfl rfl hlw ?_
  exact ⟨⟨rt, rm, ru, rd, rb, rn, rc⟩, x, w1, rfl, HR.out, HX.out, rfl⟩
end Go.Proofs.YtfobbcddedcepaaDoor
/- Next, Peek of a stack that is none; two lines that are the same. -/
namespace Go.Proofs.YtfobbcddedcepaaDoor
open Go.RowKit
set_option maxRecDepth 100000
set_option linter.unusedSimpArgs false
set_option linter.unusedVariables false
theorem Next_no {q : Option Addr} {w : World} (h : No w q) : Calls Tryd.prog 17 #[.pointer q] w (NP (.tuple #[LZ, .int .i64 1]) w) := by
  have hb0 := (Below.refl w.heap.size w).alloc (Nat.le_refl _) (.cells #[.string ⟨#[]⟩, .bool false, .int .i64 0, .int .i64 0, .slice none 0 0] 31)
  have HM := Lib.hid (made_no (h.below hb0))
  have HX0 := Lib.hid (heap_alloc_new w (.cells #[.string ⟨#[]⟩, .bool false, .int .i64 0, .int .i64 0, .slice none 0 0] 31))
  have HB0 := Lib.hid hb0
  clear hb0 h
  go_enter Tryd.func17, Tryd.ntmps17
  go_wp2_with fail
  refine HM.out.mono ?_
  rintro e w1 ⟨rfl, rfl⟩
  have hx := HX0.out
  obtain ⟨⟨p0, p1, p2, p3, p4⟩, q0, q1, q2, q3, q4⟩ := fresh_ln hx
  clear hx
  go_wp2_with fail
  have hlw := lnW_at (tx := ⟨#[]⟩) (md := false) (up := 0) (dn := 0) (o := none) (n := 0) (c := 0) HX0.out
  refine lnerr_end (t := 2) (u := 3) (g := w.heap.size) rfl rfl rfl rfl (by first | exact HX0.out | (rw [← hlw]; rfl)) ?_
  exact ⟨rfl, HB0.out⟩
theorem Peek_no {q : Option Addr} {w : World} (h : No w q) : Calls Tryd.prog 20 #[.pointer q] w (NP (.tuple #[LZ, .int .i64 1]) w) := by
  have hb0 := (Below.refl w.heap.size w).alloc (Nat.le_refl _) (.cells #[.string ⟨#[]⟩, .bool false, .int .i64 0, .int .i64 0, .slice none 0 0] 31)
  have HM := Lib.hid (made_no (h.below hb0))
  have HX0 := Lib.hid (heap_alloc_new w (.cells #[.string ⟨#[]⟩, .bool false, .int .i64 0, .int .i64 0, .slice none 0 0] 31))
  have HB0 := Lib.hid hb0
  clear hb0 h
  go_enter Tryd.func20, Tryd.ntmps20
  go_wp2_with fail
  refine HM.out.mono ?_
  rintro e w1 ⟨rfl, rfl⟩
  have hx := HX0.out
  obtain ⟨⟨p0, p1, p2, p3, p4⟩, q0, q1, q2, q3, q4⟩ := fresh_ln hx
  clear hx
  go_wp2_with fail
  have hlw := lnW_at (tx := ⟨#[]⟩) (md := false) (up := 0) (dn := 0) (o := none) (n := 0) (c := 0) HX0.out
  refine lnerr_end (t := 2) (u := 3) (g := w.heap.size) rfl rfl rfl rfl (by first | exact HX0.out | (rw [← hlw]; rfl)) ?_
  exact ⟨rfl, HB0.out⟩
theorem ln_one {w : World} {b : Nat} {r : RL} {l : Ln} (h : w.heap[b]? = some (.cells #[.string r.tx, .bool r.md, .int .i64 r.up, .int .i64 r.dn, .slice r.bo r.bn r.bc] 31 (0, 0))) (hr : RlIs (Lt w) w r l) : LnsAt (Lt w) w (some ⟨b, 0, none⟩) 1 [l] := by
  refine ⟨⟨[r], ⟨rfl, fun _ => ⟨b, 0, rfl, lt_of_block h, fun j u hu => ?_⟩⟩, rfl, fun i x y hx hy => ?_⟩, rfl⟩
  · have e : [r].flatMap rlCs = (#[.string r.tx, .bool r.md, .int .i64 r.up, .int .i64 r.dn, .slice r.bo r.bn r.bc] : Array Value).toList := rfl
    rw [e, Array.getElem?_toList] at hu
    simp only [World.cell?, h, Nat.zero_add]
    exact hu
  · cases i with
    | zero =>
      simp only [List.getElem?_cons_zero, Option.some.injEq] at hx hy
      subst hx hy
      exact hr
    | succ i => simp at hx
theorem RlIs.lt {w w' : World} {r : RL} {l : Ln} (h : RlIs (Lt w) w r l) (k : Below w.heap.size w w') : RlIs (Lt w') w' r l := h.keep fun _ _ b hb => ⟨k.block b hb, Nat.lt_of_lt_of_le hb k.size⟩
theorem RlIs.tglt {w : World} {r : RL} {l : Ln} (h : RlIs (Tg w) w r l) : RlIs (Lt w) w r l := h.keep fun _ _ b hb => ⟨rfl, hb.lt⟩
/-- Lines that say the same are the same. -/
theorem line_eq {w : World} {r r' : RL} {l : Ln} (h : RlIs (Lt w) w r l) (h' : RlIs (Lt w) w r' l) : Calls Tryd.prog 11 #[lvA r, lvA r'] w (NP (.bool true) w) := by
  obtain ⟨k0, k1, k2, k3, hb⟩ := four_alloc w #[.string r.tx, .bool r.md, .int .i64 r.up, .int .i64 r.dn, .slice r.bo r.bn r.bc] #[.string r'.tx, .bool r'.md, .int .i64 r'.up, .int .i64 r'.dn, .slice r'.bo r'.bn r'.bc] #[.string r.tx, .bool r.md, .int .i64 r.up, .int .i64 r.dn, .slice r.bo r.bn r.bc] #[.string r'.tx, .bool r'.md, .int .i64 r'.up, .int .i64 r'.dn, .slice r'.bo r'.bn r'.bc] 31 31 31 31
  have hs := sameLines_eq (c := 1) (c' := 1) (ln_one k2 (h.lt hb)) (ln_one k3 (h'.lt hb)) (fun _ _ hb => hb) (fun _ _ hb => hb) (by decide)
  have HS := Lib.hid hs
  have HB := Lib.hid hb
  obtain ⟨tx, md, up, dn, bo, bn, bc⟩ := r
  obtain ⟨tx', md', up', dn', bo', bn', bc'⟩ := r'
  clear h h' k0 k1 k2 k3 hs hb
  dsimp only [lvA] at *
  go_enter Tryd.func11, Tryd.ntmps11
  go_wp2_with fail
  refine HS.out.mono ?_
  rintro e w1 ⟨rfl, hb1⟩
  have HB1 := Lib.hid (HB.out.trans (hb1.mono HB.out.size))
  clear hb1
  go_wp2_with fail
  go_ret
  exact ⟨rfl, HB1.out⟩
end Go.Proofs.YtfobbcddedcepaaDoor
