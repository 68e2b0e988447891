/- A stack that is nil or was not made: going over its frames. -/
import Derived.Test.YtfmlokkkhfnglaaDoorOa
namespace Go.Proofs.YtfmlokkkhfnglaaDoor
open Go.RowKit Go.Shelf
set_option maxRecDepth 100000
set_option linter.unusedSimpArgs false
set_option linter.unusedVariables false
inductive No (w : World) : Option Addr → Prop
  | nil : No w none
  | zero (b : Nat) (h : w.heap[b]? = some (.cells #[.slice none 0 0] 56 (0, 0))) : No w (some ⟨b, 0, none⟩)
theorem No.below {w w' : World} {q : Option Addr} (h : No w q) (k : Below w.heap.size w w') : No w' q := by
  cases h with
  | nil => exact .nil
  | zero b h => exact .zero b ((k.block b (lt_of_block h)).trans h)
theorem No.heap {w w' : World} {q : Option Addr} (h : No w q) (k : w'.heap = w.heap) : No w' q := by
  cases h with
  | nil => exact .nil
  | zero b h => exact .zero b (by rw [k]; exact h)
theorem made_no {q : Option Addr} {w : World} (h : No w q) : Calls Tryd.prog 47 #[.pointer q] w fun e w' => e = .returned (.bool false) ∧ w = w' := by
  cases h with
  | nil =>
    go_enter Tryd.func47, Tryd.ntmps47
    go_wp2_with fail
    go_ret
    exact ⟨rfl, rfl⟩
  | zero b h =>
    have hc : w.cell? ⟨b, 0, none⟩ = some (.slice none 0 0) := by simp [World.cell?, h]
    have hmn := fun (w : World) (o : Option Addr) (n c : Nat) => Lib.run_eql_slice_nil (P := Tryd.prog) w 54 68 o n c 0 0 Tryd.underlying54
    clear h
    go_enter Tryd.func47, Tryd.ntmps47
    go_wp2_with fail
    go_ret
    exact ⟨rfl, rfl⟩
theorem iter_none (n : Nat) (hn : 1 ≤ n) (Bn : Nat) (q : Option Addr) (n₀ : Nat) (w : World) (hBn : w.cell? ⟨Bn, 0, none⟩ = some (.pointer q)) (hBl : Bn < n₀) (hK : No w q) (hn₀ : n₀ ≤ w.heap.size) :
    SeqStopsK Fence.wide n Tryd.prog 82 #[.pointer (some ⟨Bn, 0, none⟩)] encF (Below n₀) (fun ys => ys = down [] 0) (fun pre => pre <+: down [] 0) 0 w := fun l J Jx W hW _ _ hY h0 => by
  refine callsIn_of_wp Tryd.func82 rfl trivial ?_ rfl
  simp only [Tryd.ntmps82, List.size_toArray, List.length_cons, List.length_nil, Nat.reduceAdd, Nat.reduceSub, Array.replicate_succ, Array.replicate_zero, List.push_toArray, List.append_toArray, List.nil_append, List.cons_append]
  have hc := (hW.cell (p := ⟨Bn, 0, none⟩) (Nat.lt_of_lt_of_le hBl hn₀)).trans hBn
  have HM := Lib.hid (made_no (hK.below hW))
  gi_wp2_with ((refine ⟨trivial, ?_⟩; gi_at_call 47; refine (callsIn_wide.2 HM.out).mono ?_; rintro e w1 ⟨rfl, rfl⟩))
  refine bodyPost_ret (results_none rfl _ _ _) rfl ?_
  exact ⟨⟨_, rfl⟩, .inl ⟨[], rfl, h0⟩⟩
end Go.Proofs.YtfmlokkkhfnglaaDoor
/- The topmost frame that is wanted: the walk. -/
namespace Go.Proofs.YtfmlokkkhfnglaaDoor
open Go.RowKit Go.Shelf
set_option maxRecDepth 100000
set_option linter.unusedSimpArgs false
set_option linter.unusedVariables false
attribute [local go_sem] Oper.semAt_some
set_option maxHeartbeats 1000000 in
theorem topno_isFile_ {q : Option Addr} {w : World} (hK : No w q) :
    CallsIn Fence.wide 9 Tryd.prog 50 #[.pointer q, .func (.func 61) #[] #[]] w (TopP qFile [] w) := by
  have mixed : Tryd.prog.follows Departure.mixedOrders = true := by kernel_rfl
  have hw : Wants 61 qFile := isFile_w
  refine callsIn_of_wp_marks Tryd.func50 rfl trivial ?_ rfl
  simp only [Tryd.ntmps50, List.size_toArray, List.length_cons, List.length_nil, Nat.reduceAdd, Nat.reduceSub, Array.replicate_succ, Array.replicate_zero, List.push_toArray, List.append_toArray, List.nil_append, List.cons_append]
  gi_wp2_with ((refine ⟨trivial, ?_⟩; gi_at_call 75; refine (fromTop_any _ _ _ ⟨_, rfl⟩).mono ?_; rintro e w' ⟨rfl, rfl⟩))
  simp only [World.size_alloc, Nat.add_assoc, Nat.reduceAdd]
  have hz : ∀ (v0 v1 v2 v3 : Array Value) (t0 t1 t2 t3 : TypeId), ((((w.alloc (.cells v0 t0)).alloc (.cells v1 t1)).alloc (.cells v2 t2)).alloc (.cells v3 t3)).heap.size = w.heap.size + 4 := by intros; simp
  obtain ⟨W0, hW0⟩ : ∃ W0, W0 = (((w.alloc (.cells #[.func (.func 61) #[] #[]] 74)).alloc (.cells #[.int .i64 0] 3)).alloc (.cells #[.int .i64 0, .string ⟨#[]⟩, .slice none 0 0, .slice none 0 0, .int .i64 0] 68)).alloc (.cells #[.pointer q] 25) := ⟨_, rfl⟩
  have hsz : W0.heap.size = w.heap.size + 4 := by rw [hW0]; exact hz _ _ _ _ _ _ _ _
  have hfour := four_alloc w #[.func (.func 61) #[] #[]] #[.int .i64 0] #[.int .i64 0, .string ⟨#[]⟩, .slice none 0 0, .slice none 0 0, .int .i64 0] #[.pointer q] 74 3 68 25
  rw [← hW0] at hfour ⊢
  obtain ⟨k0, k1, k2, k3, hB0⟩ := hfour
  have hKW := hK.below hB0
  have hb3 : W0.cell? ⟨w.heap.size + 3, 0, none⟩ = some (.pointer q) := by simp [World.cell?, k3]
  refine wpIn_rangeFunc_ownH rfl (by omega) (gf := 82) (lb := #[.pointer (some ⟨w.heap.size + 3, 0, none⟩)]) rfl trivial (enters_of Tryd.func82 (by kernel_rfl) rfl)
    (iter_none 8 (by omega) (w.heap.size + 3) q W0.heap.size W0 hb3 (by omega) hKW (Nat.le_refl _)) belowK_t (belowK_b (Nat.le_refl _)) (Below.refl _ _) (fun _ => rfl)
    (fun pre W => (∀ y ∈ pre, qFile y.2 = false) ∧ (W.heap[w.heap.size]? = some (.cells #[.func (.func 61) #[] #[]] 74 (0, 0)) ∧ W.heap[w.heap.size + 1]? = some (.cells #[.int .i64 0] 3 (0, 0)) ∧ W.heap[w.heap.size + 2]? = some (.cells #[.int .i64 0, .string ⟨#[]⟩, .slice none 0 0, .slice none 0 0, .int .i64 0] 68 (0, 0)) ∧ W.heap[w.heap.size + 3]? = some (.cells #[.pointer q] 25 (0, 0))) ∧ Below w.heap.size w W)
    (fun k pre W => ∃ p x, k = .ret ∧ pre = p ++ [x] ∧ (∀ y ∈ p, qFile y.2 = false) ∧ qFile x.2 = true ∧ W.heap[w.heap.size + 1]? = some (.cells #[.int .i64 x.1] 3 (0, 0)) ∧ W.heap[w.heap.size + 2]? = some (.cells #[.int .i64 x.2.kd, .string x.2.nm, .slice x.2.lo x.2.ln x.2.lc, .slice x.2.ao x.2.an x.2.ac, .int .i64 x.2.tk] 68 (0, 0)) ∧ Below w.heap.size w W)
    ?hI ?hIx ?h0
    (fun x a' W => ∃ Bx, w.heap.size + 3 < Bx ∧ W.heap[Bx]? = some (.cells #[.int .i64 x.2.kd, .string x.2.nm, .slice x.2.lo x.2.ln x.2.lc, .slice x.2.ao x.2.an x.2.ac, .int .i64 x.2.tk] 68 (0, 0)) ∧ a' = { tmps := #[.pointer q, .func (.func 61) #[] #[], undef, .pointer (some ⟨w.heap.size, 0, none⟩), .pointer (some ⟨w.heap.size + 1, 0, none⟩), .pointer (some ⟨w.heap.size + 2, 0, none⟩), .int .i64 x.1, .pointer (some ⟨Bx, 0, none⟩), .pointer q, .func (.func 82) #[] #[.pointer (some ⟨w.heap.size + 3, 0, none⟩)], .int .i64 x.1, rfA x.2, undef, undef, undef, undef, undef, undef], defers := [] })
    ?hAx ?assign ?body ?done ?stop
  case hI => exact OwnFrom.and (fun _ _ _ _ hs _ _ => hs) (OwnFrom.and (OwnFrom.and (Own.from (own_blk _ _ _ _) _) (OwnFrom.and (Own.from (own_blk _ _ _ _) _) (OwnFrom.and (Own.from (own_blk _ _ _ _) _) (Own.from (own_blk _ _ _ _) _)))) (ownFrom_below (Nat.le_refl _) (by omega)))
  case hIx =>
    rintro k pre A B row ⟨p, x, h1, h2, h3, h4, h5, h6, h7⟩ hg hr
    have o1 := own_blk (w.heap.size + 1) #[.int .i64 x.1] 3 (0, 0) () A B row h5 hg (fun r e => (hr r e).2)
    have o2 := own_blk (w.heap.size + 2) _ 68 (0, 0) () A B row h6 hg (fun r e => (hr r e).2)
    exact ⟨p, x, h1, h2, h3, h4, o1, o2, ownFrom_below (β := Unit) (Nat.le_refl _) (show w.heap.size ≤ W0.heap.size by omega) () A B row h7 hg hr⟩
  case h0 => exact ⟨by simp, ⟨k0, k1, k2, k3⟩, hB0⟩
  case hAx =>
    rintro x a' _ A B row ⟨Bx, h1, h2, h3⟩ hg hr
    exact ⟨Bx, h1, own_blk Bx _ 68 (0, 0) () A B row h2 hg (fun r e => (hr r e).2), h3⟩
  case assign =>
    rintro l pre ⟨k, r⟩ W K ⟨hp, ⟨a0, a1, a2, a3⟩, hB⟩ hK
    dsimp only [encF, rfA] at *
    have hbz := hB.size
    have hw0 := lt_of_block a3
    gi_wp2
    refine hK _ _ ((KeepsOthers.alloc _ _).from _) ?_ ⟨hp, ⟨?_, ?_, ?_, ?_⟩, ?_⟩ ⟨W.heap.size, ?_, ?_, rfl⟩
    · exact (Below.refl _ W).alloc (Nat.le_trans (Nat.le_of_eq hsz) (by omega)) _
    · exact (Below.heap_alloc _ _ _ (lt_of_block a0)).trans a0
    · exact (Below.heap_alloc _ _ _ (lt_of_block a1)).trans a1
    · exact (Below.heap_alloc _ _ _ (lt_of_block a2)).trans a2
    · exact (Below.heap_alloc _ _ _ hw0).trans a3
    · exact hB.alloc hbz _
    · exact hw0
    · exact heap_alloc_new _ _
  case body =>
    rintro l pre ⟨k, r⟩ a' W hl ⟨o, ho⟩ ⟨hp, ⟨a0, a1, a2, a3⟩, hB⟩ ⟨Bx, hBx, aX, rfl⟩ hlen
    obtain ⟨⟨x0, x1, x2, x3, x4⟩, _⟩ := fresh_fr aX
    have y0 : W.cell? ⟨w.heap.size, 0, none⟩ = some (.func (.func 61) #[] #[]) := by simp [World.cell?, a0]
    have hwr := hw r W
    dsimp only [encF, rfA] at *
    have HB := Lib.hid hB
    have HP := Lib.hid hp
    have HA0 := Lib.hid a0
    have HA1 := Lib.hid a1
    have HA2 := Lib.hid a2
    have HA3 := Lib.hid a3
    have HAX := Lib.hid aX
    have z1 : W.cell? ⟨w.heap.size + 1, 0, none⟩ = some (.int .i64 0) := by simp [World.cell?, a1]
    cases hq : qFile r with
    | false =>
      rw [hq] at hwr
      have HW := Lib.hid hwr
      have HQ := Lib.hid hq
      clear hwr hB hp hw hK hKW hb3 hlen hq a0 a1 a2 a3 aX z1
      gi_wp2_with ((refine ⟨trivial, ?_⟩; gi_at_call 61; refine (CallsIn.inRound l (callsIn_wide.2 HW.out)).mono ?_; rintro e w1 ⟨rfl, hb1⟩))
      refine ⟨keeps_below hb1, hb1.mono (Nat.le_trans hl (Nat.le_of_lt (lt_of_block ho))), ⟨fun y hy => ?_, ⟨(hb1.block _ (lt_of_block HA0.out)).trans HA0.out, (hb1.block _ (lt_of_block HA1.out)).trans HA1.out, (hb1.block _ (lt_of_block HA2.out)).trans HA2.out, (hb1.block _ (lt_of_block HA3.out)).trans HA3.out⟩, HB.out.trans (hb1.mono HB.out.size)⟩⟩
      rcases List.mem_append.1 hy with hy | hy
      · exact HP.out y hy
      · simp only [List.mem_cons, List.not_mem_nil, or_false] at hy
        subst hy
        exact HQ.out
    | true =>
      rw [hq] at hwr
      have HW := Lib.hid hwr
      have HQ := Lib.hid hq
      clear hwr hB hp hw hK hKW hb3 hlen hq a0 a1 a2 a3 aX
      gi_wp2_with ((refine ⟨trivial, ?_⟩; gi_at_call 61; refine (CallsIn.inRound l (callsIn_wide.2 HW.out)).mono ?_; rintro e w1 ⟨rfl, hb1⟩
                    have HB1 := Lib.hid hb1
                    have u0 := (hb1.block _ (lt_of_block HAX.out)).trans HAX.out
                    have u1 := (hb1.block _ (lt_of_block HA1.out)).trans HA1.out
                    have u2 := (hb1.block _ (lt_of_block HA2.out)).trans HA2.out
                    obtain ⟨⟨p0, p1, p2, p3, p4⟩, _⟩ := fresh_fr u0
                    obtain ⟨⟨q0, q1, q2, q3, q4⟩, f0, f1, f2, f3, f4⟩ := fresh_fr u2
                    have s0 : w1.cell? ⟨w.heap.size + 1, 0, none⟩ = some (.int .i64 0) := by simp [World.cell?, u1]
                    have s1 : w1.frozen? ⟨w.heap.size + 1, 0, none⟩ = false := by simp [World.frozen?, u1]
                    clear hb1))
      have hA := topA (k := (k : Int)) (r := r) u1 u2 (by omega)
      have hB := topB (k := (k : Int)) (r := r) u1 u2 (by omega)
      have HA := Lib.hid hA
      have HBB := Lib.hid hB
      clear hA hB
      gi_region_with_o (fail)
      all_goals
        gi_wp2
        first
          | exact ⟨(keeps_below HB1.out).trans (HA.out.1.from _), pre, (k, r), rfl, rfl, HP.out, HQ.out, HA.out.2.1, HA.out.2.2.1, HB.out.trans ((HB1.out.mono HB.out.size).trans (HA.out.2.2.2 _ (Nat.le_add_right _ _) (Nat.le_add_right _ _)))⟩
          | exact ⟨(keeps_below HB1.out).trans (HBB.out.1.from _), pre, (k, r), rfl, rfl, HP.out, HQ.out, HBB.out.2.1, HBB.out.2.2.1, HB.out.trans ((HB1.out.mono HB.out.size).trans (HBB.out.2.2.2 _ (Nat.le_add_right _ _) (Nat.le_add_right _ _)))⟩
  case done =>
    rintro D ys W hD rfl ⟨hp, ⟨a0, a1, a2, a3⟩, hB⟩ hDf
    have hz0 : topQ qFile [] ([] : List RF).length = 0 := down_none qFile [] 0 (Nat.le_refl _) hp
    have s0 : W.cell? ⟨w.heap.size + 1, 0, none⟩ = some (.int .i64 0) := by simp [World.cell?, a1]
    have s1 : W.frozen? ⟨w.heap.size + 1, 0, none⟩ = false := by simp [World.frozen?, a1]
    obtain ⟨⟨q0, q1, q2, q3, q4⟩, f0, f1, f2, f3, f4⟩ := fresh_fr a2
    have hA := topC a1 a2 (by omega)
    have HA := Lib.hid hA
    have HZ := Lib.hid hz0
    have HB := Lib.hid hB
    have HD := Lib.hid hDf
    clear hA hz0 hB hDf hp hw hK hKW hb3 a0 a1 a2 a3
    gi_wp2
    have hD5 := HA.out.1.same D _ HD.out rfl
    refine ⟨by simp, .inl ⟨_, _, rfl, run_takeDeferred hD5, ?_⟩⟩
    refine ⟨_, top_end rfl rfl rfl ((World.putObj_heap_other (by omega)).trans HA.out.2.1) ((World.putObj_heap_other (by omega)).trans HA.out.2.2.1), ?_, ?_⟩
    · rw [HZ.out]; rfl
    · exact HB.out.trans ((HA.out.2.2.2 _ (Nat.le_add_right _ _) (Nat.le_add_right _ _)).trans (belowK_b (w := W0) (by omega) _ D _ _ hD hD5 rfl rfl))
  case stop =>
    rintro D k pre W hD hpre ⟨p, x, rfl, rfl, h3, h4, h5, h6, h7⟩ hDf
    have hf : topQ qFile [] ([] : List RF).length = x.1 + 1 ∧ ([] : List RF)[x.1]? = some x.2 := down_found qFile [] 0 (Nat.le_refl _) p x hpre h3 h4
    have HF := Lib.hid hf
    have HD := Lib.hid hDf
    clear hf
    gi_wp2
    refine ⟨by simp, .inl ⟨_, _, rfl, run_takeDeferred HD.out, ?_⟩⟩
    refine ⟨_, top_end rfl rfl rfl ((World.putObj_heap_other (by omega)).trans h5) ((World.putObj_heap_other (by omega)).trans h6), ?_, ?_⟩
    · rw [HF.out.1]
      have hg : gotR [] (x.1 + 1) = x.2 := by unfold gotR; rw [if_neg (by omega), Nat.add_sub_cancel, HF.out.2]; rfl
      rw [hg]
      have hi : ((x.1 + 1 : Nat) : Int) - 1 = (x.1 : Int) := by omega
      rw [hi]
    · exact h7.trans (belowK_b (w := W0) (by omega) _ D _ _ hD HD.out rfl rfl)
theorem topno_isFile {q : Option Addr} {w : World} (hK : No w q) : Calls Tryd.prog 50 #[.pointer q, .func (.func 61) #[] #[]] w (TopP qFile [] w) :=
  callsIn_wide.1 (topno_isFile_ hK)
end Go.Proofs.YtfmlokkkhfnglaaDoor
/- The topmost frame that is wanted: the walk. -/
namespace Go.Proofs.YtfmlokkkhfnglaaDoor
open Go.RowKit Go.Shelf
set_option maxRecDepth 100000
set_option linter.unusedSimpArgs false
set_option linter.unusedVariables false
attribute [local go_sem] Oper.semAt_some
set_option maxHeartbeats 1000000 in
theorem topno_isMacro_ {q : Option Addr} {w : World} (hK : No w q) :
    CallsIn Fence.wide 9 Tryd.prog 50 #[.pointer q, .func (.func 63) #[] #[]] w (TopP qMacro [] w) := by
  have mixed : Tryd.prog.follows Departure.mixedOrders = true := by kernel_rfl
  have hw : Wants 63 qMacro := isMacro_w
  refine callsIn_of_wp_marks Tryd.func50 rfl trivial ?_ rfl
  simp only [Tryd.ntmps50, List.size_toArray, List.length_cons, List.length_nil, Nat.reduceAdd, Nat.reduceSub, Array.replicate_succ, Array.replicate_zero, List.push_toArray, List.append_toArray, List.nil_append, List.cons_append]
  gi_wp2_with ((refine ⟨trivial, ?_⟩; gi_at_call 75; refine (fromTop_any _ _ _ ⟨_, rfl⟩).mono ?_; rintro e w' ⟨rfl, rfl⟩))
  simp only [World.size_alloc, Nat.add_assoc, Nat.reduceAdd]
  have hz : ∀ (v0 v1 v2 v3 : Array Value) (t0 t1 t2 t3 : TypeId), ((((w.alloc (.cells v0 t0)).alloc (.cells v1 t1)).alloc (.cells v2 t2)).alloc (.cells v3 t3)).heap.size = w.heap.size + 4 := by intros; simp
  obtain ⟨W0, hW0⟩ : ∃ W0, W0 = (((w.alloc (.cells #[.func (.func 63) #[] #[]] 74)).alloc (.cells #[.int .i64 0] 3)).alloc (.cells #[.int .i64 0, .string ⟨#[]⟩, .slice none 0 0, .slice none 0 0, .int .i64 0] 68)).alloc (.cells #[.pointer q] 25) := ⟨_, rfl⟩
  have hsz : W0.heap.size = w.heap.size + 4 := by rw [hW0]; exact hz _ _ _ _ _ _ _ _
  have hfour := four_alloc w #[.func (.func 63) #[] #[]] #[.int .i64 0] #[.int .i64 0, .string ⟨#[]⟩, .slice none 0 0, .slice none 0 0, .int .i64 0] #[.pointer q] 74 3 68 25
  rw [← hW0] at hfour ⊢
  obtain ⟨k0, k1, k2, k3, hB0⟩ := hfour
  have hKW := hK.below hB0
  have hb3 : W0.cell? ⟨w.heap.size + 3, 0, none⟩ = some (.pointer q) := by simp [World.cell?, k3]
  refine wpIn_rangeFunc_ownH rfl (by omega) (gf := 82) (lb := #[.pointer (some ⟨w.heap.size + 3, 0, none⟩)]) rfl trivial (enters_of Tryd.func82 (by kernel_rfl) rfl)
    (iter_none 8 (by omega) (w.heap.size + 3) q W0.heap.size W0 hb3 (by omega) hKW (Nat.le_refl _)) belowK_t (belowK_b (Nat.le_refl _)) (Below.refl _ _) (fun _ => rfl)
    (fun pre W => (∀ y ∈ pre, qMacro y.2 = false) ∧ (W.heap[w.heap.size]? = some (.cells #[.func (.func 63) #[] #[]] 74 (0, 0)) ∧ W.heap[w.heap.size + 1]? = some (.cells #[.int .i64 0] 3 (0, 0)) ∧ W.heap[w.heap.size + 2]? = some (.cells #[.int .i64 0, .string ⟨#[]⟩, .slice none 0 0, .slice none 0 0, .int .i64 0] 68 (0, 0)) ∧ W.heap[w.heap.size + 3]? = some (.cells #[.pointer q] 25 (0, 0))) ∧ Below w.heap.size w W)
    (fun k pre W => ∃ p x, k = .ret ∧ pre = p ++ [x] ∧ (∀ y ∈ p, qMacro y.2 = false) ∧ qMacro x.2 = true ∧ W.heap[w.heap.size + 1]? = some (.cells #[.int .i64 x.1] 3 (0, 0)) ∧ W.heap[w.heap.size + 2]? = some (.cells #[.int .i64 x.2.kd, .string x.2.nm, .slice x.2.lo x.2.ln x.2.lc, .slice x.2.ao x.2.an x.2.ac, .int .i64 x.2.tk] 68 (0, 0)) ∧ Below w.heap.size w W)
    ?hI ?hIx ?h0
    (fun x a' W => ∃ Bx, w.heap.size + 3 < Bx ∧ W.heap[Bx]? = some (.cells #[.int .i64 x.2.kd, .string x.2.nm, .slice x.2.lo x.2.ln x.2.lc, .slice x.2.ao x.2.an x.2.ac, .int .i64 x.2.tk] 68 (0, 0)) ∧ a' = { tmps := #[.pointer q, .func (.func 63) #[] #[], undef, .pointer (some ⟨w.heap.size, 0, none⟩), .pointer (some ⟨w.heap.size + 1, 0, none⟩), .pointer (some ⟨w.heap.size + 2, 0, none⟩), .int .i64 x.1, .pointer (some ⟨Bx, 0, none⟩), .pointer q, .func (.func 82) #[] #[.pointer (some ⟨w.heap.size + 3, 0, none⟩)], .int .i64 x.1, rfA x.2, undef, undef, undef, undef, undef, undef], defers := [] })
    ?hAx ?assign ?body ?done ?stop
  case hI => exact OwnFrom.and (fun _ _ _ _ hs _ _ => hs) (OwnFrom.and (OwnFrom.and (Own.from (own_blk _ _ _ _) _) (OwnFrom.and (Own.from (own_blk _ _ _ _) _) (OwnFrom.and (Own.from (own_blk _ _ _ _) _) (Own.from (own_blk _ _ _ _) _)))) (ownFrom_below (Nat.le_refl _) (by omega)))
  case hIx =>
    rintro k pre A B row ⟨p, x, h1, h2, h3, h4, h5, h6, h7⟩ hg hr
    have o1 := own_blk (w.heap.size + 1) #[.int .i64 x.1] 3 (0, 0) () A B row h5 hg (fun r e => (hr r e).2)
    have o2 := own_blk (w.heap.size + 2) _ 68 (0, 0) () A B row h6 hg (fun r e => (hr r e).2)
    exact ⟨p, x, h1, h2, h3, h4, o1, o2, ownFrom_below (β := Unit) (Nat.le_refl _) (show w.heap.size ≤ W0.heap.size by omega) () A B row h7 hg hr⟩
  case h0 => exact ⟨by simp, ⟨k0, k1, k2, k3⟩, hB0⟩
  case hAx =>
    rintro x a' _ A B row ⟨Bx, h1, h2, h3⟩ hg hr
    exact ⟨Bx, h1, own_blk Bx _ 68 (0, 0) () A B row h2 hg (fun r e => (hr r e).2), h3⟩
  case assign =>
    rintro l pre ⟨k, r⟩ W K ⟨hp, ⟨a0, a1, a2, a3⟩, hB⟩ hK
    dsimp only [encF, rfA] at *
    have hbz := hB.size
    have hw0 := lt_of_block a3
    gi_wp2
    refine hK _ _ ((KeepsOthers.alloc _ _).from _) ?_ ⟨hp, ⟨?_, ?_, ?_, ?_⟩, ?_⟩ ⟨W.heap.size, ?_, ?_, rfl⟩
    · exact (Below.refl _ W).alloc (Nat.le_trans (Nat.le_of_eq hsz) (by omega)) _
    · exact (Below.heap_alloc _ _ _ (lt_of_block a0)).trans a0
    · exact (Below.heap_alloc _ _ _ (lt_of_block a1)).trans a1
    · exact (Below.heap_alloc _ _ _ (lt_of_block a2)).trans a2
    · exact (Below.heap_alloc _ _ _ hw0).trans a3
    · exact hB.alloc hbz _
    · exact hw0
    · exact heap_alloc_new _ _
  case body =>
    rintro l pre ⟨k, r⟩ a' W hl ⟨o, ho⟩ ⟨hp, ⟨a0, a1, a2, a3⟩, hB⟩ ⟨Bx, hBx, aX, rfl⟩ hlen
    obtain ⟨⟨x0, x1, x2, x3, x4⟩, _⟩ := fresh_fr aX
    have y0 : W.cell? ⟨w.heap.size, 0, none⟩ = some (.func (.func 63) #[] #[]) := by simp [World.cell?, a0]
    have hwr := hw r W
    dsimp only [encF, rfA] at *
    have HB := Lib.hid hB
    have HP := Lib.hid hp
    have HA0 := Lib.hid a0
    have HA1 := Lib.hid a1
    have HA2 := Lib.hid a2
    have HA3 := Lib.hid a3
    have HAX := Lib.hid aX
    have z1 : W.cell? ⟨w.heap.size + 1, 0, none⟩ = some (.int .i64 0) := by simp [World.cell?, a1]
    cases hq : qMacro r with
    | false =>
      rw [hq] at hwr
      have HW := Lib.hid hwr
      have HQ := Lib.hid hq
      clear hwr hB hp hw hK hKW hb3 hlen hq a0 a1 a2 a3 aX z1
      gi_wp2_with ((refine ⟨trivial, ?_⟩; gi_at_call 63; refine (CallsIn.inRound l (callsIn_wide.2 HW.out)).mono ?_; rintro e w1 ⟨rfl, hb1⟩))
      refine ⟨keeps_below hb1, hb1.mono (Nat.le_trans hl (Nat.le_of_lt (lt_of_block ho))), ⟨fun y hy => ?_, ⟨(hb1.block _ (lt_of_block HA0.out)).trans HA0.out, (hb1.block _ (lt_of_block HA1.out)).trans HA1.out, (hb1.block _ (lt_of_block HA2.out)).trans HA2.out, (hb1.block _ (lt_of_block HA3.out)).trans HA3.out⟩, HB.out.trans (hb1.mono HB.out.size)⟩⟩
      rcases List.mem_append.1 hy with hy | hy
      · exact HP.out y hy
      · simp only [List.mem_cons, List.not_mem_nil, or_false] at hy
        subst hy
        exact HQ.out
    | true =>
      rw [hq] at hwr
      have HW := Lib.hid hwr
      have HQ := Lib.hid hq
      clear hwr hB hp hw hK hKW hb3 hlen hq a0 a1 a2 a3 aX
      gi_wp2_with ((refine ⟨trivial, ?_⟩; gi_at_call 63; refine (CallsIn.inRound l (callsIn_wide.2 HW.out)).mono ?_; rintro e w1 ⟨rfl, hb1⟩
                    have HB1 := Lib.hid hb1
                    have u0 := (hb1.block _ (lt_of_block HAX.out)).trans HAX.out
                    have u1 := (hb1.block _ (lt_of_block HA1.out)).trans HA1.out
                    have u2 := (hb1.block _ (lt_of_block HA2.out)).trans HA2.out
                    obtain ⟨⟨p0, p1, p2, p3, p4⟩, _⟩ := fresh_fr u0
                    obtain ⟨⟨q0, q1, q2, q3, q4⟩, f0, f1, f2, f3, f4⟩ := fresh_fr u2
                    have s0 : w1.cell? ⟨w.heap.size + 1, 0, none⟩ = some (.int .i64 0) := by simp [World.cell?, u1]
                    have s1 : w1.frozen? ⟨w.heap.size + 1, 0, none⟩ = false := by simp [World.frozen?, u1]
                    clear hb1))
      have hA := topA (k := (k : Int)) (r := r) u1 u2 (by omega)
      have hB := topB (k := (k : Int)) (r := r) u1 u2 (by omega)
      have HA := Lib.hid hA
      have HBB := Lib.hid hB
      clear hA hB
      gi_region_with_o (fail)
      all_goals
        gi_wp2
        first
          | exact ⟨(keeps_below HB1.out).trans (HA.out.1.from _), pre, (k, r), rfl, rfl, HP.out, HQ.out, HA.out.2.1, HA.out.2.2.1, HB.out.trans ((HB1.out.mono HB.out.size).trans (HA.out.2.2.2 _ (Nat.le_add_right _ _) (Nat.le_add_right _ _)))⟩
          | exact ⟨(keeps_below HB1.out).trans (HBB.out.1.from _), pre, (k, r), rfl, rfl, HP.out, HQ.out, HBB.out.2.1, HBB.out.2.2.1, HB.out.trans ((HB1.out.mono HB.out.size).trans (HBB.out.2.2.2 _ (Nat.le_add_right _ _) (Nat.le_add_right _ _)))⟩
  case done =>
    rintro D ys W hD rfl ⟨hp, ⟨a0, a1, a2, a3⟩, hB⟩ hDf
    have hz0 : topQ qMacro [] ([] : List RF).length = 0 := down_none qMacro [] 0 (Nat.le_refl _) hp
    have s0 : W.cell? ⟨w.heap.size + 1, 0, none⟩ = some (.int .i64 0) := by simp [World.cell?, a1]
    have s1 : W.frozen? ⟨w.heap.size + 1, 0, none⟩ = false := by simp [World.frozen?, a1]
    obtain ⟨⟨q0, q1, q2, q3, q4⟩, f0, f1, f2, f3, f4⟩ := fresh_fr a2
    have hA := topC a1 a2 (by omega)
    have HA := Lib.hid hA
    have HZ := Lib.hid hz0
    have HB := Lib.hid hB
    have HD := Lib.hid hDf
    clear hA hz0 hB hDf hp hw hK hKW hb3 a0 a1 a2 a3
    gi_wp2
    have hD5 := HA.out.1.same D _ HD.out rfl
    refine ⟨by simp, .inl ⟨_, _, rfl, run_takeDeferred hD5, ?_⟩⟩
    refine ⟨_, top_end rfl rfl rfl ((World.putObj_heap_other (by omega)).trans HA.out.2.1) ((World.putObj_heap_other (by omega)).trans HA.out.2.2.1), ?_, ?_⟩
    · rw [HZ.out]; rfl
    · exact HB.out.trans ((HA.out.2.2.2 _ (Nat.le_add_right _ _) (Nat.le_add_right _ _)).trans (belowK_b (w := W0) (by omega) _ D _ _ hD hD5 rfl rfl))
  case stop =>
    rintro D k pre W hD hpre ⟨p, x, rfl, rfl, h3, h4, h5, h6, h7⟩ hDf
    have hf : topQ qMacro [] ([] : List RF).length = x.1 + 1 ∧ ([] : List RF)[x.1]? = some x.2 := down_found qMacro [] 0 (Nat.le_refl _) p x hpre h3 h4
    have HF := Lib.hid hf
    have HD := Lib.hid hDf
    clear hf
    gi_wp2
    refine ⟨by simp, .inl ⟨_, _, rfl, run_takeDeferred HD.out, ?_⟩⟩
    refine ⟨_, top_end rfl rfl rfl ((World.putObj_heap_other (by omega)).trans h5) ((World.putObj_heap_other (by omega)).trans h6), ?_, ?_⟩
    · rw [HF.out.1]
      have hg : gotR [] (x.1 + 1) = x.2 := by unfold gotR; rw [if_neg (by omega), Nat.add_sub_cancel, HF.out.2]; rfl
      rw [hg]
      have hi : ((x.1 + 1 : Nat) : Int) - 1 = (x.1 : Int) := by omega
      rw [hi]
    · exact h7.trans (belowK_b (w := W0) (by omega) _ D _ _ hD HD.out rfl rfl)
theorem topno_isMacro {q : Option Addr} {w : World} (hK : No w q) : Calls Tryd.prog 50 #[.pointer q, .func (.func 63) #[] #[]] w (TopP qMacro [] w) :=
  callsIn_wide.1 (topno_isMacro_ hK)
end Go.Proofs.YtfmlokkkhfnglaaDoor
/- The topmost frame that is wanted: the walk. -/
namespace Go.Proofs.YtfmlokkkhfnglaaDoor
open Go.RowKit Go.Shelf
set_option maxRecDepth 100000
set_option linter.unusedSimpArgs false
set_option linter.unusedVariables false
attribute [local go_sem] Oper.semAt_some
set_option maxHeartbeats 1000000 in
theorem topno_hasName_ {q : Option Addr} {w : World} (hK : No w q) :
    CallsIn Fence.wide 9 Tryd.prog 50 #[.pointer q, .func (.func 62) #[] #[]] w (TopP qName [] w) := by
  have mixed : Tryd.prog.follows Departure.mixedOrders = true := by kernel_rfl
  have hw : Wants 62 qName := hasName_w
  refine callsIn_of_wp_marks Tryd.func50 rfl trivial ?_ rfl
  simp only [Tryd.ntmps50, List.size_toArray, List.length_cons, List.length_nil, Nat.reduceAdd, Nat.reduceSub, Array.replicate_succ, Array.replicate_zero, List.push_toArray, List.append_toArray, List.nil_append, List.cons_append]
  gi_wp2_with ((refine ⟨trivial, ?_⟩; gi_at_call 75; refine (fromTop_any _ _ _ ⟨_, rfl⟩).mono ?_; rintro e w' ⟨rfl, rfl⟩))
  simp only [World.size_alloc, Nat.add_assoc, Nat.reduceAdd]
  have hz : ∀ (v0 v1 v2 v3 : Array Value) (t0 t1 t2 t3 : TypeId), ((((w.alloc (.cells v0 t0)).alloc (.cells v1 t1)).alloc (.cells v2 t2)).alloc (.cells v3 t3)).heap.size = w.heap.size + 4 := by intros; simp
  obtain ⟨W0, hW0⟩ : ∃ W0, W0 = (((w.alloc (.cells #[.func (.func 62) #[] #[]] 74)).alloc (.cells #[.int .i64 0] 3)).alloc (.cells #[.int .i64 0, .string ⟨#[]⟩, .slice none 0 0, .slice none 0 0, .int .i64 0] 68)).alloc (.cells #[.pointer q] 25) := ⟨_, rfl⟩
  have hsz : W0.heap.size = w.heap.size + 4 := by rw [hW0]; exact hz _ _ _ _ _ _ _ _
  have hfour := four_alloc w #[.func (.func 62) #[] #[]] #[.int .i64 0] #[.int .i64 0, .string ⟨#[]⟩, .slice none 0 0, .slice none 0 0, .int .i64 0] #[.pointer q] 74 3 68 25
  rw [← hW0] at hfour ⊢
  obtain ⟨k0, k1, k2, k3, hB0⟩ := hfour
  have hKW := hK.below hB0
  have hb3 : W0.cell? ⟨w.heap.size + 3, 0, none⟩ = some (.pointer q) := by simp [World.cell?, k3]
  refine wpIn_rangeFunc_ownH rfl (by omega) (gf := 82) (lb := #[.pointer (some ⟨w.heap.size + 3, 0, none⟩)]) rfl trivial (enters_of Tryd.func82 (by kernel_rfl) rfl)
    (iter_none 8 (by omega) (w.heap.size + 3) q W0.heap.size W0 hb3 (by omega) hKW (Nat.le_refl _)) belowK_t (belowK_b (Nat.le_refl _)) (Below.refl _ _) (fun _ => rfl)
    (fun pre W => (∀ y ∈ pre, qName y.2 = false) ∧ (W.heap[w.heap.size]? = some (.cells #[.func (.func 62) #[] #[]] 74 (0, 0)) ∧ W.heap[w.heap.size + 1]? = some (.cells #[.int .i64 0] 3 (0, 0)) ∧ W.heap[w.heap.size + 2]? = some (.cells #[.int .i64 0, .string ⟨#[]⟩, .slice none 0 0, .slice none 0 0, .int .i64 0] 68 (0, 0)) ∧ W.heap[w.heap.size + 3]? = some (.cells #[.pointer q] 25 (0, 0))) ∧ Below w.heap.size w W)
    (fun k pre W => ∃ p x, k = .ret ∧ pre = p ++ [x] ∧ (∀ y ∈ p, qName y.2 = false) ∧ qName x.2 = true ∧ W.heap[w.heap.size + 1]? = some (.cells #[.int .i64 x.1] 3 (0, 0)) ∧ W.heap[w.heap.size + 2]? = some (.cells #[.int .i64 x.2.kd, .string x.2.nm, .slice x.2.lo x.2.ln x.2.lc, .slice x.2.ao x.2.an x.2.ac, .int .i64 x.2.tk] 68 (0, 0)) ∧ Below w.heap.size w W)
    ?hI ?hIx ?h0
    (fun x a' W => ∃ Bx, w.heap.size + 3 < Bx ∧ W.heap[Bx]? = some (.cells #[.int .i64 x.2.kd, .string x.2.nm, .slice x.2.lo x.2.ln x.2.lc, .slice x.2.ao x.2.an x.2.ac, .int .i64 x.2.tk] 68 (0, 0)) ∧ a' = { tmps := #[.pointer q, .func (.func 62) #[] #[], undef, .pointer (some ⟨w.heap.size, 0, none⟩), .pointer (some ⟨w.heap.size + 1, 0, none⟩), .pointer (some ⟨w.heap.size + 2, 0, none⟩), .int .i64 x.1, .pointer (some ⟨Bx, 0, none⟩), .pointer q, .func (.func 82) #[] #[.pointer (some ⟨w.heap.size + 3, 0, none⟩)], .int .i64 x.1, rfA x.2, undef, undef, undef, undef, undef, undef], defers := [] })
    ?hAx ?assign ?body ?done ?stop
  case hI => exact OwnFrom.and (fun _ _ _ _ hs _ _ => hs) (OwnFrom.and (OwnFrom.and (Own.from (own_blk _ _ _ _) _) (OwnFrom.and (Own.from (own_blk _ _ _ _) _) (OwnFrom.and (Own.from (own_blk _ _ _ _) _) (Own.from (own_blk _ _ _ _) _)))) (ownFrom_below (Nat.le_refl _) (by omega)))
  case hIx =>
    rintro k pre A B row ⟨p, x, h1, h2, h3, h4, h5, h6, h7⟩ hg hr
    have o1 := own_blk (w.heap.size + 1) #[.int .i64 x.1] 3 (0, 0) () A B row h5 hg (fun r e => (hr r e).2)
    have o2 := own_blk (w.heap.size + 2) _ 68 (0, 0) () A B row h6 hg (fun r e => (hr r e).2)
    exact ⟨p, x, h1, h2, h3, h4, o1, o2, ownFrom_below (β := Unit) (Nat.le_refl _) (show w.heap.size ≤ W0.heap.size by omega) () A B row h7 hg hr⟩
  case h0 => exact ⟨by simp, ⟨k0, k1, k2, k3⟩, hB0⟩
  case hAx =>
    rintro x a' _ A B row ⟨Bx, h1, h2, h3⟩ hg hr
    exact ⟨Bx, h1, own_blk Bx _ 68 (0, 0) () A B row h2 hg (fun r e => (hr r e).2), h3⟩
  case assign =>
    rintro l pre ⟨k, r⟩ W K ⟨hp, ⟨a0, a1, a2, a3⟩, hB⟩ hK
    dsimp only [encF, rfA] at *
    have hbz := hB.size
    have hw0 := lt_of_block a3
    gi_wp2
    refine hK _ _ ((KeepsOthers.alloc _ _).from _) ?_ ⟨hp, ⟨?_, ?_, ?_, ?_⟩, ?_⟩ ⟨W.heap.size, ?_, ?_, rfl⟩
    · exact (Below.refl _ W).alloc (Nat.le_trans (Nat.le_of_eq hsz) (by omega)) _
    · exact (Below.heap_alloc _ _ _ (lt_of_block a0)).trans a0
    · exact (Below.heap_alloc _ _ _ (lt_of_block a1)).trans a1
    · exact (Below.heap_alloc _ _ _ (lt_of_block a2)).trans a2
    · exact (Below.heap_alloc _ _ _ hw0).trans a3
    · exact hB.alloc hbz _
    · exact hw0
    · exact heap_alloc_new _ _
  case body =>
    rintro l pre ⟨k, r⟩ a' W hl ⟨o, ho⟩ ⟨hp, ⟨a0, a1, a2, a3⟩, hB⟩ ⟨Bx, hBx, aX, rfl⟩ hlen
    obtain ⟨⟨x0, x1, x2, x3, x4⟩, _⟩ := fresh_fr aX
    have y0 : W.cell? ⟨w.heap.size, 0, none⟩ = some (.func (.func 62) #[] #[]) := by simp [World.cell?, a0]
    have hwr := hw r W
    dsimp only [encF, rfA] at *
    have HB := Lib.hid hB
    have HP := Lib.hid hp
    have HA0 := Lib.hid a0
    have HA1 := Lib.hid a1
    have HA2 := Lib.hid a2
    have HA3 := Lib.hid a3
    have HAX := Lib.hid aX
    have z1 : W.cell? ⟨w.heap.size + 1, 0, none⟩ = some (.int .i64 0) := by simp [World.cell?, a1]
    cases hq : qName r with
    | false =>
      rw [hq] at hwr
      have HW := Lib.hid hwr
      have HQ := Lib.hid hq
      clear hwr hB hp hw hK hKW hb3 hlen hq a0 a1 a2 a3 aX z1
      gi_wp2_with ((refine ⟨trivial, ?_⟩; gi_at_call 62; refine (CallsIn.inRound l (callsIn_wide.2 HW.out)).mono ?_; rintro e w1 ⟨rfl, hb1⟩))
      refine ⟨keeps_below hb1, hb1.mono (Nat.le_trans hl (Nat.le_of_lt (lt_of_block ho))), ⟨fun y hy => ?_, ⟨(hb1.block _ (lt_of_block HA0.out)).trans HA0.out, (hb1.block _ (lt_of_block HA1.out)).trans HA1.out, (hb1.block _ (lt_of_block HA2.out)).trans HA2.out, (hb1.block _ (lt_of_block HA3.out)).trans HA3.out⟩, HB.out.trans (hb1.mono HB.out.size)⟩⟩
      rcases List.mem_append.1 hy with hy | hy
      · exact HP.out y hy
      · simp only [List.mem_cons, List.not_mem_nil, or_false] at hy
        subst hy
        exact HQ.out
    | true =>
      rw [hq] at hwr
      have HW := Lib.hid hwr
      have HQ := Lib.hid hq
      clear hwr hB hp hw hK hKW hb3 hlen hq a0 a1 a2 a3 aX
      gi_wp2_with ((refine ⟨trivial, ?_⟩; gi_at_call 62; refine (CallsIn.inRound l (callsIn_wide.2 HW.out)).mono ?_; rintro e w1 ⟨rfl, hb1⟩
                    have HB1 := Lib.hid hb1
                    have u0 := (hb1.block _ (lt_of_block HAX.out)).trans HAX.out
                    have u1 := (hb1.block _ (lt_of_block HA1.out)).trans HA1.out
                    have u2 := (hb1.block _ (lt_of_block HA2.out)).trans HA2.out
                    obtain ⟨⟨p0, p1, p2, p3, p4⟩, _⟩ := fresh_fr u0
                    obtain ⟨⟨q0, q1, q2, q3, q4⟩, f0, f1, f2, f3, f4⟩ := fresh_fr u2
                    have s0 : w1.cell? ⟨w.heap.size + 1, 0, none⟩ = some (.int .i64 0) := by simp [World.cell?, u1]
                    have s1 : w1.frozen? ⟨w.heap.size + 1, 0, none⟩ = false := by simp [World.frozen?, u1]
                    clear hb1))
      have hA := topA (k := (k : Int)) (r := r) u1 u2 (by omega)
      have hB := topB (k := (k : Int)) (r := r) u1 u2 (by omega)
      have HA := Lib.hid hA
      have HBB := Lib.hid hB
      clear hA hB
      gi_region_with_o (fail)
      all_goals
        gi_wp2
        first
          | exact ⟨(keeps_below HB1.out).trans (HA.out.1.from _), pre, (k, r), rfl, rfl, HP.out, HQ.out, HA.out.2.1, HA.out.2.2.1, HB.out.trans ((HB1.out.mono HB.out.size).trans (HA.out.2.2.2 _ (Nat.le_add_right _ _) (Nat.le_add_right _ _)))⟩
          | exact ⟨(keeps_below HB1.out).trans (HBB.out.1.from _), pre, (k, r), rfl, rfl, HP.out, HQ.out, HBB.out.2.1, HBB.out.2.2.1, HB.out.trans ((HB1.out.mono HB.out.size).trans (HBB.out.2.2.2 _ (Nat.le_add_right _ _) (Nat.le_add_right _ _)))⟩
  case done =>
    rintro D ys W hD rfl ⟨hp, ⟨a0, a1, a2, a3⟩, hB⟩ hDf
    have hz0 : topQ qName [] ([] : List RF).length = 0 := down_none qName [] 0 (Nat.le_refl _) hp
    have s0 : W.cell? ⟨w.heap.size + 1, 0, none⟩ = some (.int .i64 0) := by simp [World.cell?, a1]
    have s1 : W.frozen? ⟨w.heap.size + 1, 0, none⟩ = false := by simp [World.frozen?, a1]
    obtain ⟨⟨q0, q1, q2, q3, q4⟩, f0, f1, f2, f3, f4⟩ := fresh_fr a2
    have hA := topC a1 a2 (by omega)
    have HA := Lib.hid hA
    have HZ := Lib.hid hz0
    have HB := Lib.hid hB
    have HD := Lib.hid hDf
    clear hA hz0 hB hDf hp hw hK hKW hb3 a0 a1 a2 a3
    gi_wp2
    have hD5 := HA.out.1.same D _ HD.out rfl
    refine ⟨by simp, .inl ⟨_, _, rfl, run_takeDeferred hD5, ?_⟩⟩
    refine ⟨_, top_end rfl rfl rfl ((World.putObj_heap_other (by omega)).trans HA.out.2.1) ((World.putObj_heap_other (by omega)).trans HA.out.2.2.1), ?_, ?_⟩
    · rw [HZ.out]; rfl
    · exact HB.out.trans ((HA.out.2.2.2 _ (Nat.le_add_right _ _) (Nat.le_add_right _ _)).trans (belowK_b (w := W0) (by omega) _ D _ _ hD hD5 rfl rfl))
  case stop =>
    rintro D k pre W hD hpre ⟨p, x, rfl, rfl, h3, h4, h5, h6, h7⟩ hDf
    have hf : topQ qName [] ([] : List RF).length = x.1 + 1 ∧ ([] : List RF)[x.1]? = some x.2 := down_found qName [] 0 (Nat.le_refl _) p x hpre h3 h4
    have HF := Lib.hid hf
    have HD := Lib.hid hDf
    clear hf
    gi_wp2
    refine ⟨by simp, .inl ⟨_, _, rfl, run_takeDeferred HD.out, ?_⟩⟩
    refine ⟨_, top_end rfl rfl rfl ((World.putObj_heap_other (by omega)).trans h5) ((World.putObj_heap_other (by omega)).trans h6), ?_, ?_⟩
    · rw [HF.out.1]
      have hg : gotR [] (x.1 + 1) = x.2 := by unfold gotR; rw [if_neg (by omega), Nat.add_sub_cancel, HF.out.2]; rfl
      rw [hg]
      have hi : ((x.1 + 1 : Nat) : Int) - 1 = (x.1 : Int) := by omega
      rw [hi]
    · exact h7.trans (belowK_b (w := W0) (by omega) _ D _ _ hD HD.out rfl rfl)
theorem topno_hasName {q : Option Addr} {w : World} (hK : No w q) : Calls Tryd.prog 50 #[.pointer q, .func (.func 62) #[] #[]] w (TopP qName [] w) :=
  callsIn_wide.1 (topno_hasName_ hK)
end Go.Proofs.YtfmlokkkhfnglaaDoor
/- A stack that is nil or was not made: what each deed says. -/
namespace Go.Proofs.YtfmlokkkhfnglaaDoor
open Go.RowKit
set_option maxRecDepth 100000
set_option linter.unusedSimpArgs false
set_option linter.unusedVariables false
abbrev LZ : Value := .agg #[.string ⟨#[]⟩, .bool false, .int .i64 0, .int .i64 0, .slice none 0 0]
abbrev NP (v : Value) (w : World) : Ending → World → Prop := fun e w' => e = .returned v ∧ Below w.heap.size w w'
theorem File_no {q : Option Addr} {w : World} (h : No w q) (nm s : ByteArray) (hs : s.size ≤ 1000000) : Calls Tryd.prog 19 #[.pointer q, .string nm, .string s] w (NP (.int .i64 1) w) := by
  have hfl := file_any nm s hs w
  unfold FileP at hfl
  change Calls _ _ _ _ (fun e w' => ∃ r, e = .returned (.tuple #[rfA r, .bool (okF nm s)]) ∧ (okF nm s = true → RfIs (Tg w') w' r (fileFr nm s)) ∧ Below w.heap.size w w') at hfl
  have H := Lib.hid h
  have HFL := Lib.hid hfl
  clear h hfl
  generalize okF nm s = t at *
  go_enter Tryd.func19, Tryd.ntmps19
  go_wp2_with fail
  refine HFL.out.mono ?_
  rintro e w1 ⟨r, rfl, _, hb1⟩
  have hb2 := hb1.alloc hb1.size (.cells #[.int .i64 r.kd, .string r.nm, .slice r.lo r.ln r.lc, .slice r.ao r.an r.ac, .int .i64 r.tk] 68)
  have HB2 := Lib.hid hb2
  have HM := Lib.hid (made_no (H.out.below hb2))
  clear hb1 hb2
  go_wp2_with fail
  refine HM.out.mono ?_
  rintro e w3 ⟨rfl, rfl⟩
  go_wp2_with fail
  go_ret
  exact ⟨rfl, HB2.out⟩
theorem Instead_no {q : Option Addr} {w : World} (h : No w q) (nm s : ByteArray) (hs : s.size ≤ 1000000) : Calls Tryd.prog 32 #[.pointer q, .string nm, .string s] w (NP (.int .i64 1) w) := by
  have hfl := file_any nm s hs w
  unfold FileP at hfl
  change Calls _ _ _ _ (fun e w' => ∃ r, e = .returned (.tuple #[rfA r, .bool (okF nm s)]) ∧ (okF nm s = true → RfIs (Tg w') w' r (fileFr nm s)) ∧ Below w.heap.size w w') at hfl
  have H := Lib.hid h
  have HFL := Lib.hid hfl
  clear h hfl
  generalize okF nm s = t at *
  go_enter Tryd.func32, Tryd.ntmps32
  go_wp2_with fail
  refine HFL.out.mono ?_
  rintro e w1 ⟨r, rfl, _, hb1⟩
  have hb2 := hb1.alloc hb1.size (.cells #[.int .i64 r.kd, .string r.nm, .slice r.lo r.ln r.lc, .slice r.ao r.an r.ac, .int .i64 r.tk] 68)
  have HB2 := Lib.hid hb2
  have HM := Lib.hid (made_no (H.out.below hb2))
  clear hb1 hb2
  go_wp2_with fail
  refine HM.out.mono ?_
  rintro e w3 ⟨rfl, rfl⟩
  go_wp2_with fail
  go_ret
  exact ⟨rfl, HB2.out⟩
theorem Macro_no {q : Option Addr} {w : World} (h : No w q) (nm : ByteArray) (A B : Option Addr) (n c m e : Nat) : Calls Tryd.prog 23 #[.pointer q, .string nm, .slice A n c, .slice B m e] w (NP (.int .i64 1) w) := by
  have HM := Lib.hid (made_no h)
  clear h
  go_enter Tryd.func23, Tryd.ntmps23
  go_wp2_with fail
  refine HM.out.mono ?_
  rintro e w3 ⟨rfl, rfl⟩
  go_wp2_with fail
  go_ret
  exact ⟨rfl, Below.refl _ _⟩
theorem Wait_no {q : Option Addr} {w : World} (h : No w q) (A : Option Addr) (n c : Nat) : Calls Tryd.prog 24 #[.pointer q, .slice A n c] w (NP (.int .i64 1) w) := by
  have HM := Lib.hid (made_no h)
  clear h
  go_enter Tryd.func24, Tryd.ntmps24
  go_wp2_with fail
  refine HM.out.mono ?_
  rintro e w3 ⟨rfl, rfl⟩
  go_wp2_with fail
  go_ret
  exact ⟨rfl, Below.refl _ _⟩
theorem Return_no {q : Option Addr} {w : World} (h : No w q) (b : Bool) : Calls Tryd.prog 31 #[.pointer q, .bool b] w (NP (.int .i64 1) w) := by
  have HM := Lib.hid (made_no h)
  clear h
  go_enter Tryd.func31, Tryd.ntmps31
  go_wp2_with fail
  refine HM.out.mono ?_
  rintro e w3 ⟨rfl, rfl⟩
  go_wp2_with fail
  go_ret
  exact ⟨rfl, Below.refl _ _⟩
theorem Shift_no {q : Option Addr} {w : World} (h : No w q) (n : Int) : Calls Tryd.prog 33 #[.pointer q, .int .i64 n] w (NP (.int .i64 1) w) := by
  have HM := Lib.hid (made_no h)
  clear h
  go_enter Tryd.func33, Tryd.ntmps33
  go_wp2_with fail
  refine HM.out.mono ?_
  rintro e w3 ⟨rfl, rfl⟩
  go_wp2_with fail
  go_ret
  exact ⟨rfl, Below.refl _ _⟩
theorem Depth_no {q : Option Addr} {w : World} (h : No w q) : Calls Tryd.prog 17 #[.pointer q] w (NP (.int .i64 0) w) := by
  have HM := Lib.hid (made_no h)
  clear h
  go_enter Tryd.func17, Tryd.ntmps17
  go_wp2_with fail
  refine HM.out.mono ?_
  rintro e w3 ⟨rfl, rfl⟩
  go_wp2_with fail
  go_ret
  exact ⟨rfl, Below.refl _ _⟩
theorem Copy_no {q : Option Addr} {w : World} (h : No w q) : Calls Tryd.prog 25 #[.pointer q] w (NP (.pointer none) w) := by
  have HM := Lib.hid (made_no h)
  clear h
  go_enter Tryd.func25, Tryd.ntmps25
  go_wp2_with fail
  refine HM.out.mono ?_
  rintro e w3 ⟨rfl, rfl⟩
  go_wp2_with fail
  go_ret
  exact ⟨rfl, Below.refl _ _⟩
theorem Line_no {q : Option Addr} {w : World} (h : No w q) : Calls Tryd.prog 27 #[.pointer q] w (NP (.int .i64 0) w) := by
  have HT := Lib.hid (topno_isFile h)
  clear h
  unfold TopP at HT
  go_enter Tryd.func27, Tryd.ntmps27
  go_wp2_with fail
  refine HT.out.mono ?_
  rintro e w1 ⟨rfl, hb1⟩
  have HB := Lib.hid (hb1.alloc hb1.size (.cells #[.int .i64 0, .string ⟨#[]⟩, .slice none 0 0, .slice none 0 0, .int .i64 0] 68))
  clear hb1
  go_wp2_with fail
  go_ret
  exact ⟨rfl, HB.out⟩
theorem Name_no {q : Option Addr} {w : World} (h : No w q) : Calls Tryd.prog 28 #[.pointer q] w (NP (.string ⟨#[]⟩) w) := by
  have HT := Lib.hid (topno_hasName h)
  clear h
  unfold TopP at HT
  go_enter Tryd.func28, Tryd.ntmps28
  go_wp2_with fail
  refine HT.out.mono ?_
  rintro e w1 ⟨rfl, hb1⟩
  have HB := Lib.hid (hb1.alloc hb1.size (.cells #[.int .i64 0, .string ⟨#[]⟩, .slice none 0 0, .slice none 0 0, .int .i64 0] 68))
  clear hb1
  go_wp2_with fail
  go_ret
  exact ⟨rfl, HB.out⟩
theorem Args_no {q : Option Addr} {w : World} (h : No w q) : Calls Tryd.prog 29 #[.pointer q] w fun e w' => (∃ A c, e = .returned (.slice A 0 c)) ∧ Below w.heap.size w w' := by
  have HT := Lib.hid (topno_isMacro h)
  clear h
  unfold TopP at HT
  go_enter Tryd.func29, Tryd.ntmps29
  go_wp2_with fail
  refine HT.out.mono ?_
  rintro e w1 ⟨rfl, hb1⟩
  have HB := Lib.hid (hb1.alloc hb1.size (.cells #[.int .i64 0, .string ⟨#[]⟩, .slice none 0 0, .slice none 0 0, .int .i64 0] 68))
  have HCL := Lib.hid (fun W => cloneStr_any (P := Lt W) (c := 0) (strs_none W) (fun _ => rfl) (by decide))
  clear hb1
  go_wp2_with fail
  refine (HCL.out _).mono ?_
  rintro e w3 ⟨⟨A, n, c', rfl, hs, h1, h2, h3⟩, hb3⟩
  obtain rfl : n = 0 := hs.len
  have HS := Lib.hid (HB.out.trans (hb3.mono HB.out.size))
  clear hs h1 h2 h3 hb3
  go_wp2_with fail
  go_ret
  exact ⟨⟨_, _, rfl⟩, HS.out⟩
end Go.Proofs.YtfmlokkkhfnglaaDoor
/- A deed: it comes to what it names. -/
namespace Go.Proofs.YtfmlokkkhfnglaaDoor
open Go.RowKit
set_option maxRecDepth 100000
set_option linter.unusedSimpArgs false
set_option linter.unusedVariables false
abbrev LZb : Obj := .cells #[.string ⟨#[]⟩, .bool false, .int .i64 0, .int .i64 0, .slice none 0 0] 31 (0, 0)
abbrev ddA (k : Int) (nm tx : ByteArray) (A : Option Addr) (n c : Nat) (B : Option Addr) (m e : Nat) (a : Int) : Array Value := #[.int .i64 k, .string nm, .string tx, .slice A n c, .slice B m e, .int .i64 a]
abbrev DV (k : Int) (nm tx : ByteArray) (A : Option Addr) (n c : Nat) (B : Option Addr) (m e : Nat) (a : Int) : Value := .agg (ddA k nm tx A n c B m e a)
theorem setCell_id {w : World} {g k : Nat} {v : Value} {cs : Array Value} {t : TypeId} {fz : Nat × Nat} (h : w.heap[g]? = some (.cells cs t fz)) (hk : cs[k]? = some v) : w.setCell ⟨g, k, none⟩ v = w := by
  have e1 : (w.setCell ⟨g, k, none⟩ v).heap = w.heap := by
    apply Array.ext_getElem?
    intro i
    simp only [World.setCell, Array.getElem?_modify]
    by_cases e : g = i
    · subst e
      rw [h, if_pos rfl]
      have e2 : cs.setIfInBounds k v = cs := by
        apply Array.ext_getElem?
        intro j
        rw [Array.getElem?_setIfInBounds]
        by_cases e : k = j
        · subst e
          rw [if_pos rfl]
          have := (Array.getElem?_eq_some_iff.1 hk).1
          rw [if_pos this, hk]
        · rw [if_neg e]
      simp [e2]
    · rw [if_neg e]
  have e3 : w.setCell ⟨g, k, none⟩ v = { w with heap := (w.setCell ⟨g, k, none⟩ v).heap } := rfl
  rw [e3, e1]
theorem lnW_id {w : World} {g : Nat} (h : w.heap[g]? = some LZb) : LnW w g ⟨#[]⟩ false 0 0 none 0 0 = w := by
  unfold LnW
  rw [setCell_id h rfl, setCell_id h rfl, setCell_id h rfl, setCell_id h rfl, setCell_id h rfl]
/-- Where the call that is named begins. -/
abbrev dw (w : World) (k : Int) (nm tx : ByteArray) (A : Option Addr) (n c : Nat) (B : Option Addr) (m e : Nat) (a : Int) : World :=
  (w.alloc (.cells (ddA k nm tx A n c B m e a) 38)).alloc (.cells #[.string ⟨#[]⟩, .bool false, .int .i64 0, .int .i64 0, .slice none 0 0] 31)
/-- A number comes back; the line that was made is as it was. -/
abbrev Nb (w : World) (R : Int → World → Prop) : Ending → World → Prop := fun e w' => ∃ x, e = .returned (.int .i64 x) ∧ w'.heap[w.heap.size + 1]? = some LZb ∧ R x w'
abbrev Nl (R : Int → World → Prop) : Ending → World → Prop := fun e w' => ∃ x, e = .returned (.tuple #[LZ, .int .i64 x]) ∧ R x w'
abbrev Tb (w : World) (R : RL → Int → World → Prop) : Ending → World → Prop := fun e w' => ∃ r x, e = .returned (.tuple #[lvA r, .int .i64 x]) ∧ w'.heap[w.heap.size + 1]? = some LZb ∧ R r x w'
abbrev Tl (w : World) (R : RL → Int → World → Prop) : Ending → World → Prop := fun e w' => ∃ r x w1, e = .returned (.tuple #[lvA r, .int .i64 x]) ∧ R r x w1 ∧ w1.heap[w.heap.size + 1]? = some LZb ∧ w' = LnW w1 (w.heap.size + 1) r.tx r.md r.up r.dn r.bo r.bn r.bc
theorem do_0 {q : Option Addr} {nm tx : ByteArray} {A : Option Addr} {n c : Nat} {B : Option Addr} {m e : Nat} {a : Int} {w : World} {R : Int → World → Prop} (h : Calls Tryd.prog 19 #[.pointer q, .string nm, .string tx] (dw w 0 nm tx A n c B m e a) (Nb w R)) :
    Calls Tryd.prog 13 #[.pointer q, DV 0 nm tx A n c B m e a] w (Nl R) := by
  have H := Lib.hid h
  clear h
  go_enter Tryd.func13, Tryd.ntmps13
  go_wp2_with fail
  refine H.out.mono ?_
  rintro e w1 ⟨x, rfl, hx, hr⟩
  have HR := Lib.hid hr
  have HX := Lib.hid hx
  obtain ⟨⟨p0, p1, p2, p3, p4⟩, q0, q1, q2, q3, q4⟩ := fresh_ln hx
  clear hr hx
  go_wp2_with fail
  have hlw := lnW_at (tx := ⟨#[]⟩) (md := false) (up := 0) (dn := 0) (o := none) (n := 0) (c := 0) HX.out
  refine lnerr_end (t := 4) (u := 5) (g := w.heap.size + 1) rfl rfl rfl rfl (by rw [← hlw]; rfl) ?_
  refine ⟨x, rfl, ?_⟩
  have hid := lnW_id HX.out
  unfold LnW at hid
  rw [hid]
  exact HR.out
theorem do_1 {q : Option Addr} {nm tx : ByteArray} {A : Option Addr} {n c : Nat} {B : Option Addr} {m e : Nat} {a : Int} {w : World} {R : Int → World → Prop} (h : Calls Tryd.prog 23 #[.pointer q, .string nm, .slice A n c, .slice B m e] (dw w 1 nm tx A n c B m e a) (Nb w R)) :
    Calls Tryd.prog 13 #[.pointer q, DV 1 nm tx A n c B m e a] w (Nl R) := by
  have H := Lib.hid h
  clear h
  go_enter Tryd.func13, Tryd.ntmps13
  go_wp2_with fail
  refine H.out.mono ?_
  rintro e w1 ⟨x, rfl, hx, hr⟩
  have HR := Lib.hid hr
  have HX := Lib.hid hx
  obtain ⟨⟨p0, p1, p2, p3, p4⟩, q0, q1, q2, q3, q4⟩ := fresh_ln hx
  clear hr hx
  go_wp2_with fail
  have hlw := lnW_at (tx := ⟨#[]⟩) (md := false) (up := 0) (dn := 0) (o := none) (n := 0) (c := 0) HX.out
  refine lnerr_end (t := 4) (u := 5) (g := w.heap.size + 1) rfl rfl rfl rfl (by rw [← hlw]; rfl) ?_
  refine ⟨x, rfl, ?_⟩
  have hid := lnW_id HX.out
  unfold LnW at hid
  rw [hid]
  exact HR.out
theorem do_2 {q : Option Addr} {nm tx : ByteArray} {A : Option Addr} {n c : Nat} {B : Option Addr} {m e : Nat} {a : Int} {w : World} {R : Int → World → Prop} (h : Calls Tryd.prog 24 #[.pointer q, .slice A n c] (dw w 2 nm tx A n c B m e a) (Nb w R)) :
    Calls Tryd.prog 13 #[.pointer q, DV 2 nm tx A n c B m e a] w (Nl R) := by
  have H := Lib.hid h
  clear h
  go_enter Tryd.func13, Tryd.ntmps13
  go_wp2_with fail
  refine H.out.mono ?_
  rintro e w1 ⟨x, rfl, hx, hr⟩
  have HR := Lib.hid hr
  have HX := Lib.hid hx
  obtain ⟨⟨p0, p1, p2, p3, p4⟩, q0, q1, q2, q3, q4⟩ := fresh_ln hx
  clear hr hx
  go_wp2_with fail
  have hlw := lnW_at (tx := ⟨#[]⟩) (md := false) (up := 0) (dn := 0) (o := none) (n := 0) (c := 0) HX.out
  refine lnerr_end (t := 4) (u := 5) (g := w.heap.size + 1) rfl rfl rfl rfl (by rw [← hlw]; rfl) ?_
  refine ⟨x, rfl, ?_⟩
  have hid := lnW_id HX.out
  unfold LnW at hid
  rw [hid]
  exact HR.out
theorem do_5 {q : Option Addr} {nm tx : ByteArray} {A : Option Addr} {n c : Nat} {B : Option Addr} {m e : Nat} {a : Int} {w : World} {R : Int → World → Prop} (h : Calls Tryd.prog 31 #[.pointer q, .bool (a.tmod 2 != 0)] (dw w 5 nm tx A n c B m e a) (Nb w R)) :
    Calls Tryd.prog 13 #[.pointer q, DV 5 nm tx A n c B m e a] w (Nl R) := by
  have H := Lib.hid h
  clear h
  go_enter Tryd.func13, Tryd.ntmps13
  go_wp2_with fail
  refine H.out.mono ?_
  rintro e w1 ⟨x, rfl, hx, hr⟩
  have HR := Lib.hid hr
  have HX := Lib.hid hx
  obtain ⟨⟨p0, p1, p2, p3, p4⟩, q0, q1, q2, q3, q4⟩ := fresh_ln hx
  clear hr hx
  go_wp2_with fail
  have hlw := lnW_at (tx := ⟨#[]⟩) (md := false) (up := 0) (dn := 0) (o := none) (n := 0) (c := 0) HX.out
  refine lnerr_end (t := 4) (u := 5) (g := w.heap.size + 1) rfl rfl rfl rfl (by rw [← hlw]; rfl) ?_
  refine ⟨x, rfl, ?_⟩
  have hid := lnW_id HX.out
  unfold LnW at hid
  rw [hid]
  exact HR.out
theorem do_6 {q : Option Addr} {nm tx : ByteArray} {A : Option Addr} {n c : Nat} {B : Option Addr} {m e : Nat} {a : Int} {w : World} {R : Int → World → Prop} (h : Calls Tryd.prog 32 #[.pointer q, .string nm, .string tx] (dw w 6 nm tx A n c B m e a) (Nb w R)) :
    Calls Tryd.prog 13 #[.pointer q, DV 6 nm tx A n c B m e a] w (Nl R) := by
  have H := Lib.hid h
  clear h
  go_enter Tryd.func13, Tryd.ntmps13
  go_wp2_with fail
  refine H.out.mono ?_
  rintro e w1 ⟨x, rfl, hx, hr⟩
  have HR := Lib.hid hr
  have HX := Lib.hid hx
  obtain ⟨⟨p0, p1, p2, p3, p4⟩, q0, q1, q2, q3, q4⟩ := fresh_ln hx
  clear hr hx
  go_wp2_with fail
  have hlw := lnW_at (tx := ⟨#[]⟩) (md := false) (up := 0) (dn := 0) (o := none) (n := 0) (c := 0) HX.out
  refine lnerr_end (t := 4) (u := 5) (g := w.heap.size + 1) rfl rfl rfl rfl (by rw [← hlw]; rfl) ?_
  refine ⟨x, rfl, ?_⟩
  have hid := lnW_id HX.out
  unfold LnW at hid
  rw [hid]
  exact HR.out
theorem do_7 {q : Option Addr} {nm tx : ByteArray} {A : Option Addr} {n c : Nat} {B : Option Addr} {m e : Nat} {a : Int} {w : World} {R : Int → World → Prop} (h : Calls Tryd.prog 33 #[.pointer q, .int .i64 a] (dw w 7 nm tx A n c B m e a) (Nb w R)) :
    Calls Tryd.prog 13 #[.pointer q, DV 7 nm tx A n c B m e a] w (Nl R) := by
  have H := Lib.hid h
  clear h
  go_enter Tryd.func13, Tryd.ntmps13
  go_wp2_with fail
  refine H.out.mono ?_
  rintro e w1 ⟨x, rfl, hx, hr⟩
  have HR := Lib.hid hr
  have HX := Lib.hid hx
  obtain ⟨⟨p0, p1, p2, p3, p4⟩, q0, q1, q2, q3, q4⟩ := fresh_ln hx
  clear hr hx
  go_wp2_with fail
  have hlw := lnW_at (tx := ⟨#[]⟩) (md := false) (up := 0) (dn := 0) (o := none) (n := 0) (c := 0) HX.out
  refine lnerr_end (t := 4) (u := 5) (g := w.heap.size + 1) rfl rfl rfl rfl (by rw [← hlw]; rfl) ?_
  refine ⟨x, rfl, ?_⟩
  have hid := lnW_id HX.out
  unfold LnW at hid
  rw [hid]
  exact HR.out
theorem do_3 {q : Option Addr} {nm tx : ByteArray} {A : Option Addr} {n c : Nat} {B : Option Addr} {m e : Nat} {a : Int} {w : World} {R : RL → Int → World → Prop} (h : Calls Tryd.prog 20 #[.pointer q] (dw w 3 nm tx A n c B m e a) (Tb w R)) :
    Calls Tryd.prog 13 #[.pointer q, DV 3 nm tx A n c B m e a] w (Tl w R) := by
  have H := Lib.hid h
  clear h
  go_enter Tryd.func13, Tryd.ntmps13
  go_wp2_with fail
  refine H.out.mono ?_
  rintro e w1 ⟨⟨rt, rm, ru, rd, rb, rn, rc⟩, x, rfl, hx, hr⟩
  have HR := Lib.hid hr
  have HX := Lib.hid hx
  obtain ⟨⟨p0, p1, p2, p3, p4⟩, q0, q1, q2, q3, q4⟩ := fresh_ln hx
  clear hr hx
  go_wp2_with fail
  have hlw := lnW_at (tx := rt) (md := rm) (up := ru) (dn := rd) (o := rb) (n := rn) (c := rc) HX.out
  refine lnerr_end (t := 4) (u := 5) (g := w.heap.size + 1) rfl rfl rfl rfl hlw ?_
  exact ⟨⟨rt, rm, ru, rd, rb, rn, rc⟩, x, w1, rfl, HR.out, HX.out, rfl⟩
theorem do_4 {q : Option Addr} {nm tx : ByteArray} {A : Option Addr} {n c : Nat} {B : Option Addr} {m e : Nat} {a : Int} {w : World} {R : RL → Int → World → Prop} (h : Calls Tryd.prog 30 #[.pointer q] (dw w 4 nm tx A n c B m e a) (Tb w R)) :
    Calls Tryd.prog 13 #[.pointer q, DV 4 nm tx A n c B m e a] w (Tl w R) := by
  have H := Lib.hid h
  clear h
  go_enter Tryd.func13, Tryd.ntmps13
  go_wp2_with fail
  refine H.out.mono ?_
  rintro e w1 ⟨⟨rt, rm, ru, rd, rb, rn, rc⟩, x, rfl, hx, hr⟩
  have HR := Lib.hid hr
  have HX := Lib.hid hx
  obtain ⟨⟨p0, p1, p2, p3, p4⟩, q0, q1, q2, q3, q4⟩ := fresh_ln hx
  clear hr hx
  go_wp2_with fail
  have hlw := lnW_at (tx := rt) (md := rm) (up := ru) (dn := rd) (o := rb) (n := rn) (c := rc) HX.out
  refine lnerr_end (t := 4) (u := 5) (g := w.heap.size + 1) rfl rfl rfl rfl hlw ?_
  exact ⟨⟨rt, rm, ru, rd, rb, rn, rc⟩, x, w1, rfl, HR.out, HX.out, rfl⟩
end Go.Proofs.YtfmlokkkhfnglaaDoor
/- Next, Peek of a stack that is none; two lines that are the same. -/
namespace Go.Proofs.YtfmlokkkhfnglaaDoor
open Go.RowKit
set_option maxRecDepth 100000
set_option linter.unusedSimpArgs false
set_option linter.unusedVariables false
theorem Next_no {q : Option Addr} {w : World} (h : No w q) : Calls Tryd.prog 20 #[.pointer q] w (NP (.tuple #[LZ, .int .i64 1]) w) := by
  have hb0 := (Below.refl w.heap.size w).alloc (Nat.le_refl _) (.cells #[.string ⟨#[]⟩, .bool false, .int .i64 0, .int .i64 0, .slice none 0 0] 31)
  have HM := Lib.hid (made_no (h.below hb0))
  have HX0 := Lib.hid (heap_alloc_new w (.cells #[.string ⟨#[]⟩, .bool false, .int .i64 0, .int .i64 0, .slice none 0 0] 31))
  have HB0 := Lib.hid hb0
  clear hb0 h
  go_enter Tryd.func20, Tryd.ntmps20
  go_wp2_with fail
  refine HM.out.mono ?_
  rintro e w1 ⟨rfl, rfl⟩
  have hx := HX0.out
  obtain ⟨⟨p0, p1, p2, p3, p4⟩, q0, q1, q2, q3, q4⟩ := fresh_ln hx
  clear hx
  go_wp2_with fail
  have hlw := lnW_at (tx := ⟨#[]⟩) (md := false) (up := 0) (dn := 0) (o := none) (n := 0) (c := 0) HX0.out
  refine lnerr_end (t := 2) (u := 3) (g := w.heap.size) rfl rfl rfl rfl (by first | exact HX0.out | (rw [← hlw]; rfl)) ?_
  exact ⟨rfl, HB0.out⟩
theorem Peek_no {q : Option Addr} {w : World} (h : No w q) : Calls Tryd.prog 30 #[.pointer q] w (NP (.tuple #[LZ, .int .i64 1]) w) := by
  have hb0 := (Below.refl w.heap.size w).alloc (Nat.le_refl _) (.cells #[.string ⟨#[]⟩, .bool false, .int .i64 0, .int .i64 0, .slice none 0 0] 31)
  have HM := Lib.hid (made_no (h.below hb0))
  have HX0 := Lib.hid (heap_alloc_new w (.cells #[.string ⟨#[]⟩, .bool false, .int .i64 0, .int .i64 0, .slice none 0 0] 31))
  have HB0 := Lib.hid hb0
  clear hb0 h
  go_enter Tryd.func30, Tryd.ntmps30
  go_wp2_with fail
  refine HM.out.mono ?_
  rintro e w1 ⟨rfl, rfl⟩
  have hx := HX0.out
  obtain ⟨⟨p0, p1, p2, p3, p4⟩, q0, q1, q2, q3, q4⟩ := fresh_ln hx
  clear hx
  go_wp2_with fail
  have hlw := lnW_at (tx := ⟨#[]⟩) (md := false) (up := 0) (dn := 0) (o := none) (n := 0) (c := 0) HX0.out
  refine lnerr_end (t := 2) (u := 3) (g := w.heap.size) rfl rfl rfl rfl (by first | exact HX0.out | (rw [← hlw]; rfl)) ?_
  exact ⟨rfl, HB0.out⟩
theorem ln_one {w : World} {b : Nat} {r : RL} {l : Ln} (h : w.heap[b]? = some (.cells #[.string r.tx, .bool r.md, .int .i64 r.up, .int .i64 r.dn, .slice r.bo r.bn r.bc] 31 (0, 0))) (hr : RlIs (Lt w) w r l) : LnsAt (Lt w) w (some ⟨b, 0, none⟩) 1 [l] := by
  refine ⟨⟨[r], ⟨rfl, fun _ => ⟨b, 0, rfl, lt_of_block h, fun j u hu => ?_⟩⟩, rfl, fun i x y hx hy => ?_⟩, rfl⟩
  · have e : [r].flatMap rlCs = (#[.string r.tx, .bool r.md, .int .i64 r.up, .int .i64 r.dn, .slice r.bo r.bn r.bc] : Array Value).toList := rfl
    rw [e, Array.getElem?_toList] at hu
    simp only [World.cell?, h, Nat.zero_add]
    exact hu
  · cases i with
    | zero =>
      simp only [List.getElem?_cons_zero, Option.some.injEq] at hx hy
      subst hx hy
      exact hr
    | succ i => simp at hx
theorem RlIs.lt {w w' : World} {r : RL} {l : Ln} (h : RlIs (Lt w) w r l) (k : Below w.heap.size w w') : RlIs (Lt w') w' r l := h.keep fun _ _ b hb => ⟨k.block b hb, Nat.lt_of_lt_of_le hb k.size⟩
theorem RlIs.tglt {w : World} {r : RL} {l : Ln} (h : RlIs (Tg w) w r l) : RlIs (Lt w) w r l := h.keep fun _ _ b hb => ⟨rfl, hb.lt⟩
/-- Lines that say the same are the same. -/
theorem line_eq {w : World} {r r' : RL} {l : Ln} (h : RlIs (Lt w) w r l) (h' : RlIs (Lt w) w r' l) : Calls Tryd.prog 15 #[lvA r, lvA r'] w (NP (.bool true) w) := by
  obtain ⟨k0, k1, k2, k3, hb⟩ := four_alloc w #[.string r.tx, .bool r.md, .int .i64 r.up, .int .i64 r.dn, .slice r.bo r.bn r.bc] #[.string r'.tx, .bool r'.md, .int .i64 r'.up, .int .i64 r'.dn, .slice r'.bo r'.bn r'.bc] #[.string r.tx, .bool r.md, .int .i64 r.up, .int .i64 r.dn, .slice r.bo r.bn r.bc] #[.string r'.tx, .bool r'.md, .int .i64 r'.up, .int .i64 r'.dn, .slice r'.bo r'.bn r'.bc] 31 31 31 31
  have hs := sameLines_eq (c := 1) (c' := 1) (ln_one k2 (h.lt hb)) (ln_one k3 (h'.lt hb)) (fun _ _ hb => hb) (fun _ _ hb => hb) (by decide)
  have HS := Lib.hid hs
  have HB := Lib.hid hb
  obtain ⟨tx, md, up, dn, bo, bn, bc⟩ := r
  obtain ⟨tx', md', up', dn', bo', bn', bc'⟩ := r'
  clear h h' k0 k1 k2 k3 hs hb
  dsimp only [lvA] at *
  go_enter Tryd.func15, Tryd.ntmps15
  go_wp2_with fail
  refine HS.out.mono ?_
  rintro e w1 ⟨rfl, hb1⟩
  have HB1 := Lib.hid (HB.out.trans (hb1.mono HB.out.size))
  clear hb1
  go_wp2_with fail
  go_ret
  exact ⟨rfl, HB1.out⟩
end Go.Proofs.YtfmlokkkhfnglaaDoor
/- The law SourceNothing: its walk. -/
namespace Go.Proofs.YtfmlokkkhfnglaaDoor
open Go.RowKit
set_option maxRecDepth 100000
set_option linter.unusedSimpArgs false
set_option linter.unusedVariables false
theorem do_no {q : Option Addr} {nm tx : ByteArray} {A : Option Addr} {n c : Nat} {B : Option Addr} {m e : Nat} {a : Int} {w : World} (h : No w q) (k : Int) (htx : tx.size ≤ 1000000)
    (hk : k = 0 ∨ k = 1 ∨ k = 2 ∨ k = 3 ∨ k = 4 ∨ k = 5 ∨ k = 6 ∨ k = 7) : Calls Tryd.prog 13 #[.pointer q, DV k nm tx A n c B m e a] w (NP (.tuple #[LZ, .int .i64 1]) w) := by
  have key : ∀ (k : Int) (v : Value) (e2 : Ending) (w' : World), NP v (dw w k nm tx A n c B m e a) e2 w' → e2 = .returned v ∧ w'.heap[w.heap.size + 1]? = some LZb ∧ Below w.heap.size w w' := by
    rintro k v e2 w' ⟨he, hb⟩
    obtain ⟨_, h1, h2⟩ := two_alloc w (ddA k nm tx A n c B m e a) #[.string ⟨#[]⟩, .bool false, .int .i64 0, .int .i64 0, .slice none 0 0] 38 31
    exact ⟨he, (hb.block _ (lt_of_block h1)).trans h1, h2.trans (hb.mono h2.size)⟩
  have hno : ∀ k, No (dw w k nm tx A n c B m e a) q := fun k => h.below (two_alloc w (ddA k nm tx A n c B m e a) #[.string ⟨#[]⟩, .bool false, .int .i64 0, .int .i64 0, .slice none 0 0] 38 31).2.2
  have k1 : ∀ k e2 w', NP (.int .i64 1) (dw w k nm tx A n c B m e a) e2 w' → Nb w (fun x w' => x = 1 ∧ Below w.heap.size w w') e2 w' := fun k e2 w' h => ⟨1, (key k _ e2 w' h).1, (key k _ e2 w' h).2.1, rfl, (key k _ e2 w' h).2.2⟩
  have k2 : ∀ k e2 w', NP (.tuple #[LZ, .int .i64 1]) (dw w k nm tx A n c B m e a) e2 w' → Tb w (fun r x w' => r = RL0 ∧ x = 1 ∧ Below w.heap.size w w') e2 w' := fun k e2 w' h => ⟨RL0, 1, (key k _ e2 w' h).1, (key k _ e2 w' h).2.1, rfl, rfl, (key k _ e2 w' h).2.2⟩
  have f1 : ∀ e2 w', Nl (fun x w' => x = 1 ∧ Below w.heap.size w w') e2 w' → NP (.tuple #[LZ, .int .i64 1]) w e2 w' := by
    rintro e2 w' ⟨x, he, rfl, hb⟩
    exact ⟨he, hb⟩
  have f2 : ∀ e2 w', Tl w (fun r x w' => r = RL0 ∧ x = 1 ∧ Below w.heap.size w w') e2 w' → NP (.tuple #[LZ, .int .i64 1]) w e2 w' := by
    rintro e2 w' ⟨r, x, w1, he, ⟨rfl, rfl, hb⟩, hz, hw⟩
    have hid := lnW_id hz
    rw [hid] at hw
    exact ⟨he, by rw [hw]; exact hb⟩
  rcases hk with rfl | rfl | rfl | rfl | rfl | rfl | rfl | rfl
  · exact (do_0 ((File_no (hno 0) nm tx htx).mono (k1 0))).mono f1
  · exact (do_1 ((Macro_no (hno 1) nm A B n c m e).mono (k1 1))).mono f1
  · exact (do_2 ((Wait_no (hno 2) A n c).mono (k1 2))).mono f1
  · exact (do_3 ((Next_no (hno 3)).mono (k2 3))).mono f2
  · exact (do_4 ((Peek_no (hno 4)).mono (k2 4))).mono f2
  · exact (do_5 ((Return_no (hno 5) _).mono (k1 5))).mono f1
  · exact (do_6 ((Instead_no (hno 6) nm tx htx).mono (k1 6))).mono f1
  · exact (do_7 ((Shift_no (hno 7) a).mono (k1 7))).mono f1
theorem dd_cells {w : World} {g : Nat} {k : Int} {nm tx : ByteArray} {A : Option Addr} {n c : Nat} {B : Option Addr} {m e : Nat} {a : Int} {t : TypeId} (h : w.heap[g]? = some (.cells (ddA k nm tx A n c B m e a) t (0, 0))) :
    w.cell? ⟨g, 0, none⟩ = some (.int .i64 k) ∧ w.cell? ⟨g, 1, none⟩ = some (.string nm) ∧ w.cell? ⟨g, 2, none⟩ = some (.string tx) ∧ w.cell? ⟨g, 3, none⟩ = some (.slice A n c) ∧ w.cell? ⟨g, 4, none⟩ = some (.slice B m e) ∧ w.cell? ⟨g, 5, none⟩ = some (.int .i64 a) ∧ w.frozen? ⟨g, 0, none⟩ = false := by
  simp [World.cell?, World.frozen?, h]
theorem reads_one {w : World} {g : Nat} {d : Dd} {t : TypeId} (h : w.heap[g]? = some (.cells (ddA d.k d.nm d.tx d.A d.n d.c d.B d.m d.e d.a) t (0, 0))) : ReadsP (fun b => b < w.heap.size) w 6 (some ⟨g, 0, none⟩) 1 ([d].flatMap ddCs) := by
  refine ⟨rfl, fun _ => ⟨g, 0, rfl, lt_of_block h, fun j u hu => ?_⟩⟩
  have e : [d].flatMap ddCs = (ddA d.k d.nm d.tx d.A d.n d.c d.B d.m d.e d.a).toList := rfl
  rw [e, Array.getElem?_toList] at hu
  simp only [World.cell?, h, Nat.zero_add]
  exact hu
theorem mod8 (k : Int) : ∃ q : Int, wrap64 ((IntKind.u64.wrap k).tmod 8) = q ∧ (q = 0 ∨ q = 1 ∨ q = 2 ∨ q = 3 ∨ q = 4 ∨ q = 5 ∨ q = 6 ∨ q = 7) := by
  have h0 : 0 ≤ IntKind.u64.wrap k := by rw [IntKind.wrap_u64]; exact Int.emod_nonneg _ (by decide)
  have h2 : (IntKind.u64.wrap k).tmod 8 = (IntKind.u64.wrap k) % 8 := Int.tmod_eq_emod_of_nonneg h0
  have h3 := Int.emod_nonneg (IntKind.u64.wrap k) (show (8 : Int) ≠ 0 by decide)
  have h4 := Int.emod_lt_of_pos (IntKind.u64.wrap k) (show (0 : Int) < 8 by decide)
  refine ⟨_, rfl, ?_⟩
  rw [h2, IntWalk.wrap64_in _ (by omega)]
  omega
/-- What the rounds find: the deed, the two stacks, the slice of them. -/
structure Nt (B0 B1 : Nat) (q : Int) (nm tx : ByteArray) (A : Option Addr) (n c : Nat) (B : Option Addr) (m e : Nat) (a : Int) (w : World) : Prop where
  dd : w.heap[B0]? = some (.cells (ddA q nm tx A n c B m e a) 38 (0, 0))
  zero : w.heap[B1]? = some (.cells #[.slice none 0 0] 56 (0, 0))
  list : w.heap[B1 + 1]? = some (.cells #[.pointer none, BP B1] 25 (0, 0))
section
variable {B0 B1 : Nat} {q : Int} {nm tx : ByteArray} {A : Option Addr} {n c : Nat} {B : Option Addr} {m e : Nat} {a : Int}
theorem Nt.below {w w' : World} (h : Nt B0 B1 q nm tx A n c B m e a w) (k : Below w.heap.size w w') : Nt B0 B1 q nm tx A n c B m e a w' :=
  ⟨(k.block _ (lt_of_block h.dd)).trans h.dd, (k.block _ (lt_of_block h.zero)).trans h.zero, (k.block _ (lt_of_block h.list)).trans h.list⟩
theorem Nt.ptr {w : World} (h : Nt B0 B1 q nm tx A n c B m e a w) (j : Nat) (hj : j < 2) : ∃ p, No w p ∧ w.cell? ⟨B1 + 1, j, none⟩ = some (.pointer p) := by
  rcases (show j = 0 ∨ j = 1 by omega) with rfl | rfl
  · exact ⟨_, .nil, by simp [World.cell?, h.list]⟩
  · exact ⟨_, .zero B1 h.zero, by simp [World.cell?, h.list]⟩
def NtR (w : World) (B1 : Nat) (q : Int) (nm tx : ByteArray) (A : Option Addr) (n c : Nat) (B : Option Addr) (m e : Nat) (a : Int) (k : Nat) (i : Value) (wr : World) : Prop :=
  ∃ j : Nat, k + j = 2 ∧ i = .int .i64 j ∧ Nt w.heap.size B1 q nm tx A n c B m e a wr ∧ Below w.heap.size w wr
theorem below_like {B : Nat} {w w1 W : World} (h : Below B w w1) (h1 : W.heap = w1.heap) (h2 : W.os = w1.os) (h3 : W.tape = w1.tape) (h4 : W.output = w1.output) : Below B w W :=
  ⟨h2.trans h.os, h3.trans h.tape, h4.trans h.output, by rw [h1]; exact h.size, fun k hk => by rw [h1]; exact h.block k hk⟩
theorem nt_start {w w1 : World} {k : Int} (hg : w1.heap[w.heap.size]? = some (.cells (ddA k nm tx A n c B m e a) 38 (0, 0))) (hb : Below w.heap.size w w1) :
    Nt w.heap.size w1.heap.size q nm tx A n c B m e a (((w1.setCell ⟨w.heap.size, 0, none⟩ (.int .i64 q)).alloc (.cells #[.slice none 0 0] 56)).alloc (.cells #[.pointer none, BP w1.heap.size] 25)) ∧ Below w.heap.size w (((w1.setCell ⟨w.heap.size, 0, none⟩ (.int .i64 q)).alloc (.cells #[.slice none 0 0] 56)).alloc (.cells #[.pointer none, BP w1.heap.size] 25)) := by
  have hz : (w1.setCell ⟨w.heap.size, 0, none⟩ (.int .i64 q)).heap.size = w1.heap.size := by simp [World.setCell]
  obtain ⟨h1, h2, h3⟩ := two_alloc (w1.setCell ⟨w.heap.size, 0, none⟩ (.int .i64 q)) #[.slice none 0 0] #[.pointer none, BP w1.heap.size] 56 25
  rw [hz] at h1 h2 h3
  have hs : Below w.heap.size w (w1.setCell ⟨w.heap.size, 0, none⟩ (.int .i64 q)) := hb.setCell (p := ⟨w.heap.size, 0, none⟩) (Nat.le_refl _) _
  refine ⟨⟨(h3.block _ (lt_of_block hg)).trans ?_, h1, h2⟩, hs.trans (h3.mono hb.size)⟩
  simp only [World.setCell, Array.getElem?_modify, hg]
  simp
theorem cs_of {j : Nat} {p : Value} {w : World} (h : Nt B0 B1 q nm tx A n c B m e a w) (hp : w.cell? ⟨B1 + 1, j, none⟩ = some p) :
    w.cell? ⟨B1 + 1, j, none⟩ = some p ∧ w.cell? ⟨B0, 0, none⟩ = some (.int .i64 q) ∧ w.cell? ⟨B0, 1, none⟩ = some (.string nm) ∧ w.cell? ⟨B0, 2, none⟩ = some (.string tx) ∧ w.cell? ⟨B0, 3, none⟩ = some (.slice A n c) ∧ w.cell? ⟨B0, 4, none⟩ = some (.slice B m e) ∧ w.cell? ⟨B0, 5, none⟩ = some (.int .i64 a) := by
  obtain ⟨h0, h1, h2, h3, h4, h5, _⟩ := dd_cells h.dd
  exact ⟨hp, h0, h1, h2, h3, h4, h5⟩
theorem cs_below {j : Nat} {p : Value} {w w' : World} (hp : w.cell? ⟨B1 + 1, j, none⟩ = some p) (h : Nt B0 B1 q nm tx A n c B m e a w) (k : Below w.heap.size w w') :
    w'.cell? ⟨B1 + 1, j, none⟩ = some p ∧ w'.cell? ⟨B0, 0, none⟩ = some (.int .i64 q) ∧ w'.cell? ⟨B0, 1, none⟩ = some (.string nm) ∧ w'.cell? ⟨B0, 2, none⟩ = some (.string tx) ∧ w'.cell? ⟨B0, 3, none⟩ = some (.slice A n c) ∧ w'.cell? ⟨B0, 4, none⟩ = some (.slice B m e) ∧ w'.cell? ⟨B0, 5, none⟩ = some (.int .i64 a) :=
  cs_of (h.below k) ((k.cell (p := ⟨B1 + 1, j, none⟩) (lt_of_block h.list)).trans hp)
theorem do_likeA {k : Option Addr} {w W : World} (h : No w k) (htx : tx.size ≤ 1000000) (hq : q = 0 ∨ q = 1 ∨ q = 2 ∨ q = 3 ∨ q = 4 ∨ q = 5 ∨ q = 6 ∨ q = 7) (h1 : W.heap = w.heap) (h2 : W.os = w.os) (h3 : W.tape = w.tape) (h4 : W.output = w.output) :
    Calls Tryd.prog 13 #[.pointer k, DV q nm tx A n c B m e a] W fun e2 w' => e2 = .returned (.tuple #[LZ, .int .i64 1]) ∧ Below w.heap.size w w' :=
  (do_no (h.heap h1) q htx hq).mono fun _ _ ⟨he, hb⟩ => ⟨he, (below_like (Below.refl _ w) h1 h2 h3 h4).trans (hb.mono (by rw [h1]; exact Nat.le_refl _))⟩
theorem do_likeB {k : Option Addr} {w W : World} (h : No w k) (htx : tx.size ≤ 1000000) (hq : q = 0 ∨ q = 1 ∨ q = 2 ∨ q = 3 ∨ q = 4 ∨ q = 5 ∨ q = 6 ∨ q = 7) (h1 : W.heap = (w.alloc (.cells #[.string ⟨#[]⟩, .bool false, .int .i64 0, .int .i64 0, .slice none 0 0] 31)).heap) (h2 : W.os = w.os) (h3 : W.tape = w.tape) (h4 : W.output = w.output) :
    Calls Tryd.prog 13 #[.pointer k, DV q nm tx A n c B m e a] W fun e2 w' => e2 = .returned (.tuple #[LZ, .int .i64 1]) ∧ w'.heap[w.heap.size]? = some LZb ∧ Below w.heap.size w w' := by
  have hb0 := (Below.refl w.heap.size w).alloc (Nat.le_refl _) (.cells #[.string ⟨#[]⟩, .bool false, .int .i64 0, .int .i64 0, .slice none 0 0] 31)
  have hx := heap_alloc_new w (.cells #[.string ⟨#[]⟩, .bool false, .int .i64 0, .int .i64 0, .slice none 0 0] 31)
  have hW : Below w.heap.size w W := below_like hb0 h1 h2 h3 h4
  refine (do_no (h.below hW) q htx hq).mono fun _ _ ⟨he, hb⟩ => ⟨he, ?_, hW.trans (hb.mono hW.size)⟩
  rw [← h1] at hx
  exact (hb.block _ (lt_of_block hx)).trans hx
end
theorem line_zero (W : World) : Calls Tryd.prog 15 #[LZ, LZ] W (NP (.bool true) W) := line_eq (r := RL0) (r' := RL0) (l := Ln0) (rl_none W) (rl_none W)
set_option maxHeartbeats 8000000 in
theorem law_nothing {w : World} (k : Int) (nm tx : ByteArray) (A : Option Addr) (n c : Nat) (B : Option Addr) (m e : Nat) (a : Int) (ls : List Ln) (ss : List ByteArray) (hd : DdOk w ⟨k, nm, tx, A, n, c, B, m, e, a, ls, ss⟩) :
    Calls Tryd.prog 8 #[DV k nm tx A n c B m e a] w fun e w' => e = .returned (.bool true) ∧ Below w.heap.size w w' := by
  have HD := Lib.hid hd
  clear hd
  go_enter Tryd.func8, Tryd.ntmps8
  go_wp2_with fail
  obtain ⟨hx0, hx1, hx2⟩ := two_alloc w (ddA k nm tx A n c B m e a) (ddA k nm tx A n c B m e a) 38 38
  have HX0 := Lib.hid hx0
  have HX2 := Lib.hid hx2
  refine (big_few (c := 1) _ 1 [⟨k, nm, tx, A, n, c, B, m, e, a, ls, ss⟩] rfl (by decide) (reads_one hx1) (fun d hd => by
    simp only [List.mem_cons, List.not_mem_nil, or_false] at hd
    subst hd
    exact HD.out.below hx2)).mono ?_
  rintro e2 w1 ⟨⟨t, rfl, hfew⟩, hb⟩
  have HB1 := Lib.hid (hx2.trans (hb.mono hx2.size))
  have hg := (hb.block _ (lt_of_block hx0)).trans hx0
  have HG := Lib.hid hg
  obtain ⟨c0, c1, c2, c3, c4, c5, fz⟩ := dd_cells hg
  obtain ⟨q, hq, hq8⟩ := mod8 k
  have HQ8 := Lib.hid hq8
  have HFEW := Lib.hid hfew
  clear hb hx0 hx1 hx2 hg hq8 hfew
  cases t with
  | true =>
    go_wp2_with fail
    refine (sane_any _).mono ?_
    rintro e w2 ⟨rfl, hb2⟩
    have HB2 := Lib.hid (HB1.out.trans (hb2.mono HB1.out.size))
    clear hb2
    go_wp2_with fail
    go_ret
    exact ⟨rfl, HB2.out⟩
  | false =>
    have htx : tx.size ≤ 1000000 := by
      have := ((HFEW.out rfl).2 _ (List.mem_cons_self ..)).2.2
      simp only at this
      omega
    have HTX := Lib.hid htx
    clear htx
    go_wp2_with fail
    clear hq
    go_loopg [5] 2 (fun k i wr => NtR w w1.heap.size q nm tx A n c B m e a k i wr)
    case atStart => exact ⟨0, rfl, rfl, (nt_start HG.out HB1.out).1, (nt_start HG.out HB1.out).2⟩
    case round =>
      obtain ⟨j, hk, rfl, hh, hb⟩ := hrel
      have HK := Lib.hid hk
      have HB := Lib.hid hb
      by_cases hj : j < 2
      · have dj : decide ((j : Int) < 2) = true := decide_eq_true (by omega)
        obtain ⟨p, hp, cp⟩ := hh.ptr j hj
        have hd := dd_cells hh.dd
        obtain ⟨e0, e1, e2, e3, e4, e5, _⟩ := hd
        have HH := Lib.hid hh
        have hj0 : (0 : Int) ≤ (j : Int) := by omega
        have hj2 : (j : Int) < 2 := by omega
        have HJ := Lib.hid hj
        have HP := Lib.hid hp
        have HCP := Lib.hid cp
        have CS := Lib.hid (And.intro cp (And.intro e0 (And.intro e1 (And.intro e2 (And.intro e3 (And.intro e4 e5))))))
        have HDoA := Lib.hid (fun (W : World) (h1 : W.heap = wr.heap) (h2 : W.os = wr.os) (h3 : W.tape = wr.tape) (h4 : W.output = wr.output) => do_likeA (A := A) (n := n) (c := c) (B := B) (m := m) (e := e) (a := a) (nm := nm) hp HTX.out HQ8.out h1 h2 h3 h4)
        have HDoB := Lib.hid (fun (W : World) h1 (h2 : W.os = wr.os) (h3 : W.tape = wr.tape) (h4 : W.output = wr.output) => do_likeB (A := A) (n := n) (c := c) (B := B) (m := m) (e := e) (a := a) (nm := nm) hp HTX.out HQ8.out h1 h2 h3 h4)
        have hne1 : w.heap.size ≠ wr.heap.size := Nat.ne_of_lt (lt_of_block hh.dd)
        have hne2 : w1.heap.size + 1 ≠ wr.heap.size := Nat.ne_of_lt (lt_of_block hh.list)
        clear hk hb hj hh hp c0 c1 c2 c3 c4 c5 fz
        go_wp2_with fail
        go_region_held3 (fun w' => w'.cell? ⟨w1.heap.size + 1, j, none⟩ = some (.pointer p) ∧ w'.cell? ⟨w.heap.size, 0, none⟩ = some (.int .i64 q) ∧ w'.cell? ⟨w.heap.size, 1, none⟩ = some (.string nm) ∧ w'.cell? ⟨w.heap.size, 2, none⟩ = some (.string tx) ∧ w'.cell? ⟨w.heap.size, 3, none⟩ = some (.slice A n c) ∧ w'.cell? ⟨w.heap.size, 4, none⟩ = some (.slice B m e) ∧ w'.cell? ⟨w.heap.size, 5, none⟩ = some (.int .i64 a)) (first | with_reducible exact csA | with_reducible exact CS.out | (simp only [set_far hne1, set_far hne2]; with_reducible exact csA) | go_keep)
          (first
          | (go_at_call 13; refine (HDoA.out _ ?_ ?_ ?_ ?_).mono ?_
             · rfl
             · rfl
             · rfl
             · rfl
             rintro e w6 ⟨rfl, hb6⟩
             have HB6 := Lib.hid hb6
             have csA := cs_below HCP.out HH.out hb6
             clear hb6)
          | (go_at_call 13; refine (HDoB.out _ ?_ ?_ ?_ ?_).mono ?_
             · rfl
             · rfl
             · rfl
             · rfl
             rintro e w6 ⟨rfl, hln, hb6⟩
             have HB6 := Lib.hid hb6
             have csA := cs_below HCP.out HH.out hb6
             have HLN := Lib.hid hln
             obtain ⟨⟨p0, p1, p2, p3, p4⟩, q0, q1, q2, q3, q4⟩ := fresh_ln hln
             clear hb6 hln))
        · have hx9 := heap_alloc_new w6 (.cells #[.string ⟨#[]⟩, .bool false, .int .i64 0, .int .i64 0, .slice none 0 0] 31)
          have hb9 := HB6.out.alloc HB6.out.size (.cells #[.string ⟨#[]⟩, .bool false, .int .i64 0, .int .i64 0, .slice none 0 0] 31)
          have HB9 := Lib.hid hb9
          have cp9 := (HB9.out.cell (p := ⟨w1.heap.size + 1, j, none⟩) (lt_of_block HH.out.list)).trans HCP.out
          have HLI := Lib.hid (fun W => line_zero W)
          obtain ⟨⟨x0, x1, x2, x3, x4⟩, y0, y1, y2, y3, y4⟩ := fresh_ln hx9
          clear hb9 hx9
          go_wp2_with fail
          refine (HLI.out _).mono ?_
          rintro e w10 ⟨rfl, hb10⟩
          have HB10 := Lib.hid (HB9.out.trans (hb10.mono HB9.out.size))
          have cp10 := (HB10.out.cell (p := ⟨w1.heap.size + 1, j, none⟩) (lt_of_block HH.out.list)).trans HCP.out
          have HN10 := Lib.hid (HP.out.below HB10.out)
          clear hb10 cp9
          clear x0 x1 x2 x3 x4 y0 y1 y2 y3 y4
          go_wp2_with fail
          refine (Depth_no HN10.out).mono ?_
          rintro e w11 ⟨rfl, hb11⟩
          have HB11 := Lib.hid (HB10.out.trans (hb11.mono HB10.out.size))
          have cp11 := (HB11.out.cell (p := ⟨w1.heap.size + 1, j, none⟩) (lt_of_block HH.out.list)).trans HCP.out
          have HN11 := Lib.hid (HP.out.below HB11.out)
          clear hb11 cp10
          go_wp2_with fail
          refine (Line_no HN11.out).mono ?_
          rintro e w12 ⟨rfl, hb12⟩
          have HB12 := Lib.hid (HB11.out.trans (hb12.mono HB11.out.size))
          have cp12 := (HB12.out.cell (p := ⟨w1.heap.size + 1, j, none⟩) (lt_of_block HH.out.list)).trans HCP.out
          have HN12 := Lib.hid (HP.out.below HB12.out)
          clear hb12 cp11
          go_wp2_with fail
          refine (Name_no HN12.out).mono ?_
          rintro e w13 ⟨rfl, hb13⟩
          have HB13 := Lib.hid (HB12.out.trans (hb13.mono HB12.out.size))
          have cp13 := (HB13.out.cell (p := ⟨w1.heap.size + 1, j, none⟩) (lt_of_block HH.out.list)).trans HCP.out
          have HN13 := Lib.hid (HP.out.below HB13.out)
          clear hb13 cp12
          go_wp2_with fail
          refine (Args_no HN13.out).mono ?_
          rintro e w14 ⟨⟨A14, c14, rfl⟩, hb14⟩
          have HB14 := Lib.hid (HB13.out.trans (hb14.mono HB13.out.size))
          have cp14 := (HB14.out.cell (p := ⟨w1.heap.size + 1, j, none⟩) (lt_of_block HH.out.list)).trans HCP.out
          have HN14 := Lib.hid (HP.out.below HB14.out)
          clear hb14 cp13
          go_wp2_with fail
          refine (Copy_no HN14.out).mono ?_
          rintro e w15 ⟨rfl, hb15⟩
          have HB15 := Lib.hid (HB14.out.trans (hb15.mono HB14.out.size))
          have cp15 := (HB15.out.cell (p := ⟨w1.heap.size + 1, j, none⟩) (lt_of_block HH.out.list)).trans HCP.out
          have HN15 := Lib.hid (HP.out.below HB15.out)
          clear hb15 cp14
          go_wp2_with fail
          go_roundg (gk - 1)
          case measure => have := HK.out; have := HJ.out; omega
          case rel =>
            have := HK.out
            have := HJ.out
            exact ⟨j + 1, by omega, by first | go_num | (congr 1; rw [IntWalk.wrap64_in _ (by omega)]; omega), HH.out.below HB15.out, HB.out.trans (HB15.out.mono HB.out.size)⟩
        · have hx9 := HLN.out
          have hb9 := HB6.out
          have hid := lnW_id hx9
          unfold LnW at hid
          rw [hid]
          clear hid
          have HB9 := Lib.hid hb9
          have cp9 := (HB9.out.cell (p := ⟨w1.heap.size + 1, j, none⟩) (lt_of_block HH.out.list)).trans HCP.out
          have HLI := Lib.hid (fun W => line_zero W)
          obtain ⟨⟨x0, x1, x2, x3, x4⟩, y0, y1, y2, y3, y4⟩ := fresh_ln hx9
          clear hb9 hx9
          go_wp2_with fail
          refine (HLI.out _).mono ?_
          rintro e w10 ⟨rfl, hb10⟩
          have HB10 := Lib.hid (HB9.out.trans (hb10.mono HB9.out.size))
          have cp10 := (HB10.out.cell (p := ⟨w1.heap.size + 1, j, none⟩) (lt_of_block HH.out.list)).trans HCP.out
          have HN10 := Lib.hid (HP.out.below HB10.out)
          clear hb10 cp9
          clear x0 x1 x2 x3 x4 y0 y1 y2 y3 y4
          go_wp2_with fail
          refine (Depth_no HN10.out).mono ?_
          rintro e w11 ⟨rfl, hb11⟩
          have HB11 := Lib.hid (HB10.out.trans (hb11.mono HB10.out.size))
          have cp11 := (HB11.out.cell (p := ⟨w1.heap.size + 1, j, none⟩) (lt_of_block HH.out.list)).trans HCP.out
          have HN11 := Lib.hid (HP.out.below HB11.out)
          clear hb11 cp10
          go_wp2_with fail
          refine (Line_no HN11.out).mono ?_
          rintro e w12 ⟨rfl, hb12⟩
          have HB12 := Lib.hid (HB11.out.trans (hb12.mono HB11.out.size))
          have cp12 := (HB12.out.cell (p := ⟨w1.heap.size + 1, j, none⟩) (lt_of_block HH.out.list)).trans HCP.out
          have HN12 := Lib.hid (HP.out.below HB12.out)
          clear hb12 cp11
          go_wp2_with fail
          refine (Name_no HN12.out).mono ?_
          rintro e w13 ⟨rfl, hb13⟩
          have HB13 := Lib.hid (HB12.out.trans (hb13.mono HB12.out.size))
          have cp13 := (HB13.out.cell (p := ⟨w1.heap.size + 1, j, none⟩) (lt_of_block HH.out.list)).trans HCP.out
          have HN13 := Lib.hid (HP.out.below HB13.out)
          clear hb13 cp12
          go_wp2_with fail
          refine (Args_no HN13.out).mono ?_
          rintro e w14 ⟨⟨A14, c14, rfl⟩, hb14⟩
          have HB14 := Lib.hid (HB13.out.trans (hb14.mono HB13.out.size))
          have cp14 := (HB14.out.cell (p := ⟨w1.heap.size + 1, j, none⟩) (lt_of_block HH.out.list)).trans HCP.out
          have HN14 := Lib.hid (HP.out.below HB14.out)
          clear hb14 cp13
          go_wp2_with fail
          refine (Copy_no HN14.out).mono ?_
          rintro e w15 ⟨rfl, hb15⟩
          have HB15 := Lib.hid (HB14.out.trans (hb15.mono HB14.out.size))
          have cp15 := (HB15.out.cell (p := ⟨w1.heap.size + 1, j, none⟩) (lt_of_block HH.out.list)).trans HCP.out
          have HN15 := Lib.hid (HP.out.below HB15.out)
          clear hb15 cp14
          go_wp2_with fail
          go_roundg (gk - 1)
          case measure => have := HK.out; have := HJ.out; omega
          case rel =>
            have := HK.out
            have := HJ.out
            exact ⟨j + 1, by omega, by first | go_num | (congr 1; rw [IntWalk.wrap64_in _ (by omega)]; omega), HH.out.below HB15.out, HB.out.trans (HB15.out.mono HB.out.size)⟩
      · have dj : decide ((j : Int) < 2) = false := decide_eq_false (by omega)
        clear hk hb hj hh c0 c1 c2 c3 c4 c5 fz
        go_wp2_with fail
        refine (sane_any _).mono ?_
        rintro e w2 ⟨rfl, hb2⟩
        have HB2 := Lib.hid (HB.out.trans (hb2.mono HB.out.size))
        clear hb2
        go_wp2_with fail
        go_ret
        exact ⟨rfl, HB2.out⟩
end Go.Proofs.YtfmlokkkhfnglaaDoor
