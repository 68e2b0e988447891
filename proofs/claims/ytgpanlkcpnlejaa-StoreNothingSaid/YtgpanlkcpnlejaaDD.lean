/- Arguments that came in: lines, strings. -/
import Derived.Test.YtgpanlkcpnlejaaDC
namespace Go.Proofs.Ytgpanlkcpnlejaa
open Go.RowKit Go.Deep Go.ChangeShapes Go.WideShapes Go.ChangeMaps
set_option maxRecDepth 100000
theorem by_int : Try.prog.bytesOf 3 = 8 := by kernel_rfl
theorem by_box : Try.prog.bytesOf 74 = 88 := by kernel_rfl
theorem by_line : Try.prog.bytesOf 69 = 64 := by kernel_rfl
theorem by_str : Try.prog.bytesOf 9 = 16 := by kernel_rfl
theorem ce_int : Try.prog.cellsOf 3 = 1 := by kernel_rfl
theorem ce_box : Try.prog.cellsOf 74 = 7 := by kernel_rfl
theorem ce_line : Try.prog.cellsOf 69 = 5 := by kernel_rfl
theorem ce_str : Try.prog.cellsOf 9 = 1 := by kernel_rfl
abbrev Lt (W : World) : TypeId → Nat → Prop := fun _ b => b < W.heap.size
section
variable {H : Type} {enc : TypeId × Value → H} {W : World} {sp : Nat → Bool} {held : Bool}
theorem reach47 {n : Nat} (h : n ≤ reachBytes) : n ≤ 140737488351232 := h
theorem open_ns {n : Nat} {v : Value} {d : DataW H} {p : List MemPlace} (h : DataW.trod enc Try.prog W 0 sp held n 72 [v] = some (d, p)) :
    ∃ (A : Option Addr) (len cap : Nat) (ns : List Int), v = .slice A len cap ∧ (A = none → len = 0) ∧ len ≤ cap ∧ (cap : Int) ≤ 9223372036854775807 ∧ len = ns.length ∧ ReadsP (fun b => b < W.heap.size) W 1 A len (intCs ns) ∧ (Sm 72 d → len * 8 ≤ 140737488351232) := by
  obtain ⟨A, len, cap, rs, hv, hA, hl, hm, hrl, hr, hd⟩ := open_row (α := Int) (f := fun z => [.int .i64 z]) Try.underlying72 ce_int (by omega) h (fun _ => rfl) (fun _ _ => True) (fun n cs' d' p' h' hlen => by
    obtain ⟨z, hz, _⟩ := DataW.trod_int Try.underlying3 h'
    exact ⟨z, hz, trivial⟩)
  refine ⟨A, len, cap, rs, hv, hA, hl, by unfold maxLen at hm; omega, hrl.symm, ?_, fun hs => ?_⟩
  · have e : rs.flatMap (fun z => [Value.int .i64 z]) = intCs rs := by
      unfold intCs
      clear hr hd hrl
      induction rs with
      | nil => rfl
      | cons a t ih => rw [List.flatMap_cons, ih]; rfl
    rw [e] at hr; exact hr
  · rcases hd with ⟨h0, _⟩ | ⟨D, S, hd, hD, _, _⟩
    · omega
    · rw [hd] at hs
      have := reach47 (hs.slice Try.underlying72).1
      rw [by_int, hD] at this
      have : len * 8 ≤ (len + S.length) * 8 := Nat.mul_le_mul_right _ (by omega)
      omega
theorem open_box {n : Nat} {cs : List Value} {d : DataW H} {p : List MemPlace} (h : DataW.trod enc Try.prog W 0 sp held n 74 cs = some (d, p)) (hl : cs.length = 7) :
    ∃ r : RB, cs = rbCs r ∧ (Sm 74 d → ∃ x, RbIs (Lt W) W r x) := by
  obtain ⟨ys, k, hd, hyl, hf⟩ := fields_of Try.underlying74 (by kernel_rfl) h
  match cs, hl with
  | [c0, c1, c2, c3, c4, c5, c6], _ =>
    obtain ⟨y0, hy0, g0⟩ := hf 0 _ c0 rfl rfl
    obtain ⟨y1, hy1, g1⟩ := hf 1 _ c1 rfl rfl
    obtain ⟨y2, hy2, g2⟩ := hf 2 _ c2 rfl rfl
    obtain ⟨y3, hy3, g3⟩ := hf 3 _ c3 rfl rfl
    obtain ⟨y4, hy4, g4⟩ := hf 4 _ c4 rfl rfl
    obtain ⟨y5, hy5, g5⟩ := hf 5 _ c5 rfl rfl
    obtain ⟨y6, hy6, g6⟩ := hf 6 _ c6 rfl rfl
    obtain ⟨z0, e0, _⟩ := DataW.trod_int Try.underlying3 g0
    obtain ⟨z1, e1, _⟩ := DataW.trod_int Try.underlying3 g1
    obtain ⟨z2, e2, _⟩ := DataW.trod_int Try.underlying3 g2
    obtain ⟨z3, e3, _⟩ := DataW.trod_int Try.underlying3 g3
    obtain ⟨s4, e4, _⟩ := DataW.trod_string Try.underlying9 g4
    obtain ⟨s5, e5, _⟩ := DataW.trod_string Try.underlying9 g5
    obtain ⟨A, len, cap, ns, e6, hA, hlc, hcap, hlen, hr, hsm⟩ := open_ns (d := y6.1) (p := y6.2) g6
    simp only [List.cons.injEq, and_true] at e0 e1 e2 e3 e4 e5
    refine ⟨⟨z0, z1, z2, z3, s4, s5, A, len, cap⟩, by rw [e0, e1, e2, e3, e4, e5, e6]; rfl, fun hs => ⟨⟨z0, z1, z2, z3, s4, s5, ns⟩, ?_⟩⟩
    have hs6 : Sm 72 y6.1 := by
      rw [hd] at hs
      exact hs.field Try.underlying74 6 _ y6.1 rfl (by rw [List.getElem?_map, hy6]; rfl)
    exact ⟨rfl, rfl, rfl, rfl, rfl, rfl, hlen, hA, hlc, hcap, by have := hsm hs6; simp only; omega, hr⟩
theorem open_bxs {n : Nat} {v : Value} {d : DataW H} {p : List MemPlace} (h : DataW.trod enc Try.prog W 0 sp held n 67 [v] = some (d, p)) :
    ∃ (A : Option Addr) (len cap : Nat), v = .slice A len cap ∧ (A = none → len = 0) ∧ len ≤ cap ∧ (cap : Int) ≤ 9223372036854775807 ∧ (Sm 67 d → len * 88 ≤ 140737488351232 ∧ ∃ bs, BxsAt (Lt W) W A len bs) := by
  obtain ⟨A, len, cap, rs, hv, hA, hl, hm, hrl, hr, hd⟩ := open_row (α := RB) (f := rbCs) Try.underlying67 ce_box (by omega) h rb_len (fun d r => Sm 74 d → ∃ x, RbIs (Lt W) W r x) (fun n cs' d' p' h' hlen => open_box h' hlen)
  refine ⟨A, len, cap, hv, hA, hl, by unfold maxLen at hm; omega, fun hs => ?_⟩
  rcases hd with ⟨h0, _⟩ | ⟨D, S, hd, hD, _, hq⟩
  · subst h0
    exact ⟨by omega, [], ⟨⟨[], ⟨rfl, fun h => absurd h (Nat.lt_irrefl 0)⟩, rfl, fun i a b h _ => by simp at h⟩, rfl⟩⟩
  · rw [hd] at hs
    have h1 := hs.slice Try.underlying67
    have h2 := reach47 h1.1
    rw [by_box, hD] at h2
    refine ⟨by have : len * 88 ≤ (len + S.length) * 88 := Nat.mul_le_mul_right _ (by omega); omega, ?_⟩
    obtain ⟨bs, hbl, hbs⟩ := list_of len (fun i x => ∀ r, rs[i]? = some r → RbIs (Lt W) W r x) (fun i hi => by
      have hdi : D[i]? = some (D[i]'(by omega)) := List.getElem?_eq_getElem (by omega)
      have hri : rs[i]? = some (rs[i]'(by omega)) := List.getElem?_eq_getElem (by omega)
      obtain ⟨x, hx⟩ := hq i _ _ hdi hri (h1.2 _ (List.getElem_mem _))
      exact ⟨x, fun r hr => by rw [hri] at hr; injection hr with hr; rw [← hr]; exact hx⟩)
    exact ⟨bs, ⟨⟨rs, hr, by rw [hrl, hbl], fun i r x hr' hx => hbs i x hx r hr'⟩, hbl.symm⟩⟩
theorem open_line {n : Nat} {cs : List Value} {d : DataW H} {p : List MemPlace} (h : DataW.trod enc Try.prog W 0 sp held n 69 cs = some (d, p)) (hl : cs.length = 5) :
    ∃ r : RL, cs = rlCs r ∧ (Sm 69 d → r.tx.size ≤ 140737488351232 ∧ r.bn * 88 ≤ 140737488351232 ∧ ∃ l, RlIs (Lt W) W r l) := by
  obtain ⟨ys, k, hd, hyl, hf⟩ := fields_of Try.underlying69 (by kernel_rfl) h
  match cs, hl with
  | [c0, c1, c2, c3, c4], _ =>
    obtain ⟨y0, hy0, g0⟩ := hf 0 _ c0 rfl rfl
    obtain ⟨y1, hy1, g1⟩ := hf 1 _ c1 rfl rfl
    obtain ⟨y2, hy2, g2⟩ := hf 2 _ c2 rfl rfl
    obtain ⟨y3, hy3, g3⟩ := hf 3 _ c3 rfl rfl
    obtain ⟨y4, hy4, g4⟩ := hf 4 _ c4 rfl rfl
    obtain ⟨s0, e0, hs0, _⟩ := DataW.trod_string Try.underlying9 g0
    obtain ⟨b1, e1, _⟩ := DataW.trod_bool Try.underlying4 g1
    obtain ⟨z2, e2, _⟩ := DataW.trod_int Try.underlying3 g2
    obtain ⟨z3, e3, _⟩ := DataW.trod_int Try.underlying3 g3
    obtain ⟨A, len, cap, e4, hA, hlc, hcap, hsm⟩ := open_bxs (d := y4.1) (p := y4.2) g4
    simp only [List.cons.injEq, and_true] at e0 e1 e2 e3
    refine ⟨⟨s0, b1, z2, z3, A, len, cap⟩, by rw [e0, e1, e2, e3, e4]; rfl, fun hs => ?_⟩
    rw [hd] at hs
    have h0 : Sm (H := H) 9 (.lit (.string s0.data.toList)) := by
      have := hs.field Try.underlying69 0 _ y0.1 rfl (by rw [List.getElem?_map, hy0]; rfl)
      rw [hs0] at this; exact this
    have h4 : Sm 67 y4.1 := hs.field Try.underlying69 4 _ y4.1 rfl (by rw [List.getElem?_map, hy4]; rfl)
    obtain ⟨h5, bs, hbs⟩ := hsm h4
    have h6 := reach47 h0.str
    rw [show s0.data.toList.length = s0.size by simp] at h6
    exact ⟨h6, h5, ⟨s0, b1, z2, z3, bs⟩, rfl, rfl, rfl, rfl, hA, hlc, hcap, hbs⟩
theorem open_lines {n : Nat} {v : Value} {d : DataW H} {p : List MemPlace} (h : DataW.trod enc Try.prog W 0 sp held n 23 [v] = some (d, p)) (hs : Sm 23 d) :
    ∃ (A : Option Addr) (len cap : Nat) (ls : List Ln), v = .slice A len cap ∧ (A = none → len = 0) ∧ len ≤ cap ∧ (cap : Int) ≤ 9223372036854775807 ∧ len * 64 ≤ 140737488351232 ∧ LnsAt (Lt W) W A len ls ∧ (∀ l ∈ ls, l.tx.size ≤ 140737488351232 ∧ l.bx.length ≤ 140737488351232) := by
  obtain ⟨A, len, cap, rs, hv, hA, hl, hm, hrl, hr, hd⟩ := open_row (α := RL) (f := rlCs) Try.underlying23 ce_line (by omega) h rl_len (fun d r => Sm 69 d → r.tx.size ≤ 140737488351232 ∧ r.bn * 88 ≤ 140737488351232 ∧ ∃ l, RlIs (Lt W) W r l) (fun n cs' d' p' h' hlen => open_line h' hlen)
  rcases hd with ⟨h0, _⟩ | ⟨D, S, hd, hD, _, hq⟩
  · subst h0
    exact ⟨A, 0, cap, [], hv, hA, hl, by unfold maxLen at hm; omega, by omega, ⟨⟨[], ⟨rfl, fun h => absurd h (Nat.lt_irrefl 0)⟩, rfl, fun i a b h _ => by simp at h⟩, rfl⟩, fun l hl => by cases hl⟩
  · rw [hd] at hs
    have h1 := hs.slice Try.underlying23
    have h2 := reach47 h1.1
    rw [by_line, hD] at h2
    obtain ⟨ls, hll, hls⟩ := list_of len (fun i l => (∀ r, rs[i]? = some r → RlIs (Lt W) W r l) ∧ l.tx.size ≤ 140737488351232 ∧ l.bx.length ≤ 140737488351232) (fun i hi => by
      have hdi : D[i]? = some (D[i]'(by omega)) := List.getElem?_eq_getElem (by omega)
      have hri : rs[i]? = some (rs[i]'(by omega)) := List.getElem?_eq_getElem (by omega)
      obtain ⟨q1, q2, l, hx⟩ := hq i _ _ hdi hri (h1.2 _ (List.getElem_mem _))
      refine ⟨l, fun r hr => by rw [hri] at hr; injection hr with hr; rw [← hr]; exact hx, by rw [← hx.tx]; exact q1, ?_⟩
      rw [← hx.bx.len]; omega)
    refine ⟨A, len, cap, ls, hv, hA, hl, by unfold maxLen at hm; omega, by have : len * 64 ≤ (len + S.length) * 64 := Nat.mul_le_mul_right _ (by omega); omega, ⟨⟨rs, hr, by rw [hrl, hll], fun i r l hr' hl' => (hls i l hl').1 r hr'⟩, hll.symm⟩, fun l hl' => ?_⟩
    obtain ⟨i, hi⟩ := List.getElem?_of_mem hl'
    exact (hls i l hi).2
/-- Strings in a slice. -/
theorem open_strs_ {n : Nat} {v : Value} {d : DataW H} {p : List MemPlace} (h : DataW.trod enc Try.prog W 0 sp held n 22 [v] = some (d, p)) (hs : Sm 22 d) :
    ∃ (A : Option Addr) (len cap : Nat) (ss : List ByteArray), v = .slice A len cap ∧ len ≤ cap ∧ (cap : Int) ≤ 9223372036854775807 ∧ len = ss.length ∧ ReadsP (fun b => b < W.heap.size) W 1 A len (ss.flatMap fun s => [.string s]) ∧ (∀ s ∈ ss, s.size ≤ 140737488351232) := by
  obtain ⟨A, len, cap, rs, hv, hA, hl, hm, hrl, hr, hd⟩ := open_row (α := ByteArray) (f := fun s => [.string s]) Try.underlying22 ce_str (by omega) h (fun _ => rfl) (fun d s => d = .lit (.string s.data.toList)) (fun n cs' d' p' h' hlen => by
    obtain ⟨s, hz, hx, _⟩ := DataW.trod_string Try.underlying9 h'
    exact ⟨s, hz, by simp only [Prod.mk.injEq] at hx; exact hx.1⟩)
  refine ⟨A, len, cap, rs, hv, hl, by unfold maxLen at hm; omega, hrl.symm, hr, fun s hs' => ?_⟩
  obtain ⟨i, hi⟩ := List.getElem?_of_mem hs'
  have hil := (List.getElem?_eq_some_iff.1 hi).1
  rcases hd with ⟨h0, _⟩ | ⟨D, S, hd, hD, _, hq⟩
  · omega
  · rw [hd] at hs
    have h1 := (hs.slice Try.underlying22).2
    have hdi : D[i]? = some (D[i]'(by omega)) := List.getElem?_eq_getElem (by omega)
    have h2 := h1 _ (List.getElem_mem (show i < D.length by omega))
    rw [hq i _ s hdi hi] at h2
    have h3 := reach47 h2.str
    rwa [show s.data.toList.length = s.size by simp] at h3
end
end Go.Proofs.Ytgpanlkcpnlejaa
