/- Deeds that came in. -/
import Derived.Test.YtgpanlkcpnlejaaDD
import Derived.Test.YtgpanlkcpnlejaaE4
set_option linter.unusedSimpArgs false
set_option linter.unusedVariables false
namespace Go.Proofs.Ytgpanlkcpnlejaa
open Go.RowKit Go.Deep Go.ChangeShapes Go.WideShapes Go.ChangeMaps
set_option maxRecDepth 100000
theorem ce_deed : Try.prog.cellsOf 42 = 7 := by kernel_rfl
section
variable {H : Type} {enc : TypeId × Value → H} {W : World} {sp : Nat → Bool} {held : Bool}
theorem sl_shape {n : Nat} {t e : TypeId} {c : Value} {d : DataW H} {p : List MemPlace} (ht : Try.prog.underlying t = some (.slice e)) (h : DataW.trod enc Try.prog W 0 sp held n t [c] = some (d, p)) : ∃ A l k, c = .slice A l k := by
  rcases Go.Deep.open_slice ht h with ⟨hcs, _⟩ | ⟨a, len, cap, m', n, D, Pl, hcs, _⟩
  · simp only [List.cons.injEq, and_true] at hcs
    exact ⟨_, _, _, hcs⟩
  · simp only [List.cons.injEq, and_true] at hcs
    exact ⟨_, _, _, hcs⟩
theorem str_len (s : ByteArray) (h : Sm (H := H) 9 (.lit (.string s.data.toList))) : s.size ≤ 140737488351232 := by
  have := reach47 h.str
  rwa [show s.data.toList.length = s.size by simp] at this
theorem open_deed {n : Nat} {cs : List Value} {d : DataW H} {p : List MemPlace} (h : DataW.trod enc Try.prog W 0 sp held n 42 cs = some (d, p)) (hl : cs.length = 7) :
    ∃ r : Dd, cs = ddCs r ∧ (Sm 42 d → DdOk W r) := by
  obtain ⟨ys, k, hd, hyl, hf⟩ := fields_of Try.underlying42 (by kernel_rfl) h
  match cs, hl with
  | [c0, c1, c2, c3, c4, c5, c6], _ =>
    obtain ⟨y0, hy0, g0⟩ := hf 0 _ c0 rfl rfl
    obtain ⟨y1, hy1, g1⟩ := hf 1 _ c1 rfl rfl
    obtain ⟨y2, hy2, g2⟩ := hf 2 _ c2 rfl rfl
    obtain ⟨y3, hy3, g3⟩ := hf 3 _ c3 rfl rfl
    obtain ⟨y4, hy4, g4⟩ := hf 4 _ c4 rfl rfl
    obtain ⟨y5, hy5, g5⟩ := hf 5 _ c5 rfl rfl
    obtain ⟨y6, hy6, g6⟩ := hf 6 _ c6 rfl rfl
    obtain ⟨z0, e0, _, w0⟩ := DataW.trod_int Try.underlying3 g0
    obtain ⟨s1, e1, hs1, _⟩ := DataW.trod_string Try.underlying9 g1
    obtain ⟨s2, e2, hs2, _⟩ := DataW.trod_string Try.underlying9 g2
    obtain ⟨s3, e3, hs3, _⟩ := DataW.trod_string Try.underlying9 g3
    obtain ⟨A0, l0, k0, e4⟩ := sl_shape Try.underlying23 (d := y4.1) (p := y4.2) g4
    obtain ⟨z5, e5, _, w5⟩ := DataW.trod_int Try.underlying3 g5
    obtain ⟨z6, e6, _, w6⟩ := DataW.trod_int Try.underlying3 g6
    simp only [List.cons.injEq, and_true] at e0 e1 e2 e3 e4 e5 e6
    by_cases hs : Sm 42 d
    · have hs' := hs
      rw [hd] at hs'
      have q1 : Sm (H := H) 9 (.lit (.string s1.data.toList)) := by
        have := hs'.field Try.underlying42 1 _ y1.1 rfl (by rw [List.getElem?_map, hy1]; rfl)
        rw [hs1] at this; exact this
      have q2 : Sm (H := H) 9 (.lit (.string s2.data.toList)) := by
        have := hs'.field Try.underlying42 2 _ y2.1 rfl (by rw [List.getElem?_map, hy2]; rfl)
        rw [hs2] at this; exact this
      have q3 : Sm (H := H) 9 (.lit (.string s3.data.toList)) := by
        have := hs'.field Try.underlying42 3 _ y3.1 rfl (by rw [List.getElem?_map, hy3]; rfl)
        rw [hs3] at this; exact this
      have q4 : Sm 23 y4.1 := hs'.field Try.underlying42 4 _ y4.1 rfl (by rw [List.getElem?_map, hy4]; rfl)
      obtain ⟨A, l, c, ls, e4', hA, hlc, hcap, hfit, hls, hx⟩ := open_lines (d := y4.1) (p := y4.2) g4 q4
      exact ⟨⟨z0, s1, s2, s3, A, l, c, z5, z6, ls⟩, by rw [e0, e1, e2, e3, e4', e5, e6]; rfl, fun _ => ⟨hls, hA, hlc, hcap, hfit, fun l hl => (hx l hl).1, str_len s1 q1, str_len s2 q2, str_len s3 q3, i64_of_wf w0, i64_of_wf w5, i64_of_wf w6⟩⟩
    · exact ⟨⟨z0, s1, s2, s3, A0, l0, k0, z5, z6, []⟩, by rw [e0, e1, e2, e3, e4, e5, e6]; rfl, fun h => absurd h hs⟩
theorem open_deeds {n : Nat} {v : Value} {d : DataW H} {p : List MemPlace} (h : DataW.trod enc Try.prog W 0 sp held n 39 [v] = some (d, p)) (hs : Sm 39 d) :
    ∃ (A : Option Addr) (len cap : Nat) (ds : List Dd), v = .slice A len cap ∧ (A = none → len = 0) ∧ len ≤ cap ∧ (cap : Int) ≤ 9223372036854775807 ∧ len = ds.length ∧ ReadsP (fun b => b < W.heap.size) W 7 A len (ds.flatMap ddCs) ∧ (∀ x ∈ ds, DdOk W x) := by
  obtain ⟨A, len, cap, rs, hv, hA, hl, hm, hrl, hr, hd⟩ := open_row (α := Dd) (f := ddCs) Try.underlying39 ce_deed (by omega) h dd_len (fun d r => Sm 42 d → DdOk W r) (fun n cs' d' p' h' hlen => open_deed h' hlen)
  refine ⟨A, len, cap, rs, hv, hA, hl, by unfold maxLen at hm; omega, hrl.symm, hr, fun x hx => ?_⟩
  obtain ⟨i, hi⟩ := List.getElem?_of_mem hx
  have hil := (List.getElem?_eq_some_iff.1 hi).1
  rcases hd with ⟨h0, _⟩ | ⟨D, S, hd, hD, _, hq⟩
  · omega
  · rw [hd] at hs
    have h1 := (hs.slice Try.underlying39).2
    have hdi : D[i]? = some (D[i]'(by omega)) := List.getElem?_eq_getElem (by omega)
    exact hq i _ x hdi hi (h1 _ (List.getElem_mem (show i < D.length by omega)))
end
end Go.Proofs.Ytgpanlkcpnlejaa
