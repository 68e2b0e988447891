/- copyBoxes. -/
import Derived.Test.YtfobbcddedcepaaDoorA2
namespace Go.Proofs.YtfobbcddedcepaaDoor
open Go.RowKit
set_option maxRecDepth 100000
set_option linter.unusedSimpArgs false
set_option linter.unusedVariables false
theorem fresh_bx {b : Nat} {c0 c1 c2 c3 c4 c5 c6 : Value} {w : World} (h : w.heap[b]? = some (.cells #[c0, c1, c2, c3, c4, c5, c6] 85 (0, 0))) : (w.cell? ⟨b, 0, none⟩ = some c0 ∧ w.cell? ⟨b, 1, none⟩ = some c1 ∧ w.cell? ⟨b, 2, none⟩ = some c2 ∧ w.cell? ⟨b, 3, none⟩ = some c3 ∧ w.cell? ⟨b, 4, none⟩ = some c4 ∧ w.cell? ⟨b, 5, none⟩ = some c5 ∧ w.cell? ⟨b, 6, none⟩ = some c6) ∧ True := by
  simp [World.cell?, h]
/-- The cells of element j of a row of boxes. -/
theorem bx_cells {w : World} {base g n c : Nat} {rs : List RB} (h : w.ownsRow base 85 7 (.slice (some ⟨g, 0, none⟩) n c) n (rs.flatMap rbCs)) (j : Nat) (r : RB) (hr : rs[j]? = some r) :
    w.cell? ⟨g, j * 7, none⟩ = some (.int .i64 r.kd) ∧ w.cell? ⟨g, j * 7 + 1, none⟩ = some (.int .i64 r.wd) ∧ w.cell? ⟨g, j * 7 + 2, none⟩ = some (.int .i64 r.fo) ∧ w.cell? ⟨g, j * 7 + 3, none⟩ = some (.int .i64 r.sz) ∧ w.cell? ⟨g, j * 7 + 4, none⟩ = some (.string r.nm) ∧ w.cell? ⟨g, j * 7 + 5, none⟩ = some (.string r.co) ∧ w.cell? ⟨g, j * 7 + 6, none⟩ = some (.slice r.no r.nn r.nc) ∧ w.frozen? ⟨g, j * 7 + 6, none⟩ = false := by
  have key := fun k (hk : k < 7) => fm_at rb_len rs j k r hr hk
  exact ⟨(own_cell h _ _ (key 0 (by omega))).1, (own_cell h _ _ (key 1 (by omega))).1, (own_cell h _ _ (key 2 (by omega))).1, (own_cell h _ _ (key 3 (by omega))).1, (own_cell h _ _ (key 4 (by omega))).1, (own_cell h _ _ (key 5 (by omega))).1, (own_cell h _ _ (key 6 (by omega))).1, (own_cell h _ _ (key 6 (by omega))).2⟩
/-- Behind j rounds: the first j boxes have numbers of their own. -/
structure CbR (P : TypeId → Nat → Prop) (w : World) (A' : Option Addr) (n c' : Nat) (rs0 : List RB) (bs : List Bx) (j : Nat) (wr : World) : Prop where
  ex : ∃ rs : List RB, wr.ownsRow w.heap.size 85 7 (.slice A' n c') n (rs.flatMap rbCs) ∧ rs.length = n ∧ (∀ i r x, i < j → rs[i]? = some r → bs[i]? = some x → RbIs (Tg wr) wr r x) ∧ (∀ i, j ≤ i → rs[i]? = rs0[i]?)
  below : Below w.heap.size w wr
theorem CbR.step {P : TypeId → Nat → Prop} {w : World} {A' : Option Addr} {n c' : Nat} {rs0 : List RB} {bs : List Bx} {j g : Nat} {wr w2 : World} {rs : List RB} {r : RB} {x : Bx} {no : Option Addr} {nc : Nat} (hA : A' = some ⟨g, 0, none⟩) (hg : w.heap.size ≤ g)
    (ho : wr.ownsRow w.heap.size 85 7 (.slice A' n c') n (rs.flatMap rbCs)) (hl : rs.length = n) (h1 : ∀ i r x, i < j → rs[i]? = some r → bs[i]? = some x → RbIs (Tg wr) wr r x) (h2 : ∀ i, j ≤ i → rs[i]? = rs0[i]?) (hb : Below w.heap.size w wr)
    (hr : rs[j]? = some r) (hx : bs[j]? = some x) (hrx : RbIs P w r x) (hw2 : Below wr.heap.size wr w2) (hn2 : w2.ownsRow wr.heap.size 3 1 (.slice no r.nn nc) r.nn (intCs x.ns)) (hnil : no = none → r.nn = 0) :
    CbR P w A' n c' rs0 bs (j + 1) (w2.setCell ⟨g, j * 7 + 6, none⟩ (.slice no r.nn nc)) := by
  subst hA
  have hjl : j < rs.length := (List.getElem?_eq_some_iff.1 hr).1
  have hgl : g < wr.heap.size ∧ Tg wr 85 g := by
    obtain ⟨g', e, _, hlt, cur, hcur, _⟩ := own_head ho (by omega)
    injection e with e; injection e with e; subst e; exact ⟨hlt, cur, _, hcur⟩
  have ho2 := own_kept ho (Kept.of (S := fun _ => False) hw2) (fun _ _ h => h)
  have ho3 := own_set ho2 (j * 7 + 6) (by omega) (.slice no r.nn nc)
  have hset := fm_set rb_len rs j 6 r { r with no := no, nc := nc } (.slice no r.nn nc) hr (by omega) rfl
  rw [← hset] at ho3
  have hk : ∀ b, b ≠ g → (w2.setCell ⟨g, j * 7 + 6, none⟩ (.slice no r.nn nc)).heap[b]? = w2.heap[b]? := fun b hb => Below.heap_setCell _ _ _ _ hb
  refine ⟨⟨_, ho3, by simpa using hl, fun i r' x' hi hr' hx' => ?_, fun i hi => ?_⟩, (hb.trans (hw2.mono hb.size)).setCell (p := ⟨g, j * 7 + 6, none⟩) hg _⟩
  · rw [List.getElem?_set] at hr'
    by_cases e : j = i
    · subst e
      rw [if_pos rfl, if_pos hjl] at hr'
      obtain rfl := Option.some.inj hr'
      obtain rfl : x = x' := Option.some.inj (hx.symm.trans hx')
      obtain ⟨o, cap, hv, hcap1, hcap2⟩ := row_shape hn2
      injection hv with hv1 hv2 hv3
      subst hv3
      have hrd := ReadsP.of_own (P := fun b => wr.heap.size ≤ b ∧ Tg w2 3 b) hn2 (fun g' cs hg' hb' => ⟨hb', cs, _, hg'⟩)
      exact ⟨hrx.kd, hrx.wd, hrx.fo, hrx.sz, hrx.nm, hrx.co, hrx.nn, hnil, hcap1, hcap2, hrx.fit, hrd.keep fun b hb' => ⟨hk b (by omega), hb'.2.keep (hk b (by omega))⟩⟩
    · rw [if_neg e] at hr'
      refine (h1 i r' x' (by omega) hr' hx').keep fun b hb' => ?_
      have hne : b ≠ g := hb'.ne hgl.2 (by decide)
      have hw := hb'.below hw2
      exact ⟨(hk b hne).trans hw.1, hw.2.keep (hk b hne)⟩
  · rw [List.getElem?_set_ne (by omega)]; exact h2 i (by omega)
theorem own_none {w : World} {base size n c : Nat} {e : TypeId} {A : Option Addr} {xs : List Value} (h : w.ownsRow base e size (.slice A n c) n xs) : A = none → n = 0 := by
  rintro rfl
  rcases h.2 with ⟨_, h0⟩ | ⟨g, cap, cur, hv, _⟩
  · exact h0
  · cases hv
end Go.Proofs.YtfobbcddedcepaaDoor
