/- The topmost frame that is wanted: what is found. -/
import Derived.Test.YtfobbcddedcepaaDoorB1
namespace Go.Proofs.YtfobbcddedcepaaDoor
open Go.RowKit Go.Shelf
set_option maxRecDepth 100000
set_option linter.unusedSimpArgs false
set_option linter.unusedVariables false
abbrev RF0 : RF := ⟨0, ⟨#[]⟩, none, 0, 0, none, 0, 0, 0⟩
/-- Above how many frames none is wanted. -/
def topQ (q : RF → Bool) (rs : List RF) : Nat → Nat
  | 0 => 0
  | k + 1 => match rs[k]? with
    | some r => if q r then k + 1 else topQ q rs k
    | none => topQ q rs k
theorem topQ_yes (q : RF → Bool) (rs : List RF) (k : Nat) (r : RF) (h : rs[k]? = some r) (hp : q r = true) : topQ q rs (k + 1) = k + 1 := by
  unfold topQ; rw [h]; simp [hp]
theorem topQ_no (q : RF → Bool) (rs : List RF) (k : Nat) (r : RF) (h : rs[k]? = some r) (hp : q r = false) : topQ q rs (k + 1) = topQ q rs k := by
  conv => lhs; unfold topQ
  rw [h]; simp [hp]
theorem down_none (q : RF → Bool) (rs : List RF) : ∀ k, k ≤ rs.length → (∀ y ∈ down rs k, q y.2 = false) → topQ q rs k = 0
  | 0, _, _ => rfl
  | k + 1, h, hy => by
    have hr := List.getElem?_eq_getElem (show k < rs.length by omega)
    rw [down_succ rs k _ hr] at hy
    rw [topQ_no q rs k _ hr (hy (k, rs[k]) (by simp))]
    exact down_none q rs k (by omega) (fun y h => hy y (by simp [h]))
theorem down_found (q : RF → Bool) (rs : List RF) : ∀ k, k ≤ rs.length → ∀ (pre : List (Nat × RF)) (x : Nat × RF), (pre ++ [x]) <+: down rs k → (∀ y ∈ pre, q y.2 = false) → q x.2 = true → topQ q rs k = x.1 + 1 ∧ rs[x.1]? = some x.2
  | 0, _, pre, x, hp, _, _ => by
    have := hp.length_le
    simp [down] at this
  | k + 1, h, pre, x, hp, hy, hx => by
    have hr := List.getElem?_eq_getElem (show k < rs.length by omega)
    rw [down_succ rs k _ hr] at hp
    cases pre with
    | nil =>
      obtain ⟨t, ht⟩ := hp
      simp only [List.nil_append, List.cons_append, List.cons.injEq] at ht
      obtain ⟨rfl, _⟩ := ht
      exact ⟨topQ_yes q rs k _ hr hx, hr⟩
    | cons y pre =>
      obtain ⟨t, ht⟩ := hp
      simp only [List.cons_append, List.cons.injEq] at ht
      obtain ⟨rfl, ht⟩ := ht
      rw [topQ_no q rs k _ hr (hy (k, rs[k]) (by simp))]
      exact down_found q rs k (by omega) pre x ⟨t, by simpa using ht⟩ (fun y h => hy y (by simp [h])) hx
def gotR (rs : List RF) (k : Nat) : RF := if k = 0 then RF0 else (rs[k - 1]?).getD RF0
/-- What topmost tells. -/
def TopP (q : RF → Bool) (rs : List RF) (w : World) (e : Ending) (w' : World) : Prop :=
  e = .returned (.tuple #[.int .i64 ((topQ q rs rs.length : Nat) - 1 : Int), rfA (gotR rs (topQ q rs rs.length))]) ∧ Below w.heap.size w w'
/-- A block of cells. -/
theorem own_blk (b : Nat) (cs : Array Value) (t : TypeId) (f : Nat × Nat) {β : Type} : Own (fun (_ : β) W => W.heap[b]? = some (.cells cs t f)) := by
  intro s W W' row h hg hr
  refine (hg.block b (lt_of_block h) (fun e => ?_)).trans h
  obtain ⟨o, ho, hc⟩ := hr b e.symm
  rw [h] at ho
  cases ho
  cases hc
theorem keeps_below {B : Nat} {W W' : World} (h : Below W.heap.size W W') : KeepsFrom B W W' := ⟨h.size, fun k o _ hk _ => (h.block k (lt_of_block hk)).trans (by first | exact hk | rfl)⟩
theorem four_alloc (w : World) (X0 X1 X2 X3 : Array Value) (e0 e1 e2 e3 : TypeId) : ((((w.alloc (.cells X0 e0)).alloc (.cells X1 e1)).alloc (.cells X2 e2)).alloc (.cells X3 e3)).heap[w.heap.size]? = some (.cells X0 e0 (0, 0)) ∧ ((((w.alloc (.cells X0 e0)).alloc (.cells X1 e1)).alloc (.cells X2 e2)).alloc (.cells X3 e3)).heap[w.heap.size + 1]? = some (.cells X1 e1 (0, 0)) ∧
    ((((w.alloc (.cells X0 e0)).alloc (.cells X1 e1)).alloc (.cells X2 e2)).alloc (.cells X3 e3)).heap[w.heap.size + 2]? = some (.cells X2 e2 (0, 0)) ∧ ((((w.alloc (.cells X0 e0)).alloc (.cells X1 e1)).alloc (.cells X2 e2)).alloc (.cells X3 e3)).heap[w.heap.size + 3]? = some (.cells X3 e3 (0, 0)) ∧ Below w.heap.size w ((((w.alloc (.cells X0 e0)).alloc (.cells X1 e1)).alloc (.cells X2 e2)).alloc (.cells X3 e3)) := by
  obtain ⟨h0, h1, hb⟩ := two_alloc w X0 X1 e0 e1
  obtain ⟨h2, h3, hb2⟩ := two_alloc ((w.alloc (.cells X0 e0)).alloc (.cells X1 e1)) X2 X3 e2 e3
  have hz : ((w.alloc (.cells X0 e0)).alloc (.cells X1 e1)).heap.size = w.heap.size + 2 := by simp
  rw [hz] at h2 h3
  exact ⟨(hb2.block _ (by rw [hz]; omega)).trans h0, (hb2.block _ (by rw [hz]; omega)).trans h1, h2, h3, hb.trans (hb2.mono (by rw [hz]; omega))⟩
theorem top_end {F : Func} {a : Array Value} {W' : World} {t u g h : Nat} {x c0 c1 c2 c3 c4 : Value} (hF : F.results = #[.cell t 3, .cell u 64]) (h1 : a.getD t undef = .pointer (some ⟨g, 0, none⟩)) (h2 : a.getD u undef = .pointer (some ⟨h, 0, none⟩))
    (hg : W'.heap[g]? = some (.cells #[x] 3 (0, 0))) (hh : W'.heap[h]? = some (.cells #[c0, c1, c2, c3, c4] 64 (0, 0))) : (results F a).run Tryd.prog W' = .ok (.tuple #[x, .agg #[c0, c1, c2, c3, c4]]) W' := by
  have h1' : a[t]?.getD undef = .pointer (some ⟨g, 0, none⟩) := by simpa using h1
  have h2' : a[u]?.getD undef = .pointer (some ⟨h, 0, none⟩) := by simpa using h2
  obtain ⟨⟨e0, e1, e2, e3, e4⟩, _⟩ := fresh_fr hh
  have e5 : W'.cell? ⟨g, 0, none⟩ = some x := by simp [World.cell?, hg]
  simp [results, hF, h1', h2', go_sem, e0, e1, e2, e3, e4, e5]
theorem drew_heap (w : World) : w.drew.heap = w.heap := rfl
theorem topA {w1 : World} {b1 b2 : Nat} {k : Int} {r : RF} {x c0 c1 c2 c3 c4 : Value} (u1 : w1.heap[b1]? = some (.cells #[x] 3 (0, 0))) (u2 : w1.heap[b2]? = some (.cells #[c0, c1, c2, c3, c4] 64 (0, 0))) (hne : b1 ≠ b2) :
    KeepsOthers w1 ((((((w1.setCell ⟨b1, 0, none⟩ (.int .i64 k)).setCell ⟨b2, 0, none⟩ (.int .i64 r.kd)).setCell ⟨b2, 1, none⟩ (.string r.nm)).setCell ⟨b2, 2, none⟩ (.slice r.lo r.ln r.lc)).setCell ⟨b2, 3, none⟩ (.slice r.ao r.an r.ac)).setCell ⟨b2, 4, none⟩ (.int .i64 r.tk)).drew ∧ (((((((w1.setCell ⟨b1, 0, none⟩ (.int .i64 k)).setCell ⟨b2, 0, none⟩ (.int .i64 r.kd)).setCell ⟨b2, 1, none⟩ (.string r.nm)).setCell ⟨b2, 2, none⟩ (.slice r.lo r.ln r.lc)).setCell ⟨b2, 3, none⟩ (.slice r.ao r.an r.ac)).setCell ⟨b2, 4, none⟩ (.int .i64 r.tk)).drew).heap[b1]? = some (.cells #[.int .i64 k] 3 (0, 0)) ∧ (((((((w1.setCell ⟨b1, 0, none⟩ (.int .i64 k)).setCell ⟨b2, 0, none⟩ (.int .i64 r.kd)).setCell ⟨b2, 1, none⟩ (.string r.nm)).setCell ⟨b2, 2, none⟩ (.slice r.lo r.ln r.lc)).setCell ⟨b2, 3, none⟩ (.slice r.ao r.an r.ac)).setCell ⟨b2, 4, none⟩ (.int .i64 r.tk)).drew).heap[b2]? = some (.cells #[.int .i64 r.kd, .string r.nm, .slice r.lo r.ln r.lc, .slice r.ao r.an r.ac, .int .i64 r.tk] 64 (0, 0)) ∧
    ∀ N, N ≤ b1 → N ≤ b2 → Below N w1 ((((((w1.setCell ⟨b1, 0, none⟩ (.int .i64 k)).setCell ⟨b2, 0, none⟩ (.int .i64 r.kd)).setCell ⟨b2, 1, none⟩ (.string r.nm)).setCell ⟨b2, 2, none⟩ (.slice r.lo r.ln r.lc)).setCell ⟨b2, 3, none⟩ (.slice r.ao r.an r.ac)).setCell ⟨b2, 4, none⟩ (.int .i64 r.tk)).drew :=
  ⟨((((((KeepsOthers.setCell _ _ _).trans (KeepsOthers.setCell _ _ _)).trans (KeepsOthers.setCell _ _ _)).trans (KeepsOthers.setCell _ _ _)).trans (KeepsOthers.setCell _ _ _)).trans (KeepsOthers.setCell _ _ _)).trans (KeepsOthers.drew _), by rw [drew_heap]; simp [World.setCell, Array.getElem?_modify, u1, hne, Ne.symm hne], by rw [drew_heap]; simp [World.setCell, Array.getElem?_modify, u2, hne, Ne.symm hne], fun N hb1 hb2 => (((((((Below.refl N w1).setCell (p := ⟨b1, 0, none⟩) hb1 _).setCell (p := ⟨b2, 0, none⟩) hb2 _).setCell (p := ⟨b2, 1, none⟩) hb2 _).setCell (p := ⟨b2, 2, none⟩) hb2 _).setCell (p := ⟨b2, 3, none⟩) hb2 _).setCell (p := ⟨b2, 4, none⟩) hb2 _).drew⟩
theorem topB {w1 : World} {b1 b2 : Nat} {k : Int} {r : RF} {x c0 c1 c2 c3 c4 : Value} (u1 : w1.heap[b1]? = some (.cells #[x] 3 (0, 0))) (u2 : w1.heap[b2]? = some (.cells #[c0, c1, c2, c3, c4] 64 (0, 0))) (hne : b1 ≠ b2) :
    KeepsOthers w1 ((((((w1.setCell ⟨b2, 0, none⟩ (.int .i64 r.kd)).setCell ⟨b2, 1, none⟩ (.string r.nm)).setCell ⟨b2, 2, none⟩ (.slice r.lo r.ln r.lc)).setCell ⟨b2, 3, none⟩ (.slice r.ao r.an r.ac)).setCell ⟨b2, 4, none⟩ (.int .i64 r.tk)).setCell ⟨b1, 0, none⟩ (.int .i64 k)).drew ∧ (((((((w1.setCell ⟨b2, 0, none⟩ (.int .i64 r.kd)).setCell ⟨b2, 1, none⟩ (.string r.nm)).setCell ⟨b2, 2, none⟩ (.slice r.lo r.ln r.lc)).setCell ⟨b2, 3, none⟩ (.slice r.ao r.an r.ac)).setCell ⟨b2, 4, none⟩ (.int .i64 r.tk)).setCell ⟨b1, 0, none⟩ (.int .i64 k)).drew).heap[b1]? = some (.cells #[.int .i64 k] 3 (0, 0)) ∧ (((((((w1.setCell ⟨b2, 0, none⟩ (.int .i64 r.kd)).setCell ⟨b2, 1, none⟩ (.string r.nm)).setCell ⟨b2, 2, none⟩ (.slice r.lo r.ln r.lc)).setCell ⟨b2, 3, none⟩ (.slice r.ao r.an r.ac)).setCell ⟨b2, 4, none⟩ (.int .i64 r.tk)).setCell ⟨b1, 0, none⟩ (.int .i64 k)).drew).heap[b2]? = some (.cells #[.int .i64 r.kd, .string r.nm, .slice r.lo r.ln r.lc, .slice r.ao r.an r.ac, .int .i64 r.tk] 64 (0, 0)) ∧
    ∀ N, N ≤ b1 → N ≤ b2 → Below N w1 ((((((w1.setCell ⟨b2, 0, none⟩ (.int .i64 r.kd)).setCell ⟨b2, 1, none⟩ (.string r.nm)).setCell ⟨b2, 2, none⟩ (.slice r.lo r.ln r.lc)).setCell ⟨b2, 3, none⟩ (.slice r.ao r.an r.ac)).setCell ⟨b2, 4, none⟩ (.int .i64 r.tk)).setCell ⟨b1, 0, none⟩ (.int .i64 k)).drew :=
  ⟨((((((KeepsOthers.setCell _ _ _).trans (KeepsOthers.setCell _ _ _)).trans (KeepsOthers.setCell _ _ _)).trans (KeepsOthers.setCell _ _ _)).trans (KeepsOthers.setCell _ _ _)).trans (KeepsOthers.setCell _ _ _)).trans (KeepsOthers.drew _), by rw [drew_heap]; simp [World.setCell, Array.getElem?_modify, u1, hne, Ne.symm hne], by rw [drew_heap]; simp [World.setCell, Array.getElem?_modify, u2, hne, Ne.symm hne], fun N hb1 hb2 => (((((((Below.refl N w1).setCell (p := ⟨b2, 0, none⟩) hb2 _).setCell (p := ⟨b2, 1, none⟩) hb2 _).setCell (p := ⟨b2, 2, none⟩) hb2 _).setCell (p := ⟨b2, 3, none⟩) hb2 _).setCell (p := ⟨b2, 4, none⟩) hb2 _).setCell (p := ⟨b1, 0, none⟩) hb1 _).drew⟩
theorem topC {w1 : World} {b1 b2 : Nat} {x c0 c1 c2 c3 c4 : Value} (u1 : w1.heap[b1]? = some (.cells #[x] 3 (0, 0))) (u2 : w1.heap[b2]? = some (.cells #[c0, c1, c2, c3, c4] 64 (0, 0))) (hne : b1 ≠ b2) :
    KeepsOthers w1 ((((((w1.setCell ⟨b1, 0, none⟩ (.int .i64 (-1))).setCell ⟨b2, 0, none⟩ (.int .i64 0)).setCell ⟨b2, 1, none⟩ (.string ⟨#[]⟩)).setCell ⟨b2, 2, none⟩ (.slice none 0 0)).setCell ⟨b2, 3, none⟩ (.slice none 0 0)).setCell ⟨b2, 4, none⟩ (.int .i64 0)) ∧ ((((((w1.setCell ⟨b1, 0, none⟩ (.int .i64 (-1))).setCell ⟨b2, 0, none⟩ (.int .i64 0)).setCell ⟨b2, 1, none⟩ (.string ⟨#[]⟩)).setCell ⟨b2, 2, none⟩ (.slice none 0 0)).setCell ⟨b2, 3, none⟩ (.slice none 0 0)).setCell ⟨b2, 4, none⟩ (.int .i64 0)).heap[b1]? = some (.cells #[.int .i64 (-1)] 3 (0, 0)) ∧ ((((((w1.setCell ⟨b1, 0, none⟩ (.int .i64 (-1))).setCell ⟨b2, 0, none⟩ (.int .i64 0)).setCell ⟨b2, 1, none⟩ (.string ⟨#[]⟩)).setCell ⟨b2, 2, none⟩ (.slice none 0 0)).setCell ⟨b2, 3, none⟩ (.slice none 0 0)).setCell ⟨b2, 4, none⟩ (.int .i64 0)).heap[b2]? = some (.cells #[.int .i64 0, .string ⟨#[]⟩, .slice none 0 0, .slice none 0 0, .int .i64 0] 64 (0, 0)) ∧
    ∀ N, N ≤ b1 → N ≤ b2 → Below N w1 ((((((w1.setCell ⟨b1, 0, none⟩ (.int .i64 (-1))).setCell ⟨b2, 0, none⟩ (.int .i64 0)).setCell ⟨b2, 1, none⟩ (.string ⟨#[]⟩)).setCell ⟨b2, 2, none⟩ (.slice none 0 0)).setCell ⟨b2, 3, none⟩ (.slice none 0 0)).setCell ⟨b2, 4, none⟩ (.int .i64 0)) :=
  ⟨((((((KeepsOthers.setCell _ _ _).trans (KeepsOthers.setCell _ _ _)).trans (KeepsOthers.setCell _ _ _)).trans (KeepsOthers.setCell _ _ _)).trans (KeepsOthers.setCell _ _ _)).trans (KeepsOthers.setCell _ _ _)), by simp [World.setCell, Array.getElem?_modify, u1, hne, Ne.symm hne], by simp [World.setCell, Array.getElem?_modify, u2, hne, Ne.symm hne], fun N hb1 hb2 => (((((((Below.refl N w1).setCell (p := ⟨b1, 0, none⟩) hb1 _).setCell (p := ⟨b2, 0, none⟩) hb2 _).setCell (p := ⟨b2, 1, none⟩) hb2 _).setCell (p := ⟨b2, 2, none⟩) hb2 _).setCell (p := ⟨b2, 3, none⟩) hb2 _).setCell (p := ⟨b2, 4, none⟩) hb2 _)⟩
end Go.Proofs.YtfobbcddedcepaaDoor
