/- A file's frame: its lines are laid. -/
import Derived.Test.YtfobbcddedcepaaDoorBH
namespace Go.Proofs.YtfobbcddedcepaaDoor
open Go.RowKit
set_option maxRecDepth 100000
set_option linter.unusedSimpArgs false
set_option linter.unusedVariables false
def mkL (xs : List ByteArray) : List Ln := xs.map fun t => ⟨t, false, 0, 0, []⟩
def mkRL (xs : List ByteArray) : List RL := xs.map fun t => ⟨t, false, 0, 0, none, 0, 0⟩
theorem mkL_is {P : TypeId → Nat → Prop} (w : World) (xs : List ByteArray) : All2 (RlIs P w) (mkRL xs) (mkL xs) := by
  refine ⟨by simp [mkRL, mkL], fun i a b ha hb => ?_⟩
  unfold mkRL at ha
  unfold mkL at hb
  rw [List.getElem?_map] at ha hb
  cases hx : xs[i]? with
  | none => rw [hx] at ha; cases ha
  | some x =>
    rw [hx] at ha hb
    rw [← Option.some.inj ha, ← Option.some.inj hb]
    exact ⟨rfl, rfl, rfl, rfl, fun _ => rfl, Nat.le_refl _, show ((0 : Nat) : Int) ≤ 9223372036854775807 by decide, bxs_none w⟩
/-- The lines behind j rounds. -/
def rowJ (xs : List ByteArray) (n j : Nat) : List RL := mkRL (xs.take j) ++ List.replicate (n - j) RL0
theorem rowJ_len (xs : List ByteArray) (n j : Nat) (h : n ≤ xs.length) (hj : j ≤ n) : (rowJ xs n j).length = n := by
  simp [rowJ, mkRL]; omega
theorem rowJ_at (xs : List ByteArray) (n j : Nat) (h : n ≤ xs.length) (hj : j < n) : (rowJ xs n j)[j]? = some RL0 := by
  unfold rowJ
  rw [List.getElem?_append_right (by simp [mkRL]; omega)]
  rw [List.getElem?_replicate, if_pos (by simp [mkRL]; omega)]
theorem rowJ_set (xs : List ByteArray) (n j : Nat) (x : ByteArray) (h : n ≤ xs.length) (hj : j < n) (hx : xs[j]? = some x) : (rowJ xs n j).set j { RL0 with tx := x } = rowJ xs n (j + 1) := by
  unfold rowJ
  have hl : (mkRL (xs.take j)).length = j := by simp [mkRL]; omega
  rw [List.set_append_right _ _ (by omega), hl, Nat.sub_self]
  have e1 : n - j = (n - (j + 1)) + 1 := by omega
  rw [e1, List.replicate_succ, List.set_cons_zero]
  have hjl := (List.getElem?_eq_some_iff.1 hx).1
  have e2 : xs.take (j + 1) = xs.take j ++ [x] := by
    rw [List.take_succ_eq_append_getElem hjl, (List.getElem?_eq_some_iff.1 hx).2]
  rw [e2]
  simp [mkRL]
theorem rowJ_end (xs : List ByteArray) (n : Nat) (h : n = xs.length) : rowJ xs n n = mkRL xs := by
  unfold rowJ; rw [h, List.take_length, Nat.sub_self]; simp
theorem made_rows (n : Nat) : (madeCells (Value.agg #[.string ⟨#[]⟩, .bool false, .int .i64 0, .int .i64 0, .slice none 0 0]).cells (n * 5)).toList = (List.replicate n RL0).flatMap rlCs := by
  apply List.ext_getElem?
  intro i
  by_cases hi : i < n * 5
  · have h1 := fm_at rl_len (List.replicate n RL0) (i / 5) (i % 5) RL0 (by rw [List.getElem?_replicate, if_pos (by omega)]) (Nat.mod_lt _ (by omega))
    have e : i / 5 * 5 + i % 5 = i := by omega
    rw [e] at h1
    rw [h1, Array.getElem?_toList]
    have hz : (madeCells (Value.agg #[.string ⟨#[]⟩, .bool false, .int .i64 0, .int .i64 0, .slice none 0 0]).cells (n * 5))[i]? = some (#[Value.string ⟨#[]⟩, .bool false, .int .i64 0, .int .i64 0, .slice none 0 0][i % 5]!) := by
      unfold madeCells
      simp only [Array.getElem?_map, Array.getElem?_range, hi, if_true, Option.map_some]
      rfl
    rw [hz]
    have hm : i % 5 < 5 := Nat.mod_lt _ (by omega)
    rcases (show i % 5 = 0 ∨ i % 5 = 1 ∨ i % 5 = 2 ∨ i % 5 = 3 ∨ i % 5 = 4 by omega) with e | e | e | e | e <;> rw [e] <;> rfl
  · rw [List.getElem?_eq_none (by rw [Array.length_toList, size_madeCells]; omega), List.getElem?_eq_none (by rw [fm_len rl_len, List.length_replicate]; omega)]
structure FiR (xs : List ByteArray) (n c : Nat) (G : Nat) (W1 : World) (j : Nat) (wr : World) : Prop where
  row : wr.ownsRow G 31 5 (.slice (some ⟨G, 0, none⟩) n n) n ((rowJ xs n j).flatMap rlCs)
  below : Below G W1 wr
theorem FiR.step {xs : List ByteArray} {n c G j : Nat} {W1 wr : World} {x : ByteArray} (h : FiR xs n c G W1 j wr) (hn : n ≤ xs.length) (hj : j < n) (hx : xs[j]? = some x) : FiR xs n c G W1 (j + 1) (wr.setCell ⟨G, j * 5, none⟩ (.string x)) := by
  have hr := own_set h.row (j * 5 + 0) (by omega) (.string x)
  rw [← fm_set rl_len (rowJ xs n j) j 0 RL0 { RL0 with tx := x } (.string x) (rowJ_at xs n j hn hj) (by omega) rfl, rowJ_set xs n j x hn hj hx] at hr
  exact ⟨hr, h.below.setCell (p := ⟨G, j * 5, none⟩) (Nat.le_refl _) _⟩
/-- A frame and a bool as results. -/
theorem frbool_end {F : Func} {a : Act} {W' : World} {t u g : Nat} {c0 c1 c2 c3 c4 x : Value} {Q : Ending → World → Prop} (hF : F.results = #[.cell t 64, .tmp u]) (hd : a.defers = []) (h2 : a.tmps.getD t undef = .pointer (some ⟨g, 0, none⟩)) (h3 : a.tmps.getD u undef = x)
    (hg : W'.heap[g]? = some (.cells #[c0, c1, c2, c3, c4] 64 (0, 0))) (hQ : Q (.returned (.tuple #[.agg #[c0, c1, c2, c3, c4], x])) W') : bodyPost Tryd.prog F Q Exit.ret a W' := by
  have h2' : a.tmps[t]?.getD undef = .pointer (some ⟨g, 0, none⟩) := by simpa using h2
  have h3' : a.tmps[u]?.getD undef = x := by simpa using h3
  refine bodyPost_ret (v := .tuple #[.agg #[c0, c1, c2, c3, c4], x]) ?_ hd hQ
  obtain ⟨⟨e0, e1, e2, e3, e4⟩, _⟩ := fresh_fr hg
  simp [results, hF, h2', h3', go_sem, e0, e1, e2, e3, e4]
def FrW (w : World) (g : Nat) (kd : Int) (nm : ByteArray) (lo : Option Addr) (ln lc : Nat) (ao : Option Addr) (an ac : Nat) (tk : Int) : World :=
  ((((w.setCell ⟨g, 0, none⟩ (.int .i64 kd)).setCell ⟨g, 1, none⟩ (.string nm)).setCell ⟨g, 2, none⟩ (.slice lo ln lc)).setCell ⟨g, 3, none⟩ (.slice ao an ac)).setCell ⟨g, 4, none⟩ (.int .i64 tk)
theorem frW_at {w : World} {g : Nat} {kd : Int} {nm : ByteArray} {lo : Option Addr} {ln lc : Nat} {ao : Option Addr} {an ac : Nat} {tk : Int} {c0 c1 c2 c3 c4 : Value} (h : w.heap[g]? = some (.cells #[c0, c1, c2, c3, c4] 64 (0, 0))) :
    (FrW w g kd nm lo ln lc ao an ac tk).heap[g]? = some (.cells #[.int .i64 kd, .string nm, .slice lo ln lc, .slice ao an ac, .int .i64 tk] 64 (0, 0)) := by
  simp [FrW, World.setCell, Array.getElem?_modify, h]
theorem frW_far {w : World} {g b : Nat} {kd : Int} {nm : ByteArray} {lo : Option Addr} {ln lc : Nat} {ao : Option Addr} {an ac : Nat} {tk : Int} (hb : b ≠ g) : (FrW w g kd nm lo ln lc ao an ac tk).heap[b]? = w.heap[b]? := by
  unfold FrW
  rw [Below.heap_setCell _ _ _ _ hb, Below.heap_setCell _ _ _ _ hb, Below.heap_setCell _ _ _ _ hb, Below.heap_setCell _ _ _ _ hb, Below.heap_setCell _ _ _ _ hb]
theorem frW_below {u w : World} {B g : Nat} {kd : Int} {nm : ByteArray} {lo : Option Addr} {ln lc : Nat} {ao : Option Addr} {an ac : Nat} {tk : Int} (h : Below B u w) (hg : B ≤ g) : Below B u (FrW w g kd nm lo ln lc ao an ac tk) :=
  ((((h.setCell (p := ⟨g, 0, none⟩) hg _).setCell (p := ⟨g, 1, none⟩) hg _).setCell (p := ⟨g, 2, none⟩) hg _).setCell (p := ⟨g, 3, none⟩) hg _).setCell (p := ⟨g, 4, none⟩) hg _
theorem RfIs.frW {w : World} {g : Nat} {kd : Int} {nm : ByteArray} {lo : Option Addr} {ln lc : Nat} {ao : Option Addr} {an ac : Nat} {tk : Int} {c0 c1 c2 c3 c4 : Value} (h : w.heap[g]? = some (.cells #[c0, c1, c2, c3, c4] 64 (0, 0))) : Dt w (FrW w g kd nm lo ln lc ao an ac tk) := by
  intro e b he hb
  exact frW_far (hb.ne ⟨_, _, h⟩ (by rcases he with rfl | rfl | rfl | rfl <;> decide))
def FileP (nm s : ByteArray) (w : World) (e : Ending) (w' : World) : Prop :=
  ∃ r, e = .returned (.tuple #[rfA r, .bool (okName nm && okLs (mkL (linesS s)))]) ∧ ((okName nm && okLs (mkL (linesS s))) = true → RfIs (Tg w') w' r ⟨1, nm, mkL (linesS s), [], 0⟩) ∧ Below w.heap.size w w'
end Go.Proofs.YtfobbcddedcepaaDoor
