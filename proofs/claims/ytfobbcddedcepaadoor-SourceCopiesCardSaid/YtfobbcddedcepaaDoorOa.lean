/- Arguments that came in: slices of strings, of lines. -/
import Derived.Test.YtfobbcddedcepaaDoorSB
import Derived.Test.YtfobbcddedcepaaDoorRow
import Derived.Deep.Slices
import Derived.Deep.Fields
import Derived.SizedLaws
namespace Go.Proofs.YtfobbcddedcepaaDoor
open Go.RowKit Go.Deep Go.ChangeShapes Go.WideShapes Go.ChangeMaps
set_option maxRecDepth 100000
set_option linter.unusedSimpArgs false
set_option linter.unusedVariables false
section
variable {H : Type} {enc : TypeId × Value → H} {W : World} {sp : Nat → Bool} {held : Bool}
/-- What a datum holds is within the reach. -/
def Sm (t : TypeId) (d : DataW H) : Prop := ∀ n ∈ d.weights Tryd.prog t, n ≤ reachBytes
theorem Sm.str {l : List UInt8} (h : Sm (H := H) 9 (.lit (.string l))) : l.length ≤ reachBytes := h _ (by simp [DataW.weights])
theorem Sm.slice {t e : TypeId} {xs ys : List (DataW H)} (ht : Tryd.prog.underlying t = some (.slice e)) (h : Sm t (.slice xs ys)) : (xs.length + ys.length) * Tryd.prog.bytesOf e ≤ reachBytes ∧ ∀ x ∈ xs, Sm e x := by
  constructor
  · exact h _ (by simp [DataW.weights, ht])
  · intro x hx n hn
    refine h n ?_
    simp only [DataW.weights, ht]
    refine List.mem_cons_of_mem _ (List.mem_append_left _ ?_)
    clear h
    induction xs with
    | nil => cases hx
    | cons a t ih =>
      simp only [DataW.weightsAll, List.mem_append]
      rcases List.mem_cons.1 hx with rfl | hx
      · exact .inl hn
      · exact .inr (ih hx)
theorem Sm.field {t : TypeId} {fs : Array Field} {ds : List (DataW H)} (ht : Tryd.prog.underlying t = some (.struct fs)) (h : Sm t (.agg ds)) (j : Nat) (f : Field) (d : DataW H) (hf : fs[j]? = some f) (hd : ds[j]? = some d) : Sm f.type d := by
  intro n hn
  refine h n ?_
  simp only [DataW.weights, ht]
  exact DataW.weights_mem_each (ts := fs.toList.map (·.type)) (j := j) (t := f.type) (by rw [List.getElem?_map, Array.getElem?_toList, hf]; rfl) hd n hn
/-- The fields of a struct, a cell each. -/
theorem fields_of {e : TypeId} {fs : Array Field} {n : Nat} {cs : List Value} {d : DataW H} {p : List MemPlace} (he : Tryd.prog.underlying e = some (.struct fs)) (hone : oneCellFields Tryd.prog fs = true) (h : DataW.trod enc Tryd.prog W 0 sp held n e cs = some (d, p)) :
    ∃ (ys : List (DataW H × List MemPlace)) (k : Nat), d = .agg (ys.map (·.1)) ∧ ys.length = fs.size ∧ ∀ (j : Nat) (f : Field) (c : Value), fs[j]? = some f → cs[j]? = some c → ∃ y, ys[j]? = some y ∧ DataW.trod enc Tryd.prog W 0 sp held k f.type [c] = some y := by
  obtain ⟨ys, k, _, hx, _, hyl, hf⟩ := DataW.trod_struct he h
  simp only [Prod.mk.injEq] at hx
  refine ⟨ys, k, hx.1, hyl, fun j f c hj hc => ?_⟩
  obtain ⟨ho, hk⟩ := hone_of hone j f hj
  have h1 := hf j f hj
  rw [ho, hk] at h1
  have hjl := (List.getElem?_eq_some_iff.1 hc).1
  have e1 : (cs.drop j).take 1 = [c] := by
    rw [List.drop_eq_getElem_cons hjl, (List.getElem?_eq_some_iff.1 hc).2]; rfl
  rw [e1] at h1
  have hy : j < ys.length := by rw [hyl]; exact (Array.getElem?_eq_some_iff.1 hj).1
  rw [List.getElem?_eq_getElem hy] at h1 ⊢
  exact ⟨_, rfl, h1⟩
end
/-- A list of what there is at each place. -/
theorem list_of {α : Type} (n : Nat) (p : Nat → α → Prop) (h : ∀ i, i < n → ∃ x, p i x) : ∃ xs : List α, xs.length = n ∧ ∀ i x, xs[i]? = some x → p i x := by
  induction n with
  | zero => exact ⟨[], rfl, fun i x h => by simp at h⟩
  | succ n ih =>
    obtain ⟨xs, hl, hx⟩ := ih (fun i hi => h i (by omega))
    obtain ⟨x, hp⟩ := h n (by omega)
    refine ⟨xs ++ [x], by simp [hl], fun i y hy => ?_⟩
    by_cases hi : i < xs.length
    · rw [List.getElem?_append_left hi] at hy; exact hx i y hy
    · rw [List.getElem?_append_right (by omega)] at hy
      have hi2 : i - xs.length = 0 := by
        have := (List.getElem?_eq_some_iff.1 hy).1
        simp at this; omega
      rw [hi2] at hy
      simp only [List.getElem?_cons_zero, Option.some.injEq] at hy
      subst hy
      rw [show i = n by omega]; exact hp
theorem fm_inv {α : Type} {f : α → List Value} {m : Nat} (hf : ∀ x, (f x).length = m) : ∀ (l : List α) (j : Nat) (u : Value), (l.flatMap f)[j]? = some u → ∃ (i k : Nat) (x : α), j = i * m + k ∧ k < m ∧ l[i]? = some x ∧ (f x)[k]? = some u
  | [], j, u, h => by simp at h
  | x :: t, j, u, h => by
    rw [List.flatMap_cons] at h
    by_cases hj : j < m
    · rw [List.getElem?_append_left (by rw [hf]; exact hj)] at h
      exact ⟨0, j, x, by omega, hj, rfl, h⟩
    · rw [List.getElem?_append_right (by rw [hf]; omega), hf] at h
      obtain ⟨i, k, y, h1, h2, h3, h4⟩ := fm_inv hf t (j - m) u h
      exact ⟨i + 1, k, y, by rw [Nat.add_mul]; omega, h2, by simpa using h3, h4⟩
theorem spot_none {w : World} {a : Addr} {v : Value} (h : w.cell? a = some v) : a = ⟨a.block, a.off, none⟩ ∧ a.block < w.heap.size := by
  have hb := World.block_lt_of_cell? w a h
  obtain ⟨b, o, s⟩ := a
  cases s with
  | none => exact ⟨rfl, hb⟩
  | some k =>
    unfold World.cell? at h
    split at h <;> simp at h
/-- A slice that came in reads as a row; each element is what its datum says. -/
theorem open_row {H : Type} {enc : TypeId × Value → H} {W : World} {sp : Nat → Bool} {held : Bool} {t e : TypeId} {m fuel : Nat} {v : Value} {d : DataW H} {p : List MemPlace} (ht : Tryd.prog.underlying t = some (.slice e)) (hC : Tryd.prog.cellsOf e = m) (hm : 0 < m)
    (h : DataW.trod enc Tryd.prog W 0 sp held fuel t [v] = some (d, p)) {α : Type} {f : α → List Value} (hf : ∀ x, (f x).length = m) (Q : DataW H → α → Prop)
    (hel : ∀ n cs' d' p', DataW.trod enc Tryd.prog W 0 sp held n e cs' = some (d', p') → cs'.length = m → ∃ r, cs' = f r ∧ Q d' r) :
    ∃ (A : Option Addr) (len cap : Nat) (rs : List α), v = .slice A len cap ∧ (A = none → len = 0) ∧ len ≤ cap ∧ cap ≤ maxLen ∧ rs.length = len ∧ ReadsP (fun b => b < W.heap.size) W m A len (rs.flatMap f) ∧
      ((len = 0 ∧ d = .nil) ∨ ∃ D S : List (DataW H), d = .slice D S ∧ D.length = len ∧ D.length + S.length = (if sp (match A with | some a => a.block | none => 0) then cap else len) ∧ ∀ (i : Nat) (x : DataW H) (r : α), D[i]? = some x → rs[i]? = some r → Q x r) := by
  rcases open_slice ht h with ⟨hcs, hx⟩ | ⟨a, len, cap, m', n, D, Pl, hcs, hb, hl, hmx, hmm, hx, hel'⟩
  · simp only [List.cons.injEq, and_true] at hcs
    simp only [Prod.mk.injEq] at hx
    exact ⟨none, 0, 0, [], hcs, fun _ => rfl, Nat.le_refl _, Nat.zero_le _, rfl, ⟨by simp, fun h => absurd h (by omega)⟩, .inl ⟨rfl, hx.1⟩⟩
  · simp only [List.cons.injEq, and_true] at hcs
    simp only [Prod.mk.injEq] at hx
    rw [hC] at hel'
    have hle : len ≤ m' := by rw [hmm]; split <;> omega
    obtain ⟨rs, hrl, hrs⟩ := list_of len (fun i r => (∀ k u, (f r)[k]? = some u → W.cell? (a.add (i * m + k)) = some u) ∧ Q (D i) r) (fun i hi => by
      obtain ⟨cs', h1, h2⟩ := hel' i (by omega)
      obtain ⟨_, hlen, hcell⟩ := World.cells?_some h1
      obtain ⟨r, hr, hq⟩ := hel n cs' _ _ h2 hlen
      refine ⟨r, fun k u hu => ?_, hq⟩
      have hk : k < m := by have := (List.getElem?_eq_some_iff.1 hu).1; rw [hf] at this; exact this
      have := hcell k hk
      rw [Go.Deep.add_add, hr, hu] at this
      exact this)
    refine ⟨some a, len, cap, rs, hcs, (fun e => by cases e), hl, hmx, hrl, ⟨by rw [fm_len hf, hrl], fun hn => ?_⟩, .inr ⟨_, _, hx.1, by simp, by simp; omega, fun i x r hi hr => ?_⟩⟩
    · have h0 : rs[0]? = some (rs[0]'(by omega)) := List.getElem?_eq_getElem (by omega)
      have h00 : (f (rs[0]'(by omega)))[0]? = some ((f (rs[0]'(by omega)))[0]'(by rw [hf]; exact hm)) := List.getElem?_eq_getElem _
      have hc0 := (hrs 0 _ h0).1 0 _ h00
      have ha0 : a.add (0 * m + 0) = a := by simp [Addr.add]
      rw [ha0] at hc0
      obtain ⟨hs, hbl⟩ := spot_none hc0
      refine ⟨a.block, a.off, by rw [← hs], hbl, fun j u hu => ?_⟩
      obtain ⟨i, k, x, hj, hk, hi, hxk⟩ := fm_inv hf rs j u hu
      have := (hrs i x hi).1 k u hxk
      rw [hs, cell_add] at this
      rw [hj]; exact this
    · have hil : i < len := by have := (List.getElem?_eq_some_iff.1 hi).1; simpa using this
      rw [List.getElem?_map, List.getElem?_range hil] at hi
      simp only [Option.map_some, Option.some.injEq] at hi
      subst hi
      exact (hrs i r hr).2
end Go.Proofs.YtfobbcddedcepaaDoor
/- Arguments that came in: lines, strings. -/
namespace Go.Proofs.YtfobbcddedcepaaDoor
open Go.RowKit Go.Deep Go.ChangeShapes Go.WideShapes Go.ChangeMaps
set_option maxRecDepth 100000
set_option linter.unusedSimpArgs false
set_option linter.unusedVariables false
theorem by_int : Tryd.prog.bytesOf 3 = 8 := by kernel_rfl
theorem by_box : Tryd.prog.bytesOf 85 = 88 := by kernel_rfl
theorem by_line : Tryd.prog.bytesOf 31 = 64 := by kernel_rfl
theorem by_str : Tryd.prog.bytesOf 9 = 16 := by kernel_rfl
theorem ce_int : Tryd.prog.cellsOf 3 = 1 := by kernel_rfl
theorem ce_box : Tryd.prog.cellsOf 85 = 7 := by kernel_rfl
theorem ce_line : Tryd.prog.cellsOf 31 = 5 := by kernel_rfl
theorem ce_str : Tryd.prog.cellsOf 9 = 1 := by kernel_rfl
section
variable {H : Type} {enc : TypeId × Value → H} {W : World} {sp : Nat → Bool} {held : Bool}
theorem reach47 {n : Nat} (h : n ≤ reachBytes) : n ≤ 140737488351232 := h
theorem open_ns {n : Nat} {v : Value} {d : DataW H} {p : List MemPlace} (h : DataW.trod enc Tryd.prog W 0 sp held n 83 [v] = some (d, p)) :
    ∃ (A : Option Addr) (len cap : Nat) (ns : List Int), v = .slice A len cap ∧ (A = none → len = 0) ∧ len ≤ cap ∧ (cap : Int) ≤ 9223372036854775807 ∧ len = ns.length ∧ ReadsP (fun b => b < W.heap.size) W 1 A len (intCs ns) ∧ (Sm 83 d → len * 8 ≤ 140737488351232) := by
  obtain ⟨A, len, cap, rs, hv, hA, hl, hm, hrl, hr, hd⟩ := open_row (α := Int) (f := fun z => [.int .i64 z]) Tryd.underlying83 ce_int (by omega) h (fun _ => rfl) (fun _ _ => True) (fun n cs' d' p' h' hlen => by
    obtain ⟨z, hz, _⟩ := DataW.trod_int Tryd.underlying3 h'
    exact ⟨z, hz, trivial⟩)
  refine ⟨A, len, cap, rs, hv, hA, hl, by unfold maxLen at hm; omega, hrl.symm, ?_, fun hs => ?_⟩
  · have e : rs.flatMap (fun z => [Value.int .i64 z]) = intCs rs := by
      unfold intCs
      clear hr hd hrl
      induction rs with
      | nil => rfl
      | cons a t ih => rw [List.flatMap_cons, ih]; rfl
    rw [e] at hr; exact hr
  · rcases hd with ⟨h0, _⟩ | ⟨D, S, hd, hD, _, _⟩
    · omega
    · rw [hd] at hs
      have := reach47 (hs.slice Tryd.underlying83).1
      rw [by_int, hD] at this
      have : len * 8 ≤ (len + S.length) * 8 := Nat.mul_le_mul_right _ (by omega)
      omega
theorem open_box {n : Nat} {cs : List Value} {d : DataW H} {p : List MemPlace} (h : DataW.trod enc Tryd.prog W 0 sp held n 85 cs = some (d, p)) (hl : cs.length = 7) :
    ∃ r : RB, cs = rbCs r ∧ (Sm 85 d → ∃ x, RbIs (Lt W) W r x) := by
  obtain ⟨ys, k, hd, hyl, hf⟩ := fields_of Tryd.underlying85 (by kernel_rfl) h
  match cs, hl with
  | [c0, c1, c2, c3, c4, c5, c6], _ =>
    obtain ⟨y0, hy0, g0⟩ := hf 0 _ c0 rfl rfl
    obtain ⟨y1, hy1, g1⟩ := hf 1 _ c1 rfl rfl
    obtain ⟨y2, hy2, g2⟩ := hf 2 _ c2 rfl rfl
    obtain ⟨y3, hy3, g3⟩ := hf 3 _ c3 rfl rfl
    obtain ⟨y4, hy4, g4⟩ := hf 4 _ c4 rfl rfl
    obtain ⟨y5, hy5, g5⟩ := hf 5 _ c5 rfl rfl
    obtain ⟨y6, hy6, g6⟩ := hf 6 _ c6 rfl rfl
    obtain ⟨z0, e0, _⟩ := DataW.trod_int Tryd.underlying3 g0
    obtain ⟨z1, e1, _⟩ := DataW.trod_int Tryd.underlying3 g1
    obtain ⟨z2, e2, _⟩ := DataW.trod_int Tryd.underlying3 g2
    obtain ⟨z3, e3, _⟩ := DataW.trod_int Tryd.underlying3 g3
    obtain ⟨s4, e4, _⟩ := DataW.trod_string Tryd.underlying9 g4
    obtain ⟨s5, e5, _⟩ := DataW.trod_string Tryd.underlying9 g5
    obtain ⟨A, len, cap, ns, e6, hA, hlc, hcap, hlen, hr, hsm⟩ := open_ns (d := y6.1) (p := y6.2) g6
    simp only [List.cons.injEq, and_true] at e0 e1 e2 e3 e4 e5
    refine ⟨⟨z0, z1, z2, z3, s4, s5, A, len, cap⟩, by rw [e0, e1, e2, e3, e4, e5, e6]; rfl, fun hs => ⟨⟨z0, z1, z2, z3, s4, s5, ns⟩, ?_⟩⟩
    have hs6 : Sm 83 y6.1 := by
      rw [hd] at hs
      exact hs.field Tryd.underlying85 6 _ y6.1 rfl (by rw [List.getElem?_map, hy6]; rfl)
    exact ⟨rfl, rfl, rfl, rfl, rfl, rfl, hlen, hA, hlc, hcap, by have := hsm hs6; simp only; omega, hr⟩
theorem open_bxs {n : Nat} {v : Value} {d : DataW H} {p : List MemPlace} (h : DataW.trod enc Tryd.prog W 0 sp held n 29 [v] = some (d, p)) :
    ∃ (A : Option Addr) (len cap : Nat), v = .slice A len cap ∧ (A = none → len = 0) ∧ len ≤ cap ∧ (cap : Int) ≤ 9223372036854775807 ∧ (Sm 29 d → len * 88 ≤ 140737488351232 ∧ ∃ bs, BxsAt (Lt W) W A len bs) := by
  obtain ⟨A, len, cap, rs, hv, hA, hl, hm, hrl, hr, hd⟩ := open_row (α := RB) (f := rbCs) Tryd.underlying29 ce_box (by omega) h rb_len (fun d r => Sm 85 d → ∃ x, RbIs (Lt W) W r x) (fun n cs' d' p' h' hlen => open_box h' hlen)
  refine ⟨A, len, cap, hv, hA, hl, by unfold maxLen at hm; omega, fun hs => ?_⟩
  rcases hd with ⟨h0, _⟩ | ⟨D, S, hd, hD, _, hq⟩
  · subst h0
    exact ⟨by omega, [], ⟨⟨[], ⟨rfl, fun h => absurd h (Nat.lt_irrefl 0)⟩, rfl, fun i a b h _ => by simp at h⟩, rfl⟩⟩
  · rw [hd] at hs
    have h1 := hs.slice Tryd.underlying29
    have h2 := reach47 h1.1
    rw [by_box, hD] at h2
    refine ⟨by have : len * 88 ≤ (len + S.length) * 88 := Nat.mul_le_mul_right _ (by omega); omega, ?_⟩
    obtain ⟨bs, hbl, hbs⟩ := list_of len (fun i x => ∀ r, rs[i]? = some r → RbIs (Lt W) W r x) (fun i hi => by
      have hdi : D[i]? = some (D[i]'(by omega)) := List.getElem?_eq_getElem (by omega)
      have hri : rs[i]? = some (rs[i]'(by omega)) := List.getElem?_eq_getElem (by omega)
      obtain ⟨x, hx⟩ := hq i _ _ hdi hri (h1.2 _ (List.getElem_mem _))
      exact ⟨x, fun r hr => by rw [hri] at hr; injection hr with hr; rw [← hr]; exact hx⟩)
    exact ⟨bs, ⟨⟨rs, hr, by rw [hrl, hbl], fun i r x hr' hx => hbs i x hx r hr'⟩, hbl.symm⟩⟩
theorem open_line {n : Nat} {cs : List Value} {d : DataW H} {p : List MemPlace} (h : DataW.trod enc Tryd.prog W 0 sp held n 31 cs = some (d, p)) (hl : cs.length = 5) :
    ∃ r : RL, cs = rlCs r ∧ (Sm 31 d → r.tx.size ≤ 140737488351232 ∧ r.bn * 88 ≤ 140737488351232 ∧ ∃ l, RlIs (Lt W) W r l) := by
  obtain ⟨ys, k, hd, hyl, hf⟩ := fields_of Tryd.underlying31 (by kernel_rfl) h
  match cs, hl with
  | [c0, c1, c2, c3, c4], _ =>
    obtain ⟨y0, hy0, g0⟩ := hf 0 _ c0 rfl rfl
    obtain ⟨y1, hy1, g1⟩ := hf 1 _ c1 rfl rfl
    obtain ⟨y2, hy2, g2⟩ := hf 2 _ c2 rfl rfl
    obtain ⟨y3, hy3, g3⟩ := hf 3 _ c3 rfl rfl
    obtain ⟨y4, hy4, g4⟩ := hf 4 _ c4 rfl rfl
    obtain ⟨s0, e0, hs0, _⟩ := DataW.trod_string Tryd.underlying9 g0
    obtain ⟨b1, e1, _⟩ := DataW.trod_bool Tryd.underlying4 g1
    obtain ⟨z2, e2, _⟩ := DataW.trod_int Tryd.underlying3 g2
    obtain ⟨z3, e3, _⟩ := DataW.trod_int Tryd.underlying3 g3
    obtain ⟨A, len, cap, e4, hA, hlc, hcap, hsm⟩ := open_bxs (d := y4.1) (p := y4.2) g4
    simp only [List.cons.injEq, and_true] at e0 e1 e2 e3
    refine ⟨⟨s0, b1, z2, z3, A, len, cap⟩, by rw [e0, e1, e2, e3, e4]; rfl, fun hs => ?_⟩
    rw [hd] at hs
    have h0 : Sm (H := H) 9 (.lit (.string s0.data.toList)) := by
      have := hs.field Tryd.underlying31 0 _ y0.1 rfl (by rw [List.getElem?_map, hy0]; rfl)
      rw [hs0] at this; exact this
    have h4 : Sm 29 y4.1 := hs.field Tryd.underlying31 4 _ y4.1 rfl (by rw [List.getElem?_map, hy4]; rfl)
    obtain ⟨h5, bs, hbs⟩ := hsm h4
    have h6 := reach47 h0.str
    rw [show s0.data.toList.length = s0.size by simp] at h6
    exact ⟨h6, h5, ⟨s0, b1, z2, z3, bs⟩, rfl, rfl, rfl, rfl, hA, hlc, hcap, hbs⟩
theorem open_lines {n : Nat} {v : Value} {d : DataW H} {p : List MemPlace} (h : DataW.trod enc Tryd.prog W 0 sp held n 35 [v] = some (d, p)) (hs : Sm 35 d) :
    ∃ (A : Option Addr) (len cap : Nat) (ls : List Ln), v = .slice A len cap ∧ (A = none → len = 0) ∧ len ≤ cap ∧ (cap : Int) ≤ 9223372036854775807 ∧ len * 64 ≤ 140737488351232 ∧ LnsAt (Lt W) W A len ls ∧ (∀ l ∈ ls, l.tx.size ≤ 140737488351232 ∧ l.bx.length ≤ 140737488351232) := by
  obtain ⟨A, len, cap, rs, hv, hA, hl, hm, hrl, hr, hd⟩ := open_row (α := RL) (f := rlCs) Tryd.underlying35 ce_line (by omega) h rl_len (fun d r => Sm 31 d → r.tx.size ≤ 140737488351232 ∧ r.bn * 88 ≤ 140737488351232 ∧ ∃ l, RlIs (Lt W) W r l) (fun n cs' d' p' h' hlen => open_line h' hlen)
  rcases hd with ⟨h0, _⟩ | ⟨D, S, hd, hD, _, hq⟩
  · subst h0
    exact ⟨A, 0, cap, [], hv, hA, hl, by unfold maxLen at hm; omega, by omega, ⟨⟨[], ⟨rfl, fun h => absurd h (Nat.lt_irrefl 0)⟩, rfl, fun i a b h _ => by simp at h⟩, rfl⟩, fun l hl => by cases hl⟩
  · rw [hd] at hs
    have h1 := hs.slice Tryd.underlying35
    have h2 := reach47 h1.1
    rw [by_line, hD] at h2
    obtain ⟨ls, hll, hls⟩ := list_of len (fun i l => (∀ r, rs[i]? = some r → RlIs (Lt W) W r l) ∧ l.tx.size ≤ 140737488351232 ∧ l.bx.length ≤ 140737488351232) (fun i hi => by
      have hdi : D[i]? = some (D[i]'(by omega)) := List.getElem?_eq_getElem (by omega)
      have hri : rs[i]? = some (rs[i]'(by omega)) := List.getElem?_eq_getElem (by omega)
      obtain ⟨q1, q2, l, hx⟩ := hq i _ _ hdi hri (h1.2 _ (List.getElem_mem _))
      refine ⟨l, fun r hr => by rw [hri] at hr; injection hr with hr; rw [← hr]; exact hx, by rw [← hx.tx]; exact q1, ?_⟩
      rw [← hx.bx.len]; omega)
    refine ⟨A, len, cap, ls, hv, hA, hl, by unfold maxLen at hm; omega, by have : len * 64 ≤ (len + S.length) * 64 := Nat.mul_le_mul_right _ (by omega); omega, ⟨⟨rs, hr, by rw [hrl, hll], fun i r l hr' hl' => (hls i l hl').1 r hr'⟩, hll.symm⟩, fun l hl' => ?_⟩
    obtain ⟨i, hi⟩ := List.getElem?_of_mem hl'
    exact (hls i l hi).2
/-- Strings in a slice. -/
theorem strs_cs (ss : List ByteArray) : ss.flatMap (fun s => [Value.string s]) = strCs ss := by
  unfold strCs
  induction ss with
  | nil => rfl
  | cons a t ih => rw [List.flatMap_cons, ih]; rfl
theorem open_ss {n : Nat} {v : Value} {d : DataW H} {p : List MemPlace} (h : DataW.trod enc Tryd.prog W 0 sp held n 36 [v] = some (d, p)) (hs : Sm 36 d) :
    ∃ (A : Option Addr) (len cap : Nat) (ss : List ByteArray), v = .slice A len cap ∧ SsIn W A len cap ss := by
  obtain ⟨A, len, cap, rs, hv, hA, hl, hm, hrl, hr, hd⟩ := open_row (α := ByteArray) (f := fun s => [.string s]) Tryd.underlying36 ce_str (by omega) h (fun _ => rfl) (fun d s => True) (fun n cs' d' p' h' hlen => by
    obtain ⟨s, hz, hx, _⟩ := DataW.trod_string Tryd.underlying9 h'
    exact ⟨s, hz, trivial⟩)
  rw [strs_cs] at hr
  refine ⟨A, len, cap, rs, hv, ⟨⟨hr, hrl.symm⟩, hA, hl, by unfold maxLen at hm; omega, ?_⟩⟩
  rcases hd with ⟨h0, _⟩ | ⟨D, S, hd, hD, _, hq⟩
  · omega
  · rw [hd] at hs
    have h2 := reach47 (hs.slice Tryd.underlying36).1
    rw [by_str, hD] at h2
    have : len * 16 ≤ (len + S.length) * 16 := Nat.mul_le_mul_right _ (by omega)
    omega
end
end Go.Proofs.YtfobbcddedcepaaDoor
/- Deeds in a slice. -/
namespace Go.Proofs.YtfobbcddedcepaaDoor
open Go.RowKit Go.Deep Go.ChangeShapes Go.WideShapes Go.ChangeMaps
set_option maxRecDepth 100000
set_option linter.unusedSimpArgs false
set_option linter.unusedVariables false
structure Dd where
  k : Int
  nm : ByteArray
  tx : ByteArray
  A : Option Addr
  n : Nat
  c : Nat
  B : Option Addr
  m : Nat
  e : Nat
  a : Int
  ls : List Ln
  ss : List ByteArray
def ddCs (d : Dd) : List Value := [.int .i64 d.k, .string d.nm, .string d.tx, .slice d.A d.n d.c, .slice d.B d.m d.e, .int .i64 d.a]
abbrev ddV (d : Dd) : Value := .agg #[.int .i64 d.k, .string d.nm, .string d.tx, .slice d.A d.n d.c, .slice d.B d.m d.e, .int .i64 d.a]
theorem dd_len (d : Dd) : (ddCs d).length = 6 := rfl
structure DdOk (W : World) (d : Dd) : Prop where
  ls : LsIn W d.A d.n d.c d.ls
  ss : SsIn W d.B d.m d.e d.ss
  fit : d.n * 64 ≤ 140737488351232
  txs : ∀ l ∈ d.ls, l.tx.size ≤ 140737488351232
  bxs : ∀ l ∈ d.ls, l.bx.length ≤ 140737488351232
  nm : d.nm.size ≤ 140737488351232
  tx : d.tx.size ≤ 140737488351232
  k9 : I64 d.k
  a9 : I64 d.a
theorem DdOk.below {w w' : World} {d : Dd} (h : DdOk w d) (k : Below w.heap.size w w') : DdOk w' d := ⟨h.ls.below k, h.ss.below k, h.fit, h.txs, h.bxs, h.nm, h.tx, h.k9, h.a9⟩
theorem reads_dd {P : Nat → Prop} {w : World} {A : Option Addr} {n : Nat} {ds : List Dd} (h : ReadsP P w 6 A n (ds.flatMap ddCs)) (j : Nat) (r : Dd) (hr : ds[j]? = some r) :
    ∃ b off, A = some ⟨b, off, none⟩ ∧ P b ∧ w.cell? ⟨b, off + j * 6, none⟩ = some (.int .i64 r.k) ∧ w.cell? ⟨b, off + j * 6 + 1, none⟩ = some (.string r.nm) ∧ w.cell? ⟨b, off + j * 6 + 2, none⟩ = some (.string r.tx) ∧ w.cell? ⟨b, off + j * 6 + 3, none⟩ = some (.slice r.A r.n r.c) ∧ w.cell? ⟨b, off + j * 6 + 4, none⟩ = some (.slice r.B r.m r.e) ∧ w.cell? ⟨b, off + j * 6 + 5, none⟩ = some (.int .i64 r.a) := by
  have hjl : j < ds.length := (List.getElem?_eq_some_iff.1 hr).1
  have h1 := h.1
  rw [fm_len dd_len] at h1
  obtain ⟨b, off, hA, hp, hc⟩ := h.2 (by omega)
  have key := fun k (hk : k < 6) => fm_at dd_len ds j k r hr hk
  have key2 : ∀ k (hk : k < 6) u, (ddCs r)[k]? = some u → w.cell? ⟨b, off + j * 6 + k, none⟩ = some u := by
    intro k hk u hu
    have := hc _ _ ((key k hk).trans hu)
    rwa [← Nat.add_assoc] at this
  exact ⟨b, off, hA, hp, key2 0 (by omega) _ rfl, key2 1 (by omega) _ rfl, key2 2 (by omega) _ rfl, key2 3 (by omega) _ rfl, key2 4 (by omega) _ rfl, key2 5 (by omega) _ rfl⟩
theorem bg_cases (j n : Nat) (m : Int) : (decide (j < n) = true ∧ decide (m < 8000) = true) ∨ (decide (j < n) = true ∧ decide (m < 8000) = false) ∨ decide (j < n) = false := by
  rcases Bool.eq_false_or_eq_true (decide (j < n)) with h | h
  · rcases Bool.eq_false_or_eq_true (decide (m < 8000)) with h' | h'
    · exact .inl ⟨h, h'⟩
    · exact .inr (.inl ⟨h, h'⟩)
  · exact .inr (.inr h)
theorem ce_deed : Tryd.prog.cellsOf 38 = 6 := by kernel_rfl
section
variable {H : Type} {enc : TypeId × Value → H} {W : World} {sp : Nat → Bool} {held : Bool}
theorem sl_shape {n : Nat} {t e : TypeId} {c : Value} {d : DataW H} {p : List MemPlace} (ht : Tryd.prog.underlying t = some (.slice e)) (h : DataW.trod enc Tryd.prog W 0 sp held n t [c] = some (d, p)) : ∃ A l k, c = .slice A l k := by
  rcases Go.Deep.open_slice ht h with ⟨hcs, _⟩ | ⟨a, len, cap, m', n, D, Pl, hcs, _⟩
  · simp only [List.cons.injEq, and_true] at hcs
    exact ⟨_, _, _, hcs⟩
  · simp only [List.cons.injEq, and_true] at hcs
    exact ⟨_, _, _, hcs⟩
theorem str_len (s : ByteArray) (h : Sm (H := H) 9 (.lit (.string s.data.toList))) : s.size ≤ 140737488351232 := by
  have := reach47 h.str
  rwa [show s.data.toList.length = s.size by simp] at this
theorem open_deed {n : Nat} {cs : List Value} {d : DataW H} {p : List MemPlace} (h : DataW.trod enc Tryd.prog W 0 sp held n 38 cs = some (d, p)) (hl : cs.length = 6) :
    ∃ r : Dd, cs = ddCs r ∧ (Sm 38 d → DdOk W r) := by
  obtain ⟨ys, k, hd, hyl, hf⟩ := fields_of Tryd.underlying38 (by kernel_rfl) h
  match cs, hl with
  | [c0, c1, c2, c3, c4, c5], _ =>
    obtain ⟨y0, hy0, g0⟩ := hf 0 _ c0 rfl rfl
    obtain ⟨y1, hy1, g1⟩ := hf 1 _ c1 rfl rfl
    obtain ⟨y2, hy2, g2⟩ := hf 2 _ c2 rfl rfl
    obtain ⟨y3, hy3, g3⟩ := hf 3 _ c3 rfl rfl
    obtain ⟨y4, hy4, g4⟩ := hf 4 _ c4 rfl rfl
    obtain ⟨y5, hy5, g5⟩ := hf 5 _ c5 rfl rfl
    obtain ⟨z0, e0, _, w0⟩ := DataW.trod_int Tryd.underlying3 g0
    obtain ⟨s1, e1, hs1, _⟩ := DataW.trod_string Tryd.underlying9 g1
    obtain ⟨s2, e2, hs2, _⟩ := DataW.trod_string Tryd.underlying9 g2
    obtain ⟨A0, l0, k0, e3⟩ := sl_shape Tryd.underlying35 (d := y3.1) (p := y3.2) g3
    obtain ⟨B0, m0, q0, e4⟩ := sl_shape Tryd.underlying36 (d := y4.1) (p := y4.2) g4
    obtain ⟨z5, e5, _, w5⟩ := DataW.trod_int Tryd.underlying3 g5
    simp only [List.cons.injEq, and_true] at e0 e1 e2 e3 e4 e5
    by_cases hs : Sm 38 d
    · have hs' := hs
      rw [hd] at hs'
      have q1 : Sm (H := H) 9 (.lit (.string s1.data.toList)) := by
        have := hs'.field Tryd.underlying38 1 _ y1.1 rfl (by rw [List.getElem?_map, hy1]; rfl)
        rw [hs1] at this; exact this
      have q2 : Sm (H := H) 9 (.lit (.string s2.data.toList)) := by
        have := hs'.field Tryd.underlying38 2 _ y2.1 rfl (by rw [List.getElem?_map, hy2]; rfl)
        rw [hs2] at this; exact this
      have q3 : Sm 35 y3.1 := hs'.field Tryd.underlying38 3 _ y3.1 rfl (by rw [List.getElem?_map, hy3]; rfl)
      have q4 : Sm 36 y4.1 := hs'.field Tryd.underlying38 4 _ y4.1 rfl (by rw [List.getElem?_map, hy4]; rfl)
      obtain ⟨A, l, c, ls, e3', hA, hlc, hcap, hfit, hls, hx⟩ := open_lines (d := y3.1) (p := y3.2) g3 q3
      obtain ⟨B, m, e, ss, e4', hss⟩ := open_ss (d := y4.1) (p := y4.2) g4 q4
      exact ⟨⟨z0, s1, s2, A, l, c, B, m, e, z5, ls, ss⟩, by rw [e0, e1, e2, e3', e4', e5]; rfl, fun _ => ⟨⟨hls, hA, hlc, hcap⟩, hss, hfit, fun l hl => (hx l hl).1, fun l hl => (hx l hl).2, str_len s1 q1, str_len s2 q2, i64_of_wf w0, i64_of_wf w5⟩⟩
    · exact ⟨⟨z0, s1, s2, A0, l0, k0, B0, m0, q0, z5, [], []⟩, by rw [e0, e1, e2, e3, e4, e5]; rfl, fun h => absurd h hs⟩
theorem open_deeds {n : Nat} {v : Value} {d : DataW H} {p : List MemPlace} (h : DataW.trod enc Tryd.prog W 0 sp held n 22 [v] = some (d, p)) (hs : Sm 22 d) :
    ∃ (A : Option Addr) (len cap : Nat) (ds : List Dd), v = .slice A len cap ∧ (A = none → len = 0) ∧ len ≤ cap ∧ (cap : Int) ≤ 9223372036854775807 ∧ len = ds.length ∧ ReadsP (fun b => b < W.heap.size) W 6 A len (ds.flatMap ddCs) ∧ (∀ x ∈ ds, DdOk W x) := by
  obtain ⟨A, len, cap, rs, hv, hA, hl, hm, hrl, hr, hd⟩ := open_row (α := Dd) (f := ddCs) Tryd.underlying22 ce_deed (by omega) h dd_len (fun d r => Sm 38 d → DdOk W r) (fun n cs' d' p' h' hlen => open_deed h' hlen)
  refine ⟨A, len, cap, rs, hv, hA, hl, by unfold maxLen at hm; omega, hrl.symm, hr, fun x hx => ?_⟩
  obtain ⟨i, hi⟩ := List.getElem?_of_mem hx
  have hil := (List.getElem?_eq_some_iff.1 hi).1
  rcases hd with ⟨h0, _⟩ | ⟨D, S, hd, hD, _, hq⟩
  · omega
  · rw [hd] at hs
    have h1 := (hs.slice Tryd.underlying22).2
    have hdi : D[i]? = some (D[i]'(by omega)) := List.getElem?_eq_getElem (by omega)
    exact hq i _ x hdi hi (h1 _ (List.getElem_mem (show i < D.length by omega)))
end
end Go.Proofs.YtfobbcddedcepaaDoor
/- big: what it says of deeds that are not too many. -/
namespace Go.Proofs.YtfobbcddedcepaaDoor
open Go.RowKit
set_option maxRecDepth 100000
set_option linter.unusedSimpArgs false
set_option linter.unusedVariables false
/-- A deed of few lines, arguments and bytes. -/
def Few (d : Dd) : Prop := d.n < 8000 ∧ d.m < 8000 ∧ d.tx.size < 8000
/-- Behind j deeds: their lines are few, if what was counted is. -/
def BkR (ds : List Dd) (w : World) (n k : Nat) (x i : Value) (wr : World) : Prop :=
  ∃ (j : Nat) (m : Int), k + j = n ∧ i = .int .i64 j ∧ x = .int .i64 m ∧ 0 ≤ m ∧ (m < 8000 → ∀ (i : Nat) (d : Dd), i < j → ds[i]? = some d → Few d) ∧ wr.heap = w.heap ∧ Below w.heap.size w wr
/-- Behind j of a deed's lines. -/
def BlR (q : Prop) (w : World) (n k : Nat) (x i : Value) (wr : World) : Prop :=
  ∃ (j : Nat) (m : Int), k + j = n ∧ i = .int .i64 j ∧ x = .int .i64 m ∧ 0 ≤ m ∧ (m < 8000 → q) ∧ wr.heap = w.heap ∧ Below w.heap.size w wr
/-- What big says. -/
def IsBg (n : Nat) (ds : List Dd) (e : Ending) : Prop := ∃ t, e = .returned (.bool t) ∧ (t = false → n ≤ 150 ∧ ∀ d ∈ ds, Few d)
set_option maxHeartbeats 4000000 in
theorem big_few {w : World} (A : Option Addr) (n c : Nat) (ds : List Dd) (hn : n = ds.length) (hn9 : (n : Int) ≤ 9223372036854775807) (hr : ReadsP (fun b => b < w.heap.size) w 6 A n (ds.flatMap ddCs)) (hd : ∀ d ∈ ds, DdOk w d) :
    Calls Tryd.prog 5 #[.slice A n c] w fun e w' => IsBg n ds e ∧ Below w.heap.size w w' := by
  have HN := Lib.hid hn
  have HR := Lib.hid hr
  have HD := Lib.hid hd
  clear hn hr hd
  go_enter Tryd.func5, Tryd.ntmps5
  go_wp2_with fail
  go_loopg [3, 4] n (fun k x i wr => BkR ds w n k x i wr)
  case atStart => exact ⟨0, 0, rfl, rfl, rfl, Int.le_refl _, fun _ i d hi => absurd hi (Nat.not_lt_zero _), rfl, Below.refl _ _⟩
  case round =>
    obtain ⟨j, m, hk, rfl, rfl, hm0, hq, hh, hb⟩ := hrel
    have HK := Lib.hid hk
    have HH := Lib.hid hh
    have HB := Lib.hid hb
    have HQ := Lib.hid hq
    have HM0 := Lib.hid hm0
    have hc := bg_cases j n m
    rcases hc with ⟨dj, dm⟩ | ⟨dj, dm⟩ | dj
    · have hj : j < n := of_decide_eq_true dj
      have hm6 : m < 8000 := of_decide_eq_true dm
      have hdj : ds[j]? = some (ds[j]'(by have := HN.out; omega)) := List.getElem?_eq_getElem (by have := HN.out; omega)
      obtain ⟨r, hre⟩ : ∃ r, r = ds[j]'(by have := HN.out; omega) := ⟨_, rfl⟩
      rw [← hre] at hdj
      obtain ⟨b, off, rfl, hbl, _, _, c3, c4, c5, _⟩ := reads_dd HR.out j r hdj
      have hok := HD.out r (List.mem_of_getElem? hdj)
      have HOK := Lib.hid hok
      have HDJ := Lib.hid hdj
      have key : ∀ p : Addr, wr.cell? p = w.cell? p := fun p => by unfold World.cell?; rw [HH.out]
      rw [← key] at c3 c4 c5
      obtain ⟨dk, nm, tx, dA, dn, dc, dB, sn, sc, da, dls, dss⟩ := r
      simp only at c3 c4 c5
      have hdn : dn * 64 ≤ 140737488351232 := hok.fit
      have htx : tx.size ≤ 140737488351232 := hok.tx
      have hsn : sn * 16 ≤ 140737488351232 := hok.ss.fit
      have HJ := Lib.hid hj
      have hj0 : (0 : Int) ≤ (j : Int) := by omega
      have hj1 : (j : Int) < (n : Int) := by omega
      have C4 := Lib.hid ((key _).symm.trans c4)
      have HQ2 : Hid (∀ (i : Nat) (d : Dd), i < j → ds[i]? = some d → Few d) := Lib.hid (hq hm6)
      have HNX : Hid (dn < 8000 ∧ sn < 8000 ∧ tx.size < 8000 → ∀ (i : Nat) (d : Dd), i < j + 1 → ds[i]? = some d → Few d) := Lib.hid fun h6 i d hi hd => by
        by_cases hij : i = j
        · subst hij
          have := Option.some.inj (hd.symm.trans HDJ.out)
          rw [this]; exact h6
        · exact HQ2.out i d (by omega) hd
      have HWR : Hid (∃ y : Int, y = m + ((tx.size : Int) + (dn : Int) + (sn : Int)) ∧ 0 ≤ y ∧ (y < 8000 → dn < 8000 ∧ sn < 8000 ∧ tx.size < 8000) ∧ wrap64 (m + wrap64 (wrap64 ((tx.size : Int) + (dn : Int)) + (sn : Int))) = y ∧ wrap64 (m + ((tx.size : Int) + (dn : Int) + (sn : Int))) = y) := Lib.hid ⟨m + ((tx.size : Int) + (dn : Int) + (sn : Int)), rfl, by omega, by omega, by rw [IntWalk.wrap64_in ((tx.size : Int) + (dn : Int)) (by omega), IntWalk.wrap64_in ((tx.size : Int) + (dn : Int) + (sn : Int)) (by omega), IntWalk.wrap64_in _ (by omega)], by rw [IntWalk.wrap64_in _ (by omega)]⟩
      clear hk hj hh hb hbl hok key hre hdj hq
      go_wp2_with fail
      go_quiet (fail)
      go_wp2_with fail
      go_loopg [3, 5] dn (fun k x i wi => BlR (dn < 8000 ∧ sn < 8000 ∧ tx.size < 8000) w dn k x i wi)
      case atStart =>
        obtain ⟨y, hy, h0, h6, h7, h8⟩ := HWR.out
        refine ⟨0, y, rfl, rfl, ?_, h0, h6, HH.out, ⟨HB.out.os, HB.out.tape, HB.out.output, HB.out.size, HB.out.block⟩⟩
        first
          | exact congrArg (Value.int .i64) h7
          | exact congrArg (Value.int .i64) h8
          | exact congrArg (Value.int .i64) hy.symm
      case round =>
        obtain ⟨j2, m2, hk2, rfl, rfl, hm20, hq2, hh2, hb2⟩ := hrel
        have HK2 := Lib.hid hk2
        have HH2 := Lib.hid hh2
        have HB2 := Lib.hid hb2
        have HQQ := Lib.hid hq2
        have HM2 := Lib.hid hm20
        have key : ∀ p : Addr, wr.cell? p = w.cell? p := fun p => by unfold World.cell?; rw [HH2.out]
        have c4 := (key _).trans C4.out
        have hc := bg_cases j2 dn m2
        rcases hc with ⟨dj2, dm2⟩ | ⟨dj2, dm2⟩ | dj2
        · have hj2 : j2 < dn := of_decide_eq_true dj2
          have hm26 : m2 < 8000 := of_decide_eq_true dm2
          have HJ2 := Lib.hid hj2
          obtain ⟨⟨rs, hr, ha⟩, hl⟩ := HOK.out.ls.rd
          simp only at hr ha hl
          have hrl : rs.length = dn := by rw [ha.1, hl]
          have hrj : rs[j2]? = some (rs[j2]'(by omega)) := List.getElem?_eq_getElem (by omega)
          obtain ⟨r2, hre⟩ : ∃ r2, r2 = rs[j2]'(by omega) := ⟨_, rfl⟩
          rw [← hre] at hrj
          have hlj : dls[j2]? = some (dls[j2]'(by have := ha.1; omega)) := List.getElem?_eq_getElem (by have := ha.1; omega)
          obtain ⟨l2, hle⟩ : ∃ l2, l2 = dls[j2]'(by have := ha.1; omega) := ⟨_, rfl⟩
          rw [← hle] at hlj
          have hrx := ha.2 j2 r2 l2 hrj hlj
          have hlm := List.mem_of_getElem? hlj
          have hb1 := HOK.out.bxs l2 hlm
          have ht1 := HOK.out.txs l2 hlm
          rw [← hrx.tx] at ht1
          rw [← hrx.bx.len] at hb1
          obtain ⟨b2, off2, rfl, hbl2, e0, _, _, _, e4⟩ := reads_ln hr j2 r2 hrj
          rw [← key] at e0 e4
          obtain ⟨ltx, lmd, lup, ldn, lbo, lbn, lbc⟩ := r2
          simp only at e0 e4 hb1 ht1
          have hj20 : (0 : Int) ≤ (j2 : Int) := by omega
          have hj21 : (j2 : Int) < (dn : Int) := by omega
          have HWR2 : Hid (∃ y : Int, y = m2 + ((ltx.size : Int) + (lbn : Int)) ∧ 0 ≤ y ∧ (y < 8000 → dn < 8000 ∧ sn < 8000 ∧ tx.size < 8000) ∧ wrap64 (m2 + wrap64 ((ltx.size : Int) + (lbn : Int))) = y ∧ wrap64 (m2 + ((ltx.size : Int) + (lbn : Int))) = y) := Lib.hid ⟨m2 + ((ltx.size : Int) + (lbn : Int)), rfl, by omega, fun _ => hq2 hm26, by rw [IntWalk.wrap64_in ((ltx.size : Int) + (lbn : Int)) (by omega), IntWalk.wrap64_in _ (by omega)], by rw [IntWalk.wrap64_in _ (by omega)]⟩
          clear hk2 hh2 hb2 key hr ha hl hrl hrj hre hbl2 hj2 hq2 hrx hlj hle hlm
          go_wp2_with fail
          go_quiet (fail)
          go_wp2_with fail
          go_roundg (gk - 1)
          case measure => have := HK2.out; have := HJ2.out; omega
          case rel =>
            have := HK2.out
            have := HJ2.out
            obtain ⟨y, hy, h0, h6, h7, h8⟩ := HWR2.out
            refine ⟨j2 + 1, y, by omega, by first | go_num | (congr 1; rw [IntWalk.wrap64_in _ (by omega)]; omega), ?_, h0, h6, HH2.out, ⟨HB2.out.os, HB2.out.tape, HB2.out.output, HB2.out.size, HB2.out.block⟩⟩
            first
              | exact congrArg (Value.int .i64) h7
              | exact congrArg (Value.int .i64) h8
              | exact congrArg (Value.int .i64) hy.symm
        · clear hk2 hh2 hb2 key hq2
          go_wp2_with fail
          go_roundg (n - (j + 1))
          case measure => have := HK.out; have := HJ.out; omega
          case rel => have := HJ.out; exact ⟨j + 1, m2, by omega, by first | go_num | (congr 1; rw [IntWalk.wrap64_in _ (by omega)]; omega), rfl, HM2.out, fun h6 => HNX.out (HQQ.out h6), HH2.out, ⟨HB2.out.os, HB2.out.tape, HB2.out.output, HB2.out.size, HB2.out.block⟩⟩
        · clear hk2 hh2 hb2 key hq2
          go_wp2_with fail
          go_roundg (n - (j + 1))
          case measure => have := HK.out; have := HJ.out; omega
          case rel => have := HJ.out; exact ⟨j + 1, m2, by omega, by first | go_num | (congr 1; rw [IntWalk.wrap64_in _ (by omega)]; omega), rfl, HM2.out, fun h6 => HNX.out (HQQ.out h6), HH2.out, ⟨HB2.out.os, HB2.out.tape, HB2.out.output, HB2.out.size, HB2.out.block⟩⟩
    · have hm6 : ¬ m < 8000 := of_decide_eq_false dm
      have d6 : decide ((8000 : Int) ≤ m) = true := decide_eq_true (by omega)
      clear hk hh hb hq hm6
      go_wp2_with fail
      all_goals
        go_ret
        exact ⟨⟨_, rfl, fun h => by simp_all⟩, HB.out⟩
    · have hjn : ¬ j < n := of_decide_eq_false dj
      have HJN := Lib.hid hjn
      have HALL : Hid (m < 8000 → ∀ d ∈ ds, Few d) := Lib.hid fun h6 d hd => by
        obtain ⟨i, hi⟩ := List.getElem?_of_mem hd
        have hil := (List.getElem?_eq_some_iff.1 hi).1
        have := HN.out
        exact hq h6 i d (by omega) hi
      clear hk hh hb hq
      by_cases hm6 : m < 8000
      · have d6 : decide ((8000 : Int) ≤ m) = false := decide_eq_false (by omega)
        have H6 := Lib.hid hm6
        go_wp2_with fail
        all_goals
          go_ret
          refine ⟨⟨_, rfl, fun h => ⟨?_, HALL.out H6.out⟩⟩, HB.out⟩
          first
            | (have h' := of_decide_eq_false h; omega)
            | (simp at h; omega)
      · have d6 : decide ((8000 : Int) ≤ m) = true := decide_eq_true (by omega)
        go_wp2_with fail
        all_goals
          go_ret
          exact ⟨⟨_, rfl, fun h => by cases h⟩, HB.out⟩
end Go.Proofs.YtfobbcddedcepaaDoor
