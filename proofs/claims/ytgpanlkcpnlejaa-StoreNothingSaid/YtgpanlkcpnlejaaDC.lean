/- Arguments that came in: slices of strings, of lines. -/
import Derived.Test.YtgpanlkcpnlejaaDB
import Derived.Test.YtgpanlkcpnlejaaRow
import Derived.Deep.Slices
import Derived.Deep.Fields
import Derived.SizedLaws
namespace Go.Proofs.Ytgpanlkcpnlejaa
open Go.RowKit Go.Deep Go.ChangeShapes Go.WideShapes Go.ChangeMaps
set_option maxRecDepth 100000
section
variable {H : Type} {enc : TypeId × Value → H} {W : World} {sp : Nat → Bool} {held : Bool}
/-- What a datum holds is within the reach. -/
def Sm (t : TypeId) (d : DataW H) : Prop := ∀ n ∈ d.weights Try.prog t, n ≤ reachBytes
theorem Sm.str {l : List UInt8} (h : Sm (H := H) 9 (.lit (.string l))) : l.length ≤ reachBytes := h _ (by simp [DataW.weights])
theorem Sm.slice {t e : TypeId} {xs ys : List (DataW H)} (ht : Try.prog.underlying t = some (.slice e)) (h : Sm t (.slice xs ys)) : (xs.length + ys.length) * Try.prog.bytesOf e ≤ reachBytes ∧ ∀ x ∈ xs, Sm e x := by
  constructor
  · exact h _ (by simp [DataW.weights, ht])
  · intro x hx n hn
    refine h n ?_
    simp only [DataW.weights, ht]
    refine List.mem_cons_of_mem _ (List.mem_append_left _ ?_)
    clear h
    induction xs with
    | nil => cases hx
    | cons a t ih =>
      simp only [DataW.weightsAll, List.mem_append]
      rcases List.mem_cons.1 hx with rfl | hx
      · exact .inl hn
      · exact .inr (ih hx)
theorem Sm.field {t : TypeId} {fs : Array Field} {ds : List (DataW H)} (ht : Try.prog.underlying t = some (.struct fs)) (h : Sm t (.agg ds)) (j : Nat) (f : Field) (d : DataW H) (hf : fs[j]? = some f) (hd : ds[j]? = some d) : Sm f.type d := by
  intro n hn
  refine h n ?_
  simp only [DataW.weights, ht]
  exact DataW.weights_mem_each (ts := fs.toList.map (·.type)) (j := j) (t := f.type) (by rw [List.getElem?_map, Array.getElem?_toList, hf]; rfl) hd n hn
/-- The fields of a struct, a cell each. -/
theorem fields_of {e : TypeId} {fs : Array Field} {n : Nat} {cs : List Value} {d : DataW H} {p : List MemPlace} (he : Try.prog.underlying e = some (.struct fs)) (hone : oneCellFields Try.prog fs = true) (h : DataW.trod enc Try.prog W 0 sp held n e cs = some (d, p)) :
    ∃ (ys : List (DataW H × List MemPlace)) (k : Nat), d = .agg (ys.map (·.1)) ∧ ys.length = fs.size ∧ ∀ (j : Nat) (f : Field) (c : Value), fs[j]? = some f → cs[j]? = some c → ∃ y, ys[j]? = some y ∧ DataW.trod enc Try.prog W 0 sp held k f.type [c] = some y := by
  obtain ⟨ys, k, _, hx, _, hyl, hf⟩ := DataW.trod_struct he h
  simp only [Prod.mk.injEq] at hx
  refine ⟨ys, k, hx.1, hyl, fun j f c hj hc => ?_⟩
  obtain ⟨ho, hk⟩ := hone_of hone j f hj
  have h1 := hf j f hj
  rw [ho, hk] at h1
  have hjl := (List.getElem?_eq_some_iff.1 hc).1
  have e1 : (cs.drop j).take 1 = [c] := by
    rw [List.drop_eq_getElem_cons hjl, (List.getElem?_eq_some_iff.1 hc).2]; rfl
  rw [e1] at h1
  have hy : j < ys.length := by rw [hyl]; exact (Array.getElem?_eq_some_iff.1 hj).1
  rw [List.getElem?_eq_getElem hy] at h1 ⊢
  exact ⟨_, rfl, h1⟩
end
/-- A list of what there is at each place. -/
theorem list_of {α : Type} (n : Nat) (p : Nat → α → Prop) (h : ∀ i, i < n → ∃ x, p i x) : ∃ xs : List α, xs.length = n ∧ ∀ i x, xs[i]? = some x → p i x := by
  induction n with
  | zero => exact ⟨[], rfl, fun i x h => by simp at h⟩
  | succ n ih =>
    obtain ⟨xs, hl, hx⟩ := ih (fun i hi => h i (by omega))
    obtain ⟨x, hp⟩ := h n (by omega)
    refine ⟨xs ++ [x], by simp [hl], fun i y hy => ?_⟩
    by_cases hi : i < xs.length
    · rw [List.getElem?_append_left hi] at hy; exact hx i y hy
    · rw [List.getElem?_append_right (by omega)] at hy
      have hi2 : i - xs.length = 0 := by
        have := (List.getElem?_eq_some_iff.1 hy).1
        simp at this; omega
      rw [hi2] at hy
      simp only [List.getElem?_cons_zero, Option.some.injEq] at hy
      subst hy
      rw [show i = n by omega]; exact hp
theorem fm_inv {α : Type} {f : α → List Value} {m : Nat} (hf : ∀ x, (f x).length = m) : ∀ (l : List α) (j : Nat) (u : Value), (l.flatMap f)[j]? = some u → ∃ (i k : Nat) (x : α), j = i * m + k ∧ k < m ∧ l[i]? = some x ∧ (f x)[k]? = some u
  | [], j, u, h => by simp at h
  | x :: t, j, u, h => by
    rw [List.flatMap_cons] at h
    by_cases hj : j < m
    · rw [List.getElem?_append_left (by rw [hf]; exact hj)] at h
      exact ⟨0, j, x, by omega, hj, rfl, h⟩
    · rw [List.getElem?_append_right (by rw [hf]; omega), hf] at h
      obtain ⟨i, k, y, h1, h2, h3, h4⟩ := fm_inv hf t (j - m) u h
      exact ⟨i + 1, k, y, by rw [Nat.add_mul]; omega, h2, by simpa using h3, h4⟩
theorem spot_none {w : World} {a : Addr} {v : Value} (h : w.cell? a = some v) : a = ⟨a.block, a.off, none⟩ ∧ a.block < w.heap.size := by
  have hb := World.block_lt_of_cell? w a h
  obtain ⟨b, o, s⟩ := a
  cases s with
  | none => exact ⟨rfl, hb⟩
  | some k =>
    unfold World.cell? at h
    split at h <;> simp at h
/-- A slice that came in reads as a row; each element is what its datum says. -/
theorem open_row {H : Type} {enc : TypeId × Value → H} {W : World} {sp : Nat → Bool} {held : Bool} {t e : TypeId} {m fuel : Nat} {v : Value} {d : DataW H} {p : List MemPlace} (ht : Try.prog.underlying t = some (.slice e)) (hC : Try.prog.cellsOf e = m) (hm : 0 < m)
    (h : DataW.trod enc Try.prog W 0 sp held fuel t [v] = some (d, p)) {α : Type} {f : α → List Value} (hf : ∀ x, (f x).length = m) (Q : DataW H → α → Prop)
    (hel : ∀ n cs' d' p', DataW.trod enc Try.prog W 0 sp held n e cs' = some (d', p') → cs'.length = m → ∃ r, cs' = f r ∧ Q d' r) :
    ∃ (A : Option Addr) (len cap : Nat) (rs : List α), v = .slice A len cap ∧ (A = none → len = 0) ∧ len ≤ cap ∧ cap ≤ maxLen ∧ rs.length = len ∧ ReadsP (fun b => b < W.heap.size) W m A len (rs.flatMap f) ∧
      ((len = 0 ∧ d = .nil) ∨ ∃ D S : List (DataW H), d = .slice D S ∧ D.length = len ∧ D.length + S.length = (if sp (match A with | some a => a.block | none => 0) then cap else len) ∧ ∀ (i : Nat) (x : DataW H) (r : α), D[i]? = some x → rs[i]? = some r → Q x r) := by
  rcases open_slice ht h with ⟨hcs, hx⟩ | ⟨a, len, cap, m', n, D, Pl, hcs, hb, hl, hmx, hmm, hx, hel'⟩
  · simp only [List.cons.injEq, and_true] at hcs
    simp only [Prod.mk.injEq] at hx
    exact ⟨none, 0, 0, [], hcs, fun _ => rfl, Nat.le_refl _, Nat.zero_le _, rfl, ⟨by simp, fun h => absurd h (by omega)⟩, .inl ⟨rfl, hx.1⟩⟩
  · simp only [List.cons.injEq, and_true] at hcs
    simp only [Prod.mk.injEq] at hx
    rw [hC] at hel'
    have hle : len ≤ m' := by rw [hmm]; split <;> omega
    obtain ⟨rs, hrl, hrs⟩ := list_of len (fun i r => (∀ k u, (f r)[k]? = some u → W.cell? (a.add (i * m + k)) = some u) ∧ Q (D i) r) (fun i hi => by
      obtain ⟨cs', h1, h2⟩ := hel' i (by omega)
      obtain ⟨_, hlen, hcell⟩ := World.cells?_some h1
      obtain ⟨r, hr, hq⟩ := hel n cs' _ _ h2 hlen
      refine ⟨r, fun k u hu => ?_, hq⟩
      have hk : k < m := by have := (List.getElem?_eq_some_iff.1 hu).1; rw [hf] at this; exact this
      have := hcell k hk
      rw [Go.Deep.add_add, hr, hu] at this
      exact this)
    refine ⟨some a, len, cap, rs, hcs, (fun e => by cases e), hl, hmx, hrl, ⟨by rw [fm_len hf, hrl], fun hn => ?_⟩, .inr ⟨_, _, hx.1, by simp, by simp; omega, fun i x r hi hr => ?_⟩⟩
    · have h0 : rs[0]? = some (rs[0]'(by omega)) := List.getElem?_eq_getElem (by omega)
      have h00 : (f (rs[0]'(by omega)))[0]? = some ((f (rs[0]'(by omega)))[0]'(by rw [hf]; exact hm)) := List.getElem?_eq_getElem _
      have hc0 := (hrs 0 _ h0).1 0 _ h00
      have ha0 : a.add (0 * m + 0) = a := by simp [Addr.add]
      rw [ha0] at hc0
      obtain ⟨hs, hbl⟩ := spot_none hc0
      refine ⟨a.block, a.off, by rw [← hs], hbl, fun j u hu => ?_⟩
      obtain ⟨i, k, x, hj, hk, hi, hxk⟩ := fm_inv hf rs j u hu
      have := (hrs i x hi).1 k u hxk
      rw [hs, cell_add] at this
      rw [hj]; exact this
    · have hil : i < len := by have := (List.getElem?_eq_some_iff.1 hi).1; simpa using this
      rw [List.getElem?_map, List.getElem?_range hil] at hi
      simp only [Option.map_some, Option.some.injEq] at hi
      subst hi
      exact (hrs i r hr).2
end Go.Proofs.Ytgpanlkcpnlejaa
