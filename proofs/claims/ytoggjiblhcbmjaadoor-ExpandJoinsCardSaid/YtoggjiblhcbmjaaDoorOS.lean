/- A slice of strings that came in, or was made. -/
import Derived.Test.YtoggjiblhcbmjaaDoorWE
import Derived.Test.YtoggjiblhcbmjaaDoorM3
import Derived.Test.YtoggjiblhcbmjaaDoorRow
import Derived.SliceStrings
import Derived.SizedLaws
namespace Go.Proofs.YtoggjiblhcbmjaaDoor
open Go.RowKit Go.Shelf Go.ChangeShapes Go.WideShapes
set_option maxRecDepth 100000
/-- A slice reads as these strings. -/
def StrsAt (W : World) (A : Option Addr) (n : Nat) (ss : List ByteArray) : Prop := n = ss.length ∧ (0 < n → ∃ b off, A = some ⟨b, off, none⟩ ∧ b < W.heap.size ∧ ∀ j (h : j < ss.length), W.cell? ⟨b, off + j, none⟩ = some (.string ss[j]))
theorem StrsAt.below {W W' : World} {A : Option Addr} {n : Nat} {ss : List ByteArray} (h : StrsAt W A n ss) (k : Below W.heap.size W W') : StrsAt W' A n ss := by
  refine ⟨h.1, fun hn => ?_⟩
  obtain ⟨b, off, hA, hb, hc⟩ := h.2 hn
  exact ⟨b, off, hA, Nat.lt_of_lt_of_le hb k.size, fun j hj => (k.cell (p := ⟨b, off + j, none⟩) hb).trans (hc j hj)⟩
theorem StrsAt.at_ {W : World} {A : Option Addr} {n : Nat} {ss : List ByteArray} (h : StrsAt W A n ss) (j : Nat) (hj : j < ss.length) : ∃ b off, A = some ⟨b, off, none⟩ ∧ b < W.heap.size ∧ W.cell? ⟨b, off + j, none⟩ = some (.string ss[j]) := by
  obtain ⟨b, off, hA, hb, hc⟩ := h.2 (by rw [h.1]; omega)
  exact ⟨b, off, hA, hb, hc j hj⟩
theorem spot_none {w : World} {a : Addr} {v : Value} (h : w.cell? a = some v) : a = ⟨a.block, a.off, none⟩ ∧ a.block < w.heap.size := by
  have hb := World.block_lt_of_cell? w a h
  obtain ⟨b, o, s⟩ := a
  cases s with
  | none => exact ⟨rfl, hb⟩
  | some k =>
    unfold World.cell? at h
    split at h <;> simp at h
theorem add_eq (b off j : Nat) : (⟨b, off, none⟩ : Addr).add j = ⟨b, off + j, none⟩ := by
  unfold Addr.add; split <;> simp_all
section
variable {H : Type} {enc : TypeId × Value → H} {W : World}
/-- What a datum holds is within the reach. -/
def Sm (t : TypeId) (d : DataW H) : Prop := ∀ n ∈ d.weights Tryd.prog t, n ≤ reachBytes
theorem sm_of {ts us : List TypeId} {ds gs : List (DataW H)} (hsz : (DataW.weightsEach Tryd.prog (ts ++ us) (ds ++ gs)).all (· ≤ reachBytes) = true) (j : Nat) (t : TypeId) (d : DataW H) (ht : ts[j]? = some t) (hd : ds[j]? = some d) : Sm t d := by
  intro n hn
  have := List.all_eq_true.1 hsz n (DataW.weights_mem_each (j := j) (t := t) (d := d) (by rw [List.getElem?_append_left (List.getElem?_eq_some_iff.1 ht).1]; exact ht) (by rw [List.getElem?_append_left (List.getElem?_eq_some_iff.1 hd).1]; exact hd) n hn)
  simpa using this
theorem sm_strs {xs ys : List (DataW H)} (h : Sm 27 (.slice xs ys)) : ∀ x ∈ xs, Sm 9 x := by
  intro x hx n hn
  refine h n ?_
  simp only [DataW.weights, Tryd.underlying27]
  refine List.mem_cons_of_mem _ (List.mem_append_left _ ?_)
  clear h
  induction xs with
  | nil => cases hx
  | cons a t ih =>
    simp only [DataW.weightsAll, List.mem_append]
    rcases List.mem_cons.1 hx with rfl | hx
    · exact .inl hn
    · exact .inr (ih hx)
theorem open_strs {base : Nat} {spare : Nat → Bool} {held : Bool} {fuel : Nat} {v : Value} {d : DataW H} {ps : List MemPlace} (h : DataW.trod enc Tryd.prog W base spare held fuel 27 [v] = some (d, ps)) (hs : Sm 27 d) :
    ∃ (A : Option Addr) (n c : Nat) (ss : List ByteArray), v = .slice A n c ∧ n ≤ c ∧ (c : Int) ≤ 9223372036854775807 ∧ StrsAt W A n ss ∧ ∀ s ∈ ss, s.size ≤ 140737488351232 := by
  rcases open_strings Tryd.underlying27 Tryd.underlying9 (by kernel_rfl) h with ⟨hcs, hx⟩ | ⟨a, len, cap, ss, hcs, _, hl, hm, hz, hx, hcell, hsz⟩
  · simp only [List.cons.injEq, and_true] at hcs
    exact ⟨none, 0, 0, [], hcs, Nat.le_refl _, by omega, ⟨rfl, fun h => absurd h (Nat.lt_irrefl 0)⟩, fun s hs => by cases hs⟩
  · simp only [List.cons.injEq, and_true] at hcs
    simp only [Prod.mk.injEq] at hx
    have hle : len ≤ ss.length := by rw [hz]; split <;> omega
    have htl : (ss.take len).length = len := by rw [List.length_take]; omega
    refine ⟨some a, len, cap, ss.take len, hcs, hl, by unfold maxLen at hm; omega, ⟨htl.symm, fun hn => ?_⟩, fun s hs' => ?_⟩
    · have h0 := hcell 0 (by omega)
      have ha := spot_none h0
      have e0 : a.add 0 = a := by unfold Addr.add; rw [if_pos rfl]
      rw [e0] at ha
      refine ⟨a.block, a.off, by rw [← ha.1], ha.2, fun j hj => ?_⟩
      have := hcell j (by rw [htl] at hj; omega)
      rw [ha.1, add_eq] at this
      rw [this]
      congr 2
      rw [htl] at hj
      rw [List.getD_eq_getElem?_getD, List.getElem?_eq_getElem (by omega), Option.getD_some, List.getElem_take]
    · rw [hx.1] at hs
      have h1 := sm_strs hs (.lit (.string s.data.toList)) (List.mem_map.2 ⟨s, hs', rfl⟩) _ (by simp [DataW.weights]; rfl)
      have h2 : s.data.toList.length ≤ reachBytes := h1
      rw [show s.data.toList.length = s.size by simp] at h2
      exact h2
end
theorem strs_of (ss : List ByteArray) : ss = (ss.map fun s => s.data.toList).map bs := by
  rw [List.map_map]
  conv => lhs; rw [← List.map_id ss]
  apply List.map_congr_left
  intro s _
  exact (bs_self s).symm
theorem strs_len {ss : List ByteArray} (h : ∀ s ∈ ss, s.size ≤ 140737488351232) : ∀ l ∈ (ss.map fun s => s.data.toList), l.length ≤ 140737488351232 := by
  intro l hl
  obtain ⟨s, hs, rfl⟩ := List.mem_map.1 hl
  have := h s hs
  rw [sz_of s _ rfl] at this
  exact this
/-- Texts in a row that the call has made. -/
def encS (l : List UInt8) : Value := .string (bs l)
theorem own_strs {w : World} {base n c : Nat} {A : Option Addr} {ls : List (List UInt8)} (h : w.ownsRow base 9 1 (.slice A n c) n (ls.map encS)) : StrsAt w A n (ls.map bs) := by
  have h1 := h.1
  rw [List.length_map, Nat.mul_one] at h1
  refine ⟨by rw [List.length_map]; exact h1.symm, fun hn => ?_⟩
  rcases h.2 with ⟨hv, h0⟩ | ⟨g, cap, cur, hv, hb, hh, h1, h2, h3, h4⟩
  · omega
  · have hA : A = some ⟨g, 0, none⟩ := by injection hv
    subst hA
    refine ⟨g, 0, rfl, (Array.getElem?_eq_some_iff.1 hh).1, fun j hj => ?_⟩
    rw [Nat.zero_add]
    have e : (ls.map encS)[j]? = some (.string (ls.map bs)[j]) := by
      rw [List.length_map] at hj
      rw [List.getElem?_map, List.getElem?_eq_getElem hj, List.getElem_map]; rfl
    rw [← h4, List.getElem?_take] at e
    split at e
    · rw [Array.getElem?_toList] at e
      simp [World.cell?, hh, e]
    · cases e
end Go.Proofs.YtoggjiblhcbmjaaDoor
