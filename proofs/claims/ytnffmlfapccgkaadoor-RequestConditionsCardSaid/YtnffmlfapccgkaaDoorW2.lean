/- Builders, and rows of texts. -/
import Derived.Test.YtnffmlfapccgkaaDoorW1
import Derived.Test.YtnffmlfapccgkaaDoorBld
import Derived.Lib.OthersKept
import Derived.Shelf.Strings.BuilderK
import Derived.Maps.AppendAt
import Derived.Deep.RegionLaw
import Derived.SliceStrings
import Derived.SizedLaws
import Derived.Test.YtnffmlfapccgkaaDoorRow
namespace Go.Proofs.YtnffmlfapccgkaaDoor
open Go.RowKit Go.Shelf Go.ChangeShapes Go.WideShapes
set_option maxRecDepth 100000
set_option linter.unusedSimpArgs false
set_option linter.unusedVariables false
/-- A builder that the call has made. -/
def Bu (B b : Nat) (l : List UInt8) (w : World) : Prop := Lib.IsBuilderF 68 5 B b (Lib.byteCells l) w
theorem Bu.blk {B b : Nat} {l : List UInt8} {w : World} (h : Bu B b l w) : ∃ c fz, w.heap[b]? = some (.cells c 68 fz) := by
  rcases h with ⟨_, v, hb, _⟩ | ⟨_, v, hb, _⟩
  · exact ⟨_, _, hb⟩
  · exact ⟨_, _, hb⟩
theorem Bu.lt {B b : Nat} {l : List UInt8} {w : World} (h : Bu B b l w) : b < w.heap.size := by
  obtain ⟨c, fz, hb⟩ := h.blk
  exact (Array.getElem?_eq_some_iff.1 hb).1
theorem own_keep {B : Nat} {v : Value} {n : Nat} {xs : List Value} {w w' : World} (h : w.ownsRowF B 5 1 v n xs) (hk : ∀ (k : Nat) (o : Obj), w.heap[k]? = some o → (∃ c fz, o = .cells c 5 fz) → w'.heap[k]? = some o) : w'.ownsRowF B 5 1 v n xs := by
  refine ⟨h.1, ?_⟩
  rcases h.2 with h | ⟨g, cap, cur, fz, h1, h2, h3, h4⟩
  · exact .inl h
  · exact .inr ⟨g, cap, cur, fz, h1, h2, hk g _ h3 ⟨_, _, rfl⟩, h4⟩
theorem bu_new (w : World) : Bu w.heap.size w.heap.size [] (w.alloc (.cells #[.pointer none, .slice none 0 0] 68)) :=
  .inl ⟨Nat.le_refl _, _, heap_alloc_new w _, ⟨by simp [Lib.byteCells], .inl ⟨rfl, rfl⟩⟩, by simp [Value.ownBlock]⟩
theorem bytes_app (l : List UInt8) (s : ByteArray) : Lib.byteCells l ++ Lib.strCells s = Lib.byteCells (l ++ s.data.toList) := by simp [Lib.byteCells, Lib.strCells]
/-- What writing leaves, as the library says it. -/
structure WrK (B b : Nat) (l : List UInt8) (w w' : World) : Prop where
  bu : Bu B b l w'
  fr : Below B w w'
  ot : Lib.OthersKept 5 (some b) w w'
theorem bldK_str {B b : Nat} {l : List UInt8} {w : World} (h : Bu B b l w) (m : List UInt8) (hlen : l.length + m.length ≤ 140737488355328) (hB : B ≤ w.heap.size) :
    Calls Tryd.prog 36 #[.pointer (some ⟨b, 0, none⟩), .string (bs m)] w fun e w' => e = .returned (.tuple #[.int .i64 (m.length : Int), .nilIface]) ∧ WrK B b (l ++ m) w w' := by
  have := Any.Builder_WriteString_k (P := Tryd.prog) (ρ := bren) bl166 blX B b (Lib.byteCells l) (bs m) w h (by rw [Lib.byteCells_length, bs_size]; exact hlen) hB
  refine this.mono ?_
  rintro e w' ⟨rfl, h1, h2, h3⟩
  refine ⟨by rw [bs_size], ?_, h2, h3⟩
  rw [bytes_app, bs_list] at h1
  exact .inr h1
theorem bldK_out {B b : Nat} {l : List UInt8} {w : World} (h : Bu B b l w) (hB : B ≤ w.heap.size) : Calls Tryd.prog 38 #[.pointer (some ⟨b, 0, none⟩)] w fun e w' => e = .returned (.string (bs l)) ∧ WrK B b l w w' := by
  have := Any.Builder_String_any_k (P := Tryd.prog) (ρ := bren) bl169 blX B b l w h hB
  refine this.mono ?_
  rintro e w' ⟨rfl, h1, h2, h3⟩
  exact ⟨rfl, h1, h2, h3⟩
theorem Bu.base {B b : Nat} {l : List UInt8} {w : World} (h : Bu B b l w) : B ≤ b := by
  rcases h with ⟨h, _⟩ | ⟨h, _⟩ <;> exact h
/-- A builder stands where its own block and the rows of bytes stand. -/
theorem Bu.keep2 {B b : Nat} {l : List UInt8} {w w' : World} (h : Bu B b l w) (hk : ∀ (k : Nat) (c : Array Value) (t : TypeId) (fz : Nat × Nat), w.heap[k]? = some (.cells c t fz) → t = 68 ∨ t = 5 → w'.heap[k]? = some (.cells c t fz)) : Bu B b l w' := by
  have ho : ∀ {v : Value}, w.ownsRowF B 5 1 v (Lib.byteCells l).length (Lib.byteCells l) → w'.ownsRowF B 5 1 v (Lib.byteCells l).length (Lib.byteCells l) := fun h => own_keep h (fun k o h1 ⟨c, fz, h2⟩ => by subst h2; exact hk k _ _ _ h1 (.inr rfl))
  rcases h with ⟨h1, v, hb, h2, h3⟩ | ⟨h1, v, hb, h2, h3⟩
  · exact .inl ⟨h1, v, hk _ _ _ _ hb (.inl rfl), ho h2, h3⟩
  · exact .inr ⟨h1, v, hk _ _ _ _ hb (.inl rfl), ho h2, h3⟩
/-- A row of texts stands while a builder is written. -/
theorem own_other {w w' : World} {base n b : Nat} {v : Value} {xs : List Value} (h : w.ownsRow base 9 1 v n xs) (k : Lib.OthersKept 5 (some b) w w') (hb : ∃ c fz, w.heap[b]? = some (.cells c 68 fz)) : w'.ownsRow base 9 1 v n xs := by
  refine ⟨h.1, ?_⟩
  rcases h.2 with h | ⟨g, cap, cur, h1, h2, h3, h4⟩
  · exact .inl h
  · refine .inr ⟨g, cap, cur, h1, h2, k g _ h3 ?_ ?_, h4⟩
    · intro e
      obtain rfl := Option.some.inj e
      obtain ⟨c, fz, hb⟩ := hb
      rw [hb] at h3
      injection h3 with h3
      injection h3 with _ h3 _
      exact absurd h3 (by decide)
    · intro c fz e
      injection e with _ e _
      exact absurd e (by decide)
def tot : List (List UInt8) → Nat
  | [] => 0
  | l :: r => l.length + tot r
theorem tot_at (ls : List (List UInt8)) (j : Nat) (hj : j < ls.length) : tot (ls.drop j) = ls[j].length + tot (ls.drop (j + 1)) := by
  rw [List.drop_eq_getElem_cons hj, tot]
theorem row_shape {w : World} {base : Nat} {e : TypeId} {size n : Nat} {v : Value} {xs : List Value} (h : w.ownsRow base e size v n xs) : ∃ o cap, v = .slice o n cap ∧ n ≤ cap ∧ (cap : Int) ≤ 9223372036854775807 := by
  rcases h.2 with ⟨hv, hn⟩ | ⟨g, cap, cur, hv, _, _, h1, h2, _⟩
  · exact ⟨none, 0, by rw [hv, hn], by omega, by omega⟩
  · exact ⟨_, _, hv, h1, by unfold maxLen at h2; omega⟩
theorem own_ne {w : World} {B n size : Nat} {e T : TypeId} {v : Value} {xs : List Value} {b : Nat} {cs : Array Value} {fr : Nat × Nat} (hown : w.ownsRow B e size v n xs) (hb : w.heap[b]? = some (.cells cs T fr)) (hTe : T ≠ e) : some b ≠ v.ownBlock := by
  rcases hown.2 with ⟨rfl, _⟩ | ⟨g, cap, cur, rfl, _, hg, _⟩
  · simp [Value.ownBlock]
  · intro h
    simp only [Value.ownBlock, Option.some.injEq] at h
    subst h
    rw [hg] at hb
    cases hb
    exact hTe rfl
/-- A slice reads as these strings. -/
def StrsAt (W : World) (A : Option Addr) (n : Nat) (ss : List ByteArray) : Prop := n = ss.length ∧ (0 < n → ∃ b off, A = some ⟨b, off, none⟩ ∧ b < W.heap.size ∧ ∀ j (h : j < ss.length), W.cell? ⟨b, off + j, none⟩ = some (.string ss[j]))
theorem StrsAt.below {W W' : World} {A : Option Addr} {n : Nat} {ss : List ByteArray} (h : StrsAt W A n ss) (k : Below W.heap.size W W') : StrsAt W' A n ss := by
  refine ⟨h.1, fun hn => ?_⟩
  obtain ⟨b, off, hA, hb, hc⟩ := h.2 hn
  exact ⟨b, off, hA, Nat.lt_of_lt_of_le hb k.size, fun j hj => (k.cell (p := ⟨b, off + j, none⟩) hb).trans (hc j hj)⟩
theorem StrsAt.at_ {W : World} {A : Option Addr} {n : Nat} {ss : List ByteArray} (h : StrsAt W A n ss) (j : Nat) (hj : j < ss.length) : ∃ b off, A = some ⟨b, off, none⟩ ∧ b < W.heap.size ∧ W.cell? ⟨b, off + j, none⟩ = some (.string ss[j]) := by
  obtain ⟨b, off, hA, hb, hc⟩ := h.2 (by rw [h.1]; omega)
  exact ⟨b, off, hA, hb, hc j hj⟩
theorem spot_none {w : World} {a : Addr} {v : Value} (h : w.cell? a = some v) : a = ⟨a.block, a.off, none⟩ ∧ a.block < w.heap.size := by
  have hb := World.block_lt_of_cell? w a h
  obtain ⟨b, o, s⟩ := a
  cases s with
  | none => exact ⟨rfl, hb⟩
  | some k =>
    unfold World.cell? at h
    split at h <;> simp at h
theorem add_eq (b off j : Nat) : (⟨b, off, none⟩ : Addr).add j = ⟨b, off + j, none⟩ := by
  unfold Addr.add; split <;> simp_all
section
variable {H : Type} {enc : TypeId × Value → H} {W : World}
/-- What a datum holds is within the reach. -/
def Sm (t : TypeId) (d : DataW H) : Prop := ∀ n ∈ d.weights Tryd.prog t, n ≤ reachBytes
theorem sm_of {ts us : List TypeId} {ds gs : List (DataW H)} (hsz : (DataW.weightsEach Tryd.prog (ts ++ us) (ds ++ gs)).all (· ≤ reachBytes) = true) (j : Nat) (t : TypeId) (d : DataW H) (ht : ts[j]? = some t) (hd : ds[j]? = some d) : Sm t d := by
  intro n hn
  have := List.all_eq_true.1 hsz n (DataW.weights_mem_each (j := j) (t := t) (d := d) (by rw [List.getElem?_append_left (List.getElem?_eq_some_iff.1 ht).1]; exact ht) (by rw [List.getElem?_append_left (List.getElem?_eq_some_iff.1 hd).1]; exact hd) n hn)
  simpa using this
theorem sm_strs {xs ys : List (DataW H)} (h : Sm 25 (.slice xs ys)) : ∀ x ∈ xs, Sm 9 x := by
  intro x hx n hn
  refine h n ?_
  simp only [DataW.weights, Tryd.underlying25]
  refine List.mem_cons_of_mem _ (List.mem_append_left _ ?_)
  clear h
  induction xs with
  | nil => cases hx
  | cons a t ih =>
    simp only [DataW.weightsAll, List.mem_append]
    rcases List.mem_cons.1 hx with rfl | hx
    · exact .inl hn
    · exact .inr (ih hx)
theorem open_strs {base : Nat} {spare : Nat → Bool} {held : Bool} {fuel : Nat} {v : Value} {d : DataW H} {ps : List MemPlace} (h : DataW.trod enc Tryd.prog W base spare held fuel 25 [v] = some (d, ps)) (hs : Sm 25 d) :
    ∃ (A : Option Addr) (n c : Nat) (ss : List ByteArray), v = .slice A n c ∧ n ≤ c ∧ (c : Int) ≤ 9223372036854775807 ∧ StrsAt W A n ss ∧ ∀ s ∈ ss, s.size ≤ 140737488351232 := by
  rcases open_strings Tryd.underlying25 Tryd.underlying9 (by kernel_rfl) h with ⟨hcs, hx⟩ | ⟨a, len, cap, ss, hcs, _, hl, hm, hz, hx, hcell, hsz⟩
  · simp only [List.cons.injEq, and_true] at hcs
    exact ⟨none, 0, 0, [], hcs, Nat.le_refl _, by omega, ⟨rfl, fun h => absurd h (Nat.lt_irrefl 0)⟩, fun s hs => by cases hs⟩
  · simp only [List.cons.injEq, and_true] at hcs
    simp only [Prod.mk.injEq] at hx
    have hle : len ≤ ss.length := by rw [hz]; split <;> omega
    have htl : (ss.take len).length = len := by rw [List.length_take]; omega
    refine ⟨some a, len, cap, ss.take len, hcs, hl, by unfold maxLen at hm; omega, ⟨htl.symm, fun hn => ?_⟩, fun s hs' => ?_⟩
    · have h0 := hcell 0 (by omega)
      have ha := spot_none h0
      have e0 : a.add 0 = a := by unfold Addr.add; rw [if_pos rfl]
      rw [e0] at ha
      refine ⟨a.block, a.off, by rw [← ha.1], ha.2, fun j hj => ?_⟩
      have := hcell j (by rw [htl] at hj; omega)
      rw [ha.1, add_eq] at this
      rw [this]
      congr 2
      rw [htl] at hj
      rw [List.getD_eq_getElem?_getD, List.getElem?_eq_getElem (by omega), Option.getD_some, List.getElem_take]
    · rw [hx.1] at hs
      have h1 := sm_strs hs (.lit (.string s.data.toList)) (List.mem_map.2 ⟨s, hs', rfl⟩) _ (by simp [DataW.weights]; rfl)
      have h2 : s.data.toList.length ≤ reachBytes := h1
      rw [show s.data.toList.length = s.size by simp] at h2
      exact h2
end
theorem strs_of (ss : List ByteArray) : ss = (ss.map fun s => s.data.toList).map bs := by
  rw [List.map_map]
  conv => lhs; rw [← List.map_id ss]
  apply List.map_congr_left
  intro s _
  exact (bs_self s).symm
theorem strs_len {ss : List ByteArray} (h : ∀ s ∈ ss, s.size ≤ 140737488351232) : ∀ l ∈ (ss.map fun s => s.data.toList), l.length ≤ 140737488351232 := by
  intro l hl
  obtain ⟨s, hs, rfl⟩ := List.mem_map.1 hl
  have := h s hs
  rw [sz_of s _ rfl] at this
  exact this
/-- Texts in a row that the call has made. -/
def encS (l : List UInt8) : Value := .string (bs l)
theorem own_strs {w : World} {base n c : Nat} {A : Option Addr} {ls : List (List UInt8)} (h : w.ownsRow base 9 1 (.slice A n c) n (ls.map encS)) : StrsAt w A n (ls.map bs) := by
  have h1 := h.1
  rw [List.length_map, Nat.mul_one] at h1
  refine ⟨by rw [List.length_map]; exact h1.symm, fun hn => ?_⟩
  rcases h.2 with ⟨hv, h0⟩ | ⟨g, cap, cur, hv, hb, hh, h1, h2, h3, h4⟩
  · omega
  · have hA : A = some ⟨g, 0, none⟩ := by injection hv
    subst hA
    refine ⟨g, 0, rfl, (Array.getElem?_eq_some_iff.1 hh).1, fun j hj => ?_⟩
    rw [Nat.zero_add]
    have e : (ls.map encS)[j]? = some (.string (ls.map bs)[j]) := by
      rw [List.length_map] at hj
      rw [List.getElem?_map, List.getElem?_eq_getElem hj, List.getElem_map]; rfl
    rw [← h4, List.getElem?_take] at e
    split at e
    · rw [Array.getElem?_toList] at e
      simp [World.cell?, hh, e]
    · cases e
theorem info_str : (Tryd.prog.info? 9).map (fun i => (i.zero, i.size, i.bytes)) = some (some (.string ⟨#[]⟩), 1, 16) := by kernel_rfl
theorem cell_one_new (w : World) (a : Value) : ∀ (j : Nat) (u : Value), [a][j]? = some u → (w.alloc (.cells #[a] 9)).cell? ((⟨w.heap.size, 0, none⟩ : Addr).add j) = some u := by
  intro j u h
  have hh := heap_alloc_new w (.cells #[a] 9)
  match j, h with
  | 0, h => rw [add_eq]; simp only [World.cell?, hh]; exact h
  | j + 1, h => cases h
theorem StrsAt.len {W : World} {A : Option Addr} {n : Nat} {ls : List (List UInt8)} (h : StrsAt W A n (ls.map bs)) : n = ls.length := by rw [h.1, List.length_map]
theorem StrsAt.cell {W : World} {A : Option Addr} {n : Nat} {ls : List (List UInt8)} (h : StrsAt W A n (ls.map bs)) (j : Nat) (hj : j < ls.length) : ∃ b off, A = some ⟨b, off, none⟩ ∧ b < W.heap.size ∧ W.cell? ⟨b, off + j, none⟩ = some (.string (bs ls[j])) := by
  obtain ⟨b, off, h1, h2, h3⟩ := h.at_ j (by rw [List.length_map]; exact hj)
  exact ⟨b, off, h1, h2, by rw [h3, List.getElem_map]⟩
theorem grown_below {B : Nat} {w w' : World} {row : Option Nat} (hg : w.grownBy w' row) (h : ∀ g, row = some g → B ≤ g) (hB : B ≤ w.heap.size) : Below B w w' :=
  ⟨hg.os, hg.tape, hg.output, hg.size, fun k hk => hg.block k (by omega) (fun e => by have := h k e.symm; omega)⟩
theorem outs_snoc (outs : List (List UInt8)) (x : List UInt8) : outs.map encS ++ [.string (bs x)] = (outs ++ [x]).map encS := by simp [encS]
theorem own_below {w w' : World} {base n : Nat} {e : TypeId} {size : Nat} {v : Value} {xs : List Value} (h : w.ownsRow base e size v n xs) (k : Below w.heap.size w w') : w'.ownsRow base e size v n xs :=
  h.kept (row := none) ⟨k.os, k.tape, k.output, k.size, fun j hj _ => k.block j hj⟩ (by cases hv : v.ownBlock <;> simp)
end Go.Proofs.YtnffmlfapccgkaaDoor
