/- The code's store in memory; texts; what find tells. -/
import Derived.Test.YtgpanlkcpnlejaaK2
import Derived.Test.YtgpanlkcpnlejaaShelf
namespace Go.Proofs.Ytgpanlkcpnlejaa
open Go.RowKit Go.Maps
set_option maxRecDepth 100000
abbrev BP (b : Nat) : Value := .pointer (some ⟨b, 0, none⟩)
/-- A text of a line. -/
def okTx (l : List UInt8) : Bool := decide (l.length ≤ 2000) && !decide (0 ≤ Lib.indexByte l 10)
theorem contains_call (s : ByteArray) (w : World) : Calls Try.prog 47 #[.string s, .string ⟨#[10]⟩] w fun e w' => e = .returned (.bool (decide (0 ≤ Lib.indexByte s.data.toList 10))) ∧ w = w' :=
  (Try.strings_Contains_one s 10 w).mono fun _ _ ⟨h, k⟩ => ⟨h, k.symm⟩
theorem validText_any (s : ByteArray) (w : World) : Calls Try.prog 30 #[.string s] w fun e w' => e = .returned (.bool (okTx s.data.toList)) ∧ w = w' := by
  have HE := Lib.hid (show okTx s.data.toList = (decide (s.size ≤ 2000) && !decide (0 ≤ Lib.indexByte s.data.toList 10)) by unfold okTx; rw [show s.data.toList.length = s.size by simp])
  have HC := Lib.hid (fun W => contains_call s W)
  generalize decide (0 ≤ Lib.indexByte s.data.toList 10) = t at HE HC
  by_cases h1 : s.size ≤ 2000
  · have d1 : decide ((s.size : Int) ≤ 2000) = true := decide_eq_true (by omega)
    have HX := Lib.hid (show (decide (s.size ≤ 2000) && !t) = !t by rw [decide_eq_true h1]; rfl)
    clear h1
    go_enter Try.func30, Try.ntmps30
    go_wp2_with fail
    refine (HC.out _).mono ?_
    rintro e w1 ⟨rfl, rfl⟩
    go_wp2_with fail
    go_ret
    rw [HE.out, HX.out]
    exact ⟨rfl, rfl⟩
  · have d1 : decide ((s.size : Int) ≤ 2000) = false := decide_eq_false (by omega)
    have HX := Lib.hid (show (decide (s.size ≤ 2000) && !t) = false by rw [decide_eq_false h1]; rfl)
    clear h1
    go_enter Try.func30, Try.ntmps30
    go_wp2_with fail
    go_ret
    rw [HE.out, HX.out]
    exact ⟨rfl, rfl⟩
/-- An entry: its kind, text and lines. -/
structure En where
  kind : Int
  tx : ByteArray
  lo : Option Addr
  ln : Nat
  lc : Nat
def enCs (e : En) : Array Value := #[.int .i64 e.kind, .string e.tx, .slice e.lo e.ln e.lc]
def EnAt (w : World) (b : Nat) (e : En) : Prop := w.heap[b]? = some (.cells (enCs e) 59 (0, 0))
/-- The code's store: its own block, the map's, the names, the entries. -/
structure SK (sb mb : Nat) (L : List Reg) (E : Nat → En) (w : World) : Prop where
  cell : w.heap[sb]? = some (.cells #[.map (some mb)] 50 (0, 0))
  ne : sb ≠ mb
  asc : Asc L
  map : ∃ D : DataW Unit, w.ownsMap Try.prog 9 regElem mb L.length D ∧ MapIs D L
  ok : ∀ r ∈ L, okNm r.nm = true
  len : L.length ≤ 500
  ent : ∀ r ∈ L, EnAt w r.v (E r.v)
theorem lt_of_block {w : World} {b : Nat} {o : Obj} (h : w.heap[b]? = some o) : b < w.heap.size := (Array.getElem?_eq_some_iff.1 h).1
theorem SK.lt {sb mb : Nat} {L : List Reg} {E : Nat → En} {w : World} (h : SK sb mb L E w) : sb < w.heap.size ∧ mb < w.heap.size := by
  obtain ⟨D, h1, _⟩ := h.map
  exact ⟨lt_of_block h.cell, h1.lt⟩
theorem SK.c0 {sb mb : Nat} {L : List Reg} {E : Nat → En} {w : World} (h : SK sb mb L E w) : w.cell? ⟨sb, 0, none⟩ = some (.map (some mb)) := by simp [World.cell?, h.cell]
theorem ownsMap_move {b n : Nat} {D : DataW Unit} {w w' : World} (h : w.ownsMap Try.prog 9 regElem b n D) (k : w'.heap[b]? = w.heap[b]?) : w'.ownsMap Try.prog 9 regElem b n D := by
  obtain ⟨es, c, h1, h2⟩ := h
  exact ⟨es, c, k.trans h1, h2⟩
theorem SK.kept {sb mb : Nat} {L : List Reg} {E : Nat → En} {S : Nat → Prop} {w w' : World} (h : SK sb mb L E w) (k : Kept S w w') (h1 : ¬ S sb) (h2 : ¬ S mb) (h3 : ∀ r ∈ L, ¬ S r.v) : SK sb mb L E w' := by
  obtain ⟨D, h4, h5⟩ := h.map
  exact ⟨(k.block _ h.lt.1 h1).trans h.cell, h.ne, h.asc, ⟨D, ownsMap_move h4 (k.block _ h.lt.2 h2), h5⟩, h.ok, h.len, fun r hr => (k.block _ (lt_of_block (h.ent r hr)) (h3 r hr)).trans (h.ent r hr)⟩
theorem SK.below {sb mb : Nat} {L : List Reg} {E : Nat → En} {w w' : World} (h : SK sb mb L E w) (k : Below w.heap.size w w') : SK sb mb L E w' :=
  h.kept (Kept.of (S := fun _ => False) k) (fun h => h) (fun h => h) (fun _ _ h => h)
theorem SK.ne1 {sb mb : Nat} {L : List Reg} {E : Nat → En} {w : World} (h : SK sb mb L E w) (r : Reg) (hr : r ∈ L) : r.v ≠ sb ∧ r.v ≠ mb := by
  have h1 := h.ent r hr
  obtain ⟨D, ⟨es, c, h4, _⟩, _⟩ := h.map
  refine ⟨fun e => ?_, fun e => ?_⟩
  · rw [e] at h1; unfold EnAt at h1; rw [h.cell] at h1; injection h1 with h1; injection h1 with _ h1; exact absurd h1 (by decide)
  · rw [e] at h1; unfold EnAt at h1; rw [h4] at h1; injection h1 with h1; cases h1
theorem law : Keyed Try.prog 9 := string_keyed Try.underlying9
theorem zeroPtr (w : World) : (zeroValue 63).run Try.prog w = .ok (.pointer none) w := by kernel_rfl
theorem info_tight {b n : Nat} {D : DataW Unit} {w : World} (h : w.ownsMap Try.prog 9 regElem b n D) : w.ownsMap Try.prog 9 regElem b (Maps.size D) D := by
  obtain ⟨es, c, h1, h2, h3, rfl⟩ := h
  refine ⟨es, c, h1, h2, ?_, rfl⟩
  simp [Maps.size, length_sorted]
theorem fresh_en {b : Nat} {x y z : Value} {w : World} (h : w.heap[b]? = some (.cells #[x, y, z] 59 (0, 0))) : (w.cell? ⟨b, 0, none⟩ = some x ∧ w.cell? ⟨b, 1, none⟩ = some y ∧ w.cell? ⟨b, 2, none⟩ = some z) ∧ (w.frozen? ⟨b, 0, none⟩ = false ∧ w.frozen? ⟨b, 1, none⟩ = false ∧ w.frozen? ⟨b, 2, none⟩ = false) := by
  simp [World.cell?, World.frozen?, h]
/-- The same key, wherever it stands: one block a name. -/
theorem getS_nmv (L : List Reg) (nm : List UInt8) (h : hasS L nm = true) : getS L nm = ⟨nm, (getS L nm).v⟩ := by
  have := getS_nm L nm
  cases e : getS L nm with
  | mk a b => rw [e] at this; simp at this; rw [this]
/- A store that is made. -/
theorem made_any {sb mb : Nat} {L : List Reg} {E : Nat → En} {w : World} (h : SK sb mb L E w) : Calls Try.prog 44 #[BP sb] w fun e w' => e = .returned (.bool true) ∧ w = w' := by
  have hc := h.c0
  have hmn := fun (w : World) (r : Option Nat) => run_neq_map_nil (P := Try.prog) w 48 9 63 r Try.underlying48
  clear h
  go_enter Try.func44, Try.ntmps44
  go_wp2_with fail
  go_ret
  exact ⟨rfl, rfl⟩
theorem new_any (w : World) : Calls Try.prog 10 #[] w fun e w' => e = .returned (.pointer (some ⟨w.heap.size + 1, 0, none⟩)) ∧ (∀ E, SK (w.heap.size + 1) w.heap.size [] E w') ∧ Below w.heap.size w w' := by
  have hmm := @run_makeMap Try.prog
  go_enter Try.func10, Try.ntmps10
  go_wp2_with fail
  go_ret
  refine ⟨rfl, fun E => ⟨?_, by omega, List.Pairwise.nil, ⟨.map [], ?_, MapIs.empty⟩, (fun r hr => by cases hr), by simp, (fun r hr => by cases hr)⟩, ((Below.refl _ _).alloc (Nat.le_refl _) _).alloc (by simp) _⟩
  · have := heap_alloc_new (w.alloc (.map #[] 0)) (.cells #[.map (some w.heap.size)] 50)
    simpa using this
  · exact (World.ownsMap_made w Try.prog 9 regElem).alloc _
/-- A look-up whose element is known. -/
theorem wpList_lookup_reg (w : World) {ops : Array Oper} {rest : List Oper} {o : Oper} {a : Act} {Q : Exit → Act → World → Prop}
    (hg : o.guard = none) (m x : Operand) (hop : o.op = Op.lookup 48 m x true) (b n : Nat) (D : DataW Unit) (s : ByteArray) (hs : s.size ≤ maxLen) (r : Reg)
    (hm : a.eval m = .map (some b)) (hown : w.ownsMap Try.prog 9 regElem b n D) (hx : a.eval x = .string s) (hat : D.atKey (.string s.data.toList) (.lit (.int .i64 (-1))) = regD r) (ht : Maps.has D (.string s.data.toList) = true)
    (hK : wpList Try.prog ops Q rest (a.put o.dst (.tuple #[.pointer (some ⟨r.v, 0, none⟩), .bool true])) w) : wpList Try.prog ops Q (o :: rest) a w :=
  wpList_lookup_own_ok w hg m x 48 hop 9 63 law Try.underlying48 regElem (zeroPtr w) (.lit (.int .i64 (-1))) [] rfl b n D hm hown _ _ hx (WideMaps.keyOf_string_mk Try.underlying9 hs) (fun v ps hv => by
    rw [hat] at hv
    obtain rfl := regElem_inv hv
    rw [ht]
    exact hK)
theorem elem_none {v : Value} {ps : List MemPlace} (h : regElem v = some (.lit (.int .i64 (-1)), ps)) : v = .pointer none := by
  unfold regElem at h
  split at h
  · rfl
  · split at h
    · simp only [Option.some.injEq, Prod.mk.injEq, DataW.lit.injEq, Lit.int.injEq] at h
      omega
    · cases h
  · cases h
theorem wpList_lookup_none (w : World) {ops : Array Oper} {rest : List Oper} {o : Oper} {a : Act} {Q : Exit → Act → World → Prop}
    (hg : o.guard = none) (m x : Operand) (hop : o.op = Op.lookup 48 m x true) (b n : Nat) (D : DataW Unit) (s : ByteArray) (hs : s.size ≤ maxLen)
    (hm : a.eval m = .map (some b)) (hown : w.ownsMap Try.prog 9 regElem b n D) (hx : a.eval x = .string s) (ht : Maps.has D (.string s.data.toList) = false)
    (hK : wpList Try.prog ops Q rest (a.put o.dst (.tuple #[.pointer none, .bool false])) w) : wpList Try.prog ops Q (o :: rest) a w :=
  wpList_lookup_own_ok w hg m x 48 hop 9 63 law Try.underlying48 regElem (zeroPtr w) (.lit (.int .i64 (-1))) [] rfl b n D hm hown _ _ hx (WideMaps.keyOf_string_mk Try.underlying9 hs) (fun v ps hv => by
    rw [atKey_of_not_has ht] at hv
    obtain rfl := elem_none hv
    rw [ht]
    exact hK)
theorem size_ok {s : ByteArray} (hn : okNm s.data.toList = true) : s.size ≤ maxLen := by
  rw [okNm_eq] at hn
  simp only [Bool.and_eq_true, decide_eq_true_eq] at hn
  unfold maxLen; omega
end Go.Proofs.Ytgpanlkcpnlejaa
