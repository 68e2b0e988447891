/- The code's store in memory; texts; what find tells. -/
import Derived.Test.YtgpanlkcpnlejaaGreatMa
import Derived.Test.YtgpanlkcpnlejaaGreatShelf
set_option linter.unusedSimpArgs false
set_option linter.unusedVariables false
namespace Go.Proofs.YtgpanlkcpnlejaaGreat
open Go.RowKit Go.Maps
set_option maxRecDepth 100000
abbrev BP (b : Nat) : Value := .pointer (some ⟨b, 0, none⟩)
/-- A text of a line. -/
def okTx (l : List UInt8) : Bool := decide (l.length ≤ 2000) && !decide (0 ≤ Lib.indexByte l 10)
theorem contains_call (s : ByteArray) (w : World) : Calls Tryz.prog 75 #[.string s, .string ⟨#[10]⟩] w fun e w' => e = .returned (.bool (decide (0 ≤ Lib.indexByte s.data.toList 10))) ∧ w = w' :=
  (Tryz.strings_Contains_one s 10 w).mono fun _ _ ⟨h, k⟩ => ⟨h, k.symm⟩
theorem validText_any (s : ByteArray) (w : World) : Calls Tryz.prog 42 #[.string s] w fun e w' => e = .returned (.bool (okTx s.data.toList)) ∧ w = w' := by
  have HE := Lib.hid (show okTx s.data.toList = (decide (s.size ≤ 2000) && !decide (0 ≤ Lib.indexByte s.data.toList 10)) by unfold okTx; rw [show s.data.toList.length = s.size by simp])
  have HC := Lib.hid (fun W => contains_call s W)
  generalize decide (0 ≤ Lib.indexByte s.data.toList 10) = t at HE HC
  by_cases h1 : s.size ≤ 2000
  · have d1 : decide ((s.size : Int) ≤ 2000) = true := decide_eq_true (by omega)
    have HX := Lib.hid (show (decide (s.size ≤ 2000) && !t) = !t by rw [decide_eq_true h1]; rfl)
    clear h1
    go_enter Tryz.func42, Tryz.ntmps42
    go_wp2_with fail
    refine (HC.out _).mono ?_
    rintro e w1 ⟨rfl, rfl⟩
    go_wp2_with fail
    go_ret
    rw [HE.out, HX.out]
    exact ⟨rfl, rfl⟩
  · have d1 : decide ((s.size : Int) ≤ 2000) = false := decide_eq_false (by omega)
    have HX := Lib.hid (show (decide (s.size ≤ 2000) && !t) = false by rw [decide_eq_false h1]; rfl)
    clear h1
    go_enter Tryz.func42, Tryz.ntmps42
    go_wp2_with fail
    go_ret
    rw [HE.out, HX.out]
    exact ⟨rfl, rfl⟩
/-- An entry: its kind, text and lines. -/
structure En where
  kind : Int
  tx : ByteArray
  lo : Option Addr
  ln : Nat
  lc : Nat
def enCs (e : En) : Array Value := #[.int .i64 e.kind, .string e.tx, .slice e.lo e.ln e.lc]
def EnAt (w : World) (b : Nat) (e : En) : Prop := w.heap[b]? = some (.cells (enCs e) 59 (0, 0))
/-- The code's store: its own block, the map's, the names, the entries. -/
structure SK (sb mb : Nat) (L : List Reg) (E : Nat → En) (w : World) : Prop where
  cell : w.heap[sb]? = some (.cells #[.map (some mb)] 46 (0, 0))
  ne : sb ≠ mb
  asc : Asc L
  map : ∃ D : DataW Unit, w.ownsMap Tryz.prog 9 regElem mb L.length D ∧ MapIs D L
  ok : ∀ r ∈ L, okNm r.nm = true
  len : L.length ≤ 500
  ent : ∀ r ∈ L, EnAt w r.v (E r.v)
theorem lt_of_block {w : World} {b : Nat} {o : Obj} (h : w.heap[b]? = some o) : b < w.heap.size := (Array.getElem?_eq_some_iff.1 h).1
theorem SK.lt {sb mb : Nat} {L : List Reg} {E : Nat → En} {w : World} (h : SK sb mb L E w) : sb < w.heap.size ∧ mb < w.heap.size := by
  obtain ⟨D, h1, _⟩ := h.map
  exact ⟨lt_of_block h.cell, h1.lt⟩
theorem SK.c0 {sb mb : Nat} {L : List Reg} {E : Nat → En} {w : World} (h : SK sb mb L E w) : w.cell? ⟨sb, 0, none⟩ = some (.map (some mb)) := by simp [World.cell?, h.cell]
theorem ownsMap_move {b n : Nat} {D : DataW Unit} {w w' : World} (h : w.ownsMap Tryz.prog 9 regElem b n D) (k : w'.heap[b]? = w.heap[b]?) : w'.ownsMap Tryz.prog 9 regElem b n D := by
  obtain ⟨es, c, h1, h2⟩ := h
  exact ⟨es, c, k.trans h1, h2⟩
theorem SK.kept {sb mb : Nat} {L : List Reg} {E : Nat → En} {S : Nat → Prop} {w w' : World} (h : SK sb mb L E w) (k : Kept S w w') (h1 : ¬ S sb) (h2 : ¬ S mb) (h3 : ∀ r ∈ L, ¬ S r.v) : SK sb mb L E w' := by
  obtain ⟨D, h4, h5⟩ := h.map
  exact ⟨(k.block _ h.lt.1 h1).trans h.cell, h.ne, h.asc, ⟨D, ownsMap_move h4 (k.block _ h.lt.2 h2), h5⟩, h.ok, h.len, fun r hr => (k.block _ (lt_of_block (h.ent r hr)) (h3 r hr)).trans (h.ent r hr)⟩
theorem SK.below {sb mb : Nat} {L : List Reg} {E : Nat → En} {w w' : World} (h : SK sb mb L E w) (k : Below w.heap.size w w') : SK sb mb L E w' :=
  h.kept (Kept.of (S := fun _ => False) k) (fun h => h) (fun h => h) (fun _ _ h => h)
theorem SK.ne1 {sb mb : Nat} {L : List Reg} {E : Nat → En} {w : World} (h : SK sb mb L E w) (r : Reg) (hr : r ∈ L) : r.v ≠ sb ∧ r.v ≠ mb := by
  have h1 := h.ent r hr
  obtain ⟨D, ⟨es, c, h4, _⟩, _⟩ := h.map
  refine ⟨fun e => ?_, fun e => ?_⟩
  · rw [e] at h1; unfold EnAt at h1; rw [h.cell] at h1; injection h1 with h1; injection h1 with _ h1; exact absurd h1 (by decide)
  · rw [e] at h1; unfold EnAt at h1; rw [h4] at h1; injection h1 with h1; cases h1
theorem law : Keyed Tryz.prog 9 := string_keyed Tryz.underlying9
theorem zeroPtr (w : World) : (zeroValue 57).run Tryz.prog w = .ok (.pointer none) w := by kernel_rfl
theorem info_tight {b n : Nat} {D : DataW Unit} {w : World} (h : w.ownsMap Tryz.prog 9 regElem b n D) : w.ownsMap Tryz.prog 9 regElem b (Maps.size D) D := by
  obtain ⟨es, c, h1, h2, h3, rfl⟩ := h
  refine ⟨es, c, h1, h2, ?_, rfl⟩
  simp [Maps.size, length_sorted]
theorem fresh_en {b : Nat} {x y z : Value} {w : World} (h : w.heap[b]? = some (.cells #[x, y, z] 59 (0, 0))) : (w.cell? ⟨b, 0, none⟩ = some x ∧ w.cell? ⟨b, 1, none⟩ = some y ∧ w.cell? ⟨b, 2, none⟩ = some z) ∧ (w.frozen? ⟨b, 0, none⟩ = false ∧ w.frozen? ⟨b, 1, none⟩ = false ∧ w.frozen? ⟨b, 2, none⟩ = false) := by
  simp [World.cell?, World.frozen?, h]
/-- The same key, wherever it stands: one block a name. -/
theorem getS_nmv (L : List Reg) (nm : List UInt8) (h : hasS L nm = true) : getS L nm = ⟨nm, (getS L nm).v⟩ := by
  have := getS_nm L nm
  cases e : getS L nm with
  | mk a b => rw [e] at this; simp at this; rw [this]
/- A store that is made. -/
theorem made_any {sb mb : Nat} {L : List Reg} {E : Nat → En} {w : World} (h : SK sb mb L E w) : Calls Tryz.prog 37 #[BP sb] w fun e w' => e = .returned (.bool true) ∧ w = w' := by
  have hc := h.c0
  have hmn := fun (w : World) (r : Option Nat) => run_neq_map_nil (P := Tryz.prog) w 44 9 57 r Tryz.underlying44
  clear h
  go_enter Tryz.func37, Tryz.ntmps37
  go_wp2_with fail
  go_ret
  exact ⟨rfl, rfl⟩
theorem new_any (w : World) : Calls Tryz.prog 7 #[] w fun e w' => e = .returned (.pointer (some ⟨w.heap.size + 1, 0, none⟩)) ∧ (∀ E, SK (w.heap.size + 1) w.heap.size [] E w') ∧ Below w.heap.size w w' := by
  have hmm := @run_makeMap Tryz.prog
  go_enter Tryz.func7, Tryz.ntmps7
  go_wp2_with fail
  go_ret
  refine ⟨rfl, fun E => ⟨?_, by omega, List.Pairwise.nil, ⟨.map [], ?_, MapIs.empty⟩, (fun r hr => by cases hr), by simp, (fun r hr => by cases hr)⟩, ((Below.refl _ _).alloc (Nat.le_refl _) _).alloc (by simp) _⟩
  · have := heap_alloc_new (w.alloc (.map #[] 0)) (.cells #[.map (some w.heap.size)] 46)
    simpa using this
  · exact (World.ownsMap_made w Tryz.prog 9 regElem).alloc _
/-- A look-up whose element is known. -/
theorem wpList_lookup_reg (w : World) {ops : Array Oper} {rest : List Oper} {o : Oper} {a : Act} {Q : Exit → Act → World → Prop}
    (hg : o.guard = none) (m x : Operand) (hop : o.op = Op.lookup 44 m x true) (b n : Nat) (D : DataW Unit) (s : ByteArray) (hs : s.size ≤ maxLen) (r : Reg)
    (hm : a.eval m = .map (some b)) (hown : w.ownsMap Tryz.prog 9 regElem b n D) (hx : a.eval x = .string s) (hat : D.atKey (.string s.data.toList) (.lit (.int .i64 (-1))) = regD r) (ht : Maps.has D (.string s.data.toList) = true)
    (hK : wpList Tryz.prog ops Q rest (a.put o.dst (.tuple #[.pointer (some ⟨r.v, 0, none⟩), .bool true])) w) : wpList Tryz.prog ops Q (o :: rest) a w :=
  wpList_lookup_own_ok w hg m x 44 hop 9 57 law Tryz.underlying44 regElem (zeroPtr w) (.lit (.int .i64 (-1))) [] rfl b n D hm hown _ _ hx (WideMaps.keyOf_string_mk Tryz.underlying9 hs) (fun v ps hv => by
    rw [hat] at hv
    obtain rfl := regElem_inv hv
    rw [ht]
    exact hK)
theorem elem_none {v : Value} {ps : List MemPlace} (h : regElem v = some (.lit (.int .i64 (-1)), ps)) : v = .pointer none := by
  unfold regElem at h
  split at h
  · rfl
  · split at h
    · simp only [Option.some.injEq, Prod.mk.injEq, DataW.lit.injEq, Lit.int.injEq] at h
      omega
    · cases h
  · cases h
theorem wpList_lookup_none (w : World) {ops : Array Oper} {rest : List Oper} {o : Oper} {a : Act} {Q : Exit → Act → World → Prop}
    (hg : o.guard = none) (m x : Operand) (hop : o.op = Op.lookup 44 m x true) (b n : Nat) (D : DataW Unit) (s : ByteArray) (hs : s.size ≤ maxLen)
    (hm : a.eval m = .map (some b)) (hown : w.ownsMap Tryz.prog 9 regElem b n D) (hx : a.eval x = .string s) (ht : Maps.has D (.string s.data.toList) = false)
    (hK : wpList Tryz.prog ops Q rest (a.put o.dst (.tuple #[.pointer none, .bool false])) w) : wpList Tryz.prog ops Q (o :: rest) a w :=
  wpList_lookup_own_ok w hg m x 44 hop 9 57 law Tryz.underlying44 regElem (zeroPtr w) (.lit (.int .i64 (-1))) [] rfl b n D hm hown _ _ hx (WideMaps.keyOf_string_mk Tryz.underlying9 hs) (fun v ps hv => by
    rw [atKey_of_not_has ht] at hv
    obtain rfl := elem_none hv
    rw [ht]
    exact hK)
theorem size_ok {s : ByteArray} (hn : okNm s.data.toList = true) : s.size ≤ maxLen := by
  rw [okNm_eq] at hn
  simp only [Bool.and_eq_true, decide_eq_true_eq] at hn
  unfold maxLen; omega
end Go.Proofs.YtgpanlkcpnlejaaGreat
/- The code's store: find, get. -/
namespace Go.Proofs.YtgpanlkcpnlejaaGreat
open Go.RowKit Go.Maps
set_option maxRecDepth 100000
abbrev ZE : Value := .agg #[.int .i64 0, .string ⟨#[]⟩, .slice none 0 0]
abbrev ZO : Obj := .cells #[.int .i64 0, .string ⟨#[]⟩, .slice none 0 0] 59
def enA (e : En) : Value := .agg #[.int .i64 e.kind, .string e.tx, .slice e.lo e.ln e.lc]
theorem find_end {a : Act} {W' : World} {g : Nat} {x y z e : Value} {Q : Ending → World → Prop} (hd : a.defers = []) (h6 : a.tmps.getD 6 undef = .pointer (some ⟨g, 0, none⟩)) (h7 : a.tmps.getD 7 undef = e)
    (hg : W'.heap[g]? = some (.cells #[x, y, z] 59 (0, 0))) (hQ : Q (.returned (.tuple #[.agg #[x, y, z], e])) W') : bodyPost Tryz.prog Tryz.f41 Q Exit.ret a W' := by
  have h6' : a.tmps[6]?.getD undef = .pointer (some ⟨g, 0, none⟩) := by simpa using h6
  have h7' : a.tmps[7]?.getD undef = e := by simpa using h7
  refine bodyPost_ret (v := .tuple #[.agg #[x, y, z], e]) ?_ hd hQ
  obtain ⟨⟨c0, c1, c2⟩, _⟩ := fresh_en hg
  simp [results, Tryz.results41, h6', h7', go_sem, c0, c1, c2]
theorem find_arg {sb mb : Nat} {L : List Reg} {E : Nat → En} {w : World} (h : SK sb mb L E w) (s : ByteArray) : Calls Tryz.prog 41 #[BP sb, .string s, .bool false] w fun e w' => e = .returned (.tuple #[ZE, .int .i64 1]) ∧ Below w.heap.size w w' := by
  have hb0 : Below w.heap.size w (w.alloc ZO) := (Below.refl _ _).alloc (Nat.le_refl _) _
  have H := Lib.hid (h.below hb0)
  have HB0 := Lib.hid hb0
  clear h hb0
  go_enter Tryz.func41, Tryz.ntmps41
  go_wp2_with fail
  refine (made_any H.out).mono ?_
  rintro e w1 ⟨rfl, rfl⟩
  go_wp2_with fail
  refine find_end rfl rfl rfl ?_ ⟨rfl, ?_⟩
  · have hblk : (w.alloc (.cells #[.int .i64 0, .string ⟨#[]⟩, .slice none 0 0] 59)).heap[w.heap.size]? = some (.cells #[.int .i64 0, .string ⟨#[]⟩, .slice none 0 0] 59 (0, 0)) := heap_alloc_new _ _
    simp only [World.setCell, Array.getElem?_modify, hblk]
  · repeat (with_reducible refine Below.setCell ?_ (Nat.le_refl w.heap.size) _)
    exact HB0.out
theorem find_bad {sb mb : Nat} {L : List Reg} {E : Nat → En} {w : World} (h : SK sb mb L E w) (s : ByteArray) (hn : okNm s.data.toList = false) : Calls Tryz.prog 41 #[BP sb, .string s, .bool true] w fun e w' => e = .returned (.tuple #[ZE, .int .i64 6]) ∧ Below w.heap.size w w' := by
  have hb0 : Below w.heap.size w (w.alloc ZO) := (Below.refl _ _).alloc (Nat.le_refl _) _
  have H := Lib.hid (h.below hb0)
  have HB0 := Lib.hid hb0
  have HV := Lib.hid (fun W => validName_any s W)
  rw [hn] at HV
  clear h hn hb0
  go_enter Tryz.func41, Tryz.ntmps41
  go_wp2_with fail
  refine (made_any H.out).mono ?_
  rintro e w1 ⟨rfl, rfl⟩
  go_wp2_with fail
  refine (HV.out _).mono ?_
  rintro e w2 ⟨rfl, hb⟩
  have HB := Lib.hid (HB0.out.trans (hb.mono (by simp)))
  have hblk : w2.heap[w.heap.size]? = some (.cells #[.int .i64 0, .string ⟨#[]⟩, .slice none 0 0] 59 (0, 0)) := (hb.block _ (by simp)).trans (heap_alloc_new _ _)
  obtain ⟨⟨hc0, hc1, hc2⟩, hf0, hf1, hf2⟩ := fresh_en hblk
  have HBLK := Lib.hid hblk
  clear hb hblk
  go_wp2_with fail
  refine find_end rfl rfl rfl ?_ ⟨rfl, ?_⟩
  · simp [World.setCell, Array.getElem?_modify, HBLK.out]
  · repeat (with_reducible refine Below.setCell ?_ (Nat.le_refl w.heap.size) _)
    exact HB.out
set_option maxHeartbeats 1000000 in
theorem find_yes {sb mb : Nat} {L : List Reg} {E : Nat → En} {w : World} (h : SK sb mb L E w) (s : ByteArray) (hn : okNm s.data.toList = true) (ht : hasS L s.data.toList = true) :
    Calls Tryz.prog 41 #[BP sb, .string s, .bool true] w fun e w' => e = .returned (.tuple #[enA (E (getS L s.data.toList).v), .int .i64 0]) ∧ Below w.heap.size w w' := by
  have hb0 : Below w.heap.size w (w.alloc ZO) := (Below.refl _ _).alloc (Nat.le_refl _) _
  have H := Lib.hid (h.below hb0)
  have HB0 := Lib.hid hb0
  have HV := Lib.hid (fun W => validName_any s W)
  rw [hn] at HV
  have HS := Lib.hid (size_ok hn)
  have HTT := Lib.hid ht
  have hmem := getS_mem L s.data.toList ht
  obtain ⟨r, hr⟩ : ∃ r, r = getS L s.data.toList := ⟨_, rfl⟩
  rw [← hr] at hmem ⊢
  have HR := Lib.hid hr
  have hrl := lt_of_block (h.ent r hmem)
  obtain ⟨en, hen⟩ : ∃ en, en = E r.v := ⟨_, rfl⟩
  have HENT : Hid (∀ W, SK sb mb L E W → W.heap[r.v]? = some (.cells #[.int .i64 en.kind, .string en.tx, .slice en.lo en.ln en.lc] 59 (0, 0))) := Lib.hid (fun W hW => by have := hW.ent r hmem; rw [← hen] at this; exact this)
  rw [← hen]
  obtain ⟨kd, tx, lo, ln, lc⟩ := en
  unfold enA
  simp only at HENT ⊢
  clear h hn hb0 ht hr hmem hen
  go_enter Tryz.func41, Tryz.ntmps41
  go_wp2_with fail
  refine (made_any H.out).mono ?_
  rintro e w1 ⟨rfl, rfl⟩
  go_wp2_with fail
  refine (HV.out _).mono ?_
  rintro e w2 ⟨rfl, hb⟩
  have HB := Lib.hid (HB0.out.trans (hb.mono (by simp)))
  have hblk : w2.heap[w.heap.size]? = some (.cells #[.int .i64 0, .string ⟨#[]⟩, .slice none 0 0] 59 (0, 0)) := (hb.block _ (by simp)).trans (heap_alloc_new _ _)
  obtain ⟨⟨hc0, hc1, hc2⟩, hf0, hf1, hf2⟩ := fresh_en hblk
  have HBLK := Lib.hid hblk
  have hbk := H.out.below hb
  have hcb := hbk.c0
  have hrc := HENT.out _ hbk
  obtain ⟨⟨gc0, gc1, gc2⟩, _⟩ := fresh_en hrc
  obtain ⟨D, hown, his⟩ := hbk.map
  have HOWN := Lib.hid hown
  have HIS : Hid (MapIs D L) := Lib.hid his
  clear hb hblk hbk hown his hrc
  have HAT := Lib.hid (HIS.out.at_ s.data.toList HTT.out (.lit (.int .i64 (-1))))
  rw [← HR.out] at HAT
  have HHAS := Lib.hid ((HIS.out.has s.data.toList).trans HTT.out)
  go_wp2_with (at_lookup; refine wpList_lookup_reg _ rfl _ _ rfl mb L.length D s HS.out r rfl HOWN.out rfl HAT.out HHAS.out ?_)
  refine find_end rfl rfl rfl ?_ ⟨rfl, ?_⟩
  · simp [World.setCell, Array.getElem?_modify, HBLK.out]
  · repeat (with_reducible refine Below.setCell ?_ (Nat.le_refl w.heap.size) _)
    exact HB.out
set_option maxHeartbeats 1000000 in
theorem find_no {sb mb : Nat} {L : List Reg} {E : Nat → En} {w : World} (h : SK sb mb L E w) (s : ByteArray) (hn : okNm s.data.toList = true) (ht : hasS L s.data.toList = false) :
    Calls Tryz.prog 41 #[BP sb, .string s, .bool true] w fun e w' => e = .returned (.tuple #[ZE, .int .i64 0]) ∧ Below w.heap.size w w' := by
  have hb0 : Below w.heap.size w (w.alloc ZO) := (Below.refl _ _).alloc (Nat.le_refl _) _
  have H := Lib.hid (h.below hb0)
  have HB0 := Lib.hid hb0
  have HV := Lib.hid (fun W => validName_any s W)
  rw [hn] at HV
  have HS := Lib.hid (size_ok hn)
  have HTT := Lib.hid ht
  clear h hn hb0 ht
  go_enter Tryz.func41, Tryz.ntmps41
  go_wp2_with fail
  refine (made_any H.out).mono ?_
  rintro e w1 ⟨rfl, rfl⟩
  go_wp2_with fail
  refine (HV.out _).mono ?_
  rintro e w2 ⟨rfl, hb⟩
  have HB := Lib.hid (HB0.out.trans (hb.mono (by simp)))
  have hblk : w2.heap[w.heap.size]? = some (.cells #[.int .i64 0, .string ⟨#[]⟩, .slice none 0 0] 59 (0, 0)) := (hb.block _ (by simp)).trans (heap_alloc_new _ _)
  obtain ⟨⟨hc0, hc1, hc2⟩, hf0, hf1, hf2⟩ := fresh_en hblk
  have HBLK := Lib.hid hblk
  have hbk := H.out.below hb
  have hcb := hbk.c0
  obtain ⟨D, hown, his⟩ := hbk.map
  have HOWN := Lib.hid hown
  have HIS : Hid (MapIs D L) := Lib.hid his
  clear hb hblk hbk hown his
  have HHAS := Lib.hid ((HIS.out.has s.data.toList).trans HTT.out)
  go_wp2_with (at_lookup; refine wpList_lookup_none _ rfl _ _ rfl mb L.length D s HS.out rfl HOWN.out rfl HHAS.out ?_)
  refine find_end rfl rfl rfl ?_ ⟨rfl, ?_⟩
  · simp [World.setCell, Array.getElem?_modify, HBLK.out]
  · repeat (with_reducible refine Below.setCell ?_ (Nat.le_refl w.heap.size) _)
    exact HB.out
/- The very entry of a name. -/
theorem get_yes {sb mb : Nat} {L : List Reg} {E : Nat → En} {w : World} (h : SK sb mb L E w) (s : ByteArray) (hs : s.size ≤ maxLen) (ht : hasS L s.data.toList = true) :
    Calls Tryz.prog 44 #[BP sb, .string s] w fun e w' => e = .returned (.tuple #[BP (getS L s.data.toList).v, .int .i64 0]) ∧ w = w' := by
  have HM := Lib.hid (made_any h)
  have HS := Lib.hid hs
  have hcb := h.c0
  obtain ⟨D, hown, his⟩ := h.map
  have HAT := Lib.hid (his.at_ s.data.toList ht (.lit (.int .i64 (-1))))
  have HHAS := Lib.hid ((his.has s.data.toList).trans ht)
  have HOWN := Lib.hid hown
  obtain ⟨r, hr⟩ : ∃ r, r = getS L s.data.toList := ⟨_, rfl⟩
  rw [← hr] at HAT ⊢
  clear h hs ht hown his hr
  go_enter Tryz.func44, Tryz.ntmps44
  go_wp2_with fail
  refine HM.out.mono ?_
  rintro e w1 ⟨rfl, rfl⟩
  go_wp2_with (at_lookup; refine wpList_lookup_reg _ rfl _ _ rfl mb L.length D s HS.out r rfl HOWN.out rfl HAT.out HHAS.out ?_)
  go_ret2
  exact ⟨rfl, rfl⟩
theorem get_no {sb mb : Nat} {L : List Reg} {E : Nat → En} {w : World} (h : SK sb mb L E w) (s : ByteArray) (hs : s.size ≤ maxLen) (ht : hasS L s.data.toList = false) :
    Calls Tryz.prog 44 #[BP sb, .string s] w fun e w' => e = .returned (.tuple #[.pointer none, .int .i64 6]) ∧ w = w' := by
  have HM := Lib.hid (made_any h)
  have HS := Lib.hid hs
  have hcb := h.c0
  obtain ⟨D, hown, his⟩ := h.map
  have HHAS := Lib.hid ((his.has s.data.toList).trans ht)
  have HOWN := Lib.hid hown
  clear h hs ht hown his
  go_enter Tryz.func44, Tryz.ntmps44
  go_wp2_with fail
  refine HM.out.mono ?_
  rintro e w1 ⟨rfl, rfl⟩
  go_wp2_with (at_lookup; refine wpList_lookup_none _ rfl _ _ rfl mb L.length D s HS.out rfl HOWN.out rfl HHAS.out ?_)
  go_ret2
  exact ⟨rfl, rfl⟩
end Go.Proofs.YtgpanlkcpnlejaaGreat
/- The code's store: give, put. -/
namespace Go.Proofs.YtgpanlkcpnlejaaGreat
open Go.RowKit Go.Maps
set_option maxRecDepth 100000
abbrev E0 : En := ⟨0, ⟨#[]⟩, none, 0, 0⟩
/-- What a name has; nothing: kind 0. -/
def entOf (L : List Reg) (E : Nat → En) (nm : List UInt8) : En := if hasS L nm then E (getS L nm).v else E0
theorem find_ok {sb mb : Nat} {L : List Reg} {E : Nat → En} {w : World} (h : SK sb mb L E w) (s : ByteArray) (hn : okNm s.data.toList = true) :
    Calls Tryz.prog 41 #[BP sb, .string s, .bool true] w fun e w' => e = .returned (.tuple #[enA (entOf L E s.data.toList), .int .i64 0]) ∧ Below w.heap.size w w' := by
  unfold entOf
  cases ht : hasS L s.data.toList with
  | true => exact find_yes h s hn ht
  | false => exact find_no h s hn ht
def upd (E : Nat → En) (b : Nat) (c : En) : Nat → En := fun k => if k = b then c else E k
theorem upd_same (E : Nat → En) (b : Nat) (c : En) : upd E b c b = c := if_pos rfl
theorem upd_other (E : Nat → En) (b : Nat) (c : En) {k : Nat} (h : k ≠ b) : upd E b c k = E k := if_neg h
theorem SK.congr {sb mb : Nat} {L : List Reg} {E E' : Nat → En} {w : World} (h : SK sb mb L E w) (he : ∀ r ∈ L, E' r.v = E r.v) : SK sb mb L E' w :=
  ⟨h.cell, h.ne, h.asc, h.map, h.ok, h.len, fun r hr => by rw [he r hr]; exact h.ent r hr⟩
theorem SK.elt {sb mb : Nat} {L : List Reg} {E : Nat → En} {w : World} (h : SK sb mb L E w) (r : Reg) (hr : r ∈ L) : r.v < w.heap.size := lt_of_block (h.ent r hr)
/-- A store into the map is a name put. -/
theorem SK.put {sb mb : Nat} {L : List Reg} {E : Nat → En} {w w' : World} {D : DataW Unit} (h : SK sb mb L E w) (hown : w.ownsMap Tryz.prog 9 regElem mb L.length D) (his : MapIs D L) (r : Reg) (hr : okNm r.nm = true) (he : EnAt w r.v (E r.v)) (hl : hasS L r.nm = true ∨ L.length < 500)
    (hown' : w'.ownsMap Tryz.prog 9 regElem mb (L.length + 1) (D.put (.string r.nm) (regD r))) (hg : w.grownBy w' (some mb)) : SK sb mb (putS L r) E w' := by
  have hT : Tidy D := hown.tidy law
  have hm := his.put hT h.asc r
  have hne : r.v ≠ mb := by
    intro e
    rw [e] at he
    obtain ⟨es, c, h4, _⟩ := hown
    unfold EnAt at he; rw [h4] at he; injection he with he; cases he
  refine ⟨(hg.block sb h.lt.1 (by simpa using h.ne)).trans h.cell, h.ne, asc_put L r h.asc, ⟨_, ?_, hm⟩, fun x hx => ?_, ?_, fun x hx => ?_⟩
  · have := info_tight hown'
    rwa [hm.size] at this
  · rcases mem_put L r x hx with rfl | hx
    · exact hr
    · exact h.ok x hx
  · rw [len_put L r h.asc]
    have := h.len
    split
    · exact this
    · rename_i hc
      rcases hl with hl | hl
      · exact absurd hl hc
      · omega
  · rcases mem_put L r x hx with rfl | hx
    · exact (hg.block _ (lt_of_block he) (by simpa using hne)).trans he
    · exact (hg.block _ (h.elt x hx) (by simpa using (h.ne1 x hx).2)).trans (h.ent x hx)
theorem Kept.drew {S : Nat → Prop} {u w : World} (h : Kept S u w) : Kept S u w.drew := ⟨h.os, h.tape, h.output, h.size, h.block⟩
set_option maxHeartbeats 1000000 in
theorem give_full {sb mb : Nat} {L : List Reg} {E : Nat → En} {w : World} (h : SK sb mb L E w) (s : ByteArray) (b : Nat) (hs : s.size ≤ maxLen) (ht : hasS L s.data.toList = false) (hl : L.length = 500) :
    Calls Tryz.prog 51 #[BP sb, .string s, BP b] w fun e w' => e = .returned (.int .i64 9) ∧ w = w' := by
  have HS := Lib.hid hs
  have hcb := h.c0
  obtain ⟨D, hown, his⟩ := h.map
  have HHAS := Lib.hid ((his.has s.data.toList).trans ht)
  have HOWN := Lib.hid hown
  have hlen := fun ty => hown.len Tryz.underlying44 ty
  rw [his.size, hl] at hlen
  clear h hs ht hown his
  go_enter Tryz.func51, Tryz.ntmps51
  go_wp2_with (at_lookup; refine wpList_lookup_none _ rfl _ _ rfl mb L.length D s HS.out rfl HOWN.out rfl HHAS.out ?_)
  go_ret
  exact ⟨rfl, rfl⟩
set_option maxHeartbeats 1000000 in
theorem give_old {sb mb : Nat} {L : List Reg} {E : Nat → En} {w : World} (h : SK sb mb L E w) (s : ByteArray) (b : Nat) (hn : okNm s.data.toList = true) (ht : hasS L s.data.toList = true) (he : EnAt w b (E b)) :
    Calls Tryz.prog 51 #[BP sb, .string s, BP b] w fun e w' => e = .returned (.int .i64 0) ∧ SK sb mb (putS L ⟨s.data.toList, b⟩) E w' ∧ Kept (· = mb) w w' := by
  have HS := Lib.hid (size_ok hn)
  have hcb := h.c0
  obtain ⟨D, hown, his⟩ := h.map
  have HAT := Lib.hid (his.at_ s.data.toList ht (.lit (.int .i64 (-1))))
  have HHAS := Lib.hid ((his.has s.data.toList).trans ht)
  have HOWN := Lib.hid hown
  have hl5 := h.len
  have HLM := Lib.hid (show L.length < maxLen by unfold maxLen; omega)
  have H : Hid (SK sb mb L E w) := Lib.hid h
  have HIS : Hid (MapIs D L) := Lib.hid his
  have HE : Hid (EnAt w b (E b)) := Lib.hid he
  have HN := Lib.hid hn
  have HT := Lib.hid ht
  obtain ⟨r, hr⟩ : ∃ r, r = getS L s.data.toList := ⟨_, rfl⟩
  rw [← hr] at HAT
  clear h hn ht hown his hr he hl5
  go_enter Tryz.func51, Tryz.ntmps51
  go_wp2_with (first | (at_lookup; refine wpList_lookup_reg _ rfl _ _ rfl mb L.length D s HS.out r rfl HOWN.out rfl HAT.out HHAS.out ?_) | (at_mapUpdate; refine wpList_mapUpdate_own _ rfl _ _ _ 44 rfl 9 57 law Tryz.underlying44 regElem mb L.length D rfl HOWN.out HLM.out (.string s) _ (.string s.data.toList) rfl rfl (WideMaps.keyOf_string_mk Tryz.underlying9 HS.out) (regD ⟨s.data.toList, b⟩) [] (regElem_mk ⟨s.data.toList, b⟩) ?_; intro w3 hown3 hg3; have HO3 := Lib.hid hown3; have HG3 := Lib.hid hg3; clear hown3 hg3))
  go_ret
  exact ⟨rfl, H.out.put HOWN.out HIS.out ⟨s.data.toList, b⟩ HN.out HE.out (.inl HT.out) HO3.out HG3.out, Kept.grown HG3.out⟩
set_option maxHeartbeats 1000000 in
theorem give_new {sb mb : Nat} {L : List Reg} {E : Nat → En} {w : World} (h : SK sb mb L E w) (s : ByteArray) (b : Nat) (hn : okNm s.data.toList = true) (ht : hasS L s.data.toList = false) (hl : L.length < 500) (he : EnAt w b (E b)) :
    Calls Tryz.prog 51 #[BP sb, .string s, BP b] w fun e w' => e = .returned (.int .i64 0) ∧ SK sb mb (putS L ⟨s.data.toList, b⟩) E w' ∧ Kept (· = mb) w w' := by
  have HS := Lib.hid (size_ok hn)
  have hcb := h.c0
  obtain ⟨D, hown, his⟩ := h.map
  have HHAS := Lib.hid ((his.has s.data.toList).trans ht)
  have HOWN := Lib.hid hown
  have hlen := fun ty => hown.len Tryz.underlying44 ty
  rw [his.size] at hlen
  have hl500 : ((L.length : Int) == 500) = false := by simp; omega
  have HLM := Lib.hid (show L.length < maxLen by unfold maxLen; omega)
  have H : Hid (SK sb mb L E w) := Lib.hid h
  have HIS : Hid (MapIs D L) := Lib.hid his
  have HE : Hid (EnAt w b (E b)) := Lib.hid he
  have HN := Lib.hid hn
  have HL : Hid (hasS L s.data.toList = true ∨ L.length < 500) := Lib.hid (.inr hl)
  clear h hn ht hown his he hl
  go_enter Tryz.func51, Tryz.ntmps51
  go_wp2_with (first | (at_lookup; refine wpList_lookup_none _ rfl _ _ rfl mb L.length D s HS.out rfl HOWN.out rfl HHAS.out ?_) | (at_mapUpdate; refine wpList_mapUpdate_own _ rfl _ _ _ 44 rfl 9 57 law Tryz.underlying44 regElem mb L.length D rfl HOWN.out HLM.out (.string s) _ (.string s.data.toList) rfl rfl (WideMaps.keyOf_string_mk Tryz.underlying9 HS.out) (regD ⟨s.data.toList, b⟩) [] (regElem_mk ⟨s.data.toList, b⟩) ?_; intro w3 hown3 hg3; have HO3 := Lib.hid hown3; have HG3 := Lib.hid hg3; clear hown3 hg3))
  go_ret
  exact ⟨rfl, H.out.put HOWN.out HIS.out ⟨s.data.toList, b⟩ HN.out HE.out HL.out HO3.out HG3.out, Kept.grown HG3.out⟩
/- put. -/
theorem SK.with {sb mb : Nat} {L : List Reg} {E : Nat → En} {w w' : World} (h : SK sb mb L E w) (r : Reg) (hr : r ∈ L) (c : En) (hb : EnAt w' r.v c) (k : Kept (· = r.v) w w') : SK sb mb L (upd E r.v c) w' := by
  obtain ⟨D, h4, h5⟩ := h.map
  have hne := h.ne1 r hr
  refine ⟨(k.block _ h.lt.1 (Ne.symm hne.1)).trans h.cell, h.ne, h.asc, ⟨D, ownsMap_move h4 (k.block _ h.lt.2 (Ne.symm hne.2)), h5⟩, h.ok, h.len, fun x hx => ?_⟩
  by_cases e : x.v = r.v
  · rw [e, upd_same]; exact hb
  · rw [upd_other _ _ _ e]; exact (k.block _ (h.elt x hx) e).trans (h.ent x hx)
abbrev EO (kd : Int) (t : ByteArray) (lo : Option Addr) (ln lc : Nat) : Obj := .cells #[.int .i64 kd, .string t, .slice lo ln lc] 59
theorem Kept.setCell {S : Nat → Prop} {u w : World} (h : Kept S u w) {p : Addr} (hp : S p.block) (x : Value) : Kept S u (w.setCell p x) :=
  h.trans ⟨rfl, rfl, rfl, by simp [World.setCell], fun k _ hk => Below.heap_setCell _ _ _ _ (fun e => hk (by rw [e]; exact hp))⟩
set_option maxHeartbeats 1000000 in
theorem put_old {sb mb : Nat} {L : List Reg} {E : Nat → En} {w : World} (h : SK sb mb L E w) (s : ByteArray) (kd : Int) (t : ByteArray) (lo : Option Addr) (ln lc : Nat) (hs : s.size ≤ maxLen) (ht : hasS L s.data.toList = true) :
    Calls Tryz.prog 43 #[BP sb, .string s, .agg #[.int .i64 kd, .string t, .slice lo ln lc]] w fun e w' => e = .returned (.int .i64 0) ∧ SK sb mb L (upd E (getS L s.data.toList).v ⟨kd, t, lo, ln, lc⟩) w' ∧ Kept (· = (getS L s.data.toList).v) w w' := by
  have hb0 : Below w.heap.size w (w.alloc (EO kd t lo ln lc)) := (Below.refl _ _).alloc (Nat.le_refl _) _
  have h0 := h.below hb0
  have H := Lib.hid h0
  have HB0 := Lib.hid hb0
  have HS := Lib.hid hs
  have hmem := getS_mem L s.data.toList ht
  have hcb := h.c0
  have hsl := h.lt.1
  have hsne : sb ≠ w.heap.size := by omega
  have hrl := h.elt _ hmem
  have hre := h.ent _ hmem
  obtain ⟨D, hown, his⟩ := h0.map
  have HAT := Lib.hid (his.at_ s.data.toList ht (.lit (.int .i64 (-1))))
  have HHAS := Lib.hid ((his.has s.data.toList).trans ht)
  have HOWN := Lib.hid hown
  obtain ⟨r, hr⟩ : ∃ r, r = getS L s.data.toList := ⟨_, rfl⟩
  rw [← hr] at HAT hre hmem hrl ⊢
  have HMEM := Lib.hid hmem
  unfold EnAt enCs at hre
  obtain ⟨⟨gc0, gc1, gc2⟩, gf0, gf1, gf2⟩ := fresh_en hre
  have HRC := Lib.hid hre
  have HRA := Lib.hid (show (w.alloc (EO kd t lo ln lc)).heap[r.v]? = _ from (h0.ent _ hmem))
  unfold EnAt enCs at HRA
  have H0 := Lib.hid h
  have hne : r.v ≠ w.heap.size := by omega
  have hne2 : w.heap.size ≠ r.v := by omega
  clear h h0 hb0 hs ht hmem hown his hr hre
  go_enter Tryz.func43, Tryz.ntmps43
  go_wp2_with (at_lookup; refine wpList_lookup_reg _ rfl _ _ rfl mb L.length D s HS.out r rfl HOWN.out rfl HAT.out HHAS.out ?_)
  go_ret
  have hat : EnAt ((((w.setCell ⟨r.v, 0, none⟩ (.int .i64 kd)).setCell ⟨r.v, 1, none⟩ (.string t)).setCell ⟨r.v, 2, none⟩ (.slice lo ln lc)).alloc (EO kd t lo ln lc)) r.v ⟨kd, t, lo, ln, lc⟩ := by
    unfold EnAt enCs
    rw [Below.heap_alloc _ _ _ (by simp [World.setCell]; exact hrl)]
    simp only [World.setCell, Array.getElem?_modify, HRC.out]
    simp
  have hkk : Kept (· = r.v) w ((((w.setCell ⟨r.v, 0, none⟩ (.int .i64 kd)).setCell ⟨r.v, 1, none⟩ (.string t)).setCell ⟨r.v, 2, none⟩ (.slice lo ln lc)).alloc (EO kd t lo ln lc)) :=
    ((((Kept.refl (· = r.v) w).setCell (p := ⟨r.v, 0, none⟩) rfl _).setCell (p := ⟨r.v, 1, none⟩) rfl _).setCell (p := ⟨r.v, 2, none⟩) rfl _).trans (.of ((Below.refl _ _).alloc (Nat.le_refl _) _))
  exact ⟨rfl, H0.out.with r HMEM.out _ hat hkk, hkk⟩
set_option maxHeartbeats 1000000 in
/-- put of a name that is not there: a new entry. -/
theorem put_new {sb mb : Nat} {L : List Reg} {E : Nat → En} {w : World} (h : SK sb mb L E w) (s : ByteArray) (kd : Int) (t : ByteArray) (lo : Option Addr) (ln lc : Nat) (hn : okNm s.data.toList = true) (ht : hasS L s.data.toList = false) (hl : L.length < 500) :
    Calls Tryz.prog 43 #[BP sb, .string s, .agg #[.int .i64 kd, .string t, .slice lo ln lc]] w fun e w' => e = .returned (.int .i64 0) ∧ SK sb mb (putS L ⟨s.data.toList, w.heap.size⟩) (upd E w.heap.size ⟨kd, t, lo, ln, lc⟩) w' ∧ Kept (· = mb) w w' := by
  have hb0 : Below w.heap.size w (w.alloc (EO kd t lo ln lc)) := (Below.refl _ _).alloc (Nat.le_refl _) _
  have h0 : SK sb mb L (upd E w.heap.size ⟨kd, t, lo, ln, lc⟩) (w.alloc (EO kd t lo ln lc)) := (h.below hb0).congr (fun r hr => upd_other _ _ _ (by have := h.elt r hr; omega))
  have HB0 := Lib.hid hb0
  have HS := Lib.hid (size_ok hn)
  have hcb := h.c0
  have hsl := h.lt.1
  have hsne : sb ≠ w.heap.size := by omega
  have HG := Lib.hid (give_new h0 s w.heap.size hn ht hl (by rw [upd_same]; exact heap_alloc_new _ _))
  obtain ⟨D, hown, his⟩ := h0.map
  have HHAS := Lib.hid ((his.has s.data.toList).trans ht)
  have HOWN := Lib.hid hown
  clear h h0 hb0 hn ht hown his hl
  go_enter Tryz.func43, Tryz.ntmps43
  go_wp2_with (at_lookup; refine wpList_lookup_none _ rfl _ _ rfl mb L.length D s HS.out rfl HOWN.out rfl HHAS.out ?_)
  refine HG.out.mono ?_
  rintro e w1 ⟨rfl, hk, hw⟩
  have HK := Lib.hid hk
  have HW := Lib.hid ((Kept.of (S := (· = mb)) HB0.out).trans hw)
  clear hk hw
  go_wp2_with fail
  go_ret
  exact ⟨rfl, HK.out, HW.out⟩
set_option maxHeartbeats 1000000 in
theorem put_full {sb mb : Nat} {L : List Reg} {E : Nat → En} {w : World} (h : SK sb mb L E w) (s : ByteArray) (kd : Int) (t : ByteArray) (lo : Option Addr) (ln lc : Nat) (hn : okNm s.data.toList = true) (ht : hasS L s.data.toList = false) (hl : L.length = 500) :
    Calls Tryz.prog 43 #[BP sb, .string s, .agg #[.int .i64 kd, .string t, .slice lo ln lc]] w fun e w' => e = .returned (.int .i64 9) ∧ Below w.heap.size w w' := by
  have hb0 : Below w.heap.size w (w.alloc (EO kd t lo ln lc)) := (Below.refl _ _).alloc (Nat.le_refl _) _
  have h0 := h.below hb0
  have HB0 := Lib.hid hb0
  have HS := Lib.hid (size_ok hn)
  have hcb := h.c0
  have hsl := h.lt.1
  have hsne : sb ≠ w.heap.size := by omega
  have HG := Lib.hid (give_full h0 s w.heap.size (size_ok hn) ht hl)
  obtain ⟨D, hown, his⟩ := h0.map
  have HHAS := Lib.hid ((his.has s.data.toList).trans ht)
  have HOWN := Lib.hid hown
  clear h h0 hb0 hn ht hown his hl
  go_enter Tryz.func43, Tryz.ntmps43
  go_wp2_with (at_lookup; refine wpList_lookup_none _ rfl _ _ rfl mb L.length D s HS.out rfl HOWN.out rfl HHAS.out ?_)
  refine HG.out.mono ?_
  rintro e w1 ⟨rfl, rfl⟩
  go_wp2_with fail
  go_ret
  exact ⟨rfl, HB0.out⟩
end Go.Proofs.YtgpanlkcpnlejaaGreat
/- The code's store: Define, Append, Text, Kind, Alias, Rename, Remove. -/
namespace Go.Proofs.YtgpanlkcpnlejaaGreat
open Go.RowKit Go.Maps
set_option maxRecDepth 100000
theorem define_arg {sb mb : Nat} {L : List Reg} {E : Nat → En} {w : World} (h : SK sb mb L E w) (s t : ByteArray) (ht : okTx t.data.toList = false) :
    Calls Tryz.prog 14 #[BP sb, .string s, .string t] w fun e w' => e = .returned (.int .i64 1) ∧ Below w.heap.size w w' := by
  have HV := Lib.hid (fun W => validText_any t W)
  rw [ht] at HV
  have HF := Lib.hid (find_arg h s)
  clear h ht
  go_enter Tryz.func14, Tryz.ntmps14
  go_wp2_with fail
  refine (HV.out _).mono ?_
  rintro e w1 ⟨rfl, rfl⟩
  go_wp2_with fail
  refine HF.out.mono ?_
  rintro e w2 ⟨rfl, hb⟩
  have HB := Lib.hid hb
  have hz := hb.size
  clear hb
  go_wp2_with fail
  go_ret
  exact ⟨rfl, HB.out.alloc hz _⟩
theorem define_bad {sb mb : Nat} {L : List Reg} {E : Nat → En} {w : World} (h : SK sb mb L E w) (s t : ByteArray) (ht : okTx t.data.toList = true) (hn : okNm s.data.toList = false) :
    Calls Tryz.prog 14 #[BP sb, .string s, .string t] w fun e w' => e = .returned (.int .i64 6) ∧ Below w.heap.size w w' := by
  have HV := Lib.hid (fun W => validText_any t W)
  rw [ht] at HV
  have HF := Lib.hid (find_bad h s hn)
  clear h ht hn
  go_enter Tryz.func14, Tryz.ntmps14
  go_wp2_with fail
  refine (HV.out _).mono ?_
  rintro e w1 ⟨rfl, rfl⟩
  go_wp2_with fail
  refine HF.out.mono ?_
  rintro e w2 ⟨rfl, hb⟩
  have HB := Lib.hid hb
  have hz := hb.size
  clear hb
  go_wp2_with fail
  go_ret
  exact ⟨rfl, HB.out.alloc hz _⟩
/-- Define comes to put. -/
theorem define_put {sb mb : Nat} {L : List Reg} {E : Nat → En} {w : World} (h : SK sb mb L E w) (s t : ByteArray) (ht : okTx t.data.toList = true) (hn : okNm s.data.toList = true) (c : Int) (R : World → World → Prop)
    (hP : ∀ W, Below w.heap.size w W → Calls Tryz.prog 43 #[BP sb, .string s, .agg #[.int .i64 1, .string t, .slice none 0 0]] W fun e w' => e = .returned (.int .i64 c) ∧ R W w') :
    Calls Tryz.prog 14 #[BP sb, .string s, .string t] w fun e w' => e = .returned (.int .i64 c) ∧ ∃ W, Below w.heap.size w W ∧ R W w' := by
  have HV := Lib.hid (fun W => validText_any t W)
  rw [ht] at HV
  have HF := Lib.hid (find_ok h s hn)
  have HP := Lib.hid hP
  obtain ⟨⟨kd, tx, lo, ln, lc⟩, hen⟩ : ∃ en, en = entOf L E s.data.toList := ⟨_, rfl⟩
  rw [← hen] at HF
  unfold enA at HF
  simp only at HF
  clear h ht hn hP hen
  go_enter Tryz.func14, Tryz.ntmps14
  go_wp2_with fail
  refine (HV.out _).mono ?_
  rintro e w1 ⟨rfl, rfl⟩
  go_wp2_with fail
  refine HF.out.mono ?_
  rintro e w2 ⟨rfl, hb⟩
  have HB := Lib.hid (hb.alloc hb.size (.cells #[.int .i64 kd, .string tx, .slice lo ln lc] 59))
  have hz := hb.size
  clear hb
  go_wp2_with fail
  refine (HP.out _ HB.out).mono ?_
  rintro e w3 ⟨rfl, hR⟩
  have HR := Lib.hid hR
  clear hR
  go_wp2_with fail
  go_ret
  exact ⟨rfl, _, HB.out, HR.out⟩
/-- Define of a name that is there. -/
theorem define_old {sb mb : Nat} {L : List Reg} {E : Nat → En} {w : World} (h : SK sb mb L E w) (s t : ByteArray) (ht : okTx t.data.toList = true) (hn : okNm s.data.toList = true) (hh : hasS L s.data.toList = true) :
    Calls Tryz.prog 14 #[BP sb, .string s, .string t] w fun e w' => e = .returned (.int .i64 0) ∧ SK sb mb L (upd E (getS L s.data.toList).v ⟨1, t, none, 0, 0⟩) w' ∧ Kept (· = (getS L s.data.toList).v) w w' :=
  (define_put h s t ht hn 0 (fun W w' => SK sb mb L (upd E (getS L s.data.toList).v ⟨1, t, none, 0, 0⟩) w' ∧ Kept (· = (getS L s.data.toList).v) W w') (fun W hW => put_old (h.below hW) s 1 t none 0 0 (size_ok hn) hh)).mono
    fun _ _ ⟨a, W, hW, b, k⟩ => ⟨a, b, (Kept.of hW).trans k⟩
theorem Kept.fresh {S : Nat → Prop} {u v w : World} {g : Nat} (h : Below u.heap.size u v) (k : Kept (fun x => S x ∨ x = g) v w) (hg : u.heap.size ≤ g) : Kept S u w :=
  ⟨k.os.trans h.os, k.tape.trans h.tape, k.output.trans h.output, Nat.le_trans h.size k.size, fun i hi hs => (k.block i (Nat.lt_of_lt_of_le hi h.size) (by rintro (e | e); exact hs e; omega)).trans (h.block i hi)⟩
theorem define_new {sb mb : Nat} {L : List Reg} {E : Nat → En} {w : World} (h : SK sb mb L E w) (s t : ByteArray) (ht : okTx t.data.toList = true) (hn : okNm s.data.toList = true) (hh : hasS L s.data.toList = false) (hl : L.length < 500) :
    Calls Tryz.prog 14 #[BP sb, .string s, .string t] w fun e w' => e = .returned (.int .i64 0) ∧ (∃ b, w.heap.size ≤ b ∧ SK sb mb (putS L ⟨s.data.toList, b⟩) (upd E b ⟨1, t, none, 0, 0⟩) w') ∧ Kept (· = mb) w w' :=
  (define_put h s t ht hn 0 (fun W w' => SK sb mb (putS L ⟨s.data.toList, W.heap.size⟩) (upd E W.heap.size ⟨1, t, none, 0, 0⟩) w' ∧ Kept (· = mb) W w') (fun W hW => put_new (h.below hW) s 1 t none 0 0 hn hh hl)).mono
    fun _ _ ⟨a, W, hW, b, k⟩ => ⟨a, ⟨_, hW.size, b⟩, (Kept.of hW).trans k⟩
theorem define_full {sb mb : Nat} {L : List Reg} {E : Nat → En} {w : World} (h : SK sb mb L E w) (s t : ByteArray) (ht : okTx t.data.toList = true) (hn : okNm s.data.toList = true) (hh : hasS L s.data.toList = false) (hl : L.length = 500) :
    Calls Tryz.prog 14 #[BP sb, .string s, .string t] w fun e w' => e = .returned (.int .i64 9) ∧ Below w.heap.size w w' :=
  (define_put h s t ht hn 9 (fun W w' => Below W.heap.size W w') (fun W hW => put_full (h.below hW) s 1 t none 0 0 hn hh hl)).mono
    fun _ _ ⟨a, W, hW, k⟩ => ⟨a, hW.trans (k.mono hW.size)⟩
/- Text. -/
theorem text_yes {sb mb : Nat} {L : List Reg} {E : Nat → En} {w : World} (h : SK sb mb L E w) (s : ByteArray) (hs : s.size ≤ maxLen) (hh : hasS L s.data.toList = true) (hk : (E (getS L s.data.toList).v).kind = 1) :
    Calls Tryz.prog 16 #[BP sb, .string s] w fun e w' => e = .returned (.tuple #[.string (E (getS L s.data.toList).v).tx, .int .i64 0]) ∧ w = w' := by
  have HG := Lib.hid (get_yes h s hs hh)
  have hre := h.ent _ (getS_mem L _ hh)
  obtain ⟨r, hr⟩ : ∃ r, r = getS L s.data.toList := ⟨_, rfl⟩
  rw [← hr] at HG hre hk ⊢
  unfold EnAt enCs at hre
  rw [hk] at hre
  obtain ⟨⟨c0, c1, c2⟩, _⟩ := fresh_en hre
  obtain ⟨tx, htx⟩ : ∃ tx, tx = (E r.v).tx := ⟨_, rfl⟩
  rw [← htx] at c1 ⊢
  clear h hs hh hr hre c2 htx hk
  go_enter Tryz.func16, Tryz.ntmps16
  go_wp2_with fail
  refine HG.out.mono ?_
  rintro e w1 ⟨rfl, rfl⟩
  go_wp2_with fail
  go_ret2
  exact ⟨rfl, rfl⟩
theorem text_kind {sb mb : Nat} {L : List Reg} {E : Nat → En} {w : World} (h : SK sb mb L E w) (s : ByteArray) (hs : s.size ≤ maxLen) (hh : hasS L s.data.toList = true) (hk : ((E (getS L s.data.toList).v).kind == 1) = false) :
    Calls Tryz.prog 16 #[BP sb, .string s] w fun e w' => e = .returned (.tuple #[.string ⟨#[]⟩, .int .i64 6]) ∧ w = w' := by
  have HG := Lib.hid (get_yes h s hs hh)
  have hre := h.ent _ (getS_mem L _ hh)
  obtain ⟨r, hr⟩ : ∃ r, r = getS L s.data.toList := ⟨_, rfl⟩
  rw [← hr] at HG hre hk
  unfold EnAt enCs at hre
  obtain ⟨⟨c0, c1, c2⟩, _⟩ := fresh_en hre
  obtain ⟨kd, hkd⟩ : ∃ kd, kd = (E r.v).kind := ⟨_, rfl⟩
  rw [← hkd] at c0 hk
  have hk2 : (kd != 1) = true := by simp [bne, hk]
  clear h hs hh hr hre c2 c1 hkd
  go_enter Tryz.func16, Tryz.ntmps16
  go_wp2_with fail
  refine HG.out.mono ?_
  rintro e w1 ⟨rfl, rfl⟩
  go_wp2_with fail
  go_ret2
  exact ⟨rfl, rfl⟩
theorem text_no {sb mb : Nat} {L : List Reg} {E : Nat → En} {w : World} (h : SK sb mb L E w) (s : ByteArray) (hs : s.size ≤ maxLen) (hh : hasS L s.data.toList = false) :
    Calls Tryz.prog 16 #[BP sb, .string s] w fun e w' => e = .returned (.tuple #[.string ⟨#[]⟩, .int .i64 6]) ∧ w = w' := by
  have HG := Lib.hid (get_no h s hs hh)
  clear h hs hh
  go_enter Tryz.func16, Tryz.ntmps16
  go_wp2_with fail
  refine HG.out.mono ?_
  rintro e w1 ⟨rfl, rfl⟩
  go_wp2_with fail
  go_ret2
  exact ⟨rfl, rfl⟩
/- Kind. -/
theorem kind_any {sb mb : Nat} {L : List Reg} {E : Nat → En} {w : World} (h : SK sb mb L E w) (s : ByteArray) :
    Calls Tryz.prog 70 #[BP sb, .string s] w fun e w' => e = .returned (.int .i64 (if okNm s.data.toList then (entOf L E s.data.toList).kind else 0)) ∧ Below w.heap.size w w' := by
  cases hn : okNm s.data.toList with
  | false =>
    have HF := Lib.hid (find_bad h s hn)
    clear h hn
    go_enter Tryz.func70, Tryz.ntmps70
    go_wp2_with fail
    refine HF.out.mono ?_
    rintro e w2 ⟨rfl, hb⟩
    have HB := Lib.hid hb
    have hz := hb.size
    clear hb
    go_wp2_with fail
    go_ret
    exact ⟨rfl, HB.out.alloc hz _⟩
  | true =>
    have HF := Lib.hid (find_ok h s hn)
    obtain ⟨⟨kd, tx, lo, ln, lc⟩, hen⟩ : ∃ en, en = entOf L E s.data.toList := ⟨_, rfl⟩
    rw [← hen] at HF ⊢
    unfold enA at HF
    simp only at HF
    clear h hn hen
    go_enter Tryz.func70, Tryz.ntmps70
    go_wp2_with fail
    refine HF.out.mono ?_
    rintro e w2 ⟨rfl, hb⟩
    have HB := Lib.hid hb
    have hz := hb.size
    clear hb
    go_wp2_with fail
    go_ret
    exact ⟨rfl, HB.out.alloc hz _⟩
/- Alias. -/
theorem alias_no {sb mb : Nat} {L : List Reg} {E : Nat → En} {w : World} (h : SK sb mb L E w) (f s : ByteArray) (hs : s.size ≤ maxLen) (hh : hasS L s.data.toList = false) :
    Calls Tryz.prog 22 #[BP sb, .string f, .string s] w fun e w' => e = .returned (.int .i64 6) ∧ w = w' := by
  have HG := Lib.hid (get_no h s hs hh)
  clear h hs hh
  go_enter Tryz.func22, Tryz.ntmps22
  go_wp2_with fail
  refine HG.out.mono ?_
  rintro e w1 ⟨rfl, rfl⟩
  go_wp2_with fail
  go_ret
  exact ⟨rfl, rfl⟩
theorem alias_bad {sb mb : Nat} {L : List Reg} {E : Nat → En} {w : World} (h : SK sb mb L E w) (f s : ByteArray) (hs : s.size ≤ maxLen) (hh : hasS L s.data.toList = true) (hn : okNm f.data.toList = false) :
    Calls Tryz.prog 22 #[BP sb, .string f, .string s] w fun e w' => e = .returned (.int .i64 6) ∧ Below w.heap.size w w' := by
  have HG := Lib.hid (get_yes h s hs hh)
  have HV := Lib.hid (fun W => validName_any f W)
  rw [hn] at HV
  clear h hs hh hn
  go_enter Tryz.func22, Tryz.ntmps22
  go_wp2_with fail
  refine HG.out.mono ?_
  rintro e w1 ⟨rfl, rfl⟩
  go_wp2_with fail
  refine (HV.out _).mono ?_
  rintro e w1 ⟨rfl, hb⟩
  have HB := Lib.hid hb
  clear hb
  go_wp2_with fail
  go_ret
  exact ⟨rfl, HB.out⟩
theorem alias_loop {sb mb : Nat} {L : List Reg} {E : Nat → En} {w : World} (h : SK sb mb L E w) (s : ByteArray) (hs : s.size ≤ maxLen) (hh : hasS L s.data.toList = true) (hn : okNm s.data.toList = true) :
    Calls Tryz.prog 22 #[BP sb, .string s, .string s] w fun e w' => e = .returned (.int .i64 12) ∧ Below w.heap.size w w' := by
  have HG := Lib.hid (get_yes h s hs hh)
  have HV := Lib.hid (fun W => validName_any s W)
  rw [hn] at HV
  clear h hs hh hn
  go_enter Tryz.func22, Tryz.ntmps22
  go_wp2_with fail
  refine HG.out.mono ?_
  rintro e w1 ⟨rfl, rfl⟩
  go_wp2_with fail
  refine (HV.out _).mono ?_
  rintro e w1 ⟨rfl, hb⟩
  have HB := Lib.hid hb
  clear hb
  go_wp2_with fail
  go_ret
  exact ⟨rfl, HB.out⟩
/-- Alias comes to give. -/
theorem alias_give {sb mb : Nat} {L : List Reg} {E : Nat → En} {w : World} (h : SK sb mb L E w) (f s : ByteArray) (hs : s.size ≤ maxLen) (hh : hasS L s.data.toList = true) (hn : okNm f.data.toList = true) (hne : (f.toList == s.toList) = false) (c : Int) (R : World → World → Prop)
    (hP : ∀ W, Below w.heap.size w W → Calls Tryz.prog 51 #[BP sb, .string f, BP (getS L s.data.toList).v] W fun e w' => e = .returned (.int .i64 c) ∧ R W w') :
    Calls Tryz.prog 22 #[BP sb, .string f, .string s] w fun e w' => e = .returned (.int .i64 c) ∧ ∃ W, Below w.heap.size w W ∧ R W w' := by
  have HG := Lib.hid (get_yes h s hs hh)
  have HV := Lib.hid (fun W => validName_any f W)
  rw [hn] at HV
  have HP := Lib.hid hP
  clear h hs hh hn hP
  go_enter Tryz.func22, Tryz.ntmps22
  go_wp2_with fail
  refine HG.out.mono ?_
  rintro e w1 ⟨rfl, rfl⟩
  go_wp2_with fail
  refine (HV.out _).mono ?_
  rintro e w1 ⟨rfl, hb⟩
  have HB := Lib.hid hb
  clear hb
  go_wp2_with fail
  refine (HP.out _ HB.out).mono ?_
  rintro e w2 ⟨rfl, hR⟩
  have HR := Lib.hid hR
  clear hR
  go_wp2_with fail
  go_ret
  exact ⟨rfl, _, HB.out, HR.out⟩
end Go.Proofs.YtgpanlkcpnlejaaGreat
/- The code's store: what is kept. -/
namespace Go.Proofs.YtgpanlkcpnlejaaGreat
open Go.RowKit Go.Maps
set_option maxRecDepth 100000
def I64 (a : Int) : Prop := -9223372036854775808 ≤ a ∧ a ≤ 9223372036854775807
def placeS (n : Nat) (a : Int) : Int := if a < 0 then n + a else a
theorem place_any (n : Nat) (a : Int) (hn : n ≤ 2000) (ha : I64 a) (w : World) : Calls Tryz.prog 76 #[.int .i64 n, .int .i64 a] w fun e w' => e = .returned (.int .i64 (placeS n a)) ∧ w = w' := by
  by_cases h : a < 0
  · have HE := Lib.hid (show placeS n a = n + a by unfold placeS; rw [if_pos h])
    have HW := Lib.hid (IntWalk.wrap64_in (n + a) (by unfold I64 at ha; omega))
    have d : decide (a < 0) = true := decide_eq_true h
    clear h ha
    go_enter Tryz.func76, Tryz.ntmps76
    go_wp2_with fail
    go_ret
    rw [HE.out]
    exact ⟨by show Ending.returned (.int .i64 (wrap64 (n + a))) = _; rw [HW.out], rfl⟩
  · have HE := Lib.hid (show placeS n a = a by unfold placeS; rw [if_neg h])
    have d : decide (a < 0) = false := decide_eq_false h
    clear h ha
    go_enter Tryz.func76, Tryz.ntmps76
    go_wp2_with fail
    go_ret
    rw [HE.out]
    exact ⟨rfl, rfl⟩
theorem place_in (n : Nat) (a : Int) (hn : n ≤ 2000) (ha : I64 a) : I64 (placeS n a) := by
  unfold placeS I64 at *; split <;> omega
def spanPQ (n : Nat) (p q : Int) : Int × Int :=
  if min (max p q) (n - 1) + 1 ≤ max (min p q) 0 then (0, 0) else (max (min p q) 0, min (max p q) (n - 1) + 1)
def spanS (n : Nat) (f t : Int) : Int × Int := spanPQ n (placeS n f) (placeS n t)
theorem span_nat (n : Nat) (f t : Int) : ∃ a b : Nat, spanS n f t = ((a : Int), (b : Int)) ∧ a ≤ b ∧ b ≤ n := by
  unfold spanS spanPQ
  generalize placeS n f = p
  generalize placeS n t = q
  split
  · exact ⟨0, 0, rfl, Nat.le_refl _, Nat.zero_le _⟩
  · exact ⟨(max (min p q) 0).toNat, (min (max p q) (n - 1) + 1).toNat, by rw [Int.toNat_of_nonneg (by omega), Int.toNat_of_nonneg (by omega)], by omega, by omega⟩
theorem ret_two {a b a' b' : Int} (h : a = a' ∧ b = b') : Ending.returned (.tuple #[.int .i64 a, .int .i64 b]) = .returned (.tuple #[.int .i64 a', .int .i64 b']) := by rw [h.1, h.2]
set_option maxHeartbeats 1000000 in
theorem span_any (n : Nat) (f t : Int) (hn : n ≤ 2000) (hf : I64 f) (ht : I64 t) (w : World) : Calls Tryz.prog 46 #[.int .i64 n, .int .i64 f, .int .i64 t] w fun e w' => e = .returned (.tuple #[.int .i64 (spanS n f t).1, .int .i64 (spanS n f t).2]) ∧ w = w' := by
  have P1 := Lib.hid (fun W => place_any n f hn hf W)
  have P2 := Lib.hid (fun W => place_any n t hn ht W)
  have I1 := place_in n f hn hf
  have I2 := place_in n t hn ht
  unfold spanS
  generalize placeS n f = p at *
  generalize placeS n t = q at *
  have HW : Hid (∀ x : Int, I64 x → wrap64 (min x (n - 1) + 1) = min x (n - 1) + 1) := Lib.hid (fun x hx => IntWalk.wrap64_in _ (by unfold I64 at hx; omega))
  have HX : Hid (∀ x y, (x, y) = spanPQ n p q → Ending.returned (.tuple #[.int .i64 x, .int .i64 y]) = .returned (.tuple #[.int .i64 (spanPQ n p q).1, .int .i64 (spanPQ n p q).2])) := Lib.hid (fun x y h => by rw [← h])
  clear hf ht
  by_cases hpq : q < p
  · have d1 : decide (q < p) = true := decide_eq_true hpq
    have HPQ := Lib.hid hpq
    clear hpq
    go_enter Tryz.func46, Tryz.ntmps46
    go_wp2_with fail
    refine (P1.out _).mono ?_
    rintro e w1 ⟨rfl, rfl⟩
    go_wp2_with fail
    refine (P2.out _).mono ?_
    rintro e w1 ⟨rfl, rfl⟩
    go_wp2_with fail
    · have hle : wrap64 (min p (n - 1) + 1) ≤ max q 0 := by assumption
      go_ret2
      refine ⟨HX.out _ _ ?_, rfl⟩
      rw [HW.out p I1] at hle
      have := HPQ.out
      unfold spanPQ
      rw [if_pos (by omega)]
    · have hle : max q 0 < wrap64 (min p (n - 1) + 1) := by assumption
      go_ret2
      refine ⟨HX.out _ (wrap64 (min p (n - 1) + 1)) ?_, rfl⟩
      rw [HW.out p I1] at hle ⊢
      have := HPQ.out
      unfold spanPQ
      rw [if_neg (by omega)]
      exact Prod.ext (by show max q 0 = _; omega) (by show min p (n - 1) + 1 = _; omega)
  · have d1 : decide (q < p) = false := decide_eq_false hpq
    have HPQ := Lib.hid hpq
    clear hpq
    go_enter Tryz.func46, Tryz.ntmps46
    go_wp2_with fail
    refine (P1.out _).mono ?_
    rintro e w1 ⟨rfl, rfl⟩
    go_wp2_with fail
    refine (P2.out _).mono ?_
    rintro e w1 ⟨rfl, rfl⟩
    go_wp2_with fail
    · have hle : wrap64 (min q (n - 1) + 1) ≤ max p 0 := by assumption
      go_ret2
      refine ⟨HX.out _ _ ?_, rfl⟩
      rw [HW.out q I2] at hle
      have := HPQ.out
      unfold spanPQ
      rw [if_pos (by omega)]
    · have hle : max p 0 < wrap64 (min q (n - 1) + 1) := by assumption
      go_ret2
      refine ⟨HX.out _ (wrap64 (min q (n - 1) + 1)) ?_, rfl⟩
      rw [HW.out q I2] at hle ⊢
      have := HPQ.out
      unfold spanPQ
      rw [if_neg (by omega)]
      exact Prod.ext (by show max p 0 = _; omega) (by show min q (n - 1) + 1 = _; omega)
end Go.Proofs.YtgpanlkcpnlejaaGreat
/- The code's store: Part, Chop of strings; Append; Rename; Remove; the fixed example. -/
namespace Go.Proofs.YtgpanlkcpnlejaaGreat
open Go.RowKit Go.Maps
set_option maxRecDepth 100000
theorem length_str (b : Nat) (t : ByteArray) (lo : Option Addr) (ln lc : Nat) (w : World) (h : w.heap[b]? = some (EO 1 t lo ln lc)) : Calls Tryz.prog 47 #[BP b] w fun e w' => e = .returned (.int .i64 t.size) ∧ w = w' := by
  obtain ⟨⟨c0, c1, c2⟩, _⟩ := fresh_en h
  clear h
  go_enter Tryz.func47, Tryz.ntmps47
  go_wp2_with fail
  go_ret
  exact ⟨rfl, rfl⟩
theorem length_mac (b : Nat) (kd : Int) (t : ByteArray) (lo : Option Addr) (ln lc : Nat) (w : World) (hk : (kd == 1) = false) (h : w.heap[b]? = some (EO kd t lo ln lc)) : Calls Tryz.prog 47 #[BP b] w fun e w' => e = .returned (.int .i64 ln) ∧ w = w' := by
  obtain ⟨⟨c0, c1, c2⟩, _⟩ := fresh_en h
  clear h
  go_enter Tryz.func47, Tryz.ntmps47
  go_wp2_with fail
  go_ret
  exact ⟨rfl, rfl⟩
theorem keep_str (b : Nat) (t : ByteArray) (lo : Option Addr) (ln lc : Nat) (x y : Nat) (hxy : x ≤ y) (hy : y ≤ t.size) (hsz : t.size ≤ 2000) (w : World) (h : w.heap[b]? = some (EO 1 t lo ln lc)) :
    Calls Tryz.prog 45 #[BP b, .int .i64 x, .int .i64 y] w fun e w' => e = .returned (.tuple #[]) ∧ w'.heap[b]? = some (EO 1 (t.extract x y) lo ln lc) ∧ Kept (· = b) w w' := by
  obtain ⟨⟨c0, c1, c2⟩, f0, f1, f2⟩ := fresh_en h
  have H := Lib.hid h
  clear h
  go_enter Tryz.func45, Tryz.ntmps45
  go_wp2_with fail
  refine bodyPost_ret (results_none rfl _ _ _) rfl ?_
  exact ⟨rfl, by simp only [World.setCell, Array.getElem?_modify, H.out]; simp, (Kept.refl (· = b) w).setCell (p := ⟨b, 1, none⟩) rfl _⟩
/-- Part of a string. -/
theorem part_str {sb mb : Nat} {L : List Reg} {E : Nat → En} {w : World} (h : SK sb mb L E w) (s : ByteArray) (f t : Int) (hf : I64 f) (ht : I64 t) (hs : s.size ≤ maxLen) (hh : hasS L s.data.toList = true) (hk : (E (getS L s.data.toList).v).kind = 1) (hz : (E (getS L s.data.toList).v).tx.size ≤ 2000)
    (a b : Nat) (hab : spanS (E (getS L s.data.toList).v).tx.size f t = ((a : Int), (b : Int))) :
    Calls Tryz.prog 15 #[BP sb, .string s, .int .i64 f, .int .i64 t] w fun e w' => e = .returned (.int .i64 0) ∧ SK sb mb L (upd E (getS L s.data.toList).v { E (getS L s.data.toList).v with tx := (E (getS L s.data.toList).v).tx.extract a b }) w' ∧ Kept (· = (getS L s.data.toList).v) w w' := by
  have HG := Lib.hid (get_yes h s hs hh)
  have hmem := getS_mem L _ hh
  have hre := h.ent _ hmem
  have H := Lib.hid h
  have hsp := span_nat (E (getS L s.data.toList).v).tx.size f t
  obtain ⟨r, hr⟩ : ∃ r, r = getS L s.data.toList := ⟨_, rfl⟩
  rw [← hr] at HG hre hk hz hmem hab hsp ⊢
  have HMEM := Lib.hid hmem
  unfold EnAt at hre
  obtain ⟨en, hen⟩ : ∃ en, en = E r.v := ⟨_, rfl⟩
  rw [← hen] at hre hk hz hab hsp ⊢
  obtain ⟨kd, tx, lo, ln, lc⟩ := en
  unfold enCs at hre
  simp only at hk hz hre hab hsp ⊢
  subst hk
  have hres : a ≤ b ∧ b ≤ tx.size := by
    obtain ⟨x, y, h1, h2, h3⟩ := hsp
    rw [hab] at h1
    simp only [Prod.mk.injEq] at h1
    omega
  have HL := Lib.hid (length_str r.v tx lo ln lc w hre)
  have HSP := Lib.hid (span_any tx.size f t hz hf ht w)
  rw [hab] at HSP
  have HK := Lib.hid (keep_str r.v tx lo ln lc a b hres.1 hres.2 hz w hre)
  clear h hs hh hr hre hmem hz hf ht hab hsp hres hen
  go_enter Tryz.func15, Tryz.ntmps15
  go_wp2_with fail
  refine HG.out.mono ?_
  rintro e w1 ⟨rfl, rfl⟩
  go_wp2_with fail
  refine HL.out.mono ?_
  rintro e w1 ⟨rfl, rfl⟩
  go_wp2_with fail
  refine HSP.out.mono ?_
  rintro e w1 ⟨rfl, rfl⟩
  go_wp2_with fail
  refine HK.out.mono ?_
  rintro e w1 ⟨rfl, hb, hk⟩
  have HB := Lib.hid hb
  have HKK := Lib.hid hk
  clear hb hk
  go_wp2_with fail
  go_ret
  exact ⟨rfl, H.out.with r HMEM.out _ HB.out HKK.out, HKK.out⟩
/-- Chop of a string. -/
theorem chop_str {sb mb : Nat} {L : List Reg} {E : Nat → En} {w : World} (h : SK sb mb L E w) (s : ByteArray) (hs : s.size ≤ maxLen) (hh : hasS L s.data.toList = true) (hk : (E (getS L s.data.toList).v).kind = 1) (hz : (E (getS L s.data.toList).v).tx.size ≤ 2000) :
    Calls Tryz.prog 23 #[BP sb, .string s] w fun e w' => e = .returned (.int .i64 0) ∧ SK sb mb L (upd E (getS L s.data.toList).v { E (getS L s.data.toList).v with tx := (E (getS L s.data.toList).v).tx.extract 0 ((E (getS L s.data.toList).v).tx.size - 1) }) w' ∧ Kept (· = (getS L s.data.toList).v) w w' := by
  have HG := Lib.hid (get_yes h s hs hh)
  have hmem := getS_mem L _ hh
  have hre := h.ent _ hmem
  have H := Lib.hid h
  obtain ⟨r, hr⟩ : ∃ r, r = getS L s.data.toList := ⟨_, rfl⟩
  rw [← hr] at HG hre hk hz hmem ⊢
  have HMEM := Lib.hid hmem
  unfold EnAt at hre
  obtain ⟨en, hen⟩ : ∃ en, en = E r.v := ⟨_, rfl⟩
  rw [← hen] at hre hk hz ⊢
  obtain ⟨kd, tx, lo, ln, lc⟩ := en
  unfold enCs at hre
  simp only at hk hz hre ⊢
  subst hk
  have HL := Lib.hid (length_str r.v tx lo ln lc w hre)
  have HK := Lib.hid (keep_str r.v tx lo ln lc 0 (tx.size - 1) (Nat.zero_le _) (by omega) hz w hre)
  have HM := Lib.hid (show max (0 : Int) ((tx.size : Int) - 1) = ((tx.size - 1 : Nat) : Int) by omega)
  clear h hs hh hr hre hmem hen
  go_enter Tryz.func23, Tryz.ntmps23
  go_wp2_with fail
  refine HG.out.mono ?_
  rintro e w1 ⟨rfl, rfl⟩
  go_wp2_with fail
  refine HL.out.mono ?_
  rintro e w1 ⟨rfl, rfl⟩
  go_wp2_with fail
  rw [HM.out]
  refine HK.out.mono ?_
  rintro e w1 ⟨rfl, hb, hk⟩
  have HB := Lib.hid hb
  have HKK := Lib.hid hk
  clear hb hk
  go_wp2_with fail
  go_ret
  exact ⟨rfl, H.out.with r HMEM.out _ HB.out HKK.out, HKK.out⟩
/-- What is got and is not there: Part, Chop, Length, Lines. -/
theorem part_no {sb mb : Nat} {L : List Reg} {E : Nat → En} {w : World} (h : SK sb mb L E w) (s : ByteArray) (f t : Int) (hs : s.size ≤ maxLen) (hh : hasS L s.data.toList = false) :
    Calls Tryz.prog 15 #[BP sb, .string s, .int .i64 f, .int .i64 t] w fun e w' => e = .returned (.int .i64 6) ∧ w = w' := by
  have HG := Lib.hid (get_no h s hs hh)
  clear h hs hh
  go_enter Tryz.func15, Tryz.ntmps15
  go_wp2_with fail
  refine HG.out.mono ?_
  rintro e w1 ⟨rfl, rfl⟩
  go_wp2_with fail
  go_ret
  exact ⟨rfl, rfl⟩
theorem chop_no {sb mb : Nat} {L : List Reg} {E : Nat → En} {w : World} (h : SK sb mb L E w) (s : ByteArray) (hs : s.size ≤ maxLen) (hh : hasS L s.data.toList = false) :
    Calls Tryz.prog 23 #[BP sb, .string s] w fun e w' => e = .returned (.int .i64 6) ∧ w = w' := by
  have HG := Lib.hid (get_no h s hs hh)
  clear h hs hh
  go_enter Tryz.func23, Tryz.ntmps23
  go_wp2_with fail
  refine HG.out.mono ?_
  rintro e w1 ⟨rfl, rfl⟩
  go_wp2_with fail
  go_ret
  exact ⟨rfl, rfl⟩
/- Append. -/
theorem append_arg {sb mb : Nat} {L : List Reg} {E : Nat → En} {w : World} (h : SK sb mb L E w) (s t : ByteArray) (ht : okTx t.data.toList = false) :
    Calls Tryz.prog 17 #[BP sb, .string s, .string t] w fun e w' => e = .returned (.int .i64 1) ∧ Below w.heap.size w w' := by
  have HV := Lib.hid (fun W => validText_any t W)
  rw [ht] at HV
  have HF := Lib.hid (find_arg h s)
  clear h ht
  go_enter Tryz.func17, Tryz.ntmps17
  go_wp2_with fail
  refine (HV.out _).mono ?_
  rintro e w1 ⟨rfl, rfl⟩
  go_wp2_with fail
  refine HF.out.mono ?_
  rintro e w2 ⟨rfl, hb⟩
  have HB := Lib.hid hb
  have hz := hb.size
  clear hb
  go_wp2_with fail
  go_ret
  exact ⟨rfl, HB.out.alloc hz _⟩
theorem append_bad {sb mb : Nat} {L : List Reg} {E : Nat → En} {w : World} (h : SK sb mb L E w) (s t : ByteArray) (ht : okTx t.data.toList = true) (hn : okNm s.data.toList = false) :
    Calls Tryz.prog 17 #[BP sb, .string s, .string t] w fun e w' => e = .returned (.int .i64 6) ∧ Below w.heap.size w w' := by
  have HV := Lib.hid (fun W => validText_any t W)
  rw [ht] at HV
  have HF := Lib.hid (find_bad h s hn)
  clear h ht hn
  go_enter Tryz.func17, Tryz.ntmps17
  go_wp2_with fail
  refine (HV.out _).mono ?_
  rintro e w1 ⟨rfl, rfl⟩
  go_wp2_with fail
  refine HF.out.mono ?_
  rintro e w2 ⟨rfl, hb⟩
  have HB := Lib.hid hb
  have hz := hb.size
  clear hb
  go_wp2_with fail
  go_ret
  exact ⟨rfl, HB.out.alloc hz _⟩
theorem okTx_size {t : ByteArray} (h : okTx t.data.toList = true) : t.size ≤ 2000 := by
  unfold okTx at h
  simp only [Bool.and_eq_true, decide_eq_true_eq] at h
  have := h.1
  rwa [show t.data.toList.length = t.size by simp] at this
theorem append_limit {sb mb : Nat} {L : List Reg} {E : Nat → En} {w : World} (h : SK sb mb L E w) (s t : ByteArray) (ht : okTx t.data.toList = true) (hn : okNm s.data.toList = true) (hz : (entOf L E s.data.toList).tx.size ≤ 2000) (hl : 2000 < (entOf L E s.data.toList).tx.size + t.size) :
    Calls Tryz.prog 17 #[BP sb, .string s, .string t] w fun e w' => e = .returned (.int .i64 2) ∧ Below w.heap.size w w' := by
  have HV := Lib.hid (fun W => validText_any t W)
  have htz := okTx_size ht
  rw [ht] at HV
  have HF := Lib.hid (find_ok h s hn)
  obtain ⟨⟨kd, tx, lo, ln, lc⟩, hen⟩ : ∃ en, en = entOf L E s.data.toList := ⟨_, rfl⟩
  rw [← hen] at HF hz hl
  unfold enA at HF
  simp only at HF hz hl
  have d1 : decide ((2000 : Int) < (tx.size : Int) + (t.size : Int)) = true := decide_eq_true (by omega)
  clear h ht hn hen hl
  go_enter Tryz.func17, Tryz.ntmps17
  go_wp2_with fail
  refine (HV.out _).mono ?_
  rintro e w1 ⟨rfl, rfl⟩
  go_wp2_with fail
  refine HF.out.mono ?_
  rintro e w2 ⟨rfl, hb⟩
  have HB := Lib.hid (hb.alloc hb.size (.cells #[.int .i64 kd, .string tx, .slice lo ln lc] 59))
  have hsz := hb.size
  clear hb
  go_wp2_with fail
  go_ret
  exact ⟨rfl, HB.out⟩
/-- Append comes to put. -/
theorem append_put {sb mb : Nat} {L : List Reg} {E : Nat → En} {w : World} (h : SK sb mb L E w) (s t : ByteArray) (ht : okTx t.data.toList = true) (hn : okNm s.data.toList = true) (hz : (entOf L E s.data.toList).tx.size ≤ 2000) (hl : (entOf L E s.data.toList).tx.size + t.size ≤ 2000) (c : Int) (R : World → World → Prop)
    (hP : ∀ W, Below w.heap.size w W → Calls Tryz.prog 43 #[BP sb, .string s, .agg #[.int .i64 1, .string ((entOf L E s.data.toList).tx ++ t), .slice none 0 0]] W fun e w' => e = .returned (.int .i64 c) ∧ R W w') :
    Calls Tryz.prog 17 #[BP sb, .string s, .string t] w fun e w' => e = .returned (.int .i64 c) ∧ ∃ W, Below w.heap.size w W ∧ R W w' := by
  have HV := Lib.hid (fun W => validText_any t W)
  have htz := okTx_size ht
  rw [ht] at HV
  have HF := Lib.hid (find_ok h s hn)
  have HP := Lib.hid hP
  obtain ⟨⟨kd, tx, lo, ln, lc⟩, hen⟩ : ∃ en, en = entOf L E s.data.toList := ⟨_, rfl⟩
  rw [← hen] at HF hz hl HP
  unfold enA at HF
  simp only at HF hz hl HP
  have d1 : decide ((2000 : Int) < (tx.size : Int) + (t.size : Int)) = false := decide_eq_false (by omega)
  clear h ht hn hen hl hP
  go_enter Tryz.func17, Tryz.ntmps17
  go_wp2_with fail
  refine (HV.out _).mono ?_
  rintro e w1 ⟨rfl, rfl⟩
  go_wp2_with fail
  refine HF.out.mono ?_
  rintro e w2 ⟨rfl, hb⟩
  have HB := Lib.hid (hb.alloc hb.size (.cells #[.int .i64 kd, .string tx, .slice lo ln lc] 59))
  have hsz := hb.size
  clear hb
  go_wp2_with fail
  refine (HP.out _ HB.out).mono ?_
  rintro e w3 ⟨rfl, hR⟩
  have HR := Lib.hid hR
  clear hR
  go_wp2_with fail
  go_ret
  exact ⟨rfl, _, HB.out, HR.out⟩
end Go.Proofs.YtgpanlkcpnlejaaGreat
/- The code's store: Rename, Remove, Length; the fixed example. -/
namespace Go.Proofs.YtgpanlkcpnlejaaGreat
open Go.RowKit Go.Maps
set_option maxRecDepth 100000
theorem SK.del {sb mb : Nat} {L : List Reg} {E : Nat → En} {w w' : World} {D : DataW Unit} (h : SK sb mb L E w) (hown : w.ownsMap Tryz.prog 9 regElem mb L.length D) (his : MapIs D L) (nm : List UInt8)
    (hown' : w'.ownsMap Tryz.prog 9 regElem mb L.length (D.del (.string nm))) (hg : w.grownBy w' (some mb)) : SK sb mb (delS L nm) E w' := by
  have hT : Tidy D := hown.tidy law
  have hm := his.del hT h.asc nm
  have hlen := len_del L nm h.asc
  have := h.len
  refine ⟨(hg.block sb h.lt.1 (by simpa using h.ne)).trans h.cell, h.ne, asc_del L nm h.asc, ⟨_, ?_, hm⟩, fun x hx => ?_, ?_, fun x hx => ?_⟩
  · have := info_tight hown'
    rwa [hm.size] at this
  · exact h.ok x (List.mem_filter.1 hx).1
  · omega
  · have hx' := (List.mem_filter.1 hx).1
    exact (hg.block _ (h.elt x hx') (by simpa using (h.ne1 x hx').2)).trans (h.ent x hx')
theorem rename_no {sb mb : Nat} {L : List Reg} {E : Nat → En} {w : World} (h : SK sb mb L E w) (s t : ByteArray) (hs : s.size ≤ maxLen) (hh : hasS L s.data.toList = false) :
    Calls Tryz.prog 21 #[BP sb, .string s, .string t] w fun e w' => e = .returned (.int .i64 6) ∧ w = w' := by
  have HG := Lib.hid (get_no h s hs hh)
  clear h hs hh
  go_enter Tryz.func21, Tryz.ntmps21
  go_wp2_with fail
  refine HG.out.mono ?_
  rintro e w1 ⟨rfl, rfl⟩
  go_wp2_with fail
  go_ret
  exact ⟨rfl, rfl⟩
theorem rename_bad {sb mb : Nat} {L : List Reg} {E : Nat → En} {w : World} (h : SK sb mb L E w) (s t : ByteArray) (hs : s.size ≤ maxLen) (hh : hasS L s.data.toList = true) (hn : okNm t.data.toList = false) :
    Calls Tryz.prog 21 #[BP sb, .string s, .string t] w fun e w' => e = .returned (.int .i64 6) ∧ Below w.heap.size w w' := by
  have HG := Lib.hid (get_yes h s hs hh)
  have HV := Lib.hid (fun W => validName_any t W)
  rw [hn] at HV
  clear h hs hh hn
  go_enter Tryz.func21, Tryz.ntmps21
  go_wp2_with fail
  refine HG.out.mono ?_
  rintro e w1 ⟨rfl, rfl⟩
  go_wp2_with fail
  refine (HV.out _).mono ?_
  rintro e w1 ⟨rfl, hb⟩
  have HB := Lib.hid hb
  clear hb
  go_wp2_with fail
  go_ret
  exact ⟨rfl, HB.out⟩
set_option maxHeartbeats 1000000 in
theorem rename_ok {sb mb : Nat} {L : List Reg} {E : Nat → En} {w : World} (h : SK sb mb L E w) (s t : ByteArray) (hs : s.size ≤ maxLen) (hh : hasS L s.data.toList = true) (hn : okNm t.data.toList = true) :
    Calls Tryz.prog 21 #[BP sb, .string s, .string t] w fun e w' => e = .returned (.int .i64 0) ∧ SK sb mb (putS (delS L s.data.toList) ⟨t.data.toList, (getS L s.data.toList).v⟩) E w' ∧ Kept (· = mb) w w' := by
  have HG := Lib.hid (get_yes h s hs hh)
  have HV := Lib.hid (fun W => validName_any t W)
  rw [hn] at HV
  have H := Lib.hid h
  have HS := Lib.hid hs
  have HN := Lib.hid hn
  have hmem := getS_mem L _ hh
  have hlen := len_del L s.data.toList h.asc
  have h5 := h.len
  rw [hh, if_pos rfl] at hlen
  have HLEN := Lib.hid (show (delS L s.data.toList).length < 500 by omega)
  obtain ⟨r, hr⟩ : ∃ r, r = getS L s.data.toList := ⟨_, rfl⟩
  rw [← hr] at HG hmem ⊢
  have HMEM := Lib.hid hmem
  clear h hs hh hn hmem hr hlen h5
  go_enter Tryz.func21, Tryz.ntmps21
  go_wp2_with fail
  refine HG.out.mono ?_
  rintro e w1 ⟨rfl, rfl⟩
  go_wp2_with fail
  refine (HV.out _).mono ?_
  rintro e w1 ⟨rfl, hb⟩
  have h1 := H.out.below hb
  have H1 := Lib.hid h1
  have hc := h1.c0
  obtain ⟨D, hown, his⟩ := h1.map
  have HOWN := Lib.hid hown
  have HIS : Hid (MapIs D L) := Lib.hid his
  have HB := Lib.hid hb
  clear hb h1 hown his
  go_wp2_with (at_delete; refine wpList_delete_own _ rfl _ _ 44 9 rfl 57 law Tryz.underlying44 regElem mb L.length D rfl HOWN.out (.string s) (.string s.data.toList) rfl (WideMaps.keyOf_string_mk Tryz.underlying9 HS.out) ?_; intro w3 hown3 hturn3; have HO3 := Lib.hid hown3; have HG3 := Lib.hid hturn3.grown; clear hown3 hturn3)
  have h2 := H1.out.del HOWN.out HIS.out _ HO3.out HG3.out
  have hk2 := (Kept.of (S := (· = mb)) HB.out).trans (.grown HG3.out)
  have he : EnAt w3 r.v (E r.v) := (HG3.out.block _ (H1.out.elt r HMEM.out) (by simpa using (H1.out.ne1 r HMEM.out).2)).trans (H1.out.ent r HMEM.out)
  have HGV : Hid (Calls Tryz.prog 51 #[BP sb, .string t, BP r.v] w3 fun e w' => e = .returned (.int .i64 0) ∧ SK sb mb (putS (delS L s.data.toList) ⟨t.data.toList, r.v⟩) E w' ∧ Kept (· = mb) w3 w') := by
    refine Lib.hid ?_
    cases ht : hasS (delS L s.data.toList) t.data.toList with
    | true => exact give_old h2 t r.v HN.out ht he
    | false => exact give_new h2 t r.v HN.out ht HLEN.out he
  have HK2 := Lib.hid hk2
  clear h2 hk2 he
  go_wp2_with fail
  refine HGV.out.mono ?_
  rintro e w4 ⟨rfl, hs4, hk4⟩
  have HS4 := Lib.hid hs4
  have HK4 := Lib.hid (HK2.out.trans hk4)
  clear hs4 hk4
  go_wp2_with fail
  go_ret
  exact ⟨rfl, HS4.out, HK4.out⟩
set_option maxHeartbeats 1000000 in
theorem remove_ok {sb mb : Nat} {L : List Reg} {E : Nat → En} {w : World} (h : SK sb mb L E w) (s : ByteArray) (hn : okNm s.data.toList = true) :
    Calls Tryz.prog 20 #[BP sb, .string s] w fun e w' => e = .returned (.int .i64 0) ∧ SK sb mb (delS L s.data.toList) E w' ∧ Kept (· = mb) w w' := by
  have HF := Lib.hid (find_ok h s hn)
  have HS := Lib.hid (size_ok hn)
  have H := Lib.hid h
  obtain ⟨⟨kd, tx, lo, ln, lc⟩, hen⟩ : ∃ en, en = entOf L E s.data.toList := ⟨_, rfl⟩
  rw [← hen] at HF
  unfold enA at HF
  simp only at HF
  clear h hn hen
  go_enter Tryz.func20, Tryz.ntmps20
  go_wp2_with fail
  refine HF.out.mono ?_
  rintro e w1 ⟨rfl, hb⟩
  have hb1 := hb.alloc hb.size (.cells #[.int .i64 kd, .string tx, .slice lo ln lc] 59)
  have h1 := H.out.below hb1
  have H1 := Lib.hid h1
  have hc := h1.c0
  have hz := hb.size
  obtain ⟨D, hown, his⟩ := h1.map
  have HOWN := Lib.hid hown
  have HIS : Hid (MapIs D L) := Lib.hid his
  have HB := Lib.hid hb1
  clear hb hb1 h1 hown his
  go_wp2_with (at_delete; refine wpList_delete_own _ rfl _ _ 44 9 rfl 57 law Tryz.underlying44 regElem mb L.length D rfl HOWN.out (.string s) (.string s.data.toList) rfl (WideMaps.keyOf_string_mk Tryz.underlying9 HS.out) ?_; intro w3 hown3 hturn3; have HO3 := Lib.hid hown3; have HG3 := Lib.hid hturn3.grown; clear hown3 hturn3)
  go_ret
  exact ⟨rfl, H1.out.del HOWN.out HIS.out _ HO3.out HG3.out, (Kept.of (S := (· = mb)) HB.out).trans (.grown HG3.out)⟩
theorem remove_bad {sb mb : Nat} {L : List Reg} {E : Nat → En} {w : World} (h : SK sb mb L E w) (s : ByteArray) (hn : okNm s.data.toList = false) :
    Calls Tryz.prog 20 #[BP sb, .string s] w fun e w' => e = .returned (.int .i64 6) ∧ Below w.heap.size w w' := by
  have HF := Lib.hid (find_bad h s hn)
  clear h hn
  go_enter Tryz.func20, Tryz.ntmps20
  go_wp2_with fail
  refine HF.out.mono ?_
  rintro e w1 ⟨rfl, hb⟩
  have hz := hb.size
  have HB := Lib.hid hb
  clear hb
  go_wp2_with fail
  go_ret
  exact ⟨rfl, HB.out.alloc hz _⟩
/- The fixed example. -/
theorem get_one (nm : List UInt8) (b : Nat) : getS [⟨nm, b⟩] nm = ⟨nm, b⟩ := by simp [getS]
theorem has_one (nm : List UInt8) (b : Nat) : hasS [⟨nm, b⟩] nm = true := by simp [hasS]
def E9 : Nat → En := fun _ => E0
set_option maxHeartbeats 1000000 in
theorem sane_any (w : World) : Calls Tryz.prog 6 #[] w fun e w' => e = .returned (.bool true) ∧ Below w.heap.size w w' := by
  go_enter Tryz.func6, Tryz.ntmps6
  go_wp2_with fail
  refine (new_any _).mono ?_
  rintro e w1 ⟨rfl, hk, hb⟩
  have HK1 := Lib.hid (hk E9)
  have HB1 := Lib.hid hb
  clear hk hb
  go_wp2_with fail
  refine (define_new HK1.out ⟨#[97]⟩ ⟨#[97, 98, 99, 100, 101]⟩ rfl rfl rfl (by simp)).mono ?_
  rintro e w2 ⟨rfl, ⟨b, hbs, hk⟩, hw⟩
  have HK2 : Hid (SK (w.heap.size + 1) w.heap.size [⟨[97], b⟩] (upd E9 b ⟨1, ⟨#[97, 98, 99, 100, 101]⟩, none, 0, 0⟩) w2) := Lib.hid hk
  have HB2 := Lib.hid (HB1.out.trans (hw.to HB1.out.size (fun k e => Nat.le_of_eq e.symm)))
  have HBS := Lib.hid (Nat.le_trans HB1.out.size hbs)
  clear hk hw hbs
  have HP := part_str HK2.out ⟨#[97]⟩ 1 (-2) (by unfold I64; omega) (by unfold I64; omega) (by unfold maxLen; decide) (has_one _ _) (by show (upd E9 b _ (getS [⟨[97], b⟩] [97]).v).kind = 1; rw [get_one, upd_same]) (by show (upd E9 b _ (getS [⟨[97], b⟩] [97]).v).tx.size ≤ 2000; rw [get_one, upd_same]; decide) 1 4 (by show spanS (upd E9 b _ (getS [⟨[97], b⟩] [97]).v).tx.size 1 (-2) = _; rw [get_one, upd_same]; rfl)
  have e1 : (getS [⟨[97], b⟩] (⟨#[97]⟩ : ByteArray).data.toList) = ⟨[97], b⟩ := get_one _ _
  rw [e1, upd_same] at HP
  have HP' := Lib.hid HP
  clear HP
  go_wp2_with fail
  refine HP'.out.mono ?_
  rintro e w3 ⟨rfl, hk, hw⟩
  have HB3 := Lib.hid (HB2.out.trans (hw.to HB2.out.size (fun k e => by have := HBS.out; omega)))
  have HT := text_yes hk ⟨#[97]⟩ (by unfold maxLen; decide) (has_one _ _) (by rw [e1, upd_same])
  rw [e1, upd_same] at HT
  have HT' := Lib.hid HT
  clear hk hw HT e1
  go_wp2_with fail
  refine HT'.out.mono ?_
  rintro e w4 ⟨rfl, rfl⟩
  have hx : (⟨#[97, 98, 99, 100, 101]⟩ : ByteArray).extract 1 4 = ⟨#[98, 99, 100]⟩ := by decide +kernel
  go_wp2_with fail
  go_ret
  exact ⟨rfl, HB3.out⟩
end Go.Proofs.YtgpanlkcpnlejaaGreat
/- Texts, as the document says; the law StoreParts. -/
namespace Go.Proofs.YtgpanlkcpnlejaaGreat
open Go.RowKit Go.Maps
set_option maxRecDepth 100000
theorem ib_any : ∀ (l : List UInt8) (c : UInt8), decide (0 ≤ Lib.indexByte l c) = l.any (· == c)
  | [], c => rfl
  | b :: l, c => by
    have ih := ib_any l c
    have hg := Lib.indexByte_ge l c
    have e0 : Lib.indexByte (b :: l) c = if (b == c) = true then 0 else if (Lib.indexByte l c == -1) = true then -1 else Lib.indexByte l c + 1 := by rw [Lib.indexByte]
    rw [List.any_cons, ← ih, e0]
    cases h : (b == c) with
    | true => rfl
    | false =>
      rw [Bool.false_or, if_neg (by decide)]
      by_cases e : Lib.indexByte l c = -1
      · rw [if_pos (by simp [e]), e]
      · rw [if_neg (by simpa using e), decide_eq_decide]; omega
def ItR (s : ByteArray) (w : World) (k : Nat) (i : Value) (wr : World) : Prop :=
  ∃ j, k + j = s.size ∧ i = .int .i64 j ∧ (s.data.toList.take j).any (· == 10) = false ∧ w = wr
set_option maxHeartbeats 1000000 in
theorem rIsText_any (s : ByteArray) (hs9 : s.size ≤ 9223372036854775807) (w : World) : Calls Tryz.prog 52 #[.string s] w fun e w' => e = .returned (.bool (okTx s.data.toList)) ∧ w = w' := by
  have HE := Lib.hid (show okTx s.data.toList = (decide (s.size ≤ 2000) && !(s.data.toList.any (· == 10))) by unfold okTx; rw [ib_any, show s.data.toList.length = s.size by simp])
  have HST : Hid (ItR s w s.size (.int .i64 0) w) := Lib.hid ⟨0, rfl, rfl, rfl, rfl⟩
  have HSL := Lib.hid (show s.data.toList.length = s.size by simp)
  have hmax : s.size ≤ maxLen := by unfold maxLen; omega
  have HS9 := Lib.hid hs9
  go_enter Tryz.func52, Tryz.ntmps52
  go_wp2_with fail
  go_loopg [3] s.size (fun k i wr => ItR s w k i wr)
  case atStart => exact HST.out
  case round =>
    obtain ⟨j, hk, rfl, ha, rfl⟩ := hrel
    have HK := Lib.hid hk
    by_cases hj : j < s.size
    · have dj : decide (j < s.size) = true := decide_eq_true hj
      have hjl : j < s.data.toList.length := by rw [HSL.out]; exact hj
      have hc := byte_at s j hj
      have HT := Lib.hid (show (s.data.toList.take (j + 1)).any (· == 10) = (s[j] == 10) by
        rw [List.take_succ_eq_append_getElem hjl, List.any_append, ha]; simp; rfl)
      clear hk ha
      by_cases c3 : s[j] = 10
      · have e3 : (((s[j]).toNat : Int) == 10) = true := by rw [c3]; rfl
        have HQ := Lib.hid (show s.data.toList.any (· == 10) = true from List.any_eq_true.2 ⟨s[j], List.mem_of_getElem? hc, by rw [c3]; rfl⟩)
        clear c3 hc
        go_wp2_with fail
        go_ret
        rw [HE.out, HQ.out]
        exact ⟨by simp, rfl⟩
      · have e3 : (((s[j]).toNat : Int) == 10) = false := by
          rw [beq_eq_false_iff_ne]; intro h; exact c3 (UInt8.toNat_inj.1 (by show (s[j]).toNat = 10; omega))
        have HQ := Lib.hid (show (s[j] == 10) = false by simpa using c3)
        clear c3 hc
        go_wp2_with fail
        go_roundg (gk - 1)
        case measure => have := HK.out; omega
        case rel => have := HK.out; exact ⟨j + 1, by omega, by go_num, by rw [HT.out]; exact HQ.out, rfl⟩
    · have dj : decide (j < s.size) = false := decide_eq_false hj
      have HQ := Lib.hid (show s.data.toList.any (· == 10) = false by rw [← List.take_of_length_le (l := s.data.toList) (i := j) (by rw [HSL.out]; omega)]; exact ha)
      have HZ := Lib.hid (show decide ((s.size : Int) ≤ 2000) = decide (s.size ≤ 2000) by rw [decide_eq_decide]; omega)
      clear hk ha hj
      go_wp2_with fail
      go_ret
      rw [HE.out, HQ.out]
      exact ⟨by simp [HZ.out], rfl⟩
theorem i64_of_wf {x : Int} (h : (Lit.int .i64 x).wf = true) : I64 x := by
  simp only [Lit.wf, IntKind.min, IntKind.max, IntKind.signed, IntKind.bits, Bool.and_eq_true, decide_eq_true_eq, if_true] at h
  unfold I64; omega
/- The law StoreParts. -/
theorem in_span (n : Nat) (f t : Int) (a b : Nat) (h : spanS n f t = ((a : Int), (b : Int))) (i : Nat) (hi : i < n) :
    ((placeS n f ≤ i ∧ i ≤ placeS n t) ∨ (placeS n t ≤ i ∧ i ≤ placeS n f)) ↔ (a ≤ i ∧ i < b) := by
  unfold spanS spanPQ at h
  generalize placeS n f = p at *
  generalize placeS n t = q at *
  split at h
  · simp only [Prod.mk.injEq] at h
    omega
  · simp only [Prod.mk.injEq] at h
    omega
/-- What is left of a text, up to a place. -/
def cutTo (s : ByteArray) (a b i : Nat) : List UInt8 := (s.data.toList.take (min i b)).drop a
theorem cutTo_in (s : ByteArray) (a b i : Nat) (h1 : a ≤ i) (h2 : i < b) (h3 : i < s.size) : cutTo s a b (i + 1) = cutTo s a b i ++ [s[i]] := by
  unfold cutTo
  rw [show min (i + 1) b = i + 1 by omega, show min i b = i by omega, List.take_succ_eq_append_getElem (by simpa using h3), List.drop_append_of_le_length (by simp; omega)]
  rfl
theorem cutTo_out (s : ByteArray) (a b i : Nat) (h : ¬ (a ≤ i ∧ i < b)) : cutTo s a b (i + 1) = cutTo s a b i := by
  unfold cutTo
  by_cases h1 : b ≤ i
  · rw [show min (i + 1) b = b by omega, show min i b = b by omega]
  · rw [List.drop_eq_nil_of_le (by simp; omega), List.drop_eq_nil_of_le (by simp; omega)]
theorem cutTo_all (s : ByteArray) (a b : Nat) (hb : b ≤ s.size) : (⟨(cutTo s a b s.size).toArray⟩ : ByteArray) = s.extract a b := by
  unfold cutTo
  rw [show min s.size b = b by omega]
  apply ByteArray.ext
  apply Array.ext'
  rw [ByteArray.data_extract, Array.toList_extract]
  simp [List.extract, List.drop_take]
theorem cutTo_len (s : ByteArray) (a b i : Nat) (hi : i ≤ s.size) : (cutTo s a b i).length ≤ i := by
  unfold cutTo; simp; omega
def PaR (s : ByteArray) (a b : Nat) (w : World) (k : Nat) (want i : Value) (wr : World) : Prop :=
  ∃ (j : Nat) (x : ByteArray), k + j = s.size ∧ i = .int .i64 j ∧ want = .string x ∧ x.data.toList = cutTo s a b j ∧ w = wr
end Go.Proofs.YtgpanlkcpnlejaaGreat
