/- The law StoreNothing: its walk. -/
import Derived.Test.YtgpanlkcpnlejaaN1
set_option linter.unusedSimpArgs false
set_option linter.unusedVariables false
namespace Go.Proofs.Ytgpanlkcpnlejaa
open Go.RowKit Go.Maps
set_option maxRecDepth 100000
theorem nb1 {w W : World} (hW : Below w.heap.size w W) {e : Ending} {w' : World} (x : E1R W e w') : Nb (fun x w' => x = 1 ∧ Below w.heap.size w w') e w' :=
  ⟨1, x.1, rfl, hW.trans (x.2.mono hW.size)⟩
theorem nb1' {w W : World} (hW : Below w.heap.size w W) {e : Ending} {w' : World} (x : e = .returned (.int .i64 1) ∧ W = w') : Nb (fun x w' => x = 1 ∧ Below w.heap.size w w') e w' :=
  ⟨1, x.1, rfl, x.2 ▸ hW⟩
theorem do_none {P : TypeId → Nat → Prop} {p : Value} {w : World} (h : No w p) (k : Int) (nm ot tx : ByteArray) (A : Option Addr) (n c : Nat) (a b : Int) (ls : List Ln) (hl : LnsAt P w A n ls) (hP : ∀ e b, P e b → b < w.heap.size) (hn9 : (n : Int) ≤ 9223372036854775807)
    (hk : k = 0 ∨ k = 1 ∨ k = 2 ∨ k = 3 ∨ k = 4 ∨ k = 5 ∨ k = 6 ∨ k = 7 ∨ k = 8) : Calls Try.prog 21 #[p, DV k nm ot tx A n c a b] w (E1R w) := by
  have key : ∀ W, Below w.heap.size w W → LnsAt (fun _ b => b < w.heap.size) W A n ls ∧ ∀ b, b < w.heap.size → b < W.heap.size := fun W hW => ⟨hl.keep fun e b hb => ⟨hW.block b (hP e b hb), hP e b hb⟩, fun b hb => Nat.lt_of_lt_of_le hb hW.size⟩
  suffices h : Calls Try.prog 21 #[p, DV k nm ot tx A n c a b] w (Nb (fun x w' => x = 1 ∧ Below w.heap.size w w')) from h.mono fun e w' ⟨x, he, hx, hb⟩ => ⟨by rw [he, hx], hb⟩
  rcases hk with rfl | rfl | rfl | rfl | rfl | rfl | rfl | rfl | rfl
  · exact do_0 fun W hW => (Define_none (h.below hW) nm tx).mono fun e w' x => nb1 hW x
  · exact do_1 fun W hW => (Append_none (h.below hW) nm tx).mono fun e w' x => nb1 hW x
  · exact do_2 fun W hW => (Macro_none (h.below hW) nm (key W hW).1 (fun _ => (key W hW).2) hn9).mono fun e w' x => nb1 hW x
  · exact do_3 fun W hW => (Add_none (h.below hW) nm (key W hW).1 (fun _ => (key W hW).2) hn9).mono fun e w' x => nb1 hW x
  · exact do_4 fun W hW => (Remove_none (h.below hW) nm).mono fun e w' x => nb1 hW x
  · exact do_5 fun W hW => (Rename_none (h.below hW) nm ot).mono fun e w' x => nb1' hW x
  · exact do_6 fun W hW => (Alias_none (h.below hW) nm ot).mono fun e w' x => nb1' hW x
  · exact do_7 fun W hW => (Chop_none (h.below hW) nm).mono fun e w' x => nb1' hW x
  · exact do_8 fun W hW => (Part_none (h.below hW) nm a b).mono fun e w' x => nb1' hW x
theorem DdOk.below {w W : World} {d : Dd} (h : DdOk w d) (k : Below w.heap.size w W) : DdOk W d :=
  ⟨h.ls.keep fun _ b hb => ⟨k.block b hb, Nat.lt_of_lt_of_le hb k.size⟩, h.nil, h.le, h.cap, h.fit, h.txs, h.nm, h.ot, h.tx, h.k9, h.a9, h.b9⟩
abbrev DA (k : Int) (nm ot tx : ByteArray) (A : Option Addr) (n c : Nat) (a b : Int) : Array Value := #[.int .i64 k, .string nm, .string ot, .string tx, .slice A n c, .int .i64 a, .int .i64 b]
theorem dd_cells {w : World} {g : Nat} {k : Int} {nm ot tx : ByteArray} {A : Option Addr} {n c : Nat} {a b : Int} {t : TypeId} (h : w.heap[g]? = some (.cells (DA k nm ot tx A n c a b) t (0, 0))) :
    w.cell? ⟨g, 0, none⟩ = some (.int .i64 k) ∧ w.cell? ⟨g, 1, none⟩ = some (.string nm) ∧ w.cell? ⟨g, 2, none⟩ = some (.string ot) ∧ w.cell? ⟨g, 3, none⟩ = some (.string tx) ∧ w.cell? ⟨g, 4, none⟩ = some (.slice A n c) ∧ w.cell? ⟨g, 5, none⟩ = some (.int .i64 a) ∧ w.cell? ⟨g, 6, none⟩ = some (.int .i64 b) ∧ w.frozen? ⟨g, 0, none⟩ = false := by
  simp [World.cell?, World.frozen?, h]
theorem reads_one {w : World} {g : Nat} {d : Dd} {t : TypeId} (h : w.heap[g]? = some (.cells (DA d.k d.nm d.ot d.tx d.A d.n d.c d.a d.b) t (0, 0))) : ReadsP (fun b => b < w.heap.size) w 7 (some ⟨g, 0, none⟩) 1 ([d].flatMap ddCs) := by
  refine ⟨rfl, fun _ => ⟨g, 0, rfl, lt_of_block h, fun j u hu => ?_⟩⟩
  have e : [d].flatMap ddCs = (DA d.k d.nm d.ot d.tx d.A d.n d.c d.a d.b).toList := rfl
  rw [e, Array.getElem?_toList] at hu
  simp only [World.cell?, h, Nat.zero_add]
  exact hu
theorem mod9 (k : Int) : ∃ q : Int, wrap64 ((IntKind.u64.wrap k).tmod 9) = q ∧ (q = 0 ∨ q = 1 ∨ q = 2 ∨ q = 3 ∨ q = 4 ∨ q = 5 ∨ q = 6 ∨ q = 7 ∨ q = 8) := by
  have h0 : 0 ≤ IntKind.u64.wrap k := by rw [IntKind.wrap_u64]; exact Int.emod_nonneg _ (by decide)
  have h2 : (IntKind.u64.wrap k).tmod 9 = (IntKind.u64.wrap k) % 9 := Int.tmod_eq_emod_of_nonneg h0
  have h3 := Int.emod_nonneg (IntKind.u64.wrap k) (show (9 : Int) ≠ 0 by decide)
  have h4 := Int.emod_lt_of_pos (IntKind.u64.wrap k) (show (0 : Int) < 9 by decide)
  refine ⟨_, rfl, ?_⟩
  rw [h2, IntWalk.wrap64_in _ (by omega)]
  omega
theorem No.heap {w w' : World} {p : Value} (h : No w p) (k : w'.heap = w.heap) : No w' p := by
  cases h with
  | nil => exact .nil
  | zero b h => exact .zero b (by rw [k]; exact h)
/-- What the rounds find: the deed, the two stores, the slice of them. -/
structure Nt (B0 B1 : Nat) (q : Int) (nm ot tx : ByteArray) (A : Option Addr) (n c : Nat) (a b : Int) (w : World) : Prop where
  dd : w.heap[B0]? = some (.cells (DA q nm ot tx A n c a b) 42 (0, 0))
  zero : w.heap[B1]? = some (.cells #[.map none] 50 (0, 0))
  list : w.heap[B1 + 1]? = some (.cells #[.pointer none, BP B1] 26 (0, 0))
theorem Nt.below {B0 B1 : Nat} {q : Int} {nm ot tx : ByteArray} {A : Option Addr} {n c : Nat} {a b : Int} {w w' : World} (h : Nt B0 B1 q nm ot tx A n c a b w) (k : Below w.heap.size w w') : Nt B0 B1 q nm ot tx A n c a b w' :=
  ⟨(k.block _ (lt_of_block h.dd)).trans h.dd, (k.block _ (lt_of_block h.zero)).trans h.zero, (k.block _ (lt_of_block h.list)).trans h.list⟩
theorem Nt.ptr {B0 B1 : Nat} {q : Int} {nm ot tx : ByteArray} {A : Option Addr} {n c : Nat} {a b : Int} {w : World} (h : Nt B0 B1 q nm ot tx A n c a b w) (j : Nat) (hj : j < 2) : ∃ p, No w p ∧ w.cell? ⟨B1 + 1, j, none⟩ = some p := by
  rcases (show j = 0 ∨ j = 1 by omega) with rfl | rfl
  · exact ⟨_, .nil, by simp [World.cell?, h.list]⟩
  · exact ⟨_, .zero B1 h.zero, by simp [World.cell?, h.list]⟩
def NtR (w : World) (B1 : Nat) (q : Int) (nm ot tx : ByteArray) (A : Option Addr) (n c : Nat) (a b : Int) (k : Nat) (i : Value) (wr : World) : Prop :=
  ∃ j : Nat, k + j = 2 ∧ i = .int .i64 j ∧ Nt w.heap.size B1 q nm ot tx A n c a b wr ∧ Below w.heap.size w wr
theorem below_like {B : Nat} {w w1 W : World} (h : Below B w w1) (h1 : W.heap = w1.heap) (h2 : W.os = w1.os) (h3 : W.tape = w1.tape) (h4 : W.output = w1.output) : Below B w W :=
  ⟨h2.trans h.os, h3.trans h.tape, h4.trans h.output, by rw [h1]; exact h.size, fun k hk => by rw [h1]; exact h.block k hk⟩
theorem no_do {p : Value} {w W : World} {k : Int} {nm ot tx : ByteArray} {A : Option Addr} {n c : Nat} {a b : Int} {ls : List Ln} (h : No w p) (hd : DdOk w ⟨k, nm, ot, tx, A, n, c, a, b, ls⟩) (q : Int) (hq : q = 0 ∨ q = 1 ∨ q = 2 ∨ q = 3 ∨ q = 4 ∨ q = 5 ∨ q = 6 ∨ q = 7 ∨ q = 8) (hW : Below w.heap.size w W) : Calls Try.prog 21 #[p, DV q nm ot tx A n c a b] W fun e w' => e = .returned (.int .i64 1) ∧ Below w.heap.size w w' :=
  (do_none (h.below hW) q nm ot tx A n c a b ls (hd.below hW).ls (fun _ _ h => h) (by have := hd.le; have := hd.cap; simp only at *; omega) hq).mono fun _ _ ⟨he, hb⟩ => ⟨he, hW.trans (hb.mono hW.size)⟩
theorem no_kind {p : Value} {w W : World} (h : No w p) (nm : ByteArray) (hW : Below w.heap.size w W) : Calls Try.prog 22 #[p, .string nm] W fun e w' => e = .returned (.int .i64 0) ∧ Below w.heap.size w w' :=
  (Kind_none (h.below hW) nm).mono fun _ _ ⟨he, hb⟩ => ⟨he, hW.trans (hb.mono hW.size)⟩
theorem cs_of {B0 B1 j : Nat} {p : Value} {q : Int} {nm ot tx : ByteArray} {A : Option Addr} {n c : Nat} {a b : Int} {w : World} (h : Nt B0 B1 q nm ot tx A n c a b w) (hp : w.cell? ⟨B1 + 1, j, none⟩ = some p) :
    w.cell? ⟨B1 + 1, j, none⟩ = some p ∧ w.cell? ⟨B0, 0, none⟩ = some (.int .i64 q) ∧ w.cell? ⟨B0, 1, none⟩ = some (.string nm) ∧ w.cell? ⟨B0, 2, none⟩ = some (.string ot) ∧ w.cell? ⟨B0, 3, none⟩ = some (.string tx) ∧ w.cell? ⟨B0, 4, none⟩ = some (.slice A n c) ∧ w.cell? ⟨B0, 5, none⟩ = some (.int .i64 a) ∧ w.cell? ⟨B0, 6, none⟩ = some (.int .i64 b) := by
  obtain ⟨h0, h1, h2, h3, h4, h5, h6, _⟩ := dd_cells h.dd
  exact ⟨hp, h0, h1, h2, h3, h4, h5, h6⟩
theorem cs_below {B0 B1 j : Nat} {p : Value} {q : Int} {nm ot tx : ByteArray} {A : Option Addr} {n c : Nat} {a b : Int} {w w' : World} {X : Prop} (h0 : w.cell? ⟨B1 + 1, j, none⟩ = some p ∧ X) (h : Nt B0 B1 q nm ot tx A n c a b w) (k : Below w.heap.size w w') :
    w'.cell? ⟨B1 + 1, j, none⟩ = some p ∧ w'.cell? ⟨B0, 0, none⟩ = some (.int .i64 q) ∧ w'.cell? ⟨B0, 1, none⟩ = some (.string nm) ∧ w'.cell? ⟨B0, 2, none⟩ = some (.string ot) ∧ w'.cell? ⟨B0, 3, none⟩ = some (.string tx) ∧ w'.cell? ⟨B0, 4, none⟩ = some (.slice A n c) ∧ w'.cell? ⟨B0, 5, none⟩ = some (.int .i64 a) ∧ w'.cell? ⟨B0, 6, none⟩ = some (.int .i64 b) :=
  cs_of (h.below k) ((k.cell (p := ⟨B1 + 1, j, none⟩) (lt_of_block h.list)).trans h0.1)
theorem nt_start {w w1 : World} {k q : Int} {nm ot tx : ByteArray} {A : Option Addr} {n c : Nat} {a b : Int} (hg : w1.heap[w.heap.size]? = some (.cells (DA k nm ot tx A n c a b) 42 (0, 0))) (hb : Below w.heap.size w w1) :
    Nt w.heap.size w1.heap.size q nm ot tx A n c a b (((w1.setCell ⟨w.heap.size, 0, none⟩ (.int .i64 q)).alloc (.cells #[.map none] 50)).alloc (.cells #[.pointer none, BP w1.heap.size] 26)) ∧ Below w.heap.size w (((w1.setCell ⟨w.heap.size, 0, none⟩ (.int .i64 q)).alloc (.cells #[.map none] 50)).alloc (.cells #[.pointer none, BP w1.heap.size] 26)) := by
  have hz : (w1.setCell ⟨w.heap.size, 0, none⟩ (.int .i64 q)).heap.size = w1.heap.size := by simp [World.setCell]
  obtain ⟨h1, h2, h3⟩ := two_alloc (w1.setCell ⟨w.heap.size, 0, none⟩ (.int .i64 q)) #[.map none] #[.pointer none, BP w1.heap.size] 50 26
  rw [hz] at h1 h2 h3
  have hs : Below w.heap.size w (w1.setCell ⟨w.heap.size, 0, none⟩ (.int .i64 q)) := hb.setCell (p := ⟨w.heap.size, 0, none⟩) (Nat.le_refl _) _
  refine ⟨⟨(h3.block _ (lt_of_block hg)).trans ?_, h1, h2⟩, hs.trans (h3.mono hb.size)⟩
  simp only [World.setCell, Array.getElem?_modify, hg]
  simp
set_option maxHeartbeats 8000000 in
theorem law_nothing {w : World} (k : Int) (nm ot tx : ByteArray) (A : Option Addr) (n c : Nat) (a b : Int) (ls : List Ln) (hd : DdOk w ⟨k, nm, ot, tx, A, n, c, a, b, ls⟩) :
    Calls Try.prog 6 #[DV k nm ot tx A n c a b] w fun e w' => e = .returned (.bool true) ∧ Below w.heap.size w w' := by
  have HD := Lib.hid hd
  clear hd
  go_enter Try.func6, Try.ntmps6
  go_wp2_with fail
  obtain ⟨hx0, hx1, hx2⟩ := two_alloc w (DA k nm ot tx A n c a b) (DA k nm ot tx A n c a b) 42 42
  have HX0 := Lib.hid hx0
  have HX2 := Lib.hid hx2
  refine (big_any (c := 1) _ 1 [⟨k, nm, ot, tx, A, n, c, a, b, ls⟩] rfl (by decide) (reads_one hx1) (fun d hd => by
    simp only [List.mem_cons, List.not_mem_nil, or_false] at hd
    subst hd
    exact HD.out.below hx2)).mono ?_
  rintro e w1 ⟨⟨t, rfl⟩, hb⟩
  have HB1 := Lib.hid (hx2.trans (hb.mono hx2.size))
  have hg := (hb.block _ (lt_of_block hx0)).trans hx0
  have HG := Lib.hid hg
  obtain ⟨c0, c1, c2, c3, c4, c5, c6, fz⟩ := dd_cells hg
  obtain ⟨q, hq, hq9⟩ := mod9 k
  have HQ9 := Lib.hid hq9
  clear hb hx0 hx1 hx2 hg hq9
  cases t with
  | true =>
    go_wp2_with fail
    refine (sane_any _).mono ?_
    rintro e w2 ⟨rfl, hb2⟩
    have HB2 := Lib.hid (HB1.out.trans (hb2.mono HB1.out.size))
    clear hb2
    go_wp2_with fail
    go_ret
    exact ⟨rfl, HB2.out⟩
  | false =>
    go_wp2_with fail
    trace_state
    clear hq
    go_loopg [5] 2 (fun k i wr => NtR w w1.heap.size q nm ot tx A n c a b k i wr)
    case atStart => exact ⟨0, rfl, rfl, (nt_start HG.out HB1.out).1, (nt_start HG.out HB1.out).2⟩
    case round =>
      obtain ⟨j, hk, rfl, hh, hb⟩ := hrel
      have HK := Lib.hid hk
      have HB := Lib.hid hb
      by_cases hj : j < 2
      · have dj : decide ((j : Int) < 2) = true := decide_eq_true (by omega)
        obtain ⟨p, hp, cp⟩ := hh.ptr j hj
        have hd := dd_cells hh.dd
        obtain ⟨e0, e1, e2, e3, e4, e5, e6, _⟩ := hd
        have HH := Lib.hid hh
        have hj0 : (0 : Int) ≤ (j : Int) := by omega
        have hj2 : (j : Int) < 2 := by omega
        have HT := Lib.hid (fun (W : World) (hW : W.heap = wr.heap) => Text_none (hp.heap hW) nm)
        have HL := Lib.hid (fun (W : World) (hW : W.heap = wr.heap) => Lines_none (hp.heap hW) nm)
        have HG2 := Lib.hid (fun (W : World) (hW : W.heap = wr.heap) => Length_none (hp.heap hW) nm)
        have HJ := Lib.hid hj
        have HP := Lib.hid hp
        have HCP := Lib.hid cp
        clear hk hb hj hh hp c0 c1 c2 c3 c4 c5 c6 fz
        go_wp2_with fail
        go_quiet (first | (go_at_call 13; exact (HT.out (wr.drewN _) rfl).mono fun _ _ ⟨he, hm⟩ => ⟨he, _, hm.symm⟩))
        go_wp2_with fail
        go_quiet (first | (go_at_call 17; exact (HL.out (wr.drewN _) rfl).mono fun _ _ ⟨he, hm⟩ => ⟨he, _, hm.symm⟩))
        go_wp2_with fail
        go_quiet (first | (go_at_call 25; exact (HG2.out (wr.drewN _) rfl).mono fun _ _ ⟨he, hm⟩ => ⟨he, _, hm.symm⟩))
        go_wp2_with fail
        generalize hW5 : wr.drewN _ = w5
        have hb5 : Below wr.heap.size wr w5 := by rw [← hW5]; exact ⟨rfl, rfl, rfl, Nat.le_refl _, fun _ _ => rfl⟩
        have hh5 := HH.out.below hb5
        have hp5 := HP.out.below hb5
        have hcp := (hb5.cell (p := ⟨w1.heap.size + 1, j, none⟩) (lt_of_block HH.out.list)).trans HCP.out
        have HB5 := Lib.hid (HB.out.trans (hb5.mono HB.out.size))
        have HH5 := Lib.hid hh5
        have HDo := Lib.hid (fun (W : World) (h1 : W.heap = w5.heap) (h2 : W.os = w5.os) (h3 : W.tape = w5.tape) (h4 : W.output = w5.output) => no_do hp5 (HD.out.below HB5.out) q HQ9.out (below_like (Below.refl _ w5) h1 h2 h3 h4))
        have HKd := Lib.hid (fun (w6 W : World) (k6 : Below w5.heap.size w5 w6) (h1 : W.heap = w6.heap) (h2 : W.os = w6.os) (h3 : W.tape = w6.tape) (h4 : W.output = w6.output) => no_kind hp5 nm (below_like k6 h1 h2 h3 h4))
        have HNm := Lib.hid (fun (w6 W : World) (k6 : Below w5.heap.size w5 w6) (h1 : W.heap = w6.heap) => Names_none ((hp5.below k6).heap h1))
        have HCy := Lib.hid (fun (w6 W : World) (k6 : Below w5.heap.size w5 w6) (h1 : W.heap = w6.heap) => Copy_none ((hp5.below k6).heap h1))
        have cs := cs_of hh5 hcp
        obtain ⟨g0, g1, g2, g3, g4, g5, g6, g7⟩ := cs
        have CS := Lib.hid (cs_of hh5 hcp)
        clear hW5 hb5 hh5 hp5 hcp e0 e1 e2 e3 e4 e5 e6 cp
        go_region_held3 (fun w' => w'.cell? ⟨w1.heap.size + 1, j, none⟩ = some p ∧ w'.cell? ⟨w.heap.size, 0, none⟩ = some (.int .i64 q) ∧ w'.cell? ⟨w.heap.size, 1, none⟩ = some (.string nm) ∧ w'.cell? ⟨w.heap.size, 2, none⟩ = some (.string ot) ∧ w'.cell? ⟨w.heap.size, 3, none⟩ = some (.string tx) ∧ w'.cell? ⟨w.heap.size, 4, none⟩ = some (.slice A n c) ∧ w'.cell? ⟨w.heap.size, 5, none⟩ = some (.int .i64 a) ∧ w'.cell? ⟨w.heap.size, 6, none⟩ = some (.int .i64 b)) (first | exact csB | exact csA | exact CS.out | go_keep)
          (first
          | (go_at_call 21; refine (HDo.out _ ?_ ?_ ?_ ?_).mono ?_
             · rfl
             · rfl
             · rfl
             · rfl
             rintro e w6 ⟨rfl, hb6⟩
             have HB6 := Lib.hid hb6
             have csA := cs_below CS.out HH5.out hb6
             clear hb6)
          | (go_at_call 22; refine (HKd.out w6 _ HB6.out ?_ ?_ ?_ ?_).mono ?_
             · rfl
             · rfl
             · rfl
             · rfl
             rintro e w7 ⟨rfl, hb7⟩
             have HB7 := Lib.hid hb7
             have csB := cs_below CS.out HH5.out hb7
             clear hb7)
          | (go_at_call 26; refine (HNm.out w7 _ HB7.out ?_).mono ?_
             · rfl
             rintro e w8 ⟨rfl, rfl⟩)
          | (go_at_call 27; refine (HCy.out w7 _ HB7.out ?_).mono ?_
             · rfl
             rintro e w9 ⟨rfl, rfl⟩))
        all_goals
          go_wp2_with fail
          go_roundg (gk - 1)
          case measure => have := HK.out; have := HJ.out; omega
          case rel =>
            have := HK.out
            have := HJ.out
            exact ⟨j + 1, by omega, by first | go_num | (congr 1; rw [IntWalk.wrap64_in _ (by omega)]; omega), HH5.out.below HB7.out, HB5.out.trans (HB7.out.mono HB5.out.size)⟩
      · have dj : decide ((j : Int) < 2) = false := decide_eq_false (by omega)
        clear hk hb hj hh c0 c1 c2 c3 c4 c5 c6 fz
        go_wp2_with fail
        refine (sane_any _).mono ?_
        rintro e w2 ⟨rfl, hb2⟩
        have HB2 := Lib.hid (HB.out.trans (hb2.mono HB.out.size))
        clear hb2
        go_wp2_with fail
        go_ret
        exact ⟨rfl, HB2.out⟩
end Go.Proofs.Ytgpanlkcpnlejaa
