/- The code's conditions: the name that is cut off. -/
import Derived.Test.YtnffmlfapccgkaaDoorZ1
namespace Go.Proofs.YtnffmlfapccgkaaDoor
open Go.RowKit Go.Shelf
set_option maxRecDepth 100000
set_option linter.unusedSimpArgs false
set_option linter.unusedVariables false
/-- Blocks but for some stay. -/
structure But (S : Nat → Prop) (w w' : World) : Prop where
  os : w'.os = w.os
  tape : w'.tape = w.tape
  output : w'.output = w.output
  size : w.heap.size ≤ w'.heap.size
  block : ∀ k, k < w.heap.size → ¬ S k → w'.heap[k]? = w.heap[k]?
theorem But.of {S : Nat → Prop} {w w' : World} (h : Below w.heap.size w w') : But S w w' := ⟨h.os, h.tape, h.output, h.size, fun k hk _ => h.block k hk⟩
theorem But.trans {S : Nat → Prop} {u v w : World} (h : But S u v) (k : But S v w) : But S u w :=
  ⟨k.os.trans h.os, k.tape.trans h.tape, k.output.trans h.output, Nat.le_trans h.size k.size, fun i hi hs => (k.block i (Nat.lt_of_lt_of_le hi h.size) hs).trans (h.block i hi hs)⟩
theorem But.set {S : Nat → Prop} {u w : World} (h : But S u w) {g k : Nat} (hg : S g) (x : Value) : But S u (w.setCell ⟨g, k, none⟩ x) :=
  h.trans ⟨rfl, rfl, rfl, by rw [set_size]; exact Nat.le_refl _, fun i hi hs => Below.heap_setCell _ _ _ _ (by first | (intro e; dsimp only at e; subst e; exact hs hg) | (intro e; dsimp only at e; rw [e] at hg; exact hs hg))⟩
theorem But.to {S : Nat → Prop} {w w' : World} {B : Nat} (h : But S w w') (hB : B ≤ w.heap.size) (hS : ∀ k, S k → B ≤ k) : Below B w w' :=
  ⟨h.os, h.tape, h.output, h.size, fun k hk => h.block k (by omega) (fun hs => by have := hS k hs; omega)⟩
theorem set_ne {w : World} {g k b : Nat} (h : b ≠ g) (x : Value) : (w.setCell ⟨g, k, none⟩ x).heap[b]? = w.heap[b]? := Below.heap_setCell w (⟨g, k, none⟩ : Addr) x b (by first | exact h | exact Ne.symm h)
theorem blk1 {w : World} {g : Nat} {c0 : Value} {t : TypeId} (h : w.heap[g]? = some (.cells #[c0] t (0, 0))) : w.cell? ⟨g, 0, none⟩ = some c0 ∧ w.frozen? ⟨g, 0, none⟩ = false := by
  refine ⟨?_, ?_⟩ <;> simp [World.cell?, World.frozen?, h]
theorem blk6 {w : World} {g : Nat} {c0 c1 c2 c3 c4 c5 : Value} {t : TypeId} (h : w.heap[g]? = some (.cells #[c0, c1, c2, c3, c4, c5] t (0, 0))) : (w.cell? ⟨g, 0, none⟩ = some c0 ∧ w.cell? ⟨g, 1, none⟩ = some c1 ∧ w.cell? ⟨g, 2, none⟩ = some c2 ∧ w.cell? ⟨g, 3, none⟩ = some c3 ∧ w.cell? ⟨g, 4, none⟩ = some c4 ∧ w.cell? ⟨g, 5, none⟩ = some c5) ∧
    (w.frozen? ⟨g, 0, none⟩ = false ∧ w.frozen? ⟨g, 1, none⟩ = false ∧ w.frozen? ⟨g, 2, none⟩ = false ∧ w.frozen? ⟨g, 3, none⟩ = false ∧ w.frozen? ⟨g, 4, none⟩ = false ∧ w.frozen? ⟨g, 5, none⟩ = false) := by
  refine ⟨⟨?_, ?_, ?_, ?_, ?_, ?_⟩, ⟨?_, ?_, ?_, ?_, ?_, ?_⟩⟩ <;> simp [World.cell?, World.frozen?, h]
/-- What the cutting of a name leaves. -/
def CnP (R C : Nat) (l : List UInt8) (c0 c1 c3 c4 c5 : Value) (w : World) (e : Ending) (w' : World) : Prop :=
  e = .returned (.bool (!(decide ((cutB l).1 = [])))) ∧ w'.heap[R]? = some (.cells #[.string (bs (cutB l).2)] 9 (0, 0)) ∧ w'.heap[C]? = some (.cells #[c0, c1, .string (bs (cutB l).1), c3, c4, c5] 33 (0, 0)) ∧ But (fun k => k = R ∨ k = C) w w'
set_option maxHeartbeats 2000000 in
theorem cutName_any (R C : Nat) (l : List UInt8) (hl : l.length ≤ 100000) (c0 c1 c2 c3 c4 c5 : Value) (w : World) (hR : w.heap[R]? = some (.cells #[.string (bs l)] 9 (0, 0))) (hC : w.heap[C]? = some (.cells #[c0, c1, c2, c3, c4, c5] 33 (0, 0))) (hne : R ≠ C) :
    Calls Tryd.prog 31 #[.pointer (some ⟨R, 0, none⟩), .pointer (some ⟨C, 0, none⟩)] w (CnP R C l c0 c1 c3 c4 c5 w) := by
  have HT := Lib.hid (cutAt_any (bs l) (by rw [bs_size]; omega) w)
  rw [bs_list] at HT
  obtain ⟨k0, _⟩ := blk1 hR
  have HR := Lib.hid hR
  have HC := Lib.hid hC
  have hRl := (Array.getElem?_eq_some_iff.1 hR).1
  have hCl := (Array.getElem?_eq_some_iff.1 hC).1
  unfold CnP
  obtain ⟨a, ha⟩ : ∃ a, a = (cutB l).1 := ⟨_, rfl⟩
  obtain ⟨b, hb⟩ : ∃ b, b = (cutB l).2 := ⟨_, rfl⟩
  rw [← ha, ← hb] at HT ⊢
  have HN := Lib.hid hne
  have hemp : (bs a).toList.isEmpty = decide (a = []) := by rw [Lib.toList_data, bs_list]; cases a <;> simp
  have hemp2 : (bs a).toList = a := by rw [Lib.toList_data, bs_list]
  clear ha hb hR hC
  cases hd : decide (a = []) with
  | true =>
    have e1 : (bs a).toList.isEmpty = true := by rw [hemp, hd]
    have e2 : (bs a).toList = [] := by rw [hemp2]; exact of_decide_eq_true hd
    clear hemp hemp2 hd
    go_enter Tryd.func31, Tryd.ntmps31
    go_wp2_with fail
    refine HT.out.mono ?_
    rintro e w1 ⟨rfl, hb1⟩
    have hR1 := (hb1.block R hRl).trans HR.out
    have hC1 := (hb1.block C hCl).trans HC.out
    obtain ⟨m0, n0⟩ := blk1 hR1
    obtain ⟨⟨x0, x1, x2, x3, x4, x5⟩, ⟨y0, y1, y2, y3, y4, y5⟩⟩ := blk6 hC1
    have HR1 := Lib.hid hR1
    have HC1 := Lib.hid hC1
    have HB1 := Lib.hid hb1
    clear hR1 hC1 hb1
    go_wp2_with fail
    go_ret
    refine ⟨rfl, ?_, ?_, ?_⟩
    · exact set_at (k := 0) _ ((set_ne HN.out _).trans HR1.out)
    · exact (set_ne (Ne.symm HN.out) _).trans (set_at (k := 2) _ HC1.out)
    · exact ((But.of HB1.out).set (.inr rfl) _).set (.inl rfl) _
  | false =>
    have e1 : (bs a).toList.isEmpty = false := by rw [hemp, hd]
    have e2 : ¬ (bs a).toList = [] := by rw [hemp2]; exact of_decide_eq_false hd
    clear hemp hemp2 hd
    go_enter Tryd.func31, Tryd.ntmps31
    go_wp2_with fail
    refine HT.out.mono ?_
    rintro e w1 ⟨rfl, hb1⟩
    have hR1 := (hb1.block R hRl).trans HR.out
    have hC1 := (hb1.block C hCl).trans HC.out
    obtain ⟨m0, n0⟩ := blk1 hR1
    obtain ⟨⟨x0, x1, x2, x3, x4, x5⟩, ⟨y0, y1, y2, y3, y4, y5⟩⟩ := blk6 hC1
    have HR1 := Lib.hid hR1
    have HC1 := Lib.hid hC1
    have HB1 := Lib.hid hb1
    clear hR1 hC1 hb1
    go_wp2_with fail
    go_ret
    refine ⟨rfl, ?_, ?_, ?_⟩
    · exact set_at (k := 0) _ ((set_ne HN.out _).trans HR1.out)
    · exact (set_ne (Ne.symm HN.out) _).trans (set_at (k := 2) _ HC1.out)
    · exact ((But.of HB1.out).set (.inr rfl) _).set (.inl rfl) _
/-- Exclamation marks taken off. -/
def exN (l : List UInt8) : List UInt8 := l.dropWhile (· == 33)
def noC (k : Int) : Value := .tuple #[.agg #[.bool false, .int .u8 0, .string ⟨#[]⟩, .string ⟨#[]⟩, .string ⟨#[]⟩, .string ⟨#[]⟩], .int .i64 k]
def okC (nt : Bool) (k : UInt8) (nm lf rt rs : List UInt8) : Value := .tuple #[.agg #[.bool nt, .int .u8 (k.toNat : Int), .string (bs nm), .string (bs lf), .string (bs rt), .string (bs (skB rs))], .int .i64 0]
def ntS (l : List UInt8) : Bool := ((skB l).length - (exN (skB l)).length) % 2 == 1
/-- A condition behind its marks. -/
def cnR (nt : Bool) : List UInt8 → Value
  | [] => noC 4
  | c :: t => if bl c then noC 4 else if c = 100 ∨ c = 114 then (if (cutB t).1 = [] then noC 4 else okC nt c (cutB t).1 [] [] (cutB t).2) else if inA c then okC nt c [] [] [] t
    else if ld c || inB c then okC nt 120 (cutB (c :: t)).1 [] [] (cutB (c :: t)).2 else match cutT c t with
      | none => noC 4
      | some (x, y, r) => okC nt 39 [] x y r
def condV (l : List UInt8) : Value := if okTx l then cnR (ntS l) (exN (skB l)) else noC 1
theorem exN_le (l : List UInt8) : (exN l).length ≤ l.length := (List.dropWhile_sublist _).length_le
abbrev zC : Array Value := #[.bool false, .int .u8 0, .string ⟨#[]⟩, .string ⟨#[]⟩, .string ⟨#[]⟩, .string ⟨#[]⟩]
theorem cond_end {F : Func} {a : Act} {W' : World} {t u g : Nat} {c0 c1 c2 c3 c4 c5 x : Value} {Q : Ending → World → Prop} (hF : F.results = #[.cell t 33, .tmp u]) (hd : a.defers = []) (h2 : a.tmps.getD t undef = .pointer (some ⟨g, 0, none⟩)) (h3 : a.tmps.getD u undef = x)
    (hg : W'.heap[g]? = some (.cells #[c0, c1, c2, c3, c4, c5] 33 (0, 0))) (hQ : Q (.returned (.tuple #[.agg #[c0, c1, c2, c3, c4, c5], x])) W') : bodyPost Tryd.prog F Q Exit.ret a W' := by
  have h2' : a.tmps[t]?.getD undef = .pointer (some ⟨g, 0, none⟩) := by simpa using h2
  have h3' : a.tmps[u]?.getD undef = x := by simpa using h3
  obtain ⟨⟨e0, e1, e2, e3, e4, e5⟩, _⟩ := blk6 hg
  refine bodyPost_ret (v := .tuple #[.agg #[c0, c1, c2, c3, c4, c5], x]) ?_ hd hQ
  simp [results, hF, h2', h3', go_sem, e0, e1, e2, e3, e4, e5]
theorem trim33 (s : ByteArray) (w : World) : Calls Tryd.prog 29 #[.string s, .string ⟨#[33]⟩] w fun e w' => e = .returned (.string (bs (exN s.data.toList))) ∧ w = w' :=
  (Tryd.strings_TrimLeft_one s 33 (by decide) w).mono fun _ _ ⟨h, k⟩ => ⟨h, k.symm⟩
theorem cond_bad (l : List UInt8) (h : okTx l = false) (w : World) : Calls Tryd.prog 17 #[.string (bs l)] w fun e w' => e = .returned (condV l) ∧ Below w.heap.size w w' := by
  have HV := Lib.hid (fun W => validText_any (bs l) W)
  rw [bs_list, h] at HV
  have HE := Lib.hid (heap_alloc_new w (.cells zC 33))
  have HB := Lib.hid (bel0 w (.cells zC 33))
  have HQ := Lib.hid (show condV l = noC 1 by unfold condV; rw [h]; rfl)
  rw [HQ.out]
  clear h HQ
  go_enter Tryd.func17, Tryd.ntmps17
  go_wp2_with fail
  refine (HV.out _).mono ?_
  rintro e w1 ⟨rfl, hw⟩
  rw [← hw]
  clear hw
  go_wp2_with fail
  exact cond_end (t := 2) (u := 3) (g := w.heap.size) rfl rfl rfl rfl HE.out ⟨rfl, HB.out⟩
/-- Six cells of a block, written. -/
def put6 (w : World) (g : Nat) (c0 c1 c2 c3 c4 c5 : Value) : World := (((((w.setCell ⟨g, 0, none⟩ c0).setCell ⟨g, 1, none⟩ c1).setCell ⟨g, 2, none⟩ c2).setCell ⟨g, 3, none⟩ c3).setCell ⟨g, 4, none⟩ c4).setCell ⟨g, 5, none⟩ c5
theorem put6_far {w : World} {g : Nat} {c0 c1 c2 c3 c4 c5 : Value} {k : Nat} (hk : k ≠ g) : (put6 w g c0 c1 c2 c3 c4 c5).heap[k]? = w.heap[k]? := by
  unfold put6
  rw [set_ne hk, set_ne hk, set_ne hk, set_ne hk, set_ne hk, set_ne hk]
theorem put6_at {w : World} {g : Nat} {d0 d1 d2 d3 d4 d5 c0 c1 c2 c3 c4 c5 : Value} {t : TypeId} (h : w.heap[g]? = some (.cells #[d0, d1, d2, d3, d4, d5] t (0, 0))) : (put6 w g c0 c1 c2 c3 c4 c5).heap[g]? = some (.cells #[c0, c1, c2, c3, c4, c5] t (0, 0)) := by
  have h1 := set_at (k := 0) c0 h
  have h2 := set_at (k := 1) c1 h1
  have h3 := set_at (k := 2) c2 h2
  have h4 := set_at (k := 3) c3 h3
  have h5 := set_at (k := 4) c4 h4
  have h6 := set_at (k := 5) c5 h5
  exact h6
theorem put6_bel {B : Nat} {u w : World} {g : Nat} {c0 c1 c2 c3 c4 c5 : Value} (h : Below B u w) (hg : B ≤ g) : Below B u (put6 w g c0 c1 c2 c3 c4 c5) :=
  set_bel (set_bel (set_bel (set_bel (set_bel (set_bel h hg c0) hg c1) hg c2) hg c3) hg c4) hg c5
theorem inA_x (c : UInt8) (h : inA c = true) : c ≠ 120 ∧ c ≠ 39 := by
  constructor
  · rintro rfl; exact absurd h (by decide)
  · rintro rfl; exact absurd h (by decide)
theorem kd_ne (c d : UInt8) (h : c ≠ d) : ((c.toNat : Int) == (d.toNat : Int)) = false := nb c d h
theorem cn_bl (nt : Bool) (c : UInt8) (t : List UInt8) (h : bl c = true) : cnR nt (c :: t) = noC 4 ∧ kdS (c :: t) = 120 ∧ (cutB (c :: t)).1 = [] := by
  refine ⟨by simp [cnR, h], by simp [kdS, h], by simp [cutB, h]⟩
theorem cn_d (nt : Bool) (c : UInt8) (t : List UInt8) (h : bl c = false) (hd : c = 100 ∨ c = 114) : cnR nt (c :: t) = (if (cutB t).1 = [] then noC 4 else okC nt c (cutB t).1 [] [] (cutB t).2) ∧ kdS (c :: t) = c := by
  have hA : inA c = true := by rcases hd with rfl | rfl <;> decide
  refine ⟨?_, by simp [kdS, h, hA]⟩
  show (if bl c then noC 4 else if c = 100 ∨ c = 114 then _ else _) = _
  rw [if_neg (by simp [h]), if_pos hd]
theorem cn_o (nt : Bool) (c : UInt8) (t : List UInt8) (h : bl c = false) (hd : ¬ (c = 100 ∨ c = 114)) (hA : inA c = true) : cnR nt (c :: t) = okC nt c [] [] [] t ∧ kdS (c :: t) = c := by
  refine ⟨?_, by simp [kdS, h, hA]⟩
  show (if bl c then noC 4 else if c = 100 ∨ c = 114 then _ else if inA c then _ else _) = _
  rw [if_neg (by simp [h]), if_neg hd, if_pos hA]
theorem not_d {c : UInt8} (hA : inA c = false) : ¬ (c = 100 ∨ c = 114) := by
  rintro (rfl | rfl)
  · exact absurd hA (by decide)
  · exact absurd hA (by decide)
theorem cn_x (nt : Bool) (c : UInt8) (t : List UInt8) (h : bl c = false) (hA : inA c = false) (hx : (ld c || inB c) = true) : cnR nt (c :: t) = okC nt 120 (cutB (c :: t)).1 [] [] (cutB (c :: t)).2 ∧ kdS (c :: t) = 120 ∧ (cutB (c :: t)).1 ≠ [] := by
  refine ⟨?_, ?_, by simp [cutB, h]⟩
  · show (if bl c then noC 4 else if c = 100 ∨ c = 114 then _ else if inA c then _ else if ld c || inB c then _ else _) = _
    rw [if_neg (by simp [h]), if_neg (not_d hA), if_neg (by simp [hA]), if_pos hx]
  · show (if bl c then (120 : UInt8) else if inA c then c else if ld c then 120 else if inB c then 120 else 39) = 120
    rw [if_neg (by simp [h]), if_neg (by simp [hA])]
    split
    · rfl
    · rename_i hl
      rw [if_pos (by simpa [hl] using hx)]
theorem cn_q (nt : Bool) (c : UInt8) (t : List UInt8) (h : bl c = false) (hA : inA c = false) (hx : (ld c || inB c) = false) : cnR nt (c :: t) = (match cutT c t with
      | none => noC 4
      | some (x, y, r) => okC nt 39 [] x y r) ∧ kdS (c :: t) = 39 := by
  refine ⟨?_, ?_⟩
  · show (if bl c then noC 4 else if c = 100 ∨ c = 114 then _ else if inA c then _ else if ld c || inB c then _ else _) = _
    rw [if_neg (by simp [h]), if_neg (not_d hA), if_neg (by simp [hA]), if_neg (by simp [hx])]
  · rw [Bool.or_eq_false_iff] at hx
    show (if bl c then (120 : UInt8) else if inA c then c else if ld c then 120 else if inB c then 120 else 39) = 39
    rw [if_neg (by simp [h]), if_neg (by simp [hA]), if_neg (by simp [hx.1]), if_neg (by simp [hx.2])]
theorem but_zero {w W5 W6 : World} {B R : Nat} {o : Obj} (h : But (fun k => k = R ∨ k = R + 1) W5 W6) (hB : W5.heap[B]? = some o) (hlt : B < R) (hb : Below B w W5) : W6.heap[B]? = some o ∧ Below B w W6 := by
  have hz := (Array.getElem?_eq_some_iff.1 hB).1
  have h1 : W6.heap[B]? = some o := (h.block B hz (fun e => by rcases e with e | e <;> omega)).trans hB
  have h2 : Below B W5 W6 := h.to (Nat.le_of_lt hz) (fun k e => by rcases e with e | e <;> omega)
  exact ⟨h1, hb.trans h2⟩
end Go.Proofs.YtnffmlfapccgkaaDoor
