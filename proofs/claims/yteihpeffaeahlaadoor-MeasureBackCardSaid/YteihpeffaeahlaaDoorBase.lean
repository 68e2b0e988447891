/- The plain mathematics of layer 1's numbers and expressions, and how the reader lies in memory. -/
import Derived.WalkKit
import Derived.Below
import Derived.Deep.QuietTactic
namespace Go.Proofs.YteihpeffaeahlaaDoor
open Go.RowKit

/-- Of the blocks that were there, block b alone may have turned. -/
structure Own (b : Nat) (w w' : World) : Prop where
  os : w'.os = w.os
  tape : w'.tape = w.tape
  output : w'.output = w.output
  size : w.heap.size ≤ w'.heap.size
  block : ∀ k, k < w.heap.size → k ≠ b → w'.heap[k]? = w.heap[k]?

theorem Own.refl (b : Nat) (w : World) : Own b w w := ⟨rfl, rfl, rfl, Nat.le_refl _, fun _ _ _ => rfl⟩
theorem Own.trans {b : Nat} {u v w : World} (h : Own b u v) (k : Own b v w) : Own b u w :=
  ⟨k.os.trans h.os, k.tape.trans h.tape, k.output.trans h.output, Nat.le_trans h.size k.size, fun i hi hb => (k.block i (Nat.lt_of_lt_of_le hi h.size) hb).trans (h.block i hi hb)⟩
theorem Own.drewN {b : Nat} {u w : World} (h : Own b u w) (n : Nat) : Own b u (w.drewN n) := ⟨h.os, h.tape, h.output, h.size, h.block⟩
theorem Own.drew {b : Nat} {u w : World} (h : Own b u w) : Own b u w.drew := ⟨h.os, h.tape, h.output, h.size, h.block⟩
theorem Own.setCell {b : Nat} {u w : World} (h : Own b u w) (o : Nat) (v : Value) : Own b u (w.setCell ⟨b, o, none⟩ v) :=
  h.trans ⟨rfl, rfl, rfl, by simp [World.setCell], fun k _ hb => Below.heap_setCell _ _ _ _ hb⟩
theorem Own.alloc {b : Nat} {u w : World} (h : Own b u w) (o : Obj) : Own b u (w.alloc o) :=
  h.trans ⟨rfl, rfl, rfl, by simp, fun k hk _ => Below.heap_alloc _ _ _ hk⟩
theorem Own.below {b B : Nat} {u w w' : World} (h : Own b u w) (k : Below B w w') (hB : w.heap.size ≤ B) : Own b u w' :=
  h.trans ⟨k.os, k.tape, k.output, k.size, fun i hi _ => k.block i (by omega)⟩
theorem Own.toBelow {b : Nat} {w w' : World} (h : Own b w w') (hB : b ≤ w.heap.size) : Below b w w' :=
  ⟨h.os, h.tape, h.output, h.size, fun i hi => h.block i (by omega) (by omega)⟩
theorem Own.cell {b : Nat} {w w' : World} (h : Own b w w') {p : Addr} (hp : p.block < w.heap.size) (hb : p.block ≠ b) : w'.cell? p = w.cell? p := World.cell?_of_block (w := w) (h.block p.block hp hb)
theorem Own.frozen {b : Nat} {w w' : World} (h : Own b w w') {p : Addr} (hp : p.block < w.heap.size) (hb : p.block ≠ b) : w'.frozen? p = w.frozen? p := World.frozen?_of_block (w := w) (h.block p.block hp hb)

/-- What the reader keeps: its text, the scale, the context, and whether the form alone is asked. -/
structure RS where
  s : ByteArray
  sc : UInt8
  sz : Int
  vs : Int
  hr : Int
  fm : Bool

def RS.l (r : RS) : List UInt8 := r.s.data.toList

/-- The reader as it lies in memory. -/
def rdObj (T : Nat) (r : RS) (p dp wh : Nat) : Obj :=
  .cells #[.string r.s, .int .i64 p, .int .u8 r.sc.toNat, .int .i64 r.sz, .int .i64 r.vs, .int .i64 r.hr, .int .i64 dp, .int .i64 wh, .bool r.fm] T (0, 0)

/-- The reader lies in block b. -/
def Has (T b : Nat) (r : RS) (p dp wh : Nat) (w : World) : Prop := w.heap[b]? = some (rdObj T r p dp wh)

section
variable {T b : Nat} {r : RS} {p dp wh : Nat} {w : World}
theorem Has.c0 (h : Has T b r p dp wh w) : w.cell? ⟨b, 0, none⟩ = some (.string r.s) := by simp [World.cell?, show w.heap[b]? = _ from h, rdObj]
theorem Has.c1 (h : Has T b r p dp wh w) : w.cell? ⟨b, 1, none⟩ = some (.int .i64 p) := by simp [World.cell?, show w.heap[b]? = _ from h, rdObj]
theorem Has.c2 (h : Has T b r p dp wh w) : w.cell? ⟨b, 2, none⟩ = some (.int .u8 r.sc.toNat) := by simp [World.cell?, show w.heap[b]? = _ from h, rdObj]
theorem Has.c3 (h : Has T b r p dp wh w) : w.cell? ⟨b, 3, none⟩ = some (.int .i64 r.sz) := by simp [World.cell?, show w.heap[b]? = _ from h, rdObj]
theorem Has.c4 (h : Has T b r p dp wh w) : w.cell? ⟨b, 4, none⟩ = some (.int .i64 r.vs) := by simp [World.cell?, show w.heap[b]? = _ from h, rdObj]
theorem Has.c5 (h : Has T b r p dp wh w) : w.cell? ⟨b, 5, none⟩ = some (.int .i64 r.hr) := by simp [World.cell?, show w.heap[b]? = _ from h, rdObj]
theorem Has.c6 (h : Has T b r p dp wh w) : w.cell? ⟨b, 6, none⟩ = some (.int .i64 dp) := by simp [World.cell?, show w.heap[b]? = _ from h, rdObj]
theorem Has.c7 (h : Has T b r p dp wh w) : w.cell? ⟨b, 7, none⟩ = some (.int .i64 wh) := by simp [World.cell?, show w.heap[b]? = _ from h, rdObj]
theorem Has.c8 (h : Has T b r p dp wh w) : w.cell? ⟨b, 8, none⟩ = some (.bool r.fm) := by simp [World.cell?, show w.heap[b]? = _ from h, rdObj]
theorem Has.fz (h : Has T b r p dp wh w) (o : Nat) : w.frozen? ⟨b, o, none⟩ = false := by simp [World.frozen?, show w.heap[b]? = _ from h, rdObj]
theorem Has.lt (h : Has T b r p dp wh w) : b < w.heap.size := (Array.getElem?_eq_some_iff.1 (show w.heap[b]? = _ from h)).1
theorem Has.drewN (h : Has T b r p dp wh w) (n : Nat) : Has T b r p dp wh (w.drewN n) := h
theorem Has.drew (h : Has T b r p dp wh w) : Has T b r p dp wh w.drew := h
theorem Has.alloc (h : Has T b r p dp wh w) (o : Obj) : Has T b r p dp wh (w.alloc o) := by
  show (w.alloc o).heap[b]? = _; rw [Below.heap_alloc _ _ _ h.lt]; exact h
theorem Has.own {w' : World} (h : Has T b r p dp wh w) {c : Nat} (k : Own c w w') (hc : b ≠ c) : Has T b r p dp wh w' := (k.block b h.lt hc).trans h
theorem Has.below {w' : World} (h : Has T b r p dp wh w) {B : Nat} (k : Below B w w') (hB : b < B) : Has T b r p dp wh w' := (k.block b hB).trans h
theorem Has.set1 (h : Has T b r p dp wh w) (q : Nat) : Has T b r q dp wh (w.setCell ⟨b, 1, none⟩ (.int .i64 q)) := by
  show (w.setCell _ _).heap[b]? = _
  simp [World.setCell, Array.getElem?_modify, show w.heap[b]? = _ from h, rdObj]
theorem Has.set6 (h : Has T b r p dp wh w) (q : Nat) : Has T b r p q wh (w.setCell ⟨b, 6, none⟩ (.int .i64 q)) := by
  show (w.setCell _ _).heap[b]? = _
  simp [World.setCell, Array.getElem?_modify, show w.heap[b]? = _ from h, rdObj]
theorem Has.set7 (h : Has T b r p dp wh w) (q : Nat) : Has T b r p dp q (w.setCell ⟨b, 7, none⟩ (.int .i64 q)) := by
  show (w.setCell _ _).heap[b]? = _
  simp [World.setCell, Array.getElem?_modify, show w.heap[b]? = _ from h, rdObj]
end

theorem byte_at (s : ByteArray) (k : Nat) (h : k < s.size) : s.data.toList[k]? = some s[k] := by
  rw [List.getElem?_eq_getElem (by simpa using h)]; rfl
theorem byte_none (s : ByteArray) (k : Nat) (h : s.size ≤ k) : s.data.toList[k]? = none := by
  rw [List.getElem?_eq_none]; simpa using h

/- Digits and numbers. -/
def isDg (c : UInt8) : Bool := decide (48 ≤ c.toNat ∧ c.toNat ≤ 57)
def dg (l : List UInt8) (i : Nat) : Bool := match l[i]? with | some c => isDg c | none => false
def cnt (l : List UInt8) : Nat → Nat → Nat
  | 0, _ => 0
  | n + 1, p => if dg l p then cnt l n (p + 1) + 1 else 0
def dgv (l : List UInt8) (i : Nat) : Nat := (l[i]?.getD 48).toNat - 48
def dval (l : List UInt8) (p : Nat) : Nat → Nat
  | 0 => 0
  | k + 1 => dval l p k * 10 + dgv l (p + k)

theorem dgv_le {l : List UInt8} {i : Nat} (h : dg l i = true) : dgv l i ≤ 9 := by
  unfold dg at h; unfold dgv
  cases e : l[i]? with
  | none => simp
  | some c => simp [e, isDg] at h; simp; omega
theorem dval_lt (l : List UInt8) (p k : Nat) (h : ∀ i, i < k → dg l (p + i) = true) : dval l p k < 10 ^ k := by
  induction k with
  | zero => simp [dval]
  | succ k ih =>
    have h1 := ih (fun i hi => h i (by omega))
    have h2 := dgv_le (h k (by omega))
    simp only [dval, Nat.pow_succ]; omega
theorem cnt_le (l : List UInt8) (n p : Nat) : cnt l n p ≤ n := by
  induction n generalizing p with
  | zero => simp [cnt]
  | succ n ih => simp only [cnt]; split; have := ih (p + 1); omega; omega
theorem cnt_dg (l : List UInt8) (n p i : Nat) (h : i < cnt l n p) : dg l (p + i) = true := by
  induction n generalizing p i with
  | zero => simp [cnt] at h
  | succ n ih =>
    simp only [cnt] at h
    split at h
    · cases i with
      | zero => simpa
      | succ i => have := ih (p + 1) i (by omega); rw [show p + (i + 1) = p + 1 + i by omega]; exact this
    · omega
theorem cnt_eq (l : List UInt8) (n p k : Nat) (hk : k ≤ n) (h : ∀ i, i < k → dg l (p + i) = true) (he : k = n ∨ dg l (p + k) = false) : cnt l n p = k := by
  induction n generalizing p k with
  | zero => simp [cnt]; omega
  | succ n ih =>
    simp only [cnt]
    cases k with
    | zero =>
      rcases he with he | he
      · omega
      · rw [Nat.add_zero] at he; simp [he]
    | succ k =>
      have h0 := h 0 (by omega)
      rw [Nat.add_zero] at h0
      rw [if_pos h0, ih (p + 1) k (by omega) (fun i hi => by have := h (i + 1) (by omega); rwa [show p + (i + 1) = p + 1 + i by omega] at this) ?_]
      rcases he with he | he
      · left; omega
      · right; rwa [show p + (k + 1) = p + 1 + k by omega] at he
theorem dg_lt {l : List UInt8} {i : Nat} (h : dg l i = true) : i < l.length := by
  unfold dg at h
  cases e : l[i]? with
  | none => simp [e] at h
  | some c => exact (List.getElem?_eq_some_iff.1 e).1
theorem cnt_end (l : List UInt8) (n p : Nat) (hp : p ≤ l.length) : p + cnt l n p ≤ l.length := by
  cases h : cnt l n p with
  | zero => omega
  | succ k => have := dg_lt (cnt_dg l n p k (by omega)); omega

/-- What one of a scale is; none: no scale's letter. -/
def unitK (k : UInt8) (sz vs : Int) : Option Int :=
  if k = 117 then some 1 else if k = 112 then some 10 else if k = 80 then some 120 else if k = 105 then some 720 else if k = 99 then some 283
  else if k = 109 then some (10 * sz) else if k = 110 then some (5 * sz) else if k = 118 then some vs else none

def unitAt (l : List UInt8) (p : Nat) (sz vs : Int) : Option Int := match l[p]? with | some c => unitK c sz vs | none => none

/-- Where a number's fraction begins, if there is one. -/
def pt (l : List UInt8) (p : Nat) : Bool := (l[p]? == some 46) && dg l (p + 1)
def fracN (l : List UInt8) (p : Nat) : Nat := if pt l p then cnt l 9 (p + 1) else 0
def fracV (l : List UInt8) (p : Nat) : Nat := if pt l p then dval l (p + 1) (cnt l 9 (p + 1)) else 0
def fracE (l : List UInt8) (p : Nat) : Nat := if pt l p then p + 1 + cnt l 9 (p + 1) else p

/-- The unit of the number that ends at p, and where its letter ends. -/
def unS (l : List UInt8) (sc : UInt8) (sz vs : Int) (p : Nat) : Int × Nat :=
  match unitAt l p sz vs with
  | some u => (u, p + 1)
  | none => ((unitK sc sz vs).getD 0, p)
/-- The number that begins at p: its value, and where it ends. -/
def numS (l : List UInt8) (sc : UInt8) (sz vs : Int) (p : Nat) : Option (Int × Nat) :=
  if cnt l 9 p + fracN l (p + cnt l 9 p) = 0 then none
  else some (dval l p (cnt l 9 p) * (unS l sc sz vs (fracE l (p + cnt l 9 p))).1 + fracV l (p + cnt l 9 p) * (unS l sc sz vs (fracE l (p + cnt l 9 p))).1 / 10 ^ fracN l (p + cnt l 9 p),
    (unS l sc sz vs (fracE l (p + cnt l 9 p))).2)

/-- A size and a line that are let. -/
def cxOk (sz vs : Int) : Prop := 0 ≤ sz ∧ sz ≤ 1000000 ∧ 0 ≤ vs ∧ vs ≤ 1000000
theorem unitK_le {k : UInt8} {sz vs u : Int} (h : unitK k sz vs = some u) (hc : cxOk sz vs) : 0 ≤ u ∧ u ≤ 10000000 := by
  unfold cxOk at hc
  unfold unitK at h
  repeat' split at h
  all_goals first | (simp at h; omega) | (cases h)
theorem unS_le (l : List UInt8) (sc : UInt8) (sz vs : Int) (p : Nat) (hc : cxOk sz vs) : 0 ≤ (unS l sc sz vs p).1 ∧ (unS l sc sz vs p).1 ≤ 10000000 := by
  unfold unS unitAt
  cases e : l[p]? with
  | none =>
    cases e2 : unitK sc sz vs with
    | none => simp
    | some u => exact unitK_le e2 hc
  | some c =>
    cases e3 : unitK c sz vs with
    | none =>
      simp only [e3]
      cases e2 : unitK sc sz vs with
      | none => simp
      | some u => exact unitK_le e2 hc
    | some u => simp only [e3]; exact unitK_le e3 hc
theorem fracV_lt (l : List UInt8) (p : Nat) : fracV l p < 10 ^ fracN l p := by
  unfold fracV fracN
  split
  · exact dval_lt _ _ _ fun i hi => cnt_dg _ _ _ _ hi
  · simp
theorem fracN_le (l : List UInt8) (p : Nat) : fracN l p ≤ 9 := by unfold fracN; split; exact cnt_le _ _ _; omega
theorem fracV_le (l : List UInt8) (p : Nat) : fracV l p < 1000000000 :=
  Nat.lt_of_lt_of_le (fracV_lt l p) (Nat.pow_le_pow_right (by omega) (fracN_le l p))
theorem dvalC_le (l : List UInt8) (p : Nat) : dval l p (cnt l 9 p) < 1000000000 :=
  Nat.lt_of_lt_of_le (dval_lt _ _ _ fun i hi => cnt_dg _ _ _ _ hi) (Nat.pow_le_pow_right (by omega) (cnt_le l 9 p))

theorem div10 (x : Int) (j : Nat) : x / 10 ^ j / 10 = x / 10 ^ (j + 1) := by
  rw [Int.ediv_ediv_of_nonneg (by exact Int.pow_nonneg (by omega)), Int.pow_succ]
theorem div10_le (x : Int) (j : Nat) (h : 0 ≤ x) : 0 ≤ x / 10 ^ j ∧ x / 10 ^ j ≤ x :=
  ⟨Int.ediv_nonneg h (Int.pow_nonneg (by omega)), Int.ediv_le_self _ h⟩
theorem mul_bd (a : Nat) (u : Int) (ha : a < 1000000000) (h0 : 0 ≤ u) (h1 : u ≤ 10000000) : 0 ≤ (a : Int) * u ∧ (a : Int) * u ≤ 10000000000000000 := by
  refine ⟨Int.mul_nonneg (by omega) h0, ?_⟩
  have : (a : Int) * u ≤ 1000000000 * 10000000 := Int.mul_le_mul (by omega) h1 h0 (by omega)
  omega
/-- A value that is let. -/
def ok9 (n : Int) : Prop := -1000000000 ≤ n ∧ n ≤ 1000000000
instance (n : Int) : Decidable (ok9 n) := by unfold ok9; infer_instance

/- skipBlanks -/
def blanks (l : List UInt8) : Nat → Nat → Nat
  | 0, p => p
  | n + 1, p => if l[p]? = some 32 then blanks l n (p + 1) else p
/-- Where the blanks that begin at p end, within brackets. -/
def skipS (l : List UInt8) (dp p : Nat) : Nat := if dp = 0 then p else blanks l (l.length - p) p
theorem blanks_ge (l : List UInt8) (n p : Nat) : p ≤ blanks l n p := by
  induction n generalizing p with
  | zero => simp [blanks]
  | succ n ih => simp only [blanks]; split; have := ih (p + 1); omega; omega
theorem blanks_le (l : List UInt8) (n p : Nat) (hp : p ≤ l.length) : blanks l n p ≤ l.length := by
  induction n generalizing p with
  | zero => simpa [blanks]
  | succ n ih =>
    simp only [blanks]; split
    · rename_i h; exact ih (p + 1) (List.getElem?_eq_some_iff.1 h).1
    · exact hp
theorem skipS_ge (l : List UInt8) (dp p : Nat) : p ≤ skipS l dp p := by unfold skipS; split; omega; exact blanks_ge _ _ _
theorem skipS_le (l : List UInt8) (dp p : Nat) (hp : p ≤ l.length) : skipS l dp p ≤ l.length := by unfold skipS; split; omega; exact blanks_le _ _ _ hp
end Go.Proofs.YteihpeffaeahlaaDoor
