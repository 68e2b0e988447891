/- Boxes and lines: what they are, and how they lie in memory. -/
import Derived.Test.YtfobbcddedcepaaDoorA1
namespace Go.Proofs.YtfobbcddedcepaaDoor
open Go.RowKit
set_option maxRecDepth 100000
set_option linter.unusedSimpArgs false
set_option linter.unusedVariables false
/- Rows of structs: every element is m cells. -/
section
variable {α : Type} {f : α → List Value} {m : Nat}
theorem fm_len (hf : ∀ x, (f x).length = m) : ∀ l : List α, (l.flatMap f).length = l.length * m
  | [] => by simp
  | x :: t => by rw [List.flatMap_cons, List.length_append, fm_len hf t, hf, List.length_cons, Nat.add_mul]; omega
theorem fm_at (hf : ∀ x, (f x).length = m) : ∀ (l : List α) (i k : Nat) (x : α), l[i]? = some x → k < m → (l.flatMap f)[i * m + k]? = (f x)[k]?
  | [], i, k, x, h, _ => by simp at h
  | y :: t, 0, k, x, h, hk => by
    have : y = x := by simpa using h
    subst this
    rw [List.flatMap_cons, Nat.zero_mul, Nat.zero_add, List.getElem?_append_left (by rw [hf]; exact hk)]
  | y :: t, i + 1, k, x, h, hk => by
    rw [List.flatMap_cons, List.getElem?_append_right (by rw [hf, Nat.add_mul]; omega), hf]
    rw [show (i + 1) * m + k - m = i * m + k by rw [Nat.add_mul]; omega]
    exact fm_at hf t i k x (by simpa using h) hk
theorem fm_set (hf : ∀ x, (f x).length = m) : ∀ (l : List α) (i k : Nat) (x y : α) (u : Value), l[i]? = some x → k < m → f y = (f x).set k u → (l.set i y).flatMap f = (l.flatMap f).set (i * m + k) u
  | [], i, k, x, y, u, h, _, _ => by simp at h
  | z :: t, 0, k, x, y, u, h, hk, hy => by
    have : z = x := by simpa using h
    subst this
    rw [List.set_cons_zero, List.flatMap_cons, List.flatMap_cons, Nat.zero_mul, Nat.zero_add, hy, List.set_append_left _ _ (by rw [hf]; exact hk)]
  | z :: t, i + 1, k, x, y, u, h, hk, hy => by
    rw [List.set_cons_succ, List.flatMap_cons, List.flatMap_cons, fm_set hf t i k x y u (by simpa using h) hk hy]
    rw [List.set_append_right _ _ (by rw [hf, Nat.add_mul]; omega), hf, show (i + 1) * m + k - m = i * m + k by rw [Nat.add_mul]; omega]
theorem fm_one (h1 : ∀ x, ∀ u ∈ f x, u.oneCell' = true) (l : List α) : ∀ u ∈ l.flatMap f, u.oneCell' = true := by
  intro u hu
  obtain ⟨x, _, hx⟩ := List.mem_flatMap.1 hu
  exact h1 x u hx
end
theorem own_set {w : World} {base g size n c : Nat} {e : TypeId} {xs : List Value} (h : w.ownsRow base e size (.slice (some ⟨g, 0, none⟩) n c) n xs) (k : Nat) (hk : k < n * size) (u : Value) :
    (w.setCell ⟨g, k, none⟩ u).ownsRow base e size (.slice (some ⟨g, 0, none⟩) n c) n (xs.set k u) := by
  refine ⟨by rw [List.length_set]; exact h.1, ?_⟩
  rcases h.2 with ⟨hv, hn⟩ | ⟨g', cap, cur, hv, hb, hh, h1, h2, h3, h4⟩
  · cases hv
  · injection hv with e1 e2 e3
    injection e1 with e1
    injection e1 with e1
    subst e1 e3
    refine .inr ⟨g, c, cur.setIfInBounds k u, rfl, hb, ?_, h1, h2, by simpa using h3, ?_⟩
    · simp [World.setCell, Array.getElem?_modify, hh]
    · rw [Array.toList_setIfInBounds, ← h4, List.take_set]
/-- A slice that has elements lies at the head of a block. -/
theorem own_head {w : World} {base size n c : Nat} {e : TypeId} {A : Option Addr} {xs : List Value} (h : w.ownsRow base e size (.slice A n c) n xs) (hn : 0 < n) : ∃ g, A = some ⟨g, 0, none⟩ ∧ base ≤ g ∧ g < w.heap.size ∧ ∃ cur, w.heap[g]? = some (.cells cur e (0, 0)) ∧ n * size ≤ cur.size := by
  rcases h.2 with ⟨hv, h0⟩ | ⟨g, cap, cur, hv, hb, hh, h1, h2, h3, h4⟩
  · omega
  · injection hv with e1
    exact ⟨g, e1, hb, lt_of_block hh, cur, hh, by rw [h3]; exact Nat.mul_le_mul_right _ h1⟩
theorem own_cell {w : World} {base g size n c : Nat} {e : TypeId} {xs : List Value} (h : w.ownsRow base e size (.slice (some ⟨g, 0, none⟩) n c) n xs) (k : Nat) (u : Value) (hu : xs[k]? = some u) : w.cell? ⟨g, k, none⟩ = some u ∧ w.frozen? ⟨g, k, none⟩ = false := by
  rcases h.2 with ⟨hv, h0⟩ | ⟨g', cap, cur, hv, hb, hh, h1, h2, h3, h4⟩
  · cases hv
  · injection hv with e1
    injection e1 with e1
    injection e1 with e1
    subst e1
    rw [← h4, List.getElem?_take] at hu
    split at hu
    · rw [Array.getElem?_toList] at hu
      exact ⟨by simp [World.cell?, hh, hu], by simp [World.frozen?, hh]⟩
    · cases hu
/- Boxes. -/
structure Bx where
  kd : Int
  wd : Int
  fo : Int
  sz : Int
  nm : ByteArray
  co : ByteArray
  ns : List Int
/-- A box in memory: its numbers lie elsewhere. -/
structure RB where
  kd : Int
  wd : Int
  fo : Int
  sz : Int
  nm : ByteArray
  co : ByteArray
  no : Option Addr
  nn : Nat
  nc : Nat
def rbCs (r : RB) : List Value := [.int .i64 r.kd, .int .i64 r.wd, .int .i64 r.fo, .int .i64 r.sz, .string r.nm, .string r.co, .slice r.no r.nn r.nc]
theorem rb_len (r : RB) : (rbCs r).length = 7 := rfl
theorem rb_one (r : RB) : ∀ u ∈ rbCs r, u.oneCell' = true := by
  intro u hu
  simp only [rbCs, List.mem_cons, List.not_mem_nil, or_false] at hu
  rcases hu with rfl | rfl | rfl | rfl | rfl | rfl | rfl <;> rfl
def intCs (ns : List Int) : List Value := ns.map fun z => .int .i64 z
structure RbIs (P : TypeId → Nat → Prop) (w : World) (r : RB) (x : Bx) : Prop where
  kd : r.kd = x.kd
  wd : r.wd = x.wd
  fo : r.fo = x.fo
  sz : r.sz = x.sz
  nm : r.nm = x.nm
  co : r.co = x.co
  nn : r.nn = x.ns.length
  nil : r.no = none → r.nn = 0
  le : r.nn ≤ r.nc
  cap : (r.nc : Int) ≤ 9223372036854775807
  fit : r.nn * 8 ≤ 140737488355328
  ns : ReadsP (P 3) w 1 r.no r.nn (intCs x.ns)
theorem RbIs.keep {P P' : TypeId → Nat → Prop} {w w' : World} {r : RB} {x : Bx} (h : RbIs P w r x) (k : ∀ b, P 3 b → w'.heap[b]? = w.heap[b]? ∧ P' 3 b) : RbIs P' w' r x :=
  ⟨h.kd, h.wd, h.fo, h.sz, h.nm, h.co, h.nn, h.nil, h.le, h.cap, h.fit, h.ns.keep k⟩
/-- Element by element. -/
def All2 {α β : Type} (R : α → β → Prop) (xs : List α) (ys : List β) : Prop := xs.length = ys.length ∧ ∀ (i : Nat) (a : α) (b : β), xs[i]? = some a → ys[i]? = some b → R a b
theorem All2.mono {α β : Type} {R R' : α → β → Prop} {xs : List α} {ys : List β} (h : All2 R xs ys) (k : ∀ a b, R a b → R' a b) : All2 R' xs ys := ⟨h.1, fun i a b ha hb => k a b (h.2 i a b ha hb)⟩
/-- Boxes in a slice. -/
structure BxsAt (P : TypeId → Nat → Prop) (w : World) (A : Option Addr) (n : Nat) (bs : List Bx) : Prop where
  ex : ∃ rs : List RB, ReadsP (P 85) w 7 A n (rs.flatMap rbCs) ∧ All2 (RbIs P w) rs bs
  len : n = bs.length
theorem BxsAt.keep {P P' : TypeId → Nat → Prop} {w w' : World} {A : Option Addr} {n : Nat} {bs : List Bx} (h : BxsAt P w A n bs) (k : ∀ e, e = 3 ∨ e = 85 → ∀ b, P e b → w'.heap[b]? = w.heap[b]? ∧ P' e b) : BxsAt P' w' A n bs := by
  obtain ⟨⟨rs, h1, h2⟩, h3⟩ := h
  exact ⟨⟨rs, h1.keep (k _ (.inr rfl)), h2.mono fun _ _ h => h.keep (k _ (.inl rfl))⟩, h3⟩
/- Lines. -/
structure Ln where
  tx : ByteArray
  md : Bool
  up : Int
  dn : Int
  bx : List Bx
structure RL where
  tx : ByteArray
  md : Bool
  up : Int
  dn : Int
  bo : Option Addr
  bn : Nat
  bc : Nat
def rlCs (r : RL) : List Value := [.string r.tx, .bool r.md, .int .i64 r.up, .int .i64 r.dn, .slice r.bo r.bn r.bc]
theorem rl_len (r : RL) : (rlCs r).length = 5 := rfl
theorem rl_one (r : RL) : ∀ u ∈ rlCs r, u.oneCell' = true := by
  intro u hu
  simp only [rlCs, List.mem_cons, List.not_mem_nil, or_false] at hu
  rcases hu with rfl | rfl | rfl | rfl | rfl <;> rfl
structure RlIs (P : TypeId → Nat → Prop) (w : World) (r : RL) (l : Ln) : Prop where
  tx : r.tx = l.tx
  md : r.md = l.md
  up : r.up = l.up
  dn : r.dn = l.dn
  nil : r.bo = none → r.bn = 0
  le : r.bn ≤ r.bc
  cap : (r.bc : Int) ≤ 9223372036854775807
  bx : BxsAt P w r.bo r.bn l.bx
theorem RlIs.keep {P P' : TypeId → Nat → Prop} {w w' : World} {r : RL} {l : Ln} (h : RlIs P w r l) (k : ∀ e, e = 3 ∨ e = 85 → ∀ b, P e b → w'.heap[b]? = w.heap[b]? ∧ P' e b) : RlIs P' w' r l :=
  ⟨h.tx, h.md, h.up, h.dn, h.nil, h.le, h.cap, h.bx.keep k⟩
structure LnsAt (P : TypeId → Nat → Prop) (w : World) (A : Option Addr) (n : Nat) (ls : List Ln) : Prop where
  ex : ∃ rs : List RL, ReadsP (P 31) w 5 A n (rs.flatMap rlCs) ∧ All2 (RlIs P w) rs ls
  len : n = ls.length
theorem LnsAt.keep {P P' : TypeId → Nat → Prop} {w w' : World} {A : Option Addr} {n : Nat} {ls : List Ln} (h : LnsAt P w A n ls) (k : ∀ e b, P e b → w'.heap[b]? = w.heap[b]? ∧ P' e b) : LnsAt P' w' A n ls := by
  obtain ⟨⟨rs, h1, h2⟩, h3⟩ := h
  exact ⟨⟨rs, h1.keep (k _), h2.mono fun _ _ h => h.keep (fun e _ => k e)⟩, h3⟩
/-- Blocks of elements of a type. -/
def Tg (w : World) (e : TypeId) (b : Nat) : Prop := ∃ cs fz, w.heap[b]? = some (.cells cs e fz)
theorem Tg.keep {w w' : World} {e : TypeId} {b : Nat} (h : Tg w e b) (k : w'.heap[b]? = w.heap[b]?) : Tg w' e b := by
  obtain ⟨cs, fz, h1⟩ := h
  exact ⟨cs, fz, k.trans h1⟩
theorem Tg.ne {w : World} {e e' : TypeId} {b b' : Nat} (h : Tg w e b) (h' : Tg w e' b') (hne : e ≠ e') : b ≠ b' := by
  rintro rfl
  obtain ⟨cs, fz, h1⟩ := h
  obtain ⟨cs', fz', h1'⟩ := h'
  rw [h1] at h1'
  injection h1' with h1'
  injection h1' with _ ht
  exact hne ht
theorem Tg.lt {w : World} {e : TypeId} {b : Nat} (h : Tg w e b) : b < w.heap.size := by
  obtain ⟨cs, fz, h1⟩ := h
  exact lt_of_block h1
theorem Tg.below {w w' : World} {e : TypeId} {b : Nat} (h : Tg w e b) (k : Below w.heap.size w w') : w'.heap[b]? = w.heap[b]? ∧ Tg w' e b := ⟨k.block b h.lt, h.keep (k.block b h.lt)⟩
end Go.Proofs.YtfobbcddedcepaaDoor
