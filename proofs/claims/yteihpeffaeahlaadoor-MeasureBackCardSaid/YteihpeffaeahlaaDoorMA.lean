/- What expressions of numerals come to: the plain mathematics. -/
import Derived.Test.YteihpeffaeahlaaDoorWG
namespace Go.Proofs.YteihpeffaeahlaaDoor
open Go.RowKit

theorem dgB_dg (d : Nat) (h : d < 10) : isDg (dgB d) = true ∧ (dgB d).toNat = 48 + d := by
  have e : (dgB d).toNat = 48 + d := by unfold dgB; rw [UInt8.toNat_ofNat']; omega
  exact ⟨by unfold isDg; rw [e]; simp; omega, e⟩
theorem dec_all (n : Nat) : ∀ c ∈ dec n, isDg c = true := by
  induction n using Nat.strongRecOn with
  | _ n ih =>
    intro c hc
    by_cases h : n < 10
    · rw [dec_small n h] at hc; simp at hc; rw [hc]; exact (dgB_dg n h).1
    · rw [dec_big n h] at hc
      rcases List.mem_append.1 hc with hc | hc
      · exact ih (n / 10) (by omega) c hc
      · simp at hc; rw [hc]; exact (dgB_dg _ (by omega)).1
theorem dec_pos (n : Nat) : 0 < (dec n).length := by
  by_cases h : n < 10
  · rw [dec_small n h]; simp
  · rw [dec_big n h]; simp
theorem drop_at (l : List UInt8) (p i : Nat) : l[p + i]? = (l.drop p)[i]? := by rw [List.getElem?_drop]
theorem dval_ext (l m : List UInt8) (p q k : Nat) (h : ∀ i, i < k → l[p + i]? = m[q + i]?) : dval l p k = dval m q k := by
  induction k with
  | zero => rfl
  | succ k ih =>
    simp only [dval, dgv]
    rw [ih fun i hi => h i (by omega), h k (by omega)]
theorem dval_dec (n : Nat) : dval (dec n) 0 (dec n).length = n := by
  induction n using Nat.strongRecOn with
  | _ n ih =>
    by_cases h : n < 10
    · rw [dec_small n h]; simp [dval, dgv, (dgB_dg n h).2]
    · rw [dec_big n h]
      rw [List.length_append, List.length_singleton, dval]
      have e : dval (dec (n / 10) ++ [dgB (n % 10)]) 0 (dec (n / 10)).length = n / 10 := by
        rw [dval_ext _ (dec (n / 10)) 0 0 _ fun i hi => by rw [Nat.zero_add, List.getElem?_append_left hi]]
        exact ih (n / 10) (by omega)
      rw [e]
      have : dgv (dec (n / 10) ++ [dgB (n % 10)]) (0 + (dec (n / 10)).length) = n % 10 := by
        unfold dgv
        rw [Nat.zero_add, List.getElem?_append_right (Nat.le_refl _)]
        simp [(dgB_dg (n % 10) (by omega)).2]
      omega
/-- No byte that a number goes on with. -/
def ends (sz vs : Int) (rest : List UInt8) : Prop := ∀ c, rest.head? = some c → isDg c = false ∧ c ≠ 46 ∧ unitK c sz vs = none
theorem num_dec (l : List UInt8) (p n : Nat) (k : UInt8) (sz vs u : Int) (rest : List UInt8) (h : l.drop p = dec n ++ rest) (hn : n < 10 ^ 9) (hr : ends sz vs rest) (hu : unitK k sz vs = some u) :
    numS l k sz vs p = some (n * u, p + (dec n).length) := by
  have hlen := dec_len 9 n (by omega) hn
  have hpos := dec_pos n
  have hat : ∀ i, i < (dec n).length → l[p + i]? = (dec n)[i]? := fun i hi => by rw [drop_at, h, List.getElem?_append_left hi]
  have hend : l[p + (dec n).length]? = rest.head? := by
    rw [drop_at, h, List.getElem?_append_right (Nat.le_refl _), Nat.sub_self, List.head?_eq_getElem?]
  have hdg : ∀ i, i < (dec n).length → dg l (p + i) = true := fun i hi => by
    unfold dg; rw [hat i hi, List.getElem?_eq_getElem hi]
    exact dec_all n _ (List.getElem_mem hi)
  have hnd : dg l (p + (dec n).length) = false := by
    unfold dg; rw [hend]
    cases e : rest.head? with
    | none => rfl
    | some c => exact (hr c e).1
  have hc : cnt l 9 p = (dec n).length := cnt_eq _ _ _ _ hlen hdg (.inr hnd)
  have hpt : pt l (p + (dec n).length) = false := by
    unfold pt; rw [hend]
    cases e : rest.head? with
    | none => rfl
    | some c => have := (hr c e).2.1; simp [this]
  have hfn : fracN l (p + (dec n).length) = 0 := by unfold fracN; rw [hpt]; rfl
  have hfv : fracV l (p + (dec n).length) = 0 := by unfold fracV; rw [hpt]; rfl
  have hfe : fracE l (p + (dec n).length) = p + (dec n).length := by unfold fracE; rw [hpt]; rfl
  have hun : unS l k sz vs (p + (dec n).length) = (u, p + (dec n).length) := by
    unfold unS unitAt; rw [hend]
    cases e : rest.head? with
    | none => simp [hu]
    | some c => simp [(hr c e).2.2, hu]
  have hv : dval l p (dec n).length = n := by
    rw [dval_ext l (dec n) p 0 _ fun i hi => by rw [hat i hi, Nat.zero_add]]; exact dval_dec n
  unfold numS
  rw [hc, hfn, hfv, hfe, hun, hv, if_neg (by omega)]
  simp
/-- The operators of one byte. -/
def isOp (c : UInt8) : Prop := c = 43 ∨ c = 45 ∨ c = 42 ∨ c = 47 ∨ c = 37 ∨ c = 60 ∨ c = 62 ∨ c = 61 ∨ c = 38 ∨ c = 58
theorem opr_one (l : List UInt8) (p : Nat) (c : UInt8) (rest : List UInt8) (h : l.drop p = c :: rest) (hc : isOp c) (hr : rest.head? ≠ some 61) : opr l p = [c] := by
  unfold opr
  rw [h]
  cases rest with
  | nil => rcases hc with rfl | rfl | rfl | rfl | rfl | rfl | rfl | rfl | rfl | rfl <;> rfl
  | cons d rest =>
    have hd : d ≠ 61 := by simpa using hr
    have hd' : (61 == d) = false := by simpa using Ne.symm hd
    rcases hc with rfl | rfl | rfl | rfl | rfl | rfl | rfl | rfl | rfl | rfl <;> simp [tbl, List.find?, List.isPrefixOf, hd, hd']
theorem opr_none (l : List UInt8) (p : Nat) (h : l.drop p = [] ∨ ∃ rest, l.drop p = 41 :: rest) : opr l p = [] := by
  unfold opr
  rcases h with h | ⟨rest, h⟩ <;> rw [h] <;> simp [tbl, List.find?, List.isPrefixOf]
theorem isOp_ends (c : UInt8) (hc : isOp c) (rest : List UInt8) (sz vs : Int) : ends sz vs (c :: rest) := by
  intro d hd
  obtain rfl : c = d := by simpa using hd
  rcases hc with rfl | rfl | rfl | rfl | rfl | rfl | rfl | rfl | rfl | rfl <;> simp [isDg, unitK]
/-- A reader of units, of a text. -/
def uR (l : List UInt8) : RS := ⟨⟨l.toArray⟩, 117, 0, 0, 0, false⟩
theorem uR_l (l : List UInt8) : (uR l).l = l := rfl
theorem skip_not (l : List UInt8) (dp p : Nat) (h : l[p]? ≠ some 32) : skipS l dp p = p := by
  unfold skipS
  split
  · rfl
  · cases l.length - p with
    | zero => rfl
    | succ n => rw [blanks, if_neg h]
theorem SE_not (l : List UInt8) (dp p : Nat) (h : sgAt l p = false) : SE l dp p = p := by
  unfold SE
  cases l.length - p with
  | zero => rfl
  | succ n => rw [sgEnd, h]; rfl
/-- A numeral is an operand. -/
theorem opd_num (r : RS) (hf : r.fm = false) (k p dp : Nat) (v : Int) (z : Nat) (c : UInt8) (hc : r.l[p]? = some c) (h1 : c ≠ 32) (h2 : c ≠ 40) (h3 : isSg c = false) (hn : numS r.l r.sc r.sz r.vs p = some (v, z)) (hv : ok9 v) :
    ex r (k + 1) 0 0 p dp = .ok (v, z) := by
  rw [ex0]
  unfold opdR
  rw [skip_not _ _ _ (by rw [hc]; simpa using h1), SE_not _ _ _ (by unfold sgAt; rw [hc]; exact h3)]
  unfold priR
  rw [hc, if_neg (by simpa using h2)]
  unfold numR
  rw [hn]
  simp only
  rw [if_pos hv]
  unfold sgR
  simp only
  rw [hf, if_neg (by decide), Nat.sub_self, apS]
theorem opd_dec (l : List UInt8) (k p dp n : Nat) (rest : List UInt8) (h : l.drop p = dec n ++ rest) (hn : n < 10 ^ 9) (hr : ends 0 0 rest) : ex (uR l) (k + 1) 0 0 p dp = .ok ((n : Int), p + (dec n).length) := by
  have hpos := dec_pos n
  have hc : l[p]? = some ((dec n)[0]) := by
    have := drop_at l p 0
    rw [Nat.add_zero, h, List.getElem?_append_left hpos, List.getElem?_eq_getElem hpos] at this
    exact this
  have hd := dec_all n _ (List.getElem_mem hpos)
  generalize (dec n)[0] = c at hc hd
  have hd' : 48 ≤ c.toNat ∧ c.toNat ≤ 57 := by simpa [isDg] using hd
  refine opd_num (uR l) rfl k p dp n _ c hc ?_ ?_ ?_ ?_ (by unfold ok9; omega)
  · rintro rfl; simp at hd'
  · rintro rfl; simp at hd'
  · unfold isSg
    simp only [Bool.or_eq_false_iff, beq_eq_false_iff_ne]
    refine ⟨⟨⟨?_, ?_⟩, ?_⟩, ?_⟩ <;> (rintro rfl; simp at hd')
  · have := num_dec l p n 117 0 0 1 rest h hn hr rfl
    rw [Int.mul_one] at this
    exact this
/-- One operator and a numeral behind a value. -/
theorem rst_dec (l : List UInt8) (k p dp n : Nat) (v : Int) (c : UInt8) (rest : List UInt8) (h : l.drop p = c :: (dec n ++ rest)) (hc : isOp c) (hn : n < 10 ^ 9) (hr : ends 0 0 rest) :
    ex (uR l) (k + 2) 2 v p dp = match reck [c] v n with | .error e => .error e | .ok v' => ex (uR l) (k + 1) 2 v' (p + 1 + (dec n).length) dp := by
  have hpos := dec_pos n
  have hc0 : l[p]? = some c := by have := drop_at l p 0; rw [Nat.add_zero, h] at this; exact this
  have hs : skipS (uR l).l dp p = p := skip_not _ _ _ (by rw [uR_l, hc0]; rcases hc with rfl | rfl | rfl | rfl | rfl | rfl | rfl | rfl | rfl | rfl <;> decide)
  have ho : opr (uR l).l p = [c] := opr_one _ _ c (dec n ++ rest) h hc (by
    cases e : dec n with
    | nil => rw [e] at hpos; simp at hpos
    | cons d ds =>
      have := dec_all n d (by rw [e]; simp)
      intro hd
      simp at hd
      rw [hd] at this
      simp [isDg] at this)
  have hd1 : l.drop (p + 1) = dec n ++ rest := by
    rw [← List.drop_drop, h]; rfl
  rw [ex2]
  unfold rstR
  rw [hs, ho, if_neg (by simp), List.length_singleton]
  simp only
  rw [opd_dec l k (p + 1) dp n rest hd1 hn hr]
  simp only
  rw [if_neg (by simp [uR])]
  rfl
/-- Where no operator stands behind a value. -/
theorem rst_end (r : RS) (k p dp : Nat) (v : Int) (hs : skipS r.l dp p = p) (ho : opr r.l p = []) : ex r (k + 1) 2 v p dp = .ok (v, p) := by
  rw [ex2]; unfold rstR; rw [hs, ho, if_pos rfl]
def LV (p q : UInt8) (x y z : Nat) : Int × Int := match reck [p] x y with
  | .error e => (0, e)
  | .ok v => match reck [q] v z with
    | .error e => (0, e)
    | .ok u => (u, 0)
theorem ends_nil (sz vs : Int) : ends sz vs [] := by intro c hc; simp at hc
theorem left_a (p q : UInt8) (hp : isOp p) (hq : isOp q) (x y z : Nat) (hx : x < 10 ^ 9) (hy : y < 10 ^ 9) (hz : z < 10 ^ 9) :
    evR (uR (dec x ++ p :: (dec y ++ q :: (dec z ++ [])))) = LV p q x y z := by
  generalize hl : dec x ++ p :: (dec y ++ q :: (dec z ++ [])) = l
  have hlen : l.length = (dec x).length + (1 + ((dec y).length + (1 + (dec z).length))) := by rw [← hl]; simp; omega
  obtain ⟨k, hk⟩ : ∃ k, 2 * (uR l).l.length + 3 = k + 6 := ⟨2 * l.length - 3, by rw [uR_l]; omega⟩
  have d0 : l.drop 0 = dec x ++ p :: (dec y ++ q :: (dec z ++ [])) := hl.symm
  have d1 : l.drop (dec x).length = p :: (dec y ++ q :: (dec z ++ [])) := by rw [← hl, List.drop_left]
  have d2 : l.drop ((dec x).length + 1 + (dec y).length) = q :: (dec z ++ []) := by
    rw [← List.drop_drop, ← List.drop_drop, d1, List.drop_succ_cons, List.drop_zero, List.drop_left]
  have d3 : l.drop ((dec x).length + 1 + (dec y).length + 1 + (dec z).length) = [] := List.drop_eq_nil_of_le (by omega)
  unfold evR LV
  rw [hk, ex1, opd_dec l _ 0 0 x _ d0 hx (isOp_ends p hp _ _ _)]
  simp only
  rw [Nat.zero_add, rst_dec l _ _ 0 y x p _ d1 hp hy (isOp_ends q hq _ _ _)]
  cases reck [p] (x : Int) y with
  | error e => rfl
  | ok v =>
    simp only
    rw [rst_dec l _ _ 0 z v q _ d2 hq hz (ends_nil _ _)]
    cases reck [q] v z with
    | error e => rfl
    | ok u =>
      simp only
      rw [rst_end (uR l) _ _ 0 u rfl (opr_none _ _ (.inl d3))]
      simp only
      rw [if_neg (by rw [uR_l]; omega)]
theorem left_b (p q : UInt8) (hp : isOp p) (hq : isOp q) (x y z : Nat) (hx : x < 10 ^ 9) (hy : y < 10 ^ 9) (hz : z < 10 ^ 9) :
    evR (uR (40 :: (dec x ++ p :: (dec y ++ 41 :: q :: (dec z ++ []))))) = LV p q x y z := by
  generalize hl : 40 :: (dec x ++ p :: (dec y ++ 41 :: q :: (dec z ++ []))) = l
  have hlen : l.length = (dec x).length + (1 + ((dec y).length + (1 + (dec z).length))) + 2 := by rw [← hl]; simp; omega
  obtain ⟨k, hk⟩ : ∃ k, 2 * (uR l).l.length + 3 = k + 8 := ⟨2 * l.length - 5, by rw [uR_l]; omega⟩
  have h0 : l[0]? = some 40 := by rw [← hl]; rfl
  have d0 : l.drop 1 = dec x ++ p :: (dec y ++ 41 :: q :: (dec z ++ [])) := by rw [← hl]; rfl
  have d1 : l.drop (1 + (dec x).length) = p :: (dec y ++ 41 :: q :: (dec z ++ [])) := by rw [← List.drop_drop, d0, List.drop_left]
  have d2 : l.drop (1 + (dec x).length + 1 + (dec y).length) = 41 :: q :: (dec z ++ []) := by
    rw [← List.drop_drop, ← List.drop_drop, d1, List.drop_succ_cons, List.drop_zero, List.drop_left]
  have d3 : l.drop (1 + (dec x).length + 1 + (dec y).length + 1) = q :: (dec z ++ []) := by rw [← List.drop_drop, d2]; rfl
  have d4 : l.drop (1 + (dec x).length + 1 + (dec y).length + 1 + 1 + (dec z).length) = [] := List.drop_eq_nil_of_le (by omega)
  have c2 : l[1 + (dec x).length + 1 + (dec y).length]? = some 41 := by have := drop_at l (1 + (dec x).length + 1 + (dec y).length) 0; rw [Nat.add_zero, d2] at this; exact this
  have s2 : skipS l 1 (1 + (dec x).length + 1 + (dec y).length) = 1 + (dec x).length + 1 + (dec y).length := skip_not _ _ _ (by rw [c2]; decide)
  have he41 : ends 0 0 (41 :: q :: (dec z ++ [])) := by
    intro c hc
    obtain rfl : 41 = c := by simpa using hc
    decide
  have hsum : ex (uR l) (k + 6) 1 0 1 1 = match reck [p] x y with | .error e => .error e | .ok v => .ok (v, 1 + (dec x).length + 1 + (dec y).length) := by
    rw [ex1, opd_dec l _ 1 1 x _ d0 hx (isOp_ends p hp _ _ _)]
    simp only
    rw [rst_dec l _ _ 1 y x p _ d1 hp hy he41]
    cases reck [p] (x : Int) y with
    | error e => rfl
    | ok v =>
      simp only
      rw [rst_end (uR l) _ _ 1 v s2 (opr_none _ _ (.inr ⟨_, d2⟩))]
  have hopd : ex (uR l) (k + 7) 0 0 0 0 = match reck [p] x y with | .error e => .error e | .ok v => .ok (v, 1 + (dec x).length + 1 + (dec y).length + 1) := by
    rw [ex0]
    unfold opdR
    have hs0 : skipS (uR l).l 0 0 = 0 := rfl
    have hse : SE (uR l).l 0 0 = 0 := SE_not _ _ _ (by unfold sgAt; rw [uR_l, h0]; rfl)
    rw [hs0, hse]
    unfold priR
    rw [uR_l, h0, if_pos rfl]
    unfold braR
    rw [if_neg (by decide)]
    simp only
    rw [hsum]
    cases reck [p] (x : Int) y with
    | error e => rfl
    | ok v =>
      simp only
      rw [uR_l, s2, c2, if_pos rfl]
      rfl
  unfold evR LV
  rw [hk, ex1, hopd]
  cases reck [p] (x : Int) y with
  | error e => rfl
  | ok v =>
    simp only
    rw [rst_dec l _ _ 0 z v q _ d3 hq hz (ends_nil _ _)]
    cases reck [q] v z with
    | error e => rfl
    | ok u =>
      simp only
      rw [rst_end (uR l) _ _ 0 u rfl (opr_none _ _ (.inl d4))]
      simp only
      rw [if_neg (by rw [uR_l]; omega)]
/-- Eval of a text in units. -/
theorem eval_u (s : ByteArray) (L : List UInt8) (h : s.data.toList = L) (hL : L.length ≤ 9223372036854775806) (w : World) (hT : Tab w) :
    Calls Tryd.prog 18 #[.string s, .int .u8 117, CX 0 0 0] w fun e w' => e = .returned (.tuple #[.int .i64 (evR (uR L)).1, .int .i64 (evR (uR L)).2]) ∧ Below w.heap.size w w' := by
  have hs : s = ⟨L.toArray⟩ := by rw [← h]
  have := eval_any (w := w) s 117 0 0 0 (by rw [Lib.size_eq, h]; exact hL) hT
  unfold evalS at this
  rw [if_pos (by decide), hs] at this
  rw [hs]
  exact this
end Go.Proofs.YteihpeffaeahlaaDoor
