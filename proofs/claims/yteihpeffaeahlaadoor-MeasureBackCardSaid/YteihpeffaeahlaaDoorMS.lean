/- What a chain of + and - comes to: the plain mathematics. -/
import Derived.Test.YteihpeffaeahlaaDoorMA
namespace Go.Proofs.YteihpeffaeahlaaDoor
open Go.RowKit
/-- The text of a chain. -/
def tl : List (Bool × Nat) → List UInt8
  | [] => []
  | (b, k) :: xs => (if b then 43 else 45) :: (dec k ++ tl xs)
def st (v : Int) (x : Bool × Nat) : Int := if x.1 then v + x.2 else v - x.2
/-- Its value. -/
def sm (v : Int) : List (Bool × Nat) → Int
  | [] => v
  | x :: xs => sm (st v x) xs
theorem tl_snoc (xs : List (Bool × Nat)) (b : Bool) (k : Nat) : tl (xs ++ [(b, k)]) = tl xs ++ ((if b then 43 else 45) :: dec k) := by
  induction xs with
  | nil => simp [tl]
  | cons x xs ih => obtain ⟨c, m⟩ := x; simp [tl, ih]
theorem sm_snoc (v : Int) (xs : List (Bool × Nat)) (x : Bool × Nat) : sm v (xs ++ [x]) = st (sm v xs) x := by
  induction xs generalizing v with
  | nil => rfl
  | cons y xs ih => simp [sm, ih]
theorem tl_len (xs : List (Bool × Nat)) : 2 * xs.length ≤ (tl xs).length := by
  induction xs with
  | nil => simp
  | cons x xs ih => obtain ⟨c, m⟩ := x; have := dec_pos m; simp [tl]; omega
def sgB (b : Bool) : UInt8 := if b then 43 else 45
theorem sgB_op (b : Bool) : isOp (sgB b) := by cases b <;> simp [isOp, sgB]
theorem tl_ends (xs : List (Bool × Nat)) (rest : List UInt8) (hr : ends 0 0 rest) : ends 0 0 (tl xs ++ rest) := by
  cases xs with
  | nil => exact hr
  | cons x xs => obtain ⟨b, k⟩ := x; exact isOp_ends (sgB b) (sgB_op b) _ 0 0
theorem reck_sg (b : Bool) (v : Int) (n : Nat) (h : ok9 (st v (b, n))) : reck [sgB b] v n = .ok (st v (b, n)) := by
  cases b
  · have h' : ok9 (v - n) := h
    show chk (v - n) = _
    unfold chk; rw [if_pos h']; rfl
  · have h' : ok9 (v + n) := h
    show chk (v + n) = _
    unfold chk; rw [if_pos h']; rfl
theorem chain (l rest : List UInt8) (hr : ends 0 0 rest) (ho : ∀ p, l.drop p = rest → opr l p = []) (xs : List (Bool × Nat)) :
    ∀ (k p : Nat) (v : Int), l.drop p = tl xs ++ rest → (∀ x ∈ xs, x.2 < 1000000) → -1000000000 + 1000000 * (xs.length : Int) ≤ v → v ≤ 1000000000 - 1000000 * (xs.length : Int) →
      ex (uR l) (k + xs.length + 1) 2 v p 0 = .ok (sm v xs, p + (tl xs).length) := by
  induction xs with
  | nil =>
    intro k p v hd _ _ _
    have hd' : l.drop p = rest := hd
    rw [rst_end (uR l) _ p 0 v rfl (ho p hd')]
    rfl
  | cons x xs ih =>
    obtain ⟨b, n⟩ := x
    intro k p v hd hx h1 h2
    have hn : n < 1000000 := hx (b, n) (by simp)
    simp only [List.length_cons] at h1 h2
    have hst : -1000000000 + 1000000 * (xs.length : Int) ≤ st v (b, n) ∧ st v (b, n) ≤ 1000000000 - 1000000 * (xs.length : Int) := by
      unfold st; cases b <;> simp <;> omega
    have hok : ok9 (st v (b, n)) := by unfold ok9; omega
    have hd' : l.drop p = sgB b :: (dec n ++ (tl xs ++ rest)) := by rw [hd, tl, List.cons_append, List.append_assoc]; rfl
    rw [show k + ((b, n) :: xs).length + 1 = (k + xs.length) + 2 by simp; omega, rst_dec l _ p 0 n v (sgB b) _ hd' (sgB_op b) (by omega) (tl_ends xs rest hr), reck_sg b v n hok]
    simp only
    rw [ih k (p + 1 + (dec n).length) (st v (b, n)) (by rw [← List.drop_drop, ← List.drop_drop, hd', List.drop_succ_cons, List.drop_zero, List.drop_left]) (fun y hy => hx y (List.mem_cons_of_mem _ hy)) hst.1 hst.2]
    simp only [sm, tl, List.length_cons, List.length_append]
    rw [show p + 1 + (dec n).length + (tl xs).length = p + ((dec n).length + (tl xs).length + 1) by omega]
theorem dec0 : dec 0 = [48] := by rw [dec_small 0 (by omega)]; rfl
theorem ev_chain (xs : List (Bool × Nat)) (hx : ∀ x ∈ xs, x.2 < 1000000) (hl : xs.length ≤ 100) : evR (uR (48 :: tl xs)) = (sm 0 xs, 0) := by
  generalize hl2 : 48 :: tl xs = l
  have hlen : l.length = (tl xs).length + 1 := by rw [← hl2]; rfl
  have htl := tl_len xs
  obtain ⟨k, hk⟩ : ∃ k, 2 * (uR l).l.length + 3 = (k + xs.length + 1) + 1 := ⟨2 * l.length + 1 - xs.length, by rw [uR_l]; omega⟩
  have d0 : l.drop 0 = dec 0 ++ tl xs := by rw [dec0, ← hl2]; rfl
  have d1 : l.drop 1 = tl xs ++ [] := by rw [← hl2, List.append_nil]; rfl
  unfold evR
  rw [hk, ex1, opd_dec l _ 0 0 0 _ d0 (by omega) (by have := tl_ends xs [] (ends_nil 0 0); rwa [List.append_nil] at this)]
  simp only
  rw [dec0, show 0 + [(48 : UInt8)].length = 1 from rfl, show ((0 : Nat) : Int) = 0 from rfl, chain l [] (ends_nil 0 0) (fun p h => opr_none _ _ (.inl h)) xs k 1 0 d1 hx (by omega) (by omega)]
  simp only
  rw [if_neg (by rw [uR_l, hlen]; omega)]
/-- A reader that looks for the form alone. -/
def uF (l : List UInt8) : RS := ⟨⟨l.toArray⟩, 117, 0, 0, 0, true⟩
theorem uF_l (l : List UInt8) : (uF l).l = l := rfl
theorem opd_decF (l : List UInt8) (k p dp n : Nat) (rest : List UInt8) (h : l.drop p = dec n ++ rest) (hn : n < 10 ^ 9) (hr : ends 0 0 rest) : ex (uF l) (k + 1) 0 0 p dp = .ok (0, p + (dec n).length) := by
  have hpos := dec_pos n
  have hc : l[p]? = some ((dec n)[0]) := by
    have := drop_at l p 0
    rw [Nat.add_zero, h, List.getElem?_append_left hpos, List.getElem?_eq_getElem hpos] at this
    exact this
  have hd := dec_all n _ (List.getElem_mem hpos)
  generalize (dec n)[0] = c at hc hd
  have hd' : 48 ≤ c.toNat ∧ c.toNat ≤ 57 := by simpa [isDg] using hd
  have h1 : c ≠ 32 := by rintro rfl; simp at hd'
  have h2 : c ≠ 40 := by rintro rfl; simp at hd'
  have h3 : isSg c = false := by
    unfold isSg
    simp only [Bool.or_eq_false_iff, beq_eq_false_iff_ne]
    refine ⟨⟨⟨?_, ?_⟩, ?_⟩, ?_⟩ <;> (rintro rfl; simp at hd')
  have hN := num_dec l p n 117 0 0 1 rest h hn hr rfl
  rw [Int.mul_one] at hN
  rw [ex0]
  unfold opdR
  rw [skip_not _ _ _ (by rw [uF_l, hc]; simpa using h1), SE_not _ _ _ (by unfold sgAt; rw [uF_l, hc]; exact h3)]
  unfold priR
  rw [uF_l, hc, if_neg (by simpa using h2)]
  unfold numR
  rw [show numS (uF l).l (uF l).sc (uF l).sz (uF l).vs p = some ((n : Int), p + (dec n).length) from hN]
  simp only
  rw [if_pos (show ok9 (n : Int) by unfold ok9; omega)]
  unfold sgR
  simp only
  rw [show (uF l).fm = true from rfl, if_pos rfl]
theorem rst_decF (l : List UInt8) (k p dp n : Nat) (v : Int) (c : UInt8) (rest : List UInt8) (h : l.drop p = c :: (dec n ++ rest)) (hc : isOp c) (hn : n < 10 ^ 9) (hr : ends 0 0 rest) :
    ex (uF l) (k + 2) 2 v p dp = ex (uF l) (k + 1) 2 0 (p + 1 + (dec n).length) dp := by
  have hpos := dec_pos n
  have hc0 : l[p]? = some c := by have := drop_at l p 0; rw [Nat.add_zero, h] at this; exact this
  have hs : skipS (uF l).l dp p = p := skip_not _ _ _ (by rw [uF_l, hc0]; rcases hc with rfl | rfl | rfl | rfl | rfl | rfl | rfl | rfl | rfl | rfl <;> decide)
  have ho : opr (uF l).l p = [c] := opr_one _ _ c (dec n ++ rest) h hc (by
    cases e : dec n with
    | nil => rw [e] at hpos; simp at hpos
    | cons d ds =>
      have := dec_all n d (by rw [e]; simp)
      intro hd
      simp at hd
      rw [hd] at this
      simp [isDg] at this)
  have hd1 : l.drop (p + 1) = dec n ++ rest := by
    rw [← List.drop_drop, h]; rfl
  rw [ex2]
  unfold rstR
  rw [hs, ho, if_neg (by simp), List.length_singleton]
  simp only
  rw [opd_decF l k (p + 1) dp n rest hd1 hn hr]
  simp only
  rw [show (uF l).fm = true from rfl, if_pos rfl]
theorem chainF (l rest : List UInt8) (hr : ends 0 0 rest) (ho : ∀ p, l.drop p = rest → opr l p = []) (xs : List (Bool × Nat)) :
    ∀ (k p : Nat) (v : Int), l.drop p = tl xs ++ rest → (∀ x ∈ xs, x.2 < 1000000) → ∃ v', ex (uF l) (k + xs.length + 1) 2 v p 0 = .ok (v', p + (tl xs).length) := by
  induction xs with
  | nil =>
    intro k p v hd _
    have hd' : l.drop p = rest := hd
    exact ⟨v, by rw [rst_end (uF l) _ p 0 v rfl (ho p hd')]; rfl⟩
  | cons x xs ih =>
    obtain ⟨b, n⟩ := x
    intro k p v hd hx
    have hn : n < 1000000 := hx (b, n) (by simp)
    have hd' : l.drop p = sgB b :: (dec n ++ (tl xs ++ rest)) := by rw [hd, tl, List.cons_append, List.append_assoc]; rfl
    obtain ⟨v', h'⟩ := ih k (p + 1 + (dec n).length) 0 (by rw [← List.drop_drop, ← List.drop_drop, hd', List.drop_succ_cons, List.drop_zero, List.drop_left]) (fun y hy => hx y (List.mem_cons_of_mem _ hy))
    refine ⟨v', ?_⟩
    rw [show k + ((b, n) :: xs).length + 1 = (k + xs.length) + 2 by simp; omega, rst_decF l _ p 0 n v (sgB b) _ hd' (sgB_op b) (by omega) (tl_ends xs rest hr), h']
    simp only [tl, List.length_cons, List.length_append]
    rw [show p + 1 + (dec n).length + (tl xs).length = p + ((dec n).length + (tl xs).length + 1) by omega]
theorem ends_more : ends 0 0 [32, 109, 111, 114, 101] := by
  intro c hc
  obtain rfl : 32 = c := by simpa using hc
  decide
theorem opr_more (l : List UInt8) (p : Nat) (h : l.drop p = [32, 109, 111, 114, 101]) : opr l p = [] := by unfold opr; rw [h]; rfl
theorem fo_chain (xs : List (Bool × Nat)) (hx : ∀ x ∈ xs, x.2 < 1000000) : foR (uF (48 :: (tl xs ++ [32, 109, 111, 114, 101]))) = some ((tl xs).length + 1) := by
  generalize hl2 : 48 :: (tl xs ++ [32, 109, 111, 114, 101]) = l
  have hlen : l.length = (tl xs).length + 6 := by rw [← hl2]; simp
  have htl := tl_len xs
  obtain ⟨k, hk⟩ : ∃ k, 2 * (uF l).l.length + 3 = (k + xs.length + 1) + 1 := ⟨2 * l.length + 1 - xs.length, by rw [uF_l]; omega⟩
  have d0 : l.drop 0 = dec 0 ++ (tl xs ++ [32, 109, 111, 114, 101]) := by rw [dec0, ← hl2]; rfl
  have d1 : l.drop 1 = tl xs ++ [32, 109, 111, 114, 101] := by rw [← hl2]; rfl
  obtain ⟨v', hv⟩ := chainF l _ ends_more (opr_more l) xs k 1 0 d1 hx
  unfold foR
  rw [hk, ex1, opd_decF l _ 0 0 0 _ d0 (by omega) (tl_ends xs _ ends_more)]
  simp only
  rw [dec0, show 0 + [(48 : UInt8)].length = 1 from rfl, hv]
  simp only
  rw [Nat.add_comm]
end Go.Proofs.YteihpeffaeahlaaDoor
