/- What an expression is: the plain mathematics. -/
import Derived.Test.YteihpeffaeahlaaDoorBase
namespace Go.Proofs.YteihpeffaeahlaaDoor

abbrev Res := Except Int (Int × Nat)
def isSg (c : UInt8) : Bool := c == 43 || c == 45 || c == 33 || c == 124
def sgAt (l : List UInt8) (p : Nat) : Bool := match l[p]? with | some c => isSg c | none => false
theorem sgAt_lt {l : List UInt8} {p : Nat} (h : sgAt l p = true) : p < l.length := by
  unfold sgAt at h
  cases e : l[p]? with
  | none => simp [e] at h
  | some c => exact (List.getElem?_eq_some_iff.1 e).1
/-- Where the signs and blanks that begin at p end. -/
def sgEnd (l : List UInt8) (dp : Nat) : Nat → Nat → Nat
  | 0, p => p
  | n + 1, p => if sgAt l p then sgEnd l dp n (skipS l dp (p + 1)) else p
def SE (l : List UInt8) (dp p : Nat) : Nat := sgEnd l dp (l.length - p) p
theorem sgEnd_ge (l : List UInt8) (dp n p : Nat) : p ≤ sgEnd l dp n p := by
  induction n generalizing p with
  | zero => simp [sgEnd]
  | succ n ih => simp only [sgEnd]; split; have := ih (skipS l dp (p + 1)); have := skipS_ge l dp (p + 1); omega; omega
theorem sgEnd_le (l : List UInt8) (dp n p : Nat) (hp : p ≤ l.length) : sgEnd l dp n p ≤ l.length := by
  induction n generalizing p with
  | zero => simpa [sgEnd]
  | succ n ih =>
    simp only [sgEnd]; split
    · rename_i h; exact ih _ (skipS_le _ _ _ (by have := sgAt_lt h; omega))
    · exact hp
theorem sgEnd_more (l : List UInt8) (dp n m p : Nat) (hn : l.length ≤ n + p) (hm : l.length ≤ m + p) : sgEnd l dp n p = sgEnd l dp m p := by
  induction n generalizing p m with
  | zero =>
    cases m with
    | zero => rfl
    | succ m =>
      have : sgAt l p = false := by cases e : sgAt l p with | false => rfl | true => have := sgAt_lt e; omega
      simp [sgEnd, this]
  | succ n ih =>
    by_cases h : sgAt l p = true
    · have hlt := sgAt_lt h
      have hs := skipS_ge l dp (p + 1)
      cases m with
      | zero => omega
      | succ m => simp only [sgEnd, h, if_true]; exact ih _ _ (by omega) (by omega)
    · cases m with
      | zero => simp [sgEnd, h]
      | succ m => simp [sgEnd, h]

def tr (b : Bool) : Int := if b then 1 else 0
/-- A value that is let, or ErrRange. -/
def chk (n : Int) : Except Int Int := if ok9 n then .ok n else .error 5
/-- What a sign makes of a value. -/
def sgn (hr : Int) (c : UInt8) (v : Int) : Except Int Int :=
  if c = 45 then .ok (-v) else if c = 33 then .ok (tr (decide (v ≤ 0))) else if c = 124 then chk (v - hr) else .ok v
/-- The signs (and blanks) of the k places from f on, the last one first. -/
def apS (l : List UInt8) (hr : Int) (f : Nat) : Nat → Int → Except Int Int
  | 0, v => .ok v
  | k + 1, v => match sgn hr (l[f + k]?.getD 0) v with
    | .error e => .error e
    | .ok v' => apS l hr f k v'

def tbl : List (List UInt8) := [[60, 61], [62, 61], [61, 61], [60], [62], [61], [43], [45], [42], [47], [37], [38], [58]]
/-- The operator at p; empty: none. -/
def opr (l : List UInt8) (p : Nat) : List UInt8 := (tbl.find? fun o => o.isPrefixOf (l.drop p)).getD []
def reck (op : List UInt8) (a b : Int) : Except Int Int :=
  if op = [43] then chk (a + b) else if op = [45] then chk (a - b) else if op = [42] then chk (a * b)
  else if op = [47] then (if b = 0 then .error 11 else .ok (a.tdiv b)) else if op = [37] then (if b = 0 then .error 11 else .ok (a.tmod b))
  else if op = [60] then .ok (tr (decide (a < b))) else if op = [62] then .ok (tr (decide (b < a))) else if op = [60, 61] then .ok (tr (decide (a ≤ b)))
  else if op = [62, 61] then .ok (tr (decide (b ≤ a))) else if op = [38] then .ok (tr (decide (0 < a ∧ 0 < b))) else if op = [58] then .ok (tr (decide (0 < a ∨ 0 < b)))
  else .ok (tr (decide (a = b)))

/-- A number where an operand may stand. -/
def numR (r : RS) (p : Nat) : Res := match numS r.l r.sc r.sz r.vs p with
  | none => .error 4
  | some (v, z) => if ok9 v then .ok (v, z) else if r.fm then .ok (0, z) else .error 5
/-- Brackets: S reckons what is within. -/
def braR (r : RS) (S : Nat → Nat → Res) (p dp : Nat) : Res :=
  if dp = 20 then .error 4 else match S (p + 1) (dp + 1) with
    | .error e => .error e
    | .ok (v, z) => if r.l[skipS r.l (dp + 1) z]? = some 41 then .ok (v, skipS r.l (dp + 1) z + 1) else .error 4
def priR (r : RS) (S : Nat → Nat → Res) (p dp : Nat) : Res := if r.l[p]? = some 40 then braR r S p dp else numR r p
/-- The signs ahead of a value. -/
def sgR (r : RS) (f bh : Nat) : Res → Res
  | .error e => .error e
  | .ok (v, z) => if r.fm then .ok (0, z) else match apS r.l r.hr f (bh - f) v with
    | .error e => .error e
    | .ok v' => .ok (v', z)
def opdR (r : RS) (S : Nat → Nat → Res) (p dp : Nat) : Res :=
  sgR r (skipS r.l dp p) (SE r.l dp (skipS r.l dp p)) (priR r S (SE r.l dp (skipS r.l dp p)) dp)
/-- Behind a value: O reckons an operand, T goes on. -/
def rstR (r : RS) (O : Nat → Nat → Res) (T : Int → Nat → Nat → Res) (v : Int) (p dp : Nat) : Res :=
  if opr r.l (skipS r.l dp p) = [] then .ok (v, p) else match O (skipS r.l dp p + (opr r.l (skipS r.l dp p)).length) dp with
    | .error e => if r.fm && dp == 0 then .ok (v, p) else .error e
    | .ok (b, z) => if r.fm then T 0 z dp else match reck (opr r.l (skipS r.l dp p)) v b with
      | .error e => .error e
      | .ok v' => T v' z dp
/-- Kinds: 0 an operand, 1 an expression, 2 what stands behind a value. -/
def ex (r : RS) : Nat → Nat → Int → Nat → Nat → Res
  | 0, _, _, _, _ => .error 4
  | n + 1, 0, _, p, dp => opdR r (fun p dp => ex r n 1 0 p dp) p dp
  | n + 1, 1, _, p, dp => match ex r n 0 0 p dp with
    | .error e => .error e
    | .ok (v, z) => ex r n 2 v z dp
  | n + 1, _ + 2, v, p, dp => rstR r (fun p dp => ex r n 0 0 p dp) (fun v p dp => ex r n 2 v p dp) v p dp
theorem ex0 (r : RS) (n : Nat) (v : Int) (p dp : Nat) : ex r (n + 1) 0 v p dp = opdR r (fun p dp => ex r n 1 0 p dp) p dp := by rw [ex]
theorem ex1 (r : RS) (n : Nat) (v : Int) (p dp : Nat) : ex r (n + 1) 1 v p dp = match ex r n 0 0 p dp with | .error e => .error e | .ok (v, z) => ex r n 2 v z dp := by rw [ex]
theorem ex2 (r : RS) (n : Nat) (v : Int) (p dp : Nat) : ex r (n + 1) 2 v p dp = rstR r (fun p dp => ex r n 0 0 p dp) (fun v p dp => ex r n 2 v p dp) v p dp := by rw [ex]

theorem opr_mem (l : List UInt8) (p : Nat) (h : opr l p ≠ []) : opr l p ∈ tbl ∧ (opr l p) <+: l.drop p := by
  unfold opr at h ⊢
  cases e : tbl.find? (fun o => o.isPrefixOf (l.drop p)) with
  | none => simp [e] at h
  | some o => exact ⟨List.mem_of_find?_eq_some e, by have := List.find?_some e; simpa [List.isPrefixOf_iff_prefix] using this⟩
theorem opr_end (l : List UInt8) (p : Nat) (h : opr l p ≠ []) : p + (opr l p).length ≤ l.length ∧ 0 < (opr l p).length := by
  have h1 := (opr_mem l p h).2.length_le
  have h2 : 0 < (opr l p).length := List.length_pos_iff.2 h
  simp at h1; omega

theorem unS_ge (l : List UInt8) (sc : UInt8) (sz vs : Int) (p : Nat) : p ≤ (unS l sc sz vs p).2 := by
  unfold unS; split <;> simp
theorem unS_end (l : List UInt8) (sc : UInt8) (sz vs : Int) (p : Nat) (hp : p ≤ l.length) : (unS l sc sz vs p).2 ≤ l.length := by
  unfold unS unitAt
  cases e : l[p]? with
  | none => simpa
  | some c =>
    have := (List.getElem?_eq_some_iff.1 e).1
    cases e2 : unitK c sz vs with
    | none => simp only [e2]; exact hp
    | some u => simp only [e2]; omega
theorem fracE_ge (l : List UInt8) (p : Nat) : p + fracN l p ≤ fracE l p := by unfold fracE fracN; split <;> omega
theorem fracE_end (l : List UInt8) (p : Nat) (hp : p ≤ l.length) : fracE l p ≤ l.length := by
  unfold fracE; split
  · rename_i h
    unfold pt at h
    have : dg l (p + 1) = true := by simp at h; exact h.2
    have := cnt_end l 9 (p + 1) (by have := dg_lt this; omega)
    omega
  · exact hp
theorem numS_bd {l : List UInt8} {sc : UInt8} {sz vs : Int} {p z : Nat} {v : Int} (h : numS l sc sz vs p = some (v, z)) (hp : p ≤ l.length) : p < z ∧ z ≤ l.length := by
  unfold numS at h
  split at h
  · cases h
  · rename_i h0
    have h1 := unS_ge l sc sz vs (fracE l (p + cnt l 9 p))
    have h2 := unS_end l sc sz vs (fracE l (p + cnt l 9 p)) (fracE_end _ _ (cnt_end _ _ _ hp))
    have h3 := fracE_ge l (p + cnt l 9 p)
    simp only [Option.some.injEq, Prod.mk.injEq] at h
    obtain ⟨_, rfl⟩ := h
    omega
theorem numR_bd {r : RS} {p z : Nat} {v : Int} (h : numR r p = .ok (v, z)) (hp : p ≤ r.l.length) : p < z ∧ z ≤ r.l.length := by
  unfold numR at h
  split at h
  · cases h
  · rename_i v' z' e
    have := numS_bd e hp
    split at h
    · cases h; exact this
    · split at h
      · cases h; exact this
      · cases h
theorem ex_bd {r : RS} {n k p dp z : Nat} {a v : Int} (h : ex r n k a p dp = .ok (v, z)) (hp : p ≤ r.l.length) : p ≤ z ∧ z ≤ r.l.length ∧ (k < 2 → p < z) := by
  induction n generalizing k p dp z a v with
  | zero => rw [ex] at h; cases h
  | succ n ih =>
    match k with
    | 0 =>
      rw [ex0] at h
      unfold opdR at h
      have g1 := skipS_ge r.l dp p
      have g2 := skipS_le r.l dp p hp
      generalize skipS r.l dp p = f at *
      have g3 := sgEnd_ge r.l dp (r.l.length - f) f
      have g4 := sgEnd_le r.l dp (r.l.length - f) f g2
      unfold SE at h
      generalize sgEnd r.l dp (r.l.length - f) f = bh at *
      cases e : priR r (fun p dp => ex r n 1 0 p dp) bh dp with
      | error x => rw [e] at h; cases h
      | ok vz =>
        obtain ⟨v1, z1⟩ := vz
        rw [e] at h
        have hz : z1 = z := by
          unfold sgR at h
          simp only at h
          split at h
          · cases h; rfl
          · split at h
            · cases h
            · cases h; rfl
        subst hz
        unfold priR at e
        split at e
        · unfold braR at e
          split at e
          · cases e
          · rename_i hb _
            have hbl := (List.getElem?_eq_some_iff.1 hb).1
            simp only at e
            split at e
            · cases e
            · rename_i v2 z2 e2
              have := ih e2 (by omega)
              have g5 := skipS_ge r.l (dp + 1) z2
              split at e
              · rename_i hc
                have := (List.getElem?_eq_some_iff.1 hc).1
                cases e
                omega
              · cases e
        · have := numR_bd e g4
          omega
    | 1 =>
      rw [ex1] at h
      split at h
      · cases h
      · rename_i v1 z1 e1
        have h1 := ih e1 hp
        have h2 := ih h h1.2.1
        omega
    | k + 2 =>
      rw [ex] at h
      unfold rstR at h
      have g1 := skipS_ge r.l dp p
      split at h
      · cases h; omega
      · rename_i ho
        have g2 := opr_end _ _ ho
        simp only at h
        split at h
        · split at h
          · cases h; omega
          · cases h
        · rename_i b1 z1 e1
          have h1 := ih e1 g2.1
          split at h
          · have h2 := ih h h1.2.1; omega
          · split at h
            · cases h
            · have h2 := ih h h1.2.1; omega
theorem chk_ok9 {n v : Int} (h : chk n = .ok v) : ok9 v := by
  unfold chk at h; split at h
  · cases h; assumption
  · cases h
theorem tr_ok9 (b : Bool) : ok9 (tr b) := by cases b <;> decide
theorem sgn_ok9 {hr : Int} {c : UInt8} {v v' : Int} (hv : ok9 v) (h : sgn hr c v = .ok v') : ok9 v' := by
  unfold sgn at h
  split at h
  · cases h; unfold ok9 at *; omega
  · split at h
    · cases h; exact tr_ok9 _
    · split at h
      · exact chk_ok9 h
      · cases h; exact hv
theorem apS_ok9 {l : List UInt8} {hr : Int} {f k : Nat} {v v' : Int} (hv : ok9 v) (h : apS l hr f k v = .ok v') : ok9 v' := by
  induction k generalizing v with
  | zero => rw [apS] at h; cases h; exact hv
  | succ k ih =>
    rw [apS] at h
    split at h
    · cases h
    · rename_i u e; exact ih (sgn_ok9 hv e) h
theorem reck_ok9 {o : List UInt8} {a b v : Int} (ha : ok9 a) (h : reck o a b = .ok v) : ok9 v := by
  have h1 : (a.tdiv b).natAbs ≤ a.natAbs := by rw [Int.natAbs_tdiv]; exact Nat.div_le_self _ _
  have h2 : (a.tmod b).natAbs ≤ a.natAbs := by rw [Int.natAbs_tmod]; exact Nat.mod_le _ _
  unfold ok9 at ha
  unfold reck at h
  repeat' split at h
  all_goals first
    | exact chk_ok9 h
    | (cases h; exact tr_ok9 _)
    | (cases h; unfold ok9; omega)
    | cases h
theorem ex_ok9 {r : RS} (hf : r.fm = false) {n k p dp z : Nat} {a v : Int} (ha : k < 2 ∨ ok9 a) (h : ex r n k a p dp = .ok (v, z)) : ok9 v := by
  induction n generalizing k p dp z a v with
  | zero => rw [ex] at h; cases h
  | succ n ih =>
    match k with
    | 0 =>
      rw [ex0] at h
      unfold opdR at h
      generalize SE r.l dp (skipS r.l dp p) = bh at *
      cases e : priR r (fun p dp => ex r n 1 0 p dp) bh dp with
      | error x => rw [e] at h; cases h
      | ok vz =>
        obtain ⟨v1, z1⟩ := vz
        rw [e] at h
        unfold sgR at h
        simp only at h
        rw [hf, if_neg (by decide)] at h
        have hv1 : ok9 v1 := by
          unfold priR at e
          split at e
          · unfold braR at e
            split at e
            · cases e
            · simp only at e
              split at e
              · cases e
              · rename_i v2 z2 e2
                split at e
                · cases e; exact ih (.inl (by omega)) e2
                · cases e
          · unfold numR at e
            split at e
            · cases e
            · split at e
              · cases e; assumption
              · rw [hf, if_neg (by decide)] at e; cases e
        split at h
        · cases h
        · rename_i v' e'
          cases h
          exact apS_ok9 hv1 e'
    | 1 =>
      rw [ex1] at h
      split at h
      · cases h
      · rename_i v1 z1 e1
        exact ih (.inr (ih (.inl (by omega)) e1)) h
    | k + 2 =>
      have ha' : ok9 a := by rcases ha with h | h; omega; exact h
      rw [ex] at h
      unfold rstR at h
      split at h
      · cases h; exact ha'
      · simp only at h
        split at h
        · split at h
          · cases h; exact ha'
          · cases h
        · rename_i b1 z1 e1
          rw [hf, if_neg (by decide)] at h
          split at h
          · cases h
          · rename_i v' e'
            exact ih (.inr (reck_ok9 ha' e')) h
end Go.Proofs.YteihpeffaeahlaaDoor
