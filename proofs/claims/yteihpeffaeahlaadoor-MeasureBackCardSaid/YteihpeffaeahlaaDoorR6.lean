/- The plain mathematics of signs; how the specification's reader lies in its box. -/
import Derived.Test.YteihpeffaeahlaaDoorR3
import Derived.Test.YteihpeffaeahlaaDoorR5
namespace Go.Proofs.YteihpeffaeahlaaDoor
open Go.RowKit
set_option maxRecDepth 100000
theorem blanks_are (l : List UInt8) (n p i : Nat) (h1 : p ≤ i) (h2 : i < blanks l n p) : l[i]? = some 32 := by
  induction n generalizing p with
  | zero => simp [blanks] at h2; omega
  | succ n ih =>
    rw [blanks] at h2
    split at h2
    · rename_i h
      by_cases e : i = p
      · rw [e]; exact h
      · exact ih (p + 1) (by omega) h2
    · omega
theorem skip_are (l : List UInt8) (dp p i : Nat) (h1 : p ≤ i) (h2 : i < skipS l dp p) : l[i]? = some 32 := by
  unfold skipS at h2
  split at h2
  · omega
  · exact blanks_are _ _ _ _ h1 h2
theorem apS_split (l : List UInt8) (hr : Int) (f m n : Nat) (v : Int) : apS l hr f (m + n) v = match apS l hr (f + m) n v with
    | .error e => .error e
    | .ok v' => apS l hr f m v' := by
  induction n generalizing v with
  | zero => rfl
  | succ n ih =>
    rw [show m + (n + 1) = (m + n) + 1 by omega, apS, apS, show f + (m + n) = f + m + n by omega]
    cases sgn hr (l[f + m + n]?.getD 0) v with
    | error e => rfl
    | ok v' => exact ih v'
theorem apS_blank (l : List UInt8) (hr : Int) (f m : Nat) (h : ∀ i, i < m → l[f + i]? = some 32) (v : Int) : apS l hr f m v = .ok v := by
  induction m with
  | zero => rfl
  | succ m ih =>
    rw [apS, h m (by omega)]
    have : sgn hr ((some (32 : UInt8)).getD 0) v = .ok v := by simp [sgn]
    rw [this]
    exact ih fun i hi => h i (by omega)
/-- A sign ahead of an operand. -/
theorem opd_sign (r : RS) (S : Nat → Nat → Res) (p dp : Nat) (c : UInt8) (hp : p ≤ r.l.length) (hc : r.l[skipS r.l dp p]? = some c) (hs : isSg c = true) :
    opdR r S p dp = match opdR r S (skipS r.l dp p + 1) dp with
      | .error e => .error e
      | .ok (v, z) => if r.fm then .ok (0, z) else match sgn r.hr c v with | .error e => .error e | .ok v' => .ok (v', z) := by
  have hf := skipS_le r.l dp p hp
  obtain ⟨f, hfe⟩ : ∃ f, f = skipS r.l dp p := ⟨_, rfl⟩
  rw [← hfe] at hc hf
  have hfl := (List.getElem?_eq_some_iff.1 hc).1
  have hsg : sgAt r.l f = true := by unfold sgAt; rw [hc]; exact hs
  have h1 := skipS_ge r.l dp (f + 1)
  have h2 := skipS_le r.l dp (f + 1) (by omega)
  have hbl := fun i => skip_are r.l dp (f + 1) i
  have hse : SE r.l dp f = SE r.l dp (skipS r.l dp (f + 1)) := by
    unfold SE
    obtain ⟨k, hk⟩ : ∃ k, r.l.length - f = k + 1 := ⟨r.l.length - f - 1, by omega⟩
    rw [hk, sgEnd, if_pos hsg]
    exact sgEnd_more _ _ _ _ _ (by omega) (by omega)
  have hbg : skipS r.l dp (f + 1) ≤ SE r.l dp (skipS r.l dp (f + 1)) := sgEnd_ge _ _ _ _
  unfold opdR
  rw [← hfe, hse]
  generalize skipS r.l dp (f + 1) = g at *
  generalize SE r.l dp g = bh at *
  cases priR r S bh dp with
  | error e => rfl
  | ok vz =>
    obtain ⟨v, z⟩ := vz
    unfold sgR
    simp only
    cases hfm : r.fm with
    | true => rfl
    | false =>
      rw [if_neg (by decide), if_neg (by decide)]
      have e1 : bh - f = 1 + ((g - (f + 1)) + (bh - g)) := by omega
      rw [e1, apS_split, apS_split, show f + 1 + (g - (f + 1)) = g by omega]
      cases apS r.l r.hr g (bh - g) v with
      | error e => rfl
      | ok v' =>
        simp only
        rw [apS_blank _ _ _ _ (fun i hi => hbl (f + 1 + i) (by omega) (by omega))]
        simp only
        rw [show (1 : Nat) = 0 + 1 from rfl, apS, Nat.add_zero, hc]
        simp only [Option.getD_some]
        rw [if_neg (by decide)]
        cases sgn r.hr c v' with
        | error e => rfl
        | ok v'' => simp only; rw [apS]
theorem numS_none (l : List UInt8) (k : UInt8) (sz vs : Int) (p : Nat) (hp : l.length ≤ p) : numS l k sz vs p = none := by
  have h1 : cnt l 9 p = 0 := by
    have : dg l p = false := by unfold dg; rw [List.getElem?_eq_none hp]
    simp [cnt, this]
  unfold numS
  rw [h1, Nat.add_zero]
  have h2 : fracN l p = 0 := by
    unfold fracN pt
    rw [List.getElem?_eq_none hp]; rfl
  rw [h2]; rfl
theorem opd_none (r : RS) (S : Nat → Nat → Res) (p dp : Nat) (hp : r.l.length ≤ skipS r.l dp p) : opdR r S p dp = .error 4 := by
  have h1 : sgAt r.l (skipS r.l dp p) = false := by unfold sgAt; rw [List.getElem?_eq_none hp]
  unfold opdR
  rw [SE_not _ _ _ h1]
  unfold priR
  rw [List.getElem?_eq_none hp, if_neg (by decide)]
  unfold numR
  rw [numS_none _ _ _ _ _ hp]
  rfl
theorem opd_bra (r : RS) (S : Nat → Nat → Res) (p dp : Nat) (hc : r.l[skipS r.l dp p]? = some 40) : opdR r S p dp = match braR r S (skipS r.l dp p) dp with
    | .error e => .error e
    | .ok (v, z) => if r.fm then .ok (0, z) else .ok (v, z) := by
  unfold opdR
  rw [SE_not _ _ _ (by unfold sgAt; rw [hc]; rfl)]
  unfold priR
  rw [hc, if_pos rfl]
  cases braR r S (skipS r.l dp p) dp with
  | error e => rfl
  | ok vz => obtain ⟨v, z⟩ := vz; unfold sgR; rw [Nat.sub_self]; rfl
theorem opd_else (r : RS) (S : Nat → Nat → Res) (p dp : Nat) (c : UInt8) (hc : r.l[skipS r.l dp p]? = some c) (h40 : c ≠ 40) (hs : isSg c = false) : opdR r S p dp = match numR r (skipS r.l dp p) with
    | .error e => .error e
    | .ok (v, z) => if r.fm then .ok (0, z) else .ok (v, z) := by
  unfold opdR
  rw [SE_not _ _ _ (by unfold sgAt; rw [hc]; exact hs)]
  unfold priR
  rw [hc, if_neg (by simpa using h40)]
  cases numR r (skipS r.l dp p) with
  | error e => rfl
  | ok vz => obtain ⟨v, z⟩ := vz; unfold sgR; rw [Nat.sub_self]; rfl

/-- The specification's reader, boxed. -/
abbrev RO (r : RS) : Obj := .cells #[.string r.s, .int .u8 r.sc.toNat, .int .i64 r.sz, .int .i64 r.vs, .int .i64 r.hr, .bool r.fm] 70
def Bx (b : Nat) (r : RS) (w : World) : Prop := w.heap[b]? = some (RO r)
section
variable {b : Nat} {r : RS} {w : World}
theorem Bx.c0 (h : Bx b r w) : w.cell? ⟨b, 0, none⟩ = some (.string r.s) := by simp [World.cell?, show w.heap[b]? = _ from h, RO]
theorem Bx.c1 (h : Bx b r w) : w.cell? ⟨b, 1, none⟩ = some (.int .u8 r.sc.toNat) := by simp [World.cell?, show w.heap[b]? = _ from h, RO]
theorem Bx.c2 (h : Bx b r w) : w.cell? ⟨b, 2, none⟩ = some (.int .i64 r.sz) := by simp [World.cell?, show w.heap[b]? = _ from h, RO]
theorem Bx.c3 (h : Bx b r w) : w.cell? ⟨b, 3, none⟩ = some (.int .i64 r.vs) := by simp [World.cell?, show w.heap[b]? = _ from h, RO]
theorem Bx.c4 (h : Bx b r w) : w.cell? ⟨b, 4, none⟩ = some (.int .i64 r.hr) := by simp [World.cell?, show w.heap[b]? = _ from h, RO]
theorem Bx.c5 (h : Bx b r w) : w.cell? ⟨b, 5, none⟩ = some (.bool r.fm) := by simp [World.cell?, show w.heap[b]? = _ from h, RO]
theorem Bx.lt (h : Bx b r w) : b < w.heap.size := (Array.getElem?_eq_some_iff.1 (show w.heap[b]? = _ from h)).1
theorem Bx.below {w' : World} (h : Bx b r w) (k : Below w.heap.size w w') : Bx b r w' := (k.block b h.lt).trans h
theorem Bx.new (w : World) (r : RS) : Bx w.heap.size r (w.alloc (RO r)) := heap_alloc_new _ _
end
/-- How the specification's reading ends. -/
def RxP (r : RS) (R : Res) (w : World) (e : Ending) (w' : World) : Prop :=
  Below w.heap.size w w' ∧ match R with
    | .ok (v, z) => ∃ v', ok9 v' ∧ (r.fm = false → v' = v) ∧ e = .returned (.tuple #[.int .i64 v', .int .i64 z, .int .i64 0])
    | .error x => x ≠ 0 ∧ ∃ n z, e = .returned (.tuple #[.int .i64 n, .int .i64 z, .int .i64 x])
def ROp (r : RS) (n : Nat) : Prop := ∀ (p dp : Nat) (w : World), p ≤ r.l.length → dp ≤ 20 → 2 * (r.l.length - p) + 2 ≤ n → Calls Tryd.prog 58 #[RA r, .int .i64 p, .int .i64 dp] w (RxP r (ex r n 0 0 p dp) w)
def RSm (r : RS) (n : Nat) : Prop := ∀ (p dp : Nat) (w : World), p ≤ r.l.length → dp ≤ 20 → 2 * (r.l.length - p) + 3 ≤ n → Calls Tryd.prog 41 #[RA r, .int .i64 p, .int .i64 dp] w (RxP r (ex r n 1 0 p dp) w)
end Go.Proofs.YteihpeffaeahlaaDoor
