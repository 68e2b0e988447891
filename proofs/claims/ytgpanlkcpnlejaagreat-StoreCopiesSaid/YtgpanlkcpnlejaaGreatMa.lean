/- Names that lead to blocks, ascending; and the map that the code keeps. -/
import Derived.Below
import Derived.Maps.OwnSet
import Derived.Maps.Views
import Derived.Laws.Strings
import Derived.Test.YtgpanlkcpnlejaaGreatProg
import Derived.WalkKit
import Derived.WalkLawsBesides
import Derived.WalkSpells
import Derived.IntWalk
import Derived.Deep.LoopGhost
import Derived.Laws.IdiomStrings
import Derived.Laws.Rows
import Derived.Laws.AppendOwn
import Derived.Lib.Hide
import Derived.Lib.ConvBytes
import Derived.LoopTactic
import Derived.Deep.QuietTactic
import Derived.BigQuiet
import Derived.StillTailTactics
import Derived.Deep.RegionWith
import Derived.Deep.DeepCutAuto
import Derived.Outline
set_option linter.unusedSimpArgs false
set_option linter.unusedVariables false
namespace Go.Proofs.YtgpanlkcpnlejaaGreat
open Go.RowKit Go.Maps
/-- A name and the block to which it leads. -/
structure Reg where
  nm : List UInt8
  v : Nat
def regD (r : Reg) : DataW Unit := .lit (.int .i64 (r.v : Int))
def regV (r : Reg) : Value := .pointer (some ⟨r.v, 0, none⟩)
def regElem (v : Value) : Option (DataW Unit × List MemPlace) :=
  match v with
  | .pointer none => some (.lit (.int .i64 (-1)), [])
  | .pointer (some a) => if a = ⟨a.block, 0, none⟩ then some (.lit (.int .i64 (a.block : Int)), []) else none
  | _ => none
theorem regElem_mk (r : Reg) : regElem (regV r) = some (regD r, []) := by simp [regElem, regV, regD]
theorem regElem_inv {v : Value} {r : Reg} {ps : List MemPlace} (h : regElem v = some (regD r, ps)) : v = regV r := by
  unfold regElem at h
  split at h
  · simp only [regD, Option.some.injEq, Prod.mk.injEq, DataW.lit.injEq, Lit.int.injEq] at h
    omega
  · rename_i a
    split at h
    · rename_i ha
      simp only [regD, Option.some.injEq, Prod.mk.injEq, DataW.lit.injEq, Lit.int.injEq] at h
      have hb : a.block = r.v := by omega
      unfold regV; rw [ha, hb]
    · cases h
  · cases h
/-- Names: one to twenty bytes, none of which is a blank, a control or a closing bracket. -/
def okB (c : UInt8) : Bool := decide (33 ≤ c.toNat) && decide (c.toNat ≤ 126) && !(c == 93)
def okNm (l : List UInt8) : Bool := decide (1 ≤ l.length) && decide (l.length ≤ 20) && l.all okB
def hasS (L : List Reg) (nm : List UInt8) : Bool := L.any fun r => r.nm == nm
def getS (L : List Reg) (nm : List UInt8) : Reg := (L.find? fun r => r.nm == nm).getD ⟨nm, 0⟩
def putS : List Reg → Reg → List Reg
  | [], r => [r]
  | x :: t, r => if x.nm = r.nm then r :: t else if Op.bytesLess x.nm r.nm then x :: putS t r else r :: x :: t
def delS (L : List Reg) (nm : List UInt8) : List Reg := L.filter fun r => !(r.nm == nm)
def Asc (L : List Reg) : Prop := L.Pairwise fun a b => Op.bytesLess a.nm b.nm = true
theorem hasS_nil (nm : List UInt8) : hasS [] nm = false := rfl
theorem getS_nm (L : List Reg) (nm : List UInt8) : (getS L nm).nm = nm := by
  unfold getS
  cases h : L.find? fun r => r.nm == nm with
  | none => rfl
  | some r => have := List.find?_some h; simpa using this
theorem getS_of_not (L : List Reg) (nm : List UInt8) (h : hasS L nm = false) : getS L nm = ⟨nm, 0⟩ := by
  unfold getS
  rw [List.find?_eq_none.2]
  · rfl
  · intro x hx hc
    have : hasS L nm = true := List.any_eq_true.2 ⟨x, hx, hc⟩
    rw [h] at this; cases this
theorem getS_mem (L : List Reg) (nm : List UInt8) (h : hasS L nm = true) : getS L nm ∈ L := by
  unfold getS
  cases e : L.find? fun r => r.nm == nm with
  | none =>
    obtain ⟨x, hx, hc⟩ := List.any_eq_true.1 h
    exact absurd hc (List.find?_eq_none.1 e x hx)
  | some r => exact List.mem_of_find?_eq_some e
/- Order of names. -/
theorem blt_irrefl : ∀ a : List UInt8, Op.bytesLess a a = false
  | [] => rfl
  | a :: x => by simp [Op.bytesLess, blt_irrefl x]
theorem blt_trans : ∀ a b c : List UInt8, Op.bytesLess a b = true → Op.bytesLess b c = true → Op.bytesLess a c = true
  | [], [], _, h, _ => by simp [Op.bytesLess] at h
  | [], _ :: _, [], _, h => by simp [Op.bytesLess] at h
  | [], _ :: _, _ :: _, _, _ => rfl
  | _ :: _, [], _, h, _ => by simp [Op.bytesLess] at h
  | _ :: _, _ :: _, [], _, h => by simp [Op.bytesLess] at h
  | a :: x, b :: y, c :: z, h1, h2 => by
    simp only [Op.bytesLess, Bool.or_eq_true, decide_eq_true_eq, Bool.and_eq_true, beq_iff_eq] at h1 h2 ⊢
    rcases h1 with h1 | ⟨rfl, h1⟩
    · rcases h2 with h2 | ⟨rfl, h2⟩
      · left; rw [UInt8.lt_iff_toNat_lt] at *; omega
      · exact .inl h1
    · rcases h2 with h2 | ⟨rfl, h2⟩
      · exact .inl h2
      · exact .inr ⟨rfl, blt_trans x y z h1 h2⟩
theorem blt_total : ∀ a b : List UInt8, a ≠ b → Op.bytesLess a b = false → Op.bytesLess b a = true
  | [], [], h, _ => absurd rfl h
  | [], _ :: _, _, h => by simp [Op.bytesLess] at h
  | _ :: _, [], _, _ => rfl
  | a :: x, b :: y, h, h2 => by
    simp only [Op.bytesLess, Bool.or_eq_false_iff, decide_eq_false_iff_not, Bool.and_eq_false_iff] at h2
    simp only [Op.bytesLess, Bool.or_eq_true, decide_eq_true_eq, Bool.and_eq_true, beq_iff_eq]
    by_cases e : b = a
    · subst e
      right
      refine ⟨rfl, blt_total x y (fun e => h (by rw [e])) ?_⟩
      rcases h2.2 with h3 | h3
      · simp at h3
      · exact h3
    · left
      have h3 := h2.1
      rw [UInt8.lt_iff_toNat_lt] at h3 ⊢
      have : a.toNat ≠ b.toNat := fun e2 => e (UInt8.toNat_inj.1 e2.symm)
      omega
theorem blt_ne {a b : List UInt8} (h : Op.bytesLess a b = true) : a ≠ b := by
  rintro rfl; rw [blt_irrefl] at h; cases h
/- has, get, length behind put and del. -/
theorem hasS_put : ∀ (L : List Reg) (r : Reg) (nm : List UInt8), hasS (putS L r) nm = (r.nm == nm || hasS L nm)
  | [], r, nm => by simp [putS, hasS]
  | x :: t, r, nm => by
    unfold putS
    split
    · rename_i h; simp [hasS, h]
    · split
      · have ih := hasS_put t r nm
        unfold hasS at ih ⊢
        rw [List.any_cons, ih, List.any_cons]
        cases (x.nm == nm) <;> cases (r.nm == nm) <;> simp
      · simp [hasS]
theorem getS_put_same : ∀ (L : List Reg) (r : Reg), getS (putS L r) r.nm = r
  | [], r => by simp [putS, getS]
  | x :: t, r => by
    unfold putS
    split
    · simp [getS]
    · rename_i hne
      split
      · have ih := getS_put_same t r
        unfold getS at ih ⊢
        have : (x.nm == r.nm) = false := by simpa using hne
        rw [List.find?_cons_of_neg (by simp [hne])]; exact ih
      · simp [getS]
theorem getS_put_other : ∀ (L : List Reg) (r : Reg) (nm : List UInt8), r.nm ≠ nm → getS (putS L r) nm = getS L nm
  | [], r, nm, h => by simp [putS, getS, h]
  | x :: t, r, nm, h => by
    unfold putS
    split
    · rename_i hx
      have hx2 : x.nm ≠ nm := by rw [hx]; exact h
      unfold getS
      rw [List.find?_cons_of_neg (by simp [h]), List.find?_cons_of_neg (by simp [hx2])]
    · split
      · have ih := getS_put_other t r nm h
        unfold getS at ih ⊢
        by_cases hx : x.nm = nm
        · rw [List.find?_cons_of_pos (by simp [hx]), List.find?_cons_of_pos (by simp [hx])]
        · rw [List.find?_cons_of_neg (by simp [hx]), List.find?_cons_of_neg (by simp [hx])]; exact ih
      · unfold getS
        rw [List.find?_cons_of_neg (by simp [h])]
theorem mem_put : ∀ (L : List Reg) (r x : Reg), x ∈ putS L r → x = r ∨ x ∈ L
  | [], r, x, h => by simp [putS] at h; exact .inl h
  | y :: t, r, x, h => by
    unfold putS at h
    split at h
    · rcases List.mem_cons.1 h with h | h
      · exact .inl h
      · exact .inr (by simp [h])
    · split at h
      · rcases List.mem_cons.1 h with h | h
        · exact .inr (by simp [h])
        · rcases mem_put t r x h with h | h
          · exact .inl h
          · exact .inr (by simp [h])
      · rcases List.mem_cons.1 h with h | h
        · exact .inl h
        · exact .inr h
theorem asc_put : ∀ (L : List Reg) (r : Reg), Asc L → Asc (putS L r)
  | [], r, _ => by simp [putS, Asc]
  | x :: t, r, h => by
    obtain ⟨h1, h2⟩ := List.pairwise_cons.1 h
    unfold putS
    split
    · rename_i e
      exact List.pairwise_cons.2 ⟨fun y hy => by rw [← e]; exact h1 y hy, h2⟩
    · rename_i hne
      split
      · rename_i hlt
        refine List.pairwise_cons.2 ⟨fun y hy => ?_, asc_put t r h2⟩
        rcases mem_put t r y hy with rfl | hy
        · exact hlt
        · exact h1 y hy
      · rename_i hlt
        have hr : Op.bytesLess r.nm x.nm = true := blt_total _ _ hne (by simpa using hlt)
        refine List.pairwise_cons.2 ⟨fun y hy => ?_, h⟩
        rcases List.mem_cons.1 hy with rfl | hy
        · exact hr
        · exact blt_trans _ _ _ hr (h1 y hy)
theorem not_has_of_lt (x : Reg) (t : List Reg) (nm : List UInt8) (h : Asc (x :: t)) (hx : Op.bytesLess nm x.nm = true) : hasS (x :: t) nm = false := by
  obtain ⟨h1, _⟩ := List.pairwise_cons.1 h
  unfold hasS
  rw [List.any_eq_false]
  intro y hy
  have hlt : Op.bytesLess nm y.nm = true := by
    rcases List.mem_cons.1 hy with rfl | hy
    · exact hx
    · exact blt_trans _ _ _ hx (h1 y hy)
  have := blt_ne hlt
  simpa using Ne.symm this
theorem len_put : ∀ (L : List Reg) (r : Reg), Asc L → (putS L r).length = if hasS L r.nm then L.length else L.length + 1
  | [], r, _ => by simp [putS, hasS]
  | x :: t, r, h => by
    obtain ⟨h1, h2⟩ := List.pairwise_cons.1 h
    unfold putS
    split
    · rename_i e; simp [hasS, e]
    · rename_i hne
      split
      · have ih := len_put t r h2
        have e : hasS (x :: t) r.nm = hasS t r.nm := by simp [hasS, hne]
        rw [List.length_cons, ih, e]
        split <;> simp
      · rename_i hlt
        rw [not_has_of_lt x t r.nm h (blt_total _ _ hne (by simpa using hlt))]; simp
theorem hasS_del (L : List Reg) (nm nm' : List UInt8) : hasS (delS L nm) nm' = (!(nm == nm') && hasS L nm') := by
  unfold hasS delS
  rw [List.any_filter]
  induction L with
  | nil => simp
  | cons x t ih =>
    rw [List.any_cons, List.any_cons, ih]
    by_cases e : x.nm = nm'
    · subst e
      by_cases e2 : nm = x.nm
      · subst e2; simp
      · have : (x.nm == nm) = false := by simpa using Ne.symm e2
        have h3 : (nm == x.nm) = false := by simpa using e2
        simp [this, h3]
    · have : (x.nm == nm') = false := by simpa using e
      simp [this]
theorem getS_del (L : List Reg) (nm nm' : List UInt8) (h : nm ≠ nm') : getS (delS L nm) nm' = getS L nm' := by
  unfold getS delS
  induction L with
  | nil => rfl
  | cons x t ih =>
    by_cases e : x.nm = nm
    · rw [List.filter_cons_of_neg (by simp [e]), List.find?_cons_of_neg (by simp [e, h])]; exact ih
    · rw [List.filter_cons_of_pos (by simp [e])]
      by_cases e2 : x.nm = nm'
      · rw [List.find?_cons_of_pos (by simp [e2]), List.find?_cons_of_pos (by simp [e2])]
      · rw [List.find?_cons_of_neg (by simp [e2]), List.find?_cons_of_neg (by simp [e2])]; exact ih
theorem asc_del (L : List Reg) (nm : List UInt8) (h : Asc L) : Asc (delS L nm) := List.Pairwise.filter _ h
theorem len_del (L : List Reg) (nm : List UInt8) (h : Asc L) : (delS L nm).length + (if hasS L nm then 1 else 0) = L.length := by
  induction L with
  | nil => rfl
  | cons x t ih =>
    obtain ⟨h1, h2⟩ := List.pairwise_cons.1 h
    have ih := ih h2
    by_cases e : x.nm = nm
    · have hn : hasS t nm = false := by
        unfold hasS; rw [List.any_eq_false]
        intro y hy
        have := blt_ne (h1 y hy)
        rw [e] at this
        simpa using Ne.symm this
      rw [hn] at ih
      have hh : hasS (x :: t) nm = true := by simp [hasS, e]
      unfold delS at ih ⊢
      rw [List.filter_cons_of_neg (by simp [e]), hh]
      simp at ih ⊢; omega
    · have hh : hasS (x :: t) nm = hasS t nm := by simp [hasS, e]
      unfold delS at ih ⊢
      rw [List.filter_cons_of_pos (by simp [e]), hh, List.length_cons, List.length_cons]; omega
/- The map. -/
structure MapIs (D : DataW Unit) (L : List Reg) : Prop where
  has : ∀ nm, Maps.has D (.string nm) = hasS L nm
  at_ : ∀ nm, hasS L nm = true → ∀ z, D.atKey (.string nm) z = regD (getS L nm)
  size : Maps.size D = L.length
theorem MapIs.empty : MapIs (.map []) [] := ⟨fun _ => rfl, (fun _ h => by cases h), rfl⟩
theorem MapIs.put {D : DataW Unit} {L : List Reg} (h : MapIs D L) (hT : Tidy D) (hA : Asc L) (r : Reg) : MapIs (D.put (.string r.nm) (regD r)) (putS L r) := by
  refine ⟨fun nm => ?_, fun nm hn z => ?_, ?_⟩
  · rw [hasS_put]
    by_cases e : r.nm = nm
    · subst e; rw [has_put_same hT.isMap (k := .string r.nm) trivial]; simp
    · rw [has_put_other (by intro hc; exact e (Lit.string.inj hc).symm), h.has]
      have : (r.nm == nm) = false := by simpa using e
      simp [this]
  · by_cases e : r.nm = nm
    · subst e; rw [atKey_put_same hT.isMap (k := .string r.nm) trivial, getS_put_same]
    · rw [atKey_put_other (by intro hc; exact e (Lit.string.inj hc).symm), getS_put_other _ _ _ e]
      refine h.at_ nm ?_ z
      rw [hasS_put] at hn
      have : (r.nm == nm) = false := by simpa using e
      simpa [this] using hn
  · rw [size_put hT, h.has, len_put _ _ hA, h.size]
theorem MapIs.del {D : DataW Unit} {L : List Reg} (h : MapIs D L) (hT : Tidy D) (hA : Asc L) (nm : List UInt8) : MapIs (D.del (.string nm)) (delS L nm) := by
  refine ⟨fun nm' => ?_, fun nm' hn z => ?_, ?_⟩
  · rw [hasS_del]
    by_cases e : nm = nm'
    · subst e; rw [has_del_same]; simp
    · rw [has_del_other (by intro hc; exact e (Lit.string.inj hc).symm), h.has]
      have : (nm == nm') = false := by simpa using e
      simp [this]
  · rw [hasS_del] at hn
    simp only [Bool.and_eq_true, Bool.not_eq_true', beq_eq_false_iff_ne, ne_eq] at hn
    rw [atKey_del_other (by intro hc; exact hn.1 (Lit.string.inj hc).symm), getS_del _ _ _ hn.1]
    exact h.at_ nm' hn.2 z
  · have h1 := size_del (k := .string nm) hT
    have h2 := len_del L nm hA
    rw [h.has, h.size] at h1
    omega
end Go.Proofs.YtgpanlkcpnlejaaGreat
/- Bytes in a row; what a call leaves; names. -/
namespace Go.Proofs.YtgpanlkcpnlejaaGreat
open Go.RowKit Go.Maps
set_option maxRecDepth 100000
theorem byte_at (s : ByteArray) (k : Nat) (h : k < s.size) : s.data.toList[k]? = some s[k] := by
  rw [List.getElem?_eq_getElem (by simpa using h)]; rfl
/-- A row of bytes in a block of the call's own. -/
def RowB (b : Nat) (l : List UInt8) (w : World) : Prop := ∃ C n, w.heap[b]? = some (.cells C 5 (n, n + 1)) ∧ l.length ≤ n ∧ ∀ j (h : j < l.length), C[j]? = some (.int .u8 (l[j].toNat : Int))
theorem RowB.lt {b : Nat} {l : List UInt8} {w : World} (h : RowB b l w) : b < w.heap.size := by
  obtain ⟨C, n, hb, _⟩ := h
  exact (Array.getElem?_eq_some_iff.1 hb).1
theorem RowB.cell {b : Nat} {l : List UInt8} {w : World} (h : RowB b l w) (j : Nat) (hj : j < l.length) : w.cell? ⟨b, j, none⟩ = some (.int .u8 (l[j].toNat : Int)) := by
  obtain ⟨C, n, hb, _, hc⟩ := h
  simp [World.cell?, hb, hc j hj]
theorem RowB.fz {b : Nat} {l : List UInt8} {w : World} (h : RowB b l w) (j : Nat) (hj : j < l.length) : w.frozen? ⟨b, j, none⟩ = false := by
  obtain ⟨C, n, hb, hn, hc⟩ := h
  simp [World.frozen?, hb]; omega
theorem RowB.set {b : Nat} {l : List UInt8} {w : World} (h : RowB b l w) (j : Nat) (hj : j < l.length) (c : UInt8) (x : Int) (hx : x = c.toNat) : RowB b (l.set j c) (w.setCell ⟨b, j, none⟩ (.int .u8 x)) := by
  obtain ⟨C, n, hb, hn, hc⟩ := h
  subst hx
  refine ⟨C.setIfInBounds j (.int .u8 (c.toNat : Int)), n, ?_, by simpa using hn, ?_⟩
  · simp [World.setCell, Array.getElem?_modify, hb]
  · intro i hi
    have hi' : i < l.length := by simpa using hi
    rw [Array.getElem?_setIfInBounds]
    by_cases e : j = i
    · subst e
      have hjc : j < C.size := (Array.getElem?_eq_some_iff.1 (hc j hj)).1
      simp [hjc]
    · simp [e, hc i hi']
theorem RowB.below {b B : Nat} {l : List UInt8} {w w' : World} (h : RowB b l w) (k : Below B w w') (hb : b < B) : RowB b l w' := by
  obtain ⟨C, n, h1, h2⟩ := h
  exact ⟨C, n, (k.block b hb).trans h1, h2⟩
theorem bytes_conv (s : ByteArray) (W : World) : ∃ cap W1, (convert 9 97 (.string s)).run Tryz.prog W = .ok (.slice (some ⟨W.heap.size, 0, none⟩) s.size cap) W1 ∧ RowB W.heap.size s.data.toList W1 ∧ Below W.heap.size W W1 ∧ W1.heap.size = W.heap.size + 1 := by
  refine ⟨_, _, Lib.run_convert_string_bytes W 9 97 5 s Tryz.underlying9 Tryz.underlying97 Tryz.underlying5, ?_, ?_, Lib.bytesWorld_size W 5 s⟩
  · refine ⟨_, _, Lib.bytesWorld_at_new W 5 s, ?_, ?_⟩
    · rw [show s.data.toList.length = s.data.size by simp]; simp [Lib.bytesCells]
    · intro j hj
      have hj' : j < s.data.size := by simpa using hj
      have hj2 : j < (s.data.map fun b => Value.int .u8 (b.toNat : Int)).size := by simpa using hj'
      unfold Lib.bytesCells
      rw [Array.getElem?_append_left hj2]
      simp only [Array.getElem?_map, Array.getElem?_eq_getElem hj', Option.map_some, Array.getElem_toList]
  · exact ⟨rfl, by simp [Lib.bytesWorld, World.freeze, World.alloc, World.drew, -World.alloc_eq, -World.drew_eq], by simp [Lib.bytesWorld, World.freeze, World.alloc, World.drew, -World.alloc_eq, -World.drew_eq], by rw [Lib.bytesWorld_size]; omega, fun k hk => Lib.bytesWorld_at_old W 5 s k hk⟩
/-- Of the blocks that were there, those of S alone may have turned. -/
structure Kept (S : Nat → Prop) (w w' : World) : Prop where
  os : w'.os = w.os
  tape : w'.tape = w.tape
  output : w'.output = w.output
  size : w.heap.size ≤ w'.heap.size
  block : ∀ k, k < w.heap.size → ¬ S k → w'.heap[k]? = w.heap[k]?
theorem Kept.refl (S : Nat → Prop) (w : World) : Kept S w w := ⟨rfl, rfl, rfl, Nat.le_refl _, fun _ _ _ => rfl⟩
theorem Kept.trans {S : Nat → Prop} {u v w : World} (h : Kept S u v) (k : Kept S v w) : Kept S u w :=
  ⟨k.os.trans h.os, k.tape.trans h.tape, k.output.trans h.output, Nat.le_trans h.size k.size, fun i hi hs => (k.block i (Nat.lt_of_lt_of_le hi h.size) hs).trans (h.block i hi hs)⟩
theorem Kept.of {S : Nat → Prop} {w w' : World} (h : Below w.heap.size w w') : Kept S w w' := ⟨h.os, h.tape, h.output, h.size, fun k hk _ => h.block k hk⟩
theorem Kept.to {S : Nat → Prop} {w w' : World} {B : Nat} (h : Kept S w w') (hB : B ≤ w.heap.size) (hS : ∀ k, S k → B ≤ k) : Below B w w' :=
  ⟨h.os, h.tape, h.output, h.size, fun k hk => h.block k (by omega) (fun hs => by have := hS k hs; omega)⟩
theorem Kept.mono {S T : Nat → Prop} {w w' : World} (h : Kept S w w') (hT : ∀ k, S k → T k) : Kept T w w' := ⟨h.os, h.tape, h.output, h.size, fun k hk hs => h.block k hk fun c => hs (hT k c)⟩
theorem Kept.grown {b : Nat} {w w' : World} (h : w.grownBy w' (some b)) : Kept (· = b) w w' :=
  ⟨h.os, h.tape, h.output, h.size, fun k hk hs => h.block k hk (by simpa using hs)⟩
theorem Kept.below {S : Nat → Prop} {u w w' : World} (h : Kept S u w) (k : Below w.heap.size w w') : Kept S u w' := h.trans (.of k)
/- Names. -/
def VnR (s : ByteArray) (w : World) (b k : Nat) (i v : Value) (wr : World) : Prop :=
  ∃ j, k + j = s.size ∧ i = .int .i64 j ∧ (s.data.toList.take j).all okB = true ∧ RowB b s.data.toList wr ∧ Below w.heap.size w wr
theorem okNm_eq (s : ByteArray) : okNm s.data.toList = (decide (1 ≤ s.size) && decide (s.size ≤ 20) && s.data.toList.all okB) := by
  unfold okNm; rw [show s.data.toList.length = s.size by simp]
set_option maxHeartbeats 1000000 in
theorem validName_any (s : ByteArray) (w : World) : Calls Tryz.prog 50 #[.string s] w fun e w' => e = .returned (.bool (okNm s.data.toList)) ∧ Below w.heap.size w w' := by
  have HE := Lib.hid (okNm_eq s)
  by_cases h1 : s.size < 1
  · have d1 : decide ((s.size : Int) < 1) = true := decide_eq_true (by omega)
    have HX := Lib.hid (show (decide (1 ≤ s.size) && decide (s.size ≤ 20) && s.data.toList.all okB) = false by rw [decide_eq_false (by omega)]; rfl)
    clear h1
    go_enter Tryz.func50, Tryz.ntmps50
    go_wp2_with fail
    go_ret
    rw [HE.out, HX.out]
    exact ⟨rfl, Below.refl _ _⟩
  have d1 : decide ((s.size : Int) < 1) = false := decide_eq_false (by omega)
  by_cases h2 : 20 < s.size
  · have d2 : decide ((20 : Int) < (s.size : Int)) = true := decide_eq_true (by omega)
    have HX := Lib.hid (show (decide (1 ≤ s.size) && decide (s.size ≤ 20) && s.data.toList.all okB) = false by rw [decide_eq_false (show ¬ s.size ≤ 20 by omega)]; simp)
    clear h1 h2
    go_enter Tryz.func50, Tryz.ntmps50
    go_wp2_with fail
    go_ret
    rw [HE.out, HX.out]
    exact ⟨rfl, Below.refl _ _⟩
  have d2 : decide ((20 : Int) < (s.size : Int)) = false := decide_eq_false (by omega)
  obtain ⟨cap, W1, hconv, hrow, hb1, hz1⟩ := bytes_conv s w
  have hsl : s.data.toList.length = s.size := by simp
  have hs20 : s.size ≤ 20 := by omega
  have HX := Lib.hid (show (decide (1 ≤ s.size) && decide (s.size ≤ 20) && s.data.toList.all okB) = s.data.toList.all okB by rw [decide_eq_true (show 1 ≤ s.size by omega), decide_eq_true hs20]; simp)
  have HST : Hid (VnR s w w.heap.size s.size (.int .i64 0) (.int .u8 0) W1) := Lib.hid ⟨0, rfl, rfl, rfl, hrow, hb1⟩
  have HSL := Lib.hid hsl
  clear hrow hb1 hz1 hsl h1 h2
  go_enter Tryz.func50, Tryz.ntmps50
  go_wp2_with fail
  go_loopg [16, 4] s.size (fun k i v wr => VnR s w w.heap.size k i v wr)
  case atStart => exact HST.out
  case round =>
    obtain ⟨j, hk, rfl, ha, hrow, hb⟩ := hrel
    have HK := Lib.hid hk
    have HA := Lib.hid ha
    have HROW := Lib.hid hrow
    have HB := Lib.hid hb
    by_cases hj : j < s.size
    · have dj : decide (j < s.size) = true := decide_eq_true hj
      have hjl : j < s.data.toList.length := by rw [HSL.out]; exact hj
      have hc := hrow.cell j hjl
      have HT := Lib.hid (show (s.data.toList.take (j + 1)).all okB = okB s.data.toList[j] by
        rw [List.take_succ_eq_append_getElem hjl, List.all_append, ha]; simp)
      have HALL : Hid (okB s.data.toList[j] = false → s.data.toList.all okB = false) := Lib.hid fun hd => by
        cases hq : s.data.toList.all okB with
        | false => rfl
        | true =>
          have := List.all_eq_true.1 hq _ (List.getElem_mem hjl)
          rw [hd] at this; cases this
      obtain ⟨c, hcc⟩ : ∃ c, c = s.data.toList[j] := ⟨_, rfl⟩
      rw [← hcc] at hc HT HALL
      clear hk ha hb hrow hconv hcc
      by_cases c1 : c.toNat < 33
      · have e1 : decide ((c.toNat : Int) < 33) = true := decide_eq_true (by omega)
        have HQ := Lib.hid (HALL.out (by unfold okB; rw [decide_eq_false (by omega)]; rfl))
        clear c1
        go_wp2_with fail
        go_ret
        rw [HE.out, HX.out, HQ.out]
        exact ⟨rfl, HB.out⟩
      have e1 : decide ((c.toNat : Int) < 33) = false := decide_eq_false (by omega)
      by_cases c2 : 126 < c.toNat
      · have e2 : decide ((126 : Int) < (c.toNat : Int)) = true := decide_eq_true (by omega)
        have HQ := Lib.hid (HALL.out (by unfold okB; rw [decide_eq_false (show ¬ c.toNat ≤ 126 by omega)]; simp))
        clear c1 c2
        go_wp2_with fail
        go_ret
        rw [HE.out, HX.out, HQ.out]
        exact ⟨rfl, HB.out⟩
      have e2 : decide ((126 : Int) < (c.toNat : Int)) = false := decide_eq_false (by omega)
      by_cases c3 : c = 93
      · have e3 : ((c.toNat : Int) == 93) = true := by rw [c3]; rfl
        have HQ := Lib.hid (HALL.out (by unfold okB; rw [c3]; rfl))
        clear c1 c2 c3
        go_wp2_with fail
        go_ret
        rw [HE.out, HX.out, HQ.out]
        exact ⟨rfl, HB.out⟩
      have e3 : ((c.toNat : Int) == 93) = false := by
        rw [beq_eq_false_iff_ne]; intro h; exact c3 (UInt8.toNat_inj.1 (by show c.toNat = 93; omega))
      have HQ : Hid (okB c = true) := Lib.hid (by
        unfold okB
        rw [decide_eq_true (by omega), decide_eq_true (by omega), show (c == 93) = false by simpa using c3]; rfl)
      clear c1 c2 c3
      go_wp2_with fail
      go_roundg (gk - 1)
      case measure => have := HK.out; omega
      case rel =>
        have := HK.out
        exact ⟨j + 1, by omega, by go_num, by rw [HT.out]; exact HQ.out, HROW.out, HB.out⟩
    · have dj : decide (j < s.size) = false := decide_eq_false hj
      have HQ := Lib.hid (show s.data.toList.all okB = true by rw [← List.take_of_length_le (l := s.data.toList) (i := j) (by rw [HSL.out]; omega)]; exact ha)
      clear hk ha hb hrow hconv
      go_wp2_with fail
      go_ret
      rw [HE.out, HX.out, HQ.out]
      exact ⟨rfl, HB.out⟩
end Go.Proofs.YtgpanlkcpnlejaaGreat
