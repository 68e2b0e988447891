/- Names that lead to blocks, ascending; and the map that the code keeps. -/
import Derived.Below
import Derived.Maps.OwnSet
import Derived.Maps.Views
import Derived.Laws.Strings
namespace Go.Proofs.Ytgpanlkcpnlejaa
open Go.RowKit Go.Maps
/-- A name and the block to which it leads. -/
structure Reg where
  nm : List UInt8
  v : Nat
def regD (r : Reg) : DataW Unit := .lit (.int .i64 (r.v : Int))
def regV (r : Reg) : Value := .pointer (some ⟨r.v, 0, none⟩)
def regElem (v : Value) : Option (DataW Unit × List MemPlace) :=
  match v with
  | .pointer none => some (.lit (.int .i64 (-1)), [])
  | .pointer (some a) => if a = ⟨a.block, 0, none⟩ then some (.lit (.int .i64 (a.block : Int)), []) else none
  | _ => none
theorem regElem_mk (r : Reg) : regElem (regV r) = some (regD r, []) := by simp [regElem, regV, regD]
theorem regElem_inv {v : Value} {r : Reg} {ps : List MemPlace} (h : regElem v = some (regD r, ps)) : v = regV r := by
  unfold regElem at h
  split at h
  · simp only [regD, Option.some.injEq, Prod.mk.injEq, DataW.lit.injEq, Lit.int.injEq] at h
    omega
  · rename_i a
    split at h
    · rename_i ha
      simp only [regD, Option.some.injEq, Prod.mk.injEq, DataW.lit.injEq, Lit.int.injEq] at h
      have hb : a.block = r.v := by omega
      unfold regV; rw [ha, hb]
    · cases h
  · cases h
/-- Names: one to twenty bytes, none of which is a blank, a control or a closing bracket. -/
def okB (c : UInt8) : Bool := decide (33 ≤ c.toNat) && decide (c.toNat ≤ 126) && !(c == 93)
def okNm (l : List UInt8) : Bool := decide (1 ≤ l.length) && decide (l.length ≤ 20) && l.all okB
def hasS (L : List Reg) (nm : List UInt8) : Bool := L.any fun r => r.nm == nm
def getS (L : List Reg) (nm : List UInt8) : Reg := (L.find? fun r => r.nm == nm).getD ⟨nm, 0⟩
def putS : List Reg → Reg → List Reg
  | [], r => [r]
  | x :: t, r => if x.nm = r.nm then r :: t else if Op.bytesLess x.nm r.nm then x :: putS t r else r :: x :: t
def delS (L : List Reg) (nm : List UInt8) : List Reg := L.filter fun r => !(r.nm == nm)
def Asc (L : List Reg) : Prop := L.Pairwise fun a b => Op.bytesLess a.nm b.nm = true
theorem hasS_nil (nm : List UInt8) : hasS [] nm = false := rfl
theorem getS_nm (L : List Reg) (nm : List UInt8) : (getS L nm).nm = nm := by
  unfold getS
  cases h : L.find? fun r => r.nm == nm with
  | none => rfl
  | some r => have := List.find?_some h; simpa using this
theorem getS_of_not (L : List Reg) (nm : List UInt8) (h : hasS L nm = false) : getS L nm = ⟨nm, 0⟩ := by
  unfold getS
  rw [List.find?_eq_none.2]
  · rfl
  · intro x hx hc
    have : hasS L nm = true := List.any_eq_true.2 ⟨x, hx, hc⟩
    rw [h] at this; cases this
theorem getS_mem (L : List Reg) (nm : List UInt8) (h : hasS L nm = true) : getS L nm ∈ L := by
  unfold getS
  cases e : L.find? fun r => r.nm == nm with
  | none =>
    obtain ⟨x, hx, hc⟩ := List.any_eq_true.1 h
    exact absurd hc (List.find?_eq_none.1 e x hx)
  | some r => exact List.mem_of_find?_eq_some e
/- Order of names. -/
theorem blt_irrefl : ∀ a : List UInt8, Op.bytesLess a a = false
  | [] => rfl
  | a :: x => by simp [Op.bytesLess, blt_irrefl x]
theorem blt_trans : ∀ a b c : List UInt8, Op.bytesLess a b = true → Op.bytesLess b c = true → Op.bytesLess a c = true
  | [], [], _, h, _ => by simp [Op.bytesLess] at h
  | [], _ :: _, [], _, h => by simp [Op.bytesLess] at h
  | [], _ :: _, _ :: _, _, _ => rfl
  | _ :: _, [], _, h, _ => by simp [Op.bytesLess] at h
  | _ :: _, _ :: _, [], _, h => by simp [Op.bytesLess] at h
  | a :: x, b :: y, c :: z, h1, h2 => by
    simp only [Op.bytesLess, Bool.or_eq_true, decide_eq_true_eq, Bool.and_eq_true, beq_iff_eq] at h1 h2 ⊢
    rcases h1 with h1 | ⟨rfl, h1⟩
    · rcases h2 with h2 | ⟨rfl, h2⟩
      · left; rw [UInt8.lt_iff_toNat_lt] at *; omega
      · exact .inl h1
    · rcases h2 with h2 | ⟨rfl, h2⟩
      · exact .inl h2
      · exact .inr ⟨rfl, blt_trans x y z h1 h2⟩
theorem blt_total : ∀ a b : List UInt8, a ≠ b → Op.bytesLess a b = false → Op.bytesLess b a = true
  | [], [], h, _ => absurd rfl h
  | [], _ :: _, _, h => by simp [Op.bytesLess] at h
  | _ :: _, [], _, _ => rfl
  | a :: x, b :: y, h, h2 => by
    simp only [Op.bytesLess, Bool.or_eq_false_iff, decide_eq_false_iff_not, Bool.and_eq_false_iff] at h2
    simp only [Op.bytesLess, Bool.or_eq_true, decide_eq_true_eq, Bool.and_eq_true, beq_iff_eq]
    by_cases e : b = a
    · subst e
      right
      refine ⟨rfl, blt_total x y (fun e => h (by rw [e])) ?_⟩
      rcases h2.2 with h3 | h3
      · simp at h3
      · exact h3
    · left
      have h3 := h2.1
      rw [UInt8.lt_iff_toNat_lt] at h3 ⊢
      have : a.toNat ≠ b.toNat := fun e2 => e (UInt8.toNat_inj.1 e2.symm)
      omega
theorem blt_ne {a b : List UInt8} (h : Op.bytesLess a b = true) : a ≠ b := by
  rintro rfl; rw [blt_irrefl] at h; cases h
/- has, get, length behind put and del. -/
theorem hasS_put : ∀ (L : List Reg) (r : Reg) (nm : List UInt8), hasS (putS L r) nm = (r.nm == nm || hasS L nm)
  | [], r, nm => by simp [putS, hasS]
  | x :: t, r, nm => by
    unfold putS
    split
    · rename_i h; simp [hasS, h]
    · split
      · have ih := hasS_put t r nm
        unfold hasS at ih ⊢
        rw [List.any_cons, ih, List.any_cons]
        cases (x.nm == nm) <;> cases (r.nm == nm) <;> simp
      · simp [hasS]
theorem getS_put_same : ∀ (L : List Reg) (r : Reg), getS (putS L r) r.nm = r
  | [], r => by simp [putS, getS]
  | x :: t, r => by
    unfold putS
    split
    · simp [getS]
    · rename_i hne
      split
      · have ih := getS_put_same t r
        unfold getS at ih ⊢
        have : (x.nm == r.nm) = false := by simpa using hne
        rw [List.find?_cons_of_neg (by simp [hne])]; exact ih
      · simp [getS]
theorem getS_put_other : ∀ (L : List Reg) (r : Reg) (nm : List UInt8), r.nm ≠ nm → getS (putS L r) nm = getS L nm
  | [], r, nm, h => by simp [putS, getS, h]
  | x :: t, r, nm, h => by
    unfold putS
    split
    · rename_i hx
      have hx2 : x.nm ≠ nm := by rw [hx]; exact h
      unfold getS
      rw [List.find?_cons_of_neg (by simp [h]), List.find?_cons_of_neg (by simp [hx2])]
    · split
      · have ih := getS_put_other t r nm h
        unfold getS at ih ⊢
        by_cases hx : x.nm = nm
        · rw [List.find?_cons_of_pos (by simp [hx]), List.find?_cons_of_pos (by simp [hx])]
        · rw [List.find?_cons_of_neg (by simp [hx]), List.find?_cons_of_neg (by simp [hx])]; exact ih
      · unfold getS
        rw [List.find?_cons_of_neg (by simp [h])]
theorem mem_put : ∀ (L : List Reg) (r x : Reg), x ∈ putS L r → x = r ∨ x ∈ L
  | [], r, x, h => by simp [putS] at h; exact .inl h
  | y :: t, r, x, h => by
    unfold putS at h
    split at h
    · rcases List.mem_cons.1 h with h | h
      · exact .inl h
      · exact .inr (by simp [h])
    · split at h
      · rcases List.mem_cons.1 h with h | h
        · exact .inr (by simp [h])
        · rcases mem_put t r x h with h | h
          · exact .inl h
          · exact .inr (by simp [h])
      · rcases List.mem_cons.1 h with h | h
        · exact .inl h
        · exact .inr h
theorem asc_put : ∀ (L : List Reg) (r : Reg), Asc L → Asc (putS L r)
  | [], r, _ => by simp [putS, Asc]
  | x :: t, r, h => by
    obtain ⟨h1, h2⟩ := List.pairwise_cons.1 h
    unfold putS
    split
    · rename_i e
      exact List.pairwise_cons.2 ⟨fun y hy => by rw [← e]; exact h1 y hy, h2⟩
    · rename_i hne
      split
      · rename_i hlt
        refine List.pairwise_cons.2 ⟨fun y hy => ?_, asc_put t r h2⟩
        rcases mem_put t r y hy with rfl | hy
        · exact hlt
        · exact h1 y hy
      · rename_i hlt
        have hr : Op.bytesLess r.nm x.nm = true := blt_total _ _ hne (by simpa using hlt)
        refine List.pairwise_cons.2 ⟨fun y hy => ?_, h⟩
        rcases List.mem_cons.1 hy with rfl | hy
        · exact hr
        · exact blt_trans _ _ _ hr (h1 y hy)
theorem not_has_of_lt (x : Reg) (t : List Reg) (nm : List UInt8) (h : Asc (x :: t)) (hx : Op.bytesLess nm x.nm = true) : hasS (x :: t) nm = false := by
  obtain ⟨h1, _⟩ := List.pairwise_cons.1 h
  unfold hasS
  rw [List.any_eq_false]
  intro y hy
  have hlt : Op.bytesLess nm y.nm = true := by
    rcases List.mem_cons.1 hy with rfl | hy
    · exact hx
    · exact blt_trans _ _ _ hx (h1 y hy)
  have := blt_ne hlt
  simpa using Ne.symm this
theorem len_put : ∀ (L : List Reg) (r : Reg), Asc L → (putS L r).length = if hasS L r.nm then L.length else L.length + 1
  | [], r, _ => by simp [putS, hasS]
  | x :: t, r, h => by
    obtain ⟨h1, h2⟩ := List.pairwise_cons.1 h
    unfold putS
    split
    · rename_i e; simp [hasS, e]
    · rename_i hne
      split
      · have ih := len_put t r h2
        have e : hasS (x :: t) r.nm = hasS t r.nm := by simp [hasS, hne]
        rw [List.length_cons, ih, e]
        split <;> simp
      · rename_i hlt
        rw [not_has_of_lt x t r.nm h (blt_total _ _ hne (by simpa using hlt))]; simp
theorem hasS_del (L : List Reg) (nm nm' : List UInt8) : hasS (delS L nm) nm' = (!(nm == nm') && hasS L nm') := by
  unfold hasS delS
  rw [List.any_filter]
  induction L with
  | nil => simp
  | cons x t ih =>
    rw [List.any_cons, List.any_cons, ih]
    by_cases e : x.nm = nm'
    · subst e
      by_cases e2 : nm = x.nm
      · subst e2; simp
      · have : (x.nm == nm) = false := by simpa using Ne.symm e2
        have h3 : (nm == x.nm) = false := by simpa using e2
        simp [this, h3]
    · have : (x.nm == nm') = false := by simpa using e
      simp [this]
theorem getS_del (L : List Reg) (nm nm' : List UInt8) (h : nm ≠ nm') : getS (delS L nm) nm' = getS L nm' := by
  unfold getS delS
  induction L with
  | nil => rfl
  | cons x t ih =>
    by_cases e : x.nm = nm
    · rw [List.filter_cons_of_neg (by simp [e]), List.find?_cons_of_neg (by simp [e, h])]; exact ih
    · rw [List.filter_cons_of_pos (by simp [e])]
      by_cases e2 : x.nm = nm'
      · rw [List.find?_cons_of_pos (by simp [e2]), List.find?_cons_of_pos (by simp [e2])]
      · rw [List.find?_cons_of_neg (by simp [e2]), List.find?_cons_of_neg (by simp [e2])]; exact ih
theorem asc_del (L : List Reg) (nm : List UInt8) (h : Asc L) : Asc (delS L nm) := List.Pairwise.filter _ h
theorem len_del (L : List Reg) (nm : List UInt8) (h : Asc L) : (delS L nm).length + (if hasS L nm then 1 else 0) = L.length := by
  induction L with
  | nil => rfl
  | cons x t ih =>
    obtain ⟨h1, h2⟩ := List.pairwise_cons.1 h
    have ih := ih h2
    by_cases e : x.nm = nm
    · have hn : hasS t nm = false := by
        unfold hasS; rw [List.any_eq_false]
        intro y hy
        have := blt_ne (h1 y hy)
        rw [e] at this
        simpa using Ne.symm this
      rw [hn] at ih
      have hh : hasS (x :: t) nm = true := by simp [hasS, e]
      unfold delS at ih ⊢
      rw [List.filter_cons_of_neg (by simp [e]), hh]
      simp at ih ⊢; omega
    · have hh : hasS (x :: t) nm = hasS t nm := by simp [hasS, e]
      unfold delS at ih ⊢
      rw [List.filter_cons_of_pos (by simp [e]), hh, List.length_cons, List.length_cons]; omega
/- The map. -/
structure MapIs (D : DataW Unit) (L : List Reg) : Prop where
  has : ∀ nm, Maps.has D (.string nm) = hasS L nm
  at_ : ∀ nm, hasS L nm = true → ∀ z, D.atKey (.string nm) z = regD (getS L nm)
  size : Maps.size D = L.length
theorem MapIs.empty : MapIs (.map []) [] := ⟨fun _ => rfl, (fun _ h => by cases h), rfl⟩
theorem MapIs.put {D : DataW Unit} {L : List Reg} (h : MapIs D L) (hT : Tidy D) (hA : Asc L) (r : Reg) : MapIs (D.put (.string r.nm) (regD r)) (putS L r) := by
  refine ⟨fun nm => ?_, fun nm hn z => ?_, ?_⟩
  · rw [hasS_put]
    by_cases e : r.nm = nm
    · subst e; rw [has_put_same hT.isMap (k := .string r.nm) trivial]; simp
    · rw [has_put_other (by intro hc; exact e (Lit.string.inj hc).symm), h.has]
      have : (r.nm == nm) = false := by simpa using e
      simp [this]
  · by_cases e : r.nm = nm
    · subst e; rw [atKey_put_same hT.isMap (k := .string r.nm) trivial, getS_put_same]
    · rw [atKey_put_other (by intro hc; exact e (Lit.string.inj hc).symm), getS_put_other _ _ _ e]
      refine h.at_ nm ?_ z
      rw [hasS_put] at hn
      have : (r.nm == nm) = false := by simpa using e
      simpa [this] using hn
  · rw [size_put hT, h.has, len_put _ _ hA, h.size]
theorem MapIs.del {D : DataW Unit} {L : List Reg} (h : MapIs D L) (hT : Tidy D) (hA : Asc L) (nm : List UInt8) : MapIs (D.del (.string nm)) (delS L nm) := by
  refine ⟨fun nm' => ?_, fun nm' hn z => ?_, ?_⟩
  · rw [hasS_del]
    by_cases e : nm = nm'
    · subst e; rw [has_del_same]; simp
    · rw [has_del_other (by intro hc; exact e (Lit.string.inj hc).symm), h.has]
      have : (nm == nm') = false := by simpa using e
      simp [this]
  · rw [hasS_del] at hn
    simp only [Bool.and_eq_true, Bool.not_eq_true', beq_eq_false_iff_ne, ne_eq] at hn
    rw [atKey_del_other (by intro hc; exact hn.1 (Lit.string.inj hc).symm), getS_del _ _ _ hn.1]
    exact h.at_ nm' hn.2 z
  · have h1 := size_del (k := .string nm) hT
    have h2 := len_del L nm hA
    rw [h.has, h.size] at h1
    omega
end Go.Proofs.Ytgpanlkcpnlejaa
