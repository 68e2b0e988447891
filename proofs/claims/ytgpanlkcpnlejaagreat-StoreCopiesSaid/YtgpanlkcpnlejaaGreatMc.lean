/- Slices that are read, and their clones. -/
import Derived.Test.YtgpanlkcpnlejaaGreatMb
import Derived.Laws.AppendOwnNone
import Derived.Deep.RegionHeld3
import Derived.Maps.AppendAt
set_option linter.unusedSimpArgs false
set_option linter.unusedVariables false
namespace Go.Proofs.YtgpanlkcpnlejaaGreat
open Go.RowKit Go.Maps
set_option maxRecDepth 100000
/-- A slice reads as these cells, in a block of kind P. -/
def ReadsP (P : Nat → Prop) (w : World) (size : Nat) (A : Option Addr) (n : Nat) (xs : List Value) : Prop :=
  xs.length = n * size ∧ (0 < n → ∃ b off, A = some ⟨b, off, none⟩ ∧ P b ∧ ∀ j u, xs[j]? = some u → w.cell? ⟨b, off + j, none⟩ = some u)
theorem ReadsP.keep {P P' : Nat → Prop} {w w' : World} {size n : Nat} {A : Option Addr} {xs : List Value} (h : ReadsP P w size A n xs) (k : ∀ b, P b → w'.heap[b]? = w.heap[b]? ∧ P' b) : ReadsP P' w' size A n xs :=
  ⟨h.1, fun hn => by
    obtain ⟨b, off, e, hp, hc⟩ := h.2 hn
    exact ⟨b, off, e, (k b hp).2, fun j u hu => (World.cell?_of_block (w := w) (a := ⟨b, off + j, none⟩) (k b hp).1).trans (hc j u hu)⟩⟩
theorem ReadsP.of_own {P : Nat → Prop} {w : World} {base size n c : Nat} {e : TypeId} {A : Option Addr} {xs : List Value} (h : w.ownsRow base e size (.slice A n c) n xs) (hP : ∀ g cs, w.heap[g]? = some (.cells cs e (0, 0)) → base ≤ g → P g) : ReadsP P w size A n xs := by
  refine ⟨h.1, fun hn => ?_⟩
  rcases h.2 with ⟨hv, h0⟩ | ⟨g, cap, cur, hv, hb, hh, h1, h2, h3, h4⟩
  · omega
  · have hA : A = some ⟨g, 0, none⟩ := by injection hv
    subst hA
    refine ⟨g, 0, rfl, hP g cur hh hb, fun j u hu => ?_⟩
    rw [← h4, List.getElem?_take] at hu
    split at hu
    · rw [Array.getElem?_toList] at hu
      simp [World.cell?, hh, hu]
    · cases hu
theorem cell_add (b off j : Nat) : (⟨b, off, none⟩ : Addr).add j = ⟨b, off + j, none⟩ := by
  unfold Addr.add; split <;> simp_all
theorem row_shape {w : World} {base : Nat} {e : TypeId} {size n : Nat} {v : Value} {xs : List Value} (h : w.ownsRow base e size v n xs) : ∃ o cap, v = .slice o n cap ∧ n ≤ cap ∧ (cap : Int) ≤ 9223372036854775807 := by
  rcases h.2 with ⟨hv, hn⟩ | ⟨g, cap, cur, hv, _, _, h1, h2, _⟩
  · exact ⟨none, 0, by rw [hv, hn], by omega, by omega⟩
  · exact ⟨_, _, hv, h1, by unfold maxLen at h2; omega⟩
theorem own_kept {S : Nat → Prop} {w w' : World} {base : Nat} {e : TypeId} {size n : Nat} {v : Value} {xs : List Value} (h : w.ownsRow base e size v n xs) (k : Kept S w w') (hS : ∀ g, v.ownBlock = some g → ¬ S g) : w'.ownsRow base e size v n xs := by
  refine ⟨h.1, ?_⟩
  rcases h.2 with hn | ⟨g, cap, cur, hv, hb, hg, rest⟩
  · exact .inl hn
  · exact .inr ⟨g, cap, cur, hv, hb, (k.block g (lt_of_block hg) (hS g (by rw [hv]; rfl))).trans hg, rest⟩
theorem own_base {w : World} {base base' : Nat} {e : TypeId} {size n : Nat} {v : Value} {xs : List Value} (h : w.ownsRow base e size v n xs) (hb : base' ≤ base) : w.ownsRow base' e size v n xs := by
  refine ⟨h.1, ?_⟩
  rcases h.2 with hn | ⟨g, cap, cur, hv, hg, rest⟩
  · exact .inl hn
  · exact .inr ⟨g, cap, cur, hv, Nat.le_trans hb hg, rest⟩
theorem info_line : (Tryz.prog.info? 39).map (fun i => (i.zero, i.size, i.bytes)) = some (some (.agg #[.string ⟨#[]⟩, .bool false, .int .i64 0, .int .i64 0, .slice none 0 0]), 5, 64) := by kernel_rfl
theorem info_box : (Tryz.prog.info? 101).map (fun i => (i.zero, i.size, i.bytes)) = some (some (.agg #[.int .i64 0, .int .i64 0, .int .i64 0, .int .i64 0, .string ⟨#[]⟩, .string ⟨#[]⟩, .slice none 0 0]), 7, 88) := by kernel_rfl
theorem info_int : (Tryz.prog.info? 3).map (fun i => (i.zero, i.size, i.bytes)) = some (some (.int .i64 0), 1, 8) := by kernel_rfl

set_option maxHeartbeats 1000000 in
theorem cloneI_any {P : Nat → Prop} {w : World} {A : Option Addr} {n c : Nat} {xs : List Value} (h : ReadsP P w 1 A n xs) (h1 : ∀ u ∈ xs, u.oneCell' = true) (hA : A = none → n = 0) (hn : n * 8 ≤ 140737488355328) :
    Calls Tryz.prog 84 #[.slice A n c] w fun e w' => ∃ A' c', e = .returned (.slice A' n c') ∧ w'.ownsRow w.heap.size 3 1 (.slice A' n c') n xs ∧ Below w.heap.size w w' := by
  obtain ⟨i0, hi0, hz0, hz1, hz2⟩ := info_parts info_int
  have heq := fun (w : World) (o : Option Addr) (n c : Nat) => Lib.run_eql_slice_nil (P := Tryz.prog) w 99 3 o n c 0 0 Tryz.underlying99
  rcases A with _ | a
  · obtain rfl := hA rfl
    have hx : xs = [] := List.eq_nil_of_length_eq_zero (by simpa using h.1)
    subst hx
    clear h h1 hA
    go_enter Tryz.func84, Tryz.ntmps84
    go_wp2_with fail
    go_ret
    exact ⟨none, 0, rfl, World.ownsRow_nil _ _ _ _, Below.refl _ _⟩
  · have HROW0 := Lib.hid (World.ownsRow_made (base := w.heap.size) (e := 3) (size := 1) w #[] 0 (Nat.le_refl _) (by unfold maxLen; omega) rfl)
    have HL := Lib.hid h.1
    have HONE := Lib.hid h1
    have HSRC : Hid (∀ j u, xs[j]? = some u → (w.alloc (.cells #[] 3)).cell? (a.add j) = some u) := by
      refine Lib.hid (fun j u hu => ?_)
      have hpos : 0 < n := by
        rcases Nat.eq_zero_or_pos n with h0 | h0
        · rw [h0] at h
          have := h.1
          have hx : xs = [] := List.eq_nil_of_length_eq_zero (by simpa using this)
          rw [hx] at hu; simp at hu
        · exact h0
      obtain ⟨b, off, e, _, hc⟩ := h.2 hpos
      injection e with e
      subst e
      rw [cell_add]
      exact (World.cell?_alloc_lt w _ ⟨b, off + j, none⟩ (World.block_lt_of_cell? w _ (hc j u hu))).trans (hc j u hu)
    have hn9 : n ≤ 140737488355328 := by omega
    clear h h1 hA
    go_enter Tryz.func84, Tryz.ntmps84
    go_wp2_with (at_builtin; refine wpList_append_own _ rfl _ _ 99 rfl w.heap.size 3 i0 _ 1 8 Tryz.underlying99 hi0 hz0 hz1 hz2 rfl (by decide) _ _ _ rfl HROW0.out a n c xs rfl HL.out HSRC.out HONE.out (by unfold maxLen; omega) (by omega) (by simp) ?_
                 intro v3 w4 hown3 hgrow3 _
                 obtain ⟨o3, cap3, rfl, _, _⟩ := row_shape hown3
                 rw [Nat.zero_add, List.nil_append] at hown3
                 have hg3 : (w.alloc (.cells #[] 3)).grownBy w4 (some w.heap.size) := hgrow3
                 have HB4 := Lib.hid (((Below.refl w.heap.size w).alloc (Nat.le_refl _) (.cells #[] 3)).grown hg3 (by simp) (fun g e => by cases e; exact Nat.le_refl _))
                 have HO3 := Lib.hid hown3
                 clear hgrow3 hg3 hown3)
    go_ret
    exact ⟨o3, cap3, by simp, by have := HO3.out; simpa using this, HB4.out⟩

set_option maxHeartbeats 1000000 in
theorem cloneB_any {P : Nat → Prop} {w : World} {A : Option Addr} {n c : Nat} {xs : List Value} (h : ReadsP P w 7 A n xs) (h1 : ∀ u ∈ xs, u.oneCell' = true) (hA : A = none → n = 0) (hn : n * 88 ≤ 140737488355328) :
    Calls Tryz.prog 83 #[.slice A n c] w fun e w' => ∃ A' c', e = .returned (.slice A' n c') ∧ w'.ownsRow w.heap.size 101 7 (.slice A' n c') n xs ∧ Below w.heap.size w w' := by
  obtain ⟨i0, hi0, hz0, hz1, hz2⟩ := info_parts info_box
  have heq := fun (w : World) (o : Option Addr) (n c : Nat) => Lib.run_eql_slice_nil (P := Tryz.prog) w 37 101 o n c 0 0 Tryz.underlying37
  rcases A with _ | a
  · obtain rfl := hA rfl
    have hx : xs = [] := List.eq_nil_of_length_eq_zero (by simpa using h.1)
    subst hx
    clear h h1 hA
    go_enter Tryz.func83, Tryz.ntmps83
    go_wp2_with fail
    go_ret
    exact ⟨none, 0, rfl, World.ownsRow_nil _ _ _ _, Below.refl _ _⟩
  · have HROW0 := Lib.hid (World.ownsRow_made (base := w.heap.size) (e := 101) (size := 7) w #[] 0 (Nat.le_refl _) (by unfold maxLen; omega) rfl)
    have HL := Lib.hid h.1
    have HONE := Lib.hid h1
    have HSRC : Hid (∀ j u, xs[j]? = some u → (w.alloc (.cells #[] 101)).cell? (a.add j) = some u) := by
      refine Lib.hid (fun j u hu => ?_)
      have hpos : 0 < n := by
        rcases Nat.eq_zero_or_pos n with h0 | h0
        · rw [h0] at h
          have := h.1
          have hx : xs = [] := List.eq_nil_of_length_eq_zero (by simpa using this)
          rw [hx] at hu; simp at hu
        · exact h0
      obtain ⟨b, off, e, _, hc⟩ := h.2 hpos
      injection e with e
      subst e
      rw [cell_add]
      exact (World.cell?_alloc_lt w _ ⟨b, off + j, none⟩ (World.block_lt_of_cell? w _ (hc j u hu))).trans (hc j u hu)
    have hn9 : n ≤ 140737488355328 := by omega
    clear h h1 hA
    go_enter Tryz.func83, Tryz.ntmps83
    go_wp2_with (at_builtin; refine wpList_append_own _ rfl _ _ 37 rfl w.heap.size 101 i0 _ 7 88 Tryz.underlying37 hi0 hz0 hz1 hz2 rfl (by decide) _ _ _ rfl HROW0.out a n c xs rfl HL.out HSRC.out HONE.out (by unfold maxLen; omega) (by omega) (by simp) ?_
                 intro v3 w4 hown3 hgrow3 _
                 obtain ⟨o3, cap3, rfl, _, _⟩ := row_shape hown3
                 rw [Nat.zero_add, List.nil_append] at hown3
                 have hg3 : (w.alloc (.cells #[] 101)).grownBy w4 (some w.heap.size) := hgrow3
                 have HB4 := Lib.hid (((Below.refl w.heap.size w).alloc (Nat.le_refl _) (.cells #[] 101)).grown hg3 (by simp) (fun g e => by cases e; exact Nat.le_refl _))
                 have HO3 := Lib.hid hown3
                 clear hgrow3 hg3 hown3)
    go_ret
    exact ⟨o3, cap3, by simp, by have := HO3.out; simpa using this, HB4.out⟩

set_option maxHeartbeats 1000000 in
theorem cloneL_any {P : Nat → Prop} {w : World} {A : Option Addr} {n c : Nat} {xs : List Value} (h : ReadsP P w 5 A n xs) (h1 : ∀ u ∈ xs, u.oneCell' = true) (hA : A = none → n = 0) (hn : n * 64 ≤ 140737488355328) :
    Calls Tryz.prog 72 #[.slice A n c] w fun e w' => ∃ A' c', e = .returned (.slice A' n c') ∧ w'.ownsRow w.heap.size 39 5 (.slice A' n c') n xs ∧ Below w.heap.size w w' := by
  obtain ⟨i0, hi0, hz0, hz1, hz2⟩ := info_parts info_line
  have heq := fun (w : World) (o : Option Addr) (n c : Nat) => Lib.run_eql_slice_nil (P := Tryz.prog) w 31 39 o n c 0 0 Tryz.underlying31
  rcases A with _ | a
  · obtain rfl := hA rfl
    have hx : xs = [] := List.eq_nil_of_length_eq_zero (by simpa using h.1)
    subst hx
    clear h h1 hA
    go_enter Tryz.func72, Tryz.ntmps72
    go_wp2_with fail
    go_ret
    exact ⟨none, 0, rfl, World.ownsRow_nil _ _ _ _, Below.refl _ _⟩
  · have HROW0 := Lib.hid (World.ownsRow_made (base := w.heap.size) (e := 39) (size := 5) w #[] 0 (Nat.le_refl _) (by unfold maxLen; omega) rfl)
    have HL := Lib.hid h.1
    have HONE := Lib.hid h1
    have HSRC : Hid (∀ j u, xs[j]? = some u → (w.alloc (.cells #[] 39)).cell? (a.add j) = some u) := by
      refine Lib.hid (fun j u hu => ?_)
      have hpos : 0 < n := by
        rcases Nat.eq_zero_or_pos n with h0 | h0
        · rw [h0] at h
          have := h.1
          have hx : xs = [] := List.eq_nil_of_length_eq_zero (by simpa using this)
          rw [hx] at hu; simp at hu
        · exact h0
      obtain ⟨b, off, e, _, hc⟩ := h.2 hpos
      injection e with e
      subst e
      rw [cell_add]
      exact (World.cell?_alloc_lt w _ ⟨b, off + j, none⟩ (World.block_lt_of_cell? w _ (hc j u hu))).trans (hc j u hu)
    have hn9 : n ≤ 140737488355328 := by omega
    clear h h1 hA
    go_enter Tryz.func72, Tryz.ntmps72
    go_wp2_with (at_builtin; refine wpList_append_own _ rfl _ _ 31 rfl w.heap.size 39 i0 _ 5 64 Tryz.underlying31 hi0 hz0 hz1 hz2 rfl (by decide) _ _ _ rfl HROW0.out a n c xs rfl HL.out HSRC.out HONE.out (by unfold maxLen; omega) (by omega) (by simp) ?_
                 intro v3 w4 hown3 hgrow3 _
                 obtain ⟨o3, cap3, rfl, _, _⟩ := row_shape hown3
                 rw [Nat.zero_add, List.nil_append] at hown3
                 have hg3 : (w.alloc (.cells #[] 39)).grownBy w4 (some w.heap.size) := hgrow3
                 have HB4 := Lib.hid (((Below.refl w.heap.size w).alloc (Nat.le_refl _) (.cells #[] 39)).grown hg3 (by simp) (fun g e => by cases e; exact Nat.le_refl _))
                 have HO3 := Lib.hid hown3
                 clear hgrow3 hg3 hown3)
    go_ret
    exact ⟨o3, cap3, by simp, by have := HO3.out; simpa using this, HB4.out⟩
end Go.Proofs.YtgpanlkcpnlejaaGreat
/- Boxes and lines: what they are, and how they lie in memory. -/
namespace Go.Proofs.YtgpanlkcpnlejaaGreat
open Go.RowKit Go.Maps
set_option maxRecDepth 100000
/- Rows of structs: every element is m cells. -/
section
variable {α : Type} {f : α → List Value} {m : Nat}
theorem fm_len (hf : ∀ x, (f x).length = m) : ∀ l : List α, (l.flatMap f).length = l.length * m
  | [] => by simp
  | x :: t => by rw [List.flatMap_cons, List.length_append, fm_len hf t, hf, List.length_cons, Nat.add_mul]; omega
theorem fm_at (hf : ∀ x, (f x).length = m) : ∀ (l : List α) (i k : Nat) (x : α), l[i]? = some x → k < m → (l.flatMap f)[i * m + k]? = (f x)[k]?
  | [], i, k, x, h, _ => by simp at h
  | y :: t, 0, k, x, h, hk => by
    have : y = x := by simpa using h
    subst this
    rw [List.flatMap_cons, Nat.zero_mul, Nat.zero_add, List.getElem?_append_left (by rw [hf]; exact hk)]
  | y :: t, i + 1, k, x, h, hk => by
    rw [List.flatMap_cons, List.getElem?_append_right (by rw [hf, Nat.add_mul]; omega), hf]
    rw [show (i + 1) * m + k - m = i * m + k by rw [Nat.add_mul]; omega]
    exact fm_at hf t i k x (by simpa using h) hk
theorem fm_set (hf : ∀ x, (f x).length = m) : ∀ (l : List α) (i k : Nat) (x y : α) (u : Value), l[i]? = some x → k < m → f y = (f x).set k u → (l.set i y).flatMap f = (l.flatMap f).set (i * m + k) u
  | [], i, k, x, y, u, h, _, _ => by simp at h
  | z :: t, 0, k, x, y, u, h, hk, hy => by
    have : z = x := by simpa using h
    subst this
    rw [List.set_cons_zero, List.flatMap_cons, List.flatMap_cons, Nat.zero_mul, Nat.zero_add, hy, List.set_append_left _ _ (by rw [hf]; exact hk)]
  | z :: t, i + 1, k, x, y, u, h, hk, hy => by
    rw [List.set_cons_succ, List.flatMap_cons, List.flatMap_cons, fm_set hf t i k x y u (by simpa using h) hk hy]
    rw [List.set_append_right _ _ (by rw [hf, Nat.add_mul]; omega), hf, show (i + 1) * m + k - m = i * m + k by rw [Nat.add_mul]; omega]
theorem fm_one (h1 : ∀ x, ∀ u ∈ f x, u.oneCell' = true) (l : List α) : ∀ u ∈ l.flatMap f, u.oneCell' = true := by
  intro u hu
  obtain ⟨x, _, hx⟩ := List.mem_flatMap.1 hu
  exact h1 x u hx
end
theorem own_set {w : World} {base g size n c : Nat} {e : TypeId} {xs : List Value} (h : w.ownsRow base e size (.slice (some ⟨g, 0, none⟩) n c) n xs) (k : Nat) (hk : k < n * size) (u : Value) :
    (w.setCell ⟨g, k, none⟩ u).ownsRow base e size (.slice (some ⟨g, 0, none⟩) n c) n (xs.set k u) := by
  refine ⟨by rw [List.length_set]; exact h.1, ?_⟩
  rcases h.2 with ⟨hv, hn⟩ | ⟨g', cap, cur, hv, hb, hh, h1, h2, h3, h4⟩
  · cases hv
  · injection hv with e1 e2 e3
    injection e1 with e1
    injection e1 with e1
    subst e1 e3
    refine .inr ⟨g, c, cur.setIfInBounds k u, rfl, hb, ?_, h1, h2, by simpa using h3, ?_⟩
    · simp [World.setCell, Array.getElem?_modify, hh]
    · rw [Array.toList_setIfInBounds, ← h4, List.take_set]
/-- A slice that has elements lies at the head of a block. -/
theorem own_head {w : World} {base size n c : Nat} {e : TypeId} {A : Option Addr} {xs : List Value} (h : w.ownsRow base e size (.slice A n c) n xs) (hn : 0 < n) : ∃ g, A = some ⟨g, 0, none⟩ ∧ base ≤ g ∧ g < w.heap.size ∧ ∃ cur, w.heap[g]? = some (.cells cur e (0, 0)) ∧ n * size ≤ cur.size := by
  rcases h.2 with ⟨hv, h0⟩ | ⟨g, cap, cur, hv, hb, hh, h1, h2, h3, h4⟩
  · omega
  · injection hv with e1
    exact ⟨g, e1, hb, lt_of_block hh, cur, hh, by rw [h3]; exact Nat.mul_le_mul_right _ h1⟩
theorem own_cell {w : World} {base g size n c : Nat} {e : TypeId} {xs : List Value} (h : w.ownsRow base e size (.slice (some ⟨g, 0, none⟩) n c) n xs) (k : Nat) (u : Value) (hu : xs[k]? = some u) : w.cell? ⟨g, k, none⟩ = some u ∧ w.frozen? ⟨g, k, none⟩ = false := by
  rcases h.2 with ⟨hv, h0⟩ | ⟨g', cap, cur, hv, hb, hh, h1, h2, h3, h4⟩
  · cases hv
  · injection hv with e1
    injection e1 with e1
    injection e1 with e1
    subst e1
    rw [← h4, List.getElem?_take] at hu
    split at hu
    · rw [Array.getElem?_toList] at hu
      exact ⟨by simp [World.cell?, hh, hu], by simp [World.frozen?, hh]⟩
    · cases hu
/- Boxes. -/
structure Bx where
  kd : Int
  wd : Int
  fo : Int
  sz : Int
  nm : ByteArray
  co : ByteArray
  ns : List Int
/-- A box in memory: its numbers lie elsewhere. -/
structure RB where
  kd : Int
  wd : Int
  fo : Int
  sz : Int
  nm : ByteArray
  co : ByteArray
  no : Option Addr
  nn : Nat
  nc : Nat
def rbCs (r : RB) : List Value := [.int .i64 r.kd, .int .i64 r.wd, .int .i64 r.fo, .int .i64 r.sz, .string r.nm, .string r.co, .slice r.no r.nn r.nc]
theorem rb_len (r : RB) : (rbCs r).length = 7 := rfl
theorem rb_one (r : RB) : ∀ u ∈ rbCs r, u.oneCell' = true := by
  intro u hu
  simp only [rbCs, List.mem_cons, List.not_mem_nil, or_false] at hu
  rcases hu with rfl | rfl | rfl | rfl | rfl | rfl | rfl <;> rfl
def intCs (ns : List Int) : List Value := ns.map fun z => .int .i64 z
structure RbIs (P : TypeId → Nat → Prop) (w : World) (r : RB) (x : Bx) : Prop where
  kd : r.kd = x.kd
  wd : r.wd = x.wd
  fo : r.fo = x.fo
  sz : r.sz = x.sz
  nm : r.nm = x.nm
  co : r.co = x.co
  nn : r.nn = x.ns.length
  nil : r.no = none → r.nn = 0
  le : r.nn ≤ r.nc
  cap : (r.nc : Int) ≤ 9223372036854775807
  fit : r.nn * 8 ≤ 140737488355328
  ns : ReadsP (P 3) w 1 r.no r.nn (intCs x.ns)
theorem RbIs.keep {P P' : TypeId → Nat → Prop} {w w' : World} {r : RB} {x : Bx} (h : RbIs P w r x) (k : ∀ b, P 3 b → w'.heap[b]? = w.heap[b]? ∧ P' 3 b) : RbIs P' w' r x :=
  ⟨h.kd, h.wd, h.fo, h.sz, h.nm, h.co, h.nn, h.nil, h.le, h.cap, h.fit, h.ns.keep k⟩
/-- Element by element. -/
def All2 {α β : Type} (R : α → β → Prop) (xs : List α) (ys : List β) : Prop := xs.length = ys.length ∧ ∀ (i : Nat) (a : α) (b : β), xs[i]? = some a → ys[i]? = some b → R a b
theorem All2.mono {α β : Type} {R R' : α → β → Prop} {xs : List α} {ys : List β} (h : All2 R xs ys) (k : ∀ a b, R a b → R' a b) : All2 R' xs ys := ⟨h.1, fun i a b ha hb => k a b (h.2 i a b ha hb)⟩
/-- Boxes in a slice. -/
structure BxsAt (P : TypeId → Nat → Prop) (w : World) (A : Option Addr) (n : Nat) (bs : List Bx) : Prop where
  ex : ∃ rs : List RB, ReadsP (P 101) w 7 A n (rs.flatMap rbCs) ∧ All2 (RbIs P w) rs bs
  len : n = bs.length
theorem BxsAt.keep {P P' : TypeId → Nat → Prop} {w w' : World} {A : Option Addr} {n : Nat} {bs : List Bx} (h : BxsAt P w A n bs) (k : ∀ e, e = 3 ∨ e = 101 → ∀ b, P e b → w'.heap[b]? = w.heap[b]? ∧ P' e b) : BxsAt P' w' A n bs := by
  obtain ⟨⟨rs, h1, h2⟩, h3⟩ := h
  exact ⟨⟨rs, h1.keep (k _ (.inr rfl)), h2.mono fun _ _ h => h.keep (k _ (.inl rfl))⟩, h3⟩
/- Lines. -/
structure Ln where
  tx : ByteArray
  md : Bool
  up : Int
  dn : Int
  bx : List Bx
structure RL where
  tx : ByteArray
  md : Bool
  up : Int
  dn : Int
  bo : Option Addr
  bn : Nat
  bc : Nat
def rlCs (r : RL) : List Value := [.string r.tx, .bool r.md, .int .i64 r.up, .int .i64 r.dn, .slice r.bo r.bn r.bc]
theorem rl_len (r : RL) : (rlCs r).length = 5 := rfl
theorem rl_one (r : RL) : ∀ u ∈ rlCs r, u.oneCell' = true := by
  intro u hu
  simp only [rlCs, List.mem_cons, List.not_mem_nil, or_false] at hu
  rcases hu with rfl | rfl | rfl | rfl | rfl <;> rfl
structure RlIs (P : TypeId → Nat → Prop) (w : World) (r : RL) (l : Ln) : Prop where
  tx : r.tx = l.tx
  md : r.md = l.md
  up : r.up = l.up
  dn : r.dn = l.dn
  nil : r.bo = none → r.bn = 0
  le : r.bn ≤ r.bc
  cap : (r.bc : Int) ≤ 9223372036854775807
  bx : BxsAt P w r.bo r.bn l.bx
theorem RlIs.keep {P P' : TypeId → Nat → Prop} {w w' : World} {r : RL} {l : Ln} (h : RlIs P w r l) (k : ∀ e, e = 3 ∨ e = 101 → ∀ b, P e b → w'.heap[b]? = w.heap[b]? ∧ P' e b) : RlIs P' w' r l :=
  ⟨h.tx, h.md, h.up, h.dn, h.nil, h.le, h.cap, h.bx.keep k⟩
structure LnsAt (P : TypeId → Nat → Prop) (w : World) (A : Option Addr) (n : Nat) (ls : List Ln) : Prop where
  ex : ∃ rs : List RL, ReadsP (P 39) w 5 A n (rs.flatMap rlCs) ∧ All2 (RlIs P w) rs ls
  len : n = ls.length
theorem LnsAt.keep {P P' : TypeId → Nat → Prop} {w w' : World} {A : Option Addr} {n : Nat} {ls : List Ln} (h : LnsAt P w A n ls) (k : ∀ e b, P e b → w'.heap[b]? = w.heap[b]? ∧ P' e b) : LnsAt P' w' A n ls := by
  obtain ⟨⟨rs, h1, h2⟩, h3⟩ := h
  exact ⟨⟨rs, h1.keep (k _), h2.mono fun _ _ h => h.keep (fun e _ => k e)⟩, h3⟩
/-- Blocks of elements of a type. -/
def Tg (w : World) (e : TypeId) (b : Nat) : Prop := ∃ cs fz, w.heap[b]? = some (.cells cs e fz)
theorem Tg.keep {w w' : World} {e : TypeId} {b : Nat} (h : Tg w e b) (k : w'.heap[b]? = w.heap[b]?) : Tg w' e b := by
  obtain ⟨cs, fz, h1⟩ := h
  exact ⟨cs, fz, k.trans h1⟩
theorem Tg.ne {w : World} {e e' : TypeId} {b b' : Nat} (h : Tg w e b) (h' : Tg w e' b') (hne : e ≠ e') : b ≠ b' := by
  rintro rfl
  obtain ⟨cs, fz, h1⟩ := h
  obtain ⟨cs', fz', h1'⟩ := h'
  rw [h1] at h1'
  injection h1' with h1'
  injection h1' with _ ht
  exact hne ht
theorem Tg.lt {w : World} {e : TypeId} {b : Nat} (h : Tg w e b) : b < w.heap.size := by
  obtain ⟨cs, fz, h1⟩ := h
  exact lt_of_block h1
theorem Tg.below {w w' : World} {e : TypeId} {b : Nat} (h : Tg w e b) (k : Below w.heap.size w w') : w'.heap[b]? = w.heap[b]? ∧ Tg w' e b := ⟨k.block b h.lt, h.keep (k.block b h.lt)⟩
end Go.Proofs.YtgpanlkcpnlejaaGreat
/- copyBoxes. -/
namespace Go.Proofs.YtgpanlkcpnlejaaGreat
open Go.RowKit Go.Maps
set_option maxRecDepth 100000
theorem fresh_bx {b : Nat} {c0 c1 c2 c3 c4 c5 c6 : Value} {w : World} (h : w.heap[b]? = some (.cells #[c0, c1, c2, c3, c4, c5, c6] 101 (0, 0))) : (w.cell? ⟨b, 0, none⟩ = some c0 ∧ w.cell? ⟨b, 1, none⟩ = some c1 ∧ w.cell? ⟨b, 2, none⟩ = some c2 ∧ w.cell? ⟨b, 3, none⟩ = some c3 ∧ w.cell? ⟨b, 4, none⟩ = some c4 ∧ w.cell? ⟨b, 5, none⟩ = some c5 ∧ w.cell? ⟨b, 6, none⟩ = some c6) ∧ True := by
  simp [World.cell?, h]
/-- The cells of element j of a row of boxes. -/
theorem bx_cells {w : World} {base g n c : Nat} {rs : List RB} (h : w.ownsRow base 101 7 (.slice (some ⟨g, 0, none⟩) n c) n (rs.flatMap rbCs)) (j : Nat) (r : RB) (hr : rs[j]? = some r) :
    w.cell? ⟨g, j * 7, none⟩ = some (.int .i64 r.kd) ∧ w.cell? ⟨g, j * 7 + 1, none⟩ = some (.int .i64 r.wd) ∧ w.cell? ⟨g, j * 7 + 2, none⟩ = some (.int .i64 r.fo) ∧ w.cell? ⟨g, j * 7 + 3, none⟩ = some (.int .i64 r.sz) ∧ w.cell? ⟨g, j * 7 + 4, none⟩ = some (.string r.nm) ∧ w.cell? ⟨g, j * 7 + 5, none⟩ = some (.string r.co) ∧ w.cell? ⟨g, j * 7 + 6, none⟩ = some (.slice r.no r.nn r.nc) ∧ w.frozen? ⟨g, j * 7 + 6, none⟩ = false := by
  have key := fun k (hk : k < 7) => fm_at rb_len rs j k r hr hk
  exact ⟨(own_cell h _ _ (key 0 (by omega))).1, (own_cell h _ _ (key 1 (by omega))).1, (own_cell h _ _ (key 2 (by omega))).1, (own_cell h _ _ (key 3 (by omega))).1, (own_cell h _ _ (key 4 (by omega))).1, (own_cell h _ _ (key 5 (by omega))).1, (own_cell h _ _ (key 6 (by omega))).1, (own_cell h _ _ (key 6 (by omega))).2⟩
/-- Behind j rounds: the first j boxes have numbers of their own. -/
structure CbR (P : TypeId → Nat → Prop) (w : World) (A' : Option Addr) (n c' : Nat) (rs0 : List RB) (bs : List Bx) (j : Nat) (wr : World) : Prop where
  ex : ∃ rs : List RB, wr.ownsRow w.heap.size 101 7 (.slice A' n c') n (rs.flatMap rbCs) ∧ rs.length = n ∧ (∀ i r x, i < j → rs[i]? = some r → bs[i]? = some x → RbIs (Tg wr) wr r x) ∧ (∀ i, j ≤ i → rs[i]? = rs0[i]?)
  below : Below w.heap.size w wr
theorem CbR.step {P : TypeId → Nat → Prop} {w : World} {A' : Option Addr} {n c' : Nat} {rs0 : List RB} {bs : List Bx} {j g : Nat} {wr w2 : World} {rs : List RB} {r : RB} {x : Bx} {no : Option Addr} {nc : Nat} (hA : A' = some ⟨g, 0, none⟩) (hg : w.heap.size ≤ g)
    (ho : wr.ownsRow w.heap.size 101 7 (.slice A' n c') n (rs.flatMap rbCs)) (hl : rs.length = n) (h1 : ∀ i r x, i < j → rs[i]? = some r → bs[i]? = some x → RbIs (Tg wr) wr r x) (h2 : ∀ i, j ≤ i → rs[i]? = rs0[i]?) (hb : Below w.heap.size w wr)
    (hr : rs[j]? = some r) (hx : bs[j]? = some x) (hrx : RbIs P w r x) (hw2 : Below wr.heap.size wr w2) (hn2 : w2.ownsRow wr.heap.size 3 1 (.slice no r.nn nc) r.nn (intCs x.ns)) (hnil : no = none → r.nn = 0) :
    CbR P w A' n c' rs0 bs (j + 1) (w2.setCell ⟨g, j * 7 + 6, none⟩ (.slice no r.nn nc)) := by
  subst hA
  have hjl : j < rs.length := (List.getElem?_eq_some_iff.1 hr).1
  have hgl : g < wr.heap.size ∧ Tg wr 101 g := by
    obtain ⟨g', e, _, hlt, cur, hcur, _⟩ := own_head ho (by omega)
    injection e with e; injection e with e; subst e; exact ⟨hlt, cur, _, hcur⟩
  have ho2 := own_kept ho (Kept.of (S := fun _ => False) hw2) (fun _ _ h => h)
  have ho3 := own_set ho2 (j * 7 + 6) (by omega) (.slice no r.nn nc)
  have hset := fm_set rb_len rs j 6 r { r with no := no, nc := nc } (.slice no r.nn nc) hr (by omega) rfl
  rw [← hset] at ho3
  have hk : ∀ b, b ≠ g → (w2.setCell ⟨g, j * 7 + 6, none⟩ (.slice no r.nn nc)).heap[b]? = w2.heap[b]? := fun b hb => Below.heap_setCell _ _ _ _ hb
  refine ⟨⟨_, ho3, by simpa using hl, fun i r' x' hi hr' hx' => ?_, fun i hi => ?_⟩, (hb.trans (hw2.mono hb.size)).setCell (p := ⟨g, j * 7 + 6, none⟩) hg _⟩
  · rw [List.getElem?_set] at hr'
    by_cases e : j = i
    · subst e
      rw [if_pos rfl, if_pos hjl] at hr'
      obtain rfl := Option.some.inj hr'
      obtain rfl : x = x' := Option.some.inj (hx.symm.trans hx')
      obtain ⟨o, cap, hv, hcap1, hcap2⟩ := row_shape hn2
      injection hv with hv1 hv2 hv3
      subst hv3
      have hrd := ReadsP.of_own (P := fun b => wr.heap.size ≤ b ∧ Tg w2 3 b) hn2 (fun g' cs hg' hb' => ⟨hb', cs, _, hg'⟩)
      exact ⟨hrx.kd, hrx.wd, hrx.fo, hrx.sz, hrx.nm, hrx.co, hrx.nn, hnil, hcap1, hcap2, hrx.fit, hrd.keep fun b hb' => ⟨hk b (by omega), hb'.2.keep (hk b (by omega))⟩⟩
    · rw [if_neg e] at hr'
      refine (h1 i r' x' (by omega) hr' hx').keep fun b hb' => ?_
      have hne : b ≠ g := hb'.ne hgl.2 (by decide)
      have hw := hb'.below hw2
      exact ⟨(hk b hne).trans hw.1, hw.2.keep (hk b hne)⟩
  · rw [List.getElem?_set_ne (by omega)]; exact h2 i (by omega)
theorem own_none {w : World} {base size n c : Nat} {e : TypeId} {A : Option Addr} {xs : List Value} (h : w.ownsRow base e size (.slice A n c) n xs) : A = none → n = 0 := by
  rintro rfl
  rcases h.2 with ⟨_, h0⟩ | ⟨g, cap, cur, hv, _⟩
  · exact h0
  · cases hv
end Go.Proofs.YtgpanlkcpnlejaaGreat
/- A copy of a line. -/
namespace Go.Proofs.YtgpanlkcpnlejaaGreat
open Go.RowKit
set_option maxRecDepth 100000
set_option linter.unusedSimpArgs false
set_option linter.unusedVariables false
theorem fresh_lnC {b : Nat} {c0 c1 c2 c3 c4 : Value} {w : World} (h : w.heap[b]? = some (.cells #[c0, c1, c2, c3, c4] 39 (0, 0))) : (w.cell? ⟨b, 0, none⟩ = some c0 ∧ w.cell? ⟨b, 1, none⟩ = some c1 ∧ w.cell? ⟨b, 2, none⟩ = some c2 ∧ w.cell? ⟨b, 3, none⟩ = some c3 ∧ w.cell? ⟨b, 4, none⟩ = some c4) ∧ (w.frozen? ⟨b, 0, none⟩ = false ∧ w.frozen? ⟨b, 1, none⟩ = false ∧ w.frozen? ⟨b, 2, none⟩ = false ∧ w.frozen? ⟨b, 3, none⟩ = false ∧ w.frozen? ⟨b, 4, none⟩ = false) := by
  simp [World.cell?, World.frozen?, h]
theorem two_allocC (w : World) (X Y : Array Value) (e e' : TypeId) : ((w.alloc (.cells X e)).alloc (.cells Y e')).heap[w.heap.size]? = some (.cells X e (0, 0)) ∧ ((w.alloc (.cells X e)).alloc (.cells Y e')).heap[w.heap.size + 1]? = some (.cells Y e' (0, 0)) ∧ Below w.heap.size w ((w.alloc (.cells X e)).alloc (.cells Y e')) := by
  refine ⟨(Below.heap_alloc _ _ _ (by simp)).trans (heap_alloc_new _ _), ?_, ((Below.refl _ _).alloc (Nat.le_refl _) _).alloc (by simp) _⟩
  have := heap_alloc_new (w.alloc (.cells X e)) (.cells Y e')
  rwa [show (w.alloc (.cells X e)).heap.size = w.heap.size + 1 by simp] at this
abbrev LnOC (tx : ByteArray) (md : Bool) (up dn : Int) (bo : Option Addr) (bn bc : Nat) : Obj := .cells #[.string tx, .bool md, .int .i64 up, .int .i64 dn, .slice bo bn bc] 39 (0, 0)
abbrev ZL : Obj := LnOC ⟨#[]⟩ false 0 0 none 0 0
/-- A line is stored. -/
def LnW (w : World) (g : Nat) (tx : ByteArray) (md : Bool) (up dn : Int) (o : Option Addr) (n c : Nat) : World :=
  ((((w.setCell ⟨g, 0, none⟩ (.string tx)).setCell ⟨g, 1, none⟩ (.bool md)).setCell ⟨g, 2, none⟩ (.int .i64 up)).setCell ⟨g, 3, none⟩ (.int .i64 dn)).setCell ⟨g, 4, none⟩ (.slice o n c)
theorem lnW_at {w : World} {g : Nat} {tx : ByteArray} {md : Bool} {up dn : Int} {o : Option Addr} {n c : Nat} {c0 c1 c2 c3 c4 : Value} (h : w.heap[g]? = some (.cells #[c0, c1, c2, c3, c4] 39 (0, 0))) :
    (LnW w g tx md up dn o n c).heap[g]? = some (LnOC tx md up dn o n c) := by
  simp [LnW, World.setCell, Array.getElem?_modify, h]
theorem lnW_far {w : World} {g b : Nat} {tx : ByteArray} {md : Bool} {up dn : Int} {o : Option Addr} {n c : Nat} (hb : b ≠ g) : (LnW w g tx md up dn o n c).heap[b]? = w.heap[b]? := by
  unfold LnW
  rw [Below.heap_setCell _ _ _ _ hb, Below.heap_setCell _ _ _ _ hb, Below.heap_setCell _ _ _ _ hb, Below.heap_setCell _ _ _ _ hb, Below.heap_setCell _ _ _ _ hb]
theorem lnW_below {u w : World} {B g : Nat} {tx : ByteArray} {md : Bool} {up dn : Int} {o : Option Addr} {n c : Nat} (h : Below B u w) (hg : B ≤ g) : Below B u (LnW w g tx md up dn o n c) :=
  ((((h.setCell (p := ⟨g, 0, none⟩) hg _).setCell (p := ⟨g, 1, none⟩) hg _).setCell (p := ⟨g, 2, none⟩) hg _).setCell (p := ⟨g, 3, none⟩) hg _).setCell (p := ⟨g, 4, none⟩) hg _
/-- A line's result in a block. -/
theorem line_end {F : Func} {a : Act} {W' : World} {t g : Nat} {c0 c1 c2 c3 c4 : Value} {Q : Ending → World → Prop} (hF : F.results = #[.cell t 39]) (hd : a.defers = []) (h2 : a.tmps.getD t undef = .pointer (some ⟨g, 0, none⟩))
    (hg : W'.heap[g]? = some (.cells #[c0, c1, c2, c3, c4] 39 (0, 0))) (hQ : Q (.returned (.agg #[c0, c1, c2, c3, c4])) W') : bodyPost Tryz.prog F Q Exit.ret a W' := by
  have h2' : a.tmps[t]?.getD undef = .pointer (some ⟨g, 0, none⟩) := by simpa using h2
  refine bodyPost_ret (v := .agg #[c0, c1, c2, c3, c4]) ?_ hd hQ
  obtain ⟨⟨e0, e1, e2, e3, e4⟩, _⟩ := fresh_lnC hg
  simp [results, hF, h2', go_sem, e0, e1, e2, e3, e4]
theorem set_far {w : World} {g k b o : Nat} {v : Value} (h : b ≠ g) : (w.setCell ⟨g, k, none⟩ v).cell? ⟨b, o, none⟩ = w.cell? ⟨b, o, none⟩ :=
  World.cell?_of_block (a := ⟨b, o, none⟩) (Below.heap_setCell _ _ _ _ h)
theorem own_farC {w w' : World} {base size n : Nat} {e : TypeId} {v : Value} {xs : List Value} (h : w.ownsRow base e size v n xs) (k : ∀ g, v.ownBlock = some g → w'.heap[g]? = w.heap[g]?) : w'.ownsRow base e size v n xs := by
  refine ⟨h.1, ?_⟩
  rcases h.2 with hn | ⟨g, cap, cur, hv, hb, hg, rest⟩
  · exact .inl hn
  · exact .inr ⟨g, cap, cur, hv, hb, (k g (by rw [hv]; rfl)).trans hg, rest⟩
theorem own_tagC {w : World} {base size n g : Nat} {e : TypeId} {v : Value} {xs : List Value} (h : w.ownsRow base e size v n xs) (hg : v.ownBlock = some g) : Tg w e g ∧ base ≤ g := by
  rcases h.2 with ⟨hv, _⟩ | ⟨g', cap, cur, hv, hb, hh, _⟩
  · rw [hv] at hg; simp [Value.ownBlock] at hg
  · rw [hv] at hg
    have : g' = g := by simpa [Value.ownBlock] using hg
    subst this
    exact ⟨⟨cur, _, hh⟩, hb⟩
/-- Behind j rounds. -/
structure CyRC (P : TypeId → Nat → Prop) (w : World) (A' : Option Addr) (n c' : Nat) (rs0 : List RB) (bs : List Bx) (l0 : Obj) (j : Nat) (wr : World) : Prop where
  cb : CbR P w A' n c' rs0 bs j wr
  h0 : wr.heap[w.heap.size]? = some l0
  h1 : wr.heap[w.heap.size + 1]? = some ZL
set_option maxHeartbeats 4000000 in
theorem copyLine_any {P : TypeId → Nat → Prop} {w : World} (tx : ByteArray) (md : Bool) (up dn : Int) (bo : Option Addr) (bn bc : Nat) (bs : List Bx) (hb : BxsAt P w bo bn bs) (hP : ∀ e b, P e b → b < w.heap.size) (hA : bo = none → bn = 0) (hbn : bn ≤ 2000) :
    Calls Tryz.prog 73 #[.agg #[.string tx, .bool md, .int .i64 up, .int .i64 dn, .slice bo bn bc]] w fun e w' => ∃ bo' bc' rs, e = .returned (.agg #[.string tx, .bool md, .int .i64 up, .int .i64 dn, .slice bo' bn bc']) ∧ w'.ownsRow w.heap.size 101 7 (.slice bo' bn bc') bn (rs.flatMap rbCs) ∧ All2 (RbIs (Tg w') w') rs bs ∧ Below w.heap.size w w' := by
  obtain ⟨⟨rs0, hr0, ha0⟩, hlen⟩ := hb
  have hl0 : rs0.length = bn := by rw [ha0.1, hlen]
  have h2 := two_allocC w #[.string tx, .bool md, .int .i64 up, .int .i64 dn, .slice bo bn bc] #[.string ⟨#[]⟩, .bool false, .int .i64 0, .int .i64 0, .slice none 0 0] 39 39
  obtain ⟨W2, hW2⟩ : ∃ W2, W2 = (w.alloc (.cells #[.string tx, .bool md, .int .i64 up, .int .i64 dn, .slice bo bn bc] 39)).alloc (.cells #[.string ⟨#[]⟩, .bool false, .int .i64 0, .int .i64 0, .slice none 0 0] 39) := ⟨_, rfl⟩
  rw [← hW2] at h2
  have hcl := cloneB_any (c := bc) (w := W2) (P := fun b => b < w.heap.size) (hr0.keep fun b hb' => ⟨h2.2.2.block b (hP _ _ hb'), hP _ _ hb'⟩) (fm_one rb_one rs0) hA (by omega)
  rw [hW2] at hcl
  have HCL := Lib.hid hcl
  have HZ2 := Lib.hid (show w.heap.size + 2 ≤ W2.heap.size by rw [hW2]; simp)
  have H2 := Lib.hid h2
  have HW2 := Lib.hid hW2
  have HA0 : Hid (All2 (RbIs P w) rs0 bs) := Lib.hid ha0
  have HLEN := Lib.hid hlen
  have HL0 := Lib.hid hl0
  have HP := Lib.hid hP
  clear hr0 ha0 hlen hl0 hA hP h2 hcl hW2
  go_enter Tryz.func73, Tryz.ntmps73
  go_wp2_with fail
  refine HCL.out.mono ?_
  rintro e w3 ⟨A', c', rfl, hown, hb3⟩
  rw [← HW2.out] at hown hb3
  have hk0 := (hb3.block w.heap.size (by have := HZ2.out; omega)).trans H2.out.1
  have hk1 := (hb3.block (w.heap.size + 1) (by have := HZ2.out; omega)).trans H2.out.2.1
  obtain ⟨o, cap, hv, hcap1, hcap2⟩ := row_shape hown
  injection hv with hv1 hv2 hv3
  subst hv3
  have hset : (w3.setCell ⟨w.heap.size, 4, none⟩ (.slice A' bn c')).heap[w.heap.size]? = some (LnOC tx md up dn A' bn c') := by simp [World.setCell, Array.getElem?_modify, hk0]
  have hoth : ∀ b, b ≠ w.heap.size → (w3.setCell ⟨w.heap.size, 4, none⟩ (.slice A' bn c')).heap[b]? = w3.heap[b]? := fun b hb => Below.heap_setCell _ _ _ _ hb
  have HST : Hid (CyRC P w A' bn c' rs0 bs (LnOC tx md up dn A' bn c') 0 (w3.setCell ⟨w.heap.size, 4, none⟩ (.slice A' bn c'))) := Lib.hid
    ⟨⟨⟨rs0, own_base (own_farC hown (fun g hg => hoth g (by have := (own_tagC hown hg).2; have := HZ2.out; omega))) (by have := HZ2.out; omega), HL0.out, fun i r x hi => by omega, fun _ _ => rfl⟩,
      (H2.out.2.2.trans (hb3.mono (by have := HZ2.out; omega))).setCell (p := ⟨w.heap.size, 4, none⟩) (Nat.le_refl _) _⟩, hset, (hoth _ (by omega)).trans hk1⟩
  obtain ⟨⟨p0, p1, p2, p3, p4⟩, q0, q1, q2, q3, q4⟩ := fresh_lnC hk0
  clear hown hb3 hv1 hv2 hk0 hk1 hset hoth
  go_wp2_with fail
  go_loopg [12] bn (fun k i wr => ∃ j : Nat, k + j = bn ∧ i = .int .i64 j ∧ CyRC P w A' bn c' rs0 bs (LnOC tx md up dn A' bn c') j wr)
  case atStart => exact ⟨0, rfl, rfl, HST.out⟩
  case round =>
    obtain ⟨j, hk, rfl, ⟨⟨⟨rs, ho, hl, h1, h2⟩, hb⟩, hh0, hh1⟩⟩ := hrel
    have HK := Lib.hid hk
    obtain ⟨⟨y0, y1, y2, y3, y4⟩, z0, z1, z2, z3, z4⟩ := fresh_lnC hh0
    by_cases hj : j < bn
    · have dj : decide (j < bn) = true := decide_eq_true hj
      obtain ⟨g, rfl, hg, hgl, cur, hcur, _⟩ := own_head ho (by omega)
      have hgt : Tg wr 101 g := ⟨_, _, hcur⟩
      have hg0 : g ≠ w.heap.size := hgt.ne ⟨_, _, hh0⟩ (by decide)
      have hg1 : g ≠ w.heap.size + 1 := hgt.ne ⟨_, _, hh1⟩ (by decide)
      have hrj : rs[j]? = some (rs[j]'(by omega)) := List.getElem?_eq_getElem (by omega)
      obtain ⟨r, hr⟩ : ∃ r, r = rs[j]'(by omega) := ⟨_, rfl⟩
      rw [← hr] at hrj
      have hxj : bs[j]? = some (bs[j]'(by have := HLEN.out; omega)) := List.getElem?_eq_getElem (by have := HLEN.out; omega)
      obtain ⟨x, hx⟩ : ∃ x, x = bs[j]'(by have := HLEN.out; omega) := ⟨_, rfl⟩
      rw [← hx] at hxj
      have hrx : RbIs P w r x := HA0.out.2 j r x ((h2 j (Nat.le_refl _)).symm.trans hrj) hxj
      obtain ⟨b0, b1, b2, b3, b4, b5, b6, bf⟩ := bx_cells ho j r hrj
      have hcl : ∀ W : World, W.heap = (wr.alloc (.cells #[.int .i64 r.kd, .int .i64 r.wd, .int .i64 r.fo, .int .i64 r.sz, .string r.nm, .string r.co, .slice r.no r.nn r.nc] 101)).heap → _ := fun W hW => cloneI_any (c := r.nc) (w := W) (P := fun b => b < w.heap.size)
        (hrx.ns.keep (P' := fun b => b < w.heap.size) fun b hb' => ⟨by rw [hW]; exact ((Below.heap_alloc _ _ _ (Nat.lt_of_lt_of_le (HP.out _ b hb') hb.size)).trans (hb.block b (HP.out _ b hb'))), HP.out _ b hb'⟩)
        (by intro u hu; obtain ⟨z, _, rfl⟩ := List.mem_map.1 hu; rfl) hrx.nil (by have := hrx.fit; exact this)
      have HCI := Lib.hid hcl
      have HO := Lib.hid ho
      have HH1 := Lib.hid h1
      have HH2 := Lib.hid h2
      have HB := Lib.hid hb
      have HL := Lib.hid hl
      have HRJ := Lib.hid hrj
      have HXJ := Lib.hid hxj
      have HRX := Lib.hid hrx
      have HJ := Lib.hid hj
      have HX0 := Lib.hid hh0
      have HX1 := Lib.hid hh1
      have HG0 := Lib.hid hg0
      have HG1 := Lib.hid hg1
      have HLT := Lib.hid (And.intro (lt_of_block hh0) (lt_of_block hh1))
      have hj0 : (0 : Int) ≤ (j : Int) := by omega
      have hj1 : (j : Int) < (bn : Int) := by omega
      obtain ⟨kd, wd, fo, sz, nm, co, no, nn, nc⟩ := r
      simp only at *
      clear hk hj ho hl h1 h2 hb hr hrj hx hxj hrx hcl hcur hgt hg0 hg1 hh0 hh1
      go_wp2_with fail
      have y5 : (wr.alloc (.cells #[.int .i64 kd, .int .i64 wd, .int .i64 fo, .int .i64 sz, .string nm, .string co, .slice no nn nc] 101)).cell? ⟨w.heap.size, 4, none⟩ = some (.slice (some ⟨g, 0, none⟩) bn c') := (World.cell?_alloc_old _ _ ⟨w.heap.size, 4, none⟩ (Nat.ne_of_lt HLT.out.1)).trans y4
      have y6 : (wr.alloc (.cells #[.int .i64 kd, .int .i64 wd, .int .i64 fo, .int .i64 sz, .string nm, .string co, .slice no nn nc] 101)).cell? ⟨wr.heap.size, 6, none⟩ = some (.slice no nn nc) := (fresh_bx (heap_alloc_new wr _)).1.2.2.2.2.2.2
      go_region_held3 (fun w' => w'.cell? ⟨w.heap.size, 4, none⟩ = some (.slice (some ⟨g, 0, none⟩) bn c') ∧ w'.cell? ⟨wr.heap.size, 6, none⟩ = some (.slice no nn nc)) (first | exact ⟨d1, d2⟩ | exact ⟨(set_far HG0.out.symm).trans d1, (set_far (Nat.ne_of_gt hgl)).trans d2⟩ | exact ⟨y5, y6⟩ | go_keep)
        (first
        | (go_at_call 84; refine (HCI.out _ ?_).mono ?_
           · rfl
           rintro e w2 ⟨no', nc', rfl, hn2, hb2⟩
           have hba := (Below.refl wr.heap.size wr).alloc (Nat.le_refl _) (.cells #[.int .i64 kd, .int .i64 wd, .int .i64 fo, .int .i64 sz, .string nm, .string co, .slice no nn nc] 101)
           have hb2' := hba.drew.trans (hb2.mono (by simp))
           have e6 : w2.cell? ⟨g, j * 7 + 6, none⟩ = some (.slice no nn nc) := (hb2'.cell (p := ⟨g, j * 7 + 6, none⟩) hgl).trans b6
           have f6 : w2.frozen? ⟨g, j * 7 + 6, none⟩ = false := (hb2'.frozen (p := ⟨g, j * 7 + 6, none⟩) hgl).trans bf
           have d1 : w2.cell? ⟨w.heap.size, 4, none⟩ = some (.slice (some ⟨g, 0, none⟩) bn c') := (hb2'.cell (p := ⟨w.heap.size, 4, none⟩) HLT.out.1).trans y4
           have d2 : w2.cell? ⟨wr.heap.size, 6, none⟩ = some (.slice no nn nc) := (hb2.cell (p := ⟨wr.heap.size, 6, none⟩) (by simp)).trans y6
           have HN2 := Lib.hid (own_base hn2 (base' := wr.heap.size) (by simp))
           have HB2 := Lib.hid hb2'
           have HNIL := Lib.hid (own_none hn2)
           clear hn2 hb2 hba hb2'))
      all_goals
        go_wp2_with fail
        go_roundg (gk - 1)
        case measure => have := HK.out; have := HJ.out; omega
        case rel =>
          have := HK.out
          have := HJ.out
          exact ⟨j + 1, by omega, by go_num, CbR.step rfl hg HO.out HL.out HH1.out HH2.out HB.out HRJ.out HXJ.out HRX.out HB2.out HN2.out HNIL.out,
            (Below.heap_setCell _ _ _ _ (fun e => HG0.out e.symm)).trans ((HB2.out.block _ HLT.out.1).trans HX0.out), (Below.heap_setCell _ _ _ _ (fun e => HG1.out e.symm)).trans ((HB2.out.block _ HLT.out.2).trans HX1.out)⟩
    · have dj : decide (j < bn) = false := decide_eq_false hj
      have HO := Lib.hid ho
      have HH1 := Lib.hid h1
      have HB := Lib.hid hb
      have HL := Lib.hid hl
      have HNJ := Lib.hid hj
      have HX0 := Lib.hid hh0
      obtain ⟨_, t0, t1, t2, t3, t4⟩ := fresh_lnC hh1
      have HX1 := Lib.hid hh1
      clear hk hj ho hl h1 h2 hb hh0 hh1
      go_wp2_with fail
      obtain ⟨w5, hw5⟩ : ∃ w5, w5 = LnW wr (w.heap.size + 1) tx md up dn A' bn c' := ⟨_, rfl⟩
      have hat := lnW_at (tx := tx) (md := md) (up := up) (dn := dn) (o := A') (n := bn) (c := c') HX1.out
      have hfar := fun b (hb : b ≠ w.heap.size + 1) => lnW_far (w := wr) (tx := tx) (md := md) (up := up) (dn := dn) (o := A') (n := bn) (c := c') hb
      have hbl := lnW_below (w := wr) (g := w.heap.size + 1) (tx := tx) (md := md) (up := up) (dn := dn) (o := A') (n := bn) (c := c') HB.out (by omega)
      rw [← hw5] at hat hfar hbl
      have hno : ∀ e b, Tg wr e b → e ≠ 39 → b ≠ w.heap.size + 1 := fun e b hb hne => hb.ne ⟨_, _, HX1.out⟩ hne
      refine line_end (t := 2) (g := w.heap.size + 1) rfl rfl rfl (by rw [← hat, hw5]; rfl) ?_
      show ∃ bo' bc' rs, _ ∧ World.ownsRow (LnW wr (w.heap.size + 1) tx md up dn A' bn c') _ _ _ _ _ _ ∧ All2 (RbIs (Tg (LnW wr (w.heap.size + 1) tx md up dn A' bn c')) (LnW wr (w.heap.size + 1) tx md up dn A' bn c')) _ _ ∧ Below _ _ (LnW wr (w.heap.size + 1) tx md up dn A' bn c')
      rw [← hw5]
      refine ⟨A', c', rs, rfl, own_farC HO.out (fun g hg => hfar g (hno _ _ (own_tagC HO.out hg).1 (by decide))), ⟨by rw [HL.out, HLEN.out], fun i r x hr hx => ?_⟩, hbl⟩
      have hi : i < rs.length := (List.getElem?_eq_some_iff.1 hr).1
      refine (HH1.out i r x (by have := HL.out; have := HNJ.out; omega) hr hx).keep fun b hb => ?_
      have hk := hfar b (hno _ _ hb (by decide))
      exact ⟨hk, hb.keep hk⟩
end Go.Proofs.YtgpanlkcpnlejaaGreat
/- copyLines. -/
namespace Go.Proofs.YtgpanlkcpnlejaaGreat
open Go.RowKit
set_option maxRecDepth 100000
set_option linter.unusedSimpArgs false
set_option linter.unusedVariables false
/-- The cells of element j of a row of lines. -/
theorem ln_cells {w : World} {base g n c : Nat} {rs : List RL} (h : w.ownsRow base 39 5 (.slice (some ⟨g, 0, none⟩) n c) n (rs.flatMap rlCs)) (j : Nat) (r : RL) (hr : rs[j]? = some r) :
    w.cell? ⟨g, j * 5, none⟩ = some (.string r.tx) ∧ w.cell? ⟨g, j * 5 + 1, none⟩ = some (.bool r.md) ∧ w.cell? ⟨g, j * 5 + 2, none⟩ = some (.int .i64 r.up) ∧ w.cell? ⟨g, j * 5 + 3, none⟩ = some (.int .i64 r.dn) ∧ w.cell? ⟨g, j * 5 + 4, none⟩ = some (.slice r.bo r.bn r.bc) ∧ w.frozen? ⟨g, j * 5 + 4, none⟩ = false ∧ w.frozen? ⟨g, j * 5, none⟩ = false ∧ w.frozen? ⟨g, j * 5 + 1, none⟩ = false ∧ w.frozen? ⟨g, j * 5 + 2, none⟩ = false ∧ w.frozen? ⟨g, j * 5 + 3, none⟩ = false := by
  have key := fun k (hk : k < 5) => fm_at rl_len rs j k r hr hk
  exact ⟨(own_cell h _ _ (key 0 (by omega))).1, (own_cell h _ _ (key 1 (by omega))).1, (own_cell h _ _ (key 2 (by omega))).1, (own_cell h _ _ (key 3 (by omega))).1, (own_cell h _ _ (key 4 (by omega))).1, (own_cell h _ _ (key 4 (by omega))).2, (own_cell h _ _ (key 0 (by omega))).2, (own_cell h _ _ (key 1 (by omega))).2, (own_cell h _ _ (key 2 (by omega))).2, (own_cell h _ _ (key 3 (by omega))).2⟩
/-- Behind j rounds: the first j lines have boxes of their own. -/
structure ClR (w : World) (A' : Option Addr) (n c' : Nat) (rs0 : List RL) (ls : List Ln) (j : Nat) (wr : World) : Prop where
  ex : ∃ rs : List RL, wr.ownsRow w.heap.size 39 5 (.slice A' n c') n (rs.flatMap rlCs) ∧ rs.length = n ∧ (∀ i r l, i < j → rs[i]? = some r → ls[i]? = some l → RlIs (Tg wr) wr r l) ∧ (∀ i, j ≤ i → rs[i]? = rs0[i]?)
  below : Below w.heap.size w wr
/-- A line is stored in a row. -/
def LnJ (w : World) (g j : Nat) (tx : ByteArray) (md : Bool) (up dn : Int) (o : Option Addr) (n c : Nat) : World :=
  ((((w.setCell ⟨g, j * 5, none⟩ (.string tx)).setCell ⟨g, j * 5 + 1, none⟩ (.bool md)).setCell ⟨g, j * 5 + 2, none⟩ (.int .i64 up)).setCell ⟨g, j * 5 + 3, none⟩ (.int .i64 dn)).setCell ⟨g, j * 5 + 4, none⟩ (.slice o n c)
theorem lnJ_far {w : World} {g j b : Nat} {tx : ByteArray} {md : Bool} {up dn : Int} {o : Option Addr} {n c : Nat} (hb : b ≠ g) : (LnJ w g j tx md up dn o n c).heap[b]? = w.heap[b]? := by
  unfold LnJ
  rw [Below.heap_setCell _ _ _ _ hb, Below.heap_setCell _ _ _ _ hb, Below.heap_setCell _ _ _ _ hb, Below.heap_setCell _ _ _ _ hb, Below.heap_setCell _ _ _ _ hb]
theorem lnJ_below {u w : World} {B g j : Nat} {tx : ByteArray} {md : Bool} {up dn : Int} {o : Option Addr} {n c : Nat} (h : Below B u w) (hg : B ≤ g) : Below B u (LnJ w g j tx md up dn o n c) :=
  ((((h.setCell (p := ⟨g, j * 5, none⟩) hg _).setCell (p := ⟨g, j * 5 + 1, none⟩) hg _).setCell (p := ⟨g, j * 5 + 2, none⟩) hg _).setCell (p := ⟨g, j * 5 + 3, none⟩) hg _).setCell (p := ⟨g, j * 5 + 4, none⟩) hg _
theorem set_self {α : Type} (l : List α) (j : Nat) (x : α) (h : l[j]? = some x) : l.set j x = l := by
  apply List.ext_getElem?
  intro i
  rw [List.getElem?_set]
  by_cases e : j = i
  · subst e
    rw [if_pos rfl, if_pos (List.getElem?_eq_some_iff.1 h).1, h]
  · rw [if_neg e]
theorem lnJ_row {w : World} {base g j n c : Nat} {rs : List RL} {r : RL} {bo : Option Addr} {bc : Nat} (h : w.ownsRow base 39 5 (.slice (some ⟨g, 0, none⟩) n c) n (rs.flatMap rlCs)) (hr : rs[j]? = some r) (hl : rs.length = n) :
    (LnJ w g j r.tx r.md r.up r.dn bo r.bn bc).ownsRow base 39 5 (.slice (some ⟨g, 0, none⟩) n c) n ((rs.set j { r with bo := bo, bc := bc }).flatMap rlCs) := by
  have hj := (List.getElem?_eq_some_iff.1 hr).1
  have hs := set_self rs j r hr
  have e0 := fm_set rl_len rs j 0 r r (.string r.tx) hr (by omega) rfl
  have e1 := fm_set rl_len rs j 1 r r (.bool r.md) hr (by omega) rfl
  have e2 := fm_set rl_len rs j 2 r r (.int .i64 r.up) hr (by omega) rfl
  have e3 := fm_set rl_len rs j 3 r r (.int .i64 r.dn) hr (by omega) rfl
  have e4 := fm_set rl_len rs j 4 r { r with bo := bo, bc := bc } (.slice bo r.bn bc) hr (by omega) rfl
  rw [hs] at e0 e1 e2 e3
  have h0 := own_set h (j * 5 + 0) (by omega) (.string r.tx)
  rw [← e0] at h0
  have h1 := own_set h0 (j * 5 + 1) (by omega) (.bool r.md)
  rw [← e1] at h1
  have h2 := own_set h1 (j * 5 + 2) (by omega) (.int .i64 r.up)
  rw [← e2] at h2
  have h3 := own_set h2 (j * 5 + 3) (by omega) (.int .i64 r.dn)
  rw [← e3] at h3
  have h4 := own_set h3 (j * 5 + 4) (by omega) (.slice bo r.bn bc)
  rw [← e4] at h4
  exact h4
theorem ClR.step {P : TypeId → Nat → Prop} {w : World} {A' : Option Addr} {n c' : Nat} {rs0 : List RL} {ls : List Ln} {j g : Nat} {wr w2 : World} {rs : List RL} {r : RL} {l : Ln} {bo : Option Addr} {bc : Nat} {bs : List RB} (hA : A' = some ⟨g, 0, none⟩) (hg : w.heap.size ≤ g)
    (ho : wr.ownsRow w.heap.size 39 5 (.slice A' n c') n (rs.flatMap rlCs)) (hl : rs.length = n) (h1 : ∀ i r l, i < j → rs[i]? = some r → ls[i]? = some l → RlIs (Tg wr) wr r l) (h2 : ∀ i, j ≤ i → rs[i]? = rs0[i]?) (hb : Below w.heap.size w wr)
    (hr : rs[j]? = some r) (hx : ls[j]? = some l) (hrx : RlIs P w r l) (hw2 : Below wr.heap.size wr w2) (hn2 : w2.ownsRow wr.heap.size 101 7 (.slice bo r.bn bc) r.bn (bs.flatMap rbCs)) (hbs : All2 (RbIs (Tg w2) w2) bs l.bx) (hnil : bo = none → r.bn = 0) :
    ClR w A' n c' rs0 ls (j + 1) (LnJ w2 g j r.tx r.md r.up r.dn bo r.bn bc) := by
  subst hA
  have hjl : j < rs.length := (List.getElem?_eq_some_iff.1 hr).1
  have hgl : g < wr.heap.size ∧ Tg wr 39 g := by
    obtain ⟨g', e, _, hlt, cur, hcur, _⟩ := own_head ho (by omega)
    injection e with e; injection e with e; subst e; exact ⟨hlt, cur, _, hcur⟩
  have ho2 := own_kept ho (Kept.of (S := fun _ => False) hw2) (fun _ _ h => h)
  have ho3 := lnJ_row (bo := bo) (bc := bc) ho2 hr hl
  have hk : ∀ b, b ≠ g → (LnJ w2 g j r.tx r.md r.up r.dn bo r.bn bc).heap[b]? = w2.heap[b]? := fun b hb => lnJ_far hb
  have hgt := (hgl.2.below hw2).2
  have hkt : ∀ e, e = 3 ∨ e = 101 → ∀ b, Tg w2 e b → (LnJ w2 g j r.tx r.md r.up r.dn bo r.bn bc).heap[b]? = w2.heap[b]? ∧ Tg (LnJ w2 g j r.tx r.md r.up r.dn bo r.bn bc) e b := by
    intro e he b hb'
    have hne : b ≠ g := hb'.ne hgt (by rcases he with rfl | rfl <;> decide)
    exact ⟨hk b hne, hb'.keep (hk b hne)⟩
  refine ⟨⟨_, ho3, by simpa using hl, fun i r' l' hi hr' hx' => ?_, fun i hi => ?_⟩, lnJ_below (hb.trans (hw2.mono hb.size)) hg⟩
  · rw [List.getElem?_set] at hr'
    by_cases e : j = i
    · subst e
      rw [if_pos rfl, if_pos hjl] at hr'
      obtain rfl := Option.some.inj hr'
      obtain rfl : l = l' := Option.some.inj (hx.symm.trans hx')
      obtain ⟨o, cap, hv, hcap1, hcap2⟩ := row_shape hn2
      injection hv with hv1 hv2 hv3
      subst hv3
      have hrd := ReadsP.of_own (P := Tg w2 101) hn2 (fun g' cs hg' _ => ⟨cs, _, hg'⟩)
      have hbx : BxsAt (Tg w2) w2 bo r.bn l.bx := ⟨⟨bs, hrd, hbs⟩, hrx.bx.len⟩
      exact ⟨hrx.tx, hrx.md, hrx.up, hrx.dn, hnil, hcap1, hcap2, hbx.keep hkt⟩
    · rw [if_neg e] at hr'
      refine ((h1 i r' l' (by omega) hr' hx').keep (P' := Tg w2) (w' := w2) fun e _ b hb' => hb'.below hw2).keep hkt
  · rw [List.getElem?_set_ne (by omega)]; exact h2 i (by omega)
set_option maxHeartbeats 800000 in
theorem copyLines_any {P : TypeId → Nat → Prop} {w : World} {A : Option Addr} {n c : Nat} {ls : List Ln} (h : LnsAt P w A n ls) (hP : ∀ e b, P e b → b < w.heap.size) (hA : A = none → n = 0) (hn : n ≤ 100000) (hbx : ∀ l ∈ ls, l.bx.length ≤ 2000) :
    Calls Tryz.prog 38 #[.slice A n c] w fun e w' => ∃ A' c' rs, e = .returned (.slice A' n c') ∧ w'.ownsRow w.heap.size 39 5 (.slice A' n c') n (rs.flatMap rlCs) ∧ All2 (RlIs (Tg w') w') rs ls ∧ Below w.heap.size w w' := by
  obtain ⟨⟨rs0, hr0, ha0⟩, hlen⟩ := h
  have hl0 : rs0.length = n := by rw [ha0.1, hlen]
  have HCL := Lib.hid (cloneL_any (c := c) hr0 (fm_one rl_one rs0) hA (by omega))
  have HA0 : Hid (All2 (RlIs P w) rs0 ls) := Lib.hid ha0
  have HLEN := Lib.hid hlen
  have HL0 := Lib.hid hl0
  have HP := Lib.hid hP
  have HBX := Lib.hid hbx
  clear hr0 ha0 hlen hl0 hA hP hbx
  go_enter Tryz.func38, Tryz.ntmps38
  go_wp2_with fail
  refine HCL.out.mono ?_
  rintro e w1 ⟨A', c', rfl, hown, hb1⟩
  obtain ⟨o, cap, hv, hcap1, hcap2⟩ := row_shape hown
  injection hv with hv1 hv2 hv3
  subst hv3
  have HST : Hid (ClR w A' n c' rs0 ls 0 w1) := Lib.hid ⟨⟨rs0, hown, HL0.out, fun i r x hi => by omega, fun _ _ => rfl⟩, hb1⟩
  clear hown hb1 hv1 hv2
  go_wp2_with fail
  go_loopg [10] n (fun k i wr => ∃ j : Nat, k + j = n ∧ i = .int .i64 j ∧ ClR w A' n c' rs0 ls j wr)
  case atStart => exact ⟨0, rfl, rfl, HST.out⟩
  case round =>
    obtain ⟨j, hk, rfl, ⟨⟨rs, ho, hl, h1, h2⟩, hb⟩⟩ := hrel
    have HK := Lib.hid hk
    by_cases hj : j < n
    · have dj : decide (j < n) = true := decide_eq_true hj
      obtain ⟨g, rfl, hg, hgl, _⟩ := own_head ho (by omega)
      have hrj : rs[j]? = some (rs[j]'(by omega)) := List.getElem?_eq_getElem (by omega)
      obtain ⟨r, hr⟩ : ∃ r, r = rs[j]'(by omega) := ⟨_, rfl⟩
      rw [← hr] at hrj
      have hxj : ls[j]? = some (ls[j]'(by have := HLEN.out; omega)) := List.getElem?_eq_getElem (by have := HLEN.out; omega)
      obtain ⟨l, hx⟩ : ∃ l, l = ls[j]'(by have := HLEN.out; omega) := ⟨_, rfl⟩
      rw [← hx] at hxj
      have hrx : RlIs P w r l := HA0.out.2 j r l ((h2 j (Nat.le_refl _)).symm.trans hrj) hxj
      have hbl : r.bn ≤ 2000 := by rw [hrx.bx.len]; exact HBX.out l (List.mem_of_getElem? hxj)
      obtain ⟨b0, b1, b2, b3, b4, bf, f0, f1, f2, f3⟩ := ln_cells ho j r hrj
      have hcl := copyLine_any r.tx r.md r.up r.dn r.bo r.bn r.bc l.bx (w := wr.alloc (.cells #[.string r.tx, .bool r.md, .int .i64 r.up, .int .i64 r.dn, .slice r.bo r.bn r.bc] 39)) (P := fun _ b => b < w.heap.size)
        (hrx.bx.keep (P' := fun _ b => b < w.heap.size) fun e _ b hb' => ⟨((Below.heap_alloc _ _ _ (Nat.lt_of_lt_of_le (HP.out e b hb') hb.size)).trans (hb.block b (HP.out e b hb'))), HP.out e b hb'⟩)
        (fun _ b hb' => by have h1 : b < w.heap.size := hb'; have := hb.size; simp; omega) hrx.nil hbl
      have HCI := Lib.hid hcl
      have HO := Lib.hid ho
      have HH1 := Lib.hid h1
      have HH2 := Lib.hid h2
      have HB := Lib.hid hb
      have HL := Lib.hid hl
      have HRJ := Lib.hid hrj
      have HXJ := Lib.hid hxj
      have HRX := Lib.hid hrx
      have HJ := Lib.hid hj
      have hj2 : j ≤ 100000 := by omega
      obtain ⟨tx, md, up, dn, bo, bn, bc⟩ := r
      simp only at *
      clear hk hj ho hl h1 h2 hb hr hrj hx hxj hrx hcl
      go_wp2_with fail
      refine HCI.out.mono ?_
      rintro e w2 ⟨bo', bc', bs, rfl, hn2, hbs, hb2⟩
      have hba := (Below.refl wr.heap.size wr).alloc (Nat.le_refl _) (.cells #[.string tx, .bool md, .int .i64 up, .int .i64 dn, .slice bo bn bc] 39)
      have hb2' := hba.trans (hb2.mono (by simp))
      have ec : ∀ o v, wr.cell? ⟨g, o, none⟩ = some v → w2.cell? ⟨g, o, none⟩ = some v := fun o v h => (hb2'.cell (p := ⟨g, o, none⟩) hgl).trans h
      have ef : ∀ o, wr.frozen? ⟨g, o, none⟩ = false → w2.frozen? ⟨g, o, none⟩ = false := fun o h => (hb2'.frozen (p := ⟨g, o, none⟩) hgl).trans h
      have e0 := ec _ _ b0
      have e1 := ec _ _ b1
      have e2 := ec _ _ b2
      have e3 := ec _ _ b3
      have e4 := ec _ _ b4
      have g0 := ef _ f0
      have g1 := ef _ f1
      have g2 := ef _ f2
      have g3 := ef _ f3
      have g4 := ef _ bf
      have HN2 := Lib.hid (own_base hn2 (base' := wr.heap.size) (by simp))
      have HB2 := Lib.hid hb2'
      have HNIL := Lib.hid (own_none hn2)
      have HBS : Hid (All2 (RbIs (Tg w2) w2) bs l.bx) := Lib.hid hbs
      have hfin := ClR.step rfl hg HO.out HL.out HH1.out HH2.out HB.out HRJ.out HXJ.out HRX.out HB2.out HN2.out HBS.out HNIL.out
      unfold LnJ at hfin
      simp only at hfin
      have HFIN := Lib.hid hfin
      clear hn2 hb2 hba hb2' hbs ec ef hfin
      go_wp2_with fail
      go_roundg (gk - 1)
      case measure => have := HK.out; have := HJ.out; omega
      case rel =>
        have := HK.out
        have := HJ.out
        exact ⟨j + 1, by omega, by go_num, HFIN.out⟩
    · have dj : decide (j < n) = false := decide_eq_false hj
      have HO := Lib.hid ho
      have HH1 := Lib.hid h1
      have HB := Lib.hid hb
      have HL := Lib.hid hl
      have HNJ := Lib.hid hj
      clear hk hj ho hl h1 h2 hb
      go_wp2_with fail
      go_ret
      refine ⟨A', c', rs, rfl, HO.out, ⟨by rw [HL.out, HLEN.out], fun i r x hr hx => ?_⟩, HB.out⟩
      have hi : i < rs.length := (List.getElem?_eq_some_iff.1 hr).1
      exact HH1.out i r x (by have := HL.out; have := HNJ.out; omega) hr hx
end Go.Proofs.YtgpanlkcpnlejaaGreat
/- Lines that are ones. -/
namespace Go.Proofs.YtgpanlkcpnlejaaGreat
open Go.RowKit Go.Maps
set_option maxRecDepth 100000
def okH (n : Int) : Bool := decide (-1000000 ≤ n) && decide (n ≤ 1000000)
theorem validHeight_any (n : Int) (w : World) : Calls Tryz.prog 86 #[.int .i64 n] w fun e w' => e = .returned (.bool (okH n)) ∧ w = w' := by
  by_cases h1 : -1000000 ≤ n
  · have d1 : decide (-1000000 ≤ n) = true := decide_eq_true h1
    have HX := Lib.hid (show okH n = decide (n ≤ 1000000) by unfold okH; rw [d1]; rfl)
    clear h1
    go_enter Tryz.func86, Tryz.ntmps86
    go_wp2_with fail
    go_ret
    rw [HX.out]
    exact ⟨rfl, rfl⟩
  · have d1 : decide (-1000000 ≤ n) = false := decide_eq_false h1
    have HX := Lib.hid (show okH n = false by unfold okH; rw [d1]; rfl)
    clear h1
    go_enter Tryz.func86, Tryz.ntmps86
    go_wp2_with fail
    go_ret
    rw [HX.out]
    exact ⟨rfl, rfl⟩
def okRL (tx : ByteArray) (md : Bool) (up dn : Int) (bn : Nat) : Bool :=
  if md then tx.data.toList.isEmpty && okH up && okH dn && decide (bn ≤ 2000) else okTx tx.data.toList && (up == 0) && (dn == 0) && (bn == 0)
set_option maxHeartbeats 1000000 in
theorem validLine_made (tx : ByteArray) (up dn : Int) (bo : Option Addr) (bn bc : Nat) (w : World) : Calls Tryz.prog 77 #[.agg #[.string tx, .bool true, .int .i64 up, .int .i64 dn, .slice bo bn bc]] w fun e w' => e = .returned (.bool (okRL tx true up dn bn)) ∧ Below w.heap.size w w' := by
  have H1 := Lib.hid (fun W => validHeight_any up W)
  have H2 := Lib.hid (fun W => validHeight_any dn W)
  have HE := Lib.hid (show okRL tx true up dn bn = (tx.data.toList.isEmpty && okH up && okH dn && decide (bn ≤ 2000)) from rfl)
  have HB := Lib.hid ((Below.refl w.heap.size w).alloc (Nat.le_refl _) (.cells #[.string tx, .bool true, .int .i64 up, .int .i64 dn, .slice bo bn bc] 39))
  generalize okH up = u at *
  generalize okH dn = d at *
  go_enter Tryz.func77, Tryz.ntmps77
  go_wp2_with fail
  · have ht : tx.toList = [] := by assumption
    have HT := Lib.hid (show tx.data.toList.isEmpty = true by rw [← Lib.toList_data, ht]; rfl)
    refine (H1.out _).mono ?_
    rintro e w1 ⟨rfl, rfl⟩
    cases u with
    | false =>
      go_wp2_with fail
      go_ret
      rw [HE.out, HT.out]
      exact ⟨rfl, HB.out⟩
    | true =>
      go_wp2_with fail
      refine (H2.out _).mono ?_
      rintro e w1 ⟨rfl, rfl⟩
      cases d with
      | false =>
        go_wp2_with fail
        go_ret
        rw [HE.out, HT.out]
        exact ⟨rfl, HB.out⟩
      | true =>
        have HD := Lib.hid (show decide ((bn : Int) ≤ 2000) = decide (bn ≤ 2000) by rw [decide_eq_decide]; omega)
        go_wp2_with fail
        go_ret
        rw [HE.out, HT.out]
        exact ⟨by simp [HD.out], HB.out⟩
  · have ht : ¬ tx.toList = [] := by assumption
    have HT := Lib.hid (show tx.data.toList.isEmpty = false by rw [← Lib.toList_data]; cases h : tx.toList with | nil => exact absurd h ht | cons a b => rfl)
    go_ret
    rw [HE.out, HT.out]
    exact ⟨rfl, HB.out⟩
set_option maxHeartbeats 1000000 in
theorem validLine_text (tx : ByteArray) (up dn : Int) (bo : Option Addr) (bn bc : Nat) (w : World) : Calls Tryz.prog 77 #[.agg #[.string tx, .bool false, .int .i64 up, .int .i64 dn, .slice bo bn bc]] w fun e w' => e = .returned (.bool (okRL tx false up dn bn)) ∧ Below w.heap.size w w' := by
  have H1 := Lib.hid (fun W => validText_any tx W)
  have HE := Lib.hid (show okRL tx false up dn bn = (okTx tx.data.toList && (up == 0) && (dn == 0) && (bn == 0)) from rfl)
  have HB := Lib.hid ((Below.refl w.heap.size w).alloc (Nat.le_refl _) (.cells #[.string tx, .bool false, .int .i64 up, .int .i64 dn, .slice bo bn bc] 39))
  generalize okTx tx.data.toList = u at *
  go_enter Tryz.func77, Tryz.ntmps77
  go_wp2_with fail
  refine (H1.out _).mono ?_
  rintro e w1 ⟨rfl, rfl⟩
  cases u with
  | false =>
    go_wp2_with fail
    go_ret
    rw [HE.out]
    exact ⟨rfl, HB.out⟩
  | true =>
    by_cases h1 : up = 0
    · subst h1
      by_cases h2 : dn = 0
      · subst h2
        have HD := Lib.hid (show ((bn : Int) == 0) = (bn == 0) by cases bn <;> rfl)
        go_wp2_with fail
        go_ret
        rw [HE.out]
        exact ⟨by simp [HD.out], HB.out⟩
      · have d2 : (dn == 0) = false := by simpa using h2
        have HX := Lib.hid d2
        clear h2
        go_wp2_with fail
        go_ret
        rw [HE.out, HX.out]
        exact ⟨by simp, HB.out⟩
    · have d1 : (up == 0) = false := by simpa using h1
      have HX := Lib.hid d1
      clear h1
      go_wp2_with fail
      go_ret
      rw [HE.out, HX.out]
      exact ⟨by simp, HB.out⟩
theorem validLine_any (tx : ByteArray) (md : Bool) (up dn : Int) (bo : Option Addr) (bn bc : Nat) (w : World) : Calls Tryz.prog 77 #[.agg #[.string tx, .bool md, .int .i64 up, .int .i64 dn, .slice bo bn bc]] w fun e w' => e = .returned (.bool (okRL tx md up dn bn)) ∧ Below w.heap.size w w' := by
  cases md with
  | true => exact validLine_made tx up dn bo bn bc w
  | false => exact validLine_text tx up dn bo bn bc w
/-- A line that is one. -/
def okLn (l : Ln) : Bool := okRL l.tx l.md l.up l.dn l.bx.length
def VlR (ls : List Ln) (w : World) (n k : Nat) (i : Value) (wr : World) : Prop := ∃ j : Nat, k + j = n ∧ i = .int .i64 j ∧ (ls.take j).all okLn = true ∧ Below w.heap.size w wr
/-- The cells of a line that is read. -/
theorem reads_ln {P : Nat → Prop} {w : World} {A : Option Addr} {n : Nat} {rs : List RL} (h : ReadsP P w 5 A n (rs.flatMap rlCs)) (j : Nat) (r : RL) (hr : rs[j]? = some r) :
    ∃ b off, A = some ⟨b, off, none⟩ ∧ P b ∧ w.cell? ⟨b, off + j * 5, none⟩ = some (.string r.tx) ∧ w.cell? ⟨b, off + j * 5 + 1, none⟩ = some (.bool r.md) ∧ w.cell? ⟨b, off + j * 5 + 2, none⟩ = some (.int .i64 r.up) ∧ w.cell? ⟨b, off + j * 5 + 3, none⟩ = some (.int .i64 r.dn) ∧ w.cell? ⟨b, off + j * 5 + 4, none⟩ = some (.slice r.bo r.bn r.bc) := by
  have hjl : j < rs.length := (List.getElem?_eq_some_iff.1 hr).1
  have h1 := h.1
  rw [fm_len rl_len] at h1
  obtain ⟨b, off, hA, hp, hc⟩ := h.2 (by omega)
  have key := fun k (hk : k < 5) => fm_at rl_len rs j k r hr hk
  refine ⟨b, off, hA, hp, hc _ _ (key 0 (by omega)), ?_, ?_, ?_, ?_⟩
  · have := hc _ _ (key 1 (by omega)); rwa [← Nat.add_assoc] at this
  · have := hc _ _ (key 2 (by omega)); rwa [← Nat.add_assoc] at this
  · have := hc _ _ (key 3 (by omega)); rwa [← Nat.add_assoc] at this
  · have := hc _ _ (key 4 (by omega)); rwa [← Nat.add_assoc] at this
theorem all_take_not {α : Type} (p : α → Bool) (l : List α) (j : Nat) (x : α) (h : l[j]? = some x) (hx : p x = false) : l.all p = false := by
  cases e : l.all p with
  | false => rfl
  | true =>
    have := List.all_eq_true.1 e x (List.mem_of_getElem? h)
    rw [hx] at this; cases this
theorem all_take_succ {α : Type} (p : α → Bool) (l : List α) (j : Nat) (x : α) (h : l[j]? = some x) (hx : p x = true) (ht : (l.take j).all p = true) : (l.take (j + 1)).all p = true := by
  have hj := (List.getElem?_eq_some_iff.1 h).1
  have e := (List.getElem?_eq_some_iff.1 h).2
  rw [List.take_succ_eq_append_getElem hj, List.all_append, ht, e]
  simp [hx]
set_option maxHeartbeats 2000000 in
theorem validLines_any {P : TypeId → Nat → Prop} {w : World} {A : Option Addr} {n c : Nat} {ls : List Ln} (h : LnsAt P w A n ls) (hP : ∀ e b, P e b → b < w.heap.size) (hn : (n : Int) ≤ 9223372036854775807) :
    Calls Tryz.prog 48 #[.slice A n c] w fun e w' => e = .returned (.bool (ls.all okLn)) ∧ Below w.heap.size w w' := by
  obtain ⟨⟨rs, hr, ha⟩, hlen⟩ := h
  have HR := Lib.hid hr
  have HA : Hid (All2 (RlIs P w) rs ls) := Lib.hid ha
  have HLEN := Lib.hid hlen
  have HP := Lib.hid hP
  have HST : Hid (VlR ls w n n (.int .i64 0) w) := Lib.hid ⟨0, rfl, rfl, rfl, Below.refl _ _⟩
  have HRL := Lib.hid (show rs.length = n by rw [ha.1, hlen])
  clear hr ha hlen hP
  go_enter Tryz.func48, Tryz.ntmps48
  go_wp2_with fail
  go_loopg [7] n (fun k i wr => VlR ls w n k i wr)
  case atStart => exact HST.out
  case round =>
    obtain ⟨j, hk, rfl, hall, hb⟩ := hrel
    have HK := Lib.hid hk
    have HB := Lib.hid hb
    by_cases hj : j < n
    · have dj : decide (j < n) = true := decide_eq_true hj
      have hrj : rs[j]? = some (rs[j]'(by have := HRL.out; omega)) := List.getElem?_eq_getElem (by have := HRL.out; omega)
      obtain ⟨r, hre⟩ : ∃ r, r = rs[j]'(by have := HRL.out; omega) := ⟨_, rfl⟩
      rw [← hre] at hrj
      have hlj : ls[j]? = some (ls[j]'(by have := HLEN.out; omega)) := List.getElem?_eq_getElem (by have := HLEN.out; omega)
      obtain ⟨l, hle⟩ : ∃ l, l = ls[j]'(by have := HLEN.out; omega) := ⟨_, rfl⟩
      rw [← hle] at hlj
      have hri := HA.out.2 j r l hrj hlj
      obtain ⟨b, off, rfl, hp, c0, c1, c2, c3, c4⟩ := reads_ln HR.out j r hrj
      have hbl := HP.out _ b hp
      have e := fun o => hb.cell (p := ⟨b, o, none⟩) hbl
      rw [← e] at c0 c1 c2 c3 c4
      have HOK := Lib.hid (show okLn l = okRL r.tx r.md r.up r.dn r.bn by unfold okLn; rw [← hri.tx, ← hri.md, ← hri.up, ← hri.dn, ← hri.bx.len])
      have HLJ := Lib.hid hlj
      have HAL := Lib.hid hall
      have HJ := Lib.hid hj
      obtain ⟨tx, md, up, dn, bo, bn, bc⟩ := r
      simp only at c0 c1 c2 c3 c4 HOK
      have HV := Lib.hid (fun W => validLine_any tx md up dn bo bn bc W)
      generalize okRL tx md up dn bn = t at HV HOK
      clear hk hj hb hrj hre hlj hle hri hp hbl e hall
      go_wp2_with fail
      refine (HV.out _).mono ?_
      rintro e w2 ⟨rfl, hb2⟩
      have HB2 := Lib.hid ((HB.out.alloc HB.out.size (.cells #[.string tx, .bool md, .int .i64 up, .int .i64 dn, .slice bo bn bc] 39)).trans (hb2.mono (by have := HB.out.size; simp; omega)))
      clear hb2
      cases t with
      | false =>
        go_wp2_with fail
        go_ret
        rw [all_take_not okLn ls j l HLJ.out HOK.out]
        exact ⟨rfl, HB2.out⟩
      | true =>
        go_wp2_with fail
        go_roundg (gk - 1)
        case measure => have := HK.out; have := HJ.out; omega
        case rel =>
          have := HK.out
          have := HJ.out
          exact ⟨j + 1, by omega, by go_num, all_take_succ okLn ls j l HLJ.out HOK.out HAL.out, HB2.out⟩
    · have dj : decide (j < n) = false := decide_eq_false hj
      have HQ := Lib.hid (show ls.all okLn = true by rw [← List.take_of_length_le (l := ls) (i := j) (by have := HLEN.out; omega)]; exact hall)
      clear hk hj hb hall
      go_wp2_with fail
      go_ret
      rw [HQ.out]
      exact ⟨rfl, HB.out⟩
end Go.Proofs.YtgpanlkcpnlejaaGreat
/- putLines, Macro, Add, Lines. -/
namespace Go.Proofs.YtgpanlkcpnlejaaGreat
open Go.RowKit Go.Maps
set_option maxRecDepth 100000
/-- Lines that an entry has. -/
structure LnOwn (w : World) (o : Option Addr) (n c : Nat) (ls : List Ln) : Prop where
  ex : ∃ rs : List RL, w.ownsRow 0 39 5 (.slice o n c) n (rs.flatMap rlCs) ∧ All2 (RlIs (Tg w) w) rs ls
  len : n = ls.length
theorem LnOwn.nil (w : World) : LnOwn w none 0 0 [] := ⟨⟨[], World.ownsRow_nil _ _ _ _, rfl, fun i a b h => by simp at h⟩, rfl⟩
/-- What only turns blocks that are neither of boxes nor of numbers, and not the row itself, leaves lines as they are. -/
theorem LnOwn.keep {w w' : World} {o : Option Addr} {n c : Nat} {ls : List Ln} (h : LnOwn w o n c ls) (h1 : ∀ g, (Value.slice o n c).ownBlock = some g → w'.heap[g]? = w.heap[g]?) (h2 : ∀ e, e = 3 ∨ e = 101 → ∀ b, Tg w e b → w'.heap[b]? = w.heap[b]?) : LnOwn w' o n c ls := by
  obtain ⟨⟨rs, ho, ha⟩, hl⟩ := h
  refine ⟨⟨rs, ⟨ho.1, ?_⟩, ha.mono fun r l hr => hr.keep fun e he b hb => ⟨h2 e he b hb, hb.keep (h2 e he b hb)⟩⟩, hl⟩
  rcases ho.2 with hn | ⟨g, cap, cur, hv, hb, hg, rest⟩
  · exact .inl hn
  · exact .inr ⟨g, cap, cur, hv, hb, (h1 g (by rw [hv]; rfl)).trans hg, rest⟩
theorem LnOwn.below {w w' : World} {o : Option Addr} {n c : Nat} {ls : List Ln} (h : LnOwn w o n c ls) (k : Below w.heap.size w w') : LnOwn w' o n c ls := by
  obtain ⟨⟨rs, ho, ha⟩, hl⟩ := h
  exact ⟨⟨rs, own_kept ho (Kept.of (S := fun _ => False) k) (fun _ _ h => h), ha.mono fun r l hr => hr.keep fun e he b hb => hb.below k⟩, hl⟩
theorem LnOwn.tag {w : World} {o : Option Addr} {n c : Nat} {ls : List Ln} (h : LnOwn w o n c ls) {g : Nat} (hg : (Value.slice o n c).ownBlock = some g) : Tg w 39 g := by
  obtain ⟨⟨rs, ho, ha⟩, hl⟩ := h
  rcases ho.2 with ⟨hv, hn⟩ | ⟨g', cap, cur, hv, hb, hh, _⟩
  · rw [hv] at hg; simp [Value.ownBlock] at hg
  · rw [hv] at hg
    have : g' = g := by simpa [Value.ownBlock] using hg
    subst this
    exact ⟨cur, _, hh⟩
theorem all2_app {R : RL → Ln → Prop} {xs xs' : List RL} {ys ys' : List Ln} (h : All2 R xs ys) (h' : All2 R xs' ys') : All2 R (xs ++ xs') (ys ++ ys') := by
  refine ⟨by rw [List.length_append, List.length_append, h.1, h'.1], fun i a b ha hb => ?_⟩
  by_cases hi : i < xs.length
  · rw [List.getElem?_append_left hi] at ha
    rw [List.getElem?_append_left (by rw [← h.1]; exact hi)] at hb
    exact h.2 i a b ha hb
  · rw [List.getElem?_append_right (by omega)] at ha
    rw [List.getElem?_append_right (by rw [← h.1]; omega), ← h.1] at hb
    exact h'.2 _ a b ha hb
/-- What putLines leaves before it puts. -/
structure PutR (w : World) (oo : Option Addr) (on oc : Nat) (ls : List Ln) (o' : Option Addr) (n' c' : Nat) (W : World) : Prop where
  own : LnOwn W o' n' c' ls
  kept : Kept (fun k => (Value.slice oo on oc).ownBlock = some k) w W
  blk : ∀ g, (Value.slice o' n' c').ownBlock = some g → (Value.slice oo on oc).ownBlock = some g ∨ w.heap.size ≤ g
  le : n' ≤ c'
  cap : (c' : Int) ≤ 9223372036854775807
set_option maxHeartbeats 2000000 in
theorem putLines_limit (sb : Nat) (s : ByteArray) (oo : Option Addr) (on oc : Nat) (A : Option Addr) (n c : Nat) (w : World) (h1 : on ≤ 2000) (hn : n ≤ 140737488355328) (h : 2000 < on + n) :
    Calls Tryz.prog 49 #[BP sb, .string s, .slice oo on oc, .slice A n c] w fun e w' => e = .returned (.int .i64 2) ∧ w = w' := by
  have d1 : decide ((2000 : Int) < (on : Int) + (n : Int)) = true := decide_eq_true (by omega)
  clear h
  go_enter Tryz.func49, Tryz.ntmps49
  go_wp2_with fail
  go_ret
  exact ⟨rfl, rfl⟩
set_option maxHeartbeats 4000000 in
theorem putLines_fit {P : TypeId → Nat → Prop} {sb : Nat} {w : World} {A : Option Addr} {n c : Nat} {ls lso : List Ln} {oo : Option Addr} {on oc : Nat} (s : ByteArray) (ho : LnOwn w oo on oc lso) (h : LnsAt P w A n ls) (hP : ∀ e b, P e b → b < w.heap.size) (hA : A = none → n = 0) (hbx : ∀ l ∈ ls, l.bx.length ≤ 2000) (hn : on + n ≤ 2000) (cc : Int) (R : World → World → Prop)
    (hput : ∀ W o' c', PutR w oo on oc (lso ++ ls) o' (on + n) c' W → Calls Tryz.prog 43 #[BP sb, .string s, .agg #[.int .i64 2, .string ⟨#[]⟩, .slice o' (on + n) c']] W fun e w' => e = .returned (.int .i64 cc) ∧ R W w') :
    Calls Tryz.prog 49 #[BP sb, .string s, .slice oo on oc, .slice A n c] w fun e w' => e = .returned (.int .i64 cc) ∧ ∃ W o' c', PutR w oo on oc (lso ++ ls) o' (on + n) c' W ∧ R W w' := by
  obtain ⟨i0, hi0, hz0, hz1, hz2⟩ := info_parts info_line
  have d1 : decide ((2000 : Int) < (on : Int) + (n : Int)) = false := decide_eq_false (by omega)
  have HCL := Lib.hid (copyLines_any (c := c) h hP hA (by omega) hbx)
  have HPUT := Lib.hid hput
  have HO := Lib.hid ho
  have HLN := Lib.hid h.len
  have hon : on ≤ 2000 := by omega
  have hnn : n ≤ 2000 := by omega
  have HN := Lib.hid hn
  clear h hP hA hbx hput ho hn
  go_enter Tryz.func49, Tryz.ntmps49
  go_wp2_with fail
  refine HCL.out.mono ?_
  rintro e w1 ⟨A', c', rs, rfl, hown, hall, hb1⟩
  have HB1 := Lib.hid hb1
  have HALL : Hid (All2 (RlIs (Tg w1) w1) rs ls) := Lib.hid hall
  have HO1 := Lib.hid (HO.out.below hb1)
  have HOWN := Lib.hid hown
  obtain ⟨rso, hoo, hao⟩ := HO1.out.ex
  have HOO := Lib.hid hoo
  have HAO : Hid (All2 (RlIs (Tg w1) w1) rso lso) := Lib.hid hao
  clear hown hall hb1 hoo hao
  rcases A' with _ | a
  · have HN0 := Lib.hid (own_none HOWN.out rfl)
    have hv : (Value.slice none n c' : Value) = .slice none 0 0 := by
      rcases HOWN.out.2 with ⟨hv, _⟩ | ⟨g, cap, cur, hv, _⟩
      · exact hv
      · cases hv
    injection hv with _ hv1 hv2
    subst hv1 hv2
    have HPUT2 := Lib.hid (HPUT.out w1 oo oc (by
      have hl0 : ls = [] := List.eq_nil_of_length_eq_zero HLN.out.symm
      subst hl0
      rw [List.append_nil]
      obtain ⟨o, cap, hv, hc1, hc2⟩ := row_shape HOO.out
      injection hv with _ _ hv3
      subst hv3
      exact ⟨HO1.out, Kept.of HB1.out, fun g hg => .inl hg, hc1, hc2⟩))
    rw [Nat.add_zero] at HPUT2
    go_wp2_with (at_builtin; refine wpList_append_own_none rfl _ _ 31 rfl 0 39 i0 5 Tryz.underlying31 hi0 _ _ _ rfl HOO.out rfl ?_)
    refine HPUT2.out.mono ?_
    rintro e w2 ⟨rfl, hR⟩
    have HR := Lib.hid hR
    clear hR
    go_wp2_with fail
    go_ret
    refine ⟨rfl, w1, oo, oc, ?_, HR.out⟩
    have hl0 : ls = [] := List.eq_nil_of_length_eq_zero HLN.out.symm
    subst hl0
    rw [List.append_nil]
    obtain ⟨o, cap, hv, hc1, hc2⟩ := row_shape HOO.out
    injection hv with _ _ hv3
    subst hv3
    exact ⟨HO1.out, Kept.of HB1.out, fun g hg => .inl hg, hc1, hc2⟩
  · have hshape : ∃ g, a = ⟨g, 0, none⟩ := by
      rcases HOWN.out.2 with ⟨hv, _⟩ | ⟨g, cap, cur, hv, _⟩
      · cases hv
      · injection hv with e1; injection e1 with e1; exact ⟨g, e1⟩
    obtain ⟨g, rfl⟩ := hshape
    have HSRC := Lib.hid (fun (j : Nat) (u : Value) (hu : (rs.flatMap rlCs)[j]? = some u) => HOWN.out.cells (g := g) rfl j u hu)
    have HFIN : Hid (∀ v' W, W.ownsRow 0 39 5 v' (on + n) (rso.flatMap rlCs ++ rs.flatMap rlCs) → w1.grownBy W (Value.slice oo on oc).ownBlock → (v'.ownBlock = (Value.slice oo on oc).ownBlock ∨ v'.ownBlock = some w1.heap.size) → ∃ o' c', v' = .slice o' (on + n) c' ∧ PutR w oo on oc (lso ++ ls) o' (on + n) c' W) := by
      refine Lib.hid (fun v' W hw hg hat => ?_)
      obtain ⟨o', c'', rfl, hc1, hc2⟩ := row_shape hw
      rw [← List.flatMap_append] at hw
      have htag : ∀ g, (Value.slice oo on oc).ownBlock = some g → Tg w1 39 g := fun g hg => HO1.out.tag hg
      have hk : ∀ e, e = 3 ∨ e = 101 → ∀ b, Tg w1 e b → W.heap[b]? = w1.heap[b]? ∧ Tg W e b := by
        intro e he b hb
        have hne : some b ≠ (Value.slice oo on oc).ownBlock := by
          intro heq
          exact hb.ne (htag b heq.symm) (by rcases he with rfl | rfl <;> decide) rfl
        have := hg.block b hb.lt hne
        exact ⟨this, hb.keep this⟩
      refine ⟨o', c'', rfl, ⟨⟨_, hw, (all2_app HAO.out HALL.out).mono fun r l hr => hr.keep hk⟩, ?_⟩, ?_, ?_, hc1, hc2⟩
      · rw [List.length_append, ← HO.out.len, ← HLN.out]
      · exact ⟨hg.os.trans HB1.out.os, hg.tape.trans HB1.out.tape, hg.output.trans HB1.out.output, Nat.le_trans HB1.out.size hg.size, fun k hk hs => (hg.block k (Nat.lt_of_lt_of_le hk HB1.out.size) (fun e => hs e.symm)).trans (HB1.out.block k hk)⟩
      · intro g' hg'
        rcases hat with e | e
        · exact .inl (by rw [← e]; exact hg')
        · rw [e] at hg'
          have : w1.heap.size = g' := by injection hg'
          exact .inr (by have := HB1.out.size; omega)
    have hln : (rs.flatMap rlCs).length = n * 5 := HOWN.out.1
    have HLNR := Lib.hid hln
    clear hln
    go_wp2_with (at_builtin; refine wpList_append_own_at _ rfl _ _ 31 rfl 0 39 i0 _ 5 64 Tryz.underlying31 hi0 hz0 hz1 hz2 rfl (by decide) _ _ _ rfl HOO.out ⟨g, 0, none⟩ n c' (rs.flatMap rlCs) rfl HLNR.out HSRC.out (fm_one rl_one rs) (by unfold maxLen; omega) (by omega) (Nat.zero_le _) ?_
                 intro v3 w4 hown3 hgrow3 _ hat3
                 obtain ⟨o3, c3, rfl, hput3⟩ := HFIN.out _ _ hown3 hgrow3 hat3
                 have HPU := Lib.hid hput3
                 clear hown3 hgrow3 hat3 hput3)
    refine (HPUT.out _ _ _ HPU.out).mono ?_
    rintro e w5 ⟨rfl, hR⟩
    have HR := Lib.hid hR
    clear hR
    go_wp2_with fail
    go_ret
    exact ⟨rfl, w4, o3, c3, HPU.out, HR.out⟩
end Go.Proofs.YtgpanlkcpnlejaaGreat
