/- copyLines. -/
import Derived.Test.YtfobbcddedcepaaDoorA4
namespace Go.Proofs.YtfobbcddedcepaaDoor
open Go.RowKit
set_option maxRecDepth 100000
set_option linter.unusedSimpArgs false
set_option linter.unusedVariables false
/-- The cells of element j of a row of lines. -/
theorem ln_cells {w : World} {base g n c : Nat} {rs : List RL} (h : w.ownsRow base 31 5 (.slice (some ⟨g, 0, none⟩) n c) n (rs.flatMap rlCs)) (j : Nat) (r : RL) (hr : rs[j]? = some r) :
    w.cell? ⟨g, j * 5, none⟩ = some (.string r.tx) ∧ w.cell? ⟨g, j * 5 + 1, none⟩ = some (.bool r.md) ∧ w.cell? ⟨g, j * 5 + 2, none⟩ = some (.int .i64 r.up) ∧ w.cell? ⟨g, j * 5 + 3, none⟩ = some (.int .i64 r.dn) ∧ w.cell? ⟨g, j * 5 + 4, none⟩ = some (.slice r.bo r.bn r.bc) ∧ w.frozen? ⟨g, j * 5 + 4, none⟩ = false ∧ w.frozen? ⟨g, j * 5, none⟩ = false ∧ w.frozen? ⟨g, j * 5 + 1, none⟩ = false ∧ w.frozen? ⟨g, j * 5 + 2, none⟩ = false ∧ w.frozen? ⟨g, j * 5 + 3, none⟩ = false := by
  have key := fun k (hk : k < 5) => fm_at rl_len rs j k r hr hk
  exact ⟨(own_cell h _ _ (key 0 (by omega))).1, (own_cell h _ _ (key 1 (by omega))).1, (own_cell h _ _ (key 2 (by omega))).1, (own_cell h _ _ (key 3 (by omega))).1, (own_cell h _ _ (key 4 (by omega))).1, (own_cell h _ _ (key 4 (by omega))).2, (own_cell h _ _ (key 0 (by omega))).2, (own_cell h _ _ (key 1 (by omega))).2, (own_cell h _ _ (key 2 (by omega))).2, (own_cell h _ _ (key 3 (by omega))).2⟩
/-- Behind j rounds: the first j lines have boxes of their own. -/
structure ClR (w : World) (A' : Option Addr) (n c' : Nat) (rs0 : List RL) (ls : List Ln) (j : Nat) (wr : World) : Prop where
  ex : ∃ rs : List RL, wr.ownsRow w.heap.size 31 5 (.slice A' n c') n (rs.flatMap rlCs) ∧ rs.length = n ∧ (∀ i r l, i < j → rs[i]? = some r → ls[i]? = some l → RlIs (Tg wr) wr r l) ∧ (∀ i, j ≤ i → rs[i]? = rs0[i]?)
  below : Below w.heap.size w wr
/-- A line is stored in a row. -/
def LnJ (w : World) (g j : Nat) (tx : ByteArray) (md : Bool) (up dn : Int) (o : Option Addr) (n c : Nat) : World :=
  ((((w.setCell ⟨g, j * 5, none⟩ (.string tx)).setCell ⟨g, j * 5 + 1, none⟩ (.bool md)).setCell ⟨g, j * 5 + 2, none⟩ (.int .i64 up)).setCell ⟨g, j * 5 + 3, none⟩ (.int .i64 dn)).setCell ⟨g, j * 5 + 4, none⟩ (.slice o n c)
theorem lnJ_far {w : World} {g j b : Nat} {tx : ByteArray} {md : Bool} {up dn : Int} {o : Option Addr} {n c : Nat} (hb : b ≠ g) : (LnJ w g j tx md up dn o n c).heap[b]? = w.heap[b]? := by
  unfold LnJ
  rw [Below.heap_setCell _ _ _ _ hb, Below.heap_setCell _ _ _ _ hb, Below.heap_setCell _ _ _ _ hb, Below.heap_setCell _ _ _ _ hb, Below.heap_setCell _ _ _ _ hb]
theorem lnJ_below {u w : World} {B g j : Nat} {tx : ByteArray} {md : Bool} {up dn : Int} {o : Option Addr} {n c : Nat} (h : Below B u w) (hg : B ≤ g) : Below B u (LnJ w g j tx md up dn o n c) :=
  ((((h.setCell (p := ⟨g, j * 5, none⟩) hg _).setCell (p := ⟨g, j * 5 + 1, none⟩) hg _).setCell (p := ⟨g, j * 5 + 2, none⟩) hg _).setCell (p := ⟨g, j * 5 + 3, none⟩) hg _).setCell (p := ⟨g, j * 5 + 4, none⟩) hg _
theorem set_self {α : Type} (l : List α) (j : Nat) (x : α) (h : l[j]? = some x) : l.set j x = l := by
  apply List.ext_getElem?
  intro i
  rw [List.getElem?_set]
  by_cases e : j = i
  · subst e
    rw [if_pos rfl, if_pos (List.getElem?_eq_some_iff.1 h).1, h]
  · rw [if_neg e]
theorem lnJ_row {w : World} {base g j n c : Nat} {rs : List RL} {r : RL} {bo : Option Addr} {bc : Nat} (h : w.ownsRow base 31 5 (.slice (some ⟨g, 0, none⟩) n c) n (rs.flatMap rlCs)) (hr : rs[j]? = some r) (hl : rs.length = n) :
    (LnJ w g j r.tx r.md r.up r.dn bo r.bn bc).ownsRow base 31 5 (.slice (some ⟨g, 0, none⟩) n c) n ((rs.set j { r with bo := bo, bc := bc }).flatMap rlCs) := by
  have hj := (List.getElem?_eq_some_iff.1 hr).1
  have hs := set_self rs j r hr
  have e0 := fm_set rl_len rs j 0 r r (.string r.tx) hr (by omega) rfl
  have e1 := fm_set rl_len rs j 1 r r (.bool r.md) hr (by omega) rfl
  have e2 := fm_set rl_len rs j 2 r r (.int .i64 r.up) hr (by omega) rfl
  have e3 := fm_set rl_len rs j 3 r r (.int .i64 r.dn) hr (by omega) rfl
  have e4 := fm_set rl_len rs j 4 r { r with bo := bo, bc := bc } (.slice bo r.bn bc) hr (by omega) rfl
  rw [hs] at e0 e1 e2 e3
  have h0 := own_set h (j * 5 + 0) (by omega) (.string r.tx)
  rw [← e0] at h0
  have h1 := own_set h0 (j * 5 + 1) (by omega) (.bool r.md)
  rw [← e1] at h1
  have h2 := own_set h1 (j * 5 + 2) (by omega) (.int .i64 r.up)
  rw [← e2] at h2
  have h3 := own_set h2 (j * 5 + 3) (by omega) (.int .i64 r.dn)
  rw [← e3] at h3
  have h4 := own_set h3 (j * 5 + 4) (by omega) (.slice bo r.bn bc)
  rw [← e4] at h4
  exact h4
theorem ClR.step {P : TypeId → Nat → Prop} {w : World} {A' : Option Addr} {n c' : Nat} {rs0 : List RL} {ls : List Ln} {j g : Nat} {wr w2 : World} {rs : List RL} {r : RL} {l : Ln} {bo : Option Addr} {bc : Nat} {bs : List RB} (hA : A' = some ⟨g, 0, none⟩) (hg : w.heap.size ≤ g)
    (ho : wr.ownsRow w.heap.size 31 5 (.slice A' n c') n (rs.flatMap rlCs)) (hl : rs.length = n) (h1 : ∀ i r l, i < j → rs[i]? = some r → ls[i]? = some l → RlIs (Tg wr) wr r l) (h2 : ∀ i, j ≤ i → rs[i]? = rs0[i]?) (hb : Below w.heap.size w wr)
    (hr : rs[j]? = some r) (hx : ls[j]? = some l) (hrx : RlIs P w r l) (hw2 : Below wr.heap.size wr w2) (hn2 : w2.ownsRow wr.heap.size 85 7 (.slice bo r.bn bc) r.bn (bs.flatMap rbCs)) (hbs : All2 (RbIs (Tg w2) w2) bs l.bx) (hnil : bo = none → r.bn = 0) :
    ClR w A' n c' rs0 ls (j + 1) (LnJ w2 g j r.tx r.md r.up r.dn bo r.bn bc) := by
  subst hA
  have hjl : j < rs.length := (List.getElem?_eq_some_iff.1 hr).1
  have hgl : g < wr.heap.size ∧ Tg wr 31 g := by
    obtain ⟨g', e, _, hlt, cur, hcur, _⟩ := own_head ho (by omega)
    injection e with e; injection e with e; subst e; exact ⟨hlt, cur, _, hcur⟩
  have ho2 := own_kept ho (Kept.of (S := fun _ => False) hw2) (fun _ _ h => h)
  have ho3 := lnJ_row (bo := bo) (bc := bc) ho2 hr hl
  have hk : ∀ b, b ≠ g → (LnJ w2 g j r.tx r.md r.up r.dn bo r.bn bc).heap[b]? = w2.heap[b]? := fun b hb => lnJ_far hb
  have hgt := (hgl.2.below hw2).2
  have hkt : ∀ e, e = 3 ∨ e = 85 → ∀ b, Tg w2 e b → (LnJ w2 g j r.tx r.md r.up r.dn bo r.bn bc).heap[b]? = w2.heap[b]? ∧ Tg (LnJ w2 g j r.tx r.md r.up r.dn bo r.bn bc) e b := by
    intro e he b hb'
    have hne : b ≠ g := hb'.ne hgt (by rcases he with rfl | rfl <;> decide)
    exact ⟨hk b hne, hb'.keep (hk b hne)⟩
  refine ⟨⟨_, ho3, by simpa using hl, fun i r' l' hi hr' hx' => ?_, fun i hi => ?_⟩, lnJ_below (hb.trans (hw2.mono hb.size)) hg⟩
  · rw [List.getElem?_set] at hr'
    by_cases e : j = i
    · subst e
      rw [if_pos rfl, if_pos hjl] at hr'
      obtain rfl := Option.some.inj hr'
      obtain rfl : l = l' := Option.some.inj (hx.symm.trans hx')
      obtain ⟨o, cap, hv, hcap1, hcap2⟩ := row_shape hn2
      injection hv with hv1 hv2 hv3
      subst hv3
      have hrd := ReadsP.of_own (P := Tg w2 85) hn2 (fun g' cs hg' _ => ⟨cs, _, hg'⟩)
      have hbx : BxsAt (Tg w2) w2 bo r.bn l.bx := ⟨⟨bs, hrd, hbs⟩, hrx.bx.len⟩
      exact ⟨hrx.tx, hrx.md, hrx.up, hrx.dn, hnil, hcap1, hcap2, hbx.keep hkt⟩
    · rw [if_neg e] at hr'
      refine ((h1 i r' l' (by omega) hr' hx').keep (P' := Tg w2) (w' := w2) fun e _ b hb' => hb'.below hw2).keep hkt
  · rw [List.getElem?_set_ne (by omega)]; exact h2 i (by omega)
set_option maxHeartbeats 800000 in
theorem copyLines_any {P : TypeId → Nat → Prop} {w : World} {A : Option Addr} {n c : Nat} {ls : List Ln} (h : LnsAt P w A n ls) (hP : ∀ e b, P e b → b < w.heap.size) (hA : A = none → n = 0) (hn : n ≤ 100000) (hbx : ∀ l ∈ ls, l.bx.length ≤ 2000) :
    Calls Tryd.prog 52 #[.slice A n c] w fun e w' => ∃ A' c' rs, e = .returned (.slice A' n c') ∧ w'.ownsRow w.heap.size 31 5 (.slice A' n c') n (rs.flatMap rlCs) ∧ All2 (RlIs (Tg w') w') rs ls ∧ Below w.heap.size w w' := by
  obtain ⟨⟨rs0, hr0, ha0⟩, hlen⟩ := h
  have hl0 : rs0.length = n := by rw [ha0.1, hlen]
  have HCL := Lib.hid (cloneL_any (c := c) hr0 (fm_one rl_one rs0) hA (by omega))
  have HA0 : Hid (All2 (RlIs P w) rs0 ls) := Lib.hid ha0
  have HLEN := Lib.hid hlen
  have HL0 := Lib.hid hl0
  have HP := Lib.hid hP
  have HBX := Lib.hid hbx
  clear hr0 ha0 hlen hl0 hA hP hbx
  go_enter Tryd.func52, Tryd.ntmps52
  go_wp2_with fail
  refine HCL.out.mono ?_
  rintro e w1 ⟨A', c', rfl, hown, hb1⟩
  obtain ⟨o, cap, hv, hcap1, hcap2⟩ := row_shape hown
  injection hv with hv1 hv2 hv3
  subst hv3
  have HST : Hid (ClR w A' n c' rs0 ls 0 w1) := Lib.hid ⟨⟨rs0, hown, HL0.out, fun i r x hi => by omega, fun _ _ => rfl⟩, hb1⟩
  clear hown hb1 hv1 hv2
  go_wp2_with fail
  go_loopg [10] n (fun k i wr => ∃ j : Nat, k + j = n ∧ i = .int .i64 j ∧ ClR w A' n c' rs0 ls j wr)
  case atStart => exact ⟨0, rfl, rfl, HST.out⟩
  case round =>
    obtain ⟨j, hk, rfl, ⟨⟨rs, ho, hl, h1, h2⟩, hb⟩⟩ := hrel
    have HK := Lib.hid hk
    by_cases hj : j < n
    · have dj : decide (j < n) = true := decide_eq_true hj
      obtain ⟨g, rfl, hg, hgl, _⟩ := own_head ho (by omega)
      have hrj : rs[j]? = some (rs[j]'(by omega)) := List.getElem?_eq_getElem (by omega)
      obtain ⟨r, hr⟩ : ∃ r, r = rs[j]'(by omega) := ⟨_, rfl⟩
      rw [← hr] at hrj
      have hxj : ls[j]? = some (ls[j]'(by have := HLEN.out; omega)) := List.getElem?_eq_getElem (by have := HLEN.out; omega)
      obtain ⟨l, hx⟩ : ∃ l, l = ls[j]'(by have := HLEN.out; omega) := ⟨_, rfl⟩
      rw [← hx] at hxj
      have hrx : RlIs P w r l := HA0.out.2 j r l ((h2 j (Nat.le_refl _)).symm.trans hrj) hxj
      have hbl : r.bn ≤ 2000 := by rw [hrx.bx.len]; exact HBX.out l (List.mem_of_getElem? hxj)
      obtain ⟨b0, b1, b2, b3, b4, bf, f0, f1, f2, f3⟩ := ln_cells ho j r hrj
      have hcl := copyLine_any r.tx r.md r.up r.dn r.bo r.bn r.bc l.bx (w := wr.alloc (.cells #[.string r.tx, .bool r.md, .int .i64 r.up, .int .i64 r.dn, .slice r.bo r.bn r.bc] 31)) (P := fun _ b => b < w.heap.size)
        (hrx.bx.keep (P' := fun _ b => b < w.heap.size) fun e _ b hb' => ⟨((Below.heap_alloc _ _ _ (Nat.lt_of_lt_of_le (HP.out e b hb') hb.size)).trans (hb.block b (HP.out e b hb'))), HP.out e b hb'⟩)
        (fun _ b hb' => by have h1 : b < w.heap.size := hb'; have := hb.size; simp; omega) hrx.nil hbl
      have HCI := Lib.hid hcl
      have HO := Lib.hid ho
      have HH1 := Lib.hid h1
      have HH2 := Lib.hid h2
      have HB := Lib.hid hb
      have HL := Lib.hid hl
      have HRJ := Lib.hid hrj
      have HXJ := Lib.hid hxj
      have HRX := Lib.hid hrx
      have HJ := Lib.hid hj
      have hj2 : j ≤ 100000 := by omega
      obtain ⟨tx, md, up, dn, bo, bn, bc⟩ := r
      simp only at *
      clear hk hj ho hl h1 h2 hb hr hrj hx hxj hrx hcl
      go_wp2_with fail
      refine HCI.out.mono ?_
      rintro e w2 ⟨bo', bc', bs, rfl, hn2, hbs, hb2⟩
      have hba := (Below.refl wr.heap.size wr).alloc (Nat.le_refl _) (.cells #[.string tx, .bool md, .int .i64 up, .int .i64 dn, .slice bo bn bc] 31)
      have hb2' := hba.trans (hb2.mono (by simp))
      have ec : ∀ o v, wr.cell? ⟨g, o, none⟩ = some v → w2.cell? ⟨g, o, none⟩ = some v := fun o v h => (hb2'.cell (p := ⟨g, o, none⟩) hgl).trans h
      have ef : ∀ o, wr.frozen? ⟨g, o, none⟩ = false → w2.frozen? ⟨g, o, none⟩ = false := fun o h => (hb2'.frozen (p := ⟨g, o, none⟩) hgl).trans h
      have e0 := ec _ _ b0
      have e1 := ec _ _ b1
      have e2 := ec _ _ b2
      have e3 := ec _ _ b3
      have e4 := ec _ _ b4
      have g0 := ef _ f0
      have g1 := ef _ f1
      have g2 := ef _ f2
      have g3 := ef _ f3
      have g4 := ef _ bf
      have HN2 := Lib.hid (own_base hn2 (base' := wr.heap.size) (by simp))
      have HB2 := Lib.hid hb2'
      have HNIL := Lib.hid (own_none hn2)
      have HBS : Hid (All2 (RbIs (Tg w2) w2) bs l.bx) := Lib.hid hbs
      have hfin := ClR.step rfl hg HO.out HL.out HH1.out HH2.out HB.out HRJ.out HXJ.out HRX.out HB2.out HN2.out HBS.out HNIL.out
      unfold LnJ at hfin
      simp only at hfin
      have HFIN := Lib.hid hfin
      clear hn2 hb2 hba hb2' hbs ec ef hfin
      go_wp2_with fail
      go_roundg (gk - 1)
      case measure => have := HK.out; have := HJ.out; omega
      case rel =>
        have := HK.out
        have := HJ.out
        exact ⟨j + 1, by omega, by go_num, HFIN.out⟩
    · have dj : decide (j < n) = false := decide_eq_false hj
      have HO := Lib.hid ho
      have HH1 := Lib.hid h1
      have HB := Lib.hid hb
      have HL := Lib.hid hl
      have HNJ := Lib.hid hj
      clear hk hj ho hl h1 h2 hb
      go_wp2_with fail
      go_ret
      refine ⟨A', c', rs, rfl, HO.out, ⟨by rw [HL.out, HLEN.out], fun i r x hr hx => ?_⟩, HB.out⟩
      have hi : i < rs.length := (List.getElem?_eq_some_iff.1 hr).1
      exact HH1.out i r x (by have := HL.out; have := HNJ.out; omega) hr hx
end Go.Proofs.YtfobbcddedcepaaDoor
