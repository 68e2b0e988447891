/- copyLines. -/
import Derived.Test.YtpeiboapgdjcaaaD3
namespace Go.Proofs.Ytpeiboapgdjcaaa
open Go.RowKit Go.Maps
set_option maxRecDepth 100000
/-- The cells of element j of a row of lines. -/
theorem ln_cells {w : World} {base g n c : Nat} {rs : List RL} (h : w.ownsRow base 69 5 (.slice (some ⟨g, 0, none⟩) n c) n (rs.flatMap rlCs)) (j : Nat) (r : RL) (hr : rs[j]? = some r) :
    w.cell? ⟨g, j * 5, none⟩ = some (.string r.tx) ∧ w.cell? ⟨g, j * 5 + 1, none⟩ = some (.bool r.md) ∧ w.cell? ⟨g, j * 5 + 2, none⟩ = some (.int .i64 r.up) ∧ w.cell? ⟨g, j * 5 + 3, none⟩ = some (.int .i64 r.dn) ∧ w.cell? ⟨g, j * 5 + 4, none⟩ = some (.slice r.bo r.bn r.bc) ∧ w.frozen? ⟨g, j * 5 + 4, none⟩ = false := by
  have key := fun k (hk : k < 5) => fm_at rl_len rs j k r hr hk
  exact ⟨(own_cell h _ _ (key 0 (by omega))).1, (own_cell h _ _ (key 1 (by omega))).1, (own_cell h _ _ (key 2 (by omega))).1, (own_cell h _ _ (key 3 (by omega))).1, (own_cell h _ _ (key 4 (by omega))).1, (own_cell h _ _ (key 4 (by omega))).2⟩
/-- Behind j rounds: the first j lines have boxes of their own. -/
structure ClR (w : World) (A' : Option Addr) (n c' : Nat) (rs0 : List RL) (ls : List Ln) (j : Nat) (wr : World) : Prop where
  ex : ∃ rs : List RL, wr.ownsRow w.heap.size 69 5 (.slice A' n c') n (rs.flatMap rlCs) ∧ rs.length = n ∧ (∀ i r l, i < j → rs[i]? = some r → ls[i]? = some l → RlIs (Tg wr) wr r l) ∧ (∀ i, j ≤ i → rs[i]? = rs0[i]?)
  below : Below w.heap.size w wr
theorem ClR.step {P : TypeId → Nat → Prop} {w : World} {A' : Option Addr} {n c' : Nat} {rs0 : List RL} {ls : List Ln} {j g : Nat} {wr w2 : World} {rs : List RL} {r : RL} {l : Ln} {bo : Option Addr} {bc : Nat} {bs : List RB} (hA : A' = some ⟨g, 0, none⟩) (hg : w.heap.size ≤ g)
    (ho : wr.ownsRow w.heap.size 69 5 (.slice A' n c') n (rs.flatMap rlCs)) (hl : rs.length = n) (h1 : ∀ i r l, i < j → rs[i]? = some r → ls[i]? = some l → RlIs (Tg wr) wr r l) (h2 : ∀ i, j ≤ i → rs[i]? = rs0[i]?) (hb : Below w.heap.size w wr)
    (hr : rs[j]? = some r) (hx : ls[j]? = some l) (hrx : RlIs P w r l) (hw2 : Below wr.heap.size wr w2) (hn2 : w2.ownsRow wr.heap.size 74 7 (.slice bo r.bn bc) r.bn (bs.flatMap rbCs)) (hbs : All2 (RbIs (Tg w2) w2) bs l.bx) (hnil : bo = none → r.bn = 0) :
    ClR w A' n c' rs0 ls (j + 1) (w2.setCell ⟨g, j * 5 + 4, none⟩ (.slice bo r.bn bc)) := by
  subst hA
  have hjl : j < rs.length := (List.getElem?_eq_some_iff.1 hr).1
  have hgl : g < wr.heap.size ∧ Tg wr 69 g := by
    obtain ⟨g', e, _, hlt, cur, hcur, _⟩ := own_head ho (by omega)
    injection e with e; injection e with e; subst e; exact ⟨hlt, cur, _, hcur⟩
  have ho2 := own_kept ho (Kept.of (S := fun _ => False) hw2) (fun _ _ h => h)
  have ho3 := own_set ho2 (j * 5 + 4) (by omega) (.slice bo r.bn bc)
  have hset := fm_set rl_len rs j 4 r { r with bo := bo, bc := bc } (.slice bo r.bn bc) hr (by omega) rfl
  rw [← hset] at ho3
  have hk : ∀ b, b ≠ g → (w2.setCell ⟨g, j * 5 + 4, none⟩ (.slice bo r.bn bc)).heap[b]? = w2.heap[b]? := fun b hb => Below.heap_setCell _ _ _ _ hb
  have hgt := (hgl.2.below hw2).2
  have hkt : ∀ e, e = 3 ∨ e = 74 → ∀ b, Tg w2 e b → (w2.setCell ⟨g, j * 5 + 4, none⟩ (.slice bo r.bn bc)).heap[b]? = w2.heap[b]? ∧ Tg (w2.setCell ⟨g, j * 5 + 4, none⟩ (.slice bo r.bn bc)) e b := by
    intro e he b hb'
    have hne : b ≠ g := hb'.ne hgt (by rcases he with rfl | rfl <;> decide)
    exact ⟨hk b hne, hb'.keep (hk b hne)⟩
  refine ⟨⟨_, ho3, by simpa using hl, fun i r' l' hi hr' hx' => ?_, fun i hi => ?_⟩, (hb.trans (hw2.mono hb.size)).setCell (p := ⟨g, j * 5 + 4, none⟩) hg _⟩
  · rw [List.getElem?_set] at hr'
    by_cases e : j = i
    · subst e
      rw [if_pos rfl, if_pos hjl] at hr'
      obtain rfl := Option.some.inj hr'
      obtain rfl : l = l' := Option.some.inj (hx.symm.trans hx')
      obtain ⟨o, cap, hv, hcap1, hcap2⟩ := row_shape hn2
      injection hv with hv1 hv2 hv3
      subst hv3
      have hrd := ReadsP.of_own (P := Tg w2 74) hn2 (fun g' cs hg' _ => ⟨cs, _, hg'⟩)
      have hbx : BxsAt (Tg w2) w2 bo r.bn l.bx := ⟨⟨bs, hrd, hbs⟩, hrx.bx.len⟩
      exact ⟨hrx.tx, hrx.md, hrx.up, hrx.dn, hnil, hcap1, hcap2, hbx.keep hkt⟩
    · rw [if_neg e] at hr'
      refine ((h1 i r' l' (by omega) hr' hx').keep (P' := Tg w2) (w' := w2) fun e _ b hb' => hb'.below hw2).keep hkt
  · rw [List.getElem?_set_ne (by omega)]; exact h2 i (by omega)
set_option maxHeartbeats 4000000 in
theorem copyLines_any {P : TypeId → Nat → Prop} {w : World} {A : Option Addr} {n c : Nat} {ls : List Ln} (h : LnsAt P w A n ls) (hP : ∀ e b, P e b → b < w.heap.size) (hA : A = none → n = 0) (hn : n ≤ 2000) (hbx : ∀ l ∈ ls, l.bx.length ≤ 2000) :
    Calls Try.prog 36 #[.slice A n c] w fun e w' => ∃ A' c' rs, e = .returned (.slice A' n c') ∧ w'.ownsRow w.heap.size 69 5 (.slice A' n c') n (rs.flatMap rlCs) ∧ All2 (RlIs (Tg w') w') rs ls ∧ Below w.heap.size w w' := by
  obtain ⟨⟨rs0, hr0, ha0⟩, hlen⟩ := h
  have hl0 : rs0.length = n := by rw [ha0.1, hlen]
  have HCL := Lib.hid (cloneL_any (c := c) hr0 (fm_one rl_one rs0) hA (by omega))
  have HA0 : Hid (All2 (RlIs P w) rs0 ls) := Lib.hid ha0
  have HLEN := Lib.hid hlen
  have HL0 := Lib.hid hl0
  have HP := Lib.hid hP
  have HBX := Lib.hid hbx
  clear hr0 ha0 hlen hl0 hA hP hbx
  go_enter Try.func36, Try.ntmps36
  go_wp2_with fail
  refine HCL.out.mono ?_
  rintro e w1 ⟨A', c', rfl, hown, hb1⟩
  obtain ⟨o, cap, hv, hcap1, hcap2⟩ := row_shape hown
  injection hv with hv1 hv2 hv3
  subst hv3
  have HST : Hid (ClR w A' n c' rs0 ls 0 w1) := Lib.hid ⟨⟨rs0, hown, HL0.out, fun i r x hi => by omega, fun _ _ => rfl⟩, hb1⟩
  clear hown hb1 hv1 hv2
  go_wp2_with fail
  go_loopg [10] n (fun k i wr => ∃ j : Nat, k + j = n ∧ i = .int .i64 j ∧ ClR w A' n c' rs0 ls j wr)
  case atStart => exact ⟨0, rfl, rfl, HST.out⟩
  case round =>
    obtain ⟨j, hk, rfl, ⟨⟨rs, ho, hl, h1, h2⟩, hb⟩⟩ := hrel
    have HK := Lib.hid hk
    by_cases hj : j < n
    · have dj : decide (j < n) = true := decide_eq_true hj
      obtain ⟨g, rfl, hg, hgl, _⟩ := own_head ho (by omega)
      have hrj : rs[j]? = some (rs[j]'(by omega)) := List.getElem?_eq_getElem (by omega)
      obtain ⟨r, hr⟩ : ∃ r, r = rs[j]'(by omega) := ⟨_, rfl⟩
      rw [← hr] at hrj
      have hxj : ls[j]? = some (ls[j]'(by have := HLEN.out; omega)) := List.getElem?_eq_getElem (by have := HLEN.out; omega)
      obtain ⟨l, hx⟩ : ∃ l, l = ls[j]'(by have := HLEN.out; omega) := ⟨_, rfl⟩
      rw [← hx] at hxj
      have hrx : RlIs P w r l := HA0.out.2 j r l ((h2 j (Nat.le_refl _)).symm.trans hrj) hxj
      have hbl : r.bn ≤ 2000 := by rw [hrx.bx.len]; exact HBX.out l (List.mem_of_getElem? hxj)
      obtain ⟨b0, b1, b2, b3, b4, bf⟩ := ln_cells ho j r hrj
      have hcl := copyBoxes_any (c := r.bc) (w := wr.alloc (.cells #[.string r.tx, .bool r.md, .int .i64 r.up, .int .i64 r.dn, .slice r.bo r.bn r.bc] 69)) (P := fun _ b => b < w.heap.size)
        (hrx.bx.keep (P' := fun _ b => b < w.heap.size) fun e _ b hb' => ⟨((Below.heap_alloc _ _ _ (Nat.lt_of_lt_of_le (HP.out e b hb') hb.size)).trans (hb.block b (HP.out e b hb'))), HP.out e b hb'⟩)
        (fun b hb' => by have h1 : b < w.heap.size := hb'; have := hb.size; simp; omega) hrx.nil hbl
      have HCI := Lib.hid hcl
      have HO := Lib.hid ho
      have HH1 := Lib.hid h1
      have HH2 := Lib.hid h2
      have HB := Lib.hid hb
      have HL := Lib.hid hl
      have HRJ := Lib.hid hrj
      have HXJ := Lib.hid hxj
      have HRX := Lib.hid hrx
      have HJ := Lib.hid hj
      have hj2 : j ≤ 2000 := by omega
      obtain ⟨tx, md, up, dn, bo, bn, bc⟩ := r
      simp only at *
      clear hk hj ho hl h1 h2 hb hr hrj hx hxj hrx hcl
      go_wp2_with fail
      refine HCI.out.mono ?_
      rintro e w2 ⟨bo', bc', bs, rfl, hn2, hbs, hb2⟩
      have hba := (Below.refl wr.heap.size wr).alloc (Nat.le_refl _) (.cells #[.string tx, .bool md, .int .i64 up, .int .i64 dn, .slice bo bn bc] 69)
      have hb2' := hba.trans (hb2.mono (by simp))
      have e6 : w2.cell? ⟨g, j * 5 + 4, none⟩ = some (.slice bo bn bc) := (hb2'.cell (p := ⟨g, j * 5 + 4, none⟩) hgl).trans b4
      have f6 : w2.frozen? ⟨g, j * 5 + 4, none⟩ = false := (hb2'.frozen (p := ⟨g, j * 5 + 4, none⟩) hgl).trans bf
      have HN2 := Lib.hid (own_base hn2 (base' := wr.heap.size) (by simp))
      have HB2 := Lib.hid hb2'
      have HNIL := Lib.hid (own_none hn2)
      have HBS : Hid (All2 (RbIs (Tg w2) w2) bs l.bx) := Lib.hid hbs
      clear hn2 hb2 hba hb2' hbs
      go_wp2_with fail
      go_roundg (gk - 1)
      case measure => have := HK.out; have := HJ.out; omega
      case rel =>
        have := HK.out
        have := HJ.out
        exact ⟨j + 1, by omega, by go_num, ClR.step rfl hg HO.out HL.out HH1.out HH2.out HB.out HRJ.out HXJ.out HRX.out HB2.out HN2.out HBS.out HNIL.out⟩
    · have dj : decide (j < n) = false := decide_eq_false hj
      have HO := Lib.hid ho
      have HH1 := Lib.hid h1
      have HB := Lib.hid hb
      have HL := Lib.hid hl
      have HNJ := Lib.hid hj
      clear hk hj ho hl h1 h2 hb
      go_wp2_with fail
      go_ret
      refine ⟨A', c', rs, rfl, HO.out, ⟨by rw [HL.out, HLEN.out], fun i r x hr hx => ?_⟩, HB.out⟩
      have hi : i < rs.length := (List.getElem?_eq_some_iff.1 hr).1
      exact HH1.out i r x (by have := HL.out; have := HNJ.out; omega) hr hx
end Go.Proofs.Ytpeiboapgdjcaaa
