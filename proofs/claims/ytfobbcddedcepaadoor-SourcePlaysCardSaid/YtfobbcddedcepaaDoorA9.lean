/- Own copies of all lines. -/
import Derived.Test.YtfobbcddedcepaaDoorA8
namespace Go.Proofs.YtfobbcddedcepaaDoor
open Go.RowKit
set_option maxRecDepth 100000
set_option linter.unusedSimpArgs false
set_option linter.unusedVariables false
/-- Behind j rounds: j lines of one's own. -/
structure OaR (w : World) (ls : List Ln) (j : Nat) (x : Value) (wr : World) : Prop where
  ex : ∃ rs' : List RL, wr.ownsRow w.heap.size 31 5 x j (rs'.flatMap rlCs) ∧ rs'.length = j ∧ ∀ (i : Nat) (r : RL) (l : Ln), rs'[i]? = some r → ls[i]? = some l → RlIs (NT w.heap.size wr) wr r l
  below : Below w.heap.size w wr
theorem OaR.step {w : World} {ls : List Ln} {j : Nat} {x v5 : Value} {wr w2 w5 : World} {r : RL} {l : Ln} {rs' : List RL}
    (ho : wr.ownsRow w.heap.size 31 5 x j (rs'.flatMap rlCs)) (hl : rs'.length = j) (hx : ∀ (i : Nat) (r : RL) (l : Ln), rs'[i]? = some r → ls[i]? = some l → RlIs (NT w.heap.size wr) wr r l) (hb : Below w.heap.size w wr)
    (h2 : Below wr.heap.size wr w2) (hr : RlIs (NT wr.heap.size w2) w2 r l) (hlj : ls[j]? = some l) (cs : Array Value) (hg : (w2.alloc (.cells cs 31)).grownBy w5 x.ownBlock)
    (hown : w5.ownsRow w.heap.size 31 5 v5 (j + 1) (rs'.flatMap rlCs ++ rlCs r)) : OaR w ls (j + 1) v5 w5 := by
  have hxt : ∀ g, x.ownBlock = some g → Tg wr 31 g := fun g hg => (own_tag ho hg).1
  have k25 : ∀ q, q < w2.heap.size → x.ownBlock ≠ some q → w5.heap[q]? = w2.heap[q]? := fun q hq hne => (hg.block q (by simp; omega) (fun e => hne e.symm)).trans (Below.heap_alloc _ _ _ hq)
  have kx : ∀ e, e = 3 ∨ e = 85 → ∀ q, Tg w2 e q → w5.heap[q]? = w2.heap[q]? := fun e he q hq => k25 q hq.lt (fun hx' => (hq.ne ((hxt q hx').below h2).2 (by rcases he with rfl | rfl <;> decide)) rfl)
  have hz := hb.size
  refine ⟨⟨rs' ++ [r], by rw [List.flatMap_append]; simpa using hown, by simp [hl], fun i r' l' hr' hl' => ?_⟩, ?_⟩
  · by_cases hi : i < rs'.length
    · rw [List.getElem?_append_left hi] at hr'
      refine (hx i r' l' hr' hl').keep fun e he q hq => ?_
      have h3 := hq.2.below h2
      have h4 := kx e he q h3.2
      exact ⟨h4.trans h3.1, hq.1, h3.2.keep h4⟩
    · have hie : i = j := by
        have := (List.getElem?_eq_some_iff.1 hr').1
        simp at this; omega
      subst hie
      rw [List.getElem?_append_right (by omega), hl, Nat.sub_self] at hr'
      simp only [List.getElem?_cons_zero, Option.some.injEq] at hr'
      obtain rfl : l = l' := Option.some.inj (hlj.symm.trans hl')
      subst hr'
      refine hr.keep fun e he q hq => ?_
      have h4 := kx e he q hq.2
      exact ⟨h4, by omega, hq.2.keep h4⟩
  · exact ((hb.trans (h2.mono hz)).alloc (by have := h2.size; omega) (.cells cs 31)).grown hg (by have := h2.size; simp; omega) (fun k hk => (own_tag ho hk).2)
theorem cell_five_new (w : World) (c0 c1 c2 c3 c4 : Value) (e : TypeId) : ∀ j u, [c0, c1, c2, c3, c4][j]? = some u → (w.alloc (.cells #[c0, c1, c2, c3, c4] e)).cell? ((⟨w.heap.size, 0, none⟩ : Addr).add j) = some u := by
  intro j u hu
  rw [cell_add]
  have h := heap_alloc_new w (.cells #[c0, c1, c2, c3, c4] e)
  simp only [World.cell?, h, Nat.zero_add]
  have : (#[c0, c1, c2, c3, c4] : Array Value).toList[j]? = some u := hu
  rwa [Array.getElem?_toList] at this
/-- What OwnAll leaves. -/
structure OaP (ls : List Ln) (n : Nat) (w : World) (e : Ending) (w' : World) : Prop where
  ex : ∃ A c, e = .returned (.slice A n c) ∧ LnsAt (NT w.heap.size w') w' A n ls ∧ (A = none → n = 0) ∧ n ≤ c ∧ (c : Int) ≤ 9223372036854775807
  below : Below w.heap.size w w'
set_option maxHeartbeats 4000000 in
theorem rOwnAll_any {P : TypeId → Nat → Prop} {w : World} {A : Option Addr} {n c : Nat} {ls : List Ln} (h : LnsAt P w A n ls) (hP : ∀ e b, P e b → b < w.heap.size) (hn : n * 64 ≤ 140737488351232) (hbx : ∀ l ∈ ls, l.bx.length ≤ 2000) :
    Calls Tryd.prog 43 #[.slice A n c] w (OaP ls n w) := by
  obtain ⟨⟨rs, hr, ha⟩, hlen⟩ := h
  have HRL := Lib.hid (show rs.length = n by rw [ha.1, hlen])
  have HR := Lib.hid hr
  have HA : Hid (All2 (RlIs P w) rs ls) := Lib.hid ha
  have HLEN := Lib.hid hlen
  have HP := Lib.hid hP
  have HBX := Lib.hid hbx
  clear hr ha hlen hP hbx
  obtain ⟨i0, hi0, hz0, hz1, hz2⟩ := info_parts info_line
  have HST : Hid (OaR w ls 0 (.slice none 0 0) w) := Lib.hid ⟨⟨[], World.ownsRow_nil _ _ _ _, rfl, fun i r b h => by simp at h⟩, Below.refl _ _⟩
  go_enter Tryd.func43, Tryd.ntmps43
  go_wp2_with fail
  go_loopg [3, 4] n (fun k x i wr => ∃ j : Nat, k + j = n ∧ i = .int .i64 j ∧ OaR w ls j x wr)
  case atStart => exact ⟨0, rfl, rfl, HST.out⟩
  case round =>
    obtain ⟨j, hk, rfl, hw⟩ := hrel
    obtain ⟨⟨rs', ho, hl, hx⟩, hb⟩ := hw
    have HK := Lib.hid hk
    by_cases hj : j < n
    · have dj : decide (j < n) = true := decide_eq_true hj
      have hrj : rs[j]? = some (rs[j]'(by have := HRL.out; omega)) := List.getElem?_eq_getElem (by have := HRL.out; omega)
      obtain ⟨r, hre⟩ : ∃ r, r = rs[j]'(by have := HRL.out; omega) := ⟨_, rfl⟩
      rw [← hre] at hrj
      have hlj : ls[j]? = some (ls[j]'(by have := HLEN.out; omega)) := List.getElem?_eq_getElem (by have := HLEN.out; omega)
      obtain ⟨l, hle⟩ : ∃ l, l = ls[j]'(by have := HLEN.out; omega) := ⟨_, rfl⟩
      rw [← hle] at hlj
      have hrx := HA.out.2 j r l hrj hlj
      obtain ⟨q, qo, rfl, hpq, c0, c1, c2, c3, c4⟩ := reads_ln HR.out j r hrj
      have hql := HP.out _ q hpq
      have e := fun o => hb.cell (p := ⟨q, o, none⟩) hql
      rw [← e] at c0 c1 c2 c3 c4
      obtain ⟨o, cap, rfl, _, _⟩ := row_shape ho
      have HLJ := Lib.hid hlj
      have HRX := Lib.hid hrx
      have HO := Lib.hid ho
      have HL := Lib.hid hl
      have HX := Lib.hid hx
      have HB := Lib.hid hb
      have HJ := Lib.hid hj
      obtain ⟨tx, md, up, dn, bo, bn, bc⟩ := r
      simp only at c0 c1 c2 c3 c4
      have hbn : bn ≤ 2000 := by
        have h1 := hrx.bx.len
        have h2 := HBX.out l (List.mem_of_getElem? hlj)
        simp only at h1; omega
      have HOW := Lib.hid (rOwn_any (w := wr) tx md up dn bo bn bc l.bx (hrx.bx.keep (P' := fun _ b => b < w.heap.size) fun e _ b hb' => ⟨hb.block b (HP.out e b hb'), HP.out e b hb'⟩) (fun _ b hb' => Nat.lt_of_lt_of_le hb' hb.size) hbn)
      have hj47 : j * 64 + 64 ≤ 140737488351232 := by omega
      clear hk hj hre hrj hle hlj hrx hpq hql e ho hl hx hb
      go_wp2_with fail
      refine HOW.out.mono ?_
      rintro e w2 ⟨bo', bc', rfl, hbx', hnil', hle', hcap', hb2⟩
      have hs4 := cell_five_new w2 (.string tx) (.bool md) (.int .i64 up) (.int .i64 dn) (.slice bo' bn bc') 31
      have HSRC := Lib.hid hs4
      have HO4 := Lib.hid (own_kept HO.out (Kept.of (S := fun _ => False) (hb2.alloc hb2.size (.cells #[.string tx, .bool md, .int .i64 up, .int .i64 dn, .slice bo' bn bc'] 31))) (fun _ _ h => h))
      have HZ := Lib.hid (Nat.le_trans HB.out.size hb2.size)
      have HRI : Hid (RlIs (NT wr.heap.size w2) w2 ⟨tx, md, up, dn, bo', bn, bc'⟩ l) := Lib.hid ⟨HRX.out.tx, HRX.out.md, HRX.out.up, HRX.out.dn, hnil', hle', hcap', hbx'⟩
      have HB2 := Lib.hid hb2
      clear hbx' hnil' hle' hcap' hb2 hs4
      go_wp2_with (first
        | (at_builtin; refine wpList_append_own _ rfl _ _ 35 rfl w.heap.size 31 i0 _ 5 64 Tryd.underlying35 hi0 hz0 hz1 hz2 rfl (by decide) _ _ _ rfl HO4.out ⟨w2.heap.size, 0, none⟩ 1 1 [.string tx, .bool md, .int .i64 up, .int .i64 dn, .slice bo' bn bc'] rfl rfl HSRC.out (fun u hu => by simp only [List.mem_cons, List.not_mem_nil, or_false] at hu; rcases hu with rfl | rfl | rfl | rfl | rfl <;> rfl) (by unfold maxLen; omega) (by omega) (by have := HZ.out; simp; omega) ?_
           intro v5 w5 hown5 hgrow5 _
           have hg5 : (w2.alloc (.cells #[.string tx, .bool md, .int .i64 up, .int .i64 dn, .slice bo' bn bc'] 31)).grownBy w5 (Value.slice o j cap).ownBlock := hgrow5
           have HG5 := Lib.hid hg5
           have HO5 := Lib.hid hown5
           clear hgrow5 hg5 hown5))
      have hfin := OaR.step (v5 := v5) (w5 := w5) HO.out HL.out HX.out HB.out HB2.out HRI.out HLJ.out _ HG5.out HO5.out
      have HFIN := Lib.hid hfin
      clear hfin
      go_roundg (gk - 1)
      case measure => have := HK.out; have := HJ.out; omega
      case rel => have := HK.out; have := HJ.out; exact ⟨j + 1, by omega, by first | go_num | (congr 1; rw [IntWalk.wrap64_in _ (by omega)]; omega), HFIN.out⟩
    · have dj : decide (j < n) = false := decide_eq_false hj
      have hje : j = n := by omega
      obtain ⟨o, cap, rfl, hcap1, hcap2⟩ := row_shape ho
      have hat : LnsAt (NT w.heap.size wr) wr o j ls := ⟨⟨_, ReadsP.of_own ho (fun g cs hg hb => ⟨hb, cs, _, hg⟩), by rw [hl, hje, HLEN.out], fun i r l hr hl => hx i r l hr hl⟩, by rw [hje, HLEN.out]⟩
      have HFIN : Hid (OaP ls n w (.returned (.slice o j cap)) wr) := Lib.hid ⟨⟨o, cap, by rw [hje], by rw [← hje]; exact hat, fun hn => by rw [← hje]; exact own_none ho hn, by rw [← hje]; exact hcap1, hcap2⟩, hb⟩
      clear hk hj ho hl hx hb hcap1 hcap2 hje hat
      go_wp2_with fail
      go_ret
      exact HFIN.out
end Go.Proofs.YtfobbcddedcepaaDoor
