/- Own copies of lines. -/
import Derived.Test.YtfobbcddedcepaaDoorAS
import Derived.Laws.AppendOwn
import Derived.Laws.AppendOwnNone
namespace Go.Proofs.YtfobbcddedcepaaDoor
open Go.RowKit
set_option maxRecDepth 100000
set_option linter.unusedSimpArgs false
set_option linter.unusedVariables false
/-- New blocks. -/
abbrev NT (B : Nat) (w : World) : TypeId → Nat → Prop := fun t b => B ≤ b ∧ Tg w t b
abbrev BxA (r : RB) : Array Value := #[.int .i64 r.kd, .int .i64 r.wd, .int .i64 r.fo, .int .i64 r.sz, .string r.nm, .string r.co, .slice r.no r.nn r.nc]
/-- Behind j rounds: j boxes of one's own. -/
structure OwR (w : World) (bs : List Bx) (l0 l1 : Obj) (j : Nat) (x : Value) (wr : World) : Prop where
  ex : ∃ rs' : List RB, wr.ownsRow w.heap.size 85 7 x j (rs'.flatMap rbCs) ∧ rs'.length = j ∧ ∀ (i : Nat) (r : RB) (b : Bx), rs'[i]? = some r → bs[i]? = some b → RbIs (NT w.heap.size wr) wr r b
  h0 : wr.heap[w.heap.size]? = some l0
  h1 : wr.heap[w.heap.size + 1]? = some l1
  below : Below w.heap.size w wr
theorem OwR.step {P : TypeId → Nat → Prop} {w w0 : World} {bs : List Bx} {cs0 cs1 : Array Value} {j : Nat} {x v5 : Value} {wr w5 : World} {r : RB} {b : Bx} {o3 : Option Addr} {c3 : Nat} {rs' : List RB}
    (ho : wr.ownsRow w.heap.size 85 7 x j (rs'.flatMap rbCs)) (hl : rs'.length = j) (hx : ∀ (i : Nat) (r : RB) (b : Bx), rs'[i]? = some r → bs[i]? = some b → RbIs (NT w.heap.size wr) wr r b)
    (h0 : wr.heap[w.heap.size]? = some (.cells cs0 31 (0, 0))) (h1 : wr.heap[w.heap.size + 1]? = some (.cells cs1 31 (0, 0))) (hb : Below w.heap.size w wr)
    (hr : RbIs P w0 r b) (hbj : bs[j]? = some b) (K : Kept (fun k => x.ownBlock = some k) wr w5) (hint : w5.ownsRow w.heap.size 3 1 (.slice o3 r.nn c3) r.nn (intCs b.ns))
    (hown : w5.ownsRow w.heap.size 85 7 v5 (j + 1) (rs'.flatMap rbCs ++ rbCs { r with no := o3, nc := c3 })) : OwR w bs (.cells cs0 31 (0, 0)) (.cells cs1 31 (0, 0)) (j + 1) v5 w5 := by
  have hS : ∀ e g, Tg wr e g → e ≠ 85 → x.ownBlock ≠ some g := fun e g hg hne hx => (hg.ne (own_tag ho hx).1 hne) rfl
  have k0 := K.block _ (lt_of_block h0) (hS _ _ ⟨_, _, h0⟩ (by decide))
  have k1 := K.block _ (lt_of_block h1) (hS _ _ ⟨_, _, h1⟩ (by decide))
  refine ⟨⟨rs' ++ [{ r with no := o3, nc := c3 }], by rw [List.flatMap_append]; simpa using hown, by simp [hl], fun i r' b' hr' hb' => ?_⟩, k0.trans h0, k1.trans h1, ?_⟩
  · by_cases hi : i < rs'.length
    · rw [List.getElem?_append_left hi] at hr'
      refine (hx i r' b' hr' hb').keep fun q hq => ?_
      have hk := K.block q hq.2.lt (hS _ _ hq.2 (by decide))
      exact ⟨hk, hq.1, hq.2.keep hk⟩
    · have hie : i = j := by
        have := (List.getElem?_eq_some_iff.1 hr').1
        simp at this; omega
      subst hie
      rw [List.getElem?_append_right (by omega), hl, Nat.sub_self] at hr'
      simp only [List.getElem?_cons_zero, Option.some.injEq] at hr'
      obtain rfl : b = b' := Option.some.inj (hbj.symm.trans hb')
      subst hr'
      obtain ⟨o, cap, hv, hcap1, hcap2⟩ := row_shape hint
      injection hv with hv1 hv2 hv3
      subst hv3
      exact ⟨hr.kd, hr.wd, hr.fo, hr.sz, hr.nm, hr.co, hr.nn, own_none hint, hcap1, hcap2, hr.fit, ReadsP.of_own hint (fun g cs hg hb => ⟨hb, cs, _, hg⟩)⟩
  · exact hb.trans (K.to hb.size (fun k hk => (own_tag ho hk).2))
theorem cell_seven_new (w : World) (c0 c1 c2 c3 c4 c5 c6 : Value) (e : TypeId) : ∀ j u, [c0, c1, c2, c3, c4, c5, c6][j]? = some u → (w.alloc (.cells #[c0, c1, c2, c3, c4, c5, c6] e)).cell? ((⟨w.heap.size, 0, none⟩ : Addr).add j) = some u := by
  intro j u hu
  rw [cell_add]
  have h := heap_alloc_new w (.cells #[c0, c1, c2, c3, c4, c5, c6] e)
  simp only [World.cell?, h, Nat.zero_add]
  have : (#[c0, c1, c2, c3, c4, c5, c6] : Array Value).toList[j]? = some u := hu
  rwa [Array.getElem?_toList] at this
theorem ow_ints {w3 w4 w5 : World} {B G : Nat} {x v3 : Value} {n : Nat} {xs : List Value} {cs : Array Value} (h3 : w3.ownsRow B 3 1 v3 n xs) (hG : w3.heap[G]? = some (.cells cs 85 (0, 0))) (hx : ∀ g, x.ownBlock = some g → Tg w3 85 g) (k4 : ∀ k, k < w3.heap.size → k ≠ G → w4.heap[k]? = w3.heap[k]?) (hs : w3.heap.size ≤ w4.heap.size) (hg : w4.grownBy w5 x.ownBlock) : w5.ownsRow B 3 1 v3 n xs := by
  refine ⟨h3.1, ?_⟩
  rcases h3.2 with hn | ⟨g, cap, cur, hv, hb, hh, rest⟩
  · exact .inl hn
  · have hlt := lt_of_block hh
    have ht : Tg w3 3 g := ⟨_, _, hh⟩
    refine .inr ⟨g, cap, cur, hv, hb, ?_, rest⟩
    exact (hg.block g (by omega) (fun e => (ht.ne (hx g e.symm) (by decide)) rfl)).trans ((k4 g hlt (ht.ne ⟨_, _, hG⟩ (by decide))).trans hh)
theorem own_end {a : Act} {W' : World} {g : Nat} {c0 c1 c2 c3 c4 : Value} {Q : Ending → World → Prop} (hd : a.defers = []) (h2 : a.tmps.getD 2 undef = .pointer (some ⟨g, 0, none⟩))
    (hg : W'.heap[g]? = some (.cells #[c0, c1, c2, c3, c4] 31 (0, 0))) (hQ : Q (.returned (.agg #[c0, c1, c2, c3, c4])) W') : bodyPost Tryd.prog Tryd.f62 Q Exit.ret a W' := by
  have h2' : a.tmps[2]?.getD undef = .pointer (some ⟨g, 0, none⟩) := by simpa using h2
  refine bodyPost_ret (v := .agg #[c0, c1, c2, c3, c4]) ?_ hd hQ
  obtain ⟨⟨e0, e1, e2, e3, e4⟩, _⟩ := fresh_ln hg
  simp [results, Tryd.results62, h2', go_sem, e0, e1, e2, e3, e4]
/-- Behind the result's stores. -/
def OwW (w wr : World) (tx : ByteArray) (md : Bool) (up dn : Int) (o : Option Addr) (j cap : Nat) : World :=
  ((((((wr.setCell ⟨w.heap.size, 4, none⟩ (.slice o j cap)).setCell ⟨w.heap.size + 1, 0, none⟩ (.string tx)).setCell ⟨w.heap.size + 1, 1, none⟩ (.bool md)).setCell ⟨w.heap.size + 1, 2, none⟩ (.int .i64 up)).setCell ⟨w.heap.size + 1, 3, none⟩ (.int .i64 dn)).setCell ⟨w.heap.size + 1, 4, none⟩ (.slice o j cap))
theorem own_last {w wr : World} {tx : ByteArray} {md : Bool} {up dn : Int} {o : Option Addr} {j cap : Nat} {c0 c1 c2 c3 c4 : Value} (h : wr.heap[w.heap.size + 1]? = some (.cells #[c0, c1, c2, c3, c4] 31 (0, 0))) :
    (OwW w wr tx md up dn o j cap).heap[w.heap.size + 1]? = some (.cells #[.string tx, .bool md, .int .i64 up, .int .i64 dn, .slice o j cap] 31 (0, 0)) := by
  simp [OwW, World.setCell, Array.getElem?_modify, h]
set_option maxHeartbeats 4000000 in
theorem rOwn_any {P : TypeId → Nat → Prop} {w : World} (tx : ByteArray) (md : Bool) (up dn : Int) (bo : Option Addr) (bn bc : Nat) (bs : List Bx) (hb : BxsAt P w bo bn bs) (hP : ∀ e b, P e b → b < w.heap.size) (hbn : bn ≤ 2000) :
    Calls Tryd.prog 62 #[.agg #[.string tx, .bool md, .int .i64 up, .int .i64 dn, .slice bo bn bc]] w fun e w' => ∃ bo' bc', e = .returned (.agg #[.string tx, .bool md, .int .i64 up, .int .i64 dn, .slice bo' bn bc']) ∧ BxsAt (NT w.heap.size w') w' bo' bn bs ∧ (bo' = none → bn = 0) ∧ bn ≤ bc' ∧ (bc' : Int) ≤ 9223372036854775807 ∧ Below w.heap.size w w' := by
  obtain ⟨⟨rs, hr, ha⟩, hlen⟩ := hb
  have HRL := Lib.hid (show rs.length = bn by rw [ha.1, hlen])
  have HR := Lib.hid hr
  have HA : Hid (All2 (RbIs P w) rs bs) := Lib.hid ha
  have HLEN := Lib.hid hlen
  have HP := Lib.hid hP
  clear hr ha hlen hP
  obtain ⟨i0, hi0, hz0, hz1, hz2⟩ := info_parts info_int
  obtain ⟨j0, hj0, hy0, hy1, hy2⟩ := info_parts info_box
  have h2 := two_alloc w #[.string tx, .bool md, .int .i64 up, .int .i64 dn, .slice bo bn bc] #[.string ⟨#[]⟩, .bool false, .int .i64 0, .int .i64 0, .slice none 0 0] 31 31
  have HST : Hid (OwR w bs (LnO tx md up dn bo bn bc) (LnO ⟨#[]⟩ false 0 0 none 0 0) 0 (.slice none 0 0) _) := Lib.hid ⟨⟨[], World.ownsRow_nil _ _ _ _, rfl, fun i r b h => by simp at h⟩, h2.1, h2.2.1, h2.2.2⟩
  clear h2
  go_enter Tryd.func62, Tryd.ntmps62
  go_wp2_with fail
  go_loopg [3, 4] bn (fun k x i wr => ∃ j : Nat, k + j = bn ∧ i = .int .i64 j ∧ OwR w bs (LnO tx md up dn bo bn bc) (LnO ⟨#[]⟩ false 0 0 none 0 0) j x wr)
  case atStart => exact ⟨0, rfl, rfl, HST.out⟩
  case round =>
    obtain ⟨j, hk, rfl, hw⟩ := hrel
    obtain ⟨⟨rs', ho, hl, hx⟩, h0, h1, hb⟩ := hw
    obtain ⟨⟨l0, l1, l2, l3, l4⟩, _⟩ := fresh_ln h0
    have HK := Lib.hid hk
    by_cases hj : j < bn
    · have dj : decide (j < bn) = true := decide_eq_true hj
      have hrj : rs[j]? = some (rs[j]'(by have := HRL.out; omega)) := List.getElem?_eq_getElem (by have := HRL.out; omega)
      obtain ⟨r, hre⟩ : ∃ r, r = rs[j]'(by have := HRL.out; omega) := ⟨_, rfl⟩
      rw [← hre] at hrj
      have hbj : bs[j]? = some (bs[j]'(by have := HLEN.out; omega)) := List.getElem?_eq_getElem (by have := HLEN.out; omega)
      obtain ⟨b, hbe⟩ : ∃ b, b = bs[j]'(by have := HLEN.out; omega) := ⟨_, rfl⟩
      rw [← hbe] at hbj
      have hrx := HA.out.2 j r b hrj hbj
      obtain ⟨q, qo, rfl, hpq, c0, c1, c2, c3, c4, c5, c6⟩ := reads_bx HR.out j r hrj
      have hql := HP.out _ q hpq
      have e := fun o => hb.cell (p := ⟨q, o, none⟩) hql
      rw [← e] at c0 c1 c2 c3 c4 c5 c6
      obtain ⟨o, cap, rfl, _, _⟩ := row_shape ho
      have HBJ := Lib.hid hbj
      have HRX := Lib.hid hrx
      have HO := Lib.hid ho
      have HL := Lib.hid hl
      have HX := Lib.hid hx
      have H0 := Lib.hid h0
      have H1 := Lib.hid h1
      have HB := Lib.hid hb
      have HJ := Lib.hid hj
      obtain ⟨kd, wd, fo, sz, nm, co, no, nn, nc⟩ := r
      simp only at c0 c1 c2 c3 c4 c5 c6
      have hj5 : j ≤ 2000 := by omega
      have HZ := Lib.hid hb.size
      have HROWI : Hid (((wr.alloc (.cells #[.int .i64 kd, .int .i64 wd, .int .i64 fo, .int .i64 sz, .string nm, .string co, .slice no nn nc] 85)).alloc (.cells #[] 3)).ownsRow w.heap.size 3 1 (.slice (some ⟨wr.heap.size + 1, 0, none⟩) 0 0) 0 []) := Lib.hid (by
        have := World.ownsRow_made (base := w.heap.size) (e := 3) (size := 1) (wr.alloc (.cells #[.int .i64 kd, .int .i64 wd, .int .i64 fo, .int .i64 sz, .string nm, .string co, .slice no nn nc] 85)) #[] 0 (by have := hb.size; simp; omega) (by unfold maxLen; omega) rfl
        rwa [show (wr.alloc (.cells #[.int .i64 kd, .int .i64 wd, .int .i64 fo, .int .i64 sz, .string nm, .string co, .slice no nn nc] 85)).heap.size = wr.heap.size + 1 by simp] at this)
      have h2w := two_alloc wr #[.int .i64 kd, .int .i64 wd, .int .i64 fo, .int .i64 sz, .string nm, .string co, .slice no nn nc] #[] 85 3
      have HB2 := Lib.hid h2w.2.2
      have HBK := Lib.hid h2w.1
      have HNN := Lib.hid hrx.ns.1
      have hnn : nn * 8 ≤ 140737488355328 := hrx.fit
      have hrx0 := hrx.nil
      simp only at hrx0
      clear hk hj hre hrj hbe hbj hrx hpq ho hl hx h0 h1 l0 l1 l2 l3 h2w
      cases no with
      | none =>
        have hnn0 : nn = 0 := hrx0 rfl
        clear hb hql e hrx0
        subst hnn0
        have hnil : intCs b.ns = [] := List.eq_nil_of_length_eq_zero (by rw [HNN.out]; show 0 * 1 = 0; rfl)
        have h3w := two_alloc wr #[.int .i64 kd, .int .i64 wd, .int .i64 fo, .int .i64 sz, .string nm, .string co, .slice (some ⟨wr.heap.size + 1, 0, none⟩) 0 0] #[] 85 3
        have HB3 := Lib.hid h3w.2.2
        have HBK3 := Lib.hid h3w.1
        have HO3 : Hid (((wr.alloc (.cells #[.int .i64 kd, .int .i64 wd, .int .i64 fo, .int .i64 sz, .string nm, .string co, .slice (some ⟨wr.heap.size + 1, 0, none⟩) 0 0] 85)).alloc (.cells #[] 3)).ownsRow w.heap.size 3 1 (.slice (some ⟨wr.heap.size + 1, 0, none⟩) 0 0) 0 (intCs b.ns)) := Lib.hid (by
          have := World.ownsRow_made (base := w.heap.size) (e := 3) (size := 1) (wr.alloc (.cells #[.int .i64 kd, .int .i64 wd, .int .i64 fo, .int .i64 sz, .string nm, .string co, .slice (some ⟨wr.heap.size + 1, 0, none⟩) 0 0] 85)) #[] 0 (by have := HZ.out; simp; omega) (by unfold maxLen; omega) rfl
          rw [hnil]
          rwa [show (wr.alloc (.cells #[.int .i64 kd, .int .i64 wd, .int .i64 fo, .int .i64 sz, .string nm, .string co, .slice (some ⟨wr.heap.size + 1, 0, none⟩) 0 0] 85)).heap.size = wr.heap.size + 1 by simp] at this)
        have hb4 := h3w.2.2.alloc h3w.2.2.size (.cells #[.int .i64 kd, .int .i64 wd, .int .i64 fo, .int .i64 sz, .string nm, .string co, .slice (some ⟨wr.heap.size + 1, 0, none⟩) 0 0] 85)
        have HB4 := Lib.hid hb4
        have HO4 := Lib.hid (own_kept HO.out (Kept.of (S := fun _ => False) hb4) (fun _ _ h => h))
        have hs4 := cell_seven_new ((wr.alloc (.cells #[.int .i64 kd, .int .i64 wd, .int .i64 fo, .int .i64 sz, .string nm, .string co, .slice (some ⟨wr.heap.size + 1, 0, none⟩) 0 0] 85)).alloc (.cells #[] 3)) (.int .i64 kd) (.int .i64 wd) (.int .i64 fo) (.int .i64 sz) (.string nm) (.string co) (.slice (some ⟨wr.heap.size + 1, 0, none⟩) 0 0) 85
        rw [show ((wr.alloc (.cells #[.int .i64 kd, .int .i64 wd, .int .i64 fo, .int .i64 sz, .string nm, .string co, .slice (some ⟨wr.heap.size + 1, 0, none⟩) 0 0] 85)).alloc (.cells #[] 3)).heap.size = wr.heap.size + 1 + 1 by simp] at hs4
        have HSRC4 := Lib.hid hs4
        clear h3w hb4 hs4 hnil
        go_wp2_with (first
          | (at_builtin; refine wpList_append_own _ rfl _ _ 29 rfl w.heap.size 85 j0 _ 7 88 Tryd.underlying29 hj0 hy0 hy1 hy2 rfl (by decide) _ _ _ rfl HO4.out ⟨wr.heap.size + 1 + 1, 0, none⟩ 1 1 [.int .i64 kd, .int .i64 wd, .int .i64 fo, .int .i64 sz, .string nm, .string co, .slice (some ⟨wr.heap.size + 1, 0, none⟩) 0 0] rfl rfl HSRC4.out (fun u hu => by simp only [List.mem_cons, List.not_mem_nil, or_false] at hu; rcases hu with rfl | rfl | rfl | rfl | rfl | rfl | rfl <;> rfl) (by unfold maxLen; omega) (by omega) (by have := HB4.out.size; have := HZ.out; omega) ?_
             intro v5 w5 hown5 hgrow5 _
             have hg5 : (((wr.alloc (.cells #[.int .i64 kd, .int .i64 wd, .int .i64 fo, .int .i64 sz, .string nm, .string co, .slice (some ⟨wr.heap.size + 1, 0, none⟩) 0 0] 85)).alloc (.cells #[] 3)).alloc (.cells #[.int .i64 kd, .int .i64 wd, .int .i64 fo, .int .i64 sz, .string nm, .string co, .slice (some ⟨wr.heap.size + 1, 0, none⟩) 0 0] 85)).grownBy w5 (Value.slice o j cap).ownBlock := hgrow5
             have HG5 := Lib.hid hg5
             have HO5 := Lib.hid hown5
             clear hgrow5 hg5 hown5))
        have hfin := OwR.step (v5 := v5) (w5 := w5) HO.out HL.out HX.out H0.out H1.out HB.out HRX.out HBJ.out
          ((Kept.of HB4.out).trans ⟨HG5.out.os, HG5.out.tape, HG5.out.output, HG5.out.size, fun k hk hs => HG5.out.block k hk (fun e => hs e.symm)⟩)
          (ow_ints HO3.out HBK3.out (fun g hg => ((own_tag HO.out hg).1.below HB3.out).2) (fun k hk _ => Below.heap_alloc _ _ _ hk) (by simp) HG5.out) HO5.out
        have HFIN := Lib.hid hfin
        clear hfin
        go_roundg (gk - 1)
        case measure => have := HK.out; have := HJ.out; omega
        case rel => have := HK.out; have := HJ.out; exact ⟨j + 1, by omega, by first | go_num | (congr 1; rw [IntWalk.wrap64_in _ (by omega)]; omega), HFIN.out⟩
      | some a =>
        have HSRC : Hid (∀ i u, (intCs b.ns)[i]? = some u → ((wr.alloc (.cells #[.int .i64 kd, .int .i64 wd, .int .i64 fo, .int .i64 sz, .string nm, .string co, .slice (some a) nn nc] 85)).alloc (.cells #[] 3)).cell? (a.add i) = some u) := Lib.hid (fun i u hu => by
          have hns := HRX.out.ns
          simp only at hns
          have hpos : 0 < nn := by
            have h3 := (List.getElem?_eq_some_iff.1 hu).1
            have h4 := hns.1
            omega
          obtain ⟨b', off', he, hp', hc'⟩ := hns.2 hpos
          injection he with he
          subst he
          rw [cell_add]
          have hlt := HP.out _ b' hp'
          exact (HB2.out.cell (p := ⟨b', off' + i, none⟩) (Nat.lt_of_lt_of_le hlt hb.size)).trans ((hb.cell (p := ⟨b', off' + i, none⟩) hlt).trans (hc' i u hu)))
        clear hrx0
        have HONE : Hid (∀ u ∈ intCs b.ns, u.oneCell' = true) := Lib.hid (by intro u hu; obtain ⟨z, _, rfl⟩ := List.mem_map.1 hu; rfl)
        clear hb hql e
        go_wp2_with (first
          | (at_builtin; refine wpList_append_own _ rfl _ _ 83 rfl w.heap.size 3 i0 _ 1 8 Tryd.underlying83 hi0 hz0 hz1 hz2 rfl (by decide) _ _ _ rfl HROWI.out a nn nc (intCs b.ns) rfl HNN.out HSRC.out HONE.out (by unfold maxLen; omega) (by omega) (by have := HB2.out.size; have := HZ.out; omega) ?_
             intro v3 w3 hown3 hgrow3 _
             obtain ⟨o3, cap3, rfl, _, _⟩ := row_shape hown3
             rw [Nat.zero_add, List.nil_append] at hown3
             have hg3 : ((wr.alloc (.cells #[.int .i64 kd, .int .i64 wd, .int .i64 fo, .int .i64 sz, .string nm, .string co, .slice (some a) nn nc] 85)).alloc (.cells #[] 3)).grownBy w3 (some (wr.heap.size + 1)) := hgrow3
             have HB3 := Lib.hid (HB2.out.grown hg3 HB2.out.size (fun g e => by cases e; omega))
             have hblk := (hg3.block wr.heap.size (lt_of_block HBK.out) (fun e => by injection e with e; omega)).trans HBK.out
             clear hgrow3 hg3
             obtain ⟨⟨d0, d1, d2, d3, d4, d5, d6⟩, _⟩ := fresh_bx hblk
             have fz : w3.frozen? ⟨wr.heap.size, 6, none⟩ = false := by simp [World.frozen?, hblk]
             have HBK3 := Lib.hid hblk
             have HO3 := Lib.hid hown3
             have hb4 := (HB3.out.setCell (p := ⟨wr.heap.size, 6, none⟩) (Nat.le_refl _) (.slice o3 nn cap3)).alloc (by have := HB3.out.size; simpa using this) (.cells #[.int .i64 kd, .int .i64 wd, .int .i64 fo, .int .i64 sz, .string nm, .string co, .slice o3 nn cap3] 85)
             have HB4 := Lib.hid hb4
             have HO4 := Lib.hid (own_kept HO.out (Kept.of (S := fun _ => False) hb4) (fun _ _ h => h))
             have hs4 := cell_seven_new (w3.setCell ⟨wr.heap.size, 6, none⟩ (.slice o3 nn cap3)) (.int .i64 kd) (.int .i64 wd) (.int .i64 fo) (.int .i64 sz) (.string nm) (.string co) (.slice o3 nn cap3) 85
             rw [show (w3.setCell ⟨wr.heap.size, 6, none⟩ (.slice o3 nn cap3)).heap.size = w3.heap.size by simp [World.setCell]] at hs4
             have HSRC4 := Lib.hid hs4
             clear hown3 hblk hb4 hs4)
          | (at_builtin; refine wpList_append_own _ rfl _ _ 29 rfl w.heap.size 85 j0 _ 7 88 Tryd.underlying29 hj0 hy0 hy1 hy2 rfl (by decide) _ _ _ rfl HO4.out ⟨w3.heap.size, 0, none⟩ 1 1 [.int .i64 kd, .int .i64 wd, .int .i64 fo, .int .i64 sz, .string nm, .string co, .slice o3 nn cap3] rfl rfl HSRC4.out (fun u hu => by simp only [List.mem_cons, List.not_mem_nil, or_false] at hu; rcases hu with rfl | rfl | rfl | rfl | rfl | rfl | rfl <;> rfl) (by unfold maxLen; omega) (by omega) (by have := HB4.out.size; have := HZ.out; omega) ?_
             intro v5 w5 hown5 hgrow5 _
             have hg5 : ((w3.setCell ⟨wr.heap.size, 6, none⟩ (.slice o3 nn cap3)).alloc (.cells #[.int .i64 kd, .int .i64 wd, .int .i64 fo, .int .i64 sz, .string nm, .string co, .slice o3 nn cap3] 85)).grownBy w5 (Value.slice o j cap).ownBlock := hgrow5
             have HG5 := Lib.hid hg5
             have HO5 := Lib.hid hown5
             clear hgrow5 hg5 hown5))
        have hfin := OwR.step (v5 := v5) (w5 := w5) HO.out HL.out HX.out H0.out H1.out HB.out HRX.out HBJ.out
          ((Kept.of HB4.out).trans ⟨HG5.out.os, HG5.out.tape, HG5.out.output, HG5.out.size, fun k hk hs => HG5.out.block k hk (fun e => hs e.symm)⟩)
          (ow_ints HO3.out HBK3.out (fun g hg => ((own_tag HO.out hg).1.below HB3.out).2) (fun k hk hne => (Below.heap_alloc _ _ _ (by simpa [World.setCell] using hk)).trans (Below.heap_setCell _ _ _ _ hne)) (by simp [World.setCell]) HG5.out) HO5.out
        have HFIN := Lib.hid hfin
        clear hfin
        go_roundg (gk - 1)
        case measure => have := HK.out; have := HJ.out; omega
        case rel => have := HK.out; have := HJ.out; exact ⟨j + 1, by omega, by first | go_num | (congr 1; rw [IntWalk.wrap64_in _ (by omega)]; omega), HFIN.out⟩
    · have dj : decide (j < bn) = false := decide_eq_false hj
      have hje : j = bn := by omega
      obtain ⟨o, cap, rfl, hcap1, hcap2⟩ := row_shape ho
      have H1 := Lib.hid h1
      have hf0 : wr.frozen? ⟨w.heap.size, 4, none⟩ = false := by simp [World.frozen?, h0]
      obtain ⟨⟨r0, r1, r2, r3, r4⟩, _⟩ := fresh_ln h1
      have hf1 : ∀ k, wr.frozen? ⟨w.heap.size + 1, k, none⟩ = false := fun k => by simp [World.frozen?, h1]
      have f10 := hf1 0
      have f11 := hf1 1
      have f12 := hf1 2
      have f13 := hf1 3
      have f14 := hf1 4
      clear hf1
      have HO := Lib.hid ho
      have HL := Lib.hid hl
      have HX := Lib.hid hx
      have HB := Lib.hid hb
      have HH0 := Lib.hid h0
      have hC1 := Lib.hid hcap1
      have hC2 := Lib.hid hcap2
      have HJE := Lib.hid hje
      clear hk hj ho hl hx h0 h1 hb hcap1 hcap2 hje
      go_wp2_with fail
      have hgt : ∀ k, k ≠ w.heap.size → k ≠ w.heap.size + 1 → (OwW w wr tx md up dn o j cap).heap[k]? = wr.heap[k]? := fun k h1 h2 => by
        unfold OwW
        rw [Below.heap_setCell _ _ _ _ h2, Below.heap_setCell _ _ _ _ h2, Below.heap_setCell _ _ _ _ h2, Below.heap_setCell _ _ _ _ h2, Below.heap_setCell _ _ _ _ h2, Below.heap_setCell _ _ _ _ h1]
      have hT0 : Tg wr 31 w.heap.size := ⟨_, _, HH0.out⟩
      have hT1 : Tg wr 31 (w.heap.size + 1) := ⟨_, _, H1.out⟩
      have hbx : BxsAt (NT w.heap.size wr) wr o j bs := ⟨⟨_, ReadsP.of_own HO.out (fun g cs hg hb => ⟨hb, cs, _, hg⟩), by rw [HL.out, HJE.out, HLEN.out], fun i r b hr hb => HX.out i r b hr hb⟩, by rw [HJE.out, HLEN.out]⟩
      have hbx2 : BxsAt (NT w.heap.size (OwW w wr tx md up dn o j cap)) (OwW w wr tx md up dn o j cap) o j bs := hbx.keep fun e he q hq => by
        have hk := hgt q (hq.2.ne hT0 (by rcases he with rfl | rfl <;> decide)) (hq.2.ne hT1 (by rcases he with rfl | rfl <;> decide))
        exact ⟨hk, hq.1, hq.2.keep hk⟩
      refine own_end rfl rfl (own_last H1.out) ⟨o, cap, by rw [HJE.out], by rw [← HJE.out]; exact hbx2, fun hn => by rw [← HJE.out]; exact own_none HO.out hn, by rw [← HJE.out]; exact hC1.out, hC2.out, ?_⟩
      have hz : w.heap.size ≤ w.heap.size + 1 := Nat.le_succ _
      exact (((((HB.out.setCell (p := ⟨w.heap.size, 4, none⟩) (Nat.le_refl _) _).setCell (p := ⟨w.heap.size + 1, 0, none⟩) hz _).setCell (p := ⟨w.heap.size + 1, 1, none⟩) hz _).setCell (p := ⟨w.heap.size + 1, 2, none⟩) hz _).setCell (p := ⟨w.heap.size + 1, 3, none⟩) hz _).setCell (p := ⟨w.heap.size + 1, 4, none⟩) hz _
end Go.Proofs.YtfobbcddedcepaaDoor
