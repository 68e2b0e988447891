/- A copy of a line. -/
import Derived.Test.YtfobbcddedcepaaDoorA3
import Derived.Deep.RegionHeld3
namespace Go.Proofs.YtfobbcddedcepaaDoor
open Go.RowKit
set_option maxRecDepth 100000
set_option linter.unusedSimpArgs false
set_option linter.unusedVariables false
theorem fresh_ln {b : Nat} {c0 c1 c2 c3 c4 : Value} {w : World} (h : w.heap[b]? = some (.cells #[c0, c1, c2, c3, c4] 31 (0, 0))) : (w.cell? ⟨b, 0, none⟩ = some c0 ∧ w.cell? ⟨b, 1, none⟩ = some c1 ∧ w.cell? ⟨b, 2, none⟩ = some c2 ∧ w.cell? ⟨b, 3, none⟩ = some c3 ∧ w.cell? ⟨b, 4, none⟩ = some c4) ∧ (w.frozen? ⟨b, 0, none⟩ = false ∧ w.frozen? ⟨b, 1, none⟩ = false ∧ w.frozen? ⟨b, 2, none⟩ = false ∧ w.frozen? ⟨b, 3, none⟩ = false ∧ w.frozen? ⟨b, 4, none⟩ = false) := by
  simp [World.cell?, World.frozen?, h]
theorem two_alloc (w : World) (X Y : Array Value) (e e' : TypeId) : ((w.alloc (.cells X e)).alloc (.cells Y e')).heap[w.heap.size]? = some (.cells X e (0, 0)) ∧ ((w.alloc (.cells X e)).alloc (.cells Y e')).heap[w.heap.size + 1]? = some (.cells Y e' (0, 0)) ∧ Below w.heap.size w ((w.alloc (.cells X e)).alloc (.cells Y e')) := by
  refine ⟨(Below.heap_alloc _ _ _ (by simp)).trans (heap_alloc_new _ _), ?_, ((Below.refl _ _).alloc (Nat.le_refl _) _).alloc (by simp) _⟩
  have := heap_alloc_new (w.alloc (.cells X e)) (.cells Y e')
  rwa [show (w.alloc (.cells X e)).heap.size = w.heap.size + 1 by simp] at this
abbrev LnO (tx : ByteArray) (md : Bool) (up dn : Int) (bo : Option Addr) (bn bc : Nat) : Obj := .cells #[.string tx, .bool md, .int .i64 up, .int .i64 dn, .slice bo bn bc] 31 (0, 0)
abbrev ZL : Obj := LnO ⟨#[]⟩ false 0 0 none 0 0
/-- A line is stored. -/
def LnW (w : World) (g : Nat) (tx : ByteArray) (md : Bool) (up dn : Int) (o : Option Addr) (n c : Nat) : World :=
  ((((w.setCell ⟨g, 0, none⟩ (.string tx)).setCell ⟨g, 1, none⟩ (.bool md)).setCell ⟨g, 2, none⟩ (.int .i64 up)).setCell ⟨g, 3, none⟩ (.int .i64 dn)).setCell ⟨g, 4, none⟩ (.slice o n c)
theorem lnW_at {w : World} {g : Nat} {tx : ByteArray} {md : Bool} {up dn : Int} {o : Option Addr} {n c : Nat} {c0 c1 c2 c3 c4 : Value} (h : w.heap[g]? = some (.cells #[c0, c1, c2, c3, c4] 31 (0, 0))) :
    (LnW w g tx md up dn o n c).heap[g]? = some (LnO tx md up dn o n c) := by
  simp [LnW, World.setCell, Array.getElem?_modify, h]
theorem lnW_far {w : World} {g b : Nat} {tx : ByteArray} {md : Bool} {up dn : Int} {o : Option Addr} {n c : Nat} (hb : b ≠ g) : (LnW w g tx md up dn o n c).heap[b]? = w.heap[b]? := by
  unfold LnW
  rw [Below.heap_setCell _ _ _ _ hb, Below.heap_setCell _ _ _ _ hb, Below.heap_setCell _ _ _ _ hb, Below.heap_setCell _ _ _ _ hb, Below.heap_setCell _ _ _ _ hb]
theorem lnW_below {u w : World} {B g : Nat} {tx : ByteArray} {md : Bool} {up dn : Int} {o : Option Addr} {n c : Nat} (h : Below B u w) (hg : B ≤ g) : Below B u (LnW w g tx md up dn o n c) :=
  ((((h.setCell (p := ⟨g, 0, none⟩) hg _).setCell (p := ⟨g, 1, none⟩) hg _).setCell (p := ⟨g, 2, none⟩) hg _).setCell (p := ⟨g, 3, none⟩) hg _).setCell (p := ⟨g, 4, none⟩) hg _
/-- A line's result in a block. -/
theorem line_end {F : Func} {a : Act} {W' : World} {t g : Nat} {c0 c1 c2 c3 c4 : Value} {Q : Ending → World → Prop} (hF : F.results = #[.cell t 31]) (hd : a.defers = []) (h2 : a.tmps.getD t undef = .pointer (some ⟨g, 0, none⟩))
    (hg : W'.heap[g]? = some (.cells #[c0, c1, c2, c3, c4] 31 (0, 0))) (hQ : Q (.returned (.agg #[c0, c1, c2, c3, c4])) W') : bodyPost Tryd.prog F Q Exit.ret a W' := by
  have h2' : a.tmps[t]?.getD undef = .pointer (some ⟨g, 0, none⟩) := by simpa using h2
  refine bodyPost_ret (v := .agg #[c0, c1, c2, c3, c4]) ?_ hd hQ
  obtain ⟨⟨e0, e1, e2, e3, e4⟩, _⟩ := fresh_ln hg
  simp [results, hF, h2', go_sem, e0, e1, e2, e3, e4]
theorem set_far {w : World} {g k b o : Nat} {v : Value} (h : b ≠ g) : (w.setCell ⟨g, k, none⟩ v).cell? ⟨b, o, none⟩ = w.cell? ⟨b, o, none⟩ :=
  World.cell?_of_block (a := ⟨b, o, none⟩) (Below.heap_setCell _ _ _ _ h)
theorem own_far {w w' : World} {base size n : Nat} {e : TypeId} {v : Value} {xs : List Value} (h : w.ownsRow base e size v n xs) (k : ∀ g, v.ownBlock = some g → w'.heap[g]? = w.heap[g]?) : w'.ownsRow base e size v n xs := by
  refine ⟨h.1, ?_⟩
  rcases h.2 with hn | ⟨g, cap, cur, hv, hb, hg, rest⟩
  · exact .inl hn
  · exact .inr ⟨g, cap, cur, hv, hb, (k g (by rw [hv]; rfl)).trans hg, rest⟩
theorem own_tag {w : World} {base size n g : Nat} {e : TypeId} {v : Value} {xs : List Value} (h : w.ownsRow base e size v n xs) (hg : v.ownBlock = some g) : Tg w e g ∧ base ≤ g := by
  rcases h.2 with ⟨hv, _⟩ | ⟨g', cap, cur, hv, hb, hh, _⟩
  · rw [hv] at hg; simp [Value.ownBlock] at hg
  · rw [hv] at hg
    have : g' = g := by simpa [Value.ownBlock] using hg
    subst this
    exact ⟨⟨cur, _, hh⟩, hb⟩
/-- Behind j rounds. -/
structure CyR (P : TypeId → Nat → Prop) (w : World) (A' : Option Addr) (n c' : Nat) (rs0 : List RB) (bs : List Bx) (l0 : Obj) (j : Nat) (wr : World) : Prop where
  cb : CbR P w A' n c' rs0 bs j wr
  h0 : wr.heap[w.heap.size]? = some l0
  h1 : wr.heap[w.heap.size + 1]? = some ZL
set_option maxHeartbeats 4000000 in
theorem copyLine_any {P : TypeId → Nat → Prop} {w : World} (tx : ByteArray) (md : Bool) (up dn : Int) (bo : Option Addr) (bn bc : Nat) (bs : List Bx) (hb : BxsAt P w bo bn bs) (hP : ∀ e b, P e b → b < w.heap.size) (hA : bo = none → bn = 0) (hbn : bn ≤ 2000) :
    Calls Tryd.prog 71 #[.agg #[.string tx, .bool md, .int .i64 up, .int .i64 dn, .slice bo bn bc]] w fun e w' => ∃ bo' bc' rs, e = .returned (.agg #[.string tx, .bool md, .int .i64 up, .int .i64 dn, .slice bo' bn bc']) ∧ w'.ownsRow w.heap.size 85 7 (.slice bo' bn bc') bn (rs.flatMap rbCs) ∧ All2 (RbIs (Tg w') w') rs bs ∧ Below w.heap.size w w' := by
  obtain ⟨⟨rs0, hr0, ha0⟩, hlen⟩ := hb
  have hl0 : rs0.length = bn := by rw [ha0.1, hlen]
  have h2 := two_alloc w #[.string tx, .bool md, .int .i64 up, .int .i64 dn, .slice bo bn bc] #[.string ⟨#[]⟩, .bool false, .int .i64 0, .int .i64 0, .slice none 0 0] 31 31
  obtain ⟨W2, hW2⟩ : ∃ W2, W2 = (w.alloc (.cells #[.string tx, .bool md, .int .i64 up, .int .i64 dn, .slice bo bn bc] 31)).alloc (.cells #[.string ⟨#[]⟩, .bool false, .int .i64 0, .int .i64 0, .slice none 0 0] 31) := ⟨_, rfl⟩
  rw [← hW2] at h2
  have hcl := cloneB_any (c := bc) (w := W2) (P := fun b => b < w.heap.size) (hr0.keep fun b hb' => ⟨h2.2.2.block b (hP _ _ hb'), hP _ _ hb'⟩) (fm_one rb_one rs0) hA (by omega)
  rw [hW2] at hcl
  have HCL := Lib.hid hcl
  have HZ2 := Lib.hid (show w.heap.size + 2 ≤ W2.heap.size by rw [hW2]; simp)
  have H2 := Lib.hid h2
  have HW2 := Lib.hid hW2
  have HA0 : Hid (All2 (RbIs P w) rs0 bs) := Lib.hid ha0
  have HLEN := Lib.hid hlen
  have HL0 := Lib.hid hl0
  have HP := Lib.hid hP
  clear hr0 ha0 hlen hl0 hA hP h2 hcl hW2
  go_enter Tryd.func71, Tryd.ntmps71
  go_wp2_with fail
  refine HCL.out.mono ?_
  rintro e w3 ⟨A', c', rfl, hown, hb3⟩
  rw [← HW2.out] at hown hb3
  have hk0 := (hb3.block w.heap.size (by have := HZ2.out; omega)).trans H2.out.1
  have hk1 := (hb3.block (w.heap.size + 1) (by have := HZ2.out; omega)).trans H2.out.2.1
  obtain ⟨o, cap, hv, hcap1, hcap2⟩ := row_shape hown
  injection hv with hv1 hv2 hv3
  subst hv3
  have hset : (w3.setCell ⟨w.heap.size, 4, none⟩ (.slice A' bn c')).heap[w.heap.size]? = some (LnO tx md up dn A' bn c') := by simp [World.setCell, Array.getElem?_modify, hk0]
  have hoth : ∀ b, b ≠ w.heap.size → (w3.setCell ⟨w.heap.size, 4, none⟩ (.slice A' bn c')).heap[b]? = w3.heap[b]? := fun b hb => Below.heap_setCell _ _ _ _ hb
  have HST : Hid (CyR P w A' bn c' rs0 bs (LnO tx md up dn A' bn c') 0 (w3.setCell ⟨w.heap.size, 4, none⟩ (.slice A' bn c'))) := Lib.hid
    ⟨⟨⟨rs0, own_base (own_far hown (fun g hg => hoth g (by have := (own_tag hown hg).2; have := HZ2.out; omega))) (by have := HZ2.out; omega), HL0.out, fun i r x hi => by omega, fun _ _ => rfl⟩,
      (H2.out.2.2.trans (hb3.mono (by have := HZ2.out; omega))).setCell (p := ⟨w.heap.size, 4, none⟩) (Nat.le_refl _) _⟩, hset, (hoth _ (by omega)).trans hk1⟩
  obtain ⟨⟨p0, p1, p2, p3, p4⟩, q0, q1, q2, q3, q4⟩ := fresh_ln hk0
  clear hown hb3 hv1 hv2 hk0 hk1 hset hoth
  go_wp2_with fail
  go_loopg [12] bn (fun k i wr => ∃ j : Nat, k + j = bn ∧ i = .int .i64 j ∧ CyR P w A' bn c' rs0 bs (LnO tx md up dn A' bn c') j wr)
  case atStart => exact ⟨0, rfl, rfl, HST.out⟩
  case round =>
    obtain ⟨j, hk, rfl, ⟨⟨⟨rs, ho, hl, h1, h2⟩, hb⟩, hh0, hh1⟩⟩ := hrel
    have HK := Lib.hid hk
    obtain ⟨⟨y0, y1, y2, y3, y4⟩, z0, z1, z2, z3, z4⟩ := fresh_ln hh0
    by_cases hj : j < bn
    · have dj : decide (j < bn) = true := decide_eq_true hj
      obtain ⟨g, rfl, hg, hgl, cur, hcur, _⟩ := own_head ho (by omega)
      have hgt : Tg wr 85 g := ⟨_, _, hcur⟩
      have hg0 : g ≠ w.heap.size := hgt.ne ⟨_, _, hh0⟩ (by decide)
      have hg1 : g ≠ w.heap.size + 1 := hgt.ne ⟨_, _, hh1⟩ (by decide)
      have hrj : rs[j]? = some (rs[j]'(by omega)) := List.getElem?_eq_getElem (by omega)
      obtain ⟨r, hr⟩ : ∃ r, r = rs[j]'(by omega) := ⟨_, rfl⟩
      rw [← hr] at hrj
      have hxj : bs[j]? = some (bs[j]'(by have := HLEN.out; omega)) := List.getElem?_eq_getElem (by have := HLEN.out; omega)
      obtain ⟨x, hx⟩ : ∃ x, x = bs[j]'(by have := HLEN.out; omega) := ⟨_, rfl⟩
      rw [← hx] at hxj
      have hrx : RbIs P w r x := HA0.out.2 j r x ((h2 j (Nat.le_refl _)).symm.trans hrj) hxj
      obtain ⟨b0, b1, b2, b3, b4, b5, b6, bf⟩ := bx_cells ho j r hrj
      have hcl : ∀ W : World, W.heap = (wr.alloc (.cells #[.int .i64 r.kd, .int .i64 r.wd, .int .i64 r.fo, .int .i64 r.sz, .string r.nm, .string r.co, .slice r.no r.nn r.nc] 85)).heap → _ := fun W hW => cloneI_any (c := r.nc) (w := W) (P := fun b => b < w.heap.size)
        (hrx.ns.keep (P' := fun b => b < w.heap.size) fun b hb' => ⟨by rw [hW]; exact ((Below.heap_alloc _ _ _ (Nat.lt_of_lt_of_le (HP.out _ b hb') hb.size)).trans (hb.block b (HP.out _ b hb'))), HP.out _ b hb'⟩)
        (by intro u hu; obtain ⟨z, _, rfl⟩ := List.mem_map.1 hu; rfl) hrx.nil (by have := hrx.fit; exact this)
      have HCI := Lib.hid hcl
      have HO := Lib.hid ho
      have HH1 := Lib.hid h1
      have HH2 := Lib.hid h2
      have HB := Lib.hid hb
      have HL := Lib.hid hl
      have HRJ := Lib.hid hrj
      have HXJ := Lib.hid hxj
      have HRX := Lib.hid hrx
      have HJ := Lib.hid hj
      have HX0 := Lib.hid hh0
      have HX1 := Lib.hid hh1
      have HG0 := Lib.hid hg0
      have HG1 := Lib.hid hg1
      have HLT := Lib.hid (And.intro (lt_of_block hh0) (lt_of_block hh1))
      have hj0 : (0 : Int) ≤ (j : Int) := by omega
      have hj1 : (j : Int) < (bn : Int) := by omega
      obtain ⟨kd, wd, fo, sz, nm, co, no, nn, nc⟩ := r
      simp only at *
      clear hk hj ho hl h1 h2 hb hr hrj hx hxj hrx hcl hcur hgt hg0 hg1 hh0 hh1
      go_wp2_with fail
      have y5 : (wr.alloc (.cells #[.int .i64 kd, .int .i64 wd, .int .i64 fo, .int .i64 sz, .string nm, .string co, .slice no nn nc] 85)).cell? ⟨w.heap.size, 4, none⟩ = some (.slice (some ⟨g, 0, none⟩) bn c') := (World.cell?_alloc_old _ _ ⟨w.heap.size, 4, none⟩ (Nat.ne_of_lt HLT.out.1)).trans y4
      have y6 : (wr.alloc (.cells #[.int .i64 kd, .int .i64 wd, .int .i64 fo, .int .i64 sz, .string nm, .string co, .slice no nn nc] 85)).cell? ⟨wr.heap.size, 6, none⟩ = some (.slice no nn nc) := (fresh_bx (heap_alloc_new wr _)).1.2.2.2.2.2.2
      go_region_held3 (fun w' => w'.cell? ⟨w.heap.size, 4, none⟩ = some (.slice (some ⟨g, 0, none⟩) bn c') ∧ w'.cell? ⟨wr.heap.size, 6, none⟩ = some (.slice no nn nc)) (first | exact ⟨d1, d2⟩ | exact ⟨(set_far HG0.out.symm).trans d1, (set_far (Nat.ne_of_gt hgl)).trans d2⟩ | exact ⟨y5, y6⟩ | go_keep)
        (first
        | (go_at_call 79; refine (HCI.out _ ?_).mono ?_
           · rfl
           rintro e w2 ⟨no', nc', rfl, hn2, hb2⟩
           have hba := (Below.refl wr.heap.size wr).alloc (Nat.le_refl _) (.cells #[.int .i64 kd, .int .i64 wd, .int .i64 fo, .int .i64 sz, .string nm, .string co, .slice no nn nc] 85)
           have hb2' := hba.drew.trans (hb2.mono (by simp))
           have e6 : w2.cell? ⟨g, j * 7 + 6, none⟩ = some (.slice no nn nc) := (hb2'.cell (p := ⟨g, j * 7 + 6, none⟩) hgl).trans b6
           have f6 : w2.frozen? ⟨g, j * 7 + 6, none⟩ = false := (hb2'.frozen (p := ⟨g, j * 7 + 6, none⟩) hgl).trans bf
           have d1 : w2.cell? ⟨w.heap.size, 4, none⟩ = some (.slice (some ⟨g, 0, none⟩) bn c') := (hb2'.cell (p := ⟨w.heap.size, 4, none⟩) HLT.out.1).trans y4
           have d2 : w2.cell? ⟨wr.heap.size, 6, none⟩ = some (.slice no nn nc) := (hb2.cell (p := ⟨wr.heap.size, 6, none⟩) (by simp)).trans y6
           have HN2 := Lib.hid (own_base hn2 (base' := wr.heap.size) (by simp))
           have HB2 := Lib.hid hb2'
           have HNIL := Lib.hid (own_none hn2)
           clear hn2 hb2 hba hb2'))
      all_goals
        go_wp2_with fail
        go_roundg (gk - 1)
        case measure => have := HK.out; have := HJ.out; omega
        case rel =>
          have := HK.out
          have := HJ.out
          exact ⟨j + 1, by omega, by go_num, CbR.step rfl hg HO.out HL.out HH1.out HH2.out HB.out HRJ.out HXJ.out HRX.out HB2.out HN2.out HNIL.out,
            (Below.heap_setCell _ _ _ _ (fun e => HG0.out e.symm)).trans ((HB2.out.block _ HLT.out.1).trans HX0.out), (Below.heap_setCell _ _ _ _ (fun e => HG1.out e.symm)).trans ((HB2.out.block _ HLT.out.2).trans HX1.out)⟩
    · have dj : decide (j < bn) = false := decide_eq_false hj
      have HO := Lib.hid ho
      have HH1 := Lib.hid h1
      have HB := Lib.hid hb
      have HL := Lib.hid hl
      have HNJ := Lib.hid hj
      have HX0 := Lib.hid hh0
      obtain ⟨_, t0, t1, t2, t3, t4⟩ := fresh_ln hh1
      have HX1 := Lib.hid hh1
      clear hk hj ho hl h1 h2 hb hh0 hh1
      go_wp2_with fail
      obtain ⟨w5, hw5⟩ : ∃ w5, w5 = LnW wr (w.heap.size + 1) tx md up dn A' bn c' := ⟨_, rfl⟩
      have hat := lnW_at (tx := tx) (md := md) (up := up) (dn := dn) (o := A') (n := bn) (c := c') HX1.out
      have hfar := fun b (hb : b ≠ w.heap.size + 1) => lnW_far (w := wr) (tx := tx) (md := md) (up := up) (dn := dn) (o := A') (n := bn) (c := c') hb
      have hbl := lnW_below (w := wr) (g := w.heap.size + 1) (tx := tx) (md := md) (up := up) (dn := dn) (o := A') (n := bn) (c := c') HB.out (by omega)
      rw [← hw5] at hat hfar hbl
      have hno : ∀ e b, Tg wr e b → e ≠ 31 → b ≠ w.heap.size + 1 := fun e b hb hne => hb.ne ⟨_, _, HX1.out⟩ hne
      refine line_end (t := 2) (g := w.heap.size + 1) rfl rfl rfl (by rw [← hat, hw5]; rfl) ?_
      show ∃ bo' bc' rs, _ ∧ World.ownsRow (LnW wr (w.heap.size + 1) tx md up dn A' bn c') _ _ _ _ _ _ ∧ All2 (RbIs (Tg (LnW wr (w.heap.size + 1) tx md up dn A' bn c')) (LnW wr (w.heap.size + 1) tx md up dn A' bn c')) _ _ ∧ Below _ _ (LnW wr (w.heap.size + 1) tx md up dn A' bn c')
      rw [← hw5]
      refine ⟨A', c', rs, rfl, own_far HO.out (fun g hg => hfar g (hno _ _ (own_tag HO.out hg).1 (by decide))), ⟨by rw [HL.out, HLEN.out], fun i r x hr hx => ?_⟩, hbl⟩
      have hi : i < rs.length := (List.getElem?_eq_some_iff.1 hr).1
      refine (HH1.out i r x (by have := HL.out; have := HNJ.out; omega) hr hx).keep fun b hb => ?_
      have hk := hfar b (hno _ _ hb (by decide))
      exact ⟨hk, hb.keep hk⟩
end Go.Proofs.YtfobbcddedcepaaDoor
