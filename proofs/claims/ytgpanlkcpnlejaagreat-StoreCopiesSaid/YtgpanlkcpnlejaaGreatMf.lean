/- The document's store in memory; where a name leads. -/
import Derived.Test.YtgpanlkcpnlejaaGreatMd
import Derived.BigQuiet
import Derived.Laws.AppendOwn
import Derived.Laws.AppendOwnNone
import Derived.Maps.AppendAt
import Derived.StillTailTactics
import Derived.Deep.RegionLaw
set_option linter.unusedSimpArgs false
set_option linter.unusedVariables false
namespace Go.Proofs.YtgpanlkcpnlejaaGreat
open Go.RowKit Go.Maps
set_option maxRecDepth 100000
def nmCs (r : Reg) : List Value := [.string ⟨r.nm.toArray⟩, .int .i64 r.v]
theorem nm_len (r : Reg) : (nmCs r).length = 2 := rfl
theorem nm_one (r : Reg) : ∀ u ∈ nmCs r, u.oneCell' = true := by
  intro u hu
  simp only [nmCs, List.mem_cons, List.not_mem_nil, or_false] at hu
  rcases hu with rfl | rfl <;> rfl
/-- An entry in memory. -/
structure De where
  k : Int
  lo : Option Addr
  ln : Nat
  lc : Nat
def deCs (e : De) : List Value := [.int .i64 e.k, .slice e.lo e.ln e.lc]
theorem de_len (e : De) : (deCs e).length = 2 := rfl
theorem de_one (e : De) : ∀ u ∈ deCs e, u.oneCell' = true := by
  intro u hu
  simp only [deCs, List.mem_cons, List.not_mem_nil, or_false] at hu
  rcases hu with rfl | rfl <;> rfl
abbrev FT (F : Nat → Prop) (w : World) : TypeId → Nat → Prop := fun t b => F b ∧ Tg w t b
structure DeIs (F : Nat → Prop) (w : World) (e : De) (m : Mc) : Prop where
  kd : e.k = m.kind
  at_ : LnsAt (FT F w) w e.lo e.ln (mLines m)
  nil : e.lo = none → e.ln = 0
  le : e.ln ≤ e.lc
  cap : (e.lc : Int) ≤ 9223372036854775807
  ok : mcOk m
theorem DeIs.fx {F : Nat → Prop} {w w' : World} {e : De} {m : Mc} (h : DeIs F w e m) (k : Fx F w w') : DeIs F w' e m :=
  ⟨h.kd, h.at_.keep fun _ b hb => ⟨k.block b hb.1, hb.1, hb.2.keep (k.block b hb.1)⟩, h.nil, h.le, h.cap, h.ok⟩
/-- The document's store; all its blocks are in F. -/
structure DB (F : Nat → Prop) (bx : Nat) (L : List Reg) (N : Nat) (M : Nat → Mc) (no : Option Addr) (nc : Nat) (eo : Option Addr) (ec : Nat) (es : List De) (w : World) : Prop where
  cell : w.heap[bx]? = some (.cells #[.bool true, .slice no L.length nc, .slice eo N ec] 50 (0, 0))
  row : w.ownsRow 0 84 2 (.slice no L.length nc) L.length (L.flatMap nmCs)
  ent : w.ownsRow 0 62 2 (.slice eo N ec) N (es.flatMap deCs)
  es : ∀ i e, es[i]? = some e → DeIs F w e (M i)
  nF : ∀ g, (Value.slice no L.length nc).ownBlock = some g → F g
  eF : ∀ g, (Value.slice eo N ec).ownBlock = some g → F g
  fb : F bx
  hf : ∀ k, F k → k < w.heap.size
  asc : Asc L
  ok : ∀ r ∈ L, okNm r.nm = true ∧ r.v < N
  len : L.length ≤ 500
def DK (F : Nat → Prop) (bx : Nat) (L : List Reg) (N : Nat) (M : Nat → Mc) (w : World) : Prop := ∃ no nc eo ec es, DB F bx L N M no nc eo ec es w
theorem own_fx {F : Nat → Prop} {w w' : World} {base : Nat} {e : TypeId} {size n : Nat} {v : Value} {xs : List Value} (h : w.ownsRow base e size v n xs) (k : Fx F w w') (hS : ∀ g, v.ownBlock = some g → F g) : w'.ownsRow base e size v n xs := by
  refine ⟨h.1, ?_⟩
  rcases h.2 with hn | ⟨g, cap, cur, hv, hb, hg, rest⟩
  · exact .inl hn
  · exact .inr ⟨g, cap, cur, hv, hb, (k.block g (hS g (by rw [hv]; rfl))).trans hg, rest⟩
theorem DK.fx {F : Nat → Prop} {bx : Nat} {L : List Reg} {N : Nat} {M : Nat → Mc} {w w' : World} (h : DK F bx L N M w) (k : Fx F w w') : DK F bx L N M w' := by
  obtain ⟨no, nc, eo, ec, es, h⟩ := h
  exact ⟨no, nc, eo, ec, es, (k.block _ h.fb).trans h.cell, own_fx h.row k h.nF, own_fx h.ent k h.eF, fun i e he => (h.es i e he).fx k, h.nF, h.eF, h.fb, fun i hi => Nat.lt_of_lt_of_le (h.hf i hi) k.size, h.asc, h.ok, h.len⟩
theorem DB.c {F : Nat → Prop} {bx : Nat} {L : List Reg} {N : Nat} {M : Nat → Mc} {no eo : Option Addr} {nc ec : Nat} {es : List De} {w : World} (h : DB F bx L N M no nc eo ec es w) :
    w.cell? ⟨bx, 0, none⟩ = some (.bool true) ∧ w.cell? ⟨bx, 1, none⟩ = some (.slice no L.length nc) ∧ w.cell? ⟨bx, 2, none⟩ = some (.slice eo N ec) := by
  simp [World.cell?, h.cell]
/-- The cells of a name. -/
theorem DB.nm {F : Nat → Prop} {bx : Nat} {L : List Reg} {N : Nat} {M : Nat → Mc} {no eo : Option Addr} {nc ec : Nat} {es : List De} {w : World} (h : DB F bx L N M no nc eo ec es w) (j : Nat) (hj : j < L.length) :
    ∃ g, no = some ⟨g, 0, none⟩ ∧ w.cell? ⟨g, j * 2, none⟩ = some (.string ⟨(L[j]).nm.toArray⟩) ∧ w.cell? ⟨g, j * 2 + 1, none⟩ = some (.int .i64 (L[j]).v) := by
  obtain ⟨g, rfl, _⟩ := own_head h.row (by omega)
  have key := fun k (hk : k < 2) => fm_at nm_len L j k L[j] (List.getElem?_eq_getElem hj) hk
  exact ⟨g, rfl, (own_cell h.row _ _ (key 0 (by omega))).1, (own_cell h.row _ _ (key 1 (by omega))).1⟩
theorem be_bytes (l : List UInt8) (s : ByteArray) : ((⟨l.toArray⟩ : ByteArray).toList == s.toList) = (l == s.data.toList) := by
  rw [Lib.toList_data, Lib.toList_data]
theorem rno_any {F : Nat → Prop} {bx : Nat} {L : List Reg} {N : Nat} {M : Nat → Mc} {w : World} (h : DK F bx L N M w) : Calls Tryz.prog 39 #[BP bx] w fun e w' => e = .returned (.bool false) ∧ w = w' := by
  obtain ⟨no, nc, eo, ec, es, h⟩ := h
  obtain ⟨c0, _, _⟩ := h.c
  clear h
  go_enter Tryz.func39, Tryz.ntmps39
  go_wp2_with fail
  go_ret
  exact ⟨rfl, rfl⟩
/-- What find says. -/
def fndS (L : List Reg) (nm : List UInt8) : Int := if hasS L nm then ((getS L nm).v : Int) else -1
theorem fnd_at (L : List Reg) (nm : List UInt8) (j : Nat) (hj : j < L.length) (hb : ∀ i (hi : i < j), (L[i]'(by omega)).nm ≠ nm) (he : (L[j]).nm = nm) : fndS L nm = (L[j]).v := by
  have hf : L.find? (fun r => r.nm == nm) = some L[j] := by
    rw [List.find?_eq_some_iff_getElem]
    exact ⟨by simpa using he, j, hj, rfl, fun i hi => by simpa using hb i hi⟩
  have hh : hasS L nm = true := by
    unfold hasS
    rw [List.any_eq_true]
    exact ⟨L[j], List.getElem_mem hj, by simpa using he⟩
  unfold fndS
  rw [if_pos hh]
  unfold getS
  rw [hf]; rfl
theorem fnd_no (L : List Reg) (nm : List UInt8) (hb : ∀ i (hi : i < L.length), (L[i]).nm ≠ nm) : fndS L nm = -1 := by
  have hh : hasS L nm = false := by
    unfold hasS
    rw [List.any_eq_false]
    intro r hr
    obtain ⟨i, hi, rfl⟩ := List.getElem_of_mem hr
    simpa using hb i hi
  unfold fndS
  rw [if_neg (by rw [hh]; decide)]
def FnR (L : List Reg) (nm : List UInt8) (w : World) (k : Nat) (i : Value) (wr : World) : Prop :=
  ∃ j : Nat, k + j = L.length ∧ i = .int .i64 j ∧ wr = w ∧ ∀ i (hi : i < L.length), i < j → (L[i]).nm ≠ nm
set_option maxHeartbeats 1000000 in
theorem rfind_any {F : Nat → Prop} {bx : Nat} {L : List Reg} {N : Nat} {M : Nat → Mc} {w : World} (h : DK F bx L N M w) (s : ByteArray) : Calls Tryz.prog 55 #[BP bx, .string s] w fun e w' => e = .returned (.int .i64 (fndS L s.data.toList)) ∧ w = w' := by
  obtain ⟨no, nc, eo, ec, es, h⟩ := h
  obtain ⟨_, c1, _⟩ := h.c
  have H := Lib.hid h
  have hl := h.len
  have HST : Hid (FnR L s.data.toList w L.length (.int .i64 0) w) := Lib.hid ⟨0, rfl, rfl, rfl, fun i _ hi => by omega⟩
  clear h
  go_enter Tryz.func55, Tryz.ntmps55
  go_wp2_with fail
  go_loopg [5] L.length (fun k i wr => FnR L s.data.toList w k i wr)
  case atStart => exact HST.out
  case round =>
    obtain ⟨j, hk, rfl, hw, hbf⟩ := hrel
    subst hw
    have HK := Lib.hid hk
    have HBF := Lib.hid hbf
    by_cases hj : j < L.length
    · have d1 : decide (j < L.length) = true := decide_eq_true hj
      obtain ⟨g, rfl, c3, c4⟩ := H.out.nm j hj
      have heq := be_bytes (L[j]).nm s
      have HJ := Lib.hid hj
      have hj5 : j < 1000 := by omega
      have HV := Lib.hid (fun (e : (L[j]).nm = s.data.toList) => fnd_at L s.data.toList j hj (fun i hi => hbf i (by omega) hi) e)
      have HX := Lib.hid (fun (e : (L[j]).nm ≠ s.data.toList) => (fun i hi hij => by
        by_cases hij' : i = j
        · subst hij'; exact e
        · exact hbf i hi (by omega) : ∀ i (hi : i < L.length), i < j + 1 → (L[i]).nm ≠ s.data.toList))
      generalize (L[j]).v = v at HV c4
      generalize hnm : (L[j]).nm = nm at HV HX c3 heq
      obtain ⟨x, hx⟩ : ∃ x : ByteArray, x = ⟨nm.toArray⟩ := ⟨_, rfl⟩
      rw [← hx] at c3 heq
      clear hk hj hbf hnm hx
      by_cases he : nm = s.data.toList
      · have hd : (nm == s.data.toList) = true := by simpa using he
        rw [hd] at heq
        have HE := Lib.hid he
        clear he hd
        go_wp2_with fail
        go_ret
        rw [HV.out HE.out]
        exact ⟨rfl, rfl⟩
      · have hd : (nm == s.data.toList) = false := by simpa using he
        rw [hd] at heq
        have HE := Lib.hid he
        clear he hd
        go_wp2_with fail
        go_roundg (gk - 1)
        case measure => have := HK.out; have := HJ.out; omega
        case rel => have := HK.out; have := HJ.out; exact ⟨j + 1, by omega, by go_num, rfl, HX.out HE.out⟩
    · have d1 : decide (j < L.length) = false := decide_eq_false hj
      have HV := Lib.hid (fnd_no L s.data.toList (fun i hi => hbf i hi (by omega)))
      clear hk hj hbf
      go_wp2_with fail
      go_ret
      rw [HV.out]
      exact ⟨rfl, rfl⟩
theorem rthere_any {F : Nat → Prop} {bx : Nat} {L : List Reg} {N : Nat} {M : Nat → Mc} {w : World} (h : DK F bx L N M w) (s : ByteArray) : Calls Tryz.prog 58 #[BP bx, .string s] w fun e w' => e = .returned (.tuple #[.int .i64 (if hasS L s.data.toList then ((getS L s.data.toList).v : Int) else 0), .int .i64 (if hasS L s.data.toList then 0 else 6)]) ∧ w = w' := by
  have HN := Lib.hid (rno_any h)
  have HF := Lib.hid (rfind_any h s)
  unfold fndS at HF
  clear h
  cases hh : hasS L s.data.toList with
  | true =>
    rw [hh] at HF
    simp only [if_true] at HF ⊢
    generalize (getS L s.data.toList).v = v at HF ⊢
    have dv : decide ((v : Int) < 0) = false := decide_eq_false (by omega)
    clear hh
    go_enter Tryz.func58, Tryz.ntmps58
    go_wp2_with fail
    refine HN.out.mono ?_
    rintro e w1 ⟨rfl, rfl⟩
    go_wp2_with fail
    refine HF.out.mono ?_
    rintro e w1 ⟨rfl, rfl⟩
    go_wp2_with fail
    go_ret2
    exact ⟨rfl, rfl⟩
  | false =>
    rw [hh] at HF
    simp only [Bool.false_eq_true, if_false] at HF ⊢
    clear hh
    go_enter Tryz.func58, Tryz.ntmps58
    go_wp2_with fail
    refine HN.out.mono ?_
    rintro e w1 ⟨rfl, rfl⟩
    go_wp2_with fail
    refine HF.out.mono ?_
    rintro e w1 ⟨rfl, rfl⟩
    go_wp2_with fail
    go_ret2
    exact ⟨rfl, rfl⟩
end Go.Proofs.YtgpanlkcpnlejaaGreat
/- Own copies of lines. -/
namespace Go.Proofs.YtgpanlkcpnlejaaGreat
open Go.RowKit Go.Maps
set_option maxRecDepth 100000
/-- New blocks. -/
abbrev NT (B : Nat) (w : World) : TypeId → Nat → Prop := fun t b => B ≤ b ∧ Tg w t b
theorem own_tag {w : World} {base size n g : Nat} {e : TypeId} {v : Value} {xs : List Value} (h : w.ownsRow base e size v n xs) (hg : v.ownBlock = some g) : Tg w e g ∧ base ≤ g := by
  rcases h.2 with ⟨hv, _⟩ | ⟨g', cap, cur, hv, hb, hh, _⟩
  · rw [hv] at hg; simp [Value.ownBlock] at hg
  · rw [hv] at hg
    have : g' = g := by simpa [Value.ownBlock] using hg
    subst this
    exact ⟨⟨cur, _, hh⟩, hb⟩
abbrev LnO (tx : ByteArray) (md : Bool) (up dn : Int) (bo : Option Addr) (bn bc : Nat) : Obj := .cells #[.string tx, .bool md, .int .i64 up, .int .i64 dn, .slice bo bn bc] 39 (0, 0)
abbrev BxA (r : RB) : Array Value := #[.int .i64 r.kd, .int .i64 r.wd, .int .i64 r.fo, .int .i64 r.sz, .string r.nm, .string r.co, .slice r.no r.nn r.nc]
/-- Behind j rounds: j boxes of one's own. -/
structure OwR (w : World) (bs : List Bx) (l0 l1 : Obj) (j : Nat) (x : Value) (wr : World) : Prop where
  ex : ∃ rs' : List RB, wr.ownsRow w.heap.size 101 7 x j (rs'.flatMap rbCs) ∧ rs'.length = j ∧ ∀ (i : Nat) (r : RB) (b : Bx), rs'[i]? = some r → bs[i]? = some b → RbIs (NT w.heap.size wr) wr r b
  h0 : wr.heap[w.heap.size]? = some l0
  h1 : wr.heap[w.heap.size + 1]? = some l1
  below : Below w.heap.size w wr
theorem OwR.step {P : TypeId → Nat → Prop} {w w0 : World} {bs : List Bx} {cs0 cs1 : Array Value} {j : Nat} {x v5 : Value} {wr w5 : World} {r : RB} {b : Bx} {o3 : Option Addr} {c3 : Nat} {rs' : List RB}
    (ho : wr.ownsRow w.heap.size 101 7 x j (rs'.flatMap rbCs)) (hl : rs'.length = j) (hx : ∀ (i : Nat) (r : RB) (b : Bx), rs'[i]? = some r → bs[i]? = some b → RbIs (NT w.heap.size wr) wr r b)
    (h0 : wr.heap[w.heap.size]? = some (.cells cs0 39 (0, 0))) (h1 : wr.heap[w.heap.size + 1]? = some (.cells cs1 39 (0, 0))) (hb : Below w.heap.size w wr)
    (hr : RbIs P w0 r b) (hbj : bs[j]? = some b) (K : Kept (fun k => x.ownBlock = some k) wr w5) (hint : w5.ownsRow w.heap.size 3 1 (.slice o3 r.nn c3) r.nn (intCs b.ns))
    (hown : w5.ownsRow w.heap.size 101 7 v5 (j + 1) (rs'.flatMap rbCs ++ rbCs { r with no := o3, nc := c3 })) : OwR w bs (.cells cs0 39 (0, 0)) (.cells cs1 39 (0, 0)) (j + 1) v5 w5 := by
  have hS : ∀ e g, Tg wr e g → e ≠ 101 → x.ownBlock ≠ some g := fun e g hg hne hx => (hg.ne (own_tag ho hx).1 hne) rfl
  have k0 := K.block _ (lt_of_block h0) (hS _ _ ⟨_, _, h0⟩ (by decide))
  have k1 := K.block _ (lt_of_block h1) (hS _ _ ⟨_, _, h1⟩ (by decide))
  refine ⟨⟨rs' ++ [{ r with no := o3, nc := c3 }], by rw [List.flatMap_append]; simpa using hown, by simp [hl], fun i r' b' hr' hb' => ?_⟩, k0.trans h0, k1.trans h1, ?_⟩
  · by_cases hi : i < rs'.length
    · rw [List.getElem?_append_left hi] at hr'
      refine (hx i r' b' hr' hb').keep fun q hq => ?_
      have hk := K.block q hq.2.lt (hS _ _ hq.2 (by decide))
      exact ⟨hk, hq.1, hq.2.keep hk⟩
    · have hie : i = j := by
        have := (List.getElem?_eq_some_iff.1 hr').1
        simp at this; omega
      subst hie
      rw [List.getElem?_append_right (by omega), hl, Nat.sub_self] at hr'
      simp only [List.getElem?_cons_zero, Option.some.injEq] at hr'
      obtain rfl : b = b' := Option.some.inj (hbj.symm.trans hb')
      subst hr'
      obtain ⟨o, cap, hv, hcap1, hcap2⟩ := row_shape hint
      injection hv with hv1 hv2 hv3
      subst hv3
      exact ⟨hr.kd, hr.wd, hr.fo, hr.sz, hr.nm, hr.co, hr.nn, own_none hint, hcap1, hcap2, hr.fit, ReadsP.of_own hint (fun g cs hg hb => ⟨hb, cs, _, hg⟩)⟩
  · exact hb.trans (K.to hb.size (fun k hk => (own_tag ho hk).2))
theorem cell_seven_new (w : World) (c0 c1 c2 c3 c4 c5 c6 : Value) (e : TypeId) : ∀ j u, [c0, c1, c2, c3, c4, c5, c6][j]? = some u → (w.alloc (.cells #[c0, c1, c2, c3, c4, c5, c6] e)).cell? ((⟨w.heap.size, 0, none⟩ : Addr).add j) = some u := by
  intro j u hu
  rw [cell_add]
  have h := heap_alloc_new w (.cells #[c0, c1, c2, c3, c4, c5, c6] e)
  simp only [World.cell?, h, Nat.zero_add]
  have : (#[c0, c1, c2, c3, c4, c5, c6] : Array Value).toList[j]? = some u := hu
  rwa [Array.getElem?_toList] at this
theorem ow_ints {w3 w4 w5 : World} {B G : Nat} {x v3 : Value} {n : Nat} {xs : List Value} {cs : Array Value} (h3 : w3.ownsRow B 3 1 v3 n xs) (hG : w3.heap[G]? = some (.cells cs 101 (0, 0))) (hx : ∀ g, x.ownBlock = some g → Tg w3 101 g) (k4 : ∀ k, k < w3.heap.size → k ≠ G → w4.heap[k]? = w3.heap[k]?) (hs : w3.heap.size ≤ w4.heap.size) (hg : w4.grownBy w5 x.ownBlock) : w5.ownsRow B 3 1 v3 n xs := by
  refine ⟨h3.1, ?_⟩
  rcases h3.2 with hn | ⟨g, cap, cur, hv, hb, hh, rest⟩
  · exact .inl hn
  · have hlt := lt_of_block hh
    have ht : Tg w3 3 g := ⟨_, _, hh⟩
    refine .inr ⟨g, cap, cur, hv, hb, ?_, rest⟩
    exact (hg.block g (by omega) (fun e => (ht.ne (hx g e.symm) (by decide)) rfl)).trans ((k4 g hlt (ht.ne ⟨_, _, hG⟩ (by decide))).trans hh)
theorem own_end {a : Act} {W' : World} {g : Nat} {c0 c1 c2 c3 c4 : Value} {Q : Ending → World → Prop} (hd : a.defers = []) (h2 : a.tmps.getD 2 undef = .pointer (some ⟨g, 0, none⟩))
    (hg : W'.heap[g]? = some (.cells #[c0, c1, c2, c3, c4] 39 (0, 0))) (hQ : Q (.returned (.agg #[c0, c1, c2, c3, c4])) W') : bodyPost Tryz.prog Tryz.f74 Q Exit.ret a W' := by
  have h2' : a.tmps[2]?.getD undef = .pointer (some ⟨g, 0, none⟩) := by simpa using h2
  refine bodyPost_ret (v := .agg #[c0, c1, c2, c3, c4]) ?_ hd hQ
  obtain ⟨⟨e0, e1, e2, e3, e4⟩, _⟩ := fresh_ln hg
  simp [results, Tryz.results74, h2', go_sem, e0, e1, e2, e3, e4]
/-- Behind the result's stores. -/
def OwW (w wr : World) (tx : ByteArray) (md : Bool) (up dn : Int) (o : Option Addr) (j cap : Nat) : World :=
  ((((((wr.setCell ⟨w.heap.size, 4, none⟩ (.slice o j cap)).setCell ⟨w.heap.size + 1, 0, none⟩ (.string tx)).setCell ⟨w.heap.size + 1, 1, none⟩ (.bool md)).setCell ⟨w.heap.size + 1, 2, none⟩ (.int .i64 up)).setCell ⟨w.heap.size + 1, 3, none⟩ (.int .i64 dn)).setCell ⟨w.heap.size + 1, 4, none⟩ (.slice o j cap))
theorem own_last {w wr : World} {tx : ByteArray} {md : Bool} {up dn : Int} {o : Option Addr} {j cap : Nat} {c0 c1 c2 c3 c4 : Value} (h : wr.heap[w.heap.size + 1]? = some (.cells #[c0, c1, c2, c3, c4] 39 (0, 0))) :
    (OwW w wr tx md up dn o j cap).heap[w.heap.size + 1]? = some (.cells #[.string tx, .bool md, .int .i64 up, .int .i64 dn, .slice o j cap] 39 (0, 0)) := by
  simp [OwW, World.setCell, Array.getElem?_modify, h]
set_option maxHeartbeats 4000000 in
theorem rOwn_any {P : TypeId → Nat → Prop} {w : World} (tx : ByteArray) (md : Bool) (up dn : Int) (bo : Option Addr) (bn bc : Nat) (bs : List Bx) (hb : BxsAt P w bo bn bs) (hP : ∀ e b, P e b → b < w.heap.size) (hbn : bn ≤ 2000) :
    Calls Tryz.prog 74 #[.agg #[.string tx, .bool md, .int .i64 up, .int .i64 dn, .slice bo bn bc]] w fun e w' => ∃ bo' bc', e = .returned (.agg #[.string tx, .bool md, .int .i64 up, .int .i64 dn, .slice bo' bn bc']) ∧ BxsAt (NT w.heap.size w') w' bo' bn bs ∧ (bo' = none → bn = 0) ∧ bn ≤ bc' ∧ (bc' : Int) ≤ 9223372036854775807 ∧ Below w.heap.size w w' := by
  obtain ⟨⟨rs, hr, ha⟩, hlen⟩ := hb
  have HRL := Lib.hid (show rs.length = bn by rw [ha.1, hlen])
  have HR := Lib.hid hr
  have HA : Hid (All2 (RbIs P w) rs bs) := Lib.hid ha
  have HLEN := Lib.hid hlen
  have HP := Lib.hid hP
  clear hr ha hlen hP
  obtain ⟨i0, hi0, hz0, hz1, hz2⟩ := info_parts info_int
  obtain ⟨j0, hj0, hy0, hy1, hy2⟩ := info_parts info_box
  have h2 := two_alloc w #[.string tx, .bool md, .int .i64 up, .int .i64 dn, .slice bo bn bc] #[.string ⟨#[]⟩, .bool false, .int .i64 0, .int .i64 0, .slice none 0 0] 39 39
  have HST : Hid (OwR w bs (LnO tx md up dn bo bn bc) (LnO ⟨#[]⟩ false 0 0 none 0 0) 0 (.slice none 0 0) _) := Lib.hid ⟨⟨[], World.ownsRow_nil _ _ _ _, rfl, fun i r b h => by simp at h⟩, h2.1, h2.2.1, h2.2.2⟩
  clear h2
  go_enter Tryz.func74, Tryz.ntmps74
  go_wp2_with fail
  go_loopg [3, 4] bn (fun k x i wr => ∃ j : Nat, k + j = bn ∧ i = .int .i64 j ∧ OwR w bs (LnO tx md up dn bo bn bc) (LnO ⟨#[]⟩ false 0 0 none 0 0) j x wr)
  case atStart => exact ⟨0, rfl, rfl, HST.out⟩
  case round =>
    obtain ⟨j, hk, rfl, hw⟩ := hrel
    obtain ⟨⟨rs', ho, hl, hx⟩, h0, h1, hb⟩ := hw
    obtain ⟨⟨l0, l1, l2, l3, l4⟩, _⟩ := fresh_ln h0
    have HK := Lib.hid hk
    by_cases hj : j < bn
    · have dj : decide (j < bn) = true := decide_eq_true hj
      have hrj : rs[j]? = some (rs[j]'(by have := HRL.out; omega)) := List.getElem?_eq_getElem (by have := HRL.out; omega)
      obtain ⟨r, hre⟩ : ∃ r, r = rs[j]'(by have := HRL.out; omega) := ⟨_, rfl⟩
      rw [← hre] at hrj
      have hbj : bs[j]? = some (bs[j]'(by have := HLEN.out; omega)) := List.getElem?_eq_getElem (by have := HLEN.out; omega)
      obtain ⟨b, hbe⟩ : ∃ b, b = bs[j]'(by have := HLEN.out; omega) := ⟨_, rfl⟩
      rw [← hbe] at hbj
      have hrx := HA.out.2 j r b hrj hbj
      obtain ⟨q, qo, rfl, hpq, c0, c1, c2, c3, c4, c5, c6⟩ := reads_bx HR.out j r hrj
      have hql := HP.out _ q hpq
      have e := fun o => hb.cell (p := ⟨q, o, none⟩) hql
      rw [← e] at c0 c1 c2 c3 c4 c5 c6
      obtain ⟨o, cap, rfl, _, _⟩ := row_shape ho
      have HBJ := Lib.hid hbj
      have HRX := Lib.hid hrx
      have HO := Lib.hid ho
      have HL := Lib.hid hl
      have HX := Lib.hid hx
      have H0 := Lib.hid h0
      have H1 := Lib.hid h1
      have HB := Lib.hid hb
      have HJ := Lib.hid hj
      obtain ⟨kd, wd, fo, sz, nm, co, no, nn, nc⟩ := r
      simp only at c0 c1 c2 c3 c4 c5 c6
      have hj5 : j ≤ 2000 := by omega
      have HZ := Lib.hid hb.size
      have HROWI : Hid (((wr.alloc (.cells #[.int .i64 kd, .int .i64 wd, .int .i64 fo, .int .i64 sz, .string nm, .string co, .slice no nn nc] 101)).alloc (.cells #[] 3)).ownsRow w.heap.size 3 1 (.slice (some ⟨wr.heap.size + 1, 0, none⟩) 0 0) 0 []) := Lib.hid (by
        have := World.ownsRow_made (base := w.heap.size) (e := 3) (size := 1) (wr.alloc (.cells #[.int .i64 kd, .int .i64 wd, .int .i64 fo, .int .i64 sz, .string nm, .string co, .slice no nn nc] 101)) #[] 0 (by have := hb.size; simp; omega) (by unfold maxLen; omega) rfl
        rwa [show (wr.alloc (.cells #[.int .i64 kd, .int .i64 wd, .int .i64 fo, .int .i64 sz, .string nm, .string co, .slice no nn nc] 101)).heap.size = wr.heap.size + 1 by simp] at this)
      have h2w := two_alloc wr #[.int .i64 kd, .int .i64 wd, .int .i64 fo, .int .i64 sz, .string nm, .string co, .slice no nn nc] #[] 101 3
      have HB2 := Lib.hid h2w.2.2
      have HBK := Lib.hid h2w.1
      have HNN := Lib.hid hrx.ns.1
      have hnn : nn * 8 ≤ 140737488355328 := hrx.fit
      have hrx0 := hrx.nil
      simp only at hrx0
      clear hk hj hre hrj hbe hbj hrx hpq ho hl hx h0 h1 l0 l1 l2 l3 h2w
      cases no with
      | none =>
        have hnn0 : nn = 0 := hrx0 rfl
        clear hb hql e hrx0
        subst hnn0
        have hnil : intCs b.ns = [] := List.eq_nil_of_length_eq_zero (by rw [HNN.out]; show 0 * 1 = 0; rfl)
        have h3w := two_alloc wr #[.int .i64 kd, .int .i64 wd, .int .i64 fo, .int .i64 sz, .string nm, .string co, .slice (some ⟨wr.heap.size + 1, 0, none⟩) 0 0] #[] 101 3
        have HB3 := Lib.hid h3w.2.2
        have HBK3 := Lib.hid h3w.1
        have HO3 : Hid (((wr.alloc (.cells #[.int .i64 kd, .int .i64 wd, .int .i64 fo, .int .i64 sz, .string nm, .string co, .slice (some ⟨wr.heap.size + 1, 0, none⟩) 0 0] 101)).alloc (.cells #[] 3)).ownsRow w.heap.size 3 1 (.slice (some ⟨wr.heap.size + 1, 0, none⟩) 0 0) 0 (intCs b.ns)) := Lib.hid (by
          have := World.ownsRow_made (base := w.heap.size) (e := 3) (size := 1) (wr.alloc (.cells #[.int .i64 kd, .int .i64 wd, .int .i64 fo, .int .i64 sz, .string nm, .string co, .slice (some ⟨wr.heap.size + 1, 0, none⟩) 0 0] 101)) #[] 0 (by have := HZ.out; simp; omega) (by unfold maxLen; omega) rfl
          rw [hnil]
          rwa [show (wr.alloc (.cells #[.int .i64 kd, .int .i64 wd, .int .i64 fo, .int .i64 sz, .string nm, .string co, .slice (some ⟨wr.heap.size + 1, 0, none⟩) 0 0] 101)).heap.size = wr.heap.size + 1 by simp] at this)
        have hb4 := h3w.2.2.alloc h3w.2.2.size (.cells #[.int .i64 kd, .int .i64 wd, .int .i64 fo, .int .i64 sz, .string nm, .string co, .slice (some ⟨wr.heap.size + 1, 0, none⟩) 0 0] 101)
        have HB4 := Lib.hid hb4
        have HO4 := Lib.hid (own_kept HO.out (Kept.of (S := fun _ => False) hb4) (fun _ _ h => h))
        have hs4 := cell_seven_new ((wr.alloc (.cells #[.int .i64 kd, .int .i64 wd, .int .i64 fo, .int .i64 sz, .string nm, .string co, .slice (some ⟨wr.heap.size + 1, 0, none⟩) 0 0] 101)).alloc (.cells #[] 3)) (.int .i64 kd) (.int .i64 wd) (.int .i64 fo) (.int .i64 sz) (.string nm) (.string co) (.slice (some ⟨wr.heap.size + 1, 0, none⟩) 0 0) 101
        rw [show ((wr.alloc (.cells #[.int .i64 kd, .int .i64 wd, .int .i64 fo, .int .i64 sz, .string nm, .string co, .slice (some ⟨wr.heap.size + 1, 0, none⟩) 0 0] 101)).alloc (.cells #[] 3)).heap.size = wr.heap.size + 1 + 1 by simp] at hs4
        have HSRC4 := Lib.hid hs4
        clear h3w hb4 hs4 hnil
        go_wp2_with (first
          | (at_builtin; refine wpList_append_own _ rfl _ _ 37 rfl w.heap.size 101 j0 _ 7 88 Tryz.underlying37 hj0 hy0 hy1 hy2 rfl (by decide) _ _ _ rfl HO4.out ⟨wr.heap.size + 1 + 1, 0, none⟩ 1 1 [.int .i64 kd, .int .i64 wd, .int .i64 fo, .int .i64 sz, .string nm, .string co, .slice (some ⟨wr.heap.size + 1, 0, none⟩) 0 0] rfl rfl HSRC4.out (fun u hu => by simp only [List.mem_cons, List.not_mem_nil, or_false] at hu; rcases hu with rfl | rfl | rfl | rfl | rfl | rfl | rfl <;> rfl) (by unfold maxLen; omega) (by omega) (by have := HB4.out.size; have := HZ.out; omega) ?_
             intro v5 w5 hown5 hgrow5 _
             have hg5 : (((wr.alloc (.cells #[.int .i64 kd, .int .i64 wd, .int .i64 fo, .int .i64 sz, .string nm, .string co, .slice (some ⟨wr.heap.size + 1, 0, none⟩) 0 0] 101)).alloc (.cells #[] 3)).alloc (.cells #[.int .i64 kd, .int .i64 wd, .int .i64 fo, .int .i64 sz, .string nm, .string co, .slice (some ⟨wr.heap.size + 1, 0, none⟩) 0 0] 101)).grownBy w5 (Value.slice o j cap).ownBlock := hgrow5
             have HG5 := Lib.hid hg5
             have HO5 := Lib.hid hown5
             clear hgrow5 hg5 hown5))
        have hfin := OwR.step (v5 := v5) (w5 := w5) HO.out HL.out HX.out H0.out H1.out HB.out HRX.out HBJ.out
          ((Kept.of HB4.out).trans ⟨HG5.out.os, HG5.out.tape, HG5.out.output, HG5.out.size, fun k hk hs => HG5.out.block k hk (fun e => hs e.symm)⟩)
          (ow_ints HO3.out HBK3.out (fun g hg => ((own_tag HO.out hg).1.below HB3.out).2) (fun k hk _ => Below.heap_alloc _ _ _ hk) (by simp) HG5.out) HO5.out
        have HFIN := Lib.hid hfin
        clear hfin
        go_roundg (gk - 1)
        case measure => have := HK.out; have := HJ.out; omega
        case rel => have := HK.out; have := HJ.out; exact ⟨j + 1, by omega, by first | go_num | (congr 1; rw [IntWalk.wrap64_in _ (by omega)]; omega), HFIN.out⟩
      | some a =>
        have HSRC : Hid (∀ i u, (intCs b.ns)[i]? = some u → ((wr.alloc (.cells #[.int .i64 kd, .int .i64 wd, .int .i64 fo, .int .i64 sz, .string nm, .string co, .slice (some a) nn nc] 101)).alloc (.cells #[] 3)).cell? (a.add i) = some u) := Lib.hid (fun i u hu => by
          have hns := HRX.out.ns
          simp only at hns
          have hpos : 0 < nn := by
            have h3 := (List.getElem?_eq_some_iff.1 hu).1
            have h4 := hns.1
            omega
          obtain ⟨b', off', he, hp', hc'⟩ := hns.2 hpos
          injection he with he
          subst he
          rw [cell_add]
          have hlt := HP.out _ b' hp'
          exact (HB2.out.cell (p := ⟨b', off' + i, none⟩) (Nat.lt_of_lt_of_le hlt hb.size)).trans ((hb.cell (p := ⟨b', off' + i, none⟩) hlt).trans (hc' i u hu)))
        clear hrx0
        have HONE : Hid (∀ u ∈ intCs b.ns, u.oneCell' = true) := Lib.hid (by intro u hu; obtain ⟨z, _, rfl⟩ := List.mem_map.1 hu; rfl)
        clear hb hql e
        go_wp2_with (first
          | (at_builtin; refine wpList_append_own _ rfl _ _ 99 rfl w.heap.size 3 i0 _ 1 8 Tryz.underlying99 hi0 hz0 hz1 hz2 rfl (by decide) _ _ _ rfl HROWI.out a nn nc (intCs b.ns) rfl HNN.out HSRC.out HONE.out (by unfold maxLen; omega) (by omega) (by have := HB2.out.size; have := HZ.out; omega) ?_
             intro v3 w3 hown3 hgrow3 _
             obtain ⟨o3, cap3, rfl, _, _⟩ := row_shape hown3
             rw [Nat.zero_add, List.nil_append] at hown3
             have hg3 : ((wr.alloc (.cells #[.int .i64 kd, .int .i64 wd, .int .i64 fo, .int .i64 sz, .string nm, .string co, .slice (some a) nn nc] 101)).alloc (.cells #[] 3)).grownBy w3 (some (wr.heap.size + 1)) := hgrow3
             have HB3 := Lib.hid (HB2.out.grown hg3 HB2.out.size (fun g e => by cases e; omega))
             have hblk := (hg3.block wr.heap.size (lt_of_block HBK.out) (fun e => by injection e with e; omega)).trans HBK.out
             clear hgrow3 hg3
             obtain ⟨⟨d0, d1, d2, d3, d4, d5, d6⟩, _⟩ := fresh_bx hblk
             have fz : w3.frozen? ⟨wr.heap.size, 6, none⟩ = false := by simp [World.frozen?, hblk]
             have HBK3 := Lib.hid hblk
             have HO3 := Lib.hid hown3
             have hb4 := (HB3.out.setCell (p := ⟨wr.heap.size, 6, none⟩) (Nat.le_refl _) (.slice o3 nn cap3)).alloc (by have := HB3.out.size; simpa using this) (.cells #[.int .i64 kd, .int .i64 wd, .int .i64 fo, .int .i64 sz, .string nm, .string co, .slice o3 nn cap3] 101)
             have HB4 := Lib.hid hb4
             have HO4 := Lib.hid (own_kept HO.out (Kept.of (S := fun _ => False) hb4) (fun _ _ h => h))
             have hs4 := cell_seven_new (w3.setCell ⟨wr.heap.size, 6, none⟩ (.slice o3 nn cap3)) (.int .i64 kd) (.int .i64 wd) (.int .i64 fo) (.int .i64 sz) (.string nm) (.string co) (.slice o3 nn cap3) 101
             rw [show (w3.setCell ⟨wr.heap.size, 6, none⟩ (.slice o3 nn cap3)).heap.size = w3.heap.size by simp [World.setCell]] at hs4
             have HSRC4 := Lib.hid hs4
             clear hown3 hblk hb4 hs4)
          | (at_builtin; refine wpList_append_own _ rfl _ _ 37 rfl w.heap.size 101 j0 _ 7 88 Tryz.underlying37 hj0 hy0 hy1 hy2 rfl (by decide) _ _ _ rfl HO4.out ⟨w3.heap.size, 0, none⟩ 1 1 [.int .i64 kd, .int .i64 wd, .int .i64 fo, .int .i64 sz, .string nm, .string co, .slice o3 nn cap3] rfl rfl HSRC4.out (fun u hu => by simp only [List.mem_cons, List.not_mem_nil, or_false] at hu; rcases hu with rfl | rfl | rfl | rfl | rfl | rfl | rfl <;> rfl) (by unfold maxLen; omega) (by omega) (by have := HB4.out.size; have := HZ.out; omega) ?_
             intro v5 w5 hown5 hgrow5 _
             have hg5 : ((w3.setCell ⟨wr.heap.size, 6, none⟩ (.slice o3 nn cap3)).alloc (.cells #[.int .i64 kd, .int .i64 wd, .int .i64 fo, .int .i64 sz, .string nm, .string co, .slice o3 nn cap3] 101)).grownBy w5 (Value.slice o j cap).ownBlock := hgrow5
             have HG5 := Lib.hid hg5
             have HO5 := Lib.hid hown5
             clear hgrow5 hg5 hown5))
        have hfin := OwR.step (v5 := v5) (w5 := w5) HO.out HL.out HX.out H0.out H1.out HB.out HRX.out HBJ.out
          ((Kept.of HB4.out).trans ⟨HG5.out.os, HG5.out.tape, HG5.out.output, HG5.out.size, fun k hk hs => HG5.out.block k hk (fun e => hs e.symm)⟩)
          (ow_ints HO3.out HBK3.out (fun g hg => ((own_tag HO.out hg).1.below HB3.out).2) (fun k hk hne => (Below.heap_alloc _ _ _ (by simpa [World.setCell] using hk)).trans (Below.heap_setCell _ _ _ _ hne)) (by simp [World.setCell]) HG5.out) HO5.out
        have HFIN := Lib.hid hfin
        clear hfin
        go_roundg (gk - 1)
        case measure => have := HK.out; have := HJ.out; omega
        case rel => have := HK.out; have := HJ.out; exact ⟨j + 1, by omega, by first | go_num | (congr 1; rw [IntWalk.wrap64_in _ (by omega)]; omega), HFIN.out⟩
    · have dj : decide (j < bn) = false := decide_eq_false hj
      have hje : j = bn := by omega
      obtain ⟨o, cap, rfl, hcap1, hcap2⟩ := row_shape ho
      have H1 := Lib.hid h1
      have hf0 : wr.frozen? ⟨w.heap.size, 4, none⟩ = false := by simp [World.frozen?, h0]
      obtain ⟨⟨r0, r1, r2, r3, r4⟩, _⟩ := fresh_ln h1
      have hf1 : ∀ k, wr.frozen? ⟨w.heap.size + 1, k, none⟩ = false := fun k => by simp [World.frozen?, h1]
      have f10 := hf1 0
      have f11 := hf1 1
      have f12 := hf1 2
      have f13 := hf1 3
      have f14 := hf1 4
      clear hf1
      have HO := Lib.hid ho
      have HL := Lib.hid hl
      have HX := Lib.hid hx
      have HB := Lib.hid hb
      have HH0 := Lib.hid h0
      have hC1 := Lib.hid hcap1
      have hC2 := Lib.hid hcap2
      have HJE := Lib.hid hje
      clear hk hj ho hl hx h0 h1 hb hcap1 hcap2 hje
      go_wp2_with fail
      have hgt : ∀ k, k ≠ w.heap.size → k ≠ w.heap.size + 1 → (OwW w wr tx md up dn o j cap).heap[k]? = wr.heap[k]? := fun k h1 h2 => by
        unfold OwW
        rw [Below.heap_setCell _ _ _ _ h2, Below.heap_setCell _ _ _ _ h2, Below.heap_setCell _ _ _ _ h2, Below.heap_setCell _ _ _ _ h2, Below.heap_setCell _ _ _ _ h2, Below.heap_setCell _ _ _ _ h1]
      have hT0 : Tg wr 39 w.heap.size := ⟨_, _, HH0.out⟩
      have hT1 : Tg wr 39 (w.heap.size + 1) := ⟨_, _, H1.out⟩
      have hbx : BxsAt (NT w.heap.size wr) wr o j bs := ⟨⟨_, ReadsP.of_own HO.out (fun g cs hg hb => ⟨hb, cs, _, hg⟩), by rw [HL.out, HJE.out, HLEN.out], fun i r b hr hb => HX.out i r b hr hb⟩, by rw [HJE.out, HLEN.out]⟩
      have hbx2 : BxsAt (NT w.heap.size (OwW w wr tx md up dn o j cap)) (OwW w wr tx md up dn o j cap) o j bs := hbx.keep fun e he q hq => by
        have hk := hgt q (hq.2.ne hT0 (by rcases he with rfl | rfl <;> decide)) (hq.2.ne hT1 (by rcases he with rfl | rfl <;> decide))
        exact ⟨hk, hq.1, hq.2.keep hk⟩
      refine own_end rfl rfl (own_last H1.out) ⟨o, cap, by rw [HJE.out], by rw [← HJE.out]; exact hbx2, fun hn => by rw [← HJE.out]; exact own_none HO.out hn, by rw [← HJE.out]; exact hC1.out, hC2.out, ?_⟩
      have hz : w.heap.size ≤ w.heap.size + 1 := Nat.le_succ _
      exact (((((HB.out.setCell (p := ⟨w.heap.size, 4, none⟩) (Nat.le_refl _) _).setCell (p := ⟨w.heap.size + 1, 0, none⟩) hz _).setCell (p := ⟨w.heap.size + 1, 1, none⟩) hz _).setCell (p := ⟨w.heap.size + 1, 2, none⟩) hz _).setCell (p := ⟨w.heap.size + 1, 3, none⟩) hz _).setCell (p := ⟨w.heap.size + 1, 4, none⟩) hz _
end Go.Proofs.YtgpanlkcpnlejaaGreat
/- Own copies of all lines. -/
namespace Go.Proofs.YtgpanlkcpnlejaaGreat
open Go.RowKit Go.Maps
set_option maxRecDepth 100000
/-- Behind j rounds: j lines of one's own. -/
structure OaR (w : World) (ls : List Ln) (j : Nat) (x : Value) (wr : World) : Prop where
  ex : ∃ rs' : List RL, wr.ownsRow w.heap.size 39 5 x j (rs'.flatMap rlCs) ∧ rs'.length = j ∧ ∀ (i : Nat) (r : RL) (l : Ln), rs'[i]? = some r → ls[i]? = some l → RlIs (NT w.heap.size wr) wr r l
  below : Below w.heap.size w wr
theorem OaR.step {w : World} {ls : List Ln} {j : Nat} {x v5 : Value} {wr w2 w5 : World} {r : RL} {l : Ln} {rs' : List RL}
    (ho : wr.ownsRow w.heap.size 39 5 x j (rs'.flatMap rlCs)) (hl : rs'.length = j) (hx : ∀ (i : Nat) (r : RL) (l : Ln), rs'[i]? = some r → ls[i]? = some l → RlIs (NT w.heap.size wr) wr r l) (hb : Below w.heap.size w wr)
    (h2 : Below wr.heap.size wr w2) (hr : RlIs (NT wr.heap.size w2) w2 r l) (hlj : ls[j]? = some l) (cs : Array Value) (hg : (w2.alloc (.cells cs 39)).grownBy w5 x.ownBlock)
    (hown : w5.ownsRow w.heap.size 39 5 v5 (j + 1) (rs'.flatMap rlCs ++ rlCs r)) : OaR w ls (j + 1) v5 w5 := by
  have hxt : ∀ g, x.ownBlock = some g → Tg wr 39 g := fun g hg => (own_tag ho hg).1
  have k25 : ∀ q, q < w2.heap.size → x.ownBlock ≠ some q → w5.heap[q]? = w2.heap[q]? := fun q hq hne => (hg.block q (by simp; omega) (fun e => hne e.symm)).trans (Below.heap_alloc _ _ _ hq)
  have kx : ∀ e, e = 3 ∨ e = 101 → ∀ q, Tg w2 e q → w5.heap[q]? = w2.heap[q]? := fun e he q hq => k25 q hq.lt (fun hx' => (hq.ne ((hxt q hx').below h2).2 (by rcases he with rfl | rfl <;> decide)) rfl)
  have hz := hb.size
  refine ⟨⟨rs' ++ [r], by rw [List.flatMap_append]; simpa using hown, by simp [hl], fun i r' l' hr' hl' => ?_⟩, ?_⟩
  · by_cases hi : i < rs'.length
    · rw [List.getElem?_append_left hi] at hr'
      refine (hx i r' l' hr' hl').keep fun e he q hq => ?_
      have h3 := hq.2.below h2
      have h4 := kx e he q h3.2
      exact ⟨h4.trans h3.1, hq.1, h3.2.keep h4⟩
    · have hie : i = j := by
        have := (List.getElem?_eq_some_iff.1 hr').1
        simp at this; omega
      subst hie
      rw [List.getElem?_append_right (by omega), hl, Nat.sub_self] at hr'
      simp only [List.getElem?_cons_zero, Option.some.injEq] at hr'
      obtain rfl : l = l' := Option.some.inj (hlj.symm.trans hl')
      subst hr'
      refine hr.keep fun e he q hq => ?_
      have h4 := kx e he q hq.2
      exact ⟨h4, by omega, hq.2.keep h4⟩
  · exact ((hb.trans (h2.mono hz)).alloc (by have := h2.size; omega) (.cells cs 39)).grown hg (by have := h2.size; simp; omega) (fun k hk => (own_tag ho hk).2)
theorem cell_five_new (w : World) (c0 c1 c2 c3 c4 : Value) (e : TypeId) : ∀ j u, [c0, c1, c2, c3, c4][j]? = some u → (w.alloc (.cells #[c0, c1, c2, c3, c4] e)).cell? ((⟨w.heap.size, 0, none⟩ : Addr).add j) = some u := by
  intro j u hu
  rw [cell_add]
  have h := heap_alloc_new w (.cells #[c0, c1, c2, c3, c4] e)
  simp only [World.cell?, h, Nat.zero_add]
  have : (#[c0, c1, c2, c3, c4] : Array Value).toList[j]? = some u := hu
  rwa [Array.getElem?_toList] at this
/-- What OwnAll leaves. -/
structure OaP (ls : List Ln) (n : Nat) (w : World) (e : Ending) (w' : World) : Prop where
  ex : ∃ A c, e = .returned (.slice A n c) ∧ LnsAt (NT w.heap.size w') w' A n ls ∧ (A = none → n = 0) ∧ n ≤ c ∧ (c : Int) ≤ 9223372036854775807
  below : Below w.heap.size w w'
set_option maxHeartbeats 4000000 in
theorem rOwnAll_any {P : TypeId → Nat → Prop} {w : World} {A : Option Addr} {n c : Nat} {ls : List Ln} (h : LnsAt P w A n ls) (hP : ∀ e b, P e b → b < w.heap.size) (hn : n * 64 ≤ 140737488351232) (hbx : ∀ l ∈ ls, l.bx.length ≤ 2000) :
    Calls Tryz.prog 40 #[.slice A n c] w (OaP ls n w) := by
  obtain ⟨⟨rs, hr, ha⟩, hlen⟩ := h
  have HRL := Lib.hid (show rs.length = n by rw [ha.1, hlen])
  have HR := Lib.hid hr
  have HA : Hid (All2 (RlIs P w) rs ls) := Lib.hid ha
  have HLEN := Lib.hid hlen
  have HP := Lib.hid hP
  have HBX := Lib.hid hbx
  clear hr ha hlen hP hbx
  obtain ⟨i0, hi0, hz0, hz1, hz2⟩ := info_parts info_line
  have HST : Hid (OaR w ls 0 (.slice none 0 0) w) := Lib.hid ⟨⟨[], World.ownsRow_nil _ _ _ _, rfl, fun i r b h => by simp at h⟩, Below.refl _ _⟩
  go_enter Tryz.func40, Tryz.ntmps40
  go_wp2_with fail
  go_loopg [3, 4] n (fun k x i wr => ∃ j : Nat, k + j = n ∧ i = .int .i64 j ∧ OaR w ls j x wr)
  case atStart => exact ⟨0, rfl, rfl, HST.out⟩
  case round =>
    obtain ⟨j, hk, rfl, hw⟩ := hrel
    obtain ⟨⟨rs', ho, hl, hx⟩, hb⟩ := hw
    have HK := Lib.hid hk
    by_cases hj : j < n
    · have dj : decide (j < n) = true := decide_eq_true hj
      have hrj : rs[j]? = some (rs[j]'(by have := HRL.out; omega)) := List.getElem?_eq_getElem (by have := HRL.out; omega)
      obtain ⟨r, hre⟩ : ∃ r, r = rs[j]'(by have := HRL.out; omega) := ⟨_, rfl⟩
      rw [← hre] at hrj
      have hlj : ls[j]? = some (ls[j]'(by have := HLEN.out; omega)) := List.getElem?_eq_getElem (by have := HLEN.out; omega)
      obtain ⟨l, hle⟩ : ∃ l, l = ls[j]'(by have := HLEN.out; omega) := ⟨_, rfl⟩
      rw [← hle] at hlj
      have hrx := HA.out.2 j r l hrj hlj
      obtain ⟨q, qo, rfl, hpq, c0, c1, c2, c3, c4⟩ := reads_ln HR.out j r hrj
      have hql := HP.out _ q hpq
      have e := fun o => hb.cell (p := ⟨q, o, none⟩) hql
      rw [← e] at c0 c1 c2 c3 c4
      obtain ⟨o, cap, rfl, _, _⟩ := row_shape ho
      have HLJ := Lib.hid hlj
      have HRX := Lib.hid hrx
      have HO := Lib.hid ho
      have HL := Lib.hid hl
      have HX := Lib.hid hx
      have HB := Lib.hid hb
      have HJ := Lib.hid hj
      obtain ⟨tx, md, up, dn, bo, bn, bc⟩ := r
      simp only at c0 c1 c2 c3 c4
      have hbn : bn ≤ 2000 := by
        have h1 := hrx.bx.len
        have h2 := HBX.out l (List.mem_of_getElem? hlj)
        simp only at h1; omega
      have HOW := Lib.hid (rOwn_any (w := wr) tx md up dn bo bn bc l.bx (hrx.bx.keep (P' := fun _ b => b < w.heap.size) fun e _ b hb' => ⟨hb.block b (HP.out e b hb'), HP.out e b hb'⟩) (fun _ b hb' => Nat.lt_of_lt_of_le hb' hb.size) hbn)
      have hj47 : j * 64 + 64 ≤ 140737488351232 := by omega
      clear hk hj hre hrj hle hlj hrx hpq hql e ho hl hx hb
      go_wp2_with fail
      refine HOW.out.mono ?_
      rintro e w2 ⟨bo', bc', rfl, hbx', hnil', hle', hcap', hb2⟩
      have hs4 := cell_five_new w2 (.string tx) (.bool md) (.int .i64 up) (.int .i64 dn) (.slice bo' bn bc') 39
      have HSRC := Lib.hid hs4
      have HO4 := Lib.hid (own_kept HO.out (Kept.of (S := fun _ => False) (hb2.alloc hb2.size (.cells #[.string tx, .bool md, .int .i64 up, .int .i64 dn, .slice bo' bn bc'] 39))) (fun _ _ h => h))
      have HZ := Lib.hid (Nat.le_trans HB.out.size hb2.size)
      have HRI : Hid (RlIs (NT wr.heap.size w2) w2 ⟨tx, md, up, dn, bo', bn, bc'⟩ l) := Lib.hid ⟨HRX.out.tx, HRX.out.md, HRX.out.up, HRX.out.dn, hnil', hle', hcap', hbx'⟩
      have HB2 := Lib.hid hb2
      clear hbx' hnil' hle' hcap' hb2 hs4
      go_wp2_with (first
        | (at_builtin; refine wpList_append_own _ rfl _ _ 31 rfl w.heap.size 39 i0 _ 5 64 Tryz.underlying31 hi0 hz0 hz1 hz2 rfl (by decide) _ _ _ rfl HO4.out ⟨w2.heap.size, 0, none⟩ 1 1 [.string tx, .bool md, .int .i64 up, .int .i64 dn, .slice bo' bn bc'] rfl rfl HSRC.out (fun u hu => by simp only [List.mem_cons, List.not_mem_nil, or_false] at hu; rcases hu with rfl | rfl | rfl | rfl | rfl <;> rfl) (by unfold maxLen; omega) (by omega) (by have := HZ.out; simp; omega) ?_
           intro v5 w5 hown5 hgrow5 _
           have hg5 : (w2.alloc (.cells #[.string tx, .bool md, .int .i64 up, .int .i64 dn, .slice bo' bn bc'] 39)).grownBy w5 (Value.slice o j cap).ownBlock := hgrow5
           have HG5 := Lib.hid hg5
           have HO5 := Lib.hid hown5
           clear hgrow5 hg5 hown5))
      have hfin := OaR.step (v5 := v5) (w5 := w5) HO.out HL.out HX.out HB.out HB2.out HRI.out HLJ.out _ HG5.out HO5.out
      have HFIN := Lib.hid hfin
      clear hfin
      go_roundg (gk - 1)
      case measure => have := HK.out; have := HJ.out; omega
      case rel => have := HK.out; have := HJ.out; exact ⟨j + 1, by omega, by first | go_num | (congr 1; rw [IntWalk.wrap64_in _ (by omega)]; omega), HFIN.out⟩
    · have dj : decide (j < n) = false := decide_eq_false hj
      have hje : j = n := by omega
      obtain ⟨o, cap, rfl, hcap1, hcap2⟩ := row_shape ho
      have hat : LnsAt (NT w.heap.size wr) wr o j ls := ⟨⟨_, ReadsP.of_own ho (fun g cs hg hb => ⟨hb, cs, _, hg⟩), by rw [hl, hje, HLEN.out], fun i r l hr hl => hx i r l hr hl⟩, by rw [hje, HLEN.out]⟩
      have HFIN : Hid (OaP ls n w (.returned (.slice o j cap)) wr) := Lib.hid ⟨⟨o, cap, by rw [hje], by rw [← hje]; exact hat, fun hn => by rw [← hje]; exact own_none ho hn, by rw [← hje]; exact hcap1, hcap2⟩, hb⟩
      clear hk hj ho hl hx hb hcap1 hcap2 hje hat
      go_wp2_with fail
      go_ret
      exact HFIN.out
end Go.Proofs.YtgpanlkcpnlejaaGreat
/- The document's store: frames; lose. -/
namespace Go.Proofs.YtgpanlkcpnlejaaGreat
open Go.RowKit Go.Maps
set_option maxRecDepth 100000
/-- F and what is new. -/
def Up (F : Nat → Prop) (w w' : World) : Nat → Prop := fun k => F k ∨ (w.heap.size ≤ k ∧ k < w'.heap.size)
theorem LnsAt.wide {P P' : TypeId → Nat → Prop} {w : World} {A : Option Addr} {n : Nat} {ls : List Ln} (h : LnsAt P w A n ls) (k : ∀ e b, P e b → P' e b) : LnsAt P' w A n ls := h.keep fun e b hb => ⟨rfl, k e b hb⟩
theorem DeIs.mono {F F' : Nat → Prop} {w : World} {e : De} {m : Mc} (h : DeIs F w e m) (k : ∀ i, F i → F' i) : DeIs F' w e m :=
  ⟨h.kd, h.at_.wide fun _ b hb => ⟨k b hb.1, hb.2⟩, h.nil, h.le, h.cap, h.ok⟩
theorem DK.mono {F F' : Nat → Prop} {bx : Nat} {L : List Reg} {N : Nat} {M : Nat → Mc} {w : World} (h : DK F bx L N M w) (k : ∀ i, F i → F' i) (hf : ∀ i, F' i → i < w.heap.size) : DK F' bx L N M w := by
  obtain ⟨no, nc, eo, ec, es, h⟩ := h
  exact ⟨no, nc, eo, ec, es, h.cell, h.row, h.ent, fun i e he => (h.es i e he).mono k, fun g hg => k g (h.nF g hg), fun g hg => k g (h.eF g hg), k _ h.fb, hf, h.asc, h.ok, h.len⟩
/-- What boxes hold stays. -/
def Kb (w w' : World) : Prop := ∀ (e : TypeId) (b : Nat), e = 3 ∨ e = 101 → Tg w e b → w'.heap[b]? = w.heap[b]?
theorem Kb.trans {w w1 w2 : World} (h : Kb w w1) (k : Kb w1 w2) : Kb w w2 := fun e b he hb => (k e b he (hb.keep (h e b he hb))).trans (h e b he hb)
theorem Kb.below {w w' : World} (k : Below w.heap.size w w') : Kb w w' := fun _ b _ hb => k.block b hb.lt
theorem Kb.set {w wr : World} {p : Addr} {t : TypeId} (h : Kb w wr) (hp : Tg wr t p.block) (h1 : t ≠ 3) (h2 : t ≠ 101) (v : Value) : Kb w (wr.setCell p v) := fun e b he hb => by
  have hb' := hb.keep (h e b he hb)
  exact (Below.heap_setCell _ _ _ _ (hb'.ne hp (fun e' => by rcases he with rfl | rfl; exact h1 e'.symm; exact h2 e'.symm))).trans (h e b he hb)
/-- What a deed of the document's leaves. -/
structure DG (F : Nat → Prop) (bx : Nat) (L : List Reg) (N : Nat) (M : Nat → Mc) (w w' : World) : Prop where
  dk : DK (Up F w w') bx L N M w'
  kept : Kept F w w'
  kb : Kb w w'
theorem DG.trans {F : Nat → Prop} {bx : Nat} {L L' : List Reg} {N N' : Nat} {M M' : Nat → Mc} {w w1 w2 : World} (h : DG F bx L N M w w1) (k : DG (Up F w w1) bx L' N' M' w1 w2) (hF : ∀ i, F i → i < w.heap.size) : DG F bx L' N' M' w w2 := by
  have h1 := h.kept.size
  have h2 := k.kept.size
  refine ⟨k.dk.mono (fun i hi => ?_) (fun i hi => ?_), ?_, ?_⟩
  · rcases hi with (hi | hi) | hi
    · exact .inl hi
    · exact .inr ⟨hi.1, by omega⟩
    · exact .inr ⟨by omega, hi.2⟩
  · rcases hi with hi | hi
    · have := hF i hi; omega
    · exact hi.2
  · exact ⟨k.kept.os.trans h.kept.os, k.kept.tape.trans h.kept.tape, k.kept.output.trans h.kept.output, Nat.le_trans h1 h2, fun i hi hs => (k.kept.block i (by omega) (fun hu => by
      rcases hu with hu | hu
      · exact hs hu
      · omega)).trans (h.kept.block i hi hs)⟩
  · exact h.kb.trans k.kb
theorem DG.refl {F : Nat → Prop} {bx : Nat} {L : List Reg} {N : Nat} {M : Nat → Mc} {w : World} (h : DK F bx L N M w) : DG F bx L N M w w := by
  have hf : ∀ i, F i → i < w.heap.size := by obtain ⟨no, nc, eo, ec, es, h⟩ := h; exact h.hf
  exact ⟨h.mono (fun i hi => .inl hi) (fun i hi => by rcases hi with hi | hi; exact hf i hi; omega), Kept.refl _ _, fun _ _ _ _ => rfl⟩
theorem DK.hf {F : Nat → Prop} {bx : Nat} {L : List Reg} {N : Nat} {M : Nat → Mc} {w : World} (h : DK F bx L N M w) : ∀ i, F i → i < w.heap.size := by
  obtain ⟨no, nc, eo, ec, es, h⟩ := h; exact h.hf
theorem DG.below {F : Nat → Prop} {bx : Nat} {L : List Reg} {N : Nat} {M : Nat → Mc} {w w' : World} (h : DK F bx L N M w) (k : Below w.heap.size w w') : DG F bx L N M w w' := by
  have h' := h.fx (Fx.of h.hf k)
  refine ⟨h'.mono (fun i hi => .inl hi) (fun i hi => ?_), Kept.of k, Kb.below k⟩
  rcases hi with hi | hi
  · have := h.hf i hi; have := k.size; omega
  · exact hi.2
theorem LnsAt.keep3 {P P' : TypeId → Nat → Prop} {w w' : World} {A : Option Addr} {n : Nat} {ls : List Ln} (h : LnsAt P w A n ls) (k : ∀ e b, (e = 3 ∨ e = 101 ∨ e = 39) → P e b → w'.heap[b]? = w.heap[b]? ∧ P' e b) : LnsAt P' w' A n ls := by
  obtain ⟨⟨rs, h1, h2⟩, h3⟩ := h
  exact ⟨⟨rs, h1.keep (fun b hb => k _ b (.inr (.inr rfl)) hb), h2.mono fun _ _ h => h.keep (fun e he b hb => k e b (he.elim .inl (fun h => .inr (.inl h))) hb)⟩, h3⟩
/-- The names are set. -/
theorem DK.setNames {F : Nat → Prop} {bx : Nat} {L L' : List Reg} {N : Nat} {M : Nat → Mc} {w wr : World} {no' : Option Addr} {nc' : Nat} (h : DK F bx L N M w) (hb : Below w.heap.size w wr) (ho : wr.ownsRow w.heap.size 84 2 (.slice no' L'.length nc') L'.length (L'.flatMap nmCs)) (ha : Asc L') (hok : ∀ r ∈ L', okNm r.nm = true ∧ r.v < N) (hl : L'.length ≤ 500) :
    DG F bx L' N M w (wr.setCell ⟨bx, 1, none⟩ (.slice no' L'.length nc')) := by
  have h' := h.fx (Fx.of h.hf hb)
  have hf0 := h.hf
  obtain ⟨no, nc, eo, ec, es, h⟩ := h'
  have hz := hb.size
  have hbx : Tg wr 50 bx := ⟨_, _, h.cell⟩
  have hbl := hf0 _ h.fb
  have hk : ∀ k, k ≠ bx → (wr.setCell ⟨bx, 1, none⟩ (.slice no' L'.length nc')).heap[k]? = wr.heap[k]? := fun k hk => Below.heap_setCell _ _ _ _ hk
  have hsz : (wr.setCell ⟨bx, 1, none⟩ (.slice no' L'.length nc')).heap.size = wr.heap.size := by simp [World.setCell]
  have hx : ∀ {e : TypeId} {g : Nat}, Tg wr e g → e ≠ 50 → g ≠ bx := fun hg hne => hg.ne hbx hne
  have own2 : ∀ {base size n : Nat} {e : TypeId} {v : Value} {xs : List Value}, e ≠ 50 → wr.ownsRow base e size v n xs → (wr.setCell ⟨bx, 1, none⟩ (.slice no' L'.length nc')).ownsRow 0 e size v n xs := by
    intro base size n e v xs hne hr
    refine ⟨hr.1, ?_⟩
    rcases hr.2 with hn | ⟨g, cap, cur, hv, hb, hg, rest⟩
    · exact .inl hn
    · exact .inr ⟨g, cap, cur, hv, Nat.zero_le _, (hk g (hx ⟨_, _, hg⟩ hne)).trans hg, rest⟩
  refine ⟨⟨no', nc', eo, ec, es, ?_, own2 (by decide) ho, own2 (by decide) h.ent, fun i e he => ?_, fun g hg => .inr ⟨(own_tag ho hg).2, by rw [hsz]; exact (own_tag ho hg).1.lt⟩, fun g hg => .inl (h.eF g hg), .inl h.fb, fun i hi => ?_, ha, hok, hl⟩, ?_, (Kb.below hb).set (p := ⟨bx, 1, none⟩) hbx (by decide) (by decide) _⟩
  · simp only [World.setCell, Array.getElem?_modify, h.cell]
    simp
  · have hd := h.es i e he
    refine ⟨hd.kd, hd.at_.keep3 fun t b ht hb' => ?_, hd.nil, hd.le, hd.cap, hd.ok⟩
    have hne : b ≠ bx := hx hb'.2 (by rcases ht with rfl | rfl | rfl <;> decide)
    exact ⟨hk b hne, .inl hb'.1, hb'.2.keep (hk b hne)⟩
  · rw [hsz]
    rcases hi with hi | hi
    · have := hf0 i hi; omega
    · rw [hsz] at hi; exact hi.2
  · exact (Kept.of hb).trans ((Kept.refl F wr).setCell (p := ⟨bx, 1, none⟩) h.fb _)
theorem info_name : (Tryz.prog.info? 84).map (fun i => (i.zero, i.size, i.bytes)) = some (some (.agg #[.string ⟨#[]⟩, .int .i64 0]), 2, 24) := by kernel_rfl
theorem del_take (L : List Reg) (nm : List UInt8) (j : Nat) (h : j < L.length) : delS (L.take (j + 1)) nm = delS (L.take j) nm ++ (if (L[j]).nm = nm then [] else [L[j]]) := by
  unfold delS
  rw [List.take_succ_eq_append_getElem h, List.filter_append]
  by_cases e : (L[j]).nm = nm
  · simp [e]
  · simp [e]
theorem del_asc {L : List Reg} (h : Asc L) (nm : List UInt8) : Asc (delS L nm) := List.Pairwise.filter _ h
theorem del_len (L : List Reg) (nm : List UInt8) : (delS L nm).length ≤ L.length := List.length_filter_le _ _
/-- Behind j rounds of lose. -/
def LoR (w : World) (L : List Reg) (nm : List UInt8) (k : Nat) (x i : Value) (wr : World) : Prop :=
  ∃ j : Nat, k + j = L.length ∧ i = .int .i64 j ∧ wr.ownsRow w.heap.size 84 2 x (delS (L.take j) nm).length ((delS (L.take j) nm).flatMap nmCs) ∧ Below w.heap.size w wr
theorem cell_two_new (w : World) (c0 c1 : Value) (e : TypeId) : ∀ j u, [c0, c1][j]? = some u → (w.alloc (.cells #[c0, c1] e)).cell? ((⟨w.heap.size, 0, none⟩ : Addr).add j) = some u := by
  intro j u hu
  rw [cell_add]
  have h := heap_alloc_new w (.cells #[c0, c1] e)
  simp only [World.cell?, h, Nat.zero_add]
  have : (#[c0, c1] : Array Value).toList[j]? = some u := hu
  rwa [Array.getElem?_toList] at this
set_option maxHeartbeats 4000000 in
theorem rlose_any {F : Nat → Prop} {bx : Nat} {L : List Reg} {N : Nat} {M : Nat → Mc} {w : World} (h : DK F bx L N M w) (s : ByteArray) : Calls Tryz.prog 57 #[BP bx, .string s] w fun e w' => e = .returned (.tuple #[]) ∧ DG F bx (delS L s.data.toList) N M w w' := by
  have HD := Lib.hid h
  obtain ⟨no, nc, eo, ec, es, h⟩ := h
  have hl := h.len
  have HF := Lib.hid (HD.out.hf _ h.fb)
  have HA := Lib.hid (del_asc h.asc s.data.toList)
  have HOK := Lib.hid (fun r (hr : r ∈ delS L s.data.toList) => h.ok r (mem_del L _ hr))
  have HLE := Lib.hid (Nat.le_trans (del_len L s.data.toList) h.len)
  have HB := Lib.hid h
  obtain ⟨i0, hi0, hz0, hz1, hz2⟩ := info_parts info_name
  have HST : Hid (LoR w L s.data.toList L.length (.slice none 0 0) (.int .i64 0) w) := Lib.hid ⟨0, rfl, rfl, World.ownsRow_nil _ _ _ _, Below.refl _ _⟩
  clear h
  go_enter Tryz.func57, Tryz.ntmps57
  go_wp2_with fail
  go_loopg [4, 5] L.length (fun k x i wr => LoR w L s.data.toList k x i wr)
  case atStart => exact HST.out
  case round =>
    obtain ⟨j, hk, rfl, ho, hb⟩ := hrel
    have hfx := Fx.of HD.out.hf hb
    have HK := Lib.hid hk
    have hcb : wr.cell? ⟨bx, 1, none⟩ = some (.slice no L.length nc) := (hb.cell (p := ⟨bx, 1, none⟩) HF.out).trans HB.out.c.2.1
    have hcf : wr.frozen? ⟨bx, 1, none⟩ = false := by
      rw [hb.frozen (p := ⟨bx, 1, none⟩) HF.out]
      simp [World.frozen?, HB.out.cell]
    by_cases hj : j < L.length
    · have dj : decide (j < L.length) = true := decide_eq_true hj
      obtain ⟨g, rfl, c0, c1⟩ := HB.out.nm j hj
      have hgl : g < w.heap.size := HD.out.hf g (HB.out.nF g rfl)
      rw [← hb.cell (p := ⟨g, j * 2, none⟩) hgl] at c0
      rw [← hb.cell (p := ⟨g, j * 2 + 1, none⟩) hgl] at c1
      have heq := be_bytes (L[j]).nm s
      have hdt := del_take L s.data.toList j hj
      have HJ := Lib.hid hj
      have hj5 : j < 1000 := by omega
      have hdl : (delS (L.take j) s.data.toList).length ≤ 500 := by
        have := del_len (L.take j) s.data.toList
        rw [List.length_take] at this; omega
      obtain ⟨o, cap, rfl, _, _⟩ := row_shape ho
      generalize hrg : L[j] = r at c0 c1 heq hdt
      obtain ⟨nm, v⟩ := r
      simp only at c0 c1 heq hdt
      obtain ⟨x, hx⟩ : ∃ x : ByteArray, x = ⟨nm.toArray⟩ := ⟨_, rfl⟩
      rw [← hx] at c0 heq
      have HDT := Lib.hid hdt
      have HO := Lib.hid ho
      have HBW := Lib.hid hb
      have HXN := Lib.hid hx
      generalize hdn : delS (L.take j) s.data.toList = D at HDT HO hdl ⊢
      clear hk hj ho hb hfx hdt hrg hx hgl
      by_cases he : nm = s.data.toList
      · have hd : (nm == s.data.toList) = true := by simpa using he
        rw [hd] at heq
        have HE := Lib.hid he
        clear he hd
        go_wp2_with fail
        go_roundg (gk - 1)
        case measure => have := HK.out; have := HJ.out; omega
        case rel =>
          have := HK.out
          have := HJ.out
          have e1 := HDT.out
          rw [if_pos HE.out, List.append_nil] at e1
          exact ⟨j + 1, by omega, by first | go_num | (congr 1; rw [IntWalk.wrap64_in _ (by omega)]; omega), by rw [e1]; exact HO.out, HBW.out⟩
      · have hd : (nm == s.data.toList) = false := by simpa using he
        rw [hd] at heq
        have HE := Lib.hid he
        have hs4 := cell_two_new wr (.string x) (.int .i64 v) 84
        have HSRC := Lib.hid hs4
        have HO4 := Lib.hid (own_kept HO.out (Kept.of (S := fun _ => False) ((Below.refl wr.heap.size wr).alloc (Nat.le_refl _) (.cells #[.string x, .int .i64 v] 84))) (fun _ _ h => h))
        have HZ := Lib.hid HBW.out.size
        clear he hd hs4
        go_wp2_with (first
          | (at_builtin; refine wpList_append_own _ rfl _ _ 47 rfl w.heap.size 84 i0 _ 2 24 Tryz.underlying47 hi0 hz0 hz1 hz2 rfl (by decide) _ _ _ rfl HO4.out ⟨wr.heap.size, 0, none⟩ 1 1 [.string x, .int .i64 v] rfl rfl HSRC.out (fun u hu => by simp only [List.mem_cons, List.not_mem_nil, or_false] at hu; rcases hu with rfl | rfl <;> rfl) (by unfold maxLen; omega) (by omega) (by have := HZ.out; simp; omega) ?_
             intro v5 w5 hown5 hgrow5 _
             have hg5 : (wr.alloc (.cells #[.string x, .int .i64 v] 84)).grownBy w5 (Value.slice o D.length cap).ownBlock := hgrow5
             have HG5 := Lib.hid hg5
             have HO5 := Lib.hid hown5
             clear hgrow5 hg5 hown5))
        go_roundg (gk - 1)
        case measure => have := HK.out; have := HJ.out; omega
        case rel =>
          have := HK.out
          have := HJ.out
          have e1 := HDT.out
          rw [if_neg HE.out] at e1
          have hz := HZ.out
          refine ⟨j + 1, by omega, by first | go_num | (congr 1; rw [IntWalk.wrap64_in _ (by omega)]; omega), ?_, (HBW.out.alloc hz (.cells #[.string x, .int .i64 v] 84)).grown HG5.out (by simp; omega) (fun k hk => (own_tag HO.out hk).2)⟩
          rw [e1, List.length_append, List.flatMap_append]
          have h5 := HO5.out
          rw [HXN.out] at h5
          simpa [nmCs] using h5
    · have dj : decide (j < L.length) = false := decide_eq_false hj
      have hje : L.take j = L := List.take_of_length_le (by omega)
      rw [hje] at ho
      obtain ⟨o, cap, rfl, _, _⟩ := row_shape ho
      have HG := Lib.hid (HD.out.setNames hb ho HA.out HOK.out HLE.out)
      clear hk hj ho hb hfx hje
      go_wp2_with fail
      refine bodyPost_end (results_none rfl _ _ _) rfl ?_
      exact ⟨rfl, HG.out⟩
end Go.Proofs.YtgpanlkcpnlejaaGreat
/- The document's store: lead. -/
namespace Go.Proofs.YtgpanlkcpnlejaaGreat
open Go.RowKit Go.Maps
set_option maxRecDepth 100000
def ixS : List Reg → List UInt8 → Nat
  | [], _ => 0
  | x :: t, nm => if Op.bytesLess x.nm nm = true then ixS t nm + 1 else 0
theorem ix_le : ∀ (L : List Reg) (nm : List UInt8), ixS L nm ≤ L.length
  | [], _ => Nat.le_refl _
  | x :: t, nm => by unfold ixS; split; have := ix_le t nm; simp; omega; simp
theorem ix_lt : ∀ (L : List Reg) (nm : List UInt8) (i : Nat) (h : i < ixS L nm) (h2 : i < L.length), Op.bytesLess (L[i]).nm nm = true
  | [], _, i, h, h2 => by simp at h2
  | x :: t, nm, i, h, h2 => by
    unfold ixS at h
    split at h
    · rename_i hx
      cases i with
      | zero => simpa using hx
      | succ i => simpa using ix_lt t nm i (by omega) (by simpa using h2)
    · omega
theorem ix_not : ∀ (L : List Reg) (nm : List UInt8) (h : ixS L nm < L.length), Op.bytesLess (L[ixS L nm]).nm nm = false
  | [], _, h => by simp at h
  | x :: t, nm, h => by
    by_cases hx : Op.bytesLess x.nm nm = true
    · have e : ixS (x :: t) nm = ixS t nm + 1 := by unfold ixS; rw [if_pos hx]; cases t <;> rfl
      have h2 : ixS t nm < t.length := by rw [e] at h; simpa using h
      have := ix_not t nm h2
      simp only [e, List.getElem_cons_succ]; exact this
    · have e : ixS (x :: t) nm = 0 := by unfold ixS; rw [if_neg hx]
      simp only [e, List.getElem_cons_zero]; simpa using hx
theorem ix_cons (x : Reg) (t : List Reg) (nm : List UInt8) : ixS (x :: t) nm = if Op.bytesLess x.nm nm = true then ixS t nm + 1 else 0 := rfl
theorem put_ix_new : ∀ (L : List Reg) (r : Reg), Asc L → hasS L r.nm = false → putS L r = L.take (ixS L r.nm) ++ r :: L.drop (ixS L r.nm)
  | [], r, _, _ => rfl
  | x :: t, r, h, hh => by
    obtain ⟨h1, h2⟩ := List.pairwise_cons.1 h
    have hne : x.nm ≠ r.nm := by intro e; simp [hasS, e] at hh
    have ht : hasS t r.nm = false := by simpa [hasS, hne] using hh
    unfold putS
    rw [if_neg hne, ix_cons]
    split
    · rw [put_ix_new t r h2 ht]; simp
    · simp
theorem wpList_append_if {w : World} {ops : Array Oper} {rest : List Oper} {o : Oper} {a : Act} {Q : Exit → Act → World → Prop} (hgd : o.guard = none) (s x : Operand) (t : TypeId)
    (ho : o.op = .call { callee := .builtin .append, args := #[s, x], argTypes := #[t, t] })
    (base : Nat) (e : TypeId) (i : TypeInfo) (z : Value) (size bytes : Nat) (ht : Tryz.prog.underlying t = some (.slice e)) (hi : Tryz.prog.info? e = some i) (hz : i.zero = some z)
    (hsize : i.size = size) (hby : i.bytes = bytes) (hzs : z.cells.size = size) (hsz : 0 < size)
    (v : Value) (n : Nat) (xs : List Value) (hs : a.eval s = v) (hown : w.ownsRow base e size v n xs)
    (cc dd : Nat) (ad1 ad2 : Addr) (m c : Nat) (news : List Value) (hx : a.eval x = .slice (if cc = dd then some ad1 else some ad2) m c) (hl : news.length = m * size) (hnews : ∀ j u, news[j]? = some u → w.cell? ((if cc = dd then ad1 else ad2).add j) = some u) (h1 : ∀ u ∈ news, u.oneCell' = true)
    (h63 : n + m ≤ maxLen) (hbytes : (n + m) * bytes ≤ 140737488355328) (hbase : base ≤ w.heap.size)
    (h : ∀ v' w', w'.ownsRow base e size v' (n + m) (xs ++ news) → w.grownBy w' v.ownBlock → wpList Tryz.prog ops Q rest (a.put o.dst v') w') : wpList Tryz.prog ops Q (o :: rest) a w := by
  have e0 : (if cc = dd then some ad1 else some ad2) = some (if cc = dd then ad1 else ad2) := by split <;> rfl
  rw [e0] at hx
  exact wpList_append_own w hgd s x t ho base e i z size bytes ht hi hz hsize hby hzs hsz v n xs hs hown _ m c news hx hl hnews h1 h63 hbytes hbase (fun v' w' h1 h2 _ => h v' w' h1 h2)
theorem bl_bytes (l : List UInt8) (s : ByteArray) (h : Op.bytesLess l s.data.toList = true) : Op.bytesLess (⟨l.toArray⟩ : ByteArray).toList s.toList = true := by
  rw [Lib.toList_data, Lib.toList_data]; exact h
theorem bn_bytes (l : List UInt8) (s : ByteArray) (h : Op.bytesLess l s.data.toList = false) : Op.bytesLess (⟨l.toArray⟩ : ByteArray).toList s.toList = false := by
  rw [Lib.toList_data, Lib.toList_data]; exact h
theorem put_gt : ∀ (L : List Reg) (r : Reg), Asc L → hasS (delS L r.nm) r.nm = false
  | L, r, _ => by
    unfold hasS delS
    rw [List.any_eq_false]
    intro x hx
    have := (List.mem_filter.1 hx).2
    simpa using this
theorem put_del : ∀ (L : List Reg) (r : Reg), Asc L → putS (delS L r.nm) r = putS L r
  | [], r, _ => rfl
  | x :: t, r, h => by
    obtain ⟨h1, h2⟩ := List.pairwise_cons.1 h
    have ih := put_del t r h2
    by_cases e : x.nm = r.nm
    · have hd : delS (x :: t) r.nm = delS t r.nm := by unfold delS; rw [List.filter_cons_of_neg (by simp [e])]
      have hdt : delS t r.nm = t := by
        unfold delS
        rw [List.filter_eq_self]
        intro y hy
        have := blt_ne (h1 y hy)
        rw [e] at this
        simpa using Ne.symm this
      rw [hd, hdt]
      have hlt : ∀ y ∈ t, Op.bytesLess r.nm y.nm = true := fun y hy => by rw [← e]; exact h1 y hy
      have hp : putS t r = r :: t := by
        cases t with
        | nil => rfl
        | cons y t' =>
          have hy := hlt y (by simp)
          have hne := blt_ne hy
          have hno : Op.bytesLess y.nm r.nm = false := by
            cases hb : Op.bytesLess y.nm r.nm with
            | false => rfl
            | true => have := blt_trans _ _ _ hy hb; rw [blt_irrefl] at this; cases this
          unfold putS
          rw [if_neg (Ne.symm hne), if_neg (by rw [hno]; decide)]
      rw [hp]
      unfold putS
      rw [if_pos e]
    · have hd : delS (x :: t) r.nm = x :: delS t r.nm := by unfold delS; rw [List.filter_cons_of_pos (by simp [e])]
      rw [hd]
      unfold putS
      rw [if_neg e, if_neg e]
      by_cases hb : Op.bytesLess x.nm r.nm = true
      · rw [if_pos hb, if_pos hb, ih]
      · rw [if_neg hb, if_neg hb]
        have hlt := blt_total _ _ e (by simpa using hb)
        have hdt : delS t r.nm = t := by
          unfold delS
          rw [List.filter_eq_self]
          intro y hy
          have := blt_ne (blt_trans _ _ _ hlt (h1 y hy))
          simpa using Ne.symm this
        rw [hdt]
def LdR (L : List Reg) (nm : List UInt8) (w : World) (k : Nat) (i : Value) (wr : World) : Prop :=
  ∃ j : Nat, k + j = ixS L nm ∧ i = .int .i64 j ∧ wr = w
theorem src_if {w : World} {g nc j : Nat} {L : List Reg} (hjl : j ≤ L.length) (hlc : L.length ≤ nc) (h : ∀ i u, ((L.drop j).flatMap nmCs)[i]? = some u → w.cell? ⟨g, j * 2 + i, none⟩ = some u) :
    ∀ i u, ((L.drop j).flatMap nmCs)[i]? = some u → w.cell? ((if nc = j then (⟨g, 0, none⟩ : Addr) else ⟨g, j * 2, none⟩).add i) = some u := by
  intro i u hu
  by_cases hc : nc = j
  · have : ((L.drop j).flatMap nmCs).length = 0 := by rw [fm_len nm_len, List.length_drop]; omega
    rw [List.getElem?_eq_none (by omega)] at hu; cases hu
  · rw [if_neg hc, cell_add]; exact h i u hu
theorem ld_fin {F : Nat → Prop} {bx : Nat} {L L1 : List Reg} {N : Nat} {M : Nat → Mc} {w wr w4 : World} {o3 : Option Addr} {cap3 : Nat} (h : DK F bx L N M w) (hg : DG F bx L1 N M w wr) (hb : Below wr.heap.size wr w4) (s : ByteArray) (at_ : Nat) (hn : okNm s.data.toList = true) (hat : at_ < N) (j : Nat) (hj : j ≤ L1.length)
    (hp : putS L ⟨s.data.toList, at_⟩ = L1.take j ++ ⟨s.data.toList, at_⟩ :: L1.drop j) (hlen : (putS L ⟨s.data.toList, at_⟩).length ≤ 500)
    (ho : w4.ownsRow wr.heap.size 84 2 (.slice o3 (0 + j + 1 + (L1.length - j)) cap3) (0 + j + 1 + (L1.length - j)) ([] ++ (L1.take j).flatMap nmCs ++ [.string s, .int .i64 at_] ++ (L1.drop j).flatMap nmCs)) :
    DG F bx (putS L ⟨s.data.toList, at_⟩) N M w (w4.setCell ⟨bx, 1, none⟩ (.slice o3 (j + 1 + (L1.length - j)) cap3)) := by
  have e : (putS L ⟨s.data.toList, at_⟩).length = j + 1 + (L1.length - j) := by rw [hp]; simp; omega
  have ho' : w4.ownsRow wr.heap.size 84 2 (.slice o3 (putS L ⟨s.data.toList, at_⟩).length cap3) (putS L ⟨s.data.toList, at_⟩).length ((putS L ⟨s.data.toList, at_⟩).flatMap nmCs) := by
    rw [e, hp, List.flatMap_append, List.flatMap_cons]
    simpa [nmCs] using ho
  have hok : ∀ r ∈ putS L ⟨s.data.toList, at_⟩, okNm r.nm = true ∧ r.v < N := by
    intro r hr
    rcases mem_put L _ r hr with rfl | hr
    · exact ⟨hn, hat⟩
    · obtain ⟨_, _, _, _, _, h⟩ := h; exact h.ok r hr
  have hasc : Asc (putS L ⟨s.data.toList, at_⟩) := by obtain ⟨_, _, _, _, _, h⟩ := h; exact asc_put L _ h.asc
  have := hg.trans (hg.dk.setNames hb ho' hasc hok hlen) h.hf
  rw [← e]; exact this
set_option maxHeartbeats 4000000 in
theorem rlead_any {F : Nat → Prop} {bx : Nat} {L : List Reg} {N : Nat} {M : Nat → Mc} {w : World} (h : DK F bx L N M w) (s : ByteArray) (at_ : Nat) (hn : okNm s.data.toList = true) (hat : at_ < N) (hlen : (putS L ⟨s.data.toList, at_⟩).length ≤ 500) :
    Calls Tryz.prog 59 #[BP bx, .string s, .int .i64 at_] w fun e w' => e = .returned (.tuple #[]) ∧ DG F bx (putS L ⟨s.data.toList, at_⟩) N M w w' := by
  have HLO := Lib.hid (rlose_any h s)
  have HH := Lib.hid h
  clear h
  go_enter Tryz.func59, Tryz.ntmps59
  go_wp2_with fail
  refine HLO.out.mono ?_
  rintro e w1 ⟨rfl, hg⟩
  have HG := Lib.hid hg
  obtain ⟨no, nc, eo, ec, es, h1⟩ := hg.dk
  have HB := Lib.hid h1
  have hl := h1.len
  obtain ⟨_, c1, _⟩ := h1.c
  clear hg h1
  go_wp2_with fail
  obtain ⟨L1, hL1⟩ : ∃ L1, L1 = delS L s.data.toList := ⟨_, rfl⟩
  have HPD := Lib.hid (put_del L ⟨s.data.toList, at_⟩ (by obtain ⟨_, _, _, _, _, h⟩ := HH.out; exact h.asc))
  have HNO := Lib.hid (put_gt L ⟨s.data.toList, at_⟩ (by obtain ⟨_, _, _, _, _, h⟩ := HH.out; exact h.asc))
  simp only at HPD HNO
  rw [← hL1] at HB HG c1 hl HPD HNO
  clear hL1
  go_loopg [6] (ixS L1 s.data.toList) (fun k i wr => LdR L1 s.data.toList w1 k i wr)
  case atStart => exact ⟨0, rfl, rfl, rfl⟩
  case round =>
    obtain ⟨j, hk, rfl, hw⟩ := hrel
    subst hw
    have hjl := ix_le L1 s.data.toList
    by_cases hj : j < ixS L1 s.data.toList
    · have hjL : j < L1.length := by omega
      have d1 : decide (j < L1.length) = true := decide_eq_true hjL
      obtain ⟨g, rfl, c3, c4⟩ := HB.out.nm j hjL
      have hlt := bl_bytes (L1[j]).nm s (ix_lt L1 s.data.toList j hj hjL)
      obtain ⟨x, hx⟩ : ∃ x : ByteArray, x = ⟨(L1[j]).nm.toArray⟩ := ⟨_, rfl⟩
      rw [← hx] at c3 hlt
      have HK := Lib.hid hk
      have HJ := Lib.hid hj
      have hj5 : j < 1000 := by omega
      clear hk hj hx c4 hjl
      go_wp2_with fail
      go_roundg (gk - 1)
      case measure => have := HK.out; have := HJ.out; omega
      case rel => have := HK.out; have := HJ.out; exact ⟨j + 1, by omega, by go_num, rfl⟩
    · have hje : j = ixS L1 s.data.toList := by omega
      have HJ := Lib.hid hje
      have hjle : j ≤ L1.length := by omega
      obtain ⟨i0, hi0, hz0, hz1, hz2⟩ := info_parts info_name
      have hbx : bx < wr.heap.size := HG.out.dk.hf _ HB.out.fb
      obtain ⟨o, cap, hv, hlc, hcap⟩ := row_shape HB.out.row
      injection hv with hv1 hv2 hv3
      clear hv1 hv2
      subst hv3
      have HBX := Lib.hid hbx
      have HJLE := Lib.hid hjle
      have HPUT : Hid (putS L ⟨s.data.toList, at_⟩ = L1.take j ++ ⟨s.data.toList, at_⟩ :: L1.drop j) := Lib.hid (by
        rw [← HPD.out, put_ix_new L1 ⟨s.data.toList, at_⟩ HB.out.asc HNO.out, hje])
      have HLC := Lib.hid hlc
      have HBC := Lib.hid HB.out.cell
      have HROW0 := Lib.hid (World.ownsRow_made (base := wr.heap.size) (e := 84) (size := 2) wr #[] 0 (Nat.le_refl _) (by unfold maxLen; omega) rfl)
      rcases hno : no with _ | a
      · have hL : L1 = [] ∧ nc = 0 := by
          subst hno
          rcases HB.out.row.2 with ⟨hv, hn0⟩ | ⟨g, cap', cur, hv, _⟩
          · injection hv with _ _ h3
            exact ⟨List.eq_nil_of_length_eq_zero hn0, h3⟩
          · injection hv with h1
            cases h1
        obtain ⟨rfl, rfl⟩ := hL
        subst hno
        have hj0 : j = 0 := by simpa using hjle
        subst hj0
        have d1 : decide (0 < ([] : List Reg).length) = false := rfl
        have h2w := two_alloc wr #[] #[.string s, .int .i64 at_] 84 84
        have HO1A := Lib.hid (HROW0.out.alloc (.cells #[.string s, .int .i64 at_] 84))
        have hs2 := cell_two_new (wr.alloc (.cells #[] 84)) (.string s) (.int .i64 at_) 84
        rw [show (wr.alloc (.cells #[] 84)).heap.size = wr.heap.size + 1 by simp] at hs2
        have HSRC2 := Lib.hid hs2
        have HB2 := Lib.hid h2w.2.2
        have hcell1 : (wr.alloc (.cells #[] 84)).cell? ⟨bx, 1, none⟩ = some (.slice none 0 0) := (World.cell?_alloc_lt wr _ ⟨bx, 1, none⟩ hbx).trans HB.out.c.2.1
        clear hk hj hjl hje h2w hs2 hlc hcap
        go_wp2_with (first
          | (at_builtin; refine wpList_append_own_none rfl _ _ 47 rfl wr.heap.size 84 i0 2 Tryz.underlying47 hi0 _ _ _ rfl HROW0.out rfl ?_)
          | (at_builtin; refine wpList_append_own _ rfl _ _ 47 rfl wr.heap.size 84 i0 _ 2 24 Tryz.underlying47 hi0 hz0 hz1 hz2 rfl (by decide) _ _ _ rfl HO1A.out ⟨wr.heap.size + 1, 0, none⟩ 1 1 [.string s, .int .i64 at_] rfl rfl HSRC2.out (fun u hu => by simp only [List.mem_cons, List.not_mem_nil, or_false] at hu; rcases hu with rfl | rfl <;> rfl) (by unfold maxLen; omega) (by omega) (by simp; omega) ?_
             intro v2 w3 hown2 hgrow2 _
             obtain ⟨o3, cap3, rfl, _, _⟩ := row_shape hown2
             have hg2 : ((wr.alloc (.cells #[] 84)).alloc (.cells #[.string s, .int .i64 at_] 84)).grownBy w3 (some wr.heap.size) := hgrow2
             have hb3 := HB2.out.grown hg2 HB2.out.size (fun k e => by cases e; exact Nat.le_refl _)
             have HB4 := Lib.hid hb3
             have HO3 := Lib.hid hown2
             have hf4 : w3.frozen? ⟨bx, 1, none⟩ = false := by
               rw [hb3.frozen (p := ⟨bx, 1, none⟩) HBX.out]
               simp [World.frozen?, HBC.out]
             have hc4 : w3.cell? ⟨bx, 1, none⟩ = some (.slice none 0 0) := (hb3.cell (p := ⟨bx, 1, none⟩) HBX.out).trans HB.out.c.2.1
             have hbx4 : bx < w3.heap.size := Nat.lt_of_lt_of_le HBX.out hb3.size
             clear hgrow2 hg2 hown2 hb3)
          | (at_builtin; refine wpList_append_own_none rfl _ _ 47 rfl wr.heap.size 84 i0 2 Tryz.underlying47 hi0 _ _ _ rfl HO3.out rfl ?_))
        all_goals
          refine bodyPost_end (results_none rfl _ _ _) rfl ?_
          exact ⟨rfl, ld_fin HH.out HG.out HB4.out s at_ hn hat 0 HJLE.out HPUT.out hlen (by simpa using HO3.out)⟩
      · have hhead : ∃ g, a = ⟨g, 0, none⟩ ∧ g < wr.heap.size := by
          subst hno
          rcases HB.out.row.2 with ⟨hv, _⟩ | ⟨g, cap', cur, hv, _, hh, _⟩
          · cases hv
          · injection hv with h1
            injection h1 with h1
            exact ⟨g, h1, lt_of_block hh⟩
        obtain ⟨g, rfl, hgl⟩ := hhead
        subst hno
        have h0 := List.take_append_drop j L1
        have HNL : Hid (((L1.take j).flatMap nmCs).length = j * 2) := Lib.hid (by rw [fm_len nm_len, List.length_take, Nat.min_eq_left hjle])
        have HND : Hid (((L1.drop j).flatMap nmCs).length = (L1.length - j) * 2) := Lib.hid (by rw [fm_len nm_len, List.length_drop])
        have HS1 : Hid (∀ i u, ((L1.take j).flatMap nmCs)[i]? = some u → wr.cell? ⟨g, i, none⟩ = some u) := Lib.hid (fun i u hu => (own_cell HB.out.row i u (by
          rw [← h0, List.flatMap_append, List.getElem?_append_left (List.getElem?_eq_some_iff.1 hu).1]; exact hu)).1)
        have HS3 : Hid (∀ i u, ((L1.drop j).flatMap nmCs)[i]? = some u → wr.cell? ⟨g, j * 2 + i, none⟩ = some u) := Lib.hid (fun i u hu => (own_cell HB.out.row (j * 2 + i) u (by
          rw [← h0, List.flatMap_append, List.getElem?_append_right (by rw [HNL.out]; omega), HNL.out, show j * 2 + i - j * 2 = i by omega]; exact hu)).1)
        have HSRC1 : Hid (∀ i u, ((L1.take j).flatMap nmCs)[i]? = some u → (wr.alloc (.cells #[] 84)).cell? ((⟨g, 0, none⟩ : Addr).add i) = some u) := Lib.hid (fun i u hu => by
          rw [cell_add, Nat.zero_add]
          exact (World.cell?_alloc_lt wr _ ⟨g, i, none⟩ hgl).trans (HS1.out i u hu))
        clear h0
        have hd : decide (j < L1.length) = true ∨ decide (j < L1.length) = false := by cases decide (j < L1.length) <;> simp
        have HGL := Lib.hid hgl
        by_cases hjL : j < L1.length
        · have d1 : decide (j < L1.length) = true := decide_eq_true hjL
          obtain ⟨g', hg', c3, c4⟩ := HB.out.nm j hjL
          injection hg' with hg'
          injection hg' with hg'
          subst hg'
          have hlt := bn_bytes (L1[j]).nm s (by simp only [hje]; exact ix_not L1 s.data.toList (by omega))
          obtain ⟨x, hx⟩ : ∃ x : ByteArray, x = ⟨(L1[j]).nm.toArray⟩ := ⟨_, rfl⟩
          rw [← hx] at c3 hlt
          have hj5 : j < 1000 := by omega
          clear hk hj hx c4 hjl hje hd
          go_wp2_with (first
            | (at_builtin; refine wpList_append_own _ rfl _ _ 47 rfl wr.heap.size 84 i0 _ 2 24 Tryz.underlying47 hi0 hz0 hz1 hz2 rfl (by decide) _ _ _ rfl HROW0.out ⟨g, 0, none⟩ j nc ((L1.take j).flatMap nmCs) rfl HNL.out HSRC1.out (fun u hu => fm_one nm_one (L1.take j) u hu) (by unfold maxLen; omega) (by omega) (by simp) ?_
               intro v1 w2 hown1 hgrow1 _
               have hg1 : (wr.alloc (.cells #[] 84)).grownBy w2 (some wr.heap.size) := hgrow1
               have hb2 := ((Below.refl wr.heap.size wr).alloc (Nat.le_refl _) (.cells #[] 84)).grown hg1 (by simp) (fun k e => by cases e; exact Nat.le_refl _)
               have HB2 := Lib.hid hb2
               have HO1 := Lib.hid hown1
               have hcell2 : w2.cell? ⟨bx, 1, none⟩ = some (.slice (some ⟨g, 0, none⟩) L1.length nc) := (hb2.cell (p := ⟨bx, 1, none⟩) HBX.out).trans HB.out.c.2.1
               have hbx2 : bx < w2.heap.size := Nat.lt_of_lt_of_le HBX.out hb2.size
               have hs2 := cell_two_new w2 (.string s) (.int .i64 at_) 84
               have HSRC2 := Lib.hid hs2
               have HO1A := Lib.hid (hown1.alloc (.cells #[.string s, .int .i64 at_] 84))
               clear hgrow1 hg1 hown1 hb2 hs2)
            | (at_builtin; refine wpList_append_own _ rfl _ _ 47 rfl wr.heap.size 84 i0 _ 2 24 Tryz.underlying47 hi0 hz0 hz1 hz2 rfl (by decide) _ _ _ rfl HO1A.out ⟨w2.heap.size, 0, none⟩ 1 1 [.string s, .int .i64 at_] rfl rfl HSRC2.out (fun u hu => by simp only [List.mem_cons, List.not_mem_nil, or_false] at hu; rcases hu with rfl | rfl <;> rfl) (by unfold maxLen; omega) (by omega) (by have := HB2.out.size; simp; omega) ?_
               intro v2 w3 hown2 hgrow2 _
               have hg2 : (w2.alloc (.cells #[.string s, .int .i64 at_] 84)).grownBy w3 v1.ownBlock := hgrow2
               have hb3 := (HB2.out.alloc HB2.out.size (.cells #[.string s, .int .i64 at_] 84)).grown hg2 (by have := HB2.out.size; simp; omega) (fun k e => (own_tag HO1.out e).2)
               have HB3 := Lib.hid hb3
               have HO2 := Lib.hid hown2
               have hcell3 : w3.cell? ⟨bx, 1, none⟩ = some (.slice (some ⟨g, 0, none⟩) L1.length nc) := (hb3.cell (p := ⟨bx, 1, none⟩) HBX.out).trans HB.out.c.2.1
               have hbx3 : bx < w3.heap.size := Nat.lt_of_lt_of_le HBX.out hb3.size
               have HSRC3b : Hid (∀ i u, ((L1.drop j).flatMap nmCs)[i]? = some u → w3.cell? ((⟨g, j * 2, none⟩ : Addr).add i) = some u) := Lib.hid (fun i u hu => by rw [cell_add]; exact (hb3.cell (p := ⟨g, j * 2 + i, none⟩) HGL.out).trans (HS3.out i u hu))
               have HSRC3 := Lib.hid (src_if HJLE.out HLC.out (fun i u hu => (hb3.cell (p := ⟨g, j * 2 + i, none⟩) HGL.out).trans (HS3.out i u hu)))
               clear hgrow2 hg2 hown2 hb3)
            | (at_builtin; refine wpList_append_own _ rfl _ _ 47 rfl wr.heap.size 84 i0 _ 2 24 Tryz.underlying47 hi0 hz0 hz1 hz2 rfl (by decide) _ _ _ rfl HO2.out ⟨g, j * 2, none⟩ (L1.length - j) (nc - j) ((L1.drop j).flatMap nmCs) rfl HND.out HSRC3b.out (fun u hu => fm_one nm_one (L1.drop j) u hu) (by unfold maxLen; omega) (by omega) (by have := HB3.out.size; omega) ?_
               intro v3 w4 hown3 hgrow3 _
               obtain ⟨o3, cap3, rfl, _, _⟩ := row_shape hown3
               have hg3 : w3.grownBy w4 v2.ownBlock := hgrow3
               have hb4 := HB3.out.grown hg3 HB3.out.size (fun k e => (own_tag HO2.out e).2)
               have HB4 := Lib.hid hb4
               have HO3 := Lib.hid hown3
               have hf4 : w4.frozen? ⟨bx, 1, none⟩ = false := by
                 rw [hb4.frozen (p := ⟨bx, 1, none⟩) HBX.out]
                 simp [World.frozen?, HBC.out]
               have hc4 : w4.cell? ⟨bx, 1, none⟩ = some (.slice (some ⟨g, 0, none⟩) L1.length nc) := (hb4.cell (p := ⟨bx, 1, none⟩) HBX.out).trans HB.out.c.2.1
               have hbx4 : bx < w4.heap.size := Nat.lt_of_lt_of_le HBX.out hb4.size
               clear hgrow3 hg3 hown3 hb4)
            | (at_builtin; refine wpList_append_if rfl _ _ 47 rfl wr.heap.size 84 i0 _ 2 24 Tryz.underlying47 hi0 hz0 hz1 hz2 rfl (by decide) _ _ _ rfl HO2.out nc j ⟨g, 0, none⟩ ⟨g, j * 2, none⟩ (L1.length - j) (nc - j) ((L1.drop j).flatMap nmCs) rfl HND.out HSRC3.out (fun u hu => fm_one nm_one (L1.drop j) u hu) (by unfold maxLen; omega) (by omega) (by have := HB3.out.size; omega) ?_
               intro v3 w4 hown3 hgrow3
               obtain ⟨o3, cap3, rfl, _, _⟩ := row_shape hown3
               have hg3 : w3.grownBy w4 v2.ownBlock := hgrow3
               have hb4 := HB3.out.grown hg3 HB3.out.size (fun k e => (own_tag HO2.out e).2)
               have HB4 := Lib.hid hb4
               have HO3 := Lib.hid hown3
               have hf4 : w4.frozen? ⟨bx, 1, none⟩ = false := by
                 rw [hb4.frozen (p := ⟨bx, 1, none⟩) HBX.out]
                 simp [World.frozen?, HBC.out]
               have hc4 : w4.cell? ⟨bx, 1, none⟩ = some (.slice (some ⟨g, 0, none⟩) L1.length nc) := (hb4.cell (p := ⟨bx, 1, none⟩) HBX.out).trans HB.out.c.2.1
               have hbx4 : bx < w4.heap.size := Nat.lt_of_lt_of_le HBX.out hb4.size
               clear hgrow3 hg3 hown3 hb4))
          all_goals
            refine bodyPost_end (results_none rfl _ _ _) rfl ?_
            exact ⟨rfl, ld_fin HH.out HG.out HB4.out s at_ hn hat j HJLE.out HPUT.out hlen HO3.out⟩
        · have d1 : decide (j < L1.length) = false := decide_eq_false hjL
          have hj5 : j < 1000 := by omega
          clear hk hj hjl hje hd
          go_wp2_with (first
            | (at_builtin; refine wpList_append_own _ rfl _ _ 47 rfl wr.heap.size 84 i0 _ 2 24 Tryz.underlying47 hi0 hz0 hz1 hz2 rfl (by decide) _ _ _ rfl HROW0.out ⟨g, 0, none⟩ j nc ((L1.take j).flatMap nmCs) rfl HNL.out HSRC1.out (fun u hu => fm_one nm_one (L1.take j) u hu) (by unfold maxLen; omega) (by omega) (by simp) ?_
               intro v1 w2 hown1 hgrow1 _
               have hg1 : (wr.alloc (.cells #[] 84)).grownBy w2 (some wr.heap.size) := hgrow1
               have hb2 := ((Below.refl wr.heap.size wr).alloc (Nat.le_refl _) (.cells #[] 84)).grown hg1 (by simp) (fun k e => by cases e; exact Nat.le_refl _)
               have HB2 := Lib.hid hb2
               have HO1 := Lib.hid hown1
               have hcell2 : w2.cell? ⟨bx, 1, none⟩ = some (.slice (some ⟨g, 0, none⟩) L1.length nc) := (hb2.cell (p := ⟨bx, 1, none⟩) HBX.out).trans HB.out.c.2.1
               have hbx2 : bx < w2.heap.size := Nat.lt_of_lt_of_le HBX.out hb2.size
               have hs2 := cell_two_new w2 (.string s) (.int .i64 at_) 84
               have HSRC2 := Lib.hid hs2
               have HO1A := Lib.hid (hown1.alloc (.cells #[.string s, .int .i64 at_] 84))
               clear hgrow1 hg1 hown1 hb2 hs2)
            | (at_builtin; refine wpList_append_own _ rfl _ _ 47 rfl wr.heap.size 84 i0 _ 2 24 Tryz.underlying47 hi0 hz0 hz1 hz2 rfl (by decide) _ _ _ rfl HO1A.out ⟨w2.heap.size, 0, none⟩ 1 1 [.string s, .int .i64 at_] rfl rfl HSRC2.out (fun u hu => by simp only [List.mem_cons, List.not_mem_nil, or_false] at hu; rcases hu with rfl | rfl <;> rfl) (by unfold maxLen; omega) (by omega) (by have := HB2.out.size; simp; omega) ?_
               intro v2 w3 hown2 hgrow2 _
               have hg2 : (w2.alloc (.cells #[.string s, .int .i64 at_] 84)).grownBy w3 v1.ownBlock := hgrow2
               have hb3 := (HB2.out.alloc HB2.out.size (.cells #[.string s, .int .i64 at_] 84)).grown hg2 (by have := HB2.out.size; simp; omega) (fun k e => (own_tag HO1.out e).2)
               have HB3 := Lib.hid hb3
               have HO2 := Lib.hid hown2
               have hcell3 : w3.cell? ⟨bx, 1, none⟩ = some (.slice (some ⟨g, 0, none⟩) L1.length nc) := (hb3.cell (p := ⟨bx, 1, none⟩) HBX.out).trans HB.out.c.2.1
               have hbx3 : bx < w3.heap.size := Nat.lt_of_lt_of_le HBX.out hb3.size
               have HSRC3b : Hid (∀ i u, ((L1.drop j).flatMap nmCs)[i]? = some u → w3.cell? ((⟨g, j * 2, none⟩ : Addr).add i) = some u) := Lib.hid (fun i u hu => by rw [cell_add]; exact (hb3.cell (p := ⟨g, j * 2 + i, none⟩) HGL.out).trans (HS3.out i u hu))
               have HSRC3 := Lib.hid (src_if HJLE.out HLC.out (fun i u hu => (hb3.cell (p := ⟨g, j * 2 + i, none⟩) HGL.out).trans (HS3.out i u hu)))
               clear hgrow2 hg2 hown2 hb3)
            | (at_builtin; refine wpList_append_own _ rfl _ _ 47 rfl wr.heap.size 84 i0 _ 2 24 Tryz.underlying47 hi0 hz0 hz1 hz2 rfl (by decide) _ _ _ rfl HO2.out ⟨g, j * 2, none⟩ (L1.length - j) (nc - j) ((L1.drop j).flatMap nmCs) rfl HND.out HSRC3b.out (fun u hu => fm_one nm_one (L1.drop j) u hu) (by unfold maxLen; omega) (by omega) (by have := HB3.out.size; omega) ?_
               intro v3 w4 hown3 hgrow3 _
               obtain ⟨o3, cap3, rfl, _, _⟩ := row_shape hown3
               have hg3 : w3.grownBy w4 v2.ownBlock := hgrow3
               have hb4 := HB3.out.grown hg3 HB3.out.size (fun k e => (own_tag HO2.out e).2)
               have HB4 := Lib.hid hb4
               have HO3 := Lib.hid hown3
               have hf4 : w4.frozen? ⟨bx, 1, none⟩ = false := by
                 rw [hb4.frozen (p := ⟨bx, 1, none⟩) HBX.out]
                 simp [World.frozen?, HBC.out]
               have hc4 : w4.cell? ⟨bx, 1, none⟩ = some (.slice (some ⟨g, 0, none⟩) L1.length nc) := (hb4.cell (p := ⟨bx, 1, none⟩) HBX.out).trans HB.out.c.2.1
               have hbx4 : bx < w4.heap.size := Nat.lt_of_lt_of_le HBX.out hb4.size
               clear hgrow3 hg3 hown3 hb4)
            | (at_builtin; refine wpList_append_if rfl _ _ 47 rfl wr.heap.size 84 i0 _ 2 24 Tryz.underlying47 hi0 hz0 hz1 hz2 rfl (by decide) _ _ _ rfl HO2.out nc j ⟨g, 0, none⟩ ⟨g, j * 2, none⟩ (L1.length - j) (nc - j) ((L1.drop j).flatMap nmCs) rfl HND.out HSRC3.out (fun u hu => fm_one nm_one (L1.drop j) u hu) (by unfold maxLen; omega) (by omega) (by have := HB3.out.size; omega) ?_
               intro v3 w4 hown3 hgrow3
               obtain ⟨o3, cap3, rfl, _, _⟩ := row_shape hown3
               have hg3 : w3.grownBy w4 v2.ownBlock := hgrow3
               have hb4 := HB3.out.grown hg3 HB3.out.size (fun k e => (own_tag HO2.out e).2)
               have HB4 := Lib.hid hb4
               have HO3 := Lib.hid hown3
               have hf4 : w4.frozen? ⟨bx, 1, none⟩ = false := by
                 rw [hb4.frozen (p := ⟨bx, 1, none⟩) HBX.out]
                 simp [World.frozen?, HBC.out]
               have hc4 : w4.cell? ⟨bx, 1, none⟩ = some (.slice (some ⟨g, 0, none⟩) L1.length nc) := (hb4.cell (p := ⟨bx, 1, none⟩) HBX.out).trans HB.out.c.2.1
               have hbx4 : bx < w4.heap.size := Nat.lt_of_lt_of_le HBX.out hb4.size
               clear hgrow3 hg3 hown3 hb4))
          all_goals
            refine bodyPost_end (results_none rfl _ _ _) rfl ?_
            exact ⟨rfl, ld_fin HH.out HG.out HB4.out s at_ hn hat j HJLE.out HPUT.out hlen HO3.out⟩
end Go.Proofs.YtgpanlkcpnlejaaGreat
/- The document's store: put. -/
namespace Go.Proofs.YtgpanlkcpnlejaaGreat
open Go.RowKit Go.Maps
set_option maxRecDepth 100000
theorem ent_set (es : List De) (i : Nat) (e0 e : De) (h : es[i]? = some e0) : (es.set i e).flatMap deCs = ((es.flatMap deCs).set (i * 2) (.int .i64 e.k)).set (i * 2 + 1) (.slice e.lo e.ln e.lc) := by
  have h1 := fm_set de_len es i 0 e0 { e0 with k := e.k } (.int .i64 e.k) h (by omega) rfl
  have hi := (List.getElem?_eq_some_iff.1 h).1
  have h2 := fm_set de_len (es.set i { e0 with k := e.k }) i 1 { e0 with k := e.k } e (.slice e.lo e.ln e.lc) (by rw [List.getElem?_set_self hi]) (by omega) (by cases e; rfl)
  rw [List.set_set] at h2
  rw [h2, h1]
  rfl
theorem DB.fx {F : Nat → Prop} {bx : Nat} {L : List Reg} {N : Nat} {M : Nat → Mc} {no eo : Option Addr} {nc ec : Nat} {es : List De} {w w' : World} (h : DB F bx L N M no nc eo ec es w) (k : Fx F w w') : DB F bx L N M no nc eo ec es w' :=
  ⟨(k.block _ h.fb).trans h.cell, own_fx h.row k h.nF, own_fx h.ent k h.eF, fun i e he => (h.es i e he).fx k, h.nF, h.eF, h.fb, fun i hi => Nat.lt_of_lt_of_le (h.hf i hi) k.size, h.asc, h.ok, h.len⟩
theorem fx_drew (F : Nat → Prop) (w : World) : Fx F w w.drew := ⟨rfl, rfl, rfl, Nat.le_refl _, fun _ _ => rfl⟩
theorem dg_drew {F : Nat → Prop} {bx : Nat} {L : List Reg} {N : Nat} {M : Nat → Mc} {w w' : World} (h : DG F bx L N M w.drew w') : DG F bx L N M w w' := ⟨h.dk, ⟨h.kept.os, h.kept.tape, h.kept.output, h.kept.size, h.kept.block⟩, h.kb⟩
/-- An entry is set in its place. -/
theorem DB.setEnt {F : Nat → Prop} {bx : Nat} {L : List Reg} {N : Nat} {M : Nat → Mc} {no : Option Addr} {nc ec : Nat} {es : List De} {w : World} {g i : Nat} (h : DB F bx L N M no nc (some ⟨g, 0, none⟩) ec es w) (hi : i < N) (e : De) (m : Mc) (he : DeIs F w e m) (hel : es.length = N) :
    DG F bx L N (updM M i m) w ((w.setCell ⟨g, i * 2, none⟩ (.int .i64 e.k)).setCell ⟨g, i * 2 + 1, none⟩ (.slice e.lo e.ln e.lc)) := by
  have hg := own_tag h.ent (g := g) rfl
  have hgF : F g := h.eF g rfl
  have hk : ∀ k, k ≠ g → ((w.setCell ⟨g, i * 2, none⟩ (.int .i64 e.k)).setCell ⟨g, i * 2 + 1, none⟩ (.slice e.lo e.ln e.lc)).heap[k]? = w.heap[k]? := fun k hk => (Below.heap_setCell _ _ _ _ hk).trans (Below.heap_setCell _ _ _ _ hk)
  have hsz : ((w.setCell ⟨g, i * 2, none⟩ (.int .i64 e.k)).setCell ⟨g, i * 2 + 1, none⟩ (.slice e.lo e.ln e.lc)).heap.size = w.heap.size := by simp [World.setCell]
  have hne : ∀ {t : TypeId} {q : Nat}, Tg w t q → t ≠ 62 → q ≠ g := fun hq hn => hq.ne hg.1 hn
  have hei : es[i]? = some (es[i]'(by omega)) := List.getElem?_eq_getElem (by omega)
  have hx : ∀ {e : De} {m : Mc}, DeIs F w e m → DeIs (Up F w ((w.setCell ⟨g, i * 2, none⟩ (.int .i64 e.k)).setCell ⟨g, i * 2 + 1, none⟩ (.slice e.lo e.ln e.lc))) ((w.setCell ⟨g, i * 2, none⟩ (.int .i64 e.k)).setCell ⟨g, i * 2 + 1, none⟩ (.slice e.lo e.ln e.lc)) e m → True := fun _ _ => trivial
  have hd : ∀ {e' : De} {m' : Mc} (w' : World), (∀ k, k ≠ g → w'.heap[k]? = w.heap[k]?) → DeIs F w e' m' → DeIs (Up F w w') w' e' m' := fun w' hk' hd => ⟨hd.kd, hd.at_.keep3 fun t b ht hb' => by
      have hn : b ≠ g := hne hb'.2 (by rcases ht with rfl | rfl | rfl <;> decide)
      exact ⟨hk' b hn, .inl hb'.1, hb'.2.keep (hk' b hn)⟩, hd.nil, hd.le, hd.cap, hd.ok⟩
  have hrow : ((w.setCell ⟨g, i * 2, none⟩ (.int .i64 e.k)).setCell ⟨g, i * 2 + 1, none⟩ (.slice e.lo e.ln e.lc)).ownsRow 0 62 2 (.slice (some ⟨g, 0, none⟩) N ec) N ((es.set i e).flatMap deCs) := by
    rw [ent_set es i _ e hei]
    exact own_set (own_set h.ent (i * 2) (by omega) _) (i * 2 + 1) (by omega) _
  refine ⟨⟨no, nc, some ⟨g, 0, none⟩, ec, es.set i e, ?_, ?_, hrow, fun j e' hj => ?_, fun q hq => .inl (h.nF q hq), fun q hq => .inl (h.eF q hq), .inl h.fb, fun q hq => ?_, h.asc, h.ok, h.len⟩, ?_, fun e b he hb => hk b (hne hb (by rcases he with rfl | rfl <;> decide))⟩
  · exact (hk bx (hne ⟨_, _, h.cell⟩ (by decide))).trans h.cell
  · refine ⟨h.row.1, ?_⟩
    rcases h.row.2 with hn | ⟨q, cap, cur, hv, hb, hq, rest⟩
    · exact .inl hn
    · exact .inr ⟨q, cap, cur, hv, hb, (hk q (hne ⟨_, _, hq⟩ (by decide))).trans hq, rest⟩
  · rw [List.getElem?_set] at hj
    by_cases hij : i = j
    · subst hij
      rw [if_pos rfl, if_pos (by omega)] at hj
      obtain rfl := Option.some.inj hj
      rw [updM_same]
      exact hd _ hk he
    · rw [if_neg hij] at hj
      rw [updM_other _ _ _ (Ne.symm hij)]
      exact hd _ hk (h.es j e' hj)
  · rw [hsz]
    rcases hq with hq | hq
    · exact h.hf q hq
    · rw [hsz] at hq; exact hq.2
  · exact ((Kept.refl F w).setCell (p := ⟨g, i * 2, none⟩) hgF _).setCell (p := ⟨g, i * 2 + 1, none⟩) hgF _
theorem DB.elen {F : Nat → Prop} {bx : Nat} {L : List Reg} {N : Nat} {M : Nat → Mc} {no eo : Option Addr} {nc ec : Nat} {es : List De} {w : World} (h : DB F bx L N M no nc eo ec es w) : es.length = N := by
  have := h.ent.1
  rw [fm_len de_len] at this
  omega
/-- An entry is put behind the others. -/
theorem DB.addEnt {F : Nat → Prop} {bx : Nat} {L : List Reg} {N : Nat} {M : Nat → Mc} {no eo o2 : Option Addr} {nc ec c2 : Nat} {es : List De} {w w2 : World} {cs : Array Value} (h : DB F bx L N M no nc eo ec es w) (e : De) (m : Mc) (he : DeIs F w e m)
    (hg : (w.alloc (.cells cs 62)).grownBy w2 (Value.slice eo N ec).ownBlock) (hown : w2.ownsRow 0 62 2 (.slice o2 (N + 1) c2) (N + 1) (es.flatMap deCs ++ deCs e))
    (hat : (Value.slice o2 (N + 1) c2).ownBlock = (Value.slice eo N ec).ownBlock ∨ (Value.slice o2 (N + 1) c2).ownBlock = some (w.alloc (.cells cs 62)).heap.size) :
    DG F bx L (N + 1) (updM M N m) w (w2.setCell ⟨bx, 2, none⟩ (.slice o2 (N + 1) c2)) := by
  obtain ⟨w3, hw3⟩ : ∃ w3, w3 = w2.setCell ⟨bx, 2, none⟩ (.slice o2 (N + 1) c2) := ⟨_, rfl⟩
  rw [← hw3]
  have hz1 : (w.alloc (.cells cs 62)).heap.size = w.heap.size + 1 := by simp
  have hz2 := hg.size
  have hz3 : w3.heap.size = w2.heap.size := by rw [hw3]; simp [World.setCell]
  have k2 : ∀ k, k < w.heap.size → (Value.slice eo N ec).ownBlock ≠ some k → w2.heap[k]? = w.heap[k]? := fun k hk hn => (hg.block k (by omega) (fun e => hn e.symm)).trans (Below.heap_alloc _ _ _ hk)
  have k3 : ∀ k, k ≠ bx → w3.heap[k]? = w2.heap[k]? := fun k hk => by rw [hw3]; exact Below.heap_setCell _ _ _ _ hk
  have hto : ∀ {t : TypeId} {q : Nat}, Tg w t q → t ≠ 62 → (Value.slice eo N ec).ownBlock ≠ some q := fun hq hn hx => (hq.ne (own_tag h.ent hx).1 hn) rfl
  have hbx : Tg w 50 bx := ⟨_, _, h.cell⟩
  have hbx2 := k2 bx hbx.lt (hto hbx (by decide))
  have kk : ∀ {t : TypeId} {q : Nat}, Tg w t q → t ≠ 62 → t ≠ 50 → w3.heap[q]? = w.heap[q]? := fun hq hn hn' => (k3 _ (hq.ne hbx hn')).trans (k2 _ hq.lt (hto hq hn))
  have hd : ∀ {e' : De} {m' : Mc}, DeIs F w e' m' → DeIs (Up F w w3) w3 e' m' := fun hd => ⟨hd.kd, hd.at_.keep3 fun t b ht hb' => by
    have h1 := kk hb'.2 (by rcases ht with rfl | rfl | rfl <;> decide) (by rcases ht with rfl | rfl | rfl <;> decide)
    exact ⟨h1, .inl hb'.1, hb'.2.keep h1⟩, hd.nil, hd.le, hd.cap, hd.ok⟩
  have hel := h.elen
  refine ⟨⟨no, nc, o2, c2, es ++ [e], ?_, ?_, ?_, fun j e' hj => ?_, fun q hq => .inl (h.nF q hq), fun q hq => ?_, .inl h.fb, fun q hq => ?_, h.asc, fun r hr => ⟨(h.ok r hr).1, by have := (h.ok r hr).2; omega⟩, h.len⟩, ?_, fun e b he hb => kk hb (by rcases he with rfl | rfl <;> decide) (by rcases he with rfl | rfl <;> decide)⟩
  · rw [hw3]
    simp only [World.setCell, Array.getElem?_modify, hbx2, h.cell]
    simp
  · refine ⟨h.row.1, ?_⟩
    rcases h.row.2 with hn | ⟨q, cap, cur, hv, hb, hq, rest⟩
    · exact .inl hn
    · exact .inr ⟨q, cap, cur, hv, hb, (kk ⟨_, _, hq⟩ (by decide) (by decide)).trans hq, rest⟩
  · rw [List.flatMap_append]
    refine ⟨by simpa using hown.1, ?_⟩
    rcases hown.2 with hn | ⟨q, cap, cur, hv, hb, hq, rest⟩
    · exact .inl hn
    · exact .inr ⟨q, cap, cur, hv, hb, (k3 q (Tg.ne (w := w2) (e := 62) ⟨_, _, hq⟩ (hbx.keep hbx2) (by decide))).trans hq, by simpa using rest⟩
  · by_cases hj2 : j < N
    · rw [List.getElem?_append_left (by omega)] at hj
      rw [updM_other _ _ _ (by omega)]
      exact hd (h.es j e' hj)
    · have hjN : j = N := by
        have := (List.getElem?_eq_some_iff.1 hj).1
        simp at this; omega
      subst hjN
      rw [List.getElem?_append_right (by omega), hel, Nat.sub_self] at hj
      simp only [List.getElem?_cons_zero, Option.some.injEq] at hj
      subst hj
      rw [updM_same]
      exact hd he
  · rcases hat with ha | ha
    · exact .inl (h.eF q (by rw [← ha]; exact hq))
    · have h1 := (own_tag hown hq).1.lt
      rw [ha] at hq
      have : (w.alloc (.cells cs 62)).heap.size = q := by injection hq
      exact .inr ⟨by omega, by omega⟩
  · rcases hq with hq | hq
    · have := h.hf q hq; omega
    · exact hq.2
  · refine ⟨?_, ?_, ?_, by omega, fun k hk hs => ?_⟩
    · rw [hw3]; exact hg.os
    · rw [hw3]; exact hg.tape
    · rw [hw3]; exact hg.output
    · exact (k3 k (fun e => hs (by rw [e]; exact h.fb))).trans (k2 k hk (fun hx => hs (h.eF k hx)))
theorem info_ent : (Tryz.prog.info? 62).map (fun i => (i.zero, i.size, i.bytes)) = some (some (.agg #[.int .i64 0, .slice none 0 0]), 2, 32) := by kernel_rfl
theorem put_len_new : ∀ (L : List Reg) (r : Reg), hasS L r.nm = false → (putS L r).length = L.length + 1
  | [], r, _ => rfl
  | x :: t, r, h => by
    have hne : x.nm ≠ r.nm := by intro e; simp [hasS, e] at h
    have ht : hasS t r.nm = false := by simpa [hasS, hne] using h
    unfold putS
    rw [if_neg hne]
    split
    · simp [put_len_new t r ht]
    · simp
theorem two_keep {F : Nat → Prop} {bx : Nat} {L : List Reg} {N : Nat} {M : Nat → Mc} {no eo : Option Addr} {nc ec : Nat} {es : List De} {w w2 : World} {cs : Array Value} (hg : (w.alloc (.cells cs 62)).grownBy w2 (Value.slice eo N ec).ownBlock) (h : DB F bx L N M no nc eo ec es w) :
    w2.cell? ⟨bx, 2, none⟩ = some (.slice eo N ec) ∧ w2.frozen? ⟨bx, 2, none⟩ = false := by
  have hbx : Tg w 50 bx := ⟨_, _, h.cell⟩
  have h1 : w2.heap[bx]? = w.heap[bx]? := (hg.block bx (by have := hbx.lt; simp; omega) (fun e => (hbx.ne (own_tag h.ent e.symm).1 (by decide)) rfl)).trans (Below.heap_alloc _ _ _ hbx.lt)
  have h2 := h1.trans h.cell
  exact ⟨by simp [World.cell?, h2], by simp [World.frozen?, h2]⟩
theorem two_cells {w : World} {b : Nat} {x y : Value} {e : TypeId} (h : w.heap[b]? = some (.cells #[x, y] e (0, 0))) : w.cell? ⟨b, 0, none⟩ = some x ∧ w.cell? ⟨b, 1, none⟩ = some y := by simp [World.cell?, h]
/-- How many entries there are behind a put. -/
def putN (L : List Reg) (nm : List UInt8) (N : Nat) : Nat := if hasS L nm = false ∧ L.length ≠ 500 then N + 1 else N
set_option maxHeartbeats 4000000 in
theorem rput_old {F : Nat → Prop} {bx : Nat} {L : List Reg} {N : Nat} {M : Nat → Mc} {w : World} (h : DK F bx L N M w) (s : ByteArray) (hn : okNm s.data.toList = true) (e : De) (m : Mc) (he : DeIs F w e m) (hc : hasS L s.data.toList = true ∨ L.length = 500) :
    Calls Tryz.prog 54 #[BP bx, .string s, .agg #[.int .i64 e.k, .slice e.lo e.ln e.lc]] w fun e' w' => e' = .returned (.int .i64 (putTo L M s.data.toList m N).1) ∧ DG F bx (putTo L M s.data.toList m N).2.1 (putN L s.data.toList N) (putTo L M s.data.toList m N).2.2 w w' := by
  obtain ⟨k, lo, ln, lc⟩ := e
  have hb1 := (Below.refl w.heap.size w).alloc (Nat.le_refl _) (.cells #[.int .i64 k, .slice lo ln lc] 62)
  have hdg := DG.below h hb1
  have hdk := hdg.dk
  have he1 := (he.fx (Fx.of h.hf hb1)).mono (F' := Up F w (w.alloc (.cells #[.int .i64 k, .slice lo ln lc] 62))) (fun i hi => .inl hi)
  have HF := Lib.hid (rfind_any hdk s)
  have HDG := Lib.hid hdg
  have HHF := Lib.hid h.hf
  have hec : (w.alloc (.cells #[.int .i64 k, .slice lo ln lc] 62)).cell? ⟨w.heap.size, 0, none⟩ = some (.int .i64 k) ∧ (w.alloc (.cells #[.int .i64 k, .slice lo ln lc] 62)).cell? ⟨w.heap.size, 1, none⟩ = some (.slice lo ln lc) := by
    exact two_cells (heap_alloc_new w (.cells #[.int .i64 k, .slice lo ln lc] 62))
  obtain ⟨x0, x1⟩ := hec
  clear h he hdg hb1
  obtain ⟨W, hW⟩ : ∃ W, W = w.alloc (.cells #[.int .i64 k, .slice lo ln lc] 62) := ⟨_, rfl⟩
  rw [← hW] at hdk he1 HF HDG x0 x1
  have HDK := Lib.hid hdk
  obtain ⟨no, nc, eo, ec, es, h⟩ := hdk
  obtain ⟨c0, c1, c2⟩ := h.c
  have hl := h.len
  unfold fndS at HF
  unfold putTo putN
  cases hh : hasS L s.data.toList with
  | true =>
    have hv := (h.ok _ (getS_mem L _ hh)).2
    rw [hh] at HF
    simp only [if_true, Bool.true_eq_false, false_and, if_false] at HF ⊢
    generalize (getS L s.data.toList).v = v at HF hv ⊢
    have dv : decide ((0 : Int) ≤ (v : Int)) = true := decide_eq_true (by omega)
    have dv2 : decide (v < N) = true := decide_eq_true hv
    obtain ⟨g, rfl, _, hgl, _⟩ := own_head h.ent (by omega)
    have HG := Lib.hid (HDG.out.trans (dg_drew ((h.fx (fx_drew _ W)).setEnt hv ⟨k, lo, ln, lc⟩ m (he1.fx (fx_drew _ W)) h.elen)) HHF.out)
    have hu : ∀ k, k < 2 → ∃ u, (es.flatMap deCs)[v * 2 + k]? = some u := fun k hk => by
      have h1 : es[v]? = some (es[v]'(by rw [h.elen]; exact hv)) := List.getElem?_eq_getElem _
      exact ⟨_, (fm_at de_len es v k _ h1 hk).trans (List.getElem?_eq_getElem (by rw [de_len]; exact hk))⟩
    obtain ⟨u0, hu0⟩ := hu 0 (by omega)
    obtain ⟨u1, hu1⟩ := hu 1 (by omega)
    obtain ⟨e0, f0⟩ := own_cell h.ent _ _ hu0
    obtain ⟨e1, f1⟩ := own_cell h.ent _ _ hu1
    rw [Nat.add_zero] at e0 f0
    have HW := Lib.hid hW
    clear h he1 hh hu hu0 hu1 hgl HDG HDK HHF hW
    go_enter Tryz.func54, Tryz.ntmps54
    go_wp2_with fail
    rw [← HW.out]
    refine HF.out.mono ?_
    rintro e w1 ⟨rfl, rfl⟩
    go_wp2_with fail
    go_still_tail 6, (by kernel_rfl)
    change wpList _ _ _ _ _ W.drew
    go_wp2_with fail
    go_ret
    exact ⟨rfl, HG.out⟩
  | false =>
    rw [hh] at HF
    simp only [Bool.false_eq_true, if_false, true_and] at HF ⊢
    have hbx : bx < W.heap.size := HDK.out.hf _ h.fb
    have hfb : W.frozen? ⟨bx, 2, none⟩ = false := by simp [World.frozen?, h.cell]
    by_cases h5 : L.length = 500
    · have d5 : decide ((500 : Int) ≤ (L.length : Int)) = true := decide_eq_true (by omega)
      have HW := Lib.hid hW
      have H5 := Lib.hid h5
      clear h he1 hh hW HDK h5
      go_enter Tryz.func54, Tryz.ntmps54
      go_wp2_with fail
      rw [← HW.out]
      refine HF.out.mono ?_
      rintro e w1 ⟨rfl, rfl⟩
      go_wp2_with fail
      go_ret
      exact ⟨rfl, HDG.out⟩
    · rcases hc with hc | hc
      · rw [hh] at hc; cases hc
      · exact absurd hc h5
end Go.Proofs.YtgpanlkcpnlejaaGreat
/- The document's store: put of a new name. -/
namespace Go.Proofs.YtgpanlkcpnlejaaGreat
open Go.RowKit Go.Maps
set_option maxRecDepth 100000
/-- append to a row of one's own, as a step of a region that draws. -/
theorem step_append_own {ops : Array Oper} {o : Oper} {a : Act} {w : World} {K : Act → World → Prop} {Q : Exit → Act → World → Prop} {E : Prop}
    (hg : o.guard = none) (s x : Operand) (t : TypeId) (hop : o.op = Op.call { callee := Callee.builtin Builtin.append, args := #[s, x], argTypes := #[t, t] })
    (base : Nat) (e : TypeId) (i : TypeInfo) (z : Value) (size bytes : Nat) (ht : Tryz.prog.underlying t = some (.slice e)) (hi : Tryz.prog.info? e = some i) (hz : i.zero = some z) (hsize : i.size = size) (hby : i.bytes = bytes) (hzs : z.cells.size = size) (hsz : 0 < size)
    (v : Value) (n : Nat) (xs : List Value) (hs : a.eval s = v) (hown : w.ownsRow base e size v n xs)
    (ad : Addr) (m c : Nat) (news : List Value) (hx : a.eval x = .slice (some ad) m c) (hl : news.length = m * size) (hnews : ∀ j u, news[j]? = some u → w.cell? (ad.add j) = some u) (h1 : ∀ u ∈ news, u.oneCell' = true)
    (h63 : n + m ≤ maxLen) (hbytes : (n + m) * bytes ≤ 140737488355328) (hbase : base ≤ w.heap.size)
    (hK : ∀ v' w', w'.ownsRow base e size v' (n + m) (xs ++ news) → w.grownBy w' v.ownBlock → (v'.ownBlock = v.ownBlock ∨ v'.ownBlock = some w.heap.size) → K (a.put o.dst v') w') :
    if Region.wanted o (yielded ops a.tmps) = true then Oper.wp Tryz.prog o a w K Q else E := by
  have hw : Region.wanted o (yielded ops a.tmps) = true := by simp [Region.wanted, hg]
  rw [if_pos hw]
  obtain ⟨v', w', hr, h2, h3, _, h5⟩ := run_append_own_at (P := Tryz.prog) w base t o.type e i z size bytes ht hi hz hsize hby hzs hsz v n xs hown ad m c news hl hnews h1 h63 hbytes hbase
  unfold Oper.wp
  simp [execOp, hop, resolve, invoke, builtin, hs, hx, hr, Result.andThen]
  exact hK v' w' h2 h3 h5
set_option maxHeartbeats 4000000 in
theorem rput_new {F : Nat → Prop} {bx : Nat} {L : List Reg} {N : Nat} {M : Nat → Mc} {w : World} (h : DK F bx L N M w) (s : ByteArray) (hn : okNm s.data.toList = true) (e : De) (m : Mc) (he : DeIs F w e m) (hN : N ≤ 1000) (hh : hasS L s.data.toList = false) (h5 : L.length ≠ 500) :
    Calls Tryz.prog 54 #[BP bx, .string s, .agg #[.int .i64 e.k, .slice e.lo e.ln e.lc]] w fun e' w' => e' = .returned (.int .i64 (putTo L M s.data.toList m N).1) ∧ DG F bx (putTo L M s.data.toList m N).2.1 (putN L s.data.toList N) (putTo L M s.data.toList m N).2.2 w w' := by
  obtain ⟨k, lo, ln, lc⟩ := e
  have hb1 := (Below.refl w.heap.size w).alloc (Nat.le_refl _) (.cells #[.int .i64 k, .slice lo ln lc] 62)
  have hdg := DG.below h hb1
  have hdk := hdg.dk
  have he1 := (he.fx (Fx.of h.hf hb1)).mono (F' := Up F w (w.alloc (.cells #[.int .i64 k, .slice lo ln lc] 62))) (fun i hi => .inl hi)
  have HF := Lib.hid (rfind_any hdk s)
  have HDG := Lib.hid hdg
  have HHF := Lib.hid h.hf
  have hec : (w.alloc (.cells #[.int .i64 k, .slice lo ln lc] 62)).cell? ⟨w.heap.size, 0, none⟩ = some (.int .i64 k) ∧ (w.alloc (.cells #[.int .i64 k, .slice lo ln lc] 62)).cell? ⟨w.heap.size, 1, none⟩ = some (.slice lo ln lc) := by
    exact two_cells (heap_alloc_new w (.cells #[.int .i64 k, .slice lo ln lc] 62))
  obtain ⟨x0, x1⟩ := hec
  clear h he hdg hb1
  obtain ⟨W, hW⟩ : ∃ W, W = w.alloc (.cells #[.int .i64 k, .slice lo ln lc] 62) := ⟨_, rfl⟩
  rw [← hW] at hdk he1 HF HDG x0 x1
  have HDK := Lib.hid hdk
  obtain ⟨no, nc, eo, ec, es, h⟩ := hdk
  obtain ⟨c0, c1, c2⟩ := h.c
  have hl := h.len
  unfold fndS at HF
  unfold putTo putN
  rw [hh] at HF ⊢
  simp only [Bool.false_eq_true, if_false, true_and, h5, ne_eq, not_false_eq_true, if_true] at HF ⊢
  have hbx : bx < W.heap.size := HDK.out.hf _ h.fb
  have hwz : w.heap.size < W.heap.size := by rw [hW]; simp
  have d5 : decide ((500 : Int) ≤ (L.length : Int)) = false := decide_eq_false (by omega)
  obtain ⟨i0, hi0, hz0, hz1, hz2⟩ := info_parts info_ent
  have HE := Lib.hid h
  have HE1 := Lib.hid he1
  have ho1 := h.ent.alloc (.cells #[.int .i64 k, .slice lo ln lc] 62)
  have HO1 : Hid ((W.alloc (.cells #[.int .i64 k, .slice lo ln lc] 62)).drew.ownsRow 0 62 2 (.slice eo N ec) N (es.flatMap deCs)) := Lib.hid ⟨ho1.1, ho1.2⟩
  have hs1 := cell_two_new W (.int .i64 k) (.slice lo ln lc) 62
  have HSRC : Hid (∀ j u, [Value.int .i64 k, .slice lo ln lc][j]? = some u → (W.alloc (.cells #[.int .i64 k, .slice lo ln lc] 62)).drew.cell? ((⟨W.heap.size, 0, none⟩ : Addr).add j) = some u) := Lib.hid hs1
  have HLEN := Lib.hid (show (putS L ⟨s.data.toList, N⟩).length ≤ 500 by rw [put_len_new L ⟨s.data.toList, N⟩ hh]; omega)
  have HW := Lib.hid hW
  have H5 := Lib.hid h5
  have HN := Lib.hid hn
  clear h he1 hh hW HDK h5 hs1 hn ho1
  go_enter Tryz.func54, Tryz.ntmps54
  go_wp2_with fail
  rw [← HW.out]
  refine HF.out.mono ?_
  rintro e w1 ⟨rfl, rfl⟩
  go_wp2_with fail
  go_region_law (first
    | (refine step_append_own rfl (.tmp 30) (.tmp 32) 48 rfl 0 62 i0 _ 2 32 Tryz.underlying48 hi0 hz0 hz1 hz2 rfl (by decide) (.slice eo N ec) N (es.flatMap deCs) (by simp [Act.eval, Act.put]) HO1.out ⟨W.heap.size, 0, none⟩ 1 1 [.int .i64 k, .slice lo ln lc] (by simp [Act.eval, Act.put]) rfl HSRC.out (fun u hu => by simp only [List.mem_cons, List.not_mem_nil, or_false] at hu; rcases hu with rfl | rfl <;> rfl) (by unfold maxLen; omega) (by omega) (Nat.zero_le _) ?_
       intro v2 w2 hown2 hgrow2 hat2
       obtain ⟨o2, cap2, rfl, _, _⟩ := row_shape hown2
       have hg2 : (W.alloc (.cells #[.int .i64 k, .slice lo ln lc] 62)).grownBy w2 (Value.slice eo N ec).ownBlock := ⟨hgrow2.os, hgrow2.tape, hgrow2.output, hgrow2.size, hgrow2.block⟩
       have HADD := Lib.hid (HDG.out.trans (HE.out.addEnt ⟨k, lo, ln, lc⟩ m HE1.out hg2 hown2 hat2) HHF.out)
       have hcb := (two_keep hg2 HE.out).1
       have hfb2 := (two_keep hg2 HE.out).2
       clear hown2 hgrow2 hat2 hg2))
  all_goals
    have HLD := Lib.hid (rlead_any HADD.out.dk s N HN.out (Nat.lt_succ_self N) HLEN.out)
    go_wp2_with fail
    refine HLD.out.mono ?_
    rintro e w4 ⟨rfl, hg4⟩
    have HG4 := Lib.hid (HADD.out.trans hg4 HHF.out)
    clear hg4
    go_wp2_with fail
    go_ret
    exact ⟨rfl, HG4.out⟩
theorem rput_any {F : Nat → Prop} {bx : Nat} {L : List Reg} {N : Nat} {M : Nat → Mc} {w : World} (h : DK F bx L N M w) (s : ByteArray) (hn : okNm s.data.toList = true) (e : De) (m : Mc) (he : DeIs F w e m) (hN : N ≤ 1000) :
    Calls Tryz.prog 54 #[BP bx, .string s, .agg #[.int .i64 e.k, .slice e.lo e.ln e.lc]] w fun e' w' => e' = .returned (.int .i64 (putTo L M s.data.toList m N).1) ∧ DG F bx (putTo L M s.data.toList m N).2.1 (putN L s.data.toList N) (putTo L M s.data.toList m N).2.2 w w' := by
  by_cases hc : hasS L s.data.toList = true ∨ L.length = 500
  · exact rput_old h s hn e m he hc
  · exact rput_new h s hn e m he hN (by cases hh : hasS L s.data.toList with | true => exact absurd (.inl hh) hc | false => rfl) (fun h5 => hc (.inr h5))
end Go.Proofs.YtgpanlkcpnlejaaGreat
/- The document's store: IsName, Define. -/
namespace Go.Proofs.YtgpanlkcpnlejaaGreat
open Go.RowKit Go.Maps
set_option maxRecDepth 100000
def InR (s : ByteArray) (w : World) (k : Nat) (i : Value) (wr : World) : Prop :=
  ∃ j, k + j = s.size ∧ i = .int .i64 j ∧ (s.data.toList.take j).all okB = true ∧ w = wr
set_option maxHeartbeats 1000000 in
theorem rIsName_any (s : ByteArray) (w : World) : Calls Tryz.prog 53 #[.string s] w fun e w' => e = .returned (.bool (okNm s.data.toList)) ∧ w = w' := by
  have HE := Lib.hid (okNm_eq s)
  by_cases h1 : s.size < 1
  · have d1 : decide ((s.size : Int) < 1) = true := decide_eq_true (by omega)
    have HX := Lib.hid (show (decide (1 ≤ s.size) && decide (s.size ≤ 20) && s.data.toList.all okB) = false by rw [decide_eq_false (by omega)]; rfl)
    clear h1
    go_enter Tryz.func53, Tryz.ntmps53
    go_wp2_with fail
    go_ret
    rw [HE.out, HX.out]
    exact ⟨rfl, rfl⟩
  have d1 : decide ((s.size : Int) < 1) = false := decide_eq_false (by omega)
  by_cases h2 : 20 < s.size
  · have d2 : decide ((20 : Int) < (s.size : Int)) = true := decide_eq_true (by omega)
    have HX := Lib.hid (show (decide (1 ≤ s.size) && decide (s.size ≤ 20) && s.data.toList.all okB) = false by rw [decide_eq_false (show ¬ s.size ≤ 20 by omega)]; simp)
    clear h1 h2
    go_enter Tryz.func53, Tryz.ntmps53
    go_wp2_with fail
    go_ret
    rw [HE.out, HX.out]
    exact ⟨rfl, rfl⟩
  have d2 : decide ((20 : Int) < (s.size : Int)) = false := decide_eq_false (by omega)
  have hsl : s.data.toList.length = s.size := by simp
  have hs20 : s.size ≤ 20 := by omega
  have HX := Lib.hid (show (decide (1 ≤ s.size) && decide (s.size ≤ 20) && s.data.toList.all okB) = s.data.toList.all okB by rw [decide_eq_true (show 1 ≤ s.size by omega), decide_eq_true hs20]; simp)
  have HST : Hid (InR s w s.size (.int .i64 0) w) := Lib.hid ⟨0, rfl, rfl, rfl, rfl⟩
  have HSL := Lib.hid hsl
  clear hsl h1 h2
  go_enter Tryz.func53, Tryz.ntmps53
  go_wp2_with fail
  go_loopg [3] s.size (fun k i wr => InR s w k i wr)
  case atStart => exact HST.out
  case round =>
    obtain ⟨j, hk, rfl, ha, rfl⟩ := hrel
    have HK := Lib.hid hk
    have HA := Lib.hid ha
    by_cases hj : j < s.size
    · have dj : decide (j < s.size) = true := decide_eq_true hj
      have hjl : j < s.data.toList.length := by rw [HSL.out]; exact hj
      have hc := byte_at s j hj
      have HT := Lib.hid (show (s.data.toList.take (j + 1)).all okB = okB s[j] by
        rw [List.take_succ_eq_append_getElem hjl, List.all_append, ha]; simp; rfl)
      have HALL : Hid (okB s[j] = false → s.data.toList.all okB = false) := Lib.hid fun hd => by
        cases hq : s.data.toList.all okB with
        | false => rfl
        | true =>
          have := List.all_eq_true.1 hq _ (List.mem_of_getElem? hc)
          rw [hd] at this; cases this
      clear hk ha hc
      by_cases c1 : (s[j]).toNat < 33
      · have e1 : decide (((s[j]).toNat : Int) < 33) = true := decide_eq_true (by omega)
        have HQ := Lib.hid (HALL.out (by unfold okB; rw [decide_eq_false (by omega)]; rfl))
        clear c1
        go_wp2_with fail
        go_ret
        rw [HE.out, HX.out, HQ.out]
        exact ⟨rfl, rfl⟩
      have e1 : decide (((s[j]).toNat : Int) < 33) = false := decide_eq_false (by omega)
      by_cases c2 : 126 < (s[j]).toNat
      · have e2 : decide ((126 : Int) < ((s[j]).toNat : Int)) = true := decide_eq_true (by omega)
        have HQ := Lib.hid (HALL.out (by unfold okB; rw [decide_eq_false (show ¬ (s[j]).toNat ≤ 126 by omega)]; simp))
        clear c1 c2
        go_wp2_with fail
        go_ret
        rw [HE.out, HX.out, HQ.out]
        exact ⟨rfl, rfl⟩
      have e2 : decide ((126 : Int) < ((s[j]).toNat : Int)) = false := decide_eq_false (by omega)
      by_cases c3 : s[j] = 93
      · have e3 : (((s[j]).toNat : Int) == 93) = true := by rw [c3]; rfl
        have HQ := Lib.hid (HALL.out (by unfold okB; rw [c3]; rfl))
        clear c1 c2 c3
        go_wp2_with fail
        go_ret
        rw [HE.out, HX.out, HQ.out]
        exact ⟨rfl, rfl⟩
      have e3 : (((s[j]).toNat : Int) == 93) = false := by
        rw [beq_eq_false_iff_ne]; intro h; exact c3 (UInt8.toNat_inj.1 (by show (s[j]).toNat = 93; omega))
      have HQ : Hid (okB s[j] = true) := Lib.hid (by
        unfold okB
        rw [decide_eq_true (by omega), decide_eq_true (by omega), show (s[j] == 93) = false by simpa using c3]; rfl)
      clear c1 c2 c3
      go_wp2_with fail
      go_roundg (gk - 1)
      case measure => have := HK.out; omega
      case rel =>
        have := HK.out
        exact ⟨j + 1, by omega, by go_num, by rw [HT.out]; exact HQ.out, rfl⟩
    · have dj : decide (j < s.size) = false := decide_eq_false hj
      have HQ := Lib.hid (show s.data.toList.all okB = true by rw [← List.take_of_length_le (l := s.data.toList) (i := j) (by rw [HSL.out]; omega)]; exact ha)
      clear hk ha
      go_wp2_with fail
      go_ret
      rw [HE.out, HX.out, HQ.out]
      exact ⟨rfl, rfl⟩
/- A new book. -/
/-- What a deed of the document's leaves, in the plain words of the code's. -/
structure DtP (F : Nat → Prop) (bx N : Nat) (R : Int × St) (w : World) (e : Ending) (w' : World) : Prop where
  ex : ∃ N', N ≤ N' ∧ N' ≤ N + 1 ∧ e = .returned (.int .i64 R.1) ∧ DG F bx R.2.1 N' R.2.2 w w'
theorem putN_in (L : List Reg) (nm : List UInt8) (N : Nat) : N ≤ putN L nm N ∧ putN L nm N ≤ N + 1 := by unfold putN; split <;> omega
theorem DtP.err {F : Nat → Prop} {bx N : Nat} {L : List Reg} {M : Nat → Mc} {w : World} {k : Int} (h : DK F bx L N M w) : DtP F bx N (k, L, M) w (.returned (.int .i64 k)) w := ⟨⟨N, Nat.le_refl _, Nat.le_succ _, rfl, DG.refl h⟩⟩
/-- The lines of a string's entry. -/
theorem line_at {F : Nat → Prop} {w : World} (t : ByteArray) (ht : okTx t.data.toList = true) : DeIs (Up F w (w.alloc (.cells #[.string t, .bool false, .int .i64 0, .int .i64 0, .slice none 0 0] 39))) (w.alloc (.cells #[.string t, .bool false, .int .i64 0, .int .i64 0, .slice none 0 0] 39)) ⟨1, some ⟨w.heap.size, 0, none⟩, 1, 1⟩ ⟨1, t, []⟩ := by
  have hn := heap_alloc_new w (.cells #[.string t, .bool false, .int .i64 0, .int .i64 0, .slice none 0 0] 39)
  have hs := cell_five_new w (.string t) (.bool false) (.int .i64 0) (.int .i64 0) (.slice none 0 0) 39
  refine ⟨rfl, ⟨⟨[⟨t, false, 0, 0, none, 0, 0⟩], ⟨rfl, fun _ => ⟨w.heap.size, 0, rfl, ⟨.inr ⟨Nat.le_refl _, by simp⟩, ⟨_, _, hn⟩⟩, fun j u hu => ?_⟩⟩, rfl, fun i r l hr hl => ?_⟩, rfl⟩, fun e => (by cases e), Nat.le_refl _, by show ((1 : Nat) : Int) ≤ _; decide, mc_str ht⟩
  · have := hs j u hu
    rwa [cell_add] at this
  · have hi : i = 0 := by
      have := (List.getElem?_eq_some_iff.1 hr).1
      simp at this; exact this
    subst hi
    have hl2 : ([⟨t, false, 0, 0, []⟩] : List Ln)[0]? = some l := hl
    simp only [List.getElem?_cons_zero, Option.some.injEq] at hr hl2
    subst hr hl2
    exact ⟨rfl, rfl, rfl, rfl, fun _ => rfl, Nat.le_refl _, by show ((0 : Nat) : Int) ≤ _; decide, ⟨⟨[], ⟨rfl, fun h => absurd h (Nat.lt_irrefl 0)⟩, rfl, fun i a b h => by simp at h⟩, rfl⟩⟩
set_option maxHeartbeats 2000000 in
theorem rDefine_any {F : Nat → Prop} {bx : Nat} {L : List Reg} {N : Nat} {M : Nat → Mc} {w : World} (h : DK F bx L N M w) (s t : ByteArray) (ht9 : t.size ≤ 9223372036854775807) (hN : N ≤ 1000) : Calls Tryz.prog 24 #[BP bx, .string s, .string t] w (DtP F bx N (defS L M s.data.toList t N) w) := by
  have HNO := Lib.hid (rno_any h)
  have HT := Lib.hid (fun W => rIsText_any t ht9 W)
  have HI := Lib.hid (fun W => rIsName_any s W)
  have HD := Lib.hid h
  unfold defS
  cases hok : okTx t.data.toList with
  | false =>
    rw [hok] at HT
    simp only [Bool.false_eq_true, if_false]
    clear h hok
    go_enter Tryz.func24, Tryz.ntmps24
    go_wp2_with fail
    refine HNO.out.mono ?_
    rintro e w1 ⟨rfl, rfl⟩
    go_wp2_with fail
    refine (HT.out _).mono ?_
    rintro e w1 ⟨rfl, rfl⟩
    go_wp2_with fail
    go_ret
    exact DtP.err HD.out
  | true =>
    rw [hok] at HT
    simp only [if_true]
    cases hn : okNm s.data.toList with
    | false =>
      rw [hn] at HI
      simp only [Bool.false_eq_true, if_false]
      clear h hok hn
      go_enter Tryz.func24, Tryz.ntmps24
      go_wp2_with fail
      refine HNO.out.mono ?_
      rintro e w1 ⟨rfl, rfl⟩
      go_wp2_with fail
      refine (HT.out _).mono ?_
      rintro e w1 ⟨rfl, rfl⟩
      go_wp2_with fail
      refine (HI.out _).mono ?_
      rintro e w1 ⟨rfl, rfl⟩
      go_wp2_with fail
      go_ret
      exact DtP.err HD.out
    | true =>
      rw [hn] at HI
      simp only [if_true]
      have hdg := DG.below h ((Below.refl w.heap.size w).alloc (Nat.le_refl _) (.cells #[.string t, .bool false, .int .i64 0, .int .i64 0, .slice none 0 0] 39))
      have HDG := Lib.hid hdg
      have HP := Lib.hid (rput_any hdg.dk s hn ⟨1, some ⟨w.heap.size, 0, none⟩, 1, 1⟩ ⟨1, t, []⟩ (line_at t hok) hN)
      clear h hok hn hdg
      go_enter Tryz.func24, Tryz.ntmps24
      go_wp2_with fail
      refine HNO.out.mono ?_
      rintro e w1 ⟨rfl, rfl⟩
      go_wp2_with fail
      refine (HT.out _).mono ?_
      rintro e w1 ⟨rfl, rfl⟩
      go_wp2_with fail
      refine (HI.out _).mono ?_
      rintro e w1 ⟨rfl, rfl⟩
      go_wp2_with fail
      refine HP.out.mono ?_
      rintro e w2 ⟨rfl, hg⟩
      have HG := Lib.hid (HDG.out.trans hg HD.out.hf)
      clear hg
      go_wp2_with fail
      go_ret
      exact ⟨⟨_, (putN_in _ _ _).1, (putN_in _ _ _).2, rfl, HG.out⟩⟩
end Go.Proofs.YtgpanlkcpnlejaaGreat
/- The document's store: Remove; what Macro puts. -/
namespace Go.Proofs.YtgpanlkcpnlejaaGreat
open Go.RowKit Go.Maps
set_option maxRecDepth 100000
theorem DtP.err_below {F : Nat → Prop} {bx N : Nat} {L : List Reg} {M : Nat → Mc} {w w' : World} {k : Int} (h : DK F bx L N M w) (hb : Below w.heap.size w w') : DtP F bx N (k, L, M) w (.returned (.int .i64 k)) w' := ⟨⟨N, Nat.le_refl _, Nat.le_succ _, rfl, DG.below h hb⟩⟩
/-- A macro's entry of new lines. -/
theorem macro_at {F : Nat → Prop} {w w1 w2 : World} {A : Option Addr} {n c : Nat} {ls : List Ln} (h : LnsAt (NT w1.heap.size w2) w2 A n ls) (hz : w.heap.size ≤ w1.heap.size) (hA : A = none → n = 0) (hc : n ≤ c) (hc9 : (c : Int) ≤ 9223372036854775807) (hall : ls.all okLn = true) (hn : ls.length ≤ 2000) :
    DeIs (Up F w w2) w2 ⟨2, A, n, c⟩ ⟨2, ⟨#[]⟩, ls⟩ :=
  ⟨rfl, (h.wide fun _ b hb => ⟨.inr ⟨Nat.le_trans hz hb.1, hb.2.lt⟩, hb.2⟩ : LnsAt (FT (Up F w w2) w2) w2 A n ls), hA, hc, hc9, .inr ⟨rfl, rfl, hn, hall⟩⟩
theorem rRemove_any {F : Nat → Prop} {bx : Nat} {L : List Reg} {N : Nat} {M : Nat → Mc} {w : World} (h : DK F bx L N M w) (s : ByteArray) : Calls Tryz.prog 28 #[BP bx, .string s] w (DtP F bx N (remS L M s.data.toList) w) := by
  have HNO := Lib.hid (rno_any h)
  have HI := Lib.hid (fun W => rIsName_any s W)
  have HL := Lib.hid (rlose_any h s)
  have HD := Lib.hid h
  unfold remS
  clear h
  cases hn : okNm s.data.toList with
  | false =>
    rw [hn] at HI
    simp only [Bool.false_eq_true, if_false]
    clear hn
    go_enter Tryz.func28, Tryz.ntmps28
    go_wp2_with fail
    refine HNO.out.mono ?_
    rintro e w1 ⟨rfl, rfl⟩
    go_wp2_with fail
    refine (HI.out _).mono ?_
    rintro e w1 ⟨rfl, rfl⟩
    go_wp2_with fail
    go_ret
    exact DtP.err HD.out
  | true =>
    rw [hn] at HI
    simp only [if_true]
    clear hn
    go_enter Tryz.func28, Tryz.ntmps28
    go_wp2_with fail
    refine HNO.out.mono ?_
    rintro e w1 ⟨rfl, rfl⟩
    go_wp2_with fail
    refine (HI.out _).mono ?_
    rintro e w1 ⟨rfl, rfl⟩
    go_wp2_with fail
    refine HL.out.mono ?_
    rintro e w2 ⟨rfl, hg⟩
    have HG := Lib.hid hg
    clear hg
    go_wp2_with fail
    go_ret
    exact ⟨⟨N, Nat.le_refl _, Nat.le_succ _, rfl, HG.out⟩⟩
end Go.Proofs.YtgpanlkcpnlejaaGreat
