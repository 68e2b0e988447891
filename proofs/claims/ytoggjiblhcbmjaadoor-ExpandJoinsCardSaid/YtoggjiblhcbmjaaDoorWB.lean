/- Who is asked: the one who always answers 3, and the teller without answers. -/
import Derived.Test.YtoggjiblhcbmjaaDoorWA
import Derived.Maps.AppendAt
import Derived.Deep.RegionLaw
namespace Go.Proofs.YtoggjiblhcbmjaaDoor
open Go.RowKit Go.Shelf
set_option maxRecDepth 100000
theorem fixed_any (k : Int) (nm : ByteArray) (st : Int) (w : World) : Calls Tryd.prog 16 #[.int .u8 k, .string nm, .int .i64 st] w fun e w' => e = .returned (.string (bs [51])) ∧ w = w' := by
  go_enter Tryd.func16, Tryd.ntmps16
  go_wp2_with fail
  go_ret
  exact ⟨rfl, rfl⟩
/-- append to a row of one's own, as a step of a region that draws. -/
theorem step_append_own {ops : Array Oper} {o : Oper} {a : Act} {w : World} {K : Act → World → Prop} {Q : Exit → Act → World → Prop} {E : Prop}
    (hg : o.guard = none) (s x : Operand) (t : TypeId) (hop : o.op = Op.call { callee := Callee.builtin Builtin.append, args := #[s, x], argTypes := #[t, t] })
    (base : Nat) (e : TypeId) (i : TypeInfo) (z : Value) (size bytes : Nat) (ht : Tryd.prog.underlying t = some (.slice e)) (hi : Tryd.prog.info? e = some i) (hz : i.zero = some z) (hsize : i.size = size) (hby : i.bytes = bytes) (hzs : z.cells.size = size) (hsz : 0 < size)
    (v : Value) (n : Nat) (xs : List Value) (hs : a.eval s = v) (hown : w.ownsRow base e size v n xs)
    (ad : Addr) (m c : Nat) (news : List Value) (hx : a.eval x = .slice (some ad) m c) (hl : news.length = m * size) (hnews : ∀ j u, news[j]? = some u → w.cell? (ad.add j) = some u) (h1 : ∀ u ∈ news, u.oneCell' = true)
    (h63 : n + m ≤ maxLen) (hbytes : (n + m) * bytes ≤ 140737488355328) (hbase : base ≤ w.heap.size)
    (hK : ∀ v' w', w'.ownsRow base e size v' (n + m) (xs ++ news) → w.grownBy w' v.ownBlock → (v'.ownBlock = v.ownBlock ∨ v'.ownBlock = some w.heap.size) → K (a.put o.dst v') w') :
    if Region.wanted o (yielded ops a.tmps) = true then Oper.wp Tryd.prog o a w K Q else E := by
  have hw : Region.wanted o (yielded ops a.tmps) = true := by simp [Region.wanted, hg]
  rw [if_pos hw]
  obtain ⟨v', w', hr, h2, h3, _, h5⟩ := run_append_own_at (P := Tryd.prog) w base t o.type e i z size bytes ht hi hz hsize hby hzs hsz v n xs hown ad m c news hl hnews h1 h63 hbytes hbase
  unfold Oper.wp
  simp [execOp, hop, resolve, invoke, builtin, hs, hx, hr, Result.andThen]
  exact hK v' w' h2 h3 h5
theorem info_ask : (Tryd.prog.info? 62).map (fun i => (i.zero, i.size, i.bytes)) = some (some (.agg #[.int .u8 0, .string ⟨#[]⟩, .int .i64 0]), 3, 32) := by kernel_rfl
theorem row_shape {w : World} {base : Nat} {e : TypeId} {size n : Nat} {v : Value} {xs : List Value} (h : w.ownsRow base e size v n xs) : ∃ o cap, v = .slice o n cap ∧ n ≤ cap ∧ (cap : Int) ≤ 9223372036854775807 := by
  rcases h.2 with ⟨hv, hn⟩ | ⟨g, cap, cur, hv, _, _, h1, h2, _⟩
  · exact ⟨none, 0, by rw [hv, hn], by omega, by omega⟩
  · exact ⟨_, _, hv, h1, by unfold maxLen at h2; omega⟩
/-- The teller: what he was asked, n questions; he has no answers. -/
def Tl (B tb n : Nat) (w : World) : Prop := B ≤ tb ∧ ∃ v xs, w.heap[tb]? = some (.cells #[v, .slice none 0 0] 39 (0, 0)) ∧ w.ownsRow B 62 3 v n xs
theorem cell_add3 (W : World) (c0 c1 c2 : Value) (e : TypeId) : ∀ j u, [c0, c1, c2][j]? = some u → (W.alloc (.cells #[c0, c1, c2] e)).cell? ((⟨W.heap.size, 0, none⟩ : Addr).add j) = some u := by
  intro j u hu
  have h := heap_alloc_new W (.cells #[c0, c1, c2] e)
  have e : ((⟨W.heap.size, 0, none⟩ : Addr).add j) = ⟨W.heap.size, j, none⟩ := by
    rcases Nat.eq_zero_or_pos j with rfl | hj
    · rfl
    · unfold Addr.add; rw [if_neg (by omega)]; simp
  rw [e]
  simp only [World.cell?, h]
  have : (#[c0, c1, c2] : Array Value).toList[j]? = some u := hu
  rwa [Array.getElem?_toList] at this
theorem Tl.sk {B tb n : Nat} {w w' : World} (h : Tl B tb n w) (k : Sk w w') : Tl B tb n w' := by
  obtain ⟨h1, v, xs, h2, h3⟩ := h
  refine ⟨h1, v, xs, k _ _ h2 ⟨_, _, _, rfl, .inr (.inl rfl)⟩, h3.1, ?_⟩
  rcases h3.2 with h | ⟨g, cap, cur, e1, e2, e3, e4⟩
  · exact .inl h
  · exact .inr ⟨g, cap, cur, e1, e2, k _ _ e3 ⟨_, _, _, rfl, .inr (.inr rfl)⟩, e4⟩
theorem own_ne {w : World} {B n size : Nat} {e T : TypeId} {v : Value} {xs : List Value} {b : Nat} {cs : Array Value} {fr : Nat × Nat} (hown : w.ownsRow B e size v n xs) (hb : w.heap[b]? = some (.cells cs T fr)) (hTe : T ≠ e) : some b ≠ v.ownBlock := by
  rcases hown.2 with ⟨rfl, _⟩ | ⟨g, cap, cur, rfl, _, hg, _⟩
  · simp [Value.ownBlock]
  · intro h
    simp only [Value.ownBlock, Option.some.injEq] at h
    subst h
    rw [hg] at hb
    cases hb
    exact hTe rfl
/-- What an answer leaves. -/
structure AnP (B tb n : Nat) (w w' : World) : Prop where
  tl : Tl B tb n w'
  fr : Fr B w w'
  ex : ∀ (k : Nat) (c : Array Value) (fz : Nat × Nat), w.heap[k]? = some (.cells c 58 fz) → w'.heap[k]? = some (.cells c 58 fz)
set_option maxHeartbeats 4000000 in
theorem answer_any {B tb n : Nat} {w : World} (h : Tl B tb n w) (hB : B ≤ w.heap.size) (hn : n ≤ 100000) (k : Int) (nm : ByteArray) (st : Int) : Calls Tryd.prog 32 #[.pointer (some ⟨tb, 0, none⟩), .agg #[.int .u8 k, .string nm, .int .i64 st]] w fun e w' => e = .returned (.string ⟨#[]⟩) ∧ AnP B tb (n + 1) w w' := by
  have htl := h.sk (Sk.of (bel0 w (.cells #[.int .u8 k, .string nm, .int .i64 st] 62)))
  obtain ⟨hBt, v, xs, hblk, hown⟩ := htl
  obtain ⟨o, cap, rfl, hc1, hc2⟩ := row_shape hown
  have hnew := heap_alloc_new w (.cells #[.int .u8 k, .string nm, .int .i64 st] 62)
  obtain ⟨W, hW⟩ : ∃ W, W = w.alloc (.cells #[.int .u8 k, .string nm, .int .i64 st] 62) := ⟨_, rfl⟩
  rw [← hW] at hblk hown hnew
  have hWs : W.heap.size = w.heap.size + 1 := by rw [hW]; simp
  have x0 : W.cell? ⟨w.heap.size, 0, none⟩ = some (.int .u8 k) := by simp [World.cell?, hnew]
  have x1 : W.cell? ⟨w.heap.size, 1, none⟩ = some (.string nm) := by simp [World.cell?, hnew]
  have x2 : W.cell? ⟨w.heap.size, 2, none⟩ = some (.int .i64 st) := by simp [World.cell?, hnew]
  have y0 : W.cell? ⟨tb, 0, none⟩ = some (.slice o n cap) := by simp [World.cell?, hblk]
  have y1 : W.cell? ⟨tb, 1, none⟩ = some (.slice none 0 0) := by simp [World.cell?, hblk]
  have f0 : W.frozen? ⟨tb, 0, none⟩ = false := by simp [World.frozen?, hblk]
  have htb : tb < W.heap.size := (Array.getElem?_eq_some_iff.1 hblk).1
  obtain ⟨i0, hi0, hz0, hz1, hz2⟩ := info_parts info_ask
  have ho1 := hown.alloc (.cells #[.int .u8 k, .string nm, .int .i64 st] 62)
  have HO1 : Hid ((W.alloc (.cells #[.int .u8 k, .string nm, .int .i64 st] 62)).drew.ownsRow B 62 3 (.slice o n cap) n xs) := Lib.hid ⟨ho1.1, ho1.2⟩
  have hs1 := cell_add3 W (.int .u8 k) (.string nm) (.int .i64 st) 62
  have HSRC : Hid (∀ j u, [Value.int .u8 k, .string nm, .int .i64 st][j]? = some u → (W.alloc (.cells #[.int .u8 k, .string nm, .int .i64 st] 62)).drew.cell? ((⟨W.heap.size, 0, none⟩ : Addr).add j) = some u) := Lib.hid hs1
  have HW := Lib.hid hW
  have HBLK := Lib.hid hblk
  have HWS := Lib.hid hWs
  have HBW : Hid (B ≤ (W.alloc (.cells #[.int .u8 k, .string nm, .int .i64 st] 62)).drew.heap.size) := Lib.hid (by show B ≤ (W.alloc _).heap.size; rw [siz0, hWs]; omega)
  have HNE := Lib.hid (own_ne hown hblk (by decide))
  have HB0 := Lib.hid hB
  have HBT := Lib.hid hBt
  have HNX : Hid (∀ (k : Nat) (c : Array Value) (fz : Nat × Nat), w.heap[k]? = some (.cells c 58 fz) → some k ≠ (Value.slice o n cap).ownBlock ∧ W.heap[k]? = some (.cells c 58 fz)) := Lib.hid fun j c fz hj => by
    have : W.heap[j]? = some (.cells c 58 fz) := by rw [hW]; exact (heap_alloc_old w _ (Array.getElem?_eq_some_iff.1 hj).1).trans hj
    exact ⟨own_ne hown this (by decide), this⟩
  have HRB : Hid (∀ g, (Value.slice o n cap).ownBlock = some g → B ≤ g ∧ ∃ c fz, W.heap[g]? = some (.cells c 62 fz)) := Lib.hid fun g hg => by
    refine ⟨(hown.lt g hg).1, ?_⟩
    rcases hown.2 with ⟨h1, _⟩ | ⟨g', cap', cur, h1, _, h3, _⟩
    · rw [h1] at hg; simp [Value.ownBlock] at hg
    · rw [h1] at hg; simp only [Value.ownBlock, Option.some.injEq] at hg; subst hg; exact ⟨_, _, h3⟩
  clear hblk hown hnew hW h hs1 ho1 hWs hB hBt
  go_enter Tryd.func32, Tryd.ntmps32
  go_wp2_with fail
  rw [← HW.out]
  go_region_law (first
    | (refine step_append_own rfl (.tmp 11) (.tmp 13) 35 rfl B 62 i0 _ 3 32 Tryd.underlying35 hi0 hz0 hz1 hz2 rfl (by decide) (.slice o n cap) n xs (by simp [Act.eval, Act.put]) HO1.out ⟨W.heap.size, 0, none⟩ 1 1 [.int .u8 k, .string nm, .int .i64 st] (by simp [Act.eval, Act.put]) rfl HSRC.out (fun u hu => by simp only [List.mem_cons, List.not_mem_nil, or_false] at hu; rcases hu with rfl | rfl | rfl <;> rfl) (by unfold maxLen; omega) (by omega) HBW.out ?_
       intro v2 w2 hown2 hgrow2 hat2
       obtain ⟨o2, cap2, rfl, _, _⟩ := row_shape hown2
       have hg2 : (W.alloc (.cells #[.int .u8 k, .string nm, .int .i64 st] 62)).grownBy w2 (Value.slice o n cap).ownBlock := ⟨hgrow2.os, hgrow2.tape, hgrow2.output, hgrow2.size, hgrow2.block⟩
       have HG2 := Lib.hid hg2
       have HO2 := Lib.hid hown2
       have hblk2 : w2.heap[tb]? = some (.cells #[.slice o n cap, .slice none 0 0] 39 (0, 0)) := (hg2.block tb (by rw [siz0]; omega) HNE.out).trans ((heap_alloc_old W _ htb).trans HBLK.out)
       have z0 : w2.cell? ⟨tb, 0, none⟩ = some (.slice o n cap) := by simp [World.cell?, hblk2]
       have z1 : w2.cell? ⟨tb, 1, none⟩ = some (.slice none 0 0) := by simp [World.cell?, hblk2]
       have zf : w2.frozen? ⟨tb, 0, none⟩ = false := by simp [World.frozen?, hblk2]
       have HBLK2 := Lib.hid hblk2
       clear hblk2 hown2 hgrow2 hat2 hg2))
  all_goals
    go_wp2_with fail
    go_ret
    refine ⟨rfl, ?_⟩
    have hbw := HWS.out
    have hg := HG2.out
    have hsz2 : W.heap.size + 1 ≤ w2.heap.size := by have := hg.size; rw [siz0] at this; exact this
    have hne : ∀ j, j ≠ tb → (w2.setCell ⟨tb, 0, none⟩ (.slice o2 (n + 1) cap2)).heap[j]? = w2.heap[j]? := fun j hj => Below.heap_setCell _ _ _ _ (fun e => hj (by first | exact e | exact e.symm))
    have hst : ∀ j, j < w.heap.size → j ≠ tb → some j ≠ (Value.slice o n cap).ownBlock → (w2.setCell ⟨tb, 0, none⟩ (.slice o2 (n + 1) cap2)).heap[j]? = w.heap[j]? := by
      intro j hj hjt hjr
      rw [hne j hjt, hg.block j (by rw [siz0]; omega) hjr, heap_alloc_old W _ (show j < W.heap.size by omega), HW.out, heap_alloc_old w _ hj]
    refine ⟨⟨HBT.out, .slice o2 (n + 1) cap2, _, ?_, HO2.out.kept (row := some tb) ⟨rfl, rfl, rfl, by simp [World.setCell], fun j _ hj => hne j (fun e => hj (by rw [e]))⟩ (.inr (fun e => own_ne HO2.out HBLK2.out (by decide) e.symm))⟩, ⟨⟨?_, ?_, ?_, ?_, ?_⟩, ?_⟩, ?_⟩
    · simp [World.setCell, Array.getElem?_modify, HBLK2.out]
    · show w2.os = w.os; rw [hg.os]; show W.os = w.os; rw [HW.out]; rfl
    · show w2.tape = w.tape; rw [hg.tape]; show W.tape = w.tape; rw [HW.out]; rfl
    · show w2.output = w.output; rw [hg.output]; show W.output = w.output; rw [HW.out]; rfl
    · simp only [World.setCell, Array.size_modify]; omega
    · intro j hj
      refine hst j (by have := HB0.out; omega) (by have := HBT.out; omega) ?_
      intro e
      have := (HRB.out j e.symm).1
      omega
    · intro j o' hj ho'
      have hjl := (Array.getElem?_eq_some_iff.1 hj).1
      have hWj : W.heap[j]? = some o' := by rw [HW.out]; exact (heap_alloc_old w _ hjl).trans hj
      refine (hst j hjl ?_ ?_).trans hj
      · rintro rfl
        rw [HBLK.out] at hWj
        cases hWj
        exact ho' ⟨_, _, _, rfl, .inr (.inl rfl)⟩
      · intro e
        obtain ⟨c, fz, hc⟩ := (HRB.out j e.symm).2
        rw [hc] at hWj
        cases hWj
        exact ho' ⟨_, _, _, rfl, .inr (.inr rfl)⟩
    · intro j c fz hj
      obtain ⟨h1, h2⟩ := HNX.out j c fz hj
      refine (hst j (Array.getElem?_eq_some_iff.1 hj).1 ?_ h1).trans hj
      rintro rfl
      rw [HBLK.out] at h2
      cases h2
end Go.Proofs.YtoggjiblhcbmjaaDoor
