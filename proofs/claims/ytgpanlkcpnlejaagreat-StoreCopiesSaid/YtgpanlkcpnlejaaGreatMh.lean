/- The document's store: New, Names. -/
import Derived.Test.YtgpanlkcpnlejaaGreatMg
import Derived.Test.YtgpanlkcpnlejaaGreatIter
import Derived.Sort.KeysCollected
import Derived.Sort.Walk0
import Derived.Test.YtgpanlkcpnlejaaGreatMe
import Derived.Deep.RegionHeld3
set_option linter.unusedSimpArgs false
set_option linter.unusedVariables false
namespace Go.Proofs.YtgpanlkcpnlejaaGreat
open Go.RowKit Go.Maps
set_option maxRecDepth 100000
theorem rNew_any (w : World) (M : Nat → Mc) : Calls Tryz.prog 8 #[] w fun e w' => e = .returned (BP w.heap.size) ∧ DK (fun k => k = w.heap.size) w.heap.size [] 0 M w' ∧ Below w.heap.size w w' := by
  go_enter Tryz.func8, Tryz.ntmps8
  go_wp2_with fail
  go_ret
  refine ⟨rfl, ⟨none, 0, none, 0, [], ?_, World.ownsRow_nil _ _ _ _, World.ownsRow_nil _ _ _ _, fun i e h => by simp at h, fun g h => by simp [Value.ownBlock] at h, fun g h => by simp [Value.ownBlock] at h, rfl, fun k hk => ?_, List.Pairwise.nil, (fun r hr => by cases hr), Nat.zero_le _⟩, (Below.refl _ _).alloc (Nat.le_refl _) _⟩
  · exact heap_alloc_new w _
  · rw [hk]; simp
def nsCs (r : Reg) : List Value := [.string ⟨r.nm.toArray⟩]
theorem ns_len (r : Reg) : (nsCs r).length = 1 := rfl
theorem ns_one (r : Reg) : ∀ u ∈ nsCs r, u.oneCell' = true := by
  intro u hu
  simp only [nsCs, List.mem_cons, List.not_mem_nil, or_false] at hu
  rcases hu with rfl; rfl
theorem info_str : (Tryz.prog.info? 9).map (fun i => (i.zero, i.size, i.bytes)) = some (some (.string ⟨#[]⟩), 1, 16) := by kernel_rfl
/-- Behind j rounds of Names. -/
def NaR (w : World) (L : List Reg) (k : Nat) (x i : Value) (wr : World) : Prop :=
  ∃ j : Nat, k + j = L.length ∧ i = .int .i64 j ∧ wr.ownsRow w.heap.size 9 1 x j ((L.take j).flatMap nsCs) ∧ Below w.heap.size w wr
/-- What Names leaves. -/
structure NmP (L : List Reg) (w : World) (e : Ending) (w' : World) : Prop where
  ex : ∃ A c, e = .returned (.slice A L.length c) ∧ ReadsP (fun b => b < w'.heap.size) w' 1 A L.length (L.flatMap nsCs)
  below : Below w.heap.size w w'
theorem cell_one_new (w : World) (c0 : Value) (e : TypeId) : ∀ j u, [c0][j]? = some u → (w.alloc (.cells #[c0] e)).cell? ((⟨w.heap.size, 0, none⟩ : Addr).add j) = some u := by
  intro j u hu
  rw [cell_add]
  have h := heap_alloc_new w (.cells #[c0] e)
  simp only [World.cell?, h, Nat.zero_add]
  have : (#[c0] : Array Value).toList[j]? = some u := hu
  rwa [Array.getElem?_toList] at this
set_option maxHeartbeats 2000000 in
theorem rNames_any {F : Nat → Prop} {bx : Nat} {L : List Reg} {N : Nat} {M : Nat → Mc} {w : World} (h : DK F bx L N M w) : Calls Tryz.prog 33 #[BP bx] w (NmP L w) := by
  have HNO := Lib.hid (rno_any h)
  have HD := Lib.hid h
  obtain ⟨no, nc, eo, ec, es, h⟩ := h
  have hl := h.len
  have HF := Lib.hid (HD.out.hf _ h.fb)
  have HB := Lib.hid h
  obtain ⟨i0, hi0, hz0, hz1, hz2⟩ := info_parts info_str
  have HST : Hid (NaR w L L.length (.slice none 0 0) (.int .i64 0) w) := Lib.hid ⟨0, rfl, rfl, World.ownsRow_nil _ _ _ _, Below.refl _ _⟩
  clear h
  go_enter Tryz.func33, Tryz.ntmps33
  go_wp2_with fail
  refine HNO.out.mono ?_
  rintro e w1 ⟨rfl, rfl⟩
  go_wp2_with fail
  go_loopg [3, 4] L.length (fun k x i wr => NaR w L k x i wr)
  case atStart => exact HST.out
  case round =>
    obtain ⟨j, hk, rfl, ho, hb⟩ := hrel
    have HK := Lib.hid hk
    have hcb : wr.cell? ⟨bx, 1, none⟩ = some (.slice no L.length nc) := (hb.cell (p := ⟨bx, 1, none⟩) HF.out).trans HB.out.c.2.1
    by_cases hj : j < L.length
    · have dj : decide (j < L.length) = true := decide_eq_true hj
      obtain ⟨g, rfl, c0, c1⟩ := HB.out.nm j hj
      have hgl : g < w.heap.size := HD.out.hf g (HB.out.nF g rfl)
      rw [← hb.cell (p := ⟨g, j * 2, none⟩) hgl] at c0
      have HJ := Lib.hid hj
      have hj5 : j < 1000 := by omega
      have HDT := Lib.hid (List.take_succ_eq_append_getElem hj)
      obtain ⟨o, cap, rfl, _, _⟩ := row_shape ho
      generalize hrg : L[j] = r at c0 HDT
      obtain ⟨nm, v⟩ := r
      simp only at c0
      obtain ⟨x, hx⟩ : ∃ x : ByteArray, x = ⟨nm.toArray⟩ := ⟨_, rfl⟩
      rw [← hx] at c0
      have HX := Lib.hid hx
      have hs4 := cell_one_new wr (.string x) 9
      have HSRC := Lib.hid hs4
      have HO4 := Lib.hid (own_kept ho (Kept.of (S := fun _ => False) ((Below.refl wr.heap.size wr).alloc (Nat.le_refl _) (.cells #[.string x] 9))) (fun _ _ h => h))
      have HO := Lib.hid ho
      have HBW := Lib.hid hb
      have HZ := Lib.hid hb.size
      clear hk hj ho hb hrg hx hgl hs4 c1
      go_wp2_with (first
        | (at_builtin; refine wpList_append_own _ rfl _ _ 53 rfl w.heap.size 9 i0 _ 1 16 Tryz.underlying53 hi0 hz0 hz1 hz2 rfl (by decide) _ _ _ rfl HO4.out ⟨wr.heap.size, 0, none⟩ 1 1 [.string x] rfl rfl HSRC.out (fun u hu => by simp only [List.mem_cons, List.not_mem_nil, or_false] at hu; rcases hu with rfl; rfl) (by unfold maxLen; omega) (by omega) (by have := HZ.out; simp; omega) ?_
           intro v5 w5 hown5 hgrow5 _
           have hg5 : (wr.alloc (.cells #[.string x] 9)).grownBy w5 (Value.slice o j cap).ownBlock := hgrow5
           have HG5 := Lib.hid hg5
           have HO5 := Lib.hid hown5
           clear hgrow5 hg5 hown5))
      go_roundg (gk - 1)
      case measure => have := HK.out; have := HJ.out; omega
      case rel =>
        have := HK.out
        have := HJ.out
        have hz := HZ.out
        have e1 := HDT.out
        refine ⟨j + 1, by omega, by first | go_num | (congr 1; rw [IntWalk.wrap64_in _ (by omega)]; omega), ?_, (HBW.out.alloc hz (.cells #[.string x] 9)).grown HG5.out (by simp; omega) (fun k hk => (own_tag HO.out hk).2)⟩
        rw [e1, List.flatMap_append]
        have h5 := HO5.out
        rw [HX.out] at h5
        simpa [nsCs] using h5
    · have dj : decide (j < L.length) = false := decide_eq_false hj
      have hje : j = L.length := by omega
      obtain ⟨o, cap, rfl, _, _⟩ := row_shape ho
      rw [List.take_of_length_le (by omega)] at ho
      have hr := ReadsP.of_own (P := fun b => b < wr.heap.size) ho (fun g cs hg _ => lt_of_block hg)
      have HR := Lib.hid hr
      have HJ := Lib.hid hje
      have HBB := Lib.hid hb
      clear hk hj ho hb hr hje
      go_wp2_with fail
      go_ret
      have e := HJ.out
      subst e
      exact ⟨⟨o, cap, rfl, HR.out⟩, HBB.out⟩
end Go.Proofs.YtgpanlkcpnlejaaGreat
/- The names of the code's store, in order. -/
namespace Go.Proofs.YtgpanlkcpnlejaaGreat
open Go.RowKit Go.Shelf Go.Maps Go.Sort
set_option maxRecDepth 100000
def nmsOf (L : List Reg) : List (List UInt8) := L.map fun r => r.nm
theorem nms_nodup (L : List Reg) (h : Asc L) : (nmsOf L).Nodup := by
  unfold nmsOf
  exact List.pairwise_map.2 (h.imp fun hab => blt_ne hab)
theorem mem_nms (L : List Reg) (x : List UInt8) : x ∈ nmsOf L ↔ hasS L x = true := by
  unfold nmsOf hasS
  rw [List.mem_map, List.any_eq_true]
  constructor
  · rintro ⟨r, hr, rfl⟩; exact ⟨r, hr, by simp⟩
  · rintro ⟨r, hr, h⟩; exact ⟨r, hr, by simpa using h⟩
theorem nms_sorted (L : List Reg) (h : Asc L) : (nmsOf L).mergeSort (fun x y => decide (x ≤ y)) = nmsOf L := by
  have tr : ∀ a b c : List UInt8, leB a b = true → leB b c = true → leB a c = true := fun a b c h1 h2 => by simp only [leB, decide_eq_true_eq] at *; exact List.le_trans h1 h2
  refine List.mergeSort_of_pairwise ?_
  unfold nmsOf
  refine List.pairwise_map.2 (h.imp fun {a b} hab => ?_)
  rw [bytesLess_eq] at hab
  simp only [decide_eq_true_eq] at hab ⊢
  exact List.le_of_lt hab
theorem keys_perm {mb n : Nat} {D : DataW Unit} {L : List Reg} {w : World} (hown : w.ownsMap Tryz.prog 9 regElem mb n D) (his : MapIs D L) (hA : Asc L) : (nmsOf L).Perm (strKeys D) := by
  obtain ⟨es, rfl, hk⟩ := hown.keysOf
  obtain ⟨es', he, hp⟩ := hown.tidy law
  obtain rfl : es = es' := by simpa using he
  refine perm_strKeys hp (fun p hp' => ?_) (nms_nodup L hA) (fun x => by rw [mem_nms, his.has])
  obtain ⟨key, hkey⟩ := hk p hp'
  obtain ⟨x, _, hx, _⟩ := Maps.keyOf_str Tryz.underlying9 hkey
  exact ⟨x, hx⟩
theorem sorts_ok (m : Nat) : AnyZ.SortsIn Tryz.prog Tryz.sorted62_ren Fence.wide m :=
  ⟨fun blk off cap ss W hH hblk hsz => callsIn_wide.2 (AnyM.slices_Sort_string Tryz.sort80 blk off cap ss W hH hblk hsz),
   fun p cap W => callsIn_wide.2 (AnyM.slices_Sort_string_none Tryz.sort80 p cap W)⟩
theorem keys_call (mb : Nat) (W : World) : Calls Tryz.prog 63 #[.map (some mb)] W fun e w' => e = .returned (.func (.func 81) #[] #[.pointer (some ⟨W.heap.size, 0, none⟩)]) ∧ w' = W.alloc (.cells #[.map (some mb)] 44) :=
  callsIn_wide.1 (AnyZ.keys_in Tryz.keys63 Fence.wide 5 trivial rfl (some mb) W)
set_option maxHeartbeats 1000000 in
theorem sorted_call {mb n : Nat} {D : DataW Unit} {L : List Reg} {w : World} (hown : w.ownsMap Tryz.prog 9 regElem mb n D) (his : MapIs D L) (hA : Asc L) (hl : L.length ≤ 500) :
    Calls Tryz.prog 62 #[.func (.func 81) #[] #[.pointer (some ⟨w.heap.size, 0, none⟩)]] (w.alloc (.cells #[.map (some mb)] 44)) fun e w' => ∃ v, e = .returned v ∧ w'.ownsRow (w.heap.size + 1) 9 1 v L.length ((nmsOf L).map encStr) ∧ Below (w.heap.size + 1) (w.alloc (.cells #[.map (some mb)] 44)) w' := by
  have hbl := hown.lt
  have hsz := his.size
  have hmax : Maps.size D ≤ maxLen := by unfold maxLen; omega
  have hbytes : Maps.size D * 16 ≤ 140737488355328 := by omega
  have hseq : SeqGives Fence.wide 2 Tryz.prog 81 #[.pointer (some ⟨w.heap.size, 0, none⟩)] encStr (fun ss => ss.Perm (strKeys D)) (Maps.size D) (w.alloc (.cells #[.map (some mb)] 44)) :=
    AnyZ.keys_gives (ρ := Tryz.keys63_ren) { Tryz.keys63 with } Fence.wide _ trivial rfl (by omega) w.heap.size mb n D _ (by simp) (by simp) (by
      obtain ⟨es, clock, hb, Ft, hs, hD⟩ := hown
      exact ⟨es, clock, (Below.heap_alloc _ _ mb hbl).trans hb, Ft, hs, hD⟩)
  have hc := callsIn_wide.1 (AnyZ.sorted_in Tryz.sorted62 Fence.wide 5 trivial trivial trivial trivial rfl (by omega) (sorts_ok _) (enters_of Tryz.func80 (by kernel_rfl) rfl) 81 #[.pointer (some ⟨w.heap.size, 0, none⟩)] trivial (enters_of Tryz.func81 (by kernel_rfl) rfl) _ _ hmax hbytes _ hseq)
  refine hc.mono ?_
  rintro e w' ⟨v, ss, rfl, hS, hrow, hnil, hb⟩
  have hp := keys_perm hown his hA
  have hps : ss.Perm (nmsOf L) := hS.trans hp.symm
  have e1 : ss.mergeSort (fun x y => decide (x ≤ y)) = nmsOf L := (mergeSort_of_perm hps).trans (nms_sorted L hA)
  have e2 : ss.length = L.length := by rw [hps.length_eq]; simp [nmsOf]
  rw [e1, e2] at hrow
  have e3 : (w.alloc (.cells #[.map (some mb)] 44)).heap.size = w.heap.size + 1 := by simp
  rw [e3] at hrow hb
  exact ⟨v, rfl, hrow, hb⟩
theorem ns_eq (L : List Reg) : (nmsOf L).map encStr = L.flatMap nsCs := by
  unfold nmsOf
  induction L with
  | nil => rfl
  | cons x t ih => rw [List.map_cons, List.map_cons, ih, List.flatMap_cons]; rfl
theorem names_call {F : Nat → Prop} {sb mb : Nat} {L : List Reg} {M : Nat → Mc} {w : World} (h : SA F sb mb L M w) : Calls Tryz.prog 35 #[BP sb] w (NmP L w) := by
  obtain ⟨E, h⟩ := h
  have hc := h.sk.c0
  have HM := Lib.hid (made_any h.sk)
  obtain ⟨D, hown, his⟩ := h.sk.map
  have HK := Lib.hid (keys_call mb w)
  have HS := Lib.hid (sorted_call hown his h.sk.asc h.sk.len)
  clear h hown his
  go_enter Tryz.func35, Tryz.ntmps35
  go_wp2_with fail
  refine HM.out.mono ?_
  rintro e w1 ⟨rfl, rfl⟩
  go_wp2_with fail
  refine HK.out.mono ?_
  rintro e w2 ⟨rfl, rfl⟩
  go_wp2_with fail
  refine HS.out.mono ?_
  rintro e w3 ⟨v, rfl, hrow, hb⟩
  have HB := Lib.hid (((Below.refl w.heap.size w).alloc (Nat.le_refl _) (.cells #[.map (some mb)] 44)).trans (hb.mono (Nat.le_succ _)))
  obtain ⟨o, cap, rfl, _, _⟩ := row_shape hrow
  rw [ns_eq] at hrow
  have HR := Lib.hid (ReadsP.of_own (P := fun b => b < w3.heap.size) hrow (fun g cs hg _ => lt_of_block hg))
  clear hrow hb
  go_wp2_with fail
  go_ret
  exact ⟨⟨o, cap, rfl, HR.out⟩, HB.out⟩
end Go.Proofs.YtgpanlkcpnlejaaGreat
/- The code's store: what it tells, in the same words. -/
namespace Go.Proofs.YtgpanlkcpnlejaaGreat
open Go.RowKit Go.Maps
set_option maxRecDepth 100000
section
variable {F : Nat → Prop} {sb mb : Nat} {L : List Reg} {M : Nat → Mc} {w : World}
theorem SA.mc {F : Nat → Prop} {sb mb : Nat} {L : List Reg} {M : Nat → Mc} {w : World} (h : SA F sb mb L M w) {nm : List UInt8} (hh : hasS L nm = true) : mcOk (M (getS L nm).v) := by
  obtain ⟨E, h⟩ := h
  exact (h.en _ (getS_mem L _ hh)).ok
theorem textC (h : SA F sb mb L M w) (s : ByteArray) (hz : s.size ≤ maxLen) : Calls Tryz.prog 16 #[BP sb, .string s] w fun e w' => e = .returned (.tuple #[.string (textS (mOf L M s.data.toList)).1, .int .i64 (textS (mOf L M s.data.toList)).2]) ∧ w = w' := by
  cases hh : hasS L s.data.toList with
  | false =>
    rw [mOf_no hh]
    obtain ⟨E, h⟩ := h
    exact text_no h.sk s hz hh
  | true =>
    rw [mOf_has hh]
    by_cases hk : (M (getS L s.data.toList).v).kind = 1
    · have hx : textS (M (getS L s.data.toList).v) = ((M (getS L s.data.toList).v).tx, 0) := by unfold textS; rw [if_pos hk]
      rw [hx]
      exact textA h s hz hh hk
    · have hx : textS (M (getS L s.data.toList).v) = (⟨#[]⟩, 6) := by unfold textS; rw [if_neg hk]
      rw [hx]
      obtain ⟨E, h⟩ := h
      refine text_kind h.sk s hz hh ?_
      rw [(h.en _ (getS_mem L _ hh)).kd]
      simpa using hk
theorem kindC (h : SA F sb mb L M w) (s : ByteArray) : Calls Tryz.prog 70 #[BP sb, .string s] w fun e w' => e = .returned (.int .i64 (mOf L M s.data.toList).kind) ∧ Below w.heap.size w w' := by
  have := kindA h s
  cases hn : okNm s.data.toList with
  | true => rw [hn, if_pos rfl] at this; exact this
  | false =>
    rw [hn, if_neg (by decide)] at this
    have hh : hasS L s.data.toList = false := by
      cases hh : hasS L s.data.toList with
      | false => rfl
      | true =>
        obtain ⟨E, h⟩ := h
        have h1 := h.sk.ok _ (getS_mem L _ hh)
        rw [getS_nm, hn] at h1; cases h1
    rw [mOf_no hh]
    exact this
theorem longC (h : SA F sb mb L M w) (s : ByteArray) (hz : s.size ≤ maxLen) : Calls Tryz.prog 67 #[BP sb, .string s] w fun e w' => e = .returned (.tuple #[.int .i64 (longS (mOf L M s.data.toList)).1, .int .i64 (longS (mOf L M s.data.toList)).2]) ∧ w = w' := by
  cases hh : hasS L s.data.toList with
  | false =>
    rw [mOf_no hh]
    obtain ⟨E, h⟩ := h
    have HG := Lib.hid (get_no h.sk s hz hh)
    clear h hh hz
    go_enter Tryz.func67, Tryz.ntmps67
    go_wp2_with fail
    refine HG.out.mono ?_
    rintro e w1 ⟨rfl, rfl⟩
    go_wp2_with fail
    go_ret2
    exact ⟨rfl, rfl⟩
  | true =>
    have hok := h.mc hh
    rw [mOf_has hh]
    obtain ⟨E, h⟩ := h
    have HG := Lib.hid (get_yes h.sk s hz hh)
    have HL := Lib.hid (len_gen h _ (getS_mem L _ hh))
    have hx : longS (M (getS L s.data.toList).v) = ((lenM (M (getS L s.data.toList).v) : Int), 0) := by unfold longS; rw [if_neg (mc_ne0 hok)]
    rw [hx]
    generalize getS L s.data.toList = r at HG HL
    clear h hh hz hok hx
    go_enter Tryz.func67, Tryz.ntmps67
    go_wp2_with fail
    refine HG.out.mono ?_
    rintro e w1 ⟨rfl, rfl⟩
    go_wp2_with fail
    refine HL.out.mono ?_
    rintro e w1 ⟨rfl, rfl⟩
    go_wp2_with fail
    go_ret2
    exact ⟨rfl, rfl⟩
theorem lineC (h : SA F sb mb L M w) (s : ByteArray) (hz : s.size ≤ maxLen) : Calls Tryz.prog 65 #[BP sb, .string s] w fun e w' => ∃ A n c, e = .returned (.tuple #[.slice A n c, .int .i64 (lineS (mOf L M s.data.toList)).2]) ∧ LinP (lineS (mOf L M s.data.toList)).1 w A n c w' := by
  cases hh : hasS L s.data.toList with
  | false =>
    rw [mOf_no hh]
    obtain ⟨E, h⟩ := h
    have HG := Lib.hid (get_no h.sk s hz hh)
    clear h hh hz
    go_enter Tryz.func65, Tryz.ntmps65
    go_wp2_with fail
    refine HG.out.mono ?_
    rintro e w1 ⟨rfl, rfl⟩
    go_wp2_with fail
    go_ret2
    exact ⟨none, 0, 0, rfl, lns_none _, fun _ => rfl, Nat.le_refl _, by decide, Below.refl _ _⟩
  | true =>
    have hx : lineS (M (getS L s.data.toList).v) = (mLines (M (getS L s.data.toList).v), 0) := by unfold lineS; rw [if_neg (mc_ne0 (h.mc hh))]
    rw [mOf_has hh, hx]
    exact linesA h s hz hh
end
end Go.Proofs.YtgpanlkcpnlejaaGreat
/- A deed of either store. -/
namespace Go.Proofs.YtgpanlkcpnlejaaGreat
open Go.RowKit Go.Maps
set_option maxRecDepth 100000
/-- What a deed comes to. -/
def deedS (L : List Reg) (M : Nat → Mc) (d : Dd) (b : Nat) : Int × St :=
  if d.k = 0 then defS L M d.nm.data.toList d.tx b else if d.k = 1 then appS L M d.nm.data.toList d.tx b else if d.k = 2 then macS L M d.nm.data.toList d.ls b else if d.k = 3 then addS L M d.nm.data.toList d.ls b else if d.k = 4 then remS L M d.nm.data.toList
  else if d.k = 5 then renS L M d.nm.data.toList d.ot.data.toList else if d.k = 6 then aliS L M d.nm.data.toList d.ot.data.toList else if d.k = 7 then choS L M d.nm.data.toList else if d.k = 8 then parS L M d.nm.data.toList d.a d.b else (0, L, M)
theorem do_9 {p : Value} {k : Int} {nm ot tx : ByteArray} {A : Option Addr} {n c : Nat} {a b : Int} {w : World} (h0 : k ≠ 0) (h1 : k ≠ 1) (h2 : k ≠ 2) (h3 : k ≠ 3) (h4 : k ≠ 4) (h5 : k ≠ 5) (h6 : k ≠ 6) (h7 : k ≠ 7) (h8 : k ≠ 8) :
    Calls Tryz.prog 9 #[p, DV k nm ot tx A n c a b] w fun e w' => e = .returned (.int .i64 0) ∧ Below w.heap.size w w' := by
  have HB := Lib.hid ((Below.refl w.heap.size w).alloc (Nat.le_refl _) (.cells #[.int .i64 k, .string nm, .string ot, .string tx, .slice A n c, .int .i64 a, .int .i64 b] 33))
  have e0 : (k == (0 : Int)) = false := by simpa using h0
  have e1 : (k == (1 : Int)) = false := by simpa using h1
  have e2 : (k == (2 : Int)) = false := by simpa using h2
  have e3 : (k == (3 : Int)) = false := by simpa using h3
  have e4 : (k == (4 : Int)) = false := by simpa using h4
  have e5 : (k == (5 : Int)) = false := by simpa using h5
  have e6 : (k == (6 : Int)) = false := by simpa using h6
  have e7 : (k == (7 : Int)) = false := by simpa using h7
  have e8 : (k == (8 : Int)) = false := by simpa using h8
  clear h0 h1 h2 h3 h4 h5 h6 h7 h8
  go_enter Tryz.func9, Tryz.ntmps9
  go_wp2_with fail
  go_ret
  exact ⟨rfl, HB.out⟩
theorem told_9 {p : Value} {k : Int} {nm ot tx : ByteArray} {A : Option Addr} {n c : Nat} {a b : Int} {w : World} (h0 : k ≠ 0) (h1 : k ≠ 1) (h2 : k ≠ 2) (h3 : k ≠ 3) (h4 : k ≠ 4) (h5 : k ≠ 5) (h6 : k ≠ 6) (h7 : k ≠ 7) (h8 : k ≠ 8) :
    Calls Tryz.prog 10 #[p, DV k nm ot tx A n c a b] w fun e w' => e = .returned (.int .i64 0) ∧ Below w.heap.size w w' := by
  have HB := Lib.hid ((Below.refl w.heap.size w).alloc (Nat.le_refl _) (.cells #[.int .i64 k, .string nm, .string ot, .string tx, .slice A n c, .int .i64 a, .int .i64 b] 33))
  have e0 : (k == (0 : Int)) = false := by simpa using h0
  have e1 : (k == (1 : Int)) = false := by simpa using h1
  have e2 : (k == (2 : Int)) = false := by simpa using h2
  have e3 : (k == (3 : Int)) = false := by simpa using h3
  have e4 : (k == (4 : Int)) = false := by simpa using h4
  have e5 : (k == (5 : Int)) = false := by simpa using h5
  have e6 : (k == (6 : Int)) = false := by simpa using h6
  have e7 : (k == (7 : Int)) = false := by simpa using h7
  have e8 : (k == (8 : Int)) = false := by simpa using h8
  clear h0 h1 h2 h3 h4 h5 h6 h7 h8
  go_enter Tryz.func10, Tryz.ntmps10
  go_wp2_with fail
  go_ret
  exact ⟨rfl, HB.out⟩
theorem told_0 {p : Value} {nm ot tx : ByteArray} {A : Option Addr} {n c : Nat} {a b : Int} {w : World} {R : Int → World → Prop} (h : ∀ W, Below w.heap.size w W → Calls Tryz.prog 24 #[p, .string nm, .string tx] W (Nb R)) :
    Calls Tryz.prog 10 #[p, DV 0 nm ot tx A n c a b] w (Nb R) := by
  have H := Lib.hid h
  have HB := Lib.hid ((Below.refl w.heap.size w).alloc (Nat.le_refl _) (.cells #[.int .i64 0, .string nm, .string ot, .string tx, .slice A n c, .int .i64 a, .int .i64 b] 33))
  clear h
  go_enter Tryz.func10, Tryz.ntmps10
  go_wp2_with fail
  refine (H.out _ HB.out).mono ?_
  rintro e w1 ⟨x, rfl, hr⟩
  have HR := Lib.hid hr
  clear hr
  go_wp2_with fail
  go_ret
  exact ⟨x, rfl, HR.out⟩
theorem told_1 {p : Value} {nm ot tx : ByteArray} {A : Option Addr} {n c : Nat} {a b : Int} {w : World} {R : Int → World → Prop} (h : ∀ W, Below w.heap.size w W → Calls Tryz.prog 25 #[p, .string nm, .string tx] W (Nb R)) :
    Calls Tryz.prog 10 #[p, DV 1 nm ot tx A n c a b] w (Nb R) := by
  have H := Lib.hid h
  have HB := Lib.hid ((Below.refl w.heap.size w).alloc (Nat.le_refl _) (.cells #[.int .i64 1, .string nm, .string ot, .string tx, .slice A n c, .int .i64 a, .int .i64 b] 33))
  clear h
  go_enter Tryz.func10, Tryz.ntmps10
  go_wp2_with fail
  refine (H.out _ HB.out).mono ?_
  rintro e w1 ⟨x, rfl, hr⟩
  have HR := Lib.hid hr
  clear hr
  go_wp2_with fail
  go_ret
  exact ⟨x, rfl, HR.out⟩
theorem told_2 {p : Value} {nm ot tx : ByteArray} {A : Option Addr} {n c : Nat} {a b : Int} {w : World} {R : Int → World → Prop} (h : ∀ W, Below w.heap.size w W → Calls Tryz.prog 26 #[p, .string nm, .slice A n c] W (Nb R)) :
    Calls Tryz.prog 10 #[p, DV 2 nm ot tx A n c a b] w (Nb R) := by
  have H := Lib.hid h
  have HB := Lib.hid ((Below.refl w.heap.size w).alloc (Nat.le_refl _) (.cells #[.int .i64 2, .string nm, .string ot, .string tx, .slice A n c, .int .i64 a, .int .i64 b] 33))
  clear h
  go_enter Tryz.func10, Tryz.ntmps10
  go_wp2_with fail
  refine (H.out _ HB.out).mono ?_
  rintro e w1 ⟨x, rfl, hr⟩
  have HR := Lib.hid hr
  clear hr
  go_wp2_with fail
  go_ret
  exact ⟨x, rfl, HR.out⟩
theorem told_3 {p : Value} {nm ot tx : ByteArray} {A : Option Addr} {n c : Nat} {a b : Int} {w : World} {R : Int → World → Prop} (h : ∀ W, Below w.heap.size w W → Calls Tryz.prog 27 #[p, .string nm, .slice A n c] W (Nb R)) :
    Calls Tryz.prog 10 #[p, DV 3 nm ot tx A n c a b] w (Nb R) := by
  have H := Lib.hid h
  have HB := Lib.hid ((Below.refl w.heap.size w).alloc (Nat.le_refl _) (.cells #[.int .i64 3, .string nm, .string ot, .string tx, .slice A n c, .int .i64 a, .int .i64 b] 33))
  clear h
  go_enter Tryz.func10, Tryz.ntmps10
  go_wp2_with fail
  refine (H.out _ HB.out).mono ?_
  rintro e w1 ⟨x, rfl, hr⟩
  have HR := Lib.hid hr
  clear hr
  go_wp2_with fail
  go_ret
  exact ⟨x, rfl, HR.out⟩
theorem told_4 {p : Value} {nm ot tx : ByteArray} {A : Option Addr} {n c : Nat} {a b : Int} {w : World} {R : Int → World → Prop} (h : ∀ W, Below w.heap.size w W → Calls Tryz.prog 28 #[p, .string nm] W (Nb R)) :
    Calls Tryz.prog 10 #[p, DV 4 nm ot tx A n c a b] w (Nb R) := by
  have H := Lib.hid h
  have HB := Lib.hid ((Below.refl w.heap.size w).alloc (Nat.le_refl _) (.cells #[.int .i64 4, .string nm, .string ot, .string tx, .slice A n c, .int .i64 a, .int .i64 b] 33))
  clear h
  go_enter Tryz.func10, Tryz.ntmps10
  go_wp2_with fail
  refine (H.out _ HB.out).mono ?_
  rintro e w1 ⟨x, rfl, hr⟩
  have HR := Lib.hid hr
  clear hr
  go_wp2_with fail
  go_ret
  exact ⟨x, rfl, HR.out⟩
theorem told_5 {p : Value} {nm ot tx : ByteArray} {A : Option Addr} {n c : Nat} {a b : Int} {w : World} {R : Int → World → Prop} (h : ∀ W, Below w.heap.size w W → Calls Tryz.prog 29 #[p, .string nm, .string ot] W (Nb R)) :
    Calls Tryz.prog 10 #[p, DV 5 nm ot tx A n c a b] w (Nb R) := by
  have H := Lib.hid h
  have HB := Lib.hid ((Below.refl w.heap.size w).alloc (Nat.le_refl _) (.cells #[.int .i64 5, .string nm, .string ot, .string tx, .slice A n c, .int .i64 a, .int .i64 b] 33))
  clear h
  go_enter Tryz.func10, Tryz.ntmps10
  go_wp2_with fail
  refine (H.out _ HB.out).mono ?_
  rintro e w1 ⟨x, rfl, hr⟩
  have HR := Lib.hid hr
  clear hr
  go_wp2_with fail
  go_ret
  exact ⟨x, rfl, HR.out⟩
theorem told_6 {p : Value} {nm ot tx : ByteArray} {A : Option Addr} {n c : Nat} {a b : Int} {w : World} {R : Int → World → Prop} (h : ∀ W, Below w.heap.size w W → Calls Tryz.prog 30 #[p, .string nm, .string ot] W (Nb R)) :
    Calls Tryz.prog 10 #[p, DV 6 nm ot tx A n c a b] w (Nb R) := by
  have H := Lib.hid h
  have HB := Lib.hid ((Below.refl w.heap.size w).alloc (Nat.le_refl _) (.cells #[.int .i64 6, .string nm, .string ot, .string tx, .slice A n c, .int .i64 a, .int .i64 b] 33))
  clear h
  go_enter Tryz.func10, Tryz.ntmps10
  go_wp2_with fail
  refine (H.out _ HB.out).mono ?_
  rintro e w1 ⟨x, rfl, hr⟩
  have HR := Lib.hid hr
  clear hr
  go_wp2_with fail
  go_ret
  exact ⟨x, rfl, HR.out⟩
theorem told_7 {p : Value} {nm ot tx : ByteArray} {A : Option Addr} {n c : Nat} {a b : Int} {w : World} {R : Int → World → Prop} (h : ∀ W, Below w.heap.size w W → Calls Tryz.prog 31 #[p, .string nm] W (Nb R)) :
    Calls Tryz.prog 10 #[p, DV 7 nm ot tx A n c a b] w (Nb R) := by
  have H := Lib.hid h
  have HB := Lib.hid ((Below.refl w.heap.size w).alloc (Nat.le_refl _) (.cells #[.int .i64 7, .string nm, .string ot, .string tx, .slice A n c, .int .i64 a, .int .i64 b] 33))
  clear h
  go_enter Tryz.func10, Tryz.ntmps10
  go_wp2_with fail
  refine (H.out _ HB.out).mono ?_
  rintro e w1 ⟨x, rfl, hr⟩
  have HR := Lib.hid hr
  clear hr
  go_wp2_with fail
  go_ret
  exact ⟨x, rfl, HR.out⟩
theorem told_8 {p : Value} {nm ot tx : ByteArray} {A : Option Addr} {n c : Nat} {a b : Int} {w : World} {R : Int → World → Prop} (h : ∀ W, Below w.heap.size w W → Calls Tryz.prog 32 #[p, .string nm, .int .i64 a, .int .i64 b] W (Nb R)) :
    Calls Tryz.prog 10 #[p, DV 8 nm ot tx A n c a b] w (Nb R) := by
  have H := Lib.hid h
  have HB := Lib.hid ((Below.refl w.heap.size w).alloc (Nat.le_refl _) (.cells #[.int .i64 8, .string nm, .string ot, .string tx, .slice A n c, .int .i64 a, .int .i64 b] 33))
  clear h
  go_enter Tryz.func10, Tryz.ntmps10
  go_wp2_with fail
  refine (H.out _ HB.out).mono ?_
  rintro e w1 ⟨x, rfl, hr⟩
  have HR := Lib.hid hr
  clear hr
  go_wp2_with fail
  go_ret
  exact ⟨x, rfl, HR.out⟩
/-- What is left of a deed of the code's, behind what was made ahead of it. -/
structure StN (F : Nat → Prop) (sb mb : Nat) (R : Nat → Int × St) (w : World) (x : Int) (w' : World) : Prop where
  ex : ∃ b, w.heap.size ≤ b ∧ x = (R b).1 ∧ SA F sb mb (R b).2.1 (R b).2.2 w'
  fx : Fx F w w'
theorem StP.nb {F : Nat → Prop} {sb mb : Nat} {R : Nat → Int × St} {w W : World} {e : Ending} {w' : World} (h : StP F sb mb R W e w') (hf : ∀ k, F k → k < w.heap.size) (hW : Below w.heap.size w W) : Nb (StN F sb mb R w) e w' := by
  obtain ⟨⟨b, h1, h2, h3⟩, h4⟩ := h
  exact ⟨(R b).1, h2, ⟨b, Nat.le_trans hW.size h1, rfl, h3⟩, (Fx.of hf hW).trans h4⟩
theorem StP.un {F : Nat → Prop} {sb mb : Nat} {R : Nat → Int × St} {w : World} {e : Ending} {w' : World} (h : Nb (StN F sb mb R w) e w') : StP F sb mb R w e w' := by
  obtain ⟨x, h1, ⟨b, h2, rfl, h3⟩, h4⟩ := h
  exact ⟨⟨b, h2, h1, h3⟩, h4⟩
structure DtN (F : Nat → Prop) (bx N : Nat) (R : Int × St) (w : World) (x : Int) (w' : World) : Prop where
  ex : ∃ N', N ≤ N' ∧ N' ≤ N + 1 ∧ x = R.1 ∧ DG F bx R.2.1 N' R.2.2 w w'
theorem DtP.nb {F : Nat → Prop} {bx N : Nat} {R : Int × St} {L : List Reg} {M : Nat → Mc} {w W : World} {e : Ending} {w' : World} (h : DtP (Up F w W) bx N R W e w') (hd : DK F bx L N M w) (hW : Below w.heap.size w W) : Nb (DtN F bx N R w) e w' := by
  obtain ⟨N', h1, h2, h3, h4⟩ := h
  exact ⟨R.1, h3, ⟨N', h1, h2, rfl, (DG.below hd hW).trans h4 hd.hf⟩⟩
theorem DtP.un {F : Nat → Prop} {bx N : Nat} {R : Int × St} {w : World} {e : Ending} {w' : World} (h : Nb (DtN F bx N R w) e w') : DtP F bx N R w e w' := by
  obtain ⟨x, h1, N', h2, h3, rfl, h4⟩ := h
  exact ⟨N', h2, h3, h1, h4⟩
/-- A deed that came in, in a later world. -/
structure DdAt (W : World) (d : Dd) : Prop where
  ls : ∃ T : Nat → Prop, (∀ k, T k → k < W.heap.size) ∧ LnsAt (fun _ b => T b) W d.A d.n d.ls
  nil : d.A = none → d.n = 0
  few : d.n < 6000
  txs : ∀ l ∈ d.ls, l.tx.size ≤ 140737488351232
  nm : d.nm.size ≤ 140737488351232
  ot : d.ot.size ≤ 140737488351232
  tx : d.tx.size ≤ 140737488351232
  a9 : I64 d.a
  b9 : I64 d.b
theorem DdAt.below {w W : World} {d : Dd} (h : DdAt w d) (k : Below w.heap.size w W) : DdAt W d := by
  obtain ⟨T, h1, h2⟩ := h.ls
  exact ⟨⟨T, fun i hi => Nat.lt_of_lt_of_le (h1 i hi) k.size, h2.keep fun e b hb => ⟨k.block b (h1 b hb), hb⟩⟩, h.nil, h.few, h.txs, h.nm, h.ot, h.tx, h.a9, h.b9⟩
abbrev DdV (d : Dd) : Value := DV d.k d.nm d.ot d.tx d.A d.n d.c d.a d.b
theorem doC {F : Nat → Prop} {sb mb : Nat} {L : List Reg} {M : Nat → Mc} {w : World} (h : SA F sb mb L M w) (d : Dd) (hd : DdAt w d) : Calls Tryz.prog 9 #[BP sb, DdV d] w (StP F sb mb (deedS L M d) w) := by
  have hf := h.hf
  obtain ⟨T, hT, hls⟩ := hd.ls
  have hn : d.n ≤ 140737488351232 := by have := hd.few; omega
  have hnm : d.nm.size ≤ maxLen := by have := hd.nm; unfold maxLen; omega
  have hot : d.ot.size ≤ maxLen := by have := hd.ot; unfold maxLen; omega
  have hnil := hd.nil
  have ha := hd.a9
  have hb := hd.b9
  clear hd
  obtain ⟨k, nm, ot, tx, A, n, c, a, b, ls⟩ := d
  simp only at hls hn hnm hot hnil ha hb
  have hL : ∀ W, Below w.heap.size w W → LnsAt (fun _ b => T b) W A n ls := fun W hW => hls.keep fun e b hb' => ⟨hW.block b (hT b hb'), hb'⟩
  have hP : ∀ W, Below w.heap.size w W → ∀ (e : TypeId) (b : Nat), T b → b < W.heap.size := fun W hW e b hb' => Nat.lt_of_lt_of_le (hT b hb') hW.size
  unfold deedS
  simp only
  by_cases h0 : k = 0
  · subst h0; simp only [↓reduceIte]
    exact (do_0 fun W hW => (defC (h.below hW) nm tx).mono fun _ _ x => x.nb hf hW).mono fun _ _ x => StP.un x
  simp only [h0, ↓reduceIte]
  by_cases h1 : k = 1
  · subst h1; simp only [↓reduceIte]
    exact (do_1 fun W hW => (appC (h.below hW) nm tx).mono fun _ _ x => x.nb hf hW).mono fun _ _ x => StP.un x
  simp only [h1, ↓reduceIte]
  by_cases h2 : k = 2
  · subst h2; simp only [↓reduceIte]
    exact (do_2 fun W hW => (macC (h.below hW) nm (hL W hW) (hP W hW) hnil hn).mono fun _ _ x => x.nb hf hW).mono fun _ _ x => StP.un x
  simp only [h2, ↓reduceIte]
  by_cases h3 : k = 3
  · subst h3; simp only [↓reduceIte]
    exact (do_3 fun W hW => (addC (h.below hW) nm (hL W hW) (hP W hW) hnil hn).mono fun _ _ x => x.nb hf hW).mono fun _ _ x => StP.un x
  simp only [h3, ↓reduceIte]
  by_cases h4 : k = 4
  · subst h4; simp only [↓reduceIte]
    exact (do_4 fun W hW => (remC (h.below hW) nm).mono fun _ _ x => x.nb hf hW).mono fun _ _ x => StP.un x
  simp only [h4, ↓reduceIte]
  by_cases h5 : k = 5
  · subst h5; simp only [↓reduceIte]
    exact (do_5 fun W hW => (renC (h.below hW) nm ot hnm).mono fun _ _ x => x.nb hf hW).mono fun _ _ x => StP.un x
  simp only [h5, ↓reduceIte]
  by_cases h6 : k = 6
  · subst h6; simp only [↓reduceIte]
    exact (do_6 fun W hW => (aliC (h.below hW) nm ot hot).mono fun _ _ x => x.nb hf hW).mono fun _ _ x => StP.un x
  simp only [h6, ↓reduceIte]
  by_cases h7 : k = 7
  · subst h7; simp only [↓reduceIte]
    exact (do_7 fun W hW => (choC (h.below hW) nm hnm).mono fun _ _ x => x.nb hf hW).mono fun _ _ x => StP.un x
  simp only [h7, ↓reduceIte]
  by_cases h8 : k = 8
  · subst h8; simp only [↓reduceIte]
    exact (do_8 fun W hW => (parC (h.below hW) nm a b ha hb hnm).mono fun _ _ x => x.nb hf hW).mono fun _ _ x => StP.un x
  simp only [h8, ↓reduceIte]
  exact (do_9 h0 h1 h2 h3 h4 h5 h6 h7 h8).mono fun _ _ x => StP.of_err h (fun _ => rfl) x
theorem toldC {F : Nat → Prop} {bx : Nat} {L : List Reg} {N : Nat} {M : Nat → Mc} {w : World} (h : DK F bx L N M w) (hN : N ≤ 1000) (d : Dd) (hd : DdAt w d) : Calls Tryz.prog 10 #[BP bx, DdV d] w (DtP F bx N (deedS L M d N) w) := by
  obtain ⟨T, hT, hls⟩ := hd.ls
  have hn : d.n ≤ 2000000 := by have := hd.few; omega
  have htx9 : d.tx.size ≤ 9223372036854775807 := by have := hd.tx; omega
  have htxs : ∀ l ∈ d.ls, l.tx.size ≤ 9223372036854775807 := fun l hl => by have := hd.txs l hl; omega
  have ha := hd.a9
  have hb := hd.b9
  clear hd
  obtain ⟨k, nm, ot, tx, A, n, c, a, b, ls⟩ := d
  simp only at hls hn htx9 htxs ha hb
  have hL : ∀ W, Below w.heap.size w W → LnsAt (fun _ b => T b) W A n ls := fun W hW => hls.keep fun e b hb' => ⟨hW.block b (hT b hb'), hb'⟩
  have hP : ∀ W, Below w.heap.size w W → ∀ (e : TypeId) (b : Nat), T b → b < W.heap.size := fun W hW e b hb' => Nat.lt_of_lt_of_le (hT b hb') hW.size
  unfold deedS
  simp only
  by_cases h0 : k = 0
  · subst h0; rw [if_pos rfl]
    exact (told_0 fun W hW => (rDefine_any (DG.below h hW).dk nm tx htx9 hN).mono fun _ _ x => x.nb h hW).mono fun _ _ x => DtP.un x
  rw [if_neg h0]
  by_cases h1 : k = 1
  · subst h1; rw [if_pos rfl]
    exact (told_1 fun W hW => (rAppend_any (DG.below h hW).dk nm tx htx9 hN).mono fun _ _ x => x.nb h hW).mono fun _ _ x => DtP.un x
  rw [if_neg h1]
  by_cases h2 : k = 2
  · subst h2; rw [if_pos rfl]
    exact (told_2 fun W hW => (rMacro_any (DG.below h hW).dk nm (hL W hW) (hP W hW) hn htxs hN).mono fun _ _ x => x.nb h hW).mono fun _ _ x => DtP.un x
  rw [if_neg h2]
  by_cases h3 : k = 3
  · subst h3; rw [if_pos rfl]
    exact (told_3 fun W hW => (rAdd_any (DG.below h hW).dk nm (hL W hW) (hP W hW) hn htxs hN).mono fun _ _ x => x.nb h hW).mono fun _ _ x => DtP.un x
  rw [if_neg h3]
  by_cases h4 : k = 4
  · subst h4; rw [if_pos rfl]
    exact (told_4 fun W hW => (rRemove_any (DG.below h hW).dk nm).mono fun _ _ x => x.nb h hW).mono fun _ _ x => DtP.un x
  rw [if_neg h4]
  by_cases h5 : k = 5
  · subst h5; rw [if_pos rfl]
    exact (told_5 fun W hW => (rRename_any (DG.below h hW).dk nm ot).mono fun _ _ x => x.nb h hW).mono fun _ _ x => DtP.un x
  rw [if_neg h5]
  by_cases h6 : k = 6
  · subst h6; rw [if_pos rfl]
    exact (told_6 fun W hW => (rAlias_any (DG.below h hW).dk nm ot).mono fun _ _ x => x.nb h hW).mono fun _ _ x => DtP.un x
  rw [if_neg h6]
  by_cases h7 : k = 7
  · subst h7; rw [if_pos rfl]
    exact (told_7 fun W hW => (rChop_any (DG.below h hW).dk nm).mono fun _ _ x => x.nb h hW).mono fun _ _ x => DtP.un x
  rw [if_neg h7]
  by_cases h8 : k = 8
  · subst h8; rw [if_pos rfl]
    exact (told_8 fun W hW => (rPart_any (DG.below h hW).dk nm a b ha hb).mono fun _ _ x => x.nb h hW).mono fun _ _ x => DtP.un x
  rw [if_neg h8]
  refine (told_9 h0 h1 h2 h3 h4 h5 h6 h7 h8).mono fun _ _ x => ?_
  rw [x.1]
  exact DtP.err_below h x.2
end Go.Proofs.YtgpanlkcpnlejaaGreat
/- Both stores: an entry, all entries. -/
namespace Go.Proofs.YtgpanlkcpnlejaaGreat
open Go.RowKit Go.Maps
set_option maxRecDepth 100000
/-- The same names, the same aliases, the same entries. -/
structure Corr (L : List Reg) (M : Nat → Mc) (L' : List Reg) (M' : Nat → Mc) : Prop where
  nms : L.map (·.nm) = L'.map (·.nm)
  al : ∀ a b, hasS L a = true → hasS L b = true → ((getS L a).v = (getS L b).v ↔ (getS L' a).v = (getS L' b).v)
  mc : ∀ a, hasS L a = true → M (getS L a).v = M' (getS L' a).v
theorem has_nms (L : List Reg) (nm : List UInt8) : hasS L nm = (L.map (·.nm)).any (· == nm) := by
  unfold hasS
  rw [List.any_map]; rfl
theorem Corr.has {L : List Reg} {M : Nat → Mc} {L' : List Reg} {M' : Nat → Mc} (h : Corr L M L' M') (nm : List UInt8) : hasS L nm = hasS L' nm := by
  rw [has_nms, has_nms, h.nms]
theorem Corr.len {L : List Reg} {M : Nat → Mc} {L' : List Reg} {M' : Nat → Mc} (h : Corr L M L' M') : L.length = L'.length := by
  have := congrArg List.length h.nms
  simpa using this
theorem Corr.mOf {L : List Reg} {M : Nat → Mc} {L' : List Reg} {M' : Nat → Mc} (h : Corr L M L' M') (nm : List UInt8) : mOf L M nm = mOf L' M' nm := by
  unfold Proofs.YtgpanlkcpnlejaaGreat.mOf
  rw [← h.has]
  cases hh : hasS L nm with
  | true => rw [if_pos rfl, if_pos rfl]; exact h.mc nm hh
  | false => rw [if_neg (by decide), if_neg (by decide)]
abbrev FF (T : Nat) (D : Nat → Prop) : Nat → Prop := fun k => k < T ∨ D k
/-- Both stores, above block T. -/
structure Tw (T sb mb : Nat) (D : Nat → Prop) (bx : Nat) (L : List Reg) (M : Nat → Mc) (L' : List Reg) (M' : Nat → Mc) (N : Nat) (w : World) : Prop where
  sa : SA (FF T D) sb mb L M w
  dk : DK D bx L' N M' w
  cr : Corr L M L' M'
  hT : T ≤ w.heap.size
  hD : ∀ k, D k → T ≤ k
section
variable {T sb mb : Nat} {D : Nat → Prop} {bx : Nat} {L : List Reg} {M : Nat → Mc} {L' : List Reg} {M' : Nat → Mc} {N : Nat} {w : World}
theorem Tw.below {w' : World} (h : Tw T sb mb D bx L M L' M' N w) (k : Below w.heap.size w w') : Tw T sb mb D bx L M L' M' N w' :=
  ⟨h.sa.below k, h.dk.fx (Fx.of h.dk.hf k), h.cr, Nat.le_trans h.hT k.size, h.hD⟩
theorem ns_at (L : List Reg) (j : Nat) (h : j < L.length) : (L.flatMap nsCs)[j]? = some (.string ⟨(L[j]).nm.toArray⟩) := by
  have := fm_at ns_len L j 0 L[j] (List.getElem?_eq_getElem h) (by omega)
  rw [Nat.mul_one, Nat.add_zero] at this
  exact this
theorem ns_nms {L L' : List Reg} (h : L.map (·.nm) = L'.map (·.nm)) : L.flatMap nsCs = L'.flatMap nsCs := by
  have e : ∀ l : List Reg, l.flatMap nsCs = (l.map (·.nm)).map fun n => Value.string ⟨n.toArray⟩ := fun l => by
    induction l with
    | nil => rfl
    | cons x t ih => rw [List.flatMap_cons, ih]; rfl
  rw [e, e, h]
set_option maxHeartbeats 1000000 in
theorem texts_eq {P P' : Nat → Prop} {A A' : Option Addr} {n c c' : Nat} (h : ReadsP P w 1 A n (L.flatMap nsCs)) (h' : ReadsP P' w 1 A' n (L.flatMap nsCs)) (hn : n ≤ 500) :
    Calls Tryz.prog 34 #[.slice A n c, .slice A' n c'] w fun e w' => e = .returned (.bool true) ∧ Below w.heap.size w w' := by
  have H := Lib.hid h
  have H' := Lib.hid h'
  have HL := Lib.hid (show L.length = n by have := h.1; rw [fm_len ns_len, Nat.mul_one] at this; omega)
  have hself : ((n : Int) != (n : Int)) = false := by simp
  clear h h'
  go_enter Tryz.func34, Tryz.ntmps34
  go_wp2_with fail
  go_loopg [5] n (fun k i wr => ∃ j : Nat, k + j = n ∧ i = .int .i64 j ∧ wr.heap = w.heap ∧ Below w.heap.size w wr)
  case atStart => exact ⟨0, rfl, rfl, rfl, Below.refl _ _⟩
  case round =>
    obtain ⟨j, hk, rfl, hh, hb⟩ := hrel
    have HK := Lib.hid hk
    have HH := Lib.hid hh
    have HB := Lib.hid hb
    by_cases hj : j < n
    · have dj : decide (j < n) = true := decide_eq_true hj
      have hjl : j < L.length := by rw [HL.out]; exact hj
      obtain ⟨b, off, rfl, _, hc⟩ := H.out.2 (by omega)
      obtain ⟨b', off', rfl, _, hc'⟩ := H'.out.2 (by omega)
      have c0 := hc j _ (ns_at L j hjl)
      have c0' := hc' j _ (ns_at L j hjl)
      have key : ∀ p : Addr, wr.cell? p = w.cell? p := fun p => by unfold World.cell?; rw [HH.out]
      rw [← key] at c0 c0'
      obtain ⟨z, hz⟩ : ∃ z : ByteArray, z = ⟨(L[j]).nm.toArray⟩ := ⟨_, rfl⟩
      rw [← hz] at c0 c0'
      have HJ := Lib.hid hj
      have hj0 : (0 : Int) ≤ (j : Int) := by omega
      have hj1 : (j : Int) < (n : Int) := by omega
      have hzz : (z.toList == z.toList) = true := beq_self_eq_true _
      clear hk hj hh hb hjl hc hc' key hz
      go_wp2_with fail
      go_quiet (fail)
      go_wp2_with fail
      go_roundg (gk - 1)
      case measure => have := HK.out; have := HJ.out; omega
      case rel => have := HK.out; have := HJ.out; exact ⟨j + 1, by omega, by go_num, HH.out, ⟨HB.out.os, HB.out.tape, HB.out.output, HB.out.size, HB.out.block⟩⟩
    · have dj : decide (j < n) = false := decide_eq_false hj
      clear hk hj hh hb
      go_wp2_with fail
      go_ret
      exact ⟨rfl, HB.out⟩
theorem lineS_len {m : Mc} (h : m.kind = 0 ∨ mcOk m) : (lineS m).1.length ≤ 2000 := by
  unfold lineS
  split
  · simp
  · rename_i hk
    rcases h with h | h
    · exact absurd h hk
    · exact (mLines_ok h).2
theorem mOf_ok (h : SA (FF T D) sb mb L M w) (nm : List UInt8) : (mOf L M nm).kind = 0 ∨ mcOk (mOf L M nm) := by
  cases hh : hasS L nm with
  | true => rw [mOf_has hh]; exact .inr (h.mc hh)
  | false => rw [mOf_no hh]; exact .inl rfl
theorem textS_size {m : Mc} (h : m.kind = 0 ∨ mcOk m) : (textS m).1.size ≤ 2000 := by
  unfold textS
  split
  · rename_i hk
    rcases h with h | h
    · rw [hk] at h; cases h
    · exact mc_size h
  · exact Nat.zero_le _
set_option maxHeartbeats 2000000 in
theorem entry_any (h : Tw T sb mb D bx L M L' M' N w) (s : ByteArray) (hz : s.size ≤ 140737488351232) : Calls Tryz.prog 36 #[BP sb, BP bx, .string s] w fun e w' => e = .returned (.bool true) ∧ Below w.heap.size w w' := by
  have hzm : s.size ≤ maxLen := by unfold maxLen; omega
  have hok := mOf_ok h.sa s.data.toList
  have hm := h.cr.mOf s.data.toList
  have H1 := Lib.hid (textC h.sa s hzm)
  have H2 := Lib.hid (rText_any h.dk s)
  have H3 := Lib.hid (lineC h.sa s hzm)
  have H4 := Lib.hid (fun W (hb : Below w.heap.size w W) => rLines_any (h.below hb).dk s)
  have H5 := Lib.hid (fun W (hb : Below w.heap.size w W) => longC (h.below hb).sa s hzm)
  have H6 := Lib.hid (fun W (hb : Below w.heap.size w W) => rLength_any (h.below hb).dk s)
  have H7 := Lib.hid (fun W (hb : Below w.heap.size w W) => kindC (h.below hb).sa s)
  have H8 := Lib.hid (fun W (hb : Below w.heap.size w W) => rKind_any (h.below hb).dk s)
  rw [← hm] at H2 H4 H6 H8
  generalize mOf L M s.data.toList = m at hok H1 H2 H3 H4 H5 H6 H7 H8
  have HLL := Lib.hid (lineS_len hok)
  generalize (lineS m).1 = ls at H3 H4 HLL
  generalize (lineS m).2 = le at H3 H4
  generalize (textS m).1 = tx at H1 H2
  generalize (textS m).2 = te at H1 H2
  generalize (longS m).1 = nx at H5 H6
  generalize (longS m).2 = ne at H5 H6
  generalize m.kind = kd at H7 H8
  have s1 : (tx.toList == tx.toList) = true := beq_self_eq_true _
  have s2 : (te == te) = true := beq_self_eq_true _
  have s3 : (le == le) = true := beq_self_eq_true _
  have s4 : (nx == nx) = true := beq_self_eq_true _
  have s5 : (ne == ne) = true := beq_self_eq_true _
  have s6 : (kd == kd) = true := beq_self_eq_true _
  clear h hz hzm hok hm
  go_enter Tryz.func36, Tryz.ntmps36
  go_wp2_with fail
  refine H1.out.mono ?_
  rintro e w1 ⟨rfl, rfl⟩
  go_wp2_with fail
  refine H2.out.mono ?_
  rintro e w1 ⟨rfl, rfl⟩
  go_wp2_with fail
  refine H3.out.mono ?_
  rintro e w1 ⟨A, n, c, rfl, hl⟩
  have HB1 := Lib.hid hl.below
  have HL1 := Lib.hid hl
  clear hl
  go_wp2_with fail
  refine (H4.out _ HB1.out).mono ?_
  rintro e w2 ⟨A', n', c', rfl, hl⟩
  have hnn : n' = n := hl.at_.len.trans HL1.out.at_.len.symm
  subst hnn
  have HB2 := Lib.hid (HB1.out.trans (hl.below.mono HB1.out.size))
  have HL2 := Lib.hid hl
  have HSL := Lib.hid (fun W (hb : Below w2.heap.size w2 W) => sameLines_eq (w := W) (c := c) (c' := c') (HL1.out.at_.keep (w' := W) (P' := fun _ b => b < w1.heap.size) fun e b hb' => ⟨(hb.block b (Nat.lt_of_lt_of_le hb'.lt hl.below.size)).trans (hl.below.block b hb'.lt), hb'.lt⟩) (hl.at_.keep (w' := W) (P' := fun _ b => b < w2.heap.size) fun e b hb' => ⟨hb.block b hb'.lt, hb'.lt⟩) (fun _ b hb' => Nat.lt_of_lt_of_le hb' (Nat.le_trans hl.below.size hb.size)) (fun _ b hb' => Nat.lt_of_lt_of_le hb' hb.size) (by have := hl.at_.len; have := HLL.out; omega))
  clear hl
  go_wp2_with fail
  refine (H5.out _ HB2.out).mono ?_
  rintro e w3 ⟨rfl, rfl⟩
  go_wp2_with fail
  refine (H6.out _ HB2.out).mono ?_
  rintro e w3 ⟨rfl, hb⟩
  have HB3 := Lib.hid (HB2.out.trans (hb.mono HB2.out.size))
  have HSL3 := Lib.hid (HSL.out _ hb)
  clear hb
  go_wp2_with fail
  refine HSL3.out.mono ?_
  rintro e w4 ⟨rfl, hb⟩
  have HB4 := Lib.hid (HB3.out.trans (hb.mono HB3.out.size))
  clear hb
  go_wp2_with fail
  refine (H7.out _ HB4.out).mono ?_
  rintro e w5 ⟨rfl, hb⟩
  have HB5 := Lib.hid (HB4.out.trans (hb.mono HB4.out.size))
  clear hb
  go_wp2_with fail
  refine (H8.out _ HB5.out).mono ?_
  rintro e w6 ⟨rfl, rfl⟩
  go_wp2_with fail
  go_ret
  exact ⟨rfl, HB5.out⟩
end
end Go.Proofs.YtgpanlkcpnlejaaGreat
/- Both stores in plain words: a deed keeps them the same. -/
namespace Go.Proofs.YtgpanlkcpnlejaaGreat
open Go.RowKit Go.Maps
set_option maxRecDepth 100000
theorem nms_put : ∀ (L L' : List Reg) (nm : List UInt8) (v v' : Nat), L.map (·.nm) = L'.map (·.nm) → (putS L ⟨nm, v⟩).map (·.nm) = (putS L' ⟨nm, v'⟩).map (·.nm)
  | [], [], nm, v, v', _ => rfl
  | [], _ :: _, nm, v, v', h => by simp at h
  | _ :: _, [], nm, v, v', h => by simp at h
  | x :: t, y :: t', nm, v, v', h => by
    simp only [List.map_cons, List.cons.injEq] at h
    obtain ⟨h1, h2⟩ := h
    unfold putS
    simp only
    rw [← h1]
    by_cases e : x.nm = nm
    · rw [if_pos e, if_pos e, List.map_cons, List.map_cons, h2]
    · rw [if_neg e, if_neg e]
      by_cases e2 : Op.bytesLess x.nm nm = true
      · rw [if_pos e2, if_pos e2, List.map_cons, List.map_cons, nms_put t t' nm v v' h2, h1]
      · rw [if_neg e2, if_neg e2, List.map_cons, List.map_cons, List.map_cons, List.map_cons, h1, h2]
theorem nms_del : ∀ (L L' : List Reg) (nm : List UInt8), L.map (·.nm) = L'.map (·.nm) → (delS L nm).map (·.nm) = (delS L' nm).map (·.nm)
  | [], [], nm, _ => rfl
  | [], _ :: _, nm, h => by simp at h
  | _ :: _, [], nm, h => by simp at h
  | x :: t, y :: t', nm, h => by
    simp only [List.map_cons, List.cons.injEq] at h
    obtain ⟨h1, h2⟩ := h
    have ih := nms_del t t' nm h2
    unfold delS at ih ⊢
    by_cases e : x.nm = nm
    · rw [List.filter_cons_of_neg (by simp [e]), List.filter_cons_of_neg (by simp [← h1, e]), ih]
    · rw [List.filter_cons_of_pos (by simp [e]), List.filter_cons_of_pos (by simp [← h1, e]), List.map_cons, List.map_cons, ih, h1]
section
variable {L : List Reg} {M : Nat → Mc} {L' : List Reg} {M' : Nat → Mc}
theorem Corr.put_old (h : Corr L M L' M') {nm : List UInt8} (hh : hasS L nm = true) (m : Mc) : Corr L (updM M (getS L nm).v m) L' (updM M' (getS L' nm).v m) := by
  refine ⟨h.nms, h.al, fun a ha => ?_⟩
  have hal := h.al a nm ha hh
  by_cases e : (getS L a).v = (getS L nm).v
  · rw [e, hal.1 e, updM_same, updM_same]
  · rw [updM_other _ _ _ e, updM_other _ _ _ (fun e' => e (hal.2 e'))]
    exact h.mc a ha
theorem Corr.put_any (h : Corr L M L' M') (nm : List UInt8) (v v' : Nat) (hv : ∀ a, hasS L a = true → ((getS L a).v = v ↔ (getS L' a).v = v')) (hm : M v = M' v') : Corr (putS L ⟨nm, v⟩) M (putS L' ⟨nm, v'⟩) M' := by
  have key : ∀ a, hasS (putS L ⟨nm, v⟩) a = true → (a = nm ∧ getS (putS L ⟨nm, v⟩) a = ⟨nm, v⟩ ∧ getS (putS L' ⟨nm, v'⟩) a = ⟨nm, v'⟩) ∨ (hasS L a = true ∧ getS (putS L ⟨nm, v⟩) a = getS L a ∧ getS (putS L' ⟨nm, v'⟩) a = getS L' a) := by
    intro a ha
    by_cases e : nm = a
    · subst e
      exact .inl ⟨rfl, getS_put_same L ⟨nm, v⟩, getS_put_same L' ⟨nm, v'⟩⟩
    · rw [hasS_put] at ha
      have : (nm == a) = false := by simpa using e
      simp only [this, Bool.false_or] at ha
      exact .inr ⟨ha, getS_put_other L ⟨nm, v⟩ a e, getS_put_other L' ⟨nm, v'⟩ a e⟩
  refine ⟨nms_put L L' nm v v' h.nms, fun a b ha hb => ?_, fun a ha => ?_⟩
  · rcases key a ha with ⟨_, e1, e2⟩ | ⟨ha', e1, e2⟩
    · rcases key b hb with ⟨_, e3, e4⟩ | ⟨hb', e3, e4⟩
      · rw [e1, e2, e3, e4]
        exact ⟨fun _ => rfl, fun _ => rfl⟩
      · rw [e1, e2, e3, e4]
        exact ⟨fun e => ((hv b hb').1 e.symm).symm, fun e => ((hv b hb').2 e.symm).symm⟩
    · rcases key b hb with ⟨_, e3, e4⟩ | ⟨hb', e3, e4⟩
      · rw [e1, e2, e3, e4]; exact hv a ha'
      · rw [e1, e2, e3, e4]; exact h.al a b ha' hb'
  · rcases key a ha with ⟨_, e1, e2⟩ | ⟨ha', e1, e2⟩
    · rw [e1, e2]; exact hm
    · rw [e1, e2]; exact h.mc a ha'
theorem Corr.del (h : Corr L M L' M') (nm : List UInt8) : Corr (delS L nm) M (delS L' nm) M' := by
  have key : ∀ a, hasS (delS L nm) a = true → hasS L a = true ∧ nm ≠ a := by
    intro a ha
    rw [hasS_del] at ha
    simp only [Bool.and_eq_true, Bool.not_eq_true', beq_eq_false_iff_ne, ne_eq] at ha
    exact ⟨ha.2, ha.1⟩
  refine ⟨nms_del L L' nm h.nms, fun a b ha hb => ?_, fun a ha => ?_⟩
  · obtain ⟨ha', e1⟩ := key a ha
    obtain ⟨hb', e2⟩ := key b hb
    rw [getS_del _ _ _ e1, getS_del _ _ _ e2, getS_del _ _ _ e1, getS_del _ _ _ e2]
    exact h.al a b ha' hb'
  · obtain ⟨ha', e1⟩ := key a ha
    rw [getS_del _ _ _ e1, getS_del _ _ _ e1]
    exact h.mc a ha'
/-- Neither key is there. -/
structure Fresh (L L' : List Reg) (b N : Nat) : Prop where
  l : ∀ r ∈ L, r.v ≠ b
  r : ∀ r ∈ L', r.v ≠ N
theorem Corr.put_new (h : Corr L M L' M') (nm : List UInt8) (m : Mc) {b N : Nat} (hf : Fresh L L' b N) : Corr (putS L ⟨nm, b⟩) (updM M b m) (putS L' ⟨nm, N⟩) (updM M' N m) := by
  have k1 : ∀ a, hasS L a = true → (getS L a).v ≠ b := fun a ha => hf.l _ (getS_mem L a ha)
  have k2 : ∀ a, hasS L a = true → (getS L' a).v ≠ N := fun a ha => hf.r _ (getS_mem L' a (by rw [← h.has]; exact ha))
  have h1 : Corr L (updM M b m) L' (updM M' N m) := ⟨h.nms, h.al, fun a ha => by rw [updM_other _ _ _ (k1 a ha), updM_other _ _ _ (k2 a ha)]; exact h.mc a ha⟩
  exact h1.put_any nm b N (fun a ha => ⟨fun e => absurd e (k1 a ha), fun e => absurd e (k2 a ha)⟩) (by rw [updM_same, updM_same])
/-- What a deed comes to on both sides is the same. -/
def Same (R R' : Int × St) : Prop := R.1 = R'.1 ∧ Corr R.2.1 R.2.2 R'.2.1 R'.2.2
theorem Corr.same (h : Corr L M L' M') (k : Int) : Same (k, L, M) (k, L', M') := ⟨rfl, h⟩
theorem Corr.putTo (h : Corr L M L' M') (nm : List UInt8) (m : Mc) {b N : Nat} (hf : Fresh L L' b N) : Same (putTo L M nm m b) (putTo L' M' nm m N) := by
  unfold Go.Proofs.YtgpanlkcpnlejaaGreat.putTo
  rw [← h.has, ← h.len]
  cases hh : hasS L nm with
  | true => rw [if_pos rfl, if_pos rfl]; exact ⟨rfl, h.put_old hh m⟩
  | false =>
    simp only [Bool.false_eq_true, if_false]
    split
    · exact h.same 9
    · exact ⟨rfl, h.put_new nm m hf⟩
theorem Corr.defS (h : Corr L M L' M') (nm : List UInt8) (t : ByteArray) {b N : Nat} (hf : Fresh L L' b N) : Same (defS L M nm t b) (defS L' M' nm t N) := by
  unfold Go.Proofs.YtgpanlkcpnlejaaGreat.defS
  split
  · split
    · exact h.putTo nm _ hf
    · exact h.same 6
  · exact h.same 1
theorem Corr.appS (h : Corr L M L' M') (nm : List UInt8) (t : ByteArray) {b N : Nat} (hf : Fresh L L' b N) : Same (appS L M nm t b) (appS L' M' nm t N) := by
  unfold Go.Proofs.YtgpanlkcpnlejaaGreat.appS
  rw [← h.mOf]
  split
  · split
    · split
      · exact h.putTo nm _ hf
      · exact h.same 2
    · exact h.same 6
  · exact h.same 1
theorem Corr.macS (h : Corr L M L' M') (nm : List UInt8) (ls : List Ln) {b N : Nat} (hf : Fresh L L' b N) : Same (macS L M nm ls b) (macS L' M' nm ls N) := by
  unfold Go.Proofs.YtgpanlkcpnlejaaGreat.macS
  split
  · split
    · split
      · exact h.putTo nm _ hf
      · exact h.same 2
    · exact h.same 6
  · exact h.same 1
theorem Corr.addS (h : Corr L M L' M') (nm : List UInt8) (ls : List Ln) {b N : Nat} (hf : Fresh L L' b N) : Same (addS L M nm ls b) (addS L' M' nm ls N) := by
  unfold Go.Proofs.YtgpanlkcpnlejaaGreat.addS
  rw [← h.mOf]
  split
  · split
    · split
      · exact h.putTo nm _ hf
      · exact h.same 2
    · exact h.same 6
  · exact h.same 1
theorem Corr.remS (h : Corr L M L' M') (nm : List UInt8) : Same (remS L M nm) (remS L' M' nm) := by
  unfold Go.Proofs.YtgpanlkcpnlejaaGreat.remS
  split
  · exact ⟨rfl, h.del nm⟩
  · exact h.same 6
theorem Corr.renS (h : Corr L M L' M') (nm ot : List UInt8) : Same (renS L M nm ot) (renS L' M' nm ot) := by
  unfold Go.Proofs.YtgpanlkcpnlejaaGreat.renS
  rw [← h.has]
  cases hh : hasS L nm with
  | false => rw [if_neg (by decide), if_neg (by decide)]; exact h.same 6
  | true =>
    rw [if_pos rfl, if_pos rfl]
    split
    · refine ⟨rfl, (h.del nm).put_any ot _ _ (fun a ha => ?_) (h.mc nm hh)⟩
      rw [hasS_del] at ha
      simp only [Bool.and_eq_true, Bool.not_eq_true', beq_eq_false_iff_ne, ne_eq] at ha
      rw [getS_del _ _ _ ha.1, getS_del _ _ _ ha.1]
      exact h.al a nm ha.2 hh
    · exact h.same 6
theorem Corr.aliS (h : Corr L M L' M') (nm ot : List UInt8) : Same (aliS L M nm ot) (aliS L' M' nm ot) := by
  unfold Go.Proofs.YtgpanlkcpnlejaaGreat.aliS
  rw [← h.has, ← h.has, ← h.len]
  cases hh : hasS L ot with
  | false => rw [if_neg (by decide), if_neg (by decide)]; exact h.same 6
  | true =>
    rw [if_pos rfl, if_pos rfl]
    split
    · split
      · exact h.same 12
      · split
        · exact h.same 9
        · exact ⟨rfl, h.put_any nm _ _ (fun a ha => h.al a ot ha hh) (h.mc ot hh)⟩
    · exact h.same 6
theorem Corr.choS (h : Corr L M L' M') (nm : List UInt8) : Same (choS L M nm) (choS L' M' nm) := by
  unfold Go.Proofs.YtgpanlkcpnlejaaGreat.choS
  rw [← h.has]
  cases hh : hasS L nm with
  | false => rw [if_neg (by decide), if_neg (by decide)]; exact h.same 6
  | true =>
    rw [if_pos rfl, if_pos rfl, ← h.mc nm hh]
    exact ⟨rfl, h.put_old hh _⟩
theorem Corr.parS (h : Corr L M L' M') (nm : List UInt8) (f t : Int) : Same (parS L M nm f t) (parS L' M' nm f t) := by
  unfold Go.Proofs.YtgpanlkcpnlejaaGreat.parS
  rw [← h.has]
  cases hh : hasS L nm with
  | false => rw [if_neg (by decide), if_neg (by decide)]; exact h.same 6
  | true =>
    rw [if_pos rfl, if_pos rfl, ← h.mc nm hh]
    exact ⟨rfl, h.put_old hh _⟩
theorem Corr.deed (h : Corr L M L' M') (d : Dd) {b N : Nat} (hf : Fresh L L' b N) : Same (deedS L M d b) (deedS L' M' d N) := by
  unfold deedS
  split
  · exact h.defS _ _ hf
  split
  · exact h.appS _ _ hf
  split
  · exact h.macS _ _ hf
  split
  · exact h.addS _ _ hf
  split
  · exact h.remS _
  split
  · exact h.renS _ _
  split
  · exact h.aliS _ _
  split
  · exact h.choS _
  split
  · exact h.parS _ _ _
  · exact h.same 0
end
end Go.Proofs.YtgpanlkcpnlejaaGreat
/- Both stores: alike; a deed of both. -/
namespace Go.Proofs.YtgpanlkcpnlejaaGreat
open Go.RowKit Go.Maps
set_option maxRecDepth 100000
section
variable {T sb mb : Nat} {D : Nat → Prop} {bx : Nat} {L : List Reg} {M : Nat → Mc} {L' : List Reg} {M' : Nat → Mc} {N : Nat} {w : World}
set_option maxHeartbeats 2000000 in
theorem alike_any (h : Tw T sb mb D bx L M L' M' N w) (s : ByteArray) (hz : s.size ≤ 140737488351232) : Calls Tryz.prog 11 #[BP sb, BP bx, .string s] w fun e w' => e = .returned (.bool true) ∧ Below w.heap.size w w' := by
  have H1 := Lib.hid (rNames_any h.dk)
  have H2 := Lib.hid (fun W (hb : Below w.heap.size w W) => names_call (h.below hb).sa)
  have HE := Lib.hid (fun W (hb : Below w.heap.size w W) (s : ByteArray) hz => entry_any (h.below hb) s hz)
  have hl : L'.length ≤ 500 := by obtain ⟨_, _, _, _, _, hd⟩ := h.dk; exact hd.len
  have HLL := Lib.hid h.cr.len
  have HNS := Lib.hid (ns_nms h.cr.nms)
  have HOKN : Hid (∀ r ∈ L', okNm r.nm = true) := Lib.hid (by obtain ⟨_, _, _, _, _, hd⟩ := h.dk; exact fun r hr => (hd.ok r hr).1)
  have HZ := Lib.hid hz
  clear h hz
  go_enter Tryz.func11, Tryz.ntmps11
  go_wp2_with fail
  refine H1.out.mono ?_
  rintro e w1 ⟨⟨A, c, rfl, hr⟩, hb⟩
  have HB1 := Lib.hid hb
  have HR1 := Lib.hid hr
  clear hb hr
  go_wp2_with fail
  refine (H2.out _ HB1.out).mono ?_
  rintro e w2 ⟨⟨A', c', rfl, hr⟩, hb⟩
  have HB2 := Lib.hid (HB1.out.trans (hb.mono HB1.out.size))
  rw [HNS.out, HLL.out] at hr
  have hr1 : ReadsP (fun b => b < w2.heap.size) w2 1 A L'.length (L'.flatMap nsCs) := HR1.out.keep fun b hb' => ⟨hb.block b hb', Nat.lt_of_lt_of_le hb' hb.size⟩
  have HTX := Lib.hid (texts_eq (c := c') (c' := c) hr hr1 hl)
  have HR2 := Lib.hid hr1
  have hLL := HLL.out
  rw [hLL]
  clear hb hr hr1 hLL
  go_wp2_with fail
  refine HTX.out.mono ?_
  rintro e w3 ⟨rfl, hb⟩
  have HB3 := Lib.hid (HB2.out.trans (hb.mono HB2.out.size))
  have HR3 : Hid (ReadsP (fun b => b < w3.heap.size) w3 1 A L'.length (L'.flatMap nsCs)) := Lib.hid (HR2.out.keep fun b hb' => ⟨hb.block b hb', Nat.lt_of_lt_of_le hb' hb.size⟩)
  clear hb
  go_wp2_with fail
  refine (HE.out _ HB3.out s HZ.out).mono ?_
  rintro e w4 ⟨rfl, hb⟩
  have HB4 := Lib.hid (HB3.out.trans (hb.mono HB3.out.size))
  have HR4 : Hid (ReadsP (fun b => b < w4.heap.size) w4 1 A L'.length (L'.flatMap nsCs)) := Lib.hid (HR3.out.keep fun b hb' => ⟨hb.block b hb', Nat.lt_of_lt_of_le hb' hb.size⟩)
  clear hb
  go_wp2_with fail
  go_loopg [8] L'.length (fun k i wr => ∃ j : Nat, k + j = L'.length ∧ i = .int .i64 j ∧ Below w4.heap.size w4 wr)
  case atStart => exact ⟨0, rfl, rfl, Below.refl _ _⟩
  case round =>
    obtain ⟨j, hk, rfl, hb⟩ := hrel
    have HK := Lib.hid hk
    have HB := Lib.hid hb
    have HBW := Lib.hid (HB4.out.trans (hb.mono HB4.out.size))
    by_cases hj : j < L'.length
    · have dj : decide (j < L'.length) = true := decide_eq_true hj
      obtain ⟨b, off, rfl, hbl, hc⟩ := HR4.out.2 (by omega)
      have c0 := hc j _ (ns_at L' j hj)
      rw [← hb.cell (p := ⟨b, off + j, none⟩) hbl] at c0
      have hsz : (⟨(L'[j]).nm.toArray⟩ : ByteArray).size ≤ 140737488351232 := by
        have h1 := HOKN.out _ (List.getElem_mem hj)
        unfold okNm at h1
        simp only [Bool.and_eq_true, decide_eq_true_eq] at h1
        have : (⟨(L'[j]).nm.toArray⟩ : ByteArray).size = (L'[j]).nm.length := by show (L'[j]).nm.toArray.size = _; simp
        omega
      obtain ⟨z, hz⟩ : ∃ z : ByteArray, z = ⟨(L'[j]).nm.toArray⟩ := ⟨_, rfl⟩
      rw [← hz] at c0 hsz
      have HEW := Lib.hid (HE.out _ HBW.out z hsz)
      have HJ := Lib.hid hj
      have hj5 : j < 1000 := by omega
      clear hk hb hc hz hbl
      go_wp2_with fail
      refine HEW.out.mono ?_
      rintro e w5 ⟨rfl, hb⟩
      have HB5 := Lib.hid (HB.out.trans (hb.mono HB.out.size))
      clear hb
      go_wp2_with fail
      go_roundg (gk - 1)
      case measure => have := HK.out; have := HJ.out; omega
      case rel => have := HK.out; have := HJ.out; exact ⟨j + 1, by omega, by first | go_num | (congr 1; rw [IntWalk.wrap64_in _ (by omega)]; omega), HB5.out⟩
    · have dj : decide (j < L'.length) = false := decide_eq_false hj
      clear hk hb
      go_wp2_with fail
      go_ret
      exact ⟨rfl, HBW.out⟩
theorem up_not {k : Nat} {w w' : World} (h : ¬ FF T D k) (hk : k < w.heap.size) : ¬ FF T (Up D w w') k := by
  rintro (h1 | h1 | h1)
  · exact h (.inl h1)
  · exact h (.inr h1)
  · omega
/-- A deed of the document's leaves the code's store. -/
theorem SA.up {w' : World} (h : SA (FF T D) sb mb L M w) (k : Kept D w w') (kb : Kb w w') (hT : T ≤ w.heap.size) : SA (FF T (Up D w w')) sb mb L M w' := by
  obtain ⟨E, h⟩ := h
  refine ⟨E, h.sk.kept k (fun x => h.ls (.inr x)) (fun x => h.lm (.inr x)) (fun r hr x => (h.lo r hr).1 (.inr x)), fun r hr => ?_, h.dj, fun r hr => ?_, up_not h.ls h.sk.lt.1, up_not h.lm h.sk.lt.2, fun i hi => ?_⟩
  · have hx := h.en r hr
    exact ⟨hx.kd, hx.tx, hx.ln.keep (fun g hg => k.block g (hx.ln.tag hg).lt (fun x => (h.lo r hr).2 g hg (.inr x))) (fun e he b hb => kb e b he hb), hx.ok⟩
  · have hx := h.en r hr
    exact ⟨up_not (h.lo r hr).1 (h.sk.elt r hr), fun g hg => up_not ((h.lo r hr).2 g hg) (hx.ln.tag hg).lt⟩
  · have := k.size
    rcases hi with hi | hi | hi
    · omega
    · have := h.hf i (.inr hi); omega
    · exact hi.2
end
/-- Both stores, whatever they have. -/
structure Ok (T sb mb bx N : Nat) (w : World) : Prop where
  ex : ∃ D L M L' M', Tw T sb mb D bx L M L' M' N w
/-- The deed is done, and not yet told. -/
structure Mid (T sb mb bx N : Nat) (d : Dd) (x : Int) (w : World) : Prop where
  ex : ∃ D L M L' M', SA (FF T D) sb mb L M w ∧ DK D bx L' N M' w ∧ Same (x, L, M) (deedS L' M' d N) ∧ T ≤ w.heap.size ∧ ∀ k, D k → T ≤ k
theorem Ok.below {T sb mb bx N : Nat} {w w' : World} (h : Ok T sb mb bx N w) (k : Below w.heap.size w w') : Ok T sb mb bx N w' := by
  obtain ⟨D, L, M, L', M', h⟩ := h
  exact ⟨D, L, M, L', M', h.below k⟩
theorem Mid.below {T sb mb bx N : Nat} {d : Dd} {x : Int} {w w' : World} (h : Mid T sb mb bx N d x w) (k : Below w.heap.size w w') : Mid T sb mb bx N d x w' := by
  obtain ⟨D, L, M, L', M', h1, h2, h3, h4, h5⟩ := h
  exact ⟨D, L, M, L', M', h1.below k, h2.fx (Fx.of h2.hf k), h3, Nat.le_trans h4 k.size, h5⟩
theorem Ok.hT {T sb mb bx N : Nat} {w : World} (h : Ok T sb mb bx N w) : T ≤ w.heap.size := by
  obtain ⟨D, L, M, L', M', h⟩ := h
  exact h.hT
theorem do_mid {T sb mb bx N : Nat} {w : World} (h : Ok T sb mb bx N w) (d : Dd) (hd : DdAt w d) : Calls Tryz.prog 9 #[BP sb, DdV d] w fun e w' => ∃ x, e = .returned (.int .i64 x) ∧ Mid T sb mb bx N d x w' ∧ Below T w w' := by
  obtain ⟨D, L, M, L', M', h⟩ := h
  refine (doC h.sa d hd).mono fun e w' ⟨⟨b, hb, he, hs⟩, hf⟩ => ?_
  have hfr : Fresh L L' b N := ⟨fun r hr => by obtain ⟨E, hsa⟩ := h.sa; have := hsa.sk.elt r hr; omega, fun r hr => by
    obtain ⟨_, _, _, _, _, hk⟩ := h.dk
    have := (hk.ok r hr).2; omega⟩
  have hsame := h.cr.deed d hfr
  exact ⟨_, he, ⟨D, _, _, L', M', hs, h.dk.fx ⟨hf.os, hf.tape, hf.output, hf.size, fun k hk => hf.block k (.inr hk)⟩, hsame, Nat.le_trans h.hT hf.size, h.hD⟩, ⟨hf.os, hf.tape, hf.output, hf.size, fun k hk => hf.block k (.inl hk)⟩⟩
theorem told_end {T sb mb bx N : Nat} {d : Dd} {x : Int} {w : World} (h : Mid T sb mb bx N d x w) (hN : N ≤ 1000) (hd : DdAt w d) : Calls Tryz.prog 10 #[BP bx, DdV d] w fun e w' => e = .returned (.int .i64 x) ∧ (∃ N', N' ≤ N + 1 ∧ Ok T sb mb bx N' w') ∧ Below T w w' := by
  obtain ⟨D, L, M, L', M', hs, hk, ⟨hx, hc⟩, hT, hD⟩ := h
  refine (toldC hk hN d hd).mono fun e w' ⟨N', h1, h2, he, hg⟩ => ?_
  refine ⟨?_, ⟨N', h2, Up D w w', L, M, _, _, hs.up hg.kept hg.kb hT, hg.dk, hc, Nat.le_trans hT hg.kept.size, fun k hk => ?_⟩, ⟨hg.kept.os, hg.kept.tape, hg.kept.output, hg.kept.size, fun k hk => hg.kept.block k (by omega) (fun x => by have := hD k x; omega)⟩⟩
  · rw [he]
    have : x = (deedS L' M' d N).1 := hx
    rw [this]
  · rcases hk with hk | hk
    · exact hD k hk
    · omega
theorem alike_ok {T sb mb bx N : Nat} {w : World} (h : Ok T sb mb bx N w) (s : ByteArray) (hz : s.size ≤ 140737488351232) : Calls Tryz.prog 11 #[BP sb, BP bx, .string s] w fun e w' => e = .returned (.bool true) ∧ Below w.heap.size w w' := by
  obtain ⟨D, L, M, L', M', h⟩ := h
  exact alike_any h s hz
theorem DdAt.of {w W : World} {d : Dd} (h : DdOj w d) (h6 : d.n < 6000) (k : Below w.heap.size w W) : DdAt W d :=
  ⟨⟨fun b => b < w.heap.size, fun i hi => Nat.lt_of_lt_of_le hi k.size, h.ok.ls.keep fun e b hb => ⟨k.block b hb, hb⟩⟩, h.ok.nil, h6, h.ok.txs, h.ok.nm, h.ok.ot, h.ok.tx, h.ok.a9, h.ok.b9⟩
end Go.Proofs.YtgpanlkcpnlejaaGreat
/- The law StorePlays: its walk. -/
namespace Go.Proofs.YtgpanlkcpnlejaaGreat
open Go.RowKit Go.Maps
set_option maxRecDepth 100000
theorem below_like {B : Nat} {w w1 W : World} (h : Below B w w1) (h1 : W.heap = w1.heap) (h2 : W.os = w1.os) (h3 : W.tape = w1.tape) (h4 : W.output = w1.output) : Below B w W :=
  ⟨h2.trans h.os, h3.trans h.tape, h4.trans h.output, by rw [h1]; exact h.size, fun k hk => by rw [h1]; exact h.block k hk⟩
/-- Two new stores. -/
theorem ok_start {w w1 w2 : World} (h1 : ∀ E M, SL (fun k => k < w.heap.size) (w1.heap.size + 1) w1.heap.size [] E M w2) (hb0 : Below w.heap.size w w1) (hb : Below w1.heap.size w1 w2) {w3 : World} (h3 : DK (fun k => k = w2.heap.size) w2.heap.size [] 0 (fun _ => M0) w3) (hb3 : Below w2.heap.size w2 w3) :
    Ok w.heap.size (w1.heap.size + 1) w1.heap.size w2.heap.size 0 w3 := by
  have hz : w.heap.size ≤ w2.heap.size := Nat.le_trans hb0.size hb.size
  have hs := (h1 (fun _ => ⟨0, ⟨#[]⟩, none, 0, 0⟩) (fun _ => M0)).below hb3
  refine ⟨fun k => k = w2.heap.size, [], fun _ => M0, [], fun _ => M0, ⟨⟨_, ⟨hs.sk, (fun r hr => by cases hr), (fun r hr => by cases hr), (fun r hr => by cases hr), fun x => ?_, fun x => ?_, fun k hk => ?_⟩⟩, h3, ⟨rfl, fun a b ha => (by cases ha), fun a ha => (by cases ha)⟩, Nat.le_trans hz hb3.size, fun k hk => by rw [hk]; exact hz⟩⟩
  · have h4 := (h1 (fun _ => ⟨0, ⟨#[]⟩, none, 0, 0⟩) (fun _ => M0)).sk.lt
    have h5 := hb0.size
    rcases x with x | x <;> omega
  · have h4 := (h1 (fun _ => ⟨0, ⟨#[]⟩, none, 0, 0⟩) (fun _ => M0)).sk.lt
    have h5 := hb0.size
    rcases x with x | x <;> omega
  · rcases hk with hk | hk
    · have := hb3.size; omega
    · exact h3.hf k hk
/-- Behind j deeds. -/
def PlR (w : World) (sb mb bx n k : Nat) (i : Value) (wr : World) : Prop :=
  ∃ j N : Nat, k + j = n ∧ i = .int .i64 j ∧ N ≤ j ∧ Ok w.heap.size sb mb bx N wr ∧ Below w.heap.size w wr
theorem do_like {T sb mb bx N : Nat} {w wr W : World} (h : Ok T sb mb bx N wr) {d : Dd} (hd : DdOj w d) (h6 : d.n < 6000) (hT : T = w.heap.size) (hb : Below w.heap.size w wr) (h1 : W.heap = wr.heap) (h2 : W.os = wr.os) (h3 : W.tape = wr.tape) (h4 : W.output = wr.output) :
    Calls Tryz.prog 9 #[BP sb, DdV d] W fun e w' => ∃ x, e = .returned (.int .i64 x) ∧ Mid T sb mb bx N d x w' ∧ Below w.heap.size w w' := by
  subst hT
  have hW := below_like hb h1 h2 h3 h4
  exact (do_mid (h.below (below_like (Below.refl _ wr) h1 h2 h3 h4)) d (DdAt.of hd h6 hW)).mono fun e w' ⟨x, he, hm, hk⟩ => ⟨x, he, hm, hW.trans hk⟩
theorem told_like {T sb mb bx N : Nat} {x : Int} {w w6 W : World} {d : Dd} (h : Mid T sb mb bx N d x w6) (hN : N ≤ 1000) (hd : DdOj w d) (h6 : d.n < 6000) (hT : T = w.heap.size) (hb : Below w.heap.size w w6) (h1 : W.heap = w6.heap) (h2 : W.os = w6.os) (h3 : W.tape = w6.tape) (h4 : W.output = w6.output) :
    Calls Tryz.prog 10 #[BP bx, DdV d] W fun e w' => e = .returned (.int .i64 x) ∧ (∃ N', N' ≤ N + 1 ∧ Ok T sb mb bx N' w') ∧ Below w.heap.size w w' := by
  subst hT
  have hW := below_like hb h1 h2 h3 h4
  exact (told_end (h.below (below_like (Below.refl _ w6) h1 h2 h3 h4)) hN (DdAt.of hd h6 hW)).mono fun e w' ⟨he, hm, hk⟩ => ⟨he, hm, hW.trans hk⟩
theorem alike_like {T sb mb bx N : Nat} {w w7 W : World} {nm : ByteArray} (h : Ok T sb mb bx N w7) (hz : nm.size ≤ 140737488351232) (hb : Below w.heap.size w w7) (h1 : W.heap = w7.heap) (h2 : W.os = w7.os) (h3 : W.tape = w7.tape) (h4 : W.output = w7.output) :
    Calls Tryz.prog 11 #[BP sb, BP bx, .string nm] W fun e w' => e = .returned (.bool true) ∧ Ok T sb mb bx N w' ∧ Below w.heap.size w w' := by
  have hW := below_like hb h1 h2 h3 h4
  have hk := h.below (below_like (Below.refl _ w7) h1 h2 h3 h4)
  exact (alike_ok hk nm hz).mono fun e w' ⟨he, hb'⟩ => ⟨he, hk.below hb', hW.trans (hb'.mono hW.size)⟩
set_option maxHeartbeats 8000000 in
theorem law_plays {w : World} (A : Option Addr) (n c : Nat) (ds : List Dd) (hn : n = ds.length) (hn9 : (n : Int) ≤ 9223372036854775807) (hr : ReadsP (fun b => b < w.heap.size) w 7 A n (ds.flatMap ddCs)) (hd : ∀ d ∈ ds, DdOj w d) :
    Calls Tryz.prog 3 #[.slice A n c] w fun e w' => e = .returned (.bool true) ∧ Below w.heap.size w w' := by
  have HBG := Lib.hid (big_few A n c ds hn hn9 hr hd)
  have HN := Lib.hid hn
  have HR := Lib.hid hr
  have HD := Lib.hid hd
  clear hn hr hd
  go_enter Tryz.func3, Tryz.ntmps3
  go_wp2_with fail
  refine HBG.out.mono ?_
  rintro e w1 ⟨⟨t, rfl, ht⟩, hb⟩
  have HB1 := Lib.hid hb
  have HT := Lib.hid ht
  clear hb ht
  cases t with
  | true =>
    go_wp2_with fail
    refine (sane_any _).mono ?_
    rintro e w2 ⟨rfl, hb2⟩
    have HB2 := Lib.hid (HB1.out.trans (hb2.mono HB1.out.size))
    clear hb2
    go_wp2_with fail
    go_ret
    exact ⟨rfl, HB2.out⟩
  | false =>
    have hn120 := (HT.out rfl).1
    have HFEW := Lib.hid (HT.out rfl).2
    have HNL := Lib.hid (newL_any (F := fun k => k < w.heap.size) w1 (fun k hk => Nat.lt_of_lt_of_le hk HB1.out.size))
    go_wp2_with fail
    refine HNL.out.mono ?_
    rintro e w2 ⟨rfl, hs2, hb2⟩
    have HS2 := Lib.hid hs2
    have HB2 := Lib.hid hb2
    clear hs2 hb2
    go_wp2_with fail
    refine (rNew_any w2 (fun _ => M0)).mono ?_
    rintro e w3 ⟨rfl, hd3, hb3⟩
    have HOK3 := Lib.hid (ok_start HS2.out HB1.out HB2.out hd3 hb3)
    have HB3 := Lib.hid (HB1.out.trans ((HB2.out.trans (hb3.mono HB2.out.size)).mono HB1.out.size))
    clear hd3 hb3
    obtain ⟨sb, hsb⟩ : ∃ sb, sb = w1.heap.size + 1 := ⟨_, rfl⟩
    obtain ⟨mb, hmb⟩ : ∃ mb, mb = w1.heap.size := ⟨_, rfl⟩
    obtain ⟨bx, hbx⟩ : ∃ bx, bx = w2.heap.size := ⟨_, rfl⟩
    rw [← hsb, ← hmb, ← hbx] at HOK3
    rw [← hsb, ← hbx]
    clear hsb hmb hbx
    go_wp2_with fail
    go_loopg [5] n (fun k i wr => PlR w sb mb bx n k i wr)
    case atStart => exact ⟨0, 0, rfl, rfl, Nat.le_refl _, HOK3.out, HB3.out⟩
    case round =>
      obtain ⟨j, N, hk, rfl, hNj, hok, hb⟩ := hrel
      have HK := Lib.hid hk
      have HOK := Lib.hid hok
      have HB := Lib.hid hb
      by_cases hj : j < n
      · have dj : decide (j < n) = true := decide_eq_true hj
        have hN1 : N ≤ 1000 := by omega
        have HN1 := Lib.hid hN1
        have HNJ := Lib.hid hNj
        have hdj : ds[j]? = some (ds[j]'(by have := HN.out; omega)) := List.getElem?_eq_getElem (by have := HN.out; omega)
        obtain ⟨r, hre⟩ : ∃ r, r = ds[j]'(by have := HN.out; omega) := ⟨_, rfl⟩
        rw [← hre] at hdj
        have hm := List.mem_of_getElem? hdj
        have hdok := HD.out r hm
        have h6 := HFEW.out r hm
        obtain ⟨b, off, rfl, hbl, q0, q1, q2, q3, q4, q5, q6⟩ := reads_dd HR.out j r hdj
        obtain ⟨dk, nm, ot, tx, dA, dn, dc, da, db, dls⟩ := r
        simp only at q0 q1 q2 q3 q4 q5 q6
        have HCS : Hid (∀ W, Below w.heap.size w W → W.cell? ⟨b, off + j * 7, none⟩ = some (.int .i64 dk) ∧ W.cell? ⟨b, off + j * 7 + 1, none⟩ = some (.string nm) ∧ W.cell? ⟨b, off + j * 7 + 2, none⟩ = some (.string ot) ∧ W.cell? ⟨b, off + j * 7 + 3, none⟩ = some (.string tx) ∧ W.cell? ⟨b, off + j * 7 + 4, none⟩ = some (.slice dA dn dc) ∧ W.cell? ⟨b, off + j * 7 + 5, none⟩ = some (.int .i64 da) ∧ W.cell? ⟨b, off + j * 7 + 6, none⟩ = some (.int .i64 db)) := Lib.hid fun W hW =>
          ⟨(hW.cell (p := ⟨b, _, none⟩) hbl).trans q0, (hW.cell (p := ⟨b, _, none⟩) hbl).trans q1, (hW.cell (p := ⟨b, _, none⟩) hbl).trans q2, (hW.cell (p := ⟨b, _, none⟩) hbl).trans q3, (hW.cell (p := ⟨b, _, none⟩) hbl).trans q4, (hW.cell (p := ⟨b, _, none⟩) hbl).trans q5, (hW.cell (p := ⟨b, _, none⟩) hbl).trans q6⟩
        have HDo : Hid (∀ W : World, W.heap = wr.heap → W.os = wr.os → W.tape = wr.tape → W.output = wr.output → Calls Tryz.prog 9 #[BP sb, DV dk nm ot tx dA dn dc da db] W fun e w' => ∃ x, e = .returned (.int .i64 x) ∧ Mid w.heap.size sb mb bx N ⟨dk, nm, ot, tx, dA, dn, dc, da, db, dls⟩ x w' ∧ Below w.heap.size w w') := Lib.hid fun W h1 h2 h3 h4 => do_like (T := w.heap.size) (w := w) (wr := wr) (W := W) (d := ⟨dk, nm, ot, tx, dA, dn, dc, da, db, dls⟩) hok hdok h6 rfl hb h1 h2 h3 h4
        have HTo : Hid (∀ (x : Int) (w6 W : World), Mid w.heap.size sb mb bx N ⟨dk, nm, ot, tx, dA, dn, dc, da, db, dls⟩ x w6 → Below w.heap.size w w6 → W.heap = w6.heap → W.os = w6.os → W.tape = w6.tape → W.output = w6.output → Calls Tryz.prog 10 #[BP bx, DV dk nm ot tx dA dn dc da db] W fun e w' => e = .returned (.int .i64 x) ∧ (∃ N', N' ≤ N + 1 ∧ Ok w.heap.size sb mb bx N' w') ∧ Below w.heap.size w w') := Lib.hid fun x w6 W hm hb6 h1 h2 h3 h4 => told_like (T := w.heap.size) (w := w) (w6 := w6) (W := W) (d := ⟨dk, nm, ot, tx, dA, dn, dc, da, db, dls⟩) hm HN1.out hdok h6 rfl hb6 h1 h2 h3 h4
        have hz := hdok.ok.nm
        have HAl : Hid (∀ (N' : Nat) (w7 W : World), Ok w.heap.size sb mb bx N' w7 → Below w.heap.size w w7 → W.heap = w7.heap → W.os = w7.os → W.tape = w7.tape → W.output = w7.output → Calls Tryz.prog 11 #[BP sb, BP bx, .string nm] W fun e w' => e = .returned (.bool true) ∧ Ok w.heap.size sb mb bx N' w' ∧ Below w.heap.size w w') := Lib.hid fun N' w7 W hk hb7 h1 h2 h3 h4 => alike_like hk hz hb7 h1 h2 h3 h4
        obtain ⟨g0, g1, g2, g3, g4, g5, g6⟩ := HCS.out wr hb
        have CS := Lib.hid (HCS.out wr hb)
        have HJ := Lib.hid hj
        have hj0 : (0 : Int) ≤ (j : Int) := by omega
        have hj1 : (j : Int) < (n : Int) := by omega
        clear hk hok hb hdj hre hm hdok h6 hbl q0 q1 q2 q3 q4 q5 q6 hz hN1 hNj
        go_wp2_with fail
        go_region_held3 (fun w' => w'.cell? ⟨b, off + j * 7, none⟩ = some (.int .i64 dk) ∧ w'.cell? ⟨b, off + j * 7 + 1, none⟩ = some (.string nm) ∧ w'.cell? ⟨b, off + j * 7 + 2, none⟩ = some (.string ot) ∧ w'.cell? ⟨b, off + j * 7 + 3, none⟩ = some (.string tx) ∧ w'.cell? ⟨b, off + j * 7 + 4, none⟩ = some (.slice dA dn dc) ∧ w'.cell? ⟨b, off + j * 7 + 5, none⟩ = some (.int .i64 da) ∧ w'.cell? ⟨b, off + j * 7 + 6, none⟩ = some (.int .i64 db)) (first | exact csC | exact csB | exact csA | exact CS.out | go_keep)
          (first
          | (go_at_call 9; refine (HDo.out _ ?_ ?_ ?_ ?_).mono ?_
             · rfl
             · rfl
             · rfl
             · rfl
             rintro e w6 ⟨x, rfl, hmid, hb6⟩
             have HM6 := Lib.hid hmid
             have HB6 := Lib.hid hb6
             have hxx : (x != x) = false := by simp
             have csA := HCS.out w6 hb6
             clear hb6 hmid)
          | (go_at_call 10; refine (HTo.out x w6 _ HM6.out HB6.out ?_ ?_ ?_ ?_).mono ?_
             · rfl
             · rfl
             · rfl
             · rfl
             rintro e w7 ⟨rfl, ⟨N', hN', hok7⟩, hb7⟩
             have HOK7 := Lib.hid hok7
             have HB7 := Lib.hid hb7
             have HN7 := Lib.hid hN'
             have csB := HCS.out w7 hb7
             clear hb7 hok7 hN')
          | (go_at_call 11; refine (HAl.out N' w7 _ HOK7.out HB7.out ?_ ?_ ?_ ?_).mono ?_
             · rfl
             · rfl
             · rfl
             · rfl
             rintro e w8 ⟨rfl, hok8, hb8⟩
             have HOK8 := Lib.hid hok8
             have HB8 := Lib.hid hb8
             have csC := HCS.out w8 hb8
             clear hb8 hok8))
        all_goals
          go_wp2_with fail
          go_roundg (gk - 1)
          case measure => have := HK.out; have := HJ.out; omega
          case rel =>
            have := HK.out
            have := HJ.out
            have := HN7.out
            have := HNJ.out
            exact ⟨j + 1, N', by omega, by first | go_num | (congr 1; rw [IntWalk.wrap64_in _ (by omega)]; omega), by omega, HOK8.out, HB8.out⟩
      · have dj : decide (j < n) = false := decide_eq_false hj
        clear hk hok hb
        go_wp2_with fail
        refine (sane_any _).mono ?_
        rintro e w5 ⟨rfl, hb5⟩
        have HB5 := Lib.hid (HB.out.trans (hb5.mono HB.out.size))
        clear hb5
        go_wp2_with fail
        go_ret
        exact ⟨rfl, HB5.out⟩
end Go.Proofs.YtgpanlkcpnlejaaGreat
