/- The names of a book, in order. -/
import Derived.Test.YtedbdpklliaoaaaGreatDoorB3
import Derived.Test.YtedbdpklliaoaaaGreatDoorIter
import Derived.Sort.KeysCollected
import Derived.Sort.Walk0
namespace Go.Proofs.YtedbdpklliaoaaaGreatDoor
open Go.RowKit Go.Shelf Go.Maps Go.Sort
set_option maxRecDepth 100000
def nmsOf (L : List Reg) : List (List UInt8) := L.map fun r => r.nm
theorem nms_nodup (L : List Reg) (h : Asc L) : (nmsOf L).Nodup := by
  unfold nmsOf
  exact List.pairwise_map.2 (h.imp fun hab => blt_ne hab)
theorem mem_nms (L : List Reg) (x : List UInt8) : x ∈ nmsOf L ↔ hasS L x = true := by
  unfold nmsOf hasS
  rw [List.mem_map, List.any_eq_true]
  constructor
  · rintro ⟨r, hr, rfl⟩; exact ⟨r, hr, by simp⟩
  · rintro ⟨r, hr, h⟩; exact ⟨r, hr, by simpa using h⟩
theorem nms_sorted (L : List Reg) (h : Asc L) : (nmsOf L).mergeSort (fun x y => decide (x ≤ y)) = nmsOf L := by
  have tr : ∀ a b c : List UInt8, leB a b = true → leB b c = true → leB a c = true := fun a b c h1 h2 => by simp only [leB, decide_eq_true_eq] at *; exact List.le_trans h1 h2
  refine List.mergeSort_of_pairwise ?_
  unfold nmsOf
  refine List.pairwise_map.2 (h.imp fun {a b} hab => ?_)
  rw [bytesLess_eq] at hab
  simp only [decide_eq_true_eq] at hab ⊢
  exact List.le_of_lt hab
theorem keys_perm {mb n : Nat} {D : DataW Unit} {L : List Reg} {w : World} (hown : w.ownsMap Tryz.prog 9 regElem mb n D) (his : MapIs D L) (hA : Asc L) : (nmsOf L).Perm (strKeys D) := by
  obtain ⟨es, rfl, hk⟩ := hown.keysOf
  obtain ⟨es', he, hp⟩ := hown.tidy law
  obtain rfl : es = es' := by simpa using he
  refine perm_strKeys hp (fun p hp' => ?_) (nms_nodup L hA) (fun x => by rw [mem_nms, his.has])
  obtain ⟨key, hkey⟩ := hk p hp'
  obtain ⟨x, _, hx, _⟩ := Maps.keyOf_str Tryz.underlying9 hkey
  exact ⟨x, hx⟩
theorem sorts_ok (m : Nat) : AnyZ.SortsIn Tryz.prog Tryz.sorted45_ren Fence.wide m :=
  ⟨fun blk off cap ss W hH hblk hsz => callsIn_wide.2 (AnyM.slices_Sort_string Tryz.sort66 blk off cap ss W hH hblk hsz),
   fun p cap W => callsIn_wide.2 (AnyM.slices_Sort_string_none Tryz.sort66 p cap W)⟩
theorem keys_call (mb : Nat) (W : World) : Calls Tryz.prog 46 #[.map (some mb)] W fun e w' => e = .returned (.func (.func 67) #[] #[.pointer (some ⟨W.heap.size, 0, none⟩)]) ∧ w' = W.alloc (.cells #[.map (some mb)] 54) :=
  callsIn_wide.1 (AnyZ.keys_in Tryz.keys46 Fence.wide 5 trivial rfl (some mb) W)
set_option maxHeartbeats 1000000 in
theorem sorted_call {mb n : Nat} {D : DataW Unit} {L : List Reg} {w : World} (hown : w.ownsMap Tryz.prog 9 regElem mb n D) (his : MapIs D L) (hA : Asc L) (hl : L.length ≤ 500) :
    Calls Tryz.prog 45 #[.func (.func 67) #[] #[.pointer (some ⟨w.heap.size, 0, none⟩)]] (w.alloc (.cells #[.map (some mb)] 54)) fun e w' => ∃ v, e = .returned v ∧ w'.ownsRow (w.heap.size + 1) 9 1 v L.length ((nmsOf L).map encStr) ∧ Below (w.heap.size + 1) (w.alloc (.cells #[.map (some mb)] 54)) w' := by
  have hbl := hown.lt
  have hsz := his.size
  have hmax : Maps.size D ≤ maxLen := by unfold maxLen; omega
  have hbytes : Maps.size D * 16 ≤ 140737488355328 := by omega
  have hseq : SeqGives Fence.wide 2 Tryz.prog 67 #[.pointer (some ⟨w.heap.size, 0, none⟩)] encStr (fun ss => ss.Perm (strKeys D)) (Maps.size D) (w.alloc (.cells #[.map (some mb)] 54)) :=
    AnyZ.keys_gives (ρ := Tryz.keys46_ren) { Tryz.keys46 with } Fence.wide _ trivial rfl (by omega) w.heap.size mb n D _ (by simp) (by simp) (by
      obtain ⟨es, clock, hb, Ft, hs, hD⟩ := hown
      exact ⟨es, clock, (Below.heap_alloc _ _ mb hbl).trans hb, Ft, hs, hD⟩)
  have hc := callsIn_wide.1 (AnyZ.sorted_in Tryz.sorted45 Fence.wide 5 trivial trivial trivial trivial rfl (by omega) (sorts_ok _) (enters_of Tryz.func66 (by kernel_rfl) rfl) 67 #[.pointer (some ⟨w.heap.size, 0, none⟩)] trivial (enters_of Tryz.func67 (by kernel_rfl) rfl) _ _ hmax hbytes _ hseq)
  refine hc.mono ?_
  rintro e w' ⟨v, ss, rfl, hS, hrow, hnil, hb⟩
  have hp := keys_perm hown his hA
  have hps : ss.Perm (nmsOf L) := hS.trans hp.symm
  have e1 : ss.mergeSort (fun x y => decide (x ≤ y)) = nmsOf L := (mergeSort_of_perm hps).trans (nms_sorted L hA)
  have e2 : ss.length = L.length := by rw [hps.length_eq]; simp [nmsOf]
  rw [e1, e2] at hrow
  have e3 : (w.alloc (.cells #[.map (some mb)] 54)).heap.size = w.heap.size + 1 := by simp
  rw [e3] at hrow hb
  exact ⟨v, rfl, hrow, hb⟩
theorem names_call {bb mb : Nat} {L : List Reg} {w : World} (h : BK bb mb L w) : Calls Tryz.prog 23 #[BP bb] w fun e w' => ∃ v, e = .returned v ∧ w'.ownsRow w.heap.size 9 1 v L.length ((nmsOf L).map encStr) ∧ Below w.heap.size w w' := by
  have H := Lib.hid h
  have hc := h.c0
  obtain ⟨D, hown, his⟩ := h.map
  have HK := Lib.hid (keys_call mb w)
  have HS := Lib.hid (sorted_call hown his h.asc h.len)
  clear h hown his
  go_enter Tryz.func23, Tryz.ntmps23
  go_wp2_with fail
  refine (made_any H.out).mono ?_
  rintro e w1 ⟨rfl, rfl⟩
  go_wp2_with fail
  refine HK.out.mono ?_
  rintro e w2 ⟨rfl, rfl⟩
  go_wp2_with fail
  refine HS.out.mono ?_
  rintro e w3 ⟨v, rfl, hrow, hb⟩
  have HROW := Lib.hid hrow
  have HB := Lib.hid (((Below.refl w.heap.size w).alloc (Nat.le_refl _) (.cells #[.map (some mb)] 54)).trans (hb.mono (Nat.le_succ _)))
  clear hrow hb
  go_wp2_with fail
  go_ret
  exact ⟨v, rfl, ownsRow_base_a HROW.out (by simp), HB.out⟩
end Go.Proofs.YtedbdpklliaoaaaGreatDoor
