/- The document's book: Names. -/
import Derived.Test.YtedbdpklliaoaaaGreatDoorRC
namespace Go.Proofs.YtedbdpklliaoaaaGreatDoor
open Go.RowKit Go.Shelf Go.Maps
set_option maxRecDepth 100000
theorem info_str : ∃ i : TypeInfo, Tryz.prog.info? 9 = some i ∧ i.zero = some (.string ⟨#[]⟩) ∧ i.size = 1 ∧ i.bytes = 16 := by
  have e : (Tryz.prog.info? 9).map (fun i => (i.zero, i.size, i.bytes)) = some (some (.string ⟨#[]⟩), 1, 16) := by kernel_rfl
  cases h : Tryz.prog.info? 9 with
  | none => rw [h] at e; cases e
  | some i =>
    rw [h] at e
    simp only [Option.map_some, Option.some.injEq, Prod.mk.injEq] at e
    exact ⟨i, rfl, e.1, e.2.1, e.2.2⟩
theorem fresh_one {b : Nat} {x : Value} {w : World} (h : w.heap[b]? = some (.cells #[x] 9 (0, 0))) : w.cell? ⟨b, 0, none⟩ = some x := by simp [World.cell?, h]
theorem cell_str_new (w : World) (a : Value) : ∀ (j : Nat) (u : Value), [a][j]? = some u → (w.alloc (.cells #[a] 9)).cell? ((⟨w.heap.size, 0, none⟩ : Addr).add j) = some u := by
  intro j u h
  have c0 := fresh_one (heap_alloc_new w (.cells #[a] 9))
  match j, h with
  | 0, h => exact c0.trans h
  | j + 1, h => cases h
def NmR (L : List Reg) (w : World) (k : Nat) (l i : Value) (wr : World) : Prop :=
  ∃ j : Nat, k + j = L.length ∧ i = .int .i64 j ∧ wr.ownsRow w.heap.size 9 1 l j (((nmsOf L).take j).map encStr) ∧ Below w.heap.size w wr
theorem rNames_any {B bx : Nat} {v : Value} {L : List Reg} {w : World} (h : RK B bx v L w) (hl : L.length ≤ 500) :
    Calls Tryz.prog 33 #[BP bx] w fun e w' => ∃ v, e = .returned v ∧ w'.ownsRow w.heap.size 9 1 v L.length ((nmsOf L).map encStr) ∧ Below w.heap.size w w' := by
  obtain ⟨i0, hi0, hz0, hz1, hz2⟩ := info_str
  obtain ⟨o, cap, rfl, hcap, hlc⟩ := h.val
  have H := Lib.hid h
  clear h
  go_enter Tryz.func33, Tryz.ntmps33
  go_wp2_with fail
  go_loopg [3, 4] L.length (fun k l i wr => NmR L w k l i wr)
  case atStart => exact ⟨0, rfl, rfl, World.ownsRow_nil _ _ _ _, Below.refl _ _⟩
  case round =>
    obtain ⟨j, hk, rfl, hrow, hb⟩ := hrel
    have h1 := H.out.below hb
    have hc := h1.c0
    have HB := Lib.hid hb
    have HK := Lib.hid hk
    have HR := Lib.hid hrow
    by_cases hj : j < L.length
    · have d1 : decide (j < L.length) = true := decide_eq_true hj
      obtain ⟨g, rfl, c0, c1, c2, c3⟩ := h1.at_ j hj
      clear c1 c2 c3
      have HNM := Lib.hid (show ((nmsOf L).take (j + 1)).map encStr = ((nmsOf L).take j).map encStr ++ [.string ⟨(L[j]).nm.toArray⟩] by
        rw [List.take_succ_eq_append_getElem (by simpa [nmsOf] using hj), List.map_append]; simp [nmsOf, encStr])
      obtain ⟨x, hx⟩ : ∃ x : ByteArray, x = ⟨(L[j]).nm.toArray⟩ := ⟨_, rfl⟩
      rw [← hx] at c0 HNM
      have HJ := Lib.hid hj
      have hj5 : j < 1000 := by omega
      have hz := hb.size
      have HSRC := Lib.hid (cell_str_new wr (.string x))
      have HRA := Lib.hid (hrow.alloc (.cells #[.string x] 9))
      clear hb hk hrow h1 hx hj
      go_wp2_with (at_builtin; refine wpList_append_own _ rfl _ _ 47 rfl w.heap.size 9 i0 (.string ⟨#[]⟩) 1 16 Tryz.underlying47 hi0 hz0 hz1 hz2 rfl (by decide) _ _ _ rfl HRA.out ⟨wr.heap.size, 0, none⟩ 1 1 [.string x] rfl rfl HSRC.out (fun u hu => by simp at hu; subst hu; rfl) (by unfold maxLen; omega) (by omega) (by simp; omega) ?_
                   intro v1 w2 hown1 hgrow1 _
                   have HO := Lib.hid hown1
                   have HG : Hid ((wr.alloc (.cells #[.string x] 9)).grownBy w2 _) := Lib.hid hgrow1
                   clear hown1 hgrow1)
      go_roundg (gk - 1)
      case measure => have := HK.out; have := HJ.out; omega
      case rel =>
        have := HK.out
        have := HJ.out
        refine ⟨j + 1, by omega, by go_num, by rw [HNM.out]; exact HO.out, ?_⟩
        exact ((Kept.of (S := fun _ => False) HB.out).alloc _ |>.grownNew HG.out (fun g e => (HR.out.lt g e).1)).to (Nat.le_refl _) (fun _ h => h.elim)
    · have d1 : decide (j < L.length) = false := decide_eq_false hj
      have hje : j = L.length := by omega
      have HF := Lib.hid (show ((nmsOf L).take j) = nmsOf L by rw [hje]; exact List.take_of_length_le (by simp [nmsOf]))
      have HJ := Lib.hid hje
      clear hb hk hrow h1 hj hje
      go_wp2_with fail
      go_ret
      have hr := HR.out
      rw [HF.out, HJ.out] at hr
      exact ⟨_, rfl, hr, HB.out⟩
end Go.Proofs.YtedbdpklliaoaaaGreatDoor
