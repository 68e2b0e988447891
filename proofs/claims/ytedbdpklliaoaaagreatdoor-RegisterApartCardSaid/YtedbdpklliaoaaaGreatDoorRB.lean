/- The document's book: Remove whole, Rename. -/
import Derived.Test.YtedbdpklliaoaaaGreatDoorRA
namespace Go.Proofs.YtedbdpklliaoaaaGreatDoor
open Go.RowKit Go.Shelf Go.Maps
set_option maxRecDepth 100000
/-- What a deed of the document's book leaves alone. -/
structure Fr (bx : Nat) (v v' : Value) (u w : World) : Prop where
  kept : Kept (fun k => k = bx ∨ v.ownBlock = some k) u w
  own : ∀ k, v'.ownBlock = some k → v.ownBlock = some k ∨ u.heap.size ≤ k
theorem Fr.trans {bx : Nat} {v v' v'' : Value} {u w x : World} (h : Fr bx v v' u w) (k : Fr bx v' v'' w x) : Fr bx v v'' u x := by
  have h1 := h.kept
  have h2 := k.kept
  refine ⟨⟨h2.os.trans h1.os, h2.tape.trans h1.tape, h2.output.trans h1.output, Nat.le_trans h1.size h2.size, fun i hi hs => ?_⟩, fun i hi => ?_⟩
  · refine (h2.block i (Nat.lt_of_lt_of_le hi h1.size) ?_).trans (h1.block i hi hs)
    rintro (e | e)
    · exact hs (.inl e)
    · rcases h.own i e with e | e
      · exact hs (.inr e)
      · omega
  · rcases k.own i hi with e | e
    · exact h.own i e
    · exact .inr (Nat.le_trans h1.size e)
theorem Fr.below {bx : Nat} {v : Value} {u w : World} (h : Below u.heap.size u w) : Fr bx v v u w := ⟨.of h, fun _ h => .inl h⟩
theorem Fr.refl (bx : Nat) (v : Value) (u : World) : Fr bx v v u u := .below (Below.refl _ _)
theorem rRemove_any {B bx : Nat} {v : Value} {L : List Reg} {w : World} (h : RK B bx v L w) (hA : Asc L) (hl : L.length ≤ 500) (s : ByteArray) :
    Calls Tryz.prog 30 #[BP bx, .string s] w fun e w' => ∃ v', e = .returned (.int .i64 (remS L s.data.toList).1) ∧ RK B bx v' (remS L s.data.toList).2 w' ∧ Fr bx v v' w w' := by
  have HN := Lib.hid (rIsName_any s w)
  have H := Lib.hid h
  unfold remS
  cases hn : okNm s.data.toList with
  | false =>
    rw [if_pos rfl]
    rw [hn] at HN
    clear h hn
    go_enter Tryz.func30, Tryz.ntmps30
    go_wp2_with fail
    refine HN.out.mono ?_
    rintro e w1 ⟨rfl, rfl⟩
    go_wp2_with fail
    go_ret
    exact ⟨v, rfl, H.out, Fr.refl _ _ _⟩
  | true =>
    rw [if_neg (by decide)]
    cases ht : hasS L s.data.toList with
    | false =>
      rw [hn] at HN
      have HF := Lib.hid (rat_any h hl s)
      rw [at_has L _ hA, ht] at HF
      have HD := Lib.hid (del_not L s.data.toList ht)
      rw [HD.out]
      clear h hn ht
      go_enter Tryz.func30, Tryz.ntmps30
      go_wp2_with fail
      refine HN.out.mono ?_
      rintro e w0 ⟨rfl, rfl⟩
      go_wp2_with fail
      refine HF.out.mono ?_
      rintro e w1 ⟨rfl, hb⟩
      have HB := Lib.hid hb
      clear hb
      go_wp2_with fail
      go_ret
      exact ⟨v, rfl, H.out.below HB.out, .below HB.out⟩
    | true =>
      rcases h.row.2 with ⟨hv, hz⟩ | ⟨g, cap, cur, hv, _⟩
      · have hL : L = [] := List.eq_nil_of_length_eq_zero hz
        rw [hL] at ht; cases ht
      · rw [hv] at h
        exact (rRemove_hit h hA hl s hn ht).mono fun e w' ⟨v', he, hr, hk, hf⟩ => ⟨v', he, hr, ⟨hk.mono (fun k h => .inl h), fun k hk => .inr (hf k hk)⟩⟩
theorem put_del_same : ∀ (L : List Reg) (nm : List UInt8), Asc L → hasS L nm = true → putS (delS L nm) (getS L nm) = L
  | [], _, _, h => by cases h
  | x :: t, nm, hA, hh => by
    obtain ⟨h1, h2⟩ := List.pairwise_cons.1 hA
    by_cases e : x.nm = nm
    · have hnt : hasS t nm = false := by
        unfold hasS; rw [List.any_eq_false]
        intro y hy
        have := blt_ne (h1 y hy)
        rw [e] at this
        simpa using Ne.symm this
      have hd : delS (x :: t) nm = t := by
        have := del_not t nm hnt
        unfold delS at this ⊢
        rw [List.filter_cons_of_neg (by simp [e])]; exact this
      have hg : getS (x :: t) nm = x := by unfold getS; rw [List.find?_cons_of_pos (by simp [e])]; rfl
      rw [hd, hg]
      cases t with
      | nil => rfl
      | cons y u =>
        have hlt := h1 y (List.mem_cons_self ..)
        unfold putS
        rw [if_neg (fun c => blt_ne hlt c.symm)]
        have : Op.bytesLess y.nm x.nm = false := by
          cases hq : Op.bytesLess y.nm x.nm with
          | false => rfl
          | true => have := blt_trans _ _ _ hlt hq; rw [blt_irrefl] at this; cases this
        rw [this, if_neg (by decide)]
    · have ht : hasS t nm = true := by simpa [hasS, e] using hh
      have ih := put_del_same t nm h2 ht
      have hd : delS (x :: t) nm = x :: delS t nm := by unfold delS; rw [List.filter_cons_of_pos (by simp [e])]
      have hg : getS (x :: t) nm = getS t nm := by unfold getS; rw [List.find?_cons_of_neg (by simp [e])]
      have hlt : Op.bytesLess x.nm nm = true := by
        have := h1 _ (getS_mem t nm ht)
        rwa [getS_nm] at this
      rw [hd, hg]
      unfold putS
      rw [getS_nm, if_neg e, if_pos hlt, ih]
end Go.Proofs.YtedbdpklliaoaaaGreatDoor
