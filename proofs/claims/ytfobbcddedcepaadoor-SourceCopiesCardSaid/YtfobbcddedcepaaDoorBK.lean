/- File, Instead. -/
import Derived.Test.YtfobbcddedcepaaDoorBJ
namespace Go.Proofs.YtfobbcddedcepaaDoor
open Go.RowKit
set_option maxRecDepth 100000
set_option linter.unusedSimpArgs false
set_option linter.unusedVariables false
def okF (nm s : ByteArray) : Bool := okName nm && okLs (mkL (linesS s))
abbrev fileFr (nm s : ByteArray) : Fr := ⟨1, nm, mkL (linesS s), [], 0⟩
def fileS (F : List Fr) (nm s : ByteArray) : Int × List Fr := if okF nm s then pushS F (fileFr nm s) else (1, F)
def insS (F : List Fr) (nm s : ByteArray) : Int × List Fr := if okF nm s then (if topS isFile F = 0 then (8, F) else pushS (F.take (topS isFile F - 1)) (fileFr nm s)) else (1, F)
theorem okF_fr {nm s : ByteArray} (h : okF nm s = true) : okFr (fileFr nm s) := by
  unfold okF at h
  simp only [Bool.and_eq_true] at h
  exact ⟨(okLs_ok h.2).2, (okLs_ok h.2).1, Nat.zero_le _, .inl rfl⟩
set_option maxHeartbeats 1000000 in
theorem file_call {sb g c : Nat} {F : List Fr} {rs : List RF} {w : World} (h : CK sb g c F rs w) (nm s : ByteArray) (hs : s.size ≤ 1000000) : Calls Tryd.prog 16 #[BP sb, .string nm, .string s] w (DoP sb g (fileS F nm s) w) := by
  have hfl := file_any nm s hs w
  have hP : fileS F nm s = if okF nm s then pushS F (fileFr nm s) else (1, F) := rfl
  unfold FileP at hfl
  change Calls _ _ _ _ (fun e w' => ∃ r, e = .returned (.tuple #[rfA r, .bool (okF nm s)]) ∧ (okF nm s = true → RfIs (Tg w') w' r (fileFr nm s)) ∧ Below w.heap.size w w') at hfl
  have H := Lib.hid h
  cases ho : okF nm s with
  | false =>
    rw [ho] at hfl hP
    rw [if_neg (by decide)] at hP
    have HFL := Lib.hid hfl
    have HP := Lib.hid hP
    clear h hfl hP ho
    go_enter Tryd.func16, Tryd.ntmps16
    go_wp2_with fail
    refine HFL.out.mono ?_
    rintro e w1 ⟨r, rfl, _, hb1⟩
    have hb2 := hb1.alloc hb1.size (.cells #[.int .i64 r.kd, .string r.nm, .slice r.lo r.ln r.lc, .slice r.ao r.an r.ac, .int .i64 r.tk] 64)
    have HB2 := Lib.hid hb2
    have HM := Lib.hid (made_any (H.out.below hb2))
    clear hb1 hb2
    go_wp2_with fail
    refine HM.out.mono ?_
    rintro e w3 ⟨rfl, rfl⟩
    go_wp2_with fail
    go_ret
    rw [HP.out]
    exact DoP.arg H.out 1 HB2.out
  | true =>
    have hok := okF_fr ho
    rw [ho] at hfl hP
    rw [if_pos rfl] at hP
    have HFL := Lib.hid hfl
    have HP := Lib.hid hP
    have HOK := Lib.hid hok
    clear h hfl hP ho hok
    go_enter Tryd.func16, Tryd.ntmps16
    go_wp2_with fail
    refine HFL.out.mono ?_
    rintro e w1 ⟨r, rfl, hri, hb1⟩
    have hb2 := hb1.alloc hb1.size (.cells #[.int .i64 r.kd, .string r.nm, .slice r.lo r.ln r.lc, .slice r.ao r.an r.ac, .int .i64 r.tk] 64)
    have hri2 := (hri trivial).dt (Dt.below ((Below.refl w1.heap.size w1).alloc (Nat.le_refl _) (.cells #[.int .i64 r.kd, .string r.nm, .slice r.lo r.ln r.lc, .slice r.ao r.an r.ac, .int .i64 r.tk] 64)))
    have HB2 := Lib.hid hb2
    have HM := Lib.hid (made_any (H.out.below hb2))
    have hpu := push_any (H.out.below hb2) hri2 HOK.out
    have HPU := Lib.hid hpu
    have hy := fresh_fr (heap_alloc_new w1 (.cells #[.int .i64 r.kd, .string r.nm, .slice r.lo r.ln r.lc, .slice r.ao r.an r.ac, .int .i64 r.tk] 64))
    obtain ⟨⟨y0, y1, y2, y3, y4⟩, _⟩ := hy
    clear hb1 hb2 hri hri2 hpu
    go_wp2_with fail
    refine HM.out.mono ?_
    rintro e w3 ⟨rfl, rfl⟩
    go_wp2_with fail
    refine HPU.out.mono ?_
    rintro e w4 ⟨rfl, hst⟩
    have HST := Lib.hid hst
    clear hst
    go_wp2_with fail
    go_ret
    rw [HP.out]
    exact DoP.from ⟨rfl, HST.out⟩ HB2.out
set_option maxHeartbeats 1000000 in
theorem instead_any {sb g c : Nat} {F : List Fr} {rs : List RF} {w : World} (h : CK sb g c F rs w) (nm s : ByteArray) (hs : s.size ≤ 1000000) : Calls Tryd.prog 22 #[BP sb, .string nm, .string s] w (DoP sb g (insS F nm s) w) := by
  have hfl := file_any nm s hs w
  have hP : insS F nm s = if okF nm s then (if topS isFile F = 0 then (8, F) else pushS (F.take (topS isFile F - 1)) (fileFr nm s)) else (1, F) := rfl
  unfold FileP at hfl
  change Calls _ _ _ _ (fun e w' => ∃ r, e = .returned (.tuple #[rfA r, .bool (okF nm s)]) ∧ (okF nm s = true → RfIs (Tg w') w' r (fileFr nm s)) ∧ Below w.heap.size w w') at hfl
  have H := Lib.hid h
  cases ho : okF nm s with
  | false =>
    rw [ho] at hfl hP
    rw [if_neg (by decide)] at hP
    have HFL := Lib.hid hfl
    have HP := Lib.hid hP
    clear h hfl hP ho
    go_enter Tryd.func22, Tryd.ntmps22
    go_wp2_with fail
    refine HFL.out.mono ?_
    rintro e w1 ⟨r, rfl, _, hb1⟩
    have hb2 := hb1.alloc hb1.size (.cells #[.int .i64 r.kd, .string r.nm, .slice r.lo r.ln r.lc, .slice r.ao r.an r.ac, .int .i64 r.tk] 64)
    have HB2 := Lib.hid hb2
    have HM := Lib.hid (made_any (H.out.below hb2))
    clear hb1 hb2
    go_wp2_with fail
    refine HM.out.mono ?_
    rintro e w3 ⟨rfl, rfl⟩
    go_wp2_with fail
    go_ret
    rw [HP.out]
    exact DoP.arg H.out 1 HB2.out
  | true =>
    have hok := okF_fr ho
    rw [ho] at hfl hP
    rw [if_pos rfl] at hP
    have ht0 : ∀ W, Below w.heap.size w W → Calls Tryd.prog 46 #[BP sb, .func (.func 56) #[] #[]] W (fun e w' => e = .returned (.tuple #[.int .i64 ((topS isFile F : Nat) - 1 : Int), rfA (gotR rs (topS isFile F))]) ∧ Below W.heap.size W w') := fun W hW => by
      have ht := top_isFile (h.below hW)
      unfold TopP at ht
      rw [(h.below hW).top q_file] at ht
      exact ht
    have hle := topS_le isFile F
    have hl50 := h.len
    generalize topS isFile F = k at *
    have HFL := Lib.hid hfl
    have HOK := Lib.hid hok
    cases k with
    | zero =>
      rw [if_pos rfl] at hP
      have HP := Lib.hid hP
      rw [show ((0 : Nat) : Int) - 1 = -1 by rfl] at ht0
      generalize gotR rs 0 = q at ht0
      have HT0 := Lib.hid ht0
      have d1 : decide ((-1 : Int) < 0) = true := by decide
      clear h hfl hP ho hok ht0
      go_enter Tryd.func22, Tryd.ntmps22
      go_wp2_with fail
      refine HFL.out.mono ?_
      rintro e w1 ⟨r, rfl, hri, hb1⟩
      have hb2 := hb1.alloc hb1.size (.cells #[.int .i64 r.kd, .string r.nm, .slice r.lo r.ln r.lc, .slice r.ao r.an r.ac, .int .i64 r.tk] 64)
      have HB2 := Lib.hid hb2
      have HM := Lib.hid (made_any (H.out.below hb2))
      have HT := Lib.hid (HT0.out _ hb2)
      clear hb1 hb2 hri
      go_wp2_with fail
      refine HM.out.mono ?_
      rintro e w3 ⟨rfl, rfl⟩
      go_wp2_with fail
      refine HT.out.mono ?_
      rintro e w4 ⟨rfl, hb4⟩
      have HB := Lib.hid ((HB2.out.trans (hb4.mono HB2.out.size)).alloc (by have := HB2.out.size; have := hb4.size; omega) (.cells #[.int .i64 q.kd, .string q.nm, .slice q.lo q.ln q.lc, .slice q.ao q.an q.ac, .int .i64 q.tk] 64))
      clear hb4
      go_wp2_with fail
      go_ret
      rw [HP.out]
      exact DoP.arg H.out 8 HB.out
    | succ k =>
      rw [if_neg (by omega), Nat.add_sub_cancel] at hP
      have HP := Lib.hid hP
      rw [show ((k + 1 : Nat) : Int) - 1 = (k : Int) by omega] at ht0
      generalize gotR rs (k + 1) = q at ht0
      have HT0 := Lib.hid ht0
      have d1 : decide ((k : Int) < 0) = false := by simp
      clear h hfl hP ho hok ht0
      go_enter Tryd.func22, Tryd.ntmps22
      go_wp2_with fail
      refine HFL.out.mono ?_
      rintro e w1 ⟨r, rfl, hri, hb1⟩
      have hb2 := hb1.alloc hb1.size (.cells #[.int .i64 r.kd, .string r.nm, .slice r.lo r.ln r.lc, .slice r.ao r.an r.ac, .int .i64 r.tk] 64)
      have hbb := (Below.refl w1.heap.size w1).alloc (Nat.le_refl _) (.cells #[.int .i64 r.kd, .string r.nm, .slice r.lo r.ln r.lc, .slice r.ao r.an r.ac, .int .i64 r.tk] 64)
      have HRI := Lib.hid ((hri trivial).dt (Dt.below hbb))
      have HB2 := Lib.hid hb2
      have HZ1 := Lib.hid hb1.size
      have HM := Lib.hid (made_any (H.out.below hb2))
      have HT := Lib.hid (HT0.out _ hb2)
      have HY := Lib.hid (heap_alloc_new w1 (.cells #[.int .i64 r.kd, .string r.nm, .slice r.lo r.ln r.lc, .slice r.ao r.an r.ac, .int .i64 r.tk] 64))
      clear hb1 hb2 hri hbb
      go_wp2_with fail
      refine HM.out.mono ?_
      rintro e w3 ⟨rfl, rfl⟩
      go_wp2_with fail
      refine HT.out.mono ?_
      rintro e w4 ⟨rfl, hb4⟩
      have hbq := hb4.alloc hb4.size (.cells #[.int .i64 q.kd, .string q.nm, .slice q.lo q.ln q.lc, .slice q.ao q.an q.ac, .int .i64 q.tk] 64)
      have hB := HB2.out.trans (hbq.mono HB2.out.size)
      have hy4 := (hbq.block w1.heap.size (by simp)).trans HY.out
      have HRI4 := Lib.hid (HRI.out.dt (Dt.below hbq))
      have hc := cut_any (H.out.below hB) k (by omega)
      have HB := Lib.hid hB
      have HC := Lib.hid hc
      have HY4 := Lib.hid hy4
      clear hb4 hbq hB hy4 hc
      go_wp2_with fail
      refine HC.out.mono ?_
      rintro e w5 ⟨rfl, hck, hkp⟩
      have hlt := H.out.lt
      have hz1 := HZ1.out
      have hy5 := (hkp.block w1.heap.size (lt_of_block HY4.out) (fun e => by rcases e with e | e <;> omega)).trans HY4.out
      obtain ⟨⟨y0, y1, y2, y3, y4⟩, _⟩ := fresh_fr hy5
      have hri5 := HRI4.out.dt (Dt.st (H.out.below HB.out) hkp)
      have hpu := push_any hck hri5 HOK.out
      have HPU := Lib.hid hpu
      have HKP := Lib.hid ((Kept.of HB.out).trans hkp)
      clear hck hkp hlt hz1 hy5 hri5 hpu
      go_wp2_with fail
      refine HPU.out.mono ?_
      rintro e w6 ⟨rfl, hst⟩
      have HST := Lib.hid hst
      clear hst
      go_wp2_with fail
      go_ret
      rw [HP.out]
      obtain ⟨g', hcs, hdl⟩ := HST.out
      refine ⟨rfl, g', hcs, HKP.out.trans hdl.kept, ?_⟩
      rcases hdl.blk with e | e
      · exact .inl e
      · exact .inr (Nat.le_trans HKP.out.size e)
theorem new_any (w : World) : Calls Tryd.prog 7 #[] w fun e w' => e = .returned (BP (w.heap.size + 1)) ∧ CS (w.heap.size + 1) w.heap.size [] w' ∧ Below w.heap.size w w' := by
  go_enter Tryd.func7, Tryd.ntmps7
  go_wp2_with fail
  go_ret
  have h2 := two_alloc w #[] #[.slice (some ⟨w.heap.size, 0, none⟩) 0 0] 64 49
  refine ⟨rfl, ⟨0, [], ⟨h2.2.1, ⟨rfl, .inr ⟨w.heap.size, 0, #[], rfl, Nat.zero_le _, h2.1, Nat.le_refl _, by unfold maxLen; omega, rfl, rfl⟩⟩, ⟨rfl, fun i a b ha _ => by simp at ha⟩, (fun f hf => by cases hf), by simp, fun i f hi _ => by simp at hi⟩⟩, h2.2.2⟩
end Go.Proofs.YtfobbcddedcepaaDoor
