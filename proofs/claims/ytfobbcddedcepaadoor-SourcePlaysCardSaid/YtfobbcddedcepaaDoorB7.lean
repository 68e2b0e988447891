/- push: the walk. -/
import Derived.Test.YtfobbcddedcepaaDoorB6
import Derived.Deep.RegionLaw
namespace Go.Proofs.YtfobbcddedcepaaDoor
open Go.RowKit
set_option maxRecDepth 100000
set_option linter.unusedSimpArgs false
set_option linter.unusedVariables false
set_option maxHeartbeats 1000000 in
theorem push_any {sb g c : Nat} {F : List Fr} {rs : List RF} {w : World} (h : CK sb g c F rs w) {r : RF} {f : Fr} (hr : RfIs (Tg w) w r f) (hf : okFr f) :
    Calls Tryd.prog 45 #[BP sb, rfA r] w (DoP sb g (pushS F f) w) := by
  have hb0 := (Below.refl w.heap.size w).alloc (Nat.le_refl _) (.cells #[.int .i64 r.kd, .string r.nm, .slice r.lo r.ln r.lc, .slice r.ao r.an r.ac, .int .i64 r.tk] 64)
  have h0 := h.below hb0
  have ht := top_stays h0
  unfold TopP at ht
  rw [h0.top q_stays] at ht
  have hle := topS_le stays F
  have hlen := h.len
  have hat := fun (hp : 0 < topS stays F) => topN_at stays F F.length hp
  have hP : pushS F f = if topS stays F = 50 then (2, F) else (0, F.take (topS stays F) ++ [f]) := rfl
  have hat' : 0 < topS stays F → ∃ x, F[topS stays F - 1]? = some x ∧ stays x = true := hat
  clear hat
  generalize topS stays F = k at ht hP hle hat'
  have HT := Lib.hid ht
  have HP := Lib.hid hP
  have HAT := Lib.hid hat'
  have HB0 := Lib.hid hb0
  have H := Lib.hid h
  have HR := Lib.hid hr
  have HF := Lib.hid hf
  have hi1 : ((k : Int) - 1) + 1 = (k : Int) := by omega
  have hx := fresh_fr (heap_alloc_new w (.cells #[.int .i64 r.kd, .string r.nm, .slice r.lo r.ln r.lc, .slice r.ao r.an r.ac, .int .i64 r.tk] 64))
  obtain ⟨⟨x0, x1, x2, x3, x4⟩, _⟩ := hx
  have HX0 := Lib.hid (heap_alloc_new w (.cells #[.int .i64 r.kd, .string r.nm, .slice r.lo r.ln r.lc, .slice r.ao r.an r.ac, .int .i64 r.tk] 64))
  clear ht hP hat' hb0 h0 h hr hf x0 x1 x2 x3 x4
  by_cases hk : k = 50
  · have HK := Lib.hid hk
    have d1 : ((k : Int) == 50) = true := by rw [hk]; rfl
    clear hk
    go_enter Tryd.func45, Tryd.ntmps45
    go_wp2_with fail
    refine HT.out.mono ?_
    rintro e w1 ⟨rfl, hb1⟩
    have HB1 := Lib.hid (HB0.out.trans (hb1.mono (by simp)))
    clear hb1
    go_wp2_with fail
    go_ret
    have hB := HB1.out.alloc HB1.out.size (.cells #[.int .i64 (gotR rs k).kd, .string (gotR rs k).nm, .slice (gotR rs k).lo (gotR rs k).ln (gotR rs k).lc, .slice (gotR rs k).ao (gotR rs k).an (gotR rs k).ac, .int .i64 (gotR rs k).tk] 64)
    rw [HP.out, if_pos HK.out]
    exact ⟨rfl, g, ⟨c, rs, H.out.below hB⟩, Kept.of hB, .inl rfl⟩
  · have HK := Lib.hid hk
    have d1 : ((k : Int) == 50) = false := by simp; omega
    clear hk
    go_enter Tryd.func45, Tryd.ntmps45
    go_wp2_with fail
    refine HT.out.mono ?_
    rintro e w1 ⟨rfl, hb1⟩
    have HB1 := Lib.hid (HB0.out.trans (hb1.mono (by simp)))
    have HX1 := Lib.hid ((hb1.block w.heap.size (by simp)).trans HX0.out)
    clear hb1
    have hB := HB1.out.alloc HB1.out.size (.cells #[.int .i64 (gotR rs k).kd, .string (gotR rs k).nm, .slice (gotR rs k).lo (gotR rs k).ln (gotR rs k).lc, .slice (gotR rs k).ao (gotR rs k).an (gotR rs k).ac, .int .i64 (gotR rs k).tk] 64)
    have hC := cut_any (H.out.below hB) k hle
    have HC := Lib.hid hC
    have HB := Lib.hid hB
    have HX2 := Lib.hid ((Below.heap_alloc w1 (.cells #[.int .i64 (gotR rs k).kd, .string (gotR rs k).nm, .slice (gotR rs k).lo (gotR rs k).ln (gotR rs k).lc, .slice (gotR rs k).ao (gotR rs k).an (gotR rs k).ac, .int .i64 (gotR rs k).tk] 64) w.heap.size (lt_of_block HX1.out)).trans HX1.out)
    clear hB hC
    go_wp2_with fail
    refine HC.out.mono ?_
    rintro e w3 ⟨rfl, hck, hkp⟩
    have hlt := H.out.lt
    have hx3 := (hkp.block w.heap.size (lt_of_block HX2.out) (fun e => by rcases e with e | e <;> omega)).trans HX2.out
    obtain ⟨⟨x0, x1, x2, x3, x4⟩, _⟩ := fresh_fr hx3
    have c0 := hck.c0.1
    have c1 := hck.c0.2
    have hlk : (F.take k).length = k := by rw [List.length_take]; omega
    rw [hlk] at c0
    have hrow := hck.row
    rw [hlk] at hrow
    have ho1 := hrow.alloc (.cells #[.int .i64 r.kd, .string r.nm, .slice r.lo r.ln r.lc, .slice r.ao r.an r.ac, .int .i64 r.tk] 64)
    have HO1 : Hid ((w3.alloc (.cells #[.int .i64 r.kd, .string r.nm, .slice r.lo r.ln r.lc, .slice r.ao r.an r.ac, .int .i64 r.tk] 64)).drew.ownsRow 0 64 5 (.slice (some ⟨g, 0, none⟩) k c) k ((rs.take k).flatMap rfCs)) := Lib.hid ⟨ho1.1, ho1.2⟩
    have HSRC : Hid (∀ j u, (rfCs r)[j]? = some u → (w3.alloc (.cells #[.int .i64 r.kd, .string r.nm, .slice r.lo r.ln r.lc, .slice r.ao r.an r.ac, .int .i64 r.tk] 64)).drew.cell? ((⟨w3.heap.size, 0, none⟩ : Addr).add j) = some u) := Lib.hid (cell_five_fr w3 r)
    obtain ⟨i0, hi0, hz0, hz1, hz2⟩ := info_parts info_frame
    have HCK := Lib.hid hck
    have HKP := Lib.hid hkp
    have HLT := Lib.hid hck.lt
    have hsb := hck.lt.1
    have hr3 := HR.out.dt ((Dt.below HB.out).trans (Dt.st (H.out.below HB.out) hkp))
    have HR3 := Lib.hid hr3
    have HST : Hid (∀ (i : Nat) (x : Fr), (F.take k)[i]? = some x → stays x = true) := Lib.hid fun i x hx => by
      rw [List.getElem?_take] at hx
      split at hx
      · rename_i hi
        by_cases hik : i = k - 1
        · obtain ⟨y, hy1, hy2⟩ := HAT.out (by omega)
          rw [hik, hy1] at hx
          rw [← Option.some.inj hx]; exact hy2
        · exact H.out.inv i x (by omega) hx
      · cases hx
    have HLK := Lib.hid hlk
    have hk50 : k < 50 := by have := HK.out; omega
    clear hck hkp hlt hx3 hrow ho1 hr3 hlk
    go_wp2_with fail
    go_region_law (first
      | (refine step_append_own rfl (.tmp 24) (.tmp 26) 47 rfl 0 64 i0 _ 5 80 Tryd.underlying47 hi0 hz0 hz1 hz2 rfl (by decide) (.slice (some ⟨g, 0, none⟩) k c) k ((rs.take k).flatMap rfCs) (by simp [Act.eval, Act.put]) HO1.out ⟨w3.heap.size, 0, none⟩ 1 1 (rfCs r) (by simp [Act.eval, Act.put]) rfl HSRC.out (rf_one r) (by unfold maxLen; omega) (by omega) (Nat.zero_le _) ?_
         intro v2 w2 hown2 hgrow2 hat2
         obtain ⟨o2, cap2, rfl, _, _⟩ := row_shape hown2
         have hg2 : (w3.alloc (.cells #[.int .i64 r.kd, .string r.nm, .slice r.lo r.ln r.lc, .slice r.ao r.an r.ac, .int .i64 r.tk] 64)).grownBy w2 (some g) := ⟨hgrow2.os, hgrow2.tape, hgrow2.output, hgrow2.size, hgrow2.block⟩
         have hb3 := (Below.refl w3.heap.size w3).alloc (Nat.le_refl _) (.cells #[.int .i64 r.kd, .string r.nm, .slice r.lo r.ln r.lc, .slice r.ao r.an r.ac, .int .i64 r.tk] 64)
         have HADD := Lib.hid (HCK.out.addS (f := f) hb3 HR3.out HF.out HST.out (by rw [HLK.out]; exact hk50) (by rw [HLK.out]; exact hown2) hg2 hat2)
         have hs2 := (hg2.block sb (by have := HLT.out.1; simp; omega) (fun e => HCK.out.ne (Option.some.inj e))).trans ((hb3.block sb HLT.out.1).trans HCK.out.cell)
         have e1 : w2.cell? ⟨sb, 0, none⟩ = some (.slice (some ⟨g, 0, none⟩) (F.take k).length c) := by simp [World.cell?, hs2]
         have e2 : w2.frozen? ⟨sb, 0, none⟩ = false := by simp [World.frozen?, hs2]
         clear hown2 hgrow2 hat2 hg2 hb3 hs2))
    all_goals
      go_wp2_with fail
      go_ret
      obtain ⟨g', hcs, hdl⟩ := HADD.out
      rw [HP.out, if_neg HK.out]
      refine ⟨rfl, g', hcs, ((Kept.of HB.out).trans HKP.out).trans hdl.kept, ?_⟩
      rcases hdl.blk with e | e
      · exact .inl e
      · exact .inr (Nat.le_trans (Nat.le_trans HB.out.size HKP.out.size) e)
end Go.Proofs.YtfobbcddedcepaaDoor
