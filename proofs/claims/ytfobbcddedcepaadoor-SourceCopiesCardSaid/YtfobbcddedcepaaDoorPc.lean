/- The document's Wait. -/
import Derived.Test.YtfobbcddedcepaaDoorPb
namespace Go.Proofs.YtfobbcddedcepaaDoor
open Go.RowKit
set_option maxRecDepth 100000
set_option linter.unusedSimpArgs false
set_option linter.unusedVariables false
theorem okLs_two (ls : List Ln) (n : Nat) (hn : n = ls.length) : okLs ls = (ls.all okLn && decide (n ≤ 20000)) := by unfold okLs; rw [Bool.and_comm, hn]
section
variable {X xb : Nat} {A : Option Addr} {c : Nat} {F : List Fr} {rs : List RF} {w : World}
set_option maxHeartbeats 1000000 in
theorem rWait_any (h : RK X xb A c F rs w) {B : Option Addr} {n cB : Nat} {ls : List Ln} (hl : LsIn w B n cB ls) (htx : ∀ l ∈ ls, l.tx.size ≤ 9223372036854775807) : Calls Tryd.prog 26 #[BP xb, .slice B n cB] w (RpP X xb (waitS F ls) w) := by
  have HNO := Lib.hid (rno_any h)
  have hP : waitS F ls = if okLs ls then pushS F ⟨3, ⟨#[]⟩, ls, [], 0⟩ else (1, F) := rfl
  have hn9 : (n : Int) ≤ 9223372036854775807 := by have := hl.le; have := hl.cap; omega
  have hv := rAreLines_any (c := cB) hl.rd (fun e b hb => hb) hn9 htx
  have H := Lib.hid h
  have HL := Lib.hid hl
  have h2 := okLs_two ls n hl.rd.len
  cases hall : ls.all okLn with
  | false =>
    rw [hall] at hv h2
    rw [h2, Bool.false_and, if_neg (by decide)] at hP
    have HV := Lib.hid hv
    have HP := Lib.hid hP
    clear h hP hl hv h2 hall htx
    go_enter Tryd.func26, Tryd.ntmps26
    go_wp2_with fail
    refine HNO.out.mono ?_
    rintro e w1 ⟨rfl, rfl⟩
    go_wp2_with fail
    refine HV.out.mono ?_
    rintro e w1 ⟨rfl, hb⟩
    have HB := Lib.hid hb
    clear hb
    go_wp2_with fail
    go_ret
    rw [HP.out]
    exact ⟨rfl, ⟨_, _, _, H.out.below HB.out⟩, Kept.of HB.out⟩
  | true =>
    rw [hall, Bool.true_and] at h2
    rw [hall] at hv
    by_cases hn : n ≤ 20000
    · have d0 : decide ((20000 : Int) < (n : Int)) = false := decide_eq_false (by omega)
      rw [decide_eq_true hn] at h2
      rw [h2, if_pos rfl] at hP
      have HV := Lib.hid hv
      have HP := Lib.hid hP
      have HN := Lib.hid hn
      have HALL := Lib.hid hall
      clear h hP hl hv h2 hall htx hn
      go_enter Tryd.func26, Tryd.ntmps26
      go_wp2_with fail
      refine HNO.out.mono ?_
      rintro e w1 ⟨rfl, rfl⟩
      go_wp2_with fail
      refine HV.out.mono ?_
      rintro e w1 ⟨rfl, hb⟩
      have HB := Lib.hid hb
      have hlb := HL.out.below hb
      have hc := rOwnAll_any (c := cB) hlb.rd (fun e b hb => hb) (by have := HN.out; omega) (okLn_bx HALL.out)
      have HC := Lib.hid hc
      clear hb hlb hc
      go_wp2_with fail
      refine HC.out.mono ?_
      rintro e w3 ⟨⟨A2, c2, rfl, hl2, hn2, hle2, hcap2⟩, hb2⟩
      have hB3 := HB.out.trans (hb2.mono HB.out.size)
      have hr : RfIs (Tg w3) w3 ⟨3, ⟨#[]⟩, A2, n, c2, none, 0, 0, 0⟩ ⟨3, ⟨#[]⟩, ls, [], 0⟩ := ⟨rfl, rfl, rfl, hl2.keep fun e b hb' => ⟨rfl, hb'.2⟩, hn2, hle2, hcap2, strs_none _, fun _ => rfl, Nat.le_refl _, show ((0 : Nat) : Int) ≤ 9223372036854775807 by decide, show 0 * 16 ≤ 140737488351232 by decide⟩
      have hok : okFr ⟨3, ⟨#[]⟩, ls, [], 0⟩ := ⟨HALL.out, by show ls.length ≤ 20000; rw [← HL.out.rd.len]; exact HN.out, Nat.zero_le _, .inr (.inr rfl)⟩
      have hpu := rpush_any (H.out.below hB3) hr hok
      have HPU := Lib.hid hpu
      have HB3 := Lib.hid hB3
      clear hl2 hn2 hle2 hcap2 hb2 hB3 hr hok hpu
      go_wp2_with fail
      refine HPU.out.mono ?_
      rintro e w4 ⟨rfl, hst, hk⟩
      have HST := Lib.hid hst
      have HK := Lib.hid hk
      clear hst hk
      go_wp2_with fail
      go_ret
      rw [HP.out]
      exact ⟨rfl, HST.out, (Kept.of HB3.out).trans HK.out⟩
    · have d0 : decide ((20000 : Int) < (n : Int)) = true := decide_eq_true (by omega)
      rw [decide_eq_false hn] at h2
      rw [h2, if_neg (by decide)] at hP
      have HV := Lib.hid hv
      have HP := Lib.hid hP
      clear h hP hl hv h2 hall htx hn
      go_enter Tryd.func26, Tryd.ntmps26
      go_wp2_with fail
      refine HNO.out.mono ?_
      rintro e w1 ⟨rfl, rfl⟩
      go_wp2_with fail
      refine HV.out.mono ?_
      rintro e w1 ⟨rfl, hb⟩
      have HB := Lib.hid hb
      clear hb
      go_wp2_with fail
      go_ret
      rw [HP.out]
      exact ⟨rfl, ⟨_, _, _, H.out.below HB.out⟩, Kept.of HB.out⟩
end
end Go.Proofs.YtfobbcddedcepaaDoor
/- The document's Macro. -/
namespace Go.Proofs.YtfobbcddedcepaaDoor
open Go.RowKit
set_option maxRecDepth 100000
set_option linter.unusedSimpArgs false
set_option linter.unusedVariables false
theorem mac_fr {w3 w4 : World} {nm : ByteArray} {A2 o3 : Option Addr} {n c2 m cap3 : Nat} {ls : List Ln} {ar : List ByteArray} (hl : LnsAt (Tg w3) w3 A2 n ls) (hn2 : A2 = none → n = 0) (hle : n ≤ c2) (hcap : (c2 : Int) ≤ 9223372036854775807)
    (hown : w4.ownsRow w3.heap.size 9 1 (.slice o3 m cap3) m (strCs ar)) (hlen : m = ar.length) (hm : m * 16 ≤ 140737488351232) (hg : (w3.alloc (.cells #[] 9)).grownBy w4 (some w3.heap.size)) :
    RfIs (Tg w4) w4 ⟨2, nm, A2, n, c2, o3, m, cap3, 0⟩ ⟨2, nm, ls, ar, 0⟩ ∧ Below w3.heap.size w3 w4 := by
  have hb4 := ((Below.refl w3.heap.size w3).alloc (Nat.le_refl _) (.cells #[] 9)).grown hg (by simp) (fun g e => by cases e; exact Nat.le_refl _)
  obtain ⟨o, cap, e, h31, h32⟩ := row_shape hown
  injection e with e1 e2 e3
  subst e3
  exact ⟨⟨rfl, rfl, rfl, hl.dt (Dt.below hb4), hn2, hle, hcap, ⟨ReadsP.of_own hown (fun g cs hg _ => ⟨cs, _, hg⟩), hlen⟩, own_none hown, h31, h32, hm⟩, hb4⟩
section
variable {X xb : Nat} {A : Option Addr} {c : Nat} {F : List Fr} {rs : List RF} {w : World}
set_option maxHeartbeats 2000000 in
theorem rMacro_any (h : RK X xb A c F rs w) (nm : ByteArray) {B : Option Addr} {n cB : Nat} {ls : List Ln} (hl : LsIn w B n cB ls) (htx : ∀ l ∈ ls, l.tx.size ≤ 9223372036854775807) {C : Option Addr} {m cC : Nat} {ar : List ByteArray} (hs : SsIn w C m cC ar) :
    Calls Tryd.prog 25 #[BP xb, .string nm, .slice B n cB, .slice C m cC] w (RpP X xb (macS F nm ls ar) w) := by
  obtain ⟨i0, hi0, hz0, hz1, hz2⟩ := info_parts info_str
  have HNO := Lib.hid (rno_any h)
  have HNM := Lib.hid (fun W => rnamed_any nm W)
  have hP : macS F nm ls ar = if okName nm && okLs ls then pushS F ⟨2, nm, ls, ar, 0⟩ else (1, F) := rfl
  have hn9 : (n : Int) ≤ 9223372036854775807 := by have := hl.le; have := hl.cap; omega
  have hv := rAreLines_any (c := cB) hl.rd (fun e b hb => hb) hn9 htx
  have H := Lib.hid h
  have HL := Lib.hid hl
  have HS := Lib.hid hs
  have h2 := okLs_two ls n hl.rd.len
  generalize okName nm = b1 at HNM hP
  cases b1 with
  | false =>
    rw [Bool.false_and, if_neg (by decide)] at hP
    have HP := Lib.hid hP
    clear h hP hl hv h2 htx hs
    go_enter Tryd.func25, Tryd.ntmps25
    go_wp2_with fail
    refine HNO.out.mono ?_
    rintro e w1 ⟨rfl, rfl⟩
    go_wp2_with fail
    refine (HNM.out _).mono ?_
    rintro e w1 ⟨rfl, rfl⟩
    go_wp2_with fail
    go_ret
    rw [HP.out]
    exact ⟨rfl, ⟨_, _, _, H.out⟩, Kept.refl _ _⟩
  | true =>
   rw [Bool.true_and] at hP
   cases hall : ls.all okLn with
   | false =>
    rw [hall] at hv h2
    rw [h2, Bool.false_and, if_neg (by decide)] at hP
    have HV := Lib.hid hv
    have HP := Lib.hid hP
    clear h hP hl hv h2 hall htx hs
    go_enter Tryd.func25, Tryd.ntmps25
    go_wp2_with fail
    refine HNO.out.mono ?_
    rintro e w1 ⟨rfl, rfl⟩
    go_wp2_with fail
    refine (HNM.out _).mono ?_
    rintro e w1 ⟨rfl, rfl⟩
    go_wp2_with fail
    refine HV.out.mono ?_
    rintro e w1 ⟨rfl, hb⟩
    have HB := Lib.hid hb
    clear hb
    go_wp2_with fail
    go_ret
    rw [HP.out]
    exact ⟨rfl, ⟨_, _, _, H.out.below HB.out⟩, Kept.of HB.out⟩
   | true =>
    rw [hall, Bool.true_and] at h2
    rw [hall] at hv
    by_cases hn : n ≤ 20000
    · have d0 : decide ((20000 : Int) < (n : Int)) = false := decide_eq_false (by omega)
      rw [decide_eq_true hn] at h2
      rw [h2, if_pos rfl] at hP
      have HV := Lib.hid hv
      have HP := Lib.hid hP
      have HN := Lib.hid hn
      have HALL := Lib.hid hall
      clear h hP hl hv h2 hall htx hn hs
      go_enter Tryd.func25, Tryd.ntmps25
      go_wp2_with fail
      refine HNO.out.mono ?_
      rintro e w1 ⟨rfl, rfl⟩
      go_wp2_with fail
      refine (HNM.out _).mono ?_
      rintro e w1 ⟨rfl, rfl⟩
      go_wp2_with fail
      refine HV.out.mono ?_
      rintro e w1 ⟨rfl, hb⟩
      have HB := Lib.hid hb
      have hlb := HL.out.below hb
      have hc := rOwnAll_any (c := cB) hlb.rd (fun e b hb => hb) (by have := HN.out; omega) (okLn_bx HALL.out)
      have HC := Lib.hid hc
      clear hb hlb hc
      go_wp2_with fail
      refine HC.out.mono ?_
      rintro e w3 ⟨⟨A2, c2, rfl, hl2, hn2, hle2, hcap2⟩, hb2⟩
      have hB3 := HB.out.trans (hb2.mono HB.out.size)
      have hl3 : LnsAt (Tg w3) w3 A2 n ls := hl2.keep fun e b hb' => ⟨rfl, hb'.2⟩
      have HB3 := Lib.hid hB3
      have HL3 := Lib.hid hl3
      have HN2 := Lib.hid hn2
      have HLE2 := Lib.hid hle2
      have HCAP2 := Lib.hid hcap2
      have HROW0 := Lib.hid (World.ownsRow_made (base := w3.heap.size) (e := 9) (size := 1) w3 #[] 0 (Nat.le_refl _) (by unfold maxLen; omega) rfl)
      have hs3 := HS.out.rd.keep (P' := Lt w3) (w' := w3) (fun e b hb' => ⟨hB3.block b hb', Nat.lt_of_lt_of_le hb' hB3.size⟩)
      have HS3 := Lib.hid hs3
      have hfit := HS.out.fit
      clear hl2 hn2 hle2 hcap2 hb2 hB3 hl3 hs3
      have HOKF : Hid (okFr ⟨2, nm, ls, ar, 0⟩) := Lib.hid ⟨HALL.out, by show ls.length ≤ 20000; rw [← HL.out.rd.len]; exact HN.out, Nat.zero_le _, .inr (.inl rfl)⟩
      cases C with
      | none =>
        obtain rfl : m = 0 := HS.out.nil rfl
        have har : ar = [] := List.eq_nil_of_length_eq_zero (by have := HS.out.rd.len; omega)
        have hb4 := (Below.refl w3.heap.size w3).alloc (Nat.le_refl _) (.cells #[] 9)
        have hB4 := HB3.out.trans (hb4.mono HB3.out.size)
        have hr : RfIs (Tg (w3.alloc (.cells #[] 9))) (w3.alloc (.cells #[] 9)) ⟨2, nm, A2, n, c2, some ⟨w3.heap.size, 0, none⟩, 0, 0, 0⟩ ⟨2, nm, ls, ar, 0⟩ := ⟨rfl, rfl, rfl, HL3.out.dt (Dt.below hb4), HN2.out, HLE2.out, HCAP2.out, by rw [har]; exact ⟨⟨rfl, fun h => absurd h (Nat.lt_irrefl 0)⟩, rfl⟩, (fun _ => rfl), Nat.le_refl _, (show ((0 : Nat) : Int) ≤ 9223372036854775807 by decide), (show 0 * 16 ≤ 140737488351232 by decide)⟩
        have HPU := Lib.hid (rpush_any (H.out.below hB4) hr HOKF.out)
        have HB4 := Lib.hid hB4
        clear har hb4 hB4 hr
        go_wp2_with (at_builtin; refine wpList_append_own_none rfl _ _ 36 rfl w3.heap.size 9 i0 1 Tryd.underlying36 hi0 _ 0 [] rfl HROW0.out rfl ?_)
        refine HPU.out.mono ?_
        rintro e w4 ⟨rfl, hst, hk⟩
        have HST := Lib.hid hst
        have HK := Lib.hid hk
        clear hst hk
        go_wp2_with fail
        go_ret
        rw [HP.out]
        exact ⟨rfl, HST.out, (Kept.of HB4.out).trans HK.out⟩
      | some a =>
        have HLEN := Lib.hid HS.out.rd.len
        have HL0 := Lib.hid HS3.out.rd.1
        have HSRC : Hid (∀ j u, (strCs ar)[j]? = some u → (w3.alloc (.cells #[] 9)).cell? (a.add j) = some u) := by
          refine Lib.hid (fun j u hu => ?_)
          have hjl := (List.getElem?_eq_some_iff.1 hu).1
          have h0 := HS3.out.rd.1
          obtain ⟨b, off, e, _, hc⟩ := HS3.out.rd.2 (by omega)
          injection e with e
          subst e
          rw [cell_add]
          exact (World.cell?_alloc_lt w3 _ ⟨b, off + j, none⟩ (World.block_lt_of_cell? w3 _ (hc j u hu))).trans (hc j u hu)
        have hm47 : m * 16 ≤ 140737488351232 := hfit
        go_wp2_with (at_builtin; refine wpList_append_own _ rfl _ _ 36 rfl w3.heap.size 9 i0 _ 1 16 Tryd.underlying36 hi0 hz0 hz1 hz2 rfl (by decide) _ _ _ rfl HROW0.out a m cC (strCs ar) rfl HL0.out HSRC.out (str_one ar) (by unfold maxLen; omega) (by omega) (by simp) ?_
                     intro v3 w4 hown3 hgrow3 _
                     obtain ⟨o3, cap3, rfl, h31, h32⟩ := row_shape hown3
                     rw [Nat.zero_add, List.nil_append] at hown3
                     rw [Nat.zero_add]
                     have hg3 : (w3.alloc (.cells #[] 9)).grownBy w4 (some w3.heap.size) := hgrow3
                     obtain ⟨hr, hb4⟩ := mac_fr (nm := nm) HL3.out HN2.out HLE2.out HCAP2.out hown3 HLEN.out hm47 hg3
                     have hB4 := HB3.out.trans (hb4.mono HB3.out.size)
                     have HPU := Lib.hid (rpush_any (H.out.below hB4) hr HOKF.out)
                     have HB4 := Lib.hid hB4
                     clear hown3 hgrow3 hg3 hb4 hB4 hr h31 h32)
        refine HPU.out.mono ?_
        rintro e w5 ⟨rfl, hst, hk⟩
        have HST := Lib.hid hst
        have HK := Lib.hid hk
        clear hst hk
        go_wp2_with fail
        go_ret
        rw [HP.out]
        exact ⟨rfl, HST.out, (Kept.of HB4.out).trans HK.out⟩
    · have d0 : decide ((20000 : Int) < (n : Int)) = true := decide_eq_true (by omega)
      rw [decide_eq_false hn] at h2
      rw [h2, if_neg (by decide)] at hP
      have HV := Lib.hid hv
      have HP := Lib.hid hP
      clear h hP hl hv h2 hall htx hn hs
      go_enter Tryd.func25, Tryd.ntmps25
      go_wp2_with fail
      refine HNO.out.mono ?_
      rintro e w1 ⟨rfl, rfl⟩
      go_wp2_with fail
      refine (HNM.out _).mono ?_
      rintro e w1 ⟨rfl, rfl⟩
      go_wp2_with fail
      refine HV.out.mono ?_
      rintro e w1 ⟨rfl, hb⟩
      have HB := Lib.hid hb
      clear hb
      go_wp2_with fail
      go_ret
      rw [HP.out]
      exact ⟨rfl, ⟨_, _, _, H.out.below HB.out⟩, Kept.of HB.out⟩
end
end Go.Proofs.YtfobbcddedcepaaDoor
/- The document's stack: frames taken off, into a new row. -/
namespace Go.Proofs.YtfobbcddedcepaaDoor
open Go.RowKit
set_option maxRecDepth 100000
set_option linter.unusedSimpArgs false
set_option linter.unusedVariables false
section
variable {X xb : Nat} {A : Option Addr} {c : Nat} {F : List Fr} {rs : List RF} {w : World}
/-- Fewer frames, in a new row. -/
theorem RK.cutTo (h : RK X xb A c F rs w) {m : Nat} (hm : m ≤ F.length) {w5 : World} {v5 : Value}
    (hown : w5.ownsRow w.heap.size 61 5 v5 m ((rs.take m).flatMap rfCs)) (hb : Below w.heap.size w w5) : RS X xb (F.take m) (w5.setCell ⟨xb, 1, none⟩ v5) ∧ Kept (fun b => b = xb) w (w5.setCell ⟨xb, 1, none⟩ v5) := by
  have hK : Kept (fun b => b = xb) w (w5.setCell ⟨xb, 1, none⟩ v5) := (Kept.of (S := fun b => b = xb) hb).setCell (p := ⟨xb, 1, none⟩) rfl v5
  have hs := (hb.block xb h.lt).trans h.cell
  have hdt : Dt w (w5.setCell ⟨xb, 1, none⟩ v5) := fun e b he hb' => hK.block b hb'.lt (fun e' => by subst e'; exact (hb'.ne (show Tg w 52 b from ⟨_, _, h.cell⟩) (by rcases he with rfl | rfl | rfl | rfl <;> decide)) rfl)
  obtain ⟨o, cap, rfl, hc1, hc2⟩ := row_shape hown
  have hlt : ∀ g, (Value.slice o m cap).ownBlock = some g → g ≠ xb := fun g hg e => by
    have := (own_tag hown hg).2
    have := h.lt
    omega
  have hlm : (F.take m).length = m := by rw [List.length_take]; omega
  refine ⟨⟨o, cap, rs.take m, ⟨?_, ?_, (h.fr.take m).mono fun _ _ hr => hr.dt hdt, fun x hx => h.ok x (List.mem_of_mem_take hx), by rw [hlm]; have := h.len; omega, fun i x hi hx => ?_, h.bx⟩⟩, hK⟩
  · rw [hlm]; simp [World.setCell, Array.getElem?_modify, hs]
  · rw [hlm]
    exact own_far (own_base hown (by have := h.bx; have := h.lt; omega)) fun b hb => Below.heap_setCell _ _ _ _ (by exact hlt b hb)
  · rw [hlm] at hi
    rw [List.getElem?_take, if_pos (by omega)] at hx
    exact h.inv i x (by omega) hx
end
end Go.Proofs.YtfobbcddedcepaaDoor
/- The document's Return. -/
namespace Go.Proofs.YtfobbcddedcepaaDoor
open Go.RowKit
set_option maxRecDepth 100000
set_option linter.unusedSimpArgs false
set_option linter.unusedVariables false
section
variable {X xb : Nat} {A : Option Addr} {c : Nat} {F : List Fr} {rs : List RF} {w : World}
set_option maxHeartbeats 2000000 in
theorem rReturn_any (h : RK X xb A c F rs w) (all : Bool) : Calls Tryd.prog 29 #[BP xb, .bool all] w (RpP X xb (retS F all) w) := by
  obtain ⟨i0, hi0, hz0, hz1, hz2⟩ := info_parts info_rframe
  have HNO := Lib.hid (rno_any h)
  have ht := rtop_any h 2
  change Calls _ _ _ _ (fun e w' => e = .returned (.int .i64 ((topS isMacro F : Nat) - 1 : Int)) ∧ Below w.heap.size w w') at ht
  have hle := topS_le isMacro F
  have hP : retS F all = if topS isMacro F = 0 then (8, F) else (0, F.take (if all then F.findIdx isMacro else topS isMacro F - 1)) := rfl
  have hat : 0 < topS isMacro F → ∃ f, F[topS isMacro F - 1]? = some f ∧ isMacro f = true := fun hp => topN_at isMacro F F.length hp
  have hlen := h.len
  have H := Lib.hid h
  generalize topS isMacro F = k at ht hle hP hat
  cases k with
  | zero =>
    have HT := Lib.hid ht
    have HP := Lib.hid (hP.trans (if_pos rfl))
    have d0 : decide (((0 : Nat) : Int) - 1 < 0) = true := by decide
    clear ht hP h hat
    go_enter Tryd.func29, Tryd.ntmps29
    go_wp2_with fail
    refine HNO.out.mono ?_
    rintro e w1 ⟨rfl, rfl⟩
    go_wp2_with fail
    refine HT.out.mono ?_
    rintro e w1 ⟨rfl, hb⟩
    have HB := Lib.hid hb
    clear hb
    go_wp2_with fail
    go_ret
    rw [HP.out]
    exact ⟨rfl, ⟨_, _, _, H.out.below HB.out⟩, Kept.of HB.out⟩
  | succ k =>
    rw [show ((k + 1 : Nat) : Int) - 1 = (k : Int) by omega] at ht
    have HT := Lib.hid ht
    have hP2 := hP.trans (if_neg (by omega))
    have hat2 := hat (by omega)
    rw [Nat.add_sub_cancel] at hP2 hat2
    have HAT := Lib.hid hat2
    have d0 : decide ((k : Int) < 0) = false := decide_eq_false (by omega)
    cases all with
    | false =>
      have HPX := Lib.hid (show retS F false = (0, F.take k) from hP2)
      have HM : Hid (k ≤ F.length) := Lib.hid (by omega)
      clear ht hP h hat hP2 hat2
      go_enter Tryd.func29, Tryd.ntmps29
      go_wp2_with fail
      refine HNO.out.mono ?_
      rintro e w1 ⟨rfl, rfl⟩
      go_wp2_with fail
      refine HT.out.mono ?_
      rintro e w1 ⟨rfl, hb⟩
      have HB := Lib.hid hb
      clear hb
      have hrw := H.out.below HB.out
      have hcw := hrw.c0.2
      have ea : ∀ b o v, w1.cell? ⟨b, o, none⟩ = some v → (w1.alloc (.cells #[] 61)).cell? ⟨b, o, none⟩ = some v := fun b o v h => (World.cell?_alloc_lt w1 _ ⟨b, o, none⟩ (World.block_lt_of_cell? w1 _ h)).trans h
      have hc9 := ea _ _ _ hcw
      have HR0 := Lib.hid (World.ownsRow_made (base := w1.heap.size) (e := 61) (size := 5) w1 #[] 0 (Nat.le_refl _) (by unfold maxLen; omega) rfl)
      have hsrc := (rows_short hrw.row (m := k) HM.out).alloc (.cells #[] 61)
      have HSRC := Lib.hid hsrc
      have HRL := Lib.hid hsrc.1
      have hm50 : k ≤ 50 := Nat.le_trans HM.out hlen
      have hmc : ((k : Nat) : Int) ≤ (c : Int) := by
        have h1 := HM.out
        obtain ⟨_, _, hv, h2, _⟩ := row_shape hrw.row
        injection hv with _ _ hv
        omega
      have hm0 : (0 : Int) ≤ ((k : Nat) : Int) := by omega
      clear hrw hcw ea hsrc
      go_wp2_with (first
        | (at_builtin; refine wpList_append_row rfl _ _ 50 rfl w1.heap.size 61 i0 _ 5 80 Tryd.underlying50 hi0 hz0 hz1 hz2 rfl (by decide) _ 0 [] rfl HR0.out X _ k ((rs.take k).flatMap rfCs) rfl HSRC.out HRL.out (rf_all_one _) (by unfold maxLen; omega) (by omega) (by simp) ?_
           intro v5 w5 hown5 hgrow5
           obtain ⟨o5, cap5, rfl, _, _⟩ := row_shape hown5
           rw [Nat.zero_add, List.nil_append] at hown5
           rw [Nat.zero_add]
           have hg5 : (w1.alloc (.cells #[] 61)).grownBy w5 (some w1.heap.size) := hgrow5
           have hb5 : Below w.heap.size w w5 := HB.out.trans ((((Below.refl w1.heap.size w1).alloc (Nat.le_refl _) (.cells #[] 61)).grown hg5 (by simp) (fun g e => by cases e; exact Nat.le_refl _)).mono HB.out.size)
           have HCUT := Lib.hid (H.out.cutTo HM.out (own_base hown5 HB.out.size) hb5)
           have hs5 := (hb5.block xb H.out.lt).trans H.out.cell
           have e1 : w5.cell? ⟨xb, 1, none⟩ = some (.slice A F.length c) := by simp [World.cell?, hs5]
           have e2 : w5.frozen? ⟨xb, 1, none⟩ = false := by simp [World.frozen?, hs5]
           clear hown5 hgrow5 hg5 hb5 hs5))
      go_wp2_with fail
      go_ret
      rw [HPX.out]
      exact ⟨rfl, HCUT.out.1, HCUT.out.2⟩
    | true =>
      have HP := Lib.hid (show retS F true = (0, F.take (F.findIdx isMacro)) from hP2)
      have HKL : Hid (k < F.length) := Lib.hid (by omega)
      clear ht hP h hat hP2 hat2
      go_enter Tryd.func29, Tryd.ntmps29
      go_wp2_with fail
      refine HNO.out.mono ?_
      rintro e w1 ⟨rfl, rfl⟩
      go_wp2_with fail
      refine HT.out.mono ?_
      rintro e w1 ⟨rfl, hb⟩
      have HB := Lib.hid hb
      clear hb
      go_wp2_with fail
      go_loopg [5, 6] (k + 1) (fun q x i wr => ∃ j a : Nat, q = j ∧ j ≤ k + 1 ∧ a ≤ k ∧ x = .int .i64 (a : Int) ∧ i = .int .i64 ((j : Int) - 1) ∧ (∃ f, F[a]? = some f ∧ isMacro f = true) ∧ (∀ (i : Nat) (f : Fr), j ≤ i → i < a → F[i]? = some f → isMacro f = false) ∧ Below w.heap.size w wr)
      case atStart => exact ⟨k + 1, k, rfl, Nat.le_refl _, Nat.le_refl _, rfl, by congr 1; omega, HAT.out, fun i f h1 h2 => by omega, HB.out⟩
      case round =>
        obtain ⟨j, a, rfl, hj, ha, rfl, rfl, hfa, hno, hb⟩ := hrel
        have HBR := Lib.hid hb
        have HFA := Lib.hid hfa
        have HA := Lib.hid ha
        cases gk with
        | zero =>
          have d1 : decide ((0 : Int) ≤ ((0 : Nat) : Int) - 1) = false := by decide
          have hidx : F.findIdx isMacro = a := by
            obtain ⟨f, h1, h2⟩ := hfa
            exact find_at h1 h2 (fun i f hi hf => hno i f (Nat.zero_le _) hi hf)
          have HPX := Lib.hid (show retS F true = (0, F.take a) by rw [HP.out, hidx])
          have HM : Hid (a ≤ F.length) := Lib.hid (by have := HKL.out; omega)
          clear hj ha hfa hno hb hidx
          have hrw := H.out.below HBR.out
          have hcw := hrw.c0.2
          have ea : ∀ b o v, wr.cell? ⟨b, o, none⟩ = some v → (wr.alloc (.cells #[] 61)).cell? ⟨b, o, none⟩ = some v := fun b o v h => (World.cell?_alloc_lt wr _ ⟨b, o, none⟩ (World.block_lt_of_cell? wr _ h)).trans h
          have hc9 := ea _ _ _ hcw
          have HR0 := Lib.hid (World.ownsRow_made (base := wr.heap.size) (e := 61) (size := 5) wr #[] 0 (Nat.le_refl _) (by unfold maxLen; omega) rfl)
          have hsrc := (rows_short hrw.row (m := a) HM.out).alloc (.cells #[] 61)
          have HSRC := Lib.hid hsrc
          have HRL := Lib.hid hsrc.1
          have hm50 : a ≤ 50 := Nat.le_trans HM.out hlen
          have hmc : ((a : Nat) : Int) ≤ (c : Int) := by
            have h1 := HM.out
            obtain ⟨_, _, hv, h2, _⟩ := row_shape hrw.row
            injection hv with _ _ hv
            omega
          have hm0 : (0 : Int) ≤ ((a : Nat) : Int) := by omega
          clear hrw hcw ea hsrc
          go_wp2_with (first
            | (at_builtin; refine wpList_append_row rfl _ _ 50 rfl wr.heap.size 61 i0 _ 5 80 Tryd.underlying50 hi0 hz0 hz1 hz2 rfl (by decide) _ 0 [] rfl HR0.out X _ a ((rs.take a).flatMap rfCs) rfl HSRC.out HRL.out (rf_all_one _) (by unfold maxLen; omega) (by omega) (by simp) ?_
               intro v5 w5 hown5 hgrow5
               obtain ⟨o5, cap5, rfl, _, _⟩ := row_shape hown5
               rw [Nat.zero_add, List.nil_append] at hown5
               rw [Nat.zero_add]
               have hg5 : (wr.alloc (.cells #[] 61)).grownBy w5 (some wr.heap.size) := hgrow5
               have hb5 : Below w.heap.size w w5 := HBR.out.trans ((((Below.refl wr.heap.size wr).alloc (Nat.le_refl _) (.cells #[] 61)).grown hg5 (by simp) (fun g e => by cases e; exact Nat.le_refl _)).mono HBR.out.size)
               have HCUT := Lib.hid (H.out.cutTo HM.out (own_base hown5 HBR.out.size) hb5)
               have hs5 := (hb5.block xb H.out.lt).trans H.out.cell
               have e1 : w5.cell? ⟨xb, 1, none⟩ = some (.slice A F.length c) := by simp [World.cell?, hs5]
               have e2 : w5.frozen? ⟨xb, 1, none⟩ = false := by simp [World.frozen?, hs5]
               clear hown5 hgrow5 hg5 hb5 hs5))
          go_wp2_with fail
          go_ret
          rw [HPX.out]
          exact ⟨rfl, HCUT.out.1, HCUT.out.2⟩
        | succ j =>
          have hjl : j < F.length := by have := HKL.out; omega
          have hrk : rs[j]? = some (rs[j]'(by have := H.out.rl; omega)) := List.getElem?_eq_getElem (by have := H.out.rl; omega)
          obtain ⟨r, hr⟩ : ∃ r, r = rs[j]'(by have := H.out.rl; omega) := ⟨_, rfl⟩
          rw [← hr] at hrk
          have hfk : F[j]? = some F[j] := List.getElem?_eq_getElem hjl
          obtain ⟨y, hy⟩ : ∃ y, y = F[j] := ⟨_, rfl⟩
          rw [← hy] at hfk
          have hrw := H.out.below hb
          have hri := (hrw.fr.2 j r y hrk hfk).kd
          have hcw := hrw.c0.2
          obtain ⟨g, rfl, _, ⟨c0, _, _, _, _⟩, _⟩ := hrw.fc j r hrk
          rw [hri] at c0
          have e1 : ((j + 1 : Nat) : Int) - 1 = (j : Int) := by omega
          rw [e1]
          have hj0 : (0 : Int) ≤ (j : Int) := by omega
          have hj1 : (j : Int) < (F.length : Int) := by omega
          have hj5 : (j : Int) < 50 := by omega
          have HNO2 := Lib.hid hno
          have HFK := Lib.hid hfk
          have HJ := Lib.hid hj
          clear hj ha hfa hno hb hjl hrk hr hfk hy hrw hri e1
          cases hk : (y.kd == (2 : Int)) with
          | true =>
            have HK : Hid (isMacro y = true) := Lib.hid hk
            go_wp2_with fail
            go_roundg j
            case measure => omega
            case rel => exact ⟨j, j, rfl, by have := HJ.out; omega, by have := HJ.out; omega, rfl, by first | go_num | rfl, ⟨y, HFK.out, HK.out⟩, fun i f h1 h2 => by omega, HBR.out⟩
          | false =>
            have HK : Hid (isMacro y = false) := Lib.hid hk
            go_wp2_with fail
            go_roundg j
            case measure => omega
            case rel =>
              refine ⟨j, a, rfl, by have := HJ.out; omega, HA.out, rfl, by first | go_num | rfl, HFA.out, fun i f h1 h2 h3 => ?_, HBR.out⟩
              by_cases e : i = j
              · subst e
                rw [HFK.out] at h3
                rw [← Option.some.inj h3]; exact HK.out
              · exact HNO2.out i f (by omega) h2 h3
end
end Go.Proofs.YtfobbcddedcepaaDoor
/- The document's Instead. -/
namespace Go.Proofs.YtfobbcddedcepaaDoor
open Go.RowKit
set_option maxRecDepth 100000
set_option linter.unusedSimpArgs false
set_option linter.unusedVariables false
theorem topN_all (p : Fr → Bool) (G : List Fr) (h : ∀ (i : Nat) (x : Fr), G[i]? = some x → p x = true) : ∀ k, k ≤ G.length → topN p G k = k
  | 0, _ => rfl
  | k + 1, hk => by
    have hx : G[k]? = some G[k] := List.getElem?_eq_getElem (by omega)
    exact topN_yes p G k _ hx (h k _ hx)
section
variable {X xb : Nat} {A : Option Addr} {c : Nat} {F : List Fr} {rs : List RF} {w : World}
/-- A frame more, in a new row. -/
theorem RK.addAt (h : RK X xb A c F rs w) {m : Nat} (hm : m ≤ F.length) (h50 : m < 50) {r : RF} {f : Fr} (hr : RfIs (Tg w) w r f) (hf : okFr f) (hst : ∀ (i : Nat) (x : Fr), (F.take m)[i]? = some x → stays x = true) {w5 : World} {v5 : Value}
    (hown : w5.ownsRow w.heap.size 61 5 v5 (m + 1) ((rs.take m).flatMap rfCs ++ rfCs r)) (hb : Below w.heap.size w w5) : RS X xb (F.take m ++ [f]) (w5.setCell ⟨xb, 1, none⟩ v5) ∧ Kept (fun b => b = xb) w (w5.setCell ⟨xb, 1, none⟩ v5) := by
  have hK : Kept (fun b => b = xb) w (w5.setCell ⟨xb, 1, none⟩ v5) := (Kept.of (S := fun b => b = xb) hb).setCell (p := ⟨xb, 1, none⟩) rfl v5
  have hs := (hb.block xb h.lt).trans h.cell
  have hdt : Dt w (w5.setCell ⟨xb, 1, none⟩ v5) := fun e b he hb' => hK.block b hb'.lt (fun e' => by subst e'; exact (hb'.ne (show Tg w 52 b from ⟨_, _, h.cell⟩) (by rcases he with rfl | rfl | rfl | rfl <;> decide)) rfl)
  obtain ⟨o, cap, rfl, hc1, hc2⟩ := row_shape hown
  have hlt : ∀ g, (Value.slice o (m + 1) cap).ownBlock = some g → g ≠ xb := fun g hg e => by
    have := (own_tag hown hg).2
    have := h.lt
    omega
  have hlm : (F.take m).length = m := by rw [List.length_take]; omega
  have hlr : (rs.take m).length = m := by rw [List.length_take, h.rl]; omega
  refine ⟨⟨o, cap, rs.take m ++ [r], ⟨?_, ?_, ⟨by simp [h.rl], fun i a b ha hb => ?_⟩, fun x hx => ?_, by simp [hlm]; omega, fun i x hi hx => ?_, h.bx⟩⟩, hK⟩
  · rw [List.length_append, hlm]; simp [World.setCell, Array.getElem?_modify, hs]
  · rw [List.length_append, hlm, List.flatMap_append]
    have e : [r].flatMap rfCs = rfCs r := by simp
    rw [e]
    have hz : w5.ownsRow X 61 5 (.slice o (m + 1) cap) (m + 1) ((rs.take m).flatMap rfCs ++ rfCs r) := own_base hown (by have := h.bx; have := h.lt; omega)
    exact own_far hz fun b hb => Below.heap_setCell _ _ _ _ (by exact hlt b hb)
  · by_cases hi : i < m
    · rw [List.getElem?_append_left (by omega), List.getElem?_take, if_pos hi] at ha
      rw [List.getElem?_append_left (by omega), List.getElem?_take, if_pos hi] at hb
      exact (h.fr.2 i a b ha hb).dt hdt
    · have hl1 := (List.getElem?_eq_some_iff.1 ha).1
      have hi' : i = m := by simp [hlr] at hl1; omega
      subst hi'
      rw [List.getElem?_append_right (by omega), hlr, Nat.sub_self] at ha
      rw [List.getElem?_append_right (by omega), hlm, Nat.sub_self] at hb
      simp only [List.getElem?_cons_zero, Option.some.injEq] at ha hb
      subst ha hb
      exact hr.dt hdt
  · rcases List.mem_append.1 hx with hx | hx
    · exact h.ok x (List.mem_of_mem_take hx)
    · simp only [List.mem_cons, List.not_mem_nil, or_false] at hx
      subst hx; exact hf
  · rw [List.length_append, hlm] at hi
    rw [List.getElem?_append_left (by simp at hi; omega)] at hx
    exact hst i x hx
/-- A file in the place of the frames from a file on. -/
theorem ins_push (h : RK X xb A c F rs w) (k : Nat) (hk : k < F.length) (f : Fr) : pushS (F.take k) f = (0, F.take k ++ [f]) ∧ ∀ (i : Nat) (x : Fr), (F.take k)[i]? = some x → stays x = true := by
  have hst : ∀ (i : Nat) (x : Fr), (F.take k)[i]? = some x → stays x = true := by
    intro i x hx
    rw [List.getElem?_take] at hx
    split at hx
    · exact h.inv i x (by omega) hx
    · cases hx
  have hlk : (F.take k).length = k := by rw [List.length_take]; omega
  have ht : topS stays (F.take k) = k := by
    show topN stays (F.take k) (F.take k).length = k
    rw [hlk, topN_all stays (F.take k) hst k (by omega)]
  refine ⟨?_, hst⟩
  have := h.len
  unfold pushS
  rw [ht, if_neg (by omega), List.take_take, Nat.min_self]
set_option maxHeartbeats 2000000 in
theorem rInstead_any (h : RK X xb A c F rs w) (nm s : ByteArray) (hs : s.size ≤ 1000000) : Calls Tryd.prog 30 #[BP xb, .string nm, .string s] w (RpP X xb (insS F nm s) w) := by
  obtain ⟨i0, hi0, hz0, hz1, hz2⟩ := info_parts info_rframe
  have HRD := Lib.hid (rread_any s hs w)
  have HNO := Lib.hid (fun W (hb : Below w.heap.size w W) => rno_any (h.below hb))
  have HNM := Lib.hid (fun W => rnamed_any nm W)
  have H := Lib.hid h
  have hlen := h.len
  have htp := fun W (hb : Below w.heap.size w W) => rtop_any (h.below hb) 1
  change ∀ W, Below w.heap.size w W → Calls _ _ _ _ (fun e w' => e = .returned (.int .i64 ((topS isFile F : Nat) - 1 : Int)) ∧ Below W.heap.size W w') at htp
  have hle := topS_le isFile F
  obtain ⟨b1, hb1⟩ : ∃ b, b = okName nm := ⟨_, rfl⟩
  obtain ⟨b2, hb2⟩ : ∃ b, b = rdOk (linesS s) := ⟨_, rfl⟩
  have hP : insS F nm s = if (b1 && b2) = true then (if topS isFile F = 0 then (8, F) else pushS (F.take (topS isFile F - 1)) (fileFr nm s)) else (1, F) := by unfold insS okF; rw [hb1, hb2, rd_ok]
  generalize topS isFile F = k at htp hle hP
  have HT := Lib.hid htp
  have HP := Lib.hid hP
  have HOK := Lib.hid (show b2 = true → okFr (fileFr nm s) by
    intro h
    rw [hb2, rd_ok] at h
    unfold okLs at h
    rw [Bool.and_eq_true] at h
    exact ⟨h.2, of_decide_eq_true h.1, Nat.zero_le _, .inl rfl⟩)
  have HRX : Hid (∀ e w', RdP (linesS s) w e w' → ∃ A n c, e = .returned (.tuple #[.slice A n c, .bool b2]) ∧ (b2 = true → RfIs (Tg w') w' ⟨1, nm, A, n, c, none, 0, 0, 0⟩ (fileFr nm s)) ∧ Below w.heap.size w w') := Lib.hid (by
    rintro e w' ⟨⟨A, n, c, he, hx⟩, hb⟩
    rw [← hb2] at he hx
    refine ⟨A, n, c, he, fun h2 => ?_, hb⟩
    obtain ⟨h1, h3, h4, h5, h6⟩ := hx h2
    exact ⟨rfl, rfl, rfl, h3.keep fun e b hb' => ⟨rfl, hb'.2⟩, h4, h5, h6, strs_none _, fun _ => rfl, Nat.le_refl _, (show ((0 : Nat) : Int) ≤ 9223372036854775807 by decide), (show 0 * 16 ≤ 140737488351232 by decide)⟩)
  rw [← hb1] at HNM
  clear hb1 hb2 h hs htp hP
  cases b1 with
  | false =>
    go_enter Tryd.func30, Tryd.ntmps30
    go_wp2_with fail
    refine HRD.out.mono ?_
    intro e w1 hx
    obtain ⟨A1, n1, c1, rfl, hri, hb⟩ := HRX.out e w1 hx
    have HB := Lib.hid hb
    clear hx hb hri
    go_wp2_with fail
    refine (HNO.out _ HB.out).mono ?_
    rintro e w2 ⟨rfl, rfl⟩
    go_wp2_with fail
    refine (HNM.out _).mono ?_
    rintro e w2 ⟨rfl, rfl⟩
    go_wp2_with fail
    go_ret
    rw [HP.out]
    exact ⟨rfl, ⟨_, _, _, H.out.below HB.out⟩, Kept.of HB.out⟩
  | true =>
    cases b2 with
    | false =>
      go_enter Tryd.func30, Tryd.ntmps30
      go_wp2_with fail
      refine HRD.out.mono ?_
      intro e w1 hx
      obtain ⟨A1, n1, c1, rfl, hri, hb⟩ := HRX.out e w1 hx
      have HB := Lib.hid hb
      clear hx hb hri
      go_wp2_with fail
      refine (HNO.out _ HB.out).mono ?_
      rintro e w2 ⟨rfl, rfl⟩
      go_wp2_with fail
      refine (HNM.out _).mono ?_
      rintro e w2 ⟨rfl, rfl⟩
      go_wp2_with fail
      go_ret
      rw [HP.out]
      exact ⟨rfl, ⟨_, _, _, H.out.below HB.out⟩, Kept.of HB.out⟩
    | true =>
      cases k with
      | zero =>
        have d0 : decide (((0 : Nat) : Int) - 1 < 0) = true := by decide
        go_enter Tryd.func30, Tryd.ntmps30
        go_wp2_with fail
        refine HRD.out.mono ?_
        intro e w1 hx
        obtain ⟨A1, n1, c1, rfl, hri, hb⟩ := HRX.out e w1 hx
        have HB := Lib.hid hb
        clear hx hb hri
        go_wp2_with fail
        refine (HNO.out _ HB.out).mono ?_
        rintro e w2 ⟨rfl, rfl⟩
        go_wp2_with fail
        refine (HNM.out _).mono ?_
        rintro e w2 ⟨rfl, rfl⟩
        go_wp2_with fail
        refine (HT.out _ HB.out).mono ?_
        rintro e w2 ⟨rfl, hb⟩
        have HB2 := Lib.hid (HB.out.trans (hb.mono HB.out.size))
        clear hb
        go_wp2_with fail
        go_ret
        rw [HP.out]
        exact ⟨rfl, ⟨_, _, _, H.out.below HB2.out⟩, Kept.of HB2.out⟩
      | succ k =>
        have HT2 : Hid (∀ W, Below w.heap.size w W → Calls Tryd.prog 63 #[BP xb, .int .i64 1] W fun e w' => e = .returned (.int .i64 (k : Int)) ∧ Below W.heap.size W w') := Lib.hid (fun W hW => by
          have h := HT.out W hW
          rw [show ((k + 1 : Nat) : Int) - 1 = (k : Int) by omega] at h
          exact h)
        have d0 : decide ((k : Int) < 0) = false := decide_eq_false (by omega)
        have hip := ins_push H.out k (by omega) (fileFr nm s)
        have HPX := Lib.hid (show insS F nm s = (0, F.take k ++ [fileFr nm s]) by rw [HP.out, Nat.add_sub_cancel]; exact hip.1)
        have HST := Lib.hid hip.2
        have HM : Hid (k ≤ F.length) := Lib.hid (by omega)
        have HK50 : Hid (k < 50) := Lib.hid (by omega)
        clear hip
        go_enter Tryd.func30, Tryd.ntmps30
        go_wp2_with fail
        refine HRD.out.mono ?_
        intro e w1 hx
        obtain ⟨A1, n1, c1, rfl, hri, hb⟩ := HRX.out e w1 hx
        have HB := Lib.hid hb
        have HRI := Lib.hid (hri (by first | rfl | trivial))
        clear hx hb hri
        go_wp2_with fail
        refine (HNO.out _ HB.out).mono ?_
        rintro e w2 ⟨rfl, rfl⟩
        go_wp2_with fail
        refine (HNM.out _).mono ?_
        rintro e w2 ⟨rfl, rfl⟩
        go_wp2_with fail
        refine (HT2.out _ HB.out).mono ?_
        rintro e w2 ⟨rfl, hb⟩
        have HB2 := Lib.hid (HB.out.trans (hb.mono HB.out.size))
        have HRI2 := Lib.hid (HRI.out.dt (Dt.below hb))
        clear hb
        have hrw := H.out.below HB2.out
        have hcw := hrw.c0.2
        have ea : ∀ b o v, w2.cell? ⟨b, o, none⟩ = some v → (w2.alloc (.cells #[] 61)).cell? ⟨b, o, none⟩ = some v := fun b o v h => (World.cell?_alloc_lt w2 _ ⟨b, o, none⟩ (World.block_lt_of_cell? w2 _ h)).trans h
        have hc9 := ea _ _ _ hcw
        have HR0 := Lib.hid (World.ownsRow_made (base := w2.heap.size) (e := 61) (size := 5) w2 #[] 0 (Nat.le_refl _) (by unfold maxLen; omega) rfl)
        have hsrc := (rows_short hrw.row (m := k) HM.out).alloc (.cells #[] 61)
        have HSRC := Lib.hid hsrc
        have HRL := Lib.hid hsrc.1
        have hm50 : k < 50 := HK50.out
        have hmc : ((k : Nat) : Int) ≤ (c : Int) := by
          have h1 := HM.out
          obtain ⟨_, _, hv, h2, _⟩ := row_shape hrw.row
          injection hv with _ _ hv
          omega
        have hm0 : (0 : Int) ≤ ((k : Nat) : Int) := by omega
        clear hrw hcw ea hsrc
        go_wp2_with (first
          | (at_builtin; refine wpList_append_row rfl _ _ 50 rfl w2.heap.size 61 i0 _ 5 80 Tryd.underlying50 hi0 hz0 hz1 hz2 rfl (by decide) _ 0 [] rfl HR0.out X _ k ((rs.take k).flatMap rfCs) rfl HSRC.out HRL.out (rf_all_one _) (by unfold maxLen; omega) (by omega) (by simp) ?_
             intro v5 w5 hown5 hgrow5
             obtain ⟨o5, cap5, rfl, _, _⟩ := row_shape hown5
             rw [Nat.zero_add, List.nil_append] at hown5
             rw [Nat.zero_add]
             have hg5 : (w2.alloc (.cells #[] 61)).grownBy w5 (some w2.heap.size) := hgrow5
             have hbw5 := ((Below.refl w2.heap.size w2).alloc (Nat.le_refl _) (.cells #[] 61)).grown hg5 (by simp) (fun g e => by cases e; exact Nat.le_refl _)
             have HBW5 := Lib.hid hbw5
             have hrow5 := hown5.alloc (rfX ⟨1, nm, A1, n1, c1, none, 0, 0, 0⟩)
             have HROW5 := Lib.hid hrow5
             have HSRC5 := Lib.hid (cell_five_rf w5 ⟨1, nm, A1, n1, c1, none, 0, 0, 0⟩)
             clear hown5 hgrow5 hg5 hbw5 hrow5)
          | (at_builtin; refine wpList_append_own _ rfl _ _ 50 rfl w2.heap.size 61 i0 _ 5 80 Tryd.underlying50 hi0 hz0 hz1 hz2 rfl (by decide) _ k ((rs.take k).flatMap rfCs) rfl HROW5.out ⟨w5.heap.size, 0, none⟩ 1 1 (rfCs ⟨1, nm, A1, n1, c1, none, 0, 0, 0⟩) rfl rfl HSRC5.out (rf_one _) (by unfold maxLen; omega) (by omega) (by have := HBW5.out.size; simp; omega) ?_
             intro v6 w6 hown6 hgrow6 _
             obtain ⟨o6, cap6, rfl, _, _⟩ := row_shape hown6
             have hg6 : (w5.alloc (rfX ⟨1, nm, A1, n1, c1, none, 0, 0, 0⟩)).grownBy w6 (Value.slice o5 k cap5).ownBlock := hgrow6
             have hb6 : Below w2.heap.size w2 w6 := ((HBW5.out.alloc HBW5.out.size (rfX ⟨1, nm, A1, n1, c1, none, 0, 0, 0⟩)).grown hg6 (by have := HBW5.out.size; simp; omega) (fun k hk => (own_tag HROW5.out hk).2))
             have HADD := Lib.hid ((H.out.below HB2.out).addAt HM.out HK50.out HRI2.out (HOK.out (by first | rfl | trivial)) HST.out hown6 hb6)
             have hs6 := (hb6.block xb (H.out.below HB2.out).lt).trans (H.out.below HB2.out).cell
             have e1 : w6.cell? ⟨xb, 1, none⟩ = some (.slice A F.length c) := by simp [World.cell?, hs6]
             have e2 : w6.frozen? ⟨xb, 1, none⟩ = false := by simp [World.frozen?, hs6]
             clear hown6 hgrow6 hg6 hb6 hs6))
        go_wp2_with fail
        go_ret
        rw [HPX.out]
        exact ⟨rfl, HADD.out.1, (Kept.of HB2.out).trans HADD.out.2⟩
end
end Go.Proofs.YtfobbcddedcepaaDoor
/- The document's stack: a frame set anew in its place; what a deed leaves. -/
namespace Go.Proofs.YtfobbcddedcepaaDoor
open Go.RowKit
set_option maxRecDepth 100000
set_option linter.unusedSimpArgs false
set_option linter.unusedVariables false
/-- What a deed on the document's stack never writes: data, and the code's stacks. -/
def Dr (w w' : World) : Prop := ∀ e b, (e = 3 ∨ e = 85 ∨ e = 31 ∨ e = 9 ∨ e = 49 ∨ e = 64) → Tg w e b → w'.heap[b]? = w.heap[b]?
theorem Dr.dt {w w' : World} (h : Dr w w') : Dt w w' := fun e b he hb => h e b (by rcases he with e | e | e | e <;> simp [e]) hb
theorem Dr.below {w w' : World} (k : Below w.heap.size w w') : Dr w w' := fun _ b _ hb => k.block b hb.lt
theorem Dr.trans {w w1 w2 : World} (h : Dr w w1) (k : Dr w1 w2) : Dr w w2 := fun e b he hb => (k e b he (hb.keep (h e b he hb))).trans (h e b he hb)
section
variable {X xb : Nat} {A : Option Addr} {c : Nat} {F : List Fr} {rs : List RF} {w : World}
theorem RK.tg (h : RK X xb A c F rs w) : Tg w 52 xb := ⟨_, _, h.cell⟩
theorem RK.tgr (h : RK X xb A c F rs w) {g : Nat} (hA : A = some ⟨g, 0, none⟩) : Tg w 61 g ∧ X ≤ g := own_tag h.row (by subst hA; rfl)
theorem Dr.st {w' : World} (h : RK X xb A c F rs w) (k : Kept (fun b => b = xb ∨ A = some ⟨b, 0, none⟩) w w') : Dr w w' := by
  intro e b he hb
  refine k.block b hb.lt fun hs => ?_
  rcases hs with rfl | hs
  · exact hb.ne h.tg (by rcases he with rfl | rfl | rfl | rfl | rfl | rfl <;> decide) rfl
  · exact hb.ne (h.tgr hs).1 (by rcases he with rfl | rfl | rfl | rfl | rfl | rfl <;> decide) rfl
theorem RK.to {w' : World} (h : RK X xb A c F rs w) (k : Kept (fun b => b = xb ∨ A = some ⟨b, 0, none⟩) w w') : Below X w w' :=
  k.to (by have := h.bx; have := h.lt; omega) (fun b hs => by
    rcases hs with rfl | hs
    · exact h.bx
    · exact (h.tgr hs).2)
/-- What a deed of the document's stack leaves, if frames may be set in their places. -/
structure RnP (X xb : Nat) (R : Int × List Fr) (w : World) (e : Ending) (w' : World) : Prop where
  e : e = .returned (.int .i64 R.1)
  st : RS X xb R.2 w'
  bl : Below X w w'
  dr : Dr w w'
theorem RpP.rn {R : Int × List Fr} {e : Ending} {w' : World} (p : RpP X xb R w e w') (h : RK X xb A c F rs w) : RnP X xb R w e w' :=
  have k := p.2.2.mono (T := fun b => b = xb ∨ A = some ⟨b, 0, none⟩) fun _ hb => .inl hb
  ⟨p.1, p.2.1, h.to k, Dr.st h k⟩
theorem RnP.to2 {R : Int × List Fr} {w1 : World} {e : Ending} {w' : World} (p : RnP X xb R w1 e w') (hb : Below w.heap.size w w1) (hX : X ≤ w.heap.size) : RnP X xb R w e w' :=
  ⟨p.e, p.st, (hb.mono hX).trans p.bl, (Dr.below hb).trans p.dr⟩
/-- A frame set anew, a cell of it. -/
theorem RK.setF {j k g : Nat} {w' : World} {r r' : RF} {f f' : Fr} {u : Value} (h : RK X xb A c F rs w) (hA : A = some ⟨g, 0, none⟩) (hr : rs[j]? = some r) (hf : F[j]? = some f) (hk : k < 5) (hu : rfCs r' = (rfCs r).set k u) (he : w' = w.setCell ⟨g, j * 5 + k, none⟩ u)
    (hi : RfIs (Tg w) w r' f') (hok : okFr f') (hst : j + 1 < F.length → stays f' = true) :
    RK X xb A c (F.set j f') (rs.set j r') w' ∧ Kept (fun b => b = xb ∨ A = some ⟨b, 0, none⟩) w w' := by
  subst he hA
  have hK : Kept (fun b => b = xb ∨ (some ⟨g, 0, none⟩ : Option Addr) = some ⟨b, 0, none⟩) w (w.setCell ⟨g, j * 5 + k, none⟩ u) := (Kept.refl _ w).setCell (p := ⟨g, j * 5 + k, none⟩) (.inr rfl) _
  have hdt := (Dr.st h hK).dt
  have hjl := (List.getElem?_eq_some_iff.1 hf).1
  have hne : xb ≠ g := h.tg.ne (h.tgr rfl).1 (by decide)
  have hrow := own_set h.row (j * 5 + k) (by omega) u
  rw [← fm_set rf_len rs j k r r' u hr hk hu] at hrow
  refine ⟨⟨?_, ?_, ⟨by simp [h.rl], fun i a b ha hb => ?_⟩, fun x hx => ?_, by rw [List.length_set]; exact h.len, fun i x hi' hx => ?_, h.bx⟩, hK⟩
  · rw [List.length_set]; exact (Below.heap_setCell _ _ _ _ hne).trans h.cell
  · rw [List.length_set]; exact hrow
  · rw [List.getElem?_set] at ha hb
    by_cases e : j = i
    · subst e
      rw [if_pos rfl, if_pos (by rw [h.rl]; exact hjl)] at ha
      rw [if_pos rfl, if_pos hjl] at hb
      rw [← Option.some.inj ha, ← Option.some.inj hb]
      exact hi.dt hdt
    · rw [if_neg e] at ha hb
      exact (h.fr.2 i a b ha hb).dt hdt
  · rcases List.mem_or_eq_of_mem_set hx with hx | hx
    · exact h.ok x hx
    · rw [hx]; exact hok
  · rw [List.length_set] at hi'
    rw [List.getElem?_set] at hx
    by_cases e : j = i
    · subst e
      rw [if_pos rfl, if_pos hjl] at hx
      rw [← Option.some.inj hx]
      exact hst hi'
    · rw [if_neg e] at hx
      exact h.inv i x hi' hx
end
end Go.Proofs.YtfobbcddedcepaaDoor
