/- Contract of the specification: reading roman numbers, the walk. -/
import Derived.Test.YtgfjgcebgfaciaaDoorV4
namespace Go.Proofs.YtgfjgcebgfaciaaDoor
open Go.RowKit Go.Shelf
set_option maxRecDepth 100000
def LoR (s : ByteArray) (w : World) (k : Nat) (i : Value) (wr : World) : Prop :=
  ∃ j, k + j = s.size ∧ i = .int .i64 j ∧ RowB w.heap.size (mapK loB j s.data.toList) wr ∧ Below w.heap.size w wr
/-- At the head of the second loop: L the small text, w0 the world behind the first. -/
def RsR (L : List UInt8) (w : World) (b k : Nat) (n i v : Value) (wr : World) : Prop :=
  ∃ (j : Nat) (m : Int), k + j = L.length ∧ n = .int .i64 m ∧ i = .int .i64 j ∧ rs L = m + rs (L.drop j) ∧ (∀ x, (h : x < L.length) → x < j → digS L[x] ≠ 0) ∧ -(1000 * (j : Int)) ≤ m ∧ m ≤ 1000 * (j : Int) ∧ RowB b L wr ∧ Below w.heap.size w wr ∧ b < wr.heap.size
def rroRes (s : ByteArray) : Ending := .returned (.tuple #[.int .i64 (romanS s.data.toList).1, .int .i64 (romanS s.data.toList).2])
theorem rs_drop (L : List UInt8) (j : Nat) (h : j + 1 < L.length) : rs (L.drop j) = (if digS L[j] < digS L[j + 1] then -(digS L[j] : Int) else digS L[j]) + rs (L.drop (j + 1)) := by
  rw [List.drop_eq_getElem_cons (show j < L.length by omega), List.drop_eq_getElem_cons h, rs]
theorem rs_last (L : List UInt8) (j : Nat) (h : j < L.length) (h2 : ¬ j + 1 < L.length) : rs (L.drop j) = digS L[j] + rs (L.drop (j + 1)) := by
  rw [List.drop_eq_getElem_cons h, List.drop_eq_nil_of_le (by omega)]; simp [rs]
set_option maxHeartbeats 4000000 in
theorem rRoman_any (s : ByteArray) (hs : s.size ≤ 200) (w : World) : Calls Tryd.prog 10 #[.string s] w fun e w' => e = rroRes s ∧ Below w.heap.size w w' := by
  obtain ⟨cap, W1, hconv, hrow, hb1, hz1⟩ := bytes_conv s w
  have hsl : s.data.toList.length = s.size := by simp
  have HST : Hid (LoR s w s.size (.int .i64 0) W1) := Lib.hid ⟨0, rfl, rfl, by rw [mapK_zero]; exact hrow, hb1⟩
  have HSL := Lib.hid hsl
  have HREF := Lib.hid (romanS_ref s.data.toList)
  have HRES : Hid (∀ a b, romanS s.data.toList = (a, b) → Ending.returned (.tuple #[.int .i64 a, .int .i64 b]) = rroRes s) := Lib.hid fun a b h => by unfold rroRes; rw [h]
  clear hrow hb1 hz1 hsl
  go_enter Tryd.func10, Tryd.ntmps10
  go_wp2_with fail
  go_loopg [5] s.size (fun k i wr => LoR s w k i wr)
  case atStart => exact HST.out
  case round =>
    obtain ⟨j, hk, rfl, hrow, hb⟩ := hrel
    have HK := Lib.hid hk
    have HB := Lib.hid hb
    have HROW := Lib.hid hrow
    by_cases hj : j < s.size
    · have dj : decide (j < s.size) = true := decide_eq_true hj
      have hjl : j < s.data.toList.length := by rw [HSL.out]; exact hj
      have hjm : j < (mapK loB j s.data.toList).length := by rw [mapK_len]; exact hjl
      have hc := hrow.cell j hjm
      have hf := hrow.fz j hjm
      rw [mapK_at _ _ _ hjl] at hc
      have HSUC := Lib.hid (mapK_succ loB j s.data.toList hjl)
      have HSAM := Lib.hid (mapK_same loB j s.data.toList hjl)
      have HJM := Lib.hid hjm
      obtain ⟨c, hcc⟩ : ∃ c, c = s.data.toList[j] := ⟨_, rfl⟩
      rw [← hcc] at hc HSUC HSAM
      clear hcc hk hb hrow hconv hjm hjl
      by_cases h1 : 65 ≤ c.toNat
      · have d1 : decide ((65 : Int) ≤ (c.toNat : Int)) = true := decide_eq_true (by omega)
        by_cases h2 : c.toNat ≤ 90
        · have d2 : decide ((c.toNat : Int) ≤ 90) = true := decide_eq_true (by omega)
          have HX : Hid ((c.toNat : Int) + 32 = ((loB c).toNat : Int)) := Lib.hid (by
            unfold loB; rw [if_pos ⟨h1, h2⟩, UInt8.toNat_add]; simp; omega)
          go_wp2_with fail
          go_roundg (gk - 1)
          case measure => have := HK.out; omega
          case rel =>
            have := HK.out
            refine ⟨j + 1, by omega, by go_num, ?_, HB.out.setCell (by simp) _⟩
            rw [HSUC.out]
            exact HROW.out.set j HJM.out _ _ HX.out
        · have d2 : decide ((c.toNat : Int) ≤ 90) = false := decide_eq_false (by omega)
          have HX := Lib.hid (HSAM.out (by unfold loB; rw [if_neg (by omega)]))
          clear h1 h2
          go_wp2_with fail
          go_roundg (gk - 1)
          case measure => have := HK.out; omega
          case rel =>
            have := HK.out
            refine ⟨j + 1, by omega, by go_num, ?_, HB.out⟩
            rw [HX.out]
            exact HROW.out
      · have d1 : decide ((65 : Int) ≤ (c.toNat : Int)) = false := decide_eq_false (by omega)
        have HX := Lib.hid (HSAM.out (by unfold loB; rw [if_neg (by omega)]))
        clear h1
        go_wp2_with fail
        go_roundg (gk - 1)
        case measure => have := HK.out; omega
        case rel =>
          have := HK.out
          refine ⟨j + 1, by omega, by go_num, ?_, HB.out⟩
          rw [HX.out]
          exact HROW.out
    · have dj : decide (j < s.size) = false := decide_eq_false hj
      have hjs : j = s.size := by have := HK.out; omega
      have hfin : mapK loB j s.data.toList = s.data.toList.map loB := mapK_all _ _ _ (by rw [HSL.out]; omega)
      obtain ⟨L, hL⟩ : ∃ L, L = s.data.toList.map loB := ⟨_, rfl⟩
      rw [hfin, ← hL] at hrow
      have hLs : L.length = s.size := by rw [hL, List.length_map, HSL.out]
      have hback := conv_back wr w.heap.size s.size cap L hLs hrow
      rw [← hL] at HREF
      have HL := Lib.hid hL
      have HLS := Lib.hid hLs
      have HRW := Lib.hid hrow
      have hblt := hrow.lt
      obtain ⟨lb, hlb⟩ : ∃ lb : ByteArray, lb = ⟨L.toArray⟩ := ⟨_, rfl⟩
      rw [← hlb] at hback
      have HLB := Lib.hid hlb
      have hup := Lib.hid (fun W => great_l L (by rw [hLs]; omega) W)
      rw [← hlb] at hup
      clear hk hb hrow hconv hfin hjs HROW hL hLs hlb
      by_cases hemp : s.data.toList = []
      · have HE := Lib.hid (HRES.out _ _ (HREF.out.1 hemp))
        have e1 : s.toList = [] := by rw [Lib.toList_data]; exact hemp
        clear hemp
        go_wp2_with fail
        go_ret2
        exact ⟨HE.out, HB.out⟩
      have e1 : ¬ s.toList = [] := by rw [Lib.toList_data]; exact hemp
      have e2 : s.toList.isEmpty = false := by simpa using e1
      obtain ⟨gb, hgb⟩ : ∃ gb : ByteArray, gb = ⟨(L.map upB).toArray⟩ := ⟨_, rfl⟩
      rw [← hgb] at hup
      have HGB := Lib.hid hgb
      clear hemp hgb
      have hcases : (s.toList == lb.toList) = true ∨ ((s.toList == lb.toList) = false ∧ (s.toList == gb.toList) = true) ∨ ((s.toList == lb.toList) = false ∧ (s.toList == gb.toList) = false) := by
        cases (s.toList == lb.toList) <;> cases (s.toList == gb.toList) <;> simp
      have HTL := Lib.hid (Lib.toList_data s)
      have HTLB := Lib.hid (show lb.toList = L by rw [Lib.toList_data, HLB.out])
      have HTGB := Lib.hid (show gb.toList = L.map upB by rw [Lib.toList_data, HGB.out])
      rcases hcases with hq | ⟨hq, hq2⟩ | ⟨hq, hq2⟩
      rotate_left 2
      · have HE := Lib.hid (HRES.out _ _ (HREF.out.2.1 (by intro h; rw [← HTLB.out, ← HTL.out] at h; rw [h] at hq; simp at hq) (by intro h; rw [← HTGB.out, ← HTL.out] at h; rw [h] at hq2; simp at hq2)))
        go_wp2_with fail
        refine (hup.out _).mono ?_
        rintro e w2 ⟨rfl, hb⟩
        have HB2 := Lib.hid (HB.out.trans (hb.mono HB.out.size))
        clear hb
        go_wp2_with fail
        go_ret2
        exact ⟨HE.out, HB2.out⟩
      have HH : Hid (s.data.toList = L ∨ s.data.toList = L.map upB) := Lib.hid (.inl (by rw [← HTL.out, ← HTLB.out]; simpa using hq))
      obtain ⟨w2, rfl⟩ : ∃ w2 : World, w2 = wr := ⟨_, rfl⟩
      have HB2 := Lib.hid HB.out
      have HRW2 := Lib.hid HRW.out
      go_wp2_with fail
      rotate_left 1
      have HH : Hid (s.data.toList = L ∨ s.data.toList = L.map upB) := Lib.hid (.inr (by rw [← HTL.out, ← HTGB.out]; simpa using hq2))
      go_wp2_with fail
      refine (hup.out _).mono ?_
      rintro e w2 ⟨rfl, hb⟩
      have HB2 := Lib.hid (HB.out.trans (hb.mono HB.out.size))
      have HRW2 := Lib.hid (HRW.out.below hb hblt)
      clear hb
      go_wp2_with fail
      all_goals
        have HS2 : Hid (RsR L w w.heap.size s.size (.int .i64 0) (.int .i64 0) (.int .i64 0) w2) := Lib.hid ⟨0, 0, HLS.out.symm, rfl, rfl, by simp, fun x _ hx => absurd hx (by omega), by simp, by simp, HRW2.out, HB2.out, HRW2.out.lt⟩
        go_loopg [6, 7, 8] s.size (fun k n i v wr => RsR L w w.heap.size k n i v wr)
        case atStart =>
          obtain ⟨j0, m0, h1, h2, h3, h4⟩ := HS2.out
          exact ⟨j0, m0, h1, h2, h3, h4⟩
        case round =>
          obtain ⟨j, m, hk, rfl, rfl, hrs, hnz, hm1, hm2, hrw, hb, hbl⟩ := hrel
          have HK := Lib.hid hk
          have HRS := Lib.hid hrs
          have HNZ := Lib.hid hnz
          have HRW3 := Lib.hid hrw
          have HB3 := Lib.hid hb
          have hls := HLS.out
          by_cases hj : j < s.size
          · have dj : decide (j < s.size) = true := decide_eq_true hj
            have hjL : j < L.length := by omega
            have hc := hrw.cell j hjL
            obtain ⟨c, hcc⟩ : ∃ c, c = L[j] := ⟨_, rfl⟩
            rw [← hcc] at hc
            have HCC := Lib.hid hcc
            have HCM : Hid (c ∈ L) := Lib.hid (by rw [hcc]; exact List.getElem_mem _)
            have hcl := digS_le c
            clear hk hrs hnz hrw hb hcc hls
            go_wp2_with fail
            refine (rdigit_any c _).mono ?_
            rintro e w3 ⟨rfl, hb⟩
            have HB4 := Lib.hid (HB3.out.trans (hb.mono HB3.out.size))
            have HRW4 := Lib.hid (HRW3.out.below hb hbl)
            have hbl4 := HRW4.out.lt
            clear hb hc
            by_cases hz : digS c = 0
            · have HE := Lib.hid (HRES.out _ _ (HREF.out.2.2.1 ⟨c, HCM.out, hz⟩))
              have dz : ((digS c : Int) == 0) = true := by simp [hz]
              clear hz
              go_wp2_with fail
              go_ret2
              exact ⟨HE.out, HB4.out⟩
            · have dz : ((digS c : Int) == 0) = false := by simp; omega
              have HZ := Lib.hid hz
              clear hz
              by_cases hj2 : j + 1 < s.size
              · have dj2 : decide (j + 1 < s.size) = true := decide_eq_true hj2
                have hjL2 : j + 1 < L.length := by rw [HLS.out]; exact hj2
                have hc2 := HRW4.out.cell (j + 1) hjL2
                have HRD := Lib.hid (rs_drop L j hjL2)
                obtain ⟨d, hdd⟩ : ∃ d, d = L[j + 1] := ⟨_, rfl⟩
                rw [← hdd, ← HCC.out] at HRD
                rw [← hdd] at hc2
                have hdl := digS_le d
                clear hdd
                go_wp2_with fail
                refine (rdigit_any d _).mono ?_
                rintro e w4 ⟨rfl, hb⟩
                have HB5 := Lib.hid (HB4.out.trans (hb.mono HB4.out.size))
                have HRW5 := Lib.hid (HRW4.out.below hb hbl4)
                clear hb hc2
                by_cases hlt : digS c < digS d
                · have dlt : decide (digS c < digS d) = true := decide_eq_true hlt
                  rw [if_pos hlt] at HRD
                  clear hlt
                  go_wp2_with fail
                  go_roundg (gk - 1)
                  case measure => have := HK.out; omega
                  case rel =>
                    have hk := HK.out
                    refine ⟨j + 1, m - digS c, by omega, by go_num, by go_num, ?_, ?_, by omega, by omega, HRW5.out, HB5.out, HRW5.out.lt⟩
                    · rw [HRS.out, HRD.out]; omega
                    · intro x hx hxj
                      by_cases e : x = j
                      · subst e; rw [← HCC.out]; exact HZ.out
                      · exact HNZ.out x hx (by omega)
                · have dlt : decide (digS c < digS d) = false := decide_eq_false hlt
                  rw [if_neg hlt] at HRD
                  clear hlt
                  go_wp2_with fail
                  go_roundg (gk - 1)
                  case measure => have := HK.out; omega
                  case rel =>
                    have hk := HK.out
                    refine ⟨j + 1, m + digS c, by omega, by go_num, by go_num, ?_, ?_, by omega, by omega, HRW5.out, HB5.out, HRW5.out.lt⟩
                    · rw [HRS.out, HRD.out]; omega
                    · intro x hx hxj
                      by_cases e : x = j
                      · subst e; rw [← HCC.out]; exact HZ.out
                      · exact HNZ.out x hx (by omega)
              · have dj2 : decide (j + 1 < s.size) = false := decide_eq_false hj2
                have HRD := Lib.hid (rs_last L j hjL (by rw [HLS.out]; exact hj2))
                rw [← HCC.out] at HRD
                go_wp2_with fail
                go_roundg (gk - 1)
                case measure => have := HK.out; omega
                case rel =>
                  have hk := HK.out
                  refine ⟨j + 1, m + digS c, by omega, by go_num, by go_num, ?_, ?_, by omega, by omega, HRW4.out, HB4.out, HRW4.out.lt⟩
                  · rw [HRS.out, HRD.out]; omega
                  · intro x hx hxj
                    by_cases e : x = j
                    · subst e; rw [← HCC.out]; exact HZ.out
                    · exact HNZ.out x hx (by omega)
          · have dj : decide (j < s.size) = false := decide_eq_false hj
            have HM := Lib.hid (show rs L = m by rw [hrs, List.drop_eq_nil_of_le (by omega)]; simp [rs])
            clear hk hrs hnz hrw hb hls
            by_cases hm3 : m < 1
            · have d3 : decide (m < 1) = true := decide_eq_true hm3
              have HE := Lib.hid (HRES.out _ _ (HREF.out.2.2.2.1 (.inl (by rw [HM.out]; exact hm3))))
              clear hm3
              go_wp2_with fail
              go_quiet (fail)
              go_wp2_with fail
              go_ret2
              exact ⟨HE.out, below_drewN HB3.out _⟩
            · have d3 : decide (m < 1) = false := decide_eq_false hm3
              by_cases hm4 : 39999 < m
              · have d4 : decide (39999 < m) = true := decide_eq_true hm4
                have HE := Lib.hid (HRES.out _ _ (HREF.out.2.2.2.1 (.inr (.inl (by rw [HM.out]; exact hm4)))))
                clear hm3 hm4
                go_wp2_with fail
                go_quiet (fail)
                go_wp2_with fail
                go_ret2
                exact ⟨HE.out, below_drewN HB3.out _⟩
              · have d4 : decide (39999 < m) = false := decide_eq_false hm4
                obtain ⟨N, hN⟩ : ∃ N : Nat, m = N := ⟨m.toNat, by omega⟩
                subst hN
                have HN := Lib.hid (show N ≤ 39999 by omega)
                obtain ⟨rb, hrb⟩ : ∃ rb : ByteArray, rb = ⟨(rom N).toArray⟩ := ⟨_, rfl⟩
                have HRO := Lib.hid (fun W => rroman_any N HN.out W)
                rw [← hrb] at HRO
                have hrt : rb.toList = rom N := by rw [Lib.toList_data, hrb]
                have hbk := conv_back wr.drew w.heap.size s.size cap L HLS.out (by exact HRW3.out)
                rw [← HLB.out] at hbk
                have HFIN : Hid (((rb.toList == lb.toList) = true ∧ Ending.returned (.tuple #[.int .i64 (N : Int), .int .i64 0]) = rroRes s) ∨ ((rb.toList == lb.toList) = false ∧ Ending.returned (.tuple #[.int .i64 0, .int .i64 4]) = rroRes s)) := Lib.hid (by
                  have hM := HM.out
                  have hT := HTLB.out
                  by_cases hq : rom N = L
                  · refine .inl ⟨by rw [hrt, hT, hq]; simp, HRES.out _ _ ?_⟩
                    have := HREF.out.2.2.2.2 HH.out (by omega) (by omega) (by rw [hM]; simpa using hq)
                    rw [hM] at this; exact this
                  · refine .inr ⟨by rw [hrt, hT]; simpa using hq, HRES.out _ _ (HREF.out.2.2.2.1 (.inr (.inr (by rw [hM]; simpa using hq))))⟩)
                clear hm3 hm4 hrb hrt
                rcases HFIN.out with ⟨hcmp, hfin⟩ | ⟨hcmp, hfin⟩
                all_goals
                  have HE := Lib.hid hfin
                  clear hfin HFIN
                  go_wp2_with fail
                  refine wp_region_any (by kernel_rfl) ?_
                  try (change wpAny _ _ _ _ _ _ _ (World.drew _))
                  refine wpAny_take (i := 0) (v := ?_) rfl (by kernel_rfl) (by kernel_rfl) (by kernel_rfl) (fun _ _ _ h => h) (Or.inl ⟨by kernel_rfl, ?_⟩) ?_
                  rotate_left 1
                  · intro w; go_simp; try with_reducible rfl
                  refine wpAny_take (i := 1) (v := ?_) rfl (by kernel_rfl) (by kernel_rfl) (by kernel_rfl) (fun _ _ _ h => h) (Or.inl ⟨by kernel_rfl, ?_⟩) ?_
                  rotate_left 1
                  · intro w; go_simp; try with_reducible rfl
                  refine wpAny_take (i := 2) (v := ?_) rfl (by kernel_rfl) (by kernel_rfl) (by kernel_rfl) (fun _ _ _ h => h) (Or.inl ⟨by kernel_rfl, ?_⟩) ?_
                  rotate_left 1
                  · intro w; go_simp; try with_reducible rfl
                  refine wpAny_take (i := 3) (v := ?_) rfl (by kernel_rfl) (by kernel_rfl) (by kernel_rfl) (fun _ _ _ h => h) (Or.inl ⟨by kernel_rfl, ?_⟩) ?_
                  rotate_left 1
                  · intro w; go_simp; try with_reducible rfl
                  refine wpAny_take (i := 4) (v := ?_) rfl (by kernel_rfl) (by kernel_rfl) (by kernel_rfl) (fun _ _ _ h => h) (Or.inl ⟨by kernel_rfl, ?_⟩) ?_
                  rotate_left 1
                  · intro w; go_simp; try with_reducible rfl
                  refine wpAny_take (i := 5) (v := ?_) rfl (by kernel_rfl) (by kernel_rfl) (by kernel_rfl) (fun _ _ _ h => h) (Or.inl ⟨by kernel_rfl, ?_⟩) ?_
                  rotate_left 1
                  · intro w; go_simp; try with_reducible rfl
                  refine wpAny_take (i := 6) (v := ?_) rfl (by kernel_rfl) (by kernel_rfl) (by kernel_rfl) (fun _ _ _ h => h) (Or.inl ⟨by kernel_rfl, ?_⟩) ?_
                  rotate_left 1
                  · intro w; go_simp; try with_reducible rfl
                  refine wpAny_take (i := 7) (v := ?_) rfl (by kernel_rfl) (by kernel_rfl) (by kernel_rfl) (fun _ _ _ h => h) (Or.inl ⟨by kernel_rfl, ?_⟩) ?_
                  rotate_left 1
                  · intro w; go_simp; try with_reducible rfl
                  refine wpAny_take (i := 9) (v := ?_) rfl (by kernel_rfl) (by kernel_rfl) (by kernel_rfl) (fun _ _ _ h => h) (Or.inl ⟨by kernel_rfl, ?_⟩) ?_
                  rotate_left 1
                  · intro w; go_simp; try with_reducible rfl
                  refine wpAny_ready (rs := [8, 10]) (by kernel_rfl) (by simp) ?_
                  refine AllReady.cons rfl (fun K hK => ?_) ?_
                  · go_simp
                    go_wp2_with ((go_at_call 17; refine (HRO.out _).mono ?_; rintro e w5 ⟨rfl, hb⟩))
                    have HB6 := Lib.hid (show Below w.heap.size w w5 from HB3.out.trans ((show Below wr.heap.size wr w5 from ⟨hb.os, hb.tape, hb.output, hb.size, hb.block⟩).mono HB3.out.size))
                    have hbk2 := conv_back w5 w.heap.size s.size cap L HLS.out (HRW3.out.below (show Below wr.heap.size wr w5 from ⟨hb.os, hb.tape, hb.output, hb.size, hb.block⟩) hbl)
                    rw [← HLB.out] at hbk2
                    clear hb
                    refine wpAny_ready (rs := [10]) (by kernel_rfl) (by simp) ?_
                    refine AllReady.cons rfl (fun K hK => ?_) ?_
                    · go_simp
                      refine hK _ _ ?_
                      clear hK K
                      refine wpAny_take (i := 11) (v := ?_) rfl (by kernel_rfl) (by kernel_rfl) (by kernel_rfl) (fun _ _ _ h => h) (Or.inl ⟨by kernel_rfl, ?_⟩) ?_
                      rotate_left 1
                      · intro w; go_simp; try with_reducible rfl
                      refine wpAny_take (i := 12) (v := ?_) rfl (by kernel_rfl) (by kernel_rfl) (by kernel_rfl) (fun _ _ _ h => h) (Or.inl ⟨by kernel_rfl, ?_⟩) ?_
                      rotate_left 1
                      · intro w; go_simp; try with_reducible rfl
                      refine wpAny_done (by kernel_rfl) ?_ _
                      go_wp2_with fail
                      go_ret2
                      exact ⟨HE.out, HB6.out⟩
                    · exact AllReady.nil
                  · refine AllReady.cons rfl (fun K hK => ?_) ?_
                    · go_simp
                      refine hK _ _ ?_
                      clear hK K
                      refine wpAny_ready (rs := [8]) (by kernel_rfl) (by simp) ?_
                      refine AllReady.cons rfl (fun K hK => ?_) ?_
                      · go_simp
                        go_wp2_with ((go_at_call 17; refine (HRO.out _).mono ?_; rintro e w5 ⟨rfl, hb⟩))
                        have HB6 := Lib.hid (show Below w.heap.size w w5 from HB3.out.trans ((show Below wr.heap.size wr w5 from ⟨hb.os, hb.tape, hb.output, hb.size, hb.block⟩).mono HB3.out.size))
                        have hbk2 := conv_back w5 w.heap.size s.size cap L HLS.out (HRW3.out.below (show Below wr.heap.size wr w5 from ⟨hb.os, hb.tape, hb.output, hb.size, hb.block⟩) hbl)
                        rw [← HLB.out] at hbk2
                        clear hb
                        refine wpAny_take (i := 11) (v := ?_) rfl (by kernel_rfl) (by kernel_rfl) (by kernel_rfl) (fun _ _ _ h => h) (Or.inl ⟨by kernel_rfl, ?_⟩) ?_
                        rotate_left 1
                        · intro w; go_simp; try with_reducible rfl
                        refine wpAny_take (i := 12) (v := ?_) rfl (by kernel_rfl) (by kernel_rfl) (by kernel_rfl) (fun _ _ _ h => h) (Or.inl ⟨by kernel_rfl, ?_⟩) ?_
                        rotate_left 1
                        · intro w; go_simp; try with_reducible rfl
                        refine wpAny_done (by kernel_rfl) ?_ _
                        go_wp2_with fail
                        go_ret2
                        exact ⟨HE.out, HB6.out⟩
                      · exact AllReady.nil
                    · exact AllReady.nil
end Go.Proofs.YtgfjgcebgfaciaaDoor
