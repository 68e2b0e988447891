/- Contracts of the specification: a number. -/
import Derived.Test.YteihpeffaeahlaaDoorR2
namespace Go.Proofs.YteihpeffaeahlaaDoor
open Go.RowKit
set_option maxRecDepth 100000
/-- How the specification's number ends. -/
def RnP (r : RS) (p : Nat) (w : World) (e : Ending) (w' : World) : Prop :=
  Below w.heap.size w w' ∧ match numS r.l r.sc r.sz r.vs p with
    | none => e = .returned (.tuple #[.int .i64 0, .int .i64 0, .int .i64 4])
    | some (v, z) => if ok9 v then e = .returned (.tuple #[.int .i64 v, .int .i64 z, .int .i64 0]) else e = .returned (.tuple #[.int .i64 0, .int .i64 z, .int .i64 5])
/-- The digits' loops: i digits from p on have been read. -/
def RdI (r : RS) (p : Nat) (w : World) (k : Nat) (a v : Value) (wr : World) : Prop :=
  ∃ i q : Nat, k + i = 9 ∧ q = p + i ∧ (∀ j, j < i → dg r.l (p + j) = true) ∧ a = .int .i64 q ∧ v = .int .i64 (dval r.l p i) ∧ q ≤ r.l.length ∧ wr = w
/-- Behind the fraction. -/
def RfC (r : RS) (q c : Nat) (w : World) (a part power count : Value) (wx : World) : Prop :=
  a = .int .i64 (fracE r.l q) ∧ part = .int .i64 (fracV r.l q) ∧ power = .int .i64 ((10 ^ fracN r.l q : Nat) : Int) ∧ count = .int .i64 ((c + fracN r.l q : Nat) : Int) ∧ wx = w
def BoE (w : World) (t : Bool) (s : Value) (wx : World) : Prop := s = .bool t ∧ wx = w
/-- The second loop: i digits from p on, and the power of ten. -/
def RgI (r : RS) (p : Nat) (w : World) (k : Nat) (a v po : Value) (wr : World) : Prop :=
  ∃ i q : Nat, k + i = 9 ∧ q = p + i ∧ (∀ j, j < i → dg r.l (p + j) = true) ∧ a = .int .i64 q ∧ v = .int .i64 (dval r.l p i) ∧ po = .int .i64 ((10 ^ i : Nat) : Int) ∧ q ≤ r.l.length ∧ wr = w
set_option maxHeartbeats 4000000 in
theorem rnumber_any (r : RS) (p : Nat) (hr : Rok r) (hp : p ≤ r.l.length) (w : World) :
    Calls Tryd.prog 40 #[.string r.s, .int .i64 p, .int .u8 r.sc.toNat, CX r.sz r.vs r.hr] w (RnP r p w) := by
  have hlen : r.l.length = r.s.size := Rok.len
  have hls := hr.hl
  have HC := Lib.hid hr.hc
  have HU := Lib.hid hr.hu
  clear hr
  go_enter Tryd.func40, Tryd.ntmps40
  go_wp2_with fail
  go_loopg [1, 11] 9 (fun k a v wr => RdI r p (w.alloc (CXp r.sz r.vs r.hr)) k a v wr)
  case atStart => exact ⟨0, p, rfl, rfl, fun j hj => absurd hj (by omega), rfl, rfl, hp, rfl⟩
  case round =>
    obtain ⟨i, q, hk, hq, hd, rfl, rfl, hql, rfl⟩ := hrel
    have HK := Lib.hid hk
    have HQ := Lib.hid hq
    have HD := Lib.hid hd
    have hpq : p ≤ q := by omega
    have hi9 : q - p ≤ 9 := by omega
    clear hk hd
    by_cases hmore : i < 9 ∧ dg r.l (p + i) = true
    · obtain ⟨hi, hdg⟩ := hmore
      rw [← hq] at hdg
      have hlt : q < r.s.size := by have := dg_lt hdg; omega
      have hdl : decide ((q : Int) < (r.s.size : Int)) = true := by simp; omega
      have hsub : decide ((q : Int) - (p : Int) < 9) = true := by simp; omega
      have hb := byte_at r.s q hlt
      rw [show r.s.data.toList = r.l from rfl] at hb
      have hdg' : isDg r.s[q] = true := by unfold dg at hdg; rw [hb] at hdg; exact hdg
      have hlo : 48 ≤ (r.s[q]).toNat ∧ (r.s[q]).toNat ≤ 57 := by simpa [isDg] using hdg'
      have hv := dval_lt r.l p i HD.out
      have hv2 : dval r.l p i < 1000000000 := Nat.lt_of_lt_of_le hv (Nat.pow_le_pow_right (by omega) (by omega : i ≤ 9))
      have HB := Lib.hid hb
      have HG := Lib.hid hdg'
      have HDG := Lib.hid hdg
      clear hq hb hdg hdg' hv
      go_wp2_with (go_at_call 57; refine (rdigit_is _ true HG.out _).mono ?_; rintro e w' ⟨rfl, rfl⟩)
      go_roundg (8 - i)
      case measure => have := HK.out; omega
      case rel =>
        have hk := HK.out
        have hq := HQ.out
        have hv3 : dgv r.l (p + i) = (r.s[q]).toNat - 48 := by unfold dgv; rw [← hq, HB.out]; rfl
        refine ⟨i + 1, q + 1, by omega, by omega, ?_, by go_num, ?_, by omega, rfl⟩
        · intro j hj
          by_cases e : j = i
          · subst e; rw [← hq]; exact HDG.out
          · exact HD.out j (by omega)
        · rw [dval, hv3]; congr 1; omega
    · have hc : cnt r.l 9 p = i := cnt_eq _ _ _ _ (by have := HK.out; omega) HD.out (by
        by_cases h9 : i = 9
        · exact .inl h9
        · right
          have : i < 9 := by have := HK.out; omega
          cases h : dg r.l (p + i) with
          | false => rfl
          | true => exact absurd ⟨this, h⟩ hmore)
      have HCN := Lib.hid hc
      have HM := Lib.hid hmore
      have hi9' : i ≤ 9 := by omega
      have hqp : (q : Int) - (p : Int) = (i : Int) := by omega
      clear hc hmore hq
      have h3 : (∃ h : q < r.s.size, isDg r.s[q] = true) ∨ (∃ h : q < r.s.size, isDg r.s[q] = false) ∨ ¬ q < r.s.size := by
        by_cases h : q < r.s.size
        · cases h2 : isDg r.s[q] with
          | true => exact .inl ⟨h, h2⟩
          | false => exact .inr (.inl ⟨h, h2⟩)
        · exact .inr (.inr h)
      rcases h3 with h3 | h3 | hlt
      case' inl =>
        obtain ⟨hlt, hdg⟩ := h3
        have hdl : decide ((q : Int) < (r.s.size : Int)) = true := by simp; omega
        have hb := byte_at r.s q hlt
        have hi : i = 9 := by
          have h1 := HM.out
          rw [← HQ.out] at h1
          unfold dg at h1
          rw [show r.l[q]? = some r.s[q] from hb] at h1
          have h2 : ¬ i < 9 := fun h => h1 ⟨h, hdg⟩
          omega
        have hdi : decide ((i : Int) < 9) = false := by simp; omega
        have HG := Lib.hid hdg
        clear hb hdg hi
        go_upto_region 7 with (go_at_call 57; refine (rdigit_is _ true HG.out _).mono ?_; rintro e w' ⟨rfl, rfl⟩)
        clear HG hdl hdi
      case' inr.inl =>
        obtain ⟨hlt, hdg⟩ := h3
        have hdl : decide ((q : Int) < (r.s.size : Int)) = true := by simp; omega
        have HG := Lib.hid hdg
        clear hdg
        go_upto_region 7 with (go_at_call 57; refine (rdigit_is _ false HG.out _).mono ?_; rintro e w' ⟨rfl, rfl⟩)
        clear HG hdl
      case' inr.inr =>
        have hdl : decide ((q : Int) < (r.s.size : Int)) = false := by simp; omega
        go_upto_region 7 with (fail)
        clear hdl hlt
      all_goals
        go_cut [66] (fun s66 wx => BoE (w.alloc (CXp r.sz r.vs r.hr)) (pt r.l q) s66 wx)
        case first =>
          by_cases a1 : q + 1 < r.s.size
          · have d1 : decide ((q : Int) + 1 < (r.s.size : Int)) = true := by simp; omega
            have a1i : (q : Int) + 1 < (r.s.size : Int) := by omega
            have a0 : q < r.s.size := by omega
            have hn1 : ((q : Int) + 1).toNat = q + 1 := by omega
            by_cases a2 : r.s[q] = 46
            · have d2 : ((r.s[q].toNat : Int) == 46) = true := by rw [a2]; rfl
              cases a3 : isDg r.s[q + 1] with
              | true =>
                have e : pt r.l q = true := by unfold pt dg RS.l; rw [byte_at _ _ a0, byte_at _ _ a1]; simp [a2, a3]
                have HG := Lib.hid a3
                have HE := Lib.hid e
                clear a2 a3 e
                go_wp2_with (go_at_call 57; refine (rdigit_is _ true HG.out _).mono ?_; rintro e w' ⟨rfl, rfl⟩)
                go_meet
                exact ⟨by rw [HE.out], rfl⟩
              | false =>
                have e : pt r.l q = false := by unfold pt dg RS.l; rw [byte_at _ _ a0, byte_at _ _ a1]; simp [a2, a3]
                have HG := Lib.hid a3
                have HE := Lib.hid e
                clear a2 a3 e
                go_wp2_with (go_at_call 57; refine (rdigit_is _ false HG.out _).mono ?_; rintro e w' ⟨rfl, rfl⟩)
                go_meet
                exact ⟨by rw [HE.out], rfl⟩
            · have d2 : ((r.s[q].toNat : Int) == 46) = false := ne_b a2
              have e : pt r.l q = false := by unfold pt RS.l; rw [byte_at _ _ a0]; simp [a2]
              have HE := Lib.hid e
              clear a2 e
              go_wp2_with fail
              go_meet
              exact ⟨by rw [HE.out], rfl⟩
          · have d1 : decide ((q : Int) + 1 < (r.s.size : Int)) = false := by simp; omega
            have e : pt r.l q = false := by unfold pt dg RS.l; rw [byte_none _ (q + 1) (by omega)]; simp
            have HE := Lib.hid e
            clear e
            go_wp2_with fail
            go_meet
            exact ⟨by rw [HE.out], rfl⟩
        case rest =>
          obtain ⟨rfl, rfl⟩ := hcut
          go_upto_if 66 with (fail)
          go_cut [1, 12, 13, 15] (fun a part power count wx => RfC r q i (w.alloc (CXp r.sz r.vs r.hr)) a part power count wx)
          case first =>
            cases hpt : pt r.l q with
            | false =>
              have HP := Lib.hid hpt
              clear hpt
              go_wp2_with fail
              go_meet
              refine ⟨?_, ?_, ?_, ?_, rfl⟩
              · unfold fracE; rw [HP.out]; rfl
              · unfold fracV; rw [HP.out]; rfl
              · unfold fracN; rw [HP.out]; rfl
              · unfold fracN; rw [HP.out]; rfl
            | true =>
              have hq1 : q + 1 ≤ r.l.length := by
                have : dg r.l (q + 1) = true := by unfold pt at hpt; simp at hpt; exact hpt.2
                have := dg_lt this; omega
              have HP := Lib.hid hpt
              clear hpt
              obtain ⟨f, hf⟩ : ∃ f, f = q + 1 := ⟨_, rfl⟩
              have hfi : (q : Int) + 1 = (f : Int) := by omega
              have HF := Lib.hid hf
              have hfl : f ≤ r.l.length := by omega
              have hfs : (f : Int) ≤ 9223372036854775806 := by omega
              clear hf
              go_wp2_with fail
              go_loopg [1, 12, 13] 9 (fun k a v po wr => RgI r f (w.alloc (CXp r.sz r.vs r.hr)) k a v po wr)
              case atStart => exact ⟨0, f, rfl, rfl, fun j hj => absurd hj (by omega), rfl, rfl, rfl, hfl, rfl⟩
              case round =>
                obtain ⟨j, g, hk2, hg, hd2, rfl, rfl, rfl, hgl, rfl⟩ := hrel
                have HK2 := Lib.hid hk2
                have HG2 := Lib.hid hg
                have HD2 := Lib.hid hd2
                have hj9 : j ≤ 9 := by omega
                have hgf : (g : Int) - (f : Int) = (j : Int) := by omega
                have hgs : (g : Int) ≤ 9223372036854775806 := by omega
                have hp9 : 10 ^ j ≤ 10 ^ 9 := Nat.pow_le_pow_right (by omega) hj9
                have hp9' : ((10 ^ j : Nat) : Int) ≤ 1000000000 := by omega
                have hp0 : 0 ≤ ((10 ^ j : Nat) : Int) := Int.natCast_nonneg _
                have hpow : ((10 ^ (j + 1) : Nat) : Int) = ((10 ^ j : Nat) : Int) * 10 := by rw [Nat.pow_succ]; simp
                have HPW := Lib.hid hpow
                clear hk2 hd2 hp9 hpow
                generalize hten : ((10 ^ j : Nat) : Int) = ten at *
                have HTEN := Lib.hid hten
                clear hten
                by_cases hmore : j < 9 ∧ dg r.l (f + j) = true
                · obtain ⟨hj, hdg⟩ := hmore
                  rw [← hg] at hdg
                  have hlt : g < r.s.size := by have := dg_lt hdg; omega
                  have hdl : decide ((g : Int) < (r.s.size : Int)) = true := by simp; omega
                  have hdi : decide ((j : Int) < 9) = true := by simp; omega
                  have hb := byte_at r.s g hlt
                  rw [show r.s.data.toList = r.l from rfl] at hb
                  have hdg' : isDg r.s[g] = true := by unfold dg at hdg; rw [hb] at hdg; exact hdg
                  have hlo : 48 ≤ (r.s[g]).toNat ∧ (r.s[g]).toNat ≤ 57 := by simpa [isDg] using hdg'
                  have hv := dval_lt r.l f j HD2.out
                  have hv2 : dval r.l f j < 1000000000 := Nat.lt_of_lt_of_le hv (Nat.pow_le_pow_right (by omega) (by omega : j ≤ 9))
                  have HB := Lib.hid hb
                  have HG := Lib.hid hdg'
                  have HDG := Lib.hid hdg
                  clear hg hb hdg hdg' hv
                  go_wp2_with (go_at_call 57; refine (rdigit_is _ true HG.out _).mono ?_; rintro e w' ⟨rfl, rfl⟩)
                  go_roundg (8 - j)
                  case measure => have := HK2.out; omega
                  case rel =>
                    have hk := HK2.out
                    have hg := HG2.out
                    have hv3 : dgv r.l (f + j) = (r.s[g]).toNat - 48 := by unfold dgv; rw [← hg, HB.out]; rfl
                    refine ⟨j + 1, g + 1, by omega, by omega, ?_, by go_num, ?_, by rw [HPW.out], by omega, rfl⟩
                    · intro m hm
                      by_cases e : m = j
                      · subst e; rw [← hg]; exact HDG.out
                      · exact HD2.out m (by omega)
                    · rw [dval, hv3]; congr 1; omega
                · have hc : cnt r.l 9 f = j := cnt_eq _ _ _ _ hj9 HD2.out (by
                    by_cases h9 : j = 9
                    · exact .inl h9
                    · right
                      cases h : dg r.l (f + j) with
                      | false => rfl
                      | true => exact absurd ⟨by omega, h⟩ hmore)
                  have HCN2 := Lib.hid hc
                  have HM2 := Lib.hid hmore
                  clear hc hmore hg
                  have h3 : (∃ h : g < r.s.size, isDg r.s[g] = true) ∨ (∃ h : g < r.s.size, isDg r.s[g] = false) ∨ ¬ g < r.s.size := by
                    by_cases h : g < r.s.size
                    · cases h2 : isDg r.s[g] with
                      | true => exact .inl ⟨h, h2⟩
                      | false => exact .inr (.inl ⟨h, h2⟩)
                    · exact .inr (.inr h)
                  rcases h3 with h3 | h3 | hlt
                  case' inl =>
                    obtain ⟨hlt, hdg⟩ := h3
                    have hdl : decide ((g : Int) < (r.s.size : Int)) = true := by simp; omega
                    have hb := byte_at r.s g hlt
                    have hj : j = 9 := by
                      have h1 := HM2.out
                      rw [← HG2.out] at h1
                      unfold dg at h1
                      rw [show r.l[g]? = some r.s[g] from hb] at h1
                      have h2 : ¬ j < 9 := fun h => h1 ⟨h, hdg⟩
                      omega
                    have hdi : decide ((j : Int) < 9) = false := by simp; omega
                    have HG := Lib.hid hdg
                    clear hb hdg hj
                    go_wp2_with (go_at_call 57; refine (rdigit_is _ true HG.out _).mono ?_; rintro e w' ⟨rfl, rfl⟩)
                  case' inr.inl =>
                    obtain ⟨hlt, hdg⟩ := h3
                    have hdl : decide ((g : Int) < (r.s.size : Int)) = true := by simp; omega
                    have HG := Lib.hid hdg
                    clear hdg
                    go_wp2_with (go_at_call 57; refine (rdigit_is _ false HG.out _).mono ?_; rintro e w' ⟨rfl, rfl⟩)
                  case' inr.inr =>
                    have hdl : decide ((g : Int) < (r.s.size : Int)) = false := by simp; omega
                    go_wp2_with fail
                  all_goals
                    go_meet
                    have hF := HF.out
                    have hG := HG2.out
                    have hC := HCN2.out
                    refine ⟨?_, ?_, ?_, ?_, rfl⟩
                    · unfold fracE; rw [if_pos HP.out, ← hF, hC, ← hG]
                    · unfold fracV; rw [if_pos HP.out, ← hF, hC]
                    · unfold fracN; rw [if_pos HP.out, ← hF, hC]; rw [← HTEN.out]
                    · unfold fracN; rw [if_pos HP.out, ← hF, hC]; go_num
          case rest =>
            obtain ⟨rfl, rfl, rfl, rfl, rfl⟩ := hcut
            have hN : numS r.l r.sc r.sz r.vs p = if i + fracN r.l q = 0 then none else some (dval r.l p i * (unS r.l r.sc r.sz r.vs (fracE r.l q)).1 + fracV r.l q * (unS r.l r.sc r.sz r.vs (fracE r.l q)).1 / 10 ^ fracN r.l q, (unS r.l r.sc r.sz r.vs (fracE r.l q)).2) := by
              unfold numS; rw [HCN.out, ← HQ.out]
            have hu := unS_le r.l r.sc r.sz r.vs (fracE r.l q) HC.out
            have hV := mul_bd _ _ (fracV_le r.l q) hu.1 hu.2
            have hDb : dval r.l p i < 1000000000 := by have := dvalC_le r.l p; rw [HCN.out] at this; exact this
            have hD := mul_bd _ _ hDb hu.1 hu.2
            have hE := fracE_end r.l q hql
            have hk9 := fracN_le r.l q
            have hun : unS r.l r.sc r.sz r.vs (fracE r.l q) = match unitAt r.l (fracE r.l q) r.sz r.vs with | some u => (u, fracE r.l q + 1) | none => ((unitK r.sc r.sz r.vs).getD 0, fracE r.l q) := rfl
            have hVle := fracV_le r.l q
            clear HQ HCN HD HM
            generalize fracE r.l q = E at *
            generalize unS r.l r.sc r.sz r.vs E = uz at *
            obtain ⟨u, z⟩ := uz
            simp only at hu hV hD hN
            generalize fracN r.l q = k at *
            generalize fracV r.l q = V at *
            generalize dval r.l p i = D at *
            have hten : ((10 ^ k : Nat) : Int) = (10 : Int) ^ k := by simp
            have hten1 : 1 ≤ ((10 ^ k : Nat) : Int) := by have := Nat.pow_pos (n := k) (show 0 < 10 by decide); omega
            generalize ((10 ^ k : Nat) : Int) = ten at *
            have HTEN := Lib.hid hten
            have hdv : 0 ≤ (V : Int) * u / ten ∧ (V : Int) * u / ten ≤ (V : Int) * u := ⟨Int.ediv_nonneg hV.1 (by omega), Int.ediv_le_self _ hV.1⟩
            have HN := Lib.hid hN
            have HUN := Lib.hid hun
            clear hten hN hun
            by_cases h0 : i + k = 0
            · obtain rfl : i = 0 := by omega
              obtain rfl : k = 0 := by omega
              go_wp2_with fail
              go_ret3
              refine ⟨(Below.refl _ _).alloc (Nat.le_refl _) _, ?_⟩
              rw [HN.out]
              rfl
            · have h00 : ((i : Int) + (k : Int) == 0) = false := by rw [beq_eq_false_iff_ne]; omega
              have h0' := Lib.hid h0
              clear h0
              by_cases hlt : E < r.s.size
              · have hdl : decide ((E : Int) < (r.s.size : Int)) = true := by simp; omega
                have hb : r.l[E]? = some r.s[E] := byte_at r.s E hlt
                cases huk : unitK r.s[E] r.sz r.vs with
                | some u' =>
                  have h1 := HUN.out
                  unfold unitAt at h1
                  rw [hb] at h1
                  simp only [huk] at h1
                  obtain ⟨rfl, rfl⟩ := Prod.mk.inj h1
                  have HSC := Lib.hid (isScale_is r.s[E] r.sz r.vs true (by rw [huk]; rfl))
                  have HUC := Lib.hid (runit_some r.s[E] r.sz r.vs r.hr u huk HC.out)
                  clear huk h1 hb HUN
                  by_cases hok : ok9 ((D : Int) * u + (V : Int) * u / ten)
                  · have HOK := Lib.hid hok
                    have HOD := Lib.hid (decide_eq_true hok)
                    clear hok
                    go_wp2_with (first | (go_at_call 34; refine (HSC.out _).mono ?_; rintro e w' ⟨rfl, rfl⟩) | (go_at_call 31; refine (HUC.out _).mono ?_; rintro e w' ⟨rfl, rfl⟩) | (go_at_call 43; refine (rwithin_is _ true HOD.out _).mono ?_; rintro e w' ⟨rfl, rfl⟩))
                    go_ret3
                    refine ⟨((Below.refl _ _).alloc (Nat.le_refl _) _).alloc (by simp) _, ?_⟩
                    rw [HN.out, if_neg h0'.out]
                    simp only
                    rw [← HTEN.out, if_pos HOK.out]
                    rfl
                  · have HOK := Lib.hid hok
                    have HOD := Lib.hid (decide_eq_false hok)
                    clear hok
                    go_wp2_with (first | (go_at_call 34; refine (HSC.out _).mono ?_; rintro e w' ⟨rfl, rfl⟩) | (go_at_call 31; refine (HUC.out _).mono ?_; rintro e w' ⟨rfl, rfl⟩) | (go_at_call 43; refine (rwithin_is _ false HOD.out _).mono ?_; rintro e w' ⟨rfl, rfl⟩))
                    go_ret3
                    refine ⟨((Below.refl _ _).alloc (Nat.le_refl _) _).alloc (by simp) _, ?_⟩
                    rw [HN.out, if_neg h0'.out]
                    simp only
                    rw [← HTEN.out, if_neg HOK.out]
                    rfl
                | none =>
                  obtain ⟨u', hu'⟩ := Option.isSome_iff_exists.1 HU.out
                  have h1 := HUN.out
                  unfold unitAt at h1
                  rw [hb] at h1
                  simp only [huk, hu', Option.getD_some] at h1
                  obtain ⟨rfl, rfl⟩ := Prod.mk.inj h1
                  have HSC := Lib.hid (isScale_is r.s[z] r.sz r.vs false (by rw [huk]; rfl))
                  have HUC := Lib.hid (runit_some r.sc r.sz r.vs r.hr u hu' HC.out)
                  clear huk h1 hb HUN hu'
                  by_cases hok : ok9 ((D : Int) * u + (V : Int) * u / ten)
                  · have HOK := Lib.hid hok
                    have HOD := Lib.hid (decide_eq_true hok)
                    clear hok
                    go_wp2_with (first | (go_at_call 34; refine (HSC.out _).mono ?_; rintro e w' ⟨rfl, rfl⟩) | (go_at_call 31; refine (HUC.out _).mono ?_; rintro e w' ⟨rfl, rfl⟩) | (go_at_call 43; refine (rwithin_is _ true HOD.out _).mono ?_; rintro e w' ⟨rfl, rfl⟩))
                    go_ret3
                    refine ⟨((Below.refl _ _).alloc (Nat.le_refl _) _).alloc (by simp) _, ?_⟩
                    rw [HN.out, if_neg h0'.out]
                    simp only
                    rw [← HTEN.out, if_pos HOK.out]
                    rfl
                  · have HOK := Lib.hid hok
                    have HOD := Lib.hid (decide_eq_false hok)
                    clear hok
                    go_wp2_with (first | (go_at_call 34; refine (HSC.out _).mono ?_; rintro e w' ⟨rfl, rfl⟩) | (go_at_call 31; refine (HUC.out _).mono ?_; rintro e w' ⟨rfl, rfl⟩) | (go_at_call 43; refine (rwithin_is _ false HOD.out _).mono ?_; rintro e w' ⟨rfl, rfl⟩))
                    go_ret3
                    refine ⟨((Below.refl _ _).alloc (Nat.le_refl _) _).alloc (by simp) _, ?_⟩
                    rw [HN.out, if_neg h0'.out]
                    simp only
                    rw [← HTEN.out, if_neg HOK.out]
                    rfl
              · have hdl : decide ((E : Int) < (r.s.size : Int)) = false := by simp; omega
                obtain ⟨u', hu'⟩ := Option.isSome_iff_exists.1 HU.out
                have h1 := HUN.out
                unfold unitAt at h1
                rw [show r.l[E]? = none from byte_none r.s E (by omega)] at h1
                simp only [hu', Option.getD_some] at h1
                obtain ⟨rfl, rfl⟩ := Prod.mk.inj h1
                have HSC := Lib.hid (isScale_is r.sc r.sz r.vs true HU.out)
                have HUC := Lib.hid (runit_some r.sc r.sz r.vs r.hr u hu' HC.out)
                clear h1 HUN hu'
                by_cases hok : ok9 ((D : Int) * u + (V : Int) * u / ten)
                · have HOK := Lib.hid hok
                  have HOD := Lib.hid (decide_eq_true hok)
                  clear hok
                  go_wp2_with (first | (go_at_call 34; refine (HSC.out _).mono ?_; rintro e w' ⟨rfl, rfl⟩) | (go_at_call 31; refine (HUC.out _).mono ?_; rintro e w' ⟨rfl, rfl⟩) | (go_at_call 43; refine (rwithin_is _ true HOD.out _).mono ?_; rintro e w' ⟨rfl, rfl⟩))
                  go_ret3
                  refine ⟨((Below.refl _ _).alloc (Nat.le_refl _) _).alloc (by simp) _, ?_⟩
                  rw [HN.out, if_neg h0'.out]
                  simp only
                  rw [← HTEN.out, if_pos HOK.out]
                  rfl
                · have HOK := Lib.hid hok
                  have HOD := Lib.hid (decide_eq_false hok)
                  clear hok
                  go_wp2_with (first | (go_at_call 34; refine (HSC.out _).mono ?_; rintro e w' ⟨rfl, rfl⟩) | (go_at_call 31; refine (HUC.out _).mono ?_; rintro e w' ⟨rfl, rfl⟩) | (go_at_call 43; refine (rwithin_is _ false HOD.out _).mono ?_; rintro e w' ⟨rfl, rfl⟩))
                  go_ret3
                  refine ⟨((Below.refl _ _).alloc (Nat.le_refl _) _).alloc (by simp) _, ?_⟩
                  rw [HN.out, if_neg h0'.out]
                  simp only
                  rw [← HTEN.out, if_neg HOK.out]
                  rfl
end Go.Proofs.YteihpeffaeahlaaDoor
