/- Contracts of the specification: expressions. -/
import Derived.Test.YteihpeffaeahlaaDoorR7
namespace Go.Proofs.YteihpeffaeahlaaDoor
open Go.RowKit
set_option maxRecDepth 100000
theorem reck_ne {o : List UInt8} {a b x : Int} (h : reck o a b = .error x) : x ≠ 0 := by
  unfold reck chk at h
  repeat' split at h
  all_goals first | (cases h; decide) | cases h
section
variable {r : RS}
/-- At the head of the specification's loop. -/
def SmI (r : RS) (dp m : Nat) (F : Res) (w : World) (k : Nat) (at_ n e : Value) (wr : World) : Prop :=
  Below w.heap.size w wr ∧ Bx w.heap.size r wr ∧
  ((∃ v v' z, at_ = .int .i64 ((z : Nat) : Int) ∧ n = .int .i64 v' ∧ e = .int .i64 0 ∧ ok9 v' ∧ (r.fm = false → v' = v) ∧ z ≤ r.l.length ∧ 2 * (r.l.length - z) + 3 ≤ k ∧ k ≤ m ∧ F = ex r k 2 v z dp) ∨
   (∃ x n' z, at_ = .int .i64 z ∧ n = .int .i64 n' ∧ e = .int .i64 x ∧ x ≠ 0 ∧ F = .error x))
set_option maxHeartbeats 4000000 in
theorem rsum_step (hr : Rsk r) (m : Nat) (hO : ∀ k, k ≤ m → ROp r k) (p dp : Nat) (w : World) (hp : p ≤ r.l.length) (hd : dp ≤ 20) (hm : 2 * (r.l.length - p) + 3 ≤ m + 1) :
    Calls Tryd.prog 41 #[RA r, .int .i64 p, .int .i64 dp] w (RxP r (ex r (m + 1) 1 0 p dp) w) := by
  have hlen : r.l.length = r.s.size := Rok.len
  have hls := hr.hl
  have e : ex r (m + 1) 1 0 p dp = match ex r m 0 0 p dp with | .error e => .error e | .ok (v, z) => ex r m 2 v z dp := ex1 r m 0 p dp
  have HE := Lib.hid e
  have H1 := Lib.hid (hO m (Nat.le_refl _) p dp (w.alloc (RO r)) hp hd (by omega))
  have HO := Lib.hid hO
  have HR := Lib.hid hr
  clear e hO hr
  go_enter Tryd.func41, Tryd.ntmps41
  go_wp2_with fail
  refine H1.out.mono ?_
  rintro e w1 ⟨hb1, hm1⟩
  have bx := (Bx.new w r).below hb1
  have B1 := Lib.hid (((Below.refl _ _).alloc (Nat.le_refl _) (RO r)).trans (hb1.mono (by simp)))
  have BX := Lib.hid bx
  clear hb1 bx H1
  have hgo : ∃ (n' z' x : Int), e = .returned (.tuple #[.int .i64 n', .int .i64 z', .int .i64 x]) ∧ SmI r dp m (ex r (m + 1) 1 0 p dp) w m (.int .i64 z') (.int .i64 n') (.int .i64 x) w1 := by
    cases hR : ex r m 0 0 p dp with
    | error x =>
      rw [hR] at hm1
      obtain ⟨hx, n, z, rfl⟩ := hm1
      exact ⟨n, z, x, rfl, B1.out, BX.out, .inr ⟨x, n, z, rfl, rfl, rfl, hx, by rw [HE.out, hR]⟩⟩
    | ok vz =>
      obtain ⟨v, z⟩ := vz
      rw [hR] at hm1
      obtain ⟨v', g1, g2, rfl⟩ := hm1
      have hz := ex_bd hR hp
      have := hz.2.2 (by omega)
      exact ⟨v', z, 0, rfl, B1.out, BX.out, .inl ⟨v, v', z, rfl, rfl, rfl, g1, g2, hz.2.1, by omega, Nat.le_refl _, by rw [HE.out, hR]⟩⟩
  obtain ⟨n', z', x, rfl, hS⟩ := hgo
  have HS := Lib.hid hS
  clear hS hm1 HE
  go_wp2_with fail
  go_loopg [1, 9, 10] m (fun k a n e wr => SmI r dp m (ex r (m + 1) 1 0 p dp) w k a n e wr)
  case atStart => exact HS.out
  case round =>
    clear hm
    obtain ⟨hB, hX, ⟨v, v2, z, rfl, rfl, rfl, g3, g4, hz, hk, hkm, hf⟩ | ⟨x, n', z, rfl, rfl, rfl, hx, hf⟩⟩ := hrel
    · have c0 := hX.c0
      have c1 := hX.c1
      have c2 := hX.c2
      have c3 := hX.c3
      have c4 := hX.c4
      have c5 := hX.c5
      have hbx := hX.lt
      have X2 := Lib.hid hX
      have B2 := Lib.hid hB
      have G3 := Lib.hid g3
      have G4 := Lib.hid g4
      have HF2 := Lib.hid hf
      clear hX hB g3 g4 hf
      obtain ⟨o, ho⟩ : ∃ o, o = opr r.l (skipS r.l dp z) := ⟨_, rfl⟩
      have HOP := Lib.hid ho
      obtain ⟨f, hfs⟩ : ∃ f, f = skipS r.l dp z := ⟨_, rfl⟩
      have hsl := skipS_le r.l dp z hz
      have hsk := fun W => rskip_any r z dp (by omega) hz (by omega) W
      have hop := fun W => roperator_any r f HR.out.hl (by omega) W
      rw [← hfs] at hsk hsl
      rw [show opr r.l f = o by rw [hfs, ho]] at hop
      have HSK := Lib.hid hsk
      have HPR := Lib.hid hop
      have HFS := Lib.hid hfs
      have hdp0 := Nat.zero_le dp
      clear hsk hop ho hfs
      go_wp2_with fail
      go_region_held3 (fun w' => w'.cell? ⟨w.heap.size, 0, none⟩ = some (.string r.s) ∧ w'.cell? ⟨w.heap.size, 1, none⟩ = some (.int .u8 r.sc.toNat) ∧ w'.cell? ⟨w.heap.size, 2, none⟩ = some (.int .i64 r.sz) ∧ w'.cell? ⟨w.heap.size, 3, none⟩ = some (.int .i64 r.vs) ∧ w'.cell? ⟨w.heap.size, 4, none⟩ = some (.int .i64 r.hr) ∧ w'.cell? ⟨w.heap.size, 5, none⟩ = some (.bool r.fm)) (go_keep)
        (first | (go_at_call 60; refine (HSK.out _).mono ?_; rintro e w3 ⟨rfl, hb⟩; have k0 := (bcell hb).1 w.heap.size 0 (by exact hbx); have k1 := (bcell hb).1 w.heap.size 1 (by exact hbx); have k2 := (bcell hb).1 w.heap.size 2 (by exact hbx); have k3 := (bcell hb).1 w.heap.size 3 (by exact hbx); have k4 := (bcell hb).1 w.heap.size 4 (by exact hbx); have k5 := (bcell hb).1 w.heap.size 5 (by exact hbx); have hbx2 : w.heap.size < w3.heap.size := Nat.lt_of_lt_of_le hbx hb.size; have HB3 := Lib.hid hb; clear hb) | (go_at_call 59; refine (HPR.out _).mono ?_; rintro e w4 ⟨rfl, hb⟩; have k0' := (bcell hb).1 w.heap.size 0 (by exact hbx2); have k1' := (bcell hb).1 w.heap.size 1 (by exact hbx2); have k2' := (bcell hb).1 w.heap.size 2 (by exact hbx2); have k3' := (bcell hb).1 w.heap.size 3 (by exact hbx2); have k4' := (bcell hb).1 w.heap.size 4 (by exact hbx2); have k5' := (bcell hb).1 w.heap.size 5 (by exact hbx2); have HB4 := Lib.hid hb; clear hb))
      obtain ⟨k, rfl⟩ : ∃ k, gk = k + 1 := ⟨gk - 1, by omega⟩
      have e2 := ex2 r k v z dp
      have HE2 := Lib.hid e2
      clear e2
      have b4 : Below w.heap.size w w4 := ((below_drewN B2.out 1).trans (HB3.out.mono B2.out.size)).trans (HB4.out.mono (Nat.le_of_lt hbx2))
      have B4 := Lib.hid b4
      have x4 : Bx w.heap.size r w4 := ((show Bx w.heap.size r wr.drew from X2.out).below HB3.out).below HB4.out
      have X4 := Lib.hid x4
      clear b4 x4 k0 k1 k2 k3 k4 k5 k0' k1' k2' k3' k4' k5' c0 c1 c2 c3 c4 c5
      by_cases hoe : o = []
      · subst hoe
        go_wp2_with fail
        go_ret3
        refine ⟨B4.out, ?_⟩
        rw [HF2.out, HE2.out]
        unfold rstR
        rw [← HOP.out, if_pos rfl]
        exact ⟨v2, G3.out, G4.out, rfl⟩
      · have hne : o.isEmpty = false := by simpa using hoe
        have hend := opr_end r.l (skipS r.l dp z) (by rw [← HOP.out]; exact hoe)
        have hmem := (opr_mem r.l (skipS r.l dp z) (by rw [← HOP.out]; exact hoe)).1
        rw [← HOP.out] at hend hmem
        have hsk := skipS_ge r.l dp z
        rw [← HFS.out] at hsk hend
        have HNE := Lib.hid hoe
        have HME := Lib.hid hmem
        obtain ⟨q, hq⟩ : ∃ q, q = f + o.length := ⟨_, rfl⟩
        have hzq : z + 1 ≤ q := by omega
        have hql : q ≤ r.l.length := by omega
        have hf2 : ex r (k + 1) 2 v z dp = match ex r k 0 0 q dp with
            | .error e => if r.fm && dp == 0 then .ok (v, z) else .error e
            | .ok (y, z') => if r.fm then ex r k 2 0 z' dp else match reck o v y with
              | .error e => .error e
              | .ok v' => ex r k 2 v' z' dp := by
          rw [HE2.out]
          unfold rstR
          rw [← HOP.out, if_neg HNE.out, ← HFS.out, ← hq]
          rfl
        have HF3 := Lib.hid (HF2.out.trans hf2)
        have HOQ := Lib.hid (HO.out k (by omega) q dp w4 hql hd (by omega))
        rw [show (f : Int) + (o.length : Int) = ((q : Nat) : Int) by omega]
        have d0 := X4.out.c0
        have d1 := X4.out.c1
        have d2 := X4.out.c2
        have d3 := X4.out.c3
        have d4 := X4.out.c4
        have d5 := X4.out.c5
        clear hoe hmem hend hsk hf2 HF2 HE2 hq
        go_wp2_with fail
        refine HOQ.out.mono ?_
        rintro e w5 ⟨hb5, hm5⟩
        have b5 : Below w.heap.size w w5 := B4.out.trans (hb5.mono B4.out.size)
        have B5 := Lib.hid b5
        have x5 := X4.out.below hb5
        have d0' := x5.c0
        have d1' := x5.c1
        have d2' := x5.c2
        have d3' := x5.c3
        have d4' := x5.c4
        have d5' := x5.c5
        have X5 := Lib.hid x5
        clear b5 x5 hb5 d0 d1 d2 d3 d4 d5
        cases hR : ex r k 0 0 q dp with
        | error x =>
          rw [hR] at hm5
          obtain ⟨hx, n'', z'', rfl⟩ := hm5
          have hxx : (x != 0) = true := by simpa using hx
          have hF := HF3.out
          rw [hR] at hF
          simp only at hF
          have HF4 := Lib.hid hF
          have HX0 := Lib.hid hx
          clear hR hx hF HF3
          rcases Bool.eq_false_or_eq_true r.fm with hfm | hfm
          case inr =>
            rw [hfm] at d5'
            have HFM := Lib.hid hfm
            clear hfm
            go_wp2_with fail
            go_ret3
            refine ⟨B5.out, ?_⟩
            rw [HF4.out, HFM.out]
            exact ⟨HX0.out, _, _, rfl⟩
          case inl =>
            rw [hfm] at d5'
            have HFM := Lib.hid hfm
            clear hfm
            by_cases hdz : dp = 0
            · subst hdz
              go_wp2_with fail
              go_ret3
              refine ⟨B5.out, ?_⟩
              rw [HF4.out, HFM.out]
              exact ⟨v2, G3.out, (fun h => by cases h), rfl⟩
            · have hdd : ((dp : Int) == 0) = false := by rw [beq_eq_false_iff_ne]; omega
              have HDZ := Lib.hid hdz
              clear hdz
              go_wp2_with fail
              go_ret3
              refine ⟨B5.out, ?_⟩
              rw [HF4.out, HFM.out]
              have : (true && dp == 0) = false := by simpa using HDZ.out
              rw [this]
              exact ⟨HX0.out, _, _, rfl⟩
        | ok vz =>
          obtain ⟨y, z'⟩ := vz
          rw [hR] at hm5
          obtain ⟨y1, g5, g6, rfl⟩ := hm5
          have hz' := ex_bd hR hql
          have hF := HF3.out
          rw [hR] at hF
          simp only at hF
          have HF4 := Lib.hid hF
          have G5 := Lib.hid g5
          have G6 := Lib.hid g6
          have hzl := hz'.2.1
          have hz'q := hz'.2.2 (by omega)
          clear hR g5 g6 hF HF3 hz'
          rcases Bool.eq_false_or_eq_true r.fm with hfm | hfm
          case inl =>
            rw [hfm] at d5'
            have HFM := Lib.hid hfm
            clear hfm
            go_wp2_with fail
            go_roundg k
            case measure => omega
            case rel =>
              have hF := HF4.out
              rw [HFM.out, if_pos rfl] at hF
              exact ⟨B5.out, X5.out, .inl ⟨0, v2, z', rfl, rfl, rfl, G3.out, (fun h => absurd (HFM.out.symm.trans h) (by decide)), hzl, by omega, by omega, hF⟩⟩
          case inr =>
            rw [hfm] at d5'
            have HFM := Lib.hid hfm
            clear hfm
            have hF := HF4.out
            rw [HFM.out, if_neg (by decide), ← G4.out HFM.out, ← G6.out HFM.out] at hF
            have HF5 := Lib.hid hF
            have HRK := Lib.hid (rk_any o HME.out v2 y1 G3.out G5.out w5)
            clear hF
            go_wp2_with fail
            refine HRK.out.mono ?_
            rintro e w6 ⟨rfl, hm6⟩
            cases hK : reck o v2 y1 with
            | error x =>
              rw [hK] at hm6
              subst hm6
              have HK := Lib.hid hK
              clear hK
              go_wp2_with fail
              go_roundg k
              case measure => omega
              case rel =>
                have hF := HF5.out
                rw [HK.out] at hF
                exact ⟨B5.out, X5.out, .inr ⟨x, 0, z', rfl, rfl, rfl, reck_ne HK.out, hF⟩⟩
            | ok u =>
              rw [hK] at hm6
              subst hm6
              have HK := Lib.hid hK
              clear hK
              go_wp2_with fail
              go_roundg k
              case measure => omega
              case rel =>
                have hF := HF5.out
                rw [HK.out] at hF
                exact ⟨B5.out, X5.out, .inl ⟨u, u, z', rfl, rfl, rfl, reck_ok9 G3.out HK.out, (fun _ => rfl), hzl, by omega, by omega, hF⟩⟩
    · have hx' : (x == 0) = false := by simpa using hx
      have B2 := Lib.hid hB
      have HX0 := Lib.hid hx
      have HF2 := Lib.hid hf
      clear hX hB hx hf
      go_wp2_with fail
      go_ret3
      rw [HF2.out]
      exact ⟨B2.out, HX0.out, _, _, rfl⟩
theorem rex_all (hr : Rsk r) (n : Nat) : ROp r n ∧ RSm r n := by
  induction n using Nat.strongRecOn with
  | _ n ih =>
    cases n with
    | zero => exact ⟨fun p dp w _ _ hn => absurd hn (by omega), fun p dp w _ _ hn => absurd hn (by omega)⟩
    | succ m =>
      refine ⟨fun p dp w hp hd hm => ?_, fun p dp w hp hd hm => rsum_step hr m (fun k hk => (ih k (by omega)).1) p dp w hp hd hm⟩
      rw [ex0]
      exact roperand_step hr m (ih m (by omega)).2 r.l.length p dp w (by omega) hp hd hm
end
end Go.Proofs.YteihpeffaeahlaaDoor
