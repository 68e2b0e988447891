/- Contracts: an expression outside all brackets. -/
import Derived.Test.YteihpeffaeahlaaDoorW9
namespace Go.Proofs.YteihpeffaeahlaaDoor
open Go.RowKit
set_option maxRecDepth 100000
/-- How reckoning an expression outside all brackets ends. -/
def TopP (b : Nat) (r : RS) (wh : Nat) (w : World) (R : Res) (e : Ending) (w' : World) : Prop :=
  Own b w w' ∧ match R with
    | .ok (v, z) => if r.fm then ((∃ u, e = .returned (.int .i64 u)) ∨ (∃ x, e = thrown x)) ∧ ∃ q d, Has 64 b r q d z w' else e = .returned (.int .i64 v) ∧ ok9 v ∧ Has 64 b r z 0 z w'
    | .error x => e = thrown x ∧ ∃ q d wh', Has 64 b r q d wh' w' ∧ (r.fm = true → wh' = wh)
def ExJ (b : Nat) (r : RS) (M : Nat) (FIN : Res) (w : World) (k : Nat) (s : Value) (wr : World) : Prop :=
  ∃ v v' z wh, s = .int .i64 v' ∧ ok9 v' ∧ (r.fm = false → v' = v) ∧ z ≤ r.l.length ∧ 2 * (r.l.length - z) + 2 ≤ k ∧ k ≤ M ∧ Has 64 b r z 0 wh wr ∧ Own b w wr ∧ ex r k 2 v z 0 = FIN
section
variable {b : Nat} {r : RS} {p wh : Nat} {w : World}
set_option maxHeartbeats 2000000 in
theorem exp_top (hr : Rok r) (m : Nat) (hO : ∀ k, OpdS b r k) (hh : Has 64 b r p 0 wh w) (hT : Tab w) (hp : p ≤ r.l.length) (hn : 2 * (r.l.length - p) + 3 ≤ m + 1) :
    Calls Tryd.prog 37 #[RP b] w (TopP b r wh w (ex r (m + 1) 1 0 p 0)) := by
  have hd : (0 : Nat) ≤ 20 := by omega
  have hlen : r.l.length = r.s.size := Rok.len
  have hls := hr.hl
  have hb0 := hT.has hh
  have HH := Lib.hid hh
  have HR := Lib.hid hr
  have HT := Lib.hid hT
  have HN := Lib.hid hb0
  have HO := Lib.hid hO
  have e : ex r (m + 1) 1 0 p 0 = match ex r m 0 0 p 0 with | .error e => .error e | .ok (v, z) => ex r m 2 v z 0 := ex1 r m 0 p 0
  have HE := Lib.hid e
  clear hh hT hb0 hO e hr
  go_enter Tryd.func37, Tryd.ntmps37
  go_wp2_with fail
  refine (HO.out m p 0 wh w HH.out HT.out hp hd (by omega)).mono ?_
  rintro e w1 ⟨o1, hm⟩
  cases hR : ex r m 0 0 p 0 with
  | error x =>
    rw [hR] at hm
    obtain ⟨rfl, q, d, hq⟩ := hm
    exact ⟨rfl, o1, by rw [HE.out, hR]; exact ⟨rfl, q, d, wh, hq, fun _ => rfl⟩⟩
  | ok vz =>
    obtain ⟨v, z⟩ := vz
    rw [hR] at hm
    obtain ⟨v1, g1, g2, rfl, h1⟩ := hm
    have hz := ex_bd hR hp
    have hF : ex r (m + 1) 1 0 p 0 = ex r m 2 v z 0 := by rw [HE.out, hR]
    have HF := Lib.hid hF
    have H1 := Lib.hid h1
    have O1 := Lib.hid o1
    have G1 := Lib.hid g1
    have G2 := Lib.hid g2
    clear hR h1 o1 g1 g2 hF HE
    go_wp2_with fail
    go_loopg [3] m (fun k s wr => ExJ b r m (ex r (m + 1) 1 0 p 0) w k s wr)
    case atStart => exact ⟨v, v1, z, wh, rfl, G1.out, G2.out, hz.2.1, by omega, Nat.le_refl _, H1.out, O1.out, HF.out.symm⟩
    case round =>
      clear hz
      obtain ⟨v, v2, z, wh2, rfl, g3, g4, hz, hk, hkm, h2, o2, hf⟩ := hrel
      have c6 := h2.c6
      have c1 := h2.c1
      have f7 := h2.fz 7
      have c7 := h2.c7
      have h2' := h2.set7 z
      have o2' := o2.setCell 7 (.int .i64 z)
      have H2 := Lib.hid h2'
      have O2 := Lib.hid o2'
      have G3 := Lib.hid g3
      have G4 := Lib.hid g4
      have HF2 := Lib.hid hf
      have T2 := Lib.hid (HT.out.own o2' HN.out)
      clear h2 o2 h2' o2' g3 g4 hf HF H1 O1 G1 G2
      obtain ⟨o, ho⟩ : ∃ o, o = opr r.l (skipS r.l 0 z) := ⟨_, rfl⟩
      have HOP := Lib.hid ho
      go_wp2_with fail
      refine (operator_any H2.out T2.out (HR.out.hl) hz).mono ?_
      rw [← ho]
      rintro e w3 ⟨rfl, h3, o3⟩
      have H3 := Lib.hid h3
      have O3 := Lib.hid o3
      have T3 := Lib.hid (T2.out.own o3 HN.out)
      clear h3 o3
      obtain ⟨k, rfl⟩ : ∃ k, gk = k + 1 := ⟨gk - 1, by omega⟩
      have e2 := ex2 r k v z 0
      have HE2 := Lib.hid e2
      clear e2
      clear ho
      by_cases hoe : o = []
      · subst hoe
        go_wp2_with fail
        go_ret
        refine ⟨O2.out.trans O3.out, ?_⟩
        rw [← HF2.out, HE2.out]
        unfold rstR
        rw [← HOP.out, if_pos rfl]
        have h3 : Has 64 b r z 0 z w3 := by have := H3.out; rwa [List.length_nil, Nat.add_zero] at this
        simp only
        cases hfm : r.fm with
        | true => rw [if_pos rfl]; exact ⟨.inl ⟨v2, rfl⟩, z, 0, h3⟩
        | false => rw [if_neg (by decide), ← G4.out hfm]; exact ⟨rfl, G3.out, h3⟩
      · have hne : o.isEmpty = false := by simpa using hoe
        have hend := opr_end r.l (skipS r.l 0 z) (by rw [← HOP.out]; exact hoe)
        have hmem := (opr_mem r.l (skipS r.l 0 z) (by rw [← HOP.out]; exact hoe)).1
        rw [← HOP.out] at hend hmem
        have hsk := skipS_ge r.l 0 z
        have HNE := Lib.hid hoe
        have HME := Lib.hid hmem
        obtain ⟨q, hq⟩ : ∃ q, q = skipS r.l 0 z + o.length := ⟨_, rfl⟩
        rw [← hq] at H3
        have hzq : z + 1 ≤ q := by omega
        have hql : q ≤ r.l.length := by omega
        have HQ := Lib.hid hq
        clear hoe hmem hend hsk hq
        have hf2 : ex r (k + 1) 2 v z 0 = match ex r k 0 0 q 0 with
            | .error e => if r.fm && 0 == 0 then .ok (v, z) else .error e
            | .ok (y, z') => if r.fm then ex r k 2 0 z' 0 else match reck o v y with
              | .error e => .error e
              | .ok v' => ex r k 2 v' z' 0 := by
          rw [HE2.out]
          unfold rstR
          rw [← HOP.out, if_neg HNE.out, ← HQ.out]
          rfl
        rw [HF2.out] at hf2
        have HF3 := Lib.hid hf2
        clear hf2 HF2 HE2
        go_wp2_with fail
        refine (HO.out k q 0 _ w3 H3.out T3.out hql hd (by omega)).mono ?_
        rintro e w4 ⟨o4, hm⟩
        cases hR : ex r k 0 0 q 0 with
        | error x =>
          rw [hR] at hm
          obtain ⟨rfl, q', d, hq'⟩ := hm
          refine ⟨rfl, (O2.out.trans O3.out).trans o4, ?_⟩
          rw [HF3.out, hR]
          simp only
          cases hfm : r.fm with
          | true => rw [if_pos (by decide)]; simp only; rw [if_pos trivial]; exact ⟨.inr ⟨x, rfl⟩, q', d, hq'⟩
          | false => rw [if_neg (by decide)]; exact ⟨rfl, q', d, z, hq', fun h => by cases h⟩
        | ok vz =>
          obtain ⟨y, z'⟩ := vz
          rw [hR] at hm
          obtain ⟨y1, g5, g6, rfl, h4⟩ := hm
          have hz' := ex_bd hR hql
          have hF := HF3.out
          rw [hR] at hF
          simp only at hF
          have HF4 := Lib.hid hF
          have H4 := Lib.hid h4
          have O4 := Lib.hid o4
          have G5 := Lib.hid g5
          have G6 := Lib.hid g6
          clear hR h4 o4 g5 g6 hF HF3
          go_wp2_with fail
          refine (apply_any o HME.out v2 y1 G3.out G5.out H4.out).mono ?_
          rintro e w5 ⟨rfl, ⟨u, g7, rfl, g8⟩ | ⟨x, rfl, g7, g8⟩⟩
          · have G7 := Lib.hid g7
            have G8 := Lib.hid g8
            clear g7 g8
            go_wp2_with fail
            go_roundg k
            case measure => omega
            case rel =>
              have hF := HF4.out
              cases hfm : r.fm with
              | true =>
                rw [hfm, if_pos rfl] at hF
                exact ⟨0, u, z', z, rfl, G7.out, (fun h => by rw [hfm] at h; cases h), hz'.2.1, by omega, by omega, H4.out, ((O2.out.trans O3.out).trans O4.out), hF.symm⟩
              | false =>
                rw [hfm, if_neg (by decide), ← G4.out hfm, ← G6.out hfm, G8.out hfm] at hF
                exact ⟨u, u, z', z, rfl, G7.out, (fun _ => rfl), hz'.2.1, by omega, by omega, H4.out, ((O2.out.trans O3.out).trans O4.out), hF.symm⟩
          · refine ⟨rfl, (O2.out.trans O3.out).trans O4.out, ?_⟩
            have hF := HF4.out
            rw [g7, if_neg (by decide), ← G4.out g7, ← G6.out g7, g8] at hF
            rw [hF]
            exact ⟨rfl, _, _, z, H4.out, fun h => by rw [g7] at h; cases h⟩
end
end Go.Proofs.YteihpeffaeahlaaDoor
