/- The code's conditions: kinds, names, texts. -/
import Derived.Test.YtnffmlfapccgkaaDoorX2
import Derived.Shelf.Strings.Split
namespace Go.Proofs.YtnffmlfapccgkaaDoor
open Go.RowKit Go.Shelf
set_option maxRecDepth 100000
set_option linter.unusedSimpArgs false
set_option linter.unusedVariables false
def inA (c : UInt8) : Bool := decide ((0 : Int) ≤ Lib.indexByte [111, 101, 116, 110, 100, 114] c)
def inB (c : UInt8) : Bool := decide ((0 : Int) ≤ Lib.indexByte [40, 43, 45, 46, 124, 92] c)
def kdS : List UInt8 → UInt8
  | [] => 120
  | c :: _ => if bl c then 120 else if inA c then c else if ld c then 120 else if inB c then 120 else 39
theorem kindOf_any (l : List UInt8) (w : World) : Calls Tryd.prog 30 #[.string (bs l)] w fun e w' => e = .returned (.int .u8 ((kdS l).toNat : Int)) ∧ w = w' := by
  cases l with
  | nil =>
    have hne : ((bs ([] : List UInt8)).toList).isEmpty = true := by rw [Lib.toList_data, bs_list]; rfl
    have hne2 : (bs ([] : List UInt8)).toList = [] := by rw [Lib.toList_data, bs_list]
    obtain ⟨S, hS⟩ : ∃ S, S = bs ([] : List UInt8) := ⟨_, rfl⟩
    rw [← hS] at hne hne2 ⊢
    clear hS
    go_enter Tryd.func30, Tryd.ntmps30
    go_wp2_with fail
    go_ret
    exact ⟨rfl, rfl⟩
  | cons c t =>
    obtain ⟨S, hS⟩ : ∃ S, S = bs (c :: t) := ⟨_, rfl⟩
    obtain ⟨h0s, hat, hne, hne2⟩ := head_facts S c t hS
    have HBL := Lib.hid (fun W => blank_any c W)
    have HA := Lib.hid (fun W => ix_call ⟨#[111, 101, 116, 110, 100, 114]⟩ c W)
    rw [show (⟨#[111, 101, 116, 110, 100, 114]⟩ : ByteArray).data.toList = [111, 101, 116, 110, 100, 114] from rfl] at HA
    have HLD := Lib.hid (fun W => ld_any c W)
    have HB := Lib.hid (fun W => ix_call ⟨#[40, 43, 45, 46, 124, 92]⟩ c W)
    rw [show (⟨#[40, 43, 45, 46, 124, 92]⟩ : ByteArray).data.toList = [40, 43, 45, 46, 124, 92] from rfl] at HB
    have hK : kdS (c :: t) = if bl c then 120 else if inA c then c else if ld c then 120 else if inB c then 120 else 39 := rfl
    unfold inA inB at hK
    obtain ⟨ia, hia⟩ : ∃ x, x = Lib.indexByte [111, 101, 116, 110, 100, 114] c := ⟨_, rfl⟩
    obtain ⟨ib, hib⟩ : ∃ x, x = Lib.indexByte [40, 43, 45, 46, 124, 92] c := ⟨_, rfl⟩
    rw [← hia] at HA hK
    rw [← hib] at HB hK
    rw [← hat] at HBL HA HLD HB
    rw [← hS]
    obtain ⟨R, hR⟩ : ∃ R, R = kdS (c :: t) := ⟨_, rfl⟩
    rw [← hR] at hK ⊢
    cases h1 : bl c with
    | true =>
      rw [hat, h1, ← hat] at HBL
      rw [h1, if_pos rfl] at hK
      have HF := Lib.hid hK
      clear hK hR hS hat h1 hia hib
      go_enter Tryd.func30, Tryd.ntmps30
      go_wp2_with fail
      refine (HBL.out _).mono ?_
      rintro e w1 ⟨rfl, rfl⟩
      go_wp2_with fail
      go_ret
      rw [HF.out]
      exact ⟨rfl, rfl⟩
    | false =>
      rw [hat, h1, ← hat] at HBL
      rw [h1, if_neg (by simp)] at hK
      cases h2 : decide ((0 : Int) ≤ ia) with
      | true =>
        rw [h2, if_pos rfl] at hK
        have HF := Lib.hid (show (R.toNat : Int) = (S[0].toNat : Int) by rw [hK, hat])
        clear hK hR hS hat h1 hia hib
        go_enter Tryd.func30, Tryd.ntmps30
        go_wp2_with fail
        refine (HBL.out _).mono ?_
        rintro e w1 ⟨rfl, rfl⟩
        go_wp2_with fail
        refine (HA.out _).mono ?_
        rintro e w1 ⟨rfl, rfl⟩
        go_wp2_with fail
        go_ret
        rw [HF.out]
        exact ⟨rfl, rfl⟩
      | false =>
        rw [h2, if_neg (by simp)] at hK
        cases h3 : ld c with
        | true =>
          rw [hat, h3, ← hat] at HLD
          rw [h3, if_pos rfl] at hK
          have HF := Lib.hid hK
          clear hK hR hS hat h1 h3 hia hib
          go_enter Tryd.func30, Tryd.ntmps30
          go_wp2_with fail
          refine (HBL.out _).mono ?_
          rintro e w1 ⟨rfl, rfl⟩
          go_wp2_with fail
          refine (HA.out _).mono ?_
          rintro e w1 ⟨rfl, rfl⟩
          go_wp2_with fail
          refine (HLD.out _).mono ?_
          rintro e w1 ⟨rfl, rfl⟩
          go_wp2_with fail
          go_ret
          rw [HF.out]
          exact ⟨rfl, rfl⟩
        | false =>
          rw [hat, h3, ← hat] at HLD
          rw [h3, if_neg (by simp)] at hK
          cases h4 : decide ((0 : Int) ≤ ib) with
          | true =>
            rw [h4, if_pos rfl] at hK
            have HF := Lib.hid hK
            clear hK hR hS hat h1 h3 hia hib
            go_enter Tryd.func30, Tryd.ntmps30
            go_wp2_with fail
            refine (HBL.out _).mono ?_
            rintro e w1 ⟨rfl, rfl⟩
            go_wp2_with fail
            refine (HA.out _).mono ?_
            rintro e w1 ⟨rfl, rfl⟩
            go_wp2_with fail
            refine (HLD.out _).mono ?_
            rintro e w1 ⟨rfl, rfl⟩
            go_wp2_with fail
            refine (HB.out _).mono ?_
            rintro e w1 ⟨rfl, rfl⟩
            go_wp2_with fail
            go_ret
            rw [HF.out]
            exact ⟨rfl, rfl⟩
          | false =>
            rw [h4, if_neg (by simp)] at hK
            have HF := Lib.hid hK
            clear hK hR hS hat h1 h3 hia hib
            go_enter Tryd.func30, Tryd.ntmps30
            go_wp2_with fail
            refine (HBL.out _).mono ?_
            rintro e w1 ⟨rfl, rfl⟩
            go_wp2_with fail
            refine (HA.out _).mono ?_
            rintro e w1 ⟨rfl, rfl⟩
            go_wp2_with fail
            refine (HLD.out _).mono ?_
            rintro e w1 ⟨rfl, rfl⟩
            go_wp2_with fail
            refine (HB.out _).mono ?_
            rintro e w1 ⟨rfl, rfl⟩
            go_wp2_with fail
            go_ret
            rw [HF.out]
            exact ⟨rfl, rfl⟩
/-- Up to a byte, and behind it. -/
def cutC (c : UInt8) : List UInt8 → Option (List UInt8 × List UInt8)
  | [] => none
  | a :: t => if a = c then some ([], t) else match cutC c t with
    | none => none
    | some (x, y) => some (a :: x, y)
/-- Two texts, each up to a byte, and what is behind them. -/
def cutT (c : UInt8) (l : List UInt8) : Option (List UInt8 × List UInt8 × List UInt8) := match cutC c l with
  | none => none
  | some (x, y) => match cutC c y with
    | none => none
    | some (z, r) => some (x, z, r)
theorem cutC_ix (c : UInt8) : ∀ l : List UInt8, (Lib.indexByte l c = -1 ∧ cutC c l = none) ∨ ∃ k : Nat, Lib.indexByte l c = k ∧ k < l.length ∧ cutC c l = some (l.take k, l.drop (k + 1))
  | [] => .inl ⟨rfl, rfl⟩
  | a :: t => by
    unfold Lib.indexByte cutC
    by_cases h : a = c
    · rw [if_pos (by simpa using h), if_pos h]
      exact .inr ⟨0, rfl, by simp, rfl⟩
    · rw [if_neg (by simpa using h), if_neg h]
      rcases cutC_ix c t with ⟨h1, h2⟩ | ⟨k, h1, h2, h3⟩
      · refine .inl ⟨?_, ?_⟩
        · rw [h1]; rfl
        · rw [h2]
      · refine .inr ⟨k + 1, ?_, by simp; omega, ?_⟩
        · rw [h1, if_neg (by simp; try omega)]; push_cast; rfl
        · rw [h3]; rfl
theorem cutC_len {c : UInt8} {l x y : List UInt8} (h : cutC c l = some (x, y)) : x.length + y.length + 1 = l.length := by
  rcases cutC_ix c l with ⟨_, h2⟩ | ⟨k, _, h2, h3⟩
  · rw [h2] at h; cases h
  · rw [h3] at h
    injection h with h
    injection h with ha hb
    rw [← ha, ← hb, List.length_take, List.length_drop]; omega
theorem cutT_len {c : UInt8} {l x y r : List UInt8} (h : cutT c l = some (x, y, r)) : x.length + y.length + r.length + 2 = l.length := by
  unfold cutT at h
  cases h1 : cutC c l with
  | none => rw [h1] at h; cases h
  | some p =>
    obtain ⟨a, b⟩ := p
    rw [h1] at h
    dsimp only at h
    cases h2 : cutC c b with
    | none => rw [h2] at h; cases h
    | some p =>
      obtain ⟨d, e⟩ := p
      rw [h2] at h
      injection h with h
      injection h with ha hb
      injection hb with hb hc
      have := cutC_len h1
      have := cutC_len h2
      rw [← ha, ← hb, ← hc]; omega
/-- Three parts at most. -/
theorem split3 (c : UInt8) (t : List UInt8) (n : Nat) (hn : n = min 3 (t.length + 1) - 1) : (∃ x y r, cutT c t = some (x, y, r) ∧ Lib.splitK [c] 0 n t = [x, y, r]) ∨ (cutT c t = none ∧ (Lib.splitK [c] 0 n t).length < 3) := by
  have step : ∀ (k : Nat) (l : List UInt8), Lib.splitK [c] 0 (k + 1) l = match cutC c l with | none => [l] | some (x, y) => x :: Lib.splitK [c] 0 k y := by
    intro k l
    conv => lhs; unfold Lib.splitK
    rw [Lib.index_one]
    rcases cutC_ix c l with ⟨h1, h2⟩ | ⟨i, h1, h2, h3⟩
    · rw [h1, h2]; rfl
    · rw [h1, h3, if_neg (by simp; try omega)]; simp
  have z : ∀ l, Lib.splitK [c] 0 0 l = [l] := fun l => rfl
  by_cases h2 : 2 ≤ t.length
  · have hn2 : n = 2 := by omega
    rw [hn2, step 1]
    unfold cutT
    cases h : cutC c t with
    | none => right; exact ⟨rfl, by simp⟩
    | some p =>
      obtain ⟨x, y⟩ := p
      dsimp only
      rw [step 0]
      cases h' : cutC c y with
      | none => right; exact ⟨rfl, by simp⟩
      | some p =>
        obtain ⟨u, r⟩ := p
        left
        exact ⟨x, u, r, rfl, rfl⟩
  · right
    have hc : cutT c t = none := by
      cases h : cutT c t with
      | none => rfl
      | some p => obtain ⟨x, y, r⟩ := p; have := cutT_len h; omega
    refine ⟨hc, ?_⟩
    have : n = 0 ∨ n = 1 := by omega
    rcases this with rfl | rfl
    · rw [z]; simp
    · rw [step 0]
      cases cutC c t with
      | none => simp
      | some p => simp [z]
/-- What cutTexts tells. -/
def ctP (c : UInt8) (t : List UInt8) : Value := match cutT c t with
  | none => .tuple #[.string ⟨#[]⟩, .string ⟨#[]⟩, .string ⟨#[]⟩, .bool false]
  | some (x, y, r) => .tuple #[.string (bs x), .string (bs y), .string (bs r), .bool true]
theorem ret4 {F : Func} {a : Act} {W : World} {t0 t1 t2 t3 : Nat} {v0 v1 v2 v3 : Value} {Q : Ending → World → Prop} (hF : F.results = #[.tmp t0, .tmp t1, .tmp t2, .tmp t3]) (hd : a.defers = []) (h0 : a.tmps.getD t0 undef = v0) (h1 : a.tmps.getD t1 undef = v1) (h2 : a.tmps.getD t2 undef = v2) (h3 : a.tmps.getD t3 undef = v3)
    (hQ : Q (.returned (.tuple #[v0, v1, v2, v3])) W) : bodyPost Tryd.prog F Q Exit.ret a W := by
  have h0' : a.tmps[t0]?.getD undef = v0 := by simpa using h0
  have h1' : a.tmps[t1]?.getD undef = v1 := by simpa using h1
  have h2' : a.tmps[t2]?.getD undef = v2 := by simpa using h2
  have h3' : a.tmps[t3]?.getD undef = v3 := by simpa using h3
  refine bodyPost_ret (v := .tuple #[v0, v1, v2, v3]) ?_ hd hQ
  simp [results, hF, h0', h1', h2', h3', go_sem]
set_option maxHeartbeats 4000000 in
theorem cutTexts_any (c : UInt8) (t : List UInt8) (ht : t.length ≤ 100000) (w : World) (hM : MaxI w) : Calls Tryd.prog 33 #[.string (bs (c :: t))] w fun e w' => e = .returned (ctP c t) ∧ Below w.heap.size w w' := by
  have HX1 := Lib.hid (show (bs (c :: t)).extract 1 (bs (c :: t)).size = bs t from ext1 _ c t rfl)
  have h1s : 1 ≤ (bs (c :: t)).size := by rw [bs_size]; simp
  have HX2 := Lib.hid (show (bs (c :: t)).extract 0 1 = ⟨#[c]⟩ by rw [bs_ext _ _ _ h1s, bs_list]; rfl)
  obtain ⟨n, hn⟩ : ∃ n, n = min 3 (t.length + 1) - 1 := ⟨_, rfl⟩
  obtain ⟨ps, hps⟩ : ∃ ps, ps = Lib.splitB ⟨#[c]⟩ 0 n (bs t) := ⟨_, rfl⟩
  have hpd : ps.map (·.data.toList) = Lib.splitK [c] 0 n t := by rw [hps, Lib.splitB_data]; rfl
  have HSP : Hid (∀ W, MaxI W → Calls Tryd.prog 60 #[.string (bs t), .string ⟨#[c]⟩, .int .i64 3] W fun e w' => e = .returned (.slice (some ⟨W.heap.size, 0, none⟩) ps.length (n + 1)) ∧ w' = W.alloc (.cells (Lib.cellsOf ps (n + 1)) 9)) := Lib.hid fun W ⟨m, hm⟩ => by
    have h := Tryd.strings_SplitN (bs t) ⟨#[c]⟩ 3 m W (by rw [bs_size]; omega) hm (Nat.le_refl 1) (by decide) (by decide)
    rw [bs_size, ← hn, ← hps, show min 3 (t.length + 1) = n + 1 by omega] at h
    exact h
  have h3 := split3 c t n hn
  have HM := Lib.hid hM
  have HL : Hid (ps.length = (Lib.splitK [c] 0 n t).length) := Lib.hid (by rw [← hpd, List.length_map])
  clear hn hps hM
  rcases h3 with ⟨x, y, r, hct, hsk⟩ | ⟨hct, hlt⟩
  · have hl3 : ps.length = 3 := by rw [HL.out, hsk]; rfl
    have hpe : ps = [bs x, bs y, bs r] := by
      rw [hsk] at hpd
      match ps, hl3 with
      | [a, b, d], _ =>
        simp only [List.map_cons, List.map_nil, List.cons.injEq, and_true] at hpd
        rw [← hpd.1, ← hpd.2.1, ← hpd.2.2, bs_self, bs_self, bs_self]
    have hR : ctP c t = .tuple #[.string (bs x), .string (bs y), .string (bs r), .bool true] := by unfold ctP; rw [hct]
    have HR := Lib.hid hR
    rw [hl3] at HSP
    have HC : Hid (∀ W : World, ((W.alloc (.cells (Lib.cellsOf ps (n + 1)) 9)).cell? ⟨W.heap.size, 0, none⟩ = some (.string (bs x)) ∧ (W.alloc (.cells (Lib.cellsOf ps (n + 1)) 9)).cell? ⟨W.heap.size, 1, none⟩ = some (.string (bs y)) ∧ (W.alloc (.cells (Lib.cellsOf ps (n + 1)) 9)).cell? ⟨W.heap.size, 2, none⟩ = some (.string (bs r)))) := Lib.hid fun W => by
      have h := heap_alloc_new W (.cells (Lib.cellsOf ps (n + 1)) 9)
      rw [hpe] at h ⊢
      refine ⟨?_, ?_, ?_⟩ <;> (simp only [World.cell?, h]; simp [Lib.cellsOf])
    obtain ⟨N, hN⟩ : ∃ N, N = n + 1 := ⟨_, rfl⟩
    rw [← hN] at HSP HC
    obtain ⟨O, hO⟩ : ∃ O, O = Obj.cells (Lib.cellsOf ps N) 9 := ⟨_, rfl⟩
    rw [← hO] at HSP HC
    obtain ⟨S, hS⟩ : ∃ S, S = bs (c :: t) := ⟨_, rfl⟩
    rw [← hS] at HX1 HX2 h1s ⊢
    obtain ⟨Q, hQ⟩ : ∃ Q, Q = ctP c t := ⟨_, rfl⟩
    rw [← hQ] at HR ⊢
    clear hct hsk hl3 hpe hR hN hO hS hQ hpd HL
    go_enter Tryd.func33, Tryd.ntmps33
    go_wp2_with fail
    go_region_with (first
      | (go_at_call 60; rw [HX1.out, HX2.out]; refine (HSP.out _ ?_).mono ?_
         · first | exact HM.out | exact (HM.out.below (B := w.heap.size) ⟨rfl, rfl, rfl, Nat.le_refl _, fun _ _ => rfl⟩ (Nat.le_refl _))
         rintro e w2 ⟨rfl, hw⟩
         obtain ⟨k0, k1, k2⟩ := HC.out w
         have k0' : w2.cell? ⟨w.heap.size, 0, none⟩ = some (.string (bs x)) := by rw [hw]; exact k0
         have k1' : w2.cell? ⟨w.heap.size, 1, none⟩ = some (.string (bs y)) := by rw [hw]; exact k1
         have k2' : w2.cell? ⟨w.heap.size, 2, none⟩ = some (.string (bs r)) := by rw [hw]; exact k2
         have HB2 : Hid (Below w.heap.size w w2) := Lib.hid (by rw [hw]; exact ⟨rfl, rfl, rfl, (bel0 w O).size, (bel0 w O).block⟩)
         clear hw k0 k1 k2))
    all_goals
      go_wp2_with fail
      go_quiet (fail)
      go_wp2_with fail
      rw [HR.out]
      refine ret4 (t0 := 2) (t1 := 3) (t2 := 4) (t3 := 5) rfl rfl rfl rfl rfl rfl ⟨rfl, below_drewN HB2.out _⟩
  · have hl3 : ps.length < 3 := by rw [HL.out]; exact hlt
    have hR : ctP c t = .tuple #[.string ⟨#[]⟩, .string ⟨#[]⟩, .string ⟨#[]⟩, .bool false] := by unfold ctP; rw [hct]
    have HR := Lib.hid hR
    have d3 : decide ((ps.length : Int) < 3) = true := decide_eq_true (by omega)
    have d3n : decide (ps.length < 3) = true := decide_eq_true hl3
    obtain ⟨N, hN⟩ : ∃ N, N = n + 1 := ⟨_, rfl⟩
    rw [← hN] at HSP
    obtain ⟨O, hO⟩ : ∃ O, O = Obj.cells (Lib.cellsOf ps N) 9 := ⟨_, rfl⟩
    rw [← hO] at HSP
    obtain ⟨S, hS⟩ : ∃ S, S = bs (c :: t) := ⟨_, rfl⟩
    rw [← hS] at HX1 HX2 h1s ⊢
    obtain ⟨Q, hQ⟩ : ∃ Q, Q = ctP c t := ⟨_, rfl⟩
    rw [← hQ] at HR ⊢
    obtain ⟨pl, hpl⟩ : ∃ pl, pl = ps.length := ⟨_, rfl⟩
    rw [← hpl] at HSP d3 d3n
    clear hct hlt hl3 hR hN hO hS hQ hpd HL hpl
    go_enter Tryd.func33, Tryd.ntmps33
    go_wp2_with fail
    go_region_with (first
      | (go_at_call 60; rw [HX1.out, HX2.out]; refine (HSP.out _ ?_).mono ?_
         · first | exact HM.out | exact (HM.out.below (B := w.heap.size) ⟨rfl, rfl, rfl, Nat.le_refl _, fun _ _ => rfl⟩ (Nat.le_refl _))
         rintro e w2 ⟨rfl, hw⟩
         have HB2 : Hid (Below w.heap.size w w2) := Lib.hid (by rw [hw]; exact ⟨rfl, rfl, rfl, (bel0 w O).size, (bel0 w O).block⟩)
         clear hw))
    all_goals
      go_wp2_with fail
      rw [HR.out]
      refine ret4 (t0 := 2) (t1 := 3) (t2 := 4) (t3 := 5) rfl rfl rfl rfl rfl rfl ⟨rfl, HB2.out⟩
end Go.Proofs.YtnffmlfapccgkaaDoor
