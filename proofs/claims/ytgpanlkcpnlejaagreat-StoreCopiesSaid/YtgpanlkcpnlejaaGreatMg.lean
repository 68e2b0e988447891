/- The document's store: Macro. -/
import Derived.Test.YtgpanlkcpnlejaaGreatMf
import Derived.Deep.RegionLaw
import Derived.Deep.DeepCutAuto
set_option linter.unusedSimpArgs false
set_option linter.unusedVariables false
namespace Go.Proofs.YtgpanlkcpnlejaaGreat
open Go.RowKit Go.Maps
set_option maxRecDepth 100000
set_option maxHeartbeats 1000000 in
theorem rMacro_arg {F : Nat → Prop} {bx : Nat} {L : List Reg} {N : Nat} {M : Nat → Mc} {w : World} (h : DK F bx L N M w) (s : ByteArray) {P : TypeId → Nat → Prop} {A : Option Addr} {n c : Nat} {ls : List Ln} (hl : LnsAt P w A n ls) (hP : ∀ e b, P e b → b < w.heap.size) (hn47 : n ≤ 2000000) (htx : ∀ l ∈ ls, l.tx.size ≤ 9223372036854775807) (hok : ls.all okLn = false) : Calls Tryz.prog 26 #[BP bx, .string s, .slice A n c] w (DtP F bx N (1, L, M) w) := by
  have HNO := Lib.hid (rno_any h)
  have HT := Lib.hid (rAreLines_any (c := c) hl hP (by omega) htx)
  have HD := Lib.hid h
  rw [hok] at HT
  clear h hok hl hP htx
  go_enter Tryz.func26, Tryz.ntmps26
  go_wp2_with fail
  refine HNO.out.mono ?_
  rintro e w1 ⟨rfl, rfl⟩
  go_wp2_with fail
  refine HT.out.mono ?_
  rintro e w1 ⟨rfl, hb⟩
  have HB := Lib.hid hb
  clear hb
  go_wp2_with fail
  go_ret
  exact DtP.err_below HD.out HB.out
set_option maxHeartbeats 2000000 in
theorem rMacro_any {F : Nat → Prop} {bx : Nat} {L : List Reg} {N : Nat} {M : Nat → Mc} {w : World} (h : DK F bx L N M w) (s : ByteArray) {P : TypeId → Nat → Prop} {A : Option Addr} {n c : Nat} {ls : List Ln} (hl : LnsAt P w A n ls) (hP : ∀ e b, P e b → b < w.heap.size) (hn47 : n ≤ 2000000) (htx : ∀ l ∈ ls, l.tx.size ≤ 9223372036854775807) (hN : N ≤ 1000) : Calls Tryz.prog 26 #[BP bx, .string s, .slice A n c] w (DtP F bx N (macS L M s.data.toList ls N) w) := by
  cases hok : ls.all okLn with
  | false =>
    unfold macS
    rw [hok, if_neg (by decide)]
    exact rMacro_arg h s hl hP hn47 htx hok
  | true =>
    have HNO := Lib.hid (rno_any h)
    have HT := Lib.hid (rAreLines_any (c := c) hl hP (by omega) htx)
    have HI := Lib.hid (fun W => rIsName_any s W)
    have HD := Lib.hid h
    have hlen := hl.len
    rw [hok] at HT
    unfold macS
    rw [hok, if_pos rfl]
    have HL := Lib.hid hl
    have HP := Lib.hid hP
    cases hn : okNm s.data.toList with
    | false =>
      rw [hn] at HI
      rw [if_neg (by decide)]
      clear h hok hl hP htx hn hlen
      go_enter Tryz.func26, Tryz.ntmps26
      go_wp2_with fail
      refine HNO.out.mono ?_
      rintro e w1 ⟨rfl, rfl⟩
      go_wp2_with fail
      refine HT.out.mono ?_
      rintro e w1 ⟨rfl, hb⟩
      have HB := Lib.hid hb
      clear hb
      go_wp2_with fail
      refine (HI.out _).mono ?_
      rintro e w2 ⟨rfl, rfl⟩
      go_wp2_with fail
      go_ret
      exact DtP.err_below HD.out HB.out
    | true =>
      rw [hn] at HI
      rw [if_pos rfl]
      by_cases hz : n ≤ 2000
      · rw [if_pos (by omega)]
        have dz : decide ((2000 : Int) < (n : Int)) = false := decide_eq_false (by omega)
        have HOK := Lib.hid hok
        have HN := Lib.hid hn
        have HLE := Lib.hid hlen
        clear h hok hl hP htx hn hlen
        go_enter Tryz.func26, Tryz.ntmps26
        go_wp2_with fail
        refine HNO.out.mono ?_
        rintro e w1 ⟨rfl, rfl⟩
        go_wp2_with fail
        refine HT.out.mono ?_
        rintro e w1 ⟨rfl, hb⟩
        have HB := Lib.hid hb
        clear hb
        go_wp2_with fail
        refine (HI.out _).mono ?_
        rintro e w2 ⟨rfl, rfl⟩
        have HO := Lib.hid (rOwnAll_any (w := w1) (c := c) (HL.out.keep (w' := w1) (P' := fun _ b => b < w.heap.size) fun e b hb => ⟨HB.out.block b (HP.out e b hb), HP.out e b hb⟩) (fun _ b hb => Nat.lt_of_lt_of_le hb HB.out.size) (by omega) (okLn_bx HOK.out))
        go_wp2_with fail
        refine HO.out.mono ?_
        rintro e w3 ⟨⟨A3, c3, rfl, hl3, hA3, hc3, hc9⟩, hb3⟩
        have hm := macro_at (F := F) hl3 HB.out.size hA3 hc3 hc9 HOK.out (by have := HLE.out; omega)
        have hdg := DG.below HD.out (HB.out.trans (hb3.mono HB.out.size))
        have HDG := Lib.hid hdg
        have HPU := Lib.hid (rput_any hdg.dk s HN.out ⟨2, A3, n, c3⟩ ⟨2, ⟨#[]⟩, ls⟩ hm hN)
        clear hl3 hA3 hc3 hc9 hb3 hm hdg
        go_wp2_with fail
        refine HPU.out.mono ?_
        rintro e w4 ⟨rfl, hg⟩
        have HG := Lib.hid (HDG.out.trans hg HD.out.hf)
        clear hg
        go_wp2_with fail
        go_ret
        exact ⟨⟨_, (putN_in _ _ _).1, (putN_in _ _ _).2, rfl, HG.out⟩⟩
      · rw [if_neg (by omega)]
        have dz : decide ((2000 : Int) < (n : Int)) = true := decide_eq_true (by omega)
        clear h hok hl hP htx hn hlen
        go_enter Tryz.func26, Tryz.ntmps26
        go_wp2_with fail
        refine HNO.out.mono ?_
        rintro e w1 ⟨rfl, rfl⟩
        go_wp2_with fail
        refine HT.out.mono ?_
        rintro e w1 ⟨rfl, hb⟩
        have HB := Lib.hid hb
        clear hb
        go_wp2_with fail
        refine (HI.out _).mono ?_
        rintro e w2 ⟨rfl, rfl⟩
        go_wp2_with fail
        go_ret
        exact DtP.err_below HD.out HB.out
end Go.Proofs.YtgpanlkcpnlejaaGreat
/- The document's store: an entry's cells; Append. -/
namespace Go.Proofs.YtgpanlkcpnlejaaGreat
open Go.RowKit Go.Maps
set_option maxRecDepth 100000
/-- An entry in its place. -/
theorem DB.ent_at {F : Nat → Prop} {bx : Nat} {L : List Reg} {N : Nat} {M : Nat → Mc} {no eo : Option Addr} {nc ec : Nat} {es : List De} {w : World} (h : DB F bx L N M no nc eo ec es w) (i : Nat) (hi : i < N) :
    ∃ g lo ln lc, eo = some ⟨g, 0, none⟩ ∧ g < w.heap.size ∧ DeIs F w ⟨(M i).kind, lo, ln, lc⟩ (M i) ∧ w.cell? ⟨g, i * 2, none⟩ = some (.int .i64 (M i).kind) ∧ w.cell? ⟨g, i * 2 + 1, none⟩ = some (.slice lo ln lc) ∧ w.frozen? ⟨g, i * 2, none⟩ = false ∧ w.frozen? ⟨g, i * 2 + 1, none⟩ = false := by
  obtain ⟨g, he, _, hg, _⟩ := own_head h.ent (by omega)
  subst he
  have h1 : es[i]? = some (es[i]'(by rw [h.elen]; exact hi)) := List.getElem?_eq_getElem _
  obtain ⟨e, he⟩ : ∃ e, e = es[i]'(by rw [h.elen]; exact hi) := ⟨_, rfl⟩
  rw [← he] at h1
  have hd := h.es i e h1
  have key := fun k (hk : k < 2) => (fm_at de_len es i k e h1 hk)
  obtain ⟨k, lo, ln, lc⟩ := e
  have hk := hd.kd
  simp only at hk
  subst hk
  obtain ⟨a1, b1⟩ := own_cell h.ent _ _ (key 0 (by omega))
  obtain ⟨a2, b2⟩ := own_cell h.ent _ _ (key 1 (by omega))
  rw [Nat.add_zero] at a1 b1
  exact ⟨g, lo, ln, lc, rfl, hg, hd, a1, a2, b1, b2⟩
/-- A string's entry: its one line. -/
theorem DeIs.text {F : Nat → Prop} {w : World} {lo : Option Addr} {ln lc : Nat} {m : Mc} (h : DeIs F w ⟨m.kind, lo, ln, lc⟩ m) (hk : m.kind = 1) : ∃ b off, lo = some ⟨b, off, none⟩ ∧ b < w.heap.size ∧ w.cell? ⟨b, off, none⟩ = some (.string m.tx) ∧ ln = 1 ∧ okTx m.tx.data.toList = true := by
  have hl : mLines m = [⟨m.tx, false, 0, 0, []⟩] := by unfold mLines; rw [if_pos hk]
  have hat := h.at_
  rw [hl] at hat
  obtain ⟨⟨rs, hr, ha⟩, hlen⟩ := hat
  have hlen' : ln = 1 := hlen
  have h1 : rs.length = 1 := ha.1
  have hr0 : rs[0]? = some (rs[0]'(by omega)) := List.getElem?_eq_getElem (by omega)
  have hx := ha.2 0 _ _ hr0 rfl
  obtain ⟨b, off, e, hp, c0, _⟩ := reads_ln hr 0 _ hr0
  rw [hx.tx] at c0
  refine ⟨b, off, e, hp.2.lt, by simpa using c0, hlen', ?_⟩
  rcases h.ok with ⟨_, h1, _⟩ | ⟨h2, _⟩
  · exact h1
  · rw [hk] at h2; cases h2
theorem mOf_has {L : List Reg} {M : Nat → Mc} {nm : List UInt8} (h : hasS L nm = true) : mOf L M nm = M (getS L nm).v := by unfold mOf; rw [if_pos h]
theorem app_def (L : List Reg) (M : Nat → Mc) (nm : List UInt8) (t : ByteArray) (N : Nat) (hm : (mOf L M nm).tx = ⟨#[]⟩) : appS L M nm t N = defS L M nm t N := by
  unfold appS defS
  rw [hm]
  cases ht : okTx t.data.toList with
  | false => rfl
  | true =>
    have hz := okTx_size ht
    have e1 : (⟨#[]⟩ : ByteArray) ++ t = t := by
      apply ByteArray.ext
      rw [ByteArray.data_append]
      simp
    rw [e1, if_pos rfl, if_pos rfl]
    split
    · rw [if_pos (by show (⟨#[]⟩ : ByteArray).size + t.size ≤ 2000; show 0 + t.size ≤ 2000; omega)]
    · rfl
theorem mc_tx0 {m : Mc} (h : mcOk m) (hk : m.kind ≠ 1) : m.tx = ⟨#[]⟩ := by
  rcases h with ⟨h1, _⟩ | ⟨_, h1, _⟩
  · exact absurd h1 hk
  · exact h1
set_option maxHeartbeats 4000000 in
theorem rAppend_any {F : Nat → Prop} {bx : Nat} {L : List Reg} {N : Nat} {M : Nat → Mc} {w : World} (h : DK F bx L N M w) (s t : ByteArray) (ht9 : t.size ≤ 9223372036854775807) (hN : N ≤ 1000) : Calls Tryz.prog 25 #[BP bx, .string s, .string t] w (DtP F bx N (appS L M s.data.toList t N) w) := by
  have HNO := Lib.hid (rno_any h)
  have HT := Lib.hid (fun W => rIsText_any t ht9 W)
  have HI := Lib.hid (fun W => rIsName_any s W)
  have HF := Lib.hid (rfind_any h s)
  have HDF := Lib.hid (rDefine_any h s t ht9 hN)
  have HD := Lib.hid h
  cases hok : okTx t.data.toList with
  | false =>
    rw [hok] at HT
    unfold appS
    rw [hok, if_neg (by decide)]
    clear h hok
    go_enter Tryz.func25, Tryz.ntmps25
    go_wp2_with fail
    refine HNO.out.mono ?_
    rintro e w1 ⟨rfl, rfl⟩
    go_wp2_with fail
    refine (HT.out _).mono ?_
    rintro e w1 ⟨rfl, rfl⟩
    go_wp2_with fail
    go_ret
    exact DtP.err HD.out
  | true =>
    rw [hok] at HT
    have HOK := Lib.hid hok
    cases hn : okNm s.data.toList with
    | false =>
      have he : appS L M s.data.toList t N = defS L M s.data.toList t N := by
        unfold appS defS
        rw [hok, hn, if_pos rfl, if_pos rfl]; rfl
      rw [he]
      rw [hn] at HI
      clear h hok hn he
      go_enter Tryz.func25, Tryz.ntmps25
      go_wp2_with fail
      refine HNO.out.mono ?_
      rintro e w1 ⟨rfl, rfl⟩
      go_wp2_with fail
      refine (HT.out _).mono ?_
      rintro e w1 ⟨rfl, rfl⟩
      go_wp2_with fail
      refine (HI.out _).mono ?_
      rintro e w1 ⟨rfl, rfl⟩
      go_wp2_with fail
      refine HDF.out.mono ?_
      rintro e w1 ⟨N', h1, h2, rfl, hg⟩
      have HR : Hid (DtP F bx N (defS L M s.data.toList t N) w (.returned (.int .i64 (defS L M s.data.toList t N).1)) w1) := Lib.hid ⟨N', h1, h2, rfl, hg⟩
      clear hg h1 h2
      go_wp2_with fail
      go_ret
      exact HR.out
    | true =>
      rw [hn] at HI
      unfold fndS at HF
      cases hh : hasS L s.data.toList with
      | false =>
        rw [hh] at HF
        simp only [Bool.false_eq_true, if_false] at HF
        have he := app_def L M s.data.toList t N (by unfold mOf; rw [hh, if_neg (by decide)])
        rw [he]
        clear h hok hn he hh
        go_enter Tryz.func25, Tryz.ntmps25
        go_wp2_with fail
        refine HNO.out.mono ?_
        rintro e w1 ⟨rfl, rfl⟩
        go_wp2_with fail
        refine (HT.out _).mono ?_
        rintro e w1 ⟨rfl, rfl⟩
        go_wp2_with fail
        refine (HI.out _).mono ?_
        rintro e w1 ⟨rfl, rfl⟩
        go_wp2_with fail
        refine HF.out.mono ?_
        rintro e w1 ⟨rfl, rfl⟩
        go_wp2_with fail
        refine HDF.out.mono ?_
        rintro e w1 ⟨N', h1, h2, rfl, hg⟩
        have HR : Hid (DtP F bx N (defS L M s.data.toList t N) w (.returned (.int .i64 (defS L M s.data.toList t N).1)) w1) := Lib.hid ⟨N', h1, h2, rfl, hg⟩
        clear hg h1 h2
        go_wp2_with fail
        go_ret
        exact HR.out
      | true =>
        rw [hh] at HF
        simp only [if_true] at HF
        have hmo := mOf_has (M := M) hh
        obtain ⟨no, nc, eo, ec, es, h⟩ := h
        have hv := (h.ok _ (getS_mem L _ hh)).2
        obtain ⟨v, hvv⟩ : ∃ v, v = (getS L s.data.toList).v := ⟨_, rfl⟩
        rw [← hvv] at HF hmo hv
        obtain ⟨_, _, c2⟩ := h.c
        obtain ⟨g, lo, ln, lc, rfl, hgl, hde, e0, e1, f0, f1⟩ := h.ent_at v hv
        have dv : decide ((v : Int) < 0) = false := decide_eq_false (by omega)
        have dv2 : decide (v < N) = true := decide_eq_true hv
        by_cases hk : (M v).kind = 1
        · obtain ⟨b, off, rfl, hbl, ct, hl1, hmt⟩ := hde.text hk
          rw [hk] at e0
          subst hl1
          have hmz := okTx_size hmt
          have htz := okTx_size hok
          by_cases hz : (M v).tx.size + t.size ≤ 2000
          · have HX := Lib.hid (show appS L M s.data.toList t N = (0, L, updM M v ⟨1, (M v).tx ++ t, []⟩) by
              unfold appS putTo
              rw [hok, hn, hh, hmo, ← hvv, if_pos rfl, if_pos rfl, if_pos hz, if_pos rfl])
            have hokA := okTx_app hmt hok hz
            have hdg := DG.below (⟨no, nc, _, ec, es, h⟩ : DK F bx L N M w) ((Below.refl w.heap.size w).alloc (Nat.le_refl _) (.cells #[.string ((M v).tx ++ t), .bool false, .int .i64 0, .int .i64 0, .slice none 0 0] 39))
            have hG : DG F bx L N (updM M v ⟨1, (M v).tx ++ t, []⟩) w (((w.alloc (.cells #[.string ((M v).tx ++ t), .bool false, .int .i64 0, .int .i64 0, .slice none 0 0] 39)).setCell ⟨g, v * 2, none⟩ (.int .i64 1)).setCell ⟨g, v * 2 + 1, none⟩ (.slice (some ⟨w.heap.size, 0, none⟩) 1 1)) := by
              have hb := (Below.refl w.heap.size w).alloc (Nat.le_refl _) (.cells #[.string ((M v).tx ++ t), .bool false, .int .i64 0, .int .i64 0, .slice none 0 0] 39)
              have h' := h.fx (Fx.of h.hf hb)
              have h2 : DB (Up F w (w.alloc (.cells #[.string ((M v).tx ++ t), .bool false, .int .i64 0, .int .i64 0, .slice none 0 0] 39))) bx L N M no nc (some ⟨g, 0, none⟩) ec es (w.alloc (.cells #[.string ((M v).tx ++ t), .bool false, .int .i64 0, .int .i64 0, .slice none 0 0] 39)) :=
                ⟨h'.cell, h'.row, h'.ent, fun i e he => (h'.es i e he).mono fun i hi => .inl hi, fun g hg => .inl (h'.nF g hg), fun g hg => .inl (h'.eF g hg), .inl h'.fb, fun i hi => by
                  rcases hi with hi | hi
                  · exact h'.hf i hi
                  · exact hi.2, h'.asc, h'.ok, h'.len⟩
              exact hdg.trans (h2.setEnt hv ⟨1, some ⟨w.heap.size, 0, none⟩, 1, 1⟩ ⟨1, (M v).tx ++ t, []⟩ (line_at _ hokA) h.elen) h.hf
            have HG := Lib.hid hG
            rw [HX.out]
            obtain ⟨tm, htm⟩ : ∃ tm, tm = (M v).tx := ⟨_, rfl⟩
            rw [← htm] at ct hz HG ⊢
            have hfit : tm.size + t.size ≤ maxLen := by unfold maxLen; omega
            have hmz : tm.size ≤ 2000 := by omega
            have dz : decide ((2000 : Int) < (tm.size : Int) + (t.size : Int)) = false := decide_eq_false (by omega)
            clear h hok hn hh hmo hvv hde hk hmt hdg hG hokA HX htm hz
            go_enter Tryz.func25, Tryz.ntmps25
            go_wp2_with fail
            refine HNO.out.mono ?_
            rintro e w1 ⟨rfl, rfl⟩
            go_wp2_with fail
            refine (HT.out _).mono ?_
            rintro e w1 ⟨rfl, rfl⟩
            go_wp2_with fail
            refine (HI.out _).mono ?_
            rintro e w1 ⟨rfl, rfl⟩
            go_wp2_with fail
            refine HF.out.mono ?_
            rintro e w1 ⟨rfl, rfl⟩
            go_wp2_with fail
            go_ret
            have hg := HG.out
            rw [World.setCell_alloc_past _ _ _ _ hgl, World.setCell_alloc_past _ _ _ _ (by simpa [World.setCell] using hgl)] at hg
            exact ⟨⟨N, Nat.le_refl _, Nat.le_succ _, rfl, hg⟩⟩
          · have HX := Lib.hid (show appS L M s.data.toList t N = (2, L, M) by
              unfold appS
              rw [hok, hn, hmo, if_pos rfl, if_pos rfl, if_neg hz])
            rw [HX.out]
            obtain ⟨tm, htm⟩ : ∃ tm, tm = (M v).tx := ⟨_, rfl⟩
            rw [← htm] at ct hz hmz
            have hfit : tm.size + t.size ≤ maxLen := by unfold maxLen; omega
            have dz : decide ((2000 : Int) < (tm.size : Int) + (t.size : Int)) = true := decide_eq_true (by omega)
            clear h hok hn hh hmo hvv hde hk hmt HX htm hz
            go_enter Tryz.func25, Tryz.ntmps25
            go_wp2_with fail
            refine HNO.out.mono ?_
            rintro e w1 ⟨rfl, rfl⟩
            go_wp2_with fail
            refine (HT.out _).mono ?_
            rintro e w1 ⟨rfl, rfl⟩
            go_wp2_with fail
            refine (HI.out _).mono ?_
            rintro e w1 ⟨rfl, rfl⟩
            go_wp2_with fail
            refine HF.out.mono ?_
            rintro e w1 ⟨rfl, rfl⟩
            go_wp2_with fail
            go_ret
            exact DtP.err HD.out
        · have he := app_def L M s.data.toList t N (by rw [hmo]; exact mc_tx0 hde.ok hk)
          rw [he]
          have dk : ((M v).kind == (1 : Int)) = false := by simpa using hk
          generalize (M v).kind = kd at dk e0
          clear h hok hn he hh hmo hvv hde hk
          go_enter Tryz.func25, Tryz.ntmps25
          go_wp2_with fail
          refine HNO.out.mono ?_
          rintro e w1 ⟨rfl, rfl⟩
          go_wp2_with fail
          refine (HT.out _).mono ?_
          rintro e w1 ⟨rfl, rfl⟩
          go_wp2_with fail
          refine (HI.out _).mono ?_
          rintro e w1 ⟨rfl, rfl⟩
          go_wp2_with fail
          refine HF.out.mono ?_
          rintro e w1 ⟨rfl, rfl⟩
          go_wp2_with fail
          refine HDF.out.mono ?_
          rintro e w1 ⟨N', h1, h2, rfl, hg⟩
          have HR : Hid (DtP F bx N (defS L M s.data.toList t N) w (.returned (.int .i64 (defS L M s.data.toList t N).1)) w1) := Lib.hid ⟨N', h1, h2, rfl, hg⟩
          clear hg h1 h2
          go_wp2_with fail
          go_ret
          exact HR.out
end Go.Proofs.YtgpanlkcpnlejaaGreat
/- The document's store: Rename, Alias. -/
namespace Go.Proofs.YtgpanlkcpnlejaaGreat
open Go.RowKit Go.Maps
set_option maxRecDepth 100000
theorem del_none (L : List Reg) (nm : List UInt8) (h : hasS L nm = false) : delS L nm = L := by
  unfold delS
  rw [List.filter_eq_self]
  intro r hr
  unfold hasS at h
  rw [List.any_eq_false] at h
  simpa using h r hr
theorem put_del_same : ∀ (L : List Reg) (nm : List UInt8), Asc L → hasS L nm = true → putS (delS L nm) ⟨nm, (getS L nm).v⟩ = L
  | [], nm, _, h => by cases h
  | x :: t, nm, ha, h => by
    obtain ⟨h1, h2⟩ := List.pairwise_cons.1 ha
    by_cases e : x.nm = nm
    · have hn : hasS t nm = false := by
        unfold hasS; rw [List.any_eq_false]
        intro y hy
        have := blt_ne (h1 y hy)
        rw [e] at this
        simpa using Ne.symm this
      have hd : delS (x :: t) nm = t := by
        have := del_none t nm hn
        unfold delS at this ⊢
        rw [List.filter_cons_of_neg (by simp [e]), this]
      have hg : getS (x :: t) nm = x := by
        unfold getS
        rw [List.find?_cons_of_pos (by simp [e])]; rfl
      rw [hd, hg]
      have hx : (⟨nm, x.v⟩ : Reg) = x := by rw [← e]
      rw [hx]
      cases t with
      | nil => rfl
      | cons y t' =>
        have hy := h1 y (List.mem_cons_self ..)
        unfold putS
        rw [if_neg (Ne.symm (blt_ne hy)), if_neg]
        intro hc
        have := blt_trans _ _ _ hy hc
        rw [blt_irrefl] at this; cases this
    · have hh : hasS t nm = true := by simpa [hasS, e] using h
      have hd : delS (x :: t) nm = x :: delS t nm := by
        unfold delS
        rw [List.filter_cons_of_pos (by simp [e])]
      have hg : getS (x :: t) nm = getS t nm := by
        unfold getS
        rw [List.find?_cons_of_neg (by simp [e])]
      rw [hd, hg]
      have hlt : Op.bytesLess x.nm nm = true := by
        have := h1 _ (getS_mem t nm hh)
        rwa [getS_nm] at this
      unfold putS
      rw [if_neg e, if_pos hlt, put_del_same t nm h2 hh]
theorem str_beq (s t : ByteArray) : (s.toList == t.toList) = decide (s.data.toList = t.data.toList) := by
  rw [Lib.toList_data, Lib.toList_data]
  by_cases h : s.data.toList = t.data.toList
  · rw [decide_eq_true h]; exact beq_iff_eq.2 h
  · rw [decide_eq_false h]; exact beq_eq_false_iff_ne.2 h
set_option maxHeartbeats 2000000 in
theorem rRename_any {F : Nat → Prop} {bx : Nat} {L : List Reg} {N : Nat} {M : Nat → Mc} {w : World} (h : DK F bx L N M w) (s t : ByteArray) : Calls Tryz.prog 29 #[BP bx, .string s, .string t] w (DtP F bx N (renS L M s.data.toList t.data.toList) w) := by
  have HTH := Lib.hid (rthere_any h s)
  have HI := Lib.hid (fun W => rIsName_any t W)
  have HLO := Lib.hid (rlose_any h s)
  have HD := Lib.hid h
  have heq := str_beq s t
  cases hh : hasS L s.data.toList with
  | false =>
    rw [hh] at HTH
    simp only [Bool.false_eq_true, if_false] at HTH
    unfold renS
    rw [hh, if_neg (by decide)]
    clear h hh heq
    go_enter Tryz.func29, Tryz.ntmps29
    go_wp2_with fail
    refine HTH.out.mono ?_
    rintro e w1 ⟨rfl, rfl⟩
    go_wp2_with fail
    go_ret
    exact DtP.err HD.out
  | true =>
    rw [hh] at HTH
    simp only [if_true] at HTH
    cases hn : okNm t.data.toList with
    | false =>
      unfold renS
      rw [hh, hn, if_pos rfl, if_neg (by decide)]
      rw [hn] at HI
      generalize (getS L s.data.toList).v = v at HTH
      clear h hh heq hn
      go_enter Tryz.func29, Tryz.ntmps29
      go_wp2_with fail
      refine HTH.out.mono ?_
      rintro e w1 ⟨rfl, rfl⟩
      go_wp2_with fail
      refine (HI.out _).mono ?_
      rintro e w1 ⟨rfl, rfl⟩
      go_wp2_with fail
      go_ret
      exact DtP.err HD.out
    | true =>
      rw [hn] at HI
      obtain ⟨no, nc, eo, ec, es, h⟩ := h
      have hv := (h.ok _ (getS_mem L _ hh)).2
      have HX := Lib.hid (show renS L M s.data.toList t.data.toList = (0, putS (delS L s.data.toList) ⟨t.data.toList, (getS L s.data.toList).v⟩, M) by
        unfold renS
        rw [hh, hn, if_pos rfl, if_pos rfl])
      by_cases he : s.data.toList = t.data.toList
      · have HS := Lib.hid (put_del_same L s.data.toList h.asc hh)
        have HE := Lib.hid he
        rw [decide_eq_true he] at heq
        generalize (getS L s.data.toList).v = v at HTH HX HS hv
        clear h hh hn he hv
        go_enter Tryz.func29, Tryz.ntmps29
        go_wp2_with fail
        refine HTH.out.mono ?_
        rintro e w1 ⟨rfl, rfl⟩
        go_wp2_with fail
        refine (HI.out _).mono ?_
        rintro e w1 ⟨rfl, rfl⟩
        go_wp2_with fail
        go_ret
        rw [HX.out, ← HE.out, HS.out]
        exact DtP.err HD.out
      · have hlen : (putS (delS L s.data.toList) ⟨t.data.toList, (getS L s.data.toList).v⟩).length ≤ 500 := by
          have h1 := len_del L s.data.toList h.asc
          have h2 := len_put (delS L s.data.toList) ⟨t.data.toList, (getS L s.data.toList).v⟩ (asc_del L _ h.asc)
          have h3 := h.len
          rw [hh, if_pos rfl] at h1
          split at h2 <;> omega
        have HLD := Lib.hid (fun W (hg : DG F bx (delS L s.data.toList) N M w W) => rlead_any hg.dk t (getS L s.data.toList).v hn hv hlen)
        rw [decide_eq_false he] at heq
        generalize (getS L s.data.toList).v = v at HTH HX HLD hv
        clear h hh hn he hv hlen
        go_enter Tryz.func29, Tryz.ntmps29
        go_wp2_with fail
        refine HTH.out.mono ?_
        rintro e w1 ⟨rfl, rfl⟩
        go_wp2_with fail
        refine (HI.out _).mono ?_
        rintro e w1 ⟨rfl, rfl⟩
        go_wp2_with fail
        refine HLO.out.mono ?_
        rintro e w2 ⟨rfl, hg⟩
        have HG := Lib.hid hg
        clear hg
        go_wp2_with fail
        refine (HLD.out _ HG.out).mono ?_
        rintro e w3 ⟨rfl, hg⟩
        have HG2 := Lib.hid (HG.out.trans hg HD.out.hf)
        clear hg
        go_wp2_with fail
        go_ret
        rw [HX.out]
        exact ⟨⟨N, Nat.le_refl _, Nat.le_succ _, rfl, HG2.out⟩⟩
set_option maxHeartbeats 2000000 in
theorem rAlias_any {F : Nat → Prop} {bx : Nat} {L : List Reg} {N : Nat} {M : Nat → Mc} {w : World} (h : DK F bx L N M w) (s t : ByteArray) : Calls Tryz.prog 30 #[BP bx, .string s, .string t] w (DtP F bx N (aliS L M s.data.toList t.data.toList) w) := by
  have HTH := Lib.hid (rthere_any h t)
  have HI := Lib.hid (fun W => rIsName_any s W)
  have HF := Lib.hid (rfind_any h s)
  have HD := Lib.hid h
  have heq := str_beq s t
  cases hh : hasS L t.data.toList with
  | false =>
    rw [hh] at HTH
    simp only [Bool.false_eq_true, if_false] at HTH
    unfold aliS
    rw [hh, if_neg (by decide)]
    clear h hh heq
    go_enter Tryz.func30, Tryz.ntmps30
    go_wp2_with fail
    refine HTH.out.mono ?_
    rintro e w1 ⟨rfl, rfl⟩
    go_wp2_with fail
    go_ret
    exact DtP.err HD.out
  | true =>
    rw [hh] at HTH
    simp only [if_true] at HTH
    cases hn : okNm s.data.toList with
    | false =>
      unfold aliS
      rw [hh, hn, if_pos rfl, if_neg (by decide)]
      rw [hn] at HI
      generalize (getS L t.data.toList).v = v at HTH
      clear h hh heq hn
      go_enter Tryz.func30, Tryz.ntmps30
      go_wp2_with fail
      refine HTH.out.mono ?_
      rintro e w1 ⟨rfl, rfl⟩
      go_wp2_with fail
      refine (HI.out _).mono ?_
      rintro e w1 ⟨rfl, rfl⟩
      go_wp2_with fail
      go_ret
      exact DtP.err HD.out
    | true =>
      rw [hn] at HI
      obtain ⟨no, nc, eo, ec, es, h⟩ := h
      have hv := (h.ok _ (getS_mem L _ hh)).2
      by_cases he : s.data.toList = t.data.toList
      · unfold aliS
        rw [hh, hn, if_pos rfl, if_pos rfl, if_pos he]
        rw [decide_eq_true he] at heq
        generalize (getS L t.data.toList).v = v at HTH hv
        clear h hh hn he hv
        go_enter Tryz.func30, Tryz.ntmps30
        go_wp2_with fail
        refine HTH.out.mono ?_
        rintro e w1 ⟨rfl, rfl⟩
        go_wp2_with fail
        refine (HI.out _).mono ?_
        rintro e w1 ⟨rfl, rfl⟩
        go_wp2_with fail
        go_ret
        exact DtP.err HD.out
      · rw [decide_eq_false he] at heq
        obtain ⟨c0, c1, _⟩ := h.c
        have hl := h.len
        unfold fndS at HF
        by_cases hf : hasS L s.data.toList = false ∧ L.length = 500
        · unfold aliS
          rw [hh, hn, if_pos rfl, if_pos rfl, if_neg he, if_pos hf]
          rw [hf.1] at HF
          simp only [Bool.false_eq_true, if_false] at HF
          have d5 : decide ((500 : Int) ≤ (L.length : Int)) = true := decide_eq_true (by omega)
          generalize (getS L t.data.toList).v = v at HTH hv
          clear h hh hn he hv hf
          go_enter Tryz.func30, Tryz.ntmps30
          go_wp2_with fail
          refine HTH.out.mono ?_
          rintro e w1 ⟨rfl, rfl⟩
          go_wp2_with fail
          refine (HI.out _).mono ?_
          rintro e w1 ⟨rfl, rfl⟩
          go_wp2_with fail
          refine HF.out.mono ?_
          rintro e w1 ⟨rfl, rfl⟩
          go_wp2_with fail
          go_ret
          exact DtP.err HD.out
        · have HX := Lib.hid (show aliS L M s.data.toList t.data.toList = (0, putS L ⟨s.data.toList, (getS L t.data.toList).v⟩, M) by
            unfold aliS
            rw [hh, hn, if_pos rfl, if_pos rfl, if_neg he, if_neg hf])
          have hlen : (putS L ⟨s.data.toList, (getS L t.data.toList).v⟩).length ≤ 500 := by
            have h2 := len_put L ⟨s.data.toList, (getS L t.data.toList).v⟩ h.asc
            simp only at h2
            split at h2
            · omega
            · rename_i hx
              have : L.length ≠ 500 := fun e => hf ⟨by simpa using hx, e⟩
              omega
          have HLD := Lib.hid (rlead_any HD.out s (getS L t.data.toList).v hn hv hlen)
          generalize (getS L t.data.toList).v = v at HTH HX HLD hv
          cases hs : hasS L s.data.toList with
          | true =>
            rw [hs] at HF
            simp only [if_true] at HF
            generalize (getS L s.data.toList).v = u at HF
            have du : decide ((u : Int) < 0) = false := decide_eq_false (by omega)
            clear h hh hn he hv hf hlen hs
            go_enter Tryz.func30, Tryz.ntmps30
            go_wp2_with fail
            refine HTH.out.mono ?_
            rintro e w1 ⟨rfl, rfl⟩
            go_wp2_with fail
            refine (HI.out _).mono ?_
            rintro e w1 ⟨rfl, rfl⟩
            go_wp2_with fail
            refine HF.out.mono ?_
            rintro e w1 ⟨rfl, rfl⟩
            go_wp2_with fail
            refine HLD.out.mono ?_
            rintro e w3 ⟨rfl, hg⟩
            have HG := Lib.hid hg
            clear hg
            go_wp2_with fail
            go_ret
            rw [HX.out]
            exact ⟨⟨N, Nat.le_refl _, Nat.le_succ _, rfl, HG.out⟩⟩
          | false =>
            rw [hs] at HF
            simp only [Bool.false_eq_true, if_false] at HF
            have d5 : decide ((500 : Int) ≤ (L.length : Int)) = false := decide_eq_false (by
              have : L.length ≠ 500 := fun e => hf ⟨hs, e⟩
              omega)
            clear h hh hn he hv hf hlen hs
            go_enter Tryz.func30, Tryz.ntmps30
            go_wp2_with fail
            refine HTH.out.mono ?_
            rintro e w1 ⟨rfl, rfl⟩
            go_wp2_with fail
            refine (HI.out _).mono ?_
            rintro e w1 ⟨rfl, rfl⟩
            go_wp2_with fail
            refine HF.out.mono ?_
            rintro e w1 ⟨rfl, rfl⟩
            go_wp2_with fail
            refine HLD.out.mono ?_
            rintro e w3 ⟨rfl, hg⟩
            have HG := Lib.hid hg
            clear hg
            go_wp2_with fail
            go_ret
            rw [HX.out]
            exact ⟨⟨N, Nat.le_refl _, Nat.le_succ _, rfl, HG.out⟩⟩
end Go.Proofs.YtgpanlkcpnlejaaGreat
/- The document's store: appends of lines; Add. -/
namespace Go.Proofs.YtgpanlkcpnlejaaGreat
open Go.RowKit Go.Maps
set_option maxRecDepth 100000
theorem run_append_nil {w : World} (base : Nat) (t ty e : TypeId) (i : TypeInfo) (size c : Nat) (ht : Tryz.prog.underlying t = some (.slice e)) (hi : Tryz.prog.info? e = some i)
    (v : Value) (n : Nat) (xs : List Value) (hown : w.ownsRow base e size v n xs) :
    (Builtin.append_ #[t, t] ty #[v, .slice none 0 c]).run Tryz.prog w = .ok v w := by
  rcases hown.2 with ⟨rfl, rfl⟩ | ⟨g, cap, cur, rfl, _, _, hnc, _⟩
  · simp [Builtin.append_, run_underlying ht, sizeOf, typeInfo, hi, Builtin.lenOf, Builtin.firstCells]
  · simp [Builtin.append_, run_underlying ht, sizeOf, typeInfo, hi, Builtin.lenOf, Builtin.firstCells, hnc, storeCells]
/-- append of a slice that may be nil to a row of one's own. -/
theorem wpList_append_any {w : World} {ops : Array Oper} {rest : List Oper} {o : Oper} {a : Act} {Q : Exit → Act → World → Prop} (hgd : o.guard = none) (s x : Operand) (t : TypeId)
    (ho : o.op = .call { callee := .builtin .append, args := #[s, x], argTypes := #[t, t] })
    (base : Nat) (e : TypeId) (i : TypeInfo) (z : Value) (size bytes : Nat) (ht : Tryz.prog.underlying t = some (.slice e)) (hi : Tryz.prog.info? e = some i) (hz : i.zero = some z)
    (hsize : i.size = size) (hby : i.bytes = bytes) (hzs : z.cells.size = size) (hsz : 0 < size)
    (v : Value) (n : Nat) (xs : List Value) (hs : a.eval s = v) (hown : w.ownsRow base e size v n xs)
    (A : Option Addr) (m c : Nat) (news : List Value) (hx : a.eval x = .slice A m c) (hl : news.length = m * size) (hA : A = none → m = 0) (hnews : ∀ ad, A = some ad → ∀ j u, news[j]? = some u → w.cell? (ad.add j) = some u) (h1 : ∀ u ∈ news, u.oneCell' = true)
    (h63 : n + m ≤ maxLen) (hbytes : (n + m) * bytes ≤ 140737488355328) (hbase : base ≤ w.heap.size)
    (h : ∀ v' w', w'.ownsRow base e size v' (n + m) (xs ++ news) → w.grownBy w' v.ownBlock → wpList Tryz.prog ops Q rest (a.put o.dst v') w') : wpList Tryz.prog ops Q (o :: rest) a w := by
  rcases A with _ | ad
  · obtain rfl := hA rfl
    have hn : news = [] := List.eq_nil_of_length_eq_zero (by omega)
    subst hn
    refine wpList_plain hgd fun K hK => ?_
    have hrun := run_append_nil (w := w) base t o.type e i size c ht hi v n xs hown
    unfold Oper.wp
    simp [execOp, ho, resolve, invoke, builtin, hs, hx, hrun, Result.andThen]
    exact hK _ _ (h v w (by simpa using hown) (World.grownBy.refl _ _))
  · exact wpList_append_own w hgd s x t ho base e i z size bytes ht hi hz hsize hby hzs hsz v n xs hs hown ad m c news hx hl (hnews ad rfl) h1 h63 hbytes hbase (fun v' w' h1 h2 _ => h v' w' h1 h2)
/-- The cells of lines that are read. -/
theorem LnsAt.src {P : TypeId → Nat → Prop} {w : World} {A : Option Addr} {n : Nat} {ls : List Ln} (h : LnsAt P w A n ls) : ∃ rs : List RL, (rs.flatMap rlCs).length = n * 5 ∧ All2 (RlIs P w) rs ls ∧ ∀ ad, A = some ad → ∀ j u, (rs.flatMap rlCs)[j]? = some u → w.cell? (ad.add j) = some u := by
  obtain ⟨⟨rs, hr, ha⟩, hlen⟩ := h
  have hl : (rs.flatMap rlCs).length = n * 5 := by rw [fm_len rl_len, ha.1, hlen]
  refine ⟨rs, hl, ha, fun ad hA j u hu => ?_⟩
  have hj := (List.getElem?_eq_some_iff.1 hu).1
  obtain ⟨b, off, hA', _, hc⟩ := hr.2 (by omega)
  rw [hA] at hA'
  obtain rfl := Option.some.inj hA'
  rw [cell_add]
  exact hc j u hu
theorem All2.app {α β : Type} {R : α → β → Prop} {xs xs' : List α} {ys ys' : List β} (h : All2 R xs ys) (k : All2 R xs' ys') : All2 R (xs ++ xs') (ys ++ ys') := by
  refine ⟨by rw [List.length_append, List.length_append, h.1, k.1], fun i a b ha hb => ?_⟩
  have hl := h.1
  by_cases hi : i < xs.length
  · rw [List.getElem?_append_left hi] at ha
    rw [List.getElem?_append_left (by omega)] at hb
    exact h.2 i a b ha hb
  · rw [List.getElem?_append_right (by omega)] at ha hb
    rw [← hl] at hb
    exact k.2 _ a b ha hb
end Go.Proofs.YtgpanlkcpnlejaaGreat
/- The document's store: Add. -/
namespace Go.Proofs.YtgpanlkcpnlejaaGreat
open Go.RowKit Go.Maps
set_option maxRecDepth 100000
theorem DB.up {F : Nat → Prop} {bx : Nat} {L : List Reg} {N : Nat} {M : Nat → Mc} {no eo : Option Addr} {nc ec : Nat} {es : List De} {w w' : World} (h : DB F bx L N M no nc eo ec es w) (hb : Below w.heap.size w w') : DB (Up F w w') bx L N M no nc eo ec es w' := by
  have h' := h.fx (Fx.of h.hf hb)
  exact ⟨h'.cell, h'.row, h'.ent, fun i e he => (h'.es i e he).mono fun i hi => .inl hi, fun g hg => .inl (h'.nF g hg), fun g hg => .inl (h'.eF g hg), .inl h'.fb, fun i hi => by
    rcases hi with hi | hi
    · exact h'.hf i hi
    · exact hi.2, h'.asc, h'.ok, h'.len⟩
/-- An entry is set behind new blocks. -/
theorem set_done {F : Nat → Prop} {bx : Nat} {L : List Reg} {N : Nat} {M : Nat → Mc} {no : Option Addr} {nc ec : Nat} {es : List De} {w w' : World} {g i : Nat} (h : DB F bx L N M no nc (some ⟨g, 0, none⟩) ec es w) (hb : Below w.heap.size w w') (hi : i < N) (e : De) (m : Mc) (he : DeIs (Up F w w') w' e m) :
    DG F bx L N (updM M i m) w ((w'.setCell ⟨g, i * 2, none⟩ (.int .i64 e.k)).setCell ⟨g, i * 2 + 1, none⟩ (.slice e.lo e.ln e.lc)) :=
  (DG.below ⟨no, nc, _, ec, es, h⟩ hb).trans ((h.up hb).setEnt hi e m he h.elen) h.hf
/-- Old lines and new ones, in a row of one's own. -/
theorem wh_at {F : Nat → Prop} {w w2 w3 w4 w5 : World} (hF : ∀ k, F k → k < w.heap.size) {rs rs4 : List RL} {lso ls : List Ln} {v1 : Value} {o2 : Option Addr} {ln n c2 B k : Nat} {xs : List Value}
    (hb5 : Below w.heap.size w w5) (hb2 : Below w.heap.size w w2) (ha : All2 (RlIs (FT F w2) w2) rs lso) (ha4 : All2 (RlIs (NT w3.heap.size w4) w4) rs4 ls) (hz : w.heap.size ≤ w3.heap.size)
    (hown1 : w4.ownsRow B 39 5 v1 k xs) (hg : w4.grownBy w5 v1.ownBlock) (hown2 : w5.ownsRow B 39 5 (.slice o2 (0 + ln + n) c2) (0 + ln + n) ([] ++ rs.flatMap rlCs ++ rs4.flatMap rlCs)) (hB : w.heap.size ≤ B)
    (hlo : lso.length = ln) (hls : ls.length = n) (hok : lso.all okLn = true) (hok' : ls.all okLn = true) (hfit : ln + n ≤ 2000) : DeIs (Up F w w5) w5 ⟨2, o2, ln + n, c2⟩ ⟨2, ⟨#[]⟩, lso ++ ls⟩ := by
  rw [Nat.zero_add] at hown2
  have hx : ([] ++ rs.flatMap rlCs ++ rs4.flatMap rlCs) = (rs ++ rs4).flatMap rlCs := by rw [List.flatMap_append, List.nil_append]
  rw [hx] at hown2
  obtain ⟨o, cap, hv, hc1, hc2⟩ := row_shape hown2
  injection hv with _ _ hv3
  subst hv3
  refine ⟨rfl, ⟨⟨rs ++ rs4, ReadsP.of_own hown2 (fun g cs hg' hb' => ⟨.inr ⟨Nat.le_trans hB hb', lt_of_block hg'⟩, cs, _, hg'⟩), All2.app (ha.mono fun r l hr => hr.keep fun e he b hb => ?_) (ha4.mono fun r l hr => hr.keep fun e he b hb => ?_)⟩, ?_⟩, own_none hown2, hc1, hc2, .inr ⟨rfl, rfl, ?_, ?_⟩⟩
  · have hbl := hF b hb.1
    have h1 := (hb5.block b hbl).trans (hb2.block b hbl).symm
    exact ⟨h1, .inl hb.1, hb.2.keep h1⟩
  · have h1 := hg.block b hb.2.lt (fun e' => (hb.2.ne (own_tag hown1 e'.symm).1 (by rcases he with rfl | rfl <;> decide)) rfl)
    have h2 := hb.2.keep h1
    exact ⟨h1, .inr ⟨Nat.le_trans hz hb.1, h2.lt⟩, h2⟩
  · show ln + n = (mLines ⟨2, ⟨#[]⟩, lso ++ ls⟩).length
    unfold mLines
    rw [if_neg (show ¬ ((2 : Int) = 1) by decide), List.length_append, hlo, hls]
  · show (lso ++ ls).length ≤ 2000
    rw [List.length_append, hlo, hls]; exact hfit
  · show (lso ++ ls).all okLn = true
    rw [List.all_append, hok, hok']; rfl
theorem add_mac (L : List Reg) (M : Nat → Mc) (nm : List UInt8) (ls : List Ln) (N : Nat) (hm : (mOf L M nm).ls = []) : addS L M nm ls N = macS L M nm ls N := by
  unfold addS macS
  rw [hm]
  simp only [List.length_nil, Nat.zero_add, List.nil_append]
theorem mc_ls0 {m : Mc} (h : mcOk m) (hk : m.kind ≠ 2) : m.ls = [] := by
  rcases h with ⟨_, _, h1⟩ | ⟨h1, _⟩
  · exact h1
  · exact absurd h1 hk
/-- A macro's entry: its lines. -/
theorem DeIs.mac {F : Nat → Prop} {w : World} {lo : Option Addr} {ln lc : Nat} {m : Mc} (h : DeIs F w ⟨m.kind, lo, ln, lc⟩ m) (hk : m.kind = 2) : LnsAt (FT F w) w lo ln m.ls ∧ m.ls.length ≤ 2000 ∧ m.ls.all okLn = true ∧ m.tx = ⟨#[]⟩ := by
  have hat := h.at_
  have hl : mLines m = m.ls := by unfold mLines; rw [if_neg (by rw [hk]; decide)]
  rw [hl] at hat
  rcases h.ok with ⟨h1, _⟩ | ⟨_, h2, h3, h4⟩
  · rw [hk] at h1; cases h1
  · exact ⟨hat, h3, h4, h2⟩
theorem lines_to {P : TypeId → Nat → Prop} {w W : World} {A : Option Addr} {n : Nat} {ls : List Ln} (hl : LnsAt P w A n ls) (hP : ∀ e b, P e b → b < w.heap.size) (hb : Below w.heap.size w W) : LnsAt (fun _ b => b < w.heap.size) W A n ls :=
  hl.keep fun e b hb' => ⟨hb.block b (hP e b hb'), hP e b hb'⟩
set_option maxHeartbeats 8000000 in
theorem rAdd_any {F : Nat → Prop} {bx : Nat} {L : List Reg} {N : Nat} {M : Nat → Mc} {w : World} (h : DK F bx L N M w) (s : ByteArray) {P : TypeId → Nat → Prop} {A : Option Addr} {n c : Nat} {ls : List Ln} (hl : LnsAt P w A n ls) (hP : ∀ e b, P e b → b < w.heap.size) (hn47 : n ≤ 2000000) (htx : ∀ l ∈ ls, l.tx.size ≤ 9223372036854775807) (hN : N ≤ 1000) : Calls Tryz.prog 27 #[BP bx, .string s, .slice A n c] w (DtP F bx N (addS L M s.data.toList ls N) w) := by
  have HNO := Lib.hid (rno_any h)
  have HT := Lib.hid (rAreLines_any (c := c) hl hP (by omega) htx)
  have HI := Lib.hid (fun W => rIsName_any s W)
  have HF := Lib.hid (fun W (hb : Below w.heap.size w W) => rfind_any (h.fx (Fx.of h.hf hb)) s)
  have HD := Lib.hid h
  have HL := Lib.hid hl
  have HP := Lib.hid hP
  have HM := Lib.hid (fun W (hb : Below w.heap.size w W) => rMacro_any (c := c) (DG.below h hb).dk s (lines_to hl hP hb) (fun _ b hb' => Nat.lt_of_lt_of_le hb' hb.size) hn47 htx hN)
  have HLE := Lib.hid hl.len
  cases hok : ls.all okLn with
  | false =>
    rw [hok] at HT
    unfold addS
    rw [hok, if_neg (by decide)]
    clear h hok hl hP htx
    go_enter Tryz.func27, Tryz.ntmps27
    go_wp2_with fail
    refine HNO.out.mono ?_
    rintro e w1 ⟨rfl, rfl⟩
    go_wp2_with fail
    refine HT.out.mono ?_
    rintro e w1 ⟨rfl, hb⟩
    have HB := Lib.hid hb
    clear hb
    go_wp2_with fail
    go_ret
    exact DtP.err_below HD.out HB.out
  | true =>
    rw [hok] at HT
    have HOK := Lib.hid hok
    cases hn : okNm s.data.toList with
    | false =>
      have he : addS L M s.data.toList ls N = macS L M s.data.toList ls N := by
        unfold addS macS
        rw [hok, hn, if_pos rfl, if_pos rfl]; rfl
      rw [he]
      rw [hn] at HI
      clear h hok hn he hl hP htx
      go_enter Tryz.func27, Tryz.ntmps27
      go_wp2_with fail
      refine HNO.out.mono ?_
      rintro e w1 ⟨rfl, rfl⟩
      go_wp2_with fail
      refine HT.out.mono ?_
      rintro e w1 ⟨rfl, hb⟩
      have HB := Lib.hid hb
      clear hb
      go_wp2_with fail
      refine (HI.out _).mono ?_
      rintro e w2 ⟨rfl, rfl⟩
      go_wp2_with fail
      refine (HM.out _ HB.out).mono ?_
      rintro e w3 ⟨N', h1, h2, rfl, hg⟩
      have HR : Hid (DtP F bx N (macS L M s.data.toList ls N) w (.returned (.int .i64 (macS L M s.data.toList ls N).1)) w3) := Lib.hid ⟨N', h1, h2, rfl, (DG.below HD.out HB.out).trans hg HD.out.hf⟩
      clear hg h1 h2
      go_wp2_with fail
      go_ret
      exact HR.out
    | true =>
      rw [hn] at HI
      unfold fndS at HF
      cases hh : hasS L s.data.toList with
      | false =>
        rw [hh] at HF
        simp only [Bool.false_eq_true, if_false] at HF
        have he := add_mac L M s.data.toList ls N (by unfold mOf; rw [hh, if_neg (by decide)])
        rw [he]
        clear h hok hn he hh hl hP htx
        go_enter Tryz.func27, Tryz.ntmps27
        go_wp2_with fail
        refine HNO.out.mono ?_
        rintro e w1 ⟨rfl, rfl⟩
        go_wp2_with fail
        refine HT.out.mono ?_
        rintro e w1 ⟨rfl, hb⟩
        have HB := Lib.hid hb
        clear hb
        go_wp2_with fail
        refine (HI.out _).mono ?_
        rintro e w2 ⟨rfl, rfl⟩
        go_wp2_with fail
        refine (HF.out _ HB.out).mono ?_
        rintro e w2 ⟨rfl, rfl⟩
        go_wp2_with fail
        refine (HM.out _ HB.out).mono ?_
        rintro e w3 ⟨N', h1, h2, rfl, hg⟩
        have HR : Hid (DtP F bx N (macS L M s.data.toList ls N) w (.returned (.int .i64 (macS L M s.data.toList ls N).1)) w3) := Lib.hid ⟨N', h1, h2, rfl, (DG.below HD.out HB.out).trans hg HD.out.hf⟩
        clear hg h1 h2
        go_wp2_with fail
        go_ret
        exact HR.out
      | true =>
        rw [hh] at HF
        simp only [if_true] at HF
        have hmo := mOf_has (M := M) hh
        obtain ⟨no, nc, eo, ec, es, h⟩ := h
        have hv := (h.ok _ (getS_mem L _ hh)).2
        obtain ⟨v, hvv⟩ : ∃ v, v = (getS L s.data.toList).v := ⟨_, rfl⟩
        rw [← hvv] at HF hmo hv
        obtain ⟨_, _, c2⟩ := h.c
        obtain ⟨g, lo, ln, lc, rfl, hgl, hde, e0, e1, f0, f1⟩ := h.ent_at v hv
        have dv : decide ((v : Int) < 0) = false := decide_eq_false (by omega)
        have dv2 : decide (v < N) = true := decide_eq_true hv
        have hbx := h.hf _ h.fb
        have HBX := Lib.hid hbx
        have HGL := Lib.hid hgl
        by_cases hk : (M v).kind = 2
        · obtain ⟨hat, hz2, hok2, htx0⟩ := hde.mac hk
          rw [hk] at e0
          have HDB := Lib.hid h
          have HLO := Lib.hid hat.len
          have HC : Hid (∀ W, Below w.heap.size w W → W.cell? ⟨bx, 2, none⟩ = some (.slice (some ⟨g, 0, none⟩) N ec) ∧ W.cell? ⟨g, v * 2, none⟩ = some (.int .i64 2) ∧ W.cell? ⟨g, v * 2 + 1, none⟩ = some (.slice lo ln lc) ∧ W.frozen? ⟨g, v * 2, none⟩ = false ∧ W.frozen? ⟨g, v * 2 + 1, none⟩ = false ∧ g < W.heap.size) := Lib.hid fun W hb =>
            ⟨(hb.cell (p := ⟨bx, 2, none⟩) hbx).trans c2, (hb.cell (p := ⟨g, v * 2, none⟩) hgl).trans e0, (hb.cell (p := ⟨g, v * 2 + 1, none⟩) hgl).trans e1, (hb.frozen (p := ⟨g, v * 2, none⟩) hgl).trans f0, (hb.frozen (p := ⟨g, v * 2 + 1, none⟩) hgl).trans f1, Nat.lt_of_lt_of_le hgl hb.size⟩
          have hlo := hat.len
          have hln2 : ln ≤ 2000 := by rw [hlo]; exact hz2
          have HAT := Lib.hid hat
          have HNIL := Lib.hid hde.nil
          have HOK2 := Lib.hid hok2
          have hx : addS L M s.data.toList ls N = if ln + n ≤ 2000 then (0, L, updM M v ⟨2, ⟨#[]⟩, (M v).ls ++ ls⟩) else (2, L, M) := by
            unfold addS putTo
            rw [hok, hn, hh, hmo, ← hvv, if_pos rfl, if_pos rfl, if_pos rfl, ← hlo, ← hl.len]
          have HX := Lib.hid hx
          have HV := Lib.hid hv
          have HBXL := Lib.hid (okLn_bx hok)
          rw [hx]
          obtain ⟨i0, hi0, hz0, hz1, hz2'⟩ := info_parts info_line
          clear h hok hn hh hmo hvv hde hk hat hz2 hok2 htx0 c2 e0 e1 f0 f1 hgl hbx hl hP htx hlo hx
          go_enter Tryz.func27, Tryz.ntmps27
          go_wp2_with fail
          refine HNO.out.mono ?_
          rintro e w1 ⟨rfl, rfl⟩
          go_wp2_with fail
          refine HT.out.mono ?_
          rintro e w1 ⟨rfl, hb⟩
          have HB := Lib.hid hb
          obtain ⟨c2, e0, e1, f0, f1, hgl⟩ := HC.out _ hb
          have hb2 := hb.alloc hb.size (.cells #[] 39)
          have HB2 := Lib.hid hb2
          obtain ⟨c2', e0', e1', _, _, _⟩ := HC.out _ hb2
          obtain ⟨rs, hrl, hra, hrs⟩ := (HAT.out.keep (w' := w1.alloc (.cells #[] 39)) (P' := FT F (w1.alloc (.cells #[] 39))) fun e b hb' => ⟨hb2.block b (HD.out.hf b hb'.1), hb'.1, hb'.2.keep (hb2.block b (HD.out.hf b hb'.1))⟩).src
          have HRL := Lib.hid hrl
          have HRA := Lib.hid hra
          have HRS := Lib.hid hrs
          have HROW0 := Lib.hid (World.ownsRow_made (base := w1.heap.size) (e := 39) (size := 5) w1 #[] 0 (Nat.le_refl _) (by unfold maxLen; omega) rfl)
          clear hb hrl hra hrs hb2
          go_wp2_with fail
          refine (HI.out _).mono ?_
          rintro e w2 ⟨rfl, rfl⟩
          go_wp2_with fail
          refine (HF.out _ HB.out).mono ?_
          rintro e w2 ⟨rfl, rfl⟩
          go_wp2_with (first
            | (at_builtin; refine wpList_append_any rfl _ _ 31 rfl w1.heap.size 39 i0 _ 5 64 Tryz.underlying31 hi0 hz0 hz1 hz2' rfl (by decide) _ _ _ rfl HROW0.out lo ln lc (rs.flatMap rlCs) rfl HRL.out HNIL.out HRS.out (fun u hu => fm_one rl_one rs u hu) (by unfold maxLen; omega) (by omega) (by simp) ?_
               intro v1 w3 hown1 hgrow1
               have hg1 : (w1.alloc (.cells #[] 39)).grownBy w3 (some w1.heap.size) := hgrow1
               have hb3 := HB2.out.grown hg1 HB2.out.size (fun k e => by cases e; exact HB.out.size)
               have HB3 := Lib.hid hb3
               have HO1 := Lib.hid hown1
               have HOA := Lib.hid (rOwnAll_any (w := w3) (c := c) (lines_to HL.out HP.out hb3) (fun _ b hb' => Nat.lt_of_lt_of_le hb' hb3.size) (by omega) HBXL.out)
               have HZ13 := Lib.hid (show w1.heap.size ≤ w3.heap.size by have := hg1.size; simp at this; omega)
               clear hgrow1 hg1 hown1 hb3)
            )
          refine HOA.out.mono ?_
          rintro e w4 ⟨⟨A4, c4, rfl, hl4, hA4, hc4, hc9⟩, hb4⟩
          obtain ⟨rs4, hrl4, hra4, hrs4⟩ := hl4.src
          have HRL4 := Lib.hid hrl4
          have HRA4 := Lib.hid hra4
          have HRS4 := Lib.hid hrs4
          have HA4 := Lib.hid hA4
          have HB4 := Lib.hid (HB3.out.trans (hb4.mono HB3.out.size))
          have HO4 := Lib.hid (own_kept HO1.out (Kept.of (S := fun _ => False) hb4) (fun _ _ h => h))
          have HZ14 := Lib.hid (Nat.le_trans HZ13.out hb4.size)
          clear hl4 hA4 hc4 hc9 hb4 hrl4 hra4 hrs4
          go_wp2_with (first
            | (at_builtin; refine wpList_append_any rfl _ _ 31 rfl w1.heap.size 39 i0 _ 5 64 Tryz.underlying31 hi0 hz0 hz1 hz2' rfl (by decide) _ _ _ rfl HO4.out A4 n c4 (rs4.flatMap rlCs) rfl HRL4.out HA4.out HRS4.out (fun u hu => fm_one rl_one rs4 u hu) (by unfold maxLen; omega) (by omega) HZ14.out ?_
               intro v2 w5 hown2 hgrow2
               obtain ⟨o2, cap2, rfl, _, _⟩ := row_shape hown2
               have hb5 := HB4.out.grown hgrow2 HB4.out.size (fun k e => Nat.le_trans HB.out.size (own_tag HO4.out e).2)
               have HB5 := Lib.hid hb5
               have HO5 := Lib.hid hown2
               have HG5 := Lib.hid hgrow2
               obtain ⟨c5, e5, e6, f5, f6, hg5⟩ := HC.out _ hb5
               clear hgrow2 hown2 hb5)
            )
          · go_ret
            exact DtP.err_below HD.out HB5.out
          · rename_i hfit
            have he := wh_at (F := F) HD.out.hf HB5.out HB2.out HRA.out HRA4.out HB3.out.size HO4.out HG5.out HO5.out HB.out.size HLO.out.symm HLE.out.symm HOK2.out HOK.out (by omega)
            have hG := set_done HDB.out HB5.out HV.out _ _ he
            go_ret
            exact ⟨⟨N, Nat.le_refl _, Nat.le_succ _, rfl, hG⟩⟩
        · have he := add_mac L M s.data.toList ls N (by rw [hmo]; exact mc_ls0 hde.ok hk)
          rw [he]
          have dk : ((M v).kind == (2 : Int)) = false := by simpa using hk
          have HC : Hid (∀ W, Below w.heap.size w W → W.cell? ⟨bx, 2, none⟩ = some (.slice (some ⟨g, 0, none⟩) N ec) ∧ W.cell? ⟨g, v * 2, none⟩ = some (.int .i64 (M v).kind)) := Lib.hid fun W hb =>
            ⟨(hb.cell (p := ⟨bx, 2, none⟩) hbx).trans c2, (hb.cell (p := ⟨g, v * 2, none⟩) hgl).trans e0⟩
          generalize (M v).kind = kd at dk HC
          clear h hok hn he hh hmo hvv hde hk c2 e0 e1 f0 f1 hgl hbx hl hP htx
          go_enter Tryz.func27, Tryz.ntmps27
          go_wp2_with fail
          refine HNO.out.mono ?_
          rintro e w1 ⟨rfl, rfl⟩
          go_wp2_with fail
          refine HT.out.mono ?_
          rintro e w1 ⟨rfl, hb⟩
          have HB := Lib.hid hb
          obtain ⟨c2, e0⟩ := HC.out _ hb
          clear hb
          go_wp2_with fail
          refine (HI.out _).mono ?_
          rintro e w2 ⟨rfl, rfl⟩
          go_wp2_with fail
          refine (HF.out _ HB.out).mono ?_
          rintro e w2 ⟨rfl, rfl⟩
          go_wp2_with fail
          refine (HM.out _ HB.out).mono ?_
          rintro e w3 ⟨N', h1, h2, rfl, hg⟩
          have HR : Hid (DtP F bx N (macS L M s.data.toList ls N) w (.returned (.int .i64 (macS L M s.data.toList ls N).1)) w3) := Lib.hid ⟨N', h1, h2, rfl, (DG.below HD.out HB.out).trans hg HD.out.hf⟩
          clear hg h1 h2
          go_wp2_with fail
          go_ret
          exact HR.out
end Go.Proofs.YtgpanlkcpnlejaaGreat
/- The document's store: size and cut of an entry. -/
namespace Go.Proofs.YtgpanlkcpnlejaaGreat
open Go.RowKit Go.Maps
set_option maxRecDepth 100000
theorem lenM_str {m : Mc} (h : m.kind = 1) : lenM m = m.tx.size := by unfold lenM; rw [if_pos h]
theorem lenM_mac {m : Mc} (h : m.kind = 2) : lenM m = m.ls.length := by unfold lenM; rw [if_neg (by rw [h]; decide)]
theorem mc_kind {m : Mc} (h : mcOk m) : m.kind = 1 ∨ m.kind = 2 := by
  rcases h with ⟨h, _⟩ | ⟨h, _⟩
  · exact .inl h
  · exact .inr h
theorem rsize_any {F : Nat → Prop} {w : World} {lo : Option Addr} {ln lc : Nat} {m : Mc} (h : DeIs F w ⟨m.kind, lo, ln, lc⟩ m) : Calls Tryz.prog 60 #[.agg #[.int .i64 m.kind, .slice lo ln lc]] w fun e w' => e = .returned (.int .i64 (lenM m)) ∧ Below w.heap.size w w' := by
  have HB := Lib.hid ((Below.refl w.heap.size w).alloc (Nat.le_refl _) (.cells #[.int .i64 m.kind, .slice lo ln lc] 62))
  rcases mc_kind h.ok with hk | hk
  · obtain ⟨b, off, rfl, hbl, ct, rfl, hmt⟩ := h.text hk
    rw [lenM_str hk, hk]
    rw [hk] at HB
    have hz := okTx_size hmt
    have ct' : (w.alloc (.cells #[.int .i64 1, .slice (some ⟨b, off, none⟩) 1 lc] 62)).cell? ⟨b, off, none⟩ = some (.string m.tx) := (World.cell?_alloc_lt w _ ⟨b, off, none⟩ hbl).trans ct
    generalize m.tx = tx at ct ct' hz
    clear h hk hmt
    go_enter Tryz.func60, Tryz.ntmps60
    go_wp2_with fail
    go_ret
    exact ⟨rfl, HB.out⟩
  · obtain ⟨hat, _⟩ := h.mac hk
    rw [lenM_mac hk, hk, ← hat.len]
    rw [hk] at HB
    clear h hk hat
    go_enter Tryz.func60, Tryz.ntmps60
    go_wp2_with fail
    go_ret
    exact ⟨rfl, HB.out⟩
/-- What cut leaves. -/
structure CutP (F : Nat → Prop) (m : Mc) (x y : Nat) (w : World) (e : Ending) (w' : World) : Prop where
  ex : ∃ lo ln lc, e = .returned (.agg #[.int .i64 (keepM m x y).kind, .slice lo ln lc]) ∧ DeIs (Up F w w') w' ⟨(keepM m x y).kind, lo, ln, lc⟩ (keepM m x y)
  below : Below w.heap.size w w'
theorem okTx_cut {t : ByteArray} (h : okTx t.data.toList = true) (x y : Nat) : okTx (t.extract x y).data.toList = true := by
  unfold okTx at *
  rw [ib_any] at *
  simp only [Bool.and_eq_true, decide_eq_true_eq, Bool.not_eq_true'] at *
  rw [ByteArray.data_extract, Array.toList_extract, List.extract_eq_take_drop]
  refine ⟨?_, ?_⟩
  · rw [List.length_take, List.length_drop]; omega
  · rw [List.any_eq_false] at *
    intro c hc
    exact h.2 c (List.mem_of_mem_drop (List.mem_of_mem_take hc))
theorem cut_end {a : Act} {W' : World} {g : Nat} {c0 c1 : Value} {Q : Ending → World → Prop} (hd : a.defers = []) (h2 : a.tmps.getD 6 undef = .pointer (some ⟨g, 0, none⟩))
    (hg : W'.heap[g]? = some (.cells #[c0, c1] 62 (0, 0))) (hQ : Q (.returned (.agg #[c0, c1])) W') : bodyPost Tryz.prog Tryz.f61 Q Exit.ret a W' := by
  have h2' : a.tmps[6]?.getD undef = .pointer (some ⟨g, 0, none⟩) := by simpa using h2
  refine bodyPost_ret (v := .agg #[c0, c1]) ?_ hd hQ
  obtain ⟨e0, e1⟩ := two_cells hg
  simp [results, Tryz.results61, h2', go_sem, e0, e1]
/-- The result is laid ahead of the line. -/
theorem cut_line {F : Nat → Prop} {w : World} {a0 a1 : Value} (t : ByteArray) (ht : okTx t.data.toList = true) (x y : Nat) (m : Mc) (hm : keepM m x y = ⟨1, t, []⟩) {a : Act} (hd : a.defers = []) (h2 : a.tmps.getD 6 undef = .pointer (some ⟨w.heap.size + 1, 0, none⟩)) :
    bodyPost Tryz.prog Tryz.f61 (CutP F m x y w) Exit.ret a (((w.alloc (.cells #[a0, a1] 62)).alloc (.cells #[.int .i64 1, .slice (some ⟨w.heap.size + 1 + 1, 0, none⟩) 1 1] 62)).alloc (.cells #[.string t, .bool false, .int .i64 0, .int .i64 0, .slice none 0 0] 39)) := by
  obtain ⟨W, hW⟩ : ∃ W, W = (w.alloc (.cells #[a0, a1] 62)).alloc (.cells #[.int .i64 1, .slice (some ⟨w.heap.size + 1 + 1, 0, none⟩) 1 1] 62) := ⟨_, rfl⟩
  have hz : W.heap.size = w.heap.size + 1 + 1 := by rw [hW]; simp
  have hn : W.heap[w.heap.size + 1]? = some (.cells #[.int .i64 1, .slice (some ⟨w.heap.size + 1 + 1, 0, none⟩) 1 1] 62 (0, 0)) := by
    have := heap_alloc_new (w.alloc (.cells #[a0, a1] 62)) (.cells #[.int .i64 1, .slice (some ⟨w.heap.size + 1 + 1, 0, none⟩) 1 1] 62)
    rw [hW]
    simpa using this
  have hb : Below w.heap.size w W := by
    rw [hW]
    exact ((Below.refl w.heap.size w).alloc (Nat.le_refl _) _).alloc (by simp) _
  rw [← hW]
  have hl := line_at (F := Up F w W) (w := W) t ht
  have hb2 := hb.alloc (by omega) (.cells #[.string t, .bool false, .int .i64 0, .int .i64 0, .slice none 0 0] 39)
  refine cut_end hd h2 ((Below.heap_alloc _ _ _ (by omega)).trans hn) ⟨⟨some ⟨w.heap.size + 1 + 1, 0, none⟩, 1, 1, by rw [hm], ?_⟩, hb2⟩
  rw [hm]
  rw [hz] at hl
  refine hl.mono fun k hk => ?_
  have := hb2.size
  have e : (W.alloc (.cells #[.string t, .bool false, .int .i64 0, .int .i64 0, .slice none 0 0] 39)).heap.size = W.heap.size + 1 := by simp
  rcases hk with (hk | hk) | hk
  · exact .inl hk
  · exact .inr ⟨hk.1, by omega⟩
  · exact .inr ⟨by omega, hk.2⟩
/-- The lines that stay lie in a new row. -/
theorem cut_rows {F : Nat → Prop} {w W2 w3 : World} (hF : ∀ k, F k → k < w.heap.size) {m : Mc} {x y : Nat} {ls : List Ln} (hm : keepM m x y = ⟨2, ⟨#[]⟩, ls⟩) {rs : List RL} {o1 : Option Addr} {n cap1 B : Nat} {c0 c1 : Value} (hra : All2 (RlIs (FT F W2) W2) rs ls) (hb2 : Below w.heap.size w W2) (hb3 : Below w.heap.size w w3)
    (hown : w3.ownsRow B 39 5 (.slice o1 (0 + n) cap1) (0 + n) ([] ++ rs.flatMap rlCs)) (hB : w.heap.size ≤ B) (hcell : w3.heap[w.heap.size + 1]? = some (.cells #[c0, c1] 62 (0, 0))) (hsz : ls.length ≤ 2000) (hok : ls.all okLn = true) (hn : (rs.flatMap rlCs).length = n * 5) {a : Act} (hd : a.defers = []) (h2 : a.tmps.getD 6 undef = .pointer (some ⟨w.heap.size + 1, 0, none⟩)) :
    bodyPost Tryz.prog Tryz.f61 (CutP F m x y w) Exit.ret a ((w3.setCell ⟨w.heap.size + 1, 0, none⟩ (.int .i64 2)).setCell ⟨w.heap.size + 1, 1, none⟩ (.slice o1 n cap1)) := by
  rw [Nat.zero_add, List.nil_append] at hown
  have hnl : n = ls.length := by
    rw [fm_len rl_len] at hn
    have := hra.1; omega
  obtain ⟨o, cap, hv, hc1, hc2⟩ := row_shape hown
  injection hv with _ _ hv3
  subst hv3
  have hct : Tg w3 62 (w.heap.size + 1) := ⟨_, _, hcell⟩
  obtain ⟨W', hW'⟩ : ∃ W', W' = (w3.setCell ⟨w.heap.size + 1, 0, none⟩ (.int .i64 2)).setCell ⟨w.heap.size + 1, 1, none⟩ (.slice o1 n cap1) := ⟨_, rfl⟩
  have hk : ∀ k, k ≠ w.heap.size + 1 → W'.heap[k]? = w3.heap[k]? := fun k hk => by
    rw [hW']; exact (Below.heap_setCell _ _ _ _ hk).trans (Below.heap_setCell _ _ _ _ hk)
  have hsz' : W'.heap.size = w3.heap.size := by rw [hW']; simp [World.setCell]
  have hb' : Below w.heap.size w W' := by
    rw [hW']
    exact (hb3.setCell (p := ⟨w.heap.size + 1, 0, none⟩) (Nat.le_succ _) _).setCell (p := ⟨w.heap.size + 1, 1, none⟩) (Nat.le_succ _) _
  have hc' : W'.heap[w.heap.size + 1]? = some (.cells #[.int .i64 2, .slice o1 n cap1] 62 (0, 0)) := by
    rw [hW']
    simp [World.setCell, Array.getElem?_modify, hcell]
  have ho' : W'.ownsRow B 39 5 (.slice o1 n cap1) n (rs.flatMap rlCs) := by
    refine ⟨hown.1, ?_⟩
    rcases hown.2 with hx | ⟨g, cap, cur, hv, hbg, hg, rest⟩
    · exact .inl hx
    · exact .inr ⟨g, cap, cur, hv, hbg, (hk g (Tg.ne (w := w3) (e := 39) ⟨_, _, hg⟩ hct (by decide))).trans hg, rest⟩
  rw [← hW']
  refine cut_end hd h2 hc' ⟨⟨o1, n, cap1, by rw [hm], ?_⟩, hb'⟩
  rw [hm]
  refine ⟨rfl, ⟨⟨rs, ReadsP.of_own ho' (fun g cs hg' hb' => ⟨.inr ⟨Nat.le_trans hB hb', lt_of_block hg'⟩, cs, _, hg'⟩), hra.mono fun r l hr => hr.keep fun e he b hb => ?_⟩, ?_⟩, own_none ho', hc1, hc2, .inr ⟨rfl, rfl, hsz, hok⟩⟩
  · have hbl := hF b hb.1
    have h1 := (hb'.block b hbl).trans (hb2.block b hbl).symm
    exact ⟨h1, .inl hb.1, hb.2.keep h1⟩
  · show n = (mLines ⟨2, ⟨#[]⟩, ls⟩).length
    unfold mLines
    rw [if_neg (show ¬ ((2 : Int) = 1) by decide)]; exact hnl
set_option maxHeartbeats 2000000 in
theorem rcut_any {F : Nat → Prop} {w : World} {lo : Option Addr} {ln lc : Nat} {m : Mc} (h : DeIs F w ⟨m.kind, lo, ln, lc⟩ m) (hF : ∀ k, F k → k < w.heap.size) (x y : Nat) (hxy : x ≤ y) (hy : y ≤ lenM m) : Calls Tryz.prog 61 #[.agg #[.int .i64 m.kind, .slice lo ln lc], .int .i64 x, .int .i64 y] w (CutP F m x y w) := by
  rcases mc_kind h.ok with hk | hk
  · obtain ⟨b, off, rfl, hbl, ct, rfl, hmt⟩ := h.text hk
    rw [lenM_str hk] at hy
    have hz := okTx_size hmt
    have hm : keepM m x y = ⟨1, m.tx.extract x y, []⟩ := by unfold keepM; rw [if_pos hk]
    have hcut := okTx_cut hmt x y
    rw [hk]
    have ct' : ((w.alloc (.cells #[.int .i64 1, .slice (some ⟨b, off, none⟩) 1 lc] 62)).alloc (.cells #[.int .i64 0, .slice none 0 0] 62)).cell? ⟨b, off, none⟩ = some (.string m.tx) := (World.cell?_alloc_lt _ _ ⟨b, off, none⟩ (by simp; omega)).trans ((World.cell?_alloc_lt w _ ⟨b, off, none⟩ hbl).trans ct)
    have HM := Lib.hid hm
    have HC := Lib.hid hcut
    generalize m.tx = tx at ct ct' hz hy HM HC
    clear h hk hmt hcut hm
    go_enter Tryz.func61, Tryz.ntmps61
    go_wp2_with fail
    exact cut_line _ HC.out x y m HM.out rfl rfl
  · obtain ⟨hat, hz, hok, _⟩ := h.mac hk
    rw [lenM_mac hk] at hy
    have hm : keepM m x y = ⟨2, ⟨#[]⟩, (m.ls.take y).drop x⟩ := by unfold keepM; rw [if_neg (by rw [hk]; decide)]
    have hlen := hat.len
    have hnil : lo = none → ln = 0 := h.nil
    have hlc : ln ≤ lc := h.le
    have hc9 : (lc : Int) ≤ 9223372036854775807 := h.cap
    rw [hk]
    have hl1 : (y : Int) ≤ (lc : Int) := by omega
    have hl2 : (x : Int) ≤ (y : Int) := by omega
    have hlsz : ((m.ls.take y).drop x).length ≤ 2000 := by rw [List.length_drop, List.length_take]; omega
    have hlok : ((m.ls.take y).drop x).all okLn = true := by
      rw [List.all_eq_true] at hok ⊢
      exact fun l hl => hok l (List.mem_of_mem_take (List.mem_of_mem_drop hl))
    have hb2 : Below w.heap.size w ((w.alloc (.cells #[.int .i64 2, .slice lo ln lc] 62)).alloc (.cells #[.int .i64 0, .slice none 0 0] 62)) := ((Below.refl w.heap.size w).alloc (Nat.le_refl _) _).alloc (by simp) _
    have hy2 : y ≤ ln := by omega
    have hln2 : ln ≤ 2000 := by omega
    have HM := Lib.hid hm
    have HSZ := Lib.hid hlsz
    have HOK := Lib.hid hlok
    obtain ⟨i0, hi0, hz0, hz1, hz2⟩ := info_parts info_line
    obtain ⟨W, hW⟩ : ∃ W, W = (w.alloc (.cells #[.int .i64 2, .slice lo ln lc] 62)).alloc (.cells #[.int .i64 0, .slice none 0 0] 62) := ⟨_, rfl⟩
    rw [← hW] at hb2
    have hb3 := hb2.alloc hb2.size (.cells #[] 39)
    have HB2 := Lib.hid hb2
    have HB3 := Lib.hid hb3
    have HBW := Lib.hid hb3
    have HROW0 := Lib.hid (World.ownsRow_made (base := W.heap.size) (e := 39) (size := 5) W #[] 0 (Nat.le_refl _) (by unfold maxLen; omega) rfl)
    have hWz : W.heap.size = w.heap.size + 1 + 1 := by rw [hW]; simp
    rw [hWz] at HROW0
    by_cases hx : x = lc
    · have e0 : y = x := by omega
      have hrt := (hat.take y hy2).none_of (A' := lo)
      have HRT : LnsAt (FT F w) w lo 0 ((m.ls.take y).drop x) := by have := hrt; rw [Nat.sub_self] at this; rw [e0] at this ⊢; exact this
      obtain ⟨rs, hrl, hra, hrs⟩ := (HRT.keep (w' := W.alloc (.cells #[] 39)) (P' := FT F (W.alloc (.cells #[] 39))) fun e b hb' => ⟨hb3.block b (hF b hb'.1), hb'.1, hb'.2.keep (hb3.block b (hF b hb'.1))⟩).src
      have HRL := Lib.hid hrl
      have HRA := Lib.hid hra
      have HRS := Lib.hid hrs
      rw [hW] at HRS HROW0 HB3
      clear h hk hat hrt hrl hra hrs hm hok hlok hb2 hb3 hlen hnil hlsz hW hy hWz HRT
      go_enter Tryz.func61, Tryz.ntmps61
      go_wp2_with (first
        | (at_builtin; refine wpList_append_any rfl _ _ 31 rfl (w.heap.size + 1 + 1) 39 i0 _ 5 64 Tryz.underlying31 hi0 hz0 hz1 hz2 rfl (by decide) _ _ _ rfl HROW0.out lo 0 0 (rs.flatMap rlCs) rfl HRL.out (fun _ => rfl) HRS.out (fun u hu => fm_one rl_one rs u hu) (by unfold maxLen; omega) (by omega) (by simp) ?_
           intro v1 w3 hown1 hgrow1
           obtain ⟨o1, cap1, rfl, _, _⟩ := row_shape hown1
           have hg3 : (((w.alloc (.cells #[.int .i64 2, .slice lo ln lc] 62)).alloc (.cells #[.int .i64 0, .slice none 0 0] 62)).alloc (.cells #[] 39)).grownBy w3 (some (w.heap.size + 1 + 1)) := hgrow1
           have hb4 := HB3.out.grown hg3 HB3.out.size (fun k e => by cases e; omega)
           have hblk : w3.heap[w.heap.size + 1]? = some (.cells #[.int .i64 0, .slice none 0 0] 62 (0, 0)) := (hg3.block _ (by simp) (fun e => by injection e with e; omega)).trans ((Below.heap_alloc _ _ _ (by simp)).trans (by
             have := heap_alloc_new (w.alloc (.cells #[.int .i64 2, .slice lo ln lc] 62)) (.cells #[.int .i64 0, .slice none 0 0] 62)
             simpa using this))
           obtain ⟨k0, k1⟩ := two_cells hblk
           have hz3 : w.heap.size + 1 < w3.heap.size := lt_of_block hblk
           have fz0 : w3.frozen? ⟨w.heap.size + 1, 0, none⟩ = false := by simp [World.frozen?, hblk]
           have fz1 : w3.frozen? ⟨w.heap.size + 1, 1, none⟩ = false := by simp [World.frozen?, hblk]
           have HBK := Lib.hid hblk
           have HO1 := Lib.hid hown1
           have HB4 := Lib.hid hb4
           clear hgrow1 hg3 hown1 hb4 hblk)
        )
      exact cut_rows hF HM.out HRA.out HBW.out HB4.out HO1.out (by omega) HBK.out HSZ.out HOK.out HRL.out rfl rfl
    · have hrt := (hat.take y hy2).from x hxy
      have hn : (lo.map fun a => a.add (x * 5)) = none → y - x = 0 := fun e => by
        have := hnil (by cases lo with
          | none => rfl
          | some a => cases e)
        omega
      obtain ⟨rs, hrl, hra, hrs⟩ := (hrt.keep (w' := W.alloc (.cells #[] 39)) (P' := FT F (W.alloc (.cells #[] 39))) fun e b hb' => ⟨hb3.block b (hF b hb'.1), hb'.1, hb'.2.keep (hb3.block b (hF b hb'.1))⟩).src
      have HRL := Lib.hid hrl
      have HRA := Lib.hid hra
      have HRS := Lib.hid hrs
      have HN := Lib.hid hn
      rw [hW] at HRS HROW0 HB3
      clear h hk hat hrt hrl hra hrs hn hm hok hlok hb2 hb3 hlen hnil hlsz hW hy hWz
      go_enter Tryz.func61, Tryz.ntmps61
      go_wp2_with (first
        | (at_builtin; refine wpList_append_any rfl _ _ 31 rfl (w.heap.size + 1 + 1) 39 i0 _ 5 64 Tryz.underlying31 hi0 hz0 hz1 hz2 rfl (by decide) _ _ _ rfl HROW0.out (lo.map fun a => a.add (x * 5)) (y - x) (lc - x) (rs.flatMap rlCs) rfl HRL.out HN.out HRS.out (fun u hu => fm_one rl_one rs u hu) (by unfold maxLen; omega) (by omega) (by simp) ?_
           intro v1 w3 hown1 hgrow1
           obtain ⟨o1, cap1, rfl, _, _⟩ := row_shape hown1
           have hg3 : (((w.alloc (.cells #[.int .i64 2, .slice lo ln lc] 62)).alloc (.cells #[.int .i64 0, .slice none 0 0] 62)).alloc (.cells #[] 39)).grownBy w3 (some (w.heap.size + 1 + 1)) := hgrow1
           have hb4 := HB3.out.grown hg3 HB3.out.size (fun k e => by cases e; omega)
           have hblk : w3.heap[w.heap.size + 1]? = some (.cells #[.int .i64 0, .slice none 0 0] 62 (0, 0)) := (hg3.block _ (by simp) (fun e => by injection e with e; omega)).trans ((Below.heap_alloc _ _ _ (by simp)).trans (by
             have := heap_alloc_new (w.alloc (.cells #[.int .i64 2, .slice lo ln lc] 62)) (.cells #[.int .i64 0, .slice none 0 0] 62)
             simpa using this))
           obtain ⟨k0, k1⟩ := two_cells hblk
           have hz3 : w.heap.size + 1 < w3.heap.size := lt_of_block hblk
           have fz0 : w3.frozen? ⟨w.heap.size + 1, 0, none⟩ = false := by simp [World.frozen?, hblk]
           have fz1 : w3.frozen? ⟨w.heap.size + 1, 1, none⟩ = false := by simp [World.frozen?, hblk]
           have HBK := Lib.hid hblk
           have HO1 := Lib.hid hown1
           have HB4 := Lib.hid hb4
           clear hgrow1 hg3 hown1 hb4 hblk)
        )
      exact cut_rows hF HM.out HRA.out HBW.out HB4.out HO1.out (by omega) HBK.out HSZ.out HOK.out HRL.out rfl rfl
end Go.Proofs.YtgpanlkcpnlejaaGreat
/- The document's store: Chop. -/
namespace Go.Proofs.YtgpanlkcpnlejaaGreat
open Go.RowKit Go.Maps
set_option maxRecDepth 100000
theorem updM_self (M : Nat → Mc) (b : Nat) : updM M b (M b) = M := by
  funext k
  unfold updM
  split
  · rename_i h; rw [h]
  · rfl
theorem mc_eta {m : Mc} {k : Int} {t : ByteArray} {ls : List Ln} (h1 : m.kind = k) (h2 : m.tx = t) (h3 : m.ls = ls) : m = ⟨k, t, ls⟩ := by
  subst h1 h2 h3; rfl
theorem keep_all {m : Mc} (h : mcOk m) : keepM m 0 (lenM m) = m := by
  rcases h with ⟨hk, ht, hl⟩ | ⟨hk, ht, _, _⟩
  · rw [lenM_str hk]
    unfold keepM
    rw [if_pos hk]
    refine (mc_eta hk ?_ hl).symm
    apply ByteArray.ext
    rw [ByteArray.data_extract]
    apply Array.ext'
    rw [Array.toList_extract, List.extract_eq_take_drop, List.drop_zero, Nat.sub_zero, List.take_of_length_le (by simp)]
  · rw [lenM_mac hk]
    unfold keepM
    rw [if_neg (by rw [hk]; decide)]
    refine (mc_eta hk ht ?_).symm
    simp
theorem CutP.drew {F : Nat → Prop} {m : Mc} {x y : Nat} {w : World} {e : Ending} {w' : World} (h : CutP F m x y w.drew e w') : CutP F m x y w e w' := by
  obtain ⟨⟨lo, ln, lc, h1, h2⟩, h3⟩ := h
  exact ⟨⟨lo, ln, lc, h1, h2⟩, ⟨h3.os, h3.tape, h3.output, h3.size, h3.block⟩⟩
set_option maxHeartbeats 4000000 in
theorem rChop_any {F : Nat → Prop} {bx : Nat} {L : List Reg} {N : Nat} {M : Nat → Mc} {w : World} (h : DK F bx L N M w) (s : ByteArray) : Calls Tryz.prog 31 #[BP bx, .string s] w (DtP F bx N (choS L M s.data.toList) w) := by
  have HTH := Lib.hid (rthere_any h s)
  have HD := Lib.hid h
  cases hh : hasS L s.data.toList with
  | false =>
    rw [hh] at HTH
    simp only [Bool.false_eq_true, if_false] at HTH
    unfold choS
    rw [hh, if_neg (by decide)]
    clear h hh
    go_enter Tryz.func31, Tryz.ntmps31
    go_wp2_with fail
    refine HTH.out.mono ?_
    rintro e w1 ⟨rfl, rfl⟩
    go_wp2_with fail
    go_ret
    exact DtP.err HD.out
  | true =>
    rw [hh] at HTH
    simp only [if_true] at HTH
    unfold choS
    rw [hh, if_pos rfl]
    obtain ⟨no, nc, eo, ec, es, h⟩ := h
    have hv := (h.ok _ (getS_mem L _ hh)).2
    generalize (getS L s.data.toList).v = v at HTH hv ⊢
    obtain ⟨_, _, c2⟩ := h.c
    obtain ⟨g, lo, ln, lc, rfl, hgl, hde, e0, e1, f0, f1⟩ := h.ent_at v hv
    have dv2 : decide (v < N) = true := decide_eq_true hv
    have hbl := h.hf _ h.fb
    have HS := Lib.hid (rsize_any hde)
    have hz := lenM_le hde.ok
    have HC : Hid (∀ W, Below w.heap.size w W → W.cell? ⟨bx, 2, none⟩ = some (.slice (some ⟨g, 0, none⟩) N ec) ∧ W.cell? ⟨g, v * 2, none⟩ = some (.int .i64 (M v).kind) ∧ W.cell? ⟨g, v * 2 + 1, none⟩ = some (.slice lo ln lc) ∧ W.frozen? ⟨g, v * 2, none⟩ = false ∧ W.frozen? ⟨g, v * 2 + 1, none⟩ = false ∧ g < W.heap.size) := Lib.hid fun W hb =>
      ⟨(hb.cell (p := ⟨bx, 2, none⟩) hbl).trans c2, (hb.cell (p := ⟨g, v * 2, none⟩) hgl).trans e0, (hb.cell (p := ⟨g, v * 2 + 1, none⟩) hgl).trans e1, (hb.frozen (p := ⟨g, v * 2, none⟩) hgl).trans f0, (hb.frozen (p := ⟨g, v * 2 + 1, none⟩) hgl).trans f1, Nat.lt_of_lt_of_le hgl hb.size⟩
    have HDB := Lib.hid h
    have HDE := Lib.hid hde
    have HOK := Lib.hid hde.ok
    have HV := Lib.hid hv
    by_cases h0 : lenM (M v) = 0
    · have hx : updM M v (keepM (M v) 0 (lenM (M v) - 1)) = M := by
        have := keep_all hde.ok
        rw [h0] at this ⊢
        rw [this, updM_self]
      rw [hx]
      rw [h0] at HS
      generalize (M v).kind = kd at *
      clear h hh hde h0 hx hz
      go_enter Tryz.func31, Tryz.ntmps31
      go_wp2_with fail
      refine HTH.out.mono ?_
      rintro e w1 ⟨rfl, rfl⟩
      go_wp2_with fail
      refine HS.out.mono ?_
      rintro e w1 ⟨rfl, hb⟩
      have HB := Lib.hid hb
      clear hb
      go_wp2_with fail
      go_ret
      exact DtP.err_below HD.out HB.out
    · have HX : Hid (∀ W, Below w.heap.size w W → Calls Tryz.prog 61 #[.agg #[.int .i64 (M v).kind, .slice lo ln lc], .int .i64 0, .int .i64 (IntKind.i64.wrap ((lenM (M v) : Int) - 1))] W.drew (CutP F (M v) 0 (lenM (M v) - 1) W)) := Lib.hid fun W hb => by
        have := rcut_any (w := W.drew) ((HDE.out.fx (Fx.of HD.out.hf hb)).fx (fx_drew F W)) (fun k hk => Nat.lt_of_lt_of_le (HD.out.hf k hk) hb.size) 0 (lenM (M v) - 1) (Nat.zero_le _) (Nat.sub_le _ _)
        rw [IntWalk.i64_in _ (by omega), show ((lenM (M v) : Int) - 1) = ((lenM (M v) - 1 : Nat) : Int) by omega]
        exact this.mono fun _ _ h => h.drew
      obtain ⟨n, hn⟩ : ∃ n, n = lenM (M v) := ⟨_, rfl⟩
      obtain ⟨kd, hkd⟩ : ∃ kd, kd = (M v).kind := ⟨_, rfl⟩
      rw [← hn] at HS HX h0 hz ⊢
      rw [← hkd] at HS HX HC e0
      have dn : decide ((0 : Int) < (n : Int)) = true := decide_eq_true (by omega)
      have hn0 : 0 < n := by omega
      clear h hh hde h0 hn hkd
      go_enter Tryz.func31, Tryz.ntmps31
      go_wp2_with fail
      refine HTH.out.mono ?_
      rintro e w1 ⟨rfl, rfl⟩
      go_wp2_with fail
      refine HS.out.mono ?_
      rintro e w1 ⟨rfl, hb⟩
      have HB := Lib.hid hb
      obtain ⟨c2', e0', e1', f0', f1', hg'⟩ := HC.out _ hb
      clear hb
      go_wp2_with fail
      go_region_law (first
        | (go_simp; go_at_call 61; refine (HX.out _ HB.out).mono ?_
           rintro e w2 ⟨⟨lo2, ln2, lc2, rfl, hd2⟩, hb2⟩
           have HD2 : Hid (DeIs (Up F w w2) w2 ⟨_, lo2, ln2, lc2⟩ _) := Lib.hid (hd2.mono fun k hk => hk.elim .inl fun h => .inr ⟨Nat.le_trans HB.out.size h.1, h.2⟩)
           have HB2 := Lib.hid (HB.out.trans (hb2.mono HB.out.size))
           obtain ⟨c2'', e0'', e1'', f0'', f1'', hg''⟩ := HC.out _ HB2.out
           clear hd2 hb2))
      all_goals
        have HG := Lib.hid (set_done HDB.out HB2.out HV.out _ _ HD2.out)
        go_wp2_with fail
        go_ret
        exact ⟨⟨N, Nat.le_refl _, Nat.le_succ _, rfl, HG.out⟩⟩
end Go.Proofs.YtgpanlkcpnlejaaGreat
/- The document's store: Part. -/
namespace Go.Proofs.YtgpanlkcpnlejaaGreat
open Go.RowKit Go.Maps
set_option maxRecDepth 100000
set_option maxHeartbeats 8000000 in
theorem rPart_yes {F : Nat → Prop} {bx : Nat} {L : List Reg} {N : Nat} {M : Nat → Mc} {w : World} (h : DK F bx L N M w) (s : ByteArray) (f t : Int) (hf : I64 f) (ht : I64 t) (hh : hasS L s.data.toList = true) (x y : Nat) (hxy : x ≤ y) (hyl : y ≤ lenM (M (getS L s.data.toList).v))
    (hsp : spanS (lenM (M (getS L s.data.toList).v)) f t = ((x : Int), (y : Int))) : Calls Tryz.prog 32 #[BP bx, .string s, .int .i64 f, .int .i64 t] w (DtP F bx N (0, L, updM M (getS L s.data.toList).v (keepM (M (getS L s.data.toList).v) x y)) w) := by
  have HTH := Lib.hid (rthere_any h s)
  have HD := Lib.hid h
  rw [hh] at HTH
  simp only [if_true] at HTH
  obtain ⟨no, nc, eo, ec, es, h⟩ := h
  have hv := (h.ok _ (getS_mem L _ hh)).2
  generalize (getS L s.data.toList).v = v at HTH hv hsp hyl ⊢
  obtain ⟨_, _, c2⟩ := h.c
  obtain ⟨g, lo, ln, lc, rfl, hgl, hde, e0, e1, f0, f1⟩ := h.ent_at v hv
  have dv2 : decide (v < N) = true := decide_eq_true hv
  have hbl := h.hf _ h.fb
  have HS := Lib.hid (rsize_any hde)
  have hz := lenM_le hde.ok
  have HC : Hid (∀ W, Below w.heap.size w W → W.cell? ⟨bx, 2, none⟩ = some (.slice (some ⟨g, 0, none⟩) N ec) ∧ W.cell? ⟨g, v * 2, none⟩ = some (.int .i64 (M v).kind) ∧ W.cell? ⟨g, v * 2 + 1, none⟩ = some (.slice lo ln lc) ∧ W.frozen? ⟨g, v * 2, none⟩ = false ∧ W.frozen? ⟨g, v * 2 + 1, none⟩ = false ∧ g < W.heap.size) := Lib.hid fun W hb =>
    ⟨(hb.cell (p := ⟨bx, 2, none⟩) hbl).trans c2, (hb.cell (p := ⟨g, v * 2, none⟩) hgl).trans e0, (hb.cell (p := ⟨g, v * 2 + 1, none⟩) hgl).trans e1, (hb.frozen (p := ⟨g, v * 2, none⟩) hgl).trans f0, (hb.frozen (p := ⟨g, v * 2 + 1, none⟩) hgl).trans f1, Nat.lt_of_lt_of_le hgl hb.size⟩
  have HDB := Lib.hid h
  have HDE := Lib.hid hde
  have HV := Lib.hid hv
  obtain ⟨z, hzy⟩ : ∃ z : Int, z = (y : Int) - 1 := ⟨_, rfl⟩
  have HZY := Lib.hid hzy
  have HX : Hid (∀ W, Below w.heap.size w W → Calls Tryz.prog 61 #[.agg #[.int .i64 (M v).kind, .slice lo ln lc], .int .i64 x, .int .i64 (IntKind.i64.wrap (z + 1))] W.drew (CutP F (M v) x y W)) := Lib.hid fun W hb => by
    have := rcut_any (w := W.drew) ((HDE.out.fx (Fx.of HD.out.hf hb)).fx (fx_drew F W)) (fun k hk => Nat.lt_of_lt_of_le (HD.out.hf k hk) hb.size) x y hxy hyl
    rw [IntWalk.i64_in _ (by omega), show (z + 1) = (y : Int) by omega]
    exact this.mono fun _ _ h => h.drew
  obtain ⟨n, hn⟩ : ∃ n, n = lenM (M v) := ⟨_, rfl⟩
  obtain ⟨kd, hkd⟩ : ∃ kd, kd = (M v).kind := ⟨_, rfl⟩
  rw [← hn] at HS hz hyl hsp
  rw [← hkd] at HS HX HC e0
  have hpi := place_in n f hz hf
  have hqi := place_in n t hz ht
  have HP : Hid (placeS n f = if f < 0 then (n : Int) + f else f) := Lib.hid rfl
  have HQ : Hid (placeS n t = if t < 0 then (n : Int) + t else t) := Lib.hid rfl
  have HFI := Lib.hid hf
  have HTI := Lib.hid ht
  unfold spanS at hsp
  obtain ⟨p, hp⟩ : ∃ p, p = placeS n f := ⟨_, rfl⟩
  obtain ⟨q, hq⟩ : ∃ q, q = placeS n t := ⟨_, rfl⟩
  rw [← hp] at hpi hsp HP
  rw [← hq] at hqi hsp HQ
  have HSP := Lib.hid hsp
  have HPI := Lib.hid hpi
  have HQI := Lib.hid hqi
  have HZ := Lib.hid hz
  clear h hh hde hn hkd hp hq hsp hyl hxy hf ht hpi hqi hzy
  go_enter Tryz.func32, Tryz.ntmps32
  go_wp2_with fail
  refine HTH.out.mono ?_
  rintro e w1 ⟨rfl, rfl⟩
  go_wp2_with fail
  refine HS.out.mono ?_
  rintro e w1 ⟨rfl, hb⟩
  have HB := Lib.hid hb
  obtain ⟨c2', e0', e1', f0', f1', hg'⟩ := HC.out _ hb
  clear hb
  go_upto_if 30 with fail
  go_cut [2] (fun s2 wx => s2 = .int .i64 p ∧ wx = w1)
  case first =>
    have hfi := HFI.out
    unfold I64 at hfi
    by_cases hf0 : f < 0
    · have HE := Lib.hid (show wrap64 (f + (n : Int)) = p by rw [HP.out, if_pos hf0, IntWalk.wrap64_in _ (by omega)]; omega)
      clear hfi
      go_wp2_with fail
      go_meet
      case rel => exact ⟨by show Value.int .i64 (wrap64 (f + (n : Int))) = _; rw [HE.out], rfl⟩
    · have HE := Lib.hid (show f = p by rw [HP.out, if_neg hf0])
      clear hfi
      go_wp2_with fail
      go_meet
      case rel => exact ⟨by rw [HE.out], rfl⟩
  case rest =>
    obtain ⟨rfl, rfl⟩ := hcut
    go_upto_if 35 with fail
    go_cut [3] (fun s3 wx => s3 = .int .i64 q ∧ wx = wc)
    case first =>
      have hti := HTI.out
      unfold I64 at hti
      by_cases ht0 : t < 0
      · have HE := Lib.hid (show wrap64 (t + (n : Int)) = q by rw [HQ.out, if_pos ht0, IntWalk.wrap64_in _ (by omega)]; omega)
        clear hti
        go_wp2_with fail
        go_meet
        case rel => exact ⟨by show Value.int .i64 (wrap64 (t + (n : Int))) = _; rw [HE.out], rfl⟩
      · have HE := Lib.hid (show t = q by rw [HQ.out, if_neg ht0])
        clear hti
        go_wp2_with fail
        go_meet
        case rel => exact ⟨by rw [HE.out], rfl⟩
    case rest =>
      obtain ⟨rfl, rfl⟩ := hcut
      go_upto_if 41 with fail
      obtain ⟨a, ha⟩ : ∃ a, a = min p q := ⟨_, rfl⟩
      obtain ⟨b, hb⟩ : ∃ b, b = max p q := ⟨_, rfl⟩
      have HA := Lib.hid ha
      have HBB := Lib.hid hb
      clear ha hb
      go_cut [2, 3] (fun s2 s3 wx => s2 = .int .i64 a ∧ s3 = .int .i64 b ∧ wx = wc)
      case first =>
        by_cases hpq : q < p
        · have h1 := Lib.hid (show q = a by rw [HA.out]; omega)
          have h2 := Lib.hid (show p = b by rw [HBB.out]; omega)
          go_wp2_with fail
          go_meet
          case rel => exact ⟨by rw [h1.out], by rw [h2.out], rfl⟩
        · have h1 := Lib.hid (show p = a by rw [HA.out]; omega)
          have h2 := Lib.hid (show q = b by rw [HBB.out]; omega)
          go_wp2_with fail
          go_meet
          case rel => exact ⟨by rw [h1.out], by rw [h2.out], rfl⟩
      case rest =>
        obtain ⟨rfl, rfl, rfl⟩ := hcut
        have HAB := Lib.hid (show a ≤ b by rw [HA.out, HBB.out]; omega)
        have HBI := Lib.hid (show I64 b by rw [HBB.out]; have h1 := HPI.out; have h2 := HQI.out; unfold I64 at *; omega)
        obtain ⟨d, hd⟩ : ∃ d, d = min b ((n : Int) - 1) := ⟨_, rfl⟩
        obtain ⟨k, hk⟩ : ∃ k, k = max a 0 := ⟨_, rfl⟩
        have HSX : Hid ((if d + 1 ≤ k then ((0 : Int), (0 : Int)) else (k, d + 1)) = ((x : Int), (y : Int))) := Lib.hid (by
          have := HSP.out
          unfold spanPQ at this
          rw [← HA.out, ← HBB.out, ← hd, ← hk] at this
          exact this)
        have HDD := Lib.hid hd
        have HKK := Lib.hid hk
        clear hd hk
        go_upto_if 48 with fail
        go_cut [3] (fun s3 wx => s3 = .int .i64 d ∧ wx = wc)
        case first =>
          have hw : wrap64 ((n : Int) - 1) = (n : Int) - 1 := IntWalk.wrap64_in _ (by omega)
          have HW := Lib.hid hw
          clear hw
          by_cases hbn : (n : Int) ≤ b
          · have h2 := Lib.hid (show (n : Int) - 1 = d by rw [HDD.out]; omega)
            go_wp2_with fail
            go_meet
            case rel => exact ⟨by first | (show Value.int .i64 (wrap64 ((n : Int) - 1)) = _; rw [HW.out, h2.out]) | (rw [h2.out]), rfl⟩
          · have h2 := Lib.hid (show b = d by rw [HDD.out]; omega)
            go_wp2_with fail
            go_meet
            case rel => exact ⟨by rw [h2.out], rfl⟩
        case rest =>
          obtain ⟨rfl, rfl⟩ := hcut
          go_upto_if 53 with fail
          rw [← HKK.out]
          go_cut [2, 3] (fun s2 s3 wx => s2 = .int .i64 x ∧ s3 = .int .i64 z ∧ wx = wc)
          case first =>
            by_cases hkd : d < k
            · have hx := HSX.out
              rw [if_pos (by omega)] at hx
              simp only [Prod.mk.injEq] at hx
              have h1 := Lib.hid (show (0 : Int) = x from hx.1)
              have h2 := Lib.hid (show (-1 : Int) = z by have := HZY.out; omega)
              clear hx
              go_wp2_with fail
              go_meet
              case rel => exact ⟨by rw [← h1.out], by rw [← h2.out], rfl⟩
            · have hx := HSX.out
              rw [if_neg (by omega)] at hx
              simp only [Prod.mk.injEq] at hx
              have h1 := Lib.hid (show k = x from hx.1)
              have h2 := Lib.hid (show d = z by have := HZY.out; omega)
              clear hx
              go_wp2_with fail
              go_meet
              case rel => exact ⟨by rw [h1.out], by rw [h2.out], rfl⟩
          case rest =>
            obtain ⟨rfl, rfl, rfl⟩ := hcut
            go_wp2_with fail
            go_region_law (first
              | (go_simp; go_at_call 61; refine (HX.out _ HB.out).mono ?_
                 rintro e w2 ⟨⟨lo2, ln2, lc2, rfl, hd2⟩, hb2⟩
                 have HD2 : Hid (DeIs (Up F w w2) w2 ⟨_, lo2, ln2, lc2⟩ _) := Lib.hid (hd2.mono fun k hk => hk.elim .inl fun h => .inr ⟨Nat.le_trans HB.out.size h.1, h.2⟩)
                 have HB2 := Lib.hid (HB.out.trans (hb2.mono HB.out.size))
                 obtain ⟨c2'', e0'', e1'', f0'', f1'', hg''⟩ := HC.out _ HB2.out
                 clear hd2 hb2))
            all_goals
              have HG := Lib.hid (set_done HDB.out HB2.out HV.out _ _ HD2.out)
              go_wp2_with fail
              go_ret
              exact ⟨⟨N, Nat.le_refl _, Nat.le_succ _, rfl, HG.out⟩⟩
end Go.Proofs.YtgpanlkcpnlejaaGreat
/- The document's store: what it tells. -/
namespace Go.Proofs.YtgpanlkcpnlejaaGreat
open Go.RowKit Go.Maps
set_option maxRecDepth 100000
theorem rPart_any {F : Nat → Prop} {bx : Nat} {L : List Reg} {N : Nat} {M : Nat → Mc} {w : World} (h : DK F bx L N M w) (s : ByteArray) (f t : Int) (hf : I64 f) (ht : I64 t) : Calls Tryz.prog 32 #[BP bx, .string s, .int .i64 f, .int .i64 t] w (DtP F bx N (parS L M s.data.toList f t) w) := by
  cases hh : hasS L s.data.toList with
  | true =>
    obtain ⟨x, y, h1, h2, h3⟩ := span_nat (lenM (M (getS L s.data.toList).v)) f t
    have := rPart_yes h s f t hf ht hh x y h2 h3 h1
    unfold parS
    rw [hh, if_pos rfl, h1]
    exact this
  | false =>
    have HTH := Lib.hid (rthere_any h s)
    have HD := Lib.hid h
    rw [hh] at HTH
    simp only [Bool.false_eq_true, if_false] at HTH
    unfold parS
    rw [hh, if_neg (by decide)]
    clear h hh hf ht
    go_enter Tryz.func32, Tryz.ntmps32
    go_wp2_with fail
    refine HTH.out.mono ?_
    rintro e w1 ⟨rfl, rfl⟩
    go_wp2_with fail
    go_ret
    exact DtP.err HD.out
/-- What is told of what a name has; nothing: kind 0. -/
def textS (m : Mc) : ByteArray × Int := if m.kind = 1 then (m.tx, 0) else (⟨#[]⟩, 6)
def lineS (m : Mc) : List Ln × Int := if m.kind = 0 then ([], 6) else (mLines m, 0)
def longS (m : Mc) : Int × Int := if m.kind = 0 then (0, 6) else (lenM m, 0)
theorem mOf_no {L : List Reg} {M : Nat → Mc} {nm : List UInt8} (h : hasS L nm = false) : mOf L M nm = M0 := by unfold mOf; rw [if_neg (by rw [h]; decide)]
theorem mc_ne0 {m : Mc} (h : mcOk m) : m.kind ≠ 0 := by
  rcases mc_kind h with h | h <;> rw [h] <;> decide
theorem lns_none (w : World) : LnsAt (Tg w) w none 0 [] := ⟨⟨[], ⟨rfl, fun h => absurd h (Nat.lt_irrefl 0)⟩, rfl, fun i a b h _ => by simp at h⟩, rfl⟩
section
variable {F : Nat → Prop} {bx : Nat} {L : List Reg} {N : Nat} {M : Nat → Mc} {w : World}
theorem rText_any (h : DK F bx L N M w) (s : ByteArray) : Calls Tryz.prog 64 #[BP bx, .string s] w fun e w' => e = .returned (.tuple #[.string (textS (mOf L M s.data.toList)).1, .int .i64 (textS (mOf L M s.data.toList)).2]) ∧ w = w' := by
  have HTH := Lib.hid (rthere_any h s)
  cases hh : hasS L s.data.toList with
  | false =>
    rw [mOf_no hh]
    rw [hh] at HTH
    simp only [Bool.false_eq_true, if_false] at HTH
    clear h hh
    go_enter Tryz.func64, Tryz.ntmps64
    go_wp2_with fail
    refine HTH.out.mono ?_
    rintro e w1 ⟨rfl, rfl⟩
    go_wp2_with fail
    go_ret2
    exact ⟨rfl, rfl⟩
  | true =>
    rw [mOf_has hh]
    rw [hh] at HTH
    simp only [if_true] at HTH
    obtain ⟨no, nc, eo, ec, es, h⟩ := h
    have hv := (h.ok _ (getS_mem L _ hh)).2
    generalize (getS L s.data.toList).v = v at HTH hv ⊢
    obtain ⟨_, _, c2⟩ := h.c
    obtain ⟨g, lo, ln, lc, rfl, hgl, hde, e0, e1, f0, f1⟩ := h.ent_at v hv
    by_cases hk : (M v).kind = 1
    · obtain ⟨b, off, rfl, hbl, ct, rfl, hmt⟩ := hde.text hk
      have hx : textS (M v) = ((M v).tx, 0) := by unfold textS; rw [if_pos hk]
      rw [hx]
      rw [hk] at e0
      generalize (M v).tx = tx at ct ⊢
      clear h hh hde hk hmt hx
      go_enter Tryz.func64, Tryz.ntmps64
      go_wp2_with fail
      refine HTH.out.mono ?_
      rintro e w1 ⟨rfl, rfl⟩
      go_wp2_with fail
      go_ret2
      exact ⟨rfl, rfl⟩
    · have hx : textS (M v) = (⟨#[]⟩, 6) := by unfold textS; rw [if_neg hk]
      rw [hx]
      have dk : ((M v).kind == (1 : Int)) = false := by simpa using hk
      generalize (M v).kind = kd at dk e0
      clear h hh hde hk hx
      go_enter Tryz.func64, Tryz.ntmps64
      go_wp2_with fail
      refine HTH.out.mono ?_
      rintro e w1 ⟨rfl, rfl⟩
      go_wp2_with fail
      go_ret2
      exact ⟨rfl, rfl⟩
theorem rKind_any (h : DK F bx L N M w) (s : ByteArray) : Calls Tryz.prog 71 #[BP bx, .string s] w fun e w' => e = .returned (.int .i64 (mOf L M s.data.toList).kind) ∧ w = w' := by
  have HTH := Lib.hid (rthere_any h s)
  cases hh : hasS L s.data.toList with
  | false =>
    rw [mOf_no hh]
    rw [hh] at HTH
    simp only [Bool.false_eq_true, if_false] at HTH
    clear h hh
    go_enter Tryz.func71, Tryz.ntmps71
    go_wp2_with fail
    refine HTH.out.mono ?_
    rintro e w1 ⟨rfl, rfl⟩
    go_wp2_with fail
    go_ret
    exact ⟨rfl, rfl⟩
  | true =>
    rw [mOf_has hh]
    rw [hh] at HTH
    simp only [if_true] at HTH
    obtain ⟨no, nc, eo, ec, es, h⟩ := h
    have hv := (h.ok _ (getS_mem L _ hh)).2
    generalize (getS L s.data.toList).v = v at HTH hv ⊢
    obtain ⟨_, _, c2⟩ := h.c
    obtain ⟨g, lo, ln, lc, rfl, hgl, hde, e0, e1, f0, f1⟩ := h.ent_at v hv
    generalize (M v).kind = kd at e0 ⊢
    clear h hh hde
    go_enter Tryz.func71, Tryz.ntmps71
    go_wp2_with fail
    refine HTH.out.mono ?_
    rintro e w1 ⟨rfl, rfl⟩
    go_wp2_with fail
    go_ret
    exact ⟨rfl, rfl⟩
theorem rLength_any (h : DK F bx L N M w) (s : ByteArray) : Calls Tryz.prog 68 #[BP bx, .string s] w fun e w' => e = .returned (.tuple #[.int .i64 (longS (mOf L M s.data.toList)).1, .int .i64 (longS (mOf L M s.data.toList)).2]) ∧ Below w.heap.size w w' := by
  have HTH := Lib.hid (rthere_any h s)
  cases hh : hasS L s.data.toList with
  | false =>
    rw [mOf_no hh]
    rw [hh] at HTH
    simp only [Bool.false_eq_true, if_false] at HTH
    clear h hh
    go_enter Tryz.func68, Tryz.ntmps68
    go_wp2_with fail
    refine HTH.out.mono ?_
    rintro e w1 ⟨rfl, rfl⟩
    go_wp2_with fail
    go_ret2
    exact ⟨rfl, Below.refl _ _⟩
  | true =>
    rw [mOf_has hh]
    rw [hh] at HTH
    simp only [if_true] at HTH
    obtain ⟨no, nc, eo, ec, es, h⟩ := h
    have hv := (h.ok _ (getS_mem L _ hh)).2
    generalize (getS L s.data.toList).v = v at HTH hv ⊢
    obtain ⟨_, _, c2⟩ := h.c
    obtain ⟨g, lo, ln, lc, rfl, hgl, hde, e0, e1, f0, f1⟩ := h.ent_at v hv
    have HS := Lib.hid (rsize_any hde)
    have hx : longS (M v) = ((lenM (M v) : Int), 0) := by unfold longS; rw [if_neg (mc_ne0 hde.ok)]
    rw [hx]
    generalize (M v).kind = kd at e0 HS
    clear h hh hde hx
    go_enter Tryz.func68, Tryz.ntmps68
    go_wp2_with fail
    refine HTH.out.mono ?_
    rintro e w1 ⟨rfl, rfl⟩
    go_wp2_with fail
    refine HS.out.mono ?_
    rintro e w1 ⟨rfl, hb⟩
    have HB := Lib.hid hb
    clear hb
    go_wp2_with fail
    go_ret2
    exact ⟨rfl, HB.out⟩
theorem okLn_one {t : ByteArray} (h : okTx t.data.toList = true) : ([⟨t, false, 0, 0, []⟩] : List Ln).all okLn = true := by
  simp [okLn, okRL, h]
theorem mLines_ok {m : Mc} (h : mcOk m) : (mLines m).all okLn = true ∧ (mLines m).length ≤ 2000 := by
  unfold mLines
  rcases h with ⟨hk, ht, _⟩ | ⟨hk, _, hl, ha⟩
  · rw [if_pos hk]; exact ⟨okLn_one ht, by simp⟩
  · rw [if_neg (by rw [hk]; decide)]; exact ⟨ha, hl⟩
theorem rLines_any (h : DK F bx L N M w) (s : ByteArray) : Calls Tryz.prog 66 #[BP bx, .string s] w fun e w' => ∃ A n c, e = .returned (.tuple #[.slice A n c, .int .i64 (lineS (mOf L M s.data.toList)).2]) ∧ LinP (lineS (mOf L M s.data.toList)).1 w A n c w' := by
  have HTH := Lib.hid (rthere_any h s)
  cases hh : hasS L s.data.toList with
  | false =>
    rw [mOf_no hh]
    rw [hh] at HTH
    simp only [Bool.false_eq_true, if_false] at HTH
    clear h hh
    go_enter Tryz.func66, Tryz.ntmps66
    go_wp2_with fail
    refine HTH.out.mono ?_
    rintro e w1 ⟨rfl, rfl⟩
    go_wp2_with fail
    go_ret2
    exact ⟨none, 0, 0, rfl, lns_none _, fun _ => rfl, Nat.le_refl _, by decide, Below.refl _ _⟩
  | true =>
    rw [mOf_has hh]
    rw [hh] at HTH
    simp only [if_true] at HTH
    have hF := h.hf
    obtain ⟨no, nc, eo, ec, es, h⟩ := h
    have hv := (h.ok _ (getS_mem L _ hh)).2
    generalize (getS L s.data.toList).v = v at HTH hv ⊢
    obtain ⟨_, _, c2⟩ := h.c
    obtain ⟨g, lo, ln, lc, rfl, hgl, hde, e0, e1, f0, f1⟩ := h.ent_at v hv
    have hml := mLines_ok hde.ok
    have hlen : ln = (mLines (M v)).length := hde.at_.len
    have HS := Lib.hid (rOwnAll_any (n := ln) (c := lc) hde.at_ (fun _ b hb => hF b hb.1) (by omega) (okLn_bx hml.1))
    have hx : lineS (M v) = (mLines (M v), 0) := by unfold lineS; rw [if_neg (mc_ne0 hde.ok)]
    rw [hx]
    clear h hh hde hx hml hlen
    go_enter Tryz.func66, Tryz.ntmps66
    go_wp2_with fail
    refine HTH.out.mono ?_
    rintro e w1 ⟨rfl, rfl⟩
    go_wp2_with fail
    refine HS.out.mono ?_
    rintro e w1 ⟨⟨A, c, rfl, hl, hA, hc, hc9⟩, hb⟩
    have HL : Hid (LinP (mLines (M v)) w A ln c w1) := Lib.hid ⟨hl.wide fun _ b hb => hb.2, hA, hc, hc9, hb⟩
    clear hl hA hc hc9 hb
    go_wp2_with fail
    go_ret2
    exact ⟨A, ln, c, rfl, HL.out⟩
end
end Go.Proofs.YtgpanlkcpnlejaaGreat
