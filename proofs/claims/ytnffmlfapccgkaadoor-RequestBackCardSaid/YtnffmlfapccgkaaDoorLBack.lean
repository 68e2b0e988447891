/- RequestBack: the law's walk. -/
import Derived.Test.YtnffmlfapccgkaaDoorW8
namespace Go.Proofs.YtnffmlfapccgkaaDoor
open Go.RowKit Go.Shelf
set_option maxRecDepth 100000
set_option linter.unusedSimpArgs false
set_option linter.unusedVariables false
/-- What is written, taken apart again. -/
theorem cut_written (nm X : List UInt8) (h1 : nm ≠ []) (h2 : Lib.indexAny nm [32, 9] < 0) (hX : spX X) : nmS (46 :: nm ++ X) = nm ∧ wds (rsS (46 :: nm ++ X)) = wds X := by
  have hb : ∀ c, c ∈ nm → bl c = false := by
    rcases cut_ix nm with ⟨_, h⟩ | ⟨k, h, _, _⟩
    · intro c hc
      cases hq : bl c with
      | false => rfl
      | true =>
        exfalso
        -- a blank would be found
        have : ∀ (l : List UInt8), c ∈ l → 0 ≤ Lib.indexAny l [32, 9] := by
          intro l
          induction l with
          | nil => intro h; cases h
          | cons a t ih =>
            intro h
            unfold Lib.indexAny
            split
            · omega
            · rename_i hn
              have hct : c ∈ t := by
                rcases List.mem_cons.1 h with rfl | h
                · rw [bl_cont] at hn; exact absurd hq hn
                · exact h
              have := ih hct
              split
              · rename_i h3; have := eq_of_beq h3; omega
              · omega
        have := this nm hc
        omega
    · omega
  have hsk : skB (nm ++ X) = nm ++ X := by
    cases nm with
    | nil => exact absurd rfl h1
    | cons a t => exact skB_cons_of (hb a (by simp))
  have hd : (46 :: nm ++ X).drop 1 = nm ++ X := rfl
  unfold nmS rsS
  rw [hd, hsk, cutB_app nm hb X hX]
  exact ⟨rfl, wds_drop1 X hX⟩
theorem tot_bound (ls : List (List UInt8)) (m : Nat) (h : ∀ l ∈ ls, l.length ≤ m) : tot ls ≤ m * ls.length := by
  induction ls with
  | nil => simp [tot]
  | cons l r ih =>
    have h1 := h l (by simp)
    have h2 := ih (fun x hx => h x (by simp [hx]))
    rw [tot, List.length_cons, Nat.mul_add]
    omega
def LbR (ls : List (List UInt8)) (w : World) (k : Nat) (n i : Value) (wr : World) : Prop :=
  ∃ j : Nat, k + j = ls.length ∧ i = .int .i64 (j : Int) ∧ (∃ z : Int, n = .int .i64 z ∧ (ls.length ≤ 30 → ∃ m : Nat, z = (m : Int) ∧ m + tot (ls.drop j) = tot ls)) ∧ wr = w
theorem split_written (nm X : List UInt8) (h0 : (46 :: nm ++ X).length ≤ 2000) (h1 : nm ≠ []) (h2 : Lib.indexAny nm [32, 9] < 0) (h3 : Lib.indexByte (46 :: nm ++ X) 10 < 0) (hX : spX X) (w : World) :
    Calls Tryd.prog 21 #[.string (bs (46 :: nm ++ X)), .int .u8 46, .int .u8 39] w fun e w' => ∃ A c, e = .returned (.tuple #[.agg #[.string (bs nm), .slice A (wds X).length c, .string (bs (rsS (46 :: nm ++ X))), .bool false], .bool true, .int .i64 0]) ∧
      StrsAt w' A (wds X).length ((wds X).map bs) ∧ (c : Int) ≤ 9223372036854775807 ∧ (wds X).length ≤ c ∧ Below w.heap.size w w' := by
  have h := split_any (46 :: nm ++ X) 46 39 (by omega) w
  have hc := cut_written nm X h1 h2 hX
  have hcs : csS (46 :: nm ++ X) 46 39 = true := by
    unfold csS okTx
    rw [decide_eq_true h0, decide_eq_false (by omega), show cc 46 = true from by decide +kernel, show cc 39 = true from by decide +kernel]
    rfl
  have hic : isC (46 :: nm ++ X) 46 39 = true := rfl
  unfold SpP at h
  rw [hcs, hic] at h
  simp only [if_true] at h
  unfold SpL at h
  rw [hc.1, hc.2, show ((46 :: nm ++ X).head? == some (39 : UInt8)) = false from rfl] at h
  exact h
set_option maxHeartbeats 4000000 in
theorem law_back (nm : List UInt8) (hnm : nm.length ≤ 140737488351232) (A : Option Addr) (n c : Nat) (ls : List (List UInt8)) (w : World) (hM : MaxI w) (hA : StrsAt w A n (ls.map bs)) (hr : ∀ l ∈ ls, l.length ≤ 140737488351232) (hnc : n ≤ c) (hc9 : (c : Int) ≤ 9223372036854775807) :
    Calls Tryd.prog 9 #[.string (bs nm), .slice A n c] w fun e w' => e = .returned (.bool true) ∧ Below w.heap.size w w' := by
  have hlen := hA.len
  have HA := Lib.hid hA
  have HM := Lib.hid hM
  have HS := Lib.hid (fun W => sane_any W)
  have HR := Lib.hid hr
  have hn9 : (ls.length : Int) ≤ 9223372036854775807 := by omega
  subst hlen
  clear hA hM hr
  obtain ⟨N, hN⟩ : ∃ N, N = bs nm := ⟨_, rfl⟩
  have HWA : Hid (ls.length ≤ 30 → tot ls ≤ 1500 → Calls Tryd.prog 19 #[.string N, .slice A ls.length c] w (WrP nm ls w)) := Lib.hid fun h1 h2 => by rw [hN]; exact write_any nm hnm A ls.length c ls w HM.out HA.out h1 h2
  rw [← hN]
  have HN := Lib.hid hN
  clear hN
  go_enter Tryd.func9, Tryd.ntmps9
  go_wp2_with fail
  go_loopg [5, 6] ls.length (fun k n i wr => LbR ls w k n i wr)
  case atStart => exact ⟨0, by omega, rfl, ⟨0, rfl, fun _ => ⟨0, rfl, by simp⟩⟩, rfl⟩
  case round =>
    obtain ⟨j, hk, rfl, ⟨z, rfl, hz⟩, hw⟩ := hrel
    subst hw
    have HK := Lib.hid hk
    have HZ := Lib.hid hz
    clear hk hz
    by_cases hlt : j < ls.length
    · have d1 : decide (j < ls.length) = true := decide_eq_true hlt
      obtain ⟨b, off, hAe, hbl, hcell⟩ := HA.out.cell j hlt
      subst hAe
      have htj := tot_at ls j hlt
      have hrl := HR.out ls[j] (List.getElem_mem hlt)
      have htd := Lib.hid (tot_drop ls j)
      obtain ⟨l, hl⟩ : ∃ l, l = ls[j] := ⟨_, rfl⟩
      rw [← hl] at hcell htj hrl
      have HTB := Lib.hid (tot_bound ls 140737488351232 HR.out)
      have HT := Lib.hid htj
      have HRL := Lib.hid hrl
      obtain ⟨L, hL⟩ : ∃ L, L = bs l := ⟨_, rfl⟩
      have hLs : L.size = l.length := by rw [hL, bs_size]
      rw [← hL] at hcell
      have HLS := Lib.hid hLs
      obtain ⟨y, hy⟩ : ∃ y : Int, y = IntKind.i64.wrap (z + (L.size : Int)) := ⟨_, rfl⟩
      have HY := Lib.hid hy
      have hy2 := hy.symm
      clear hl hL htj hrl hLs hy
      go_wp2_with fail
      go_roundg (gk - 1)
      case measure => have := HK.out; omega
      case rel =>
        refine ⟨j + 1, by have := HK.out; omega, by go_num, ⟨y, by go_num, fun h => ?_⟩, rfl⟩
        obtain ⟨m, hm, hmt⟩ := HZ.out h
        have h1 := HT.out
        have h2 := htd.out
        have h3 := HTB.out
        refine ⟨m + l.length, ?_, by omega⟩
        rw [HY.out, hm, HLS.out, IntWalk.i64_in _ (by omega)]; omega
    · have d1 : decide (j < ls.length) = false := decide_eq_false hlt
      have HJ := Lib.hid (show j = ls.length by have := HK.out; omega)
      clear hlt
      cases h1 : decide ((1500 : Int) < z) with
      | true =>
        go_wp2_with fail
        refine (HS.out _).mono ?_
        rintro e w1 ⟨rfl, hb⟩
        have HB := Lib.hid hb
        clear hb
        go_wp2_with fail
        go_ret
        exact ⟨rfl, HB.out⟩
      | false =>
        cases h2 : decide ((30 : Int) < (ls.length : Int)) with
        | true =>
          go_wp2_with fail
          refine (HS.out _).mono ?_
          rintro e w1 ⟨rfl, hb⟩
          have HB := Lib.hid hb
          clear hb
          go_wp2_with fail
          go_ret
          exact ⟨rfl, HB.out⟩
        | false =>
          have hl30 : ls.length ≤ 30 := by have := of_decide_eq_false h2; omega
          have htot : tot ls ≤ 1500 := by
            obtain ⟨m, hm, hmt⟩ := HZ.out hl30
            have := of_decide_eq_false h1
            rw [HJ.out, List.drop_length] at hmt
            simp only [tot] at hmt
            omega
          have HW := Lib.hid (HWA.out hl30 htot)
          clear htot
          go_wp2_with fail
          refine HW.out.mono ?_
          rintro e w1 ⟨hb, ⟨k, hk, rfl⟩ | ⟨X, hX, hlen, hn0, hna, hnl, hwd, rfl⟩⟩
          · have hk2 : (k != 0) = true := by rw [bne, hk]; rfl
            have HB1 := Lib.hid hb
            clear hb hk
            go_wp2_with fail
            refine (HS.out _).mono ?_
            rintro e w2 ⟨rfl, hb⟩
            have HB := Lib.hid (HB1.out.trans (hb.mono HB1.out.size))
            clear hb
            go_wp2_with fail
            go_ret
            exact ⟨rfl, HB.out⟩
          · have HB1 := Lib.hid hb
            have HSP := Lib.hid (split_written nm X hlen hn0 hna hnl hX w1)
            rw [hwd] at HSP
            have hcl := cutB_le (skB (nm ++ X))
            have hsl := skB_le (nm ++ X)
            have hrl : (rsS (46 :: nm ++ X)).length ≤ 100000 := by
              have e : rsS (46 :: nm ++ X) = (cutB (skB (nm ++ X))).2 := rfl
              rw [e]
              simp only [List.length_append, List.length_cons] at hlen hsl
              omega
            have HWD := Lib.hid (fun W => words_any (rsS (46 :: nm ++ X)) hrl W)
            have hws : wds (rsS (46 :: nm ++ X)) = ls := by rw [(cut_written nm X hn0 hna hX).2, hwd]
            unfold WsP at HWD
            rw [hws] at HWD
            rw [← HN.out] at HSP
            obtain ⟨rs, hrs⟩ : ∃ rs, rs = rsS (46 :: nm ++ X) := ⟨_, rfl⟩
            rw [← hrs] at HWD HSP
            have hself : (N.toList == N.toList) = true := by simp
            clear hb hX hlen hn0 hna hnl hwd hcl hsl hrl hws hrs
            go_wp2_with fail
            refine HSP.out.mono ?_
            rintro e w2 ⟨A2, c2, rfl, hs2, hc2, hle2, hb2⟩
            have HB2 := Lib.hid (HB1.out.trans (hb2.mono HB1.out.size))
            have HS2 := Lib.hid hs2
            clear hs2 hb2
            have HL2 : Hid (∀ W, Below w2.heap.size w2 W → Calls Tryd.prog 12 #[.slice A2 ls.length c2, .slice A ls.length c] W fun e w' => e = .returned (.bool true) ∧ Below W.heap.size W w') := Lib.hid fun W hW => list_same A2 A ls.length c2 c ls W (HS2.out.below hW) ((HA.out.below HB2.out).below hW) hn9
            go_wp2_with fail
            refine (HL2.out _ (bel0 w2 _)).mono ?_
            rintro e w3 ⟨rfl, hb3⟩
            have HB3 := Lib.hid ((HB2.out.trans ((bel0 w2 (.cells #[.string N, .slice A2 ls.length c2, .string (bs rs), .bool false] 44)).mono HB2.out.size)).trans (hb3.mono (by have := HB2.out.size; simp; omega)))
            have he3 : w3.heap[w2.heap.size]? = some (.cells #[.string N, .slice A2 ls.length c2, .string (bs rs), .bool false] 44 (0, 0)) := (hb3.block _ (by simp)).trans (heap_alloc_new w2 _)
            obtain ⟨⟨k0, k1, k2, k3⟩, _⟩ := blk4 he3
            clear hb3 he3
            go_wp2_with fail
            refine (HWD.out _).mono ?_
            rintro e w4 ⟨A4, c4, rfl, hs4, hc4, hle4, hb4, _⟩
            have HB4 := Lib.hid (HB3.out.trans (hb4.mono HB3.out.size))
            have HL4 := Lib.hid (list_same A4 A ls.length c4 c ls w4 hs4 (HA.out.below HB4.out) hn9)
            clear hs4 hb4
            go_wp2_with fail
            refine HL4.out.mono ?_
            rintro e w5 ⟨rfl, hb5⟩
            have HB5 := Lib.hid (HB4.out.trans (hb5.mono HB4.out.size))
            clear hb5
            go_wp2_with fail
            refine (HS.out _).mono ?_
            rintro e w6 ⟨rfl, hb6⟩
            have HB6 := Lib.hid (HB5.out.trans (hb6.mono HB5.out.size))
            clear hb6
            go_wp2_with fail
            go_ret
            exact ⟨rfl, HB6.out⟩
theorem law_back_card (s : ByteArray) (A : Option Addr) (n c : Nat) (ss : List ByteArray) (w : World) (hM : MaxI w) (hs : s.data.toList.length ≤ 140737488351232) (hA : StrsAt w A n ss) (hr : ∀ s ∈ ss, s.size ≤ 140737488351232) (hnc : n ≤ c) (hc9 : (c : Int) ≤ 9223372036854775807) :
    Calls Tryd.prog 9 #[.string s, .slice A n c] w fun e w' => e = .returned (.bool true) ∧ Below w.heap.size w w' := by
  have h := law_back s.data.toList hs A n c (ss.map fun s => s.data.toList) w hM (by rw [← strs_of]; exact hA) (strs_len hr) hnc hc9
  rw [bs_self] at h
  exact h
end Go.Proofs.YtnffmlfapccgkaaDoor
