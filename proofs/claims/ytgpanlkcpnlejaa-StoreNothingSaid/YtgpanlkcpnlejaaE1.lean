/- The code's store: Part and Chop of whatever is there. -/
import Derived.Test.YtgpanlkcpnlejaaAP
set_option linter.unusedSimpArgs false
set_option linter.unusedVariables false
namespace Go.Proofs.Ytgpanlkcpnlejaa
open Go.RowKit Go.Maps
set_option maxRecDepth 100000
structure KeptM (w : World) (b : Nat) (t : ByteArray) (ls : List Ln) (w' : World) : Prop where
  ex : ∃ lo' ln' lc', w'.heap[b]? = some (EO 2 t lo' ln' lc') ∧ LnOwn w' lo' ln' lc' ls ∧ ∀ g, (Value.slice lo' ln' lc').ownBlock = some g → w.heap.size ≤ g
  kept : Kept (· = b) w w'
theorem KeptM.of {w w1 : World} {b n : Nat} {t : ByteArray} {lo : Option Addr} {ln lc c' : Nat} {A' : Option Addr} {rs : List RL} {ls : List Ln} {P : TypeId → Nat → Prop} (h : w.heap[b]? = some (EO 2 t lo ln lc)) (ho : w1.ownsRow w.heap.size 69 5 (.slice A' n c') n (rs.flatMap rlCs)) (ha : All2 (RlIs P w) rs ls) (hP : ∀ e b, P e b → Tg w e b) (hn : n = ls.length) (hb : Below w.heap.size w w1) :
    KeptM w b t ls (w1.setCell ⟨b, 2, none⟩ (.slice A' n c')) := by
  have hbl := lt_of_block h
  have h1 := (hb.block b hbl).trans h
  have hk : ∀ k, k ≠ b → (w1.setCell ⟨b, 2, none⟩ (.slice A' n c')).heap[k]? = w1.heap[k]? := fun k hk => Below.heap_setCell _ _ _ _ hk
  have hln : LnOwn w1 A' n c' ls := ⟨⟨rs, own_base ho (Nat.zero_le _), ha.mono fun r l hr => hr.keep fun e _ b hb' => (hP e b hb').below hb⟩, hn⟩
  have hge : ∀ g, (Value.slice A' n c').ownBlock = some g → w.heap.size ≤ g := by
    intro g hg
    rcases ho.2 with ⟨hv, _⟩ | ⟨g', cap, cur, hv, hbb, _⟩
    · rw [hv] at hg; simp [Value.ownBlock] at hg
    · rw [hv] at hg
      have : g' = g := by simpa [Value.ownBlock] using hg
      subst this; exact hbb
  refine ⟨⟨A', n, c', ?_, hln.keep (fun g hg => hk g (by have := hge g hg; omega)) (fun e he k hk' => hk k (hk'.ne (e' := 59) ⟨_, _, h1⟩ (by rcases he with rfl | rfl <;> decide))), hge⟩, (Kept.of (S := (· = b)) hb).setCell (p := ⟨b, 2, none⟩) rfl _⟩
  simp only [World.setCell, Array.getElem?_modify, h1]
  simp
set_option maxHeartbeats 1000000 in
theorem keep_mac (b : Nat) (t : ByteArray) (lo : Option Addr) (ln lc : Nat) (ls : List Ln) (x y : Nat) (hxy : x ≤ y) (hy : y ≤ ln) (hl : ln ≤ 2000) (w : World) (h : w.heap[b]? = some (EO 2 t lo ln lc)) (ho : LnOwn w lo ln lc ls) :
    Calls Try.prog 41 #[BP b, .int .i64 x, .int .i64 y] w fun e w' => e = .returned (.tuple #[]) ∧ KeptM w b t ((ls.take y).drop x) w' := by
  obtain ⟨hrd, hnil⟩ := ho.reads
  have hb2 : ln ≤ lc ∧ (lc : Int) ≤ 9223372036854775807 := by
    obtain ⟨⟨rs0, ho0, _⟩, _⟩ := ho
    obtain ⟨o, cap, hv, hlc, hc9⟩ := row_shape ho0
    injection hv with _ _ hv
    subst hv
    exact ⟨hlc, hc9⟩
  obtain ⟨hlc, hc9⟩ := hb2
  clear ho
  obtain ⟨⟨c0, c1, c2⟩, f0, f1, f2⟩ := fresh_en h
  have hbl := lt_of_block h
  have H := Lib.hid h
  have hl1 : (y : Int) ≤ (lc : Int) := by omega
  have hl2 : (x : Int) ≤ (y : Int) := by omega
  by_cases hx : x = lc
  · have hrt := (hrd.take y hy).none_of (A' := lo)
    have e0 : y = x := by omega
    have HRT : Hid (LnsAt (Tg w) w lo 0 ((ls.take y).drop x)) := Lib.hid (by have := hrt; rw [Nat.sub_self] at this; rw [e0] at this ⊢; exact this)
    clear hrd hrt hnil h
    obtain ⟨⟨rs, hr, ha⟩, hlen⟩ := HRT.out
    have HCL := Lib.hid (cloneL_any (c := 0) hr (fm_one rl_one rs) (fun _ => rfl) (by omega))
    have HA : Hid (All2 (RlIs (Tg w) w) rs ((ls.take y).drop x)) := Lib.hid ha
    have HLEN := Lib.hid hlen
    clear hr ha hlen
    go_enter Try.func41, Try.ntmps41
    go_wp2_with fail
    refine HCL.out.mono ?_
    rintro e w1 ⟨A', c', rfl, hown, hb1⟩
    have HOWN := Lib.hid hown
    have HB1 := Lib.hid hb1
    have e0' := hb1.cell (p := ⟨b, 2, none⟩) hbl
    have e1' := hb1.frozen (p := ⟨b, 2, none⟩) hbl
    rw [← e0'] at c2
    rw [← e1'] at f2
    clear hown hb1 e0' e1'
    go_wp2_with fail
    refine bodyPost_end (results_none rfl _ _ _) rfl ?_
    exact ⟨rfl, KeptM.of H.out HOWN.out HA.out (fun _ _ h => h) HLEN.out HB1.out⟩
  · have hrt := (hrd.take y hy).from x hxy
    have HRT : Hid (LnsAt (Tg w) w (lo.map fun a => a.add (x * 5)) (y - x) ((ls.take y).drop x)) := Lib.hid hrt
    have HN : Hid ((lo.map fun a => a.add (x * 5)) = none → y - x = 0) := Lib.hid (fun e => by
      have := hnil (by cases lo with
        | none => rfl
        | some a => cases e)
      omega)
    clear hrd hrt hnil h
    obtain ⟨⟨rs, hr, ha⟩, hlen⟩ := HRT.out
    have HCL := Lib.hid (cloneL_any (c := lc - x) hr (fm_one rl_one rs) HN.out (by omega))
    have HA : Hid (All2 (RlIs (Tg w) w) rs ((ls.take y).drop x)) := Lib.hid ha
    have HLEN := Lib.hid hlen
    clear hr ha hlen
    go_enter Try.func41, Try.ntmps41
    go_wp2_with fail
    refine HCL.out.mono ?_
    rintro e w1 ⟨A', c', rfl, hown, hb1⟩
    have HOWN := Lib.hid hown
    have HB1 := Lib.hid hb1
    have e0' := hb1.cell (p := ⟨b, 2, none⟩) hbl
    have e1' := hb1.frozen (p := ⟨b, 2, none⟩) hbl
    rw [← e0'] at c2
    rw [← e1'] at f2
    clear hown hb1 e0' e1'
    go_wp2_with fail
    refine bodyPost_end (results_none rfl _ _ _) rfl ?_
    exact ⟨rfl, KeptM.of H.out HOWN.out HA.out (fun _ _ h => h) HLEN.out HB1.out⟩
end Go.Proofs.Ytgpanlkcpnlejaa
