/- Two names of one entry. -/
import Derived.Test.YtgpanlkcpnlejaaE4
set_option linter.unusedSimpArgs false
set_option linter.unusedVariables false
namespace Go.Proofs.Ytgpanlkcpnlejaa
open Go.RowKit Go.Maps
set_option maxRecDepth 100000
abbrev LA (ie : Nat) : List Reg := [⟨[97], ie⟩, ⟨[98], ie⟩]
structure Al (T sb mb ie : Nat) (w : World) : Prop where
  ex : ∃ M, SA T sb mb (LA ie) M w
theorem Al.below {T sb mb ie : Nat} {w w' : World} (h : Al T sb mb ie w) (k : Below w.heap.size w w') : Al T sb mb ie w' := by
  obtain ⟨M, h⟩ := h
  exact ⟨M, h.below k⟩
theorem Al.hi {T sb mb ie : Nat} {w : World} (h : Al T sb mb ie w) : T ≤ w.heap.size := by
  obtain ⟨M, h⟩ := h
  exact h.hi
/-- One of the two. -/
def Ab (s : ByteArray) : Prop := s = ⟨#[97]⟩ ∨ s = ⟨#[98]⟩
theorem Ab.ok {s : ByteArray} (h : Ab s) : okNm s.data.toList = true := by rcases h with rfl | rfl <;> rfl
theorem Ab.size {s : ByteArray} (h : Ab s) : s.size ≤ maxLen := by rcases h with rfl | rfl <;> decide
theorem Ab.has {s : ByteArray} (h : Ab s) (ie : Nat) : hasS (LA ie) s.data.toList = true := by rcases h with rfl | rfl <;> rfl
theorem Ab.get {s : ByteArray} (h : Ab s) (ie : Nat) : (getS (LA ie) s.data.toList).v = ie := by rcases h with rfl | rfl <;> rfl
theorem al_new {T sb mb ie : Nat} {M : Nat → Mc} {w : World} (h : SA T sb mb [⟨[97], ie⟩] M w) :
    Calls Try.prog 20 #[BP sb, .string ⟨#[98]⟩, .string ⟨#[97]⟩] w fun e w' => e = .returned (.int .i64 0) ∧ Al T sb mb ie w' ∧ Below T w w' := by
  obtain ⟨E, h⟩ := h
  refine (alias_give h.sk ⟨#[98]⟩ ⟨#[97]⟩ (by decide) rfl rfl (by rw [Lib.toList_data, Lib.toList_data]; rfl) 0 (fun W w' => SK sb mb (LA ie) E w' ∧ Kept (· = mb) W w')
    (fun W hW => give_new (h.sk.below hW) ⟨#[98]⟩ ie rfl rfl (by simp) ((h.sk.below hW).ent ⟨[97], ie⟩ (by simp)))).mono fun e w' ⟨he, W, hW, hsk, hk⟩ => ?_
  obtain ⟨h1, h2⟩ := (h.below hW).names hsk hk (fun r hr => ⟨⟨[97], ie⟩, by simp, by
    simp only [List.mem_cons, List.not_mem_nil, or_false] at hr
    rcases hr with rfl | rfl <;> rfl⟩)
  exact ⟨he, ⟨M, E, h1⟩, (hW.mono h.hi).trans h2⟩
abbrev AlR (T sb mb ie : Nat) (w : World) : Int → World → Prop := fun _ w' => Al T sb mb ie w' ∧ Below T w w'
theorem al_put {T sb mb ie : Nat} {M : Nat → Mc} {w : World} {s : ByteArray} (hs : Ab s) {m : Mc} {e : Ending} {w' : World} (h : PutP T sb mb (LA ie) M s.data.toList m w e w') : Nb (AlR T sb mb ie w) e w' := by
  obtain ⟨⟨b, _, he, hsa⟩, hb⟩ := h
  have hp : (putTo (LA ie) M s.data.toList m b).2.1 = LA ie := by unfold putTo; rw [if_pos (hs.has ie)]
  rw [hp] at hsa
  exact ⟨_, he, ⟨_, hsa⟩, hb⟩
theorem al_err {T sb mb ie : Nat} {w : World} (h : Al T sb mb ie w) {k : Int} {e : Ending} {w' : World} (x : e = .returned (.int .i64 k) ∧ Below w.heap.size w w') : Nb (AlR T sb mb ie w) e w' :=
  ⟨k, x.1, h.below x.2, x.2.mono h.hi⟩
theorem al_from {T sb mb ie : Nat} {w W : World} (hT : T ≤ w.heap.size) (hW : Below w.heap.size w W) {e : Ending} {w' : World} (h : Nb (AlR T sb mb ie W) e w') : Nb (AlR T sb mb ie w) e w' := by
  obtain ⟨x, he, h1, h2⟩ := h
  exact ⟨x, he, h1, (hW.mono hT).trans h2⟩
theorem al_kp {T sb mb ie : Nat} {M : Nat → Mc} {w : World} {r : Reg} {x y : Nat} {e : Ending} {w' : World} (h : e = .returned (.int .i64 0) ∧ KpP T sb mb (LA ie) M r x y w' ∧ Below T w w') : Nb (AlR T sb mb ie w) e w' :=
  ⟨0, h.1, ⟨_, h.2.1.sa⟩, h.2.2⟩
theorem al_do {P : TypeId → Nat → Prop} {T sb mb ie : Nat} {w : World} (h : Al T sb mb ie w) (s : ByteArray) (hs : Ab s) (k : Int) (ot tx : ByteArray) (A : Option Addr) (n c : Nat) (a b : Int) (ls : List Ln) (hl : LnsAt P w A n ls) (hP : ∀ e b, P e b → b < w.heap.size) (hA : A = none → n = 0) (hn : n ≤ 140737488351232) (ha : I64 a) (hb : I64 b)
    (hk : k = 0 ∨ k = 1 ∨ k = 2 ∨ k = 3 ∨ k = 7 ∨ k = 8) : Calls Try.prog 21 #[BP sb, DV k s ot tx A n c a b] w (Nb (AlR T sb mb ie w)) := by
  have hT := h.hi
  have key : ∀ W, Below w.heap.size w W → LnsAt (fun _ b => b < w.heap.size) W A n ls ∧ ∀ b, b < w.heap.size → b < W.heap.size := fun W hW => ⟨hl.keep fun e b hb => ⟨hW.block b (hP e b hb), hP e b hb⟩, fun b hb => Nat.lt_of_lt_of_le hb hW.size⟩
  rcases hk with rfl | rfl | rfl | rfl | rfl | rfl
  · refine do_0 fun W hW => ?_
    have hAl := h.below hW
    obtain ⟨M, E, hsl⟩ := hAl
    cases ht : okTx tx.data.toList with
    | false => exact (define_arg hsl.sk s tx ht).mono fun e w' x => al_from hT hW (al_err (h.below hW) x)
    | true => exact (defineA ⟨E, hsl⟩ s tx hs.ok ht).mono fun e w' x => al_from hT hW (al_put hs x)
  · refine do_1 fun W hW => ?_
    have hAl := h.below hW
    obtain ⟨M, E, hsl⟩ := hAl
    cases ht : okTx tx.data.toList with
    | false => exact (append_arg hsl.sk s tx ht).mono fun e w' x => al_from hT hW (al_err (h.below hW) x)
    | true =>
      by_cases hz : (mOf (LA ie) M s.data.toList).tx.size + tx.size ≤ 2000
      · exact (appendA ⟨E, hsl⟩ s tx hs.ok ht hz).mono fun e w' x => al_from hT hW (al_put hs x)
      · exact (appendA_limit ⟨E, hsl⟩ s tx hs.ok ht (by omega)).mono fun e w' x => al_from hT hW (al_err (h.below hW) x)
  · refine do_2 fun W hW => ?_
    have hAl := h.below hW
    obtain ⟨M, E, hsl⟩ := hAl
    obtain ⟨hl2, hP2⟩ := key W hW
    cases ht : ls.all okLn with
    | false => exact (macro_arg hsl.sk s hl2 (fun _ => hP2) (by omega) ht).mono fun e w' x => al_from hT hW (al_err (h.below hW) x)
    | true =>
      by_cases hz : n ≤ 2000
      · exact (macroA ⟨E, hsl⟩ s hs.ok hl2 (fun _ => hP2) hA (by omega) ht hz).mono fun e w' x => al_from hT hW (al_put hs x)
      · exact (macroA_limit ⟨E, hsl⟩ s hs.ok hl2 (fun _ => hP2) (by omega) ht (by omega)).mono fun e w' x => al_from hT hW (al_err (h.below hW) x)
  · refine do_3 fun W hW => ?_
    have hAl := h.below hW
    obtain ⟨M, E, hsl⟩ := hAl
    obtain ⟨hl2, hP2⟩ := key W hW
    cases ht : ls.all okLn with
    | false => exact (add_arg hsl.sk s hl2 (fun _ => hP2) (by omega) ht).mono fun e w' x => al_from hT hW (al_err (h.below hW) x)
    | true =>
      by_cases hz : (mOf (LA ie) M s.data.toList).ls.length + n ≤ 2000
      · exact (addA ⟨E, hsl⟩ s hs.ok hl2 (fun _ => hP2) hA (by omega) ht hz).mono fun e w' x => al_from hT hW (al_put hs x)
      · exact (addA_limit ⟨E, hsl⟩ s hs.ok hl2 (fun _ => hP2) (by omega) ht (by omega)).mono fun e w' x => al_from hT hW (al_err (h.below hW) x)
  · refine do_7 fun W hW => ?_
    have hAl := h.below hW
    obtain ⟨M, hsa⟩ := hAl
    exact (chopA hsa s hs.size (hs.has ie)).mono fun e w' x => al_from hT hW (al_kp x)
  · refine do_8 fun W hW => ?_
    have hAl := h.below hW
    obtain ⟨M, hsa⟩ := hAl
    obtain ⟨x, y, h1, _, _⟩ := span_nat (lenM (M (getS (LA ie) s.data.toList).v)) a b
    exact (partA hsa s a b ha hb hs.size (hs.has ie) x y h1).mono fun e w' x => al_from hT hW (al_kp x)
end Go.Proofs.Ytgpanlkcpnlejaa
