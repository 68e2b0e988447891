/- The law StoreFull: its names. -/
import Derived.Test.YtgpanlkcpnlejaaS8
namespace Go.Proofs.Ytgpanlkcpnlejaa
open Go.RowKit Go.Maps
set_option maxRecDepth 100000
def fNm (j : Nat) : List UInt8 := [110, UInt8.ofNat (97 + j / 26), UInt8.ofNat (97 + j % 26)]
theorem fNm_ok (j : Nat) (h : j < 500) : okNm (fNm j) = true := by
  have h1 : j / 26 ≤ 19 := by omega
  have h2 : j % 26 ≤ 25 := by omega
  have key : ∀ x : Nat, x ≤ 25 → okB (UInt8.ofNat (97 + x)) = true := by decide
  show (decide (1 ≤ 3) && decide (3 ≤ 20) && (okB 110 && (okB (UInt8.ofNat (97 + j / 26)) && (okB (UInt8.ofNat (97 + j % 26)) && true)))) = true
  rw [key _ (show j / 26 ≤ 25 by omega), key _ h2]
  rfl
theorem fNm_inj {i j : Nat} (hi : i < 500) (hj : j < 500) (h : fNm i = fNm j) : i = j := by
  unfold fNm at h
  simp only [List.cons.injEq, and_true, true_and] at h
  have h1 := congrArg UInt8.toNat h.1
  have h2 := congrArg UInt8.toNat h.2
  rw [UInt8.toNat_ofNat', UInt8.toNat_ofNat'] at h1 h2
  omega
theorem fNm_more (j : Nat) : fNm j ≠ [109, 111, 114, 101] := by
  intro h; have := congrArg List.length h; simp [fNm] at this
/-- The store behind j names. -/
def NmIs (L : List Reg) (k : Nat) : Prop := L.length = k ∧ ∀ nm, hasS L nm = true ↔ ∃ j, j < k ∧ nm = fNm j
theorem NmIs.zero : NmIs [] 0 := ⟨rfl, fun nm => ⟨(fun h => by cases h), fun ⟨j, hj, _⟩ => by omega⟩⟩
theorem NmIs.not {L : List Reg} {k : Nat} (h : NmIs L k) (hk : k < 500) : hasS L (fNm k) = false := by
  cases e : hasS L (fNm k) with
  | false => rfl
  | true =>
    obtain ⟨j, hj, he⟩ := (h.2 _).1 e
    have := fNm_inj hk (by omega) he
    omega
theorem NmIs.step {L : List Reg} {k : Nat} (h : NmIs L k) (hk : k < 500) (hA : Asc L) (b : Nat) : NmIs (putS L ⟨fNm k, b⟩) (k + 1) := by
  refine ⟨?_, fun nm => ?_⟩
  · rw [len_put L _ hA]; simp only; rw [h.not hk]; simp [h.1]
  · rw [hasS_put, Bool.or_eq_true, h.2, beq_iff_eq]
    constructor
    · rintro (rfl | ⟨j, hj, rfl⟩)
      · exact ⟨k, by omega, rfl⟩
      · exact ⟨j, by omega, rfl⟩
    · rintro ⟨j, hj, rfl⟩
      by_cases e : j = k
      · subst e; exact .inl rfl
      · exact .inr ⟨j, by omega, rfl⟩
theorem NmIs.more {L : List Reg} {k : Nat} (h : NmIs L k) : hasS L [109, 111, 114, 101] = false := by
  cases e : hasS L [109, 111, 114, 101] with
  | false => rfl
  | true =>
    obtain ⟨j, hj, he⟩ := (h.2 _).1 e
    exact absurd he.symm (fNm_more j)
theorem umod (A m : Int) (hm : 0 < m) : ∃ a : Nat, (a : Int) < m ∧ (IntKind.u64.wrap A).tmod m = a := by
  have h0 : 0 ≤ IntKind.u64.wrap A := by rw [IntKind.wrap_u64]; exact Int.emod_nonneg _ (by decide)
  refine ⟨((IntKind.u64.wrap A).tmod m).toNat, ?_, ?_⟩
  · rw [Int.toNat_of_nonneg (Int.tmod_nonneg _ h0)]; exact Int.tmod_lt_of_pos _ hm
  · rw [Int.toNat_of_nonneg (Int.tmod_nonneg _ h0)]
/-- Two bytes make a text. -/
theorem two_bytes (j : Nat) (h : j < 500) (W : World) : (convert 56 9 (.slice (some ⟨W.heap.size, 0, none⟩) 2 2)).run Try.prog (W.alloc (.cells #[.int .u8 (97 + (j : Int) / 26), .int .u8 (97 + (j : Int) % 26)] 5)) = .ok (.string ⟨#[UInt8.ofNat (97 + j / 26), UInt8.ofNat (97 + j % 26)]⟩) (W.alloc (.cells #[.int .u8 (97 + (j : Int) / 26), .int .u8 (97 + (j : Int) % 26)] 5)) := by
  have hh : (W.alloc (.cells #[.int .u8 (97 + (j : Int) / 26), .int .u8 (97 + (j : Int) % 26)] 5)).heap[W.heap.size]? = some (.cells #[.int .u8 (97 + (j : Int) / 26), .int .u8 (97 + (j : Int) % 26)] 5 (0, 0)) := heap_alloc_new _ _
  have e0 : (((UInt8.ofNat (97 + j / 26)).toNat : Nat) : Int) = 97 + (j : Int) / 26 := by rw [UInt8.toNat_ofNat']; omega
  have e1 : (((UInt8.ofNat (97 + j % 26)).toNat : Nat) : Int) = 97 + (j : Int) % 26 := by rw [UInt8.toNat_ofNat']; omega
  revert hh
  generalize W.alloc (.cells #[.int .u8 (97 + (j : Int) / 26), .int .u8 (97 + (j : Int) % 26)] 5) = W1
  intro hh
  refine run_convert_bytes_back (P := Try.prog) _ 56 9 5 ⟨W.heap.size, 0, none⟩ 2 [UInt8.ofNat (97 + j / 26), UInt8.ofNat (97 + j % 26)] Try.underlying56 Try.underlying5 Try.underlying9 ?_
  intro i hi
  have hi2 : i = 0 ∨ i = 1 := by simp at hi; omega
  rcases hi2 with rfl | rfl
  · simp only [List.getElem_cons_zero, e0]
    simp [World.cell?, Addr.add, hh]
  · simp only [List.getElem_cons_succ, List.getElem_cons_zero, e1]
    simp [World.cell?, Addr.add, hh]
theorem fNm_bytes (j : Nat) : ((⟨#[110]⟩ : ByteArray) ++ ⟨#[UInt8.ofNat (97 + j / 26), UInt8.ofNat (97 + j % 26)]⟩).data.toList = fNm j := by
  rw [ByteArray.data_append]; simp [fNm]
def FuR (sb mb : Nat) (w : World) (k : Nat) (i : Value) (wr : World) : Prop :=
  ∃ (j : Nat) (L : List Reg) (E : Nat → En), k + j = 500 ∧ i = .int .i64 j ∧ SK sb mb L E wr ∧ NmIs L j ∧ Below w.heap.size w wr ∧ ∀ r ∈ L, w.heap.size ≤ r.v
end Go.Proofs.Ytgpanlkcpnlejaa
