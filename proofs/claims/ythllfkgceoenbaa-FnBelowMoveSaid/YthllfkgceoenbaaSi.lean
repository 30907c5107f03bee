/-
  The contracts of DrawSumsValid and DrawSumsFit.
-/
import Derived.Test.YthllfkgceoenbaaSg
import Derived.Deep.RegionLaw
namespace Go.Proofs.Ythllfkgceoenbaa
open Go.RowKit

theorem sumsB_flip {xs ys : List Int} (h : sumsB xs ys = true) : sumsB ys xs = true := by
  unfold sumsB at *
  simp only [Bool.and_eq_true] at *
  exact ⟨h.2.1, h.1, h.2.2.2, h.2.2.1⟩
theorem sumsB_parts {xs ys : List Int} (h : sumsB xs ys = true) : (1 ≤ xs.length ∧ xs.length ≤ 6) ∧ (1 ≤ ys.length ∧ ys.length ≤ 6) ∧ (∀ i, i < xs.length → 0 ≤ xs.getD i 0 ∧ xs.getD i 0 ≤ ys.length) ∧ (∀ i, i < ys.length → 0 ≤ ys.getD i 0 ∧ ys.getD i 0 ≤ xs.length) := by
  unfold sumsB at h
  simp only [Bool.and_eq_true] at h
  have h1 := inB_iff.1 h.1
  have h2 := inB_iff.1 h.2.1
  exact ⟨by omega, by omega, allIn_iff.1 h.2.2.1, allIn_iff.1 h.2.2.2⟩
theorem row_news {w : World} {b off n : Nat} {xs : List Int} (h : Row w (some ⟨b, off, none⟩) n xs) (hn : 0 < n := by omega) : ∀ j u, (xs.map (Value.int .i64))[j]? = some u → w.cell? ((⟨b, off, none⟩ : Addr).add j) = some u := by
  obtain ⟨b', off', e, hc⟩ := h.2.resolve_left (by omega)
  cases e
  exact news_of h.1 hc

/-- What a function that draws sums leaves. -/
def DrawnS (w : World) (e : Ending) (w' : World) : Prop :=
  ∃ (aR : Option Addr) (n c : Nat) (xs : List Int) (aC : Option Addr) (m c' : Nat) (ys : List Int), e = .returned (.tuple #[.slice aR n c, .slice aC m c']) ∧ Row w' aR n xs ∧ Row w' aC m ys ∧ (n ≤ 6 ∧ 1 ≤ m ∧ m ≤ 12) ∧ (n ≤ c ∧ m ≤ c') ∧ (∀ i, i < n → -1 ≤ xs.getD i 0 ∧ xs.getD i 0 ≤ 7) ∧ (∀ i, i < m → -1 ≤ ys.getD i 0 ∧ ys.getD i 0 ≤ 7) ∧ Below w.heap.size w w'

theorem rsOut_bd (W : Int) (xs : List Int) : ∀ i, i < (rsOut W xs).length → -1 ≤ (rsOut W xs).getD i 0 ∧ (rsOut W xs).getD i 0 ≤ 7 := by
  unfold rsOut
  by_cases hv : validB W xs = true
  · rw [if_pos hv]
    intro i hi
    rw [rs_len] at hi
    rw [rs_get hi]
    have := cnt_bd (xs.getD i 0) W.toNat
    have := validB_W hv
    omega
  · rw [if_neg hv]; intro i hi; simp at hi
theorem csOut_bd (W : Int) (xs : List Int) : ∀ i, i < (csOut W xs).length → -1 ≤ (csOut W xs).getD i 0 ∧ (csOut W xs).getD i 0 ≤ 7 := by
  unfold csOut
  by_cases hv : validB W xs = true
  · rw [if_pos hv]
    intro i hi
    rw [cs_len] at hi
    rw [cs_get hi]
    have := csI_bd xs i xs.length
    have := validB_len hv
    omega
  · rw [if_neg hv]; intro i hi; simp at hi
/-- What DrawSumsFit leaves. -/
def DrawnF (w : World) (e : Ending) (w' : World) : Prop :=
  ∃ (W : Int) (s : Option Addr) (l cg : Nat) (xs : List Int) (aR : Option Addr) (n c : Nat) (rows : List Int) (aC : Option Addr) (m c' : Nat) (cols : List Int), e = .returned (.tuple #[.agg #[.int .i64 W, .slice s l cg], .slice aR n c, .slice aC m c']) ∧ Row w' s l xs ∧ Row w' aR n rows ∧ Row w' aC m cols ∧ (l ≤ 6 ∧ n ≤ 6 ∧ m ≤ 12) ∧ (l ≤ cg ∧ n ≤ c ∧ m ≤ c') ∧ (∀ i, i < n → -1 ≤ rows.getD i 0 ∧ rows.getD i 0 ≤ 7) ∧ (∀ i, i < m → -1 ≤ cols.getD i 0 ∧ cols.getD i 0 ≤ 7) ∧ Below w.heap.size w w'

end Go.Proofs.Ythllfkgceoenbaa

