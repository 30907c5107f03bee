/-
  Lists of switches as the exact law on SwitchList has them: compared, marked, looked at again.
-/
import Derived.Test.YtnfkafaolelkbaaKk
import Derived.Test.YtnfkafaolelkbaaK
namespace Go.Proofs.Ytnfkafaolelkbaa
set_option maxRecDepth 100000
open Go.RowKit

/-- A list of switches that the call owns, by its numbers. -/
def OwnF (w : World) (B : Nat) (a : Option Addr) (n cap : Nat) (F : List Int) : Prop := w.ownsRow B 97 4 (.slice a n cap) n (F.map (Value.int .i64))
/-- A list of switches, to be read, by its numbers. -/
def RowF (w : World) (a : Option Addr) (n : Nat) (F : List Int) : Prop := F.length = n * 4 ∧ (n = 0 ∨ ∃ g, a = some ⟨g, 0, none⟩ ∧ ∀ c, c < n * 4 → w.cell? ⟨g, c, none⟩ = some (.int .i64 (F.getD c 0)))
theorem OwnF.len {w : World} {B : Nat} {a : Option Addr} {n cap : Nat} {F : List Int} (h : OwnF w B a n cap F) : F.length = n * 4 := by
  have := h.1; simpa using this
theorem OwnF.cases {w : World} {B : Nat} {a : Option Addr} {n cap : Nat} {F : List Int} (h : OwnF w B a n cap F) : (a = none ∧ n = 0) ∨ ∃ g, a = some ⟨g, 0, none⟩ ∧ B ≤ g ∧ g < w.heap.size := by
  rcases h.2 with ⟨h1, h0⟩ | ⟨g, c, cur, h1, h2, h3, _⟩
  · left; simp only [Value.slice.injEq] at h1; exact ⟨h1.1, by omega⟩
  · right; simp only [Value.slice.injEq] at h1
    exact ⟨g, h1.1, h2, (Array.getElem?_eq_some_iff.1 h3).1⟩
theorem OwnF.cell {w : World} {B g : Nat} {n cap : Nat} {F : List Int} (h : OwnF w B (some ⟨g, 0, none⟩) n cap F) {c : Nat} (hc : c < n * 4) : w.cell? ⟨g, c, none⟩ = some (.int .i64 (F.getD c 0)) := by
  have hl := h.len
  rw [World.ownsRow.cellAt h c (by omega), List.getElem?_map, List.getElem?_eq_getElem (by omega), getD_elem (by omega)]; rfl
theorem OwnF.row {w : World} {B : Nat} {a : Option Addr} {n cap : Nat} {F : List Int} (h : OwnF w B a n cap F) : RowF w a n F := by
  refine ⟨h.len, ?_⟩
  rcases h.cases with ⟨_, h0⟩ | ⟨g, rfl, _⟩
  · exact .inl h0
  · exact .inr ⟨g, rfl, fun c hc => h.cell hc⟩
theorem OwnF.frozen {w : World} {B g : Nat} {n cap : Nat} {F : List Int} (h : OwnF w B (some ⟨g, 0, none⟩) n cap F) (j : Nat) : w.frozen? ⟨g, j, none⟩ = false := World.ownsRow.frozenAt h j
theorem OwnF.bel {w w' : World} {B : Nat} {a : Option Addr} {n cap : Nat} {F : List Int} (h : OwnF w B a n cap F) (hb : Below w.heap.size w w') : OwnF w' B a n cap F := by
  refine World.ownsRow.kept h (below_grown hb none) ?_
  rcases h.cases with ⟨rfl, _⟩ | ⟨g, rfl, _, _⟩
  · left; rfl
  · right; simp [Value.ownBlock]
theorem OwnF.set {w : World} {B g : Nat} {n cap : Nat} {F : List Int} (h : OwnF w B (some ⟨g, 0, none⟩) n cap F) (j : Nat) (u : Int) : OwnF (w.setCell ⟨g, j, none⟩ (.int .i64 u)) B (some ⟨g, 0, none⟩) n cap (F.set j u) := by
  unfold OwnF; rw [List.map_set]; exact (World.ownsRow.stored h j _).1
theorem OwnF.apart2 {W0 wr : World} {a a' : Option Addr} {B n c L U L' U' : Nat} {F : List Int} (h : OwnF W0 B a n c F) (hg : W0.grownBy wr (rowOf a')) (hr : ∀ p, a = some p → L ≤ p.block ∧ p.block < U) (hr' : ∀ p, a' = some p → L' ≤ p.block ∧ p.block < U') (hs : U ≤ L' ∨ U' ≤ L) : OwnF wr B a n c F := by
  refine World.ownsRow.kept h hg ?_
  rcases h.cases with ⟨rfl, _⟩ | ⟨g, rfl, hg, _⟩
  · left; rfl
  · right; exact ne_rowOf (B := g) hr' (by have := hr _ rfl; simp at this; omega)
theorem rng_ownF {w : World} {B n c : Nat} {a : Option Addr} {F : List Int} (h : OwnF w B a n c F) : ∀ p, a = some p → B ≤ p.block ∧ p.block < w.heap.size := by
  intro p hp
  rcases h.cases with ⟨e, _⟩ | ⟨g, e, h1, h2⟩
  · rw [e] at hp; cases hp
  · rw [e] at hp; cases hp; exact ⟨h1, h2⟩
theorem RowF.bel {w w' : World} {a : Option Addr} {n : Nat} {F : List Int} (h : RowF w a n F) (hb : Below w.heap.size w w') : RowF w' a n F :=
  ⟨h.1, h.2.imp id fun ⟨g, e, hc⟩ => ⟨g, e, fun c hl => kept hb (block_lt (hc c hl)) (hc c hl)⟩⟩
theorem RowF.apart2 {W0 wr : World} {a a' : Option Addr} {n L U L' U' : Nat} {F : List Int} (h : RowF W0 a n F) (hg : W0.grownBy wr (rowOf a')) (hr : ∀ p, a = some p → 0 < n → L ≤ p.block ∧ p.block < U) (hr' : ∀ p, a' = some p → L' ≤ p.block ∧ p.block < U') (hs : U ≤ L' ∨ U' ≤ L) : RowF wr a n F := by
  refine ⟨h.1, ?_⟩
  rcases h.2 with h0 | ⟨g, e, hc⟩
  · exact .inl h0
  by_cases hn : n = 0
  · exact .inl hn
  have hr2 := hr _ e (by omega)
  dsimp only at hr2
  have hne : some g ≠ rowOf a' := ne_rowOf (B := g) hr' (by omega)
  exact .inr ⟨g, e, fun c hl => hg.cell (hc c hl) hne⟩
theorem RowF.at {w : World} {a : Option Addr} {n : Nat} {F : List Int} (h : RowF w a n F) {k : Nat} (hk : k < n) : ∃ g, a = some ⟨g, 0, none⟩ ∧ w.cell? ⟨g, k * 4, none⟩ = some (.int .i64 (F.getD (k * 4) 0)) ∧ w.cell? ⟨g, k * 4 + 1, none⟩ = some (.int .i64 (F.getD (k * 4 + 1) 0)) ∧ w.cell? ⟨g, k * 4 + 2, none⟩ = some (.int .i64 (F.getD (k * 4 + 2) 0)) ∧ w.cell? ⟨g, k * 4 + 3, none⟩ = some (.int .i64 (F.getD (k * 4 + 3) 0)) := by
  rcases h.2 with h0 | ⟨g, e, hc⟩
  · omega
  · exact ⟨g, e, hc _ (by omega), hc _ (by omega), hc _ (by omega), hc _ (by omega)⟩
def GivesF (w : World) (N : Nat) (F : List Int) (e : Ending) (w' : World) : Prop :=
  (∃ a cap, e = .returned (.slice a N cap) ∧ OwnF w' w.heap.size a N cap F) ∧ Below w.heap.size w w'
theorem list_all (W : Int) (xs : List Int) : (listS W xs).length ≤ 135 := by
  unfold listS
  split
  · rename_i hv
    have h1 := validB_W hv
    obtain ⟨W, rfl⟩ := Int.eq_ofNat_of_zero_le (by omega : 0 ≤ W)
    have hI := Im.of hv rfl
    have := hI.w6
    have := hI.l6
    exact swl_135 _ (by simp; omega) (by omega)
  · simp
theorem GivesO.flat {w w' : World} {L : List SwT} {e : Ending} (h : GivesO w L e w') : GivesF w L.length (flatS L) e w' := h

theorem mark4 {F : List Int} {k : Int} {n j : Nat} (hl : F.length = n * 4) (hj : j < n) :
    (((((marks k (n * 4)).take (j * 4) ++ F.drop (j * 4)).set (j * 4) (k + 4 * (j : Int))).set (j * 4 + 1) (k + 4 * (j : Int) + 1)).set (j * 4 + 2) (k + 4 * (j : Int) + 1 + 1)).set (j * 4 + 3) (k + 4 * (j : Int) + 1 + 1 + 1) = (marks k (n * 4)).take ((j + 1) * 4) ++ F.drop ((j + 1) * 4) := by
  have e0 : k + 4 * (j : Int) = k + ((j * 4 : Nat) : Int) := by omega
  have e1 : k + 4 * (j : Int) + 1 = k + ((j * 4 + 1 : Nat) : Int) := by omega
  have e2 : k + 4 * (j : Int) + 1 + 1 = k + ((j * 4 + 1 + 1 : Nat) : Int) := by omega
  have e3 : k + 4 * (j : Int) + 1 + 1 + 1 = k + ((j * 4 + 1 + 1 + 1 : Nat) : Int) := by omega
  rw [e3, e2, e1, e0, mark_step hl (by omega), mark_step hl (by omega), show j * 4 + 2 = j * 4 + 1 + 1 by rfl, mark_step hl (by omega), show j * 4 + 3 = j * 4 + 1 + 1 + 1 by rfl, mark_step hl (by omega), show (j + 1) * 4 = j * 4 + 1 + 1 + 1 + 1 by omega]

end Go.Proofs.Ytnfkafaolelkbaa

