/-
  What stays when an image is put into a box that was made before.
-/
import Derived.Test.YteadibgjieimkaaN
import Derived.Test.YteadibgjieimkaaEx
import Derived.Deep.DeepCutAuto
namespace Go.Proofs.Yteadibgjieimkaa
set_option maxRecDepth 100000
open Go.RowKit

def set2 (wr : World) (k : Nat) (u0 u1 : Value) : World := (wr.setCell ⟨k, 0, none⟩ u0).setCell ⟨k, 1, none⟩ u1
theorem set2_grown (wr : World) (k : Nat) (u0 u1 : Value) : wr.grownBy ((wr.setCell ⟨k, 0, none⟩ u0).setCell ⟨k, 1, none⟩ u1) (some k) := grown_set (grown_set (World.grownBy.refl _ _))
theorem set2_cell {wr : World} {k : Nat} {p : Addr} {u0 u1 v : Value} (h : wr.cell? p = some v) (hn : p.block < k) : ((wr.setCell ⟨k, 0, none⟩ u0).setCell ⟨k, 1, none⟩ u1).cell? p = some v :=
  (set2_grown wr k u0 u1).cell h (fun e => absurd (Option.some.inj e) (Nat.ne_of_lt hn))
theorem set2_row {wr : World} {k n : Nat} {a : Option Addr} {xs : List Int} {u0 u1 : Value} (h : Row wr a n xs) (hn : ∀ b off, a = some ⟨b, off, none⟩ → 0 < n → b ≠ k) : Row ((wr.setCell ⟨k, 0, none⟩ u0).setCell ⟨k, 1, none⟩ u1) a n xs :=
  h.apart (set2_grown wr k u0 u1) (fun b off e hl h => hn b off e hl (Option.some.inj h))
theorem set2_old {wr : World} {k n : Nat} {a : Option Addr} {xs : List Int} {u0 u1 : Value} (h : Row wr a n xs) (hn : ∀ b off, a = some ⟨b, off, none⟩ → 0 < n → b < k) : Row ((wr.setCell ⟨k, 0, none⟩ u0).setCell ⟨k, 1, none⟩ u1) a n xs :=
  set2_row h fun b off e hl => Nat.ne_of_lt (hn b off e hl)
theorem set2_c0 {wr : World} {k : Nat} {u0 u1 v : Value} (h : wr.cell? ⟨k, 0, none⟩ = some v) : ((wr.setCell ⟨k, 0, none⟩ u0).setCell ⟨k, 1, none⟩ u1).cell? ⟨k, 0, none⟩ = some u0 := by
  rw [World.cell?_setCell_other _ _ _ _ (by simp)]; exact World.cell?_setCell_same _ _ _ h
theorem set2_c1 {wr : World} {k : Nat} {u0 u1 v : Value} (h : wr.cell? ⟨k, 1, none⟩ = some v) : ((wr.setCell ⟨k, 0, none⟩ u0).setCell ⟨k, 1, none⟩ u1).cell? ⟨k, 1, none⟩ = some u1 :=
  World.cell?_setCell_same _ _ _ (by rw [World.cell?_setCell_other _ _ _ _ (by simp)]; exact h)
theorem set2_bel {w wr : World} {B k : Nat} {u0 u1 : Value} (h : Below B w wr) (hB : B ≤ k) : Below B w ((wr.setCell ⟨k, 0, none⟩ u0).setCell ⟨k, 1, none⟩ u1) := (h.setCell hB _).setCell hB _
theorem row_cut {w wr : World} {B n : Nat} {a : Option Addr} {xs : List Int} (h : Row w a n xs) (hb : Below B w wr) (hl : ∀ b off, a = some ⟨b, off, none⟩ → 0 < n → b < B) : Row wr a n xs := by
  obtain ⟨h1, h2⟩ := h
  refine ⟨h1, ?_⟩
  rcases h2 with h2 | ⟨b, off, rfl, hc⟩
  · exact .inl h2
  · by_cases h0 : n = 0
    · exact .inl h0
    · exact .inr ⟨b, off, rfl, fun i hi => kept hb (hl b off rfl (by omega)) (hc i hi)⟩
theorem own_cut {w wr : World} {B C n c : Nat} {a : Option Addr} {xs : List Int} (h : OwnI w C a n c xs) (hb : Below B w wr) (hl : ∀ g, a = some ⟨g, 0, none⟩ → g < B) : OwnI wr C a n c xs := by
  obtain ⟨h1, h2⟩ := h
  refine ⟨h1, ?_⟩
  rcases h2 with h2 | ⟨g, k, cur, e, hg, hc, r⟩
  · exact .inl h2
  · simp only [Value.slice.injEq] at e
    exact .inr ⟨g, k, cur, by simp only [Value.slice.injEq]; exact e, hg, by rw [hb.block g (hl g e.1)]; exact hc, r⟩
end Go.Proofs.Yteadibgjieimkaa

