/-
  The contract of the program's ImagePut.
-/
import Derived.Test.YteadibgjieimkaaT
namespace Go.Proofs.Yteadibgjieimkaa
set_option maxRecDepth 100000
open Go.RowKit

theorem keep_of {w1 W' : World} {p0 p1 : Addr} {u0 u1 : Value} {b off len : Nat} {xs : List Int} (x0 : w1.cell? p0 = some u0) (x1 : w1.cell? p1 = some u1) (hr : ∀ i, i < len → w1.cell? ⟨b, off + i, none⟩ = some (.int .i64 (xs.getD i 0))) (hb : Below w1.heap.size w1 W') :
    W'.cell? p0 = some u0 ∧ W'.cell? p1 = some u1 ∧ (∀ i, i < len → W'.cell? ⟨b, off + i, none⟩ = some (.int .i64 (xs.getD i 0))) :=
  ⟨kept hb (block_lt x0) x0, kept hb (block_lt x1) x1, fun i hi => kept hb (block_lt (hr i hi)) (hr i hi)⟩

theorem wrap_pow : ∀ j, j < 6 → wrap64 (2 ^ j) = pw j ∧ IntKind.i64.wrap (2 ^ j) = pw j := by decide +kernel
theorem Made.of_copy2 {w w1 w2 : World} {WA Wb : Int} {a : Option Addr} {len cap n g c : Nat} {xs ys : List Int} (hz : w.heap.size + 1 < w1.heap.size) (bb : Below w.heap.size w w1)
    (x0 : w1.cell? ⟨w.heap.size, 0, none⟩ = some (.int .i64 WA)) (x1 : w1.cell? ⟨w.heap.size, 1, none⟩ = some (.slice a len cap)) (y0 : w1.cell? ⟨w.heap.size + 1, 0, none⟩ = some (.int .i64 0)) (y1 : w1.cell? ⟨w.heap.size + 1, 1, none⟩ = some (.slice none 0 0)) (yf : ∀ o, w1.frozen? ⟨w.heap.size + 1, o, none⟩ = false) (h : Row w1 a len xs)
    (hb : Below (w1.heap.size + 1) (w1.alloc (.cells #[.int .i64 0, .slice none 0 0] 29)).drew w2) (hg : w1.heap.size + 1 ≤ g) (ho : OwnI w2 (w1.heap.size + 1) (some ⟨g, 0, none⟩) n c ys) :
    Copied w ((w2.setCell ⟨w1.heap.size, 0, none⟩ (.int .i64 Wb)).setCell ⟨w1.heap.size, 1, none⟩ (.slice (some ⟨g, 0, none⟩) n c)) g w1.heap.size WA a len cap xs Wb n c ys := by
  have z0 : w2.cell? ⟨w1.heap.size, 0, none⟩ = some (.int .i64 0) := kept hb (by simp) (by simp)
  have z1 : w2.cell? ⟨w1.heap.size, 1, none⟩ = some (.slice none 0 0) := kept hb (by simp) (by simp)
  have hB : Below w1.heap.size w1 ((w2.setCell ⟨w1.heap.size, 0, none⟩ (.int .i64 Wb)).setCell ⟨w1.heap.size, 1, none⟩ (.slice (some ⟨g, 0, none⟩) n c)) :=
    (((((Below.refl _ _).alloc (Nat.le_refl _) _).drew).trans (hb.mono (by omega))).setCell (by simp) _).setCell (by simp) _
  have z1' : (w2.setCell ⟨w1.heap.size, 0, none⟩ (.int .i64 Wb)).cell? ⟨w1.heap.size, 1, none⟩ = some (.slice none 0 0) := by rw [World.cell?_setCell_other _ _ _ _ (by simp)]; exact z1
  exact ⟨kept hB (show _ < _ by simp; omega) x0, kept hB (show _ < _ by simp; omega) x1, kept hB (by simpa using hz) y0, kept hB (by simpa using hz) y1, fun o => (hB.frozen (by simpa using hz)).trans (yf o),
    by rw [World.cell?_setCell_other _ _ _ _ (by simp)]; exact World.cell?_setCell_same _ _ _ z0, World.cell?_setCell_same _ _ _ z1', h.bel hB,
    ((ho.store (by simp) _).store (by simp) _).mono (by omega), bb.trans (hB.mono (by omega)), by omega, row_far h (by omega), by omega, by omega⟩

end Go.Proofs.Yteadibgjieimkaa

