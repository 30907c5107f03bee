/-
  The contracts of the laws' drawing functions that draw one image.
-/
import Derived.Test.YtcnmoodkmlahnaaY
namespace Go.Proofs.Ytcnmoodkmlahnaa
open Go.RowKit

/-- What such a function leaves: an image of at most six rows, valid or not. -/
def Drawn (w : World) (e : Ending) (w' : World) : Prop :=
  ∃ (W : Int) (s : Option Addr) (n cg : Nat) (xs : List Int), e = .returned (.agg #[.int .i64 W, .slice s n cg]) ∧ Row w' s n xs ∧ (n ≤ 6 ∧ n ≤ cg) ∧ Below w.heap.size w w'
theorem grown_cut {w w1 w2 : World} {r B : Nat} (h : Below B w w1) (hg : w1.grownBy w2 (some r)) (hr : B ≤ r) (hB : B ≤ w1.heap.size) : Below B w w2 := h.trans ((grown_below hg).mono (by omega))

/-- A law's middle: the drawn image in a box of its own. -/
structure LS (w wr : World) (kb : Nat) (W : Int) (s : Option Addr) (n cg : Nat) (xs : List Int) : Prop where
  c0 : wr.cell? ⟨kb, 0, none⟩ = some (.int .i64 W)
  c1 : wr.cell? ⟨kb, 1, none⟩ = some (.slice s n cg)
  row : Row wr s n xs
  bel : Below w.heap.size w wr
theorem LS.move {w wr w' : World} {kb : Nat} {W : Int} {s : Option Addr} {n cg : Nat} {xs : List Int} (h : LS w wr kb W s n cg xs) (hb : Below wr.heap.size wr w') : LS w w' kb W s n cg xs :=
  ⟨kept hb (block_lt h.c0) h.c0, kept hb (block_lt h.c1) h.c1, h.row.bel hb, h.bel.trans (hb.mono h.bel.size)⟩
theorem LS.mk0 {w w1 : World} {W : Int} {s : Option Addr} {n cg : Nat} {xs : List Int} (hR : Row w1 s n xs) (hb : Below w.heap.size w w1) : LS w (w1.alloc (.cells #[.int .i64 W, .slice s n cg] 25)) w1.heap.size W s n cg xs :=
  ⟨by simp, by simp, hR.bel ((Below.refl _ _).alloc (Nat.le_refl _) _), hb.alloc hb.size _⟩
end Go.Proofs.Ytcnmoodkmlahnaa

