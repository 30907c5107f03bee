/-
  The contracts of the functions that give an image, at valid images; boxes of a law's middle.
-/
import Derived.Test.YteadibgjieimkaaEo
import Derived.Test.YteadibgjieimkaaN
import Derived.Test.YteadibgjieimkaaP
import Derived.Test.YteadibgjieimkaaI
import Derived.Test.YteadibgjieimkaaU
namespace Go.Proofs.Yteadibgjieimkaa
set_option maxRecDepth 100000
open Go.RowKit

theorem Ctx.a3 {w wr : World} {b0 b1 b2 b3 : BI} {l : List BI} (h : Ctx w wr (b0 :: b1 :: b2 :: b3 :: l)) : b3.At wr := h.pop.a2
theorem Ctx.a4 {w wr : World} {b0 b1 b2 b3 b4 : BI} {l : List BI} (h : Ctx w wr (b0 :: b1 :: b2 :: b3 :: b4 :: l)) : b4.At wr := h.pop.a3
theorem Ctx.a5 {w wr : World} {b0 b1 b2 b3 b4 b5 : BI} {l : List BI} (h : Ctx w wr (b0 :: b1 :: b2 :: b3 :: b4 :: b5 :: l)) : b5.At wr := h.pop.a4
theorem Ctx.a6 {w wr : World} {b0 b1 b2 b3 b4 b5 b6 : BI} {l : List BI} (h : Ctx w wr (b0 :: b1 :: b2 :: b3 :: b4 :: b5 :: b6 :: l)) : b6.At wr := h.pop.a5
def Olds (k : Nat) (l : List BI) : Prop := ∀ b ∈ l, b.kb < k ∧ ∀ q off, b.s = some ⟨q, off, none⟩ → 0 < b.n → q < k
theorem Ctx.olds {w wr : World} {l : List BI} (h : Ctx w wr l) {k : Nat} (hk : wr.heap.size ≤ k) : Olds k l := fun b hb =>
  ⟨Nat.lt_of_lt_of_le (show b.kb < wr.heap.size from block_lt (h.all b hb).c0) hk, fun q off e hn => Nat.lt_of_lt_of_le (row_lt (h.all b hb).row q off e hn) hk⟩
/-- Another image is put into the first box. -/
theorem Ctx.putk {w wr : World} {b0 : BI} {l : List BI} {W : Int} {s : Option Addr} {n cg : Nat} {xs : List Int} (h : Ctx w wr (b0 :: l)) (hR : Row wr s n xs) (hs : ∀ b off, s = some ⟨b, off, none⟩ → 0 < n → b ≠ b0.kb) (hl : Olds b0.kb l) (hw : w.heap.size ≤ b0.kb) :
    Ctx w ((wr.setCell ⟨b0.kb, 0, none⟩ (.int .i64 W)).setCell ⟨b0.kb, 1, none⟩ (.slice s n cg)) (⟨b0.kb, W, s, n, cg, xs⟩ :: l) := by
  have hg : wr.grownBy ((wr.setCell ⟨b0.kb, 0, none⟩ (.int .i64 W)).setCell ⟨b0.kb, 1, none⟩ (.slice s n cg)) (some b0.kb) := grown_set (grown_set (World.grownBy.refl _ _))
  refine ⟨fun b hb => ?_, (h.bel.setCell (by simpa using hw) _).setCell (by simpa using hw) _⟩
  rcases List.mem_cons.1 hb with e | hb
  · subst e
    refine ⟨?_, ?_, hR.apart hg (fun b off e hl => by have := hs b off e hl; simpa using this)⟩
    · rw [World.cell?_setCell_other _ _ _ _ (by simp)]; exact World.cell?_setCell_same _ _ _ h.a0.c0
    · exact World.cell?_setCell_same _ _ _ (by rw [World.cell?_setCell_other _ _ _ _ (by simp)]; exact h.a0.c1)
  · have h1 := h.all b (.tail _ hb)
    have h2 := hl b hb
    exact ⟨hg.cell h1.c0 (by have := h2.1; simp; omega), hg.cell h1.c1 (by have := h2.1; simp; omega), h1.row.apart hg (fun q off e hn => by have := h2.2 q off e hn; simp; omega)⟩
theorem row_nil (w : World) : Row w none 0 [] := ⟨rfl, .inl rfl⟩
def GivesI (w : World) (W n : Nat) (xs : List Int) (e : Ending) (w' : World) : Prop :=
  (∃ a cap, e = .returned (.tuple #[.agg #[.int .i64 W, .slice a n cap], .bool true]) ∧ OwnI w' w.heap.size a n cap xs) ∧ Below w.heap.size w w'
theorem Gives.ok {w w' : World} {W n : Nat} {xs : List Int} {e : Ending} (h : Gives w ⟨true, W, xs⟩ e w') (hl : xs.length = n) : GivesI w W n xs e w' := by
  subst hl; exact h
theorem other_ok {W n : Nat} {xs : List Int} (h : Im W n xs) (s : Option Addr) (cg : Nat) (w : World) (hR : Row w s n xs) :
    Calls Try.prog 37 #[.agg #[.int .i64 W, .slice s n cg]] w (GivesI w W n (othL xs W n)) := by
  have hc := other_impl W s n cg xs w hR (by have := h.l6; omega)
  rw [if_pos h.valid, Int.toNat_natCast] at hc
  exact hc.mono fun e w' hg => hg.ok (rows_len _ _)
def putL (xs : List Int) (i j : Nat) (set : Bool) : List Int := xs.set i (putI (xs.getD i 0) j set)
end Go.Proofs.Yteadibgjieimkaa

