/-
  A law's middle: images in boxes of their own.
-/
import Derived.Test.YteadibgjieimkaaZ
namespace Go.Proofs.Yteadibgjieimkaa
set_option maxRecDepth 100000
open Go.RowKit

/-- An image in a box: the box, the width, the slice of its rows, the rows. -/
structure BI where
  kb : Nat
  W : Int
  s : Option Addr
  n : Nat
  cg : Nat
  xs : List Int
structure BI.At (wr : World) (b : BI) : Prop where
  c0 : wr.cell? ⟨b.kb, 0, none⟩ = some (.int .i64 b.W)
  c1 : wr.cell? ⟨b.kb, 1, none⟩ = some (.slice b.s b.n b.cg)
  row : Row wr b.s b.n b.xs
structure Ctx (w wr : World) (l : List BI) : Prop where
  all : ∀ b ∈ l, b.At wr
  bel : Below w.heap.size w wr
theorem Ctx.move {w wr w' : World} {l : List BI} (h : Ctx w wr l) (hb : Below wr.heap.size wr w') : Ctx w w' l :=
  ⟨fun b hm => ⟨kept hb (block_lt (h.all b hm).c0) (h.all b hm).c0, kept hb (block_lt (h.all b hm).c1) (h.all b hm).c1, (h.all b hm).row.bel hb⟩, h.bel.trans (hb.mono h.bel.size)⟩
theorem Ctx.nil {w w1 : World} (hb : Below w.heap.size w w1) : Ctx w w1 [] := ⟨fun _ h => (by cases h), hb⟩
theorem Ctx.push {w wr : World} {l : List BI} {W : Int} {s : Option Addr} {n cg : Nat} {xs : List Int} (h : Ctx w wr l) (hR : Row wr s n xs) : Ctx w (wr.alloc (.cells #[.int .i64 W, .slice s n cg] 29)) (⟨wr.heap.size, W, s, n, cg, xs⟩ :: l) := by
  have hm := h.move ((Below.refl _ _).alloc (Nat.le_refl _) (.cells #[.int .i64 W, .slice s n cg] 29))
  refine ⟨fun b hb => ?_, hm.bel⟩
  rcases List.mem_cons.1 hb with e | hb
  · subst e; exact ⟨by simp, by simp, hR.alloc _⟩
  · exact hm.all b hb
theorem Ctx.a0 {w wr : World} {b0 : BI} {l : List BI} (h : Ctx w wr (b0 :: l)) : b0.At wr := h.all _ (.head _)
theorem Ctx.a1 {w wr : World} {b0 b1 : BI} {l : List BI} (h : Ctx w wr (b0 :: b1 :: l)) : b1.At wr := h.all _ (.tail _ (.head _))
theorem Ctx.a2 {w wr : World} {b0 b1 b2 : BI} {l : List BI} (h : Ctx w wr (b0 :: b1 :: b2 :: l)) : b2.At wr := h.all _ (.tail _ (.tail _ (.head _)))
theorem Ctx.pop {w wr : World} {b0 : BI} {l : List BI} (h : Ctx w wr (b0 :: l)) : Ctx w wr l := ⟨fun b hm => h.all b (.tail _ hm), h.bel⟩
theorem Ctx.held2 {w wr w' : World} {b0 b1 : BI} {l : List BI} (h : Ctx w wr (b0 :: b1 :: l)) (hb : Below wr.heap.size wr w') :
    w'.cell? ⟨b0.kb, 0, none⟩ = some (.int .i64 b0.W) ∧ w'.cell? ⟨b0.kb, 1, none⟩ = some (.slice b0.s b0.n b0.cg) ∧ w'.cell? ⟨b1.kb, 0, none⟩ = some (.int .i64 b1.W) ∧ w'.cell? ⟨b1.kb, 1, none⟩ = some (.slice b1.s b1.n b1.cg) ∧ Ctx w w' (b0 :: b1 :: l) :=
  ⟨(h.move hb).a0.c0, (h.move hb).a0.c1, (h.move hb).a1.c0, (h.move hb).a1.c1, h.move hb⟩
theorem Ctx.held3 {w wr w' : World} {b0 b1 b2 : BI} {l : List BI} (h : Ctx w wr (b0 :: b1 :: b2 :: l)) (hb : Below wr.heap.size wr w') :
    w'.cell? ⟨b0.kb, 0, none⟩ = some (.int .i64 b0.W) ∧ w'.cell? ⟨b0.kb, 1, none⟩ = some (.slice b0.s b0.n b0.cg) ∧ w'.cell? ⟨b1.kb, 0, none⟩ = some (.int .i64 b1.W) ∧ w'.cell? ⟨b1.kb, 1, none⟩ = some (.slice b1.s b1.n b1.cg) ∧ w'.cell? ⟨b2.kb, 0, none⟩ = some (.int .i64 b2.W) ∧ w'.cell? ⟨b2.kb, 1, none⟩ = some (.slice b2.s b2.n b2.cg) ∧ Ctx w w' (b0 :: b1 :: b2 :: l) :=
  ⟨(h.move hb).a0.c0, (h.move hb).a0.c1, (h.move hb).a1.c0, (h.move hb).a1.c1, (h.move hb).a2.c0, (h.move hb).a2.c1, h.move hb⟩
theorem frozen_bel {wr w' : World} {b : Nat} (h : ∀ o, wr.frozen? ⟨b, o, none⟩ = false) (hb : Below wr.heap.size wr w') (hl : b < wr.heap.size) : ∀ o, w'.frozen? ⟨b, o, none⟩ = false :=
  fun o => (hb.frozen (p := ⟨b, o, none⟩) (show b < _ from hl)).trans (h o)
theorem own_far {w : World} {B n c k : Nat} {a : Option Addr} {xs : List Int} (h : OwnI w B a n c xs) (hk : k < B) : ∀ b off, a = some ⟨b, off, none⟩ → 0 < n → b ≠ k := by
  intro b off e _
  rcases h.cases with ⟨e', _⟩ | ⟨g, e', h1, _⟩
  · rw [e] at e'; cases e'
  · rw [e] at e'; simp only [Option.some.injEq, Addr.mk.injEq, and_true] at e'; omega
/-- Another image is put into the first box. -/
theorem Ctx.put0 {w wr : World} {b0 b1 : BI} {W : Int} {s : Option Addr} {n cg : Nat} {xs : List Int} (h : Ctx w wr [b0, b1]) (hR : Row wr s n xs) (hs : ∀ b off, s = some ⟨b, off, none⟩ → 0 < n → b ≠ b0.kb) (h1 : ∀ b off, b1.s = some ⟨b, off, none⟩ → 0 < b1.n → b ≠ b0.kb) (hk : b1.kb ≠ b0.kb) (hw : w.heap.size ≤ b0.kb) :
    Ctx w ((wr.setCell ⟨b0.kb, 0, none⟩ (.int .i64 W)).setCell ⟨b0.kb, 1, none⟩ (.slice s n cg)) [⟨b0.kb, W, s, n, cg, xs⟩, b1] := by
  have hg : wr.grownBy ((wr.setCell ⟨b0.kb, 0, none⟩ (.int .i64 W)).setCell ⟨b0.kb, 1, none⟩ (.slice s n cg)) (some b0.kb) := grown_set (grown_set (World.grownBy.refl _ _))
  refine ⟨fun b hb => ?_, (h.bel.setCell (by simpa using hw) _).setCell (by simpa using hw) _⟩
  rcases List.mem_cons.1 hb with e | hb
  · subst e
    refine ⟨?_, ?_, hR.apart hg (fun b off e hl => by have := hs b off e hl; simpa using this)⟩
    · rw [World.cell?_setCell_other _ _ _ _ (by simp)]; exact World.cell?_setCell_same _ _ _ h.a0.c0
    · exact World.cell?_setCell_same _ _ _ (by rw [World.cell?_setCell_other _ _ _ _ (by simp)]; exact h.a0.c1)
  · rcases List.mem_cons.1 hb with e | hb
    · subst e
      exact ⟨hg.cell h.a1.c0 (by simpa using hk), hg.cell h.a1.c1 (by simpa using hk), h.a1.row.apart hg (fun b off e hl => by have := h1 b off e hl; simpa using this)⟩
    · cases hb
/-- What a region needs of two images in boxes, written out. -/
theorem heldTwo {w W W' : World} {p0 p1 q0 q1 : Addr} {u0 u1 v0 v1 : Value} {a a' : Option Addr} {n n' : Nat} {xs xs' : List Int}
    (h : W.cell? p0 = some u0 ∧ W.cell? p1 = some u1 ∧ W.cell? q0 = some v0 ∧ W.cell? q1 = some v1 ∧ Row W a n xs ∧ Row W a' n' xs' ∧ Below w.heap.size w W) (hb : Below W.heap.size W W') :
    W'.cell? p0 = some u0 ∧ W'.cell? p1 = some u1 ∧ W'.cell? q0 = some v0 ∧ W'.cell? q1 = some v1 ∧ Row W' a n xs ∧ Row W' a' n' xs' ∧ Below w.heap.size w W' :=
  ⟨kept hb (block_lt h.1) h.1, kept hb (block_lt h.2.1) h.2.1, kept hb (block_lt h.2.2.1) h.2.2.1, kept hb (block_lt h.2.2.2.1) h.2.2.2.1, h.2.2.2.2.1.bel hb, h.2.2.2.2.2.1.bel hb, h.2.2.2.2.2.2.trans (hb.mono h.2.2.2.2.2.2.size)⟩
theorem Ctx.of2 {w W : World} {b0 b1 : BI} (h : W.cell? ⟨b0.kb, 0, none⟩ = some (.int .i64 b0.W) ∧ W.cell? ⟨b0.kb, 1, none⟩ = some (.slice b0.s b0.n b0.cg) ∧ W.cell? ⟨b1.kb, 0, none⟩ = some (.int .i64 b1.W) ∧ W.cell? ⟨b1.kb, 1, none⟩ = some (.slice b1.s b1.n b1.cg) ∧ Row W b1.s b1.n b1.xs ∧ Row W b0.s b0.n b0.xs ∧ Below w.heap.size w W) : Ctx w W [b0, b1] := by
  refine ⟨fun b hb => ?_, h.2.2.2.2.2.2⟩
  rcases List.mem_cons.1 hb with e | hb
  · subst e; exact ⟨h.1, h.2.1, h.2.2.2.2.2.1⟩
  · rcases List.mem_cons.1 hb with e | hb
    · subst e; exact ⟨h.2.2.1, h.2.2.2.1, h.2.2.2.2.1⟩
    · cases hb
end Go.Proofs.Yteadibgjieimkaa

