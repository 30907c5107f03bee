/-
  A heap of lines in memory: a box with a slice of pairs; what changes off two blocks: nothing.
-/
import Derived.Test.YtocbnpkdncnbgaaDoorDb
namespace Go.Proofs.YtocbnpkdncnbgaaDoor
set_option maxRecDepth 100000
open Go.RowKit

/-- The cells of a list of pairs. -/
def flat (L : PL) : List Value := L.flatMap fun p => [.int .i64 p.1, .int .i64 p.2]
theorem fl_nil : flat [] = [] := rfl
theorem fl_cons (p : Int × Int) (L : PL) : flat (p :: L) = .int .i64 p.1 :: .int .i64 p.2 :: flat L := rfl
theorem fl_len (L : PL) : (flat L).length = L.length * 2 := by
  induction L with
  | nil => rfl
  | cons p L ih => rw [fl_cons, List.length_cons, List.length_cons, List.length_cons, ih]; omega
theorem fl_app (L M : PL) : flat (L ++ M) = flat L ++ flat M := by simp [flat]
theorem fl_c0 {L : PL} {i : Nat} (h : i < L.length) : (flat L)[i * 2]? = some (.int .i64 (pget L i).1) := by
  induction L generalizing i with
  | nil => simp at h
  | cons p L ih =>
    cases i with
    | zero => rfl
    | succ i => rw [fl_cons, show (i + 1) * 2 = i * 2 + 1 + 1 by omega, List.getElem?_cons_succ, List.getElem?_cons_succ, ih (by simpa using h)]; rfl
theorem fl_c1 {L : PL} {i : Nat} (h : i < L.length) : (flat L)[i * 2 + 1]? = some (.int .i64 (pget L i).2) := by
  induction L generalizing i with
  | nil => simp at h
  | cons p L ih =>
    cases i with
    | zero => rfl
    | succ i => rw [fl_cons, show (i + 1) * 2 + 1 = i * 2 + 1 + 1 + 1 by omega, List.getElem?_cons_succ, List.getElem?_cons_succ, ih (by simpa using h)]; rfl
theorem fl_set (L : PL) (i : Nat) (x y : Int) : ((flat L).set (i * 2) (.int .i64 x)).set (i * 2 + 1) (.int .i64 y) = flat (L.set i (x, y)) := by
  induction L generalizing i with
  | nil => rfl
  | cons p L ih =>
    cases i with
    | zero => rfl
    | succ i => rw [fl_cons, show (i + 1) * 2 = i * 2 + 1 + 1 by omega, List.set_cons_succ, List.set_cons_succ, List.set_cons_succ, List.set_cons_succ, ih, List.set_cons_succ, fl_cons]
theorem fl_take (L : PL) (k : Nat) : (flat L).take (k * 2) = flat (L.take k) := by
  induction L generalizing k with
  | nil => simp [flat]
  | cons p L ih =>
    cases k with
    | zero => rfl
    | succ k => rw [fl_cons, show (k + 1) * 2 = k * 2 + 1 + 1 by omega, List.take_succ_cons, List.take_succ_cons, ih, List.take_succ_cons, fl_cons]
theorem fl_zero (n : Nat) : flat (List.replicate n (0, 0)) = List.replicate (n * 2) (.int .i64 0) := by
  induction n with
  | zero => rfl
  | succ n ih => rw [List.replicate_succ, fl_cons, ih, show (n + 1) * 2 = n * 2 + 1 + 1 by omega, List.replicate_succ, List.replicate_succ]

/-- A slice of pairs that starts at the head of a block. -/
def OwnL (w : World) (g n cap : Nat) (L : PL) : Prop := w.ownsRow 0 104 2 (.slice (some ⟨g, 0, none⟩) n cap) n (flat L)
variable {w : World} {g n cap : Nat} {L : PL}
theorem OwnL.len (h : OwnL w g n cap L) : L.length = n := by have := h.1; rw [fl_len] at this; omega
theorem OwnL.c0 (h : OwnL w g n cap L) {i : Nat} (hi : i < n) : w.cell? ⟨g, i * 2, none⟩ = some (.int .i64 (pget L i).1) := by
  rw [World.ownsRow.cellAt h (i * 2) (by omega), fl_c0 (by have := h.len; omega)]
theorem OwnL.c1 (h : OwnL w g n cap L) {i : Nat} (hi : i < n) : w.cell? ⟨g, i * 2 + 1, none⟩ = some (.int .i64 (pget L i).2) := by
  rw [World.ownsRow.cellAt h (i * 2 + 1) (by omega), fl_c1 (by have := h.len; omega)]
theorem OwnL.frozen (h : OwnL w g n cap L) (j : Nat) : w.frozen? ⟨g, j, none⟩ = false := World.ownsRow.frozenAt h j
theorem OwnL.lt (h : OwnL w g n cap L) : g < w.heap.size := (World.ownsRow.lt h g rfl).2
theorem OwnL.set (h : OwnL w g n cap L) (i : Nat) (x y : Int) : OwnL ((w.setCell ⟨g, i * 2, none⟩ (.int .i64 x)).setCell ⟨g, i * 2 + 1, none⟩ (.int .i64 y)) g n cap (L.set i (x, y)) := by
  have h1 := (World.ownsRow.stored (World.ownsRow.stored h (i * 2) (.int .i64 x)).1 (i * 2 + 1) (.int .i64 y)).1
  rw [fl_set] at h1; exact h1
theorem OwnL.cut (h : OwnL w g (n + 1) cap L) : OwnL w g n cap (L.take n) := by
  have hl := h.len
  obtain ⟨h1, h2⟩ := h
  refine ⟨by rw [fl_len, List.length_take]; omega, .inr ?_⟩
  rcases h2 with ⟨h2, _⟩ | ⟨g', c, cur, e, hb, hg, hn, hc, hs, ht⟩
  · cases h2
  · simp only [Value.slice.injEq, Option.some.injEq, Addr.mk.injEq, and_true, true_and] at e
    obtain ⟨rfl, rfl⟩ := e
    refine ⟨g, cap, cur, rfl, hb, hg, by omega, hc, hs, ?_⟩
    rw [← fl_take, ← ht, List.take_take]
    congr 1; omega
theorem OwnL.room (h : OwnL w g n cap L) : n ≤ cap ∧ cap ≤ maxLen := by
  rcases h.2 with ⟨h2, _⟩ | ⟨g', c, cur, e, hb, hg, hn, hc, hs, ht⟩
  · cases h2
  · simp only [Value.slice.injEq, Option.some.injEq, Addr.mk.injEq, and_true, true_and] at e
    obtain ⟨rfl, rfl⟩ := e
    exact ⟨hn, hc⟩
theorem OwnL.kept {w' : World} {row : Option Nat} (h : OwnL w g n cap L) (hg : w.grownBy w' row) (hne : some g ≠ row) : OwnL w' g n cap L := World.ownsRow.kept h hg (.inr hne)

/-- Off the blocks b and g the world w' is as w was, but for new memory. -/
structure Ch (b g : Nat) (w w' : World) : Prop where
  os : w'.os = w.os
  tape : w'.tape = w.tape
  output : w'.output = w.output
  size : w.heap.size ≤ w'.heap.size
  block : ∀ k, k < w.heap.size → k ≠ b → k ≠ g → w'.heap[k]? = w.heap[k]?
variable {b g : Nat} {w w' w'' : World}
theorem Ch.refl (b g : Nat) (w : World) : Ch b g w w := ⟨rfl, rfl, rfl, Nat.le_refl _, fun _ _ _ _ => rfl⟩
theorem Ch.trans (h : Ch b g w w') (k : Ch b g w' w'') : Ch b g w w'' :=
  ⟨k.os.trans h.os, k.tape.trans h.tape, k.output.trans h.output, Nat.le_trans h.size k.size, fun i hi h1 h2 => (k.block i (Nat.lt_of_lt_of_le hi h.size) h1 h2).trans (h.block i hi h1 h2)⟩
theorem Ch.of (h : Below w.heap.size w w') : Ch b g w w' := ⟨h.os, h.tape, h.output, h.size, fun k hk _ _ => h.block k hk⟩
theorem Ch.grown {row : Option Nat} (h : w.grownBy w' row) (hr : row = none ∨ row = some b ∨ row = some g) : Ch b g w w' :=
  ⟨h.os, h.tape, h.output, h.size, fun k hk h1 h2 => h.block k hk (by rcases hr with rfl | rfl | rfl <;> simp [h1, h2])⟩
theorem Ch.drew (h : Ch b g w w') : Ch b g w w'.drew := h.trans (Ch.of ((Below.refl _ _).drew))
theorem Ch.drewN (h : Ch b g w w') (n : Nat) : Ch b g w (w'.drewN n) := h.trans (Ch.of (below_drewN (Below.refl _ _) n))
theorem Ch.alloc (h : Ch b g w w') (o : Obj) : Ch b g w (w'.alloc o) := h.trans (Ch.of ((Below.refl _ _).alloc (Nat.le_refl _) o))
theorem Ch.setB (h : Ch b g w w') (j : Nat) (v : Value) : Ch b g w (w'.setCell ⟨b, j, none⟩ v) := h.trans (Ch.grown (grown_set (World.grownBy.refl _ _)) (.inr (.inl rfl)))
theorem Ch.setG (h : Ch b g w w') (j : Nat) (v : Value) : Ch b g w (w'.setCell ⟨g, j, none⟩ v) := h.trans (Ch.grown (grown_set (World.grownBy.refl _ _)) (.inr (.inr rfl)))
theorem Ch.below {B : Nat} (h : Ch b g w w') (h0 : B ≤ w.heap.size) (h1 : B ≤ b) (h2 : B ≤ g) : Below B w w' :=
  ⟨h.os, h.tape, h.output, h.size, fun k hk => h.block k (by omega) (by omega) (by omega)⟩
theorem Ch.cell (h : Ch b g w w') {a : Addr} {v : Value} (hc : w.cell? a = some v) (h1 : a.block ≠ b) (h2 : a.block ≠ g) : w'.cell? a = some v :=
  (World.cell?_of_block (h.block a.block (block_lt hc) h1 h2)).trans hc
theorem Ch.own {B n cap : Nat} {a : Option Addr} {xs : List Int} (h : Ch b g w w') (ho : OwnI w B a n cap xs) (h1 : ∀ p, a = some p → p.block ≠ b ∧ p.block ≠ g) : OwnI w' B a n cap xs := by
  obtain ⟨h0, h2⟩ := ho
  refine ⟨h0, ?_⟩
  rcases h2 with h2 | ⟨k, c, cur, e, hb, hg, r⟩
  · exact .inl h2
  · refine .inr ⟨k, c, cur, e, hb, ?_, r⟩
    simp only [Value.slice.injEq] at e
    have := h1 _ e.1
    rw [h.block k (Array.getElem?_eq_some_iff.1 hg).1 this.1 this.2]; exact hg
theorem Ch.row {n : Nat} {a : Option Addr} {xs : List Int} (h : Ch b g w w') (hr : Row w a n xs) (h1 : ∀ q off, a = some ⟨q, off, none⟩ → 0 < n → q ≠ b ∧ q ≠ g) : Row w' a n xs := by
  obtain ⟨h0, h2⟩ := hr
  refine ⟨h0, ?_⟩
  rcases h2 with h2 | ⟨q, off, rfl, hc⟩
  · exact .inl h2
  · by_cases e : n = 0
    · exact .inl e
    · have := h1 q off rfl (by omega)
      exact .inr ⟨q, off, rfl, fun i hi => h.cell (hc i hi) this.1 this.2⟩
theorem Ch.ownL {q n cap : Nat} {L : PL} (h : Ch b g w w') (ho : OwnL w q n cap L) (h1 : q ≠ b) (h2 : q ≠ g) : OwnL w' q n cap L := by
  obtain ⟨h0, h3⟩ := ho
  refine ⟨h0, ?_⟩
  rcases h3 with h3 | ⟨k, c, cur, e, hb, hg, r⟩
  · exact .inl h3
  · refine .inr ⟨k, c, cur, e, hb, ?_, r⟩
    simp only [Value.slice.injEq, Option.some.injEq, Addr.mk.injEq, and_true] at e
    obtain ⟨rfl, _⟩ := e
    rw [h.block q (Array.getElem?_eq_some_iff.1 hg).1 h1 h2]; exact hg

/-- The heap's box b holds a slice at g of the lines L. -/
structure HS (w : World) (b g cap : Nat) (L : PL) : Prop where
  box : w.cell? ⟨b, 0, none⟩ = some (.slice (some ⟨g, 0, none⟩) L.length cap)
  own : OwnL w g L.length cap L
  fz : w.frozen? ⟨b, 0, none⟩ = false
  ne : b ≠ g
variable {w w' : World} {b g cap : Nat} {L L' : PL}
theorem HS.bel (h : HS w b g cap L) (hb : Below w.heap.size w w') : HS w' b g cap L :=
  ⟨kept hb (block_lt h.box) h.box, World.ownsRow.kept h.own (below_grown hb none) (.inr (by simp [Value.ownBlock])), by
    rw [World.frozen?_of_block (hb.block b (block_lt h.box))]; exact h.fz, h.ne⟩
theorem HS.stored (h : HS w b g cap L) (hw : OwnL w' g L.length cap L') (hl : L'.length = L.length) (hg : w.grownBy w' (some g)) : HS w' b g cap L' := by
  refine ⟨?_, by rw [hl]; exact hw, ?_, h.ne⟩
  · rw [hl]; exact hg.cell h.box (by simpa using h.ne)
  · rw [World.frozen?_of_block (hg.block b (block_lt h.box) (by simpa using h.ne))]; exact h.fz
def set4 (w : World) (g i j : Nat) (p q : Int × Int) : World := (((w.setCell ⟨g, i * 2, none⟩ (.int .i64 q.1)).setCell ⟨g, i * 2 + 1, none⟩ (.int .i64 q.2)).setCell ⟨g, j * 2, none⟩ (.int .i64 p.1)).setCell ⟨g, j * 2 + 1, none⟩ (.int .i64 p.2)
theorem set4_grown (w : World) (g i j : Nat) (p q : Int × Int) : w.grownBy (set4 w g i j p q) (some g) := grown_set (grown_set (grown_set (grown_set (World.grownBy.refl _ _))))
theorem HS.swap (h : HS w b g cap L) (i j : Nat) : HS (set4 w g i j (pget L i) (pget L j)) b g cap (pswap L i j) := by
  refine h.stored ?_ (pswap_len _ _ _) (set4_grown _ _ _ _ _ _)
  have h1 := (h.own.set i (pget L j).1 (pget L j).2).set j (pget L i).1 (pget L i).2
  exact h1
theorem HS.pop {n : Nat} (h : HS w b g cap L) (hn : L.length = n + 1) : HS (w.setCell ⟨b, 0, none⟩ (.slice (some ⟨g, 0, none⟩) n cap)) b g cap (L.take n) := by
  have hg : w.grownBy (w.setCell ⟨b, 0, none⟩ (.slice (some ⟨g, 0, none⟩) n cap)) (some b) := grown_set (World.grownBy.refl _ _)
  have hl : (L.take n).length = n := by rw [List.length_take]; omega
  refine ⟨?_, ?_, ?_, h.ne⟩
  · rw [hl]; exact World.cell?_setCell_same _ _ _ h.box
  · rw [hl]
    have h1 := h.own
    rw [hn] at h1
    exact h1.cut.kept hg (by simpa using Ne.symm h.ne)
  · rw [World.frozen?_setCell]; exact h.fz
end Go.Proofs.YtocbnpkdncnbgaaDoor

