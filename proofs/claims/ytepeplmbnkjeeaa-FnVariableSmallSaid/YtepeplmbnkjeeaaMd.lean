/-
  Two lists that a call owns beside each other: cells are stored into the one, the other one is appended to; flags by their numbers.
-/
import Derived.Test.YtepeplmbnkjeeaaMa
import Derived.Test.YtepeplmbnkjeeaaK
import Derived.Test.YtepeplmbnkjeeaaPa
import Derived.Test.YtepeplmbnkjeeaaSh
namespace Go.Proofs.Ytepeplmbnkjeeaa
set_option maxRecDepth 100000
open Go.RowKit

/-- Behind the world w0: the list P lies at g1, the list Q at g2. -/
structure TW (w0 wr : World) (m g1 c1 q g2 c2 : Nat) (P Q : List Int) : Prop where
  out : OwnI wr w0.heap.size (some ⟨g1, 0, none⟩) m c1 P
  wk : OwnI wr w0.heap.size (some ⟨g2, 0, none⟩) q c2 Q
  bel : Below w0.heap.size w0 wr
  ne : g1 ≠ g2
variable {w0 wr w1 : World} {m g1 c1 q g2 c2 : Nat} {P Q : List Int}
theorem TW.move (h : TW w0 wr m g1 c1 q g2 c2 P Q) (hb : Below wr.heap.size wr w1) : TW w0 w1 m g1 c1 q g2 c2 P Q :=
  ⟨h.out.bel hb, h.wk.bel hb, h.bel.trans (hb.mono h.bel.size), h.ne⟩
theorem TW.o1 (h : TW w0 wr m g1 c1 q g2 c2 P Q) : w0.heap.size ≤ g1 ∧ g1 < wr.heap.size := rng_own h.out _ rfl
theorem TW.o2 (h : TW w0 wr m g1 c1 q g2 c2 P Q) : w0.heap.size ≤ g2 ∧ g2 < wr.heap.size := rng_own h.wk _ rfl
theorem TW.set (h : TW w0 wr m g1 c1 q g2 c2 P Q) (j : Nat) (u : Int) : TW w0 (wr.setCell ⟨g1, j, none⟩ (.int .i64 u)) m g1 c1 q g2 c2 (P.set j u) Q := by
  have hg : wr.grownBy (wr.setCell ⟨g1, j, none⟩ (.int .i64 u)) (some g1) := grown_set (World.grownBy.refl _ _)
  exact ⟨h.out.set j u, World.ownsRow.kept h.wk hg (.inr (by intro e; cases e; exact h.ne rfl)), h.bel.setCell (show w0.heap.size ≤ g1 from h.o1.1) _, h.ne⟩
theorem TW.app (h : TW w0 wr m g1 c1 q g2 c2 P Q) {g c : Nat} {x : Int} (ho : w1.ownsRow w0.heap.size 3 1 (.slice (some ⟨g, 0, none⟩) (q + 1) c) (q + 1) ((Q ++ [x]).map (Value.int .i64))) (hg : wr.grownBy w1 (some g2)) (hgg : g = g2 ∨ wr.heap.size ≤ g) : TW w0 w1 m g1 c1 (q + 1) g c P (Q ++ [x]) :=
  ⟨World.ownsRow.kept h.out hg (.inr (by intro e; cases e; exact h.ne rfl)), ho, h.bel.grown hg h.bel.size (fun k hk => by cases hk; exact h.o2.1), by
    have := h.o1
    rcases hgg with rfl | hgg
    · exact h.ne
    · omega⟩
theorem bfs_next {arr : Nat → Nat → Bool} {m a f : Nat} {S : List Int × List Int} (ha : a < (bfsK arr m S a).2.length) (hf : (bfsK arr m S a).2.getD a 0 = f) : bfsK arr m S (a + 1) = seeK arr f m (bfsK arr m S a) := by
  rw [bfsK, if_pos ha, hf, Int.toNat_natCast]
theorem see_yes {arr : Nat → Nat → Bool} {f k : Nat} {S : List Int × List Int} (h : arr f k = true) (h' : (seeK arr f k S).1.getD k 0 < 0) : seeK arr f (k + 1) S = ((seeK arr f k S).1.set k (f : Int), (seeK arr f k S).2 ++ [(k : Int)]) := by
  rw [seeK, if_pos ⟨h, h'⟩]
theorem see_no {arr : Nat → Nat → Bool} {f k : Nat} {S : List Int × List Int} (h : arr f k = false ∨ ¬ (seeK arr f k S).1.getD k 0 < 0) : seeK arr f (k + 1) S = seeK arr f k S := by
  rw [seeK, if_neg]
  rintro ⟨h1, h2⟩
  rcases h with h | h
  · rw [h] at h1; cases h1
  · exact h h2
/-- A number is appended to a list that the call owns. -/
theorem wpList_append_int {w : World} {ops : Array Oper} {rest : List Oper} {o : Oper} {a : Act} {Q : Exit → Act → World → Prop} (hgd : o.guard = none) (s x : Operand)
    (ho : o.op = .call { callee := .builtin .append, args := #[s, x], argTypes := #[23, 23] })
    (base g N c : Nat) (F : List Int) (hs : a.eval s = .slice (some ⟨g, 0, none⟩) N c) (hown : OwnI w base (some ⟨g, 0, none⟩) N c F)
    (k : Nat) (hx : a.eval x = .slice (some ⟨k, 0, none⟩) 1 1) (v : Int) (c0 : w.cell? ⟨k, 0, none⟩ = some (.int .i64 v)) (hN : N ≤ 1048576) (hbase : base ≤ w.heap.size)
    (h : ∀ g' c' w', w'.ownsRow base 3 1 (.slice (some ⟨g', 0, none⟩) (N + 1) c') (N + 1) ((F ++ [v]).map (Value.int .i64)) → w.grownBy w' (some g) → (g' = g ∨ g' = w.heap.size) → wpList Try.prog ops Q rest (a.put o.dst (.slice (some ⟨g', 0, none⟩) (N + 1) c')) w') :
    wpList Try.prog ops Q (o :: rest) a w := by
  obtain ⟨i0, hi, hz0, hz1, hz2⟩ := info_parts infoInt
  refine wpList_append_lies hgd s x 23 ho base 3 i0 (.int .i64 0) 1 8 Try.underlying23 hi hz0 hz1 hz2 rfl (by decide) _ N (F.map (Value.int .i64)) hs hown
    ⟨k, 0, none⟩ 1 1 [.int .i64 v] hx rfl (fun j u hj => ?_) (one_int v) (by omega) (by unfold maxLen; omega) (by omega) hbase fun g' c' w' h2 h3 h4 => h g' c' w' ?_ ?_ ?_
  · cases j with
    | zero => simp at hj; subst hj; simpa [Addr.add] using c0
    | succ j => simp at hj
  · rw [List.map_append]; exact h2
  · exact h3
  · rcases h4 with h | h
    · left; simp [Value.ownBlock] at h; exact h.symm
    · exact .inr h
end Go.Proofs.Ytepeplmbnkjeeaa

