/-
  The contracts of BuildNested, of the program and of the model.
  The contracts of BuildNested in the form that the laws use.
-/
import Derived.Test.YtnfkafaolelkbaaDa
import Derived.Deep.AppendLies
import Derived.Deep.RegionLaw
import Derived.Test.YtnfkafaolelkbaaHc
import Derived.Test.YtnfkafaolelkbaaEp

namespace Go.Proofs.Ytnfkafaolelkbaa
set_option maxRecDepth 100000
open Go.RowKit

/-- The middle of the walk: the result's box, the image's box with the rows so far. -/
structure Gq (B : Nat) (w wr : World) (W : Int) (g k cap : Nat) (xs : List Int) : Prop where
  c0 : wr.cell? ⟨B, 0, none⟩ = some (.int .i64 0)
  c1 : wr.cell? ⟨B, 1, none⟩ = some (.slice none 0 0)
  cf : ∀ o, wr.frozen? ⟨B, o, none⟩ = false
  d0 : wr.cell? ⟨B + 2, 0, none⟩ = some (.int .i64 W)
  d1 : wr.cell? ⟨B + 2, 1, none⟩ = some (.slice (some ⟨g, 0, none⟩) k cap)
  df : ∀ o, wr.frozen? ⟨B + 2, o, none⟩ = false
  own : OwnI wr (B + 1) (some ⟨g, 0, none⟩) k cap xs
  ne : g ≠ B + 2
  bel : Below B w wr
theorem Gq.ge {B : Nat} {w wr : World} {W : Int} {g k cap : Nat} {xs : List Int} (h : Gq B w wr W g k cap xs) : B + 1 ≤ g := by
  rcases h.own.cases with ⟨e, _⟩ | ⟨g', e, h2, _⟩
  · cases e
  · simp only [Option.some.injEq, Addr.mk.injEq, and_true] at e; omega
theorem Gq.same {B : Nat} {w wr w1 : World} {W : Int} {g k cap : Nat} {xs : List Int} (h : Gq B w wr W g k cap xs) (hg : wr.grownBy w1 (some g)) {b : Nat} (hb : b = B ∨ b = B + 2) : (∀ i v, wr.cell? ⟨b, i, none⟩ = some v → w1.cell? ⟨b, i, none⟩ = some v) ∧ ∀ i, wr.frozen? ⟨b, i, none⟩ = false → w1.frozen? ⟨b, i, none⟩ = false := by
  have hs : b < wr.heap.size := by
    have h1 : B < wr.heap.size := block_lt h.c0
    have h2 : B + 2 < wr.heap.size := block_lt h.d0
    omega
  have hge := h.ge
  have hne := h.ne
  have e : w1.heap[b]? = wr.heap[b]? := hg.block b hs (by simp; omega)
  exact ⟨fun i v hv => by rw [World.cell?_of_block e]; exact hv, fun i hv => by rw [World.frozen?_of_block e]; exact hv⟩
theorem Gq.app {B : Nat} {w wr w1 : World} {W : Int} {g g' k cap cap' : Nat} {xs ys : List Int} (h : Gq B w wr W g k cap xs) (hg : wr.grownBy w1 (some g)) (ho : OwnI w1 (B + 1) (some ⟨g', 0, none⟩) (k + 1) cap' ys) (hn : g' ≠ B + 2) :
    Gq B w (w1.setCell ⟨B + 2, 1, none⟩ (.slice (some ⟨g', 0, none⟩) (k + 1) cap')) W g' (k + 1) cap' ys := by
  have c0 := (h.same hg (.inl rfl)).1 _ _ h.c0
  have c1 := (h.same hg (.inl rfl)).1 _ _ h.c1
  have d0 := (h.same hg (.inr rfl)).1 _ _ h.d0
  have d1 := (h.same hg (.inr rfl)).1 _ _ h.d1
  have cf := fun i => (h.same hg (.inl rfl)).2 i (h.cf i)
  have df := fun i => (h.same hg (.inr rfl)).2 i (h.df i)
  have hge := h.ge
  have hs : B + 2 < wr.heap.size := block_lt h.d0
  have hb : Below B w w1 := h.bel.grown hg (by omega) (fun k hk => by cases hk; omega)
  refine ⟨?_, ?_, fun i => by rw [World.frozen?_setCell]; exact cf i, ?_, ?_, fun i => by rw [World.frozen?_setCell]; exact df i, ?_, hn, hb.setCell (by simp) _⟩
  · rw [World.cell?_setCell_other _ _ _ _ (by simp)]; exact c0
  · rw [World.cell?_setCell_other _ _ _ _ (by simp)]; exact c1
  · rw [World.cell?_setCell_other _ _ _ _ (by simp)]; exact d0
  · exact World.cell?_setCell_same _ _ _ d1
  · refine World.ownsRow.kept ho (row := some (B + 2)) ⟨rfl, rfl, rfl, by simp [World.setCell], fun k _ hk => Below.heap_setCell _ _ _ _ (fun e => hk (by rw [e]))⟩ ?_
    right; simp [Value.ownBlock]; exact hn
theorem Gq.move {B : Nat} {w wr w1 : World} {W : Int} {g k cap : Nat} {xs : List Int} (h : Gq B w wr W g k cap xs) (hb : Below wr.heap.size wr w1) : Gq B w w1 W g k cap xs := by
  have hg := below_grown hb (some g)
  have hs : B + 2 < wr.heap.size := block_lt h.d0
  exact ⟨(h.same hg (.inl rfl)).1 _ _ h.c0, (h.same hg (.inl rfl)).1 _ _ h.c1, fun i => (h.same hg (.inl rfl)).2 i (h.cf i), (h.same hg (.inr rfl)).1 _ _ h.d0, (h.same hg (.inr rfl)).1 _ _ h.d1, fun i => (h.same hg (.inr rfl)).2 i (h.df i), h.own.bel hb, h.ne, h.bel.trans (hb.mono (by omega))⟩

theorem news_1 (w : World) (v : Value) (N : Nat) (hN : w.heap.size = N) : ∀ j u, [v][j]? = some u → (w.alloc (.cells #[v] 3)).cell? ((⟨N, 0, none⟩ : Addr).add j) = some u := by
  intro j u hj
  subst hN
  cases j with
  | zero => simp at hj; subst hj; simp [Addr.add]
  | succ j => simp at hj

theorem one_i (x : Int) : ∀ u ∈ [Value.int .i64 x], u.oneCell' = true := by intro u hu; simp at hu; subst hu; rfl
theorem Gq.behind {B : Nat} {w W0 w1 : World} {W x : Int} {g g' k cap cap' : Nat} {xs : List Int} {o : Obj} (h : Gq B w W0 W g k cap xs) (hown1 : w1.ownsRow (B + 1) 3 1 (.slice (some ⟨g', 0, none⟩) (k + 1) cap') (k + 1) (xs.map (Value.int .i64) ++ [.int .i64 x]))
    (hgrow : (W0.drew.alloc o).grownBy w1 (Value.slice (some ⟨g, 0, none⟩) k cap).ownBlock) (hat : (Value.slice (some ⟨g, 0, none⟩) k cap).ownBlock = some g' ∨ g' = W0.heap.size + 1) :
    w1.cell? ⟨B + 2, 1, none⟩ = some (.slice (some ⟨g, 0, none⟩) k cap) ∧ (∀ o, w1.frozen? ⟨B + 2, o, none⟩ = false) ∧ Hid (Gq B w (w1.setCell ⟨B + 2, 1, none⟩ (.slice (some ⟨g', 0, none⟩) (k + 1) cap')) W g' (k + 1) cap' (xs ++ [x])) := by
  have hm := h.move ((Below.refl _ _).drew.alloc (by simp) o)
  have hs : B + 2 < W0.heap.size := block_lt h.d0
  have hne := h.ne
  refine ⟨(hm.same hgrow (.inr rfl)).1 _ _ hm.d1, fun i => (hm.same hgrow (.inr rfl)).2 i (hm.df i), hm.app hgrow ?_ ?_⟩
  · show w1.ownsRow _ _ _ _ _ ((xs ++ [x]).map _); rw [List.map_append]; exact hown1
  · rcases hat with e | e
    · simp only [Value.ownBlock, Option.some.injEq] at e; omega
    · omega


def nestOut (xs : List Int) (e : Int) : Out := if nestB xs e = true then ⟨true, e, nestL xs e.toNat⟩ else .no
theorem nestOut_no {xs : List Int} {e : Int} (h : nestB xs e = false) : nestOut xs e = .no := by unfold nestOut; rw [h]; rfl
theorem nestOut_six (xs : List Int) (e : Int) : (nestOut xs e).xs.length ≤ 6 := by
  unfold nestOut
  split
  · rename_i h
    show (nestL xs e.toNat).length ≤ 6
    rw [nest_len]
    unfold nestB at h
    rw [Bool.and_eq_true] at h
    have := inB_iff.1 h.1
    omega
  · simp [Out.no]
theorem nest_rows {xs : List Int} {w n : Nat} (hl : xs.length = n) (hb : ∀ i, i < n → 0 ≤ xs.getD i 0 ∧ xs.getD i 0 ≤ w) : rowsL (fun i => pw (xs.getD i 0).toNat - 1) n = nestL xs w := by
  subst hl
  exact rows_ext fun i hi => (nest_row (xs.getD i 0) (hb i hi).1 w (hb i hi).2).symm

theorem grown_bel0 {w wr w' : World} {row : Option Nat} (h : w.grownBy wr row) (hb : Below wr.heap.size wr w') : w.grownBy w' row := grown_trans h (below_grown hb _)

end Go.Proofs.Ytnfkafaolelkbaa

namespace Go.Proofs.Ytnfkafaolelkbaa
set_option maxRecDepth 100000
open Go.RowKit

theorem cge_map (xs : List Int) (c : Int) : cge xs c = lsum (xs.map fun x => if c ≤ x then 1 else 0) := by
  rw [← psum_all, List.length_map]
  exact sum_ext fun i hi => (map_getD (f := fun x => if c ≤ x then 1 else 0) hi).symm
theorem conj_sort {xs : List Int} {n : Nat} (h : elB xs = true) : conjL (sortL xs) n = conjL xs n :=
  rows_ext fun k _ => by rw [cge_map, cge_map]; exact lsum_perm ((sort_perm h).map _)
theorem nestB_W {xs : List Int} {e : Int} (h : nestB xs e = true) : 1 ≤ e ∧ e ≤ 6 := by
  unfold nestB at h
  rw [Bool.and_eq_true, Bool.and_eq_true] at h
  have := inB_iff.1 h.2.1
  omega
end Go.Proofs.Ytnfkafaolelkbaa
