/-
  The contracts of the program's BuildImage and BuildRow.
  The contract of the model's l5Best; rows of flags; what the model's BuildImage holds.
  The contract of the model's BuildImage.
  The contract of the model's BuildRow.
  The contracts of BuildImage, BuildRow and SumsFit in the form that the laws use.
-/
import Derived.Test.YtnfkafaolelkbaaDh
import Derived.Test.YtnfkafaolelkbaaDa
import Derived.Test.YtnfkafaolelkbaaK
import Derived.Test.YtnfkafaolelkbaaEp

namespace Go.Proofs.Ytnfkafaolelkbaa
set_option maxRecDepth 100000
open Go.RowKit

def biOut (xs ys : List Int) : Out := if conB xs ys = true then ⟨true, ys.length, buildL xs ys⟩ else .no
def brOut (xs ys : List Int) : Out := if conB xs ys = true then ⟨true, ys.length, buildR xs ys⟩ else .no
theorem biOut_six (xs ys : List Int) : (biOut xs ys).xs.length ≤ 6 := by
  unfold biOut
  split
  · rename_i h; have hp := sumsB_parts (conB_valid h); show (buildL xs ys).length ≤ 6; rw [build_len]; omega
  · simp [Out.no]
theorem brOut_six (xs ys : List Int) : (brOut xs ys).xs.length ≤ 6 := by
  unfold brOut
  split
  · rename_i h; have hp := sumsB_parts (conB_valid h); show (buildR xs ys).length ≤ 6; rw [buildR_len]; omega
  · simp [Out.no]
theorem small_row {c : Nat → Nat → Bool} {w n i : Nat} (hw : w ≤ 6) (hi : i < n) : 0 ≤ (cellsL c w n).getD i 0 ∧ (cellsL c w n).getD i 0 ≤ 63 := by
  rw [cells_get hi]
  have := rowN_bd (c i) w
  have := pw_63 hw
  omega
end Go.Proofs.Ytnfkafaolelkbaa

namespace Go.Proofs.Ytnfkafaolelkbaa
set_option maxRecDepth 100000
open Go.RowKit

/-- The best one so far. -/
def BSo (f : Nat → Int) (u : Nat → Bool) (k : Nat) (b : Int) : Prop := (b = -1 ∧ ∀ q, q < k → u q = true) ∨ ∃ m : Nat, b = m ∧ m < k ∧ u m = false ∧ ∀ q, q < k → u q = false → q = m ∨ bet f m q
theorem BSo.used {f : Nat → Int} {u : Nat → Bool} {k : Nat} {b : Int} (h : BSo f u k b) (hu : u k = true) : BSo f u (k + 1) b := by
  rcases h with ⟨e, h⟩ | ⟨m, e, hm, h1, h2⟩
  · refine .inl ⟨e, fun q hq => ?_⟩
    by_cases e2 : q = k
    · subst e2; exact hu
    · exact h q (by omega)
  · refine .inr ⟨m, e, by omega, h1, fun q hq hq2 => ?_⟩
    by_cases e2 : q = k
    · subst e2; rw [hu] at hq2; cases hq2
    · exact h2 q (by omega) hq2
theorem BSo.first {f : Nat → Int} {u : Nat → Bool} {k : Nat} (h : BSo f u k (-1)) (hu : u k = false) : BSo f u (k + 1) (k : Int) := by
  rcases h with ⟨_, h⟩ | ⟨m, e, _⟩
  · refine .inr ⟨k, rfl, by omega, hu, fun q hq hq2 => ?_⟩
    by_cases e2 : q = k
    · exact .inl e2
    · rw [h q (by omega)] at hq2; cases hq2
  · omega
theorem BSo.better {f : Nat → Int} {u : Nat → Bool} {k m : Nat} (h : BSo f u k (m : Int)) (hu : u k = false) (hb : f m < f k) : BSo f u (k + 1) (k : Int) := by
  rcases h with ⟨e, _⟩ | ⟨m', e, hm, h1, h2⟩
  · omega
  · obtain rfl : m = m' := by omega
    refine .inr ⟨k, rfl, by omega, hu, fun q hq hq2 => ?_⟩
    by_cases e2 : q = k
    · exact .inl e2
    · right
      rcases h2 q (by omega) hq2 with rfl | b
      · exact .inl hb
      · exact bet_trans (.inl hb) b
theorem BSo.worse {f : Nat → Int} {u : Nat → Bool} {k m : Nat} (h : BSo f u k (m : Int)) (hb : ¬ f m < f k) : BSo f u (k + 1) (m : Int) := by
  rcases h with ⟨e, _⟩ | ⟨m', e, hm, h1, h2⟩
  · omega
  · obtain rfl : m = m' := by omega
    refine .inr ⟨m, rfl, by omega, h1, fun q hq hq2 => ?_⟩
    by_cases e2 : q = k
    · subst e2; right; unfold bet; omega
    · exact h2 q (by omega) hq2
theorem BSo.done {f : Nat → Int} {u : Nat → Bool} {n i : Nat} {b : Int} (h : BSo f u n b) (hi : Best f n u i) : b = i := by
  rcases h with ⟨_, h⟩ | ⟨m, e, hm, h1, h2⟩
  · have h2 := hi.2.1
    rw [h i hi.1] at h2; cases h2
  · have : Best f n u m := ⟨hm, h1, h2⟩
    rw [e, this.eq hi]
theorem BSo.get {f : Nat → Int} {u : Nat → Bool} {k : Nat} {b : Int} (h : BSo f u k b) : b = -1 ∨ ∃ m : Nat, b = m ∧ m < k := by
  rcases h with ⟨e, _⟩ | ⟨m, e, hm, _⟩
  · exact .inl e
  · exact .inr ⟨m, e, hm⟩

/-- A slice of flags that starts at the head of a block. -/
def OwnB (w : World) (g n : Nat) (u : Nat → Bool) : Prop := w.ownsRow 0 4 1 (.slice (some ⟨g, 0, none⟩) n n) n ((List.range n).map fun i => .bool (u i))
theorem OwnB.cell {w : World} {g n : Nat} {u : Nat → Bool} (h : OwnB w g n u) {i : Nat} (hi : i < n) : w.cell? ⟨g, i, none⟩ = some (.bool (u i)) := by
  rw [World.ownsRow.cellAt h i (by omega)]
  simp [hi]
theorem OwnB.frozen {w : World} {g n : Nat} {u : Nat → Bool} (h : OwnB w g n u) (j : Nat) : w.frozen? ⟨g, j, none⟩ = false := World.ownsRow.frozenAt h j
theorem OwnB.set {w : World} {g n i : Nat} {u : Nat → Bool} (h : OwnB w g n u) : OwnB (w.setCell ⟨g, i, none⟩ (.bool true)) g n (fun k => u k || decide (k = i)) := by
  have h1 := (World.ownsRow.stored h i (.bool true)).1
  have e : ((List.range n).map fun i => Value.bool (u i)).set i (.bool true) = (List.range n).map fun k => .bool (u k || decide (k = i)) := by
    apply List.ext_getElem (by simp)
    intro k h1 h2
    rw [List.getElem_set]
    by_cases e : i = k
    · subst e; simp
    · rw [if_neg e]; simp [Ne.symm e]
  rw [e] at h1; exact h1
theorem OwnB.kept {w w' : World} {g n : Nat} {u : Nat → Bool} {row : Option Nat} (h : OwnB w g n u) (hg : w.grownBy w' row) (hne : some g ≠ row) : OwnB w' g n u := World.ownsRow.kept h hg (.inr hne)
theorem infoBool : (Try.prog.info? 4).map (fun i => (i.zero, i.size, i.bytes)) = some (some (.bool false), 1, 1) := by kernel_rfl

end Go.Proofs.Ytnfkafaolelkbaa

namespace Go.Proofs.Ytnfkafaolelkbaa
set_option maxRecDepth 100000
open Go.RowKit

/-- What the model's BuildImage holds in its loops: the result's box, the image's box and rows, what is left. -/
structure SB (w wr : World) (g0 kb gl : Nat) (a' : Option Addr) (m n cl : Nat) (ys left cells : List Int) : Prop where
  y0 : wr.cell? ⟨w.heap.size, 0, none⟩ = some (.int .i64 0)
  y1 : wr.cell? ⟨w.heap.size, 1, none⟩ = some (.slice none 0 0)
  yf : ∀ o, wr.frozen? ⟨w.heap.size, o, none⟩ = false
  b0 : wr.cell? ⟨kb, 0, none⟩ = some (.int .i64 m)
  b1 : wr.cell? ⟨kb, 1, none⟩ = some (.slice (some ⟨g0, 0, none⟩) n n)
  hR : Row wr a' m ys
  hL : OwnI wr w.heap.size (some ⟨gl, 0, none⟩) n cl left
  hO : OwnI wr w.heap.size (some ⟨g0, 0, none⟩) n n cells
  bel : Below w.heap.size w wr
  z : w.heap.size < g0 ∧ g0 < kb ∧ kb < gl ∧ gl < wr.heap.size
  far : ∀ q off, a' = some ⟨q, off, none⟩ → 0 < m → q < w.heap.size
variable {w wr w' : World} {g0 kb gl : Nat} {a' : Option Addr} {m n cl : Nat} {ys left left' cells cells' : List Int}
theorem SB.row (S : SB w wr g0 kb gl a' m n cl ys left cells) {row : Option Nat} (hg : wr.grownBy w' row) (hr : ∀ k, row = some k → w.heap.size < k ∧ k ≠ g0 ∧ k ≠ kb ∧ k ≠ gl) : SB w w' g0 kb gl a' m n cl ys left cells := by
  have z := S.z
  have hn : ∀ q, (q = w.heap.size ∨ q = g0 ∨ q = kb ∨ q = gl ∨ q < w.heap.size) → some q ≠ row := fun q hq e => by have := hr q e.symm; omega
  exact ⟨hg.cell S.y0 (hn _ (by simp)), hg.cell S.y1 (hn _ (by simp)), fun o => (World.frozen?_of_block (a := ⟨w.heap.size, o, none⟩) (hg.block w.heap.size (by have := S.z; omega) (hn _ (by simp)))).trans (S.yf o),
    hg.cell S.b0 (hn _ (by simp)), hg.cell S.b1 (hn _ (by simp)), S.hR.apart hg (fun q off e hl => hn q (by have := S.far q off e hl; omega)),
    World.ownsRow.kept S.hL hg (.inr (hn _ (by simp))), World.ownsRow.kept S.hO hg (.inr (hn _ (by simp))),
    S.bel.grown hg S.bel.size (fun k hk => by have := hr k hk; omega), ⟨z.1, z.2.1, z.2.2.1, by have := hg.size; omega⟩, S.far⟩
theorem SB.more (S : SB w wr g0 kb gl a' m n cl ys left cells) (hb : Below wr.heap.size wr w') : SB w w' g0 kb gl a' m n cl ys left cells := S.row (row := none) (below_grown hb none) (fun k hk => by cases hk)
theorem SB.setL (S : SB w wr g0 kb gl a' m n cl ys left cells) (hg : wr.grownBy w' (some gl)) (hL : OwnI w' w.heap.size (some ⟨gl, 0, none⟩) n cl left') : SB w w' g0 kb gl a' m n cl ys left' cells := by
  have z := S.z
  have hn : ∀ q, (q = w.heap.size ∨ q = g0 ∨ q = kb ∨ q < w.heap.size) → some q ≠ some gl := fun q hq e => by cases e; omega
  exact ⟨hg.cell S.y0 (hn _ (by simp)), hg.cell S.y1 (hn _ (by simp)), fun o => (World.frozen?_of_block (a := ⟨w.heap.size, o, none⟩) (hg.block w.heap.size (by have := S.z; omega) (hn _ (by simp)))).trans (S.yf o),
    hg.cell S.b0 (hn _ (by simp)), hg.cell S.b1 (hn _ (by simp)), S.hR.apart hg (fun q off e hl => hn q (by have := S.far q off e hl; omega)),
    hL, World.ownsRow.kept S.hO hg (.inr (hn _ (by simp))),
    S.bel.grown hg S.bel.size (fun k hk => by cases hk; omega), ⟨z.1, z.2.1, z.2.2.1, by have := hg.size; omega⟩, S.far⟩
theorem SB.setO (S : SB w wr g0 kb gl a' m n cl ys left cells) (hg : wr.grownBy w' (some g0)) (hO : OwnI w' w.heap.size (some ⟨g0, 0, none⟩) n n cells') : SB w w' g0 kb gl a' m n cl ys left cells' := by
  have z := S.z
  have hn : ∀ q, (q = w.heap.size ∨ q = gl ∨ q = kb ∨ q < w.heap.size) → some q ≠ some g0 := fun q hq e => by cases e; omega
  exact ⟨hg.cell S.y0 (hn _ (by simp)), hg.cell S.y1 (hn _ (by simp)), fun o => (World.frozen?_of_block (a := ⟨w.heap.size, o, none⟩) (hg.block w.heap.size (by have := S.z; omega) (hn _ (by simp)))).trans (S.yf o),
    hg.cell S.b0 (hn _ (by simp)), hg.cell S.b1 (hn _ (by simp)), S.hR.apart hg (fun q off e hl => hn q (by have := S.far q off e hl; omega)),
    World.ownsRow.kept S.hL hg (.inr (hn _ (by simp))), hO,
    S.bel.grown hg S.bel.size (fun k hk => by cases hk; omega), ⟨z.1, z.2.1, z.2.2.1, by have := hg.size; omega⟩, S.far⟩
theorem best_congr {f g : Nat → Int} {n i : Nat} {u : Nat → Bool} (h : Best f n u i) (hfg : ∀ k, k < n → u k = false → g k = f k) : Best g n u i := by
  refine ⟨h.1, h.2.1, fun k hk hu => ?_⟩
  rcases h.2.2 k hk hu with e | b
  · exact .inl e
  · right
    unfold bet at b ⊢
    rw [hfg k hk hu, hfg i h.1 h.2.1]; exact b
/-- What is left within a column. -/
def lfL (f : Nat → Int) (u : Nat → Bool) (n : Nat) : List Int := rowsL (fun i => f i - if u i = true then 1 else 0) n
theorem lf_get {f : Nat → Int} {u : Nat → Bool} {n i : Nat} (hi : i < n) : (lfL f u n).getD i 0 = f i - if u i = true then 1 else 0 := rows_get (fun i => f i - if u i = true then 1 else 0) hi
theorem lf_set {f : Nat → Int} {u : Nat → Bool} {n i : Nat} (hi : i < n) : (lfL f u n).set i (f i - 1) = lfL f (fun k => u k || decide (k = i)) n :=
  rows_set _ _ hi (by simp) fun k _ hne => by simp [hne]
theorem lf_none {f : Nat → Int} {n : Nat} : lfL f (fun _ => false) n = rowsL f n := rows_ext fun i _ => by simp
/-- The cells of the first columns, and of the column j those used. -/
def upU (f : Nat → Int) (n : Nat) (ys : List Int) (j : Nat) (u : Nat → Bool) (i q : Nat) : Bool := upto f n ys j q i || (decide (q = j) && u i)

theorem upU_next {f : Nat → Int} {n j i : Nat} {ys : List Int} {u : Nat → Bool} (a b : Nat) : upU f n ys j (fun k => u k || decide (k = i)) a b = (upU f n ys j u a b || (decide (a = i) && decide (b = j))) := by
  unfold upU
  rw [Bool.eq_iff_iff]
  simp only [Bool.or_eq_true, Bool.and_eq_true, decide_eq_true_eq]
  constructor
  · rintro (h | ⟨h1, h2 | h2⟩)
    · exact .inl (.inl h)
    · exact .inl (.inr ⟨h1, h2⟩)
    · exact .inr ⟨h2, h1⟩
  · rintro ((h | h) | h)
    · exact .inl h
    · exact .inr ⟨h.1, .inl h.2⟩
    · exact .inr ⟨h.2, .inr h.1⟩
theorem upU_full {f : Nat → Int} {n j : Nat} {ys : List Int} {u : Nat → Bool} {i q : Nat} (hu : u i = chB (leftI f n ys j) n (ys.getD j 0) i) : upU f n ys j u i q = upto f n ys (j + 1) q i := by
  unfold upU upto
  rw [Bool.eq_iff_iff]
  simp only [Bool.or_eq_true, Bool.and_eq_true, decide_eq_true_eq]
  constructor
  · rintro (hh | ⟨rfl, h2⟩)
    · exact ⟨by omega, hh.2⟩
    · exact ⟨by omega, by unfold bcB; rw [← hu]; exact h2⟩
  · rintro ⟨h1, h2⟩
    by_cases e : q < j
    · exact .inl ⟨e, h2⟩
    · obtain rfl : q = j := by omega
      unfold bcB at h2; rw [← hu] at h2
      exact .inr ⟨rfl, h2⟩
theorem lf_full {f : Nat → Int} {n j : Nat} {ys : List Int} {u : Nat → Bool} (hu : ∀ i, i < n → u i = chB (leftI f n ys j) n (ys.getD j 0) i) : lfL (leftI f n ys j) u n = rowsL (leftI f n ys (j + 1)) n :=
  rows_ext fun i hi => by rw [hu i hi]; rfl

end Go.Proofs.Ytnfkafaolelkbaa

namespace Go.Proofs.Ytnfkafaolelkbaa
set_option maxRecDepth 100000
open Go.RowKit

theorem conB_comm (xs ys : List Int) : conB ys xs = conB xs ys := bool_iff ⟨conB_flip, conB_flip⟩
end Go.Proofs.Ytnfkafaolelkbaa

namespace Go.Proofs.Ytnfkafaolelkbaa
set_option maxRecDepth 100000
open Go.RowKit

theorem fitB_ok {L xs ys : List Int} {W n m : Nat} (h : fitB W L xs ys = true) (s s' s'' : Option Addr) (c c' c'' : Nat) (w : World) (hR : Row w s n L) (hR' : Row w s' n xs) (hR'' : Row w s'' m ys) (hn : n ≤ 13) (hm : m ≤ 13) :
    Calls Try.prog 34 #[.agg #[.int .i64 W, .slice s n c], .slice s' n c', .slice s'' m c''] w fun e w' => e = .returned (.bool true) ∧ Below w.heap.size w w' := by
  have := fit_impl W s s' s'' n n m c c' c'' L xs ys w hR hR' hR'' (by omega) (by omega) (by omega)
  rw [h] at this
  exact this
end Go.Proofs.Ytnfkafaolelkbaa
