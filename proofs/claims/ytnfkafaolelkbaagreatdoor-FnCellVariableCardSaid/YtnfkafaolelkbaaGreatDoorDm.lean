/-
  The contracts of the program's BuildImage and BuildRow.
  The contract of the model's l5Best; rows of flags; what the model's BuildImage holds.
  The contract of the model's BuildImage.
  The contract of the model's BuildRow.
  The contracts of BuildImage, BuildRow and SumsFit in the form that the laws use.
-/
import Derived.Test.YtnfkafaolelkbaaGreatDoorDh
import Derived.Test.YtnfkafaolelkbaaGreatDoorDa
import Derived.Test.YtnfkafaolelkbaaGreatDoorK
import Derived.Test.YtnfkafaolelkbaaGreatDoorEp

namespace Go.Proofs.YtnfkafaolelkbaaGreatDoor
set_option maxRecDepth 100000
open Go.RowKit

def biOut (xs ys : List Int) : Out := if conB xs ys = true then ⟨true, ys.length, buildL xs ys⟩ else .no
def brOut (xs ys : List Int) : Out := if conB xs ys = true then ⟨true, ys.length, buildR xs ys⟩ else .no
theorem biOut_six (xs ys : List Int) : (biOut xs ys).xs.length ≤ 6 := by
  unfold biOut
  split
  · rename_i h; have hp := sumsB_parts (conB_valid h); show (buildL xs ys).length ≤ 6; rw [build_len]; omega
  · simp [Out.no]
theorem brOut_six (xs ys : List Int) : (brOut xs ys).xs.length ≤ 6 := by
  unfold brOut
  split
  · rename_i h; have hp := sumsB_parts (conB_valid h); show (buildR xs ys).length ≤ 6; rw [buildR_len]; omega
  · simp [Out.no]
theorem small_row {c : Nat → Nat → Bool} {w n i : Nat} (hw : w ≤ 6) (hi : i < n) : 0 ≤ (cellsL c w n).getD i 0 ∧ (cellsL c w n).getD i 0 ≤ 63 := by
  rw [cells_get hi]
  have := rowN_bd (c i) w
  have := pw_63 hw
  omega
theorem cnv_cols {n m : Nat} (h1 : 1 ≤ m) (h2 : m ≤ 6) (h3 : 1 ≤ n) (h4 : n ≤ 6) : Cnv 47 126 (fun c => cellsL (fun i j => c j i) m n) n m n :=
  ⟨sm_cols, sn_cols, fun B k cap c l a w hl ha ho => (set_cols B k n cap _ a l w ho ha (by omega) (small_row h2 ha).1 (small_row h2 ha).2).mono fun e w' hh => ⟨hh.1, hh.2.1, by
    have e := cells_put (c := fun i j => c j i) (d := fun i j => c j i || (decide (j = l) && decide (i = a))) (i := a) (j := l) h1 h2 h3 h4 ha hl (fun p q _ _ => by rw [Bool.and_comm])
    rw [← e]; exact hh.2.2⟩, fun c d hcd => cells_ext fun i j hi hj => hcd j i hj hi⟩
set_option maxHeartbeats 2000000 in
theorem bi_impl (a a' : Option Addr) (n m cap cap' : Nat) (xs ys : List Int) (p : Addr) (w : World) (h : Row w a n xs) (h' : Row w a' m ys) (hE : w.cell? ⟨0, 0, none⟩ = some (errV p)) (hm : n ≤ 9223372036854775807) (hm' : m ≤ 9223372036854775807) :
    Calls Tryz.prog 9 #[.slice a n cap, .slice a' m cap'] w (Gives w (biOut xs ys)) := by
  obtain ⟨i1, ii, iz0, iz1, iz2⟩ := info_parts infoInt
  have hW0 : Below w.heap.size w (w.alloc (.cells #[.int .i64 0, .slice none 0 0] 28)) := (Below.refl _ _).alloc (Nat.le_refl _) _
  have cC := con_impl a a' n m cap cap' xs ys p (w.alloc (.cells #[.int .i64 0, .slice none 0 0] 28)) (h.alloc _) (h'.alloc _) (World.cell?_alloc_some hE) hm hm'
  have far := row_lt h
  have far' := row_lt h'
  unfold biOut
  by_cases hc : conB xs ys = true
  case neg =>
    rw [if_neg hc]
    have hc : conB xs ys = false := by simpa using hc
    rw [hc] at cC
    replace cC := Lib.hid cC
    clear h h' hE far far'
    go_enter Tryz.func9, Tryz.ntmps9
    go_wp2_with fail
    refine cC.out.mono ?_
    rintro e w1 ⟨rfl, hb⟩
    obtain ⟨hc1, hf1⟩ := bcell hb
    have bb1 : Below w.heap.size w w1 := hW0.trans (hb.mono (by simp))
    go_wp2_with fail
    refine bodyPost_ret (v := .tuple #[.agg #[.int .i64 0, .slice none 0 0], .bool false]) (by simp [results, Tryz.results9, go_sem, hc1]) rfl ?_
    exact ⟨⟨none, 0, rfl, own_nil _ _⟩, (bb1.setCell (by simp) _).setCell (by simp) _⟩
  rw [if_pos hc]
  rw [hc] at cC
  have lx := h.1
  have ly := h'.1
  have hp := sumsB_parts (conB_valid hc)
  rw [lx, ly] at hp
  obtain ⟨⟨hn1, hn6⟩, ⟨hm1, hm6⟩, hbx, hby⟩ := hp
  have hbX := Lib.hid hbx
  have hbY := Lib.hid hby
  have H0 := Lib.hid (h.alloc (.cells #[.int .i64 0, .slice none 0 0] 28))
  have H0' := Lib.hid (h'.alloc (.cells #[.int .i64 0, .slice none 0 0] 28))
  have farH := Lib.hid far
  have farH' := Lib.hid far'
  have lxH := Lib.hid lx
  have lyH := Lib.hid ly
  replace cC := Lib.hid cC
  clear h h' hE far far' hc hbx hby lx ly
  go_enter Tryz.func9, Tryz.ntmps9
  go_wp2_with fail
  refine cC.out.mono ?_
  rintro e w1 ⟨rfl, hb⟩
  have hz : w.heap.size < w1.heap.size := by have := hb.size; simp at this; omega
  have y0 : w1.cell? ⟨w.heap.size, 0, none⟩ = some (.int .i64 0) := by rw [(bcell hb).1 _ _ (by simp)]; go_simp
  have y1 : w1.cell? ⟨w.heap.size, 1, none⟩ = some (.slice none 0 0) := by rw [(bcell hb).1 _ _ (by simp)]; go_simp
  have yf : ∀ o, w1.frozen? ⟨w.heap.size, o, none⟩ = false := fun o => by rw [(bcell hb).2 _ _ (by simp)]; go_simp
  have bb1 := Lib.hid (hW0.trans (hb.mono (by simp)))
  have H1 := Lib.hid (H0.out.bel hb)
  have H1' := Lib.hid (H0'.out.bel hb)
  clear hb H0 H0' hW0 cC
  go_wp2_with ((refine wpList_make_full w1 rfl _ _ 23 rfl w1.heap.size 3 i1 (.int .i64 0) 1 Tryz.underlying23 ii iz0 iz1 .i64 .i64 n n n rfl rfl rfl rfl ?_ ?_ (Nat.le_refl _) ?_))
  all_goals first | omega | (rw [iz2]; omega) | (unfold maxLen; omega) | skip
  intro w2 ho hg
  have ho0 : OwnI w2 w1.heap.size (some ⟨w1.heap.size, 0, none⟩) n n (cellsL (fun _ _ => false) m n) := by
    rw [cells_none]; unfold OwnI; simpa [toList_madeCells_one, List.map_replicate] using ho
  have hb2 : Below w1.heap.size w1 w2 := (Below.refl _ _).grown hg (Nat.le_refl _) (fun k hk => by cases hk)
  have hz2 := (World.ownsRow.lt ho0 _ rfl).2
  replace y0 := kept hb2 (block_lt y0) y0
  replace y1 := kept hb2 (block_lt y1) y1
  replace yf : ∀ o, w2.frozen? ⟨w.heap.size, o, none⟩ = false := fun o => (hb2.frozen (p := ⟨w.heap.size, o, none⟩) hz).trans (yf o)
  replace bb1 := Lib.hid (bb1.out.trans (hb2.mono bb1.out.size))
  replace H1 := Lib.hid (H1.out.bel hb2)
  replace H1' := Lib.hid (H1'.out.bel hb2)
  obtain ⟨g, hgg⟩ : ∃ g, w1.heap.size = g := ⟨_, rfl⟩
  rw [hgg] at ho0 hz hz2 ⊢
  clear ho hg hb2 hgg
  replace ho0 := Lib.hid ho0
  go_wp2_with fail
  have hb3 : Below w2.heap.size w2 (w2.alloc (.cells #[.int .i64 m, .slice (some ⟨g, 0, none⟩) n n] 28)) := (Below.refl _ _).alloc (Nat.le_refl _) _
  have a0 : (w2.alloc (.cells #[.int .i64 m, .slice (some ⟨g, 0, none⟩) n n] 28)).cell? ⟨w2.heap.size, 0, none⟩ = some (.int .i64 m) := by simp
  have a1 : (w2.alloc (.cells #[.int .i64 m, .slice (some ⟨g, 0, none⟩) n n] 28)).cell? ⟨w2.heap.size, 1, none⟩ = some (.slice (some ⟨g, 0, none⟩) n n) := by simp
  replace y0 := kept hb3 (block_lt y0) y0
  replace y1 := kept hb3 (block_lt y1) y1
  replace yf : ∀ o, (w2.alloc (.cells #[.int .i64 m, .slice (some ⟨g, 0, none⟩) n n] 28)).frozen? ⟨w.heap.size, o, none⟩ = false := fun o => (hb3.frozen (p := ⟨w.heap.size, o, none⟩) (show w.heap.size < w2.heap.size by omega)).trans (yf o)
  replace bb1 := Lib.hid (bb1.out.trans (hb3.mono bb1.out.size))
  replace H1 := Lib.hid (H1.out.bel hb3)
  replace H1' := Lib.hid (H1'.out.bel hb3)
  replace ho0 := Lib.hid (ho0.out.bel hb3)
  have hz3 : w2.heap.size < (w2.alloc (.cells #[.int .i64 m, .slice (some ⟨g, 0, none⟩) n n] 28)).heap.size := by simp
  generalize w2.alloc (.cells #[.int .i64 m, .slice (some ⟨g, 0, none⟩) n n] 28) = w3 at *
  generalize w2.heap.size = k2 at *
  clear hb3
  refine (build_byColumns (cnv_cols (n := n) (m := m) hm1 hm6 hn1 hn6) a' a cap' cap ys xs g g n w3 H1'.out H1.out ho0.out (fun q off e hl => by have := farH'.out q off e hl; omega) (by omega) (by omega) hbY.out (fun i hi => by have := hbX.out i hi; omega)).mono ?_
  rintro e w4 ⟨rfl, hg4, hO4⟩
  have hR : cellsL (fun i j => bcB (fun i => xs.getD i 0) n ys i j) m n = buildL xs ys := by unfold buildL; rw [lxH.out, lyH.out]
  have hO5 : OwnI w4 g (some ⟨g, 0, none⟩) n n (buildL xs ys) := by rw [← hR]; exact hO4
  replace y0 := hg4.cell y0 (by simp; omega)
  replace y1 := hg4.cell y1 (by simp; omega)
  replace a0 := hg4.cell a0 (by simp; omega)
  replace a1 := hg4.cell a1 (by simp; omega)
  replace yf : ∀ o, w4.frozen? ⟨w.heap.size, o, none⟩ = false := fun o => (World.frozen?_of_block (a := ⟨w.heap.size, o, none⟩) (hg4.block w.heap.size (by omega) (by simp; omega))).trans (yf o)
  have bb4 : Below w.heap.size w w4 := bb1.out.grown hg4 bb1.out.size (fun k hk => by cases hk; omega)
  replace hO5 := Lib.hid hO5
  replace bb4 := Lib.hid bb4
  clear hg4 hO4 hR H1 H1' ho0 bb1
  go_wp2_with fail
  refine bodyPost_ret (v := .tuple #[.agg #[.int .i64 m, .slice (some ⟨g, 0, none⟩) n n], .bool true]) (by simp [results, Tryz.results9, go_sem, y0, y1]) rfl ?_
  refine ⟨⟨some ⟨g, 0, none⟩, n, by rw [build_len, lxH.out, lyH.out], ?_⟩, (bb4.out.setCell (by simp) _).setCell (by simp) _⟩
  show OwnI _ _ _ (buildL xs ys).length _ _
  rw [build_len, lxH.out]
  exact ((hO5.out.store (show w.heap.size < g by omega) _).store (show w.heap.size < g by omega) _).mono (by omega)

end Go.Proofs.YtnfkafaolelkbaaGreatDoor

namespace Go.Proofs.YtnfkafaolelkbaaGreatDoor
set_option maxRecDepth 100000
open Go.RowKit

/-- The best one so far. -/
def BSo (f : Nat → Int) (u : Nat → Bool) (k : Nat) (b : Int) : Prop := (b = -1 ∧ ∀ q, q < k → u q = true) ∨ ∃ m : Nat, b = m ∧ m < k ∧ u m = false ∧ ∀ q, q < k → u q = false → q = m ∨ bet f m q
theorem BSo.used {f : Nat → Int} {u : Nat → Bool} {k : Nat} {b : Int} (h : BSo f u k b) (hu : u k = true) : BSo f u (k + 1) b := by
  rcases h with ⟨e, h⟩ | ⟨m, e, hm, h1, h2⟩
  · refine .inl ⟨e, fun q hq => ?_⟩
    by_cases e2 : q = k
    · subst e2; exact hu
    · exact h q (by omega)
  · refine .inr ⟨m, e, by omega, h1, fun q hq hq2 => ?_⟩
    by_cases e2 : q = k
    · subst e2; rw [hu] at hq2; cases hq2
    · exact h2 q (by omega) hq2
theorem BSo.first {f : Nat → Int} {u : Nat → Bool} {k : Nat} (h : BSo f u k (-1)) (hu : u k = false) : BSo f u (k + 1) (k : Int) := by
  rcases h with ⟨_, h⟩ | ⟨m, e, _⟩
  · refine .inr ⟨k, rfl, by omega, hu, fun q hq hq2 => ?_⟩
    by_cases e2 : q = k
    · exact .inl e2
    · rw [h q (by omega)] at hq2; cases hq2
  · omega
theorem BSo.better {f : Nat → Int} {u : Nat → Bool} {k m : Nat} (h : BSo f u k (m : Int)) (hu : u k = false) (hb : f m < f k) : BSo f u (k + 1) (k : Int) := by
  rcases h with ⟨e, _⟩ | ⟨m', e, hm, h1, h2⟩
  · omega
  · obtain rfl : m = m' := by omega
    refine .inr ⟨k, rfl, by omega, hu, fun q hq hq2 => ?_⟩
    by_cases e2 : q = k
    · exact .inl e2
    · right
      rcases h2 q (by omega) hq2 with rfl | b
      · exact .inl hb
      · exact bet_trans (.inl hb) b
theorem BSo.worse {f : Nat → Int} {u : Nat → Bool} {k m : Nat} (h : BSo f u k (m : Int)) (hb : ¬ f m < f k) : BSo f u (k + 1) (m : Int) := by
  rcases h with ⟨e, _⟩ | ⟨m', e, hm, h1, h2⟩
  · omega
  · obtain rfl : m = m' := by omega
    refine .inr ⟨m, rfl, by omega, h1, fun q hq hq2 => ?_⟩
    by_cases e2 : q = k
    · subst e2; right; unfold bet; omega
    · exact h2 q (by omega) hq2
theorem BSo.done {f : Nat → Int} {u : Nat → Bool} {n i : Nat} {b : Int} (h : BSo f u n b) (hi : Best f n u i) : b = i := by
  rcases h with ⟨_, h⟩ | ⟨m, e, hm, h1, h2⟩
  · have h2 := hi.2.1
    rw [h i hi.1] at h2; cases h2
  · have : Best f n u m := ⟨hm, h1, h2⟩
    rw [e, this.eq hi]
theorem BSo.get {f : Nat → Int} {u : Nat → Bool} {k : Nat} {b : Int} (h : BSo f u k b) : b = -1 ∨ ∃ m : Nat, b = m ∧ m < k := by
  rcases h with ⟨e, _⟩ | ⟨m, e, hm, _⟩
  · exact .inl e
  · exact .inr ⟨m, e, hm⟩

/-- A slice of flags that starts at the head of a block. -/
def OwnB (w : World) (g n : Nat) (u : Nat → Bool) : Prop := w.ownsRow 0 4 1 (.slice (some ⟨g, 0, none⟩) n n) n ((List.range n).map fun i => .bool (u i))
theorem OwnB.cell {w : World} {g n : Nat} {u : Nat → Bool} (h : OwnB w g n u) {i : Nat} (hi : i < n) : w.cell? ⟨g, i, none⟩ = some (.bool (u i)) := by
  rw [World.ownsRow.cellAt h i (by omega)]
  simp [hi]
theorem OwnB.frozen {w : World} {g n : Nat} {u : Nat → Bool} (h : OwnB w g n u) (j : Nat) : w.frozen? ⟨g, j, none⟩ = false := World.ownsRow.frozenAt h j
theorem OwnB.set {w : World} {g n i : Nat} {u : Nat → Bool} (h : OwnB w g n u) : OwnB (w.setCell ⟨g, i, none⟩ (.bool true)) g n (fun k => u k || decide (k = i)) := by
  have h1 := (World.ownsRow.stored h i (.bool true)).1
  have e : ((List.range n).map fun i => Value.bool (u i)).set i (.bool true) = (List.range n).map fun k => .bool (u k || decide (k = i)) := by
    apply List.ext_getElem (by simp)
    intro k h1 h2
    rw [List.getElem_set]
    by_cases e : i = k
    · subst e; simp
    · rw [if_neg e]; simp [Ne.symm e]
  rw [e] at h1; exact h1
theorem OwnB.kept {w w' : World} {g n : Nat} {u : Nat → Bool} {row : Option Nat} (h : OwnB w g n u) (hg : w.grownBy w' row) (hne : some g ≠ row) : OwnB w' g n u := World.ownsRow.kept h hg (.inr hne)
theorem infoBool : (Tryz.prog.info? 4).map (fun i => (i.zero, i.size, i.bytes)) = some (some (.bool false), 1, 1) := by kernel_rfl

end Go.Proofs.YtnfkafaolelkbaaGreatDoor

namespace Go.Proofs.YtnfkafaolelkbaaGreatDoor
set_option maxRecDepth 100000
open Go.RowKit

/-- What the model's BuildImage holds in its loops: the result's box, the image's box and rows, what is left. -/
structure SB (w wr : World) (g0 kb gl : Nat) (a' : Option Addr) (m n cl : Nat) (ys left cells : List Int) : Prop where
  y0 : wr.cell? ⟨w.heap.size, 0, none⟩ = some (.int .i64 0)
  y1 : wr.cell? ⟨w.heap.size, 1, none⟩ = some (.slice none 0 0)
  yf : ∀ o, wr.frozen? ⟨w.heap.size, o, none⟩ = false
  b0 : wr.cell? ⟨kb, 0, none⟩ = some (.int .i64 m)
  b1 : wr.cell? ⟨kb, 1, none⟩ = some (.slice (some ⟨g0, 0, none⟩) n n)
  hR : Row wr a' m ys
  hL : OwnI wr w.heap.size (some ⟨gl, 0, none⟩) n cl left
  hO : OwnI wr w.heap.size (some ⟨g0, 0, none⟩) n n cells
  bel : Below w.heap.size w wr
  z : w.heap.size < g0 ∧ g0 < kb ∧ kb < gl ∧ gl < wr.heap.size
  far : ∀ q off, a' = some ⟨q, off, none⟩ → 0 < m → q < w.heap.size
variable {w wr w' : World} {g0 kb gl : Nat} {a' : Option Addr} {m n cl : Nat} {ys left left' cells cells' : List Int}
theorem SB.row (S : SB w wr g0 kb gl a' m n cl ys left cells) {row : Option Nat} (hg : wr.grownBy w' row) (hr : ∀ k, row = some k → w.heap.size < k ∧ k ≠ g0 ∧ k ≠ kb ∧ k ≠ gl) : SB w w' g0 kb gl a' m n cl ys left cells := by
  have z := S.z
  have hn : ∀ q, (q = w.heap.size ∨ q = g0 ∨ q = kb ∨ q = gl ∨ q < w.heap.size) → some q ≠ row := fun q hq e => by have := hr q e.symm; omega
  exact ⟨hg.cell S.y0 (hn _ (by simp)), hg.cell S.y1 (hn _ (by simp)), fun o => (World.frozen?_of_block (a := ⟨w.heap.size, o, none⟩) (hg.block w.heap.size (by have := S.z; omega) (hn _ (by simp)))).trans (S.yf o),
    hg.cell S.b0 (hn _ (by simp)), hg.cell S.b1 (hn _ (by simp)), S.hR.apart hg (fun q off e hl => hn q (by have := S.far q off e hl; omega)),
    World.ownsRow.kept S.hL hg (.inr (hn _ (by simp))), World.ownsRow.kept S.hO hg (.inr (hn _ (by simp))),
    S.bel.grown hg S.bel.size (fun k hk => by have := hr k hk; omega), ⟨z.1, z.2.1, z.2.2.1, by have := hg.size; omega⟩, S.far⟩
theorem SB.more (S : SB w wr g0 kb gl a' m n cl ys left cells) (hb : Below wr.heap.size wr w') : SB w w' g0 kb gl a' m n cl ys left cells := S.row (row := none) (below_grown hb none) (fun k hk => by cases hk)
theorem SB.setL (S : SB w wr g0 kb gl a' m n cl ys left cells) (hg : wr.grownBy w' (some gl)) (hL : OwnI w' w.heap.size (some ⟨gl, 0, none⟩) n cl left') : SB w w' g0 kb gl a' m n cl ys left' cells := by
  have z := S.z
  have hn : ∀ q, (q = w.heap.size ∨ q = g0 ∨ q = kb ∨ q < w.heap.size) → some q ≠ some gl := fun q hq e => by cases e; omega
  exact ⟨hg.cell S.y0 (hn _ (by simp)), hg.cell S.y1 (hn _ (by simp)), fun o => (World.frozen?_of_block (a := ⟨w.heap.size, o, none⟩) (hg.block w.heap.size (by have := S.z; omega) (hn _ (by simp)))).trans (S.yf o),
    hg.cell S.b0 (hn _ (by simp)), hg.cell S.b1 (hn _ (by simp)), S.hR.apart hg (fun q off e hl => hn q (by have := S.far q off e hl; omega)),
    hL, World.ownsRow.kept S.hO hg (.inr (hn _ (by simp))),
    S.bel.grown hg S.bel.size (fun k hk => by cases hk; omega), ⟨z.1, z.2.1, z.2.2.1, by have := hg.size; omega⟩, S.far⟩
theorem SB.setO (S : SB w wr g0 kb gl a' m n cl ys left cells) (hg : wr.grownBy w' (some g0)) (hO : OwnI w' w.heap.size (some ⟨g0, 0, none⟩) n n cells') : SB w w' g0 kb gl a' m n cl ys left cells' := by
  have z := S.z
  have hn : ∀ q, (q = w.heap.size ∨ q = gl ∨ q = kb ∨ q < w.heap.size) → some q ≠ some g0 := fun q hq e => by cases e; omega
  exact ⟨hg.cell S.y0 (hn _ (by simp)), hg.cell S.y1 (hn _ (by simp)), fun o => (World.frozen?_of_block (a := ⟨w.heap.size, o, none⟩) (hg.block w.heap.size (by have := S.z; omega) (hn _ (by simp)))).trans (S.yf o),
    hg.cell S.b0 (hn _ (by simp)), hg.cell S.b1 (hn _ (by simp)), S.hR.apart hg (fun q off e hl => hn q (by have := S.far q off e hl; omega)),
    World.ownsRow.kept S.hL hg (.inr (hn _ (by simp))), hO,
    S.bel.grown hg S.bel.size (fun k hk => by cases hk; omega), ⟨z.1, z.2.1, z.2.2.1, by have := hg.size; omega⟩, S.far⟩
theorem best_congr {f g : Nat → Int} {n i : Nat} {u : Nat → Bool} (h : Best f n u i) (hfg : ∀ k, k < n → u k = false → g k = f k) : Best g n u i := by
  refine ⟨h.1, h.2.1, fun k hk hu => ?_⟩
  rcases h.2.2 k hk hu with e | b
  · exact .inl e
  · right
    unfold bet at b ⊢
    rw [hfg k hk hu, hfg i h.1 h.2.1]; exact b
/-- What is left within a column. -/
def lfL (f : Nat → Int) (u : Nat → Bool) (n : Nat) : List Int := rowsL (fun i => f i - if u i = true then 1 else 0) n
theorem lf_get {f : Nat → Int} {u : Nat → Bool} {n i : Nat} (hi : i < n) : (lfL f u n).getD i 0 = f i - if u i = true then 1 else 0 := rows_get (fun i => f i - if u i = true then 1 else 0) hi
theorem lf_set {f : Nat → Int} {u : Nat → Bool} {n i : Nat} (hi : i < n) : (lfL f u n).set i (f i - 1) = lfL f (fun k => u k || decide (k = i)) n :=
  rows_set _ _ hi (by simp) fun k _ hne => by simp [hne]
theorem lf_none {f : Nat → Int} {n : Nat} : lfL f (fun _ => false) n = rowsL f n := rows_ext fun i _ => by simp
/-- The cells of the first columns, and of the column j those used. -/
def upU (f : Nat → Int) (n : Nat) (ys : List Int) (j : Nat) (u : Nat → Bool) (i q : Nat) : Bool := upto f n ys j q i || (decide (q = j) && u i)

theorem upU_next {f : Nat → Int} {n j i : Nat} {ys : List Int} {u : Nat → Bool} (a b : Nat) : upU f n ys j (fun k => u k || decide (k = i)) a b = (upU f n ys j u a b || (decide (a = i) && decide (b = j))) := by
  unfold upU
  rw [Bool.eq_iff_iff]
  simp only [Bool.or_eq_true, Bool.and_eq_true, decide_eq_true_eq]
  constructor
  · rintro (h | ⟨h1, h2 | h2⟩)
    · exact .inl (.inl h)
    · exact .inl (.inr ⟨h1, h2⟩)
    · exact .inr ⟨h2, h1⟩
  · rintro ((h | h) | h)
    · exact .inl h
    · exact .inr ⟨h.1, .inl h.2⟩
    · exact .inr ⟨h.2, .inr h.1⟩
theorem upU_full {f : Nat → Int} {n j : Nat} {ys : List Int} {u : Nat → Bool} {i q : Nat} (hu : u i = chB (leftI f n ys j) n (ys.getD j 0) i) : upU f n ys j u i q = upto f n ys (j + 1) q i := by
  unfold upU upto
  rw [Bool.eq_iff_iff]
  simp only [Bool.or_eq_true, Bool.and_eq_true, decide_eq_true_eq]
  constructor
  · rintro (hh | ⟨rfl, h2⟩)
    · exact ⟨by omega, hh.2⟩
    · exact ⟨by omega, by unfold bcB; rw [← hu]; exact h2⟩
  · rintro ⟨h1, h2⟩
    by_cases e : q < j
    · exact .inl ⟨e, h2⟩
    · obtain rfl : q = j := by omega
      unfold bcB at h2; rw [← hu] at h2
      exact .inr ⟨rfl, h2⟩
theorem lf_full {f : Nat → Int} {n j : Nat} {ys : List Int} {u : Nat → Bool} (hu : ∀ i, i < n → u i = chB (leftI f n ys j) n (ys.getD j 0) i) : lfL (leftI f n ys j) u n = rowsL (leftI f n ys (j + 1)) n :=
  rows_ext fun i hi => by rw [hu i hi]; rfl

end Go.Proofs.YtnfkafaolelkbaaGreatDoor

namespace Go.Proofs.YtnfkafaolelkbaaGreatDoor
set_option maxRecDepth 100000
open Go.RowKit

theorem conB_comm (xs ys : List Int) : conB ys xs = conB xs ys := bool_iff ⟨conB_flip, conB_flip⟩
end Go.Proofs.YtnfkafaolelkbaaGreatDoor

namespace Go.Proofs.YtnfkafaolelkbaaGreatDoor
set_option maxRecDepth 100000
open Go.RowKit

theorem bi_ok {xs ys L : List Int} (h : conB xs ys = true) (hL : buildL xs ys = L) {n m : Nat} (lx : xs.length = n) (ly : ys.length = m) (s s' : Option Addr) (c c' : Nat) (p : Addr) (w : World) (hR : Row w s n xs) (hR' : Row w s' m ys) (hE : w.cell? ⟨0, 0, none⟩ = some (errV p)) :
    Calls Tryz.prog 9 #[.slice s n c, .slice s' m c'] w (GivesI w m n L) := by
  have hp := sumsB_parts (conB_valid h)
  have hc := bi_impl s s' n m c c' xs ys p w hR hR' hE (by omega) (by omega)
  unfold biOut at hc
  rw [if_pos h, ly, hL] at hc
  exact hc.mono fun e w' hg => hg.ok (by rw [← hL, build_len, lx])
theorem bi_no {xs ys : List Int} (h : conB xs ys = false) {n m : Nat} (hn : n ≤ 13) (hm : m ≤ 13) (s s' : Option Addr) (c c' : Nat) (p : Addr) (w : World) (hR : Row w s n xs) (hR' : Row w s' m ys) (hE : w.cell? ⟨0, 0, none⟩ = some (errV p)) :
    Calls Tryz.prog 9 #[.slice s n c, .slice s' m c'] w (GivesN w) := by
  have hc := bi_impl s s' n m c c' xs ys p w hR hR' hE (by omega) (by omega)
  unfold biOut at hc
  rw [h] at hc
  exact hc
end Go.Proofs.YtnfkafaolelkbaaGreatDoor
