/-
  The contracts of the program's BuildImage and BuildRow.
-/
import Derived.Test.YtocbnpkdncnbgaaDoorDl
namespace Go.Proofs.YtocbnpkdncnbgaaDoor
set_option maxRecDepth 100000
open Go.RowKit

def biOut (xs ys : List Int) : Out := if conB xs ys = true then ⟨true, ys.length, buildL xs ys⟩ else .no
def brOut (xs ys : List Int) : Out := if conB xs ys = true then ⟨true, ys.length, buildR xs ys⟩ else .no
theorem biOut_six (xs ys : List Int) : (biOut xs ys).xs.length ≤ 6 := by
  unfold biOut
  split
  · rename_i h; have hp := sumsB_parts (conB_valid h); show (buildL xs ys).length ≤ 6; rw [build_len]; omega
  · simp [Out.no]
theorem brOut_six (xs ys : List Int) : (brOut xs ys).xs.length ≤ 6 := by
  unfold brOut
  split
  · rename_i h; have hp := sumsB_parts (conB_valid h); show (buildR xs ys).length ≤ 6; rw [buildR_len]; omega
  · simp [Out.no]
theorem small_row {c : Nat → Nat → Bool} {w n i : Nat} (hw : w ≤ 6) (hi : i < n) : 0 ≤ (cellsL c w n).getD i 0 ∧ (cellsL c w n).getD i 0 ≤ 63 := by
  rw [cells_get hi]
  have := rowN_bd (c i) w
  have := pw_63 hw
  omega
theorem cnv_cols {n m : Nat} (h1 : 1 ≤ m) (h2 : m ≤ 6) (h3 : 1 ≤ n) (h4 : n ≤ 6) : Cnv 60 120 (fun c => cellsL (fun i j => c j i) m n) n m n :=
  ⟨sm_cols, sn_cols, fun B k cap c l a w hl ha ho => (set_cols B k n cap _ a l w ho ha (by omega) (small_row h2 ha).1 (small_row h2 ha).2).mono fun e w' hh => ⟨hh.1, hh.2.1, by
    have e := cells_put (c := fun i j => c j i) (d := fun i j => c j i || (decide (j = l) && decide (i = a))) (i := a) (j := l) h1 h2 h3 h4 ha hl (fun p q _ _ => by rw [Bool.and_comm])
    rw [← e]; exact hh.2.2⟩, fun c d hcd => cells_ext fun i j hi hj => hcd j i hj hi⟩
theorem cnv_rows {n m : Nat} (h1 : 1 ≤ m) (h2 : m ≤ 6) (h3 : 1 ≤ n) (h4 : n ≤ 6) : Cnv 65 121 (fun c => cellsL c m n) n n m :=
  ⟨sm_rows, sn_rows, fun B k cap c l a w hl ha ho => (set_rows B k n cap _ l a w ho hl (by omega) (small_row h2 hl).1 (small_row h2 hl).2).mono fun e w' hh => ⟨hh.1, hh.2.1, by
    have e := cells_put (c := c) (d := fun i j => c i j || (decide (i = l) && decide (j = a))) (i := l) (j := a) h1 h2 h3 h4 hl ha (fun p q _ _ => rfl)
    rw [← e]; exact hh.2.2⟩, fun c d hcd => cells_ext hcd⟩

set_option maxHeartbeats 2000000 in
theorem bi_impl (a a' : Option Addr) (n m cap cap' : Nat) (xs ys : List Int) (p : Addr) (w : World) (h : Row w a n xs) (h' : Row w a' m ys) (hE : w.cell? ⟨0, 0, none⟩ = some (errV p)) (hm : n ≤ 9223372036854775807) (hm' : m ≤ 9223372036854775807) :
    Calls Tryd.prog 16 #[.slice a n cap, .slice a' m cap'] w (Gives w (biOut xs ys)) := by
  obtain ⟨i1, ii, iz0, iz1, iz2⟩ := info_parts infoInt
  have hW0 : Below w.heap.size w (w.alloc (.cells #[.int .i64 0, .slice none 0 0] 27)) := (Below.refl _ _).alloc (Nat.le_refl _) _
  have cC := con_impl a a' n m cap cap' xs ys p (w.alloc (.cells #[.int .i64 0, .slice none 0 0] 27)) (h.alloc _) (h'.alloc _) (World.cell?_alloc_some hE) hm hm'
  have far := row_lt h
  have far' := row_lt h'
  unfold biOut
  by_cases hc : conB xs ys = true
  case neg =>
    rw [if_neg hc]
    have hc : conB xs ys = false := by simpa using hc
    rw [hc] at cC
    replace cC := Lib.hid cC
    clear h h' hE far far'
    go_enter Tryd.func16, Tryd.ntmps16
    go_wp2_with fail
    refine cC.out.mono ?_
    rintro e w1 ⟨rfl, hb⟩
    obtain ⟨hc1, hf1⟩ := bcell hb
    have bb1 : Below w.heap.size w w1 := hW0.trans (hb.mono (by simp))
    go_wp2_with fail
    refine bodyPost_ret (v := .tuple #[.agg #[.int .i64 0, .slice none 0 0], .bool false]) (by simp [results, Tryd.results16, go_sem, hc1]) rfl ?_
    exact ⟨⟨none, 0, rfl, own_nil _ _⟩, (bb1.setCell (by simp) _).setCell (by simp) _⟩
  rw [if_pos hc]
  rw [hc] at cC
  have lx := h.1
  have ly := h'.1
  have hp := sumsB_parts (conB_valid hc)
  rw [lx, ly] at hp
  obtain ⟨⟨hn1, hn6⟩, ⟨hm1, hm6⟩, hbx, hby⟩ := hp
  have hbX := Lib.hid hbx
  have hbY := Lib.hid hby
  have H0 := Lib.hid (h.alloc (.cells #[.int .i64 0, .slice none 0 0] 27))
  have H0' := Lib.hid (h'.alloc (.cells #[.int .i64 0, .slice none 0 0] 27))
  have farH := Lib.hid far
  have farH' := Lib.hid far'
  have lxH := Lib.hid lx
  have lyH := Lib.hid ly
  replace cC := Lib.hid cC
  clear h h' hE far far' hc hbx hby lx ly
  go_enter Tryd.func16, Tryd.ntmps16
  go_wp2_with fail
  refine cC.out.mono ?_
  rintro e w1 ⟨rfl, hb⟩
  have hz : w.heap.size < w1.heap.size := by have := hb.size; simp at this; omega
  have y0 : w1.cell? ⟨w.heap.size, 0, none⟩ = some (.int .i64 0) := by rw [(bcell hb).1 _ _ (by simp)]; go_simp
  have y1 : w1.cell? ⟨w.heap.size, 1, none⟩ = some (.slice none 0 0) := by rw [(bcell hb).1 _ _ (by simp)]; go_simp
  have yf : ∀ o, w1.frozen? ⟨w.heap.size, o, none⟩ = false := fun o => by rw [(bcell hb).2 _ _ (by simp)]; go_simp
  have bb1 := Lib.hid (hW0.trans (hb.mono (by simp)))
  have H1 := Lib.hid (H0.out.bel hb)
  have H1' := Lib.hid (H0'.out.bel hb)
  clear hb H0 H0' hW0 cC
  go_wp2_with ((refine wpList_make_full w1 rfl _ _ 23 rfl w1.heap.size 3 i1 (.int .i64 0) 1 Tryd.underlying23 ii iz0 iz1 .i64 .i64 n n n rfl rfl rfl rfl ?_ ?_ (Nat.le_refl _) ?_))
  all_goals first | omega | (rw [iz2]; omega) | (unfold maxLen; omega) | skip
  intro w2 ho hg
  have ho0 : OwnI w2 w1.heap.size (some ⟨w1.heap.size, 0, none⟩) n n (cellsL (fun _ _ => false) m n) := by
    rw [cells_none]; unfold OwnI; simpa [toList_madeCells_one, List.map_replicate] using ho
  have hb2 : Below w1.heap.size w1 w2 := (Below.refl _ _).grown hg (Nat.le_refl _) (fun k hk => by cases hk)
  have hz2 := (World.ownsRow.lt ho0 _ rfl).2
  replace y0 := kept hb2 (block_lt y0) y0
  replace y1 := kept hb2 (block_lt y1) y1
  replace yf : ∀ o, w2.frozen? ⟨w.heap.size, o, none⟩ = false := fun o => (hb2.frozen (p := ⟨w.heap.size, o, none⟩) hz).trans (yf o)
  replace bb1 := Lib.hid (bb1.out.trans (hb2.mono bb1.out.size))
  replace H1 := Lib.hid (H1.out.bel hb2)
  replace H1' := Lib.hid (H1'.out.bel hb2)
  obtain ⟨g, hgg⟩ : ∃ g, w1.heap.size = g := ⟨_, rfl⟩
  rw [hgg] at ho0 hz hz2 ⊢
  clear ho hg hb2 hgg
  replace ho0 := Lib.hid ho0
  go_wp2_with fail
  have hb3 : Below w2.heap.size w2 (w2.alloc (.cells #[.int .i64 m, .slice (some ⟨g, 0, none⟩) n n] 27)) := (Below.refl _ _).alloc (Nat.le_refl _) _
  have a0 : (w2.alloc (.cells #[.int .i64 m, .slice (some ⟨g, 0, none⟩) n n] 27)).cell? ⟨w2.heap.size, 0, none⟩ = some (.int .i64 m) := by simp
  have a1 : (w2.alloc (.cells #[.int .i64 m, .slice (some ⟨g, 0, none⟩) n n] 27)).cell? ⟨w2.heap.size, 1, none⟩ = some (.slice (some ⟨g, 0, none⟩) n n) := by simp
  replace y0 := kept hb3 (block_lt y0) y0
  replace y1 := kept hb3 (block_lt y1) y1
  replace yf : ∀ o, (w2.alloc (.cells #[.int .i64 m, .slice (some ⟨g, 0, none⟩) n n] 27)).frozen? ⟨w.heap.size, o, none⟩ = false := fun o => (hb3.frozen (p := ⟨w.heap.size, o, none⟩) (show w.heap.size < w2.heap.size by omega)).trans (yf o)
  replace bb1 := Lib.hid (bb1.out.trans (hb3.mono bb1.out.size))
  replace H1 := Lib.hid (H1.out.bel hb3)
  replace H1' := Lib.hid (H1'.out.bel hb3)
  replace ho0 := Lib.hid (ho0.out.bel hb3)
  have hz3 : w2.heap.size < (w2.alloc (.cells #[.int .i64 m, .slice (some ⟨g, 0, none⟩) n n] 27)).heap.size := by simp
  generalize w2.alloc (.cells #[.int .i64 m, .slice (some ⟨g, 0, none⟩) n n] 27) = w3 at *
  generalize w2.heap.size = k2 at *
  clear hb3
  refine (build_byColumns (cnv_cols (n := n) (m := m) hm1 hm6 hn1 hn6) a' a cap' cap ys xs g g n w3 H1'.out H1.out ho0.out (fun q off e hl => by have := farH'.out q off e hl; omega) (by omega) (by omega) hbY.out (fun i hi => by have := hbX.out i hi; omega)).mono ?_
  rintro e w4 ⟨rfl, hg4, hO4⟩
  have hR : cellsL (fun i j => bcB (fun i => xs.getD i 0) n ys i j) m n = buildL xs ys := by unfold buildL; rw [lxH.out, lyH.out]
  have hO5 : OwnI w4 g (some ⟨g, 0, none⟩) n n (buildL xs ys) := by rw [← hR]; exact hO4
  replace y0 := hg4.cell y0 (by simp; omega)
  replace y1 := hg4.cell y1 (by simp; omega)
  replace a0 := hg4.cell a0 (by simp; omega)
  replace a1 := hg4.cell a1 (by simp; omega)
  replace yf : ∀ o, w4.frozen? ⟨w.heap.size, o, none⟩ = false := fun o => (World.frozen?_of_block (a := ⟨w.heap.size, o, none⟩) (hg4.block w.heap.size (by omega) (by simp; omega))).trans (yf o)
  have bb4 : Below w.heap.size w w4 := bb1.out.grown hg4 bb1.out.size (fun k hk => by cases hk; omega)
  replace hO5 := Lib.hid hO5
  replace bb4 := Lib.hid bb4
  clear hg4 hO4 hR H1 H1' ho0 bb1
  go_wp2_with fail
  refine bodyPost_ret (v := .tuple #[.agg #[.int .i64 m, .slice (some ⟨g, 0, none⟩) n n], .bool true]) (by simp [results, Tryd.results16, go_sem, y0, y1]) rfl ?_
  refine ⟨⟨some ⟨g, 0, none⟩, n, by rw [build_len, lxH.out, lyH.out], ?_⟩, (bb4.out.setCell (by simp) _).setCell (by simp) _⟩
  show OwnI _ _ _ (buildL xs ys).length _ _
  rw [build_len, lxH.out]
  exact ((hO5.out.store (show w.heap.size < g by omega) _).store (show w.heap.size < g by omega) _).mono (by omega)

set_option maxHeartbeats 2000000 in
theorem br_impl (a a' : Option Addr) (n m cap cap' : Nat) (xs ys : List Int) (p : Addr) (w : World) (h : Row w a n xs) (h' : Row w a' m ys) (hE : w.cell? ⟨0, 0, none⟩ = some (errV p)) (hm : n ≤ 9223372036854775807) (hm' : m ≤ 9223372036854775807) :
    Calls Tryd.prog 18 #[.slice a n cap, .slice a' m cap'] w (Gives w (brOut xs ys)) := by
  obtain ⟨i1, ii, iz0, iz1, iz2⟩ := info_parts infoInt
  have hW0 : Below w.heap.size w (w.alloc (.cells #[.int .i64 0, .slice none 0 0] 27)) := (Below.refl _ _).alloc (Nat.le_refl _) _
  have cC := con_impl a a' n m cap cap' xs ys p (w.alloc (.cells #[.int .i64 0, .slice none 0 0] 27)) (h.alloc _) (h'.alloc _) (World.cell?_alloc_some hE) hm hm'
  have far := row_lt h
  have far' := row_lt h'
  unfold brOut
  by_cases hc : conB xs ys = true
  case neg =>
    rw [if_neg hc]
    have hc : conB xs ys = false := by simpa using hc
    rw [hc] at cC
    replace cC := Lib.hid cC
    clear h h' hE far far'
    go_enter Tryd.func18, Tryd.ntmps18
    go_wp2_with fail
    refine cC.out.mono ?_
    rintro e w1 ⟨rfl, hb⟩
    obtain ⟨hc1, hf1⟩ := bcell hb
    have bb1 : Below w.heap.size w w1 := hW0.trans (hb.mono (by simp))
    go_wp2_with fail
    refine bodyPost_ret (v := .tuple #[.agg #[.int .i64 0, .slice none 0 0], .bool false]) (by simp [results, Tryd.results18, go_sem, hc1]) rfl ?_
    exact ⟨⟨none, 0, rfl, own_nil _ _⟩, (bb1.setCell (by simp) _).setCell (by simp) _⟩
  rw [if_pos hc]
  rw [hc] at cC
  have lx := h.1
  have ly := h'.1
  have hp := sumsB_parts (conB_valid hc)
  rw [lx, ly] at hp
  obtain ⟨⟨hn1, hn6⟩, ⟨hm1, hm6⟩, hbx, hby⟩ := hp
  have hbX := Lib.hid hbx
  have hbY := Lib.hid hby
  have H0 := Lib.hid (h.alloc (.cells #[.int .i64 0, .slice none 0 0] 27))
  have H0' := Lib.hid (h'.alloc (.cells #[.int .i64 0, .slice none 0 0] 27))
  have farH := Lib.hid far
  have farH' := Lib.hid far'
  have lxH := Lib.hid lx
  have lyH := Lib.hid ly
  replace cC := Lib.hid cC
  clear h h' hE far far' hc hbx hby lx ly
  go_enter Tryd.func18, Tryd.ntmps18
  go_wp2_with fail
  refine cC.out.mono ?_
  rintro e w1 ⟨rfl, hb⟩
  have hz : w.heap.size < w1.heap.size := by have := hb.size; simp at this; omega
  have y0 : w1.cell? ⟨w.heap.size, 0, none⟩ = some (.int .i64 0) := by rw [(bcell hb).1 _ _ (by simp)]; go_simp
  have y1 : w1.cell? ⟨w.heap.size, 1, none⟩ = some (.slice none 0 0) := by rw [(bcell hb).1 _ _ (by simp)]; go_simp
  have yf : ∀ o, w1.frozen? ⟨w.heap.size, o, none⟩ = false := fun o => by rw [(bcell hb).2 _ _ (by simp)]; go_simp
  have bb1 := Lib.hid (hW0.trans (hb.mono (by simp)))
  have H1 := Lib.hid (H0.out.bel hb)
  have H1' := Lib.hid (H0'.out.bel hb)
  clear hb H0 H0' hW0 cC
  go_wp2_with ((refine wpList_make_full w1 rfl _ _ 23 rfl w1.heap.size 3 i1 (.int .i64 0) 1 Tryd.underlying23 ii iz0 iz1 .i64 .i64 n n n rfl rfl rfl rfl ?_ ?_ (Nat.le_refl _) ?_))
  all_goals first | omega | (rw [iz2]; omega) | (unfold maxLen; omega) | skip
  intro w2 ho hg
  have ho0 : OwnI w2 w1.heap.size (some ⟨w1.heap.size, 0, none⟩) n n (cellsL (fun _ _ => false) m n) := by
    rw [cells_none]; unfold OwnI; simpa [toList_madeCells_one, List.map_replicate] using ho
  have hb2 : Below w1.heap.size w1 w2 := (Below.refl _ _).grown hg (Nat.le_refl _) (fun k hk => by cases hk)
  have hz2 := (World.ownsRow.lt ho0 _ rfl).2
  replace y0 := kept hb2 (block_lt y0) y0
  replace y1 := kept hb2 (block_lt y1) y1
  replace yf : ∀ o, w2.frozen? ⟨w.heap.size, o, none⟩ = false := fun o => (hb2.frozen (p := ⟨w.heap.size, o, none⟩) hz).trans (yf o)
  replace bb1 := Lib.hid (bb1.out.trans (hb2.mono bb1.out.size))
  replace H1 := Lib.hid (H1.out.bel hb2)
  replace H1' := Lib.hid (H1'.out.bel hb2)
  obtain ⟨g, hgg⟩ : ∃ g, w1.heap.size = g := ⟨_, rfl⟩
  rw [hgg] at ho0 hz hz2 ⊢
  clear ho hg hb2 hgg
  replace ho0 := Lib.hid ho0
  go_wp2_with fail
  have hb3 : Below w2.heap.size w2 (w2.alloc (.cells #[.int .i64 m, .slice (some ⟨g, 0, none⟩) n n] 27)) := (Below.refl _ _).alloc (Nat.le_refl _) _
  have a0 : (w2.alloc (.cells #[.int .i64 m, .slice (some ⟨g, 0, none⟩) n n] 27)).cell? ⟨w2.heap.size, 0, none⟩ = some (.int .i64 m) := by simp
  have a1 : (w2.alloc (.cells #[.int .i64 m, .slice (some ⟨g, 0, none⟩) n n] 27)).cell? ⟨w2.heap.size, 1, none⟩ = some (.slice (some ⟨g, 0, none⟩) n n) := by simp
  replace y0 := kept hb3 (block_lt y0) y0
  replace y1 := kept hb3 (block_lt y1) y1
  replace yf : ∀ o, (w2.alloc (.cells #[.int .i64 m, .slice (some ⟨g, 0, none⟩) n n] 27)).frozen? ⟨w.heap.size, o, none⟩ = false := fun o => (hb3.frozen (p := ⟨w.heap.size, o, none⟩) (show w.heap.size < w2.heap.size by omega)).trans (yf o)
  replace bb1 := Lib.hid (bb1.out.trans (hb3.mono bb1.out.size))
  replace H1 := Lib.hid (H1.out.bel hb3)
  replace H1' := Lib.hid (H1'.out.bel hb3)
  replace ho0 := Lib.hid (ho0.out.bel hb3)
  have hz3 : w2.heap.size < (w2.alloc (.cells #[.int .i64 m, .slice (some ⟨g, 0, none⟩) n n] 27)).heap.size := by simp
  generalize w2.alloc (.cells #[.int .i64 m, .slice (some ⟨g, 0, none⟩) n n] 27) = w3 at *
  generalize w2.heap.size = k2 at *
  clear hb3
  refine (build_byRows (cnv_rows (n := n) (m := m) hm1 hm6 hn1 hn6) a a' cap cap' xs ys g g n w3 H1.out H1'.out ho0.out (fun q off e hl => by have := farH.out q off e hl; omega) (by omega) (by omega) hbX.out (fun i hi => by have := hbY.out i hi; omega)).mono ?_
  rintro e w4 ⟨rfl, hg4, hO4⟩
  have hR : cellsL (fun i j => bcB (fun i => ys.getD i 0) m xs j i) m n = buildR xs ys := by unfold buildR; rw [lxH.out, lyH.out]
  have hO5 : OwnI w4 g (some ⟨g, 0, none⟩) n n (buildR xs ys) := by rw [← hR]; exact hO4
  replace y0 := hg4.cell y0 (by simp; omega)
  replace y1 := hg4.cell y1 (by simp; omega)
  replace a0 := hg4.cell a0 (by simp; omega)
  replace a1 := hg4.cell a1 (by simp; omega)
  replace yf : ∀ o, w4.frozen? ⟨w.heap.size, o, none⟩ = false := fun o => (World.frozen?_of_block (a := ⟨w.heap.size, o, none⟩) (hg4.block w.heap.size (by omega) (by simp; omega))).trans (yf o)
  have bb4 : Below w.heap.size w w4 := bb1.out.grown hg4 bb1.out.size (fun k hk => by cases hk; omega)
  replace hO5 := Lib.hid hO5
  replace bb4 := Lib.hid bb4
  clear hg4 hO4 hR H1 H1' ho0 bb1
  go_wp2_with fail
  refine bodyPost_ret (v := .tuple #[.agg #[.int .i64 m, .slice (some ⟨g, 0, none⟩) n n], .bool true]) (by simp [results, Tryd.results18, go_sem, y0, y1]) rfl ?_
  refine ⟨⟨some ⟨g, 0, none⟩, n, by rw [buildR_len, lxH.out, lyH.out], ?_⟩, (bb4.out.setCell (by simp) _).setCell (by simp) _⟩
  show OwnI _ _ _ (buildR xs ys).length _ _
  rw [buildR_len, lxH.out]
  exact ((hO5.out.store (show w.heap.size < g by omega) _).store (show w.heap.size < g by omega) _).mono (by omega)
end Go.Proofs.YtocbnpkdncnbgaaDoor

