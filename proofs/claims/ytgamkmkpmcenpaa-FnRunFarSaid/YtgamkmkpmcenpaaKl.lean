/-
  Lists of switches as the exact law on SwitchList has them: compared, marked, looked at again.
-/
import Derived.Test.YtgamkmkpmcenpaaKk
import Derived.Test.YtgamkmkpmcenpaaK
namespace Go.Proofs.Ytgamkmkpmcenpaa
set_option maxRecDepth 100000
open Go.RowKit

/-- A list of switches that the call owns, by its numbers. -/
def OwnF (w : World) (B : Nat) (a : Option Addr) (n cap : Nat) (F : List Int) : Prop := w.ownsRow B 37 4 (.slice a n cap) n (F.map (Value.int .i64))
/-- A list of switches, to be read, by its numbers. -/
def RowF (w : World) (a : Option Addr) (n : Nat) (F : List Int) : Prop := F.length = n * 4 ∧ (n = 0 ∨ ∃ g, a = some ⟨g, 0, none⟩ ∧ ∀ c, c < n * 4 → w.cell? ⟨g, c, none⟩ = some (.int .i64 (F.getD c 0)))
theorem OwnF.len {w : World} {B : Nat} {a : Option Addr} {n cap : Nat} {F : List Int} (h : OwnF w B a n cap F) : F.length = n * 4 := by
  have := h.1; simpa using this
theorem OwnF.cases {w : World} {B : Nat} {a : Option Addr} {n cap : Nat} {F : List Int} (h : OwnF w B a n cap F) : (a = none ∧ n = 0) ∨ ∃ g, a = some ⟨g, 0, none⟩ ∧ B ≤ g ∧ g < w.heap.size := by
  rcases h.2 with ⟨h1, h0⟩ | ⟨g, c, cur, h1, h2, h3, _⟩
  · left; simp only [Value.slice.injEq] at h1; exact ⟨h1.1, by omega⟩
  · right; simp only [Value.slice.injEq] at h1
    exact ⟨g, h1.1, h2, (Array.getElem?_eq_some_iff.1 h3).1⟩
theorem OwnF.cell {w : World} {B g : Nat} {n cap : Nat} {F : List Int} (h : OwnF w B (some ⟨g, 0, none⟩) n cap F) {c : Nat} (hc : c < n * 4) : w.cell? ⟨g, c, none⟩ = some (.int .i64 (F.getD c 0)) := by
  have hl := h.len
  rw [World.ownsRow.cellAt h c (by omega), List.getElem?_map, List.getElem?_eq_getElem (by omega), getD_elem (by omega)]; rfl
theorem OwnF.row {w : World} {B : Nat} {a : Option Addr} {n cap : Nat} {F : List Int} (h : OwnF w B a n cap F) : RowF w a n F := by
  refine ⟨h.len, ?_⟩
  rcases h.cases with ⟨_, h0⟩ | ⟨g, rfl, _⟩
  · exact .inl h0
  · exact .inr ⟨g, rfl, fun c hc => h.cell hc⟩
theorem OwnF.frozen {w : World} {B g : Nat} {n cap : Nat} {F : List Int} (h : OwnF w B (some ⟨g, 0, none⟩) n cap F) (j : Nat) : w.frozen? ⟨g, j, none⟩ = false := World.ownsRow.frozenAt h j
theorem OwnF.bel {w w' : World} {B : Nat} {a : Option Addr} {n cap : Nat} {F : List Int} (h : OwnF w B a n cap F) (hb : Below w.heap.size w w') : OwnF w' B a n cap F := by
  refine World.ownsRow.kept h (below_grown hb none) ?_
  rcases h.cases with ⟨rfl, _⟩ | ⟨g, rfl, _, _⟩
  · left; rfl
  · right; simp [Value.ownBlock]
theorem OwnF.set {w : World} {B g : Nat} {n cap : Nat} {F : List Int} (h : OwnF w B (some ⟨g, 0, none⟩) n cap F) (j : Nat) (u : Int) : OwnF (w.setCell ⟨g, j, none⟩ (.int .i64 u)) B (some ⟨g, 0, none⟩) n cap (F.set j u) := by
  unfold OwnF; rw [List.map_set]; exact (World.ownsRow.stored h j _).1
theorem OwnF.apart2 {W0 wr : World} {a a' : Option Addr} {B n c L U L' U' : Nat} {F : List Int} (h : OwnF W0 B a n c F) (hg : W0.grownBy wr (rowOf a')) (hr : ∀ p, a = some p → L ≤ p.block ∧ p.block < U) (hr' : ∀ p, a' = some p → L' ≤ p.block ∧ p.block < U') (hs : U ≤ L' ∨ U' ≤ L) : OwnF wr B a n c F := by
  refine World.ownsRow.kept h hg ?_
  rcases h.cases with ⟨rfl, _⟩ | ⟨g, rfl, hg, _⟩
  · left; rfl
  · right; exact ne_rowOf (B := g) hr' (by have := hr _ rfl; simp at this; omega)
theorem rng_ownF {w : World} {B n c : Nat} {a : Option Addr} {F : List Int} (h : OwnF w B a n c F) : ∀ p, a = some p → B ≤ p.block ∧ p.block < w.heap.size := by
  intro p hp
  rcases h.cases with ⟨e, _⟩ | ⟨g, e, h1, h2⟩
  · rw [e] at hp; cases hp
  · rw [e] at hp; cases hp; exact ⟨h1, h2⟩
theorem RowF.bel {w w' : World} {a : Option Addr} {n : Nat} {F : List Int} (h : RowF w a n F) (hb : Below w.heap.size w w') : RowF w' a n F :=
  ⟨h.1, h.2.imp id fun ⟨g, e, hc⟩ => ⟨g, e, fun c hl => kept hb (block_lt (hc c hl)) (hc c hl)⟩⟩
theorem RowF.apart2 {W0 wr : World} {a a' : Option Addr} {n L U L' U' : Nat} {F : List Int} (h : RowF W0 a n F) (hg : W0.grownBy wr (rowOf a')) (hr : ∀ p, a = some p → 0 < n → L ≤ p.block ∧ p.block < U) (hr' : ∀ p, a' = some p → L' ≤ p.block ∧ p.block < U') (hs : U ≤ L' ∨ U' ≤ L) : RowF wr a n F := by
  refine ⟨h.1, ?_⟩
  rcases h.2 with h0 | ⟨g, e, hc⟩
  · exact .inl h0
  by_cases hn : n = 0
  · exact .inl hn
  have hr2 := hr _ e (by omega)
  dsimp only at hr2
  have hne : some g ≠ rowOf a' := ne_rowOf (B := g) hr' (by omega)
  exact .inr ⟨g, e, fun c hl => hg.cell (hc c hl) hne⟩
theorem RowF.at {w : World} {a : Option Addr} {n : Nat} {F : List Int} (h : RowF w a n F) {k : Nat} (hk : k < n) : ∃ g, a = some ⟨g, 0, none⟩ ∧ w.cell? ⟨g, k * 4, none⟩ = some (.int .i64 (F.getD (k * 4) 0)) ∧ w.cell? ⟨g, k * 4 + 1, none⟩ = some (.int .i64 (F.getD (k * 4 + 1) 0)) ∧ w.cell? ⟨g, k * 4 + 2, none⟩ = some (.int .i64 (F.getD (k * 4 + 2) 0)) ∧ w.cell? ⟨g, k * 4 + 3, none⟩ = some (.int .i64 (F.getD (k * 4 + 3) 0)) := by
  rcases h.2 with h0 | ⟨g, e, hc⟩
  · omega
  · exact ⟨g, e, hc _ (by omega), hc _ (by omega), hc _ (by omega), hc _ (by omega)⟩
def GivesF (w : World) (N : Nat) (F : List Int) (e : Ending) (w' : World) : Prop :=
  (∃ a cap, e = .returned (.slice a N cap) ∧ OwnF w' w.heap.size a N cap F) ∧ Below w.heap.size w w'
theorem list_all (W : Int) (xs : List Int) : (listS W xs).length ≤ 135 := by
  unfold listS
  split
  · rename_i hv
    have h1 := validB_W hv
    obtain ⟨W, rfl⟩ := Int.eq_ofNat_of_zero_le (by omega : 0 ≤ W)
    have hI := Im.of hv rfl
    have := hI.w6
    have := hI.l6
    exact swl_135 _ (by simp; omega) (by omega)
  · simp
theorem GivesO.flat {w w' : World} {L : List SwT} {e : Ending} (h : GivesO w L e w') : GivesF w L.length (flatS L) e w' := h

set_option maxHeartbeats 1000000 in
theorem eqSw_yes (A B C D : Int) (w : World) :
    Calls Try.prog 49 #[.agg #[.int .i64 A, .int .i64 B, .int .i64 C, .int .i64 D], .agg #[.int .i64 A, .int .i64 B, .int .i64 C, .int .i64 D]] w fun e w' => e = .returned (.bool true) ∧ Below w.heap.size w w' := by
  go_enter Try.func49, Try.ntmps49
  go_wp2_with fail
  go_ret
  exact ⟨rfl, ((Below.refl _ _).alloc (Nat.le_refl _) _).alloc (by simp) _⟩

set_option maxHeartbeats 1000000 in
theorem eqS_yes (a b : Option Addr) (N ca cb : Nat) (F : List Int) (w : World) (h : RowF w a N F) (h' : RowF w b N F) (hN : N ≤ 1000) :
    Calls Try.prog 50 #[.slice a N ca, .slice b N cb] w fun e w' => e = .returned (.bool true) ∧ Below w.heap.size w w' := by
  have p := Lib.hid h
  have q := Lib.hid h'
  clear h h'
  go_enter Try.func50, Try.ntmps50
  go_wp2_with fail
  go_loopw [5] (fun i wr => ∃ k : Nat, k ≤ N ∧ i = .int .i64 k ∧ Hid (RowF wr a N F) ∧ Hid (RowF wr b N F) ∧ Hid (Below w.heap.size w wr)) (fun i _ => N - (intOf i).toNat)
  case atStart => exact ⟨0, Nat.zero_le _, rfl, p, q, Lib.hid (Below.refl _ _)⟩
  case round =>
    clear p q
    obtain ⟨k, hk, rfl, p, q, bb⟩ := hrel
    by_cases hlt : k < N
    · obtain ⟨g, rfl, x0, x1, x2, x3⟩ := p.out.at hlt
      obtain ⟨g', rfl, y0, y1, y2, y3⟩ := q.out.at hlt
      generalize F.getD (k * 4) 0 = A at x0 y0
      generalize F.getD (k * 4 + 1) 0 = B at x1 y1
      generalize F.getD (k * 4 + 2) 0 = C at x2 y2
      generalize F.getD (k * 4 + 3) 0 = D at x3 y3
      have fx0 := fun p : Bw wr => bw_cell x0 p
      have fx1 := fun p : Bw wr => bw_cell x1 p
      have fx2 := fun p : Bw wr => bw_cell x2 p
      have fx3 := fun p : Bw wr => bw_cell x3 p
      have fy0 := fun p : Bw wr => bw_cell y0 p
      have fy1 := fun p : Bw wr => bw_cell y1 p
      have fy2 := fun p : Bw wr => bw_cell y2 p
      have fy3 := fun p : Bw wr => bw_cell y3 p
      have cA : ∀ p : Bw wr, Calls Try.prog 49 #[.agg #[.int .i64 A, .int .i64 B, .int .i64 C, .int .i64 D], .agg #[.int .i64 A, .int .i64 B, .int .i64 C, .int .i64 D]] p.v (fun e w' => e = .returned (.bool true) ∧ ∃ q : Bw wr, w' = q.v) := fun p => bw_of (eqSw_yes A B C D p.v)
      replace cA := Lib.hid cA
      go_wp2_with fail
      refine wp_region_bw (by kernel_rfl) (by kernel_rfl) ?_
      repeat (go_big_quiet_step (with_reducible exact cA.out _))
      refine wpQuiet_nil ?_
      intro _ hw'
      obtain ⟨pq, rfl⟩ := hw'
      go_wp2_with fail
      exact ⟨⟨k + 1, by omega, by go_num, p.out.bel pq.h, q.out.bel pq.h, bb.out.trans (pq.h.mono bb.out.size)⟩, by simp [intOf]; omega⟩
    · have : k = N := by omega
      subst this
      go_wp2_with fail
      go_ret
      exact ⟨rfl, bb.out⟩

theorem mark4 {F : List Int} {k : Int} {n j : Nat} (hl : F.length = n * 4) (hj : j < n) :
    (((((marks k (n * 4)).take (j * 4) ++ F.drop (j * 4)).set (j * 4) (k + 4 * (j : Int))).set (j * 4 + 1) (k + 4 * (j : Int) + 1)).set (j * 4 + 2) (k + 4 * (j : Int) + 1 + 1)).set (j * 4 + 3) (k + 4 * (j : Int) + 1 + 1 + 1) = (marks k (n * 4)).take ((j + 1) * 4) ++ F.drop ((j + 1) * 4) := by
  have e0 : k + 4 * (j : Int) = k + ((j * 4 : Nat) : Int) := by omega
  have e1 : k + 4 * (j : Int) + 1 = k + ((j * 4 + 1 : Nat) : Int) := by omega
  have e2 : k + 4 * (j : Int) + 1 + 1 = k + ((j * 4 + 1 + 1 : Nat) : Int) := by omega
  have e3 : k + 4 * (j : Int) + 1 + 1 + 1 = k + ((j * 4 + 1 + 1 + 1 : Nat) : Int) := by omega
  rw [e3, e2, e1, e0, mark_step hl (by omega), mark_step hl (by omega), show j * 4 + 2 = j * 4 + 1 + 1 by rfl, mark_step hl (by omega), show j * 4 + 3 = j * 4 + 1 + 1 + 1 by rfl, mark_step hl (by omega), show (j + 1) * 4 = j * 4 + 1 + 1 + 1 + 1 by omega]

set_option maxHeartbeats 1000000 in
theorem markS_any (B : Nat) (g n cap : Nat) (F : List Int) (k : Int) (w : World) (h : OwnF w B (some ⟨g, 0, none⟩) n cap F) (hm : n ≤ 1000) (h0 : 0 ≤ k) (h1 : k ≤ 4194304) :
    Calls Try.prog 52 #[.slice (some ⟨g, 0, none⟩) n cap, .int .i64 k] w fun e w' => e = .returned (.int .i64 (k + 4 * (n : Int))) ∧ w.grownBy w' (some g) ∧ OwnF w' B (some ⟨g, 0, none⟩) n cap (marks k (n * 4)) := by
  have hl := Lib.hid h.len
  have H := Lib.hid h
  clear h
  go_enter Try.func52, Try.ntmps52
  go_wp2_with fail
  go_loopw [1, 5] (fun q i wr => ∃ j : Nat, j ≤ n ∧ i = .int .i64 j ∧ q = .int .i64 (k + 4 * (j : Int)) ∧ Hid (w.grownBy wr (some g)) ∧ Hid (OwnF wr B (some ⟨g, 0, none⟩) n cap ((marks k (n * 4)).take (j * 4) ++ F.drop (j * 4)))) (fun _ i _ => n - (intOf i).toNat)
  case atStart => exact ⟨0, Nat.zero_le _, rfl, by simp, Lib.hid (World.grownBy.refl _ _), Lib.hid (by simpa using H.out)⟩
  case round =>
    obtain ⟨j, hj, rfl, rfl, hgr, hown⟩ := hrel
    by_cases hlt : j < n
    · have d0 := hown.out.cell (c := j * 4) (by omega)
      have d1 := hown.out.cell (c := j * 4 + 1) (by omega)
      have d2 := hown.out.cell (c := j * 4 + 2) (by omega)
      have d3 := hown.out.cell (c := j * 4 + 3) (by omega)
      have hf := hown.out.frozen
      have hs := (((hown.out.set (j * 4) (k + 4 * (j : Int))).set (j * 4 + 1) (k + 4 * (j : Int) + 1)).set (j * 4 + 2) (k + 4 * (j : Int) + 1 + 1)).set (j * 4 + 3) (k + 4 * (j : Int) + 1 + 1 + 1)
      rw [mark4 hl.out hlt] at hs
      have hg2 : Hid (w.grownBy ((((wr.setCell ⟨g, j * 4, none⟩ (.int .i64 (k + 4 * (j : Int)))).setCell ⟨g, j * 4 + 1, none⟩ (.int .i64 (k + 4 * (j : Int) + 1))).setCell ⟨g, j * 4 + 2, none⟩ (.int .i64 (k + 4 * (j : Int) + 1 + 1))).setCell ⟨g, j * 4 + 3, none⟩ (.int .i64 (k + 4 * (j : Int) + 1 + 1 + 1))) (some g)) := grown_set (grown_set (grown_set (grown_set hgr.out)))
      replace hs := Lib.hid hs
      generalize ((marks k (n * 4)).take (j * 4) ++ F.drop (j * 4)).getD (j * 4) 0 = z0 at d0
      generalize ((marks k (n * 4)).take (j * 4) ++ F.drop (j * 4)).getD (j * 4 + 1) 0 = z1 at d1
      generalize ((marks k (n * 4)).take (j * 4) ++ F.drop (j * 4)).getD (j * 4 + 2) 0 = z2 at d2
      generalize ((marks k (n * 4)).take (j * 4) ++ F.drop (j * 4)).getD (j * 4 + 3) 0 = z3 at d3
      go_wp2_with fail
      exact ⟨⟨j + 1, by omega, by go_num, by go_num, hg2, hs⟩, by simp [intOf]; omega⟩
    · have : j = n := by omega
      subst this
      have hll := hl
      go_wp2_with fail
      go_ret
      have ho := hown.out
      rw [List.take_of_length_le (by rw [marks_len]; omega), List.drop_of_length_le (by rw [hll.out]; omega), List.append_nil] at ho
      exact ⟨rfl, hgr.out, ho⟩

theorem markS_own (B : Nat) (a : Option Addr) (n cap : Nat) (F : List Int) (k : Int) (w : World) (h : OwnF w B a n cap F) (hm : n ≤ 1000) (h0 : 0 ≤ k) (h1 : k ≤ 4194304) :
    Calls Try.prog 52 #[.slice a n cap, .int .i64 k] w fun e w' => e = .returned (.int .i64 (k + 4 * (n : Int))) ∧ w.grownBy w' (rowOf a) ∧ OwnF w' B a n cap (marks k (n * 4)) := by
  rcases h.cases with ⟨rfl, rfl⟩ | ⟨g, rfl, _, _⟩
  · have H := Lib.hid h
    have hl := h.len
    obtain rfl : F = [] := List.eq_nil_of_length_eq_zero (by omega)
    clear h hl
    go_enter Try.func52, Try.ntmps52
    go_wp2_with fail
    refine wp_loop_rounds 1 ?_
    rw [rounds_succ]
    go_wp2_with fail
    go_ret
    exact ⟨by simp, World.grownBy.refl _ _, H.out⟩
  · exact markS_any B g n cap F k w h hm h0 h1

set_option maxHeartbeats 1000000 in
theorem heldS_any (a : Option Addr) (n cap : Nat) (k : Int) (w : World) (h : RowF w a n (marks k (n * 4))) (hm : n ≤ 1000) (h0 : 0 ≤ k) (h1 : k ≤ 4194304) :
    Calls Try.prog 53 #[.slice a n cap, .int .i64 k] w fun e w' => e = .returned (.int .i64 (k + 4 * (n : Int))) ∧ Below w.heap.size w w' := by
  have H := Lib.hid h
  clear h
  go_enter Try.func53, Try.ntmps53
  go_wp2_with fail
  go_loopw [1, 5] (fun q i wr => ∃ j : Nat, j ≤ n ∧ i = .int .i64 j ∧ q = .int .i64 (k + 4 * (j : Int)) ∧ w = wr) (fun _ i _ => n - (intOf i).toNat)
  case atStart => exact ⟨0, Nat.zero_le _, rfl, by simp, rfl⟩
  case round =>
    obtain ⟨j, hj, rfl, rfl, rfl⟩ := hrel
    by_cases hlt : j < n
    · obtain ⟨g, rfl, x0, x1, x2, x3⟩ := H.out.at hlt
      rw [marks_get _ _ _ (by omega)] at x0 x1 x2 x3
      rw [show k + ((j * 4 : Nat) : Int) = k + 4 * (j : Int) by omega] at x0
      rw [show k + ((j * 4 + 1 : Nat) : Int) = k + 4 * (j : Int) + 1 by omega] at x1
      rw [show k + ((j * 4 + 2 : Nat) : Int) = k + 4 * (j : Int) + 1 + 1 by omega] at x2
      rw [show k + ((j * 4 + 3 : Nat) : Int) = k + 4 * (j : Int) + 1 + 1 + 1 by omega] at x3
      go_wp2_with fail
      exact ⟨⟨j + 1, by omega, by go_num, by go_num, by first | rfl | trivial⟩, by simp [intOf]; omega⟩
    · have : j = n := by omega
      subst this
      go_wp2_with fail
      go_ret
      exact ⟨rfl, Below.refl _ _⟩
end Go.Proofs.Ytgamkmkpmcenpaa

