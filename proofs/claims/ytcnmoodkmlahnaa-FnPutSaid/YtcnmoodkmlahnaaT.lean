/-
  The contracts of the functions that put a cell.
-/
import Derived.Test.YtcnmoodkmlahnaaR
namespace Go.Proofs.Ytcnmoodkmlahnaa
open Go.RowKit

def putOut (W : Int) (xs : List Int) (i j : Int) (set : Bool) : Out :=
  if validB W xs = true ∧ cellB W xs.length i j = true then ⟨true, W, xs.set i.toNat (putI (xs.getD i.toNat 0) j.toNat set)⟩ else .no
theorem putOut_small (W : Int) (xs : List Int) (i j : Int) (set : Bool) (hl : xs.length ≤ 1048576) : (putOut W xs i j set).xs.length ≤ 1048576 := by
  unfold putOut
  by_cases h : validB W xs = true ∧ cellB W xs.length i j = true
  · rw [if_pos h]; simpa using hl
  · rw [if_neg h]; simp [Out.no]
theorem orput_nat : ∀ j, j < 6 → ∀ n, n < 64 → bits BinOp.or IntKind.i64 ((n : Nat) : Int) (pw j) = putI n j true ∧ bits BinOp.andNot IntKind.i64 ((n : Nat) : Int) (pw j) = putI n j false := by decide +kernel
theorem orput {x : Int} {j : Nat} (hj : j < 6) (h0 : 0 ≤ x) (h1 : x ≤ 63) : bits BinOp.or IntKind.i64 x (pw j) = putI x j true ∧ bits BinOp.andNot IntKind.i64 x (pw j) = putI x j false := by
  obtain ⟨n, rfl⟩ := Int.eq_ofNat_of_zero_le h0
  exact orput_nat j hj n (by omega)

set_option maxHeartbeats 1000000 in
theorem put_simpl (W : Int) (a : Option Addr) (len cap : Nat) (xs : List Int) (i j : Int) (set : Bool) (w : World) (h : Row w a len xs) (hm : len ≤ 9223372036854775807) :
    Calls Try.prog 6 #[.agg #[.int .i64 W, .slice a len cap], .int .i64 i, .int .i64 j, .bool set] w (Gives w (putOut W xs i j set)) := by
  have hl := h.1
  have H := (h.alloc (.cells #[.int .i64 W, .slice a len cap] 25)).alloc (.cells #[.int .i64 0, .slice none 0 0] 25)
  by_cases hv : validB W xs = true
  case neg =>
    rw [show putOut W xs i j set = .no from if_neg (fun h => hv h.1)]
    have hv : validB W xs = false := by simpa using hv
    go_enter Try.func6, Try.ntmps6
    go_wp2_with fail
    refine (valid_spec _ _ _ _ xs _ H hm).mono ?_
    rintro e w1 ⟨rfl, hb⟩
    obtain ⟨hc1, hf1⟩ := bcell hb
    have bb1 : Below w.heap.size w w1 := (((Below.refl _ _).alloc (Nat.le_refl _) _).alloc (by simp) _).trans (hb.mono (by simp; omega))
    go_wp2_with fail
    refine bodyPost_ret (v := .tuple #[.agg #[.int .i64 0, .slice none 0 0], .bool false]) (by simp [results, Try.results6, go_sem, hc1]) rfl ?_
    exact ⟨⟨none, 0, rfl, own_nil _ _⟩, (bb1.setCell (by simp) _).setCell (by simp) _⟩
  have hW := validB_W hv
  have hL := validB_len hv
  by_cases hc : cellB W len i j = true
  case neg =>
    rw [show putOut W xs i j set = .no from if_neg (fun h => hc (by rw [← hl]; exact h.2))]
    have hc : cellB W len i j = false := by simpa using hc
    go_enter Try.func6, Try.ntmps6
    go_wp2_with fail
    refine (valid_spec _ _ _ _ xs _ H hm).mono ?_
    rintro e w1 ⟨rfl, hb⟩
    have bb1 : Below w.heap.size w w1 := (((Below.refl _ _).alloc (Nat.le_refl _) _).alloc (by simp) _).trans (hb.mono (by simp; omega))
    have hz : w.heap.size + 1 < w1.heap.size := by have := hb.size; simp at this; omega
    have x0 : w1.cell? ⟨w.heap.size, 0, none⟩ = some (.int .i64 W) := by rw [(bcell hb).1 _ _ (by simp; omega)]; go_simp
    have x1 : w1.cell? ⟨w.heap.size, 1, none⟩ = some (.slice a len cap) := by rw [(bcell hb).1 _ _ (by simp; omega)]; go_simp
    have y0 : w1.cell? ⟨w.heap.size + 1, 0, none⟩ = some (.int .i64 0) := by rw [(bcell hb).1 _ _ (by simp)]; go_simp
    have y1 : w1.cell? ⟨w.heap.size + 1, 1, none⟩ = some (.slice none 0 0) := by rw [(bcell hb).1 _ _ (by simp)]; go_simp
    have yf : ∀ o, w1.frozen? ⟨w.heap.size + 1, o, none⟩ = false := fun o => by rw [(bcell hb).2 _ _ (by simp)]; go_simp
    clear hb
    go_wp2_with fail
    refine (cell_spec _ _ _ _ _ _ _ hm hW.1 hW.2).mono ?_
    rintro e w2 ⟨rfl, hb⟩
    have y0 := kept hb (block_lt y0) y0
    have y1 := kept hb (block_lt y1) y1
    have yf : ∀ o, w2.frozen? ⟨w.heap.size + 1, o, none⟩ = false := fun o => (hb.frozen (p := ⟨w.heap.size + 1, o, none⟩) hz).trans (yf o)
    have bb2 := bb1.trans (hb.mono bb1.size)
    clear hb
    go_wp2_with fail
    refine bodyPost_ret (v := .tuple #[.agg #[.int .i64 0, .slice none 0 0], .bool false]) (by simp [results, Try.results6, go_sem, y0, y1]) rfl ?_
    exact ⟨⟨none, 0, rfl, own_nil _ _⟩, (bb2.setCell (by simp) _).setCell (by simp) _⟩
  rw [show putOut W xs i j set = ⟨true, W, xs.set i.toNat (putI (xs.getD i.toNat 0) j.toNat set)⟩ from if_pos ⟨hv, by rw [hl]; exact hc⟩]
  have hcc := cellB_iff.1 hc
  obtain ⟨i, rfl⟩ := Int.eq_ofNat_of_zero_le (by omega : 0 ≤ i)
  obtain ⟨j, rfl⟩ := Int.eq_ofNat_of_zero_le (by omega : 0 ≤ j)
  rw [Int.toNat_natCast, Int.toNat_natCast]
  have hr := validB_row hv (i := i) (by omega)
  go_enter Try.func6, Try.ntmps6
  go_wp2_with fail
  refine (valid_spec _ _ _ _ xs _ H hm).mono ?_
  rintro e w1 ⟨rfl, hb⟩
  have bb1 : Below w.heap.size w w1 := (((Below.refl _ _).alloc (Nat.le_refl _) _).alloc (by simp) _).trans (hb.mono (by simp; omega))
  have hz : w.heap.size + 1 < w1.heap.size := by have := hb.size; simp at this; omega
  have H1 := H.bel hb
  have x0 : w1.cell? ⟨w.heap.size, 0, none⟩ = some (.int .i64 W) := by rw [(bcell hb).1 _ _ (by simp; omega)]; go_simp
  have x1 : w1.cell? ⟨w.heap.size, 1, none⟩ = some (.slice a len cap) := by rw [(bcell hb).1 _ _ (by simp; omega)]; go_simp
  have y0 : w1.cell? ⟨w.heap.size + 1, 0, none⟩ = some (.int .i64 0) := by rw [(bcell hb).1 _ _ (by simp)]; go_simp
  have y1 : w1.cell? ⟨w.heap.size + 1, 1, none⟩ = some (.slice none 0 0) := by rw [(bcell hb).1 _ _ (by simp)]; go_simp
  have yf : ∀ o, w1.frozen? ⟨w.heap.size + 1, o, none⟩ = false := fun o => by rw [(bcell hb).2 _ _ (by simp)]; go_simp
  clear hb H h
  go_wp2_with fail
  refine (cell_spec _ _ _ _ _ _ _ hm hW.1 hW.2).mono ?_
  rintro e w1b ⟨rfl, hb⟩
  have x0 := kept hb (block_lt x0) x0
  have x1 := kept hb (block_lt x1) x1
  have y0 := kept hb (block_lt y0) y0
  have y1 := kept hb (block_lt y1) y1
  have yf : ∀ o, w1b.frozen? ⟨w.heap.size + 1, o, none⟩ = false := fun o => (hb.frozen (p := ⟨w.heap.size + 1, o, none⟩) hz).trans (yf o)
  have bb1 := bb1.trans (hb.mono bb1.size)
  have hz : w.heap.size + 1 < w1b.heap.size := by have := hb.size; omega
  have H1 := H1.bel hb
  clear hb
  go_wp2_with fail
  obtain ⟨b, off, rfl, hrc⟩ := H1.2.resolve_left (by omega)
  refine (copy_spec W b off len cap xs _ hl hrc (by omega) (by omega)).mono ?_
  rintro e w2 ⟨⟨ac, cc, rfl, ho⟩, hb2⟩
  rcases ho.cases with ⟨_, h0, _⟩ | ⟨g, rfl, hg, _⟩
  · omega
  have M := Made.of_copy (Wb := W) hz bb1 x0 x1 y0 y1 yf H1 hb2 hg ho
  clear x0 x1 y0 y1 yf H1 bb1 hz hb2 hg ho hrc
  go_wp2_with fail
  generalize w2.alloc (.cells #[.int .i64 W, .slice (some ⟨g, 0, none⟩) len cc] 25) = W0 at M ⊢
  generalize w2.heap.size = k2 at M ⊢
  refine (put_spec W _ g len cc xs i j set _ M.own (by omega) (by omega) hr.1 hr.2.2).mono ?_
  rintro e wo ⟨rfl, hgr, hown⟩
  have z0 := hgr.cell M.b0 (by simpa using M.ne)
  have z1 := hgr.cell M.b1 (by simpa using M.ne)
  have u0 := hgr.cell M.y0 (by have := M.hg; simp; omega)
  have u1 := hgr.cell M.y1 (by have := M.hg; simp; omega)
  have uf : ∀ o, wo.frozen? ⟨w.heap.size + 1, o, none⟩ = false := fun o => (World.frozen?_of_block (a := ⟨w.heap.size + 1, o, none⟩) (hgr.block (w.heap.size + 1) (show w.heap.size + 1 < W0.heap.size from block_lt M.y0) (by have := M.hg; simp; omega))).trans (M.yf o)
  have bb : Below w.heap.size w wo := M.bel.trans ((grown_below hgr).mono (by have := M.hg; have := M.bel.size; omega))
  have hgr := Lib.hid hgr
  have hown := Lib.hid hown
  go_wp2_with fail
  refine bodyPost_ret (v := .tuple #[.agg #[.int .i64 W, .slice (some ⟨g, 0, none⟩) len cc], .bool true]) (by simp [results, Try.results6, go_sem, u0, u1]) rfl ?_
  refine ⟨⟨some ⟨g, 0, none⟩, cc, by rw [List.length_set, hl], ?_⟩, (bb.setCell (by simp) _).setCell (by simp) _⟩
  show OwnI _ _ _ (xs.set i _).length _ _
  rw [List.length_set, hl]
  exact ((hown.out.store (by simp) _).store (by simp) _).mono (by omega)
end Go.Proofs.Ytcnmoodkmlahnaa

