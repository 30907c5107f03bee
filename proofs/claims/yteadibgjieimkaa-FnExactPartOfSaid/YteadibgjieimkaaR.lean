/-
  The contract of the model's ImageOther.
-/
import Derived.Test.YteadibgjieimkaaP
namespace Go.Proofs.Yteadibgjieimkaa
set_option maxRecDepth 100000
open Go.RowKit

/-- What stands when a function has copied its argument: as Made, with the copy's row and its capacity. -/
structure Copied (w W0 : World) (g k2 : Nat) (WA : Int) (a : Option Addr) (len cap : Nat) (xs : List Int) (Wb : Int) (n c : Nat) (ys : List Int) : Prop where
  x0 : W0.cell? ⟨w.heap.size, 0, none⟩ = some (.int .i64 WA)
  x1 : W0.cell? ⟨w.heap.size, 1, none⟩ = some (.slice a len cap)
  y0 : W0.cell? ⟨w.heap.size + 1, 0, none⟩ = some (.int .i64 0)
  y1 : W0.cell? ⟨w.heap.size + 1, 1, none⟩ = some (.slice none 0 0)
  yf : ∀ o, W0.frozen? ⟨w.heap.size + 1, o, none⟩ = false
  b0 : W0.cell? ⟨k2, 0, none⟩ = some (.int .i64 Wb)
  b1 : W0.cell? ⟨k2, 1, none⟩ = some (.slice (some ⟨g, 0, none⟩) n c)
  row : Row W0 a len xs
  own : OwnI W0 (w.heap.size + 2) (some ⟨g, 0, none⟩) n c ys
  bel : Below w.heap.size w W0
  ne : k2 ≠ g
  far : ∀ b off, a = some ⟨b, off, none⟩ → 0 < len → b ≠ g
  hg : w.heap.size + 2 ≤ g
  hk : w.heap.size + 2 ≤ k2

theorem Made.of_copy {w w1 w2 : World} {WA Wb : Int} {a : Option Addr} {len cap n g c : Nat} {xs ys : List Int} (hz : w.heap.size + 1 < w1.heap.size) (bb : Below w.heap.size w w1)
    (x0 : w1.cell? ⟨w.heap.size, 0, none⟩ = some (.int .i64 WA)) (x1 : w1.cell? ⟨w.heap.size, 1, none⟩ = some (.slice a len cap)) (y0 : w1.cell? ⟨w.heap.size + 1, 0, none⟩ = some (.int .i64 0)) (y1 : w1.cell? ⟨w.heap.size + 1, 1, none⟩ = some (.slice none 0 0)) (yf : ∀ o, w1.frozen? ⟨w.heap.size + 1, o, none⟩ = false) (h : Row w1 a len xs)
    (hb : Below w1.heap.size w1 w2) (hg : w1.heap.size ≤ g) (ho : OwnI w2 w1.heap.size (some ⟨g, 0, none⟩) n c ys) :
    Copied w (w2.alloc (.cells #[.int .i64 Wb, .slice (some ⟨g, 0, none⟩) n c] 29)) g w2.heap.size WA a len cap xs Wb n c ys := by
  have hB : Below w1.heap.size w1 (w2.alloc (.cells #[.int .i64 Wb, .slice (some ⟨g, 0, none⟩) n c] 29)) := hb.alloc hb.size _
  have hs := hb.size
  have hgl : g < w2.heap.size := by
    rcases ho.cases with ⟨e, _⟩ | ⟨g', e, _, h3⟩
    · cases e
    · simp only [Option.some.injEq, Addr.mk.injEq, and_true] at e; omega
  exact ⟨kept hB (show _ < _ by simp; omega) x0, kept hB (show _ < _ by simp; omega) x1, kept hB (by simpa using hz) y0, kept hB (by simpa using hz) y1, fun o => (hB.frozen (by simpa using hz)).trans (yf o), by go_simp, by go_simp, h.bel hB,
    (ho.mono (by omega)).bel ((Below.refl _ _).alloc (Nat.le_refl _) _), bb.trans (hB.mono (by omega)), by omega, row_far h hg, by omega, by omega⟩

set_option maxHeartbeats 1000000 in
theorem other_spec (W : Int) (a : Option Addr) (len cap : Nat) (xs : List Int) (w : World) (h : Row w a len xs) (hm : len ≤ 9223372036854775807) :
    Calls Try.prog 38 #[.agg #[.int .i64 W, .slice a len cap]] w (Gives w (if validB W xs = true then ⟨true, W, rowsL (fun i => pw W.toNat - 1 - (xs.getD i 0)) len⟩ else .no)) := by
  have hl := h.1
  have H := (h.alloc (.cells #[.int .i64 W, .slice a len cap] 29)).alloc (.cells #[.int .i64 0, .slice none 0 0] 29)
  by_cases hv : validB W xs = true
  case neg =>
    rw [if_neg hv]
    have hv : validB W xs = false := by simpa using hv
    go_enter Try.func38, Try.ntmps38
    go_wp2_with fail
    refine (valid_spec _ _ _ _ xs _ H hm).mono ?_
    rintro e w1 ⟨rfl, hb⟩
    obtain ⟨hc1, hf1⟩ := bcell hb
    have bb1 : Below w.heap.size w w1 := (((Below.refl _ _).alloc (Nat.le_refl _) _).alloc (by simp) _).trans (hb.mono (by simp; omega))
    go_wp2_with fail
    refine bodyPost_ret (v := .tuple #[.agg #[.int .i64 0, .slice none 0 0], .bool false]) (by simp [results, Try.results38, go_sem, hc1]) rfl ?_
    exact ⟨⟨none, 0, rfl, own_nil _ _⟩, (bb1.setCell (by simp) _).setCell (by simp) _⟩
  rw [if_pos hv]
  have hW := validB_W hv
  have hL := validB_len hv
  obtain ⟨W, rfl⟩ := Int.eq_ofNat_of_zero_le (by omega : 0 ≤ W)
  rw [Int.toNat_natCast]
  have hrow : Hid (∀ i, i < len → 0 ≤ xs.getD i 0 ∧ xs.getD i 0 ≤ pw W - 1 ∧ xs.getD i 0 ≤ 63) := fun i hi => validB_row hv (by omega)
  go_enter Try.func38, Try.ntmps38
  go_wp2_with fail
  refine (valid_spec _ _ _ _ xs _ H hm).mono ?_
  rintro e w1 ⟨rfl, hb⟩
  have bb1 : Below w.heap.size w w1 := (((Below.refl _ _).alloc (Nat.le_refl _) _).alloc (by simp) _).trans (hb.mono (by simp; omega))
  have hz : w.heap.size + 1 < w1.heap.size := by have := hb.size; simp at this; omega
  have H1 := H.bel hb
  have x0 : w1.cell? ⟨w.heap.size, 0, none⟩ = some (.int .i64 W) := by rw [(bcell hb).1 _ _ (by simp; omega)]; go_simp
  have x1 : w1.cell? ⟨w.heap.size, 1, none⟩ = some (.slice a len cap) := by rw [(bcell hb).1 _ _ (by simp; omega)]; go_simp
  have y0 : w1.cell? ⟨w.heap.size + 1, 0, none⟩ = some (.int .i64 0) := by rw [(bcell hb).1 _ _ (by simp)]; go_simp
  have y1 : w1.cell? ⟨w.heap.size + 1, 1, none⟩ = some (.slice none 0 0) := by rw [(bcell hb).1 _ _ (by simp)]; go_simp
  have yf : ∀ o, w1.frozen? ⟨w.heap.size + 1, o, none⟩ = false := fun o => by rw [(bcell hb).2 _ _ (by simp)]; go_simp
  clear hb H h
  go_wp2_with fail
  obtain ⟨b, off, rfl, hcc⟩ := H1.2.resolve_left (by omega)
  refine (copy_spec W b off len cap xs _ hl hcc (by omega) (by omega)).mono ?_
  rintro e w2 ⟨⟨ac, cc, rfl, ho⟩, hb2⟩
  rcases ho.cases with ⟨_, h0, _⟩ | ⟨g, rfl, hg, _⟩
  · omega
  have M := Made.of_copy (Wb := W) hz bb1 x0 x1 y0 y1 yf H1 hb2 hg ho
  clear x0 x1 y0 y1 yf H1 bb1 hz hb2 hg ho hcc
  go_wp2_with fail
  generalize w2.alloc (.cells #[.int .i64 W, .slice (some ⟨g, 0, none⟩) len cc] 29) = W0 at M ⊢
  generalize w2.heap.size = k2 at M ⊢
  have mx0 := M.x0
  have mx1 := M.x1
  go_loopw [5] (fun q wr => ∃ k : Nat, k ≤ len ∧ q = .int .i64 k ∧ W0.grownBy wr (some g) ∧ OwnI wr (w.heap.size + 2) (some ⟨g, 0, none⟩) len cc (rowsL (fun i => if i < k then pw W - 1 - (xs.getD i 0) else xs.getD i 0) len)) (fun q _ => len - (intOf q).toNat)
  case atStart => exact ⟨0, Nat.zero_le _, rfl, World.grownBy.refl _ _, by rw [rows_ext (g := fun i => xs.getD i 0) (fun i _ => if_neg (Nat.not_lt_zero i)), ← hl, rows_self]; rw [hl]; exact M.own⟩
  case round =>
    obtain ⟨k, hk, rfl, hgr, hown⟩ := hrel
    obtain ⟨wo, rfl⟩ : ∃ wo : World, wo = wr := ⟨_, rfl⟩
    have v1 := hgr.cell mx1 (by have := M.hg; simp; omega)
    by_cases hlt : k < len
    · obtain ⟨b', off', e', hck⟩ := row_at M.row hlt
      simp only [Option.some.injEq, Addr.mk.injEq, and_true] at e'
      obtain ⟨rfl, rfl⟩ := e'
      have hbg := M.far b off rfl (by omega)
      have hr := hrow.out k hlt
      generalize hx : xs.getD k 0 = x at hck hr
      have hx := Lib.hid hx
      have hs := hown.bel ((Below.refl _ _).drew)
      have hc := own_cell hown hlt
      generalize (rowsL (fun i => if i < k then pw W - 1 - (xs.getD i 0) else xs.getD i 0) len).getD k 0 = zz at hc
      obtain ⟨W2, hW2⟩ : ∃ W2, wo.drew = W2 := ⟨_, rfl⟩
      have q0 : W2.cell? ⟨w.heap.size, 0, none⟩ = some (.int .i64 W) := by rw [← hW2]; exact hgr.cell mx0 (by have := M.hg; simp; omega)
      have q4 : W2.cell? ⟨w.heap.size, 1, none⟩ = some (.slice (some ⟨b, off, none⟩) len cap) := by rw [← hW2]; exact hgr.cell mx1 (by have := M.hg; simp; omega)
      have q5 : W2.cell? ⟨b, off + k, none⟩ = some (.int .i64 x) := by rw [← hW2]; exact hgr.cell hck (by simpa using hbg)
      have q1 : W2.cell? ⟨k2, 1, none⟩ = some (.slice (some ⟨g, 0, none⟩) len cc) := by rw [← hW2]; exact hgr.cell M.b1 (by simpa using M.ne)
      have q2 : W2.cell? ⟨g, k, none⟩ = some (.int .i64 zz) := by rw [← hW2]; exact hc
      have q3 : W2.frozen? ⟨g, k, none⟩ = false := by rw [← hW2]; exact hown.frozen k
      have hgr3 : W0.grownBy W2 (some g) := by rw [← hW2]; exact ⟨hgr.os, hgr.tape, hgr.output, hgr.size, hgr.block⟩
      rw [hW2] at hs
      have hgr4 := grown_set (j := k) (v := .int .i64 (pw W - 1 - x)) hgr3
      have hs := hs.set k (pw W - 1 - x)
      rw [rows_step (fun i => pw W - 1 - (xs.getD i 0)) (fun i => xs.getD i 0) hlt (by rw [hx.out])] at hs
      have hs4 := Lib.hid hs
      have hgr5 := Lib.hid hgr4
      have hpw := pw_le W 6 (by omega)
      have hp6 : pw 6 = 64 := by decide
      have ew1 : wrap64 (pw W - 1 - x) = pw W - 1 - x := IntWalk.wrap64_in _ ⟨by omega, by omega⟩
      have ev1 : IntKind.i64.wrap (pw W - 1 - x) = pw W - 1 - x := IntWalk.i64_in _ ⟨by omega, by omega⟩
      have ew2 : wrap64 (pw W - 1) = pw W - 1 := IntWalk.wrap64_in _ ⟨by omega, by omega⟩
      have ev2 : IntKind.i64.wrap (pw W - 1) = pw W - 1 := IntWalk.i64_in _ ⟨by omega, by omega⟩
      clear hgr4 hs
      go_wp2_with fail
      refine region_tail 14 (by kernel_rfl) (by kernel_rfl) W2 hW2 ?_
      simp only [List.take_succ_cons, List.take_zero, List.drop_succ_cons, List.drop_zero]
      clear hW2 hc hgr3 hgr hown hck v1
      repeat (first | still_step | still_call (st (power_any _ _ (by omega))))
      refine wpStill_nil ?_
      go_wp2_with fail
      exact ⟨⟨k + 1, by omega, by go_num, hgr5.out, hs4.out⟩, by simp [intOf]; omega⟩
    · have : k = len := by omega
      subst this
      rw [rows_ext (g := fun i => pw W - 1 - (xs.getD i 0)) (fun i hi => if_pos hi)] at hown
      have z0 := hgr.cell M.b0 (by simpa using M.ne)
      have z1 := hgr.cell M.b1 (by simpa using M.ne)
      have u0 := hgr.cell M.y0 (by have := M.hg; simp; omega)
      have u1 := hgr.cell M.y1 (by have := M.hg; simp; omega)
      have uf : ∀ o, wo.frozen? ⟨w.heap.size + 1, o, none⟩ = false := fun o => (World.frozen?_of_block (a := ⟨w.heap.size + 1, o, none⟩) (hgr.block (w.heap.size + 1) (show w.heap.size + 1 < W0.heap.size from block_lt M.y0) (by have := M.hg; simp; omega))).trans (M.yf o)
      have bb : Below w.heap.size w wo := M.bel.trans ((grown_below hgr).mono (by have := M.hg; have := M.bel.size; omega))
      have hgr := Lib.hid hgr
      have hown := Lib.hid hown
      go_wp2_with fail
      refine bodyPost_ret (v := .tuple #[.agg #[.int .i64 W, .slice (some ⟨g, 0, none⟩) k cc], .bool true]) (by simp [results, Try.results38, go_sem, u0, u1]) rfl ?_
      refine ⟨⟨some ⟨g, 0, none⟩, cc, by rw [rows_len], ?_⟩, (bb.setCell (by simp) _).setCell (by simp) _⟩
      show OwnI _ _ _ (rowsL _ k).length _ _
      rw [rows_len]
      exact ((hown.out.store (by simp) _).store (by simp) _).mono (by omega)
end Go.Proofs.Yteadibgjieimkaa

