/-
  The contracts of the program's functions that give an image place by place: the other cells, the mirror.
-/
import Derived.Test.YteadibgjieimkaaM
namespace Go.Proofs.Yteadibgjieimkaa
set_option maxRecDepth 100000
open Go.RowKit

theorem xor_nat : ∀ k, k < 7 → ∀ n, n < 64 → ((n : Nat) : Int) ≤ pw k - 1 → bits BinOp.xor IntKind.i64 n (pw k - 1) = pw k - 1 - n := by decide +kernel
theorem xor_num {x : Int} {k : Nat} (hk : k ≤ 6) (h0 : 0 ≤ x) (h1 : x ≤ pw k - 1) (h2 : x ≤ 63) : bits BinOp.xor IntKind.i64 x (pw k - 1) = pw k - 1 - x := by
  obtain ⟨n, rfl⟩ := Int.eq_ofNat_of_zero_le h0
  exact xor_nat k (by omega) n (by omega) h1

set_option maxHeartbeats 1000000 in
theorem other_impl (W : Int) (a : Option Addr) (len cap : Nat) (xs : List Int) (w : World) (h : Row w a len xs) (hm : len ≤ 9223372036854775807) :
    Calls Try.prog 37 #[.agg #[.int .i64 W, .slice a len cap]] w (Gives w (if validB W xs = true then ⟨true, W, rowsL (fun i => pw W.toNat - 1 - (xs.getD i 0)) len⟩ else .no)) := by
  have hl := h.1
  have H := (h.alloc (.cells #[.int .i64 W, .slice a len cap] 29)).alloc (.cells #[.int .i64 0, .slice none 0 0] 29)
  by_cases hv : validB W xs = true
  case neg =>
    rw [if_neg hv]
    have hv : validB W xs = false := by simpa using hv
    go_enter Try.func37, Try.ntmps37
    go_wp2_with fail
    refine (valid_impl _ _ _ _ xs _ H hm).mono ?_
    rintro e w1 ⟨rfl, hb⟩
    obtain ⟨hc1, hf1⟩ := bcell hb
    have bb1 : Below w.heap.size w w1 := (((Below.refl _ _).alloc (Nat.le_refl _) _).alloc (by simp) _).trans (hb.mono (by simp; omega))
    go_wp2_with fail
    refine bodyPost_ret (v := .tuple #[.agg #[.int .i64 0, .slice none 0 0], .bool false]) (by simp [results, Try.results37, go_sem, hc1]) rfl ?_
    exact ⟨⟨none, 0, rfl, own_nil _ _⟩, (bb1.setCell (by simp) _).setCell (by simp) _⟩
  rw [if_pos hv]
  have hW := validB_W hv
  have hL := validB_len hv
  obtain ⟨W, rfl⟩ := Int.eq_ofNat_of_zero_le (by omega : 0 ≤ W)
  rw [Int.toNat_natCast]
  have hrow : Hid (∀ i, i < len → 0 ≤ xs.getD i 0 ∧ xs.getD i 0 ≤ pw W - 1 ∧ xs.getD i 0 ≤ 63) := fun i hi => validB_row hv (by omega)
  go_enter Try.func37, Try.ntmps37
  go_wp2_with fail
  refine (valid_impl _ _ _ _ xs _ H hm).mono ?_
  rintro e w1 ⟨rfl, hb⟩
  have bb1 : Below w.heap.size w w1 := (((Below.refl _ _).alloc (Nat.le_refl _) _).alloc (by simp) _).trans (hb.mono (by simp; omega))
  have hz : w.heap.size + 1 < w1.heap.size := by have := hb.size; simp at this; omega
  have H1 := H.bel hb
  have x0 : w1.cell? ⟨w.heap.size, 0, none⟩ = some (.int .i64 W) := by rw [(bcell hb).1 _ _ (by simp; omega)]; go_simp
  have x1 : w1.cell? ⟨w.heap.size, 1, none⟩ = some (.slice a len cap) := by rw [(bcell hb).1 _ _ (by simp; omega)]; go_simp
  have y0 : w1.cell? ⟨w.heap.size + 1, 0, none⟩ = some (.int .i64 0) := by rw [(bcell hb).1 _ _ (by simp)]; go_simp
  have y1 : w1.cell? ⟨w.heap.size + 1, 1, none⟩ = some (.slice none 0 0) := by rw [(bcell hb).1 _ _ (by simp)]; go_simp
  have yf : ∀ o, w1.frozen? ⟨w.heap.size + 1, o, none⟩ = false := fun o => by rw [(bcell hb).2 _ _ (by simp)]; go_simp
  clear hb H h
  go_wp2_with fail
  have hmk := fun wx => run_make_row' (P := Try.prog) 23 3 (.int .i64 0) 8 Try.underlying23 infoInt rfl .i64 .i64 len (by omega) (by omega) wx
  go_region_held3 (fun W' => W'.cell? ⟨w.heap.size, 0, none⟩ = some (.int .i64 W) ∧ W'.cell? ⟨w.heap.size, 1, none⟩ = some (.slice a len cap))
    (first | go_keep) (fail)
  · go_wp2_with fail
    have M := made1 (n := len) (Wb := W) hz bb1 x0 x1 y0 y1 yf H1 (by omega)
    clear x0 x1 y0 y1 yf H1 hmk bb1 hz
    generalize ((w1.alloc (.cells (madeCells #[.int .i64 0] len) 3)).alloc (.cells #[.int .i64 W, .slice (some ⟨w1.heap.size, 0, none⟩) len len] 29)).drew = W0 at M ⊢
    generalize w1.heap.size + 1 = k2 at M ⊢
    generalize w1.heap.size = g at M ⊢
    have mx0 := M.x0
    go_loopw [21] (fun q wr => ∃ k : Nat, k ≤ len ∧ q = .int .i64 k ∧ W0.grownBy wr (some g) ∧ OwnI wr (w.heap.size + 2) (some ⟨g, 0, none⟩) len len (rowsL (fun i => if i < k then pw W - 1 - (xs.getD i 0) else 0) len)) (fun q _ => len - (intOf q).toNat)
    case atStart => exact ⟨0, Nat.zero_le _, rfl, World.grownBy.refl _ _, by rw [rows_ext (g := fun _ => 0) (fun i _ => if_neg (Nat.not_lt_zero i)), rows_zero]; exact M.own⟩
    case round =>
      obtain ⟨k, hk, rfl, hgr, hown⟩ := hrel
      obtain ⟨wo, rfl⟩ : ∃ wo : World, wo = wr := ⟨_, rfl⟩
      by_cases hlt : k < len
      · obtain ⟨b, off, rfl, hck⟩ := row_at M.row hlt
        have hbg := M.far b off rfl (by omega)
        have hck := hgr.cell hck (by simpa using hbg)
        have hr := hrow.out k hlt
        generalize hx : xs.getD k 0 = x at hck hr
        have hx := Lib.hid hx
        have hs := hown.bel ((Below.refl _ _).drew)
        have hc := own_cell hown hlt
        generalize (rowsL (fun i => if i < k then pw W - 1 - (xs.getD i 0) else 0) len).getD k 0 = zz at hc
        obtain ⟨W2, hW2⟩ : ∃ W2, wo.drew = W2 := ⟨_, rfl⟩
        have q0 : W2.cell? ⟨w.heap.size, 0, none⟩ = some (.int .i64 W) := by rw [← hW2]; exact hgr.cell mx0 (by have := M.hg; simp; omega)
        have q1 : W2.cell? ⟨k2, 1, none⟩ = some (.slice (some ⟨g, 0, none⟩) len len) := by rw [← hW2]; exact hgr.cell M.b1 (by simpa using M.ne)
        have q2 : W2.cell? ⟨g, k, none⟩ = some (.int .i64 zz) := by rw [← hW2]; exact hc
        have q3 : W2.frozen? ⟨g, k, none⟩ = false := by rw [← hW2]; exact hown.frozen k
        have hgr3 : W0.grownBy W2 (some g) := by rw [← hW2]; exact ⟨hgr.os, hgr.tape, hgr.output, hgr.size, hgr.block⟩
        rw [hW2] at hs
        have hgr4 := grown_set (j := k) (v := .int .i64 (pw W - 1 - x)) hgr3
        have hs := hs.set k (pw W - 1 - x)
        rw [rows_step (fun i => pw W - 1 - (xs.getD i 0)) (fun _ => 0) hlt (by rw [hx.out])] at hs
        have hs4 := Lib.hid hs
        have hgr5 := Lib.hid hgr4
        clear hgr4 hs
        have hxor := xor_num (x := x) (k := W) (by omega) hr.1 hr.2.1 hr.2.2
        go_wp2_with fail
        refine region_tail 9 (by kernel_rfl) (by kernel_rfl) W2 hW2 ?_
        simp only [List.take_succ_cons, List.take_zero, List.drop_succ_cons, List.drop_zero]
        clear hW2 hc hgr3 hgr hown hck
        repeat (first | still_step | still_call (st (full_any _ _ (by omega))))
        refine wpStill_nil ?_
        go_wp2_with fail
        exact ⟨⟨k + 1, by omega, by go_num, hgr5.out, hs4.out⟩, by simp [intOf]; omega⟩
      · have : k = len := by omega
        subst this
        rw [rows_ext (g := fun i => pw W - 1 - (xs.getD i 0)) (fun i hi => if_pos hi)] at hown
        have z0 := hgr.cell M.b0 (by simpa using M.ne)
        have z1 := hgr.cell M.b1 (by simpa using M.ne)
        have u0 := hgr.cell M.y0 (by have := M.hg; simp; omega)
        have u1 := hgr.cell M.y1 (by have := M.hg; simp; omega)
        have uf : ∀ o, wo.frozen? ⟨w.heap.size + 1, o, none⟩ = false := fun o => (World.frozen?_of_block (a := ⟨w.heap.size + 1, o, none⟩) (hgr.block (w.heap.size + 1) (show w.heap.size + 1 < W0.heap.size from block_lt M.y0) (by have := M.hg; simp; omega))).trans (M.yf o)
        have bb : Below w.heap.size w wo := M.bel.trans ((grown_below hgr).mono (by have := M.hg; have := M.bel.size; omega))
        have hgr := Lib.hid hgr
        have hown := Lib.hid hown
        go_wp2_with fail
        refine bodyPost_ret (v := .tuple #[.agg #[.int .i64 W, .slice (some ⟨g, 0, none⟩) k k], .bool true]) (by simp [results, Try.results37, go_sem, u0, u1]) rfl ?_
        refine ⟨⟨some ⟨g, 0, none⟩, k, by rw [rows_len], ?_⟩, (bb.setCell (by simp) _).setCell (by simp) _⟩
        show OwnI _ _ _ (rowsL _ k).length _ _
        rw [rows_len]
        exact ((hown.out.store (by simp) _).store (by simp) _).mono (by omega)
  · go_wp2_with fail
    have M := made2 (n := len) (Wb := W) hz bb1 x0 x1 y0 y1 yf H1 (by omega)
    clear x0 x1 y0 y1 yf H1 hmk bb1 hz
    generalize ((w1.alloc (.cells #[.int .i64 W, .slice (some ⟨w1.heap.size + 1, 0, none⟩) len len] 29)).alloc (.cells (madeCells #[.int .i64 0] len) 3)).drew = W0 at M ⊢
    generalize w1.heap.size + 1 = g at M ⊢
    generalize w1.heap.size = k2 at M ⊢
    have mx0 := M.x0
    go_loopw [21] (fun q wr => ∃ k : Nat, k ≤ len ∧ q = .int .i64 k ∧ W0.grownBy wr (some g) ∧ OwnI wr (w.heap.size + 2) (some ⟨g, 0, none⟩) len len (rowsL (fun i => if i < k then pw W - 1 - (xs.getD i 0) else 0) len)) (fun q _ => len - (intOf q).toNat)
    case atStart => exact ⟨0, Nat.zero_le _, rfl, World.grownBy.refl _ _, by rw [rows_ext (g := fun _ => 0) (fun i _ => if_neg (Nat.not_lt_zero i)), rows_zero]; exact M.own⟩
    case round =>
      obtain ⟨k, hk, rfl, hgr, hown⟩ := hrel
      obtain ⟨wo, rfl⟩ : ∃ wo : World, wo = wr := ⟨_, rfl⟩
      by_cases hlt : k < len
      · obtain ⟨b, off, rfl, hck⟩ := row_at M.row hlt
        have hbg := M.far b off rfl (by omega)
        have hck := hgr.cell hck (by simpa using hbg)
        have hr := hrow.out k hlt
        generalize hx : xs.getD k 0 = x at hck hr
        have hx := Lib.hid hx
        have hs := hown.bel ((Below.refl _ _).drew)
        have hc := own_cell hown hlt
        generalize (rowsL (fun i => if i < k then pw W - 1 - (xs.getD i 0) else 0) len).getD k 0 = zz at hc
        obtain ⟨W2, hW2⟩ : ∃ W2, wo.drew = W2 := ⟨_, rfl⟩
        have q0 : W2.cell? ⟨w.heap.size, 0, none⟩ = some (.int .i64 W) := by rw [← hW2]; exact hgr.cell mx0 (by have := M.hg; simp; omega)
        have q1 : W2.cell? ⟨k2, 1, none⟩ = some (.slice (some ⟨g, 0, none⟩) len len) := by rw [← hW2]; exact hgr.cell M.b1 (by simpa using M.ne)
        have q2 : W2.cell? ⟨g, k, none⟩ = some (.int .i64 zz) := by rw [← hW2]; exact hc
        have q3 : W2.frozen? ⟨g, k, none⟩ = false := by rw [← hW2]; exact hown.frozen k
        have hgr3 : W0.grownBy W2 (some g) := by rw [← hW2]; exact ⟨hgr.os, hgr.tape, hgr.output, hgr.size, hgr.block⟩
        rw [hW2] at hs
        have hgr4 := grown_set (j := k) (v := .int .i64 (pw W - 1 - x)) hgr3
        have hs := hs.set k (pw W - 1 - x)
        rw [rows_step (fun i => pw W - 1 - (xs.getD i 0)) (fun _ => 0) hlt (by rw [hx.out])] at hs
        have hs4 := Lib.hid hs
        have hgr5 := Lib.hid hgr4
        clear hgr4 hs
        have hxor := xor_num (x := x) (k := W) (by omega) hr.1 hr.2.1 hr.2.2
        go_wp2_with fail
        refine region_tail 9 (by kernel_rfl) (by kernel_rfl) W2 hW2 ?_
        simp only [List.take_succ_cons, List.take_zero, List.drop_succ_cons, List.drop_zero]
        clear hW2 hc hgr3 hgr hown hck
        repeat (first | still_step | still_call (st (full_any _ _ (by omega))))
        refine wpStill_nil ?_
        go_wp2_with fail
        exact ⟨⟨k + 1, by omega, by go_num, hgr5.out, hs4.out⟩, by simp [intOf]; omega⟩
      · have : k = len := by omega
        subst this
        rw [rows_ext (g := fun i => pw W - 1 - (xs.getD i 0)) (fun i hi => if_pos hi)] at hown
        have z0 := hgr.cell M.b0 (by simpa using M.ne)
        have z1 := hgr.cell M.b1 (by simpa using M.ne)
        have u0 := hgr.cell M.y0 (by have := M.hg; simp; omega)
        have u1 := hgr.cell M.y1 (by have := M.hg; simp; omega)
        have uf : ∀ o, wo.frozen? ⟨w.heap.size + 1, o, none⟩ = false := fun o => (World.frozen?_of_block (a := ⟨w.heap.size + 1, o, none⟩) (hgr.block (w.heap.size + 1) (show w.heap.size + 1 < W0.heap.size from block_lt M.y0) (by have := M.hg; simp; omega))).trans (M.yf o)
        have bb : Below w.heap.size w wo := M.bel.trans ((grown_below hgr).mono (by have := M.hg; have := M.bel.size; omega))
        have hgr := Lib.hid hgr
        have hown := Lib.hid hown
        go_wp2_with fail
        refine bodyPost_ret (v := .tuple #[.agg #[.int .i64 W, .slice (some ⟨g, 0, none⟩) k k], .bool true]) (by simp [results, Try.results37, go_sem, u0, u1]) rfl ?_
        refine ⟨⟨some ⟨g, 0, none⟩, k, by rw [rows_len], ?_⟩, (bb.setCell (by simp) _).setCell (by simp) _⟩
        show OwnI _ _ _ (rowsL _ k).length _ _
        rw [rows_len]
        exact ((hown.out.store (by simp) _).store (by simp) _).mono (by omega)

theorem rows_small (f : Nat → Int) (W : Int) (xs : List Int) (len : Nat) (hl : xs.length = len) : (if validB W xs = true then (⟨true, W, rowsL f len⟩ : Out) else .no).xs.length ≤ 1048576 := by
  by_cases hv : validB W xs = true
  · rw [if_pos hv]; have := validB_len hv; simp only [rows_len]; omega
  · rw [if_neg hv]; simp [Out.no]
end Go.Proofs.Yteadibgjieimkaa

