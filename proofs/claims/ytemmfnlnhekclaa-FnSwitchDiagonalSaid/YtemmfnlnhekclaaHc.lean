/-
  The contract of the program's imageCopy: an image in new memory.
  The contracts of the program's functions that give an image place by place: the other cells, the mirror.
  The contract of the program's ImageMirror.
  The contract of the model's ImageOther.
  The contract of the model's ImageMirror.
  The contracts of the functions that put a cell.
  The contract of the program's ImagePut.
  Facts of numbers: images turned and mirrored twice, their cells, and how many they are.
  Plain facts on the image of the other cells, and on images with a cell put.
-/
import Derived.Test.YtemmfnlnhekclaaA
import Derived.Deep.RegionLaw

namespace Go.Proofs.Ytemmfnlnhekclaa
set_option maxRecDepth 100000
open Go.RowKit

set_option maxHeartbeats 1000000 in
theorem icopy_any (W : Int) (a : Option Addr) (n cap : Nat) (xs : List Int) (w : World) (h : Row w a n xs) (h1 : 1 ≤ n) (hm : n ≤ 1048576) :
    Calls Try.prog 74 #[.agg #[.int .i64 W, .slice a n cap]] w fun e w' => (∃ a' c', e = .returned (.agg #[.int .i64 W, .slice a' n c']) ∧ OwnI w' w.heap.size a' n c' xs) ∧ Below w.heap.size w w' := by
  have hl := h.1
  obtain ⟨W0, hW0⟩ : ∃ W0, W0 = (w.alloc (.cells #[.int .i64 W, .slice a n cap] 35)).alloc (.cells #[.int .i64 0, .slice none 0 0] 35) := ⟨_, rfl⟩
  have bb : Hid (Below w.heap.size w W0) := by subst hW0; exact ((Below.refl _ _).alloc (Nat.le_refl _) _).alloc (by simp) _
  have x0 : W0.cell? ⟨w.heap.size, 0, none⟩ = some (.int .i64 W) := by subst hW0; go_simp
  have x1 : W0.cell? ⟨w.heap.size, 1, none⟩ = some (.slice a n cap) := by subst hW0; go_simp
  have z0 : W0.cell? ⟨w.heap.size + 1, 0, none⟩ = some (.int .i64 0) := by subst hW0; go_simp
  have z1 : W0.cell? ⟨w.heap.size + 1, 1, none⟩ = some (.slice none 0 0) := by subst hW0; go_simp
  have zf : ∀ o, W0.frozen? ⟨w.heap.size + 1, o, none⟩ = false := fun o => by subst hW0; go_simp
  have hz : w.heap.size + 1 < W0.heap.size := block_lt z0
  have r := (h.bel bb.out).bel (w' := W0.drew) ((Below.refl _ _).drew)
  clear h
  obtain ⟨b, off, rfl, hrc⟩ := r.2.resolve_left (by omega)
  clear r
  go_enter Try.func74, Try.ntmps74
  go_wp2_with fail
  rw [← hW0]
  clear hW0
  go_region_law (first | (go_simp; go_at_call 88; (with_reducible refine (clone_any b off n cap xs _ hl hrc hm h1).mono ?_); rintro e w2 ⟨⟨ac, cc, rfl, ho⟩, hb2⟩; have hb : Below W0.heap.size W0 w2 := (((Below.refl _ _).drew).trans (hb2.mono (Nat.le_refl _))); have x0 := kept hb (block_lt x0) x0; have x1 := kept hb (block_lt x1) x1; have z0 := kept hb (block_lt z0) z0; have z1 := kept hb (block_lt z1) z1; have zf := (fun o => (hb.frozen (p := ⟨w.heap.size + 1, o, none⟩) hz).trans (zf o)); have ho := Lib.hid (OwnI.mono ho (B' := W0.heap.size) (by simp)); have bb := Lib.hid (bb.out.trans (hb.mono bb.out.size)); clear hb hb2))
  all_goals go_wp2_with fail
  all_goals refine bodyPost_ret (v := .agg #[.int .i64 W, .slice ac n cc]) (by simp [results, Try.results74, go_sem, z0, z1]) rfl ?_
  all_goals exact ⟨⟨ac, cc, rfl, ((ho.out.store (show w.heap.size + 1 < W0.heap.size from hz) _).store (show w.heap.size + 1 < W0.heap.size from hz) _).mono (by omega)⟩, (bb.out.setCell (by simp) _).setCell (by simp) _⟩
end Go.Proofs.Ytemmfnlnhekclaa

namespace Go.Proofs.Ytemmfnlnhekclaa
set_option maxRecDepth 100000
open Go.RowKit

theorem xor_nat : ∀ k, k < 7 → ∀ n, n < 64 → ((n : Nat) : Int) ≤ pw k - 1 → bits BinOp.xor IntKind.i64 n (pw k - 1) = pw k - 1 - n := by decide +kernel
theorem xor_num {x : Int} {k : Nat} (hk : k ≤ 6) (h0 : 0 ≤ x) (h1 : x ≤ pw k - 1) (h2 : x ≤ 63) : bits BinOp.xor IntKind.i64 x (pw k - 1) = pw k - 1 - x := by
  obtain ⟨n, rfl⟩ := Int.eq_ofNat_of_zero_le h0
  exact xor_nat k (by omega) n (by omega) h1

set_option maxHeartbeats 1000000 in
theorem other_impl (W : Int) (a : Option Addr) (len cap : Nat) (xs : List Int) (w : World) (h : Row w a len xs) (hm : len ≤ 9223372036854775807) :
    Calls Try.prog 38 #[.agg #[.int .i64 W, .slice a len cap]] w (Gives w (if validB W xs = true then ⟨true, W, rowsL (fun i => pw W.toNat - 1 - (xs.getD i 0)) len⟩ else .no)) := by
  have hl := h.1
  have H := (h.alloc (.cells #[.int .i64 W, .slice a len cap] 35)).alloc (.cells #[.int .i64 0, .slice none 0 0] 35)
  by_cases hv : validB W xs = true
  case neg =>
    rw [if_neg hv]
    have hv : validB W xs = false := by simpa using hv
    go_enter Try.func38, Try.ntmps38
    go_wp2_with fail
    refine (valid_impl _ _ _ _ xs _ H hm).mono ?_
    rintro e w1 ⟨rfl, hb⟩
    obtain ⟨hc1, hf1⟩ := bcell hb
    have bb1 : Below w.heap.size w w1 := (((Below.refl _ _).alloc (Nat.le_refl _) _).alloc (by simp) _).trans (hb.mono (by simp; omega))
    go_wp2_with fail
    refine bodyPost_ret (v := .tuple #[.agg #[.int .i64 0, .slice none 0 0], .bool false]) (by simp [results, Try.results38, go_sem, hc1]) rfl ?_
    exact ⟨⟨none, 0, rfl, own_nil _ _⟩, (bb1.setCell (by simp) _).setCell (by simp) _⟩
  rw [if_pos hv]
  have hW := validB_W hv
  have hL := validB_len hv
  obtain ⟨W, rfl⟩ := Int.eq_ofNat_of_zero_le (by omega : 0 ≤ W)
  rw [Int.toNat_natCast]
  have hrow : Hid (∀ i, i < len → 0 ≤ xs.getD i 0 ∧ xs.getD i 0 ≤ pw W - 1 ∧ xs.getD i 0 ≤ 63) := fun i hi => validB_row hv (by omega)
  go_enter Try.func38, Try.ntmps38
  go_wp2_with fail
  refine (valid_impl _ _ _ _ xs _ H hm).mono ?_
  rintro e w1 ⟨rfl, hb⟩
  have bb1 : Below w.heap.size w w1 := (((Below.refl _ _).alloc (Nat.le_refl _) _).alloc (by simp) _).trans (hb.mono (by simp; omega))
  have hz : w.heap.size + 1 < w1.heap.size := by have := hb.size; simp at this; omega
  have H1 := H.bel hb
  have x0 : w1.cell? ⟨w.heap.size, 0, none⟩ = some (.int .i64 W) := by rw [(bcell hb).1 _ _ (by simp; omega)]; go_simp
  have x1 : w1.cell? ⟨w.heap.size, 1, none⟩ = some (.slice a len cap) := by rw [(bcell hb).1 _ _ (by simp; omega)]; go_simp
  have y0 : w1.cell? ⟨w.heap.size + 1, 0, none⟩ = some (.int .i64 0) := by rw [(bcell hb).1 _ _ (by simp)]; go_simp
  have y1 : w1.cell? ⟨w.heap.size + 1, 1, none⟩ = some (.slice none 0 0) := by rw [(bcell hb).1 _ _ (by simp)]; go_simp
  have yf : ∀ o, w1.frozen? ⟨w.heap.size + 1, o, none⟩ = false := fun o => by rw [(bcell hb).2 _ _ (by simp)]; go_simp
  clear hb H h
  go_wp2_with fail
  have hmk := fun wx => run_make_row' (P := Try.prog) 33 3 (.int .i64 0) 8 Try.underlying33 infoInt rfl .i64 .i64 len (by omega) (by omega) wx
  go_region_held3 (fun W' => W'.cell? ⟨w.heap.size, 0, none⟩ = some (.int .i64 W) ∧ W'.cell? ⟨w.heap.size, 1, none⟩ = some (.slice a len cap))
    (first | go_keep) (fail)
  · go_wp2_with fail
    have M := made1 (n := len) (Wb := W) hz bb1 x0 x1 y0 y1 yf H1 (by omega)
    clear x0 x1 y0 y1 yf H1 hmk bb1 hz
    generalize ((w1.alloc (.cells (madeCells #[.int .i64 0] len) 3)).alloc (.cells #[.int .i64 W, .slice (some ⟨w1.heap.size, 0, none⟩) len len] 35)).drew = W0 at M ⊢
    generalize w1.heap.size + 1 = k2 at M ⊢
    generalize w1.heap.size = g at M ⊢
    have mx0 := M.x0
    go_loopw [21] (fun q wr => ∃ k : Nat, k ≤ len ∧ q = .int .i64 k ∧ W0.grownBy wr (some g) ∧ OwnI wr (w.heap.size + 2) (some ⟨g, 0, none⟩) len len (rowsL (fun i => if i < k then pw W - 1 - (xs.getD i 0) else 0) len)) (fun q _ => len - (intOf q).toNat)
    case atStart => exact ⟨0, Nat.zero_le _, rfl, World.grownBy.refl _ _, by rw [rows_ext (g := fun _ => 0) (fun i _ => if_neg (Nat.not_lt_zero i)), rows_zero]; exact M.own⟩
    case round =>
      obtain ⟨k, hk, rfl, hgr, hown⟩ := hrel
      obtain ⟨wo, rfl⟩ : ∃ wo : World, wo = wr := ⟨_, rfl⟩
      by_cases hlt : k < len
      · obtain ⟨b, off, rfl, hck⟩ := row_at M.row hlt
        have hbg := M.far b off rfl (by omega)
        have hck := hgr.cell hck (by simpa using hbg)
        have hr := hrow.out k hlt
        generalize hx : xs.getD k 0 = x at hck hr
        have hx := Lib.hid hx
        have hs := hown.bel ((Below.refl _ _).drew)
        have hc := own_cell hown hlt
        generalize (rowsL (fun i => if i < k then pw W - 1 - (xs.getD i 0) else 0) len).getD k 0 = zz at hc
        obtain ⟨W2, hW2⟩ : ∃ W2, wo.drew = W2 := ⟨_, rfl⟩
        have q0 : W2.cell? ⟨w.heap.size, 0, none⟩ = some (.int .i64 W) := by rw [← hW2]; exact hgr.cell mx0 (by have := M.hg; simp; omega)
        have q1 : W2.cell? ⟨k2, 1, none⟩ = some (.slice (some ⟨g, 0, none⟩) len len) := by rw [← hW2]; exact hgr.cell M.b1 (by simpa using M.ne)
        have q2 : W2.cell? ⟨g, k, none⟩ = some (.int .i64 zz) := by rw [← hW2]; exact hc
        have q3 : W2.frozen? ⟨g, k, none⟩ = false := by rw [← hW2]; exact hown.frozen k
        have hgr3 : W0.grownBy W2 (some g) := by rw [← hW2]; exact ⟨hgr.os, hgr.tape, hgr.output, hgr.size, hgr.block⟩
        rw [hW2] at hs
        have hgr4 := grown_set (j := k) (v := .int .i64 (pw W - 1 - x)) hgr3
        have hs := hs.set k (pw W - 1 - x)
        rw [rows_step (fun i => pw W - 1 - (xs.getD i 0)) (fun _ => 0) hlt (by rw [hx.out])] at hs
        have hs4 := Lib.hid hs
        have hgr5 := Lib.hid hgr4
        clear hgr4 hs
        have hxor := xor_num (x := x) (k := W) (by omega) hr.1 hr.2.1 hr.2.2
        go_wp2_with fail
        refine region_tail 9 (by kernel_rfl) (by kernel_rfl) W2 hW2 ?_
        simp only [List.take_succ_cons, List.take_zero, List.drop_succ_cons, List.drop_zero]
        clear hW2 hc hgr3 hgr hown hck
        repeat (first | still_step | still_call (st (full_any _ _ (by omega))))
        refine wpStill_nil ?_
        go_wp2_with fail
        exact ⟨⟨k + 1, by omega, by go_num, hgr5.out, hs4.out⟩, by simp [intOf]; omega⟩
      · have : k = len := by omega
        subst this
        rw [rows_ext (g := fun i => pw W - 1 - (xs.getD i 0)) (fun i hi => if_pos hi)] at hown
        have z0 := hgr.cell M.b0 (by simpa using M.ne)
        have z1 := hgr.cell M.b1 (by simpa using M.ne)
        have u0 := hgr.cell M.y0 (by have := M.hg; simp; omega)
        have u1 := hgr.cell M.y1 (by have := M.hg; simp; omega)
        have uf : ∀ o, wo.frozen? ⟨w.heap.size + 1, o, none⟩ = false := fun o => (World.frozen?_of_block (a := ⟨w.heap.size + 1, o, none⟩) (hgr.block (w.heap.size + 1) (show w.heap.size + 1 < W0.heap.size from block_lt M.y0) (by have := M.hg; simp; omega))).trans (M.yf o)
        have bb : Below w.heap.size w wo := M.bel.trans ((grown_below hgr).mono (by have := M.hg; have := M.bel.size; omega))
        have hgr := Lib.hid hgr
        have hown := Lib.hid hown
        go_wp2_with fail
        refine bodyPost_ret (v := .tuple #[.agg #[.int .i64 W, .slice (some ⟨g, 0, none⟩) k k], .bool true]) (by simp [results, Try.results38, go_sem, u0, u1]) rfl ?_
        refine ⟨⟨some ⟨g, 0, none⟩, k, by rw [rows_len], ?_⟩, (bb.setCell (by simp) _).setCell (by simp) _⟩
        show OwnI _ _ _ (rowsL _ k).length _ _
        rw [rows_len]
        exact ((hown.out.store (by simp) _).store (by simp) _).mono (by omega)
  · go_wp2_with fail
    have M := made2 (n := len) (Wb := W) hz bb1 x0 x1 y0 y1 yf H1 (by omega)
    clear x0 x1 y0 y1 yf H1 hmk bb1 hz
    generalize ((w1.alloc (.cells #[.int .i64 W, .slice (some ⟨w1.heap.size + 1, 0, none⟩) len len] 35)).alloc (.cells (madeCells #[.int .i64 0] len) 3)).drew = W0 at M ⊢
    generalize w1.heap.size + 1 = g at M ⊢
    generalize w1.heap.size = k2 at M ⊢
    have mx0 := M.x0
    go_loopw [21] (fun q wr => ∃ k : Nat, k ≤ len ∧ q = .int .i64 k ∧ W0.grownBy wr (some g) ∧ OwnI wr (w.heap.size + 2) (some ⟨g, 0, none⟩) len len (rowsL (fun i => if i < k then pw W - 1 - (xs.getD i 0) else 0) len)) (fun q _ => len - (intOf q).toNat)
    case atStart => exact ⟨0, Nat.zero_le _, rfl, World.grownBy.refl _ _, by rw [rows_ext (g := fun _ => 0) (fun i _ => if_neg (Nat.not_lt_zero i)), rows_zero]; exact M.own⟩
    case round =>
      obtain ⟨k, hk, rfl, hgr, hown⟩ := hrel
      obtain ⟨wo, rfl⟩ : ∃ wo : World, wo = wr := ⟨_, rfl⟩
      by_cases hlt : k < len
      · obtain ⟨b, off, rfl, hck⟩ := row_at M.row hlt
        have hbg := M.far b off rfl (by omega)
        have hck := hgr.cell hck (by simpa using hbg)
        have hr := hrow.out k hlt
        generalize hx : xs.getD k 0 = x at hck hr
        have hx := Lib.hid hx
        have hs := hown.bel ((Below.refl _ _).drew)
        have hc := own_cell hown hlt
        generalize (rowsL (fun i => if i < k then pw W - 1 - (xs.getD i 0) else 0) len).getD k 0 = zz at hc
        obtain ⟨W2, hW2⟩ : ∃ W2, wo.drew = W2 := ⟨_, rfl⟩
        have q0 : W2.cell? ⟨w.heap.size, 0, none⟩ = some (.int .i64 W) := by rw [← hW2]; exact hgr.cell mx0 (by have := M.hg; simp; omega)
        have q1 : W2.cell? ⟨k2, 1, none⟩ = some (.slice (some ⟨g, 0, none⟩) len len) := by rw [← hW2]; exact hgr.cell M.b1 (by simpa using M.ne)
        have q2 : W2.cell? ⟨g, k, none⟩ = some (.int .i64 zz) := by rw [← hW2]; exact hc
        have q3 : W2.frozen? ⟨g, k, none⟩ = false := by rw [← hW2]; exact hown.frozen k
        have hgr3 : W0.grownBy W2 (some g) := by rw [← hW2]; exact ⟨hgr.os, hgr.tape, hgr.output, hgr.size, hgr.block⟩
        rw [hW2] at hs
        have hgr4 := grown_set (j := k) (v := .int .i64 (pw W - 1 - x)) hgr3
        have hs := hs.set k (pw W - 1 - x)
        rw [rows_step (fun i => pw W - 1 - (xs.getD i 0)) (fun _ => 0) hlt (by rw [hx.out])] at hs
        have hs4 := Lib.hid hs
        have hgr5 := Lib.hid hgr4
        clear hgr4 hs
        have hxor := xor_num (x := x) (k := W) (by omega) hr.1 hr.2.1 hr.2.2
        go_wp2_with fail
        refine region_tail 9 (by kernel_rfl) (by kernel_rfl) W2 hW2 ?_
        simp only [List.take_succ_cons, List.take_zero, List.drop_succ_cons, List.drop_zero]
        clear hW2 hc hgr3 hgr hown hck
        repeat (first | still_step | still_call (st (full_any _ _ (by omega))))
        refine wpStill_nil ?_
        go_wp2_with fail
        exact ⟨⟨k + 1, by omega, by go_num, hgr5.out, hs4.out⟩, by simp [intOf]; omega⟩
      · have : k = len := by omega
        subst this
        rw [rows_ext (g := fun i => pw W - 1 - (xs.getD i 0)) (fun i hi => if_pos hi)] at hown
        have z0 := hgr.cell M.b0 (by simpa using M.ne)
        have z1 := hgr.cell M.b1 (by simpa using M.ne)
        have u0 := hgr.cell M.y0 (by have := M.hg; simp; omega)
        have u1 := hgr.cell M.y1 (by have := M.hg; simp; omega)
        have uf : ∀ o, wo.frozen? ⟨w.heap.size + 1, o, none⟩ = false := fun o => (World.frozen?_of_block (a := ⟨w.heap.size + 1, o, none⟩) (hgr.block (w.heap.size + 1) (show w.heap.size + 1 < W0.heap.size from block_lt M.y0) (by have := M.hg; simp; omega))).trans (M.yf o)
        have bb : Below w.heap.size w wo := M.bel.trans ((grown_below hgr).mono (by have := M.hg; have := M.bel.size; omega))
        have hgr := Lib.hid hgr
        have hown := Lib.hid hown
        go_wp2_with fail
        refine bodyPost_ret (v := .tuple #[.agg #[.int .i64 W, .slice (some ⟨g, 0, none⟩) k k], .bool true]) (by simp [results, Try.results38, go_sem, u0, u1]) rfl ?_
        refine ⟨⟨some ⟨g, 0, none⟩, k, by rw [rows_len], ?_⟩, (bb.setCell (by simp) _).setCell (by simp) _⟩
        show OwnI _ _ _ (rowsL _ k).length _ _
        rw [rows_len]
        exact ((hown.out.store (by simp) _).store (by simp) _).mono (by omega)

theorem rows_small (f : Nat → Int) (W : Int) (xs : List Int) (len : Nat) (hl : xs.length = len) : (if validB W xs = true then (⟨true, W, rowsL f len⟩ : Out) else .no).xs.length ≤ 1048576 := by
  by_cases hv : validB W xs = true
  · rw [if_pos hv]; have := validB_len hv; simp only [rows_len]; omega
  · rw [if_neg hv]; simp [Out.no]
end Go.Proofs.Ytemmfnlnhekclaa

namespace Go.Proofs.Ytemmfnlnhekclaa
set_option maxRecDepth 100000
open Go.RowKit

set_option maxHeartbeats 1000000 in
theorem mirror_impl (W : Int) (a : Option Addr) (len cap : Nat) (xs : List Int) (w : World) (h : Row w a len xs) (hm : len ≤ 9223372036854775807) :
    Calls Try.prog 36 #[.agg #[.int .i64 W, .slice a len cap]] w (Gives w (if validB W xs = true then ⟨true, W, rowsL (fun i => mirI W.toNat (xs.getD i 0) W.toNat) len⟩ else .no)) := by
  have hl := h.1
  have H := (h.alloc (.cells #[.int .i64 W, .slice a len cap] 35)).alloc (.cells #[.int .i64 0, .slice none 0 0] 35)
  by_cases hv : validB W xs = true
  case neg =>
    rw [if_neg hv]
    have hv : validB W xs = false := by simpa using hv
    go_enter Try.func36, Try.ntmps36
    go_wp2_with fail
    refine (valid_impl _ _ _ _ xs _ H hm).mono ?_
    rintro e w1 ⟨rfl, hb⟩
    obtain ⟨hc1, hf1⟩ := bcell hb
    have bb1 : Below w.heap.size w w1 := (((Below.refl _ _).alloc (Nat.le_refl _) _).alloc (by simp) _).trans (hb.mono (by simp; omega))
    go_wp2_with fail
    refine bodyPost_ret (v := .tuple #[.agg #[.int .i64 0, .slice none 0 0], .bool false]) (by simp [results, Try.results36, go_sem, hc1]) rfl ?_
    exact ⟨⟨none, 0, rfl, own_nil _ _⟩, (bb1.setCell (by simp) _).setCell (by simp) _⟩
  rw [if_pos hv]
  have hW := validB_W hv
  have hL := validB_len hv
  obtain ⟨W, rfl⟩ := Int.eq_ofNat_of_zero_le (by omega : 0 ≤ W)
  rw [Int.toNat_natCast]
  have hrow : Hid (∀ i, i < len → 0 ≤ xs.getD i 0 ∧ xs.getD i 0 ≤ pw W - 1 ∧ xs.getD i 0 ≤ 63) := fun i hi => validB_row hv (by omega)
  go_enter Try.func36, Try.ntmps36
  go_wp2_with fail
  refine (valid_impl _ _ _ _ xs _ H hm).mono ?_
  rintro e w1 ⟨rfl, hb⟩
  have bb1 : Below w.heap.size w w1 := (((Below.refl _ _).alloc (Nat.le_refl _) _).alloc (by simp) _).trans (hb.mono (by simp; omega))
  have hz : w.heap.size + 1 < w1.heap.size := by have := hb.size; simp at this; omega
  have H1 := H.bel hb
  have x0 : w1.cell? ⟨w.heap.size, 0, none⟩ = some (.int .i64 W) := by rw [(bcell hb).1 _ _ (by simp; omega)]; go_simp
  have x1 : w1.cell? ⟨w.heap.size, 1, none⟩ = some (.slice a len cap) := by rw [(bcell hb).1 _ _ (by simp; omega)]; go_simp
  have y0 : w1.cell? ⟨w.heap.size + 1, 0, none⟩ = some (.int .i64 0) := by rw [(bcell hb).1 _ _ (by simp)]; go_simp
  have y1 : w1.cell? ⟨w.heap.size + 1, 1, none⟩ = some (.slice none 0 0) := by rw [(bcell hb).1 _ _ (by simp)]; go_simp
  have yf : ∀ o, w1.frozen? ⟨w.heap.size + 1, o, none⟩ = false := fun o => by rw [(bcell hb).2 _ _ (by simp)]; go_simp
  clear hb H h
  go_wp2_with fail
  have hmk := fun wx => run_make_row' (P := Try.prog) 33 3 (.int .i64 0) 8 Try.underlying33 infoInt rfl .i64 .i64 len (by omega) (by omega) wx
  go_region_held3 (fun W' => W'.cell? ⟨w.heap.size, 0, none⟩ = some (.int .i64 W) ∧ W'.cell? ⟨w.heap.size, 1, none⟩ = some (.slice a len cap))
    (first | go_keep) (fail)
  · go_wp2_with fail
    have M := made1 (n := len) (Wb := W) hz bb1 x0 x1 y0 y1 yf H1 (by omega)
    clear x0 x1 y0 y1 yf H1 hmk bb1 hz
    generalize ((w1.alloc (.cells (madeCells #[.int .i64 0] len) 3)).alloc (.cells #[.int .i64 W, .slice (some ⟨w1.heap.size, 0, none⟩) len len] 35)).drew = W0 at M ⊢
    generalize w1.heap.size + 1 = k2 at M ⊢
    generalize w1.heap.size = g at M ⊢
    have mx0 := M.x0
    go_loopw [21] (fun q wr => ∃ k : Nat, k ≤ len ∧ q = .int .i64 k ∧ W0.grownBy wr (some g) ∧ OwnI wr (w.heap.size + 2) (some ⟨g, 0, none⟩) len len (rowsL (fun i => if i < k then mirI W (xs.getD i 0) W else 0) len)) (fun q _ => len - (intOf q).toNat)
    case atStart => exact ⟨0, Nat.zero_le _, rfl, World.grownBy.refl _ _, by rw [rows_ext (g := fun _ => 0) (fun i _ => if_neg (Nat.not_lt_zero i)), rows_zero]; exact M.own⟩
    case round =>
      obtain ⟨k, hk, rfl, hgr, hown⟩ := hrel
      obtain ⟨wo, rfl⟩ : ∃ wo : World, wo = wr := ⟨_, rfl⟩
      by_cases hlt : k < len
      · obtain ⟨b, off, rfl, hck⟩ := row_at M.row hlt
        have hbg := M.far b off rfl (by omega)
        have hck := hgr.cell hck (by simpa using hbg)
        have hr := hrow.out k hlt
        generalize hx : xs.getD k 0 = x at hck hr
        have hx := Lib.hid hx
        have hs := hown.bel ((Below.refl _ _).drew)
        have hc := own_cell hown hlt
        generalize (rowsL (fun i => if i < k then mirI W (xs.getD i 0) W else 0) len).getD k 0 = zz at hc
        obtain ⟨W2, hW2⟩ : ∃ W2, wo.drew = W2 := ⟨_, rfl⟩
        have q0 : W2.cell? ⟨w.heap.size, 0, none⟩ = some (.int .i64 W) := by rw [← hW2]; exact hgr.cell mx0 (by have := M.hg; simp; omega)
        have q1 : W2.cell? ⟨k2, 1, none⟩ = some (.slice (some ⟨g, 0, none⟩) len len) := by rw [← hW2]; exact hgr.cell M.b1 (by simpa using M.ne)
        have q2 : W2.cell? ⟨g, k, none⟩ = some (.int .i64 zz) := by rw [← hW2]; exact hc
        have q3 : W2.frozen? ⟨g, k, none⟩ = false := by rw [← hW2]; exact hown.frozen k
        have hgr3 : W0.grownBy W2 (some g) := by rw [← hW2]; exact ⟨hgr.os, hgr.tape, hgr.output, hgr.size, hgr.block⟩
        rw [hW2] at hs
        have hgr4 := grown_set (j := k) (v := .int .i64 (mirI W x W)) hgr3
        have hs := hs.set k (mirI W x W)
        rw [rows_step (fun i => mirI W (xs.getD i 0) W) (fun _ => 0) hlt (by rw [hx.out])] at hs
        have hs4 := Lib.hid hs
        have hgr5 := Lib.hid hgr4
        clear hgr4 hs
        have hmir := mir_num (x := x) (k := W) (by omega) hr.1 hr.2.1 hr.2.2
        have hrv := rv_bd hr.1 hr.2.2
        have hmf := mir_full W (by omega) x.toNat (by omega)
        rw [Int.toNat_of_nonneg hr.1] at hmf
        have hu : IntKind.u64.wrap x = x := IntWalk.u64_in x ⟨by omega, by omega⟩
        have hsh : (64 - (W : Int)).toNat = 64 - W := by omega
        have ev : IntKind.i64.wrap (64 - (W : Int)) = 64 - (W : Int) := IntWalk.i64_in _ ⟨by omega, by omega⟩
        have ev2 : IntKind.i64.wrap (mirI W x W) = mirI W x W := IntWalk.i64_in _ ⟨by omega, by omega⟩
        have hs0 : (0 : Int) ≤ 64 - (W : Int) := by omega
        have hs1 : (64 : Int) - (W : Int) < 64 := by omega
        go_wp2_with fail
        refine region_tail 12 (by kernel_rfl) (by kernel_rfl) W2 hW2 ?_
        simp only [List.take_succ_cons, List.take_zero, List.drop_succ_cons, List.drop_zero]
        clear hW2 hc hgr3 hgr hown hck
        repeat (first | still_step | still_call (st (rev_any _ _ (by omega) (by omega))))
        refine wpStill_nil ?_
        go_wp2_with fail
        exact ⟨⟨k + 1, by omega, by go_num, hgr5.out, hs4.out⟩, by simp [intOf]; omega⟩
      · have : k = len := by omega
        subst this
        rw [rows_ext (g := fun i => mirI W (xs.getD i 0) W) (fun i hi => if_pos hi)] at hown
        have z0 := hgr.cell M.b0 (by simpa using M.ne)
        have z1 := hgr.cell M.b1 (by simpa using M.ne)
        have u0 := hgr.cell M.y0 (by have := M.hg; simp; omega)
        have u1 := hgr.cell M.y1 (by have := M.hg; simp; omega)
        have uf : ∀ o, wo.frozen? ⟨w.heap.size + 1, o, none⟩ = false := fun o => (World.frozen?_of_block (a := ⟨w.heap.size + 1, o, none⟩) (hgr.block (w.heap.size + 1) (show w.heap.size + 1 < W0.heap.size from block_lt M.y0) (by have := M.hg; simp; omega))).trans (M.yf o)
        have bb : Below w.heap.size w wo := M.bel.trans ((grown_below hgr).mono (by have := M.hg; have := M.bel.size; omega))
        have hgr := Lib.hid hgr
        have hown := Lib.hid hown
        go_wp2_with fail
        refine bodyPost_ret (v := .tuple #[.agg #[.int .i64 W, .slice (some ⟨g, 0, none⟩) k k], .bool true]) (by simp [results, Try.results36, go_sem, u0, u1]) rfl ?_
        refine ⟨⟨some ⟨g, 0, none⟩, k, by rw [rows_len], ?_⟩, (bb.setCell (by simp) _).setCell (by simp) _⟩
        show OwnI _ _ _ (rowsL _ k).length _ _
        rw [rows_len]
        exact ((hown.out.store (by simp) _).store (by simp) _).mono (by omega)
  · go_wp2_with fail
    have M := made2 (n := len) (Wb := W) hz bb1 x0 x1 y0 y1 yf H1 (by omega)
    clear x0 x1 y0 y1 yf H1 hmk bb1 hz
    generalize ((w1.alloc (.cells #[.int .i64 W, .slice (some ⟨w1.heap.size + 1, 0, none⟩) len len] 35)).alloc (.cells (madeCells #[.int .i64 0] len) 3)).drew = W0 at M ⊢
    generalize w1.heap.size + 1 = g at M ⊢
    generalize w1.heap.size = k2 at M ⊢
    have mx0 := M.x0
    go_loopw [21] (fun q wr => ∃ k : Nat, k ≤ len ∧ q = .int .i64 k ∧ W0.grownBy wr (some g) ∧ OwnI wr (w.heap.size + 2) (some ⟨g, 0, none⟩) len len (rowsL (fun i => if i < k then mirI W (xs.getD i 0) W else 0) len)) (fun q _ => len - (intOf q).toNat)
    case atStart => exact ⟨0, Nat.zero_le _, rfl, World.grownBy.refl _ _, by rw [rows_ext (g := fun _ => 0) (fun i _ => if_neg (Nat.not_lt_zero i)), rows_zero]; exact M.own⟩
    case round =>
      obtain ⟨k, hk, rfl, hgr, hown⟩ := hrel
      obtain ⟨wo, rfl⟩ : ∃ wo : World, wo = wr := ⟨_, rfl⟩
      by_cases hlt : k < len
      · obtain ⟨b, off, rfl, hck⟩ := row_at M.row hlt
        have hbg := M.far b off rfl (by omega)
        have hck := hgr.cell hck (by simpa using hbg)
        have hr := hrow.out k hlt
        generalize hx : xs.getD k 0 = x at hck hr
        have hx := Lib.hid hx
        have hs := hown.bel ((Below.refl _ _).drew)
        have hc := own_cell hown hlt
        generalize (rowsL (fun i => if i < k then mirI W (xs.getD i 0) W else 0) len).getD k 0 = zz at hc
        obtain ⟨W2, hW2⟩ : ∃ W2, wo.drew = W2 := ⟨_, rfl⟩
        have q0 : W2.cell? ⟨w.heap.size, 0, none⟩ = some (.int .i64 W) := by rw [← hW2]; exact hgr.cell mx0 (by have := M.hg; simp; omega)
        have q1 : W2.cell? ⟨k2, 1, none⟩ = some (.slice (some ⟨g, 0, none⟩) len len) := by rw [← hW2]; exact hgr.cell M.b1 (by simpa using M.ne)
        have q2 : W2.cell? ⟨g, k, none⟩ = some (.int .i64 zz) := by rw [← hW2]; exact hc
        have q3 : W2.frozen? ⟨g, k, none⟩ = false := by rw [← hW2]; exact hown.frozen k
        have hgr3 : W0.grownBy W2 (some g) := by rw [← hW2]; exact ⟨hgr.os, hgr.tape, hgr.output, hgr.size, hgr.block⟩
        rw [hW2] at hs
        have hgr4 := grown_set (j := k) (v := .int .i64 (mirI W x W)) hgr3
        have hs := hs.set k (mirI W x W)
        rw [rows_step (fun i => mirI W (xs.getD i 0) W) (fun _ => 0) hlt (by rw [hx.out])] at hs
        have hs4 := Lib.hid hs
        have hgr5 := Lib.hid hgr4
        clear hgr4 hs
        have hmir := mir_num (x := x) (k := W) (by omega) hr.1 hr.2.1 hr.2.2
        have hrv := rv_bd hr.1 hr.2.2
        have hmf := mir_full W (by omega) x.toNat (by omega)
        rw [Int.toNat_of_nonneg hr.1] at hmf
        have hu : IntKind.u64.wrap x = x := IntWalk.u64_in x ⟨by omega, by omega⟩
        have hsh : (64 - (W : Int)).toNat = 64 - W := by omega
        have ev : IntKind.i64.wrap (64 - (W : Int)) = 64 - (W : Int) := IntWalk.i64_in _ ⟨by omega, by omega⟩
        have ev2 : IntKind.i64.wrap (mirI W x W) = mirI W x W := IntWalk.i64_in _ ⟨by omega, by omega⟩
        have hs0 : (0 : Int) ≤ 64 - (W : Int) := by omega
        have hs1 : (64 : Int) - (W : Int) < 64 := by omega
        go_wp2_with fail
        refine region_tail 12 (by kernel_rfl) (by kernel_rfl) W2 hW2 ?_
        simp only [List.take_succ_cons, List.take_zero, List.drop_succ_cons, List.drop_zero]
        clear hW2 hc hgr3 hgr hown hck
        repeat (first | still_step | still_call (st (rev_any _ _ (by omega) (by omega))))
        refine wpStill_nil ?_
        go_wp2_with fail
        exact ⟨⟨k + 1, by omega, by go_num, hgr5.out, hs4.out⟩, by simp [intOf]; omega⟩
      · have : k = len := by omega
        subst this
        rw [rows_ext (g := fun i => mirI W (xs.getD i 0) W) (fun i hi => if_pos hi)] at hown
        have z0 := hgr.cell M.b0 (by simpa using M.ne)
        have z1 := hgr.cell M.b1 (by simpa using M.ne)
        have u0 := hgr.cell M.y0 (by have := M.hg; simp; omega)
        have u1 := hgr.cell M.y1 (by have := M.hg; simp; omega)
        have uf : ∀ o, wo.frozen? ⟨w.heap.size + 1, o, none⟩ = false := fun o => (World.frozen?_of_block (a := ⟨w.heap.size + 1, o, none⟩) (hgr.block (w.heap.size + 1) (show w.heap.size + 1 < W0.heap.size from block_lt M.y0) (by have := M.hg; simp; omega))).trans (M.yf o)
        have bb : Below w.heap.size w wo := M.bel.trans ((grown_below hgr).mono (by have := M.hg; have := M.bel.size; omega))
        have hgr := Lib.hid hgr
        have hown := Lib.hid hown
        go_wp2_with fail
        refine bodyPost_ret (v := .tuple #[.agg #[.int .i64 W, .slice (some ⟨g, 0, none⟩) k k], .bool true]) (by simp [results, Try.results36, go_sem, u0, u1]) rfl ?_
        refine ⟨⟨some ⟨g, 0, none⟩, k, by rw [rows_len], ?_⟩, (bb.setCell (by simp) _).setCell (by simp) _⟩
        show OwnI _ _ _ (rowsL _ k).length _ _
        rw [rows_len]
        exact ((hown.out.store (by simp) _).store (by simp) _).mono (by omega)
end Go.Proofs.Ytemmfnlnhekclaa

namespace Go.Proofs.Ytemmfnlnhekclaa
set_option maxRecDepth 100000
open Go.RowKit

/-- What stands when a function has copied its argument: as Made, with the copy's row and its capacity. -/
structure Copied (w W0 : World) (g k2 : Nat) (WA : Int) (a : Option Addr) (len cap : Nat) (xs : List Int) (Wb : Int) (n c : Nat) (ys : List Int) : Prop where
  x0 : W0.cell? ⟨w.heap.size, 0, none⟩ = some (.int .i64 WA)
  x1 : W0.cell? ⟨w.heap.size, 1, none⟩ = some (.slice a len cap)
  y0 : W0.cell? ⟨w.heap.size + 1, 0, none⟩ = some (.int .i64 0)
  y1 : W0.cell? ⟨w.heap.size + 1, 1, none⟩ = some (.slice none 0 0)
  yf : ∀ o, W0.frozen? ⟨w.heap.size + 1, o, none⟩ = false
  b0 : W0.cell? ⟨k2, 0, none⟩ = some (.int .i64 Wb)
  b1 : W0.cell? ⟨k2, 1, none⟩ = some (.slice (some ⟨g, 0, none⟩) n c)
  row : Row W0 a len xs
  own : OwnI W0 (w.heap.size + 2) (some ⟨g, 0, none⟩) n c ys
  bel : Below w.heap.size w W0
  ne : k2 ≠ g
  far : ∀ b off, a = some ⟨b, off, none⟩ → 0 < len → b ≠ g
  hg : w.heap.size + 2 ≤ g
  hk : w.heap.size + 2 ≤ k2

theorem Made.of_copy {w w1 w2 : World} {WA Wb : Int} {a : Option Addr} {len cap n g c : Nat} {xs ys : List Int} (hz : w.heap.size + 1 < w1.heap.size) (bb : Below w.heap.size w w1)
    (x0 : w1.cell? ⟨w.heap.size, 0, none⟩ = some (.int .i64 WA)) (x1 : w1.cell? ⟨w.heap.size, 1, none⟩ = some (.slice a len cap)) (y0 : w1.cell? ⟨w.heap.size + 1, 0, none⟩ = some (.int .i64 0)) (y1 : w1.cell? ⟨w.heap.size + 1, 1, none⟩ = some (.slice none 0 0)) (yf : ∀ o, w1.frozen? ⟨w.heap.size + 1, o, none⟩ = false) (h : Row w1 a len xs)
    (hb : Below w1.heap.size w1 w2) (hg : w1.heap.size ≤ g) (ho : OwnI w2 w1.heap.size (some ⟨g, 0, none⟩) n c ys) :
    Copied w (w2.alloc (.cells #[.int .i64 Wb, .slice (some ⟨g, 0, none⟩) n c] 35)) g w2.heap.size WA a len cap xs Wb n c ys := by
  have hB : Below w1.heap.size w1 (w2.alloc (.cells #[.int .i64 Wb, .slice (some ⟨g, 0, none⟩) n c] 35)) := hb.alloc hb.size _
  have hs := hb.size
  have hgl : g < w2.heap.size := by
    rcases ho.cases with ⟨e, _⟩ | ⟨g', e, _, h3⟩
    · cases e
    · simp only [Option.some.injEq, Addr.mk.injEq, and_true] at e; omega
  exact ⟨kept hB (show _ < _ by simp; omega) x0, kept hB (show _ < _ by simp; omega) x1, kept hB (by simpa using hz) y0, kept hB (by simpa using hz) y1, fun o => (hB.frozen (by simpa using hz)).trans (yf o), by go_simp, by go_simp, h.bel hB,
    (ho.mono (by omega)).bel ((Below.refl _ _).alloc (Nat.le_refl _) _), bb.trans (hB.mono (by omega)), by omega, row_far h hg, by omega, by omega⟩

end Go.Proofs.Ytemmfnlnhekclaa

namespace Go.Proofs.Ytemmfnlnhekclaa
set_option maxRecDepth 100000
open Go.RowKit

theorem mg_zero (xs : List Int) (W k len : Nat) : rowsL (fun i => if i < k then mirI W (xs.getD i 0) W else if i = k then mirI W (xs.getD i 0) 0 else 0) len = rowsL (fun i => if i < k then mirI W (xs.getD i 0) W else 0) len := by
  apply rows_ext
  intro i _
  by_cases h : i < k
  · rw [if_pos h, if_pos h]
  · rw [if_neg h, if_neg h]; by_cases e : i = k
    · rw [if_pos e]; rfl
    · rw [if_neg e]
theorem mg_full (xs : List Int) (W k len : Nat) : rowsL (fun i => if i < k then mirI W (xs.getD i 0) W else if i = k then mirI W (xs.getD i 0) W else 0) len = rowsL (fun i => if i < (k + 1) then mirI W (xs.getD i 0) W else 0) len := by
  apply rows_ext
  intro i _
  by_cases h : i < k
  · rw [if_pos h, if_pos (by omega)]
  · rw [if_neg h]; by_cases e : i = k
    · rw [if_pos e, if_pos (by omega)]
    · rw [if_neg e, if_neg (by omega)]
theorem mg_get (xs : List Int) {W k j len : Nat} (hk : k < len) : (rowsL (fun i => if i < k then mirI W (xs.getD i 0) W else if i = k then mirI W (xs.getD i 0) j else 0) len).getD k 0 = mirI W (xs.getD k 0) j := by
  rw [rows_get _ hk, if_neg (by omega), if_pos rfl]
theorem mg_set (xs : List Int) {W k j len : Nat} (hk : k < len) : (rowsL (fun i => if i < k then mirI W (xs.getD i 0) W else if i = k then mirI W (xs.getD i 0) j else 0) len).set k (mirI W (xs.getD k 0) (j + 1)) = rowsL (fun i => if i < k then mirI W (xs.getD i 0) W else if i = k then mirI W (xs.getD i 0) (j + 1) else 0) len := by
  refine rows_set _ _ hk ?_ ?_
  · show (if k < k then _ else if k = k then _ else _) = _
    rw [if_neg (by omega), if_pos rfl]
  · intro i _ hne
    show (if i < k then _ else if i = k then _ else _) = (if i < k then _ else if i = k then _ else _)
    rw [if_neg hne, if_neg hne]

end Go.Proofs.Ytemmfnlnhekclaa

namespace Go.Proofs.Ytemmfnlnhekclaa
set_option maxRecDepth 100000
open Go.RowKit

def putOut (W : Int) (xs : List Int) (i j : Int) (set : Bool) : Out :=
  if validB W xs = true ∧ cellB W xs.length i j = true then ⟨true, W, xs.set i.toNat (putI (xs.getD i.toNat 0) j.toNat set)⟩ else .no
theorem putOut_small (W : Int) (xs : List Int) (i j : Int) (set : Bool) (hl : xs.length ≤ 1048576) : (putOut W xs i j set).xs.length ≤ 1048576 := by
  unfold putOut
  by_cases h : validB W xs = true ∧ cellB W xs.length i j = true
  · rw [if_pos h]; simpa using hl
  · rw [if_neg h]; simp [Out.no]
theorem orput_nat : ∀ j, j < 6 → ∀ n, n < 64 → bits BinOp.or IntKind.i64 ((n : Nat) : Int) (pw j) = putI n j true ∧ bits BinOp.andNot IntKind.i64 ((n : Nat) : Int) (pw j) = putI n j false := by decide +kernel
theorem orput {x : Int} {j : Nat} (hj : j < 6) (h0 : 0 ≤ x) (h1 : x ≤ 63) : bits BinOp.or IntKind.i64 x (pw j) = putI x j true ∧ bits BinOp.andNot IntKind.i64 x (pw j) = putI x j false := by
  obtain ⟨n, rfl⟩ := Int.eq_ofNat_of_zero_le h0
  exact orput_nat j hj n (by omega)

end Go.Proofs.Ytemmfnlnhekclaa

namespace Go.Proofs.Ytemmfnlnhekclaa
set_option maxRecDepth 100000
open Go.RowKit

theorem keep_of {w1 W' : World} {p0 p1 : Addr} {u0 u1 : Value} {b off len : Nat} {xs : List Int} (x0 : w1.cell? p0 = some u0) (x1 : w1.cell? p1 = some u1) (hr : ∀ i, i < len → w1.cell? ⟨b, off + i, none⟩ = some (.int .i64 (xs.getD i 0))) (hb : Below w1.heap.size w1 W') :
    W'.cell? p0 = some u0 ∧ W'.cell? p1 = some u1 ∧ (∀ i, i < len → W'.cell? ⟨b, off + i, none⟩ = some (.int .i64 (xs.getD i 0))) :=
  ⟨kept hb (block_lt x0) x0, kept hb (block_lt x1) x1, fun i hi => kept hb (block_lt (hr i hi)) (hr i hi)⟩

theorem wrap_pow : ∀ j, j < 6 → wrap64 (2 ^ j) = pw j ∧ IntKind.i64.wrap (2 ^ j) = pw j := by decide +kernel
theorem Made.of_copy2 {w w1 w2 : World} {WA Wb : Int} {a : Option Addr} {len cap n g c : Nat} {xs ys : List Int} (hz : w.heap.size + 1 < w1.heap.size) (bb : Below w.heap.size w w1)
    (x0 : w1.cell? ⟨w.heap.size, 0, none⟩ = some (.int .i64 WA)) (x1 : w1.cell? ⟨w.heap.size, 1, none⟩ = some (.slice a len cap)) (y0 : w1.cell? ⟨w.heap.size + 1, 0, none⟩ = some (.int .i64 0)) (y1 : w1.cell? ⟨w.heap.size + 1, 1, none⟩ = some (.slice none 0 0)) (yf : ∀ o, w1.frozen? ⟨w.heap.size + 1, o, none⟩ = false) (h : Row w1 a len xs)
    (hb : Below (w1.heap.size + 1) (w1.alloc (.cells #[.int .i64 0, .slice none 0 0] 35)).drew w2) (hg : w1.heap.size + 1 ≤ g) (ho : OwnI w2 (w1.heap.size + 1) (some ⟨g, 0, none⟩) n c ys) :
    Copied w ((w2.setCell ⟨w1.heap.size, 0, none⟩ (.int .i64 Wb)).setCell ⟨w1.heap.size, 1, none⟩ (.slice (some ⟨g, 0, none⟩) n c)) g w1.heap.size WA a len cap xs Wb n c ys := by
  have z0 : w2.cell? ⟨w1.heap.size, 0, none⟩ = some (.int .i64 0) := kept hb (by simp) (by simp)
  have z1 : w2.cell? ⟨w1.heap.size, 1, none⟩ = some (.slice none 0 0) := kept hb (by simp) (by simp)
  have hB : Below w1.heap.size w1 ((w2.setCell ⟨w1.heap.size, 0, none⟩ (.int .i64 Wb)).setCell ⟨w1.heap.size, 1, none⟩ (.slice (some ⟨g, 0, none⟩) n c)) :=
    (((((Below.refl _ _).alloc (Nat.le_refl _) _).drew).trans (hb.mono (by omega))).setCell (by simp) _).setCell (by simp) _
  have z1' : (w2.setCell ⟨w1.heap.size, 0, none⟩ (.int .i64 Wb)).cell? ⟨w1.heap.size, 1, none⟩ = some (.slice none 0 0) := by rw [World.cell?_setCell_other _ _ _ _ (by simp)]; exact z1
  exact ⟨kept hB (show _ < _ by simp; omega) x0, kept hB (show _ < _ by simp; omega) x1, kept hB (by simpa using hz) y0, kept hB (by simpa using hz) y1, fun o => (hB.frozen (by simpa using hz)).trans (yf o),
    by rw [World.cell?_setCell_other _ _ _ _ (by simp)]; exact World.cell?_setCell_same _ _ _ z0, World.cell?_setCell_same _ _ _ z1', h.bel hB,
    ((ho.store (by simp) _).store (by simp) _).mono (by omega), bb.trans (hB.mono (by omega)), by omega, row_far h (by omega), by omega, by omega⟩

set_option maxHeartbeats 1000000 in
theorem put_impl (W : Int) (a : Option Addr) (len cap : Nat) (xs : List Int) (i j : Int) (set : Bool) (w : World) (h : Row w a len xs) (hm : len ≤ 9223372036854775807) :
    Calls Try.prog 34 #[.agg #[.int .i64 W, .slice a len cap], .int .i64 i, .int .i64 j, .bool set] w (Gives w (putOut W xs i j set)) := by
  have hl := h.1
  have H := (h.alloc (.cells #[.int .i64 W, .slice a len cap] 35)).alloc (.cells #[.int .i64 0, .slice none 0 0] 35)
  by_cases hv : validB W xs = true
  case neg =>
    rw [show putOut W xs i j set = .no from if_neg (fun h => hv h.1)]
    have hv : validB W xs = false := by simpa using hv
    go_enter Try.func34, Try.ntmps34
    go_wp2_with fail
    refine (valid_impl _ _ _ _ xs _ H hm).mono ?_
    rintro e w1 ⟨rfl, hb⟩
    obtain ⟨hc1, hf1⟩ := bcell hb
    have bb1 : Below w.heap.size w w1 := (((Below.refl _ _).alloc (Nat.le_refl _) _).alloc (by simp) _).trans (hb.mono (by simp; omega))
    go_wp2_with fail
    refine bodyPost_ret (v := .tuple #[.agg #[.int .i64 0, .slice none 0 0], .bool false]) (by simp [results, Try.results34, go_sem, hc1]) rfl ?_
    exact ⟨⟨none, 0, rfl, own_nil _ _⟩, (bb1.setCell (by simp) _).setCell (by simp) _⟩
  have hW := validB_W hv
  have hL := validB_len hv
  by_cases hc : cellB W len i j = true
  case neg =>
    rw [show putOut W xs i j set = .no from if_neg (fun h => hc (by rw [← hl]; exact h.2))]
    have hc : cellB W len i j = false := by simpa using hc
    go_enter Try.func34, Try.ntmps34
    go_wp2_with fail
    refine (valid_impl _ _ _ _ xs _ H hm).mono ?_
    rintro e w1 ⟨rfl, hb⟩
    have bb1 : Below w.heap.size w w1 := (((Below.refl _ _).alloc (Nat.le_refl _) _).alloc (by simp) _).trans (hb.mono (by simp; omega))
    have hz : w.heap.size + 1 < w1.heap.size := by have := hb.size; simp at this; omega
    have x0 : w1.cell? ⟨w.heap.size, 0, none⟩ = some (.int .i64 W) := by rw [(bcell hb).1 _ _ (by simp; omega)]; go_simp
    have x1 : w1.cell? ⟨w.heap.size, 1, none⟩ = some (.slice a len cap) := by rw [(bcell hb).1 _ _ (by simp; omega)]; go_simp
    have y0 : w1.cell? ⟨w.heap.size + 1, 0, none⟩ = some (.int .i64 0) := by rw [(bcell hb).1 _ _ (by simp)]; go_simp
    have y1 : w1.cell? ⟨w.heap.size + 1, 1, none⟩ = some (.slice none 0 0) := by rw [(bcell hb).1 _ _ (by simp)]; go_simp
    have yf : ∀ o, w1.frozen? ⟨w.heap.size + 1, o, none⟩ = false := fun o => by rw [(bcell hb).2 _ _ (by simp)]; go_simp
    clear hb
    go_wp2_with fail
    refine (inside_any _ _ _ _ _ _ _).mono ?_
    rintro e w2 ⟨rfl, hb⟩
    have y0 := kept hb (block_lt y0) y0
    have y1 := kept hb (block_lt y1) y1
    have yf : ∀ o, w2.frozen? ⟨w.heap.size + 1, o, none⟩ = false := fun o => (hb.frozen (p := ⟨w.heap.size + 1, o, none⟩) hz).trans (yf o)
    have bb2 := bb1.trans (hb.mono bb1.size)
    clear hb
    go_wp2_with fail
    refine bodyPost_ret (v := .tuple #[.agg #[.int .i64 0, .slice none 0 0], .bool false]) (by simp [results, Try.results34, go_sem, y0, y1]) rfl ?_
    exact ⟨⟨none, 0, rfl, own_nil _ _⟩, (bb2.setCell (by simp) _).setCell (by simp) _⟩
  rw [show putOut W xs i j set = ⟨true, W, xs.set i.toNat (putI (xs.getD i.toNat 0) j.toNat set)⟩ from if_pos ⟨hv, by rw [hl]; exact hc⟩]
  have hcc := cellB_iff.1 hc
  obtain ⟨i, rfl⟩ := Int.eq_ofNat_of_zero_le (by omega : 0 ≤ i)
  obtain ⟨j, rfl⟩ := Int.eq_ofNat_of_zero_le (by omega : 0 ≤ j)
  rw [Int.toNat_natCast, Int.toNat_natCast]
  have hr := validB_row hv (i := i) (by omega)
  go_enter Try.func34, Try.ntmps34
  go_wp2_with fail
  refine (valid_impl _ _ _ _ xs _ H hm).mono ?_
  rintro e w1 ⟨rfl, hb⟩
  have bb1 : Below w.heap.size w w1 := (((Below.refl _ _).alloc (Nat.le_refl _) _).alloc (by simp) _).trans (hb.mono (by simp; omega))
  have hz : w.heap.size + 1 < w1.heap.size := by have := hb.size; simp at this; omega
  have H1 := H.bel hb
  have x0 : w1.cell? ⟨w.heap.size, 0, none⟩ = some (.int .i64 W) := by rw [(bcell hb).1 _ _ (by simp; omega)]; go_simp
  have x1 : w1.cell? ⟨w.heap.size, 1, none⟩ = some (.slice a len cap) := by rw [(bcell hb).1 _ _ (by simp; omega)]; go_simp
  have y0 : w1.cell? ⟨w.heap.size + 1, 0, none⟩ = some (.int .i64 0) := by rw [(bcell hb).1 _ _ (by simp)]; go_simp
  have y1 : w1.cell? ⟨w.heap.size + 1, 1, none⟩ = some (.slice none 0 0) := by rw [(bcell hb).1 _ _ (by simp)]; go_simp
  have yf : ∀ o, w1.frozen? ⟨w.heap.size + 1, o, none⟩ = false := fun o => by rw [(bcell hb).2 _ _ (by simp)]; go_simp
  clear hb H h
  go_wp2_with fail
  refine (inside_any _ _ _ _ _ _ _).mono ?_
  rintro e w1b ⟨rfl, hb⟩
  have x0 := kept hb (block_lt x0) x0
  have x1 := kept hb (block_lt x1) x1
  have y0 := kept hb (block_lt y0) y0
  have y1 := kept hb (block_lt y1) y1
  have yf : ∀ o, w1b.frozen? ⟨w.heap.size + 1, o, none⟩ = false := fun o => (hb.frozen (p := ⟨w.heap.size + 1, o, none⟩) hz).trans (yf o)
  have bb1 := bb1.trans (hb.mono bb1.size)
  have hz : w.heap.size + 1 < w1b.heap.size := by have := hb.size; omega
  have H1 := H1.bel hb
  clear hb
  go_wp2_with fail
  refine (icopy_any W a len cap xs _ H1 (by omega) (by omega)).mono ?_
  rintro e w2 ⟨⟨ac, cc, rfl, ho⟩, hb2⟩
  · rcases ho.cases with ⟨_, h0, _⟩ | ⟨g, rfl, hg, _⟩
    · omega
    have M := Made.of_copy (Wb := W) hz bb1 x0 x1 y0 y1 yf H1 hb2 hg ho
    cases set with
    | false =>
      go_wp2_with fail
      clear x0 x1 y0 y1 yf H1 bb1 hz hg hb2 ho
      generalize w2.alloc (.cells #[.int .i64 W, .slice (some ⟨g, 0, none⟩) len cc] 35) = W0 at M ⊢
      generalize w2.heap.size = k2 at M ⊢
      have hput := orput (x := xs.getD i 0) (j := j) (by omega) hr.1 hr.2.2
      have hd := own_cell M.own (i := i) (by omega)
      have hpj : pw j ≤ 64 := by have := pw_le j 6 (by omega); have e : pw 6 = 64 := by decide
                                 omega
      have hpp := pw_pos j
      have hj6 : j < 6 := by omega
      generalize hx : xs.getD i 0 = x at hput hd hr
      have hx := Lib.hid hx
      obtain ⟨W2, hW2⟩ : ∃ W2, W0.drew = W2 := ⟨_, rfl⟩
      have hB2 : Below W0.heap.size W0 W2 := by rw [← hW2]; exact (Below.refl _ _).drew
      have q1 := kept hB2 (block_lt M.b1) M.b1
      have q2 := kept hB2 (block_lt hd) hd
      have hO := M.own.bel hB2
      have q3 := hO.frozen i
      have bb2 : Below w.heap.size w W2 := M.bel.trans (hB2.mono M.bel.size)
      have hy := M.ne
      have hgg := M.hg
      have ub0 := kept hB2 (block_lt M.b0) M.b0
      have u0 := kept hB2 (block_lt M.y0) M.y0
      have u1 := kept hB2 (block_lt M.y1) M.y1
      have uf : ∀ o, W2.frozen? ⟨w.heap.size + 1, o, none⟩ = false := fun o => (hB2.frozen (p := ⟨w.heap.size + 1, o, none⟩) (show w.heap.size + 1 < W0.heap.size from block_lt M.y0)).trans (M.yf o)
      have ng : w.heap.size + 1 ≠ g := by omega
      clear hB2 M hd
      have hs := hO.set i (putI x j false)
      obtain ⟨W3, hW3⟩ : ∃ W3, W2.setCell ⟨g, i, none⟩ (.int .i64 (putI x j false)) = W3 := ⟨_, rfl⟩
      rw [hW3] at hs
      have r1 : W3.cell? ⟨k2, 0, none⟩ = some (.int .i64 W) := by rw [← hW3, World.cell?_setCell_other _ _ _ _ (by first | (simp; done) | (simp; omega))]; exact ub0
      have r2 : W3.cell? ⟨k2, 1, none⟩ = some (.slice (some ⟨g, 0, none⟩) len cc) := by rw [← hW3, World.cell?_setCell_other _ _ _ _ (by first | (simp; done) | (simp; omega))]; exact q1
      have r3 : W3.cell? ⟨w.heap.size + 1, 0, none⟩ = some (.int .i64 0) := by rw [← hW3, World.cell?_setCell_other _ _ _ _ (by first | (simp; done) | (simp; omega))]; exact u0
      have r4 : W3.cell? ⟨w.heap.size + 1, 1, none⟩ = some (.slice none 0 0) := by rw [← hW3, World.cell?_setCell_other _ _ _ _ (by first | (simp; done) | (simp; omega))]; exact u1
      have r5 : ∀ o, W3.frozen? ⟨w.heap.size + 1, o, none⟩ = false := fun o => by rw [← hW3]; exact (World.frozen?_of_block (a := ⟨w.heap.size + 1, o, none⟩) (Below.heap_setCell _ _ _ _ (by simpa using ng))).trans (uf o)
      have bb3 : Below w.heap.size w W3 := by rw [← hW3]; exact bb2.setCell (show w.heap.size ≤ g by omega) _
      have hp := hput.2
      have hs := Lib.hid hs
      have hW3 := Lib.hid hW3
      have bb3 := Lib.hid bb3
      have hj0 : (0 : Int) ≤ (j : Int) := Int.natCast_nonneg _
      have hj7 : (j : Int) < 64 := by omega
      have ew := (wrap_pow j hj6).1
      have ev := (wrap_pow j hj6).2
      clear hput hO bb2
      refine region_tail 9 (by kernel_rfl) (by kernel_rfl) W2 hW2 ?_
      simp only [List.take_succ_cons, List.take_zero, List.drop_succ_cons, List.drop_zero]
      clear hW2 hr
      repeat still_step
      refine wpStill_nil ?_
      go_wp2_with fail
      refine bodyPost_ret (v := .tuple #[.agg #[.int .i64 W, .slice (some ⟨g, 0, none⟩) len cc], .bool true]) (by simp [results, Try.results34, go_sem, r3, r4]) rfl ?_
      refine ⟨⟨some ⟨g, 0, none⟩, cc, by rw [List.length_set, hl], ?_⟩, (bb3.out.setCell (by simp) _).setCell (by simp) _⟩
      show OwnI _ _ _ (xs.set i _).length _ (xs.set i _)
      rw [List.length_set, hl, hx.out]
      exact ((hs.out.store (by simp) _).store (by simp) _).mono (by omega)
    | true =>
      go_wp2_with fail
      clear x0 x1 y0 y1 yf H1 bb1 hz hg hb2 ho
      generalize w2.alloc (.cells #[.int .i64 W, .slice (some ⟨g, 0, none⟩) len cc] 35) = W0 at M ⊢
      generalize w2.heap.size = k2 at M ⊢
      have hput := orput (x := xs.getD i 0) (j := j) (by omega) hr.1 hr.2.2
      have hd := own_cell M.own (i := i) (by omega)
      have hpj : pw j ≤ 64 := by have := pw_le j 6 (by omega); have e : pw 6 = 64 := by decide
                                 omega
      have hpp := pw_pos j
      have hj6 : j < 6 := by omega
      generalize hx : xs.getD i 0 = x at hput hd hr
      have hx := Lib.hid hx
      obtain ⟨W2, hW2⟩ : ∃ W2, W0.drew = W2 := ⟨_, rfl⟩
      have hB2 : Below W0.heap.size W0 W2 := by rw [← hW2]; exact (Below.refl _ _).drew
      have q1 := kept hB2 (block_lt M.b1) M.b1
      have q2 := kept hB2 (block_lt hd) hd
      have hO := M.own.bel hB2
      have q3 := hO.frozen i
      have bb2 : Below w.heap.size w W2 := M.bel.trans (hB2.mono M.bel.size)
      have hy := M.ne
      have hgg := M.hg
      have ub0 := kept hB2 (block_lt M.b0) M.b0
      have u0 := kept hB2 (block_lt M.y0) M.y0
      have u1 := kept hB2 (block_lt M.y1) M.y1
      have uf : ∀ o, W2.frozen? ⟨w.heap.size + 1, o, none⟩ = false := fun o => (hB2.frozen (p := ⟨w.heap.size + 1, o, none⟩) (show w.heap.size + 1 < W0.heap.size from block_lt M.y0)).trans (M.yf o)
      have ng : w.heap.size + 1 ≠ g := by omega
      clear hB2 M hd
      have hs := hO.set i (putI x j true)
      obtain ⟨W3, hW3⟩ : ∃ W3, W2.setCell ⟨g, i, none⟩ (.int .i64 (putI x j true)) = W3 := ⟨_, rfl⟩
      rw [hW3] at hs
      have r1 : W3.cell? ⟨k2, 0, none⟩ = some (.int .i64 W) := by rw [← hW3, World.cell?_setCell_other _ _ _ _ (by first | (simp; done) | (simp; omega))]; exact ub0
      have r2 : W3.cell? ⟨k2, 1, none⟩ = some (.slice (some ⟨g, 0, none⟩) len cc) := by rw [← hW3, World.cell?_setCell_other _ _ _ _ (by first | (simp; done) | (simp; omega))]; exact q1
      have r3 : W3.cell? ⟨w.heap.size + 1, 0, none⟩ = some (.int .i64 0) := by rw [← hW3, World.cell?_setCell_other _ _ _ _ (by first | (simp; done) | (simp; omega))]; exact u0
      have r4 : W3.cell? ⟨w.heap.size + 1, 1, none⟩ = some (.slice none 0 0) := by rw [← hW3, World.cell?_setCell_other _ _ _ _ (by first | (simp; done) | (simp; omega))]; exact u1
      have r5 : ∀ o, W3.frozen? ⟨w.heap.size + 1, o, none⟩ = false := fun o => by rw [← hW3]; exact (World.frozen?_of_block (a := ⟨w.heap.size + 1, o, none⟩) (Below.heap_setCell _ _ _ _ (by simpa using ng))).trans (uf o)
      have bb3 : Below w.heap.size w W3 := by rw [← hW3]; exact bb2.setCell (show w.heap.size ≤ g by omega) _
      have hp := hput.1
      have hs := Lib.hid hs
      have hW3 := Lib.hid hW3
      have bb3 := Lib.hid bb3
      have hj0 : (0 : Int) ≤ (j : Int) := Int.natCast_nonneg _
      have hj7 : (j : Int) < 64 := by omega
      have ew := (wrap_pow j hj6).1
      have ev := (wrap_pow j hj6).2
      clear hput hO bb2
      refine region_tail 9 (by kernel_rfl) (by kernel_rfl) W2 hW2 ?_
      simp only [List.take_succ_cons, List.take_zero, List.drop_succ_cons, List.drop_zero]
      clear hW2 hr
      repeat still_step
      refine wpStill_nil ?_
      go_wp2_with fail
      refine bodyPost_ret (v := .tuple #[.agg #[.int .i64 W, .slice (some ⟨g, 0, none⟩) len cc], .bool true]) (by simp [results, Try.results34, go_sem, r3, r4]) rfl ?_
      refine ⟨⟨some ⟨g, 0, none⟩, cc, by rw [List.length_set, hl], ?_⟩, (bb3.out.setCell (by simp) _).setCell (by simp) _⟩
      show OwnI _ _ _ (xs.set i _).length _ (xs.set i _)
      rw [List.length_set, hl, hx.out]
      exact ((hs.out.store (by simp) _).store (by simp) _).mono (by omega)
end Go.Proofs.Ytemmfnlnhekclaa

namespace Go.Proofs.Ytemmfnlnhekclaa
set_option maxRecDepth 100000

def sumI (f : Nat → Int) : Nat → Int
  | 0 => 0
  | k + 1 => sumI f k + f k
theorem sum_ext {f g : Nat → Int} {k : Nat} (h : ∀ i, i < k → f i = g i) : sumI f k = sumI g k := by
  induction k with
  | zero => rfl
  | succ k ih => simp only [sumI]; rw [ih fun i hi => h i (by omega), h k (by omega)]
theorem sum_zero (k : Nat) : sumI (fun _ => 0) k = 0 := by
  induction k with
  | zero => rfl
  | succ k ih => simp only [sumI]; rw [ih]; rfl
theorem sum_add (f g : Nat → Int) (k : Nat) : sumI (fun i => f i + g i) k = sumI f k + sumI g k := by
  induction k with
  | zero => rfl
  | succ k ih => simp only [sumI]; rw [ih]; omega
theorem sum_swap (F : Nat → Nat → Int) (k m : Nat) : sumI (fun i => sumI (F i) m) k = sumI (fun j => sumI (fun i => F i j) k) m := by
  induction k with
  | zero => simp only [sumI]; exact (sum_zero m).symm
  | succ k ih => simp only [sumI]; rw [ih, sum_add]
theorem cnt_sum (x : Int) (k : Nat) : cntI x k = sumI (bitI x) k := by
  induction k with
  | zero => rfl
  | succ k ih => simp only [sumI, cntI]; rw [ih]
theorem many_sum (W : Nat) (xs : List Int) (k : Nat) : manyI W xs k = sumI (fun i => sumI (bitI (xs.getD i 0)) W) k := by
  induction k with
  | zero => rfl
  | succ k ih => simp only [sumI, manyI]; rw [ih, cnt_sum]

theorem badd_nat : ∀ k, k < 6 → ∀ c, c < 64 → ((c : Nat) : Int) ≤ pw k - 1 → ∀ i, i < 7 → bitI ((c : Nat) : Int) i = (if i < k then bitI ((c : Nat) : Int) i else 0) ∧ bitI (((c : Nat) : Int) + pw k) i = (if i = k then 1 else bitI ((c : Nat) : Int) i) := by decide +kernel
theorem pw_63 {k : Nat} (hk : k ≤ 6) : pw k ≤ 64 := by
  have := pw_le k 6 hk
  have e : pw 6 = 64 := by decide
  omega
theorem col_bit (xs : List Int) (j k i : Nat) (hk : k ≤ 6) (hi : i ≤ 6) : bitI (colI xs j k) i = if i < k then bitI (xs.getD i 0) j else 0 := by
  induction k with
  | zero => simp [colI, bitI]
  | succ k ih =>
    have ih := ih (by omega)
    have hc := col_bd xs j k
    have hb := bit_01 (xs.getD k 0) j
    have hp := pw_63 (show k ≤ 6 by omega)
    simp only [colI]
    generalize colI xs j k = c at *
    obtain ⟨c, rfl⟩ := Int.eq_ofNat_of_zero_le hc.1
    have hn := badd_nat k (by omega) c (by omega) hc.2 i (by omega)
    rcases (show bitI (xs.getD k 0) j = 0 ∨ bitI (xs.getD k 0) j = 1 by omega) with e | e
    · rw [e, Int.zero_mul, Int.add_zero, ih]
      by_cases h1 : i < k
      · rw [if_pos h1, if_pos (by omega)]
      · rw [if_neg h1]
        by_cases h2 : i = k
        · subst h2; rw [if_pos (by omega), e]
        · rw [if_neg (by omega)]
    · rw [e, Int.one_mul, hn.2, ih]
      by_cases h2 : i = k
      · subst h2; rw [if_pos rfl, if_pos (by omega), e]
      · rw [if_neg h2]
        by_cases h1 : i < k
        · rw [if_pos h1, if_pos (by omega)]
        · rw [if_neg h1, if_neg (by omega)]

def binI (x : Int) : Nat → Int
  | 0 => 0
  | k + 1 => binI x k + bitI x k * pw k
theorem bin_nat : ∀ k, k < 7 → ∀ n, n < 64 → ((n : Nat) : Int) ≤ pw k - 1 → binI ((n : Nat) : Int) k = n := by decide +kernel
theorem bin_num {x : Int} {k : Nat} (hk : k ≤ 6) (h0 : 0 ≤ x) (h1 : x ≤ pw k - 1) : binI x k = x := by
  have := pw_63 hk
  obtain ⟨n, rfl⟩ := Int.eq_ofNat_of_zero_le h0
  exact bin_nat k (by omega) n (by omega) h1
theorem bin_ext {x y : Int} {k : Nat} (h : ∀ i, i < k → bitI x i = bitI y i) : binI x k = binI y k := by
  induction k with
  | zero => rfl
  | succ k ih => simp only [binI]; rw [ih fun i hi => h i (by omega), h k (by omega)]
theorem bits_ext {x y : Int} {k : Nat} (hk : k ≤ 6) (hx : 0 ≤ x ∧ x ≤ pw k - 1) (hy : 0 ≤ y ∧ y ≤ pw k - 1) (h : ∀ i, i < k → bitI x i = bitI y i) : x = y := by
  rw [← bin_num hk hx.1 hx.2, ← bin_num hk hy.1 hy.2]; exact bin_ext h

/-- A valid image of natural sides. -/
structure Im (W len : Nat) (xs : List Int) : Prop where
  w1 : 1 ≤ W
  w6 : W ≤ 6
  l1 : 1 ≤ len
  l6 : len ≤ 6
  hl : xs.length = len
  row : ∀ i, i < len → 0 ≤ xs.getD i 0 ∧ xs.getD i 0 ≤ pw W - 1
theorem Im.valid {W len : Nat} {xs : List Int} (h : Im W len xs) : validB W xs = true := by
  refine validB_yes (inB_yes (by have := h.w1; omega) (by have := h.w6; omega)) (inB_yes (by have := h.hl; have := h.l1; omega) (by have := h.hl; have := h.l6; omega)) fun i hi => ?_
  have := h.row i (by have := h.hl; omega)
  exact inB_yes this.1 (by simpa using this.2)
theorem Im.of {W len : Nat} {xs : List Int} (hv : validB W xs = true) (hl : xs.length = len) : Im W len xs := by
  have hW := validB_W hv
  have hL := validB_len hv
  exact ⟨by omega, by omega, by omega, by omega, hl, fun i hi => by have := validB_row hv (i := i) (by omega); rw [Int.toNat_natCast] at this; exact ⟨this.1, this.2.1⟩⟩
theorem Im.ext {W len : Nat} {xs ys : List Int} (h : Im W len xs) (k : Im W len ys) (hb : ∀ i j, i < len → j < W → bitI (xs.getD i 0) j = bitI (ys.getD i 0) j) : xs = ys := by
  apply List.ext_getElem (by rw [h.hl, k.hl])
  intro i hi hj
  have e := bits_ext h.w6 (h.row i (by rw [← h.hl]; exact hi)) (k.row i (by rw [← h.hl]; exact hi)) (fun j hj => hb i j (by rw [← h.hl]; exact hi) hj)
  rw [getD_elem hi, getD_elem hj] at e
  exact e
theorem Im.has {W len : Nat} {xs : List Int} (h : Im W len xs) {i j : Nat} (hi : i < len) (hj : j < W) : hasB W xs i j = (bitI (xs.getD i 0) j == 1) := by
  rw [hasB_yes h.valid (cellB_iff.2 ⟨by omega, by have := h.hl; omega, by omega, by omega⟩), Int.toNat_natCast, Int.toNat_natCast]
theorem Im.turn {W len : Nat} {xs : List Int} (h : Im W len xs) : Im len W (turnL xs W len) :=
  ⟨h.l1, h.l6, h.w1, h.w6, turn_len _ _ _, fun i hi => by rw [show (turnL xs W len).getD i 0 = colI xs i len from rows_get (fun j => colI xs j len) hi]; exact col_bd xs i len⟩
theorem Im.turn_bit {W len : Nat} {xs : List Int} (h : Im W len xs) {i j : Nat} (hi : i < len) (hj : j < W) : bitI ((turnL xs W len).getD j 0) i = bitI (xs.getD i 0) j := by
  rw [show (turnL xs W len).getD j 0 = colI xs j len from rows_get (fun j => colI xs j len) hj, col_bit xs j len i h.l6 (by have := h.l6; omega), if_pos hi]
theorem Im.turn_turn {W len : Nat} {xs : List Int} (h : Im W len xs) : turnL (turnL xs W len) len W = xs :=
  h.turn.turn.ext h fun i j hi hj => by rw [h.turn.turn_bit hj hi, h.turn_bit hi hj]
theorem Im.turn_has {W len : Nat} {xs : List Int} (h : Im W len xs) {i j : Nat} (hi : i < len) (hj : j < W) : hasB len (turnL xs W len) j i = hasB W xs i j := by
  rw [h.has hi hj, h.turn.has hj hi, h.turn_bit hi hj]
theorem Im.turn_many {W len : Nat} {xs : List Int} (h : Im W len xs) : manyI len (turnL xs W len) W = manyI W xs len := by
  rw [many_sum, many_sum, sum_swap]
  refine sum_ext fun i hi => sum_ext fun j hj => h.turn_bit hi hj

theorem mirb_nat : ∀ k, k < 7 → ∀ n, n < 64 → 0 ≤ mirI k ((n : Nat) : Int) k ∧ mirI k ((n : Nat) : Int) k ≤ pw k - 1 ∧ cntI (mirI k ((n : Nat) : Int) k) k = cntI ((n : Nat) : Int) k ∧ ∀ j, j < k → bitI (mirI k ((n : Nat) : Int) k) (k - 1 - j) = bitI ((n : Nat) : Int) j := by decide +kernel
def mirL (xs : List Int) (W n : Nat) : List Int := rowsL (fun i => mirI W (xs.getD i 0) W) n
theorem Im.nat {W len : Nat} {xs : List Int} (h : Im W len xs) {i : Nat} (hi : i < len) : ∃ n : Nat, xs.getD i 0 = n ∧ n < 64 := by
  have hr := h.row i hi
  have hp := pw_63 h.w6
  obtain ⟨n, e⟩ := Int.eq_ofNat_of_zero_le hr.1
  exact ⟨n, e, by omega⟩
theorem Im.mir {W len : Nat} {xs : List Int} (h : Im W len xs) : Im W len (mirL xs W len) :=
  ⟨h.w1, h.w6, h.l1, h.l6, rows_len _ _, fun i hi => by
    rw [show (mirL xs W len).getD i 0 = mirI W (xs.getD i 0) W from rows_get (fun i => mirI W (xs.getD i 0) W) hi]
    obtain ⟨n, e, hn⟩ := h.nat hi
    rw [e]
    have := mirb_nat W (by have := h.w6; omega) n hn
    exact ⟨this.1, this.2.1⟩⟩
theorem Im.mir_bit {W len : Nat} {xs : List Int} (h : Im W len xs) {i j : Nat} (hi : i < len) (hj : j < W) : bitI ((mirL xs W len).getD i 0) (W - 1 - j) = bitI (xs.getD i 0) j := by
  rw [show (mirL xs W len).getD i 0 = mirI W (xs.getD i 0) W from rows_get (fun i => mirI W (xs.getD i 0) W) hi]
  obtain ⟨n, e, hn⟩ := h.nat hi
  rw [e]
  exact (mirb_nat W (by have := h.w6; omega) n hn).2.2.2 j hj
theorem Im.mir_bit' {W len : Nat} {xs : List Int} (h : Im W len xs) {i j : Nat} (hi : i < len) (hj : j < W) : bitI ((mirL xs W len).getD i 0) j = bitI (xs.getD i 0) (W - 1 - j) := by
  have := h.mir_bit hi (j := W - 1 - j) (by omega)
  rw [show W - 1 - (W - 1 - j) = j by omega] at this
  exact this
theorem Im.mir_mir {W len : Nat} {xs : List Int} (h : Im W len xs) : mirL (mirL xs W len) W len = xs :=
  h.mir.mir.ext h fun i j hi hj => by rw [h.mir.mir_bit' hi hj, h.mir_bit hi hj]
theorem Im.mir_has {W len : Nat} {xs : List Int} (h : Im W len xs) {i j : Nat} (hi : i < len) (hj : j < W) : hasB W (mirL xs W len) i (W - 1 - j : Nat) = hasB W xs i j := by
  rw [h.has hi hj, h.mir.has hi (by omega), h.mir_bit hi hj]
theorem Im.mir_many {W len : Nat} {xs : List Int} (h : Im W len xs) : manyI W (mirL xs W len) len = manyI W xs len := by
  rw [many_sum, many_sum]
  refine sum_ext fun i hi => ?_
  rw [← cnt_sum, ← cnt_sum, show (mirL xs W len).getD i 0 = mirI W (xs.getD i 0) W from rows_get (fun i => mirI W (xs.getD i 0) W) hi]
  obtain ⟨n, e, hn⟩ := h.nat hi
  rw [e]
  exact (mirb_nat W (by have := h.w6; omega) n hn).2.2.1

/-- A quarter turn. -/
def rotL (xs : List Int) (W len : Nat) : List Int := mirL (turnL xs W len) len W
theorem Im.rot {W len : Nat} {xs : List Int} (h : Im W len xs) : Im len W (rotL xs W len) := h.turn.mir
theorem Im.rot_many {W len : Nat} {xs : List Int} (h : Im W len xs) : manyI len (rotL xs W len) W = manyI W xs len := h.turn.mir_many.trans h.turn_many
theorem Im.rot_bit {W len : Nat} {xs : List Int} (h : Im W len xs) {i j : Nat} (hi : i < W) (hj : j < len) : bitI ((rotL xs W len).getD i 0) j = bitI (xs.getD (len - 1 - j) 0) i := by
  rw [show rotL xs W len = mirL (turnL xs W len) len W from rfl, h.turn.mir_bit' hi hj, h.turn_bit (by omega) hi]
theorem Im.rot4 {W len : Nat} {xs : List Int} (h : Im W len xs) : rotL (rotL (rotL (rotL xs W len) len W) W len) len W = xs :=
  h.rot.rot.rot.rot.ext h fun i j hi hj => by
    rw [h.rot.rot.rot.rot_bit hi hj, h.rot.rot.rot_bit (by omega) hi, h.rot.rot_bit (by omega) (by omega), h.rot_bit (by omega) (by omega)]
    rw [show len - 1 - (len - 1 - i) = i by omega, show W - 1 - (W - 1 - j) = j by omega]
theorem Im.many {W len : Nat} {xs : List Int} (h : Im W len xs) : manyOf W xs = manyI W xs len := by
  unfold manyOf; rw [if_pos h.valid, Int.toNat_natCast, h.hl]
/-- Some quarter turns. -/
def rotK (W n : Nat) (xs : List Int) : Nat → Nat × Nat × List Int
  | 0 => (W, n, xs)
  | k + 1 => ((rotK W n xs k).2.1, (rotK W n xs k).1, rotL (rotK W n xs k).2.2 (rotK W n xs k).1 (rotK W n xs k).2.1)
theorem Im.rots {W n : Nat} {xs : List Int} (h : Im W n xs) : ∀ k, Im (rotK W n xs k).1 (rotK W n xs k).2.1 (rotK W n xs k).2.2
  | 0 => h
  | k + 1 => (Im.rots h k).rot
theorem Im.rots_many {W n : Nat} {xs : List Int} (h : Im W n xs) : ∀ k, manyOf ((rotK W n xs k).1 : Nat) (rotK W n xs k).2.2 = manyI W xs n
  | 0 => h.many
  | k + 1 => ((h.rots (k + 1)).many.trans (h.rots k).rot_many).trans ((h.rots k).many.symm.trans (Im.rots_many h k))
theorem Im.rots4 {W n : Nat} {xs : List Int} (h : Im W n xs) : rotK W n xs 4 = (W, n, xs) := by
  show (W, n, rotL (rotL (rotL (rotL xs W n) n W) W n) n W) = _
  rw [h.rot4]
end Go.Proofs.Ytemmfnlnhekclaa

namespace Go.Proofs.Ytemmfnlnhekclaa
set_option maxRecDepth 100000
open Go.RowKit

theorem othb_nat : ∀ k, k < 7 → ∀ n, n < 64 → ((n : Nat) : Int) ≤ pw k - 1 → 0 ≤ pw k - 1 - ((n : Nat) : Int) ∧ cntI (pw k - 1 - ((n : Nat) : Int)) k = k - cntI ((n : Nat) : Int) k ∧ ∀ j, j < k → bitI (pw k - 1 - ((n : Nat) : Int)) j = 1 - bitI ((n : Nat) : Int) j := by decide +kernel
def othL (xs : List Int) (W n : Nat) : List Int := rowsL (fun i => pw W - 1 - (xs.getD i 0)) n
theorem oth_get {xs : List Int} {W n i : Nat} (hi : i < n) : (othL xs W n).getD i 0 = pw W - 1 - xs.getD i 0 := rows_get (fun i => pw W - 1 - (xs.getD i 0)) hi
theorem Im.oth {W n : Nat} {xs : List Int} (h : Im W n xs) : Im W n (othL xs W n) :=
  ⟨h.w1, h.w6, h.l1, h.l6, rows_len _ _, fun i hi => by
    rw [oth_get hi]
    have := h.row i hi
    omega⟩
theorem Im.oth_bit {W n : Nat} {xs : List Int} (h : Im W n xs) {i j : Nat} (hi : i < n) (hj : j < W) : bitI ((othL xs W n).getD i 0) j = 1 - bitI (xs.getD i 0) j := by
  obtain ⟨m, hm, hm64⟩ := h.nat hi
  have := (h.row i hi).2
  rw [oth_get hi, hm]
  exact (othb_nat W (by have := h.w6; omega) m hm64 (by rw [← hm]; exact this)).2.2 j hj
theorem Im.oth_many {W n : Nat} {xs : List Int} (h : Im W n xs) : ∀ k, k ≤ n → manyI W (othL xs W n) k = (k : Int) * W - manyI W xs k := by
  intro k
  induction k with
  | zero => intro _; simp [manyI]
  | succ k ih =>
    intro hk
    obtain ⟨m, hm, hm64⟩ := h.nat (show k < n by omega)
    have hb := (h.row k (by omega)).2
    have hc := (othb_nat W (by have := h.w6; omega) m hm64 (by rw [← hm]; exact hb)).2.1
    simp only [manyI]
    rw [ih (by omega), oth_get (by omega), hm, hc, Int.natCast_add, Int.natCast_one, Int.add_mul, Int.one_mul]
    generalize (k : Int) * W = q
    omega
theorem Im.oth_oth {W n : Nat} {xs : List Int} (h : Im W n xs) : othL (othL xs W n) W n = xs :=
  h.oth.oth.ext h fun i j hi hj => by rw [h.oth.oth_bit hi hj, h.oth_bit hi hj]; omega
theorem Im.oth_turn {W n : Nat} {xs : List Int} (h : Im W n xs) : turnL (othL xs W n) W n = othL (turnL xs W n) n W :=
  h.oth.turn.ext h.turn.oth fun j i hj hi => by rw [h.oth.turn_bit hi hj, h.oth_bit hi hj, h.turn.oth_bit hj hi, h.turn_bit hi hj]
theorem Im.oth_has {W n : Nat} {xs : List Int} (h : Im W n xs) {i j : Nat} (hi : i < n) (hj : j < W) : hasB W (othL xs W n) i j = !hasB W xs i j := by
  rw [h.oth.has hi hj, h.has hi hj, h.oth_bit hi hj]
  have := bit_01 (xs.getD i 0) j
  rcases (show bitI (xs.getD i 0) j = 0 ∨ bitI (xs.getD i 0) j = 1 by omega) with e | e <;> rw [e] <;> rfl
end Go.Proofs.Ytemmfnlnhekclaa
