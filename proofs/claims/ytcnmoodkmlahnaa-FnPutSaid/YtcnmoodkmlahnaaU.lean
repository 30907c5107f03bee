/-
  The contract of the program's ImagePut.
-/
import Derived.Test.YtcnmoodkmlahnaaT
namespace Go.Proofs.Ytcnmoodkmlahnaa
open Go.RowKit

theorem keep_of {w1 W' : World} {p0 p1 : Addr} {u0 u1 : Value} {b off len : Nat} {xs : List Int} (x0 : w1.cell? p0 = some u0) (x1 : w1.cell? p1 = some u1) (hr : ∀ i, i < len → w1.cell? ⟨b, off + i, none⟩ = some (.int .i64 (xs.getD i 0))) (hb : Below w1.heap.size w1 W') :
    W'.cell? p0 = some u0 ∧ W'.cell? p1 = some u1 ∧ (∀ i, i < len → W'.cell? ⟨b, off + i, none⟩ = some (.int .i64 (xs.getD i 0))) :=
  ⟨kept hb (block_lt x0) x0, kept hb (block_lt x1) x1, fun i hi => kept hb (block_lt (hr i hi)) (hr i hi)⟩

theorem wrap_pow : ∀ j, j < 6 → wrap64 (2 ^ j) = pw j ∧ IntKind.i64.wrap (2 ^ j) = pw j := by decide +kernel
theorem Made.of_copy2 {w w1 w2 : World} {WA Wb : Int} {a : Option Addr} {len cap n g c : Nat} {xs ys : List Int} (hz : w.heap.size + 1 < w1.heap.size) (bb : Below w.heap.size w w1)
    (x0 : w1.cell? ⟨w.heap.size, 0, none⟩ = some (.int .i64 WA)) (x1 : w1.cell? ⟨w.heap.size, 1, none⟩ = some (.slice a len cap)) (y0 : w1.cell? ⟨w.heap.size + 1, 0, none⟩ = some (.int .i64 0)) (y1 : w1.cell? ⟨w.heap.size + 1, 1, none⟩ = some (.slice none 0 0)) (yf : ∀ o, w1.frozen? ⟨w.heap.size + 1, o, none⟩ = false) (h : Row w1 a len xs)
    (hb : Below (w1.heap.size + 1) (w1.alloc (.cells #[.int .i64 0, .slice none 0 0] 25)).drew w2) (hg : w1.heap.size + 1 ≤ g) (ho : OwnI w2 (w1.heap.size + 1) (some ⟨g, 0, none⟩) n c ys) :
    Copied w ((w2.setCell ⟨w1.heap.size, 0, none⟩ (.int .i64 Wb)).setCell ⟨w1.heap.size, 1, none⟩ (.slice (some ⟨g, 0, none⟩) n c)) g w1.heap.size WA a len cap xs Wb n c ys := by
  have z0 : w2.cell? ⟨w1.heap.size, 0, none⟩ = some (.int .i64 0) := kept hb (by simp) (by simp)
  have z1 : w2.cell? ⟨w1.heap.size, 1, none⟩ = some (.slice none 0 0) := kept hb (by simp) (by simp)
  have hB : Below w1.heap.size w1 ((w2.setCell ⟨w1.heap.size, 0, none⟩ (.int .i64 Wb)).setCell ⟨w1.heap.size, 1, none⟩ (.slice (some ⟨g, 0, none⟩) n c)) :=
    (((((Below.refl _ _).alloc (Nat.le_refl _) _).drew).trans (hb.mono (by omega))).setCell (by simp) _).setCell (by simp) _
  have z1' : (w2.setCell ⟨w1.heap.size, 0, none⟩ (.int .i64 Wb)).cell? ⟨w1.heap.size, 1, none⟩ = some (.slice none 0 0) := by rw [World.cell?_setCell_other _ _ _ _ (by simp)]; exact z1
  exact ⟨kept hB (show _ < _ by simp; omega) x0, kept hB (show _ < _ by simp; omega) x1, kept hB (by simpa using hz) y0, kept hB (by simpa using hz) y1, fun o => (hB.frozen (by simpa using hz)).trans (yf o),
    by rw [World.cell?_setCell_other _ _ _ _ (by simp)]; exact World.cell?_setCell_same _ _ _ z0, World.cell?_setCell_same _ _ _ z1', h.bel hB,
    ((ho.store (by simp) _).store (by simp) _).mono (by omega), bb.trans (hB.mono (by omega)), by omega, row_far h (by omega), by omega, by omega⟩

set_option maxHeartbeats 1000000 in
theorem put_impl (W : Int) (a : Option Addr) (len cap : Nat) (xs : List Int) (i j : Int) (set : Bool) (w : World) (h : Row w a len xs) (hm : len ≤ 9223372036854775807) :
    Calls Try.prog 5 #[.agg #[.int .i64 W, .slice a len cap], .int .i64 i, .int .i64 j, .bool set] w (Gives w (putOut W xs i j set)) := by
  have hl := h.1
  have H := (h.alloc (.cells #[.int .i64 W, .slice a len cap] 25)).alloc (.cells #[.int .i64 0, .slice none 0 0] 25)
  by_cases hv : validB W xs = true
  case neg =>
    rw [show putOut W xs i j set = .no from if_neg (fun h => hv h.1)]
    have hv : validB W xs = false := by simpa using hv
    go_enter Try.func5, Try.ntmps5
    go_wp2_with fail
    refine (valid_impl _ _ _ _ xs _ H hm).mono ?_
    rintro e w1 ⟨rfl, hb⟩
    obtain ⟨hc1, hf1⟩ := bcell hb
    have bb1 : Below w.heap.size w w1 := (((Below.refl _ _).alloc (Nat.le_refl _) _).alloc (by simp) _).trans (hb.mono (by simp; omega))
    go_wp2_with fail
    refine bodyPost_ret (v := .tuple #[.agg #[.int .i64 0, .slice none 0 0], .bool false]) (by simp [results, Try.results5, go_sem, hc1]) rfl ?_
    exact ⟨⟨none, 0, rfl, own_nil _ _⟩, (bb1.setCell (by simp) _).setCell (by simp) _⟩
  have hW := validB_W hv
  have hL := validB_len hv
  by_cases hc : cellB W len i j = true
  case neg =>
    rw [show putOut W xs i j set = .no from if_neg (fun h => hc (by rw [← hl]; exact h.2))]
    have hc : cellB W len i j = false := by simpa using hc
    go_enter Try.func5, Try.ntmps5
    go_wp2_with fail
    refine (valid_impl _ _ _ _ xs _ H hm).mono ?_
    rintro e w1 ⟨rfl, hb⟩
    have bb1 : Below w.heap.size w w1 := (((Below.refl _ _).alloc (Nat.le_refl _) _).alloc (by simp) _).trans (hb.mono (by simp; omega))
    have hz : w.heap.size + 1 < w1.heap.size := by have := hb.size; simp at this; omega
    have x0 : w1.cell? ⟨w.heap.size, 0, none⟩ = some (.int .i64 W) := by rw [(bcell hb).1 _ _ (by simp; omega)]; go_simp
    have x1 : w1.cell? ⟨w.heap.size, 1, none⟩ = some (.slice a len cap) := by rw [(bcell hb).1 _ _ (by simp; omega)]; go_simp
    have y0 : w1.cell? ⟨w.heap.size + 1, 0, none⟩ = some (.int .i64 0) := by rw [(bcell hb).1 _ _ (by simp)]; go_simp
    have y1 : w1.cell? ⟨w.heap.size + 1, 1, none⟩ = some (.slice none 0 0) := by rw [(bcell hb).1 _ _ (by simp)]; go_simp
    have yf : ∀ o, w1.frozen? ⟨w.heap.size + 1, o, none⟩ = false := fun o => by rw [(bcell hb).2 _ _ (by simp)]; go_simp
    clear hb
    go_wp2_with fail
    refine (inside_any _ _ _ _ _ _ _).mono ?_
    rintro e w2 ⟨rfl, hb⟩
    have y0 := kept hb (block_lt y0) y0
    have y1 := kept hb (block_lt y1) y1
    have yf : ∀ o, w2.frozen? ⟨w.heap.size + 1, o, none⟩ = false := fun o => (hb.frozen (p := ⟨w.heap.size + 1, o, none⟩) hz).trans (yf o)
    have bb2 := bb1.trans (hb.mono bb1.size)
    clear hb
    go_wp2_with fail
    refine bodyPost_ret (v := .tuple #[.agg #[.int .i64 0, .slice none 0 0], .bool false]) (by simp [results, Try.results5, go_sem, y0, y1]) rfl ?_
    exact ⟨⟨none, 0, rfl, own_nil _ _⟩, (bb2.setCell (by simp) _).setCell (by simp) _⟩
  rw [show putOut W xs i j set = ⟨true, W, xs.set i.toNat (putI (xs.getD i.toNat 0) j.toNat set)⟩ from if_pos ⟨hv, by rw [hl]; exact hc⟩]
  have hcc := cellB_iff.1 hc
  obtain ⟨i, rfl⟩ := Int.eq_ofNat_of_zero_le (by omega : 0 ≤ i)
  obtain ⟨j, rfl⟩ := Int.eq_ofNat_of_zero_le (by omega : 0 ≤ j)
  rw [Int.toNat_natCast, Int.toNat_natCast]
  have hr := validB_row hv (i := i) (by omega)
  go_enter Try.func5, Try.ntmps5
  go_wp2_with fail
  refine (valid_impl _ _ _ _ xs _ H hm).mono ?_
  rintro e w1 ⟨rfl, hb⟩
  have bb1 : Below w.heap.size w w1 := (((Below.refl _ _).alloc (Nat.le_refl _) _).alloc (by simp) _).trans (hb.mono (by simp; omega))
  have hz : w.heap.size + 1 < w1.heap.size := by have := hb.size; simp at this; omega
  have H1 := H.bel hb
  have x0 : w1.cell? ⟨w.heap.size, 0, none⟩ = some (.int .i64 W) := by rw [(bcell hb).1 _ _ (by simp; omega)]; go_simp
  have x1 : w1.cell? ⟨w.heap.size, 1, none⟩ = some (.slice a len cap) := by rw [(bcell hb).1 _ _ (by simp; omega)]; go_simp
  have y0 : w1.cell? ⟨w.heap.size + 1, 0, none⟩ = some (.int .i64 0) := by rw [(bcell hb).1 _ _ (by simp)]; go_simp
  have y1 : w1.cell? ⟨w.heap.size + 1, 1, none⟩ = some (.slice none 0 0) := by rw [(bcell hb).1 _ _ (by simp)]; go_simp
  have yf : ∀ o, w1.frozen? ⟨w.heap.size + 1, o, none⟩ = false := fun o => by rw [(bcell hb).2 _ _ (by simp)]; go_simp
  clear hb H h
  go_wp2_with fail
  refine (inside_any _ _ _ _ _ _ _).mono ?_
  rintro e w1b ⟨rfl, hb⟩
  have x0 := kept hb (block_lt x0) x0
  have x1 := kept hb (block_lt x1) x1
  have y0 := kept hb (block_lt y0) y0
  have y1 := kept hb (block_lt y1) y1
  have yf : ∀ o, w1b.frozen? ⟨w.heap.size + 1, o, none⟩ = false := fun o => (hb.frozen (p := ⟨w.heap.size + 1, o, none⟩) hz).trans (yf o)
  have bb1 := bb1.trans (hb.mono bb1.size)
  have hz : w.heap.size + 1 < w1b.heap.size := by have := hb.size; omega
  have H1 := H1.bel hb
  clear hb
  go_wp2_with fail
  obtain ⟨b, off, rfl, hrc⟩ := H1.2.resolve_left (by omega)
  go_region_held3 (fun W' => W'.cell? ⟨w.heap.size, 0, none⟩ = some (.int .i64 W) ∧ W'.cell? ⟨w.heap.size, 1, none⟩ = some (.slice (some ⟨b, off, none⟩) len cap) ∧ (∀ i, i < len → W'.cell? ⟨b, off + i, none⟩ = some (.int .i64 (xs.getD i 0))))
    (first | exact keep_of x0 x1 hrc ((Below.refl _ _).drew) | exact keep_of x0 x1 hrc (((Below.refl _ _).alloc (Nat.le_refl _) _).drew) | exact keep_of x0 x1 hrc (((Below.refl _ _).drew).trans (hb2.mono (Nat.le_refl _))) | exact keep_of x0 x1 hrc ((((Below.refl _ _).alloc (Nat.le_refl _) _).drew).trans (hb2.mono (by simp))) | exact keep_of x0 x1 hrc ((((Below.refl _ _).drew).trans (hb2.mono (Nat.le_refl _))).alloc (by have := hb2.size; exact this) _) | exact keep_of x0 x1 hrc ((((((Below.refl _ _).alloc (Nat.le_refl _) _).drew).trans (hb2.mono (by simp))).setCell (by simp) _).setCell (by simp) _))
    (first | (go_at_call 14; refine (clone_any b off len cap xs _ hl (And.right (And.right ‹_ ∧ _ ∧ ∀ _, _›)) (by omega) (by omega)).mono ?_; rintro e w2 ⟨⟨ac, cc, rfl, ho⟩, hb2⟩; obtain ⟨hc2, hf2⟩ := bcell hb2))
  · rcases ho.cases with ⟨_, h0, _⟩ | ⟨g, rfl, hg, _⟩
    · omega
    have M := Made.of_copy (Wb := W) hz bb1 x0 x1 y0 y1 yf H1 (((Below.refl _ _).drew).trans (hb2.mono (Nat.le_refl _))) hg ho
    clear x0 x1 y0 y1 yf H1 bb1 hz hg hrc hc2 hf2 hb2 ho
    generalize w2.alloc (.cells #[.int .i64 W, .slice (some ⟨g, 0, none⟩) len cc] 25) = W0 at M ⊢
    generalize w2.heap.size = k2 at M ⊢
    have hput := orput (x := xs.getD i 0) (j := j) (by omega) hr.1 hr.2.2
    have hd := own_cell M.own (i := i) (by omega)
    have hpj : pw j ≤ 64 := by have := pw_le j 6 (by omega); have e : pw 6 = 64 := by decide
                               omega
    have hpp := pw_pos j
    have hj6 : j < 6 := by omega
    generalize hx : xs.getD i 0 = x at hput hd hr
    have hx := Lib.hid hx
    obtain ⟨W2, hW2⟩ : ∃ W2, W0.drew = W2 := ⟨_, rfl⟩
    have hB2 : Below W0.heap.size W0 W2 := by rw [← hW2]; exact (Below.refl _ _).drew
    have q1 := kept hB2 (block_lt M.b1) M.b1
    have q2 := kept hB2 (block_lt hd) hd
    have hO := M.own.bel hB2
    have q3 := hO.frozen i
    have bb2 : Below w.heap.size w W2 := M.bel.trans (hB2.mono M.bel.size)
    have hy := M.ne
    have hgg := M.hg
    have ub0 := kept hB2 (block_lt M.b0) M.b0
    have u0 := kept hB2 (block_lt M.y0) M.y0
    have u1 := kept hB2 (block_lt M.y1) M.y1
    have uf : ∀ o, W2.frozen? ⟨w.heap.size + 1, o, none⟩ = false := fun o => (hB2.frozen (p := ⟨w.heap.size + 1, o, none⟩) (show w.heap.size + 1 < W0.heap.size from block_lt M.y0)).trans (M.yf o)
    have ng : w.heap.size + 1 ≠ g := by omega
    clear hB2 M hd
    cases set with
    | false =>
      have hs := hO.set i (putI x j false)
      obtain ⟨W3, hW3⟩ : ∃ W3, W2.setCell ⟨g, i, none⟩ (.int .i64 (putI x j false)) = W3 := ⟨_, rfl⟩
      rw [hW3] at hs
      have r1 : W3.cell? ⟨k2, 0, none⟩ = some (.int .i64 W) := by rw [← hW3, World.cell?_setCell_other _ _ _ _ (by first | (simp; done) | (simp; omega))]; exact ub0
      have r2 : W3.cell? ⟨k2, 1, none⟩ = some (.slice (some ⟨g, 0, none⟩) len cc) := by rw [← hW3, World.cell?_setCell_other _ _ _ _ (by first | (simp; done) | (simp; omega))]; exact q1
      have r3 : W3.cell? ⟨w.heap.size + 1, 0, none⟩ = some (.int .i64 0) := by rw [← hW3, World.cell?_setCell_other _ _ _ _ (by first | (simp; done) | (simp; omega))]; exact u0
      have r4 : W3.cell? ⟨w.heap.size + 1, 1, none⟩ = some (.slice none 0 0) := by rw [← hW3, World.cell?_setCell_other _ _ _ _ (by first | (simp; done) | (simp; omega))]; exact u1
      have r5 : ∀ o, W3.frozen? ⟨w.heap.size + 1, o, none⟩ = false := fun o => by rw [← hW3]; exact (World.frozen?_of_block (a := ⟨w.heap.size + 1, o, none⟩) (Below.heap_setCell _ _ _ _ (by simpa using ng))).trans (uf o)
      have bb3 : Below w.heap.size w W3 := by rw [← hW3]; exact bb2.setCell (show w.heap.size ≤ g by omega) _
      have hp := hput.2
      have hs := Lib.hid hs
      have hW3 := Lib.hid hW3
      have bb3 := Lib.hid bb3
      have hj0 : (0 : Int) ≤ (j : Int) := Int.natCast_nonneg _
      have hj7 : (j : Int) < 64 := by omega
      have ew := (wrap_pow j hj6).1
      have ev := (wrap_pow j hj6).2
      clear hput hO bb2
      go_wp2_with fail
      refine region_tail 9 (by kernel_rfl) (by kernel_rfl) W2 hW2 ?_
      simp only [List.take_succ_cons, List.take_zero, List.drop_succ_cons, List.drop_zero]
      clear hW2 hr
      repeat still_step
      refine wpStill_nil ?_
      go_wp2_with fail
      refine bodyPost_ret (v := .tuple #[.agg #[.int .i64 W, .slice (some ⟨g, 0, none⟩) len cc], .bool true]) (by simp [results, Try.results5, go_sem, r3, r4]) rfl ?_
      refine ⟨⟨some ⟨g, 0, none⟩, cc, by rw [List.length_set, hl], ?_⟩, (bb3.out.setCell (by simp) _).setCell (by simp) _⟩
      show OwnI _ _ _ (xs.set i _).length _ (xs.set i _)
      rw [List.length_set, hl, hx.out]
      exact ((hs.out.store (by simp) _).store (by simp) _).mono (by omega)
    | true =>
      have hs := hO.set i (putI x j true)
      obtain ⟨W3, hW3⟩ : ∃ W3, W2.setCell ⟨g, i, none⟩ (.int .i64 (putI x j true)) = W3 := ⟨_, rfl⟩
      rw [hW3] at hs
      have r1 : W3.cell? ⟨k2, 0, none⟩ = some (.int .i64 W) := by rw [← hW3, World.cell?_setCell_other _ _ _ _ (by first | (simp; done) | (simp; omega))]; exact ub0
      have r2 : W3.cell? ⟨k2, 1, none⟩ = some (.slice (some ⟨g, 0, none⟩) len cc) := by rw [← hW3, World.cell?_setCell_other _ _ _ _ (by first | (simp; done) | (simp; omega))]; exact q1
      have r3 : W3.cell? ⟨w.heap.size + 1, 0, none⟩ = some (.int .i64 0) := by rw [← hW3, World.cell?_setCell_other _ _ _ _ (by first | (simp; done) | (simp; omega))]; exact u0
      have r4 : W3.cell? ⟨w.heap.size + 1, 1, none⟩ = some (.slice none 0 0) := by rw [← hW3, World.cell?_setCell_other _ _ _ _ (by first | (simp; done) | (simp; omega))]; exact u1
      have r5 : ∀ o, W3.frozen? ⟨w.heap.size + 1, o, none⟩ = false := fun o => by rw [← hW3]; exact (World.frozen?_of_block (a := ⟨w.heap.size + 1, o, none⟩) (Below.heap_setCell _ _ _ _ (by simpa using ng))).trans (uf o)
      have bb3 : Below w.heap.size w W3 := by rw [← hW3]; exact bb2.setCell (show w.heap.size ≤ g by omega) _
      have hp := hput.1
      have hs := Lib.hid hs
      have hW3 := Lib.hid hW3
      have bb3 := Lib.hid bb3
      have hj0 : (0 : Int) ≤ (j : Int) := Int.natCast_nonneg _
      have hj7 : (j : Int) < 64 := by omega
      have ew := (wrap_pow j hj6).1
      have ev := (wrap_pow j hj6).2
      clear hput hO bb2
      go_wp2_with fail
      refine region_tail 9 (by kernel_rfl) (by kernel_rfl) W2 hW2 ?_
      simp only [List.take_succ_cons, List.take_zero, List.drop_succ_cons, List.drop_zero]
      clear hW2 hr
      repeat still_step
      refine wpStill_nil ?_
      go_wp2_with fail
      refine bodyPost_ret (v := .tuple #[.agg #[.int .i64 W, .slice (some ⟨g, 0, none⟩) len cc], .bool true]) (by simp [results, Try.results5, go_sem, r3, r4]) rfl ?_
      refine ⟨⟨some ⟨g, 0, none⟩, cc, by rw [List.length_set, hl], ?_⟩, (bb3.out.setCell (by simp) _).setCell (by simp) _⟩
      show OwnI _ _ _ (xs.set i _).length _ (xs.set i _)
      rw [List.length_set, hl, hx.out]
      exact ((hs.out.store (by simp) _).store (by simp) _).mono (by omega)
  · rcases ho.cases with ⟨_, h0, _⟩ | ⟨g, rfl, hg, _⟩
    · omega
    have M := Made.of_copy2 (Wb := W) hz bb1 x0 x1 y0 y1 yf H1 (hb2.mono (by simp)) (by simpa using hg) (ho.mono (by simp))
    clear x0 x1 y0 y1 yf H1 bb1 hz hg hrc hc2 hf2 hb2 ho
    generalize (w2.setCell ⟨w1b.heap.size, 0, none⟩ (.int .i64 W)).setCell ⟨w1b.heap.size, 1, none⟩ (.slice (some ⟨g, 0, none⟩) len cc) = W0 at M ⊢
    generalize w1b.heap.size = k2 at M ⊢
    have hput := orput (x := xs.getD i 0) (j := j) (by omega) hr.1 hr.2.2
    have hd := own_cell M.own (i := i) (by omega)
    have hpj : pw j ≤ 64 := by have := pw_le j 6 (by omega); have e : pw 6 = 64 := by decide
                               omega
    have hpp := pw_pos j
    have hj6 : j < 6 := by omega
    generalize hx : xs.getD i 0 = x at hput hd hr
    have hx := Lib.hid hx
    obtain ⟨W2, hW2⟩ : ∃ W2, W0.drew = W2 := ⟨_, rfl⟩
    have hB2 : Below W0.heap.size W0 W2 := by rw [← hW2]; exact (Below.refl _ _).drew
    have q1 := kept hB2 (block_lt M.b1) M.b1
    have q2 := kept hB2 (block_lt hd) hd
    have hO := M.own.bel hB2
    have q3 := hO.frozen i
    have bb2 : Below w.heap.size w W2 := M.bel.trans (hB2.mono M.bel.size)
    have hy := M.ne
    have hgg := M.hg
    have ub0 := kept hB2 (block_lt M.b0) M.b0
    have u0 := kept hB2 (block_lt M.y0) M.y0
    have u1 := kept hB2 (block_lt M.y1) M.y1
    have uf : ∀ o, W2.frozen? ⟨w.heap.size + 1, o, none⟩ = false := fun o => (hB2.frozen (p := ⟨w.heap.size + 1, o, none⟩) (show w.heap.size + 1 < W0.heap.size from block_lt M.y0)).trans (M.yf o)
    have ng : w.heap.size + 1 ≠ g := by omega
    clear hB2 M hd
    cases set with
    | false =>
      have hs := hO.set i (putI x j false)
      obtain ⟨W3, hW3⟩ : ∃ W3, W2.setCell ⟨g, i, none⟩ (.int .i64 (putI x j false)) = W3 := ⟨_, rfl⟩
      rw [hW3] at hs
      have r1 : W3.cell? ⟨k2, 0, none⟩ = some (.int .i64 W) := by rw [← hW3, World.cell?_setCell_other _ _ _ _ (by first | (simp; done) | (simp; omega))]; exact ub0
      have r2 : W3.cell? ⟨k2, 1, none⟩ = some (.slice (some ⟨g, 0, none⟩) len cc) := by rw [← hW3, World.cell?_setCell_other _ _ _ _ (by first | (simp; done) | (simp; omega))]; exact q1
      have r3 : W3.cell? ⟨w.heap.size + 1, 0, none⟩ = some (.int .i64 0) := by rw [← hW3, World.cell?_setCell_other _ _ _ _ (by first | (simp; done) | (simp; omega))]; exact u0
      have r4 : W3.cell? ⟨w.heap.size + 1, 1, none⟩ = some (.slice none 0 0) := by rw [← hW3, World.cell?_setCell_other _ _ _ _ (by first | (simp; done) | (simp; omega))]; exact u1
      have r5 : ∀ o, W3.frozen? ⟨w.heap.size + 1, o, none⟩ = false := fun o => by rw [← hW3]; exact (World.frozen?_of_block (a := ⟨w.heap.size + 1, o, none⟩) (Below.heap_setCell _ _ _ _ (by simpa using ng))).trans (uf o)
      have bb3 : Below w.heap.size w W3 := by rw [← hW3]; exact bb2.setCell (show w.heap.size ≤ g by omega) _
      have hp := hput.2
      have hs := Lib.hid hs
      have hW3 := Lib.hid hW3
      have bb3 := Lib.hid bb3
      have hj0 : (0 : Int) ≤ (j : Int) := Int.natCast_nonneg _
      have hj7 : (j : Int) < 64 := by omega
      have ew := (wrap_pow j hj6).1
      have ev := (wrap_pow j hj6).2
      clear hput hO bb2
      go_wp2_with fail
      refine region_tail 9 (by kernel_rfl) (by kernel_rfl) W2 hW2 ?_
      simp only [List.take_succ_cons, List.take_zero, List.drop_succ_cons, List.drop_zero]
      clear hW2 hr
      repeat still_step
      refine wpStill_nil ?_
      go_wp2_with fail
      refine bodyPost_ret (v := .tuple #[.agg #[.int .i64 W, .slice (some ⟨g, 0, none⟩) len cc], .bool true]) (by simp [results, Try.results5, go_sem, r3, r4]) rfl ?_
      refine ⟨⟨some ⟨g, 0, none⟩, cc, by rw [List.length_set, hl], ?_⟩, (bb3.out.setCell (by simp) _).setCell (by simp) _⟩
      show OwnI _ _ _ (xs.set i _).length _ (xs.set i _)
      rw [List.length_set, hl, hx.out]
      exact ((hs.out.store (by simp) _).store (by simp) _).mono (by omega)
    | true =>
      have hs := hO.set i (putI x j true)
      obtain ⟨W3, hW3⟩ : ∃ W3, W2.setCell ⟨g, i, none⟩ (.int .i64 (putI x j true)) = W3 := ⟨_, rfl⟩
      rw [hW3] at hs
      have r1 : W3.cell? ⟨k2, 0, none⟩ = some (.int .i64 W) := by rw [← hW3, World.cell?_setCell_other _ _ _ _ (by first | (simp; done) | (simp; omega))]; exact ub0
      have r2 : W3.cell? ⟨k2, 1, none⟩ = some (.slice (some ⟨g, 0, none⟩) len cc) := by rw [← hW3, World.cell?_setCell_other _ _ _ _ (by first | (simp; done) | (simp; omega))]; exact q1
      have r3 : W3.cell? ⟨w.heap.size + 1, 0, none⟩ = some (.int .i64 0) := by rw [← hW3, World.cell?_setCell_other _ _ _ _ (by first | (simp; done) | (simp; omega))]; exact u0
      have r4 : W3.cell? ⟨w.heap.size + 1, 1, none⟩ = some (.slice none 0 0) := by rw [← hW3, World.cell?_setCell_other _ _ _ _ (by first | (simp; done) | (simp; omega))]; exact u1
      have r5 : ∀ o, W3.frozen? ⟨w.heap.size + 1, o, none⟩ = false := fun o => by rw [← hW3]; exact (World.frozen?_of_block (a := ⟨w.heap.size + 1, o, none⟩) (Below.heap_setCell _ _ _ _ (by simpa using ng))).trans (uf o)
      have bb3 : Below w.heap.size w W3 := by rw [← hW3]; exact bb2.setCell (show w.heap.size ≤ g by omega) _
      have hp := hput.1
      have hs := Lib.hid hs
      have hW3 := Lib.hid hW3
      have bb3 := Lib.hid bb3
      have hj0 : (0 : Int) ≤ (j : Int) := Int.natCast_nonneg _
      have hj7 : (j : Int) < 64 := by omega
      have ew := (wrap_pow j hj6).1
      have ev := (wrap_pow j hj6).2
      clear hput hO bb2
      go_wp2_with fail
      refine region_tail 9 (by kernel_rfl) (by kernel_rfl) W2 hW2 ?_
      simp only [List.take_succ_cons, List.take_zero, List.drop_succ_cons, List.drop_zero]
      clear hW2 hr
      repeat still_step
      refine wpStill_nil ?_
      go_wp2_with fail
      refine bodyPost_ret (v := .tuple #[.agg #[.int .i64 W, .slice (some ⟨g, 0, none⟩) len cc], .bool true]) (by simp [results, Try.results5, go_sem, r3, r4]) rfl ?_
      refine ⟨⟨some ⟨g, 0, none⟩, cc, by rw [List.length_set, hl], ?_⟩, (bb3.out.setCell (by simp) _).setCell (by simp) _⟩
      show OwnI _ _ _ (xs.set i _).length _ (xs.set i _)
      rw [List.length_set, hl, hx.out]
      exact ((hs.out.store (by simp) _).store (by simp) _).mono (by omega)
end Go.Proofs.Ytcnmoodkmlahnaa

