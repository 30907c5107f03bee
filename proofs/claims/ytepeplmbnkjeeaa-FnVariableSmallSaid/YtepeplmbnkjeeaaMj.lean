/-
  The contracts of the program's changeBetween, CellVariable, CellsVariable and CellFlip.
-/
import Derived.Test.YtepeplmbnkjeeaaMh
import Derived.Test.YtepeplmbnkjeeaaHc
namespace Go.Proofs.Ytepeplmbnkjeeaa
set_option maxRecDepth 100000
open Go.RowKit

theorem xort_nat : ∀ j, j < 6 → ∀ x, x < 64 → bits BinOp.xor IntKind.i64 ((x : Nat) : Int) (wrap64 (2 ^ j)) = putI ((x : Nat) : Int) j (bitI ((x : Nat) : Int) j == 0) := by decide +kernel
theorem xort_nat2 : ∀ j, j < 6 → ∀ x, x < 64 → bits BinOp.xor IntKind.i64 ((x : Nat) : Int) (IntKind.i64.wrap (2 ^ j)) = putI ((x : Nat) : Int) j (bitI ((x : Nat) : Int) j == 0) := by decide +kernel
theorem xor_tog {W n : Nat} {xs : List Int} (h : Im W n xs) {i j : Nat} (hi : i < n) (hj : j < W) : bits BinOp.xor IntKind.i64 (xs.getD i 0) (wrap64 (2 ^ j)) = (togL xs W n i j).getD i 0 ∧ bits BinOp.xor IntKind.i64 (xs.getD i 0) (IntKind.i64.wrap (2 ^ j)) = (togL xs W n i j).getD i 0 ∧ xs.set i ((togL xs W n i j).getD i 0) = togL xs W n i j := by
  obtain ⟨x, hx, h64⟩ := h.nat hi
  have hw6 := h.w6
  have e := put_tog h hi hj
  have b0 := bit_zero xs i j
  have g : (togL xs W n i j).getD i 0 = putI (xs.getD i 0) j (!cellOf xs i j) := by
    rw [← e, put_get (n := n) h.hl hi, if_pos rfl]
  rw [g]
  refine ⟨?_, ?_, by rw [← e]; rfl⟩
  · rw [hx, xort_nat j (by omega) x h64, ← hx, b0]
  · rw [hx, xort_nat2 j (by omega) x h64, ← hx, b0]
set_option maxHeartbeats 2000000 in
theorem tog_impl (W B g n cap : Nat) (xs : List Int) (p q i j : Nat) (w : World) (h : OwnI w B (some ⟨g, 0, none⟩) n cap xs) (hv : Im W n xs) (hpq : p = i ∧ q = n + j ∨ q = i ∧ p = n + j) (hi : i < n) (hj : j < W) :
    Calls Try.prog 82 #[.agg #[.int .i64 W, .slice (some ⟨g, 0, none⟩) n cap], .int .i64 p, .int .i64 q] w fun e w' => e = .returned (.tuple #[]) ∧ w.grownBy w' (some g) ∧ OwnI w' B (some ⟨g, 0, none⟩) n cap (togL xs W n i j) := by
  have hw6 := hv.w6
  have hn6 := hv.l6
  have ht := xor_tog hv hi hj
  obtain ⟨W0, hW0⟩ : ∃ W0, W0 = (w.alloc (.cells #[.int .i64 W, .slice (some ⟨g, 0, none⟩) n cap] 25)) := ⟨_, rfl⟩
  have bb : Hid (Below w.heap.size w W0) := by subst hW0; exact (Below.refl _ _).alloc (Nat.le_refl _) _
  have x0 : W0.cell? ⟨w.heap.size, 0, none⟩ = some (.int .i64 W) := by subst hW0; go_simp
  have x1 : W0.cell? ⟨w.heap.size, 1, none⟩ = some (.slice (some ⟨g, 0, none⟩) n cap) := by subst hW0; go_simp
  obtain ⟨W2, hW2⟩ : ∃ W2, W0.drew = W2 := ⟨_, rfl⟩
  have hb : Below W0.heap.size W0 W2 := by rw [← hW2]; exact (Below.refl _ _).drew
  replace x0 := kept hb (block_lt x0) x0
  replace x1 := kept hb (block_lt x1) x1
  have ho := (h.bel bb.out).bel hb
  have hgr : w.grownBy W2 (some g) := grown_trans (below_grown bb.out _) (below_grown hb _)
  have hck := own_cell ho hi
  have hfz := ho.frozen
  have hs := ho.set i ((togL xs W n i j).getD i 0)
  rw [ht.2.2] at hs
  have hg2 := Lib.hid (grown_set (j := i) (v := .int .i64 ((togL xs W n i j).getD i 0)) hgr)
  have e1 := ht.1
  have e2 := ht.2.1
  replace hs := Lib.hid hs
  generalize togL xs W n i j = Z at *
  generalize Z.getD i 0 = z at *
  generalize xs.getD i 0 = x at *
  clear h ho hgr hv ht hb
  rcases hpq with ⟨rfl, hq⟩ | ⟨rfl, hq⟩
  · have hlt : (p : Int) < (q : Int) := by omega
    have es : (q : Int) - (n : Int) = (j : Int) := by omega
    have hmn : min (p : Int) (q : Int) = (p : Int) := by omega
    have hmx : max (p : Int) (q : Int) = (q : Int) := by omega
    have ewj : IntKind.i64.wrap (j : Int) = (j : Int) := IntWalk.i64_in _ ⟨by omega, by omega⟩
    replace hq := Lib.hid hq
    go_enter Try.func82, Try.ntmps82
    go_wp2_with fail
    rw [← hW0]
    clear hW0
    refine region_tail 17 (by kernel_rfl) (by kernel_rfl) W2 hW2 ?_
    simp only [List.take_succ_cons, List.take_zero, List.drop_succ_cons, List.drop_zero]
    clear hW2
    repeat still_step
    refine wpStill_nil ?_
    go_wp2_with fail
    go_end0
    exact ⟨rfl, hg2.out, hs.out⟩
  · have hlt : (q : Int) < (p : Int) := by omega
    have es : (p : Int) - (n : Int) = (j : Int) := by omega
    have hmn : min (p : Int) (q : Int) = (q : Int) := by omega
    have hmx : max (p : Int) (q : Int) = (p : Int) := by omega
    have ewj : IntKind.i64.wrap (j : Int) = (j : Int) := IntWalk.i64_in _ ⟨by omega, by omega⟩
    replace hq := Lib.hid hq
    go_enter Try.func82, Try.ntmps82
    go_wp2_with fail
    rw [← hW0]
    clear hW0
    refine region_tail 17 (by kernel_rfl) (by kernel_rfl) W2 hW2 ?_
    simp only [List.take_succ_cons, List.take_zero, List.drop_succ_cons, List.drop_zero]
    clear hW2
    repeat still_step
    refine wpStill_nil ?_
    go_wp2_with fail
    go_end0
    exact ⟨rfl, hg2.out, hs.out⟩
set_option maxHeartbeats 2000000 in
theorem var_impl (W : Int) (a : Option Addr) (n cap : Nat) (xs : List Int) (i j : Int) (w : World) (h : Row w a n xs) (hm : n ≤ 9223372036854775807) :
    Calls Try.prog 30 #[.agg #[.int .i64 W, .slice a n cap], .int .i64 i, .int .i64 j] w fun e w' => e = .returned (.bool (varO W xs i j)) ∧ Below w.heap.size w w' := by
  have hl := h.1
  obtain ⟨W0, hW0⟩ : ∃ W0, W0 = (w.alloc (.cells #[.int .i64 W, .slice a n cap] 25)) := ⟨_, rfl⟩
  have bb : Hid (Below w.heap.size w W0) := by subst hW0; exact (Below.refl _ _).alloc (Nat.le_refl _) _
  have x0 : W0.cell? ⟨w.heap.size, 0, none⟩ = some (.int .i64 W) := by subst hW0; go_simp
  have x1 : W0.cell? ⟨w.heap.size, 1, none⟩ = some (.slice a n cap) := by subst hW0; go_simp
  have r := Lib.hid (h.bel bb.out)
  clear h
  by_cases hv : validB W xs = true
  case neg =>
    rw [varO_no (fun h => hv h.1)]
    have hv : validB W xs = false := by simpa using hv
    clear hl
    go_enter Try.func30, Try.ntmps30
    go_wp2_with fail
    rw [← hW0]
    clear hW0
    refine (valid_impl W a n cap xs _ r.out hm).mono ?_
    rintro e v1 ⟨rfl, hb⟩
    have szv1 := hb.size
    replace x0 := kept hb (block_lt x0) x0
    replace x1 := kept hb (block_lt x1) x1
    replace r := Lib.hid (r.out.bel hb)
    replace bb := Lib.hid (bb.out.trans (hb.mono bb.out.size))
    rw [hv]
    clear hb
    go_wp2_with fail
    go_ret
    exact ⟨rfl, bb.out⟩
  have hW := validB_W hv
  by_cases hc : cellB W n i j = true
  case neg =>
    rw [varO_no (fun h => hc (by rw [← hl]; exact h.2))]
    have hc : cellB W n i j = false := by simpa using hc
    clear hl
    go_enter Try.func30, Try.ntmps30
    go_wp2_with fail
    rw [← hW0]
    clear hW0
    refine (valid_impl W a n cap xs _ r.out hm).mono ?_
    rintro e v2 ⟨rfl, hb⟩
    have szv2 := hb.size
    replace x0 := kept hb (block_lt x0) x0
    replace x1 := kept hb (block_lt x1) x1
    replace r := Lib.hid (r.out.bel hb)
    replace bb := Lib.hid (bb.out.trans (hb.mono bb.out.size))
    rw [hv]
    clear hb
    go_wp2_with fail
    refine (inside_any W a n cap i j _).mono ?_
    rintro e v3 ⟨rfl, hb⟩
    have szv3 := hb.size
    replace x0 := kept hb (block_lt x0) x0
    replace x1 := kept hb (block_lt x1) x1
    replace r := Lib.hid (r.out.bel hb)
    replace bb := Lib.hid (bb.out.trans (hb.mono bb.out.size))
    rw [hc]
    clear hb
    go_wp2_with fail
    go_ret
    exact ⟨rfl, bb.out⟩
  have hcc := cellB_iff.1 hc
  obtain ⟨W, rfl⟩ := Int.eq_ofNat_of_zero_le (by omega : 0 ≤ W)
  obtain ⟨i, rfl⟩ := Int.eq_ofNat_of_zero_le hcc.1
  obtain ⟨j, rfl⟩ := Int.eq_ofNat_of_zero_le hcc.2.2.1
  have hI : Im W n xs := Im.of hv hl
  have hi : i < n := by omega
  have hj : j < W := by omega
  rw [varO_nat hI hi hj]
  have hw6 := hI.w6
  have hn6 := hI.l6
  have hw1 := hI.w1
  have hn1 := hI.l1
  have hbo := var_both (xs := xs) hi hj
  have hA := arrs_all hI
  have harr := Lib.hid (fun wx hx => arrows_any W a n cap xs wx hx hI)
  unfold parP at hbo
  obtain ⟨u, hu⟩ : ∃ u, n + j = u := ⟨_, rfl⟩
  obtain ⟨M, hM⟩ : ∃ M, n + W = M := ⟨_, rfl⟩
  have eu : (n : Int) + (j : Int) = (u : Int) := by omega
  have ewu : IntKind.i64.wrap (u : Int) = (u : Int) := IntWalk.i64_in _ ⟨by omega, by omega⟩
  have huM : u < M := by omega
  have hiM : i < M := by omega
  rw [hu, hM] at hbo
  rw [hM] at hA harr
  have hre := Lib.hid (fun b c s t wx hx hs ht => reaches_any b M c _ _ s t wx hx hA (by omega) (by omega) hs ht)
  generalize rowsL (arrK xs n n n 0) M = ms at *
  have hre1 := Lib.hid (fun b c wx hx => hre.out b c i u wx hx hiM huM)
  have hre2 := Lib.hid (fun b c wx hx => hre.out b c u i wx hx huM hiM)
  clear hre
  generalize (bfsP (arC (cellOf xs) n) M i).getD u 0 = z1 at *
  rw [← hbo]
  clear hI hA hbo
  replace hu := Lib.hid hu
  replace hM := Lib.hid hM
  go_enter Try.func30, Try.ntmps30
  go_wp2_with fail
  rw [← hW0]
  clear hW0
  refine (valid_impl (W : Int) a n cap xs _ r.out hm).mono ?_
  rintro e v4 ⟨rfl, hb⟩
  have szv4 := hb.size
  replace x0 := kept hb (block_lt x0) x0
  replace x1 := kept hb (block_lt x1) x1
  replace r := Lib.hid (r.out.bel hb)
  replace bb := Lib.hid (bb.out.trans (hb.mono bb.out.size))
  rw [hv]
  clear hb
  go_wp2_with fail
  refine (inside_any (W : Int) a n cap i j _).mono ?_
  rintro e v5 ⟨rfl, hb⟩
  have szv5 := hb.size
  replace x0 := kept hb (block_lt x0) x0
  replace x1 := kept hb (block_lt x1) x1
  replace r := Lib.hid (r.out.bel hb)
  replace bb := Lib.hid (bb.out.trans (hb.mono bb.out.size))
  rw [hc]
  clear hb
  go_wp2_with fail
  go_region_law (first | ((go_simp; go_at_call 73; (with_reducible refine (harr.out _ (r.out.bel ((Below.refl _ _).drew))).mono ?_); rintro e U ⟨⟨g, rfl, ho⟩, hb2⟩; have hb : Below v5.heap.size v5 U := (((Below.refl _ _).drew).trans (hb2.mono (Nat.le_refl _))); replace x0 := kept hb (block_lt x0) x0; replace x1 := kept hb (block_lt x1) x1; have rm := Lib.hid ho.row; replace bb := Lib.hid (bb.out.trans (hb.mono bb.out.size)); clear hb hb2 ho)))
  all_goals
    go_wp2_with fail
    refine (hre1.out _ _ _ rm.out).mono ?_
    rintro e V1 ⟨rfl, hb⟩
    replace rm := Lib.hid (rm.out.bel hb)
    replace bb := Lib.hid (bb.out.trans (hb.mono bb.out.size))
    clear hb
    by_cases hz : 0 ≤ z1
    · rw [decide_eq_true hz]
      go_wp2_with fail
      refine (hre2.out _ _ _ rm.out).mono ?_
      rintro e V2 ⟨rfl, hb⟩
      replace bb := Lib.hid (bb.out.trans (hb.mono bb.out.size))
      clear hb
      go_wp2_with fail
      go_ret
      exact ⟨by rw [decide_eq_true hz]; rfl, bb.out⟩
    · rw [decide_eq_false hz]
      go_wp2_with fail
      go_ret
      exact ⟨by rw [decide_eq_false (show ¬ 0 ≤ z1 by omega)]; rfl, bb.out⟩
theorem set_same {L : List Int} {n k : Nat} (hl : L.length = n) (hk : k < n) : L.set k (L.getD k 0) = L := by
  rw [getD_elem (by omega)]; exact List.set_getElem_self (by omega)
theorem Made.of1 {w w1 : World} {WA Wb : Int} {a : Option Addr} {len cap n : Nat} {xs : List Int} (hz : w.heap.size + 1 < w1.heap.size) (bb : Below w.heap.size w w1)
    (x0 : w1.cell? ⟨w.heap.size, 0, none⟩ = some (.int .i64 WA)) (x1 : w1.cell? ⟨w.heap.size, 1, none⟩ = some (.slice a len cap)) (y0 : w1.cell? ⟨w.heap.size + 1, 0, none⟩ = some (.int .i64 0)) (y1 : w1.cell? ⟨w.heap.size + 1, 1, none⟩ = some (.slice none 0 0)) (yf : ∀ o, w1.frozen? ⟨w.heap.size + 1, o, none⟩ = false) (h : Row w1 a len xs) (hn : n ≤ 1048576) :
    ∃ W0 g k2, W0 = ((w1.alloc (.cells (madeCells #[.int .i64 0] n) 3)).alloc (.cells #[.int .i64 Wb, .slice (some ⟨w1.heap.size, 0, none⟩) n n] 25)).drew ∧ g = w1.heap.size ∧ k2 = w1.heap.size + 1 ∧ Made w W0 g k2 WA a len cap xs Wb n :=
  ⟨_, _, _, rfl, rfl, rfl, made1 hz bb x0 x1 y0 y1 yf h hn⟩
theorem Made.of2 {w w1 : World} {WA Wb : Int} {a : Option Addr} {len cap n : Nat} {xs : List Int} (hz : w.heap.size + 1 < w1.heap.size) (bb : Below w.heap.size w w1)
    (x0 : w1.cell? ⟨w.heap.size, 0, none⟩ = some (.int .i64 WA)) (x1 : w1.cell? ⟨w.heap.size, 1, none⟩ = some (.slice a len cap)) (y0 : w1.cell? ⟨w.heap.size + 1, 0, none⟩ = some (.int .i64 0)) (y1 : w1.cell? ⟨w.heap.size + 1, 1, none⟩ = some (.slice none 0 0)) (yf : ∀ o, w1.frozen? ⟨w.heap.size + 1, o, none⟩ = false) (h : Row w1 a len xs) (hn : n ≤ 1048576) :
    ∃ W0 g k2, W0 = ((w1.alloc (.cells #[.int .i64 Wb, .slice (some ⟨w1.heap.size + 1, 0, none⟩) n n] 25)).alloc (.cells (madeCells #[.int .i64 0] n) 3)).drew ∧ g = w1.heap.size + 1 ∧ k2 = w1.heap.size ∧ Made w W0 g k2 WA a len cap xs Wb n :=
  ⟨_, _, _, rfl, rfl, rfl, made2 hz bb x0 x1 y0 y1 yf h hn⟩
set_option maxHeartbeats 4000000 in
theorem vars_impl (W : Int) (a : Option Addr) (n cap : Nat) (xs : List Int) (w : World) (h : Row w a n xs) (hm : n ≤ 9223372036854775807) :
    Calls Try.prog 35 #[.agg #[.int .i64 W, .slice a n cap]] w (Gives w (varsO W xs)) := by
  have hl := h.1
  obtain ⟨W0, hW0⟩ : ∃ W0, W0 = ((w.alloc (.cells #[.int .i64 W, .slice a n cap] 25)).alloc (.cells #[.int .i64 0, .slice none 0 0] 25)) := ⟨_, rfl⟩
  have bb : Hid (Below w.heap.size w W0) := by subst hW0; exact ((Below.refl _ _).alloc (Nat.le_refl _) _).alloc (by simp) _
  have x0 : W0.cell? ⟨w.heap.size, 0, none⟩ = some (.int .i64 W) := by subst hW0; go_simp
  have x1 : W0.cell? ⟨w.heap.size, 1, none⟩ = some (.slice a n cap) := by subst hW0; go_simp
  have y0 : W0.cell? ⟨w.heap.size + 1, 0, none⟩ = some (.int .i64 0) := by subst hW0; go_simp
  have y1 : W0.cell? ⟨w.heap.size + 1, 1, none⟩ = some (.slice none 0 0) := by subst hW0; go_simp
  have yf : ∀ o, W0.frozen? ⟨w.heap.size + 1, o, none⟩ = false := fun o => by subst hW0; go_simp
  have r := Lib.hid (h.bel bb.out)
  have rb := Lib.hid (row_lt h)
  clear h
  have l0 := block_lt y0
  simp only at l0
  by_cases hv : validB W xs = true
  case neg =>
    rw [show varsO W xs = .no from if_neg hv]
    have hv : validB W xs = false := by simpa using hv
    clear hl
    go_enter Try.func35, Try.ntmps35
    go_wp2_with fail
    rw [← hW0]
    clear hW0
    refine (valid_impl W a n cap xs _ r.out hm).mono ?_
    rintro e v1 ⟨rfl, hb⟩
    have szv1 := hb.size
    replace yf : ∀ o, v1.frozen? ⟨w.heap.size + 1, o, none⟩ = false := fun o => (hb.frozen (p := ⟨w.heap.size + 1, o, none⟩) (show w.heap.size + 1 < _ from block_lt y0)).trans (yf o)
    replace x0 := kept hb (block_lt x0) x0
    replace x1 := kept hb (block_lt x1) x1
    replace y0 := kept hb (block_lt y0) y0
    replace y1 := kept hb (block_lt y1) y1
    replace r := Lib.hid (r.out.bel hb)
    replace bb := Lib.hid (bb.out.trans (hb.mono bb.out.size))
    rw [hv]
    clear hb
    go_wp2_with fail
    refine bodyPost_ret (v := .tuple #[.agg #[.int .i64 0, .slice none 0 0], .bool false]) (by simp [results, Try.results35, go_sem, y0, y1]) rfl ?_
    exact ⟨⟨none, 0, rfl, own_nil _ _⟩, (bb.out.setCell (by simp) _).setCell (by simp) _⟩
  rw [show varsO W xs = ⟨true, W, varL xs W.toNat xs.length⟩ from if_pos hv]
  have hW := validB_W hv
  obtain ⟨W, rfl⟩ := Int.eq_ofNat_of_zero_le (by omega : 0 ≤ W)
  rw [Int.toNat_natCast, hl]
  have hI : Im W n xs := Im.of hv hl
  have hw6 := hI.w6
  have hw1 := hI.w1
  have hn6 := hI.l6
  have hn1 := hI.l1
  have hvl : (varL xs W n).length = n := cells_len _ _ _
  have hvar := Lib.hid (fun (i j : Nat) (hi : i < n) (hj : j < W) wx hx => varO_nat hI hi hj ▸ var_impl (W : Int) a n cap xs i j wx hx hm)
  have hVL : varL xs W n = cellsL (varB xs W n) W n := rfl
  rw [hVL] at hvl ⊢
  generalize varB xs W n = vb at *
  replace hvl := Lib.hid hvl
  clear hI hVL
  go_enter Try.func35, Try.ntmps35
  go_wp2_with fail
  rw [← hW0]
  clear hW0
  refine (valid_impl (W : Int) a n cap xs _ r.out hm).mono ?_
  rintro e v2 ⟨rfl, hb⟩
  have szv2 := hb.size
  replace yf : ∀ o, v2.frozen? ⟨w.heap.size + 1, o, none⟩ = false := fun o => (hb.frozen (p := ⟨w.heap.size + 1, o, none⟩) (show w.heap.size + 1 < _ from block_lt y0)).trans (yf o)
  replace x0 := kept hb (block_lt x0) x0
  replace x1 := kept hb (block_lt x1) x1
  replace y0 := kept hb (block_lt y0) y0
  replace y1 := kept hb (block_lt y1) y1
  replace r := Lib.hid (r.out.bel hb)
  replace bb := Lib.hid (bb.out.trans (hb.mono bb.out.size))
  rw [hv]
  clear hb
  have hz : w.heap.size + 1 < v2.heap.size := block_lt y0
  have M1 := Lib.hid (Made.of1 (n := n) (Wb := W) hz bb.out x0 x1 y0 y1 yf r.out (by omega))
  have M2 := Lib.hid (Made.of2 (n := n) (Wb := W) hz bb.out x0 x1 y0 y1 yf r.out (by omega))
  clear y0 y1 yf r bb
  go_wp2_with fail
  have hmk := fun wx => run_make_row' (P := Try.prog) 23 3 (.int .i64 0) 8 Try.underlying23 infoInt rfl .i64 .i64 n (by omega) (by omega) wx
  go_region_held3 (fun W' => W'.cell? ⟨w.heap.size, 0, none⟩ = some (.int .i64 W) ∧ W'.cell? ⟨w.heap.size, 1, none⟩ = some (.slice a n cap))
    (first | go_keep) (fail)
  · go_wp2_with fail
    obtain ⟨U0, g, k2, eU, eg, ek, M⟩ := M1.out
    rw [← eU, ← ek, ← eg]
    clear x0 x1 hmk hz M1 M2 eU eg ek szv2
    have M := Lib.hid M
    have l1 := M.out.hg
    have l2 := M.out.hk
    have l3 := M.out.ne
    have lg : g < U0.heap.size := (rng_own M.out.own _ rfl).2
    have b0 := M.out.b0
    have b1 := M.out.b1
    have hUn := Lib.hid (show OwnI U0 (w.heap.size + 2) (some ⟨g, 0, none⟩) n n (cellsL (upV vb 0 0) W n) by rw [upv_none]; exact M.out.own)
    go_upto_region 5 with fail
    go_loopw [21] (fun i wr => ∃ k : Nat, k ≤ n ∧ i = .int .i64 k ∧ Hid (U0.grownBy wr (some g)) ∧ Hid (OwnI wr (w.heap.size + 2) (some ⟨g, 0, none⟩) n n (cellsL (upV vb k 0) W n))) (fun i _ => n - (intOf i).toNat)
    case atStart => exact ⟨0, Nat.zero_le _, rfl, World.grownBy.refl _ _, hUn⟩
    case round =>
      clear hUn
      obtain ⟨k, hk, rfl, hG, hO⟩ := hrel
      obtain ⟨wo, rfl⟩ : ∃ wo : World, wo = wr := ⟨_, rfl⟩
      have q0 := hG.out.cell b0 (by simpa using l3)
      have q1 := hG.out.cell b1 (by simpa using l3)
      by_cases hlt : k < n
      · go_wp2_with fail
        go_loopw [26] (fun i wr => ∃ j : Nat, j ≤ W ∧ i = .int .i64 j ∧ Hid (U0.grownBy wr (some g)) ∧ Hid (OwnI wr (w.heap.size + 2) (some ⟨g, 0, none⟩) n n (cellsL (upV vb k j) W n))) (fun i _ => W - (intOf i).toNat)
        case atStart => exact ⟨0, Nat.zero_le _, rfl, hG, hO⟩
        case round =>
          clear hG hO q0 q1
          obtain ⟨j, hj, rfl, hG, hO⟩ := hrel
          obtain ⟨wi, rfl⟩ : ∃ wi : World, wi = wr := ⟨_, rfl⟩
          by_cases hlj : j < W
          · have x0 := hG.out.cell M.out.x0 (by simp; omega)
            have x1 := hG.out.cell M.out.x1 (by simp; omega)
            have rI := Lib.hid (M.out.row.apart hG.out (fun b off e hn => by have := M.out.far b off e hn; simpa using this))
            have hIc := cells_im (upV vb k j) hw1 hw6 hn1 hn6
            have hrow := hIc.row k hlt
            have hp6 := pw_63 hw6
            have hput := upv_put (v := vb) hw1 hw6 hn1 hn6 hlt hlj
            have hcl := cells_bit (c := upV vb k j) hw6 hlt hlj
            have hup : upV vb k j k j = false := by unfold upV; simp
            rw [hup] at hcl
            unfold putL at hput
            generalize cellsL (upV vb k j) W n = L at *
            replace hput := Lib.hid hput
            clear hup
            go_wp2_with fail
            refine (hvar.out k j hlt hlj _ rI.out).mono ?_
            rintro e w2 ⟨rfl, hb2⟩
            have hG2 := Lib.hid (grown_trans hG.out (below_grown hb2 (some g)))
            have hO2 := Lib.hid (hO.out.bel hb2)
            clear hb2 hG hO rI x0 x1
            cases hvb : vb k j with
            | false =>
              rw [hvb] at hput
              have e0 : L.set k (putI (L.getD k 0) j false) = L := by
                have hb0 : bitI (L.getD k 0) j = 0 := hcl
                rw [putI_false, hb0, show L.getD k 0 - 0 * pw j = L.getD k 0 by omega]
                exact set_same hO2.out.len hlt
              have hfin := Lib.hid (e0.symm.trans hput.out)
              clear hput e0
              go_wp2_with fail
              exact ⟨⟨j + 1, by omega, by go_num, hG2, by rw [← hfin.out]; exact hO2⟩, by simp [intOf]; omega⟩
            | true =>
              rw [hvb] at hput
              have e0 := (orput (x := L.getD k 0) (j := j) (by omega) hrow.1 (by omega)).1
              have epw := wrap_pow j (by omega)
              have e1 : bits BinOp.or IntKind.i64 (L.getD k 0) (wrap64 (2 ^ j)) = putI (L.getD k 0) j true := by rw [epw.1]; exact e0
              have e2 : bits BinOp.or IntKind.i64 (L.getD k 0) (IntKind.i64.wrap (2 ^ j)) = putI (L.getD k 0) j true := by rw [epw.2]; exact e0
              obtain ⟨W2, hW2⟩ : ∃ W2, w2.drew = W2 := ⟨_, rfl⟩
              have hb3 : Below w2.heap.size w2 W2 := by rw [← hW2]; exact (Below.refl _ _).drew
              have hs0 := hO2.out.bel hb3
              have q0 : W2.cell? ⟨k2, 0, none⟩ = some (.int .i64 W) := kept hb3 (block_lt (hG2.out.cell b0 (by simpa using l3))) (hG2.out.cell b0 (by simpa using l3))
              have q1 : W2.cell? ⟨k2, 1, none⟩ = some (.slice (some ⟨g, 0, none⟩) n n) := kept hb3 (block_lt (hG2.out.cell b1 (by simpa using l3))) (hG2.out.cell b1 (by simpa using l3))
              have q2 := own_cell hs0 hlt
              have q3 := hs0.frozen
              have hs := hs0.set k (putI (L.getD k 0) j true)
              rw [hput.out] at hs
              have hG4 := Lib.hid (grown_set (j := k) (v := .int .i64 (putI (L.getD k 0) j true)) (grown_trans hG2.out (below_grown hb3 (some g))))
              replace hs := Lib.hid hs
              generalize putI (L.getD k 0) j true = c2 at *
              generalize L.getD k 0 = c at *
              clear hG2 hO2 hb3 hs0 e0 epw hput
              go_wp2_with fail
              refine region_tail 9 (by kernel_rfl) (by kernel_rfl) W2 hW2 ?_
              simp only [List.take_succ_cons, List.take_zero, List.drop_succ_cons, List.drop_zero]
              clear hW2
              repeat still_step
              refine wpStill_nil ?_
              go_wp2_with fail
              exact ⟨⟨j + 1, by omega, by go_num, hG4, hs⟩, by simp [intOf]; omega⟩
          · obtain rfl : j = W := by omega
            rw [upv_row] at hO
            go_wp2_with fail
            exact ⟨⟨k + 1, by omega, by go_num, hG, hO⟩, by simp [intOf]; omega⟩
      · obtain rfl : k = n := by omega
        have u0 := hG.out.cell M.out.y0 (by simp; omega)
        have u1 := hG.out.cell M.out.y1 (by simp; omega)
        have uf : ∀ o, wo.frozen? ⟨w.heap.size + 1, o, none⟩ = false := fun o => (World.frozen?_of_block (a := ⟨w.heap.size + 1, o, none⟩) (hG.out.block (w.heap.size + 1) (show w.heap.size + 1 < U0.heap.size from block_lt M.out.y0) (by simp; omega))).trans (M.out.yf o)
        have bG : Below w.heap.size w wo := M.out.bel.trans ((grown_below hG.out).mono (by have := M.out.bel.size; omega))
        rw [upv_all] at hO
        replace bG := Lib.hid bG
        go_wp2_with fail
        refine bodyPost_ret (v := .tuple #[.agg #[.int .i64 W, .slice (some ⟨g, 0, none⟩) k k], .bool true]) (by simp [results, Try.results35, go_sem, u0, u1]) rfl ?_
        refine ⟨⟨some ⟨g, 0, none⟩, k, by rw [hvl.out], ?_⟩, (bG.out.setCell (by simp) _).setCell (by simp) _⟩
        rw [show (Out.mk true (W : Int) (cellsL vb W k)).xs.length = k from hvl.out]
        exact ((hO.out.store (show w.heap.size + 1 < w.heap.size + 2 by omega) _).store (show w.heap.size + 1 < w.heap.size + 2 by omega) _).mono (by omega)
  · go_wp2_with fail
    obtain ⟨U0, g, k2, eU, eg, ek, M⟩ := M2.out
    rw [← eU, ← eg, ← ek]
    clear x0 x1 hmk hz M1 M2 eU eg ek szv2
    have M := Lib.hid M
    have l1 := M.out.hg
    have l2 := M.out.hk
    have l3 := M.out.ne
    have lg : g < U0.heap.size := (rng_own M.out.own _ rfl).2
    have b0 := M.out.b0
    have b1 := M.out.b1
    have hUn := Lib.hid (show OwnI U0 (w.heap.size + 2) (some ⟨g, 0, none⟩) n n (cellsL (upV vb 0 0) W n) by rw [upv_none]; exact M.out.own)
    go_upto_region 5 with fail
    go_loopw [21] (fun i wr => ∃ k : Nat, k ≤ n ∧ i = .int .i64 k ∧ Hid (U0.grownBy wr (some g)) ∧ Hid (OwnI wr (w.heap.size + 2) (some ⟨g, 0, none⟩) n n (cellsL (upV vb k 0) W n))) (fun i _ => n - (intOf i).toNat)
    case atStart => exact ⟨0, Nat.zero_le _, rfl, World.grownBy.refl _ _, hUn⟩
    case round =>
      clear hUn
      obtain ⟨k, hk, rfl, hG, hO⟩ := hrel
      obtain ⟨wo, rfl⟩ : ∃ wo : World, wo = wr := ⟨_, rfl⟩
      have q0 := hG.out.cell b0 (by simpa using l3)
      have q1 := hG.out.cell b1 (by simpa using l3)
      by_cases hlt : k < n
      · go_wp2_with fail
        go_loopw [26] (fun i wr => ∃ j : Nat, j ≤ W ∧ i = .int .i64 j ∧ Hid (U0.grownBy wr (some g)) ∧ Hid (OwnI wr (w.heap.size + 2) (some ⟨g, 0, none⟩) n n (cellsL (upV vb k j) W n))) (fun i _ => W - (intOf i).toNat)
        case atStart => exact ⟨0, Nat.zero_le _, rfl, hG, hO⟩
        case round =>
          clear hG hO q0 q1
          obtain ⟨j, hj, rfl, hG, hO⟩ := hrel
          obtain ⟨wi, rfl⟩ : ∃ wi : World, wi = wr := ⟨_, rfl⟩
          by_cases hlj : j < W
          · have x0 := hG.out.cell M.out.x0 (by simp; omega)
            have x1 := hG.out.cell M.out.x1 (by simp; omega)
            have rI := Lib.hid (M.out.row.apart hG.out (fun b off e hn => by have := M.out.far b off e hn; simpa using this))
            have hIc := cells_im (upV vb k j) hw1 hw6 hn1 hn6
            have hrow := hIc.row k hlt
            have hp6 := pw_63 hw6
            have hput := upv_put (v := vb) hw1 hw6 hn1 hn6 hlt hlj
            have hcl := cells_bit (c := upV vb k j) hw6 hlt hlj
            have hup : upV vb k j k j = false := by unfold upV; simp
            rw [hup] at hcl
            unfold putL at hput
            generalize cellsL (upV vb k j) W n = L at *
            replace hput := Lib.hid hput
            clear hup
            go_wp2_with fail
            refine (hvar.out k j hlt hlj _ rI.out).mono ?_
            rintro e w2 ⟨rfl, hb2⟩
            have hG2 := Lib.hid (grown_trans hG.out (below_grown hb2 (some g)))
            have hO2 := Lib.hid (hO.out.bel hb2)
            clear hb2 hG hO rI x0 x1
            cases hvb : vb k j with
            | false =>
              rw [hvb] at hput
              have e0 : L.set k (putI (L.getD k 0) j false) = L := by
                have hb0 : bitI (L.getD k 0) j = 0 := hcl
                rw [putI_false, hb0, show L.getD k 0 - 0 * pw j = L.getD k 0 by omega]
                exact set_same hO2.out.len hlt
              have hfin := Lib.hid (e0.symm.trans hput.out)
              clear hput e0
              go_wp2_with fail
              exact ⟨⟨j + 1, by omega, by go_num, hG2, by rw [← hfin.out]; exact hO2⟩, by simp [intOf]; omega⟩
            | true =>
              rw [hvb] at hput
              have e0 := (orput (x := L.getD k 0) (j := j) (by omega) hrow.1 (by omega)).1
              have epw := wrap_pow j (by omega)
              have e1 : bits BinOp.or IntKind.i64 (L.getD k 0) (wrap64 (2 ^ j)) = putI (L.getD k 0) j true := by rw [epw.1]; exact e0
              have e2 : bits BinOp.or IntKind.i64 (L.getD k 0) (IntKind.i64.wrap (2 ^ j)) = putI (L.getD k 0) j true := by rw [epw.2]; exact e0
              obtain ⟨W2, hW2⟩ : ∃ W2, w2.drew = W2 := ⟨_, rfl⟩
              have hb3 : Below w2.heap.size w2 W2 := by rw [← hW2]; exact (Below.refl _ _).drew
              have hs0 := hO2.out.bel hb3
              have q0 : W2.cell? ⟨k2, 0, none⟩ = some (.int .i64 W) := kept hb3 (block_lt (hG2.out.cell b0 (by simpa using l3))) (hG2.out.cell b0 (by simpa using l3))
              have q1 : W2.cell? ⟨k2, 1, none⟩ = some (.slice (some ⟨g, 0, none⟩) n n) := kept hb3 (block_lt (hG2.out.cell b1 (by simpa using l3))) (hG2.out.cell b1 (by simpa using l3))
              have q2 := own_cell hs0 hlt
              have q3 := hs0.frozen
              have hs := hs0.set k (putI (L.getD k 0) j true)
              rw [hput.out] at hs
              have hG4 := Lib.hid (grown_set (j := k) (v := .int .i64 (putI (L.getD k 0) j true)) (grown_trans hG2.out (below_grown hb3 (some g))))
              replace hs := Lib.hid hs
              generalize putI (L.getD k 0) j true = c2 at *
              generalize L.getD k 0 = c at *
              clear hG2 hO2 hb3 hs0 e0 epw hput
              go_wp2_with fail
              refine region_tail 9 (by kernel_rfl) (by kernel_rfl) W2 hW2 ?_
              simp only [List.take_succ_cons, List.take_zero, List.drop_succ_cons, List.drop_zero]
              clear hW2
              repeat still_step
              refine wpStill_nil ?_
              go_wp2_with fail
              exact ⟨⟨j + 1, by omega, by go_num, hG4, hs⟩, by simp [intOf]; omega⟩
          · obtain rfl : j = W := by omega
            rw [upv_row] at hO
            go_wp2_with fail
            exact ⟨⟨k + 1, by omega, by go_num, hG, hO⟩, by simp [intOf]; omega⟩
      · obtain rfl : k = n := by omega
        have u0 := hG.out.cell M.out.y0 (by simp; omega)
        have u1 := hG.out.cell M.out.y1 (by simp; omega)
        have uf : ∀ o, wo.frozen? ⟨w.heap.size + 1, o, none⟩ = false := fun o => (World.frozen?_of_block (a := ⟨w.heap.size + 1, o, none⟩) (hG.out.block (w.heap.size + 1) (show w.heap.size + 1 < U0.heap.size from block_lt M.out.y0) (by simp; omega))).trans (M.out.yf o)
        have bG : Below w.heap.size w wo := M.out.bel.trans ((grown_below hG.out).mono (by have := M.out.bel.size; omega))
        rw [upv_all] at hO
        replace bG := Lib.hid bG
        go_wp2_with fail
        refine bodyPost_ret (v := .tuple #[.agg #[.int .i64 W, .slice (some ⟨g, 0, none⟩) k k], .bool true]) (by simp [results, Try.results35, go_sem, u0, u1]) rfl ?_
        refine ⟨⟨some ⟨g, 0, none⟩, k, by rw [hvl.out], ?_⟩, (bG.out.setCell (by simp) _).setCell (by simp) _⟩
        rw [show (Out.mk true (W : Int) (cellsL vb W k)).xs.length = k from hvl.out]
        exact ((hO.out.store (show w.heap.size + 1 < w.heap.size + 2 by omega) _).store (show w.heap.size + 1 < w.heap.size + 2 by omega) _).mono (by omega)
end Go.Proofs.Ytepeplmbnkjeeaa

