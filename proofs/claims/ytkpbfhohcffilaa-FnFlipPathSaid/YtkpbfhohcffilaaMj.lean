/-
  The contracts of the program's changeBetween, CellVariable, CellsVariable and CellFlip.
  The contract of the program's CellFlip.
  Lists of flags: comparing, marking and holding them; the contracts of CellReach of both sides.
  The contracts of chapter 13's functions in the forms that the laws ask for.
-/
import Derived.Test.YtkpbfhohcffilaaMg
import Derived.Test.YtkpbfhohcffilaaHc
import Derived.Test.YtkpbfhohcffilaaMp
import Derived.Test.YtkpbfhohcffilaaMi
import Derived.Test.YtkpbfhohcffilaaWg
import Derived.Test.YtkpbfhohcffilaaKh

namespace Go.Proofs.Ytkpbfhohcffilaa
set_option maxRecDepth 100000
open Go.RowKit

theorem xort_nat : ∀ j, j < 6 → ∀ x, x < 64 → bits BinOp.xor IntKind.i64 ((x : Nat) : Int) (wrap64 (2 ^ j)) = putI ((x : Nat) : Int) j (bitI ((x : Nat) : Int) j == 0) := by decide +kernel
theorem xort_nat2 : ∀ j, j < 6 → ∀ x, x < 64 → bits BinOp.xor IntKind.i64 ((x : Nat) : Int) (IntKind.i64.wrap (2 ^ j)) = putI ((x : Nat) : Int) j (bitI ((x : Nat) : Int) j == 0) := by decide +kernel
theorem xor_tog {W n : Nat} {xs : List Int} (h : Im W n xs) {i j : Nat} (hi : i < n) (hj : j < W) : bits BinOp.xor IntKind.i64 (xs.getD i 0) (wrap64 (2 ^ j)) = (togL xs W n i j).getD i 0 ∧ bits BinOp.xor IntKind.i64 (xs.getD i 0) (IntKind.i64.wrap (2 ^ j)) = (togL xs W n i j).getD i 0 ∧ xs.set i ((togL xs W n i j).getD i 0) = togL xs W n i j := by
  obtain ⟨x, hx, h64⟩ := h.nat hi
  have hw6 := h.w6
  have e := put_tog h hi hj
  have b0 := bit_zero xs i j
  have g : (togL xs W n i j).getD i 0 = putI (xs.getD i 0) j (!cellOf xs i j) := by
    rw [← e, put_get (n := n) h.hl hi, if_pos rfl]
  rw [g]
  refine ⟨?_, ?_, by rw [← e]; rfl⟩
  · rw [hx, xort_nat j (by omega) x h64, ← hx, b0]
  · rw [hx, xort_nat2 j (by omega) x h64, ← hx, b0]
set_option maxHeartbeats 2000000 in
theorem tog_impl (W B g n cap : Nat) (xs : List Int) (p q i j : Nat) (w : World) (h : OwnI w B (some ⟨g, 0, none⟩) n cap xs) (hv : Im W n xs) (hpq : p = i ∧ q = n + j ∨ q = i ∧ p = n + j) (hi : i < n) (hj : j < W) :
    Calls Try.prog 52 #[.agg #[.int .i64 W, .slice (some ⟨g, 0, none⟩) n cap], .int .i64 p, .int .i64 q] w fun e w' => e = .returned (.tuple #[]) ∧ w.grownBy w' (some g) ∧ OwnI w' B (some ⟨g, 0, none⟩) n cap (togL xs W n i j) := by
  have hw6 := hv.w6
  have hn6 := hv.l6
  have ht := xor_tog hv hi hj
  obtain ⟨W0, hW0⟩ : ∃ W0, W0 = (w.alloc (.cells #[.int .i64 W, .slice (some ⟨g, 0, none⟩) n cap] 25)) := ⟨_, rfl⟩
  have bb : Hid (Below w.heap.size w W0) := by subst hW0; exact (Below.refl _ _).alloc (Nat.le_refl _) _
  have x0 : W0.cell? ⟨w.heap.size, 0, none⟩ = some (.int .i64 W) := by subst hW0; go_simp
  have x1 : W0.cell? ⟨w.heap.size, 1, none⟩ = some (.slice (some ⟨g, 0, none⟩) n cap) := by subst hW0; go_simp
  obtain ⟨W2, hW2⟩ : ∃ W2, W0.drew = W2 := ⟨_, rfl⟩
  have hb : Below W0.heap.size W0 W2 := by rw [← hW2]; exact (Below.refl _ _).drew
  replace x0 := kept hb (block_lt x0) x0
  replace x1 := kept hb (block_lt x1) x1
  have ho := (h.bel bb.out).bel hb
  have hgr : w.grownBy W2 (some g) := grown_trans (below_grown bb.out _) (below_grown hb _)
  have hck := own_cell ho hi
  have hfz := ho.frozen
  have hs := ho.set i ((togL xs W n i j).getD i 0)
  rw [ht.2.2] at hs
  have hg2 := Lib.hid (grown_set (j := i) (v := .int .i64 ((togL xs W n i j).getD i 0)) hgr)
  have e1 := ht.1
  have e2 := ht.2.1
  replace hs := Lib.hid hs
  generalize togL xs W n i j = Z at *
  generalize Z.getD i 0 = z at *
  generalize xs.getD i 0 = x at *
  clear h ho hgr hv ht hb
  rcases hpq with ⟨rfl, hq⟩ | ⟨rfl, hq⟩
  · have hlt : (p : Int) < (q : Int) := by omega
    have es : (q : Int) - (n : Int) = (j : Int) := by omega
    have hmn : min (p : Int) (q : Int) = (p : Int) := by omega
    have hmx : max (p : Int) (q : Int) = (q : Int) := by omega
    have ewj : IntKind.i64.wrap (j : Int) = (j : Int) := IntWalk.i64_in _ ⟨by omega, by omega⟩
    replace hq := Lib.hid hq
    go_enter Try.func52, Try.ntmps52
    go_wp2_with fail
    rw [← hW0]
    clear hW0
    refine region_tail 17 (by kernel_rfl) (by kernel_rfl) W2 hW2 ?_
    simp only [List.take_succ_cons, List.take_zero, List.drop_succ_cons, List.drop_zero]
    clear hW2
    repeat still_step
    refine wpStill_nil ?_
    go_wp2_with fail
    go_end0
    exact ⟨rfl, hg2.out, hs.out⟩
  · have hlt : (q : Int) < (p : Int) := by omega
    have es : (p : Int) - (n : Int) = (j : Int) := by omega
    have hmn : min (p : Int) (q : Int) = (q : Int) := by omega
    have hmx : max (p : Int) (q : Int) = (p : Int) := by omega
    have ewj : IntKind.i64.wrap (j : Int) = (j : Int) := IntWalk.i64_in _ ⟨by omega, by omega⟩
    replace hq := Lib.hid hq
    go_enter Try.func52, Try.ntmps52
    go_wp2_with fail
    rw [← hW0]
    clear hW0
    refine region_tail 17 (by kernel_rfl) (by kernel_rfl) W2 hW2 ?_
    simp only [List.take_succ_cons, List.take_zero, List.drop_succ_cons, List.drop_zero]
    clear hW2
    repeat still_step
    refine wpStill_nil ?_
    go_wp2_with fail
    go_end0
    exact ⟨rfl, hg2.out, hs.out⟩
set_option maxHeartbeats 2000000 in
theorem var_impl (W : Int) (a : Option Addr) (n cap : Nat) (xs : List Int) (i j : Int) (w : World) (h : Row w a n xs) (hm : n ≤ 9223372036854775807) :
    Calls Try.prog 32 #[.agg #[.int .i64 W, .slice a n cap], .int .i64 i, .int .i64 j] w fun e w' => e = .returned (.bool (varO W xs i j)) ∧ Below w.heap.size w w' := by
  have hl := h.1
  obtain ⟨W0, hW0⟩ : ∃ W0, W0 = (w.alloc (.cells #[.int .i64 W, .slice a n cap] 25)) := ⟨_, rfl⟩
  have bb : Hid (Below w.heap.size w W0) := by subst hW0; exact (Below.refl _ _).alloc (Nat.le_refl _) _
  have x0 : W0.cell? ⟨w.heap.size, 0, none⟩ = some (.int .i64 W) := by subst hW0; go_simp
  have x1 : W0.cell? ⟨w.heap.size, 1, none⟩ = some (.slice a n cap) := by subst hW0; go_simp
  have r := Lib.hid (h.bel bb.out)
  clear h
  by_cases hv : validB W xs = true
  case neg =>
    rw [varO_no (fun h => hv h.1)]
    have hv : validB W xs = false := by simpa using hv
    clear hl
    go_enter Try.func32, Try.ntmps32
    go_wp2_with fail
    rw [← hW0]
    clear hW0
    refine (valid_impl W a n cap xs _ r.out hm).mono ?_
    rintro e v1 ⟨rfl, hb⟩
    have szv1 := hb.size
    replace x0 := kept hb (block_lt x0) x0
    replace x1 := kept hb (block_lt x1) x1
    replace r := Lib.hid (r.out.bel hb)
    replace bb := Lib.hid (bb.out.trans (hb.mono bb.out.size))
    rw [hv]
    clear hb
    go_wp2_with fail
    go_ret
    exact ⟨rfl, bb.out⟩
  have hW := validB_W hv
  by_cases hc : cellB W n i j = true
  case neg =>
    rw [varO_no (fun h => hc (by rw [← hl]; exact h.2))]
    have hc : cellB W n i j = false := by simpa using hc
    clear hl
    go_enter Try.func32, Try.ntmps32
    go_wp2_with fail
    rw [← hW0]
    clear hW0
    refine (valid_impl W a n cap xs _ r.out hm).mono ?_
    rintro e v2 ⟨rfl, hb⟩
    have szv2 := hb.size
    replace x0 := kept hb (block_lt x0) x0
    replace x1 := kept hb (block_lt x1) x1
    replace r := Lib.hid (r.out.bel hb)
    replace bb := Lib.hid (bb.out.trans (hb.mono bb.out.size))
    rw [hv]
    clear hb
    go_wp2_with fail
    refine (inside_any W a n cap i j _).mono ?_
    rintro e v3 ⟨rfl, hb⟩
    have szv3 := hb.size
    replace x0 := kept hb (block_lt x0) x0
    replace x1 := kept hb (block_lt x1) x1
    replace r := Lib.hid (r.out.bel hb)
    replace bb := Lib.hid (bb.out.trans (hb.mono bb.out.size))
    rw [hc]
    clear hb
    go_wp2_with fail
    go_ret
    exact ⟨rfl, bb.out⟩
  have hcc := cellB_iff.1 hc
  obtain ⟨W, rfl⟩ := Int.eq_ofNat_of_zero_le (by omega : 0 ≤ W)
  obtain ⟨i, rfl⟩ := Int.eq_ofNat_of_zero_le hcc.1
  obtain ⟨j, rfl⟩ := Int.eq_ofNat_of_zero_le hcc.2.2.1
  have hI : Im W n xs := Im.of hv hl
  have hi : i < n := by omega
  have hj : j < W := by omega
  rw [varO_nat hI hi hj]
  have hw6 := hI.w6
  have hn6 := hI.l6
  have hw1 := hI.w1
  have hn1 := hI.l1
  have hbo := var_both (xs := xs) hi hj
  have hA := arrs_all hI
  have harr := Lib.hid (fun wx hx => arrows_any W a n cap xs wx hx hI)
  unfold parP at hbo
  obtain ⟨u, hu⟩ : ∃ u, n + j = u := ⟨_, rfl⟩
  obtain ⟨M, hM⟩ : ∃ M, n + W = M := ⟨_, rfl⟩
  have eu : (n : Int) + (j : Int) = (u : Int) := by omega
  have ewu : IntKind.i64.wrap (u : Int) = (u : Int) := IntWalk.i64_in _ ⟨by omega, by omega⟩
  have huM : u < M := by omega
  have hiM : i < M := by omega
  rw [hu, hM] at hbo
  rw [hM] at hA harr
  have hre := Lib.hid (fun b c s t wx hx hs ht => reaches_any b M c _ _ s t wx hx hA (by omega) (by omega) hs ht)
  generalize rowsL (arrK xs n n n 0) M = ms at *
  have hre1 := Lib.hid (fun b c wx hx => hre.out b c i u wx hx hiM huM)
  have hre2 := Lib.hid (fun b c wx hx => hre.out b c u i wx hx huM hiM)
  clear hre
  generalize (bfsP (arC (cellOf xs) n) M i).getD u 0 = z1 at *
  rw [← hbo]
  clear hI hA hbo
  replace hu := Lib.hid hu
  replace hM := Lib.hid hM
  go_enter Try.func32, Try.ntmps32
  go_wp2_with fail
  rw [← hW0]
  clear hW0
  refine (valid_impl (W : Int) a n cap xs _ r.out hm).mono ?_
  rintro e v4 ⟨rfl, hb⟩
  have szv4 := hb.size
  replace x0 := kept hb (block_lt x0) x0
  replace x1 := kept hb (block_lt x1) x1
  replace r := Lib.hid (r.out.bel hb)
  replace bb := Lib.hid (bb.out.trans (hb.mono bb.out.size))
  rw [hv]
  clear hb
  go_wp2_with fail
  refine (inside_any (W : Int) a n cap i j _).mono ?_
  rintro e v5 ⟨rfl, hb⟩
  have szv5 := hb.size
  replace x0 := kept hb (block_lt x0) x0
  replace x1 := kept hb (block_lt x1) x1
  replace r := Lib.hid (r.out.bel hb)
  replace bb := Lib.hid (bb.out.trans (hb.mono bb.out.size))
  rw [hc]
  clear hb
  go_wp2_with fail
  go_region_law (first | ((go_simp; go_at_call 53; (with_reducible refine (harr.out _ (r.out.bel ((Below.refl _ _).drew))).mono ?_); rintro e U ⟨⟨g, rfl, ho⟩, hb2⟩; have hb : Below v5.heap.size v5 U := (((Below.refl _ _).drew).trans (hb2.mono (Nat.le_refl _))); replace x0 := kept hb (block_lt x0) x0; replace x1 := kept hb (block_lt x1) x1; have rm := Lib.hid ho.row; replace bb := Lib.hid (bb.out.trans (hb.mono bb.out.size)); clear hb hb2 ho)))
  all_goals
    go_wp2_with fail
    refine (hre1.out _ _ _ rm.out).mono ?_
    rintro e V1 ⟨rfl, hb⟩
    replace rm := Lib.hid (rm.out.bel hb)
    replace bb := Lib.hid (bb.out.trans (hb.mono bb.out.size))
    clear hb
    by_cases hz : 0 ≤ z1
    · rw [decide_eq_true hz]
      go_wp2_with fail
      refine (hre2.out _ _ _ rm.out).mono ?_
      rintro e V2 ⟨rfl, hb⟩
      replace bb := Lib.hid (bb.out.trans (hb.mono bb.out.size))
      clear hb
      go_wp2_with fail
      go_ret
      exact ⟨by rw [decide_eq_true hz]; rfl, bb.out⟩
    · rw [decide_eq_false hz]
      go_wp2_with fail
      go_ret
      exact ⟨by rw [decide_eq_false (show ¬ 0 ≤ z1 by omega)]; rfl, bb.out⟩
theorem set_same {L : List Int} {n k : Nat} (hl : L.length = n) (hk : k < n) : L.set k (L.getD k 0) = L := by
  rw [getD_elem (by omega)]; exact List.set_getElem_self (by omega)
theorem Made.of1 {w w1 : World} {WA Wb : Int} {a : Option Addr} {len cap n : Nat} {xs : List Int} (hz : w.heap.size + 1 < w1.heap.size) (bb : Below w.heap.size w w1)
    (x0 : w1.cell? ⟨w.heap.size, 0, none⟩ = some (.int .i64 WA)) (x1 : w1.cell? ⟨w.heap.size, 1, none⟩ = some (.slice a len cap)) (y0 : w1.cell? ⟨w.heap.size + 1, 0, none⟩ = some (.int .i64 0)) (y1 : w1.cell? ⟨w.heap.size + 1, 1, none⟩ = some (.slice none 0 0)) (yf : ∀ o, w1.frozen? ⟨w.heap.size + 1, o, none⟩ = false) (h : Row w1 a len xs) (hn : n ≤ 1048576) :
    ∃ W0 g k2, W0 = ((w1.alloc (.cells (madeCells #[.int .i64 0] n) 3)).alloc (.cells #[.int .i64 Wb, .slice (some ⟨w1.heap.size, 0, none⟩) n n] 25)).drew ∧ g = w1.heap.size ∧ k2 = w1.heap.size + 1 ∧ Made w W0 g k2 WA a len cap xs Wb n :=
  ⟨_, _, _, rfl, rfl, rfl, made1 hz bb x0 x1 y0 y1 yf h hn⟩
theorem Made.of2 {w w1 : World} {WA Wb : Int} {a : Option Addr} {len cap n : Nat} {xs : List Int} (hz : w.heap.size + 1 < w1.heap.size) (bb : Below w.heap.size w w1)
    (x0 : w1.cell? ⟨w.heap.size, 0, none⟩ = some (.int .i64 WA)) (x1 : w1.cell? ⟨w.heap.size, 1, none⟩ = some (.slice a len cap)) (y0 : w1.cell? ⟨w.heap.size + 1, 0, none⟩ = some (.int .i64 0)) (y1 : w1.cell? ⟨w.heap.size + 1, 1, none⟩ = some (.slice none 0 0)) (yf : ∀ o, w1.frozen? ⟨w.heap.size + 1, o, none⟩ = false) (h : Row w1 a len xs) (hn : n ≤ 1048576) :
    ∃ W0 g k2, W0 = ((w1.alloc (.cells #[.int .i64 Wb, .slice (some ⟨w1.heap.size + 1, 0, none⟩) n n] 25)).alloc (.cells (madeCells #[.int .i64 0] n) 3)).drew ∧ g = w1.heap.size + 1 ∧ k2 = w1.heap.size ∧ Made w W0 g k2 WA a len cap xs Wb n :=
  ⟨_, _, _, rfl, rfl, rfl, made2 hz bb x0 x1 y0 y1 yf h hn⟩
end Go.Proofs.Ytkpbfhohcffilaa

namespace Go.Proofs.Ytkpbfhohcffilaa
set_option maxRecDepth 100000
open Go.RowKit

set_option maxHeartbeats 4000000 in
theorem flip_impl (W : Int) (a : Option Addr) (n cap : Nat) (xs : List Int) (i j : Int) (w : World) (h : Row w a n xs) (hm : n ≤ 9223372036854775807) :
    Calls Try.prog 28 #[.agg #[.int .i64 W, .slice a n cap], .int .i64 i, .int .i64 j] w (Gives w (flipO W xs i j)) := by
  have hl := h.1
  obtain ⟨W0, hW0⟩ : ∃ W0, W0 = ((w.alloc (.cells #[.int .i64 W, .slice a n cap] 25)).alloc (.cells #[.int .i64 0, .slice none 0 0] 25)) := ⟨_, rfl⟩
  have bb : Hid (Below w.heap.size w W0) := by subst hW0; exact ((Below.refl _ _).alloc (Nat.le_refl _) _).alloc (by simp) _
  have x0 : W0.cell? ⟨w.heap.size, 0, none⟩ = some (.int .i64 W) := by subst hW0; go_simp
  have x1 : W0.cell? ⟨w.heap.size, 1, none⟩ = some (.slice a n cap) := by subst hW0; go_simp
  have y0 : W0.cell? ⟨w.heap.size + 1, 0, none⟩ = some (.int .i64 0) := by subst hW0; go_simp
  have y1 : W0.cell? ⟨w.heap.size + 1, 1, none⟩ = some (.slice none 0 0) := by subst hW0; go_simp
  have yf : ∀ o, W0.frozen? ⟨w.heap.size + 1, o, none⟩ = false := fun o => by subst hW0; go_simp
  have r := Lib.hid (h.bel bb.out)
  have rb := Lib.hid (row_lt h)
  clear h
  have l0 := block_lt y0
  simp only at l0
  have hvs := Lib.hid (fun wx hx => var_impl W a n cap xs i j wx hx hm)
  by_cases hv : varO W xs i j = true
  case neg =>
    rw [show flipO W xs i j = .no from if_neg hv]
    have hv : varO W xs i j = false := by simpa using hv
    clear hl
    go_enter Try.func28, Try.ntmps28
    go_wp2_with fail
    rw [← hW0]
    clear hW0
    refine (hvs.out _ r.out).mono ?_
    rintro e v1 ⟨rfl, hb⟩
    have szv1 := hb.size
    replace yf : ∀ o, v1.frozen? ⟨w.heap.size + 1, o, none⟩ = false := fun o => (hb.frozen (p := ⟨w.heap.size + 1, o, none⟩) (show w.heap.size + 1 < _ from block_lt y0)).trans (yf o)
    replace x0 := kept hb (block_lt x0) x0
    replace x1 := kept hb (block_lt x1) x1
    replace y0 := kept hb (block_lt y0) y0
    replace y1 := kept hb (block_lt y1) y1
    replace r := Lib.hid (r.out.bel hb)
    replace bb := Lib.hid (bb.out.trans (hb.mono bb.out.size))
    rw [hv]
    clear hb
    go_wp2_with fail
    refine bodyPost_ret (v := .tuple #[.agg #[.int .i64 0, .slice none 0 0], .bool false]) (by simp [results, Try.results28, go_sem, y0, y1]) rfl ?_
    exact ⟨⟨none, 0, rfl, own_nil _ _⟩, (bb.out.setCell (by simp) _).setCell (by simp) _⟩
  rw [show flipO W xs i j = ⟨true, W, flipL xs W.toNat xs.length i.toNat j.toNat⟩ from if_pos hv]
  obtain ⟨W, i, j, rfl, rfl, rfl, hI, hi, hj, hvb⟩ := varO_im hl hv
  rw [Int.toNat_natCast, Int.toNat_natCast, Int.toNat_natCast, hl]
  have hw6 := hI.w6
  have hw1 := hI.w1
  have hn6 := hI.l6
  have hn1 := hI.l1
  obtain ⟨rk, hrk, hf0⟩ := flip_at0 hI hi hj hvb
  have hfl : (flipL xs W n i j).length = n := (flip_all hI hi hj hvb).1.hl
  have hlt := ends_lt (xs := xs) hi hj
  have hes := fun h => ends_set (xs := xs) (n := n) (i := i) (j := j) h
  have hen := fun h => ends_not (xs := xs) (n := n) (i := i) (j := j) h
  have hhas := Lib.hid (fun wx hx => has_impl (W : Int) a n cap xs i j wx hx hm)
  rw [hI.has hi hj, bit_one] at hhas
  have hA := arrs_all hI
  have harr := Lib.hid (fun wx hx => arrows_any W a n cap xs wx hx hI)
  have hstep := Lib.hid (fun (fu : Nat) (ys : List Int) (p : Nat) (h : FlipAt xs W n i j rk fu ys p) (hne : p ≠ fromP xs n i j) => h.step hrk hi hj hne)
  have hdone := Lib.hid (fun (fu : Nat) (ys : List Int) (h : FlipAt xs W n i j rk fu ys (fromP xs n i j)) => h.done)
  have hFim := Lib.hid (fun (fu : Nat) (ys : List Int) (p : Nat) (h : FlipAt xs W n i j rk fu ys p) => (⟨h.im, h.lt⟩ : Im W n ys ∧ p < n + W))
  have hsrc := fun b c ms wx hx (hB : Arrs ms (arC (cellOf xs) n) (n + W)) => sources_any b (n + W) c ms _ (fromP xs n i j) wx hx hB (by omega) (by omega) hlt.1
  have hQ : bfsP (arC (cellOf xs) n) (n + W) (fromP xs n i j) = parP xs W n (fromP xs n i j) := rfl
  rw [hQ] at hsrc
  replace hsrc := Lib.hid (fun b c wx hx => hsrc b c _ wx hx hA)
  obtain ⟨FA, hFA⟩ : ∃ FA : Nat → List Int → Nat → Prop, FA = FlipAt xs W n i j rk := ⟨_, rfl⟩
  rw [← hFA] at hf0 hstep hdone hFim
  clear hFA hQ hA
  generalize fromP xs n i j = f at *
  generalize toP xs n i j = t at *
  generalize hPP : parP xs W n f = Q at *
  generalize flipL xs W n i j = Z at *
  generalize rowsL (arrK xs n n n 0) (n + W) = ms at *
  obtain ⟨M, hM⟩ : ∃ M, n + W = M := ⟨_, rfl⟩
  obtain ⟨u, hu⟩ : ∃ u, n + j = u := ⟨_, rfl⟩
  rw [hM] at hlt hFim harr hsrc
  rw [hu] at hes hen
  have eu : (n : Int) + (j : Int) = (u : Int) := by omega
  have ewu : IntKind.i64.wrap (u : Int) = (u : Int) := IntWalk.i64_in _ ⟨by omega, by omega⟩
  have hM12 : M ≤ 12 := by omega
  replace hM := Lib.hid hM
  replace hf0 := Lib.hid hf0
  replace hPP := Lib.hid hPP
  replace hfl := Lib.hid hfl
  replace hI := Lib.hid hI
  clear hrk
  go_enter Try.func28, Try.ntmps28
  go_wp2_with fail
  rw [← hW0]
  clear hW0
  refine (hvs.out _ r.out).mono ?_
  rintro e v2 ⟨rfl, hb⟩
  have szv2 := hb.size
  replace yf : ∀ o, v2.frozen? ⟨w.heap.size + 1, o, none⟩ = false := fun o => (hb.frozen (p := ⟨w.heap.size + 1, o, none⟩) (show w.heap.size + 1 < _ from block_lt y0)).trans (yf o)
  replace x0 := kept hb (block_lt x0) x0
  replace x1 := kept hb (block_lt x1) x1
  replace y0 := kept hb (block_lt y0) y0
  replace y1 := kept hb (block_lt y1) y1
  replace r := Lib.hid (r.out.bel hb)
  replace bb := Lib.hid (bb.out.trans (hb.mono bb.out.size))
  rw [hv]
  clear hb
  go_wp2_with fail
  go_quiet (fail)
  have hb : Below v2.heap.size v2 (v2.drewN nq) := below_drewN (Below.refl _ _) nq
  have szq := hb.size
  replace yf : ∀ o, (v2.drewN nq).frozen? ⟨w.heap.size + 1, o, none⟩ = false := fun o => (hb.frozen (p := ⟨w.heap.size + 1, o, none⟩) (show w.heap.size + 1 < _ from block_lt y0)).trans (yf o)
  replace x0 := kept hb (block_lt x0) x0
  replace x1 := kept hb (block_lt x1) x1
  replace y0 := kept hb (block_lt y0) y0
  replace y1 := kept hb (block_lt y1) y1
  replace r := Lib.hid (r.out.bel hb)
  replace bb := Lib.hid (bb.out.trans (hb.mono bb.out.size))
  clear hb szq
  generalize hwq : v2.drewN nq = q0 at *
  clear hwq
  go_wp2_with fail
  refine (hhas.out _ r.out).mono ?_
  rintro e v4 ⟨rfl, hb⟩
  have szv4 := hb.size
  replace yf : ∀ o, v4.frozen? ⟨w.heap.size + 1, o, none⟩ = false := fun o => (hb.frozen (p := ⟨w.heap.size + 1, o, none⟩) (show w.heap.size + 1 < _ from block_lt y0)).trans (yf o)
  replace x0 := kept hb (block_lt x0) x0
  replace x1 := kept hb (block_lt x1) x1
  replace y0 := kept hb (block_lt y0) y0
  replace y1 := kept hb (block_lt y1) y1
  replace r := Lib.hid (r.out.bel hb)
  replace bb := Lib.hid (bb.out.trans (hb.mono bb.out.size))
  clear hb
  cases hcb : cellOf xs i j with
  | true =>
    obtain ⟨ef, et⟩ := hes hcb
    replace ef := ef.symm
    replace et := et.symm
    subst ef
    subst et
    clear hes hen hcb hhas hvs
    replace hu := Lib.hid hu
    go_wp2_with fail
    refine (icopy_any (W : Int) a n cap xs _ r.out hn1 (by omega)).mono ?_
    rintro e v5 ⟨⟨ac, c2, rfl, ho⟩, hb⟩
    have szv5 := hb.size
    replace yf : ∀ o, v5.frozen? ⟨w.heap.size + 1, o, none⟩ = false := fun o => (hb.frozen (p := ⟨w.heap.size + 1, o, none⟩) (show w.heap.size + 1 < _ from block_lt y0)).trans (yf o)
    replace x0 := kept hb (block_lt x0) x0
    replace x1 := kept hb (block_lt x1) x1
    have y0o := y0
    replace y0 := kept hb (block_lt y0) y0
    replace y1 := kept hb (block_lt y1) y1
    replace r := Lib.hid (r.out.bel hb)
    replace bb := Lib.hid (bb.out.trans (hb.mono bb.out.size))
    obtain ⟨g2, rfl, og2, og3⟩ : ∃ g, ac = some ⟨g, 0, none⟩ ∧ v4.heap.size ≤ g ∧ g < v5.heap.size := by
      rcases ho.cases with ⟨_, h, _⟩ | ⟨g, h1, h2, h3⟩
      · omega
      · exact ⟨g, h1, h2, h3⟩
    have l5 : w.heap.size + 2 ≤ v4.heap.size := block_lt (show v4.cell? ⟨w.heap.size + 1, 0, none⟩ = _ from y0o)
    replace ho := Lib.hid (OwnI.mono ho (B' := w.heap.size + 2) l5)
    clear hb
    clear y0o
    obtain ⟨B, hB⟩ : ∃ B, v5.heap.size = B := ⟨_, rfl⟩
    obtain ⟨U0, hU0⟩ : ∃ U0, v5.alloc (.cells #[.int .i64 W, .slice (some ⟨g2, 0, none⟩) n c2] 25) = U0 := ⟨_, rfl⟩
    have hb : Below v5.heap.size v5 U0 := by rw [← hU0]; exact (Below.refl _ _).alloc (Nat.le_refl _) _
    have o0 : U0.cell? ⟨B, 0, none⟩ = some (.int .i64 W) := by rw [← hU0, ← hB]; simp
    have o1 : U0.cell? ⟨B, 1, none⟩ = some (.slice (some ⟨g2, 0, none⟩) n c2) := by rw [← hU0, ← hB]; simp
    have szU0 := hb.size
    replace yf : ∀ o, U0.frozen? ⟨w.heap.size + 1, o, none⟩ = false := fun o => (hb.frozen (p := ⟨w.heap.size + 1, o, none⟩) (show w.heap.size + 1 < _ from block_lt y0)).trans (yf o)
    replace x0 := kept hb (block_lt x0) x0
    replace x1 := kept hb (block_lt x1) x1
    replace y0 := kept hb (block_lt y0) y0
    replace y1 := kept hb (block_lt y1) y1
    replace r := Lib.hid (r.out.bel hb)
    replace ho := Lib.hid (ho.out.bel hb)
    replace bb := Lib.hid (bb.out.trans (hb.mono bb.out.size))
    clear hb
    have hgB : g2 < B := by omega
    have hg2w : w.heap.size + 2 ≤ g2 := by omega
    go_upto_region 7 with fail
    (try rw [hU0])
    (try rw [hB])
    have lB : B < U0.heap.size := block_lt o0
    have lz : w.heap.size + 1 < U0.heap.size := block_lt y0
    clear hU0 szU0
    go_wp2_with fail
    refine (tog_impl W _ g2 n c2 xs i u i j _ ho.out hI.out (.inl ⟨rfl, hu.out.symm⟩) hi hj).mono ?_
    rintro e V0 ⟨rfl, hG, hO⟩
    replace x0 := hG.cell x0 (by simp; omega)
    replace x1 := hG.cell x1 (by simp; omega)
    replace o0 := hG.cell o0 (by simp; omega)
    replace o1 := hG.cell o1 (by simp; omega)
    replace yf : ∀ o, V0.frozen? ⟨w.heap.size + 1, o, none⟩ = false := fun o => (World.frozen?_of_block (a := ⟨w.heap.size + 1, o, none⟩) (hG.block (w.heap.size + 1) lz (by simp; omega))).trans (yf o)
    replace y0 := hG.cell y0 (by simp; omega)
    replace y1 := hG.cell y1 (by simp; omega)
    replace r := Lib.hid (r.out.apart hG (fun b off e hn => by have := rb.out b off e hn; simp; omega))
    replace bb := Lib.hid (bb.out.trans ((grown_below hG).mono (by omega)))
    replace hO := Lib.hid hO
    have og4 : g2 < V0.heap.size := (rng_own hO.out _ rfl).2
    clear hG ho
    go_wp2_with fail
    refine (harr.out _ r.out).mono ?_
    rintro e v6 ⟨⟨g3, rfl, ho⟩, hb⟩
    have szv6 := hb.size
    replace yf : ∀ o, v6.frozen? ⟨w.heap.size + 1, o, none⟩ = false := fun o => (hb.frozen (p := ⟨w.heap.size + 1, o, none⟩) (show w.heap.size + 1 < _ from block_lt y0)).trans (yf o)
    replace x0 := kept hb (block_lt x0) x0
    replace x1 := kept hb (block_lt x1) x1
    replace y0 := kept hb (block_lt y0) y0
    replace y1 := kept hb (block_lt y1) y1
    replace o0 := kept hb (block_lt o0) o0
    replace o1 := kept hb (block_lt o1) o1
    replace r := Lib.hid (r.out.bel hb)
    replace hO := Lib.hid (hO.out.bel hb)
    replace bb := Lib.hid (bb.out.trans (hb.mono bb.out.size))
    have rm := Lib.hid ho.row
    clear ho
    clear hb
    go_wp2_with fail
    refine (hsrc.out _ _ _ rm.out).mono ?_
    rintro e v7 ⟨⟨g1, rfl, ho⟩, hb⟩
    have szv7 := hb.size
    replace yf : ∀ o, v7.frozen? ⟨w.heap.size + 1, o, none⟩ = false := fun o => (hb.frozen (p := ⟨w.heap.size + 1, o, none⟩) (show w.heap.size + 1 < _ from block_lt y0)).trans (yf o)
    replace x0 := kept hb (block_lt x0) x0
    replace x1 := kept hb (block_lt x1) x1
    replace y0 := kept hb (block_lt y0) y0
    replace y1 := kept hb (block_lt y1) y1
    replace o0 := kept hb (block_lt o0) o0
    replace o1 := kept hb (block_lt o1) o1
    replace r := Lib.hid (r.out.bel hb)
    replace rm := Lib.hid (rm.out.bel hb)
    replace hO := Lib.hid (hO.out.bel hb)
    replace bb := Lib.hid (bb.out.trans (hb.mono bb.out.size))
    have qr := Lib.hid ho.row
    have lq : v6.heap.size ≤ g1 := (rng_own ho _ rfl).1
    clear ho
    clear hb
    have lg2 : g2 < v6.heap.size := by have := szv6; omega
    have hgq : g1 ≠ g2 := by omega
    have lU : w.heap.size + 1 < v7.heap.size := block_lt y0
    have bU := bb.out.size
    clear rm harr hsrc
    go_wp2_with fail
    go_loopw [12] (fun v wr => ∃ (p fu : Nat) (ys : List Int), v = .int .i64 p ∧ Hid (FA fu ys p) ∧ Hid (v7.grownBy wr (some g2)) ∧ Hid (OwnI wr (w.heap.size + 2) (some ⟨g2, 0, none⟩) n c2 ys)) (fun v _ => rk (intOf v).toNat)
    case atStart => exact ⟨i, _, _, rfl, hf0, World.grownBy.refl _ _, hO⟩
    case round =>
      clear hf0 hO
      obtain ⟨p, fu, ys, rfl, hFA, hG, hO⟩ := hrel
      obtain ⟨wo, rfl⟩ : ∃ wo : World, wo = wr := ⟨_, rfl⟩
      have q0 := hG.out.cell o0 (by simp; omega)
      have q1 := hG.out.cell o1 (by simp; omega)
      have rq := qr.out.apart hG.out (fun b off e hn => by cases e; simp; omega)
      by_cases hpf : p = u
      case pos =>
        subst hpf
        have hd := hdone.out _ _ hFA.out
        have u0 := hG.out.cell y0 (by simp; omega)
        have u1 := hG.out.cell y1 (by simp; omega)
        have uf : ∀ o, wo.frozen? ⟨w.heap.size + 1, o, none⟩ = false := fun o => (World.frozen?_of_block (a := ⟨w.heap.size + 1, o, none⟩) (hG.out.block (w.heap.size + 1) (by omega) (by simp; omega))).trans (yf o)
        have bG : Below w.heap.size w wo := bb.out.trans ((grown_below hG.out).mono (by omega))
        replace bG := Lib.hid bG
        rw [← hd] at hO
        clear hd rq
        go_wp2_with fail
        refine bodyPost_ret (v := .tuple #[.agg #[.int .i64 W, .slice (some ⟨g2, 0, none⟩) n c2], .bool true]) (by simp [results, Try.results28, go_sem, u0, u1]) rfl ?_
        refine ⟨⟨some ⟨g2, 0, none⟩, c2, by rw [hfl.out], ?_⟩, (bG.out.setCell (by simp) _).setCell (by simp) _⟩
        rw [show (Out.mk true (W : Int) Z).xs.length = n from hfl.out]
        exact ((hO.out.store (show w.heap.size + 1 < w.heap.size + 2 by omega) _).store (show w.heap.size + 1 < w.heap.size + 2 by omega) _).mono (by omega)
      have hFi := hFim.out _ _ _ hFA.out
      obtain ⟨q, g, k, l, eq, _, hrk, hkl, hk, hll, hn⟩ := hstep.out _ _ _ hFA.out hpf
      obtain ⟨gq, oq, e, cq⟩ := row_at rq hFi.2
      cases e
      rw [eq, Nat.zero_add] at cq
      have e1 : ((p : Int) == (u : Int)) = false := by rw [beq_eq_false_iff_ne]; omega
      have e2 : ((p : Int) != (u : Int)) = true := by rw [bne_iff_ne]; omega
      have hs := hO.out.bel ((Below.refl _ _).drew)
      obtain ⟨W2, hW2⟩ : ∃ W2, wo.drew = W2 := ⟨_, rfl⟩
      rw [hW2] at hs
      have hb2 : Below wo.heap.size wo W2 := by rw [← hW2]; exact (Below.refl _ _).drew
      replace q0 := kept hb2 (block_lt q0) q0
      replace q1 := kept hb2 (block_lt q1) q1
      have cq2 := kept hb2 (block_lt cq) cq
      have hG2 := Lib.hid (grown_trans hG.out (below_grown hb2 (some g2)))
      have hpp := hFi.2
      replace hFi := Lib.hid hFi
      replace hkl := Lib.hid hkl
      replace hn := Lib.hid hn
      replace hs := Lib.hid hs
      clear hG hO rq hFA hb2
      go_wp2_with fail
      refine region_tail 6 (by kernel_rfl) (by kernel_rfl) W2 hW2 ?_
      simp only [List.take_succ_cons, List.take_zero, List.drop_succ_cons, List.drop_zero]
      clear hW2 cq
      repeat still_step
      refine wpStill_nil ?_
      go_wp2_with fail
      refine (tog_impl W _ g2 n c2 ys q p k l _ hs.out hFi.out.1 hkl.out hk hll).mono ?_
      rintro e V1 ⟨rfl, hG3, hO3⟩
      have cq3 := hG3.cell cq2 (by simp; omega)
      have hG4 := Lib.hid (grown_trans hG2.out hG3)
      replace hO3 := Lib.hid hO3
      clear hG3 hG2 hs cq2 q0 q1
      go_wp2_with fail
      exact ⟨⟨q, _, _, rfl, hn, hG4, hO3⟩, by simpa [intOf] using hrk⟩
  | false =>
    obtain ⟨ef, et⟩ := hen hcb
    replace ef := ef.symm
    replace et := et.symm
    subst ef
    subst et
    clear hes hen hcb hhas hvs
    replace hu := Lib.hid hu
    go_wp2_with fail
    refine (icopy_any (W : Int) a n cap xs _ r.out hn1 (by omega)).mono ?_
    rintro e v8 ⟨⟨ac, c2, rfl, ho⟩, hb⟩
    have szv8 := hb.size
    replace yf : ∀ o, v8.frozen? ⟨w.heap.size + 1, o, none⟩ = false := fun o => (hb.frozen (p := ⟨w.heap.size + 1, o, none⟩) (show w.heap.size + 1 < _ from block_lt y0)).trans (yf o)
    replace x0 := kept hb (block_lt x0) x0
    replace x1 := kept hb (block_lt x1) x1
    have y0o := y0
    replace y0 := kept hb (block_lt y0) y0
    replace y1 := kept hb (block_lt y1) y1
    replace r := Lib.hid (r.out.bel hb)
    replace bb := Lib.hid (bb.out.trans (hb.mono bb.out.size))
    obtain ⟨g2, rfl, og2, og3⟩ : ∃ g, ac = some ⟨g, 0, none⟩ ∧ v4.heap.size ≤ g ∧ g < v8.heap.size := by
      rcases ho.cases with ⟨_, h, _⟩ | ⟨g, h1, h2, h3⟩
      · omega
      · exact ⟨g, h1, h2, h3⟩
    have l5 : w.heap.size + 2 ≤ v4.heap.size := block_lt (show v4.cell? ⟨w.heap.size + 1, 0, none⟩ = _ from y0o)
    replace ho := Lib.hid (OwnI.mono ho (B' := w.heap.size + 2) l5)
    clear hb
    clear y0o
    obtain ⟨B, hB⟩ : ∃ B, v8.heap.size = B := ⟨_, rfl⟩
    obtain ⟨U0, hU0⟩ : ∃ U0, v8.alloc (.cells #[.int .i64 W, .slice (some ⟨g2, 0, none⟩) n c2] 25) = U0 := ⟨_, rfl⟩
    have hb : Below v8.heap.size v8 U0 := by rw [← hU0]; exact (Below.refl _ _).alloc (Nat.le_refl _) _
    have o0 : U0.cell? ⟨B, 0, none⟩ = some (.int .i64 W) := by rw [← hU0, ← hB]; simp
    have o1 : U0.cell? ⟨B, 1, none⟩ = some (.slice (some ⟨g2, 0, none⟩) n c2) := by rw [← hU0, ← hB]; simp
    have szU0 := hb.size
    replace yf : ∀ o, U0.frozen? ⟨w.heap.size + 1, o, none⟩ = false := fun o => (hb.frozen (p := ⟨w.heap.size + 1, o, none⟩) (show w.heap.size + 1 < _ from block_lt y0)).trans (yf o)
    replace x0 := kept hb (block_lt x0) x0
    replace x1 := kept hb (block_lt x1) x1
    replace y0 := kept hb (block_lt y0) y0
    replace y1 := kept hb (block_lt y1) y1
    replace r := Lib.hid (r.out.bel hb)
    replace ho := Lib.hid (ho.out.bel hb)
    replace bb := Lib.hid (bb.out.trans (hb.mono bb.out.size))
    clear hb
    have hgB : g2 < B := by omega
    have hg2w : w.heap.size + 2 ≤ g2 := by omega
    go_upto_region 7 with fail
    (try rw [hU0])
    (try rw [hB])
    have lB : B < U0.heap.size := block_lt o0
    have lz : w.heap.size + 1 < U0.heap.size := block_lt y0
    clear hU0 szU0
    go_wp2_with fail
    refine (tog_impl W _ g2 n c2 xs u i i j _ ho.out hI.out (.inr ⟨rfl, hu.out.symm⟩) hi hj).mono ?_
    rintro e V0 ⟨rfl, hG, hO⟩
    replace x0 := hG.cell x0 (by simp; omega)
    replace x1 := hG.cell x1 (by simp; omega)
    replace o0 := hG.cell o0 (by simp; omega)
    replace o1 := hG.cell o1 (by simp; omega)
    replace yf : ∀ o, V0.frozen? ⟨w.heap.size + 1, o, none⟩ = false := fun o => (World.frozen?_of_block (a := ⟨w.heap.size + 1, o, none⟩) (hG.block (w.heap.size + 1) lz (by simp; omega))).trans (yf o)
    replace y0 := hG.cell y0 (by simp; omega)
    replace y1 := hG.cell y1 (by simp; omega)
    replace r := Lib.hid (r.out.apart hG (fun b off e hn => by have := rb.out b off e hn; simp; omega))
    replace bb := Lib.hid (bb.out.trans ((grown_below hG).mono (by omega)))
    replace hO := Lib.hid hO
    have og4 : g2 < V0.heap.size := (rng_own hO.out _ rfl).2
    clear hG ho
    go_wp2_with fail
    refine (harr.out _ r.out).mono ?_
    rintro e v9 ⟨⟨g3, rfl, ho⟩, hb⟩
    have szv9 := hb.size
    replace yf : ∀ o, v9.frozen? ⟨w.heap.size + 1, o, none⟩ = false := fun o => (hb.frozen (p := ⟨w.heap.size + 1, o, none⟩) (show w.heap.size + 1 < _ from block_lt y0)).trans (yf o)
    replace x0 := kept hb (block_lt x0) x0
    replace x1 := kept hb (block_lt x1) x1
    replace y0 := kept hb (block_lt y0) y0
    replace y1 := kept hb (block_lt y1) y1
    replace o0 := kept hb (block_lt o0) o0
    replace o1 := kept hb (block_lt o1) o1
    replace r := Lib.hid (r.out.bel hb)
    replace hO := Lib.hid (hO.out.bel hb)
    replace bb := Lib.hid (bb.out.trans (hb.mono bb.out.size))
    have rm := Lib.hid ho.row
    clear ho
    clear hb
    go_wp2_with fail
    refine (hsrc.out _ _ _ rm.out).mono ?_
    rintro e v10 ⟨⟨g1, rfl, ho⟩, hb⟩
    have szv10 := hb.size
    replace yf : ∀ o, v10.frozen? ⟨w.heap.size + 1, o, none⟩ = false := fun o => (hb.frozen (p := ⟨w.heap.size + 1, o, none⟩) (show w.heap.size + 1 < _ from block_lt y0)).trans (yf o)
    replace x0 := kept hb (block_lt x0) x0
    replace x1 := kept hb (block_lt x1) x1
    replace y0 := kept hb (block_lt y0) y0
    replace y1 := kept hb (block_lt y1) y1
    replace o0 := kept hb (block_lt o0) o0
    replace o1 := kept hb (block_lt o1) o1
    replace r := Lib.hid (r.out.bel hb)
    replace rm := Lib.hid (rm.out.bel hb)
    replace hO := Lib.hid (hO.out.bel hb)
    replace bb := Lib.hid (bb.out.trans (hb.mono bb.out.size))
    have qr := Lib.hid ho.row
    have lq : v9.heap.size ≤ g1 := (rng_own ho _ rfl).1
    clear ho
    clear hb
    have lg2 : g2 < v9.heap.size := by have := szv9; omega
    have hgq : g1 ≠ g2 := by omega
    have lU : w.heap.size + 1 < v10.heap.size := block_lt y0
    have bU := bb.out.size
    clear rm harr hsrc
    go_wp2_with fail
    go_loopw [12] (fun v wr => ∃ (p fu : Nat) (ys : List Int), v = .int .i64 p ∧ Hid (FA fu ys p) ∧ Hid (v10.grownBy wr (some g2)) ∧ Hid (OwnI wr (w.heap.size + 2) (some ⟨g2, 0, none⟩) n c2 ys)) (fun v _ => rk (intOf v).toNat)
    case atStart => exact ⟨u, _, _, rfl, hf0, World.grownBy.refl _ _, hO⟩
    case round =>
      clear hf0 hO
      obtain ⟨p, fu, ys, rfl, hFA, hG, hO⟩ := hrel
      obtain ⟨wo, rfl⟩ : ∃ wo : World, wo = wr := ⟨_, rfl⟩
      have q0 := hG.out.cell o0 (by simp; omega)
      have q1 := hG.out.cell o1 (by simp; omega)
      have rq := qr.out.apart hG.out (fun b off e hn => by cases e; simp; omega)
      by_cases hpf : p = i
      case pos =>
        subst hpf
        have hd := hdone.out _ _ hFA.out
        have u0 := hG.out.cell y0 (by simp; omega)
        have u1 := hG.out.cell y1 (by simp; omega)
        have uf : ∀ o, wo.frozen? ⟨w.heap.size + 1, o, none⟩ = false := fun o => (World.frozen?_of_block (a := ⟨w.heap.size + 1, o, none⟩) (hG.out.block (w.heap.size + 1) (by omega) (by simp; omega))).trans (yf o)
        have bG : Below w.heap.size w wo := bb.out.trans ((grown_below hG.out).mono (by omega))
        replace bG := Lib.hid bG
        rw [← hd] at hO
        clear hd rq
        go_wp2_with fail
        refine bodyPost_ret (v := .tuple #[.agg #[.int .i64 W, .slice (some ⟨g2, 0, none⟩) n c2], .bool true]) (by simp [results, Try.results28, go_sem, u0, u1]) rfl ?_
        refine ⟨⟨some ⟨g2, 0, none⟩, c2, by rw [hfl.out], ?_⟩, (bG.out.setCell (by simp) _).setCell (by simp) _⟩
        rw [show (Out.mk true (W : Int) Z).xs.length = n from hfl.out]
        exact ((hO.out.store (show w.heap.size + 1 < w.heap.size + 2 by omega) _).store (show w.heap.size + 1 < w.heap.size + 2 by omega) _).mono (by omega)
      have hFi := hFim.out _ _ _ hFA.out
      obtain ⟨q, g, k, l, eq, _, hrk, hkl, hk, hll, hn⟩ := hstep.out _ _ _ hFA.out hpf
      obtain ⟨gq, oq, e, cq⟩ := row_at rq hFi.2
      cases e
      rw [eq, Nat.zero_add] at cq
      have e1 : ((p : Int) == (i : Int)) = false := by rw [beq_eq_false_iff_ne]; omega
      have e2 : ((p : Int) != (i : Int)) = true := by rw [bne_iff_ne]; omega
      have hs := hO.out.bel ((Below.refl _ _).drew)
      obtain ⟨W2, hW2⟩ : ∃ W2, wo.drew = W2 := ⟨_, rfl⟩
      rw [hW2] at hs
      have hb2 : Below wo.heap.size wo W2 := by rw [← hW2]; exact (Below.refl _ _).drew
      replace q0 := kept hb2 (block_lt q0) q0
      replace q1 := kept hb2 (block_lt q1) q1
      have cq2 := kept hb2 (block_lt cq) cq
      have hG2 := Lib.hid (grown_trans hG.out (below_grown hb2 (some g2)))
      have hpp := hFi.2
      replace hFi := Lib.hid hFi
      replace hkl := Lib.hid hkl
      replace hn := Lib.hid hn
      replace hs := Lib.hid hs
      clear hG hO rq hFA hb2
      go_wp2_with fail
      refine region_tail 6 (by kernel_rfl) (by kernel_rfl) W2 hW2 ?_
      simp only [List.take_succ_cons, List.take_zero, List.drop_succ_cons, List.drop_zero]
      clear hW2 cq
      repeat still_step
      refine wpStill_nil ?_
      go_wp2_with fail
      refine (tog_impl W _ g2 n c2 ys q p k l _ hs.out hFi.out.1 hkl.out hk hll).mono ?_
      rintro e V1 ⟨rfl, hG3, hO3⟩
      have cq3 := hG3.cell cq2 (by simp; omega)
      have hG4 := Lib.hid (grown_trans hG2.out hG3)
      replace hO3 := Lib.hid hO3
      clear hG3 hG2 hs cq2 q0 q1
      go_wp2_with fail
      exact ⟨⟨q, _, _, rfl, hn, hG4, hO3⟩, by simpa [intOf] using hrk⟩
end Go.Proofs.Ytkpbfhohcffilaa

namespace Go.Proofs.Ytkpbfhohcffilaa
set_option maxRecDepth 100000
open Go.RowKit

theorem infoFlag : (Try.prog.info? 4).map (fun i => (i.zero, i.size, i.bytes)) = some (some (.bool false), 1, 1) := by kernel_rfl
/-- Flags that can be read. -/
def RowG (w : World) (a : Option Addr) (n : Nat) (u : Nat → Bool) : Prop := n = 0 ∨ ∃ b off, a = some ⟨b, off, none⟩ ∧ ∀ i, i < n → w.cell? ⟨b, off + i, none⟩ = some (.bool (u i))
theorem RowG.bel {w w' : World} {a : Option Addr} {n : Nat} {u : Nat → Bool} (h : RowG w a n u) (hb : Below w.heap.size w w') : RowG w' a n u :=
  h.imp id fun ⟨b, off, e, hc⟩ => ⟨b, off, e, fun i hi => kept hb (block_lt (hc i hi)) (hc i hi)⟩
theorem RowG.at {w : World} {a : Option Addr} {n : Nat} {u : Nat → Bool} (h : RowG w a n u) {i : Nat} (hi : i < n) : ∃ b off, a = some ⟨b, off, none⟩ ∧ w.cell? ⟨b, off + i, none⟩ = some (.bool (u i)) := by
  obtain ⟨b, off, e, hc⟩ := h.resolve_left (by omega)
  exact ⟨b, off, e, hc i hi⟩
theorem RowG.ext {w : World} {a : Option Addr} {n : Nat} {u v : Nat → Bool} (h : RowG w a n u) (e : ∀ i, i < n → u i = v i) : RowG w a n v :=
  h.imp id fun ⟨b, off, ea, hc⟩ => ⟨b, off, ea, fun i hi => by rw [← e i hi]; exact hc i hi⟩
def flagsV (u : Nat → Bool) (n : Nat) : List Value := (List.range n).map fun i => .bool (u i)
theorem flags_len (u : Nat → Bool) (n : Nat) : (flagsV u n).length = n := by simp [flagsV]
theorem flags_at (u : Nat → Bool) (n i : Nat) (h : i < (flagsV u n).length) : (flagsV u n)[i] = .bool (u i) := by simp [flagsV]
theorem flags_snoc (u : Nat → Bool) (n : Nat) : flagsV u (n + 1) = flagsV u n ++ [.bool (u n)] := by simp [flagsV, List.range_succ]
theorem flags_ext {u v : Nat → Bool} {n : Nat} (h : ∀ i, i < n → u i = v i) : flagsV u n = flagsV v n := by
  unfold flagsV
  apply List.map_congr_left
  intro i hi
  rw [h i (List.mem_range.1 hi)]
/-- Flags that the call owns. -/
def OwnG (w : World) (B : Nat) (a : Option Addr) (n cap : Nat) (u : Nat → Bool) : Prop := w.ownsRow B 4 1 (.slice a n cap) n (flagsV u n)
variable {w w' : World} {B n cap : Nat} {a : Option Addr} {u v : Nat → Bool}
theorem OwnG.ext (h : OwnG w B a n cap u) (e : ∀ i, i < n → u i = v i) : OwnG w B a n cap v := by
  unfold OwnG; rw [← flags_ext e]; exact h
theorem OwnG.bel (h : OwnG w B a n cap u) (hb : Below w.heap.size w w') : OwnG w' B a n cap u := by
  rcases h.2 with ⟨e, h0⟩ | ⟨g, c, cur, e, _⟩
  · exact ⟨h.1, .inl ⟨e, h0⟩⟩
  · cases e; exact World.ownsRow.kept h (below_grown hb none) (.inr (by simp [Value.ownBlock]))
theorem OwnG.cases (h : OwnG w B a n cap u) : (a = none ∧ n = 0 ∧ cap = 0) ∨ ∃ g, a = some ⟨g, 0, none⟩ ∧ B ≤ g ∧ g < w.heap.size := by
  rcases h.2 with ⟨e, h0⟩ | ⟨g, c, cur, e, hB, hh, _⟩
  · cases e; exact .inl ⟨rfl, rfl, rfl⟩
  · cases e
    exact .inr ⟨g, rfl, hB, (Array.getElem?_eq_some_iff.1 hh).1⟩
theorem OwnG.mono {B' : Nat} (h : OwnG w B a n cap u) (hB : B' ≤ B) : OwnG w B' a n cap u := by
  refine ⟨h.1, h.2.imp id ?_⟩
  rintro ⟨g, c, cur, e, hb, hh⟩
  exact ⟨g, c, cur, e, by omega, hh⟩
theorem OwnG.other {k : Nat} (h : OwnG w B a n cap u) (hg : w.grownBy w' (some k)) (hk : k < B) : OwnG w' B a n cap u := by
  rcases h.cases with ⟨rfl, rfl, rfl⟩ | ⟨g, rfl, h1, _⟩
  · exact ⟨h.1, .inl ⟨rfl, rfl⟩⟩
  · exact World.ownsRow.kept h hg (.inr (by simp [Value.ownBlock]; omega))
theorem OwnG.row (h : OwnG w B a n cap u) : RowG w a n u := by
  rcases h.cases with ⟨_, h0, _⟩ | ⟨g, rfl, _, _⟩
  · exact .inl h0
  · refine .inr ⟨g, 0, rfl, fun i hi => ?_⟩
    rw [Nat.zero_add, World.ownsRow.cellAt h i (by omega)]
    unfold flagsV; simp [hi]
theorem OwnG.cell {g : Nat} (h : OwnG w B (some ⟨g, 0, none⟩) n cap u) {i : Nat} (hi : i < n) : w.cell? ⟨g, i, none⟩ = some (.bool (u i)) := by
  rw [World.ownsRow.cellAt h i (by omega)]
  unfold flagsV; simp [hi]
theorem OwnG.frozen {g : Nat} (h : OwnG w B (some ⟨g, 0, none⟩) n cap u) (j : Nat) : w.frozen? ⟨g, j, none⟩ = false := World.ownsRow.frozenAt h j
theorem OwnG.set {g : Nat} (h : OwnG w B (some ⟨g, 0, none⟩) n cap u) (j : Nat) (b : Bool) : OwnG (w.setCell ⟨g, j, none⟩ (.bool b)) B (some ⟨g, 0, none⟩) n cap (fun k => if k = j then b else u k) := by
  have h1 := (World.ownsRow.stored h j (.bool b)).1
  have e : (flagsV u n).set j (.bool b) = flagsV (fun k => if k = j then b else u k) n := by
    apply List.ext_getElem (by simp [flagsV])
    intro k h1 h2
    rw [List.getElem_set]
    rw [flags_at, flags_at]
    by_cases e : j = k
    · subst e; rw [if_pos rfl, if_pos rfl]
    · rw [if_neg e, if_neg (Ne.symm e)]
  unfold OwnG
  rw [← e]; exact h1
theorem OwnG.nil (w : World) (B : Nat) (u : Nat → Bool) : OwnG w B none 0 0 u := ⟨rfl, .inl ⟨rfl, rfl⟩⟩
/-- The flags of a list that is marked from k on. -/
def markF (k : Nat) (i : Nat) : Bool := (k + i) % 3 == 0
/-- How many flags CellReach gives, and which. -/
def rchN (W : Int) (xs : List Int) (i : Int) : Nat := if validB W xs = true ∧ inB i 0 ((xs.length : Int) - 1) = true then xs.length + W.toNat else 0
def rchU (W : Int) (xs : List Int) (i : Int) : Nat → Bool := rchB xs W.toNat xs.length i.toNat
theorem rchN_no {W : Int} {xs : List Int} {i : Int} (h : ¬ (validB W xs = true ∧ inB i 0 ((xs.length : Int) - 1) = true)) : rchN W xs i = 0 := if_neg h
theorem rchN_yes {W n : Nat} {xs : List Int} (h : Im W n xs) {i : Nat} (hi : i < n) : rchN W xs i = n + W ∧ rchU W xs i = rchB xs W n i := by
  refine ⟨?_, by unfold rchU; rw [h.hl, Int.toNat_natCast, Int.toNat_natCast]⟩
  unfold rchN
  rw [if_pos ⟨h.valid, inB_yes (by omega) (by rw [h.hl]; omega)⟩, h.hl, Int.toNat_natCast]
end Go.Proofs.Ytkpbfhohcffilaa

namespace Go.Proofs.Ytkpbfhohcffilaa
set_option maxRecDepth 100000
open Go.RowKit

variable {W n : Nat} {V : Int} {xs ys : List Int} {i j : Nat}
theorem var_ok (hI : Im W n xs) (hi : i < n) (hj : j < W) {b : Bool} (hb : varB xs W n i j = b) (s : Option Addr) (cg : Nat) (w : World) (hR : Row w s n xs) :
    Calls Try.prog 32 #[.agg #[.int .i64 W, .slice s n cg], .int .i64 i, .int .i64 j] w fun e w' => e = .returned (.bool b) ∧ Below w.heap.size w w' :=
  (var_impl W s n cg xs i j w hR (by have := hI.l6; omega)).mono fun e w' hh => ⟨by rw [hh.1, varO_nat hI hi hj, hb], hh.2⟩
theorem var_io {i j : Int} {b : Bool} (hb : varO V xs i j = b) (hn : n ≤ 6) (s : Option Addr) (cg : Nat) (w : World) (hR : Row w s n xs) :
    Calls Try.prog 32 #[.agg #[.int .i64 V, .slice s n cg], .int .i64 i, .int .i64 j] w fun e w' => e = .returned (.bool b) ∧ Below w.heap.size w w' :=
  (var_impl V s n cg xs i j w hR (by omega)).mono fun e w' hh => ⟨by rw [hh.1, hb], hh.2⟩
theorem var_so {i j : Int} {b : Bool} (hb : varO V xs i j = b) (hn : n ≤ 6) (s : Option Addr) (cg : Nat) (w : World) (hR : Row w s n xs) :
    Calls Try.prog 55 #[.agg #[.int .i64 V, .slice s n cg], .int .i64 i, .int .i64 j] w fun e w' => e = .returned (.bool b) ∧ Below w.heap.size w w' :=
  (var_spec V s n cg xs i j w hR (by omega)).mono fun e w' hh => ⟨by rw [hh.1, hb], hh.2⟩
theorem vars_out (hI : Im W n xs) : varsO W xs = ⟨true, W, varL xs W n⟩ := by
  unfold varsO; rw [if_pos hI.valid, hI.hl, Int.toNat_natCast]
theorem flip_out (hI : Im W n xs) (hi : i < n) (hj : j < W) (hv : varB xs W n i j = true) : flipO W xs i j = ⟨true, W, flipL xs W n i j⟩ := by
  unfold flipO; rw [if_pos (by rw [varO_nat hI hi hj]; exact hv), hI.hl, Int.toNat_natCast, Int.toNat_natCast, Int.toNat_natCast]
theorem flip_ok (hI : Im W n xs) (hi : i < n) (hj : j < W) (hv : varB xs W n i j = true) {L : List Int} (hL : flipL xs W n i j = L) (s : Option Addr) (cg : Nat) (w : World) (hR : Row w s n xs) :
    Calls Try.prog 28 #[.agg #[.int .i64 W, .slice s n cg], .int .i64 i, .int .i64 j] w (GivesI w W n L) := by
  have h := flip_impl (W : Int) s n cg xs i j w hR (by have := hI.l6; omega)
  rw [flip_out hI hi hj hv, hL] at h
  exact h.mono fun _ _ hh => hh.ok (by rw [← hL]; exact (flip_all hI hi hj hv).1.hl)
theorem flip_sok (hI : Im W n xs) (hi : i < n) (hj : j < W) (hv : varB xs W n i j = true) {L : List Int} (hL : flipL xs W n i j = L) (s : Option Addr) (cg : Nat) (w : World) (hR : Row w s n xs) :
    Calls Try.prog 29 #[.agg #[.int .i64 W, .slice s n cg], .int .i64 i, .int .i64 j] w (GivesI w W n L) := by
  have h := flip_spec (W : Int) s n cg xs i j w hR (by have := hI.l6; omega)
  rw [flip_out hI hi hj hv, hL] at h
  exact h.mono fun _ _ hh => hh.ok (by rw [← hL]; exact (flip_all hI hi hj hv).1.hl)
theorem flip_no {i j : Int} (hv : varO V xs i j = false) (hn : n ≤ 6) (s : Option Addr) (cg : Nat) (w : World) (hR : Row w s n xs) :
    Calls Try.prog 28 #[.agg #[.int .i64 V, .slice s n cg], .int .i64 i, .int .i64 j] w (GivesN w) := by
  have h := flip_impl V s n cg xs i j w hR (by omega)
  rw [show flipO V xs i j = .no from if_neg (by rw [hv]; simp)] at h
  exact h
theorem flip_sno {i j : Int} (hv : varO V xs i j = false) (hn : n ≤ 6) (s : Option Addr) (cg : Nat) (w : World) (hR : Row w s n xs) :
    Calls Try.prog 29 #[.agg #[.int .i64 V, .slice s n cg], .int .i64 i, .int .i64 j] w (GivesN w) := by
  have h := flip_spec V s n cg xs i j w hR (by omega)
  rw [show flipO V xs i j = .no from if_neg (by rw [hv]; simp)] at h
  exact h
/-- A list of flags in new memory. -/
def GivesG (w : World) (M : Nat) (u : Nat → Bool) (e : Ending) (w' : World) : Prop := (∃ s c, e = .returned (.slice s M c) ∧ RowG w' s M u) ∧ Below w.heap.size w w'
theorem reach_ways (V : Int) {xs : List Int} {n : Nat} (hl : xs.length = n) (i : Int) : rchN V xs i = 0 ∨ ∃ (W k : Nat), V = W ∧ i = k ∧ Im W n xs ∧ k < n := by
  by_cases hv : validB V xs = true ∧ inB i 0 ((xs.length : Int) - 1) = true
  · right
    have hW := validB_W hv.1
    have hc := inB_iff.1 hv.2
    obtain ⟨W, rfl⟩ := Int.eq_ofNat_of_zero_le (by omega : 0 ≤ V)
    obtain ⟨k, rfl⟩ := Int.eq_ofNat_of_zero_le hc.1
    exact ⟨W, k, rfl, rfl, Im.of hv.1 hl, by omega⟩
  · exact .inl (rchN_no hv)
end Go.Proofs.Ytkpbfhohcffilaa
