/-
  The contracts of the program's changeBetween, CellVariable, CellsVariable and CellFlip.
  The contract of the program's CellFlip.
  Lists of flags: comparing, marking and holding them; the contracts of CellReach of both sides.
  The contracts of chapter 13's functions in the forms that the laws ask for.
-/
import Derived.Test.YtnfkafaolelkbaaGreatDoorMg
import Derived.Test.YtnfkafaolelkbaaGreatDoorHc
import Derived.Test.YtnfkafaolelkbaaGreatDoorMp
import Derived.Test.YtnfkafaolelkbaaGreatDoorMi
import Derived.Test.YtnfkafaolelkbaaGreatDoorWg
import Derived.Test.YtnfkafaolelkbaaGreatDoorKh

namespace Go.Proofs.YtnfkafaolelkbaaGreatDoor
set_option maxRecDepth 100000
open Go.RowKit

theorem xort_nat : ∀ j, j < 6 → ∀ x, x < 64 → bits BinOp.xor IntKind.i64 ((x : Nat) : Int) (wrap64 (2 ^ j)) = putI ((x : Nat) : Int) j (bitI ((x : Nat) : Int) j == 0) := by decide +kernel
theorem xort_nat2 : ∀ j, j < 6 → ∀ x, x < 64 → bits BinOp.xor IntKind.i64 ((x : Nat) : Int) (IntKind.i64.wrap (2 ^ j)) = putI ((x : Nat) : Int) j (bitI ((x : Nat) : Int) j == 0) := by decide +kernel
theorem xor_tog {W n : Nat} {xs : List Int} (h : Im W n xs) {i j : Nat} (hi : i < n) (hj : j < W) : bits BinOp.xor IntKind.i64 (xs.getD i 0) (wrap64 (2 ^ j)) = (togL xs W n i j).getD i 0 ∧ bits BinOp.xor IntKind.i64 (xs.getD i 0) (IntKind.i64.wrap (2 ^ j)) = (togL xs W n i j).getD i 0 ∧ xs.set i ((togL xs W n i j).getD i 0) = togL xs W n i j := by
  obtain ⟨x, hx, h64⟩ := h.nat hi
  have hw6 := h.w6
  have e := put_tog h hi hj
  have b0 := bit_zero xs i j
  have g : (togL xs W n i j).getD i 0 = putI (xs.getD i 0) j (!cellOf xs i j) := by
    rw [← e, put_get (n := n) h.hl hi, if_pos rfl]
  rw [g]
  refine ⟨?_, ?_, by rw [← e]; rfl⟩
  · rw [hx, xort_nat j (by omega) x h64, ← hx, b0]
  · rw [hx, xort_nat2 j (by omega) x h64, ← hx, b0]
set_option maxHeartbeats 2000000 in
theorem var_impl (W : Int) (a : Option Addr) (n cap : Nat) (xs : List Int) (i j : Int) (w : World) (h : Row w a n xs) (hm : n ≤ 9223372036854775807) :
    Calls Tryz.prog 14 #[.agg #[.int .i64 W, .slice a n cap], .int .i64 i, .int .i64 j] w fun e w' => e = .returned (.bool (varO W xs i j)) ∧ Below w.heap.size w w' := by
  have hl := h.1
  obtain ⟨W0, hW0⟩ : ∃ W0, W0 = (w.alloc (.cells #[.int .i64 W, .slice a n cap] 28)) := ⟨_, rfl⟩
  have bb : Hid (Below w.heap.size w W0) := by subst hW0; exact (Below.refl _ _).alloc (Nat.le_refl _) _
  have x0 : W0.cell? ⟨w.heap.size, 0, none⟩ = some (.int .i64 W) := by subst hW0; go_simp
  have x1 : W0.cell? ⟨w.heap.size, 1, none⟩ = some (.slice a n cap) := by subst hW0; go_simp
  have r := Lib.hid (h.bel bb.out)
  clear h
  by_cases hv : validB W xs = true
  case neg =>
    rw [varO_no (fun h => hv h.1)]
    have hv : validB W xs = false := by simpa using hv
    clear hl
    go_enter Tryz.func14, Tryz.ntmps14
    go_wp2_with fail
    rw [← hW0]
    clear hW0
    refine (valid_impl W a n cap xs _ r.out hm).mono ?_
    rintro e v1 ⟨rfl, hb⟩
    have szv1 := hb.size
    replace x0 := kept hb (block_lt x0) x0
    replace x1 := kept hb (block_lt x1) x1
    replace r := Lib.hid (r.out.bel hb)
    replace bb := Lib.hid (bb.out.trans (hb.mono bb.out.size))
    rw [hv]
    clear hb
    go_wp2_with fail
    go_ret
    exact ⟨rfl, bb.out⟩
  have hW := validB_W hv
  by_cases hc : cellB W n i j = true
  case neg =>
    rw [varO_no (fun h => hc (by rw [← hl]; exact h.2))]
    have hc : cellB W n i j = false := by simpa using hc
    clear hl
    go_enter Tryz.func14, Tryz.ntmps14
    go_wp2_with fail
    rw [← hW0]
    clear hW0
    refine (valid_impl W a n cap xs _ r.out hm).mono ?_
    rintro e v2 ⟨rfl, hb⟩
    have szv2 := hb.size
    replace x0 := kept hb (block_lt x0) x0
    replace x1 := kept hb (block_lt x1) x1
    replace r := Lib.hid (r.out.bel hb)
    replace bb := Lib.hid (bb.out.trans (hb.mono bb.out.size))
    rw [hv]
    clear hb
    go_wp2_with fail
    refine (inside_any W a n cap i j _).mono ?_
    rintro e v3 ⟨rfl, hb⟩
    have szv3 := hb.size
    replace x0 := kept hb (block_lt x0) x0
    replace x1 := kept hb (block_lt x1) x1
    replace r := Lib.hid (r.out.bel hb)
    replace bb := Lib.hid (bb.out.trans (hb.mono bb.out.size))
    rw [hc]
    clear hb
    go_wp2_with fail
    go_ret
    exact ⟨rfl, bb.out⟩
  have hcc := cellB_iff.1 hc
  obtain ⟨W, rfl⟩ := Int.eq_ofNat_of_zero_le (by omega : 0 ≤ W)
  obtain ⟨i, rfl⟩ := Int.eq_ofNat_of_zero_le hcc.1
  obtain ⟨j, rfl⟩ := Int.eq_ofNat_of_zero_le hcc.2.2.1
  have hI : Im W n xs := Im.of hv hl
  have hi : i < n := by omega
  have hj : j < W := by omega
  rw [varO_nat hI hi hj]
  have hw6 := hI.w6
  have hn6 := hI.l6
  have hw1 := hI.w1
  have hn1 := hI.l1
  have hbo := var_both (xs := xs) hi hj
  have hA := arrs_all hI
  have harr := Lib.hid (fun wx hx => arrows_any W a n cap xs wx hx hI)
  unfold parP at hbo
  obtain ⟨u, hu⟩ : ∃ u, n + j = u := ⟨_, rfl⟩
  obtain ⟨M, hM⟩ : ∃ M, n + W = M := ⟨_, rfl⟩
  have eu : (n : Int) + (j : Int) = (u : Int) := by omega
  have ewu : IntKind.i64.wrap (u : Int) = (u : Int) := IntWalk.i64_in _ ⟨by omega, by omega⟩
  have huM : u < M := by omega
  have hiM : i < M := by omega
  rw [hu, hM] at hbo
  rw [hM] at hA harr
  have hre := Lib.hid (fun b c s t wx hx hs ht => reaches_any b M c _ _ s t wx hx hA (by omega) (by omega) hs ht)
  generalize rowsL (arrK xs n n n 0) M = ms at *
  have hre1 := Lib.hid (fun b c wx hx => hre.out b c i u wx hx hiM huM)
  have hre2 := Lib.hid (fun b c wx hx => hre.out b c u i wx hx huM hiM)
  clear hre
  generalize (bfsP (arC (cellOf xs) n) M i).getD u 0 = z1 at *
  rw [← hbo]
  clear hI hA hbo
  replace hu := Lib.hid hu
  replace hM := Lib.hid hM
  go_enter Tryz.func14, Tryz.ntmps14
  go_wp2_with fail
  rw [← hW0]
  clear hW0
  refine (valid_impl (W : Int) a n cap xs _ r.out hm).mono ?_
  rintro e v4 ⟨rfl, hb⟩
  have szv4 := hb.size
  replace x0 := kept hb (block_lt x0) x0
  replace x1 := kept hb (block_lt x1) x1
  replace r := Lib.hid (r.out.bel hb)
  replace bb := Lib.hid (bb.out.trans (hb.mono bb.out.size))
  rw [hv]
  clear hb
  go_wp2_with fail
  refine (inside_any (W : Int) a n cap i j _).mono ?_
  rintro e v5 ⟨rfl, hb⟩
  have szv5 := hb.size
  replace x0 := kept hb (block_lt x0) x0
  replace x1 := kept hb (block_lt x1) x1
  replace r := Lib.hid (r.out.bel hb)
  replace bb := Lib.hid (bb.out.trans (hb.mono bb.out.size))
  rw [hc]
  clear hb
  go_wp2_with fail
  go_region_law (first | ((go_simp; go_at_call 37; (with_reducible refine (harr.out _ (r.out.bel ((Below.refl _ _).drew))).mono ?_); rintro e U ⟨⟨g, rfl, ho⟩, hb2⟩; have hb : Below v5.heap.size v5 U := (((Below.refl _ _).drew).trans (hb2.mono (Nat.le_refl _))); replace x0 := kept hb (block_lt x0) x0; replace x1 := kept hb (block_lt x1) x1; have rm := Lib.hid ho.row; replace bb := Lib.hid (bb.out.trans (hb.mono bb.out.size)); clear hb hb2 ho)))
  all_goals
    go_wp2_with fail
    refine (hre1.out _ _ _ rm.out).mono ?_
    rintro e V1 ⟨rfl, hb⟩
    replace rm := Lib.hid (rm.out.bel hb)
    replace bb := Lib.hid (bb.out.trans (hb.mono bb.out.size))
    clear hb
    by_cases hz : 0 ≤ z1
    · rw [decide_eq_true hz]
      go_wp2_with fail
      refine (hre2.out _ _ _ rm.out).mono ?_
      rintro e V2 ⟨rfl, hb⟩
      replace bb := Lib.hid (bb.out.trans (hb.mono bb.out.size))
      clear hb
      go_wp2_with fail
      go_ret
      exact ⟨by rw [decide_eq_true hz]; rfl, bb.out⟩
    · rw [decide_eq_false hz]
      go_wp2_with fail
      go_ret
      exact ⟨by rw [decide_eq_false (show ¬ 0 ≤ z1 by omega)]; rfl, bb.out⟩
theorem set_same {L : List Int} {n k : Nat} (hl : L.length = n) (hk : k < n) : L.set k (L.getD k 0) = L := by
  rw [getD_elem (by omega)]; exact List.set_getElem_self (by omega)
theorem Made.of1 {w w1 : World} {WA Wb : Int} {a : Option Addr} {len cap n : Nat} {xs : List Int} (hz : w.heap.size + 1 < w1.heap.size) (bb : Below w.heap.size w w1)
    (x0 : w1.cell? ⟨w.heap.size, 0, none⟩ = some (.int .i64 WA)) (x1 : w1.cell? ⟨w.heap.size, 1, none⟩ = some (.slice a len cap)) (y0 : w1.cell? ⟨w.heap.size + 1, 0, none⟩ = some (.int .i64 0)) (y1 : w1.cell? ⟨w.heap.size + 1, 1, none⟩ = some (.slice none 0 0)) (yf : ∀ o, w1.frozen? ⟨w.heap.size + 1, o, none⟩ = false) (h : Row w1 a len xs) (hn : n ≤ 1048576) :
    ∃ W0 g k2, W0 = ((w1.alloc (.cells (madeCells #[.int .i64 0] n) 3)).alloc (.cells #[.int .i64 Wb, .slice (some ⟨w1.heap.size, 0, none⟩) n n] 28)).drew ∧ g = w1.heap.size ∧ k2 = w1.heap.size + 1 ∧ Made w W0 g k2 WA a len cap xs Wb n :=
  ⟨_, _, _, rfl, rfl, rfl, made1 hz bb x0 x1 y0 y1 yf h hn⟩
theorem Made.of2 {w w1 : World} {WA Wb : Int} {a : Option Addr} {len cap n : Nat} {xs : List Int} (hz : w.heap.size + 1 < w1.heap.size) (bb : Below w.heap.size w w1)
    (x0 : w1.cell? ⟨w.heap.size, 0, none⟩ = some (.int .i64 WA)) (x1 : w1.cell? ⟨w.heap.size, 1, none⟩ = some (.slice a len cap)) (y0 : w1.cell? ⟨w.heap.size + 1, 0, none⟩ = some (.int .i64 0)) (y1 : w1.cell? ⟨w.heap.size + 1, 1, none⟩ = some (.slice none 0 0)) (yf : ∀ o, w1.frozen? ⟨w.heap.size + 1, o, none⟩ = false) (h : Row w1 a len xs) (hn : n ≤ 1048576) :
    ∃ W0 g k2, W0 = ((w1.alloc (.cells #[.int .i64 Wb, .slice (some ⟨w1.heap.size + 1, 0, none⟩) n n] 28)).alloc (.cells (madeCells #[.int .i64 0] n) 3)).drew ∧ g = w1.heap.size + 1 ∧ k2 = w1.heap.size ∧ Made w W0 g k2 WA a len cap xs Wb n :=
  ⟨_, _, _, rfl, rfl, rfl, made2 hz bb x0 x1 y0 y1 yf h hn⟩
set_option maxHeartbeats 4000000 in
theorem vars_impl (W : Int) (a : Option Addr) (n cap : Nat) (xs : List Int) (w : World) (h : Row w a n xs) (hm : n ≤ 9223372036854775807) :
    Calls Tryz.prog 15 #[.agg #[.int .i64 W, .slice a n cap]] w (Gives w (varsO W xs)) := by
  have hl := h.1
  obtain ⟨W0, hW0⟩ : ∃ W0, W0 = ((w.alloc (.cells #[.int .i64 W, .slice a n cap] 28)).alloc (.cells #[.int .i64 0, .slice none 0 0] 28)) := ⟨_, rfl⟩
  have bb : Hid (Below w.heap.size w W0) := by subst hW0; exact ((Below.refl _ _).alloc (Nat.le_refl _) _).alloc (by simp) _
  have x0 : W0.cell? ⟨w.heap.size, 0, none⟩ = some (.int .i64 W) := by subst hW0; go_simp
  have x1 : W0.cell? ⟨w.heap.size, 1, none⟩ = some (.slice a n cap) := by subst hW0; go_simp
  have y0 : W0.cell? ⟨w.heap.size + 1, 0, none⟩ = some (.int .i64 0) := by subst hW0; go_simp
  have y1 : W0.cell? ⟨w.heap.size + 1, 1, none⟩ = some (.slice none 0 0) := by subst hW0; go_simp
  have yf : ∀ o, W0.frozen? ⟨w.heap.size + 1, o, none⟩ = false := fun o => by subst hW0; go_simp
  have r := Lib.hid (h.bel bb.out)
  have rb := Lib.hid (row_lt h)
  clear h
  have l0 := block_lt y0
  simp only at l0
  by_cases hv : validB W xs = true
  case neg =>
    rw [show varsO W xs = .no from if_neg hv]
    have hv : validB W xs = false := by simpa using hv
    clear hl
    go_enter Tryz.func15, Tryz.ntmps15
    go_wp2_with fail
    rw [← hW0]
    clear hW0
    refine (valid_impl W a n cap xs _ r.out hm).mono ?_
    rintro e v1 ⟨rfl, hb⟩
    have szv1 := hb.size
    replace yf : ∀ o, v1.frozen? ⟨w.heap.size + 1, o, none⟩ = false := fun o => (hb.frozen (p := ⟨w.heap.size + 1, o, none⟩) (show w.heap.size + 1 < _ from block_lt y0)).trans (yf o)
    replace x0 := kept hb (block_lt x0) x0
    replace x1 := kept hb (block_lt x1) x1
    replace y0 := kept hb (block_lt y0) y0
    replace y1 := kept hb (block_lt y1) y1
    replace r := Lib.hid (r.out.bel hb)
    replace bb := Lib.hid (bb.out.trans (hb.mono bb.out.size))
    rw [hv]
    clear hb
    go_wp2_with fail
    refine bodyPost_ret (v := .tuple #[.agg #[.int .i64 0, .slice none 0 0], .bool false]) (by simp [results, Tryz.results15, go_sem, y0, y1]) rfl ?_
    exact ⟨⟨none, 0, rfl, own_nil _ _⟩, (bb.out.setCell (by simp) _).setCell (by simp) _⟩
  rw [show varsO W xs = ⟨true, W, varL xs W.toNat xs.length⟩ from if_pos hv]
  have hW := validB_W hv
  obtain ⟨W, rfl⟩ := Int.eq_ofNat_of_zero_le (by omega : 0 ≤ W)
  rw [Int.toNat_natCast, hl]
  have hI : Im W n xs := Im.of hv hl
  have hw6 := hI.w6
  have hw1 := hI.w1
  have hn6 := hI.l6
  have hn1 := hI.l1
  have hvl : (varL xs W n).length = n := cells_len _ _ _
  have hvar := Lib.hid (fun (i j : Nat) (hi : i < n) (hj : j < W) wx hx => varO_nat hI hi hj ▸ var_impl (W : Int) a n cap xs i j wx hx hm)
  have hVL : varL xs W n = cellsL (varB xs W n) W n := rfl
  rw [hVL] at hvl ⊢
  generalize varB xs W n = vb at *
  replace hvl := Lib.hid hvl
  clear hI hVL
  go_enter Tryz.func15, Tryz.ntmps15
  go_wp2_with fail
  rw [← hW0]
  clear hW0
  refine (valid_impl (W : Int) a n cap xs _ r.out hm).mono ?_
  rintro e v2 ⟨rfl, hb⟩
  have szv2 := hb.size
  replace yf : ∀ o, v2.frozen? ⟨w.heap.size + 1, o, none⟩ = false := fun o => (hb.frozen (p := ⟨w.heap.size + 1, o, none⟩) (show w.heap.size + 1 < _ from block_lt y0)).trans (yf o)
  replace x0 := kept hb (block_lt x0) x0
  replace x1 := kept hb (block_lt x1) x1
  replace y0 := kept hb (block_lt y0) y0
  replace y1 := kept hb (block_lt y1) y1
  replace r := Lib.hid (r.out.bel hb)
  replace bb := Lib.hid (bb.out.trans (hb.mono bb.out.size))
  rw [hv]
  clear hb
  have hz : w.heap.size + 1 < v2.heap.size := block_lt y0
  have M1 := Lib.hid (Made.of1 (n := n) (Wb := W) hz bb.out x0 x1 y0 y1 yf r.out (by omega))
  have M2 := Lib.hid (Made.of2 (n := n) (Wb := W) hz bb.out x0 x1 y0 y1 yf r.out (by omega))
  clear y0 y1 yf r bb
  go_wp2_with fail
  have hmk := fun wx => run_make_row' (P := Tryz.prog) 23 3 (.int .i64 0) 8 Tryz.underlying23 infoInt rfl .i64 .i64 n (by omega) (by omega) wx
  go_region_held3 (fun W' => W'.cell? ⟨w.heap.size, 0, none⟩ = some (.int .i64 W) ∧ W'.cell? ⟨w.heap.size, 1, none⟩ = some (.slice a n cap))
    (first | go_keep) (fail)
  · go_wp2_with fail
    obtain ⟨U0, g, k2, eU, eg, ek, M⟩ := M1.out
    rw [← eU, ← ek, ← eg]
    clear x0 x1 hmk hz M1 M2 eU eg ek szv2
    have M := Lib.hid M
    have l1 := M.out.hg
    have l2 := M.out.hk
    have l3 := M.out.ne
    have lg : g < U0.heap.size := (rng_own M.out.own _ rfl).2
    have b0 := M.out.b0
    have b1 := M.out.b1
    have hUn := Lib.hid (show OwnI U0 (w.heap.size + 2) (some ⟨g, 0, none⟩) n n (cellsL (upV vb 0 0) W n) by rw [upv_none]; exact M.out.own)
    go_upto_region 5 with fail
    go_loopw [21] (fun i wr => ∃ k : Nat, k ≤ n ∧ i = .int .i64 k ∧ Hid (U0.grownBy wr (some g)) ∧ Hid (OwnI wr (w.heap.size + 2) (some ⟨g, 0, none⟩) n n (cellsL (upV vb k 0) W n))) (fun i _ => n - (intOf i).toNat)
    case atStart => exact ⟨0, Nat.zero_le _, rfl, World.grownBy.refl _ _, hUn⟩
    case round =>
      clear hUn
      obtain ⟨k, hk, rfl, hG, hO⟩ := hrel
      obtain ⟨wo, rfl⟩ : ∃ wo : World, wo = wr := ⟨_, rfl⟩
      have q0 := hG.out.cell b0 (by simpa using l3)
      have q1 := hG.out.cell b1 (by simpa using l3)
      by_cases hlt : k < n
      · go_wp2_with fail
        go_loopw [26] (fun i wr => ∃ j : Nat, j ≤ W ∧ i = .int .i64 j ∧ Hid (U0.grownBy wr (some g)) ∧ Hid (OwnI wr (w.heap.size + 2) (some ⟨g, 0, none⟩) n n (cellsL (upV vb k j) W n))) (fun i _ => W - (intOf i).toNat)
        case atStart => exact ⟨0, Nat.zero_le _, rfl, hG, hO⟩
        case round =>
          clear hG hO q0 q1
          obtain ⟨j, hj, rfl, hG, hO⟩ := hrel
          obtain ⟨wi, rfl⟩ : ∃ wi : World, wi = wr := ⟨_, rfl⟩
          by_cases hlj : j < W
          · have x0 := hG.out.cell M.out.x0 (by simp; omega)
            have x1 := hG.out.cell M.out.x1 (by simp; omega)
            have rI := Lib.hid (M.out.row.apart hG.out (fun b off e hn => by have := M.out.far b off e hn; simpa using this))
            have hIc := cells_im (upV vb k j) hw1 hw6 hn1 hn6
            have hrow := hIc.row k hlt
            have hp6 := pw_63 hw6
            have hput := upv_put (v := vb) hw1 hw6 hn1 hn6 hlt hlj
            have hcl := cells_bit (c := upV vb k j) hw6 hlt hlj
            have hup : upV vb k j k j = false := by unfold upV; simp
            rw [hup] at hcl
            unfold putL at hput
            generalize cellsL (upV vb k j) W n = L at *
            replace hput := Lib.hid hput
            clear hup
            go_wp2_with fail
            refine (hvar.out k j hlt hlj _ rI.out).mono ?_
            rintro e w2 ⟨rfl, hb2⟩
            have hG2 := Lib.hid (grown_trans hG.out (below_grown hb2 (some g)))
            have hO2 := Lib.hid (hO.out.bel hb2)
            clear hb2 hG hO rI x0 x1
            cases hvb : vb k j with
            | false =>
              rw [hvb] at hput
              have e0 : L.set k (putI (L.getD k 0) j false) = L := by
                have hb0 : bitI (L.getD k 0) j = 0 := hcl
                rw [putI_false, hb0, show L.getD k 0 - 0 * pw j = L.getD k 0 by omega]
                exact set_same hO2.out.len hlt
              have hfin := Lib.hid (e0.symm.trans hput.out)
              clear hput e0
              go_wp2_with fail
              exact ⟨⟨j + 1, by omega, by go_num, hG2, by rw [← hfin.out]; exact hO2⟩, by simp [intOf]; omega⟩
            | true =>
              rw [hvb] at hput
              have e0 := (orput (x := L.getD k 0) (j := j) (by omega) hrow.1 (by omega)).1
              have epw := wrap_pow j (by omega)
              have e1 : bits BinOp.or IntKind.i64 (L.getD k 0) (wrap64 (2 ^ j)) = putI (L.getD k 0) j true := by rw [epw.1]; exact e0
              have e2 : bits BinOp.or IntKind.i64 (L.getD k 0) (IntKind.i64.wrap (2 ^ j)) = putI (L.getD k 0) j true := by rw [epw.2]; exact e0
              obtain ⟨W2, hW2⟩ : ∃ W2, w2.drew = W2 := ⟨_, rfl⟩
              have hb3 : Below w2.heap.size w2 W2 := by rw [← hW2]; exact (Below.refl _ _).drew
              have hs0 := hO2.out.bel hb3
              have q0 : W2.cell? ⟨k2, 0, none⟩ = some (.int .i64 W) := kept hb3 (block_lt (hG2.out.cell b0 (by simpa using l3))) (hG2.out.cell b0 (by simpa using l3))
              have q1 : W2.cell? ⟨k2, 1, none⟩ = some (.slice (some ⟨g, 0, none⟩) n n) := kept hb3 (block_lt (hG2.out.cell b1 (by simpa using l3))) (hG2.out.cell b1 (by simpa using l3))
              have q2 := own_cell hs0 hlt
              have q3 := hs0.frozen
              have hs := hs0.set k (putI (L.getD k 0) j true)
              rw [hput.out] at hs
              have hG4 := Lib.hid (grown_set (j := k) (v := .int .i64 (putI (L.getD k 0) j true)) (grown_trans hG2.out (below_grown hb3 (some g))))
              replace hs := Lib.hid hs
              generalize putI (L.getD k 0) j true = c2 at *
              generalize L.getD k 0 = c at *
              clear hG2 hO2 hb3 hs0 e0 epw hput
              go_wp2_with fail
              refine region_tail 9 (by kernel_rfl) (by kernel_rfl) W2 hW2 ?_
              simp only [List.take_succ_cons, List.take_zero, List.drop_succ_cons, List.drop_zero]
              clear hW2
              repeat still_step
              refine wpStill_nil ?_
              go_wp2_with fail
              exact ⟨⟨j + 1, by omega, by go_num, hG4, hs⟩, by simp [intOf]; omega⟩
          · obtain rfl : j = W := by omega
            rw [upv_row] at hO
            go_wp2_with fail
            exact ⟨⟨k + 1, by omega, by go_num, hG, hO⟩, by simp [intOf]; omega⟩
      · obtain rfl : k = n := by omega
        have u0 := hG.out.cell M.out.y0 (by simp; omega)
        have u1 := hG.out.cell M.out.y1 (by simp; omega)
        have uf : ∀ o, wo.frozen? ⟨w.heap.size + 1, o, none⟩ = false := fun o => (World.frozen?_of_block (a := ⟨w.heap.size + 1, o, none⟩) (hG.out.block (w.heap.size + 1) (show w.heap.size + 1 < U0.heap.size from block_lt M.out.y0) (by simp; omega))).trans (M.out.yf o)
        have bG : Below w.heap.size w wo := M.out.bel.trans ((grown_below hG.out).mono (by have := M.out.bel.size; omega))
        rw [upv_all] at hO
        replace bG := Lib.hid bG
        go_wp2_with fail
        refine bodyPost_ret (v := .tuple #[.agg #[.int .i64 W, .slice (some ⟨g, 0, none⟩) k k], .bool true]) (by simp [results, Tryz.results15, go_sem, u0, u1]) rfl ?_
        refine ⟨⟨some ⟨g, 0, none⟩, k, by rw [hvl.out], ?_⟩, (bG.out.setCell (by simp) _).setCell (by simp) _⟩
        rw [show (Out.mk true (W : Int) (cellsL vb W k)).xs.length = k from hvl.out]
        exact ((hO.out.store (show w.heap.size + 1 < w.heap.size + 2 by omega) _).store (show w.heap.size + 1 < w.heap.size + 2 by omega) _).mono (by omega)
  · go_wp2_with fail
    obtain ⟨U0, g, k2, eU, eg, ek, M⟩ := M2.out
    rw [← eU, ← eg, ← ek]
    clear x0 x1 hmk hz M1 M2 eU eg ek szv2
    have M := Lib.hid M
    have l1 := M.out.hg
    have l2 := M.out.hk
    have l3 := M.out.ne
    have lg : g < U0.heap.size := (rng_own M.out.own _ rfl).2
    have b0 := M.out.b0
    have b1 := M.out.b1
    have hUn := Lib.hid (show OwnI U0 (w.heap.size + 2) (some ⟨g, 0, none⟩) n n (cellsL (upV vb 0 0) W n) by rw [upv_none]; exact M.out.own)
    go_upto_region 5 with fail
    go_loopw [21] (fun i wr => ∃ k : Nat, k ≤ n ∧ i = .int .i64 k ∧ Hid (U0.grownBy wr (some g)) ∧ Hid (OwnI wr (w.heap.size + 2) (some ⟨g, 0, none⟩) n n (cellsL (upV vb k 0) W n))) (fun i _ => n - (intOf i).toNat)
    case atStart => exact ⟨0, Nat.zero_le _, rfl, World.grownBy.refl _ _, hUn⟩
    case round =>
      clear hUn
      obtain ⟨k, hk, rfl, hG, hO⟩ := hrel
      obtain ⟨wo, rfl⟩ : ∃ wo : World, wo = wr := ⟨_, rfl⟩
      have q0 := hG.out.cell b0 (by simpa using l3)
      have q1 := hG.out.cell b1 (by simpa using l3)
      by_cases hlt : k < n
      · go_wp2_with fail
        go_loopw [26] (fun i wr => ∃ j : Nat, j ≤ W ∧ i = .int .i64 j ∧ Hid (U0.grownBy wr (some g)) ∧ Hid (OwnI wr (w.heap.size + 2) (some ⟨g, 0, none⟩) n n (cellsL (upV vb k j) W n))) (fun i _ => W - (intOf i).toNat)
        case atStart => exact ⟨0, Nat.zero_le _, rfl, hG, hO⟩
        case round =>
          clear hG hO q0 q1
          obtain ⟨j, hj, rfl, hG, hO⟩ := hrel
          obtain ⟨wi, rfl⟩ : ∃ wi : World, wi = wr := ⟨_, rfl⟩
          by_cases hlj : j < W
          · have x0 := hG.out.cell M.out.x0 (by simp; omega)
            have x1 := hG.out.cell M.out.x1 (by simp; omega)
            have rI := Lib.hid (M.out.row.apart hG.out (fun b off e hn => by have := M.out.far b off e hn; simpa using this))
            have hIc := cells_im (upV vb k j) hw1 hw6 hn1 hn6
            have hrow := hIc.row k hlt
            have hp6 := pw_63 hw6
            have hput := upv_put (v := vb) hw1 hw6 hn1 hn6 hlt hlj
            have hcl := cells_bit (c := upV vb k j) hw6 hlt hlj
            have hup : upV vb k j k j = false := by unfold upV; simp
            rw [hup] at hcl
            unfold putL at hput
            generalize cellsL (upV vb k j) W n = L at *
            replace hput := Lib.hid hput
            clear hup
            go_wp2_with fail
            refine (hvar.out k j hlt hlj _ rI.out).mono ?_
            rintro e w2 ⟨rfl, hb2⟩
            have hG2 := Lib.hid (grown_trans hG.out (below_grown hb2 (some g)))
            have hO2 := Lib.hid (hO.out.bel hb2)
            clear hb2 hG hO rI x0 x1
            cases hvb : vb k j with
            | false =>
              rw [hvb] at hput
              have e0 : L.set k (putI (L.getD k 0) j false) = L := by
                have hb0 : bitI (L.getD k 0) j = 0 := hcl
                rw [putI_false, hb0, show L.getD k 0 - 0 * pw j = L.getD k 0 by omega]
                exact set_same hO2.out.len hlt
              have hfin := Lib.hid (e0.symm.trans hput.out)
              clear hput e0
              go_wp2_with fail
              exact ⟨⟨j + 1, by omega, by go_num, hG2, by rw [← hfin.out]; exact hO2⟩, by simp [intOf]; omega⟩
            | true =>
              rw [hvb] at hput
              have e0 := (orput (x := L.getD k 0) (j := j) (by omega) hrow.1 (by omega)).1
              have epw := wrap_pow j (by omega)
              have e1 : bits BinOp.or IntKind.i64 (L.getD k 0) (wrap64 (2 ^ j)) = putI (L.getD k 0) j true := by rw [epw.1]; exact e0
              have e2 : bits BinOp.or IntKind.i64 (L.getD k 0) (IntKind.i64.wrap (2 ^ j)) = putI (L.getD k 0) j true := by rw [epw.2]; exact e0
              obtain ⟨W2, hW2⟩ : ∃ W2, w2.drew = W2 := ⟨_, rfl⟩
              have hb3 : Below w2.heap.size w2 W2 := by rw [← hW2]; exact (Below.refl _ _).drew
              have hs0 := hO2.out.bel hb3
              have q0 : W2.cell? ⟨k2, 0, none⟩ = some (.int .i64 W) := kept hb3 (block_lt (hG2.out.cell b0 (by simpa using l3))) (hG2.out.cell b0 (by simpa using l3))
              have q1 : W2.cell? ⟨k2, 1, none⟩ = some (.slice (some ⟨g, 0, none⟩) n n) := kept hb3 (block_lt (hG2.out.cell b1 (by simpa using l3))) (hG2.out.cell b1 (by simpa using l3))
              have q2 := own_cell hs0 hlt
              have q3 := hs0.frozen
              have hs := hs0.set k (putI (L.getD k 0) j true)
              rw [hput.out] at hs
              have hG4 := Lib.hid (grown_set (j := k) (v := .int .i64 (putI (L.getD k 0) j true)) (grown_trans hG2.out (below_grown hb3 (some g))))
              replace hs := Lib.hid hs
              generalize putI (L.getD k 0) j true = c2 at *
              generalize L.getD k 0 = c at *
              clear hG2 hO2 hb3 hs0 e0 epw hput
              go_wp2_with fail
              refine region_tail 9 (by kernel_rfl) (by kernel_rfl) W2 hW2 ?_
              simp only [List.take_succ_cons, List.take_zero, List.drop_succ_cons, List.drop_zero]
              clear hW2
              repeat still_step
              refine wpStill_nil ?_
              go_wp2_with fail
              exact ⟨⟨j + 1, by omega, by go_num, hG4, hs⟩, by simp [intOf]; omega⟩
          · obtain rfl : j = W := by omega
            rw [upv_row] at hO
            go_wp2_with fail
            exact ⟨⟨k + 1, by omega, by go_num, hG, hO⟩, by simp [intOf]; omega⟩
      · obtain rfl : k = n := by omega
        have u0 := hG.out.cell M.out.y0 (by simp; omega)
        have u1 := hG.out.cell M.out.y1 (by simp; omega)
        have uf : ∀ o, wo.frozen? ⟨w.heap.size + 1, o, none⟩ = false := fun o => (World.frozen?_of_block (a := ⟨w.heap.size + 1, o, none⟩) (hG.out.block (w.heap.size + 1) (show w.heap.size + 1 < U0.heap.size from block_lt M.out.y0) (by simp; omega))).trans (M.out.yf o)
        have bG : Below w.heap.size w wo := M.out.bel.trans ((grown_below hG.out).mono (by have := M.out.bel.size; omega))
        rw [upv_all] at hO
        replace bG := Lib.hid bG
        go_wp2_with fail
        refine bodyPost_ret (v := .tuple #[.agg #[.int .i64 W, .slice (some ⟨g, 0, none⟩) k k], .bool true]) (by simp [results, Tryz.results15, go_sem, u0, u1]) rfl ?_
        refine ⟨⟨some ⟨g, 0, none⟩, k, by rw [hvl.out], ?_⟩, (bG.out.setCell (by simp) _).setCell (by simp) _⟩
        rw [show (Out.mk true (W : Int) (cellsL vb W k)).xs.length = k from hvl.out]
        exact ((hO.out.store (show w.heap.size + 1 < w.heap.size + 2 by omega) _).store (show w.heap.size + 1 < w.heap.size + 2 by omega) _).mono (by omega)
end Go.Proofs.YtnfkafaolelkbaaGreatDoor

namespace Go.Proofs.YtnfkafaolelkbaaGreatDoor
set_option maxRecDepth 100000
open Go.RowKit

end Go.Proofs.YtnfkafaolelkbaaGreatDoor

namespace Go.Proofs.YtnfkafaolelkbaaGreatDoor
set_option maxRecDepth 100000
open Go.RowKit

theorem infoFlag : (Tryz.prog.info? 4).map (fun i => (i.zero, i.size, i.bytes)) = some (some (.bool false), 1, 1) := by kernel_rfl
/-- Flags that can be read. -/
def RowG (w : World) (a : Option Addr) (n : Nat) (u : Nat → Bool) : Prop := n = 0 ∨ ∃ b off, a = some ⟨b, off, none⟩ ∧ ∀ i, i < n → w.cell? ⟨b, off + i, none⟩ = some (.bool (u i))
theorem RowG.bel {w w' : World} {a : Option Addr} {n : Nat} {u : Nat → Bool} (h : RowG w a n u) (hb : Below w.heap.size w w') : RowG w' a n u :=
  h.imp id fun ⟨b, off, e, hc⟩ => ⟨b, off, e, fun i hi => kept hb (block_lt (hc i hi)) (hc i hi)⟩
theorem RowG.at {w : World} {a : Option Addr} {n : Nat} {u : Nat → Bool} (h : RowG w a n u) {i : Nat} (hi : i < n) : ∃ b off, a = some ⟨b, off, none⟩ ∧ w.cell? ⟨b, off + i, none⟩ = some (.bool (u i)) := by
  obtain ⟨b, off, e, hc⟩ := h.resolve_left (by omega)
  exact ⟨b, off, e, hc i hi⟩
theorem RowG.ext {w : World} {a : Option Addr} {n : Nat} {u v : Nat → Bool} (h : RowG w a n u) (e : ∀ i, i < n → u i = v i) : RowG w a n v :=
  h.imp id fun ⟨b, off, ea, hc⟩ => ⟨b, off, ea, fun i hi => by rw [← e i hi]; exact hc i hi⟩
def flagsV (u : Nat → Bool) (n : Nat) : List Value := (List.range n).map fun i => .bool (u i)
theorem flags_len (u : Nat → Bool) (n : Nat) : (flagsV u n).length = n := by simp [flagsV]
theorem flags_at (u : Nat → Bool) (n i : Nat) (h : i < (flagsV u n).length) : (flagsV u n)[i] = .bool (u i) := by simp [flagsV]
theorem flags_snoc (u : Nat → Bool) (n : Nat) : flagsV u (n + 1) = flagsV u n ++ [.bool (u n)] := by simp [flagsV, List.range_succ]
theorem flags_ext {u v : Nat → Bool} {n : Nat} (h : ∀ i, i < n → u i = v i) : flagsV u n = flagsV v n := by
  unfold flagsV
  apply List.map_congr_left
  intro i hi
  rw [h i (List.mem_range.1 hi)]
/-- Flags that the call owns. -/
def OwnG (w : World) (B : Nat) (a : Option Addr) (n cap : Nat) (u : Nat → Bool) : Prop := w.ownsRow B 4 1 (.slice a n cap) n (flagsV u n)
variable {w w' : World} {B n cap : Nat} {a : Option Addr} {u v : Nat → Bool}
theorem OwnG.ext (h : OwnG w B a n cap u) (e : ∀ i, i < n → u i = v i) : OwnG w B a n cap v := by
  unfold OwnG; rw [← flags_ext e]; exact h
theorem OwnG.bel (h : OwnG w B a n cap u) (hb : Below w.heap.size w w') : OwnG w' B a n cap u := by
  rcases h.2 with ⟨e, h0⟩ | ⟨g, c, cur, e, _⟩
  · exact ⟨h.1, .inl ⟨e, h0⟩⟩
  · cases e; exact World.ownsRow.kept h (below_grown hb none) (.inr (by simp [Value.ownBlock]))
theorem OwnG.cases (h : OwnG w B a n cap u) : (a = none ∧ n = 0 ∧ cap = 0) ∨ ∃ g, a = some ⟨g, 0, none⟩ ∧ B ≤ g ∧ g < w.heap.size := by
  rcases h.2 with ⟨e, h0⟩ | ⟨g, c, cur, e, hB, hh, _⟩
  · cases e; exact .inl ⟨rfl, rfl, rfl⟩
  · cases e
    exact .inr ⟨g, rfl, hB, (Array.getElem?_eq_some_iff.1 hh).1⟩
theorem OwnG.mono {B' : Nat} (h : OwnG w B a n cap u) (hB : B' ≤ B) : OwnG w B' a n cap u := by
  refine ⟨h.1, h.2.imp id ?_⟩
  rintro ⟨g, c, cur, e, hb, hh⟩
  exact ⟨g, c, cur, e, by omega, hh⟩
theorem OwnG.other {k : Nat} (h : OwnG w B a n cap u) (hg : w.grownBy w' (some k)) (hk : k < B) : OwnG w' B a n cap u := by
  rcases h.cases with ⟨rfl, rfl, rfl⟩ | ⟨g, rfl, h1, _⟩
  · exact ⟨h.1, .inl ⟨rfl, rfl⟩⟩
  · exact World.ownsRow.kept h hg (.inr (by simp [Value.ownBlock]; omega))
theorem OwnG.row (h : OwnG w B a n cap u) : RowG w a n u := by
  rcases h.cases with ⟨_, h0, _⟩ | ⟨g, rfl, _, _⟩
  · exact .inl h0
  · refine .inr ⟨g, 0, rfl, fun i hi => ?_⟩
    rw [Nat.zero_add, World.ownsRow.cellAt h i (by omega)]
    unfold flagsV; simp [hi]
theorem OwnG.cell {g : Nat} (h : OwnG w B (some ⟨g, 0, none⟩) n cap u) {i : Nat} (hi : i < n) : w.cell? ⟨g, i, none⟩ = some (.bool (u i)) := by
  rw [World.ownsRow.cellAt h i (by omega)]
  unfold flagsV; simp [hi]
theorem OwnG.frozen {g : Nat} (h : OwnG w B (some ⟨g, 0, none⟩) n cap u) (j : Nat) : w.frozen? ⟨g, j, none⟩ = false := World.ownsRow.frozenAt h j
theorem OwnG.set {g : Nat} (h : OwnG w B (some ⟨g, 0, none⟩) n cap u) (j : Nat) (b : Bool) : OwnG (w.setCell ⟨g, j, none⟩ (.bool b)) B (some ⟨g, 0, none⟩) n cap (fun k => if k = j then b else u k) := by
  have h1 := (World.ownsRow.stored h j (.bool b)).1
  have e : (flagsV u n).set j (.bool b) = flagsV (fun k => if k = j then b else u k) n := by
    apply List.ext_getElem (by simp [flagsV])
    intro k h1 h2
    rw [List.getElem_set]
    rw [flags_at, flags_at]
    by_cases e : j = k
    · subst e; rw [if_pos rfl, if_pos rfl]
    · rw [if_neg e, if_neg (Ne.symm e)]
  unfold OwnG
  rw [← e]; exact h1
theorem OwnG.nil (w : World) (B : Nat) (u : Nat → Bool) : OwnG w B none 0 0 u := ⟨rfl, .inl ⟨rfl, rfl⟩⟩
/-- The flags of a list that is marked from k on. -/
def markF (k : Nat) (i : Nat) : Bool := (k + i) % 3 == 0
/-- How many flags CellReach gives, and which. -/
def rchN (W : Int) (xs : List Int) (i : Int) : Nat := if validB W xs = true ∧ inB i 0 ((xs.length : Int) - 1) = true then xs.length + W.toNat else 0
def rchU (W : Int) (xs : List Int) (i : Int) : Nat → Bool := rchB xs W.toNat xs.length i.toNat
theorem rchN_no {W : Int} {xs : List Int} {i : Int} (h : ¬ (validB W xs = true ∧ inB i 0 ((xs.length : Int) - 1) = true)) : rchN W xs i = 0 := if_neg h
theorem rchN_yes {W n : Nat} {xs : List Int} (h : Im W n xs) {i : Nat} (hi : i < n) : rchN W xs i = n + W ∧ rchU W xs i = rchB xs W n i := by
  refine ⟨?_, by unfold rchU; rw [h.hl, Int.toNat_natCast, Int.toNat_natCast]⟩
  unfold rchN
  rw [if_pos ⟨h.valid, inB_yes (by omega) (by rw [h.hl]; omega)⟩, h.hl, Int.toNat_natCast]
end Go.Proofs.YtnfkafaolelkbaaGreatDoor

namespace Go.Proofs.YtnfkafaolelkbaaGreatDoor
set_option maxRecDepth 100000
open Go.RowKit

variable {W n : Nat} {V : Int} {xs ys : List Int} {i j : Nat}
theorem var_ok (hI : Im W n xs) (hi : i < n) (hj : j < W) {b : Bool} (hb : varB xs W n i j = b) (s : Option Addr) (cg : Nat) (w : World) (hR : Row w s n xs) :
    Calls Tryz.prog 14 #[.agg #[.int .i64 W, .slice s n cg], .int .i64 i, .int .i64 j] w fun e w' => e = .returned (.bool b) ∧ Below w.heap.size w w' :=
  (var_impl W s n cg xs i j w hR (by have := hI.l6; omega)).mono fun e w' hh => ⟨by rw [hh.1, varO_nat hI hi hj, hb], hh.2⟩
theorem var_io {i j : Int} {b : Bool} (hb : varO V xs i j = b) (hn : n ≤ 6) (s : Option Addr) (cg : Nat) (w : World) (hR : Row w s n xs) :
    Calls Tryz.prog 14 #[.agg #[.int .i64 V, .slice s n cg], .int .i64 i, .int .i64 j] w fun e w' => e = .returned (.bool b) ∧ Below w.heap.size w w' :=
  (var_impl V s n cg xs i j w hR (by omega)).mono fun e w' hh => ⟨by rw [hh.1, hb], hh.2⟩
theorem vars_out (hI : Im W n xs) : varsO W xs = ⟨true, W, varL xs W n⟩ := by
  unfold varsO; rw [if_pos hI.valid, hI.hl, Int.toNat_natCast]
theorem vars_ok (hI : Im W n xs) {L : List Int} (hL : varL xs W n = L) (s : Option Addr) (cg : Nat) (w : World) (hR : Row w s n xs) :
    Calls Tryz.prog 15 #[.agg #[.int .i64 W, .slice s n cg]] w (GivesI w W n L) := by
  have h := vars_impl (W : Int) s n cg xs w hR (by have := hI.l6; omega)
  rw [vars_out hI, hL] at h
  exact h.mono fun _ _ hh => hh.ok (by rw [← hL]; exact (varl_im hI).hl)
theorem vars_no (hv : validB V xs = false) (hn : n ≤ 6) (s : Option Addr) (cg : Nat) (w : World) (hR : Row w s n xs) :
    Calls Tryz.prog 15 #[.agg #[.int .i64 V, .slice s n cg]] w (GivesN w) := by
  have h := vars_impl V s n cg xs w hR (by omega)
  rw [show varsO V xs = .no from if_neg (by rw [hv]; simp)] at h
  exact h
theorem flip_out (hI : Im W n xs) (hi : i < n) (hj : j < W) (hv : varB xs W n i j = true) : flipO W xs i j = ⟨true, W, flipL xs W n i j⟩ := by
  unfold flipO; rw [if_pos (by rw [varO_nat hI hi hj]; exact hv), hI.hl, Int.toNat_natCast, Int.toNat_natCast, Int.toNat_natCast]
/-- A list of flags in new memory. -/
def GivesG (w : World) (M : Nat) (u : Nat → Bool) (e : Ending) (w' : World) : Prop := (∃ s c, e = .returned (.slice s M c) ∧ RowG w' s M u) ∧ Below w.heap.size w w'
theorem reach_ways (V : Int) {xs : List Int} {n : Nat} (hl : xs.length = n) (i : Int) : rchN V xs i = 0 ∨ ∃ (W k : Nat), V = W ∧ i = k ∧ Im W n xs ∧ k < n := by
  by_cases hv : validB V xs = true ∧ inB i 0 ((xs.length : Int) - 1) = true
  · right
    have hW := validB_W hv.1
    have hc := inB_iff.1 hv.2
    obtain ⟨W, rfl⟩ := Int.eq_ofNat_of_zero_le (by omega : 0 ≤ V)
    obtain ⟨k, rfl⟩ := Int.eq_ofNat_of_zero_le hc.1
    exact ⟨W, k, rfl, rfl, Im.of hv.1 hl, by omega⟩
  · exact .inl (rchN_no hv)
end Go.Proofs.YtnfkafaolelkbaaGreatDoor
