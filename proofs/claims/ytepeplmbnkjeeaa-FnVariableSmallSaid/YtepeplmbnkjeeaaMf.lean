/-
  The contracts of the model's l13Ends, l13Turn, CellVariable, CellsVariable and CellFlip.
-/
import Derived.Test.YtepeplmbnkjeeaaMe
import Derived.Test.YtepeplmbnkjeeaaKa
namespace Go.Proofs.Ytepeplmbnkjeeaa
set_option maxRecDepth 100000
open Go.RowKit

/-- Whether a cell is variable, whatever the arguments are. -/
def varO (W : Int) (xs : List Int) (i j : Int) : Bool := validB W xs && (cellB W xs.length i j && varB xs W.toNat xs.length i.toNat j.toNat)
theorem varO_no {W : Int} {xs : List Int} {i j : Int} (h : ¬ (validB W xs = true ∧ cellB W xs.length i j = true)) : varO W xs i j = false := by
  unfold varO
  cases e1 : validB W xs with
  | false => rfl
  | true =>
    cases e2 : cellB W xs.length i j with
    | false => rfl
    | true => exact absurd ⟨e1, e2⟩ h
theorem varO_nat {W n : Nat} {xs : List Int} (h : Im W n xs) {i j : Nat} (hi : i < n) (hj : j < W) : varO W xs i j = varB xs W n i j := by
  unfold varO
  rw [h.valid, h.hl, cellB_iff.2 ⟨by omega, by omega, by omega, by omega⟩]
  simp
theorem varO_im {W : Int} {n : Nat} {xs : List Int} {i j : Int} (hl : xs.length = n) (h : varO W xs i j = true) : ∃ (V k l : Nat), W = V ∧ i = k ∧ j = l ∧ Im V n xs ∧ k < n ∧ l < V ∧ varB xs V n k l = true := by
  unfold varO at h
  simp only [Bool.and_eq_true] at h
  obtain ⟨hv, hc, hb⟩ := h
  have hc := cellB_iff.1 hc
  have hI0 := validB_W hv
  obtain ⟨V, rfl⟩ := Int.eq_ofNat_of_zero_le (by omega : 0 ≤ W)
  obtain ⟨k, rfl⟩ := Int.eq_ofNat_of_zero_le hc.1
  obtain ⟨l, rfl⟩ := Int.eq_ofNat_of_zero_le hc.2.2.1
  rw [hl] at hb hc
  exact ⟨V, k, l, rfl, rfl, rfl, Im.of hv hl, by omega, by omega, by simpa using hb⟩
set_option maxHeartbeats 1000000 in
theorem ends_any (W : Nat) (a : Option Addr) (n cap : Nat) (xs : List Int) (i j : Nat) (w : World) (h : Row w a n xs) (hv : Im W n xs) (hi : i < n) (hj : j < W) :
    Calls Try.prog 80 #[.agg #[.int .i64 W, .slice a n cap], .int .i64 i, .int .i64 j] w fun e w' => e = .returned (.tuple #[.int .i64 (fromP xs n i j : Nat), .int .i64 (toP xs n i j : Nat)]) ∧ Below w.heap.size w w' := by
  have hw6 := hv.w6
  have hn6 := hv.l6
  obtain ⟨W0, hW0⟩ : ∃ W0, W0 = (w.alloc (.cells #[.int .i64 W, .slice a n cap] 25)) := ⟨_, rfl⟩
  have bb : Hid (Below w.heap.size w W0) := by subst hW0; exact (Below.refl _ _).alloc (Nat.le_refl _) _
  have x0 : W0.cell? ⟨w.heap.size, 0, none⟩ = some (.int .i64 W) := by subst hW0; go_simp
  have x1 : W0.cell? ⟨w.heap.size, 1, none⟩ = some (.slice a n cap) := by subst hW0; go_simp
  have r := Lib.hid (h.bel bb.out)
  have hg := Lib.hid (get_any W a n cap xs i j W0 r.out hv hi hj)
  have hb1 := bit_one xs i j
  clear h
  cases hc : cellOf xs i j with
  | true =>
    rw [hc] at hb1
    rw [(ends_set hc).1, (ends_set hc).2]
    generalize bitI (xs.getD i 0) j = x at hg hb1
    clear hc hv
    rw [Int.natCast_add]
    go_enter Try.func80, Try.ntmps80
    go_wp2_with fail
    rw [← hW0]
    clear hW0
    go_wp2_with fail
    refine (hg.out).mono ?_
    rintro e v1 ⟨rfl, hb⟩
    have szv1 := hb.size
    replace x0 := kept hb (block_lt x0) x0
    replace x1 := kept hb (block_lt x1) x1
    replace r := Lib.hid (r.out.bel hb)
    replace bb := Lib.hid (bb.out.trans (hb.mono bb.out.size))
    clear hb
    go_wp2_with fail
    refine bodyPost_ret (v := .tuple #[.int .i64 ((n : Int) + (j : Int)), .int .i64 i]) (by simp [results, Try.results80, go_sem]) rfl ?_
    exact ⟨rfl, bb.out⟩
  | false =>
    rw [hc] at hb1
    rw [(ends_not hc).1, (ends_not hc).2]
    generalize bitI (xs.getD i 0) j = x at hg hb1
    clear hc hv
    rw [Int.natCast_add]
    go_enter Try.func80, Try.ntmps80
    go_wp2_with fail
    rw [← hW0]
    clear hW0
    go_wp2_with fail
    refine (hg.out).mono ?_
    rintro e v2 ⟨rfl, hb⟩
    have szv2 := hb.size
    replace x0 := kept hb (block_lt x0) x0
    replace x1 := kept hb (block_lt x1) x1
    replace r := Lib.hid (r.out.bel hb)
    replace bb := Lib.hid (bb.out.trans (hb.mono bb.out.size))
    clear hb
    go_wp2_with fail
    go_quiet (fail)
    go_wp2_with fail
    refine bodyPost_ret (v := .tuple #[.int .i64 i, .int .i64 ((n : Int) + (j : Int))]) (by simp [results, Try.results80, go_sem]) rfl ?_
    exact ⟨rfl, below_drewN bb.out _⟩
set_option maxHeartbeats 1000000 in
theorem var_spec (W : Int) (a : Option Addr) (n cap : Nat) (xs : List Int) (i j : Int) (w : World) (h : Row w a n xs) (hm : n ≤ 9223372036854775807) :
    Calls Try.prog 31 #[.agg #[.int .i64 W, .slice a n cap], .int .i64 i, .int .i64 j] w fun e w' => e = .returned (.bool (varO W xs i j)) ∧ Below w.heap.size w w' := by
  have hl := h.1
  obtain ⟨W0, hW0⟩ : ∃ W0, W0 = (w.alloc (.cells #[.int .i64 W, .slice a n cap] 25)) := ⟨_, rfl⟩
  have bb : Hid (Below w.heap.size w W0) := by subst hW0; exact (Below.refl _ _).alloc (Nat.le_refl _) _
  have x0 : W0.cell? ⟨w.heap.size, 0, none⟩ = some (.int .i64 W) := by subst hW0; go_simp
  have x1 : W0.cell? ⟨w.heap.size, 1, none⟩ = some (.slice a n cap) := by subst hW0; go_simp
  have r := Lib.hid (h.bel bb.out)
  clear h
  by_cases hv : validB W xs = true
  case neg =>
    rw [varO_no (fun h => hv h.1)]
    have hv : validB W xs = false := by simpa using hv
    clear hl
    go_enter Try.func31, Try.ntmps31
    go_wp2_with fail
    rw [← hW0]
    clear hW0
    refine (valid_spec W a n cap xs _ r.out hm).mono ?_
    rintro e v1 ⟨rfl, hb⟩
    have szv1 := hb.size
    replace x0 := kept hb (block_lt x0) x0
    replace x1 := kept hb (block_lt x1) x1
    replace r := Lib.hid (r.out.bel hb)
    replace bb := Lib.hid (bb.out.trans (hb.mono bb.out.size))
    rw [hv]
    clear hb
    go_wp2_with fail
    go_ret
    exact ⟨rfl, bb.out⟩
  have hW := validB_W hv
  by_cases hc : cellB W n i j = true
  case neg =>
    rw [varO_no (fun h => hc (by rw [← hl]; exact h.2))]
    have hc : cellB W n i j = false := by simpa using hc
    clear hl
    go_enter Try.func31, Try.ntmps31
    go_wp2_with fail
    rw [← hW0]
    clear hW0
    refine (valid_spec W a n cap xs _ r.out hm).mono ?_
    rintro e v2 ⟨rfl, hb⟩
    have szv2 := hb.size
    replace x0 := kept hb (block_lt x0) x0
    replace x1 := kept hb (block_lt x1) x1
    replace r := Lib.hid (r.out.bel hb)
    replace bb := Lib.hid (bb.out.trans (hb.mono bb.out.size))
    rw [hv]
    clear hb
    go_wp2_with fail
    refine (cell_spec W a n cap i j _ hm hW.1 hW.2).mono ?_
    rintro e v3 ⟨rfl, hb⟩
    have szv3 := hb.size
    replace x0 := kept hb (block_lt x0) x0
    replace x1 := kept hb (block_lt x1) x1
    replace r := Lib.hid (r.out.bel hb)
    replace bb := Lib.hid (bb.out.trans (hb.mono bb.out.size))
    rw [hc]
    clear hb
    go_wp2_with fail
    go_ret
    exact ⟨rfl, bb.out⟩
  have hcc := cellB_iff.1 hc
  obtain ⟨W, rfl⟩ := Int.eq_ofNat_of_zero_le (by omega : 0 ≤ W)
  obtain ⟨i, rfl⟩ := Int.eq_ofNat_of_zero_le hcc.1
  obtain ⟨j, rfl⟩ := Int.eq_ofNat_of_zero_le hcc.2.2.1
  have hI : Im W n xs := Im.of hv hl
  have hi : i < n := by omega
  have hj : j < W := by omega
  rw [varO_nat hI hi hj]
  have hlt := ends_lt (xs := xs) hi hj
  have hbd := (par_tree xs hlt.1).bd _ hlt.2
  have hw6 := hI.w6
  have hn6 := hI.l6
  have hI := Lib.hid hI
  unfold varB
  have hends := Lib.hid (fun wx hx => ends_any W a n cap xs i j wx hx hI.out hi hj)
  have hpar := Lib.hid (fun wx hx => parents_any W a n cap xs _ wx hx hI.out hlt.1)
  generalize fromP xs n i j = f at *
  generalize toP xs n i j = t at *
  generalize parP xs W n f = Q at *
  obtain ⟨x, hx⟩ : ∃ x, Q.getD t 0 = x := ⟨_, rfl⟩
  rw [hx] at hbd ⊢
  go_enter Try.func31, Try.ntmps31
  go_wp2_with fail
  rw [← hW0]
  clear hW0
  refine (valid_spec W a n cap xs _ r.out hm).mono ?_
  rintro e v4 ⟨rfl, hb⟩
  have szv4 := hb.size
  replace x0 := kept hb (block_lt x0) x0
  replace x1 := kept hb (block_lt x1) x1
  replace r := Lib.hid (r.out.bel hb)
  replace bb := Lib.hid (bb.out.trans (hb.mono bb.out.size))
  rw [hv]
  clear hb
  go_wp2_with fail
  refine (cell_spec W a n cap i j _ hm hW.1 hW.2).mono ?_
  rintro e v5 ⟨rfl, hb⟩
  have szv5 := hb.size
  replace x0 := kept hb (block_lt x0) x0
  replace x1 := kept hb (block_lt x1) x1
  replace r := Lib.hid (r.out.bel hb)
  replace bb := Lib.hid (bb.out.trans (hb.mono bb.out.size))
  rw [hc]
  clear hb
  go_wp2_with fail
  refine (hends.out _ r.out).mono ?_
  rintro e v6 ⟨rfl, hb⟩
  have szv6 := hb.size
  replace x0 := kept hb (block_lt x0) x0
  replace x1 := kept hb (block_lt x1) x1
  replace r := Lib.hid (r.out.bel hb)
  replace bb := Lib.hid (bb.out.trans (hb.mono bb.out.size))
  clear hb
  go_wp2_with fail
  refine (hpar.out _ r.out).mono ?_
  rintro e v7 ⟨⟨g, c, rfl, ho⟩, hb⟩
  have szv7 := hb.size
  replace x0 := kept hb (block_lt x0) x0
  replace x1 := kept hb (block_lt x1) x1
  replace r := Lib.hid (r.out.bel hb)
  replace bb := Lib.hid (bb.out.trans (hb.mono bb.out.size))
  have ck := own_cell ho hlt.2
  clear hb
  rw [hx] at ck
  clear ho hends hpar hI hx
  go_wp2_with fail
  go_ret
  exact ⟨rfl, bb.out⟩
theorem put_tog {W n : Nat} {xs : List Int} (h : Im W n xs) {i j : Nat} (hi : i < n) (hj : j < W) : putL xs i j (!cellOf xs i j) = togL xs W n i j := by
  refine im_cell_ext (h.put hi hj _) (tog_im h i j) fun a b ha hb => ?_
  rw [tog_cell h ha hb]
  have := h.put_bit hi hj ha hb (!cellOf xs i j)
  show decide (_ = (1 : Int)) = _
  rw [this]
  unfold togC
  by_cases e : a = i ∧ b = j
  · rw [if_pos e, if_pos e, e.1, e.2]; cases cellOf xs i j <;> rfl
  · rw [if_neg e, if_neg e]; rfl
set_option maxHeartbeats 2000000 in
theorem tog_spec (W B g n cap : Nat) (xs : List Int) (p q i j : Nat) (w : World) (h : OwnI w B (some ⟨g, 0, none⟩) n cap xs) (hv : Im W n xs) (hpq : p = i ∧ q = n + j ∨ q = i ∧ p = n + j) (hi : i < n) (hj : j < W) :
    Calls Try.prog 106 #[.agg #[.int .i64 W, .slice (some ⟨g, 0, none⟩) n cap], .int .i64 p, .int .i64 q] w fun e w' => e = .returned (.tuple #[]) ∧ w.grownBy w' (some g) ∧ OwnI w' B (some ⟨g, 0, none⟩) n cap (togL xs W n i j) := by
  have hw6 := hv.w6
  have hn6 := hv.l6
  have hr := hv.row i hi
  have hp6 := pw_63 hw6
  have ht := put_tog hv hi hj
  unfold putL at ht
  have hb0 := bit_zero xs i j
  obtain ⟨W0, hW0⟩ : ∃ W0, W0 = (w.alloc (.cells #[.int .i64 W, .slice (some ⟨g, 0, none⟩) n cap] 25)) := ⟨_, rfl⟩
  have bb : Hid (Below w.heap.size w W0) := by subst hW0; exact (Below.refl _ _).alloc (Nat.le_refl _) _
  have x0 : W0.cell? ⟨w.heap.size, 0, none⟩ = some (.int .i64 W) := by subst hW0; go_simp
  have x1 : W0.cell? ⟨w.heap.size, 1, none⟩ = some (.slice (some ⟨g, 0, none⟩) n cap) := by subst hW0; go_simp
  have ho := Lib.hid (h.bel bb.out)
  have hgr : w.grownBy W0 (some g) := below_grown bb.out _
  have hgr := Lib.hid hgr
  have hv := Lib.hid hv
  have ht := Lib.hid ht
  clear h
  have tok0 : True := trivial
  rcases hpq with ⟨rfl, hq⟩ | ⟨rfl, hq⟩
  · have hlt : (p : Int) < (q : Int) := by omega
    have es : (q : Int) - (n : Int) = (j : Int) := by omega
    have hmn : min (p : Int) (q : Int) = (p : Int) := by omega
    have hmx : max (p : Int) (q : Int) = (q : Int) := by omega
    obtain ⟨b, hbb⟩ : ∃ b, (!cellOf xs p j) = b := ⟨_, rfl⟩
    have hg1 := Lib.hid (fun wx hx => get_any W (some ⟨g, 0, none⟩) n cap xs p j wx hx hv.out hi hj)
    rw [hbb] at hb0
    replace hq := Lib.hid hq
    generalize bitI (xs.getD p 0) j = x at hb0 hg1
    go_enter Try.func106, Try.ntmps106
    go_wp2_with fail
    rw [← hW0]
    clear hW0
    go_wp2_with fail
    go_region_law (first | ((go_simp; go_at_call 122; have _t := tok0; (with_reducible refine (hg1.out _ (ho.out.row.bel ((Below.refl _ _).drew))).mono ?_); rintro e w2 ⟨rfl, hb2⟩; have hb : Below W0.heap.size W0 w2 := (((Below.refl _ _).drew).trans (hb2.mono (Nat.le_refl _))); replace x0 := kept hb (block_lt x0) x0; replace x1 := kept hb (block_lt x1) x1; replace ho := Lib.hid (ho.out.bel hb); replace hgr := Lib.hid (grown_trans hgr.out (below_grown hb _)); clear hb hb2 _t tok0 hg1)) | ((go_simp; go_at_call 87; (with_reducible refine (put_spec W B g n cap xs p j b _ ho.out hi (by omega) hr.1 (by omega)).mono ?_); rintro e w3 ⟨rfl, hg3, ho3⟩; replace ho := Lib.hid ho3; replace hgr := Lib.hid (grown_trans hgr.out hg3); clear hg3 ho3)))
    all_goals go_wp2_with fail
    all_goals go_end0
    all_goals exact ⟨rfl, hgr.out, by have h1 := ht.out; rw [hbb] at h1; rw [← h1]; exact ho.out⟩
  · have hlt : (q : Int) < (p : Int) := by omega
    have es : (p : Int) - (n : Int) = (j : Int) := by omega
    have hmn : min (p : Int) (q : Int) = (q : Int) := by omega
    have hmx : max (p : Int) (q : Int) = (p : Int) := by omega
    obtain ⟨b, hbb⟩ : ∃ b, (!cellOf xs q j) = b := ⟨_, rfl⟩
    have hg1 := Lib.hid (fun wx hx => get_any W (some ⟨g, 0, none⟩) n cap xs q j wx hx hv.out hi hj)
    rw [hbb] at hb0
    replace hq := Lib.hid hq
    generalize bitI (xs.getD q 0) j = x at hb0 hg1
    go_enter Try.func106, Try.ntmps106
    go_wp2_with fail
    rw [← hW0]
    clear hW0
    go_wp2_with fail
    go_region_law (first | ((go_simp; go_at_call 122; have _t := tok0; (with_reducible refine (hg1.out _ (ho.out.row.bel ((Below.refl _ _).drew))).mono ?_); rintro e w2 ⟨rfl, hb2⟩; have hb : Below W0.heap.size W0 w2 := (((Below.refl _ _).drew).trans (hb2.mono (Nat.le_refl _))); replace x0 := kept hb (block_lt x0) x0; replace x1 := kept hb (block_lt x1) x1; replace ho := Lib.hid (ho.out.bel hb); replace hgr := Lib.hid (grown_trans hgr.out (below_grown hb _)); clear hb hb2 _t tok0 hg1)) | ((go_simp; go_at_call 87; (with_reducible refine (put_spec W B g n cap xs q j b _ ho.out hi (by omega) hr.1 (by omega)).mono ?_); rintro e w3 ⟨rfl, hg3, ho3⟩; replace ho := Lib.hid ho3; replace hgr := Lib.hid (grown_trans hgr.out hg3); clear hg3 ho3)))
    all_goals go_wp2_with fail
    all_goals go_end0
    all_goals exact ⟨rfl, hgr.out, by have h1 := ht.out; rw [hbb] at h1; rw [← h1]; exact ho.out⟩
def varsO (W : Int) (xs : List Int) : Out := if validB W xs = true then ⟨true, W, varL xs W.toNat xs.length⟩ else .no
/-- The cells of the first rows, and of the next one the first columns. -/
def upV (v : Nat → Nat → Bool) (i j a b : Nat) : Bool := (decide (a < i) || (decide (a = i) && decide (b < j))) && v a b
theorem upv_put {W n i j : Nat} {v : Nat → Nat → Bool} (h1 : 1 ≤ W) (h2 : W ≤ 6) (h3 : 1 ≤ n) (h4 : n ≤ 6) (hi : i < n) (hj : j < W) : putL (cellsL (upV v i j) W n) i j (v i j) = cellsL (upV v i (j + 1)) W n := by
  have hI := cells_im (upV v i j) h1 h2 h3 h4
  refine im_cell_ext (hI.put hi hj _) (cells_im _ h1 h2 h3 h4) fun a b ha hb => ?_
  have e1 := hI.put_bit hi hj ha hb (v i j)
  have e2 := cells_bit (c := upV v i j) h2 ha hb
  have e3 := cells_bit (c := upV v i (j + 1)) h2 ha hb
  show decide (_ = (1 : Int)) = decide (_ = (1 : Int))
  rw [e1, e2, e3]
  by_cases e : a = i ∧ b = j
  · rw [if_pos e]
    obtain ⟨rfl, rfl⟩ := e
    have : upV v a (b + 1) a b = v a b := by unfold upV; simp
    rw [this]
  · rw [if_neg e]
    have : upV v i (j + 1) a b = upV v i j a b := by
      unfold upV
      congr 1
      rw [Bool.eq_iff_iff]
      simp only [Bool.or_eq_true, Bool.and_eq_true, decide_eq_true_eq]
      omega
    rw [this]
theorem upv_row {W n i : Nat} (v : Nat → Nat → Bool) : cellsL (upV v i W) W n = cellsL (upV v (i + 1) 0) W n := cells_ext fun a b ha hb => by
  unfold upV
  congr 1
  rw [Bool.eq_iff_iff]
  simp only [Bool.or_eq_true, Bool.and_eq_true, decide_eq_true_eq]
  omega
theorem upv_all {W n : Nat} (v : Nat → Nat → Bool) : cellsL (upV v n 0) W n = cellsL v W n := cells_ext fun a b ha hb => by
  unfold upV
  rw [show (decide (a < n) || (decide (a = n) && decide (b < 0))) = true by simp [ha]]; rfl
theorem upv_none {W n : Nat} (v : Nat → Nat → Bool) : cellsL (upV v 0 0) W n = List.replicate n 0 := by
  rw [← cells_none W n]
  exact cells_ext fun a b _ _ => by unfold upV; simp
set_option maxHeartbeats 4000000 in
theorem vars_spec (W : Int) (a : Option Addr) (n cap : Nat) (xs : List Int) (w : World) (h : Row w a n xs) (hm : n ≤ 9223372036854775807) :
    Calls Try.prog 36 #[.agg #[.int .i64 W, .slice a n cap]] w (Gives w (varsO W xs)) := by
  have hl := h.1
  obtain ⟨W0, hW0⟩ : ∃ W0, W0 = ((w.alloc (.cells #[.int .i64 W, .slice a n cap] 25)).alloc (.cells #[.int .i64 0, .slice none 0 0] 25)) := ⟨_, rfl⟩
  have bb : Hid (Below w.heap.size w W0) := by subst hW0; exact ((Below.refl _ _).alloc (Nat.le_refl _) _).alloc (by simp) _
  have x0 : W0.cell? ⟨w.heap.size, 0, none⟩ = some (.int .i64 W) := by subst hW0; go_simp
  have x1 : W0.cell? ⟨w.heap.size, 1, none⟩ = some (.slice a n cap) := by subst hW0; go_simp
  have y0 : W0.cell? ⟨w.heap.size + 1, 0, none⟩ = some (.int .i64 0) := by subst hW0; go_simp
  have y1 : W0.cell? ⟨w.heap.size + 1, 1, none⟩ = some (.slice none 0 0) := by subst hW0; go_simp
  have yf : ∀ o, W0.frozen? ⟨w.heap.size + 1, o, none⟩ = false := fun o => by subst hW0; go_simp
  have r := Lib.hid (h.bel bb.out)
  have rb := Lib.hid (row_lt h)
  clear h
  have l0 := block_lt y0
  simp only at l0
  by_cases hv : validB W xs = true
  case neg =>
    rw [show varsO W xs = .no from if_neg hv]
    have hv : validB W xs = false := by simpa using hv
    clear hl
    go_enter Try.func36, Try.ntmps36
    go_wp2_with fail
    rw [← hW0]
    clear hW0
    refine (valid_spec W a n cap xs _ r.out hm).mono ?_
    rintro e v1 ⟨rfl, hb⟩
    have szv1 := hb.size
    replace yf : ∀ o, v1.frozen? ⟨w.heap.size + 1, o, none⟩ = false := fun o => (hb.frozen (p := ⟨w.heap.size + 1, o, none⟩) (show w.heap.size + 1 < _ from block_lt y0)).trans (yf o)
    replace x0 := kept hb (block_lt x0) x0
    replace x1 := kept hb (block_lt x1) x1
    replace y0 := kept hb (block_lt y0) y0
    replace y1 := kept hb (block_lt y1) y1
    replace r := Lib.hid (r.out.bel hb)
    replace bb := Lib.hid (bb.out.trans (hb.mono bb.out.size))
    rw [hv]
    clear hb
    go_wp2_with fail
    refine bodyPost_ret (v := .tuple #[.agg #[.int .i64 0, .slice none 0 0], .bool false]) (by simp [results, Try.results36, go_sem, y0, y1]) rfl ?_
    exact ⟨⟨none, 0, rfl, own_nil _ _⟩, (bb.out.setCell (by simp) _).setCell (by simp) _⟩
  rw [show varsO W xs = ⟨true, W, varL xs W.toNat xs.length⟩ from if_pos hv]
  have hW := validB_W hv
  obtain ⟨W, rfl⟩ := Int.eq_ofNat_of_zero_le (by omega : 0 ≤ W)
  rw [Int.toNat_natCast, hl]
  have hI : Im W n xs := Im.of hv hl
  have hw6 := hI.w6
  have hw1 := hI.w1
  have hn6 := hI.l6
  have hn1 := hI.l1
  have hvl : (varL xs W n).length = n := cells_len _ _ _
  have hvar := Lib.hid (fun (i j : Nat) (hi : i < n) (hj : j < W) wx hx => varO_nat hI hi hj ▸ var_spec (W : Int) a n cap xs i j wx hx hm)
  have hVL : varL xs W n = cellsL (varB xs W n) W n := rfl
  rw [hVL] at hvl ⊢
  generalize varB xs W n = vb at *
  have hvl := Lib.hid hvl
  clear hI hVL
  go_enter Try.func36, Try.ntmps36
  go_wp2_with fail
  rw [← hW0]
  clear hW0
  refine (valid_spec W a n cap xs _ r.out hm).mono ?_
  rintro e v2 ⟨rfl, hb⟩
  have szv2 := hb.size
  replace yf : ∀ o, v2.frozen? ⟨w.heap.size + 1, o, none⟩ = false := fun o => (hb.frozen (p := ⟨w.heap.size + 1, o, none⟩) (show w.heap.size + 1 < _ from block_lt y0)).trans (yf o)
  replace x0 := kept hb (block_lt x0) x0
  replace x1 := kept hb (block_lt x1) x1
  replace y0 := kept hb (block_lt y0) y0
  replace y1 := kept hb (block_lt y1) y1
  replace r := Lib.hid (r.out.bel hb)
  replace bb := Lib.hid (bb.out.trans (hb.mono bb.out.size))
  rw [hv]
  clear hb
  go_wp2_with fail
  refine (blank_spec (W : Int) n _ (by omega)).mono ?_
  rintro e v3 ⟨⟨g, rfl, hgg, ho⟩, hb⟩
  have szv3 := hb.size
  replace yf : ∀ o, v3.frozen? ⟨w.heap.size + 1, o, none⟩ = false := fun o => (hb.frozen (p := ⟨w.heap.size + 1, o, none⟩) (show w.heap.size + 1 < _ from block_lt y0)).trans (yf o)
  replace x0 := kept hb (block_lt x0) x0
  replace x1 := kept hb (block_lt x1) x1
  replace y0 := kept hb (block_lt y0) y0
  replace y1 := kept hb (block_lt y1) y1
  replace r := Lib.hid (r.out.bel hb)
  replace bb := Lib.hid (bb.out.trans (hb.mono bb.out.size))
  have og := rng_own ho _ rfl
  have og2 : g < v3.heap.size := og.2
  have ho := Lib.hid (ho.mono (show w.heap.size + 2 ≤ _ by omega))
  clear og
  clear hb
  obtain ⟨B, hB⟩ : ∃ B, v3.heap.size = B := ⟨_, rfl⟩
  obtain ⟨U0, hU0⟩ : ∃ U0, v3.alloc (.cells #[.int .i64 W, .slice (some ⟨g, 0, none⟩) n n] 25) = U0 := ⟨_, rfl⟩
  have hb : Below v3.heap.size v3 U0 := by rw [← hU0]; exact (Below.refl _ _).alloc (Nat.le_refl _) _
  have o0 : U0.cell? ⟨B, 0, none⟩ = some (.int .i64 W) := by rw [← hU0, ← hB]; simp
  have o1 : U0.cell? ⟨B, 1, none⟩ = some (.slice (some ⟨g, 0, none⟩) n n) := by rw [← hU0, ← hB]; simp
  have szU0 := hb.size
  replace yf : ∀ o, U0.frozen? ⟨w.heap.size + 1, o, none⟩ = false := fun o => (hb.frozen (p := ⟨w.heap.size + 1, o, none⟩) (show w.heap.size + 1 < _ from block_lt y0)).trans (yf o)
  replace x0 := kept hb (block_lt x0) x0
  replace x1 := kept hb (block_lt x1) x1
  replace y0 := kept hb (block_lt y0) y0
  replace y1 := kept hb (block_lt y1) y1
  replace r := Lib.hid (r.out.bel hb)
  replace ho := Lib.hid (ho.out.bel hb)
  replace bb := Lib.hid (bb.out.trans (hb.mono bb.out.size))
  clear hb
  have hgB : g < B := by omega
  go_upto_region 4 with fail
  (try rw [hU0])
  (try rw [hB])
  clear hU0 szU0
  have bb1 := bb.out.size
  have lB : B < U0.heap.size := block_lt o0
  have hUn := Lib.hid (show OwnI U0 (w.heap.size + 2) (some ⟨g, 0, none⟩) n n (cellsL (upV vb 0 0) W n) by rw [upv_none]; exact ho.out)
  have lw : w.heap.size + 1 < B := by omega
  clear ho szv3
  go_upto_region 5 with fail
  go_loopw [5] (fun i wr => ∃ k : Nat, k ≤ n ∧ i = .int .i64 k ∧ Hid (U0.grownBy wr (some g)) ∧ Hid (OwnI wr (w.heap.size + 2) (some ⟨g, 0, none⟩) n n (cellsL (upV vb k 0) W n))) (fun i _ => n - (intOf i).toNat)
  case atStart => exact ⟨0, Nat.zero_le _, rfl, World.grownBy.refl _ _, hUn⟩
  case round =>
    clear hUn
    obtain ⟨k, hk, rfl, hG, hO⟩ := hrel
    obtain ⟨wo, rfl⟩ : ∃ wo : World, wo = wr := ⟨_, rfl⟩
    have z0 := hG.out.cell x0 (by simp; omega)
    have z1 := hG.out.cell x1 (by simp; omega)
    by_cases hlt : k < n
    · go_wp2_with fail
      go_loopw [6] (fun i wr => ∃ j : Nat, j ≤ W ∧ i = .int .i64 j ∧ Hid (U0.grownBy wr (some g)) ∧ Hid (OwnI wr (w.heap.size + 2) (some ⟨g, 0, none⟩) n n (cellsL (upV vb k j) W n))) (fun i _ => W - (intOf i).toNat)
      case atStart => exact ⟨0, Nat.zero_le _, rfl, hG, hO⟩
      case round =>
        clear hG hO z0 z1
        obtain ⟨j, hj, rfl, hG, hO⟩ := hrel
        obtain ⟨wi, rfl⟩ : ∃ wi : World, wi = wr := ⟨_, rfl⟩
        have z0 := hG.out.cell x0 (by simp; omega)
        have z1 := hG.out.cell x1 (by simp; omega)
        by_cases hlj : j < W
        · have q0 := hG.out.cell o0 (by simp; omega)
          have q1 := hG.out.cell o1 (by simp; omega)
          have rI := Lib.hid (r.out.apart hG.out (fun b off e hn => by have := rb.out b off e hn; simp; omega))
          have hIc := cells_im (upV vb k j) hw1 hw6 hn1 hn6
          have hrow := hIc.row k hlt
          have hp6 := pw_63 hw6
          have hput := upv_put (v := vb) hw1 hw6 hn1 hn6 hlt hlj
          unfold putL at hput
          have tok0 : True := trivial
          generalize cellsL (upV vb k j) W n = L at *
          replace hput := Lib.hid hput
          go_wp2_with fail
          go_region_law (first | ((go_simp; go_at_call 31; have _t := tok0; (with_reducible refine (hvar.out k j hlt hlj _ (rI.out.bel ((Below.refl _ _).drew))).mono ?_); rintro e w2 ⟨rfl, hb2⟩; have hb : Below wi.heap.size wi w2 := (((Below.refl _ _).drew).trans (hb2.mono (Nat.le_refl _))); replace q0 := kept hb (block_lt q0) q0; replace q1 := kept hb (block_lt q1) q1; replace hO := Lib.hid (hO.out.bel hb); replace hG := Lib.hid (grown_trans hG.out (below_grown hb _)); clear hb hb2 _t tok0)) | ((go_simp; go_at_call 87; (with_reducible refine (put_spec W (w.heap.size + 2) g n n L k j (vb k j) _ hO.out hlt (by omega) hrow.1 (by omega)).mono ?_); rintro e w3 ⟨rfl, hg3, ho3⟩; replace hO := Lib.hid ho3; replace hG := Lib.hid (grown_trans hG.out hg3); clear hg3 ho3)))
          all_goals go_wp2_with fail
          all_goals exact ⟨⟨j + 1, by omega, by go_num, hG, by rw [← hput.out]; exact hO⟩, by simp [intOf]; omega⟩
        · obtain rfl : j = W := by omega
          rw [upv_row] at hO
          go_wp2_with fail
          exact ⟨⟨k + 1, by omega, by go_num, hG, hO⟩, by simp [intOf]; omega⟩
    · obtain rfl : k = n := by omega
      have q0 := hG.out.cell o0 (by simp; omega)
      have q1 := hG.out.cell o1 (by simp; omega)
      have u0 := hG.out.cell y0 (by simp; omega)
      have u1 := hG.out.cell y1 (by simp; omega)
      have uf : ∀ o, wo.frozen? ⟨w.heap.size + 1, o, none⟩ = false := fun o => (World.frozen?_of_block (a := ⟨w.heap.size + 1, o, none⟩) (hG.out.block (w.heap.size + 1) (by omega) (by simp; omega))).trans (yf o)
      have bG : Below w.heap.size w wo := bb.out.trans ((grown_below hG.out).mono (by omega))
      rw [upv_all] at hO
      replace bG := Lib.hid bG
      go_wp2_with fail
      refine bodyPost_ret (v := .tuple #[.agg #[.int .i64 W, .slice (some ⟨g, 0, none⟩) k k], .bool true]) (by simp [results, Try.results36, go_sem, u0, u1]) rfl ?_
      refine ⟨⟨some ⟨g, 0, none⟩, k, by rw [hvl.out], ?_⟩, (bG.out.setCell (by simp) _).setCell (by simp) _⟩
      rw [show (Out.mk true (W : Int) (cellsL vb W k)).xs.length = k from hvl.out]
      exact ((hO.out.store (show w.heap.size + 1 < w.heap.size + 2 by omega) _).store (show w.heap.size + 1 < w.heap.size + 2 by omega) _).mono (by omega)
def flipO (W : Int) (xs : List Int) (i j : Int) : Out := if varO W xs i j = true then ⟨true, W, flipL xs W.toNat xs.length i.toNat j.toNat⟩ else .no
set_option maxHeartbeats 4000000 in
theorem flip_spec (W : Int) (a : Option Addr) (n cap : Nat) (xs : List Int) (i j : Int) (w : World) (h : Row w a n xs) (hm : n ≤ 9223372036854775807) :
    Calls Try.prog 52 #[.agg #[.int .i64 W, .slice a n cap], .int .i64 i, .int .i64 j] w (Gives w (flipO W xs i j)) := by
  have hl := h.1
  obtain ⟨W0, hW0⟩ : ∃ W0, W0 = ((w.alloc (.cells #[.int .i64 W, .slice a n cap] 25)).alloc (.cells #[.int .i64 0, .slice none 0 0] 25)) := ⟨_, rfl⟩
  have bb : Hid (Below w.heap.size w W0) := by subst hW0; exact ((Below.refl _ _).alloc (Nat.le_refl _) _).alloc (by simp) _
  have x0 : W0.cell? ⟨w.heap.size, 0, none⟩ = some (.int .i64 W) := by subst hW0; go_simp
  have x1 : W0.cell? ⟨w.heap.size, 1, none⟩ = some (.slice a n cap) := by subst hW0; go_simp
  have y0 : W0.cell? ⟨w.heap.size + 1, 0, none⟩ = some (.int .i64 0) := by subst hW0; go_simp
  have y1 : W0.cell? ⟨w.heap.size + 1, 1, none⟩ = some (.slice none 0 0) := by subst hW0; go_simp
  have yf : ∀ o, W0.frozen? ⟨w.heap.size + 1, o, none⟩ = false := fun o => by subst hW0; go_simp
  have r := Lib.hid (h.bel bb.out)
  have rb := Lib.hid (row_lt h)
  clear h
  have l0 := block_lt y0
  simp only at l0
  have hvs := Lib.hid (fun wx hx => var_spec W a n cap xs i j wx hx hm)
  by_cases hv : varO W xs i j = true
  case neg =>
    rw [show flipO W xs i j = .no from if_neg hv]
    have hv : varO W xs i j = false := by simpa using hv
    clear hl
    go_enter Try.func52, Try.ntmps52
    go_wp2_with fail
    rw [← hW0]
    clear hW0
    refine (hvs.out _ r.out).mono ?_
    rintro e v1 ⟨rfl, hb⟩
    have szv1 := hb.size
    replace yf : ∀ o, v1.frozen? ⟨w.heap.size + 1, o, none⟩ = false := fun o => (hb.frozen (p := ⟨w.heap.size + 1, o, none⟩) (show w.heap.size + 1 < _ from block_lt y0)).trans (yf o)
    replace x0 := kept hb (block_lt x0) x0
    replace x1 := kept hb (block_lt x1) x1
    replace y0 := kept hb (block_lt y0) y0
    replace y1 := kept hb (block_lt y1) y1
    replace r := Lib.hid (r.out.bel hb)
    replace bb := Lib.hid (bb.out.trans (hb.mono bb.out.size))
    rw [hv]
    clear hb
    go_wp2_with fail
    refine bodyPost_ret (v := .tuple #[.agg #[.int .i64 0, .slice none 0 0], .bool false]) (by simp [results, Try.results52, go_sem, y0, y1]) rfl ?_
    exact ⟨⟨none, 0, rfl, own_nil _ _⟩, (bb.out.setCell (by simp) _).setCell (by simp) _⟩
  rw [show flipO W xs i j = ⟨true, W, flipL xs W.toNat xs.length i.toNat j.toNat⟩ from if_pos hv]
  obtain ⟨W, i, j, rfl, rfl, rfl, hI, hi, hj, hvb⟩ := varO_im hl hv
  rw [Int.toNat_natCast, Int.toNat_natCast, Int.toNat_natCast, hl]
  have hw6 := hI.w6
  have hw1 := hI.w1
  have hn6 := hI.l6
  have hn1 := hI.l1
  obtain ⟨rk, hrk, hf0⟩ := flip_at0 hI hi hj hvb
  have hfl : (flipL xs W n i j).length = n := (flip_all hI hi hj hvb).1.hl
  have hlt := ends_lt (xs := xs) hi hj
  have heo := ends_or xs n i j
  have hends := Lib.hid (fun wx hx => ends_any W a n cap xs i j wx hx hI hi hj)
  have hpar := Lib.hid (fun wx hx => parents_any W a n cap xs _ wx hx hI hlt.1)
  have hstep := Lib.hid (fun (fu : Nat) (ys : List Int) (p : Nat) (h : FlipAt xs W n i j rk fu ys p) (hne : p ≠ fromP xs n i j) => h.step hrk hi hj hne)
  have hdone := Lib.hid (fun (fu : Nat) (ys : List Int) (h : FlipAt xs W n i j rk fu ys (fromP xs n i j)) => h.done)
  have hFim := Lib.hid (fun (fu : Nat) (ys : List Int) (p : Nat) (h : FlipAt xs W n i j rk fu ys p) => (⟨h.im, h.lt⟩ : Im W n ys ∧ p < n + W))
  obtain ⟨FA, hFA⟩ : ∃ FA : Nat → List Int → Nat → Prop, FA = FlipAt xs W n i j rk := ⟨_, rfl⟩
  rw [← hFA] at hf0 hstep hdone hFim
  clear hFA
  generalize fromP xs n i j = f at *
  generalize toP xs n i j = t at *
  generalize hPP : parP xs W n f = Q at *
  generalize flipL xs W n i j = Z at *
  obtain ⟨M, hM⟩ : ∃ M, n + W = M := ⟨_, rfl⟩
  rw [hM] at hlt hpar hFim
  have hM12 : M ≤ 12 := by omega
  replace hM := Lib.hid hM
  replace hf0 := Lib.hid hf0
  replace hPP := Lib.hid hPP
  replace hfl := Lib.hid hfl
  replace hI := Lib.hid hI
  replace heo := Lib.hid heo
  clear hrk
  go_enter Try.func52, Try.ntmps52
  go_wp2_with fail
  rw [← hW0]
  clear hW0
  refine (hvs.out _ r.out).mono ?_
  rintro e v2 ⟨rfl, hb⟩
  have szv2 := hb.size
  replace yf : ∀ o, v2.frozen? ⟨w.heap.size + 1, o, none⟩ = false := fun o => (hb.frozen (p := ⟨w.heap.size + 1, o, none⟩) (show w.heap.size + 1 < _ from block_lt y0)).trans (yf o)
  replace x0 := kept hb (block_lt x0) x0
  replace x1 := kept hb (block_lt x1) x1
  replace y0 := kept hb (block_lt y0) y0
  replace y1 := kept hb (block_lt y1) y1
  replace r := Lib.hid (r.out.bel hb)
  replace bb := Lib.hid (bb.out.trans (hb.mono bb.out.size))
  rw [hv]
  clear hb
  go_wp2_with fail
  refine (hends.out _ r.out).mono ?_
  rintro e v3 ⟨rfl, hb⟩
  have szv3 := hb.size
  replace yf : ∀ o, v3.frozen? ⟨w.heap.size + 1, o, none⟩ = false := fun o => (hb.frozen (p := ⟨w.heap.size + 1, o, none⟩) (show w.heap.size + 1 < _ from block_lt y0)).trans (yf o)
  replace x0 := kept hb (block_lt x0) x0
  replace x1 := kept hb (block_lt x1) x1
  replace y0 := kept hb (block_lt y0) y0
  replace y1 := kept hb (block_lt y1) y1
  replace r := Lib.hid (r.out.bel hb)
  replace bb := Lib.hid (bb.out.trans (hb.mono bb.out.size))
  clear hb
  go_wp2_with fail
  refine (hpar.out _ r.out).mono ?_
  rintro e v4 ⟨⟨g1, c1, rfl, ho⟩, hb⟩
  have szv4 := hb.size
  replace yf : ∀ o, v4.frozen? ⟨w.heap.size + 1, o, none⟩ = false := fun o => (hb.frozen (p := ⟨w.heap.size + 1, o, none⟩) (show w.heap.size + 1 < _ from block_lt y0)).trans (yf o)
  replace x0 := kept hb (block_lt x0) x0
  replace x1 := kept hb (block_lt x1) x1
  replace y0 := kept hb (block_lt y0) y0
  replace y1 := kept hb (block_lt y1) y1
  replace r := Lib.hid (r.out.bel hb)
  replace bb := Lib.hid (bb.out.trans (hb.mono bb.out.size))
  have og1 : w.heap.size + 2 ≤ g1 := by have h1 : _ ≤ g1 := (rng_own ho _ rfl).1; omega
  have qr := Lib.hid ho.row
  have lq : g1 < v4.heap.size := (rng_own ho _ rfl).2
  clear ho
  clear hb
  obtain ⟨b, off, rfl, hrc⟩ := r.out.2.resolve_left (by omega)
  go_wp2_with fail
  refine (copy_spec (W : Int) b off n cap xs _ hl hrc (by omega) (by omega)).mono ?_
  rintro e v5 ⟨⟨ac, c2, rfl, ho⟩, hb⟩
  have szv5 := hb.size
  replace yf : ∀ o, v5.frozen? ⟨w.heap.size + 1, o, none⟩ = false := fun o => (hb.frozen (p := ⟨w.heap.size + 1, o, none⟩) (show w.heap.size + 1 < _ from block_lt y0)).trans (yf o)
  replace x0 := kept hb (block_lt x0) x0
  replace x1 := kept hb (block_lt x1) x1
  replace y0 := kept hb (block_lt y0) y0
  replace y1 := kept hb (block_lt y1) y1
  replace r := Lib.hid (r.out.bel hb)
  replace qr := Lib.hid (qr.out.bel hb)
  replace bb := Lib.hid (bb.out.trans (hb.mono bb.out.size))
  clear hrc
  obtain ⟨g2, rfl, og2, og3⟩ : ∃ g, ac = some ⟨g, 0, none⟩ ∧ v4.heap.size ≤ g ∧ g < v5.heap.size := by
    rcases ho.cases with ⟨_, h, _⟩ | ⟨g, h1, h2, h3⟩
    · omega
    · exact ⟨g, h1, h2, h3⟩
  replace ho := Lib.hid (OwnI.mono ho (B' := w.heap.size + 2) (by omega))
  clear hb
  obtain ⟨B, hB⟩ : ∃ B, v5.heap.size = B := ⟨_, rfl⟩
  obtain ⟨U0, hU0⟩ : ∃ U0, v5.alloc (.cells #[.int .i64 W, .slice (some ⟨g2, 0, none⟩) n c2] 25) = U0 := ⟨_, rfl⟩
  have hb : Below v5.heap.size v5 U0 := by rw [← hU0]; exact (Below.refl _ _).alloc (Nat.le_refl _) _
  have o0 : U0.cell? ⟨B, 0, none⟩ = some (.int .i64 W) := by rw [← hU0, ← hB]; simp
  have o1 : U0.cell? ⟨B, 1, none⟩ = some (.slice (some ⟨g2, 0, none⟩) n c2) := by rw [← hU0, ← hB]; simp
  have szU0 := hb.size
  replace yf : ∀ o, U0.frozen? ⟨w.heap.size + 1, o, none⟩ = false := fun o => (hb.frozen (p := ⟨w.heap.size + 1, o, none⟩) (show w.heap.size + 1 < _ from block_lt y0)).trans (yf o)
  replace x0 := kept hb (block_lt x0) x0
  replace x1 := kept hb (block_lt x1) x1
  replace y0 := kept hb (block_lt y0) y0
  replace y1 := kept hb (block_lt y1) y1
  replace r := Lib.hid (r.out.bel hb)
  replace qr := Lib.hid (qr.out.bel hb)
  replace ho := Lib.hid (ho.out.bel hb)
  replace bb := Lib.hid (bb.out.trans (hb.mono bb.out.size))
  clear hb
  have hgB : g2 < B := by omega
  have hgq : g1 ≠ g2 := by omega
  have hg2w : w.heap.size + 2 ≤ g2 := by omega
  go_upto_region 6 with fail
  (try rw [hU0])
  (try rw [hB])
  have lB : B < U0.heap.size := block_lt o0
  clear hU0 szU0
  have hpq : f = i ∧ t = n + j ∨ t = i ∧ f = n + j := by rcases heo.out with h | h; exact .inl h; exact .inr ⟨h.2, h.1⟩
  go_wp2_with fail
  refine (tog_spec W _ g2 n c2 xs f t i j _ ho.out hI.out hpq hi hj).mono ?_
  rintro e V0 ⟨rfl, hG, hO⟩
  have z : w.heap.size + 1 < g2 := by omega
  have lz : w.heap.size + 1 < U0.heap.size := block_lt y0
  have h0 := hf0.out
  replace hG := Lib.hid hG
  replace hO := Lib.hid hO
  clear ho hpq
  go_wp2_with fail
  go_loopw [12] (fun v wr => ∃ (p fu : Nat) (ys : List Int), v = .int .i64 p ∧ Hid (FA fu ys p) ∧ Hid (U0.grownBy wr (some g2)) ∧ Hid (OwnI wr (w.heap.size + 2) (some ⟨g2, 0, none⟩) n c2 ys)) (fun v _ => rk (intOf v).toNat)
  case atStart => exact ⟨t, _, _, rfl, hf0, hG, hO⟩
  case round =>
    clear hf0 h0 hG hO
    obtain ⟨p, fu, ys, rfl, hFA, hG, hO⟩ := hrel
    obtain ⟨wo, rfl⟩ : ∃ wo : World, wo = wr := ⟨_, rfl⟩
    have q0 := hG.out.cell o0 (by simp; omega)
    have q1 := hG.out.cell o1 (by simp; omega)
    have rq := qr.out.apart hG.out (fun b off e hn => by cases e; simp; omega)
    by_cases hpf : p = f
    case pos =>
      subst hpf
      have hd := hdone.out _ _ hFA.out
      have u0 := hG.out.cell y0 (by simp; omega)
      have u1 := hG.out.cell y1 (by simp; omega)
      have uf : ∀ o, wo.frozen? ⟨w.heap.size + 1, o, none⟩ = false := fun o => (World.frozen?_of_block (a := ⟨w.heap.size + 1, o, none⟩) (hG.out.block (w.heap.size + 1) (by omega) (by simp; omega))).trans (yf o)
      have bG : Below w.heap.size w wo := bb.out.trans ((grown_below hG.out).mono (by omega))
      replace bG := Lib.hid bG
      rw [← hd] at hO
      clear hd rq
      go_wp2_with fail
      refine bodyPost_ret (v := .tuple #[.agg #[.int .i64 W, .slice (some ⟨g2, 0, none⟩) n c2], .bool true]) (by simp [results, Try.results52, go_sem, u0, u1]) rfl ?_
      refine ⟨⟨some ⟨g2, 0, none⟩, c2, by rw [hfl.out], ?_⟩, (bG.out.setCell (by simp) _).setCell (by simp) _⟩
      rw [show (Out.mk true (W : Int) Z).xs.length = n from hfl.out]
      exact ((hO.out.store (show w.heap.size + 1 < w.heap.size + 2 by omega) _).store (show w.heap.size + 1 < w.heap.size + 2 by omega) _).mono (by omega)
    have hFi := hFim.out _ _ _ hFA.out
    obtain ⟨q, g, k, l, eq, _, hrk, hkl, hk, hll, hn⟩ := hstep.out _ _ _ hFA.out hpf
    obtain ⟨gq, oq, e, cq⟩ := row_at rq hFi.2
    cases e
    rw [eq, Nat.zero_add] at cq
    have e1 : ((p : Int) == (f : Int)) = false := by rw [beq_eq_false_iff_ne]; omega
    have e2 : ((p : Int) != (f : Int)) = true := by rw [bne_iff_ne]; omega
    have hkl2 : q = k ∧ p = n + l ∨ p = k ∧ q = n + l := hkl
    have hs := hO.out.bel ((Below.refl _ _).drew)
    obtain ⟨W2, hW2⟩ : ∃ W2, wo.drew = W2 := ⟨_, rfl⟩
    rw [hW2] at hs
    have hb2 : Below wo.heap.size wo W2 := by rw [← hW2]; exact (Below.refl _ _).drew
    replace q0 := kept hb2 (block_lt q0) q0
    replace q1 := kept hb2 (block_lt q1) q1
    have cq2 := kept hb2 (block_lt cq) cq
    have hG2 := Lib.hid (grown_trans hG.out (below_grown hb2 (some g2)))
    have hpp := hFi.2
    replace hFi := Lib.hid hFi
    replace hkl := Lib.hid hkl
    replace hn := Lib.hid hn
    replace hs := Lib.hid hs
    clear hG hO rq hFA hb2 hkl2
    go_wp2_with fail
    refine region_tail 6 (by kernel_rfl) (by kernel_rfl) W2 hW2 ?_
    simp only [List.take_succ_cons, List.take_zero, List.drop_succ_cons, List.drop_zero]
    clear hW2 cq
    repeat still_step
    refine wpStill_nil ?_
    go_wp2_with fail
    refine (tog_spec W _ g2 n c2 ys q p k l _ hs.out hFi.out.1 hkl.out hk hll).mono ?_
    rintro e V1 ⟨rfl, hG3, hO3⟩
    have cq3 := hG3.cell cq2 (by simp; omega)
    have hG4 := Lib.hid (grown_trans hG2.out hG3)
    replace hO3 := Lib.hid hO3
    clear hG3 hG2 hs cq2 q0 q1
    go_wp2_with fail
    exact ⟨⟨q, _, _, rfl, hn, hG4, hO3⟩, by simpa [intOf] using hrk⟩
end Go.Proofs.Ytepeplmbnkjeeaa

