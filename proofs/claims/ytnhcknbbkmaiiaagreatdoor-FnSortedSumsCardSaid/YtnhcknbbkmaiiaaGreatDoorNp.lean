/-
  The contracts of the model's l14Order and ImageSorted.
  The contract of the model's ImageSorted.
-/
import Derived.Test.YtnhcknbbkmaiiaaGreatDoorNg
import Derived.Test.YtnhcknbbkmaiiaaGreatDoorMd
import Derived.Deep.RegionHeld3

namespace Go.Proofs.YtnhcknbbkmaiiaaGreatDoor
set_option maxRecDepth 100000
open Go.RowKit

def natI (L : List Nat) : List Int := L.map fun (i : Nat) => (i : Int)
theorem nati_len (L : List Nat) : (natI L).length = L.length := List.length_map _
theorem nati_get {L : List Nat} {i : Nat} (h : i < L.length) : (natI L).getD i 0 = (L.getD i 0 : Nat) := by
  rw [getD_elem (by rw [nati_len]; exact h), List.getD_eq_getElem?_getD, List.getElem?_eq_getElem h]
  unfold natI
  rw [List.getElem_map]; rfl

set_option maxHeartbeats 1600000 in
theorem order_spec (a : Option Addr) (n cap : Nat) (xs : List Int) (w : World) (h : Row w a n xs) (hn : n ≤ 6) (hb : ∀ i, i < n → 0 ≤ xs.getD i 0 ∧ xs.getD i 0 ≤ 6) :
    Calls Tryz.prog 62 #[.slice a n cap] w (GivesK w n (natI (ordL (fun i => xs.getD i 0) n))) := by
  have hl := h.1
  obtain ⟨f, hf⟩ : ∃ f : Nat → Int, (fun i => xs.getD i 0) = f := ⟨_, rfl⟩
  have hfi : ∀ i, xs.getD i 0 = f i := fun i => by rw [← hf]
  have hlen : (natI (ordL f n)).length = n := by rw [nati_len, ← hf, ord_len hb]
  rw [hf]
  obtain ⟨W0, hW0⟩ : ∃ W0, W0 = w.alloc (.cells #[] 3) := ⟨_, rfl⟩
  have hb0 : Below w.heap.size w W0 := by subst hW0; exact (Below.refl _ _).alloc (Nat.le_refl _) _
  have ho : OwnI W0 w.heap.size (some ⟨w.heap.size, 0, none⟩) 0 0 [] := by subst hW0; exact own_empty w w.heap.size w.heap.size rfl (Nat.le_refl _)
  have hR := Lib.hid h
  obtain ⟨i0, hi, hz0, hz1, hz2⟩ := info_parts infoInt
  have ho := Lib.hid ho
  have hb0 := Lib.hid hb0
  replace hfi := Lib.hid hfi
  replace hlen := Lib.hid hlen
  generalize hB : w.heap.size = B at *
  clear h hf hb
  go_enter Tryz.func62, Tryz.ntmps62
  go_wp2_with fail
  rw [← hW0]
  clear hW0
  go_loopw [3, 4] (fun o x wr => ∃ (k m : Nat) (s : Option Addr) (c : Nat), k ≤ 7 ∧ m ≤ 6 * k ∧ x = .int .i64 (6 - (k : Int)) ∧ o = .slice s m c ∧ Hid (OwnI wr B s m c (natI (ordK f n k))) ∧ Hid (Below B w wr)) (fun _ x _ => (intOf x + 1).toNat)
  case atStart => exact ⟨0, 0, _, 0, by omega, by omega, rfl, rfl, ho, hb0⟩
  case round =>
    obtain ⟨k, m, s, c, hk, hmk, rfl, rfl, hO, hB1⟩ := hrel
    obtain ⟨wo, rfl⟩ : ∃ wo : World, wo = wr := ⟨_, rfl⟩
    clear ho hb0
    by_cases hlt : k < 7
    · obtain ⟨v, hv⟩ : ∃ v, 6 - (k : Int) = v := ⟨_, rfl⟩
      have hv0 : 0 ≤ v := by omega
      rw [hv]
      go_wp2_with fail
      go_loopw [3, 5] (fun o i wr => ∃ (j m : Nat) (s : Option Addr) (c : Nat), j ≤ n ∧ m ≤ 6 * k + j ∧ i = .int .i64 j ∧ o = .slice s m c ∧ Hid (OwnI wr B s m c (natI (ordJ f n k j))) ∧ Hid (Below B w wr)) (fun _ i _ => n - (intOf i).toNat)
      case atStart => exact ⟨0, m, s, c, Nat.zero_le _, by omega, rfl, rfl, by rw [ordj_zero]; exact hO, hB1⟩
      case round =>
        obtain ⟨j, m, s, c, hj, hmj, rfl, rfl, hO2, hB2⟩ := hrel
        clear hO hB1
        by_cases hlj : j < n
        · obtain ⟨b, off, rfl, hc⟩ := row_at (hR.out.bel (hB ▸ hB2.out)) hlj
          rw [hfi.out j] at hc
          by_cases hx : f j = v
          · rw [hx] at hc
            have hsn : natI (ordJ f n k (j + 1)) = natI (ordJ f n k j) ++ [(j : Int)] := by
              rw [ordj_yes (by rw [hx]; exact hv.symm)]; unfold natI; rw [List.map_append]; rfl
            generalize natI (ordJ f n k j) = L at hsn hO2
            replace hsn := Lib.hid hsn
            have hx := Lib.hid hx
            have hBw := hB2.out.size
            rw [hB] at hBw
            go_wp2_with (at_builtin; refine wpList_append_own _ rfl _ _ 23 rfl B 3 i0 (.int .i64 0) 1 8 Tryz.underlying23 hi hz0 hz1 hz2 rfl (by decide) _ m (L.map (Value.int .i64)) rfl (World.ownsRow.alloc hO2.out _) ⟨wr.heap.size, 0, none⟩ 1 1 [.int .i64 j] rfl rfl ?c1 ?c2 ?c3 ?c4 ?c5 ?_)
            case c1 => exact one_new _ _
            case c2 => exact one_cell _
            case c3 => unfold maxLen; omega
            case c4 => omega
            case c5 => simp; omega
            intro v' w3 hown hgr _
            obtain ⟨a', cap', rfl, ho3⟩ := own_of (xs := natI (ordJ f n k (j + 1))) (by rw [hsn.out, List.map_append]; exact hown)
            have hb3 := app_bel hO2.out hgr rfl hBw
            have hB3 := Lib.hid (hB2.out.trans (hb3.mono (Nat.le_refl _)))
            have ho3 := Lib.hid ho3
            clear hown hgr hb3 hO2 hB2
            go_wp2_with fail
            exact ⟨⟨j + 1, m + 1, a', cap', by omega, by omega, by go_num, rfl, ho3, hB3⟩, by simp [intOf]; omega⟩
          · have hsn : ordJ f n k (j + 1) = ordJ f n k j := ordj_no (by rw [hv]; exact hx)
            rw [← hsn] at hO2
            have hne : (f j == v) = false := by simpa using hx
            generalize f j = y at hc hne
            clear hx hsn
            go_wp2_with fail
            exact ⟨⟨j + 1, m, s, c, by omega, by omega, by go_num, rfl, hO2, hB2⟩, by simp [intOf]; omega⟩
        · have : j = n := by omega
          subst this
          rw [ordj_all] at hO2
          go_wp2_with fail
          exact ⟨⟨k + 1, m, s, c, by omega, by omega, int_eq (by omega), rfl, by subst hv; exact hO2, hB2⟩, by simp [intOf]; omega⟩
    · have : k = 7 := by omega
      subst this
      rw [ord_seven] at hO
      go_wp2_with fail
      go_ret
      have ho := hO.out
      have hml : m = n := ho.len.symm.trans hlen.out
      subst hml
      exact ⟨⟨s, c, rfl, by rw [hB]; exact ho⟩, by rw [hB]; exact hB1.out⟩
end Go.Proofs.YtnhcknbbkmaiiaaGreatDoor

namespace Go.Proofs.YtnhcknbbkmaiiaaGreatDoor
set_option maxRecDepth 100000
open Go.RowKit

theorem ord_rs {xs : List Int} {W n : Nat} : ordL (fun i => (rsL xs W n).getD i 0) n = rowO xs W n := ord_ext fun i hi => rs_cells xs W n i hi
theorem ord_cs {xs : List Int} {W n : Nat} : ordL (fun j => (csL xs n W).getD j 0) W = colO xs W n := ord_ext fun j hj => cs_cells xs W n j hj
set_option maxHeartbeats 4000000 in
theorem sorted_spec (W : Int) (a : Option Addr) (n cap : Nat) (xs : List Int) (w : World) (h : Row w a n xs) (hm : n ≤ 9223372036854775807) :
    Calls Tryz.prog 28 #[.agg #[.int .i64 W, .slice a n cap]] w (Gives w (sortO W xs)) := by
  have hl := h.1
  obtain ⟨W0, hW0⟩ : ∃ W0, W0 = ((w.alloc (.cells #[.int .i64 W, .slice a n cap] 25)).alloc (.cells #[.int .i64 0, .slice none 0 0] 25)) := ⟨_, rfl⟩
  have bb : Hid (Below w.heap.size w W0) := by subst hW0; exact ((Below.refl _ _).alloc (Nat.le_refl _) _).alloc (by simp) _
  have x0 : W0.cell? ⟨w.heap.size, 0, none⟩ = some (.int .i64 W) := by subst hW0; go_simp
  have x1 : W0.cell? ⟨w.heap.size, 1, none⟩ = some (.slice a n cap) := by subst hW0; go_simp
  have y0 : W0.cell? ⟨w.heap.size + 1, 0, none⟩ = some (.int .i64 0) := by subst hW0; go_simp
  have y1 : W0.cell? ⟨w.heap.size + 1, 1, none⟩ = some (.slice none 0 0) := by subst hW0; go_simp
  have yf : ∀ o, W0.frozen? ⟨w.heap.size + 1, o, none⟩ = false := fun o => by subst hW0; go_simp
  have r := Lib.hid (h.bel bb.out)
  have rb := Lib.hid (row_lt h)
  clear h
  have l0 := block_lt y0
  simp only at l0
  by_cases hv : validB W xs = true
  case neg =>
    rw [show sortO W xs = .no from if_neg hv]
    have hv : validB W xs = false := by simpa using hv
    clear hl
    go_enter Tryz.func28, Tryz.ntmps28
    go_wp2_with fail
    rw [← hW0]
    clear hW0
    refine (valid_spec W a n cap xs _ r.out hm).mono ?_
    rintro e v1 ⟨rfl, hb⟩
    have szv1 := hb.size
    replace yf : ∀ o, v1.frozen? ⟨w.heap.size + 1, o, none⟩ = false := fun o => (hb.frozen (p := ⟨w.heap.size + 1, o, none⟩) (show w.heap.size + 1 < _ from block_lt y0)).trans (yf o)
    replace x0 := kept hb (block_lt x0) x0
    replace x1 := kept hb (block_lt x1) x1
    replace y0 := kept hb (block_lt y0) y0
    replace y1 := kept hb (block_lt y1) y1
    replace r := Lib.hid (r.out.bel hb)
    replace bb := Lib.hid (bb.out.trans (hb.mono bb.out.size))
    rw [hv]
    clear hb
    go_wp2_with fail
    refine bodyPost_ret (v := .tuple #[.agg #[.int .i64 0, .slice none 0 0], .bool false]) (by simp [results, Tryz.results28, go_sem, y0, y1]) rfl ?_
    exact ⟨⟨none, 0, rfl, own_nil _ _⟩, (bb.out.setCell (by simp) _).setCell (by simp) _⟩
  have hW := validB_W hv
  obtain ⟨W, rfl⟩ := Int.eq_ofNat_of_zero_le (by omega : 0 ≤ W)
  have hI : Im W n xs := Im.of hv hl
  rw [sorto_im hI]
  have hw6 := hI.w6
  have hw1 := hI.w1
  have hn6 := hI.l6
  have hn1 := hI.l1
  have hvl : (sortI xs W n).length = n := cells_len _ _ _
  have hRp := rowo_perm hI
  have hCp := colo_perm hI
  have hRl : (rowO xs W n).length = n := by rw [hRp.length_eq, List.length_range]
  have hCl : (colO xs W n).length = W := by rw [hCp.length_eq, List.length_range]
  have cR := Lib.hid (fun wx hx => rsums_spec (W : Int) a n cap xs wx hx hm)
  have cC := Lib.hid (fun wx hx => csums_spec (W : Int) a n cap xs wx hx hm)
  have kR := Lib.hid (fun s c wx hx => ord_rs (xs := xs) (W := W) (n := n) ▸ order_spec s n c (rsL xs W n) wx hx hn6 (fun i hi => by rw [rs_cells xs W n i hi]; exact ri_bd hw6 i))
  have kC := Lib.hid (fun s c wx hx => ord_cs (xs := xs) (W := W) (n := n) ▸ order_spec s W c (csL xs n W) wx hx hw6 (fun j hj => by rw [cs_cells xs W n j hj]; exact ci_bd hn6 j))
  rw [hI.rs] at cR
  rw [hI.cs] at cC
  unfold GivesL at cR cC
  rw [rs_len] at cR
  rw [cs_len] at cC
  obtain ⟨RS, hRS⟩ : ∃ R, rsL xs W n = R := ⟨_, rfl⟩
  obtain ⟨CS, hCS⟩ : ∃ C, csL xs n W = C := ⟨_, rfl⟩
  rw [hRS] at cR kR
  rw [hCS] at cC kC
  obtain ⟨RR, hRR⟩ : ∃ R, rowO xs W n = R := ⟨_, rfl⟩
  obtain ⟨CC, hCC⟩ : ∃ C, colO xs W n = C := ⟨_, rfl⟩
  have hVL : sortI xs W n = cellsL (sortC (cellOf xs) (rowO xs W n) (colO xs W n)) W n := rfl
  rw [hRR, hCC] at hVL
  rw [hRR] at kR hRp hRl
  rw [hCC] at kC hCp hCl
  have hget := Lib.hid (fun (i j : Nat) (hi : i < n) (hj : j < W) wx hx => get_any W a n cap xs (RR.getD i 0) (CC.getD j 0) wx hx hI (perm_lt hRp hi) (perm_lt hCp hj))
  have hvb : Hid (∀ i j, (bitI (xs.getD (RR.getD i 0) 0) (CC.getD j 0) == 1) = sortC (cellOf xs) RR CC i j) := Lib.hid (fun i j => rfl)
  rw [hVL] at hvl ⊢
  generalize sortC (cellOf xs) RR CC = vb at *
  have gR := Lib.hid (fun (i : Nat) (hi : i < n) => nati_get (L := RR) (i := i) (by omega))
  have gC := Lib.hid (fun (i : Nat) (hi : i < W) => nati_get (L := CC) (i := i) (by omega))
  replace hvl := Lib.hid hvl
  replace hRS := Lib.hid hRS
  replace hCS := Lib.hid hCS
  replace hRR := Lib.hid hRR
  replace hCC := Lib.hid hCC
  clear hI hVL hRp hCp hRl hCl
  go_enter Tryz.func28, Tryz.ntmps28
  go_wp2_with fail
  rw [← hW0]
  clear hW0
  refine (valid_spec W a n cap xs _ r.out hm).mono ?_
  rintro e v2 ⟨rfl, hb⟩
  have szv2 := hb.size
  replace yf : ∀ o, v2.frozen? ⟨w.heap.size + 1, o, none⟩ = false := fun o => (hb.frozen (p := ⟨w.heap.size + 1, o, none⟩) (show w.heap.size + 1 < _ from block_lt y0)).trans (yf o)
  replace x0 := kept hb (block_lt x0) x0
  replace x1 := kept hb (block_lt x1) x1
  replace y0 := kept hb (block_lt y0) y0
  replace y1 := kept hb (block_lt y1) y1
  replace r := Lib.hid (r.out.bel hb)
  replace bb := Lib.hid (bb.out.trans (hb.mono bb.out.size))
  rw [hv]
  clear hb
  go_wp2_with fail
  refine (cR.out _ r.out).mono ?_
  rintro e v3 ⟨⟨su, du, rfl, ho⟩, hb⟩
  have szv3 := hb.size
  replace yf : ∀ o, v3.frozen? ⟨w.heap.size + 1, o, none⟩ = false := fun o => (hb.frozen (p := ⟨w.heap.size + 1, o, none⟩) (show w.heap.size + 1 < _ from block_lt y0)).trans (yf o)
  replace x0 := kept hb (block_lt x0) x0
  replace x1 := kept hb (block_lt x1) x1
  replace y0 := kept hb (block_lt y0) y0
  replace y1 := kept hb (block_lt y1) y1
  replace r := Lib.hid (r.out.bel hb)
  replace bb := Lib.hid (bb.out.trans (hb.mono bb.out.size))
  have u := Lib.hid ho.row
  clear ho hb
  go_wp2_with fail
  refine (kR.out _ _ _ u.out).mono ?_
  rintro e v4 ⟨⟨srl, drl, rfl, ho⟩, hb⟩
  have szv4 := hb.size
  replace yf : ∀ o, v4.frozen? ⟨w.heap.size + 1, o, none⟩ = false := fun o => (hb.frozen (p := ⟨w.heap.size + 1, o, none⟩) (show w.heap.size + 1 < _ from block_lt y0)).trans (yf o)
  replace x0 := kept hb (block_lt x0) x0
  replace x1 := kept hb (block_lt x1) x1
  replace y0 := kept hb (block_lt y0) y0
  replace y1 := kept hb (block_lt y1) y1
  replace r := Lib.hid (r.out.bel hb)
  replace u := Lib.hid (u.out.bel hb)
  replace bb := Lib.hid (bb.out.trans (hb.mono bb.out.size))
  have rl := Lib.hid ho.row
  clear ho hb
  clear u
  go_wp2_with fail
  refine (cC.out _ r.out).mono ?_
  rintro e v5 ⟨⟨su, du, rfl, ho⟩, hb⟩
  have szv5 := hb.size
  replace yf : ∀ o, v5.frozen? ⟨w.heap.size + 1, o, none⟩ = false := fun o => (hb.frozen (p := ⟨w.heap.size + 1, o, none⟩) (show w.heap.size + 1 < _ from block_lt y0)).trans (yf o)
  replace x0 := kept hb (block_lt x0) x0
  replace x1 := kept hb (block_lt x1) x1
  replace y0 := kept hb (block_lt y0) y0
  replace y1 := kept hb (block_lt y1) y1
  replace r := Lib.hid (r.out.bel hb)
  replace rl := Lib.hid (rl.out.bel hb)
  replace bb := Lib.hid (bb.out.trans (hb.mono bb.out.size))
  have u := Lib.hid ho.row
  clear ho hb
  go_wp2_with fail
  refine (kC.out _ _ _ u.out).mono ?_
  rintro e v6 ⟨⟨scl, dcl, rfl, ho⟩, hb⟩
  have szv6 := hb.size
  replace yf : ∀ o, v6.frozen? ⟨w.heap.size + 1, o, none⟩ = false := fun o => (hb.frozen (p := ⟨w.heap.size + 1, o, none⟩) (show w.heap.size + 1 < _ from block_lt y0)).trans (yf o)
  replace x0 := kept hb (block_lt x0) x0
  replace x1 := kept hb (block_lt x1) x1
  replace y0 := kept hb (block_lt y0) y0
  replace y1 := kept hb (block_lt y1) y1
  replace r := Lib.hid (r.out.bel hb)
  replace rl := Lib.hid (rl.out.bel hb)
  replace u := Lib.hid (u.out.bel hb)
  replace bb := Lib.hid (bb.out.trans (hb.mono bb.out.size))
  have cl := Lib.hid ho.row
  clear ho hb
  clear u
  have brl := Lib.hid (row_lt rl.out)
  have bcl := Lib.hid (row_lt cl.out)
  have szl := bb.out.size
  go_wp2_with fail
  refine (blank_spec (W : Int) n _ (by omega)).mono ?_
  rintro e v7 ⟨⟨g, rfl, hgg, ho⟩, hb⟩
  have szv7 := hb.size
  replace yf : ∀ o, v7.frozen? ⟨w.heap.size + 1, o, none⟩ = false := fun o => (hb.frozen (p := ⟨w.heap.size + 1, o, none⟩) (show w.heap.size + 1 < _ from block_lt y0)).trans (yf o)
  replace x0 := kept hb (block_lt x0) x0
  replace x1 := kept hb (block_lt x1) x1
  replace y0 := kept hb (block_lt y0) y0
  replace y1 := kept hb (block_lt y1) y1
  replace r := Lib.hid (r.out.bel hb)
  replace rl := Lib.hid (rl.out.bel hb)
  replace cl := Lib.hid (cl.out.bel hb)
  replace bb := Lib.hid (bb.out.trans (hb.mono bb.out.size))
  have og := rng_own ho _ rfl
  have og1 : v6.heap.size ≤ g := og.1
  have og2 : g < v7.heap.size := og.2
  have ho := Lib.hid (ho.mono (show w.heap.size + 2 ≤ _ by have := block_lt y0; simp at this; omega))
  clear og
  clear hb
  obtain ⟨B, hB⟩ : ∃ B, v7.heap.size = B := ⟨_, rfl⟩
  obtain ⟨U0, hU0⟩ : ∃ U0, v7.alloc (.cells #[.int .i64 W, .slice (some ⟨g, 0, none⟩) n n] 25) = U0 := ⟨_, rfl⟩
  have hb : Below v7.heap.size v7 U0 := by rw [← hU0]; exact (Below.refl _ _).alloc (Nat.le_refl _) _
  have o0 : U0.cell? ⟨B, 0, none⟩ = some (.int .i64 W) := by rw [← hU0, ← hB]; simp
  have o1 : U0.cell? ⟨B, 1, none⟩ = some (.slice (some ⟨g, 0, none⟩) n n) := by rw [← hU0, ← hB]; simp
  have szU0 := hb.size
  replace yf : ∀ o, U0.frozen? ⟨w.heap.size + 1, o, none⟩ = false := fun o => (hb.frozen (p := ⟨w.heap.size + 1, o, none⟩) (show w.heap.size + 1 < _ from block_lt y0)).trans (yf o)
  replace x0 := kept hb (block_lt x0) x0
  replace x1 := kept hb (block_lt x1) x1
  replace y0 := kept hb (block_lt y0) y0
  replace y1 := kept hb (block_lt y1) y1
  replace r := Lib.hid (r.out.bel hb)
  replace rl := Lib.hid (rl.out.bel hb)
  replace cl := Lib.hid (cl.out.bel hb)
  replace ho := Lib.hid (ho.out.bel hb)
  replace bb := Lib.hid (bb.out.trans (hb.mono bb.out.size))
  clear hb
  have hgB : g < B := by omega
  go_upto_region 6 with fail
  (try rw [hU0])
  (try rw [hB])
  clear hU0 szU0
  have bb1 := bb.out.size
  have lB : B < U0.heap.size := block_lt o0
  have hUn := Lib.hid (show OwnI U0 (w.heap.size + 2) (some ⟨g, 0, none⟩) n n (cellsL (upV vb 0 0) W n) by rw [upv_none]; exact ho.out)
  have lw : w.heap.size + 1 < B := by omega
  have lwg : w.heap.size + 1 < g := by omega
  clear ho szv7
  go_upto_region 7 with fail
  go_loopw [7] (fun i wr => ∃ k : Nat, k ≤ n ∧ i = .int .i64 k ∧ Hid (U0.grownBy wr (some g)) ∧ Hid (OwnI wr (w.heap.size + 2) (some ⟨g, 0, none⟩) n n (cellsL (upV vb k 0) W n))) (fun i _ => n - (intOf i).toNat)
  case atStart => exact ⟨0, Nat.zero_le _, rfl, World.grownBy.refl _ _, hUn⟩
  case round =>
    clear hUn
    obtain ⟨k, hk, rfl, hG, hO⟩ := hrel
    obtain ⟨wo, rfl⟩ : ∃ wo : World, wo = wr := ⟨_, rfl⟩
    by_cases hlt : k < n
    · go_wp2_with fail
      go_loopw [8] (fun i wr => ∃ j : Nat, j ≤ W ∧ i = .int .i64 j ∧ Hid (U0.grownBy wr (some g)) ∧ Hid (OwnI wr (w.heap.size + 2) (some ⟨g, 0, none⟩) n n (cellsL (upV vb k j) W n))) (fun i _ => W - (intOf i).toNat)
      case atStart => exact ⟨0, Nat.zero_le _, rfl, hG, hO⟩
      case round =>
        clear hG hO
        obtain ⟨j, hj, rfl, hG, hO⟩ := hrel
        obtain ⟨wi, rfl⟩ : ∃ wi : World, wi = wr := ⟨_, rfl⟩
        by_cases hlj : j < W
        · have z0 := hG.out.cell x0 (by simp; omega)
          have z1 := hG.out.cell x1 (by simp; omega)
          have q0 := hG.out.cell o0 (by simp; omega)
          have q1 := hG.out.cell o1 (by simp; omega)
          obtain ⟨b1, f1, e1, c1⟩ := row_at rl.out hlt
          obtain ⟨b2, f2, e2, c2⟩ := row_at cl.out hlj
          have l1 := brl.out b1 f1 e1 (by omega)
          have l2 := bcl.out b2 f2 e2 (by omega)
          replace c1 := hG.out.cell c1 (by simp; omega)
          replace c2 := hG.out.cell c2 (by simp; omega)
          rw [gR.out k hlt] at c1
          rw [gC.out j hlj] at c2
          subst e1 e2
          have rI := Lib.hid (r.out.apart hG.out (fun b off e hn => by have := rb.out b off e hn; simp; omega))
          have hIc := cells_im (upV vb k j) hw1 hw6 hn1 hn6
          have hrow := hIc.row k hlt
          have hp6 := pw_63 hw6
          have hput := upv_put (v := vb) hw1 hw6 hn1 hn6 hlt hlj
          have hge := hget.out k j hlt hlj
          have hbv := hvb.out k j
          obtain ⟨bv, hbv0⟩ : ∃ b, bitI (xs.getD (RR.getD k 0) 0) (CC.getD j 0) = b := ⟨_, rfl⟩
          rw [hbv0] at hge hbv
          obtain ⟨pk, hpk⟩ : ∃ p, RR.getD k 0 = p := ⟨_, rfl⟩
          obtain ⟨pj, hpj⟩ : ∃ p, CC.getD j 0 = p := ⟨_, rfl⟩
          rw [hpk] at hge c1
          rw [hpj] at hge c2
          obtain ⟨vkj, hvkj⟩ : ∃ v, vb k j = v := ⟨_, rfl⟩
          rw [hvkj] at hbv hput
          unfold putL at hput
          have tok0 : True := trivial
          generalize cellsL (upV vb k j) W n = L at *
          replace hput := Lib.hid hput
          replace hge := Lib.hid hge
          replace hbv0 := Lib.hid hbv0
          replace hpk := Lib.hid hpk
          replace hpj := Lib.hid hpj
          replace hvkj := Lib.hid hvkj
          have lz : w.heap.size < g := by omega
          have n1 : some b1 ≠ some g := by simp; omega
          have n2 : some b2 ≠ some g := by simp; omega
          have n3 : some B ≠ some g := by simp; omega
          have n4 : some w.heap.size ≠ some g := by simp; omega
          clear hIc l1 l2
          go_wp2_with fail
          go_region_held3 (fun W' => W'.cell? ⟨w.heap.size, 0, none⟩ = some (.int .i64 W) ∧ W'.cell? ⟨w.heap.size, 1, none⟩ = some (.slice a n cap) ∧ W'.cell? ⟨B, 0, none⟩ = some (.int .i64 W) ∧ W'.cell? ⟨B, 1, none⟩ = some (.slice (some ⟨g, 0, none⟩) n n) ∧ W'.cell? ⟨b1, f1 + k, none⟩ = some (.int .i64 pk) ∧ W'.cell? ⟨b2, f2 + j, none⟩ = some (.int .i64 pj))
            (first | exact ⟨z0, z1, q0, q1, c1, c2⟩ | go_keep)
            (first | (go_at_call 65; have _t := tok0; (refine (hge.out _ (rI.out.bel ((Below.refl _ _).drew))).mono ?_); rintro e w2 ⟨rfl, hb2⟩; have hb : Below wi.heap.size wi w2 := (((Below.refl _ _).drew).trans (hb2.mono (Nat.le_refl _))); (replace z0 := kept hb (block_lt z0) z0); (replace z1 := kept hb (block_lt z1) z1); (replace q0 := kept hb (block_lt q0) q0); (replace q1 := kept hb (block_lt q1) q1); (replace c1 := kept hb (block_lt c1) c1); (replace c2 := kept hb (block_lt c2) c2); (replace hO := Lib.hid (hO.out.bel hb)); (replace hG := Lib.hid (grown_trans hG.out (below_grown hb _))); clear hb hb2 _t tok0; have tok1 : True := trivial) | (go_at_call 64; have _t := tok1; (refine (put_spec W (w.heap.size + 2) g n n L k j vkj _ hO.out hlt (by omega) hrow.1 (by omega)).mono ?_); rintro e w3 ⟨rfl, hg3, ho3⟩; (replace hO := Lib.hid ho3); (replace hG := Lib.hid (grown_trans hG.out hg3)); (replace z0 := hg3.cell z0 n4); (replace z1 := hg3.cell z1 n4); (replace q0 := hg3.cell q0 n3); (replace q1 := hg3.cell q1 n3); (replace c1 := hg3.cell c1 n1); (replace c2 := hg3.cell c2 n2); clear hg3 ho3 tok1 _t))
          all_goals go_wp2_with fail
          all_goals exact ⟨⟨j + 1, by omega, by go_num, hG, by rw [← hput.out]; exact hO⟩, by simp [intOf]; omega⟩
        · obtain rfl : j = W := by omega
          rw [upv_row] at hO
          go_wp2_with fail
          exact ⟨⟨k + 1, by omega, by go_num, hG, hO⟩, by simp [intOf]; omega⟩
    · obtain rfl : k = n := by omega
      have q0 := hG.out.cell o0 (by simp; omega)
      have q1 := hG.out.cell o1 (by simp; omega)
      have u0 := hG.out.cell y0 (by simp; omega)
      have u1 := hG.out.cell y1 (by simp; omega)
      have uf : ∀ o, wo.frozen? ⟨w.heap.size + 1, o, none⟩ = false := fun o => (World.frozen?_of_block (a := ⟨w.heap.size + 1, o, none⟩) (hG.out.block (w.heap.size + 1) (by omega) (by simp; omega))).trans (yf o)
      have bG : Below w.heap.size w wo := bb.out.trans ((grown_below hG.out).mono (by omega))
      rw [upv_all] at hO
      replace bG := Lib.hid bG
      go_wp2_with fail
      refine bodyPost_ret (v := .tuple #[.agg #[.int .i64 W, .slice (some ⟨g, 0, none⟩) k k], .bool true]) (by simp [results, Tryz.results28, go_sem, u0, u1]) rfl ?_
      refine ⟨⟨some ⟨g, 0, none⟩, k, by rw [hvl.out], ?_⟩, (bG.out.setCell (by simp) _).setCell (by simp) _⟩
      rw [show (Out.mk true (W : Int) (cellsL vb W k)).xs.length = k from hvl.out]
      exact ((hO.out.store (show w.heap.size + 1 < w.heap.size + 2 by omega) _).store (show w.heap.size + 1 < w.heap.size + 2 by omega) _).mono (by omega)
end Go.Proofs.YtnhcknbbkmaiiaaGreatDoor
