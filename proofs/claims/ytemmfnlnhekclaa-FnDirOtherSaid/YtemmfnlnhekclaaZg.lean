/-
  The model's DirSums.
-/
import Derived.Test.YtemmfnlnhekclaaZf
import Derived.Test.YtemmfnlnhekclaaZq
import Derived.Test.YtemmfnlnhekclaaEp
namespace Go.Proofs.Ytemmfnlnhekclaa
set_option maxRecDepth 100000
open Go.RowKit

theorem get_cell (W : Nat) (a : Option Addr) (n cap : Nat) (xs : List Int) (i j : Nat) (w : World) (h : Row w a n xs) (hj : j < 6) (hi : i < n) (hr : 0 ≤ xs.getD i 0 ∧ xs.getD i 0 ≤ 63) :
    Calls Try.prog 68 #[.agg #[.int .i64 W, .slice a n cap], .int .i64 i, .int .i64 j] w fun e w' => e = .returned (.int .i64 (bvI xs i j)) ∧ Below w.heap.size w w' := by
  obtain ⟨b, off, rfl, hc⟩ := row_at h hi
  unfold bvI
  generalize xs.getD i 0 = x at hc hr
  have hb : b < w.heap.size := block_lt hc
  clear h
  go_enter Try.func68, Try.ntmps68
  go_wp2_with fail
  refine (bit_any x j _ hr.1 (by omega) (by omega)).mono ?_
  rintro e w2 ⟨rfl, rfl⟩
  go_wp2_with fail
  go_ret
  exact ⟨rfl, (Below.refl _ _).alloc (Nat.le_refl _) _⟩
theorem zero_len (k : Nat) : (List.replicate k (0 : Int)).length = k := List.length_replicate
theorem zero_snoc (k : Nat) : List.replicate k (0 : Int) ++ [0] = List.replicate (k + 1) 0 := (List.replicate_succ' ..).symm

set_option maxHeartbeats 800000 in
theorem sdsums_no {W d : Int} {len : Nat} {xs : List Int} (hh : ¬ ((0 ≤ d ∧ d ≤ 7) ∧ validB W xs = true)) (a : Option Addr) (cap : Nat) (w : World) (h : Row w a len xs) (hm : len ≤ 9223372036854775807) :
    Calls Try.prog 28 #[.agg #[.int .i64 W, .slice a len cap], .int .i64 d] w (GivesL w []) := by
  have H := (h.alloc (.cells #[.int .i64 W, .slice a len cap] 35)).alloc (.cells #[] 3)
  have x0 : ((w.alloc (.cells #[.int .i64 W, .slice a len cap] 35)).alloc (.cells #[] 3)).cell? ⟨w.heap.size, 0, none⟩ = some (.int .i64 W) := by simp
  have x1 : ((w.alloc (.cells #[.int .i64 W, .slice a len cap] 35)).alloc (.cells #[] 3)).cell? ⟨w.heap.size, 1, none⟩ = some (.slice a len cap) := by simp
  obtain ⟨W0, hW0⟩ : ∃ W0, W0 = (w.alloc (.cells #[.int .i64 W, .slice a len cap] 35)).alloc (.cells #[] 3) := ⟨_, rfl⟩
  have hb0 : Below w.heap.size w W0 := by subst hW0; exact ((Below.refl _ _).alloc (Nat.le_refl _) _).alloc (by simp) _
  have ho : OwnI W0 (w.heap.size + 1) (some ⟨w.heap.size + 1, 0, none⟩) 0 0 [] := by subst hW0; exact own_empty (w.alloc (.cells #[.int .i64 W, .slice a len cap] 35)) (w.heap.size + 1) (w.heap.size + 1) (by simp) (by omega)
  have cv : Hid (Calls Try.prog 67 #[.agg #[.int .i64 W, .slice a len cap]] W0 fun e w' => e = .returned (.bool (validB W xs)) ∧ Below W0.heap.size W0 w') := valid_spec _ _ _ _ xs _ (by rw [hW0]; exact H) hm
  cases hv : validB W xs
  case false =>
    rw [hv] at cv
    clear hh
    go_enter Try.func28, Try.ntmps28
    go_wp2_with fail
    rw [← hW0] at x0 x1 ⊢
    clear hW0
    go_wp2_with fail
    refine cv.out.mono ?_
    rintro e w1 ⟨rfl, hb⟩
    go_wp2_with fail
    go_ret
    exact ⟨⟨_, _, rfl, (OwnI.bel ho hb).mono (by omega)⟩, hb0.trans (hb.mono hb0.size)⟩
  case true =>
    rw [hv] at cv
    have h1 : inB d 0 7 = false := by
      cases h1 : inB d 0 7
      · rfl
      · exact absurd ⟨inB_iff.1 h1, hv⟩ hh
    clear hh
    go_enter Try.func28, Try.ntmps28
    go_wp2_with fail
    rw [← hW0] at x0 x1 ⊢
    clear hW0
    go_wp2_with fail
    refine cv.out.mono ?_
    rintro e w1 ⟨rfl, hb⟩
    go_wp2_with (first | (go_at_call 54; refine (ok21 _ _).mono ?_; rintro e w' ⟨rfl, rfl⟩))
    go_ret
    exact ⟨⟨_, _, rfl, (OwnI.bel ho hb).mono (by omega)⟩, hb0.trans (hb.mono hb0.size)⟩

set_option maxHeartbeats 4000000 in
theorem sdsums_ok {d W n : Nat} {xs : List Int} (hd : d < 8) (hI : Im W n xs) (a : Option Addr) (cap : Nat) (w : World) (h : Row w a n xs) :
    Calls Try.prog 28 #[.agg #[.int .i64 W, .slice a n cap], .int .i64 d] w (GivesL w (dsL d xs W n)) := by
  obtain ⟨i0, hi, hz0, hz1, hz2⟩ := info_parts infoInt
  have hm := hI.ok.1
  have hW6 := hI.w6
  have hn6 := hI.l6
  have hrow : Hid (∀ i, i < n → 0 ≤ xs.getD i 0 ∧ xs.getD i 0 ≤ 63) := fun i hi => by
    have := hI.row i hi; have := pw_63 hI.w6; omega
  have H := (h.alloc (.cells #[.int .i64 W, .slice a n cap] 35)).alloc (.cells #[] 3)
  obtain ⟨W0, hW0⟩ : ∃ W0, W0 = (w.alloc (.cells #[.int .i64 W, .slice a n cap] 35)).alloc (.cells #[] 3) := ⟨_, rfl⟩
  have hb0 : Below w.heap.size w W0 := by subst hW0; exact ((Below.refl _ _).alloc (Nat.le_refl _) _).alloc (by simp) _
  have ho : OwnI W0 (w.heap.size + 1) (some ⟨w.heap.size + 1, 0, none⟩) 0 0 [] := by subst hW0; exact own_empty (w.alloc (.cells #[.int .i64 W, .slice a n cap] 35)) (w.heap.size + 1) (w.heap.size + 1) (by simp) (by omega)
  have x0 : W0.cell? ⟨w.heap.size, 0, none⟩ = some (.int .i64 W) := by subst hW0; simp
  have x1 : W0.cell? ⟨w.heap.size, 1, none⟩ = some (.slice a n cap) := by subst hW0; simp
  have cv : Hid (Calls Try.prog 67 #[.agg #[.int .i64 W, .slice a n cap]] W0 fun e w' => e = .returned (.bool true) ∧ Below W0.heap.size W0 w') := by
    rw [← hI.valid]; exact valid_spec _ _ _ _ xs _ (by rw [hW0]; exact H) hm
  have h7 : inB (d : Int) 0 7 = true := inB_yes (by omega) (by omega)
  have hl1 := line_bd hd hI.l1 hI.l6 hI.w1 hI.w6
  have hl2 := nmN_bd hd hI.l1 hI.l6 hI.w1 hI.w6
  have hl3 := num_int hd hI.l1 hI.w1
  have hps : Hid (∀ i j, i < n → j < W → (posN d W i j : Int) = lnI d i j - loI d W ∧ posN d W i j < numN d n W ∧ loI d W ≤ lnI d i j ∧ lnI d i j ≤ hiI d n W) := fun i j hi hj => ⟨(pos_num hd hi hj).1, (pos_num hd hi hj).2.2.1, (pos_num hd hi hj).2.2.2⟩
  have hln : Hid (∀ i j : Nat, i < n → j < W → ∀ wx, Calls Try.prog 60 #[.int .i64 d, .int .i64 i, .int .i64 j] wx fun e w' => e = .returned (.int .i64 (lnI d i j)) ∧ Below wx.heap.size wx w') := fun i j hi hj wx => sline_ok hd (by omega) (by omega) wx
  have hls : Hid (∀ wx, Calls Try.prog 43 #[.int .i64 d, .int .i64 n, .int .i64 W] wx fun e w' => e = .returned (.tuple #[.int .i64 (loI d W), .int .i64 (hiI d n W), .bool true]) ∧ Below wx.heap.size wx w') := fun wx => sdlines_ok hd ⟨hI.l1, hI.l6⟩ ⟨hI.w1, hI.w6⟩ wx
  have hdb : Hid (∀ i j k, i ≤ 6 → j ≤ 6 → -42 ≤ dpI (bvI xs) d W i j k ∧ dpI (bvI xs) d W i j k ≤ 42) := fun i j k hi hj => by
    have := dp_bd (v := bvI xs) (d := d) (W := W) (i := i) (j := j) (k := k) (K := 1) (by omega) (fun i j => by have := bv_01 xs i j; omega) hi hj hW6; omega
  have hst : Hid (∀ i j, i < n → j < W → (dpL (bvI xs) d W n i j).set (posN d W i j) (dpI (bvI xs) d W i j (posN d W i j) + bvI xs i j) = dpL (bvI xs) d W n i (j + 1)) := fun i j hi hj => dp_step hd hi hj
  have hgd : Hid (∀ i j k, k < numN d n W → (dpL (bvI xs) d W n i j).getD k 0 = dpI (bvI xs) d W i j k) := fun i j k hk => dp_get hk
  have h0 : Hid (dpL (bvI xs) d W n 0 0 = List.replicate (numN d n W) 0) := dp_start _ d W n
  have hnx : Hid (∀ i, dpL (bvI xs) d W n i W = dpL (bvI xs) d W n (i + 1) 0) := fun i => dp_next _ d W n i
  have hend : Hid (dpL (bvI xs) d W n n 0 = dsL d xs W n) := dp_end _ d W n
  have hdl : Hid ((dsL d xs W n).length = numN d n W) := ds_len d xs W n
  generalize hlo : loI d W = lo at *
  generalize hhi : hiI d n W = hi' at *
  generalize hN : numN d n W = N at *
  clear hlo hhi hN H hd
  have hI := Lib.hid hI
  go_enter Try.func28, Try.ntmps28
  go_wp2_with fail
  rw [← hW0]
  clear hW0
  refine cv.out.mono ?_
  rintro e w1 ⟨rfl, hb⟩
  have x0 := kept hb (block_lt x0) x0
  have x1 := kept hb (block_lt x1) x1
  have ho := ho.bel hb
  have hB := hb0.trans (hb.mono hb0.size)
  clear hb hb0 cv
  go_wp2_with (first | (go_at_call 54; refine (ok21 _ _).mono ?_; rintro e w' ⟨rfl, rfl⟩))
  refine (hls.out _).mono ?_
  rintro e w2 ⟨rfl, hb⟩
  have x0 := kept hb (block_lt x0) x0
  have x1 := kept hb (block_lt x1) x1
  have ho := Lib.hid (ho.bel hb)
  have hB := Lib.hid (hB.trans (hb.mono hB.size))
  clear hb
  go_wp2_with fail
  go_loopw [5, 9] (fun o i wr => ∃ (k : Nat) (s : Option Addr) (c : Nat), k ≤ N ∧ i = .int .i64 (lo + k) ∧ o = .slice s k c ∧ Hid (OwnI wr (w.heap.size + 1) s k c (List.replicate k 0)) ∧ wr.cell? ⟨w.heap.size, 0, none⟩ = some (.int .i64 W) ∧ wr.cell? ⟨w.heap.size, 1, none⟩ = some (.slice a n cap) ∧ Hid (Below w.heap.size w wr)) (fun _ i _ => (hi' + 1 - intOf i).toNat)
  case atStart => exact ⟨0, _, 0, Nat.zero_le _, by go_num, rfl, ho, x0, x1, hB⟩
  case round =>
    obtain ⟨k, s, c, hk, rfl, rfl, hO, y0, y1, hB⟩ := hrel
    clear x0 x1 ho
    by_cases hlt : k < N
    · have hle : lo + (k : Int) ≤ hi' := by omega
      have i1 : IntKind.i64.wrap (lo + (k : Int) + 1) = lo + (k : Int) + 1 := IntWalk.i64_in _ ⟨by omega, by omega⟩
      have hsz := block_lt y0
      go_wp2_with (at_builtin; refine wpList_append_own _ rfl _ _ 33 rfl (w.heap.size + 1) 3 i0 (.int .i64 0) 1 8 Try.underlying33 hi hz0 hz1 hz2 rfl (by decide) _ k ((List.replicate k (0 : Int)).map (Value.int .i64)) rfl (World.ownsRow.alloc hO.out _) ⟨wr.heap.size, 0, none⟩ 1 1 [.int .i64 0] rfl rfl ?c1 ?c2 ?c3 ?c4 ?c5 ?_)
      case c2 => rfl
      case c3 => unfold maxLen; omega
      case c4 => omega
      case c5 => omega
      intro v' w3 hown hgr _
      obtain ⟨a', cap', rfl, ho3⟩ := own_of (xs := List.replicate (k + 1) (0 : Int)) (by rw [← zero_snoc, List.map_append, List.map_replicate]; exact hown)
      have hfar : ∀ g, (Value.slice s k c).ownBlock = some g → w.heap.size + 1 ≤ g := fun g hg => by
        rcases hO.out.cases with ⟨rfl, _, _⟩ | ⟨g', rfl, h2, _⟩
        · cases hg
        · simp [Value.ownBlock] at hg; omega
      have hb3 : Below (w.heap.size + 1) wr w3 := ((Below.refl _ _).alloc (by omega) _).grown hgr (by simp; omega) hfar
      have y0 := kept hb3 (by simp) y0
      have y1 := kept hb3 (by simp) y1
      have hB3 := Lib.hid (hB.out.trans (hb3.mono (by omega)))
      have ho3 := Lib.hid ho3
      clear hown hgr hfar hb3 hO hB
      go_wp2_with fail
      exact ⟨⟨k + 1, a', cap', by omega, by go_num, rfl, ho3, y0, y1, hB3⟩, by simp [intOf]; omega⟩
    · have hkN : k = N := by omega
      subst hkN
      have hle : ¬ lo + (k : Int) ≤ hi' := by omega
      rw [← h0.out] at hO
      obtain ⟨g, rfl, hg⟩ : ∃ g, s = some ⟨g, 0, none⟩ ∧ w.heap.size + 1 ≤ g := by
        rcases hO.out.cases with ⟨_, h1, _⟩ | ⟨g, h1, h2, _⟩
        · omega
        · exact ⟨g, h1, h2⟩
      obtain ⟨w1, rfl⟩ : ∃ w1 : World, w1 = wr := ⟨_, rfl⟩
      go_wp2_with fail
      go_loopw [10] (fun i wr => ∃ q : Nat, q ≤ n ∧ i = .int .i64 q ∧ Hid (OwnI wr (w.heap.size + 1) (some ⟨g, 0, none⟩) k c (dpL (bvI xs) d W n q 0)) ∧ wr.cell? ⟨w.heap.size, 0, none⟩ = some (.int .i64 W) ∧ wr.cell? ⟨w.heap.size, 1, none⟩ = some (.slice a n cap) ∧ Hid (Below w.heap.size w wr)) (fun i _ => n - (intOf i).toNat)
      case atStart => exact ⟨0, Nat.zero_le _, rfl, hO, y0, y1, hB⟩
      case round =>
        obtain ⟨q, hq, rfl, hO, y0, y1, hB⟩ := hrel
        clear hle hlt
        by_cases hqn : q < n
        · obtain ⟨wo, rfl⟩ : ∃ wo : World, wo = wr := ⟨_, rfl⟩
          go_wp2_with fail
          go_loopw [11] (fun i wr => ∃ j : Nat, j ≤ W ∧ i = .int .i64 j ∧ Hid (OwnI wr (w.heap.size + 1) (some ⟨g, 0, none⟩) k c (dpL (bvI xs) d W n q j)) ∧ wr.cell? ⟨w.heap.size, 0, none⟩ = some (.int .i64 W) ∧ wr.cell? ⟨w.heap.size, 1, none⟩ = some (.slice a n cap) ∧ Hid (Below w.heap.size w wr)) (fun i _ => W - (intOf i).toNat)
          case atStart => exact ⟨0, Nat.zero_le _, rfl, hO, y0, y1, hB⟩
          case round =>
            obtain ⟨j, hj, rfl, hO, y0, y1, hB⟩ := hrel
            by_cases hjW : j < W
            · obtain ⟨q1, q2, q3, q4⟩ := hps.out q j hqn hjW
              have hcb := hdb.out q j (posN d W q j) (by omega) (by omega)
              have hcell := own_cell hO.out q2
              rw [hgd.out q j _ q2] at hcell
              have hset := hst.out q j hqn hjW
              have hv1 := bv_01 xs q j
              have hr := h.bel hB.out
              have cl : Hid (∀ p : Bw wr, Calls Try.prog 60 #[.int .i64 d, .int .i64 q, .int .i64 j] p.v fun e w' => e = .returned (.int .i64 (lnI d q j)) ∧ ∃ r : Bw wr, w' = r.v) := fun p => bw_of (hln.out q j hqn hjW p.v)
              have cg : Hid (∀ p : Bw wr, Calls Try.prog 68 #[.agg #[.int .i64 W, .slice a n cap], .int .i64 q, .int .i64 j] p.v fun e w' => e = .returned (.int .i64 (bvI xs q j)) ∧ ∃ r : Bw wr, w' = r.v) := fun p => bw_of (get_cell W a n cap xs q j p.v (bw_row hr p) (by omega) hqn (hrow.out q hqn))
              have hs1 : Hid (∀ p : Bw wr, OwnI (p.v.setCell ⟨g, posN d W q j, none⟩ (.int .i64 (dpI (bvI xs) d W q j (posN d W q j) + bvI xs q j))) (w.heap.size + 1) (some ⟨g, 0, none⟩) k c (dpL (bvI xs) d W n q (j + 1))) := fun p => by
                rw [← hset]; exact (hO.out.bel p.h).set (posN d W q j) _
              have hs2 : Hid (∀ p : Bw wr, Below w.heap.size w (p.v.setCell ⟨g, posN d W q j, none⟩ (.int .i64 (dpI (bvI xs) d W q j (posN d W q j) + bvI xs q j)))) := fun p => (hB.out.trans (p.h.mono hB.out.size)).setCell (by show w.heap.size ≤ g; omega) _
              have hfz2 : ∀ p : Bw wr, p.v.frozen? ⟨g, posN d W q j, none⟩ = false := fun p => (hO.out.bel p.h).frozen _
              have hcell2 : ∀ p : Bw wr, p.v.cell? ⟨g, posN d W q j, none⟩ = some (.int .i64 (dpI (bvI xs) d W q j (posN d W q j))) := fun p => bw_cell hcell p
              have y0b : ∀ p : Bw wr, p.v.cell? ⟨w.heap.size, 0, none⟩ = some (.int .i64 W) := fun p => bw_cell y0 p
              have y1b : ∀ p : Bw wr, p.v.cell? ⟨w.heap.size, 1, none⟩ = some (.slice a n cap) := fun p => bw_cell y1 p
              have z0 : ∀ (p : Bw wr) (u : Value), (p.v.setCell ⟨g, posN d W q j, none⟩ u).cell? ⟨w.heap.size, 0, none⟩ = some (.int .i64 W) := fun p u => by
                rw [World.cell?_setCell_other _ _ _ _ (by simp <;> omega)]; exact y0b p
              have z1 : ∀ (p : Bw wr) (u : Value), (p.v.setCell ⟨g, posN d W q j, none⟩ u).cell? ⟨w.heap.size, 1, none⟩ = some (.slice a n cap) := fun p u => by
                rw [World.cell?_setCell_other _ _ _ _ (by simp <;> omega)]; exact y1b p
              generalize dpI (bvI xs) d W q j (posN d W q j) = x at hcb hs1 hs2 hcell2
              generalize bvI xs q j = y at hv1 hs1 hs2 cg
              generalize posN d W q j = r at q1 q2 hs1 hs2 hfz2 hcell2 z0 z1
              generalize lnI d q j = z at q1 q3 q4 cl
              have hi64 : IntKind.i64.wrap (x + y) = x + y := IntWalk.i64_in _ ⟨by omega, by omega⟩
              have hzr : IntKind.i64.wrap (z - lo) = (r : Int) := by rw [q1]; exact IntWalk.i64_in _ ⟨by omega, by omega⟩
              have z0 := Lib.hid z0
              have z1 := Lib.hid z1
              clear hcell hset hB hO q1 hcb hr
              go_wp2_with fail
              refine wp_region_bwt 21 (by kernel_rfl) (by kernel_rfl) ?_
              simp only [List.take_succ_cons, List.take_zero, List.drop_succ_cons, List.drop_zero]
              repeat (go_big_quiet_step (first | (with_reducible exact cl.out _) | (with_reducible exact cg.out _)))
              refine wpQuiet_nil ?_
              intro p
              have hs1 := Lib.hid (hs1.out p)
              have hs2 := Lib.hid (hs2.out p)
              have hfz2 := hfz2 p
              have z0 := z0.out p
              have z1 := z1.out p
              go_wp2_with fail
              exact ⟨⟨j + 1, by omega, by go_num, hs1, z0 _, z1 _, hs2⟩, by simp [intOf]; omega⟩
            · have hjW : j = W := by omega
              subst hjW
              rw [hnx.out] at hO
              go_wp2_with fail
              exact ⟨⟨q + 1, by omega, by go_num, hO, y0, y1, hB⟩, by simp [intOf]; omega⟩
        · have hqn : q = n := by omega
          subst hqn
          rw [hend.out] at hO
          go_wp2_with fail
          go_ret
          exact ⟨⟨_, c, by rw [hdl.out]; rfl, by rw [hdl.out]; exact hO.out.mono (by omega)⟩, hB.out⟩
end Go.Proofs.Ytemmfnlnhekclaa

