/-
  The program's lineSumsOf, for any cells; DirSums.
-/
import Derived.Test.YtemmfnlnhekclaaZc
import Derived.Test.YtemmfnlnhekclaaZq
import Derived.Test.YtemmfnlnhekclaaEp
namespace Go.Proofs.Ytemmfnlnhekclaa
set_option maxRecDepth 100000
open Go.RowKit

set_option maxHeartbeats 1600000 in
theorem lineSums_any (fk : Nat) (hE : Go.Proofs.Enters Try.prog fk) (p : Value) {d n W : Nat} (hd : d < 8) (hn : 1 ≤ n ∧ n ≤ 6) (hW : 1 ≤ W ∧ W ≤ 6) (v : Nat → Nat → Int) (K : Int) (hK : 0 ≤ K ∧ K ≤ 1000000) (hv : ∀ i j, -K ≤ v i j ∧ v i j ≤ K) (w : World)
    (hc : ∀ wx, Below w.heap.size w wx → ∀ i j : Nat, i < n → j < W → Calls Try.prog fk #[.int .i64 i, .int .i64 j, p] wx fun e w' => e = .returned (.int .i64 (v i j)) ∧ wx = w') :
    Calls Try.prog 65 #[dirV d, .int .i64 n, .int .i64 W, .func (.func fk) #[] #[p]] w (GivesL w (dlL v d W n)) := by
  obtain ⟨i0, hi, hz0, hz1, hz2⟩ := info_parts infoInt
  have hvb := Lib.hid hv
  have hdb : Hid (∀ i j k, i ≤ 6 → j ≤ 6 → -(42 * K) ≤ dpI v d W i j k ∧ dpI v d W i j k ≤ 42 * K) := fun i j k hi hj => dp_bd hK.1 hv hi hj hW.2
  have hl1 := line_bd hd hn.1 hn.2 hW.1 hW.2
  have hl2 := nmN_bd hd hn.1 hn.2 hW.1 hW.2
  have hl3 := num_int hd hn.1 hW.1
  have hps : Hid (∀ i j, i < n → j < W → (posN d W i j : Int) = lnI d i j - loI d W ∧ posN d W i j < numN d n W ∧ loI d W ≤ lnI d i j ∧ lnI d i j ≤ hiI d n W) := fun i j hi hj => ⟨(pos_num hd hi hj).1, (pos_num hd hi hj).2.2.1, (pos_num hd hi hj).2.2.2⟩
  have hln : Hid (∀ i j : Nat, i < n → j < W → ∀ wx, Calls Try.prog 57 #[dirV d, .int .i64 i, .int .i64 j] wx fun e w' => e = .returned (.int .i64 (lnI d i j)) ∧ Below wx.heap.size wx w') := fun i j hi hj wx => line_impl hd (by omega) (by omega) wx
  have hls : Hid (Calls Try.prog 62 #[dirV d, .int .i64 n, .int .i64 W] w fun e w' => e = .returned (.tuple #[.int .i64 (loI d W), .int .i64 (hiI d n W)]) ∧ Below w.heap.size w w') := lines_impl hd (by omega) (by omega) w
  have hst : Hid (∀ i j, i < n → j < W → (dpL v d W n i j).set (posN d W i j) (dpI v d W i j (posN d W i j) + v i j) = dpL v d W n i (j + 1)) := fun i j hi hj => dp_step hd hi hj
  have hld : Hid (∀ i j, (dpL v d W n i j).length = numN d n W) := fun i j => dp_len v d W n i j
  have hgd : Hid (∀ i j k, k < numN d n W → (dpL v d W n i j).getD k 0 = dpI v d W i j k) := fun i j k hk => dp_get hk
  have h0 : Hid (dpL v d W n 0 0 = List.replicate (numN d n W) 0) := dp_start v d W n
  have hnx : Hid (∀ i, dpL v d W n i W = dpL v d W n (i + 1) 0) := fun i => dp_next v d W n i
  have hend : Hid (dpL v d W n n 0 = dlL v d W n) := dp_end v d W n
  have hdl : Hid ((dlL v d W n).length = numN d n W) := dv_len v d W n
  replace hc := Lib.hid hc
  clear hv
  generalize dirV d = D at *
  generalize hlo : loI d W = lo at *
  generalize hhi : hiI d n W = hi' at *
  generalize hN : numN d n W = N at *
  have e1 : IntKind.i64.wrap (hi' - lo) = hi' - lo := IntWalk.i64_in _ ⟨by omega, by omega⟩
  have e2 : hi' - lo + 1 = (N : Int) := by omega
  clear hlo hhi hN hl3
  go_enter Try.func65, Try.ntmps65
  go_wp2_with fail
  refine hls.out.mono ?_
  rintro e w0 ⟨rfl, hb0⟩
  go_wp2_with ((refine wpList_make_full w0 rfl _ _ 33 rfl w0.heap.size 3 i0 (.int .i64 0) 1 Try.underlying33 hi hz0 hz1 .i64 .i64 N N N rfl rfl rfl rfl ?_ ?_ (Nat.le_refl _) ?_))
  all_goals first | (rw [hz2]; omega) | (unfold maxLen; omega) | skip
  intro w1 ho hg
  have ho0 : OwnI w1 w0.heap.size (some ⟨w0.heap.size, 0, none⟩) N N (dpL v d W n 0 0) := by
    rw [h0.out]; unfold OwnI; simpa [toList_madeCells_one, List.map_replicate] using ho
  have hb1 : Below w.heap.size w w1 := hb0.grown hg hb0.size (fun k hk => by cases hk)
  have hsz := hb0.size
  have ho0 := Lib.hid ho0
  have hb1 := Lib.hid hb1
  clear ho hg e1 e2 h0
  go_wp2_with fail
  generalize hgw : w0.heap.size = g at *
  clear hb0
  generalize hB0 : w.heap.size = B at *
  go_loopw [27] (fun i wr => ∃ k : Nat, k ≤ n ∧ i = .int .i64 k ∧ Hid (Below B w wr) ∧ Hid (OwnI wr g (some ⟨g, 0, none⟩) N N (dpL v d W n k 0))) (fun i _ => n - (intOf i).toNat)
  case atStart => exact ⟨0, Nat.zero_le _, rfl, hb1, ho0⟩
  case round =>
    obtain ⟨k, hk, rfl, hB, hO⟩ := hrel
    obtain ⟨wo, rfl⟩ : ∃ wo : World, wo = wr := ⟨_, rfl⟩
    clear hb1 ho0
    by_cases hlt : k < n
    · go_wp2_with fail
      go_loopw [31] (fun i wr => ∃ j : Nat, j ≤ W ∧ i = .int .i64 j ∧ Hid (Below B w wr) ∧ Hid (OwnI wr g (some ⟨g, 0, none⟩) N N (dpL v d W n k j))) (fun i _ => W - (intOf i).toNat)
      case atStart => exact ⟨0, Nat.zero_le _, rfl, hB, hO⟩
      case round =>
        obtain ⟨j, hj, rfl, hB2, hO2⟩ := hrel
        clear hB hO
        by_cases hlj : j < W
        · obtain ⟨q1, q2, q3, q4⟩ := hps.out k j hlt hlj
          have hcb := hdb.out k j (posN d W k j) (by omega) (by omega)
          have hcell := own_cell hO2.out q2
          rw [hgd.out k j _ q2] at hcell
          have hfz := hO2.out.frozen (posN d W k j)
          have hset := hst.out k j hlt hlj
          have hv1 := hvb.out k j
          have cl : Hid (∀ p : Bw wr, Calls Try.prog 57 #[D, .int .i64 k, .int .i64 j] p.v fun e w' => e = .returned (.int .i64 (lnI d k j)) ∧ ∃ q : Bw wr, w' = q.v) := fun p => bw_of (hln.out k j hlt hlj p.v)
          have cc : Hid (∀ pw : Bw wr, Calls Try.prog fk #[.int .i64 k, .int .i64 j, p] pw.v fun e w' => e = .returned (.int .i64 (v k j)) ∧ ∃ q : Bw wr, w' = q.v) := fun pw => bw_same (hc.out pw.v (hB2.out.trans (pw.h.mono (by have := hB2.out.size; omega))) k j hlt hlj)
          have hs1 : Hid (∀ pw : Bw wr, OwnI (pw.v.setCell ⟨g, posN d W k j, none⟩ (.int .i64 (dpI v d W k j (posN d W k j) + v k j))) g (some ⟨g, 0, none⟩) N N (dpL v d W n k (j + 1))) := fun pw => by
            rw [← hset]; exact (hO2.out.bel pw.h).set (posN d W k j) _
          have hs2 : Hid (∀ pw : Bw wr, Below B w (pw.v.setCell ⟨g, posN d W k j, none⟩ (.int .i64 (dpI v d W k j (posN d W k j) + v k j)))) := fun pw => (hB2.out.trans (pw.h.mono (by have := hB2.out.size; omega))).setCell hsz _
          have hfz2 : ∀ pw : Bw wr, pw.v.frozen? ⟨g, posN d W k j, none⟩ = false := fun pw => (hO2.out.bel pw.h).frozen _
          have hcell2 : ∀ pw : Bw wr, pw.v.cell? ⟨g, posN d W k j, none⟩ = some (.int .i64 (dpI v d W k j (posN d W k j))) := fun pw => bw_cell hcell pw
          generalize dpI v d W k j (posN d W k j) = x at hcb hs1 hs2 hcell2
          generalize v k j = y at hv1 hs1 hs2 cc
          generalize posN d W k j = r at q1 q2 hs1 hs2 hfz2 hcell2
          generalize lnI d k j = z at q1 q3 q4 cl
          have hi64 : IntKind.i64.wrap (x + y) = x + y := IntWalk.i64_in _ ⟨by omega, by omega⟩
          have hzr : IntKind.i64.wrap (z - lo) = (r : Int) := by rw [q1]; exact IntWalk.i64_in _ ⟨by omega, by omega⟩
          clear hcell hfz hset hB2 hO2 q1 hcb
          go_wp2_with fail
          refine wp_region_bwt 14 (by kernel_rfl) (by kernel_rfl) ?_
          simp only [List.take_succ_cons, List.take_zero, List.drop_succ_cons, List.drop_zero]
          repeat (go_big_quiet_step (with_reducible exact cl.out _))
          refine wpQuiet_step (fun Z hZ => ?_)
          go_simp
          refine ⟨.int .i64 y, fun q => ?_, hZ _ ?_⟩
          · rw [hE]
            exact ⟨rfl, cc.out q⟩
          clear hZ Z
          repeat (go_big_quiet_step (fail))
          refine wpQuiet_nil ?_
          intro pw
          have hs1 := Lib.hid (hs1.out pw)
          have hs2 := Lib.hid (hs2.out pw)
          have hfz2 := hfz2 pw
          go_wp2_with fail
          exact ⟨⟨j + 1, by omega, by go_num, hs2, hs1⟩, by simp [intOf]; omega⟩
        · have : j = W := by omega
          subst this
          have hO2 := hO2
          rw [hnx.out] at hO2
          go_wp2_with fail
          exact ⟨⟨k + 1, by omega, by go_num, hB2, hO2⟩, by simp [intOf]; omega⟩
    · have : k = n := by omega
      subst this
      rw [hend.out] at hO
      subst hB0
      go_wp2_with fail
      go_ret
      exact ⟨⟨_, _, by rw [hdl.out]; rfl, by rw [hdl.out]; exact hO.out.mono hsz⟩, hB.out⟩
theorem dircell (B : Nat) (a : Option Addr) (len cap : Nat) (xs : List Int) (w : World) (x1 : w.cell? ⟨B, 1, none⟩ = some (.slice a len cap)) (h : Row w a len xs) (r c : Nat) (hr : r < len) (h6 : c ≤ 6) (hx : 0 ≤ xs.getD r 0 ∧ xs.getD r 0 ≤ 63) :
    Calls Try.prog 66 #[.int .i64 r, .int .i64 c, .pointer (some ⟨B, 0, none⟩)] w fun e w' => e = .returned (.int .i64 (bvI xs r c)) ∧ w = w' := by
  obtain ⟨b, off, rfl, hck⟩ := row_at h hr
  unfold bvI
  generalize xs.getD r 0 = x at hck hx
  have E := shr_bit (j := c) hx.1 hx.2
  clear h
  go_enter Try.func66, Try.ntmps66
  go_wp2_with fail
  go_ret
  exact ⟨by rw [← E]; rfl, rfl⟩

set_option maxHeartbeats 800000 in
theorem dsums_no {W d : Int} {len : Nat} {xs : List Int} (hh : ¬ ((0 ≤ d ∧ d ≤ 7) ∧ validB W xs = true)) (a : Option Addr) (cap : Nat) (w : World) (h : Row w a len xs) (hm : len ≤ 9223372036854775807) :
    Calls Try.prog 27 #[.agg #[.int .i64 W, .slice a len cap], .int .i64 d] w (GivesL w []) := by
  have H := h.alloc (.cells #[.int .i64 W, .slice a len cap] 35)
  have hb0 : Below w.heap.size w (w.alloc (.cells #[.int .i64 W, .slice a len cap] 35)) := (Below.refl _ _).alloc (Nat.le_refl _) _
  by_cases hd : 0 ≤ d ∧ d ≤ 7
  case neg =>
    have c := fun w => Lib.hid (dirOf_no hd w)
    clear hd hh
    go_enter Try.func27, Try.ntmps27
    go_wp2_with fail
    refine (c _).out.mono ?_
    rintro e w1 ⟨rfl, rfl⟩
    go_wp2_with fail
    go_ret
    exact ⟨⟨_, _, rfl, own_empty _ w.heap.size _ (by simp) (by omega)⟩, hb0.alloc hb0.size _⟩
  have hv : validB W xs = false := by
    cases hv : validB W xs
    · rfl
    · exact absurd ⟨hd, hv⟩ hh
  obtain ⟨d, rfl⟩ := Int.eq_ofNat_of_zero_le hd.1
  have c := fun w => Lib.hid (dirOf_impl (d := d) (by omega) w)
  generalize dirV d = D at c
  have x0 : (w.alloc (.cells #[.int .i64 W, .slice a len cap] 35)).cell? ⟨w.heap.size, 0, none⟩ = some (.int .i64 W) := by simp
  have x1 : (w.alloc (.cells #[.int .i64 W, .slice a len cap] 35)).cell? ⟨w.heap.size, 1, none⟩ = some (.slice a len cap) := by simp
  clear hd hh
  go_enter Try.func27, Try.ntmps27
  go_wp2_with fail
  refine (c _).out.mono ?_
  rintro e w1 ⟨rfl, hb⟩
  have bb := hb0.trans (hb.mono hb0.size)
  have x0 := kept hb (by simp) x0
  have x1 := kept hb (by simp) x1
  have H1 := H.bel hb
  clear hb hb0 H h
  go_wp2_with fail
  refine (valid_impl _ _ _ _ xs _ H1 hm).mono ?_
  rintro e w2 ⟨rfl, hb2⟩
  rw [hv]
  have bb2 := bb.trans (hb2.mono bb.size)
  go_wp2_with fail
  go_ret
  exact ⟨⟨_, _, rfl, own_empty _ w.heap.size _ rfl bb2.size⟩, bb2.alloc bb2.size _⟩

set_option maxHeartbeats 800000 in
theorem dsums_ok {d W n : Nat} {xs : List Int} (hd : d < 8) (hI : Im W n xs) (a : Option Addr) (cap : Nat) (w : World) (h : Row w a n xs) :
    Calls Try.prog 27 #[.agg #[.int .i64 W, .slice a n cap], .int .i64 d] w (GivesL w (dsL d xs W n)) := by
  have H := h.alloc (.cells #[.int .i64 W, .slice a n cap] 35)
  have hb0 : Below w.heap.size w (w.alloc (.cells #[.int .i64 W, .slice a n cap] 35)) := (Below.refl _ _).alloc (Nat.le_refl _) _
  have hv := hI.valid
  have hm := hI.ok.1
  have hw := hI.w6
  have hrow : Hid (∀ i, i < n → 0 ≤ xs.getD i 0 ∧ xs.getD i 0 ≤ 63) := fun i hi => by
    have := hI.row i hi; have := pw_63 hI.w6; omega
  have c := fun w => Lib.hid (dirOf_impl hd w)
  have cs := Lib.hid (fun (fk : Nat) (hE : Go.Proofs.Enters Try.prog fk) (p : Value) (wx : World) => lineSums_any fk hE p hd ⟨hI.l1, hI.l6⟩ ⟨hI.w1, hI.w6⟩ (bvI xs) 1 ⟨by omega, by omega⟩ (fun i j => by have := bv_01 xs i j; omega) wx)
  have hL : dlL (bvI xs) d W n = dsL d xs W n := rfl
  rw [hL] at cs
  generalize dsL d xs W n = L at cs
  generalize dirV d = D at c cs
  have x0 : (w.alloc (.cells #[.int .i64 W, .slice a n cap] 35)).cell? ⟨w.heap.size, 0, none⟩ = some (.int .i64 W) := by simp
  have x1 : (w.alloc (.cells #[.int .i64 W, .slice a n cap] 35)).cell? ⟨w.heap.size, 1, none⟩ = some (.slice a n cap) := by simp
  clear hd hI hL
  go_enter Try.func27, Try.ntmps27
  go_wp2_with fail
  refine (c _).out.mono ?_
  rintro e w1 ⟨rfl, hb⟩
  have bb := hb0.trans (hb.mono hb0.size)
  have x0 := kept hb (by simp) x0
  have x1 := kept hb (by simp) x1
  have H1 := H.bel hb
  clear hb hb0 H h
  go_wp2_with fail
  refine (valid_impl _ _ _ _ xs _ H1 hm).mono ?_
  rintro e w2 ⟨rfl, hb2⟩
  rw [hv]
  have bb2 := Lib.hid (bb.trans (hb2.mono bb.size))
  have x0 := kept hb2 (block_lt x0) x0
  have x1 := kept hb2 (block_lt x1) x1
  have hsz : w.heap.size < w2.heap.size := block_lt x0
  have H2 := Lib.hid (H1.bel hb2)
  clear hb2 bb H1
  go_wp2_with fail
  refine (cs.out 66 (enters_of Try.func66 (by kernel_rfl) rfl) (.pointer (some ⟨w.heap.size, 0, none⟩)) _ (fun wx hx i j hi hj => dircell w.heap.size a n cap xs wx (kept hx (by simpa using hsz) (by simpa using x1)) ((by simpa using H2.out : Row _ a n xs).bel hx) i j hi (by omega) (hrow.out i hi))).mono ?_
  rintro e w3 ⟨⟨a2, c2, rfl, ho⟩, hb3⟩
  have hw := Lib.hid (And.intro ho hb3)
  clear ho hb3
  go_wp2_with fail
  go_ret
  have hw := hw.out
  refine ⟨⟨a2, c2, rfl, ?_⟩, bb2.out.trans (hw.2.mono (by have := bb2.out.size; simpa using this))⟩
  exact hw.1.mono (by have := bb2.out.size; simpa using this)
end Go.Proofs.Ytemmfnlnhekclaa

