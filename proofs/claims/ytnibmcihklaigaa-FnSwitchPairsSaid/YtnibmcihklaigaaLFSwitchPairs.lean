/-
  For every slice of bytes the law FnSwitchPairs answers true: switches are counted by pairs of rows; nothing that was there is written; no condition.
-/
import Derived.Test.YtnibmcihklaigaaO
import Derived.Test.YtnibmcihklaigaaK
import Derived.Deep.RegionLaw
import Derived.Test.YtnibmcihklaigaaKj
namespace Go.Proofs.Ytnibmcihklaigaa.LFSwitchPairs
open Go.ChangeShapes Go.WideShapes Go.ChangeAt Go.RowKit Go.Joins

set_option maxHeartbeats 8000000 in
set_option maxRecDepth 100000 in
theorem walk (a : Option Addr) (len cap : Nat) (zs : List Int) (w : World) (h : Bys w a len zs) (hl : len ≤ cap) (hm : cap ≤ 9223372036854775807) :
    Calls Try.prog 11 #[.slice a len cap] w fun e w' => e = .returned (.bool true) ∧ Below w.heap.size w w' := by
  by_cases hbig : 1048576 < len
  · clear h
    go_enter Try.func11, Try.ntmps11
    go_wp2_with fail
    go_ret
    exact ⟨rfl, Below.refl _ _⟩
  go_enter Try.func11, Try.ntmps11
  go_wp2_with fail
  refine (draw_DrawSwitchMany a len cap zs _ h hl hm).mono ?_
  rintro e w1 ⟨W, s, n, cg, xs, rfl, hR, hn, hb1⟩
  clear h hl hm
  have bb := Lib.hid hb1
  have p := Lib.hid hR
  clear hR hb1
  have hbx : Below w1.heap.size w1 (w1.alloc (.cells #[.int .i64 W, .slice s n cg] 25)) := (Below.refl _ _).alloc (Nat.le_refl _) _
  replace p := Lib.hid (p.out.bel hbx)
  replace bb := Lib.hid (bb.out.trans (hbx.mono bb.out.size))
  clear hbx
  have p0 : (w1.alloc (.cells #[.int .i64 W, .slice s n cg] 25)).cell? ⟨w1.heap.size, 0, none⟩ = some (.int .i64 W) := by simp
  have p1 : (w1.alloc (.cells #[.int .i64 W, .slice s n cg] 25)).cell? ⟨w1.heap.size, 1, none⟩ = some (.slice s n cg) := by simp
  by_cases hv : validB W xs = true
  case neg =>
    have hv : validB W xs = false := by simpa using hv
    replace hv := Lib.hid hv
    go_wp2_with fail
    refine (many_no hv.out (by omega) _ _ _ p.out).mono ?_
    rintro e w2 ⟨rfl, hb⟩
    have szw2 : w1.heap.size + 1 ≤ w2.heap.size := by have := hb.size; simpa using this
    replace p0 := kept hb (block_lt p0) p0
    replace p1 := kept hb (block_lt p1) p1
    replace p := Lib.hid (p.out.bel hb)
    replace bb := Lib.hid (bb.out.trans (hb.mono bb.out.size))
    clear hb
    go_wp2_with fail
    refine (manys_no hv.out (by omega) _ _ _ p.out).mono ?_
    rintro e w3 ⟨rfl, hb⟩
    have szw3 := hb.size
    replace p0 := kept hb (block_lt p0) p0
    replace p1 := kept hb (block_lt p1) p1
    replace p := Lib.hid (p.out.bel hb)
    replace bb := Lib.hid (bb.out.trans (hb.mono bb.out.size))
    clear hb
    go_wp2_with fail
    go_ret
    exact ⟨rfl, bb.out⟩
  have hI0 := validB_W hv
  obtain ⟨W, rfl⟩ := Int.eq_ofNat_of_zero_le (by omega : 0 ≤ W)
  have hI : Im W n xs := Im.of hv p.out.1
  have hW6 := hI.w6
  have hW1 := hI.w1
  have hn1 := hI.l1
  have hn6 := hI.l6
  have hI := Lib.hid hI
  clear hv hI0
  obtain ⟨K, hK⟩ : ∃ K, manyC (cellOf xs) W n = K := ⟨_, rfl⟩
  have hK0 : 0 ≤ K := hK ▸ many_nn _ _ _
  replace hK := Lib.hid hK
  go_wp2_with fail
  refine (many_ok hI.out hK.out _ _ _ p.out).mono ?_
  rintro e w4 ⟨rfl, hb⟩
  have szw4 : w1.heap.size + 1 ≤ w4.heap.size := by have := hb.size; simpa using this
  replace p0 := kept hb (block_lt p0) p0
  replace p1 := kept hb (block_lt p1) p1
  replace p := Lib.hid (p.out.bel hb)
  replace bb := Lib.hid (bb.out.trans (hb.mono bb.out.size))
  clear hb
  go_wp2_with fail
  refine (manys_ok hI.out hK.out _ _ _ p.out).mono ?_
  rintro e w5 ⟨rfl, hb⟩
  have szw5 := hb.size
  replace p0 := kept hb (block_lt p0) p0
  replace p1 := kept hb (block_lt p1) p1
  replace p := Lib.hid (p.out.bel hb)
  replace bb := Lib.hid (bb.out.trans (hb.mono bb.out.size))
  clear hb
  have hsum : Hid (sumL (prF xs W) (uptoL n n) = K) := (many_pairs (cellOf xs) W n).trans hK.out
  have hu := Lib.hid (fun i (hi : i ≤ n) => upto_bd xs (W := W) (n := n) (i := i) hW6 hn6 hi)
  have hs := Lib.hid (fun i k (hk : k ≤ n) => seg_bd xs (W := W) (i := i) (k := k) hW6 (by omega))
  have ho := Lib.hid (fun i k m => only_bd (cellOf xs) i k m)
  have hp := Lib.hid (fun i k => prF_bd xs (W := W) hW6 (i, k))
  have P := Lib.hid (show LS w w5 w1.heap.size W s n cg xs from ⟨p0, p1, p.out, bb.out⟩)
  clear p bb
  go_wp2_with fail
  clear p0 p1
  go_loopw [6, 7] (fun c i wr => ∃ i' : Nat, i' ≤ n ∧ i = .int .i64 i' ∧ c = .int .i64 (sumL (prF xs W) (uptoL n i')) ∧ Hid (LS w wr w1.heap.size W s n cg xs)) (fun _ i _ => n - (intOf i).toNat)
  case atStart => exact ⟨0, Nat.zero_le _, rfl, rfl, P⟩
  case round =>
    clear P
    obtain ⟨i, hi, rfl, rfl, P⟩ := hrel
    obtain ⟨wo, rfl⟩ : ∃ wo : World, wo = wr := ⟨_, rfl⟩
    have b1 := hu.out i hi
    have eu := upto_snoc n i
    obtain ⟨U, hU⟩ : ∃ U, sumL (prF xs W) (uptoL n i) = U := ⟨_, rfl⟩
    rw [hU] at b1
    rw [hU]
    replace hU := Lib.hid hU
    replace eu := Lib.hid eu
    have p0 := P.out.c0
    have p1 := P.out.c1
    by_cases hlt : i < n
    · go_wp2_with fail
      clear p0 p1
      go_loopw [6, 8] (fun c k wr => ∃ k' : Nat, i + 1 ≤ k' ∧ k' ≤ n ∧ k = .int .i64 k' ∧ c = .int .i64 (U + sumL (prF xs W) (segL i k')) ∧ Hid (LS w wr w1.heap.size W s n cg xs)) (fun _ k _ => n - (intOf k).toNat)
      case atStart => exact ⟨i + 1, by omega, by omega, by go_num, by rw [seg_nil]; simp [sumL], P⟩
      case round =>
        clear P
        obtain ⟨k, hk0, hk, rfl, rfl, P⟩ := hrel
        obtain ⟨wo, rfl⟩ : ∃ wo : World, wo = wr := ⟨_, rfl⟩
        have b2 := hs.out i k hk
        have es := suml_seg (prF xs W) i (n := k) (by omega)
        obtain ⟨S, hS⟩ : ∃ S, sumL (prF xs W) (segL i k) = S := ⟨_, rfl⟩
        rw [hS] at b2 es
        rw [hS]
        replace hS := Lib.hid hS
        replace es := Lib.hid es
        have p0 := P.out.c0
        have p1 := P.out.c1
        by_cases hlk : k < n
        · go_wp2_with fail
          clear p0 p1
          go_loopw [9, 10, 11] (fun x y j wr => ∃ m : Nat, m ≤ W ∧ j = .int .i64 m ∧ x = .int .i64 (onlyI (cellOf xs) i k m) ∧ y = .int .i64 (onlyI (cellOf xs) k i m) ∧ Hid (LS w wr w1.heap.size W s n cg xs)) (fun _ _ j _ => W - (intOf j).toNat)
          case atStart => exact ⟨0, Nat.zero_le _, rfl, rfl, rfl, P⟩
          case round =>
            clear P
            obtain ⟨m, hm, rfl, rfl, rfl, P⟩ := hrel
            have b3 := ho.out i k m
            have p0 := P.out.c0
            have p1 := P.out.c1
            by_cases hlm : m < W
            · have e1 := only_succ (cellOf xs) i k m
              have e2 := only_succ (cellOf xs) k i m
              obtain ⟨X, hX⟩ : ∃ X, onlyI (cellOf xs) i k m = X := ⟨_, rfl⟩
              obtain ⟨Y, hY⟩ : ∃ Y, onlyI (cellOf xs) k i m = Y := ⟨_, rfl⟩
              rw [hX] at e1 b3
              rw [hY] at e2 b3
              rw [hX, hY]
              clear hX hY
              have ri := hI.out.row i hlt
              have rk := hI.out.row k hlk
              have h63 := pw_63 hW6
              obtain ⟨b, off, rfl, ci⟩ := row_at P.out.row hlt
              obtain ⟨b', off', eb, ck⟩ := row_at P.out.row hlk
              cases eb
              have bi := cell_bit xs i m
              have bk := cell_bit xs k m
              obtain ⟨xi, hxi⟩ : ∃ x, xs.getD i 0 = x := ⟨_, rfl⟩
              obtain ⟨xk, hxk⟩ : ∃ x, xs.getD k 0 = x := ⟨_, rfl⟩
              rw [hxi] at ri ci bi
              rw [hxk] at rk ck bk
              clear hxi hxk
              have fp0 := fun p : Bw wr => bw_cell p0 p
              have fp1 := fun p : Bw wr => bw_cell p1 p
              have fci := fun p : Bw wr => bw_cell ci p
              have fck := fun p : Bw wr => bw_cell ck p
              obtain ⟨u, hu'⟩ : ∃ u, cellOf xs i m = u := ⟨_, rfl⟩
              obtain ⟨v, hv'⟩ : ∃ v, cellOf xs k m = v := ⟨_, rfl⟩
              rcases u with _ | _ <;> rcases v with _ | _
              · skip
                have cA : ∀ p : Bw wr, Calls Try.prog 47 #[.int .i64 xi, .int .i64 m] p.v (fun e w' => e = .returned (.int .i64 0) ∧ ∃ q : Bw wr, w' = q.v) := fun p => bw_eq ((lbit_any xi m p.v (by omega) (by omega) (by omega)).mono fun e w' hh => ⟨by rw [hh.1, bi, hu']; rfl, hh.2⟩)
                have cB : ∀ p : Bw wr, Calls Try.prog 47 #[.int .i64 xk, .int .i64 m] p.v (fun e w' => e = .returned (.int .i64 0) ∧ ∃ q : Bw wr, w' = q.v) := fun p => bw_eq ((lbit_any xk m p.v (by omega) (by omega) (by omega)).mono fun e w' hh => ⟨by rw [hh.1, bk, hv']; rfl, hh.2⟩)
                rw [hu', hv'] at e1 e2
                replace cA := Lib.hid cA
                replace cB := Lib.hid cB
                have zi : Hid (bitI xi m = 0) := by show bitI xi m = 0; rw [bi, hu']; rfl
                have zk : Hid (bitI xk m = 0) := by show bitI xk m = 0; rw [bk, hv']; rfl
                have q1 : Hid (onlyI (cellOf xs) i k (m + 1) = X) := by rw [e1]; exact Int.add_zero X
                have q2 : Hid (onlyI (cellOf xs) k i (m + 1) = Y) := by rw [e2]; exact Int.add_zero Y
                clear e1 e2 bi bk hu' hv'
                go_wp2_with fail
                refine wp_region_bw (by kernel_rfl) (by kernel_rfl) ?_
                repeat (go_big_quiet_step (first | (with_reducible exact cA.out _) | (with_reducible exact cB.out _)))
                refine wpQuiet_nil ?_
                intro _ hw'
                obtain ⟨pq, rfl⟩ := hw'
                have P2 := Lib.hid (P.out.move pq.h)
                have p0' := P2.out.c0
                have p1' := P2.out.c1
                have ci' := fci pq
                have ck' := fck pq
                clear fp0 fp1 fci fck cA cB P p0 p1 ci ck
                generalize pq.v = V at *
                have fp0 := fun p : Bw V => bw_cell p0' p
                have fp1 := fun p : Bw V => bw_cell p1' p
                have fci := fun p : Bw V => bw_cell ci' p
                have fck := fun p : Bw V => bw_cell ck' p
                have cA : ∀ p : Bw V, Calls Try.prog 47 #[.int .i64 xi, .int .i64 m] p.v (fun e w' => e = .returned (.int .i64 0) ∧ ∃ q : Bw V, w' = q.v) := fun p => bw_eq ((lbit_any xi m p.v (by omega) (by omega) (by omega)).mono fun e w' hh => ⟨by rw [hh.1, zi.out], hh.2⟩)
                have cB : ∀ p : Bw V, Calls Try.prog 47 #[.int .i64 xk, .int .i64 m] p.v (fun e w' => e = .returned (.int .i64 0) ∧ ∃ q : Bw V, w' = q.v) := fun p => bw_eq ((lbit_any xk m p.v (by omega) (by omega) (by omega)).mono fun e w' hh => ⟨by rw [hh.1, zk.out], hh.2⟩)
                replace cA := Lib.hid cA
                replace cB := Lib.hid cB
                go_wp2_with fail
                refine wp_region_bw (by kernel_rfl) (by kernel_rfl) ?_
                repeat (go_big_quiet_step (first | (with_reducible exact cA.out _) | (with_reducible exact cB.out _)))
                refine wpQuiet_nil ?_
                intro _ hw'
                obtain ⟨pq2, rfl⟩ := hw'
                go_wp2_with fail
                exact ⟨⟨m + 1, by omega, by go_num, by rw [q1.out], by rw [q2.out], P2.out.move pq2.h⟩, by simp [intOf]; omega⟩
              · skip
                have cA : ∀ p : Bw wr, Calls Try.prog 47 #[.int .i64 xi, .int .i64 m] p.v (fun e w' => e = .returned (.int .i64 0) ∧ ∃ q : Bw wr, w' = q.v) := fun p => bw_eq ((lbit_any xi m p.v (by omega) (by omega) (by omega)).mono fun e w' hh => ⟨by rw [hh.1, bi, hu']; rfl, hh.2⟩)
                have cB : ∀ p : Bw wr, Calls Try.prog 47 #[.int .i64 xk, .int .i64 m] p.v (fun e w' => e = .returned (.int .i64 1) ∧ ∃ q : Bw wr, w' = q.v) := fun p => bw_eq ((lbit_any xk m p.v (by omega) (by omega) (by omega)).mono fun e w' hh => ⟨by rw [hh.1, bk, hv']; rfl, hh.2⟩)
                rw [hu', hv'] at e1 e2
                replace cA := Lib.hid cA
                replace cB := Lib.hid cB
                have zi : Hid (bitI xi m = 0) := by show bitI xi m = 0; rw [bi, hu']; rfl
                have zk : Hid (bitI xk m = 1) := by show bitI xk m = 1; rw [bk, hv']; rfl
                have q1 : Hid (onlyI (cellOf xs) i k (m + 1) = X) := by rw [e1]; exact Int.add_zero X
                have q2 : Hid (onlyI (cellOf xs) k i (m + 1) = Y + 1) := by rw [e2]; exact rfl
                clear e1 e2 bi bk hu' hv'
                go_wp2_with fail
                refine wp_region_bw (by kernel_rfl) (by kernel_rfl) ?_
                repeat (go_big_quiet_step (first | (with_reducible exact cA.out _) | (with_reducible exact cB.out _)))
                refine wpQuiet_nil ?_
                intro _ hw'
                obtain ⟨pq, rfl⟩ := hw'
                have P2 := Lib.hid (P.out.move pq.h)
                have p0' := P2.out.c0
                have p1' := P2.out.c1
                have ci' := fci pq
                have ck' := fck pq
                clear fp0 fp1 fci fck cA cB P p0 p1 ci ck
                generalize pq.v = V at *
                have fp0 := fun p : Bw V => bw_cell p0' p
                have fp1 := fun p : Bw V => bw_cell p1' p
                have fci := fun p : Bw V => bw_cell ci' p
                have fck := fun p : Bw V => bw_cell ck' p
                have cA : ∀ p : Bw V, Calls Try.prog 47 #[.int .i64 xi, .int .i64 m] p.v (fun e w' => e = .returned (.int .i64 0) ∧ ∃ q : Bw V, w' = q.v) := fun p => bw_eq ((lbit_any xi m p.v (by omega) (by omega) (by omega)).mono fun e w' hh => ⟨by rw [hh.1, zi.out], hh.2⟩)
                have cB : ∀ p : Bw V, Calls Try.prog 47 #[.int .i64 xk, .int .i64 m] p.v (fun e w' => e = .returned (.int .i64 1) ∧ ∃ q : Bw V, w' = q.v) := fun p => bw_eq ((lbit_any xk m p.v (by omega) (by omega) (by omega)).mono fun e w' hh => ⟨by rw [hh.1, zk.out], hh.2⟩)
                replace cA := Lib.hid cA
                replace cB := Lib.hid cB
                go_wp2_with fail
                refine wp_region_bw (by kernel_rfl) (by kernel_rfl) ?_
                repeat (go_big_quiet_step (first | (with_reducible exact cA.out _) | (with_reducible exact cB.out _)))
                refine wpQuiet_nil ?_
                intro _ hw'
                obtain ⟨pq2, rfl⟩ := hw'
                go_wp2_with fail
                exact ⟨⟨m + 1, by omega, by go_num, by rw [q1.out], by rw [q2.out], P2.out.move pq2.h⟩, by simp [intOf]; omega⟩
              · skip
                have cA : ∀ p : Bw wr, Calls Try.prog 47 #[.int .i64 xi, .int .i64 m] p.v (fun e w' => e = .returned (.int .i64 1) ∧ ∃ q : Bw wr, w' = q.v) := fun p => bw_eq ((lbit_any xi m p.v (by omega) (by omega) (by omega)).mono fun e w' hh => ⟨by rw [hh.1, bi, hu']; rfl, hh.2⟩)
                have cB : ∀ p : Bw wr, Calls Try.prog 47 #[.int .i64 xk, .int .i64 m] p.v (fun e w' => e = .returned (.int .i64 0) ∧ ∃ q : Bw wr, w' = q.v) := fun p => bw_eq ((lbit_any xk m p.v (by omega) (by omega) (by omega)).mono fun e w' hh => ⟨by rw [hh.1, bk, hv']; rfl, hh.2⟩)
                rw [hu', hv'] at e1 e2
                replace cA := Lib.hid cA
                replace cB := Lib.hid cB
                have zi : Hid (bitI xi m = 1) := by show bitI xi m = 1; rw [bi, hu']; rfl
                have zk : Hid (bitI xk m = 0) := by show bitI xk m = 0; rw [bk, hv']; rfl
                have q1 : Hid (onlyI (cellOf xs) i k (m + 1) = X + 1) := by rw [e1]; exact rfl
                have q2 : Hid (onlyI (cellOf xs) k i (m + 1) = Y) := by rw [e2]; exact Int.add_zero Y
                clear e1 e2 bi bk hu' hv'
                go_wp2_with fail
                refine wp_region_bw (by kernel_rfl) (by kernel_rfl) ?_
                repeat (go_big_quiet_step (first | (with_reducible exact cA.out _) | (with_reducible exact cB.out _)))
                refine wpQuiet_nil ?_
                intro _ hw'
                obtain ⟨pq, rfl⟩ := hw'
                have P2 := Lib.hid (P.out.move pq.h)
                have p0' := P2.out.c0
                have p1' := P2.out.c1
                have ci' := fci pq
                have ck' := fck pq
                clear fp0 fp1 fci fck cA cB P p0 p1 ci ck
                generalize pq.v = V at *
                have fp0 := fun p : Bw V => bw_cell p0' p
                have fp1 := fun p : Bw V => bw_cell p1' p
                have fci := fun p : Bw V => bw_cell ci' p
                have fck := fun p : Bw V => bw_cell ck' p
                have cA : ∀ p : Bw V, Calls Try.prog 47 #[.int .i64 xi, .int .i64 m] p.v (fun e w' => e = .returned (.int .i64 1) ∧ ∃ q : Bw V, w' = q.v) := fun p => bw_eq ((lbit_any xi m p.v (by omega) (by omega) (by omega)).mono fun e w' hh => ⟨by rw [hh.1, zi.out], hh.2⟩)
                have cB : ∀ p : Bw V, Calls Try.prog 47 #[.int .i64 xk, .int .i64 m] p.v (fun e w' => e = .returned (.int .i64 0) ∧ ∃ q : Bw V, w' = q.v) := fun p => bw_eq ((lbit_any xk m p.v (by omega) (by omega) (by omega)).mono fun e w' hh => ⟨by rw [hh.1, zk.out], hh.2⟩)
                replace cA := Lib.hid cA
                replace cB := Lib.hid cB
                go_wp2_with fail
                refine wp_region_bw (by kernel_rfl) (by kernel_rfl) ?_
                repeat (go_big_quiet_step (first | (with_reducible exact cA.out _) | (with_reducible exact cB.out _)))
                refine wpQuiet_nil ?_
                intro _ hw'
                obtain ⟨pq2, rfl⟩ := hw'
                go_wp2_with fail
                exact ⟨⟨m + 1, by omega, by go_num, by rw [q1.out], by rw [q2.out], P2.out.move pq2.h⟩, by simp [intOf]; omega⟩
              · skip
                have cA : ∀ p : Bw wr, Calls Try.prog 47 #[.int .i64 xi, .int .i64 m] p.v (fun e w' => e = .returned (.int .i64 1) ∧ ∃ q : Bw wr, w' = q.v) := fun p => bw_eq ((lbit_any xi m p.v (by omega) (by omega) (by omega)).mono fun e w' hh => ⟨by rw [hh.1, bi, hu']; rfl, hh.2⟩)
                have cB : ∀ p : Bw wr, Calls Try.prog 47 #[.int .i64 xk, .int .i64 m] p.v (fun e w' => e = .returned (.int .i64 1) ∧ ∃ q : Bw wr, w' = q.v) := fun p => bw_eq ((lbit_any xk m p.v (by omega) (by omega) (by omega)).mono fun e w' hh => ⟨by rw [hh.1, bk, hv']; rfl, hh.2⟩)
                rw [hu', hv'] at e1 e2
                replace cA := Lib.hid cA
                replace cB := Lib.hid cB
                have zi : Hid (bitI xi m = 1) := by show bitI xi m = 1; rw [bi, hu']; rfl
                have zk : Hid (bitI xk m = 1) := by show bitI xk m = 1; rw [bk, hv']; rfl
                have q1 : Hid (onlyI (cellOf xs) i k (m + 1) = X) := by rw [e1]; exact Int.add_zero X
                have q2 : Hid (onlyI (cellOf xs) k i (m + 1) = Y) := by rw [e2]; exact Int.add_zero Y
                clear e1 e2 bi bk hu' hv'
                go_wp2_with fail
                refine wp_region_bw (by kernel_rfl) (by kernel_rfl) ?_
                repeat (go_big_quiet_step (first | (with_reducible exact cA.out _) | (with_reducible exact cB.out _)))
                refine wpQuiet_nil ?_
                intro _ hw'
                obtain ⟨pq, rfl⟩ := hw'
                have P2 := Lib.hid (P.out.move pq.h)
                have p0' := P2.out.c0
                have p1' := P2.out.c1
                have ci' := fci pq
                have ck' := fck pq
                clear fp0 fp1 fci fck cA cB P p0 p1 ci ck
                generalize pq.v = V at *
                have fp0 := fun p : Bw V => bw_cell p0' p
                have fp1 := fun p : Bw V => bw_cell p1' p
                have fci := fun p : Bw V => bw_cell ci' p
                have fck := fun p : Bw V => bw_cell ck' p
                have cA : ∀ p : Bw V, Calls Try.prog 47 #[.int .i64 xi, .int .i64 m] p.v (fun e w' => e = .returned (.int .i64 1) ∧ ∃ q : Bw V, w' = q.v) := fun p => bw_eq ((lbit_any xi m p.v (by omega) (by omega) (by omega)).mono fun e w' hh => ⟨by rw [hh.1, zi.out], hh.2⟩)
                have cB : ∀ p : Bw V, Calls Try.prog 47 #[.int .i64 xk, .int .i64 m] p.v (fun e w' => e = .returned (.int .i64 1) ∧ ∃ q : Bw V, w' = q.v) := fun p => bw_eq ((lbit_any xk m p.v (by omega) (by omega) (by omega)).mono fun e w' hh => ⟨by rw [hh.1, zk.out], hh.2⟩)
                replace cA := Lib.hid cA
                replace cB := Lib.hid cB
                go_wp2_with fail
                refine wp_region_bw (by kernel_rfl) (by kernel_rfl) ?_
                repeat (go_big_quiet_step (first | (with_reducible exact cA.out _) | (with_reducible exact cB.out _)))
                refine wpQuiet_nil ?_
                intro _ hw'
                obtain ⟨pq2, rfl⟩ := hw'
                go_wp2_with fail
                exact ⟨⟨m + 1, by omega, by go_num, by rw [q1.out], by rw [q2.out], P2.out.move pq2.h⟩, by simp [intOf]; omega⟩
            · have : m = W := by omega
              subst this
              have bp := hp.out i k
              have ep : prF xs m (i, k) = onlyI (cellOf xs) i k m * onlyI (cellOf xs) k i m := rfl
              rw [ep] at bp
              have es' := es.out
              rw [ep] at es'
              obtain ⟨X, hX⟩ : ∃ X, onlyI (cellOf xs) i k m = X := ⟨_, rfl⟩
              obtain ⟨Y, hY⟩ : ∃ Y, onlyI (cellOf xs) k i m = Y := ⟨_, rfl⟩
              rw [hX, hY] at bp b3 es'
              rw [hX, hY]
              replace hX := Lib.hid hX
              replace hY := Lib.hid hY
              replace es' := Lib.hid es'
              have w1' : IntKind.i64.wrap (X * Y) = X * Y := IntWalk.i64_in _ ⟨by omega, by omega⟩
              have w2' : wrap64 (X * Y) = X * Y := by unfold wrap64; omega
              clear ep
              go_wp2_with fail
              exact ⟨⟨k + 1, by omega, by omega, by go_num, by rw [es'.out, Int.add_assoc], P⟩, by simp [intOf]; omega⟩
        · have : k = n := by omega
          subst this
          go_wp2_with fail
          exact ⟨⟨i + 1, by omega, by go_num, by rw [eu.out, suml_append, hU.out, hS.out], P⟩, by simp [intOf]; omega⟩
    · have : i = n := by omega
      subst this
      have e9 : U = K := hU.out.symm.trans hsum.out
      subst e9
      go_wp2_with fail
      go_ret
      exact ⟨rfl, P.out.bel⟩

set_option maxRecDepth 100000 in
theorem lifted (os : Os) (started : os.Started) (H : Type) (enc : TypeId × Value → H) :
    ReturnsInHanded {} Try.checked os 11 .any (Rows.fnSwitchPairsSpec.pre6 enc Try.prog Try.f11 Rows.fnSwitchPairsRow.domain false) (Rows.fnSwitchPairsSpec.post enc Try.prog Try.f11 false true false false) := by
  refine returnsInHanded_of_change (C := Try.checked) own started (by kernel_rfl) Try.func11
    (ChangeSpec.witness6 (enc := enc) (C := Try.checked) false ⟨#[], #[.slice none 0 0], []⟩ 8 (by kernel_rfl) (by kernel_rfl) (by kernel_rfl) (by kernel_rfl)) ?_
  intro W base args ds gs before hval0 hW hcnd _
  have hval : ∀ (j : Nat) t v, Try.f11.params[j]? = some t → args[j]? = some v → Value.okWide Try.prog W .any base t v := hval0
  have hW' := hW
  obtain ⟨p, q, hA0, hV, rfl, hfz, hnd⟩ := hW
  have hA : DataW.TrodAll enc Try.prog W 0 (fun _ => true) true Try.f11.params.toList args.toList ds p := hA0
  rw [Try.params11] at hA hval
  obtain ⟨v0, vs0, d0, ds0, p0, q0, hargs, rfl, rfl, h0, r0⟩ := trodAll_cons hA
  obtain ⟨rfl, rfl, rfl⟩ := trodAll_nil r0
  obtain rfl : args = #[v0] := by cases args; simp_all
  obtain ⟨rfl, rfl⟩ := trodVars_none hV
  have k0 := h0
  have lt0 : ∀ x ∈ p0, x.block < W.heap.size := by obtain ⟨m, hm⟩ := k0; exact DataW.trod_lt m _ _ _ hm
  obtain ⟨a0, len0, cap0, z0, rfl, w0, l0, m0⟩ := open_code (hval 0 22 v0 rfl rfl) h0
  clear hA0 hval0
  refine (walk a0 len0 cap0 z0 W w0 l0 m0).mono fun e W' ⟨he, bel⟩ => ?_
  subst he
  exact ⟨_, rfl, _, _, _, [], _, [], hW', trodAll_mk1 (shut_bool Try.underlying4 _), (trodAll_cons_mk (Below.trod laidOut (by kernel_rfl) (of_decide_eq_true (by kernel_rfl)) k0 bel lt0) trodAll_mk0), rfl, bel.frame _, fun h => by cases h⟩

theorem closed : joinedFacts Try.prog 11 Try.f11 Rows.fnSwitchPairsSpec Rows.fnSwitchPairsRow = true := by
  simp only [joinedFacts, Bool.and_eq_true]
  repeat' apply And.intro
  all_goals first | with_reducible exact mayEnterOk | (with_reducible rw [liftsFinalOk]; kernel_rfl) | (with_reducible rw [makeOk]; kernel_rfl) | kernel_rfl

theorem over : Rows.fnSwitchPairsRow.holds Try.pinned (OpenSpec.ofChange Rows.fnSwitchPairsSpec) :=
  OpenClaim.holds_of_wide 11 Try.f11 rfl rfl rfl rfl rfl rfl rfl ⟨rfl, rfl, rfl, rfl, rfl⟩ rfl rfl rfl rfl rfl (by kernel_rfl) Try.func11 closed
    (of_decide_eq_true (by kernel_rfl)) (by unfold Func.isWrapper; first | (rw [if_pos (by decide +kernel)]; kernel_rfl) | (rw [if_neg (by decide +kernel)]; exact ⟨rfl, rfl⟩))
    (fun os started H enc _ => lifted os started H enc)

theorem proved : Rows.FnSwitchPairsSaid := over
#print axioms proved
end Go.Proofs.Ytnibmcihklaigaa.LFSwitchPairs

