/-
  For every slice of bytes the law FnUniqueRows answers true: rows of a unique image are nested; nothing that was there is written; no condition.
-/
import Derived.Test.YtnhcknbbkmaiiaaO
import Derived.Test.YtnhcknbbkmaiiaaK
import Derived.Deep.RegionLaw
import Derived.Test.YtnhcknbbkmaiiaaNu
import Derived.Test.YtnhcknbbkmaiiaaEp
import Derived.Test.YtnhcknbbkmaiiaaKc
import Derived.Test.YtnhcknbbkmaiiaaNs
namespace Go.Proofs.Ytnhcknbbkmaiiaa.LFUniqueRows
open Go.ChangeShapes Go.WideShapes Go.ChangeAt Go.RowKit Go.Joins

def anyB (c : Nat → Nat → Bool) (i k j : Nat) : Bool := (List.range j).any fun q => c i q && !c k q
theorem any_succ (c : Nat → Nat → Bool) (i k j : Nat) : anyB c i k (j + 1) = (anyB c i k j || (c i j && !c k j)) := by
  unfold anyB; rw [List.range_succ, List.any_append]; simp
theorem rows_nest {W n : Nat} {c : Nat → Nat → Bool} (hu : swL c W n = []) {i k : Nat} (hi : i < n) (hk : k < n) : (anyB c i k W && anyB c k i W) = false := by
  refine Bool.eq_false_iff.2 fun h => ?_
  rw [Bool.and_eq_true] at h
  unfold anyB at h
  rw [List.any_eq_true, List.any_eq_true] at h
  obtain ⟨⟨j, hj, h1⟩, l, hl, h2⟩ := h
  rw [Bool.and_eq_true] at h1 h2
  have e1 : c k j = false := by simpa using h1.2
  have e2 : c i l = false := by simpa using h2.2
  have := uniq_rows hu hi hk (List.mem_range.1 hj) (List.mem_range.1 hl) h1.1 e1 e2
  rw [h2.1] at this; cases this

set_option maxHeartbeats 8000000 in
set_option maxRecDepth 100000 in
theorem walk (a : Option Addr) (len cap : Nat) (zs : List Int) (w : World) (h : Bys w a len zs) (hl : len ≤ cap) (hm : cap ≤ 9223372036854775807) :
    Calls Try.prog 5 #[.slice a len cap] w fun e w' => e = .returned (.bool true) ∧ Below w.heap.size w w' := by
  by_cases hbig : 1048576 < len
  · clear h
    go_enter Try.func5, Try.ntmps5
    go_wp2_with fail
    go_ret
    exact ⟨rfl, Below.refl _ _⟩
  go_enter Try.func5, Try.ntmps5
  go_wp2_with fail
  refine (draw_DrawImageUnique a len cap zs _ h hl hm).mono ?_
  rintro e w1 ⟨V, s, n, cg, xs, rfl, hR, hn, hb1⟩
  clear h hl hm
  have bb := Lib.hid hb1
  have p := Lib.hid hR
  clear hR hb1
  have hbx : Below w1.heap.size w1 (w1.alloc (.cells #[.int .i64 V, .slice s n cg] 25)) := (Below.refl _ _).alloc (Nat.le_refl _) _
  replace p := Lib.hid (p.out.bel hbx)
  replace bb := Lib.hid (bb.out.trans (hbx.mono bb.out.size))
  clear hbx
  have p0 : (w1.alloc (.cells #[.int .i64 V, .slice s n cg] 25)).cell? ⟨w1.heap.size, 0, none⟩ = some (.int .i64 V) := by simp
  have p1 : (w1.alloc (.cells #[.int .i64 V, .slice s n cg] 25)).cell? ⟨w1.heap.size, 1, none⟩ = some (.slice s n cg) := by simp
  by_cases hv : uniO V xs = true
  case neg =>
    have hv : uniO V xs = false := by simpa using hv
    go_wp2_with fail
    refine (uni_io hv (by omega) _ _ _ p.out).mono ?_
    rintro e w2 ⟨rfl, hb⟩
    have szw2 : w1.heap.size + 1 ≤ w2.heap.size := by have := hb.size; simpa using this
    replace p0 := kept hb (block_lt p0) p0
    replace p1 := kept hb (block_lt p1) p1
    replace p := Lib.hid (p.out.bel hb)
    replace bb := Lib.hid (bb.out.trans (hb.mono bb.out.size))
    clear hb
    go_wp2_with fail
    refine (uni_so hv (by omega) _ _ _ p.out).mono ?_
    rintro e w3 ⟨rfl, hb⟩
    have szw3 := hb.size
    replace p0 := kept hb (block_lt p0) p0
    replace p1 := kept hb (block_lt p1) p1
    replace p := Lib.hid (p.out.bel hb)
    replace bb := Lib.hid (bb.out.trans (hb.mono bb.out.size))
    clear hb
    go_wp2_with fail
    go_ret
    exact ⟨rfl, bb.out⟩
  obtain ⟨W, rfl, hI, hu⟩ := unio_yes hv p.out.1
  have hW6 := hI.w6
  have hW1 := hI.w1
  have hn1 := hI.l1
  have hn6 := hI.l6
  replace hu := Lib.hid hu
  replace hI := Lib.hid hI
  replace hv := Lib.hid hv
  go_wp2_with fail
  refine (uni_io hv.out (by omega) _ _ _ p.out).mono ?_
  rintro e w4 ⟨rfl, hb⟩
  have szw4 : w1.heap.size + 1 ≤ w4.heap.size := by have := hb.size; simpa using this
  replace p0 := kept hb (block_lt p0) p0
  replace p1 := kept hb (block_lt p1) p1
  replace p := Lib.hid (p.out.bel hb)
  replace bb := Lib.hid (bb.out.trans (hb.mono bb.out.size))
  clear hb
  go_wp2_with fail
  refine (uni_so hv.out (by omega) _ _ _ p.out).mono ?_
  rintro e w5 ⟨rfl, hb⟩
  have szw5 := hb.size
  replace p0 := kept hb (block_lt p0) p0
  replace p1 := kept hb (block_lt p1) p1
  replace p := Lib.hid (p.out.bel hb)
  replace bb := Lib.hid (bb.out.trans (hb.mono bb.out.size))
  clear hb
  have hnest := Lib.hid (fun (i k : Nat) (hi : i < n) (hk : k < n) => rows_nest (W := W) (n := n) (c := cellOf xs) hu.out hi hk)
  have hm0 : manyC (cellOf xs) W n = 0 := (uniq_many _).1 hu.out
  replace hm0 := Lib.hid hm0
  go_wp2_with fail
  go_loopw [6] (fun t wr => ∃ i : Nat, i ≤ n ∧ t = .int .i64 i ∧ wr.cell? ⟨w1.heap.size, 0, none⟩ = some (.int .i64 W) ∧ wr.cell? ⟨w1.heap.size, 1, none⟩ = some (.slice s n cg) ∧ Hid (Row wr s n xs) ∧ Hid (Below w.heap.size w wr)) (fun i _ => n - (intOf i).toNat)
  case atStart => exact ⟨0, Nat.zero_le _, rfl, p0, p1, p, bb⟩
  case round =>
    clear p0 p1 p bb
    obtain ⟨i, hi, rfl, p0, p1, p, bb⟩ := hrel
    obtain ⟨w6, rfl⟩ : ∃ w6 : World, w6 = wr := ⟨_, rfl⟩
    by_cases hlt : i < n
    case pos =>
      go_wp2_with fail
      go_loopw [7] (fun t wr => ∃ k : Nat, k ≤ i ∧ t = .int .i64 k ∧ wr.cell? ⟨w1.heap.size, 0, none⟩ = some (.int .i64 W) ∧ wr.cell? ⟨w1.heap.size, 1, none⟩ = some (.slice s n cg) ∧ Hid (Row wr s n xs) ∧ Hid (Below w.heap.size w wr)) (fun t _ => i - (intOf t).toNat)
      case atStart => exact ⟨0, Nat.zero_le _, rfl, p0, p1, p, bb⟩
      case round =>
        clear p0 p1 p bb
        obtain ⟨k, hk, rfl, p0, p1, p, bb⟩ := hrel
        obtain ⟨w7, rfl⟩ : ∃ w7 : World, w7 = wr := ⟨_, rfl⟩
        by_cases hlk : k < i
        case pos =>
          have hkn : k < n := by omega
          have ri := hI.out.row i hlt
          have rk := hI.out.row k hkn
          have hp6 := pw_63 hW6
          go_wp2_with fail
          go_loopw [8, 9, 10] (fun a b t wr => ∃ j : Nat, j ≤ W ∧ t = .int .i64 j ∧ a = .bool (anyB (cellOf xs) i k j) ∧ b = .bool (anyB (cellOf xs) k i j) ∧ wr.cell? ⟨w1.heap.size, 0, none⟩ = some (.int .i64 W) ∧ wr.cell? ⟨w1.heap.size, 1, none⟩ = some (.slice s n cg) ∧ Hid (Row wr s n xs) ∧ Hid (Below w.heap.size w wr)) (fun _ _ t _ => W - (intOf t).toNat)
          case atStart => exact ⟨0, Nat.zero_le _, rfl, rfl, rfl, p0, p1, p, bb⟩
          case round =>
            clear p0 p1 p bb
            obtain ⟨j, hj, rfl, rfl, rfl, p0, p1, p, bb⟩ := hrel
            obtain ⟨w8, rfl⟩ : ∃ w8 : World, w8 = wr := ⟨_, rfl⟩
            by_cases hlj : j < W
            case pos =>
              have e1 := any_succ (cellOf xs) i k j
              have e2 := any_succ (cellOf xs) k i j
              obtain ⟨A, hA⟩ : ∃ A, anyB (cellOf xs) i k j = A := ⟨_, rfl⟩
              obtain ⟨B, hB⟩ : ∃ B, anyB (cellOf xs) k i j = B := ⟨_, rfl⟩
              rw [hA] at e1 ⊢
              rw [hB] at e2 ⊢
              obtain ⟨bx, ox, ea, ci⟩ := row_at p.out hlt
              obtain ⟨bx2, ox2, ea2, ck⟩ := row_at p.out hkn
              rw [ea] at ea2
              cases ea2
              subst ea
              have bi := cell_bit xs i j
              have bk := cell_bit xs k j
              obtain ⟨xi, hxi⟩ : ∃ x, xs.getD i 0 = x := ⟨_, rfl⟩
              obtain ⟨xk, hxk⟩ : ∃ x, xs.getD k 0 = x := ⟨_, rfl⟩
              rw [hxi] at ci ri bi
              rw [hxk] at ck rk bk
              obtain ⟨fi, hfi⟩ : ∃ b, cellOf xs i j = b := ⟨_, rfl⟩
              obtain ⟨fk, hfk⟩ : ∃ b, cellOf xs k j = b := ⟨_, rfl⟩
              rw [hfi] at e1 e2 bi
              rw [hfk] at e1 e2 bk
              have d1 : decide (bI fk < bI fi) = (fi && !fk) := by cases fi <;> cases fk <;> rfl
              have d2 : decide (bI fi < bI fk) = (fk && !fi) := by cases fi <;> cases fk <;> rfl
              rw [← d1] at e1
              rw [← d2] at e2
              have q1 := bI_01 fi
              have q2 := bI_01 fk
              generalize bI fi = vi at *
              generalize bI fk = vk at *
              have ri0 : 0 ≤ xi := ri.1
              have ri1 : xi ≤ 9223372036854775807 := by have := ri.2; omega
              have rk0 : 0 ≤ xk := rk.1
              have rk1 : xk ≤ 9223372036854775807 := by have := rk.2; omega
              have hj30 : j ≤ 30 := by omega
              replace bi := Lib.hid bi
              replace bk := Lib.hid bk
              replace hxi := Lib.hid hxi
              replace hxk := Lib.hid hxk
              replace hfi := Lib.hid hfi
              replace hfk := Lib.hid hfk
              replace hA := Lib.hid hA
              replace hB := Lib.hid hB
              replace e1 := Lib.hid e1
              replace e2 := Lib.hid e2
              clear d1 d2 ri rk
              cases A <;> cases B
              · have g_p0 := fun p : Bw w8 => bw_cell p0 p
                have g_p1 := fun p : Bw w8 => bw_cell p1 p
                have g_ci := fun p : Bw w8 => bw_cell ci p
                have g_ck := fun p : Bw w8 => bw_cell ck p
                have cc0 : ∀ p : Bw w8, Calls Try.prog 32 #[.int .i64 xi, .int .i64 j] p.v (fun e w' => e = .returned (.int .i64 vi) ∧ ∃ q : Bw w8, w' = q.v) := fun p => bw_of (((lbit_any xi j p.v ri0 ri1 hj30).mono fun e w' hh => ⟨by rw [hh.1, bi.out], hh.2 ▸ Below.refl _ _⟩))
                replace cc0 := Lib.hid cc0
                have cc1 : ∀ p : Bw w8, Calls Try.prog 32 #[.int .i64 xk, .int .i64 j] p.v (fun e w' => e = .returned (.int .i64 vk) ∧ ∃ q : Bw w8, w' = q.v) := fun p => bw_of (((lbit_any xk j p.v rk0 rk1 hj30).mono fun e w' hh => ⟨by rw [hh.1, bk.out], hh.2 ▸ Below.refl _ _⟩))
                replace cc1 := Lib.hid cc1
                go_wp2_with fail
                refine wp_region_bw (by kernel_rfl) (by kernel_rfl) ?_
                repeat (go_big_quiet_step (first | (with_reducible exact cc0.out _) | (with_reducible exact cc1.out _)))
                refine wpQuiet_nil ?_
                intro _ hw'
                obtain ⟨pq, rfl⟩ := hw'
                have hb := pq.h
                clear g_p0 g_p1 g_ci g_ck cc0 cc1
                generalize pq.v = w9 at hb ⊢
                clear pq
                have szw9 := hb.size
                replace p0 := kept hb (block_lt p0) p0
                replace p1 := kept hb (block_lt p1) p1
                replace ci := kept hb (block_lt ci) ci
                replace ck := kept hb (block_lt ck) ck
                replace p := Lib.hid (p.out.bel hb)
                replace bb := Lib.hid (bb.out.trans (hb.mono bb.out.size))
                clear hb
                have g_p0 := fun p : Bw w9 => bw_cell p0 p
                have g_p1 := fun p : Bw w9 => bw_cell p1 p
                have g_ci := fun p : Bw w9 => bw_cell ci p
                have g_ck := fun p : Bw w9 => bw_cell ck p
                have cc0 : ∀ p : Bw w9, Calls Try.prog 32 #[.int .i64 xi, .int .i64 j] p.v (fun e w' => e = .returned (.int .i64 vi) ∧ ∃ q : Bw w9, w' = q.v) := fun p => bw_of (((lbit_any xi j p.v ri0 ri1 hj30).mono fun e w' hh => ⟨by rw [hh.1, bi.out], hh.2 ▸ Below.refl _ _⟩))
                replace cc0 := Lib.hid cc0
                have cc1 : ∀ p : Bw w9, Calls Try.prog 32 #[.int .i64 xk, .int .i64 j] p.v (fun e w' => e = .returned (.int .i64 vk) ∧ ∃ q : Bw w9, w' = q.v) := fun p => bw_of (((lbit_any xk j p.v rk0 rk1 hj30).mono fun e w' hh => ⟨by rw [hh.1, bk.out], hh.2 ▸ Below.refl _ _⟩))
                replace cc1 := Lib.hid cc1
                go_wp2_with fail
                refine wp_region_bw (by kernel_rfl) (by kernel_rfl) ?_
                repeat (go_big_quiet_step (first | (with_reducible exact cc0.out _) | (with_reducible exact cc1.out _)))
                refine wpQuiet_nil ?_
                intro _ hw'
                obtain ⟨pq, rfl⟩ := hw'
                have hb := pq.h
                clear g_p0 g_p1 g_ci g_ck cc0 cc1
                generalize pq.v = w10 at hb ⊢
                clear pq
                have szw10 := hb.size
                replace p0 := kept hb (block_lt p0) p0
                replace p1 := kept hb (block_lt p1) p1
                replace ci := kept hb (block_lt ci) ci
                replace ck := kept hb (block_lt ck) ck
                replace p := Lib.hid (p.out.bel hb)
                replace bb := Lib.hid (bb.out.trans (hb.mono bb.out.size))
                clear hb
                clear ci ck
                go_wp2_with fail
                refine ⟨⟨j + 1, by omega, by go_num, ?_, ?_, p0, p1, p, bb⟩, by simp [intOf]; omega⟩
                · rw [e1.out]; simp
                · rw [e2.out]; simp
              · have g_p0 := fun p : Bw w8 => bw_cell p0 p
                have g_p1 := fun p : Bw w8 => bw_cell p1 p
                have g_ci := fun p : Bw w8 => bw_cell ci p
                have g_ck := fun p : Bw w8 => bw_cell ck p
                have cc0 : ∀ p : Bw w8, Calls Try.prog 32 #[.int .i64 xi, .int .i64 j] p.v (fun e w' => e = .returned (.int .i64 vi) ∧ ∃ q : Bw w8, w' = q.v) := fun p => bw_of (((lbit_any xi j p.v ri0 ri1 hj30).mono fun e w' hh => ⟨by rw [hh.1, bi.out], hh.2 ▸ Below.refl _ _⟩))
                replace cc0 := Lib.hid cc0
                have cc1 : ∀ p : Bw w8, Calls Try.prog 32 #[.int .i64 xk, .int .i64 j] p.v (fun e w' => e = .returned (.int .i64 vk) ∧ ∃ q : Bw w8, w' = q.v) := fun p => bw_of (((lbit_any xk j p.v rk0 rk1 hj30).mono fun e w' hh => ⟨by rw [hh.1, bk.out], hh.2 ▸ Below.refl _ _⟩))
                replace cc1 := Lib.hid cc1
                go_wp2_with fail
                refine wp_region_bw (by kernel_rfl) (by kernel_rfl) ?_
                repeat (go_big_quiet_step (first | (with_reducible exact cc0.out _) | (with_reducible exact cc1.out _)))
                refine wpQuiet_nil ?_
                intro _ hw'
                obtain ⟨pq, rfl⟩ := hw'
                have hb := pq.h
                clear g_p0 g_p1 g_ci g_ck cc0 cc1
                generalize pq.v = w11 at hb ⊢
                clear pq
                have szw11 := hb.size
                replace p0 := kept hb (block_lt p0) p0
                replace p1 := kept hb (block_lt p1) p1
                replace ci := kept hb (block_lt ci) ci
                replace ck := kept hb (block_lt ck) ck
                replace p := Lib.hid (p.out.bel hb)
                replace bb := Lib.hid (bb.out.trans (hb.mono bb.out.size))
                clear hb
                have g_p0 := fun p : Bw w11 => bw_cell p0 p
                have g_p1 := fun p : Bw w11 => bw_cell p1 p
                have g_ci := fun p : Bw w11 => bw_cell ci p
                have g_ck := fun p : Bw w11 => bw_cell ck p
                go_wp2_with fail
                refine wp_region_bw (by kernel_rfl) (by kernel_rfl) ?_
                repeat (go_big_quiet_step (fail))
                refine wpQuiet_nil ?_
                intro _ hw'
                obtain ⟨pq, rfl⟩ := hw'
                have hb := pq.h
                clear g_p0 g_p1 g_ci g_ck
                generalize pq.v = w12 at hb ⊢
                clear pq
                have szw12 := hb.size
                replace p0 := kept hb (block_lt p0) p0
                replace p1 := kept hb (block_lt p1) p1
                replace ci := kept hb (block_lt ci) ci
                replace ck := kept hb (block_lt ck) ck
                replace p := Lib.hid (p.out.bel hb)
                replace bb := Lib.hid (bb.out.trans (hb.mono bb.out.size))
                clear hb
                clear ci ck
                go_wp2_with fail
                refine ⟨⟨j + 1, by omega, by go_num, ?_, ?_, p0, p1, p, bb⟩, by simp [intOf]; omega⟩
                · rw [e1.out]; simp
                · rw [e2.out]; simp
              · have g_p0 := fun p : Bw w8 => bw_cell p0 p
                have g_p1 := fun p : Bw w8 => bw_cell p1 p
                have g_ci := fun p : Bw w8 => bw_cell ci p
                have g_ck := fun p : Bw w8 => bw_cell ck p
                go_wp2_with fail
                refine wp_region_bw (by kernel_rfl) (by kernel_rfl) ?_
                repeat (go_big_quiet_step (fail))
                refine wpQuiet_nil ?_
                intro _ hw'
                obtain ⟨pq, rfl⟩ := hw'
                have hb := pq.h
                clear g_p0 g_p1 g_ci g_ck
                generalize pq.v = w13 at hb ⊢
                clear pq
                have szw13 := hb.size
                replace p0 := kept hb (block_lt p0) p0
                replace p1 := kept hb (block_lt p1) p1
                replace ci := kept hb (block_lt ci) ci
                replace ck := kept hb (block_lt ck) ck
                replace p := Lib.hid (p.out.bel hb)
                replace bb := Lib.hid (bb.out.trans (hb.mono bb.out.size))
                clear hb
                have g_p0 := fun p : Bw w13 => bw_cell p0 p
                have g_p1 := fun p : Bw w13 => bw_cell p1 p
                have g_ci := fun p : Bw w13 => bw_cell ci p
                have g_ck := fun p : Bw w13 => bw_cell ck p
                have cc0 : ∀ p : Bw w13, Calls Try.prog 32 #[.int .i64 xi, .int .i64 j] p.v (fun e w' => e = .returned (.int .i64 vi) ∧ ∃ q : Bw w13, w' = q.v) := fun p => bw_of (((lbit_any xi j p.v ri0 ri1 hj30).mono fun e w' hh => ⟨by rw [hh.1, bi.out], hh.2 ▸ Below.refl _ _⟩))
                replace cc0 := Lib.hid cc0
                have cc1 : ∀ p : Bw w13, Calls Try.prog 32 #[.int .i64 xk, .int .i64 j] p.v (fun e w' => e = .returned (.int .i64 vk) ∧ ∃ q : Bw w13, w' = q.v) := fun p => bw_of (((lbit_any xk j p.v rk0 rk1 hj30).mono fun e w' hh => ⟨by rw [hh.1, bk.out], hh.2 ▸ Below.refl _ _⟩))
                replace cc1 := Lib.hid cc1
                go_wp2_with fail
                refine wp_region_bw (by kernel_rfl) (by kernel_rfl) ?_
                repeat (go_big_quiet_step (first | (with_reducible exact cc0.out _) | (with_reducible exact cc1.out _)))
                refine wpQuiet_nil ?_
                intro _ hw'
                obtain ⟨pq, rfl⟩ := hw'
                have hb := pq.h
                clear g_p0 g_p1 g_ci g_ck cc0 cc1
                generalize pq.v = w14 at hb ⊢
                clear pq
                have szw14 := hb.size
                replace p0 := kept hb (block_lt p0) p0
                replace p1 := kept hb (block_lt p1) p1
                replace ci := kept hb (block_lt ci) ci
                replace ck := kept hb (block_lt ck) ck
                replace p := Lib.hid (p.out.bel hb)
                replace bb := Lib.hid (bb.out.trans (hb.mono bb.out.size))
                clear hb
                clear ci ck
                go_wp2_with fail
                refine ⟨⟨j + 1, by omega, by go_num, ?_, ?_, p0, p1, p, bb⟩, by simp [intOf]; omega⟩
                · rw [e1.out]; simp
                · rw [e2.out]; simp
              · have g_p0 := fun p : Bw w8 => bw_cell p0 p
                have g_p1 := fun p : Bw w8 => bw_cell p1 p
                have g_ci := fun p : Bw w8 => bw_cell ci p
                have g_ck := fun p : Bw w8 => bw_cell ck p
                go_wp2_with fail
                refine wp_region_bw (by kernel_rfl) (by kernel_rfl) ?_
                repeat (go_big_quiet_step (fail))
                refine wpQuiet_nil ?_
                intro _ hw'
                obtain ⟨pq, rfl⟩ := hw'
                have hb := pq.h
                clear g_p0 g_p1 g_ci g_ck
                generalize pq.v = w15 at hb ⊢
                clear pq
                have szw15 := hb.size
                replace p0 := kept hb (block_lt p0) p0
                replace p1 := kept hb (block_lt p1) p1
                replace ci := kept hb (block_lt ci) ci
                replace ck := kept hb (block_lt ck) ck
                replace p := Lib.hid (p.out.bel hb)
                replace bb := Lib.hid (bb.out.trans (hb.mono bb.out.size))
                clear hb
                have g_p0 := fun p : Bw w15 => bw_cell p0 p
                have g_p1 := fun p : Bw w15 => bw_cell p1 p
                have g_ci := fun p : Bw w15 => bw_cell ci p
                have g_ck := fun p : Bw w15 => bw_cell ck p
                go_wp2_with fail
                refine wp_region_bw (by kernel_rfl) (by kernel_rfl) ?_
                repeat (go_big_quiet_step (fail))
                refine wpQuiet_nil ?_
                intro _ hw'
                obtain ⟨pq, rfl⟩ := hw'
                have hb := pq.h
                clear g_p0 g_p1 g_ci g_ck
                generalize pq.v = w16 at hb ⊢
                clear pq
                have szw16 := hb.size
                replace p0 := kept hb (block_lt p0) p0
                replace p1 := kept hb (block_lt p1) p1
                replace ci := kept hb (block_lt ci) ci
                replace ck := kept hb (block_lt ck) ck
                replace p := Lib.hid (p.out.bel hb)
                replace bb := Lib.hid (bb.out.trans (hb.mono bb.out.size))
                clear hb
                clear ci ck
                go_wp2_with fail
                refine ⟨⟨j + 1, by omega, by go_num, ?_, ?_, p0, p1, p, bb⟩, by simp [intOf]; omega⟩
                · rw [e1.out]; simp
                · rw [e2.out]; simp
            obtain rfl : W = j := by omega
            have hno := hnest.out i k hlt hkn
            obtain ⟨A, hA⟩ : ∃ A, anyB (cellOf xs) i k W = A := ⟨_, rfl⟩
            obtain ⟨B, hB⟩ : ∃ B, anyB (cellOf xs) k i W = B := ⟨_, rfl⟩
            rw [hA, hB] at hno
            rw [hA, hB]
            clear hA hB ri rk
            cases A <;> cases B
            · clear hno
              go_wp2_with fail
              exact ⟨⟨k + 1, by omega, by go_num, p0, p1, p, bb⟩, by simp [intOf]; omega⟩
            · clear hno
              go_wp2_with fail
              exact ⟨⟨k + 1, by omega, by go_num, p0, p1, p, bb⟩, by simp [intOf]; omega⟩
            · clear hno
              go_wp2_with fail
              exact ⟨⟨k + 1, by omega, by go_num, p0, p1, p, bb⟩, by simp [intOf]; omega⟩
            · exact absurd hno (by simp)
        obtain rfl : i = k := by omega
        go_wp2_with fail
        exact ⟨⟨i + 1, by omega, by go_num, p0, p1, p, bb⟩, by simp [intOf]; omega⟩
    obtain rfl : n = i := by omega
    go_wp2_with fail
    refine (many_ok hI.out hm0.out _ _ _ p.out).mono ?_
    rintro e w17 ⟨rfl, hb⟩
    have szw17 := hb.size
    replace p0 := kept hb (block_lt p0) p0
    replace p1 := kept hb (block_lt p1) p1
    replace p := Lib.hid (p.out.bel hb)
    replace bb := Lib.hid (bb.out.trans (hb.mono bb.out.size))
    clear hb
    go_wp2_with fail
    go_ret
    exact ⟨rfl, bb.out⟩

set_option maxRecDepth 100000 in
theorem lifted (os : Os) (started : os.Started) (H : Type) (enc : TypeId × Value → H) :
    ReturnsInHanded {} Try.checked os 5 .any (Rows.fnUniqueRowsSpec.pre6 enc Try.prog Try.f5 Rows.fnUniqueRowsRow.domain false) (Rows.fnUniqueRowsSpec.post enc Try.prog Try.f5 false true false false) := by
  refine returnsInHanded_of_change (C := Try.checked) own started (by kernel_rfl) Try.func5
    (ChangeSpec.witness6 (enc := enc) (C := Try.checked) false ⟨#[], #[.slice none 0 0], []⟩ 8 (by kernel_rfl) (by kernel_rfl) (by kernel_rfl) (by kernel_rfl)) ?_
  intro W base args ds gs before hval0 hW hcnd _
  have hval : ∀ (j : Nat) t v, Try.f5.params[j]? = some t → args[j]? = some v → Value.okWide Try.prog W .any base t v := hval0
  have hW' := hW
  obtain ⟨p, q, hA0, hV, rfl, hfz, hnd⟩ := hW
  have hA : DataW.TrodAll enc Try.prog W 0 (fun _ => true) true Try.f5.params.toList args.toList ds p := hA0
  rw [Try.params5] at hA hval
  obtain ⟨v0, vs0, d0, ds0, p0, q0, hargs, rfl, rfl, h0, r0⟩ := trodAll_cons hA
  obtain ⟨rfl, rfl, rfl⟩ := trodAll_nil r0
  obtain rfl : args = #[v0] := by cases args; simp_all
  obtain ⟨rfl, rfl⟩ := trodVars_none hV
  have k0 := h0
  have lt0 : ∀ x ∈ p0, x.block < W.heap.size := by obtain ⟨m, hm⟩ := k0; exact DataW.trod_lt m _ _ _ hm
  obtain ⟨a0, len0, cap0, z0, rfl, w0, l0, m0⟩ := open_code (hval 0 22 v0 rfl rfl) h0
  clear hA0 hval0
  refine (walk a0 len0 cap0 z0 W w0 l0 m0).mono fun e W' ⟨he, bel⟩ => ?_
  subst he
  exact ⟨_, rfl, _, _, _, [], _, [], hW', trodAll_mk1 (shut_bool Try.underlying4 _), (trodAll_cons_mk (Below.trod laidOut (by kernel_rfl) (of_decide_eq_true (by kernel_rfl)) k0 bel lt0) trodAll_mk0), rfl, bel.frame _, fun h => by cases h⟩

theorem closed : joinedFacts Try.prog 5 Try.f5 Rows.fnUniqueRowsSpec Rows.fnUniqueRowsRow = true := by
  simp only [joinedFacts, Bool.and_eq_true]
  repeat' apply And.intro
  all_goals first | with_reducible exact mayEnterOk | (with_reducible rw [liftsFinalOk]; kernel_rfl) | (with_reducible rw [makeOk]; kernel_rfl) | kernel_rfl

theorem over : Rows.fnUniqueRowsRow.holds Try.pinned (OpenSpec.ofChange Rows.fnUniqueRowsSpec) :=
  OpenClaim.holds_of_wide 5 Try.f5 rfl rfl rfl rfl rfl rfl rfl ⟨rfl, rfl, rfl, rfl, rfl⟩ rfl rfl rfl rfl rfl (by kernel_rfl) Try.func5 closed
    (of_decide_eq_true (by kernel_rfl)) (by unfold Func.isWrapper; first | (rw [if_pos (by decide +kernel)]; kernel_rfl) | (rw [if_neg (by decide +kernel)]; exact ⟨rfl, rfl⟩))
    (fun os started H enc _ => lifted os started H enc)

theorem proved : Rows.FnUniqueRowsSaid := over
#print axioms proved
end Go.Proofs.Ytnhcknbbkmaiiaa.LFUniqueRows

