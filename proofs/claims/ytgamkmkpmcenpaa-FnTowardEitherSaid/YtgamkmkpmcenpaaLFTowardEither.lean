/-
  For every slice of bytes the law FnTowardEither answers true: of two images with the same sums that are different one has a switch toward the other one; nothing that was there is written; no condition.
-/
import Derived.Test.YtgamkmkpmcenpaaO
import Derived.Test.YtgamkmkpmcenpaaK
import Derived.Deep.RegionLaw
import Derived.Test.YtgamkmkpmcenpaaWg
namespace Go.Proofs.Ytgamkmkpmcenpaa.LFTowardEither
open Go.ChangeShapes Go.WideShapes Go.ChangeAt Go.RowKit Go.Joins

set_option maxHeartbeats 2000000 in
set_option maxRecDepth 100000 in
theorem walk (a : Option Addr) (len cap : Nat) (zs : List Int) (w : World) (h : Bys w a len zs) (hl : len ≤ cap) (hm : cap ≤ 9223372036854775807) :
    Calls Try.prog 8 #[.slice a len cap] w fun e w' => e = .returned (.bool true) ∧ Below w.heap.size w w' := by
  by_cases hbig : 1048576 < len
  · clear h
    go_enter Try.func8, Try.ntmps8
    go_wp2_with fail
    go_ret
    exact ⟨rfl, Below.refl _ _⟩
  go_enter Try.func8, Try.ntmps8
  go_wp2_with fail
  refine (draw_DrawSumsSame a len cap zs _ h hl hm).mono ?_
  rintro e w1 ⟨V, s, n, cg, xs, V2, t, m, ch, ys, rfl, hX, hY, hnm, hb1⟩
  clear h hl hm
  have bb := Lib.hid hb1
  have p := Lib.hid hX
  have q := Lib.hid hY
  obtain ⟨w2, hw2⟩ : ∃ w2, w2 = (w1.alloc (.cells #[.int .i64 V, .slice s n cg] 25)).alloc (.cells #[.int .i64 V2, .slice t m ch] 25) := ⟨_, rfl⟩
  have hb : Below w1.heap.size w1 w2 := by subst hw2; exact ((Below.refl _ _).alloc (Nat.le_refl _) _).alloc (by simp) _
  have p0 : w2.cell? ⟨w1.heap.size, 0, none⟩ = some (.int .i64 V) := by subst hw2; go_simp
  have p1 : w2.cell? ⟨w1.heap.size, 1, none⟩ = some (.slice s n cg) := by subst hw2; go_simp
  have q0 : w2.cell? ⟨w1.heap.size + 1, 0, none⟩ = some (.int .i64 V2) := by subst hw2; go_simp
  have q1 : w2.cell? ⟨w1.heap.size + 1, 1, none⟩ = some (.slice t m ch) := by subst hw2; go_simp
  clear hX hY hb1
  have szw2 := hb.size
  replace p := Lib.hid (p.out.bel hb)
  replace q := Lib.hid (q.out.bel hb)
  replace bb := Lib.hid (bb.out.trans (hb.mono bb.out.size))
  clear hb
  go_wp2_with fail
  rw [← hw2]
  clear hw2
  obtain ⟨B, hB⟩ : ∃ B, sameB V xs V2 ys = B := ⟨_, rfl⟩
  refine (same_impl V V2 s t n m cg ch xs ys _ p.out q.out (by omega) (by omega)).mono ?_
  rintro e w3 ⟨rfl, hb⟩
  have szw3 := hb.size
  replace p0 := kept hb (block_lt p0) p0
  replace p1 := kept hb (block_lt p1) p1
  replace q0 := kept hb (block_lt q0) q0
  replace q1 := kept hb (block_lt q1) q1
  replace p := Lib.hid (p.out.bel hb)
  replace q := Lib.hid (q.out.bel hb)
  replace bb := Lib.hid (bb.out.trans (hb.mono bb.out.size))
  clear hb
  go_wp2_with fail
  refine (same_spec2 V V2 s t n m cg ch xs ys _ p.out q.out (by omega) (by omega)).mono ?_
  rintro e w4 ⟨rfl, hb⟩
  have szw4 := hb.size
  replace p0 := kept hb (block_lt p0) p0
  replace p1 := kept hb (block_lt p1) p1
  replace q0 := kept hb (block_lt q0) q0
  replace q1 := kept hb (block_lt q1) q1
  replace p := Lib.hid (p.out.bel hb)
  replace q := Lib.hid (q.out.bel hb)
  replace bb := Lib.hid (bb.out.trans (hb.mono bb.out.size))
  clear hb
  rw [hB]
  by_cases hv : B = true
  case neg =>
    have hv : B = false := by simpa using hv
    subst hv
    go_wp2_with fail
    go_ret
    exact ⟨rfl, bb.out⟩
  subst hv
  have hs := same_parts hB
  obtain ⟨hv1, hv2, hrs, hcs⟩ := hs
  have hI0 := validB_W hv1
  have hI1 := validB_W hv2
  obtain ⟨W, rfl⟩ := Int.eq_ofNat_of_zero_le (by omega : 0 ≤ V)
  obtain ⟨W2, rfl⟩ := Int.eq_ofNat_of_zero_le (by omega : 0 ≤ V2)
  have hI : Im W n xs := Im.of hv1 p.out.1
  have hJ : Im W2 m ys := Im.of hv2 q.out.1
  rw [hI.rs, hJ.rs] at hrs
  rw [hI.cs, hJ.cs] at hcs
  have e1 : n = m := by have := congrArg List.length hrs; rwa [rs_len, rs_len] at this
  have e2 : W = W2 := by have := congrArg List.length hcs; rwa [cs_len, cs_len] at this
  subst e1 e2
  have hW6 := hI.w6
  have hW1 := hI.w1
  have hn1 := hI.l1
  have hn6 := hI.l6
  clear hv1 hv2 hI0 hI1 hB
  have hs : SumE xs ys W n := ⟨hrs, hcs⟩
  obtain ⟨f, hf⟩ : ∃ f, farL xs ys W n = f := ⟨_, rfl⟩
  have hei : f ≠ 0 → towL xs ys W n ≠ none ∨ towL ys xs W n ≠ none := fun h => tow_either hI hJ hs (by have := (farl_bd hI ys).1; omega)
  have hz : f = 0 → xs = ys := fun e => (farl_none hI hJ).1 (hf.trans e)
  clear hs hrs hcs
  cases h1 : towL xs ys W n with
  | some sw =>
    obtain ⟨A, B, C, D⟩ := sw
    go_wp2_with fail
    refine (tow_yes_i hI hJ h1 _ _ _ _ _ p.out q.out).mono ?_
    rintro e w5 ⟨rfl, hb⟩
    have szw5 := hb.size
    replace p0 := kept hb (block_lt p0) p0
    replace p1 := kept hb (block_lt p1) p1
    replace q0 := kept hb (block_lt q0) q0
    replace q1 := kept hb (block_lt q1) q1
    replace p := Lib.hid (p.out.bel hb)
    replace q := Lib.hid (q.out.bel hb)
    replace bb := Lib.hid (bb.out.trans (hb.mono bb.out.size))
    clear hb
    have hbx : Below w5.heap.size w5 (w5.alloc (.cells #[.int .i64 A, .int .i64 B, .int .i64 C, .int .i64 D] 37)) := (Below.refl _ _).alloc (Nat.le_refl _) _
    replace p0 := kept hbx (block_lt p0) p0
    replace p1 := kept hbx (block_lt p1) p1
    replace q0 := kept hbx (block_lt q0) q0
    replace q1 := kept hbx (block_lt q1) q1
    replace p := Lib.hid (p.out.bel hbx)
    replace q := Lib.hid (q.out.bel hbx)
    replace bb := Lib.hid (bb.out.trans (hbx.mono bb.out.size))
    clear hbx
    have u0 : (w5.alloc (.cells #[.int .i64 A, .int .i64 B, .int .i64 C, .int .i64 D] 37)).cell? ⟨w5.heap.size, 0, none⟩ = some (.int .i64 A) := by simp
    have u1 : (w5.alloc (.cells #[.int .i64 A, .int .i64 B, .int .i64 C, .int .i64 D] 37)).cell? ⟨w5.heap.size, 1, none⟩ = some (.int .i64 B) := by simp
    have u2 : (w5.alloc (.cells #[.int .i64 A, .int .i64 B, .int .i64 C, .int .i64 D] 37)).cell? ⟨w5.heap.size, 2, none⟩ = some (.int .i64 C) := by simp
    have u3 : (w5.alloc (.cells #[.int .i64 A, .int .i64 B, .int .i64 C, .int .i64 D] 37)).cell? ⟨w5.heap.size, 3, none⟩ = some (.int .i64 D) := by simp
    cases h2 : towL ys xs W n with
    | some sw =>
      obtain ⟨A2, B2, C2, D2⟩ := sw
      go_wp2_with fail
      refine (tow_yes_i hJ hI h2 _ _ _ _ _ q.out p.out).mono ?_
      rintro e w6 ⟨rfl, hb⟩
      have szw6 : w5.heap.size + 1 ≤ w6.heap.size := by have := hb.size; simpa using this
      replace p0 := kept hb (block_lt p0) p0
      replace p1 := kept hb (block_lt p1) p1
      replace q0 := kept hb (block_lt q0) q0
      replace q1 := kept hb (block_lt q1) q1
      replace u0 := kept hb (block_lt u0) u0
      replace u1 := kept hb (block_lt u1) u1
      replace u2 := kept hb (block_lt u2) u2
      replace u3 := kept hb (block_lt u3) u3
      replace p := Lib.hid (p.out.bel hb)
      replace q := Lib.hid (q.out.bel hb)
      replace bb := Lib.hid (bb.out.trans (hb.mono bb.out.size))
      clear hb
      have hbx : Below w6.heap.size w6 (w6.alloc (.cells #[.int .i64 A2, .int .i64 B2, .int .i64 C2, .int .i64 D2] 37)) := (Below.refl _ _).alloc (Nat.le_refl _) _
      replace p0 := kept hbx (block_lt p0) p0
      replace p1 := kept hbx (block_lt p1) p1
      replace q0 := kept hbx (block_lt q0) q0
      replace q1 := kept hbx (block_lt q1) q1
      replace u0 := kept hbx (block_lt u0) u0
      replace u1 := kept hbx (block_lt u1) u1
      replace u2 := kept hbx (block_lt u2) u2
      replace u3 := kept hbx (block_lt u3) u3
      replace p := Lib.hid (p.out.bel hbx)
      replace q := Lib.hid (q.out.bel hbx)
      replace bb := Lib.hid (bb.out.trans (hbx.mono bb.out.size))
      clear hbx
      have v0 : (w6.alloc (.cells #[.int .i64 A2, .int .i64 B2, .int .i64 C2, .int .i64 D2] 37)).cell? ⟨w6.heap.size, 0, none⟩ = some (.int .i64 A2) := by simp
      have v1 : (w6.alloc (.cells #[.int .i64 A2, .int .i64 B2, .int .i64 C2, .int .i64 D2] 37)).cell? ⟨w6.heap.size, 1, none⟩ = some (.int .i64 B2) := by simp
      have v2 : (w6.alloc (.cells #[.int .i64 A2, .int .i64 B2, .int .i64 C2, .int .i64 D2] 37)).cell? ⟨w6.heap.size, 2, none⟩ = some (.int .i64 C2) := by simp
      have v3 : (w6.alloc (.cells #[.int .i64 A2, .int .i64 B2, .int .i64 C2, .int .i64 D2] 37)).cell? ⟨w6.heap.size, 3, none⟩ = some (.int .i64 D2) := by simp
      go_wp2_with fail
      go_ret
      exact ⟨rfl, bb.out⟩
    | none =>
      go_wp2_with fail
      refine (tow_no_i hJ hI h2 _ _ _ _ _ q.out p.out).mono ?_
      rintro e w7 ⟨rfl, hb⟩
      have szw7 : w5.heap.size + 1 ≤ w7.heap.size := by have := hb.size; simpa using this
      replace p0 := kept hb (block_lt p0) p0
      replace p1 := kept hb (block_lt p1) p1
      replace q0 := kept hb (block_lt q0) q0
      replace q1 := kept hb (block_lt q1) q1
      replace u0 := kept hb (block_lt u0) u0
      replace u1 := kept hb (block_lt u1) u1
      replace u2 := kept hb (block_lt u2) u2
      replace u3 := kept hb (block_lt u3) u3
      replace p := Lib.hid (p.out.bel hb)
      replace q := Lib.hid (q.out.bel hb)
      replace bb := Lib.hid (bb.out.trans (hb.mono bb.out.size))
      clear hb
      have hbx : Below w7.heap.size w7 (w7.alloc (.cells #[.int .i64 0, .int .i64 0, .int .i64 0, .int .i64 0] 37)) := (Below.refl _ _).alloc (Nat.le_refl _) _
      replace p0 := kept hbx (block_lt p0) p0
      replace p1 := kept hbx (block_lt p1) p1
      replace q0 := kept hbx (block_lt q0) q0
      replace q1 := kept hbx (block_lt q1) q1
      replace u0 := kept hbx (block_lt u0) u0
      replace u1 := kept hbx (block_lt u1) u1
      replace u2 := kept hbx (block_lt u2) u2
      replace u3 := kept hbx (block_lt u3) u3
      replace p := Lib.hid (p.out.bel hbx)
      replace q := Lib.hid (q.out.bel hbx)
      replace bb := Lib.hid (bb.out.trans (hbx.mono bb.out.size))
      clear hbx
      have v0 : (w7.alloc (.cells #[.int .i64 0, .int .i64 0, .int .i64 0, .int .i64 0] 37)).cell? ⟨w7.heap.size, 0, none⟩ = some (.int .i64 0) := by simp
      have v1 : (w7.alloc (.cells #[.int .i64 0, .int .i64 0, .int .i64 0, .int .i64 0] 37)).cell? ⟨w7.heap.size, 1, none⟩ = some (.int .i64 0) := by simp
      have v2 : (w7.alloc (.cells #[.int .i64 0, .int .i64 0, .int .i64 0, .int .i64 0] 37)).cell? ⟨w7.heap.size, 2, none⟩ = some (.int .i64 0) := by simp
      have v3 : (w7.alloc (.cells #[.int .i64 0, .int .i64 0, .int .i64 0, .int .i64 0] 37)).cell? ⟨w7.heap.size, 3, none⟩ = some (.int .i64 0) := by simp
      go_wp2_with fail
      go_ret
      exact ⟨rfl, bb.out⟩
  | none =>
    go_wp2_with fail
    refine (tow_no_i hI hJ h1 _ _ _ _ _ p.out q.out).mono ?_
    rintro e w8 ⟨rfl, hb⟩
    have szw8 := hb.size
    replace p0 := kept hb (block_lt p0) p0
    replace p1 := kept hb (block_lt p1) p1
    replace q0 := kept hb (block_lt q0) q0
    replace q1 := kept hb (block_lt q1) q1
    replace p := Lib.hid (p.out.bel hb)
    replace q := Lib.hid (q.out.bel hb)
    replace bb := Lib.hid (bb.out.trans (hb.mono bb.out.size))
    clear hb
    have hbx : Below w8.heap.size w8 (w8.alloc (.cells #[.int .i64 0, .int .i64 0, .int .i64 0, .int .i64 0] 37)) := (Below.refl _ _).alloc (Nat.le_refl _) _
    replace p0 := kept hbx (block_lt p0) p0
    replace p1 := kept hbx (block_lt p1) p1
    replace q0 := kept hbx (block_lt q0) q0
    replace q1 := kept hbx (block_lt q1) q1
    replace p := Lib.hid (p.out.bel hbx)
    replace q := Lib.hid (q.out.bel hbx)
    replace bb := Lib.hid (bb.out.trans (hbx.mono bb.out.size))
    clear hbx
    have u0 : (w8.alloc (.cells #[.int .i64 0, .int .i64 0, .int .i64 0, .int .i64 0] 37)).cell? ⟨w8.heap.size, 0, none⟩ = some (.int .i64 0) := by simp
    have u1 : (w8.alloc (.cells #[.int .i64 0, .int .i64 0, .int .i64 0, .int .i64 0] 37)).cell? ⟨w8.heap.size, 1, none⟩ = some (.int .i64 0) := by simp
    have u2 : (w8.alloc (.cells #[.int .i64 0, .int .i64 0, .int .i64 0, .int .i64 0] 37)).cell? ⟨w8.heap.size, 2, none⟩ = some (.int .i64 0) := by simp
    have u3 : (w8.alloc (.cells #[.int .i64 0, .int .i64 0, .int .i64 0, .int .i64 0] 37)).cell? ⟨w8.heap.size, 3, none⟩ = some (.int .i64 0) := by simp
    cases h2 : towL ys xs W n with
    | some sw =>
      obtain ⟨A2, B2, C2, D2⟩ := sw
      go_wp2_with fail
      refine (tow_yes_i hJ hI h2 _ _ _ _ _ q.out p.out).mono ?_
      rintro e w9 ⟨rfl, hb⟩
      have szw9 : w8.heap.size + 1 ≤ w9.heap.size := by have := hb.size; simpa using this
      replace p0 := kept hb (block_lt p0) p0
      replace p1 := kept hb (block_lt p1) p1
      replace q0 := kept hb (block_lt q0) q0
      replace q1 := kept hb (block_lt q1) q1
      replace u0 := kept hb (block_lt u0) u0
      replace u1 := kept hb (block_lt u1) u1
      replace u2 := kept hb (block_lt u2) u2
      replace u3 := kept hb (block_lt u3) u3
      replace p := Lib.hid (p.out.bel hb)
      replace q := Lib.hid (q.out.bel hb)
      replace bb := Lib.hid (bb.out.trans (hb.mono bb.out.size))
      clear hb
      have hbx : Below w9.heap.size w9 (w9.alloc (.cells #[.int .i64 A2, .int .i64 B2, .int .i64 C2, .int .i64 D2] 37)) := (Below.refl _ _).alloc (Nat.le_refl _) _
      replace p0 := kept hbx (block_lt p0) p0
      replace p1 := kept hbx (block_lt p1) p1
      replace q0 := kept hbx (block_lt q0) q0
      replace q1 := kept hbx (block_lt q1) q1
      replace u0 := kept hbx (block_lt u0) u0
      replace u1 := kept hbx (block_lt u1) u1
      replace u2 := kept hbx (block_lt u2) u2
      replace u3 := kept hbx (block_lt u3) u3
      replace p := Lib.hid (p.out.bel hbx)
      replace q := Lib.hid (q.out.bel hbx)
      replace bb := Lib.hid (bb.out.trans (hbx.mono bb.out.size))
      clear hbx
      have v0 : (w9.alloc (.cells #[.int .i64 A2, .int .i64 B2, .int .i64 C2, .int .i64 D2] 37)).cell? ⟨w9.heap.size, 0, none⟩ = some (.int .i64 A2) := by simp
      have v1 : (w9.alloc (.cells #[.int .i64 A2, .int .i64 B2, .int .i64 C2, .int .i64 D2] 37)).cell? ⟨w9.heap.size, 1, none⟩ = some (.int .i64 B2) := by simp
      have v2 : (w9.alloc (.cells #[.int .i64 A2, .int .i64 B2, .int .i64 C2, .int .i64 D2] 37)).cell? ⟨w9.heap.size, 2, none⟩ = some (.int .i64 C2) := by simp
      have v3 : (w9.alloc (.cells #[.int .i64 A2, .int .i64 B2, .int .i64 C2, .int .i64 D2] 37)).cell? ⟨w9.heap.size, 3, none⟩ = some (.int .i64 D2) := by simp
      go_wp2_with fail
      go_ret
      exact ⟨rfl, bb.out⟩
    | none =>
      go_wp2_with fail
      refine (tow_no_i hJ hI h2 _ _ _ _ _ q.out p.out).mono ?_
      rintro e w10 ⟨rfl, hb⟩
      have szw10 : w8.heap.size + 1 ≤ w10.heap.size := by have := hb.size; simpa using this
      replace p0 := kept hb (block_lt p0) p0
      replace p1 := kept hb (block_lt p1) p1
      replace q0 := kept hb (block_lt q0) q0
      replace q1 := kept hb (block_lt q1) q1
      replace u0 := kept hb (block_lt u0) u0
      replace u1 := kept hb (block_lt u1) u1
      replace u2 := kept hb (block_lt u2) u2
      replace u3 := kept hb (block_lt u3) u3
      replace p := Lib.hid (p.out.bel hb)
      replace q := Lib.hid (q.out.bel hb)
      replace bb := Lib.hid (bb.out.trans (hb.mono bb.out.size))
      clear hb
      have hbx : Below w10.heap.size w10 (w10.alloc (.cells #[.int .i64 0, .int .i64 0, .int .i64 0, .int .i64 0] 37)) := (Below.refl _ _).alloc (Nat.le_refl _) _
      replace p0 := kept hbx (block_lt p0) p0
      replace p1 := kept hbx (block_lt p1) p1
      replace q0 := kept hbx (block_lt q0) q0
      replace q1 := kept hbx (block_lt q1) q1
      replace u0 := kept hbx (block_lt u0) u0
      replace u1 := kept hbx (block_lt u1) u1
      replace u2 := kept hbx (block_lt u2) u2
      replace u3 := kept hbx (block_lt u3) u3
      replace p := Lib.hid (p.out.bel hbx)
      replace q := Lib.hid (q.out.bel hbx)
      replace bb := Lib.hid (bb.out.trans (hbx.mono bb.out.size))
      clear hbx
      have v0 : (w10.alloc (.cells #[.int .i64 0, .int .i64 0, .int .i64 0, .int .i64 0] 37)).cell? ⟨w10.heap.size, 0, none⟩ = some (.int .i64 0) := by simp
      have v1 : (w10.alloc (.cells #[.int .i64 0, .int .i64 0, .int .i64 0, .int .i64 0] 37)).cell? ⟨w10.heap.size, 1, none⟩ = some (.int .i64 0) := by simp
      have v2 : (w10.alloc (.cells #[.int .i64 0, .int .i64 0, .int .i64 0, .int .i64 0] 37)).cell? ⟨w10.heap.size, 2, none⟩ = some (.int .i64 0) := by simp
      have v3 : (w10.alloc (.cells #[.int .i64 0, .int .i64 0, .int .i64 0, .int .i64 0] 37)).cell? ⟨w10.heap.size, 3, none⟩ = some (.int .i64 0) := by simp
      have e0 : f = 0 := Classical.byContradiction fun h => (hei h).elim (fun h => h h1) (fun h => h h2)
      have exy := hz e0
      subst exy
      go_wp2_with fail
      refine (sameImage_yes _ _ _ _ _ _ xs _ p.out q.out (by omega)).mono ?_
      rintro e w11 ⟨rfl, hb⟩
      have szw11 : w10.heap.size + 1 ≤ w11.heap.size := by have := hb.size; simpa using this
      replace p0 := kept hb (block_lt p0) p0
      replace p1 := kept hb (block_lt p1) p1
      replace q0 := kept hb (block_lt q0) q0
      replace q1 := kept hb (block_lt q1) q1
      replace u0 := kept hb (block_lt u0) u0
      replace u1 := kept hb (block_lt u1) u1
      replace u2 := kept hb (block_lt u2) u2
      replace u3 := kept hb (block_lt u3) u3
      replace v0 := kept hb (block_lt v0) v0
      replace v1 := kept hb (block_lt v1) v1
      replace v2 := kept hb (block_lt v2) v2
      replace v3 := kept hb (block_lt v3) v3
      replace p := Lib.hid (p.out.bel hb)
      replace q := Lib.hid (q.out.bel hb)
      replace bb := Lib.hid (bb.out.trans (hb.mono bb.out.size))
      clear hb
      go_wp2_with fail
      go_ret
      exact ⟨rfl, bb.out⟩

set_option maxRecDepth 100000 in
theorem lifted (os : Os) (started : os.Started) (H : Type) (enc : TypeId × Value → H) :
    ReturnsInHanded {} Try.checked os 8 .any (Rows.fnTowardEitherSpec.pre6 enc Try.prog Try.f8 Rows.fnTowardEitherRow.domain false) (Rows.fnTowardEitherSpec.post enc Try.prog Try.f8 false true false false) := by
  refine returnsInHanded_of_change (C := Try.checked) own started (by kernel_rfl) Try.func8
    (ChangeSpec.witness6 (enc := enc) (C := Try.checked) false ⟨#[], #[.slice none 0 0], []⟩ 8 (by kernel_rfl) (by kernel_rfl) (by kernel_rfl) (by kernel_rfl)) ?_
  intro W base args ds gs before hval0 hW hcnd _
  have hval : ∀ (j : Nat) t v, Try.f8.params[j]? = some t → args[j]? = some v → Value.okWide Try.prog W .any base t v := hval0
  have hW' := hW
  obtain ⟨p, q, hA0, hV, rfl, hfz, hnd⟩ := hW
  have hA : DataW.TrodAll enc Try.prog W 0 (fun _ => true) true Try.f8.params.toList args.toList ds p := hA0
  rw [Try.params8] at hA hval
  obtain ⟨v0, vs0, d0, ds0, p0, q0, hargs, rfl, rfl, h0, r0⟩ := trodAll_cons hA
  obtain ⟨rfl, rfl, rfl⟩ := trodAll_nil r0
  obtain rfl : args = #[v0] := by cases args; simp_all
  obtain ⟨rfl, rfl⟩ := trodVars_none hV
  have k0 := h0
  have lt0 : ∀ x ∈ p0, x.block < W.heap.size := by obtain ⟨m, hm⟩ := k0; exact DataW.trod_lt m _ _ _ hm
  obtain ⟨a0, len0, cap0, z0, rfl, w0, l0, m0⟩ := open_code (hval 0 22 v0 rfl rfl) h0
  clear hA0 hval0
  refine (walk a0 len0 cap0 z0 W w0 l0 m0).mono fun e W' ⟨he, bel⟩ => ?_
  subst he
  exact ⟨_, rfl, _, _, _, [], _, [], hW', trodAll_mk1 (shut_bool Try.underlying4 _), (trodAll_cons_mk (Below.trod laidOut (by kernel_rfl) (of_decide_eq_true (by kernel_rfl)) k0 bel lt0) trodAll_mk0), rfl, bel.frame _, fun h => by cases h⟩

theorem closed : joinedFacts Try.prog 8 Try.f8 Rows.fnTowardEitherSpec Rows.fnTowardEitherRow = true := by
  simp only [joinedFacts, Bool.and_eq_true]
  repeat' apply And.intro
  all_goals first | with_reducible exact mayEnterOk | (with_reducible rw [liftsFinalOk]; kernel_rfl) | (with_reducible rw [makeOk]; kernel_rfl) | kernel_rfl

theorem over : Rows.fnTowardEitherRow.holds Try.pinned (OpenSpec.ofChange Rows.fnTowardEitherSpec) :=
  OpenClaim.holds_of_wide 8 Try.f8 rfl rfl rfl rfl rfl rfl rfl ⟨rfl, rfl, rfl, rfl, rfl⟩ rfl rfl rfl rfl rfl (by kernel_rfl) Try.func8 closed
    (of_decide_eq_true (by kernel_rfl)) (by unfold Func.isWrapper; first | (rw [if_pos (by decide +kernel)]; kernel_rfl) | (rw [if_neg (by decide +kernel)]; exact ⟨rfl, rfl⟩))
    (fun os started H enc _ => lifted os started H enc)

theorem proved : Rows.FnTowardEitherSaid := over
#print axioms proved
end Go.Proofs.Ytgamkmkpmcenpaa.LFTowardEither

