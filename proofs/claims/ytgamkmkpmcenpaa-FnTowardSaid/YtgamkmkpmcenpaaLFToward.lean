/-
  For every slice of bytes the law FnToward answers true: a switch that helps comes closer by two or four cells; nothing that was there is written; no condition.
-/
import Derived.Test.YtgamkmkpmcenpaaO
import Derived.Test.YtgamkmkpmcenpaaK
import Derived.Deep.RegionLaw
import Derived.Test.YtgamkmkpmcenpaaWg
namespace Go.Proofs.Ytgamkmkpmcenpaa.LFToward
open Go.ChangeShapes Go.WideShapes Go.ChangeAt Go.RowKit Go.Joins

set_option maxHeartbeats 2000000 in
set_option maxRecDepth 100000 in
theorem walk (a : Option Addr) (len cap : Nat) (zs : List Int) (w : World) (h : Bys w a len zs) (hl : len ≤ cap) (hm : cap ≤ 9223372036854775807) :
    Calls Try.prog 6 #[.slice a len cap] w fun e w' => e = .returned (.bool true) ∧ Below w.heap.size w w' := by
  by_cases hbig : 1048576 < len
  · clear h
    go_enter Try.func6, Try.ntmps6
    go_wp2_with fail
    go_ret
    exact ⟨rfl, Below.refl _ _⟩
  go_enter Try.func6, Try.ntmps6
  go_wp2_with fail
  refine (draw_DrawSwitchToward a len cap zs _ h hl hm).mono ?_
  rintro e w1 ⟨V, s, n, cg, xs, V2, t, m, ch, ys, rfl, hX, hY, hnm, hb1⟩
  clear h hl hm
  have bb := Lib.hid hb1
  have p := Lib.hid hX
  have q := Lib.hid hY
  obtain ⟨w2, hw2⟩ : ∃ w2, w2 = (w1.alloc (.cells #[.int .i64 V, .slice s n cg] 25)).alloc (.cells #[.int .i64 V2, .slice t m ch] 25) := ⟨_, rfl⟩
  have hb : Below w1.heap.size w1 w2 := by subst hw2; exact ((Below.refl _ _).alloc (Nat.le_refl _) _).alloc (by simp) _
  have p0 : w2.cell? ⟨w1.heap.size, 0, none⟩ = some (.int .i64 V) := by subst hw2; go_simp
  have p1 : w2.cell? ⟨w1.heap.size, 1, none⟩ = some (.slice s n cg) := by subst hw2; go_simp
  have q0 : w2.cell? ⟨w1.heap.size + 1, 0, none⟩ = some (.int .i64 V2) := by subst hw2; go_simp
  have q1 : w2.cell? ⟨w1.heap.size + 1, 1, none⟩ = some (.slice t m ch) := by subst hw2; go_simp
  clear hX hY hb1
  have szw2 := hb.size
  replace p := Lib.hid (p.out.bel hb)
  replace q := Lib.hid (q.out.bel hb)
  replace bb := Lib.hid (bb.out.trans (hb.mono bb.out.size))
  clear hb
  go_wp2_with fail
  rw [← hw2]
  clear hw2
  cases hT : towOut V xs V2 ys with
  | none =>
    refine (tow_noi hT (by omega) (by omega) _ _ _ _ _ p.out q.out).mono ?_
    rintro e w3 ⟨rfl, hb⟩
    have szw3 := hb.size
    replace p0 := kept hb (block_lt p0) p0
    replace p1 := kept hb (block_lt p1) p1
    replace q0 := kept hb (block_lt q0) q0
    replace q1 := kept hb (block_lt q1) q1
    replace p := Lib.hid (p.out.bel hb)
    replace q := Lib.hid (q.out.bel hb)
    replace bb := Lib.hid (bb.out.trans (hb.mono bb.out.size))
    clear hb
    have hbx : Below w3.heap.size w3 (w3.alloc (.cells #[.int .i64 0, .int .i64 0, .int .i64 0, .int .i64 0] 37)) := (Below.refl _ _).alloc (Nat.le_refl _) _
    replace p0 := kept hbx (block_lt p0) p0
    replace p1 := kept hbx (block_lt p1) p1
    replace q0 := kept hbx (block_lt q0) q0
    replace q1 := kept hbx (block_lt q1) q1
    replace p := Lib.hid (p.out.bel hbx)
    replace q := Lib.hid (q.out.bel hbx)
    replace bb := Lib.hid (bb.out.trans (hbx.mono bb.out.size))
    clear hbx
    have o0 : (w3.alloc (.cells #[.int .i64 0, .int .i64 0, .int .i64 0, .int .i64 0] 37)).cell? ⟨w3.heap.size, 0, none⟩ = some (.int .i64 0) := by simp
    have o1 : (w3.alloc (.cells #[.int .i64 0, .int .i64 0, .int .i64 0, .int .i64 0] 37)).cell? ⟨w3.heap.size, 1, none⟩ = some (.int .i64 0) := by simp
    have o2 : (w3.alloc (.cells #[.int .i64 0, .int .i64 0, .int .i64 0, .int .i64 0] 37)).cell? ⟨w3.heap.size, 2, none⟩ = some (.int .i64 0) := by simp
    have o3 : (w3.alloc (.cells #[.int .i64 0, .int .i64 0, .int .i64 0, .int .i64 0] 37)).cell? ⟨w3.heap.size, 3, none⟩ = some (.int .i64 0) := by simp
    go_wp2_with fail
    refine (tow_nos hT (by omega) (by omega) _ _ _ _ _ p.out q.out).mono ?_
    rintro e w4 ⟨rfl, hb⟩
    have szw4 : w3.heap.size + 1 ≤ w4.heap.size := by have := hb.size; simpa using this
    replace p0 := kept hb (block_lt p0) p0
    replace p1 := kept hb (block_lt p1) p1
    replace q0 := kept hb (block_lt q0) q0
    replace q1 := kept hb (block_lt q1) q1
    replace o0 := kept hb (block_lt o0) o0
    replace o1 := kept hb (block_lt o1) o1
    replace o2 := kept hb (block_lt o2) o2
    replace o3 := kept hb (block_lt o3) o3
    replace p := Lib.hid (p.out.bel hb)
    replace q := Lib.hid (q.out.bel hb)
    replace bb := Lib.hid (bb.out.trans (hb.mono bb.out.size))
    clear hb
    have hbx : Below w4.heap.size w4 (w4.alloc (.cells #[.int .i64 0, .int .i64 0, .int .i64 0, .int .i64 0] 37)) := (Below.refl _ _).alloc (Nat.le_refl _) _
    replace p0 := kept hbx (block_lt p0) p0
    replace p1 := kept hbx (block_lt p1) p1
    replace q0 := kept hbx (block_lt q0) q0
    replace q1 := kept hbx (block_lt q1) q1
    replace o0 := kept hbx (block_lt o0) o0
    replace o1 := kept hbx (block_lt o1) o1
    replace o2 := kept hbx (block_lt o2) o2
    replace o3 := kept hbx (block_lt o3) o3
    replace p := Lib.hid (p.out.bel hbx)
    replace q := Lib.hid (q.out.bel hbx)
    replace bb := Lib.hid (bb.out.trans (hbx.mono bb.out.size))
    clear hbx
    have ow0 : (w4.alloc (.cells #[.int .i64 0, .int .i64 0, .int .i64 0, .int .i64 0] 37)).cell? ⟨w4.heap.size, 0, none⟩ = some (.int .i64 0) := by simp
    have ow1 : (w4.alloc (.cells #[.int .i64 0, .int .i64 0, .int .i64 0, .int .i64 0] 37)).cell? ⟨w4.heap.size, 1, none⟩ = some (.int .i64 0) := by simp
    have ow2 : (w4.alloc (.cells #[.int .i64 0, .int .i64 0, .int .i64 0, .int .i64 0] 37)).cell? ⟨w4.heap.size, 2, none⟩ = some (.int .i64 0) := by simp
    have ow3 : (w4.alloc (.cells #[.int .i64 0, .int .i64 0, .int .i64 0, .int .i64 0] 37)).cell? ⟨w4.heap.size, 3, none⟩ = some (.int .i64 0) := by simp
    go_wp2_with fail
    go_ret
    exact ⟨rfl, bb.out⟩
  | some sw =>
    obtain ⟨A, B, C, D⟩ := sw
    obtain ⟨W, rfl, rfl, rfl, hI, hJ, ht⟩ := towOut_im p.out.1 q.out.1 hT
    have hW6 := hI.w6
    have hW1 := hI.w1
    have hn1 := hI.l1
    have hn6 := hI.l6
    clear hT
    refine (tow_yes_i hI hJ ht _ _ _ _ _ p.out q.out).mono ?_
    rintro e w5 ⟨rfl, hb⟩
    have szw5 := hb.size
    replace p0 := kept hb (block_lt p0) p0
    replace p1 := kept hb (block_lt p1) p1
    replace q0 := kept hb (block_lt q0) q0
    replace q1 := kept hb (block_lt q1) q1
    replace p := Lib.hid (p.out.bel hb)
    replace q := Lib.hid (q.out.bel hb)
    replace bb := Lib.hid (bb.out.trans (hb.mono bb.out.size))
    clear hb
    have hbx : Below w5.heap.size w5 (w5.alloc (.cells #[.int .i64 A, .int .i64 B, .int .i64 C, .int .i64 D] 37)) := (Below.refl _ _).alloc (Nat.le_refl _) _
    replace p0 := kept hbx (block_lt p0) p0
    replace p1 := kept hbx (block_lt p1) p1
    replace q0 := kept hbx (block_lt q0) q0
    replace q1 := kept hbx (block_lt q1) q1
    replace p := Lib.hid (p.out.bel hbx)
    replace q := Lib.hid (q.out.bel hbx)
    replace bb := Lib.hid (bb.out.trans (hbx.mono bb.out.size))
    clear hbx
    have o0 : (w5.alloc (.cells #[.int .i64 A, .int .i64 B, .int .i64 C, .int .i64 D] 37)).cell? ⟨w5.heap.size, 0, none⟩ = some (.int .i64 A) := by simp
    have o1 : (w5.alloc (.cells #[.int .i64 A, .int .i64 B, .int .i64 C, .int .i64 D] 37)).cell? ⟨w5.heap.size, 1, none⟩ = some (.int .i64 B) := by simp
    have o2 : (w5.alloc (.cells #[.int .i64 A, .int .i64 B, .int .i64 C, .int .i64 D] 37)).cell? ⟨w5.heap.size, 2, none⟩ = some (.int .i64 C) := by simp
    have o3 : (w5.alloc (.cells #[.int .i64 A, .int .i64 B, .int .i64 C, .int .i64 D] 37)).cell? ⟨w5.heap.size, 3, none⟩ = some (.int .i64 D) := by simp
    go_wp2_with fail
    refine (tow_yes_s hI hJ ht _ _ _ _ _ p.out q.out).mono ?_
    rintro e w6 ⟨rfl, hb⟩
    have szw6 : w5.heap.size + 1 ≤ w6.heap.size := by have := hb.size; simpa using this
    replace p0 := kept hb (block_lt p0) p0
    replace p1 := kept hb (block_lt p1) p1
    replace q0 := kept hb (block_lt q0) q0
    replace q1 := kept hb (block_lt q1) q1
    replace o0 := kept hb (block_lt o0) o0
    replace o1 := kept hb (block_lt o1) o1
    replace o2 := kept hb (block_lt o2) o2
    replace o3 := kept hb (block_lt o3) o3
    replace p := Lib.hid (p.out.bel hb)
    replace q := Lib.hid (q.out.bel hb)
    replace bb := Lib.hid (bb.out.trans (hb.mono bb.out.size))
    clear hb
    have hbx : Below w6.heap.size w6 (w6.alloc (.cells #[.int .i64 A, .int .i64 B, .int .i64 C, .int .i64 D] 37)) := (Below.refl _ _).alloc (Nat.le_refl _) _
    replace p0 := kept hbx (block_lt p0) p0
    replace p1 := kept hbx (block_lt p1) p1
    replace q0 := kept hbx (block_lt q0) q0
    replace q1 := kept hbx (block_lt q1) q1
    replace o0 := kept hbx (block_lt o0) o0
    replace o1 := kept hbx (block_lt o1) o1
    replace o2 := kept hbx (block_lt o2) o2
    replace o3 := kept hbx (block_lt o3) o3
    replace p := Lib.hid (p.out.bel hbx)
    replace q := Lib.hid (q.out.bel hbx)
    replace bb := Lib.hid (bb.out.trans (hbx.mono bb.out.size))
    clear hbx
    have ow0 : (w6.alloc (.cells #[.int .i64 A, .int .i64 B, .int .i64 C, .int .i64 D] 37)).cell? ⟨w6.heap.size, 0, none⟩ = some (.int .i64 A) := by simp
    have ow1 : (w6.alloc (.cells #[.int .i64 A, .int .i64 B, .int .i64 C, .int .i64 D] 37)).cell? ⟨w6.heap.size, 1, none⟩ = some (.int .i64 B) := by simp
    have ow2 : (w6.alloc (.cells #[.int .i64 A, .int .i64 B, .int .i64 C, .int .i64 D] 37)).cell? ⟨w6.heap.size, 2, none⟩ = some (.int .i64 C) := by simp
    have ow3 : (w6.alloc (.cells #[.int .i64 A, .int .i64 B, .int .i64 C, .int .i64 D] 37)).cell? ⟨w6.heap.size, 3, none⟩ = some (.int .i64 D) := by simp
    have hg := tow_gain hI ht
    have hok := Lib.hid (tow_ok hI ht)
    obtain ⟨L, hL⟩ : ∃ L, flL xs W n A B C D = L := ⟨_, rfl⟩
    have hJL : Im W n L := hL ▸ fl_im hI A B C D
    obtain ⟨f0, h0⟩ : ∃ f0, farL xs ys W n = f0 := ⟨_, rfl⟩
    obtain ⟨f1, h1⟩ : ∃ f1, farL L ys W n = f1 := ⟨_, rfl⟩
    have b0 := farl_bd hI ys
    have b1 := farl_bd hJL ys
    rw [h0] at b0
    rw [h1] at b1
    have hg2 : f0 - f1 = 2 ∨ f0 - f1 = 4 := by
      have e : flS xs W n (A, B, C, D) = L := hL
      rw [e, h0, h1] at hg; exact hg
    replace hL := Lib.hid hL
    replace hI := Lib.hid hI
    replace hJ := Lib.hid hJ
    replace hJL := Lib.hid hJL
    replace h0 := Lib.hid h0
    replace h1 := Lib.hid h1
    replace hg2 := Lib.hid hg2
    have ws : IntKind.i64.wrap (f0 - f1) = f0 - f1 := IntWalk.i64_in _ ⟨by omega, by omega⟩
    clear hg ht
    go_wp2_with fail
    refine (do_ok hI.out hok.out hL.out _ _ _ p.out).mono ?_
    rintro e w7 ⟨⟨ax, cx, rfl, ho⟩, hb⟩
    have x := Lib.hid ho.row
    have szw7 : w6.heap.size + 1 ≤ w7.heap.size := by have := hb.size; simpa using this
    replace p0 := kept hb (block_lt p0) p0
    replace p1 := kept hb (block_lt p1) p1
    replace q0 := kept hb (block_lt q0) q0
    replace q1 := kept hb (block_lt q1) q1
    replace o0 := kept hb (block_lt o0) o0
    replace o1 := kept hb (block_lt o1) o1
    replace o2 := kept hb (block_lt o2) o2
    replace o3 := kept hb (block_lt o3) o3
    replace ow0 := kept hb (block_lt ow0) ow0
    replace ow1 := kept hb (block_lt ow1) ow1
    replace ow2 := kept hb (block_lt ow2) ow2
    replace ow3 := kept hb (block_lt ow3) ow3
    replace p := Lib.hid (p.out.bel hb)
    replace q := Lib.hid (q.out.bel hb)
    replace bb := Lib.hid (bb.out.trans (hb.mono bb.out.size))
    clear hb
    clear ho
    have hbx : Below w7.heap.size w7 (w7.alloc (.cells #[.int .i64 W, .slice ax n cx] 25)) := (Below.refl _ _).alloc (Nat.le_refl _) _
    replace p0 := kept hbx (block_lt p0) p0
    replace p1 := kept hbx (block_lt p1) p1
    replace q0 := kept hbx (block_lt q0) q0
    replace q1 := kept hbx (block_lt q1) q1
    replace o0 := kept hbx (block_lt o0) o0
    replace o1 := kept hbx (block_lt o1) o1
    replace o2 := kept hbx (block_lt o2) o2
    replace o3 := kept hbx (block_lt o3) o3
    replace ow0 := kept hbx (block_lt ow0) ow0
    replace ow1 := kept hbx (block_lt ow1) ow1
    replace ow2 := kept hbx (block_lt ow2) ow2
    replace ow3 := kept hbx (block_lt ow3) ow3
    replace p := Lib.hid (p.out.bel hbx)
    replace q := Lib.hid (q.out.bel hbx)
    replace x := Lib.hid (x.out.bel hbx)
    replace bb := Lib.hid (bb.out.trans (hbx.mono bb.out.size))
    clear hbx
    have x0 : (w7.alloc (.cells #[.int .i64 W, .slice ax n cx] 25)).cell? ⟨w7.heap.size, 0, none⟩ = some (.int .i64 W) := by simp
    have x1 : (w7.alloc (.cells #[.int .i64 W, .slice ax n cx] 25)).cell? ⟨w7.heap.size, 1, none⟩ = some (.slice ax n cx) := by simp
    go_wp2_with fail
    obtain ⟨w8, hwn⟩ : ∃ w8, w7.alloc (.cells #[.int .i64 W, .slice ax n cx] 25) = w8 := ⟨_, rfl⟩
    have szw8 : w7.heap.size + 1 ≤ w8.heap.size := by rw [← hwn]; simp
    rw [hwn] at p0 p1 q0 q1 o0 o1 o2 o3 ow0 ow1 ow2 ow3 x0 x1 p q x bb ⊢
    clear hwn
    have HP := p
    have HQ := q
    have HX := x
    have g_p0 := fun p : Bw w8 => bw_cell p0 p
    have g_p1 := fun p : Bw w8 => bw_cell p1 p
    have g_q0 := fun p : Bw w8 => bw_cell q0 p
    have g_q1 := fun p : Bw w8 => bw_cell q1 p
    have g_o0 := fun p : Bw w8 => bw_cell o0 p
    have g_o1 := fun p : Bw w8 => bw_cell o1 p
    have g_o2 := fun p : Bw w8 => bw_cell o2 p
    have g_o3 := fun p : Bw w8 => bw_cell o3 p
    have g_ow0 := fun p : Bw w8 => bw_cell ow0 p
    have g_ow1 := fun p : Bw w8 => bw_cell ow1 p
    have g_ow2 := fun p : Bw w8 => bw_cell ow2 p
    have g_ow3 := fun p : Bw w8 => bw_cell ow3 p
    have g_x0 := fun p : Bw w8 => bw_cell x0 p
    have g_x1 := fun p : Bw w8 => bw_cell x1 p
    have cc0 : ∀ p : Bw w8, Calls Try.prog 23 #[.agg #[.int .i64 W, .slice s n cg], .agg #[.int .i64 W, .slice t n ch]] p.v (fun e w' => e = .returned (.int .i64 f0) ∧ ∃ q : Bw w8, w' = q.v) := fun p => bw_of (far_ok hI.out hJ.out h0.out _ _ _ _ p.v (HP.out.bel p.h) (HQ.out.bel p.h))
    replace cc0 := Lib.hid cc0
    have cc1 : ∀ p : Bw w8, Calls Try.prog 23 #[.agg #[.int .i64 W, .slice ax n cx], .agg #[.int .i64 W, .slice t n ch]] p.v (fun e w' => e = .returned (.int .i64 f1) ∧ ∃ q : Bw w8, w' = q.v) := fun p => bw_of (far_ok hJL.out hJ.out h1.out _ _ _ _ p.v (HX.out.bel p.h) (HQ.out.bel p.h))
    replace cc1 := Lib.hid cc1
    go_wp2_with fail
    refine wp_region_bw (by kernel_rfl) (by kernel_rfl) ?_
    repeat (go_big_quiet_step (first | (with_reducible exact cc0.out _) | (with_reducible exact cc1.out _)))
    refine wpQuiet_nil ?_
    intro _ hw'
    obtain ⟨pq, rfl⟩ := hw'
    have hb := pq.h
    clear g_p0 g_p1 g_q0 g_q1 g_o0 g_o1 g_o2 g_o3 g_ow0 g_ow1 g_ow2 g_ow3 g_x0 g_x1 cc0 cc1
    generalize pq.v = w9 at hb ⊢
    clear pq
    have szw9 := hb.size
    replace p0 := kept hb (block_lt p0) p0
    replace p1 := kept hb (block_lt p1) p1
    replace q0 := kept hb (block_lt q0) q0
    replace q1 := kept hb (block_lt q1) q1
    replace o0 := kept hb (block_lt o0) o0
    replace o1 := kept hb (block_lt o1) o1
    replace o2 := kept hb (block_lt o2) o2
    replace o3 := kept hb (block_lt o3) o3
    replace ow0 := kept hb (block_lt ow0) ow0
    replace ow1 := kept hb (block_lt ow1) ow1
    replace ow2 := kept hb (block_lt ow2) ow2
    replace ow3 := kept hb (block_lt ow3) ow3
    replace x0 := kept hb (block_lt x0) x0
    replace x1 := kept hb (block_lt x1) x1
    replace p := Lib.hid (p.out.bel hb)
    replace q := Lib.hid (q.out.bel hb)
    replace x := Lib.hid (x.out.bel hb)
    replace bb := Lib.hid (bb.out.trans (hb.mono bb.out.size))
    clear hb
    clear HP HQ HX
    rcases hg2.out with hg | hg
    · have e1 : (f0 - f1 == 2) = true := by rw [hg]; rfl
      have e2 : (f0 - f1 == 4) = false := by rw [hg]; rfl
      clear hg
      go_wp2_with fail
      go_ret
      exact ⟨rfl, bb.out⟩
    · have e1 : (f0 - f1 == 2) = false := by rw [hg]; rfl
      have e2 : (f0 - f1 == 4) = true := by rw [hg]; rfl
      clear hg
      go_wp2_with fail
      go_ret
      exact ⟨rfl, bb.out⟩

set_option maxRecDepth 100000 in
theorem lifted (os : Os) (started : os.Started) (H : Type) (enc : TypeId × Value → H) :
    ReturnsInHanded {} Try.checked os 6 .any (Rows.fnTowardSpec.pre6 enc Try.prog Try.f6 Rows.fnTowardRow.domain false) (Rows.fnTowardSpec.post enc Try.prog Try.f6 false true false false) := by
  refine returnsInHanded_of_change (C := Try.checked) own started (by kernel_rfl) Try.func6
    (ChangeSpec.witness6 (enc := enc) (C := Try.checked) false ⟨#[], #[.slice none 0 0], []⟩ 8 (by kernel_rfl) (by kernel_rfl) (by kernel_rfl) (by kernel_rfl)) ?_
  intro W base args ds gs before hval0 hW hcnd _
  have hval : ∀ (j : Nat) t v, Try.f6.params[j]? = some t → args[j]? = some v → Value.okWide Try.prog W .any base t v := hval0
  have hW' := hW
  obtain ⟨p, q, hA0, hV, rfl, hfz, hnd⟩ := hW
  have hA : DataW.TrodAll enc Try.prog W 0 (fun _ => true) true Try.f6.params.toList args.toList ds p := hA0
  rw [Try.params6] at hA hval
  obtain ⟨v0, vs0, d0, ds0, p0, q0, hargs, rfl, rfl, h0, r0⟩ := trodAll_cons hA
  obtain ⟨rfl, rfl, rfl⟩ := trodAll_nil r0
  obtain rfl : args = #[v0] := by cases args; simp_all
  obtain ⟨rfl, rfl⟩ := trodVars_none hV
  have k0 := h0
  have lt0 : ∀ x ∈ p0, x.block < W.heap.size := by obtain ⟨m, hm⟩ := k0; exact DataW.trod_lt m _ _ _ hm
  obtain ⟨a0, len0, cap0, z0, rfl, w0, l0, m0⟩ := open_code (hval 0 22 v0 rfl rfl) h0
  clear hA0 hval0
  refine (walk a0 len0 cap0 z0 W w0 l0 m0).mono fun e W' ⟨he, bel⟩ => ?_
  subst he
  exact ⟨_, rfl, _, _, _, [], _, [], hW', trodAll_mk1 (shut_bool Try.underlying4 _), (trodAll_cons_mk (Below.trod laidOut (by kernel_rfl) (of_decide_eq_true (by kernel_rfl)) k0 bel lt0) trodAll_mk0), rfl, bel.frame _, fun h => by cases h⟩

theorem closed : joinedFacts Try.prog 6 Try.f6 Rows.fnTowardSpec Rows.fnTowardRow = true := by
  simp only [joinedFacts, Bool.and_eq_true]
  repeat' apply And.intro
  all_goals first | with_reducible exact mayEnterOk | (with_reducible rw [liftsFinalOk]; kernel_rfl) | (with_reducible rw [makeOk]; kernel_rfl) | kernel_rfl

theorem over : Rows.fnTowardRow.holds Try.pinned (OpenSpec.ofChange Rows.fnTowardSpec) :=
  OpenClaim.holds_of_wide 6 Try.f6 rfl rfl rfl rfl rfl rfl rfl ⟨rfl, rfl, rfl, rfl, rfl⟩ rfl rfl rfl rfl rfl (by kernel_rfl) Try.func6 closed
    (of_decide_eq_true (by kernel_rfl)) (by unfold Func.isWrapper; first | (rw [if_pos (by decide +kernel)]; kernel_rfl) | (rw [if_neg (by decide +kernel)]; exact ⟨rfl, rfl⟩))
    (fun os started H enc _ => lifted os started H enc)

theorem proved : Rows.FnTowardSaid := over
#print axioms proved
end Go.Proofs.Ytgamkmkpmcenpaa.LFToward

