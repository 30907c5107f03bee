/-
  For every two lists of integers and number the law on ImageNth answers true, and nothing that was there is written; no condition.
-/
import Derived.Test.YtnfkafaolelkbaaF
import Derived.Test.YtnfkafaolelkbaaG
import Derived.Test.YtnfkafaolelkbaaK
import Derived.Test.YtnfkafaolelkbaaBj
namespace Go.Proofs.Ytnfkafaolelkbaa.LImageNth
open Go.ChangeShapes Go.WideShapes Go.ChangeAt Go.RowKit Go.Joins

theorem nto_six (R C : List Int) (N : Int) : (nthO R C N).xs.length ≤ 6 := by
  unfold nthO
  split
  · rename_i h
    unfold ntB at h
    rw [Bool.and_eq_true, decide_eq_true_eq] at h
    have hs := sumsB_parts (ctdB_parts h.1).1
    show (nthS R C N.toNat).length ≤ 6
    rw [nth_len (by omega)]
    exact hs.1.2
  · simp [Out.no]
set_option maxRecDepth 100000 in
set_option maxHeartbeats 4000000 in
theorem walk (a0 : Option Addr) (n0 c0 : Nat) (x0 : List Int) (a1 : Option Addr) (n1 c1 : Nat) (x1 : List Int) (e2 : Int) (w : World) (h0 : Row w a0 n0 x0) (m0 : n0 ≤ 9223372036854775807) (h1 : Row w a1 n1 x1) (m1 : n1 ≤ 9223372036854775807) :
    Calls Try.prog 18 #[.slice a0 n0 c0, .slice a1 n1 c1, .int .i64 e2] w fun e w' => e = .returned (.bool true) ∧ Below w.heap.size w w' := by
  by_cases big0 : 1048576 < n0
  · clear h0 h1
    go_enter Try.func18, Try.ntmps18
    go_wp2_with fail
    go_ret
    exact ⟨rfl, Below.refl _ _⟩
  by_cases big1 : 1048576 < n1
  · clear h0 h1
    go_enter Try.func18, Try.ntmps18
    go_wp2_with fail
    go_ret
    exact ⟨rfl, Below.refl _ _⟩
  obtain ⟨O, V, R, hRe⟩ : ∃ O V R, nthO x0 x1 e2 = ⟨O, V, R⟩ := ⟨_, _, _, rfl⟩
  have hR : R.length ≤ 6 := by have h := nto_six x0 x1 e2; rw [hRe] at h; exact h
  have CS : ∀ (a0 : Option Addr) (c0 : Nat) (a1 : Option Addr) (c1 : Nat) (wx : World), Row wx a0 n0 x0 → Row wx a1 n1 x1 → n0 ≤ c0 → Calls Try.prog 33 #[.slice a0 n0 c0, .slice a1 n1 c1, .int .i64 e2] wx (Gives wx ⟨O, V, R⟩) := by
    intro a0 c0 a1 c1 wx h0 h1 k0; rw [← hRe]; exact nth_spec _ _ _ _ _ _ x0 x1 e2 _ h0 h1 (by omega) (by omega) k0
  have DS := Lib.hid CS
  clear CS
  have CI : ∀ (a0 : Option Addr) (c0 : Nat) (a1 : Option Addr) (c1 : Nat) (wx : World), Row wx a0 n0 x0 → Row wx a1 n1 x1 → Calls Try.prog 29 #[.slice a0 n0 c0, .slice a1 n1 c1, .int .i64 e2] wx (Gives wx ⟨O, V, R⟩) := by
    intro a0 c0 a1 c1 wx h0 h1; rw [← hRe]; exact nth_impl _ _ _ _ _ _ x0 x1 e2 _ h0 h1 (by omega) (by omega)
  have DI := Lib.hid CI
  clear CI
  clear hRe
  have rg0 := rng_row h0
  have h0 := Lib.hid h0
  have rg1 := rng_row h1
  have h1 := Lib.hid h1
  have bb : Hid (Below w.heap.size w w) := Below.refl _ _
  go_enter Try.func18, Try.ntmps18
  go_wp2_with fail
  refine (to_any a0 n0 c0 x0 _ h0.out (by omega)).mono ?_
  rintro e w1 ⟨⟨gw1, rfl, hgw1, ho⟩, hb⟩
  have szw1 := hb.size
  replace h0 := Lib.hid (h0.out.bel hb)
  replace h1 := Lib.hid (h1.out.bel hb)
  replace bb := Lib.hid (bb.out.trans (hb.mono bb.out.size))
  clear hb
  have s0 := Lib.hid ho.row
  clear ho hgw1
  go_wp2_with fail
  refine (to_any a1 n1 c1 x1 _ h1.out (by omega)).mono ?_
  rintro e w2 ⟨⟨gw2, rfl, hgw2, ho⟩, hb⟩
  have szw2 := hb.size
  replace h0 := Lib.hid (h0.out.bel hb)
  replace h1 := Lib.hid (h1.out.bel hb)
  replace s0 := Lib.hid (s0.out.bel hb)
  replace bb := Lib.hid (bb.out.trans (hb.mono bb.out.size))
  clear hb
  have s1 := Lib.hid ho.row
  clear ho hgw2
  go_wp2_with fail
  refine (DS.out _ _ _ _ _ s0.out s1.out (Nat.le_refl _)).mono ?_
  rintro e w3 ⟨⟨aw, cw, rfl, ho⟩, hb⟩
  have szw3 := hb.size
  replace h0 := Lib.hid (h0.out.bel hb)
  replace h1 := Lib.hid (h1.out.bel hb)
  replace s0 := Lib.hid (s0.out.bel hb)
  replace s1 := Lib.hid (s1.out.bel hb)
  replace bb := Lib.hid (bb.out.trans (hb.mono bb.out.size))
  clear hb
  have ow := Lib.hid ho.row
  have rw0 := rng_cond (n := R.length) (rng_own ho)
  clear ho
  clear s0 s1 DS
  have hbx : Below w3.heap.size w3 (w3.alloc (.cells #[.int .i64 V, .slice aw R.length cw] 30)) := (Below.refl _ _).alloc (Nat.le_refl _) _
  replace h0 := Lib.hid (h0.out.bel hbx)
  replace h1 := Lib.hid (h1.out.bel hbx)
  replace ow := Lib.hid (ow.out.bel hbx)
  replace bb := Lib.hid (bb.out.trans (hbx.mono bb.out.size))
  clear hbx
  have bw0 : (w3.alloc (.cells #[.int .i64 V, .slice aw R.length cw] 30)).cell? ⟨w3.heap.size, 0, none⟩ = some (.int .i64 V) := by simp
  have bw1 : (w3.alloc (.cells #[.int .i64 V, .slice aw R.length cw] 30)).cell? ⟨w3.heap.size, 1, none⟩ = some (.slice aw R.length cw) := by simp
  go_wp2_with fail
  refine (to_any a0 n0 c0 x0 _ h0.out (by omega)).mono ?_
  rintro e w4 ⟨⟨gw4, rfl, hgw4, ho⟩, hb⟩
  have szw4 : w3.heap.size + 1 ≤ w4.heap.size := by have := hb.size; simpa using this
  replace bw0 := kept hb (block_lt bw0) bw0
  replace bw1 := kept hb (block_lt bw1) bw1
  replace h0 := Lib.hid (h0.out.bel hb)
  replace h1 := Lib.hid (h1.out.bel hb)
  replace ow := Lib.hid (ow.out.bel hb)
  replace bb := Lib.hid (bb.out.trans (hb.mono bb.out.size))
  clear hb
  have gr0 : ∀ p : Addr, (some ⟨gw4, 0, none⟩ : Option Addr) = some p → w3.heap.size + 1 ≤ p.block ∧ p.block < w4.heap.size := fun p hp => by have := rng_own ho p hp; simpa using this
  have g0 := Lib.hid (ho)
  clear ho
  obtain ⟨z0, hz0⟩ : ∃ z, z = gw4 := ⟨_, rfl⟩
  rw [← hz0]
  rw [← hz0] at g0 hgw4 gr0
  clear hz0
  have lbw := block_lt bw0
  go_wp2_with fail
  refine (to_any a1 n1 c1 x1 _ h1.out (by omega)).mono ?_
  rintro e w5 ⟨⟨gw5, rfl, hgw5, ho⟩, hb⟩
  have szw5 := hb.size
  replace bw0 := kept hb (block_lt bw0) bw0
  replace bw1 := kept hb (block_lt bw1) bw1
  replace h0 := Lib.hid (h0.out.bel hb)
  replace h1 := Lib.hid (h1.out.bel hb)
  replace ow := Lib.hid (ow.out.bel hb)
  replace g0 := Lib.hid (g0.out.bel hb)
  replace bb := Lib.hid (bb.out.trans (hb.mono bb.out.size))
  clear hb
  have gr1 : ∀ p : Addr, (some ⟨gw5, 0, none⟩ : Option Addr) = some p → w4.heap.size ≤ p.block ∧ p.block < w5.heap.size := fun p hp => by have := rng_own ho p hp; simpa using this
  have g1 := Lib.hid (ho)
  clear ho
  obtain ⟨z1, hz1⟩ : ∃ z, z = gw5 := ⟨_, rfl⟩
  rw [← hz1]
  rw [← hz1] at g1 hgw5 gr1
  clear hz1
  go_wp2_with fail
  refine (DI.out _ _ _ _ _ g0.out.row g1.out.row).mono ?_
  rintro e w6 ⟨⟨ag, cg, rfl, ho⟩, hb⟩
  have szw6 := hb.size
  replace bw0 := kept hb (block_lt bw0) bw0
  replace bw1 := kept hb (block_lt bw1) bw1
  replace h0 := Lib.hid (h0.out.bel hb)
  replace h1 := Lib.hid (h1.out.bel hb)
  replace ow := Lib.hid (ow.out.bel hb)
  replace g0 := Lib.hid (g0.out.bel hb)
  replace g1 := Lib.hid (g1.out.bel hb)
  replace bb := Lib.hid (bb.out.trans (hb.mono bb.out.size))
  clear hb
  have rgo : ∀ p : Addr, ag = some p → w5.heap.size ≤ p.block ∧ p.block < w6.heap.size := fun p hp => by have := rng_own ho p hp; simpa using this
  have og := Lib.hid ho
  clear ho
  have hbx : Below w6.heap.size w6 (w6.alloc (.cells #[.int .i64 V, .slice ag R.length cg] 30)) := (Below.refl _ _).alloc (Nat.le_refl _) _
  replace bw0 := kept hbx (block_lt bw0) bw0
  replace bw1 := kept hbx (block_lt bw1) bw1
  replace h0 := Lib.hid (h0.out.bel hbx)
  replace h1 := Lib.hid (h1.out.bel hbx)
  replace ow := Lib.hid (ow.out.bel hbx)
  replace g0 := Lib.hid (g0.out.bel hbx)
  replace g1 := Lib.hid (g1.out.bel hbx)
  replace og := Lib.hid (og.out.bel hbx)
  replace bb := Lib.hid (bb.out.trans (hbx.mono bb.out.size))
  clear hbx
  have bg0 : (w6.alloc (.cells #[.int .i64 V, .slice ag R.length cg] 30)).cell? ⟨w6.heap.size, 0, none⟩ = some (.int .i64 V) := by simp
  have bg1 : (w6.alloc (.cells #[.int .i64 V, .slice ag R.length cg] 30)).cell? ⟨w6.heap.size, 1, none⟩ = some (.slice ag R.length cg) := by simp
  go_wp2_with fail
  refine (eqImage_yes _ _ _ _ _ _ R _ og.out.row ow.out (by omega)).mono ?_
  rintro e w7 ⟨rfl, hb⟩
  have szw7 : w6.heap.size + 1 ≤ w7.heap.size := by have := hb.size; simpa using this
  replace bw0 := kept hb (block_lt bw0) bw0
  replace bw1 := kept hb (block_lt bw1) bw1
  replace bg0 := kept hb (block_lt bg0) bg0
  replace bg1 := kept hb (block_lt bg1) bg1
  replace h0 := Lib.hid (h0.out.bel hb)
  replace h1 := Lib.hid (h1.out.bel hb)
  replace ow := Lib.hid (ow.out.bel hb)
  replace g0 := Lib.hid (g0.out.bel hb)
  replace g1 := Lib.hid (g1.out.bel hb)
  replace og := Lib.hid (og.out.bel hb)
  replace bb := Lib.hid (bb.out.trans (hb.mono bb.out.size))
  clear hb
  go_wp2_with fail
  refine (to_any a0 n0 c0 x0 _ h0.out (by omega)).mono ?_
  rintro e w8 ⟨⟨gw8, rfl, hgw8, ho⟩, hb⟩
  have szw8 := hb.size
  replace bw0 := kept hb (block_lt bw0) bw0
  replace bw1 := kept hb (block_lt bw1) bw1
  replace bg0 := kept hb (block_lt bg0) bg0
  replace bg1 := kept hb (block_lt bg1) bg1
  replace h0 := Lib.hid (h0.out.bel hb)
  replace h1 := Lib.hid (h1.out.bel hb)
  replace ow := Lib.hid (ow.out.bel hb)
  replace g0 := Lib.hid (g0.out.bel hb)
  replace g1 := Lib.hid (g1.out.bel hb)
  replace og := Lib.hid (og.out.bel hb)
  replace bb := Lib.hid (bb.out.trans (hb.mono bb.out.size))
  clear hb
  have t0 := Lib.hid ho.row
  clear ho hgw8
  go_wp2_with fail
  refine (eq_yes _ _ _ _ _ x0 _ g0.out.row t0.out (by omega)).mono ?_
  rintro e w9 ⟨rfl, hb⟩
  have szw9 := hb.size
  replace bw0 := kept hb (block_lt bw0) bw0
  replace bw1 := kept hb (block_lt bw1) bw1
  replace bg0 := kept hb (block_lt bg0) bg0
  replace bg1 := kept hb (block_lt bg1) bg1
  replace h0 := Lib.hid (h0.out.bel hb)
  replace h1 := Lib.hid (h1.out.bel hb)
  replace ow := Lib.hid (ow.out.bel hb)
  replace t0 := Lib.hid (t0.out.bel hb)
  replace g0 := Lib.hid (g0.out.bel hb)
  replace g1 := Lib.hid (g1.out.bel hb)
  replace og := Lib.hid (og.out.bel hb)
  replace bb := Lib.hid (bb.out.trans (hb.mono bb.out.size))
  clear hb
  clear t0
  go_wp2_with fail
  refine (to_any a1 n1 c1 x1 _ h1.out (by omega)).mono ?_
  rintro e w10 ⟨⟨gw10, rfl, hgw10, ho⟩, hb⟩
  have szw10 := hb.size
  replace bw0 := kept hb (block_lt bw0) bw0
  replace bw1 := kept hb (block_lt bw1) bw1
  replace bg0 := kept hb (block_lt bg0) bg0
  replace bg1 := kept hb (block_lt bg1) bg1
  replace h0 := Lib.hid (h0.out.bel hb)
  replace h1 := Lib.hid (h1.out.bel hb)
  replace ow := Lib.hid (ow.out.bel hb)
  replace g0 := Lib.hid (g0.out.bel hb)
  replace g1 := Lib.hid (g1.out.bel hb)
  replace og := Lib.hid (og.out.bel hb)
  replace bb := Lib.hid (bb.out.trans (hb.mono bb.out.size))
  clear hb
  have t1 := Lib.hid ho.row
  clear ho hgw10
  go_wp2_with fail
  refine (eq_yes _ _ _ _ _ x1 _ g1.out.row t1.out (by omega)).mono ?_
  rintro e w11 ⟨rfl, hb⟩
  have szw11 := hb.size
  replace bw0 := kept hb (block_lt bw0) bw0
  replace bw1 := kept hb (block_lt bw1) bw1
  replace bg0 := kept hb (block_lt bg0) bg0
  replace bg1 := kept hb (block_lt bg1) bg1
  replace h0 := Lib.hid (h0.out.bel hb)
  replace h1 := Lib.hid (h1.out.bel hb)
  replace ow := Lib.hid (ow.out.bel hb)
  replace t1 := Lib.hid (t1.out.bel hb)
  replace g0 := Lib.hid (g0.out.bel hb)
  replace g1 := Lib.hid (g1.out.bel hb)
  replace og := Lib.hid (og.out.bel hb)
  replace bb := Lib.hid (bb.out.trans (hb.mono bb.out.size))
  clear hb
  clear t1
  go_wp2_with fail
  refine (mark_own _ _ _ _ x0 (1) _ g0.out (by omega) (by omega) (by omega)).mono ?_
  rintro e w12 ⟨rfl, hg, ho⟩
  replace bw0 := hg.cell bw0 (ne_rowOf gr0 (by have := block_lt bw0; simp only at this ⊢; omega))
  replace bw1 := hg.cell bw1 (ne_rowOf gr0 (by have := block_lt bw1; simp only at this ⊢; omega))
  replace bg0 := hg.cell bg0 (ne_rowOf gr0 (by have := block_lt bg0; simp only at this ⊢; omega))
  replace bg1 := hg.cell bg1 (ne_rowOf gr0 (by have := block_lt bg1; simp only at this ⊢; omega))
  have h0 := Lib.hid (h0.out.apart2 hg rg0 gr0 (by omega))
  have h1 := Lib.hid (h1.out.apart2 hg rg1 gr0 (by omega))
  have ow := Lib.hid (ow.out.apart2 hg rw0 gr0 (by omega))
  have g1 := Lib.hid (g1.out.apart2 hg gr1 gr0 (by omega))
  have og := Lib.hid (og.out.apart2 hg rgo gr0 (by omega))
  have bb := Lib.hid (bel_write bb.out hg gr0 (by omega))
  have szw12 := hg.size
  clear ho hg g0
  go_wp2_with fail
  refine (mark_own _ _ _ _ x1 (1 + (n0 : Int)) _ g1.out (by omega) (by omega) (by omega)).mono ?_
  rintro e w13 ⟨rfl, hg, ho⟩
  replace bw0 := hg.cell bw0 (ne_rowOf gr1 (by have := block_lt bw0; simp only at this ⊢; omega))
  replace bw1 := hg.cell bw1 (ne_rowOf gr1 (by have := block_lt bw1; simp only at this ⊢; omega))
  replace bg0 := hg.cell bg0 (ne_rowOf gr1 (by have := block_lt bg0; simp only at this ⊢; omega))
  replace bg1 := hg.cell bg1 (ne_rowOf gr1 (by have := block_lt bg1; simp only at this ⊢; omega))
  have h0 := Lib.hid (h0.out.apart2 hg rg0 gr1 (by omega))
  have h1 := Lib.hid (h1.out.apart2 hg rg1 gr1 (by omega))
  have ow := Lib.hid (ow.out.apart2 hg rw0 gr1 (by omega))
  have og := Lib.hid (og.out.apart2 hg rgo gr1 (by omega))
  have bb := Lib.hid (bel_write bb.out hg gr1 (by omega))
  have szw13 := hg.size
  clear ho hg g1
  go_wp2_with fail
  refine (eqImage_yes _ _ _ _ _ _ R _ og.out.row ow.out (by omega)).mono ?_
  rintro e w14 ⟨rfl, hb⟩
  have szw14 := hb.size
  replace bw0 := kept hb (block_lt bw0) bw0
  replace bw1 := kept hb (block_lt bw1) bw1
  replace bg0 := kept hb (block_lt bg0) bg0
  replace bg1 := kept hb (block_lt bg1) bg1
  replace h0 := Lib.hid (h0.out.bel hb)
  replace h1 := Lib.hid (h1.out.bel hb)
  replace ow := Lib.hid (ow.out.bel hb)
  replace og := Lib.hid (og.out.bel hb)
  replace bb := Lib.hid (bb.out.trans (hb.mono bb.out.size))
  clear hb
  go_wp2_with fail
  refine (markImage_own _ _ _ _ _ R 1 _ og.out (by omega) (by omega) (by omega)).mono ?_
  rintro e w15 ⟨rfl, hg, ho⟩
  replace bw0 := hg.cell bw0 (ne_rowOf rgo (by have := block_lt bw0; simp only at this ⊢; omega))
  replace bw1 := hg.cell bw1 (ne_rowOf rgo (by have := block_lt bw1; simp only at this ⊢; omega))
  replace bg0 := hg.cell bg0 (ne_rowOf rgo (by have := block_lt bg0; simp only at this ⊢; omega))
  replace bg1 := hg.cell bg1 (ne_rowOf rgo (by have := block_lt bg1; simp only at this ⊢; omega))
  have h0 := Lib.hid (h0.out.apart2 hg rg0 rgo (by omega))
  have h1 := Lib.hid (h1.out.apart2 hg rg1 rgo (by omega))
  have ow := Lib.hid (ow.out.apart2 hg rw0 rgo (by omega))
  have bb := Lib.hid (bel_write bb.out hg rgo (by omega))
  have szw15 := hg.size
  have og := Lib.hid ho
  clear ho hg
  go_wp2_with fail
  refine (heldImage_any _ _ _ _ 1 _ og.out.row (by omega) (by omega) (by omega)).mono ?_
  rintro e w16 ⟨rfl, hb⟩
  have szw16 := hb.size
  replace bw0 := kept hb (block_lt bw0) bw0
  replace bw1 := kept hb (block_lt bw1) bw1
  replace bg0 := kept hb (block_lt bg0) bg0
  replace bg1 := kept hb (block_lt bg1) bg1
  replace h0 := Lib.hid (h0.out.bel hb)
  replace h1 := Lib.hid (h1.out.bel hb)
  replace ow := Lib.hid (ow.out.bel hb)
  replace og := Lib.hid (og.out.bel hb)
  replace bb := Lib.hid (bb.out.trans (hb.mono bb.out.size))
  clear hb
  go_wp2_with fail
  refine (to_any a0 n0 c0 x0 _ h0.out (by omega)).mono ?_
  rintro e w17 ⟨⟨gw17, rfl, hgw17, ho⟩, hb⟩
  have szw17 := hb.size
  replace bw0 := kept hb (block_lt bw0) bw0
  replace bw1 := kept hb (block_lt bw1) bw1
  replace bg0 := kept hb (block_lt bg0) bg0
  replace bg1 := kept hb (block_lt bg1) bg1
  replace h0 := Lib.hid (h0.out.bel hb)
  replace h1 := Lib.hid (h1.out.bel hb)
  replace ow := Lib.hid (ow.out.bel hb)
  replace og := Lib.hid (og.out.bel hb)
  replace bb := Lib.hid (bb.out.trans (hb.mono bb.out.size))
  clear hb
  have v0 := Lib.hid ho.row
  clear ho hgw17
  go_wp2_with fail
  refine (to_any a1 n1 c1 x1 _ h1.out (by omega)).mono ?_
  rintro e w18 ⟨⟨gw18, rfl, hgw18, ho⟩, hb⟩
  have szw18 := hb.size
  replace bw0 := kept hb (block_lt bw0) bw0
  replace bw1 := kept hb (block_lt bw1) bw1
  replace bg0 := kept hb (block_lt bg0) bg0
  replace bg1 := kept hb (block_lt bg1) bg1
  replace h0 := Lib.hid (h0.out.bel hb)
  replace h1 := Lib.hid (h1.out.bel hb)
  replace ow := Lib.hid (ow.out.bel hb)
  replace v0 := Lib.hid (v0.out.bel hb)
  replace og := Lib.hid (og.out.bel hb)
  replace bb := Lib.hid (bb.out.trans (hb.mono bb.out.size))
  clear hb
  have v1 := Lib.hid ho.row
  clear ho hgw18
  go_wp2_with fail
  refine (DI.out _ _ _ _ _ v0.out v1.out).mono ?_
  rintro e w19 ⟨⟨ah, ch, rfl, ho⟩, hb⟩
  have szw19 := hb.size
  replace bw0 := kept hb (block_lt bw0) bw0
  replace bw1 := kept hb (block_lt bw1) bw1
  replace bg0 := kept hb (block_lt bg0) bg0
  replace bg1 := kept hb (block_lt bg1) bg1
  replace h0 := Lib.hid (h0.out.bel hb)
  replace h1 := Lib.hid (h1.out.bel hb)
  replace ow := Lib.hid (ow.out.bel hb)
  replace v0 := Lib.hid (v0.out.bel hb)
  replace v1 := Lib.hid (v1.out.bel hb)
  replace og := Lib.hid (og.out.bel hb)
  replace bb := Lib.hid (bb.out.trans (hb.mono bb.out.size))
  clear hb
  have oh := Lib.hid ho.row
  clear ho
  have hbx : Below w19.heap.size w19 (w19.alloc (.cells #[.int .i64 V, .slice ah R.length ch] 30)) := (Below.refl _ _).alloc (Nat.le_refl _) _
  replace bw0 := kept hbx (block_lt bw0) bw0
  replace bw1 := kept hbx (block_lt bw1) bw1
  replace bg0 := kept hbx (block_lt bg0) bg0
  replace bg1 := kept hbx (block_lt bg1) bg1
  replace h0 := Lib.hid (h0.out.bel hbx)
  replace h1 := Lib.hid (h1.out.bel hbx)
  replace ow := Lib.hid (ow.out.bel hbx)
  replace v0 := Lib.hid (v0.out.bel hbx)
  replace v1 := Lib.hid (v1.out.bel hbx)
  replace oh := Lib.hid (oh.out.bel hbx)
  replace og := Lib.hid (og.out.bel hbx)
  replace bb := Lib.hid (bb.out.trans (hbx.mono bb.out.size))
  clear hbx
  have bh0 : (w19.alloc (.cells #[.int .i64 V, .slice ah R.length ch] 30)).cell? ⟨w19.heap.size, 0, none⟩ = some (.int .i64 V) := by simp
  have bh1 : (w19.alloc (.cells #[.int .i64 V, .slice ah R.length ch] 30)).cell? ⟨w19.heap.size, 1, none⟩ = some (.slice ah R.length ch) := by simp
  go_wp2_with fail
  refine (eqImage_yes _ _ _ _ _ _ R _ oh.out ow.out (by omega)).mono ?_
  rintro e w20 ⟨rfl, hb⟩
  have szw20 : w19.heap.size + 1 ≤ w20.heap.size := by have := hb.size; simpa using this
  replace bw0 := kept hb (block_lt bw0) bw0
  replace bw1 := kept hb (block_lt bw1) bw1
  replace bg0 := kept hb (block_lt bg0) bg0
  replace bg1 := kept hb (block_lt bg1) bg1
  replace bh0 := kept hb (block_lt bh0) bh0
  replace bh1 := kept hb (block_lt bh1) bh1
  replace h0 := Lib.hid (h0.out.bel hb)
  replace h1 := Lib.hid (h1.out.bel hb)
  replace ow := Lib.hid (ow.out.bel hb)
  replace v0 := Lib.hid (v0.out.bel hb)
  replace v1 := Lib.hid (v1.out.bel hb)
  replace oh := Lib.hid (oh.out.bel hb)
  replace og := Lib.hid (og.out.bel hb)
  replace bb := Lib.hid (bb.out.trans (hb.mono bb.out.size))
  clear hb
  go_wp2_with fail
  refine (heldImage_any _ _ _ _ 1 _ og.out.row (by omega) (by omega) (by omega)).mono ?_
  rintro e w21 ⟨rfl, hb⟩
  have szw21 := hb.size
  replace bw0 := kept hb (block_lt bw0) bw0
  replace bw1 := kept hb (block_lt bw1) bw1
  replace bg0 := kept hb (block_lt bg0) bg0
  replace bg1 := kept hb (block_lt bg1) bg1
  replace bh0 := kept hb (block_lt bh0) bh0
  replace bh1 := kept hb (block_lt bh1) bh1
  replace h0 := Lib.hid (h0.out.bel hb)
  replace h1 := Lib.hid (h1.out.bel hb)
  replace ow := Lib.hid (ow.out.bel hb)
  replace v0 := Lib.hid (v0.out.bel hb)
  replace v1 := Lib.hid (v1.out.bel hb)
  replace oh := Lib.hid (oh.out.bel hb)
  replace og := Lib.hid (og.out.bel hb)
  replace bb := Lib.hid (bb.out.trans (hb.mono bb.out.size))
  clear hb
  go_wp2_with fail
  go_ret
  exact ⟨rfl, bb.out⟩

set_option maxRecDepth 100000 in
theorem lifted (os : Os) (started : os.Started) (H : Type) (enc : TypeId × Value → H) :
    ReturnsInHanded {} Try.checked os 18 .any (Rows.fnExactImageNthSpec.pre6 enc Try.prog Try.f18 Rows.fnExactImageNthRow.domain false) (Rows.fnExactImageNthSpec.post enc Try.prog Try.f18 false true false false) := by
  refine returnsInHanded_of_change (C := Try.checked) own started (by kernel_rfl) Try.func18
    (ChangeSpec.witness6 (enc := enc) (C := Try.checked) false ⟨#[], #[.slice none 0 0, .slice none 0 0, .int .i64 0], []⟩ 8 (by kernel_rfl) (by kernel_rfl) (by kernel_rfl) (by kernel_rfl)) ?_
  intro W base args ds gs before hval0 hW hcnd _
  have hval : ∀ (j : Nat) t v, Try.f18.params[j]? = some t → args[j]? = some v → Value.okWide Try.prog W .any base t v := hval0
  have hW' := hW
  obtain ⟨p, q, hA0, hV, rfl, hfz, hnd⟩ := hW
  have hA : DataW.TrodAll enc Try.prog W 0 (fun _ => true) true Try.f18.params.toList args.toList ds p := hA0
  rw [Try.params18] at hA hval
  obtain ⟨v0, vs0, d0, ds0, p0, q0, hargs, rfl, rfl, h0, r0⟩ := trodAll_cons hA
  obtain ⟨v1, vs1, d1, ds1, p1, q1, rfl, rfl, rfl, h1, r1⟩ := trodAll_cons r0
  obtain ⟨v2, vs2, d2, ds2, p2, q2, rfl, rfl, rfl, h2, r2⟩ := trodAll_cons r1
  obtain ⟨rfl, rfl, rfl⟩ := trodAll_nil r2
  obtain rfl : args = #[v0, v1, v2] := by cases args; simp_all
  obtain ⟨rfl, rfl⟩ := trodVars_none hV
  have k0 := h0
  have lt0 : ∀ x ∈ p0, x.block < W.heap.size := by obtain ⟨m, hm⟩ := k0; exact DataW.trod_lt m _ _ _ hm
  obtain ⟨a0, len0, cap0, z0, rfl, w0, m0⟩ := open_list (hval 0 23 v0 rfl rfl) h0
  have k1 := h1
  have lt1 : ∀ x ∈ p1, x.block < W.heap.size := by obtain ⟨m, hm⟩ := k1; exact DataW.trod_lt m _ _ _ hm
  obtain ⟨a1, len1, cap1, z1, rfl, w1, m1⟩ := open_list (hval 1 23 v1 rfl rfl) h1
  obtain ⟨i2, rfl, rfl, rfl, w2⟩ := open_int Try.underlying3 (hval 2 3 v2 rfl rfl) h2
  clear hA0 hval0
  refine (walk a0 len0 cap0 z0 a1 len1 cap1 z1 i2 W w0 m0 w1 m1).mono fun e W' ⟨he, bel⟩ => ?_
  subst he
  exact ⟨_, rfl, _, _, _, [], _, [], hW', trodAll_mk1 (shut_bool Try.underlying4 _), (trodAll_cons_mk (Below.trod laidOut (by kernel_rfl) (of_decide_eq_true (by kernel_rfl)) k0 bel lt0) (trodAll_cons_mk (Below.trod laidOut (by kernel_rfl) (of_decide_eq_true (by kernel_rfl)) k1 bel lt1) (trodAll_cons_mk (shut_int Try.underlying3 w2) trodAll_mk0))), rfl, bel.frame _, fun h => by cases h⟩

theorem closed : joinedFacts Try.prog 18 Try.f18 Rows.fnExactImageNthSpec Rows.fnExactImageNthRow = true := by
  simp only [joinedFacts, Bool.and_eq_true]
  repeat' apply And.intro
  all_goals first | with_reducible exact mayEnterOk | (with_reducible rw [liftsFinalOk]; kernel_rfl) | (with_reducible rw [makeOk]; kernel_rfl) | kernel_rfl

theorem over : Rows.fnExactImageNthRow.holds Try.pinned (OpenSpec.ofChange Rows.fnExactImageNthSpec) :=
  OpenClaim.holds_of_wide 18 Try.f18 rfl rfl rfl rfl rfl rfl rfl ⟨rfl, rfl, rfl, rfl, rfl⟩ rfl rfl rfl rfl rfl (by kernel_rfl) Try.func18 closed
    (of_decide_eq_true (by kernel_rfl)) (by unfold Func.isWrapper; first | (rw [if_pos (by decide +kernel)]; kernel_rfl) | (rw [if_neg (by decide +kernel)]; exact ⟨rfl, rfl⟩))
    (fun os started H enc _ => lifted os started H enc)

theorem proved : Rows.FnExactImageNthSaid := over
#print axioms proved
end Go.Proofs.Ytnfkafaolelkbaa.LImageNth

