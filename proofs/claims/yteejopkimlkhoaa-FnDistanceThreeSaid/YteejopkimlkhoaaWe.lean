/-
  The contracts of the program's functions that make a path of switches.
-/
import Derived.Test.YteejopkimlkhoaaWc
import Derived.Test.YteejopkimlkhoaaWd
import Derived.Test.YteejopkimlkhoaaEp
import Derived.Test.YteejopkimlkhoaaSk
import Derived.Deep.RegionLaw
namespace Go.Proofs.Yteejopkimlkhoaa
set_option maxRecDepth 100000
open Go.RowKit

theorem tow_no_i {K n : Nat} {xs ys : List Int} (hI : Im K n xs) (hJ : Im K n ys) (h : towL xs ys K n = none) (a b : Option Addr) (c d : Nat) (w : World) (hr : Row w a n xs) (hs : Row w b n ys) :
    Calls Try.prog 32 #[.agg #[.int .i64 K, .slice a n c], .agg #[.int .i64 K, .slice b n d]] w fun e w' => e = .returned (.tuple #[.agg #[.int .i64 0, .int .i64 0, .int .i64 0, .int .i64 0], .bool false]) ∧ Below w.heap.size w w' := by
  have hc := tow_impl (K : Int) K a b n n c d xs ys w hr hs (by have := hI.l6; omega) (by have := hI.l6; omega)
  rw [towOut_yes hI hJ, h] at hc
  exact hc
theorem tow_yes_i {K n : Nat} {xs ys : List Int} (hI : Im K n xs) (hJ : Im K n ys) {A B C D : Nat} (h : towL xs ys K n = some (A, B, C, D)) (a b : Option Addr) (c d : Nat) (w : World) (hr : Row w a n xs) (hs : Row w b n ys) :
    Calls Try.prog 32 #[.agg #[.int .i64 K, .slice a n c], .agg #[.int .i64 K, .slice b n d]] w fun e w' => e = .returned (.tuple #[.agg #[.int .i64 A, .int .i64 B, .int .i64 C, .int .i64 D], .bool true]) ∧ Below w.heap.size w w' := by
  have hc := tow_impl (K : Int) K a b n n c d xs ys w hr hs (by have := hI.l6; omega) (by have := hI.l6; omega)
  rw [towOut_yes hI hJ, h] at hc
  exact hc
theorem tow_ok {K n : Nat} {xs ys : List Int} (hI : Im K n xs) {A B C D : Nat} (h : towL xs ys K n = some (A, B, C, D)) : okB K xs A B C D = true := by
  have a := sw_at (tow_mem h).1
  exact (okB_yes hI a.1 a.2.1 a.2.2.1 a.2.2.2.1).trans a.2.2.2.2
/-- What pathAhead gives: a list of steps. -/
def GivesH (w : World) (L : List SwT) (e : Ending) (w' : World) : Prop := (∃ q : Option Addr, e = .returned (.pointer q) ∧ LinkL w' q L) ∧ Below w.heap.size w w'

set_option maxHeartbeats 1000000 in
theorem ahead_none {K n : Nat} {xs ys : List Int} (hI : Im K n xs) (hJ : Im K n ys) {R : List SwT} (h1 : towL xs ys K n = none) (h2 : towL ys xs K n = none) (a b : Option Addr) (c d : Nat) (p : Option Addr) (w : World) (hr : Row w a n xs) (hs : Row w b n ys) (hk : LinkL w p R) :
    Calls Try.prog 82 #[.agg #[.int .i64 K, .slice a n c], .agg #[.int .i64 K, .slice b n d], .pointer p] w (GivesH w (pathL K n xs ys ++ R)) := by
  have hK6 := hI.w6
  have hn6 := hI.l6
  obtain ⟨W0, hW0⟩ : ∃ W0, W0 = (w.alloc (.cells #[.int .i64 K, .slice a n c] 25)).alloc (.cells #[.int .i64 K, .slice b n d] 25) := ⟨_, rfl⟩
  have bb : Hid (Below w.heap.size w W0) := by subst hW0; exact ((Below.refl _ _).alloc (Nat.le_refl _) _).alloc (by simp) _
  have x0 : W0.cell? ⟨w.heap.size, 0, none⟩ = some (.int .i64 K) := by subst hW0; go_simp
  have x1 : W0.cell? ⟨w.heap.size, 1, none⟩ = some (.slice a n c) := by subst hW0; go_simp
  have y0 : W0.cell? ⟨w.heap.size + 1, 0, none⟩ = some (.int .i64 K) := by subst hW0; go_simp
  have y1 : W0.cell? ⟨w.heap.size + 1, 1, none⟩ = some (.slice b n d) := by subst hW0; go_simp
  have r := Lib.hid (hr.bel bb.out)
  have q := Lib.hid (hs.bel bb.out)
  have k := Lib.hid (hk.bel bb.out)
  clear hr hs hk
  replace hI := Lib.hid hI
  replace hJ := Lib.hid hJ
  go_enter Try.func82, Try.ntmps82
  go_wp2_with fail
  rw [← hW0]
  clear hW0
  refine (tow_no_i hI.out hJ.out h1 _ _ _ _ _ r.out q.out).mono ?_
  rintro e w1 ⟨rfl, hb⟩
  have szw1 := hb.size
  replace x0 := kept hb (block_lt x0) x0
  replace x1 := kept hb (block_lt x1) x1
  replace y0 := kept hb (block_lt y0) y0
  replace y1 := kept hb (block_lt y1) y1
  replace r := Lib.hid (r.out.bel hb)
  replace q := Lib.hid (q.out.bel hb)
  replace k := Lib.hid (k.out.bel hb)
  replace bb := Lib.hid (bb.out.trans (hb.mono bb.out.size))
  clear hb
  have hbx : Below w1.heap.size w1 (w1.alloc (.cells #[.int .i64 0, .int .i64 0, .int .i64 0, .int .i64 0] 37)) := (Below.refl _ _).alloc (Nat.le_refl _) _
  replace x0 := kept hbx (block_lt x0) x0
  replace x1 := kept hbx (block_lt x1) x1
  replace y0 := kept hbx (block_lt y0) y0
  replace y1 := kept hbx (block_lt y1) y1
  replace r := Lib.hid (r.out.bel hbx)
  replace q := Lib.hid (q.out.bel hbx)
  replace k := Lib.hid (k.out.bel hbx)
  replace bb := Lib.hid (bb.out.trans (hbx.mono bb.out.size))
  clear hbx
  have z0 : (w1.alloc (.cells #[.int .i64 0, .int .i64 0, .int .i64 0, .int .i64 0] 37)).cell? ⟨w1.heap.size, 0, none⟩ = some (.int .i64 0) := by simp
  have z1 : (w1.alloc (.cells #[.int .i64 0, .int .i64 0, .int .i64 0, .int .i64 0] 37)).cell? ⟨w1.heap.size, 1, none⟩ = some (.int .i64 0) := by simp
  have z2 : (w1.alloc (.cells #[.int .i64 0, .int .i64 0, .int .i64 0, .int .i64 0] 37)).cell? ⟨w1.heap.size, 2, none⟩ = some (.int .i64 0) := by simp
  have z3 : (w1.alloc (.cells #[.int .i64 0, .int .i64 0, .int .i64 0, .int .i64 0] 37)).cell? ⟨w1.heap.size, 3, none⟩ = some (.int .i64 0) := by simp
  go_wp2_with fail
  refine (tow_no_i hJ.out hI.out h2 _ _ _ _ _ q.out r.out).mono ?_
  rintro e w2 ⟨rfl, hb⟩
  have szw2 : w1.heap.size + 1 ≤ w2.heap.size := by have := hb.size; simpa using this
  replace x0 := kept hb (block_lt x0) x0
  replace x1 := kept hb (block_lt x1) x1
  replace y0 := kept hb (block_lt y0) y0
  replace y1 := kept hb (block_lt y1) y1
  replace z0 := kept hb (block_lt z0) z0
  replace z1 := kept hb (block_lt z1) z1
  replace z2 := kept hb (block_lt z2) z2
  replace z3 := kept hb (block_lt z3) z3
  replace r := Lib.hid (r.out.bel hb)
  replace q := Lib.hid (q.out.bel hb)
  replace k := Lib.hid (k.out.bel hb)
  replace bb := Lib.hid (bb.out.trans (hb.mono bb.out.size))
  clear hb
  have hbx : Below w2.heap.size w2 (w2.alloc (.cells #[.int .i64 0, .int .i64 0, .int .i64 0, .int .i64 0] 37)) := (Below.refl _ _).alloc (Nat.le_refl _) _
  replace x0 := kept hbx (block_lt x0) x0
  replace x1 := kept hbx (block_lt x1) x1
  replace y0 := kept hbx (block_lt y0) y0
  replace y1 := kept hbx (block_lt y1) y1
  replace z0 := kept hbx (block_lt z0) z0
  replace z1 := kept hbx (block_lt z1) z1
  replace z2 := kept hbx (block_lt z2) z2
  replace z3 := kept hbx (block_lt z3) z3
  replace r := Lib.hid (r.out.bel hbx)
  replace q := Lib.hid (q.out.bel hbx)
  replace k := Lib.hid (k.out.bel hbx)
  replace bb := Lib.hid (bb.out.trans (hbx.mono bb.out.size))
  clear hbx
  have u0 : (w2.alloc (.cells #[.int .i64 0, .int .i64 0, .int .i64 0, .int .i64 0] 37)).cell? ⟨w2.heap.size, 0, none⟩ = some (.int .i64 0) := by simp
  have u1 : (w2.alloc (.cells #[.int .i64 0, .int .i64 0, .int .i64 0, .int .i64 0] 37)).cell? ⟨w2.heap.size, 1, none⟩ = some (.int .i64 0) := by simp
  have u2 : (w2.alloc (.cells #[.int .i64 0, .int .i64 0, .int .i64 0, .int .i64 0] 37)).cell? ⟨w2.heap.size, 2, none⟩ = some (.int .i64 0) := by simp
  have u3 : (w2.alloc (.cells #[.int .i64 0, .int .i64 0, .int .i64 0, .int .i64 0] 37)).cell? ⟨w2.heap.size, 3, none⟩ = some (.int .i64 0) := by simp
  go_wp2_with fail
  go_ret
  exact ⟨⟨p, rfl, by rw [path_nil h1 h2]; exact k.out⟩, bb.out⟩

set_option maxHeartbeats 2000000 in
theorem ahead_fwd {K n : Nat} {xs ys : List Int} (hI : Im K n xs) (hJ : Im K n ys) {R : List SwT} {A B C D : Nat} (h1 : towL xs ys K n = some (A, B, C, D)) (ih : ∀ (a' : Option Addr) (c' : Nat) (b' : Option Addr) (d' : Nat) (p' : Option Addr) (w' : World), Row w' a' n (flL xs K n A B C D) → Row w' b' n (ys) → LinkL w' p' (R) → Calls Try.prog 82 #[.agg #[.int .i64 K, .slice a' n c'], .agg #[.int .i64 K, .slice b' n d'], .pointer p'] w' (GivesH w' (pathL K n (flL xs K n A B C D) (ys) ++ (R)))) (a b : Option Addr) (c d : Nat) (p : Option Addr) (w : World) (hr : Row w a n xs) (hs : Row w b n ys) (hk : LinkL w p R) :
    Calls Try.prog 82 #[.agg #[.int .i64 K, .slice a n c], .agg #[.int .i64 K, .slice b n d], .pointer p] w (GivesH w (pathL K n xs ys ++ R)) := by
  have hK6 := hI.w6
  have hn6 := hI.l6
  obtain ⟨W0, hW0⟩ : ∃ W0, W0 = (w.alloc (.cells #[.int .i64 K, .slice a n c] 25)).alloc (.cells #[.int .i64 K, .slice b n d] 25) := ⟨_, rfl⟩
  have bb : Hid (Below w.heap.size w W0) := by subst hW0; exact ((Below.refl _ _).alloc (Nat.le_refl _) _).alloc (by simp) _
  have x0 : W0.cell? ⟨w.heap.size, 0, none⟩ = some (.int .i64 K) := by subst hW0; go_simp
  have x1 : W0.cell? ⟨w.heap.size, 1, none⟩ = some (.slice a n c) := by subst hW0; go_simp
  have y0 : W0.cell? ⟨w.heap.size + 1, 0, none⟩ = some (.int .i64 K) := by subst hW0; go_simp
  have y1 : W0.cell? ⟨w.heap.size + 1, 1, none⟩ = some (.slice b n d) := by subst hW0; go_simp
  have r := Lib.hid (hr.bel bb.out)
  have q := Lib.hid (hs.bel bb.out)
  have k := Lib.hid (hk.bel bb.out)
  clear hr hs hk
  replace hI := Lib.hid hI
  replace hJ := Lib.hid hJ
  go_enter Try.func82, Try.ntmps82
  go_wp2_with fail
  rw [← hW0]
  clear hW0
  obtain ⟨X, hX⟩ : ∃ X, flL xs K n A B C D = X := ⟨_, rfl⟩
  rw [hX] at ih
  have ho := Lib.hid (tow_ok hI.out h1)
  have hp : Hid (pathL K n xs ys ++ R = (A, B, C, D) :: (pathL K n X ys ++ R)) := by
    have e := path_fwd h1
    show pathL K n xs ys ++ R = _
    rw [e, List.cons_append, ← hX]; rfl
  replace hX := Lib.hid hX
  replace ih := Lib.hid ih
  refine (tow_yes_i hI.out hJ.out h1 _ _ _ _ _ r.out q.out).mono ?_
  rintro e w1 ⟨rfl, hb⟩
  have szw1 := hb.size
  replace x0 := kept hb (block_lt x0) x0
  replace x1 := kept hb (block_lt x1) x1
  replace y0 := kept hb (block_lt y0) y0
  replace y1 := kept hb (block_lt y1) y1
  replace r := Lib.hid (r.out.bel hb)
  replace q := Lib.hid (q.out.bel hb)
  replace k := Lib.hid (k.out.bel hb)
  replace bb := Lib.hid (bb.out.trans (hb.mono bb.out.size))
  clear hb
  have hbx : Below w1.heap.size w1 (w1.alloc (.cells #[.int .i64 A, .int .i64 B, .int .i64 C, .int .i64 D] 37)) := (Below.refl _ _).alloc (Nat.le_refl _) _
  replace x0 := kept hbx (block_lt x0) x0
  replace x1 := kept hbx (block_lt x1) x1
  replace y0 := kept hbx (block_lt y0) y0
  replace y1 := kept hbx (block_lt y1) y1
  replace r := Lib.hid (r.out.bel hbx)
  replace q := Lib.hid (q.out.bel hbx)
  replace k := Lib.hid (k.out.bel hbx)
  replace bb := Lib.hid (bb.out.trans (hbx.mono bb.out.size))
  clear hbx
  have s0 : (w1.alloc (.cells #[.int .i64 A, .int .i64 B, .int .i64 C, .int .i64 D] 37)).cell? ⟨w1.heap.size, 0, none⟩ = some (.int .i64 A) := by simp
  have s1 : (w1.alloc (.cells #[.int .i64 A, .int .i64 B, .int .i64 C, .int .i64 D] 37)).cell? ⟨w1.heap.size, 1, none⟩ = some (.int .i64 B) := by simp
  have s2 : (w1.alloc (.cells #[.int .i64 A, .int .i64 B, .int .i64 C, .int .i64 D] 37)).cell? ⟨w1.heap.size, 2, none⟩ = some (.int .i64 C) := by simp
  have s3 : (w1.alloc (.cells #[.int .i64 A, .int .i64 B, .int .i64 C, .int .i64 D] 37)).cell? ⟨w1.heap.size, 3, none⟩ = some (.int .i64 D) := by simp
  go_wp2_with fail
  refine (do_ok hI.out ho.out hX.out _ _ _ r.out).mono ?_
  rintro e w2 ⟨⟨ao, co, rfl, ho⟩, hb⟩
  have o := Lib.hid ho.row
  have szw2 : w1.heap.size + 1 ≤ w2.heap.size := by have := hb.size; simpa using this
  replace x0 := kept hb (block_lt x0) x0
  replace x1 := kept hb (block_lt x1) x1
  replace y0 := kept hb (block_lt y0) y0
  replace y1 := kept hb (block_lt y1) y1
  replace s0 := kept hb (block_lt s0) s0
  replace s1 := kept hb (block_lt s1) s1
  replace s2 := kept hb (block_lt s2) s2
  replace s3 := kept hb (block_lt s3) s3
  replace r := Lib.hid (r.out.bel hb)
  replace q := Lib.hid (q.out.bel hb)
  replace k := Lib.hid (k.out.bel hb)
  replace bb := Lib.hid (bb.out.trans (hb.mono bb.out.size))
  clear hb
  clear ho
  have hbx : Below w2.heap.size w2 (w2.alloc (.cells #[.int .i64 K, .slice ao n co] 25)) := (Below.refl _ _).alloc (Nat.le_refl _) _
  replace x0 := kept hbx (block_lt x0) x0
  replace x1 := kept hbx (block_lt x1) x1
  replace y0 := kept hbx (block_lt y0) y0
  replace y1 := kept hbx (block_lt y1) y1
  replace s0 := kept hbx (block_lt s0) s0
  replace s1 := kept hbx (block_lt s1) s1
  replace s2 := kept hbx (block_lt s2) s2
  replace s3 := kept hbx (block_lt s3) s3
  replace r := Lib.hid (r.out.bel hbx)
  replace q := Lib.hid (q.out.bel hbx)
  replace k := Lib.hid (k.out.bel hbx)
  replace o := Lib.hid (o.out.bel hbx)
  replace bb := Lib.hid (bb.out.trans (hbx.mono bb.out.size))
  clear hbx
  have o0 : (w2.alloc (.cells #[.int .i64 K, .slice ao n co] 25)).cell? ⟨w2.heap.size, 0, none⟩ = some (.int .i64 K) := by simp
  have o1 : (w2.alloc (.cells #[.int .i64 K, .slice ao n co] 25)).cell? ⟨w2.heap.size, 1, none⟩ = some (.slice ao n co) := by simp
  go_wp2_with fail
  obtain ⟨W4, hW4⟩ : ∃ W4, w2.alloc (.cells #[.int .i64 K, .slice ao n co] 25) = W4 := ⟨_, rfl⟩
  rw [hW4] at x0 x1 y0 y1 s0 s1 s2 s3 o0 o1 r q k o bb ⊢
  clear hW4
  have rd := o.out.bel (w' := W4.drew) ((Below.refl _ _).drew)
  have qd := q.out.bel (w' := W4.drew) ((Below.refl _ _).drew)
  have kd := k.out.bel (w' := W4.drew) ((Below.refl _ _).drew)
  go_region_law (first | ((go_simp; go_at_call 82; (with_reducible refine (ih.out _ _ _ _ _ _ rd qd kd).mono ?_); rintro e w5 ⟨⟨qp, rfl, hl⟩, hb2⟩; have hb : Below W4.heap.size W4 w5 := (((Below.refl _ _).drew).trans (hb2.mono (Nat.le_refl _))); have s0 := kept hb (block_lt s0) s0; have s1 := kept hb (block_lt s1) s1; have s2 := kept hb (block_lt s2) s2; have s3 := kept hb (block_lt s3) s3; have hl := Lib.hid hl; have bb := Lib.hid (bb.out.trans (hb.mono bb.out.size)); clear hb hb2))) 
  all_goals go_wp2_with fail
  all_goals go_ret
  all_goals refine ⟨⟨some ⟨w5.heap.size, 0, none⟩, rfl, ?_⟩, bb.out.alloc bb.out.size _⟩
  all_goals rw [hp.out]
  all_goals exact ⟨w5.heap.size, qp, rfl, ⟨by simp, by simp, by simp, by simp, by simp⟩, hl.out.bel ((Below.refl _ _).alloc (Nat.le_refl _) _)⟩

set_option maxHeartbeats 2000000 in
theorem ahead_bwd {K n : Nat} {xs ys : List Int} (hI : Im K n xs) (hJ : Im K n ys) {R : List SwT} {A B C D : Nat} (h1 : towL xs ys K n = none) (h2 : towL ys xs K n = some (A, B, C, D)) (ih : ∀ (a' : Option Addr) (c' : Nat) (b' : Option Addr) (d' : Nat) (p' : Option Addr) (w' : World), Row w' a' n (xs) → Row w' b' n (flL ys K n A B C D) → LinkL w' p' ((A, B, C, D) :: R) → Calls Try.prog 82 #[.agg #[.int .i64 K, .slice a' n c'], .agg #[.int .i64 K, .slice b' n d'], .pointer p'] w' (GivesH w' (pathL K n (xs) (flL ys K n A B C D) ++ ((A, B, C, D) :: R)))) (a b : Option Addr) (c d : Nat) (p : Option Addr) (w : World) (hr : Row w a n xs) (hs : Row w b n ys) (hk : LinkL w p R) :
    Calls Try.prog 82 #[.agg #[.int .i64 K, .slice a n c], .agg #[.int .i64 K, .slice b n d], .pointer p] w (GivesH w (pathL K n xs ys ++ R)) := by
  have hK6 := hI.w6
  have hn6 := hI.l6
  obtain ⟨W0, hW0⟩ : ∃ W0, W0 = (w.alloc (.cells #[.int .i64 K, .slice a n c] 25)).alloc (.cells #[.int .i64 K, .slice b n d] 25) := ⟨_, rfl⟩
  have bb : Hid (Below w.heap.size w W0) := by subst hW0; exact ((Below.refl _ _).alloc (Nat.le_refl _) _).alloc (by simp) _
  have x0 : W0.cell? ⟨w.heap.size, 0, none⟩ = some (.int .i64 K) := by subst hW0; go_simp
  have x1 : W0.cell? ⟨w.heap.size, 1, none⟩ = some (.slice a n c) := by subst hW0; go_simp
  have y0 : W0.cell? ⟨w.heap.size + 1, 0, none⟩ = some (.int .i64 K) := by subst hW0; go_simp
  have y1 : W0.cell? ⟨w.heap.size + 1, 1, none⟩ = some (.slice b n d) := by subst hW0; go_simp
  have r := Lib.hid (hr.bel bb.out)
  have q := Lib.hid (hs.bel bb.out)
  have k := Lib.hid (hk.bel bb.out)
  clear hr hs hk
  replace hI := Lib.hid hI
  replace hJ := Lib.hid hJ
  go_enter Try.func82, Try.ntmps82
  go_wp2_with fail
  rw [← hW0]
  clear hW0
  obtain ⟨X, hX⟩ : ∃ X, flL ys K n A B C D = X := ⟨_, rfl⟩
  rw [hX] at ih
  have ho := Lib.hid (tow_ok hJ.out h2)
  have hp : Hid (pathL K n xs ys ++ R = pathL K n xs X ++ ((A, B, C, D) :: R)) := by
    have e := path_bwd h1 h2
    show pathL K n xs ys ++ R = _
    rw [e, ← hX, List.append_assoc]; rfl
  replace hX := Lib.hid hX
  replace ih := Lib.hid ih
  refine (tow_no_i hI.out hJ.out h1 _ _ _ _ _ r.out q.out).mono ?_
  rintro e w1 ⟨rfl, hb⟩
  have szw1 := hb.size
  replace x0 := kept hb (block_lt x0) x0
  replace x1 := kept hb (block_lt x1) x1
  replace y0 := kept hb (block_lt y0) y0
  replace y1 := kept hb (block_lt y1) y1
  replace r := Lib.hid (r.out.bel hb)
  replace q := Lib.hid (q.out.bel hb)
  replace k := Lib.hid (k.out.bel hb)
  replace bb := Lib.hid (bb.out.trans (hb.mono bb.out.size))
  clear hb
  have hbx : Below w1.heap.size w1 (w1.alloc (.cells #[.int .i64 0, .int .i64 0, .int .i64 0, .int .i64 0] 37)) := (Below.refl _ _).alloc (Nat.le_refl _) _
  replace x0 := kept hbx (block_lt x0) x0
  replace x1 := kept hbx (block_lt x1) x1
  replace y0 := kept hbx (block_lt y0) y0
  replace y1 := kept hbx (block_lt y1) y1
  replace r := Lib.hid (r.out.bel hbx)
  replace q := Lib.hid (q.out.bel hbx)
  replace k := Lib.hid (k.out.bel hbx)
  replace bb := Lib.hid (bb.out.trans (hbx.mono bb.out.size))
  clear hbx
  have z0 : (w1.alloc (.cells #[.int .i64 0, .int .i64 0, .int .i64 0, .int .i64 0] 37)).cell? ⟨w1.heap.size, 0, none⟩ = some (.int .i64 0) := by simp
  have z1 : (w1.alloc (.cells #[.int .i64 0, .int .i64 0, .int .i64 0, .int .i64 0] 37)).cell? ⟨w1.heap.size, 1, none⟩ = some (.int .i64 0) := by simp
  have z2 : (w1.alloc (.cells #[.int .i64 0, .int .i64 0, .int .i64 0, .int .i64 0] 37)).cell? ⟨w1.heap.size, 2, none⟩ = some (.int .i64 0) := by simp
  have z3 : (w1.alloc (.cells #[.int .i64 0, .int .i64 0, .int .i64 0, .int .i64 0] 37)).cell? ⟨w1.heap.size, 3, none⟩ = some (.int .i64 0) := by simp
  go_wp2_with fail
  refine (tow_yes_i hJ.out hI.out h2 _ _ _ _ _ q.out r.out).mono ?_
  rintro e w2 ⟨rfl, hb⟩
  have szw2 : w1.heap.size + 1 ≤ w2.heap.size := by have := hb.size; simpa using this
  replace x0 := kept hb (block_lt x0) x0
  replace x1 := kept hb (block_lt x1) x1
  replace y0 := kept hb (block_lt y0) y0
  replace y1 := kept hb (block_lt y1) y1
  replace z0 := kept hb (block_lt z0) z0
  replace z1 := kept hb (block_lt z1) z1
  replace z2 := kept hb (block_lt z2) z2
  replace z3 := kept hb (block_lt z3) z3
  replace r := Lib.hid (r.out.bel hb)
  replace q := Lib.hid (q.out.bel hb)
  replace k := Lib.hid (k.out.bel hb)
  replace bb := Lib.hid (bb.out.trans (hb.mono bb.out.size))
  clear hb
  have hbx : Below w2.heap.size w2 (w2.alloc (.cells #[.int .i64 A, .int .i64 B, .int .i64 C, .int .i64 D] 37)) := (Below.refl _ _).alloc (Nat.le_refl _) _
  replace x0 := kept hbx (block_lt x0) x0
  replace x1 := kept hbx (block_lt x1) x1
  replace y0 := kept hbx (block_lt y0) y0
  replace y1 := kept hbx (block_lt y1) y1
  replace z0 := kept hbx (block_lt z0) z0
  replace z1 := kept hbx (block_lt z1) z1
  replace z2 := kept hbx (block_lt z2) z2
  replace z3 := kept hbx (block_lt z3) z3
  replace r := Lib.hid (r.out.bel hbx)
  replace q := Lib.hid (q.out.bel hbx)
  replace k := Lib.hid (k.out.bel hbx)
  replace bb := Lib.hid (bb.out.trans (hbx.mono bb.out.size))
  clear hbx
  have s0 : (w2.alloc (.cells #[.int .i64 A, .int .i64 B, .int .i64 C, .int .i64 D] 37)).cell? ⟨w2.heap.size, 0, none⟩ = some (.int .i64 A) := by simp
  have s1 : (w2.alloc (.cells #[.int .i64 A, .int .i64 B, .int .i64 C, .int .i64 D] 37)).cell? ⟨w2.heap.size, 1, none⟩ = some (.int .i64 B) := by simp
  have s2 : (w2.alloc (.cells #[.int .i64 A, .int .i64 B, .int .i64 C, .int .i64 D] 37)).cell? ⟨w2.heap.size, 2, none⟩ = some (.int .i64 C) := by simp
  have s3 : (w2.alloc (.cells #[.int .i64 A, .int .i64 B, .int .i64 C, .int .i64 D] 37)).cell? ⟨w2.heap.size, 3, none⟩ = some (.int .i64 D) := by simp
  go_wp2_with fail
  refine (do_ok hJ.out ho.out hX.out _ _ _ q.out).mono ?_
  rintro e w3 ⟨⟨ao, co, rfl, ho⟩, hb⟩
  have o := Lib.hid ho.row
  have szw3 : w2.heap.size + 1 ≤ w3.heap.size := by have := hb.size; simpa using this
  replace x0 := kept hb (block_lt x0) x0
  replace x1 := kept hb (block_lt x1) x1
  replace y0 := kept hb (block_lt y0) y0
  replace y1 := kept hb (block_lt y1) y1
  replace z0 := kept hb (block_lt z0) z0
  replace z1 := kept hb (block_lt z1) z1
  replace z2 := kept hb (block_lt z2) z2
  replace z3 := kept hb (block_lt z3) z3
  replace s0 := kept hb (block_lt s0) s0
  replace s1 := kept hb (block_lt s1) s1
  replace s2 := kept hb (block_lt s2) s2
  replace s3 := kept hb (block_lt s3) s3
  replace r := Lib.hid (r.out.bel hb)
  replace q := Lib.hid (q.out.bel hb)
  replace k := Lib.hid (k.out.bel hb)
  replace bb := Lib.hid (bb.out.trans (hb.mono bb.out.size))
  clear hb
  clear ho
  have hbx : Below w3.heap.size w3 (w3.alloc (.cells #[.int .i64 K, .slice ao n co] 25)) := (Below.refl _ _).alloc (Nat.le_refl _) _
  replace x0 := kept hbx (block_lt x0) x0
  replace x1 := kept hbx (block_lt x1) x1
  replace y0 := kept hbx (block_lt y0) y0
  replace y1 := kept hbx (block_lt y1) y1
  replace z0 := kept hbx (block_lt z0) z0
  replace z1 := kept hbx (block_lt z1) z1
  replace z2 := kept hbx (block_lt z2) z2
  replace z3 := kept hbx (block_lt z3) z3
  replace s0 := kept hbx (block_lt s0) s0
  replace s1 := kept hbx (block_lt s1) s1
  replace s2 := kept hbx (block_lt s2) s2
  replace s3 := kept hbx (block_lt s3) s3
  replace r := Lib.hid (r.out.bel hbx)
  replace q := Lib.hid (q.out.bel hbx)
  replace k := Lib.hid (k.out.bel hbx)
  replace o := Lib.hid (o.out.bel hbx)
  replace bb := Lib.hid (bb.out.trans (hbx.mono bb.out.size))
  clear hbx
  have o0 : (w3.alloc (.cells #[.int .i64 K, .slice ao n co] 25)).cell? ⟨w3.heap.size, 0, none⟩ = some (.int .i64 K) := by simp
  have o1 : (w3.alloc (.cells #[.int .i64 K, .slice ao n co] 25)).cell? ⟨w3.heap.size, 1, none⟩ = some (.slice ao n co) := by simp
  have hbx : Below (w3.alloc (.cells #[.int .i64 K, .slice ao n co] 25)).heap.size (w3.alloc (.cells #[.int .i64 K, .slice ao n co] 25)) ((w3.alloc (.cells #[.int .i64 K, .slice ao n co] 25)).alloc (.cells #[.int .i64 A, .int .i64 B, .int .i64 C, .int .i64 D, .pointer p] 105)) := (Below.refl _ _).alloc (Nat.le_refl _) _
  have hl : LinkL ((w3.alloc (.cells #[.int .i64 K, .slice ao n co] 25)).alloc (.cells #[.int .i64 A, .int .i64 B, .int .i64 C, .int .i64 D, .pointer p] 105)) (some ⟨w3.heap.size + 1, 0, none⟩) ((A, B, C, D) :: R) := ⟨w3.heap.size + 1, p, rfl, ⟨by go_simp, by go_simp, by go_simp, by go_simp, by go_simp⟩, k.out.bel hbx⟩
  have r2 := Lib.hid (r.out.bel hbx)
  have o2 := Lib.hid (o.out.bel hbx)
  replace bb := Lib.hid (bb.out.trans (hbx.mono bb.out.size))
  clear hbx
  go_wp2_with fail
  refine (ih.out _ _ _ _ _ _ r2.out o2.out hl).mono ?_
  rintro e w9 ⟨⟨qp, rfl, hl2⟩, hb⟩
  replace bb := Lib.hid (bb.out.trans (hb.mono bb.out.size))
  clear hb hl
  replace hl2 := Lib.hid hl2
  clear x0 x1 y0 y1 z0 z1 z2 z3 s0 s1 s2 s3 o0 o1 r q k o
  go_wp2_with fail
  go_ret
  exact ⟨⟨qp, rfl, by rw [hp.out]; exact hl2.out⟩, bb.out⟩

theorem ahead_any : ∀ (f : Nat) {K n : Nat} {xs ys : List Int} (_ : Im K n xs) (_ : Im K n ys) {R : List SwT} (_ : farL xs ys K n ≤ f) (a b : Option Addr) (c d : Nat) (p : Option Addr) (w : World) (_ : Row w a n xs) (_ : Row w b n ys) (_ : LinkL w p R),
    Calls Try.prog 82 #[.agg #[.int .i64 K, .slice a n c], .agg #[.int .i64 K, .slice b n d], .pointer p] w (GivesH w (pathL K n xs ys ++ R)) := by
  intro f
  induction f with
  | zero =>
    intro K n xs ys hI hJ R hf a b c d p w hr hs hk
    have h0 := (farl_bd hI ys).1
    have e : farL xs ys K n = 0 := by omega
    exact ahead_none hI hJ (tow_zero e) (tow_zero (by rw [farl_comm]; exact e)) a b c d p w hr hs hk
  | succ f ih =>
    intro K n xs ys hI hJ R hf a b c d p w hr hs hk
    cases h1 : towL xs ys K n with
    | some s =>
      obtain ⟨A, B, C, D⟩ := s
      have hm : farL (flL xs K n A B C D) ys K n < farL xs ys K n := (tow_mem h1).2
      exact ahead_fwd hI hJ h1 (fun a' c' b' d' p' w' h1 h2 h3 => ih (fl_im hI A B C D) hJ (by omega) a' b' c' d' p' w' h1 h2 h3) a b c d p w hr hs hk
    | none =>
      cases h2 : towL ys xs K n with
      | some t =>
        obtain ⟨A, B, C, D⟩ := t
        have hm : farL (flL ys K n A B C D) xs K n < farL ys xs K n := (tow_mem h2).2
        have c1 := farl_comm xs ys K n
        have c2 := farl_comm xs (flL ys K n A B C D) K n
        exact ahead_bwd hI hJ h1 h2 (fun a' c' b' d' p' w' h1 h2 h3 => ih hI (fl_im hJ A B C D) (by omega) a' b' c' d' p' w' h1 h2 h3) a b c d p w hr hs hk
      | none => exact ahead_none hI hJ h1 h2 a b c d p w hr hs hk

/-- Images with the same sums have one shape. -/
theorem same_im {V W : Int} {xs ys : List Int} {n m : Nat} (hx : xs.length = n) (hy : ys.length = m) (h : sameB V xs W ys = true) : ∃ K : Nat, V = K ∧ W = K ∧ n = m ∧ Im K n xs ∧ Im K n ys ∧ SumE xs ys K n := by
  obtain ⟨hv1, hv2, hrs, hcs⟩ := same_parts h
  have hI0 := validB_W hv1
  have hI1 := validB_W hv2
  obtain ⟨K, rfl⟩ := Int.eq_ofNat_of_zero_le (by omega : 0 ≤ V)
  obtain ⟨K2, rfl⟩ := Int.eq_ofNat_of_zero_le (by omega : 0 ≤ W)
  have hI : Im K n xs := Im.of hv1 hx
  have hJ : Im K2 m ys := Im.of hv2 hy
  rw [hI.rs, hJ.rs] at hrs
  rw [hI.cs, hJ.cs] at hcs
  have e1 : n = m := by have := congrArg List.length hrs; rwa [rs_len, rs_len] at this
  have e2 : K = K2 := by have := congrArg List.length hcs; rwa [cs_len, cs_len] at this
  subst e1 e2
  exact ⟨K, rfl, rfl, rfl, hI, hJ, hrs, hcs⟩
/-- What SwitchPath gives. -/
def pathOut (V : Int) (xs : List Int) (W : Int) (ys : List Int) : List SwT := if sameB V xs W ys = true then pathL V.toNat xs.length xs ys else []
theorem pathOut_no {V W : Int} {xs ys : List Int} (h : sameB V xs W ys = false) : pathOut V xs W ys = [] := if_neg (by rw [h]; simp)
theorem pathOut_yes {K n : Nat} {xs ys : List Int} (hI : Im K n xs) (h : sameB K xs K ys = true) : pathOut K xs K ys = pathL K n xs ys := by
  unfold pathOut; rw [if_pos h, hI.hl, Int.toNat_natCast]
def GivesP (w : World) (L : List SwT) (ok : Bool) (e : Ending) (w' : World) : Prop :=
  (∃ a cap, e = .returned (.tuple #[.slice a L.length cap, .bool ok]) ∧ OwnS w' w.heap.size a L.length cap L) ∧ Below w.heap.size w w'
theorem own_none (w : World) (B : Nat) (hB : B ≤ w.heap.size) : OwnS (w.alloc (.cells #[] 37)) B (some ⟨w.heap.size, 0, none⟩) 0 0 [] := by
  have := World.ownsRow_lit (base := B) (e := 37) (size := 4) w #[] 0 hB (by decide) rfl
  simpa [flatS, OwnS] using this

set_option maxHeartbeats 1000000 in
theorem path_impl (V W : Int) (a b : Option Addr) (n m c d : Nat) (xs ys : List Int) (w : World) (h : Row w a n xs) (h' : Row w b m ys) (hm : n ≤ 9223372036854775807) (hm' : m ≤ 9223372036854775807) :
    Calls Try.prog 39 #[.agg #[.int .i64 V, .slice a n c], .agg #[.int .i64 W, .slice b m d]] w (GivesP w (pathOut V xs W ys) (sameB V xs W ys)) := by
  have hlx := Lib.hid h.1
  have hly := Lib.hid h'.1
  obtain ⟨W0, hW0⟩ : ∃ W0, W0 = (w.alloc (.cells #[.int .i64 V, .slice a n c] 25)).alloc (.cells #[.int .i64 W, .slice b m d] 25) := ⟨_, rfl⟩
  have hB : Hid (B2 w W0 V a n c xs W b m d ys) := by subst hW0; exact B2.start h h'
  clear h h'
  have x0 := hB.out.x0
  have x1 := hB.out.x1
  have y0 := hB.out.y0
  have y1 := hB.out.y1
  by_cases hv : sameB V xs W ys = true
  case neg =>
    have hv : sameB V xs W ys = false := by simpa using hv
    rw [pathOut_no hv, hv]
    go_enter Try.func39, Try.ntmps39
    go_wp2_with fail
    rw [← hW0]
    clear hW0
    refine (same_impl V W a b n m c d xs ys _ hB.out.p hB.out.q hm hm').mono ?_
    rintro e w1 ⟨rfl, hb⟩
    replace hB := Lib.hid (hB.out.move hb)
    clear x0 x1 y0 y1 hb
    have x0 := hB.out.x0
    have x1 := hB.out.x1
    have y0 := hB.out.y0
    have y1 := hB.out.y1
    rw [hv]
    clear hv
    go_wp2_with fail
    refine bodyPost_ret (v := .tuple #[.slice (some ⟨w1.heap.size, 0, none⟩) 0 0, .bool false]) (by simp [results, Try.results39, go_sem]) rfl ?_
    exact ⟨⟨_, _, rfl, own_none _ _ hB.out.bel.size⟩, hB.out.bel.alloc hB.out.bel.size _⟩
  obtain ⟨K, rfl, rfl, rfl, hI, hJ, hsum⟩ := same_im hlx.out hly.out hv
  rw [pathOut_yes hI hv, hv]
  have hlen := path_18 hI hJ hsum
  obtain ⟨L, hL⟩ : ∃ L, pathL K n xs ys = L := ⟨_, rfl⟩
  have hA := fun (wx : World) (h1 : Row wx a n xs) (h2 : Row wx b n ys) => ahead_any (farL xs ys K n).toNat hI hJ (R := []) (by have := (farl_bd hI ys).1; omega) a b c d none wx h1 h2 rfl
  rw [hL, List.append_nil] at hA
  rw [hL] at hlen ⊢
  replace hA := Lib.hid hA
  replace hL := Lib.hid hL
  clear hI hJ hsum
  go_enter Try.func39, Try.ntmps39
  go_wp2_with fail
  rw [← hW0]
  clear hW0
  refine (same_impl _ _ a b n n c d xs ys _ hB.out.p hB.out.q hm hm').mono ?_
  rintro e w2 ⟨rfl, hb⟩
  replace hB := Lib.hid (hB.out.move hb)
  clear x0 x1 y0 y1 hb
  have x0 := hB.out.x0
  have x1 := hB.out.x1
  have y0 := hB.out.y0
  have y1 := hB.out.y1
  rw [hv]
  clear hv
  go_wp2_with fail
  refine (hA.out _ hB.out.p hB.out.q).mono ?_
  rintro e w3 ⟨⟨qp, rfl, hl⟩, hb⟩
  replace hB := Lib.hid (hB.out.move hb)
  clear x0 x1 y0 y1 hb
  have x0 := hB.out.x0
  have x1 := hB.out.x1
  have y0 := hB.out.y0
  have y1 := hB.out.y1
  go_wp2_with fail
  refine (steps_any qp L _ hl (by omega)).mono ?_
  rintro e w9 ⟨⟨al, cl, rfl, ho⟩, hb⟩
  have bb := Lib.hid (hB.out.bel.trans (hb.mono hB.out.bel.size))
  have ho2 := Lib.hid (ho.mono hB.out.bel.size)
  clear hb ho hl x0 x1 y0 y1 hB hA
  go_wp2_with fail
  refine bodyPost_ret (v := .tuple #[.slice al L.length cl, .bool true]) (by simp [results, Try.results39, go_sem]) rfl ?_
  exact ⟨⟨al, cl, rfl, ho2.out⟩, bb.out⟩
end Go.Proofs.Yteejopkimlkhoaa

