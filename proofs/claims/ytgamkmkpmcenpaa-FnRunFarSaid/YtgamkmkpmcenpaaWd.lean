/-
  Paths of switches as linked steps: what they are in memory, and the program's function that lists them.
  The contracts of the program's functions that make a path of switches.
  The contracts of the model's functions that make a path of switches.
-/
import Derived.Test.YtgamkmkpmcenpaaQl
import Derived.Test.YtgamkmkpmcenpaaVa
import Derived.Test.YtgamkmkpmcenpaaWa
import Derived.Test.YtgamkmkpmcenpaaWl
import Derived.Test.YtgamkmkpmcenpaaEp
import Derived.Test.YtgamkmkpmcenpaaSk
import Derived.Deep.RegionLaw

namespace Go.Proofs.Ytgamkmkpmcenpaa
set_option maxRecDepth 100000
open Go.RowKit

/-- A list of steps, each with a pointer to the next one. -/
def LinkL (w : World) : Option Addr → List SwT → Prop
  | p, [] => p = none
  | p, s :: L => ∃ (g : Nat) (q : Option Addr), p = some ⟨g, 0, none⟩ ∧ (w.cell? ⟨g, 0, none⟩ = some (.int .i64 s.1) ∧ w.cell? ⟨g, 1, none⟩ = some (.int .i64 s.2.1) ∧ w.cell? ⟨g, 2, none⟩ = some (.int .i64 s.2.2.1) ∧ w.cell? ⟨g, 3, none⟩ = some (.int .i64 s.2.2.2) ∧ w.cell? ⟨g, 4, none⟩ = some (.pointer q)) ∧ LinkL w q L
theorem link_bel {w w' : World} (hb : Below w.heap.size w w') : ∀ {L : List SwT} {p : Option Addr}, LinkL w p L → LinkL w' p L
  | [], _, h => h
  | _ :: _, _, ⟨g, q, e, ⟨h0, h1, h2, h3, h4⟩, hl⟩ => ⟨g, q, e, ⟨kept hb (block_lt h0) h0, kept hb (block_lt h1) h1, kept hb (block_lt h2) h2, kept hb (block_lt h3) h3, kept hb (block_lt h4) h4⟩, link_bel hb hl⟩
theorem LinkL.bel {w w' : World} {L : List SwT} {p : Option Addr} (h : LinkL w p L) (hb : Below w.heap.size w w') : LinkL w' p L := link_bel hb h
def lenV : Value → Nat
  | .slice _ n _ => n
  | _ => 0

set_option maxHeartbeats 1000000 in
theorem steps_any (p : Option Addr) (L : List SwT) (w : World) (h : LinkL w p L) (hN : L.length ≤ 1000) :
    Calls Try.prog 79 #[.pointer p] w (GivesO w L) := by
  obtain ⟨W0, hW0⟩ : ∃ W0, W0 = w.alloc (.cells #[] 37) := ⟨_, rfl⟩
  have hO : Hid (W0.ownsRow w.heap.size 37 4 (.slice (some ⟨w.heap.size, 0, none⟩) 0 0) 0 ((flatS []).map (Value.int .i64))) := by
    subst hW0
    have := World.ownsRow_lit (base := w.heap.size) (e := 37) (size := 4) w #[] 0 (Nat.le_refl _) (by decide) rfl
    exact Lib.hid (by simpa [flatS] using this)
  have bb : Hid (Below w.heap.size w W0) := by subst hW0; exact (Below.refl _ _).alloc (Nat.le_refl _) _
  replace h := Lib.hid h
  go_enter Try.func79, Try.ntmps79
  go_wp2_with fail
  rw [← hW0]
  clear hW0
  go_loopw [3, 4] (fun o i wr => ∃ (pre rest : List SwT) (p' : Option Addr) (g c N : Nat), Hid (L = pre ++ rest) ∧ i = .pointer p' ∧ Hid (LinkL w p' rest) ∧ o = .slice (some ⟨g, 0, none⟩) N c ∧ Hid (pre.length = N) ∧ w.heap.size ≤ g ∧ Hid (wr.ownsRow w.heap.size 37 4 (.slice (some ⟨g, 0, none⟩) N c) N ((flatS pre).map (Value.int .i64))) ∧ Hid (Below w.heap.size w wr)) (fun o _ _ => L.length - lenV o)
  case atStart => exact ⟨[], L, p, w.heap.size, 0, 0, Lib.hid rfl, rfl, h, rfl, Lib.hid rfl, Nat.le_refl _, hO, bb⟩
  case round =>
    clear h hO bb
    obtain ⟨pre, rest, p', g, c, N, hL, rfl, hlk, rfl, hpl, hg, hO, bb⟩ := hrel
    have hln := congrArg List.length hL.out
    rw [List.length_append, hpl.out] at hln
    cases rest with
    | nil =>
      have e : p' = none := hlk.out
      subst e
      have eL : L = pre := by have := hL.out; simpa using this
      subst eL
      go_wp2_with fail
      go_ret
      rw [← hpl.out]
      rw [← hpl.out] at hO
      exact ⟨⟨_, _, rfl, hO.out⟩, bb.out⟩
    | cons s rest =>
      obtain ⟨g0, q, rfl, ⟨h0, h1, h2, h3, h4⟩, hl⟩ := hlk.out
      have s0 := kept bb.out (block_lt h0) h0
      have s1 := kept bb.out (block_lt h1) h1
      have s2 := kept bb.out (block_lt h2) h2
      have s3 := kept bb.out (block_lt h3) h3
      have s4 := kept bb.out (block_lt h4) h4
      have lg0 : g0 < w.heap.size := block_lt h0
      replace hl := Lib.hid hl
      replace h4 := Lib.hid h4
      obtain ⟨A, hA⟩ : ∃ A : Int, (s.1 : Int) = A := ⟨_, rfl⟩
      obtain ⟨B, hB⟩ : ∃ B : Int, (s.2.1 : Int) = B := ⟨_, rfl⟩
      obtain ⟨C, hC⟩ : ∃ C : Int, (s.2.2.1 : Int) = C := ⟨_, rfl⟩
      obtain ⟨D, hD⟩ : ∃ D : Int, (s.2.2.2 : Int) = D := ⟨_, rfl⟩
      have hfl : Hid (flatS (pre ++ [s]) = flatS pre ++ [A, B, C, D]) := by
        have := sflat_snoc pre s.1 s.2.1 s.2.2.1 s.2.2.2
        rw [hA, hB, hC, hD] at this; exact this
      rw [hA] at s0
      rw [hB] at s1
      rw [hC] at s2
      rw [hD] at s3
      have hz := bb.out.size
      have hown := hO.out
      replace hO := Lib.hid hO
      rw [List.length_cons] at hln
      clear hlk h0 h1 h2 h3 hA hB hC hD
      go_wp2_with (at_builtin; refine wpList_append_sw rfl _ _ rfl w.heap.size g N c (flatS pre) rfl (World.ownsRow.alloc hown _) wr.heap.size rfl A B C D (by simp) (by simp) (by simp) (by simp) (by omega) (by simp; omega) ?_)
      intro g' c' w6 hown1 hgr hlies
      have hb6 : Below w.heap.size w w6 := (bb.out.alloc hz _).grown hgr (Nat.le_trans hz (by simp)) (fun k hk => by cases hk; omega)
      have s5 := kept hb6 (block_lt h4.out) h4.out
      have hg' : w.heap.size ≤ g' := by rcases hlies with h | h <;> (try simp at h) <;> omega
      have hown2 := Lib.hid hown1
      have bb6 := Lib.hid hb6
      clear hown1 hgr hlies hb6 hown hO s0 s1 s2 s3 s4 bb
      go_wp2_with fail
      exact ⟨⟨pre ++ [s], rest, q, g', c', N + 1, Lib.hid (by rw [hL.out]; simp), rfl, hl, rfl, Lib.hid (by rw [List.length_append, hpl.out]; rfl), hg', Lib.hid (by rw [hfl.out, List.map_append]; exact hown2.out), bb6⟩, by simp [lenV]; omega⟩
end Go.Proofs.Ytgamkmkpmcenpaa

namespace Go.Proofs.Ytgamkmkpmcenpaa
set_option maxRecDepth 100000
open Go.RowKit

theorem tow_no_i {K n : Nat} {xs ys : List Int} (hI : Im K n xs) (hJ : Im K n ys) (h : towL xs ys K n = none) (a b : Option Addr) (c d : Nat) (w : World) (hr : Row w a n xs) (hs : Row w b n ys) :
    Calls Try.prog 31 #[.agg #[.int .i64 K, .slice a n c], .agg #[.int .i64 K, .slice b n d]] w fun e w' => e = .returned (.tuple #[.agg #[.int .i64 0, .int .i64 0, .int .i64 0, .int .i64 0], .bool false]) ∧ Below w.heap.size w w' := by
  have hc := tow_impl (K : Int) K a b n n c d xs ys w hr hs (by have := hI.l6; omega) (by have := hI.l6; omega)
  rw [towOut_yes hI hJ, h] at hc
  exact hc
theorem tow_yes_i {K n : Nat} {xs ys : List Int} (hI : Im K n xs) (hJ : Im K n ys) {A B C D : Nat} (h : towL xs ys K n = some (A, B, C, D)) (a b : Option Addr) (c d : Nat) (w : World) (hr : Row w a n xs) (hs : Row w b n ys) :
    Calls Try.prog 31 #[.agg #[.int .i64 K, .slice a n c], .agg #[.int .i64 K, .slice b n d]] w fun e w' => e = .returned (.tuple #[.agg #[.int .i64 A, .int .i64 B, .int .i64 C, .int .i64 D], .bool true]) ∧ Below w.heap.size w w' := by
  have hc := tow_impl (K : Int) K a b n n c d xs ys w hr hs (by have := hI.l6; omega) (by have := hI.l6; omega)
  rw [towOut_yes hI hJ, h] at hc
  exact hc
theorem tow_ok {K n : Nat} {xs ys : List Int} (hI : Im K n xs) {A B C D : Nat} (h : towL xs ys K n = some (A, B, C, D)) : okB K xs A B C D = true := by
  have a := sw_at (tow_mem h).1
  exact (okB_yes hI a.1 a.2.1 a.2.2.1 a.2.2.2.1).trans a.2.2.2.2
/-- What pathAhead gives: a list of steps. -/
def GivesH (w : World) (L : List SwT) (e : Ending) (w' : World) : Prop := (∃ q : Option Addr, e = .returned (.pointer q) ∧ LinkL w' q L) ∧ Below w.heap.size w w'

set_option maxHeartbeats 1000000 in
theorem ahead_none {K n : Nat} {xs ys : List Int} (hI : Im K n xs) (hJ : Im K n ys) {R : List SwT} (h1 : towL xs ys K n = none) (h2 : towL ys xs K n = none) (a b : Option Addr) (c d : Nat) (p : Option Addr) (w : World) (hr : Row w a n xs) (hs : Row w b n ys) (hk : LinkL w p R) :
    Calls Try.prog 78 #[.agg #[.int .i64 K, .slice a n c], .agg #[.int .i64 K, .slice b n d], .pointer p] w (GivesH w (pathL K n xs ys ++ R)) := by
  have hK6 := hI.w6
  have hn6 := hI.l6
  obtain ⟨W0, hW0⟩ : ∃ W0, W0 = (w.alloc (.cells #[.int .i64 K, .slice a n c] 25)).alloc (.cells #[.int .i64 K, .slice b n d] 25) := ⟨_, rfl⟩
  have bb : Hid (Below w.heap.size w W0) := by subst hW0; exact ((Below.refl _ _).alloc (Nat.le_refl _) _).alloc (by simp) _
  have x0 : W0.cell? ⟨w.heap.size, 0, none⟩ = some (.int .i64 K) := by subst hW0; go_simp
  have x1 : W0.cell? ⟨w.heap.size, 1, none⟩ = some (.slice a n c) := by subst hW0; go_simp
  have y0 : W0.cell? ⟨w.heap.size + 1, 0, none⟩ = some (.int .i64 K) := by subst hW0; go_simp
  have y1 : W0.cell? ⟨w.heap.size + 1, 1, none⟩ = some (.slice b n d) := by subst hW0; go_simp
  have r := Lib.hid (hr.bel bb.out)
  have q := Lib.hid (hs.bel bb.out)
  have k := Lib.hid (hk.bel bb.out)
  clear hr hs hk
  replace hI := Lib.hid hI
  replace hJ := Lib.hid hJ
  go_enter Try.func78, Try.ntmps78
  go_wp2_with fail
  rw [← hW0]
  clear hW0
  refine (tow_no_i hI.out hJ.out h1 _ _ _ _ _ r.out q.out).mono ?_
  rintro e w1 ⟨rfl, hb⟩
  have szw1 := hb.size
  replace x0 := kept hb (block_lt x0) x0
  replace x1 := kept hb (block_lt x1) x1
  replace y0 := kept hb (block_lt y0) y0
  replace y1 := kept hb (block_lt y1) y1
  replace r := Lib.hid (r.out.bel hb)
  replace q := Lib.hid (q.out.bel hb)
  replace k := Lib.hid (k.out.bel hb)
  replace bb := Lib.hid (bb.out.trans (hb.mono bb.out.size))
  clear hb
  have hbx : Below w1.heap.size w1 (w1.alloc (.cells #[.int .i64 0, .int .i64 0, .int .i64 0, .int .i64 0] 37)) := (Below.refl _ _).alloc (Nat.le_refl _) _
  replace x0 := kept hbx (block_lt x0) x0
  replace x1 := kept hbx (block_lt x1) x1
  replace y0 := kept hbx (block_lt y0) y0
  replace y1 := kept hbx (block_lt y1) y1
  replace r := Lib.hid (r.out.bel hbx)
  replace q := Lib.hid (q.out.bel hbx)
  replace k := Lib.hid (k.out.bel hbx)
  replace bb := Lib.hid (bb.out.trans (hbx.mono bb.out.size))
  clear hbx
  have z0 : (w1.alloc (.cells #[.int .i64 0, .int .i64 0, .int .i64 0, .int .i64 0] 37)).cell? ⟨w1.heap.size, 0, none⟩ = some (.int .i64 0) := by simp
  have z1 : (w1.alloc (.cells #[.int .i64 0, .int .i64 0, .int .i64 0, .int .i64 0] 37)).cell? ⟨w1.heap.size, 1, none⟩ = some (.int .i64 0) := by simp
  have z2 : (w1.alloc (.cells #[.int .i64 0, .int .i64 0, .int .i64 0, .int .i64 0] 37)).cell? ⟨w1.heap.size, 2, none⟩ = some (.int .i64 0) := by simp
  have z3 : (w1.alloc (.cells #[.int .i64 0, .int .i64 0, .int .i64 0, .int .i64 0] 37)).cell? ⟨w1.heap.size, 3, none⟩ = some (.int .i64 0) := by simp
  go_wp2_with fail
  refine (tow_no_i hJ.out hI.out h2 _ _ _ _ _ q.out r.out).mono ?_
  rintro e w2 ⟨rfl, hb⟩
  have szw2 : w1.heap.size + 1 ≤ w2.heap.size := by have := hb.size; simpa using this
  replace x0 := kept hb (block_lt x0) x0
  replace x1 := kept hb (block_lt x1) x1
  replace y0 := kept hb (block_lt y0) y0
  replace y1 := kept hb (block_lt y1) y1
  replace z0 := kept hb (block_lt z0) z0
  replace z1 := kept hb (block_lt z1) z1
  replace z2 := kept hb (block_lt z2) z2
  replace z3 := kept hb (block_lt z3) z3
  replace r := Lib.hid (r.out.bel hb)
  replace q := Lib.hid (q.out.bel hb)
  replace k := Lib.hid (k.out.bel hb)
  replace bb := Lib.hid (bb.out.trans (hb.mono bb.out.size))
  clear hb
  have hbx : Below w2.heap.size w2 (w2.alloc (.cells #[.int .i64 0, .int .i64 0, .int .i64 0, .int .i64 0] 37)) := (Below.refl _ _).alloc (Nat.le_refl _) _
  replace x0 := kept hbx (block_lt x0) x0
  replace x1 := kept hbx (block_lt x1) x1
  replace y0 := kept hbx (block_lt y0) y0
  replace y1 := kept hbx (block_lt y1) y1
  replace z0 := kept hbx (block_lt z0) z0
  replace z1 := kept hbx (block_lt z1) z1
  replace z2 := kept hbx (block_lt z2) z2
  replace z3 := kept hbx (block_lt z3) z3
  replace r := Lib.hid (r.out.bel hbx)
  replace q := Lib.hid (q.out.bel hbx)
  replace k := Lib.hid (k.out.bel hbx)
  replace bb := Lib.hid (bb.out.trans (hbx.mono bb.out.size))
  clear hbx
  have u0 : (w2.alloc (.cells #[.int .i64 0, .int .i64 0, .int .i64 0, .int .i64 0] 37)).cell? ⟨w2.heap.size, 0, none⟩ = some (.int .i64 0) := by simp
  have u1 : (w2.alloc (.cells #[.int .i64 0, .int .i64 0, .int .i64 0, .int .i64 0] 37)).cell? ⟨w2.heap.size, 1, none⟩ = some (.int .i64 0) := by simp
  have u2 : (w2.alloc (.cells #[.int .i64 0, .int .i64 0, .int .i64 0, .int .i64 0] 37)).cell? ⟨w2.heap.size, 2, none⟩ = some (.int .i64 0) := by simp
  have u3 : (w2.alloc (.cells #[.int .i64 0, .int .i64 0, .int .i64 0, .int .i64 0] 37)).cell? ⟨w2.heap.size, 3, none⟩ = some (.int .i64 0) := by simp
  go_wp2_with fail
  go_ret
  exact ⟨⟨p, rfl, by rw [path_nil h1 h2]; exact k.out⟩, bb.out⟩

set_option maxHeartbeats 2000000 in
theorem ahead_fwd {K n : Nat} {xs ys : List Int} (hI : Im K n xs) (hJ : Im K n ys) {R : List SwT} {A B C D : Nat} (h1 : towL xs ys K n = some (A, B, C, D)) (ih : ∀ (a' : Option Addr) (c' : Nat) (b' : Option Addr) (d' : Nat) (p' : Option Addr) (w' : World), Row w' a' n (flL xs K n A B C D) → Row w' b' n (ys) → LinkL w' p' (R) → Calls Try.prog 78 #[.agg #[.int .i64 K, .slice a' n c'], .agg #[.int .i64 K, .slice b' n d'], .pointer p'] w' (GivesH w' (pathL K n (flL xs K n A B C D) (ys) ++ (R)))) (a b : Option Addr) (c d : Nat) (p : Option Addr) (w : World) (hr : Row w a n xs) (hs : Row w b n ys) (hk : LinkL w p R) :
    Calls Try.prog 78 #[.agg #[.int .i64 K, .slice a n c], .agg #[.int .i64 K, .slice b n d], .pointer p] w (GivesH w (pathL K n xs ys ++ R)) := by
  have hK6 := hI.w6
  have hn6 := hI.l6
  obtain ⟨W0, hW0⟩ : ∃ W0, W0 = (w.alloc (.cells #[.int .i64 K, .slice a n c] 25)).alloc (.cells #[.int .i64 K, .slice b n d] 25) := ⟨_, rfl⟩
  have bb : Hid (Below w.heap.size w W0) := by subst hW0; exact ((Below.refl _ _).alloc (Nat.le_refl _) _).alloc (by simp) _
  have x0 : W0.cell? ⟨w.heap.size, 0, none⟩ = some (.int .i64 K) := by subst hW0; go_simp
  have x1 : W0.cell? ⟨w.heap.size, 1, none⟩ = some (.slice a n c) := by subst hW0; go_simp
  have y0 : W0.cell? ⟨w.heap.size + 1, 0, none⟩ = some (.int .i64 K) := by subst hW0; go_simp
  have y1 : W0.cell? ⟨w.heap.size + 1, 1, none⟩ = some (.slice b n d) := by subst hW0; go_simp
  have r := Lib.hid (hr.bel bb.out)
  have q := Lib.hid (hs.bel bb.out)
  have k := Lib.hid (hk.bel bb.out)
  clear hr hs hk
  replace hI := Lib.hid hI
  replace hJ := Lib.hid hJ
  go_enter Try.func78, Try.ntmps78
  go_wp2_with fail
  rw [← hW0]
  clear hW0
  obtain ⟨X, hX⟩ : ∃ X, flL xs K n A B C D = X := ⟨_, rfl⟩
  rw [hX] at ih
  have ho := Lib.hid (tow_ok hI.out h1)
  have hp : Hid (pathL K n xs ys ++ R = (A, B, C, D) :: (pathL K n X ys ++ R)) := by
    have e := path_fwd h1
    show pathL K n xs ys ++ R = _
    rw [e, List.cons_append, ← hX]; rfl
  replace hX := Lib.hid hX
  replace ih := Lib.hid ih
  refine (tow_yes_i hI.out hJ.out h1 _ _ _ _ _ r.out q.out).mono ?_
  rintro e w1 ⟨rfl, hb⟩
  have szw1 := hb.size
  replace x0 := kept hb (block_lt x0) x0
  replace x1 := kept hb (block_lt x1) x1
  replace y0 := kept hb (block_lt y0) y0
  replace y1 := kept hb (block_lt y1) y1
  replace r := Lib.hid (r.out.bel hb)
  replace q := Lib.hid (q.out.bel hb)
  replace k := Lib.hid (k.out.bel hb)
  replace bb := Lib.hid (bb.out.trans (hb.mono bb.out.size))
  clear hb
  have hbx : Below w1.heap.size w1 (w1.alloc (.cells #[.int .i64 A, .int .i64 B, .int .i64 C, .int .i64 D] 37)) := (Below.refl _ _).alloc (Nat.le_refl _) _
  replace x0 := kept hbx (block_lt x0) x0
  replace x1 := kept hbx (block_lt x1) x1
  replace y0 := kept hbx (block_lt y0) y0
  replace y1 := kept hbx (block_lt y1) y1
  replace r := Lib.hid (r.out.bel hbx)
  replace q := Lib.hid (q.out.bel hbx)
  replace k := Lib.hid (k.out.bel hbx)
  replace bb := Lib.hid (bb.out.trans (hbx.mono bb.out.size))
  clear hbx
  have s0 : (w1.alloc (.cells #[.int .i64 A, .int .i64 B, .int .i64 C, .int .i64 D] 37)).cell? ⟨w1.heap.size, 0, none⟩ = some (.int .i64 A) := by simp
  have s1 : (w1.alloc (.cells #[.int .i64 A, .int .i64 B, .int .i64 C, .int .i64 D] 37)).cell? ⟨w1.heap.size, 1, none⟩ = some (.int .i64 B) := by simp
  have s2 : (w1.alloc (.cells #[.int .i64 A, .int .i64 B, .int .i64 C, .int .i64 D] 37)).cell? ⟨w1.heap.size, 2, none⟩ = some (.int .i64 C) := by simp
  have s3 : (w1.alloc (.cells #[.int .i64 A, .int .i64 B, .int .i64 C, .int .i64 D] 37)).cell? ⟨w1.heap.size, 3, none⟩ = some (.int .i64 D) := by simp
  go_wp2_with fail
  refine (do_ok hI.out ho.out hX.out _ _ _ r.out).mono ?_
  rintro e w2 ⟨⟨ao, co, rfl, ho⟩, hb⟩
  have o := Lib.hid ho.row
  have szw2 : w1.heap.size + 1 ≤ w2.heap.size := by have := hb.size; simpa using this
  replace x0 := kept hb (block_lt x0) x0
  replace x1 := kept hb (block_lt x1) x1
  replace y0 := kept hb (block_lt y0) y0
  replace y1 := kept hb (block_lt y1) y1
  replace s0 := kept hb (block_lt s0) s0
  replace s1 := kept hb (block_lt s1) s1
  replace s2 := kept hb (block_lt s2) s2
  replace s3 := kept hb (block_lt s3) s3
  replace r := Lib.hid (r.out.bel hb)
  replace q := Lib.hid (q.out.bel hb)
  replace k := Lib.hid (k.out.bel hb)
  replace bb := Lib.hid (bb.out.trans (hb.mono bb.out.size))
  clear hb
  clear ho
  have hbx : Below w2.heap.size w2 (w2.alloc (.cells #[.int .i64 K, .slice ao n co] 25)) := (Below.refl _ _).alloc (Nat.le_refl _) _
  replace x0 := kept hbx (block_lt x0) x0
  replace x1 := kept hbx (block_lt x1) x1
  replace y0 := kept hbx (block_lt y0) y0
  replace y1 := kept hbx (block_lt y1) y1
  replace s0 := kept hbx (block_lt s0) s0
  replace s1 := kept hbx (block_lt s1) s1
  replace s2 := kept hbx (block_lt s2) s2
  replace s3 := kept hbx (block_lt s3) s3
  replace r := Lib.hid (r.out.bel hbx)
  replace q := Lib.hid (q.out.bel hbx)
  replace k := Lib.hid (k.out.bel hbx)
  replace o := Lib.hid (o.out.bel hbx)
  replace bb := Lib.hid (bb.out.trans (hbx.mono bb.out.size))
  clear hbx
  have o0 : (w2.alloc (.cells #[.int .i64 K, .slice ao n co] 25)).cell? ⟨w2.heap.size, 0, none⟩ = some (.int .i64 K) := by simp
  have o1 : (w2.alloc (.cells #[.int .i64 K, .slice ao n co] 25)).cell? ⟨w2.heap.size, 1, none⟩ = some (.slice ao n co) := by simp
  go_wp2_with fail
  obtain ⟨W4, hW4⟩ : ∃ W4, w2.alloc (.cells #[.int .i64 K, .slice ao n co] 25) = W4 := ⟨_, rfl⟩
  rw [hW4] at x0 x1 y0 y1 s0 s1 s2 s3 o0 o1 r q k o bb ⊢
  clear hW4
  have rd := o.out.bel (w' := W4.drew) ((Below.refl _ _).drew)
  have qd := q.out.bel (w' := W4.drew) ((Below.refl _ _).drew)
  have kd := k.out.bel (w' := W4.drew) ((Below.refl _ _).drew)
  go_region_law (first | ((go_simp; go_at_call 78; (with_reducible refine (ih.out _ _ _ _ _ _ rd qd kd).mono ?_); rintro e w5 ⟨⟨qp, rfl, hl⟩, hb2⟩; have hb : Below W4.heap.size W4 w5 := (((Below.refl _ _).drew).trans (hb2.mono (Nat.le_refl _))); have s0 := kept hb (block_lt s0) s0; have s1 := kept hb (block_lt s1) s1; have s2 := kept hb (block_lt s2) s2; have s3 := kept hb (block_lt s3) s3; have hl := Lib.hid hl; have bb := Lib.hid (bb.out.trans (hb.mono bb.out.size)); clear hb hb2))) 
  all_goals go_wp2_with fail
  all_goals go_ret
  all_goals refine ⟨⟨some ⟨w5.heap.size, 0, none⟩, rfl, ?_⟩, bb.out.alloc bb.out.size _⟩
  all_goals rw [hp.out]
  all_goals exact ⟨w5.heap.size, qp, rfl, ⟨by simp, by simp, by simp, by simp, by simp⟩, hl.out.bel ((Below.refl _ _).alloc (Nat.le_refl _) _)⟩

set_option maxHeartbeats 2000000 in
theorem ahead_bwd {K n : Nat} {xs ys : List Int} (hI : Im K n xs) (hJ : Im K n ys) {R : List SwT} {A B C D : Nat} (h1 : towL xs ys K n = none) (h2 : towL ys xs K n = some (A, B, C, D)) (ih : ∀ (a' : Option Addr) (c' : Nat) (b' : Option Addr) (d' : Nat) (p' : Option Addr) (w' : World), Row w' a' n (xs) → Row w' b' n (flL ys K n A B C D) → LinkL w' p' ((A, B, C, D) :: R) → Calls Try.prog 78 #[.agg #[.int .i64 K, .slice a' n c'], .agg #[.int .i64 K, .slice b' n d'], .pointer p'] w' (GivesH w' (pathL K n (xs) (flL ys K n A B C D) ++ ((A, B, C, D) :: R)))) (a b : Option Addr) (c d : Nat) (p : Option Addr) (w : World) (hr : Row w a n xs) (hs : Row w b n ys) (hk : LinkL w p R) :
    Calls Try.prog 78 #[.agg #[.int .i64 K, .slice a n c], .agg #[.int .i64 K, .slice b n d], .pointer p] w (GivesH w (pathL K n xs ys ++ R)) := by
  have hK6 := hI.w6
  have hn6 := hI.l6
  obtain ⟨W0, hW0⟩ : ∃ W0, W0 = (w.alloc (.cells #[.int .i64 K, .slice a n c] 25)).alloc (.cells #[.int .i64 K, .slice b n d] 25) := ⟨_, rfl⟩
  have bb : Hid (Below w.heap.size w W0) := by subst hW0; exact ((Below.refl _ _).alloc (Nat.le_refl _) _).alloc (by simp) _
  have x0 : W0.cell? ⟨w.heap.size, 0, none⟩ = some (.int .i64 K) := by subst hW0; go_simp
  have x1 : W0.cell? ⟨w.heap.size, 1, none⟩ = some (.slice a n c) := by subst hW0; go_simp
  have y0 : W0.cell? ⟨w.heap.size + 1, 0, none⟩ = some (.int .i64 K) := by subst hW0; go_simp
  have y1 : W0.cell? ⟨w.heap.size + 1, 1, none⟩ = some (.slice b n d) := by subst hW0; go_simp
  have r := Lib.hid (hr.bel bb.out)
  have q := Lib.hid (hs.bel bb.out)
  have k := Lib.hid (hk.bel bb.out)
  clear hr hs hk
  replace hI := Lib.hid hI
  replace hJ := Lib.hid hJ
  go_enter Try.func78, Try.ntmps78
  go_wp2_with fail
  rw [← hW0]
  clear hW0
  obtain ⟨X, hX⟩ : ∃ X, flL ys K n A B C D = X := ⟨_, rfl⟩
  rw [hX] at ih
  have ho := Lib.hid (tow_ok hJ.out h2)
  have hp : Hid (pathL K n xs ys ++ R = pathL K n xs X ++ ((A, B, C, D) :: R)) := by
    have e := path_bwd h1 h2
    show pathL K n xs ys ++ R = _
    rw [e, ← hX, List.append_assoc]; rfl
  replace hX := Lib.hid hX
  replace ih := Lib.hid ih
  refine (tow_no_i hI.out hJ.out h1 _ _ _ _ _ r.out q.out).mono ?_
  rintro e w1 ⟨rfl, hb⟩
  have szw1 := hb.size
  replace x0 := kept hb (block_lt x0) x0
  replace x1 := kept hb (block_lt x1) x1
  replace y0 := kept hb (block_lt y0) y0
  replace y1 := kept hb (block_lt y1) y1
  replace r := Lib.hid (r.out.bel hb)
  replace q := Lib.hid (q.out.bel hb)
  replace k := Lib.hid (k.out.bel hb)
  replace bb := Lib.hid (bb.out.trans (hb.mono bb.out.size))
  clear hb
  have hbx : Below w1.heap.size w1 (w1.alloc (.cells #[.int .i64 0, .int .i64 0, .int .i64 0, .int .i64 0] 37)) := (Below.refl _ _).alloc (Nat.le_refl _) _
  replace x0 := kept hbx (block_lt x0) x0
  replace x1 := kept hbx (block_lt x1) x1
  replace y0 := kept hbx (block_lt y0) y0
  replace y1 := kept hbx (block_lt y1) y1
  replace r := Lib.hid (r.out.bel hbx)
  replace q := Lib.hid (q.out.bel hbx)
  replace k := Lib.hid (k.out.bel hbx)
  replace bb := Lib.hid (bb.out.trans (hbx.mono bb.out.size))
  clear hbx
  have z0 : (w1.alloc (.cells #[.int .i64 0, .int .i64 0, .int .i64 0, .int .i64 0] 37)).cell? ⟨w1.heap.size, 0, none⟩ = some (.int .i64 0) := by simp
  have z1 : (w1.alloc (.cells #[.int .i64 0, .int .i64 0, .int .i64 0, .int .i64 0] 37)).cell? ⟨w1.heap.size, 1, none⟩ = some (.int .i64 0) := by simp
  have z2 : (w1.alloc (.cells #[.int .i64 0, .int .i64 0, .int .i64 0, .int .i64 0] 37)).cell? ⟨w1.heap.size, 2, none⟩ = some (.int .i64 0) := by simp
  have z3 : (w1.alloc (.cells #[.int .i64 0, .int .i64 0, .int .i64 0, .int .i64 0] 37)).cell? ⟨w1.heap.size, 3, none⟩ = some (.int .i64 0) := by simp
  go_wp2_with fail
  refine (tow_yes_i hJ.out hI.out h2 _ _ _ _ _ q.out r.out).mono ?_
  rintro e w2 ⟨rfl, hb⟩
  have szw2 : w1.heap.size + 1 ≤ w2.heap.size := by have := hb.size; simpa using this
  replace x0 := kept hb (block_lt x0) x0
  replace x1 := kept hb (block_lt x1) x1
  replace y0 := kept hb (block_lt y0) y0
  replace y1 := kept hb (block_lt y1) y1
  replace z0 := kept hb (block_lt z0) z0
  replace z1 := kept hb (block_lt z1) z1
  replace z2 := kept hb (block_lt z2) z2
  replace z3 := kept hb (block_lt z3) z3
  replace r := Lib.hid (r.out.bel hb)
  replace q := Lib.hid (q.out.bel hb)
  replace k := Lib.hid (k.out.bel hb)
  replace bb := Lib.hid (bb.out.trans (hb.mono bb.out.size))
  clear hb
  have hbx : Below w2.heap.size w2 (w2.alloc (.cells #[.int .i64 A, .int .i64 B, .int .i64 C, .int .i64 D] 37)) := (Below.refl _ _).alloc (Nat.le_refl _) _
  replace x0 := kept hbx (block_lt x0) x0
  replace x1 := kept hbx (block_lt x1) x1
  replace y0 := kept hbx (block_lt y0) y0
  replace y1 := kept hbx (block_lt y1) y1
  replace z0 := kept hbx (block_lt z0) z0
  replace z1 := kept hbx (block_lt z1) z1
  replace z2 := kept hbx (block_lt z2) z2
  replace z3 := kept hbx (block_lt z3) z3
  replace r := Lib.hid (r.out.bel hbx)
  replace q := Lib.hid (q.out.bel hbx)
  replace k := Lib.hid (k.out.bel hbx)
  replace bb := Lib.hid (bb.out.trans (hbx.mono bb.out.size))
  clear hbx
  have s0 : (w2.alloc (.cells #[.int .i64 A, .int .i64 B, .int .i64 C, .int .i64 D] 37)).cell? ⟨w2.heap.size, 0, none⟩ = some (.int .i64 A) := by simp
  have s1 : (w2.alloc (.cells #[.int .i64 A, .int .i64 B, .int .i64 C, .int .i64 D] 37)).cell? ⟨w2.heap.size, 1, none⟩ = some (.int .i64 B) := by simp
  have s2 : (w2.alloc (.cells #[.int .i64 A, .int .i64 B, .int .i64 C, .int .i64 D] 37)).cell? ⟨w2.heap.size, 2, none⟩ = some (.int .i64 C) := by simp
  have s3 : (w2.alloc (.cells #[.int .i64 A, .int .i64 B, .int .i64 C, .int .i64 D] 37)).cell? ⟨w2.heap.size, 3, none⟩ = some (.int .i64 D) := by simp
  go_wp2_with fail
  refine (do_ok hJ.out ho.out hX.out _ _ _ q.out).mono ?_
  rintro e w3 ⟨⟨ao, co, rfl, ho⟩, hb⟩
  have o := Lib.hid ho.row
  have szw3 : w2.heap.size + 1 ≤ w3.heap.size := by have := hb.size; simpa using this
  replace x0 := kept hb (block_lt x0) x0
  replace x1 := kept hb (block_lt x1) x1
  replace y0 := kept hb (block_lt y0) y0
  replace y1 := kept hb (block_lt y1) y1
  replace z0 := kept hb (block_lt z0) z0
  replace z1 := kept hb (block_lt z1) z1
  replace z2 := kept hb (block_lt z2) z2
  replace z3 := kept hb (block_lt z3) z3
  replace s0 := kept hb (block_lt s0) s0
  replace s1 := kept hb (block_lt s1) s1
  replace s2 := kept hb (block_lt s2) s2
  replace s3 := kept hb (block_lt s3) s3
  replace r := Lib.hid (r.out.bel hb)
  replace q := Lib.hid (q.out.bel hb)
  replace k := Lib.hid (k.out.bel hb)
  replace bb := Lib.hid (bb.out.trans (hb.mono bb.out.size))
  clear hb
  clear ho
  have hbx : Below w3.heap.size w3 (w3.alloc (.cells #[.int .i64 K, .slice ao n co] 25)) := (Below.refl _ _).alloc (Nat.le_refl _) _
  replace x0 := kept hbx (block_lt x0) x0
  replace x1 := kept hbx (block_lt x1) x1
  replace y0 := kept hbx (block_lt y0) y0
  replace y1 := kept hbx (block_lt y1) y1
  replace z0 := kept hbx (block_lt z0) z0
  replace z1 := kept hbx (block_lt z1) z1
  replace z2 := kept hbx (block_lt z2) z2
  replace z3 := kept hbx (block_lt z3) z3
  replace s0 := kept hbx (block_lt s0) s0
  replace s1 := kept hbx (block_lt s1) s1
  replace s2 := kept hbx (block_lt s2) s2
  replace s3 := kept hbx (block_lt s3) s3
  replace r := Lib.hid (r.out.bel hbx)
  replace q := Lib.hid (q.out.bel hbx)
  replace k := Lib.hid (k.out.bel hbx)
  replace o := Lib.hid (o.out.bel hbx)
  replace bb := Lib.hid (bb.out.trans (hbx.mono bb.out.size))
  clear hbx
  have o0 : (w3.alloc (.cells #[.int .i64 K, .slice ao n co] 25)).cell? ⟨w3.heap.size, 0, none⟩ = some (.int .i64 K) := by simp
  have o1 : (w3.alloc (.cells #[.int .i64 K, .slice ao n co] 25)).cell? ⟨w3.heap.size, 1, none⟩ = some (.slice ao n co) := by simp
  have hbx : Below (w3.alloc (.cells #[.int .i64 K, .slice ao n co] 25)).heap.size (w3.alloc (.cells #[.int .i64 K, .slice ao n co] 25)) ((w3.alloc (.cells #[.int .i64 K, .slice ao n co] 25)).alloc (.cells #[.int .i64 A, .int .i64 B, .int .i64 C, .int .i64 D, .pointer p] 98)) := (Below.refl _ _).alloc (Nat.le_refl _) _
  have hl : LinkL ((w3.alloc (.cells #[.int .i64 K, .slice ao n co] 25)).alloc (.cells #[.int .i64 A, .int .i64 B, .int .i64 C, .int .i64 D, .pointer p] 98)) (some ⟨w3.heap.size + 1, 0, none⟩) ((A, B, C, D) :: R) := ⟨w3.heap.size + 1, p, rfl, ⟨by go_simp, by go_simp, by go_simp, by go_simp, by go_simp⟩, k.out.bel hbx⟩
  have r2 := Lib.hid (r.out.bel hbx)
  have o2 := Lib.hid (o.out.bel hbx)
  replace bb := Lib.hid (bb.out.trans (hbx.mono bb.out.size))
  clear hbx
  go_wp2_with fail
  refine (ih.out _ _ _ _ _ _ r2.out o2.out hl).mono ?_
  rintro e w9 ⟨⟨qp, rfl, hl2⟩, hb⟩
  replace bb := Lib.hid (bb.out.trans (hb.mono bb.out.size))
  clear hb hl
  replace hl2 := Lib.hid hl2
  clear x0 x1 y0 y1 z0 z1 z2 z3 s0 s1 s2 s3 o0 o1 r q k o
  go_wp2_with fail
  go_ret
  exact ⟨⟨qp, rfl, by rw [hp.out]; exact hl2.out⟩, bb.out⟩

theorem ahead_any : ∀ (f : Nat) {K n : Nat} {xs ys : List Int} (_ : Im K n xs) (_ : Im K n ys) {R : List SwT} (_ : farL xs ys K n ≤ f) (a b : Option Addr) (c d : Nat) (p : Option Addr) (w : World) (_ : Row w a n xs) (_ : Row w b n ys) (_ : LinkL w p R),
    Calls Try.prog 78 #[.agg #[.int .i64 K, .slice a n c], .agg #[.int .i64 K, .slice b n d], .pointer p] w (GivesH w (pathL K n xs ys ++ R)) := by
  intro f
  induction f with
  | zero =>
    intro K n xs ys hI hJ R hf a b c d p w hr hs hk
    have h0 := (farl_bd hI ys).1
    have e : farL xs ys K n = 0 := by omega
    exact ahead_none hI hJ (tow_zero e) (tow_zero (by rw [farl_comm]; exact e)) a b c d p w hr hs hk
  | succ f ih =>
    intro K n xs ys hI hJ R hf a b c d p w hr hs hk
    cases h1 : towL xs ys K n with
    | some s =>
      obtain ⟨A, B, C, D⟩ := s
      have hm : farL (flL xs K n A B C D) ys K n < farL xs ys K n := (tow_mem h1).2
      exact ahead_fwd hI hJ h1 (fun a' c' b' d' p' w' h1 h2 h3 => ih (fl_im hI A B C D) hJ (by omega) a' b' c' d' p' w' h1 h2 h3) a b c d p w hr hs hk
    | none =>
      cases h2 : towL ys xs K n with
      | some t =>
        obtain ⟨A, B, C, D⟩ := t
        have hm : farL (flL ys K n A B C D) xs K n < farL ys xs K n := (tow_mem h2).2
        have c1 := farl_comm xs ys K n
        have c2 := farl_comm xs (flL ys K n A B C D) K n
        exact ahead_bwd hI hJ h1 h2 (fun a' c' b' d' p' w' h1 h2 h3 => ih hI (fl_im hJ A B C D) (by omega) a' b' c' d' p' w' h1 h2 h3) a b c d p w hr hs hk
      | none => exact ahead_none hI hJ h1 h2 a b c d p w hr hs hk

/-- What SwitchPath gives. -/
def pathOut (V : Int) (xs : List Int) (W : Int) (ys : List Int) : List SwT := if sameB V xs W ys = true then pathL V.toNat xs.length xs ys else []
theorem pathOut_no {V W : Int} {xs ys : List Int} (h : sameB V xs W ys = false) : pathOut V xs W ys = [] := if_neg (by rw [h]; simp)
theorem pathOut_yes {K n : Nat} {xs ys : List Int} (hI : Im K n xs) (h : sameB K xs K ys = true) : pathOut K xs K ys = pathL K n xs ys := by
  unfold pathOut; rw [if_pos h, hI.hl, Int.toNat_natCast]
def GivesP (w : World) (L : List SwT) (ok : Bool) (e : Ending) (w' : World) : Prop :=
  (∃ a cap, e = .returned (.tuple #[.slice a L.length cap, .bool ok]) ∧ OwnS w' w.heap.size a L.length cap L) ∧ Below w.heap.size w w'
theorem own_none (w : World) (B : Nat) (hB : B ≤ w.heap.size) : OwnS (w.alloc (.cells #[] 37)) B (some ⟨w.heap.size, 0, none⟩) 0 0 [] := by
  have := World.ownsRow_lit (base := B) (e := 37) (size := 4) w #[] 0 hB (by decide) rfl
  simpa [flatS, OwnS] using this

set_option maxHeartbeats 1000000 in
theorem path_impl (V W : Int) (a b : Option Addr) (n m c d : Nat) (xs ys : List Int) (w : World) (h : Row w a n xs) (h' : Row w b m ys) (hm : n ≤ 9223372036854775807) (hm' : m ≤ 9223372036854775807) :
    Calls Try.prog 38 #[.agg #[.int .i64 V, .slice a n c], .agg #[.int .i64 W, .slice b m d]] w (GivesP w (pathOut V xs W ys) (sameB V xs W ys)) := by
  have hlx := Lib.hid h.1
  have hly := Lib.hid h'.1
  obtain ⟨W0, hW0⟩ : ∃ W0, W0 = (w.alloc (.cells #[.int .i64 V, .slice a n c] 25)).alloc (.cells #[.int .i64 W, .slice b m d] 25) := ⟨_, rfl⟩
  have hB : Hid (B2 w W0 V a n c xs W b m d ys) := by subst hW0; exact B2.start h h'
  clear h h'
  have x0 := hB.out.x0
  have x1 := hB.out.x1
  have y0 := hB.out.y0
  have y1 := hB.out.y1
  by_cases hv : sameB V xs W ys = true
  case neg =>
    have hv : sameB V xs W ys = false := by simpa using hv
    rw [pathOut_no hv, hv]
    go_enter Try.func38, Try.ntmps38
    go_wp2_with fail
    rw [← hW0]
    clear hW0
    refine (same_impl V W a b n m c d xs ys _ hB.out.p hB.out.q hm hm').mono ?_
    rintro e w1 ⟨rfl, hb⟩
    replace hB := Lib.hid (hB.out.move hb)
    clear x0 x1 y0 y1 hb
    have x0 := hB.out.x0
    have x1 := hB.out.x1
    have y0 := hB.out.y0
    have y1 := hB.out.y1
    rw [hv]
    clear hv
    go_wp2_with fail
    refine bodyPost_ret (v := .tuple #[.slice (some ⟨w1.heap.size, 0, none⟩) 0 0, .bool false]) (by simp [results, Try.results38, go_sem]) rfl ?_
    exact ⟨⟨_, _, rfl, own_none _ _ hB.out.bel.size⟩, hB.out.bel.alloc hB.out.bel.size _⟩
  obtain ⟨K, rfl, rfl, rfl, hI, hJ, hsum⟩ := same_im hlx.out hly.out hv
  rw [pathOut_yes hI hv, hv]
  have hlen := path_18 hI hJ hsum
  obtain ⟨L, hL⟩ : ∃ L, pathL K n xs ys = L := ⟨_, rfl⟩
  have hA := fun (wx : World) (h1 : Row wx a n xs) (h2 : Row wx b n ys) => ahead_any (farL xs ys K n).toNat hI hJ (R := []) (by have := (farl_bd hI ys).1; omega) a b c d none wx h1 h2 rfl
  rw [hL, List.append_nil] at hA
  rw [hL] at hlen ⊢
  replace hA := Lib.hid hA
  replace hL := Lib.hid hL
  clear hI hJ hsum
  go_enter Try.func38, Try.ntmps38
  go_wp2_with fail
  rw [← hW0]
  clear hW0
  refine (same_impl _ _ a b n n c d xs ys _ hB.out.p hB.out.q hm hm').mono ?_
  rintro e w2 ⟨rfl, hb⟩
  replace hB := Lib.hid (hB.out.move hb)
  clear x0 x1 y0 y1 hb
  have x0 := hB.out.x0
  have x1 := hB.out.x1
  have y0 := hB.out.y0
  have y1 := hB.out.y1
  rw [hv]
  clear hv
  go_wp2_with fail
  refine (hA.out _ hB.out.p hB.out.q).mono ?_
  rintro e w3 ⟨⟨qp, rfl, hl⟩, hb⟩
  replace hB := Lib.hid (hB.out.move hb)
  clear x0 x1 y0 y1 hb
  have x0 := hB.out.x0
  have x1 := hB.out.x1
  have y0 := hB.out.y0
  have y1 := hB.out.y1
  go_wp2_with fail
  refine (steps_any qp L _ hl (by omega)).mono ?_
  rintro e w9 ⟨⟨al, cl, rfl, ho⟩, hb⟩
  have bb := Lib.hid (hB.out.bel.trans (hb.mono hB.out.bel.size))
  have ho2 := Lib.hid (ho.mono hB.out.bel.size)
  clear hb ho hl x0 x1 y0 y1 hB hA
  go_wp2_with fail
  refine bodyPost_ret (v := .tuple #[.slice al L.length cl, .bool true]) (by simp [results, Try.results38, go_sem]) rfl ?_
  exact ⟨⟨al, cl, rfl, ho2.out⟩, bb.out⟩
end Go.Proofs.Ytgamkmkpmcenpaa

namespace Go.Proofs.Ytgamkmkpmcenpaa
set_option maxRecDepth 100000
open Go.RowKit

set_option maxHeartbeats 1000000 in
theorem back_any (B g1 c1 N1 : Nat) (L1 : List SwT) (a2 : Option Addr) (c2 N2 : Nat) (L2 : List SwT) (w : World) (h1 : OwnS w B (some ⟨g1, 0, none⟩) N1 c1 L1) (h2 : SRow w a2 N2 L2) (hne : ∀ b off, a2 = some ⟨b, off, none⟩ → 0 < N2 → b ≠ g1 ∧ b < w.heap.size) (hB : B ≤ g1 ∧ B ≤ w.heap.size) (hN : N1 + N2 ≤ 1000) :
    Calls Try.prog 81 #[.slice (some ⟨g1, 0, none⟩) N1 c1, .slice a2 N2 c2] w fun e w' => (∃ g c, e = .returned (.slice (some ⟨g, 0, none⟩) (N1 + N2) c) ∧ OwnS w' B (some ⟨g, 0, none⟩) (N1 + N2) c (L1 ++ L2.reverse)) ∧ Below B w w' := by
  have hl2 := Lib.hid h2.1
  replace h1 := Lib.hid h1
  replace h2 := Lib.hid h2
  replace hne := Lib.hid hne
  go_enter Try.func81, Try.ntmps81
  go_wp2_with fail
  go_loopw [0, 5] (fun o i wr => ∃ (j g c M : Nat), j ≤ N2 ∧ i = .int .i64 ((j : Int) - 1) ∧ o = .slice (some ⟨g, 0, none⟩) M c ∧ M + j = N1 + N2 ∧ Hid (OwnS wr B (some ⟨g, 0, none⟩) M c (L1 ++ (L2.drop j).reverse)) ∧ Hid (SRow wr a2 N2 L2) ∧ B ≤ g ∧ Hid (∀ b off, a2 = some ⟨b, off, none⟩ → 0 < N2 → b ≠ g ∧ b < wr.heap.size) ∧ Hid (Below B w wr)) (fun _ i _ => (intOf i + 1).toNat)
  case atStart => exact ⟨N2, g1, c1, N1, Nat.le_refl _, rfl, rfl, rfl, Lib.hid (by rw [← hl2.out, List.drop_length]; simpa using h1.out), h2, hB.1, hne, Lib.hid (Below.refl _ _)⟩
  case round =>
    clear h1 h2 hne
    obtain ⟨j, g, c, M, hj, rfl, rfl, hM, hO, hS, hg, hne, bb⟩ := hrel
    cases j with
    | zero =>
      rw [show ((0 : Nat) : Int) - 1 = -1 from rfl]
      have e : Hid (L1 ++ (L2.drop 0).reverse = L1 ++ L2.reverse) := Lib.hid (by rw [List.drop_zero])
      obtain rfl : M = N1 + N2 := by omega
      go_wp2_with fail
      go_ret
      exact ⟨⟨g, c, rfl, by rw [← e.out]; exact hO.out⟩, bb.out⟩
    | succ j =>
      rw [show ((j + 1 : Nat) : Int) - 1 = (j : Int) by omega]
      obtain ⟨⟨A, B', C, D⟩, hz⟩ : ∃ t, L2[j]'(by rw [hl2.out]; omega) = t := ⟨_, rfl⟩
      obtain ⟨gb, rfl, c0, c1', c2', c3⟩ := srow_at hS.out (show j < N2 by omega) hz
      have hn := hne.out gb 0 rfl (by omega)
      have hdr : Hid (L1 ++ (L2.drop j).reverse = (L1 ++ (L2.drop (j + 1)).reverse) ++ [(A, B', C, D)]) := Lib.hid (by
        rw [List.drop_eq_getElem_cons (by rw [hl2.out]; omega), hz, List.reverse_cons, List.append_assoc])
      have hfl : Hid (flatS (L1 ++ (L2.drop j).reverse) = flatS (L1 ++ (L2.drop (j + 1)).reverse) ++ [(A : Int), B', C, D]) := Lib.hid (by rw [hdr.out, sflat_snoc])
      have hown := hO.out
      unfold OwnS at hown
      have hbz := bb.out.size
      have k0 : (0 : Int) ≤ (j : Int) := Int.natCast_nonneg _
      have kn : (j : Int) < (N2 : Int) := by omega
      clear hO
      go_wp2_with (at_builtin; refine wpList_append_sw rfl _ _ rfl B g M c (flatS (L1 ++ (L2.drop (j + 1)).reverse)) rfl (World.ownsRow.alloc hown _) wr.heap.size rfl A B' C D (by simp) (by simp) (by simp) (by simp) (by omega) (by simp; omega) ?_)
      intro g' c' w6 hown1 hgr hlies
      have hb6 : Below B w w6 := (bb.out.alloc (by omega) _).grown hgr (Nat.le_trans (Nat.le_trans hB.2 hbz) (by simp)) (fun k hk => by cases hk; omega)
      have hal : Below wr.heap.size wr (wr.alloc (.cells #[.int .i64 A, .int .i64 B', .int .i64 C, .int .i64 D] 37)) := (Below.refl _ _).alloc (Nat.le_refl _) _
      have hS6 : Hid (SRow w6 (some ⟨gb, 0, none⟩) N2 L2) := (hS.out.bel hal).apart hgr (fun b off e hn0 => by cases e; omega)
      have hsz := hgr.size
      have hne6 : Hid (∀ b off, some (⟨gb, 0, none⟩ : Addr) = some ⟨b, off, none⟩ → 0 < N2 → b ≠ g' ∧ b < w6.heap.size) := Lib.hid (fun b off e hn0 => by
        cases e
        (try simp at hsz)
        (try simp at hlies)
        rcases hlies with h | h <;> omega)
      have hg' : B ≤ g' := by rcases hlies with h | h <;> (try simp at h) <;> omega
      have hO6 : Hid (OwnS w6 B (some ⟨g', 0, none⟩) (M + 1) c' (L1 ++ (L2.drop j).reverse)) := Lib.hid (by unfold OwnS; rw [hfl.out, List.map_append]; exact hown1)
      have bb6 := Lib.hid hb6
      clear hown1 hgr hlies hb6 hown hal c0 c1' c2' c3 bb hS hne hsz
      go_wp2_with fail
      exact ⟨⟨j, g', c', M + 1, by omega, (by first | rfl | go_num), rfl, by omega, hO6, hS6, hg', hne6, bb6⟩, by simp [intOf]⟩
-- BEHIND: gen31

theorem tow_no_s {K n : Nat} {xs ys : List Int} (hI : Im K n xs) (hJ : Im K n ys) (h : towL xs ys K n = none) (a b : Option Addr) (c d : Nat) (w : World) (hr : Row w a n xs) (hs : Row w b n ys) :
    Calls Try.prog 32 #[.agg #[.int .i64 K, .slice a n c], .agg #[.int .i64 K, .slice b n d]] w fun e w' => e = .returned (.tuple #[.agg #[.int .i64 0, .int .i64 0, .int .i64 0, .int .i64 0], .bool false]) ∧ Below w.heap.size w w' := by
  have hc := tow_spec (K : Int) K a b n n c d xs ys w hr hs (by have := hI.l6; omega) (by have := hI.l6; omega)
  rw [towOut_yes hI hJ, h] at hc
  exact hc
theorem tow_yes_s {K n : Nat} {xs ys : List Int} (hI : Im K n xs) (hJ : Im K n ys) {A B C D : Nat} (h : towL xs ys K n = some (A, B, C, D)) (a b : Option Addr) (c d : Nat) (w : World) (hr : Row w a n xs) (hs : Row w b n ys) :
    Calls Try.prog 32 #[.agg #[.int .i64 K, .slice a n c], .agg #[.int .i64 K, .slice b n d]] w fun e w' => e = .returned (.tuple #[.agg #[.int .i64 A, .int .i64 B, .int .i64 C, .int .i64 D], .bool true]) ∧ Below w.heap.size w w' := by
  have hc := tow_spec (K : Int) K a b n n c d xs ys w hr hs (by have := hI.l6; omega) (by have := hI.l6; omega)
  rw [towOut_yes hI hJ, h] at hc
  exact hc
/-- Within the loop: the boxes of both images so far, and both lists of switches. -/
structure PX (w wr : World) (K n kx ky : Nat) (ax : Option Addr) (cx : Nat) (X : List Int) (ay : Option Addr) (cy : Nat) (Y : List Int) (g1 c1 N1 : Nat) (L1 : List SwT) (g2 c2 N2 : Nat) (L2 : List SwT) : Prop where
  x0 : wr.cell? ⟨kx, 0, none⟩ = some (.int .i64 K)
  x1 : wr.cell? ⟨kx, 1, none⟩ = some (.slice ax n cx)
  y0 : wr.cell? ⟨ky, 0, none⟩ = some (.int .i64 K)
  y1 : wr.cell? ⟨ky, 1, none⟩ = some (.slice ay n cy)
  xf : ∀ o, wr.frozen? ⟨kx, o, none⟩ = false
  yf : ∀ o, wr.frozen? ⟨ky, o, none⟩ = false
  px : Row wr ax n X
  py : Row wr ay n Y
  o1 : OwnS wr w.heap.size (some ⟨g1, 0, none⟩) N1 c1 L1
  o2 : OwnS wr w.heap.size (some ⟨g2, 0, none⟩) N2 c2 L2
  d12 : g1 ≠ g2
  dk : kx ≠ ky ∧ (kx ≠ g1 ∧ kx ≠ g2) ∧ (ky ≠ g1 ∧ ky ≠ g2)
  dx : ∀ b off, ax = some ⟨b, off, none⟩ → 0 < n → b ≠ g1 ∧ b ≠ g2 ∧ b ≠ kx ∧ b ≠ ky
  dy : ∀ b off, ay = some ⟨b, off, none⟩ → 0 < n → b ≠ g1 ∧ b ≠ g2 ∧ b ≠ kx ∧ b ≠ ky
  hz : g1 < wr.heap.size ∧ g2 < wr.heap.size
  hB : (w.heap.size ≤ kx ∧ w.heap.size ≤ ky) ∧ w.heap.size ≤ g1 ∧ w.heap.size ≤ g2
  bel : Below w.heap.size w wr
section
variable {w wr w1 : World} {K n kx ky : Nat} {ax : Option Addr} {cx : Nat} {X : List Int} {ay : Option Addr} {cy : Nat} {Y : List Int} {g1 c1 N1 : Nat} {L1 : List SwT} {g2 c2 N2 : Nat} {L2 : List SwT}
theorem PX.swap (h : PX w wr K n kx ky ax cx X ay cy Y g1 c1 N1 L1 g2 c2 N2 L2) : PX w wr K n kx ky ax cx X ay cy Y g2 c2 N2 L2 g1 c1 N1 L1 :=
  ⟨h.x0, h.x1, h.y0, h.y1, h.xf, h.yf, h.px, h.py, h.o2, h.o1, h.d12.symm, ⟨h.dk.1, ⟨h.dk.2.1.2, h.dk.2.1.1⟩, h.dk.2.2.2, h.dk.2.2.1⟩, fun b o e hn => ⟨(h.dx b o e hn).2.1, (h.dx b o e hn).1, (h.dx b o e hn).2.2⟩, fun b o e hn => ⟨(h.dy b o e hn).2.1, (h.dy b o e hn).1, (h.dy b o e hn).2.2⟩, ⟨h.hz.2, h.hz.1⟩, ⟨h.hB.1, h.hB.2.2, h.hB.2.1⟩, h.bel⟩
theorem PX.flip (h : PX w wr K n kx ky ax cx X ay cy Y g1 c1 N1 L1 g2 c2 N2 L2) : PX w wr K n ky kx ay cy Y ax cx X g1 c1 N1 L1 g2 c2 N2 L2 :=
  ⟨h.y0, h.y1, h.x0, h.x1, h.yf, h.xf, h.py, h.px, h.o1, h.o2, h.d12, ⟨h.dk.1.symm, h.dk.2.2, h.dk.2.1⟩, fun b o e hn => ⟨(h.dy b o e hn).1, (h.dy b o e hn).2.1, (h.dy b o e hn).2.2.2, (h.dy b o e hn).2.2.1⟩, fun b o e hn => ⟨(h.dx b o e hn).1, (h.dx b o e hn).2.1, (h.dx b o e hn).2.2.2, (h.dx b o e hn).2.2.1⟩, h.hz, ⟨⟨h.hB.1.2, h.hB.1.1⟩, h.hB.2⟩, h.bel⟩
theorem PX.move (h : PX w wr K n kx ky ax cx X ay cy Y g1 c1 N1 L1 g2 c2 N2 L2) (hb : Below wr.heap.size wr w1) : PX w w1 K n kx ky ax cx X ay cy Y g1 c1 N1 L1 g2 c2 N2 L2 :=
  ⟨kept hb (block_lt h.x0) h.x0, kept hb (block_lt h.x1) h.x1, kept hb (block_lt h.y0) h.y0, kept hb (block_lt h.y1) h.y1, fun o => (hb.frozen (p := ⟨kx, o, none⟩) (show kx < wr.heap.size from block_lt h.x0)).trans (h.xf o), fun o => (hb.frozen (p := ⟨ky, o, none⟩) (show ky < wr.heap.size from block_lt h.y0)).trans (h.yf o),
    h.px.bel hb, h.py.bel hb, h.o1.bel hb, h.o2.bel hb, h.d12, h.dk, h.dx, h.dy, ⟨by have := h.hz; have := hb.size; omega, by have := h.hz; have := hb.size; omega⟩, h.hB, h.bel.trans (hb.mono h.bel.size)⟩
/-- The first image's box takes another image. -/
theorem PX.setx {a' : Option Addr} {c' : Nat} {X' : List Int} (h : PX w wr K n kx ky ax cx X ay cy Y g1 c1 N1 L1 g2 c2 N2 L2) (ho : Row wr a' n X') (hf : ∀ b off, a' = some ⟨b, off, none⟩ → 0 < n → b ≠ g1 ∧ b ≠ g2 ∧ b ≠ kx ∧ b ≠ ky) :
    PX w ((wr.setCell ⟨kx, 0, none⟩ (.int .i64 K)).setCell ⟨kx, 1, none⟩ (.slice a' n c')) K n kx ky a' c' X' ay cy Y g1 c1 N1 L1 g2 c2 N2 L2 := by
  have hg : wr.grownBy ((wr.setCell ⟨kx, 0, none⟩ (.int .i64 K)).setCell ⟨kx, 1, none⟩ (.slice a' n c')) (some kx) := grown_set (grown_set (World.grownBy.refl _ _))
  have e1 : (wr.setCell ⟨kx, 0, none⟩ (.int .i64 K)).cell? ⟨kx, 1, none⟩ = some (.slice ax n cx) := by rw [World.cell?_setCell_other _ _ _ _ (by simp)]; exact h.x1
  have fz : ∀ (b : Nat) (o : Nat) (U : World) (p : Addr) (v : Value), U.frozen? ⟨b, o, none⟩ = false → (U.setCell p v).frozen? ⟨b, o, none⟩ = false := fun b o U p v hu => by rw [World.frozen?_setCell]; exact hu
  have sz : ((wr.setCell ⟨kx, 0, none⟩ (.int .i64 K)).setCell ⟨kx, 1, none⟩ (.slice a' n c')).heap.size = wr.heap.size := by simp
  refine ⟨?_, World.cell?_setCell_same _ _ _ e1, hg.cell h.y0 (by simpa using fun e => h.dk.1 e.symm), hg.cell h.y1 (by simpa using fun e => h.dk.1 e.symm), fun o => fz _ _ _ _ _ (fz _ _ _ _ _ (h.xf o)), fun o => fz _ _ _ _ _ (fz _ _ _ _ _ (h.yf o)),
    ho.apart hg (fun b o e hn => by simpa using (hf b o e hn).2.2.1), h.py.apart hg (fun b o e hn => by simpa using (h.dy b o e hn).2.2.1), World.ownsRow.kept h.o1 hg (.inr (by simpa [Value.ownBlock] using fun e => h.dk.2.1.1 e.symm)), World.ownsRow.kept h.o2 hg (.inr (by simpa [Value.ownBlock] using fun e => h.dk.2.1.2 e.symm)),
    h.d12, h.dk, hf, h.dy, by rw [sz]; exact h.hz, h.hB, (h.bel.setCell h.hB.1.1 _).setCell h.hB.1.1 _⟩
  rw [World.cell?_setCell_other _ _ _ _ (by simp)]; exact World.cell?_setCell_same _ _ _ h.x0
/-- The first list takes a switch. -/
theorem PX.app {g' c' : Nat} {L' : List SwT} {o : Obj} (h : PX w wr K n kx ky ax cx X ay cy Y g1 c1 N1 L1 g2 c2 N2 L2) (ho : OwnS w1 w.heap.size (some ⟨g', 0, none⟩) (N1 + 1) c' L') (hg : (wr.alloc o).grownBy w1 (some g1)) (hl : g' = g1 ∨ g' = wr.heap.size + 1) :
    PX w w1 K n kx ky ax cx X ay cy Y g' c' (N1 + 1) L' g2 c2 N2 L2 := by
  have h' := h.move ((Below.refl _ _).alloc (Nat.le_refl _) o)
  have lx : kx < wr.heap.size := block_lt h.x0
  have ly : ky < wr.heap.size := block_lt h.y0
  have rx := row_lt' h.px
  have ry := row_lt' h.py
  have sz : (wr.alloc o).heap.size = wr.heap.size + 1 := by simp
  have s1 := hg.size
  have hz := h.hz
  have hB := h.hB
  have dk := h.dk
  have d12 := h.d12
  have hgn : g' ≠ g2 ∧ kx ≠ g' ∧ ky ≠ g' ∧ w.heap.size ≤ g' := by rcases hl with e | e <;> omega
  have hlt : g' < w1.heap.size := by
    rcases ho.2 with ⟨e, _⟩ | ⟨g, c, cur, e, _, hb, _⟩
    · cases e
    · cases e; exact (World.ownsRow.lt ho g' rfl).2
  refine ⟨hg.cell h'.x0 (by simpa using fun e => dk.2.1.1 e), hg.cell h'.x1 (by simpa using fun e => dk.2.1.1 e), hg.cell h'.y0 (by simpa using fun e => dk.2.2.1 e), hg.cell h'.y1 (by simpa using fun e => dk.2.2.1 e), fun q => ?_, fun q => ?_,
    h'.px.apart hg (fun b q e hn => by simpa using (h.dx b q e hn).1), h'.py.apart hg (fun b q e hn => by simpa using (h.dy b q e hn).1), ho, World.ownsRow.kept h'.o2 hg (.inr (by simpa [Value.ownBlock] using fun e => d12 e.symm)),
    hgn.1, ⟨dk.1, ⟨hgn.2.1, dk.2.1.2⟩, hgn.2.2.1, dk.2.2.2⟩, fun b q e hn => ?_, fun b q e hn => ?_, ⟨hlt, by omega⟩, ⟨hB.1, hgn.2.2.2, hB.2.2⟩, ?_⟩
  · exact (World.frozen?_of_block (a := ⟨kx, q, none⟩) (hg.block kx (by omega) (by simpa using dk.2.1.1))).trans (h'.xf q)
  · exact (World.frozen?_of_block (a := ⟨ky, q, none⟩) (hg.block ky (by omega) (by simpa using dk.2.2.1))).trans (h'.yf q)
  · have a := h.dx b q e hn
    have a2 := rx b q e hn
    rcases hl with e2 | e2 <;> omega
  · have a := h.dy b q e hn
    have a2 := ry b q e hn
    rcases hl with e2 | e2 <;> omega
  · exact h'.bel.grown hg (by have := h.bel.size; omega) (fun k hk => by cases hk; exact hB.2.1)
end

set_option maxHeartbeats 4000000 in
theorem path_spec (V W : Int) (a b : Option Addr) (n m c d : Nat) (xs ys : List Int) (w : World) (h : Row w a n xs) (h' : Row w b m ys) (hm : n ≤ 9223372036854775807) (hm' : m ≤ 9223372036854775807) :
    Calls Try.prog 39 #[.agg #[.int .i64 V, .slice a n c], .agg #[.int .i64 W, .slice b m d]] w (GivesP w (pathOut V xs W ys) (sameB V xs W ys)) := by
  have hlx := Lib.hid h.1
  have hly := Lib.hid h'.1
  obtain ⟨W0, hW0⟩ : ∃ W0, W0 = (((w.alloc (.cells #[.int .i64 V, .slice a n c] 25)).alloc (.cells #[.int .i64 W, .slice b m d] 25)).alloc (.cells #[] 37)).alloc (.cells #[] 37) := ⟨_, rfl⟩
  have h1 : Below ((w.alloc (.cells #[.int .i64 V, .slice a n c] 25)).alloc (.cells #[.int .i64 W, .slice b m d] 25)).heap.size ((w.alloc (.cells #[.int .i64 V, .slice a n c] 25)).alloc (.cells #[.int .i64 W, .slice b m d] 25)) W0 := by subst hW0; exact ((Below.refl _ _).alloc (Nat.le_refl _) _).alloc (by simp) _
  have hB : Hid (B2 w W0 V a n c xs W b m d ys) := (B2.start h h').move h1
  have e1 : Hid (OwnS W0 w.heap.size (some ⟨w.heap.size + 1 + 1, 0, none⟩) 0 0 []) := by
    have := (own_none ((w.alloc (.cells #[.int .i64 V, .slice a n c] 25)).alloc (.cells #[.int .i64 W, .slice b m d] 25)) w.heap.size (by simp; omega)).bel (w' := W0) (by subst hW0; exact (Below.refl _ _).alloc (Nat.le_refl _) _)
    exact Lib.hid (by simpa using this)
  have e2 : Hid (OwnS W0 w.heap.size (some ⟨w.heap.size + 1 + 1 + 1, 0, none⟩) 0 0 []) := by
    have := own_none (((w.alloc (.cells #[.int .i64 V, .slice a n c] 25)).alloc (.cells #[.int .i64 W, .slice b m d] 25)).alloc (.cells #[] 37)) w.heap.size (by simp; omega)
    rw [← hW0] at this
    exact Lib.hid (by simpa using this)
  have hz0 : W0.heap.size = w.heap.size + 4 := by subst hW0; simp
  clear h h' h1
  have x0 := hB.out.x0
  have x1 := hB.out.x1
  have y0 := hB.out.y0
  have y1 := hB.out.y1
  by_cases hv : sameB V xs W ys = true
  case neg =>
    have hv : sameB V xs W ys = false := by simpa using hv
    rw [pathOut_no hv, hv]
    go_enter Try.func39, Try.ntmps39
    go_wp2_with fail
    rw [← hW0]
    clear hW0
    refine (same_spec2 V W a b n m c d xs ys _ hB.out.p hB.out.q hm hm').mono ?_
    rintro e w1 ⟨rfl, hb⟩
    rw [hv]
    replace e1 := Lib.hid (e1.out.bel hb)
    replace hB := Lib.hid (hB.out.move hb)
    clear x0 x1 y0 y1 hb e2
    go_wp2_with fail
    refine bodyPost_ret (v := .tuple #[.slice (some ⟨w.heap.size + 1 + 1, 0, none⟩) 0 0, .bool false]) (by simp [results, Try.results39, go_sem]) rfl ?_
    exact ⟨⟨_, _, rfl, e1.out⟩, hB.out.bel⟩
  obtain ⟨K, rfl, rfl, rfl, hI, hJ, hsum⟩ := same_im hlx.out hly.out hv
  rw [pathOut_yes hI hv, hv]
  have hlen := path_18 hI hJ hsum
  have hK6 := hI.w6
  have hn6 := hI.l6
  have hn1 := hI.l1
  obtain ⟨P, hP⟩ : ∃ P, pathL K n xs ys = P := ⟨_, rfl⟩
  rw [hP] at hlen ⊢
  have hS : Hid (Im K n xs ∧ Im K n ys ∧ SumE xs ys K n) := ⟨hI, hJ, hsum⟩
  replace hP := Lib.hid hP
  obtain ⟨ba, oa, rfl, _⟩ := hB.out.p.2.resolve_left (by omega)
  obtain ⟨bb', ob, rfl, _⟩ := hB.out.q.2.resolve_left (by omega)
  have cp := Lib.hid fun (wx : World) (hr : Row wx (some ⟨ba, oa, none⟩) n xs) => copy_spec (K : Int) ba oa n c xs wx hr.1 (by obtain ⟨_, _, e, hc⟩ := hr.2.resolve_left (by omega); cases e; exact hc) (by omega) (by omega)
  have cq := Lib.hid fun (wx : World) (hr : Row wx (some ⟨bb', ob, none⟩) n ys) => copy_spec (K : Int) bb' ob n d ys wx hr.1 (by obtain ⟨_, _, e, hc⟩ := hr.2.resolve_left (by omega); cases e; exact hc) (by omega) (by omega)
  clear hI hJ hsum
  go_enter Try.func39, Try.ntmps39
  go_wp2_with fail
  rw [← hW0]
  clear hW0
  refine (same_spec2 _ _ _ _ n n c d xs ys _ hB.out.p hB.out.q hm hm').mono ?_
  rintro e w1 ⟨rfl, hb⟩
  rw [hv]
  clear hv
  have sz1 := hb.size
  replace e1 := Lib.hid (e1.out.bel hb)
  replace e2 := Lib.hid (e2.out.bel hb)
  replace hB := Lib.hid (hB.out.move hb)
  clear x0 x1 y0 y1 hb
  have x0 := hB.out.x0
  have x1 := hB.out.x1
  have y0 := hB.out.y0
  have y1 := hB.out.y1
  go_wp2_with fail
  refine (cp.out _ hB.out.p).mono ?_
  rintro e w2 ⟨⟨ax, cx, rfl, hox⟩, hb⟩
  obtain ⟨gx, rfl, hgx⟩ : ∃ gx, ax = some ⟨gx, 0, none⟩ ∧ w1.heap.size ≤ gx ∧ gx < w2.heap.size := by
    rcases hox.cases with ⟨_, h0, _⟩ | ⟨gx, rfl, hg, hg2⟩
    · omega
    · exact ⟨gx, rfl, hg, hg2⟩
  have hrx : Row w2 (some ⟨gx, 0, none⟩) n xs := hox.row
  have sz2 := hb.size
  have hbx : Below w1.heap.size w1 (w2.alloc (.cells #[.int .i64 K, .slice (some ⟨gx, 0, none⟩) n cx] 25)) := hb.alloc sz2 _
  replace e1 := Lib.hid (e1.out.bel hbx)
  replace e2 := Lib.hid (e2.out.bel hbx)
  replace hB := Lib.hid (hB.out.move hbx)
  have q0 : (w2.alloc (.cells #[.int .i64 K, .slice (some ⟨gx, 0, none⟩) n cx] 25)).cell? ⟨w2.heap.size, 0, none⟩ = some (.int .i64 K) := by simp
  have q1 : (w2.alloc (.cells #[.int .i64 K, .slice (some ⟨gx, 0, none⟩) n cx] 25)).cell? ⟨w2.heap.size, 1, none⟩ = some (.slice (some ⟨gx, 0, none⟩) n cx) := by simp
  have qf : ∀ o, (w2.alloc (.cells #[.int .i64 K, .slice (some ⟨gx, 0, none⟩) n cx] 25)).frozen? ⟨w2.heap.size, o, none⟩ = false := fun o => by simp
  have qr := Lib.hid (hrx.alloc (.cells #[.int .i64 K, .slice (some ⟨gx, 0, none⟩) n cx] 25))
  clear x0 x1 y0 y1 hb hbx hox hrx
  have x0 := hB.out.x0
  have x1 := hB.out.x1
  have y0 := hB.out.y0
  have y1 := hB.out.y1
  go_wp2_with fail
  refine (cq.out _ hB.out.q).mono ?_
  rintro e w3 ⟨⟨ay, cy, rfl, hoy⟩, hb⟩
  obtain ⟨gy, rfl, hgy⟩ : ∃ gy, ay = some ⟨gy, 0, none⟩ ∧ w2.heap.size + 1 ≤ gy ∧ gy < w3.heap.size := by
    rcases hoy.cases with ⟨_, h0, _⟩ | ⟨gy, rfl, hg, hg2⟩
    · omega
    · exact ⟨gy, rfl, by simpa using hg, hg2⟩
  have hry : Row w3 (some ⟨gy, 0, none⟩) n ys := hoy.row
  have sz3 : w2.heap.size + 1 ≤ w3.heap.size := by have := hb.size; simpa using this
  have hby : Below (w2.alloc (.cells #[.int .i64 K, .slice (some ⟨gx, 0, none⟩) n cx] 25)).heap.size (w2.alloc (.cells #[.int .i64 K, .slice (some ⟨gx, 0, none⟩) n cx] 25)) (w3.alloc (.cells #[.int .i64 K, .slice (some ⟨gy, 0, none⟩) n cy] 25)) := hb.alloc hb.size _
  have hX : Hid (PX w (w3.alloc (.cells #[.int .i64 K, .slice (some ⟨gy, 0, none⟩) n cy] 25)) K n w2.heap.size w3.heap.size (some ⟨gx, 0, none⟩) cx xs (some ⟨gy, 0, none⟩) cy ys (w.heap.size + 1 + 1) 0 0 [] (w.heap.size + 1 + 1 + 1) 0 0 []) :=
    ⟨kept hby (by simp) q0, kept hby (by simp) q1, by simp, by simp, fun o => (hby.frozen (p := ⟨w2.heap.size, o, none⟩) (by simp)).trans (qf o), fun o => by simp,
      qr.out.bel hby, hry.alloc _, e1.out.bel hby, e2.out.bel hby, by omega, ⟨by omega, ⟨by omega, by omega⟩, by omega, by omega⟩, (fun b off e hn => by cases e; omega), (fun b off e hn => by cases e; omega), ⟨by simp; omega, by simp; omega⟩, ⟨⟨by omega, by omega⟩, by omega, by omega⟩, hB.out.bel.trans (hby.mono hB.out.bel.size)⟩
  clear x0 x1 y0 y1 hb hby hoy hry q0 q1 qf qr e1 e2 hB cp cq hlx hly sz1 sz2 sz3 hgx hgy
  go_wp2_with fail
  go_loopw [6, 7] (fun o1 o2 wr => ∃ (ax : Option Addr) (cx : Nat) (X : List Int) (ay : Option Addr) (cy : Nat) (Y : List Int) (g1 c1 N1 : Nat) (L1 : List SwT) (g2 c2 N2 : Nat) (L2 : List SwT), o1 = .slice (some ⟨g1, 0, none⟩) N1 c1 ∧ o2 = .slice (some ⟨g2, 0, none⟩) N2 c2 ∧ Hid (PX w wr K n w2.heap.size w3.heap.size ax cx X ay cy Y g1 c1 N1 L1 g2 c2 N2 L2) ∧ Hid (Im K n X ∧ Im K n Y ∧ SumE X Y K n) ∧ Hid (P = L1 ++ (pathL K n X Y ++ L2.reverse))) (fun o1 o2 _ => 19 - (lenV o1 + lenV o2))
  case atStart => exact ⟨_, _, _, _, _, _, _, _, _, _, _, _, _, _, rfl, rfl, hX, hS, Lib.hid (by rw [hP.out]; simp)⟩
  case round =>
    clear hX hS hP
    obtain ⟨ax, cx, X, ay, cy, Y, g1, c1, N1, L1, g2, c2, N2, L2, rfl, rfl, hX, hS, hP⟩ := hrel
    obtain ⟨wi, rfl⟩ : ∃ wi : World, wi = wr := ⟨_, rfl⟩
    have x0 := hX.out.x0
    have x1 := hX.out.x1
    have y0 := hX.out.y0
    have y1 := hX.out.y1
    have n1 := hX.out.o1.len
    have n2 := hX.out.o2.len
    have hpl := congrArg List.length hP.out
    rw [List.length_append, List.length_append, List.length_reverse, n1, n2] at hpl
    replace n1 := Lib.hid n1
    replace n2 := Lib.hid n2
    obtain ⟨f, hf⟩ : ∃ f, farL X Y K n = f := ⟨_, rfl⟩
    have hf0 := farl_bd hS.out.1 Y
    have hfar := farx_any K ax ay n cx cy X Y wi hX.out.px hX.out.py hS.out.1 hS.out.2.1
    rw [hf] at hf0 hfar
    have s17 : 17 ≤ 18 := by omega
    go_wp2_with fail
    refine hfar.mono ?_
    rintro e w5 ⟨rfl, hb⟩
    replace hX := Lib.hid (hX.out.move hb)
    clear hfar hb x0 x1 y0 y1 s17
    have x0 := hX.out.x0
    have x1 := hX.out.x1
    have y0 := hX.out.y0
    have y1 := hX.out.y1
    by_cases hf1 : f = 0
    · have hpn : pathL K n X Y = [] := path_done (hf.trans hf1)
      have hPe : Hid (P = L1 ++ L2.reverse) := Lib.hid (by rw [hP.out, hpn, List.nil_append])
      rw [hpn, List.length_nil, Nat.zero_add] at hpl
      subst hf1
      have hbk := back_any w.heap.size g1 c1 N1 L1 (some ⟨g2, 0, none⟩) c2 N2 L2 w5 hX.out.o1 hX.out.o2.row (fun b off e hn => by cases e; exact ⟨fun e => hX.out.d12 e.symm, hX.out.hz.2⟩) ⟨hX.out.hB.2.1, hX.out.bel.size⟩ (by omega)
      rw [← hPe.out, ← hpl] at hbk
      have bb := Lib.hid hX.out.bel
      replace hbk := Lib.hid hbk
      clear hf hX x0 x1 y0 y1 hpn hpl hP
      go_wp2_with fail
      refine hbk.out.mono ?_
      rintro e w6 ⟨⟨gr, cr, rfl, ho⟩, hb⟩
      replace ho := Lib.hid ho
      have bb6 := Lib.hid (bb.out.trans hb)
      clear hb hbk bb
      go_wp2_with fail
      refine bodyPost_ret (v := .tuple #[.slice (some ⟨gr, 0, none⟩) P.length cr, .bool true]) (by simp [results, Try.results39, go_sem]) rfl ?_
      exact ⟨⟨_, _, rfl, ho.out⟩, bb6.out⟩
    · have hfp : 0 < f := by omega
      have hmore : 0 < farL X Y K n := by rw [hf]; exact hfp
      cases h1 : towL X Y K n with
      | some s =>
        obtain ⟨A, B, C, D⟩ := s
        have ht := tow_yes_s hS.out.1 hS.out.2.1 h1 ax ay cx cy w5 hX.out.px hX.out.py
        have hfw := path_fwd h1
        have hmem := (tow_mem h1).1
        have hsw := sw_at hmem
        (try dsimp only at hsw)
        go_wp2_with fail
        refine ht.mono ?_
        rintro e w6 ⟨rfl, hb⟩
        have hbs : Below w5.heap.size w5 (w6.alloc (.cells #[.int .i64 A, .int .i64 B, .int .i64 C, .int .i64 D] 37)) := hb.alloc hb.size _
        replace hX := Lib.hid (hX.out.move hbs)
        have s0 : (w6.alloc (.cells #[.int .i64 A, .int .i64 B, .int .i64 C, .int .i64 D] 37)).cell? ⟨w6.heap.size, 0, none⟩ = some (.int .i64 A) := by simp
        have s1 : (w6.alloc (.cells #[.int .i64 A, .int .i64 B, .int .i64 C, .int .i64 D] 37)).cell? ⟨w6.heap.size, 1, none⟩ = some (.int .i64 B) := by simp
        have s2 : (w6.alloc (.cells #[.int .i64 A, .int .i64 B, .int .i64 C, .int .i64 D] 37)).cell? ⟨w6.heap.size, 2, none⟩ = some (.int .i64 C) := by simp
        have s3 : (w6.alloc (.cells #[.int .i64 A, .int .i64 B, .int .i64 C, .int .i64 D] 37)).cell? ⟨w6.heap.size, 3, none⟩ = some (.int .i64 D) := by simp
        have lkx : w2.heap.size < w6.heap.size := Nat.lt_of_lt_of_le (show w2.heap.size < w5.heap.size from block_lt x0) hb.size
        have lky : w3.heap.size < w6.heap.size := Nat.lt_of_lt_of_le (show w3.heap.size < w5.heap.size from block_lt y0) hb.size
        clear ht hb hbs x0 x1 y0 y1
        have x0 := hX.out.x0
        have x1 := hX.out.x1
        have y0 := hX.out.y0
        have y1 := hX.out.y1
        have hd := dox_any K ax n cx X A B C D _ hX.out.px hS.out.1 hsw.1 hsw.2.1 hsw.2.2.1 hsw.2.2.2.1 hsw.2.2.2.2
        obtain ⟨R, hR⟩ : ∃ R, flL X K n A B C D = R := ⟨_, rfl⟩
        have hR2 : flS X K n (A, B, C, D) = R := hR
        rw [hR2] at hfw
        rw [hR] at hd
        have hSR : Hid (Im K n R ∧ Im K n Y ∧ SumE R Y K n) := by
          have a := fls_im hS.out.1 (A, B, C, D)
          have b := fls_sum hS.out.1 hmem
          rw [hR2] at a b
          exact ⟨a, hS.out.2.1, b.trans hS.out.2.2⟩
        have hPn : Hid (P = (L1 ++ [(A, B, C, D)]) ++ (pathL K n R Y ++ L2.reverse)) := Lib.hid (by rw [hP.out, hfw]; simp)
        rw [hfw] at hpl
        rw [List.length_cons] at hpl
        replace hd := Lib.hid hd
        clear hsw hmem hR hR2 hfw hS hP hf hf0 hmore
        go_wp2_with fail
        refine hd.out.mono ?_
        rintro e w7 ⟨⟨an, cn, rfl, ho⟩, hb⟩
        obtain ⟨gn, rfl, hgn⟩ : ∃ gn, an = some ⟨gn, 0, none⟩ ∧ w6.heap.size + 1 ≤ gn := by
          rcases ho.cases with ⟨_, h0, _⟩ | ⟨gn, rfl, hg, _⟩
          · omega
          · exact ⟨gn, rfl, by simpa using hg⟩
        have hro : Row w7 (some ⟨gn, 0, none⟩) n R := ho.row
        have hz7 : g1 < w6.heap.size + 1 ∧ g2 < w6.heap.size + 1 := by have := hX.out.hz; simpa using this
        replace hX := Lib.hid (hX.out.move hb)
        replace s0 := kept hb (block_lt s0) s0
        replace s1 := kept hb (block_lt s1) s1
        replace s2 := kept hb (block_lt s2) s2
        replace s3 := kept hb (block_lt s3) s3
        have sz7 : w6.heap.size + 1 ≤ w7.heap.size := by have := hb.size; simpa using this
        clear hd hb ho x0 x1 y0 y1
        have x0 := hX.out.x0
        have x1 := hX.out.x1
        have y0 := hX.out.y0
        have y1 := hX.out.y1
        have hkx := hX.out.xf
        have hX8 := Lib.hid (PX.setx (a' := some ⟨gn, 0, none⟩) (c' := cn) hX.out hro (fun b off e hn => by cases e; omega))
        have hgs : w7.grownBy ((w7.setCell ⟨w2.heap.size, 0, none⟩ (.int .i64 K)).setCell ⟨w2.heap.size, 1, none⟩ (.slice (some ⟨gn, 0, none⟩) n cn)) (some w2.heap.size) := grown_set (grown_set (World.grownBy.refl _ _))
        have nk : w6.heap.size ≠ w2.heap.size := by omega
        replace s0 := hgs.cell s0 (by simpa using nk)
        replace s1 := hgs.cell s1 (by simpa using nk)
        replace s2 := hgs.cell s2 (by simpa using nk)
        replace s3 := hgs.cell s3 (by simpa using nk)
        have sz8 := hgs.size
        clear hgs
        go_upto_region 11 with fail
        obtain ⟨w8, hw8⟩ : ∃ w8, (w7.setCell ⟨w2.heap.size, 0, none⟩ (.int .i64 K)).setCell ⟨w2.heap.size, 1, none⟩ (.slice (some ⟨gn, 0, none⟩) n cn) = w8 := ⟨_, rfl⟩
        rw [hw8] at hX8 s0 s1 s2 s3 sz8 ⊢
        clear hw8 hX x0 x1 y0 y1 hkx hro
        replace hX := Lib.hid hX8.out
        clear hX8
        have hown := hX.out.o1
        unfold OwnS at hown
        have bz := hX.out.bel.size
        have lens : N1 + N2 ≤ 17 := by omega
        go_wp2_with (at_builtin; refine wpList_append_sw rfl _ _ rfl w.heap.size g1 N1 c1 (flatS L1) rfl (World.ownsRow.alloc hown _) w8.heap.size rfl A B C D (by simp) (by simp) (by simp) (by simp) (by omega) (by simp; omega) ?_)
        intro g' c' w9 hown1 hgr hlies
        have hO9 : OwnS w9 w.heap.size (some ⟨g', 0, none⟩) (N1 + 1) c' (L1 ++ [(A, B, C, D)]) := by unfold OwnS; rw [sflat_snoc, List.map_append]; exact hown1
        have hX9 := Lib.hid (hX.out.app hO9 hgr hlies)
        clear hown1 hgr hlies hO9 hown hX s0 s1 s2 s3
        go_wp2_with fail
        exact ⟨⟨(some ⟨gn, 0, none⟩), cn, R, ay, cy, Y, g', c', N1 + 1, L1 ++ [(A, B, C, D)], g2, c2, N2, L2, rfl, rfl, hX9, hSR, hPn⟩, by simp [lenV]; omega⟩
      | none =>
        obtain ⟨⟨A, B, C, D⟩, h2⟩ : ∃ t, towL Y X K n = some t := by
          rcases tow_either hS.out.1 hS.out.2.1 hS.out.2.2 hmore with e | e
          · exact absurd h1 e
          · cases h2 : towL Y X K n with
            | some t => exact ⟨t, rfl⟩
            | none => exact absurd h2 e
        have hfw := path_bwd h1 h2
        have ht0 := tow_no_s hS.out.1 hS.out.2.1 h1 ax ay cx cy w5 hX.out.px hX.out.py
        go_wp2_with fail
        refine ht0.mono ?_
        rintro e w5a ⟨rfl, hb⟩
        have hb2 : Below w5.heap.size w5 (w5a.alloc (.cells #[.int .i64 0, .int .i64 0, .int .i64 0, .int .i64 0] 37)) := hb.alloc hb.size _
        replace hX := Lib.hid (hX.out.move hb2)
        clear ht0 hb hb2 x0 x1 y0 y1
        have x0 := hX.out.x0
        have x1 := hX.out.x1
        have y0 := hX.out.y0
        have y1 := hX.out.y1
        have ht := tow_yes_s hS.out.2.1 hS.out.1 h2 ay ax cy cx (w5a.alloc (.cells #[.int .i64 0, .int .i64 0, .int .i64 0, .int .i64 0] 37)) hX.out.py hX.out.px
        have hmem := (tow_mem h2).1
        have hsw := sw_at hmem
        (try dsimp only at hsw)
        go_wp2_with fail
        refine ht.mono ?_
        rintro e w6 ⟨rfl, hb⟩
        have hbs : Below (w5a.alloc (.cells #[.int .i64 0, .int .i64 0, .int .i64 0, .int .i64 0] 37)).heap.size (w5a.alloc (.cells #[.int .i64 0, .int .i64 0, .int .i64 0, .int .i64 0] 37)) (w6.alloc (.cells #[.int .i64 A, .int .i64 B, .int .i64 C, .int .i64 D] 37)) := hb.alloc hb.size _
        replace hX := Lib.hid (hX.out.move hbs)
        have s0 : (w6.alloc (.cells #[.int .i64 A, .int .i64 B, .int .i64 C, .int .i64 D] 37)).cell? ⟨w6.heap.size, 0, none⟩ = some (.int .i64 A) := by simp
        have s1 : (w6.alloc (.cells #[.int .i64 A, .int .i64 B, .int .i64 C, .int .i64 D] 37)).cell? ⟨w6.heap.size, 1, none⟩ = some (.int .i64 B) := by simp
        have s2 : (w6.alloc (.cells #[.int .i64 A, .int .i64 B, .int .i64 C, .int .i64 D] 37)).cell? ⟨w6.heap.size, 2, none⟩ = some (.int .i64 C) := by simp
        have s3 : (w6.alloc (.cells #[.int .i64 A, .int .i64 B, .int .i64 C, .int .i64 D] 37)).cell? ⟨w6.heap.size, 3, none⟩ = some (.int .i64 D) := by simp
        have lkx : w2.heap.size < w6.heap.size := Nat.lt_of_lt_of_le (show w2.heap.size < (w5a.alloc (.cells #[.int .i64 0, .int .i64 0, .int .i64 0, .int .i64 0] 37)).heap.size from block_lt x0) hb.size
        have lky : w3.heap.size < w6.heap.size := Nat.lt_of_lt_of_le (show w3.heap.size < (w5a.alloc (.cells #[.int .i64 0, .int .i64 0, .int .i64 0, .int .i64 0] 37)).heap.size from block_lt y0) hb.size
        clear ht hb hbs x0 x1 y0 y1
        have x0 := hX.out.x0
        have x1 := hX.out.x1
        have y0 := hX.out.y0
        have y1 := hX.out.y1
        have hd := dox_any K ay n cy Y A B C D _ hX.out.py hS.out.2.1 hsw.1 hsw.2.1 hsw.2.2.1 hsw.2.2.2.1 hsw.2.2.2.2
        obtain ⟨R, hR⟩ : ∃ R, flL Y K n A B C D = R := ⟨_, rfl⟩
        have hR2 : flS Y K n (A, B, C, D) = R := hR
        rw [hR2] at hfw
        rw [hR] at hd
        have hSR : Hid (Im K n X ∧ Im K n R ∧ SumE X R K n) := by
          have a := fls_im hS.out.2.1 (A, B, C, D)
          have b := fls_sum hS.out.2.1 hmem
          rw [hR2] at a b
          exact ⟨hS.out.1, a, hS.out.2.2.trans b.symm⟩
        have hPn : Hid (P = L1 ++ (pathL K n X R ++ (L2 ++ [(A, B, C, D)]).reverse)) := Lib.hid (by rw [hP.out, hfw]; simp)
        rw [hfw] at hpl
        rw [List.length_append, List.length_singleton] at hpl
        replace hd := Lib.hid hd
        clear hsw hmem hR hR2 hfw hS hP hf hf0 hmore
        go_wp2_with fail
        refine hd.out.mono ?_
        rintro e w7 ⟨⟨an, cn, rfl, ho⟩, hb⟩
        obtain ⟨gn, rfl, hgn⟩ : ∃ gn, an = some ⟨gn, 0, none⟩ ∧ w6.heap.size + 1 ≤ gn := by
          rcases ho.cases with ⟨_, h0, _⟩ | ⟨gn, rfl, hg, _⟩
          · omega
          · exact ⟨gn, rfl, by simpa using hg⟩
        have hro : Row w7 (some ⟨gn, 0, none⟩) n R := ho.row
        have hz7 : g1 < w6.heap.size + 1 ∧ g2 < w6.heap.size + 1 := by have := hX.out.hz; simpa using this
        replace hX := Lib.hid (hX.out.move hb)
        replace s0 := kept hb (block_lt s0) s0
        replace s1 := kept hb (block_lt s1) s1
        replace s2 := kept hb (block_lt s2) s2
        replace s3 := kept hb (block_lt s3) s3
        have sz7 : w6.heap.size + 1 ≤ w7.heap.size := by have := hb.size; simpa using this
        clear hd hb ho x0 x1 y0 y1
        have x0 := hX.out.x0
        have x1 := hX.out.x1
        have y0 := hX.out.y0
        have y1 := hX.out.y1
        have hkx := hX.out.yf
        have hX8 := Lib.hid (PX.setx (a' := some ⟨gn, 0, none⟩) (c' := cn) hX.out.flip hro (fun b off e hn => by cases e; omega))
        have hgs : w7.grownBy ((w7.setCell ⟨w3.heap.size, 0, none⟩ (.int .i64 K)).setCell ⟨w3.heap.size, 1, none⟩ (.slice (some ⟨gn, 0, none⟩) n cn)) (some w3.heap.size) := grown_set (grown_set (World.grownBy.refl _ _))
        have nk : w6.heap.size ≠ w3.heap.size := by omega
        replace s0 := hgs.cell s0 (by simpa using nk)
        replace s1 := hgs.cell s1 (by simpa using nk)
        replace s2 := hgs.cell s2 (by simpa using nk)
        replace s3 := hgs.cell s3 (by simpa using nk)
        have sz8 := hgs.size
        clear hgs
        go_upto_region 16 with fail
        obtain ⟨w8, hw8⟩ : ∃ w8, (w7.setCell ⟨w3.heap.size, 0, none⟩ (.int .i64 K)).setCell ⟨w3.heap.size, 1, none⟩ (.slice (some ⟨gn, 0, none⟩) n cn) = w8 := ⟨_, rfl⟩
        rw [hw8] at hX8 s0 s1 s2 s3 sz8 ⊢
        clear hw8 hX x0 x1 y0 y1 hkx hro
        replace hX := Lib.hid hX8.out.flip
        clear hX8
        have hown := hX.out.o2
        unfold OwnS at hown
        have bz := hX.out.bel.size
        have lens : N1 + N2 ≤ 17 := by omega
        go_wp2_with (at_builtin; refine wpList_append_sw rfl _ _ rfl w.heap.size g2 N2 c2 (flatS L2) rfl (World.ownsRow.alloc hown _) w8.heap.size rfl A B C D (by simp) (by simp) (by simp) (by simp) (by omega) (by simp; omega) ?_)
        intro g' c' w9 hown1 hgr hlies
        have hO9 : OwnS w9 w.heap.size (some ⟨g', 0, none⟩) (N2 + 1) c' (L2 ++ [(A, B, C, D)]) := by unfold OwnS; rw [sflat_snoc, List.map_append]; exact hown1
        have hX9 := Lib.hid ((hX.out.swap.app hO9 hgr hlies).swap)
        clear hown1 hgr hlies hO9 hown hX s0 s1 s2 s3
        go_wp2_with fail
        exact ⟨⟨ax, cx, X, (some ⟨gn, 0, none⟩), cn, R, g1, c1, N1, L1, g', c', N2 + 1, L2 ++ [(A, B, C, D)], rfl, rfl, hX9, hSR, hPn⟩, by simp [lenV]; omega⟩
end Go.Proofs.Ytgamkmkpmcenpaa
