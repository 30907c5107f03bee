/-
  Paths of switches as linked steps: what they are in memory, and the program's function that lists them.
  The contracts of the program's functions that make a path of switches.
  The contracts of the model's functions that make a path of switches.
-/
import Derived.Test.YtnfkafaolelkbaaQl
import Derived.Test.YtnfkafaolelkbaaVa
import Derived.Test.YtnfkafaolelkbaaWa
import Derived.Test.YtnfkafaolelkbaaWl
import Derived.Test.YtnfkafaolelkbaaEp
import Derived.Test.YtnfkafaolelkbaaSk
import Derived.Deep.RegionLaw

namespace Go.Proofs.Ytnfkafaolelkbaa
set_option maxRecDepth 100000
open Go.RowKit

/-- A list of steps, each with a pointer to the next one. -/
def LinkL (w : World) : Option Addr → List SwT → Prop
  | p, [] => p = none
  | p, s :: L => ∃ (g : Nat) (q : Option Addr), p = some ⟨g, 0, none⟩ ∧ (w.cell? ⟨g, 0, none⟩ = some (.int .i64 s.1) ∧ w.cell? ⟨g, 1, none⟩ = some (.int .i64 s.2.1) ∧ w.cell? ⟨g, 2, none⟩ = some (.int .i64 s.2.2.1) ∧ w.cell? ⟨g, 3, none⟩ = some (.int .i64 s.2.2.2) ∧ w.cell? ⟨g, 4, none⟩ = some (.pointer q)) ∧ LinkL w q L
theorem link_bel {w w' : World} (hb : Below w.heap.size w w') : ∀ {L : List SwT} {p : Option Addr}, LinkL w p L → LinkL w' p L
  | [], _, h => h
  | _ :: _, _, ⟨g, q, e, ⟨h0, h1, h2, h3, h4⟩, hl⟩ => ⟨g, q, e, ⟨kept hb (block_lt h0) h0, kept hb (block_lt h1) h1, kept hb (block_lt h2) h2, kept hb (block_lt h3) h3, kept hb (block_lt h4) h4⟩, link_bel hb hl⟩
theorem LinkL.bel {w w' : World} {L : List SwT} {p : Option Addr} (h : LinkL w p L) (hb : Below w.heap.size w w') : LinkL w' p L := link_bel hb h
def lenV : Value → Nat
  | .slice _ n _ => n
  | _ => 0

set_option maxHeartbeats 1000000 in
theorem steps_any (p : Option Addr) (L : List SwT) (w : World) (h : LinkL w p L) (hN : L.length ≤ 1000) :
    Calls Try.prog 82 #[.pointer p] w (GivesO w L) := by
  obtain ⟨W0, hW0⟩ : ∃ W0, W0 = w.alloc (.cells #[] 97) := ⟨_, rfl⟩
  have hO : Hid (W0.ownsRow w.heap.size 97 4 (.slice (some ⟨w.heap.size, 0, none⟩) 0 0) 0 ((flatS []).map (Value.int .i64))) := by
    subst hW0
    have := World.ownsRow_lit (base := w.heap.size) (e := 97) (size := 4) w #[] 0 (Nat.le_refl _) (by decide) rfl
    exact Lib.hid (by simpa [flatS] using this)
  have bb : Hid (Below w.heap.size w W0) := by subst hW0; exact (Below.refl _ _).alloc (Nat.le_refl _) _
  replace h := Lib.hid h
  go_enter Try.func82, Try.ntmps82
  go_wp2_with fail
  rw [← hW0]
  clear hW0
  go_loopw [3, 4] (fun o i wr => ∃ (pre rest : List SwT) (p' : Option Addr) (g c N : Nat), Hid (L = pre ++ rest) ∧ i = .pointer p' ∧ Hid (LinkL w p' rest) ∧ o = .slice (some ⟨g, 0, none⟩) N c ∧ Hid (pre.length = N) ∧ w.heap.size ≤ g ∧ Hid (wr.ownsRow w.heap.size 97 4 (.slice (some ⟨g, 0, none⟩) N c) N ((flatS pre).map (Value.int .i64))) ∧ Hid (Below w.heap.size w wr)) (fun o _ _ => L.length - lenV o)
  case atStart => exact ⟨[], L, p, w.heap.size, 0, 0, Lib.hid rfl, rfl, h, rfl, Lib.hid rfl, Nat.le_refl _, hO, bb⟩
  case round =>
    clear h hO bb
    obtain ⟨pre, rest, p', g, c, N, hL, rfl, hlk, rfl, hpl, hg, hO, bb⟩ := hrel
    have hln := congrArg List.length hL.out
    rw [List.length_append, hpl.out] at hln
    cases rest with
    | nil =>
      have e : p' = none := hlk.out
      subst e
      have eL : L = pre := by have := hL.out; simpa using this
      subst eL
      go_wp2_with fail
      go_ret
      rw [← hpl.out]
      rw [← hpl.out] at hO
      exact ⟨⟨_, _, rfl, hO.out⟩, bb.out⟩
    | cons s rest =>
      obtain ⟨g0, q, rfl, ⟨h0, h1, h2, h3, h4⟩, hl⟩ := hlk.out
      have s0 := kept bb.out (block_lt h0) h0
      have s1 := kept bb.out (block_lt h1) h1
      have s2 := kept bb.out (block_lt h2) h2
      have s3 := kept bb.out (block_lt h3) h3
      have s4 := kept bb.out (block_lt h4) h4
      have lg0 : g0 < w.heap.size := block_lt h0
      replace hl := Lib.hid hl
      replace h4 := Lib.hid h4
      obtain ⟨A, hA⟩ : ∃ A : Int, (s.1 : Int) = A := ⟨_, rfl⟩
      obtain ⟨B, hB⟩ : ∃ B : Int, (s.2.1 : Int) = B := ⟨_, rfl⟩
      obtain ⟨C, hC⟩ : ∃ C : Int, (s.2.2.1 : Int) = C := ⟨_, rfl⟩
      obtain ⟨D, hD⟩ : ∃ D : Int, (s.2.2.2 : Int) = D := ⟨_, rfl⟩
      have hfl : Hid (flatS (pre ++ [s]) = flatS pre ++ [A, B, C, D]) := by
        have := sflat_snoc pre s.1 s.2.1 s.2.2.1 s.2.2.2
        rw [hA, hB, hC, hD] at this; exact this
      rw [hA] at s0
      rw [hB] at s1
      rw [hC] at s2
      rw [hD] at s3
      have hz := bb.out.size
      have hown := hO.out
      replace hO := Lib.hid hO
      rw [List.length_cons] at hln
      clear hlk h0 h1 h2 h3 hA hB hC hD
      go_wp2_with (at_builtin; refine wpList_append_sw rfl _ _ rfl w.heap.size g N c (flatS pre) rfl (World.ownsRow.alloc hown _) wr.heap.size rfl A B C D (by simp) (by simp) (by simp) (by simp) (by omega) (by simp; omega) ?_)
      intro g' c' w6 hown1 hgr hlies
      have hb6 : Below w.heap.size w w6 := (bb.out.alloc hz _).grown hgr (Nat.le_trans hz (by simp)) (fun k hk => by cases hk; omega)
      have s5 := kept hb6 (block_lt h4.out) h4.out
      have hg' : w.heap.size ≤ g' := by rcases hlies with h | h <;> (try simp at h) <;> omega
      have hown2 := Lib.hid hown1
      have bb6 := Lib.hid hb6
      clear hown1 hgr hlies hb6 hown hO s0 s1 s2 s3 s4 bb
      go_wp2_with fail
      exact ⟨⟨pre ++ [s], rest, q, g', c', N + 1, Lib.hid (by rw [hL.out]; simp), rfl, hl, rfl, Lib.hid (by rw [List.length_append, hpl.out]; rfl), hg', Lib.hid (by rw [hfl.out, List.map_append]; exact hown2.out), bb6⟩, by simp [lenV]; omega⟩
end Go.Proofs.Ytnfkafaolelkbaa

namespace Go.Proofs.Ytnfkafaolelkbaa
set_option maxRecDepth 100000
open Go.RowKit

theorem tow_no_i {K n : Nat} {xs ys : List Int} (hI : Im K n xs) (hJ : Im K n ys) (h : towL xs ys K n = none) (a b : Option Addr) (c d : Nat) (w : World) (hr : Row w a n xs) (hs : Row w b n ys) :
    Calls Try.prog 103 #[.agg #[.int .i64 K, .slice a n c], .agg #[.int .i64 K, .slice b n d]] w fun e w' => e = .returned (.tuple #[.agg #[.int .i64 0, .int .i64 0, .int .i64 0, .int .i64 0], .bool false]) ∧ Below w.heap.size w w' := by
  have hc := tow_impl (K : Int) K a b n n c d xs ys w hr hs (by have := hI.l6; omega) (by have := hI.l6; omega)
  rw [towOut_yes hI hJ, h] at hc
  exact hc
theorem tow_yes_i {K n : Nat} {xs ys : List Int} (hI : Im K n xs) (hJ : Im K n ys) {A B C D : Nat} (h : towL xs ys K n = some (A, B, C, D)) (a b : Option Addr) (c d : Nat) (w : World) (hr : Row w a n xs) (hs : Row w b n ys) :
    Calls Try.prog 103 #[.agg #[.int .i64 K, .slice a n c], .agg #[.int .i64 K, .slice b n d]] w fun e w' => e = .returned (.tuple #[.agg #[.int .i64 A, .int .i64 B, .int .i64 C, .int .i64 D], .bool true]) ∧ Below w.heap.size w w' := by
  have hc := tow_impl (K : Int) K a b n n c d xs ys w hr hs (by have := hI.l6; omega) (by have := hI.l6; omega)
  rw [towOut_yes hI hJ, h] at hc
  exact hc
theorem tow_ok {K n : Nat} {xs ys : List Int} (hI : Im K n xs) {A B C D : Nat} (h : towL xs ys K n = some (A, B, C, D)) : okB K xs A B C D = true := by
  have a := sw_at (tow_mem h).1
  exact (okB_yes hI a.1 a.2.1 a.2.2.1 a.2.2.2.1).trans a.2.2.2.2
/-- What pathAhead gives: a list of steps. -/
def GivesH (w : World) (L : List SwT) (e : Ending) (w' : World) : Prop := (∃ q : Option Addr, e = .returned (.pointer q) ∧ LinkL w' q L) ∧ Below w.heap.size w w'

set_option maxHeartbeats 1000000 in
theorem ahead_none {K n : Nat} {xs ys : List Int} (hI : Im K n xs) (hJ : Im K n ys) {R : List SwT} (h1 : towL xs ys K n = none) (h2 : towL ys xs K n = none) (a b : Option Addr) (c d : Nat) (p : Option Addr) (w : World) (hr : Row w a n xs) (hs : Row w b n ys) (hk : LinkL w p R) :
    Calls Try.prog 81 #[.agg #[.int .i64 K, .slice a n c], .agg #[.int .i64 K, .slice b n d], .pointer p] w (GivesH w (pathL K n xs ys ++ R)) := by
  have hK6 := hI.w6
  have hn6 := hI.l6
  obtain ⟨W0, hW0⟩ : ∃ W0, W0 = (w.alloc (.cells #[.int .i64 K, .slice a n c] 30)).alloc (.cells #[.int .i64 K, .slice b n d] 30) := ⟨_, rfl⟩
  have bb : Hid (Below w.heap.size w W0) := by subst hW0; exact ((Below.refl _ _).alloc (Nat.le_refl _) _).alloc (by simp) _
  have x0 : W0.cell? ⟨w.heap.size, 0, none⟩ = some (.int .i64 K) := by subst hW0; go_simp
  have x1 : W0.cell? ⟨w.heap.size, 1, none⟩ = some (.slice a n c) := by subst hW0; go_simp
  have y0 : W0.cell? ⟨w.heap.size + 1, 0, none⟩ = some (.int .i64 K) := by subst hW0; go_simp
  have y1 : W0.cell? ⟨w.heap.size + 1, 1, none⟩ = some (.slice b n d) := by subst hW0; go_simp
  have r := Lib.hid (hr.bel bb.out)
  have q := Lib.hid (hs.bel bb.out)
  have k := Lib.hid (hk.bel bb.out)
  clear hr hs hk
  replace hI := Lib.hid hI
  replace hJ := Lib.hid hJ
  go_enter Try.func81, Try.ntmps81
  go_wp2_with fail
  rw [← hW0]
  clear hW0
  refine (tow_no_i hI.out hJ.out h1 _ _ _ _ _ r.out q.out).mono ?_
  rintro e w1 ⟨rfl, hb⟩
  have szw1 := hb.size
  replace x0 := kept hb (block_lt x0) x0
  replace x1 := kept hb (block_lt x1) x1
  replace y0 := kept hb (block_lt y0) y0
  replace y1 := kept hb (block_lt y1) y1
  replace r := Lib.hid (r.out.bel hb)
  replace q := Lib.hid (q.out.bel hb)
  replace k := Lib.hid (k.out.bel hb)
  replace bb := Lib.hid (bb.out.trans (hb.mono bb.out.size))
  clear hb
  have hbx : Below w1.heap.size w1 (w1.alloc (.cells #[.int .i64 0, .int .i64 0, .int .i64 0, .int .i64 0] 97)) := (Below.refl _ _).alloc (Nat.le_refl _) _
  replace x0 := kept hbx (block_lt x0) x0
  replace x1 := kept hbx (block_lt x1) x1
  replace y0 := kept hbx (block_lt y0) y0
  replace y1 := kept hbx (block_lt y1) y1
  replace r := Lib.hid (r.out.bel hbx)
  replace q := Lib.hid (q.out.bel hbx)
  replace k := Lib.hid (k.out.bel hbx)
  replace bb := Lib.hid (bb.out.trans (hbx.mono bb.out.size))
  clear hbx
  have z0 : (w1.alloc (.cells #[.int .i64 0, .int .i64 0, .int .i64 0, .int .i64 0] 97)).cell? ⟨w1.heap.size, 0, none⟩ = some (.int .i64 0) := by simp
  have z1 : (w1.alloc (.cells #[.int .i64 0, .int .i64 0, .int .i64 0, .int .i64 0] 97)).cell? ⟨w1.heap.size, 1, none⟩ = some (.int .i64 0) := by simp
  have z2 : (w1.alloc (.cells #[.int .i64 0, .int .i64 0, .int .i64 0, .int .i64 0] 97)).cell? ⟨w1.heap.size, 2, none⟩ = some (.int .i64 0) := by simp
  have z3 : (w1.alloc (.cells #[.int .i64 0, .int .i64 0, .int .i64 0, .int .i64 0] 97)).cell? ⟨w1.heap.size, 3, none⟩ = some (.int .i64 0) := by simp
  go_wp2_with fail
  refine (tow_no_i hJ.out hI.out h2 _ _ _ _ _ q.out r.out).mono ?_
  rintro e w2 ⟨rfl, hb⟩
  have szw2 : w1.heap.size + 1 ≤ w2.heap.size := by have := hb.size; simpa using this
  replace x0 := kept hb (block_lt x0) x0
  replace x1 := kept hb (block_lt x1) x1
  replace y0 := kept hb (block_lt y0) y0
  replace y1 := kept hb (block_lt y1) y1
  replace z0 := kept hb (block_lt z0) z0
  replace z1 := kept hb (block_lt z1) z1
  replace z2 := kept hb (block_lt z2) z2
  replace z3 := kept hb (block_lt z3) z3
  replace r := Lib.hid (r.out.bel hb)
  replace q := Lib.hid (q.out.bel hb)
  replace k := Lib.hid (k.out.bel hb)
  replace bb := Lib.hid (bb.out.trans (hb.mono bb.out.size))
  clear hb
  have hbx : Below w2.heap.size w2 (w2.alloc (.cells #[.int .i64 0, .int .i64 0, .int .i64 0, .int .i64 0] 97)) := (Below.refl _ _).alloc (Nat.le_refl _) _
  replace x0 := kept hbx (block_lt x0) x0
  replace x1 := kept hbx (block_lt x1) x1
  replace y0 := kept hbx (block_lt y0) y0
  replace y1 := kept hbx (block_lt y1) y1
  replace z0 := kept hbx (block_lt z0) z0
  replace z1 := kept hbx (block_lt z1) z1
  replace z2 := kept hbx (block_lt z2) z2
  replace z3 := kept hbx (block_lt z3) z3
  replace r := Lib.hid (r.out.bel hbx)
  replace q := Lib.hid (q.out.bel hbx)
  replace k := Lib.hid (k.out.bel hbx)
  replace bb := Lib.hid (bb.out.trans (hbx.mono bb.out.size))
  clear hbx
  have u0 : (w2.alloc (.cells #[.int .i64 0, .int .i64 0, .int .i64 0, .int .i64 0] 97)).cell? ⟨w2.heap.size, 0, none⟩ = some (.int .i64 0) := by simp
  have u1 : (w2.alloc (.cells #[.int .i64 0, .int .i64 0, .int .i64 0, .int .i64 0] 97)).cell? ⟨w2.heap.size, 1, none⟩ = some (.int .i64 0) := by simp
  have u2 : (w2.alloc (.cells #[.int .i64 0, .int .i64 0, .int .i64 0, .int .i64 0] 97)).cell? ⟨w2.heap.size, 2, none⟩ = some (.int .i64 0) := by simp
  have u3 : (w2.alloc (.cells #[.int .i64 0, .int .i64 0, .int .i64 0, .int .i64 0] 97)).cell? ⟨w2.heap.size, 3, none⟩ = some (.int .i64 0) := by simp
  go_wp2_with fail
  go_ret
  exact ⟨⟨p, rfl, by rw [path_nil h1 h2]; exact k.out⟩, bb.out⟩

set_option maxHeartbeats 2000000 in
theorem ahead_fwd {K n : Nat} {xs ys : List Int} (hI : Im K n xs) (hJ : Im K n ys) {R : List SwT} {A B C D : Nat} (h1 : towL xs ys K n = some (A, B, C, D)) (ih : ∀ (a' : Option Addr) (c' : Nat) (b' : Option Addr) (d' : Nat) (p' : Option Addr) (w' : World), Row w' a' n (flL xs K n A B C D) → Row w' b' n (ys) → LinkL w' p' (R) → Calls Try.prog 81 #[.agg #[.int .i64 K, .slice a' n c'], .agg #[.int .i64 K, .slice b' n d'], .pointer p'] w' (GivesH w' (pathL K n (flL xs K n A B C D) (ys) ++ (R)))) (a b : Option Addr) (c d : Nat) (p : Option Addr) (w : World) (hr : Row w a n xs) (hs : Row w b n ys) (hk : LinkL w p R) :
    Calls Try.prog 81 #[.agg #[.int .i64 K, .slice a n c], .agg #[.int .i64 K, .slice b n d], .pointer p] w (GivesH w (pathL K n xs ys ++ R)) := by
  have hK6 := hI.w6
  have hn6 := hI.l6
  obtain ⟨W0, hW0⟩ : ∃ W0, W0 = (w.alloc (.cells #[.int .i64 K, .slice a n c] 30)).alloc (.cells #[.int .i64 K, .slice b n d] 30) := ⟨_, rfl⟩
  have bb : Hid (Below w.heap.size w W0) := by subst hW0; exact ((Below.refl _ _).alloc (Nat.le_refl _) _).alloc (by simp) _
  have x0 : W0.cell? ⟨w.heap.size, 0, none⟩ = some (.int .i64 K) := by subst hW0; go_simp
  have x1 : W0.cell? ⟨w.heap.size, 1, none⟩ = some (.slice a n c) := by subst hW0; go_simp
  have y0 : W0.cell? ⟨w.heap.size + 1, 0, none⟩ = some (.int .i64 K) := by subst hW0; go_simp
  have y1 : W0.cell? ⟨w.heap.size + 1, 1, none⟩ = some (.slice b n d) := by subst hW0; go_simp
  have r := Lib.hid (hr.bel bb.out)
  have q := Lib.hid (hs.bel bb.out)
  have k := Lib.hid (hk.bel bb.out)
  clear hr hs hk
  replace hI := Lib.hid hI
  replace hJ := Lib.hid hJ
  go_enter Try.func81, Try.ntmps81
  go_wp2_with fail
  rw [← hW0]
  clear hW0
  obtain ⟨X, hX⟩ : ∃ X, flL xs K n A B C D = X := ⟨_, rfl⟩
  rw [hX] at ih
  have ho := Lib.hid (tow_ok hI.out h1)
  have hp : Hid (pathL K n xs ys ++ R = (A, B, C, D) :: (pathL K n X ys ++ R)) := by
    have e := path_fwd h1
    show pathL K n xs ys ++ R = _
    rw [e, List.cons_append, ← hX]; rfl
  replace hX := Lib.hid hX
  replace ih := Lib.hid ih
  refine (tow_yes_i hI.out hJ.out h1 _ _ _ _ _ r.out q.out).mono ?_
  rintro e w1 ⟨rfl, hb⟩
  have szw1 := hb.size
  replace x0 := kept hb (block_lt x0) x0
  replace x1 := kept hb (block_lt x1) x1
  replace y0 := kept hb (block_lt y0) y0
  replace y1 := kept hb (block_lt y1) y1
  replace r := Lib.hid (r.out.bel hb)
  replace q := Lib.hid (q.out.bel hb)
  replace k := Lib.hid (k.out.bel hb)
  replace bb := Lib.hid (bb.out.trans (hb.mono bb.out.size))
  clear hb
  have hbx : Below w1.heap.size w1 (w1.alloc (.cells #[.int .i64 A, .int .i64 B, .int .i64 C, .int .i64 D] 97)) := (Below.refl _ _).alloc (Nat.le_refl _) _
  replace x0 := kept hbx (block_lt x0) x0
  replace x1 := kept hbx (block_lt x1) x1
  replace y0 := kept hbx (block_lt y0) y0
  replace y1 := kept hbx (block_lt y1) y1
  replace r := Lib.hid (r.out.bel hbx)
  replace q := Lib.hid (q.out.bel hbx)
  replace k := Lib.hid (k.out.bel hbx)
  replace bb := Lib.hid (bb.out.trans (hbx.mono bb.out.size))
  clear hbx
  have s0 : (w1.alloc (.cells #[.int .i64 A, .int .i64 B, .int .i64 C, .int .i64 D] 97)).cell? ⟨w1.heap.size, 0, none⟩ = some (.int .i64 A) := by simp
  have s1 : (w1.alloc (.cells #[.int .i64 A, .int .i64 B, .int .i64 C, .int .i64 D] 97)).cell? ⟨w1.heap.size, 1, none⟩ = some (.int .i64 B) := by simp
  have s2 : (w1.alloc (.cells #[.int .i64 A, .int .i64 B, .int .i64 C, .int .i64 D] 97)).cell? ⟨w1.heap.size, 2, none⟩ = some (.int .i64 C) := by simp
  have s3 : (w1.alloc (.cells #[.int .i64 A, .int .i64 B, .int .i64 C, .int .i64 D] 97)).cell? ⟨w1.heap.size, 3, none⟩ = some (.int .i64 D) := by simp
  go_wp2_with fail
  refine (do_ok hI.out ho.out hX.out _ _ _ r.out).mono ?_
  rintro e w2 ⟨⟨ao, co, rfl, ho⟩, hb⟩
  have o := Lib.hid ho.row
  have szw2 : w1.heap.size + 1 ≤ w2.heap.size := by have := hb.size; simpa using this
  replace x0 := kept hb (block_lt x0) x0
  replace x1 := kept hb (block_lt x1) x1
  replace y0 := kept hb (block_lt y0) y0
  replace y1 := kept hb (block_lt y1) y1
  replace s0 := kept hb (block_lt s0) s0
  replace s1 := kept hb (block_lt s1) s1
  replace s2 := kept hb (block_lt s2) s2
  replace s3 := kept hb (block_lt s3) s3
  replace r := Lib.hid (r.out.bel hb)
  replace q := Lib.hid (q.out.bel hb)
  replace k := Lib.hid (k.out.bel hb)
  replace bb := Lib.hid (bb.out.trans (hb.mono bb.out.size))
  clear hb
  clear ho
  have hbx : Below w2.heap.size w2 (w2.alloc (.cells #[.int .i64 K, .slice ao n co] 30)) := (Below.refl _ _).alloc (Nat.le_refl _) _
  replace x0 := kept hbx (block_lt x0) x0
  replace x1 := kept hbx (block_lt x1) x1
  replace y0 := kept hbx (block_lt y0) y0
  replace y1 := kept hbx (block_lt y1) y1
  replace s0 := kept hbx (block_lt s0) s0
  replace s1 := kept hbx (block_lt s1) s1
  replace s2 := kept hbx (block_lt s2) s2
  replace s3 := kept hbx (block_lt s3) s3
  replace r := Lib.hid (r.out.bel hbx)
  replace q := Lib.hid (q.out.bel hbx)
  replace k := Lib.hid (k.out.bel hbx)
  replace o := Lib.hid (o.out.bel hbx)
  replace bb := Lib.hid (bb.out.trans (hbx.mono bb.out.size))
  clear hbx
  have o0 : (w2.alloc (.cells #[.int .i64 K, .slice ao n co] 30)).cell? ⟨w2.heap.size, 0, none⟩ = some (.int .i64 K) := by simp
  have o1 : (w2.alloc (.cells #[.int .i64 K, .slice ao n co] 30)).cell? ⟨w2.heap.size, 1, none⟩ = some (.slice ao n co) := by simp
  go_wp2_with fail
  obtain ⟨W4, hW4⟩ : ∃ W4, w2.alloc (.cells #[.int .i64 K, .slice ao n co] 30) = W4 := ⟨_, rfl⟩
  rw [hW4] at x0 x1 y0 y1 s0 s1 s2 s3 o0 o1 r q k o bb ⊢
  clear hW4
  have rd := o.out.bel (w' := W4.drew) ((Below.refl _ _).drew)
  have qd := q.out.bel (w' := W4.drew) ((Below.refl _ _).drew)
  have kd := k.out.bel (w' := W4.drew) ((Below.refl _ _).drew)
  go_region_law (first | ((go_simp; go_at_call 81; (with_reducible refine (ih.out _ _ _ _ _ _ rd qd kd).mono ?_); rintro e w5 ⟨⟨qp, rfl, hl⟩, hb2⟩; have hb : Below W4.heap.size W4 w5 := (((Below.refl _ _).drew).trans (hb2.mono (Nat.le_refl _))); have s0 := kept hb (block_lt s0) s0; have s1 := kept hb (block_lt s1) s1; have s2 := kept hb (block_lt s2) s2; have s3 := kept hb (block_lt s3) s3; have hl := Lib.hid hl; have bb := Lib.hid (bb.out.trans (hb.mono bb.out.size)); clear hb hb2))) 
  all_goals go_wp2_with fail
  all_goals go_ret
  all_goals refine ⟨⟨some ⟨w5.heap.size, 0, none⟩, rfl, ?_⟩, bb.out.alloc bb.out.size _⟩
  all_goals rw [hp.out]
  all_goals exact ⟨w5.heap.size, qp, rfl, ⟨by simp, by simp, by simp, by simp, by simp⟩, hl.out.bel ((Below.refl _ _).alloc (Nat.le_refl _) _)⟩

set_option maxHeartbeats 2000000 in
theorem ahead_bwd {K n : Nat} {xs ys : List Int} (hI : Im K n xs) (hJ : Im K n ys) {R : List SwT} {A B C D : Nat} (h1 : towL xs ys K n = none) (h2 : towL ys xs K n = some (A, B, C, D)) (ih : ∀ (a' : Option Addr) (c' : Nat) (b' : Option Addr) (d' : Nat) (p' : Option Addr) (w' : World), Row w' a' n (xs) → Row w' b' n (flL ys K n A B C D) → LinkL w' p' ((A, B, C, D) :: R) → Calls Try.prog 81 #[.agg #[.int .i64 K, .slice a' n c'], .agg #[.int .i64 K, .slice b' n d'], .pointer p'] w' (GivesH w' (pathL K n (xs) (flL ys K n A B C D) ++ ((A, B, C, D) :: R)))) (a b : Option Addr) (c d : Nat) (p : Option Addr) (w : World) (hr : Row w a n xs) (hs : Row w b n ys) (hk : LinkL w p R) :
    Calls Try.prog 81 #[.agg #[.int .i64 K, .slice a n c], .agg #[.int .i64 K, .slice b n d], .pointer p] w (GivesH w (pathL K n xs ys ++ R)) := by
  have hK6 := hI.w6
  have hn6 := hI.l6
  obtain ⟨W0, hW0⟩ : ∃ W0, W0 = (w.alloc (.cells #[.int .i64 K, .slice a n c] 30)).alloc (.cells #[.int .i64 K, .slice b n d] 30) := ⟨_, rfl⟩
  have bb : Hid (Below w.heap.size w W0) := by subst hW0; exact ((Below.refl _ _).alloc (Nat.le_refl _) _).alloc (by simp) _
  have x0 : W0.cell? ⟨w.heap.size, 0, none⟩ = some (.int .i64 K) := by subst hW0; go_simp
  have x1 : W0.cell? ⟨w.heap.size, 1, none⟩ = some (.slice a n c) := by subst hW0; go_simp
  have y0 : W0.cell? ⟨w.heap.size + 1, 0, none⟩ = some (.int .i64 K) := by subst hW0; go_simp
  have y1 : W0.cell? ⟨w.heap.size + 1, 1, none⟩ = some (.slice b n d) := by subst hW0; go_simp
  have r := Lib.hid (hr.bel bb.out)
  have q := Lib.hid (hs.bel bb.out)
  have k := Lib.hid (hk.bel bb.out)
  clear hr hs hk
  replace hI := Lib.hid hI
  replace hJ := Lib.hid hJ
  go_enter Try.func81, Try.ntmps81
  go_wp2_with fail
  rw [← hW0]
  clear hW0
  obtain ⟨X, hX⟩ : ∃ X, flL ys K n A B C D = X := ⟨_, rfl⟩
  rw [hX] at ih
  have ho := Lib.hid (tow_ok hJ.out h2)
  have hp : Hid (pathL K n xs ys ++ R = pathL K n xs X ++ ((A, B, C, D) :: R)) := by
    have e := path_bwd h1 h2
    show pathL K n xs ys ++ R = _
    rw [e, ← hX, List.append_assoc]; rfl
  replace hX := Lib.hid hX
  replace ih := Lib.hid ih
  refine (tow_no_i hI.out hJ.out h1 _ _ _ _ _ r.out q.out).mono ?_
  rintro e w1 ⟨rfl, hb⟩
  have szw1 := hb.size
  replace x0 := kept hb (block_lt x0) x0
  replace x1 := kept hb (block_lt x1) x1
  replace y0 := kept hb (block_lt y0) y0
  replace y1 := kept hb (block_lt y1) y1
  replace r := Lib.hid (r.out.bel hb)
  replace q := Lib.hid (q.out.bel hb)
  replace k := Lib.hid (k.out.bel hb)
  replace bb := Lib.hid (bb.out.trans (hb.mono bb.out.size))
  clear hb
  have hbx : Below w1.heap.size w1 (w1.alloc (.cells #[.int .i64 0, .int .i64 0, .int .i64 0, .int .i64 0] 97)) := (Below.refl _ _).alloc (Nat.le_refl _) _
  replace x0 := kept hbx (block_lt x0) x0
  replace x1 := kept hbx (block_lt x1) x1
  replace y0 := kept hbx (block_lt y0) y0
  replace y1 := kept hbx (block_lt y1) y1
  replace r := Lib.hid (r.out.bel hbx)
  replace q := Lib.hid (q.out.bel hbx)
  replace k := Lib.hid (k.out.bel hbx)
  replace bb := Lib.hid (bb.out.trans (hbx.mono bb.out.size))
  clear hbx
  have z0 : (w1.alloc (.cells #[.int .i64 0, .int .i64 0, .int .i64 0, .int .i64 0] 97)).cell? ⟨w1.heap.size, 0, none⟩ = some (.int .i64 0) := by simp
  have z1 : (w1.alloc (.cells #[.int .i64 0, .int .i64 0, .int .i64 0, .int .i64 0] 97)).cell? ⟨w1.heap.size, 1, none⟩ = some (.int .i64 0) := by simp
  have z2 : (w1.alloc (.cells #[.int .i64 0, .int .i64 0, .int .i64 0, .int .i64 0] 97)).cell? ⟨w1.heap.size, 2, none⟩ = some (.int .i64 0) := by simp
  have z3 : (w1.alloc (.cells #[.int .i64 0, .int .i64 0, .int .i64 0, .int .i64 0] 97)).cell? ⟨w1.heap.size, 3, none⟩ = some (.int .i64 0) := by simp
  go_wp2_with fail
  refine (tow_yes_i hJ.out hI.out h2 _ _ _ _ _ q.out r.out).mono ?_
  rintro e w2 ⟨rfl, hb⟩
  have szw2 : w1.heap.size + 1 ≤ w2.heap.size := by have := hb.size; simpa using this
  replace x0 := kept hb (block_lt x0) x0
  replace x1 := kept hb (block_lt x1) x1
  replace y0 := kept hb (block_lt y0) y0
  replace y1 := kept hb (block_lt y1) y1
  replace z0 := kept hb (block_lt z0) z0
  replace z1 := kept hb (block_lt z1) z1
  replace z2 := kept hb (block_lt z2) z2
  replace z3 := kept hb (block_lt z3) z3
  replace r := Lib.hid (r.out.bel hb)
  replace q := Lib.hid (q.out.bel hb)
  replace k := Lib.hid (k.out.bel hb)
  replace bb := Lib.hid (bb.out.trans (hb.mono bb.out.size))
  clear hb
  have hbx : Below w2.heap.size w2 (w2.alloc (.cells #[.int .i64 A, .int .i64 B, .int .i64 C, .int .i64 D] 97)) := (Below.refl _ _).alloc (Nat.le_refl _) _
  replace x0 := kept hbx (block_lt x0) x0
  replace x1 := kept hbx (block_lt x1) x1
  replace y0 := kept hbx (block_lt y0) y0
  replace y1 := kept hbx (block_lt y1) y1
  replace z0 := kept hbx (block_lt z0) z0
  replace z1 := kept hbx (block_lt z1) z1
  replace z2 := kept hbx (block_lt z2) z2
  replace z3 := kept hbx (block_lt z3) z3
  replace r := Lib.hid (r.out.bel hbx)
  replace q := Lib.hid (q.out.bel hbx)
  replace k := Lib.hid (k.out.bel hbx)
  replace bb := Lib.hid (bb.out.trans (hbx.mono bb.out.size))
  clear hbx
  have s0 : (w2.alloc (.cells #[.int .i64 A, .int .i64 B, .int .i64 C, .int .i64 D] 97)).cell? ⟨w2.heap.size, 0, none⟩ = some (.int .i64 A) := by simp
  have s1 : (w2.alloc (.cells #[.int .i64 A, .int .i64 B, .int .i64 C, .int .i64 D] 97)).cell? ⟨w2.heap.size, 1, none⟩ = some (.int .i64 B) := by simp
  have s2 : (w2.alloc (.cells #[.int .i64 A, .int .i64 B, .int .i64 C, .int .i64 D] 97)).cell? ⟨w2.heap.size, 2, none⟩ = some (.int .i64 C) := by simp
  have s3 : (w2.alloc (.cells #[.int .i64 A, .int .i64 B, .int .i64 C, .int .i64 D] 97)).cell? ⟨w2.heap.size, 3, none⟩ = some (.int .i64 D) := by simp
  go_wp2_with fail
  refine (do_ok hJ.out ho.out hX.out _ _ _ q.out).mono ?_
  rintro e w3 ⟨⟨ao, co, rfl, ho⟩, hb⟩
  have o := Lib.hid ho.row
  have szw3 : w2.heap.size + 1 ≤ w3.heap.size := by have := hb.size; simpa using this
  replace x0 := kept hb (block_lt x0) x0
  replace x1 := kept hb (block_lt x1) x1
  replace y0 := kept hb (block_lt y0) y0
  replace y1 := kept hb (block_lt y1) y1
  replace z0 := kept hb (block_lt z0) z0
  replace z1 := kept hb (block_lt z1) z1
  replace z2 := kept hb (block_lt z2) z2
  replace z3 := kept hb (block_lt z3) z3
  replace s0 := kept hb (block_lt s0) s0
  replace s1 := kept hb (block_lt s1) s1
  replace s2 := kept hb (block_lt s2) s2
  replace s3 := kept hb (block_lt s3) s3
  replace r := Lib.hid (r.out.bel hb)
  replace q := Lib.hid (q.out.bel hb)
  replace k := Lib.hid (k.out.bel hb)
  replace bb := Lib.hid (bb.out.trans (hb.mono bb.out.size))
  clear hb
  clear ho
  have hbx : Below w3.heap.size w3 (w3.alloc (.cells #[.int .i64 K, .slice ao n co] 30)) := (Below.refl _ _).alloc (Nat.le_refl _) _
  replace x0 := kept hbx (block_lt x0) x0
  replace x1 := kept hbx (block_lt x1) x1
  replace y0 := kept hbx (block_lt y0) y0
  replace y1 := kept hbx (block_lt y1) y1
  replace z0 := kept hbx (block_lt z0) z0
  replace z1 := kept hbx (block_lt z1) z1
  replace z2 := kept hbx (block_lt z2) z2
  replace z3 := kept hbx (block_lt z3) z3
  replace s0 := kept hbx (block_lt s0) s0
  replace s1 := kept hbx (block_lt s1) s1
  replace s2 := kept hbx (block_lt s2) s2
  replace s3 := kept hbx (block_lt s3) s3
  replace r := Lib.hid (r.out.bel hbx)
  replace q := Lib.hid (q.out.bel hbx)
  replace k := Lib.hid (k.out.bel hbx)
  replace o := Lib.hid (o.out.bel hbx)
  replace bb := Lib.hid (bb.out.trans (hbx.mono bb.out.size))
  clear hbx
  have o0 : (w3.alloc (.cells #[.int .i64 K, .slice ao n co] 30)).cell? ⟨w3.heap.size, 0, none⟩ = some (.int .i64 K) := by simp
  have o1 : (w3.alloc (.cells #[.int .i64 K, .slice ao n co] 30)).cell? ⟨w3.heap.size, 1, none⟩ = some (.slice ao n co) := by simp
  have hbx : Below (w3.alloc (.cells #[.int .i64 K, .slice ao n co] 30)).heap.size (w3.alloc (.cells #[.int .i64 K, .slice ao n co] 30)) ((w3.alloc (.cells #[.int .i64 K, .slice ao n co] 30)).alloc (.cells #[.int .i64 A, .int .i64 B, .int .i64 C, .int .i64 D, .pointer p] 103)) := (Below.refl _ _).alloc (Nat.le_refl _) _
  have hl : LinkL ((w3.alloc (.cells #[.int .i64 K, .slice ao n co] 30)).alloc (.cells #[.int .i64 A, .int .i64 B, .int .i64 C, .int .i64 D, .pointer p] 103)) (some ⟨w3.heap.size + 1, 0, none⟩) ((A, B, C, D) :: R) := ⟨w3.heap.size + 1, p, rfl, ⟨by go_simp, by go_simp, by go_simp, by go_simp, by go_simp⟩, k.out.bel hbx⟩
  have r2 := Lib.hid (r.out.bel hbx)
  have o2 := Lib.hid (o.out.bel hbx)
  replace bb := Lib.hid (bb.out.trans (hbx.mono bb.out.size))
  clear hbx
  go_wp2_with fail
  refine (ih.out _ _ _ _ _ _ r2.out o2.out hl).mono ?_
  rintro e w9 ⟨⟨qp, rfl, hl2⟩, hb⟩
  replace bb := Lib.hid (bb.out.trans (hb.mono bb.out.size))
  clear hb hl
  replace hl2 := Lib.hid hl2
  clear x0 x1 y0 y1 z0 z1 z2 z3 s0 s1 s2 s3 o0 o1 r q k o
  go_wp2_with fail
  go_ret
  exact ⟨⟨qp, rfl, by rw [hp.out]; exact hl2.out⟩, bb.out⟩

theorem ahead_any : ∀ (f : Nat) {K n : Nat} {xs ys : List Int} (_ : Im K n xs) (_ : Im K n ys) {R : List SwT} (_ : farL xs ys K n ≤ f) (a b : Option Addr) (c d : Nat) (p : Option Addr) (w : World) (_ : Row w a n xs) (_ : Row w b n ys) (_ : LinkL w p R),
    Calls Try.prog 81 #[.agg #[.int .i64 K, .slice a n c], .agg #[.int .i64 K, .slice b n d], .pointer p] w (GivesH w (pathL K n xs ys ++ R)) := by
  intro f
  induction f with
  | zero =>
    intro K n xs ys hI hJ R hf a b c d p w hr hs hk
    have h0 := (farl_bd hI ys).1
    have e : farL xs ys K n = 0 := by omega
    exact ahead_none hI hJ (tow_zero e) (tow_zero (by rw [farl_comm]; exact e)) a b c d p w hr hs hk
  | succ f ih =>
    intro K n xs ys hI hJ R hf a b c d p w hr hs hk
    cases h1 : towL xs ys K n with
    | some s =>
      obtain ⟨A, B, C, D⟩ := s
      have hm : farL (flL xs K n A B C D) ys K n < farL xs ys K n := (tow_mem h1).2
      exact ahead_fwd hI hJ h1 (fun a' c' b' d' p' w' h1 h2 h3 => ih (fl_im hI A B C D) hJ (by omega) a' b' c' d' p' w' h1 h2 h3) a b c d p w hr hs hk
    | none =>
      cases h2 : towL ys xs K n with
      | some t =>
        obtain ⟨A, B, C, D⟩ := t
        have hm : farL (flL ys K n A B C D) xs K n < farL ys xs K n := (tow_mem h2).2
        have c1 := farl_comm xs ys K n
        have c2 := farl_comm xs (flL ys K n A B C D) K n
        exact ahead_bwd hI hJ h1 h2 (fun a' c' b' d' p' w' h1 h2 h3 => ih hI (fl_im hJ A B C D) (by omega) a' b' c' d' p' w' h1 h2 h3) a b c d p w hr hs hk
      | none => exact ahead_none hI hJ h1 h2 a b c d p w hr hs hk

/-- What SwitchPath gives. -/
def pathOut (V : Int) (xs : List Int) (W : Int) (ys : List Int) : List SwT := if sameB V xs W ys = true then pathL V.toNat xs.length xs ys else []
theorem pathOut_no {V W : Int} {xs ys : List Int} (h : sameB V xs W ys = false) : pathOut V xs W ys = [] := if_neg (by rw [h]; simp)
theorem pathOut_yes {K n : Nat} {xs ys : List Int} (hI : Im K n xs) (h : sameB K xs K ys = true) : pathOut K xs K ys = pathL K n xs ys := by
  unfold pathOut; rw [if_pos h, hI.hl, Int.toNat_natCast]
def GivesP (w : World) (L : List SwT) (ok : Bool) (e : Ending) (w' : World) : Prop :=
  (∃ a cap, e = .returned (.tuple #[.slice a L.length cap, .bool ok]) ∧ OwnS w' w.heap.size a L.length cap L) ∧ Below w.heap.size w w'
theorem own_none (w : World) (B : Nat) (hB : B ≤ w.heap.size) : OwnS (w.alloc (.cells #[] 97)) B (some ⟨w.heap.size, 0, none⟩) 0 0 [] := by
  have := World.ownsRow_lit (base := B) (e := 97) (size := 4) w #[] 0 hB (by decide) rfl
  simpa [flatS, OwnS] using this

set_option maxHeartbeats 1000000 in
theorem path_impl (V W : Int) (a b : Option Addr) (n m c d : Nat) (xs ys : List Int) (w : World) (h : Row w a n xs) (h' : Row w b m ys) (hm : n ≤ 9223372036854775807) (hm' : m ≤ 9223372036854775807) :
    Calls Try.prog 41 #[.agg #[.int .i64 V, .slice a n c], .agg #[.int .i64 W, .slice b m d]] w (GivesP w (pathOut V xs W ys) (sameB V xs W ys)) := by
  have hlx := Lib.hid h.1
  have hly := Lib.hid h'.1
  obtain ⟨W0, hW0⟩ : ∃ W0, W0 = (w.alloc (.cells #[.int .i64 V, .slice a n c] 30)).alloc (.cells #[.int .i64 W, .slice b m d] 30) := ⟨_, rfl⟩
  have hB : Hid (B2 w W0 V a n c xs W b m d ys) := by subst hW0; exact B2.start h h'
  clear h h'
  have x0 := hB.out.x0
  have x1 := hB.out.x1
  have y0 := hB.out.y0
  have y1 := hB.out.y1
  by_cases hv : sameB V xs W ys = true
  case neg =>
    have hv : sameB V xs W ys = false := by simpa using hv
    rw [pathOut_no hv, hv]
    go_enter Try.func41, Try.ntmps41
    go_wp2_with fail
    rw [← hW0]
    clear hW0
    refine (same_impl V W a b n m c d xs ys _ hB.out.p hB.out.q hm hm').mono ?_
    rintro e w1 ⟨rfl, hb⟩
    replace hB := Lib.hid (hB.out.move hb)
    clear x0 x1 y0 y1 hb
    have x0 := hB.out.x0
    have x1 := hB.out.x1
    have y0 := hB.out.y0
    have y1 := hB.out.y1
    rw [hv]
    clear hv
    go_wp2_with fail
    refine bodyPost_ret (v := .tuple #[.slice (some ⟨w1.heap.size, 0, none⟩) 0 0, .bool false]) (by simp [results, Try.results41, go_sem]) rfl ?_
    exact ⟨⟨_, _, rfl, own_none _ _ hB.out.bel.size⟩, hB.out.bel.alloc hB.out.bel.size _⟩
  obtain ⟨K, rfl, rfl, rfl, hI, hJ, hsum⟩ := same_im hlx.out hly.out hv
  rw [pathOut_yes hI hv, hv]
  have hlen := path_18 hI hJ hsum
  obtain ⟨L, hL⟩ : ∃ L, pathL K n xs ys = L := ⟨_, rfl⟩
  have hA := fun (wx : World) (h1 : Row wx a n xs) (h2 : Row wx b n ys) => ahead_any (farL xs ys K n).toNat hI hJ (R := []) (by have := (farl_bd hI ys).1; omega) a b c d none wx h1 h2 rfl
  rw [hL, List.append_nil] at hA
  rw [hL] at hlen ⊢
  replace hA := Lib.hid hA
  replace hL := Lib.hid hL
  clear hI hJ hsum
  go_enter Try.func41, Try.ntmps41
  go_wp2_with fail
  rw [← hW0]
  clear hW0
  refine (same_impl _ _ a b n n c d xs ys _ hB.out.p hB.out.q hm hm').mono ?_
  rintro e w2 ⟨rfl, hb⟩
  replace hB := Lib.hid (hB.out.move hb)
  clear x0 x1 y0 y1 hb
  have x0 := hB.out.x0
  have x1 := hB.out.x1
  have y0 := hB.out.y0
  have y1 := hB.out.y1
  rw [hv]
  clear hv
  go_wp2_with fail
  refine (hA.out _ hB.out.p hB.out.q).mono ?_
  rintro e w3 ⟨⟨qp, rfl, hl⟩, hb⟩
  replace hB := Lib.hid (hB.out.move hb)
  clear x0 x1 y0 y1 hb
  have x0 := hB.out.x0
  have x1 := hB.out.x1
  have y0 := hB.out.y0
  have y1 := hB.out.y1
  go_wp2_with fail
  refine (steps_any qp L _ hl (by omega)).mono ?_
  rintro e w9 ⟨⟨al, cl, rfl, ho⟩, hb⟩
  have bb := Lib.hid (hB.out.bel.trans (hb.mono hB.out.bel.size))
  have ho2 := Lib.hid (ho.mono hB.out.bel.size)
  clear hb ho hl x0 x1 y0 y1 hB hA
  go_wp2_with fail
  refine bodyPost_ret (v := .tuple #[.slice al L.length cl, .bool true]) (by simp [results, Try.results41, go_sem]) rfl ?_
  exact ⟨⟨al, cl, rfl, ho2.out⟩, bb.out⟩
end Go.Proofs.Ytnfkafaolelkbaa

namespace Go.Proofs.Ytnfkafaolelkbaa
set_option maxRecDepth 100000
open Go.RowKit

/-- Within the loop: the boxes of both images so far, and both lists of switches. -/
structure PX (w wr : World) (K n kx ky : Nat) (ax : Option Addr) (cx : Nat) (X : List Int) (ay : Option Addr) (cy : Nat) (Y : List Int) (g1 c1 N1 : Nat) (L1 : List SwT) (g2 c2 N2 : Nat) (L2 : List SwT) : Prop where
  x0 : wr.cell? ⟨kx, 0, none⟩ = some (.int .i64 K)
  x1 : wr.cell? ⟨kx, 1, none⟩ = some (.slice ax n cx)
  y0 : wr.cell? ⟨ky, 0, none⟩ = some (.int .i64 K)
  y1 : wr.cell? ⟨ky, 1, none⟩ = some (.slice ay n cy)
  xf : ∀ o, wr.frozen? ⟨kx, o, none⟩ = false
  yf : ∀ o, wr.frozen? ⟨ky, o, none⟩ = false
  px : Row wr ax n X
  py : Row wr ay n Y
  o1 : OwnS wr w.heap.size (some ⟨g1, 0, none⟩) N1 c1 L1
  o2 : OwnS wr w.heap.size (some ⟨g2, 0, none⟩) N2 c2 L2
  d12 : g1 ≠ g2
  dk : kx ≠ ky ∧ (kx ≠ g1 ∧ kx ≠ g2) ∧ (ky ≠ g1 ∧ ky ≠ g2)
  dx : ∀ b off, ax = some ⟨b, off, none⟩ → 0 < n → b ≠ g1 ∧ b ≠ g2 ∧ b ≠ kx ∧ b ≠ ky
  dy : ∀ b off, ay = some ⟨b, off, none⟩ → 0 < n → b ≠ g1 ∧ b ≠ g2 ∧ b ≠ kx ∧ b ≠ ky
  hz : g1 < wr.heap.size ∧ g2 < wr.heap.size
  hB : (w.heap.size ≤ kx ∧ w.heap.size ≤ ky) ∧ w.heap.size ≤ g1 ∧ w.heap.size ≤ g2
  bel : Below w.heap.size w wr
section
variable {w wr w1 : World} {K n kx ky : Nat} {ax : Option Addr} {cx : Nat} {X : List Int} {ay : Option Addr} {cy : Nat} {Y : List Int} {g1 c1 N1 : Nat} {L1 : List SwT} {g2 c2 N2 : Nat} {L2 : List SwT}
theorem PX.swap (h : PX w wr K n kx ky ax cx X ay cy Y g1 c1 N1 L1 g2 c2 N2 L2) : PX w wr K n kx ky ax cx X ay cy Y g2 c2 N2 L2 g1 c1 N1 L1 :=
  ⟨h.x0, h.x1, h.y0, h.y1, h.xf, h.yf, h.px, h.py, h.o2, h.o1, h.d12.symm, ⟨h.dk.1, ⟨h.dk.2.1.2, h.dk.2.1.1⟩, h.dk.2.2.2, h.dk.2.2.1⟩, fun b o e hn => ⟨(h.dx b o e hn).2.1, (h.dx b o e hn).1, (h.dx b o e hn).2.2⟩, fun b o e hn => ⟨(h.dy b o e hn).2.1, (h.dy b o e hn).1, (h.dy b o e hn).2.2⟩, ⟨h.hz.2, h.hz.1⟩, ⟨h.hB.1, h.hB.2.2, h.hB.2.1⟩, h.bel⟩
theorem PX.flip (h : PX w wr K n kx ky ax cx X ay cy Y g1 c1 N1 L1 g2 c2 N2 L2) : PX w wr K n ky kx ay cy Y ax cx X g1 c1 N1 L1 g2 c2 N2 L2 :=
  ⟨h.y0, h.y1, h.x0, h.x1, h.yf, h.xf, h.py, h.px, h.o1, h.o2, h.d12, ⟨h.dk.1.symm, h.dk.2.2, h.dk.2.1⟩, fun b o e hn => ⟨(h.dy b o e hn).1, (h.dy b o e hn).2.1, (h.dy b o e hn).2.2.2, (h.dy b o e hn).2.2.1⟩, fun b o e hn => ⟨(h.dx b o e hn).1, (h.dx b o e hn).2.1, (h.dx b o e hn).2.2.2, (h.dx b o e hn).2.2.1⟩, h.hz, ⟨⟨h.hB.1.2, h.hB.1.1⟩, h.hB.2⟩, h.bel⟩
theorem PX.move (h : PX w wr K n kx ky ax cx X ay cy Y g1 c1 N1 L1 g2 c2 N2 L2) (hb : Below wr.heap.size wr w1) : PX w w1 K n kx ky ax cx X ay cy Y g1 c1 N1 L1 g2 c2 N2 L2 :=
  ⟨kept hb (block_lt h.x0) h.x0, kept hb (block_lt h.x1) h.x1, kept hb (block_lt h.y0) h.y0, kept hb (block_lt h.y1) h.y1, fun o => (hb.frozen (p := ⟨kx, o, none⟩) (show kx < wr.heap.size from block_lt h.x0)).trans (h.xf o), fun o => (hb.frozen (p := ⟨ky, o, none⟩) (show ky < wr.heap.size from block_lt h.y0)).trans (h.yf o),
    h.px.bel hb, h.py.bel hb, h.o1.bel hb, h.o2.bel hb, h.d12, h.dk, h.dx, h.dy, ⟨by have := h.hz; have := hb.size; omega, by have := h.hz; have := hb.size; omega⟩, h.hB, h.bel.trans (hb.mono h.bel.size)⟩
/-- The first image's box takes another image. -/
theorem PX.setx {a' : Option Addr} {c' : Nat} {X' : List Int} (h : PX w wr K n kx ky ax cx X ay cy Y g1 c1 N1 L1 g2 c2 N2 L2) (ho : Row wr a' n X') (hf : ∀ b off, a' = some ⟨b, off, none⟩ → 0 < n → b ≠ g1 ∧ b ≠ g2 ∧ b ≠ kx ∧ b ≠ ky) :
    PX w ((wr.setCell ⟨kx, 0, none⟩ (.int .i64 K)).setCell ⟨kx, 1, none⟩ (.slice a' n c')) K n kx ky a' c' X' ay cy Y g1 c1 N1 L1 g2 c2 N2 L2 := by
  have hg : wr.grownBy ((wr.setCell ⟨kx, 0, none⟩ (.int .i64 K)).setCell ⟨kx, 1, none⟩ (.slice a' n c')) (some kx) := grown_set (grown_set (World.grownBy.refl _ _))
  have e1 : (wr.setCell ⟨kx, 0, none⟩ (.int .i64 K)).cell? ⟨kx, 1, none⟩ = some (.slice ax n cx) := by rw [World.cell?_setCell_other _ _ _ _ (by simp)]; exact h.x1
  have fz : ∀ (b : Nat) (o : Nat) (U : World) (p : Addr) (v : Value), U.frozen? ⟨b, o, none⟩ = false → (U.setCell p v).frozen? ⟨b, o, none⟩ = false := fun b o U p v hu => by rw [World.frozen?_setCell]; exact hu
  have sz : ((wr.setCell ⟨kx, 0, none⟩ (.int .i64 K)).setCell ⟨kx, 1, none⟩ (.slice a' n c')).heap.size = wr.heap.size := by simp
  refine ⟨?_, World.cell?_setCell_same _ _ _ e1, hg.cell h.y0 (by simpa using fun e => h.dk.1 e.symm), hg.cell h.y1 (by simpa using fun e => h.dk.1 e.symm), fun o => fz _ _ _ _ _ (fz _ _ _ _ _ (h.xf o)), fun o => fz _ _ _ _ _ (fz _ _ _ _ _ (h.yf o)),
    ho.apart hg (fun b o e hn => by simpa using (hf b o e hn).2.2.1), h.py.apart hg (fun b o e hn => by simpa using (h.dy b o e hn).2.2.1), World.ownsRow.kept h.o1 hg (.inr (by simpa [Value.ownBlock] using fun e => h.dk.2.1.1 e.symm)), World.ownsRow.kept h.o2 hg (.inr (by simpa [Value.ownBlock] using fun e => h.dk.2.1.2 e.symm)),
    h.d12, h.dk, hf, h.dy, by rw [sz]; exact h.hz, h.hB, (h.bel.setCell h.hB.1.1 _).setCell h.hB.1.1 _⟩
  rw [World.cell?_setCell_other _ _ _ _ (by simp)]; exact World.cell?_setCell_same _ _ _ h.x0
/-- The first list takes a switch. -/
theorem PX.app {g' c' : Nat} {L' : List SwT} {o : Obj} (h : PX w wr K n kx ky ax cx X ay cy Y g1 c1 N1 L1 g2 c2 N2 L2) (ho : OwnS w1 w.heap.size (some ⟨g', 0, none⟩) (N1 + 1) c' L') (hg : (wr.alloc o).grownBy w1 (some g1)) (hl : g' = g1 ∨ g' = wr.heap.size + 1) :
    PX w w1 K n kx ky ax cx X ay cy Y g' c' (N1 + 1) L' g2 c2 N2 L2 := by
  have h' := h.move ((Below.refl _ _).alloc (Nat.le_refl _) o)
  have lx : kx < wr.heap.size := block_lt h.x0
  have ly : ky < wr.heap.size := block_lt h.y0
  have rx := row_lt' h.px
  have ry := row_lt' h.py
  have sz : (wr.alloc o).heap.size = wr.heap.size + 1 := by simp
  have s1 := hg.size
  have hz := h.hz
  have hB := h.hB
  have dk := h.dk
  have d12 := h.d12
  have hgn : g' ≠ g2 ∧ kx ≠ g' ∧ ky ≠ g' ∧ w.heap.size ≤ g' := by rcases hl with e | e <;> omega
  have hlt : g' < w1.heap.size := by
    rcases ho.2 with ⟨e, _⟩ | ⟨g, c, cur, e, _, hb, _⟩
    · cases e
    · cases e; exact (World.ownsRow.lt ho g' rfl).2
  refine ⟨hg.cell h'.x0 (by simpa using fun e => dk.2.1.1 e), hg.cell h'.x1 (by simpa using fun e => dk.2.1.1 e), hg.cell h'.y0 (by simpa using fun e => dk.2.2.1 e), hg.cell h'.y1 (by simpa using fun e => dk.2.2.1 e), fun q => ?_, fun q => ?_,
    h'.px.apart hg (fun b q e hn => by simpa using (h.dx b q e hn).1), h'.py.apart hg (fun b q e hn => by simpa using (h.dy b q e hn).1), ho, World.ownsRow.kept h'.o2 hg (.inr (by simpa [Value.ownBlock] using fun e => d12 e.symm)),
    hgn.1, ⟨dk.1, ⟨hgn.2.1, dk.2.1.2⟩, hgn.2.2.1, dk.2.2.2⟩, fun b q e hn => ?_, fun b q e hn => ?_, ⟨hlt, by omega⟩, ⟨hB.1, hgn.2.2.2, hB.2.2⟩, ?_⟩
  · exact (World.frozen?_of_block (a := ⟨kx, q, none⟩) (hg.block kx (by omega) (by simpa using dk.2.1.1))).trans (h'.xf q)
  · exact (World.frozen?_of_block (a := ⟨ky, q, none⟩) (hg.block ky (by omega) (by simpa using dk.2.2.1))).trans (h'.yf q)
  · have a := h.dx b q e hn
    have a2 := rx b q e hn
    rcases hl with e2 | e2 <;> omega
  · have a := h.dy b q e hn
    have a2 := ry b q e hn
    rcases hl with e2 | e2 <;> omega
  · exact h'.bel.grown hg (by have := h.bel.size; omega) (fun k hk => by cases hk; exact hB.2.1)
end

end Go.Proofs.Ytnfkafaolelkbaa
