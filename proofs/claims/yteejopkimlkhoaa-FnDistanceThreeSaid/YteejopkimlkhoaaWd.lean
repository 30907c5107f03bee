/-
  Paths of switches as linked steps: what they are in memory, and the program's function that lists them.
-/
import Derived.Test.YteejopkimlkhoaaQl
import Derived.Test.YteejopkimlkhoaaVb
namespace Go.Proofs.Yteejopkimlkhoaa
set_option maxRecDepth 100000
open Go.RowKit

/-- A list of steps, each with a pointer to the next one. -/
def LinkL (w : World) : Option Addr → List SwT → Prop
  | p, [] => p = none
  | p, s :: L => ∃ (g : Nat) (q : Option Addr), p = some ⟨g, 0, none⟩ ∧ (w.cell? ⟨g, 0, none⟩ = some (.int .i64 s.1) ∧ w.cell? ⟨g, 1, none⟩ = some (.int .i64 s.2.1) ∧ w.cell? ⟨g, 2, none⟩ = some (.int .i64 s.2.2.1) ∧ w.cell? ⟨g, 3, none⟩ = some (.int .i64 s.2.2.2) ∧ w.cell? ⟨g, 4, none⟩ = some (.pointer q)) ∧ LinkL w q L
theorem link_bel {w w' : World} (hb : Below w.heap.size w w') : ∀ {L : List SwT} {p : Option Addr}, LinkL w p L → LinkL w' p L
  | [], _, h => h
  | _ :: _, _, ⟨g, q, e, ⟨h0, h1, h2, h3, h4⟩, hl⟩ => ⟨g, q, e, ⟨kept hb (block_lt h0) h0, kept hb (block_lt h1) h1, kept hb (block_lt h2) h2, kept hb (block_lt h3) h3, kept hb (block_lt h4) h4⟩, link_bel hb hl⟩
theorem LinkL.bel {w w' : World} {L : List SwT} {p : Option Addr} (h : LinkL w p L) (hb : Below w.heap.size w w') : LinkL w' p L := link_bel hb h
def lenV : Value → Nat
  | .slice _ n _ => n
  | _ => 0

set_option maxHeartbeats 1000000 in
theorem steps_any (p : Option Addr) (L : List SwT) (w : World) (h : LinkL w p L) (hN : L.length ≤ 1000) :
    Calls Try.prog 83 #[.pointer p] w (GivesO w L) := by
  obtain ⟨W0, hW0⟩ : ∃ W0, W0 = w.alloc (.cells #[] 37) := ⟨_, rfl⟩
  have hO : Hid (W0.ownsRow w.heap.size 37 4 (.slice (some ⟨w.heap.size, 0, none⟩) 0 0) 0 ((flatS []).map (Value.int .i64))) := by
    subst hW0
    have := World.ownsRow_lit (base := w.heap.size) (e := 37) (size := 4) w #[] 0 (Nat.le_refl _) (by decide) rfl
    exact Lib.hid (by simpa [flatS] using this)
  have bb : Hid (Below w.heap.size w W0) := by subst hW0; exact (Below.refl _ _).alloc (Nat.le_refl _) _
  replace h := Lib.hid h
  go_enter Try.func83, Try.ntmps83
  go_wp2_with fail
  rw [← hW0]
  clear hW0
  go_loopw [3, 4] (fun o i wr => ∃ (pre rest : List SwT) (p' : Option Addr) (g c N : Nat), Hid (L = pre ++ rest) ∧ i = .pointer p' ∧ Hid (LinkL w p' rest) ∧ o = .slice (some ⟨g, 0, none⟩) N c ∧ Hid (pre.length = N) ∧ w.heap.size ≤ g ∧ Hid (wr.ownsRow w.heap.size 37 4 (.slice (some ⟨g, 0, none⟩) N c) N ((flatS pre).map (Value.int .i64))) ∧ Hid (Below w.heap.size w wr)) (fun o _ _ => L.length - lenV o)
  case atStart => exact ⟨[], L, p, w.heap.size, 0, 0, Lib.hid rfl, rfl, h, rfl, Lib.hid rfl, Nat.le_refl _, hO, bb⟩
  case round =>
    clear h hO bb
    obtain ⟨pre, rest, p', g, c, N, hL, rfl, hlk, rfl, hpl, hg, hO, bb⟩ := hrel
    have hln := congrArg List.length hL.out
    rw [List.length_append, hpl.out] at hln
    cases rest with
    | nil =>
      have e : p' = none := hlk.out
      subst e
      have eL : L = pre := by have := hL.out; simpa using this
      subst eL
      go_wp2_with fail
      go_ret
      rw [← hpl.out]
      rw [← hpl.out] at hO
      exact ⟨⟨_, _, rfl, hO.out⟩, bb.out⟩
    | cons s rest =>
      obtain ⟨g0, q, rfl, ⟨h0, h1, h2, h3, h4⟩, hl⟩ := hlk.out
      have s0 := kept bb.out (block_lt h0) h0
      have s1 := kept bb.out (block_lt h1) h1
      have s2 := kept bb.out (block_lt h2) h2
      have s3 := kept bb.out (block_lt h3) h3
      have s4 := kept bb.out (block_lt h4) h4
      have lg0 : g0 < w.heap.size := block_lt h0
      replace hl := Lib.hid hl
      replace h4 := Lib.hid h4
      obtain ⟨A, hA⟩ : ∃ A : Int, (s.1 : Int) = A := ⟨_, rfl⟩
      obtain ⟨B, hB⟩ : ∃ B : Int, (s.2.1 : Int) = B := ⟨_, rfl⟩
      obtain ⟨C, hC⟩ : ∃ C : Int, (s.2.2.1 : Int) = C := ⟨_, rfl⟩
      obtain ⟨D, hD⟩ : ∃ D : Int, (s.2.2.2 : Int) = D := ⟨_, rfl⟩
      have hfl : Hid (flatS (pre ++ [s]) = flatS pre ++ [A, B, C, D]) := by
        have := sflat_snoc pre s.1 s.2.1 s.2.2.1 s.2.2.2
        rw [hA, hB, hC, hD] at this; exact this
      rw [hA] at s0
      rw [hB] at s1
      rw [hC] at s2
      rw [hD] at s3
      have hz := bb.out.size
      have hown := hO.out
      replace hO := Lib.hid hO
      rw [List.length_cons] at hln
      clear hlk h0 h1 h2 h3 hA hB hC hD
      go_wp2_with (at_builtin; refine wpList_append_sw rfl _ _ rfl w.heap.size g N c (flatS pre) rfl (World.ownsRow.alloc hown _) wr.heap.size rfl A B C D (by simp) (by simp) (by simp) (by simp) (by omega) (by simp; omega) ?_)
      intro g' c' w6 hown1 hgr hlies
      have hb6 : Below w.heap.size w w6 := (bb.out.alloc hz _).grown hgr (Nat.le_trans hz (by simp)) (fun k hk => by cases hk; omega)
      have s5 := kept hb6 (block_lt h4.out) h4.out
      have hg' : w.heap.size ≤ g' := by rcases hlies with h | h <;> (try simp at h) <;> omega
      have hown2 := Lib.hid hown1
      have bb6 := Lib.hid hb6
      clear hown1 hgr hlies hb6 hown hO s0 s1 s2 s3 s4 bb
      go_wp2_with fail
      exact ⟨⟨pre ++ [s], rest, q, g', c', N + 1, Lib.hid (by rw [hL.out]; simp), rfl, hl, rfl, Lib.hid (by rw [List.length_append, hpl.out]; rfl), hg', Lib.hid (by rw [hfl.out, List.map_append]; exact hown2.out), bb6⟩, by simp [lenV]; omega⟩
end Go.Proofs.Yteejopkimlkhoaa

