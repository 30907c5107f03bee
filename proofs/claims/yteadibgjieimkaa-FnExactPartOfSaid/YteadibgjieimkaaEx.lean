/-
  What exact laws need of rows that are marked: where rows lie, and what stays when one is written.
-/
import Derived.Test.YteadibgjieimkaaK
import Derived.Deep.RegionLaw
namespace Go.Proofs.Yteadibgjieimkaa
set_option maxRecDepth 100000
open Go.RowKit

theorem rng_own {w : World} {B n c : Nat} {a : Option Addr} {xs : List Int} (h : OwnI w B a n c xs) : ∀ p, a = some p → B ≤ p.block ∧ p.block < w.heap.size := by
  intro p hp
  rcases h.cases with ⟨e, _⟩ | ⟨g, e, h1, h2⟩
  · rw [e] at hp; cases hp
  · rw [e] at hp; cases hp; exact ⟨h1, h2⟩
theorem rng_row {w : World} {n : Nat} {a : Option Addr} {xs : List Int} (h : Row w a n xs) : ∀ p, a = some p → 0 < n → 0 ≤ p.block ∧ p.block < w.heap.size := by
  intro p hp hn
  obtain ⟨b, off, e, hc⟩ := row_at h hn
  rw [e] at hp; cases hp
  exact ⟨Nat.zero_le _, block_lt hc⟩
theorem ne_rowOf {a : Option Addr} {B L U : Nat} (h : ∀ p, a = some p → L ≤ p.block ∧ p.block < U) (hB : B < L ∨ U ≤ B) : some B ≠ rowOf a := by
  intro e
  cases a with
  | none => cases e
  | some p => simp only [rowOf, Option.some.injEq] at e; have := h p rfl; omega
theorem Row.apart2 {W0 wr : World} {a a' : Option Addr} {n L U L' U' : Nat} {xs : List Int} (h : Row W0 a n xs) (hg : W0.grownBy wr (rowOf a')) (hr : ∀ p, a = some p → 0 < n → L ≤ p.block ∧ p.block < U) (hr' : ∀ p, a' = some p → L' ≤ p.block ∧ p.block < U') (hs : U ≤ L' ∨ U' ≤ L) : Row wr a n xs :=
  h.apart hg fun b off e hn => ne_rowOf hr' (by have := hr ⟨b, off, none⟩ e hn; simp at this; omega)
theorem OwnI.apart2 {W0 wr : World} {a a' : Option Addr} {B n c L U L' U' : Nat} {xs : List Int} (h : OwnI W0 B a n c xs) (hg : W0.grownBy wr (rowOf a')) (hr : ∀ p, a = some p → L ≤ p.block ∧ p.block < U) (hr' : ∀ p, a' = some p → L' ≤ p.block ∧ p.block < U') (hs : U ≤ L' ∨ U' ≤ L) : OwnI wr B a n c xs := by
  refine World.ownsRow.kept h hg ?_
  rcases h.cases with ⟨rfl, _, _⟩ | ⟨g, rfl, hg, _⟩
  · left; rfl
  · right; exact ne_rowOf (B := g) hr' (by have := hr _ rfl; simp at this; omega)
theorem bel_write {w wi wj : World} {a : Option Addr} {L U : Nat} (h : Below w.heap.size w wi) (hg : wi.grownBy wj (rowOf a)) (hr : ∀ p, a = some p → L ≤ p.block ∧ p.block < U) (hL : w.heap.size ≤ L) : Below w.heap.size w wj :=
  h.trans ⟨hg.os, hg.tape, hg.output, hg.size, fun k hk => hg.block k (by have := h.size; omega) (ne_rowOf hr (by omega))⟩
theorem rng_cond {a : Option Addr} {n L U : Nat} (h : ∀ p, a = some p → L ≤ p.block ∧ p.block < U) : ∀ p, a = some p → 0 < n → L ≤ p.block ∧ p.block < U := fun p hp _ => h p hp
theorem grown_size {w w' : World} {r : Option Nat} (h : w.grownBy w' r) : w.heap.size ≤ w'.heap.size := h.size

set_option maxHeartbeats 400000 in
theorem mark_own (B : Nat) (a : Option Addr) (len cap : Nat) (xs : List Int) (k : Int) (w : World) (h : OwnI w B a len cap xs) (hm : len ≤ 1048576) (h0 : 0 ≤ k) (h1 : k ≤ 4194304) :
    Calls Try.prog 42 #[.slice a len cap, .int .i64 k] w fun e w' => e = .returned (.int .i64 (k + len)) ∧ w.grownBy w' (rowOf a) ∧ OwnI w' B a len cap (marks k len) := by
  rcases h.cases with ⟨rfl, rfl, rfl⟩ | ⟨g, rfl, _, _⟩
  · go_enter Try.func42, Try.ntmps42
    go_wp2_with fail
    refine wp_loop_rounds 1 ?_
    rw [rounds_succ]
    go_wp2_with fail
    go_ret
    exact ⟨by simp, World.grownBy.refl _ _, own_nil _ _⟩
  · exact (mark_any B g len cap xs k w h hm h0 h1).mono fun _ _ hh => hh
end Go.Proofs.Yteadibgjieimkaa

