/-
  The contracts of the laws' drawing functions: a shape, a nested image, an image, one that may be wrong.
-/
import Derived.Test.YthllfkgceoenbaaV
import Derived.Test.YthllfkgceoenbaaE
namespace Go.Proofs.Ythllfkgceoenbaa
open Go.RowKit

theorem cntk_nat : ∀ k, k < 8 → ∀ n, n < 64 → (((n : Nat) : Int) / pw k ≤ 0 → cntI ((n : Nat) : Int) k = cntI ((n : Nat) : Int) 6) ∧ (0 < ((n : Nat) : Int) / pw k → k < 6) ∧ ((n : Nat) : Int) / pw k / 2 = ((n : Nat) : Int) / pw (k + 1) := by decide +kernel

theorem Rd.src {w : World} {r : Nat} {a : Option Addr} {len cap : Nat} {zs : List Int} {p : Nat} (h : Rd w r a len cap zs p) : ∀ b off, a = some ⟨b, off, none⟩ → 0 < len → b < w.heap.size := by
  intro b off e hl
  rcases h.bys with h0 | ⟨b', off', e', hc⟩
  · omega
  · rw [e] at e'
    simp only [Option.some.injEq, Addr.mk.injEq, and_true] at e'
    obtain ⟨rfl, rfl⟩ := e'
    exact block_lt (hc 0 hl).1
def Draws (w : World) (r : Nat) (a : Option Addr) (len cap : Nat) (zs : List Int) (p m : Nat) (e : Ending) (w' : World) : Prop :=
  ∃ (W n : Nat) (xs : List Int) (g cg p' : Nat), e = .returned (.agg #[.int .i64 W, .slice (some ⟨g, 0, none⟩) n cg]) ∧ OwnI w' w.heap.size (some ⟨g, 0, none⟩) n cg xs ∧ Im W n xs ∧ Rd w' r a len cap zs p' ∧ p' ≤ p + m ∧ w.grownBy w' (some r)

theorem frozen_grown {wr w1 : World} {r b : Nat} {o : Nat} {v : Value} (hg : wr.grownBy w1 (some r)) (hc : wr.cell? ⟨b, 0, none⟩ = some v) (hn : b ≠ r) : w1.frozen? ⟨b, o, none⟩ = wr.frozen? ⟨b, o, none⟩ :=
  World.frozen?_of_block (a := ⟨b, o, none⟩) (hg.block b (show b < _ from block_lt hc) (by simpa using hn))
theorem grown_then {w wr w1 : World} {row : Option Nat} (h : w.grownBy wr row) (hb : Below w.heap.size wr w1) : w.grownBy w1 row := ⟨hb.os.trans h.os, hb.tape.trans h.tape, hb.output.trans h.output, Nat.le_trans h.size hb.size, fun k hk hne => (hb.block k hk).trans (h.block k hk hne)⟩
/-- A new box of an image, as it was made. -/
structure Box (w : World) (b : Nat) (v0 v1 : Value) : Prop where
  c0 : w.cell? ⟨b, 0, none⟩ = some v0
  c1 : w.cell? ⟨b, 1, none⟩ = some v1
  fz : ∀ o, w.frozen? ⟨b, o, none⟩ = false
theorem Box.grown {wr w1 : World} {r b : Nat} {v0 v1 : Value} (h : Box wr b v0 v1) (hg : wr.grownBy w1 (some r)) (hn : b ≠ r) : Box w1 b v0 v1 :=
  ⟨hg.cell h.c0 (by simpa using hn), hg.cell h.c1 (by simpa using hn), fun o => (frozen_grown hg h.c0 hn).trans (h.fz o)⟩
theorem Box.bel {wr w1 : World} {b : Nat} {v0 v1 : Value} (h : Box wr b v0 v1) (hb : Below wr.heap.size wr w1) : Box w1 b v0 v1 :=
  ⟨kept hb (block_lt h.c0) h.c0, kept hb (block_lt h.c1) h.c1, fun o => (hb.frozen (p := ⟨b, o, none⟩) (show b < _ from block_lt h.c0)).trans (h.fz o)⟩
theorem Box.store {wr : World} {b g k : Nat} {v0 v1 v : Value} (h : Box wr b v0 v1) (hn : b ≠ g) : Box (wr.setCell ⟨g, k, none⟩ v) b v0 v1 :=
  ⟨by rw [World.cell?_setCell_other _ _ _ _ (by first | (simp; done) | (simp; omega))]; exact h.c0, by rw [World.cell?_setCell_other _ _ _ _ (by first | (simp; done) | (simp; omega))]; exact h.c1, fun o => by rw [World.frozen?_setCell]; exact h.fz o⟩
structure Shp (w wr : World) (r ob g H cg W : Nat) (a : Option Addr) (len cap : Nat) (zs : List Int) (p : Nat) (xs : List Int) : Prop where
  zb : Box wr w.heap.size (.int .i64 0) (.slice none 0 0)
  bo : Box wr ob (.int .i64 W) (.slice (some ⟨g, 0, none⟩) H cg)
  own : OwnI wr (w.heap.size + 1) (some ⟨g, 0, none⟩) H cg xs
  row : ∀ i, i < H → 0 ≤ xs.getD i 0 ∧ xs.getD i 0 ≤ pw W - 1
  rd : Rd wr r a len cap zs p
  gr : w.grownBy wr (some r)
  ne : ob ≠ g
  ho : w.heap.size < ob
  hg : w.heap.size < g
  hr : r < w.heap.size
  far : ∀ b off, a = some ⟨b, off, none⟩ → 0 < len → b < w.heap.size
theorem Shp.pick {w wr w1 : World} {r ob g H cg W : Nat} {a : Option Addr} {len cap : Nat} {zs : List Int} {p p' : Nat} {xs : List Int} (h : Shp w wr r ob g H cg W a len cap zs p xs) (hr : Rd w1 r a len cap zs p') (hg : wr.grownBy w1 (some r)) : Shp w w1 r ob g H cg W a len cap zs p' xs := by
  have n1 := h.hr
  have n2 := h.ho
  exact ⟨h.zb.grown hg (by omega), h.bo.grown hg (by omega), h.own.other hg (by omega), h.row, hr, grown_trans h.gr hg, h.ne, h.ho, h.hg, h.hr, h.far⟩
theorem Shp.drew {w wr : World} {r ob g H cg W : Nat} {a : Option Addr} {len cap : Nat} {zs : List Int} {p : Nat} {xs : List Int} (h : Shp w wr r ob g H cg W a len cap zs p xs) : Shp w wr.drew r ob g H cg W a len cap zs p xs :=
  h.pick (h.rd.bel ((Below.refl _ _).drew)) (below_grown ((Below.refl _ _).drew) _)
theorem Shp.set {w wr : World} {r ob g H cg W : Nat} {a : Option Addr} {len cap : Nat} {zs : List Int} {p : Nat} {xs : List Int} (h : Shp w wr r ob g H cg W a len cap zs p xs) (k : Nat) (v : Int) (hk : k < H) (h0 : 0 ≤ v) (h1 : v ≤ pw W - 1) : Shp w (wr.setCell ⟨g, k, none⟩ (.int .i64 v)) r ob g H cg W a len cap zs p (xs.set k v) := by
  have n1 := h.hr
  have n2 := h.ho
  have n3 := h.hg
  have n4 := h.ne
  refine ⟨h.zb.store (by omega), h.bo.store n4, h.own.set k v, fun i hi => ?_, h.rd.apart (grown_set (World.grownBy.refl _ _)) (by omega) (fun b off e hl => by have := h.far b off e hl; omega), grown_then h.gr ((Below.refl _ _).setCell (by simp; omega) _), h.ne, h.ho, h.hg, h.hr, h.far⟩
  by_cases e : i = k
  · subst e; rw [getD_elem (by rw [List.length_set, h.own.len]; omega)]; simp; omega
  · have := h.row i hi
    rw [getD_elem (by rw [h.own.len]; omega)] at this
    rw [getD_elem (by rw [List.length_set, h.own.len]; omega), List.getElem_set_ne (by omega)]; exact this

theorem Shp.put {w wr w1 : World} {r ob g H cg W : Nat} {a : Option Addr} {len cap : Nat} {zs : List Int} {p : Nat} {xs ys : List Int} (h : Shp w wr r ob g H cg W a len cap zs p xs) (hg : wr.grownBy w1 (some g)) (ho : OwnI w1 (w.heap.size + 1) (some ⟨g, 0, none⟩) H cg ys) (hr : ∀ i, i < H → 0 ≤ ys.getD i 0 ∧ ys.getD i 0 ≤ pw W - 1) : Shp w w1 r ob g H cg W a len cap zs p ys := by
  have n1 := h.hr
  have n2 := h.ho
  have n3 := h.hg
  have n5 := h.gr.size
  exact ⟨h.zb.grown hg (by omega), h.bo.grown hg h.ne, ho, hr, h.rd.apart hg (by omega) (fun b off e hl => by have := h.far b off e hl; omega), grown_then h.gr ((grown_below hg).mono (by omega)), h.ne, h.ho, h.hg, h.hr, h.far⟩
theorem set_range {xs : List Int} {H k : Nat} {v : Int} {W : Nat} (hl : xs.length = H) (h : ∀ i, i < H → 0 ≤ xs.getD i 0 ∧ xs.getD i 0 ≤ pw W - 1) (hv : 0 ≤ v ∧ v ≤ pw W - 1) : ∀ i, i < H → 0 ≤ (xs.set k v).getD i 0 ∧ (xs.set k v).getD i 0 ≤ pw W - 1 := by
  intro i hi
  by_cases e : i = k
  · subst e; rw [getD_elem (by rw [List.length_set]; omega)]; simp; omega
  · have := h i hi
    rw [getD_elem (by omega)] at this
    rw [getD_elem (by rw [List.length_set]; omega), List.getElem_set_ne (by omega)]; exact this

end Go.Proofs.Ythllfkgceoenbaa

