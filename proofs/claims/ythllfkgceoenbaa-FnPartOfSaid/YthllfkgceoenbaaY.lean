/-
  The contracts of the laws' drawing functions: an image, one that may be wrong.
-/
import Derived.Test.YthllfkgceoenbaaX
namespace Go.Proofs.Ythllfkgceoenbaa
open Go.RowKit

theorem Draws.up {w0 w w' : World} {r : Nat} {a : Option Addr} {len cap : Nat} {zs : List Int} {p q m k : Nat} {e : Ending} (h : Draws w r a len cap zs p m e w') (hg : w0.grownBy w (some r)) (hp : p + m ≤ q + k) : Draws w0 r a len cap zs q k e w' := by
  obtain ⟨W, H, xs, g, cg, p1, rfl, ho, hI, hr1, hp1, hg1⟩ := h
  exact ⟨W, H, xs, g, cg, p1, rfl, ho.mono hg.size, hI, hr1, by omega, grown_trans hg hg1⟩

theorem own_cap {w : World} {B n c : Nat} {a : Option Addr} {xs : List Int} (h : OwnI w B a n c xs) : n ≤ c := by
  rcases h.2 with ⟨e, h0⟩ | ⟨g, cap, cur, e, _, _, h1, _⟩
  · omega
  · simp only [Value.slice.injEq] at e; omega
/-- What the laws draw: an image of at most six rows, valid or not. -/
def DrawsW (w : World) (r : Nat) (a : Option Addr) (len cap : Nat) (zs : List Int) (p : Nat) (e : Ending) (w' : World) : Prop :=
  ∃ (W : Int) (s : Option Addr) (n cg : Nat) (xs : List Int), e = .returned (.agg #[.int .i64 W, .slice s n cg]) ∧ OwnI w' (w.heap.size + 1) s n cg xs ∧ (n ≤ 6 ∧ n ≤ cg) ∧ w.grownBy w' (some r) ∧ (∀ b off, s = some ⟨b, off, none⟩ → 0 < n → w.heap.size ≤ b) ∧ ∃ p', p' ≤ p + 20 ∧ Rd w' r a len cap zs p'
theorem drawsW_mk {w V : World} {r : Nat} {a : Option Addr} {len cap p p' : Nat} {zs : List Int} {W : Int} {s : Option Addr} {n cg : Nat} {xs : List Int} {v0 v1 : Value} (hg : w.grownBy V (some r)) (hR : OwnI V (w.heap.size + 1) s n cg xs) (hn : n ≤ 6 ∧ n ≤ cg) (hne : ∀ b off, s = some ⟨b, off, none⟩ → 0 < n → w.heap.size < b) (hrd : Rd V r a len cap zs p') (hp : p' ≤ p + 20) (hr : r < w.heap.size) (far : ∀ b off, a = some ⟨b, off, none⟩ → 0 < len → b < w.heap.size) :
    DrawsW w r a len cap zs p (.returned (.agg #[.int .i64 W, .slice s n cg])) ((V.setCell ⟨w.heap.size, 0, none⟩ v0).setCell ⟨w.heap.size, 1, none⟩ v1) :=
  ⟨W, s, n, cg, xs, rfl, (hR.store (by simp) _).store (by simp) _, hn, grown_then hg (((Below.refl _ _).setCell (by simp) _).setCell (by simp) _), fun b off e hl => by have := hne b off e hl; omega, p', hp, (hrd.apart (grown_set (World.grownBy.refl _ _)) (by omega) (fun b off e hl => by have := far b off e hl; omega)).apart (grown_set (World.grownBy.refl _ _)) (by omega) (fun b off e hl => by have := far b off e hl; omega)⟩
theorem Shp.rdset {w wr : World} {r ob g H cg W q k : Nat} {v : Value} {a : Option Addr} {len cap : Nat} {zs : List Int} {p : Nat} {xs : List Int} (h : Shp w wr r ob g H cg W a len cap zs p xs) (hq : w.heap.size < q) : Rd (wr.setCell ⟨q, k, none⟩ v) r a len cap zs p :=
  h.rd.apart (grown_set (World.grownBy.refl _ _)) (by have := h.hr; omega) (fun b off e hl => by have := h.far b off e hl; omega)
theorem some_ne {g g0 n : Nat} (h : g ≠ g0) : ∀ b off, (some ⟨g, 0, none⟩ : Option Addr) = some ⟨b, off, none⟩ → 0 < n → b ≠ g0 := by
  intro b off e _
  simp only [Option.some.injEq, Addr.mk.injEq, and_true] at e
  omega
theorem some_gt {g B n : Nat} (h : B < g) : ∀ b off, (some ⟨g, 0, none⟩ : Option Addr) = some ⟨b, off, none⟩ → 0 < n → B < b := by
  intro b off e _
  simp only [Option.some.injEq, Addr.mk.injEq, and_true] at e
  omega

end Go.Proofs.Ythllfkgceoenbaa

