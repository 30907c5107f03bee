/-
  The contracts of the laws' drawing functions that draw sums.
-/
import Derived.Test.YthllfkgceoenbaaSe
import Derived.Test.YthllfkgceoenbaaZ
import Derived.Test.YthllfkgceoenbaaEx
import Derived.Maps.AppendAt
namespace Go.Proofs.Ythllfkgceoenbaa
open Go.RowKit

/-- Two lists of the call's own, and the reader, in the middle of a drawing function. -/
structure SS (w wr : World) (r : Nat) (a : Option Addr) (len cap : Nat) (zs : List Int) (p : Nat) (g n c : Nat) (xs : List Int) (g' m c' : Nat) (ys : List Int) : Prop where
  oR : OwnI wr w.heap.size (some ⟨g, 0, none⟩) n c xs
  oC : OwnI wr w.heap.size (some ⟨g', 0, none⟩) m c' ys
  ne : g ≠ g'
  rd : Rd wr r a len cap zs p
  gr : w.grownBy wr (some r)
  hr : r < w.heap.size
  far : ∀ b off, a = some ⟨b, off, none⟩ → 0 < len → b < w.heap.size
theorem own_ge {w : World} {B g n c : Nat} {xs : List Int} (h : OwnI w B (some ⟨g, 0, none⟩) n c xs) : B ≤ g ∧ g < w.heap.size := rng_own h _ rfl
theorem SS.pick {w wr w1 : World} {r : Nat} {a : Option Addr} {len cap : Nat} {zs : List Int} {p p' g n c : Nat} {xs : List Int} {g' m c' : Nat} {ys : List Int} (h : SS w wr r a len cap zs p g n c xs g' m c' ys) (hr : Rd w1 r a len cap zs p') (hg : wr.grownBy w1 (some r)) : SS w w1 r a len cap zs p' g n c xs g' m c' ys :=
  ⟨h.oR.other hg h.hr, h.oC.other hg h.hr, h.ne, hr, grown_trans h.gr hg, h.hr, h.far⟩
theorem SS.setR {w wr : World} {r : Nat} {a : Option Addr} {len cap : Nat} {zs : List Int} {p g n c : Nat} {xs : List Int} {g' m c' : Nat} {ys : List Int} (h : SS w wr r a len cap zs p g n c xs g' m c' ys) (k : Nat) (v : Int) : SS w (wr.setCell ⟨g, k, none⟩ (.int .i64 v)) r a len cap zs p g n c (xs.set k v) g' m c' ys := by
  have h1 := own_ge h.oR
  have h2 := own_ge h.oC
  have h3 := h.ne
  have h4 := h.hr
  exact ⟨h.oR.set k v, World.ownsRow.kept h.oC (grown_set (g := g) (World.grownBy.refl _ _)) (.inr (by simp [Value.ownBlock]; omega)), h.ne, h.rd.apart (grown_set (World.grownBy.refl _ _)) (by omega) (fun b off e hl => by have := h.far b off e hl; omega), grown_then h.gr ((Below.refl _ _).setCell (by simp; omega) _), h.hr, h.far⟩
theorem SS.setC {w wr : World} {r : Nat} {a : Option Addr} {len cap : Nat} {zs : List Int} {p g n c : Nat} {xs : List Int} {g' m c' : Nat} {ys : List Int} (h : SS w wr r a len cap zs p g n c xs g' m c' ys) (k : Nat) (v : Int) : SS w (wr.setCell ⟨g', k, none⟩ (.int .i64 v)) r a len cap zs p g n c xs g' m c' (ys.set k v) := by
  have h1 := own_ge h.oR
  have h2 := own_ge h.oC
  have h3 := h.ne
  have h4 := h.hr
  exact ⟨World.ownsRow.kept h.oR (grown_set (g := g') (World.grownBy.refl _ _)) (.inr (by simp [Value.ownBlock]; omega)), h.oC.set k v, h.ne, h.rd.apart (grown_set (World.grownBy.refl _ _)) (by omega) (fun b off e hl => by have := h.far b off e hl; omega), grown_then h.gr ((Below.refl _ _).setCell (by simp; omega) _), h.hr, h.far⟩
theorem set_bd {xs : List Int} {n k : Nat} {v lo hi : Int} (hl : xs.length = n) (h : ∀ i, i < n → lo ≤ xs.getD i 0 ∧ xs.getD i 0 ≤ hi) (hv : lo ≤ v ∧ v ≤ hi) : ∀ i, i < n → lo ≤ (xs.set k v).getD i 0 ∧ (xs.set k v).getD i 0 ≤ hi := by
  intro i hi
  by_cases e : i = k
  · subst e; rw [getD_elem (by rw [List.length_set]; omega)]; simpa using hv
  · have := h i hi
    rw [getD_elem (by omega)] at this
    rw [getD_elem (by rw [List.length_set]; omega), List.getElem_set_ne (by omega)]; exact this
theorem bd_wide {xs : List Int} {n : Nat} {lo hi lo' hi' : Int} (h : ∀ i, i < n → lo ≤ xs.getD i 0 ∧ xs.getD i 0 ≤ hi) (h1 : lo' ≤ lo) (h2 : hi ≤ hi') : ∀ i, i < n → lo' ≤ xs.getD i 0 ∧ xs.getD i 0 ≤ hi' := fun i hi => by have := h i hi; omega

/-- What l91Sums leaves: two lists of small numbers. -/
def SumsD (w : World) (r : Nat) (a : Option Addr) (len cap : Nat) (zs : List Int) (p : Nat) (e : Ending) (w' : World) : Prop :=
  ∃ (g n c : Nat) (xs : List Int) (g' m c' : Nat) (ys : List Int) (p' : Nat), e = .returned (.tuple #[.slice (some ⟨g, 0, none⟩) n c, .slice (some ⟨g', 0, none⟩) m c']) ∧ SS w w' r a len cap zs p' g n c xs g' m c' ys ∧ p' ≤ p + 20 ∧ (1 ≤ n ∧ n ≤ 6 ∧ 1 ≤ m ∧ m ≤ 6) ∧ (∀ i, i < n → -1 ≤ xs.getD i 0 ∧ xs.getD i 0 ≤ 7) ∧ (∀ i, i < m → -1 ≤ ys.getD i 0 ∧ ys.getD i 0 ≤ 7)

/-- What l91SumsWrong leaves: two lists of small numbers, perhaps none, perhaps many. -/
def SumsW (w : World) (r : Nat) (a : Option Addr) (len cap : Nat) (zs : List Int) (p : Nat) (e : Ending) (w' : World) : Prop :=
  ∃ (aR : Option Addr) (n c : Nat) (xs : List Int) (aC : Option Addr) (m c' : Nat) (ys : List Int) (p' : Nat), e = .returned (.tuple #[.slice aR n c, .slice aC m c']) ∧ OwnI w' w.heap.size aR n c xs ∧ OwnI w' w.heap.size aC m c' ys ∧ (∀ g g', aR = some ⟨g, 0, none⟩ → aC = some ⟨g', 0, none⟩ → g ≠ g') ∧ Rd w' r a len cap zs p' ∧ w.grownBy w' (some r) ∧ p' ≤ p + 21 ∧ (n ≤ 6 ∧ 1 ≤ m ∧ m ≤ 12) ∧ (∀ i, i < n → -1 ≤ xs.getD i 0 ∧ xs.getD i 0 ≤ 7) ∧ (∀ i, i < m → -1 ≤ ys.getD i 0 ∧ ys.getD i 0 ≤ 7)

end Go.Proofs.Ythllfkgceoenbaa

