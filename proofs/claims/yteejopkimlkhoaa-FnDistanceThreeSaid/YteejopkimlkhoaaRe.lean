/-
  The contract of the program's function that counts the switches of an image.
-/
import Derived.Test.YteejopkimlkhoaaRd
namespace Go.Proofs.Yteejopkimlkhoaa
set_option maxRecDepth 100000
open Go.RowKit
attribute [local go_sem] Oper.semAt_some

/-- How many switches an image has, or -1. -/
def manyS (W : Int) (xs : List Int) : Int := if validB W xs = true then manyC (cellOf xs) W.toNat xs.length else -1

theorem SI.spare {M : Nat → Obj → Prop} {B : Nat} {W : Int} {n cap : Nat} {s : Option Addr} {xs : List Int} {A C : World} (h : SI B W n cap s xs A) (hs : Spare M A C) (hB : ∀ o, ¬ M B o) (hr : ∀ b off, s = some ⟨b, off, none⟩ → 0 < n → ∀ o, ¬ M b o) : SI B W n cap s xs C := by
  refine ⟨hs.cell h.c0 fun o _ _ => hB o, hs.cell h.c1 fun o _ _ => hB o, h.row.1, ?_⟩
  rcases h.row.2 with h0 | ⟨b, off, e, hc⟩
  · exact .inl h0
  · exact .inr ⟨b, off, e, fun i hi => hs.cell (hc i hi) fun o _ _ => hr b off e (by omega) o⟩
theorem row_lt' {w : World} {s : Option Addr} {n : Nat} {xs : List Int} (h : Row w s n xs) : ∀ b off, s = some ⟨b, off, none⟩ → 0 < n → b < w.heap.size := by
  intro b off e hn
  rcases h.2 with h0 | ⟨b', off', e', hc⟩
  · omega
  · rw [e] at e'; cases e'; exact block_lt (hc 0 hn)

theorem stays_below {β : Type} {m B : Nat} {w : World} (hB : B ≤ m) (hw : B ≤ w.heap.size) : Stays m fun (_ : β) V => Below B w V := fun _ V C hi hs =>
  ⟨hs.os.trans hi.os, hs.tape.trans hi.tape, hs.output.trans hi.output, Nat.le_trans hi.size hs.size, fun k hk => by
    have hV := hi.size
    have e : V.heap[k]? = some (V.heap[k]'(by omega)) := Array.getElem?_eq_getElem (by omega)
    rw [hs.same k _ e (fun hf => by have := hf.1; omega), ← e]
    exact hi.block k hk⟩
theorem many_135 : ∀ n, n < 7 → ∀ W, W < 7 → n * (n - 1) / 2 * (W * W / 4) ≤ 135 := by decide +kernel
theorem swl_135 (c : Nat → Nat → Bool) {W n : Nat} (hW : W < 7) (hn : n < 7) : (swL c W n).length ≤ 135 := by
  have h1 := swl_len c W n
  have h2 := many_le c hW hn
  have h3 := many_135 n hn W hW
  omega

end Go.Proofs.Yteejopkimlkhoaa

