/-
  The contracts of chapter 3 in the form that the laws use.
-/
import Derived.Test.YteadibgjieimkaaPj
import Derived.Test.YteadibgjieimkaaPl
namespace Go.Proofs.Yteadibgjieimkaa
set_option maxRecDepth 100000
open Go.RowKit

/-- What a function that gives a list of so many numbers and a flag leaves. -/
def GivesBK (w : World) (k : Nat) (L : List Int) (ok : Bool) (e : Ending) (w' : World) : Prop :=
  (∃ a cap, e = .returned (.tuple #[.slice a k cap, .bool ok]) ∧ OwnI w' w.heap.size a k cap L) ∧ Below w.heap.size w w'
theorem GivesB.k {w w' : World} {L M : List Int} {ok ok' : Bool} {e : Ending} {k : Nat} (h : GivesB w L ok e w') (hM : L = M) (hl : M.length = k) (ho : ok = ok') : GivesBK w k M ok' e w' := by subst hM; subst hl; subst ho; exact h
theorem partOf_ok {xs : List Int} (h : elB xs = true) (s : Option Addr) (n c : Nat) (w : World) (hR : Row w s n xs) :
    Calls Try.prog 26 #[.slice s n c] w (GivesBK w n (sortL xs) true) :=
  (partOf_impl s n c xs w hR (by have := (el_parts h).1; have := hR.1; omega)).mono fun _ _ hg => hg.k (partOf_yes h) ((sort_len h).trans hR.1) h
theorem partOf_sok {xs : List Int} (h : elB xs = true) (s : Option Addr) (n c : Nat) (w : World) (hR : Row w s n xs) :
    Calls Try.prog 27 #[.slice s n c] w (GivesBK w n (sortL xs) true) :=
  (partOf_spec s n c xs w hR (by have := (el_parts h).1; have := hR.1; omega)).mono fun _ _ hg => hg.k (partOf_yes h) ((sort_len h).trans hR.1) h
theorem partOf_ino {xs : List Int} (h : elB xs = false) (s : Option Addr) (n c : Nat) (w : World) (hR : Row w s n xs) (hn : n ≤ 13) :
    Calls Try.prog 26 #[.slice s n c] w (GivesBK w 0 [] false) :=
  (partOf_impl s n c xs w hR (by omega)).mono fun _ _ hg => hg.k (partOf_no h) rfl h
theorem partOf_sno {xs : List Int} (h : elB xs = false) (s : Option Addr) (n c : Nat) (w : World) (hR : Row w s n xs) (hn : n ≤ 13) :
    Calls Try.prog 27 #[.slice s n c] w (GivesBK w 0 [] false) :=
  (partOf_spec s n c xs w hR (by omega)).mono fun _ _ hg => hg.k (partOf_no h) rfl h
theorem Row.six {xs : List Int} {w : World} {s : Option Addr} {n : Nat} (hR : Row w s n xs) (hP : Par xs) : n ≤ 6 := by have := hP.l; have := hR.1; omega
theorem pvalid_ok {xs : List Int} (hP : Par xs) (s : Option Addr) (n c : Nat) (w : World) (hR : Row w s n xs) :
    Calls Try.prog 28 #[.slice s n c] w fun e w' => e = .returned (.bool true) ∧ Below w.heap.size w w' := by
  have h := pvalid_impl s n c xs w hR (by have := hR.six hP; omega)
  rw [hP.valid] at h
  exact h
theorem sum_el {xs : List Int} (hE : elB xs = true) {T : Int} (hT : psum xs xs.length = T) (s : Option Addr) (n c : Nat) (w : World) (hR : Row w s n xs) :
    Calls Try.prog 29 #[.slice s n c] w fun e w' => e = .returned (.int .i64 T) ∧ Below w.heap.size w w' := by
  have h1 := el_parts hE
  have h2 := hR.1
  subst h2
  exact sumOf_bel s _ c xs w hR h1.1 h1.2 T hT
theorem sum_ok {xs : List Int} (hP : Par xs) {T : Int} (hT : psum xs xs.length = T) (s : Option Addr) (n c : Nat) (w : World) (hR : Row w s n xs) :
    Calls Try.prog 29 #[.slice s n c] w fun e w' => e = .returned (.int .i64 T) ∧ Below w.heap.size w w' := sum_el hP.el hT s n c w hR
end Go.Proofs.Yteadibgjieimkaa

