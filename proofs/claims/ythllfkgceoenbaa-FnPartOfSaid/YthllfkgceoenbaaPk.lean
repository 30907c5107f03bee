/-
  The contracts of chapter 3 in the form that the laws use.
-/
import Derived.Test.YthllfkgceoenbaaPj
import Derived.Test.YthllfkgceoenbaaPl
namespace Go.Proofs.Ythllfkgceoenbaa
open Go.RowKit

/-- What a function that gives a list of so many numbers and a flag leaves. -/
def GivesBK (w : World) (k : Nat) (L : List Int) (ok : Bool) (e : Ending) (w' : World) : Prop :=
  (∃ a cap, e = .returned (.tuple #[.slice a k cap, .bool ok]) ∧ OwnI w' w.heap.size a k cap L) ∧ Below w.heap.size w w'
theorem GivesB.k {w w' : World} {L M : List Int} {ok ok' : Bool} {e : Ending} {k : Nat} (h : GivesB w L ok e w') (hM : L = M) (hl : M.length = k) (ho : ok = ok') : GivesBK w k M ok' e w' := by subst hM; subst hl; subst ho; exact h
theorem conj_ok {xs : List Int} {N : Nat} (h : conjB xs N = true) (s : Option Addr) (n c : Nat) (w : World) (hR : Row w s n xs) :
    Calls Try.prog 27 #[.slice s n c, .int .i64 N] w (GivesBK w N (conjL xs N) true) :=
  (conj_impl s n c xs N w hR (by have := (conjB_parts h).1.l; have := hR.1; omega)).mono fun _ _ hg => hg.k (by rw [conjOf_yes h, Int.toNat_natCast]) (conj_len _ _) h
theorem conj_sok {xs : List Int} {N : Nat} (h : conjB xs N = true) (s : Option Addr) (n c : Nat) (w : World) (hR : Row w s n xs) :
    Calls Try.prog 28 #[.slice s n c, .int .i64 N] w (GivesBK w N (conjL xs N) true) :=
  (conj_spec s n c xs N w hR (by have := (conjB_parts h).1.l; have := hR.1; omega)).mono fun _ _ hg => hg.k (by rw [conjOf_yes h, Int.toNat_natCast]) (conj_len _ _) h
theorem conj_no {xs : List Int} {k : Int} (h : conjB xs k = false) (s : Option Addr) (n c : Nat) (w : World) (hR : Row w s n xs) (hn : n ≤ 13) :
    Calls Try.prog 27 #[.slice s n c, .int .i64 k] w (GivesBK w 0 [] false) :=
  (conj_impl s n c xs k w hR (by omega)).mono fun _ _ hg => hg.k (conjOf_no h) rfl h
theorem conj_sno {xs : List Int} {k : Int} (h : conjB xs k = false) (s : Option Addr) (n c : Nat) (w : World) (hR : Row w s n xs) (hn : n ≤ 13) :
    Calls Try.prog 28 #[.slice s n c, .int .i64 k] w (GivesBK w 0 [] false) :=
  (conj_spec s n c xs k w hR (by omega)).mono fun _ _ hg => hg.k (conjOf_no h) rfl h
theorem partOf_ok {xs : List Int} (h : elB xs = true) (s : Option Addr) (n c : Nat) (w : World) (hR : Row w s n xs) :
    Calls Try.prog 21 #[.slice s n c] w (GivesBK w n (sortL xs) true) :=
  (partOf_impl s n c xs w hR (by have := (el_parts h).1; have := hR.1; omega)).mono fun _ _ hg => hg.k (partOf_yes h) ((sort_len h).trans hR.1) h
theorem partOf_sok {xs : List Int} (h : elB xs = true) (s : Option Addr) (n c : Nat) (w : World) (hR : Row w s n xs) :
    Calls Try.prog 22 #[.slice s n c] w (GivesBK w n (sortL xs) true) :=
  (partOf_spec s n c xs w hR (by have := (el_parts h).1; have := hR.1; omega)).mono fun _ _ hg => hg.k (partOf_yes h) ((sort_len h).trans hR.1) h
theorem partOf_ino {xs : List Int} (h : elB xs = false) (s : Option Addr) (n c : Nat) (w : World) (hR : Row w s n xs) (hn : n ≤ 13) :
    Calls Try.prog 21 #[.slice s n c] w (GivesBK w 0 [] false) :=
  (partOf_impl s n c xs w hR (by omega)).mono fun _ _ hg => hg.k (partOf_no h) rfl h
theorem partOf_sno {xs : List Int} (h : elB xs = false) (s : Option Addr) (n c : Nat) (w : World) (hR : Row w s n xs) (hn : n ≤ 13) :
    Calls Try.prog 22 #[.slice s n c] w (GivesBK w 0 [] false) :=
  (partOf_spec s n c xs w hR (by omega)).mono fun _ _ hg => hg.k (partOf_no h) rfl h
theorem Row.six {xs : List Int} {w : World} {s : Option Addr} {n : Nat} (hR : Row w s n xs) (hP : Par xs) : n ≤ 6 := by have := hP.l; have := hR.1; omega
theorem psum_ok {xs : List Int} (hP : Par xs) (K : Nat) {T : Int} (hT : psum xs K = T) (s : Option Addr) (n c : Nat) (hc : n ≤ c) (w : World) (hR : Row w s n xs) :
    Calls Try.prog 30 #[.slice s n c, .int .i64 K] w fun e w' => e = .returned (.int .i64 T) ∧ Below w.heap.size w w' := by
  have h := psum_impl s n c xs K w hR hc (by have := hR.six hP; omega)
  rw [psumOf_yes hP (by omega), Int.toNat_natCast, hT] at h
  exact h
theorem psum_sok {xs : List Int} (hP : Par xs) (K : Nat) {T : Int} (hT : psum xs K = T) (s : Option Addr) (n c : Nat) (w : World) (hR : Row w s n xs) :
    Calls Try.prog 31 #[.slice s n c, .int .i64 K] w fun e w' => e = .returned (.int .i64 T) ∧ Below w.heap.size w w' := by
  have h := psum_spec s n c xs K w hR (by have := hR.six hP; omega)
  rw [psumOf_yes hP (by omega), Int.toNat_natCast, hT] at h
  exact h
theorem psum_any {xs : List Int} {k T : Int} (hT : psumOf xs k = T) (s : Option Addr) (n c : Nat) (hc : n ≤ c) (hn : n ≤ 13) (w : World) (hR : Row w s n xs) :
    Calls Try.prog 30 #[.slice s n c, .int .i64 k] w fun e w' => e = .returned (.int .i64 T) ∧ Below w.heap.size w w' := by
  subst hT; exact psum_impl s n c xs k w hR hc (by omega)
theorem psum_sany {xs : List Int} {k T : Int} (hT : psumOf xs k = T) (s : Option Addr) (n c : Nat) (hn : n ≤ 13) (w : World) (hR : Row w s n xs) :
    Calls Try.prog 31 #[.slice s n c, .int .i64 k] w fun e w' => e = .returned (.int .i64 T) ∧ Below w.heap.size w w' := by
  subst hT; exact psum_spec s n c xs k w hR (by omega)
theorem below_ok {xs ys : List Int} {B : Bool} (h : belowB xs ys = B) (s s' : Option Addr) (n c n' c' : Nat) (hc : n ≤ c) (hc' : n' ≤ c') (hn : n ≤ 13) (hn' : n' ≤ 13) (w : World) (hR : Row w s n xs) (hR' : Row w s' n' ys) :
    Calls Try.prog 33 #[.slice s n c, .slice s' n' c'] w fun e w' => e = .returned (.bool B) ∧ Below w.heap.size w w' := by
  subst h; exact below_impl s s' n n' c c' xs ys w hR hR' hc hc' (by omega) (by omega)
theorem below_sok {xs ys : List Int} {B : Bool} (h : belowB xs ys = B) (s s' : Option Addr) (n c n' c' : Nat) (hn : n ≤ 13) (hn' : n' ≤ 13) (w : World) (hR : Row w s n xs) (hR' : Row w s' n' ys) :
    Calls Try.prog 34 #[.slice s n c, .slice s' n' c'] w fun e w' => e = .returned (.bool B) ∧ Below w.heap.size w w' := by
  subst h; exact below_spec s s' n n' c c' xs ys w hR hR' (by omega) (by omega)
theorem pvalid_ok {xs : List Int} (hP : Par xs) (s : Option Addr) (n c : Nat) (w : World) (hR : Row w s n xs) :
    Calls Try.prog 24 #[.slice s n c] w fun e w' => e = .returned (.bool true) ∧ Below w.heap.size w w' := by
  have h := pvalid_impl s n c xs w hR (by have := hR.six hP; omega)
  rw [hP.valid] at h
  exact h
theorem sum_el {xs : List Int} (hE : elB xs = true) {T : Int} (hT : psum xs xs.length = T) (s : Option Addr) (n c : Nat) (w : World) (hR : Row w s n xs) :
    Calls Try.prog 25 #[.slice s n c] w fun e w' => e = .returned (.int .i64 T) ∧ Below w.heap.size w w' := by
  have h1 := el_parts hE
  have h2 := hR.1
  subst h2
  exact sumOf_bel s _ c xs w hR h1.1 h1.2 T hT
theorem sum_ok {xs : List Int} (hP : Par xs) {T : Int} (hT : psum xs xs.length = T) (s : Option Addr) (n c : Nat) (w : World) (hR : Row w s n xs) :
    Calls Try.prog 25 #[.slice s n c] w fun e w' => e = .returned (.int .i64 T) ∧ Below w.heap.size w w' := sum_el hP.el hT s n c w hR
end Go.Proofs.Ythllfkgceoenbaa

