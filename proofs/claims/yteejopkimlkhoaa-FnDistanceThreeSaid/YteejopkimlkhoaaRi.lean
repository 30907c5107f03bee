/-
  The contract of the program's function that does the first switch of an image.
-/
import Derived.Test.YteejopkimlkhoaaRg
import Derived.Test.YteejopkimlkhoaaRh
namespace Go.Proofs.Yteejopkimlkhoaa
set_option maxRecDepth 100000
open Go.RowKit
attribute [local go_sem] Oper.semAt_some

/-- What doing the first switch gives. -/
def firstOut (W : Int) (xs : List Int) : Out := match listS W xs with
  | [] => .no
  | s :: _ => ⟨true, W, flL xs W.toNat xs.length s.1 s.2.1 s.2.2.1 s.2.2.2⟩
theorem firstOut_nil {W : Int} {xs : List Int} (h : listS W xs = []) : firstOut W xs = .no := by unfold firstOut; rw [h]
theorem firstOut_cons {W : Int} {xs : List Int} {s : SwT} {l : List SwT} (h : listS W xs = s :: l) : firstOut W xs = ⟨true, W, flL xs W.toNat xs.length s.1 s.2.1 s.2.2.1 s.2.2.2⟩ := by unfold firstOut; rw [h]

theorem Spare.fblock {m : Nat} {A B : World} (h : Spare (Free m) A B) {p : Addr} {v : Value} (hc : A.cell? p = some v) : B.heap[p.block]? = A.heap[p.block]? := by
  obtain ⟨o, ho, hi⟩ := cells_of_cell hc
  exact (h.same _ _ ho fun hf => by have := hf.2; rw [hi] at this; cases this).trans ho.symm
/-- Ahead of the first switch: the boxes of the image and of the two results. -/
structure FA (w V : World) (W : Int) (n cap : Nat) (a : Option Addr) (xs : List Int) : Prop where
  x0 : V.cell? ⟨w.heap.size, 0, none⟩ = some (.int .i64 W)
  x1 : V.cell? ⟨w.heap.size, 1, none⟩ = some (.slice a n cap)
  y0 : V.cell? ⟨w.heap.size + 1, 0, none⟩ = some (.int .i64 0)
  y1 : V.cell? ⟨w.heap.size + 1, 1, none⟩ = some (.slice none 0 0)
  yf : ∀ o, V.frozen? ⟨w.heap.size + 1, o, none⟩ = false
  z0 : V.cell? ⟨w.heap.size + 1 + 1, 0, none⟩ = some (.bool false)
  zf : V.frozen? ⟨w.heap.size + 1 + 1, 0, none⟩ = false
  row : Row V a n xs
  bel : Below w.heap.size w V
theorem FA.free {w A B : World} {W : Int} {n cap : Nat} {a : Option Addr} {xs : List Int} {m : Nat} (h : FA w A W n cap a xs) (hs : Spare (Free m) A B) (hm : w.heap.size ≤ m) : FA w B W n cap a xs :=
  ⟨hs.fcell h.x0, hs.fcell h.x1, hs.fcell h.y0, hs.fcell h.y1, fun o => (World.frozen?_of_block (a := ⟨w.heap.size + 1, o, none⟩) (hs.fblock (p := ⟨w.heap.size + 1, 0, none⟩) h.y0)).trans (h.yf o), hs.fcell h.z0, (hs.ffrozen h.z0).trans h.zf, hs.srow h.row, stays_below (β := Unit) hm (Nat.le_refl _) () _ _ h.bel hs⟩
theorem FA.move {w A B : World} {W : Int} {n cap : Nat} {a : Option Addr} {xs : List Int} (h : FA w A W n cap a xs) (hb : Below A.heap.size A B) : FA w B W n cap a xs :=
  h.free (m := w.heap.size) (Spare.below hb (Nat.le_refl _)) (Nat.le_refl _)

/-- Behind it: the results. -/
structure FB (w V : World) (W : Int) (m c : Nat) (a : Option Addr) (ys : List Int) : Prop where
  y0 : V.cell? ⟨w.heap.size + 1, 0, none⟩ = some (.int .i64 W)
  y1 : V.cell? ⟨w.heap.size + 1, 1, none⟩ = some (.slice a m c)
  z0 : V.cell? ⟨w.heap.size + 1 + 1, 0, none⟩ = some (.bool true)
  own : OwnI V w.heap.size a m c ys
  bel : Below w.heap.size w V
theorem FB.free {w A B : World} {W : Int} {m c : Nat} {a : Option Addr} {ys : List Int} {k : Nat} (h : FB w A W m c a ys) (hs : Spare (Free k) A B) (hm : w.heap.size ≤ k) : FB w B W m c a ys :=
  ⟨hs.fcell h.y0, hs.fcell h.y1, hs.fcell h.z0, hs.frow h.own, stays_below (β := Unit) hm (Nat.le_refl _) () _ _ h.bel hs⟩

/-- The iterator over the switches of any image. -/
theorem switches_all (B : Nat) (W : Int) (n cap : Nat) (s : Option Addr) (xs : List Int) (M : Nat → Obj → Prop) (w0 : World) (hS : SI B W n cap s xs w0) (hm : n ≤ 9223372036854775807)
    (hK : ∀ A C, Spare M A C → SI B W n cap s xs A → SI B W n cap s xs C) (hM : ∀ k o, w0.heap.size ≤ k → M k o → ∃ cs fr, o = .cells cs 37 fr) :
    Deals Try.prog 107 #[.pointer (some ⟨B, 0, none⟩)] encT (listS W xs) M w0 := by
  have hl := hS.row.1
  by_cases hv : validB W xs = true
  · have h1 := validB_W hv
    obtain ⟨W, rfl⟩ := Int.eq_ofNat_of_zero_le (by omega : 0 ≤ W)
    rw [show listS W xs = swL (cellOf xs) W n by rw [← hl]; exact if_pos hv]
    exact switches_deals B W n cap s xs M w0 hS (Im.of hv hl) hK hM
  · have hv : validB W xs = false := by simpa using hv
    rw [show listS W xs = [] by unfold listS; rw [if_neg (by rw [hv]; simp)]]
    exact switches_none B W n cap s xs M w0 hS hv hm
theorem listS_im {W : Int} {n : Nat} {xs : List Int} (hl : xs.length = n) {s : SwT} (h : s ∈ listS W xs) : ∃ W' : Nat, W = W' ∧ Im W' n xs ∧ s.1 < s.2.1 ∧ s.2.1 < n ∧ s.2.2.1 < s.2.2.2 ∧ s.2.2.2 < W' ∧ swC (cellOf xs) s.1 s.2.1 s.2.2.1 s.2.2.2 = true := by
  unfold listS at h
  split at h
  · rename_i hv
    have h1 := validB_W hv
    obtain ⟨W, rfl⟩ := Int.eq_ofNat_of_zero_le (by omega : 0 ≤ W)
    rw [hl, Int.toNat_natCast] at h
    have hm := swl_mem.1 (show (s.1, s.2.1, s.2.2.1, s.2.2.2) ∈ swL (cellOf xs) W n from h)
    exact ⟨W, rfl, Im.of hv hl, hm.1, hm.2.1, hm.2.2.1, hm.2.2.2.1, hm.2.2.2.2⟩
  · simp at h

theorem set3 {V : World} {b : Nat} {u0 u1 u2 : Value} (v0 v1 v2 : Value) (h0 : V.cell? ⟨b + 1, 0, none⟩ = some u0) (h1 : V.cell? ⟨b + 1, 1, none⟩ = some u1) (h2 : V.cell? ⟨b + 1 + 1, 0, none⟩ = some u2) :
    (((V.setCell ⟨b + 1, 0, none⟩ v0).setCell ⟨b + 1, 1, none⟩ v1).setCell ⟨b + 1 + 1, 0, none⟩ v2).cell? ⟨b + 1, 0, none⟩ = some v0 ∧ (((V.setCell ⟨b + 1, 0, none⟩ v0).setCell ⟨b + 1, 1, none⟩ v1).setCell ⟨b + 1 + 1, 0, none⟩ v2).cell? ⟨b + 1, 1, none⟩ = some v1 ∧ (((V.setCell ⟨b + 1, 0, none⟩ v0).setCell ⟨b + 1, 1, none⟩ v1).setCell ⟨b + 1 + 1, 0, none⟩ v2).cell? ⟨b + 1 + 1, 0, none⟩ = some v2 := by
  have e1 : (V.setCell ⟨b + 1, 0, none⟩ v0).cell? ⟨b + 1, 1, none⟩ = some u1 := by rw [World.cell?_setCell_other _ _ _ _ (by simp)]; exact h1
  have e2 : ((V.setCell ⟨b + 1, 0, none⟩ v0).setCell ⟨b + 1, 1, none⟩ v1).cell? ⟨b + 1 + 1, 0, none⟩ = some u2 := by
    rw [World.cell?_setCell_other _ _ _ _ (by simp), World.cell?_setCell_other _ _ _ _ (by simp)]; exact h2
  refine ⟨?_, ?_, World.cell?_setCell_same _ _ _ e2⟩
  · rw [World.cell?_setCell_other _ _ _ _ (by simp), World.cell?_setCell_other _ _ _ _ (by simp)]; exact World.cell?_setCell_same _ _ _ h0
  · rw [World.cell?_setCell_other _ _ _ _ (by simp)]; exact World.cell?_setCell_same _ _ _ e1
theorem bel3 {w V : World} {v0 v1 v2 : Value} (h : Below w.heap.size w V) : Below w.heap.size w (((V.setCell ⟨w.heap.size + 1, 0, none⟩ v0).setCell ⟨w.heap.size + 1, 1, none⟩ v1).setCell ⟨w.heap.size + 1 + 1, 0, none⟩ v2) :=
  ((h.setCell (by simp) _).setCell (by simp) _).setCell (by simp; omega) _

end Go.Proofs.Yteejopkimlkhoaa

