/-
  The contracts of the model's functions that list switches, count them and do them; lists of switches as they lie in memory.
-/
import Derived.Test.YteejopkimlkhoaaRi
import Derived.Deep.RegionHeld3
namespace Go.Proofs.Yteejopkimlkhoaa
set_option maxRecDepth 100000
open Go.RowKit

/-- A list of switches that the call owns. -/
def OwnS (w : World) (B : Nat) (a : Option Addr) (n cap : Nat) (L : List SwT) : Prop := w.ownsRow B 37 4 (.slice a n cap) n ((flatS L).map (Value.int .i64))
/-- A list of switches, to be read. -/
def SRow (w : World) (a : Option Addr) (n : Nat) (L : List SwT) : Prop :=
  L.length = n ∧ (n = 0 ∨ ∃ g, a = some ⟨g, 0, none⟩ ∧ ∀ q (h : q < L.length), w.cell? ⟨g, q * 4, none⟩ = some (.int .i64 L[q].1) ∧ w.cell? ⟨g, q * 4 + 1, none⟩ = some (.int .i64 L[q].2.1) ∧ w.cell? ⟨g, q * 4 + 2, none⟩ = some (.int .i64 L[q].2.2.1) ∧ w.cell? ⟨g, q * 4 + 3, none⟩ = some (.int .i64 L[q].2.2.2))
theorem OwnS.len {w : World} {B n cap : Nat} {a : Option Addr} {L : List SwT} (h : OwnS w B a n cap L) : L.length = n := by
  have := h.1
  rw [List.length_map, sflat_len] at this
  omega
theorem OwnS.row {w : World} {B n cap : Nat} {a : Option Addr} {L : List SwT} (h : OwnS w B a n cap L) : SRow w a n L := by
  have hl := h.len
  refine ⟨hl, ?_⟩
  rcases h.2 with ⟨_, h0⟩ | ⟨g, c, cur, e, _⟩
  · exact .inl h0
  · right
    simp only [Value.slice.injEq] at e
    obtain ⟨rfl, _, rfl⟩ := e
    refine ⟨g, rfl, fun q hq => ?_⟩
    have hf := sflat_len L
    have cell : ∀ j, j < n * 4 → w.cell? ⟨g, j, none⟩ = some (.int .i64 ((flatS L).getD j 0)) := fun j hj => by
      rw [World.ownsRow.cellAt h j (by omega), List.getElem?_map, List.getElem?_eq_getElem (by omega), getD_elem (by omega)]; rfl
    have hg := sflat_get L q hq
    exact ⟨by rw [cell _ (by omega), hg.1], by rw [cell _ (by omega), hg.2.1], by rw [cell _ (by omega), hg.2.2.1], by rw [cell _ (by omega), hg.2.2.2]⟩
theorem OwnS.bel {w w' : World} {B n cap : Nat} {a : Option Addr} {L : List SwT} (h : OwnS w B a n cap L) (hb : Below w.heap.size w w') : OwnS w' B a n cap L := (Spare.below (M := Free 0) hb (Nat.le_refl _)).frow h
theorem OwnS.mono {w : World} {B B' n cap : Nat} {a : Option Addr} {L : List SwT} (h : OwnS w B a n cap L) (hB : B' ≤ B) : OwnS w B' a n cap L :=
  ⟨h.1, h.2.imp id fun ⟨g, c, cur, e1, e2, r⟩ => ⟨g, c, cur, e1, by omega, r⟩⟩
theorem SRow.bel {w w' : World} {a : Option Addr} {n : Nat} {L : List SwT} (h : SRow w a n L) (hb : Below w.heap.size w w') : SRow w' a n L :=
  ⟨h.1, h.2.imp id fun ⟨g, e, hc⟩ => ⟨g, e, fun q hq => by
    have hh := hc q hq
    exact ⟨kept hb (block_lt hh.1) hh.1, kept hb (block_lt hh.2.1) hh.2.1, kept hb (block_lt hh.2.2.1) hh.2.2.1, kept hb (block_lt hh.2.2.2) hh.2.2.2⟩⟩⟩
def GivesO (w : World) (L : List SwT) (e : Ending) (w' : World) : Prop :=
  (∃ a cap, e = .returned (.slice a L.length cap) ∧ OwnS w' w.heap.size a L.length cap L) ∧ Below w.heap.size w w'
theorem GivesX.own {w w' : World} {L : List SwT} {e : Ending} (h : GivesX w L e w') : GivesO w L e w' := by
  obtain ⟨⟨v, he, ho⟩, hb⟩ := h
  refine ⟨?_, hb⟩
  have h2 := ho
  rcases h2.2 with ⟨rfl, h0⟩ | ⟨g, c, cur, rfl, _⟩
  · exact ⟨none, 0, by rw [h0]; exact he, by rw [h0] at ho ⊢; exact ho⟩
  · exact ⟨some ⟨g, 0, none⟩, c, he, ho⟩
theorem swlist_ok (W : Int) (a : Option Addr) (n cap : Nat) (xs : List Int) (w : World) (h : Row w a n xs) (hm : n ≤ 9223372036854775807) :
    Calls Try.prog 35 #[.agg #[.int .i64 W, .slice a n cap]] w (GivesO w (listS W xs)) := (swlist_impl W a n cap xs w h hm).mono fun _ _ h => h.own

set_option maxHeartbeats 1000000 in
theorem swlist_spec (W : Int) (a : Option Addr) (n cap : Nat) (xs : List Int) (w : World) (h : Row w a n xs) (hm : n ≤ 9223372036854775807) :
    Calls Try.prog 73 #[.agg #[.int .i64 W, .slice a n cap]] w (GivesO w (listS W xs)) := by
  have hl := h.1
  by_cases hv : validB W xs = true
  · have h1 := validB_W hv
    obtain ⟨W, rfl⟩ := Int.eq_ofNat_of_zero_le (by omega : 0 ≤ W)
    rw [show listS W xs = swL (cellOf xs) W n by rw [← hl]; exact if_pos hv]
    exact (listx_any W a n cap xs w h (Im.of hv hl)).mono fun _ _ h => h.own
  have hv : validB W xs = false := by simpa using hv
  rw [show listS W xs = [] by unfold listS; rw [if_neg (by rw [hv]; simp)]]
  obtain ⟨W0, hW0⟩ : ∃ W0, W0 = (w.alloc (.cells #[.int .i64 W, .slice a n cap] 25)).alloc (.cells #[] 37) := ⟨_, rfl⟩
  have bb : Below w.heap.size w W0 := by subst hW0; exact ((Below.refl _ _).alloc (Nat.le_refl _) _).alloc (by simp) _
  have ho : OwnS W0 (w.heap.size + 1) (some ⟨w.heap.size + 1, 0, none⟩) 0 0 [] := by
    subst hW0
    have := World.ownsRow_lit (base := w.heap.size + 1) (e := 37) (size := 4) (w.alloc (.cells #[.int .i64 W, .slice a n cap] 25)) #[] 0 (by simp) (by decide) rfl
    simpa [OwnS, flatS] using this
  have r := Lib.hid (h.bel bb)
  replace ho := Lib.hid ho
  go_enter Try.func73, Try.ntmps73
  go_wp2_with fail
  rw [← hW0]
  clear hW0
  refine (valid_spec _ _ _ _ xs _ r.out hm).mono ?_
  rintro e w1 ⟨rfl, hb⟩
  rw [hv]
  go_wp2_with fail
  go_ret
  exact ⟨⟨_, _, rfl, (ho.out.bel hb).mono (by omega)⟩, bb.trans (hb.mono bb.size)⟩

theorem keep6 {u v : World} {p0 p1 p2 p3 p4 p5 : Addr} {v0 v1 v2 v3 v4 v5 : Value} (hb : Below u.heap.size u v) (h : u.cell? p0 = some v0 ∧ u.cell? p1 = some v1 ∧ u.cell? p2 = some v2 ∧ u.cell? p3 = some v3 ∧ u.cell? p4 = some v4 ∧ u.cell? p5 = some v5) : v.cell? p0 = some v0 ∧ v.cell? p1 = some v1 ∧ v.cell? p2 = some v2 ∧ v.cell? p3 = some v3 ∧ v.cell? p4 = some v4 ∧ v.cell? p5 = some v5 :=
  ⟨kept hb (block_lt h.1) h.1, keep5 hb h.2⟩
theorem put6 {u : World} {k b g o0 o1 : Nat} {x0 x1 v0 v1 v2 v3 v4 v5 : Value} (hb : b ≠ k) (hg : g ≠ k) (h : u.cell? ⟨b, 0, none⟩ = some v0 ∧ u.cell? ⟨b, 1, none⟩ = some v1 ∧ u.cell? ⟨g, 0, none⟩ = some v2 ∧ u.cell? ⟨g, 1, none⟩ = some v3 ∧ u.cell? ⟨g, 2, none⟩ = some v4 ∧ u.cell? ⟨g, 3, none⟩ = some v5) :
    ((u.setCell ⟨k, o0, none⟩ x0).setCell ⟨k, o1, none⟩ x1).cell? ⟨b, 0, none⟩ = some v0 ∧ ((u.setCell ⟨k, o0, none⟩ x0).setCell ⟨k, o1, none⟩ x1).cell? ⟨b, 1, none⟩ = some v1 ∧ ((u.setCell ⟨k, o0, none⟩ x0).setCell ⟨k, o1, none⟩ x1).cell? ⟨g, 0, none⟩ = some v2 ∧ ((u.setCell ⟨k, o0, none⟩ x0).setCell ⟨k, o1, none⟩ x1).cell? ⟨g, 1, none⟩ = some v3 ∧ ((u.setCell ⟨k, o0, none⟩ x0).setCell ⟨k, o1, none⟩ x1).cell? ⟨g, 2, none⟩ = some v4 ∧ ((u.setCell ⟨k, o0, none⟩ x0).setCell ⟨k, o1, none⟩ x1).cell? ⟨g, 3, none⟩ = some v5 := by
  have o : ∀ {q o : Nat} {v : Value}, q ≠ k → u.cell? ⟨q, o, none⟩ = some v → ((u.setCell ⟨k, o0, none⟩ x0).setCell ⟨k, o1, none⟩ x1).cell? ⟨q, o, none⟩ = some v := fun hq hc =>
    (World.cell?_of_block (Below.heap_setCell _ _ _ _ hq)).trans ((World.cell?_of_block (Below.heap_setCell _ _ _ _ hq)).trans hc)
  exact ⟨o hb h.1, o hb h.2.1, o hg h.2.2.1, o hg h.2.2.2.1, o hg h.2.2.2.2.1, o hg h.2.2.2.2.2⟩

end Go.Proofs.Yteejopkimlkhoaa

