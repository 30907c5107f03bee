/-
  Paths of switches as linked steps: what they are in memory, and the program's function that lists them.
  The contracts of the program's functions that make a path of switches.
  The contracts of the model's functions that make a path of switches.
-/
import Derived.Test.YtnfkafaolelkbaaGreatDoorQl
import Derived.Test.YtnfkafaolelkbaaGreatDoorVa
import Derived.Test.YtnfkafaolelkbaaGreatDoorWa
import Derived.Test.YtnfkafaolelkbaaGreatDoorWl
import Derived.Test.YtnfkafaolelkbaaGreatDoorEp
import Derived.Test.YtnfkafaolelkbaaGreatDoorSk
import Derived.Deep.RegionLaw

namespace Go.Proofs.YtnfkafaolelkbaaGreatDoor
set_option maxRecDepth 100000
open Go.RowKit

/-- A list of steps, each with a pointer to the next one. -/
def LinkL (w : World) : Option Addr → List SwT → Prop
  | p, [] => p = none
  | p, s :: L => ∃ (g : Nat) (q : Option Addr), p = some ⟨g, 0, none⟩ ∧ (w.cell? ⟨g, 0, none⟩ = some (.int .i64 s.1) ∧ w.cell? ⟨g, 1, none⟩ = some (.int .i64 s.2.1) ∧ w.cell? ⟨g, 2, none⟩ = some (.int .i64 s.2.2.1) ∧ w.cell? ⟨g, 3, none⟩ = some (.int .i64 s.2.2.2) ∧ w.cell? ⟨g, 4, none⟩ = some (.pointer q)) ∧ LinkL w q L
theorem link_bel {w w' : World} (hb : Below w.heap.size w w') : ∀ {L : List SwT} {p : Option Addr}, LinkL w p L → LinkL w' p L
  | [], _, h => h
  | _ :: _, _, ⟨g, q, e, ⟨h0, h1, h2, h3, h4⟩, hl⟩ => ⟨g, q, e, ⟨kept hb (block_lt h0) h0, kept hb (block_lt h1) h1, kept hb (block_lt h2) h2, kept hb (block_lt h3) h3, kept hb (block_lt h4) h4⟩, link_bel hb hl⟩
theorem LinkL.bel {w w' : World} {L : List SwT} {p : Option Addr} (h : LinkL w p L) (hb : Below w.heap.size w w') : LinkL w' p L := link_bel hb h
def lenV : Value → Nat
  | .slice _ n _ => n
  | _ => 0

end Go.Proofs.YtnfkafaolelkbaaGreatDoor

namespace Go.Proofs.YtnfkafaolelkbaaGreatDoor
set_option maxRecDepth 100000
open Go.RowKit

theorem tow_ok {K n : Nat} {xs ys : List Int} (hI : Im K n xs) {A B C D : Nat} (h : towL xs ys K n = some (A, B, C, D)) : okB K xs A B C D = true := by
  have a := sw_at (tow_mem h).1
  exact (okB_yes hI a.1 a.2.1 a.2.2.1 a.2.2.2.1).trans a.2.2.2.2
/-- What pathAhead gives: a list of steps. -/
def GivesH (w : World) (L : List SwT) (e : Ending) (w' : World) : Prop := (∃ q : Option Addr, e = .returned (.pointer q) ∧ LinkL w' q L) ∧ Below w.heap.size w w'

/-- What SwitchPath gives. -/
def pathOut (V : Int) (xs : List Int) (W : Int) (ys : List Int) : List SwT := if sameB V xs W ys = true then pathL V.toNat xs.length xs ys else []
theorem pathOut_no {V W : Int} {xs ys : List Int} (h : sameB V xs W ys = false) : pathOut V xs W ys = [] := if_neg (by rw [h]; simp)
theorem pathOut_yes {K n : Nat} {xs ys : List Int} (hI : Im K n xs) (h : sameB K xs K ys = true) : pathOut K xs K ys = pathL K n xs ys := by
  unfold pathOut; rw [if_pos h, hI.hl, Int.toNat_natCast]
def GivesP (w : World) (L : List SwT) (ok : Bool) (e : Ending) (w' : World) : Prop :=
  (∃ a cap, e = .returned (.tuple #[.slice a L.length cap, .bool ok]) ∧ OwnS w' w.heap.size a L.length cap L) ∧ Below w.heap.size w w'
theorem own_none (w : World) (B : Nat) (hB : B ≤ w.heap.size) : OwnS (w.alloc (.cells #[] 85)) B (some ⟨w.heap.size, 0, none⟩) 0 0 [] := by
  have := World.ownsRow_lit (base := B) (e := 85) (size := 4) w #[] 0 hB (by decide) rfl
  simpa [flatS, OwnS] using this

end Go.Proofs.YtnfkafaolelkbaaGreatDoor

namespace Go.Proofs.YtnfkafaolelkbaaGreatDoor
set_option maxRecDepth 100000
open Go.RowKit

/-- Within the loop: the boxes of both images so far, and both lists of switches. -/
structure PX (w wr : World) (K n kx ky : Nat) (ax : Option Addr) (cx : Nat) (X : List Int) (ay : Option Addr) (cy : Nat) (Y : List Int) (g1 c1 N1 : Nat) (L1 : List SwT) (g2 c2 N2 : Nat) (L2 : List SwT) : Prop where
  x0 : wr.cell? ⟨kx, 0, none⟩ = some (.int .i64 K)
  x1 : wr.cell? ⟨kx, 1, none⟩ = some (.slice ax n cx)
  y0 : wr.cell? ⟨ky, 0, none⟩ = some (.int .i64 K)
  y1 : wr.cell? ⟨ky, 1, none⟩ = some (.slice ay n cy)
  xf : ∀ o, wr.frozen? ⟨kx, o, none⟩ = false
  yf : ∀ o, wr.frozen? ⟨ky, o, none⟩ = false
  px : Row wr ax n X
  py : Row wr ay n Y
  o1 : OwnS wr w.heap.size (some ⟨g1, 0, none⟩) N1 c1 L1
  o2 : OwnS wr w.heap.size (some ⟨g2, 0, none⟩) N2 c2 L2
  d12 : g1 ≠ g2
  dk : kx ≠ ky ∧ (kx ≠ g1 ∧ kx ≠ g2) ∧ (ky ≠ g1 ∧ ky ≠ g2)
  dx : ∀ b off, ax = some ⟨b, off, none⟩ → 0 < n → b ≠ g1 ∧ b ≠ g2 ∧ b ≠ kx ∧ b ≠ ky
  dy : ∀ b off, ay = some ⟨b, off, none⟩ → 0 < n → b ≠ g1 ∧ b ≠ g2 ∧ b ≠ kx ∧ b ≠ ky
  hz : g1 < wr.heap.size ∧ g2 < wr.heap.size
  hB : (w.heap.size ≤ kx ∧ w.heap.size ≤ ky) ∧ w.heap.size ≤ g1 ∧ w.heap.size ≤ g2
  bel : Below w.heap.size w wr
section
variable {w wr w1 : World} {K n kx ky : Nat} {ax : Option Addr} {cx : Nat} {X : List Int} {ay : Option Addr} {cy : Nat} {Y : List Int} {g1 c1 N1 : Nat} {L1 : List SwT} {g2 c2 N2 : Nat} {L2 : List SwT}
theorem PX.swap (h : PX w wr K n kx ky ax cx X ay cy Y g1 c1 N1 L1 g2 c2 N2 L2) : PX w wr K n kx ky ax cx X ay cy Y g2 c2 N2 L2 g1 c1 N1 L1 :=
  ⟨h.x0, h.x1, h.y0, h.y1, h.xf, h.yf, h.px, h.py, h.o2, h.o1, h.d12.symm, ⟨h.dk.1, ⟨h.dk.2.1.2, h.dk.2.1.1⟩, h.dk.2.2.2, h.dk.2.2.1⟩, fun b o e hn => ⟨(h.dx b o e hn).2.1, (h.dx b o e hn).1, (h.dx b o e hn).2.2⟩, fun b o e hn => ⟨(h.dy b o e hn).2.1, (h.dy b o e hn).1, (h.dy b o e hn).2.2⟩, ⟨h.hz.2, h.hz.1⟩, ⟨h.hB.1, h.hB.2.2, h.hB.2.1⟩, h.bel⟩
theorem PX.flip (h : PX w wr K n kx ky ax cx X ay cy Y g1 c1 N1 L1 g2 c2 N2 L2) : PX w wr K n ky kx ay cy Y ax cx X g1 c1 N1 L1 g2 c2 N2 L2 :=
  ⟨h.y0, h.y1, h.x0, h.x1, h.yf, h.xf, h.py, h.px, h.o1, h.o2, h.d12, ⟨h.dk.1.symm, h.dk.2.2, h.dk.2.1⟩, fun b o e hn => ⟨(h.dy b o e hn).1, (h.dy b o e hn).2.1, (h.dy b o e hn).2.2.2, (h.dy b o e hn).2.2.1⟩, fun b o e hn => ⟨(h.dx b o e hn).1, (h.dx b o e hn).2.1, (h.dx b o e hn).2.2.2, (h.dx b o e hn).2.2.1⟩, h.hz, ⟨⟨h.hB.1.2, h.hB.1.1⟩, h.hB.2⟩, h.bel⟩
theorem PX.move (h : PX w wr K n kx ky ax cx X ay cy Y g1 c1 N1 L1 g2 c2 N2 L2) (hb : Below wr.heap.size wr w1) : PX w w1 K n kx ky ax cx X ay cy Y g1 c1 N1 L1 g2 c2 N2 L2 :=
  ⟨kept hb (block_lt h.x0) h.x0, kept hb (block_lt h.x1) h.x1, kept hb (block_lt h.y0) h.y0, kept hb (block_lt h.y1) h.y1, fun o => (hb.frozen (p := ⟨kx, o, none⟩) (show kx < wr.heap.size from block_lt h.x0)).trans (h.xf o), fun o => (hb.frozen (p := ⟨ky, o, none⟩) (show ky < wr.heap.size from block_lt h.y0)).trans (h.yf o),
    h.px.bel hb, h.py.bel hb, h.o1.bel hb, h.o2.bel hb, h.d12, h.dk, h.dx, h.dy, ⟨by have := h.hz; have := hb.size; omega, by have := h.hz; have := hb.size; omega⟩, h.hB, h.bel.trans (hb.mono h.bel.size)⟩
/-- The first image's box takes another image. -/
theorem PX.setx {a' : Option Addr} {c' : Nat} {X' : List Int} (h : PX w wr K n kx ky ax cx X ay cy Y g1 c1 N1 L1 g2 c2 N2 L2) (ho : Row wr a' n X') (hf : ∀ b off, a' = some ⟨b, off, none⟩ → 0 < n → b ≠ g1 ∧ b ≠ g2 ∧ b ≠ kx ∧ b ≠ ky) :
    PX w ((wr.setCell ⟨kx, 0, none⟩ (.int .i64 K)).setCell ⟨kx, 1, none⟩ (.slice a' n c')) K n kx ky a' c' X' ay cy Y g1 c1 N1 L1 g2 c2 N2 L2 := by
  have hg : wr.grownBy ((wr.setCell ⟨kx, 0, none⟩ (.int .i64 K)).setCell ⟨kx, 1, none⟩ (.slice a' n c')) (some kx) := grown_set (grown_set (World.grownBy.refl _ _))
  have e1 : (wr.setCell ⟨kx, 0, none⟩ (.int .i64 K)).cell? ⟨kx, 1, none⟩ = some (.slice ax n cx) := by rw [World.cell?_setCell_other _ _ _ _ (by simp)]; exact h.x1
  have fz : ∀ (b : Nat) (o : Nat) (U : World) (p : Addr) (v : Value), U.frozen? ⟨b, o, none⟩ = false → (U.setCell p v).frozen? ⟨b, o, none⟩ = false := fun b o U p v hu => by rw [World.frozen?_setCell]; exact hu
  have sz : ((wr.setCell ⟨kx, 0, none⟩ (.int .i64 K)).setCell ⟨kx, 1, none⟩ (.slice a' n c')).heap.size = wr.heap.size := by simp
  refine ⟨?_, World.cell?_setCell_same _ _ _ e1, hg.cell h.y0 (by simpa using fun e => h.dk.1 e.symm), hg.cell h.y1 (by simpa using fun e => h.dk.1 e.symm), fun o => fz _ _ _ _ _ (fz _ _ _ _ _ (h.xf o)), fun o => fz _ _ _ _ _ (fz _ _ _ _ _ (h.yf o)),
    ho.apart hg (fun b o e hn => by simpa using (hf b o e hn).2.2.1), h.py.apart hg (fun b o e hn => by simpa using (h.dy b o e hn).2.2.1), World.ownsRow.kept h.o1 hg (.inr (by simpa [Value.ownBlock] using fun e => h.dk.2.1.1 e.symm)), World.ownsRow.kept h.o2 hg (.inr (by simpa [Value.ownBlock] using fun e => h.dk.2.1.2 e.symm)),
    h.d12, h.dk, hf, h.dy, by rw [sz]; exact h.hz, h.hB, (h.bel.setCell h.hB.1.1 _).setCell h.hB.1.1 _⟩
  rw [World.cell?_setCell_other _ _ _ _ (by simp)]; exact World.cell?_setCell_same _ _ _ h.x0
/-- The first list takes a switch. -/
theorem PX.app {g' c' : Nat} {L' : List SwT} {o : Obj} (h : PX w wr K n kx ky ax cx X ay cy Y g1 c1 N1 L1 g2 c2 N2 L2) (ho : OwnS w1 w.heap.size (some ⟨g', 0, none⟩) (N1 + 1) c' L') (hg : (wr.alloc o).grownBy w1 (some g1)) (hl : g' = g1 ∨ g' = wr.heap.size + 1) :
    PX w w1 K n kx ky ax cx X ay cy Y g' c' (N1 + 1) L' g2 c2 N2 L2 := by
  have h' := h.move ((Below.refl _ _).alloc (Nat.le_refl _) o)
  have lx : kx < wr.heap.size := block_lt h.x0
  have ly : ky < wr.heap.size := block_lt h.y0
  have rx := row_lt' h.px
  have ry := row_lt' h.py
  have sz : (wr.alloc o).heap.size = wr.heap.size + 1 := by simp
  have s1 := hg.size
  have hz := h.hz
  have hB := h.hB
  have dk := h.dk
  have d12 := h.d12
  have hgn : g' ≠ g2 ∧ kx ≠ g' ∧ ky ≠ g' ∧ w.heap.size ≤ g' := by rcases hl with e | e <;> omega
  have hlt : g' < w1.heap.size := by
    rcases ho.2 with ⟨e, _⟩ | ⟨g, c, cur, e, _, hb, _⟩
    · cases e
    · cases e; exact (World.ownsRow.lt ho g' rfl).2
  refine ⟨hg.cell h'.x0 (by simpa using fun e => dk.2.1.1 e), hg.cell h'.x1 (by simpa using fun e => dk.2.1.1 e), hg.cell h'.y0 (by simpa using fun e => dk.2.2.1 e), hg.cell h'.y1 (by simpa using fun e => dk.2.2.1 e), fun q => ?_, fun q => ?_,
    h'.px.apart hg (fun b q e hn => by simpa using (h.dx b q e hn).1), h'.py.apart hg (fun b q e hn => by simpa using (h.dy b q e hn).1), ho, World.ownsRow.kept h'.o2 hg (.inr (by simpa [Value.ownBlock] using fun e => d12 e.symm)),
    hgn.1, ⟨dk.1, ⟨hgn.2.1, dk.2.1.2⟩, hgn.2.2.1, dk.2.2.2⟩, fun b q e hn => ?_, fun b q e hn => ?_, ⟨hlt, by omega⟩, ⟨hB.1, hgn.2.2.2, hB.2.2⟩, ?_⟩
  · exact (World.frozen?_of_block (a := ⟨kx, q, none⟩) (hg.block kx (by omega) (by simpa using dk.2.1.1))).trans (h'.xf q)
  · exact (World.frozen?_of_block (a := ⟨ky, q, none⟩) (hg.block ky (by omega) (by simpa using dk.2.2.1))).trans (h'.yf q)
  · have a := h.dx b q e hn
    have a2 := rx b q e hn
    rcases hl with e2 | e2 <;> omega
  · have a := h.dy b q e hn
    have a2 := ry b q e hn
    rcases hl with e2 | e2 <;> omega
  · exact h'.bel.grown hg (by have := h.bel.size; omega) (fun k hk => by cases hk; exact hB.2.1)
end

end Go.Proofs.YtnfkafaolelkbaaGreatDoor
