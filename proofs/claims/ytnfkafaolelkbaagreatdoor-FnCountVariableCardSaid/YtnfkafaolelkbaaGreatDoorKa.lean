/-
  The contracts of the model's functions that tell and list switches, with what they answer.
  The contract of the model's function that does a switch, with what it leaves.
-/
import Derived.Test.YtnfkafaolelkbaaGreatDoorSk
import Derived.Test.YtnfkafaolelkbaaGreatDoorEa

namespace Go.Proofs.YtnfkafaolelkbaaGreatDoor
set_option maxRecDepth 100000
open Go.RowKit

theorem sw_of (xs : List Int) (A B C D : Nat) : swC (cellOf xs) A B C D = (decide (bitI (xs.getD B 0) D = bitI (xs.getD A 0) C) && (decide (bitI (xs.getD A 0) D = 1 - bitI (xs.getD A 0) C) && decide (bitI (xs.getD B 0) C = 1 - bitI (xs.getD A 0) C))) := by
  rw [cell_bit, cell_bit, cell_bit, cell_bit]
  unfold swC
  cases cellOf xs A C <;> cases cellOf xs A D <;> cases cellOf xs B C <;> cases cellOf xs B D <;> decide

/-- The four numbers of each place. -/
def flatS (L : List SwT) : List Int := L.flatMap fun s => [(s.1 : Int), s.2.1, s.2.2.1, s.2.2.2]
theorem sflat_snoc (L : List SwT) (A B C D : Nat) : flatS (L ++ [(A, B, C, D)]) = flatS L ++ [(A : Int), (B : Int), (C : Int), (D : Int)] := by
  unfold flatS; rw [List.flatMap_append]; simp
theorem sflat_len (L : List SwT) : (flatS L).length = L.length * 4 := by
  unfold flatS
  induction L with
  | nil => rfl
  | cons s L ih => rw [List.flatMap_cons, List.length_append, ih]; simp; omega
theorem sflat_get (L : List SwT) (j : Nat) (h : j < L.length) : (flatS L).getD (j * 4) 0 = L[j].1 ∧ (flatS L).getD (j * 4 + 1) 0 = L[j].2.1 ∧ (flatS L).getD (j * 4 + 2) 0 = L[j].2.2.1 ∧ (flatS L).getD (j * 4 + 3) 0 = L[j].2.2.2 := by
  induction L generalizing j with
  | nil => simp at h
  | cons s L ih =>
    have e : flatS (s :: L) = [(s.1 : Int), s.2.1, s.2.2.1, s.2.2.2] ++ flatS L := List.flatMap_cons
    rw [e]
    cases j with
    | zero => exact ⟨rfl, rfl, rfl, rfl⟩
    | succ j =>
      have hj := ih j (by simpa using h)
      rw [show (j + 1) * 4 = 4 + j * 4 by omega, show 4 + j * 4 + 1 = 4 + (j * 4 + 1) by omega, show 4 + j * 4 + 2 = 4 + (j * 4 + 2) by omega, show 4 + j * 4 + 3 = 4 + (j * 4 + 3) by omega]
      exact ⟨(getD_right (k := j * 4) rfl).trans hj.1, (getD_right (k := j * 4 + 1) rfl).trans hj.2.1, (getD_right (k := j * 4 + 2) rfl).trans hj.2.2.1, (getD_right (k := j * 4 + 3) rfl).trans hj.2.2.2⟩
/-- The list so far, in the middle of SwitchList. -/
structure SX (w wr : World) (W n : Nat) (s : Option Addr) (cg : Nat) (m : Nat) (L : List SwT) (v : Value) : Prop where
  c0 : wr.cell? ⟨w.heap.size, 0, none⟩ = some (.int .i64 W)
  c1 : wr.cell? ⟨w.heap.size, 1, none⟩ = some (.slice s n cg)
  bel : Below w.heap.size w wr
  len : L.length ≤ m
  own : wr.ownsRow (w.heap.size + 1) 85 4 v L.length ((flatS L).map (Value.int .i64))
theorem SX.le {w wr : World} {W n : Nat} {s : Option Addr} {cg m m' : Nat} {L : List SwT} {v : Value} (h : SX w wr W n s cg m L v) (hm : m ≤ m') : SX w wr W n s cg m' L v :=
  ⟨h.c0, h.c1, h.bel, Nat.le_trans h.len hm, h.own⟩
theorem SX.as {w wr : World} {W n : Nat} {s : Option Addr} {cg m m' : Nat} {L L' : List SwT} {v : Value} (h : SX w wr W n s cg m L v) (hm : m ≤ m') (e : L = L') : SX w wr W n s cg m' L' v := by
  subst e; exact h.le hm
theorem SX.move {w wr w1 : World} {W n : Nat} {s : Option Addr} {cg m : Nat} {L : List SwT} {v : Value} (h : SX w wr W n s cg m L v) (hb : Below wr.heap.size wr w1) : SX w w1 W n s cg m L v := by
  refine ⟨kept hb (block_lt h.c0) h.c0, kept hb (block_lt h.c1) h.c1, h.bel.trans (hb.mono h.bel.size), h.len, ?_⟩
  refine World.ownsRow.kept h.own (below_grown hb none) ?_
  rcases h.own.2 with ⟨rfl, _⟩ | ⟨g, c, cur, rfl, _⟩
  · left; rfl
  · right; simp [Value.ownBlock]
/-- What SwitchList leaves. -/
def GivesX (w : World) (L : List SwT) (e : Ending) (w' : World) : Prop :=
  (∃ v, e = .returned v ∧ w'.ownsRow w.heap.size 85 4 v L.length ((flatS L).map (Value.int .i64))) ∧ Below w.heap.size w w'

end Go.Proofs.YtnfkafaolelkbaaGreatDoor

namespace Go.Proofs.YtnfkafaolelkbaaGreatDoor
set_option maxRecDepth 100000
open Go.RowKit

theorem do_fl {W n : Nat} {xs : List Int} (h : Im W n xs) {A B C D : Nat} (h1 : A < B) (h2 : B < n) (h3 : C < D) (h4 : D < W) (hs : swC (cellOf xs) A B C D = true) :
    putL (putL (putL (putL xs A C (bitI (xs.getD A 0) C == 0)) B D (bitI (xs.getD A 0) C == 0)) A D (!(bitI (xs.getD A 0) C == 0))) B C (!(bitI (xs.getD A 0) C == 0)) = flL xs W n A B C D := by
  obtain ⟨S, hS⟩ : ∃ S, (bitI (xs.getD A 0) C == 0) = S := ⟨_, rfl⟩
  rw [hS]
  have eS : S = !cellOf xs A C := by rw [← hS, cell_bit]; cases cellOf xs A C <;> rfl
  have i1 := h.put (i := A) (j := C) (by omega) (by omega) S
  have i2 := i1.put (i := B) (j := D) (by omega) (by omega) S
  have i3 := i2.put (i := A) (j := D) (by omega) (by omega) (!S)
  refine (i3.put (i := B) (j := C) (by omega) (by omega) (!S)).ext (fl_im h A B C D) fun i j hi hj => ?_
  rw [i3.put_bit (by omega) (by omega) hi hj, i2.put_bit (by omega) (by omega) hi hj, i1.put_bit (by omega) (by omega) hi hj, h.put_bit (by omega) (by omega) hi hj]
  rw [cell_bit, cell_bit, fl_cell h hi hj]
  have sw := sw_bits hs
  unfold swC at hs
  by_cases e : (i = A ∨ i = B) ∧ (j = C ∨ j = D)
  · rw [fl_corner e, eS]
    rcases e with ⟨rfl | rfl, rfl | rfl⟩
    · rw [if_neg (by omega), if_neg (by omega), if_neg (by omega), if_pos ⟨rfl, rfl⟩]; rfl
    · rw [if_neg (by omega), if_pos ⟨rfl, rfl⟩]; revert hs; cases cellOf xs i C <;> cases cellOf xs B j <;> cases cellOf xs i j <;> cases cellOf xs B C <;> simp [bI]
    · rw [if_pos ⟨rfl, rfl⟩]; revert hs; cases cellOf xs A j <;> cases cellOf xs i D <;> cases cellOf xs A D <;> cases cellOf xs i j <;> simp [bI]
    · rw [if_neg (by omega), if_neg (by omega), if_pos ⟨rfl, rfl⟩]; revert hs; cases cellOf xs A C <;> cases cellOf xs i j <;> cases cellOf xs A j <;> cases cellOf xs i C <;> simp [bI]
  · rw [fl_other e, if_neg (by omega), if_neg (by omega), if_neg (by omega), if_neg (by omega)]

/-- What l11Do leaves: an image of these rows. -/
def GivesD (w : World) (W n : Nat) (ys : List Int) (e : Ending) (w' : World) : Prop :=
  (∃ (a : Option Addr) (c : Nat), e = .returned (.agg #[.int .i64 W, .slice a n c]) ∧ OwnI w' w.heap.size a n c ys) ∧ Below w.heap.size w w'

end Go.Proofs.YtnfkafaolelkbaaGreatDoor
