/-
  The contracts of the functions that count different cells of two images, of the program and the model.
  The contract of the model's SwitchToward.
  The contract of the program's SwitchToward.
-/
import Derived.Test.YtnfkafaolelkbaaGreatDoorVa
import Derived.Test.YtnfkafaolelkbaaGreatDoorKa
import Derived.Test.YtnfkafaolelkbaaGreatDoorK
import Derived.Test.YtnfkafaolelkbaaGreatDoorKh
import Derived.Deep.RegionHeld3
import Derived.Test.YtnfkafaolelkbaaGreatDoorQi

namespace Go.Proofs.YtnfkafaolelkbaaGreatDoor
set_option maxRecDepth 100000
open Go.RowKit

/-- Two valid images of one shape. -/
def shapeB (V : Int) (xs : List Int) (W : Int) (ys : List Int) : Bool := validB V xs && (validB W ys && (decide (V = W) && decide (xs.length = ys.length)))
theorem shape_no1 {V W : Int} {xs ys : List Int} (h : validB V xs = false) : shapeB V xs W ys = false := by simp [shapeB, h]
theorem shape_no2 {V W : Int} {xs ys : List Int} (h : validB W ys = false) : shapeB V xs W ys = false := by simp [shapeB, h]
theorem shape_no3 {V W : Int} {xs ys : List Int} (h : ¬ V = W) : shapeB V xs W ys = false := by simp [shapeB, h]
theorem shape_no4 {V W : Int} {xs ys : List Int} (h : ¬ xs.length = ys.length) : shapeB V xs W ys = false := by simp [shapeB, h]
theorem shape_yes {V W : Int} {xs ys : List Int} (h1 : validB V xs = true) (h2 : validB W ys = true) (h3 : V = W) (h4 : xs.length = ys.length) : shapeB V xs W ys = true := by subst h3; simp [shapeB, h1, h2, h4]
theorem shape_im {V W : Int} {xs ys : List Int} {n m : Nat} (hx : xs.length = n) (hy : ys.length = m) (h : shapeB V xs W ys = true) : ∃ K : Nat, V = K ∧ W = K ∧ n = m ∧ Im K n xs ∧ Im K n ys := by
  simp only [shapeB, Bool.and_eq_true, decide_eq_true_eq] at h
  obtain ⟨h1, h2, h3, h4⟩ := h
  have hw := validB_W h1
  obtain ⟨K, rfl⟩ := Int.eq_ofNat_of_zero_le (by omega : 0 ≤ V)
  subst h3
  have e : n = m := by omega
  exact ⟨K, rfl, rfl, e, Im.of h1 hx, Im.of h2 (by omega)⟩
theorem Im.shape {K n : Nat} {xs ys : List Int} (h : Im K n xs) (h' : Im K n ys) : shapeB K xs K ys = true := shape_yes h.valid h'.valid rfl (by rw [h.hl, h'.hl])
/-- What ImageDistance gives. -/
def farOut (V : Int) (xs : List Int) (W : Int) (ys : List Int) : Int := if shapeB V xs W ys = true then farL xs ys V.toNat xs.length else -1
theorem farOut_no {V W : Int} {xs ys : List Int} (h : shapeB V xs W ys = false) : farOut V xs W ys = -1 := if_neg (by rw [h]; simp)
theorem farOut_yes {K n : Nat} {xs ys : List Int} (h : Im K n xs) (h' : Im K n ys) : farOut K xs K ys = farL xs ys K n := by
  unfold farOut; rw [if_pos (h.shape h'), h.hl, Int.toNat_natCast]

/-- The boxes of two images. -/
structure B2 (w wr : World) (V : Int) (a : Option Addr) (n c : Nat) (xs : List Int) (W : Int) (b : Option Addr) (m d : Nat) (ys : List Int) : Prop where
  x0 : wr.cell? ⟨w.heap.size, 0, none⟩ = some (.int .i64 V)
  x1 : wr.cell? ⟨w.heap.size, 1, none⟩ = some (.slice a n c)
  y0 : wr.cell? ⟨w.heap.size + 1, 0, none⟩ = some (.int .i64 W)
  y1 : wr.cell? ⟨w.heap.size + 1, 1, none⟩ = some (.slice b m d)
  p : Row wr a n xs
  q : Row wr b m ys
  bel : Below w.heap.size w wr
theorem B2.move {w wr w1 : World} {V : Int} {a : Option Addr} {n c : Nat} {xs : List Int} {W : Int} {b : Option Addr} {m d : Nat} {ys : List Int} (h : B2 w wr V a n c xs W b m d ys) (hb : Below wr.heap.size wr w1) : B2 w w1 V a n c xs W b m d ys :=
  ⟨kept hb (block_lt h.x0) h.x0, kept hb (block_lt h.x1) h.x1, kept hb (block_lt h.y0) h.y0, kept hb (block_lt h.y1) h.y1, h.p.bel hb, h.q.bel hb, h.bel.trans (hb.mono h.bel.size)⟩
theorem B2.start {w : World} {V : Int} {a : Option Addr} {n c : Nat} {xs : List Int} {W : Int} {b : Option Addr} {m d : Nat} {ys : List Int} (h : Row w a n xs) (h' : Row w b m ys) :
    B2 w ((w.alloc (.cells #[.int .i64 V, .slice a n c] 28)).alloc (.cells #[.int .i64 W, .slice b m d] 28)) V a n c xs W b m d ys := by
  have hb : Below w.heap.size w ((w.alloc (.cells #[.int .i64 V, .slice a n c] 28)).alloc (.cells #[.int .i64 W, .slice b m d] 28)) := ((Below.refl _ _).alloc (Nat.le_refl _) _).alloc (by simp) _
  exact ⟨by go_simp, by go_simp, by go_simp, by go_simp, h.bel hb, h'.bel hb, hb⟩

theorem xor_pair : ∀ n, n < 64 → ∀ m, m < 64 → 0 ≤ bits BinOp.xor IntKind.i64 ((n : Nat) : Int) ((m : Nat) : Int) ∧ bits BinOp.xor IntKind.i64 ((n : Nat) : Int) ((m : Nat) : Int) ≤ 63 ∧ cntI (bits BinOp.xor IntKind.i64 ((n : Nat) : Int) ((m : Nat) : Int)) 6 = sumI (fun j => if bitI ((n : Nat) : Int) j = bitI ((m : Nat) : Int) j then 0 else 1) 6 := by decide +kernel
theorem sum_cut {f : Nat → Int} {K : Nat} : ∀ {k : Nat}, K ≤ k → (∀ j, K ≤ j → j < k → f j = 0) → sumI f k = sumI f K
  | 0, h, _ => by rw [show K = 0 by omega]
  | k + 1, h, hz => by
    by_cases e : K = k + 1
    · rw [e]
    · show sumI f k + f k = _
      rw [sum_cut (k := k) (by omega) (fun j h1 h2 => hz j h1 (by omega)), hz k (by omega) (by omega)]; omega
/-- The different cells of two rows are counted by their numbers. -/
theorem xor_row {K n : Nat} {xs ys : List Int} (h : Im K n xs) (h' : Im K n ys) {i : Nat} (hi : i < n) :
    (0 ≤ bits BinOp.xor IntKind.i64 (xs.getD i 0) (ys.getD i 0) ∧ bits BinOp.xor IntKind.i64 (xs.getD i 0) (ys.getD i 0) ≤ 63) ∧ cntI (bits BinOp.xor IntKind.i64 (xs.getD i 0) (ys.getD i 0)) 6 = sumI (fun j => bI (cellOf xs i j != cellOf ys i j)) K := by
  obtain ⟨u, eu, hu⟩ := h.nat hi
  obtain ⟨v, ev, hv⟩ := h'.nat hi
  have hp := xor_pair u hu v hv
  rw [← eu, ← ev] at hp
  refine ⟨⟨hp.1, hp.2.1⟩, ?_⟩
  have hw6 := h.w6
  have r1 := h.row i hi
  have r2 := h'.row i hi
  rw [hp.2.2, sum_cut (K := K) (k := 6) hw6 fun j h1 _ => by (try dsimp only); rw [bit_high r1.1 r1.2 h1, bit_high r2.1 r2.2 h1, if_pos rfl]]
  refine sum_ext fun j _ => ?_
  (try dsimp only)
  rw [cell_bit, cell_bit]
  cases cellOf xs i j <;> cases cellOf ys i j <;> rfl
theorem far_bd36 {K n : Nat} {xs : List Int} (h : Im K n xs) (ys : List Int) {k : Nat} (hk : k ≤ n) : 0 ≤ farI (cellOf xs) (cellOf ys) K k ∧ farI (cellOf xs) (cellOf ys) K k ≤ 36 := by
  have h1 := far_nn (cellOf xs) (cellOf ys) K k
  have h2 := far_le (cellOf xs) (cellOf ys) K k
  have h3 := h.w6
  have h4 := h.l6
  have h5 : (k : Int) * (K : Int) ≤ 6 * 6 := by rw [← Int.natCast_mul]; have := Nat.mul_le_mul (show k ≤ 6 by omega) h3; omega
  omega

end Go.Proofs.YtnfkafaolelkbaaGreatDoor

namespace Go.Proofs.YtnfkafaolelkbaaGreatDoor
set_option maxRecDepth 100000
open Go.RowKit

/-- What SwitchToward gives. -/
def towOut (V : Int) (xs : List Int) (W : Int) (ys : List Int) : Option SwT := if shapeB V xs W ys = true then towL xs ys V.toNat xs.length else none
theorem towOut_no {V W : Int} {xs ys : List Int} (h : shapeB V xs W ys = false) : towOut V xs W ys = none := if_neg (by rw [h]; simp)
theorem towOut_yes {K n : Nat} {xs ys : List Int} (h : Im K n xs) (h' : Im K n ys) : towOut K xs K ys = towL xs ys K n := by
  unfold towOut; rw [if_pos (h.shape h'), h.hl, Int.toNat_natCast]
def swV : Option SwT → Value
  | some s => .tuple #[.agg #[.int .i64 s.1, .int .i64 s.2.1, .int .i64 s.2.2.1, .int .i64 s.2.2.2], .bool true]
  | none => .tuple #[.agg #[.int .i64 0, .int .i64 0, .int .i64 0, .int .i64 0], .bool false]

/-- The boxes of two images and of a switch to be given. -/
structure B3 (w wr : World) (V : Int) (a : Option Addr) (n c : Nat) (xs : List Int) (W : Int) (b : Option Addr) (m d : Nat) (ys : List Int) : Prop where
  b2 : B2 w wr V a n c xs W b m d ys
  z0 : wr.cell? ⟨w.heap.size + 1 + 1, 0, none⟩ = some (.int .i64 0)
  z1 : wr.cell? ⟨w.heap.size + 1 + 1, 1, none⟩ = some (.int .i64 0)
  z2 : wr.cell? ⟨w.heap.size + 1 + 1, 2, none⟩ = some (.int .i64 0)
  z3 : wr.cell? ⟨w.heap.size + 1 + 1, 3, none⟩ = some (.int .i64 0)
  zf : ∀ o, wr.frozen? ⟨w.heap.size + 1 + 1, o, none⟩ = false
theorem B3.move {w wr w1 : World} {V : Int} {a : Option Addr} {n c : Nat} {xs : List Int} {W : Int} {b : Option Addr} {m d : Nat} {ys : List Int} (h : B3 w wr V a n c xs W b m d ys) (hb : Below wr.heap.size wr w1) : B3 w w1 V a n c xs W b m d ys :=
  ⟨h.b2.move hb, kept hb (block_lt h.z0) h.z0, kept hb (block_lt h.z1) h.z1, kept hb (block_lt h.z2) h.z2, kept hb (block_lt h.z3) h.z3, fun o => (hb.frozen (p := ⟨w.heap.size + 1 + 1, o, none⟩) (show w.heap.size + 1 + 1 < wr.heap.size from block_lt h.z0)).trans (h.zf o)⟩
theorem B3.start {w : World} {V : Int} {a : Option Addr} {n c : Nat} {xs : List Int} {W : Int} {b : Option Addr} {m d : Nat} {ys : List Int} (h : Row w a n xs) (h' : Row w b m ys) :
    B3 w (((w.alloc (.cells #[.int .i64 V, .slice a n c] 28)).alloc (.cells #[.int .i64 W, .slice b m d] 28)).alloc (.cells #[.int .i64 0, .int .i64 0, .int .i64 0, .int .i64 0] 85)) V a n c xs W b m d ys := by
  exact ⟨(B2.start h h').move ((Below.refl _ _).alloc (Nat.le_refl _) _), by go_simp, by go_simp, by go_simp, by go_simp, fun o => by go_simp⟩
theorem heldT {w W W' : World} {p0 p1 q0 q1 c0 c1 c2 c3 : Addr} {u0 u1 v0 v1 t0 t1 t2 t3 : Value} {V : Int} {a : Option Addr} {n c : Nat} {xs : List Int} {U : Int} {b : Option Addr} {m d : Nat} {ys : List Int} {al : Option Addr} {N : Nat} {L : List SwT}
    (h : W.cell? p0 = some u0 ∧ W.cell? p1 = some u1 ∧ W.cell? q0 = some v0 ∧ W.cell? q1 = some v1 ∧ W.cell? c0 = some t0 ∧ W.cell? c1 = some t1 ∧ W.cell? c2 = some t2 ∧ W.cell? c3 = some t3 ∧ Hid (B3 w W V a n c xs U b m d ys) ∧ Hid (SRow W al N L)) (hb : Below W.heap.size W W') :
    W'.cell? p0 = some u0 ∧ W'.cell? p1 = some u1 ∧ W'.cell? q0 = some v0 ∧ W'.cell? q1 = some v1 ∧ W'.cell? c0 = some t0 ∧ W'.cell? c1 = some t1 ∧ W'.cell? c2 = some t2 ∧ W'.cell? c3 = some t3 ∧ Hid (B3 w W' V a n c xs U b m d ys) ∧ Hid (SRow W' al N L) :=
  ⟨kept hb (block_lt h.1) h.1, kept hb (block_lt h.2.1) h.2.1, kept hb (block_lt h.2.2.1) h.2.2.1, kept hb (block_lt h.2.2.2.1) h.2.2.2.1, kept hb (block_lt h.2.2.2.2.1) h.2.2.2.2.1, kept hb (block_lt h.2.2.2.2.2.1) h.2.2.2.2.2.1, kept hb (block_lt h.2.2.2.2.2.2.1) h.2.2.2.2.2.2.1, kept hb (block_lt h.2.2.2.2.2.2.2.1) h.2.2.2.2.2.2.2.1, Lib.hid (h.2.2.2.2.2.2.2.2.1.out.move hb), Lib.hid (h.2.2.2.2.2.2.2.2.2.out.bel hb)⟩
theorem setQ4 {u : World} {k : Nat} {u0 u1 u2 u3 : Value} (v0 v1 v2 v3 : Value) (h0 : u.cell? ⟨k, 0, none⟩ = some u0) (h1 : u.cell? ⟨k, 1, none⟩ = some u1) (h2 : u.cell? ⟨k, 2, none⟩ = some u2) (h3 : u.cell? ⟨k, 3, none⟩ = some u3) :
    ((((u.setCell ⟨k, 0, none⟩ v0).setCell ⟨k, 1, none⟩ v1).setCell ⟨k, 2, none⟩ v2).setCell ⟨k, 3, none⟩ v3).cell? ⟨k, 0, none⟩ = some v0 ∧ ((((u.setCell ⟨k, 0, none⟩ v0).setCell ⟨k, 1, none⟩ v1).setCell ⟨k, 2, none⟩ v2).setCell ⟨k, 3, none⟩ v3).cell? ⟨k, 1, none⟩ = some v1 ∧
    ((((u.setCell ⟨k, 0, none⟩ v0).setCell ⟨k, 1, none⟩ v1).setCell ⟨k, 2, none⟩ v2).setCell ⟨k, 3, none⟩ v3).cell? ⟨k, 2, none⟩ = some v2 ∧ ((((u.setCell ⟨k, 0, none⟩ v0).setCell ⟨k, 1, none⟩ v1).setCell ⟨k, 2, none⟩ v2).setCell ⟨k, 3, none⟩ v3).cell? ⟨k, 3, none⟩ = some v3 := by
  have o : ∀ (U : World) (v x : Value) (i j : Nat), i ≠ j → U.cell? ⟨k, i, none⟩ = some v → (U.setCell ⟨k, j, none⟩ x).cell? ⟨k, i, none⟩ = some v := fun U v x i j hne h => by rw [World.cell?_setCell_other _ _ _ _ (by simp)]; exact h
  have s : ∀ (U : World) (v x : Value) (i : Nat), U.cell? ⟨k, i, none⟩ = some v → (U.setCell ⟨k, i, none⟩ x).cell? ⟨k, i, none⟩ = some x := fun U v x i h => World.cell?_setCell_same _ _ _ h
  have a1 := o _ _ v0 1 0 (by omega) h1
  have a2 := o _ _ v1 2 1 (by omega) (o _ _ v0 2 0 (by omega) h2)
  have a3 := o _ _ v2 3 2 (by omega) (o _ _ v1 3 1 (by omega) (o _ _ v0 3 0 (by omega) h3))
  exact ⟨o _ _ v3 0 3 (by omega) (o _ _ v2 0 2 (by omega) (o _ _ v1 0 1 (by omega) (s _ _ v0 0 h0))), o _ _ v3 1 3 (by omega) (o _ _ v2 1 2 (by omega) (s _ _ v1 1 a1)), o _ _ v3 2 3 (by omega) (s _ _ v2 2 a2), s _ _ v3 3 a3⟩
theorem belQ4 {w V : World} {k : Nat} {v0 v1 v2 v3 : Value} (h : Below w.heap.size w V) (hk : w.heap.size ≤ k) : Below w.heap.size w ((((V.setCell ⟨k, 0, none⟩ v0).setCell ⟨k, 1, none⟩ v1).setCell ⟨k, 2, none⟩ v2).setCell ⟨k, 3, none⟩ v3) :=
  (((h.setCell hk _).setCell hk _).setCell hk _).setCell hk _

end Go.Proofs.YtnfkafaolelkbaaGreatDoor

namespace Go.Proofs.YtnfkafaolelkbaaGreatDoor
set_option maxRecDepth 100000
open Go.RowKit
attribute [local go_sem] Oper.semAt_some wide_fn

/-- Within the search: the boxes of the images, of the results and of the distance. -/
structure FT (w V : World) (K n c : Nat) (a : Option Addr) (xs : List Int) (b : Option Addr) (d : Nat) (ys : List Int) (kd : Nat) (f0 : Int) : Prop where
  b3 : B3 w V K a n c xs K b n d ys
  k0 : V.cell? ⟨w.heap.size + 1 + 1 + 1, 0, none⟩ = some (.bool false)
  kf : V.frozen? ⟨w.heap.size + 1 + 1 + 1, 0, none⟩ = false
  dd : V.cell? ⟨kd, 0, none⟩ = some (.int .i64 f0)
theorem B3.free {w A B : World} {V : Int} {a : Option Addr} {n c : Nat} {xs : List Int} {W : Int} {b : Option Addr} {m d : Nat} {ys : List Int} {k : Nat} (h : B3 w A V a n c xs W b m d ys) (hs : Spare (Free k) A B) (hm : w.heap.size ≤ k) : B3 w B V a n c xs W b m d ys :=
  ⟨⟨hs.fcell h.b2.x0, hs.fcell h.b2.x1, hs.fcell h.b2.y0, hs.fcell h.b2.y1, hs.srow h.b2.p, hs.srow h.b2.q, stays_below (β := Unit) hm (Nat.le_refl _) () _ _ h.b2.bel hs⟩,
    hs.fcell h.z0, hs.fcell h.z1, hs.fcell h.z2, hs.fcell h.z3, fun o => (World.frozen?_of_block (a := ⟨w.heap.size + 1 + 1, o, none⟩) (hs.fblock (p := ⟨w.heap.size + 1 + 1, 0, none⟩) h.z0)).trans (h.zf o)⟩
theorem FT.free {w A B : World} {K n c : Nat} {a : Option Addr} {xs : List Int} {b : Option Addr} {d : Nat} {ys : List Int} {kd : Nat} {f0 : Int} {k : Nat} (h : FT w A K n c a xs b d ys kd f0) (hs : Spare (Free k) A B) (hm : w.heap.size ≤ k) : FT w B K n c a xs b d ys kd f0 :=
  ⟨h.b3.free hs hm, hs.fcell h.k0, (hs.ffrozen h.k0).trans h.kf, hs.fcell h.dd⟩
theorem FT.move {w A B : World} {K n c : Nat} {a : Option Addr} {xs : List Int} {b : Option Addr} {d : Nat} {ys : List Int} {kd : Nat} {f0 : Int} (h : FT w A K n c a xs b d ys kd f0) (hb : Below A.heap.size A B) : FT w B K n c a xs b d ys kd f0 :=
  h.free (k := w.heap.size) (Spare.below hb (Nat.le_refl _)) (Nat.le_refl _)
/-- Behind it: the switch is given. -/
structure FU (w V : World) (x : SwT) : Prop where
  z0 : V.cell? ⟨w.heap.size + 1 + 1, 0, none⟩ = some (.int .i64 x.1)
  z1 : V.cell? ⟨w.heap.size + 1 + 1, 1, none⟩ = some (.int .i64 x.2.1)
  z2 : V.cell? ⟨w.heap.size + 1 + 1, 2, none⟩ = some (.int .i64 x.2.2.1)
  z3 : V.cell? ⟨w.heap.size + 1 + 1, 3, none⟩ = some (.int .i64 x.2.2.2)
  k0 : V.cell? ⟨w.heap.size + 1 + 1 + 1, 0, none⟩ = some (.bool true)
  bel : Below w.heap.size w V
theorem FU.free {w A B : World} {x : SwT} {k : Nat} (h : FU w A x) (hs : Spare (Free k) A B) (hm : w.heap.size ≤ k) : FU w B x :=
  ⟨hs.fcell h.z0, hs.fcell h.z1, hs.fcell h.z2, hs.fcell h.z3, hs.fcell h.k0, stays_below (β := Unit) hm (Nat.le_refl _) () _ _ h.bel hs⟩
/-- The switch and the flag are stored. -/
theorem put5 {u : World} {k : Nat} {u0 u1 u2 u3 t : Value} (v0 v1 v2 v3 s : Value) (h0 : u.cell? ⟨k, 0, none⟩ = some u0) (h1 : u.cell? ⟨k, 1, none⟩ = some u1) (h2 : u.cell? ⟨k, 2, none⟩ = some u2) (h3 : u.cell? ⟨k, 3, none⟩ = some u3) (h4 : u.cell? ⟨k + 1, 0, none⟩ = some t)
    (U : World) (hU : U = ((((u.setCell ⟨k, 0, none⟩ v0).setCell ⟨k, 1, none⟩ v1).setCell ⟨k, 2, none⟩ v2).setCell ⟨k, 3, none⟩ v3).setCell ⟨k + 1, 0, none⟩ s) :
    U.cell? ⟨k, 0, none⟩ = some v0 ∧ U.cell? ⟨k, 1, none⟩ = some v1 ∧ U.cell? ⟨k, 2, none⟩ = some v2 ∧ U.cell? ⟨k, 3, none⟩ = some v3 ∧ U.cell? ⟨k + 1, 0, none⟩ = some s := by
  subst hU
  have a := setQ4 v0 v1 v2 v3 h0 h1 h2 h3
  have e : ((((u.setCell ⟨k, 0, none⟩ v0).setCell ⟨k, 1, none⟩ v1).setCell ⟨k, 2, none⟩ v2).setCell ⟨k, 3, none⟩ v3).cell? ⟨k + 1, 0, none⟩ = some t := by
    rw [World.cell?_setCell_other _ _ _ _ (by simp), World.cell?_setCell_other _ _ _ _ (by simp), World.cell?_setCell_other _ _ _ _ (by simp), World.cell?_setCell_other _ _ _ _ (by simp)]; exact h4
  generalize (((u.setCell ⟨k, 0, none⟩ v0).setCell ⟨k, 1, none⟩ v1).setCell ⟨k, 2, none⟩ v2).setCell ⟨k, 3, none⟩ v3 = U at a e
  have o : ∀ (i : Nat) (v : Value), U.cell? ⟨k, i, none⟩ = some v → (U.setCell ⟨k + 1, 0, none⟩ s).cell? ⟨k, i, none⟩ = some v := fun i v h => by rw [World.cell?_setCell_other _ _ _ _ (by simp)]; exact h
  exact ⟨o _ _ a.1, o _ _ a.2.1, o _ _ a.2.2.1, o _ _ a.2.2.2, World.cell?_setCell_same _ _ _ e⟩

end Go.Proofs.YtnfkafaolelkbaaGreatDoor
