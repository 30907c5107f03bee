/-
  Two images drawn at any number of cells.
  The contracts of the functions that do switches one after the other, of the program and the model.
  The contract of DrawSwitchRun: an image and up to four switches.
  The contracts of distances, of switches that help, of paths and of runs, in the form in which the laws want them.
-/
import Derived.Test.YtnfkafaolelkbaaSk
import Derived.Test.YtnfkafaolelkbaaKd
import Derived.Test.YtnfkafaolelkbaaQl
import Derived.Test.YtnfkafaolelkbaaHc
import Derived.Test.YtnfkafaolelkbaaRa
import Derived.Deep.RegionLaw
import Derived.Test.YtnfkafaolelkbaaWd
import Derived.Test.YtnfkafaolelkbaaKc
import Derived.Test.YtnfkafaolelkbaaWm
import Derived.Test.YtnfkafaolelkbaaEp

namespace Go.Proofs.Ytnfkafaolelkbaa
set_option maxRecDepth 100000
open Go.RowKit

end Go.Proofs.Ytnfkafaolelkbaa

namespace Go.Proofs.Ytnfkafaolelkbaa
set_option maxRecDepth 100000
open Go.RowKit

/-- What SwitchRun gives. -/
def runOut (V : Int) (xs : List Int) (L : List SwQ) : Out := if validB V xs = true then (match runL V xs L with
  | some ys => ⟨true, V, ys⟩
  | none => .no) else .no
theorem runOut_no {V : Int} {xs : List Int} {L : List SwQ} (h : validB V xs = false) : runOut V xs L = .no := if_neg (by rw [h]; simp)
theorem runOut_stop {K n : Nat} {xs : List Int} {L : List SwQ} (h : Im K n xs) (hr : runL K xs L = none) : runOut K xs L = .no := by
  unfold runOut; rw [if_pos h.valid, hr]
theorem runOut_yes {K n : Nat} {xs ys : List Int} {L : List SwQ} (h : Im K n xs) (hr : runL K xs L = some ys) : runOut K xs L = ⟨true, K, ys⟩ := by
  unfold runOut; rw [if_pos h.valid, hr]
theorem run_next {K n : Nat} {xs X : List Int} {L : List SwQ} {k : Nat} (hX : Im K n X) (h : runL K xs (L.take k) = some X) {A B C D : Int} (hk : k < L.length) (e : L[k]'hk = (A, B, C, D)) :
    runL K xs (L.take (k + 1)) = if okB K X A B C D = true then some (flL X K n A.toNat B.toNat C.toNat D.toNat) else none := by
  rw [List.take_succ_eq_append_getElem hk, e, run_snoc h, hX.hl, Int.toNat_natCast]
theorem run_end {K : Nat} {xs : List Int} {L : List SwQ} {k : Nat} (h : runL K xs (L.take k) = none) : runL K xs L = none := by
  rw [← List.take_append_drop k L]; exact run_stop h _

/-- Within a run: the boxes of the result and of the image so far, and the list. -/
structure RS (w wr : World) (K n kd : Nat) (sd : Option Addr) (cd : Nat) (X : List Int) (al : Option Addr) (N : Nat) (L : List SwQ) : Prop where
  z0 : wr.cell? ⟨w.heap.size + 1, 0, none⟩ = some (.int .i64 0)
  z1 : wr.cell? ⟨w.heap.size + 1, 1, none⟩ = some (.slice none 0 0)
  zf : ∀ o, wr.frozen? ⟨w.heap.size + 1, o, none⟩ = false
  d0 : wr.cell? ⟨kd, 0, none⟩ = some (.int .i64 K)
  d1 : wr.cell? ⟨kd, 1, none⟩ = some (.slice sd n cd)
  df : ∀ o, wr.frozen? ⟨kd, o, none⟩ = false
  pd : OwnI wr (w.heap.size + 2) sd n cd X
  q : QRow wr al N L
  bel : Below w.heap.size w wr
  hk : w.heap.size + 1 < kd
  nd : ∀ b off, sd = some ⟨b, off, none⟩ → 0 < n → b ≠ kd
  nl : ∀ b off, al = some ⟨b, off, none⟩ → 0 < N → b < w.heap.size
theorem RS.move {w wr w1 : World} {K n kd : Nat} {sd : Option Addr} {cd : Nat} {X : List Int} {al : Option Addr} {N : Nat} {L : List SwQ} (h : RS w wr K n kd sd cd X al N L) (hb : Below wr.heap.size wr w1) : RS w w1 K n kd sd cd X al N L :=
  ⟨kept hb (block_lt h.z0) h.z0, kept hb (block_lt h.z1) h.z1, fun o => (hb.frozen (p := ⟨w.heap.size + 1, o, none⟩) (show w.heap.size + 1 < wr.heap.size from block_lt h.z0)).trans (h.zf o), kept hb (block_lt h.d0) h.d0, kept hb (block_lt h.d1) h.d1, fun o => (hb.frozen (p := ⟨kd, o, none⟩) (show kd < wr.heap.size from block_lt h.d0)).trans (h.df o),
    h.pd.bel hb, h.q.bel hb, h.bel.trans (hb.mono h.bel.size), h.hk, h.nd, h.nl⟩
/-- The box takes another image. -/
theorem RS.setd {w wr w1 : World} {K n kd : Nat} {sd : Option Addr} {cd : Nat} {X : List Int} {al : Option Addr} {N : Nat} {L : List SwQ} (h : RS w wr K n kd sd cd X al N L) (hb : Below wr.heap.size wr w1) {s' : Option Addr} {c' : Nat} {X' : List Int} (ho : OwnI w1 wr.heap.size s' n c' X') :
    RS w ((w1.setCell ⟨kd, 0, none⟩ (.int .i64 K)).setCell ⟨kd, 1, none⟩ (.slice s' n c')) K n kd s' c' X' al N L := by
  have h' := h.move hb
  have lk : kd < wr.heap.size := block_lt h.d0
  have hg : w1.grownBy ((w1.setCell ⟨kd, 0, none⟩ (.int .i64 K)).setCell ⟨kd, 1, none⟩ (.slice s' n c')) (some kd) := grown_set (grown_set (World.grownBy.refl _ _))
  have e1 : (w1.setCell ⟨kd, 0, none⟩ (.int .i64 K)).cell? ⟨kd, 1, none⟩ = some (.slice sd n cd) := by rw [World.cell?_setCell_other _ _ _ _ (by simp)]; exact h'.d1
  have hk := h.hk
  have hz := h.bel.size
  refine ⟨hg.cell h'.z0 (by simp; omega), hg.cell h'.z1 (by simp; omega), fun o => ?_, ?_, World.cell?_setCell_same _ _ _ e1, fun o => ?_, ((ho.store (show kd < wr.heap.size from lk) _).store (show kd < wr.heap.size from lk) _).mono (by omega), h'.q.apart hg (fun b off e hn => by have := h.nl b off e hn; omega), (h'.bel.setCell (by simp; omega) _).setCell (by simp; omega) _, hk, fun b off e hn => ?_, h.nl⟩
  · rw [World.frozen?_setCell, World.frozen?_setCell]; exact h'.zf o
  · rw [World.cell?_setCell_other _ _ _ _ (by simp)]; exact World.cell?_setCell_same _ _ _ h'.d0
  · rw [World.frozen?_setCell, World.frozen?_setCell]; exact h'.df o
  · rcases ho.cases with ⟨e2, _⟩ | ⟨g, e2, hg2, _⟩
    · rw [e2] at e; cases e
    · rw [e2] at e; cases e; omega

theorem okx_int (K : Nat) (a : Option Addr) (n cap : Nat) (xs : List Int) (A B C D : Int) (w : World) (h : Row w a n xs) (hv : Im K n xs) :
    Calls Try.prog 102 #[.agg #[.int .i64 K, .slice a n cap], .agg #[.int .i64 A, .int .i64 B, .int .i64 C, .int .i64 D]] w fun e w' => e = .returned (.bool (okB K xs A B C D)) ∧ Below w.heap.size w w' := by
  by_cases hp : placeB K n A B C D = true
  · have g := placeB_iff.1 hp
    obtain ⟨A, rfl⟩ := Int.eq_ofNat_of_zero_le (show 0 ≤ A by omega)
    obtain ⟨B, rfl⟩ := Int.eq_ofNat_of_zero_le (show 0 ≤ B by omega)
    obtain ⟨C, rfl⟩ := Int.eq_ofNat_of_zero_le (show 0 ≤ C by omega)
    obtain ⟨D, rfl⟩ := Int.eq_ofNat_of_zero_le (show 0 ≤ D by omega)
    rw [okB_yes hv (by omega) (by omega) (by omega) (by omega)]
    exact okx_any K a n cap xs A B C D w h hv (by omega) (by omega) (by omega) (by omega)
  · have hp : placeB K n A B C D = false := by simpa using hp
    rw [okB_no2 (by rw [hv.hl]; exact hp)]
    exact okx_no K a n cap xs A B C D w h hv hp

end Go.Proofs.Ytnfkafaolelkbaa

namespace Go.Proofs.Ytnfkafaolelkbaa
set_option maxRecDepth 100000
open Go.RowKit

/-- What DrawSwitchRun leaves. -/
def DrawnRun (w : World) (e : Ending) (w' : World) : Prop :=
  ∃ (W : Int) (s : Option Addr) (n cg : Nat) (xs : List Int) (gl : Nat) (N cl : Nat) (L : List SwQ), e = .returned (.tuple #[.agg #[.int .i64 W, .slice s n cg], .slice (some ⟨gl, 0, none⟩) N cl]) ∧ Row w' s n xs ∧ QRow w' (some ⟨gl, 0, none⟩) N L ∧ (n ≤ 6 ∧ n ≤ cg) ∧ (N ≤ 4 ∧ N ≤ cl) ∧ Below w.heap.size w w'
/-- Within the loop. -/
structure RX (w wr : World) (W : Int) (n ka kb r g : Nat) (s : Option Addr) (cg : Nat) (xs : List Int) (sb : Option Addr) (cb : Nat) (X : List Int) (N c : Nat) (L : List SwQ) (ar : Option Addr) (lr cr : Nat) (zs : List Int) (p : Nat) : Prop where
  z0 : wr.cell? ⟨w.heap.size, 0, none⟩ = some (.int .i64 0)
  z1 : wr.cell? ⟨w.heap.size, 1, none⟩ = some (.slice none 0 0)
  zf : ∀ o, wr.frozen? ⟨w.heap.size, o, none⟩ = false
  a0 : wr.cell? ⟨ka, 0, none⟩ = some (.int .i64 W)
  a1 : wr.cell? ⟨ka, 1, none⟩ = some (.slice s n cg)
  b0 : wr.cell? ⟨kb, 0, none⟩ = some (.int .i64 W)
  b1 : wr.cell? ⟨kb, 1, none⟩ = some (.slice sb n cb)
  bf : ∀ o, wr.frozen? ⟨kb, o, none⟩ = false
  pa : Row wr s n xs
  pb : Row wr sb n X
  o : wr.ownsRow w.heap.size 97 4 (.slice (some ⟨g, 0, none⟩) N c) N ((flatQ L).map (Value.int .i64))
  rd : Rd wr r ar lr cr zs p
  d : (ka ≠ r ∧ ka ≠ g ∧ kb ≠ r ∧ kb ≠ g) ∧ ka ≠ kb ∧ r ≠ g
  da : ∀ b off, s = some ⟨b, off, none⟩ → 0 < n → b ≠ r ∧ b ≠ g ∧ b ≠ kb ∧ w.heap.size < b
  db : ∀ b off, sb = some ⟨b, off, none⟩ → 0 < n → b ≠ r ∧ b ≠ g ∧ b ≠ kb ∧ w.heap.size < b
  dr : ∀ b off, ar = some ⟨b, off, none⟩ → 0 < lr → b ≠ g ∧ b ≠ kb
  hB : w.heap.size < r ∧ w.heap.size < ka ∧ w.heap.size < kb ∧ w.heap.size < g
  hz : g < wr.heap.size
  bel : Below w.heap.size w wr
section
variable {w wr w1 : World} {W : Int} {n ka kb r g : Nat} {s : Option Addr} {cg : Nat} {xs : List Int} {sb : Option Addr} {cb : Nat} {X : List Int} {N c : Nat} {L : List SwQ} {ar : Option Addr} {lr cr : Nat} {zs : List Int} {p : Nat}
theorem RX.move (h : RX w wr W n ka kb r g s cg xs sb cb X N c L ar lr cr zs p) (hb : Below wr.heap.size wr w1) : RX w w1 W n ka kb r g s cg xs sb cb X N c L ar lr cr zs p :=
  ⟨kept hb (block_lt h.z0) h.z0, kept hb (block_lt h.z1) h.z1, fun o => (hb.frozen (p := ⟨w.heap.size, o, none⟩) (show w.heap.size < wr.heap.size from block_lt h.z0)).trans (h.zf o), kept hb (block_lt h.a0) h.a0, kept hb (block_lt h.a1) h.a1, kept hb (block_lt h.b0) h.b0, kept hb (block_lt h.b1) h.b1, fun o => (hb.frozen (p := ⟨kb, o, none⟩) (show kb < wr.heap.size from block_lt h.b0)).trans (h.bf o),
    h.pa.bel hb, h.pb.bel hb, (Spare.below (M := Free 0) hb (Nat.le_refl _)).frow h.o, h.rd.bel hb, h.d, h.da, h.db, h.dr, h.hB, Nat.lt_of_lt_of_le h.hz hb.size, h.bel.trans (hb.mono h.bel.size)⟩
/-- The reader goes on. -/
theorem RX.pick {p' : Nat} (h : RX w wr W n ka kb r g s cg xs sb cb X N c L ar lr cr zs p) (hr : Rd w1 r ar lr cr zs p') (hg : wr.grownBy w1 (some r)) : RX w w1 W n ka kb r g s cg xs sb cb X N c L ar lr cr zs p' := by
  have hB := h.hB
  have d := h.d
  exact ⟨hg.cell h.z0 (by simp; omega), hg.cell h.z1 (by simp; omega), fun o => (frozen_grown hg h.z0 (by omega)).trans (h.zf o), hg.cell h.a0 (by simpa using d.1.1), hg.cell h.a1 (by simpa using d.1.1), hg.cell h.b0 (by simpa using d.1.2.2.1), hg.cell h.b1 (by simpa using d.1.2.2.1), fun o => (frozen_grown hg h.b0 d.1.2.2.1).trans (h.bf o),
    h.pa.apart hg (fun b o e hn => by simpa using (h.da b o e hn).1), h.pb.apart hg (fun b o e hn => by simpa using (h.db b o e hn).1), World.ownsRow.kept h.o hg (.inr (by simpa [Value.ownBlock] using fun e => d.2.2 e.symm)), hr, d, h.da, h.db, h.dr, hB, Nat.lt_of_lt_of_le h.hz hg.size, h.bel.grown hg h.bel.size (fun k hk => by cases hk; omega)⟩
/-- The list takes a switch. -/
theorem RX.app {g' c' : Nat} {L' : List SwQ} {o : Obj} (h : RX w wr W n ka kb r g s cg xs sb cb X N c L ar lr cr zs p) (ho : w1.ownsRow w.heap.size 97 4 (.slice (some ⟨g', 0, none⟩) (N + 1) c') (N + 1) ((flatQ L').map (Value.int .i64))) (hg : (wr.alloc o).grownBy w1 (some g)) (hl : g' = g ∨ g' = wr.heap.size + 1) :
    RX w w1 W n ka kb r g' s cg xs sb cb X (N + 1) c' L' ar lr cr zs p := by
  have h' := h.move ((Below.refl _ _).alloc (Nat.le_refl _) o)
  have hB := h.hB
  have d := h.d
  have hz := h.hz
  have la : ka < wr.heap.size := block_lt h.a0
  have lb : kb < wr.heap.size := block_lt h.b0
  have lr' : r < wr.heap.size := block_lt h.rd.c0
  have ra := row_lt' h.pa
  have rb := row_lt' h.pb
  have rs := h.rd.src
  have sz : (wr.alloc o).heap.size = wr.heap.size + 1 := by simp
  have hlt : g' < w1.heap.size := by
    rcases ho.2 with ⟨e, _⟩ | ⟨g, c, cur, e, _, hb, _⟩
    · cases e
    · cases e; exact (World.ownsRow.lt ho g' rfl).2
  refine ⟨hg.cell h'.z0 (by simp; omega), hg.cell h'.z1 (by simp; omega), fun o => (frozen_grown hg h'.z0 (by omega)).trans (h'.zf o), hg.cell h'.a0 (by simpa using d.1.2.1), hg.cell h'.a1 (by simpa using d.1.2.1), hg.cell h'.b0 (by simpa using d.1.2.2.2), hg.cell h'.b1 (by simpa using d.1.2.2.2), fun o => (frozen_grown hg h'.b0 d.1.2.2.2).trans (h'.bf o),
    h'.pa.apart hg (fun b o e hn => by simpa using (h.da b o e hn).2.1), h'.pb.apart hg (fun b o e hn => by simpa using (h.db b o e hn).2.1), ho, h'.rd.apart hg d.2.2 (fun b o e hn => (h.dr b o e hn).1), ⟨⟨d.1.1, ?_, d.1.2.2.1, ?_⟩, d.2.1, ?_⟩, fun b o e hn => ?_, fun b o e hn => ?_, fun b o e hn => ?_, ⟨hB.1, hB.2.1, hB.2.2.1, ?_⟩, hlt, h'.bel.grown hg (by have := h.bel.size; omega) (fun k hk => by cases hk; omega)⟩
  · rcases hl with e | e <;> omega
  · rcases hl with e | e <;> omega
  · rcases hl with e | e <;> omega
  · have a := h.da b o e hn; have a2 := ra b o e hn; rcases hl with e | e <;> omega
  · have a := h.db b o e hn; have a2 := rb b o e hn; rcases hl with e | e <;> omega
  · have a := h.dr b o e hn; have a2 := rs b o e hn; rcases hl with e | e <;> omega
  · rcases hl with e | e <;> omega
/-- The second box takes another image. -/
theorem RX.setb {s' : Option Addr} {c' : Nat} {X' : List Int} (h : RX w wr W n ka kb r g s cg xs sb cb X N c L ar lr cr zs p) (hb : Below wr.heap.size wr w1) (ho : OwnI w1 wr.heap.size s' n c' X') :
    RX w ((w1.setCell ⟨kb, 0, none⟩ (.int .i64 W)).setCell ⟨kb, 1, none⟩ (.slice s' n c')) W n ka kb r g s cg xs s' c' X' N c L ar lr cr zs p := by
  have h' := h.move hb
  have hB := h.hB
  have d := h.d
  have la : ka < wr.heap.size := block_lt h.a0
  have lb : kb < wr.heap.size := block_lt h.b0
  have lr' : r < wr.heap.size := block_lt h.rd.c0
  have lg := h.hz
  have lw := h.bel.size
  have hg : w1.grownBy ((w1.setCell ⟨kb, 0, none⟩ (.int .i64 W)).setCell ⟨kb, 1, none⟩ (.slice s' n c')) (some kb) := grown_set (grown_set (World.grownBy.refl _ _))
  have e1 : (w1.setCell ⟨kb, 0, none⟩ (.int .i64 W)).cell? ⟨kb, 1, none⟩ = some (.slice sb n cb) := by rw [World.cell?_setCell_other _ _ _ _ (by simp)]; exact h'.b1
  have hs : ∀ b off, s' = some ⟨b, off, none⟩ → 0 < n → wr.heap.size ≤ b := fun b off e hn => by
    rcases ho.cases with ⟨e2, _⟩ | ⟨g, e2, hg2, _⟩
    · rw [e2] at e; cases e
    · rw [e2] at e; cases e; omega
  refine ⟨hg.cell h'.z0 (by simp; omega), hg.cell h'.z1 (by simp; omega), fun o => ?_, hg.cell h'.a0 (by simpa using d.2.1), hg.cell h'.a1 (by simpa using d.2.1), ?_, World.cell?_setCell_same _ _ _ e1, fun o => ?_, h'.pa.apart hg (fun b o e hn => by simpa using (h.da b o e hn).2.2.1), ((ho.store (show kb < wr.heap.size from lb) _).store (show kb < wr.heap.size from lb) _).row,
    World.ownsRow.kept h'.o hg (.inr (by simpa [Value.ownBlock] using fun e => d.1.2.2.2 e.symm)), h'.rd.apart hg (fun e => d.1.2.2.1 e.symm) (fun b o e hn => (h.dr b o e hn).2), d, h.da, fun b o e hn => ?_, h.dr, hB, Nat.lt_of_lt_of_le h'.hz hg.size, (h'.bel.setCell (by simp; omega) _).setCell (by simp; omega) _⟩
  · rw [World.frozen?_setCell, World.frozen?_setCell]; exact h'.zf o
  · rw [World.cell?_setCell_other _ _ _ _ (by simp)]; exact World.cell?_setCell_same _ _ _ h'.b0
  · rw [World.frozen?_setCell, World.frozen?_setCell]; exact h'.bf o
  · have := hs b o e hn; omega
end

end Go.Proofs.Ytnfkafaolelkbaa

namespace Go.Proofs.Ytnfkafaolelkbaa
set_option maxRecDepth 100000
open Go.RowKit

theorem far_no {V W : Int} {n m : Nat} {xs ys : List Int} (h : shapeB V xs W ys = false) (hn : n ≤ 6) (hm : m ≤ 6) (s t : Option Addr) (cs ct : Nat) (w : World) (hX : Row w s n xs) (hY : Row w t m ys) :
    Calls Try.prog 114 #[.agg #[.int .i64 V, .slice s n cs], .agg #[.int .i64 W, .slice t m ct]] w fun e w' => e = .returned (.int .i64 (-1)) ∧ Below w.heap.size w w' := by
  have hc := far_impl V W s t n m cs ct xs ys w hX hY (by omega) (by omega)
  rwa [farOut_no h] at hc
/-- No switch is given. -/
theorem tow_noi {V W : Int} {n m : Nat} {xs ys : List Int} (h : towOut V xs W ys = none) (hn : n ≤ 6) (hm : m ≤ 6) (s t : Option Addr) (cs ct : Nat) (w : World) (hX : Row w s n xs) (hY : Row w t m ys) :
    Calls Try.prog 103 #[.agg #[.int .i64 V, .slice s n cs], .agg #[.int .i64 W, .slice t m ct]] w fun e w' => e = .returned (.tuple #[.agg #[.int .i64 0, .int .i64 0, .int .i64 0, .int .i64 0], .bool false]) ∧ Below w.heap.size w w' := by
  have hc := tow_impl V W s t n m cs ct xs ys w hX hY (by omega) (by omega)
  rw [h] at hc
  exact hc
theorem towOut_im {V W : Int} {xs ys : List Int} {n m : Nat} (hx : xs.length = n) (hy : ys.length = m) {s : SwT} (h : towOut V xs W ys = some s) : ∃ K : Nat, V = K ∧ W = K ∧ n = m ∧ Im K n xs ∧ Im K n ys ∧ towL xs ys K n = some s := by
  by_cases hv : shapeB V xs W ys = true
  · obtain ⟨K, rfl, rfl, rfl, hI, hJ⟩ := shape_im hx hy hv
    rw [towOut_yes hI hJ] at h
    exact ⟨K, rfl, rfl, rfl, hI, hJ, h⟩
  · rw [towOut_no (by simpa using hv)] at h; cases h

/-- A list of switches and a flag, in the laws' form. -/
def GivesPN (w : World) (N : Nat) (L : List SwT) (ok : Bool) (e : Ending) (w' : World) : Prop := (∃ a cap, e = .returned (.tuple #[.slice a N cap, .bool ok]) ∧ SRow w' a N L ∧ N ≤ cap) ∧ Below w.heap.size w w'
theorem OwnS.cap {w : World} {B n cap : Nat} {a : Option Addr} {L : List SwT} (h : OwnS w B a n cap L) : n ≤ cap := by
  rcases h.2 with ⟨e, h0⟩ | ⟨g, c, cur, e, _, _, hle⟩
  · omega
  · simp only [Value.slice.injEq] at e
    obtain ⟨_, _, rfl⟩ := e
    first | omega | exact hle.1 | exact hle.2.1
theorem GivesP.n {w w' : World} {N : Nat} {L : List SwT} {ok : Bool} {e : Ending} (h : GivesP w L ok e w') (hN : L.length = N) : GivesPN w N L ok e w' := by
  subst hN
  obtain ⟨⟨a, cap, e1, ho⟩, hb⟩ := h
  exact ⟨⟨a, cap, e1, ho.row, ho.cap⟩, hb⟩
theorem path_ok {K n N : Nat} {xs ys : List Int} {L : List SwT} (h : Im K n xs) (h' : Im K n ys) (hs : SumE xs ys K n) (hL : pathL K n xs ys = L) (hN : L.length = N) (s t : Option Addr) (cs ct : Nat) (w : World) (hX : Row w s n xs) (hY : Row w t n ys) :
    Calls Try.prog 41 #[.agg #[.int .i64 K, .slice s n cs], .agg #[.int .i64 K, .slice t n ct]] w (GivesPN w N L true) := by
  have hb : sameB K xs K ys = true := h.same h' hs.1 hs.2
  have hc := path_impl (K : Int) K s t n n cs ct xs ys w hX hY (by have := h.l6; omega) (by have := h.l6; omega)
  rw [pathOut_yes h hb, hL, hb] at hc
  exact hc.mono fun _ _ hg => hg.n hN
theorem path_no {V W : Int} {n m : Nat} {xs ys : List Int} (h : sameB V xs W ys = false) (hn : n ≤ 6) (hm : m ≤ 6) (s t : Option Addr) (cs ct : Nat) (w : World) (hX : Row w s n xs) (hY : Row w t m ys) :
    Calls Try.prog 41 #[.agg #[.int .i64 V, .slice s n cs], .agg #[.int .i64 W, .slice t m ct]] w (GivesPN w 0 [] false) := by
  have hc := path_impl V W s t n m cs ct xs ys w hX hY (by omega) (by omega)
  rw [pathOut_no h, h] at hc
  exact hc.mono fun _ _ hg => hg.n rfl
theorem runOut_im {V : Int} {xs : List Int} {n : Nat} (hx : xs.length = n) {L : List SwQ} : runOut V xs L = .no ∨ ∃ (K : Nat) (ys : List Int), V = K ∧ Im K n xs ∧ runL K xs L = some ys ∧ Im K n ys := by
  by_cases hv : validB V xs = true
  · have hw := validB_W hv
    obtain ⟨K, rfl⟩ := Int.eq_ofNat_of_zero_le (by omega : 0 ≤ V)
    have hI : Im K n xs := Im.of hv hx
    cases hr : runL K xs L with
    | none => exact .inl (runOut_stop hI hr)
    | some ys => exact .inr ⟨K, ys, rfl, hI, hr, run_im hI hr⟩
  · exact .inl (runOut_no (by simpa using hv))
/-- Two lists of which one is the other one's beginning and the other its end. -/
theorem QRow.take {w : World} {a : Option Addr} {n k : Nat} {L : List SwQ} (h : QRow w a n L) (hk : k ≤ n) : QRow w a k (L.take k) := by
  refine ⟨by rw [List.length_take, h.1]; omega, ?_⟩
  rcases h.2 with h0 | ⟨b, off, e, hc⟩
  · exact .inl (by omega)
  · refine .inr ⟨b, off, e, fun q hq => ?_⟩
    rw [List.length_take] at hq
    rw [List.getElem_take]
    exact hc q (by omega)
theorem QRow.drop {w : World} {b off n k : Nat} {L : List SwQ} (h : QRow w (some ⟨b, off, none⟩) n L) (hk : k ≤ n) : QRow w (some ⟨b, off + k * 4, none⟩) (n - k) (L.drop k) := by
  refine ⟨by rw [List.length_drop, h.1], ?_⟩
  rcases h.2 with h0 | ⟨b', off', e, hc⟩
  · exact .inl (by omega)
  · cases e
    refine .inr ⟨b, off + k * 4, rfl, fun q hq => ?_⟩
    rw [List.length_drop] at hq
    rw [List.getElem_drop, show off + k * 4 + q * 4 = off + (k + q) * 4 by omega]
    exact hc (k + q) (by omega)
/-- A list of switches as a row of numbers, and back. -/
theorem QRow.flat {w : World} {a : Option Addr} {n : Nat} {L : List SwQ} (h : QRow w a n L) : Row w a (n * 4) (flatQ L) := by
  refine ⟨by rw [qflat_len, h.1], ?_⟩
  rcases h.2 with h0 | ⟨b, off, e, hc⟩
  · exact .inl (by omega)
  · refine .inr ⟨b, off, e, fun i hi => ?_⟩
    have hl := h.1
    have hq := hc (i / 4) (by omega)
    have hg := qflat_get L (i / 4) (by omega)
    obtain ⟨q, hq'⟩ : ∃ q, i / 4 = q := ⟨_, rfl⟩
    simp only [hq'] at hq hg
    have hj4 : i = q * 4 ∨ i = q * 4 + 1 ∨ i = q * 4 + 2 ∨ i = q * 4 + 3 := by omega
    rcases hj4 with rfl | rfl | rfl | rfl
    · rw [hg.1]; exact hq.1
    · rw [hg.2.1]; exact hq.2.1
    · rw [hg.2.2.1]; exact hq.2.2.1
    · rw [hg.2.2.2]; exact hq.2.2.2
theorem Row.q {w : World} {a : Option Addr} {n : Nat} {L : List SwQ} (h : Row w a (n * 4) (flatQ L)) (hl : L.length = n) : QRow w a n L := by
  refine ⟨hl, ?_⟩
  rcases h.2 with h0 | ⟨b, off, e, hc⟩
  · exact .inl (by omega)
  · refine .inr ⟨b, off, e, fun q hq => ?_⟩
    have hg := qflat_get L q hq
    have h0 := hc (q * 4) (by omega)
    have h1 := hc (q * 4 + 1) (by omega)
    have h2 := hc (q * 4 + 2) (by omega)
    have h3 := hc (q * 4 + 3) (by omega)
    rw [hg.1] at h0
    rw [hg.2.1] at h1
    rw [hg.2.2.1] at h2
    rw [hg.2.2.2] at h3
    exact ⟨h0, h1, h2, h3⟩
theorem qrow_nil (w : World) (a : Option Addr) : QRow w a 0 [] := ⟨rfl, .inl rfl⟩
theorem put_cell {W n : Nat} {xs : List Int} (h : Im W n xs) {i j : Nat} (hi : i < n) (hj : j < W) : ∀ a b, a < n → b < W → cellOf (putL xs i j (!hasB W xs i j)) a b = if a = i ∧ b = j then !cellOf xs a b else cellOf xs a b := by
  intro a b ha hb
  rw [← has_cell (h.put hi hj _) ha hb, h.put_has hi hj ha hb]
  by_cases e : a = i ∧ b = j
  · rw [if_pos e, if_pos e, e.1, e.2, has_cell h hi hj]
  · rw [if_neg e, if_neg e, has_cell h ha hb]
end Go.Proofs.Ytnfkafaolelkbaa
