/-
  The contract of DrawSwitchRun: an image and up to four switches.
-/
import Derived.Test.YteejopkimlkhoaaWh
import Derived.Test.YteejopkimlkhoaaWe
import Derived.Test.YteejopkimlkhoaaKe
import Derived.Test.YteejopkimlkhoaaKd
import Derived.Deep.RegionLaw
namespace Go.Proofs.Yteejopkimlkhoaa
set_option maxRecDepth 100000
open Go.RowKit

/-- What DrawSwitchRun leaves. -/
def DrawnRun (w : World) (e : Ending) (w' : World) : Prop :=
  ∃ (W : Int) (s : Option Addr) (n cg : Nat) (xs : List Int) (gl : Nat) (N cl : Nat) (L : List SwQ), e = .returned (.tuple #[.agg #[.int .i64 W, .slice s n cg], .slice (some ⟨gl, 0, none⟩) N cl]) ∧ Row w' s n xs ∧ QRow w' (some ⟨gl, 0, none⟩) N L ∧ (n ≤ 6 ∧ n ≤ cg) ∧ (N ≤ 4 ∧ N ≤ cl) ∧ Below w.heap.size w w'
/-- Within the loop. -/
structure RX (w wr : World) (W : Int) (n ka kb r g : Nat) (s : Option Addr) (cg : Nat) (xs : List Int) (sb : Option Addr) (cb : Nat) (X : List Int) (N c : Nat) (L : List SwQ) (ar : Option Addr) (lr cr : Nat) (zs : List Int) (p : Nat) : Prop where
  z0 : wr.cell? ⟨w.heap.size, 0, none⟩ = some (.int .i64 0)
  z1 : wr.cell? ⟨w.heap.size, 1, none⟩ = some (.slice none 0 0)
  zf : ∀ o, wr.frozen? ⟨w.heap.size, o, none⟩ = false
  a0 : wr.cell? ⟨ka, 0, none⟩ = some (.int .i64 W)
  a1 : wr.cell? ⟨ka, 1, none⟩ = some (.slice s n cg)
  b0 : wr.cell? ⟨kb, 0, none⟩ = some (.int .i64 W)
  b1 : wr.cell? ⟨kb, 1, none⟩ = some (.slice sb n cb)
  bf : ∀ o, wr.frozen? ⟨kb, o, none⟩ = false
  pa : Row wr s n xs
  pb : Row wr sb n X
  o : wr.ownsRow w.heap.size 37 4 (.slice (some ⟨g, 0, none⟩) N c) N ((flatQ L).map (Value.int .i64))
  rd : Rd wr r ar lr cr zs p
  d : (ka ≠ r ∧ ka ≠ g ∧ kb ≠ r ∧ kb ≠ g) ∧ ka ≠ kb ∧ r ≠ g
  da : ∀ b off, s = some ⟨b, off, none⟩ → 0 < n → b ≠ r ∧ b ≠ g ∧ b ≠ kb ∧ w.heap.size < b
  db : ∀ b off, sb = some ⟨b, off, none⟩ → 0 < n → b ≠ r ∧ b ≠ g ∧ b ≠ kb ∧ w.heap.size < b
  dr : ∀ b off, ar = some ⟨b, off, none⟩ → 0 < lr → b ≠ g ∧ b ≠ kb
  hB : w.heap.size < r ∧ w.heap.size < ka ∧ w.heap.size < kb ∧ w.heap.size < g
  hz : g < wr.heap.size
  bel : Below w.heap.size w wr
section
variable {w wr w1 : World} {W : Int} {n ka kb r g : Nat} {s : Option Addr} {cg : Nat} {xs : List Int} {sb : Option Addr} {cb : Nat} {X : List Int} {N c : Nat} {L : List SwQ} {ar : Option Addr} {lr cr : Nat} {zs : List Int} {p : Nat}
theorem RX.move (h : RX w wr W n ka kb r g s cg xs sb cb X N c L ar lr cr zs p) (hb : Below wr.heap.size wr w1) : RX w w1 W n ka kb r g s cg xs sb cb X N c L ar lr cr zs p :=
  ⟨kept hb (block_lt h.z0) h.z0, kept hb (block_lt h.z1) h.z1, fun o => (hb.frozen (p := ⟨w.heap.size, o, none⟩) (show w.heap.size < wr.heap.size from block_lt h.z0)).trans (h.zf o), kept hb (block_lt h.a0) h.a0, kept hb (block_lt h.a1) h.a1, kept hb (block_lt h.b0) h.b0, kept hb (block_lt h.b1) h.b1, fun o => (hb.frozen (p := ⟨kb, o, none⟩) (show kb < wr.heap.size from block_lt h.b0)).trans (h.bf o),
    h.pa.bel hb, h.pb.bel hb, (Spare.below (M := Free 0) hb (Nat.le_refl _)).frow h.o, h.rd.bel hb, h.d, h.da, h.db, h.dr, h.hB, Nat.lt_of_lt_of_le h.hz hb.size, h.bel.trans (hb.mono h.bel.size)⟩
/-- The reader goes on. -/
theorem RX.pick {p' : Nat} (h : RX w wr W n ka kb r g s cg xs sb cb X N c L ar lr cr zs p) (hr : Rd w1 r ar lr cr zs p') (hg : wr.grownBy w1 (some r)) : RX w w1 W n ka kb r g s cg xs sb cb X N c L ar lr cr zs p' := by
  have hB := h.hB
  have d := h.d
  exact ⟨hg.cell h.z0 (by simp; omega), hg.cell h.z1 (by simp; omega), fun o => (frozen_grown hg h.z0 (by omega)).trans (h.zf o), hg.cell h.a0 (by simpa using d.1.1), hg.cell h.a1 (by simpa using d.1.1), hg.cell h.b0 (by simpa using d.1.2.2.1), hg.cell h.b1 (by simpa using d.1.2.2.1), fun o => (frozen_grown hg h.b0 d.1.2.2.1).trans (h.bf o),
    h.pa.apart hg (fun b o e hn => by simpa using (h.da b o e hn).1), h.pb.apart hg (fun b o e hn => by simpa using (h.db b o e hn).1), World.ownsRow.kept h.o hg (.inr (by simpa [Value.ownBlock] using fun e => d.2.2 e.symm)), hr, d, h.da, h.db, h.dr, hB, Nat.lt_of_lt_of_le h.hz hg.size, h.bel.grown hg h.bel.size (fun k hk => by cases hk; omega)⟩
/-- The list takes a switch. -/
theorem RX.app {g' c' : Nat} {L' : List SwQ} {o : Obj} (h : RX w wr W n ka kb r g s cg xs sb cb X N c L ar lr cr zs p) (ho : w1.ownsRow w.heap.size 37 4 (.slice (some ⟨g', 0, none⟩) (N + 1) c') (N + 1) ((flatQ L').map (Value.int .i64))) (hg : (wr.alloc o).grownBy w1 (some g)) (hl : g' = g ∨ g' = wr.heap.size + 1) :
    RX w w1 W n ka kb r g' s cg xs sb cb X (N + 1) c' L' ar lr cr zs p := by
  have h' := h.move ((Below.refl _ _).alloc (Nat.le_refl _) o)
  have hB := h.hB
  have d := h.d
  have hz := h.hz
  have la : ka < wr.heap.size := block_lt h.a0
  have lb : kb < wr.heap.size := block_lt h.b0
  have lr' : r < wr.heap.size := block_lt h.rd.c0
  have ra := row_lt' h.pa
  have rb := row_lt' h.pb
  have rs := h.rd.src
  have sz : (wr.alloc o).heap.size = wr.heap.size + 1 := by simp
  have hlt : g' < w1.heap.size := by
    rcases ho.2 with ⟨e, _⟩ | ⟨g, c, cur, e, _, hb, _⟩
    · cases e
    · cases e; exact (World.ownsRow.lt ho g' rfl).2
  refine ⟨hg.cell h'.z0 (by simp; omega), hg.cell h'.z1 (by simp; omega), fun o => (frozen_grown hg h'.z0 (by omega)).trans (h'.zf o), hg.cell h'.a0 (by simpa using d.1.2.1), hg.cell h'.a1 (by simpa using d.1.2.1), hg.cell h'.b0 (by simpa using d.1.2.2.2), hg.cell h'.b1 (by simpa using d.1.2.2.2), fun o => (frozen_grown hg h'.b0 d.1.2.2.2).trans (h'.bf o),
    h'.pa.apart hg (fun b o e hn => by simpa using (h.da b o e hn).2.1), h'.pb.apart hg (fun b o e hn => by simpa using (h.db b o e hn).2.1), ho, h'.rd.apart hg d.2.2 (fun b o e hn => (h.dr b o e hn).1), ⟨⟨d.1.1, ?_, d.1.2.2.1, ?_⟩, d.2.1, ?_⟩, fun b o e hn => ?_, fun b o e hn => ?_, fun b o e hn => ?_, ⟨hB.1, hB.2.1, hB.2.2.1, ?_⟩, hlt, h'.bel.grown hg (by have := h.bel.size; omega) (fun k hk => by cases hk; omega)⟩
  · rcases hl with e | e <;> omega
  · rcases hl with e | e <;> omega
  · rcases hl with e | e <;> omega
  · have a := h.da b o e hn; have a2 := ra b o e hn; rcases hl with e | e <;> omega
  · have a := h.db b o e hn; have a2 := rb b o e hn; rcases hl with e | e <;> omega
  · have a := h.dr b o e hn; have a2 := rs b o e hn; rcases hl with e | e <;> omega
  · rcases hl with e | e <;> omega
/-- The second box takes another image. -/
theorem RX.setb {s' : Option Addr} {c' : Nat} {X' : List Int} (h : RX w wr W n ka kb r g s cg xs sb cb X N c L ar lr cr zs p) (hb : Below wr.heap.size wr w1) (ho : OwnI w1 wr.heap.size s' n c' X') :
    RX w ((w1.setCell ⟨kb, 0, none⟩ (.int .i64 W)).setCell ⟨kb, 1, none⟩ (.slice s' n c')) W n ka kb r g s cg xs s' c' X' N c L ar lr cr zs p := by
  have h' := h.move hb
  have hB := h.hB
  have d := h.d
  have la : ka < wr.heap.size := block_lt h.a0
  have lb : kb < wr.heap.size := block_lt h.b0
  have lr' : r < wr.heap.size := block_lt h.rd.c0
  have lg := h.hz
  have lw := h.bel.size
  have hg : w1.grownBy ((w1.setCell ⟨kb, 0, none⟩ (.int .i64 W)).setCell ⟨kb, 1, none⟩ (.slice s' n c')) (some kb) := grown_set (grown_set (World.grownBy.refl _ _))
  have e1 : (w1.setCell ⟨kb, 0, none⟩ (.int .i64 W)).cell? ⟨kb, 1, none⟩ = some (.slice sb n cb) := by rw [World.cell?_setCell_other _ _ _ _ (by simp)]; exact h'.b1
  have hs : ∀ b off, s' = some ⟨b, off, none⟩ → 0 < n → wr.heap.size ≤ b := fun b off e hn => by
    rcases ho.cases with ⟨e2, _⟩ | ⟨g, e2, hg2, _⟩
    · rw [e2] at e; cases e
    · rw [e2] at e; cases e; omega
  refine ⟨hg.cell h'.z0 (by simp; omega), hg.cell h'.z1 (by simp; omega), fun o => ?_, hg.cell h'.a0 (by simpa using d.2.1), hg.cell h'.a1 (by simpa using d.2.1), ?_, World.cell?_setCell_same _ _ _ e1, fun o => ?_, h'.pa.apart hg (fun b o e hn => by simpa using (h.da b o e hn).2.2.1), ((ho.store (show kb < wr.heap.size from lb) _).store (show kb < wr.heap.size from lb) _).row,
    World.ownsRow.kept h'.o hg (.inr (by simpa [Value.ownBlock] using fun e => d.1.2.2.2 e.symm)), h'.rd.apart hg (fun e => d.1.2.2.1 e.symm) (fun b o e hn => (h.dr b o e hn).2), d, h.da, fun b o e hn => ?_, h.dr, hB, Nat.lt_of_lt_of_le h'.hz hg.size, (h'.bel.setCell (by simp; omega) _).setCell (by simp; omega) _⟩
  · rw [World.frozen?_setCell, World.frozen?_setCell]; exact h'.zf o
  · rw [World.cell?_setCell_other _ _ _ _ (by simp)]; exact World.cell?_setCell_same _ _ _ h'.b0
  · rw [World.frozen?_setCell, World.frozen?_setCell]; exact h'.bf o
  · have := hs b o e hn; omega
end

set_option maxHeartbeats 4000000 in
theorem draw_DrawSwitchRun (a : Option Addr) (len cap : Nat) (zs : List Int) (w : World) (h : Bys w a len zs) (hl : len ≤ cap) (hm : cap ≤ 9223372036854775807) :
    Calls Try.prog 43 #[.slice a len cap] w (DrawnRun w) := by
  obtain ⟨W0, hW0⟩ : ∃ W0, W0 = w.alloc (.cells #[.int .i64 0, .slice none 0 0] 25) := ⟨_, rfl⟩
  have bb : Hid (Below w.heap.size w W0) := by subst hW0; exact (Below.refl _ _).alloc (Nat.le_refl _) _
  have z0 : W0.cell? ⟨w.heap.size, 0, none⟩ = some (.int .i64 0) := by subst hW0; go_simp
  have z1 : W0.cell? ⟨w.heap.size, 1, none⟩ = some (.slice none 0 0) := by subst hW0; go_simp
  have zf : ∀ o, W0.frozen? ⟨w.heap.size, o, none⟩ = false := fun o => by subst hW0; go_simp
  have hz0 : w.heap.size < W0.heap.size := block_lt z0
  have h0 := h.bel bb.out
  clear h
  go_enter Try.func43, Try.ntmps43
  go_wp2_with fail
  rw [← hW0]
  clear hW0
  refine (open_any a len cap zs _ h0 hl hm).mono ?_
  rintro e w1 ⟨ar, lr, cr, rfl, hr, hb⟩
  replace zf : ∀ o, w1.frozen? ⟨w.heap.size, o, none⟩ = false := fun o => (hb.frozen (p := ⟨w.heap.size, o, none⟩) hz0).trans (zf o)
  replace z0 := kept hb (block_lt z0) z0
  replace z1 := kept hb (block_lt z1) z1
  replace bb := Lib.hid (bb.out.trans (hb.mono bb.out.size))
  have rl : W0.heap.size < w1.heap.size := block_lt hr.c0
  clear hb h0
  go_wp2_with fail
  refine (wrong_c 36 (by omega) (by omega) _ ar lr cr zs 0 w1 hr (by omega)).mono ?_
  rintro e w2 ⟨W, s, n, cg, xs, rfl, hR, hn, hg, hf, p2, hp2, hr2⟩
  have sz2 := hg.size
  have hR2 := hR.row
  have rw2 := row_lt' hR2
  have src := hr2.src
  have hb3 : Below w2.heap.size w2 (((w2.alloc (.cells #[.int .i64 W, .slice s n cg] 25)).alloc (.cells #[] 37)).alloc (.cells #[.int .i64 W, .slice s n cg] 25)) := (((Below.refl _ _).alloc (Nat.le_refl _) _).alloc (by simp) _).alloc (by simp; omega) _
  have hX : Hid (RX w (((w2.alloc (.cells #[.int .i64 W, .slice s n cg] 25)).alloc (.cells #[] 37)).alloc (.cells #[.int .i64 W, .slice s n cg] 25)) W n w2.heap.size (w2.heap.size + 2) W0.heap.size (w2.heap.size + 1) s cg xs s cg xs 0 0 [] ar lr cr zs p2) := by
    have q0 := hg.cell z0 (by simp; omega)
    have q1 := hg.cell z1 (by simp; omega)
    have qf : ∀ o, w2.frozen? ⟨w.heap.size, o, none⟩ = false := fun o => (frozen_grown hg z0 (by omega)).trans (zf o)
    have hb2 : Below w.heap.size w w2 := grown_cut bb.out hg (by omega) (by omega)
    have hfw : ∀ b off, s = some ⟨b, off, none⟩ → 0 < n → w1.heap.size ≤ b := hf
    have ho := own_none (w2.alloc (.cells #[.int .i64 W, .slice s n cg] 25)) w.heap.size (by simp; omega)
    have ho2 : OwnS (((w2.alloc (.cells #[.int .i64 W, .slice s n cg] 25)).alloc (.cells #[] 37)).alloc (.cells #[.int .i64 W, .slice s n cg] 25)) w.heap.size (some ⟨w2.heap.size + 1, 0, none⟩) 0 0 [] := by
      have := ho.bel (w' := (((w2.alloc (.cells #[.int .i64 W, .slice s n cg] 25)).alloc (.cells #[] 37)).alloc (.cells #[.int .i64 W, .slice s n cg] 25))) ((Below.refl _ _).alloc (Nat.le_refl _) _)
      simpa using this
    refine ⟨kept hb3 (show w.heap.size < w2.heap.size by omega) q0, kept hb3 (show w.heap.size < w2.heap.size by omega) q1, fun o => (hb3.frozen (p := ⟨w.heap.size, o, none⟩) (show w.heap.size < w2.heap.size by omega)).trans (qf o), by go_simp, by go_simp, by go_simp, by go_simp, fun o => by go_simp, hR2.bel hb3, hR2.bel hb3, ho2, hr2.bel hb3,
      ⟨⟨by omega, by omega, by omega, by omega⟩, by omega, by omega⟩, (fun b off e hn => ?_), (fun b off e hn => ?_), (fun b off e hn => ?_), ⟨by omega, by omega, by omega, by omega⟩, (by first | (simp; done) | (simp; omega)), hb2.trans (hb3.mono (by omega))⟩
    · have a1 := rw2 b off e hn; have a2 := hfw b off e hn; omega
    · have a1 := rw2 b off e hn; have a2 := hfw b off e hn; omega
    · have a1 := src b off e hn; omega
  clear z0 z1 zf hR hR2 hg hf hr2 hr bb hb3 src rw2
  have a0 := hX.out.a0
  have a1 := hX.out.a1
  go_wp2_with fail
  refine (pick_any W0.heap.size ar lr cr zs p2 5 _ hX.out.rd (by omega) (by omega)).mono ?_
  rintro e w3 ⟨v, rfl, hv0, hv5, hrd, hg⟩
  obtain ⟨m, rfl⟩ := Int.eq_ofNat_of_zero_le hv0
  replace hX := Lib.hid (hX.out.pick hrd hg)
  clear a0 a1 hrd hg
  go_wp2_with fail
  go_loopw [6, 9] (fun o i wr => ∃ (k g c p : Nat) (sb : Option Addr) (cb : Nat) (X : List Int) (L : List SwQ), k ≤ m ∧ i = .int .i64 k ∧ o = .slice (some ⟨g, 0, none⟩) k c ∧ p ≤ p2 + 1 + 10 * k ∧ Hid (RX w wr W n w2.heap.size (w2.heap.size + 2) W0.heap.size g s cg xs sb cb X k c L ar lr cr zs p)) (fun _ i _ => m - (intOf i).toNat)
  case atStart => exact ⟨0, _, _, p2 + 1, s, cg, xs, [], Nat.zero_le _, rfl, rfl, by omega, hX⟩
  case round =>
    clear hX
    obtain ⟨k, g, c, p, sb, cb, X, L, hk, rfl, rfl, hp, hX⟩ := hrel
    obtain ⟨wi, rfl⟩ : ∃ wi : World, wi = wr := ⟨_, rfl⟩
    by_cases hlt : k < m
    · have b0 := hX.out.b0
      have b1 := hX.out.b1
      go_wp2_with fail
      refine (switch_any W0.heap.size ar lr cr zs p W sb n cb X _ hX.out.rd (by omega) hX.out.pb (by omega)).mono ?_
      rintro e w5 ⟨A, B, C, D, rfl, _, hg, p', hp', hrd⟩
      have hbs : Below w5.heap.size w5 (w5.alloc (.cells #[.int .i64 A, .int .i64 B, .int .i64 C, .int .i64 D] 37)) := (Below.refl _ _).alloc (Nat.le_refl _) _
      replace hX := Lib.hid (hX.out.pick hrd hg)
      clear b0 b1 hg hrd
      have hown := hX.out.o
      have bz := hX.out.bel.size
      have lg5 := hX.out.hz
      have s0 : (w5.alloc (.cells #[.int .i64 A, .int .i64 B, .int .i64 C, .int .i64 D] 37)).cell? ⟨w5.heap.size, 0, none⟩ = some (.int .i64 A) := by simp
      have s1 : (w5.alloc (.cells #[.int .i64 A, .int .i64 B, .int .i64 C, .int .i64 D] 37)).cell? ⟨w5.heap.size, 1, none⟩ = some (.int .i64 B) := by simp
      have s2 : (w5.alloc (.cells #[.int .i64 A, .int .i64 B, .int .i64 C, .int .i64 D] 37)).cell? ⟨w5.heap.size, 2, none⟩ = some (.int .i64 C) := by simp
      have s3 : (w5.alloc (.cells #[.int .i64 A, .int .i64 B, .int .i64 C, .int .i64 D] 37)).cell? ⟨w5.heap.size, 3, none⟩ = some (.int .i64 D) := by simp
      replace hX := Lib.hid (hX.out.move hbs)
      replace hown := hX.out.o
      obtain ⟨w6, hw6⟩ : ∃ w6, w5.alloc (.cells #[.int .i64 A, .int .i64 B, .int .i64 C, .int .i64 D] 37) = w6 := ⟨_, rfl⟩
      have bz6 : w.heap.size ≤ w6.heap.size := by rw [← hw6]; simp; omega
      go_upto_region 10 with fail
      rw [hw6] at s0 s1 s2 s3 hX hown
      (try rw [hw6])
      clear hw6 hbs
      go_wp2_with (at_builtin; refine wpList_append_sw rfl _ _ rfl w.heap.size g k c (flatQ L) rfl (World.ownsRow.alloc hown _) w6.heap.size rfl A B C D (by simp) (by simp) (by simp) (by simp) (by omega) (by simp; omega) ?_)
      intro g' c' w7 hown1 hgr hlies
      have hO7 : w7.ownsRow w.heap.size 37 4 (.slice (some ⟨g', 0, none⟩) (k + 1) c') (k + 1) ((flatQ (L ++ [(A, B, C, D)])).map (Value.int .i64)) := by rw [qflat_app, qflat_one, List.map_append]; exact hown1
      have hX7 := Lib.hid (hX.out.app hO7 hgr hlies)
      have al : ∀ {i : Nat} {v : Value}, w6.cell? ⟨w5.heap.size, i, none⟩ = some v → w7.cell? ⟨w5.heap.size, i, none⟩ = some v := fun h => hgr.cell (World.cell?_alloc_some h) (by simp; omega)
      replace s0 := al s0
      replace s1 := al s1
      replace s2 := al s2
      replace s3 := al s3
      clear hown1 hgr hlies hO7 hown hX al
      have b0 := hX7.out.b0
      have b1 := hX7.out.b1
      have lX := hX7.out.pb.1
      go_wp2_with fail
      refine (swok_spec W sb n cb X A B C D _ hX7.out.pb (by omega)).mono ?_
      rintro e w8 ⟨rfl, hb⟩
      replace hX7 := Lib.hid (hX7.out.move hb)
      replace s0 := kept hb (block_lt s0) s0
      replace s1 := kept hb (block_lt s1) s1
      replace s2 := kept hb (block_lt s2) s2
      replace s3 := kept hb (block_lt s3) s3
      clear hb b0 b1
      have b0 := hX7.out.b0
      have b1 := hX7.out.b1
      have bf := hX7.out.bf
      by_cases ho : okB W X A B C D = true
      · rw [ho]
        have hI0 := validB_W (okB_valid ho)
        obtain ⟨K, rfl⟩ := Int.eq_ofNat_of_zero_le (show 0 ≤ W by omega)
        have hI : Im K n X := Im.of (okB_valid ho) lX
        obtain ⟨A, B, C, D, rfl, rfl, rfl, rfl, h1, h2, h3, h4, hsw⟩ := okB_im hI ho
        have hd := Lib.hid (dox_any K sb n cb X A B C D w8 hX7.out.pb hI h1 h2 h3 h4 hsw)
        clear ho hsw
        go_wp2_with fail
        refine hd.out.mono ?_
        rintro e w9 ⟨⟨sn, cn, rfl, hown⟩, hb⟩
        have hX9 := Lib.hid (hX7.out.setb hb hown)
        have hX8 := hX7.out.move hb
        replace b0 := hX8.b0
        replace b1 := hX8.b1
        replace bf := hX8.bf
        clear hd hb hown hX8 hX7 s0 s1 s2 s3
        go_wp2_with fail
        exact ⟨⟨k + 1, g', c', p', sn, cn, flL X K n A B C D, L ++ [((A : Int), (B : Int), (C : Int), (D : Int))], by omega, by go_num, rfl, by omega, hX9⟩, by simp [intOf]; omega⟩
      · have ho : okB W X A B C D = false := by simpa using ho
        rw [ho]
        clear ho
        go_wp2_with fail
        exact ⟨⟨k + 1, g', c', p', sb, cb, X, L ++ [(A, B, C, D)], by omega, by go_num, rfl, by omega, hX7⟩, by simp [intOf]; omega⟩
    · have : k = m := by omega
      subst this
      have z0 := hX.out.z0
      have z1 := hX.out.z1
      have zf := hX.out.zf
      have a0 := hX.out.a0
      have a1 := hX.out.a1
      go_wp2_with fail
      refine bodyPost_ret (v := .tuple #[.agg #[.int .i64 W, .slice s n cg], .slice (some ⟨g, 0, none⟩) k c]) (by simp [results, Try.results43, go_sem, z0, z1]) rfl ?_
      have hX1 := hX.out
      have hg : wi.grownBy ((wi.setCell ⟨w.heap.size, 0, none⟩ (.int .i64 W)).setCell ⟨w.heap.size, 1, none⟩ (.slice s n cg)) (some w.heap.size) := grown_set (grown_set (World.grownBy.refl _ _))
      have hcap : k ≤ c := by
        rcases hX1.o.2 with ⟨e, _⟩ | ⟨g, c, cur, e, _, _, hle⟩
        · cases e
        · cases e; first | omega | exact hle.1 | exact hle.2.1
      refine ⟨W, s, n, cg, xs, g, k, c, L, rfl, hX1.pa.apart hg (fun b o e hn => by have := hX1.da b o e hn; simp; omega), (qrow_of hX1.o).apart hg (fun b off e hn => by cases e; have := hX1.hB; omega), hn, ⟨by omega, hcap⟩, (hX1.bel.setCell (by simp) _).setCell (by simp) _⟩
end Go.Proofs.Yteejopkimlkhoaa

