/-
  The laws' drawing of switches.
-/
import Derived.Test.YteejopkimlkhoaaKd
import Derived.Test.YteejopkimlkhoaaKc
namespace Go.Proofs.Yteejopkimlkhoaa
set_option maxRecDepth 100000
open Go.RowKit

/-- What l92Switch leaves: a switch of small numbers. -/
def DrawsSw (w : World) (r : Nat) (a : Option Addr) (len cap : Nat) (zs : List Int) (p : Nat) (e : Ending) (w' : World) : Prop :=
  ∃ A B C D : Int, e = .returned (.agg #[.int .i64 A, .int .i64 B, .int .i64 C, .int .i64 D]) ∧ (0 ≤ A ∧ A ≤ 6 ∧ 0 ≤ B ∧ B ≤ 6 ∧ 0 ≤ C ∧ C ≤ 6 ∧ 0 ≤ D ∧ D ≤ 6) ∧ w.grownBy w' (some r) ∧ ∃ p', p' ≤ p + 10 ∧ Rd w' r a len cap zs p'
/-- The middle of its walk. -/
structure LSw (w wr : World) (r : Nat) (a : Option Addr) (len cap : Nat) (zs : List Int) (p : Nat) : Prop where
  y0 : wr.cell? ⟨w.heap.size + 1, 0, none⟩ = some (.int .i64 0)
  y1 : wr.cell? ⟨w.heap.size + 1, 1, none⟩ = some (.int .i64 0)
  y2 : wr.cell? ⟨w.heap.size + 1, 2, none⟩ = some (.int .i64 0)
  y3 : wr.cell? ⟨w.heap.size + 1, 3, none⟩ = some (.int .i64 0)
  yf : ∀ o, wr.frozen? ⟨w.heap.size + 1, o, none⟩ = false
  rd : Rd wr r a len cap zs p
  gr : w.grownBy wr (some r)
  hr : r < w.heap.size
  far : ∀ b off, a = some ⟨b, off, none⟩ → 0 < len → b < w.heap.size
theorem LSw.pick {w wr w1 : World} {r : Nat} {a : Option Addr} {len cap : Nat} {zs : List Int} {p p' : Nat} (h : LSw w wr r a len cap zs p) (hr : Rd w1 r a len cap zs p') (hg : wr.grownBy w1 (some r)) : LSw w w1 r a len cap zs p' := by
  have n1 := h.hr
  exact ⟨hg.cell h.y0 (by simp; omega), hg.cell h.y1 (by simp; omega), hg.cell h.y2 (by simp; omega), hg.cell h.y3 (by simp; omega), fun o => (frozen_grown hg h.y0 (by omega)).trans (h.yf o), hr, grown_trans h.gr hg, h.hr, h.far⟩
theorem LSw.bel {w wr w1 : World} {r : Nat} {a : Option Addr} {len cap : Nat} {zs : List Int} {p : Nat} (h : LSw w wr r a len cap zs p) (hb : Below wr.heap.size wr w1) : LSw w w1 r a len cap zs p :=
  h.pick (h.rd.bel hb) (below_grown hb _)
theorem LSw.out {w wr : World} {r : Nat} {a : Option Addr} {len cap : Nat} {zs : List Int} {p p0 : Nat} {v0 v1 v2 v3 : Value} {A B C D : Int} (h : LSw w wr r a len cap zs p) (hp : p ≤ p0 + 10) (hv : 0 ≤ A ∧ A ≤ 6 ∧ 0 ≤ B ∧ B ≤ 6 ∧ 0 ≤ C ∧ C ≤ 6 ∧ 0 ≤ D ∧ D ≤ 6) :
    DrawsSw w r a len cap zs p0 (.returned (.agg #[.int .i64 A, .int .i64 B, .int .i64 C, .int .i64 D])) ((((wr.setCell ⟨w.heap.size + 1, 0, none⟩ v0).setCell ⟨w.heap.size + 1, 1, none⟩ v1).setCell ⟨w.heap.size + 1, 2, none⟩ v2).setCell ⟨w.heap.size + 1, 3, none⟩ v3) := by
  have n1 := h.hr
  have far := fun b off e hl => (show b ≠ w.heap.size + 1 by have := h.far b off e hl; omega)
  have gs : ∀ {V : World} {k : Nat} {v : Value}, V.grownBy (V.setCell ⟨w.heap.size + 1, k, none⟩ v) (some (w.heap.size + 1)) := fun {V k v} => grown_set (World.grownBy.refl _ _)
  refine ⟨A, B, C, D, rfl, hv, grown_then h.gr (((((Below.refl _ _).setCell (by simp) _).setCell (by simp) _).setCell (by simp) _).setCell (by simp) _), p, hp, ?_⟩
  exact (((h.rd.apart gs (by omega) far).apart gs (by omega) far).apart gs (by omega) far).apart gs (by omega) far

theorem SRow.apart {w w1 : World} {a : Option Addr} {n r : Nat} {L : List SwT} (h : SRow w a n L) (hg : w.grownBy w1 (some r)) (hne : ∀ b off, a = some ⟨b, off, none⟩ → 0 < n → b ≠ r) : SRow w1 a n L := by
  refine ⟨h.1, ?_⟩
  rcases h.2 with h0 | ⟨g, e, hc⟩
  · exact .inl h0
  by_cases hn : n = 0
  · exact .inl hn
  refine .inr ⟨g, e, fun q hq => ?_⟩
  have hh := hc q hq
  have ne := hne g 0 e (by omega)
  exact ⟨hg.cell hh.1 (by simpa using ne), hg.cell hh.2.1 (by simpa using ne), hg.cell hh.2.2.1 (by simpa using ne), hg.cell hh.2.2.2 (by simpa using ne)⟩
theorem OwnS.ge {w : World} {B n cap : Nat} {a : Option Addr} {L : List SwT} (h : OwnS w B a n cap L) : ∀ b off, a = some ⟨b, off, none⟩ → 0 < n → B ≤ b := by
  intro b off e hn
  rcases h.2 with ⟨_, h0⟩ | ⟨g, c, cur, e1, e2, _⟩
  · omega
  · rw [e] at e1
    simp only [Value.slice.injEq, Option.some.injEq, Addr.mk.injEq] at e1
    omega

set_option maxHeartbeats 1000000 in
theorem switch_any (r : Nat) (a : Option Addr) (len cap : Nat) (zs : List Int) (p : Nat) (W : Int) (s : Option Addr) (n cg : Nat) (xs : List Int) (w : World) (h : Rd w r a len cap zs p) (hp : p ≤ 500) (hR : Row w s n xs) (hn : n ≤ 6) :
    Calls Try.prog 88 #[.pointer (some ⟨r, 0, none⟩), .agg #[.int .i64 W, .slice s n cg]] w (DrawsSw w r a len cap zs p) := by
  have hrw : r < w.heap.size := block_lt h.c0
  obtain ⟨W0, hW0⟩ : ∃ W0, W0 = (w.alloc (.cells #[.int .i64 W, .slice s n cg] 25)).alloc (.cells #[.int .i64 0, .int .i64 0, .int .i64 0, .int .i64 0] 37) := ⟨_, rfl⟩
  have bb : Below w.heap.size w W0 := by subst hW0; exact ((Below.refl _ _).alloc (Nat.le_refl _) _).alloc (by simp) _
  have hS : LSw w W0 r a len cap zs p := by
    refine ⟨?_, ?_, ?_, ?_, ?_, h.bel bb, below_grown bb _, hrw, h.src⟩
    all_goals (subst hW0; simp)
  have hS := Lib.hid hS
  have hRw := Lib.hid (hR.bel bb)
  have hl := hR.1
  clear bb h hR
  go_enter Try.func88, Try.ntmps88
  go_wp2_with fail
  rw [← hW0]
  clear hW0
  refine (swlist_spec W s n cg xs _ hRw.out (by omega)).mono ?_
  rintro e w1 ⟨⟨g, c, rfl, ho⟩, hb⟩
  have hS1 := Lib.hid (hS.out.bel hb)
  have hL := Lib.hid ho.row
  have hge : ∀ b off, g = some ⟨b, off, none⟩ → 0 < (listS W xs).length → w.heap.size ≤ b := fun b off e h0 => by have := ho.ge b off e h0; have := hS.out.gr.size; omega
  have hall := Lib.hid (fun t (ht : t ∈ listS W xs) => listS_im hl ht)
  clear hS hRw ho hb
  obtain ⟨L, hLe⟩ : ∃ L, listS W xs = L := ⟨_, rfl⟩
  rw [hLe] at hL hall hge
  rw [hLe]
  obtain ⟨N, hN⟩ : ∃ N, L.length = N := ⟨_, rfl⟩
  rw [hN] at hL hge
  rw [hN]
  have hNb : N ≤ 135 := by
    subst hN; subst hLe
    unfold listS
    split
    · rename_i hv
      have h1 := validB_W hv
      obtain ⟨W, rfl⟩ := Int.eq_ofNat_of_zero_le (by omega : 0 ≤ W)
      have := (Im.of hv rfl).w6
      exact swl_135 _ (by simp; omega) (by omega)
    · simp
  clear hLe
  by_cases hz : N = 0
  · subst hz
    go_wp2_with fail
    refine (pick_any r a len cap zs (p) 3 _ hS1.out.rd (by omega) (by omega)).mono ?_
    rintro e wq0 ⟨vA, rfl, hvA0, hvA1, hr2, hg2⟩
    have hSq0 := Lib.hid (hS1.out.pick hr2 hg2)
    clear hS1 hr2 hg2
    go_wp2_with fail
    refine (pick_any r a len cap zs (p + 1) 7 _ hSq0.out.rd (by omega) (by omega)).mono ?_
    rintro e wq1 ⟨vB, rfl, hvB0, hvB1, hr2, hg2⟩
    have hSq1 := Lib.hid (hSq0.out.pick hr2 hg2)
    clear hSq0 hr2 hg2
    go_wp2_with fail
    refine (pick_any r a len cap zs (p + 1 + 1) 3 _ hSq1.out.rd (by omega) (by omega)).mono ?_
    rintro e wq2 ⟨vC, rfl, hvC0, hvC1, hr2, hg2⟩
    have hSq2 := Lib.hid (hSq1.out.pick hr2 hg2)
    clear hSq1 hr2 hg2
    go_wp2_with fail
    refine (pick_any r a len cap zs (p + 1 + 1 + 1) 7 _ hSq2.out.rd (by omega) (by omega)).mono ?_
    rintro e wq3 ⟨vD, rfl, hvD0, hvD1, hr2, hg2⟩
    have hSq3 := Lib.hid (hSq2.out.pick hr2 hg2)
    clear hSq2 hr2 hg2
    have y0 := hSq3.out.y0
    have y1 := hSq3.out.y1
    have y2 := hSq3.out.y2
    have y3 := hSq3.out.y3
    have yf := hSq3.out.yf
    go_wp2_with fail
    refine bodyPost_ret (v := .agg #[.int .i64 vA, .int .i64 vB, .int .i64 vC, .int .i64 vD]) (by simp [results, Try.results88, go_sem, y0, y1, y2, y3]) rfl ?_
    exact hSq3.out.out (by omega) (by omega)
  · go_wp2_with fail
    refine (pick_any r a len cap zs p 8 _ hS1.out.rd (by omega) (by omega)).mono ?_
    rintro e w2 ⟨v, rfl, hv0, hv1, hr2, hg2⟩
    have hS2 := Lib.hid (hS1.out.pick hr2 hg2)
    have hL2 := Lib.hid (hL.out.apart hg2 (fun b off e h0 => by have := hge b off e h0; omega))
    clear hr2 hg2 hS1
    by_cases hv : 0 < v
    · go_wp2_with fail
      refine (pick_any r a len cap zs (p + 1) N _ hS2.out.rd (by omega) (by omega)).mono ?_
      rintro e w3 ⟨u, rfl, hu0, hu1, hr2, hg2⟩
      have hS3 := Lib.hid (hS2.out.pick hr2 hg2)
      obtain ⟨u, rfl⟩ := Int.eq_ofNat_of_zero_le hu0
      have huN : u < N := by omega
      have hL3 := hL2.out.apart hg2 (fun b off e h0 => by have := hge b off e h0; omega)
      rcases hL3.2 with h0 | ⟨g', rfl, hc⟩
      · omega
      obtain ⟨e0, e1, e2, e3⟩ := hc u (by omega)
      obtain ⟨W', -, hI, b1, b2, b3, b4, -⟩ := hall.out _ (List.getElem_mem (show u < L.length by omega))
      have hI6 := hI.w6
      generalize L[u] = t at e0 e1 e2 e3 b1 b2 b3 b4
      obtain ⟨A, B, C, D⟩ := t
      simp only at e0 e1 e2 e3 b1 b2 b3 b4
      clear hc hL2 hL3 hL hS2 hall hr2 hg2 hI
      have y0 := hS3.out.y0
      have y1 := hS3.out.y1
      have y2 := hS3.out.y2
      have y3 := hS3.out.y3
      have yf := hS3.out.yf
      go_wp2_with fail
      refine bodyPost_ret (v := .agg #[.int .i64 A, .int .i64 B, .int .i64 C, .int .i64 D]) (by simp [results, Try.results88, go_sem, y0, y1, y2, y3]) rfl ?_
      exact hS3.out.out (by omega) (by omega)
    · skip
      go_wp2_with fail
      refine (pick_any r a len cap zs (p + 1) 3 _ hS2.out.rd (by omega) (by omega)).mono ?_
      rintro e wq0 ⟨vA, rfl, hvA0, hvA1, hr2, hg2⟩
      have hSq0 := Lib.hid (hS2.out.pick hr2 hg2)
      clear hS2 hr2 hg2
      go_wp2_with fail
      refine (pick_any r a len cap zs (p + 1 + 1) 7 _ hSq0.out.rd (by omega) (by omega)).mono ?_
      rintro e wq1 ⟨vB, rfl, hvB0, hvB1, hr2, hg2⟩
      have hSq1 := Lib.hid (hSq0.out.pick hr2 hg2)
      clear hSq0 hr2 hg2
      go_wp2_with fail
      refine (pick_any r a len cap zs (p + 1 + 1 + 1) 3 _ hSq1.out.rd (by omega) (by omega)).mono ?_
      rintro e wq2 ⟨vC, rfl, hvC0, hvC1, hr2, hg2⟩
      have hSq2 := Lib.hid (hSq1.out.pick hr2 hg2)
      clear hSq1 hr2 hg2
      go_wp2_with fail
      refine (pick_any r a len cap zs (p + 1 + 1 + 1 + 1) 7 _ hSq2.out.rd (by omega) (by omega)).mono ?_
      rintro e wq3 ⟨vD, rfl, hvD0, hvD1, hr2, hg2⟩
      have hSq3 := Lib.hid (hSq2.out.pick hr2 hg2)
      clear hSq2 hr2 hg2
      have y0 := hSq3.out.y0
      have y1 := hSq3.out.y1
      have y2 := hSq3.out.y2
      have y3 := hSq3.out.y3
      have yf := hSq3.out.yf
      go_wp2_with fail
      refine bodyPost_ret (v := .agg #[.int .i64 vA, .int .i64 vB, .int .i64 vC, .int .i64 vD]) (by simp [results, Try.results88, go_sem, y0, y1, y2, y3]) rfl ?_
      exact hSq3.out.out (by omega) (by omega)
end Go.Proofs.Yteejopkimlkhoaa

