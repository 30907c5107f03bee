/-
  What stands in the middle of a law on a function that gives an image: the boxes of the four images, their rows.
-/
import Derived.Test.YteadibgjieimkaaI
namespace Go.Proofs.Yteadibgjieimkaa
set_option maxRecDepth 100000
open Go.RowKit

theorem own_lt {w : World} {B g len cap : Nat} {xs : List Int} (h : OwnI w B (some ⟨g, 0, none⟩) len cap xs) : g < w.heap.size := by
  rcases h.cases with ⟨e, _⟩ | ⟨g', e, _, h3⟩
  · cases e
  · simp only [Option.some.injEq, Addr.mk.injEq, and_true] at e; omega
theorem row_lt {w : World} {a : Option Addr} {len : Nat} {xs : List Int} (h : Row w a len xs) : ∀ b off, a = some ⟨b, off, none⟩ → 0 < len → b < w.heap.size := by
  intro b off e hl
  obtain ⟨b', off', e', hc⟩ := row_at h hl
  rw [e] at e'
  simp only [Option.some.injEq, Addr.mk.injEq, and_true] at e'
  obtain ⟨rfl, rfl⟩ := e'
  exact block_lt hc
def rowOf : Option Addr → Option Nat
  | some a => some a.block
  | none => none

structure St (w W' : World) (h0 hw hx hg : Nat) (Wa : Int) (a : Option Addr) (len cap : Nat) (xs : List Int) (R : Out) (aw : Option Addr) (cw : Nat) (BX gx : Nat) (xc : List Int) (BG : Nat) (ag : Option Addr) (cg : Nat) (gc : List Int) : Prop where
  a0 : W'.cell? ⟨h0, 0, none⟩ = some (.int .i64 Wa)
  a1 : W'.cell? ⟨h0, 1, none⟩ = some (.slice a len cap)
  w0 : W'.cell? ⟨hw, 0, none⟩ = some (.int .i64 R.W)
  w1 : W'.cell? ⟨hw, 1, none⟩ = some (.slice aw R.xs.length cw)
  x0 : W'.cell? ⟨hx, 0, none⟩ = some (.int .i64 Wa)
  x1 : W'.cell? ⟨hx, 1, none⟩ = some (.slice (some ⟨gx, 0, none⟩) len len)
  g0 : W'.cell? ⟨hg, 0, none⟩ = some (.int .i64 R.W)
  g1 : W'.cell? ⟨hg, 1, none⟩ = some (.slice ag R.xs.length cg)
  ra : Row W' a len xs
  rw : Row W' aw R.xs.length R.xs
  ox : OwnI W' BX (some ⟨gx, 0, none⟩) len len xc
  og : OwnI W' BG ag R.xs.length cg gc
  bel : Below w.heap.size w W'
  fa : ∀ b off, a = some ⟨b, off, none⟩ → 0 < len → b < BX
  fw : ∀ b off, aw = some ⟨b, off, none⟩ → 0 < R.xs.length → b < BX
  n1 : BX ≤ gx ∧ gx < BG ∧ w.heap.size ≤ BX
  n2 : h0 < BX ∧ hw < BX ∧ hx ≠ gx ∧ hg ≠ gx ∧ hx < BG ∧ ∀ g, ag = some ⟨g, 0, none⟩ → hg ≠ g

theorem St.move {w W' W'' : World} {h0 hw hx hg : Nat} {Wa : Int} {a : Option Addr} {len cap : Nat} {xs : List Int} {R : Out} {aw : Option Addr} {cw BX gx : Nat} {xc : List Int} {BG : Nat} {ag : Option Addr} {cg : Nat} {gc : List Int}
    (S : St w W' h0 hw hx hg Wa a len cap xs R aw cw BX gx xc BG ag cg gc) (hb : Below W'.heap.size W' W'') : St w W'' h0 hw hx hg Wa a len cap xs R aw cw BX gx xc BG ag cg gc :=
  ⟨kept hb (block_lt S.a0) S.a0, kept hb (block_lt S.a1) S.a1, kept hb (block_lt S.w0) S.w0, kept hb (block_lt S.w1) S.w1, kept hb (block_lt S.x0) S.x0, kept hb (block_lt S.x1) S.x1, kept hb (block_lt S.g0) S.g0, kept hb (block_lt S.g1) S.g1,
    S.ra.bel hb, S.rw.bel hb, S.ox.bel hb, S.og.bel hb, S.bel.trans (hb.mono S.bel.size), S.fa, S.fw, S.n1, S.n2⟩

theorem Row.apart {W0 wr : World} {a : Option Addr} {len : Nat} {xs : List Int} {row : Option Nat} (h : Row W0 a len xs) (hg : W0.grownBy wr row) (hn : ∀ b off, a = some ⟨b, off, none⟩ → 0 < len → some b ≠ row) : Row wr a len xs := by
  obtain ⟨h1, h2⟩ := h
  refine ⟨h1, ?_⟩
  rcases h2 with h2 | ⟨b, off, rfl, hc⟩
  · exact .inl h2
  · by_cases h0 : len = 0
    · exact .inl h0
    · exact .inr ⟨b, off, rfl, fun i hi => hg.cell (hc i hi) (hn b off rfl (by omega))⟩

theorem St.markx {w W' W'' : World} {h0 hw hx hg : Nat} {Wa : Int} {a : Option Addr} {len cap : Nat} {xs : List Int} {R : Out} {aw : Option Addr} {cw BX gx : Nat} {xc ys : List Int} {BG : Nat} {ag : Option Addr} {cg : Nat} {gc : List Int}
    (S : St w W' h0 hw hx hg Wa a len cap xs R aw cw BX gx xc BG ag cg gc) (h : W'.grownBy W'' (some gx)) (ho : OwnI W'' BX (some ⟨gx, 0, none⟩) len len ys) : St w W'' h0 hw hx hg Wa a len cap xs R aw cw BX gx ys BG ag cg gc := by
  have n1 := S.n1
  have n2 := S.n2
  refine ⟨h.cell S.a0 (by simp; omega), h.cell S.a1 (by simp; omega), h.cell S.w0 (by simp; omega), h.cell S.w1 (by simp; omega), h.cell S.x0 (by simp; omega), h.cell S.x1 (by simp; omega), h.cell S.g0 (by simp; omega), h.cell S.g1 (by simp; omega),
    S.ra.apart h (fun b off e hl => by have := S.fa b off e hl; simp; omega), S.rw.apart h (fun b off e hl => by have := S.fw b off e hl; simp; omega), ho, S.og.other h n1.2.1,
    S.bel.trans ((grown_below h).mono (by have := S.bel.size; omega)), S.fa, S.fw, S.n1, S.n2⟩

theorem rowOf_own {w : World} {B : Nat} {a : Option Addr} {len cap : Nat} {xs : List Int} (h : OwnI w B a len cap xs) : ∀ k, some k = rowOf a → a = some ⟨k, 0, none⟩ ∧ B ≤ k := by
  intro k hk
  rcases h.cases with ⟨rfl, _⟩ | ⟨g, rfl, h2, _⟩
  · cases hk
  · simp only [rowOf, Option.some.injEq] at hk; subst hk; exact ⟨rfl, h2⟩

theorem St.markg {w W' W'' : World} {h0 hw hx hg : Nat} {Wa : Int} {a : Option Addr} {len cap : Nat} {xs : List Int} {R : Out} {aw : Option Addr} {cw BX gx : Nat} {xc ys : List Int} {BG : Nat} {ag : Option Addr} {cg : Nat} {gc : List Int}
    (S : St w W' h0 hw hx hg Wa a len cap xs R aw cw BX gx xc BG ag cg gc) (h : W'.grownBy W'' (rowOf ag)) (ho : OwnI W'' BG ag R.xs.length cg ys) : St w W'' h0 hw hx hg Wa a len cap xs R aw cw BX gx xc BG ag cg ys := by
  have n1 := S.n1
  have n2 := S.n2
  have hr := rowOf_own S.og
  have ne : ∀ k, k < BG → some k ≠ rowOf ag := fun k hk e => by have := (hr k e).2; omega
  have nh : some hg ≠ rowOf ag := fun e => n2.2.2.2.2.2 hg (hr hg e).1 rfl
  have hB : Below BX W' W'' := ⟨h.os, h.tape, h.output, h.size, fun k hk => by
    by_cases e : k < W'.heap.size
    · exact h.block k e (ne k (by omega))
    · exact absurd (S.ox.cases) (by rintro (⟨e1, _⟩ | ⟨g', e1, _, e2⟩)
                                    · cases e1
                                    · simp only [Option.some.injEq, Addr.mk.injEq, and_true] at e1; omega)⟩
  refine ⟨h.cell S.a0 (ne h0 (by omega)), h.cell S.a1 (ne h0 (by omega)), h.cell S.w0 (ne hw (by omega)), h.cell S.w1 (ne hw (by omega)), h.cell S.x0 (ne hx (by omega)), h.cell S.x1 (ne hx (by omega)), h.cell S.g0 nh, h.cell S.g1 nh,
    S.ra.apart h (fun b off e hl => ne _ (by have := S.fa b off e hl; omega)), S.rw.apart h (fun b off e hl => ne _ (by have := S.fw b off e hl; omega)), ?_, ho,
    S.bel.trans (hB.mono n1.2.2), S.fa, S.fw, S.n1, S.n2⟩
  exact World.ownsRow.kept S.ox h (.inr (ne gx n1.2.1))
end Go.Proofs.Yteadibgjieimkaa

