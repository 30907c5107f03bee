/-
  What stands in the middle of a law on a function that gives an image: the boxes of the four images, their rows.
  What exact laws need of rows that are marked: where rows lie, and what stays when one is written.
  The contracts of the reader of codes: l6Open, pick.
  The contracts of the laws' drawing functions: a shape, a nested image, an image, one that may be wrong.
  The contracts of the laws' drawing functions: a nested image, an image, one that may be wrong.
  The contracts of the laws' drawing functions: an image, one that may be wrong.
  The contracts of the laws' drawing functions that draw one image.
  A law's middle: images in boxes of their own.
  What stays when an image is put into a box that was made before.
  A region that draws its order, whose operations read and whose callees may make memory of their own: one walk in the order of the text, in any world that is the first one but for new memory.
-/
import Derived.Test.YtemmfnlnhekclaaA
import Derived.Deep.RegionLaw
import Derived.Test.YtemmfnlnhekclaaHc
import Derived.Deep.DeepCutAuto
import Derived.Deep.QuietTactic
import Derived.BigQuiet

namespace Go.Proofs.Ytemmfnlnhekclaa
set_option maxRecDepth 100000
open Go.RowKit

theorem own_lt {w : World} {B g len cap : Nat} {xs : List Int} (h : OwnI w B (some ⟨g, 0, none⟩) len cap xs) : g < w.heap.size := by
  rcases h.cases with ⟨e, _⟩ | ⟨g', e, _, h3⟩
  · cases e
  · simp only [Option.some.injEq, Addr.mk.injEq, and_true] at e; omega
theorem row_lt {w : World} {a : Option Addr} {len : Nat} {xs : List Int} (h : Row w a len xs) : ∀ b off, a = some ⟨b, off, none⟩ → 0 < len → b < w.heap.size := by
  intro b off e hl
  obtain ⟨b', off', e', hc⟩ := row_at h hl
  rw [e] at e'
  simp only [Option.some.injEq, Addr.mk.injEq, and_true] at e'
  obtain ⟨rfl, rfl⟩ := e'
  exact block_lt hc
def rowOf : Option Addr → Option Nat
  | some a => some a.block
  | none => none

set_option maxHeartbeats 400000 in
theorem markImage_own (B : Nat) (W : Int) (a : Option Addr) (len cap : Nat) (xs : List Int) (k : Int) (w : World) (h : OwnI w B a len cap xs) (hm : len ≤ 1048576) (h0 : 0 ≤ k) (h1 : k ≤ 4194304) :
    Calls Try.prog 48 #[.agg #[.int .i64 W, .slice a len cap], .int .i64 k] w fun e w' => e = .returned (.int .i64 (k + len)) ∧ w.grownBy w' (rowOf a) ∧ OwnI w' B a len cap (marks k len) := by
  rcases h.cases with ⟨rfl, rfl, rfl⟩ | ⟨g, rfl, _, _⟩
  · go_enter Try.func48, Try.ntmps48
    go_wp2_with fail
    go_in
    go_wp2_with fail
    refine wp_loop_rounds 1 ?_
    rw [rounds_succ]
    go_wp2_with fail
    go_ret
    exact ⟨by simp, below_grown ((Below.refl _ _).alloc (Nat.le_refl _) _) _, own_nil _ _⟩
  · exact (markImage_any B W g len cap xs k w h hm h0 h1).mono fun _ _ hh => hh

structure St (w W' : World) (h0 hw hx hg : Nat) (Wa : Int) (a : Option Addr) (len cap : Nat) (xs : List Int) (R : Out) (aw : Option Addr) (cw : Nat) (BX gx : Nat) (xc : List Int) (BG : Nat) (ag : Option Addr) (cg : Nat) (gc : List Int) : Prop where
  a0 : W'.cell? ⟨h0, 0, none⟩ = some (.int .i64 Wa)
  a1 : W'.cell? ⟨h0, 1, none⟩ = some (.slice a len cap)
  w0 : W'.cell? ⟨hw, 0, none⟩ = some (.int .i64 R.W)
  w1 : W'.cell? ⟨hw, 1, none⟩ = some (.slice aw R.xs.length cw)
  x0 : W'.cell? ⟨hx, 0, none⟩ = some (.int .i64 Wa)
  x1 : W'.cell? ⟨hx, 1, none⟩ = some (.slice (some ⟨gx, 0, none⟩) len len)
  g0 : W'.cell? ⟨hg, 0, none⟩ = some (.int .i64 R.W)
  g1 : W'.cell? ⟨hg, 1, none⟩ = some (.slice ag R.xs.length cg)
  ra : Row W' a len xs
  rw : Row W' aw R.xs.length R.xs
  ox : OwnI W' BX (some ⟨gx, 0, none⟩) len len xc
  og : OwnI W' BG ag R.xs.length cg gc
  bel : Below w.heap.size w W'
  fa : ∀ b off, a = some ⟨b, off, none⟩ → 0 < len → b < BX
  fw : ∀ b off, aw = some ⟨b, off, none⟩ → 0 < R.xs.length → b < BX
  n1 : BX ≤ gx ∧ gx < BG ∧ w.heap.size ≤ BX
  n2 : h0 < BX ∧ hw < BX ∧ hx ≠ gx ∧ hg ≠ gx ∧ hx < BG ∧ ∀ g, ag = some ⟨g, 0, none⟩ → hg ≠ g

theorem St.move {w W' W'' : World} {h0 hw hx hg : Nat} {Wa : Int} {a : Option Addr} {len cap : Nat} {xs : List Int} {R : Out} {aw : Option Addr} {cw BX gx : Nat} {xc : List Int} {BG : Nat} {ag : Option Addr} {cg : Nat} {gc : List Int}
    (S : St w W' h0 hw hx hg Wa a len cap xs R aw cw BX gx xc BG ag cg gc) (hb : Below W'.heap.size W' W'') : St w W'' h0 hw hx hg Wa a len cap xs R aw cw BX gx xc BG ag cg gc :=
  ⟨kept hb (block_lt S.a0) S.a0, kept hb (block_lt S.a1) S.a1, kept hb (block_lt S.w0) S.w0, kept hb (block_lt S.w1) S.w1, kept hb (block_lt S.x0) S.x0, kept hb (block_lt S.x1) S.x1, kept hb (block_lt S.g0) S.g0, kept hb (block_lt S.g1) S.g1,
    S.ra.bel hb, S.rw.bel hb, S.ox.bel hb, S.og.bel hb, S.bel.trans (hb.mono S.bel.size), S.fa, S.fw, S.n1, S.n2⟩

theorem Row.apart {W0 wr : World} {a : Option Addr} {len : Nat} {xs : List Int} {row : Option Nat} (h : Row W0 a len xs) (hg : W0.grownBy wr row) (hn : ∀ b off, a = some ⟨b, off, none⟩ → 0 < len → some b ≠ row) : Row wr a len xs := by
  obtain ⟨h1, h2⟩ := h
  refine ⟨h1, ?_⟩
  rcases h2 with h2 | ⟨b, off, rfl, hc⟩
  · exact .inl h2
  · by_cases h0 : len = 0
    · exact .inl h0
    · exact .inr ⟨b, off, rfl, fun i hi => hg.cell (hc i hi) (hn b off rfl (by omega))⟩

theorem St.markx {w W' W'' : World} {h0 hw hx hg : Nat} {Wa : Int} {a : Option Addr} {len cap : Nat} {xs : List Int} {R : Out} {aw : Option Addr} {cw BX gx : Nat} {xc ys : List Int} {BG : Nat} {ag : Option Addr} {cg : Nat} {gc : List Int}
    (S : St w W' h0 hw hx hg Wa a len cap xs R aw cw BX gx xc BG ag cg gc) (h : W'.grownBy W'' (some gx)) (ho : OwnI W'' BX (some ⟨gx, 0, none⟩) len len ys) : St w W'' h0 hw hx hg Wa a len cap xs R aw cw BX gx ys BG ag cg gc := by
  have n1 := S.n1
  have n2 := S.n2
  refine ⟨h.cell S.a0 (by simp; omega), h.cell S.a1 (by simp; omega), h.cell S.w0 (by simp; omega), h.cell S.w1 (by simp; omega), h.cell S.x0 (by simp; omega), h.cell S.x1 (by simp; omega), h.cell S.g0 (by simp; omega), h.cell S.g1 (by simp; omega),
    S.ra.apart h (fun b off e hl => by have := S.fa b off e hl; simp; omega), S.rw.apart h (fun b off e hl => by have := S.fw b off e hl; simp; omega), ho, S.og.other h n1.2.1,
    S.bel.trans ((grown_below h).mono (by have := S.bel.size; omega)), S.fa, S.fw, S.n1, S.n2⟩

theorem rowOf_own {w : World} {B : Nat} {a : Option Addr} {len cap : Nat} {xs : List Int} (h : OwnI w B a len cap xs) : ∀ k, some k = rowOf a → a = some ⟨k, 0, none⟩ ∧ B ≤ k := by
  intro k hk
  rcases h.cases with ⟨rfl, _⟩ | ⟨g, rfl, h2, _⟩
  · cases hk
  · simp only [rowOf, Option.some.injEq] at hk; subst hk; exact ⟨rfl, h2⟩

theorem St.markg {w W' W'' : World} {h0 hw hx hg : Nat} {Wa : Int} {a : Option Addr} {len cap : Nat} {xs : List Int} {R : Out} {aw : Option Addr} {cw BX gx : Nat} {xc ys : List Int} {BG : Nat} {ag : Option Addr} {cg : Nat} {gc : List Int}
    (S : St w W' h0 hw hx hg Wa a len cap xs R aw cw BX gx xc BG ag cg gc) (h : W'.grownBy W'' (rowOf ag)) (ho : OwnI W'' BG ag R.xs.length cg ys) : St w W'' h0 hw hx hg Wa a len cap xs R aw cw BX gx xc BG ag cg ys := by
  have n1 := S.n1
  have n2 := S.n2
  have hr := rowOf_own S.og
  have ne : ∀ k, k < BG → some k ≠ rowOf ag := fun k hk e => by have := (hr k e).2; omega
  have nh : some hg ≠ rowOf ag := fun e => n2.2.2.2.2.2 hg (hr hg e).1 rfl
  have hB : Below BX W' W'' := ⟨h.os, h.tape, h.output, h.size, fun k hk => by
    by_cases e : k < W'.heap.size
    · exact h.block k e (ne k (by omega))
    · exact absurd (S.ox.cases) (by rintro (⟨e1, _⟩ | ⟨g', e1, _, e2⟩)
                                    · cases e1
                                    · simp only [Option.some.injEq, Addr.mk.injEq, and_true] at e1; omega)⟩
  refine ⟨h.cell S.a0 (ne h0 (by omega)), h.cell S.a1 (ne h0 (by omega)), h.cell S.w0 (ne hw (by omega)), h.cell S.w1 (ne hw (by omega)), h.cell S.x0 (ne hx (by omega)), h.cell S.x1 (ne hx (by omega)), h.cell S.g0 nh, h.cell S.g1 nh,
    S.ra.apart h (fun b off e hl => ne _ (by have := S.fa b off e hl; omega)), S.rw.apart h (fun b off e hl => ne _ (by have := S.fw b off e hl; omega)), ?_, ho,
    S.bel.trans (hB.mono n1.2.2), S.fa, S.fw, S.n1, S.n2⟩
  exact World.ownsRow.kept S.ox h (.inr (ne gx n1.2.1))
end Go.Proofs.Ytemmfnlnhekclaa

namespace Go.Proofs.Ytemmfnlnhekclaa
set_option maxRecDepth 100000
open Go.RowKit

theorem rng_own {w : World} {B n c : Nat} {a : Option Addr} {xs : List Int} (h : OwnI w B a n c xs) : ∀ p, a = some p → B ≤ p.block ∧ p.block < w.heap.size := by
  intro p hp
  rcases h.cases with ⟨e, _⟩ | ⟨g, e, h1, h2⟩
  · rw [e] at hp; cases hp
  · rw [e] at hp; cases hp; exact ⟨h1, h2⟩
theorem rng_row {w : World} {n : Nat} {a : Option Addr} {xs : List Int} (h : Row w a n xs) : ∀ p, a = some p → 0 < n → 0 ≤ p.block ∧ p.block < w.heap.size := by
  intro p hp hn
  obtain ⟨b, off, e, hc⟩ := row_at h hn
  rw [e] at hp; cases hp
  exact ⟨Nat.zero_le _, block_lt hc⟩
theorem ne_rowOf {a : Option Addr} {B L U : Nat} (h : ∀ p, a = some p → L ≤ p.block ∧ p.block < U) (hB : B < L ∨ U ≤ B) : some B ≠ rowOf a := by
  intro e
  cases a with
  | none => cases e
  | some p => simp only [rowOf, Option.some.injEq] at e; have := h p rfl; omega
theorem Row.apart2 {W0 wr : World} {a a' : Option Addr} {n L U L' U' : Nat} {xs : List Int} (h : Row W0 a n xs) (hg : W0.grownBy wr (rowOf a')) (hr : ∀ p, a = some p → 0 < n → L ≤ p.block ∧ p.block < U) (hr' : ∀ p, a' = some p → L' ≤ p.block ∧ p.block < U') (hs : U ≤ L' ∨ U' ≤ L) : Row wr a n xs :=
  h.apart hg fun b off e hn => ne_rowOf hr' (by have := hr ⟨b, off, none⟩ e hn; simp at this; omega)
theorem OwnI.apart2 {W0 wr : World} {a a' : Option Addr} {B n c L U L' U' : Nat} {xs : List Int} (h : OwnI W0 B a n c xs) (hg : W0.grownBy wr (rowOf a')) (hr : ∀ p, a = some p → L ≤ p.block ∧ p.block < U) (hr' : ∀ p, a' = some p → L' ≤ p.block ∧ p.block < U') (hs : U ≤ L' ∨ U' ≤ L) : OwnI wr B a n c xs := by
  refine World.ownsRow.kept h hg ?_
  rcases h.cases with ⟨rfl, _, _⟩ | ⟨g, rfl, hg, _⟩
  · left; rfl
  · right; exact ne_rowOf (B := g) hr' (by have := hr _ rfl; simp at this; omega)
theorem bel_write {w wi wj : World} {a : Option Addr} {L U : Nat} (h : Below w.heap.size w wi) (hg : wi.grownBy wj (rowOf a)) (hr : ∀ p, a = some p → L ≤ p.block ∧ p.block < U) (hL : w.heap.size ≤ L) : Below w.heap.size w wj :=
  h.trans ⟨hg.os, hg.tape, hg.output, hg.size, fun k hk => hg.block k (by have := h.size; omega) (ne_rowOf hr (by omega))⟩
theorem rng_cond {a : Option Addr} {n L U : Nat} (h : ∀ p, a = some p → L ≤ p.block ∧ p.block < U) : ∀ p, a = some p → 0 < n → L ≤ p.block ∧ p.block < U := fun p hp _ => h p hp
theorem grown_size {w w' : World} {r : Option Nat} (h : w.grownBy w' r) : w.heap.size ≤ w'.heap.size := h.size

set_option maxHeartbeats 400000 in
theorem mark_own (B : Nat) (a : Option Addr) (len cap : Nat) (xs : List Int) (k : Int) (w : World) (h : OwnI w B a len cap xs) (hm : len ≤ 1048576) (h0 : 0 ≤ k) (h1 : k ≤ 4194304) :
    Calls Try.prog 49 #[.slice a len cap, .int .i64 k] w fun e w' => e = .returned (.int .i64 (k + len)) ∧ w.grownBy w' (rowOf a) ∧ OwnI w' B a len cap (marks k len) := by
  rcases h.cases with ⟨rfl, rfl, rfl⟩ | ⟨g, rfl, _, _⟩
  · go_enter Try.func49, Try.ntmps49
    go_wp2_with fail
    refine wp_loop_rounds 1 ?_
    rw [rounds_succ]
    go_wp2_with fail
    go_ret
    exact ⟨by simp, World.grownBy.refl _ _, own_nil _ _⟩
  · exact (mark_any B g len cap xs k w h hm h0 h1).mono fun _ _ hh => hh
end Go.Proofs.Ytemmfnlnhekclaa

namespace Go.Proofs.Ytemmfnlnhekclaa
set_option maxRecDepth 100000
open Go.RowKit

/-- A slice of bytes whose elements are 'zs'. -/
def Bys (w : World) (a : Option Addr) (len : Nat) (zs : List Int) : Prop :=
  len = 0 ∨ ∃ b off, a = some ⟨b, off, none⟩ ∧ ∀ i, i < len → w.cell? ⟨b, off + i, none⟩ = some (.int .u8 (zs.getD i 0)) ∧ 0 ≤ zs.getD i 0 ∧ zs.getD i 0 ≤ 255

/-- A reader at block r: what it reads, and how far it is. -/
structure Rd (w : World) (r : Nat) (a : Option Addr) (len cap : Nat) (zs : List Int) (p : Nat) : Prop where
  c0 : w.cell? ⟨r, 0, none⟩ = some (.slice a len cap)
  c1 : w.cell? ⟨r, 1, none⟩ = some (.int .i64 p)
  fz : ∀ o, w.frozen? ⟨r, o, none⟩ = false
  small : len ≤ 2000
  bys : Bys w a len zs
  far : ∀ b off, a = some ⟨b, off, none⟩ → 0 < len → b ≠ r
theorem Bys.apart {W0 wr : World} {a : Option Addr} {len : Nat} {zs : List Int} {row : Option Nat} (h : Bys W0 a len zs) (hg : W0.grownBy wr row) (hn : ∀ b off, a = some ⟨b, off, none⟩ → 0 < len → some b ≠ row) : Bys wr a len zs := by
  rcases h with h2 | ⟨b, off, rfl, hc⟩
  · exact .inl h2
  · by_cases h0 : len = 0
    · exact .inl h0
    · exact .inr ⟨b, off, rfl, fun i hi => ⟨hg.cell (hc i hi).1 (hn b off rfl (by omega)), (hc i hi).2⟩⟩
theorem Bys.bel {W0 wr : World} {a : Option Addr} {len : Nat} {zs : List Int} (h : Bys W0 a len zs) (hb : Below W0.heap.size W0 wr) : Bys wr a len zs := h.apart (below_grown hb none) (fun _ _ _ _ => by simp)
theorem Rd.bel {W0 wr : World} {r : Nat} {a : Option Addr} {len cap : Nat} {zs : List Int} {p : Nat} (h : Rd W0 r a len cap zs p) (hb : Below W0.heap.size W0 wr) : Rd wr r a len cap zs p :=
  ⟨kept hb (block_lt h.c0) h.c0, kept hb (block_lt h.c1) h.c1, fun o => (hb.frozen (p := ⟨r, o, none⟩) (show r < _ from block_lt h.c0)).trans (h.fz o), h.small, h.bys.bel hb, h.far⟩
/-- A change elsewhere leaves a reader as it is. -/
theorem Rd.apart {W0 wr : World} {r g : Nat} {a : Option Addr} {len cap : Nat} {zs : List Int} {p : Nat} (h : Rd W0 r a len cap zs p) (hg : W0.grownBy wr (some g)) (hr : r ≠ g) (hn : ∀ b off, a = some ⟨b, off, none⟩ → 0 < len → b ≠ g) : Rd wr r a len cap zs p :=
  ⟨hg.cell h.c0 (by simpa using hr), hg.cell h.c1 (by simpa using hr), fun o => (World.frozen?_of_block (a := ⟨r, o, none⟩) (hg.block r (show r < _ from block_lt h.c0) (by simpa using hr))).trans (h.fz o), h.small, h.bys.apart hg (fun b off e hl => by have := hn b off e hl; simpa using this), h.far⟩

def Picks (w : World) (r : Nat) (a : Option Addr) (len cap : Nat) (zs : List Int) (p : Nat) (n : Int) (e : Ending) (w' : World) : Prop :=
  ∃ v, e = .returned (.int .i64 v) ∧ 0 ≤ v ∧ (v < n ∨ v = 0) ∧ Rd w' r a len cap zs (p + 1) ∧ w.grownBy w' (some r)

theorem Rd.step {w : World} {r : Nat} {a : Option Addr} {len cap : Nat} {zs : List Int} {p : Nat} (h : Rd w r a len cap zs p) : Rd (w.setCell ⟨r, 1, none⟩ (.int .i64 ((p : Int) + 1))) r a len cap zs (p + 1) ∧ w.grownBy (w.setCell ⟨r, 1, none⟩ (.int .i64 ((p : Int) + 1))) (some r) := by
  have hg : w.grownBy (w.setCell ⟨r, 1, none⟩ (.int .i64 ((p : Int) + 1))) (some r) := grown_set (World.grownBy.refl _ _)
  refine ⟨⟨?_, World.cell?_setCell_same _ _ _ h.c1, fun o => ?_, h.small, h.bys.apart hg (fun b off e hl => by have := h.far b off e hl; simpa using this), h.far⟩, hg⟩
  · rw [World.cell?_setCell_other _ _ _ _ (by simp)]; exact h.c0
  · rw [World.frozen?_setCell]; exact h.fz o

theorem xor_i64 (a b : Nat) (ha : a < 2147483648) (hb : b < 2147483648) : bits .xor .i64 (a : Int) (b : Int) = ((a ^^^ b : Nat) : Int) := by
  have hx : a ^^^ b < 2 ^ 31 := Nat.xor_lt_two_pow (by omega) (by omega)
  have h1 : (BitVec.ofInt 64 (a : Int)).toNat = a := by
    rw [BitVec.ofInt_natCast, BitVec.toNat_ofNat]; exact Nat.mod_eq_of_lt (by omega)
  have h2 : (BitVec.ofInt 64 (b : Int)).toNat = b := by
    rw [BitVec.ofInt_natCast, BitVec.toNat_ofNat]; exact Nat.mod_eq_of_lt (by omega)
  show IntKind.i64.wrap ((BitVec.ofInt 64 (a : Int) ^^^ BitVec.ofInt 64 (b : Int)).toNat : Int) = _
  rw [BitVec.toNat_xor, h1, h2, IntKind.wrap_i64]
  omega
theorem xor_pos {h : Int} (h0 : 0 ≤ h) (h1 : h ≤ 1000000000) : 0 ≤ bits .xor .i64 h (h / 64) := by
  obtain ⟨n, rfl⟩ := Int.eq_ofNat_of_zero_le h0
  have e : ((n : Int) / 64) = ((n / 64 : Nat) : Int) := by omega
  rw [e, xor_i64 n (n / 64) (by omega) (by omega)]
  exact Int.natCast_nonneg _

/-- What pick answers. -/
def pickV (zs : List Int) (len p : Nat) (n : Int) : Int :=
  if n < 1 then 0 else if len = 0 then 0 else if p < len then zs.getD p 0 % n else
    (bits BinOp.xor IntKind.i64 (zs.getD (p % len) 0 * 131 + zs.getD ((p * 7 + 3) % len) 0 * 1117 + (p : Int) * 29 + ((p / len : Nat) : Int) * 53) ((zs.getD (p % len) 0 * 131 + zs.getD ((p * 7 + 3) % len) 0 * 1117 + (p : Int) * 29 + ((p / len : Nat) : Int) * 53) / 64)).tmod n
def PickF (w : World) (r : Nat) (a : Option Addr) (len cap : Nat) (zs : List Int) (p : Nat) (n v : Int) (e : Ending) (w' : World) : Prop :=
  e = .returned (.int .i64 v) ∧ 0 ≤ v ∧ (v < n ∨ v = 0) ∧ Rd w' r a len cap zs (p + 1) ∧ w.grownBy w' (some r)

set_option maxHeartbeats 800000 in
theorem pick_fn (r : Nat) (a : Option Addr) (len cap : Nat) (zs : List Int) (p : Nat) (n : Int) (w : World) (h : Rd w r a len cap zs p) (hp : p ≤ 100000) (hn : n ≤ 1000000) :
    Calls Try.prog 52 #[.pointer (some ⟨r, 0, none⟩), .int .i64 n] w (PickF w r a len cap zs p n (pickV zs len p n)) := by
  have c0 := h.c0
  have c1 := h.c1
  have fz := h.fz
  have hs := Lib.hid h.step
  have small := h.small
  have hby := Lib.hid h.bys
  have hfar := Lib.hid h.far
  clear h
  by_cases h1 : n < 1
  · rw [show pickV zs len p n = 0 from if_pos h1]
    go_enter Try.func52, Try.ntmps52
    go_wp2
    go_ret
    exact ⟨rfl, by omega, by omega, hs.out.1, hs.out.2⟩
  by_cases h2 : len = 0
  · rw [show pickV zs len p n = 0 by unfold pickV; rw [if_neg h1, if_pos h2]]
    subst h2
    go_enter Try.func52, Try.ntmps52
    go_wp2
    go_ret
    exact ⟨rfl, by omega, by omega, hs.out.1, hs.out.2⟩
  have h2' : ((len : Int) == 0) = false := by simp; omega
  rcases hby.out with h0 | ⟨b, off, rfl, hc⟩
  · exact absurd h0 h2
  have hbr := hfar.out b off rfl (by omega)
  by_cases h3 : p < len
  · rw [show pickV zs len p n = zs.getD p 0 % n by unfold pickV; rw [if_neg h1, if_neg h2, if_pos h3]]
    obtain ⟨hx, hx0, hx1⟩ := hc p h3
    have hx' : (w.setCell ⟨r, 1, none⟩ (.int .i64 ((p : Int) + 1))).cell? ⟨b, off + p, none⟩ = some (.int .u8 (zs.getD p 0)) := by rw [World.cell?_setCell_other _ _ _ _ (by first | (simp; done) | (simp; omega))]; exact hx
    generalize zs.getD p 0 = x at hx hx' hx0 hx1 ⊢
    have hw : IntKind.i64.wrap x = x := IntWalk.i64_in _ ⟨by omega, by omega⟩
    have hw2 : wrap64 x = x := IntWalk.wrap64_in _ ⟨by omega, by omega⟩
    clear hc
    go_enter Try.func52, Try.ntmps52
    go_wp2
    go_ret
    exact ⟨rfl, Int.emod_nonneg _ (by omega), .inl (Int.emod_lt_of_pos _ (by omega)), hs.out.1, hs.out.2⟩
  rw [show pickV zs len p n = _ by unfold pickV; rw [if_neg h1, if_neg h2, if_neg h3]]
  obtain ⟨hx, hx0, hx1⟩ := hc (p % len) (Nat.mod_lt _ (by omega))
  obtain ⟨hy, hy0, hy1⟩ := hc ((p * 7 + 3) % len) (Nat.mod_lt _ (by omega))
  have hx' : (w.setCell ⟨r, 1, none⟩ (.int .i64 ((p : Int) + 1))).cell? ⟨b, off + p % len, none⟩ = some (.int .u8 (zs.getD (p % len) 0)) := by rw [World.cell?_setCell_other _ _ _ _ (by first | (simp; done) | (simp; omega))]; exact hx
  have hy' : (w.setCell ⟨r, 1, none⟩ (.int .i64 ((p : Int) + 1))).cell? ⟨b, off + (p * 7 + 3) % len, none⟩ = some (.int .u8 (zs.getD ((p * 7 + 3) % len) 0)) := by rw [World.cell?_setCell_other _ _ _ _ (by first | (simp; done) | (simp; omega))]; exact hy
  generalize zs.getD (p % len) 0 = x at hx hx' hx0 hx1 ⊢
  generalize zs.getD ((p * 7 + 3) % len) 0 = y at hy hy' hy0 hy1 ⊢
  obtain ⟨W1, hW1⟩ : ∃ W1, w.setCell ⟨r, 1, none⟩ (.int .i64 ((p : Int) + 1)) = W1 := ⟨_, rfl⟩
  have k0 := hs.out.1.c0
  have k1 := hs.out.1.c1
  rw [show ((p + 1 : Nat) : Int) = (p : Int) + 1 by omega] at k1
  rw [hW1] at hx' hy' k0 k1
  have hs1 := hs.out.1
  have hs2 := hs.out.2
  rw [hW1] at hs1 hs2
  have t1 : (p : Int).tmod (len : Int) = ((p % len : Nat) : Int) := by rw [Int.tmod_eq_emod_of_nonneg (by omega)]; rfl
  have t2 : ((p : Int) * 7 + 3).tmod (len : Int) = (((p * 7 + 3) % len : Nat) : Int) := by rw [Int.tmod_eq_emod_of_nonneg (by omega)]; rfl
  have t3 : (p : Int).tdiv (len : Int) = ((p / len : Nat) : Int) := by rw [Int.tdiv_eq_ediv_of_nonneg (by omega)]; rfl
  have hq : p / len ≤ p := Nat.div_le_self _ _
  clear hc hx hy
  obtain ⟨W2, hW2⟩ : ∃ W2, W1.drew = W2 := ⟨_, rfl⟩
  have hs1' : Rd W2 r (some ⟨b, off, none⟩) len cap zs (p + 1) := by rw [← hW2]; exact hs1.bel ((Below.refl _ _).drew)
  have hs2' : w.grownBy W2 (some r) := by rw [← hW2]; exact ⟨hs2.os, hs2.tape, hs2.output, hs2.size, hs2.block⟩
  have hs1 := Lib.hid hs1'
  have hs2 := Lib.hid hs2'
  clear hs1' hs2' hs
  have j0 : W2.cell? ⟨r, 0, none⟩ = some (.slice (some ⟨b, off, none⟩) len cap) := by rw [← hW2]; exact k0
  have jx : W2.cell? ⟨b, off + p % len, none⟩ = some (.int .u8 x) := by rw [← hW2]; exact hx'
  have jy : W2.cell? ⟨b, off + (p * 7 + 3) % len, none⟩ = some (.int .u8 y) := by rw [← hW2]; exact hy'
  have i1 : p % len < len := Nat.mod_lt _ (by omega)
  have i2 : (p * 7 + 3) % len < len := Nat.mod_lt _ (by omega)
  have i3 : ((p % len : Nat) : Int) < (len : Int) := by omega
  have i4 : (((p * 7 + 3) % len : Nat) : Int) < (len : Int) := by omega
  have i5 : (0 : Int) ≤ ((p % len : Nat) : Int) := Int.natCast_nonneg _
  have i6 : (0 : Int) ≤ (((p * 7 + 3) % len : Nat) : Int) := Int.natCast_nonneg _
  have l0 : ((len : Int) == 0) = false := h2'
  generalize p % len = u at *
  generalize (p * 7 + 3) % len = v at *
  generalize p / len = d at *
  have s1 : IntKind.i64.wrap ((p : Int) * 7) = (p : Int) * 7 := IntWalk.i64_in _ ⟨by omega, by omega⟩
  have s2 : IntKind.i64.wrap ((p : Int) * 7 + 3) = (p : Int) * 7 + 3 := IntWalk.i64_in _ ⟨by omega, by omega⟩
  have s3 : IntKind.i64.wrap x = x := IntWalk.i64_in _ ⟨by omega, by omega⟩
  have s4 : IntKind.i64.wrap y = y := IntWalk.i64_in _ ⟨by omega, by omega⟩
  have s5 : IntKind.i64.wrap (x * 131) = x * 131 := IntWalk.i64_in _ ⟨by omega, by omega⟩
  have s6 : IntKind.i64.wrap (y * 1117) = y * 1117 := IntWalk.i64_in _ ⟨by omega, by omega⟩
  have s7 : IntKind.i64.wrap (x * 131 + y * 1117) = x * 131 + y * 1117 := IntWalk.i64_in _ ⟨by omega, by omega⟩
  have s8 : IntKind.i64.wrap ((p : Int) * 29) = (p : Int) * 29 := IntWalk.i64_in _ ⟨by omega, by omega⟩
  have s9 : IntKind.i64.wrap (x * 131 + y * 1117 + (p : Int) * 29) = x * 131 + y * 1117 + (p : Int) * 29 := IntWalk.i64_in _ ⟨by omega, by omega⟩
  have s10 : IntKind.i64.wrap (d : Int) = (d : Int) := IntWalk.i64_in _ ⟨by omega, by omega⟩
  have s11 : IntKind.i64.wrap ((d : Int) * 53) = (d : Int) * 53 := IntWalk.i64_in _ ⟨by omega, by omega⟩
  have s12 : IntKind.i64.wrap (x * 131 + y * 1117 + (p : Int) * 29 + (d : Int) * 53) = x * 131 + y * 1117 + (p : Int) * 29 + (d : Int) * 53 := IntWalk.i64_in _ ⟨by omega, by omega⟩
  have b1 : 0 ≤ x * 131 + y * 1117 + (p : Int) * 29 + (d : Int) * 53 := by omega
  have b2 : x * 131 + y * 1117 + (p : Int) * 29 + (d : Int) * 53 ≤ 1000000000 := by omega
  obtain ⟨hh, hhe⟩ : ∃ hh, x * 131 + y * 1117 + (p : Int) * 29 + (d : Int) * 53 = hh := ⟨_, rfl⟩
  rw [hhe] at b1 b2 ⊢
  have hhe' := Lib.hid hhe
  clear hhe
  have lpos : ¬ ((len : Int) < 0) := by omega
  have lp2 : (1 : Int) ≤ (len : Int) := by omega
  go_enter Try.func52, Try.ntmps52
  go_wp2_with fail
  refine region_tail 45 (by kernel_rfl) (by kernel_rfl) W2 hW2 ?_
  simp only [List.take_succ_cons, List.take_zero, List.drop_succ_cons, List.drop_zero]
  clear hW2
  repeat still_step
  refine wpStill_nil ?_
  rw [hhe'.out]
  clear s1 s2 s3 s4 s5 s6 s7 s8 s9 s10 s11 s12 t1 t2 t3
  go_wp2
  go_ret
  have hxp := xor_pos b1 b2
  refine ⟨rfl, ?_, .inl ?_, hs1.out, hs2.out⟩
  · rw [Int.tmod_eq_emod_of_nonneg hxp]; exact Int.emod_nonneg _ (by omega)
  · rw [Int.tmod_eq_emod_of_nonneg hxp]; exact Int.emod_lt_of_pos _ (by omega)

theorem pick_any (r : Nat) (a : Option Addr) (len cap : Nat) (zs : List Int) (p : Nat) (n : Int) (w : World) (h : Rd w r a len cap zs p) (hp : p ≤ 100000) (hn : n ≤ 1000000) :
    Calls Try.prog 52 #[.pointer (some ⟨r, 0, none⟩), .int .i64 n] w (Picks w r a len cap zs p n) :=
  (pick_fn r a len cap zs p n w h hp hn).mono fun _ _ hh => ⟨_, hh⟩

/-- What l6Open leaves. -/
def Opens (w : World) (zs : List Int) (e : Ending) (w' : World) : Prop :=
  ∃ a len cap, e = .returned (.pointer (some ⟨w.heap.size, 0, none⟩)) ∧ Rd w' w.heap.size a len cap zs 0 ∧ Below w.heap.size w w'
set_option maxHeartbeats 400000 in
theorem open_any (a : Option Addr) (len cap : Nat) (zs : List Int) (w : World) (h : Bys w a len zs) (hl : len ≤ cap) (hm : cap ≤ 9223372036854775807) :
    Calls Try.prog 51 #[.slice a len cap] w (Opens w zs) := by
  have hb := Lib.hid h
  have hlt : ∀ b off, a = some ⟨b, off, none⟩ → 0 < len → b < w.heap.size := by
    intro b off e hl
    rcases h with h0 | ⟨b', off', e', hc⟩
    · omega
    · rw [e] at e'
      simp only [Option.some.injEq, Addr.mk.injEq, and_true] at e'
      obtain ⟨rfl, rfl⟩ := e'
      exact block_lt (hc 0 hl).1
  have hlt := Lib.hid hlt
  clear h
  by_cases hbig : 2000 < len
  · rcases hb.out with h0 | ⟨b, off, rfl, hc⟩
    · omega
    have hlt := hlt.out b off rfl (by omega)
    have hc := Lib.hid hc
    go_enter Try.func51, Try.ntmps51
    go_wp2
    go_ret
    refine ⟨some ⟨b, off, none⟩, 2000, cap, rfl, ⟨by simp, by simp, fun o => by simp, by omega, .inr ⟨b, off, rfl, fun i hi => ⟨by rw [World.cell?_alloc_lt _ _ _ (show b < _ from hlt)]; exact (hc.out i (by omega)).1, (hc.out i (by omega)).2⟩⟩, fun b' off' e _ => by simp at e; omega⟩, (Below.refl _ _).alloc (Nat.le_refl _) _⟩
  · go_enter Try.func51, Try.ntmps51
    go_wp2
    go_ret
    refine ⟨a, len, cap, rfl, ⟨by simp, by simp, fun o => by simp, by omega, hb.out.bel ((Below.refl _ _).alloc (Nat.le_refl _) _), fun b' off' e hl => by have := hlt.out b' off' e hl; omega⟩, (Below.refl _ _).alloc (Nat.le_refl _) _⟩
end Go.Proofs.Ytemmfnlnhekclaa

namespace Go.Proofs.Ytemmfnlnhekclaa
set_option maxRecDepth 100000
open Go.RowKit

theorem cntk_nat : ∀ k, k < 8 → ∀ n, n < 64 → (((n : Nat) : Int) / pw k ≤ 0 → cntI ((n : Nat) : Int) k = cntI ((n : Nat) : Int) 6) ∧ (0 < ((n : Nat) : Int) / pw k → k < 6) ∧ ((n : Nat) : Int) / pw k / 2 = ((n : Nat) : Int) / pw (k + 1) := by decide +kernel

set_option maxHeartbeats 400000 in
theorem count_any (x : Int) (w : World) (h0 : 0 ≤ x) (h1 : x ≤ 63) :
    Calls Try.prog 98 #[.int .i64 x] w fun e w' => e = .returned (.int .i64 (cntI x 6)) ∧ w = w' := by
  obtain ⟨x, rfl⟩ := Int.eq_ofNat_of_zero_le h0
  have hall : Hid (∀ k, k < 8 → _) := fun k hk => cntk_nat k hk x (by omega)
  have H := Lib.hid hall
  clear hall
  go_enter Try.func98, Try.ntmps98
  go_wp2
  go_loop [3, 0] (fun o i => ∃ k : Nat, k ≤ 6 ∧ i = .int .i64 ((x : Int) / pw k) ∧ o = .int .i64 (cntI x k)) (fun _ i => (intOf i).toNat)
  case atStart => exact ⟨0, by omega, by simp [pw], rfl⟩
  case round =>
    obtain ⟨k, hk, rfl, rfl⟩ := hrel
    have hh := H.out.out k (by omega)
    have hc := cnt_bd x k
    have hy : 0 ≤ (x : Int) / pw k ∧ (x : Int) / pw k ≤ 63 := ⟨Int.ediv_nonneg (by omega) (by have := pw_pos k; omega), Int.le_trans (Int.ediv_le_self _ (by omega)) (by omega)⟩
    have hb := bit_01 x k
    have hbit : (x : Int) / pw k % 2 = bitI x k := rfl
    generalize (x : Int) / pw k = y at *
    by_cases hlt : 0 < y
    · have hk6 := hh.2.1 hlt
      have t1 : y.tmod 2 = bitI x k := by rw [Int.tmod_eq_emod_of_nonneg hy.1]; exact hbit
      have t2 : y.tdiv 2 = (x : Int) / pw (k + 1) := by rw [Int.tdiv_eq_ediv_of_nonneg hy.1]; exact hh.2.2
      have hz : y / 2 = (x : Int) / pw (k + 1) := hh.2.2
      clear hh hbit
      go_wp2
      go_round
      case rel => exact ⟨k + 1, by omega, by first | rfl | rw [hz], rfl⟩
      case measure => simp [intOf]; omega
    · have e := hh.1 (by omega)
      clear hh hbit
      go_wp2
      go_ret
      exact ⟨rfl, rfl⟩

theorem Rd.src {w : World} {r : Nat} {a : Option Addr} {len cap : Nat} {zs : List Int} {p : Nat} (h : Rd w r a len cap zs p) : ∀ b off, a = some ⟨b, off, none⟩ → 0 < len → b < w.heap.size := by
  intro b off e hl
  rcases h.bys with h0 | ⟨b', off', e', hc⟩
  · omega
  · rw [e] at e'
    simp only [Option.some.injEq, Addr.mk.injEq, and_true] at e'
    obtain ⟨rfl, rfl⟩ := e'
    exact block_lt (hc 0 hl).1
def Draws (w : World) (r : Nat) (a : Option Addr) (len cap : Nat) (zs : List Int) (p m : Nat) (e : Ending) (w' : World) : Prop :=
  ∃ (W n : Nat) (xs : List Int) (g cg p' : Nat), e = .returned (.agg #[.int .i64 W, .slice (some ⟨g, 0, none⟩) n cg]) ∧ OwnI w' w.heap.size (some ⟨g, 0, none⟩) n cg xs ∧ Im W n xs ∧ Rd w' r a len cap zs p' ∧ p' ≤ p + m ∧ w.grownBy w' (some r)

theorem frozen_grown {wr w1 : World} {r b : Nat} {o : Nat} {v : Value} (hg : wr.grownBy w1 (some r)) (hc : wr.cell? ⟨b, 0, none⟩ = some v) (hn : b ≠ r) : w1.frozen? ⟨b, o, none⟩ = wr.frozen? ⟨b, o, none⟩ :=
  World.frozen?_of_block (a := ⟨b, o, none⟩) (hg.block b (show b < _ from block_lt hc) (by simpa using hn))
theorem grown_then {w wr w1 : World} {row : Option Nat} (h : w.grownBy wr row) (hb : Below w.heap.size wr w1) : w.grownBy w1 row := ⟨hb.os.trans h.os, hb.tape.trans h.tape, hb.output.trans h.output, Nat.le_trans h.size hb.size, fun k hk hne => (hb.block k hk).trans (h.block k hk hne)⟩
/-- A new box of an image, as it was made. -/
structure Box (w : World) (b : Nat) (v0 v1 : Value) : Prop where
  c0 : w.cell? ⟨b, 0, none⟩ = some v0
  c1 : w.cell? ⟨b, 1, none⟩ = some v1
  fz : ∀ o, w.frozen? ⟨b, o, none⟩ = false
theorem Box.grown {wr w1 : World} {r b : Nat} {v0 v1 : Value} (h : Box wr b v0 v1) (hg : wr.grownBy w1 (some r)) (hn : b ≠ r) : Box w1 b v0 v1 :=
  ⟨hg.cell h.c0 (by simpa using hn), hg.cell h.c1 (by simpa using hn), fun o => (frozen_grown hg h.c0 hn).trans (h.fz o)⟩
theorem Box.bel {wr w1 : World} {b : Nat} {v0 v1 : Value} (h : Box wr b v0 v1) (hb : Below wr.heap.size wr w1) : Box w1 b v0 v1 :=
  ⟨kept hb (block_lt h.c0) h.c0, kept hb (block_lt h.c1) h.c1, fun o => (hb.frozen (p := ⟨b, o, none⟩) (show b < _ from block_lt h.c0)).trans (h.fz o)⟩
theorem Box.store {wr : World} {b g k : Nat} {v0 v1 v : Value} (h : Box wr b v0 v1) (hn : b ≠ g) : Box (wr.setCell ⟨g, k, none⟩ v) b v0 v1 :=
  ⟨by rw [World.cell?_setCell_other _ _ _ _ (by first | (simp; done) | (simp; omega))]; exact h.c0, by rw [World.cell?_setCell_other _ _ _ _ (by first | (simp; done) | (simp; omega))]; exact h.c1, fun o => by rw [World.frozen?_setCell]; exact h.fz o⟩
structure Shp (w wr : World) (r ob g H cg W : Nat) (a : Option Addr) (len cap : Nat) (zs : List Int) (p : Nat) (xs : List Int) : Prop where
  zb : Box wr w.heap.size (.int .i64 0) (.slice none 0 0)
  bo : Box wr ob (.int .i64 W) (.slice (some ⟨g, 0, none⟩) H cg)
  own : OwnI wr (w.heap.size + 1) (some ⟨g, 0, none⟩) H cg xs
  row : ∀ i, i < H → 0 ≤ xs.getD i 0 ∧ xs.getD i 0 ≤ pw W - 1
  rd : Rd wr r a len cap zs p
  gr : w.grownBy wr (some r)
  ne : ob ≠ g
  ho : w.heap.size < ob
  hg : w.heap.size < g
  hr : r < w.heap.size
  far : ∀ b off, a = some ⟨b, off, none⟩ → 0 < len → b < w.heap.size
theorem Shp.pick {w wr w1 : World} {r ob g H cg W : Nat} {a : Option Addr} {len cap : Nat} {zs : List Int} {p p' : Nat} {xs : List Int} (h : Shp w wr r ob g H cg W a len cap zs p xs) (hr : Rd w1 r a len cap zs p') (hg : wr.grownBy w1 (some r)) : Shp w w1 r ob g H cg W a len cap zs p' xs := by
  have n1 := h.hr
  have n2 := h.ho
  exact ⟨h.zb.grown hg (by omega), h.bo.grown hg (by omega), h.own.other hg (by omega), h.row, hr, grown_trans h.gr hg, h.ne, h.ho, h.hg, h.hr, h.far⟩
theorem Shp.drew {w wr : World} {r ob g H cg W : Nat} {a : Option Addr} {len cap : Nat} {zs : List Int} {p : Nat} {xs : List Int} (h : Shp w wr r ob g H cg W a len cap zs p xs) : Shp w wr.drew r ob g H cg W a len cap zs p xs :=
  h.pick (h.rd.bel ((Below.refl _ _).drew)) (below_grown ((Below.refl _ _).drew) _)
theorem Shp.set {w wr : World} {r ob g H cg W : Nat} {a : Option Addr} {len cap : Nat} {zs : List Int} {p : Nat} {xs : List Int} (h : Shp w wr r ob g H cg W a len cap zs p xs) (k : Nat) (v : Int) (hk : k < H) (h0 : 0 ≤ v) (h1 : v ≤ pw W - 1) : Shp w (wr.setCell ⟨g, k, none⟩ (.int .i64 v)) r ob g H cg W a len cap zs p (xs.set k v) := by
  have n1 := h.hr
  have n2 := h.ho
  have n3 := h.hg
  have n4 := h.ne
  refine ⟨h.zb.store (by omega), h.bo.store n4, h.own.set k v, fun i hi => ?_, h.rd.apart (grown_set (World.grownBy.refl _ _)) (by omega) (fun b off e hl => by have := h.far b off e hl; omega), grown_then h.gr ((Below.refl _ _).setCell (by simp; omega) _), h.ne, h.ho, h.hg, h.hr, h.far⟩
  by_cases e : i = k
  · subst e; rw [getD_elem (by rw [List.length_set, h.own.len]; omega)]; simp; omega
  · have := h.row i hi
    rw [getD_elem (by rw [h.own.len]; omega)] at this
    rw [getD_elem (by rw [List.length_set, h.own.len]; omega), List.getElem_set_ne (by omega)]; exact this

theorem Shp.put {w wr w1 : World} {r ob g H cg W : Nat} {a : Option Addr} {len cap : Nat} {zs : List Int} {p : Nat} {xs ys : List Int} (h : Shp w wr r ob g H cg W a len cap zs p xs) (hg : wr.grownBy w1 (some g)) (ho : OwnI w1 (w.heap.size + 1) (some ⟨g, 0, none⟩) H cg ys) (hr : ∀ i, i < H → 0 ≤ ys.getD i 0 ∧ ys.getD i 0 ≤ pw W - 1) : Shp w w1 r ob g H cg W a len cap zs p ys := by
  have n1 := h.hr
  have n2 := h.ho
  have n3 := h.hg
  have n5 := h.gr.size
  exact ⟨h.zb.grown hg (by omega), h.bo.grown hg h.ne, ho, hr, h.rd.apart hg (by omega) (fun b off e hl => by have := h.far b off e hl; omega), grown_then h.gr ((grown_below hg).mono (by omega)), h.ne, h.ho, h.hg, h.hr, h.far⟩
theorem set_range {xs : List Int} {H k : Nat} {v : Int} {W : Nat} (hl : xs.length = H) (h : ∀ i, i < H → 0 ≤ xs.getD i 0 ∧ xs.getD i 0 ≤ pw W - 1) (hv : 0 ≤ v ∧ v ≤ pw W - 1) : ∀ i, i < H → 0 ≤ (xs.set k v).getD i 0 ∧ (xs.set k v).getD i 0 ≤ pw W - 1 := by
  intro i hi
  by_cases e : i = k
  · subst e; rw [getD_elem (by rw [List.length_set]; omega)]; simp; omega
  · have := h i hi
    rw [getD_elem (by omega)] at this
    rw [getD_elem (by rw [List.length_set]; omega), List.getElem_set_ne (by omega)]; exact this

set_option maxHeartbeats 400000 in
theorem shape_any (r : Nat) (a : Option Addr) (len cap : Nat) (zs : List Int) (p : Nat) (w : World) (h : Rd w r a len cap zs p) (hp : p ≤ 1000) :
    Calls Try.prog 96 #[.pointer (some ⟨r, 0, none⟩), .int .i64 36] w (Draws w r a len cap zs p 8) := by
  have hrw : r < w.heap.size := block_lt h.c0
  have far := Lib.hid h.src
  have h0 := Lib.hid (h.bel ((Below.refl _ _).alloc (Nat.le_refl _) (.cells #[.int .i64 0, .slice none 0 0] 35)))
  clear h
  go_enter Try.func96, Try.ntmps96
  go_wp2_with fail
  refine (pick_any r a len cap zs p 6 _ h0.out (by omega) (by omega)).mono ?_
  rintro e w1 ⟨v1, rfl, hv1, hv1', hr1, hg1⟩
  obtain ⟨H, hH, hH1, hH6⟩ : ∃ H : Nat, v1 = (H : Int) - 1 ∧ 1 ≤ H ∧ H ≤ 6 := ⟨(v1 + 1).toNat, by omega, by omega, by omega⟩
  subst hH
  have zb := Lib.hid (Box.grown (wr := w.alloc (.cells #[.int .i64 0, .slice none 0 0] 35)) (b := w.heap.size) (v0 := .int .i64 0) (v1 := .slice none 0 0) ⟨by simp, by simp, fun o => by simp⟩ hg1 (by omega))
  have g1 := Lib.hid (grown_trans (below_grown ((Below.refl _ _).alloc (Nat.le_refl _) _) _) hg1)
  have hr1 := Lib.hid hr1
  clear hg1
  go_wp2_with fail
  refine (pick_any r a len cap zs (p + 1) 6 _ hr1.out (by omega) (by omega)).mono ?_
  rintro e w2 ⟨v2, rfl, hv2, hv2', hr2, hg2⟩
  obtain ⟨W, hW, hW1, hW6⟩ : ∃ W : Nat, v2 = (W : Int) - 1 ∧ 1 ≤ W ∧ W ≤ 6 := ⟨(v2 + 1).toNat, by omega, by omega, by omega⟩
  subst hW
  have zb := Lib.hid (zb.out.grown hg2 (by omega))
  have g2 := Lib.hid (grown_trans g1.out hg2)
  have hr2 := Lib.hid hr2
  have zb0 := zb
  clear hg2
  have hmul : (H : Int) * (W : Int) ≤ 36 := by
    have : H * W ≤ 6 * 6 := Nat.mul_le_mul hH6 hW6
    have e : ((H * W : Nat) : Int) = (H : Int) * W := by simp
    omega
  have hmul0 : 0 ≤ (H : Int) * (W : Int) := Int.mul_nonneg (by omega) (by omega)
  go_wp2_with fail
  go_loop [5, 6] (fun o i => o = .int .i64 H ∧ i = .int .i64 W) (fun _ _ => 0)
  case atStart => exact ⟨by go_num, by go_num⟩
  case round =>
    obtain ⟨rfl, rfl⟩ := hrel
    go_wp2_with fail
    clear hmul hmul0
    refine (blank_spec W H _ (by omega)).mono ?_
    rintro e w3 ⟨⟨g, rfl, hg, ho⟩, hb⟩
    have zb := zb.out.bel hb
    have g3 := grown_trans g2.out (below_grown hb _)
    have hr3 := hr2.out.bel hb
    have hs2 : w.heap.size < w2.heap.size := block_lt zb0.out.c0
    have hs3 := hb.size
    have hgl := own_lt ho
    have hS : Shp w (w3.alloc (.cells #[.int .i64 W, .slice (some ⟨g, 0, none⟩) H H] 35)) r w3.heap.size g H H W a len cap zs (p + 1 + 1) (List.replicate H 0) := by
      have hb4 := (Below.refl w3.heap.size w3).alloc (Nat.le_refl _) (.cells #[.int .i64 W, .slice (some ⟨g, 0, none⟩) H H] 35)
      refine ⟨zb.bel hb4, ⟨by simp, by simp, fun o => by simp⟩, (ho.mono (by omega)).bel hb4, fun i hi => ?_, hr3.bel hb4, grown_trans g3 (below_grown hb4 _), by omega, by omega, by omega, hrw, far.out⟩
      have := pw_pos W
      rw [getD_elem (by simpa using hi)]; simp; omega
    have hS := Lib.hid hS
    clear zb g3 hr3 ho hb
    go_wp2_with fail
    go_loopw [8] (fun i wr => ∃ k : Nat, k ≤ H ∧ i = .int .i64 k ∧ ∃ xs, Shp w wr r w3.heap.size g H H W a len cap zs (p + 1 + 1 + k) xs) (fun i _ => H - (intOf i).toNat)
    case atStart => exact ⟨0, by omega, rfl, _, hS.out⟩
    case round =>
      obtain ⟨k, hk, rfl, xs, hQ⟩ := hrel
      clear hS
      by_cases hlt : k < H
      · have hD := hQ.drew
        have y0 := hQ.bo.c0
        have y1 := hQ.bo.c1
        have x0 := hD.bo.c0
        have x1 := hD.bo.c1
        have hp1 := pw_pos W
        have hp2 := pw_63 hW6
        have hD := Lib.hid hD
        clear hQ
        go_wp2_with fail
        go_region_held3 (fun W' => W'.cell? ⟨w3.heap.size, 0, none⟩ = some (.int .i64 W) ∧ W'.cell? ⟨w3.heap.size, 1, none⟩ = some (.slice (some ⟨g, 0, none⟩) H H))
          (first | exact ⟨x0, x1⟩ | exact ⟨c0, c1⟩ | exact ⟨d0, d1⟩)
          (first | (go_at_call 85; refine (power_any W _ (by omega)).mono ?_; rintro e w8 ⟨rfl, rfl⟩) | (go_at_call 52; refine (pick_any r a len cap zs _ _ _ hD.out.rd (by omega) (by omega)).mono ?_; rintro e w9 ⟨v, rfl, hv0, hv1, hr9, hg9⟩; have hS9 := hD.out.pick hr9 hg9; have c0 := hS9.bo.c0; have c1 := hS9.bo.c1; have hS10 := hS9.set k v hlt hv0 (by omega); have d0 := hS10.bo.c0; have d1 := hS10.bo.c1; have og := own_cell hS9.own hlt; have of := hS9.own.frozen k; have hS10 := Lib.hid hS10; clear hS9 hr9 hg9))
        go_wp2_with fail
        exact ⟨⟨k + 1, by omega, by go_num, _, hS10.out⟩, by simp [intOf]; omega⟩
      · have : k = H := by omega
        subst this
        have y0 := hQ.bo.c0
        have y1 := hQ.bo.c1
        have z0 := hQ.zb.c0
        have z1 := hQ.zb.c1
        have zf := hQ.zb.fz
        have hQ := Lib.hid hQ
        go_wp2_with fail
        refine bodyPost_ret (v := .agg #[.int .i64 W, .slice (some ⟨g, 0, none⟩) k k]) (by simp [results, Try.results96, go_sem, z0, z1]) rfl ?_
        have S := hQ.out
        have n1 := S.hr
        have n2 := S.hg
        refine ⟨W, k, xs, g, k, _, rfl, ((S.own.store (by simp) _).store (by simp) _).mono (by omega), ⟨hW1, hW6, hH1, hH6, S.own.len, S.row⟩, ((S.rd.apart (grown_set (World.grownBy.refl _ _)) (by omega) (fun b off e hl => by have := S.far b off e hl; omega)).apart (grown_set (World.grownBy.refl _ _)) (by omega) (fun b off e hl => by have := S.far b off e hl; omega)), by omega, grown_then S.gr (((Below.refl _ _).setCell (by simp) _).setCell (by simp) _)⟩
end Go.Proofs.Ytemmfnlnhekclaa

namespace Go.Proofs.Ytemmfnlnhekclaa
set_option maxRecDepth 100000
open Go.RowKit

theorem putin_nat : ∀ W, W < 7 → ∀ j, j < W → ∀ n, n < 64 → ((n : Nat) : Int) ≤ pw W - 1 → 0 ≤ putI ((n : Nat) : Int) j true ∧ putI ((n : Nat) : Int) j true ≤ pw W - 1 := by decide +kernel
theorem putin {W j : Nat} {x : Int} (hW : W ≤ 6) (hj : j < W) (h0 : 0 ≤ x) (h1 : x ≤ pw W - 1) : 0 ≤ putI x j true ∧ putI x j true ≤ pw W - 1 := by
  have := pw_63 hW
  obtain ⟨n, rfl⟩ := Int.eq_ofNat_of_zero_le h0
  exact putin_nat W (by omega) j hj n (by omega) h1

theorem OwnI.ge {w : World} {B g len cap : Nat} {xs : List Int} (h : OwnI w B (some ⟨g, 0, none⟩) len cap xs) : B ≤ g := by
  rcases h.cases with ⟨e, _⟩ | ⟨g', e, h1, _⟩
  · cases e
  · simp only [Option.some.injEq, Addr.mk.injEq, and_true] at e; omega

set_option maxHeartbeats 800000 in
theorem nested_any (r : Nat) (a : Option Addr) (len cap : Nat) (zs : List Int) (p : Nat) (w : World) (h : Rd w r a len cap zs p) (hp : p ≤ 900) :
    Calls Try.prog 95 #[.pointer (some ⟨r, 0, none⟩), .int .i64 36] w (Draws w r a len cap zs p 9) := by
  have hrw : r < w.heap.size := block_lt h.c0
  have far := Lib.hid h.src
  have h0 := Lib.hid (h.bel ((Below.refl _ _).alloc (Nat.le_refl _) (.cells #[.int .i64 0, .slice none 0 0] 35)))
  clear h
  go_enter Try.func95, Try.ntmps95
  go_wp2_with fail
  refine (shape_any r a len cap zs p _ h0.out (by omega)).mono ?_
  rintro e w1 ⟨W, H, xs, g, cg, p1, rfl, ho, hI, hr1, hp1, hg1⟩
  have hW1 := hI.w1
  have hW6 := hI.w6
  have hH6 := hI.l6
  have zb := Lib.hid (Box.grown (wr := w.alloc (.cells #[.int .i64 0, .slice none 0 0] 35)) (b := w.heap.size) (v0 := .int .i64 0) (v1 := .slice none 0 0) ⟨by simp, by simp, fun o => by simp⟩ hg1 (by omega))
  have g1 := Lib.hid (grown_trans (below_grown ((Below.refl _ _).alloc (Nat.le_refl _) _) _) hg1)
  have hr1 := Lib.hid hr1
  have hI := Lib.hid hI
  have ho := Lib.hid ho
  clear hg1
  go_wp2_with fail
  have hs1 : w.heap.size < w1.heap.size := block_lt zb.out.c0
  refine (pick_any r a len cap zs p1 W _ (hr1.out.bel ((Below.refl _ _).alloc (Nat.le_refl _) _)) (by omega) (by omega)).mono ?_
  rintro e w2 ⟨v, rfl, hv0, hv1, hr2, hg2⟩
  obtain ⟨s, rfl⟩ := Int.eq_ofNat_of_zero_le hv0
  have hS : Shp w w2 r w1.heap.size g H cg W a len cap zs (p1 + 1) xs := by
    have hb4 := (Below.refl w1.heap.size w1).alloc (Nat.le_refl _) (.cells #[.int .i64 W, .slice (some ⟨g, 0, none⟩) H cg] 35)
    have hS0 : Shp w (w1.alloc (.cells #[.int .i64 W, .slice (some ⟨g, 0, none⟩) H cg] 35)) r w1.heap.size g H cg W a len cap zs p1 xs := by
      have hgl := own_lt ho.out
      have hgg := ho.out.ge
      refine ⟨zb.out.bel hb4, ⟨by simp, by simp, fun o => by simp⟩, (ho.out.mono (by simp)).bel hb4, hI.out.row, hr1.out.bel hb4, grown_trans g1.out (below_grown hb4 _), by omega, by omega, by simp at hgg; omega, hrw, far.out⟩
    exact hS0.pick hr2 hg2
  have y0 := hS.bo.c0
  have y1 := hS.bo.c1
  have hS := Lib.hid hS
  clear zb hr2 ho hg2 hr1
  go_wp2_with fail
  go_loopw [7] (fun i wr => ∃ k : Nat, k ≤ H ∧ i = .int .i64 k ∧ ∃ xs, Shp w wr r w1.heap.size g H cg W a len cap zs (p1 + 1) xs) (fun i _ => H - (intOf i).toNat)
  case atStart => exact ⟨0, by omega, rfl, _, hS.out⟩
  case round =>
    obtain ⟨k, hk, rfl, xs, hQ⟩ := hrel
    clear hS y0 y1
    have y0 := hQ.bo.c0
    have y1 := hQ.bo.c1
    by_cases hlt : k < H
    · have hc := own_cell hQ.own hlt
      have hf := hQ.own.frozen k
      have hx := hQ.row k hlt
      have hp := pw_63 hW6
      have hcn := cnt_bd (xs.getD k 0) 6
      have h2 := hQ.set k 0 hlt (by omega) (by have := pw_pos W; omega)
      generalize xs.getD k 0 = x at hc hx hcn
      have hQ := Lib.hid hQ
      have h2 := Lib.hid h2
      go_wp2_with fail
      refine (count_any x _ (by omega) (by omega)).mono ?_
      rintro e w' ⟨rfl, rfl⟩
      obtain ⟨N, hN⟩ := Int.eq_ofNat_of_zero_le hcn.1
      rw [hN]
      have hN6 : N ≤ 6 := by omega
      clear hN hcn hx
      have y0 := h2.out.bo.c0
      have y1 := h2.out.bo.c1
      go_wp2_with fail
      go_loopw [9] (fun j wr => ∃ m : Nat, m ≤ N ∧ j = .int .i64 m ∧ ∃ xs, Shp w wr r w1.heap.size g H cg W a len cap zs (p1 + 1) xs) (fun i _ => N - (intOf i).toNat)
      case atStart => exact ⟨0, by omega, rfl, _, h2.out⟩
      case round =>
        obtain ⟨m, hm, rfl, xs', hR⟩ := hrel
        clear h2 hQ y0 y1 hc hf
        have y0 := hR.bo.c0
        have y1 := hR.bo.c1
        by_cases hlm : m < N
        · obtain ⟨W2, hW2⟩ : ∃ W2, wr.drew = W2 := ⟨_, rfl⟩
          have hD := hR.drew
          rw [hW2] at hD
          have x0 := hD.bo.c0
          have x1 := hD.bo.c1
          have q1 : ((m : Int) + (s : Int)).tmod (W : Int) = (((m + s) % W : Nat) : Int) := by rw [Int.tmod_eq_emod_of_nonneg (by omega)]; rfl
          have q2 : (m + s) % W < W := Nat.mod_lt _ (by omega)
          have q3 : ((W : Int) == 0) = false := by simp; omega
          have q4 : IntKind.i64.wrap ((m : Int) + (s : Int)) = (m : Int) + (s : Int) := IntWalk.i64_in _ ⟨by omega, by omega⟩
          have q5 : IntKind.i64.wrap (((m + s) % W : Nat) : Int) = (((m + s) % W : Nat) : Int) := IntWalk.i64_in _ ⟨by omega, by omega⟩
          have q6 : ¬ W = 0 := by omega
          have hrow := hD.row k hlt
          have hp' := pw_63 hW6
          have hin := putin hW6 q2 hrow.1 hrow.2
          have hR := Lib.hid hR
          have hD := Lib.hid hD
          generalize (m + s) % W = u at *
          go_wp2_with fail
          refine region_tail 8 (by kernel_rfl) (by kernel_rfl) W2 hW2 ?_
          simp only [List.take_succ_cons, List.take_zero, List.drop_succ_cons, List.drop_zero]
          clear hW2
          repeat still_step
          refine wpStill_nil ?_
          go_wp2_with fail
          refine (put_spec W (w.heap.size + 1) g H cg xs' k u true _ hD.out.own hlt (by omega) hrow.1 (by omega)).mono ?_
          rintro e w5 ⟨rfl, hg5, ho5⟩
          have hn := Lib.hid (hD.out.put hg5 ho5 (set_range hD.out.own.len hD.out.row hin))
          go_wp2_with fail
          exact ⟨⟨m + 1, by omega, by go_num, _, hn.out⟩, by simp [intOf]; omega⟩
        · have : m = N := by omega
          subst this
          have hR := Lib.hid hR
          go_wp2_with fail
          exact ⟨⟨k + 1, by omega, by go_num, _, hR.out⟩, by simp [intOf]; omega⟩
    · have : k = H := by omega
      subst this
      have z0 := hQ.zb.c0
      have z1 := hQ.zb.c1
      have zf := hQ.zb.fz
      have hQ := Lib.hid hQ
      go_wp2_with fail
      refine bodyPost_ret (v := .agg #[.int .i64 W, .slice (some ⟨g, 0, none⟩) k cg]) (by simp [results, Try.results95, go_sem, z0, z1]) rfl ?_
      have S := hQ.out
      have n1 := S.hr
      have n2 := S.hg
      refine ⟨W, k, xs, g, cg, _, rfl, ((S.own.store (by simp) _).store (by simp) _).mono (by omega), ⟨hW1, hW6, hI.out.l1, hI.out.l6, S.own.len, S.row⟩, ((S.rd.apart (grown_set (World.grownBy.refl _ _)) (by omega) (fun b off e hl => by have := S.far b off e hl; omega)).apart (grown_set (World.grownBy.refl _ _)) (by omega) (fun b off e hl => by have := S.far b off e hl; omega)), by omega, grown_then S.gr (((Below.refl _ _).setCell (by simp) _).setCell (by simp) _)⟩
end Go.Proofs.Ytemmfnlnhekclaa

namespace Go.Proofs.Ytemmfnlnhekclaa
set_option maxRecDepth 100000
open Go.RowKit

theorem Draws.up {w0 w w' : World} {r : Nat} {a : Option Addr} {len cap : Nat} {zs : List Int} {p q m k : Nat} {e : Ending} (h : Draws w r a len cap zs p m e w') (hg : w0.grownBy w (some r)) (hp : p + m ≤ q + k) : Draws w0 r a len cap zs q k e w' := by
  obtain ⟨W, H, xs, g, cg, p1, rfl, ho, hI, hr1, hp1, hg1⟩ := h
  exact ⟨W, H, xs, g, cg, p1, rfl, ho.mono hg.size, hI, hr1, by omega, grown_trans hg hg1⟩

set_option maxHeartbeats 400000 in
theorem image_any (r : Nat) (a : Option Addr) (len cap : Nat) (zs : List Int) (p : Nat) (w : World) (h : Rd w r a len cap zs p) (hp : p ≤ 800) :
    Calls Try.prog 84 #[.pointer (some ⟨r, 0, none⟩), .int .i64 36] w (Draws w r a len cap zs p 10) := by
  have hrw : r < w.heap.size := block_lt h.c0
  have far := Lib.hid h.src
  have h0 := Lib.hid (h.bel ((Below.refl _ _).alloc (Nat.le_refl _) (.cells #[.int .i64 0, .slice none 0 0] 35)))
  clear h
  go_enter Try.func84, Try.ntmps84
  go_wp2_with fail
  refine (pick_any r a len cap zs p 4 _ h0.out (by omega) (by omega)).mono ?_
  rintro e w1 ⟨v, rfl, hv0, hv1, hr1, hg1⟩
  have zb := Lib.hid (Box.grown (wr := w.alloc (.cells #[.int .i64 0, .slice none 0 0] 35)) (b := w.heap.size) (v0 := .int .i64 0) (v1 := .slice none 0 0) ⟨by simp, by simp, fun o => by simp⟩ hg1 (by omega))
  have g1 := Lib.hid (grown_trans (below_grown ((Below.refl _ _).alloc (Nat.le_refl _) _) _) hg1)
  have hr1 := Lib.hid hr1
  have hs1 : w.heap.size < w1.heap.size := block_lt zb.out.c0
  clear hg1
  by_cases hv : v = 0
  · subst hv
    go_wp2_with fail
    refine (nested_any r a len cap zs (p + 1) w1 hr1.out (by omega)).mono ?_
    rintro e w2 ⟨W, H, xs, g, cg, p2, rfl, ho, hI, hr2, hp2, hg2⟩
    have zb := zb.out.grown hg2 (by omega)
    have g2 := Lib.hid (grown_trans g1.out hg2)
    have z0 := zb.c0
    have z1 := zb.c1
    have zf := zb.fz
    have hgg := ho.ge
    have ho := Lib.hid ho
    have hI := Lib.hid hI
    have hr2 := Lib.hid hr2
    clear zb hg2 hr1
    go_wp2_with fail
    refine bodyPost_ret (v := .agg #[.int .i64 W, .slice (some ⟨g, 0, none⟩) H cg]) (by simp [results, Try.results84, go_sem, z0, z1]) rfl ?_
    exact ⟨W, H, xs, g, cg, p2, rfl, ((ho.out.store (show w.heap.size < _ by omega) _).store (show w.heap.size < _ by omega) _).mono (by omega), hI.out, ((hr2.out.apart (grown_set (World.grownBy.refl _ _)) (by omega) (fun b off e hl => by have := far.out b off e hl; omega)).apart (grown_set (World.grownBy.refl _ _)) (by omega) (fun b off e hl => by have := far.out b off e hl; omega)), by omega, grown_then g2.out (((Below.refl _ _).setCell (by simp) _).setCell (by simp) _)⟩
  · go_wp2_with fail
    refine (shape_any r a len cap zs (p + 1) w1 hr1.out (by omega)).mono ?_
    rintro e w2 ⟨W, H, xs, g, cg, p2, rfl, ho, hI, hr2, hp2, hg2⟩
    have zb := zb.out.grown hg2 (by omega)
    have g2 := Lib.hid (grown_trans g1.out hg2)
    have z0 := zb.c0
    have z1 := zb.c1
    have zf := zb.fz
    have hgg := ho.ge
    have ho := Lib.hid ho
    have hI := Lib.hid hI
    have hr2 := Lib.hid hr2
    clear zb hg2 hr1
    go_wp2_with fail
    refine bodyPost_ret (v := .agg #[.int .i64 W, .slice (some ⟨g, 0, none⟩) H cg]) (by simp [results, Try.results84, go_sem, z0, z1]) rfl ?_
    exact ⟨W, H, xs, g, cg, p2, rfl, ((ho.out.store (show w.heap.size < _ by omega) _).store (show w.heap.size < _ by omega) _).mono (by omega), hI.out, ((hr2.out.apart (grown_set (World.grownBy.refl _ _)) (by omega) (fun b off e hl => by have := far.out b off e hl; omega)).apart (grown_set (World.grownBy.refl _ _)) (by omega) (fun b off e hl => by have := far.out b off e hl; omega)), by omega, grown_then g2.out (((Below.refl _ _).setCell (by simp) _).setCell (by simp) _)⟩

theorem own_cap {w : World} {B n c : Nat} {a : Option Addr} {xs : List Int} (h : OwnI w B a n c xs) : n ≤ c := by
  rcases h.2 with ⟨e, h0⟩ | ⟨g, cap, cur, e, _, _, h1, _⟩
  · omega
  · simp only [Value.slice.injEq] at e; omega
/-- What the laws draw: an image of at most six rows, valid or not. -/
def DrawsW (w : World) (r : Nat) (a : Option Addr) (len cap : Nat) (zs : List Int) (p : Nat) (e : Ending) (w' : World) : Prop :=
  ∃ (W : Int) (s : Option Addr) (n cg : Nat) (xs : List Int), e = .returned (.agg #[.int .i64 W, .slice s n cg]) ∧ OwnI w' (w.heap.size + 1) s n cg xs ∧ (n ≤ 6 ∧ n ≤ cg) ∧ w.grownBy w' (some r) ∧ (∀ b off, s = some ⟨b, off, none⟩ → 0 < n → w.heap.size ≤ b) ∧ ∃ p', p' ≤ p + 20 ∧ Rd w' r a len cap zs p'
theorem drawsW_mk {w V : World} {r : Nat} {a : Option Addr} {len cap p p' : Nat} {zs : List Int} {W : Int} {s : Option Addr} {n cg : Nat} {xs : List Int} {v0 v1 : Value} (hg : w.grownBy V (some r)) (hR : OwnI V (w.heap.size + 1) s n cg xs) (hn : n ≤ 6 ∧ n ≤ cg) (hne : ∀ b off, s = some ⟨b, off, none⟩ → 0 < n → w.heap.size < b) (hrd : Rd V r a len cap zs p') (hp : p' ≤ p + 20) (hr : r < w.heap.size) (far : ∀ b off, a = some ⟨b, off, none⟩ → 0 < len → b < w.heap.size) :
    DrawsW w r a len cap zs p (.returned (.agg #[.int .i64 W, .slice s n cg])) ((V.setCell ⟨w.heap.size, 0, none⟩ v0).setCell ⟨w.heap.size, 1, none⟩ v1) :=
  ⟨W, s, n, cg, xs, rfl, (hR.store (by simp) _).store (by simp) _, hn, grown_then hg (((Below.refl _ _).setCell (by simp) _).setCell (by simp) _), fun b off e hl => by have := hne b off e hl; omega, p', hp, (hrd.apart (grown_set (World.grownBy.refl _ _)) (by omega) (fun b off e hl => by have := far b off e hl; omega)).apart (grown_set (World.grownBy.refl _ _)) (by omega) (fun b off e hl => by have := far b off e hl; omega)⟩
theorem Shp.rdset {w wr : World} {r ob g H cg W q k : Nat} {v : Value} {a : Option Addr} {len cap : Nat} {zs : List Int} {p : Nat} {xs : List Int} (h : Shp w wr r ob g H cg W a len cap zs p xs) (hq : w.heap.size < q) : Rd (wr.setCell ⟨q, k, none⟩ v) r a len cap zs p :=
  h.rd.apart (grown_set (World.grownBy.refl _ _)) (by have := h.hr; omega) (fun b off e hl => by have := h.far b off e hl; omega)
theorem some_ne {g g0 n : Nat} (h : g ≠ g0) : ∀ b off, (some ⟨g, 0, none⟩ : Option Addr) = some ⟨b, off, none⟩ → 0 < n → b ≠ g0 := by
  intro b off e _
  simp only [Option.some.injEq, Addr.mk.injEq, and_true] at e
  omega
theorem some_gt {g B n : Nat} (h : B < g) : ∀ b off, (some ⟨g, 0, none⟩ : Option Addr) = some ⟨b, off, none⟩ → 0 < n → B < b := by
  intro b off e _
  simp only [Option.some.injEq, Addr.mk.injEq, and_true] at e
  omega

set_option maxHeartbeats 800000 in
theorem wrong_any (r : Nat) (a : Option Addr) (len cap : Nat) (zs : List Int) (p : Nat) (w : World) (h : Rd w r a len cap zs p) (hp : p ≤ 700) :
    Calls Try.prog 63 #[.pointer (some ⟨r, 0, none⟩), .int .i64 36] w (DrawsW w r a len cap zs p) := by
  have hrw : r < w.heap.size := block_lt h.c0
  have far := Lib.hid h.src
  have h0 := Lib.hid (h.bel ((Below.refl _ _).alloc (Nat.le_refl _) (.cells #[.int .i64 0, .slice none 0 0] 35)))
  clear h
  go_enter Try.func63, Try.ntmps63
  go_wp2_with fail
  refine (image_any r a len cap zs p _ h0.out (by omega)).mono ?_
  rintro e w1 ⟨W, H, xs, g, cg, p1, rfl, ho, hI, hr1, hp1, hg1⟩
  have hW1 := hI.w1
  have hW6 := hI.w6
  have hH1 := hI.l1
  have hH6 := hI.l6
  have zb := Lib.hid (Box.grown (wr := w.alloc (.cells #[.int .i64 0, .slice none 0 0] 35)) (b := w.heap.size) (v0 := .int .i64 0) (v1 := .slice none 0 0) ⟨by simp, by simp, fun o => by simp⟩ hg1 (by omega))
  have g1 := Lib.hid (grown_trans (below_grown ((Below.refl _ _).alloc (Nat.le_refl _) _) _) hg1)
  have hr1 := Lib.hid hr1
  have hI := Lib.hid hI
  have hcg : H ≤ cg := own_cap ho
  have ho := Lib.hid ho
  clear hg1
  go_wp2_with fail
  have hs1 : w.heap.size < w1.heap.size := block_lt zb.out.c0
  refine (pick_any r a len cap zs p1 40 _ (hr1.out.bel ((Below.refl _ _).alloc (Nat.le_refl _) _)) (by omega) (by omega)).mono ?_
  rintro e w2 ⟨v, rfl, hv0, hv1, hr2, hg2⟩
  have hS : Shp w w2 r w1.heap.size g H cg W a len cap zs (p1 + 1) xs := by
    have hb4 := (Below.refl w1.heap.size w1).alloc (Nat.le_refl _) (.cells #[.int .i64 W, .slice (some ⟨g, 0, none⟩) H cg] 35)
    have hS0 : Shp w (w1.alloc (.cells #[.int .i64 W, .slice (some ⟨g, 0, none⟩) H cg] 35)) r w1.heap.size g H cg W a len cap zs p1 xs := by
      have hgl := own_lt ho.out
      have hgg := ho.out.ge
      refine ⟨zb.out.bel hb4, ⟨by simp, by simp, fun o => by simp⟩, (ho.out.mono (by simp)).bel hb4, hI.out.row, hr1.out.bel hb4, grown_trans g1.out (below_grown hb4 _), by omega, by omega, by simp at hgg; omega, hrw, far.out⟩
    exact hS0.pick hr2 hg2
  have y0 := hS.bo.c0
  have y1 := hS.bo.c1
  have hS := Lib.hid hS
  clear zb hr2 ho hg2 hr1
  have hc := own_cell hS.out.own (i := 0) (by omega)
  have hf := hS.out.own.frozen
  have z0 := hS.out.zb.c0
  have z1 := hS.out.zb.c1
  have zf := hS.out.zb.fz
  have yf := hS.out.bo.fz
  have hne := hS.out.ne
  have hlt := block_lt y0
  have hlg := hS.out.hg
  by_cases e0 : v = 0
  · subst e0
    obtain ⟨W2, hW2⟩ : ∃ W2, w2.drew = W2 := ⟨_, rfl⟩
    have hD := hS.out.drew
    rw [hW2] at hD
    have j0 := hD.bo.c0
    have j1 := hD.bo.c1
    have k0 := hD.zb.c0
    have k1 := hD.zb.c1
    have kf := hD.zb.fz
    have jf := hD.own.frozen
    have jc := own_cell hD.own (i := 0) (by omega)
    have hD := Lib.hid hD
    have i4 : 0 < H := by omega
    go_wp2_with fail
    refine region_tail 6 (by kernel_rfl) (by kernel_rfl) W2 hW2 ?_
    simp only [List.take_succ_cons, List.take_zero, List.drop_succ_cons, List.drop_zero]
    clear hW2
    repeat (first | still_step | still_call (st (power_any _ _ (by omega))))
    refine wpStill_nil ?_
    go_wp2_with fail
    refine bodyPost_ret (v := .agg #[.int .i64 W, .slice (some ⟨g, 0, none⟩) H cg]) (by simp [results, Try.results63, go_sem, k0, k1]) rfl ?_
    exact drawsW_mk (grown_then hD.out.gr ((Below.refl _ _).setCell (by simp; omega) _)) (hD.out.own.set 0 (pw W)) ⟨hH6, hcg⟩ (some_gt (by omega)) (hD.out.rdset (by omega)) (by omega) hD.out.hr hD.out.far
  by_cases e1 : v = 1
  · subst e1
    go_wp2_with fail
    have hb4 := (Below.refl w2.heap.size w2).alloc (Nat.le_refl _) (.cells #[.int .i64 0, .int .i64 7] 3)
    have hS1 := hS.out.pick (hS.out.rd.bel hb4) (below_grown hb4 _)
    refine (pick_any r a len cap zs _ 2 _ hS1.rd (by omega) (by omega)).mono ?_
    rintro e w3 ⟨v, rfl, hv0, hv1, hr3, hg3⟩
    have hD := hS1.pick hr3 hg3
    have j0 := hD.bo.c0
    have j1 := hD.bo.c1
    have jf := hD.bo.fz
    have k0 := hD.zb.c0
    have k1 := hD.zb.c1
    have kf := hD.zb.fz
    have x0 : w3.cell? ⟨w2.heap.size, 0, none⟩ = some (.int .i64 0) := hg3.cell (by simp) (by simp; omega)
    have x1 : w3.cell? ⟨w2.heap.size, 1, none⟩ = some (.int .i64 7) := hg3.cell (by simp) (by simp; omega)
    have hD := Lib.hid hD
    clear hS1 hr3 hg3 hb4 y0 y1 hc hf z0 z1 zf yf
    rcases (show v = 0 ∨ v = 1 by omega) with e | e <;> subst e
    · go_wp2_with fail
      refine bodyPost_ret (v := .agg #[.int .i64 0, .slice (some ⟨g, 0, none⟩) H cg]) (by simp [results, Try.results63, go_sem, k0, k1]) rfl ?_
      exact drawsW_mk (grown_then hD.out.gr ((Below.refl _ _).setCell (by simp; omega) _)) (World.ownsRow.kept hD.out.own (grown_set (g := w1.heap.size) (World.grownBy.refl _ _)) (.inr (by simp [Value.ownBlock]; omega))) ⟨hH6, hcg⟩ (some_gt (by omega)) (hD.out.rdset (by omega)) (by omega) hD.out.hr hD.out.far
    · go_wp2_with fail
      refine bodyPost_ret (v := .agg #[.int .i64 7, .slice (some ⟨g, 0, none⟩) H cg]) (by simp [results, Try.results63, go_sem, k0, k1]) rfl ?_
      exact drawsW_mk (grown_then hD.out.gr ((Below.refl _ _).setCell (by simp; omega) _)) (World.ownsRow.kept hD.out.own (grown_set (g := w1.heap.size) (World.grownBy.refl _ _)) (.inr (by simp [Value.ownBlock]; omega))) ⟨hH6, hcg⟩ (some_gt (by omega)) (hD.out.rdset (by omega)) (by omega) hD.out.hr hD.out.far
  by_cases e2 : v = 2
  · subst e2
    have q0 := World.cell?_alloc_some (o := .cells #[] 3) y0
    have q1 := World.cell?_alloc_some (o := .cells #[] 3) y1
    have zU := (hS.out.zb.store (g := w1.heap.size) (k := 1) (v := .slice (some ⟨w2.heap.size, 0, none⟩) 0 0) (by omega)).bel ((Below.refl _ _).alloc (Nat.le_refl _) (.cells #[] 3))
    have q2 := zU.c0
    have q3 := zU.c1
    have q4 := zU.fz
    go_wp2_with fail
    refine bodyPost_ret (v := .agg #[.int .i64 W, .slice (some ⟨w2.heap.size, 0, none⟩) 0 0]) (by simp [results, Try.results63, go_sem, q2, q3]) rfl ?_
    exact drawsW_mk (grown_then hS.out.gr (((Below.refl _ _).setCell (by simp; omega) _).alloc (by simp; omega) _)) (show OwnI _ _ _ 0 0 [] from own_empty (w2.setCell ⟨w1.heap.size, 1, none⟩ (.slice (some ⟨w2.heap.size, 0, none⟩) 0 0)) (w.heap.size + 1) w2.heap.size (by simp [World.setCell]) (by omega)) (by omega) (fun _ _ _ h => absurd h (by omega)) ((hS.out.rdset (by omega)).bel ((Below.refl _ _).alloc (Nat.le_refl _) _)) (by omega) hS.out.hr hS.out.far
  by_cases e3 : v = 3
  · subst e3
    go_wp2_with fail
    refine bodyPost_ret (v := .agg #[.int .i64 W, .slice (some ⟨g, 0, none⟩) H cg]) (by simp [results, Try.results63, go_sem, z0, z1]) rfl ?_
    exact drawsW_mk (grown_then hS.out.gr ((Below.refl _ _).setCell (by simp; omega) _)) (hS.out.own.set 0 (-1)) ⟨hH6, hcg⟩ (some_gt (by omega)) (hS.out.rdset (by omega)) (by omega) hS.out.hr hS.out.far
  go_wp2_with fail
  refine bodyPost_ret (v := .agg #[.int .i64 W, .slice (some ⟨g, 0, none⟩) H cg]) (by simp [results, Try.results63, go_sem, z0, z1]) rfl ?_
  exact drawsW_mk hS.out.gr hS.out.own ⟨hH6, hcg⟩ (some_gt (by omega)) hS.out.rd (by omega) hS.out.hr hS.out.far
end Go.Proofs.Ytemmfnlnhekclaa

namespace Go.Proofs.Ytemmfnlnhekclaa
set_option maxRecDepth 100000
open Go.RowKit

/-- What such a function leaves: an image of at most six rows, valid or not. -/
def Drawn (w : World) (e : Ending) (w' : World) : Prop :=
  ∃ (W : Int) (s : Option Addr) (n cg : Nat) (xs : List Int), e = .returned (.agg #[.int .i64 W, .slice s n cg]) ∧ Row w' s n xs ∧ (n ≤ 6 ∧ n ≤ cg) ∧ Below w.heap.size w w'
theorem grown_cut {w w1 w2 : World} {r B : Nat} (h : Below B w w1) (hg : w1.grownBy w2 (some r)) (hr : B ≤ r) (hB : B ≤ w1.heap.size) : Below B w w2 := h.trans ((grown_below hg).mono (by omega))

/-- A law's middle: the drawn image in a box of its own. -/
structure LS (w wr : World) (kb : Nat) (W : Int) (s : Option Addr) (n cg : Nat) (xs : List Int) : Prop where
  c0 : wr.cell? ⟨kb, 0, none⟩ = some (.int .i64 W)
  c1 : wr.cell? ⟨kb, 1, none⟩ = some (.slice s n cg)
  row : Row wr s n xs
  bel : Below w.heap.size w wr
theorem LS.move {w wr w' : World} {kb : Nat} {W : Int} {s : Option Addr} {n cg : Nat} {xs : List Int} (h : LS w wr kb W s n cg xs) (hb : Below wr.heap.size wr w') : LS w w' kb W s n cg xs :=
  ⟨kept hb (block_lt h.c0) h.c0, kept hb (block_lt h.c1) h.c1, h.row.bel hb, h.bel.trans (hb.mono h.bel.size)⟩
theorem LS.mk0 {w w1 : World} {W : Int} {s : Option Addr} {n cg : Nat} {xs : List Int} (hR : Row w1 s n xs) (hb : Below w.heap.size w w1) : LS w (w1.alloc (.cells #[.int .i64 W, .slice s n cg] 35)) w1.heap.size W s n cg xs :=
  ⟨by simp, by simp, hR.bel ((Below.refl _ _).alloc (Nat.le_refl _) _), hb.alloc hb.size _⟩
end Go.Proofs.Ytemmfnlnhekclaa

namespace Go.Proofs.Ytemmfnlnhekclaa
set_option maxRecDepth 100000
open Go.RowKit

/-- An image in a box: the box, the width, the slice of its rows, the rows. -/
structure BI where
  kb : Nat
  W : Int
  s : Option Addr
  n : Nat
  cg : Nat
  xs : List Int
structure BI.At (wr : World) (b : BI) : Prop where
  c0 : wr.cell? ⟨b.kb, 0, none⟩ = some (.int .i64 b.W)
  c1 : wr.cell? ⟨b.kb, 1, none⟩ = some (.slice b.s b.n b.cg)
  row : Row wr b.s b.n b.xs
structure Ctx (w wr : World) (l : List BI) : Prop where
  all : ∀ b ∈ l, b.At wr
  bel : Below w.heap.size w wr
theorem Ctx.move {w wr w' : World} {l : List BI} (h : Ctx w wr l) (hb : Below wr.heap.size wr w') : Ctx w w' l :=
  ⟨fun b hm => ⟨kept hb (block_lt (h.all b hm).c0) (h.all b hm).c0, kept hb (block_lt (h.all b hm).c1) (h.all b hm).c1, (h.all b hm).row.bel hb⟩, h.bel.trans (hb.mono h.bel.size)⟩
theorem Ctx.nil {w w1 : World} (hb : Below w.heap.size w w1) : Ctx w w1 [] := ⟨fun _ h => (by cases h), hb⟩
theorem Ctx.push {w wr : World} {l : List BI} {W : Int} {s : Option Addr} {n cg : Nat} {xs : List Int} (h : Ctx w wr l) (hR : Row wr s n xs) : Ctx w (wr.alloc (.cells #[.int .i64 W, .slice s n cg] 35)) (⟨wr.heap.size, W, s, n, cg, xs⟩ :: l) := by
  have hm := h.move ((Below.refl _ _).alloc (Nat.le_refl _) (.cells #[.int .i64 W, .slice s n cg] 35))
  refine ⟨fun b hb => ?_, hm.bel⟩
  rcases List.mem_cons.1 hb with e | hb
  · subst e; exact ⟨by simp, by simp, hR.alloc _⟩
  · exact hm.all b hb
theorem Ctx.a0 {w wr : World} {b0 : BI} {l : List BI} (h : Ctx w wr (b0 :: l)) : b0.At wr := h.all _ (.head _)
theorem Ctx.a1 {w wr : World} {b0 b1 : BI} {l : List BI} (h : Ctx w wr (b0 :: b1 :: l)) : b1.At wr := h.all _ (.tail _ (.head _))
theorem Ctx.a2 {w wr : World} {b0 b1 b2 : BI} {l : List BI} (h : Ctx w wr (b0 :: b1 :: b2 :: l)) : b2.At wr := h.all _ (.tail _ (.tail _ (.head _)))
theorem Ctx.pop {w wr : World} {b0 : BI} {l : List BI} (h : Ctx w wr (b0 :: l)) : Ctx w wr l := ⟨fun b hm => h.all b (.tail _ hm), h.bel⟩
theorem Ctx.held2 {w wr w' : World} {b0 b1 : BI} {l : List BI} (h : Ctx w wr (b0 :: b1 :: l)) (hb : Below wr.heap.size wr w') :
    w'.cell? ⟨b0.kb, 0, none⟩ = some (.int .i64 b0.W) ∧ w'.cell? ⟨b0.kb, 1, none⟩ = some (.slice b0.s b0.n b0.cg) ∧ w'.cell? ⟨b1.kb, 0, none⟩ = some (.int .i64 b1.W) ∧ w'.cell? ⟨b1.kb, 1, none⟩ = some (.slice b1.s b1.n b1.cg) ∧ Ctx w w' (b0 :: b1 :: l) :=
  ⟨(h.move hb).a0.c0, (h.move hb).a0.c1, (h.move hb).a1.c0, (h.move hb).a1.c1, h.move hb⟩
theorem Ctx.held3 {w wr w' : World} {b0 b1 b2 : BI} {l : List BI} (h : Ctx w wr (b0 :: b1 :: b2 :: l)) (hb : Below wr.heap.size wr w') :
    w'.cell? ⟨b0.kb, 0, none⟩ = some (.int .i64 b0.W) ∧ w'.cell? ⟨b0.kb, 1, none⟩ = some (.slice b0.s b0.n b0.cg) ∧ w'.cell? ⟨b1.kb, 0, none⟩ = some (.int .i64 b1.W) ∧ w'.cell? ⟨b1.kb, 1, none⟩ = some (.slice b1.s b1.n b1.cg) ∧ w'.cell? ⟨b2.kb, 0, none⟩ = some (.int .i64 b2.W) ∧ w'.cell? ⟨b2.kb, 1, none⟩ = some (.slice b2.s b2.n b2.cg) ∧ Ctx w w' (b0 :: b1 :: b2 :: l) :=
  ⟨(h.move hb).a0.c0, (h.move hb).a0.c1, (h.move hb).a1.c0, (h.move hb).a1.c1, (h.move hb).a2.c0, (h.move hb).a2.c1, h.move hb⟩
theorem frozen_bel {wr w' : World} {b : Nat} (h : ∀ o, wr.frozen? ⟨b, o, none⟩ = false) (hb : Below wr.heap.size wr w') (hl : b < wr.heap.size) : ∀ o, w'.frozen? ⟨b, o, none⟩ = false :=
  fun o => (hb.frozen (p := ⟨b, o, none⟩) (show b < _ from hl)).trans (h o)
theorem own_far {w : World} {B n c k : Nat} {a : Option Addr} {xs : List Int} (h : OwnI w B a n c xs) (hk : k < B) : ∀ b off, a = some ⟨b, off, none⟩ → 0 < n → b ≠ k := by
  intro b off e _
  rcases h.cases with ⟨e', _⟩ | ⟨g, e', h1, _⟩
  · rw [e] at e'; cases e'
  · rw [e] at e'; simp only [Option.some.injEq, Addr.mk.injEq, and_true] at e'; omega
/-- Another image is put into the first box. -/
theorem Ctx.put0 {w wr : World} {b0 b1 : BI} {W : Int} {s : Option Addr} {n cg : Nat} {xs : List Int} (h : Ctx w wr [b0, b1]) (hR : Row wr s n xs) (hs : ∀ b off, s = some ⟨b, off, none⟩ → 0 < n → b ≠ b0.kb) (h1 : ∀ b off, b1.s = some ⟨b, off, none⟩ → 0 < b1.n → b ≠ b0.kb) (hk : b1.kb ≠ b0.kb) (hw : w.heap.size ≤ b0.kb) :
    Ctx w ((wr.setCell ⟨b0.kb, 0, none⟩ (.int .i64 W)).setCell ⟨b0.kb, 1, none⟩ (.slice s n cg)) [⟨b0.kb, W, s, n, cg, xs⟩, b1] := by
  have hg : wr.grownBy ((wr.setCell ⟨b0.kb, 0, none⟩ (.int .i64 W)).setCell ⟨b0.kb, 1, none⟩ (.slice s n cg)) (some b0.kb) := grown_set (grown_set (World.grownBy.refl _ _))
  refine ⟨fun b hb => ?_, (h.bel.setCell (by simpa using hw) _).setCell (by simpa using hw) _⟩
  rcases List.mem_cons.1 hb with e | hb
  · subst e
    refine ⟨?_, ?_, hR.apart hg (fun b off e hl => by have := hs b off e hl; simpa using this)⟩
    · rw [World.cell?_setCell_other _ _ _ _ (by simp)]; exact World.cell?_setCell_same _ _ _ h.a0.c0
    · exact World.cell?_setCell_same _ _ _ (by rw [World.cell?_setCell_other _ _ _ _ (by simp)]; exact h.a0.c1)
  · rcases List.mem_cons.1 hb with e | hb
    · subst e
      exact ⟨hg.cell h.a1.c0 (by simpa using hk), hg.cell h.a1.c1 (by simpa using hk), h.a1.row.apart hg (fun b off e hl => by have := h1 b off e hl; simpa using this)⟩
    · cases hb
/-- What a region needs of two images in boxes, written out. -/
theorem heldTwo {w W W' : World} {p0 p1 q0 q1 : Addr} {u0 u1 v0 v1 : Value} {a a' : Option Addr} {n n' : Nat} {xs xs' : List Int}
    (h : W.cell? p0 = some u0 ∧ W.cell? p1 = some u1 ∧ W.cell? q0 = some v0 ∧ W.cell? q1 = some v1 ∧ Row W a n xs ∧ Row W a' n' xs' ∧ Below w.heap.size w W) (hb : Below W.heap.size W W') :
    W'.cell? p0 = some u0 ∧ W'.cell? p1 = some u1 ∧ W'.cell? q0 = some v0 ∧ W'.cell? q1 = some v1 ∧ Row W' a n xs ∧ Row W' a' n' xs' ∧ Below w.heap.size w W' :=
  ⟨kept hb (block_lt h.1) h.1, kept hb (block_lt h.2.1) h.2.1, kept hb (block_lt h.2.2.1) h.2.2.1, kept hb (block_lt h.2.2.2.1) h.2.2.2.1, h.2.2.2.2.1.bel hb, h.2.2.2.2.2.1.bel hb, h.2.2.2.2.2.2.trans (hb.mono h.2.2.2.2.2.2.size)⟩
theorem Ctx.of2 {w W : World} {b0 b1 : BI} (h : W.cell? ⟨b0.kb, 0, none⟩ = some (.int .i64 b0.W) ∧ W.cell? ⟨b0.kb, 1, none⟩ = some (.slice b0.s b0.n b0.cg) ∧ W.cell? ⟨b1.kb, 0, none⟩ = some (.int .i64 b1.W) ∧ W.cell? ⟨b1.kb, 1, none⟩ = some (.slice b1.s b1.n b1.cg) ∧ Row W b1.s b1.n b1.xs ∧ Row W b0.s b0.n b0.xs ∧ Below w.heap.size w W) : Ctx w W [b0, b1] := by
  refine ⟨fun b hb => ?_, h.2.2.2.2.2.2⟩
  rcases List.mem_cons.1 hb with e | hb
  · subst e; exact ⟨h.1, h.2.1, h.2.2.2.2.2.1⟩
  · rcases List.mem_cons.1 hb with e | hb
    · subst e; exact ⟨h.2.2.1, h.2.2.2.1, h.2.2.2.2.1⟩
    · cases hb
end Go.Proofs.Ytemmfnlnhekclaa

namespace Go.Proofs.Ytemmfnlnhekclaa
set_option maxRecDepth 100000
open Go.RowKit

def set2 (wr : World) (k : Nat) (u0 u1 : Value) : World := (wr.setCell ⟨k, 0, none⟩ u0).setCell ⟨k, 1, none⟩ u1
theorem set2_grown (wr : World) (k : Nat) (u0 u1 : Value) : wr.grownBy ((wr.setCell ⟨k, 0, none⟩ u0).setCell ⟨k, 1, none⟩ u1) (some k) := grown_set (grown_set (World.grownBy.refl _ _))
theorem set2_cell {wr : World} {k : Nat} {p : Addr} {u0 u1 v : Value} (h : wr.cell? p = some v) (hn : p.block < k) : ((wr.setCell ⟨k, 0, none⟩ u0).setCell ⟨k, 1, none⟩ u1).cell? p = some v :=
  (set2_grown wr k u0 u1).cell h (fun e => absurd (Option.some.inj e) (Nat.ne_of_lt hn))
theorem set2_row {wr : World} {k n : Nat} {a : Option Addr} {xs : List Int} {u0 u1 : Value} (h : Row wr a n xs) (hn : ∀ b off, a = some ⟨b, off, none⟩ → 0 < n → b ≠ k) : Row ((wr.setCell ⟨k, 0, none⟩ u0).setCell ⟨k, 1, none⟩ u1) a n xs :=
  h.apart (set2_grown wr k u0 u1) (fun b off e hl h => hn b off e hl (Option.some.inj h))
theorem set2_old {wr : World} {k n : Nat} {a : Option Addr} {xs : List Int} {u0 u1 : Value} (h : Row wr a n xs) (hn : ∀ b off, a = some ⟨b, off, none⟩ → 0 < n → b < k) : Row ((wr.setCell ⟨k, 0, none⟩ u0).setCell ⟨k, 1, none⟩ u1) a n xs :=
  set2_row h fun b off e hl => Nat.ne_of_lt (hn b off e hl)
theorem set2_c0 {wr : World} {k : Nat} {u0 u1 v : Value} (h : wr.cell? ⟨k, 0, none⟩ = some v) : ((wr.setCell ⟨k, 0, none⟩ u0).setCell ⟨k, 1, none⟩ u1).cell? ⟨k, 0, none⟩ = some u0 := by
  rw [World.cell?_setCell_other _ _ _ _ (by simp)]; exact World.cell?_setCell_same _ _ _ h
theorem set2_c1 {wr : World} {k : Nat} {u0 u1 v : Value} (h : wr.cell? ⟨k, 1, none⟩ = some v) : ((wr.setCell ⟨k, 0, none⟩ u0).setCell ⟨k, 1, none⟩ u1).cell? ⟨k, 1, none⟩ = some u1 :=
  World.cell?_setCell_same _ _ _ (by rw [World.cell?_setCell_other _ _ _ _ (by simp)]; exact h)
theorem set2_bel {w wr : World} {B k : Nat} {u0 u1 : Value} (h : Below B w wr) (hB : B ≤ k) : Below B w ((wr.setCell ⟨k, 0, none⟩ u0).setCell ⟨k, 1, none⟩ u1) := (h.setCell hB _).setCell hB _
theorem row_cut {w wr : World} {B n : Nat} {a : Option Addr} {xs : List Int} (h : Row w a n xs) (hb : Below B w wr) (hl : ∀ b off, a = some ⟨b, off, none⟩ → 0 < n → b < B) : Row wr a n xs := by
  obtain ⟨h1, h2⟩ := h
  refine ⟨h1, ?_⟩
  rcases h2 with h2 | ⟨b, off, rfl, hc⟩
  · exact .inl h2
  · by_cases h0 : n = 0
    · exact .inl h0
    · exact .inr ⟨b, off, rfl, fun i hi => kept hb (hl b off rfl (by omega)) (hc i hi)⟩
theorem own_cut {w wr : World} {B C n c : Nat} {a : Option Addr} {xs : List Int} (h : OwnI w C a n c xs) (hb : Below B w wr) (hl : ∀ g, a = some ⟨g, 0, none⟩ → g < B) : OwnI wr C a n c xs := by
  obtain ⟨h1, h2⟩ := h
  refine ⟨h1, ?_⟩
  rcases h2 with h2 | ⟨g, k, cur, e, hg, hc, r⟩
  · exact .inl h2
  · simp only [Value.slice.injEq] at e
    exact .inr ⟨g, k, cur, by simp only [Value.slice.injEq]; exact e, hg, by rw [hb.block g (hl g e.1)]; exact hc, r⟩
end Go.Proofs.Ytemmfnlnhekclaa

namespace Go.Proofs.Ytemmfnlnhekclaa
set_option maxRecDepth 100000
open Go.RowKit

/-- A world that is w but for new memory. -/
structure Bw (w : World) where
  v : World
  h : Below w.heap.size w v
instance (w : World) : Inhabited (Bw w) := ⟨⟨w, Below.refl _ _⟩⟩
theorem wp_region_bw {P : Program} {id : Nat} {Q : Exit → Act → World → Prop} {a : Act} {w : World} {l : List Oper} (hm : P.follows .mixedOrders = true) (hB : Region.lexB .any l.toArray = true)
    (h : wpQuiet P l.toArray (fun w' => ∃ p : Bw w, w' = p.v) (fun a' => ∀ w', (∃ p : Bw w, w' = p.v) → Q .normal a' w') l a) : (Code.region id l.toArray true).wp P Q a w :=
  wp_region_quiet (C := fun w' => ∃ p : Bw w, w' = p.v) hm hB ⟨⟨w.drew, (Below.refl _ _).drew⟩, rfl⟩ (by simpa using h)
theorem bw_of {P : Program} {f : FuncId} {args : Array Value} {w : World} {p : Bw w} {v : Value} (h : Calls P f args p.v fun e w' => e = .returned v ∧ Below p.v.heap.size p.v w') : Calls P f args p.v fun e w'' => e = .returned v ∧ ∃ q : Bw w, w'' = q.v :=
  h.mono fun _ _ ⟨he, hb⟩ => ⟨he, ⟨⟨_, p.h.trans (hb.mono p.h.size)⟩, rfl⟩⟩
theorem bw_cell {w : World} {a : Addr} {v : Value} (h : w.cell? a = some v) (p : Bw w) : p.v.cell? a = some v := kept p.h (block_lt h) h
theorem bw_row {w : World} {a : Option Addr} {n : Nat} {xs : List Int} (h : Row w a n xs) (p : Bw w) : Row p.v a n xs := h.bel p.h
end Go.Proofs.Ytemmfnlnhekclaa
