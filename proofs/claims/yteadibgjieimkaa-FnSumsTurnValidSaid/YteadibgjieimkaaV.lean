/-
  The contracts of the reader of codes: l6Open, pick.
-/
import Derived.Test.YteadibgjieimkaaK
namespace Go.Proofs.Yteadibgjieimkaa
set_option maxRecDepth 100000
open Go.RowKit

/-- A slice of bytes whose elements are 'zs'. -/
def Bys (w : World) (a : Option Addr) (len : Nat) (zs : List Int) : Prop :=
  len = 0 ∨ ∃ b off, a = some ⟨b, off, none⟩ ∧ ∀ i, i < len → w.cell? ⟨b, off + i, none⟩ = some (.int .u8 (zs.getD i 0)) ∧ 0 ≤ zs.getD i 0 ∧ zs.getD i 0 ≤ 255

/-- A reader at block r: what it reads, and how far it is. -/
structure Rd (w : World) (r : Nat) (a : Option Addr) (len cap : Nat) (zs : List Int) (p : Nat) : Prop where
  c0 : w.cell? ⟨r, 0, none⟩ = some (.slice a len cap)
  c1 : w.cell? ⟨r, 1, none⟩ = some (.int .i64 p)
  fz : ∀ o, w.frozen? ⟨r, o, none⟩ = false
  small : len ≤ 2000
  bys : Bys w a len zs
  far : ∀ b off, a = some ⟨b, off, none⟩ → 0 < len → b ≠ r
theorem Bys.apart {W0 wr : World} {a : Option Addr} {len : Nat} {zs : List Int} {row : Option Nat} (h : Bys W0 a len zs) (hg : W0.grownBy wr row) (hn : ∀ b off, a = some ⟨b, off, none⟩ → 0 < len → some b ≠ row) : Bys wr a len zs := by
  rcases h with h2 | ⟨b, off, rfl, hc⟩
  · exact .inl h2
  · by_cases h0 : len = 0
    · exact .inl h0
    · exact .inr ⟨b, off, rfl, fun i hi => ⟨hg.cell (hc i hi).1 (hn b off rfl (by omega)), (hc i hi).2⟩⟩
theorem Bys.bel {W0 wr : World} {a : Option Addr} {len : Nat} {zs : List Int} (h : Bys W0 a len zs) (hb : Below W0.heap.size W0 wr) : Bys wr a len zs := h.apart (below_grown hb none) (fun _ _ _ _ => by simp)
theorem Rd.bel {W0 wr : World} {r : Nat} {a : Option Addr} {len cap : Nat} {zs : List Int} {p : Nat} (h : Rd W0 r a len cap zs p) (hb : Below W0.heap.size W0 wr) : Rd wr r a len cap zs p :=
  ⟨kept hb (block_lt h.c0) h.c0, kept hb (block_lt h.c1) h.c1, fun o => (hb.frozen (p := ⟨r, o, none⟩) (show r < _ from block_lt h.c0)).trans (h.fz o), h.small, h.bys.bel hb, h.far⟩
/-- A change elsewhere leaves a reader as it is. -/
theorem Rd.apart {W0 wr : World} {r g : Nat} {a : Option Addr} {len cap : Nat} {zs : List Int} {p : Nat} (h : Rd W0 r a len cap zs p) (hg : W0.grownBy wr (some g)) (hr : r ≠ g) (hn : ∀ b off, a = some ⟨b, off, none⟩ → 0 < len → b ≠ g) : Rd wr r a len cap zs p :=
  ⟨hg.cell h.c0 (by simpa using hr), hg.cell h.c1 (by simpa using hr), fun o => (World.frozen?_of_block (a := ⟨r, o, none⟩) (hg.block r (show r < _ from block_lt h.c0) (by simpa using hr))).trans (h.fz o), h.small, h.bys.apart hg (fun b off e hl => by have := hn b off e hl; simpa using this), h.far⟩

def Picks (w : World) (r : Nat) (a : Option Addr) (len cap : Nat) (zs : List Int) (p : Nat) (n : Int) (e : Ending) (w' : World) : Prop :=
  ∃ v, e = .returned (.int .i64 v) ∧ 0 ≤ v ∧ (v < n ∨ v = 0) ∧ Rd w' r a len cap zs (p + 1) ∧ w.grownBy w' (some r)

theorem Rd.step {w : World} {r : Nat} {a : Option Addr} {len cap : Nat} {zs : List Int} {p : Nat} (h : Rd w r a len cap zs p) : Rd (w.setCell ⟨r, 1, none⟩ (.int .i64 ((p : Int) + 1))) r a len cap zs (p + 1) ∧ w.grownBy (w.setCell ⟨r, 1, none⟩ (.int .i64 ((p : Int) + 1))) (some r) := by
  have hg : w.grownBy (w.setCell ⟨r, 1, none⟩ (.int .i64 ((p : Int) + 1))) (some r) := grown_set (World.grownBy.refl _ _)
  refine ⟨⟨?_, World.cell?_setCell_same _ _ _ h.c1, fun o => ?_, h.small, h.bys.apart hg (fun b off e hl => by have := h.far b off e hl; simpa using this), h.far⟩, hg⟩
  · rw [World.cell?_setCell_other _ _ _ _ (by simp)]; exact h.c0
  · rw [World.frozen?_setCell]; exact h.fz o

theorem xor_i64 (a b : Nat) (ha : a < 2147483648) (hb : b < 2147483648) : bits .xor .i64 (a : Int) (b : Int) = ((a ^^^ b : Nat) : Int) := by
  have hx : a ^^^ b < 2 ^ 31 := Nat.xor_lt_two_pow (by omega) (by omega)
  have h1 : (BitVec.ofInt 64 (a : Int)).toNat = a := by
    rw [BitVec.ofInt_natCast, BitVec.toNat_ofNat]; exact Nat.mod_eq_of_lt (by omega)
  have h2 : (BitVec.ofInt 64 (b : Int)).toNat = b := by
    rw [BitVec.ofInt_natCast, BitVec.toNat_ofNat]; exact Nat.mod_eq_of_lt (by omega)
  show IntKind.i64.wrap ((BitVec.ofInt 64 (a : Int) ^^^ BitVec.ofInt 64 (b : Int)).toNat : Int) = _
  rw [BitVec.toNat_xor, h1, h2, IntKind.wrap_i64]
  omega
theorem xor_pos {h : Int} (h0 : 0 ≤ h) (h1 : h ≤ 1000000000) : 0 ≤ bits .xor .i64 h (h / 64) := by
  obtain ⟨n, rfl⟩ := Int.eq_ofNat_of_zero_le h0
  have e : ((n : Int) / 64) = ((n / 64 : Nat) : Int) := by omega
  rw [e, xor_i64 n (n / 64) (by omega) (by omega)]
  exact Int.natCast_nonneg _

/-- What pick answers. -/
def pickV (zs : List Int) (len p : Nat) (n : Int) : Int :=
  if n < 1 then 0 else if len = 0 then 0 else if p < len then zs.getD p 0 % n else
    (bits BinOp.xor IntKind.i64 (zs.getD (p % len) 0 * 131 + zs.getD ((p * 7 + 3) % len) 0 * 1117 + (p : Int) * 29 + ((p / len : Nat) : Int) * 53) ((zs.getD (p % len) 0 * 131 + zs.getD ((p * 7 + 3) % len) 0 * 1117 + (p : Int) * 29 + ((p / len : Nat) : Int) * 53) / 64)).tmod n
def PickF (w : World) (r : Nat) (a : Option Addr) (len cap : Nat) (zs : List Int) (p : Nat) (n v : Int) (e : Ending) (w' : World) : Prop :=
  e = .returned (.int .i64 v) ∧ 0 ≤ v ∧ (v < n ∨ v = 0) ∧ Rd w' r a len cap zs (p + 1) ∧ w.grownBy w' (some r)

set_option maxHeartbeats 800000 in
theorem pick_fn (r : Nat) (a : Option Addr) (len cap : Nat) (zs : List Int) (p : Nat) (n : Int) (w : World) (h : Rd w r a len cap zs p) (hp : p ≤ 100000) (hn : n ≤ 1000000) :
    Calls Try.prog 51 #[.pointer (some ⟨r, 0, none⟩), .int .i64 n] w (PickF w r a len cap zs p n (pickV zs len p n)) := by
  have c0 := h.c0
  have c1 := h.c1
  have fz := h.fz
  have hs := Lib.hid h.step
  have small := h.small
  have hby := Lib.hid h.bys
  have hfar := Lib.hid h.far
  clear h
  by_cases h1 : n < 1
  · rw [show pickV zs len p n = 0 from if_pos h1]
    go_enter Try.func51, Try.ntmps51
    go_wp2
    go_ret
    exact ⟨rfl, by omega, by omega, hs.out.1, hs.out.2⟩
  by_cases h2 : len = 0
  · rw [show pickV zs len p n = 0 by unfold pickV; rw [if_neg h1, if_pos h2]]
    subst h2
    go_enter Try.func51, Try.ntmps51
    go_wp2
    go_ret
    exact ⟨rfl, by omega, by omega, hs.out.1, hs.out.2⟩
  have h2' : ((len : Int) == 0) = false := by simp; omega
  rcases hby.out with h0 | ⟨b, off, rfl, hc⟩
  · exact absurd h0 h2
  have hbr := hfar.out b off rfl (by omega)
  by_cases h3 : p < len
  · rw [show pickV zs len p n = zs.getD p 0 % n by unfold pickV; rw [if_neg h1, if_neg h2, if_pos h3]]
    obtain ⟨hx, hx0, hx1⟩ := hc p h3
    have hx' : (w.setCell ⟨r, 1, none⟩ (.int .i64 ((p : Int) + 1))).cell? ⟨b, off + p, none⟩ = some (.int .u8 (zs.getD p 0)) := by rw [World.cell?_setCell_other _ _ _ _ (by first | (simp; done) | (simp; omega))]; exact hx
    generalize zs.getD p 0 = x at hx hx' hx0 hx1 ⊢
    have hw : IntKind.i64.wrap x = x := IntWalk.i64_in _ ⟨by omega, by omega⟩
    have hw2 : wrap64 x = x := IntWalk.wrap64_in _ ⟨by omega, by omega⟩
    clear hc
    go_enter Try.func51, Try.ntmps51
    go_wp2
    go_ret
    exact ⟨rfl, Int.emod_nonneg _ (by omega), .inl (Int.emod_lt_of_pos _ (by omega)), hs.out.1, hs.out.2⟩
  rw [show pickV zs len p n = _ by unfold pickV; rw [if_neg h1, if_neg h2, if_neg h3]]
  obtain ⟨hx, hx0, hx1⟩ := hc (p % len) (Nat.mod_lt _ (by omega))
  obtain ⟨hy, hy0, hy1⟩ := hc ((p * 7 + 3) % len) (Nat.mod_lt _ (by omega))
  have hx' : (w.setCell ⟨r, 1, none⟩ (.int .i64 ((p : Int) + 1))).cell? ⟨b, off + p % len, none⟩ = some (.int .u8 (zs.getD (p % len) 0)) := by rw [World.cell?_setCell_other _ _ _ _ (by first | (simp; done) | (simp; omega))]; exact hx
  have hy' : (w.setCell ⟨r, 1, none⟩ (.int .i64 ((p : Int) + 1))).cell? ⟨b, off + (p * 7 + 3) % len, none⟩ = some (.int .u8 (zs.getD ((p * 7 + 3) % len) 0)) := by rw [World.cell?_setCell_other _ _ _ _ (by first | (simp; done) | (simp; omega))]; exact hy
  generalize zs.getD (p % len) 0 = x at hx hx' hx0 hx1 ⊢
  generalize zs.getD ((p * 7 + 3) % len) 0 = y at hy hy' hy0 hy1 ⊢
  obtain ⟨W1, hW1⟩ : ∃ W1, w.setCell ⟨r, 1, none⟩ (.int .i64 ((p : Int) + 1)) = W1 := ⟨_, rfl⟩
  have k0 := hs.out.1.c0
  have k1 := hs.out.1.c1
  rw [show ((p + 1 : Nat) : Int) = (p : Int) + 1 by omega] at k1
  rw [hW1] at hx' hy' k0 k1
  have hs1 := hs.out.1
  have hs2 := hs.out.2
  rw [hW1] at hs1 hs2
  have t1 : (p : Int).tmod (len : Int) = ((p % len : Nat) : Int) := by rw [Int.tmod_eq_emod_of_nonneg (by omega)]; rfl
  have t2 : ((p : Int) * 7 + 3).tmod (len : Int) = (((p * 7 + 3) % len : Nat) : Int) := by rw [Int.tmod_eq_emod_of_nonneg (by omega)]; rfl
  have t3 : (p : Int).tdiv (len : Int) = ((p / len : Nat) : Int) := by rw [Int.tdiv_eq_ediv_of_nonneg (by omega)]; rfl
  have hq : p / len ≤ p := Nat.div_le_self _ _
  clear hc hx hy
  obtain ⟨W2, hW2⟩ : ∃ W2, W1.drew = W2 := ⟨_, rfl⟩
  have hs1' : Rd W2 r (some ⟨b, off, none⟩) len cap zs (p + 1) := by rw [← hW2]; exact hs1.bel ((Below.refl _ _).drew)
  have hs2' : w.grownBy W2 (some r) := by rw [← hW2]; exact ⟨hs2.os, hs2.tape, hs2.output, hs2.size, hs2.block⟩
  have hs1 := Lib.hid hs1'
  have hs2 := Lib.hid hs2'
  clear hs1' hs2' hs
  have j0 : W2.cell? ⟨r, 0, none⟩ = some (.slice (some ⟨b, off, none⟩) len cap) := by rw [← hW2]; exact k0
  have jx : W2.cell? ⟨b, off + p % len, none⟩ = some (.int .u8 x) := by rw [← hW2]; exact hx'
  have jy : W2.cell? ⟨b, off + (p * 7 + 3) % len, none⟩ = some (.int .u8 y) := by rw [← hW2]; exact hy'
  have i1 : p % len < len := Nat.mod_lt _ (by omega)
  have i2 : (p * 7 + 3) % len < len := Nat.mod_lt _ (by omega)
  have i3 : ((p % len : Nat) : Int) < (len : Int) := by omega
  have i4 : (((p * 7 + 3) % len : Nat) : Int) < (len : Int) := by omega
  have i5 : (0 : Int) ≤ ((p % len : Nat) : Int) := Int.natCast_nonneg _
  have i6 : (0 : Int) ≤ (((p * 7 + 3) % len : Nat) : Int) := Int.natCast_nonneg _
  have l0 : ((len : Int) == 0) = false := h2'
  generalize p % len = u at *
  generalize (p * 7 + 3) % len = v at *
  generalize p / len = d at *
  have s1 : IntKind.i64.wrap ((p : Int) * 7) = (p : Int) * 7 := IntWalk.i64_in _ ⟨by omega, by omega⟩
  have s2 : IntKind.i64.wrap ((p : Int) * 7 + 3) = (p : Int) * 7 + 3 := IntWalk.i64_in _ ⟨by omega, by omega⟩
  have s3 : IntKind.i64.wrap x = x := IntWalk.i64_in _ ⟨by omega, by omega⟩
  have s4 : IntKind.i64.wrap y = y := IntWalk.i64_in _ ⟨by omega, by omega⟩
  have s5 : IntKind.i64.wrap (x * 131) = x * 131 := IntWalk.i64_in _ ⟨by omega, by omega⟩
  have s6 : IntKind.i64.wrap (y * 1117) = y * 1117 := IntWalk.i64_in _ ⟨by omega, by omega⟩
  have s7 : IntKind.i64.wrap (x * 131 + y * 1117) = x * 131 + y * 1117 := IntWalk.i64_in _ ⟨by omega, by omega⟩
  have s8 : IntKind.i64.wrap ((p : Int) * 29) = (p : Int) * 29 := IntWalk.i64_in _ ⟨by omega, by omega⟩
  have s9 : IntKind.i64.wrap (x * 131 + y * 1117 + (p : Int) * 29) = x * 131 + y * 1117 + (p : Int) * 29 := IntWalk.i64_in _ ⟨by omega, by omega⟩
  have s10 : IntKind.i64.wrap (d : Int) = (d : Int) := IntWalk.i64_in _ ⟨by omega, by omega⟩
  have s11 : IntKind.i64.wrap ((d : Int) * 53) = (d : Int) * 53 := IntWalk.i64_in _ ⟨by omega, by omega⟩
  have s12 : IntKind.i64.wrap (x * 131 + y * 1117 + (p : Int) * 29 + (d : Int) * 53) = x * 131 + y * 1117 + (p : Int) * 29 + (d : Int) * 53 := IntWalk.i64_in _ ⟨by omega, by omega⟩
  have b1 : 0 ≤ x * 131 + y * 1117 + (p : Int) * 29 + (d : Int) * 53 := by omega
  have b2 : x * 131 + y * 1117 + (p : Int) * 29 + (d : Int) * 53 ≤ 1000000000 := by omega
  obtain ⟨hh, hhe⟩ : ∃ hh, x * 131 + y * 1117 + (p : Int) * 29 + (d : Int) * 53 = hh := ⟨_, rfl⟩
  rw [hhe] at b1 b2 ⊢
  have hhe' := Lib.hid hhe
  clear hhe
  have lpos : ¬ ((len : Int) < 0) := by omega
  have lp2 : (1 : Int) ≤ (len : Int) := by omega
  go_enter Try.func51, Try.ntmps51
  go_wp2_with fail
  refine region_tail 45 (by kernel_rfl) (by kernel_rfl) W2 hW2 ?_
  simp only [List.take_succ_cons, List.take_zero, List.drop_succ_cons, List.drop_zero]
  clear hW2
  repeat still_step
  refine wpStill_nil ?_
  rw [hhe'.out]
  clear s1 s2 s3 s4 s5 s6 s7 s8 s9 s10 s11 s12 t1 t2 t3
  go_wp2
  go_ret
  have hxp := xor_pos b1 b2
  refine ⟨rfl, ?_, .inl ?_, hs1.out, hs2.out⟩
  · rw [Int.tmod_eq_emod_of_nonneg hxp]; exact Int.emod_nonneg _ (by omega)
  · rw [Int.tmod_eq_emod_of_nonneg hxp]; exact Int.emod_lt_of_pos _ (by omega)

theorem pick_any (r : Nat) (a : Option Addr) (len cap : Nat) (zs : List Int) (p : Nat) (n : Int) (w : World) (h : Rd w r a len cap zs p) (hp : p ≤ 100000) (hn : n ≤ 1000000) :
    Calls Try.prog 51 #[.pointer (some ⟨r, 0, none⟩), .int .i64 n] w (Picks w r a len cap zs p n) :=
  (pick_fn r a len cap zs p n w h hp hn).mono fun _ _ hh => ⟨_, hh⟩

/-- What l6Open leaves. -/
def Opens (w : World) (zs : List Int) (e : Ending) (w' : World) : Prop :=
  ∃ a len cap, e = .returned (.pointer (some ⟨w.heap.size, 0, none⟩)) ∧ Rd w' w.heap.size a len cap zs 0 ∧ Below w.heap.size w w'
set_option maxHeartbeats 400000 in
theorem open_any (a : Option Addr) (len cap : Nat) (zs : List Int) (w : World) (h : Bys w a len zs) (hl : len ≤ cap) (hm : cap ≤ 9223372036854775807) :
    Calls Try.prog 45 #[.slice a len cap] w (Opens w zs) := by
  have hb := Lib.hid h
  have hlt : ∀ b off, a = some ⟨b, off, none⟩ → 0 < len → b < w.heap.size := by
    intro b off e hl
    rcases h with h0 | ⟨b', off', e', hc⟩
    · omega
    · rw [e] at e'
      simp only [Option.some.injEq, Addr.mk.injEq, and_true] at e'
      obtain ⟨rfl, rfl⟩ := e'
      exact block_lt (hc 0 hl).1
  have hlt := Lib.hid hlt
  clear h
  by_cases hbig : 2000 < len
  · rcases hb.out with h0 | ⟨b, off, rfl, hc⟩
    · omega
    have hlt := hlt.out b off rfl (by omega)
    have hc := Lib.hid hc
    go_enter Try.func45, Try.ntmps45
    go_wp2
    go_ret
    refine ⟨some ⟨b, off, none⟩, 2000, cap, rfl, ⟨by simp, by simp, fun o => by simp, by omega, .inr ⟨b, off, rfl, fun i hi => ⟨by rw [World.cell?_alloc_lt _ _ _ (show b < _ from hlt)]; exact (hc.out i (by omega)).1, (hc.out i (by omega)).2⟩⟩, fun b' off' e _ => by simp at e; omega⟩, (Below.refl _ _).alloc (Nat.le_refl _) _⟩
  · go_enter Try.func45, Try.ntmps45
    go_wp2
    go_ret
    refine ⟨a, len, cap, rfl, ⟨by simp, by simp, fun o => by simp, by omega, hb.out.bel ((Below.refl _ _).alloc (Nat.le_refl _) _), fun b' off' e hl => by have := hlt.out b' off' e hl; omega⟩, (Below.refl _ _).alloc (Nat.le_refl _) _⟩
end Go.Proofs.Yteadibgjieimkaa

