/-
  The contracts of the laws' drawing functions that draw partitions.
-/
import Derived.Test.YteadibgjieimkaaPi
import Derived.Test.YteadibgjieimkaaEw
import Derived.Maps.AppendAt
namespace Go.Proofs.Yteadibgjieimkaa
set_option maxRecDepth 100000
open Go.RowKit

/-- What the drawing functions leave: a list, and a number. -/
def DrawnL (w : World) (e : Ending) (w' : World) : Prop :=
  ∃ (s : Option Addr) (n c : Nat) (xs : List Int), e = .returned (.slice s n c) ∧ OwnI w' w.heap.size s n c xs ∧ n ≤ 13 ∧ s ≠ none ∧ Below w.heap.size w w'
def DrawnLI (w : World) (e : Ending) (w' : World) : Prop :=
  ∃ (s : Option Addr) (n c : Nat) (xs : List Int) (k : Int), e = .returned (.tuple #[.slice s n c, .int .i64 k]) ∧ OwnI w' w.heap.size s n c xs ∧ n ≤ 13 ∧ (-2 ≤ k ∧ k ≤ 9) ∧ Below w.heap.size w w'
def DrawnLL (w : World) (e : Ending) (w' : World) : Prop :=
  ∃ (s : Option Addr) (n c : Nat) (xs : List Int) (s' : Option Addr) (n' c' : Nat) (ys : List Int), e = .returned (.tuple #[.slice s n c, .slice s' n' c']) ∧ Row w' s n xs ∧ Row w' s' n' ys ∧ (n ≤ 13 ∧ n' ≤ 13) ∧ (n ≤ c ∧ n' ≤ c') ∧ Below w.heap.size w w'
theorem Opens.lt {w w1 : World} {a1 : Option Addr} {l1 c1 : Nat} {zs : List Int} (hr : Rd w1 w.heap.size a1 l1 c1 zs 0) : w.heap.size < w1.heap.size ∧ ∀ b off, a1 = some ⟨b, off, none⟩ → 0 < l1 → b < w1.heap.size := by
  refine ⟨block_lt hr.c0, fun b off e hl => ?_⟩
  rcases hr.bys with h0 | ⟨b', off', e', hc⟩
  · omega
  · rw [e] at e'
    simp only [Option.some.injEq, Addr.mk.injEq, and_true] at e'
    obtain ⟨rfl, rfl⟩ := e'
    exact block_lt (hc 0 hl).1

set_option maxHeartbeats 400000 in
theorem draw_DrawPartOf (a : Option Addr) (len cap : Nat) (zs : List Int) (w : World) (h : Bys w a len zs) (hl : len ≤ cap) (hm : cap ≤ 9223372036854775807) :
    Calls Try.prog 25 #[.slice a len cap] w (DrawnL w) := by
  go_enter Try.func25, Try.ntmps25
  go_wp2_with fail
  refine (open_any a len cap zs _ h hl hm).mono ?_
  rintro e w1 ⟨a1, l1, c1, rfl, hr, hb⟩
  have hlt := Opens.lt hr
  have hs := hb.size
  replace hb := Lib.hid hb
  clear h
  go_wp2_with fail
  refine (ldraw_any _ a1 l1 c1 zs 0 w1 hr hlt.1 hlt.2 (by omega)).mono ?_
  rintro e w2 ⟨s, n, c, xs, p1, rfl, S, _, hn, hsn⟩
  have b2 := Lib.hid (grown_cut hb.out S.gr (Nat.le_refl _) hs)
  have ho := Lib.hid (S.o.mono hs)
  replace hsn := Lib.hid hsn
  clear S hr hlt
  go_wp2_with fail
  go_ret
  exact ⟨s, n, c, xs, rfl, ho.out, hn, hsn.out, b2.out⟩

theorem own_news {w : World} {B g n c : Nat} {xs : List Int} (h : OwnI w B (some ⟨g, 0, none⟩) n c xs) : ∀ j u, (xs.map (Value.int .i64))[j]? = some u → w.cell? ((⟨g, 0, none⟩ : Addr).add j) = some u :=
  news_of h.len (fun i hi => by rw [Nat.zero_add]; exact own_cell h hi)

end Go.Proofs.Yteadibgjieimkaa

