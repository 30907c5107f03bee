/-
  The contract of the laws' drawing function that draws a text.
-/
import Derived.Test.YtiegonpgfbmidaaAt
import Derived.Test.YtiegonpgfbmidaaTy
namespace Go.Proofs.Ytiegonpgfbmidaa
open Go.RowKit

def SmallS (w : World) (b n : Nat) : Prop := ∀ i, i < n → ∃ s : ByteArray, w.cell? ⟨b, i, none⟩ = some (.string s) ∧ s.size ≤ 100
def PicksS (w : World) (r : Nat) (a : Option Addr) (len cap : Nat) (zs : List Int) (p : Nat) (e : Ending) (w' : World) : Prop :=
  ∃ s : ByteArray, e = .returned (.string s) ∧ s.size ≤ 100 ∧ Rd w' r a len cap zs (p + 1) ∧ w.grownBy w' (some r)
set_option maxHeartbeats 400000 in
theorem of_any (r b n : Nat) (a : Option Addr) (len cap : Nat) (zs : List Int) (p : Nat) (w : World) (h : Rd w r a len cap zs p) (hp : p ≤ 100000) (hn1 : 1 ≤ n) (hn : n ≤ 1000) (hS : SmallS w b n) (hb : b ≠ r) :
    Calls Try.prog 53 #[.pointer (some ⟨r, 0, none⟩), .slice (some ⟨b, 0, none⟩) n n] w (PicksS w r a len cap zs p) := by
  go_enter Try.func53, Try.ntmps53
  go_wp2_with fail
  refine (pick_any r a len cap zs p n w h hp (by omega)).mono ?_
  rintro e w1 ⟨v, rfl, hv0, hv1, hr1, hg⟩
  obtain ⟨v, rfl⟩ := Int.eq_ofNat_of_zero_le hv0
  have hvn : v < n := by omega
  obtain ⟨s, hs, hsz⟩ := hS v hvn
  have hc := hg.cell hs (by simpa using hb)
  clear hS hs
  have hr1 := Lib.hid hr1
  have hg := Lib.hid hg
  go_wp2_with fail
  go_ret
  exact ⟨s, rfl, hsz, hr1.out, hg.out⟩

def DrawnS (w : World) (e : Ending) (w' : World) : Prop := ∃ s : ByteArray, e = .returned (.string s) ∧ s.size ≤ 1000 ∧ Below w.heap.size w w'

set_option maxHeartbeats 800000 in
theorem draw_DrawImageFrom (a : Option Addr) (len cap : Nat) (zs : List Int) (w : World) (h : Bys w a len zs) (hl : len ≤ cap) (hm : cap ≤ 9223372036854775807) :
    Calls Try.prog 31 #[.slice a len cap] w (DrawnS w) := by
  go_enter Try.func31, Try.ntmps31
  go_wp2_with fail
  refine (open_any a len cap zs _ h hl hm).mono ?_
  rintro e w1 ⟨a1, l1, c1, rfl, hr, hb1⟩
  have hs1 := hb1.size
  have hrlt : w.heap.size < w1.heap.size := block_lt hr.c0
  have hb1 := Lib.hid hb1
  go_wp2_with fail
  refine (image_any _ a1 l1 c1 zs 0 w1 hr (by omega)).mono ?_
  rintro e w2 ⟨W, n, xs, g, cg, p, rfl, ho, hI, hr2, hp, hg2⟩
  have bb2 := Lib.hid (grown_cut hb1.out hg2 (Nat.le_refl _) (by omega))
  have hr2 := Lib.hid hr2
  have hn6 := hI.l6
  have hW6 := hI.w6
  have htx : (textOf (W : Int) xs).length ≤ 42 := by
    unfold textOf
    rw [if_pos hI.valid, text_length, hI.hl, Int.toNat_natCast]
    exact (Nat.mul_le_mul hn6 (show W + 1 ≤ 7 by omega) : n * (W + 1) ≤ 6 * 7)
  have ho := Lib.hid ho
  have hI := Lib.hid hI
  clear hr hb1 hg2
  go_wp2_with fail
  refine (text_spec W _ n cg xs _ ho.out.row (by omega)).mono ?_
  rintro e w3 ⟨rfl, hb3⟩
  generalize textOf (W : Int) xs = T at htx
  have bb3 := Lib.hid (bb2.out.trans (hb3.mono bb2.out.size))
  have hr3 := Lib.hid (hr2.out.bel hb3)
  clear hb3 bb2 hr2 ho
  go_wp2_with fail
  refine (pick_any _ a1 l1 c1 zs p 8 _ hr3.out (by omega) (by omega)).mono ?_
  rintro e w4 ⟨v, rfl, hv0, hv1, hr4, hg4⟩
  have bb4 := Lib.hid (grown_cut bb3.out hg4 (Nat.le_refl _) bb3.out.size)
  have hr4 := Lib.hid hr4
  have hrlt4 : w.heap.size < w4.heap.size := block_lt hr4.out.c0
  clear hg4 bb3 hr3
  by_cases e0 : v = 0
  · subst e0
    go_wp2_with fail
    refine (of_any w.heap.size w4.heap.size 7 a1 l1 c1 zs (p + 1) _ (hr4.out.bel ((Below.refl _ _).alloc (Nat.le_refl _) _)) (by omega) (by omega) (by omega) ?_ (by omega)).mono ?_
    · intro i hi
      match i, hi with
      | 0, _ => exact ⟨_, by simp; rfl, by decide⟩
      | 1, _ => exact ⟨_, by simp; rfl, by decide⟩
      | 2, _ => exact ⟨_, by simp; rfl, by decide⟩
      | 3, _ => exact ⟨_, by simp; rfl, by decide⟩
      | 4, _ => exact ⟨_, by simp; rfl, by decide⟩
      | 5, _ => exact ⟨_, by simp; rfl, by decide⟩
      | 6, _ => exact ⟨_, by simp; rfl, by decide⟩
    rintro e w5 ⟨s, rfl, hsz, _, hg5⟩
    have bb5 := Lib.hid (grown_cut (bb4.out.alloc bb4.out.size _) hg5 (Nat.le_refl _) (bb4.out.alloc bb4.out.size _).size)
    clear hg5 bb4 hr4
    go_wp2_with fail
    go_ret
    exact ⟨s, rfl, by omega, bb5.out⟩
  by_cases e1 : v = 1
  · subst e1
    go_wp2_with fail
    refine (of_any w.heap.size w4.heap.size 4 a1 l1 c1 zs (p + 1) _ (hr4.out.bel ((Below.refl _ _).alloc (Nat.le_refl _) _)) (by omega) (by omega) (by omega) ?_ (by omega)).mono ?_
    · intro i hi
      match i, hi with
      | 0, _ => exact ⟨_, by simp; rfl, by decide⟩
      | 1, _ => exact ⟨_, by simp; rfl, by decide⟩
      | 2, _ => exact ⟨_, by simp; rfl, by decide⟩
      | 3, _ => exact ⟨_, by simp; rfl, by decide⟩
    rintro e w5 ⟨s, rfl, hsz, _, hg5⟩
    have bb5 := Lib.hid (grown_cut (bb4.out.alloc bb4.out.size _) hg5 (Nat.le_refl _) (bb4.out.alloc bb4.out.size _).size)
    have hmk : (ByteArray.mk T.toArray).size = T.length := by simp only [ByteArray.size, List.size_toArray]
    clear hg5 bb4 hr4
    go_wp2_with fail
    go_ret
    exact ⟨_, rfl, by rw [ByteArray.size_append, hmk]; omega, bb5.out⟩
  go_wp2_with fail
  go_ret
  exact ⟨_, rfl, by simp only [ByteArray.size, List.size_toArray]; omega, bb4.out⟩
end Go.Proofs.Ytiegonpgfbmidaa

