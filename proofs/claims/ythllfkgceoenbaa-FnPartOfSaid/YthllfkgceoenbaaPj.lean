/-
  The contracts of the laws' drawing functions that draw partitions.
-/
import Derived.Test.YthllfkgceoenbaaPi
import Derived.Test.YthllfkgceoenbaaEw
import Derived.Maps.AppendAt
namespace Go.Proofs.Ythllfkgceoenbaa
open Go.RowKit

set_option maxHeartbeats 800000 in
theorem pdraw_any (r : Nat) (a : Option Addr) (len cap : Nat) (zs : List Int) (p : Nat) (w : World) (h : Rd w r a len cap zs p) (hr : r < w.heap.size) (hf : ∀ b off, a = some ⟨b, off, none⟩ → 0 < len → b < w.heap.size) (hp : p ≤ 800) :
    Calls Try.prog 48 #[.pointer (some ⟨r, 0, none⟩)] w (DrawsL w r a len cap zs p 20) := by
  go_enter Try.func48, Try.ntmps48
  go_wp2_with fail
  refine (ldraw_any r a len cap zs p _ h hr hf (by omega)).mono ?_
  rintro e w1 ⟨s, n, c, xs, p1, rfl, S, hp1, hn, _⟩
  clear h hf
  replace S := Lib.hid S
  obtain ⟨B, hB⟩ : ∃ B, elB xs = B := ⟨_, rfl⟩
  obtain ⟨L, hL⟩ : ∃ L, partOfL xs = L := ⟨_, rfl⟩
  have hLn : L.length ≤ 6 := by rw [← hL]; exact partOf_len xs
  have hc := partOf_spec s n c xs w1 S.out.o.row (by omega)
  rw [hB, hL] at hc
  clear hB hL
  go_wp2_with fail
  refine hc.mono ?_
  rintro e w2 ⟨⟨s2, c2, rfl, ho⟩, hb⟩
  have S2 := Lib.hid (S.out.put (hb.mono S.out.gr.size) (ho.mono S.out.gr.size))
  replace S := Lib.hid (S.out.bel hb)
  clear hb ho hc
  by_cases hv : B = true
  case neg =>
    have hv : B = false := by simpa using hv
    subst hv
    go_wp2_with fail
    go_ret
    exact ⟨s, n, c, xs, p1, rfl, S.out, by omega, hn⟩
  subst hv
  go_wp2_with fail
  refine (pick_any r a len cap zs p1 12 _ S.out.rd (by omega) (by omega)).mono ?_
  rintro e w3 ⟨u, rfl, hu0, hu1, hrd, hg⟩
  replace S := Lib.hid (S.out.pick hrd hg)
  replace S2 := Lib.hid (S2.out.pick hrd hg)
  clear hrd hg
  by_cases e0 : u = 0
  · subst e0
    go_wp2_with fail
    go_ret
    exact ⟨s, n, c, xs, _, rfl, S.out, by omega, hn⟩
  · have b0 : (u == 0) = false := by simpa using e0
    go_wp2_with fail
    go_ret
    exact ⟨s2, L.length, c2, L, _, rfl, S2.out, by omega, by omega⟩

/-- What the drawing functions leave: a list, and a number. -/
def DrawnL (w : World) (e : Ending) (w' : World) : Prop :=
  ∃ (s : Option Addr) (n c : Nat) (xs : List Int), e = .returned (.slice s n c) ∧ OwnI w' w.heap.size s n c xs ∧ n ≤ 13 ∧ s ≠ none ∧ Below w.heap.size w w'
def DrawnLI (w : World) (e : Ending) (w' : World) : Prop :=
  ∃ (s : Option Addr) (n c : Nat) (xs : List Int) (k : Int), e = .returned (.tuple #[.slice s n c, .int .i64 k]) ∧ OwnI w' w.heap.size s n c xs ∧ n ≤ 13 ∧ (-2 ≤ k ∧ k ≤ 9) ∧ Below w.heap.size w w'
def DrawnLL (w : World) (e : Ending) (w' : World) : Prop :=
  ∃ (s : Option Addr) (n c : Nat) (xs : List Int) (s' : Option Addr) (n' c' : Nat) (ys : List Int), e = .returned (.tuple #[.slice s n c, .slice s' n' c']) ∧ Row w' s n xs ∧ Row w' s' n' ys ∧ (n ≤ 13 ∧ n' ≤ 13) ∧ (n ≤ c ∧ n' ≤ c') ∧ Below w.heap.size w w'
theorem Opens.lt {w w1 : World} {a1 : Option Addr} {l1 c1 : Nat} {zs : List Int} (hr : Rd w1 w.heap.size a1 l1 c1 zs 0) : w.heap.size < w1.heap.size ∧ ∀ b off, a1 = some ⟨b, off, none⟩ → 0 < l1 → b < w1.heap.size := by
  refine ⟨block_lt hr.c0, fun b off e hl => ?_⟩
  rcases hr.bys with h0 | ⟨b', off', e', hc⟩
  · omega
  · rw [e] at e'
    simp only [Option.some.injEq, Addr.mk.injEq, and_true] at e'
    obtain ⟨rfl, rfl⟩ := e'
    exact block_lt (hc 0 hl).1

set_option maxHeartbeats 400000 in
theorem draw_DrawPartOf (a : Option Addr) (len cap : Nat) (zs : List Int) (w : World) (h : Bys w a len zs) (hl : len ≤ cap) (hm : cap ≤ 9223372036854775807) :
    Calls Try.prog 20 #[.slice a len cap] w (DrawnL w) := by
  go_enter Try.func20, Try.ntmps20
  go_wp2_with fail
  refine (open_any a len cap zs _ h hl hm).mono ?_
  rintro e w1 ⟨a1, l1, c1, rfl, hr, hb⟩
  have hlt := Opens.lt hr
  have hs := hb.size
  replace hb := Lib.hid hb
  clear h
  go_wp2_with fail
  refine (ldraw_any _ a1 l1 c1 zs 0 w1 hr hlt.1 hlt.2 (by omega)).mono ?_
  rintro e w2 ⟨s, n, c, xs, p1, rfl, S, _, hn, hsn⟩
  have b2 := Lib.hid (grown_cut hb.out S.gr (Nat.le_refl _) hs)
  have ho := Lib.hid (S.o.mono hs)
  replace hsn := Lib.hid hsn
  clear S hr hlt
  go_wp2_with fail
  go_ret
  exact ⟨s, n, c, xs, rfl, ho.out, hn, hsn.out, b2.out⟩

set_option maxHeartbeats 800000 in
theorem draw_DrawPartConj (a : Option Addr) (len cap : Nat) (zs : List Int) (w : World) (h : Bys w a len zs) (hl : len ≤ cap) (hm : cap ≤ 9223372036854775807) :
    Calls Try.prog 26 #[.slice a len cap] w (DrawnLI w) := by
  go_enter Try.func26, Try.ntmps26
  go_wp2_with fail
  refine (open_any a len cap zs _ h hl hm).mono ?_
  rintro e w1 ⟨a1, l1, c1, rfl, hr, hb⟩
  have hlt := Opens.lt hr
  have hs := hb.size
  replace hb := Lib.hid hb
  clear h
  go_wp2_with fail
  refine (pdraw_any _ a1 l1 c1 zs 0 w1 hr hlt.1 hlt.2 (by omega)).mono ?_
  rintro e w2 ⟨s, n, c, xs, p1, rfl, S, hp1, hn⟩
  replace S := Lib.hid S
  clear hr hlt
  go_wp2_with fail
  refine (pick_any _ a1 l1 c1 zs p1 4 _ S.out.rd (by omega) (by omega)).mono ?_
  rintro e w3 ⟨u, rfl, hu0, hu1, hrd, hg⟩
  replace S := Lib.hid (S.out.pick hrd hg)
  clear hrd hg
  by_cases e0 : u = 0
  · subst e0
    go_wp2_with fail
    refine (pick_any _ a1 l1 c1 zs _ 9 _ S.out.rd (by omega) (by omega)).mono ?_
    rintro e w4 ⟨v, rfl, hv0, hv1, hrd, hg⟩
    replace S := Lib.hid (S.out.pick hrd hg)
    have b2 := Lib.hid (grown_cut hb.out S.out.gr (Nat.le_refl _) hs)
    have ho := Lib.hid (S.out.o.mono hs)
    clear hrd hg
    go_wp2_with fail
    go_ret2
    exact ⟨s, n, c, xs, v - 1, rfl, ho.out, hn, by omega, b2.out⟩
  · have b0 : (u == 0) = false := by simpa using e0
    have b2 := Lib.hid (grown_cut hb.out S.out.gr (Nat.le_refl _) hs)
    have ho := Lib.hid (S.out.o.mono hs)
    go_wp2_with fail
    go_ret2
    exact ⟨s, n, c, xs, 6, rfl, ho.out, hn, by omega, b2.out⟩

set_option maxHeartbeats 800000 in
theorem draw_DrawPartSum (a : Option Addr) (len cap : Nat) (zs : List Int) (w : World) (h : Bys w a len zs) (hl : len ≤ cap) (hm : cap ≤ 9223372036854775807) :
    Calls Try.prog 29 #[.slice a len cap] w (DrawnLI w) := by
  go_enter Try.func29, Try.ntmps29
  go_wp2_with fail
  refine (open_any a len cap zs _ h hl hm).mono ?_
  rintro e w1 ⟨a1, l1, c1, rfl, hr, hb⟩
  have hlt := Opens.lt hr
  have hs := hb.size
  replace hb := Lib.hid hb
  clear h
  go_wp2_with fail
  refine (pdraw_any _ a1 l1 c1 zs 0 w1 hr hlt.1 hlt.2 (by omega)).mono ?_
  rintro e w2 ⟨s, n, c, xs, p1, rfl, S, hp1, hn⟩
  replace S := Lib.hid S
  clear hr hlt
  go_wp2_with fail
  refine (pick_any _ a1 l1 c1 zs p1 9 _ S.out.rd (by omega) (by omega)).mono ?_
  rintro e w3 ⟨u, rfl, hu0, hu1, hrd, hg⟩
  replace S := Lib.hid (S.out.pick hrd hg)
  clear hrd hg
  go_wp2_with fail
  refine (pick_any _ a1 l1 c1 zs _ 20 _ S.out.rd (by omega) (by omega)).mono ?_
  rintro e w4 ⟨v, rfl, hv0, hv1, hrd, hg⟩
  replace S := Lib.hid (S.out.pick hrd hg)
  have b2 := Lib.hid (grown_cut hb.out S.out.gr (Nat.le_refl _) hs)
  have ho := Lib.hid (S.out.o.mono hs)
  clear hrd hg
  obtain ⟨q, hq⟩ : ∃ q, v / 19 = q := ⟨_, rfl⟩
  have hq1 : 0 ≤ q ∧ q ≤ 1 := by omega
  have hq2 : v.tdiv 19 = q := by rw [Int.tdiv_eq_ediv_of_nonneg hv0]; exact hq
  go_wp2_with fail
  go_ret2
  exact ⟨s, n, c, xs, u - q, rfl, ho.out, hn, by omega, b2.out⟩

theorem own_news {w : World} {B g n c : Nat} {xs : List Int} (h : OwnI w B (some ⟨g, 0, none⟩) n c xs) : ∀ j u, (xs.map (Value.int .i64))[j]? = some u → w.cell? ((⟨g, 0, none⟩ : Addr).add j) = some u :=
  news_of h.len (fun i hi => by rw [Nat.zero_add]; exact own_cell h hi)

set_option maxHeartbeats 2000000 in
theorem draw_DrawPartBelow (a : Option Addr) (len cap : Nat) (zs : List Int) (w : World) (h : Bys w a len zs) (hl : len ≤ cap) (hm : cap ≤ 9223372036854775807) :
    Calls Try.prog 32 #[.slice a len cap] w (DrawnLL w) := by
  obtain ⟨i0, hi, hz0, hz1, hz2⟩ := info_parts infoInt
  go_enter Try.func32, Try.ntmps32
  go_wp2_with fail
  refine (open_any a len cap zs _ h hl hm).mono ?_
  rintro e w1 ⟨a1, l1, c1, rfl, hr, hb⟩
  have hlt := Opens.lt hr
  have hs := hb.size
  replace hb := Lib.hid hb
  clear h
  go_wp2_with fail
  refine (pdraw_any _ a1 l1 c1 zs 0 w1 hr hlt.1 hlt.2 (by omega)).mono ?_
  rintro e w2 ⟨s, n, c, xs, p1, rfl, S, hp1, hn⟩
  replace S := Lib.hid S
  clear hr hlt
  go_wp2_with fail
  refine (pick_any _ a1 l1 c1 zs p1 3 _ S.out.rd (by omega) (by omega)).mono ?_
  rintro e w3 ⟨u, rfl, hu0, hu1, hrd, hg⟩
  replace S := Lib.hid (S.out.pick hrd hg)
  clear hrd hg
  have hnc := own_cap S.out.o
  have other : ∀ (wx : World) (px : Nat), LR w1 wx w.heap.size a1 l1 c1 zs px s n c xs → px ≤ 30 → Calls Try.prog 48 #[.pointer (some ⟨w.heap.size, 0, none⟩)] wx (fun e w' => ∃ s' n' c' ys, e = .returned (.slice s' n' c') ∧ Row w' s n xs ∧ Row w' s' n' ys ∧ n' ≤ 13 ∧ n' ≤ c' ∧ Below w.heap.size w w') := by
    intro wx px T hpx
    refine (pdraw_any _ a1 l1 c1 zs px wx T.rd (by have := T.hr; have := T.gr.size; omega) (fun b off e hl => by have := T.far b off e hl; have := T.gr.size; omega) (by omega)).mono ?_
    rintro e w' ⟨s', n', c', ys, p', rfl, T', _, hn'⟩
    exact ⟨s', n', c', ys, rfl, (T.o.other T'.gr T.hr).row, T'.o.row, hn', own_cap T'.o, grown_cut hb.out (grown_trans T.gr T'.gr) (Nat.le_refl _) hs⟩
  replace other := Lib.hid other
  by_cases hu : 0 < u
  case neg =>
    go_wp2_with fail
    refine (other.out _ _ S.out (by omega)).mono ?_
    rintro e w4 ⟨s', n', c', ys, rfl, h1, h2, h3, h4, h5⟩
    replace h1 := Lib.hid h1
    replace h2 := Lib.hid h2
    replace h5 := Lib.hid h5
    go_wp2_with fail
    go_ret2
    exact ⟨s, n, c, xs, s', n', c', ys, rfl, h1.out, h2.out, by omega, by omega, h5.out⟩
  by_cases hn1 : 1 < n
  case neg =>
    go_wp2_with fail
    refine (other.out _ _ S.out (by omega)).mono ?_
    rintro e w4 ⟨s', n', c', ys, rfl, h1, h2, h3, h4, h5⟩
    replace h1 := Lib.hid h1
    replace h2 := Lib.hid h2
    replace h5 := Lib.hid h5
    go_wp2_with fail
    go_ret2
    exact ⟨s, n, c, xs, s', n', c', ys, rfl, h1.out, h2.out, by omega, by omega, h5.out⟩
  obtain ⟨B, hB⟩ : ∃ B, partB xs = B := ⟨_, rfl⟩
  have hcv := pvalid_spec s n c xs w3 S.out.o.row (by omega)
  rw [hB] at hcv
  replace hB := Lib.hid hB
  go_wp2_with fail
  refine hcv.mono ?_
  rintro e w4 ⟨rfl, hb4⟩
  replace S := Lib.hid (S.out.bel hb4)
  clear hb4 hcv
  by_cases hv : B = true
  case neg =>
    have hv : B = false := by simpa using hv
    subst hv
    go_wp2_with fail
    refine (other.out _ _ S.out (by omega)).mono ?_
    rintro e w5 ⟨s', n', c', ys, rfl, h1, h2, h3, h4, h5⟩
    replace h1 := Lib.hid h1
    replace h2 := Lib.hid h2
    replace h5 := Lib.hid h5
    go_wp2_with fail
    go_ret2
    exact ⟨s, n, c, xs, s', n', c', ys, rfl, h1.out, h2.out, by omega, by omega, h5.out⟩
  subst hv
  clear other
  have hP := Lib.hid (Par.of hB.out)
  have hlen := S.out.o.len
  obtain ⟨gp, rfl⟩ : ∃ g, s = some ⟨g, 0, none⟩ := by
    rcases S.out.o.cases with ⟨_, h, _⟩ | ⟨g, h, _⟩
    · omega
    · exact ⟨g, h⟩
  have hgp : gp < w4.heap.size := (rng_own S.out.o _ rfl).2
  have hgp1 : w1.heap.size ≤ gp := (rng_own S.out.o _ rfl).1
  have hnew := Lib.hid (own_news S.out.o)
  have sz4 := S.out.gr.size
  go_wp2_with (at_builtin; refine wpList_append_own _ rfl _ _ 23 rfl w4.heap.size 3 i0 (.int .i64 0) 1 8 Try.underlying23 hi hz0 hz1 hz2 rfl (by decide) _ 0 [] rfl (World.ownsRow_lit w4 #[] 0 (Nat.le_refl _) (by decide) rfl) ⟨gp, 0, none⟩ n c (xs.map (Value.int .i64)) rfl ?c1 ?c2 ?c3 ?c4 ?c5 ?c6 ?_)
  case c1 => simp only [List.length_map]; omega
  case c2 => exact fun j u hj => World.cell?_alloc_some (hnew.out j u hj)
  case c3 => exact ints_oneCell _ _
  case c4 => unfold maxLen; omega
  case c5 => omega
  case c6 => simp
  intro v' w5 hown hgr hnil
  obtain ⟨aq, cq, rfl, Q⟩ := own_of (xs := xs) (n := n) (by simpa using hown)
  have hb5 : Below w4.heap.size w4 w5 := ((Below.refl _ _).alloc (Nat.le_refl _) _).grown hgr (by simp) (fun k hk => by simp [Value.ownBlock] at hk; omega)
  obtain ⟨gq, rfl⟩ : ∃ g, aq = some ⟨g, 0, none⟩ := by
    rcases Q.cases with ⟨_, h, _⟩ | ⟨g, h, _⟩
    · omega
    · exact ⟨g, h⟩
  have hgq : w4.heap.size ≤ gq := (rng_own Q _ rfl).1
  replace S := Lib.hid (S.out.bel hb5)
  have sz5 := hb5.size
  replace Q := Lib.hid Q
  clear hown hgr hnil hnew hb5
  have hw1 : IntKind.i64.wrap ((n : Int) - 1) = (n : Int) - 1 := IntWalk.i64_in _ ⟨by omega, by omega⟩
  go_wp2_with fail
  refine (pick_any _ a1 l1 c1 zs _ ((n : Int) - 1) _ S.out.rd (by omega) (by omega)).mono ?_
  rintro e w6 ⟨k, rfl, hk0, hk1, hrd, hg⟩
  replace Q := Lib.hid (Q.out.other hg (by have := S.out.hr; omega))
  replace S := Lib.hid (S.out.pick hrd hg)
  have sz6 := hg.size
  clear hrd hg hw1
  obtain ⟨k, rfl⟩ := Int.eq_ofNat_of_zero_le hk0
  have hkn : k + 1 < n := by omega
  clear hk0 hk1
  have hq1 := own_cell Q.out (i := k + 1) (by omega)
  have hq0 := own_cell Q.out (i := 0) (by omega)
  have fq := Q.out.frozen
  obtain ⟨x, hx⟩ : ∃ x, xs.getD (k + 1) 0 = x := ⟨_, rfl⟩
  obtain ⟨y, hy⟩ : ∃ y, xs.getD 0 0 = y := ⟨_, rfl⟩
  have hx6 := hP.out.bd' (k + 1)
  have hy6 := hP.out.bd' 0
  rw [hx] at hq1 hx6
  rw [hy] at hq0 hy6
  have i2 : (1 + (k : Int)).toNat = k + 1 := by omega
  have i3 : IntKind.i64.wrap (1 + (k : Int)) = 1 + (k : Int) := IntWalk.i64_in _ ⟨by omega, by omega⟩
  have tail : ∀ (wx : World) (qs : List Int), OwnI wx w4.heap.size (some ⟨gq, 0, none⟩) n cq qs → Row wx (some ⟨gp, 0, none⟩) n xs → Below w.heap.size w wx → Calls Try.prog 22 #[.slice (some ⟨gq, 0, none⟩) n cq] wx (fun e w' => ∃ s' n' c' ys ok, e = .returned (.tuple #[.slice s' n' c', .bool ok]) ∧ Row w' (some ⟨gp, 0, none⟩) n xs ∧ Row w' s' n' ys ∧ n' ≤ 13 ∧ n' ≤ c' ∧ Below w.heap.size w w') := by
    intro wx qs T hr hbx
    refine (partOf_spec _ _ _ qs wx T.row (by omega)).mono ?_
    rintro e w' ⟨⟨s', c', rfl, ho⟩, hb'⟩
    have := partOf_len qs
    exact ⟨s', _, c', _, _, rfl, hr.bel hb', ho.row, by omega, own_cap ho, hbx.trans (hb'.mono hbx.size)⟩
  replace tail := Lib.hid tail
  have Rp := Lib.hid S.out.o.row
  have Bx := Lib.hid (grown_cut hb.out S.out.gr (Nat.le_refl _) hs)
  clear S hP
  by_cases hx0 : 0 < x
  case neg =>
    clear hx hy
    go_wp2_with fail
    refine (tail.out _ _ Q.out Rp.out Bx.out).mono ?_
    rintro e w7 ⟨s', n', c', ys, ok, rfl, h1, h2, h3, h4, h5⟩
    replace h1 := Lib.hid h1
    replace h2 := Lib.hid h2
    replace h5 := Lib.hid h5
    go_wp2_with fail
    go_ret2
    exact ⟨_, n, c, xs, s', n', c', ys, rfl, h1.out, h2.out, by omega, by omega, h5.out⟩
  by_cases hy0 : y < 6
  case neg =>
    clear hx hy
    go_wp2_with fail
    refine (tail.out _ _ Q.out Rp.out Bx.out).mono ?_
    rintro e w7 ⟨s', n', c', ys, ok, rfl, h1, h2, h3, h4, h5⟩
    replace h1 := Lib.hid h1
    replace h2 := Lib.hid h2
    replace h5 := Lib.hid h5
    go_wp2_with fail
    go_ret2
    exact ⟨_, n, c, xs, s', n', c', ys, rfl, h1.out, h2.out, by omega, by omega, h5.out⟩
  have Q2 := Q.out.set (k + 1) (x - 1)
  have Q3 := Q2.set 0 (y + 1)
  have hq0' : (w6.setCell ⟨gq, k + 1, none⟩ (.int .i64 (x - 1))).cell? ⟨gq, 0, none⟩ = some (.int .i64 y) := by
    rw [World.cell?_setCell_other _ _ _ _ (by simp)]; exact hq0
  have R3 : Row ((w6.setCell ⟨gq, k + 1, none⟩ (.int .i64 (x - 1))).setCell ⟨gq, 0, none⟩ (.int .i64 (y + 1))) (some ⟨gp, 0, none⟩) n xs :=
    (Rp.out.apart (grown_set (g := gq) (World.grownBy.refl _ _)) (fun b off e _ => by cases e; simp; omega)).apart (grown_set (g := gq) (World.grownBy.refl _ _)) (fun b off e _ => by cases e; simp; omega)
  have B3 : Below w.heap.size w ((w6.setCell ⟨gq, k + 1, none⟩ (.int .i64 (x - 1))).setCell ⟨gq, 0, none⟩ (.int .i64 (y + 1))) :=
    (Bx.out.setCell (by simp; omega) _).setCell (by simp; omega) _
  replace Q3 := Lib.hid Q3
  replace R3 := Lib.hid R3
  replace B3 := Lib.hid B3
  clear hx hy Q2 Q Rp Bx
  go_wp2_with fail
  refine (tail.out _ _ Q3.out R3.out B3.out).mono ?_
  rintro e w7 ⟨s', n', c', ys, ok, rfl, h1, h2, h3, h4, h5⟩
  replace h1 := Lib.hid h1
  replace h2 := Lib.hid h2
  replace h5 := Lib.hid h5
  go_wp2_with fail
  go_ret2
  exact ⟨_, n, c, xs, s', n', c', ys, rfl, h1.out, h2.out, by omega, by omega, h5.out⟩
end Go.Proofs.Ythllfkgceoenbaa

