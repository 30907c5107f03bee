/-
  The contract of l91Other: an image behind some switches.
-/
import Derived.Test.YtgifpanbjlkmeaaSl
namespace Go.Proofs.Ytgifpanbjlkmeaa
open Go.RowKit

set_option maxHeartbeats 400000 in
theorem list_no (W : Int) (a : Option Addr) (n cap : Nat) (xs : List Int) (w : World) (h : Row w a n xs) (hn : n ≤ 6) (hv : validB W xs = false) :
    Calls Try.prog 81 #[.agg #[.int .i64 W, .slice a n cap]] w fun e w' => (∃ g, e = .returned (.slice (some ⟨g, 0, none⟩) 0 0)) ∧ Below w.heap.size w w' := by
  have H := (h.alloc (.cells #[.int .i64 W, .slice a n cap] 25)).alloc (.cells #[] 79)
  have hb0 : Below w.heap.size w ((w.alloc (.cells #[.int .i64 W, .slice a n cap] 25)).alloc (.cells #[] 79)) := ((Below.refl _ _).alloc (Nat.le_refl _) _).alloc (by simp) _
  go_enter Try.func81, Try.ntmps81
  go_wp2_with fail
  refine (valid_spec _ _ _ _ xs _ H (by omega)).mono ?_
  rintro e w1 ⟨rfl, hb⟩
  rw [hv]
  go_wp2_with fail
  go_ret
  exact ⟨⟨_, rfl⟩, hb0.trans (hb.mono hb0.size)⟩

structure OS (w wr : World) (r : Nat) (a : Option Addr) (len cap : Nat) (zs : List Int) (p : Nat) (W : Int) (s : Option Addr) (n cg : Nat) (xs : List Int) : Prop where
  ib : Box wr w.heap.size (.int .i64 W) (.slice s n cg)
  zb : Box wr (w.heap.size + 1) (.int .i64 0) (.slice none 0 0)
  row : Row wr s n xs
  rd : Rd wr r a len cap zs p
  gr : w.grownBy wr (some r)
  hr : r < w.heap.size
  far : ∀ b off, a = some ⟨b, off, none⟩ → 0 < len → b < w.heap.size
  sr : ∀ b off, s = some ⟨b, off, none⟩ → 0 < n → b ≠ r ∧ b ≠ w.heap.size ∧ b ≠ w.heap.size + 1
theorem OS.pick {w wr w1 : World} {r : Nat} {a : Option Addr} {len cap : Nat} {zs : List Int} {p p' : Nat} {W : Int} {s : Option Addr} {n cg : Nat} {xs : List Int} (h : OS w wr r a len cap zs p W s n cg xs) (hr : Rd w1 r a len cap zs p') (hg : wr.grownBy w1 (some r)) : OS w w1 r a len cap zs p' W s n cg xs := by
  have n1 := h.hr
  exact ⟨h.ib.grown hg (by omega), h.zb.grown hg (by omega), h.row.apart hg (fun b off e hl => by have := (h.sr b off e hl).1; simpa using this), hr, grown_trans h.gr hg, h.hr, h.far, h.sr⟩
theorem OS.bel {w wr w1 : World} {r : Nat} {a : Option Addr} {len cap : Nat} {zs : List Int} {p : Nat} {W : Int} {s : Option Addr} {n cg : Nat} {xs : List Int} (h : OS w wr r a len cap zs p W s n cg xs) (hb : Below wr.heap.size wr w1) : OS w w1 r a len cap zs p W s n cg xs :=
  h.pick (h.rd.bel hb) (below_grown hb _)
theorem OS.put {w wr : World} {r : Nat} {a : Option Addr} {len cap : Nat} {zs : List Int} {p : Nat} {W V : Int} {s t : Option Addr} {n m cg c : Nat} {xs ys : List Int} (h : OS w wr r a len cap zs p W s n cg xs) (hR : Row wr t m ys) (hs : ∀ b off, t = some ⟨b, off, none⟩ → 0 < m → b ≠ r ∧ b ≠ w.heap.size ∧ b ≠ w.heap.size + 1) :
    OS w ((wr.setCell ⟨w.heap.size, 0, none⟩ (.int .i64 V)).setCell ⟨w.heap.size, 1, none⟩ (.slice t m c)) r a len cap zs p V t m c ys := by
  have n1 := h.hr
  have hg := set2_grown wr w.heap.size (.int .i64 V) (.slice t m c)
  exact ⟨⟨set2_c0 h.ib.c0, set2_c1 h.ib.c1, fun o => by rw [World.frozen?_setCell, World.frozen?_setCell]; exact h.ib.fz o⟩, h.zb.grown hg (by omega), set2_row hR (fun b off e hl => (hs b off e hl).2.1),
    h.rd.apart hg (by omega) (fun b off e hl => by have := h.far b off e hl; omega), grown_then h.gr (set2_bel (Below.refl _ _) (Nat.le_refl _)), h.hr, h.far, hs⟩

/-- What l91Other leaves. -/
def OthD (w : World) (r : Nat) (a : Option Addr) (len cap : Nat) (zs : List Int) (p : Nat) (W : Int) (s : Option Addr) (n : Nat) (e : Ending) (w' : World) : Prop :=
  ∃ (t : Option Addr) (c : Nat) (ys : List Int) (p' : Nat), e = .returned (.agg #[.int .i64 W, .slice t n c]) ∧ Row w' t n ys ∧ w.grownBy w' (some r) ∧ Rd w' r a len cap zs p' ∧ p' ≤ p + 20 ∧ (∀ b off, t = some ⟨b, off, none⟩ → 0 < n → t = s ∨ w.heap.size ≤ b)
theorem sw_cells {w : World} {B g c k W n : Nat} {L : List Int} (h : w.ownsRow B 79 4 (.slice (some ⟨g, 0, none⟩) c k) c (L.map (Value.int .i64))) (hg : Good L c W n) {q : Nat} (hq : q < c) :
    ∃ A B C D : Nat, w.cell? ⟨g, q * 4, none⟩ = some (.int .i64 A) ∧ w.cell? ⟨g, q * 4 + 1, none⟩ = some (.int .i64 B) ∧ w.cell? ⟨g, q * 4 + 2, none⟩ = some (.int .i64 C) ∧ w.cell? ⟨g, q * 4 + 3, none⟩ = some (.int .i64 D) ∧ A < B ∧ B < n ∧ C < D ∧ D < W := by
  obtain ⟨A, B', C, D, p1, p2, p3, p4, p5⟩ := hg.2 q hq
  have hl := hg.1
  have cell : ∀ j, j < c * 4 → w.cell? ⟨g, j, none⟩ = some (.int .i64 (L.getD j 0)) := fun j hj => by
    rw [World.ownsRow.cellAt h j (by omega), List.getElem?_map, List.getElem?_eq_getElem (by omega), getD_elem (by omega)]; rfl
  exact ⟨A, B', C, D, by rw [cell _ (by omega), p1], by rw [cell _ (by omega), p2], by rw [cell _ (by omega), p3], by rw [cell _ (by omega), p4], p5⟩

set_option maxHeartbeats 2000000 in
set_option maxRecDepth 100000 in
theorem oth_any (r : Nat) (a : Option Addr) (len cap : Nat) (zs : List Int) (p : Nat) (W : Int) (s : Option Addr) (n cg : Nat) (xs : List Int) (w : World) (h : Rd w r a len cap zs p) (hp : p ≤ 800) (hR : Row w s n xs) (hn : n ≤ 6) (hs : ∀ b off, s = some ⟨b, off, none⟩ → 0 < n → b ≠ r) :
    Calls Try.prog 77 #[.pointer (some ⟨r, 0, none⟩), .agg #[.int .i64 W, .slice s n cg]] w (OthD w r a len cap zs p W s n) := by
  have hrw : r < w.heap.size := block_lt h.c0
  obtain ⟨W0, hW0⟩ : ∃ W0, W0 = (w.alloc (.cells #[.int .i64 W, .slice s n cg] 25)).alloc (.cells #[.int .i64 0, .slice none 0 0] 25) := ⟨_, rfl⟩
  have bb : Below w.heap.size w W0 := by subst hW0; exact ((Below.refl _ _).alloc (Nat.le_refl _) _).alloc (by simp) _
  have hO : OS w W0 r a len cap zs p W s n cg xs :=
    ⟨by subst hW0; exact ⟨by go_simp, by go_simp, fun o => by go_simp⟩, by subst hW0; exact ⟨by go_simp, by go_simp, fun o => by go_simp⟩, hR.bel bb, h.bel bb, below_grown bb _, hrw, h.src, fun b off e hl => by
      have h1 := row_lt hR b off e hl
      have h2 := hs b off e hl
      omega⟩
  replace hO := Lib.hid hO
  clear bb h hR
  go_enter Try.func77, Try.ntmps77
  go_wp2_with fail
  rw [← hW0]
  clear hW0
  refine (pick_any r a len cap zs p 6 _ hO.out.rd (by omega) (by omega)).mono ?_
  rintro e w1 ⟨v, rfl, hv0, hv1, hr, hg⟩
  replace hO := Lib.hid (hO.out.pick hr hg)
  clear hr hg
  obtain ⟨m, rfl⟩ := Int.eq_ofNat_of_zero_le hv0
  go_wp2_with fail
  go_loopw [6] (fun i wr => ∃ (k : Nat) (t : Option Addr) (c : Nat) (ys : List Int) (q : Nat), k ≤ m ∧ i = .int .i64 k ∧ q ≤ p + 1 + k ∧ Hid (OS w wr r a len cap zs q W t n c ys) ∧ Hid (∀ b off, t = some ⟨b, off, none⟩ → 0 < n → t = s ∨ w.heap.size ≤ b)) (fun i _ => m - (intOf i).toNat)
  case atStart => exact ⟨0, s, cg, xs, p + 1, Nat.zero_le _, rfl, by omega, hO, fun _ _ _ _ => .inl rfl⟩
  case round =>
    obtain ⟨k, t, c, ys, q, hk, rfl, hq, hQ, ht⟩ := hrel
    clear hO
    have x0 := hQ.out.ib.c0
    have x1 := hQ.out.ib.c1
    have zr : w.heap.size + 1 < wr.heap.size := block_lt hQ.out.zb.c0
    by_cases hlt : k < m
    · go_wp2_with fail
      by_cases hv : validB W ys = true
      case neg =>
        have hv : validB W ys = false := by simpa using hv
        refine (list_no W t n c ys _ hQ.out.row hn hv).mono ?_
        rintro e w2 ⟨⟨g, rfl⟩, hb⟩
        replace hQ := Lib.hid (hQ.out.bel hb)
        clear hb
        go_wp2_with fail
        exact ⟨⟨k + 1, t, c, ys, q, by omega, by go_num, by omega, hQ, ht⟩, by simp [intOf]; omega⟩
      have hW := validB_W hv
      obtain ⟨W, rfl⟩ := Int.eq_ofNat_of_zero_le (by omega : 0 ≤ W)
      have hI : Im W n ys := Im.of hv hQ.out.row.1
      refine (list_any W t n c ys _ hQ.out.row hI).mono ?_
      rintro e w2 ⟨v, c2, L, rfl, hc2, hown, hgood, hb⟩
      replace hI := Lib.hid hI
      replace hQ := Lib.hid (hQ.out.bel hb)
      have z2 : w.heap.size + 1 < w2.heap.size := block_lt hQ.out.zb.c0
      clear hb x0 x1
      by_cases h0 : c2 = 0
      · subst h0
        rcases hown.2 with ⟨rfl, _⟩ | ⟨g, c3, cur, rfl, _⟩
        · clear hown hgood
          go_wp2_with fail
          exact ⟨⟨k + 1, t, c, ys, q, by omega, by go_num, by omega, hQ, ht⟩, by simp [intOf]; omega⟩
        · clear hown hgood
          go_wp2_with fail
          exact ⟨⟨k + 1, t, c, ys, q, by omega, by go_num, by omega, hQ, ht⟩, by simp [intOf]; omega⟩
      obtain ⟨g, c3, rfl, hgw⟩ : ∃ g c3, v = .slice (some ⟨g, 0, none⟩) c2 c3 ∧ wr.heap.size ≤ g := by
        rcases hown.2 with ⟨_, h⟩ | ⟨g, c3, cur, h, h2, _⟩
        · omega
        · exact ⟨g, c3, h, h2⟩
      have hD := Lib.hid (hQ.out.bel ((Below.refl _ _).drew))
      have hLd := Lib.hid (World.ownsRow.kept hown (below_grown ((Below.refl w2.heap.size w2).drew) none) (.inr (by simp [Value.ownBlock])))
      have hgood := Lib.hid hgood
      have x0 := hQ.out.ib.c0
      have x1 := hQ.out.ib.c1
      clear hown
      go_wp2_with fail
      go_region_law (first | ((go_simp; go_at_call 65; (with_reducible refine (pick_any r a len cap zs q c2 _ hD.out.rd (by omega) (by omega)).mono ?_); rintro e w3 ⟨v3, rfl, hv30, hv31, hr3, hg3⟩; obtain ⟨q3, rfl⟩ := Int.eq_ofNat_of_zero_le hv30; have hO3 := Lib.hid (hD.out.pick hr3 hg3); have hL3 := World.ownsRow.kept hLd.out hg3 (.inr (by simp [Value.ownBlock]; omega)); have hq3 : q3 < c2 := (by omega); obtain ⟨A, B, C, D, s0, s1, s2, s3, i1, i2, i3, i4⟩ := sw_cells hL3 hgood.out hq3; have x0 := hO3.out.ib.c0; have x1 := hO3.out.ib.c1; have sz3 : w2.heap.size ≤ w3.heap.size := hg3.size; clear hr3 hg3 hL3 hLd)) | ((go_simp; go_at_call 82; (with_reducible refine (do_any W t n c ys A B C D _ hO3.out.row hI.out i1 i2 i3 i4).mono ?_); rintro e w4 ⟨t4, c4, ys4, rfl, ho4, hI4, hb4⟩; have hO4 := Lib.hid (hO3.out.bel hb4); have rg4 := rng_own ho4; have hR4 := Lib.hid ho4.row; have x0 := hO4.out.ib.c0; have x1 := hO4.out.ib.c1; have xf := hO4.out.ib.fz; clear hb4 ho4 hI4)))
      all_goals
        go_wp2_with fail
        refine ⟨⟨k + 1, t4, c4, ys4, q + 1, by omega, by go_num, by omega, hO4.out.put hR4.out (fun b off e _ => ?_), fun b off e _ => .inr ?_⟩, by simp [intOf]; omega⟩
        · have := (rg4 _ e).1; simp at this; omega
        · have := (rg4 _ e).1; simp at this; omega
    · have : k = m := by omega
      subst this
      have z0 := hQ.out.zb.c0
      have z1 := hQ.out.zb.c1
      have zf := hQ.out.zb.fz
      go_wp2_with fail
      refine bodyPost_ret (v := .agg #[.int .i64 W, .slice t n c]) (by simp [results, Try.results77, go_sem, z0, z1]) rfl ?_
      have hg := set2_grown wr (w.heap.size + 1) (.int .i64 W) (.slice t n c)
      exact ⟨t, c, ys, q, rfl, set2_row hQ.out.row (fun b off e hl => (hQ.out.sr b off e hl).2.2), grown_then hQ.out.gr (set2_bel (Below.refl _ _) (by omega)), hQ.out.rd.apart hg (by omega) (fun b off e hl => by have := hQ.out.far b off e hl; omega), by omega, ht.out⟩
end Go.Proofs.Ytgifpanbjlkmeaa

