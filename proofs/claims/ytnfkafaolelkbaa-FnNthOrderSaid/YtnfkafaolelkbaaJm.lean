/-
  The laws' drawing of sums at any number of cells, one to thirty-six.
-/
import Derived.Test.YtnfkafaolelkbaaEp
import Derived.Test.YtnfkafaolelkbaaKd
namespace Go.Proofs.Ytnfkafaolelkbaa
set_option maxRecDepth 100000
open Go.RowKit

set_option maxHeartbeats 800000 in
theorem sums_c (cs : Nat) (hcs1 : 1 ≤ cs) (hcs : cs ≤ 36) (r : Nat) (a : Option Addr) (len cap : Nat) (zs : List Int) (p : Nat) (w : World) (h : Rd w r a len cap zs p) (hp : p ≤ 700) :
    Calls Try.prog 88 #[.pointer (some ⟨r, 0, none⟩), .int .i64 (cs : Int)] w (SumsD w r a len cap zs p) := by
  have hrw : r < w.heap.size := block_lt h.c0
  have far := Lib.hid h.src
  go_enter Try.func88, Try.ntmps88
  go_wp2_with fail
  refine (image_c cs hcs1 hcs r a len cap zs p _ h (by omega)).mono ?_
  rintro e w1 ⟨W, H, xs, g, cg, p1, rfl, ho, hI, hr1, hp1, hg1⟩
  have hW1 := hI.w1
  have hW6 := hI.w6
  have hH1 := hI.l1
  have hH6 := hI.l6
  have b1 : Below w1.heap.size w1 (w1.alloc (.cells #[.int .i64 W, .slice (some ⟨g, 0, none⟩) H cg] 30)) := (Below.refl _ _).alloc (Nat.le_refl _) _
  have y0 : (w1.alloc (.cells #[.int .i64 W, .slice (some ⟨g, 0, none⟩) H cg] 30)).cell? ⟨w1.heap.size, 0, none⟩ = some (.int .i64 W) := by simp
  have y1 : (w1.alloc (.cells #[.int .i64 W, .slice (some ⟨g, 0, none⟩) H cg] 30)).cell? ⟨w1.heap.size, 1, none⟩ = some (.slice (some ⟨g, 0, none⟩) H cg) := by simp
  have row := Lib.hid (ho.row.bel b1)
  have rd := Lib.hid (hr1.bel b1)
  have gr := Lib.hid (grown_then hg1 (b1.mono hg1.size))
  have s1 := hg1.size
  have hI := Lib.hid hI
  clear ho hr1 hg1 b1 h
  go_wp2_with fail
  refine (rs_sok hI.out _ _ _ row.out).mono ?_
  rintro e w2 ⟨⟨aR, cR, rfl, hoR⟩, hb⟩
  have s2 : w1.heap.size + 1 ≤ w2.heap.size := by have := hb.size; simpa using this
  have y0 := kept hb (by simp) y0
  have y1 := kept hb (by simp) y1
  have row := Lib.hid (row.out.bel hb)
  have rd := Lib.hid (rd.out.bel hb)
  have gr := Lib.hid (grown_then gr.out (hb.mono (by simp; omega)))
  have hoR := Lib.hid (hoR.mono (B' := w.heap.size) (by simp; omega))
  clear hb
  go_wp2_with fail
  refine (cs_sok hI.out _ _ _ row.out).mono ?_
  rintro e w3 ⟨⟨aC, cC, rfl, hoC⟩, hb⟩
  obtain ⟨gR, rfl⟩ : ∃ gR, aR = some ⟨gR, 0, none⟩ := by
    rcases hoR.out.cases with ⟨_, h, _⟩ | ⟨g, h, _⟩
    · omega
    · exact ⟨g, h⟩
  obtain ⟨gC, rfl⟩ : ∃ gC, aC = some ⟨gC, 0, none⟩ := by
    rcases hoC.cases with ⟨_, h, _⟩ | ⟨g, h, _⟩
    · omega
    · exact ⟨g, h⟩
  have n1 := own_ge hoR.out
  have n2 := own_ge hoC
  have hs3 := hb.size
  have S : SS w w3 r a len cap zs p1 gR H cR (rsL xs W H) gC W cC (csL xs H W) :=
    ⟨hoR.out.bel hb, hoC.mono (by omega), by omega, rd.out.bel hb, grown_then gr.out (hb.mono (by omega)), hrw, far.out⟩
  have bR := bd_wide (lo' := -1) (hi' := 7) (fun i hi => hI.out.rs_bd (i := i) hi) (by omega) (by omega)
  have bC := bd_wide (lo' := -1) (hi' := 7) (fun i hi => hI.out.cs_bd (j := i) hi) (by omega) (by omega)
  have bC6 := bd_wide (lo' := 0) (hi' := 6) (fun i hi => hI.out.cs_bd (j := i) hi) (by omega) (by omega)
  have lR : (rsL xs W H).length = H := rs_len _ _ _
  have lC : (csL xs H W).length = W := cs_len _ _ _
  generalize rsL xs W H = rows at S bR lR
  generalize csL xs H W = cols at S bC lC bC6
  have bR := Lib.hid bR
  have bC := Lib.hid bC
  have bC6 := Lib.hid bC6
  have S := Lib.hid S
  clear row rd gr hoR hoC hb y0 y1 n1 n2 hI far s1 s2 hs3
  go_wp2_with fail
  refine (pick_any r a len cap zs p1 8 _ S.out.rd (by omega) (by omega)).mono ?_
  rintro e w4 ⟨v, rfl, hv0, hv1, hr, hg⟩
  have S := Lib.hid (S.out.pick hr hg)
  clear hr hg
  by_cases e0 : v = 0
  · subst e0
    go_wp2_with fail
    refine (pick_any r a len cap zs _ H _ S.out.rd (by omega) (by omega)).mono ?_
    rintro e w5 ⟨k, rfl, hk0, hk1, hr, hg⟩
    have S := Lib.hid (S.out.pick hr hg)
    clear hr hg
    go_wp2_with fail
    refine (pick_any r a len cap zs _ ((W : Int) + 1) _ S.out.rd (by omega) (by omega)).mono ?_
    rintro e w6 ⟨u, rfl, hu0, hu1, hr, hg⟩
    have S := (S.out.pick hr hg)
    clear hr hg
    obtain ⟨k, rfl⟩ := Int.eq_ofNat_of_zero_le hk0
    have hc := own_cell S.oR (i := k) (by omega)
    have hf := S.oR.frozen
    have S2 := Lib.hid (S.setR k u)
    clear S
    go_wp2_with fail
    refine bodyPost_ret (v := .tuple #[.slice (some ⟨gR, 0, none⟩) H cR, .slice (some ⟨gC, 0, none⟩) W cC]) (by simp [results, Try.results88, go_sem]) rfl ?_
    exact ⟨gR, H, cR, _, gC, W, cC, cols, _, rfl, S2.out, by omega, by omega, set_bd lR bR.out (by omega), bC.out⟩
  by_cases e1 : v = 1
  · subst e1
    go_wp2_with fail
    refine (pick_any r a len cap zs _ W _ S.out.rd (by omega) (by omega)).mono ?_
    rintro e w5 ⟨k, rfl, hk0, hk1, hr, hg⟩
    have S := Lib.hid (S.out.pick hr hg)
    clear hr hg
    go_wp2_with fail
    refine (pick_any r a len cap zs _ W _ S.out.rd (by omega) (by omega)).mono ?_
    rintro e w6 ⟨l, rfl, hl0, hl1, hr, hg⟩
    have S := (S.out.pick hr hg)
    clear hr hg
    obtain ⟨k, rfl⟩ := Int.eq_ofNat_of_zero_le hk0
    obtain ⟨l, rfl⟩ := Int.eq_ofNat_of_zero_le hl0
    have hc := own_cell S.oC (i := k) (by omega)
    have hf := S.oC.frozen
    have q1 := bC6.out k (by omega)
    generalize cols.getD k 0 = x at hc q1
    have S2 := S.setC k (x + 1)
    have bd2 := set_bd (k := k) (v := x + 1) (lo := 0) (hi := 7) lC (bd_wide bC6.out (by omega) (by omega)) (by omega)
    have lC2 : (cols.set k (x + 1)).length = W := by rw [List.length_set]; exact lC
    generalize cols.set k (x + 1) = cols2 at S2 bd2 lC2
    have hc2 := own_cell S2.oC (i := l) (by omega)
    have hf2 := S2.oC.frozen
    have q2 := bd2 l (by omega)
    generalize cols2.getD l 0 = y at hc2 q2
    have S3 := Lib.hid (S2.setC l (y - 1))
    have bd3 := Lib.hid (set_bd (k := l) (v := y - 1) (lo := -1) (hi := 7) lC2 (bd_wide bd2 (by omega) (by omega)) (by omega))
    have i1 : IntKind.i64.wrap (x + 1) = x + 1 := IntWalk.i64_in _ ⟨by omega, by omega⟩
    have i2 : IntKind.i64.wrap (y - 1) = y - 1 := IntWalk.i64_in _ ⟨by omega, by omega⟩
    clear S S2
    go_wp2_with fail
    refine bodyPost_ret (v := .tuple #[.slice (some ⟨gR, 0, none⟩) H cR, .slice (some ⟨gC, 0, none⟩) W cC]) (by simp [results, Try.results88, go_sem]) rfl ?_
    exact ⟨gR, H, cR, rows, gC, W, cC, _, _, rfl, S3.out, by omega, by omega, bR.out, bd3.out⟩
  by_cases e2 : v = 2
  · subst e2
    go_wp2_with fail
    refine (pick_any r a len cap zs _ 2 _ S.out.rd (by omega) (by omega)).mono ?_
    rintro e w5 ⟨k, rfl, hk0, hk1, hr, hg⟩
    have S := (S.out.pick hr hg)
    clear hr hg
    have hc := own_cell S.oC (i := 0) (by omega)
    have hf := S.oC.frozen
    have S2 := Lib.hid (S.setC 0 ((H : Int) + k))
    have i1 : IntKind.i64.wrap ((H : Int) + k) = (H : Int) + k := IntWalk.i64_in _ ⟨by omega, by omega⟩
    clear S
    go_wp2_with fail
    refine bodyPost_ret (v := .tuple #[.slice (some ⟨gR, 0, none⟩) H cR, .slice (some ⟨gC, 0, none⟩) W cC]) (by simp [results, Try.results88, go_sem]) rfl ?_
    exact ⟨gR, H, cR, rows, gC, W, cC, _, _, rfl, S2.out, by omega, by omega, bR.out, set_bd lC bC.out (by omega)⟩
  go_wp2_with fail
  refine bodyPost_ret (v := .tuple #[.slice (some ⟨gR, 0, none⟩) H cR, .slice (some ⟨gC, 0, none⟩) W cC]) (by simp [results, Try.results88, go_sem]) rfl ?_
  exact ⟨gR, H, cR, rows, gC, W, cC, cols, _, rfl, S.out, by omega, by omega, bR.out, bC.out⟩

set_option maxHeartbeats 800000 in
theorem sumsW_c (cs : Nat) (hcs1 : 1 ≤ cs) (hcs : cs ≤ 36) (r : Nat) (a : Option Addr) (len cap : Nat) (zs : List Int) (p : Nat) (w : World) (h : Rd w r a len cap zs p) (hp : p ≤ 700) :
    Calls Try.prog 54 #[.pointer (some ⟨r, 0, none⟩), .int .i64 (cs : Int)] w (SumsW w r a len cap zs p) := by
  go_enter Try.func54, Try.ntmps54
  go_wp2_with fail
  refine (sums_c cs hcs1 hcs r a len cap zs p _ h (by omega)).mono ?_
  rintro e w1 ⟨gR, n, cR, xs, gC, m, cC, ys, p1, rfl, S, hp1, hnm, bR, bC⟩
  have S := Lib.hid S
  have bR := Lib.hid bR
  have bC := Lib.hid bC
  clear h
  go_wp2_with fail
  refine (pick_any r a len cap zs p1 30 _ S.out.rd (by omega) (by omega)).mono ?_
  rintro e w2 ⟨v, rfl, hv0, hv1, hr, hg⟩
  have S := S.out.pick hr hg
  have hne : ∀ g g', (some ⟨gR, 0, none⟩ : Option Addr) = some ⟨g, 0, none⟩ → (some ⟨gC, 0, none⟩ : Option Addr) = some ⟨g', 0, none⟩ → g ≠ g' := fun g g' h1 h2 => by
    have := S.ne
    simp only [Option.some.injEq, Addr.mk.injEq, and_true] at h1 h2
    omega
  clear hr hg
  by_cases e0 : v = 0
  · subst e0
    have hc := own_cell S.oR (i := 0) (by omega)
    have hf := S.oR.frozen
    have lR := S.oR.len
    have S2 := Lib.hid (S.setR 0 (-1))
    clear S
    go_wp2_with fail
    refine bodyPost_ret (v := .tuple #[.slice (some ⟨gR, 0, none⟩) n cR, .slice (some ⟨gC, 0, none⟩) m cC]) (by simp [results, Try.results54, go_sem]) rfl ?_
    exact ⟨_, n, cR, _, _, m, cC, ys, _, rfl, S2.out.oR, S2.out.oC, hne, S2.out.rd, S2.out.gr, by omega, by omega, set_bd lR bR.out (by omega), bC.out⟩
  by_cases e1 : v = 1
  · subst e1
    have hb : Below w2.heap.size w2 (w2.alloc (.cells #[] 3)) := (Below.refl _ _).alloc (Nat.le_refl _) _
    have hz := S.gr.size
    have hown := own_ge S.oC
    have S := Lib.hid S
    go_wp2_with fail
    refine bodyPost_ret (v := .tuple #[.slice (some ⟨w2.heap.size, 0, none⟩) 0 0, .slice (some ⟨gC, 0, none⟩) m cC]) (by simp [results, Try.results54, go_sem]) rfl ?_
    refine ⟨_, 0, 0, [], _, m, cC, ys, _, rfl, own_empty w2 w.heap.size w2.heap.size rfl hz, S.out.oC.bel hb, ?_, S.out.rd.bel hb, grown_then S.out.gr (hb.mono hz), by omega, by omega, fun i hi => absurd hi (Nat.not_lt_zero _), bC.out⟩
    intro g g' h1 h2
    simp only [Option.some.injEq, Addr.mk.injEq, and_true] at h1 h2
    omega
  by_cases e2 : v = 2
  · subst e2
    obtain ⟨i0, hi, hz0, hz1, hz2⟩ := info_parts infoInt
    have hz := S.gr.size
    have hown := own_ge S.oR
    have hownC := own_ge S.oC
    have hrw := S.hr
    have lC := S.oC.len
    have S := Lib.hid S
    have hb : Below w2.heap.size w2 (w2.alloc (.cells #[.int .i64 0, .int .i64 0, .int .i64 0, .int .i64 0, .int .i64 0, .int .i64 0] 3)) := (Below.refl _ _).alloc (Nat.le_refl _) _
    go_wp2_with (at_builtin; refine wpList_append_own_at _ rfl _ _ 23 rfl w.heap.size 3 i0 (.int .i64 0) 1 8 Try.underlying23 hi hz0 hz1 hz2 rfl (by decide) _ m (ys.map (Value.int .i64)) rfl (World.ownsRow.alloc S.out.oC _) ⟨w2.heap.size, 0, none⟩ 6 6 [.int .i64 0, .int .i64 0, .int .i64 0, .int .i64 0, .int .i64 0, .int .i64 0] rfl rfl ?c1 ?c2 ?c3 ?c4 ?c5 ?_)
    case c1 => intro j u hj; match j, hj with | 0, hj | 1, hj | 2, hj | 3, hj | 4, hj | 5, hj => simp at hj; subst hj; simp [Addr.add]
    case c2 => intro u hu; simp at hu; subst hu; rfl
    case c3 => unfold maxLen; omega
    case c4 => omega
    case c5 => simp; omega
    intro v' w3 hown1 hgr _ hblk
    have hgr : (w2.alloc (.cells #[.int .i64 0, .int .i64 0, .int .i64 0, .int .i64 0, .int .i64 0, .int .i64 0] 3)).grownBy w3 (some gC) := hgr
    obtain ⟨a', cap', rfl, ho3⟩ := own_of (xs := ys ++ [0, 0, 0, 0, 0, 0]) (by rw [List.map_append]; exact hown1)
    have hb3 : Below w.heap.size w2 w3 := ((Below.refl w.heap.size w2).alloc hz _).grown hgr (by simp; omega) (fun k hk => by simp at hk; omega)
    have hoR : OwnI w3 w.heap.size (some ⟨gR, 0, none⟩) n cR xs := World.ownsRow.kept (S.out.oR.bel hb) hgr (.inr (by have := S.out.ne; simp [Value.ownBlock]; omega))
    have hrd : Rd w3 r a len cap zs (p1 + 1) := (S.out.rd.bel hb).apart hgr (by omega) (fun b off e hl => by have := S.out.far b off e hl; omega)
    have hne3 : ∀ g g', (some ⟨gR, 0, none⟩ : Option Addr) = some ⟨g, 0, none⟩ → a' = some ⟨g', 0, none⟩ → g ≠ g' := fun g g' h1 h2 => by
      have := S.out.ne
      subst h2
      simp only [Option.some.injEq, Addr.mk.injEq, and_true] at h1
      simp [Value.ownBlock] at hblk
      omega
    have bC3 : ∀ i, i < m + 6 → -1 ≤ (ys ++ [0, 0, 0, 0, 0, 0]).getD i 0 ∧ (ys ++ [0, 0, 0, 0, 0, 0]).getD i 0 ≤ 7 := fun i hi => by
      by_cases h : i < m
      · have := bC.out i h
        rw [List.getD_eq_getElem?_getD, List.getElem?_append_left (by omega), ← List.getD_eq_getElem?_getD]; exact this
      · rw [List.getD_eq_getElem?_getD, List.getElem?_append_right (by omega), lC]
        have : ∀ k, k < 6 → -1 ≤ (([0, 0, 0, 0, 0, 0] : List Int)[k]?).getD 0 ∧ (([0, 0, 0, 0, 0, 0] : List Int)[k]?).getD 0 ≤ 7 := by decide
        exact this _ (by omega)
    have g3 := grown_then S.out.gr hb3
    have ho3 := Lib.hid ho3
    have hoR := Lib.hid hoR
    have hrd := Lib.hid hrd
    have bC3 := Lib.hid bC3
    clear hown1 hgr hblk hb3
    go_wp2_with fail
    refine bodyPost_ret (v := .tuple #[.slice (some ⟨gR, 0, none⟩) n cR, .slice a' (m + 6) cap']) (by simp [results, Try.results54, go_sem]) rfl ?_
    exact ⟨_, n, cR, xs, _, m + 6, cap', _, _, rfl, hoR.out, ho3.out, hne3, hrd.out, g3, by omega, by omega, bR.out, bC3.out⟩
  have S := Lib.hid S
  go_wp2_with fail
  refine bodyPost_ret (v := .tuple #[.slice (some ⟨gR, 0, none⟩) n cR, .slice (some ⟨gC, 0, none⟩) m cC]) (by simp [results, Try.results54, go_sem]) rfl ?_
  exact ⟨_, n, cR, xs, _, m, cC, ys, _, rfl, S.out.oR, S.out.oC, hne, S.out.rd, S.out.gr, by omega, by omega, bR.out, bC.out⟩
end Go.Proofs.Ytnfkafaolelkbaa

