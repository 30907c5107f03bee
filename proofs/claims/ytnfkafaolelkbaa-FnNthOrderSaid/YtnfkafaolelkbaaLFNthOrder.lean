/-
  For every slice of bytes the law FnNthOrder answers true: ranks ascend with rows; nothing that was there is written; no condition.
-/
import Derived.Test.YtnfkafaolelkbaaO
import Derived.Test.YtnfkafaolelkbaaK
import Derived.Deep.RegionLaw
import Derived.Test.YtnfkafaolelkbaaBn
import Derived.Test.YtnfkafaolelkbaaBl
import Derived.Test.YtnfkafaolelkbaaEp
namespace Go.Proofs.Ytnfkafaolelkbaa.LFNthOrder
open Go.ChangeShapes Go.WideShapes Go.ChangeAt Go.RowKit Go.Joins

set_option maxHeartbeats 8000000 in
set_option maxRecDepth 100000 in
theorem walk (a : Option Addr) (len cap : Nat) (zs : List Int) (w : World) (h : Bys w a len zs) (hl : len ≤ cap) (hm : cap ≤ 9223372036854775807) :
    Calls Try.prog 8 #[.slice a len cap] w fun e w' => e = .returned (.bool true) ∧ Below w.heap.size w w' := by
  by_cases hbig : 1048576 < len
  · clear h
    go_enter Try.func8, Try.ntmps8
    go_wp2_with fail
    go_ret
    exact ⟨rfl, Below.refl _ _⟩
  go_enter Try.func8, Try.ntmps8
  go_wp2_with fail
  refine (draw_DrawImageNth a len cap zs _ h hl hm).mono ?_
  rintro e w1 ⟨aR, n, cR, xs, aC, m, cC, ys, K, rfl, hR, hC, hnm, hcap, hKb, hb1⟩
  clear h hl hm
  have bb := Lib.hid hb1
  have p := Lib.hid hR.row
  have q := Lib.hid hC.row
  have lx := hR.len
  have ly := hC.len
  have hn13 : n ≤ 13 := by omega
  have hm13 : m ≤ 13 := by omega
  clear hR hC hb1
  obtain ⟨N, hN⟩ : ∃ N, scO xs ys = N := ⟨_, rfl⟩
  by_cases hK : K < 0 ∨ N ≤ K
  case pos =>
    have hK2 : K < 0 ∨ scO xs ys ≤ K := by rw [hN]; exact hK
    replace hK2 := Lib.hid hK2
    replace hN := Lib.hid hN
    clear hK
    go_wp2_with fail
    refine (nt_no hK2.out _ _ _ _ _ p.out q.out hn13 hm13).mono ?_
    rintro e w2 ⟨⟨ao, co, rfl, ho⟩, hb⟩
    have o := Lib.hid ho.row
    have szw2 := hb.size
    replace p := Lib.hid (p.out.bel hb)
    replace q := Lib.hid (q.out.bel hb)
    replace bb := Lib.hid (bb.out.trans (hb.mono bb.out.size))
    clear hb
    clear ho
    have hbx : Below w2.heap.size w2 (w2.alloc (.cells #[.int .i64 0, .slice ao 0 co] 30)) := (Below.refl _ _).alloc (Nat.le_refl _) _
    replace p := Lib.hid (p.out.bel hbx)
    replace q := Lib.hid (q.out.bel hbx)
    replace o := Lib.hid (o.out.bel hbx)
    replace bb := Lib.hid (bb.out.trans (hbx.mono bb.out.size))
    clear hbx
    have o0 : (w2.alloc (.cells #[.int .i64 0, .slice ao 0 co] 30)).cell? ⟨w2.heap.size, 0, none⟩ = some (.int .i64 0) := by simp
    have o1 : (w2.alloc (.cells #[.int .i64 0, .slice ao 0 co] 30)).cell? ⟨w2.heap.size, 1, none⟩ = some (.slice ao 0 co) := by simp
    go_wp2_with fail
    refine (nt_sno hK2.out _ _ _ _ _ p.out q.out hn13 hm13 hcap.1).mono ?_
    rintro e w3 ⟨⟨aow, cow, rfl, ho⟩, hb⟩
    have ow := Lib.hid ho.row
    have szw3 : w2.heap.size + 1 ≤ w3.heap.size := by have := hb.size; simpa using this
    replace o0 := kept hb (block_lt o0) o0
    replace o1 := kept hb (block_lt o1) o1
    replace p := Lib.hid (p.out.bel hb)
    replace q := Lib.hid (q.out.bel hb)
    replace o := Lib.hid (o.out.bel hb)
    replace bb := Lib.hid (bb.out.trans (hb.mono bb.out.size))
    clear hb
    clear ho
    have hbx : Below w3.heap.size w3 (w3.alloc (.cells #[.int .i64 0, .slice aow 0 cow] 30)) := (Below.refl _ _).alloc (Nat.le_refl _) _
    replace o0 := kept hbx (block_lt o0) o0
    replace o1 := kept hbx (block_lt o1) o1
    replace p := Lib.hid (p.out.bel hbx)
    replace q := Lib.hid (q.out.bel hbx)
    replace o := Lib.hid (o.out.bel hbx)
    replace ow := Lib.hid (ow.out.bel hbx)
    replace bb := Lib.hid (bb.out.trans (hbx.mono bb.out.size))
    clear hbx
    have ow0 : (w3.alloc (.cells #[.int .i64 0, .slice aow 0 cow] 30)).cell? ⟨w3.heap.size, 0, none⟩ = some (.int .i64 0) := by simp
    have ow1 : (w3.alloc (.cells #[.int .i64 0, .slice aow 0 cow] 30)).cell? ⟨w3.heap.size, 1, none⟩ = some (.slice aow 0 cow) := by simp
    go_wp2_with fail
    refine (sameImage_yes _ _ _ _ _ _ [] _ o.out ow.out (by omega)).mono ?_
    rintro e w4 ⟨rfl, hb⟩
    have szw4 : w3.heap.size + 1 ≤ w4.heap.size := by have := hb.size; simpa using this
    replace o0 := kept hb (block_lt o0) o0
    replace o1 := kept hb (block_lt o1) o1
    replace ow0 := kept hb (block_lt ow0) ow0
    replace ow1 := kept hb (block_lt ow1) ow1
    replace p := Lib.hid (p.out.bel hb)
    replace q := Lib.hid (q.out.bel hb)
    replace o := Lib.hid (o.out.bel hb)
    replace ow := Lib.hid (ow.out.bel hb)
    replace bb := Lib.hid (bb.out.trans (hb.mono bb.out.size))
    clear hb
    go_wp2_with fail
    refine (sameImage_yes _ _ _ _ _ _ [] _ o.out ow.out (by omega)).mono ?_
    rintro e w5 ⟨rfl, hb⟩
    have szw5 := hb.size
    replace o0 := kept hb (block_lt o0) o0
    replace o1 := kept hb (block_lt o1) o1
    replace ow0 := kept hb (block_lt ow0) ow0
    replace ow1 := kept hb (block_lt ow1) ow1
    replace p := Lib.hid (p.out.bel hb)
    replace q := Lib.hid (q.out.bel hb)
    replace o := Lib.hid (o.out.bel hb)
    replace ow := Lib.hid (ow.out.bel hb)
    replace bb := Lib.hid (bb.out.trans (hb.mono bb.out.size))
    clear hb
    go_wp2_with fail
    go_ret
    exact ⟨rfl, bb.out⟩
  have hct : ctdB xs ys = true := Classical.byContradiction fun h => hK (by rw [← hN, scO, if_neg h]; omega)
  obtain ⟨k, rfl⟩ := Int.eq_ofNat_of_zero_le (by omega : 0 ≤ K)
  have hv := (ctdB_parts hct).1
  have h16 := (ctdB_parts hct).2
  rw [lx, ly] at h16
  have hp := sumsB_parts hv
  rw [lx, ly] at hp
  have hn1 := hp.1.1
  have hn6 := hp.1.2
  have hm1 := hp.2.1.1
  have hm6 := hp.2.1.2
  have bx := Lib.hid hp.2.2.1
  have by' := Lib.hid hp.2.2.2
  have hex := Lib.hid (sums_el hv).1
  have hey := Lib.hid (sums_el hv).2
  clear hp
  have hNc : cntS xs ys = N := (sco_yes hct).symm.trans hN
  have hNb := sco_bd hct
  rw [hNc] at hNb
  have hN0 : ¬ N < 0 := by omega
  have hNs : N ≤ 65536 := by have := cnt_16 (ctdB_parts hct).2; omega
  have hkN : (k : Int) < cntS xs ys := by rw [hNc]; omega
  have hkN2 : (k : Int) < N := by omega
  have hal := alls_im hv (nth_mem hkN)
  have hrk := nth_rnk hkN
  rw [lx, ly] at hal
  obtain ⟨L, hL⟩ : ∃ L, nthS xs ys k = L := ⟨_, rfl⟩
  rw [hL] at hal hrk
  obtain ⟨hI, e1, e2⟩ := hal
  clear hK
  replace hv := Lib.hid hv
  replace hN := Lib.hid hN
  replace hNc := Lib.hid hNc
  replace hct := Lib.hid hct
  replace hkN := Lib.hid hkN
  replace hL := Lib.hid hL
  replace hI := Lib.hid hI
  replace e1 := Lib.hid e1
  replace e2 := Lib.hid e2
  replace hrk := Lib.hid hrk
  go_wp2_with fail
  refine (nt_ok rfl hct.out hkN.out hL.out ly lx _ _ _ _ _ p.out q.out hn13 hm13).mono ?_
  rintro e w6 ⟨⟨ao, co, rfl, ho⟩, hb⟩
  have o := Lib.hid ho.row
  have szw6 := hb.size
  replace p := Lib.hid (p.out.bel hb)
  replace q := Lib.hid (q.out.bel hb)
  replace bb := Lib.hid (bb.out.trans (hb.mono bb.out.size))
  clear hb
  clear ho
  have hbx : Below w6.heap.size w6 (w6.alloc (.cells #[.int .i64 m, .slice ao n co] 30)) := (Below.refl _ _).alloc (Nat.le_refl _) _
  replace p := Lib.hid (p.out.bel hbx)
  replace q := Lib.hid (q.out.bel hbx)
  replace o := Lib.hid (o.out.bel hbx)
  replace bb := Lib.hid (bb.out.trans (hbx.mono bb.out.size))
  clear hbx
  have o0 : (w6.alloc (.cells #[.int .i64 m, .slice ao n co] 30)).cell? ⟨w6.heap.size, 0, none⟩ = some (.int .i64 m) := by simp
  have o1 : (w6.alloc (.cells #[.int .i64 m, .slice ao n co] 30)).cell? ⟨w6.heap.size, 1, none⟩ = some (.slice ao n co) := by simp
  go_wp2_with fail
  refine (nt_sok rfl hct.out hkN.out hL.out ly lx _ _ _ _ _ p.out q.out hn13 hm13 hcap.1).mono ?_
  rintro e w7 ⟨⟨aow, cow, rfl, ho⟩, hb⟩
  have ow := Lib.hid ho.row
  have szw7 : w6.heap.size + 1 ≤ w7.heap.size := by have := hb.size; simpa using this
  replace o0 := kept hb (block_lt o0) o0
  replace o1 := kept hb (block_lt o1) o1
  replace p := Lib.hid (p.out.bel hb)
  replace q := Lib.hid (q.out.bel hb)
  replace o := Lib.hid (o.out.bel hb)
  replace bb := Lib.hid (bb.out.trans (hb.mono bb.out.size))
  clear hb
  clear ho
  have hbx : Below w7.heap.size w7 (w7.alloc (.cells #[.int .i64 m, .slice aow n cow] 30)) := (Below.refl _ _).alloc (Nat.le_refl _) _
  replace o0 := kept hbx (block_lt o0) o0
  replace o1 := kept hbx (block_lt o1) o1
  replace p := Lib.hid (p.out.bel hbx)
  replace q := Lib.hid (q.out.bel hbx)
  replace o := Lib.hid (o.out.bel hbx)
  replace ow := Lib.hid (ow.out.bel hbx)
  replace bb := Lib.hid (bb.out.trans (hbx.mono bb.out.size))
  clear hbx
  have ow0 : (w7.alloc (.cells #[.int .i64 m, .slice aow n cow] 30)).cell? ⟨w7.heap.size, 0, none⟩ = some (.int .i64 m) := by simp
  have ow1 : (w7.alloc (.cells #[.int .i64 m, .slice aow n cow] 30)).cell? ⟨w7.heap.size, 1, none⟩ = some (.slice aow n cow) := by simp
  go_wp2_with fail
  refine (sameImage_yes _ _ _ _ _ _ L _ o.out ow.out (by omega)).mono ?_
  rintro e w8 ⟨rfl, hb⟩
  have szw8 : w7.heap.size + 1 ≤ w8.heap.size := by have := hb.size; simpa using this
  replace o0 := kept hb (block_lt o0) o0
  replace o1 := kept hb (block_lt o1) o1
  replace ow0 := kept hb (block_lt ow0) ow0
  replace ow1 := kept hb (block_lt ow1) ow1
  replace p := Lib.hid (p.out.bel hb)
  replace q := Lib.hid (q.out.bel hb)
  replace o := Lib.hid (o.out.bel hb)
  replace ow := Lib.hid (ow.out.bel hb)
  replace bb := Lib.hid (bb.out.trans (hb.mono bb.out.size))
  clear hb
  clear ow0 ow1 ow
  have i1 : IntKind.i64.wrap ((k : Int) + 1) = (k : Int) + 1 := IntWalk.i64_in _ ⟨by omega, by omega⟩
  by_cases hl : (k : Int) + 1 < N
  case neg =>
    have hkk : ((k : Int) + 1 == N) = true := by rw [beq_iff_eq]; omega
    have hno : Hid ((k : Int) + 1 < 0 ∨ scO xs ys ≤ (k : Int) + 1) := Lib.hid (.inr (by rw [hN.out]; omega))
    clear hl
    go_wp2_with fail
    refine (nt_no hno.out _ _ _ _ _ p.out q.out hn13 hm13).mono ?_
    rintro e w9 ⟨⟨ax, cx, rfl, ho⟩, hb⟩
    have x := Lib.hid ho.row
    have szw9 := hb.size
    replace o0 := kept hb (block_lt o0) o0
    replace o1 := kept hb (block_lt o1) o1
    replace p := Lib.hid (p.out.bel hb)
    replace q := Lib.hid (q.out.bel hb)
    replace o := Lib.hid (o.out.bel hb)
    replace bb := Lib.hid (bb.out.trans (hb.mono bb.out.size))
    clear hb
    clear ho
    have hbx : Below w9.heap.size w9 (w9.alloc (.cells #[.int .i64 0, .slice ax 0 cx] 30)) := (Below.refl _ _).alloc (Nat.le_refl _) _
    replace o0 := kept hbx (block_lt o0) o0
    replace o1 := kept hbx (block_lt o1) o1
    replace p := Lib.hid (p.out.bel hbx)
    replace q := Lib.hid (q.out.bel hbx)
    replace o := Lib.hid (o.out.bel hbx)
    replace x := Lib.hid (x.out.bel hbx)
    replace bb := Lib.hid (bb.out.trans (hbx.mono bb.out.size))
    clear hbx
    have x0 : (w9.alloc (.cells #[.int .i64 0, .slice ax 0 cx] 30)).cell? ⟨w9.heap.size, 0, none⟩ = some (.int .i64 0) := by simp
    have x1 : (w9.alloc (.cells #[.int .i64 0, .slice ax 0 cx] 30)).cell? ⟨w9.heap.size, 1, none⟩ = some (.slice ax 0 cx) := by simp
    go_wp2_with fail
    refine (sc_ok hN.out _ _ _ _ _ p.out q.out hn13 hm13).mono ?_
    rintro e w10 ⟨rfl, hb⟩
    have szw10 : w9.heap.size + 1 ≤ w10.heap.size := by have := hb.size; simpa using this
    replace o0 := kept hb (block_lt o0) o0
    replace o1 := kept hb (block_lt o1) o1
    replace x0 := kept hb (block_lt x0) x0
    replace x1 := kept hb (block_lt x1) x1
    replace p := Lib.hid (p.out.bel hb)
    replace q := Lib.hid (q.out.bel hb)
    replace o := Lib.hid (o.out.bel hb)
    replace x := Lib.hid (x.out.bel hb)
    replace bb := Lib.hid (bb.out.trans (hb.mono bb.out.size))
    clear hb
    go_wp2_with fail
    go_ret
    exact ⟨rfl, bb.out⟩
  have hx1 : ((k + 1 : Nat) : Int) < cntS xs ys := by rw [hNc.out]; omega
  have hlt := nth_lt (Nat.lt_succ_self k) hx1
  rw [hL.out] at hlt
  have hXn := alls_len2 (nth_mem hx1)
  obtain ⟨X, hX⟩ : ∃ X, nthS xs ys (k + 1) = X := ⟨_, rfl⟩
  rw [hX] at hlt hXn
  rw [lx] at hXn
  replace hX := Lib.hid hX
  replace hx1 := Lib.hid hx1
  replace hlt := Lib.hid hlt
  clear hl
  go_wp2_with fail
  refine (nt_ok (show (k : Int) + 1 = ((k + 1 : Nat) : Int) from rfl) hct.out hx1.out hX.out ly lx _ _ _ _ _ p.out q.out hn13 hm13).mono ?_
  rintro e w11 ⟨⟨ax, cx, rfl, ho⟩, hb⟩
  have x := Lib.hid ho.row
  have szw11 := hb.size
  replace o0 := kept hb (block_lt o0) o0
  replace o1 := kept hb (block_lt o1) o1
  replace p := Lib.hid (p.out.bel hb)
  replace q := Lib.hid (q.out.bel hb)
  replace o := Lib.hid (o.out.bel hb)
  replace bb := Lib.hid (bb.out.trans (hb.mono bb.out.size))
  clear hb
  clear ho
  have hbx : Below w11.heap.size w11 (w11.alloc (.cells #[.int .i64 m, .slice ax n cx] 30)) := (Below.refl _ _).alloc (Nat.le_refl _) _
  replace o0 := kept hbx (block_lt o0) o0
  replace o1 := kept hbx (block_lt o1) o1
  replace p := Lib.hid (p.out.bel hbx)
  replace q := Lib.hid (q.out.bel hbx)
  replace o := Lib.hid (o.out.bel hbx)
  replace x := Lib.hid (x.out.bel hbx)
  replace bb := Lib.hid (bb.out.trans (hbx.mono bb.out.size))
  clear hbx
  have x0 : (w11.alloc (.cells #[.int .i64 m, .slice ax n cx] 30)).cell? ⟨w11.heap.size, 0, none⟩ = some (.int .i64 m) := by simp
  have x1 : (w11.alloc (.cells #[.int .i64 m, .slice ax n cx] 30)).cell? ⟨w11.heap.size, 1, none⟩ = some (.slice ax n cx) := by simp
  have hst : Hid (∀ j, j < 0 → X.getD j 0 = L.getD j 0) := Lib.hid fun j hj => absurd hj (Nat.not_lt_zero j)
  have lX := Lib.hid hXn
  have lL := Lib.hid hI.out.hl
  clear hXn
  go_wp2_with fail
  go_loopw [12] (fun t wr => ∃ q0 : Nat, q0 + 1 ≤ n ∧ t = .int .i64 q0 ∧ Hid (∀ j, j < q0 → X.getD j 0 = L.getD j 0) ∧ wr.cell? ⟨w6.heap.size, 0, none⟩ = some (.int .i64 m) ∧ wr.cell? ⟨w6.heap.size, 1, none⟩ = some (.slice ao n co) ∧ wr.cell? ⟨w11.heap.size, 0, none⟩ = some (.int .i64 m) ∧ wr.cell? ⟨w11.heap.size, 1, none⟩ = some (.slice ax n cx) ∧ Hid (Row wr aR n xs) ∧ Hid (Row wr aC m ys) ∧ Hid (Row wr ao n L) ∧ Hid (Row wr ax n X) ∧ Hid (Below w.heap.size w wr)) (fun t _ => n - (intOf t).toNat)
  case atStart => exact ⟨0, by omega, rfl, hst, o0, o1, x0, x1, p, q, o, x, bb⟩
  case round =>
    clear o0 o1 x0 x1 p q o x bb
    obtain ⟨q0, hq, rfl, hpre, o0, o1, x0, x1, p, q, o, x, bb⟩ := hrel
    obtain ⟨w12, rfl⟩ : ∃ w12 : World, w12 = wr := ⟨_, rfl⟩
    clear hst
    obtain ⟨xb, xo, ex, xc⟩ := row_at x.out (show q0 < n by omega)
    obtain ⟨ob, oo, eo, oc⟩ := row_at o.out (show q0 < n by omega)
    subst ex
    subst eo
    obtain ⟨u, hu⟩ : ∃ u, X.getD q0 0 = u := ⟨_, rfl⟩
    obtain ⟨v, hv2⟩ : ∃ v, L.getD q0 0 = v := ⟨_, rfl⟩
    have hfin : (q0 + 1 = n ∨ u ≠ v) → v < u := fun h => by
      by_cases e : v = u
      · have hqn : q0 + 1 = n := by
          rcases h with h | h
          · exact h
          · exact absurd e.symm h
        have := (lt_at lL.out lX.out (show q0 + 1 ≤ n by omega) (fun j hj => by
          by_cases e2 : j = q0
          · subst e2; rw [hu, hv2, e]
          · exact (hpre.out j (by omega)).symm) (.inl hqn)).1 hlt.out
        omega
      · have := (lt_at lL.out lX.out (show q0 ≤ n by omega) (fun j hj => (hpre.out j hj).symm) (.inr (by rw [hu, hv2]; exact e))).1 hlt.out
        rw [hu, hv2] at this
        exact this.2
    rw [hu] at xc
    rw [hv2] at oc
    have i2 : IntKind.i64.wrap ((n : Int) - 1) = (n : Int) - 1 := IntWalk.i64_in _ ⟨by omega, by omega⟩
    have i3 : IntKind.i64.wrap ((q0 : Int) + 1) = (q0 : Int) + 1 := IntWalk.i64_in _ ⟨by omega, by omega⟩
    replace hu := Lib.hid hu
    replace hv2 := Lib.hid hv2
    replace hfin := Lib.hid hfin
    by_cases hlast : q0 + 1 < n
    case neg =>
      have g1 : decide ((q0 : Int) < (n : Int) - 1) = false := decide_eq_false (by omega)
      have g2 : decide (v < u) = true := decide_eq_true (hfin.out (.inl (by omega)))
      clear hlast
      have g_o0 := fun p : Bw w12 => bw_cell o0 p
      have g_o1 := fun p : Bw w12 => bw_cell o1 p
      have g_x0 := fun p : Bw w12 => bw_cell x0 p
      have g_x1 := fun p : Bw w12 => bw_cell x1 p
      have g_xc := fun p : Bw w12 => bw_cell xc p
      have g_oc := fun p : Bw w12 => bw_cell oc p
      go_wp2_with fail
      refine wp_region_bw (by kernel_rfl) (by kernel_rfl) ?_
      repeat (go_big_quiet_step (fail))
      refine wpQuiet_nil ?_
      intro _ hw'
      obtain ⟨pq, rfl⟩ := hw'
      have hb := pq.h
      clear g_o0 g_o1 g_x0 g_x1 g_xc g_oc
      generalize pq.v = w13 at hb ⊢
      clear pq
      have szw13 := hb.size
      replace o0 := kept hb (block_lt o0) o0
      replace o1 := kept hb (block_lt o1) o1
      replace x0 := kept hb (block_lt x0) x0
      replace x1 := kept hb (block_lt x1) x1
      replace xc := kept hb (block_lt xc) xc
      replace oc := kept hb (block_lt oc) oc
      replace p := Lib.hid (p.out.bel hb)
      replace q := Lib.hid (q.out.bel hb)
      replace o := Lib.hid (o.out.bel hb)
      replace x := Lib.hid (x.out.bel hb)
      replace bb := Lib.hid (bb.out.trans (hb.mono bb.out.size))
      clear hb
      have g_o0 := fun p : Bw w13 => bw_cell o0 p
      have g_o1 := fun p : Bw w13 => bw_cell o1 p
      have g_x0 := fun p : Bw w13 => bw_cell x0 p
      have g_x1 := fun p : Bw w13 => bw_cell x1 p
      have g_xc := fun p : Bw w13 => bw_cell xc p
      have g_oc := fun p : Bw w13 => bw_cell oc p
      go_wp2_with fail
      refine wp_region_bw (by kernel_rfl) (by kernel_rfl) ?_
      repeat (go_big_quiet_step (fail))
      refine wpQuiet_nil ?_
      intro _ hw'
      obtain ⟨pq, rfl⟩ := hw'
      have hb := pq.h
      clear g_o0 g_o1 g_x0 g_x1 g_xc g_oc
      generalize pq.v = w14 at hb ⊢
      clear pq
      have szw14 := hb.size
      replace o0 := kept hb (block_lt o0) o0
      replace o1 := kept hb (block_lt o1) o1
      replace x0 := kept hb (block_lt x0) x0
      replace x1 := kept hb (block_lt x1) x1
      replace xc := kept hb (block_lt xc) xc
      replace oc := kept hb (block_lt oc) oc
      replace p := Lib.hid (p.out.bel hb)
      replace q := Lib.hid (q.out.bel hb)
      replace o := Lib.hid (o.out.bel hb)
      replace x := Lib.hid (x.out.bel hb)
      replace bb := Lib.hid (bb.out.trans (hb.mono bb.out.size))
      clear hb
      go_wp2_with fail
      go_ret
      exact ⟨rfl, bb.out⟩
    have g1 : decide ((q0 : Int) < (n : Int) - 1) = true := decide_eq_true (by omega)
    by_cases he : u = v
    case neg =>
      have g3 : (u == v) = false := by simpa using he
      have g2 : decide (v < u) = true := decide_eq_true (hfin.out (.inr he))
      clear hlast he
      have g_o0 := fun p : Bw w12 => bw_cell o0 p
      have g_o1 := fun p : Bw w12 => bw_cell o1 p
      have g_x0 := fun p : Bw w12 => bw_cell x0 p
      have g_x1 := fun p : Bw w12 => bw_cell x1 p
      have g_xc := fun p : Bw w12 => bw_cell xc p
      have g_oc := fun p : Bw w12 => bw_cell oc p
      go_wp2_with fail
      refine wp_region_bw (by kernel_rfl) (by kernel_rfl) ?_
      repeat (go_big_quiet_step (fail))
      refine wpQuiet_nil ?_
      intro _ hw'
      obtain ⟨pq, rfl⟩ := hw'
      have hb := pq.h
      clear g_o0 g_o1 g_x0 g_x1 g_xc g_oc
      generalize pq.v = w15 at hb ⊢
      clear pq
      have szw15 := hb.size
      replace o0 := kept hb (block_lt o0) o0
      replace o1 := kept hb (block_lt o1) o1
      replace x0 := kept hb (block_lt x0) x0
      replace x1 := kept hb (block_lt x1) x1
      replace xc := kept hb (block_lt xc) xc
      replace oc := kept hb (block_lt oc) oc
      replace p := Lib.hid (p.out.bel hb)
      replace q := Lib.hid (q.out.bel hb)
      replace o := Lib.hid (o.out.bel hb)
      replace x := Lib.hid (x.out.bel hb)
      replace bb := Lib.hid (bb.out.trans (hb.mono bb.out.size))
      clear hb
      have g_o0 := fun p : Bw w15 => bw_cell o0 p
      have g_o1 := fun p : Bw w15 => bw_cell o1 p
      have g_x0 := fun p : Bw w15 => bw_cell x0 p
      have g_x1 := fun p : Bw w15 => bw_cell x1 p
      have g_xc := fun p : Bw w15 => bw_cell xc p
      have g_oc := fun p : Bw w15 => bw_cell oc p
      go_wp2_with fail
      refine wp_region_bw (by kernel_rfl) (by kernel_rfl) ?_
      repeat (go_big_quiet_step (fail))
      refine wpQuiet_nil ?_
      intro _ hw'
      obtain ⟨pq, rfl⟩ := hw'
      have hb := pq.h
      clear g_o0 g_o1 g_x0 g_x1 g_xc g_oc
      generalize pq.v = w16 at hb ⊢
      clear pq
      have szw16 := hb.size
      replace o0 := kept hb (block_lt o0) o0
      replace o1 := kept hb (block_lt o1) o1
      replace x0 := kept hb (block_lt x0) x0
      replace x1 := kept hb (block_lt x1) x1
      replace xc := kept hb (block_lt xc) xc
      replace oc := kept hb (block_lt oc) oc
      replace p := Lib.hid (p.out.bel hb)
      replace q := Lib.hid (q.out.bel hb)
      replace o := Lib.hid (o.out.bel hb)
      replace x := Lib.hid (x.out.bel hb)
      replace bb := Lib.hid (bb.out.trans (hb.mono bb.out.size))
      clear hb
      go_wp2_with fail
      go_ret
      exact ⟨rfl, bb.out⟩
    have g3 : (u == v) = true := by simpa using he
    have hpre2 : Hid (∀ j, j < q0 + 1 → X.getD j 0 = L.getD j 0) := Lib.hid fun j hj => by
      by_cases e : j = q0
      · subst e; rw [hu.out, hv2.out, he]
      · exact hpre.out j (by omega)
    clear he
    have g_o0 := fun p : Bw w12 => bw_cell o0 p
    have g_o1 := fun p : Bw w12 => bw_cell o1 p
    have g_x0 := fun p : Bw w12 => bw_cell x0 p
    have g_x1 := fun p : Bw w12 => bw_cell x1 p
    have g_xc := fun p : Bw w12 => bw_cell xc p
    have g_oc := fun p : Bw w12 => bw_cell oc p
    go_wp2_with fail
    refine wp_region_bw (by kernel_rfl) (by kernel_rfl) ?_
    repeat (go_big_quiet_step (fail))
    refine wpQuiet_nil ?_
    intro _ hw'
    obtain ⟨pq, rfl⟩ := hw'
    have hb := pq.h
    clear g_o0 g_o1 g_x0 g_x1 g_xc g_oc
    generalize pq.v = w17 at hb ⊢
    clear pq
    have szw17 := hb.size
    replace o0 := kept hb (block_lt o0) o0
    replace o1 := kept hb (block_lt o1) o1
    replace x0 := kept hb (block_lt x0) x0
    replace x1 := kept hb (block_lt x1) x1
    replace xc := kept hb (block_lt xc) xc
    replace oc := kept hb (block_lt oc) oc
    replace p := Lib.hid (p.out.bel hb)
    replace q := Lib.hid (q.out.bel hb)
    replace o := Lib.hid (o.out.bel hb)
    replace x := Lib.hid (x.out.bel hb)
    replace bb := Lib.hid (bb.out.trans (hb.mono bb.out.size))
    clear hb
    clear xc oc
    go_wp2_with fail
    exact ⟨⟨q0 + 1, by omega, by go_num, hpre2, o0, o1, x0, x1, p, q, o, x, bb⟩, by simp [intOf]; omega⟩

set_option maxRecDepth 100000 in
theorem lifted (os : Os) (started : os.Started) (H : Type) (enc : TypeId × Value → H) :
    ReturnsInHanded {} Try.checked os 8 .any (Rows.fnNthOrderSpec.pre6 enc Try.prog Try.f8 Rows.fnNthOrderRow.domain false) (Rows.fnNthOrderSpec.post enc Try.prog Try.f8 false true false false) := by
  refine returnsInHanded_of_change (C := Try.checked) own started (by kernel_rfl) Try.func8
    (ChangeSpec.witness6 (enc := enc) (C := Try.checked) false ⟨#[], #[.slice none 0 0], []⟩ 8 (by kernel_rfl) (by kernel_rfl) (by kernel_rfl) (by kernel_rfl)) ?_
  intro W base args ds gs before hval0 hW hcnd _
  have hval : ∀ (j : Nat) t v, Try.f8.params[j]? = some t → args[j]? = some v → Value.okWide Try.prog W .any base t v := hval0
  have hW' := hW
  obtain ⟨p, q, hA0, hV, rfl, hfz, hnd⟩ := hW
  have hA : DataW.TrodAll enc Try.prog W 0 (fun _ => true) true Try.f8.params.toList args.toList ds p := hA0
  rw [Try.params8] at hA hval
  obtain ⟨v0, vs0, d0, ds0, p0, q0, hargs, rfl, rfl, h0, r0⟩ := trodAll_cons hA
  obtain ⟨rfl, rfl, rfl⟩ := trodAll_nil r0
  obtain rfl : args = #[v0] := by cases args; simp_all
  obtain ⟨rfl, rfl⟩ := trodVars_none hV
  have k0 := h0
  have lt0 : ∀ x ∈ p0, x.block < W.heap.size := by obtain ⟨m, hm⟩ := k0; exact DataW.trod_lt m _ _ _ hm
  obtain ⟨a0, len0, cap0, z0, rfl, w0, l0, m0⟩ := open_code (hval 0 22 v0 rfl rfl) h0
  clear hA0 hval0
  refine (walk a0 len0 cap0 z0 W w0 l0 m0).mono fun e W' ⟨he, bel⟩ => ?_
  subst he
  exact ⟨_, rfl, _, _, _, [], _, [], hW', trodAll_mk1 (shut_bool Try.underlying4 _), (trodAll_cons_mk (Below.trod laidOut (by kernel_rfl) (of_decide_eq_true (by kernel_rfl)) k0 bel lt0) trodAll_mk0), rfl, bel.frame _, fun h => by cases h⟩

theorem closed : joinedFacts Try.prog 8 Try.f8 Rows.fnNthOrderSpec Rows.fnNthOrderRow = true := by
  simp only [joinedFacts, Bool.and_eq_true]
  repeat' apply And.intro
  all_goals first | with_reducible exact mayEnterOk | (with_reducible rw [liftsFinalOk]; kernel_rfl) | (with_reducible rw [makeOk]; kernel_rfl) | kernel_rfl

theorem over : Rows.fnNthOrderRow.holds Try.pinned (OpenSpec.ofChange Rows.fnNthOrderSpec) :=
  OpenClaim.holds_of_wide 8 Try.f8 rfl rfl rfl rfl rfl rfl rfl ⟨rfl, rfl, rfl, rfl, rfl⟩ rfl rfl rfl rfl rfl (by kernel_rfl) Try.func8 closed
    (of_decide_eq_true (by kernel_rfl)) (by unfold Func.isWrapper; first | (rw [if_pos (by decide +kernel)]; kernel_rfl) | (rw [if_neg (by decide +kernel)]; exact ⟨rfl, rfl⟩))
    (fun os started H enc _ => lifted os started H enc)

theorem proved : Rows.FnNthOrderSaid := over
#print axioms proved
end Go.Proofs.Ytnfkafaolelkbaa.LFNthOrder

