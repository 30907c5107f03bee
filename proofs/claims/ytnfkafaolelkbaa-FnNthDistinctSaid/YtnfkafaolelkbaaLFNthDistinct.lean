/-
  For every slice of bytes the law FnNthDistinct answers true: each rank has its own image; nothing that was there is written; no condition.
-/
import Derived.Test.YtnfkafaolelkbaaO
import Derived.Test.YtnfkafaolelkbaaK
import Derived.Deep.RegionLaw
import Derived.Test.YtnfkafaolelkbaaBn
import Derived.Test.YtnfkafaolelkbaaBl
import Derived.Test.YtnfkafaolelkbaaEp
import Derived.Test.YtnfkafaolelkbaaWm
namespace Go.Proofs.Ytnfkafaolelkbaa.LFNthDistinct
open Go.ChangeShapes Go.WideShapes Go.ChangeAt Go.RowKit Go.Joins

set_option maxHeartbeats 4000000 in
set_option maxRecDepth 100000 in
theorem walk (a : Option Addr) (len cap : Nat) (zs : List Int) (w : World) (h : Bys w a len zs) (hl : len ≤ cap) (hm : cap ≤ 9223372036854775807) :
    Calls Try.prog 13 #[.slice a len cap] w fun e w' => e = .returned (.bool true) ∧ Below w.heap.size w w' := by
  by_cases hbig : 1048576 < len
  · clear h
    go_enter Try.func13, Try.ntmps13
    go_wp2_with fail
    go_ret
    exact ⟨rfl, Below.refl _ _⟩
  go_enter Try.func13, Try.ntmps13
  go_wp2_with fail
  refine (draw_DrawImageNth a len cap zs _ h hl hm).mono ?_
  rintro e w1 ⟨aR, n, cR, xs, aC, m, cC, ys, K, rfl, hR, hC, hnm, hcap, hKb, hb1⟩
  clear h hl hm
  have bb := Lib.hid hb1
  have p := Lib.hid hR.row
  have q := Lib.hid hC.row
  have lx := hR.len
  have ly := hC.len
  have hn13 : n ≤ 13 := by omega
  have hm13 : m ≤ 13 := by omega
  clear hR hC hb1
  obtain ⟨N, hN⟩ : ∃ N, scO xs ys = N := ⟨_, rfl⟩
  by_cases hK : K < 0 ∨ N ≤ K
  case pos =>
    have hK2 : K < 0 ∨ scO xs ys ≤ K := by rw [hN]; exact hK
    replace hK2 := Lib.hid hK2
    replace hN := Lib.hid hN
    clear hK
    go_wp2_with fail
    refine (nt_no hK2.out _ _ _ _ _ p.out q.out hn13 hm13).mono ?_
    rintro e w2 ⟨⟨ao, co, rfl, ho⟩, hb⟩
    have o := Lib.hid ho.row
    have szw2 := hb.size
    replace p := Lib.hid (p.out.bel hb)
    replace q := Lib.hid (q.out.bel hb)
    replace bb := Lib.hid (bb.out.trans (hb.mono bb.out.size))
    clear hb
    clear ho
    have hbx : Below w2.heap.size w2 (w2.alloc (.cells #[.int .i64 0, .slice ao 0 co] 30)) := (Below.refl _ _).alloc (Nat.le_refl _) _
    replace p := Lib.hid (p.out.bel hbx)
    replace q := Lib.hid (q.out.bel hbx)
    replace o := Lib.hid (o.out.bel hbx)
    replace bb := Lib.hid (bb.out.trans (hbx.mono bb.out.size))
    clear hbx
    have o0 : (w2.alloc (.cells #[.int .i64 0, .slice ao 0 co] 30)).cell? ⟨w2.heap.size, 0, none⟩ = some (.int .i64 0) := by simp
    have o1 : (w2.alloc (.cells #[.int .i64 0, .slice ao 0 co] 30)).cell? ⟨w2.heap.size, 1, none⟩ = some (.slice ao 0 co) := by simp
    go_wp2_with fail
    refine (nt_sno hK2.out _ _ _ _ _ p.out q.out hn13 hm13 hcap.1).mono ?_
    rintro e w3 ⟨⟨aow, cow, rfl, ho⟩, hb⟩
    have ow := Lib.hid ho.row
    have szw3 : w2.heap.size + 1 ≤ w3.heap.size := by have := hb.size; simpa using this
    replace o0 := kept hb (block_lt o0) o0
    replace o1 := kept hb (block_lt o1) o1
    replace p := Lib.hid (p.out.bel hb)
    replace q := Lib.hid (q.out.bel hb)
    replace o := Lib.hid (o.out.bel hb)
    replace bb := Lib.hid (bb.out.trans (hb.mono bb.out.size))
    clear hb
    clear ho
    have hbx : Below w3.heap.size w3 (w3.alloc (.cells #[.int .i64 0, .slice aow 0 cow] 30)) := (Below.refl _ _).alloc (Nat.le_refl _) _
    replace o0 := kept hbx (block_lt o0) o0
    replace o1 := kept hbx (block_lt o1) o1
    replace p := Lib.hid (p.out.bel hbx)
    replace q := Lib.hid (q.out.bel hbx)
    replace o := Lib.hid (o.out.bel hbx)
    replace ow := Lib.hid (ow.out.bel hbx)
    replace bb := Lib.hid (bb.out.trans (hbx.mono bb.out.size))
    clear hbx
    have ow0 : (w3.alloc (.cells #[.int .i64 0, .slice aow 0 cow] 30)).cell? ⟨w3.heap.size, 0, none⟩ = some (.int .i64 0) := by simp
    have ow1 : (w3.alloc (.cells #[.int .i64 0, .slice aow 0 cow] 30)).cell? ⟨w3.heap.size, 1, none⟩ = some (.slice aow 0 cow) := by simp
    go_wp2_with fail
    refine (sameImage_yes _ _ _ _ _ _ [] _ o.out ow.out (by omega)).mono ?_
    rintro e w4 ⟨rfl, hb⟩
    have szw4 : w3.heap.size + 1 ≤ w4.heap.size := by have := hb.size; simpa using this
    replace o0 := kept hb (block_lt o0) o0
    replace o1 := kept hb (block_lt o1) o1
    replace ow0 := kept hb (block_lt ow0) ow0
    replace ow1 := kept hb (block_lt ow1) ow1
    replace p := Lib.hid (p.out.bel hb)
    replace q := Lib.hid (q.out.bel hb)
    replace o := Lib.hid (o.out.bel hb)
    replace ow := Lib.hid (ow.out.bel hb)
    replace bb := Lib.hid (bb.out.trans (hb.mono bb.out.size))
    clear hb
    go_wp2_with fail
    refine (sameImage_yes _ _ _ _ _ _ [] _ o.out ow.out (by omega)).mono ?_
    rintro e w5 ⟨rfl, hb⟩
    have szw5 := hb.size
    replace o0 := kept hb (block_lt o0) o0
    replace o1 := kept hb (block_lt o1) o1
    replace ow0 := kept hb (block_lt ow0) ow0
    replace ow1 := kept hb (block_lt ow1) ow1
    replace p := Lib.hid (p.out.bel hb)
    replace q := Lib.hid (q.out.bel hb)
    replace o := Lib.hid (o.out.bel hb)
    replace ow := Lib.hid (ow.out.bel hb)
    replace bb := Lib.hid (bb.out.trans (hb.mono bb.out.size))
    clear hb
    go_wp2_with fail
    go_ret
    exact ⟨rfl, bb.out⟩
  have hct : ctdB xs ys = true := Classical.byContradiction fun h => hK (by rw [← hN, scO, if_neg h]; omega)
  obtain ⟨k, rfl⟩ := Int.eq_ofNat_of_zero_le (by omega : 0 ≤ K)
  have hv := (ctdB_parts hct).1
  have h16 := (ctdB_parts hct).2
  rw [lx, ly] at h16
  have hp := sumsB_parts hv
  rw [lx, ly] at hp
  have hn1 := hp.1.1
  have hn6 := hp.1.2
  have hm1 := hp.2.1.1
  have hm6 := hp.2.1.2
  have bx := Lib.hid hp.2.2.1
  have by' := Lib.hid hp.2.2.2
  have hex := Lib.hid (sums_el hv).1
  have hey := Lib.hid (sums_el hv).2
  clear hp
  have hNc : cntS xs ys = N := (sco_yes hct).symm.trans hN
  have hNb := sco_bd hct
  rw [hNc] at hNb
  have hN0 : ¬ N < 0 := by omega
  have hNs : N ≤ 65536 := by have := cnt_16 (ctdB_parts hct).2; omega
  have hkN : (k : Int) < cntS xs ys := by rw [hNc]; omega
  have hkN2 : (k : Int) < N := by omega
  have hal := alls_im hv (nth_mem hkN)
  have hrk := nth_rnk hkN
  rw [lx, ly] at hal
  obtain ⟨L, hL⟩ : ∃ L, nthS xs ys k = L := ⟨_, rfl⟩
  rw [hL] at hal hrk
  obtain ⟨hI, e1, e2⟩ := hal
  clear hK
  replace hv := Lib.hid hv
  replace hN := Lib.hid hN
  replace hNc := Lib.hid hNc
  replace hct := Lib.hid hct
  replace hkN := Lib.hid hkN
  replace hL := Lib.hid hL
  replace hI := Lib.hid hI
  replace e1 := Lib.hid e1
  replace e2 := Lib.hid e2
  replace hrk := Lib.hid hrk
  go_wp2_with fail
  refine (nt_ok rfl hct.out hkN.out hL.out ly lx _ _ _ _ _ p.out q.out hn13 hm13).mono ?_
  rintro e w6 ⟨⟨ao, co, rfl, ho⟩, hb⟩
  have o := Lib.hid ho.row
  have szw6 := hb.size
  replace p := Lib.hid (p.out.bel hb)
  replace q := Lib.hid (q.out.bel hb)
  replace bb := Lib.hid (bb.out.trans (hb.mono bb.out.size))
  clear hb
  clear ho
  have hbx : Below w6.heap.size w6 (w6.alloc (.cells #[.int .i64 m, .slice ao n co] 30)) := (Below.refl _ _).alloc (Nat.le_refl _) _
  replace p := Lib.hid (p.out.bel hbx)
  replace q := Lib.hid (q.out.bel hbx)
  replace o := Lib.hid (o.out.bel hbx)
  replace bb := Lib.hid (bb.out.trans (hbx.mono bb.out.size))
  clear hbx
  have o0 : (w6.alloc (.cells #[.int .i64 m, .slice ao n co] 30)).cell? ⟨w6.heap.size, 0, none⟩ = some (.int .i64 m) := by simp
  have o1 : (w6.alloc (.cells #[.int .i64 m, .slice ao n co] 30)).cell? ⟨w6.heap.size, 1, none⟩ = some (.slice ao n co) := by simp
  go_wp2_with fail
  refine (nt_sok rfl hct.out hkN.out hL.out ly lx _ _ _ _ _ p.out q.out hn13 hm13 hcap.1).mono ?_
  rintro e w7 ⟨⟨aow, cow, rfl, ho⟩, hb⟩
  have ow := Lib.hid ho.row
  have szw7 : w6.heap.size + 1 ≤ w7.heap.size := by have := hb.size; simpa using this
  replace o0 := kept hb (block_lt o0) o0
  replace o1 := kept hb (block_lt o1) o1
  replace p := Lib.hid (p.out.bel hb)
  replace q := Lib.hid (q.out.bel hb)
  replace o := Lib.hid (o.out.bel hb)
  replace bb := Lib.hid (bb.out.trans (hb.mono bb.out.size))
  clear hb
  clear ho
  have hbx : Below w7.heap.size w7 (w7.alloc (.cells #[.int .i64 m, .slice aow n cow] 30)) := (Below.refl _ _).alloc (Nat.le_refl _) _
  replace o0 := kept hbx (block_lt o0) o0
  replace o1 := kept hbx (block_lt o1) o1
  replace p := Lib.hid (p.out.bel hbx)
  replace q := Lib.hid (q.out.bel hbx)
  replace o := Lib.hid (o.out.bel hbx)
  replace ow := Lib.hid (ow.out.bel hbx)
  replace bb := Lib.hid (bb.out.trans (hbx.mono bb.out.size))
  clear hbx
  have ow0 : (w7.alloc (.cells #[.int .i64 m, .slice aow n cow] 30)).cell? ⟨w7.heap.size, 0, none⟩ = some (.int .i64 m) := by simp
  have ow1 : (w7.alloc (.cells #[.int .i64 m, .slice aow n cow] 30)).cell? ⟨w7.heap.size, 1, none⟩ = some (.slice aow n cow) := by simp
  go_wp2_with fail
  refine (sameImage_yes _ _ _ _ _ _ L _ o.out ow.out (by omega)).mono ?_
  rintro e w8 ⟨rfl, hb⟩
  have szw8 : w7.heap.size + 1 ≤ w8.heap.size := by have := hb.size; simpa using this
  replace o0 := kept hb (block_lt o0) o0
  replace o1 := kept hb (block_lt o1) o1
  replace ow0 := kept hb (block_lt ow0) ow0
  replace ow1 := kept hb (block_lt ow1) ow1
  replace p := Lib.hid (p.out.bel hb)
  replace q := Lib.hid (q.out.bel hb)
  replace o := Lib.hid (o.out.bel hb)
  replace ow := Lib.hid (ow.out.bel hb)
  replace bb := Lib.hid (bb.out.trans (hb.mono bb.out.size))
  clear hb
  clear ow0 ow1 ow
  have i1 : IntKind.i64.wrap ((k : Int) + 1) = (k : Int) + 1 := IntWalk.i64_in _ ⟨by omega, by omega⟩
  have i2 : IntKind.i64.wrap ((k : Int) + 12) = (k : Int) + 12 := IntWalk.i64_in _ ⟨by omega, by omega⟩
  go_wp2_with fail
  go_loopw [10] (fun t wr => ∃ j : Nat, k < j ∧ j ≤ k + 13 ∧ t = .int .i64 j ∧ wr.cell? ⟨w6.heap.size, 0, none⟩ = some (.int .i64 m) ∧ wr.cell? ⟨w6.heap.size, 1, none⟩ = some (.slice ao n co) ∧ Hid (Row wr aR n xs) ∧ Hid (Row wr aC m ys) ∧ Hid (Row wr ao n L) ∧ Hid (Below w.heap.size w wr)) (fun t _ => k + 13 - (intOf t).toNat)
  case atStart => exact ⟨k + 1, by omega, by omega, rfl, o0, o1, p, q, o, bb⟩
  case round =>
    clear o0 o1 p q o bb
    obtain ⟨j, hj1, hj2, rfl, o0, o1, p, q, o, bb⟩ := hrel
    obtain ⟨w9, rfl⟩ : ∃ w9 : World, w9 = wr := ⟨_, rfl⟩
    have i3 : IntKind.i64.wrap ((j : Int) + 1) = (j : Int) + 1 := IntWalk.i64_in _ ⟨by omega, by omega⟩
    by_cases hj : j ≤ k + 12
    case neg =>
      have g1 : decide ((j : Int) ≤ (k : Int) + 12) = false := decide_eq_false (by omega)
      clear hj
      go_wp2_with fail
      refine (valid_impl (m : Int) ao n co L _ o.out (by omega)).mono ?_
      rintro e w10 ⟨rfl, hb⟩
      have szw10 := hb.size
      replace o0 := kept hb (block_lt o0) o0
      replace o1 := kept hb (block_lt o1) o1
      replace p := Lib.hid (p.out.bel hb)
      replace q := Lib.hid (q.out.bel hb)
      replace o := Lib.hid (o.out.bel hb)
      replace bb := Lib.hid (bb.out.trans (hb.mono bb.out.size))
      clear hb
      rw [hI.out.valid]
      go_wp2_with fail
      go_ret
      exact ⟨rfl, bb.out⟩
    have g1 : decide ((j : Int) ≤ (k : Int) + 12) = true := decide_eq_true (by omega)
    by_cases hjN : (j : Int) < N
    case neg =>
      have hno : Hid ((j : Int) < 0 ∨ scO xs ys ≤ (j : Int)) := Lib.hid (.inr (by rw [hN.out]; omega))
      clear hjN
      go_wp2_with fail
      refine (nt_no hno.out _ _ _ _ _ p.out q.out hn13 hm13).mono ?_
      rintro e w11 ⟨⟨ax, cx, rfl, ho⟩, hb⟩
      have x := Lib.hid ho.row
      have szw11 := hb.size
      replace o0 := kept hb (block_lt o0) o0
      replace o1 := kept hb (block_lt o1) o1
      replace p := Lib.hid (p.out.bel hb)
      replace q := Lib.hid (q.out.bel hb)
      replace o := Lib.hid (o.out.bel hb)
      replace bb := Lib.hid (bb.out.trans (hb.mono bb.out.size))
      clear hb
      clear ho
      have hbx : Below w11.heap.size w11 (w11.alloc (.cells #[.int .i64 0, .slice ax 0 cx] 30)) := (Below.refl _ _).alloc (Nat.le_refl _) _
      replace o0 := kept hbx (block_lt o0) o0
      replace o1 := kept hbx (block_lt o1) o1
      replace p := Lib.hid (p.out.bel hbx)
      replace q := Lib.hid (q.out.bel hbx)
      replace o := Lib.hid (o.out.bel hbx)
      replace x := Lib.hid (x.out.bel hbx)
      replace bb := Lib.hid (bb.out.trans (hbx.mono bb.out.size))
      clear hbx
      have x0 : (w11.alloc (.cells #[.int .i64 0, .slice ax 0 cx] 30)).cell? ⟨w11.heap.size, 0, none⟩ = some (.int .i64 0) := by simp
      have x1 : (w11.alloc (.cells #[.int .i64 0, .slice ax 0 cx] 30)).cell? ⟨w11.heap.size, 1, none⟩ = some (.slice ax 0 cx) := by simp
      go_wp2_with fail
      exact ⟨⟨j + 1, by omega, by omega, by go_num, o0, o1, p, q, o, bb⟩, by simp [intOf]; omega⟩
    have hjc : (j : Int) < cntS xs ys := by rw [hNc.out]; omega
    have hne : nthS xs ys j ≠ L := fun e => by
      have := nth_inj hjc hkN.out (e.trans hL.out.symm)
      omega
    obtain ⟨J, hJ⟩ : ∃ J, nthS xs ys j = J := ⟨_, rfl⟩
    rw [hJ] at hne
    have hsi := Lib.hid (fun (wx : World) (s1 : Option Addr) (c1 : Nat) (h1 : Row wx s1 n J) (h2 : Row wx ao n L) => sameImg_any m s1 ao n c1 co J L wx h1 h2 hn6)
    rw [decide_eq_false hne] at hsi
    replace hJ := Lib.hid hJ
    replace hjc := Lib.hid hjc
    clear hne hjN
    go_wp2_with fail
    refine (nt_ok rfl hct.out hjc.out hJ.out ly lx _ _ _ _ _ p.out q.out hn13 hm13).mono ?_
    rintro e w12 ⟨⟨ax, cx, rfl, ho⟩, hb⟩
    have x := Lib.hid ho.row
    have szw12 := hb.size
    replace o0 := kept hb (block_lt o0) o0
    replace o1 := kept hb (block_lt o1) o1
    replace p := Lib.hid (p.out.bel hb)
    replace q := Lib.hid (q.out.bel hb)
    replace o := Lib.hid (o.out.bel hb)
    replace bb := Lib.hid (bb.out.trans (hb.mono bb.out.size))
    clear hb
    clear ho
    have hbx : Below w12.heap.size w12 (w12.alloc (.cells #[.int .i64 m, .slice ax n cx] 30)) := (Below.refl _ _).alloc (Nat.le_refl _) _
    replace o0 := kept hbx (block_lt o0) o0
    replace o1 := kept hbx (block_lt o1) o1
    replace p := Lib.hid (p.out.bel hbx)
    replace q := Lib.hid (q.out.bel hbx)
    replace o := Lib.hid (o.out.bel hbx)
    replace x := Lib.hid (x.out.bel hbx)
    replace bb := Lib.hid (bb.out.trans (hbx.mono bb.out.size))
    clear hbx
    have x0 : (w12.alloc (.cells #[.int .i64 m, .slice ax n cx] 30)).cell? ⟨w12.heap.size, 0, none⟩ = some (.int .i64 m) := by simp
    have x1 : (w12.alloc (.cells #[.int .i64 m, .slice ax n cx] 30)).cell? ⟨w12.heap.size, 1, none⟩ = some (.slice ax n cx) := by simp
    go_wp2_with fail
    refine (hsi.out _ _ _ x.out o.out).mono ?_
    rintro e w13 ⟨rfl, hb⟩
    have szw13 : w12.heap.size + 1 ≤ w13.heap.size := by have := hb.size; simpa using this
    replace o0 := kept hb (block_lt o0) o0
    replace o1 := kept hb (block_lt o1) o1
    replace x0 := kept hb (block_lt x0) x0
    replace x1 := kept hb (block_lt x1) x1
    replace p := Lib.hid (p.out.bel hb)
    replace q := Lib.hid (q.out.bel hb)
    replace o := Lib.hid (o.out.bel hb)
    replace x := Lib.hid (x.out.bel hb)
    replace bb := Lib.hid (bb.out.trans (hb.mono bb.out.size))
    clear hb
    clear x0 x1 x
    go_wp2_with fail
    exact ⟨⟨j + 1, by omega, by omega, by go_num, o0, o1, p, q, o, bb⟩, by simp [intOf]; omega⟩

set_option maxRecDepth 100000 in
theorem lifted (os : Os) (started : os.Started) (H : Type) (enc : TypeId × Value → H) :
    ReturnsInHanded {} Try.checked os 13 .any (Rows.fnNthDistinctSpec.pre6 enc Try.prog Try.f13 Rows.fnNthDistinctRow.domain false) (Rows.fnNthDistinctSpec.post enc Try.prog Try.f13 false true false false) := by
  refine returnsInHanded_of_change (C := Try.checked) own started (by kernel_rfl) Try.func13
    (ChangeSpec.witness6 (enc := enc) (C := Try.checked) false ⟨#[], #[.slice none 0 0], []⟩ 8 (by kernel_rfl) (by kernel_rfl) (by kernel_rfl) (by kernel_rfl)) ?_
  intro W base args ds gs before hval0 hW hcnd _
  have hval : ∀ (j : Nat) t v, Try.f13.params[j]? = some t → args[j]? = some v → Value.okWide Try.prog W .any base t v := hval0
  have hW' := hW
  obtain ⟨p, q, hA0, hV, rfl, hfz, hnd⟩ := hW
  have hA : DataW.TrodAll enc Try.prog W 0 (fun _ => true) true Try.f13.params.toList args.toList ds p := hA0
  rw [Try.params13] at hA hval
  obtain ⟨v0, vs0, d0, ds0, p0, q0, hargs, rfl, rfl, h0, r0⟩ := trodAll_cons hA
  obtain ⟨rfl, rfl, rfl⟩ := trodAll_nil r0
  obtain rfl : args = #[v0] := by cases args; simp_all
  obtain ⟨rfl, rfl⟩ := trodVars_none hV
  have k0 := h0
  have lt0 : ∀ x ∈ p0, x.block < W.heap.size := by obtain ⟨m, hm⟩ := k0; exact DataW.trod_lt m _ _ _ hm
  obtain ⟨a0, len0, cap0, z0, rfl, w0, l0, m0⟩ := open_code (hval 0 22 v0 rfl rfl) h0
  clear hA0 hval0
  refine (walk a0 len0 cap0 z0 W w0 l0 m0).mono fun e W' ⟨he, bel⟩ => ?_
  subst he
  exact ⟨_, rfl, _, _, _, [], _, [], hW', trodAll_mk1 (shut_bool Try.underlying4 _), (trodAll_cons_mk (Below.trod laidOut (by kernel_rfl) (of_decide_eq_true (by kernel_rfl)) k0 bel lt0) trodAll_mk0), rfl, bel.frame _, fun h => by cases h⟩

theorem closed : joinedFacts Try.prog 13 Try.f13 Rows.fnNthDistinctSpec Rows.fnNthDistinctRow = true := by
  simp only [joinedFacts, Bool.and_eq_true]
  repeat' apply And.intro
  all_goals first | with_reducible exact mayEnterOk | (with_reducible rw [liftsFinalOk]; kernel_rfl) | (with_reducible rw [makeOk]; kernel_rfl) | kernel_rfl

theorem over : Rows.fnNthDistinctRow.holds Try.pinned (OpenSpec.ofChange Rows.fnNthDistinctSpec) :=
  OpenClaim.holds_of_wide 13 Try.f13 rfl rfl rfl rfl rfl rfl rfl ⟨rfl, rfl, rfl, rfl, rfl⟩ rfl rfl rfl rfl rfl (by kernel_rfl) Try.func13 closed
    (of_decide_eq_true (by kernel_rfl)) (by unfold Func.isWrapper; first | (rw [if_pos (by decide +kernel)]; kernel_rfl) | (rw [if_neg (by decide +kernel)]; exact ⟨rfl, rfl⟩))
    (fun os started H enc _ => lifted os started H enc)

theorem proved : Rows.FnNthDistinctSaid := over
#print axioms proved
end Go.Proofs.Ytnfkafaolelkbaa.LFNthDistinct

