/-
  For every slice of bytes the law FnFlip answers true: a flip changes variable cells alone, and few of them; nothing that was there is written; no condition.
-/
import Derived.Test.YtkpbfhohcffilaaO
import Derived.Test.YtkpbfhohcffilaaK
import Derived.Deep.RegionLaw
import Derived.Test.YtkpbfhohcffilaaMj
namespace Go.Proofs.Ytkpbfhohcffilaa.LFFlip
open Go.ChangeShapes Go.WideShapes Go.ChangeAt Go.RowKit Go.Joins

set_option maxHeartbeats 8000000 in
set_option maxRecDepth 100000 in
theorem walk (a : Option Addr) (len cap : Nat) (zs : List Int) (w : World) (h : Bys w a len zs) (hl : len ≤ cap) (hm : cap ≤ 9223372036854775807) :
    Calls Try.prog 7 #[.slice a len cap] w fun e w' => e = .returned (.bool true) ∧ Below w.heap.size w w' := by
  by_cases hbig : 1048576 < len
  · clear h
    go_enter Try.func7, Try.ntmps7
    go_wp2_with fail
    go_ret
    exact ⟨rfl, Below.refl _ _⟩
  go_enter Try.func7, Try.ntmps7
  go_wp2_with fail
  refine (draw_DrawCellFlip a len cap zs _ h hl hm).mono ?_
  rintro e w1 ⟨V, s, n, cg, xs, i, j, rfl, hR, hn, hb1⟩
  clear h hl hm
  have bb := Lib.hid hb1
  have p := Lib.hid hR
  clear hR hb1
  have hbx : Below w1.heap.size w1 (w1.alloc (.cells #[.int .i64 V, .slice s n cg] 25)) := (Below.refl _ _).alloc (Nat.le_refl _) _
  replace p := Lib.hid (p.out.bel hbx)
  replace bb := Lib.hid (bb.out.trans (hbx.mono bb.out.size))
  clear hbx
  have p0 : (w1.alloc (.cells #[.int .i64 V, .slice s n cg] 25)).cell? ⟨w1.heap.size, 0, none⟩ = some (.int .i64 V) := by simp
  have p1 : (w1.alloc (.cells #[.int .i64 V, .slice s n cg] 25)).cell? ⟨w1.heap.size, 1, none⟩ = some (.slice s n cg) := by simp
  by_cases hv : varO V xs i j = true
  case neg =>
    have hv : varO V xs i j = false := by simpa using hv
    go_wp2_with fail
    refine (flip_no hv (by omega) _ _ _ p.out).mono ?_
    rintro e w2 ⟨⟨ao, co, rfl, ho⟩, hb⟩
    have o := Lib.hid ho.row
    have szw2 : w1.heap.size + 1 ≤ w2.heap.size := by have := hb.size; simpa using this
    replace p0 := kept hb (block_lt p0) p0
    replace p1 := kept hb (block_lt p1) p1
    replace p := Lib.hid (p.out.bel hb)
    replace bb := Lib.hid (bb.out.trans (hb.mono bb.out.size))
    clear hb
    clear ho
    have hbx : Below w2.heap.size w2 (w2.alloc (.cells #[.int .i64 0, .slice ao 0 co] 25)) := (Below.refl _ _).alloc (Nat.le_refl _) _
    replace p0 := kept hbx (block_lt p0) p0
    replace p1 := kept hbx (block_lt p1) p1
    replace p := Lib.hid (p.out.bel hbx)
    replace o := Lib.hid (o.out.bel hbx)
    replace bb := Lib.hid (bb.out.trans (hbx.mono bb.out.size))
    clear hbx
    have o0 : (w2.alloc (.cells #[.int .i64 0, .slice ao 0 co] 25)).cell? ⟨w2.heap.size, 0, none⟩ = some (.int .i64 0) := by simp
    have o1 : (w2.alloc (.cells #[.int .i64 0, .slice ao 0 co] 25)).cell? ⟨w2.heap.size, 1, none⟩ = some (.slice ao 0 co) := by simp
    go_wp2_with fail
    refine (flip_sno hv (by omega) _ _ _ p.out).mono ?_
    rintro e w3 ⟨⟨aow, cow, rfl, ho⟩, hb⟩
    have ow := Lib.hid ho.row
    have szw3 : w2.heap.size + 1 ≤ w3.heap.size := by have := hb.size; simpa using this
    replace p0 := kept hb (block_lt p0) p0
    replace p1 := kept hb (block_lt p1) p1
    replace o0 := kept hb (block_lt o0) o0
    replace o1 := kept hb (block_lt o1) o1
    replace p := Lib.hid (p.out.bel hb)
    replace o := Lib.hid (o.out.bel hb)
    replace bb := Lib.hid (bb.out.trans (hb.mono bb.out.size))
    clear hb
    clear ho
    have hbx : Below w3.heap.size w3 (w3.alloc (.cells #[.int .i64 0, .slice aow 0 cow] 25)) := (Below.refl _ _).alloc (Nat.le_refl _) _
    replace p0 := kept hbx (block_lt p0) p0
    replace p1 := kept hbx (block_lt p1) p1
    replace o0 := kept hbx (block_lt o0) o0
    replace o1 := kept hbx (block_lt o1) o1
    replace p := Lib.hid (p.out.bel hbx)
    replace o := Lib.hid (o.out.bel hbx)
    replace ow := Lib.hid (ow.out.bel hbx)
    replace bb := Lib.hid (bb.out.trans (hbx.mono bb.out.size))
    clear hbx
    have ow0 : (w3.alloc (.cells #[.int .i64 0, .slice aow 0 cow] 25)).cell? ⟨w3.heap.size, 0, none⟩ = some (.int .i64 0) := by simp
    have ow1 : (w3.alloc (.cells #[.int .i64 0, .slice aow 0 cow] 25)).cell? ⟨w3.heap.size, 1, none⟩ = some (.slice aow 0 cow) := by simp
    go_wp2_with fail
    refine (sameImage_yes _ _ _ _ _ _ [] _ o.out ow.out (by omega)).mono ?_
    rintro e w4 ⟨rfl, hb⟩
    have szw4 : w3.heap.size + 1 ≤ w4.heap.size := by have := hb.size; simpa using this
    replace p0 := kept hb (block_lt p0) p0
    replace p1 := kept hb (block_lt p1) p1
    replace o0 := kept hb (block_lt o0) o0
    replace o1 := kept hb (block_lt o1) o1
    replace ow0 := kept hb (block_lt ow0) ow0
    replace ow1 := kept hb (block_lt ow1) ow1
    replace p := Lib.hid (p.out.bel hb)
    replace o := Lib.hid (o.out.bel hb)
    replace ow := Lib.hid (ow.out.bel hb)
    replace bb := Lib.hid (bb.out.trans (hb.mono bb.out.size))
    clear hb
    go_wp2_with fail
    refine (sameImage_yes _ _ _ _ _ _ [] _ o.out ow.out (by omega)).mono ?_
    rintro e w5 ⟨rfl, hb⟩
    have szw5 := hb.size
    replace p0 := kept hb (block_lt p0) p0
    replace p1 := kept hb (block_lt p1) p1
    replace o0 := kept hb (block_lt o0) o0
    replace o1 := kept hb (block_lt o1) o1
    replace ow0 := kept hb (block_lt ow0) ow0
    replace ow1 := kept hb (block_lt ow1) ow1
    replace p := Lib.hid (p.out.bel hb)
    replace o := Lib.hid (o.out.bel hb)
    replace ow := Lib.hid (ow.out.bel hb)
    replace bb := Lib.hid (bb.out.trans (hb.mono bb.out.size))
    clear hb
    go_wp2_with fail
    go_ret
    exact ⟨rfl, bb.out⟩
  obtain ⟨W, i, j, rfl, rfl, rfl, hI, hi, hj, hvb⟩ := varO_im p.out.1 hv
  have hW6 := hI.w6
  have hW1 := hI.w1
  have hn1 := hI.l1
  have hn6 := hI.l6
  have hfa := flip_all hI hi hj hvb
  obtain ⟨L, hL⟩ : ∃ L, flipL xs W n i j = L := ⟨_, rfl⟩
  rw [hL] at hfa
  obtain ⟨hJ, hse, hcj, hd1, hd2⟩ := hfa
  replace hL := Lib.hid hL
  replace hse := Lib.hid hse
  replace hI := Lib.hid hI
  replace hJ := Lib.hid hJ
  replace hcj := Lib.hid hcj
  clear hv
  go_wp2_with fail
  refine (flip_ok hI.out hi hj hvb hL.out _ _ _ p.out).mono ?_
  rintro e w6 ⟨⟨ao, co, rfl, ho⟩, hb⟩
  have o := Lib.hid ho.row
  have szw6 : w1.heap.size + 1 ≤ w6.heap.size := by have := hb.size; simpa using this
  replace p0 := kept hb (block_lt p0) p0
  replace p1 := kept hb (block_lt p1) p1
  replace p := Lib.hid (p.out.bel hb)
  replace bb := Lib.hid (bb.out.trans (hb.mono bb.out.size))
  clear hb
  clear ho
  have hbx : Below w6.heap.size w6 (w6.alloc (.cells #[.int .i64 W, .slice ao n co] 25)) := (Below.refl _ _).alloc (Nat.le_refl _) _
  replace p0 := kept hbx (block_lt p0) p0
  replace p1 := kept hbx (block_lt p1) p1
  replace p := Lib.hid (p.out.bel hbx)
  replace o := Lib.hid (o.out.bel hbx)
  replace bb := Lib.hid (bb.out.trans (hbx.mono bb.out.size))
  clear hbx
  have o0 : (w6.alloc (.cells #[.int .i64 W, .slice ao n co] 25)).cell? ⟨w6.heap.size, 0, none⟩ = some (.int .i64 W) := by simp
  have o1 : (w6.alloc (.cells #[.int .i64 W, .slice ao n co] 25)).cell? ⟨w6.heap.size, 1, none⟩ = some (.slice ao n co) := by simp
  go_wp2_with fail
  refine (flip_sok hI.out hi hj hvb hL.out _ _ _ p.out).mono ?_
  rintro e w7 ⟨⟨aow, cow, rfl, ho⟩, hb⟩
  have ow := Lib.hid ho.row
  have szw7 : w6.heap.size + 1 ≤ w7.heap.size := by have := hb.size; simpa using this
  replace p0 := kept hb (block_lt p0) p0
  replace p1 := kept hb (block_lt p1) p1
  replace o0 := kept hb (block_lt o0) o0
  replace o1 := kept hb (block_lt o1) o1
  replace p := Lib.hid (p.out.bel hb)
  replace o := Lib.hid (o.out.bel hb)
  replace bb := Lib.hid (bb.out.trans (hb.mono bb.out.size))
  clear hb
  clear ho
  have hbx : Below w7.heap.size w7 (w7.alloc (.cells #[.int .i64 W, .slice aow n cow] 25)) := (Below.refl _ _).alloc (Nat.le_refl _) _
  replace p0 := kept hbx (block_lt p0) p0
  replace p1 := kept hbx (block_lt p1) p1
  replace o0 := kept hbx (block_lt o0) o0
  replace o1 := kept hbx (block_lt o1) o1
  replace p := Lib.hid (p.out.bel hbx)
  replace o := Lib.hid (o.out.bel hbx)
  replace ow := Lib.hid (ow.out.bel hbx)
  replace bb := Lib.hid (bb.out.trans (hbx.mono bb.out.size))
  clear hbx
  have ow0 : (w7.alloc (.cells #[.int .i64 W, .slice aow n cow] 25)).cell? ⟨w7.heap.size, 0, none⟩ = some (.int .i64 W) := by simp
  have ow1 : (w7.alloc (.cells #[.int .i64 W, .slice aow n cow] 25)).cell? ⟨w7.heap.size, 1, none⟩ = some (.slice aow n cow) := by simp
  go_wp2_with fail
  refine (sameImage_yes _ _ _ _ _ _ L _ o.out ow.out (by omega)).mono ?_
  rintro e w8 ⟨rfl, hb⟩
  have szw8 : w7.heap.size + 1 ≤ w8.heap.size := by have := hb.size; simpa using this
  replace p0 := kept hb (block_lt p0) p0
  replace p1 := kept hb (block_lt p1) p1
  replace o0 := kept hb (block_lt o0) o0
  replace o1 := kept hb (block_lt o1) o1
  replace ow0 := kept hb (block_lt ow0) ow0
  replace ow1 := kept hb (block_lt ow1) ow1
  replace p := Lib.hid (p.out.bel hb)
  replace o := Lib.hid (o.out.bel hb)
  replace ow := Lib.hid (ow.out.bel hb)
  replace bb := Lib.hid (bb.out.trans (hb.mono bb.out.size))
  clear hb
  clear ow0 ow1 ow
  obtain ⟨f, hf⟩ : ∃ f, farL xs L W n = f := ⟨_, rfl⟩
  have hne : farL xs L W n ≠ 0 := fun e => by
    have e2 := (farl_none hI.out hJ.out).1 e
    have e3 := hcj.out
    rw [← e2] at e3
    cases hx : cellOf xs i j <;> rw [hx] at e3 <;> cases e3
  have hf0 := farl_bd hI.out L
  have hev := far_even hse.out.cells
  have h4 := far_not2 hse.out.cells (by have h1 := hf0.1; unfold farL at hne h1; omega)
  have hvr := Lib.hid (fun (k l : Nat) (hk : k < n) (hl : l < W) (h : cellOf xs k l ≠ cellOf L k l) => var_of hse.out hk hl h)
  unfold farL at hf hf0 hd1 hd2
  rw [hf] at hf0 hd1 hd2 hev h4
  have hfm : f ≤ 2 * min (n : Int) (W : Int) := by omega
  have hfm2 : f % 2 = 0 := hev
  have hfm3 : f.tmod 2 = 0 := by rw [Int.tmod_eq_emod_of_nonneg hf0.1]; exact hev
  obtain ⟨mm, hmm⟩ : ∃ mm, min (n : Int) (W : Int) = mm := ⟨_, rfl⟩
  have hmb : 1 ≤ mm ∧ mm ≤ 6 := by omega
  rw [hmm] at hfm
  have hwm : IntKind.i64.wrap (2 * mm) = 2 * mm := IntWalk.i64_in _ ⟨by omega, by omega⟩
  have hf2 : farL xs L W n = f := hf
  replace hf2 := Lib.hid hf2
  replace hmm := Lib.hid hmm
  replace hfm := Lib.hid hfm
  replace hfm2 := Lib.hid hfm2
  replace hfm3 := Lib.hid hfm3
  clear hf hne hev hd1 hd2
  go_wp2_with fail
  refine (far_ok hI.out hJ.out hf2.out _ _ _ _ _ p.out o.out).mono ?_
  rintro e w9 ⟨rfl, hb⟩
  have szw9 := hb.size
  replace p0 := kept hb (block_lt p0) p0
  replace p1 := kept hb (block_lt p1) p1
  replace o0 := kept hb (block_lt o0) o0
  replace o1 := kept hb (block_lt o1) o1
  replace p := Lib.hid (p.out.bel hb)
  replace o := Lib.hid (o.out.bel hb)
  replace bb := Lib.hid (bb.out.trans (hb.mono bb.out.size))
  clear hb
  go_wp2_with fail
  go_loopw [11] (fun t wr => ∃ k : Nat, k ≤ n ∧ t = .int .i64 k ∧ wr.cell? ⟨w1.heap.size, 0, none⟩ = some (.int .i64 W) ∧ wr.cell? ⟨w1.heap.size, 1, none⟩ = some (.slice s n cg) ∧ wr.cell? ⟨w6.heap.size, 0, none⟩ = some (.int .i64 W) ∧ wr.cell? ⟨w6.heap.size, 1, none⟩ = some (.slice ao n co) ∧ Hid (Row wr s n xs) ∧ Hid (Row wr ao n L) ∧ Hid (Below w.heap.size w wr)) (fun i _ => n - (intOf i).toNat)
  case atStart => exact ⟨0, Nat.zero_le _, rfl, p0, p1, o0, o1, p, o, bb⟩
  case round =>
    clear p0 p1 o0 o1 p o bb
    obtain ⟨k, hk, rfl, p0, p1, o0, o1, p, o, bb⟩ := hrel
    obtain ⟨w10, rfl⟩ : ∃ w10 : World, w10 = wr := ⟨_, rfl⟩
    by_cases hlt : k < n
    case pos =>
      go_wp2_with fail
      go_loopw [12] (fun t wr => ∃ l : Nat, l ≤ W ∧ t = .int .i64 l ∧ wr.cell? ⟨w1.heap.size, 0, none⟩ = some (.int .i64 W) ∧ wr.cell? ⟨w1.heap.size, 1, none⟩ = some (.slice s n cg) ∧ wr.cell? ⟨w6.heap.size, 0, none⟩ = some (.int .i64 W) ∧ wr.cell? ⟨w6.heap.size, 1, none⟩ = some (.slice ao n co) ∧ Hid (Row wr s n xs) ∧ Hid (Row wr ao n L) ∧ Hid (Below w.heap.size w wr)) (fun i _ => W - (intOf i).toNat)
      case atStart => exact ⟨0, Nat.zero_le _, rfl, p0, p1, o0, o1, p, o, bb⟩
      case round =>
        clear p0 p1 o0 o1 p o bb
        obtain ⟨l, hl, rfl, p0, p1, o0, o1, p, o, bb⟩ := hrel
        obtain ⟨w11, rfl⟩ : ∃ w11 : World, w11 = wr := ⟨_, rfl⟩
        by_cases hlj : l < W
        case pos =>
          have hv1 := hvr.out k l hlt hlj
          obtain ⟨b1, h1⟩ : ∃ b, cellOf xs k l = b := ⟨_, rfl⟩
          obtain ⟨b2, h2⟩ : ∃ b, cellOf L k l = b := ⟨_, rfl⟩
          obtain ⟨b3, h3⟩ : ∃ b, varB xs W n k l = b := ⟨_, rfl⟩
          rw [h1, h2, h3] at hv1
          have HP := p
          have HO := o
          have c1 := Lib.hid h1
          have c2 := Lib.hid h2
          have c3 := Lib.hid h3
          clear h1 h2 h3
          by_cases heq : b1 = b2
          · subst heq
            clear hv1
            have hbn : (b1 != b1) = false := by cases b1 <;> rfl
            have hbn2 : (b1 == b1) = true := by cases b1 <;> rfl
            have g_p0 := fun p : Bw w11 => bw_cell p0 p
            have g_p1 := fun p : Bw w11 => bw_cell p1 p
            have g_o0 := fun p : Bw w11 => bw_cell o0 p
            have g_o1 := fun p : Bw w11 => bw_cell o1 p
            have cc0 : ∀ p : Bw w11, Calls Try.prog 31 #[.agg #[.int .i64 W, .slice s n cg], .int .i64 k, .int .i64 l] p.v (fun e w' => e = .returned (.bool b1) ∧ ∃ q : Bw w11, w' = q.v) := fun p => bw_of (has_ok hI.out hlt hlj c1.out _ _ p.v (HP.out.bel p.h))
            replace cc0 := Lib.hid cc0
            have cc1 : ∀ p : Bw w11, Calls Try.prog 31 #[.agg #[.int .i64 W, .slice ao n co], .int .i64 k, .int .i64 l] p.v (fun e w' => e = .returned (.bool b1) ∧ ∃ q : Bw w11, w' = q.v) := fun p => bw_of (has_ok hJ.out hlt hlj c2.out _ _ p.v (HO.out.bel p.h))
            replace cc1 := Lib.hid cc1
            go_wp2_with fail
            refine wp_region_bw (by kernel_rfl) (by kernel_rfl) ?_
            repeat (go_big_quiet_step (first | (with_reducible exact cc0.out _) | (with_reducible exact cc1.out _)))
            refine wpQuiet_nil ?_
            intro _ hw'
            obtain ⟨pq, rfl⟩ := hw'
            have hb := pq.h
            clear g_p0 g_p1 g_o0 g_o1 cc0 cc1
            generalize pq.v = w12 at hb ⊢
            clear pq
            have szw12 := hb.size
            replace p0 := kept hb (block_lt p0) p0
            replace p1 := kept hb (block_lt p1) p1
            replace o0 := kept hb (block_lt o0) o0
            replace o1 := kept hb (block_lt o1) o1
            replace p := Lib.hid (p.out.bel hb)
            replace o := Lib.hid (o.out.bel hb)
            replace bb := Lib.hid (bb.out.trans (hb.mono bb.out.size))
            clear hb
            clear HP HO
            go_wp2_with fail
            exact ⟨⟨l + 1, by omega, by go_num, p0, p1, o0, o1, p, o, bb⟩, by simp [intOf]; omega⟩
          · have hv2 := hv1 heq
            subst hv2
            have hbn : (b1 != b2) = true := by rw [bne_iff_ne]; exact heq
            have hbn2 : (b1 == b2) = false := by rw [beq_eq_false_iff_ne]; exact heq
            clear hv1 heq
            have g_p0 := fun p : Bw w11 => bw_cell p0 p
            have g_p1 := fun p : Bw w11 => bw_cell p1 p
            have g_o0 := fun p : Bw w11 => bw_cell o0 p
            have g_o1 := fun p : Bw w11 => bw_cell o1 p
            have cc0 : ∀ p : Bw w11, Calls Try.prog 31 #[.agg #[.int .i64 W, .slice s n cg], .int .i64 k, .int .i64 l] p.v (fun e w' => e = .returned (.bool b1) ∧ ∃ q : Bw w11, w' = q.v) := fun p => bw_of (has_ok hI.out hlt hlj c1.out _ _ p.v (HP.out.bel p.h))
            replace cc0 := Lib.hid cc0
            have cc1 : ∀ p : Bw w11, Calls Try.prog 31 #[.agg #[.int .i64 W, .slice ao n co], .int .i64 k, .int .i64 l] p.v (fun e w' => e = .returned (.bool b2) ∧ ∃ q : Bw w11, w' = q.v) := fun p => bw_of (has_ok hJ.out hlt hlj c2.out _ _ p.v (HO.out.bel p.h))
            replace cc1 := Lib.hid cc1
            have cc2 : ∀ p : Bw w11, Calls Try.prog 32 #[.agg #[.int .i64 W, .slice s n cg], .int .i64 k, .int .i64 l] p.v (fun e w' => e = .returned (.bool true) ∧ ∃ q : Bw w11, w' = q.v) := fun p => bw_of (var_ok hI.out hlt hlj c3.out _ _ p.v (HP.out.bel p.h))
            replace cc2 := Lib.hid cc2
            go_wp2_with fail
            refine wp_region_bw (by kernel_rfl) (by kernel_rfl) ?_
            repeat (go_big_quiet_step (first | (with_reducible exact cc0.out _) | (with_reducible exact cc1.out _) | (with_reducible exact cc2.out _)))
            refine wpQuiet_nil ?_
            intro _ hw'
            obtain ⟨pq, rfl⟩ := hw'
            have hb := pq.h
            clear g_p0 g_p1 g_o0 g_o1 cc0 cc1 cc2
            generalize pq.v = w13 at hb ⊢
            clear pq
            have szw13 := hb.size
            replace p0 := kept hb (block_lt p0) p0
            replace p1 := kept hb (block_lt p1) p1
            replace o0 := kept hb (block_lt o0) o0
            replace o1 := kept hb (block_lt o1) o1
            replace p := Lib.hid (p.out.bel hb)
            replace o := Lib.hid (o.out.bel hb)
            replace bb := Lib.hid (bb.out.trans (hb.mono bb.out.size))
            clear hb
            clear HP HO
            go_wp2_with fail
            exact ⟨⟨l + 1, by omega, by go_num, p0, p1, o0, o1, p, o, bb⟩, by simp [intOf]; omega⟩
        obtain rfl : W = l := by omega
        go_wp2_with fail
        exact ⟨⟨k + 1, by omega, by go_num, p0, p1, o0, o1, p, o, bb⟩, by simp [intOf]; omega⟩
    obtain rfl : n = k := by omega
    have g1 := hfm.out
    have g2 := hfm2.out
    have g3 := hfm3.out
    have g4 := hmm.out
    go_wp2_with fail
    go_ret
    exact ⟨rfl, bb.out⟩

set_option maxRecDepth 100000 in
theorem lifted (os : Os) (started : os.Started) (H : Type) (enc : TypeId × Value → H) :
    ReturnsInHanded {} Try.checked os 7 .any (Rows.fnFlipSpec.pre6 enc Try.prog Try.f7 Rows.fnFlipRow.domain false) (Rows.fnFlipSpec.post enc Try.prog Try.f7 false true false false) := by
  refine returnsInHanded_of_change (C := Try.checked) own started (by kernel_rfl) Try.func7
    (ChangeSpec.witness6 (enc := enc) (C := Try.checked) false ⟨#[], #[.slice none 0 0], []⟩ 8 (by kernel_rfl) (by kernel_rfl) (by kernel_rfl) (by kernel_rfl)) ?_
  intro W base args ds gs before hval0 hW hcnd _
  have hval : ∀ (j : Nat) t v, Try.f7.params[j]? = some t → args[j]? = some v → Value.okWide Try.prog W .any base t v := hval0
  have hW' := hW
  obtain ⟨p, q, hA0, hV, rfl, hfz, hnd⟩ := hW
  have hA : DataW.TrodAll enc Try.prog W 0 (fun _ => true) true Try.f7.params.toList args.toList ds p := hA0
  rw [Try.params7] at hA hval
  obtain ⟨v0, vs0, d0, ds0, p0, q0, hargs, rfl, rfl, h0, r0⟩ := trodAll_cons hA
  obtain ⟨rfl, rfl, rfl⟩ := trodAll_nil r0
  obtain rfl : args = #[v0] := by cases args; simp_all
  obtain ⟨rfl, rfl⟩ := trodVars_none hV
  have k0 := h0
  have lt0 : ∀ x ∈ p0, x.block < W.heap.size := by obtain ⟨m, hm⟩ := k0; exact DataW.trod_lt m _ _ _ hm
  obtain ⟨a0, len0, cap0, z0, rfl, w0, l0, m0⟩ := open_code (hval 0 22 v0 rfl rfl) h0
  clear hA0 hval0
  refine (walk a0 len0 cap0 z0 W w0 l0 m0).mono fun e W' ⟨he, bel⟩ => ?_
  subst he
  exact ⟨_, rfl, _, _, _, [], _, [], hW', trodAll_mk1 (shut_bool Try.underlying4 _), (trodAll_cons_mk (Below.trod laidOut (by kernel_rfl) (of_decide_eq_true (by kernel_rfl)) k0 bel lt0) trodAll_mk0), rfl, bel.frame _, fun h => by cases h⟩

theorem closed : joinedFacts Try.prog 7 Try.f7 Rows.fnFlipSpec Rows.fnFlipRow = true := by
  simp only [joinedFacts, Bool.and_eq_true]
  repeat' apply And.intro
  all_goals first | with_reducible exact mayEnterOk | (with_reducible rw [liftsFinalOk]; kernel_rfl) | (with_reducible rw [makeOk]; kernel_rfl) | kernel_rfl

theorem over : Rows.fnFlipRow.holds Try.pinned (OpenSpec.ofChange Rows.fnFlipSpec) :=
  OpenClaim.holds_of_wide 7 Try.f7 rfl rfl rfl rfl rfl rfl rfl ⟨rfl, rfl, rfl, rfl, rfl⟩ rfl rfl rfl rfl rfl (by kernel_rfl) Try.func7 closed
    (of_decide_eq_true (by kernel_rfl)) (by unfold Func.isWrapper; first | (rw [if_pos (by decide +kernel)]; kernel_rfl) | (rw [if_neg (by decide +kernel)]; exact ⟨rfl, rfl⟩))
    (fun os started H enc _ => lifted os started H enc)

theorem proved : Rows.FnFlipSaid := over
#print axioms proved
end Go.Proofs.Ytkpbfhohcffilaa.LFFlip

