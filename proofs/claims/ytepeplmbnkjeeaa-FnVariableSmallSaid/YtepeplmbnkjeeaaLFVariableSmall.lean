/-
  For every slice of bytes the law FnVariableSmall answers true: variable cells are those that differ; nothing that was there is written; no condition.
-/
import Derived.Test.YtepeplmbnkjeeaaO
import Derived.Test.YtepeplmbnkjeeaaK
import Derived.Deep.RegionLaw
import Derived.Test.YtepeplmbnkjeeaaMn
namespace Go.Proofs.Ytepeplmbnkjeeaa.LFVariableSmall
open Go.ChangeShapes Go.WideShapes Go.ChangeAt Go.RowKit Go.Joins

set_option maxHeartbeats 8000000 in
set_option maxRecDepth 100000 in
theorem walk (a : Option Addr) (len cap : Nat) (zs : List Int) (w : World) (h : Bys w a len zs) (hl : len ≤ cap) (hm : cap ≤ 9223372036854775807) :
    Calls Try.prog 6 #[.slice a len cap] w fun e w' => e = .returned (.bool true) ∧ Below w.heap.size w w' := by
  by_cases hbig : 1048576 < len
  · clear h
    go_enter Try.func6, Try.ntmps6
    go_wp2_with fail
    go_ret
    exact ⟨rfl, Below.refl _ _⟩
  go_enter Try.func6, Try.ntmps6
  go_wp2_with fail
  refine (draw_DrawImageSteps a len cap zs _ h hl hm).mono ?_
  rintro e w1 ⟨V, s, n, cg, xs, rfl, hR, hn, hb1⟩
  clear h hl hm
  have bb := Lib.hid hb1
  have p := Lib.hid hR
  clear hR hb1
  have hbx : Below w1.heap.size w1 (w1.alloc (.cells #[.int .i64 V, .slice s n cg] 25)) := (Below.refl _ _).alloc (Nat.le_refl _) _
  replace p := Lib.hid (p.out.bel hbx)
  replace bb := Lib.hid (bb.out.trans (hbx.mono bb.out.size))
  clear hbx
  have p0 : (w1.alloc (.cells #[.int .i64 V, .slice s n cg] 25)).cell? ⟨w1.heap.size, 0, none⟩ = some (.int .i64 V) := by simp
  have p1 : (w1.alloc (.cells #[.int .i64 V, .slice s n cg] 25)).cell? ⟨w1.heap.size, 1, none⟩ = some (.slice s n cg) := by simp
  by_cases hv : validB V xs = true
  case neg =>
    have hv : validB V xs = false := by simpa using hv
    go_wp2_with fail
    refine (vars_no hv (by omega) _ _ _ p.out).mono ?_
    rintro e w2 ⟨⟨ao, co, rfl, ho⟩, hb⟩
    have o := Lib.hid ho.row
    have szw2 : w1.heap.size + 1 ≤ w2.heap.size := by have := hb.size; simpa using this
    replace p0 := kept hb (block_lt p0) p0
    replace p1 := kept hb (block_lt p1) p1
    replace p := Lib.hid (p.out.bel hb)
    replace bb := Lib.hid (bb.out.trans (hb.mono bb.out.size))
    clear hb
    clear ho
    have hbx : Below w2.heap.size w2 (w2.alloc (.cells #[.int .i64 0, .slice ao 0 co] 25)) := (Below.refl _ _).alloc (Nat.le_refl _) _
    replace p0 := kept hbx (block_lt p0) p0
    replace p1 := kept hbx (block_lt p1) p1
    replace p := Lib.hid (p.out.bel hbx)
    replace o := Lib.hid (o.out.bel hbx)
    replace bb := Lib.hid (bb.out.trans (hbx.mono bb.out.size))
    clear hbx
    have o0 : (w2.alloc (.cells #[.int .i64 0, .slice ao 0 co] 25)).cell? ⟨w2.heap.size, 0, none⟩ = some (.int .i64 0) := by simp
    have o1 : (w2.alloc (.cells #[.int .i64 0, .slice ao 0 co] 25)).cell? ⟨w2.heap.size, 1, none⟩ = some (.slice ao 0 co) := by simp
    go_wp2_with fail
    refine (vars_sno hv (by omega) _ _ _ p.out).mono ?_
    rintro e w3 ⟨⟨aow, cow, rfl, ho⟩, hb⟩
    have ow := Lib.hid ho.row
    have szw3 : w2.heap.size + 1 ≤ w3.heap.size := by have := hb.size; simpa using this
    replace p0 := kept hb (block_lt p0) p0
    replace p1 := kept hb (block_lt p1) p1
    replace o0 := kept hb (block_lt o0) o0
    replace o1 := kept hb (block_lt o1) o1
    replace p := Lib.hid (p.out.bel hb)
    replace o := Lib.hid (o.out.bel hb)
    replace bb := Lib.hid (bb.out.trans (hb.mono bb.out.size))
    clear hb
    clear ho
    have hbx : Below w3.heap.size w3 (w3.alloc (.cells #[.int .i64 0, .slice aow 0 cow] 25)) := (Below.refl _ _).alloc (Nat.le_refl _) _
    replace p0 := kept hbx (block_lt p0) p0
    replace p1 := kept hbx (block_lt p1) p1
    replace o0 := kept hbx (block_lt o0) o0
    replace o1 := kept hbx (block_lt o1) o1
    replace p := Lib.hid (p.out.bel hbx)
    replace o := Lib.hid (o.out.bel hbx)
    replace ow := Lib.hid (ow.out.bel hbx)
    replace bb := Lib.hid (bb.out.trans (hbx.mono bb.out.size))
    clear hbx
    have ow0 : (w3.alloc (.cells #[.int .i64 0, .slice aow 0 cow] 25)).cell? ⟨w3.heap.size, 0, none⟩ = some (.int .i64 0) := by simp
    have ow1 : (w3.alloc (.cells #[.int .i64 0, .slice aow 0 cow] 25)).cell? ⟨w3.heap.size, 1, none⟩ = some (.slice aow 0 cow) := by simp
    go_wp2_with fail
    refine (sameImage_yes _ _ _ _ _ _ [] _ o.out ow.out (by omega)).mono ?_
    rintro e w4 ⟨rfl, hb⟩
    have szw4 : w3.heap.size + 1 ≤ w4.heap.size := by have := hb.size; simpa using this
    replace p0 := kept hb (block_lt p0) p0
    replace p1 := kept hb (block_lt p1) p1
    replace o0 := kept hb (block_lt o0) o0
    replace o1 := kept hb (block_lt o1) o1
    replace ow0 := kept hb (block_lt ow0) ow0
    replace ow1 := kept hb (block_lt ow1) ow1
    replace p := Lib.hid (p.out.bel hb)
    replace o := Lib.hid (o.out.bel hb)
    replace ow := Lib.hid (ow.out.bel hb)
    replace bb := Lib.hid (bb.out.trans (hb.mono bb.out.size))
    clear hb
    go_wp2_with fail
    refine (sameImage_yes _ _ _ _ _ _ [] _ o.out ow.out (by omega)).mono ?_
    rintro e w5 ⟨rfl, hb⟩
    have szw5 := hb.size
    replace p0 := kept hb (block_lt p0) p0
    replace p1 := kept hb (block_lt p1) p1
    replace o0 := kept hb (block_lt o0) o0
    replace o1 := kept hb (block_lt o1) o1
    replace ow0 := kept hb (block_lt ow0) ow0
    replace ow1 := kept hb (block_lt ow1) ow1
    replace p := Lib.hid (p.out.bel hb)
    replace o := Lib.hid (o.out.bel hb)
    replace ow := Lib.hid (ow.out.bel hb)
    replace bb := Lib.hid (bb.out.trans (hb.mono bb.out.size))
    clear hb
    go_wp2_with fail
    go_ret
    exact ⟨rfl, bb.out⟩
  have hI0 := validB_W hv
  obtain ⟨W, rfl⟩ := Int.eq_ofNat_of_zero_le (by omega : 0 ≤ V)
  have hI : Im W n xs := Im.of hv p.out.1
  have hW6 := hI.w6
  have hW1 := hI.w1
  have hn1 := hI.l1
  have hn6 := hI.l6
  have hJ := varl_im hI
  obtain ⟨L, hL⟩ : ∃ L, varL xs W n = L := ⟨_, rfl⟩
  rw [hL] at hJ
  obtain ⟨N, hN⟩ : ∃ N, n * W = N := ⟨_, rfl⟩
  have ek : (n : Int) * (W : Int) = (N : Int) := by rw [← hN, Int.natCast_mul]
  have hN36 : N ≤ 36 := by rw [← hN]; exact Nat.mul_le_mul hn6 hW6
  have ewN : wrap64 (N : Int) = (N : Int) := IntWalk.wrap64_in _ ⟨by omega, by omega⟩
  have ewN2 : IntKind.i64.wrap (N : Int) = (N : Int) := IntWalk.i64_in _ ⟨by omega, by omega⟩
  replace hN := Lib.hid hN
  replace hL := Lib.hid hL
  replace hI := Lib.hid hI
  replace hJ := Lib.hid hJ
  clear hv hI0
  go_wp2_with fail
  refine (vars_ok hI.out hL.out _ _ _ p.out).mono ?_
  rintro e w6 ⟨⟨ao, co, rfl, ho⟩, hb⟩
  have o := Lib.hid ho.row
  have szw6 : w1.heap.size + 1 ≤ w6.heap.size := by have := hb.size; simpa using this
  replace p0 := kept hb (block_lt p0) p0
  replace p1 := kept hb (block_lt p1) p1
  replace p := Lib.hid (p.out.bel hb)
  replace bb := Lib.hid (bb.out.trans (hb.mono bb.out.size))
  clear hb
  clear ho
  have hbx : Below w6.heap.size w6 (w6.alloc (.cells #[.int .i64 W, .slice ao n co] 25)) := (Below.refl _ _).alloc (Nat.le_refl _) _
  replace p0 := kept hbx (block_lt p0) p0
  replace p1 := kept hbx (block_lt p1) p1
  replace p := Lib.hid (p.out.bel hbx)
  replace o := Lib.hid (o.out.bel hbx)
  replace bb := Lib.hid (bb.out.trans (hbx.mono bb.out.size))
  clear hbx
  have o0 : (w6.alloc (.cells #[.int .i64 W, .slice ao n co] 25)).cell? ⟨w6.heap.size, 0, none⟩ = some (.int .i64 W) := by simp
  have o1 : (w6.alloc (.cells #[.int .i64 W, .slice ao n co] 25)).cell? ⟨w6.heap.size, 1, none⟩ = some (.slice ao n co) := by simp
  go_wp2_with fail
  refine (vars_sok hI.out hL.out _ _ _ p.out).mono ?_
  rintro e w7 ⟨⟨aow, cow, rfl, ho⟩, hb⟩
  have ow := Lib.hid ho.row
  have szw7 : w6.heap.size + 1 ≤ w7.heap.size := by have := hb.size; simpa using this
  replace p0 := kept hb (block_lt p0) p0
  replace p1 := kept hb (block_lt p1) p1
  replace o0 := kept hb (block_lt o0) o0
  replace o1 := kept hb (block_lt o1) o1
  replace p := Lib.hid (p.out.bel hb)
  replace o := Lib.hid (o.out.bel hb)
  replace bb := Lib.hid (bb.out.trans (hb.mono bb.out.size))
  clear hb
  clear ho
  have hbx : Below w7.heap.size w7 (w7.alloc (.cells #[.int .i64 W, .slice aow n cow] 25)) := (Below.refl _ _).alloc (Nat.le_refl _) _
  replace p0 := kept hbx (block_lt p0) p0
  replace p1 := kept hbx (block_lt p1) p1
  replace o0 := kept hbx (block_lt o0) o0
  replace o1 := kept hbx (block_lt o1) o1
  replace p := Lib.hid (p.out.bel hbx)
  replace o := Lib.hid (o.out.bel hbx)
  replace ow := Lib.hid (ow.out.bel hbx)
  replace bb := Lib.hid (bb.out.trans (hbx.mono bb.out.size))
  clear hbx
  have ow0 : (w7.alloc (.cells #[.int .i64 W, .slice aow n cow] 25)).cell? ⟨w7.heap.size, 0, none⟩ = some (.int .i64 W) := by simp
  have ow1 : (w7.alloc (.cells #[.int .i64 W, .slice aow n cow] 25)).cell? ⟨w7.heap.size, 1, none⟩ = some (.slice aow n cow) := by simp
  go_wp2_with fail
  refine (sameImage_yes _ _ _ _ _ _ L _ o.out ow.out (by omega)).mono ?_
  rintro e w8 ⟨rfl, hb⟩
  have szw8 : w7.heap.size + 1 ≤ w8.heap.size := by have := hb.size; simpa using this
  replace p0 := kept hb (block_lt p0) p0
  replace p1 := kept hb (block_lt p1) p1
  replace o0 := kept hb (block_lt o0) o0
  replace o1 := kept hb (block_lt o1) o1
  replace ow0 := kept hb (block_lt ow0) ow0
  replace ow1 := kept hb (block_lt ow1) ow1
  replace p := Lib.hid (p.out.bel hb)
  replace o := Lib.hid (o.out.bel hb)
  replace ow := Lib.hid (ow.out.bel hb)
  replace bb := Lib.hid (bb.out.trans (hb.mono bb.out.size))
  clear hb
  by_cases h9 : 9 < N
  case pos =>
    go_wp2_with fail
    refine (sameImage_yes _ _ _ _ _ _ L _ o.out ow.out (by omega)).mono ?_
    rintro e w9 ⟨rfl, hb⟩
    have szw9 := hb.size
    replace p0 := kept hb (block_lt p0) p0
    replace p1 := kept hb (block_lt p1) p1
    replace o0 := kept hb (block_lt o0) o0
    replace o1 := kept hb (block_lt o1) o1
    replace ow0 := kept hb (block_lt ow0) ow0
    replace ow1 := kept hb (block_lt ow1) ow1
    replace p := Lib.hid (p.out.bel hb)
    replace o := Lib.hid (o.out.bel hb)
    replace ow := Lib.hid (ow.out.bel hb)
    replace bb := Lib.hid (bb.out.trans (hb.mono bb.out.size))
    clear hb
    go_wp2_with fail
    go_ret
    exact ⟨rfl, bb.out⟩
  clear ow0 ow1 ow
  have hany := Lib.hid (fun (i j : Nat) (hi : i < n) (hj : j < W) => (small_any hI.out hi hj).trans ((varl_cell hI.out hi hj).symm.trans (by rw [hL.out])))
  obtain ⟨Ls, hLs⟩ : ∃ Ls, smallL xs W n (pw (n * W)).toNat = Ls := ⟨_, rfl⟩
  have hLI : ∀ q (h : q < Ls.length), Im W n Ls[q] := fun q h => by
    have hm : Ls[q] ∈ smallL xs W n (pw (n * W)).toNat := by rw [hLs]; exact List.getElem_mem h
    obtain ⟨x, _, e, _⟩ := small_mem.1 hm
    rw [e]; exact dig_im hW1 hW6 hn1 hn6 _
  rw [hLs] at hany
  have hsl := Lib.hid (hLs ▸ fun wx hx => small_any_laws W s n cg xs wx hx hI.out (by have := hN.out; omega))
  obtain ⟨M, hM⟩ : ∃ M, Ls.length = M := ⟨_, rfl⟩
  have hM512 : M ≤ 512 := by
    have h1 := small_le xs W n (pw (n * W)).toNat
    rw [hLs, hM] at h1
    have h2 := pw_le (n * W) 9 (by have := hN.out; omega)
    have h3 : pw 9 = 512 := by decide
    omega
  rw [hM] at hsl
  replace hLI := Lib.hid hLI
  replace hLs := Lib.hid hLs
  replace hM := Lib.hid hM
  go_wp2_with fail
  refine (hsl.out _ p.out).mono ?_
  rintro e w10 ⟨⟨gl, cl, rfl, ho⟩, hb⟩
  have ls := Lib.hid ho
  have szw10 := hb.size
  replace p0 := kept hb (block_lt p0) p0
  replace p1 := kept hb (block_lt p1) p1
  replace o0 := kept hb (block_lt o0) o0
  replace o1 := kept hb (block_lt o1) o1
  replace p := Lib.hid (p.out.bel hb)
  replace o := Lib.hid (o.out.bel hb)
  replace bb := Lib.hid (bb.out.trans (hb.mono bb.out.size))
  clear hb
  clear ho hN36 ewN ewN2 ek h9
  go_wp2_with fail
  go_loopw [9] (fun t wr => ∃ i : Nat, i ≤ n ∧ t = .int .i64 i ∧ wr.cell? ⟨w1.heap.size, 0, none⟩ = some (.int .i64 W) ∧ wr.cell? ⟨w1.heap.size, 1, none⟩ = some (.slice s n cg) ∧ wr.cell? ⟨w6.heap.size, 0, none⟩ = some (.int .i64 W) ∧ wr.cell? ⟨w6.heap.size, 1, none⟩ = some (.slice ao n co) ∧ Hid (Row wr s n xs) ∧ Hid (Row wr ao n L) ∧ Hid (IRow wr gl M W n Ls) ∧ Hid (Below w.heap.size w wr)) (fun i _ => n - (intOf i).toNat)
  case atStart => exact ⟨0, Nat.zero_le _, rfl, p0, p1, o0, o1, p, o, ls, bb⟩
  case round =>
    clear p0 p1 o0 o1 p o ls bb
    obtain ⟨i, hi, rfl, p0, p1, o0, o1, p, o, ls, bb⟩ := hrel
    obtain ⟨w11, rfl⟩ : ∃ w11 : World, w11 = wr := ⟨_, rfl⟩
    by_cases hlt : i < n
    case pos =>
      go_wp2_with fail
      go_loopw [10] (fun t wr => ∃ j : Nat, j ≤ W ∧ t = .int .i64 j ∧ wr.cell? ⟨w1.heap.size, 0, none⟩ = some (.int .i64 W) ∧ wr.cell? ⟨w1.heap.size, 1, none⟩ = some (.slice s n cg) ∧ wr.cell? ⟨w6.heap.size, 0, none⟩ = some (.int .i64 W) ∧ wr.cell? ⟨w6.heap.size, 1, none⟩ = some (.slice ao n co) ∧ Hid (Row wr s n xs) ∧ Hid (Row wr ao n L) ∧ Hid (IRow wr gl M W n Ls) ∧ Hid (Below w.heap.size w wr)) (fun i _ => W - (intOf i).toNat)
      case atStart => exact ⟨0, Nat.zero_le _, rfl, p0, p1, o0, o1, p, o, ls, bb⟩
      case round =>
        clear p0 p1 o0 o1 p o ls bb
        obtain ⟨j, hj, rfl, p0, p1, o0, o1, p, o, ls, bb⟩ := hrel
        obtain ⟨w12, rfl⟩ : ∃ w12 : World, w12 = wr := ⟨_, rfl⟩
        by_cases hlj : j < W
        case pos =>
          have hv1 := hany.out i j hlt hlj
          obtain ⟨bx, hbx0⟩ : ∃ b, cellOf xs i j = b := ⟨_, rfl⟩
          obtain ⟨bl, hbl0⟩ : ∃ b, cellOf L i j = b := ⟨_, rfl⟩
          rw [hbx0, hbl0] at hv1
          replace hbx0 := Lib.hid hbx0
          replace hbl0 := Lib.hid hbl0
          replace hv1 := Lib.hid hv1
          have hd0 : ((Ls.take 0).any fun K => cellOf K i j != bx) = false := by simp
          go_wp2_with fail
          go_loopw [11, 12] (fun d t wr => ∃ k : Nat, k ≤ M ∧ t = .int .i64 k ∧ d = .bool ((Ls.take k).any fun K => cellOf K i j != bx) ∧ wr.cell? ⟨w1.heap.size, 0, none⟩ = some (.int .i64 W) ∧ wr.cell? ⟨w1.heap.size, 1, none⟩ = some (.slice s n cg) ∧ wr.cell? ⟨w6.heap.size, 0, none⟩ = some (.int .i64 W) ∧ wr.cell? ⟨w6.heap.size, 1, none⟩ = some (.slice ao n co) ∧ Hid (Row wr s n xs) ∧ Hid (Row wr ao n L) ∧ Hid (IRow wr gl M W n Ls) ∧ Hid (Below w.heap.size w wr)) (fun _ i _ => M - (intOf i).toNat)
          case atStart => exact ⟨0, Nat.zero_le _, rfl, by rw [hd0], p0, p1, o0, o1, p, o, ls, bb⟩
          case round =>
            clear p0 p1 o0 o1 p o ls bb
            obtain ⟨k, hk, rfl, rfl, p0, p1, o0, o1, p, o, ls, bb⟩ := hrel
            obtain ⟨w13, rfl⟩ : ∃ w13 : World, w13 = wr := ⟨_, rfl⟩
            by_cases hlk : k < M
            case pos =>
              have hkl : k < Ls.length := by rw [hM.out]; exact hlk
              have hIk := hLI.out k hkl
              obtain ⟨bb2, c0, c1, rk⟩ := ls.out.2 k hkl
              have htk : ((Ls.take (k + 1)).any fun K => cellOf K i j != bx) = (((Ls.take k).any fun K => cellOf K i j != bx) || (cellOf Ls[k] i j != bx)) := by
                rw [List.take_succ_eq_append_getElem hkl, List.any_append]; simp
              obtain ⟨d0, hd⟩ : ∃ d, ((Ls.take k).any fun K => cellOf K i j != bx) = d := ⟨_, rfl⟩
              obtain ⟨bk, hbk⟩ : ∃ b, cellOf Ls[k] i j = b := ⟨_, rfl⟩
              rw [hd, hbk] at htk
              rw [hd]
              generalize Ls[k] = LK at *
              replace hbk := Lib.hid hbk
              replace htk := Lib.hid htk
              replace hd := Lib.hid hd
              replace hIk := Lib.hid hIk
              replace rk := Lib.hid rk
              have HP := p
              have HK := rk
              cases d0
              · have g_p0 := fun p : Bw w13 => bw_cell p0 p
                have g_p1 := fun p : Bw w13 => bw_cell p1 p
                have g_o0 := fun p : Bw w13 => bw_cell o0 p
                have g_o1 := fun p : Bw w13 => bw_cell o1 p
                have g_c0 := fun p : Bw w13 => bw_cell c0 p
                have g_c1 := fun p : Bw w13 => bw_cell c1 p
                have cc0 : ∀ p : Bw w13, Calls Try.prog 28 #[.agg #[.int .i64 W, .slice (some ⟨bb2, 0, none⟩) n n], .int .i64 i, .int .i64 j] p.v (fun e w' => e = .returned (.bool bk) ∧ ∃ q : Bw w13, w' = q.v) := fun p => bw_of (has_ok hIk.out hlt hlj hbk.out _ _ p.v (HK.out.bel p.h))
                replace cc0 := Lib.hid cc0
                have cc1 : ∀ p : Bw w13, Calls Try.prog 28 #[.agg #[.int .i64 W, .slice s n cg], .int .i64 i, .int .i64 j] p.v (fun e w' => e = .returned (.bool bx) ∧ ∃ q : Bw w13, w' = q.v) := fun p => bw_of (has_ok hI.out hlt hlj hbx0.out _ _ p.v (HP.out.bel p.h))
                replace cc1 := Lib.hid cc1
                go_wp2_with fail
                refine wp_region_bw (by kernel_rfl) (by kernel_rfl) ?_
                repeat (go_big_quiet_step (first | (with_reducible exact cc0.out _) | (with_reducible exact cc1.out _)))
                refine wpQuiet_nil ?_
                intro _ hw'
                obtain ⟨pq, rfl⟩ := hw'
                have hb := pq.h
                clear g_p0 g_p1 g_o0 g_o1 g_c0 g_c1 cc0 cc1
                generalize pq.v = w14 at hb ⊢
                clear pq
                have szw14 := hb.size
                replace p0 := kept hb (block_lt p0) p0
                replace p1 := kept hb (block_lt p1) p1
                replace o0 := kept hb (block_lt o0) o0
                replace o1 := kept hb (block_lt o1) o1
                replace c0 := kept hb (block_lt c0) c0
                replace c1 := kept hb (block_lt c1) c1
                replace p := Lib.hid (p.out.bel hb)
                replace o := Lib.hid (o.out.bel hb)
                replace ls := Lib.hid (ls.out.bel hb)
                replace bb := Lib.hid (bb.out.trans (hb.mono bb.out.size))
                clear hb
                clear HP HK rk c0 c1
                go_wp2_with fail
                refine ⟨⟨k + 1, by omega, by go_num, ?_, p0, p1, o0, o1, p, o, ls, bb⟩, by simp [intOf]; omega⟩
                rw [htk.out]; cases bk <;> cases bx <;> rfl
              · have g_p0 := fun p : Bw w13 => bw_cell p0 p
                have g_p1 := fun p : Bw w13 => bw_cell p1 p
                have g_o0 := fun p : Bw w13 => bw_cell o0 p
                have g_o1 := fun p : Bw w13 => bw_cell o1 p
                have g_c0 := fun p : Bw w13 => bw_cell c0 p
                have g_c1 := fun p : Bw w13 => bw_cell c1 p
                go_wp2_with fail
                refine wp_region_bw (by kernel_rfl) (by kernel_rfl) ?_
                repeat (go_big_quiet_step (fail))
                refine wpQuiet_nil ?_
                intro _ hw'
                obtain ⟨pq, rfl⟩ := hw'
                have hb := pq.h
                clear g_p0 g_p1 g_o0 g_o1 g_c0 g_c1
                generalize pq.v = w15 at hb ⊢
                clear pq
                have szw15 := hb.size
                replace p0 := kept hb (block_lt p0) p0
                replace p1 := kept hb (block_lt p1) p1
                replace o0 := kept hb (block_lt o0) o0
                replace o1 := kept hb (block_lt o1) o1
                replace c0 := kept hb (block_lt c0) c0
                replace c1 := kept hb (block_lt c1) c1
                replace p := Lib.hid (p.out.bel hb)
                replace o := Lib.hid (o.out.bel hb)
                replace ls := Lib.hid (ls.out.bel hb)
                replace bb := Lib.hid (bb.out.trans (hb.mono bb.out.size))
                clear hb
                clear HP HK rk c0 c1
                go_wp2_with fail
                refine ⟨⟨k + 1, by omega, by go_num, ?_, p0, p1, o0, o1, p, o, ls, bb⟩, by simp [intOf]; omega⟩
                rw [htk.out]; rfl
            obtain rfl : M = k := by omega
            have hfin : ((Ls.take M).any fun K => cellOf K i j != bx) = bl := by rw [← hM.out, List.take_length]; exact hv1.out
            rw [hfin]
            have hbb : (bl != bl) = false := by cases bl <;> rfl
            have hbb2 : (bl == bl) = true := by cases bl <;> rfl
            go_wp2_with fail
            refine (has_ok hJ.out hlt hlj hbl0.out _ _ _ o.out).mono ?_
            rintro e w16 ⟨rfl, hb⟩
            have szw16 := hb.size
            replace p0 := kept hb (block_lt p0) p0
            replace p1 := kept hb (block_lt p1) p1
            replace o0 := kept hb (block_lt o0) o0
            replace o1 := kept hb (block_lt o1) o1
            replace p := Lib.hid (p.out.bel hb)
            replace o := Lib.hid (o.out.bel hb)
            replace ls := Lib.hid (ls.out.bel hb)
            replace bb := Lib.hid (bb.out.trans (hb.mono bb.out.size))
            clear hb
            go_wp2_with fail
            exact ⟨⟨j + 1, by omega, by go_num, p0, p1, o0, o1, p, o, ls, bb⟩, by simp [intOf]; omega⟩
        obtain rfl : W = j := by omega
        go_wp2_with fail
        exact ⟨⟨i + 1, by omega, by go_num, p0, p1, o0, o1, p, o, ls, bb⟩, by simp [intOf]; omega⟩
    obtain rfl : n = i := by omega
    go_wp2_with fail
    go_ret
    exact ⟨rfl, bb.out⟩

set_option maxRecDepth 100000 in
theorem lifted (os : Os) (started : os.Started) (H : Type) (enc : TypeId × Value → H) :
    ReturnsInHanded {} Try.checked os 6 .any (Rows.fnVariableSmallSpec.pre6 enc Try.prog Try.f6 Rows.fnVariableSmallRow.domain false) (Rows.fnVariableSmallSpec.post enc Try.prog Try.f6 false true false false) := by
  refine returnsInHanded_of_change (C := Try.checked) own started (by kernel_rfl) Try.func6
    (ChangeSpec.witness6 (enc := enc) (C := Try.checked) false ⟨#[], #[.slice none 0 0], []⟩ 8 (by kernel_rfl) (by kernel_rfl) (by kernel_rfl) (by kernel_rfl)) ?_
  intro W base args ds gs before hval0 hW hcnd _
  have hval : ∀ (j : Nat) t v, Try.f6.params[j]? = some t → args[j]? = some v → Value.okWide Try.prog W .any base t v := hval0
  have hW' := hW
  obtain ⟨p, q, hA0, hV, rfl, hfz, hnd⟩ := hW
  have hA : DataW.TrodAll enc Try.prog W 0 (fun _ => true) true Try.f6.params.toList args.toList ds p := hA0
  rw [Try.params6] at hA hval
  obtain ⟨v0, vs0, d0, ds0, p0, q0, hargs, rfl, rfl, h0, r0⟩ := trodAll_cons hA
  obtain ⟨rfl, rfl, rfl⟩ := trodAll_nil r0
  obtain rfl : args = #[v0] := by cases args; simp_all
  obtain ⟨rfl, rfl⟩ := trodVars_none hV
  have k0 := h0
  have lt0 : ∀ x ∈ p0, x.block < W.heap.size := by obtain ⟨m, hm⟩ := k0; exact DataW.trod_lt m _ _ _ hm
  obtain ⟨a0, len0, cap0, z0, rfl, w0, l0, m0⟩ := open_code (hval 0 22 v0 rfl rfl) h0
  clear hA0 hval0
  refine (walk a0 len0 cap0 z0 W w0 l0 m0).mono fun e W' ⟨he, bel⟩ => ?_
  subst he
  exact ⟨_, rfl, _, _, _, [], _, [], hW', trodAll_mk1 (shut_bool Try.underlying4 _), (trodAll_cons_mk (Below.trod laidOut (by kernel_rfl) (of_decide_eq_true (by kernel_rfl)) k0 bel lt0) trodAll_mk0), rfl, bel.frame _, fun h => by cases h⟩

theorem closed : joinedFacts Try.prog 6 Try.f6 Rows.fnVariableSmallSpec Rows.fnVariableSmallRow = true := by
  simp only [joinedFacts, Bool.and_eq_true]
  repeat' apply And.intro
  all_goals first | with_reducible exact mayEnterOk | (with_reducible rw [liftsFinalOk]; kernel_rfl) | (with_reducible rw [makeOk]; kernel_rfl) | kernel_rfl

theorem over : Rows.fnVariableSmallRow.holds Try.pinned (OpenSpec.ofChange Rows.fnVariableSmallSpec) :=
  OpenClaim.holds_of_wide 6 Try.f6 rfl rfl rfl rfl rfl rfl rfl ⟨rfl, rfl, rfl, rfl, rfl⟩ rfl rfl rfl rfl rfl (by kernel_rfl) Try.func6 closed
    (of_decide_eq_true (by kernel_rfl)) (by unfold Func.isWrapper; first | (rw [if_pos (by decide +kernel)]; kernel_rfl) | (rw [if_neg (by decide +kernel)]; exact ⟨rfl, rfl⟩))
    (fun os started H enc _ => lifted os started H enc)

theorem proved : Rows.FnVariableSmallSaid := over
#print axioms proved
end Go.Proofs.Ytepeplmbnkjeeaa.LFVariableSmall

