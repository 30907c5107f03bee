/-
  For every slice of bytes the law FnRankSmall answers true: a rank counts the images ahead, one by one; nothing that was there is written; no condition.
-/
import Derived.Test.YtnfkafaolelkbaaO
import Derived.Test.YtnfkafaolelkbaaK
import Derived.Deep.RegionLaw
import Derived.Test.YtnfkafaolelkbaaBn
import Derived.Test.YtnfkafaolelkbaaBk
import Derived.Test.YtnfkafaolelkbaaEp
import Derived.Test.YtnfkafaolelkbaaMn
import Derived.Test.YtnfkafaolelkbaaNh
namespace Go.Proofs.Ytnfkafaolelkbaa.LFRankSmall
open Go.ChangeShapes Go.WideShapes Go.ChangeAt Go.RowKit Go.Joins

theorem wrap_36 {N : Nat} (h : N ≤ 36) : wrap64 (N : Int) = (N : Int) ∧ IntKind.i64.wrap (N : Int) = (N : Int) := ⟨IntWalk.wrap64_in _ ⟨by omega, by omega⟩, IntWalk.i64_in _ ⟨by omega, by omega⟩⟩
theorem rnk_small {xs : List Int} {W n : Nat} (hI : Im W n xs) : rnkS (rsL xs W n) (csL xs n W) xs = (((smallL xs W n (pw (n * W)).toNat).filter fun y => ltB y xs).length : Int) := by
  have hp := pw_pos (n * W)
  have hn : (smallL xs W n (pw (n * W)).toNat).Nodup := small_pair _ (by omega)
  have back : ∀ {L : List Int}, L ∈ smallL xs W n (pw (n * W)).toNat → Im W n L ∧ SumE xs L W n := fun {L} hL => by
    obtain ⟨x, hx, rfl, hs⟩ := small_mem.1 hL
    have hI' := dig_im hI.w1 hI.w6 hI.l1 hI.l6 (x : Int)
    obtain ⟨K, eK, _, _, _, _, hse⟩ := same_im hI.hl hI'.hl hs
    obtain rfl : W = K := by omega
    exact ⟨hI', hse⟩
  have fwd : ∀ {L : List Int}, Im W n L → SumE xs L W n → L ∈ smallL xs W n (pw (n * W)).toNat := fun {ys} hy hs => by
    have hd := dig_num hy
    obtain ⟨x, hx⟩ := Int.eq_ofNat_of_zero_le hd.1
    rw [hx] at hd
    exact small_mem.2 ⟨x, by omega, hd.2.2.symm, hI.same hy hs.1 hs.2⟩
  rw [rnk_fil]
  have a := nodup_sub (M := (allS (rsL xs W n) (csL xs n W)).filter fun y => ltB y xs) (hn.filter fun y => ltB y xs) fun y hy => by
    obtain ⟨hm, hl⟩ := List.mem_filter.1 hy
    obtain ⟨hy', hs⟩ := back hm
    refine List.mem_filter.2 ⟨?_, hl⟩
    rw [alls_mem, rs_len, cs_len]
    exact fit_im hy' hs.1.symm hs.2.symm
  have hn2 : ((allS (rsL xs W n) (csL xs n W)).filter fun y => ltB y xs).Nodup := ((imgs_nodup _ _).filter _).filter _
  have b := nodup_sub (L := (allS (rsL xs W n) (csL xs n W)).filter fun y => ltB y xs) (M := (smallL xs W n (pw (n * W)).toNat).filter fun y => ltB y xs) hn2 fun y hy => by
    obtain ⟨hm, hl⟩ := List.mem_filter.1 hy
    refine List.mem_filter.2 ⟨?_, hl⟩
    rw [alls_mem, rs_len, cs_len] at hm
    obtain ⟨h1, h2⟩ := fitP_iff.1 hm.2
    exact fwd ((imgs_im hI.w1 hI.w6 hI.l1 hI.l6).1 hm.1) ⟨h1.symm, h2.symm⟩
  omega

set_option maxHeartbeats 8000000 in
set_option maxRecDepth 100000 in
theorem walk (a : Option Addr) (len cap : Nat) (zs : List Int) (w : World) (h : Bys w a len zs) (hl : len ≤ cap) (hm : cap ≤ 9223372036854775807) :
    Calls Try.prog 5 #[.slice a len cap] w fun e w' => e = .returned (.bool true) ∧ Below w.heap.size w w' := by
  by_cases hbig : 1048576 < len
  · clear h
    go_enter Try.func5, Try.ntmps5
    go_wp2_with fail
    go_ret
    exact ⟨rfl, Below.refl _ _⟩
  go_enter Try.func5, Try.ntmps5
  go_wp2_with fail
  refine (draw_DrawImageRank a len cap zs _ h hl hm).mono ?_
  rintro e w1 ⟨V, s, n, cg, xs, rfl, hR, hn, hb1⟩
  clear h hl hm
  have bb := Lib.hid hb1
  have p := Lib.hid hR
  clear hR hb1
  have hbx : Below w1.heap.size w1 (w1.alloc (.cells #[.int .i64 V, .slice s n cg] 30)) := (Below.refl _ _).alloc (Nat.le_refl _) _
  replace p := Lib.hid (p.out.bel hbx)
  replace bb := Lib.hid (bb.out.trans (hbx.mono bb.out.size))
  clear hbx
  have p0 : (w1.alloc (.cells #[.int .i64 V, .slice s n cg] 30)).cell? ⟨w1.heap.size, 0, none⟩ = some (.int .i64 V) := by simp
  have p1 : (w1.alloc (.cells #[.int .i64 V, .slice s n cg] 30)).cell? ⟨w1.heap.size, 1, none⟩ = some (.slice s n cg) := by simp
  rcases rko_ways (V := V) p.out.1 with h1 | ⟨W, k, rfl, hI, hct, h1, h2, h3, h4⟩
  case inl =>
    go_wp2_with fail
    refine (rk_ok h1 (by omega) _ _ _ p.out).mono ?_
    rintro e w2 ⟨rfl, hb⟩
    have szw2 : w1.heap.size + 1 ≤ w2.heap.size := by have := hb.size; simpa using this
    replace p0 := kept hb (block_lt p0) p0
    replace p1 := kept hb (block_lt p1) p1
    replace p := Lib.hid (p.out.bel hb)
    replace bb := Lib.hid (bb.out.trans (hb.mono bb.out.size))
    clear hb
    go_wp2_with fail
    refine (rk_sok h1 (by omega) _ _ _ p.out).mono ?_
    rintro e w3 ⟨rfl, hb⟩
    have szw3 := hb.size
    replace p0 := kept hb (block_lt p0) p0
    replace p1 := kept hb (block_lt p1) p1
    replace p := Lib.hid (p.out.bel hb)
    replace bb := Lib.hid (bb.out.trans (hb.mono bb.out.size))
    clear hb
    go_wp2_with fail
    go_ret
    exact ⟨rfl, bb.out⟩
  have hW6 := hI.w6
  have hW1 := hI.w1
  have hn1 := hI.l1
  have hn6 := hI.l6
  have lr : (rsL xs W n).length = n := rs_len _ _ _
  have lc : (csL xs n W).length = W := cs_len _ _ _
  have hsv := hI.sumsV
  have hcb := cnt_16 (ctdB_parts hct).2
  have hrs := Lib.hid (fun s c wx hx => rs_ok hI s c wx hx)
  have hcs := Lib.hid (fun s c wx hx => cs_ok hI s c wx hx)
  obtain ⟨R, hR0⟩ : ∃ R, rsL xs W n = R := ⟨_, rfl⟩
  obtain ⟨C, hC0⟩ : ∃ C, csL xs n W = C := ⟨_, rfl⟩
  rw [hR0] at lr hsv hct h2 h3 h4 hrs hcb
  rw [hC0] at lc hsv hct h2 h3 h4 hcs hcb
  obtain ⟨M, hM⟩ : ∃ M, cntS R C = M := ⟨_, rfl⟩
  have hsM : scO R C = M := (sco_yes hct).trans hM
  rw [hM] at hcb h3
  have hkM : Hid ((k : Int) < cntS R C) := Lib.hid (by rw [hM]; omega)
  have hk0 : ¬ (k : Int) < 0 := by omega
  have hn13 : n ≤ 13 := by omega
  have hW13 : W ≤ 13 := by omega
  obtain ⟨N, hN⟩ : ∃ N, n * W = N := ⟨_, rfl⟩
  have ek : (n : Int) * (W : Int) = (N : Int) := by rw [← hN, Int.natCast_mul]
  have hN36 : N ≤ 36 := by rw [← hN]; exact Nat.mul_le_mul hn6 hW6
  have ewN : wrap64 (N : Int) = (N : Int) := (wrap_36 hN36).1
  have ewN2 : IntKind.i64.wrap (N : Int) = (N : Int) := (wrap_36 hN36).2
  have hsm := rnk_small hI
  rw [hR0, hC0, h2] at hsm
  replace hN := Lib.hid hN
  replace hsm := Lib.hid hsm
  replace hsv := Lib.hid hsv
  replace hct := Lib.hid hct
  replace h1 := Lib.hid h1
  replace h2 := Lib.hid h2
  replace h4 := Lib.hid h4
  replace hI := Lib.hid hI
  replace hM := Lib.hid hM
  replace hsM := Lib.hid hsM
  replace hR0 := Lib.hid hR0
  replace hC0 := Lib.hid hC0
  replace lr := Lib.hid lr
  replace lc := Lib.hid lc
  go_wp2_with fail
  refine (rk_ok h1.out (by omega) _ _ _ p.out).mono ?_
  rintro e w4 ⟨rfl, hb⟩
  have szw4 : w1.heap.size + 1 ≤ w4.heap.size := by have := hb.size; simpa using this
  replace p0 := kept hb (block_lt p0) p0
  replace p1 := kept hb (block_lt p1) p1
  replace p := Lib.hid (p.out.bel hb)
  replace bb := Lib.hid (bb.out.trans (hb.mono bb.out.size))
  clear hb
  go_wp2_with fail
  refine (rk_sok h1.out (by omega) _ _ _ p.out).mono ?_
  rintro e w5 ⟨rfl, hb⟩
  have szw5 := hb.size
  replace p0 := kept hb (block_lt p0) p0
  replace p1 := kept hb (block_lt p1) p1
  replace p := Lib.hid (p.out.bel hb)
  replace bb := Lib.hid (bb.out.trans (hb.mono bb.out.size))
  clear hb
  have hkk0 : decide (0 ≤ (k : Int)) = true := decide_eq_true (by omega)
  by_cases h9 : 9 < N
  case pos =>
    go_wp2_with fail
    go_ret
    exact ⟨rfl, bb.out⟩
  obtain ⟨Ls, hLs⟩ : ∃ l, smallL xs W n (pw (n * W)).toNat = l := ⟨_, rfl⟩
  obtain ⟨ls, hls⟩ : ∃ l, Ls.length = l := ⟨_, rfl⟩
  have hl512 : ls ≤ 512 := by
    have h1 := small_le xs W n (pw (n * W)).toNat
    rw [hLs, hls] at h1
    have h2 := pw_le (n * W) 9 (by have := hN.out; omega)
    have h3 : pw 9 = 512 := by decide
    omega
  have hsl := Lib.hid (fun wx hx => small_any_laws W s n cg xs wx hx hI.out (by have := hN.out; omega))
  rw [hLs] at hsl
  rw [hls] at hsl
  have hsm2 := hsm.out
  rw [hLs] at hsm2
  obtain ⟨cf, hcf⟩ : ∃ cf : Nat → Nat, (fun i => ((Ls.take i).filter fun y => ltB y xs).length) = cf := ⟨_, rfl⟩
  have hc0 : Hid (cf 0 = 0) := Lib.hid (by rw [← hcf]; rfl)
  have hcl : Hid (cf ls = k) := Lib.hid (by rw [← hcf]; show ((Ls.take ls).filter _).length = k; rw [← hls, List.take_length]; omega)
  have hcs : Hid (∀ i (h : i < Ls.length), cf (i + 1) = cf i + if ltB Ls[i] xs = true then 1 else 0) := Lib.hid fun i h => by
    rw [← hcf]
    show ((Ls.take (i + 1)).filter _).length = ((Ls.take i).filter _).length + _
    rw [List.take_add_one, List.getElem?_eq_getElem h, Option.toList_some, List.filter_append, List.length_append]
    congr 1
    by_cases e : ltB Ls[i] xs = true
    · rw [if_pos e, List.filter_cons_of_pos (p := fun y => ltB y xs) e]; rfl
    · rw [if_neg e, List.filter_cons_of_neg (p := fun y => ltB y xs) e]; rfl
  have hcb2 : Hid (∀ i, cf i ≤ 512) := Lib.hid fun i => by
    rw [← hcf]
    have h1 := List.length_filter_le (fun y => ltB y xs) (Ls.take i)
    have h2 : (Ls.take i).length ≤ ls := by rw [List.length_take]; omega
    show ((Ls.take i).filter _).length ≤ 512
    omega
  have hxl := Lib.hid hI.out.hl
  replace hls := Lib.hid hls
  replace hLs := Lib.hid hLs
  replace hcf := Lib.hid hcf
  clear hsm2
  go_wp2_with fail
  refine (hsl.out _ p.out).mono ?_
  rintro e w6 ⟨⟨gl, cl, rfl, hIR⟩, hb⟩
  have szw6 := hb.size
  replace p0 := kept hb (block_lt p0) p0
  replace p1 := kept hb (block_lt p1) p1
  replace p := Lib.hid (p.out.bel hb)
  replace bb := Lib.hid (bb.out.trans (hb.mono bb.out.size))
  clear hb
  replace hIR := Lib.hid hIR
  clear hsl
  go_wp2_with fail
  have hbL : Hid (Below w6.heap.size w6 w6) := Lib.hid (Below.refl _ _)
  go_loopw [7, 8] (fun a t wr => ∃ i : Nat, i ≤ ls ∧ t = .int .i64 i ∧ a = .int .i64 (cf i) ∧ Hid (Below w6.heap.size w6 wr)) (fun _ t _ => ls - (intOf t).toNat)
  case atStart => exact ⟨0, Nat.zero_le _, rfl, by rw [hc0.out]; rfl, hbL⟩
  case round =>
    clear hbL
    obtain ⟨i, hi, rfl, rfl, hbL⟩ := hrel
    obtain ⟨wo, rfl⟩ : ∃ wo : World, wo = wr := ⟨_, rfl⟩
    by_cases hlt : i < ls
    case neg =>
      obtain rfl : i = ls := by omega
      have hkk : ((cf i : Int) == (k : Int)) = true := by rw [beq_iff_eq, hcl.out]
      replace bb := Lib.hid (bb.out.trans (hbL.out.mono bb.out.size))
      go_wp2_with fail
      go_ret
      exact ⟨rfl, bb.out⟩
    have hiL : i < Ls.length := by rw [hls.out]; exact hlt
    obtain ⟨e1, hIR2⟩ := hIR.out
    obtain ⟨b, _, f1, fr⟩ := hIR2 i hiL
    have hst := hcs.out i hiL
    have hb5 := hcb2.out i
    obtain ⟨Y, hY⟩ : ∃ Y, Ls[i]'hiL = Y := ⟨_, rfl⟩
    rw [hY] at fr hst
    have i1 : IntKind.i64.wrap ((i : Int) + 1) = (i : Int) + 1 := IntWalk.i64_in _ ⟨by omega, by omega⟩
    obtain ⟨cv, hcv⟩ : ∃ c, cf i = c := ⟨_, rfl⟩
    rw [hcv] at hst hb5 ⊢
    have i4 : IntKind.i64.wrap ((cv : Int) + 1) = (cv : Int) + 1 := IntWalk.i64_in _ ⟨by omega, by omega⟩
    replace f1 := Lib.hid f1
    replace fr := Lib.hid fr
    replace hst := Lib.hid hst
    replace hcv := Lib.hid hcv
    replace hY := Lib.hid hY
    clear hIR2 e1
    go_wp2_with fail
    go_loopw [9] (fun t wr => ∃ j : Nat, j ≤ n ∧ t = .int .i64 j ∧ Hid (∀ q, q < j → Y.getD q 0 = xs.getD q 0) ∧ Hid (Below w6.heap.size w6 wr)) (fun t _ => n - (intOf t).toNat)
    case atStart => exact ⟨0, Nat.zero_le _, rfl, Lib.hid (fun q hq => absurd hq (Nat.not_lt_zero q)), hbL⟩
    case round =>
      clear hbL
      obtain ⟨j, hj, rfl, hpre, hbL⟩ := hrel
      obtain ⟨wi, rfl⟩ : ∃ wi : World, wi = wr := ⟨_, rfl⟩
      have p0 := kept hbL.out (block_lt p0) p0
      have p1 := kept hbL.out (block_lt p1) p1
      have c1 := kept hbL.out (block_lt f1.out) f1.out
      have pr := p.out.bel hbL.out
      have yr := fr.out.bel hbL.out
      by_cases hjn : j < n
      case neg =>
        obtain rfl : j = n := by omega
        have hno : ltB Y xs = false := by
          have hYl : Y.length = j := yr.1
          have := lt_at hYl hxl.out (Nat.le_refl j) hpre.out (.inl rfl)
          exact Bool.eq_false_iff.2 fun h => Nat.lt_irrefl j (this.1 h).1
        have hst2 : Hid (cf (i + 1) = cv) := Lib.hid (by rw [hst.out, hno]; rfl)
        clear hno
        have g_p1 := fun p : Bw wi => bw_cell p1 p
        go_wp2_with fail
        refine wp_region_bw (by kernel_rfl) (by kernel_rfl) ?_
        repeat (go_big_quiet_step (fail))
        refine wpQuiet_nil ?_
        intro _ hw'
        obtain ⟨pq, rfl⟩ := hw'
        have hb := pq.h
        clear g_p1
        generalize pq.v = wz0 at hb ⊢
        clear pq
        replace p1 := kept hb (block_lt p1) p1
        replace hbL := Lib.hid (hbL.out.trans (hb.mono hbL.out.size))
        clear hb
        have g_p1 := fun p : Bw wz0 => bw_cell p1 p
        go_wp2_with fail
        refine wp_region_bw (by kernel_rfl) (by kernel_rfl) ?_
        repeat (go_big_quiet_step (fail))
        refine wpQuiet_nil ?_
        intro _ hw'
        obtain ⟨pq, rfl⟩ := hw'
        have hb := pq.h
        clear g_p1
        generalize pq.v = wz1 at hb ⊢
        clear pq
        replace p1 := kept hb (block_lt p1) p1
        replace hbL := Lib.hid (hbL.out.trans (hb.mono hbL.out.size))
        clear hb
        go_wp2_with fail
        exact ⟨⟨i + 1, by omega, by go_num, by rw [hst2.out], hbL⟩, by simp [intOf]; omega⟩
      obtain ⟨pb, po, ep, pc⟩ := row_at pr hjn
      obtain ⟨_, _, ey, yc⟩ := row_at yr hjn
      cases ey
      subst ep
      rw [Nat.zero_add] at yc
      obtain ⟨u, hu⟩ : ∃ u, Y.getD j 0 = u := ⟨_, rfl⟩
      obtain ⟨v, hv2⟩ : ∃ v, xs.getD j 0 = v := ⟨_, rfl⟩
      rw [hu] at yc
      rw [hv2] at pc
      have i5 : IntKind.i64.wrap ((j : Int) + 1) = (j : Int) + 1 := IntWalk.i64_in _ ⟨by omega, by omega⟩
      by_cases he : u = v
      case pos =>
        have g3 : (u == v) = true := by simpa using he
        have hpre2 : Hid (∀ q, q < j + 1 → Y.getD q 0 = xs.getD q 0) := Lib.hid fun q hq => by
          by_cases e : q = j
          · subst e; rw [hu, hv2, he]
          · exact hpre.out q (by omega)
        replace hu := Lib.hid hu
        replace hv2 := Lib.hid hv2
        clear he pr yr
        have g_p1 := fun p : Bw wi => bw_cell p1 p
        have g_c1 := fun p : Bw wi => bw_cell c1 p
        have g_pc := fun p : Bw wi => bw_cell pc p
        have g_yc := fun p : Bw wi => bw_cell yc p
        go_wp2_with fail
        refine wp_region_bw (by kernel_rfl) (by kernel_rfl) ?_
        repeat (go_big_quiet_step (fail))
        refine wpQuiet_nil ?_
        intro _ hw'
        obtain ⟨pq, rfl⟩ := hw'
        have hb := pq.h
        clear g_p1 g_c1 g_pc g_yc
        generalize pq.v = wz0 at hb ⊢
        clear pq
        replace p1 := kept hb (block_lt p1) p1
        replace c1 := kept hb (block_lt c1) c1
        replace pc := kept hb (block_lt pc) pc
        replace yc := kept hb (block_lt yc) yc
        replace hbL := Lib.hid (hbL.out.trans (hb.mono hbL.out.size))
        clear hb
        go_wp2_with fail
        exact ⟨⟨j + 1, by omega, by go_num, hpre2, hbL⟩, by simp [intOf]; omega⟩
      have g3 : (u == v) = false := by simpa using he
      have hlb : ltB Y xs = decide (u < v) := by
        have hYl : Y.length = n := yr.1
        have := lt_at hYl hxl.out (show j ≤ n by omega) hpre.out (.inr (by rw [hu, hv2]; exact he))
        rw [hu, hv2] at this
        rw [Bool.eq_iff_iff, this, decide_eq_true_eq]
        exact ⟨fun h => h.2, fun h => ⟨hjn, h⟩⟩
      replace hu := Lib.hid hu
      replace hv2 := Lib.hid hv2
      clear pr yr he
      by_cases huv : u < v
      case pos =>
        have g4 : decide (u < v) = true := decide_eq_true huv
        have hst2 : Hid (cf (i + 1) = cv + 1) := Lib.hid (by rw [hst.out, hlb, g4]; rfl)
        clear hlb huv
        have g_p1 := fun p : Bw wi => bw_cell p1 p
        have g_c1 := fun p : Bw wi => bw_cell c1 p
        have g_pc := fun p : Bw wi => bw_cell pc p
        have g_yc := fun p : Bw wi => bw_cell yc p
        go_wp2_with fail
        refine wp_region_bw (by kernel_rfl) (by kernel_rfl) ?_
        repeat (go_big_quiet_step (fail))
        refine wpQuiet_nil ?_
        intro _ hw'
        obtain ⟨pq, rfl⟩ := hw'
        have hb := pq.h
        clear g_p1 g_c1 g_pc g_yc
        generalize pq.v = wz0 at hb ⊢
        clear pq
        replace p1 := kept hb (block_lt p1) p1
        replace c1 := kept hb (block_lt c1) c1
        replace pc := kept hb (block_lt pc) pc
        replace yc := kept hb (block_lt yc) yc
        replace hbL := Lib.hid (hbL.out.trans (hb.mono hbL.out.size))
        clear hb
        have g_p1 := fun p : Bw wz0 => bw_cell p1 p
        have g_c1 := fun p : Bw wz0 => bw_cell c1 p
        have g_pc := fun p : Bw wz0 => bw_cell pc p
        have g_yc := fun p : Bw wz0 => bw_cell yc p
        go_wp2_with fail
        refine wp_region_bw (by kernel_rfl) (by kernel_rfl) ?_
        repeat (go_big_quiet_step (fail))
        refine wpQuiet_nil ?_
        intro _ hw'
        obtain ⟨pq, rfl⟩ := hw'
        have hb := pq.h
        clear g_p1 g_c1 g_pc g_yc
        generalize pq.v = wz1 at hb ⊢
        clear pq
        replace p1 := kept hb (block_lt p1) p1
        replace c1 := kept hb (block_lt c1) c1
        replace pc := kept hb (block_lt pc) pc
        replace yc := kept hb (block_lt yc) yc
        replace hbL := Lib.hid (hbL.out.trans (hb.mono hbL.out.size))
        clear hb
        go_wp2_with fail
        exact ⟨⟨i + 1, by omega, by go_num, by rw [hst2.out]; go_num, hbL⟩, by simp [intOf]; omega⟩
      have g4 : decide (u < v) = false := decide_eq_false huv
      have hst2 : Hid (cf (i + 1) = cv) := Lib.hid (by rw [hst.out, hlb, g4]; rfl)
      clear hlb huv
      have g_p1 := fun p : Bw wi => bw_cell p1 p
      have g_c1 := fun p : Bw wi => bw_cell c1 p
      have g_pc := fun p : Bw wi => bw_cell pc p
      have g_yc := fun p : Bw wi => bw_cell yc p
      go_wp2_with fail
      refine wp_region_bw (by kernel_rfl) (by kernel_rfl) ?_
      repeat (go_big_quiet_step (fail))
      refine wpQuiet_nil ?_
      intro _ hw'
      obtain ⟨pq, rfl⟩ := hw'
      have hb := pq.h
      clear g_p1 g_c1 g_pc g_yc
      generalize pq.v = wz0 at hb ⊢
      clear pq
      replace p1 := kept hb (block_lt p1) p1
      replace c1 := kept hb (block_lt c1) c1
      replace pc := kept hb (block_lt pc) pc
      replace yc := kept hb (block_lt yc) yc
      replace hbL := Lib.hid (hbL.out.trans (hb.mono hbL.out.size))
      clear hb
      have g_p1 := fun p : Bw wz0 => bw_cell p1 p
      have g_c1 := fun p : Bw wz0 => bw_cell c1 p
      have g_pc := fun p : Bw wz0 => bw_cell pc p
      have g_yc := fun p : Bw wz0 => bw_cell yc p
      go_wp2_with fail
      refine wp_region_bw (by kernel_rfl) (by kernel_rfl) ?_
      repeat (go_big_quiet_step (fail))
      refine wpQuiet_nil ?_
      intro _ hw'
      obtain ⟨pq, rfl⟩ := hw'
      have hb := pq.h
      clear g_p1 g_c1 g_pc g_yc
      generalize pq.v = wz1 at hb ⊢
      clear pq
      replace p1 := kept hb (block_lt p1) p1
      replace c1 := kept hb (block_lt c1) c1
      replace pc := kept hb (block_lt pc) pc
      replace yc := kept hb (block_lt yc) yc
      replace hbL := Lib.hid (hbL.out.trans (hb.mono hbL.out.size))
      clear hb
      go_wp2_with fail
      exact ⟨⟨i + 1, by omega, by go_num, by rw [hst2.out], hbL⟩, by simp [intOf]; omega⟩

set_option maxRecDepth 100000 in
theorem lifted (os : Os) (started : os.Started) (H : Type) (enc : TypeId × Value → H) :
    ReturnsInHanded {} Try.checked os 5 .any (Rows.fnRankSmallSpec.pre6 enc Try.prog Try.f5 Rows.fnRankSmallRow.domain false) (Rows.fnRankSmallSpec.post enc Try.prog Try.f5 false true false false) := by
  refine returnsInHanded_of_change (C := Try.checked) own started (by kernel_rfl) Try.func5
    (ChangeSpec.witness6 (enc := enc) (C := Try.checked) false ⟨#[], #[.slice none 0 0], []⟩ 8 (by kernel_rfl) (by kernel_rfl) (by kernel_rfl) (by kernel_rfl)) ?_
  intro W base args ds gs before hval0 hW hcnd _
  have hval : ∀ (j : Nat) t v, Try.f5.params[j]? = some t → args[j]? = some v → Value.okWide Try.prog W .any base t v := hval0
  have hW' := hW
  obtain ⟨p, q, hA0, hV, rfl, hfz, hnd⟩ := hW
  have hA : DataW.TrodAll enc Try.prog W 0 (fun _ => true) true Try.f5.params.toList args.toList ds p := hA0
  rw [Try.params5] at hA hval
  obtain ⟨v0, vs0, d0, ds0, p0, q0, hargs, rfl, rfl, h0, r0⟩ := trodAll_cons hA
  obtain ⟨rfl, rfl, rfl⟩ := trodAll_nil r0
  obtain rfl : args = #[v0] := by cases args; simp_all
  obtain ⟨rfl, rfl⟩ := trodVars_none hV
  have k0 := h0
  have lt0 : ∀ x ∈ p0, x.block < W.heap.size := by obtain ⟨m, hm⟩ := k0; exact DataW.trod_lt m _ _ _ hm
  obtain ⟨a0, len0, cap0, z0, rfl, w0, l0, m0⟩ := open_code (hval 0 22 v0 rfl rfl) h0
  clear hA0 hval0
  refine (walk a0 len0 cap0 z0 W w0 l0 m0).mono fun e W' ⟨he, bel⟩ => ?_
  subst he
  exact ⟨_, rfl, _, _, _, [], _, [], hW', trodAll_mk1 (shut_bool Try.underlying4 _), (trodAll_cons_mk (Below.trod laidOut (by kernel_rfl) (of_decide_eq_true (by kernel_rfl)) k0 bel lt0) trodAll_mk0), rfl, bel.frame _, fun h => by cases h⟩

theorem closed : joinedFacts Try.prog 5 Try.f5 Rows.fnRankSmallSpec Rows.fnRankSmallRow = true := by
  simp only [joinedFacts, Bool.and_eq_true]
  repeat' apply And.intro
  all_goals first | with_reducible exact mayEnterOk | (with_reducible rw [liftsFinalOk]; kernel_rfl) | (with_reducible rw [makeOk]; kernel_rfl) | kernel_rfl

theorem over : Rows.fnRankSmallRow.holds Try.pinned (OpenSpec.ofChange Rows.fnRankSmallSpec) :=
  OpenClaim.holds_of_wide 5 Try.f5 rfl rfl rfl rfl rfl rfl rfl ⟨rfl, rfl, rfl, rfl, rfl⟩ rfl rfl rfl rfl rfl (by kernel_rfl) Try.func5 closed
    (of_decide_eq_true (by kernel_rfl)) (by unfold Func.isWrapper; first | (rw [if_pos (by decide +kernel)]; kernel_rfl) | (rw [if_neg (by decide +kernel)]; exact ⟨rfl, rfl⟩))
    (fun os started H enc _ => lifted os started H enc)

theorem proved : Rows.FnRankSmallSaid := over
#print axioms proved
end Go.Proofs.Ytnfkafaolelkbaa.LFRankSmall

