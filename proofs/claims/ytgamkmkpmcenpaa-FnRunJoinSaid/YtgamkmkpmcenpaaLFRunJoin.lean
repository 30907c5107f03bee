/-
  For every slice of bytes the law FnRunJoin answers true: a run and the same switches in the opposite order lead back; nothing that was there is written; no condition.
-/
import Derived.Test.YtgamkmkpmcenpaaO
import Derived.Test.YtgamkmkpmcenpaaK
import Derived.Deep.RegionLaw
import Derived.Test.YtgamkmkpmcenpaaWg
namespace Go.Proofs.Ytgamkmkpmcenpaa.LFRunJoin
open Go.ChangeShapes Go.WideShapes Go.ChangeAt Go.RowKit Go.Joins

set_option maxHeartbeats 2000000 in
set_option maxRecDepth 100000 in
theorem walk (a : Option Addr) (len cap : Nat) (zs : List Int) (w : World) (h : Bys w a len zs) (hl : len ≤ cap) (hm : cap ≤ 9223372036854775807) :
    Calls Try.prog 18 #[.slice a len cap] w fun e w' => e = .returned (.bool true) ∧ Below w.heap.size w w' := by
  by_cases hbig : 1048576 < len
  · clear h
    go_enter Try.func18, Try.ntmps18
    go_wp2_with fail
    go_ret
    exact ⟨rfl, Below.refl _ _⟩
  go_enter Try.func18, Try.ntmps18
  go_wp2_with fail
  refine (draw_DrawSwitchRun a len cap zs _ h hl hm).mono ?_
  rintro e w1 ⟨V, s, n, cg, xs, gl, N, cl, L, rfl, hR, hQ, hn, hN, hb1⟩
  clear h hl hm
  have bb := Lib.hid hb1
  have p := Lib.hid hR
  have l := Lib.hid hQ
  clear hR hQ hb1
  have hbx : Below w1.heap.size w1 (w1.alloc (.cells #[.int .i64 V, .slice s n cg] 25)) := (Below.refl _ _).alloc (Nat.le_refl _) _
  replace p := Lib.hid (p.out.bel hbx)
  replace l := Lib.hid (l.out.bel hbx)
  replace bb := Lib.hid (bb.out.trans (hbx.mono bb.out.size))
  clear hbx
  have p0 : (w1.alloc (.cells #[.int .i64 V, .slice s n cg] 25)).cell? ⟨w1.heap.size, 0, none⟩ = some (.int .i64 V) := by simp
  have p1 : (w1.alloc (.cells #[.int .i64 V, .slice s n cg] 25)).cell? ⟨w1.heap.size, 1, none⟩ = some (.slice s n cg) := by simp
  rcases runOut_im (V := V) p.out.1 (L := L) with hno | ⟨W, ys, rfl, hI, hrun, hJ⟩
  case inl =>
    go_wp2_with fail
    refine (run_no hno (by omega) (by omega) _ _ _ _ _ p.out l.out).mono ?_
    rintro e w2 ⟨⟨ao, co, rfl, ho⟩, hb⟩
    have o := Lib.hid ho.row
    have szw2 : w1.heap.size + 1 ≤ w2.heap.size := by have := hb.size; simpa using this
    replace p0 := kept hb (block_lt p0) p0
    replace p1 := kept hb (block_lt p1) p1
    replace p := Lib.hid (p.out.bel hb)
    replace l := Lib.hid (l.out.bel hb)
    replace bb := Lib.hid (bb.out.trans (hb.mono bb.out.size))
    clear hb
    clear ho
    have hbx : Below w2.heap.size w2 (w2.alloc (.cells #[.int .i64 0, .slice ao 0 co] 25)) := (Below.refl _ _).alloc (Nat.le_refl _) _
    replace p0 := kept hbx (block_lt p0) p0
    replace p1 := kept hbx (block_lt p1) p1
    replace p := Lib.hid (p.out.bel hbx)
    replace l := Lib.hid (l.out.bel hbx)
    replace o := Lib.hid (o.out.bel hbx)
    replace bb := Lib.hid (bb.out.trans (hbx.mono bb.out.size))
    clear hbx
    have o0 : (w2.alloc (.cells #[.int .i64 0, .slice ao 0 co] 25)).cell? ⟨w2.heap.size, 0, none⟩ = some (.int .i64 0) := by simp
    have o1 : (w2.alloc (.cells #[.int .i64 0, .slice ao 0 co] 25)).cell? ⟨w2.heap.size, 1, none⟩ = some (.slice ao 0 co) := by simp
    go_wp2_with fail
    refine (runs_no hno (by omega) (by omega) _ _ _ _ _ p.out l.out).mono ?_
    rintro e w3 ⟨⟨aow, cow, rfl, ho⟩, hb⟩
    have ow := Lib.hid ho.row
    have szw3 : w2.heap.size + 1 ≤ w3.heap.size := by have := hb.size; simpa using this
    replace p0 := kept hb (block_lt p0) p0
    replace p1 := kept hb (block_lt p1) p1
    replace o0 := kept hb (block_lt o0) o0
    replace o1 := kept hb (block_lt o1) o1
    replace p := Lib.hid (p.out.bel hb)
    replace l := Lib.hid (l.out.bel hb)
    replace o := Lib.hid (o.out.bel hb)
    replace bb := Lib.hid (bb.out.trans (hb.mono bb.out.size))
    clear hb
    clear ho
    have hbx : Below w3.heap.size w3 (w3.alloc (.cells #[.int .i64 0, .slice aow 0 cow] 25)) := (Below.refl _ _).alloc (Nat.le_refl _) _
    replace p0 := kept hbx (block_lt p0) p0
    replace p1 := kept hbx (block_lt p1) p1
    replace o0 := kept hbx (block_lt o0) o0
    replace o1 := kept hbx (block_lt o1) o1
    replace p := Lib.hid (p.out.bel hbx)
    replace l := Lib.hid (l.out.bel hbx)
    replace o := Lib.hid (o.out.bel hbx)
    replace ow := Lib.hid (ow.out.bel hbx)
    replace bb := Lib.hid (bb.out.trans (hbx.mono bb.out.size))
    clear hbx
    have ow0 : (w3.alloc (.cells #[.int .i64 0, .slice aow 0 cow] 25)).cell? ⟨w3.heap.size, 0, none⟩ = some (.int .i64 0) := by simp
    have ow1 : (w3.alloc (.cells #[.int .i64 0, .slice aow 0 cow] 25)).cell? ⟨w3.heap.size, 1, none⟩ = some (.slice aow 0 cow) := by simp
    go_wp2_with fail
    refine (sameImage_yes _ _ _ _ _ _ [] _ o.out ow.out (by omega)).mono ?_
    rintro e w4 ⟨rfl, hb⟩
    have szw4 : w3.heap.size + 1 ≤ w4.heap.size := by have := hb.size; simpa using this
    replace p0 := kept hb (block_lt p0) p0
    replace p1 := kept hb (block_lt p1) p1
    replace o0 := kept hb (block_lt o0) o0
    replace o1 := kept hb (block_lt o1) o1
    replace ow0 := kept hb (block_lt ow0) ow0
    replace ow1 := kept hb (block_lt ow1) ow1
    replace p := Lib.hid (p.out.bel hb)
    replace l := Lib.hid (l.out.bel hb)
    replace o := Lib.hid (o.out.bel hb)
    replace ow := Lib.hid (ow.out.bel hb)
    replace bb := Lib.hid (bb.out.trans (hb.mono bb.out.size))
    clear hb
    go_wp2_with fail
    refine (sameImage_yes _ _ _ _ _ _ [] _ o.out ow.out (by omega)).mono ?_
    rintro e w5 ⟨rfl, hb⟩
    have szw5 := hb.size
    replace p0 := kept hb (block_lt p0) p0
    replace p1 := kept hb (block_lt p1) p1
    replace o0 := kept hb (block_lt o0) o0
    replace o1 := kept hb (block_lt o1) o1
    replace ow0 := kept hb (block_lt ow0) ow0
    replace ow1 := kept hb (block_lt ow1) ow1
    replace p := Lib.hid (p.out.bel hb)
    replace l := Lib.hid (l.out.bel hb)
    replace o := Lib.hid (o.out.bel hb)
    replace ow := Lib.hid (ow.out.bel hb)
    replace bb := Lib.hid (bb.out.trans (hb.mono bb.out.size))
    clear hb
    go_wp2_with fail
    go_ret
    exact ⟨rfl, bb.out⟩
  have hW6 := hI.w6
  have hW1 := hI.w1
  have hn1 := hI.l1
  have hn6 := hI.l6
  replace hI := Lib.hid hI
  replace hJ := Lib.hid hJ
  replace hrun := Lib.hid hrun
  go_wp2_with fail
  refine (run_ok hI.out hrun.out (by omega) _ _ _ _ _ p.out l.out).mono ?_
  rintro e w6 ⟨⟨ao, co, rfl, ho⟩, hb⟩
  have o := Lib.hid ho.row
  have szw6 : w1.heap.size + 1 ≤ w6.heap.size := by have := hb.size; simpa using this
  replace p0 := kept hb (block_lt p0) p0
  replace p1 := kept hb (block_lt p1) p1
  replace p := Lib.hid (p.out.bel hb)
  replace l := Lib.hid (l.out.bel hb)
  replace bb := Lib.hid (bb.out.trans (hb.mono bb.out.size))
  clear hb
  clear ho
  have hbx : Below w6.heap.size w6 (w6.alloc (.cells #[.int .i64 W, .slice ao n co] 25)) := (Below.refl _ _).alloc (Nat.le_refl _) _
  replace p0 := kept hbx (block_lt p0) p0
  replace p1 := kept hbx (block_lt p1) p1
  replace p := Lib.hid (p.out.bel hbx)
  replace l := Lib.hid (l.out.bel hbx)
  replace o := Lib.hid (o.out.bel hbx)
  replace bb := Lib.hid (bb.out.trans (hbx.mono bb.out.size))
  clear hbx
  have o0 : (w6.alloc (.cells #[.int .i64 W, .slice ao n co] 25)).cell? ⟨w6.heap.size, 0, none⟩ = some (.int .i64 W) := by simp
  have o1 : (w6.alloc (.cells #[.int .i64 W, .slice ao n co] 25)).cell? ⟨w6.heap.size, 1, none⟩ = some (.slice ao n co) := by simp
  go_wp2_with fail
  refine (runs_ok hI.out hrun.out (by omega) _ _ _ _ _ p.out l.out).mono ?_
  rintro e w7 ⟨⟨aow, cow, rfl, ho⟩, hb⟩
  have ow := Lib.hid ho.row
  have szw7 : w6.heap.size + 1 ≤ w7.heap.size := by have := hb.size; simpa using this
  replace p0 := kept hb (block_lt p0) p0
  replace p1 := kept hb (block_lt p1) p1
  replace o0 := kept hb (block_lt o0) o0
  replace o1 := kept hb (block_lt o1) o1
  replace p := Lib.hid (p.out.bel hb)
  replace l := Lib.hid (l.out.bel hb)
  replace o := Lib.hid (o.out.bel hb)
  replace bb := Lib.hid (bb.out.trans (hb.mono bb.out.size))
  clear hb
  clear ho
  have hbx : Below w7.heap.size w7 (w7.alloc (.cells #[.int .i64 W, .slice aow n cow] 25)) := (Below.refl _ _).alloc (Nat.le_refl _) _
  replace p0 := kept hbx (block_lt p0) p0
  replace p1 := kept hbx (block_lt p1) p1
  replace o0 := kept hbx (block_lt o0) o0
  replace o1 := kept hbx (block_lt o1) o1
  replace p := Lib.hid (p.out.bel hbx)
  replace l := Lib.hid (l.out.bel hbx)
  replace o := Lib.hid (o.out.bel hbx)
  replace ow := Lib.hid (ow.out.bel hbx)
  replace bb := Lib.hid (bb.out.trans (hbx.mono bb.out.size))
  clear hbx
  have ow0 : (w7.alloc (.cells #[.int .i64 W, .slice aow n cow] 25)).cell? ⟨w7.heap.size, 0, none⟩ = some (.int .i64 W) := by simp
  have ow1 : (w7.alloc (.cells #[.int .i64 W, .slice aow n cow] 25)).cell? ⟨w7.heap.size, 1, none⟩ = some (.slice aow n cow) := by simp
  go_wp2_with fail
  refine (sameImage_yes _ _ _ _ _ _ ys _ o.out ow.out (by omega)).mono ?_
  rintro e w8 ⟨rfl, hb⟩
  have szw8 : w7.heap.size + 1 ≤ w8.heap.size := by have := hb.size; simpa using this
  replace p0 := kept hb (block_lt p0) p0
  replace p1 := kept hb (block_lt p1) p1
  replace o0 := kept hb (block_lt o0) o0
  replace o1 := kept hb (block_lt o1) o1
  replace ow0 := kept hb (block_lt ow0) ow0
  replace ow1 := kept hb (block_lt ow1) ow1
  replace p := Lib.hid (p.out.bel hb)
  replace l := Lib.hid (l.out.bel hb)
  replace o := Lib.hid (o.out.bel hb)
  replace ow := Lib.hid (ow.out.bel hb)
  replace bb := Lib.hid (bb.out.trans (hb.mono bb.out.size))
  clear hb
  clear ow0 ow1 ow
  have lN : Hid (L.length = N) := Lib.hid l.out.1
  have hrv := run_rev hI.out hrun.out
  have hrj : Hid (runL W xs (L ++ L.reverse) = some xs) := Lib.hid (by rw [run_append, hrun.out]; exact hrv)
  have lt0 : w8.heap.size ≤ (w8.alloc (.cells #[] 37)).heap.size := by simp
  have hem : (w8.alloc (.cells #[] 37)).ownsRow w8.heap.size 37 4 (.slice (some ⟨w8.heap.size, 0, none⟩) 0 0) 0 [] := by
    have := own_none w8 w8.heap.size (Nat.le_refl _)
    simpa [OwnS, flatS] using this
  have hbe : Below w8.heap.size w8 (w8.alloc (.cells #[] 37)) := (Below.refl _ _).alloc (Nat.le_refl _) _
  have hnw := (l.out.bel hbe).news
  have hln : ((flatQ L).map (Value.int .i64)).length = N * 4 := by rw [List.length_map, qflat_len, lN.out]
  obtain ⟨i0, hi, hz0, hz1, hz2⟩ := info_parts infoSw
  replace hrv := Lib.hid hrv
  go_wp2_with (at_builtin; refine wpList_append_own _ rfl _ _ 41 rfl w8.heap.size 37 i0 (.agg #[.int .i64 0, .int .i64 0, .int .i64 0, .int .i64 0]) 4 32 Try.underlying41 hi hz0 hz1 hz2 rfl (by decide) _ 0 [] rfl hem ⟨gl, 0, none⟩ N cl ((flatQ L).map (Value.int .i64)) rfl hln hnw (ones_int _) ?c3 ?c4 lt0 ?_)
  case c3 => unfold maxLen; omega
  case c4 => omega
  intro v' wA hown1 hgr hnil
  have hb1 : Below w8.heap.size w8 wA := hbe.grown hgr lt0 (fun k hk => by simp [Value.ownBlock] at hk; omega)
  obtain ⟨ga, ca, rfl, hga⟩ : ∃ ga ca, v' = .slice (some ⟨ga, 0, none⟩) N ca ∧ w8.heap.size ≤ ga := by
    rcases hown1.2 with ⟨e, h0⟩ | ⟨g, c, cur, e, hge, _⟩
    · exact (hnil e).elim
    · exact ⟨g, c, by rw [e], hge⟩
  have hO0 : Hid (wA.ownsRow w8.heap.size 37 4 (.slice (some ⟨ga, 0, none⟩) N ca) N ((flatQ (L)).map (Value.int .i64))) := Lib.hid (by have := hown1; simpa using this)
  have hb0 := Lib.hid hb1
  have hg0 := hga
  clear hown1 hgr hnil hb1 hga hem hbe hnw hln hi hz0 hz1 hz2 lt0
  go_wp2_with fail
  go_loopw [9, 10] (fun o i wr => ∃ (j g c M : Nat), j ≤ N ∧ i = .int .i64 ((j : Int) - 1) ∧ o = .slice (some ⟨g, 0, none⟩) M c ∧ M + j = N + N ∧ w8.heap.size ≤ g ∧ Hid (wr.ownsRow w8.heap.size 37 4 (.slice (some ⟨g, 0, none⟩) M c) M ((flatQ (L ++ (L.drop j).reverse)).map (Value.int .i64))) ∧ Hid (Below w8.heap.size w8 wr)) (fun _ i _ => (intOf i + 1).toNat)
  case atStart => exact ⟨N, ga, ca, N, Nat.le_refl _, rfl, rfl, rfl, hg0, Lib.hid (by rw [show L.drop N = [] by rw [← lN.out, List.drop_length]]; simpa using hO0.out), hb0⟩
  case round =>
    clear hO0 hb0 hg0
    obtain ⟨j, g, c, M, hj, rfl, rfl, hM, hg, hO, hbK⟩ := hrel
    cases j with
    | succ j =>
      rw [show ((j + 1 : Nat) : Int) - 1 = (j : Int) by omega]
      obtain ⟨⟨A, B, C, D⟩, hz⟩ : ∃ t, L[j]'(by rw [lN.out]; omega) = t := ⟨_, rfl⟩
      obtain ⟨bl, ol, ea, c0, c1, c2, c3⟩ := (l.out.bel hbK.out).at (show j < N by omega) hz
      cases ea
      (try simp only [Nat.zero_add] at c0 c1 c2 c3)
      have hdr : L ++ (L.drop j).reverse = (L ++ (L.drop (j + 1)).reverse) ++ [(A, B, C, D)] := by
        rw [List.drop_eq_getElem_cons (by rw [lN.out]; omega), hz, List.reverse_cons, List.append_assoc]
      have hfl : Hid (flatQ (L ++ (L.drop j).reverse) = flatQ (L ++ (L.drop (j + 1)).reverse) ++ [A, B, C, D]) := Lib.hid (by rw [hdr, qflat_app, qflat_one])
      have hown := hO.out
      have hbz := hbK.out.size
      have jj0 : (0 : Int) ≤ (j : Int) := Int.natCast_nonneg _
      have jjn : (j : Int) < (N : Int) := by omega
      clear hO hdr
      go_wp2_with (at_builtin; refine wpList_append_sw rfl _ _ rfl w8.heap.size g M c (flatQ (L ++ (L.drop (j + 1)).reverse)) rfl (World.ownsRow.alloc hown _) wr.heap.size rfl A B C D (by simp) (by simp) (by simp) (by simp) (by omega) (by simp; omega) ?_)
      intro g' c' w6 hown1 hgr hlies
      have hb6 : Below w8.heap.size w8 w6 := (hbK.out.alloc hbz _).grown hgr (Nat.le_trans hbz (by simp)) (fun k hk => by cases hk; omega)
      have hg' : w8.heap.size ≤ g' := by rcases hlies with h | h <;> (try simp at h) <;> omega
      have hO6 : Hid (w6.ownsRow w8.heap.size 37 4 (.slice (some ⟨g', 0, none⟩) (M + 1) c') (M + 1) ((flatQ (L ++ (L.drop j).reverse)).map (Value.int .i64))) := Lib.hid (by rw [hfl.out, List.map_append]; exact hown1)
      have bb6 := Lib.hid hb6
      clear hown1 hgr hlies hb6 hown c0 c1 c2 c3 hbK
      go_wp2_with fail
      exact ⟨⟨j, g', c', M + 1, by omega, (by first | rfl | go_num), rfl, by omega, hg', hO6, bb6⟩, (by first | (simp [intOf]; done) | (simp [intOf]; omega))⟩
    | zero =>
      rw [show ((0 : Nat) : Int) - 1 = -1 from rfl]
      have bk : Hid (QRow wr (some ⟨g, 0, none⟩) M (L ++ L.reverse)) := Lib.hid (by have := qrow_of hO.out; rwa [List.drop_zero] at this)
      have hb := hbK.out
      clear hO hbK
      have szwr := hb.size
      replace p0 := kept hb (block_lt p0) p0
      replace p1 := kept hb (block_lt p1) p1
      replace o0 := kept hb (block_lt o0) o0
      replace o1 := kept hb (block_lt o1) o1
      replace p := Lib.hid (p.out.bel hb)
      replace l := Lib.hid (l.out.bel hb)
      replace o := Lib.hid (o.out.bel hb)
      replace bb := Lib.hid (bb.out.trans (hb.mono bb.out.size))
      clear hb
      go_wp2_with fail
      refine (run_ok hI.out hrj.out (by omega) _ _ _ _ _ p.out bk.out).mono ?_
      rintro e w9 ⟨⟨ax, cx, rfl, ho⟩, hb⟩
      have x := Lib.hid ho.row
      have szw9 := hb.size
      replace p0 := kept hb (block_lt p0) p0
      replace p1 := kept hb (block_lt p1) p1
      replace o0 := kept hb (block_lt o0) o0
      replace o1 := kept hb (block_lt o1) o1
      replace p := Lib.hid (p.out.bel hb)
      replace l := Lib.hid (l.out.bel hb)
      replace o := Lib.hid (o.out.bel hb)
      replace bk := Lib.hid (bk.out.bel hb)
      replace bb := Lib.hid (bb.out.trans (hb.mono bb.out.size))
      clear hb
      clear ho
      have hbx : Below w9.heap.size w9 (w9.alloc (.cells #[.int .i64 W, .slice ax n cx] 25)) := (Below.refl _ _).alloc (Nat.le_refl _) _
      replace p0 := kept hbx (block_lt p0) p0
      replace p1 := kept hbx (block_lt p1) p1
      replace o0 := kept hbx (block_lt o0) o0
      replace o1 := kept hbx (block_lt o1) o1
      replace p := Lib.hid (p.out.bel hbx)
      replace l := Lib.hid (l.out.bel hbx)
      replace o := Lib.hid (o.out.bel hbx)
      replace bk := Lib.hid (bk.out.bel hbx)
      replace x := Lib.hid (x.out.bel hbx)
      replace bb := Lib.hid (bb.out.trans (hbx.mono bb.out.size))
      clear hbx
      have x0 : (w9.alloc (.cells #[.int .i64 W, .slice ax n cx] 25)).cell? ⟨w9.heap.size, 0, none⟩ = some (.int .i64 W) := by simp
      have x1 : (w9.alloc (.cells #[.int .i64 W, .slice ax n cx] 25)).cell? ⟨w9.heap.size, 1, none⟩ = some (.slice ax n cx) := by simp
      go_wp2_with fail
      refine (sameImage_yes _ _ _ _ _ _ xs _ x.out p.out (by omega)).mono ?_
      rintro e w10 ⟨rfl, hb⟩
      have szw10 : w9.heap.size + 1 ≤ w10.heap.size := by have := hb.size; simpa using this
      replace p0 := kept hb (block_lt p0) p0
      replace p1 := kept hb (block_lt p1) p1
      replace o0 := kept hb (block_lt o0) o0
      replace o1 := kept hb (block_lt o1) o1
      replace x0 := kept hb (block_lt x0) x0
      replace x1 := kept hb (block_lt x1) x1
      replace p := Lib.hid (p.out.bel hb)
      replace l := Lib.hid (l.out.bel hb)
      replace o := Lib.hid (o.out.bel hb)
      replace bk := Lib.hid (bk.out.bel hb)
      replace x := Lib.hid (x.out.bel hb)
      replace bb := Lib.hid (bb.out.trans (hb.mono bb.out.size))
      clear hb
      go_wp2_with fail
      go_ret
      exact ⟨rfl, bb.out⟩

set_option maxRecDepth 100000 in
theorem lifted (os : Os) (started : os.Started) (H : Type) (enc : TypeId × Value → H) :
    ReturnsInHanded {} Try.checked os 18 .any (Rows.fnRunJoinSpec.pre6 enc Try.prog Try.f18 Rows.fnRunJoinRow.domain false) (Rows.fnRunJoinSpec.post enc Try.prog Try.f18 false true false false) := by
  refine returnsInHanded_of_change (C := Try.checked) own started (by kernel_rfl) Try.func18
    (ChangeSpec.witness6 (enc := enc) (C := Try.checked) false ⟨#[], #[.slice none 0 0], []⟩ 8 (by kernel_rfl) (by kernel_rfl) (by kernel_rfl) (by kernel_rfl)) ?_
  intro W base args ds gs before hval0 hW hcnd _
  have hval : ∀ (j : Nat) t v, Try.f18.params[j]? = some t → args[j]? = some v → Value.okWide Try.prog W .any base t v := hval0
  have hW' := hW
  obtain ⟨p, q, hA0, hV, rfl, hfz, hnd⟩ := hW
  have hA : DataW.TrodAll enc Try.prog W 0 (fun _ => true) true Try.f18.params.toList args.toList ds p := hA0
  rw [Try.params18] at hA hval
  obtain ⟨v0, vs0, d0, ds0, p0, q0, hargs, rfl, rfl, h0, r0⟩ := trodAll_cons hA
  obtain ⟨rfl, rfl, rfl⟩ := trodAll_nil r0
  obtain rfl : args = #[v0] := by cases args; simp_all
  obtain ⟨rfl, rfl⟩ := trodVars_none hV
  have k0 := h0
  have lt0 : ∀ x ∈ p0, x.block < W.heap.size := by obtain ⟨m, hm⟩ := k0; exact DataW.trod_lt m _ _ _ hm
  obtain ⟨a0, len0, cap0, z0, rfl, w0, l0, m0⟩ := open_code (hval 0 22 v0 rfl rfl) h0
  clear hA0 hval0
  refine (walk a0 len0 cap0 z0 W w0 l0 m0).mono fun e W' ⟨he, bel⟩ => ?_
  subst he
  exact ⟨_, rfl, _, _, _, [], _, [], hW', trodAll_mk1 (shut_bool Try.underlying4 _), (trodAll_cons_mk (Below.trod laidOut (by kernel_rfl) (of_decide_eq_true (by kernel_rfl)) k0 bel lt0) trodAll_mk0), rfl, bel.frame _, fun h => by cases h⟩

theorem closed : joinedFacts Try.prog 18 Try.f18 Rows.fnRunJoinSpec Rows.fnRunJoinRow = true := by
  simp only [joinedFacts, Bool.and_eq_true]
  repeat' apply And.intro
  all_goals first | with_reducible exact mayEnterOk | (with_reducible rw [liftsFinalOk]; kernel_rfl) | (with_reducible rw [makeOk]; kernel_rfl) | kernel_rfl

theorem over : Rows.fnRunJoinRow.holds Try.pinned (OpenSpec.ofChange Rows.fnRunJoinSpec) :=
  OpenClaim.holds_of_wide 18 Try.f18 rfl rfl rfl rfl rfl rfl rfl ⟨rfl, rfl, rfl, rfl, rfl⟩ rfl rfl rfl rfl rfl (by kernel_rfl) Try.func18 closed
    (of_decide_eq_true (by kernel_rfl)) (by unfold Func.isWrapper; first | (rw [if_pos (by decide +kernel)]; kernel_rfl) | (rw [if_neg (by decide +kernel)]; exact ⟨rfl, rfl⟩))
    (fun os started H enc _ => lifted os started H enc)

theorem proved : Rows.FnRunJoinSaid := over
#print axioms proved
end Go.Proofs.Ytgamkmkpmcenpaa.LFRunJoin

