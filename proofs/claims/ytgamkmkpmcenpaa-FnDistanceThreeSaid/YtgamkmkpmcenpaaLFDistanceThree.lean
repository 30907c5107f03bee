/-
  For any two slices of bytes the law FnDistanceThree answers true: a way over a third image is no shorter; nothing that was there is written; no condition.
-/
import Derived.Test.YtgamkmkpmcenpaaO
import Derived.Test.YtgamkmkpmcenpaaK
import Derived.Deep.RegionLaw
import Derived.Test.YtgamkmkpmcenpaaWg
import Derived.Test.YtgamkmkpmcenpaaEp
import Derived.Test.YtgamkmkpmcenpaaA
import Derived.Test.YtgamkmkpmcenpaaWk
import Derived.Deep.AppendLies
namespace Go.Proofs.Ytgamkmkpmcenpaa.LFDistanceThree
open Go.ChangeShapes Go.WideShapes Go.ChangeAt Go.RowKit Go.Joins

theorem own_set1 {wr : World} {B kb j n c g : Nat} {xs : List Int} {u : Value} (h : OwnI wr B (some ⟨g, 0, none⟩) n c xs) (hne : kb ≠ g) : OwnI (wr.setCell ⟨kb, j, none⟩ u) B (some ⟨g, 0, none⟩) n c xs := by
  refine World.ownsRow.kept h (grown_set (World.grownBy.refl _ _) : wr.grownBy (wr.setCell ⟨kb, j, none⟩ u) (some kb)) (Or.inr ?_)
  intro e
  exact hne (Option.some.inj e).symm
theorem set1_cell {wr : World} {kb j : Nat} {p : Addr} {u v : Value} (h : wr.cell? p = some v) (hn : p.block < kb) : (wr.setCell ⟨kb, j, none⟩ u).cell? p = some v :=
  (grown_set (World.grownBy.refl _ _) : wr.grownBy (wr.setCell ⟨kb, j, none⟩ u) (some kb)).cell h (fun e => absurd (Option.some.inj e) (Nat.ne_of_lt hn))
theorem rows_succ (f : Nat → Int) (k : Nat) : rowsL f (k + 1) = rowsL f k ++ [f k] := by
  unfold rowsL; rw [List.range_succ, List.map_append]; rfl
/-- One number is appended in a region that draws its order. -/
theorem step_append_i {w : World} {ops : Array Oper} {o : Oper} {a : Act} {K : Act → World → Prop} {Q : Exit → Act → World → Prop} {E : Prop} (hgd : o.guard = none) (s x : Operand)
    (ho : o.op = .call { callee := .builtin .append, args := #[s, x], argTypes := #[23, 23] })
    (base g N c : Nat) (F : List Int) (hs : a.eval s = .slice (some ⟨g, 0, none⟩) N c) (hown : OwnI w base (some ⟨g, 0, none⟩) N c F)
    (k : Nat) (hx : a.eval x = .slice (some ⟨k, 0, none⟩) 1 1) (A : Int) (c0 : w.cell? ⟨k, 0, none⟩ = some (.int .i64 A))
    (hN : N ≤ 1048576) (hbase : base ≤ w.heap.size) (H : Nat) (hH : w.heap.size = H)
    (h : ∀ g' c' w', OwnI w' base (some ⟨g', 0, none⟩) (N + 1) c' (F ++ [A]) → w.grownBy w' (some g) → (g' = g ∨ g' = H) → K (a.put o.dst (.slice (some ⟨g', 0, none⟩) (N + 1) c')) w') :
    if Region.wanted o (yielded ops a.tmps) = true then Oper.wp Try.prog o a w K Q else E := by
  obtain ⟨i0, hi, hz0, hz1, hz2⟩ := info_parts infoInt
  refine step_append_lies w hgd s x 23 ho base 3 i0 (.int .i64 0) 1 8 Try.underlying23 hi hz0 hz1 hz2 rfl (by decide) _ N (F.map (Value.int .i64)) hs hown
    ⟨k, 0, none⟩ 1 1 ([A].map (Value.int .i64)) hx rfl (fun j u hj => by
      match j, hj with
      | 0, hj => simp at hj; subst hj; simp [Addr.add, c0]) (fun u hu => by simp at hu; subst hu; rfl) (by omega) (by unfold maxLen; omega) (by omega) hbase H hH fun g' c' w' h2 h3 h4 _ => h g' c' w' ?_ h3 ?_
  · unfold OwnI; rw [List.map_append]; exact h2
  · rcases h4 with h | h
    · left; simp [Value.ownBlock] at h; exact h.symm
    · exact .inr h

set_option maxHeartbeats 4000000 in
set_option maxRecDepth 100000 in
theorem walk (a : Option Addr) (len cap : Nat) (zs : List Int) (a2 : Option Addr) (len2 cap2 : Nat) (zs2 : List Int) (w : World) (h : Bys w a len zs) (hl : len ≤ cap) (hm : cap ≤ 9223372036854775807) (_ : Bys w a2 len2 zs2) (_ : len2 ≤ cap2) (_ : cap2 ≤ 9223372036854775807) :
    Calls Try.prog 15 #[.slice a len cap, .slice a2 len2 cap2] w fun e w' => e = .returned (.bool true) ∧ Below w.heap.size w w' := by
  by_cases hbig : 1048576 < len
  · clear h
    go_enter Try.func15, Try.ntmps15
    go_wp2_with fail
    go_ret
    exact ⟨rfl, Below.refl _ _⟩
  by_cases hbig2 : 1048576 < len2
  · clear h
    go_enter Try.func15, Try.ntmps15
    go_wp2_with fail
    go_ret
    exact ⟨rfl, Below.refl _ _⟩
  go_enter Try.func15, Try.ntmps15
  go_wp2_with fail
  refine (draw_DrawImageDistance a len cap zs _ h hl hm).mono ?_
  rintro e w1 ⟨V, s, n, cg, xs, V2, t, m, ch, ys, rfl, hX, hY, hnm, hb1⟩
  clear h hl hm
  have bb := Lib.hid hb1
  have p := Lib.hid hX
  have q := Lib.hid hY
  obtain ⟨w2, hw2⟩ : ∃ w2, w2 = (w1.alloc (.cells #[.int .i64 V, .slice s n cg] 25)).alloc (.cells #[.int .i64 V2, .slice t m ch] 25) := ⟨_, rfl⟩
  have hb : Below w1.heap.size w1 w2 := by subst hw2; exact ((Below.refl _ _).alloc (Nat.le_refl _) _).alloc (by simp) _
  have p0 : w2.cell? ⟨w1.heap.size, 0, none⟩ = some (.int .i64 V) := by subst hw2; go_simp
  have p1 : w2.cell? ⟨w1.heap.size, 1, none⟩ = some (.slice s n cg) := by subst hw2; go_simp
  have q0 : w2.cell? ⟨w1.heap.size + 1, 0, none⟩ = some (.int .i64 V2) := by subst hw2; go_simp
  have q1 : w2.cell? ⟨w1.heap.size + 1, 1, none⟩ = some (.slice t m ch) := by subst hw2; go_simp
  clear hX hY hb1
  have szw2 := hb.size
  replace p := Lib.hid (p.out.bel hb)
  replace q := Lib.hid (q.out.bel hb)
  replace bb := Lib.hid (bb.out.trans (hb.mono bb.out.size))
  clear hb
  go_wp2_with fail
  rw [← hw2]
  clear hw2
  by_cases hv : shapeB V xs V2 ys = true
  case neg =>
    have hv : shapeB V xs V2 ys = false := by simpa using hv
    refine (far_no hv (by omega) (by omega) _ _ _ _ _ p.out q.out).mono ?_
    rintro e w3 ⟨rfl, hb⟩
    have szw3 := hb.size
    replace p0 := kept hb (block_lt p0) p0
    replace p1 := kept hb (block_lt p1) p1
    replace q0 := kept hb (block_lt q0) q0
    replace q1 := kept hb (block_lt q1) q1
    replace p := Lib.hid (p.out.bel hb)
    replace q := Lib.hid (q.out.bel hb)
    replace bb := Lib.hid (bb.out.trans (hb.mono bb.out.size))
    clear hb
    go_wp2_with fail
    refine (fars_no hv (by omega) (by omega) _ _ _ _ _ p.out q.out).mono ?_
    rintro e w4 ⟨rfl, hb⟩
    have szw4 := hb.size
    replace p0 := kept hb (block_lt p0) p0
    replace p1 := kept hb (block_lt p1) p1
    replace q0 := kept hb (block_lt q0) q0
    replace q1 := kept hb (block_lt q1) q1
    replace p := Lib.hid (p.out.bel hb)
    replace q := Lib.hid (q.out.bel hb)
    replace bb := Lib.hid (bb.out.trans (hb.mono bb.out.size))
    clear hb
    go_wp2_with fail
    go_ret
    exact ⟨rfl, bb.out⟩
  obtain ⟨W, rfl, rfl, rfl, hI, hJ⟩ := shape_im p.out.1 q.out.1 hv
  have hW6 := hI.w6
  have hW1 := hI.w1
  have hn1 := hI.l1
  have hn6 := hI.l6
  obtain ⟨f, hf⟩ : ∃ f, farL xs ys W n = f := ⟨_, rfl⟩
  have hf0 := farl_bd hI ys
  rw [hf] at hf0
  have fz : ¬ f < 0 := by omega
  clear hv
  refine (far_ok hI hJ hf _ _ _ _ _ p.out q.out).mono ?_
  rintro e w5 ⟨rfl, hb⟩
  have szw5 := hb.size
  replace p0 := kept hb (block_lt p0) p0
  replace p1 := kept hb (block_lt p1) p1
  replace q0 := kept hb (block_lt q0) q0
  replace q1 := kept hb (block_lt q1) q1
  replace p := Lib.hid (p.out.bel hb)
  replace q := Lib.hid (q.out.bel hb)
  replace bb := Lib.hid (bb.out.trans (hb.mono bb.out.size))
  clear hb
  go_wp2_with fail
  refine (fars_ok hI hJ hf _ _ _ _ _ p.out q.out).mono ?_
  rintro e w6 ⟨rfl, hb⟩
  have szw6 := hb.size
  replace p0 := kept hb (block_lt p0) p0
  replace p1 := kept hb (block_lt p1) p1
  replace q0 := kept hb (block_lt q0) q0
  replace q1 := kept hb (block_lt q1) q1
  replace p := Lib.hid (p.out.bel hb)
  replace q := Lib.hid (q.out.bel hb)
  replace bb := Lib.hid (bb.out.trans (hb.mono bb.out.size))
  clear hb
  have pwp := pw_pos W
  have pw6 : pw W ≤ 64 := pw_le W 6 (by omega)
  obtain ⟨F, hF⟩ : ∃ F : Nat → Int, F = fun i => (xs.getD i 0 * 3 + (i : Int) + (len2 : Int)) % pw W := ⟨_, rfl⟩
  have hFb : ∀ k, 0 ≤ F k ∧ F k ≤ pw W - 1 := fun k => by
    subst hF
    have h1 := Int.emod_nonneg (xs.getD k 0 * 3 + (k : Int) + (len2 : Int)) (show pw W ≠ 0 by omega)
    have h2 := Int.emod_lt_of_pos (xs.getD k 0 * 3 + (k : Int) + (len2 : Int)) (show 0 < pw W by omega)
    exact ⟨h1, by show (xs.getD k 0 * 3 + (k : Int) + (len2 : Int)) % pw W ≤ pw W - 1; omega⟩
  have hP : Im W n (rowsL F n) := ⟨hI.w1, hI.w6, hI.l1, hI.l6, rows_len _ _, fun i hi => by rw [rows_get F hi]; exact hFb i⟩
  have hFk := Lib.hid (fun (k : Nat) => show F k = (xs.getD k 0 * 3 + (k : Int) + (len2 : Int)) % pw W by subst hF; rfl)
  obtain ⟨fa, hfa⟩ : ∃ fa, farL xs (rowsL F n) W n = fa := ⟨_, rfl⟩
  obtain ⟨fb, hfb⟩ : ∃ fb, farL (rowsL F n) ys W n = fb := ⟨_, rfl⟩
  have ha := farl_bd hI (rowsL F n)
  have hbd := farl_bd hP ys
  have h3 := far_three (cellOf xs) (cellOf ys) (cellOf (rowsL F n)) W n
  have tri : f ≤ fa + fb := by rw [← hf, ← hfa, ← hfb]; exact h3.1
  have par : (f + fa + fb) % 2 = 0 := by rw [← hf, ← hfa, ← hfb]; exact h3.2
  rw [hfa] at ha
  rw [hfb] at hbd
  have par2 : (f + fa + fb).tmod 2 = 0 := by rw [Int.tmod_eq_emod_of_nonneg (by omega)]; exact par
  have ws1 : IntKind.i64.wrap (fa + fb) = fa + fb := IntWalk.i64_in _ ⟨by omega, by omega⟩
  have ws2 : IntKind.i64.wrap (f + fa) = f + fa := IntWalk.i64_in _ ⟨by omega, by omega⟩
  have ws3 : IntKind.i64.wrap (f + fa + fb) = f + fa + fb := IntWalk.i64_in _ ⟨by omega, by omega⟩
  have na : ¬ fa < 0 := by omega
  have nb : ¬ fb < 0 := by omega
  have hrow := Lib.hid (fun k (hk : k < n) => hI.row k hk)
  replace hI := Lib.hid hI
  replace hJ := Lib.hid hJ
  replace hP := Lib.hid hP
  replace hfa := Lib.hid hfa
  replace hfb := Lib.hid hfb
  clear hF hFb h3 par hf
  have hO0 : Hid (OwnI ((w6.alloc (.cells #[] 3)).alloc (.cells #[.int .i64 W, .slice (some ⟨w6.heap.size, 0, none⟩) 0 0] 25)) w6.heap.size (some ⟨w6.heap.size, 0, none⟩) 0 0 (rowsL F 0)) := Lib.hid (World.ownsRow.alloc (own_empty w6 w6.heap.size w6.heap.size rfl (Nat.le_refl _)) _)
  have hb0 : Hid (Below w6.heap.size w6 ((w6.alloc (.cells #[] 3)).alloc (.cells #[.int .i64 W, .slice (some ⟨w6.heap.size, 0, none⟩) 0 0] 25))) := Lib.hid (((Below.refl _ _).alloc (Nat.le_refl _) _).alloc (by simp) _)
  have hc0 : ((w6.alloc (.cells #[] 3)).alloc (.cells #[.int .i64 W, .slice (some ⟨w6.heap.size, 0, none⟩) 0 0] 25)).cell? ⟨(w6.heap.size + 1), 0, none⟩ = some (.int .i64 W) := by go_simp
  have hc1 : ((w6.alloc (.cells #[] 3)).alloc (.cells #[.int .i64 W, .slice (some ⟨w6.heap.size, 0, none⟩) 0 0] 25)).cell? ⟨(w6.heap.size + 1), 1, none⟩ = some (.slice (some ⟨w6.heap.size, 0, none⟩) 0 0) := by go_simp
  have hc2 : Hid (Box ((w6.alloc (.cells #[] 3)).alloc (.cells #[.int .i64 W, .slice (some ⟨w6.heap.size, 0, none⟩) 0 0] 25)) (w6.heap.size + 1) (.int .i64 W) (.slice (some ⟨w6.heap.size, 0, none⟩) 0 0)) := Lib.hid ⟨hc0, hc1, fun o => by simp⟩
  go_wp2_with fail
  go_loopw [10] (fun i wr => ∃ (k g c : Nat), k ≤ n ∧ i = .int .i64 k ∧ w6.heap.size ≤ g ∧ (w6.heap.size + 1) ≠ g ∧ Hid (Box wr (w6.heap.size + 1) (.int .i64 W) (.slice (some ⟨g, 0, none⟩) k c)) ∧ Hid (OwnI wr w6.heap.size (some ⟨g, 0, none⟩) k c (rowsL F k)) ∧ Hid (Below w6.heap.size w6 wr)) (fun i _ => n - (intOf i).toNat)
  case atStart => exact ⟨0, w6.heap.size, 0, Nat.zero_le _, rfl, Nat.le_refl _, by omega, hc2, hO0, hb0⟩
  case round =>
    clear hO0 hb0 hc0 hc1 hc2
    obtain ⟨k, g, c, hk, rfl, hg, hne, bx, hO, hbK⟩ := hrel
    have b0 := bx.out.c0
    have b1 := bx.out.c1
    have bf := bx.out.fz
    have r0 := kept hbK.out (block_lt p0) p0
    have r1 := kept hbK.out (block_lt p1) p1
    by_cases hlt : k < n
    case pos =>
      obtain ⟨sb, so, es, hck⟩ := row_at p.out hlt
      cases es
      have lsb : sb < w6.heap.size := block_lt hck
      have rk := kept hbK.out lsb hck
      have hkb := block_lt b0
      have hx := hrow.out k hlt
      have hv := hFk.out k
      obtain ⟨x, hxe⟩ : ∃ x, xs.getD k 0 = x := ⟨_, rfl⟩
      rw [hxe] at hx hv rk
      have wk1 : IntKind.i64.wrap (x * 3) = x * 3 := IntWalk.i64_in _ ⟨by omega, by omega⟩
      have wk2 : IntKind.i64.wrap (x * 3 + (k : Int)) = x * 3 + (k : Int) := IntWalk.i64_in _ ⟨by omega, by omega⟩
      have wk3 : IntKind.i64.wrap (x * 3 + (k : Int) + (len2 : Int)) = x * 3 + (k : Int) + (len2 : Int) := IntWalk.i64_in _ ⟨by omega, by omega⟩
      obtain ⟨v, hve⟩ : ∃ v, F k = v := ⟨_, rfl⟩
      rw [hve] at hv
      have wk4 : (x * 3 + (k : Int) + (len2 : Int)).tmod (pw W) = v := by rw [Int.tmod_eq_emod_of_nonneg (by omega)]; exact hv.symm
      have hz : (pw W == 0) = false := by simp; omega
      have hz1 : ¬ pw W = 0 := by omega
      have ng : some (w6.heap.size + 1) ≠ some g := by simp; exact hne
      have nr : some w1.heap.size ≠ some g := by have h1 : w1.heap.size < w6.heap.size := block_lt p0; simp; omega
      have ns : some sb ≠ some g := by simp; omega
      have hbz := hbK.out.size
      have jj0 : (0 : Int) ≤ (k : Int) := Int.natCast_nonneg _
      have jjn : (k : Int) < (n : Int) := by omega
      go_upto_region 12 with fail
      obtain ⟨W2, hW2⟩ : ∃ W2, wr.drew = W2 := ⟨_, rfl⟩
      have bd : Below wr.heap.size wr W2 := hW2 ▸ (Below.refl _ _).drew
      replace r0 := kept bd (block_lt r0) r0
      replace r1 := kept bd (block_lt r1) r1
      replace rk := kept bd (block_lt rk) rk
      replace bx := Lib.hid (Box.bel bx.out bd)
      have b0 := bx.out.c0
      have b1 := bx.out.c1
      have bf := bx.out.fz
      have hown := Lib.hid (fun o => World.ownsRow.alloc (hO.out.bel bd) o)
      have hb2 := Lib.hid (hbK.out.trans (bd.mono hbz))
      have hz2 : w6.heap.size ≤ W2.heap.size := hb2.out.size
      have hk2 : (w6.heap.size + 1) < W2.heap.size := block_lt b0
      clear hv hxe hO hbK bd
      refine wp_region_M' (fun U : World => U.cell? ⟨(w6.heap.size + 1), 1, none⟩ = some (.slice (some ⟨g, 0, none⟩) k c) ∧ U.cell? ⟨w1.heap.size, 0, none⟩ = some (.int .i64 W) ∧ U.cell? ⟨w1.heap.size, 1, none⟩ = some (.slice (some ⟨sb, so, none⟩) n cg) ∧ U.cell? ⟨sb, so + k, none⟩ = some (.int .i64 x)) 21 20 (by kernel_rfl) (by kernel_rfl) W2 hW2 (fun inv => ?_)
      clear hW2
      have hS : (fun U : World => U.cell? ⟨(w6.heap.size + 1), 1, none⟩ = some (.slice (some ⟨g, 0, none⟩) k c) ∧ U.cell? ⟨w1.heap.size, 0, none⟩ = some (.int .i64 W) ∧ U.cell? ⟨w1.heap.size, 1, none⟩ = some (.slice (some ⟨sb, so, none⟩) n cg) ∧ U.cell? ⟨sb, so + k, none⟩ = some (.int .i64 x)) W2 := ⟨b1, r0, r1, rk⟩
      refine wpM_take (i := 0) (v := ?_) (by simp only [List.getElem?_toArray, List.getElem?_cons_zero]; rfl) (by kernel_rfl) (fun _ _ _ h => h) inv (Or.inl ⟨by rfl, ?_⟩) hS ?_
      rotate_left
      · intro wz hSw
        (try dsimp only at hSw)
        obtain ⟨hS1, hS2, hS3, hS4⟩ := hSw
        go_simp
        (try (with_reducible rfl))
      clear inv
      intro inv
      (try simp only [Act.put, List.setIfInBounds_toArray, List.set_cons_zero, List.set_cons_succ])
      refine wpM_take (i := 1) (v := ?_) (by simp only [List.getElem?_toArray, List.getElem?_cons_succ, List.getElem?_cons_zero]; rfl) (by kernel_rfl) (fun _ _ _ h => h) inv (Or.inl ⟨by rfl, ?_⟩) hS ?_
      rotate_left
      · intro wz hSw
        (try dsimp only at hSw)
        obtain ⟨hS1, hS2, hS3, hS4⟩ := hSw
        go_simp
        (try (with_reducible rfl))
      clear inv
      intro inv
      (try simp only [Act.put, List.setIfInBounds_toArray, List.set_cons_zero, List.set_cons_succ])
      refine wpM_take (i := 2) (v := ?_) (by simp only [List.getElem?_toArray, List.getElem?_cons_succ, List.getElem?_cons_zero]; rfl) (by kernel_rfl) (fun _ _ _ h => h) inv (Or.inl ⟨by rfl, ?_⟩) hS ?_
      rotate_left
      · intro wz hSw
        (try dsimp only at hSw)
        obtain ⟨hS1, hS2, hS3, hS4⟩ := hSw
        go_simp
        (try (with_reducible rfl))
      clear inv
      intro inv
      (try simp only [Act.put, List.setIfInBounds_toArray, List.set_cons_zero, List.set_cons_succ])
      refine wpM_take (i := 3) (v := ?_) (by simp only [List.getElem?_toArray, List.getElem?_cons_succ, List.getElem?_cons_zero]; rfl) (by kernel_rfl) (fun _ _ _ h => h) inv (Or.inl ⟨by rfl, ?_⟩) hS ?_
      rotate_left
      · intro wz hSw
        (try dsimp only at hSw)
        obtain ⟨hS1, hS2, hS3, hS4⟩ := hSw
        go_simp
        (try (with_reducible rfl))
      clear inv
      intro inv
      (try simp only [Act.put, List.setIfInBounds_toArray, List.set_cons_zero, List.set_cons_succ])
      refine wpM_take (i := 4) (v := ?_) (by simp only [List.getElem?_toArray, List.getElem?_cons_succ, List.getElem?_cons_zero]; rfl) (by kernel_rfl) (fun _ _ _ h => h) inv (Or.inl ⟨by rfl, ?_⟩) hS ?_
      rotate_left
      · intro wz hSw
        (try dsimp only at hSw)
        obtain ⟨hS1, hS2, hS3, hS4⟩ := hSw
        go_simp
        (try (with_reducible rfl))
      clear inv
      intro inv
      (try simp only [Act.put, List.setIfInBounds_toArray, List.set_cons_zero, List.set_cons_succ])
      refine wpM_take (i := 5) (v := ?_) (by simp only [List.getElem?_toArray, List.getElem?_cons_succ, List.getElem?_cons_zero]; rfl) (by kernel_rfl) (fun _ _ _ h => h) inv (Or.inl ⟨by rfl, ?_⟩) hS ?_
      rotate_left
      · intro wz hSw
        (try dsimp only at hSw)
        obtain ⟨hS1, hS2, hS3, hS4⟩ := hSw
        go_simp
        (try (with_reducible rfl))
      clear inv
      intro inv
      (try simp only [Act.put, List.setIfInBounds_toArray, List.set_cons_zero, List.set_cons_succ])
      refine wpM_take (i := 6) (v := ?_) (by simp only [List.getElem?_toArray, List.getElem?_cons_succ, List.getElem?_cons_zero]; rfl) (by kernel_rfl) (fun _ _ _ h => h) inv (Or.inl ⟨by rfl, ?_⟩) hS ?_
      rotate_left
      · intro wz hSw
        (try dsimp only at hSw)
        obtain ⟨hS1, hS2, hS3, hS4⟩ := hSw
        go_simp
        (try (with_reducible rfl))
      clear inv
      intro inv
      (try simp only [Act.put, List.setIfInBounds_toArray, List.set_cons_zero, List.set_cons_succ])
      refine wpM_take (i := 7) (v := ?_) (by simp only [List.getElem?_toArray, List.getElem?_cons_succ, List.getElem?_cons_zero]; rfl) (by kernel_rfl) (fun _ _ _ h => h) inv (Or.inl ⟨by rfl, ?_⟩) hS ?_
      rotate_left
      · intro wz hSw
        (try dsimp only at hSw)
        obtain ⟨hS1, hS2, hS3, hS4⟩ := hSw
        go_simp
        (try (with_reducible rfl))
      clear inv
      intro inv
      (try simp only [Act.put, List.setIfInBounds_toArray, List.set_cons_zero, List.set_cons_succ])
      refine wpM_take (i := 8) (v := ?_) (by simp only [List.getElem?_toArray, List.getElem?_cons_succ, List.getElem?_cons_zero]; rfl) (by kernel_rfl) (fun _ _ _ h => h) inv (Or.inl ⟨by rfl, ?_⟩) hS ?_
      rotate_left
      · intro wz hSw
        (try dsimp only at hSw)
        obtain ⟨hS1, hS2, hS3, hS4⟩ := hSw
        go_simp
        (try (with_reducible rfl))
      clear inv
      intro inv
      (try simp only [Act.put, List.setIfInBounds_toArray, List.set_cons_zero, List.set_cons_succ])
      refine wpM_take (i := 9) (v := ?_) (by simp only [List.getElem?_toArray, List.getElem?_cons_succ, List.getElem?_cons_zero]; rfl) (by kernel_rfl) (fun _ _ _ h => h) inv (Or.inl ⟨by rfl, ?_⟩) hS ?_
      rotate_left
      · intro wz hSw
        (try dsimp only at hSw)
        obtain ⟨hS1, hS2, hS3, hS4⟩ := hSw
        go_simp
        (try (with_reducible rfl))
      clear inv
      intro inv
      (try simp only [Act.put, List.setIfInBounds_toArray, List.set_cons_zero, List.set_cons_succ])
      refine wpM_take (i := 10) (v := ?_) (by simp only [List.getElem?_toArray, List.getElem?_cons_succ, List.getElem?_cons_zero]; rfl) (by kernel_rfl) (fun _ _ _ h => h) inv (Or.inl ⟨by rfl, ?_⟩) hS ?_
      rotate_left
      · intro wz hSw
        (try dsimp only at hSw)
        obtain ⟨hS1, hS2, hS3, hS4⟩ := hSw
        go_simp
        (try (with_reducible rfl))
      clear inv
      intro inv
      (try simp only [Act.put, List.setIfInBounds_toArray, List.set_cons_zero, List.set_cons_succ])
      refine wpM_take (i := 11) (v := ?_) (by simp only [List.getElem?_toArray, List.getElem?_cons_succ, List.getElem?_cons_zero]; rfl) (by kernel_rfl) (fun _ _ _ h => h) inv (Or.inl ⟨by rfl, ?_⟩) hS ?_
      rotate_left
      · intro wz hSw
        (try dsimp only at hSw)
        obtain ⟨hS1, hS2, hS3, hS4⟩ := hSw
        go_simp
        (try (with_reducible rfl))
      clear inv
      intro inv
      (try simp only [Act.put, List.setIfInBounds_toArray, List.set_cons_zero, List.set_cons_succ])
      refine wpM_take (i := 12) (v := ?_) (by simp only [List.getElem?_toArray, List.getElem?_cons_succ, List.getElem?_cons_zero]; rfl) (by kernel_rfl) (fun _ _ _ h => h) inv (Or.inl ⟨by rfl, ?_⟩) hS ?_
      rotate_left
      · intro wz hSw
        (try dsimp only at hSw)
        obtain ⟨hS1, hS2, hS3, hS4⟩ := hSw
        go_simp
        (try (with_reducible rfl))
      clear inv
      intro inv
      (try simp only [Act.put, List.setIfInBounds_toArray, List.set_cons_zero, List.set_cons_succ])
      refine wpM_take (i := 13) (v := ?_) (by simp only [List.getElem?_toArray, List.getElem?_cons_succ, List.getElem?_cons_zero]; rfl) (by kernel_rfl) (fun _ _ _ h => h) inv (Or.inl ⟨by rfl, ?_⟩) hS ?_
      rotate_left
      · intro wz hSw
        (try dsimp only at hSw)
        obtain ⟨hS1, hS2, hS3, hS4⟩ := hSw
        go_simp
        (try (with_reducible rfl))
      clear inv
      intro inv
      (try simp only [Act.put, List.setIfInBounds_toArray, List.set_cons_zero, List.set_cons_succ])
      refine wpM_take (i := 14) (v := ?_) (by simp only [List.getElem?_toArray, List.getElem?_cons_succ, List.getElem?_cons_zero]; rfl) (by kernel_rfl) (fun _ _ _ h => h) inv (Or.inl ⟨by rfl, ?_⟩) hS ?_
      rotate_left
      · intro wz hSw
        (try dsimp only at hSw)
        obtain ⟨hS1, hS2, hS3, hS4⟩ := hSw
        go_simp
        (try (with_reducible rfl))
      clear inv
      intro inv
      (try simp only [Act.put, List.setIfInBounds_toArray, List.set_cons_zero, List.set_cons_succ])
      refine wpM_one (i := 15) (by simp only [List.getElem?_toArray, List.getElem?_cons_succ, List.getElem?_cons_zero]; rfl) (by kernel_rfl) (by rfl) inv ?_
      intro K hK
      rw [if_pos (by rfl)]
      go_simp
      go_at_call 44
      refine (pow2_any W _ (by omega)).mono ?_
      rintro e w5 ⟨rfl, rfl⟩
      (try dsimp only)
      refine hK.out _ _ (fun _ => hS) (fun hinv => ?_)
      clear inv
      have inv := hinv (by decide)
      clear hinv hK K
      (try simp only [Act.put, List.setIfInBounds_toArray, List.set_cons_zero, List.set_cons_succ])
      refine wpM_take (i := 16) (v := ?_) (by simp only [List.getElem?_toArray, List.getElem?_cons_succ, List.getElem?_cons_zero]; rfl) (by kernel_rfl) (fun _ _ _ h => h) inv (Or.inl ⟨by rfl, ?_⟩) hS ?_
      rotate_left
      · intro wz hSw
        (try dsimp only at hSw)
        obtain ⟨hS1, hS2, hS3, hS4⟩ := hSw
        go_simp
        (try (with_reducible rfl))
      clear inv
      intro inv
      (try simp only [Act.put, List.setIfInBounds_toArray, List.set_cons_zero, List.set_cons_succ])
      refine wpM_one (i := 17) (by simp only [List.getElem?_toArray, List.getElem?_cons_succ, List.getElem?_cons_zero]; rfl) (by kernel_rfl) (by rfl) inv ?_
      intro K hK
      rw [if_pos (by rfl)]
      go_simp
      refine hK.out _ _ (fun _ => ⟨World.cell?_alloc_some b1, World.cell?_alloc_some r0, World.cell?_alloc_some r1, World.cell?_alloc_some rk⟩) (fun hinv => ?_)
      clear inv
      have inv := hinv (by decide)
      clear hinv hK K
      (try simp only [Act.put, List.setIfInBounds_toArray, List.set_cons_zero, List.set_cons_succ])
      refine wpM_one (i := 18) (by simp only [List.getElem?_toArray, List.getElem?_cons_succ, List.getElem?_cons_zero]; rfl) (by kernel_rfl) (by rfl) inv ?_
      intro K hK
      refine step_append_i (by rfl) _ _ (by rfl) w6.heap.size g k c (rowsL F k) (by rfl) (hown.out _) W2.heap.size (by rfl) v (by simp) (by omega) (by simp; omega) _ rfl ?_
      intro g' c' wN hown1 hgr hlies
      have bx6 := Lib.hid ((Box.bel bx.out ((Below.refl W2.heap.size W2).alloc (Nat.le_refl _) (.cells #[.int .i64 v] 3))).grown hgr hne)
      have c60 := bx6.out.c0
      have c61 := bx6.out.c1
      have c6f := bx6.out.fz
      have hb6 : Below w6.heap.size w6 wN := (hb2.out.alloc (by omega) _).grown hgr (by simp; omega) (fun k hk => by cases hk; omega)
      refine hK.out _ _ (fun _ => ⟨c61, hgr.cell (World.cell?_alloc_some r0) nr, hgr.cell (World.cell?_alloc_some r1) nr, hgr.cell (World.cell?_alloc_some rk) ns⟩) (fun hinv => ?_)
      clear inv
      have inv := hinv (by decide)
      clear hinv hK K
      (try simp only [Act.put, List.setIfInBounds_toArray, List.set_cons_zero, List.set_cons_succ])
      have hS2 : (fun U : World => U.cell? ⟨(w6.heap.size + 1), 1, none⟩ = some (.slice (some ⟨g, 0, none⟩) k c) ∧ U.cell? ⟨w1.heap.size, 0, none⟩ = some (.int .i64 W) ∧ U.cell? ⟨w1.heap.size, 1, none⟩ = some (.slice (some ⟨sb, so, none⟩) n cg) ∧ U.cell? ⟨sb, so + k, none⟩ = some (.int .i64 x)) wN := ⟨c61, hgr.cell (World.cell?_alloc_some r0) nr, hgr.cell (World.cell?_alloc_some r1) nr, hgr.cell (World.cell?_alloc_some rk) ns⟩
      refine wpM_take (i := 19) (v := ?_) (by simp only [List.getElem?_toArray, List.getElem?_cons_succ, List.getElem?_cons_zero]; rfl) (by kernel_rfl) (fun _ _ _ h => h) inv (Or.inl ⟨by rfl, ?_⟩) hS2 ?_
      rotate_left
      · intro wz hSw
        (try dsimp only at hSw)
        obtain ⟨hS1, hS2, hS3, hS4⟩ := hSw
        go_simp
        (try (with_reducible rfl))
      clear inv
      intro inv
      (try simp only [Act.put, List.setIfInBounds_toArray, List.set_cons_zero, List.set_cons_succ])
      refine wpM_one (i := 20) (by simp only [List.getElem?_toArray, List.getElem?_cons_succ, List.getElem?_cons_zero]; rfl) (by kernel_rfl) (by rfl) inv ?_
      intro K hK
      rw [if_pos (by rfl)]
      go_simp
      refine hK.out _ _ (fun h => absurd h (by decide)) (fun hinv => ?_)
      refine wpM_done (by kernel_rfl) ?_ _
      refine NoPanic.normal ?_
      have hg' : w6.heap.size ≤ g' ∧ (w6.heap.size + 1) ≠ g' := by rcases hlies with h | h <;> (try simp at h) <;> omega
      have k0 := c60
      have k1 := c61
      have e0 : (wN.setCell ⟨(w6.heap.size + 1), 1, none⟩ (.slice (some ⟨g', 0, none⟩) (k + 1) c')).cell? ⟨(w6.heap.size + 1), 0, none⟩ = some (.int .i64 W) := by rw [World.cell?_setCell_other _ _ _ _ (by simp)]; exact k0
      have e1 : (wN.setCell ⟨(w6.heap.size + 1), 1, none⟩ (.slice (some ⟨g', 0, none⟩) (k + 1) c')).cell? ⟨(w6.heap.size + 1), 1, none⟩ = some (.slice (some ⟨g', 0, none⟩) (k + 1) c') := World.cell?_setCell_same _ _ _ k1
      have bxn : Hid (Box (wN.setCell ⟨(w6.heap.size + 1), 1, none⟩ (.slice (some ⟨g', 0, none⟩) (k + 1) c')) (w6.heap.size + 1) (.int .i64 W) (.slice (some ⟨g', 0, none⟩) (k + 1) c')) := Lib.hid ⟨e0, e1, fun o => by rw [World.frozen?_setCell]; exact c6f o⟩
      have o1 := Lib.hid (own_set1 (j := 1) (u := .slice (some ⟨g', 0, none⟩) (k + 1) c') hown1 hg'.2)
      have bS := Lib.hid (hb6.setCell (p := ⟨(w6.heap.size + 1), 1, none⟩) (by simp) (.slice (some ⟨g', 0, none⟩) (k + 1) c'))
      have hrs : rowsL F (k + 1) = rowsL F k ++ [v] := by rw [rows_succ, hve]
      rw [← hrs] at o1
      clear hown1 hgr hlies hb6 hown k0 k1 r0 r1 rk b0 b1 bf bx e0 e1 bx6 hb2 inv hinv hK K hS hS2
      go_wp2_with fail
      exact ⟨⟨k + 1, g', c', by omega, by go_num, hg'.1, hg'.2, bxn, o1, bS⟩, by simp [intOf]; omega⟩
    have ek : n = k := by omega
    subst ek
    have hb := hbK.out
    have c := Lib.hid (OwnI.row hO.out)
    clear hO hbK r0 r1 bf bx
    have szwr := hb.size
    replace p0 := kept hb (block_lt p0) p0
    replace p1 := kept hb (block_lt p1) p1
    replace q0 := kept hb (block_lt q0) q0
    replace q1 := kept hb (block_lt q1) q1
    replace p := Lib.hid (p.out.bel hb)
    replace q := Lib.hid (q.out.bel hb)
    replace bb := Lib.hid (bb.out.trans (hb.mono bb.out.size))
    clear hb
    go_wp2_with fail
    refine (far_ok hI.out hP.out hfa.out _ _ _ _ _ p.out c.out).mono ?_
    rintro e w7 ⟨rfl, hb⟩
    have szw7 := hb.size
    replace p0 := kept hb (block_lt p0) p0
    replace p1 := kept hb (block_lt p1) p1
    replace q0 := kept hb (block_lt q0) q0
    replace q1 := kept hb (block_lt q1) q1
    replace b0 := kept hb (block_lt b0) b0
    replace b1 := kept hb (block_lt b1) b1
    replace p := Lib.hid (p.out.bel hb)
    replace q := Lib.hid (q.out.bel hb)
    replace c := Lib.hid (c.out.bel hb)
    replace bb := Lib.hid (bb.out.trans (hb.mono bb.out.size))
    clear hb
    go_wp2_with fail
    refine (far_ok hP.out hJ.out hfb.out _ _ _ _ _ c.out q.out).mono ?_
    rintro e w8 ⟨rfl, hb⟩
    have szw8 := hb.size
    replace p0 := kept hb (block_lt p0) p0
    replace p1 := kept hb (block_lt p1) p1
    replace q0 := kept hb (block_lt q0) q0
    replace q1 := kept hb (block_lt q1) q1
    replace b0 := kept hb (block_lt b0) b0
    replace b1 := kept hb (block_lt b1) b1
    replace p := Lib.hid (p.out.bel hb)
    replace q := Lib.hid (q.out.bel hb)
    replace c := Lib.hid (c.out.bel hb)
    replace bb := Lib.hid (bb.out.trans (hb.mono bb.out.size))
    clear hb
    go_wp2_with fail
    go_ret
    exact ⟨rfl, bb.out⟩

set_option maxRecDepth 100000 in
theorem lifted (os : Os) (started : os.Started) (H : Type) (enc : TypeId × Value → H) :
    ReturnsInHanded {} Try.checked os 15 .any (Rows.fnDistanceThreeSpec.pre6 enc Try.prog Try.f15 Rows.fnDistanceThreeRow.domain false) (Rows.fnDistanceThreeSpec.post enc Try.prog Try.f15 false true false false) := by
  refine returnsInHanded_of_change (C := Try.checked) own started (by kernel_rfl) Try.func15
    (ChangeSpec.witness6 (enc := enc) (C := Try.checked) false ⟨#[], #[.slice none 0 0, .slice none 0 0], []⟩ 8 (by kernel_rfl) (by kernel_rfl) (by kernel_rfl) (by kernel_rfl)) ?_
  intro W base args ds gs before hval0 hW hcnd _
  have hval : ∀ (j : Nat) t v, Try.f15.params[j]? = some t → args[j]? = some v → Value.okWide Try.prog W .any base t v := hval0
  have hW' := hW
  obtain ⟨p, q, hA0, hV, rfl, hfz, hnd⟩ := hW
  have hA : DataW.TrodAll enc Try.prog W 0 (fun _ => true) true Try.f15.params.toList args.toList ds p := hA0
  rw [Try.params15] at hA hval
  obtain ⟨v0, vs0, d0, ds0, p0, q0, hargs, rfl, rfl, h0, r0⟩ := trodAll_cons hA
  obtain ⟨v1, vs1, d1, ds1, p1, q1, rfl, rfl, rfl, h1, r1⟩ := trodAll_cons r0
  obtain ⟨rfl, rfl, rfl⟩ := trodAll_nil r1
  obtain rfl : args = #[v0, v1] := by cases args; simp_all
  obtain ⟨rfl, rfl⟩ := trodVars_none hV
  have k0 := h0
  have lt0 : ∀ x ∈ p0, x.block < W.heap.size := by obtain ⟨m, hm⟩ := k0; exact DataW.trod_lt m _ _ _ hm
  obtain ⟨a0, len0, cap0, z0, rfl, w0, l0, m0⟩ := open_code (hval 0 22 v0 rfl rfl) h0
  have k1 := h1
  have lt1 : ∀ x ∈ p1, x.block < W.heap.size := by obtain ⟨m, hm⟩ := k1; exact DataW.trod_lt m _ _ _ hm
  obtain ⟨a1, len1, cap1, z1, rfl, w1, l1, m1⟩ := open_code (hval 1 22 v1 rfl rfl) h1
  clear hA0 hval0
  refine (walk a0 len0 cap0 z0 a1 len1 cap1 z1 W w0 l0 m0 w1 l1 m1).mono fun e W' ⟨he, bel⟩ => ?_
  subst he
  exact ⟨_, rfl, _, _, _, [], _, [], hW', trodAll_mk1 (shut_bool Try.underlying4 _), (trodAll_cons_mk (Below.trod laidOut (by kernel_rfl) (of_decide_eq_true (by kernel_rfl)) k0 bel lt0) (trodAll_cons_mk (Below.trod laidOut (by kernel_rfl) (of_decide_eq_true (by kernel_rfl)) k1 bel lt1) trodAll_mk0)), rfl, bel.frame _, fun h => by cases h⟩

theorem closed : joinedFacts Try.prog 15 Try.f15 Rows.fnDistanceThreeSpec Rows.fnDistanceThreeRow = true := by
  simp only [joinedFacts, Bool.and_eq_true]
  repeat' apply And.intro
  all_goals first | with_reducible exact mayEnterOk | (with_reducible rw [liftsFinalOk]; kernel_rfl) | (with_reducible rw [makeOk]; kernel_rfl) | kernel_rfl

theorem over : Rows.fnDistanceThreeRow.holds Try.pinned (OpenSpec.ofChange Rows.fnDistanceThreeSpec) :=
  OpenClaim.holds_of_wide 15 Try.f15 rfl rfl rfl rfl rfl rfl rfl ⟨rfl, rfl, rfl, rfl, rfl⟩ rfl rfl rfl rfl rfl (by kernel_rfl) Try.func15 closed
    (of_decide_eq_true (by kernel_rfl)) (by unfold Func.isWrapper; first | (rw [if_pos (by decide +kernel)]; kernel_rfl) | (rw [if_neg (by decide +kernel)]; exact ⟨rfl, rfl⟩))
    (fun os started H enc _ => lifted os started H enc)

theorem proved : Rows.FnDistanceThreeSaid := over
#print axioms proved
end Go.Proofs.Ytgamkmkpmcenpaa.LFDistanceThree

