/-
  The contracts of the model's l13Arrow and l13Parents.
-/
import Derived.Test.YtepeplmbnkjeeaaMd
import Derived.Test.YtepeplmbnkjeeaaMc
import Derived.Test.YtepeplmbnkjeeaaSk
import Derived.Test.YtepeplmbnkjeeaaK
namespace Go.Proofs.Ytepeplmbnkjeeaa
set_option maxRecDepth 100000
open Go.RowKit

theorem bit_one (xs : List Int) (i j : Nat) : (bitI (xs.getD i 0) j == 1) = cellOf xs i j := by
  unfold cellOf; rw [Bool.eq_iff_iff]; simp
theorem bit_zero (xs : List Int) (i j : Nat) : (bitI (xs.getD i 0) j == 0) = !cellOf xs i j := by
  have := bit_01 (xs.getD i 0) j
  unfold cellOf
  rcases (show bitI (xs.getD i 0) j = 0 ∨ bitI (xs.getD i 0) j = 1 by omega) with e | e <;> rw [e] <;> rfl
set_option maxHeartbeats 1000000 in
theorem arrow_any (W : Nat) (a : Option Addr) (n cap : Nat) (xs : List Int) (p q : Nat) (w : World) (h : Row w a n xs) (hv : Im W n xs) (hp : p < n + W) (hq : q < n + W) :
    Calls Try.prog 121 #[.agg #[.int .i64 W, .slice a n cap], .int .i64 p, .int .i64 q] w fun e w' => e = .returned (.bool (arC (cellOf xs) n p q)) ∧ Below w.heap.size w w' := by
  have hw6 := hv.w6
  have hn6 := hv.l6
  obtain ⟨W0, hW0⟩ : ∃ W0, W0 = w.alloc (.cells #[.int .i64 W, .slice a n cap] 25) := ⟨_, rfl⟩
  have bb : Below w.heap.size w W0 := by subst hW0; exact (Below.refl _ _).alloc (Nat.le_refl _) _
  have x0 : W0.cell? ⟨w.heap.size, 0, none⟩ = some (.int .i64 W) := by subst hW0; simp
  have x1 : W0.cell? ⟨w.heap.size, 1, none⟩ = some (.slice a n cap) := by subst hW0; simp
  have hR := h.bel bb
  clear h
  by_cases e1 : p < n
  · by_cases e2 : n ≤ q
    · obtain ⟨l, hl⟩ : ∃ l, q = n + l := ⟨q - n, by omega⟩
      have hA : arC (cellOf xs) n p q = cellOf xs p l := by rw [hl]; exact arc_set e1 l
      rw [hA]
      have hg := get_any W a n cap xs p l W0 hR hv e1 (by omega)
      have hb1 := bit_one xs p l
      generalize cellOf xs p l = r at hb1
      generalize bitI (xs.getD p 0) l = x at hg hb1
      have es : (q : Int) - (n : Int) = (l : Int) := by omega
      have hg := Lib.hid hg
      have hb1 := Lib.hid hb1
      have es := Lib.hid es
      clear hA hR hv hl
      go_enter Try.func121, Try.ntmps121
      go_wp2_with fail
      rw [← hW0]
      clear hW0
      go_wp2_with fail
      refine hg.out.mono ?_
      rintro e w2 ⟨rfl, hb⟩
      go_wp2_with fail
      go_ret
      exact ⟨rfl, bb.trans (hb.mono bb.size)⟩
    · have hA : arC (cellOf xs) n p q = false := by unfold arC; rw [if_pos e1, decide_eq_false e2]; rfl
      rw [hA]
      clear hA hR hv
      go_enter Try.func121, Try.ntmps121
      go_wp2_with fail
      rw [← hW0]
      clear hW0
      go_wp2_with fail
      go_ret
      exact ⟨rfl, bb⟩
  · by_cases e2 : q < n
    · obtain ⟨l, hl⟩ : ∃ l, p = n + l := ⟨p - n, by omega⟩
      have hA : arC (cellOf xs) n p q = !cellOf xs q l := by rw [hl]; exact arc_not e2 l
      rw [hA]
      have hg := get_any W a n cap xs q l W0 hR hv e2 (by omega)
      have hb1 := bit_zero xs q l
      generalize cellOf xs q l = r at hb1
      generalize bitI (xs.getD q 0) l = x at hg hb1
      have es : (p : Int) - (n : Int) = (l : Int) := by omega
      have hg := Lib.hid hg
      have hb1 := Lib.hid hb1
      have es := Lib.hid es
      clear hA hR hv hl
      go_enter Try.func121, Try.ntmps121
      go_wp2_with fail
      rw [← hW0]
      clear hW0
      go_wp2_with fail
      refine hg.out.mono ?_
      rintro e w2 ⟨rfl, hb⟩
      go_wp2_with fail
      go_ret
      exact ⟨rfl, bb.trans (hb.mono bb.size)⟩
    · have hA : arC (cellOf xs) n p q = false := by unfold arC; rw [if_neg e1, decide_eq_false e2]; rfl
      rw [hA]
      clear hA hR hv
      go_enter Try.func121, Try.ntmps121
      go_wp2_with fail
      rw [← hW0]
      clear hW0
      go_wp2_with fail
      go_ret
      exact ⟨rfl, bb⟩
theorem rep_snoc (k : Nat) (x : Int) : List.replicate (k + 1) x = List.replicate k x ++ [x] := List.replicate_succ'
set_option maxHeartbeats 4000000 in
theorem parents_any (W : Nat) (a : Option Addr) (n cap : Nat) (xs : List Int) (s : Nat) (w : World) (h : Row w a n xs) (hv : Im W n xs) (hs : s < n + W) :
    Calls Try.prog 77 #[.agg #[.int .i64 W, .slice a n cap], .int .i64 s] w fun e w' => (∃ g c, e = .returned (.slice (some ⟨g, 0, none⟩) (n + W) c) ∧ OwnI w' w.heap.size (some ⟨g, 0, none⟩) (n + W) c (parP xs W n s)) ∧ Below w.heap.size w w' := by
  have hw6 := hv.w6
  have hn6 := hv.l6
  have hw1 := hv.w1
  have hn1 := hv.l1
  obtain ⟨W0, hW0⟩ : ∃ W0, W0 = w.alloc (.cells #[.int .i64 W, .slice a n cap] 25) := ⟨_, rfl⟩
  have bb : Below w.heap.size w W0 := by subst hW0; exact (Below.refl _ _).alloc (Nat.le_refl _) _
  have x0 : W0.cell? ⟨w.heap.size, 0, none⟩ = some (.int .i64 W) := by subst hW0; simp
  have x1 : W0.cell? ⟨w.heap.size, 1, none⟩ = some (.slice a n cap) := by subst hW0; simp
  have hR := Lib.hid (h.bel bb)
  have hM : ∃ M : Nat, n + W = M := ⟨_, rfl⟩
  obtain ⟨M, hM⟩ := hM
  have harr := Lib.hid (fun (p q : Nat) (hp : p < n + W) (hq : q < n + W) (wx : World) (hx : Row wx a n xs) => arrow_any W a n cap xs p q wx hx hv hp hq)
  have hseen := fun k => seen_k (arC (cellOf xs) n) hs k
  have hdone := fun k h1 h2 => bfs_done (arC (cellOf xs) n) (m := n + W) (s := s) (a := k) h1 h2
  have hpar : parP xs W n s = bfsP (arC (cellOf xs) n) (n + W) s := rfl
  rw [hM] at harr hseen hdone hpar hs
  rw [hpar, hM]
  have eM : (n : Int) + (W : Int) = (M : Int) := by omega
  have hM12 : 2 ≤ M ∧ M ≤ 12 := by omega
  generalize arC (cellOf xs) n = arr at harr hseen hdone
  have harr := Lib.hid harr.out
  replace hseen := Lib.hid hseen
  replace hdone := Lib.hid hdone
  replace eM := Lib.hid eM
  replace bb := Lib.hid bb
  clear h hv hpar hM
  go_enter Try.func77, Try.ntmps77
  go_upto_region 1 with fail
  rw [← hW0]
  clear hW0
  go_upto_region 2 with fail
  rw [eM.out]
  have ho0 : Hid (OwnI (W0.alloc (.cells #[] 3)) W0.heap.size (some ⟨W0.heap.size, 0, none⟩) 0 0 (List.replicate 0 (-1))) := own_empty W0 W0.heap.size W0.heap.size rfl (Nat.le_refl _)
  have hb0 : Hid (Below W0.heap.size W0 (W0.alloc (.cells #[] 3))) := (Below.refl _ _).alloc (Nat.le_refl _) _
  go_wp2_with fail
  go_loopw [6, 7] (fun o i wr => ∃ (k g c : Nat), k ≤ M ∧ i = .int .i64 k ∧ o = .slice (some ⟨g, 0, none⟩) k c ∧ Hid (OwnI wr W0.heap.size (some ⟨g, 0, none⟩) k c (List.replicate k (-1))) ∧ Hid (Below W0.heap.size W0 wr)) (fun _ i _ => M - (intOf i).toNat)
  case atStart => exact ⟨0, _, 0, Nat.zero_le _, rfl, rfl, ho0, hb0⟩
  case round =>
    clear ho0 hb0
    obtain ⟨k, g, c, hk, rfl, rfl, hO, hB⟩ := hrel
    obtain ⟨wo, rfl⟩ : ∃ wo : World, wo = wr := ⟨_, rfl⟩
    have hBs := hB.out.size
    by_cases hlt : k < M
    · go_wp2_with (at_builtin; refine wpList_append_int rfl _ _ rfl W0.heap.size g k c (List.replicate k (-1)) rfl (World.ownsRow.alloc hO.out _) wo.heap.size rfl (-1) (by simp) (by omega) (by simp; omega) ?_)
      intro g' c' w3 hown hgr hlies
      have hown : OwnI w3 W0.heap.size (some ⟨g', 0, none⟩) (k + 1) c' (List.replicate (k + 1) (-1)) := by rw [rep_snoc]; unfold OwnI; simpa using hown
      have hgg : W0.heap.size ≤ g ∧ g < wo.heap.size := rng_own hO.out _ rfl
      have hB3 := Lib.hid ((hB.out.alloc hBs (.cells #[.int .i64 (-1)] 3)).grown hgr (by simp; omega) (fun q hq => by cases hq; exact hgg.1))
      replace hown := Lib.hid hown
      clear hgr hlies hO hB hgg
      go_wp2_with fail
      exact ⟨⟨k + 1, g', c', by omega, by go_num, rfl, hown.out, hB3⟩, by simp [intOf]; omega⟩
    have : k = M := by omega
    subst this
    have hck := own_cell hO.out hs
    have hfz := hO.out.frozen
    have hst := Lib.hid (hO.out.set s s)
    have hgg : W0.heap.size ≤ g ∧ g < wo.heap.size := rng_own hO.out _ rfl
    have hB1 := Lib.hid (hB.out.setCell (show W0.heap.size ≤ (⟨g, s, none⟩ : Addr).block from hgg.1) (.int .i64 s))
    generalize hx : (List.replicate k (-1 : Int)).getD s 0 = x at hck
    clear hx hO hB
    go_upto_region 8 with fail
    obtain ⟨w1, hw1⟩ : ∃ w1, wo.setCell ⟨g, s, none⟩ (.int .i64 s) = w1 := ⟨_, rfl⟩
    rw [hw1] at hst hB1
    rw [hw1]
    have hz1 : wo.heap.size = w1.heap.size := by rw [← hw1]; simp [World.setCell]
    clear hck hfz hw1
    have hown2 : OwnI (w1.alloc (.cells #[.int .i64 s] 3)) W0.heap.size (some ⟨w1.heap.size, 0, none⟩) 1 1 [(s : Int)] := World.ownsRow_lit w1 #[.int .i64 s] 1 (by omega) (by decide) rfl
    have hT : Hid (TW W0 (w1.alloc (.cells #[.int .i64 s] 3)) k g c (bfsK arr k (bfs0 k s) 0).2.length w1.heap.size 1 (bfsK arr k (bfs0 k s) 0).1 (bfsK arr k (bfs0 k s) 0).2) :=
      ⟨World.ownsRow.alloc hst.out _, hown2, hB1.out.alloc (by omega) _, by omega⟩
    clear hown2 hst hB1
    go_wp2_with fail
    go_loopw [8, 9] (fun o i wr => ∃ (b g2 c2 : Nat), b ≤ k ∧ i = .int .i64 b ∧ o = .slice (some ⟨g2, 0, none⟩) (bfsK arr k (bfs0 k s) b).2.length c2 ∧ Hid (TW W0 wr k g c (bfsK arr k (bfs0 k s) b).2.length g2 c2 (bfsK arr k (bfs0 k s) b).1 (bfsK arr k (bfs0 k s) b).2)) (fun _ i _ => k - (intOf i).toNat)
    case atStart => exact ⟨0, _, 1, Nat.zero_le _, rfl, rfl, hT⟩
    case round =>
      clear hT
      obtain ⟨b, g2, c2, hb, rfl, rfl, hT⟩ := hrel
      obtain ⟨wq, rfl⟩ : ∃ wq : World, wq = wr := ⟨_, rfl⟩
      have hsn := hseen.out b
      have hsh := hsn.short
      by_cases hlt : b < (bfsK arr k (bfs0 k s) b).2.length
      case neg =>
        have hd := hdone.out b hb (by omega)
        generalize (bfsK arr k (bfs0 k s) b).2.length = N at *
        have hr := Lib.hid (hd ▸ hT.out.out)
        have hB := Lib.hid (hT.out.bel)
        clear hd hsn
        go_wp2_with fail
        go_ret
        exact ⟨⟨g, c, rfl, hr.out.mono (by have := bb.out.size; omega)⟩, bb.out.trans (hB.out.mono (by have := bb.out.size; omega))⟩
      obtain ⟨f, hf, hfM, _⟩ := hsn.at hlt
      have hnx := Lib.hid (bfs_next hlt hf)
      have hlk := Lib.hid (look_k (seen_look hsn hlt hf))
      obtain ⟨S, hS⟩ : ∃ S, bfsK arr k (bfs0 k s) b = S := ⟨_, rfl⟩
      rw [hS] at hT hlt hnx hlk hsh ⊢
      clear hsn hS hf hdone
      have hT0 : Hid (TW W0 wq k g c (seeK arr f 0 S).2.length g2 c2 (seeK arr f 0 S).1 (seeK arr f 0 S).2) := hT
      go_wp2_with fail
      go_loopw [8, 10] (fun o i wr => ∃ (q g2 c2 : Nat), q ≤ k ∧ i = .int .i64 q ∧ o = .slice (some ⟨g2, 0, none⟩) (seeK arr f q S).2.length c2 ∧ Hid (TW W0 wr k g c (seeK arr f q S).2.length g2 c2 (seeK arr f q S).1 (seeK arr f q S).2)) (fun _ i _ => k - (intOf i).toNat)
      case atStart => exact ⟨0, g2, c2, Nat.zero_le _, rfl, rfl, hT0⟩
      case round =>
        clear hT hT0
        obtain ⟨q, g2, c2, hq, rfl, rfl, hT⟩ := hrel
        obtain ⟨wi, rfl⟩ : ∃ wi : World, wi = wr := ⟨_, rfl⟩
        have hL := hlk.out q hq
        by_cases hqk : q < k
        case neg =>
          obtain rfl : q = k := by omega
          rw [← hnx.out] at hT ⊢
          have hsh2 := (hseen.out (b + 1)).short
          clear hL hlk
          go_wp2_with fail
          exact ⟨⟨b + 1, g2, c2, by omega, by go_num, rfl, hT⟩, by simp [intOf]; omega⟩
        have hyes := fun h h' => see_yes (arr := arr) (f := f) (k := q) (S := S) h h'
        have hno := fun h => see_no (arr := arr) (f := f) (k := q) (S := S) h
        generalize seeK arr f q S = Sq at hT hL hyes hno ⊢
        obtain ⟨P, Q⟩ := Sq
        (try dsimp only at hT hL hyes hno ⊢)
        have ht := hT.out
        have hsz := hL.short
        have c1 := own_cell ht.out hqk
        have c2' : wi.cell? ⟨g2, b, none⟩ = some (.int .i64 f) := by have := own_cell ht.wk hL.qa; rw [hL.qf] at this; exact this
        have hpb := hL.bd q hqk
        have hqa := hL.qa
        have y0 := kept ht.bel (block_lt x0) x0
        have y1 := kept ht.bel (block_lt x1) x1
        have hRi := hR.out.bel ht.bel
        obtain ⟨N, hN⟩ : ∃ N, Q.length = N := ⟨_, rfl⟩
        obtain ⟨x, hx⟩ : ∃ x, P.getD q 0 = x := ⟨_, rfl⟩
        rw [hN] at hT ht hsz hqa ⊢
        rw [hx] at c1 hpb
        by_cases hneg : x < 0
        case neg =>
          have hnx2 := hno (.inr (by rw [hx]; exact hneg))
          have hdx : decide (x < 0) = false := decide_eq_false hneg
          clear ht hL hyes hno hRi
          replace hN := Lib.hid hN
          replace hx := Lib.hid hx
          go_wp2_with fail
          go_quiet (fail)
          go_wp2_with fail
          refine ⟨⟨q + 1, g2, c2, by omega, by go_num, ?_, ?_⟩, by simp [intOf]; omega⟩
          · rw [hnx2, hN.out]
          · rw [hnx2, hN.out]; exact hT.out.move (below_drewN (Below.refl _ _) _)
        have hdx : decide (x < 0) = true := decide_eq_true hneg
        have g_y0 := fun p : Bw wi => bw_cell y0 p
        have g_y1 := fun p : Bw wi => bw_cell y1 p
        have g_c1 := fun p : Bw wi => bw_cell c1 p
        have g_c2 := fun p : Bw wi => bw_cell c2' p
        have cc0 : ∀ p : Bw wi, Calls Try.prog 121 #[.agg #[.int .i64 W, .slice a n cap], .int .i64 f, .int .i64 q] p.v (fun e w' => e = .returned (.bool (arr f q)) ∧ ∃ q : Bw wi, w' = q.v) := fun p => bw_of (harr.out f q (by omega) (by omega) p.v (hRi.bel p.h))
        replace cc0 := Lib.hid cc0
        replace hyes := fun h => hyes h (by rw [hx]; exact hneg)
        replace hno := fun h => hno (.inl h)
        replace hL := Lib.hid hL.qf
        clear ht hRi y0 y1 c1 c2'
        replace hN := Lib.hid hN
        replace hx := Lib.hid hx
        replace hyes := Lib.hid hyes
        replace hno := Lib.hid hno
        cases har : arr f q with
        | false =>
          rw [har] at cc0
          go_wp2_with fail
          refine wp_region_bw (by kernel_rfl) (by kernel_rfl) ?_
          repeat (go_big_quiet_step (first | (with_reducible exact cc0.out _)))
          refine wpQuiet_nil ?_
          intro _ hw'
          obtain ⟨pq, rfl⟩ := hw'
          have hb := pq.h
          generalize pq.v = w2 at hb ⊢
          clear pq g_y0 g_y1 g_c1 g_c2 cc0
          go_wp2_with fail
          have hnx2 := hno.out har
          refine ⟨⟨q + 1, g2, c2, by omega, by go_num, ?_, ?_⟩, by simp [intOf]; omega⟩
          · rw [hnx2, hN.out]
          · rw [hnx2, hN.out]; exact hT.out.move hb
        | true =>
          rw [har] at cc0
          go_wp2_with fail
          refine wp_region_bw (by kernel_rfl) (by kernel_rfl) ?_
          repeat (go_big_quiet_step (first | (with_reducible exact cc0.out _)))
          refine wpQuiet_nil ?_
          intro _ hw'
          obtain ⟨pq, rfl⟩ := hw'
          have hb := pq.h
          generalize pq.v = w2 at hb ⊢
          clear pq g_y0 g_y1 g_c1 g_c2 cc0
          have hnx2 := hyes.out har
          replace hT := hT.out.move hb
          have ck := own_cell hT.out hqk
          have cb : w2.cell? ⟨g2, b, none⟩ = some (.int .i64 (Q.getD b 0)) := own_cell hT.wk hqa
          rw [hL.out] at cb
          have fk := hT.out.frozen
          have hT2 := Lib.hid (hT.set q f)
          rw [hx.out] at ck
          clear hb hyes hno har hT hL
          go_upto_region 17 with fail
          obtain ⟨w3, hw3⟩ : ∃ w3, w2.setCell ⟨g, q, none⟩ (.int .i64 f) = w3 := ⟨_, rfl⟩
          rw [hw3] at hT2 ⊢
          clear hw3 ck cb fk
          have ht3 := hT2.out.o2
          have hbs := hT2.out.bel.size
          go_wp2_with (at_builtin; refine wpList_append_int rfl _ _ rfl W0.heap.size g2 N c2 Q rfl (World.ownsRow.alloc hT2.out.wk _) w3.heap.size rfl q (by simp) (by omega) (by simp; omega) ?_)
          intro g' c' w4 hown hgr hlies
          have hT4 := Lib.hid ((hT2.out.move ((Below.refl _ _).alloc (Nat.le_refl _) (.cells #[.int .i64 q] 3))).app (x := q) (by simpa using hown) hgr (by rcases hlies with h | h; exact .inl h; exact .inr (by rw [h]; simp)))
          clear hown hgr hlies hT2
          go_wp2_with fail
          refine ⟨⟨q + 1, g', c', by omega, by go_num, ?_, ?_⟩, by simp [intOf]; omega⟩
          · rw [hnx2, List.length_append, hN.out]; rfl
          · rw [hnx2, List.length_append, hN.out]; exact hT4
end Go.Proofs.Ytepeplmbnkjeeaa

