/-
  Two lists that a call owns beside each other: cells are stored into the one, the other one is appended to; flags by their numbers.
  The contracts of the model's l13Arrow and l13Parents.
  The contracts of the model's l13Ends, l13Turn, CellVariable, CellsVariable and CellFlip.
-/
import Derived.Test.YtkpbfhohcffilaaMa
import Derived.Test.YtkpbfhohcffilaaK
import Derived.Test.YtkpbfhohcffilaaPa
import Derived.Test.YtkpbfhohcffilaaSh
import Derived.Test.YtkpbfhohcffilaaSk
import Derived.Test.YtkpbfhohcffilaaKa

namespace Go.Proofs.Ytkpbfhohcffilaa
set_option maxRecDepth 100000
open Go.RowKit

/-- Behind the world w0: the list P lies at g1, the list Q at g2. -/
structure TW (w0 wr : World) (m g1 c1 q g2 c2 : Nat) (P Q : List Int) : Prop where
  out : OwnI wr w0.heap.size (some ⟨g1, 0, none⟩) m c1 P
  wk : OwnI wr w0.heap.size (some ⟨g2, 0, none⟩) q c2 Q
  bel : Below w0.heap.size w0 wr
  ne : g1 ≠ g2
variable {w0 wr w1 : World} {m g1 c1 q g2 c2 : Nat} {P Q : List Int}
theorem TW.move (h : TW w0 wr m g1 c1 q g2 c2 P Q) (hb : Below wr.heap.size wr w1) : TW w0 w1 m g1 c1 q g2 c2 P Q :=
  ⟨h.out.bel hb, h.wk.bel hb, h.bel.trans (hb.mono h.bel.size), h.ne⟩
theorem TW.o1 (h : TW w0 wr m g1 c1 q g2 c2 P Q) : w0.heap.size ≤ g1 ∧ g1 < wr.heap.size := rng_own h.out _ rfl
theorem TW.o2 (h : TW w0 wr m g1 c1 q g2 c2 P Q) : w0.heap.size ≤ g2 ∧ g2 < wr.heap.size := rng_own h.wk _ rfl
theorem TW.set (h : TW w0 wr m g1 c1 q g2 c2 P Q) (j : Nat) (u : Int) : TW w0 (wr.setCell ⟨g1, j, none⟩ (.int .i64 u)) m g1 c1 q g2 c2 (P.set j u) Q := by
  have hg : wr.grownBy (wr.setCell ⟨g1, j, none⟩ (.int .i64 u)) (some g1) := grown_set (World.grownBy.refl _ _)
  exact ⟨h.out.set j u, World.ownsRow.kept h.wk hg (.inr (by intro e; cases e; exact h.ne rfl)), h.bel.setCell (show w0.heap.size ≤ g1 from h.o1.1) _, h.ne⟩
theorem TW.app (h : TW w0 wr m g1 c1 q g2 c2 P Q) {g c : Nat} {x : Int} (ho : w1.ownsRow w0.heap.size 3 1 (.slice (some ⟨g, 0, none⟩) (q + 1) c) (q + 1) ((Q ++ [x]).map (Value.int .i64))) (hg : wr.grownBy w1 (some g2)) (hgg : g = g2 ∨ wr.heap.size ≤ g) : TW w0 w1 m g1 c1 (q + 1) g c P (Q ++ [x]) :=
  ⟨World.ownsRow.kept h.out hg (.inr (by intro e; cases e; exact h.ne rfl)), ho, h.bel.grown hg h.bel.size (fun k hk => by cases hk; exact h.o2.1), by
    have := h.o1
    rcases hgg with rfl | hgg
    · exact h.ne
    · omega⟩
theorem bfs_next {arr : Nat → Nat → Bool} {m a f : Nat} {S : List Int × List Int} (ha : a < (bfsK arr m S a).2.length) (hf : (bfsK arr m S a).2.getD a 0 = f) : bfsK arr m S (a + 1) = seeK arr f m (bfsK arr m S a) := by
  rw [bfsK, if_pos ha, hf, Int.toNat_natCast]
theorem see_yes {arr : Nat → Nat → Bool} {f k : Nat} {S : List Int × List Int} (h : arr f k = true) (h' : (seeK arr f k S).1.getD k 0 < 0) : seeK arr f (k + 1) S = ((seeK arr f k S).1.set k (f : Int), (seeK arr f k S).2 ++ [(k : Int)]) := by
  rw [seeK, if_pos ⟨h, h'⟩]
theorem see_no {arr : Nat → Nat → Bool} {f k : Nat} {S : List Int × List Int} (h : arr f k = false ∨ ¬ (seeK arr f k S).1.getD k 0 < 0) : seeK arr f (k + 1) S = seeK arr f k S := by
  rw [seeK, if_neg]
  rintro ⟨h1, h2⟩
  rcases h with h | h
  · rw [h] at h1; cases h1
  · exact h h2
/-- A number is appended to a list that the call owns. -/
theorem wpList_append_int {w : World} {ops : Array Oper} {rest : List Oper} {o : Oper} {a : Act} {Q : Exit → Act → World → Prop} (hgd : o.guard = none) (s x : Operand)
    (ho : o.op = .call { callee := .builtin .append, args := #[s, x], argTypes := #[23, 23] })
    (base g N c : Nat) (F : List Int) (hs : a.eval s = .slice (some ⟨g, 0, none⟩) N c) (hown : OwnI w base (some ⟨g, 0, none⟩) N c F)
    (k : Nat) (hx : a.eval x = .slice (some ⟨k, 0, none⟩) 1 1) (v : Int) (c0 : w.cell? ⟨k, 0, none⟩ = some (.int .i64 v)) (hN : N ≤ 1048576) (hbase : base ≤ w.heap.size)
    (h : ∀ g' c' w', w'.ownsRow base 3 1 (.slice (some ⟨g', 0, none⟩) (N + 1) c') (N + 1) ((F ++ [v]).map (Value.int .i64)) → w.grownBy w' (some g) → (g' = g ∨ g' = w.heap.size) → wpList Try.prog ops Q rest (a.put o.dst (.slice (some ⟨g', 0, none⟩) (N + 1) c')) w') :
    wpList Try.prog ops Q (o :: rest) a w := by
  obtain ⟨i0, hi, hz0, hz1, hz2⟩ := info_parts infoInt
  refine wpList_append_lies hgd s x 23 ho base 3 i0 (.int .i64 0) 1 8 Try.underlying23 hi hz0 hz1 hz2 rfl (by decide) _ N (F.map (Value.int .i64)) hs hown
    ⟨k, 0, none⟩ 1 1 [.int .i64 v] hx rfl (fun j u hj => ?_) (one_int v) (by omega) (by unfold maxLen; omega) (by omega) hbase fun g' c' w' h2 h3 h4 => h g' c' w' ?_ ?_ ?_
  · cases j with
    | zero => simp at hj; subst hj; simpa [Addr.add] using c0
    | succ j => simp at hj
  · rw [List.map_append]; exact h2
  · exact h3
  · rcases h4 with h | h
    · left; simp [Value.ownBlock] at h; exact h.symm
    · exact .inr h
end Go.Proofs.Ytkpbfhohcffilaa

namespace Go.Proofs.Ytkpbfhohcffilaa
set_option maxRecDepth 100000
open Go.RowKit

theorem bit_one (xs : List Int) (i j : Nat) : (bitI (xs.getD i 0) j == 1) = cellOf xs i j := by
  unfold cellOf; rw [Bool.eq_iff_iff]; simp
theorem bit_zero (xs : List Int) (i j : Nat) : (bitI (xs.getD i 0) j == 0) = !cellOf xs i j := by
  have := bit_01 (xs.getD i 0) j
  unfold cellOf
  rcases (show bitI (xs.getD i 0) j = 0 ∨ bitI (xs.getD i 0) j = 1 by omega) with e | e <;> rw [e] <;> rfl
set_option maxHeartbeats 1000000 in
theorem arrow_any (W : Nat) (a : Option Addr) (n cap : Nat) (xs : List Int) (p q : Nat) (w : World) (h : Row w a n xs) (hv : Im W n xs) (hp : p < n + W) (hq : q < n + W) :
    Calls Try.prog 78 #[.agg #[.int .i64 W, .slice a n cap], .int .i64 p, .int .i64 q] w fun e w' => e = .returned (.bool (arC (cellOf xs) n p q)) ∧ Below w.heap.size w w' := by
  have hw6 := hv.w6
  have hn6 := hv.l6
  obtain ⟨W0, hW0⟩ : ∃ W0, W0 = w.alloc (.cells #[.int .i64 W, .slice a n cap] 25) := ⟨_, rfl⟩
  have bb : Below w.heap.size w W0 := by subst hW0; exact (Below.refl _ _).alloc (Nat.le_refl _) _
  have x0 : W0.cell? ⟨w.heap.size, 0, none⟩ = some (.int .i64 W) := by subst hW0; simp
  have x1 : W0.cell? ⟨w.heap.size, 1, none⟩ = some (.slice a n cap) := by subst hW0; simp
  have hR := h.bel bb
  clear h
  by_cases e1 : p < n
  · by_cases e2 : n ≤ q
    · obtain ⟨l, hl⟩ : ∃ l, q = n + l := ⟨q - n, by omega⟩
      have hA : arC (cellOf xs) n p q = cellOf xs p l := by rw [hl]; exact arc_set e1 l
      rw [hA]
      have hg := get_any W a n cap xs p l W0 hR hv e1 (by omega)
      have hb1 := bit_one xs p l
      generalize cellOf xs p l = r at hb1
      generalize bitI (xs.getD p 0) l = x at hg hb1
      have es : (q : Int) - (n : Int) = (l : Int) := by omega
      have hg := Lib.hid hg
      have hb1 := Lib.hid hb1
      have es := Lib.hid es
      clear hA hR hv hl
      go_enter Try.func78, Try.ntmps78
      go_wp2_with fail
      rw [← hW0]
      clear hW0
      go_wp2_with fail
      refine hg.out.mono ?_
      rintro e w2 ⟨rfl, hb⟩
      go_wp2_with fail
      go_ret
      exact ⟨rfl, bb.trans (hb.mono bb.size)⟩
    · have hA : arC (cellOf xs) n p q = false := by unfold arC; rw [if_pos e1, decide_eq_false e2]; rfl
      rw [hA]
      clear hA hR hv
      go_enter Try.func78, Try.ntmps78
      go_wp2_with fail
      rw [← hW0]
      clear hW0
      go_wp2_with fail
      go_ret
      exact ⟨rfl, bb⟩
  · by_cases e2 : q < n
    · obtain ⟨l, hl⟩ : ∃ l, p = n + l := ⟨p - n, by omega⟩
      have hA : arC (cellOf xs) n p q = !cellOf xs q l := by rw [hl]; exact arc_not e2 l
      rw [hA]
      have hg := get_any W a n cap xs q l W0 hR hv e2 (by omega)
      have hb1 := bit_zero xs q l
      generalize cellOf xs q l = r at hb1
      generalize bitI (xs.getD q 0) l = x at hg hb1
      have es : (p : Int) - (n : Int) = (l : Int) := by omega
      have hg := Lib.hid hg
      have hb1 := Lib.hid hb1
      have es := Lib.hid es
      clear hA hR hv hl
      go_enter Try.func78, Try.ntmps78
      go_wp2_with fail
      rw [← hW0]
      clear hW0
      go_wp2_with fail
      refine hg.out.mono ?_
      rintro e w2 ⟨rfl, hb⟩
      go_wp2_with fail
      go_ret
      exact ⟨rfl, bb.trans (hb.mono bb.size)⟩
    · have hA : arC (cellOf xs) n p q = false := by unfold arC; rw [if_neg e1, decide_eq_false e2]; rfl
      rw [hA]
      clear hA hR hv
      go_enter Try.func78, Try.ntmps78
      go_wp2_with fail
      rw [← hW0]
      clear hW0
      go_wp2_with fail
      go_ret
      exact ⟨rfl, bb⟩
theorem rep_snoc (k : Nat) (x : Int) : List.replicate (k + 1) x = List.replicate k x ++ [x] := List.replicate_succ'
set_option maxHeartbeats 4000000 in
theorem parents_any (W : Nat) (a : Option Addr) (n cap : Nat) (xs : List Int) (s : Nat) (w : World) (h : Row w a n xs) (hv : Im W n xs) (hs : s < n + W) :
    Calls Try.prog 57 #[.agg #[.int .i64 W, .slice a n cap], .int .i64 s] w fun e w' => (∃ g c, e = .returned (.slice (some ⟨g, 0, none⟩) (n + W) c) ∧ OwnI w' w.heap.size (some ⟨g, 0, none⟩) (n + W) c (parP xs W n s)) ∧ Below w.heap.size w w' := by
  have hw6 := hv.w6
  have hn6 := hv.l6
  have hw1 := hv.w1
  have hn1 := hv.l1
  obtain ⟨W0, hW0⟩ : ∃ W0, W0 = w.alloc (.cells #[.int .i64 W, .slice a n cap] 25) := ⟨_, rfl⟩
  have bb : Below w.heap.size w W0 := by subst hW0; exact (Below.refl _ _).alloc (Nat.le_refl _) _
  have x0 : W0.cell? ⟨w.heap.size, 0, none⟩ = some (.int .i64 W) := by subst hW0; simp
  have x1 : W0.cell? ⟨w.heap.size, 1, none⟩ = some (.slice a n cap) := by subst hW0; simp
  have hR := Lib.hid (h.bel bb)
  have hM : ∃ M : Nat, n + W = M := ⟨_, rfl⟩
  obtain ⟨M, hM⟩ := hM
  have harr := Lib.hid (fun (p q : Nat) (hp : p < n + W) (hq : q < n + W) (wx : World) (hx : Row wx a n xs) => arrow_any W a n cap xs p q wx hx hv hp hq)
  have hseen := fun k => seen_k (arC (cellOf xs) n) hs k
  have hdone := fun k h1 h2 => bfs_done (arC (cellOf xs) n) (m := n + W) (s := s) (a := k) h1 h2
  have hpar : parP xs W n s = bfsP (arC (cellOf xs) n) (n + W) s := rfl
  rw [hM] at harr hseen hdone hpar hs
  rw [hpar, hM]
  have eM : (n : Int) + (W : Int) = (M : Int) := by omega
  have hM12 : 2 ≤ M ∧ M ≤ 12 := by omega
  generalize arC (cellOf xs) n = arr at harr hseen hdone
  have harr := Lib.hid harr.out
  replace hseen := Lib.hid hseen
  replace hdone := Lib.hid hdone
  replace eM := Lib.hid eM
  replace bb := Lib.hid bb
  clear h hv hpar hM
  go_enter Try.func57, Try.ntmps57
  go_upto_region 1 with fail
  rw [← hW0]
  clear hW0
  go_upto_region 2 with fail
  rw [eM.out]
  have ho0 : Hid (OwnI (W0.alloc (.cells #[] 3)) W0.heap.size (some ⟨W0.heap.size, 0, none⟩) 0 0 (List.replicate 0 (-1))) := own_empty W0 W0.heap.size W0.heap.size rfl (Nat.le_refl _)
  have hb0 : Hid (Below W0.heap.size W0 (W0.alloc (.cells #[] 3))) := (Below.refl _ _).alloc (Nat.le_refl _) _
  go_wp2_with fail
  go_loopw [6, 7] (fun o i wr => ∃ (k g c : Nat), k ≤ M ∧ i = .int .i64 k ∧ o = .slice (some ⟨g, 0, none⟩) k c ∧ Hid (OwnI wr W0.heap.size (some ⟨g, 0, none⟩) k c (List.replicate k (-1))) ∧ Hid (Below W0.heap.size W0 wr)) (fun _ i _ => M - (intOf i).toNat)
  case atStart => exact ⟨0, _, 0, Nat.zero_le _, rfl, rfl, ho0, hb0⟩
  case round =>
    clear ho0 hb0
    obtain ⟨k, g, c, hk, rfl, rfl, hO, hB⟩ := hrel
    obtain ⟨wo, rfl⟩ : ∃ wo : World, wo = wr := ⟨_, rfl⟩
    have hBs := hB.out.size
    by_cases hlt : k < M
    · go_wp2_with (at_builtin; refine wpList_append_int rfl _ _ rfl W0.heap.size g k c (List.replicate k (-1)) rfl (World.ownsRow.alloc hO.out _) wo.heap.size rfl (-1) (by simp) (by omega) (by simp; omega) ?_)
      intro g' c' w3 hown hgr hlies
      have hown : OwnI w3 W0.heap.size (some ⟨g', 0, none⟩) (k + 1) c' (List.replicate (k + 1) (-1)) := by rw [rep_snoc]; unfold OwnI; simpa using hown
      have hgg : W0.heap.size ≤ g ∧ g < wo.heap.size := rng_own hO.out _ rfl
      have hB3 := Lib.hid ((hB.out.alloc hBs (.cells #[.int .i64 (-1)] 3)).grown hgr (by simp; omega) (fun q hq => by cases hq; exact hgg.1))
      replace hown := Lib.hid hown
      clear hgr hlies hO hB hgg
      go_wp2_with fail
      exact ⟨⟨k + 1, g', c', by omega, by go_num, rfl, hown.out, hB3⟩, by simp [intOf]; omega⟩
    have : k = M := by omega
    subst this
    have hck := own_cell hO.out hs
    have hfz := hO.out.frozen
    have hst := Lib.hid (hO.out.set s s)
    have hgg : W0.heap.size ≤ g ∧ g < wo.heap.size := rng_own hO.out _ rfl
    have hB1 := Lib.hid (hB.out.setCell (show W0.heap.size ≤ (⟨g, s, none⟩ : Addr).block from hgg.1) (.int .i64 s))
    generalize hx : (List.replicate k (-1 : Int)).getD s 0 = x at hck
    clear hx hO hB
    go_upto_region 8 with fail
    obtain ⟨w1, hw1⟩ : ∃ w1, wo.setCell ⟨g, s, none⟩ (.int .i64 s) = w1 := ⟨_, rfl⟩
    rw [hw1] at hst hB1
    rw [hw1]
    have hz1 : wo.heap.size = w1.heap.size := by rw [← hw1]; simp [World.setCell]
    clear hck hfz hw1
    have hown2 : OwnI (w1.alloc (.cells #[.int .i64 s] 3)) W0.heap.size (some ⟨w1.heap.size, 0, none⟩) 1 1 [(s : Int)] := World.ownsRow_lit w1 #[.int .i64 s] 1 (by omega) (by decide) rfl
    have hT : Hid (TW W0 (w1.alloc (.cells #[.int .i64 s] 3)) k g c (bfsK arr k (bfs0 k s) 0).2.length w1.heap.size 1 (bfsK arr k (bfs0 k s) 0).1 (bfsK arr k (bfs0 k s) 0).2) :=
      ⟨World.ownsRow.alloc hst.out _, hown2, hB1.out.alloc (by omega) _, by omega⟩
    clear hown2 hst hB1
    go_wp2_with fail
    go_loopw [8, 9] (fun o i wr => ∃ (b g2 c2 : Nat), b ≤ k ∧ i = .int .i64 b ∧ o = .slice (some ⟨g2, 0, none⟩) (bfsK arr k (bfs0 k s) b).2.length c2 ∧ Hid (TW W0 wr k g c (bfsK arr k (bfs0 k s) b).2.length g2 c2 (bfsK arr k (bfs0 k s) b).1 (bfsK arr k (bfs0 k s) b).2)) (fun _ i _ => k - (intOf i).toNat)
    case atStart => exact ⟨0, _, 1, Nat.zero_le _, rfl, rfl, hT⟩
    case round =>
      clear hT
      obtain ⟨b, g2, c2, hb, rfl, rfl, hT⟩ := hrel
      obtain ⟨wq, rfl⟩ : ∃ wq : World, wq = wr := ⟨_, rfl⟩
      have hsn := hseen.out b
      have hsh := hsn.short
      by_cases hlt : b < (bfsK arr k (bfs0 k s) b).2.length
      case neg =>
        have hd := hdone.out b hb (by omega)
        generalize (bfsK arr k (bfs0 k s) b).2.length = N at *
        have hr := Lib.hid (hd ▸ hT.out.out)
        have hB := Lib.hid (hT.out.bel)
        clear hd hsn
        go_wp2_with fail
        go_ret
        exact ⟨⟨g, c, rfl, hr.out.mono (by have := bb.out.size; omega)⟩, bb.out.trans (hB.out.mono (by have := bb.out.size; omega))⟩
      obtain ⟨f, hf, hfM, _⟩ := hsn.at hlt
      have hnx := Lib.hid (bfs_next hlt hf)
      have hlk := Lib.hid (look_k (seen_look hsn hlt hf))
      obtain ⟨S, hS⟩ : ∃ S, bfsK arr k (bfs0 k s) b = S := ⟨_, rfl⟩
      rw [hS] at hT hlt hnx hlk hsh ⊢
      clear hsn hS hf hdone
      have hT0 : Hid (TW W0 wq k g c (seeK arr f 0 S).2.length g2 c2 (seeK arr f 0 S).1 (seeK arr f 0 S).2) := hT
      go_wp2_with fail
      go_loopw [8, 10] (fun o i wr => ∃ (q g2 c2 : Nat), q ≤ k ∧ i = .int .i64 q ∧ o = .slice (some ⟨g2, 0, none⟩) (seeK arr f q S).2.length c2 ∧ Hid (TW W0 wr k g c (seeK arr f q S).2.length g2 c2 (seeK arr f q S).1 (seeK arr f q S).2)) (fun _ i _ => k - (intOf i).toNat)
      case atStart => exact ⟨0, g2, c2, Nat.zero_le _, rfl, rfl, hT0⟩
      case round =>
        clear hT hT0
        obtain ⟨q, g2, c2, hq, rfl, rfl, hT⟩ := hrel
        obtain ⟨wi, rfl⟩ : ∃ wi : World, wi = wr := ⟨_, rfl⟩
        have hL := hlk.out q hq
        by_cases hqk : q < k
        case neg =>
          obtain rfl : q = k := by omega
          rw [← hnx.out] at hT ⊢
          have hsh2 := (hseen.out (b + 1)).short
          clear hL hlk
          go_wp2_with fail
          exact ⟨⟨b + 1, g2, c2, by omega, by go_num, rfl, hT⟩, by simp [intOf]; omega⟩
        have hyes := fun h h' => see_yes (arr := arr) (f := f) (k := q) (S := S) h h'
        have hno := fun h => see_no (arr := arr) (f := f) (k := q) (S := S) h
        generalize seeK arr f q S = Sq at hT hL hyes hno ⊢
        obtain ⟨P, Q⟩ := Sq
        (try dsimp only at hT hL hyes hno ⊢)
        have ht := hT.out
        have hsz := hL.short
        have c1 := own_cell ht.out hqk
        have c2' : wi.cell? ⟨g2, b, none⟩ = some (.int .i64 f) := by have := own_cell ht.wk hL.qa; rw [hL.qf] at this; exact this
        have hpb := hL.bd q hqk
        have hqa := hL.qa
        have y0 := kept ht.bel (block_lt x0) x0
        have y1 := kept ht.bel (block_lt x1) x1
        have hRi := hR.out.bel ht.bel
        obtain ⟨N, hN⟩ : ∃ N, Q.length = N := ⟨_, rfl⟩
        obtain ⟨x, hx⟩ : ∃ x, P.getD q 0 = x := ⟨_, rfl⟩
        rw [hN] at hT ht hsz hqa ⊢
        rw [hx] at c1 hpb
        by_cases hneg : x < 0
        case neg =>
          have hnx2 := hno (.inr (by rw [hx]; exact hneg))
          have hdx : decide (x < 0) = false := decide_eq_false hneg
          clear ht hL hyes hno hRi
          replace hN := Lib.hid hN
          replace hx := Lib.hid hx
          go_wp2_with fail
          go_quiet (fail)
          go_wp2_with fail
          refine ⟨⟨q + 1, g2, c2, by omega, by go_num, ?_, ?_⟩, by simp [intOf]; omega⟩
          · rw [hnx2, hN.out]
          · rw [hnx2, hN.out]; exact hT.out.move (below_drewN (Below.refl _ _) _)
        have hdx : decide (x < 0) = true := decide_eq_true hneg
        have g_y0 := fun p : Bw wi => bw_cell y0 p
        have g_y1 := fun p : Bw wi => bw_cell y1 p
        have g_c1 := fun p : Bw wi => bw_cell c1 p
        have g_c2 := fun p : Bw wi => bw_cell c2' p
        have cc0 : ∀ p : Bw wi, Calls Try.prog 78 #[.agg #[.int .i64 W, .slice a n cap], .int .i64 f, .int .i64 q] p.v (fun e w' => e = .returned (.bool (arr f q)) ∧ ∃ q : Bw wi, w' = q.v) := fun p => bw_of (harr.out f q (by omega) (by omega) p.v (hRi.bel p.h))
        replace cc0 := Lib.hid cc0
        replace hyes := fun h => hyes h (by rw [hx]; exact hneg)
        replace hno := fun h => hno (.inl h)
        replace hL := Lib.hid hL.qf
        clear ht hRi y0 y1 c1 c2'
        replace hN := Lib.hid hN
        replace hx := Lib.hid hx
        replace hyes := Lib.hid hyes
        replace hno := Lib.hid hno
        cases har : arr f q with
        | false =>
          rw [har] at cc0
          go_wp2_with fail
          refine wp_region_bw (by kernel_rfl) (by kernel_rfl) ?_
          repeat (go_big_quiet_step (first | (with_reducible exact cc0.out _)))
          refine wpQuiet_nil ?_
          intro _ hw'
          obtain ⟨pq, rfl⟩ := hw'
          have hb := pq.h
          generalize pq.v = w2 at hb ⊢
          clear pq g_y0 g_y1 g_c1 g_c2 cc0
          go_wp2_with fail
          have hnx2 := hno.out har
          refine ⟨⟨q + 1, g2, c2, by omega, by go_num, ?_, ?_⟩, by simp [intOf]; omega⟩
          · rw [hnx2, hN.out]
          · rw [hnx2, hN.out]; exact hT.out.move hb
        | true =>
          rw [har] at cc0
          go_wp2_with fail
          refine wp_region_bw (by kernel_rfl) (by kernel_rfl) ?_
          repeat (go_big_quiet_step (first | (with_reducible exact cc0.out _)))
          refine wpQuiet_nil ?_
          intro _ hw'
          obtain ⟨pq, rfl⟩ := hw'
          have hb := pq.h
          generalize pq.v = w2 at hb ⊢
          clear pq g_y0 g_y1 g_c1 g_c2 cc0
          have hnx2 := hyes.out har
          replace hT := hT.out.move hb
          have ck := own_cell hT.out hqk
          have cb : w2.cell? ⟨g2, b, none⟩ = some (.int .i64 (Q.getD b 0)) := own_cell hT.wk hqa
          rw [hL.out] at cb
          have fk := hT.out.frozen
          have hT2 := Lib.hid (hT.set q f)
          rw [hx.out] at ck
          clear hb hyes hno har hT hL
          go_upto_region 17 with fail
          obtain ⟨w3, hw3⟩ : ∃ w3, w2.setCell ⟨g, q, none⟩ (.int .i64 f) = w3 := ⟨_, rfl⟩
          rw [hw3] at hT2 ⊢
          clear hw3 ck cb fk
          have ht3 := hT2.out.o2
          have hbs := hT2.out.bel.size
          go_wp2_with (at_builtin; refine wpList_append_int rfl _ _ rfl W0.heap.size g2 N c2 Q rfl (World.ownsRow.alloc hT2.out.wk _) w3.heap.size rfl q (by simp) (by omega) (by simp; omega) ?_)
          intro g' c' w4 hown hgr hlies
          have hT4 := Lib.hid ((hT2.out.move ((Below.refl _ _).alloc (Nat.le_refl _) (.cells #[.int .i64 q] 3))).app (x := q) (by simpa using hown) hgr (by rcases hlies with h | h; exact .inl h; exact .inr (by rw [h]; simp)))
          clear hown hgr hlies hT2
          go_wp2_with fail
          refine ⟨⟨q + 1, g', c', by omega, by go_num, ?_, ?_⟩, by simp [intOf]; omega⟩
          · rw [hnx2, List.length_append, hN.out]; rfl
          · rw [hnx2, List.length_append, hN.out]; exact hT4
end Go.Proofs.Ytkpbfhohcffilaa

namespace Go.Proofs.Ytkpbfhohcffilaa
set_option maxRecDepth 100000
open Go.RowKit

/-- Whether a cell is variable, whatever the arguments are. -/
def varO (W : Int) (xs : List Int) (i j : Int) : Bool := validB W xs && (cellB W xs.length i j && varB xs W.toNat xs.length i.toNat j.toNat)
theorem varO_no {W : Int} {xs : List Int} {i j : Int} (h : ¬ (validB W xs = true ∧ cellB W xs.length i j = true)) : varO W xs i j = false := by
  unfold varO
  cases e1 : validB W xs with
  | false => rfl
  | true =>
    cases e2 : cellB W xs.length i j with
    | false => rfl
    | true => exact absurd ⟨e1, e2⟩ h
theorem varO_nat {W n : Nat} {xs : List Int} (h : Im W n xs) {i j : Nat} (hi : i < n) (hj : j < W) : varO W xs i j = varB xs W n i j := by
  unfold varO
  rw [h.valid, h.hl, cellB_iff.2 ⟨by omega, by omega, by omega, by omega⟩]
  simp
theorem varO_im {W : Int} {n : Nat} {xs : List Int} {i j : Int} (hl : xs.length = n) (h : varO W xs i j = true) : ∃ (V k l : Nat), W = V ∧ i = k ∧ j = l ∧ Im V n xs ∧ k < n ∧ l < V ∧ varB xs V n k l = true := by
  unfold varO at h
  simp only [Bool.and_eq_true] at h
  obtain ⟨hv, hc, hb⟩ := h
  have hc := cellB_iff.1 hc
  have hI0 := validB_W hv
  obtain ⟨V, rfl⟩ := Int.eq_ofNat_of_zero_le (by omega : 0 ≤ W)
  obtain ⟨k, rfl⟩ := Int.eq_ofNat_of_zero_le hc.1
  obtain ⟨l, rfl⟩ := Int.eq_ofNat_of_zero_le hc.2.2.1
  rw [hl] at hb hc
  exact ⟨V, k, l, rfl, rfl, rfl, Im.of hv hl, by omega, by omega, by simpa using hb⟩
set_option maxHeartbeats 1000000 in
theorem ends_any (W : Nat) (a : Option Addr) (n cap : Nat) (xs : List Int) (i j : Nat) (w : World) (h : Row w a n xs) (hv : Im W n xs) (hi : i < n) (hj : j < W) :
    Calls Try.prog 56 #[.agg #[.int .i64 W, .slice a n cap], .int .i64 i, .int .i64 j] w fun e w' => e = .returned (.tuple #[.int .i64 (fromP xs n i j : Nat), .int .i64 (toP xs n i j : Nat)]) ∧ Below w.heap.size w w' := by
  have hw6 := hv.w6
  have hn6 := hv.l6
  obtain ⟨W0, hW0⟩ : ∃ W0, W0 = (w.alloc (.cells #[.int .i64 W, .slice a n cap] 25)) := ⟨_, rfl⟩
  have bb : Hid (Below w.heap.size w W0) := by subst hW0; exact (Below.refl _ _).alloc (Nat.le_refl _) _
  have x0 : W0.cell? ⟨w.heap.size, 0, none⟩ = some (.int .i64 W) := by subst hW0; go_simp
  have x1 : W0.cell? ⟨w.heap.size, 1, none⟩ = some (.slice a n cap) := by subst hW0; go_simp
  have r := Lib.hid (h.bel bb.out)
  have hg := Lib.hid (get_any W a n cap xs i j W0 r.out hv hi hj)
  have hb1 := bit_one xs i j
  clear h
  cases hc : cellOf xs i j with
  | true =>
    rw [hc] at hb1
    rw [(ends_set hc).1, (ends_set hc).2]
    generalize bitI (xs.getD i 0) j = x at hg hb1
    clear hc hv
    rw [Int.natCast_add]
    go_enter Try.func56, Try.ntmps56
    go_wp2_with fail
    rw [← hW0]
    clear hW0
    go_wp2_with fail
    refine (hg.out).mono ?_
    rintro e v1 ⟨rfl, hb⟩
    have szv1 := hb.size
    replace x0 := kept hb (block_lt x0) x0
    replace x1 := kept hb (block_lt x1) x1
    replace r := Lib.hid (r.out.bel hb)
    replace bb := Lib.hid (bb.out.trans (hb.mono bb.out.size))
    clear hb
    go_wp2_with fail
    refine bodyPost_ret (v := .tuple #[.int .i64 ((n : Int) + (j : Int)), .int .i64 i]) (by simp [results, Try.results56, go_sem]) rfl ?_
    exact ⟨rfl, bb.out⟩
  | false =>
    rw [hc] at hb1
    rw [(ends_not hc).1, (ends_not hc).2]
    generalize bitI (xs.getD i 0) j = x at hg hb1
    clear hc hv
    rw [Int.natCast_add]
    go_enter Try.func56, Try.ntmps56
    go_wp2_with fail
    rw [← hW0]
    clear hW0
    go_wp2_with fail
    refine (hg.out).mono ?_
    rintro e v2 ⟨rfl, hb⟩
    have szv2 := hb.size
    replace x0 := kept hb (block_lt x0) x0
    replace x1 := kept hb (block_lt x1) x1
    replace r := Lib.hid (r.out.bel hb)
    replace bb := Lib.hid (bb.out.trans (hb.mono bb.out.size))
    clear hb
    go_wp2_with fail
    go_quiet (fail)
    go_wp2_with fail
    refine bodyPost_ret (v := .tuple #[.int .i64 i, .int .i64 ((n : Int) + (j : Int))]) (by simp [results, Try.results56, go_sem]) rfl ?_
    exact ⟨rfl, below_drewN bb.out _⟩
set_option maxHeartbeats 1000000 in
theorem var_spec (W : Int) (a : Option Addr) (n cap : Nat) (xs : List Int) (i j : Int) (w : World) (h : Row w a n xs) (hm : n ≤ 9223372036854775807) :
    Calls Try.prog 55 #[.agg #[.int .i64 W, .slice a n cap], .int .i64 i, .int .i64 j] w fun e w' => e = .returned (.bool (varO W xs i j)) ∧ Below w.heap.size w w' := by
  have hl := h.1
  obtain ⟨W0, hW0⟩ : ∃ W0, W0 = (w.alloc (.cells #[.int .i64 W, .slice a n cap] 25)) := ⟨_, rfl⟩
  have bb : Hid (Below w.heap.size w W0) := by subst hW0; exact (Below.refl _ _).alloc (Nat.le_refl _) _
  have x0 : W0.cell? ⟨w.heap.size, 0, none⟩ = some (.int .i64 W) := by subst hW0; go_simp
  have x1 : W0.cell? ⟨w.heap.size, 1, none⟩ = some (.slice a n cap) := by subst hW0; go_simp
  have r := Lib.hid (h.bel bb.out)
  clear h
  by_cases hv : validB W xs = true
  case neg =>
    rw [varO_no (fun h => hv h.1)]
    have hv : validB W xs = false := by simpa using hv
    clear hl
    go_enter Try.func55, Try.ntmps55
    go_wp2_with fail
    rw [← hW0]
    clear hW0
    refine (valid_spec W a n cap xs _ r.out hm).mono ?_
    rintro e v1 ⟨rfl, hb⟩
    have szv1 := hb.size
    replace x0 := kept hb (block_lt x0) x0
    replace x1 := kept hb (block_lt x1) x1
    replace r := Lib.hid (r.out.bel hb)
    replace bb := Lib.hid (bb.out.trans (hb.mono bb.out.size))
    rw [hv]
    clear hb
    go_wp2_with fail
    go_ret
    exact ⟨rfl, bb.out⟩
  have hW := validB_W hv
  by_cases hc : cellB W n i j = true
  case neg =>
    rw [varO_no (fun h => hc (by rw [← hl]; exact h.2))]
    have hc : cellB W n i j = false := by simpa using hc
    clear hl
    go_enter Try.func55, Try.ntmps55
    go_wp2_with fail
    rw [← hW0]
    clear hW0
    refine (valid_spec W a n cap xs _ r.out hm).mono ?_
    rintro e v2 ⟨rfl, hb⟩
    have szv2 := hb.size
    replace x0 := kept hb (block_lt x0) x0
    replace x1 := kept hb (block_lt x1) x1
    replace r := Lib.hid (r.out.bel hb)
    replace bb := Lib.hid (bb.out.trans (hb.mono bb.out.size))
    rw [hv]
    clear hb
    go_wp2_with fail
    refine (cell_spec W a n cap i j _ hm hW.1 hW.2).mono ?_
    rintro e v3 ⟨rfl, hb⟩
    have szv3 := hb.size
    replace x0 := kept hb (block_lt x0) x0
    replace x1 := kept hb (block_lt x1) x1
    replace r := Lib.hid (r.out.bel hb)
    replace bb := Lib.hid (bb.out.trans (hb.mono bb.out.size))
    rw [hc]
    clear hb
    go_wp2_with fail
    go_ret
    exact ⟨rfl, bb.out⟩
  have hcc := cellB_iff.1 hc
  obtain ⟨W, rfl⟩ := Int.eq_ofNat_of_zero_le (by omega : 0 ≤ W)
  obtain ⟨i, rfl⟩ := Int.eq_ofNat_of_zero_le hcc.1
  obtain ⟨j, rfl⟩ := Int.eq_ofNat_of_zero_le hcc.2.2.1
  have hI : Im W n xs := Im.of hv hl
  have hi : i < n := by omega
  have hj : j < W := by omega
  rw [varO_nat hI hi hj]
  have hlt := ends_lt (xs := xs) hi hj
  have hbd := (par_tree xs hlt.1).bd _ hlt.2
  have hw6 := hI.w6
  have hn6 := hI.l6
  have hI := Lib.hid hI
  unfold varB
  have hends := Lib.hid (fun wx hx => ends_any W a n cap xs i j wx hx hI.out hi hj)
  have hpar := Lib.hid (fun wx hx => parents_any W a n cap xs _ wx hx hI.out hlt.1)
  generalize fromP xs n i j = f at *
  generalize toP xs n i j = t at *
  generalize parP xs W n f = Q at *
  obtain ⟨x, hx⟩ : ∃ x, Q.getD t 0 = x := ⟨_, rfl⟩
  rw [hx] at hbd ⊢
  go_enter Try.func55, Try.ntmps55
  go_wp2_with fail
  rw [← hW0]
  clear hW0
  refine (valid_spec W a n cap xs _ r.out hm).mono ?_
  rintro e v4 ⟨rfl, hb⟩
  have szv4 := hb.size
  replace x0 := kept hb (block_lt x0) x0
  replace x1 := kept hb (block_lt x1) x1
  replace r := Lib.hid (r.out.bel hb)
  replace bb := Lib.hid (bb.out.trans (hb.mono bb.out.size))
  rw [hv]
  clear hb
  go_wp2_with fail
  refine (cell_spec W a n cap i j _ hm hW.1 hW.2).mono ?_
  rintro e v5 ⟨rfl, hb⟩
  have szv5 := hb.size
  replace x0 := kept hb (block_lt x0) x0
  replace x1 := kept hb (block_lt x1) x1
  replace r := Lib.hid (r.out.bel hb)
  replace bb := Lib.hid (bb.out.trans (hb.mono bb.out.size))
  rw [hc]
  clear hb
  go_wp2_with fail
  refine (hends.out _ r.out).mono ?_
  rintro e v6 ⟨rfl, hb⟩
  have szv6 := hb.size
  replace x0 := kept hb (block_lt x0) x0
  replace x1 := kept hb (block_lt x1) x1
  replace r := Lib.hid (r.out.bel hb)
  replace bb := Lib.hid (bb.out.trans (hb.mono bb.out.size))
  clear hb
  go_wp2_with fail
  refine (hpar.out _ r.out).mono ?_
  rintro e v7 ⟨⟨g, c, rfl, ho⟩, hb⟩
  have szv7 := hb.size
  replace x0 := kept hb (block_lt x0) x0
  replace x1 := kept hb (block_lt x1) x1
  replace r := Lib.hid (r.out.bel hb)
  replace bb := Lib.hid (bb.out.trans (hb.mono bb.out.size))
  have ck := own_cell ho hlt.2
  clear hb
  rw [hx] at ck
  clear ho hends hpar hI hx
  go_wp2_with fail
  go_ret
  exact ⟨rfl, bb.out⟩
theorem put_tog {W n : Nat} {xs : List Int} (h : Im W n xs) {i j : Nat} (hi : i < n) (hj : j < W) : putL xs i j (!cellOf xs i j) = togL xs W n i j := by
  refine im_cell_ext (h.put hi hj _) (tog_im h i j) fun a b ha hb => ?_
  rw [tog_cell h ha hb]
  have := h.put_bit hi hj ha hb (!cellOf xs i j)
  show decide (_ = (1 : Int)) = _
  rw [this]
  unfold togC
  by_cases e : a = i ∧ b = j
  · rw [if_pos e, if_pos e, e.1, e.2]; cases cellOf xs i j <;> rfl
  · rw [if_neg e, if_neg e]; rfl
set_option maxHeartbeats 2000000 in
theorem tog_spec (W B g n cap : Nat) (xs : List Int) (p q i j : Nat) (w : World) (h : OwnI w B (some ⟨g, 0, none⟩) n cap xs) (hv : Im W n xs) (hpq : p = i ∧ q = n + j ∨ q = i ∧ p = n + j) (hi : i < n) (hj : j < W) :
    Calls Try.prog 59 #[.agg #[.int .i64 W, .slice (some ⟨g, 0, none⟩) n cap], .int .i64 p, .int .i64 q] w fun e w' => e = .returned (.tuple #[]) ∧ w.grownBy w' (some g) ∧ OwnI w' B (some ⟨g, 0, none⟩) n cap (togL xs W n i j) := by
  have hw6 := hv.w6
  have hn6 := hv.l6
  have hr := hv.row i hi
  have hp6 := pw_63 hw6
  have ht := put_tog hv hi hj
  unfold putL at ht
  have hb0 := bit_zero xs i j
  obtain ⟨W0, hW0⟩ : ∃ W0, W0 = (w.alloc (.cells #[.int .i64 W, .slice (some ⟨g, 0, none⟩) n cap] 25)) := ⟨_, rfl⟩
  have bb : Hid (Below w.heap.size w W0) := by subst hW0; exact (Below.refl _ _).alloc (Nat.le_refl _) _
  have x0 : W0.cell? ⟨w.heap.size, 0, none⟩ = some (.int .i64 W) := by subst hW0; go_simp
  have x1 : W0.cell? ⟨w.heap.size, 1, none⟩ = some (.slice (some ⟨g, 0, none⟩) n cap) := by subst hW0; go_simp
  have ho := Lib.hid (h.bel bb.out)
  have hgr : w.grownBy W0 (some g) := below_grown bb.out _
  have hgr := Lib.hid hgr
  have hv := Lib.hid hv
  have ht := Lib.hid ht
  clear h
  have tok0 : True := trivial
  rcases hpq with ⟨rfl, hq⟩ | ⟨rfl, hq⟩
  · have hlt : (p : Int) < (q : Int) := by omega
    have es : (q : Int) - (n : Int) = (j : Int) := by omega
    have hmn : min (p : Int) (q : Int) = (p : Int) := by omega
    have hmx : max (p : Int) (q : Int) = (q : Int) := by omega
    obtain ⟨b, hbb⟩ : ∃ b, (!cellOf xs p j) = b := ⟨_, rfl⟩
    have hg1 := Lib.hid (fun wx hx => get_any W (some ⟨g, 0, none⟩) n cap xs p j wx hx hv.out hi hj)
    rw [hbb] at hb0
    replace hq := Lib.hid hq
    generalize bitI (xs.getD p 0) j = x at hb0 hg1
    go_enter Try.func59, Try.ntmps59
    go_wp2_with fail
    rw [← hW0]
    clear hW0
    go_wp2_with fail
    go_region_law (first | ((go_simp; go_at_call 77; have _t := tok0; (with_reducible refine (hg1.out _ (ho.out.row.bel ((Below.refl _ _).drew))).mono ?_); rintro e w2 ⟨rfl, hb2⟩; have hb : Below W0.heap.size W0 w2 := (((Below.refl _ _).drew).trans (hb2.mono (Nat.le_refl _))); replace x0 := kept hb (block_lt x0) x0; replace x1 := kept hb (block_lt x1) x1; replace ho := Lib.hid (ho.out.bel hb); replace hgr := Lib.hid (grown_trans hgr.out (below_grown hb _)); clear hb hb2 _t tok0 hg1)) | ((go_simp; go_at_call 39; (with_reducible refine (put_spec W B g n cap xs p j b _ ho.out hi (by omega) hr.1 (by omega)).mono ?_); rintro e w3 ⟨rfl, hg3, ho3⟩; replace ho := Lib.hid ho3; replace hgr := Lib.hid (grown_trans hgr.out hg3); clear hg3 ho3)))
    all_goals go_wp2_with fail
    all_goals go_end0
    all_goals exact ⟨rfl, hgr.out, by have h1 := ht.out; rw [hbb] at h1; rw [← h1]; exact ho.out⟩
  · have hlt : (q : Int) < (p : Int) := by omega
    have es : (p : Int) - (n : Int) = (j : Int) := by omega
    have hmn : min (p : Int) (q : Int) = (q : Int) := by omega
    have hmx : max (p : Int) (q : Int) = (p : Int) := by omega
    obtain ⟨b, hbb⟩ : ∃ b, (!cellOf xs q j) = b := ⟨_, rfl⟩
    have hg1 := Lib.hid (fun wx hx => get_any W (some ⟨g, 0, none⟩) n cap xs q j wx hx hv.out hi hj)
    rw [hbb] at hb0
    replace hq := Lib.hid hq
    generalize bitI (xs.getD q 0) j = x at hb0 hg1
    go_enter Try.func59, Try.ntmps59
    go_wp2_with fail
    rw [← hW0]
    clear hW0
    go_wp2_with fail
    go_region_law (first | ((go_simp; go_at_call 77; have _t := tok0; (with_reducible refine (hg1.out _ (ho.out.row.bel ((Below.refl _ _).drew))).mono ?_); rintro e w2 ⟨rfl, hb2⟩; have hb : Below W0.heap.size W0 w2 := (((Below.refl _ _).drew).trans (hb2.mono (Nat.le_refl _))); replace x0 := kept hb (block_lt x0) x0; replace x1 := kept hb (block_lt x1) x1; replace ho := Lib.hid (ho.out.bel hb); replace hgr := Lib.hid (grown_trans hgr.out (below_grown hb _)); clear hb hb2 _t tok0 hg1)) | ((go_simp; go_at_call 39; (with_reducible refine (put_spec W B g n cap xs q j b _ ho.out hi (by omega) hr.1 (by omega)).mono ?_); rintro e w3 ⟨rfl, hg3, ho3⟩; replace ho := Lib.hid ho3; replace hgr := Lib.hid (grown_trans hgr.out hg3); clear hg3 ho3)))
    all_goals go_wp2_with fail
    all_goals go_end0
    all_goals exact ⟨rfl, hgr.out, by have h1 := ht.out; rw [hbb] at h1; rw [← h1]; exact ho.out⟩
def varsO (W : Int) (xs : List Int) : Out := if validB W xs = true then ⟨true, W, varL xs W.toNat xs.length⟩ else .no
/-- The cells of the first rows, and of the next one the first columns. -/
def upV (v : Nat → Nat → Bool) (i j a b : Nat) : Bool := (decide (a < i) || (decide (a = i) && decide (b < j))) && v a b
theorem upv_put {W n i j : Nat} {v : Nat → Nat → Bool} (h1 : 1 ≤ W) (h2 : W ≤ 6) (h3 : 1 ≤ n) (h4 : n ≤ 6) (hi : i < n) (hj : j < W) : putL (cellsL (upV v i j) W n) i j (v i j) = cellsL (upV v i (j + 1)) W n := by
  have hI := cells_im (upV v i j) h1 h2 h3 h4
  refine im_cell_ext (hI.put hi hj _) (cells_im _ h1 h2 h3 h4) fun a b ha hb => ?_
  have e1 := hI.put_bit hi hj ha hb (v i j)
  have e2 := cells_bit (c := upV v i j) h2 ha hb
  have e3 := cells_bit (c := upV v i (j + 1)) h2 ha hb
  show decide (_ = (1 : Int)) = decide (_ = (1 : Int))
  rw [e1, e2, e3]
  by_cases e : a = i ∧ b = j
  · rw [if_pos e]
    obtain ⟨rfl, rfl⟩ := e
    have : upV v a (b + 1) a b = v a b := by unfold upV; simp
    rw [this]
  · rw [if_neg e]
    have : upV v i (j + 1) a b = upV v i j a b := by
      unfold upV
      congr 1
      rw [Bool.eq_iff_iff]
      simp only [Bool.or_eq_true, Bool.and_eq_true, decide_eq_true_eq]
      omega
    rw [this]
theorem upv_row {W n i : Nat} (v : Nat → Nat → Bool) : cellsL (upV v i W) W n = cellsL (upV v (i + 1) 0) W n := cells_ext fun a b ha hb => by
  unfold upV
  congr 1
  rw [Bool.eq_iff_iff]
  simp only [Bool.or_eq_true, Bool.and_eq_true, decide_eq_true_eq]
  omega
theorem upv_all {W n : Nat} (v : Nat → Nat → Bool) : cellsL (upV v n 0) W n = cellsL v W n := cells_ext fun a b ha hb => by
  unfold upV
  rw [show (decide (a < n) || (decide (a = n) && decide (b < 0))) = true by simp [ha]]; rfl
theorem upv_none {W n : Nat} (v : Nat → Nat → Bool) : cellsL (upV v 0 0) W n = List.replicate n 0 := by
  rw [← cells_none W n]
  exact cells_ext fun a b _ _ => by unfold upV; simp
def flipO (W : Int) (xs : List Int) (i j : Int) : Out := if varO W xs i j = true then ⟨true, W, flipL xs W.toNat xs.length i.toNat j.toNat⟩ else .no
set_option maxHeartbeats 4000000 in
theorem flip_spec (W : Int) (a : Option Addr) (n cap : Nat) (xs : List Int) (i j : Int) (w : World) (h : Row w a n xs) (hm : n ≤ 9223372036854775807) :
    Calls Try.prog 29 #[.agg #[.int .i64 W, .slice a n cap], .int .i64 i, .int .i64 j] w (Gives w (flipO W xs i j)) := by
  have hl := h.1
  obtain ⟨W0, hW0⟩ : ∃ W0, W0 = ((w.alloc (.cells #[.int .i64 W, .slice a n cap] 25)).alloc (.cells #[.int .i64 0, .slice none 0 0] 25)) := ⟨_, rfl⟩
  have bb : Hid (Below w.heap.size w W0) := by subst hW0; exact ((Below.refl _ _).alloc (Nat.le_refl _) _).alloc (by simp) _
  have x0 : W0.cell? ⟨w.heap.size, 0, none⟩ = some (.int .i64 W) := by subst hW0; go_simp
  have x1 : W0.cell? ⟨w.heap.size, 1, none⟩ = some (.slice a n cap) := by subst hW0; go_simp
  have y0 : W0.cell? ⟨w.heap.size + 1, 0, none⟩ = some (.int .i64 0) := by subst hW0; go_simp
  have y1 : W0.cell? ⟨w.heap.size + 1, 1, none⟩ = some (.slice none 0 0) := by subst hW0; go_simp
  have yf : ∀ o, W0.frozen? ⟨w.heap.size + 1, o, none⟩ = false := fun o => by subst hW0; go_simp
  have r := Lib.hid (h.bel bb.out)
  have rb := Lib.hid (row_lt h)
  clear h
  have l0 := block_lt y0
  simp only at l0
  have hvs := Lib.hid (fun wx hx => var_spec W a n cap xs i j wx hx hm)
  by_cases hv : varO W xs i j = true
  case neg =>
    rw [show flipO W xs i j = .no from if_neg hv]
    have hv : varO W xs i j = false := by simpa using hv
    clear hl
    go_enter Try.func29, Try.ntmps29
    go_wp2_with fail
    rw [← hW0]
    clear hW0
    refine (hvs.out _ r.out).mono ?_
    rintro e v1 ⟨rfl, hb⟩
    have szv1 := hb.size
    replace yf : ∀ o, v1.frozen? ⟨w.heap.size + 1, o, none⟩ = false := fun o => (hb.frozen (p := ⟨w.heap.size + 1, o, none⟩) (show w.heap.size + 1 < _ from block_lt y0)).trans (yf o)
    replace x0 := kept hb (block_lt x0) x0
    replace x1 := kept hb (block_lt x1) x1
    replace y0 := kept hb (block_lt y0) y0
    replace y1 := kept hb (block_lt y1) y1
    replace r := Lib.hid (r.out.bel hb)
    replace bb := Lib.hid (bb.out.trans (hb.mono bb.out.size))
    rw [hv]
    clear hb
    go_wp2_with fail
    refine bodyPost_ret (v := .tuple #[.agg #[.int .i64 0, .slice none 0 0], .bool false]) (by simp [results, Try.results29, go_sem, y0, y1]) rfl ?_
    exact ⟨⟨none, 0, rfl, own_nil _ _⟩, (bb.out.setCell (by simp) _).setCell (by simp) _⟩
  rw [show flipO W xs i j = ⟨true, W, flipL xs W.toNat xs.length i.toNat j.toNat⟩ from if_pos hv]
  obtain ⟨W, i, j, rfl, rfl, rfl, hI, hi, hj, hvb⟩ := varO_im hl hv
  rw [Int.toNat_natCast, Int.toNat_natCast, Int.toNat_natCast, hl]
  have hw6 := hI.w6
  have hw1 := hI.w1
  have hn6 := hI.l6
  have hn1 := hI.l1
  obtain ⟨rk, hrk, hf0⟩ := flip_at0 hI hi hj hvb
  have hfl : (flipL xs W n i j).length = n := (flip_all hI hi hj hvb).1.hl
  have hlt := ends_lt (xs := xs) hi hj
  have heo := ends_or xs n i j
  have hends := Lib.hid (fun wx hx => ends_any W a n cap xs i j wx hx hI hi hj)
  have hpar := Lib.hid (fun wx hx => parents_any W a n cap xs _ wx hx hI hlt.1)
  have hstep := Lib.hid (fun (fu : Nat) (ys : List Int) (p : Nat) (h : FlipAt xs W n i j rk fu ys p) (hne : p ≠ fromP xs n i j) => h.step hrk hi hj hne)
  have hdone := Lib.hid (fun (fu : Nat) (ys : List Int) (h : FlipAt xs W n i j rk fu ys (fromP xs n i j)) => h.done)
  have hFim := Lib.hid (fun (fu : Nat) (ys : List Int) (p : Nat) (h : FlipAt xs W n i j rk fu ys p) => (⟨h.im, h.lt⟩ : Im W n ys ∧ p < n + W))
  obtain ⟨FA, hFA⟩ : ∃ FA : Nat → List Int → Nat → Prop, FA = FlipAt xs W n i j rk := ⟨_, rfl⟩
  rw [← hFA] at hf0 hstep hdone hFim
  clear hFA
  generalize fromP xs n i j = f at *
  generalize toP xs n i j = t at *
  generalize hPP : parP xs W n f = Q at *
  generalize flipL xs W n i j = Z at *
  obtain ⟨M, hM⟩ : ∃ M, n + W = M := ⟨_, rfl⟩
  rw [hM] at hlt hpar hFim
  have hM12 : M ≤ 12 := by omega
  replace hM := Lib.hid hM
  replace hf0 := Lib.hid hf0
  replace hPP := Lib.hid hPP
  replace hfl := Lib.hid hfl
  replace hI := Lib.hid hI
  replace heo := Lib.hid heo
  clear hrk
  go_enter Try.func29, Try.ntmps29
  go_wp2_with fail
  rw [← hW0]
  clear hW0
  refine (hvs.out _ r.out).mono ?_
  rintro e v2 ⟨rfl, hb⟩
  have szv2 := hb.size
  replace yf : ∀ o, v2.frozen? ⟨w.heap.size + 1, o, none⟩ = false := fun o => (hb.frozen (p := ⟨w.heap.size + 1, o, none⟩) (show w.heap.size + 1 < _ from block_lt y0)).trans (yf o)
  replace x0 := kept hb (block_lt x0) x0
  replace x1 := kept hb (block_lt x1) x1
  replace y0 := kept hb (block_lt y0) y0
  replace y1 := kept hb (block_lt y1) y1
  replace r := Lib.hid (r.out.bel hb)
  replace bb := Lib.hid (bb.out.trans (hb.mono bb.out.size))
  rw [hv]
  clear hb
  go_wp2_with fail
  refine (hends.out _ r.out).mono ?_
  rintro e v3 ⟨rfl, hb⟩
  have szv3 := hb.size
  replace yf : ∀ o, v3.frozen? ⟨w.heap.size + 1, o, none⟩ = false := fun o => (hb.frozen (p := ⟨w.heap.size + 1, o, none⟩) (show w.heap.size + 1 < _ from block_lt y0)).trans (yf o)
  replace x0 := kept hb (block_lt x0) x0
  replace x1 := kept hb (block_lt x1) x1
  replace y0 := kept hb (block_lt y0) y0
  replace y1 := kept hb (block_lt y1) y1
  replace r := Lib.hid (r.out.bel hb)
  replace bb := Lib.hid (bb.out.trans (hb.mono bb.out.size))
  clear hb
  go_wp2_with fail
  refine (hpar.out _ r.out).mono ?_
  rintro e v4 ⟨⟨g1, c1, rfl, ho⟩, hb⟩
  have szv4 := hb.size
  replace yf : ∀ o, v4.frozen? ⟨w.heap.size + 1, o, none⟩ = false := fun o => (hb.frozen (p := ⟨w.heap.size + 1, o, none⟩) (show w.heap.size + 1 < _ from block_lt y0)).trans (yf o)
  replace x0 := kept hb (block_lt x0) x0
  replace x1 := kept hb (block_lt x1) x1
  replace y0 := kept hb (block_lt y0) y0
  replace y1 := kept hb (block_lt y1) y1
  replace r := Lib.hid (r.out.bel hb)
  replace bb := Lib.hid (bb.out.trans (hb.mono bb.out.size))
  have og1 : w.heap.size + 2 ≤ g1 := by have h1 : _ ≤ g1 := (rng_own ho _ rfl).1; omega
  have qr := Lib.hid ho.row
  have lq : g1 < v4.heap.size := (rng_own ho _ rfl).2
  clear ho
  clear hb
  obtain ⟨b, off, rfl, hrc⟩ := r.out.2.resolve_left (by omega)
  go_wp2_with fail
  refine (copy_spec (W : Int) b off n cap xs _ hl hrc (by omega) (by omega)).mono ?_
  rintro e v5 ⟨⟨ac, c2, rfl, ho⟩, hb⟩
  have szv5 := hb.size
  replace yf : ∀ o, v5.frozen? ⟨w.heap.size + 1, o, none⟩ = false := fun o => (hb.frozen (p := ⟨w.heap.size + 1, o, none⟩) (show w.heap.size + 1 < _ from block_lt y0)).trans (yf o)
  replace x0 := kept hb (block_lt x0) x0
  replace x1 := kept hb (block_lt x1) x1
  replace y0 := kept hb (block_lt y0) y0
  replace y1 := kept hb (block_lt y1) y1
  replace r := Lib.hid (r.out.bel hb)
  replace qr := Lib.hid (qr.out.bel hb)
  replace bb := Lib.hid (bb.out.trans (hb.mono bb.out.size))
  clear hrc
  obtain ⟨g2, rfl, og2, og3⟩ : ∃ g, ac = some ⟨g, 0, none⟩ ∧ v4.heap.size ≤ g ∧ g < v5.heap.size := by
    rcases ho.cases with ⟨_, h, _⟩ | ⟨g, h1, h2, h3⟩
    · omega
    · exact ⟨g, h1, h2, h3⟩
  replace ho := Lib.hid (OwnI.mono ho (B' := w.heap.size + 2) (by omega))
  clear hb
  obtain ⟨B, hB⟩ : ∃ B, v5.heap.size = B := ⟨_, rfl⟩
  obtain ⟨U0, hU0⟩ : ∃ U0, v5.alloc (.cells #[.int .i64 W, .slice (some ⟨g2, 0, none⟩) n c2] 25) = U0 := ⟨_, rfl⟩
  have hb : Below v5.heap.size v5 U0 := by rw [← hU0]; exact (Below.refl _ _).alloc (Nat.le_refl _) _
  have o0 : U0.cell? ⟨B, 0, none⟩ = some (.int .i64 W) := by rw [← hU0, ← hB]; simp
  have o1 : U0.cell? ⟨B, 1, none⟩ = some (.slice (some ⟨g2, 0, none⟩) n c2) := by rw [← hU0, ← hB]; simp
  have szU0 := hb.size
  replace yf : ∀ o, U0.frozen? ⟨w.heap.size + 1, o, none⟩ = false := fun o => (hb.frozen (p := ⟨w.heap.size + 1, o, none⟩) (show w.heap.size + 1 < _ from block_lt y0)).trans (yf o)
  replace x0 := kept hb (block_lt x0) x0
  replace x1 := kept hb (block_lt x1) x1
  replace y0 := kept hb (block_lt y0) y0
  replace y1 := kept hb (block_lt y1) y1
  replace r := Lib.hid (r.out.bel hb)
  replace qr := Lib.hid (qr.out.bel hb)
  replace ho := Lib.hid (ho.out.bel hb)
  replace bb := Lib.hid (bb.out.trans (hb.mono bb.out.size))
  clear hb
  have hgB : g2 < B := by omega
  have hgq : g1 ≠ g2 := by omega
  have hg2w : w.heap.size + 2 ≤ g2 := by omega
  go_upto_region 6 with fail
  (try rw [hU0])
  (try rw [hB])
  have lB : B < U0.heap.size := block_lt o0
  clear hU0 szU0
  have hpq : f = i ∧ t = n + j ∨ t = i ∧ f = n + j := by rcases heo.out with h | h; exact .inl h; exact .inr ⟨h.2, h.1⟩
  go_wp2_with fail
  refine (tog_spec W _ g2 n c2 xs f t i j _ ho.out hI.out hpq hi hj).mono ?_
  rintro e V0 ⟨rfl, hG, hO⟩
  have z : w.heap.size + 1 < g2 := by omega
  have lz : w.heap.size + 1 < U0.heap.size := block_lt y0
  have h0 := hf0.out
  replace hG := Lib.hid hG
  replace hO := Lib.hid hO
  clear ho hpq
  go_wp2_with fail
  go_loopw [12] (fun v wr => ∃ (p fu : Nat) (ys : List Int), v = .int .i64 p ∧ Hid (FA fu ys p) ∧ Hid (U0.grownBy wr (some g2)) ∧ Hid (OwnI wr (w.heap.size + 2) (some ⟨g2, 0, none⟩) n c2 ys)) (fun v _ => rk (intOf v).toNat)
  case atStart => exact ⟨t, _, _, rfl, hf0, hG, hO⟩
  case round =>
    clear hf0 h0 hG hO
    obtain ⟨p, fu, ys, rfl, hFA, hG, hO⟩ := hrel
    obtain ⟨wo, rfl⟩ : ∃ wo : World, wo = wr := ⟨_, rfl⟩
    have q0 := hG.out.cell o0 (by simp; omega)
    have q1 := hG.out.cell o1 (by simp; omega)
    have rq := qr.out.apart hG.out (fun b off e hn => by cases e; simp; omega)
    by_cases hpf : p = f
    case pos =>
      subst hpf
      have hd := hdone.out _ _ hFA.out
      have u0 := hG.out.cell y0 (by simp; omega)
      have u1 := hG.out.cell y1 (by simp; omega)
      have uf : ∀ o, wo.frozen? ⟨w.heap.size + 1, o, none⟩ = false := fun o => (World.frozen?_of_block (a := ⟨w.heap.size + 1, o, none⟩) (hG.out.block (w.heap.size + 1) (by omega) (by simp; omega))).trans (yf o)
      have bG : Below w.heap.size w wo := bb.out.trans ((grown_below hG.out).mono (by omega))
      replace bG := Lib.hid bG
      rw [← hd] at hO
      clear hd rq
      go_wp2_with fail
      refine bodyPost_ret (v := .tuple #[.agg #[.int .i64 W, .slice (some ⟨g2, 0, none⟩) n c2], .bool true]) (by simp [results, Try.results29, go_sem, u0, u1]) rfl ?_
      refine ⟨⟨some ⟨g2, 0, none⟩, c2, by rw [hfl.out], ?_⟩, (bG.out.setCell (by simp) _).setCell (by simp) _⟩
      rw [show (Out.mk true (W : Int) Z).xs.length = n from hfl.out]
      exact ((hO.out.store (show w.heap.size + 1 < w.heap.size + 2 by omega) _).store (show w.heap.size + 1 < w.heap.size + 2 by omega) _).mono (by omega)
    have hFi := hFim.out _ _ _ hFA.out
    obtain ⟨q, g, k, l, eq, _, hrk, hkl, hk, hll, hn⟩ := hstep.out _ _ _ hFA.out hpf
    obtain ⟨gq, oq, e, cq⟩ := row_at rq hFi.2
    cases e
    rw [eq, Nat.zero_add] at cq
    have e1 : ((p : Int) == (f : Int)) = false := by rw [beq_eq_false_iff_ne]; omega
    have e2 : ((p : Int) != (f : Int)) = true := by rw [bne_iff_ne]; omega
    have hkl2 : q = k ∧ p = n + l ∨ p = k ∧ q = n + l := hkl
    have hs := hO.out.bel ((Below.refl _ _).drew)
    obtain ⟨W2, hW2⟩ : ∃ W2, wo.drew = W2 := ⟨_, rfl⟩
    rw [hW2] at hs
    have hb2 : Below wo.heap.size wo W2 := by rw [← hW2]; exact (Below.refl _ _).drew
    replace q0 := kept hb2 (block_lt q0) q0
    replace q1 := kept hb2 (block_lt q1) q1
    have cq2 := kept hb2 (block_lt cq) cq
    have hG2 := Lib.hid (grown_trans hG.out (below_grown hb2 (some g2)))
    have hpp := hFi.2
    replace hFi := Lib.hid hFi
    replace hkl := Lib.hid hkl
    replace hn := Lib.hid hn
    replace hs := Lib.hid hs
    clear hG hO rq hFA hb2 hkl2
    go_wp2_with fail
    refine region_tail 6 (by kernel_rfl) (by kernel_rfl) W2 hW2 ?_
    simp only [List.take_succ_cons, List.take_zero, List.drop_succ_cons, List.drop_zero]
    clear hW2 cq
    repeat still_step
    refine wpStill_nil ?_
    go_wp2_with fail
    refine (tog_spec W _ g2 n c2 ys q p k l _ hs.out hFi.out.1 hkl.out hk hll).mono ?_
    rintro e V1 ⟨rfl, hG3, hO3⟩
    have cq3 := hG3.cell cq2 (by simp; omega)
    have hG4 := Lib.hid (grown_trans hG2.out hG3)
    replace hO3 := Lib.hid hO3
    clear hG3 hG2 hs cq2 q0 q1
    go_wp2_with fail
    exact ⟨⟨q, _, _, rfl, hn, hG4, hO3⟩, by simpa [intOf] using hrk⟩
end Go.Proofs.Ytkpbfhohcffilaa
