/-
  All images of a size, one by one, and those with the same sums: plain facts, and the contract of the laws' smallSame.
-/
import Derived.Test.YtnfkafaolelkbaaMo
import Derived.Test.YtnfkafaolelkbaaSh
import Derived.Test.YtnfkafaolelkbaaMa
import Derived.Test.YtnfkafaolelkbaaWl
import Derived.Test.YtnfkafaolelkbaaEp
import Derived.Test.YtnfkafaolelkbaaK
import Derived.Test.YtnfkafaolelkbaaA
namespace Go.Proofs.Ytnfkafaolelkbaa
set_option maxRecDepth 100000
open Go.RowKit

/-- Those with the same sums, among the first ones. -/
def smallL (xs : List Int) (W n : Nat) : Nat → List (List Int)
  | 0 => []
  | K + 1 => smallL xs W n K ++ if sameB W xs W (digL W n K) = true then [digL W n K] else []
theorem small_mem {xs L : List Int} {W n : Nat} : ∀ {K : Nat}, L ∈ smallL xs W n K ↔ ∃ x : Nat, x < K ∧ L = digL W n x ∧ sameB W xs W L = true
  | 0 => by simp [smallL]
  | K + 1 => by
    rw [smallL, List.mem_append, small_mem]
    constructor
    · rintro (⟨x, hx, e, hs⟩ | h)
      · exact ⟨x, by omega, e, hs⟩
      · by_cases e : sameB W xs W (digL W n K) = true
        · rw [if_pos e, List.mem_singleton] at h; subst h; exact ⟨K, by omega, rfl, e⟩
        · rw [if_neg e] at h; cases h
    · rintro ⟨x, hx, rfl, hs⟩
      by_cases e : x = K
      · subst e; right; rw [if_pos hs]; simp
      · exact .inl ⟨x, by omega, rfl, hs⟩
theorem small_le (xs : List Int) (W n : Nat) : ∀ K, (smallL xs W n K).length ≤ K
  | 0 => by simp [smallL]
  | K + 1 => by
    have := small_le xs W n K
    rw [smallL, List.length_append]
    by_cases e : sameB W xs W (digL W n K) = true
    · rw [if_pos e]; simp; omega
    · rw [if_neg e]; simp; omega
/-- A cell is variable just if one of them is different in it. -/
theorem small_any {W n : Nat} {xs : List Int} (h : Im W n xs) {i j : Nat} (hi : i < n) (hj : j < W) : (smallL xs W n (pw (n * W)).toNat).any (fun L => cellOf L i j != cellOf xs i j) = varB xs W n i j := by
  rw [Bool.eq_iff_iff, List.any_eq_true, var_ex h hi hj]
  constructor
  · rintro ⟨L, hL, hne⟩
    obtain ⟨x, hx, rfl, hs⟩ := small_mem.1 hL
    have hI := dig_im h.w1 h.w6 h.l1 h.l6 (x : Int)
    obtain ⟨K, eK, _, _, _, _, hse⟩ := same_im h.hl hI.hl hs
    obtain rfl : W = K := by omega
    exact ⟨_, hI, hse, by simpa using hne⟩
  · rintro ⟨ys, hy, hs, hne⟩
    have hd := dig_num hy
    obtain ⟨x, hx⟩ := Int.eq_ofNat_of_zero_le hd.1
    rw [hx] at hd
    exact ⟨ys, small_mem.2 ⟨x, by omega, hd.2.2.symm, h.same hy hs.1 hs.2⟩, by simpa using hne⟩
/-- A list of images that can be read. -/
def IRow (w : World) (g cnt W n : Nat) (Ls : List (List Int)) : Prop := Ls.length = cnt ∧ ∀ q (h : q < Ls.length), ∃ b, w.cell? ⟨g, q * 2, none⟩ = some (.int .i64 W) ∧ w.cell? ⟨g, q * 2 + 1, none⟩ = some (.slice (some ⟨b, 0, none⟩) n n) ∧ Row w (some ⟨b, 0, none⟩) n Ls[q]
theorem IRow.bel {w w' : World} {g cnt W n : Nat} {Ls : List (List Int)} (h : IRow w g cnt W n Ls) (hb : Below w.heap.size w w') : IRow w' g cnt W n Ls :=
  ⟨h.1, fun q hq => by
    obtain ⟨b, h1, h2, h3⟩ := h.2 q hq
    exact ⟨b, kept hb (block_lt h1) h1, kept hb (block_lt h2) h2, h3.bel hb⟩⟩
/-- The same while the list is made: it is the call's own. -/
structure SmallAt (B : Nat) (wr : World) (g cnt c W n : Nat) (Ls : List (List Int)) : Prop where
  len : Ls.length = cnt
  own : ∃ vals, wr.ownsRow B 30 2 (.slice (some ⟨g, 0, none⟩) cnt c) cnt vals ∧ ∀ q (h : q < Ls.length), ∃ b, vals[q * 2]? = some (.int .i64 W) ∧ vals[q * 2 + 1]? = some (.slice (some ⟨b, 0, none⟩) n n) ∧ b ≠ g ∧ Row wr (some ⟨b, 0, none⟩) n Ls[q]
  far : B ≤ g ∧ g < wr.heap.size
variable {B g cnt c W n : Nat} {wr w1 : World} {Ls : List (List Int)}
theorem SmallAt.read (h : SmallAt B wr g cnt c W n Ls) : IRow wr g cnt W n Ls := by
  obtain ⟨vals, ho, hv⟩ := h.own
  refine ⟨h.len, fun q hq => ?_⟩
  obtain ⟨b, h1, h2, _, h4⟩ := hv q hq
  have := h.len
  exact ⟨b, by rw [World.ownsRow.cellAt ho _ (by omega), h1], by rw [World.ownsRow.cellAt ho _ (by omega), h2], h4⟩
theorem SmallAt.grown (h : SmallAt B wr g cnt c W n Ls) {r : Nat} (hg : wr.grownBy w1 (some r)) (hr : wr.heap.size ≤ r) : SmallAt B w1 g cnt c W n Ls := by
  obtain ⟨vals, ho, hv⟩ := h.own
  have hf := h.far
  refine ⟨h.len, ⟨vals, World.ownsRow.kept ho hg (.inr (by simp [Value.ownBlock]; omega)), fun q hq => ?_⟩, ⟨hf.1, by have := hg.size; omega⟩⟩
  obtain ⟨b, h1, h2, h3, h4⟩ := hv q hq
  exact ⟨b, h1, h2, h3, h4.apart hg (fun b' off e hn => by have := row_lt h4 b' off e hn; simp; omega)⟩
theorem SmallAt.bel (h : SmallAt B wr g cnt c W n Ls) (hb : Below wr.heap.size wr w1) : SmallAt B w1 g cnt c W n Ls := by
  obtain ⟨vals, ho, hv⟩ := h.own
  have hf := h.far
  refine ⟨h.len, ⟨vals, World.ownsRow.kept ho (below_grown hb none) (.inr (by simp [Value.ownBlock])), fun q hq => ?_⟩, ⟨hf.1, by have := hb.size; omega⟩⟩
  obtain ⟨b, h1, h2, h3, h4⟩ := hv q hq
  exact ⟨b, h1, h2, h3, h4.bel hb⟩
theorem infoImg : (Try.prog.info? 30).map (fun i => (i.zero, i.size, i.bytes)) = some (some (.agg #[.int .i64 0, .slice none 0 0]), 2, 32) := by kernel_rfl
/-- An image is appended. -/
theorem wpList_append_img {w : World} {ops : Array Oper} {rest : List Oper} {o : Oper} {a : Act} {Q : Exit → Act → World → Prop} (hgd : o.guard = none) (s x : Operand)
    (ho : o.op = .call { callee := .builtin .append, args := #[s, x], argTypes := #[37, 37] })
    (hs : a.eval s = .slice (some ⟨g, 0, none⟩) cnt c) (hS : SmallAt B w g cnt c W n Ls)
    (k : Nat) (hx : a.eval x = .slice (some ⟨k, 0, none⟩) 1 1) (b : Nat) (L : List Int) (c0 : w.cell? ⟨k, 0, none⟩ = some (.int .i64 W)) (c1 : w.cell? ⟨k, 1, none⟩ = some (.slice (some ⟨b, 0, none⟩) n n)) (hL : Row w (some ⟨b, 0, none⟩) n L) (hbg : b ≠ g) (hn1 : 1 ≤ n) (hN : cnt ≤ 1048576)
    (h : ∀ g' c' w', SmallAt B w' g' (cnt + 1) c' W n (Ls ++ [L]) → w.grownBy w' (some g) → wpList Try.prog ops Q rest (a.put o.dst (.slice (some ⟨g', 0, none⟩) (cnt + 1) c')) w') :
    wpList Try.prog ops Q (o :: rest) a w := by
  obtain ⟨i0, hi, hz0, hz1, hz2⟩ := info_parts infoImg
  obtain ⟨vals, hown, hv⟩ := hS.own
  have hf := hS.far
  have hlen := hS.len
  have hvl : vals.length = cnt * 2 := hown.1
  have hbw : b < w.heap.size := row_lt hL b 0 rfl (by omega)
  refine wpList_append_lies hgd s x 37 ho B 30 i0 (.agg #[.int .i64 0, .slice none 0 0]) 2 32 Try.underlying37 hi hz0 hz1 hz2 rfl (by decide) _ cnt vals hs hown
    ⟨k, 0, none⟩ 1 1 [.int .i64 W, .slice (some ⟨b, 0, none⟩) n n] hx rfl (fun j u hj => ?_) (fun u hu => ?_) (by omega) (by unfold maxLen; omega) (by omega) (by omega) fun g' c' w' h2 h3 h4 => h g' c' w' ?_ ?_
  · match j, hj with
    | 0, hj => simp at hj; subst hj; simpa [Addr.add] using c0
    | 1, hj => simp at hj; subst hj; simpa [Addr.add] using c1
  · simp at hu
    rcases hu with rfl | rfl <;> rfl
  · have hg' : (g' = g ∨ g' = w.heap.size) := by
      rcases h4 with h | h
      · left; simp [Value.ownBlock] at h; exact h.symm
      · exact .inr h
    have hrg : B ≤ g' ∧ g' < w'.heap.size := by
      rcases h2.2 with ⟨e, _⟩ | ⟨q, cc, cur, e, hB, hh, _⟩
      · cases e
      · cases e; exact ⟨hB, (Array.getElem?_eq_some_iff.1 hh).1⟩
    have keep : ∀ {b' : Nat} {M : List Int}, b' ≠ g → Row w (some ⟨b', 0, none⟩) n M → b' ≠ g' ∧ Row w' (some ⟨b', 0, none⟩) n M := fun {b' M} hne hr => by
      have hlt := row_lt hr b' 0 rfl (by omega)
      exact ⟨by rcases hg' with h | h <;> omega, hr.apart h3 (fun b2 off e hn => by cases e; simpa [Value.ownBlock] using hne)⟩
    refine ⟨by rw [List.length_append, hlen]; rfl, ⟨_, h2, fun q hq => ?_⟩, hrg⟩
    rw [List.length_append, List.length_singleton] at hq
    by_cases e : q < Ls.length
    · obtain ⟨b', e1, e2, e3, e4⟩ := hv q e
      have hk := keep e3 e4
      refine ⟨b', by rw [List.getElem?_append_left (by omega)]; exact e1, by rw [List.getElem?_append_left (by omega)]; exact e2, hk.1, ?_⟩
      rw [List.getElem_append_left e]; exact hk.2
    · obtain rfl : q = Ls.length := by omega
      have hk := keep hbg hL
      refine ⟨b, by rw [List.getElem?_append_right (by omega), hvl, hlen]; simp, by rw [List.getElem?_append_right (by omega), hvl, hlen, show cnt * 2 + 1 - cnt * 2 = 1 by omega]; simp, hk.1, ?_⟩
      rw [List.getElem_append_right (Nat.le_refl _)]; simpa using hk.2
  · exact h3
theorem mkimg1 (w1 : World) (Wb : Int) {n : Nat} (hn : n ≤ 1048576) :
    ∃ U0 g k2, U0 = ((w1.alloc (.cells (madeCells #[.int .i64 0] n) 3)).alloc (.cells #[.int .i64 Wb, .slice (some ⟨w1.heap.size, 0, none⟩) n n] 30)).drew ∧ g = w1.heap.size ∧ k2 = w1.heap.size + 1 ∧ Below w1.heap.size w1 U0 ∧ U0.cell? ⟨k2, 0, none⟩ = some (.int .i64 Wb) ∧ U0.cell? ⟨k2, 1, none⟩ = some (.slice (some ⟨g, 0, none⟩) n n) ∧ OwnI U0 w1.heap.size (some ⟨g, 0, none⟩) n n (List.replicate n 0) ∧ k2 ≠ g ∧ w1.heap.size ≤ g :=
  ⟨_, _, _, rfl, rfl, rfl, (((Below.refl _ _).alloc (Nat.le_refl _) _).alloc (by simp) _).drew, by go_simp, by go_simp, (made_own w1 _ n (Nat.le_refl _) hn).bel (((Below.refl _ _).alloc (Nat.le_refl _) _).drew), by omega, Nat.le_refl _⟩
theorem mkimg2 (w1 : World) (Wb : Int) {n : Nat} (hn : n ≤ 1048576) :
    ∃ U0 g k2, U0 = ((w1.alloc (.cells #[.int .i64 Wb, .slice (some ⟨w1.heap.size + 1, 0, none⟩) n n] 30)).alloc (.cells (madeCells #[.int .i64 0] n) 3)).drew ∧ g = w1.heap.size + 1 ∧ k2 = w1.heap.size ∧ Below w1.heap.size w1 U0 ∧ U0.cell? ⟨k2, 0, none⟩ = some (.int .i64 Wb) ∧ U0.cell? ⟨k2, 1, none⟩ = some (.slice (some ⟨g, 0, none⟩) n n) ∧ OwnI U0 w1.heap.size (some ⟨g, 0, none⟩) n n (List.replicate n 0) ∧ k2 ≠ g ∧ w1.heap.size ≤ g := by
  have ho := made_own (w1.alloc (.cells #[.int .i64 Wb, .slice (some ⟨w1.heap.size + 1, 0, none⟩) n n] 30)) w1.heap.size n (by simp) hn
  exact ⟨_, _, _, rfl, rfl, rfl, (((Below.refl _ _).alloc (Nat.le_refl _) _).alloc (by simp) _).drew, by go_simp, by go_simp, by simpa using ho.bel ((Below.refl _ _).drew), by omega, by omega⟩

set_option maxHeartbeats 8000000 in
theorem small_any_laws (W : Nat) (a : Option Addr) (n cap : Nat) (xs : List Int) (w : World) (h : Row w a n xs) (hv : Im W n xs) (h9 : n * W ≤ 9) :
    Calls Try.prog 31 #[.agg #[.int .i64 W, .slice a n cap]] w fun e w' => (∃ g c, e = .returned (.slice (some ⟨g, 0, none⟩) (smallL xs W n (pw (n * W)).toNat).length c) ∧ IRow w' g (smallL xs W n (pw (n * W)).toNat).length W n (smallL xs W n (pw (n * W)).toNat)) ∧ Below w.heap.size w w' := by
  have hw6 := hv.w6
  have hn6 := hv.l6
  have hw1 := hv.w1
  have hn1 := hv.l1
  obtain ⟨N, hN⟩ : ∃ N, n * W = N := ⟨_, rfl⟩
  rw [hN] at h9 ⊢
  have ek : (n : Int) * (W : Int) = (N : Int) := by rw [← hN, Int.natCast_mul]
  have ewN64 : wrap64 (N : Int) = (N : Int) := IntWalk.wrap64_in _ ⟨by omega, by omega⟩
  have h512 : pw 9 = 512 := by decide
  have hle9 := pw_le N 9 h9
  have hpN : 1 ≤ pw N ∧ pw N ≤ 512 := ⟨pw_pos N, by omega⟩
  obtain ⟨P, hP⟩ := Int.eq_ofNat_of_zero_le (by omega : 0 ≤ pw N)
  have hPt : (pw N).toNat = P := by omega
  rw [hPt]
  have hP512 : P ≤ 512 := by omega
  clear hPt h512 hle9 hpN
  replace hP := Lib.hid hP
  have hle := Lib.hid (fun K => small_le xs W n K)
  have hdm := Lib.hid (fun x => dig_im hw1 hw6 hn1 hn6 x)
  replace hN := Lib.hid hN
  replace ek := Lib.hid ek
  replace ewN64 := Lib.hid ewN64
  replace hv := Lib.hid hv
  obtain ⟨W0, hW0⟩ : ∃ W0, W0 = (w.alloc (.cells #[.int .i64 W, .slice a n cap] 30)) := ⟨_, rfl⟩
  have bb : Hid (Below w.heap.size w W0) := by subst hW0; exact (Below.refl _ _).alloc (Nat.le_refl _) _
  have x0 : W0.cell? ⟨w.heap.size, 0, none⟩ = some (.int .i64 W) := by subst hW0; go_simp
  have x1 : W0.cell? ⟨w.heap.size, 1, none⟩ = some (.slice a n cap) := by subst hW0; go_simp
  have r := Lib.hid (h.bel bb.out)
  clear h
  go_enter Try.func31, Try.ntmps31
  go_upto_region 1 with fail
  rw [← hW0]
  clear hW0
  have hS0 : Hid (SmallAt W0.heap.size (W0.alloc (.cells #[] 30)) W0.heap.size (smallL xs W n 0).length 0 W n (smallL xs W n 0)) := by
    refine ⟨rfl, ⟨[], ?_, fun q hq => by simp [smallL] at hq⟩, Nat.le_refl _, by simp⟩
    exact World.ownsRow_lit (base := W0.heap.size) (e := 30) (size := 2) W0 #[] 0 (Nat.le_refl _) (by decide) rfl
  have hb0 : Hid (Below W0.heap.size W0 (W0.alloc (.cells #[] 30))) := (Below.refl _ _).alloc (Nat.le_refl _) _
  have bz := bb.out.size
  have l0 : w.heap.size < W0.heap.size := block_lt x0
  go_upto_region 4 with fail
  go_loopw [3, 5] (fun o v wr => ∃ (K g c : Nat), K ≤ P ∧ v = .int .i64 K ∧ o = .slice (some ⟨g, 0, none⟩) (smallL xs W n K).length c ∧ Hid (SmallAt W0.heap.size wr g (smallL xs W n K).length c W n (smallL xs W n K)) ∧ Hid (Below W0.heap.size W0 wr)) (fun _ v _ => P - (intOf v).toNat)
  case atStart => exact ⟨0, _, 0, Nat.zero_le _, rfl, rfl, hS0, hb0⟩
  case round =>
    clear hS0 hb0
    obtain ⟨K, g, c, hK, rfl, rfl, hS, hB⟩ := hrel
    obtain ⟨wo, rfl⟩ : ∃ wo : World, wo = wr := ⟨_, rfl⟩
    have z0 := kept hB.out (block_lt x0) x0
    have z1 := kept hB.out (block_lt x1) x1
    have hcl := hle.out K
    obtain ⟨cnt, hcnt⟩ : ∃ cnt, (smallL xs W n K).length = cnt := ⟨_, rfl⟩
    rw [hcnt] at hS hcl ⊢
    replace hcnt := Lib.hid hcnt
    go_wp2_with fail
    rw [ek.out, ewN64.out]
    refine (pow2_any N _ (by omega)).mono ?_
    rintro e w1 ⟨rfl, rfl⟩
    rw [hP.out]
    by_cases hlt : K < P
    case neg =>
      obtain rfl : P = K := by omega
      go_wp2_with fail
      go_ret
      exact ⟨⟨g, c, by rw [hcnt.out]; rfl, by rw [hcnt.out]; exact hS.out.read⟩, bb.out.trans (hB.out.mono bz)⟩
    have hmk := fun wx => run_make_row' (P := Try.prog) 23 3 (.int .i64 0) 8 Try.underlying23 infoInt rfl .i64 .i64 n (by omega) (by omega) wx
    go_upto_region 6 with fail
    have M1 := Lib.hid (mkimg1 wo (W : Int) (n := n) (by omega))
    have M2 := Lib.hid (mkimg2 wo (W : Int) (n := n) (by omega))
    go_region_held3 (fun W' => W'.cell? ⟨w.heap.size, 0, none⟩ = some (.int .i64 W) ∧ W'.cell? ⟨w.heap.size, 1, none⟩ = some (.slice a n cap))
      (first | go_keep) (fail)
    · go_wp2_with fail
      obtain ⟨U0, g2, k2, eU, eg, ekk, hbU, b0, b1, oz, hne, hge⟩ := M1.out
      rw [← eU, ← ekk, ← eg]
      clear M1 M2 eU eg ekk hmk z0 z1
      have lg2 : g2 < U0.heap.size := (rng_own oz _ rfl).2
      have hB2 : Below W0.heap.size W0 U0 := hB.out.trans (hbU.mono hB.out.size)
      have z0 := kept hB2 (block_lt x0) x0
      have z1 := kept hB2 (block_lt x1) x1
      have lw0 : w.heap.size < W0.heap.size := block_lt x0
      have lwo := hB.out.size
      have hG0 : Hid (wo.grownBy U0 (some g2)) := below_grown hbU _
      have hO0 := Lib.hid (show OwnI U0 wo.heap.size (some ⟨g2, 0, none⟩) n n (rowsL (digK W K 0) n) by rw [digk_none]; exact oz)
      replace hB2 := Lib.hid hB2
      clear oz hbU
      go_upto_region 8 with fail
      go_loopw [7] (fun v wr => ∃ i : Nat, i ≤ n ∧ v = .int .i64 i ∧ Hid (U0.grownBy wr (some g2)) ∧ Hid (OwnI wr wo.heap.size (some ⟨g2, 0, none⟩) n n (rowsL (digK W K i) n))) (fun v _ => n - (intOf v).toNat)
      case atStart => exact ⟨0, Nat.zero_le _, rfl, World.grownBy.refl _ _, hO0⟩
      case round =>
        clear hO0
        obtain ⟨i, hi, rfl, hG, hO⟩ := hrel
        obtain ⟨wi, rfl⟩ : ∃ wi : World, wi = wr := ⟨_, rfl⟩
        have q0 := hG.out.cell b0 (by simpa using hne)
        have q1 := hG.out.cell b1 (by simpa using hne)
        have y0 := hG.out.cell z0 (by simp; omega)
        have y1 := hG.out.cell z1 (by simp; omega)
        by_cases hli : i < n
        case pos =>
          obtain ⟨m, hm⟩ : ∃ m, i * W = m := ⟨_, rfl⟩
          have em : (i : Int) * (W : Int) = (m : Int) := by rw [← hm, Int.natCast_mul]
          have hm9 : m ≤ 9 := by have h1 := Nat.mul_le_mul_right W (Nat.le_of_lt hli); have h2 := hN.out; omega
          have hm90 : -9223372036854775808 ≤ (m : Int) ∧ (m : Int) ≤ 9223372036854775807 := by omega
          have hN2 := hN.out
          clear hN2
          have hfacts : ∃ Pm PW Q D : Int, pw m = Pm ∧ pw W = PW ∧ 1 ≤ Pm ∧ 1 ≤ PW ∧ PW ≤ 64 ∧ (K : Int).tdiv Pm = Q ∧ (K : Int) / Pm = Q ∧ 0 ≤ Q ∧ Q ≤ 512 ∧ Q.tmod PW = D ∧ Q % PW = D ∧ digI W (K : Int) i = D ∧ 0 ≤ D ∧ D ≤ 63 := by
            have d0 : 0 ≤ (K : Int) / pw m := Int.ediv_nonneg (by omega) (by have := pw_pos m; omega)
            have d1 : (K : Int) / pw m ≤ (K : Int) := Int.ediv_le_self _ (by omega)
            have hdb := dig_bd W (K : Int) i
            have hw64 := pw_63 hw6
            refine ⟨pw m, pw W, (K : Int) / pw m, digI W (K : Int) i, rfl, rfl, pw_pos m, pw_pos W, hw64, Int.tdiv_eq_ediv_of_nonneg (by omega), rfl, d0, by omega, ?_, ?_, rfl, hdb.1, by omega⟩
            · rw [Int.tmod_eq_emod_of_nonneg d0]; unfold digI; rw [hm]
            · unfold digI; rw [hm]
          obtain ⟨Pm, PW, Q, D, hPm, hPW, p1m, p1W, pW64, ht1, ht0, hQ0, hQ5, ht2, ht3, hD, hD0, hD6⟩ := hfacts
          have p1 := fun wx => pow2_any m wx (by omega)
          have p2 := fun wx => pow2_any W wx (by omega)
          rw [hPm] at p1
          rw [hPW] at p2
          clear p1 p2
          have hs := (hO.out.bel ((Below.refl _ _).drew)).set i (digI W (K : Int) i)
          rw [digk_set (K : Int) hli, hD] at hs
          replace hPm := Lib.hid hPm
          replace hPW := Lib.hid hPW
          replace hD := Lib.hid hD
          replace hm := Lib.hid hm
          have hnz1 : ¬ Pm = 0 := by omega
          have hnz2 : ¬ PW = 0 := by omega
          have hnb1 : (Pm == 0) = false := by rw [beq_eq_false_iff_ne]; exact hnz1
          have hnb2 : (PW == 0) = false := by rw [beq_eq_false_iff_ne]; exact hnz2
          have hwQ : IntKind.i64.wrap Q = Q := IntWalk.i64_in _ ⟨by omega, by omega⟩
          have hwD : IntKind.i64.wrap D = D := IntWalk.i64_in _ ⟨by omega, by omega⟩
          obtain ⟨W2, hW2⟩ : ∃ W2, wi.drew = W2 := ⟨_, rfl⟩
          rw [hW2] at hs
          have hb2 : Below wi.heap.size wi W2 := by rw [← hW2]; exact (Below.refl _ _).drew
          replace q0 := kept hb2 (block_lt q0) q0
          replace q1 := kept hb2 (block_lt q1) q1
          replace y0 := kept hb2 (block_lt y0) y0
          replace y1 := kept hb2 (block_lt y1) y1
          have hc := own_cell (hO.out.bel hb2) hli
          have hf := (hO.out.bel hb2).frozen
          have hG4 := Lib.hid (grown_set (j := i) (v := .int .i64 D) (grown_trans hG.out (below_grown hb2 (some g2))))
          replace hs := Lib.hid hs
          generalize (rowsL (digK W (K : Int) i) n).getD i 0 = cc at hc
          clear hG hO hb2
          have ewm : wrap64 (m : Int) = (m : Int) := IntWalk.wrap64_in _ hm90
          have ewm2 : IntKind.i64.wrap (m : Int) = (m : Int) := IntWalk.i64_in _ hm90
          go_wp2_with fail
          refine region_tail 15 (by kernel_rfl) (by kernel_rfl) W2 hW2 ?_
          simp only [List.take_succ_cons, List.take_zero, List.drop_succ_cons, List.drop_zero]
          clear hW2
          have gPm := hPm.out
          have gPW := hPW.out
          have hm30 : m ≤ 30 := Nat.le_trans hm9 (by decide)
          have hW30 : W ≤ 30 := Nat.le_trans hw6 (by decide)
          repeat (first | still_step | still_call (st (pow2_any _ _ (by assumption))))
          refine wpStill_nil ?_
          go_wp2_with fail
          exact ⟨⟨i + 1, by omega, by go_num, hG4, hs⟩, by simp [intOf]; omega⟩
        obtain rfl : n = i := by omega
        rw [digk_all] at hO
        have hGo : Hid (wo.grownBy wi (some g2)) := grown_trans hG0.out hG.out
        have hS2 := Lib.hid (hS.out.grown hGo.out hge)
        have hBi := Lib.hid (hB.out.grown hGo.out lwo (fun k hk => by cases hk; omega))
        have rI := Lib.hid (r.out.bel hBi.out)
        have rL := Lib.hid hO.out.row
        have hgw : g2 ≠ g := by have := hS.out.far; omega
        obtain ⟨sb, hsb⟩ : ∃ b, sameB W xs W (digL W n K) = b := ⟨_, rfl⟩
        have hnx : smallL xs W n (K + 1) = smallL xs W n K ++ if sameB W xs W (digL W n K) = true then [digL W n K] else [] := rfl
        rw [hsb] at hnx
        generalize digL W n (K : Int) = L at *
        replace hsb := Lib.hid hsb
        clear hG hO hS hB hGo hG0 hB2 z0 z1 b0 b1
        go_wp2_with fail
        refine (same_impl (W : Int) W a (some ⟨g2, 0, none⟩) n n cap n xs L _ rI.out rL.out (by omega) (by omega)).mono ?_
        rintro e w5 ⟨rfl, hb⟩
        rw [hsb.out]
        replace q0 := kept hb (block_lt q0) q0
        replace q1 := kept hb (block_lt q1) q1
        replace hS2 := Lib.hid (hS2.out.bel hb)
        replace hBi := Lib.hid (hBi.out.trans (hb.mono hBi.out.size))
        replace rL := Lib.hid (rL.out.bel hb)
        clear hb y0 y1 rI
        cases sb with
        | false =>
          have hnx2 : smallL xs W n (K + 1) = smallL xs W n K := by rw [hnx, if_neg (by simp), List.append_nil]
          replace hnx2 := Lib.hid hnx2
          clear hnx
          go_wp2_with fail
          refine ⟨⟨K + 1, g, c, by omega, by go_num, ?_, ?_, hBi⟩, by simp [intOf]; omega⟩
          · rw [hnx2.out, hcnt.out]
          · rw [hnx2.out, hcnt.out]; exact hS2
        | true =>
          have hnx2 : smallL xs W n (K + 1) = smallL xs W n K ++ [L] := by rw [hnx, if_pos rfl]
          replace hnx2 := Lib.hid hnx2
          clear hnx
          have lz := hBi.out.size
          have hal : Below w5.heap.size w5 (w5.alloc (.cells #[.int .i64 W, .slice (some ⟨g2, 0, none⟩) n n] 30)) := (Below.refl _ _).alloc (Nat.le_refl _) _
          have hS3 := Lib.hid (hS2.out.bel hal)
          have rL3 := Lib.hid (rL.out.bel hal)
          have hB3 := Lib.hid (hBi.out.trans (hal.mono lz))
          clear hal
          go_wp2_with (at_builtin; refine wpList_append_img rfl _ _ rfl rfl hS3.out w5.heap.size rfl g2 L (by simp) (by simp) rL3.out hgw hn1 (by omega) ?_)
          intro g' c' w6 hS6 hgr
          have hf := hS3.out.far
          have hB6 := Lib.hid (hB3.out.grown hgr (by simp; omega) (fun k hk => by cases hk; exact hf.1))
          replace hS6 := Lib.hid hS6
          clear hgr hS3 rL3 hB3 hf
          go_wp2_with fail
          refine ⟨⟨K + 1, g', c', by omega, by go_num, ?_, ?_, hB6⟩, by simp [intOf]; omega⟩
          · rw [hnx2.out, List.length_append, hcnt.out]; rfl
          · rw [hnx2.out, List.length_append, hcnt.out]; exact hS6
    · go_wp2_with fail
      obtain ⟨U0, g2, k2, eU, eg, ekk, hbU, b0, b1, oz, hne, hge⟩ := M2.out
      rw [← eU, ← eg, ← ekk]
      clear M1 M2 eU eg ekk hmk z0 z1
      have lg2 : g2 < U0.heap.size := (rng_own oz _ rfl).2
      have hB2 : Below W0.heap.size W0 U0 := hB.out.trans (hbU.mono hB.out.size)
      have z0 := kept hB2 (block_lt x0) x0
      have z1 := kept hB2 (block_lt x1) x1
      have lw0 : w.heap.size < W0.heap.size := block_lt x0
      have lwo := hB.out.size
      have hG0 : Hid (wo.grownBy U0 (some g2)) := below_grown hbU _
      have hO0 := Lib.hid (show OwnI U0 wo.heap.size (some ⟨g2, 0, none⟩) n n (rowsL (digK W K 0) n) by rw [digk_none]; exact oz)
      replace hB2 := Lib.hid hB2
      clear oz hbU
      go_upto_region 8 with fail
      go_loopw [7] (fun v wr => ∃ i : Nat, i ≤ n ∧ v = .int .i64 i ∧ Hid (U0.grownBy wr (some g2)) ∧ Hid (OwnI wr wo.heap.size (some ⟨g2, 0, none⟩) n n (rowsL (digK W K i) n))) (fun v _ => n - (intOf v).toNat)
      case atStart => exact ⟨0, Nat.zero_le _, rfl, World.grownBy.refl _ _, hO0⟩
      case round =>
        clear hO0
        obtain ⟨i, hi, rfl, hG, hO⟩ := hrel
        obtain ⟨wi, rfl⟩ : ∃ wi : World, wi = wr := ⟨_, rfl⟩
        have q0 := hG.out.cell b0 (by simpa using hne)
        have q1 := hG.out.cell b1 (by simpa using hne)
        have y0 := hG.out.cell z0 (by simp; omega)
        have y1 := hG.out.cell z1 (by simp; omega)
        by_cases hli : i < n
        case pos =>
          obtain ⟨m, hm⟩ : ∃ m, i * W = m := ⟨_, rfl⟩
          have em : (i : Int) * (W : Int) = (m : Int) := by rw [← hm, Int.natCast_mul]
          have hm9 : m ≤ 9 := by have h1 := Nat.mul_le_mul_right W (Nat.le_of_lt hli); have h2 := hN.out; omega
          have hm90 : -9223372036854775808 ≤ (m : Int) ∧ (m : Int) ≤ 9223372036854775807 := by omega
          have hN2 := hN.out
          clear hN2
          have hfacts : ∃ Pm PW Q D : Int, pw m = Pm ∧ pw W = PW ∧ 1 ≤ Pm ∧ 1 ≤ PW ∧ PW ≤ 64 ∧ (K : Int).tdiv Pm = Q ∧ (K : Int) / Pm = Q ∧ 0 ≤ Q ∧ Q ≤ 512 ∧ Q.tmod PW = D ∧ Q % PW = D ∧ digI W (K : Int) i = D ∧ 0 ≤ D ∧ D ≤ 63 := by
            have d0 : 0 ≤ (K : Int) / pw m := Int.ediv_nonneg (by omega) (by have := pw_pos m; omega)
            have d1 : (K : Int) / pw m ≤ (K : Int) := Int.ediv_le_self _ (by omega)
            have hdb := dig_bd W (K : Int) i
            have hw64 := pw_63 hw6
            refine ⟨pw m, pw W, (K : Int) / pw m, digI W (K : Int) i, rfl, rfl, pw_pos m, pw_pos W, hw64, Int.tdiv_eq_ediv_of_nonneg (by omega), rfl, d0, by omega, ?_, ?_, rfl, hdb.1, by omega⟩
            · rw [Int.tmod_eq_emod_of_nonneg d0]; unfold digI; rw [hm]
            · unfold digI; rw [hm]
          obtain ⟨Pm, PW, Q, D, hPm, hPW, p1m, p1W, pW64, ht1, ht0, hQ0, hQ5, ht2, ht3, hD, hD0, hD6⟩ := hfacts
          have p1 := fun wx => pow2_any m wx (by omega)
          have p2 := fun wx => pow2_any W wx (by omega)
          rw [hPm] at p1
          rw [hPW] at p2
          clear p1 p2
          have hs := (hO.out.bel ((Below.refl _ _).drew)).set i (digI W (K : Int) i)
          rw [digk_set (K : Int) hli, hD] at hs
          replace hPm := Lib.hid hPm
          replace hPW := Lib.hid hPW
          replace hD := Lib.hid hD
          replace hm := Lib.hid hm
          have hnz1 : ¬ Pm = 0 := by omega
          have hnz2 : ¬ PW = 0 := by omega
          have hnb1 : (Pm == 0) = false := by rw [beq_eq_false_iff_ne]; exact hnz1
          have hnb2 : (PW == 0) = false := by rw [beq_eq_false_iff_ne]; exact hnz2
          have hwQ : IntKind.i64.wrap Q = Q := IntWalk.i64_in _ ⟨by omega, by omega⟩
          have hwD : IntKind.i64.wrap D = D := IntWalk.i64_in _ ⟨by omega, by omega⟩
          obtain ⟨W2, hW2⟩ : ∃ W2, wi.drew = W2 := ⟨_, rfl⟩
          rw [hW2] at hs
          have hb2 : Below wi.heap.size wi W2 := by rw [← hW2]; exact (Below.refl _ _).drew
          replace q0 := kept hb2 (block_lt q0) q0
          replace q1 := kept hb2 (block_lt q1) q1
          replace y0 := kept hb2 (block_lt y0) y0
          replace y1 := kept hb2 (block_lt y1) y1
          have hc := own_cell (hO.out.bel hb2) hli
          have hf := (hO.out.bel hb2).frozen
          have hG4 := Lib.hid (grown_set (j := i) (v := .int .i64 D) (grown_trans hG.out (below_grown hb2 (some g2))))
          replace hs := Lib.hid hs
          generalize (rowsL (digK W (K : Int) i) n).getD i 0 = cc at hc
          clear hG hO hb2
          have ewm : wrap64 (m : Int) = (m : Int) := IntWalk.wrap64_in _ hm90
          have ewm2 : IntKind.i64.wrap (m : Int) = (m : Int) := IntWalk.i64_in _ hm90
          go_wp2_with fail
          refine region_tail 15 (by kernel_rfl) (by kernel_rfl) W2 hW2 ?_
          simp only [List.take_succ_cons, List.take_zero, List.drop_succ_cons, List.drop_zero]
          clear hW2
          have gPm := hPm.out
          have gPW := hPW.out
          have hm30 : m ≤ 30 := Nat.le_trans hm9 (by decide)
          have hW30 : W ≤ 30 := Nat.le_trans hw6 (by decide)
          repeat (first | still_step | still_call (st (pow2_any _ _ (by assumption))))
          refine wpStill_nil ?_
          go_wp2_with fail
          exact ⟨⟨i + 1, by omega, by go_num, hG4, hs⟩, by simp [intOf]; omega⟩
        obtain rfl : n = i := by omega
        rw [digk_all] at hO
        have hGo : Hid (wo.grownBy wi (some g2)) := grown_trans hG0.out hG.out
        have hS2 := Lib.hid (hS.out.grown hGo.out hge)
        have hBi := Lib.hid (hB.out.grown hGo.out lwo (fun k hk => by cases hk; omega))
        have rI := Lib.hid (r.out.bel hBi.out)
        have rL := Lib.hid hO.out.row
        have hgw : g2 ≠ g := by have := hS.out.far; omega
        obtain ⟨sb, hsb⟩ : ∃ b, sameB W xs W (digL W n K) = b := ⟨_, rfl⟩
        have hnx : smallL xs W n (K + 1) = smallL xs W n K ++ if sameB W xs W (digL W n K) = true then [digL W n K] else [] := rfl
        rw [hsb] at hnx
        generalize digL W n (K : Int) = L at *
        replace hsb := Lib.hid hsb
        clear hG hO hS hB hGo hG0 hB2 z0 z1 b0 b1
        go_wp2_with fail
        refine (same_impl (W : Int) W a (some ⟨g2, 0, none⟩) n n cap n xs L _ rI.out rL.out (by omega) (by omega)).mono ?_
        rintro e w5 ⟨rfl, hb⟩
        rw [hsb.out]
        replace q0 := kept hb (block_lt q0) q0
        replace q1 := kept hb (block_lt q1) q1
        replace hS2 := Lib.hid (hS2.out.bel hb)
        replace hBi := Lib.hid (hBi.out.trans (hb.mono hBi.out.size))
        replace rL := Lib.hid (rL.out.bel hb)
        clear hb y0 y1 rI
        cases sb with
        | false =>
          have hnx2 : smallL xs W n (K + 1) = smallL xs W n K := by rw [hnx, if_neg (by simp), List.append_nil]
          replace hnx2 := Lib.hid hnx2
          clear hnx
          go_wp2_with fail
          refine ⟨⟨K + 1, g, c, by omega, by go_num, ?_, ?_, hBi⟩, by simp [intOf]; omega⟩
          · rw [hnx2.out, hcnt.out]
          · rw [hnx2.out, hcnt.out]; exact hS2
        | true =>
          have hnx2 : smallL xs W n (K + 1) = smallL xs W n K ++ [L] := by rw [hnx, if_pos rfl]
          replace hnx2 := Lib.hid hnx2
          clear hnx
          have lz := hBi.out.size
          have hal : Below w5.heap.size w5 (w5.alloc (.cells #[.int .i64 W, .slice (some ⟨g2, 0, none⟩) n n] 30)) := (Below.refl _ _).alloc (Nat.le_refl _) _
          have hS3 := Lib.hid (hS2.out.bel hal)
          have rL3 := Lib.hid (rL.out.bel hal)
          have hB3 := Lib.hid (hBi.out.trans (hal.mono lz))
          clear hal
          go_wp2_with (at_builtin; refine wpList_append_img rfl _ _ rfl rfl hS3.out w5.heap.size rfl g2 L (by simp) (by simp) rL3.out hgw hn1 (by omega) ?_)
          intro g' c' w6 hS6 hgr
          have hf := hS3.out.far
          have hB6 := Lib.hid (hB3.out.grown hgr (by simp; omega) (fun k hk => by cases hk; exact hf.1))
          replace hS6 := Lib.hid hS6
          clear hgr hS3 rL3 hB3 hf
          go_wp2_with fail
          refine ⟨⟨K + 1, g', c', by omega, by go_num, ?_, ?_, hB6⟩, by simp [intOf]; omega⟩
          · rw [hnx2.out, List.length_append, hcnt.out]; rfl
          · rw [hnx2.out, List.length_append, hcnt.out]; exact hS6
end Go.Proofs.Ytnfkafaolelkbaa

