/-
  For every slice of bytes the law FnDirHalf answers true: a half turn reverses lines; nothing that was there is written; no condition.
-/
import Derived.Test.YtemmfnlnhekclaaO
import Derived.Test.YtemmfnlnhekclaaK
import Derived.Deep.RegionLaw
import Derived.Test.YtemmfnlnhekclaaZj
import Derived.Test.YtemmfnlnhekclaaZh
import Derived.Test.YtemmfnlnhekclaaEp
import Derived.Test.YtemmfnlnhekclaaA
import Derived.Test.YtemmfnlnhekclaaWk
import Derived.Deep.AppendLies
namespace Go.Proofs.Ytemmfnlnhekclaa.LFDirHalf
open Go.ChangeShapes Go.WideShapes Go.ChangeAt Go.RowKit Go.Joins

theorem own_set1 {wr : World} {B kb j n c g : Nat} {xs : List Int} {u : Value} (h : OwnI wr B (some ⟨g, 0, none⟩) n c xs) (hne : kb ≠ g) : OwnI (wr.setCell ⟨kb, j, none⟩ u) B (some ⟨g, 0, none⟩) n c xs := by
  refine World.ownsRow.kept h (grown_set (World.grownBy.refl _ _) : wr.grownBy (wr.setCell ⟨kb, j, none⟩ u) (some kb)) (Or.inr ?_)
  intro e
  exact hne (Option.some.inj e).symm
theorem set1_cell {wr : World} {kb j : Nat} {p : Addr} {u v : Value} (h : wr.cell? p = some v) (hn : p.block < kb) : (wr.setCell ⟨kb, j, none⟩ u).cell? p = some v :=
  (grown_set (World.grownBy.refl _ _) : wr.grownBy (wr.setCell ⟨kb, j, none⟩ u) (some kb)).cell h (fun e => absurd (Option.some.inj e) (Nat.ne_of_lt hn))
theorem rows_succ (f : Nat → Int) (k : Nat) : rowsL f (k + 1) = rowsL f k ++ [f k] := by
  unfold rowsL; rw [List.range_succ, List.map_append]; rfl
/-- One number is appended in a region that draws its order. -/
theorem step_append_i {w : World} {ops : Array Oper} {o : Oper} {a : Act} {K : Act → World → Prop} {Q : Exit → Act → World → Prop} {E : Prop} (hgd : o.guard = none) (s x : Operand)
    (ho : o.op = .call { callee := .builtin .append, args := #[s, x], argTypes := #[33, 33] })
    (base g N c : Nat) (F : List Int) (hs : a.eval s = .slice (some ⟨g, 0, none⟩) N c) (hown : OwnI w base (some ⟨g, 0, none⟩) N c F)
    (k : Nat) (hx : a.eval x = .slice (some ⟨k, 0, none⟩) 1 1) (A : Int) (c0 : w.cell? ⟨k, 0, none⟩ = some (.int .i64 A))
    (hN : N ≤ 1048576) (hbase : base ≤ w.heap.size) (H : Nat) (hH : w.heap.size = H)
    (h : ∀ g' c' w', OwnI w' base (some ⟨g', 0, none⟩) (N + 1) c' (F ++ [A]) → w.grownBy w' (some g) → (g' = g ∨ g' = H) → K (a.put o.dst (.slice (some ⟨g', 0, none⟩) (N + 1) c')) w') :
    if Region.wanted o (yielded ops a.tmps) = true then Oper.wp Try.prog o a w K Q else E := by
  obtain ⟨i0, hi, hz0, hz1, hz2⟩ := info_parts infoInt
  refine step_append_lies w hgd s x 33 ho base 3 i0 (.int .i64 0) 1 8 Try.underlying33 hi hz0 hz1 hz2 rfl (by decide) _ N (F.map (Value.int .i64)) hs hown
    ⟨k, 0, none⟩ 1 1 ([A].map (Value.int .i64)) hx rfl (fun j u hj => by
      match j, hj with
      | 0, hj => simp at hj; subst hj; simp [Addr.add, c0]) (fun u hu => by simp at hu; subst hu; rfl) (by omega) (by unfold maxLen; omega) (by omega) hbase H hH fun g' c' w' h2 h3 h4 _ => h g' c' w' ?_ h3 ?_
  · unfold OwnI; rw [List.map_append]; exact h2
  · rcases h4 with h | h
    · left; simp [Value.ownBlock] at h; exact h.symm
    · exact .inr h


theorem half_get {xs : List Int} {W n i : Nat} (hi : i < n) : (rowsL (fun i => (mirL xs W n).getD (n - 1 - i) 0) n).getD i 0 = (mirL xs W n).getD (n - 1 - i) 0 := rows_get _ hi
theorem half_im {W n : Nat} {xs : List Int} (h : Im W n xs) : Im W n (rowsL (fun i => (mirL xs W n).getD (n - 1 - i) 0) n) :=
  ⟨h.w1, h.w6, h.l1, h.l6, rows_len _ _, fun i hi => by rw [half_get hi]; exact h.mir.row _ (by omega)⟩
theorem half_bit {W n : Nat} {xs : List Int} (h : Im W n xs) {i j : Nat} (hi : i < n) (hj : j < W) : bvI (rowsL (fun i => (mirL xs W n).getD (n - 1 - i) 0) n) (n - 1 - i) (W - 1 - j) = bvI xs i j := by
  unfold bvI
  rw [half_get (show n - 1 - i < n by omega), show n - 1 - (n - 1 - i) = i by omega]
  exact h.mir_bit hi hj

set_option maxHeartbeats 8000000 in
set_option maxRecDepth 100000 in
theorem walk (a : Option Addr) (len cap : Nat) (zs : List Int) (w : World) (h : Bys w a len zs) (hl : len ≤ cap) (hm : cap ≤ 9223372036854775807) :
    Calls Try.prog 12 #[.slice a len cap] w fun e w' => e = .returned (.bool true) ∧ Below w.heap.size w w' := by
  by_cases hbig : 1048576 < len
  · clear h
    go_enter Try.func12, Try.ntmps12
    go_wp2_with fail
    go_ret
    exact ⟨rfl, Below.refl _ _⟩
  go_enter Try.func12, Try.ntmps12
  go_wp2_with fail
  refine (draw_DrawDirSums a len cap zs _ h hl hm).mono ?_
  rintro e w1 ⟨V, s, n, cg, xs, D, rfl, hR, hn, hb1⟩
  clear h hl hm
  have bb := Lib.hid hb1
  have p := Lib.hid hR
  clear hR hb1
  have hbx : Below w1.heap.size w1 (w1.alloc (.cells #[.int .i64 V, .slice s n cg] 35)) := (Below.refl _ _).alloc (Nat.le_refl _) _
  replace p := Lib.hid (p.out.bel hbx)
  replace bb := Lib.hid (bb.out.trans (hbx.mono bb.out.size))
  clear hbx
  have p0 : (w1.alloc (.cells #[.int .i64 V, .slice s n cg] 35)).cell? ⟨w1.heap.size, 0, none⟩ = some (.int .i64 V) := by simp
  have p1 : (w1.alloc (.cells #[.int .i64 V, .slice s n cg] 35)).cell? ⟨w1.heap.size, 1, none⟩ = some (.slice s n cg) := by simp
  by_cases hv : (0 ≤ D ∧ D ≤ 7) ∧ validB V xs = true
  case neg =>
    go_wp2_with fail
    refine (ds_no hv hn.1 _ _ _ p.out).mono ?_
    rintro e w2 ⟨⟨aoo, coo, rfl, ho⟩, hb⟩
    have oo := Lib.hid ho.row
    have szw2 : w1.heap.size + 1 ≤ w2.heap.size := by have := hb.size; simpa using this
    replace p0 := kept hb (block_lt p0) p0
    replace p1 := kept hb (block_lt p1) p1
    replace p := Lib.hid (p.out.bel hb)
    replace bb := Lib.hid (bb.out.trans (hb.mono bb.out.size))
    clear hb
    clear ho
    go_wp2_with fail
    refine (ds_sno hv hn.1 _ _ _ p.out).mono ?_
    rintro e w3 ⟨⟨aow, cow, rfl, ho⟩, hb⟩
    have ow := Lib.hid ho.row
    have szw3 := hb.size
    replace p0 := kept hb (block_lt p0) p0
    replace p1 := kept hb (block_lt p1) p1
    replace p := Lib.hid (p.out.bel hb)
    replace oo := Lib.hid (oo.out.bel hb)
    replace bb := Lib.hid (bb.out.trans (hb.mono bb.out.size))
    clear hb
    clear ho
    go_wp2_with fail
    refine (same_yes _ _ _ _ _ [] _ oo.out ow.out (by omega)).mono ?_
    rintro e w4 ⟨rfl, hb⟩
    have szw4 := hb.size
    replace p0 := kept hb (block_lt p0) p0
    replace p1 := kept hb (block_lt p1) p1
    replace p := Lib.hid (p.out.bel hb)
    replace oo := Lib.hid (oo.out.bel hb)
    replace ow := Lib.hid (ow.out.bel hb)
    replace bb := Lib.hid (bb.out.trans (hb.mono bb.out.size))
    clear hb
    go_wp2_with fail
    refine (same_yes _ _ _ _ _ [] _ oo.out ow.out (by omega)).mono ?_
    rintro e w5 ⟨rfl, hb⟩
    have szw5 := hb.size
    replace p0 := kept hb (block_lt p0) p0
    replace p1 := kept hb (block_lt p1) p1
    replace p := Lib.hid (p.out.bel hb)
    replace oo := Lib.hid (oo.out.bel hb)
    replace ow := Lib.hid (ow.out.bel hb)
    replace bb := Lib.hid (bb.out.trans (hb.mono bb.out.size))
    clear hb
    go_wp2_with fail
    go_ret
    exact ⟨rfl, bb.out⟩
  obtain ⟨hD, hv2⟩ := hv
  have hI0 := validB_W hv2
  obtain ⟨W, rfl⟩ := Int.eq_ofNat_of_zero_le (by omega : 0 ≤ V)
  obtain ⟨d, rfl⟩ := Int.eq_ofNat_of_zero_le hD.1
  have hd : d < 8 := by omega
  have hI : Im W n xs := Im.of hv2 p.out.1
  clear hv2 hI0 hD
  have hW6 := hI.w6
  have hW1 := hI.w1
  have hn1 := hI.l1
  have hn6 := hI.l6
  have hNb := nmN_bd hd hn1 hn6 hW1 hW6
  have hNi := num_int hd hn1 hW1
  have hLb := Lib.hid (fun k (hk : k < numN d n W) => ds_bd hI hd hk)
  obtain ⟨L, hL⟩ : ∃ L, dsL d xs W n = L := ⟨_, rfl⟩
  obtain ⟨N, hN⟩ : ∃ N, numN d n W = N := ⟨_, rfl⟩
  rw [hN] at hNb hNi hLb
  rw [hL] at hLb
  have hN0 : ((N : Int) == 0) = false := by rw [beq_eq_false_iff_ne]; omega
  obtain ⟨F, hF⟩ : ∃ F : Nat → Int, F = fun i => (mirL xs W n).getD (n - 1 - i) 0 := ⟨_, rfl⟩
  have hH := half_im hI
  have hhf := fun k (hk : k < numN d n W) => ds_half (ys := rowsL (fun i => (mirL xs W n).getD (n - 1 - i) 0) n) hd (fun i j hi hj => half_bit hI hi hj) hk
  rw [← hF] at hH hhf
  have hFk := Lib.hid (fun (k : Nat) => show F k = (mirL xs W n).getD (n - 1 - k) 0 by subst hF; rfl)
  obtain ⟨M, hM⟩ : ∃ M, dsL d (rowsL F n) W n = M := ⟨_, rfl⟩
  rw [hN] at hhf
  rw [hM, hL] at hhf
  replace hhf := Lib.hid hhf
  replace hM := Lib.hid hM
  replace hH := Lib.hid hH
  clear hF
  replace hL := Lib.hid hL
  replace hN := Lib.hid hN
  replace hI := Lib.hid hI
  replace hNi := Lib.hid hNi
  go_wp2_with fail
  refine (ds_ok hI.out hd rfl hL.out hN.out _ _ _ p.out).mono ?_
  rintro e w6 ⟨⟨aoo, coo, rfl, ho⟩, hb⟩
  have oo := Lib.hid ho.row
  have szw6 : w1.heap.size + 1 ≤ w6.heap.size := by have := hb.size; simpa using this
  replace p0 := kept hb (block_lt p0) p0
  replace p1 := kept hb (block_lt p1) p1
  replace p := Lib.hid (p.out.bel hb)
  replace bb := Lib.hid (bb.out.trans (hb.mono bb.out.size))
  clear hb
  clear ho
  go_wp2_with fail
  refine (ds_sok hI.out hd rfl hL.out hN.out _ _ _ p.out).mono ?_
  rintro e w7 ⟨⟨aow, cow, rfl, ho⟩, hb⟩
  have ow := Lib.hid ho.row
  have szw7 := hb.size
  replace p0 := kept hb (block_lt p0) p0
  replace p1 := kept hb (block_lt p1) p1
  replace p := Lib.hid (p.out.bel hb)
  replace oo := Lib.hid (oo.out.bel hb)
  replace bb := Lib.hid (bb.out.trans (hb.mono bb.out.size))
  clear hb
  clear ho
  go_wp2_with fail
  refine (same_yes _ _ _ _ _ L _ oo.out ow.out (by omega)).mono ?_
  rintro e w8 ⟨rfl, hb⟩
  have szw8 := hb.size
  replace p0 := kept hb (block_lt p0) p0
  replace p1 := kept hb (block_lt p1) p1
  replace p := Lib.hid (p.out.bel hb)
  replace oo := Lib.hid (oo.out.bel hb)
  replace ow := Lib.hid (ow.out.bel hb)
  replace bb := Lib.hid (bb.out.trans (hb.mono bb.out.size))
  clear hb
  clear ow
  go_wp2_with fail
  refine (mirror_ok hI.out _ _ _ p.out).mono ?_
  rintro e w9 ⟨⟨ab, cb, rfl, ho⟩, hb⟩
  have b := Lib.hid ho.row
  have szw9 := hb.size
  replace p0 := kept hb (block_lt p0) p0
  replace p1 := kept hb (block_lt p1) p1
  replace p := Lib.hid (p.out.bel hb)
  replace oo := Lib.hid (oo.out.bel hb)
  replace bb := Lib.hid (bb.out.trans (hb.mono bb.out.size))
  clear hb
  clear ho
  have hbx : Below w9.heap.size w9 (w9.alloc (.cells #[.int .i64 W, .slice ab n cb] 35)) := (Below.refl _ _).alloc (Nat.le_refl _) _
  replace p0 := kept hbx (block_lt p0) p0
  replace p1 := kept hbx (block_lt p1) p1
  replace p := Lib.hid (p.out.bel hbx)
  replace oo := Lib.hid (oo.out.bel hbx)
  replace b := Lib.hid (b.out.bel hbx)
  replace bb := Lib.hid (bb.out.trans (hbx.mono bb.out.size))
  clear hbx
  have b0 : (w9.alloc (.cells #[.int .i64 W, .slice ab n cb] 35)).cell? ⟨w9.heap.size, 0, none⟩ = some (.int .i64 W) := by simp
  have b1 : (w9.alloc (.cells #[.int .i64 W, .slice ab n cb] 35)).cell? ⟨w9.heap.size, 1, none⟩ = some (.slice ab n cb) := by simp
  go_upto_region 9 with fail
  obtain ⟨w10, hwn⟩ : ∃ w10, w9.alloc (.cells #[.int .i64 W, .slice ab n cb] 35) = w10 := ⟨_, rfl⟩
  have szw10 : w9.heap.size + 1 ≤ w10.heap.size := by rw [← hwn]; simp
  rw [hwn] at p0 p1 b0 b1 p oo b bb
  (try rw [hwn])
  clear hwn
  have hO0 : Hid (OwnI ((w10.alloc (.cells #[] 3)).alloc (.cells #[.int .i64 W, .slice (some ⟨w10.heap.size, 0, none⟩) 0 0] 35)) w10.heap.size (some ⟨w10.heap.size, 0, none⟩) 0 0 (rowsL F 0)) := Lib.hid (World.ownsRow.alloc (own_empty w10 w10.heap.size w10.heap.size rfl (Nat.le_refl _)) _)
  have hb0 : Hid (Below w10.heap.size w10 ((w10.alloc (.cells #[] 3)).alloc (.cells #[.int .i64 W, .slice (some ⟨w10.heap.size, 0, none⟩) 0 0] 35))) := Lib.hid (((Below.refl _ _).alloc (Nat.le_refl _) _).alloc (by simp) _)
  have hc0 : ((w10.alloc (.cells #[] 3)).alloc (.cells #[.int .i64 W, .slice (some ⟨w10.heap.size, 0, none⟩) 0 0] 35)).cell? ⟨(w10.heap.size + 1), 0, none⟩ = some (.int .i64 W) := by go_simp
  have hc1 : ((w10.alloc (.cells #[] 3)).alloc (.cells #[.int .i64 W, .slice (some ⟨w10.heap.size, 0, none⟩) 0 0] 35)).cell? ⟨(w10.heap.size + 1), 1, none⟩ = some (.slice (some ⟨w10.heap.size, 0, none⟩) 0 0) := by go_simp
  have hc2 : Hid (Box ((w10.alloc (.cells #[] 3)).alloc (.cells #[.int .i64 W, .slice (some ⟨w10.heap.size, 0, none⟩) 0 0] 35)) (w10.heap.size + 1) (.int .i64 W) (.slice (some ⟨w10.heap.size, 0, none⟩) 0 0)) := Lib.hid ⟨hc0, hc1, fun o => by simp⟩
  have b1t := kept hb0.out (block_lt b1) b1
  go_wp2_with fail
  go_loopw [10] (fun i wr => ∃ (k g c : Nat) (q : Int), k ≤ n ∧ q = (n : Int) - 1 - (k : Int) ∧ i = .int .i64 q ∧ w10.heap.size ≤ g ∧ (w10.heap.size + 1) ≠ g ∧ Hid (Box wr (w10.heap.size + 1) (.int .i64 W) (.slice (some ⟨g, 0, none⟩) k c)) ∧ Hid (OwnI wr w10.heap.size (some ⟨g, 0, none⟩) k c (rowsL F k)) ∧ Hid (Below w10.heap.size w10 wr)) (fun i _ => (intOf i + 1).toNat)
  case atStart => exact ⟨0, w10.heap.size, 0, (n : Int) - 1, Nat.zero_le _, by omega, by go_num, Nat.le_refl _, by omega, hc2, hO0, hb0⟩
  case round =>
    clear hO0 hb0 hc0 hc1 hc2 b1t
    obtain ⟨k, g, c, q, hk, hq, rfl, hg, hne, bx, hO, hbK⟩ := hrel
    have bc0 := bx.out.c0
    have bc1 := bx.out.c1
    have bf := bx.out.fz
    have r1 := kept hbK.out (block_lt b1) b1
    by_cases hlt : k < n
    case pos =>
      obtain ⟨r, rfl⟩ := Int.eq_ofNat_of_zero_le (show 0 ≤ q by omega)
      have hrn : r < n := by omega
      have hrk : n - 1 - k = r := by omega
      replace hq := Lib.hid hq
      obtain ⟨sb, so, es, hck⟩ := row_at b.out hrn
      cases es
      have lsb : sb < w10.heap.size := block_lt hck
      have rk := kept hbK.out lsb hck
      have hkb := block_lt bc0
      have hv := hFk.out k
      rw [hrk] at hv
      obtain ⟨x, hxe⟩ : ∃ x, (mirL xs W n).getD r 0 = x := ⟨_, rfl⟩
      rw [hxe] at hv rk
      have ng : some (w10.heap.size + 1) ≠ some g := by simp; exact hne
      have nr : some w9.heap.size ≠ some g := by have h1 : w9.heap.size < w10.heap.size := block_lt b0; simp; omega
      have ns : some sb ≠ some g := by simp; omega
      have hbz := hbK.out.size
      have jj0 : (0 : Int) ≤ (r : Int) := Int.natCast_nonneg _
      have jjn : (r : Int) < (n : Int) := by omega
      go_upto_region 13 with fail
      obtain ⟨W2, hW2⟩ : ∃ W2, wr.drew = W2 := ⟨_, rfl⟩
      have bd : Below wr.heap.size wr W2 := hW2 ▸ (Below.refl _ _).drew
      replace r1 := kept bd (block_lt r1) r1
      replace rk := kept bd (block_lt rk) rk
      replace bx := Lib.hid (Box.bel bx.out bd)
      have bc0 := bx.out.c0
      have bc1 := bx.out.c1
      have bf := bx.out.fz
      have hown := Lib.hid (fun o => World.ownsRow.alloc (hO.out.bel bd) o)
      have hb2 := Lib.hid (hbK.out.trans (bd.mono hbz))
      have hz2 : w10.heap.size ≤ W2.heap.size := hb2.out.size
      have hk2 : (w10.heap.size + 1) < W2.heap.size := block_lt bc0
      clear hxe hO hbK bd
      refine wp_region_M' (fun U : World => U.cell? ⟨(w10.heap.size + 1), 1, none⟩ = some (.slice (some ⟨g, 0, none⟩) k c) ∧ U.cell? ⟨w9.heap.size, 1, none⟩ = some (.slice (some ⟨sb, so, none⟩) n cb) ∧ U.cell? ⟨sb, so + r, none⟩ = some (.int .i64 x)) 11 10 (by kernel_rfl) (by kernel_rfl) W2 hW2 (fun inv => ?_)
      clear hW2
      have hS : (fun U : World => U.cell? ⟨(w10.heap.size + 1), 1, none⟩ = some (.slice (some ⟨g, 0, none⟩) k c) ∧ U.cell? ⟨w9.heap.size, 1, none⟩ = some (.slice (some ⟨sb, so, none⟩) n cb) ∧ U.cell? ⟨sb, so + r, none⟩ = some (.int .i64 x)) W2 := ⟨bc1, r1, rk⟩
      refine wpM_take (i := 0) (v := ?_) (by simp only [List.getElem?_toArray, List.getElem?_cons_zero]; rfl) (by kernel_rfl) (fun _ _ _ h => h) inv (Or.inl ⟨by rfl, ?_⟩) hS ?_
      rotate_left
      · intro wz hSw
        (try dsimp only at hSw)
        obtain ⟨hS1, hS2, hS3⟩ := hSw
        go_simp
        (try (with_reducible rfl))
      clear inv
      intro inv
      (try simp only [Act.put, List.setIfInBounds_toArray, List.set_cons_zero, List.set_cons_succ])
      refine wpM_take (i := 1) (v := ?_) (by simp only [List.getElem?_toArray, List.getElem?_cons_succ, List.getElem?_cons_zero]; rfl) (by kernel_rfl) (fun _ _ _ h => h) inv (Or.inl ⟨by rfl, ?_⟩) hS ?_
      rotate_left
      · intro wz hSw
        (try dsimp only at hSw)
        obtain ⟨hS1, hS2, hS3⟩ := hSw
        go_simp
        (try (with_reducible rfl))
      clear inv
      intro inv
      (try simp only [Act.put, List.setIfInBounds_toArray, List.set_cons_zero, List.set_cons_succ])
      refine wpM_take (i := 2) (v := ?_) (by simp only [List.getElem?_toArray, List.getElem?_cons_succ, List.getElem?_cons_zero]; rfl) (by kernel_rfl) (fun _ _ _ h => h) inv (Or.inl ⟨by rfl, ?_⟩) hS ?_
      rotate_left
      · intro wz hSw
        (try dsimp only at hSw)
        obtain ⟨hS1, hS2, hS3⟩ := hSw
        go_simp
        (try (with_reducible rfl))
      clear inv
      intro inv
      (try simp only [Act.put, List.setIfInBounds_toArray, List.set_cons_zero, List.set_cons_succ])
      refine wpM_take (i := 3) (v := ?_) (by simp only [List.getElem?_toArray, List.getElem?_cons_succ, List.getElem?_cons_zero]; rfl) (by kernel_rfl) (fun _ _ _ h => h) inv (Or.inl ⟨by rfl, ?_⟩) hS ?_
      rotate_left
      · intro wz hSw
        (try dsimp only at hSw)
        obtain ⟨hS1, hS2, hS3⟩ := hSw
        go_simp
        (try (with_reducible rfl))
      clear inv
      intro inv
      (try simp only [Act.put, List.setIfInBounds_toArray, List.set_cons_zero, List.set_cons_succ])
      refine wpM_take (i := 4) (v := ?_) (by simp only [List.getElem?_toArray, List.getElem?_cons_succ, List.getElem?_cons_zero]; rfl) (by kernel_rfl) (fun _ _ _ h => h) inv (Or.inl ⟨by rfl, ?_⟩) hS ?_
      rotate_left
      · intro wz hSw
        (try dsimp only at hSw)
        obtain ⟨hS1, hS2, hS3⟩ := hSw
        go_simp
        (try (with_reducible rfl))
      clear inv
      intro inv
      (try simp only [Act.put, List.setIfInBounds_toArray, List.set_cons_zero, List.set_cons_succ])
      refine wpM_take (i := 5) (v := ?_) (by simp only [List.getElem?_toArray, List.getElem?_cons_succ, List.getElem?_cons_zero]; rfl) (by kernel_rfl) (fun _ _ _ h => h) inv (Or.inl ⟨by rfl, ?_⟩) hS ?_
      rotate_left
      · intro wz hSw
        (try dsimp only at hSw)
        obtain ⟨hS1, hS2, hS3⟩ := hSw
        go_simp
        (try (with_reducible rfl))
      clear inv
      intro inv
      (try simp only [Act.put, List.setIfInBounds_toArray, List.set_cons_zero, List.set_cons_succ])
      refine wpM_take (i := 6) (v := ?_) (by simp only [List.getElem?_toArray, List.getElem?_cons_succ, List.getElem?_cons_zero]; rfl) (by kernel_rfl) (fun _ _ _ h => h) inv (Or.inl ⟨by rfl, ?_⟩) hS ?_
      rotate_left
      · intro wz hSw
        (try dsimp only at hSw)
        obtain ⟨hS1, hS2, hS3⟩ := hSw
        go_simp
        (try (with_reducible rfl))
      clear inv
      intro inv
      (try simp only [Act.put, List.setIfInBounds_toArray, List.set_cons_zero, List.set_cons_succ])
      refine wpM_one (i := 7) (by simp only [List.getElem?_toArray, List.getElem?_cons_succ, List.getElem?_cons_zero]; rfl) (by kernel_rfl) (by rfl) inv ?_
      intro K hK
      rw [if_pos (by rfl)]
      go_simp
      refine hK.out _ _ (fun _ => ⟨World.cell?_alloc_some bc1, World.cell?_alloc_some r1, World.cell?_alloc_some rk⟩) (fun hinv => ?_)
      clear inv
      have inv := hinv (by decide)
      clear hinv hK K
      (try simp only [Act.put, List.setIfInBounds_toArray, List.set_cons_zero, List.set_cons_succ])
      refine wpM_one (i := 8) (by simp only [List.getElem?_toArray, List.getElem?_cons_succ, List.getElem?_cons_zero]; rfl) (by kernel_rfl) (by rfl) inv ?_
      intro K hK
      refine step_append_i (by rfl) _ _ (by rfl) w10.heap.size g k c (rowsL F k) (by rfl) (hown.out _) W2.heap.size (by rfl) x (by simp) (by omega) (by simp <;> omega) _ rfl ?_
      intro g' c' wN hown1 hgr hlies
      have bx6 := Lib.hid ((Box.bel bx.out ((Below.refl W2.heap.size W2).alloc (Nat.le_refl _) (.cells #[.int .i64 x] 3))).grown hgr hne)
      have c60 := bx6.out.c0
      have c61 := bx6.out.c1
      have c6f := bx6.out.fz
      have hb6 : Below w10.heap.size w10 wN := (hb2.out.alloc (by omega) _).grown hgr (by simp <;> omega) (fun k hk => by cases hk; omega)
      refine hK.out _ _ (fun _ => ⟨c61, hgr.cell (World.cell?_alloc_some r1) nr, hgr.cell (World.cell?_alloc_some rk) ns⟩) (fun hinv => ?_)
      clear inv
      have inv := hinv (by decide)
      clear hinv hK K
      (try simp only [Act.put, List.setIfInBounds_toArray, List.set_cons_zero, List.set_cons_succ])
      have hS2 : (fun U : World => U.cell? ⟨(w10.heap.size + 1), 1, none⟩ = some (.slice (some ⟨g, 0, none⟩) k c) ∧ U.cell? ⟨w9.heap.size, 1, none⟩ = some (.slice (some ⟨sb, so, none⟩) n cb) ∧ U.cell? ⟨sb, so + r, none⟩ = some (.int .i64 x)) wN := ⟨c61, hgr.cell (World.cell?_alloc_some r1) nr, hgr.cell (World.cell?_alloc_some rk) ns⟩
      refine wpM_take (i := 9) (v := ?_) (by simp only [List.getElem?_toArray, List.getElem?_cons_succ, List.getElem?_cons_zero]; rfl) (by kernel_rfl) (fun _ _ _ h => h) inv (Or.inl ⟨by rfl, ?_⟩) hS2 ?_
      rotate_left
      · intro wz hSw
        (try dsimp only at hSw)
        obtain ⟨hS1, hS2, hS3⟩ := hSw
        go_simp
        (try (with_reducible rfl))
      clear inv
      intro inv
      (try simp only [Act.put, List.setIfInBounds_toArray, List.set_cons_zero, List.set_cons_succ])
      refine wpM_one (i := 10) (by simp only [List.getElem?_toArray, List.getElem?_cons_succ, List.getElem?_cons_zero]; rfl) (by kernel_rfl) (by rfl) inv ?_
      intro K hK
      rw [if_pos (by rfl)]
      go_simp
      refine hK.out _ _ (fun h => absurd h (by decide)) (fun hinv => ?_)
      refine wpM_done (by kernel_rfl) ?_ _
      refine NoPanic.normal ?_
      have hg' : w10.heap.size ≤ g' ∧ (w10.heap.size + 1) ≠ g' := by rcases hlies with h | h <;> (try simp at h) <;> omega
      have k0 := c60
      have k1 := c61
      have e0 : (wN.setCell ⟨(w10.heap.size + 1), 1, none⟩ (.slice (some ⟨g', 0, none⟩) (k + 1) c')).cell? ⟨(w10.heap.size + 1), 0, none⟩ = some (.int .i64 W) := by rw [World.cell?_setCell_other _ _ _ _ (by simp)]; exact k0
      have e1 : (wN.setCell ⟨(w10.heap.size + 1), 1, none⟩ (.slice (some ⟨g', 0, none⟩) (k + 1) c')).cell? ⟨(w10.heap.size + 1), 1, none⟩ = some (.slice (some ⟨g', 0, none⟩) (k + 1) c') := World.cell?_setCell_same _ _ _ k1
      have bxn : Hid (Box (wN.setCell ⟨(w10.heap.size + 1), 1, none⟩ (.slice (some ⟨g', 0, none⟩) (k + 1) c')) (w10.heap.size + 1) (.int .i64 W) (.slice (some ⟨g', 0, none⟩) (k + 1) c')) := Lib.hid ⟨e0, e1, fun o => by rw [World.frozen?_setCell]; exact c6f o⟩
      have o1 := Lib.hid (own_set1 (j := 1) (u := .slice (some ⟨g', 0, none⟩) (k + 1) c') hown1 hg'.2)
      have bS := Lib.hid (hb6.setCell (p := ⟨(w10.heap.size + 1), 1, none⟩) (by simp) (.slice (some ⟨g', 0, none⟩) (k + 1) c'))
      have hrs : rowsL F (k + 1) = rowsL F k ++ [x] := by rw [rows_succ, hv]
      rw [← hrs] at o1
      clear hown1 hgr hlies hb6 hown k0 k1 r1 rk bc0 bc1 bf bx e0 e1 bx6 hb2 inv hinv hK K hS hS2 hv
      go_wp2_with fail
      exact ⟨⟨k + 1, g', c', (r : Int) - 1, by omega, by have := hq.out; omega, by go_num, hg'.1, hg'.2, bxn, o1, bS⟩, by simp [intOf] <;> omega⟩
    have ek : n = k := by omega
    subst ek
    obtain rfl : q = -1 := by omega
    have hb := hbK.out
    have c := Lib.hid (OwnI.row hO.out)
    clear hO hbK r1 bf bx hlt hk hq
    have szwr := hb.size
    replace p0 := kept hb (block_lt p0) p0
    replace p1 := kept hb (block_lt p1) p1
    replace b0 := kept hb (block_lt b0) b0
    replace b1 := kept hb (block_lt b1) b1
    replace p := Lib.hid (p.out.bel hb)
    replace oo := Lib.hid (oo.out.bel hb)
    replace b := Lib.hid (b.out.bel hb)
    replace bb := Lib.hid (bb.out.trans (hb.mono bb.out.size))
    clear hb
    go_wp2_with fail
    refine (ds_ok hH.out hd rfl hM.out hN.out _ _ _ c.out).mono ?_
    rintro e w11 ⟨⟨ax, cx, rfl, ho⟩, hb⟩
    have x := Lib.hid ho.row
    have szw11 := hb.size
    replace p0 := kept hb (block_lt p0) p0
    replace p1 := kept hb (block_lt p1) p1
    replace b0 := kept hb (block_lt b0) b0
    replace b1 := kept hb (block_lt b1) b1
    replace bc0 := kept hb (block_lt bc0) bc0
    replace bc1 := kept hb (block_lt bc1) bc1
    replace p := Lib.hid (p.out.bel hb)
    replace oo := Lib.hid (oo.out.bel hb)
    replace b := Lib.hid (b.out.bel hb)
    replace c := Lib.hid (c.out.bel hb)
    replace bb := Lib.hid (bb.out.trans (hb.mono bb.out.size))
    clear hb
    clear ho
    clear bc0 bc1 b0 b1 b c
    obtain ⟨wq3, rfl⟩ : ∃ wq3 : World, wq3 = w11 := ⟨_, rfl⟩
    go_wp2_with fail
    go_loopw [12] (fun i wr => ∃ k : Nat, k ≤ N ∧ i = .int .i64 k ∧ wr.cell? ⟨w1.heap.size, 0, none⟩ = some (.int .i64 W) ∧ wr.cell? ⟨w1.heap.size, 1, none⟩ = some (.slice s n cg) ∧ Hid (Row wr s n xs) ∧ Hid (Row wr aoo N L) ∧ Hid (Row wr ax N M) ∧ Hid (Below w.heap.size w wr)) (fun i _ => N - (intOf i).toNat)
    case atStart => exact ⟨0, Nat.zero_le _, rfl, p0, p1, p, oo, x, bb⟩
    case round =>
      clear p0 p1 p oo x bb
      obtain ⟨k, hk, rfl, p0, p1, p, oo, x, bb⟩ := hrel
      obtain ⟨w12, rfl⟩ : ∃ w12 : World, w12 = wr := ⟨_, rfl⟩
      by_cases hlt : k < N
      case pos =>
        obtain ⟨bx, ox, ex, hc⟩ := row_at x.out hlt
        obtain ⟨by_, oy, ey, hc'⟩ := row_at oo.out (show N - 1 - k < N by omega)
        subst ex
        subst ey
        rw [hhf.out k hlt] at hc
        obtain ⟨vv, hv0⟩ : ∃ vv, (L).getD (N - 1 - k) 0 = vv := ⟨_, rfl⟩
        rw [hv0] at hc hc'
        obtain ⟨c, hce⟩ : ∃ c : Nat, c = N - 1 - k := ⟨_, rfl⟩
        rw [← hce] at hc'
        have hce' : (N : Int) - 1 - (k : Int) = (c : Int) := by omega
        have hcM : c < N := by omega
        have ev1 : IntKind.i64.wrap ((N : Int) - 1) = (N : Int) - 1 := IntWalk.i64_in _ ⟨by omega, by omega⟩
        have ev2 : IntKind.i64.wrap (c : Int) = (c : Int) := IntWalk.i64_in _ ⟨by omega, by omega⟩
        replace hv0 := Lib.hid hv0
        clear hce
        go_wp2_with fail
        go_quiet (fail)
        have hdr : Below w12.heap.size w12 (w12.drewN nq) := below_drewN (Below.refl _ _) nq
        replace p0 := kept hdr (block_lt p0) p0
        replace p1 := kept hdr (block_lt p1) p1
        replace p := Lib.hid (p.out.bel hdr)
        replace oo := Lib.hid (oo.out.bel hdr)
        replace x := Lib.hid (x.out.bel hdr)
        replace bb := Lib.hid (bb.out.trans (hdr.mono bb.out.size))
        clear hdr
        generalize hwq : w12.drewN nq = w13 at *
        clear hwq
        go_wp2_with fail
        skip
        exact ⟨⟨k + 1, by omega, by go_num, p0, p1, p, oo, x, bb⟩, by simp [intOf]; omega⟩
      obtain rfl : N = k := by omega
      clear hlt hk
      go_wp2_with fail
      go_ret
      exact ⟨rfl, bb.out⟩

set_option maxRecDepth 100000 in
theorem lifted (os : Os) (started : os.Started) (H : Type) (enc : TypeId × Value → H) :
    ReturnsInHanded {} Try.checked os 12 .any (Rows.fnDirHalfSpec.pre6 enc Try.prog Try.f12 Rows.fnDirHalfRow.domain false) (Rows.fnDirHalfSpec.post enc Try.prog Try.f12 false true false false) := by
  refine returnsInHanded_of_change (C := Try.checked) own started (by kernel_rfl) Try.func12
    (ChangeSpec.witness6 (enc := enc) (C := Try.checked) false ⟨#[], #[.slice none 0 0], []⟩ 8 (by kernel_rfl) (by kernel_rfl) (by kernel_rfl) (by kernel_rfl)) ?_
  intro W base args ds gs before hval0 hW hcnd _
  have hval : ∀ (j : Nat) t v, Try.f12.params[j]? = some t → args[j]? = some v → Value.okWide Try.prog W .any base t v := hval0
  have hW' := hW
  obtain ⟨p, q, hA0, hV, rfl, hfz, hnd⟩ := hW
  have hA : DataW.TrodAll enc Try.prog W 0 (fun _ => true) true Try.f12.params.toList args.toList ds p := hA0
  rw [Try.params12] at hA hval
  obtain ⟨v0, vs0, d0, ds0, p0, q0, hargs, rfl, rfl, h0, r0⟩ := trodAll_cons hA
  obtain ⟨rfl, rfl, rfl⟩ := trodAll_nil r0
  obtain rfl : args = #[v0] := by cases args; simp_all
  obtain ⟨rfl, rfl⟩ := trodVars_none hV
  have k0 := h0
  have lt0 : ∀ x ∈ p0, x.block < W.heap.size := by obtain ⟨m, hm⟩ := k0; exact DataW.trod_lt m _ _ _ hm
  obtain ⟨a0, len0, cap0, z0, rfl, w0, l0, m0⟩ := open_code (hval 0 22 v0 rfl rfl) h0
  clear hA0 hval0
  refine (walk a0 len0 cap0 z0 W w0 l0 m0).mono fun e W' ⟨he, bel⟩ => ?_
  subst he
  exact ⟨_, rfl, _, _, _, [], _, [], hW', trodAll_mk1 (shut_bool Try.underlying4 _), (trodAll_cons_mk (Below.trod laidOut (by kernel_rfl) (of_decide_eq_true (by kernel_rfl)) k0 bel lt0) trodAll_mk0), rfl, bel.frame _, fun h => by cases h⟩

theorem closed : joinedFacts Try.prog 12 Try.f12 Rows.fnDirHalfSpec Rows.fnDirHalfRow = true := by
  simp only [joinedFacts, Bool.and_eq_true]
  repeat' apply And.intro
  all_goals first | with_reducible exact mayEnterOk | (with_reducible rw [liftsFinalOk]; kernel_rfl) | (with_reducible rw [makeOk]; kernel_rfl) | kernel_rfl

theorem over : Rows.fnDirHalfRow.holds Try.pinned (OpenSpec.ofChange Rows.fnDirHalfSpec) :=
  OpenClaim.holds_of_wide 12 Try.f12 rfl rfl rfl rfl rfl rfl rfl ⟨rfl, rfl, rfl, rfl, rfl⟩ rfl rfl rfl rfl rfl (by kernel_rfl) Try.func12 closed
    (of_decide_eq_true (by kernel_rfl)) (by unfold Func.isWrapper; first | (rw [if_pos (by decide +kernel)]; kernel_rfl) | (rw [if_neg (by decide +kernel)]; exact ⟨rfl, rfl⟩))
    (fun os started H enc _ => lifted os started H enc)

theorem proved : Rows.FnDirHalfSaid := over
#print axioms proved
end Go.Proofs.Ytemmfnlnhekclaa.LFDirHalf

