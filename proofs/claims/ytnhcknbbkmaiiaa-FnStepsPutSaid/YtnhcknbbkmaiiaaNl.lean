/-
  The contracts of slices.Grow at no slice and of slices.Concat at a list and a list of one number.
  The contracts of the program's stepsTo, stepsAlong and ImageSteps.
  The contracts of the program's stepsAlong and ImageSteps.
  The contract of the program's ImageSteps.
-/
import Derived.Test.YtnhcknbbkmaiiaaPa
import Derived.Test.YtnhcknbbkmaiiaaK
import Derived.Lib.AppendZeros
import Derived.Test.YtnhcknbbkmaiiaaNe
import Derived.Test.YtnhcknbbkmaiiaaWa
import Derived.Deep.RegionHeld3
import Derived.Test.YtnhcknbbkmaiiaaA
import Derived.Test.YtnhcknbbkmaiiaaEp

namespace Go.Proofs.Ytnhcknbbkmaiiaa
set_option maxRecDepth 100000
open Go.RowKit

set_option maxHeartbeats 800000 in
theorem grow_any (n : Nat) (w : World) (h1 : 1 ≤ n) (hn : n ≤ 1000) :
    Calls Try.prog 159 #[.slice none 0 0, .int .i64 n] w fun e w' => (∃ g c, e = .returned (.slice (some ⟨g, 0, none⟩) 0 c) ∧ OwnI w' w.heap.size (some ⟨g, 0, none⟩) 0 c []) ∧ Below w.heap.size w w' := by
  obtain ⟨i0, hi, hz0, hz1, hz2⟩ := info_parts infoInt
  have happ := Lib.run_append_nil_zeros (P := Try.prog) w 23 3 23 3 i0 (.int .i64 0) .i64 .i64 Try.underlying23 Try.underlying3 hi hz0 n (by omega) (by rw [hz1]; decide) (by omega) (by rw [hz2]; omega)
  generalize hcap : grownCap w n 0 3 = cap at happ
  have hge : n ≤ cap := by rw [← hcap]; exact grownCap_ge w n 0 _
  have hle : cap ≤ maxLen := by rw [← hcap]; exact grownCap_le_maxLen w n 0 _ (by unfold maxLen; omega)
  generalize hZ : (Builtin.zeroCells (Value.int .i64 0).cells n ++ Builtin.zeroCells (Value.int .i64 0).cells (cap - n)) = Z at happ
  have hZs : Z.size = cap := by rw [← hZ]; simp [size_zeroCells, Value.cells]; omega
  obtain ⟨W1, hW1⟩ : ∃ W1, w.drew.alloc (.cells Z 3) = W1 := ⟨_, rfl⟩
  rw [hW1] at happ
  have hb : Below w.heap.size w W1 := by rw [← hW1]; exact ((Below.refl _ _).drew).alloc (Nat.le_refl _) _
  have ho : OwnI W1 w.heap.size (some ⟨w.heap.size, 0, none⟩) 0 cap [] := by
    rw [← hW1]; exact ⟨by simp, .inr ⟨w.heap.size, cap, Z, rfl, Nat.le_refl _, heap_alloc_new w.drew _, by omega, hle, by rw [hZs]; omega, by simp⟩⟩
  replace hb := Lib.hid hb
  replace ho := Lib.hid ho
  clear hcap hZ hZs hW1 hi hz0 hz1 hz2
  have hg0 : (0 : Int) < (n : Int) := by omega
  go_enter Try.func159, Try.ntmps159
  go_wp2_with (at_builtin; refine Lib.wpList_append_run _ rfl _ _ _ _ rfl _ _ rfl rfl _ _ happ ?_)
  go_ret
  exact ⟨⟨_, _, rfl, ho.out⟩, hb.out⟩

set_option maxHeartbeats 2000000 in
theorem concat_any (b k c1 c2 : Nat) (a1 a2 : Option Addr) (xs : List Int) (y : Int) (w : World) (h0 : w.cell? ⟨b, 0, none⟩ = some (.slice a1 k c1)) (h1 : w.cell? ⟨b, 1, none⟩ = some (.slice a2 1 c2)) (hr : Row w a1 k xs) (hr2 : Row w a2 1 [y]) (hk : 1 ≤ k) (hk2 : k ≤ 100) :
    Calls Try.prog 145 #[.slice (some ⟨b, 0, none⟩) 2 2] w fun e w' => (∃ a c, e = .returned (.slice a (k + 1) c) ∧ OwnI w' w.heap.size a (k + 1) c (xs ++ [y])) ∧ Below w.heap.size w w' := by
  obtain ⟨i0, hi, hz0, hz1, hz2⟩ := info_parts infoInt
  have r1 := Lib.hid hr
  have r2 := Lib.hid hr2
  have hlx := Lib.hid hr.1
  clear hr hr2
  go_enter Try.func145, Try.ntmps145
  go_wp2_with fail
  go_loopw [3, 11] (fun s i wr => ∃ j m : Nat, (j = 0 ∧ m = 0 ∨ j = 1 ∧ k = m ∨ j = 2 ∧ m = k + 1) ∧ i = .int .i64 j ∧ s = .int .i64 m ∧ w = wr) (fun _ i _ => 2 - (intOf i).toNat)
  case atStart => exact ⟨0, 0, .inl ⟨rfl, rfl⟩, rfl, rfl, rfl⟩
  case round =>
    obtain ⟨j, m, hjm, rfl, rfl, rfl⟩ := hrel
    rcases hjm with ⟨rfl, rfl⟩ | ⟨rfl, rfl⟩ | ⟨rfl, rfl⟩
    · go_wp2_with fail
      exact ⟨⟨1, k, .inr (.inl ⟨rfl, rfl⟩), rfl, by go_num, by first | rfl | trivial⟩, by simp [intOf]⟩
    · go_wp2_with fail
      exact ⟨⟨2, k + 1, .inr (.inr ⟨rfl, rfl⟩), rfl, by go_num, by first | rfl | trivial⟩, by simp [intOf]⟩
    · have hgr := grow_any (k + 1) w (by omega) (by omega)
      rw [show ((k + 1 : Nat) : Int) = (k : Int) + 1 by omega] at hgr ⊢
      go_wp2_with fail
      refine hgr.mono ?_
      rintro e w1 ⟨⟨g, cg, rfl, ho⟩, hb⟩
      replace ho := Lib.hid ho
      replace hb := Lib.hid hb
      clear hgr
      go_wp2_with fail
      go_loopw [6, 27] (fun v i wr => ∃ (j m : Nat) (s : Option Addr) (c : Nat) (L : List Int), (j = 0 ∧ m = 0 ∧ L = [] ∨ j = 1 ∧ k = m ∧ xs = L ∨ j = 2 ∧ m = k + 1 ∧ L = xs ++ [y]) ∧ i = .int .i64 j ∧ v = .slice s m c ∧ Hid (OwnI wr w.heap.size s m c L) ∧ Hid (Below w.heap.size w wr)) (fun _ i _ => 2 - (intOf i).toNat)
      case atStart => exact ⟨0, 0, _, _, [], .inl ⟨rfl, rfl, rfl⟩, rfl, rfl, ho, hb⟩
      case round =>
        clear ho hb
        obtain ⟨j, m, s, c, L, hjm, rfl, rfl, hO, hB⟩ := hrel
        have q0 := kept hB.out (block_lt h0) h0
        have q1 := kept hB.out (block_lt h1) h1
        have hBs := hB.out.size
        have p1 := r1.out.bel hB.out
        have p2 := r2.out.bel hB.out
        obtain ⟨b1, o1, e1, _⟩ := row_at p1 (show 0 < k by omega)
        obtain ⟨b2, o2, e2, _⟩ := row_at p2 (show 0 < 1 by omega)
        subst e1 e2
        have n1 := Lib.hid (row_news p1 (by omega))
        have n2 := Lib.hid (row_news p2 (by omega))
        clear p1 p2
        rcases hjm with ⟨rfl, rfl, rfl⟩ | ⟨rfl, rfl, rfl⟩ | ⟨rfl, rfl, rfl⟩
        · go_wp2_with (at_builtin; refine wpList_append_own _ rfl _ _ 23 rfl w.heap.size 3 i0 (.int .i64 0) 1 8 Try.underlying23 hi hz0 hz1 hz2 rfl (by decide) _ 0 [] rfl hO.out ⟨b1, o1, none⟩ k c1 (xs.map (Value.int .i64)) rfl ?c1 ?c2 ?c3 ?c4 ?c5 ?c6 ?_)
          case c1 => simp only [List.length_map]; have := hlx.out; omega
          case c2 => exact n1.out
          case c3 => exact ints_oneCell _ _
          case c4 => unfold maxLen; omega
          case c5 => omega
          case c6 => exact hBs
          intro v' w3 hown hgr _
          obtain ⟨a', cap', rfl, ho3⟩ := own_of (xs := xs) (n := k) (by simpa using hown)
          have hb3 : Below w.heap.size wr w3 := (Below.refl _ _).grown hgr hBs fun z hz => by
            rcases hO.out.cases with ⟨rfl, _, _⟩ | ⟨g', rfl, h2, _⟩
            · cases hz
            · simp [Value.ownBlock] at hz; omega
          have hB3 := Lib.hid (hB.out.trans hb3)
          have ho3 := Lib.hid ho3
          clear hown hgr hb3 hO hB q0 q1 n1 n2
          go_wp2_with fail
          exact ⟨⟨1, k, _, _, xs, .inr (.inl ⟨rfl, rfl, rfl⟩), rfl, rfl, ho3, hB3⟩, by simp [intOf]⟩
        · go_wp2_with (at_builtin; refine wpList_append_own _ rfl _ _ 23 rfl w.heap.size 3 i0 (.int .i64 0) 1 8 Try.underlying23 hi hz0 hz1 hz2 rfl (by decide) _ k (xs.map (Value.int .i64)) rfl hO.out ⟨b2, o2, none⟩ 1 c2 ([y].map (Value.int .i64)) rfl ?d1 ?d2 ?d3 ?d4 ?d5 ?d6 ?_)
          case d1 => rfl
          case d2 => exact n2.out
          case d3 => exact ints_oneCell _ _
          case d4 => unfold maxLen; omega
          case d5 => omega
          case d6 => exact hBs
          intro v' w3 hown hgr _
          obtain ⟨a', cap', rfl, ho3⟩ := own_of (xs := xs ++ [y]) (n := k + 1) (by rw [List.map_append]; exact hown)
          have hb3 : Below w.heap.size wr w3 := (Below.refl _ _).grown hgr hBs fun z hz => by
            rcases hO.out.cases with ⟨rfl, _, _⟩ | ⟨g', rfl, h2, _⟩
            · cases hz
            · simp [Value.ownBlock] at hz; omega
          have hB3 := Lib.hid (hB.out.trans hb3)
          have ho3 := Lib.hid ho3
          clear hown hgr hb3 hO hB q0 q1 n1 n2
          go_wp2_with fail
          exact ⟨⟨2, k + 1, _, _, xs ++ [y], .inr (.inr ⟨rfl, rfl, rfl⟩), rfl, rfl, ho3, hB3⟩, by simp [intOf]⟩
        · clear n1 n2 q0 q1
          go_wp2_with fail
          go_ret
          exact ⟨⟨_, _, rfl, hO.out⟩, hB.out⟩
end Go.Proofs.Ytnhcknbbkmaiiaa

namespace Go.Proofs.Ytnhcknbbkmaiiaa
set_option maxRecDepth 100000
open Go.RowKit

/-- The rows of a chain. -/
def chL (P : List Nat) (W : Nat) : List Int := rowsL (fun k => rowN (inP P k) W) (P.length + 1)
theorem ch_len (P : List Nat) (W : Nat) : (chL P W).length = P.length + 1 := rows_len _ _
theorem ch_get {P : List Nat} {W k : Nat} (hk : k < P.length + 1) : (chL P W).getD k 0 = rowN (inP P k) W := rows_get (fun k => rowN (inP P k) W) hk
theorem ch_nil (W : Nat) : chL [] W = [0] := by
  have e : ∀ W, rowN (inP [] 0) W = 0 := fun W => by
    induction W with
    | zero => rfl
    | succ W ih => simp only [rowN]; rw [ih]; simp [inP]
  show [rowN (inP [] 0) W] = [0]
  rw [e W]
theorem inp_app {P : List Nat} {j k : Nat} (hk : k ≤ P.length) : inP (P ++ [j]) k = inP P k := by
  funext i
  unfold inP
  rw [List.take_append_of_le_length hk]
theorem inp_all {P : List Nat} {j : Nat} : inP P P.length j = decide (j ∈ P) := by unfold inP; rw [List.take_length]
theorem ch_snoc (P : List Nat) (W j : Nat) : chL (P ++ [j]) W = chL P W ++ [rowN (inP (P ++ [j]) (P.length + 1)) W] := by
  unfold chL
  rw [List.length_append, List.length_singleton, rows_snoc]
  congr 1
  exact rows_ext fun k hk => by rw [inp_app (by omega)]
theorem rfar_xor {xs : List Int} {W n i : Nat} (hI : Im W n xs) (hi : i < n) (c : Nat → Bool) :
    (0 ≤ bits BinOp.xor IntKind.i64 (xs.getD i 0) (rowN c W) ∧ bits BinOp.xor IntKind.i64 (xs.getD i 0) (rowN c W) ≤ 63) ∧ cntI (bits BinOp.xor IntKind.i64 (xs.getD i 0) (rowN c W)) 6 = rfar xs i c W := by
  have hJ := cells_im (fun _ => c) hI.w1 hI.w6 hI.l1 hI.l6
  have h := xor_row hI hJ hi
  have e : (cellsL (fun _ => c) W n).getD i 0 = rowN c W := rows_get (fun _ => rowN c W) hi
  rw [e] at h
  refine ⟨h.1, h.2.trans (sum_ext fun j hj => ?_)⟩
  (try dsimp only)
  rw [cells_cell hI.w6 hi hj]
theorem orm_nat : ∀ j, j < 6 → ∀ x, x < 64 → (0 ≤ bits BinOp.or IntKind.i64 ((x : Nat) : Int) (pw j) ∧ bits BinOp.or IntKind.i64 ((x : Nat) : Int) (pw j) ≤ 63) ∧ ∀ k, k < 6 → bitI (bits BinOp.or IntKind.i64 ((x : Nat) : Int) (pw j)) k = if k = j then 1 else bitI ((x : Nat) : Int) k := by decide +kernel
theorem or_mask {P : List Nat} {W j : Nat} (hW : W ≤ 6) (hj : j < W) : bits BinOp.or IntKind.i64 (rowN (inP P P.length) W) (pw j) = rowN (inP (P ++ [j]) (P.length + 1)) W := by
  have b1 := rowN_bd (inP P P.length) W
  have b2 := rowN_bd (inP (P ++ [j]) (P.length + 1)) W
  have p6 := pw_63 hW
  obtain ⟨x, hx⟩ := Int.eq_ofNat_of_zero_le b1.1
  have ho := orm_nat j (by omega) x (by omega)
  have p64 : pw 6 = 64 := by decide
  rw [hx]
  rw [hx] at b1
  refine bits_ext (k := 6) (Nat.le_refl _) ⟨ho.1.1, by omega⟩ ⟨b2.1, by omega⟩ fun k hk => ?_
  rw [ho.2 k hk, ← hx, rowN_bit _ hW (by omega), rowN_bit _ hW (by omega)]
  have e : inP (P ++ [j]) (P.length + 1) k = (inP P P.length k || decide (k = j)) := by
    have := inp_all (P := P ++ [j]) (j := k)
    rw [List.length_append, List.length_singleton] at this
    rw [this, inp_all, Bool.eq_iff_iff]; simp
  rw [e]
  by_cases e1 : k = j
  · subst e1; simp [hj]
  · rw [if_neg e1]; simp [e1]
theorem mask_in {P : List Nat} {W j : Nat} (hW : W ≤ 6) (hj : j < W) : rowN (inP (P ++ [j]) (P.length + 1)) W = rowN (inP P P.length) W ↔ j ∈ P := by
  have e := inp_all (P := P ++ [j]) (j := j)
  rw [List.length_append, List.length_singleton] at e
  constructor
  · intro h
    have h1 := rowN_bit (inP (P ++ [j]) (P.length + 1)) (k := W) (i := j) hW (by omega)
    have h2 := rowN_bit (inP P P.length) (k := W) (i := j) hW (by omega)
    rw [h, h2, e, inp_all] at h1
    by_cases hm : j ∈ P
    · exact hm
    · simp [hj, hm] at h1
  · intro hm
    refine bits_ext (k := W) hW (rowN_bd _ _) (rowN_bd _ _) fun k hk => ?_
    rw [rowN_bit _ hW (by omega), rowN_bit _ hW (by omega)]
    have e2 := inp_all (P := P ++ [j]) (j := k)
    rw [List.length_append, List.length_singleton] at e2
    rw [e2, inp_all]
    have : (k ∈ P ++ [j]) ↔ k ∈ P := by
      rw [List.mem_append, List.mem_singleton]
      exact ⟨fun h => h.elim id fun e => e ▸ hm, .inl⟩
    simp [this]
theorem full_row {W : Nat} (hW : W ≤ 6) : rowN (fun _ => true) W = pw W - 1 := by
  have : ∀ W, W < 7 → rowN (fun _ => true) W = pw W - 1 := by decide +kernel
  exact this W (by omega)
theorem nodup_le {P : List Nat} {W : Nat} (hd : P.Nodup) (hlt : ∀ p, p ∈ P → p < W) : P.length ≤ W := by
  have hp : P.Perm ((List.range W).filter fun x => decide (x ∈ P)) := (List.perm_ext_iff_of_nodup hd (List.nodup_range.filter _)).2 fun a => by
    rw [List.mem_filter, List.mem_range, decide_eq_true_iff]
    exact ⟨fun h => ⟨hlt a h, h⟩, fun h => h.2⟩
  rw [hp.length_eq]
  have := List.length_filter_le (fun x => decide (x ∈ P)) (List.range W)
  rw [List.length_range] at this
  exact this
theorem mask_full {P : List Nat} {W : Nat} (hW : W ≤ 6) (hd : P.Nodup) (hlt : ∀ p, p ∈ P → p < W) : rowN (inP P P.length) W = pw W - 1 ↔ P.length = W := by
  rw [← full_row hW]
  have hle := nodup_le hd hlt
  constructor
  · intro h
    have hall : ∀ j, j < W → j ∈ P := fun j hj => by
      have h1 := rowN_bit (inP P P.length) (k := W) (i := j) hW (by omega)
      have h2 := rowN_bit (fun _ => true) (k := W) (i := j) hW (by omega)
      rw [h, h2, inp_all] at h1
      by_cases hm : j ∈ P
      · exact hm
      · simp [hj, hm] at h1
    have hp : P.Perm (List.range W) := (List.perm_ext_iff_of_nodup hd List.nodup_range).2 fun a => ⟨fun h => List.mem_range.2 (hlt a h), fun h => hall a (List.mem_range.1 h)⟩
    rw [hp.length_eq, List.length_range]
  · intro h
    have hall : ∀ j, j < W → j ∈ P := fun j hj => Classical.byContradiction fun hn => by
      have := nodup_le (P := j :: P) (W := W) (List.nodup_cons.2 ⟨hn, hd⟩) fun p hp => by
        rcases List.mem_cons.1 hp with e | e
        · omega
        · exact hlt p e
      rw [List.length_cons] at this
      omega
    refine bits_ext (k := W) hW (rowN_bd _ _) (rowN_bd _ _) fun k hk => ?_
    rw [rowN_bit _ hW (by omega), rowN_bit _ hW (by omega), inp_all]
    have := hall k hk
    simp [this]
theorem to_bd {xs : List Int} {P : List Nat} {W n : Nat} (hI : Im W n xs) (k : Nat) (hk : k ≤ n) : 0 ≤ sumI (fun i => leastF xs i P W (P.length + 1)) k ∧ sumI (fun i => leastF xs i P W (P.length + 1)) k ≤ 36 := by
  have h0 : 0 ≤ sumI (fun i => leastF xs i P W (P.length + 1)) k := sum_nn fun i _ => (least_bd).1
  have h1 : sumI (fun i => leastF xs i P W (P.length + 1)) k ≤ sumI (fun _ => (W : Int)) k := sum_le fun i _ => (least_bd).2
  rw [sum_same] at h1
  have := hI.w6
  have := hI.l6
  have h5 : (k : Int) * (W : Int) ≤ 6 * 6 := by rw [← Int.natCast_mul]; have := Nat.mul_le_mul (show k ≤ 6 by omega) hI.w6; omega
  omega

set_option maxHeartbeats 2000000 in
theorem steps_to (W n : Nat) (a : Option Addr) (cap : Nat) (xs : List Int) (b : Option Addr) (N cb : Nat) (P : List Nat) (w : World) (h : Row w a n xs) (hI : Im W n xs) (hr : Row w b N (chL P W)) (hN : P.length + 1 = N) (hN7 : N ≤ 7) :
    Calls Try.prog 144 #[.agg #[.int .i64 W, .slice a n cap], .slice b N cb] w fun e w' => e = .returned (.int .i64 (toF xs P W n)) ∧ Below w.heap.size w w' := by
  have hw6 := hI.w6
  have hn6 := hI.l6
  obtain ⟨W0, hW0⟩ : ∃ W0, W0 = w.alloc (.cells #[.int .i64 W, .slice a n cap] 25) := ⟨_, rfl⟩
  have bb : Hid (Below w.heap.size w W0) := by subst hW0; exact (Below.refl _ _).alloc (Nat.le_refl _) _
  have x0 : W0.cell? ⟨w.heap.size, 0, none⟩ = some (.int .i64 W) := by subst hW0; go_simp
  have x1 : W0.cell? ⟨w.heap.size, 1, none⟩ = some (.slice a n cap) := by subst hW0; go_simp
  have r := Lib.hid (h.bel bb.out)
  have rc := Lib.hid (hr.bel bb.out)
  have hT := Lib.hid (fun k (hk : k ≤ n) => to_bd (P := P) hI k hk)
  rw [hN] at hT
  have hX := Lib.hid (fun i (hi : i < n) k (hk : k < N) => (ch_get (P := P) (W := W) (k := k) (by omega)) ▸ rfar_xor hI hi (inP P k))
  have hL := Lib.hid (fun i k => least_bd (xs := xs) (i := i) (P := P) (W := W) (k := k))
  unfold toF
  rw [hN]
  replace hN := Lib.hid hN
  clear h hr hI
  go_enter Try.func144, Try.ntmps144
  go_wp2_with fail
  rw [← hW0]
  clear hW0
  go_loopw [5, 14] (fun o i wr => ∃ k : Nat, k ≤ n ∧ i = .int .i64 k ∧ o = .int .i64 (sumI (fun i => leastF xs i P W N) k) ∧ W0 = wr) (fun _ i _ => n - (intOf i).toNat)
  case atStart => exact ⟨0, Nat.zero_le _, rfl, rfl, rfl⟩
  case round =>
    obtain ⟨k, hk, rfl, rfl, rfl⟩ := hrel
    have hb := hT.out k hk
    by_cases hlt : k < n
    · obtain ⟨bx, ox, rfl, hck⟩ := row_at r.out hlt
      have hs : sumI (fun i => leastF xs i P W N) (k + 1) = sumI (fun i => leastF xs i P W N) k + leastF xs k P W N := rfl
      have hxk := Lib.hid (hX.out k hlt)
      have hlk := Lib.hid (hL.out k)
      obtain ⟨x, hx⟩ : ∃ x, xs.getD k 0 = x := ⟨_, rfl⟩
      rw [hx] at hck hxk
      obtain ⟨S, hS⟩ : ∃ S, sumI (fun i => leastF xs i P W N) k = S := ⟨_, rfl⟩
      rw [hS] at hs hb ⊢
      replace hs := Lib.hid hs
      replace hx := Lib.hid hx
      replace hS := Lib.hid hS
      go_wp2_with fail
      go_loopw [8, 22] (fun o i wr => ∃ j : Nat, j ≤ N ∧ i = .int .i64 j ∧ o = .int .i64 (leastF xs k P W j) ∧ W0 = wr) (fun _ i _ => N - (intOf i).toNat)
      case atStart => exact ⟨0, Nat.zero_le _, rfl, rfl, rfl⟩
      case round =>
        obtain ⟨j, hj, rfl, rfl, rfl⟩ := hrel
        by_cases hlj : j < N
        · obtain ⟨bc, oc, rfl, hcc⟩ := row_at rc.out hlj
          have hxj := hxk.out j hlj
          obtain ⟨g, hg⟩ : ∃ g, (chL P W).getD j 0 = g := ⟨_, rfl⟩
          rw [hg] at hcc hxj
          have hm : leastF xs k P W (j + 1) = min (leastF xs k P W j) (rfar xs k (inP P j) W) := rfl
          rw [← hxj.2] at hm
          have hcn := hxj.1
          generalize hz : bits BinOp.xor IntKind.i64 x g = z at hm hcn
          obtain ⟨M, hM⟩ : ∃ M, leastF xs k P W j = M := ⟨_, rfl⟩
          rw [hM] at hm ⊢
          replace hm := Lib.hid hm
          replace hM := Lib.hid hM
          go_wp2_with fail
          refine (rmany_any z _ hcn.1 hcn.2).mono ?_
          rintro e w2 ⟨rfl, rfl⟩
          go_wp2_with fail
          exact ⟨⟨j + 1, by omega, by go_num, by rw [hm.out], by first | rfl | trivial⟩, by simp [intOf]; omega⟩
        · obtain rfl : j = N := by omega
          have hlb := hlk.out j
          obtain ⟨M, hM⟩ : ∃ M, leastF xs k P W j = M := ⟨_, rfl⟩
          rw [hM] at hs hlb ⊢
          replace hM := Lib.hid hM
          have ews : IntKind.i64.wrap (S + M) = S + M := IntWalk.i64_in _ ⟨by omega, by omega⟩
          go_wp2_with fail
          exact ⟨⟨k + 1, by omega, by go_num, by rw [hs.out], by first | rfl | trivial⟩, by simp [intOf]; omega⟩
    · obtain rfl : k = n := by omega
      go_wp2_with fail
      go_ret
      exact ⟨rfl, bb.out⟩
end Go.Proofs.Ytnhcknbbkmaiiaa

namespace Go.Proofs.Ytnhcknbbkmaiiaa
set_option maxRecDepth 100000
open Go.RowKit

theorem concat_box {wo : World} {s : Option Addr} {N cb : Nat} {C : List Int} (X : Int) (hr : Row wo s N C) (h1 : 1 ≤ N) (h2 : N ≤ 100) :
    Calls Try.prog 145 #[.slice (some ⟨wo.heap.size + 1, 0, none⟩) 2 2] ((wo.alloc (.cells #[.int .i64 X] 3)).alloc (.cells #[.slice s N cb, .slice (some ⟨wo.heap.size, 0, none⟩) 1 1] 23)).drew fun e w' =>
      (∃ a c, e = .returned (.slice a (N + 1) c) ∧ OwnI w' wo.heap.size a (N + 1) c (C ++ [X])) ∧ Below wo.heap.size wo w' := by
  obtain ⟨T, hT⟩ : ∃ T, T = ((wo.alloc (.cells #[.int .i64 X] 3)).alloc (.cells #[.slice s N cb, .slice (some ⟨wo.heap.size, 0, none⟩) 1 1] 23)) := ⟨_, rfl⟩
  have hb : Below wo.heap.size wo T := by rw [hT]; exact ((Below.refl _ _).alloc (Nat.le_refl _) _).alloc (by simp) _
  have c0 : T.cell? ⟨wo.heap.size + 1, 0, none⟩ = some (.slice s N cb) := by subst hT; go_simp
  have c1 : T.cell? ⟨wo.heap.size + 1, 1, none⟩ = some (.slice (some ⟨wo.heap.size, 0, none⟩) 1 1) := by subst hT; go_simp
  have c2 : T.cell? ⟨wo.heap.size, 0, none⟩ = some (.int .i64 X) := by subst hT; go_simp
  rw [← hT]
  clear hT
  have r1 : Row T (some ⟨wo.heap.size, 0, none⟩) 1 [X] := ⟨rfl, .inr ⟨_, _, rfl, fun i hi => by
    obtain rfl : i = 0 := by omega
    exact c2⟩⟩
  refine (concat_any (wo.heap.size + 1) N cb 1 s (some ⟨wo.heap.size, 0, none⟩) C X T.drew c0 c1 ((hr.bel hb).bel ((Below.refl _ _).drew)) (r1.bel ((Below.refl _ _).drew)) h1 h2).mono ?_
  rintro e w' ⟨⟨a, c, rfl, ho⟩, hb2⟩
  have hz := hb.size
  exact ⟨⟨a, c, rfl, ho.mono hz⟩, hb.trans (((Below.refl _ _).drew.trans hb2).mono hz)⟩

set_option maxHeartbeats 4000000 in
theorem along_any (W n : Nat) (a : Option Addr) (cap : Nat) (xs : List Int) (hI : Im W n xs) : ∀ (f : Nat) (P : List Nat) (N : Nat) (b : Option Addr) (cb : Nat) (w : World), Row w a n xs → Row w b N (chL P W) → P.length + 1 = N → P.Nodup → (∀ p, p ∈ P → p < W) → f + P.length = W →
    Calls Try.prog 106 #[.agg #[.int .i64 W, .slice a n cap], .slice b N cb] w fun e w' => e = .returned (.int .i64 (alongP xs W n f P)) ∧ Below w.heap.size w w' := by
  intro f
  have hw6 := hI.w6
  have hn6 := hI.l6
  induction f with
  | zero =>
    intro P N b cb w h hr hN hd hlt hf
    obtain ⟨L, hL⟩ : ∃ L, P.length = L := ⟨_, rfl⟩
    obtain ⟨W0, hW0⟩ : ∃ W0, W0 = w.alloc (.cells #[.int .i64 W, .slice a n cap] 25) := ⟨_, rfl⟩
    have bb : Hid (Below w.heap.size w W0) := by subst hW0; exact (Below.refl _ _).alloc (Nat.le_refl _) _
    have x0 : W0.cell? ⟨w.heap.size, 0, none⟩ = some (.int .i64 W) := by subst hW0; go_simp
    have x1 : W0.cell? ⟨w.heap.size, 1, none⟩ = some (.slice a n cap) := by subst hW0; go_simp
    have r := h.bel bb.out
    have rc := hr.bel bb.out
    have hm := (mask_full hw6 hd hlt).2 (by omega)
    have hst := steps_to W n a cap xs b N cb P W0 r hI rc hN (by omega)
    obtain ⟨bc, oc, rfl, hcc⟩ := row_at rc (show L < N by omega)
    have hg : (chL P W).getD L 0 = rowN (inP P P.length) W := by rw [hL]; exact ch_get (by omega)
    rw [hg, hm] at hcc
    have cf := full_any W W0 (by omega)
    obtain ⟨F, hF⟩ : ∃ F, pw W - 1 = F := ⟨_, rfl⟩
    rw [hF] at hcc cf
    have i1 : IntKind.i64.wrap ((N : Int) - 1) = (L : Int) := by rw [IntKind.wrap_i64]; omega
    have i3 : (N : Int) - 1 = (L : Int) := by omega
    have hLN : L < N := by omega
    have ewL : wrap64 (L : Int) = (L : Int) := IntWalk.wrap64_in _ ⟨by omega, by omega⟩
    rw [alongP]
    replace hF := Lib.hid hF
    replace hL := Lib.hid hL
    replace hN := Lib.hid hN
    clear h hr r rc hd hlt hm hg hf
    go_enter Try.func106, Try.ntmps106
    go_upto_region 1 with fail
    rw [← hW0]
    clear hW0
    go_wp2_with fail
    refine cf.mono ?_
    rintro e w1 ⟨rfl, rfl⟩
    go_wp2_with fail
    refine hst.mono ?_
    rintro e w2 ⟨rfl, hb⟩
    replace bb := Lib.hid (bb.out.trans (hb.mono bb.out.size))
    clear hb
    go_wp2_with fail
    go_ret
    exact ⟨rfl, bb.out⟩
  | succ f ih =>
    intro P N b cb w h hr hN hd hlt hf
    obtain ⟨L, hL⟩ : ∃ L, P.length = L := ⟨_, rfl⟩
    obtain ⟨W0, hW0⟩ : ∃ W0, W0 = w.alloc (.cells #[.int .i64 W, .slice a n cap] 25) := ⟨_, rfl⟩
    have bb : Hid (Below w.heap.size w W0) := by subst hW0; exact (Below.refl _ _).alloc (Nat.le_refl _) _
    have x0 : W0.cell? ⟨w.heap.size, 0, none⟩ = some (.int .i64 W) := by subst hW0; go_simp
    have x1 : W0.cell? ⟨w.heap.size, 1, none⟩ = some (.slice a n cap) := by subst hW0; go_simp
    have r := h.bel bb.out
    have rc := hr.bel bb.out
    have hm : ¬ rowN (inP P P.length) W = pw W - 1 := fun e => by have := (mask_full hw6 hd hlt).1 e; omega
    have hg : (chL P W).getD L 0 = rowN (inP P P.length) W := by rw [hL]; exact ch_get (by omega)
    have cf := full_any W W0 (by omega)
    have cm := many_impl (W : Int) a n cap xs W0 r (by omega)
    rw [hI.many] at cm
    have hor := Lib.hid (fun j (hj : j < W) => or_mask (P := P) hw6 hj)
    have hin := Lib.hid (fun j (hj : j < W) => mask_in (P := P) hw6 hj)
    have hsn := Lib.hid (fun j => ch_snoc P W j)
    have hrec := Lib.hid (fun j (hj : j < W) (hp : ¬ j ∈ P) (s : Option Addr) (c : Nat) (wx : World) (h1 : Row wx a n xs) (h2 : Row wx s (N + 1) (chL (P ++ [j]) W)) => ih (P ++ [j]) (N + 1) s c wx h1 h2 (by rw [List.length_append, List.length_singleton]; omega)
      (List.nodup_append.2 ⟨hd, by simp, fun p hp1 q hq e => by rw [List.mem_singleton] at hq; subst hq; subst e; exact hp hp1⟩) (fun p hp1 => by
        rcases List.mem_append.1 hp1 with e | e
        · exact hlt p e
        · rw [List.mem_singleton] at e; omega) (by rw [List.length_append, List.length_singleton]; omega))
    obtain ⟨C, hC⟩ : ∃ C, chL P W = C := ⟨_, rfl⟩
    obtain ⟨M, hM⟩ : ∃ M, rowN (inP P P.length) W = M := ⟨_, rfl⟩
    rw [hC] at rc hg
    rw [hM] at hm hg hor hin
    simp only [hC] at hsn
    obtain ⟨bc, oc, rfl, hcc⟩ := row_at rc (show L < N by omega)
    rw [hg] at hcc
    obtain ⟨F, hF⟩ : ∃ F, pw W - 1 = F := ⟨_, rfl⟩
    rw [hF] at hm cf
    have hne : (M == F) = false := by rw [beq_eq_false_iff_ne]; exact hm
    have i1 : IntKind.i64.wrap ((N : Int) - 1) = (L : Int) := by rw [IntKind.wrap_i64]; omega
    have i3 : (N : Int) - 1 = (L : Int) := by omega
    have hLN : L < N := by omega
    have hN7 : N ≤ 7 := by omega
    have hN1 : 1 ≤ N := by omega
    have ewL : wrap64 (L : Int) = (L : Int) := IntWalk.wrap64_in _ ⟨by omega, by omega⟩
    rw [alongP]
    obtain ⟨B0, hB0⟩ : ∃ B0, manyI W xs n = B0 := ⟨_, rfl⟩
    rw [hB0] at cm ⊢
    obtain ⟨G, hG⟩ : ∃ G, alongP xs W n f = G := ⟨_, rfl⟩
    rw [hG] at hrec ⊢
    replace hF := Lib.hid hF
    replace hL := Lib.hid hL
    replace hN := Lib.hid hN
    replace hC := Lib.hid hC
    replace hM := Lib.hid hM
    replace hB0 := Lib.hid hB0
    replace hG := Lib.hid hG
    replace r := Lib.hid r
    replace rc := Lib.hid rc
    replace hm := Lib.hid hm
    clear h hr hd hlt hg ih hf
    go_enter Try.func106, Try.ntmps106
    go_upto_region 1 with fail
    rw [← hW0]
    clear hW0
    go_wp2_with fail
    refine cf.mono ?_
    rintro e w1 ⟨rfl, rfl⟩
    go_wp2_with fail
    refine cm.mono ?_
    rintro e w1 ⟨rfl, hb⟩
    replace bb := Lib.hid (bb.out.trans (hb.mono bb.out.size))
    replace r := Lib.hid (r.out.bel hb)
    replace rc := Lib.hid (rc.out.bel hb)
    replace x0 := kept hb (block_lt x0) x0
    replace x1 := kept hb (block_lt x1) x1
    clear hb cf cm hcc
    go_wp2_with fail
    go_loopw [6, 27] (fun o i wr => ∃ j : Nat, j ≤ W ∧ i = .int .i64 j ∧ o = .int .i64 (loopP G P B0 j) ∧ wr.cell? ⟨w.heap.size, 0, none⟩ = some (.int .i64 W) ∧ wr.cell? ⟨w.heap.size, 1, none⟩ = some (.slice a n cap) ∧ Hid (Row wr a n xs) ∧ Hid (Row wr (some ⟨bc, oc, none⟩) N C) ∧ Hid (Below w.heap.size w wr)) (fun _ i _ => W - (intOf i).toNat)
    case atStart => exact ⟨0, Nat.zero_le _, rfl, rfl, x0, x1, r, rc, bb⟩
    case round =>
      clear x0 x1 r rc bb
      obtain ⟨j, hj, rfl, rfl, x0, x1, r, rc, bb⟩ := hrel
      obtain ⟨wo, rfl⟩ : ∃ wo : World, wo = wr := ⟨_, rfl⟩
      by_cases hlj : j < W
      · have epw := wrap_pow j (by omega)
        have ho := hor.out j hlj
        have hi := hin.out j hlj
        have hs := hsn.out j
        have hr2 := Lib.hid (hrec.out j hlj)
        obtain ⟨X, hX⟩ : ∃ X, rowN (inP (P ++ [j]) (P.length + 1)) W = X := ⟨_, rfl⟩
        rw [hX] at ho hi hs
        have e1 : bits BinOp.or IntKind.i64 M (wrap64 (2 ^ j)) = X := by rw [epw.1]; exact ho
        have e2 : bits BinOp.or IntKind.i64 M (IntKind.i64.wrap (2 ^ j)) = X := by rw [epw.2]; exact ho
        replace hX := Lib.hid hX
        replace ho := Lib.hid ho
        clear epw
        have hlp : loopP G P B0 (j + 1) = if j ∈ P then loopP G P B0 j else min (loopP G P B0 j) (G (P ++ [j])) := rfl
        by_cases hp : j ∈ P
        · have hXM := hi.2 hp
          rw [if_pos hp] at hlp
          subst hXM
          replace hlp := Lib.hid hlp
          clear hi hp hs hr2
          obtain ⟨V, hV⟩ : ∃ V, loopP G P B0 j = V := ⟨_, rfl⟩
          rw [hV] at hlp ⊢
          replace hV := Lib.hid hV
          go_wp2_with fail
          exact ⟨⟨j + 1, by omega, by go_num, by rw [hlp.out], x0, x1, r, rc, bb⟩, by simp [intOf]; omega⟩
        · have hXM : (X != M) = true := by rw [bne_iff_ne]; exact fun e => hp (hi.1 e)
          rw [if_neg hp] at hlp
          have hr3 := Lib.hid (fun s c wx h1 h2 => hr2.out hp s c wx h1 h2)
          rw [hs] at hr3
          replace hlp := Lib.hid hlp
          replace hs := Lib.hid hs
          clear hi hp hr2
          obtain ⟨V, hV⟩ : ∃ V, loopP G P B0 j = V := ⟨_, rfl⟩
          rw [hV] at hlp ⊢
          obtain ⟨U, hU⟩ : ∃ U, G (P ++ [j]) = U := ⟨_, rfl⟩
          rw [hU] at hlp hr3
          replace hV := Lib.hid hV
          replace hU := Lib.hid hU
          go_wp2_with fail
          have cc := Lib.hid (concat_box (cb := cb) X rc.out hN1 (by omega))
          have tok0 : True := trivial
          go_region_held3 (fun W' => W'.cell? ⟨w.heap.size, 0, none⟩ = some (.int .i64 W) ∧ W'.cell? ⟨w.heap.size, 1, none⟩ = some (.slice a n cap))
            (first | exact ⟨x0, x1⟩ | go_keep)
            (first | (go_at_call 145; have _t := tok0; (with_reducible refine cc.out.mono ?_); rintro e w2 ⟨⟨ac, c2, rfl, ho⟩, hb⟩; (have o := Lib.hid ho.row); (replace x0 := kept hb (block_lt x0) x0); (replace x1 := kept hb (block_lt x1) x1); (replace r := Lib.hid (r.out.bel hb)); (replace rc := Lib.hid (rc.out.bel hb)); (replace bb := Lib.hid (bb.out.trans (hb.mono bb.out.size))); clear hb ho tok0 _t cc; have tok1 : True := trivial) | (go_at_call 106; have _t := tok1; refine (hr3.out _ _ _ r.out o.out).mono ?_; rintro e w3 ⟨rfl, hb⟩; (replace x0 := kept hb (block_lt x0) x0); (replace x1 := kept hb (block_lt x1) x1); (replace r := Lib.hid (r.out.bel hb)); (replace rc := Lib.hid (rc.out.bel hb)); (replace bb := Lib.hid (bb.out.trans (hb.mono bb.out.size))); clear hb o tok1 _t; have tok2 : True := trivial))
          all_goals
            go_wp2_with fail
            exact ⟨⟨j + 1, by omega, by go_num, by rw [hlp.out], x0, x1, r, rc, bb⟩, by simp [intOf]; omega⟩
      · obtain rfl : j = W := by omega
        go_wp2_with fail
        go_ret
        exact ⟨rfl, bb.out⟩
end Go.Proofs.Ytnhcknbbkmaiiaa

namespace Go.Proofs.Ytnhcknbbkmaiiaa
set_option maxRecDepth 100000
open Go.RowKit

/-- What ImageSteps says. -/
def stepI (xs : List Int) (W n : Nat) : Int := alongP xs W n W []
def stO (V : Int) (xs : List Int) : Int := if validB V xs = true ∧ (xs.length : Int) * V ≤ 12 then stepI xs V.toNat xs.length else -1
theorem stepi_is {xs : List Int} {W n : Nat} (hI : Im W n xs) : IsSteps xs W n (stepI xs W n) := along_is hI
theorem stepi_bd {xs : List Int} {W n : Nat} (hI : Im W n xs) : 0 ≤ stepI xs W n ∧ stepI xs W n ≤ 36 := along_bd hI
theorem sto_yes {xs : List Int} {W n : Nat} (hI : Im W n xs) (h : n * W ≤ 12) : stO W xs = stepI xs W n := by
  unfold stO
  rw [if_pos ⟨hI.valid, by rw [hI.hl, ← Int.natCast_mul]; omega⟩, hI.hl, Int.toNat_natCast]
theorem sto_no {V : Int} {xs : List Int} (h : ¬ (validB V xs = true ∧ (xs.length : Int) * V ≤ 12)) : stO V xs = -1 := if_neg h
theorem stepi_turn {xs : List Int} {W n : Nat} (hI : Im W n xs) : stepI (turnL xs W n) n W = stepI xs W n := (stepi_is hI.turn).one ((stepi_is hI).turn hI)
theorem sto_bd (V : Int) (xs : List Int) : -1 ≤ stO V xs ∧ stO V xs ≤ 36 := by
  unfold stO
  split
  · rename_i h
    have h1 := validB_W h.1
    obtain ⟨W, rfl⟩ := Int.eq_ofNat_of_zero_le (by omega : 0 ≤ V)
    have := stepi_bd (Im.of h.1 rfl)
    rw [Int.toNat_natCast]; omega
  · omega
theorem zero_row (w : World) : Row (w.alloc (.cells #[.int .i64 0] 3)) (some ⟨w.heap.size, 0, none⟩) 1 [0] := ⟨rfl, .inr ⟨_, _, rfl, fun i hi => by
  obtain rfl : i = 0 := by omega
  go_simp⟩⟩
set_option maxHeartbeats 2000000 in
theorem steps_impl (V : Int) (a : Option Addr) (n cap : Nat) (xs : List Int) (w : World) (h : Row w a n xs) (hm : n ≤ 9223372036854775807) :
    Calls Try.prog 47 #[.agg #[.int .i64 V, .slice a n cap]] w fun e w' => e = .returned (.int .i64 (stO V xs)) ∧ Below w.heap.size w w' := by
  have hl := h.1
  obtain ⟨W0, hW0⟩ : ∃ W0, W0 = (w.alloc (.cells #[.int .i64 V, .slice a n cap] 25)) := ⟨_, rfl⟩
  have bb : Hid (Below w.heap.size w W0) := by subst hW0; exact (Below.refl _ _).alloc (Nat.le_refl _) _
  have x0 : W0.cell? ⟨w.heap.size, 0, none⟩ = some (.int .i64 V) := by subst hW0; go_simp
  have x1 : W0.cell? ⟨w.heap.size, 1, none⟩ = some (.slice a n cap) := by subst hW0; go_simp
  have xf : ∀ o, W0.frozen? ⟨w.heap.size, o, none⟩ = false := fun o => by subst hW0; go_simp
  have r := Lib.hid (h.bel bb.out)
  have hw0 : w.heap.size < W0.heap.size := block_lt x0
  clear h
  by_cases hv : validB V xs = true
  case neg =>
    rw [sto_no (fun h => hv h.1)]
    have hv : validB V xs = false := by simpa using hv
    go_enter Try.func47, Try.ntmps47
    go_wp2_with fail
    rw [← hW0]
    clear hW0
    refine (valid_impl V a n cap xs _ r.out hm).mono ?_
    rintro e v1 ⟨rfl, hb⟩
    have szv1 := hb.size
    replace xf : ∀ o, v1.frozen? ⟨w.heap.size, o, none⟩ = false := fun o => (hb.frozen (p := ⟨w.heap.size, o, none⟩) (show w.heap.size < _ from block_lt x0)).trans (xf o)
    replace x0 := kept hb (block_lt x0) x0
    replace x1 := kept hb (block_lt x1) x1
    replace r := Lib.hid (r.out.bel hb)
    replace bb := Lib.hid (bb.out.trans (hb.mono bb.out.size))
    rw [hv]
    clear hb
    go_wp2_with fail
    go_ret
    exact ⟨rfl, bb.out⟩
  have hW := validB_W hv
  obtain ⟨W, rfl⟩ := Int.eq_ofNat_of_zero_le (by omega : 0 ≤ V)
  have hI : Im W n xs := Im.of hv hl
  have hw6 := hI.w6
  have hn6 := hI.l6
  obtain ⟨N, hN⟩ : ∃ N, n * W = N := ⟨_, rfl⟩
  have ek : (n : Int) * (W : Int) = (N : Int) := by rw [← hN, Int.natCast_mul]
  have hN36 : N ≤ 36 := by rw [← hN]; exact Nat.mul_le_mul hn6 hw6
  have ewN : wrap64 (N : Int) = (N : Int) := IntWalk.wrap64_in _ ⟨by omega, by omega⟩
  have ewN2 : IntKind.i64.wrap (N : Int) = (N : Int) := IntWalk.i64_in _ ⟨by omega, by omega⟩
  by_cases h12 : N ≤ 12
  case neg =>
    rw [sto_no (fun h => by rw [hl, ek] at h; omega)]
    have h12i : (12 : Int) < (N : Int) := by omega
    replace hN := Lib.hid hN
    replace hI := Lib.hid hI
    go_enter Try.func47, Try.ntmps47
    go_wp2_with fail
    rw [← hW0]
    clear hW0
    refine (valid_impl (W : Int) a n cap xs _ r.out hm).mono ?_
    rintro e v2 ⟨rfl, hb⟩
    have szv2 := hb.size
    replace xf : ∀ o, v2.frozen? ⟨w.heap.size, o, none⟩ = false := fun o => (hb.frozen (p := ⟨w.heap.size, o, none⟩) (show w.heap.size < _ from block_lt x0)).trans (xf o)
    replace x0 := kept hb (block_lt x0) x0
    replace x1 := kept hb (block_lt x1) x1
    replace r := Lib.hid (r.out.bel hb)
    replace bb := Lib.hid (bb.out.trans (hb.mono bb.out.size))
    rw [hv]
    clear hb
    go_wp2_with fail
    go_ret
    exact ⟨rfl, bb.out⟩
  rw [sto_yes hI (by omega)]
  have h12i : ¬ (12 : Int) < (N : Int) := by omega
  by_cases hlt : n < W
  case neg =>
    have hlti : ¬ (n : Int) < (W : Int) := by omega
    have hal := Lib.hid (fun s c wx (hx : Row wx a n xs) (hr : Row wx s 1 [0]) => along_any W n a cap xs hI W [] 1 s c wx hx (by rw [ch_nil]; exact hr) rfl List.nodup_nil (fun p hp => by cases hp) (by simp))
    obtain ⟨K, hK⟩ : ∃ K, stepI xs W n = K := ⟨_, rfl⟩
    rw [hK]
    have hK2 : alongP xs W n W [] = K := hK
    rw [hK2] at hal
    replace hK := Lib.hid hK
    replace hK2 := Lib.hid hK2
    replace hN := Lib.hid hN
    replace hI := Lib.hid hI
    go_enter Try.func47, Try.ntmps47
    go_wp2_with fail
    rw [← hW0]
    clear hW0
    refine (valid_impl (W : Int) a n cap xs _ r.out hm).mono ?_
    rintro e v3 ⟨rfl, hb⟩
    have szv3 := hb.size
    replace xf : ∀ o, v3.frozen? ⟨w.heap.size, o, none⟩ = false := fun o => (hb.frozen (p := ⟨w.heap.size, o, none⟩) (show w.heap.size < _ from block_lt x0)).trans (xf o)
    replace x0 := kept hb (block_lt x0) x0
    replace x1 := kept hb (block_lt x1) x1
    replace r := Lib.hid (r.out.bel hb)
    replace bb := Lib.hid (bb.out.trans (hb.mono bb.out.size))
    rw [hv]
    clear hb
    go_wp2_with fail
    obtain ⟨w8, hw8⟩ : ∃ w8, v3.alloc (.cells #[.int .i64 0] 3) = w8 := ⟨_, rfl⟩
    have rz : Row w8 (some ⟨v3.heap.size, 0, none⟩) 1 [0] := by rw [← hw8]; exact zero_row _
    have hb : Below v3.heap.size v3 w8 := by rw [← hw8]; exact (Below.refl _ _).alloc (Nat.le_refl _) _
    rw [hw8]
    clear hw8
    have szw8 := hb.size
    replace xf : ∀ o, w8.frozen? ⟨w.heap.size, o, none⟩ = false := fun o => (hb.frozen (p := ⟨w.heap.size, o, none⟩) (show w.heap.size < _ from block_lt x0)).trans (xf o)
    replace x0 := kept hb (block_lt x0) x0
    replace x1 := kept hb (block_lt x1) x1
    replace r := Lib.hid (r.out.bel hb)
    replace bb := Lib.hid (bb.out.trans (hb.mono bb.out.size))
    clear hb
    refine (hal.out _ _ _ r.out rz).mono ?_
    rintro e v4 ⟨rfl, hb⟩
    have szv4 := hb.size
    replace xf : ∀ o, v4.frozen? ⟨w.heap.size, o, none⟩ = false := fun o => (hb.frozen (p := ⟨w.heap.size, o, none⟩) (show w.heap.size < _ from block_lt x0)).trans (xf o)
    replace x0 := kept hb (block_lt x0) x0
    replace x1 := kept hb (block_lt x1) x1
    replace r := Lib.hid (r.out.bel hb)
    replace bb := Lib.hid (bb.out.trans (hb.mono bb.out.size))
    clear hb
    go_wp2_with fail
    go_ret
    exact ⟨rfl, bb.out⟩
  have hlti : (n : Int) < (W : Int) := by omega
  have hIt := hI.turn
  have hal := Lib.hid (fun s c s2 c2 wx (hx : Row wx s2 W (turnL xs W n)) (hr : Row wx s 1 [0]) => along_any n W s2 c2 (turnL xs W n) hIt n [] 1 s c wx hx (by rw [ch_nil]; exact hr) rfl List.nodup_nil (fun p hp => by cases hp) (by simp))
  have htu := Lib.hid (fun s c wx hx => turn_ok hI s c wx hx)
  rw [← stepi_turn hI]
  obtain ⟨T, hT⟩ : ∃ T, turnL xs W n = T := ⟨_, rfl⟩
  rw [hT] at hal htu ⊢
  obtain ⟨K, hK⟩ : ∃ K, stepI T n W = K := ⟨_, rfl⟩
  rw [hK]
  have hK2 : alongP T n W n [] = K := hK
  rw [hK2] at hal
  replace hT := Lib.hid hT
  replace hK := Lib.hid hK
  replace hK2 := Lib.hid hK2
  replace hN := Lib.hid hN
  replace hI := Lib.hid hI
  replace hIt := Lib.hid hIt
  go_enter Try.func47, Try.ntmps47
  go_wp2_with fail
  rw [← hW0]
  clear hW0
  refine (valid_impl (W : Int) a n cap xs _ r.out hm).mono ?_
  rintro e v5 ⟨rfl, hb⟩
  have szv5 := hb.size
  replace xf : ∀ o, v5.frozen? ⟨w.heap.size, o, none⟩ = false := fun o => (hb.frozen (p := ⟨w.heap.size, o, none⟩) (show w.heap.size < _ from block_lt x0)).trans (xf o)
  replace x0 := kept hb (block_lt x0) x0
  replace x1 := kept hb (block_lt x1) x1
  replace r := Lib.hid (r.out.bel hb)
  replace bb := Lib.hid (bb.out.trans (hb.mono bb.out.size))
  rw [hv]
  clear hb
  go_wp2_with fail
  refine (htu.out _ _ _ r.out).mono ?_
  rintro e v6 ⟨⟨st, dt, rfl, ho⟩, hb⟩
  have szv6 := hb.size
  replace xf : ∀ o, v6.frozen? ⟨w.heap.size, o, none⟩ = false := fun o => (hb.frozen (p := ⟨w.heap.size, o, none⟩) (show w.heap.size < _ from block_lt x0)).trans (xf o)
  replace x0 := kept hb (block_lt x0) x0
  replace x1 := kept hb (block_lt x1) x1
  replace r := Lib.hid (r.out.bel hb)
  replace bb := Lib.hid (bb.out.trans (hb.mono bb.out.size))
  have ot := Lib.hid ho.row
  have rgt := rng_own ho
  clear ho hb
  go_wp2_with fail
  have hw5 : w.heap.size < v5.heap.size := by omega
  have hg := set2_grown v6 w.heap.size (.int .i64 n) (.slice st W dt)
  obtain ⟨v7, hv7⟩ : ∃ v7, (v6.setCell ⟨w.heap.size, 0, none⟩ (.int .i64 n)).setCell ⟨w.heap.size, 1, none⟩ (.slice st W dt) = v7 := ⟨_, rfl⟩
  have hs7 : v7.heap.size = v6.heap.size := by rw [← hv7]; simp [World.setCell]
  have b7 : Below w.heap.size w v7 := by rw [← hv7]; exact (bb.out.setCell (by simp) _).setCell (by simp) _
  rw [hv7] at hg ⊢
  have o7 : Row v7 st W T := ot.out.apart hg (fun b off e hn => by have := rgt ⟨b, off, none⟩ e; simp at this ⊢; omega)
  rw [← hs7]
  obtain ⟨w8, hw8⟩ : ∃ w8, v7.alloc (.cells #[.int .i64 0] 3) = w8 := ⟨_, rfl⟩
  have rz : Row w8 (some ⟨v7.heap.size, 0, none⟩) 1 [0] := by rw [← hw8]; exact zero_row _
  have hb : Below v7.heap.size v7 w8 := by rw [← hw8]; exact (Below.refl _ _).alloc (Nat.le_refl _) _
  have o8 := o7.bel hb
  have b8 := Lib.hid (b7.trans (hb.mono b7.size))
  rw [hw8]
  clear hw8 hb o7 b7 hv7 hs7 hg bb x0 x1 xf ot rgt
  refine (hal.out _ _ _ _ _ o8 rz).mono ?_
  rintro e v9 ⟨rfl, hb⟩
  replace b8 := Lib.hid (b8.out.trans (hb.mono b8.out.size))
  clear hb o8 rz
  go_wp2_with fail
  go_ret
  exact ⟨rfl, b8.out⟩
end Go.Proofs.Ytnhcknbbkmaiiaa
