/-
  The contract of slices.Repeat for a list of one number, as the library writes it.
  The contracts of the program's arrowsOf, sources, reaches and changeBetween.
-/
import Derived.Test.YtnfkafaolelkbaaGreatDoorMd
import Derived.Test.YtnfkafaolelkbaaGreatDoorSk
import Derived.Deep.RegionLaw
import Derived.Laws.CopyOwn
import Derived.Test.YtnfkafaolelkbaaGreatDoorA

namespace Go.Proofs.YtnfkafaolelkbaaGreatDoor
set_option maxRecDepth 100000
open Go.RowKit

set_option maxHeartbeats 2000000 in
theorem mul64_one (k : Nat) (w : World) (h : k < 13) :
    Calls Tryz.prog 92 #[.int .u64 1, .int .u64 k] w fun e w' => e = .returned (.tuple #[.int .u64 0, .int .u64 k]) ∧ w' = w := by
  go_enter Tryz.func92, Tryz.ntmps92
  go_wp2_with fail
  refine bodyPost_ret (v := .tuple #[.int .u64 0, .int .u64 k]) (by simp [results, Tryz.results92, go_sem]; revert k; decide +kernel) rfl ?_
  exact ⟨rfl, rfl⟩
set_option maxHeartbeats 2000000 in
theorem mul_one (k : Nat) (w : World) (h : k < 13) :
    Calls Tryz.prog 85 #[.int .u64 1, .int .u64 k] w fun e w' => e = .returned (.tuple #[.int .u64 0, .int .u64 k]) ∧ w' = w := by
  go_enter Tryz.func85, Tryz.ntmps85
  go_wp2_with fail
  refine (mul64_one k w h).mono ?_
  rintro e w1 ⟨rfl, rfl⟩
  go_wp2_with fail
  refine bodyPost_ret (v := .tuple #[.int .u64 0, .int .u64 k]) (by simp [results, Tryz.results85, go_sem]) rfl ?_
  exact ⟨rfl, rfl⟩
theorem own_heap {w : World} {B g n : Nat} {xs : List Int} (h : OwnI w B (some ⟨g, 0, none⟩) n n xs) : w.heap[g]? = some (.cells (xs.map (Value.int .i64)).toArray 3 (0, 0)) ∧ B ≤ g := by
  obtain ⟨h1, h2⟩ := h
  rcases h2 with ⟨e, _⟩ | ⟨g', cap, cur, e, hB, hh, _, _, hs, ht⟩
  · cases e
  · cases e
    rw [Nat.mul_one] at hs ht
    have : cur.toList.take n = cur.toList := List.take_of_length_le (by rw [Array.length_toList]; omega)
    rw [this] at ht
    refine ⟨?_, hB⟩
    rw [hh, ← ht]
theorem heap_own {w : World} {B g n : Nat} {xs : List Int} (h : w.heap[g]? = some (.cells (xs.map (Value.int .i64)).toArray 3 (0, 0))) (hB : B ≤ g) (hl : xs.length = n) (hm : n ≤ 1048576) : OwnI w B (some ⟨g, 0, none⟩) n n xs := by
  refine ⟨by rw [List.length_map, hl]; omega, .inr ⟨g, n, _, rfl, hB, h, Nat.le_refl _, by unfold maxLen; omega, by simp [hl], ?_⟩⟩
  exact List.take_of_length_le (by simp [hl])
/-- The first k places are filled. -/
def fillV (M k : Nat) (v : Int) : List Value := (List.replicate k v ++ List.replicate (M - k) 0).map (Value.int .i64)
theorem fill_len {M k : Nat} (v : Int) (h : k ≤ M) : (fillV M k v).length = M := by unfold fillV; simp; omega
theorem fill_more {M k c : Nat} (v : Int) (h : k + c ≤ M) : splice (fillV M k v) k ((List.replicate c v).map (Value.int .i64)) = fillV M (k + c) v := by
  unfold splice fillV
  rw [List.map_append, List.map_append, List.map_replicate, List.map_replicate, List.map_replicate, List.map_replicate, List.map_replicate, List.length_replicate]
  rw [List.take_append_of_le_length (by simp), List.take_of_length_le (by simp), List.drop_append]
  rw [List.drop_eq_nil_of_le (by simp), List.length_replicate, List.nil_append, List.drop_replicate, ← List.append_assoc, List.replicate_append_replicate]
  congr 2; omega
theorem fill_at {M k j : Nat} {v : Int} {wo : World} {g : Nat} (h : wo.heap[g]? = some (.cells (fillV M k v).toArray 3 (0, 0))) (hk : k ≤ M) (hM : M ≤ 1048576) (hj : j < k) : wo.cell? ⟨g, j, none⟩ = some (.int .i64 v) := by
  have ho : OwnI wo 0 (some ⟨g, 0, none⟩) (List.replicate k v ++ List.replicate (M - k) 0).length (List.replicate k v ++ List.replicate (M - k) 0).length (List.replicate k v ++ List.replicate (M - k) 0) := by
    refine ⟨by simp, .inr ⟨g, _, _, rfl, Nat.zero_le _, h, Nat.le_refl _, by unfold maxLen; simp; omega, by simp [fillV], List.take_of_length_le (by simp [fillV])⟩⟩
  have := own_cell ho (i := j) (by simp; omega)
  rw [this, getD_left (by simpa using hj), List.getD_eq_getElem?_getD, List.getElem?_replicate, if_pos hj]; rfl
theorem add_zero0 (g j : Nat) : Addr.add ⟨g, 0, none⟩ j = ⟨g, j, none⟩ := by simp [Addr.add]; exact Eq.symm
set_option maxHeartbeats 4000000 in
theorem repeat_any (k c1 : Nat) (v : Int) (M : Nat) (w : World) (hv : w.cell? ⟨k, 0, none⟩ = some (.int .i64 v)) (h2 : 2 ≤ M) (hM : M ≤ 12) :
    Calls Tryz.prog 74 #[.slice (some ⟨k, 0, none⟩) 1 c1, .int .i64 M] w fun e w' => (∃ g, e = .returned (.slice (some ⟨g, 0, none⟩) M M) ∧ OwnI w' w.heap.size (some ⟨g, 0, none⟩) M M (List.replicate M v)) ∧ Below w.heap.size w w' := by
  obtain ⟨i0, hi, hz0, hz1, hz2⟩ := info_parts infoInt
  have hmul := Lib.hid (fun wx => mul_one M wx (by omega))
  have eu : IntKind.u64.wrap (M : Int) = (M : Int) := by rw [IntWalk.u64_in _ ⟨by omega, by omega⟩]
  have ei : IntKind.i64.wrap (M : Int) = (M : Int) := IntWalk.i64_in _ ⟨by omega, by omega⟩
  have hgt : ¬ (9223372036854775807 : Int) < (M : Int) := by omega
  go_enter Tryz.func74, Tryz.ntmps74
  go_wp2_with fail
  refine (hmul.out _).mono ?_
  rintro e w1 ⟨rfl, rfl⟩
  clear hmul
  go_upto_region 6 with fail
  go_wp2_with ((refine wpList_make_full _ rfl _ _ 23 rfl w1.heap.size 3 i0 (.int .i64 0) 1 Tryz.underlying23 hi hz0 hz1 .i64 .i64 M M M rfl rfl rfl rfl ?_ ?_ ?_ ?_))
  · rw [hz2]; omega
  · unfold maxLen; omega
  · simp
  intro w2 ho hg
  obtain ⟨g, hgg⟩ : ∃ g, w1.heap.size = g := ⟨_, rfl⟩
  have ho0 : OwnI w2 w1.heap.size (some ⟨w1.heap.size, 0, none⟩) M M (List.replicate M 0) := by unfold OwnI; simpa [toList_madeCells_one, List.map_replicate] using ho
  have hh := (own_heap ho0).1
  have bb : Below w1.heap.size w1 w2 := (Below.refl _ _).grown hg (Nat.le_refl _) (fun k hk => by cases hk)
  have hv2 := kept bb (block_lt hv) hv
  have hkg : k < g := by rw [← hgg]; exact block_lt hv
  have h0 : (List.replicate M (0 : Int)).map (Value.int .i64) = fillV M 0 v := by unfold fillV; simp
  rw [h0, hgg] at hh
  have hsz : (Tryz.prog.info? 3).map (·.size) = some 1 := by rw [hi]; simp [hz1]
  rw [hgg] at bb ⊢
  replace bb := Lib.hid bb
  replace hh := Lib.hid hh
  clear ho hg ho0 h0
  go_wp2_with (refine wpList_copy_splice rfl _ _ 23 23 rfl 3 Tryz.underlying23 hsz _ _ M M 1 c1 rfl rfl g 0 (fillV M 0 v) 3 hh.out ((List.replicate 1 v).map (Value.int .i64)) ?c1 (fun _ => ⟨rfl, _, rfl, ?c2⟩) ?c3 ?c4 g w1 bb.out (Nat.le_refl _) ?_)
  case c1 => show 1 = min 1 M; omega
  case c2 => intro j u hj; cases j with | zero => simp at hj; subst hj; simpa [Addr.add] using hv2 | succ j => simp at hj
  case c3 => rw [fill_len v (by omega)]; simp; omega
  case c4 => exact ints_oneCell _ _
  intro w3 hh3 hb3
  have hh4 : Hid (w3.heap[g]? = some (.cells (fillV M (0 + 1) v).toArray 3 (0, 0))) := by rw [← fill_more v (by omega)]; exact hh3
  rw [Nat.zero_add] at hh4
  replace hb3 := Lib.hid hb3
  clear hh bb hv2 hh3
  go_wp2_with fail
  go_loopw [8] (fun x wr => ∃ q : Nat, 1 ≤ q ∧ q ≤ M ∧ x = .int .i64 q ∧ Hid (wr.heap[g]? = some (.cells (fillV M q v).toArray 3 (0, 0))) ∧ Hid (Below g w1 wr)) (fun x _ => M - (intOf x).toNat)
  case atStart => exact ⟨1, Nat.le_refl _, by omega, rfl, hh4, hb3⟩
  case round =>
    clear hh4 hb3
    obtain ⟨q, hq1, hq, rfl, hH, hB⟩ := hrel
    obtain ⟨wo, rfl⟩ : ∃ wo : World, wo = wr := ⟨_, rfl⟩
    by_cases hlt : q < M
    case neg =>
      obtain rfl : q = M := by omega
      go_wp2_with fail
      go_ret
      have e : fillV q q v = (List.replicate q v).map (Value.int .i64) := by unfold fillV; simp
      have h1 := hH.out
      rw [e] at h1
      exact ⟨⟨g, rfl, heap_own h1 (by omega) (by simp) (by omega)⟩, by rw [hgg]; exact hB.out⟩
    obtain ⟨d, hd⟩ : ∃ d, min q (M - q) = d := ⟨_, rfl⟩
    have hn1 : ¬ M = q := by omega
    have hn2 : ¬ q = 0 := by omega
    have hd1 : 1 ≤ d ∧ q + d ≤ M := by omega
    have ea : IntKind.i64.wrap ((q : Int) + (d : Int)) = (q : Int) + (d : Int) := IntWalk.i64_in _ ⟨by omega, by omega⟩
    have hfz := Lib.hid (fun j (hj : j < q) => fill_at (wo := wo) hH.out hq (by omega) hj)
    have hG : Hid (wo.drew.heap[g]? = some (.cells (fillV M q v).toArray 3 (0, 0))) := hH.out
    have hBd := Lib.hid hB.out.drew
    have hfd := Lib.hid (fun j (hj : j < q) => (World.cell?_drew wo ⟨g, j, none⟩).trans (hfz.out j hj))
    clear hH hB hfz
    go_wp2_with fail
    go_region_law (first | ((refine step_copy_splice (by rfl) _ _ 23 23 (by rfl) 3 Tryz.underlying23 hsz _ _ (M - q) (M - q) q M (by rfl) (by rfl) g q (fillV M q v) 3 hG.out ((List.replicate d v).map (Value.int .i64)) (by rw [List.length_map, List.length_replicate, ← hd]) (fun _ => ⟨(by rfl), _, (by rfl), fun j u hj => by
      rw [List.getElem?_map, List.getElem?_replicate] at hj
      by_cases e : j < d
      · rw [if_pos e] at hj; cases hj; exact (congrArg wo.drew.cell? (add_zero0 g j)).trans (hfd.out j (by omega))
      · rw [if_neg e] at hj; cases hj⟩) (by rw [fill_len v hq, List.length_map, List.length_replicate]; omega) (ints_oneCell _ _) g w1 hBd.out (Nat.le_refl _) ?_); intro w4 hh4 hb4))
    have hh5 : Hid (w4.heap[g]? = some (.cells (fillV M (q + d) v).toArray 3 (0, 0))) := by rw [← fill_more v (by omega)]; exact hh4
    replace hb4 := Lib.hid hb4
    clear hh4 hG hBd hfd
    go_simp
    go_wp2_with fail
    exact ⟨⟨q + d, by omega, by omega, by go_num, hh5, hb4⟩, by simp [intOf]; omega⟩
end Go.Proofs.YtnfkafaolelkbaaGreatDoor

namespace Go.Proofs.YtnfkafaolelkbaaGreatDoor
set_option maxRecDepth 100000
open Go.RowKit

theorem and_one_nat : ∀ y, y < 4096 → bits BinOp.and IntKind.i64 ((y : Nat) : Int) 1 = ((y : Nat) : Int) % 2 := by decide +kernel
theorem shr_12 {x : Int} {j : Nat} (h0 : 0 ≤ x) (h1 : x ≤ 4095) : bits BinOp.and IntKind.i64 (x / 2 ^ j) 1 = bitI x j := by
  have hp := pw_pos j
  rw [← pw_pow]
  have hd : 0 ≤ x / pw j := Int.ediv_nonneg h0 (by omega)
  have hd2 : x / pw j ≤ x := Int.ediv_le_self _ h0
  obtain ⟨y, hy⟩ := Int.eq_ofNat_of_zero_le hd
  unfold bitI
  rw [hy, and_one_nat y (by omega)]
theorem rowsh_nat : ∀ n, n < 7 → ∀ q, q < 12 → ∀ x, x < 64 → bitI (((x : Nat) : Int) * pw n) q = if q < n then 0 else bitI ((x : Nat) : Int) (q - n) := by decide +kernel
/-- A column's number: a bit for each of the first rows whose cell is not set. -/
def nocI (xs : List Int) (l : Nat) : Nat → Int
  | 0 => 0
  | r + 1 => nocI xs l r + (1 - bitI (xs.getD r 0) l) * pw r
theorem noc_bd (xs : List Int) (l : Nat) : ∀ k, 0 ≤ nocI xs l k ∧ nocI xs l k ≤ pw k - 1
  | 0 => by simp [nocI, pw]
  | k + 1 => by
    have ih := noc_bd xs l k
    have hp := pw_pos k
    have hb := bit_01 (xs.getD k 0) l
    simp only [nocI, pw_succ]
    rcases (show bitI (xs.getD k 0) l = 0 ∨ bitI (xs.getD k 0) l = 1 by omega) with e | e <;> rw [e] <;> omega
theorem noc_bit (xs : List Int) (l q : Nat) : ∀ k, k ≤ 6 → bitI (nocI xs l k) q = if q < k then 1 - bitI (xs.getD q 0) l else 0
  | 0, _ => by simp [nocI, bitI]
  | k + 1, hk => by
    have ih := noc_bit xs l q k (by omega)
    have hd := noc_bd xs l k
    have hb := bit_01 (xs.getD k 0) l
    have hp := pw_63 (show k ≤ 6 by omega)
    by_cases h7 : q < 7
    · obtain ⟨c, hc⟩ := Int.eq_ofNat_of_zero_le hd.1
      have hn := badd_nat k (by omega) c (by omega) (by omega) q h7
      simp only [nocI]
      rw [hc] at ih hd ⊢
      rcases (show bitI (xs.getD k 0) l = 0 ∨ bitI (xs.getD k 0) l = 1 by omega) with e | e
      · rw [e, show (1 - 0 : Int) * pw k = pw k by omega, hn.2]
        by_cases e2 : q = k
        · subst e2; rw [if_pos rfl, if_pos (by omega), e]; rfl
        · rw [if_neg e2, ih]
          by_cases e3 : q < k
          · rw [if_pos e3, if_pos (by omega)]
          · rw [if_neg e3, if_neg (by omega)]
      · rw [e, show ((1 - 1 : Int) * pw k) = 0 by omega, Int.add_zero, ih]
        by_cases e2 : q = k
        · subst e2; rw [if_neg (by omega), if_pos (by omega), e]; rfl
        · by_cases e3 : q < k
          · rw [if_pos e3, if_pos (by omega)]
          · rw [if_neg e3, if_neg (by omega)]
    · have h1 := noc_bd xs l (k + 1)
      rw [if_neg (by omega)]
      exact bit_high h1.1 h1.2 (by omega)
/-- The arrows while they are made. -/
def arrK (xs : List Int) (n i k j p : Nat) : Int := if p < n then (if p < i then xs.getD p 0 * pw n else 0) else nocI xs (p - n) (if p - n < j then k + 1 else k)
/-- A matrix of bits that is that of arrows. -/
def Arrs (ms : List Int) (arr : Nat → Nat → Bool) (M : Nat) : Prop := ms.length = M ∧ ∀ p, p < M → 0 ≤ ms.getD p 0 ∧ ms.getD p 0 ≤ 4095 ∧ ∀ q, q < M → bitI (ms.getD p 0) q = bI (arr p q)
theorem pw_le64 {n : Nat} (h : n ≤ 6) : 1 ≤ pw n ∧ pw n ≤ 64 := ⟨pw_pos n, pw_63 h⟩
theorem arrs_all {W n : Nat} {xs : List Int} (h : Im W n xs) : Arrs (rowsL (arrK xs n n n 0) (n + W)) (arC (cellOf xs) n) (n + W) := by
  have hw6 := h.w6
  have hn6 := h.l6
  refine ⟨rows_len _ _, fun p hp => ?_⟩
  rw [rows_get (arrK xs n n n 0) hp]
  by_cases e : p < n
  · have ea : arrK xs n n n 0 p = xs.getD p 0 * pw n := by unfold arrK; rw [if_pos e, if_pos e]
    rw [ea]
    obtain ⟨x, hx, hx64⟩ := h.nat e
    have hpw := pw_le64 hn6
    rw [hx]
    have hm : 0 ≤ (x : Int) * pw n := Int.mul_nonneg (by omega) (by omega)
    have hm2 : (x : Int) * pw n ≤ 63 * 64 := Int.mul_le_mul (by omega) hpw.2 (by omega) (by omega)
    refine ⟨hm, by omega, fun q hq => ?_⟩
    rw [rowsh_nat n (by omega) q (by omega) x hx64, ← hx]
    unfold arC
    rw [if_pos e]
    by_cases e2 : q < n
    · rw [if_pos e2, decide_eq_false (by omega)]; rfl
    · rw [if_neg e2, decide_eq_true (by omega), Bool.true_and, cell_bit]
  · have ea : arrK xs n n n 0 p = nocI xs (p - n) n := by unfold arrK; rw [if_neg e, if_neg (by omega)]
    rw [ea]
    have hb := noc_bd xs (p - n) n
    have hpw := pw_le64 hn6
    refine ⟨hb.1, by omega, fun q hq => ?_⟩
    rw [noc_bit xs (p - n) q n hn6]
    unfold arC
    rw [if_neg e]
    by_cases e2 : q < n
    · rw [if_pos e2, decide_eq_true e2, Bool.true_and, bI_not, cell_bit]
    · rw [if_neg e2, decide_eq_false e2]; rfl
theorem arr_row {xs : List Int} {n i M : Nat} (hi : i < n) (hM : n ≤ M) : (rowsL (arrK xs n i i 0) M).set i (xs.getD i 0 * pw n) = rowsL (arrK xs n (i + 1) i 0) M :=
  rows_set _ _ (by omega) (by unfold arrK; rw [if_pos hi, if_pos (by omega)]) fun k _ hne => by
    unfold arrK
    by_cases e : k < n
    · rw [if_pos e, if_pos e]
      by_cases e2 : k < i
      · rw [if_pos e2, if_pos (by omega)]
      · rw [if_neg e2, if_neg (by omega)]
    · rw [if_neg e, if_neg e]
theorem arr_col {xs : List Int} {n i j W : Nat} (hj : j < W) : (rowsL (arrK xs n (i + 1) i j) (n + W)).set (n + j) (nocI xs j (i + 1)) = rowsL (arrK xs n (i + 1) i (j + 1)) (n + W) :=
  rows_set _ _ (by omega) (by unfold arrK; rw [if_neg (by omega), show n + j - n = j by omega, if_pos (by omega)]) fun k _ hne => by
    unfold arrK
    by_cases e : k < n
    · rw [if_pos e, if_pos e]
    · rw [if_neg e, if_neg e]
      by_cases e2 : k - n < j
      · rw [if_pos e2, if_pos (by omega)]
      · rw [if_neg e2, if_neg (by omega)]
theorem arr_next {xs : List Int} {n i W : Nat} : rowsL (arrK xs n (i + 1) i W) (n + W) = rowsL (arrK xs n (i + 1) (i + 1) 0) (n + W) :=
  rows_ext fun k hk => by
    unfold arrK
    by_cases e : k < n
    · rw [if_pos e, if_pos e]
    · rw [if_neg e, if_neg e, if_pos (by omega), if_neg (by omega)]
theorem arr_none (xs : List Int) (n M : Nat) : rowsL (arrK xs n 0 0 0) M = List.replicate M 0 := by
  have : ∀ k, k < M → arrK xs n 0 0 0 k = 0 := fun k hk => by
    unfold arrK
    by_cases e : k < n
    · rw [if_pos e, if_neg (by omega)]
    · rw [if_neg e, if_neg (by omega)]; rfl
  rw [rows_ext (g := fun _ => 0) this]
  unfold rowsL
  apply List.ext_getElem (by simp)
  intro k h1 h2; simp
theorem arr_at {xs : List Int} {n i k j l W : Nat} (hl : l < W) : (rowsL (arrK xs n i k j) (n + W)).getD (n + l) 0 = nocI xs l (if l < j then k + 1 else k) := by
  rw [rows_get (arrK xs n i k j) (by omega)]
  unfold arrK
  rw [if_neg (by omega), show n + l - n = l by omega]
set_option maxHeartbeats 4000000 in
theorem arrows_any (W : Nat) (a : Option Addr) (n cap : Nat) (xs : List Int) (w : World) (h : Row w a n xs) (hv : Im W n xs) :
    Calls Tryz.prog 37 #[.agg #[.int .i64 W, .slice a n cap]] w fun e w' => (∃ g, e = .returned (.slice (some ⟨g, 0, none⟩) (n + W) (n + W)) ∧ OwnI w' w.heap.size (some ⟨g, 0, none⟩) (n + W) (n + W) (rowsL (arrK xs n n n 0) (n + W))) ∧ Below w.heap.size w w' := by
  have hw6 := hv.w6
  have hn6 := hv.l6
  have hw1 := hv.w1
  have hn1 := hv.l1
  have hl := h.1
  have hrow := Lib.hid (fun i hi => hv.row i hi)
  have hpw := pw_le64 hn6
  have hp6 := pw_63 hw6
  obtain ⟨W0, hW0⟩ : ∃ W0, W0 = (w.alloc (.cells #[.int .i64 W, .slice a n cap] 28)) := ⟨_, rfl⟩
  have bb : Hid (Below w.heap.size w W0) := by subst hW0; exact (Below.refl _ _).alloc (Nat.le_refl _) _
  have x0 : W0.cell? ⟨w.heap.size, 0, none⟩ = some (.int .i64 W) := by subst hW0; go_simp
  have x1 : W0.cell? ⟨w.heap.size, 1, none⟩ = some (.slice a n cap) := by subst hW0; go_simp
  have r := Lib.hid (h.bel bb.out)
  have rb := Lib.hid (row_lt h)
  obtain ⟨M, hM⟩ : ∃ M, n + W = M := ⟨_, rfl⟩
  have eM : (n : Int) + (W : Int) = (M : Int) := by omega
  have hM12 : 2 ≤ M ∧ M ≤ 12 := by omega
  have hnx := Lib.hid (fun i => arr_next (xs := xs) (n := n) (i := i) (W := W))
  have hcol := Lib.hid (fun (i j : Nat) (hj : j < W) => arr_col (xs := xs) (n := n) (i := i) hj)
  have hat := Lib.hid (fun (i k j l : Nat) (hl : l < W) => arr_at (xs := xs) (n := n) (i := i) (k := k) (j := j) hl)
  have hnM : n ≤ M := by omega
  rw [hM] at hnx hcol hat ⊢
  obtain ⟨i0, hi, hz0, hz1, hz2⟩ := info_parts infoInt
  replace eM := Lib.hid eM
  replace hM := Lib.hid hM
  clear h hv
  go_enter Tryz.func37, Tryz.ntmps37
  go_upto_region 1 with fail
  rw [← hW0]
  clear hW0
  go_wp2_with ((refine wpList_make_full W0 rfl _ _ 58 rfl W0.heap.size 3 i0 (.int .i64 0) 1 Tryz.underlying58 hi hz0 hz1 .i64 .i64 M M M (by first | rfl | exact congrArg (Value.int .i64) eM.out) (by first | rfl | exact congrArg (Value.int .i64) eM.out) rfl rfl ?_ ?_ ?_ ?_))
  · rw [hz2]; omega
  · unfold maxLen; omega
  · simp
  intro U0 ho hg
  obtain ⟨g, hgg⟩ : ∃ g, W0.heap.size = g := ⟨_, rfl⟩
  have ho0 : OwnI U0 W0.heap.size (some ⟨W0.heap.size, 0, none⟩) M M (List.replicate M 0) := by unfold OwnI; simpa [toList_madeCells_one, List.map_replicate] using ho
  have hb : Below W0.heap.size W0 U0 := (Below.refl _ _).grown hg (Nat.le_refl _) (fun k hk => by cases hk)
  have l0 : w.heap.size < W0.heap.size := block_lt x0
  have og : W0.heap.size < U0.heap.size := (rng_own ho0 _ rfl).2
  have szU0 := hb.size
  replace x0 := kept hb (block_lt x0) x0
  replace x1 := kept hb (block_lt x1) x1
  replace r := Lib.hid (r.out.bel hb)
  replace bb := Lib.hid (bb.out.trans (hb.mono bb.out.size))
  have ho1 : Hid (OwnI U0 (w.heap.size + 1) (some ⟨g, 0, none⟩) M M (rowsL (arrK xs n 0 0 0) M)) := by rw [arr_none, ← hgg]; exact ho0.mono (by omega)
  clear ho hg ho0
  clear hb
  rw [hgg] at og ⊢
  have l1 : w.heap.size < g := by omega
  go_upto_region 4 with fail
  go_loopw [19] (fun i wr => ∃ k : Nat, k ≤ n ∧ i = .int .i64 k ∧ Hid (U0.grownBy wr (some g)) ∧ Hid (OwnI wr (w.heap.size + 1) (some ⟨g, 0, none⟩) M M (rowsL (arrK xs n k k 0) M))) (fun i _ => n - (intOf i).toNat)
  case atStart => exact ⟨0, Nat.zero_le _, rfl, World.grownBy.refl _ _, ho1⟩
  case round =>
    clear ho1
    obtain ⟨k, hk, rfl, hG, hO⟩ := hrel
    obtain ⟨wo, rfl⟩ : ∃ wo : World, wo = wr := ⟨_, rfl⟩
    by_cases hlt : k < n
    · have rk := r.out.apart hG.out (fun b off e hn => by have := rb.out b off e hn; simp; omega)
      obtain ⟨b, off, e, ck⟩ := row_at rk hlt
      have hck := own_cell hO.out (show k < M by omega)
      have hfz := hO.out.frozen
      have hst := Lib.hid (hO.out.set k (xs.getD k 0 * pw n))
      rw [arr_row hlt hnM] at hst
      have hG2 := Lib.hid (grown_set (j := k) (v := .int .i64 (xs.getD k 0 * pw n)) hG.out)
      have hx := hrow.out k hlt
      have hx2 : xs.getD k 0 * pw n ≤ 63 * 64 := Int.mul_le_mul (by omega) hpw.2 (by omega) (by omega)
      have hx1 : 0 ≤ xs.getD k 0 * pw n := Int.mul_nonneg hx.1 (by omega)
      have esh : wrap64 (xs.getD k 0 * 2 ^ n) = xs.getD k 0 * pw n := by rw [← pw_pow, IntWalk.wrap64_in _ ⟨by omega, by omega⟩]
      have esh2 : IntKind.i64.wrap (xs.getD k 0 * 2 ^ n) = xs.getD k 0 * pw n := by rw [← pw_pow, IntWalk.i64_in _ ⟨by omega, by omega⟩]
      obtain ⟨x, hxx⟩ : ∃ x, xs.getD k 0 = x := ⟨_, rfl⟩
      rw [hxx] at ck hx hx1 hx2 esh esh2 hst hG2
      replace hxx := Lib.hid hxx
      generalize (rowsL (arrK xs n k k 0) M).getD k 0 = y at hck
      have z0 := hG.out.cell x0 (by simp; omega)
      have z1 := hG.out.cell x1 (by simp; omega)
      clear hO hG rk
      subst e
      go_upto_region 7 with fail
      obtain ⟨V0, hV0⟩ : ∃ V0, wo.setCell ⟨g, k, none⟩ (.int .i64 (x * pw n)) = V0 := ⟨_, rfl⟩
      (try rw [esh])
      (try rw [hV0])
      rw [hV0] at hst hG2
      clear hck hfz ck hV0 z0 z1 esh esh2
      have z0 := hG2.out.cell x0 (by simp; omega)
      have z1 := hG2.out.cell x1 (by simp; omega)
      go_wp2_with fail
      go_loopw [32] (fun i wr => ∃ j : Nat, j ≤ W ∧ i = .int .i64 j ∧ Hid (U0.grownBy wr (some g)) ∧ Hid (OwnI wr (w.heap.size + 1) (some ⟨g, 0, none⟩) M M (rowsL (arrK xs n (k + 1) k j) M))) (fun i _ => W - (intOf i).toNat)
      case atStart => exact ⟨0, Nat.zero_le _, rfl, hG2, hst⟩
      case round =>
        clear hst hG2 z0 z1
        obtain ⟨j, hj, rfl, hG, hO⟩ := hrel
        by_cases hlj : j < W
        · obtain ⟨u, hu⟩ : ∃ u, n + j = u := ⟨_, rfl⟩
          have eu : (n : Int) + (j : Int) = (u : Int) := by omega
          have huM : u < M := by have := hM.out; omega
          have ewu : IntKind.i64.wrap (u : Int) = (u : Int) := IntWalk.i64_in _ ⟨by omega, by omega⟩
          have hb := bit_01 x j
          have hnb := noc_bd xs j k
          have hpk := pw_le64 (show k ≤ 6 by omega)
          have eand : bits BinOp.and IntKind.i64 (x / 2 ^ j) 1 = bitI x j := shr_12 hx.1 (by omega)
          have E : bits BinOp.or IntKind.i64 (nocI xs j k) (wrap64 ((1 - bitI x j) * 2 ^ k)) = nocI xs j (k + 1) := by
            rw [← pw_pow, IntWalk.wrap64_in _ (by rcases (show bitI x j = 0 ∨ bitI x j = 1 by omega) with e | e <;> rw [e] <;> omega), or_bit (by omega) hnb ⟨by omega, by omega⟩]
            simp only [nocI]; rw [hxx.out]
          have E2 : wrap64 (1 - bitI x j) = 1 - bitI x j := IntWalk.wrap64_in _ ⟨by omega, by omega⟩
          have E3 : IntKind.i64.wrap (1 - bitI x j) = 1 - bitI x j := IntWalk.i64_in _ ⟨by omega, by omega⟩
          have hc := own_cell hO.out (show u < M by omega)
          have hs := (hO.out.bel ((Below.refl _ _).drew)).set u (nocI xs j (k + 1))
          rw [← hu] at hc hs
          rw [hcol.out k j hlj] at hs
          rw [hat.out _ _ _ _ hlj, if_neg (Nat.lt_irrefl _)] at hc
          rw [hu] at hc hs
          obtain ⟨W2, hW2⟩ : ∃ W2, wr.drew = W2 := ⟨_, rfl⟩
          rw [hW2] at hs
          have hb2 : Below wr.heap.size wr W2 := by rw [← hW2]; exact (Below.refl _ _).drew
          have q0 := kept hb2 (block_lt (hG.out.cell x0 (by simp; omega))) (hG.out.cell x0 (by simp; omega))
          have q1 := kept hb2 (block_lt (hG.out.cell x1 (by simp; omega))) (hG.out.cell x1 (by simp; omega))
          have q2 : W2.cell? ⟨g, u, none⟩ = some (.int .i64 (nocI xs j k)) := by rw [← hW2]; exact hc
          have q3 : W2.frozen? ⟨g, u, none⟩ = false := by rw [← hW2]; exact hO.out.frozen u
          have hG3 : U0.grownBy W2 (some g) := grown_trans hG.out (below_grown hb2 (some g))
          have hG4 := Lib.hid (grown_set (j := u) (v := .int .i64 (nocI xs j (k + 1))) hG3)
          replace hs := Lib.hid hs
          generalize nocI xs j k = c at *
          generalize nocI xs j (k + 1) = c2 at *
          generalize bitI x j = bt at *
          clear hG hO hG3 hb2 hnb
          replace hu := Lib.hid hu
          go_wp2_with fail
          refine region_tail 15 (by kernel_rfl) (by kernel_rfl) W2 hW2 ?_
          simp only [List.take_succ_cons, List.take_zero, List.drop_succ_cons, List.drop_zero]
          clear hW2 hc
          repeat still_step
          refine wpStill_nil ?_
          go_wp2_with fail
          exact ⟨⟨j + 1, by omega, by go_num, hG4, hs⟩, by simp [intOf]; omega⟩
        · obtain rfl : j = W := by omega
          rw [hnx.out] at hO
          go_wp2_with fail
          exact ⟨⟨k + 1, by omega, by go_num, hG, hO⟩, by simp [intOf]; omega⟩
    · obtain rfl : k = n := by omega
      have bG : Below w.heap.size w wo := bb.out.trans ((grown_below hG.out).mono (by omega))
      replace bG := Lib.hid bG
      go_wp2_with fail
      go_ret
      exact ⟨⟨g, rfl, hO.out.mono (by omega)⟩, bG.out⟩
theorem Arrs.bit {ms : List Int} {arr : Nat → Nat → Bool} {M p q : Nat} (h : Arrs ms arr M) (hp : p < M) (hq : q < M) : bits BinOp.and IntKind.i64 (ms.getD p 0 / 2 ^ q) 1 = bI (arr p q) := by
  have := h.2 p hp
  rw [shr_12 this.1 this.2.1]; exact this.2.2 q hq
set_option maxHeartbeats 4000000 in
theorem sources_any (a : Option Addr) (M cap : Nat) (ms : List Int) (arr : Nat → Nat → Bool) (s : Nat) (w : World) (h : Row w a M ms) (hA : Arrs ms arr M) (h2 : 2 ≤ M) (h12 : M ≤ 12) (hs : s < M) :
    Calls Tryz.prog 57 #[.slice a M cap, .int .i64 s] w fun e w' => (∃ g, e = .returned (.slice (some ⟨g, 0, none⟩) M M) ∧ OwnI w' w.heap.size (some ⟨g, 0, none⟩) M M (bfsP arr M s)) ∧ Below w.heap.size w w' := by
  have hseen := Lib.hid (fun k => seen_k arr hs k)
  have hdone := Lib.hid (fun k h1 h2 => bfs_done arr (m := M) (s := s) (a := k) h1 h2)
  have hbit := Lib.hid (fun (p q : Nat) (hp : p < M) (hq : q < M) => hA.bit hp hq)
  have hrg := Lib.hid (fun (p : Nat) (hp : p < M) => hA.2 p hp)
  have hR := Lib.hid h
  clear h hA
  go_enter Tryz.func57, Tryz.ntmps57
  go_wp2_with fail
  refine (repeat_any w.heap.size 1 (-1) M (w.alloc (.cells #[.int .i64 (-1)] 3)) (by simp) h2 h12).mono ?_
  rintro e w1 ⟨⟨g, rfl, ho⟩, hb⟩
  have bb : Below w.heap.size w w1 := ((Below.refl _ _).alloc (Nat.le_refl _) _).trans (hb.mono (by simp))
  have ho1 : OwnI w1 w.heap.size (some ⟨g, 0, none⟩) M M (List.replicate M (-1)) := ho.mono (by simp)
  have hgg : w.heap.size ≤ g ∧ g < w1.heap.size := rng_own ho1 _ rfl
  have hck := own_cell ho1 hs
  have hfz := ho1.frozen
  have hst := Lib.hid (ho1.set s s)
  have hB1 := Lib.hid (bb.setCell (show w.heap.size ≤ (⟨g, s, none⟩ : Addr).block from hgg.1) (.int .i64 s))
  generalize (List.replicate M (-1 : Int)).getD s 0 = x at hck
  clear ho hb bb ho1
  go_upto_region 3 with fail
  obtain ⟨w2, hw2⟩ : ∃ w2, w1.setCell ⟨g, s, none⟩ (.int .i64 s) = w2 := ⟨_, rfl⟩
  rw [hw2] at hst hB1
  (try rw [hw2])
  have hz1 : w1.heap.size = w2.heap.size := by rw [← hw2]; simp [World.setCell]
  clear hck hfz hw2
  have hbs := hB1.out.size
  have hown2 : OwnI (w2.alloc (.cells #[.int .i64 s] 3)) w.heap.size (some ⟨w2.heap.size, 0, none⟩) 1 1 [(s : Int)] := World.ownsRow_lit w2 #[.int .i64 s] 1 (by omega) (by decide) rfl
  have hT : Hid (TW w (w2.alloc (.cells #[.int .i64 s] 3)) M g M (bfsK arr M (bfs0 M s) 0).2.length w2.heap.size 1 (bfsK arr M (bfs0 M s) 0).1 (bfsK arr M (bfs0 M s) 0).2) :=
    ⟨World.ownsRow.alloc hst.out _, hown2, hB1.out.alloc (by omega) _, by omega⟩
  clear hown2 hst hB1
  go_wp2_with fail
  go_loopw [6, 7] (fun o i wr => ∃ (b g2 c2 : Nat), b ≤ M ∧ i = .int .i64 b ∧ o = .slice (some ⟨g2, 0, none⟩) (bfsK arr M (bfs0 M s) b).2.length c2 ∧ Hid (TW w wr M g M (bfsK arr M (bfs0 M s) b).2.length g2 c2 (bfsK arr M (bfs0 M s) b).1 (bfsK arr M (bfs0 M s) b).2)) (fun _ i _ => M - (intOf i).toNat)
  case atStart => exact ⟨0, _, 1, Nat.zero_le _, rfl, rfl, hT⟩
  case round =>
    clear hT
    obtain ⟨b, g2, c2, hb, rfl, rfl, hT⟩ := hrel
    obtain ⟨wq, rfl⟩ : ∃ wq : World, wq = wr := ⟨_, rfl⟩
    have hsn := hseen.out b
    have hsh := hsn.short
    by_cases hlt : b < (bfsK arr M (bfs0 M s) b).2.length
    case neg =>
      have hd := hdone.out b hb (by omega)
      generalize (bfsK arr M (bfs0 M s) b).2.length = N at *
      have hr := Lib.hid (hd ▸ hT.out.out)
      have hB := Lib.hid (hT.out.bel)
      clear hd hsn
      go_wp2_with fail
      go_ret
      exact ⟨⟨g, rfl, hr.out⟩, hB.out⟩
    obtain ⟨f, hf, hfM, _⟩ := hsn.at hlt
    have hnx := Lib.hid (bfs_next hlt hf)
    have hlk := Lib.hid (look_k (seen_look hsn hlt hf))
    obtain ⟨S, hS⟩ : ∃ S, bfsK arr M (bfs0 M s) b = S := ⟨_, rfl⟩
    have cf := own_cell hT.out.wk hlt
    rw [hf] at cf
    rw [hS] at hT hlt hnx hlk hsh ⊢
    clear hsn hS hf hdone
    have hT0 : Hid (TW w wq M g M (seeK arr f 0 S).2.length g2 c2 (seeK arr f 0 S).1 (seeK arr f 0 S).2) := hT
    go_wp2_with fail
    go_loopw [6, 32] (fun o i wr => ∃ (q g2 c2 : Nat), q ≤ M ∧ i = .int .i64 q ∧ o = .slice (some ⟨g2, 0, none⟩) (seeK arr f q S).2.length c2 ∧ Hid (TW w wr M g M (seeK arr f q S).2.length g2 c2 (seeK arr f q S).1 (seeK arr f q S).2)) (fun _ i _ => M - (intOf i).toNat)
    case atStart => exact ⟨0, g2, c2, Nat.zero_le _, rfl, rfl, hT0⟩
    case round =>
      clear hT hT0 cf
      obtain ⟨q, g2, c2, hq, rfl, rfl, hT⟩ := hrel
      obtain ⟨wi, rfl⟩ : ∃ wi : World, wi = wr := ⟨_, rfl⟩
      have hL := hlk.out q hq
      by_cases hqk : q < M
      case neg =>
        obtain rfl : q = M := by omega
        rw [← hnx.out] at hT ⊢
        have hsh2 := (hseen.out (b + 1)).short
        clear hL hlk
        go_wp2_with fail
        exact ⟨⟨b + 1, g2, c2, by omega, by go_num, rfl, hT⟩, by simp [intOf]; omega⟩
      have hyes := fun h h' => see_yes (arr := arr) (f := f) (k := q) (S := S) h h'
      have hno := fun h => see_no (arr := arr) (f := f) (k := q) (S := S) h
      generalize seeK arr f q S = Sq at hT hL hyes hno ⊢
      obtain ⟨P, Q⟩ := Sq
      (try dsimp only at hT hL hyes hno ⊢)
      have ht := hT.out
      have hsz := hL.short
      have ck := own_cell ht.out hqk
      have fk := ht.out.frozen
      have hRi := hR.out.bel ht.bel
      obtain ⟨bm, om, ea, cm⟩ := row_at hRi hfM
      have hbm := hbit.out f q hfM hqk
      have hrm := hrg.out f hfM
      have hpb := hL.bd q hqk
      obtain ⟨N, hN⟩ : ∃ N, Q.length = N := ⟨_, rfl⟩
      obtain ⟨x, hx⟩ : ∃ x, P.getD q 0 = x := ⟨_, rfl⟩
      obtain ⟨y, hy⟩ : ∃ y, ms.getD f 0 = y := ⟨_, rfl⟩
      rw [hN] at hT ht hsz ⊢
      rw [hx] at ck hpb
      rw [hy] at cm hbm hrm
      have hrm1 := hrm.1
      replace hN := Lib.hid hN
      replace hyes := fun h => hyes h
      cases har : arr f q with
      | false =>
        have hnx2 := hno (.inl har)
        rw [har, show bI false = 0 from rfl] at hbm
        subst ea
        clear ht hL hyes hno hRi hrm
        replace hx := Lib.hid hx
        go_wp2_with fail
        refine ⟨⟨q + 1, g2, c2, by omega, by go_num, ?_, ?_⟩, by simp [intOf]; omega⟩
        · rw [hnx2, hN.out]
        · rw [hnx2, hN.out]; exact hT
      | true =>
        rw [har, show bI true = 1 from rfl] at hbm
        by_cases hneg : x < 0
        case neg =>
          have hnx2 := hno (.inr (by rw [hx]; exact hneg))
          have hdx : decide (x < 0) = false := decide_eq_false hneg
          subst ea
          clear ht hL hyes hno hRi hrm
          replace hx := Lib.hid hx
          go_wp2_with fail
          refine ⟨⟨q + 1, g2, c2, by omega, by go_num, ?_, ?_⟩, by simp [intOf]; omega⟩
          · rw [hnx2, hN.out]
          · rw [hnx2, hN.out]; exact hT
        have hnx2 := hyes har (by rw [hx]; exact hneg)
        have hdx : decide (x < 0) = true := decide_eq_true hneg
        have hT2 := Lib.hid (ht.set q f)
        subst ea
        clear ht hL hyes hno hRi hrm hT
        replace hx := Lib.hid hx
        go_upto_region 13 with fail
        obtain ⟨w3, hw3⟩ : ∃ w3, wi.setCell ⟨g, q, none⟩ (.int .i64 f) = w3 := ⟨_, rfl⟩
        rw [hw3] at hT2
        (try rw [hw3])
        clear hw3 ck fk cm
        have ht3 := hT2.out.o2
        have hbs := hT2.out.bel.size
        go_wp2_with (at_builtin; refine wpList_append_int rfl _ _ rfl w.heap.size g2 N c2 Q rfl (World.ownsRow.alloc hT2.out.wk _) w3.heap.size rfl q (by simp) (by omega) (by simp; omega) ?_)
        intro g' c' w4 hown hgr hlies
        have hT4 := Lib.hid ((hT2.out.move ((Below.refl _ _).alloc (Nat.le_refl _) (.cells #[.int .i64 q] 3))).app (x := q) (by simpa using hown) hgr (by rcases hlies with h | h; exact .inl h; exact .inr (by rw [h]; simp)))
        clear hown hgr hlies hT2
        go_wp2_with fail
        refine ⟨⟨q + 1, g', c', by omega, by go_num, ?_, ?_⟩, by simp [intOf]; omega⟩
        · rw [hnx2, List.length_append, hN.out]; rfl
        · rw [hnx2, List.length_append, hN.out]; exact hT4
set_option maxHeartbeats 1000000 in
theorem reaches_any (a : Option Addr) (M cap : Nat) (ms : List Int) (arr : Nat → Nat → Bool) (s t : Nat) (w : World) (h : Row w a M ms) (hA : Arrs ms arr M) (h2 : 2 ≤ M) (h12 : M ≤ 12) (hs : s < M) (ht : t < M) :
    Calls Tryz.prog 38 #[.slice a M cap, .int .i64 s, .int .i64 t] w fun e w' => e = .returned (.bool (decide (0 ≤ (bfsP arr M s).getD t 0))) ∧ Below w.heap.size w w' := by
  have hc := Lib.hid (sources_any a M cap ms arr s w h hA h2 h12 hs)
  obtain ⟨x, hx⟩ : ∃ x, (bfsP arr M s).getD t 0 = x := ⟨_, rfl⟩
  rw [hx]
  replace hx := Lib.hid hx
  clear h hA
  go_enter Tryz.func38, Tryz.ntmps38
  go_wp2_with fail
  refine hc.out.mono ?_
  rintro e w1 ⟨⟨g, rfl, ho⟩, hb⟩
  have ck := own_cell ho ht
  rw [hx.out] at ck
  clear ho hc
  go_wp2_with fail
  go_ret
  exact ⟨rfl, hb⟩
end Go.Proofs.YtnfkafaolelkbaaGreatDoor
