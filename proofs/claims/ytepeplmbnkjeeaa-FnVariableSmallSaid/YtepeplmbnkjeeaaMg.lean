/-
  The contract of slices.Repeat for a list of one number, as the library writes it.
-/
import Derived.Test.YtepeplmbnkjeeaaMd
import Derived.Test.YtepeplmbnkjeeaaSk
import Derived.Deep.RegionLaw
import Derived.Laws.CopyOwn
namespace Go.Proofs.Ytepeplmbnkjeeaa
set_option maxRecDepth 100000
open Go.RowKit

set_option maxHeartbeats 2000000 in
theorem mul64_one (k : Nat) (w : World) (h : k < 13) :
    Calls Try.prog 141 #[.int .u64 1, .int .u64 k] w fun e w' => e = .returned (.tuple #[.int .u64 0, .int .u64 k]) ∧ w' = w := by
  go_enter Try.func141, Try.ntmps141
  go_wp2_with fail
  refine bodyPost_ret (v := .tuple #[.int .u64 0, .int .u64 k]) (by simp [results, Try.results141, go_sem]; revert k; decide +kernel) rfl ?_
  exact ⟨rfl, rfl⟩
set_option maxHeartbeats 2000000 in
theorem mul_one (k : Nat) (w : World) (h : k < 13) :
    Calls Try.prog 135 #[.int .u64 1, .int .u64 k] w fun e w' => e = .returned (.tuple #[.int .u64 0, .int .u64 k]) ∧ w' = w := by
  go_enter Try.func135, Try.ntmps135
  go_wp2_with fail
  refine (mul64_one k w h).mono ?_
  rintro e w1 ⟨rfl, rfl⟩
  go_wp2_with fail
  refine bodyPost_ret (v := .tuple #[.int .u64 0, .int .u64 k]) (by simp [results, Try.results135, go_sem]) rfl ?_
  exact ⟨rfl, rfl⟩
theorem own_heap {w : World} {B g n : Nat} {xs : List Int} (h : OwnI w B (some ⟨g, 0, none⟩) n n xs) : w.heap[g]? = some (.cells (xs.map (Value.int .i64)).toArray 3 (0, 0)) ∧ B ≤ g := by
  obtain ⟨h1, h2⟩ := h
  rcases h2 with ⟨e, _⟩ | ⟨g', cap, cur, e, hB, hh, _, _, hs, ht⟩
  · cases e
  · cases e
    rw [Nat.mul_one] at hs ht
    have : cur.toList.take n = cur.toList := List.take_of_length_le (by rw [Array.length_toList]; omega)
    rw [this] at ht
    refine ⟨?_, hB⟩
    rw [hh, ← ht]
theorem heap_own {w : World} {B g n : Nat} {xs : List Int} (h : w.heap[g]? = some (.cells (xs.map (Value.int .i64)).toArray 3 (0, 0))) (hB : B ≤ g) (hl : xs.length = n) (hm : n ≤ 1048576) : OwnI w B (some ⟨g, 0, none⟩) n n xs := by
  refine ⟨by rw [List.length_map, hl]; omega, .inr ⟨g, n, _, rfl, hB, h, Nat.le_refl _, by unfold maxLen; omega, by simp [hl], ?_⟩⟩
  exact List.take_of_length_le (by simp [hl])
/-- The first k places are filled. -/
def fillV (M k : Nat) (v : Int) : List Value := (List.replicate k v ++ List.replicate (M - k) 0).map (Value.int .i64)
theorem fill_len {M k : Nat} (v : Int) (h : k ≤ M) : (fillV M k v).length = M := by unfold fillV; simp; omega
theorem fill_more {M k c : Nat} (v : Int) (h : k + c ≤ M) : splice (fillV M k v) k ((List.replicate c v).map (Value.int .i64)) = fillV M (k + c) v := by
  unfold splice fillV
  rw [List.map_append, List.map_append, List.map_replicate, List.map_replicate, List.map_replicate, List.map_replicate, List.map_replicate, List.length_replicate]
  rw [List.take_append_of_le_length (by simp), List.take_of_length_le (by simp), List.drop_append]
  rw [List.drop_eq_nil_of_le (by simp), List.length_replicate, List.nil_append, List.drop_replicate, ← List.append_assoc, List.replicate_append_replicate]
  congr 2; omega
theorem fill_at {M k j : Nat} {v : Int} {wo : World} {g : Nat} (h : wo.heap[g]? = some (.cells (fillV M k v).toArray 3 (0, 0))) (hk : k ≤ M) (hM : M ≤ 1048576) (hj : j < k) : wo.cell? ⟨g, j, none⟩ = some (.int .i64 v) := by
  have ho : OwnI wo 0 (some ⟨g, 0, none⟩) (List.replicate k v ++ List.replicate (M - k) 0).length (List.replicate k v ++ List.replicate (M - k) 0).length (List.replicate k v ++ List.replicate (M - k) 0) := by
    refine ⟨by simp, .inr ⟨g, _, _, rfl, Nat.zero_le _, h, Nat.le_refl _, by unfold maxLen; simp; omega, by simp [fillV], List.take_of_length_le (by simp [fillV])⟩⟩
  have := own_cell ho (i := j) (by simp; omega)
  rw [this, getD_left (by simpa using hj), List.getD_eq_getElem?_getD, List.getElem?_replicate, if_pos hj]; rfl
theorem add_zero0 (g j : Nat) : Addr.add ⟨g, 0, none⟩ j = ⟨g, j, none⟩ := by simp [Addr.add]; exact Eq.symm
set_option maxHeartbeats 4000000 in
theorem repeat_any (k c1 : Nat) (v : Int) (M : Nat) (w : World) (hv : w.cell? ⟨k, 0, none⟩ = some (.int .i64 v)) (h2 : 2 ≤ M) (hM : M ≤ 12) :
    Calls Try.prog 119 #[.slice (some ⟨k, 0, none⟩) 1 c1, .int .i64 M] w fun e w' => (∃ g, e = .returned (.slice (some ⟨g, 0, none⟩) M M) ∧ OwnI w' w.heap.size (some ⟨g, 0, none⟩) M M (List.replicate M v)) ∧ Below w.heap.size w w' := by
  obtain ⟨i0, hi, hz0, hz1, hz2⟩ := info_parts infoInt
  have hmul := Lib.hid (fun wx => mul_one M wx (by omega))
  have eu : IntKind.u64.wrap (M : Int) = (M : Int) := by rw [IntWalk.u64_in _ ⟨by omega, by omega⟩]
  have ei : IntKind.i64.wrap (M : Int) = (M : Int) := IntWalk.i64_in _ ⟨by omega, by omega⟩
  have hgt : ¬ (9223372036854775807 : Int) < (M : Int) := by omega
  go_enter Try.func119, Try.ntmps119
  go_wp2_with fail
  refine (hmul.out _).mono ?_
  rintro e w1 ⟨rfl, rfl⟩
  clear hmul
  go_upto_region 6 with fail
  go_wp2_with ((refine wpList_make_full _ rfl _ _ 23 rfl w1.heap.size 3 i0 (.int .i64 0) 1 Try.underlying23 hi hz0 hz1 .i64 .i64 M M M rfl rfl rfl rfl ?_ ?_ ?_ ?_))
  · rw [hz2]; omega
  · unfold maxLen; omega
  · simp
  intro w2 ho hg
  obtain ⟨g, hgg⟩ : ∃ g, w1.heap.size = g := ⟨_, rfl⟩
  have ho0 : OwnI w2 w1.heap.size (some ⟨w1.heap.size, 0, none⟩) M M (List.replicate M 0) := by unfold OwnI; simpa [toList_madeCells_one, List.map_replicate] using ho
  have hh := (own_heap ho0).1
  have bb : Below w1.heap.size w1 w2 := (Below.refl _ _).grown hg (Nat.le_refl _) (fun k hk => by cases hk)
  have hv2 := kept bb (block_lt hv) hv
  have hkg : k < g := by rw [← hgg]; exact block_lt hv
  have h0 : (List.replicate M (0 : Int)).map (Value.int .i64) = fillV M 0 v := by unfold fillV; simp
  rw [h0, hgg] at hh
  have hsz : (Try.prog.info? 3).map (·.size) = some 1 := by rw [hi]; simp [hz1]
  rw [hgg] at bb ⊢
  replace bb := Lib.hid bb
  replace hh := Lib.hid hh
  clear ho hg ho0 h0
  go_wp2_with (refine wpList_copy_splice rfl _ _ 23 23 rfl 3 Try.underlying23 hsz _ _ M M 1 c1 rfl rfl g 0 (fillV M 0 v) 3 hh.out ((List.replicate 1 v).map (Value.int .i64)) ?c1 (fun _ => ⟨rfl, _, rfl, ?c2⟩) ?c3 ?c4 g w1 bb.out (Nat.le_refl _) ?_)
  case c1 => show 1 = min 1 M; omega
  case c2 => intro j u hj; cases j with | zero => simp at hj; subst hj; simpa [Addr.add] using hv2 | succ j => simp at hj
  case c3 => rw [fill_len v (by omega)]; simp; omega
  case c4 => exact ints_oneCell _ _
  intro w3 hh3 hb3
  have hh4 : Hid (w3.heap[g]? = some (.cells (fillV M (0 + 1) v).toArray 3 (0, 0))) := by rw [← fill_more v (by omega)]; exact hh3
  rw [Nat.zero_add] at hh4
  replace hb3 := Lib.hid hb3
  clear hh bb hv2 hh3
  go_wp2_with fail
  go_loopw [8] (fun x wr => ∃ q : Nat, 1 ≤ q ∧ q ≤ M ∧ x = .int .i64 q ∧ Hid (wr.heap[g]? = some (.cells (fillV M q v).toArray 3 (0, 0))) ∧ Hid (Below g w1 wr)) (fun x _ => M - (intOf x).toNat)
  case atStart => exact ⟨1, Nat.le_refl _, by omega, rfl, hh4, hb3⟩
  case round =>
    clear hh4 hb3
    obtain ⟨q, hq1, hq, rfl, hH, hB⟩ := hrel
    obtain ⟨wo, rfl⟩ : ∃ wo : World, wo = wr := ⟨_, rfl⟩
    by_cases hlt : q < M
    case neg =>
      obtain rfl : q = M := by omega
      go_wp2_with fail
      go_ret
      have e : fillV q q v = (List.replicate q v).map (Value.int .i64) := by unfold fillV; simp
      have h1 := hH.out
      rw [e] at h1
      exact ⟨⟨g, rfl, heap_own h1 (by omega) (by simp) (by omega)⟩, by rw [hgg]; exact hB.out⟩
    obtain ⟨d, hd⟩ : ∃ d, min q (M - q) = d := ⟨_, rfl⟩
    have hn1 : ¬ M = q := by omega
    have hn2 : ¬ q = 0 := by omega
    have hd1 : 1 ≤ d ∧ q + d ≤ M := by omega
    have ea : IntKind.i64.wrap ((q : Int) + (d : Int)) = (q : Int) + (d : Int) := IntWalk.i64_in _ ⟨by omega, by omega⟩
    have hfz := Lib.hid (fun j (hj : j < q) => fill_at (wo := wo) hH.out hq (by omega) hj)
    have hG : Hid (wo.drew.heap[g]? = some (.cells (fillV M q v).toArray 3 (0, 0))) := hH.out
    have hBd := Lib.hid hB.out.drew
    have hfd := Lib.hid (fun j (hj : j < q) => (World.cell?_drew wo ⟨g, j, none⟩).trans (hfz.out j hj))
    clear hH hB hfz
    go_wp2_with fail
    go_region_law (first | ((refine step_copy_splice (by rfl) _ _ 23 23 (by rfl) 3 Try.underlying23 hsz _ _ (M - q) (M - q) q M (by rfl) (by rfl) g q (fillV M q v) 3 hG.out ((List.replicate d v).map (Value.int .i64)) (by rw [List.length_map, List.length_replicate, ← hd]) (fun _ => ⟨(by rfl), _, (by rfl), fun j u hj => by
      rw [List.getElem?_map, List.getElem?_replicate] at hj
      by_cases e : j < d
      · rw [if_pos e] at hj; cases hj; exact (congrArg wo.drew.cell? (add_zero0 g j)).trans (hfd.out j (by omega))
      · rw [if_neg e] at hj; cases hj⟩) (by rw [fill_len v hq, List.length_map, List.length_replicate]; omega) (ints_oneCell _ _) g w1 hBd.out (Nat.le_refl _) ?_); intro w4 hh4 hb4))
    have hh5 : Hid (w4.heap[g]? = some (.cells (fillV M (q + d) v).toArray 3 (0, 0))) := by rw [← fill_more v (by omega)]; exact hh4
    replace hb4 := Lib.hid hb4
    clear hh4 hG hBd hfd
    go_simp
    go_wp2_with fail
    exact ⟨⟨q + d, by omega, by omega, by go_num, hh5, hb4⟩, by simp [intOf]; omega⟩
end Go.Proofs.Ytepeplmbnkjeeaa

