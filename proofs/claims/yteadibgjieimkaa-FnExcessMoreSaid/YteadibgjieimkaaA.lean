/-
  The contracts of the small functions that work on numbers and rows of bits.
-/
import Derived.Test.YteadibgjieimkaaProg
import Derived.WalkKit
import Derived.LoopTactic
import Derived.Below
import Derived.WalkSpells
import Derived.WalkSmall
import Derived.Lib.Hide
import Derived.Deep.QuietTactic
import Derived.BigQuiet
namespace Go.Proofs.Yteadibgjieimkaa
set_option maxRecDepth 100000
open Go.RowKit

/-- 2 to the power of a number. -/
def pw : Nat → Int
  | 0 => 1
  | k + 1 => pw k * 2
theorem pw_succ (k : Nat) : pw (k + 1) = pw k * 2 := rfl
theorem pw_pos (k : Nat) : 1 ≤ pw k := by
  induction k with
  | zero => simp [pw]
  | succ k ih => rw [pw_succ]; omega
theorem pw_le (k m : Nat) (h : k ≤ m) : pw k ≤ pw m := by
  induction m with
  | zero => have : k = 0 := by omega
            subst this; exact Int.le_refl _
  | succ m ih =>
    by_cases e : k = m + 1
    · subst e; exact Int.le_refl _
    · have := ih (by omega); have := pw_pos m; rw [pw_succ]; omega
theorem pw_30 : pw 30 = 1073741824 := by decide

set_option maxHeartbeats 400000 in
theorem power_any (k : Nat) (w : World) (h : k ≤ 30) :
    Calls Try.prog 71 #[.int .i64 k] w fun e w' => e = .returned (.int .i64 (pw k)) ∧ w = w' := by
  go_enter Try.func71, Try.ntmps71
  go_wp2
  go_loop [3, 4] (fun o i => ∃ m : Nat, m ≤ k ∧ i = .int .i64 m ∧ o = .int .i64 (pw m)) (fun _ i => k - (intOf i).toNat)
  case atStart => exact ⟨0, Nat.zero_le _, rfl, rfl⟩
  case round =>
    obtain ⟨m, hm, rfl, rfl⟩ := hrel
    have h1 := pw_pos m
    have h2 : pw m ≤ 1073741824 := by rw [← pw_30]; exact pw_le m 30 (by omega)
    by_cases hlt : m < k
    · go_wp2
      go_round
      case rel => exact ⟨m + 1, by omega, by go_num, by rw [pw_succ]⟩
      case measure => simp [intOf]; omega
    · have : m = k := by omega
      subst this
      go_wp2
      go_ret
      exact ⟨rfl, rfl⟩

theorem in_yes (n lo hi : Int) (w : World) (h1 : lo ≤ n) (h2 : n ≤ hi) :
    Calls Try.prog 48 #[.int .i64 n, .int .i64 lo, .int .i64 hi] w fun e w' => e = .returned (.bool true) ∧ w = w' := by
  go_enter Try.func48, Try.ntmps48
  go_wp2
  go_ret
  exact ⟨rfl, rfl⟩
theorem in_no (n lo hi : Int) (w : World) (h : n < lo ∨ hi < n) :
    Calls Try.prog 48 #[.int .i64 n, .int .i64 lo, .int .i64 hi] w fun e w' => e = .returned (.bool false) ∧ w = w' := by
  by_cases h1 : lo ≤ n
  · have h2 : hi < n := by omega
    clear h
    go_enter Try.func48, Try.ntmps48
    go_wp2
    go_ret
    exact ⟨by simp; omega, rfl⟩
  · clear h
    go_enter Try.func48, Try.ntmps48
    go_wp2
    go_ret
    exact ⟨rfl, rfl⟩
def inB (n lo hi : Int) : Bool := decide (lo ≤ n ∧ n ≤ hi)
theorem inB_yes {n lo hi : Int} (h1 : lo ≤ n) (h2 : n ≤ hi) : inB n lo hi = true := decide_eq_true ⟨h1, h2⟩
theorem inB_no {n lo hi : Int} (h : n < lo ∨ hi < n) : inB n lo hi = false := decide_eq_false (by omega)
theorem inB_iff {n lo hi : Int} : inB n lo hi = true ↔ lo ≤ n ∧ n ≤ hi := decide_eq_true_iff
theorem in_any (n lo hi : Int) (w : World) :
    Calls Try.prog 48 #[.int .i64 n, .int .i64 lo, .int .i64 hi] w fun e w' => e = .returned (.bool (inB n lo hi)) ∧ w = w' := by
  by_cases h : lo ≤ n ∧ n ≤ hi
  · rw [inB_yes h.1 h.2]; exact in_yes n lo hi w h.1 h.2
  · rw [inB_no (by omega)]; exact in_no n lo hi w (by omega)

theorem side_any (n : Int) (w : World) :
    Calls Try.prog 46 #[.int .i64 n] w fun e w' => e = .returned (.bool (inB n 1 6)) ∧ w = w' := by
  by_cases h1 : 1 ≤ n <;> by_cases h2 : n ≤ 6
  · rw [inB_yes h1 h2]
    go_enter Try.func46, Try.ntmps46
    go_wp2
    go_ret
    exact ⟨rfl, rfl⟩
  all_goals
    rw [inB_no (by omega)]
    go_enter Try.func46, Try.ntmps46
    go_wp2
    go_ret
    exact ⟨rfl, rfl⟩

theorem full_num : ∀ k < 31, wrap64 (wrap64 (2 ^ k) - 1) = pw k - 1 := by decide +kernel
theorem full_any (k : Nat) (w : World) (h : k ≤ 30) :
    Calls Try.prog 69 #[.int .i64 k] w fun e w' => e = .returned (.int .i64 (pw k - 1)) ∧ w = w' := by
  have H := Lib.hid (full_num k (by omega))
  go_enter Try.func69, Try.ntmps69
  go_wp2
  go_ret
  exact ⟨by rw [← H.out]; rfl, rfl⟩

theorem block_lt {w : World} {a : Addr} {v : Value} (h : w.cell? a = some v) : a.block < w.heap.size := by
  unfold World.cell? at h
  split at h
  · rename_i hb; exact (Array.getElem?_eq_some_iff.1 hb).1
  · cases h
theorem qd {P : Program} {f : FuncId} {args : Array Value} {w : World} {n : Nat} {v : Value}
    (h : Calls P f args (w.drewN n) fun e w' => e = .returned v ∧ w.drewN n = w') : Calls P f args (w.drewN n) fun e w'' => e = .returned v ∧ ∃ m, w'' = w.drewN m :=
  h.mono fun _ _ ⟨he, hm⟩ => ⟨he, n, hm.symm⟩
theorem kept {B : Nat} {W wr : World} {a : Addr} {v : Value} (h : Below B W wr) (hb : a.block < B) (hc : W.cell? a = some v) : wr.cell? a = some v := by
  rw [h.cell hb]; exact hc
theorem old {B : Nat} {w wr : World} {o : Obj} {a : Addr} {v : Value} (h : Below B (w.alloc o) wr) (hB : w.heap.size ≤ B) (hc : w.cell? a = some v) : wr.cell? a = some v :=
  kept h (Nat.lt_of_lt_of_le (block_lt hc) hB) ((World.cell?_alloc_lt _ _ _ (block_lt hc)).trans hc)
/-- A slice of integers whose elements are 'xs'. -/
def Row (w : World) (a : Option Addr) (len : Nat) (xs : List Int) : Prop :=
  xs.length = len ∧ (len = 0 ∨ ∃ b off, a = some ⟨b, off, none⟩ ∧ ∀ i, i < len → w.cell? ⟨b, off + i, none⟩ = some (.int .i64 (xs.getD i 0)))

def validB (W : Int) (xs : List Int) : Bool :=
  inB W 1 6 && inB xs.length 1 6 && xs.all fun x => inB x 0 (pw W.toNat - 1)

theorem getD_elem {xs : List Int} {i : Nat} (hi : i < xs.length) : xs.getD i 0 = xs[i] := by simp [hi]
theorem validB_no1 {W : Int} {xs : List Int} (h : inB W 1 6 = false) : validB W xs = false := by simp [validB, h]
theorem validB_no2 {W : Int} {xs : List Int} (h : inB xs.length 1 6 = false) : validB W xs = false := by simp [validB, h]
theorem validB_no3 {W : Int} {xs : List Int} (i : Nat) (hi : i < xs.length) (h : inB (xs.getD i 0) 0 (pw W.toNat - 1) = false) : validB W xs = false := by
  have : (xs.all fun x => inB x 0 (pw W.toNat - 1)) = false := by
    rw [List.all_eq_false]; exact ⟨xs.getD i 0, by rw [getD_elem hi]; exact List.getElem_mem hi, by rw [h]; simp⟩
  simp [validB, this]
theorem validB_yes {W : Int} {xs : List Int} (h1 : inB W 1 6 = true) (h2 : inB xs.length 1 6 = true) (h : ∀ i, i < xs.length → inB (xs.getD i 0) 0 (pw W.toNat - 1) = true) : validB W xs = true := by
  have : (xs.all fun x => inB x 0 (pw W.toNat - 1)) = true := by
    rw [List.all_eq_true]; intro x hx
    obtain ⟨i, hi, rfl⟩ := List.getElem_of_mem hx
    have := h i hi
    rwa [getD_elem hi] at this
  simp [validB, h1, h2, this]

set_option maxHeartbeats 400000 in
theorem valid_impl (W : Int) (a : Option Addr) (len cap : Nat) (xs : List Int) (w : World) (h : Row w a len xs) (hm : len ≤ 9223372036854775807) :
    Calls Try.prog 54 #[.agg #[.int .i64 W, .slice a len cap]] w fun e w' => e = .returned (.bool (validB W xs)) ∧ Below w.heap.size w w' := by
  obtain ⟨hl, hr⟩ := h
  by_cases h1 : inB W 1 6 = true
  case neg =>
    have h1 : inB W 1 6 = false := by simpa using h1
    rw [validB_no1 h1]
    go_enter Try.func54, Try.ntmps54
    go_wp2_with (first | (go_at_call 46; refine (side_any _ _).mono ?_; rintro e w' ⟨rfl, rfl⟩))
    go_ret
    exact ⟨rfl, (Below.refl _ _).alloc (Nat.le_refl _) _⟩
  by_cases h2 : inB len 1 6 = true
  case neg =>
    have h2 : inB len 1 6 = false := by simpa using h2
    rw [validB_no2 (hl ▸ h2)]
    go_enter Try.func54, Try.ntmps54
    go_wp2_with (first | (go_at_call 46; refine (side_any _ _).mono ?_; rintro e w' ⟨rfl, rfl⟩))
    go_ret
    exact ⟨rfl, (Below.refl _ _).alloc (Nat.le_refl _) _⟩
  have hW := inB_iff.1 h1
  have hL := inB_iff.1 h2
  obtain ⟨W, rfl⟩ := Int.eq_ofNat_of_zero_le (by omega : 0 ≤ W)
  obtain ⟨b, off, rfl, hc⟩ := hr.resolve_left (by omega)
  go_enter Try.func54, Try.ntmps54
  go_wp2_with (first | (go_at_call 46; refine (side_any _ _).mono ?_; rintro e w' ⟨rfl, rfl⟩))
  go_loop [19] (fun i => ∃ k : Nat, k ≤ len ∧ i = .int .i64 k ∧ ∀ j, j < k → inB (xs.getD j 0) 0 (pw W - 1) = true) (fun i => len - (intOf i).toNat)
  case atStart => exact ⟨0, Nat.zero_le _, rfl, fun j hj => absurd hj (Nat.not_lt_zero _)⟩
  case round =>
    obtain ⟨k, hk, rfl, hall⟩ := hrel
    have HA := Lib.hid hall
    clear hall
    by_cases hlt : k < len
    · have hck := hc k hlt
      have hb : b < w.heap.size := block_lt hck
      clear hc hr
      go_wp2_with (first | (go_at_call 69; refine (full_any _ _ (by omega)).mono ?_; rintro e w' ⟨rfl, rfl⟩))
      case roundEnd =>
        refine ⟨⟨k + 1, by omega, by go_num, ?_⟩, by simp [intOf]; omega⟩
        intro j hj
        by_cases e : j = k
        · subst e; exact inB_iff.2 (by rw [getD_elem (by omega)]; assumption)
        · exact HA.out j (by omega)
      all_goals
        go_ret
        refine ⟨?_, (Below.refl _ _).alloc (Nat.le_refl _) _⟩
        rw [validB_no3 k (by omega) (inB_no (by rw [getD_elem (by omega), Int.toNat_natCast]; first | assumption | (left; assumption) | (right; assumption)))]; rfl
    · clear hc hr
      have : k = len := by omega
      subst this
      go_wp2
      go_ret
      exact ⟨by rw [validB_yes h1 (hl ▸ h2) (fun i hi => HA.out i (by omega))]; rfl, (Below.refl _ _).alloc (Nat.le_refl _) _⟩

set_option maxHeartbeats 400000 in
theorem valid_spec (W : Int) (a : Option Addr) (len cap : Nat) (xs : List Int) (w : World) (h : Row w a len xs) (hm : len ≤ 9223372036854775807) :
    Calls Try.prog 56 #[.agg #[.int .i64 W, .slice a len cap]] w fun e w' => e = .returned (.bool (validB W xs)) ∧ Below w.heap.size w w' := by
  obtain ⟨hl, hr⟩ := h
  by_cases h1 : inB W 1 6 = true
  case neg =>
    have h1 : inB W 1 6 = false := by simpa using h1
    rw [validB_no1 h1]
    go_enter Try.func56, Try.ntmps56
    go_wp2_with (first | (go_at_call 48; refine (in_any _ _ _ _).mono ?_; rintro e w' ⟨rfl, rfl⟩))
    go_ret
    exact ⟨rfl, (Below.refl _ _).alloc (Nat.le_refl _) _⟩
  by_cases h2 : inB len 1 6 = true
  case neg =>
    have h2 : inB len 1 6 = false := by simpa using h2
    rw [validB_no2 (hl ▸ h2)]
    go_enter Try.func56, Try.ntmps56
    go_wp2_with (first | (go_at_call 48; refine (in_any _ _ _ _).mono ?_; rintro e w' ⟨rfl, rfl⟩))
    go_ret
    exact ⟨rfl, (Below.refl _ _).alloc (Nat.le_refl _) _⟩
  have hW := inB_iff.1 h1
  have hL := inB_iff.1 h2
  obtain ⟨W, rfl⟩ := Int.eq_ofNat_of_zero_le (by omega : 0 ≤ W)
  obtain ⟨b, off, rfl, hc⟩ := hr.resolve_left (by omega)
  go_enter Try.func56, Try.ntmps56
  go_wp2_with (first | (go_at_call 48; refine (in_any _ _ _ _).mono ?_; rintro e w' ⟨rfl, rfl⟩))
  go_loopw [3] (fun i wr => ∃ k : Nat, k ≤ len ∧ i = .int .i64 k ∧ Hid (∀ j, j < k → inB (xs.getD j 0) 0 (pw W - 1) = true) ∧ Below (w.heap.size + 1) (w.alloc (.cells #[.int .i64 W, .slice (some ⟨b, off, none⟩) len cap] 29)) wr) (fun i _ => len - (intOf i).toNat)
  case atStart => exact ⟨0, Nat.zero_le _, rfl, fun j hj => absurd hj (Nat.not_lt_zero _), Below.refl _ _⟩
  case round =>
    obtain ⟨k, hk, rfl, HA, hbel⟩ := hrel
    have x0 : wr.cell? ⟨w.heap.size, 0, none⟩ = some (.int .i64 W) := kept hbel (by simp) (by simp)
    have x1 : wr.cell? ⟨w.heap.size, 1, none⟩ = some (.slice (some ⟨b, off, none⟩) len cap) := kept hbel (by simp) (by simp)
    by_cases hlt : k < len
    · have hck := hc k hlt
      have hb : b < w.heap.size := block_lt hck
      have hcr : wr.cell? ⟨b, off + k, none⟩ = some (.int .i64 (xs.getD k 0)) := old hbel (by omega) hck
      have hp := pw_pos W
      have hp2 : pw W ≤ 1073741824 := by rw [← pw_30]; exact pw_le W 30 (by omega)
      clear hc hr
      go_wp2_with (fail)
      go_quiet (first | (go_at_call 48; exact qd (in_any _ _ _ _)) | (go_at_call 71; exact qd (power_any _ _ (by omega))))
      go_wp2
      case roundEnd =>
        refine ⟨⟨k + 1, by omega, by go_num, fun j hj => ?_, below_drewN hbel _⟩, by simp [intOf]; omega⟩
        by_cases e : j = k
        · subst e; rw [getD_elem (by omega)]; simpa using ‹(!inB _ _ _) = false›
        · exact HA.out j (by omega)
      go_ret
      refine ⟨?_, below_drewN (((Below.refl _ _).alloc (Nat.le_refl _) _).trans (hbel.mono (by omega))) _⟩
      rw [validB_no3 k (by omega) (by rw [getD_elem (by omega), Int.toNat_natCast]; simpa using ‹(!inB _ _ _) = true›)]; rfl
    · clear hc hr
      have : k = len := by omega
      subst this
      go_wp2
      go_ret
      exact ⟨by rw [validB_yes h1 (hl ▸ h2) (fun i hi => HA.out i (by omega))]; rfl, ((Below.refl _ _).alloc (Nat.le_refl _) _).trans (hbel.mono (by omega))⟩
end Go.Proofs.Yteadibgjieimkaa

