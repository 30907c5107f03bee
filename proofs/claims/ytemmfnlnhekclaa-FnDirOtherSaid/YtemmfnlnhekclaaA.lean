/-
  The contracts of the small functions that work on numbers and rows of bits.
  The contracts of the laws' own small helpers: copies, comparisons, marks.
  The contracts of the functions that read cells: bits of a row, cells that are there, cells that are set.
  The contracts of the functions that count the set cells of an image.
  The contracts of the functions that give an image: copies, cells that are put, and the four functions of chapter 1.
  The contracts of the functions that give an image: turned, mirrored, with the other cells set, with a cell put.
  The contract of the model's ImageTurn.
  The contracts of the functions that mirror an image.
-/
import Derived.Test.YtemmfnlnhekclaaProg
import Derived.WalkKit
import Derived.LoopTactic
import Derived.Below
import Derived.WalkSpells
import Derived.WalkSmall
import Derived.Lib.Hide
import Derived.Deep.QuietTactic
import Derived.BigQuiet
import Derived.OwnWalk
import Derived.Laws.AppendOwn
import Derived.Deep.AppendLies
import Derived.Deep.RegionHeld3
import Derived.StillTailTactics
import Derived.Deep.OwnRows
import Derived.Deep.DeepCutAuto

namespace Go.Proofs.Ytemmfnlnhekclaa
set_option maxRecDepth 100000
open Go.RowKit

/-- 2 to the power of a number. -/
def pw : Nat → Int
  | 0 => 1
  | k + 1 => pw k * 2
theorem pw_succ (k : Nat) : pw (k + 1) = pw k * 2 := rfl
theorem pw_pos (k : Nat) : 1 ≤ pw k := by
  induction k with
  | zero => simp [pw]
  | succ k ih => rw [pw_succ]; omega
theorem pw_le (k m : Nat) (h : k ≤ m) : pw k ≤ pw m := by
  induction m with
  | zero => have : k = 0 := by omega
            subst this; exact Int.le_refl _
  | succ m ih =>
    by_cases e : k = m + 1
    · subst e; exact Int.le_refl _
    · have := ih (by omega); have := pw_pos m; rw [pw_succ]; omega
theorem pw_30 : pw 30 = 1073741824 := by decide

set_option maxHeartbeats 400000 in
theorem power_any (k : Nat) (w : World) (h : k ≤ 30) :
    Calls Try.prog 85 #[.int .i64 k] w fun e w' => e = .returned (.int .i64 (pw k)) ∧ w = w' := by
  go_enter Try.func85, Try.ntmps85
  go_wp2
  go_loop [3, 4] (fun o i => ∃ m : Nat, m ≤ k ∧ i = .int .i64 m ∧ o = .int .i64 (pw m)) (fun _ i => k - (intOf i).toNat)
  case atStart => exact ⟨0, Nat.zero_le _, rfl, rfl⟩
  case round =>
    obtain ⟨m, hm, rfl, rfl⟩ := hrel
    have h1 := pw_pos m
    have h2 : pw m ≤ 1073741824 := by rw [← pw_30]; exact pw_le m 30 (by omega)
    by_cases hlt : m < k
    · go_wp2
      go_round
      case rel => exact ⟨m + 1, by omega, by go_num, by rw [pw_succ]⟩
      case measure => simp [intOf]; omega
    · have : m = k := by omega
      subst this
      go_wp2
      go_ret
      exact ⟨rfl, rfl⟩

theorem in_yes (n lo hi : Int) (w : World) (h1 : lo ≤ n) (h2 : n ≤ hi) :
    Calls Try.prog 59 #[.int .i64 n, .int .i64 lo, .int .i64 hi] w fun e w' => e = .returned (.bool true) ∧ w = w' := by
  go_enter Try.func59, Try.ntmps59
  go_wp2
  go_ret
  exact ⟨rfl, rfl⟩
theorem in_no (n lo hi : Int) (w : World) (h : n < lo ∨ hi < n) :
    Calls Try.prog 59 #[.int .i64 n, .int .i64 lo, .int .i64 hi] w fun e w' => e = .returned (.bool false) ∧ w = w' := by
  by_cases h1 : lo ≤ n
  · have h2 : hi < n := by omega
    clear h
    go_enter Try.func59, Try.ntmps59
    go_wp2
    go_ret
    exact ⟨by simp; omega, rfl⟩
  · clear h
    go_enter Try.func59, Try.ntmps59
    go_wp2
    go_ret
    exact ⟨rfl, rfl⟩
def inB (n lo hi : Int) : Bool := decide (lo ≤ n ∧ n ≤ hi)
theorem inB_yes {n lo hi : Int} (h1 : lo ≤ n) (h2 : n ≤ hi) : inB n lo hi = true := decide_eq_true ⟨h1, h2⟩
theorem inB_no {n lo hi : Int} (h : n < lo ∨ hi < n) : inB n lo hi = false := decide_eq_false (by omega)
theorem inB_iff {n lo hi : Int} : inB n lo hi = true ↔ lo ≤ n ∧ n ≤ hi := decide_eq_true_iff
theorem in_any (n lo hi : Int) (w : World) :
    Calls Try.prog 59 #[.int .i64 n, .int .i64 lo, .int .i64 hi] w fun e w' => e = .returned (.bool (inB n lo hi)) ∧ w = w' := by
  by_cases h : lo ≤ n ∧ n ≤ hi
  · rw [inB_yes h.1 h.2]; exact in_yes n lo hi w h.1 h.2
  · rw [inB_no (by omega)]; exact in_no n lo hi w (by omega)

theorem side_any (n : Int) (w : World) :
    Calls Try.prog 61 #[.int .i64 n] w fun e w' => e = .returned (.bool (inB n 1 6)) ∧ w = w' := by
  by_cases h1 : 1 ≤ n <;> by_cases h2 : n ≤ 6
  · rw [inB_yes h1 h2]
    go_enter Try.func61, Try.ntmps61
    go_wp2
    go_ret
    exact ⟨rfl, rfl⟩
  all_goals
    rw [inB_no (by omega)]
    go_enter Try.func61, Try.ntmps61
    go_wp2
    go_ret
    exact ⟨rfl, rfl⟩

theorem full_num : ∀ k < 31, wrap64 (wrap64 (2 ^ k) - 1) = pw k - 1 := by decide +kernel
theorem full_any (k : Nat) (w : World) (h : k ≤ 30) :
    Calls Try.prog 76 #[.int .i64 k] w fun e w' => e = .returned (.int .i64 (pw k - 1)) ∧ w = w' := by
  have H := Lib.hid (full_num k (by omega))
  go_enter Try.func76, Try.ntmps76
  go_wp2
  go_ret
  exact ⟨by rw [← H.out]; rfl, rfl⟩

theorem block_lt {w : World} {a : Addr} {v : Value} (h : w.cell? a = some v) : a.block < w.heap.size := by
  unfold World.cell? at h
  split at h
  · rename_i hb; exact (Array.getElem?_eq_some_iff.1 hb).1
  · cases h
theorem qd {P : Program} {f : FuncId} {args : Array Value} {w : World} {n : Nat} {v : Value}
    (h : Calls P f args (w.drewN n) fun e w' => e = .returned v ∧ w.drewN n = w') : Calls P f args (w.drewN n) fun e w'' => e = .returned v ∧ ∃ m, w'' = w.drewN m :=
  h.mono fun _ _ ⟨he, hm⟩ => ⟨he, n, hm.symm⟩
theorem kept {B : Nat} {W wr : World} {a : Addr} {v : Value} (h : Below B W wr) (hb : a.block < B) (hc : W.cell? a = some v) : wr.cell? a = some v := by
  rw [h.cell hb]; exact hc
theorem old {B : Nat} {w wr : World} {o : Obj} {a : Addr} {v : Value} (h : Below B (w.alloc o) wr) (hB : w.heap.size ≤ B) (hc : w.cell? a = some v) : wr.cell? a = some v :=
  kept h (Nat.lt_of_lt_of_le (block_lt hc) hB) ((World.cell?_alloc_lt _ _ _ (block_lt hc)).trans hc)
/-- A slice of integers whose elements are 'xs'. -/
def Row (w : World) (a : Option Addr) (len : Nat) (xs : List Int) : Prop :=
  xs.length = len ∧ (len = 0 ∨ ∃ b off, a = some ⟨b, off, none⟩ ∧ ∀ i, i < len → w.cell? ⟨b, off + i, none⟩ = some (.int .i64 (xs.getD i 0)))

def validB (W : Int) (xs : List Int) : Bool :=
  inB W 1 6 && inB xs.length 1 6 && xs.all fun x => inB x 0 (pw W.toNat - 1)

theorem getD_elem {xs : List Int} {i : Nat} (hi : i < xs.length) : xs.getD i 0 = xs[i] := by simp [hi]
theorem validB_no1 {W : Int} {xs : List Int} (h : inB W 1 6 = false) : validB W xs = false := by simp [validB, h]
theorem validB_no2 {W : Int} {xs : List Int} (h : inB xs.length 1 6 = false) : validB W xs = false := by simp [validB, h]
theorem validB_no3 {W : Int} {xs : List Int} (i : Nat) (hi : i < xs.length) (h : inB (xs.getD i 0) 0 (pw W.toNat - 1) = false) : validB W xs = false := by
  have : (xs.all fun x => inB x 0 (pw W.toNat - 1)) = false := by
    rw [List.all_eq_false]; exact ⟨xs.getD i 0, by rw [getD_elem hi]; exact List.getElem_mem hi, by rw [h]; simp⟩
  simp [validB, this]
theorem validB_yes {W : Int} {xs : List Int} (h1 : inB W 1 6 = true) (h2 : inB xs.length 1 6 = true) (h : ∀ i, i < xs.length → inB (xs.getD i 0) 0 (pw W.toNat - 1) = true) : validB W xs = true := by
  have : (xs.all fun x => inB x 0 (pw W.toNat - 1)) = true := by
    rw [List.all_eq_true]; intro x hx
    obtain ⟨i, hi, rfl⟩ := List.getElem_of_mem hx
    have := h i hi
    rwa [getD_elem hi] at this
  simp [validB, h1, h2, this]

set_option maxHeartbeats 400000 in
theorem valid_impl (W : Int) (a : Option Addr) (len cap : Nat) (xs : List Int) (w : World) (h : Row w a len xs) (hm : len ≤ 9223372036854775807) :
    Calls Try.prog 64 #[.agg #[.int .i64 W, .slice a len cap]] w fun e w' => e = .returned (.bool (validB W xs)) ∧ Below w.heap.size w w' := by
  obtain ⟨hl, hr⟩ := h
  by_cases h1 : inB W 1 6 = true
  case neg =>
    have h1 : inB W 1 6 = false := by simpa using h1
    rw [validB_no1 h1]
    go_enter Try.func64, Try.ntmps64
    go_wp2_with (first | (go_at_call 61; refine (side_any _ _).mono ?_; rintro e w' ⟨rfl, rfl⟩))
    go_ret
    exact ⟨rfl, (Below.refl _ _).alloc (Nat.le_refl _) _⟩
  by_cases h2 : inB len 1 6 = true
  case neg =>
    have h2 : inB len 1 6 = false := by simpa using h2
    rw [validB_no2 (hl ▸ h2)]
    go_enter Try.func64, Try.ntmps64
    go_wp2_with (first | (go_at_call 61; refine (side_any _ _).mono ?_; rintro e w' ⟨rfl, rfl⟩))
    go_ret
    exact ⟨rfl, (Below.refl _ _).alloc (Nat.le_refl _) _⟩
  have hW := inB_iff.1 h1
  have hL := inB_iff.1 h2
  obtain ⟨W, rfl⟩ := Int.eq_ofNat_of_zero_le (by omega : 0 ≤ W)
  obtain ⟨b, off, rfl, hc⟩ := hr.resolve_left (by omega)
  go_enter Try.func64, Try.ntmps64
  go_wp2_with (first | (go_at_call 61; refine (side_any _ _).mono ?_; rintro e w' ⟨rfl, rfl⟩))
  go_loop [19] (fun i => ∃ k : Nat, k ≤ len ∧ i = .int .i64 k ∧ ∀ j, j < k → inB (xs.getD j 0) 0 (pw W - 1) = true) (fun i => len - (intOf i).toNat)
  case atStart => exact ⟨0, Nat.zero_le _, rfl, fun j hj => absurd hj (Nat.not_lt_zero _)⟩
  case round =>
    obtain ⟨k, hk, rfl, hall⟩ := hrel
    have HA := Lib.hid hall
    clear hall
    by_cases hlt : k < len
    · have hck := hc k hlt
      have hb : b < w.heap.size := block_lt hck
      clear hc hr
      go_wp2_with (first | (go_at_call 76; refine (full_any _ _ (by omega)).mono ?_; rintro e w' ⟨rfl, rfl⟩))
      case roundEnd =>
        refine ⟨⟨k + 1, by omega, by go_num, ?_⟩, by simp [intOf]; omega⟩
        intro j hj
        by_cases e : j = k
        · subst e; exact inB_iff.2 (by rw [getD_elem (by omega)]; assumption)
        · exact HA.out j (by omega)
      all_goals
        go_ret
        refine ⟨?_, (Below.refl _ _).alloc (Nat.le_refl _) _⟩
        rw [validB_no3 k (by omega) (inB_no (by rw [getD_elem (by omega), Int.toNat_natCast]; first | assumption | (left; assumption) | (right; assumption)))]; rfl
    · clear hc hr
      have : k = len := by omega
      subst this
      go_wp2
      go_ret
      exact ⟨by rw [validB_yes h1 (hl ▸ h2) (fun i hi => HA.out i (by omega))]; rfl, (Below.refl _ _).alloc (Nat.le_refl _) _⟩

set_option maxHeartbeats 400000 in
theorem valid_spec (W : Int) (a : Option Addr) (len cap : Nat) (xs : List Int) (w : World) (h : Row w a len xs) (hm : len ≤ 9223372036854775807) :
    Calls Try.prog 67 #[.agg #[.int .i64 W, .slice a len cap]] w fun e w' => e = .returned (.bool (validB W xs)) ∧ Below w.heap.size w w' := by
  obtain ⟨hl, hr⟩ := h
  by_cases h1 : inB W 1 6 = true
  case neg =>
    have h1 : inB W 1 6 = false := by simpa using h1
    rw [validB_no1 h1]
    go_enter Try.func67, Try.ntmps67
    go_wp2_with (first | (go_at_call 59; refine (in_any _ _ _ _).mono ?_; rintro e w' ⟨rfl, rfl⟩))
    go_ret
    exact ⟨rfl, (Below.refl _ _).alloc (Nat.le_refl _) _⟩
  by_cases h2 : inB len 1 6 = true
  case neg =>
    have h2 : inB len 1 6 = false := by simpa using h2
    rw [validB_no2 (hl ▸ h2)]
    go_enter Try.func67, Try.ntmps67
    go_wp2_with (first | (go_at_call 59; refine (in_any _ _ _ _).mono ?_; rintro e w' ⟨rfl, rfl⟩))
    go_ret
    exact ⟨rfl, (Below.refl _ _).alloc (Nat.le_refl _) _⟩
  have hW := inB_iff.1 h1
  have hL := inB_iff.1 h2
  obtain ⟨W, rfl⟩ := Int.eq_ofNat_of_zero_le (by omega : 0 ≤ W)
  obtain ⟨b, off, rfl, hc⟩ := hr.resolve_left (by omega)
  go_enter Try.func67, Try.ntmps67
  go_wp2_with (first | (go_at_call 59; refine (in_any _ _ _ _).mono ?_; rintro e w' ⟨rfl, rfl⟩))
  go_loopw [3] (fun i wr => ∃ k : Nat, k ≤ len ∧ i = .int .i64 k ∧ Hid (∀ j, j < k → inB (xs.getD j 0) 0 (pw W - 1) = true) ∧ Below (w.heap.size + 1) (w.alloc (.cells #[.int .i64 W, .slice (some ⟨b, off, none⟩) len cap] 35)) wr) (fun i _ => len - (intOf i).toNat)
  case atStart => exact ⟨0, Nat.zero_le _, rfl, fun j hj => absurd hj (Nat.not_lt_zero _), Below.refl _ _⟩
  case round =>
    obtain ⟨k, hk, rfl, HA, hbel⟩ := hrel
    have x0 : wr.cell? ⟨w.heap.size, 0, none⟩ = some (.int .i64 W) := kept hbel (by simp) (by simp)
    have x1 : wr.cell? ⟨w.heap.size, 1, none⟩ = some (.slice (some ⟨b, off, none⟩) len cap) := kept hbel (by simp) (by simp)
    by_cases hlt : k < len
    · have hck := hc k hlt
      have hb : b < w.heap.size := block_lt hck
      have hcr : wr.cell? ⟨b, off + k, none⟩ = some (.int .i64 (xs.getD k 0)) := old hbel (by omega) hck
      have hp := pw_pos W
      have hp2 : pw W ≤ 1073741824 := by rw [← pw_30]; exact pw_le W 30 (by omega)
      clear hc hr
      go_wp2_with (fail)
      go_quiet (first | (go_at_call 59; exact qd (in_any _ _ _ _)) | (go_at_call 85; exact qd (power_any _ _ (by omega))))
      go_wp2
      case roundEnd =>
        refine ⟨⟨k + 1, by omega, by go_num, fun j hj => ?_, below_drewN hbel _⟩, by simp [intOf]; omega⟩
        by_cases e : j = k
        · subst e; rw [getD_elem (by omega)]; simpa using ‹(!inB _ _ _) = false›
        · exact HA.out j (by omega)
      go_ret
      refine ⟨?_, below_drewN (((Below.refl _ _).alloc (Nat.le_refl _) _).trans (hbel.mono (by omega))) _⟩
      rw [validB_no3 k (by omega) (by rw [getD_elem (by omega), Int.toNat_natCast]; simpa using ‹(!inB _ _ _) = true›)]; rfl
    · clear hc hr
      have : k = len := by omega
      subst this
      go_wp2
      go_ret
      exact ⟨by rw [validB_yes h1 (hl ▸ h2) (fun i hi => HA.out i (by omega))]; rfl, ((Below.refl _ _).alloc (Nat.le_refl _) _).trans (hbel.mono (by omega))⟩
end Go.Proofs.Ytemmfnlnhekclaa

namespace Go.Proofs.Ytemmfnlnhekclaa
set_option maxRecDepth 100000
open Go.RowKit

theorem infoInt : (Try.prog.info? 3).map (fun i => (i.zero, i.size, i.bytes)) = some (some (.int .i64 0), 1, 8) := by kernel_rfl

/-- A slice of integers that the call owns: it starts at the head of a block from B on. -/
def OwnI (w : World) (B : Nat) (a : Option Addr) (len cap : Nat) (xs : List Int) : Prop :=
  w.ownsRow B 3 1 (.slice a len cap) len (xs.map (Value.int .i64))

theorem OwnI.len {w : World} {B : Nat} {a : Option Addr} {len cap : Nat} {xs : List Int} (h : OwnI w B a len cap xs) : xs.length = len := by
  have := h.1; simpa using this
theorem OwnI.cases {w : World} {B : Nat} {a : Option Addr} {len cap : Nat} {xs : List Int} (h : OwnI w B a len cap xs) : (a = none ∧ len = 0 ∧ cap = 0) ∨ ∃ g, a = some ⟨g, 0, none⟩ ∧ B ≤ g ∧ g < w.heap.size := by
  rcases h.2 with ⟨h1, _⟩ | ⟨g, c, cur, h1, h2, h3, _⟩
  · left; simpa using h1
  · right; simp only [Value.slice.injEq] at h1
    exact ⟨g, h1.1, h2, (Array.getElem?_eq_some_iff.1 h3).1⟩
theorem OwnI.row {w : World} {B : Nat} {a : Option Addr} {len cap : Nat} {xs : List Int} (h : OwnI w B a len cap xs) : Row w a len xs := by
  refine ⟨h.len, ?_⟩
  rcases h.cases with ⟨_, h2, _⟩ | ⟨g, rfl, _, _⟩
  · left; exact h2
  · right; refine ⟨g, 0, rfl, fun i hi => ?_⟩
    have hl := h.len
    rw [show 0 + i = i by omega, World.ownsRow.cellAt h i (by omega)]
    simp [show i < xs.length by omega]
theorem OwnI.frozen {w : World} {B g : Nat} {len cap : Nat} {xs : List Int} (h : OwnI w B (some ⟨g, 0, none⟩) len cap xs) (j : Nat) : w.frozen? ⟨g, j, none⟩ = false := World.ownsRow.frozenAt h j
theorem below_grown {w w' : World} (h : Below w.heap.size w w') (row : Option Nat) : w.grownBy w' row := ⟨h.os, h.tape, h.output, h.size, fun k hk _ => h.block k hk⟩
theorem OwnI.bel {w w' : World} {B : Nat} {a : Option Addr} {len cap : Nat} {xs : List Int} (h : OwnI w B a len cap xs) (hb : Below w.heap.size w w') : OwnI w' B a len cap xs := by
  refine World.ownsRow.kept h (below_grown hb none) ?_
  rcases h.cases with ⟨rfl, _, _⟩ | ⟨g, rfl, _, _⟩
  · left; rfl
  · right; simp [Value.ownBlock]
theorem OwnI.other {w w' : World} {B k : Nat} {a : Option Addr} {len cap : Nat} {xs : List Int} (h : OwnI w B a len cap xs) (hg : w.grownBy w' (some k)) (hk : k < B) : OwnI w' B a len cap xs := by
  refine World.ownsRow.kept h hg ?_
  rcases h.cases with ⟨rfl, _, _⟩ | ⟨g, rfl, hg, _⟩
  · left; rfl
  · right; simp [Value.ownBlock]; omega
theorem OwnI.store {w : World} {B : Nat} {a : Option Addr} {len cap : Nat} {xs : List Int} (h : OwnI w B a len cap xs) {p : Addr} (hp : p.block < B) (v : Value) : OwnI (w.setCell p v) B a len cap xs :=
  h.other (k := p.block) ⟨rfl, rfl, rfl, by simp [World.setCell], fun k _ hk => Below.heap_setCell _ _ _ _ (fun e => hk (by rw [e]))⟩ hp
theorem OwnI.mono {w : World} {B B' : Nat} {a : Option Addr} {len cap : Nat} {xs : List Int} (h : OwnI w B a len cap xs) (hB : B' ≤ B) : OwnI w B' a len cap xs := by
  obtain ⟨h1, h2⟩ := h
  refine ⟨h1, ?_⟩
  rcases h2 with h2 | ⟨g, c, cur, e, hg, r⟩
  · exact .inl h2
  · exact .inr ⟨g, c, cur, e, by omega, r⟩
theorem grown_set {w w' : World} {g j : Nat} {v : Value} (h : w.grownBy w' (some g)) : w.grownBy (w'.setCell ⟨g, j, none⟩ v) (some g) :=
  ⟨h.os, h.tape, h.output, by simpa [World.setCell] using h.size, fun k hk hn => (Below.heap_setCell _ _ _ _ (fun e => hn (by rw [e]))).trans (h.block k hk hn)⟩
theorem Row.bel {w w' : World} {a : Option Addr} {len : Nat} {xs : List Int} (h : Row w a len xs) (hb : Below w.heap.size w w') : Row w' a len xs := by
  obtain ⟨h1, h2⟩ := h
  refine ⟨h1, ?_⟩
  rcases h2 with h2 | ⟨b, off, rfl, hc⟩
  · left; exact h2
  · right; exact ⟨b, off, rfl, fun i hi => kept hb (block_lt (hc i hi)) (hc i hi)⟩
theorem OwnI.set {w : World} {B g : Nat} {len cap : Nat} {xs : List Int} (h : OwnI w B (some ⟨g, 0, none⟩) len cap xs) (j : Nat) (u : Int) :
    OwnI (w.setCell ⟨g, j, none⟩ (.int .i64 u)) B (some ⟨g, 0, none⟩) len cap (xs.set j u) := by
  unfold OwnI; rw [List.map_set]; exact (World.ownsRow.stored h j _).1

theorem Row.alloc {w : World} {a : Option Addr} {len : Nat} {xs : List Int} (h : Row w a len xs) (o : Obj) : Row (w.alloc o) a len xs := h.bel ((Below.refl _ _).alloc (Nat.le_refl _) o)
theorem Row.drewN {w : World} {a : Option Addr} {len : Nat} {xs : List Int} (h : Row w a len xs) (n : Nat) : Row (w.drewN n) a len xs := h.bel (below_drewN (Below.refl _ _) n)
theorem bcell {W w1 : World} {B : Nat} (hb : Below B W w1) : (∀ b o, b < B → w1.cell? ⟨b, o, none⟩ = W.cell? ⟨b, o, none⟩) ∧ (∀ b o, b < B → w1.frozen? ⟨b, o, none⟩ = W.frozen? ⟨b, o, none⟩) :=
  ⟨fun b o h => hb.cell (p := ⟨b, o, none⟩) h, fun b o h => hb.frozen (p := ⟨b, o, none⟩) h⟩
theorem fill_step {xs : List Int} {len k : Nat} (hl : xs.length = len) (hk : k < len) :
    (xs.take k ++ List.replicate (len - k) 0).set k (xs.getD k 0) = xs.take (k + 1) ++ List.replicate (len - (k + 1)) 0 := by
  apply List.ext_getElem?
  intro i
  have h1 : xs[k]? = some xs[k] := List.getElem?_eq_getElem (by omega)
  by_cases e : i = k
  · subst e
    rw [List.getElem?_set_self (by simp; omega), List.getElem?_append_left (by simp; omega), List.getElem?_take_of_lt (by omega), getD_elem (by omega), h1]
  · rw [List.getElem?_set_ne (by omega)]
    by_cases h : i < k
    · rw [List.getElem?_append_left (by simp; omega), List.getElem?_append_left (by simp; omega), List.getElem?_take_of_lt h, List.getElem?_take_of_lt (by omega)]
    · have e1 : (xs.take k).length = k := by rw [List.length_take]; omega
      have e2 : (xs.take (k + 1)).length = k + 1 := by rw [List.length_take]; omega
      rw [List.getElem?_append_right (by omega), List.getElem?_append_right (by omega), e1, e2, List.getElem?_replicate, List.getElem?_replicate]
      by_cases h2 : i < len
      · rw [if_pos (by omega), if_pos (by omega)]
      · rw [if_neg (by omega), if_neg (by omega)]

theorem sz_any (a : Option Addr) (len cap : Nat) (l : Int) (w : World) (hm : len ≤ 9223372036854775807) (h0 : 0 ≤ l) (h1 : l ≤ 1048576) :
    Calls Try.prog 82 #[.slice a len cap, .int .i64 l] w fun e w' => e = .returned (.int .i64 (if l < len then -1 else l - len)) ∧ w = w' := by
  by_cases h : l < len
  · rw [if_pos h]
    go_enter Try.func82, Try.ntmps82
    go_wp2
    go_ret
    exact ⟨rfl, rfl⟩
  · rw [if_neg h]
    go_enter Try.func82, Try.ntmps82
    go_wp2
    go_ret
    exact ⟨rfl, rfl⟩

set_option maxHeartbeats 400000 in
theorem to_any (a : Option Addr) (len cap : Nat) (xs : List Int) (w : World) (h : Row w a len xs) (hm : len ≤ 1048576) :
    Calls Try.prog 83 #[.slice a len cap] w fun e w' => (∃ g, e = .returned (.slice (some ⟨g, 0, none⟩) len len) ∧ w.heap.size ≤ g ∧ OwnI w' w.heap.size (some ⟨g, 0, none⟩) len len xs) ∧ Below w.heap.size w w' := by
  obtain ⟨hl, hr⟩ := h
  obtain ⟨i0, hi, hz0, hz1, hz2⟩ := info_parts infoInt
  have hR := Lib.hid hr
  clear hr
  go_enter Try.func83, Try.ntmps83
  go_wp2_with ((refine wpList_make_full w rfl _ _ 33 rfl w.heap.size 3 i0 (.int .i64 0) 1 Try.underlying33 hi hz0 hz1 .i64 .i64 len len len rfl rfl rfl rfl ?_ ?_ (Nat.le_refl _) ?_))
  all_goals first | (rw [hz2]; omega) | (unfold maxLen; omega) | skip
  intro w1 ho hg
  have ho0 : OwnI w1 w.heap.size (some ⟨w.heap.size, 0, none⟩) len len (List.replicate len 0) := by
    unfold OwnI; simpa [toList_madeCells_one, List.map_replicate] using ho
  have hb1 : Below w.heap.size w w1 := (Below.refl _ _).grown hg (Nat.le_refl _) (fun k hk => by cases hk)
  clear ho hg
  go_wp2
  go_loopw [4] (fun i wr => ∃ k : Nat, k ≤ len ∧ i = .int .i64 k ∧ Below w.heap.size w wr ∧ OwnI wr w.heap.size (some ⟨w.heap.size, 0, none⟩) len len (xs.take k ++ List.replicate (len - k) 0)) (fun i _ => len - (intOf i).toNat)
  case atStart => exact ⟨0, Nat.zero_le _, rfl, hb1, by simpa using ho0⟩
  case round =>
    obtain ⟨k, hk, rfl, hbel, hown⟩ := hrel
    by_cases hlt : k < len
    · obtain ⟨b, off, rfl, hc⟩ := hR.out.resolve_left (by omega)
      have hck := kept hbel (block_lt (hc k hlt)) (hc k hlt)
      have hl2 := hown.len
      have hd : wr.cell? ⟨w.heap.size, k, none⟩ = some (.int .i64 ((xs.take k ++ List.replicate (len - k) 0).getD k 0)) := by
        rw [World.ownsRow.cellAt hown k (by omega), List.getElem?_map, List.getElem?_eq_getElem (by omega), getD_elem (by omega)]; rfl
      have hf := hown.frozen k
      have hs := hown.set k (xs.getD k 0)
      have e : (xs.take k ++ List.replicate (len - k) 0).set k (xs.getD k 0) = xs.take (k + 1) ++ List.replicate (len - (k + 1)) 0 := fill_step hl hlt
      rw [e] at hs
      generalize (xs.take k ++ List.replicate (len - k) 0).getD k 0 = z at hd
      clear e hl2 hc hb1 ho0
      have hs := Lib.hid hs
      have hown := Lib.hid hown
      go_wp2
      refine ⟨⟨k + 1, by omega, by go_num, hbel.setCell (Nat.le_refl _) _, ?_⟩, by simp [intOf]; omega⟩
      have := hs.out; rwa [getD_elem (by omega)] at this
    · have : k = len := by omega
      subst this
      have hown := Lib.hid hown
      clear hb1 ho0
      go_wp2
      go_ret
      have ho := hown.out
      rw [Nat.sub_self, List.take_of_length_le (by omega)] at ho
      exact ⟨⟨_, rfl, Nat.le_refl _, by simpa using ho⟩, hbel⟩

/-- 'toImage': a copy in new memory. -/
theorem toImage_any (W : Int) (a : Option Addr) (len cap : Nat) (xs : List Int) (w : World) (h : Row w a len xs) (hm : len ≤ 1048576) :
    Calls Try.prog 45 #[.agg #[.int .i64 W, .slice a len cap]] w fun e w' =>
      (∃ g, e = .returned (.agg #[.int .i64 W, .slice (some ⟨g, 0, none⟩) len len]) ∧ w.heap.size ≤ g ∧ OwnI w' w.heap.size (some ⟨g, 0, none⟩) len len xs) ∧ Below w.heap.size w w' := by
  go_enter Try.func45, Try.ntmps45
  go_wp2_with fail
  refine (to_any _ _ _ xs _ (((h.alloc _).alloc _).alloc _) hm).mono ?_
  rintro e w1 ⟨⟨g, rfl, hg, ho⟩, hb⟩
  obtain ⟨hc, hf⟩ := bcell hb
  have hz : w.heap.size + 2 < w1.heap.size := by have := hb.size; simp at this; omega
  have hg : w.heap.size + 3 ≤ g := by simpa using hg
  have ho := Lib.hid ho
  go_wp2
  refine bodyPost_ret (v := .agg #[.int .i64 W, .slice (some ⟨g, 0, none⟩) len len]) (by simp [results, Try.results45, go_sem, hc]) rfl ?_
  have hbz : Below w.heap.size w w1 := ((((Below.refl _ _).alloc (Nat.le_refl _) _).alloc (by simp) _).alloc (by simp; omega) _).trans (hb.mono (by simp; omega))
  exact ⟨⟨g, rfl, by omega, (((ho.out.store (by simp) _).store (by simp) _).store (by simp) _).mono (by simp; omega)⟩, ((hbz.setCell (by simp; omega) _).setCell (by simp) _).setCell (by simp) _⟩

theorem row_at {w : World} {a : Option Addr} {len : Nat} {xs : List Int} (h : Row w a len xs) {k : Nat} (hk : k < len) : ∃ b off, a = some ⟨b, off, none⟩ ∧ w.cell? ⟨b, off + k, none⟩ = some (.int .i64 (xs.getD k 0)) := by
  obtain ⟨b, off, rfl, hc⟩ := h.2.resolve_left (by omega)
  exact ⟨b, off, rfl, hc k hk⟩

set_option maxHeartbeats 400000 in
/-- 'eqIntS' at two equal lists. -/
theorem eq_yes (a a' : Option Addr) (len cap cap' : Nat) (xs : List Int) (w : World) (h : Row w a len xs) (h' : Row w a' len xs) (hm : len ≤ 9223372036854775807) :
    Calls Try.prog 46 #[.slice a len cap, .slice a' len cap'] w fun e w' => e = .returned (.bool true) ∧ Below w.heap.size w w' := by
  have hR := Lib.hid h
  have hR' := Lib.hid h'
  clear h h'
  go_enter Try.func46, Try.ntmps46
  go_wp2
  go_loopw [5] (fun i wr => ∃ k : Nat, k ≤ len ∧ i = .int .i64 k ∧ Below w.heap.size w wr) (fun i _ => len - (intOf i).toNat)
  case atStart => exact ⟨0, Nat.zero_le _, rfl, Below.refl _ _⟩
  case round =>
    obtain ⟨k, hk, rfl, hbel⟩ := hrel
    by_cases hlt : k < len
    · obtain ⟨b, off, rfl, hc⟩ := row_at hR.out hlt
      obtain ⟨b', off', rfl, hc'⟩ := row_at hR'.out hlt
      have hc := kept hbel (block_lt hc) hc
      have hc' := kept hbel (block_lt hc') hc'
      go_wp2
      go_quiet (fail)
      go_wp2
      exact ⟨⟨k + 1, by omega, by go_num, below_drewN hbel _⟩, by simp [intOf]; omega⟩
    · have : k = len := by omega
      subst this
      go_wp2
      go_ret
      exact ⟨rfl, hbel⟩

set_option maxHeartbeats 400000 in
/-- 'sameInts' at two equal lists. -/
theorem same_yes (a a' : Option Addr) (len cap cap' : Nat) (xs : List Int) (w : World) (h : Row w a len xs) (h' : Row w a' len xs) (hm : len ≤ 9223372036854775807) :
    Calls Try.prog 29 #[.slice a len cap, .slice a' len cap'] w fun e w' => e = .returned (.bool true) ∧ Below w.heap.size w w' := by
  have hR := Lib.hid h
  have hR' := Lib.hid h'
  clear h h'
  go_enter Try.func29, Try.ntmps29
  go_wp2
  go_loopw [5] (fun i wr => ∃ k : Nat, k ≤ len ∧ i = .int .i64 k ∧ Below w.heap.size w wr) (fun i _ => len - (intOf i).toNat)
  case atStart => exact ⟨0, Nat.zero_le _, rfl, Below.refl _ _⟩
  case round =>
    obtain ⟨k, hk, rfl, hbel⟩ := hrel
    by_cases hlt : k < len
    · obtain ⟨b, off, rfl, hc⟩ := row_at hR.out hlt
      obtain ⟨b', off', rfl, hc'⟩ := row_at hR'.out hlt
      have hc := kept hbel (block_lt hc) hc
      have hc' := kept hbel (block_lt hc') hc'
      go_wp2
      go_quiet (fail)
      go_wp2
      exact ⟨⟨k + 1, by omega, by go_num, below_drewN hbel _⟩, by simp [intOf]; omega⟩
    · have : k = len := by omega
      subst this
      go_wp2
      go_ret
      exact ⟨rfl, hbel⟩

set_option maxHeartbeats 400000 in
/-- 'eqImage' at two equal images. -/
theorem eqImage_yes (W : Int) (a a' : Option Addr) (len cap cap' : Nat) (xs : List Int) (w : World) (h : Row w a len xs) (h' : Row w a' len xs) (hm : len ≤ 9223372036854775807) :
    Calls Try.prog 47 #[.agg #[.int .i64 W, .slice a len cap], .agg #[.int .i64 W, .slice a' len cap']] w fun e w' => e = .returned (.bool true) ∧ Below w.heap.size w w' := by
  go_enter Try.func47, Try.ntmps47
  go_wp2_with fail
  refine (eq_yes _ _ _ _ _ xs _ ((h.alloc _).alloc _) ((h'.alloc _).alloc _) hm).mono ?_
  rintro e w1 ⟨rfl, hb⟩
  go_wp2
  go_ret
  exact ⟨rfl, (((Below.refl _ _).alloc (Nat.le_refl _) _).alloc (by simp) _).trans (hb.mono (by simp; omega))⟩

set_option maxHeartbeats 400000 in
/-- 'sameImage' at two equal images. -/
theorem sameImage_yes (W : Int) (a a' : Option Addr) (len cap cap' : Nat) (xs : List Int) (w : World) (h : Row w a len xs) (h' : Row w a' len xs) (hm : len ≤ 9223372036854775807) :
    Calls Try.prog 42 #[.agg #[.int .i64 W, .slice a len cap], .agg #[.int .i64 W, .slice a' len cap']] w fun e w' => e = .returned (.bool true) ∧ Below w.heap.size w w' := by
  go_enter Try.func42, Try.ntmps42
  go_wp2_with fail
  refine (same_yes _ _ _ _ _ xs _ ((h.alloc _).alloc _) ((h'.alloc _).alloc _) hm).mono ?_
  rintro e w1 ⟨rfl, hb⟩
  go_wp2
  go_ret
  exact ⟨rfl, (((Below.refl _ _).alloc (Nat.le_refl _) _).alloc (by simp) _).trans (hb.mono (by simp; omega))⟩

def marks (k : Int) : Nat → List Int
  | 0 => []
  | n + 1 => k :: marks (k + 1) n
theorem marks_len (n : Nat) : ∀ k, (marks k n).length = n := by
  induction n with
  | zero => intro k; rfl
  | succ n ih => intro k; simp [marks, ih]
theorem marks_get (n : Nat) : ∀ (k : Int) (i : Nat), i < n → (marks k n).getD i 0 = k + i := by
  induction n with
  | zero => intro k i hi; omega
  | succ n ih =>
    intro k i hi
    cases i with
    | zero => simp [marks]
    | succ i => simp only [marks, List.getD_cons_succ]; rw [ih (k + 1) i (by omega)]; omega
theorem mark_step {xs : List Int} {len j : Nat} {k : Int} (hl : xs.length = len) (hj : j < len) :
    ((marks k len).take j ++ xs.drop j).set j (k + j) = (marks k len).take (j + 1) ++ xs.drop (j + 1) := by
  have hm := marks_len len k
  have e1 : ((marks k len).take j).length = j := by rw [List.length_take]; omega
  rw [List.set_append_right _ _ (by omega), e1, Nat.sub_self, List.take_succ_eq_append_getElem (by omega), List.append_assoc]
  have : (marks k len)[j]'(by omega) = k + j := by rw [← marks_get len k j hj, getD_elem (by omega)]
  rw [this, List.drop_eq_getElem_cons (by omega : j < xs.length), List.set_cons_zero]
  rfl

set_option maxHeartbeats 400000 in
/-- 'markIntS' over a slice that is owned. -/
theorem mark_any (B : Nat) (g len cap : Nat) (xs : List Int) (k : Int) (w : World) (h : OwnI w B (some ⟨g, 0, none⟩) len cap xs) (hm : len ≤ 1048576) (h0 : 0 ≤ k) (h1 : k ≤ 4194304) :
    Calls Try.prog 49 #[.slice (some ⟨g, 0, none⟩) len cap, .int .i64 k] w fun e w' => e = .returned (.int .i64 (k + len)) ∧ w.grownBy w' (some g) ∧ OwnI w' B (some ⟨g, 0, none⟩) len cap (marks k len) := by
  have hl := h.len
  have H := Lib.hid h
  clear h
  go_enter Try.func49, Try.ntmps49
  go_wp2
  go_loopw [1, 5] (fun q i wr => ∃ j : Nat, j ≤ len ∧ i = .int .i64 j ∧ q = .int .i64 (k + j) ∧ w.grownBy wr (some g) ∧ OwnI wr B (some ⟨g, 0, none⟩) len cap ((marks k len).take j ++ xs.drop j)) (fun _ i _ => len - (intOf i).toNat)
  case atStart => exact ⟨0, Nat.zero_le _, rfl, by simp, World.grownBy.refl _ _, by simpa using H.out⟩
  case round =>
    obtain ⟨j, hj, rfl, rfl, hgr, hown⟩ := hrel
    by_cases hlt : j < len
    · have hl2 := hown.len
      have hd : wr.cell? ⟨g, j, none⟩ = some (.int .i64 (((marks k len).take j ++ xs.drop j).getD j 0)) := by
        rw [World.ownsRow.cellAt hown j (by omega), List.getElem?_map, List.getElem?_eq_getElem (by omega), getD_elem (by omega)]; rfl
      have hf := hown.frozen j
      have hs := hown.set j (k + j)
      have hg2 : w.grownBy (wr.setCell ⟨g, j, none⟩ (.int .i64 (k + j))) (some g) := grown_set hgr
      rw [mark_step hl hlt] at hs
      generalize ((marks k len).take j ++ xs.drop j).getD j 0 = z at hd
      clear hl2
      have hs := Lib.hid hs
      have hown := Lib.hid hown
      have hg2 := Lib.hid hg2
      go_wp2
      exact ⟨⟨j + 1, by omega, by go_num, by go_num, hg2.out, hs.out⟩, by simp [intOf]; omega⟩
    · have : j = len := by omega
      subst this
      have hown := Lib.hid hown
      go_wp2
      go_ret
      have ho := hown.out
      rw [List.take_of_length_le (by rw [marks_len]; omega), List.drop_of_length_le (by omega), List.append_nil] at ho
      exact ⟨rfl, hgr, ho⟩

set_option maxHeartbeats 400000 in
/-- 'heldIntS' over a slice that holds its marks. -/
theorem held_any (a : Option Addr) (len cap : Nat) (k : Int) (w : World) (h : Row w a len (marks k len)) (hm : len ≤ 1048576) (h0 : 0 ≤ k) (h1 : k ≤ 4194304) :
    Calls Try.prog 50 #[.slice a len cap, .int .i64 k] w fun e w' => e = .returned (.int .i64 (k + len)) ∧ Below w.heap.size w w' := by
  have H := Lib.hid h
  clear h
  go_enter Try.func50, Try.ntmps50
  go_wp2
  go_loopw [1, 5] (fun q i wr => ∃ j : Nat, j ≤ len ∧ i = .int .i64 j ∧ q = .int .i64 (k + j) ∧ Below w.heap.size w wr) (fun _ i _ => len - (intOf i).toNat)
  case atStart => exact ⟨0, Nat.zero_le _, rfl, by simp, Below.refl _ _⟩
  case round =>
    obtain ⟨j, hj, rfl, rfl, hbel⟩ := hrel
    by_cases hlt : j < len
    · obtain ⟨b, off, rfl, hc⟩ := row_at H.out hlt
      rw [marks_get _ _ _ hlt] at hc
      have hc := kept hbel (block_lt hc) hc
      go_wp2
      exact ⟨⟨j + 1, by omega, by go_num, by go_num, hbel⟩, by simp [intOf]; omega⟩
    · have : j = len := by omega
      subst this
      go_wp2
      go_ret
      exact ⟨rfl, hbel⟩

theorem markImage_any (B : Nat) (W : Int) (g len cap : Nat) (xs : List Int) (k : Int) (w : World) (h : OwnI w B (some ⟨g, 0, none⟩) len cap xs) (hm : len ≤ 1048576) (h0 : 0 ≤ k) (h1 : k ≤ 4194304) :
    Calls Try.prog 48 #[.agg #[.int .i64 W, .slice (some ⟨g, 0, none⟩) len cap], .int .i64 k] w fun e w' => e = .returned (.int .i64 (k + len)) ∧ w.grownBy w' (some g) ∧ OwnI w' B (some ⟨g, 0, none⟩) len cap (marks k len) := by
  have H := Lib.hid h
  clear h
  go_enter Try.func48, Try.ntmps48
  go_wp2_with fail
  refine (mark_any B _ _ _ xs _ _ (H.out.bel ((Below.refl _ _).alloc (Nat.le_refl _) _)) hm h0 h1).mono ?_
  rintro e w1 ⟨rfl, hgr, ho⟩
  have ho := Lib.hid ho
  go_wp2
  go_ret
  exact ⟨rfl, ⟨hgr.os, hgr.tape, hgr.output, by have := hgr.size; simp at this; omega, fun k hk hn => (hgr.block k (by simp; omega) hn).trans (Below.heap_alloc _ _ _ hk)⟩, ho.out⟩

theorem szImage_any (W : Int) (a : Option Addr) (len cap : Nat) (l : Int) (w : World) (hm : len ≤ 9223372036854775807) (h0 : 0 ≤ l) (h1 : l ≤ 1048576) :
    Calls Try.prog 44 #[.agg #[.int .i64 W, .slice a len cap], .int .i64 l] w fun e w' => e = .returned (.int .i64 (if l < len then -1 else l - len)) ∧ Below w.heap.size w w' := by
  by_cases h : l < len
  · rw [if_pos h]
    go_enter Try.func44, Try.ntmps44
    go_wp2_with (first | (go_at_call 82; refine (sz_any _ _ _ _ _ hm h0 h1).mono ?_; rintro e w' ⟨rfl, rfl⟩))
    go_ret
    exact ⟨rfl, (Below.refl _ _).alloc (Nat.le_refl _) _⟩
  · rw [if_neg h]
    go_enter Try.func44, Try.ntmps44
    go_wp2_with (first | (go_at_call 82; refine (sz_any _ _ _ _ _ hm h0 h1).mono ?_; rintro e w' ⟨rfl, rfl⟩))
    go_ret
    exact ⟨rfl, (Below.refl _ _).alloc (Nat.le_refl _) _⟩
end Go.Proofs.Ytemmfnlnhekclaa

namespace Go.Proofs.Ytemmfnlnhekclaa
set_option maxRecDepth 100000
open Go.RowKit

theorem pw_pow (k : Nat) : pw k = 2 ^ k := by
  induction k with
  | zero => rfl
  | succ k ih => rw [pw_succ, ih, Int.pow_succ]
theorem and_nat : ∀ n, n < 64 → bits BinOp.and IntKind.i64 ((n : Nat) : Int) 1 = (n : Int) % 2 := by decide +kernel
theorem and_one {y : Int} (h0 : 0 ≤ y) (h1 : y ≤ 63) : bits BinOp.and IntKind.i64 y 1 = y % 2 := by
  obtain ⟨n, rfl⟩ := Int.eq_ofNat_of_zero_le h0
  exact and_nat n (by omega)
/-- A bit of a row. -/
def bitI (x : Int) (j : Nat) : Int := x / pw j % 2
theorem bit_num (x : Int) (j : Nat) (h0 : 0 ≤ x) (h1 : x ≤ 9223372036854775807) : (wrap64 (x.tdiv (pw j))).tmod 2 = bitI x j := by
  have hp := pw_pos j
  have e : x.tdiv (pw j) = x / pw j := Int.tdiv_eq_ediv_of_nonneg h0
  have hd : 0 ≤ x / pw j := Int.ediv_nonneg h0 (by omega)
  have hd2 : x / pw j ≤ x := Int.ediv_le_self _ h0
  rw [e, IntWalk.wrap64_in _ ⟨by omega, by omega⟩, Int.tmod_eq_emod_of_nonneg hd]
  rfl
theorem shr_bit {x : Int} {j : Nat} (h0 : 0 ≤ x) (h1 : x ≤ 63) : bits BinOp.and IntKind.i64 (x / 2 ^ j) 1 = bitI x j := by
  have hp := pw_pos j
  rw [← pw_pow]
  have hd : 0 ≤ x / pw j := Int.ediv_nonneg h0 (by omega)
  have hd2 : x / pw j ≤ x := Int.ediv_le_self _ h0
  rw [and_one hd (by omega)]; rfl
theorem bit_01 (x : Int) (j : Nat) : 0 ≤ bitI x j ∧ bitI x j ≤ 1 := by unfold bitI; omega

theorem bit_any (x : Int) (j : Nat) (w : World) (h0 : 0 ≤ x) (h1 : x ≤ 9223372036854775807) (hj : j ≤ 30) :
    Calls Try.prog 86 #[.int .i64 x, .int .i64 j] w fun e w' => e = .returned (.int .i64 (bitI x j)) ∧ w = w' := by
  have hp := pw_pos j
  have hp2 : pw j ≤ 1073741824 := by rw [← pw_30]; exact pw_le j 30 hj
  have H := Lib.hid (bit_num x j h0 h1)
  clear h0 h1
  go_enter Try.func86, Try.ntmps86
  go_wp2_with (first | (go_at_call 85; refine (power_any _ _ hj).mono ?_; rintro e w' ⟨rfl, rfl⟩))
  go_ret
  exact ⟨by rw [← H.out]; rfl, rfl⟩

def cellB (W : Int) (len : Nat) (i j : Int) : Bool := decide (0 ≤ i ∧ i < len ∧ 0 ≤ j ∧ j < W)
theorem cellB_iff {W : Int} {len : Nat} {i j : Int} : cellB W len i j = true ↔ 0 ≤ i ∧ i < len ∧ 0 ≤ j ∧ j < W := decide_eq_true_iff

set_option maxHeartbeats 400000 in
theorem inside_any (W : Int) (a : Option Addr) (len cap : Nat) (i j : Int) (w : World) :
    Calls Try.prog 73 #[.agg #[.int .i64 W, .slice a len cap], .int .i64 i, .int .i64 j] w fun e w' => e = .returned (.bool (cellB W len i j)) ∧ Below w.heap.size w w' := by
  go_enter Try.func73, Try.ntmps73
  go_wp2
  all_goals
    go_ret
    refine ⟨?_, (Below.refl _ _).alloc (Nat.le_refl _) _⟩
    first
      | (have e : cellB W len i j = decide (j < W) := by unfold cellB; rw [decide_eq_decide]; omega
         rw [e]; rfl)
      | (have e : cellB W len i j = false := by unfold cellB; rw [decide_eq_false_iff_not]; omega
         rw [e]; rfl)

theorem validB_W {W : Int} {xs : List Int} (h : validB W xs = true) : 1 ≤ W ∧ W ≤ 6 := by
  simp only [validB, Bool.and_eq_true] at h; exact inB_iff.1 h.1.1
theorem validB_len {W : Int} {xs : List Int} (h : validB W xs = true) : 1 ≤ xs.length ∧ xs.length ≤ 6 := by
  simp only [validB, Bool.and_eq_true] at h; have := inB_iff.1 h.1.2; omega
theorem pw_64 {W : Int} (h : 1 ≤ W ∧ W ≤ 6) : pw W.toNat ≤ 64 := by
  have := pw_le W.toNat 6 (by omega); have e : pw 6 = 64 := by decide
  omega
theorem validB_row {W : Int} {xs : List Int} (h : validB W xs = true) {i : Nat} (hi : i < xs.length) : 0 ≤ xs.getD i 0 ∧ xs.getD i 0 ≤ pw W.toNat - 1 ∧ xs.getD i 0 ≤ 63 := by
  have hw := pw_64 (validB_W h)
  simp only [validB, Bool.and_eq_true, List.all_eq_true] at h
  have := inB_iff.1 (h.2 _ (List.getElem_mem hi))
  rw [getD_elem hi]; omega

def hasB (W : Int) (xs : List Int) (i j : Int) : Bool := validB W xs && (cellB W xs.length i j && bitI (xs.getD i.toNat 0) j.toNat == 1)
theorem hasB_no1 {W : Int} {xs : List Int} {i j : Int} (h : validB W xs = false) : hasB W xs i j = false := by simp [hasB, h]
theorem hasB_no2 {W : Int} {xs : List Int} {i j : Int} (h : cellB W xs.length i j = false) : hasB W xs i j = false := by simp [hasB, h]
theorem hasB_yes {W : Int} {xs : List Int} {i j : Int} (h : validB W xs = true) (h2 : cellB W xs.length i j = true) : hasB W xs i j = (bitI (xs.getD i.toNat 0) j.toNat == 1) := by simp [hasB, h, h2]

set_option maxHeartbeats 400000 in
theorem has_impl (W : Int) (a : Option Addr) (len cap : Nat) (xs : List Int) (i j : Int) (w : World) (h : Row w a len xs) (hm : len ≤ 9223372036854775807) :
    Calls Try.prog 35 #[.agg #[.int .i64 W, .slice a len cap], .int .i64 i, .int .i64 j] w fun e w' => e = .returned (.bool (hasB W xs i j)) ∧ Below w.heap.size w w' := by
  have hl := h.1
  by_cases hv : validB W xs = true
  case neg =>
    have hv : validB W xs = false := by simpa using hv
    rw [hasB_no1 hv]
    have H := h.alloc (.cells #[.int .i64 W, .slice a len cap] 35)
    go_enter Try.func35, Try.ntmps35
    go_wp2_with fail
    refine (valid_impl _ _ _ _ xs _ H hm).mono ?_
    rintro e w1 ⟨rfl, hb⟩
    go_wp2_with fail
    go_ret
    exact ⟨rfl, ((Below.refl _ _).alloc (Nat.le_refl _) _).trans (hb.mono (by simp))⟩
  by_cases hc : cellB W len i j = true
  case neg =>
    have hc : cellB W len i j = false := by simpa using hc
    rw [hasB_no2 (by rw [hl]; exact hc)]
    have H := h.alloc (.cells #[.int .i64 W, .slice a len cap] 35)
    go_enter Try.func35, Try.ntmps35
    go_wp2_with fail
    refine (valid_impl _ _ _ _ xs _ H hm).mono ?_
    rintro e w1 ⟨rfl, hb⟩
    have bb1 : Below w.heap.size w w1 := ((Below.refl _ _).alloc (Nat.le_refl _) _).trans (hb.mono (by simp))
    obtain ⟨hc1, hf1⟩ := bcell hb
    go_wp2_with fail
    refine (inside_any _ _ _ _ _ _ _).mono ?_
    rintro e w2 ⟨rfl, hb2⟩
    go_wp2_with fail
    go_ret
    exact ⟨rfl, bb1.trans (hb2.mono bb1.size)⟩
  have hcc := cellB_iff.1 hc
  have hW := validB_W hv
  obtain ⟨i, rfl⟩ := Int.eq_ofNat_of_zero_le (by omega : 0 ≤ i)
  obtain ⟨j, rfl⟩ := Int.eq_ofNat_of_zero_le (by omega : 0 ≤ j)
  rw [hasB_yes hv (by rw [hl]; exact hc), Int.toNat_natCast, Int.toNat_natCast]
  have hx := validB_row hv (i := i) (by omega)
  have H := h.alloc (.cells #[.int .i64 W, .slice a len cap] 35)
  obtain ⟨b, off, rfl, hck⟩ := row_at H (k := i) (by omega)
  go_enter Try.func35, Try.ntmps35
  go_wp2_with fail
  refine (valid_impl _ _ _ _ xs _ H hm).mono ?_
  rintro e w1 ⟨rfl, hb⟩
  have bb1 : Below w.heap.size w w1 := ((Below.refl _ _).alloc (Nat.le_refl _) _).trans (hb.mono (by simp))
  have hz1 : w.heap.size < w1.heap.size := by have := hb.size; simp at this; omega
  have hk1 := kept hb (block_lt hck) hck
  obtain ⟨hc1, hf1⟩ := bcell hb
  go_wp2_with fail
  refine (inside_any _ _ _ _ _ _ _).mono ?_
  rintro e w2 ⟨rfl, hb2⟩
  have hk2 := kept hb2 (block_lt hk1) hk1
  obtain ⟨hc2, hf2⟩ := bcell hb2
  have bb2 := bb1.trans (hb2.mono bb1.size)
  clear hck hk1
  go_wp2_with fail
  go_ret
  refine ⟨?_, bb2⟩
  rw [← shr_bit hx.1 hx.2.2]
  simp

end Go.Proofs.Ytemmfnlnhekclaa

namespace Go.Proofs.Ytemmfnlnhekclaa
set_option maxRecDepth 100000
open Go.RowKit

/-- How many of a row's first bits are set. -/
def cntI (x : Int) : Nat → Int
  | 0 => 0
  | j + 1 => cntI x j + bitI x j
theorem cnt_bd (x : Int) (j : Nat) : 0 ≤ cntI x j ∧ cntI x j ≤ j := by
  induction j with
  | zero => simp [cntI]
  | succ j ih => have := bit_01 x j; simp only [cntI]; omega

def ones1 (x : Int) : Int := IntKind.u64.wrap (bits BinOp.and IntKind.u64 (x / 2) 6148914691236517205 + bits BinOp.and IntKind.u64 x 6148914691236517205)
def ones2 (x : Int) : Int := IntKind.u64.wrap (bits BinOp.and IntKind.u64 (x / 4) 3689348814741910323 + bits BinOp.and IntKind.u64 x 3689348814741910323)
def ones3 (x : Int) : Int := bits BinOp.and IntKind.u64 (IntKind.u64.wrap (x / 16 + x)) 1085102592571150095
def ones4 (x : Int) : Int := IntKind.u64.wrap (x + x / 256)
def ones5 (x : Int) : Int := IntKind.u64.wrap (x + x / 65536)
def ones6 (x : Int) : Int := IntKind.u64.wrap (x + x / 4294967296)
def ones (x : Int) : Int := bits BinOp.and IntKind.i64 (wrap64 (ones6 (ones5 (ones4 (ones3 (ones2 (ones1 x))))))) 127
theorem ones_nat : ∀ n, n < 64 → ones ((n : Nat) : Int) = cntI n 6 := by decide +kernel
theorem ones_num (x : Int) (h0 : 0 ≤ x) (h1 : x ≤ 63) : ones x = cntI x 6 := by
  obtain ⟨n, rfl⟩ := Int.eq_ofNat_of_zero_le h0
  exact ones_nat n (by omega)
theorem cnt_nat : ∀ k, k < 7 → ∀ n, n < 64 → ((n : Nat) : Int) ≤ pw k - 1 → cntI ((n : Nat) : Int) 6 = cntI ((n : Nat) : Int) k := by decide +kernel
theorem cnt_num (x : Int) (k : Nat) (h0 : 0 ≤ x) (h1 : x ≤ pw k - 1) (h2 : x ≤ 63) (hk : k ≤ 6) : cntI x 6 = cntI x k := by
  obtain ⟨n, rfl⟩ := Int.eq_ofNat_of_zero_le h0
  exact cnt_nat k (by omega) n (by omega) h1

set_option maxHeartbeats 400000 in
theorem ones_any (x : Int) (w : World) (h0 : 0 ≤ x) (h1 : x ≤ 63) :
    Calls Try.prog 87 #[.int .u64 x] w fun e w' => e = .returned (.int .i64 (cntI x 6)) ∧ w = w' := by
  have H := Lib.hid (ones_num x h0 h1)
  go_enter Try.func87, Try.ntmps87
  go_wp2
  go_ret
  refine ⟨?_, rfl⟩
  rw [← H.out]
  rfl

set_option maxHeartbeats 400000 in
theorem rmany_any (x : Int) (w : World) (h0 : 0 ≤ x) (h1 : x ≤ 63) :
    Calls Try.prog 69 #[.int .i64 x] w fun e w' => e = .returned (.int .i64 (cntI x 6)) ∧ w = w' := by
  have hw : IntKind.u64.wrap x = x := IntWalk.u64_in x ⟨by omega, by omega⟩
  go_enter Try.func69, Try.ntmps69
  go_wp2_with fail
  refine (ones_any x _ h0 h1).mono ?_
  rintro e w1 ⟨rfl, rfl⟩
  go_wp2_with fail
  go_ret
  exact ⟨rfl, rfl⟩

/-- How many of the first rows' cells are set. -/
def manyI (W : Nat) (xs : List Int) : Nat → Int
  | 0 => 0
  | k + 1 => manyI W xs k + cntI (xs.getD k 0) W
def manyOf (W : Int) (xs : List Int) : Int := if validB W xs = true then manyI W.toNat xs xs.length else -1
theorem many_bd (W : Nat) (xs : List Int) (k : Nat) : 0 ≤ manyI W xs k ∧ manyI W xs k ≤ k * W := by
  induction k with
  | zero => simp [manyI]
  | succ k ih =>
    have := cnt_bd (xs.getD k 0) W
    simp only [manyI]; rw [show ((k + 1 : Nat) : Int) * W = k * W + W by rw [Int.natCast_succ, Int.add_mul, Int.one_mul]]; omega
theorem many_36 {W k : Nat} (xs : List Int) (hW : W ≤ 6) (hk : k ≤ 6) : 0 ≤ manyI W xs k ∧ manyI W xs k ≤ 36 := by
  have := many_bd W xs k
  have h : (k : Int) * W ≤ 36 := by
    have : k * W ≤ 6 * 6 := Nat.mul_le_mul hk hW
    have e : ((k * W : Nat) : Int) = (k : Int) * W := by simp
    omega
  omega

set_option maxHeartbeats 400000 in
theorem many_impl (W : Int) (a : Option Addr) (len cap : Nat) (xs : List Int) (w : World) (h : Row w a len xs) (hm : len ≤ 9223372036854775807) :
    Calls Try.prog 31 #[.agg #[.int .i64 W, .slice a len cap]] w fun e w' => e = .returned (.int .i64 (manyOf W xs)) ∧ Below w.heap.size w w' := by
  have hl := h.1
  have H := h.alloc (.cells #[.int .i64 W, .slice a len cap] 35)
  by_cases hv : validB W xs = true
  case neg =>
    rw [show manyOf W xs = -1 from if_neg hv]
    have hv : validB W xs = false := by simpa using hv
    go_enter Try.func31, Try.ntmps31
    go_wp2_with fail
    refine (valid_impl _ _ _ _ xs _ H hm).mono ?_
    rintro e w1 ⟨rfl, hb⟩
    go_wp2_with fail
    go_ret
    exact ⟨rfl, ((Below.refl _ _).alloc (Nat.le_refl _) _).trans (hb.mono (by simp))⟩
  rw [show manyOf W xs = manyI W.toNat xs len by rw [← hl]; exact if_pos hv]
  have hW := validB_W hv
  have hL := validB_len hv
  obtain ⟨W, rfl⟩ := Int.eq_ofNat_of_zero_le (by omega : 0 ≤ W)
  rw [Int.toNat_natCast]
  have hrow : Hid (∀ i, i < len → 0 ≤ xs.getD i 0 ∧ xs.getD i 0 ≤ pw W - 1 ∧ xs.getD i 0 ≤ 63) := fun i hi => validB_row hv (by omega)
  go_enter Try.func31, Try.ntmps31
  go_wp2_with fail
  refine (valid_impl _ _ _ _ xs _ H hm).mono ?_
  rintro e w1 ⟨rfl, hb⟩
  have bb1 : Below w.heap.size w w1 := ((Below.refl _ _).alloc (Nat.le_refl _) _).trans (hb.mono (by simp))
  have hz1 : w.heap.size < w1.heap.size := by have := hb.size; simp at this; omega
  have H1 := Lib.hid (H.bel hb)
  obtain ⟨hc1, hf1⟩ := bcell hb
  clear hb H h
  go_wp2_with fail
  go_loop [3, 12] (fun o i => ∃ k : Nat, k ≤ len ∧ i = .int .i64 k ∧ o = .int .i64 (manyI W xs k)) (fun _ i => len - (intOf i).toNat)
  case atStart => exact ⟨0, Nat.zero_le _, rfl, rfl⟩
  case round =>
    obtain ⟨k, hk, rfl, rfl⟩ := hrel
    have hb := many_36 xs (W := W) (k := k) (by omega) (by omega)
    by_cases hlt : k < len
    · obtain ⟨b, off, rfl, hck⟩ := row_at H1.out hlt
      have hr := hrow.out k hlt
      have hcn := cnt_bd (xs.getD k 0) 6
      have e6 := Lib.hid (cnt_num (xs.getD k 0) W hr.1 hr.2.1 hr.2.2 (by omega))
      generalize hx : xs.getD k 0 = x at hck hr hcn e6
      have hx := Lib.hid hx
      clear hc1 hf1
      go_wp2_with fail
      refine (rmany_any x _ hr.1 hr.2.2).mono ?_
      rintro e w2 ⟨rfl, rfl⟩
      go_wp2_with fail
      exact ⟨⟨k + 1, by omega, by go_num, by simp only [manyI]; rw [hx.out, ← e6.out]⟩, by simp [intOf]; omega⟩
    · have : k = len := by omega
      subst this
      clear hc1 hf1
      go_wp2_with fail
      go_ret
      exact ⟨rfl, bb1⟩

end Go.Proofs.Ytemmfnlnhekclaa

namespace Go.Proofs.Ytemmfnlnhekclaa
set_option maxRecDepth 100000
open Go.RowKit

theorem World.cell?_alloc_some {w : World} {a : Addr} {v : Value} {o : Obj} (h : w.cell? a = some v) : (w.alloc o).cell? a = some v := (World.cell?_alloc_lt _ _ _ (block_lt h)).trans h
theorem own_of {w : World} {B n : Nat} {v : Value} {xs : List Int} (h : w.ownsRow B 3 1 v n (xs.map (Value.int .i64))) : ∃ a cap, v = .slice a n cap ∧ OwnI w B a n cap xs := by
  have h' := h
  rcases h'.2 with ⟨rfl, rfl⟩ | ⟨g, c, cur, rfl, _⟩
  · exact ⟨none, 0, rfl, h⟩
  · exact ⟨_, c, rfl, h⟩
theorem own_empty (w : World) (B n : Nat) (hn : n = w.heap.size) (hB : B ≤ n) : (w.alloc (.cells #[] 3)).ownsRow B 3 1 (.slice (some ⟨n, 0, none⟩) 0 0) 0 [] := by
  subst hn; exact World.ownsRow_lit w #[] 0 hB (by decide) rfl
theorem grow2 {W w1 : World} {p0 p1 : Addr} {u0 u1 : Value} {k : Nat} (hg : W.grownBy w1 (some k)) (h : W.cell? p0 = some u0 ∧ W.cell? p1 = some u1) (n0 : p0.block ≠ k) (n1 : p1.block ≠ k) :
    w1.cell? p0 = some u0 ∧ w1.cell? p1 = some u1 := ⟨hg.cell h.1 (by simpa using n0), hg.cell h.2 (by simpa using n1)⟩
theorem OwnI.up {w : World} {B B' g len cap : Nat} {xs : List Int} (h : OwnI w B (some ⟨g, 0, none⟩) len cap xs) (hg : B' ≤ g) : OwnI w B' (some ⟨g, 0, none⟩) len cap xs := by
  obtain ⟨h1, h2⟩ := h
  refine ⟨h1, ?_⟩
  rcases h2 with ⟨h2, _⟩ | ⟨g', c, cur, e, _, r⟩
  · simp at h2
  · have e' := e
    simp only [Value.slice.injEq, Option.some.injEq, Addr.mk.injEq, and_true, true_and] at e'
    obtain ⟨rfl, rfl⟩ := e'
    exact .inr ⟨g, _, cur, rfl, hg, r⟩
theorem st {P : Program} {f : FuncId} {args : Array Value} {w : World} {v : Value} (h : Calls P f args w fun e w' => e = .returned v ∧ w = w') : Calls P f args w fun e w' => e = .returned v ∧ w' = w := h.mono fun _ _ ⟨a, b⟩ => ⟨a, b.symm⟩
theorem region_tail {P : Program} {id : Nat} {Q : Exit → Act → World → Prop} {a : Act} {w : World} {l : List Oper} (n : Nat) (hm : P.follows .mixedOrders = true) (hB : Region.lexTailB .any l.toArray n = true) (W1 : World) (hW : w.drew = W1)
    (h : wpStill P l.toArray W1 (fun a' => wpList P l.toArray Q (l.drop n) a' W1) (l.take n) a) : (Code.region id l.toArray true).wp P Q a w := by
  subst hW; exact wp_region_still_tail n hm hB h
theorem news_of {w : World} {b off len : Nat} {xs : List Int} (hl : xs.length = len) (h : ∀ i, i < len → w.cell? ⟨b, off + i, none⟩ = some (.int .i64 (xs.getD i 0))) :
    ∀ j u, (xs.map (Value.int .i64))[j]? = some u → w.cell? ((⟨b, off, none⟩ : Addr).add j) = some u := by
  intro j u hj
  rw [List.getElem?_map] at hj
  obtain ⟨y, hy, rfl⟩ := Option.map_eq_some_iff.1 hj
  have hjl := (List.getElem?_eq_some_iff.1 hy).1
  have := h j (by omega)
  rw [getD_elem hjl, (List.getElem?_eq_some_iff.1 hy).2] at this
  by_cases e : j = 0
  · subst e; simpa [Addr.add] using this
  · simpa [Addr.add, e] using this

set_option maxHeartbeats 400000 in
theorem clone_any (b off len cap : Nat) (xs : List Int) (w : World) (hl : xs.length = len) (h : ∀ i, i < len → w.cell? ⟨b, off + i, none⟩ = some (.int .i64 (xs.getD i 0))) (hm : len ≤ 1048576) (h1 : 1 ≤ len) :
    Calls Try.prog 88 #[.slice (some ⟨b, off, none⟩) len cap] w fun e w' => (∃ a cap', e = .returned (.slice a len cap') ∧ OwnI w' w.heap.size a len cap' xs) ∧ Below w.heap.size w w' := by
  obtain ⟨i0, hi, hz0, hz1, hz2⟩ := info_parts infoInt
  have hn := Lib.hid (news_of hl h)
  clear h
  have hnil := fun wx => Lib.run_eql_slice_nil (P := Try.prog) wx 33 3 (some ⟨b, off, none⟩) len cap 0 0 Try.underlying33
  go_enter Try.func88, Try.ntmps88
  go_wp2_with (at_builtin; refine wpList_append_own _ rfl _ _ 33 rfl w.heap.size 3 i0 (.int .i64 0) 1 8 Try.underlying33 hi hz0 hz1 hz2 rfl (by decide) _ 0 [] rfl (World.ownsRow_lit w #[] 0 (Nat.le_refl _) (by decide) rfl) ⟨b, off, none⟩ len cap (xs.map (Value.int .i64)) rfl ?c1 ?c2 ?c3 ?c4 ?c5 ?c6 ?_)
  case c1 => simp [hl]
  case c2 => exact fun j u hj => World.cell?_alloc_some (hn.out j u hj)
  case c3 => exact ints_oneCell _ _
  case c4 => unfold maxLen; omega
  case c5 => omega
  case c6 => simp
  intro v' w1 hown hgr hnil'
  obtain ⟨a, c, rfl, ho⟩ := own_of (by simpa using hown)
  have bb : Below w.heap.size w w1 := ((Below.refl _ _).alloc (Nat.le_refl _) _).grown hgr (by simp) (fun k hk => by simp [Value.ownBlock] at hk; omega)
  have ho := Lib.hid ho
  clear hown hgr hnil'
  go_wp2
  go_ret
  exact ⟨⟨a, c, rfl, ho.out⟩, bb⟩

set_option maxHeartbeats 400000 in
/-- 'l1Copy' of an image that has rows. -/
theorem copy_spec (W : Int) (b off len cap : Nat) (xs : List Int) (w : World) (hl : xs.length = len) (h : ∀ i, i < len → w.cell? ⟨b, off + i, none⟩ = some (.int .i64 (xs.getD i 0))) (hm : len ≤ 1048576) (h1 : 1 ≤ len) :
    Calls Try.prog 93 #[.agg #[.int .i64 W, .slice (some ⟨b, off, none⟩) len cap]] w fun e w' => (∃ a cap', e = .returned (.agg #[.int .i64 W, .slice a len cap']) ∧ OwnI w' w.heap.size a len cap' xs) ∧ Below w.heap.size w w' := by
  obtain ⟨i0, hi, hz0, hz1, hz2⟩ := info_parts infoInt
  have hn := Lib.hid (news_of hl h)
  clear h
  go_enter Try.func93, Try.ntmps93
  go_wp2_with (fail)
  go_region_held3 (fun W' => W'.cell? ⟨w.heap.size, 0, none⟩ = some (.int .i64 W) ∧ W'.cell? ⟨w.heap.size, 1, none⟩ = some (.slice (some ⟨b, off, none⟩) len cap))
    (first | go_keep | exact grow2 hgrow (by assumption) (by simp; omega) (by simp; omega))
    ((refine step_append_lies _ (by rfl) _ _ _ (by rfl) (w.heap.size + 2) 3 i0 _ 1 8 Try.underlying33 hi hz0 hz1 hz2 rfl (by omega) (.slice (some ⟨w.heap.size + 1 + 1, 0, none⟩) 0 0) 0 [] (by rfl) ((own_empty _ _ _ (by simp) (by omega)).drew)
        ⟨b, off, none⟩ len cap (xs.map (Value.int .i64)) (by rfl) (by simp [hl]) (by intro j u hj; rw [World.cell?_drew]; exact World.cell?_alloc_some (World.cell?_alloc_some (World.cell?_alloc_some (hn.out j u hj)))) (ints_oneCell _ _) (by omega) (by unfold maxLen; omega) (by omega) (by simp) _ rfl ?_; intro gg cap1 w1 hown1 hgrow hat hlt; have z0 : w1.cell? ⟨w.heap.size + 1, 0, none⟩ = some (.int .i64 0) := hgrow.cell (by go_simp) (by simp [Value.ownBlock]); have z1 : w1.cell? ⟨w.heap.size + 1, 1, none⟩ = some (.slice none 0 0) := hgrow.cell (by go_simp) (by simp [Value.ownBlock]); have zf : ∀ o, w1.frozen? ⟨w.heap.size + 1, o, none⟩ = false := fun o => (World.frozen?_of_block (hgrow.block _ (by simp) (by simp [Value.ownBlock]))).trans (by go_simp)))
  have ho : OwnI w1 (w.heap.size + 2) (some ⟨gg, 0, none⟩) len cap1 xs := by
    have := hown1; rw [Nat.zero_add, List.nil_append] at this; exact this
  have bb : Below w.heap.size w w1 := ((((Below.refl _ _).alloc (Nat.le_refl _) _).alloc (by simp) _).alloc (by simp; omega) _).drew.grown hgrow (by simp; omega) (fun k hk => by simp [Value.ownBlock] at hk; omega)
  have ho := Lib.hid ho
  clear hown1 hat hgrow
  go_wp2
  refine bodyPost_ret (v := .agg #[.int .i64 W, .slice (some ⟨gg, 0, none⟩) len cap1]) (by simp [results, Try.results93, go_sem, z0, z1]) rfl ?_
  exact ⟨⟨_, cap1, rfl, ((ho.out.store (by simp) _).store (by simp) _).mono (by omega)⟩, (bb.setCell (by simp) _).setCell (by simp) _⟩

/-- 'l1Blank'. -/
theorem blank_spec (W : Int) (len : Nat) (w : World) (hm : len ≤ 1048576) :
    Calls Try.prog 99 #[.int .i64 len, .int .i64 W] w fun e w' => (∃ g, e = .returned (.agg #[.int .i64 W, .slice (some ⟨g, 0, none⟩) len len]) ∧ w.heap.size ≤ g ∧ OwnI w' w.heap.size (some ⟨g, 0, none⟩) len len (List.replicate len 0)) ∧ Below w.heap.size w w' := by
  obtain ⟨i0, hi, hz0, hz1, hz2⟩ := info_parts infoInt
  go_enter Try.func99, Try.ntmps99
  go_wp2_with ((refine wpList_make_full _ rfl _ _ 33 rfl w.heap.size 3 i0 (.int .i64 0) 1 Try.underlying33 hi hz0 hz1 .i64 .i64 len len len rfl rfl rfl rfl ?_ ?_ ?_ ?_))
  · rw [hz2]; omega
  · unfold maxLen; omega
  · simp
  intro w1 ho hg
  have ho0 : OwnI w1 w.heap.size (some ⟨w.heap.size + 1, 0, none⟩) len len (List.replicate len 0) := by
    unfold OwnI; simpa [toList_madeCells_one, List.map_replicate] using ho
  have z0 : w1.cell? ⟨w.heap.size, 0, none⟩ = some (.int .i64 0) := hg.cell (by go_simp) (by simp)
  have z1 : w1.cell? ⟨w.heap.size, 1, none⟩ = some (.slice none 0 0) := hg.cell (by go_simp) (by simp)
  have zf : ∀ o, w1.frozen? ⟨w.heap.size, o, none⟩ = false := fun o => (World.frozen?_of_block (hg.block _ (by simp) (by simp))).trans (by go_simp)
  have bb : Below w.heap.size w w1 := ((Below.refl _ _).alloc (Nat.le_refl _) _).grown hg (by simp) (fun k hk => by cases hk)
  have ho1 : OwnI w1 (w.heap.size + 1) (some ⟨w.heap.size + 1, 0, none⟩) len len (List.replicate len 0) := ho0.up (Nat.le_refl _)
  have ho1 := Lib.hid ho1
  clear ho hg ho0
  go_wp2
  refine bodyPost_ret (v := .agg #[.int .i64 W, .slice (some ⟨w.heap.size + 1, 0, none⟩) len len]) (by simp [results, Try.results99, go_sem, z0, z1]) rfl ?_
  exact ⟨⟨_, rfl, by omega, ((ho1.out.store (by simp) _).store (by simp) _).mono (by omega)⟩, (bb.setCell (by simp) _).setCell (by simp) _⟩

/-- A cell of a row, put. -/
def putI (x : Int) (j : Nat) (set : Bool) : Int := x - bitI x j * pw j + (if set = true then pw j else 0)

theorem putI_false (x : Int) (j : Nat) : putI x j false = x - bitI x j * pw j := by simp [putI]
theorem putI_true (x : Int) (j : Nat) : putI x j true = x - bitI x j * pw j + pw j := by simp [putI]

set_option maxRecDepth 100000 in
set_option maxHeartbeats 800000 in
/-- 'l1Put' in a row of the caller's own. -/
theorem put_spec (W : Int) (B g len cap : Nat) (xs : List Int) (i j : Nat) (set : Bool) (w : World) (h : OwnI w B (some ⟨g, 0, none⟩) len cap xs) (hi : i < len) (hj : j ≤ 6) (h0 : 0 ≤ xs.getD i 0) (h1 : xs.getD i 0 ≤ 63) :
    Calls Try.prog 94 #[.agg #[.int .i64 W, .slice (some ⟨g, 0, none⟩) len cap], .int .i64 i, .int .i64 j, .bool set] w fun e w' => e = .returned (.tuple #[]) ∧ w.grownBy w' (some g) ∧ OwnI w' B (some ⟨g, 0, none⟩) len cap (xs.set i (putI (xs.getD i 0) j set)) := by
  have hl := h.len
  have hd : w.cell? ⟨g, i, none⟩ = some (.int .i64 (xs.getD i 0)) := by
    rw [World.ownsRow.cellAt h i (by omega), List.getElem?_map, List.getElem?_eq_getElem (by omega), getD_elem (by omega)]; rfl
  have hf := h.frozen i
  generalize hx : xs.getD i 0 = x at *
  have hg : g < w.heap.size := block_lt hd
  have hp := pw_pos j
  have hp2 := pw_le j 6 hj
  have hp6 : pw 6 = 64 := by decide
  have hb := bit_01 x j
  have hmul : 0 ≤ bitI x j * pw j ∧ bitI x j * pw j ≤ 64 := by
    rcases (show bitI x j = 0 ∨ bitI x j = 1 by omega) with e | e <;> rw [e] <;> omega
  have ew1 : wrap64 (bitI x j * pw j) = bitI x j * pw j := IntWalk.wrap64_in _ ⟨by omega, by omega⟩
  have ew2 : wrap64 (x - bitI x j * pw j) = x - bitI x j * pw j := IntWalk.wrap64_in _ ⟨by omega, by omega⟩
  have ew3 : wrap64 (x - bitI x j * pw j + pw j) = x - bitI x j * pw j + pw j := IntWalk.wrap64_in _ ⟨by omega, by omega⟩
  have ev1 : IntKind.i64.wrap (bitI x j * pw j) = bitI x j * pw j := IntWalk.i64_in _ ⟨by omega, by omega⟩
  have ev2 : IntKind.i64.wrap (x - bitI x j * pw j) = x - bitI x j * pw j := IntWalk.i64_in _ ⟨by omega, by omega⟩
  have ev3 : IntKind.i64.wrap (x - bitI x j * pw j + pw j) = x - bitI x j * pw j + pw j := IntWalk.i64_in _ ⟨by omega, by omega⟩
  obtain ⟨W1, hW1⟩ : ∃ W1, (w.alloc (.cells #[.int .i64 W, .slice (some ⟨g, 0, none⟩) len cap] 35)).drew = W1 := ⟨_, rfl⟩
  have k1 : W1.cell? ⟨w.heap.size, 1, none⟩ = some (.slice (some ⟨g, 0, none⟩) len cap) := by rw [← hW1]; simp
  have k2 : W1.cell? ⟨g, i, none⟩ = some (.int .i64 x) := by rw [← hW1, World.cell?_drew, World.cell?_alloc_lt _ _ _ hg]; exact hd
  have hB : Below w.heap.size w W1 := by rw [← hW1]; exact ((Below.refl _ _).alloc (Nat.le_refl _) _).drew
  have k3 : W1.frozen? ⟨g, i, none⟩ = false := (hB.frozen (p := ⟨g, i, none⟩) hg).trans hf
  have hO := h.bel hB
  have hgr : w.grownBy W1 (some g) := below_grown hB _
  have hs := hO.set i (x - bitI x j * pw j)
  have hgr2 := grown_set (j := i) (v := .int .i64 (x - bitI x j * pw j)) hgr
  have hn : g ≠ w.heap.size := by omega
  cases set with
  | false =>
    rw [putI_false]
    have hs := Lib.hid hs
    have hgr2 := Lib.hid hgr2
    clear h hO hB hmul hgr ew3 ev3 hn
    go_enter Try.func94, Try.ntmps94
    go_wp2_with fail
    refine region_tail 20 (by kernel_rfl) (by kernel_rfl) W1 hW1 ?_
    simp only [List.take_succ_cons, List.take_zero, List.drop_succ_cons, List.drop_zero]
    clear hW1 hd hf hx
    repeat (first | still_step | still_call (st (bit_any _ _ _ (by omega) (by omega) (by omega))) | still_call (st (power_any _ _ (by omega))))
    refine wpStill_nil ?_
    go_wp2_with fail
    go_end0
    exact ⟨rfl, hgr2.out, hs.out⟩
  | true =>
    rw [putI_true]
    obtain ⟨W2, hW2⟩ : ∃ W2, (W1.setCell ⟨g, i, none⟩ (.int .i64 (x - bitI x j * pw j))).drew = W2 := ⟨_, rfl⟩
    have m1 : W2.cell? ⟨w.heap.size, 1, none⟩ = some (.slice (some ⟨g, 0, none⟩) len cap) := by
      rw [← hW2, World.cell?_drew, World.cell?_setCell_other _ _ _ _ (by simp; try exact hn)]; exact k1
    have m2 : W2.cell? ⟨g, i, none⟩ = some (.int .i64 (x - bitI x j * pw j)) := by rw [← hW2, World.cell?_drew]; exact World.cell?_setCell_same _ _ _ k2
    have hO2 : OwnI W2 B (some ⟨g, 0, none⟩) len cap (xs.set i (x - bitI x j * pw j)) := by rw [← hW2]; exact hs.bel ((Below.refl _ _).drew)
    have m3 := hO2.frozen i
    have hgr3 : w.grownBy W2 (some g) := by rw [← hW2]; exact ⟨hgr2.os, hgr2.tape, hgr2.output, hgr2.size, hgr2.block⟩
    have hs3 := hO2.set i (x - bitI x j * pw j + pw j)
    rw [List.set_set] at hs3
    have hgr4 := grown_set (j := i) (v := .int .i64 (x - bitI x j * pw j + pw j)) hgr3
    have hs3 := Lib.hid hs3
    have hgr4 := Lib.hid hgr4
    clear h hO hB hmul hgr hs hgr2 hO2 hgr3 hn
    go_enter Try.func94, Try.ntmps94
    go_wp2_with fail
    refine region_tail 20 (by kernel_rfl) (by kernel_rfl) W1 hW1 ?_
    simp only [List.take_succ_cons, List.take_zero, List.drop_succ_cons, List.drop_zero]
    clear hW1 hd hf hx
    repeat (first | still_step | still_call (st (bit_any _ _ _ (by omega) (by omega) (by omega))) | still_call (st (power_any _ _ (by omega))))
    refine wpStill_nil ?_
    go_wp2_with fail
    refine region_tail 12 (by kernel_rfl) (by kernel_rfl) W2 hW2 ?_
    simp only [List.take_succ_cons, List.take_zero, List.drop_succ_cons, List.drop_zero]
    clear hW2 k1 k2 k3
    repeat (first | still_step | still_call (st (power_any _ _ (by omega))))
    refine wpStill_nil ?_
    go_wp2_with fail
    go_end0
    exact ⟨rfl, hgr4.out, hs3.out⟩
end Go.Proofs.Ytemmfnlnhekclaa

namespace Go.Proofs.Ytemmfnlnhekclaa
set_option maxRecDepth 100000
open Go.RowKit

/-- What a function that gives an image, or none, leaves. -/
structure Out where
  ok : Bool
  W : Int
  xs : List Int
def Out.no : Out := ⟨false, 0, []⟩
def Gives (w : World) (r : Out) (e : Ending) (w' : World) : Prop :=
  (∃ a cap, e = .returned (.tuple #[.agg #[.int .i64 r.W, .slice a r.xs.length cap], .bool r.ok]) ∧ OwnI w' w.heap.size a r.xs.length cap r.xs) ∧ Below w.heap.size w w'

theorem own_nil (w : World) (B : Nat) : OwnI w B none 0 0 [] := World.ownsRow_nil w B _ _

/-- The bits of a column, as a row. -/
def colI (xs : List Int) (j : Nat) : Nat → Int
  | 0 => 0
  | i + 1 => colI xs j i + bitI (xs.getD i 0) j * pw i
theorem col_bd (xs : List Int) (j i : Nat) : 0 ≤ colI xs j i ∧ colI xs j i ≤ pw i - 1 := by
  induction i with
  | zero => simp [colI, pw]
  | succ i ih =>
    have := bit_01 (xs.getD i 0) j
    have hp := pw_pos i
    simp only [colI, pw_succ]
    rcases (show bitI (xs.getD i 0) j = 0 ∨ bitI (xs.getD i 0) j = 1 by omega) with e | e <;> rw [e] <;> omega
def colsL (xs : List Int) (W i j : Nat) : List Int := (List.range W).map fun j' => if j' < j then colI xs j' (i + 1) else colI xs j' i
def turnL (xs : List Int) (W k : Nat) : List Int := (List.range W).map fun j => colI xs j k
theorem cols_zero (xs : List Int) (W i : Nat) : colsL xs W i 0 = turnL xs W i := by simp [colsL, turnL]
theorem cols_full (xs : List Int) (W i : Nat) : colsL xs W i W = turnL xs W (i + 1) := by
  unfold colsL turnL; apply List.map_congr_left; intro j hj; rw [if_pos (List.mem_range.1 hj)]
theorem cols_len (xs : List Int) (W i j : Nat) : (colsL xs W i j).length = W := by simp [colsL]
theorem turn_len (xs : List Int) (W k : Nat) : (turnL xs W k).length = W := by simp [turnL]
theorem cols_get (xs : List Int) {W i j : Nat} (hj : j < W) : (colsL xs W i j).getD j 0 = colI xs j i := by
  rw [getD_elem (by rw [cols_len]; exact hj)]; simp [colsL]
theorem cols_set (xs : List Int) {W i j : Nat} (hj : j < W) : (colsL xs W i j).set j (colI xs j (i + 1)) = colsL xs W i (j + 1) := by
  apply List.ext_getElem?
  intro k
  by_cases e : k = j
  · subst e; rw [List.getElem?_set_self (by rw [cols_len]; exact hj)]; simp [colsL, hj]
  · rw [List.getElem?_set_ne (by omega)]
    by_cases hk : k < W
    · simp only [colsL, List.getElem?_map, List.getElem?_range hk, Option.map_some]
      by_cases h : k < j
      · rw [if_pos h, if_pos (by omega)]
      · rw [if_neg h, if_neg (by omega)]
    · rw [List.getElem?_eq_none (by rw [cols_len]; omega), List.getElem?_eq_none (by rw [cols_len]; omega)]
theorem turn_zero (xs : List Int) (W : Nat) : turnL xs W 0 = List.replicate W 0 := by
  unfold turnL
  apply List.ext_getElem?
  intro k
  by_cases hk : k < W
  · simp [colI, hk]
  · rw [List.getElem?_eq_none (by simp; omega), List.getElem?_eq_none (by simp; omega)]

theorem or_nat : ∀ i, i < 6 → ∀ c, c < 64 → ((c : Nat) : Int) ≤ pw i - 1 → bits BinOp.or IntKind.i64 c 0 = c ∧ bits BinOp.or IntKind.i64 c (pw i) = c + pw i := by decide +kernel
theorem or_bit {c b : Int} {i : Nat} (hi : i < 6) (hc : 0 ≤ c ∧ c ≤ pw i - 1) (hb : 0 ≤ b ∧ b ≤ 1) : bits BinOp.or IntKind.i64 c (b * pw i) = c + b * pw i := by
  have hp : pw i ≤ 64 := by have := pw_le i 6 (by omega); have e : pw 6 = 64 := by decide
                            omega
  obtain ⟨n, rfl⟩ := Int.eq_ofNat_of_zero_le hc.1
  have := or_nat i hi n (by omega) hc.2
  rcases (show b = 0 ∨ b = 1 by omega) with e | e <;> rw [e]
  · rw [Int.zero_mul, Int.add_zero]; exact this.1
  · rw [Int.one_mul]; exact this.2

theorem Row.grown {W0 wr : World} {g : Nat} {a : Option Addr} {len : Nat} {xs : List Int} (h : Row W0 a len xs) (hg : W0.grownBy wr (some g)) (hn : len = 0 ∨ ∃ b off, a = some ⟨b, off, none⟩ ∧ b ≠ g) : Row wr a len xs := by
  obtain ⟨h1, h2⟩ := h
  refine ⟨h1, ?_⟩
  rcases h2 with h2 | ⟨b, off, rfl, hc⟩
  · exact .inl h2
  · rcases hn with hn | ⟨b', off', e, hne⟩
    · exact .inl hn
    · right
      simp only [Option.some.injEq, Addr.mk.injEq, and_true] at e
      obtain ⟨rfl, rfl⟩ := e
      exact ⟨b, off, rfl, fun i hi => hg.cell (hc i hi) (by simpa using hne)⟩

theorem own_cell {w : World} {B g len cap : Nat} {xs : List Int} (h : OwnI w B (some ⟨g, 0, none⟩) len cap xs) {i : Nat} (hi : i < len) : w.cell? ⟨g, i, none⟩ = some (.int .i64 (xs.getD i 0)) := by
  have hl := h.len
  rw [World.ownsRow.cellAt h i (by omega), List.getElem?_map, List.getElem?_eq_getElem (by omega), getD_elem (by omega)]; rfl

theorem grown_below {W0 wr : World} {g : Nat} (h : W0.grownBy wr (some g)) : Below (min g W0.heap.size) W0 wr :=
  ⟨h.os, h.tape, h.output, h.size, fun k hk => h.block k (by omega) (by simp; omega)⟩
/-- What stands when a function that gives an image has made its new image: its own argument's box, the result's box, the new image's box, the new row. -/
structure Made (w W0 : World) (g k2 : Nat) (WA : Int) (a : Option Addr) (len cap : Nat) (xs : List Int) (Wb : Int) (n : Nat) : Prop where
  x0 : W0.cell? ⟨w.heap.size, 0, none⟩ = some (.int .i64 WA)
  x1 : W0.cell? ⟨w.heap.size, 1, none⟩ = some (.slice a len cap)
  y0 : W0.cell? ⟨w.heap.size + 1, 0, none⟩ = some (.int .i64 0)
  y1 : W0.cell? ⟨w.heap.size + 1, 1, none⟩ = some (.slice none 0 0)
  yf : ∀ o, W0.frozen? ⟨w.heap.size + 1, o, none⟩ = false
  b0 : W0.cell? ⟨k2, 0, none⟩ = some (.int .i64 Wb)
  b1 : W0.cell? ⟨k2, 1, none⟩ = some (.slice (some ⟨g, 0, none⟩) n n)
  row : Row W0 a len xs
  own : OwnI W0 (w.heap.size + 2) (some ⟨g, 0, none⟩) n n (List.replicate n 0)
  bel : Below w.heap.size w W0
  ne : k2 ≠ g
  far : ∀ b off, a = some ⟨b, off, none⟩ → 0 < len → b ≠ g
  hg : w.heap.size + 2 ≤ g
  hk : w.heap.size + 2 ≤ k2
  old : ∀ k, W0.heap.size ≤ k → g < k

theorem made_own (w : World) (B n : Nat) (hB : B ≤ w.heap.size) (hn : n ≤ 1048576) : OwnI (w.alloc (.cells (madeCells #[.int .i64 0] n) 3)) B (some ⟨w.heap.size, 0, none⟩) n n (List.replicate n 0) := by
  have := World.ownsRow_lit (base := B) (e := 3) (size := 1) w (madeCells #[.int .i64 0] n) n hB (by unfold maxLen; omega) (by simp [madeCells])
  unfold OwnI; simpa [toList_madeCells_one, List.map_replicate] using this
theorem row_far {w1 : World} {a : Option Addr} {len : Nat} {xs : List Int} (h : Row w1 a len xs) {k : Nat} (hk : w1.heap.size ≤ k) : ∀ b off, a = some ⟨b, off, none⟩ → 0 < len → b ≠ k := by
  intro b off e hl
  obtain ⟨b', off', e', hc⟩ := row_at h hl
  rw [e] at e'
  simp only [Option.some.injEq, Addr.mk.injEq, and_true] at e'
  obtain ⟨rfl, rfl⟩ := e'
  have := block_lt hc
  simp at this; omega

theorem made1 {w w1 : World} {WA Wb : Int} {a : Option Addr} {len cap n : Nat} {xs : List Int} (hz : w.heap.size + 1 < w1.heap.size) (bb : Below w.heap.size w w1)
    (x0 : w1.cell? ⟨w.heap.size, 0, none⟩ = some (.int .i64 WA)) (x1 : w1.cell? ⟨w.heap.size, 1, none⟩ = some (.slice a len cap)) (y0 : w1.cell? ⟨w.heap.size + 1, 0, none⟩ = some (.int .i64 0)) (y1 : w1.cell? ⟨w.heap.size + 1, 1, none⟩ = some (.slice none 0 0)) (yf : ∀ o, w1.frozen? ⟨w.heap.size + 1, o, none⟩ = false) (h : Row w1 a len xs) (hn : n ≤ 1048576) :
    Made w ((w1.alloc (.cells (madeCells #[.int .i64 0] n) 3)).alloc (.cells #[.int .i64 Wb, .slice (some ⟨w1.heap.size, 0, none⟩) n n] 35)).drew w1.heap.size (w1.heap.size + 1) WA a len cap xs Wb n := by
  have hB : Below w1.heap.size w1 ((w1.alloc (.cells (madeCells #[.int .i64 0] n) 3)).alloc (.cells #[.int .i64 Wb, .slice (some ⟨w1.heap.size, 0, none⟩) n n] 35)).drew := (((Below.refl _ _).alloc (Nat.le_refl _) _).alloc (by simp) _).drew
  exact ⟨kept hB (show _ < _ by simp; omega) x0, kept hB (show _ < _ by simp; omega) x1, kept hB (by simpa using hz) y0, kept hB (by simpa using hz) y1, fun o => (hB.frozen (by simpa using hz)).trans (yf o), by go_simp, by go_simp, h.bel hB,
    ((made_own w1 _ n (by omega) hn).bel (((Below.refl _ _).alloc (Nat.le_refl _) _).drew)), bb.trans (hB.mono (by omega)), by omega, row_far h (Nat.le_refl _), by omega, by omega, fun k hk => by simp at hk; omega⟩
theorem made2 {w w1 : World} {WA Wb : Int} {a : Option Addr} {len cap n : Nat} {xs : List Int} (hz : w.heap.size + 1 < w1.heap.size) (bb : Below w.heap.size w w1)
    (x0 : w1.cell? ⟨w.heap.size, 0, none⟩ = some (.int .i64 WA)) (x1 : w1.cell? ⟨w.heap.size, 1, none⟩ = some (.slice a len cap)) (y0 : w1.cell? ⟨w.heap.size + 1, 0, none⟩ = some (.int .i64 0)) (y1 : w1.cell? ⟨w.heap.size + 1, 1, none⟩ = some (.slice none 0 0)) (yf : ∀ o, w1.frozen? ⟨w.heap.size + 1, o, none⟩ = false) (h : Row w1 a len xs) (hn : n ≤ 1048576) :
    Made w ((w1.alloc (.cells #[.int .i64 Wb, .slice (some ⟨w1.heap.size + 1, 0, none⟩) n n] 35)).alloc (.cells (madeCells #[.int .i64 0] n) 3)).drew (w1.heap.size + 1) w1.heap.size WA a len cap xs Wb n := by
  have hB : Below w1.heap.size w1 ((w1.alloc (.cells #[.int .i64 Wb, .slice (some ⟨w1.heap.size + 1, 0, none⟩) n n] 35)).alloc (.cells (madeCells #[.int .i64 0] n) 3)).drew := (((Below.refl _ _).alloc (Nat.le_refl _) _).alloc (by simp) _).drew
  have ho := made_own (w1.alloc (.cells #[.int .i64 Wb, .slice (some ⟨w1.heap.size + 1, 0, none⟩) n n] 35)) (w.heap.size + 2) n (by simp; omega) hn
  exact ⟨kept hB (show _ < _ by simp; omega) x0, kept hB (show _ < _ by simp; omega) x1, kept hB (by simpa using hz) y0, kept hB (by simpa using hz) y1, fun o => (hB.frozen (by simpa using hz)).trans (yf o), by go_simp, by go_simp, h.bel hB,
    (by simpa using ho.bel ((Below.refl _ _).drew)), bb.trans (hB.mono (by omega)), by omega, row_far h (by omega), by omega, by omega, fun k hk => by simp at hk; omega⟩

set_option maxHeartbeats 1000000 in
theorem turn_impl (W : Int) (a : Option Addr) (len cap : Nat) (xs : List Int) (w : World) (h : Row w a len xs) (hm : len ≤ 9223372036854775807) :
    Calls Try.prog 37 #[.agg #[.int .i64 W, .slice a len cap]] w (Gives w (if validB W xs = true then ⟨true, len, turnL xs W.toNat len⟩ else .no)) := by
  have hl := h.1
  have H := (h.alloc (.cells #[.int .i64 W, .slice a len cap] 35)).alloc (.cells #[.int .i64 0, .slice none 0 0] 35)
  by_cases hv : validB W xs = true
  case neg =>
    rw [if_neg hv]
    have hv : validB W xs = false := by simpa using hv
    go_enter Try.func37, Try.ntmps37
    go_wp2_with fail
    refine (valid_impl _ _ _ _ xs _ H hm).mono ?_
    rintro e w1 ⟨rfl, hb⟩
    obtain ⟨hc1, hf1⟩ := bcell hb
    have bb1 : Below w.heap.size w w1 := (((Below.refl _ _).alloc (Nat.le_refl _) _).alloc (by simp) _).trans (hb.mono (by simp; omega))
    go_wp2_with fail
    refine bodyPost_ret (v := .tuple #[.agg #[.int .i64 0, .slice none 0 0], .bool false]) (by simp [results, Try.results37, go_sem, hc1]) rfl ?_
    exact ⟨⟨none, 0, rfl, own_nil _ _⟩, (bb1.setCell (by simp) _).setCell (by simp) _⟩
  rw [if_pos hv]
  have hW := validB_W hv
  have hL := validB_len hv
  obtain ⟨W, rfl⟩ := Int.eq_ofNat_of_zero_le (by omega : 0 ≤ W)
  rw [Int.toNat_natCast]
  have hrow : Hid (∀ i, i < len → 0 ≤ xs.getD i 0 ∧ xs.getD i 0 ≤ pw W - 1 ∧ xs.getD i 0 ≤ 63) := fun i hi => validB_row hv (by omega)
  go_enter Try.func37, Try.ntmps37
  go_wp2_with fail
  refine (valid_impl _ _ _ _ xs _ H hm).mono ?_
  rintro e w1 ⟨rfl, hb⟩
  have bb1 : Below w.heap.size w w1 := (((Below.refl _ _).alloc (Nat.le_refl _) _).alloc (by simp) _).trans (hb.mono (by simp; omega))
  have hz : w.heap.size + 1 < w1.heap.size := by have := hb.size; simp at this; omega
  have H1 := H.bel hb
  have x0 : w1.cell? ⟨w.heap.size, 0, none⟩ = some (.int .i64 W) := by rw [(bcell hb).1 _ _ (by simp; omega)]; go_simp
  have x1 : w1.cell? ⟨w.heap.size, 1, none⟩ = some (.slice a len cap) := by rw [(bcell hb).1 _ _ (by simp; omega)]; go_simp
  have y0 : w1.cell? ⟨w.heap.size + 1, 0, none⟩ = some (.int .i64 0) := by rw [(bcell hb).1 _ _ (by simp)]; go_simp
  have y1 : w1.cell? ⟨w.heap.size + 1, 1, none⟩ = some (.slice none 0 0) := by rw [(bcell hb).1 _ _ (by simp)]; go_simp
  have yf : ∀ o, w1.frozen? ⟨w.heap.size + 1, o, none⟩ = false := fun o => by rw [(bcell hb).2 _ _ (by simp)]; go_simp
  clear hb H h
  go_wp2_with fail
  have hmk := fun wx => run_make_row' (P := Try.prog) 33 3 (.int .i64 0) 8 Try.underlying33 infoInt rfl .i64 .i64 W (by omega) (by omega) wx
  go_region_held3 (fun W' => W'.cell? ⟨w.heap.size, 0, none⟩ = some (.int .i64 W) ∧ W'.cell? ⟨w.heap.size, 1, none⟩ = some (.slice a len cap))
    (first | go_keep) (fail)
  · go_wp2_with fail
    have M := made1 (n := W) (Wb := len) hz bb1 x0 x1 y0 y1 yf H1 (by omega)
    clear x0 x1 y0 y1 yf H1 hmk bb1 hz
    generalize ((w1.alloc (.cells (madeCells #[.int .i64 0] W) 3)).alloc (.cells #[.int .i64 len, .slice (some ⟨w1.heap.size, 0, none⟩) W W] 35)).drew = W0 at M ⊢
    generalize w1.heap.size + 1 = k2 at M ⊢
    generalize w1.heap.size = g at M ⊢
    go_loopw [22] (fun q wr => ∃ k : Nat, k ≤ len ∧ q = .int .i64 k ∧ W0.grownBy wr (some g) ∧ OwnI wr (w.heap.size + 2) (some ⟨g, 0, none⟩) W W (turnL xs W k)) (fun q _ => len - (intOf q).toNat)
    case atStart => exact ⟨0, Nat.zero_le _, rfl, World.grownBy.refl _ _, by rw [turn_zero]; exact M.own⟩
    case round =>
      obtain ⟨k, hk, rfl, hgr, hown⟩ := hrel
      have hown := Lib.hid hown
      obtain ⟨wo, rfl⟩ : ∃ wo : World, wo = wr := ⟨_, rfl⟩
      by_cases hlt : k < len
      · obtain ⟨b, off, rfl, hck⟩ := row_at M.row hlt
        have hbg := M.far b off rfl (by omega)
        have hck := hgr.cell hck (by simpa using hbg)
        have hr := hrow.out k hlt
        have z1 := hgr.cell M.b1 (by simpa using M.ne)
        generalize hx : xs.getD k 0 = x at hck hr
        have hx := Lib.hid hx
        go_wp2_with fail
        go_loopw [30] (fun q wr => ∃ j : Nat, j ≤ W ∧ q = .int .i64 j ∧ W0.grownBy wr (some g) ∧ OwnI wr (w.heap.size + 2) (some ⟨g, 0, none⟩) W W (colsL xs W k j)) (fun q _ => W - (intOf q).toNat)
        case atStart => exact ⟨0, Nat.zero_le _, rfl, hgr, by rw [cols_zero]; exact hown.out⟩
        case round =>
          obtain ⟨j, hj, rfl, hgr2, hown2⟩ := hrel
          by_cases hlj : j < W
          · have hcb := col_bd xs j k
            have hc := own_cell hown2 hlj
            rw [cols_get xs hlj] at hc
            have hpk : pw k ≤ 64 := by have := pw_le k 6 (by omega); have e : pw 6 = 64 := by decide
                                       omega
            have hbi := bit_01 x j
            have eor := or_bit (c := colI xs j k) (b := bitI x j) (i := k) (by omega) hcb hbi
            have eand := shr_bit (j := j) hr.1 hr.2.2
            have hs := hown2.bel ((Below.refl _ _).drew)
            have hs := hs.set j (colI xs j k + bitI x j * pw k)
            rw [show colI xs j k + bitI x j * pw k = colI xs j (k + 1) by simp only [colI]; rw [hx.out], cols_set xs hlj] at hs
            obtain ⟨W2, hW2⟩ : ∃ W2, wr.drew = W2 := ⟨_, rfl⟩
            have q1 : W2.cell? ⟨k2, 1, none⟩ = some (.slice (some ⟨g, 0, none⟩) W W) := by rw [← hW2]; exact hgr2.cell M.b1 (by simpa using M.ne)
            have q2 : W2.cell? ⟨g, j, none⟩ = some (.int .i64 (colI xs j k)) := by rw [← hW2]; exact hc
            have q3 : W2.frozen? ⟨g, j, none⟩ = false := by rw [← hW2]; exact hown2.frozen j
            have hgr3 : W0.grownBy W2 (some g) := by rw [← hW2]; exact ⟨hgr2.os, hgr2.tape, hgr2.output, hgr2.size, hgr2.block⟩
            have hgr4 := grown_set (j := j) (v := .int .i64 (colI xs j (k + 1))) hgr3
            rw [hW2] at hs
            go_wp2_with fail
            refine region_tail 13 (by kernel_rfl) (by kernel_rfl) W2 hW2 ?_
            simp only [List.take_succ_cons, List.take_zero, List.drop_succ_cons, List.drop_zero]
            have E : bits BinOp.or IntKind.i64 (colI xs j k) (wrap64 (bitI x j * 2 ^ k)) = colI xs j (k + 1) := by
              rw [← pw_pow, IntWalk.wrap64_in _ (by rcases (show bitI x j = 0 ∨ bitI x j = 1 by omega) with e | e <;> rw [e] <;> omega), eor]
              simp only [colI]; rw [hx.out]
            have hs := Lib.hid hs
            have hgr4 := Lib.hid hgr4
            clear hW2 hc hgr3 hck z1 hown2 hgr2 eor
            repeat still_step
            refine wpStill_nil ?_
            go_wp2_with fail
            exact ⟨⟨j + 1, by omega, by go_num, hgr4.out, hs.out⟩, by simp [intOf]; omega⟩
          · have : j = W := by omega
            subst this
            have hown2 := Lib.hid hown2
            have hgr2 := Lib.hid hgr2
            clear hck z1 hgr
            go_wp2_with fail
            exact ⟨⟨k + 1, by omega, by go_num, hgr2.out, by rw [← cols_full]; exact hown2.out⟩, by simp [intOf]; omega⟩
      · have : k = len := by omega
        subst this
        have z0 := hgr.cell M.b0 (by simpa using M.ne)
        have z1 := hgr.cell M.b1 (by simpa using M.ne)
        have u0 := hgr.cell M.y0 (by have := M.hg; simp; omega)
        have u1 := hgr.cell M.y1 (by have := M.hg; simp; omega)
        have uf : ∀ o, wo.frozen? ⟨w.heap.size + 1, o, none⟩ = false := fun o => (World.frozen?_of_block (a := ⟨w.heap.size + 1, o, none⟩) (hgr.block (w.heap.size + 1) (show w.heap.size + 1 < W0.heap.size from block_lt M.y0) (by have := M.hg; simp; omega))).trans (M.yf o)
        have bb : Below w.heap.size w wo := M.bel.trans ((grown_below hgr).mono (by have := M.hg; have := M.bel.size; omega))
        have hgr := Lib.hid hgr
        go_wp2_with fail
        refine bodyPost_ret (v := .tuple #[.agg #[.int .i64 k, .slice (some ⟨g, 0, none⟩) W W], .bool true]) (by simp [results, Try.results37, go_sem, u0, u1]) rfl ?_
        refine ⟨⟨some ⟨g, 0, none⟩, W, by rw [turn_len], ?_⟩, (bb.setCell (by simp) _).setCell (by simp) _⟩
        show OwnI _ _ _ (turnL xs W k).length _ _
        rw [turn_len]
        exact ((hown.out.store (by simp) _).store (by simp) _).mono (by omega)
  · go_wp2_with fail
    have M := made2 (n := W) (Wb := len) hz bb1 x0 x1 y0 y1 yf H1 (by omega)
    clear x0 x1 y0 y1 yf H1 hmk bb1 hz
    generalize ((w1.alloc (.cells #[.int .i64 len, .slice (some ⟨w1.heap.size + 1, 0, none⟩) W W] 35)).alloc (.cells (madeCells #[.int .i64 0] W) 3)).drew = W0 at M ⊢
    generalize w1.heap.size + 1 = g at M ⊢
    generalize w1.heap.size = k2 at M ⊢
    go_loopw [22] (fun q wr => ∃ k : Nat, k ≤ len ∧ q = .int .i64 k ∧ W0.grownBy wr (some g) ∧ OwnI wr (w.heap.size + 2) (some ⟨g, 0, none⟩) W W (turnL xs W k)) (fun q _ => len - (intOf q).toNat)
    case atStart => exact ⟨0, Nat.zero_le _, rfl, World.grownBy.refl _ _, by rw [turn_zero]; exact M.own⟩
    case round =>
      obtain ⟨k, hk, rfl, hgr, hown⟩ := hrel
      have hown := Lib.hid hown
      obtain ⟨wo, rfl⟩ : ∃ wo : World, wo = wr := ⟨_, rfl⟩
      by_cases hlt : k < len
      · obtain ⟨b, off, rfl, hck⟩ := row_at M.row hlt
        have hbg := M.far b off rfl (by omega)
        have hck := hgr.cell hck (by simpa using hbg)
        have hr := hrow.out k hlt
        have z1 := hgr.cell M.b1 (by simpa using M.ne)
        generalize hx : xs.getD k 0 = x at hck hr
        have hx := Lib.hid hx
        go_wp2_with fail
        go_loopw [30] (fun q wr => ∃ j : Nat, j ≤ W ∧ q = .int .i64 j ∧ W0.grownBy wr (some g) ∧ OwnI wr (w.heap.size + 2) (some ⟨g, 0, none⟩) W W (colsL xs W k j)) (fun q _ => W - (intOf q).toNat)
        case atStart => exact ⟨0, Nat.zero_le _, rfl, hgr, by rw [cols_zero]; exact hown.out⟩
        case round =>
          obtain ⟨j, hj, rfl, hgr2, hown2⟩ := hrel
          by_cases hlj : j < W
          · have hcb := col_bd xs j k
            have hc := own_cell hown2 hlj
            rw [cols_get xs hlj] at hc
            have hpk : pw k ≤ 64 := by have := pw_le k 6 (by omega); have e : pw 6 = 64 := by decide
                                       omega
            have hbi := bit_01 x j
            have eor := or_bit (c := colI xs j k) (b := bitI x j) (i := k) (by omega) hcb hbi
            have eand := shr_bit (j := j) hr.1 hr.2.2
            have hs := hown2.bel ((Below.refl _ _).drew)
            have hs := hs.set j (colI xs j k + bitI x j * pw k)
            rw [show colI xs j k + bitI x j * pw k = colI xs j (k + 1) by simp only [colI]; rw [hx.out], cols_set xs hlj] at hs
            obtain ⟨W2, hW2⟩ : ∃ W2, wr.drew = W2 := ⟨_, rfl⟩
            have q1 : W2.cell? ⟨k2, 1, none⟩ = some (.slice (some ⟨g, 0, none⟩) W W) := by rw [← hW2]; exact hgr2.cell M.b1 (by simpa using M.ne)
            have q2 : W2.cell? ⟨g, j, none⟩ = some (.int .i64 (colI xs j k)) := by rw [← hW2]; exact hc
            have q3 : W2.frozen? ⟨g, j, none⟩ = false := by rw [← hW2]; exact hown2.frozen j
            have hgr3 : W0.grownBy W2 (some g) := by rw [← hW2]; exact ⟨hgr2.os, hgr2.tape, hgr2.output, hgr2.size, hgr2.block⟩
            have hgr4 := grown_set (j := j) (v := .int .i64 (colI xs j (k + 1))) hgr3
            rw [hW2] at hs
            go_wp2_with fail
            refine region_tail 13 (by kernel_rfl) (by kernel_rfl) W2 hW2 ?_
            simp only [List.take_succ_cons, List.take_zero, List.drop_succ_cons, List.drop_zero]
            have E : bits BinOp.or IntKind.i64 (colI xs j k) (wrap64 (bitI x j * 2 ^ k)) = colI xs j (k + 1) := by
              rw [← pw_pow, IntWalk.wrap64_in _ (by rcases (show bitI x j = 0 ∨ bitI x j = 1 by omega) with e | e <;> rw [e] <;> omega), eor]
              simp only [colI]; rw [hx.out]
            have hs := Lib.hid hs
            have hgr4 := Lib.hid hgr4
            clear hW2 hc hgr3 hck z1 hown2 hgr2 eor
            repeat still_step
            refine wpStill_nil ?_
            go_wp2_with fail
            exact ⟨⟨j + 1, by omega, by go_num, hgr4.out, hs.out⟩, by simp [intOf]; omega⟩
          · have : j = W := by omega
            subst this
            have hown2 := Lib.hid hown2
            have hgr2 := Lib.hid hgr2
            clear hck z1 hgr
            go_wp2_with fail
            exact ⟨⟨k + 1, by omega, by go_num, hgr2.out, by rw [← cols_full]; exact hown2.out⟩, by simp [intOf]; omega⟩
      · have : k = len := by omega
        subst this
        have z0 := hgr.cell M.b0 (by simpa using M.ne)
        have z1 := hgr.cell M.b1 (by simpa using M.ne)
        have u0 := hgr.cell M.y0 (by have := M.hg; simp; omega)
        have u1 := hgr.cell M.y1 (by have := M.hg; simp; omega)
        have uf : ∀ o, wo.frozen? ⟨w.heap.size + 1, o, none⟩ = false := fun o => (World.frozen?_of_block (a := ⟨w.heap.size + 1, o, none⟩) (hgr.block (w.heap.size + 1) (show w.heap.size + 1 < W0.heap.size from block_lt M.y0) (by have := M.hg; simp; omega))).trans (M.yf o)
        have bb : Below w.heap.size w wo := M.bel.trans ((grown_below hgr).mono (by have := M.hg; have := M.bel.size; omega))
        have hgr := Lib.hid hgr
        go_wp2_with fail
        refine bodyPost_ret (v := .tuple #[.agg #[.int .i64 k, .slice (some ⟨g, 0, none⟩) W W], .bool true]) (by simp [results, Try.results37, go_sem, u0, u1]) rfl ?_
        refine ⟨⟨some ⟨g, 0, none⟩, W, by rw [turn_len], ?_⟩, (bb.setCell (by simp) _).setCell (by simp) _⟩
        show OwnI _ _ _ (turnL xs W k).length _ _
        rw [turn_len]
        exact ((hown.out.store (by simp) _).store (by simp) _).mono (by omega)
end Go.Proofs.Ytemmfnlnhekclaa

namespace Go.Proofs.Ytemmfnlnhekclaa
set_option maxRecDepth 100000
open Go.RowKit

theorem put_nat : ∀ i, i < 6 → ∀ c, c < 64 → ((c : Nat) : Int) ≤ pw i - 1 → putI c i false = c ∧ putI c i true = c + pw i := by decide +kernel
theorem put_bit {c b : Int} {i : Nat} (hi : i < 6) (hc : 0 ≤ c ∧ c ≤ pw i - 1) (hb : 0 ≤ b ∧ b ≤ 1) : putI c i (b == 1) = c + b * pw i := by
  have hp : pw i ≤ 64 := by have := pw_le i 6 (by omega); have e : pw 6 = 64 := by decide
                            omega
  obtain ⟨n, rfl⟩ := Int.eq_ofNat_of_zero_le hc.1
  have := put_nat i hi n (by omega) hc.2
  rcases (show b = 0 ∨ b = 1 by omega) with e | e <;> rw [e]
  · rw [Int.zero_mul, Int.add_zero]; exact this.1
  · rw [Int.one_mul]; exact this.2

theorem grown_trans {a b c : World} {row : Option Nat} (h : a.grownBy b row) (k : b.grownBy c row) : a.grownBy c row :=
  ⟨k.os.trans h.os, k.tape.trans h.tape, k.output.trans h.output, Nat.le_trans h.size k.size, fun i hi hn => (k.block i (Nat.lt_of_lt_of_le hi h.size) hn).trans (h.block i hi hn)⟩
theorem made3 {w w1 w2 : World} {WA Wb : Int} {a : Option Addr} {len cap n g : Nat} {xs : List Int} (hz : w.heap.size + 1 < w1.heap.size) (bb : Below w.heap.size w w1)
    (x0 : w1.cell? ⟨w.heap.size, 0, none⟩ = some (.int .i64 WA)) (x1 : w1.cell? ⟨w.heap.size, 1, none⟩ = some (.slice a len cap)) (y0 : w1.cell? ⟨w.heap.size + 1, 0, none⟩ = some (.int .i64 0)) (y1 : w1.cell? ⟨w.heap.size + 1, 1, none⟩ = some (.slice none 0 0)) (yf : ∀ o, w1.frozen? ⟨w.heap.size + 1, o, none⟩ = false) (h : Row w1 a len xs)
    (hb : Below w1.heap.size w1 w2) (hg : w1.heap.size ≤ g) (ho : OwnI w2 w1.heap.size (some ⟨g, 0, none⟩) n n (List.replicate n 0)) :
    Made w (w2.alloc (.cells #[.int .i64 Wb, .slice (some ⟨g, 0, none⟩) n n] 35)) g w2.heap.size WA a len cap xs Wb n := by
  have hB : Below w1.heap.size w1 (w2.alloc (.cells #[.int .i64 Wb, .slice (some ⟨g, 0, none⟩) n n] 35)) := hb.alloc hb.size _
  have hs := hb.size
  have hgl : g < w2.heap.size := by
    rcases ho.cases with ⟨e, _⟩ | ⟨g', e, _, h3⟩
    · cases e
    · simp only [Option.some.injEq, Addr.mk.injEq, and_true] at e; omega
  exact ⟨kept hB (show _ < _ by simp; omega) x0, kept hB (show _ < _ by simp; omega) x1, kept hB (by simpa using hz) y0, kept hB (by simpa using hz) y1, fun o => (hB.frozen (by simpa using hz)).trans (yf o), by go_simp, by go_simp, h.bel hB,
    (ho.mono (by omega)).bel ((Below.refl _ _).alloc (Nat.le_refl _) _), bb.trans (hB.mono (by omega)), by omega, row_far h hg, by omega, by omega, fun k hk => by simp at hk; omega⟩

theorem turn_small (W : Int) (xs : List Int) (len : Nat) : (if validB W xs = true then (⟨true, len, turnL xs W.toNat len⟩ : Out) else .no).xs.length ≤ 1048576 := by
  by_cases hv : validB W xs = true
  · rw [if_pos hv]; have := validB_W hv; simp only [turn_len]; omega
  · rw [if_neg hv]; simp [Out.no]
end Go.Proofs.Ytemmfnlnhekclaa

namespace Go.Proofs.Ytemmfnlnhekclaa
set_option maxRecDepth 100000
open Go.RowKit

def rb1 (x : Int) : Int := bits BinOp.or IntKind.u64 (bits BinOp.and IntKind.u64 (x / 256) 71777214294589695) (IntKind.u64.wrap (bits BinOp.and IntKind.u64 x 71777214294589695 * 256))
def rb2 (x : Int) : Int := bits BinOp.or IntKind.u64 (bits BinOp.and IntKind.u64 (x / 65536) 281470681808895) (IntKind.u64.wrap (bits BinOp.and IntKind.u64 x 281470681808895 * 65536))
def rb3 (x : Int) : Int := bits BinOp.or IntKind.u64 (x / 4294967296) (IntKind.u64.wrap (x * 4294967296))
def rv1 (x : Int) : Int := bits BinOp.or IntKind.u64 (bits BinOp.and IntKind.u64 (x / 2) 6148914691236517205) (IntKind.u64.wrap (bits BinOp.and IntKind.u64 x 6148914691236517205 * 2))
def rv2 (x : Int) : Int := bits BinOp.or IntKind.u64 (bits BinOp.and IntKind.u64 (x / 4) 3689348814741910323) (IntKind.u64.wrap (bits BinOp.and IntKind.u64 x 3689348814741910323 * 4))
def rv3 (x : Int) : Int := bits BinOp.or IntKind.u64 (bits BinOp.and IntKind.u64 (x / 16) 1085102592571150095) (IntKind.u64.wrap (bits BinOp.and IntKind.u64 x 1085102592571150095 * 16))
def rv (x : Int) : Int := rb3 (rb2 (rb1 (rv3 (rv2 (rv1 x)))))
theorem rv3_nat : ∀ n, n < 64 → 0 ≤ rv3 (rv2 (rv1 ((n : Nat) : Int))) ∧ rv3 (rv2 (rv1 ((n : Nat) : Int))) ≤ 18446744073709551615 := by decide +kernel
theorem rv3_bd {x : Int} (h0 : 0 ≤ x) (h1 : x ≤ 63) : 0 ≤ rv3 (rv2 (rv1 x)) ∧ rv3 (rv2 (rv1 x)) ≤ 18446744073709551615 := by
  obtain ⟨n, rfl⟩ := Int.eq_ofNat_of_zero_le h0
  exact rv3_nat n (by omega)
theorem rv_nat : ∀ n, n < 64 → 0 ≤ rv ((n : Nat) : Int) ∧ rv ((n : Nat) : Int) ≤ 18446744073709551615 := by decide +kernel
theorem rv_bd {x : Int} (h0 : 0 ≤ x) (h1 : x ≤ 63) : 0 ≤ rv x ∧ rv x ≤ 18446744073709551615 := by
  obtain ⟨n, rfl⟩ := Int.eq_ofNat_of_zero_le h0
  exact rv_nat n (by omega)

set_option maxHeartbeats 400000 in
theorem revb_any (x : Int) (w : World) :
    Calls Try.prog 89 #[.int .u64 x] w fun e w' => e = .returned (.int .u64 (rb3 (rb2 (rb1 x)))) ∧ w = w' := by
  go_enter Try.func89, Try.ntmps89
  go_wp2
  go_ret
  exact ⟨rfl, rfl⟩
set_option maxHeartbeats 400000 in
theorem rev_any (x : Int) (w : World) (h0 : 0 ≤ x) (h1 : x ≤ 63) :
    Calls Try.prog 75 #[.int .u64 x] w fun e w' => e = .returned (.int .u64 (rv x)) ∧ w = w' := by
  have hb := rv3_bd h0 h1
  go_enter Try.func75, Try.ntmps75
  go_wp2_with fail
  refine (revb_any (rv3 (rv2 (rv1 x))) _).mono ?_
  rintro e w' ⟨rfl, rfl⟩
  go_wp2_with fail
  go_ret
  exact ⟨rfl, rfl⟩

/-- The first bits of a row in the opposite order. -/
def mirI (W : Nat) (x : Int) : Nat → Int
  | 0 => 0
  | j + 1 => mirI W x j + bitI x j * pw (W - 1 - j)
theorem mir_nat : ∀ k, k < 7 → 1 ≤ k → ∀ n, n < 64 → ((n : Nat) : Int) ≤ pw k - 1 → rv ((n : Nat) : Int) / 2 ^ (64 - k) = mirI k ((n : Nat) : Int) k := by decide +kernel
theorem mir_num {x : Int} {k : Nat} (hk : 1 ≤ k ∧ k ≤ 6) (h0 : 0 ≤ x) (h1 : x ≤ pw k - 1) (h2 : x ≤ 63) : rv x / 2 ^ (64 - k) = mirI k x k := by
  obtain ⟨n, rfl⟩ := Int.eq_ofNat_of_zero_le h0
  exact mir_nat k (by omega) hk.1 n (by omega) h1
theorem mirput_nat : ∀ k, k < 7 → ∀ j, j < k → ∀ n, n < 64 → putI (mirI k ((n : Nat) : Int) j) (k - 1 - j) (bitI ((n : Nat) : Int) j == 1) = mirI k ((n : Nat) : Int) (j + 1) ∧ 0 ≤ mirI k ((n : Nat) : Int) j ∧ mirI k ((n : Nat) : Int) j ≤ 63 := by decide +kernel
theorem mirput {x : Int} {k j : Nat} (hk : k ≤ 6) (hj : j < k) (h0 : 0 ≤ x) (h2 : x ≤ 63) : putI (mirI k x j) (k - 1 - j) (bitI x j == 1) = mirI k x (j + 1) ∧ 0 ≤ mirI k x j ∧ mirI k x j ≤ 63 := by
  obtain ⟨n, rfl⟩ := Int.eq_ofNat_of_zero_le h0
  exact mirput_nat k (by omega) j hj n (by omega)
theorem mir_full : ∀ k, k < 7 → ∀ n, n < 64 → 0 ≤ mirI k ((n : Nat) : Int) k ∧ mirI k ((n : Nat) : Int) k ≤ 63 := by decide +kernel

/-- A list told place by place. -/
def rowsL (f : Nat → Int) (n : Nat) : List Int := (List.range n).map f
theorem rows_len (f : Nat → Int) (n : Nat) : (rowsL f n).length = n := by simp [rowsL]
theorem rows_get (f : Nat → Int) {n i : Nat} (hi : i < n) : (rowsL f n).getD i 0 = f i := by
  rw [getD_elem (by rw [rows_len]; exact hi)]; simp [rowsL]
theorem rows_ext {f g : Nat → Int} {n : Nat} (h : ∀ i, i < n → f i = g i) : rowsL f n = rowsL g n := by
  unfold rowsL; exact List.map_congr_left fun i hi => h i (List.mem_range.1 hi)
theorem rows_set (f g : Nat → Int) {n i : Nat} {v : Int} (hi : i < n) (h1 : g i = v) (h2 : ∀ k, k < n → k ≠ i → g k = f k) : (rowsL f n).set i v = rowsL g n := by
  apply List.ext_getElem?
  intro k
  by_cases e : k = i
  · subst e; rw [List.getElem?_set_self (by rw [rows_len]; exact hi)]; simp [rowsL, hi, h1]
  · rw [List.getElem?_set_ne (by omega)]
    by_cases hk : k < n
    · simp only [rowsL, List.getElem?_map, List.getElem?_range hk, Option.map_some, h2 k hk e]
    · rw [List.getElem?_eq_none (by rw [rows_len]; omega), List.getElem?_eq_none (by rw [rows_len]; omega)]
theorem rows_step (F G : Nat → Int) {n k : Nat} {v : Int} (hk : k < n) (hv : F k = v) : (rowsL (fun i => if i < k then F i else G i) n).set k v = rowsL (fun i => if i < k + 1 then F i else G i) n := by
  refine rows_set _ _ hk ?_ ?_
  · show (if k < k + 1 then F k else G k) = v
    rw [if_pos (by omega)]; exact hv
  · intro i _ hne
    show (if i < k + 1 then F i else G i) = (if i < k then F i else G i)
    by_cases h : i < k
    · rw [if_pos h, if_pos (by omega)]
    · rw [if_neg h, if_neg (by omega)]
theorem rows_zero (n : Nat) : rowsL (fun _ => 0) n = List.replicate n 0 := by
  unfold rowsL
  apply List.ext_getElem?
  intro k
  by_cases hk : k < n
  · simp [hk]
  · rw [List.getElem?_eq_none (by simp; omega), List.getElem?_eq_none (by simp; omega)]
theorem rows_self (xs : List Int) : rowsL (fun i => xs.getD i 0) xs.length = xs := by
  apply List.ext_getElem?
  intro k
  by_cases hk : k < xs.length
  · simp [rowsL, hk]
  · rw [List.getElem?_eq_none (by simp [rowsL]; omega), List.getElem?_eq_none (by omega)]
end Go.Proofs.Ytemmfnlnhekclaa
