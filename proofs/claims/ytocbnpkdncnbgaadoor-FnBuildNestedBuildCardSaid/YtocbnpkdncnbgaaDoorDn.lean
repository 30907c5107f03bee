/-
  The contract of the model's l5Best; rows of flags; what the model's BuildImage holds.
-/
import Derived.Test.YtocbnpkdncnbgaaDoorDa
import Derived.Test.YtocbnpkdncnbgaaDoorK
namespace Go.Proofs.YtocbnpkdncnbgaaDoor
set_option maxRecDepth 100000
open Go.RowKit

/-- The best one so far. -/
def BSo (f : Nat → Int) (u : Nat → Bool) (k : Nat) (b : Int) : Prop := (b = -1 ∧ ∀ q, q < k → u q = true) ∨ ∃ m : Nat, b = m ∧ m < k ∧ u m = false ∧ ∀ q, q < k → u q = false → q = m ∨ bet f m q
theorem BSo.used {f : Nat → Int} {u : Nat → Bool} {k : Nat} {b : Int} (h : BSo f u k b) (hu : u k = true) : BSo f u (k + 1) b := by
  rcases h with ⟨e, h⟩ | ⟨m, e, hm, h1, h2⟩
  · refine .inl ⟨e, fun q hq => ?_⟩
    by_cases e2 : q = k
    · subst e2; exact hu
    · exact h q (by omega)
  · refine .inr ⟨m, e, by omega, h1, fun q hq hq2 => ?_⟩
    by_cases e2 : q = k
    · subst e2; rw [hu] at hq2; cases hq2
    · exact h2 q (by omega) hq2
theorem BSo.first {f : Nat → Int} {u : Nat → Bool} {k : Nat} (h : BSo f u k (-1)) (hu : u k = false) : BSo f u (k + 1) (k : Int) := by
  rcases h with ⟨_, h⟩ | ⟨m, e, _⟩
  · refine .inr ⟨k, rfl, by omega, hu, fun q hq hq2 => ?_⟩
    by_cases e2 : q = k
    · exact .inl e2
    · rw [h q (by omega)] at hq2; cases hq2
  · omega
theorem BSo.better {f : Nat → Int} {u : Nat → Bool} {k m : Nat} (h : BSo f u k (m : Int)) (hu : u k = false) (hb : f m < f k) : BSo f u (k + 1) (k : Int) := by
  rcases h with ⟨e, _⟩ | ⟨m', e, hm, h1, h2⟩
  · omega
  · obtain rfl : m = m' := by omega
    refine .inr ⟨k, rfl, by omega, hu, fun q hq hq2 => ?_⟩
    by_cases e2 : q = k
    · exact .inl e2
    · right
      rcases h2 q (by omega) hq2 with rfl | b
      · exact .inl hb
      · exact bet_trans (.inl hb) b
theorem BSo.worse {f : Nat → Int} {u : Nat → Bool} {k m : Nat} (h : BSo f u k (m : Int)) (hb : ¬ f m < f k) : BSo f u (k + 1) (m : Int) := by
  rcases h with ⟨e, _⟩ | ⟨m', e, hm, h1, h2⟩
  · omega
  · obtain rfl : m = m' := by omega
    refine .inr ⟨m, rfl, by omega, h1, fun q hq hq2 => ?_⟩
    by_cases e2 : q = k
    · subst e2; right; unfold bet; omega
    · exact h2 q (by omega) hq2
theorem BSo.done {f : Nat → Int} {u : Nat → Bool} {n i : Nat} {b : Int} (h : BSo f u n b) (hi : Best f n u i) : b = i := by
  rcases h with ⟨_, h⟩ | ⟨m, e, hm, h1, h2⟩
  · have h2 := hi.2.1
    rw [h i hi.1] at h2; cases h2
  · have : Best f n u m := ⟨hm, h1, h2⟩
    rw [e, this.eq hi]
theorem BSo.get {f : Nat → Int} {u : Nat → Bool} {k : Nat} {b : Int} (h : BSo f u k b) : b = -1 ∨ ∃ m : Nat, b = m ∧ m < k := by
  rcases h with ⟨e, _⟩ | ⟨m, e, hm, _⟩
  · exact .inl e
  · exact .inr ⟨m, e, hm⟩

/-- A slice of flags that starts at the head of a block. -/
def OwnB (w : World) (g n : Nat) (u : Nat → Bool) : Prop := w.ownsRow 0 4 1 (.slice (some ⟨g, 0, none⟩) n n) n ((List.range n).map fun i => .bool (u i))
theorem OwnB.cell {w : World} {g n : Nat} {u : Nat → Bool} (h : OwnB w g n u) {i : Nat} (hi : i < n) : w.cell? ⟨g, i, none⟩ = some (.bool (u i)) := by
  rw [World.ownsRow.cellAt h i (by omega)]
  simp [hi]
theorem OwnB.frozen {w : World} {g n : Nat} {u : Nat → Bool} (h : OwnB w g n u) (j : Nat) : w.frozen? ⟨g, j, none⟩ = false := World.ownsRow.frozenAt h j
theorem OwnB.set {w : World} {g n i : Nat} {u : Nat → Bool} (h : OwnB w g n u) : OwnB (w.setCell ⟨g, i, none⟩ (.bool true)) g n (fun k => u k || decide (k = i)) := by
  have h1 := (World.ownsRow.stored h i (.bool true)).1
  have e : ((List.range n).map fun i => Value.bool (u i)).set i (.bool true) = (List.range n).map fun k => .bool (u k || decide (k = i)) := by
    apply List.ext_getElem (by simp)
    intro k h1 h2
    rw [List.getElem_set]
    by_cases e : i = k
    · subst e; simp
    · rw [if_neg e]; simp [Ne.symm e]
  rw [e] at h1; exact h1
theorem OwnB.kept {w w' : World} {g n : Nat} {u : Nat → Bool} {row : Option Nat} (h : OwnB w g n u) (hg : w.grownBy w' row) (hne : some g ≠ row) : OwnB w' g n u := World.ownsRow.kept h hg (.inr hne)
theorem infoBool : (Tryd.prog.info? 4).map (fun i => (i.zero, i.size, i.bytes)) = some (some (.bool false), 1, 1) := by kernel_rfl

set_option maxHeartbeats 2000000 in
theorem best_spec (a : Option Addr) (n cap g i0 : Nat) (xs : List Int) (u : Nat → Bool) (w : World) (h : Row w a n xs) (hu : OwnB w g n u) (hi0 : Best (fun i => xs.getD i 0) n u i0) (hn : n ≤ 13) :
    Calls Tryd.prog 48 #[.slice a n cap, .slice (some ⟨g, 0, none⟩) n n] w fun e w' => e = .returned (.int .i64 i0) ∧ Below w.heap.size w w' := by
  have h := Lib.hid h
  have hu := Lib.hid hu
  have hi0 := Lib.hid hi0
  go_enter Tryd.func48, Tryd.ntmps48
  go_wp2_with fail
  go_loopw [5, 6] (fun o i wr => ∃ (k : Nat) (b : Int), k ≤ n ∧ i = .int .i64 k ∧ o = .int .i64 b ∧ Hid (BSo (fun i => xs.getD i 0) u k b) ∧ Hid (Below w.heap.size w wr)) (fun _ i _ => n - (intOf i).toNat)
  case atStart => exact ⟨0, -1, Nat.zero_le _, rfl, rfl, .inl ⟨rfl, fun q hq => by omega⟩, Below.refl _ _⟩
  case round =>
    obtain ⟨k, b, hk, rfl, rfl, hS, hB⟩ := hrel
    by_cases hlt : k < n
    case neg =>
      have : k = n := by omega
      subst this
      have hb := hS.out.done hi0.out
      subst hb
      go_wp2_with fail
      go_ret
      exact ⟨rfl, hB.out⟩
    have hR := h.out.bel hB.out
    obtain ⟨b1, o1, rfl, ck⟩ := row_at hR hlt
    have cu := kept hB.out (block_lt (hu.out.cell hlt)) (hu.out.cell hlt)
    cases huk : u k with
    | true =>
      rw [huk] at cu
      have hS2 := Lib.hid (hS.out.used huk)
      clear hR ck hS huk
      go_wp2_with fail
      go_quiet (fail)
      go_wp2_with fail
      exact ⟨⟨k + 1, b, by omega, by go_num, rfl, hS2, below_drewN hB.out _⟩, by simp [intOf]; omega⟩
    | false =>
      rw [huk] at cu
      rcases hS.out.get with rfl | ⟨m, rfl, hm⟩
      · have hS2 := Lib.hid (hS.out.first huk)
        clear hR ck hS huk
        go_wp2_with fail
        go_quiet (fail)
        go_wp2_with fail
        exact ⟨⟨k + 1, k, by omega, by go_num, rfl, hS2, below_drewN hB.out _⟩, by simp [intOf]; omega⟩
      · obtain ⟨b2, o2, e2, cm⟩ := row_at hR (show m < n by omega)
        cases e2
        by_cases hb : xs.getD m 0 < xs.getD k 0
        · have hS2 := Lib.hid (hS.out.better huk hb)
          generalize xs.getD k 0 = x at *
          generalize xs.getD m 0 = y at *
          have hm0 : decide ((m : Int) < 0) = false := decide_eq_false (by omega)
          clear hR hS huk
          go_wp2_with fail
          go_quiet (fail)
          go_wp2_with fail
          exact ⟨⟨k + 1, k, by omega, by go_num, rfl, hS2, below_drewN hB.out _⟩, by simp [intOf]; omega⟩
        · have hS2 := Lib.hid (hS.out.worse hb)
          generalize xs.getD k 0 = x at *
          generalize xs.getD m 0 = y at *
          have hm0 : decide ((m : Int) < 0) = false := decide_eq_false (by omega)
          clear hR hS huk
          go_wp2_with fail
          go_quiet (fail)
          go_wp2_with fail
          exact ⟨⟨k + 1, m, by omega, by go_num, rfl, hS2, below_drewN hB.out _⟩, by simp [intOf]; omega⟩
end Go.Proofs.YtocbnpkdncnbgaaDoor

