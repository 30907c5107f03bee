/-
  The contract of the iterator over pairs of numbers: it gives all of them, in their order.
-/
import Derived.Test.YteejopkimlkhoaaRa
import Derived.Test.YteejopkimlkhoaaEb
namespace Go.Proofs.Yteejopkimlkhoaa
set_option maxRecDepth 100000
open Go.RowKit
attribute [local go_sem] Oper.semAt_some

theorem pairsOf_any (n : Int) (w : World) :
    Calls Try.prog 108 #[.int .i64 n] w fun e w' => e = .returned (.func (.func 117) #[] #[.pointer (some ⟨w.heap.size, 0, none⟩)]) ∧ w' = w.alloc (.cells #[.int .i64 n] 3) := by
  go_enter Try.func108, Try.ntmps108
  go_wp2
  go_ret
  exact ⟨rfl, rfl⟩

def encP (p : Nat × Nat) : Array Value := #[.int .i64 p.1, .int .i64 p.2]

set_option maxHeartbeats 1000000 in
theorem pairs_deals (B n : Nat) (M : Nat → Obj → Prop) (W : World) (hB : Boxed W B 3 (.int .i64 n)) (hM : ¬ M B (.cells #[.int .i64 n] 3 (0, 0))) (hn : n ≤ 6) :
    Deals Try.prog 117 #[.pointer (some ⟨B, 0, none⟩)] encP (pairsL n) M W := by
  intro l J Jx hJ hJx hY h0
  replace hM := Lib.hid hM
  replace hY := Lib.hid hY
  replace hJ := Lib.hid hJ
  replace hJx := Lib.hid hJx
  have hx := hB.cell
  refine callsIn_of_wp Try.func117 rfl trivial ?_ rfl
  simp only [Try.ntmps117, List.size_toArray, List.length_cons, List.length_nil, Nat.reduceAdd, Nat.reduceSub, Array.replicate_succ, Array.replicate_zero, List.push_toArray, List.append_toArray, List.nil_append, List.cons_append]
  gi_wp2
  gi_loopw [6] (fun i wr => ∃ k : Nat, k ≤ n ∧ i = .int .i64 k ∧ Hid (J (uptoL n k) wr) ∧ Boxed wr B 3 (.int .i64 n)) (fun i _ => n - (intOf i).toNat)
  case atStart => exact ⟨0, Nat.zero_le _, rfl, h0, hB⟩
  case round =>
    obtain ⟨i, hi, rfl, hQ, hb⟩ := hrel
    obtain ⟨wi, rfl⟩ : ∃ wi : World, wi = wr := ⟨_, rfl⟩
    clear hx
    by_cases hlt : i < n
    · gi_wp2
      gi_loopw [4] (fun j wr => ∃ k : Nat, i + 1 ≤ k ∧ k ≤ n ∧ j = .int .i64 k ∧ Hid (J (uptoL n i ++ segL i k) wr) ∧ Boxed wr B 3 (.int .i64 n)) (fun j _ => n - (intOf j).toNat)
      case atStart => exact ⟨i + 1, Nat.le_refl _, by omega, by simp, by rw [seg_nil, List.append_nil]; exact hQ, hb⟩
      case round =>
        obtain ⟨k, hk0, hk, rfl, hQ2, hb2⟩ := hrel
        obtain ⟨wk, rfl⟩ : ∃ wk : World, wk = wr := ⟨_, rfl⟩
        have hx := hb2.cell
        by_cases hlk : k < n
        · obtain ⟨post, hp⟩ := pairs_at (show i < k by omega) hlk
          obtain ⟨fn, tmps, assign, body, hy, hR⟩ := hY.out _ (i, k) post wk hp hQ2.out
          unfold encP at hy
          dsimp only at hy
          clear hp
          gi_wp2
          refine (round_wide hR).mono ?_
          rintro e W3 ⟨hs, (⟨rfl, hJ3⟩ | ⟨rfl, hx3⟩)⟩
          · have hb3 : Boxed W3 B 3 (.int .i64 n) := hs.same _ _ hb2 hM.out
            have hJ4 : Hid (J (uptoL n i ++ segL i (k + 1)) W3) := by rw [seg_snoc (by omega), ← List.append_assoc]; exact hJ3
            clear hs hJ3 hR hy hx
            have hx := hb3.cell
            gi_wp2
            exact ⟨⟨k + 1, by omega, by omega, by go_num, hJ4, hb3⟩, by simp [intOf]; omega⟩
          · clear hs hR hy hx
            replace hx3 := Lib.hid hx3
            gi_wp2
            refine bodyPost_ret (results_none rfl _ _ _) rfl ?_
            exact ⟨⟨_, rfl⟩, .inr hx3.out⟩
        · have : k = n := by omega
          subst this
          have hQ3 : Hid (J (uptoL k (i + 1)) wk) := by rw [upto_snoc]; exact hQ2
          gi_wp2
          exact ⟨⟨i + 1, by omega, by go_num, hQ3, hb2⟩, by simp [intOf]; omega⟩
    · have : i = n := by omega
      subst this
      gi_wp2
      go_end0
      exact ⟨⟨_, rfl⟩, .inl hQ.out⟩
end Go.Proofs.Yteejopkimlkhoaa

