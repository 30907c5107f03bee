/-
  The contract of the program's CountAll.
-/
import Derived.Test.YtmfncheimmcobaaJq
import Derived.Test.YtmfncheimmcobaaJf
import Derived.Test.YtmfncheimmcobaaDe
namespace Go.Proofs.Ytmfncheimmcobaa
set_option maxRecDepth 100000
open Go.RowKit

/-- What CountAll answers. -/
def caO (rows : List Int) (w : Int) : Int := if nestB rows w = true then allC w rows else -1
theorem suml_one (xs : List Int) : sumL (fun _ => (1 : Int)) xs = xs.length := by
  induction xs with
  | nil => rfl
  | cons x xs ih => show 1 + sumL _ xs = _; rw [ih, List.length_cons]; omega
theorem with_cho {W : Nat} (hW : W ≤ 6) {r : Int} (h0 : 0 ≤ r) (h1 : r ≤ W) : ((withL W r (pn W)).length : Int) = choI W r.toNat := by
  obtain ⟨r, rfl⟩ := Int.eq_ofNat_of_zero_le h0
  rw [← suml_one, with_sum, Int.toNat_natCast, ← cho_masks W (by omega) r (by omega)]
  refine sum_ext fun m _ => ?_
  unfold bI
  by_cases e : cntI (m : Nat) W = (r : Int)
  · rw [if_pos e]; simp [e]
  · rw [if_neg e]; simp [e]
theorem prod_bd {f : Nat → Int} : ∀ {k : Nat}, (∀ i, i < k → 1 ≤ f i ∧ f i ≤ 20) → 1 ≤ prodI f k ∧ prodI f k ≤ pw (5 * k)
  | 0, _ => by show 1 ≤ (1 : Int) ∧ (1 : Int) ≤ pw 0; exact ⟨Int.le_refl _, by decide⟩
  | k + 1, h => by
    obtain ⟨h1, h2⟩ := prod_bd (f := f) (k := k) fun i hi => h i (by omega)
    have h3 := h k (by omega)
    have e : prodI f (k + 1) = prodI f k * f k := rfl
    have e2 : pw (5 * (k + 1)) = pw (5 * k) * 32 := by
      rw [show 5 * (k + 1) = 5 * k + 1 + 1 + 1 + 1 + 1 by omega]; simp only [pw_succ]; omega
    have hp := pw_pos (5 * k)
    have a1 : prodI f k * 1 ≤ prodI f k * f k := Int.mul_le_mul_of_nonneg_left h3.1 (by omega)
    have a2 : prodI f k * f k ≤ prodI f k * 20 := Int.mul_le_mul_of_nonneg_left h3.2 (by omega)
    rw [e, e2]
    omega
theorem all_small {rows : List Int} {W : Nat} (hW : W ≤ 6) (hn : rows.length ≤ 6) (h : ∀ i, i < rows.length → 0 ≤ rows.getD i 0 ∧ rows.getD i 0 ≤ W) : ∀ k, k ≤ rows.length → 1 ≤ prodI (fun i => choI W (rows.getD i 0).toNat) k ∧ prodI (fun i => choI W (rows.getD i 0).toNat) k ≤ 1073741824 := fun k hk => by
  have h1 := prod_bd (f := fun i => choI W (rows.getD i 0).toNat) (k := k) fun i hi => by
    have h2 := h i (by omega)
    have h3 := cho_few W (by omega) (rows.getD i 0).toNat (by omega)
    exact h3.2
  have h2 := pw_le (5 * k) 30 (by omega)
  rw [pw_30] at h2
  omega
set_option maxHeartbeats 3200000 in
theorem ca_impl (a : Option Addr) (n cap : Nat) (xs : List Int) (e : Int) (w : World) (h : Row w a n xs) (hm : n ≤ 1048576) :
    Calls Try.prog 32 #[.slice a n cap, .int .i64 e] w fun e' w' => e' = .returned (.int .i64 (caO xs e)) ∧ Below w.heap.size w w' := by
  have hl := h.1
  have hb := bn_impl a n cap xs e w h (by omega)
  have hR := Lib.hid h
  unfold caO
  clear h
  by_cases hs : nestB xs e = true
  case neg =>
    rw [if_neg hs]
    rw [nestOut_no (by simpa using hs)] at hb
    go_enter Try.func32, Try.ntmps32
    go_wp2_with fail
    refine hb.mono ?_
    rintro e' w1 ⟨⟨ab, cb, rfl, _⟩, hb⟩
    have bb := Lib.hid (hb.alloc hb.size (.cells #[.int .i64 0, .slice ab 0 cb] 32))
    clear hb
    go_wp2_with fail
    go_ret
    exact ⟨rfl, bb.out⟩
  rw [if_pos hs]
  have he := inB_iff.1 (by unfold nestB at hs; rw [Bool.and_eq_true, Bool.and_eq_true] at hs; exact hs.2.1 : inB e 1 6 = true)
  obtain ⟨W, rfl⟩ := Int.eq_ofNat_of_zero_le (by omega : 0 ≤ e)
  have hp := nestB_parts hs
  rw [hl] at hp
  have hn6 := hp.1.2
  have hW6 := hp.2.1.2
  rw [show nestOut xs W = ⟨true, W, nestL xs W⟩ from by unfold nestOut; rw [if_pos hs, Int.toNat_natCast]] at hb
  have hsm := Lib.hid (all_small (rows := xs) hW6 (by omega) (by rw [hl]; exact hp.2.2))
  have hcl := Lib.hid (fun i (hi : i < n) => with_cho (W := W) hW6 (hp.2.2 i hi).1 (hp.2.2 i hi).2)
  rw [allC_prod, hl]
  rw [hl] at hsm
  have hpr := Lib.hid (fun k => show prodI (fun i => choI W (xs.getD i 0).toNat) (k + 1) = prodI (fun i => choI W (xs.getD i 0).toNat) k * choI W (xs.getD k 0).toNat from rfl)
  have hce := Lib.hid (fun i (hi : i < n) => cho_get (W := W) (rows := xs) (i := i) (by omega))
  have hcn : (choC W xs).length = n := by rw [cho_len]; exact hl
  obtain ⟨PR, hPR⟩ : ∃ PR, prodI (fun i => choI W (xs.getD i 0).toNat) = PR := ⟨_, rfl⟩
  rw [hPR] at hsm ⊢
  have hP0 : PR 0 = 1 := by rw [← hPR]; rfl
  simp only [hPR] at hpr
  replace hPR := Lib.hid hPR
  replace hP0 := Lib.hid hP0
  clear hp hs
  go_enter Try.func32, Try.ntmps32
  go_wp2_with fail
  refine hb.mono ?_
  rintro e' w1 ⟨⟨ab, cb, rfl, _⟩, hb⟩
  obtain ⟨W1, hW1⟩ : ∃ W1, W1 = w1.alloc (.cells #[.int .i64 W, .slice ab (nestL xs W).length cb] 32) := ⟨_, rfl⟩
  have hb1 : Below w1.heap.size w1 W1 := by rw [hW1]; exact (Below.refl _ _).alloc (Nat.le_refl _) _
  have bb := Lib.hid (hb.trans (hb1.mono hb.size))
  have hR1 := Lib.hid (hR.out.bel bb.out)
  clear hb hb1
  go_upto_region 2 with fail
  rw [← hW1]
  clear hW1
  go_wp2_with fail
  refine (choices_any W hW6 a n cap xs W1 hR1.out hn6).mono ?_
  rintro e' w2 ⟨⟨g, rfl, hA⟩, hb⟩
  have hA2 := Lib.hid (hA.read hcn)
  replace bb := Lib.hid (bb.out.trans (hb.mono bb.out.size))
  clear hA hb
  go_wp2_with fail
  go_loopw [7, 22] (fun o i wr => ∃ k : Nat, k ≤ n ∧ i = .int .i64 k ∧ o = .int .i64 (PR k) ∧ Hid (w2 = wr)) (fun _ i _ => n - (intOf i).toNat)
  case atStart => exact ⟨0, Nat.zero_le _, rfl, by rw [hP0.out], by first | exact Lib.hid rfl | exact Lib.hid trivial⟩
  case round =>
    obtain ⟨k, hk, rfl, rfl, hw⟩ := hrel
    obtain rfl := hw.out
    clear hw
    by_cases hlt : k < n
    · obtain ⟨cb2, co, hce2, hcell⟩ := hA2.out.2.resolve_left (by omega)
      cases hce2
      have hck : k < (choC W xs).length := by omega
      obtain ⟨a', c', h1, h2⟩ := hcell k hck
      rw [Nat.zero_add] at h1
      have hLe : (choC W xs)[k] = withL W (xs.getD k 0) (pn W) := by have := hce.out k hlt; rw [List.getElem?_eq_getElem hck] at this; exact Option.some.inj this
      have hle := hcl.out k hlt
      rw [← hLe] at hle
      obtain ⟨N, hN⟩ : ∃ N, (choC W xs)[k].length = N := ⟨_, rfl⟩
      rw [hN] at h1 h2 hle
      have hnx := hpr.out k
      rw [← hle] at hnx
      have s1 := hsm.out k hk
      have s2 := hsm.out (k + 1) (by omega)
      obtain ⟨V, hV⟩ : ∃ V, PR k = V := ⟨_, rfl⟩
      rw [hV] at hnx s1 ⊢
      obtain ⟨V2, hV2⟩ : ∃ V2, PR (k + 1) = V2 := ⟨_, rfl⟩
      rw [hV2] at hnx s2
      have i1 : IntKind.i64.wrap (V * (N : Int)) = V2 := by rw [← hnx]; exact IntWalk.i64_in _ ⟨by omega, by omega⟩
      have i2 : wrap64 (V * (N : Int)) = V2 := by rw [← hnx]; exact IntWalk.wrap64_in _ ⟨by omega, by omega⟩
      replace hN := Lib.hid hN
      replace hV := Lib.hid hV
      replace hV2 := Lib.hid hV2
      replace hLe := Lib.hid hLe
      replace hle := Lib.hid hle
      replace hnx := Lib.hid hnx
      clear hcell h2
      go_wp2_with fail
      exact ⟨⟨k + 1, by omega, by go_num, by rw [hV2.out], by first | exact Lib.hid rfl | exact Lib.hid trivial⟩, by simp [intOf]; omega⟩
    · obtain rfl : k = n := by omega
      go_wp2_with fail
      go_ret
      exact ⟨rfl, bb.out⟩
end Go.Proofs.Ytmfncheimmcobaa

