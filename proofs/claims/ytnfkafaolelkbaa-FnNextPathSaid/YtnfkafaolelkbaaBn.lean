/-
  Ranks: ImageRank, ImageNth, ImageNext of both sides in the laws' forms.
-/
import Derived.Test.YtnfkafaolelkbaaBj
import Derived.Test.YtnfkafaolelkbaaJv
import Derived.Test.YtnfkafaolelkbaaEp
namespace Go.Proofs.Ytnfkafaolelkbaa
set_option maxRecDepth 100000
open Go.RowKit

theorem rk_ok {V : Int} {n : Nat} {xs : List Int} {K : Int} (h : rkO V xs = K) (hn : n ≤ 6) (s : Option Addr) (cg : Nat) (w : World) (hR : Row w s n xs) :
    Calls Try.prog 25 #[.agg #[.int .i64 V, .slice s n cg]] w fun e w' => e = .returned (.int .i64 K) ∧ Below w.heap.size w w' := by
  rw [← h]; exact rank_impl V s n cg xs w hR (by omega)
theorem rk_sok {V : Int} {n : Nat} {xs : List Int} {K : Int} (h : rkO V xs = K) (hn : n ≤ 6) (s : Option Addr) (cg : Nat) (w : World) (hR : Row w s n xs) :
    Calls Try.prog 26 #[.agg #[.int .i64 V, .slice s n cg]] w fun e w' => e = .returned (.int .i64 K) ∧ Below w.heap.size w w' := by
  rw [← h]; exact rank_spec V s n cg xs w hR (by omega)
/-- ImageNth where it succeeds, and where it fails. -/
theorem nt_ok {R C L : List Int} {k n m : Nat} {N : Int} (hN : N = k) (hc : ctdB R C = true) (hk : (k : Int) < cntS R C) (hL : nthS R C k = L) (hm : C.length = m) (hn : R.length = n) (s : Option Addr) (c : Nat) (s' : Option Addr) (c' : Nat) (w : World) (hR : Row w s n R) (hC : Row w s' m C) (h13 : n ≤ 13) (h13' : m ≤ 13) :
    Calls Try.prog 29 #[.slice s n c, .slice s' m c', .int .i64 N] w (GivesI w m n L) := by
  subst hN
  have h := nth_impl s n c s' m c' R C (k : Int) w hR hC (by omega) (by omega)
  rw [(nto_yes (by omega) (by rw [sco_yes hc]; exact hk)).2.2, Int.toNat_natCast, hL, hm] at h
  exact h.mono fun _ _ hh => hh.ok (by rw [← hL, nth_len hk, hn])
theorem nt_sok {R C L : List Int} {k n m : Nat} {N : Int} (hN : N = k) (hc : ctdB R C = true) (hk : (k : Int) < cntS R C) (hL : nthS R C k = L) (hm : C.length = m) (hn : R.length = n) (s : Option Addr) (c : Nat) (s' : Option Addr) (c' : Nat) (w : World) (hR : Row w s n R) (hC : Row w s' m C) (h13 : n ≤ 13) (h13' : m ≤ 13) (hcap : n ≤ c) :
    Calls Try.prog 33 #[.slice s n c, .slice s' m c', .int .i64 N] w (GivesI w m n L) := by
  subst hN
  have h := nth_spec s n c s' m c' R C (k : Int) w hR hC (by omega) (by omega) hcap
  rw [(nto_yes (by omega) (by rw [sco_yes hc]; exact hk)).2.2, Int.toNat_natCast, hL, hm] at h
  exact h.mono fun _ _ hh => hh.ok (by rw [← hL, nth_len hk, hn])
theorem nt_no {R C : List Int} {n m : Nat} {N : Int} (hN : N < 0 ∨ scO R C ≤ N) (s : Option Addr) (c : Nat) (s' : Option Addr) (c' : Nat) (w : World) (hR : Row w s n R) (hC : Row w s' m C) (h13 : n ≤ 13) (h13' : m ≤ 13) :
    Calls Try.prog 29 #[.slice s n c, .slice s' m c', .int .i64 N] w (GivesN w) := by
  have h := nth_impl s n c s' m c' R C N w hR hC (by omega) (by omega)
  rw [nto_no hN] at h
  exact h
theorem nt_sno {R C : List Int} {n m : Nat} {N : Int} (hN : N < 0 ∨ scO R C ≤ N) (s : Option Addr) (c : Nat) (s' : Option Addr) (c' : Nat) (w : World) (hR : Row w s n R) (hC : Row w s' m C) (h13 : n ≤ 13) (h13' : m ≤ 13) (hcap : n ≤ c) :
    Calls Try.prog 33 #[.slice s n c, .slice s' m c', .int .i64 N] w (GivesN w) := by
  have h := nth_spec s n c s' m c' R C N w hR hC (by omega) (by omega) hcap
  rw [nto_no hN] at h
  exact h
/-- An image that is ranked. -/
theorem rko_ways {V : Int} {n : Nat} {xs : List Int} (hl : xs.length = n) : rkO V xs = -1 ∨ ∃ W k : Nat, V = W ∧ Im W n xs ∧ ctdB (rsL xs W n) (csL xs n W) = true ∧ rkO V xs = k ∧ rnkS (rsL xs W n) (csL xs n W) xs = k ∧ (k : Int) < cntS (rsL xs W n) (csL xs n W) ∧ nthS (rsL xs W n) (csL xs n W) k = xs := by
  by_cases hc : ctdB (rsOut V xs) (csOut V xs) = true
  · right
    obtain ⟨W, rfl, hI, e1, e2, h16, e3⟩ := rko_yes hl hc
    rw [e1, e2] at hc
    obtain ⟨k, a, b, c⟩ := rnk_nth (im_alls hI)
    exact ⟨W, k, rfl, hI, hc, e3.trans a, a, b, c⟩
  · exact .inl (rko_no (by simpa using hc))
theorem rko_im {W n : Nat} {xs : List Int} (hI : Im W n xs) (h16 : n * W ≤ 16) : rkO W xs = rnkS (rsL xs W n) (csL xs n W) xs := by
  have hc : ctdB (rsOut W xs) (csOut W xs) = true := by
    rw [hI.rs, hI.cs]
    exact ctdB_of hI.sumsV (by rw [rs_len, cs_len]; exact h16)
  obtain ⟨W', e0, _, _, _, _, e3⟩ := rko_yes hI.hl hc
  obtain rfl : W = W' := by omega
  exact e3
theorem nx_im {W n : Nat} {xs : List Int} (hI : Im W n xs) : nxO W xs = nthO (rsL xs W n) (csL xs n W) (rkO W xs + 1) := by
  unfold nxO; rw [hI.rs, hI.cs]
/-- ImageNext where it succeeds, and where it fails. -/
theorem nx_ok {W n k : Nat} {xs L : List Int} (hI : Im W n xs) (hc : ctdB (rsL xs W n) (csL xs n W) = true) (hr : rkO W xs = k) (hk : ((k + 1 : Nat) : Int) < cntS (rsL xs W n) (csL xs n W)) (hL : nthS (rsL xs W n) (csL xs n W) (k + 1) = L) (s : Option Addr) (cg : Nat) (w : World) (hR : Row w s n xs) :
    Calls Try.prog 36 #[.agg #[.int .i64 W, .slice s n cg]] w (GivesI w W n L) := by
  have h := next_impl W s n cg xs w hR (by have := hI.l6; omega)
  rw [nx_im hI, hr, show (k : Int) + 1 = ((k + 1 : Nat) : Int) from rfl, (nto_yes (by omega) (by rw [sco_yes hc]; exact hk)).2.2, Int.toNat_natCast, hL, cs_len] at h
  exact h.mono fun _ _ hh => hh.ok (by rw [← hL, nth_len hk, rs_len])
theorem nx_sok {W n k : Nat} {xs L : List Int} (hI : Im W n xs) (hc : ctdB (rsL xs W n) (csL xs n W) = true) (hr : rkO W xs = k) (hk : ((k + 1 : Nat) : Int) < cntS (rsL xs W n) (csL xs n W)) (hL : nthS (rsL xs W n) (csL xs n W) (k + 1) = L) (s : Option Addr) (cg : Nat) (w : World) (hR : Row w s n xs) :
    Calls Try.prog 37 #[.agg #[.int .i64 W, .slice s n cg]] w (GivesI w W n L) := by
  have h := next_spec W s n cg xs w hR (by have := hI.l6; omega)
  rw [nx_im hI, hr, show (k : Int) + 1 = ((k + 1 : Nat) : Int) from rfl, (nto_yes (by omega) (by rw [sco_yes hc]; exact hk)).2.2, Int.toNat_natCast, hL, cs_len] at h
  exact h.mono fun _ _ hh => hh.ok (by rw [← hL, nth_len hk, rs_len])
theorem nxo_last {W n k : Nat} {xs : List Int} (hI : Im W n xs) (hc : ctdB (rsL xs W n) (csL xs n W) = true) (hr : rkO W xs = k) (hk : cntS (rsL xs W n) (csL xs n W) ≤ ((k + 1 : Nat) : Int)) : nxO W xs = .no := by
  rw [nx_im hI, hr]
  exact nto_no (.inr (by rw [sco_yes hc]; exact hk))
theorem nx_no {V : Int} {n : Nat} {xs : List Int} (h0 : nxO V xs = .no) (hn : n ≤ 6) (s : Option Addr) (cg : Nat) (w : World) (hR : Row w s n xs) :
    Calls Try.prog 36 #[.agg #[.int .i64 V, .slice s n cg]] w (GivesN w) := by
  have h := next_impl V s n cg xs w hR (by omega)
  rw [h0] at h
  exact h
theorem nx_sno {V : Int} {n : Nat} {xs : List Int} (h0 : nxO V xs = .no) (hn : n ≤ 6) (s : Option Addr) (cg : Nat) (w : World) (hR : Row w s n xs) :
    Calls Try.prog 37 #[.agg #[.int .i64 V, .slice s n cg]] w (GivesN w) := by
  have h := next_spec V s n cg xs w hR (by omega)
  rw [h0] at h
  exact h
/-- An image has a next one, or ImageNext fails. -/
theorem nx_ways {V : Int} {n : Nat} {xs : List Int} (hl : xs.length = n) : nxO V xs = .no ∨ ∃ W k : Nat, V = W ∧ Im W n xs ∧ ctdB (rsL xs W n) (csL xs n W) = true ∧ rkO V xs = k ∧ rnkS (rsL xs W n) (csL xs n W) xs = k ∧ ((k + 1 : Nat) : Int) < cntS (rsL xs W n) (csL xs n W) ∧ nthS (rsL xs W n) (csL xs n W) k = xs := by
  rcases rko_ways (V := V) hl with h | ⟨W, k, rfl, hI, hc, h1, h2, h3, h4⟩
  · exact .inl (nxo_neg (by omega))
  · by_cases hk : ((k + 1 : Nat) : Int) < cntS (rsL xs W n) (csL xs n W)
    · exact .inr ⟨W, k, rfl, hI, hc, h1, h2, hk, h4⟩
    · exact .inl (nxo_last hI hc h1 (by omega))
end Go.Proofs.Ytnfkafaolelkbaa

