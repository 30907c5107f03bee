/-
  The contracts of container/heap at the heap of lines: Init, Pop, Push.
-/
import Derived.Test.YtocbnpkdncnbgaaDoorDi
namespace Go.Proofs.YtocbnpkdncnbgaaDoor
set_option maxRecDepth 100000
open Go.RowKit

theorem HP.onward {L : PL} {n lo lo2 : Nat} (h : HP L n lo) (hl : lo ≤ lo2) : HP L n lo2 := fun k hk hkn h2 => h k hk hkn (by omega)
theorem pget_take {L : PL} {n k : Nat} (hk : k < n) : pget (L.take n) k = pget L k := by
  unfold pget; rw [List.getD_eq_getElem?_getD, List.getElem?_take_of_lt hk, ← List.getD_eq_getElem?_getD]
theorem pget_app {L M : PL} {k : Nat} (hk : k < L.length) : pget (L ++ M) k = pget L k := by
  unfold pget; rw [List.getD_eq_getElem?_getD, List.getElem?_append_left hk, ← List.getD_eq_getElem?_getD]
theorem take_last {L : PL} {n : Nat} (h : L.length = n + 1) : L = L.take n ++ [pget L n] := by
  rw [pget_elem (by omega)]
  conv => lhs; rw [← List.take_append_drop n L]
  rw [List.drop_eq_getElem_cons (by omega), List.drop_of_length_le (by omega)]

set_option maxHeartbeats 2000000 in
theorem init_lib {b g cap N : Nat} {L : PL} {w : World} (h : HS w b g cap L) (hN : L.length = N) (h6 : N ≤ 13) :
    Calls Tryd.prog 74 #[hpV b] w fun e w' => e = .returned (.tuple #[]) ∧ ∃ L', HS w' b g cap L' ∧ L'.Perm L ∧ HP L' N 0 ∧ Ch b g w w' := by
  have hP0 := Lib.hid (HP.start L N (lo := N / 2) (Nat.le_refl _))
  have mL := me_Len (h.at hN)
  have nL := na_Len ⟨b, 0, none⟩
  have i2 : (N : Int) / 2 = ((N / 2 : Nat) : Int) := by rw [Int.natCast_ediv]; rfl
  have i3 : (N : Int).tdiv 2 = ((N / 2 : Nat) : Int) := by rw [Int.tdiv_eq_ediv_of_nonneg (by omega)]; exact i2
  obtain ⟨k0, hk0⟩ : ∃ k, N / 2 = k := ⟨_, rfl⟩
  have hkN : k0 ≤ N := by omega
  rw [hk0] at i2 i3 hP0
  replace h := Lib.hid h
  replace hN := Lib.hid hN
  clear hk0
  go_enter Tryd.func74, Tryd.ntmps74
  go_wp2_with fail
  refine (len_line _ _ _ _).mono ?_
  rintro e w1 ⟨rfl, rfl⟩
  go_wp2_with fail
  go_loopw [3] (fun i wr => ∃ (k : Nat) (M : PL), k ≤ k0 ∧ i = .int .i64 ((k : Int) - 1) ∧ Hid (HP M N k) ∧ Hid (HS wr b g cap M) ∧ Hid (M.Perm L) ∧ Hid (Ch b g w wr)) (fun i _ => (intOf i + 1).toNat)
  case atStart => exact ⟨k0, L, Nat.le_refl _, by go_num, hP0, h, .refl _, Ch.refl _ _ _⟩
  case round =>
    clear hP0 h mL
    obtain ⟨k, M, hk, rfl, hH, hS, hP, hC⟩ := hrel
    have lM := Lib.hid (hP.out.length_eq.trans hN.out)
    by_cases hz : k = 0
    · subst hz
      clear lM
      go_wp2_with fail
      go_end0
      exact ⟨rfl, M, hS.out, hP.out, hH.out, hC.out⟩
    obtain ⟨m, rfl⟩ : ∃ m, k = m + 1 := ⟨k - 1, by omega⟩
    have e1 : (((m + 1 : Nat) : Int) - 1) = (m : Int) := by omega
    rw [e1]
    clear e1
    go_wp2_with fail
    refine (down_lib hS.out lM.out (lo := m) (n := N) (Nat.le_refl _) h6 (by omega) hH.out).mono ?_
    rintro e w2 ⟨⟨r, rfl⟩, M2, hS2, hP2, _, hH2, hC2⟩
    replace hS2 := Lib.hid hS2
    replace hH2 := Lib.hid hH2
    replace hP2 := Lib.hid (hP2.trans hP.out)
    replace hC2 := Lib.hid (hC.out.trans hC2)
    clear hS hH hP hC lM
    go_wp2_with fail
    exact ⟨⟨m, M2, by omega, by go_num, hH2, hS2, hP2, hC2⟩, by simp [intOf]⟩

set_option maxHeartbeats 2000000 in
theorem hpop_lib {b g cap n : Nat} {L : PL} {w : World} (h : HS w b g cap L) (hN : L.length = n + 1) (h6 : n + 1 ≤ 13) (hH : HP L (n + 1) 0) :
    Calls Tryd.prog 75 #[hpV b] w fun e w' => ∃ (x : Int × Int) (L' : PL), e = .returned (lnV x.1 x.2) ∧ HS w' b g cap L' ∧ (x :: L').Perm L ∧ (∀ p ∈ L, ¬ les p x) ∧ HP L' n 0 ∧ Ch b g w w' := by
  have hne : L ≠ [] := by intro e; rw [e] at hN; simp at hN
  have h0 : (0 : Nat) < L.length := by omega
  have hnL : n < L.length := by omega
  have gs := pswap_get (L := L) (i := 0) (j := n) h0 hnL
  have hmin : Hid (∀ p ∈ L, ¬ les p (pget L 0)) := fun p hp => by
    obtain ⟨k, hk, rfl⟩ := List.getElem_of_mem hp
    rw [← pget_elem hk]; exact hH.top k (by omega)
  have hH1 : Hid (HP (pswap L 0 n) n (0 + 1)) := (HP.less (HP.onward hH (Nat.zero_le 1)) (Nat.le_succ n)).same fun k hk hl => by rw [gs, if_neg (by omega), if_neg (by omega)]
  have hx : pget (pswap L 0 n) n = pget L 0 := by rw [gs, if_pos rfl]
  have hP1 := Lib.hid (pswap_perm h0 hnL)
  have lS : Hid ((pswap L 0 n).length = n + 1) := (pswap_len _ _ _).trans hN
  have mL := me_Len (h.at hN)
  have nL := na_Len ⟨b, 0, none⟩
  have nS := na_Swap ⟨b, 0, none⟩
  have nP := na_Pop ⟨b, 0, none⟩
  have mP := me_Pop ⟨b, 0, none⟩
  replace h := Lib.hid h
  replace hN := Lib.hid hN
  replace hx := Lib.hid hx
  have i1 : IntKind.i64.wrap (((n + 1 : Nat) : Int) - 1) = (n : Int) := by rw [IntKind.wrap_i64]; omega
  have i2 : wrap64 (((n + 1 : Nat) : Int) - 1) = (n : Int) := by unfold wrap64; omega
  have mS := me_Swap (h.out.at hN.out)
  clear gs hH hne hnL h0
  go_enter Tryd.func75, Tryd.ntmps75
  go_wp2_with fail
  refine (len_line _ _ _ _).mono ?_
  rintro e w1 ⟨rfl, rfl⟩
  go_wp2_with fail
  refine (swap_at h.out hN.out (p := 0) (q := n) (by omega) (by omega)).mono ?_
  rintro e w2 ⟨rfl, hS2, hC2⟩
  replace hS2 := Lib.hid hS2
  replace hC2 := Lib.hid hC2
  clear mL mS h
  go_wp2_with fail
  refine (down_lib hS2.out lS.out (lo := 0) (n := n) (by omega) h6 (by omega) hH1.out).mono ?_
  rintro e w3 ⟨⟨r, rfl⟩, M, hS3, hP3, hK3, hH3, hC3⟩
  have lM : M.length = n + 1 := hP3.length_eq.trans lS.out
  have hxM : pget M n = pget L 0 := (hK3 n (Nat.le_refl _)).trans hx.out
  have hPf := Lib.hid (hP3.trans hP1.out)
  have hHf : Hid (HP (M.take n) n 0) := hH3.same fun k hk _ => pget_take hk
  have hPx : Hid ((pget L 0 :: M.take n).Perm M) := by
    have e := (List.perm_append_singleton (pget M n) (M.take n)).symm
    rw [← take_last lM, hxM] at e
    exact e
  replace hS3 := Lib.hid hS3
  replace hC3 := Lib.hid (hC2.out.trans hC3)
  have cP := Lib.hid (pop_line hS3.out lM (by omega))
  rw [hxM] at cP
  clear hP3 hK3 hH3 hS2 hC2 lM hxM
  go_wp2_with fail
  refine cP.out.mono ?_
  rintro e w4 ⟨rfl, hS4, hC4⟩
  replace hS4 := Lib.hid hS4
  replace hC4 := Lib.hid (hC3.out.trans hC4)
  clear cP hS3 hC3
  go_wp2_with fail
  go_ret
  exact ⟨_, _, rfl, hS4.out, hPx.out.trans hPf.out, hmin.out, hHf.out, hC4.out⟩

set_option maxHeartbeats 2000000 in
theorem hpush_lib {b g cap N : Nat} {L : PL} {x y : Int} {w : World} (h : HS w b g cap L) (hN : L.length = N) (h6 : N + 1 ≤ 13) (hc : N + 1 ≤ cap) (hH : HP L N 0) :
    Calls Tryd.prog 76 #[hpV b, lnV x y] w fun e w' => e = .returned (.tuple #[]) ∧ ∃ L', HS w' b g cap L' ∧ L'.Perm ((x, y) :: L) ∧ HP L' (N + 1) 0 ∧ Ch b g w w' := by
  have hU : Hid (HU (L ++ [(x, y)]) (N + 1) N) := HU.start (hH.same fun k hk _ => pget_app (by omega))
  have hP : Hid ((L ++ [(x, y)]).Perm ((x, y) :: L)) := List.perm_append_singleton _ _
  have lA : Hid ((L ++ [(x, y)]).length = N + 1) := by show (L ++ [(x, y)]).length = N + 1; simp [hN]
  have nL := na_Len ⟨b, 0, none⟩
  have nP := na_Push ⟨b, 0, none⟩
  have mP := me_Push ⟨b, 0, none⟩
  have cP := Lib.hid (push_line (x := x) (y := y) h (by rw [hN]; exact hc))
  have i1 : IntKind.i64.wrap (((N + 1 : Nat) : Int) - 1) = (N : Int) := by rw [IntKind.wrap_i64]; omega
  have i2 : wrap64 (((N + 1 : Nat) : Int) - 1) = (N : Int) := by unfold wrap64; omega
  clear h hN hH
  go_enter Tryd.func76, Tryd.ntmps76
  go_wp2_with fail
  refine cP.out.mono ?_
  rintro e w1 ⟨rfl, hS1, hC1⟩
  have mL := me_Len (hS1.at lA.out)
  replace hS1 := Lib.hid hS1
  replace hC1 := Lib.hid hC1
  clear cP
  go_wp2_with fail
  refine (len_line _ _ _ _).mono ?_
  rintro e w2 ⟨rfl, rfl⟩
  go_wp2_with fail
  refine (up_lib hS1.out lA.out (j := N) (by omega) h6 hU.out).mono ?_
  rintro e w3 ⟨rfl, M, hS3, hP3, hH3, hC3⟩
  replace hS3 := Lib.hid hS3
  replace hC3 := Lib.hid (hC1.out.trans hC3)
  replace hP3 := Lib.hid (hP3.trans hP.out)
  replace hH3 := Lib.hid hH3
  clear hS1 hC1 mL
  go_wp2_with fail
  go_end0
  exact ⟨rfl, M, hS3.out, hP3.out, hH3.out, hC3.out⟩
end Go.Proofs.YtocbnpkdncnbgaaDoor

