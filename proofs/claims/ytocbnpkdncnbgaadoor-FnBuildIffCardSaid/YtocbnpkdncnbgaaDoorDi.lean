/-
  The contracts of container/heap at the heap of lines: down, up, Init, Pop, Push.
-/
import Derived.Test.YtocbnpkdncnbgaaDoorDh
namespace Go.Proofs.YtocbnpkdncnbgaaDoor
set_option maxRecDepth 100000
open Go.RowKit

theorem HS.at {w : World} {b g cap N : Nat} {M : PL} (h : HS w b g cap M) (hl : M.length = N) : w.cell? ⟨b, 0, none⟩ = some (.slice (some ⟨g, 0, none⟩) N cap) := by subst hl; exact h.box
theorem less_at {w : World} {b g cap N p q : Nat} {M : PL} (h : HS w b g cap M) (hl : M.length = N) (hp : p < N) (hq : q < N) :
    Calls Tryd.prog 123 #[.slice (some ⟨g, 0, none⟩) N cap, .int .i64 p, .int .i64 q] w fun e w' => e = .returned (.bool (decide (les (pget M p) (pget M q)))) ∧ Below w.heap.size w w' := by
  subst hl; exact less_line h.own hp hq
theorem swap_at {w : World} {b g cap N p q : Nat} {M : PL} (h : HS w b g cap M) (hl : M.length = N) (hp : p < N) (hq : q < N) :
    Calls Tryd.prog 126 #[.slice (some ⟨g, 0, none⟩) N cap, .int .i64 p, .int .i64 q] w fun e w' => e = .returned (.tuple #[]) ∧ HS w' b g cap (pswap M p q) ∧ Ch b g w w' := by
  subst hl; exact swap_line h hp hq
/-- What down leaves. -/
def DownQ (w : World) (b g cap lo n : Nat) (L : PL) (e : Ending) (w' : World) : Prop := (∃ r : Bool, e = .returned (.bool r)) ∧ ∃ L', HS w' b g cap L' ∧ L'.Perm L ∧ (∀ q, n ≤ q → pget L' q = pget L q) ∧ HP L' n lo ∧ Ch b g w w'
set_option maxHeartbeats 4000000 in
theorem down_lib {b g cap lo n N : Nat} {L : PL} {w : World} (h : HS w b g cap L) (hN : L.length = N) (hn : n ≤ N) (h6 : N ≤ 13) (hlo : lo ≤ 13) (hH : HP L n (lo + 1)) :
    Calls Tryd.prog 94 #[hpV b, .int .i64 lo, .int .i64 n] w (DownQ w b g cap lo n L) := by
  have hD0 := Lib.hid (HD.start hH)
  replace h := Lib.hid h
  replace hN := Lib.hid hN
  have nL := na_Less ⟨b, 0, none⟩
  have nS := na_Swap ⟨b, 0, none⟩
  clear hH
  go_enter Tryd.func94, Tryd.ntmps94
  go_wp2_with fail
  go_loopw [7] (fun i wr => ∃ (k : Nat) (M : PL), lo ≤ k ∧ (k = lo ∨ k < n) ∧ i = .int .i64 k ∧ Hid (HD M n lo k) ∧ Hid (HS wr b g cap M) ∧ Hid (M.Perm L) ∧ Hid (∀ q, n ≤ q → pget M q = pget L q) ∧ Hid (Ch b g w wr)) (fun i _ => n + lo + 1 - (intOf i).toNat)
  case atStart => exact ⟨lo, L, Nat.le_refl _, .inl rfl, rfl, hD0, h, .refl _, fun _ _ => rfl, Ch.refl _ _ _⟩
  case round =>
    clear hD0 h
    obtain ⟨k, M, hk1, hk2, rfl, hD, hS1, hP, hK, hC1⟩ := hrel
    have lM := Lib.hid (hP.out.length_eq.trans hN.out)
    have hk13 : k ≤ 13 := by omega
    by_cases hlt : 2 * k + 1 < n
    case neg =>
      have hE := Lib.hid (hD.out.leaf (by omega))
      clear hD lM
      go_wp2_with fail
      go_ret
      exact ⟨⟨_, rfl⟩, M, hS1.out, hP.out, hK.out, hE.out, hC1.out⟩
    by_cases hl2 : 2 * k + 1 + 1 < n
    case neg =>
      have hj : Hid (∀ q, 0 < q → q < n → (q - 1) / 2 = k → ¬ les (pget M q) (pget M (2 * k + 1))) := fun q h1 h2 h3 => by
        have : q = 2 * k + 1 := by omega
        subst this; exact les_irr
      by_cases hl2 : les (pget M (2 * k + 1)) (pget M k)
      case neg =>
        have hE := Lib.hid (hD.out.stop hj.out hl2)
        have cL2 := Lib.hid (less_at hS1.out lM.out (p := 2 * k + 1) (q := k) (by omega) (by omega))
        rw [decide_eq_false hl2] at cL2
        have mL2 := me_Less (hS1.out.at lM.out)
        clear hl2 hD
        go_wp2_with fail
        refine cL2.out.mono ?_
        rintro e w2 ⟨rfl, hb2⟩
        have hS2 := Lib.hid (hS1.out.bel hb2)
        have hC2 := Lib.hid (hC1.out.trans (Ch.of hb2))
        clear hb2 mL2 cL2 hS1 hC1
        go_wp2_with fail
        go_ret
        exact ⟨⟨_, rfl⟩, M, hS2.out, hP.out, hK.out, hE.out, hC2.out⟩
      have hD2 := Lib.hid (hD.out.step (by omega) (Nat.le_trans hn (Nat.le_of_eq lM.out.symm)) (j := 2 * k + 1) (by omega) (by omega) (by omega) hj.out hl2)
      have cL2 := Lib.hid (less_at hS1.out lM.out (p := 2 * k + 1) (q := k) (by omega) (by omega))
      rw [decide_eq_true hl2] at cL2
      have mL2 := me_Less (hS1.out.at lM.out)
      clear hl2 hD
      go_wp2_with fail
      refine cL2.out.mono ?_
      rintro e w2 ⟨rfl, hb2⟩
      have hS2 := Lib.hid (hS1.out.bel hb2)
      have hC2 := Lib.hid (hC1.out.trans (Ch.of hb2))
      have mS2 := me_Swap (hS2.out.at lM.out)
      clear hb2 mL2 cL2 hS1 hC1
      go_wp2_with fail
      refine (swap_at hS2.out lM.out (p := k) (q := 2 * k + 1) (by omega) (by omega)).mono ?_
      rintro e w3 ⟨rfl, hS3, hC3⟩
      replace hS3 := Lib.hid hS3
      replace hC3 := Lib.hid (hC2.out.trans hC3)
      have hkM : k < M.length := by rw [lM.out]; omega
      have hjM : 2 * k + 1 < M.length := by rw [lM.out]; omega
      have hP3 := Lib.hid ((pswap_perm (L := M) (i := k) (j := 2 * k + 1) hkM hjM).trans hP.out)
      have hK3 : Hid (∀ q, n ≤ q → pget (pswap M k (2 * k + 1)) q = pget L q) := fun q hq => by rw [pswap_get hkM hjM, if_neg (by omega), if_neg (by omega)]; exact hK.out q hq
      clear mS2 hS2 hC2 hP hK hkM hjM lM
      go_wp2_with fail
      exact ⟨⟨2 * k + 1, _, by omega, by omega, by go_num, hD2, hS3, hP3, hK3, hC3⟩, by simp [intOf]; omega⟩
    by_cases hle : les (pget M (2 * k + 1 + 1)) (pget M (2 * k + 1))
    case neg =>
      have hj : Hid (∀ q, 0 < q → q < n → (q - 1) / 2 = k → ¬ les (pget M q) (pget M (2 * k + 1))) := fun q h1 h2 h3 => by
        by_cases e : q = 2 * k + 1
        · subst e; exact les_irr
        · have : q = 2 * k + 1 + 1 := by omega
          subst this; exact hle
      have cL1 := Lib.hid (less_at hS1.out lM.out (p := 2 * k + 1 + 1) (q := 2 * k + 1) (by omega) (by omega))
      rw [decide_eq_false hle] at cL1
      have mL1 := me_Less (hS1.out.at lM.out)
      clear hle
      go_wp2_with fail
      refine cL1.out.mono ?_
      rintro e w1 ⟨rfl, hb1⟩
      replace hS1 := Lib.hid (hS1.out.bel hb1)
      replace hC1 := Lib.hid (hC1.out.trans (Ch.of hb1))
      clear hb1 mL1 cL1
      by_cases hl2 : les (pget M (2 * k + 1)) (pget M k)
      case neg =>
        have hE := Lib.hid (hD.out.stop hj.out hl2)
        have cL2 := Lib.hid (less_at hS1.out lM.out (p := 2 * k + 1) (q := k) (by omega) (by omega))
        rw [decide_eq_false hl2] at cL2
        have mL2 := me_Less (hS1.out.at lM.out)
        clear hl2 hD
        go_wp2_with fail
        refine cL2.out.mono ?_
        rintro e w2 ⟨rfl, hb2⟩
        have hS2 := Lib.hid (hS1.out.bel hb2)
        have hC2 := Lib.hid (hC1.out.trans (Ch.of hb2))
        clear hb2 mL2 cL2 hS1 hC1
        go_wp2_with fail
        go_ret
        exact ⟨⟨_, rfl⟩, M, hS2.out, hP.out, hK.out, hE.out, hC2.out⟩
      have hD2 := Lib.hid (hD.out.step (by omega) (Nat.le_trans hn (Nat.le_of_eq lM.out.symm)) (j := 2 * k + 1) (by omega) (by omega) (by omega) hj.out hl2)
      have cL2 := Lib.hid (less_at hS1.out lM.out (p := 2 * k + 1) (q := k) (by omega) (by omega))
      rw [decide_eq_true hl2] at cL2
      have mL2 := me_Less (hS1.out.at lM.out)
      clear hl2 hD
      go_wp2_with fail
      refine cL2.out.mono ?_
      rintro e w2 ⟨rfl, hb2⟩
      have hS2 := Lib.hid (hS1.out.bel hb2)
      have hC2 := Lib.hid (hC1.out.trans (Ch.of hb2))
      have mS2 := me_Swap (hS2.out.at lM.out)
      clear hb2 mL2 cL2 hS1 hC1
      go_wp2_with fail
      refine (swap_at hS2.out lM.out (p := k) (q := 2 * k + 1) (by omega) (by omega)).mono ?_
      rintro e w3 ⟨rfl, hS3, hC3⟩
      replace hS3 := Lib.hid hS3
      replace hC3 := Lib.hid (hC2.out.trans hC3)
      have hkM : k < M.length := by rw [lM.out]; omega
      have hjM : 2 * k + 1 < M.length := by rw [lM.out]; omega
      have hP3 := Lib.hid ((pswap_perm (L := M) (i := k) (j := 2 * k + 1) hkM hjM).trans hP.out)
      have hK3 : Hid (∀ q, n ≤ q → pget (pswap M k (2 * k + 1)) q = pget L q) := fun q hq => by rw [pswap_get hkM hjM, if_neg (by omega), if_neg (by omega)]; exact hK.out q hq
      clear mS2 hS2 hC2 hP hK hkM hjM lM
      go_wp2_with fail
      exact ⟨⟨2 * k + 1, _, by omega, by omega, by go_num, hD2, hS3, hP3, hK3, hC3⟩, by simp [intOf]; omega⟩
    have hj : Hid (∀ q, 0 < q → q < n → (q - 1) / 2 = k → ¬ les (pget M q) (pget M (2 * k + 1 + 1))) := fun q h1 h2 h3 => by
      by_cases e : q = 2 * k + 1
      · subst e; exact les_asym hle
      · have : q = 2 * k + 1 + 1 := by omega
        subst this; exact les_irr
    have cL1 := Lib.hid (less_at hS1.out lM.out (p := 2 * k + 1 + 1) (q := 2 * k + 1) (by omega) (by omega))
    rw [decide_eq_true hle] at cL1
    have mL1 := me_Less (hS1.out.at lM.out)
    clear hle
    go_wp2_with fail
    refine cL1.out.mono ?_
    rintro e w1 ⟨rfl, hb1⟩
    replace hS1 := Lib.hid (hS1.out.bel hb1)
    replace hC1 := Lib.hid (hC1.out.trans (Ch.of hb1))
    clear hb1 mL1 cL1
    by_cases hl2 : les (pget M (2 * k + 1 + 1)) (pget M k)
    case neg =>
      have hE := Lib.hid (hD.out.stop hj.out hl2)
      have cL2 := Lib.hid (less_at hS1.out lM.out (p := 2 * k + 1 + 1) (q := k) (by omega) (by omega))
      rw [decide_eq_false hl2] at cL2
      have mL2 := me_Less (hS1.out.at lM.out)
      clear hl2 hD
      go_wp2_with fail
      refine cL2.out.mono ?_
      rintro e w2 ⟨rfl, hb2⟩
      have hS2 := Lib.hid (hS1.out.bel hb2)
      have hC2 := Lib.hid (hC1.out.trans (Ch.of hb2))
      clear hb2 mL2 cL2 hS1 hC1
      go_wp2_with fail
      go_ret
      exact ⟨⟨_, rfl⟩, M, hS2.out, hP.out, hK.out, hE.out, hC2.out⟩
    have hD2 := Lib.hid (hD.out.step (by omega) (Nat.le_trans hn (Nat.le_of_eq lM.out.symm)) (j := 2 * k + 1 + 1) (by omega) (by omega) (by omega) hj.out hl2)
    have cL2 := Lib.hid (less_at hS1.out lM.out (p := 2 * k + 1 + 1) (q := k) (by omega) (by omega))
    rw [decide_eq_true hl2] at cL2
    have mL2 := me_Less (hS1.out.at lM.out)
    clear hl2 hD
    go_wp2_with fail
    refine cL2.out.mono ?_
    rintro e w2 ⟨rfl, hb2⟩
    have hS2 := Lib.hid (hS1.out.bel hb2)
    have hC2 := Lib.hid (hC1.out.trans (Ch.of hb2))
    have mS2 := me_Swap (hS2.out.at lM.out)
    clear hb2 mL2 cL2 hS1 hC1
    go_wp2_with fail
    refine (swap_at hS2.out lM.out (p := k) (q := 2 * k + 1 + 1) (by omega) (by omega)).mono ?_
    rintro e w3 ⟨rfl, hS3, hC3⟩
    replace hS3 := Lib.hid hS3
    replace hC3 := Lib.hid (hC2.out.trans hC3)
    have hkM : k < M.length := by rw [lM.out]; omega
    have hjM : 2 * k + 1 + 1 < M.length := by rw [lM.out]; omega
    have hP3 := Lib.hid ((pswap_perm (L := M) (i := k) (j := 2 * k + 1 + 1) hkM hjM).trans hP.out)
    have hK3 : Hid (∀ q, n ≤ q → pget (pswap M k (2 * k + 1 + 1)) q = pget L q) := fun q hq => by rw [pswap_get hkM hjM, if_neg (by omega), if_neg (by omega)]; exact hK.out q hq
    clear mS2 hS2 hC2 hP hK hkM hjM lM
    go_wp2_with fail
    exact ⟨⟨2 * k + 1 + 1, _, by omega, by omega, by go_num, hD2, hS3, hP3, hK3, hC3⟩, by simp [intOf]; omega⟩
set_option maxHeartbeats 4000000 in
theorem up_lib {b g cap j N : Nat} {L : PL} {w : World} (h : HS w b g cap L) (hN : L.length = N) (hj : j < N) (h6 : N ≤ 13) (hH : HU L N j) :
    Calls Tryd.prog 95 #[hpV b, .int .i64 j] w fun e w' => e = .returned (.tuple #[]) ∧ ∃ L', HS w' b g cap L' ∧ L'.Perm L ∧ HP L' N 0 ∧ Ch b g w w' := by
  replace hH := Lib.hid hH
  replace h := Lib.hid h
  replace hN := Lib.hid hN
  have nL := na_Less ⟨b, 0, none⟩
  have nS := na_Swap ⟨b, 0, none⟩
  go_enter Tryd.func95, Tryd.ntmps95
  go_wp2_with fail
  go_loopw [1] (fun i wr => ∃ (k : Nat) (M : PL), k < N ∧ i = .int .i64 k ∧ Hid (HU M N k) ∧ Hid (HS wr b g cap M) ∧ Hid (M.Perm L) ∧ Hid (Ch b g w wr)) (fun i _ => (intOf i).toNat)
  case atStart => exact ⟨j, L, hj, rfl, hH, h, .refl _, Ch.refl _ _ _⟩
  case round =>
    clear hH h
    obtain ⟨k, M, hk, rfl, hU, hS1, hP, hC1⟩ := hrel
    have lM := Lib.hid (hP.out.length_eq.trans hN.out)
    by_cases hk0 : k = 0
    · subst hk0
      have hE := Lib.hid hU.out.root
      clear hU lM
      go_wp2_with fail
      go_end0
      exact ⟨rfl, M, hS1.out, hP.out, hE.out, hC1.out⟩
    obtain ⟨m, rfl⟩ : ∃ m, k = m + 1 := ⟨k - 1, by omega⟩
    have i1 : IntKind.i64.wrap (((m + 1 : Nat) : Int) - 1) = (m : Int) := by rw [IntKind.wrap_i64]; omega
    have i1' : wrap64 (((m + 1 : Nat) : Int) - 1) = (m : Int) := by unfold wrap64; omega
    have i2 : (m : Int) / 2 = ((m / 2 : Nat) : Int) := by rw [Int.natCast_ediv]; rfl
    have i3 : (m : Int).tdiv 2 = ((m / 2 : Nat) : Int) := by rw [Int.tdiv_eq_ediv_of_nonneg (by omega)]; exact i2
    have hne : (((m / 2 : Nat) : Int) == ((m + 1 : Nat) : Int)) = false := by simp; omega
    obtain ⟨q, hq⟩ : ∃ q, m / 2 = q := ⟨_, rfl⟩
    have hqm : q ≤ m := by omega
    have hq2 : (m + 1 - 1) / 2 = q := by omega
    rw [hq] at i2 i3 hne
    replace hq := Lib.hid hq
    replace hq2 := Lib.hid hq2
    by_cases hl2 : les (pget M (m + 1)) (pget M q)
    case neg =>
      have hE := hU.out.stop (by rw [hq2.out]; exact hl2)
      replace hE := Lib.hid hE
      have cL2 := Lib.hid (less_at hS1.out lM.out (p := m + 1) (q := q) (by omega) (by omega))
      rw [decide_eq_false hl2] at cL2
      have mL2 := me_Less (hS1.out.at lM.out)
      clear hl2 hU
      go_wp2_with fail
      refine cL2.out.mono ?_
      rintro e w2 ⟨rfl, hb2⟩
      have hS2 := Lib.hid (hS1.out.bel hb2)
      have hC2 := Lib.hid (hC1.out.trans (Ch.of hb2))
      clear hb2 mL2 cL2 hS1 hC1
      go_wp2_with fail
      go_end0
      exact ⟨rfl, M, hS2.out, hP.out, hE.out, hC2.out⟩
    have hU2 := hU.out.step (Nat.le_of_eq lM.out.symm) (by omega) hk (by rw [hq2.out]; exact hl2)
    rw [hq2.out] at hU2
    replace hU2 := Lib.hid hU2
    have cL2 := Lib.hid (less_at hS1.out lM.out (p := m + 1) (q := q) (by omega) (by omega))
    rw [decide_eq_true hl2] at cL2
    have mL2 := me_Less (hS1.out.at lM.out)
    clear hl2 hU
    go_wp2_with fail
    refine cL2.out.mono ?_
    rintro e w2 ⟨rfl, hb2⟩
    have hS2 := Lib.hid (hS1.out.bel hb2)
    have hC2 := Lib.hid (hC1.out.trans (Ch.of hb2))
    have mS2 := me_Swap (hS2.out.at lM.out)
    clear hb2 mL2 cL2 hS1 hC1
    go_wp2_with fail
    refine (swap_at hS2.out lM.out (p := q) (q := m + 1) (by omega) (by omega)).mono ?_
    rintro e w3 ⟨rfl, hS3, hC3⟩
    replace hS3 := Lib.hid hS3
    replace hC3 := Lib.hid (hC2.out.trans hC3)
    have hP3 := Lib.hid ((pswap_perm (L := M) (i := q) (j := m + 1) (by rw [lM.out]; omega) (by rw [lM.out]; omega)).trans hP.out)
    clear mS2 hS2 hC2 hP lM
    go_wp2_with fail
    exact ⟨⟨q, _, by omega, by go_num, hU2, hS3, hP3, hC3⟩, by simp [intOf]; omega⟩
end Go.Proofs.YtocbnpkdncnbgaaDoor

