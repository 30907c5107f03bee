/-
  For every slice of bytes the law FnCellSum answers true: the cells of a row are set as often as its sum tells, and so are the cells of a column; nothing that was there is written; no condition.
-/
import Derived.Test.YtmfncheimmcobaaO
import Derived.Test.YtmfncheimmcobaaK
import Derived.Deep.RegionLaw
import Derived.Test.YtmfncheimmcobaaYb
import Derived.Test.YtmfncheimmcobaaYd
namespace Go.Proofs.Ytmfncheimmcobaa.LFCellSum
open Go.ChangeShapes Go.WideShapes Go.ChangeAt Go.RowKit Go.Joins

theorem sumI_bd36 {f : Nat → Int} (h : ∀ k, 0 ≤ f k ∧ f k ≤ 68719476736) : ∀ n : Nat, 0 ≤ sumI f n ∧ sumI f n ≤ (n : Int) * 68719476736
  | 0 => ⟨Int.le_refl _, by simp [sumI]⟩
  | n + 1 => by
    have h1 := sumI_bd36 h n
    have h2 := h n
    have h3 : sumI f (n + 1) = sumI f n + f n := rfl
    rw [h3]
    omega
theorem mul36 {a N : Int} (h0 : 0 ≤ a) (h6 : a ≤ 36) (n0 : 0 ≤ N) (n1 : N ≤ 68719476736) : wrap64 (a * N) = a * N := by
  have h1 : 0 ≤ a * N := Int.mul_nonneg h0 n0
  have h2 : a * N ≤ 36 * N := Int.mul_le_mul_of_nonneg_right h6 n0
  exact IntWalk.wrap64_in _ ⟨by omega, by omega⟩

set_option maxHeartbeats 2000000 in
set_option maxRecDepth 100000 in
theorem walk (a : Option Addr) (len cap : Nat) (zs : List Int) (w : World) (h : Bys w a len zs) (hl : len ≤ cap) (hm : cap ≤ 9223372036854775807) :
    Calls Try.prog 7 #[.slice a len cap] w fun e w' => e = .returned (.bool true) ∧ Below w.heap.size w w' := by
  by_cases hbig : 1048576 < len
  · clear h
    go_enter Try.func7, Try.ntmps7
    go_wp2_with fail
    go_ret
    exact ⟨rfl, Below.refl _ _⟩
  go_enter Try.func7, Try.ntmps7
  go_wp2_with fail
  refine (draw_DrawCellCount a len cap zs _ h hl hm).mono ?_
  rintro e w1 ⟨aR, n, cR, xs, aC, m, cC, ys, i, j, rfl, hR, hC, hnm, hcap, hij, hb1⟩
  clear h hl hm
  have bb := Lib.hid hb1
  have p := Lib.hid hR.row
  have q := Lib.hid hC.row
  have lx := hR.len
  have ly := hC.len
  have hn13 : n ≤ 13 := by omega
  have hm13 : m ≤ 13 := by omega
  clear hR hC hb1
  obtain ⟨D, hD⟩ : ∃ D, ccO xs ys i j = D := ⟨_, rfl⟩
  go_wp2_with fail
  refine (cc_ok hD _ _ _ _ _ p.out q.out hn13 hm13).mono ?_
  rintro e w2 ⟨rfl, hb⟩
  have szw2 := hb.size
  replace p := Lib.hid (p.out.bel hb)
  replace q := Lib.hid (q.out.bel hb)
  replace bb := Lib.hid (bb.out.trans (hb.mono bb.out.size))
  clear hb
  go_wp2_with fail
  refine (cc_sok hD _ _ _ _ _ p.out q.out hn13 hm13 hcap.1).mono ?_
  rintro e w3 ⟨rfl, hb⟩
  have szw3 := hb.size
  replace p := Lib.hid (p.out.bel hb)
  replace q := Lib.hid (q.out.bel hb)
  replace bb := Lib.hid (bb.out.trans (hb.mono bb.out.size))
  clear hb
  by_cases hall : ctdB xs ys = true ∧ (0 ≤ i ∧ i < xs.length) ∧ (0 ≤ j ∧ j < ys.length)
  case neg =>
    obtain rfl : D = -1 := by rw [← hD]; exact cco_no hall
    replace hall := Lib.hid hall
    go_wp2_with fail
    go_ret
    exact ⟨rfl, bb.out⟩
  obtain ⟨hct, ⟨hi0, hi1⟩, hj0, hj1⟩ := hall
  obtain ⟨i, rfl⟩ := Int.eq_ofNat_of_zero_le hi0
  obtain ⟨j, rfl⟩ := Int.eq_ofNat_of_zero_le hj0
  rw [lx] at hi1
  rw [ly] at hj1
  have hi : i < n := by omega
  have hj : j < m := by omega
  obtain ⟨N, hN⟩ : ∃ N, scO xs ys = N := ⟨_, rfl⟩
  have hv := (ctdB_parts hct).1
  have h16 := (ctdB_parts hct).2
  rw [lx, ly] at h16
  have hp := sumsB_parts hv
  rw [lx, ly] at hp
  have hn1 := hp.1.1
  have hn6 := hp.1.2
  have hm1 := hp.2.1.1
  have hm6 := hp.2.1.2
  have bx := Lib.hid hp.2.2.1
  have by' := Lib.hid hp.2.2.2
  have hex := Lib.hid (sums_el hv).1
  have hey := Lib.hid (sums_el hv).2
  clear hp
  have hNc : cntS xs ys = N := (sco_yes hct).symm.trans hN
  have hNb := sco_bd hct
  rw [hNc] at hNb
  have hN0 : ¬ N < 0 := by omega
  have hDc : cntC xs ys i j = D := (cco_yes hct (by omega) (by omega)).symm.trans hD
  have hD0 : ¬ D < 0 := by have := cell_nn xs ys i j; omega
  have hDN : D ≤ N := by have := cell_le xs ys i j; omega
  clear hi0 hj0 hij
  obtain ⟨F, hF⟩ : ∃ f : Nat → Int, (fun k => cntC xs ys i k) = f := ⟨_, rfl⟩
  have hFb : Hid (∀ k, 0 ≤ F k ∧ F k ≤ 68719476736) := Lib.hid fun k => by
    rw [← hF]
    have h1 : 0 ≤ cntC xs ys i k := cell_nn ..
    have h2 : cntC xs ys i k ≤ cntS xs ys := cell_le ..
    rw [hNc] at h2
    exact (show 0 ≤ cntC xs ys i k ∧ cntC xs ys i k ≤ 68719476736 from ⟨h1, by omega⟩)
  have hFs : Hid (∀ k, 0 ≤ sumI F k ∧ sumI F k ≤ (k : Int) * 68719476736) := Lib.hid (sumI_bd36 hFb.out)
  have hFc : Hid (∀ k : Nat, k < m → ccO xs ys i k = F k) := Lib.hid fun k hk => by rw [← hF]; exact cco_yes hct (by omega) (by omega)
  obtain ⟨G, hG⟩ : ∃ f : Nat → Int, (fun k => cntC xs ys k j) = f := ⟨_, rfl⟩
  have hGb : Hid (∀ k, 0 ≤ G k ∧ G k ≤ 68719476736) := Lib.hid fun k => by
    rw [← hG]
    have h1 : 0 ≤ cntC xs ys k j := cell_nn ..
    have h2 : cntC xs ys k j ≤ cntS xs ys := cell_le ..
    rw [hNc] at h2
    exact (show 0 ≤ cntC xs ys k j ∧ cntC xs ys k j ≤ 68719476736 from ⟨h1, by omega⟩)
  have hGs : Hid (∀ k, 0 ≤ sumI G k ∧ sumI G k ≤ (k : Int) * 68719476736) := Lib.hid (sumI_bd36 hGb.out)
  have hGc : Hid (∀ k : Nat, k < n → ccO xs ys k j = G k) := Lib.hid fun k hk => by rw [← hG]; exact cco_yes hct (by omega) (by omega)
  have eF : sumI F m = xs.getD i 0 * N := by rw [← hF, ← ly, cell_row (by omega), hNc]
  have eG : sumI G n = ys.getD j 0 * N := by rw [← hG, ← lx, cell_col (by omega), hNc]
  have bi := bx.out i hi
  have bj := by'.out j hj
  obtain ⟨u, hu⟩ : ∃ u, xs.getD i 0 = u := ⟨_, rfl⟩
  obtain ⟨v, hv1⟩ : ∃ v, ys.getD j 0 = v := ⟨_, rfl⟩
  rw [hu] at bi eF
  rw [hv1] at bj eG
  have iu : wrap64 (u * N) = u * N := mul36 (by omega) (by omega) (by omega) (by omega)
  have iv : wrap64 (v * N) = v * N := mul36 (by omega) (by omega) (by omega) (by omega)
  obtain ⟨X, hX⟩ : ∃ X, u * N = X := ⟨_, rfl⟩
  obtain ⟨Z, hZ⟩ : ∃ Z, v * N = Z := ⟨_, rfl⟩
  have tD : decide (D ≤ N) = true := decide_eq_true hDN
  rw [hX] at eF
  replace iu := iu.trans hX
  rw [hZ] at eG
  replace iv := iv.trans hZ
  replace hX := Lib.hid hX
  replace hZ := Lib.hid hZ
  replace eF := Lib.hid eF
  replace eG := Lib.hid eG
  replace hu := Lib.hid hu
  replace hv1 := Lib.hid hv1
  replace hF := Lib.hid hF
  replace hG := Lib.hid hG
  replace iu := Lib.hid iu
  replace iv := Lib.hid iv
  replace hv := Lib.hid hv
  replace hN := Lib.hid hN
  replace hNc := Lib.hid hNc
  replace hct := Lib.hid hct
  replace hD := Lib.hid hD
  replace hDc := Lib.hid hDc
  go_wp2_with fail
  refine (sc_ok hN.out _ _ _ _ _ p.out q.out hn13 hm13).mono ?_
  rintro e w4 ⟨rfl, hb⟩
  have szw4 := hb.size
  replace p := Lib.hid (p.out.bel hb)
  replace q := Lib.hid (q.out.bel hb)
  replace bb := Lib.hid (bb.out.trans (hb.mono bb.out.size))
  clear hb
  go_wp2_with fail
  go_loopw [10, 11] (fun x v wr => ∃ v' : Nat, v' ≤ m ∧ v = .int .i64 v' ∧ x = .int .i64 (sumI F v') ∧ Hid (Row wr aR n xs) ∧ Hid (Row wr aC m ys) ∧ Hid (Below w.heap.size w wr)) (fun _ v _ => m - (intOf v).toNat)
  case atStart => exact ⟨0, Nat.zero_le _, rfl, rfl, p, q, bb⟩
  case round =>
    clear p q bb
    obtain ⟨k, hkk, rfl, rfl, p, q, bb⟩ := hrel
    obtain ⟨wok, rfl⟩ : ∃ wo : World, wo = wr := ⟨_, rfl⟩
    have bz := bb.out.size
    by_cases hlt : k < m
    case pos =>
      have hfc := hFc.out k hlt
      have b1 := hFs.out k
      have b2 := hFb.out k
      have hs1 : sumI F (k + 1) = sumI F k + F k := rfl
      obtain ⟨S, hS⟩ : ∃ S, sumI F k = S := ⟨_, rfl⟩
      obtain ⟨V, hV⟩ : ∃ V, F k = V := ⟨_, rfl⟩
      rw [hS, hV] at hs1
      rw [hS] at b1
      rw [hV] at b2 hfc
      rw [hS]
      have iw : IntKind.i64.wrap (S + V) = S + V := IntWalk.i64_in _ ⟨by omega, by omega⟩
      replace hs1 := Lib.hid hs1
      replace hS := Lib.hid hS
      replace hV := Lib.hid hV
      replace hfc := Lib.hid hfc
      go_wp2_with fail
      refine (cc_ok hfc.out _ _ _ _ _ p.out q.out hn13 hm13).mono ?_
      rintro e w5 ⟨rfl, hb⟩
      have szw5 := hb.size
      replace p := Lib.hid (p.out.bel hb)
      replace q := Lib.hid (q.out.bel hb)
      replace bb := Lib.hid (bb.out.trans (hb.mono bb.out.size))
      clear hb
      go_wp2_with fail
      exact ⟨⟨k + 1, by omega, by go_num, by rw [hs1.out], p, q, bb⟩, by simp [intOf]; omega⟩
    obtain rfl : m = k := by omega
    clear hlt hkk
    rw [eF.out]
    go_wp2_with fail
    go_loopw [12, 13] (fun x v wr => ∃ v' : Nat, v' ≤ n ∧ v = .int .i64 v' ∧ x = .int .i64 (sumI G v') ∧ Hid (Row wr aR n xs) ∧ Hid (Row wr aC m ys) ∧ Hid (Below w.heap.size w wr)) (fun _ v _ => n - (intOf v).toNat)
    case atStart => exact ⟨0, Nat.zero_le _, rfl, rfl, p, q, bb⟩
    case round =>
      clear p q bb
      obtain ⟨l, hkl, rfl, rfl, p, q, bb⟩ := hrel
      obtain ⟨wol, rfl⟩ : ∃ wo : World, wo = wr := ⟨_, rfl⟩
      have bz := bb.out.size
      by_cases hlt : l < n
      case pos =>
        have hfc := hGc.out l hlt
        have b1 := hGs.out l
        have b2 := hGb.out l
        have hs1 : sumI G (l + 1) = sumI G l + G l := rfl
        obtain ⟨S, hS⟩ : ∃ S, sumI G l = S := ⟨_, rfl⟩
        obtain ⟨V, hV⟩ : ∃ V, G l = V := ⟨_, rfl⟩
        rw [hS, hV] at hs1
        rw [hS] at b1
        rw [hV] at b2 hfc
        rw [hS]
        have iw : IntKind.i64.wrap (S + V) = S + V := IntWalk.i64_in _ ⟨by omega, by omega⟩
        replace hs1 := Lib.hid hs1
        replace hS := Lib.hid hS
        replace hV := Lib.hid hV
        replace hfc := Lib.hid hfc
        go_wp2_with fail
        refine (cc_ok hfc.out _ _ _ _ _ p.out q.out hn13 hm13).mono ?_
        rintro e w6 ⟨rfl, hb⟩
        have szw6 := hb.size
        replace p := Lib.hid (p.out.bel hb)
        replace q := Lib.hid (q.out.bel hb)
        replace bb := Lib.hid (bb.out.trans (hb.mono bb.out.size))
        clear hb
        go_wp2_with fail
        exact ⟨⟨l + 1, by omega, by go_num, by rw [hs1.out], p, q, bb⟩, by simp [intOf]; omega⟩
      obtain rfl : n = l := by omega
      clear hlt hkl
      rw [eG.out]
      obtain ⟨p_b, p_o, rfl, pc⟩ := row_at p.out hi
      obtain ⟨q_b, q_o, rfl, qc⟩ := row_at q.out hj
      rw [hu.out] at pc
      rw [hv1.out] at qc
      replace iu := iu.out
      replace iv := iv.out
      have iu2 : IntKind.i64.wrap (u * N) = X := by have h := iu; unfold wrap64 at h; rw [IntKind.wrap_i64]; omega
      have iv2 : IntKind.i64.wrap (v * N) = Z := by have h := iv; unfold wrap64 at h; rw [IntKind.wrap_i64]; omega
      go_wp2_with fail
      go_ret
      exact ⟨rfl, bb.out⟩

set_option maxRecDepth 100000 in
theorem lifted (os : Os) (started : os.Started) (H : Type) (enc : TypeId × Value → H) :
    ReturnsInHanded {} Try.checked os 7 .any (Rows.fnCellSumSpec.pre6 enc Try.prog Try.f7 Rows.fnCellSumRow.domain false) (Rows.fnCellSumSpec.post enc Try.prog Try.f7 false true false false) := by
  refine returnsInHanded_of_change (C := Try.checked) own started (by kernel_rfl) Try.func7
    (ChangeSpec.witness6 (enc := enc) (C := Try.checked) false ⟨#[], #[.slice none 0 0], []⟩ 8 (by kernel_rfl) (by kernel_rfl) (by kernel_rfl) (by kernel_rfl)) ?_
  intro W base args ds gs before hval0 hW hcnd _
  have hval : ∀ (j : Nat) t v, Try.f7.params[j]? = some t → args[j]? = some v → Value.okWide Try.prog W .any base t v := hval0
  have hW' := hW
  obtain ⟨p, q, hA0, hV, rfl, hfz, hnd⟩ := hW
  have hA : DataW.TrodAll enc Try.prog W 0 (fun _ => true) true Try.f7.params.toList args.toList ds p := hA0
  rw [Try.params7] at hA hval
  obtain ⟨v0, vs0, d0, ds0, p0, q0, hargs, rfl, rfl, h0, r0⟩ := trodAll_cons hA
  obtain ⟨rfl, rfl, rfl⟩ := trodAll_nil r0
  obtain rfl : args = #[v0] := by cases args; simp_all
  obtain ⟨rfl, rfl⟩ := trodVars_none hV
  have k0 := h0
  have lt0 : ∀ x ∈ p0, x.block < W.heap.size := by obtain ⟨m, hm⟩ := k0; exact DataW.trod_lt m _ _ _ hm
  obtain ⟨a0, len0, cap0, z0, rfl, w0, l0, m0⟩ := open_code (hval 0 22 v0 rfl rfl) h0
  clear hA0 hval0
  refine (walk a0 len0 cap0 z0 W w0 l0 m0).mono fun e W' ⟨he, bel⟩ => ?_
  subst he
  exact ⟨_, rfl, _, _, _, [], _, [], hW', trodAll_mk1 (shut_bool Try.underlying4 _), (trodAll_cons_mk (Below.trod laidOut (by kernel_rfl) (of_decide_eq_true (by kernel_rfl)) k0 bel lt0) trodAll_mk0), rfl, bel.frame _, fun h => by cases h⟩

theorem closed : joinedFacts Try.prog 7 Try.f7 Rows.fnCellSumSpec Rows.fnCellSumRow = true := by
  simp only [joinedFacts, Bool.and_eq_true]
  repeat' apply And.intro
  all_goals first | with_reducible exact mayEnterOk | (with_reducible rw [liftsFinalOk]; kernel_rfl) | (with_reducible rw [makeOk]; kernel_rfl) | kernel_rfl

theorem over : Rows.fnCellSumRow.holds Try.pinned (OpenSpec.ofChange Rows.fnCellSumSpec) :=
  OpenClaim.holds_of_wide 7 Try.f7 rfl rfl rfl rfl rfl rfl rfl ⟨rfl, rfl, rfl, rfl, rfl⟩ rfl rfl rfl rfl rfl (by kernel_rfl) Try.func7 closed
    (of_decide_eq_true (by kernel_rfl)) (by unfold Func.isWrapper; first | (rw [if_pos (by decide +kernel)]; kernel_rfl) | (rw [if_neg (by decide +kernel)]; exact ⟨rfl, rfl⟩))
    (fun os started H enc _ => lifted os started H enc)

theorem proved : Rows.FnCellSumSaid := over
#print axioms proved
end Go.Proofs.Ytmfncheimmcobaa.LFCellSum

