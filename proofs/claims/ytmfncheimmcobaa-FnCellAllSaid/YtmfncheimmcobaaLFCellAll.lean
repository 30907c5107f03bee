/-
  For every slice of bytes the law FnCellAll answers true: all cells are set as often as the sum of the rows tells; nothing that was there is written; no condition.
-/
import Derived.Test.YtmfncheimmcobaaO
import Derived.Test.YtmfncheimmcobaaK
import Derived.Deep.RegionLaw
import Derived.Test.YtmfncheimmcobaaYb
import Derived.Test.YtmfncheimmcobaaYd
import Derived.Test.YtmfncheimmcobaaEp
namespace Go.Proofs.Ytmfncheimmcobaa.LFCellAll
open Go.ChangeShapes Go.WideShapes Go.ChangeAt Go.RowKit Go.Joins

theorem sumI_bd36 {f : Nat → Int} (h : ∀ k, 0 ≤ f k ∧ f k ≤ 68719476736) : ∀ n : Nat, 0 ≤ sumI f n ∧ sumI f n ≤ (n : Int) * 68719476736
  | 0 => ⟨Int.le_refl _, by simp [sumI]⟩
  | n + 1 => by
    have h1 := sumI_bd36 h n
    have h2 := h n
    have h3 : sumI f (n + 1) = sumI f n + f n := rfl
    rw [h3]
    omega
theorem mul36 {a N : Int} (h0 : 0 ≤ a) (h6 : a ≤ 36) (n0 : 0 ≤ N) (n1 : N ≤ 68719476736) : wrap64 (a * N) = a * N := by
  have h1 : 0 ≤ a * N := Int.mul_nonneg h0 n0
  have h2 : a * N ≤ 36 * N := Int.mul_le_mul_of_nonneg_right h6 n0
  exact IntWalk.wrap64_in _ ⟨by omega, by omega⟩

theorem sumI_bdq {f : Nat → Int} (h : ∀ k, 0 ≤ f k ∧ f k ≤ 412316860416) : ∀ n : Nat, 0 ≤ sumI f n ∧ sumI f n ≤ (n : Int) * 412316860416
  | 0 => ⟨Int.le_refl _, by simp [sumI]⟩
  | n + 1 => by
    have h1 := sumI_bdq h n
    have h2 := h n
    have h3 : sumI f (n + 1) = sumI f n + f n := rfl
    rw [h3]
    omega

theorem sum_bd6 {f : Nat → Int} : ∀ (n : Nat), (∀ k, k < n → 0 ≤ f k ∧ f k ≤ 6) → 0 ≤ sumI f n ∧ sumI f n ≤ (n : Int) * 6
  | 0, _ => ⟨Int.le_refl _, by simp [sumI]⟩
  | n + 1, h => by
    have h1 := sum_bd6 n fun k hk => h k (by omega)
    have h2 := h n (by omega)
    have h3 : sumI f (n + 1) = sumI f n + f n := rfl
    rw [h3]
    omega

set_option maxHeartbeats 2000000 in
set_option maxRecDepth 100000 in
theorem walk (a : Option Addr) (len cap : Nat) (zs : List Int) (w : World) (h : Bys w a len zs) (hl : len ≤ cap) (hm : cap ≤ 9223372036854775807) :
    Calls Try.prog 13 #[.slice a len cap] w fun e w' => e = .returned (.bool true) ∧ Below w.heap.size w w' := by
  by_cases hbig : 1048576 < len
  · clear h
    go_enter Try.func13, Try.ntmps13
    go_wp2_with fail
    go_ret
    exact ⟨rfl, Below.refl _ _⟩
  go_enter Try.func13, Try.ntmps13
  go_wp2_with fail
  refine (draw_DrawCellCount a len cap zs _ h hl hm).mono ?_
  rintro e w1 ⟨aR, n, cR, xs, aC, m, cC, ys, i, j, rfl, hR, hC, hnm, hcap, hij, hb1⟩
  clear h hl hm
  have bb := Lib.hid hb1
  have p := Lib.hid hR.row
  have q := Lib.hid hC.row
  have lx := hR.len
  have ly := hC.len
  have hn13 : n ≤ 13 := by omega
  have hm13 : m ≤ 13 := by omega
  clear hR hC hb1
  obtain ⟨D, hD⟩ : ∃ D, ccO xs ys i j = D := ⟨_, rfl⟩
  go_wp2_with fail
  refine (cc_ok hD _ _ _ _ _ p.out q.out hn13 hm13).mono ?_
  rintro e w2 ⟨rfl, hb⟩
  have szw2 := hb.size
  replace p := Lib.hid (p.out.bel hb)
  replace q := Lib.hid (q.out.bel hb)
  replace bb := Lib.hid (bb.out.trans (hb.mono bb.out.size))
  clear hb
  go_wp2_with fail
  refine (cc_sok hD _ _ _ _ _ p.out q.out hn13 hm13 hcap.1).mono ?_
  rintro e w3 ⟨rfl, hb⟩
  have szw3 := hb.size
  replace p := Lib.hid (p.out.bel hb)
  replace q := Lib.hid (q.out.bel hb)
  replace bb := Lib.hid (bb.out.trans (hb.mono bb.out.size))
  clear hb
  by_cases hall : ctdB xs ys = true ∧ (0 ≤ i ∧ i < xs.length) ∧ (0 ≤ j ∧ j < ys.length)
  case neg =>
    obtain rfl : D = -1 := by rw [← hD]; exact cco_no hall
    replace hall := Lib.hid hall
    go_wp2_with fail
    go_ret
    exact ⟨rfl, bb.out⟩
  obtain ⟨hct, ⟨hi0, hi1⟩, hj0, hj1⟩ := hall
  obtain ⟨i, rfl⟩ := Int.eq_ofNat_of_zero_le hi0
  obtain ⟨j, rfl⟩ := Int.eq_ofNat_of_zero_le hj0
  rw [lx] at hi1
  rw [ly] at hj1
  have hi : i < n := by omega
  have hj : j < m := by omega
  obtain ⟨N, hN⟩ : ∃ N, scO xs ys = N := ⟨_, rfl⟩
  have hv := (ctdB_parts hct).1
  have h16 := (ctdB_parts hct).2
  rw [lx, ly] at h16
  have hp := sumsB_parts hv
  rw [lx, ly] at hp
  have hn1 := hp.1.1
  have hn6 := hp.1.2
  have hm1 := hp.2.1.1
  have hm6 := hp.2.1.2
  have bx := Lib.hid hp.2.2.1
  have by' := Lib.hid hp.2.2.2
  have hex := Lib.hid (sums_el hv).1
  have hey := Lib.hid (sums_el hv).2
  clear hp
  have hNc : cntS xs ys = N := (sco_yes hct).symm.trans hN
  have hNb := sco_bd hct
  rw [hNc] at hNb
  have hN0 : ¬ N < 0 := by omega
  have hDc : cntC xs ys i j = D := (cco_yes hct (by omega) (by omega)).symm.trans hD
  have hD0 : ¬ D < 0 := by have := cell_nn xs ys i j; omega
  have hDN : D ≤ N := by have := cell_le xs ys i j; omega
  clear hi0 hj0 hij
  obtain ⟨T, hT⟩ : ∃ T, sumI (fun i => xs.getD i 0) n = T := ⟨_, rfl⟩
  obtain ⟨F, hF⟩ : ∃ f : Nat → Nat → Int, (fun k l => cntC xs ys k l) = f := ⟨_, rfl⟩
  have hFb : Hid (∀ k l, 0 ≤ F k l ∧ F k l ≤ 68719476736) := Lib.hid fun k l => by
    rw [← hF]
    have h1 : 0 ≤ cntC xs ys k l := cell_nn ..
    have h2 : cntC xs ys k l ≤ cntS xs ys := cell_le ..
    rw [hNc] at h2
    exact (show 0 ≤ cntC xs ys k l ∧ cntC xs ys k l ≤ 68719476736 from ⟨h1, by omega⟩)
  have hFc : Hid (∀ k l : Nat, k < n → l < m → ccO xs ys k l = F k l) := Lib.hid fun k l hk hl => by rw [← hF]; exact cco_yes hct (by omega) (by omega)
  obtain ⟨G, hG⟩ : ∃ g : Nat → Int, (fun k => sumI (F k) m) = g := ⟨_, rfl⟩
  have hGr : Hid (∀ k, sumI (F k) m = G k) := Lib.hid fun k => by rw [← hG]
  have hGb : Hid (∀ k, 0 ≤ G k ∧ G k ≤ 412316860416) := Lib.hid fun k => by
    have := sumI_bd36 (hFb.out k) m
    rw [hGr.out k] at this
    exact ⟨by omega, by omega⟩
  have hGs : Hid (∀ k, 0 ≤ sumI G k ∧ sumI G k ≤ (k : Int) * 412316860416) := Lib.hid (sumI_bdq hGb.out)
  have hps : ∀ k : Nat, psum xs k = sumI (fun i => xs.getD i 0) k := fun k => by
    induction k with
    | zero => rfl
    | succ k ih => show psum xs k + xs.getD k 0 = sumI _ k + xs.getD k 0; rw [ih]
  have hLT : lsum xs = T := by rw [← psum_all xs, lx, hps, hT]
  have eG : sumI G n = T * N := by
    rw [← hG, ← hF, ← hLT, ← hNc, ← cell_all, lx, ly]
  have b6 : Hid (∀ k, k < n → 0 ≤ xs.getD k 0 ∧ xs.getD k 0 ≤ 6) := Lib.hid fun k hk => by
    have := bx.out k hk
    exact ⟨by omega, by omega⟩
  have hT0 : 0 ≤ T ∧ T ≤ 36 := by
    have h := sum_bd6 (f := fun k => xs.getD k 0) n b6.out
    rw [hT] at h
    exact ⟨h.1, by omega⟩
  have iu : wrap64 (T * N) = T * N := mul36 (by omega) (by omega) (by omega) (by omega)
  obtain ⟨X, hX⟩ : ∃ X, T * N = X := ⟨_, rfl⟩
  rw [hX] at eG
  replace iu := iu.trans hX
  replace hX := Lib.hid hX
  replace hT := Lib.hid hT
  replace eG := Lib.hid eG
  replace hF := Lib.hid hF
  replace hG := Lib.hid hG
  replace hLT := Lib.hid hLT
  replace iu := Lib.hid iu
  clear hps
  replace hv := Lib.hid hv
  replace hN := Lib.hid hN
  replace hNc := Lib.hid hNc
  replace hct := Lib.hid hct
  replace hD := Lib.hid hD
  replace hDc := Lib.hid hDc
  go_wp2_with fail
  go_loopw [9, 10] (fun x v wr => ∃ v' : Nat, v' ≤ n ∧ v = .int .i64 v' ∧ x = .int .i64 (sumI G v') ∧ Hid (Row wr aR n xs) ∧ Hid (Row wr aC m ys) ∧ Hid (Below w.heap.size w wr)) (fun _ v _ => n - (intOf v).toNat)
  case atStart => exact ⟨0, Nat.zero_le _, rfl, rfl, p, q, bb⟩
  case round =>
    clear p q bb
    obtain ⟨k, hk, rfl, rfl, p, q, bb⟩ := hrel
    obtain ⟨wok, rfl⟩ : ∃ wo : World, wo = wr := ⟨_, rfl⟩
    have bz := bb.out.size
    by_cases hlt : k < n
    case pos =>
      have c1 := hGs.out k
      have c2 := hGb.out k
      have c3 := hGr.out k
      have c4 : sumI G (k + 1) = sumI G k + G k := rfl
      obtain ⟨S, hS⟩ : ∃ S, sumI G k = S := ⟨_, rfl⟩
      rw [hS] at c1 c4
      rw [hS]
      obtain ⟨g, hg⟩ : ∃ g, G k = g := ⟨_, rfl⟩
      rw [hg] at c2 c3 c4
      obtain ⟨f, hf⟩ : ∃ f, F k = f := ⟨_, rfl⟩
      rw [hf] at c3
      have hfb : Hid (∀ l, 0 ≤ f l ∧ f l ≤ 68719476736) := Lib.hid (hf ▸ hFb.out k)
      have hfs : Hid (∀ l, 0 ≤ sumI f l ∧ sumI f l ≤ (l : Int) * 68719476736) := Lib.hid (sumI_bd36 hfb.out)
      have hfc : Hid (∀ l : Nat, l < m → ccO xs ys k l = f l) := Lib.hid (fun l hl => hf ▸ hFc.out k l hlt hl)
      replace c3 := Lib.hid c3
      replace c4 := Lib.hid c4
      replace hS := Lib.hid hS
      replace hf := Lib.hid hf
      replace hg := Lib.hid hg
      go_wp2_with fail
      go_loopw [9, 11] (fun x v wr => ∃ v' : Nat, v' ≤ m ∧ v = .int .i64 v' ∧ x = .int .i64 (S + sumI f v') ∧ Hid (Row wr aR n xs) ∧ Hid (Row wr aC m ys) ∧ Hid (Below w.heap.size w wr)) (fun _ v _ => m - (intOf v).toNat)
      case atStart => exact ⟨0, Nat.zero_le _, rfl, by show Value.int .i64 S = .int .i64 (S + 0); rw [Int.add_zero], p, q, bb⟩
      case round =>
        clear p q bb
        obtain ⟨l, hl, rfl, rfl, p, q, bb⟩ := hrel
        obtain ⟨wol, rfl⟩ : ∃ wo : World, wo = wr := ⟨_, rfl⟩
        have bz2 := bb.out.size
        by_cases hll : l < m
        case pos =>
          have d0 := hfc.out l hll
          have d1 := hfs.out l
          have d2 := hfb.out l
          have d3 : sumI f (l + 1) = sumI f l + f l := rfl
          obtain ⟨U, hU⟩ : ∃ U, sumI f l = U := ⟨_, rfl⟩
          obtain ⟨V, hV⟩ : ∃ V, f l = V := ⟨_, rfl⟩
          rw [hU, hV] at d3
          rw [hU] at d1
          rw [hV] at d0 d2
          rw [hU]
          have iw : IntKind.i64.wrap (S + U + V) = S + U + V := IntWalk.i64_in _ ⟨by omega, by omega⟩
          have e4 : S + sumI f (l + 1) = S + U + V := by rw [d3, Int.add_assoc]
          replace d0 := Lib.hid d0
          replace d3 := Lib.hid d3
          replace hU := Lib.hid hU
          replace hV := Lib.hid hV
          replace e4 := Lib.hid e4
          go_wp2_with fail
          refine (cc_ok d0.out _ _ _ _ _ p.out q.out hn13 hm13).mono ?_
          rintro e w4 ⟨rfl, hb⟩
          have szw4 := hb.size
          replace p := Lib.hid (p.out.bel hb)
          replace q := Lib.hid (q.out.bel hb)
          replace bb := Lib.hid (bb.out.trans (hb.mono bb.out.size))
          clear hb
          go_wp2_with fail
          exact ⟨⟨l + 1, by omega, by go_num, by rw [e4.out], p, q, bb⟩, by simp [intOf]; omega⟩
        obtain rfl : m = l := by omega
        rw [c3.out]
        clear hll hl
        go_wp2_with fail
        exact ⟨⟨k + 1, by omega, by go_num, by rw [c4.out], p, q, bb⟩, by simp [intOf]; omega⟩
    obtain rfl : n = k := by omega
    rw [eG.out]
    clear hlt hk
    go_wp2_with fail
    refine (sumOf_bel _ _ _ _ _ p.out (by omega) b6.out _ hT.out).mono ?_
    rintro e w5 ⟨rfl, hb⟩
    have szw5 := hb.size
    replace p := Lib.hid (p.out.bel hb)
    replace q := Lib.hid (q.out.bel hb)
    replace bb := Lib.hid (bb.out.trans (hb.mono bb.out.size))
    clear hb
    go_wp2_with fail
    refine (sc_ok hN.out _ _ _ _ _ p.out q.out hn13 hm13).mono ?_
    rintro e w6 ⟨rfl, hb⟩
    have szw6 := hb.size
    replace p := Lib.hid (p.out.bel hb)
    replace q := Lib.hid (q.out.bel hb)
    replace bb := Lib.hid (bb.out.trans (hb.mono bb.out.size))
    clear hb
    replace iu := iu.out
    have iu2 : IntKind.i64.wrap (T * N) = X := by have h := iu; unfold wrap64 at h; rw [IntKind.wrap_i64]; omega
    go_wp2_with fail
    go_ret
    exact ⟨rfl, bb.out⟩

set_option maxRecDepth 100000 in
theorem lifted (os : Os) (started : os.Started) (H : Type) (enc : TypeId × Value → H) :
    ReturnsInHanded {} Try.checked os 13 .any (Rows.fnCellAllSpec.pre6 enc Try.prog Try.f13 Rows.fnCellAllRow.domain false) (Rows.fnCellAllSpec.post enc Try.prog Try.f13 false true false false) := by
  refine returnsInHanded_of_change (C := Try.checked) own started (by kernel_rfl) Try.func13
    (ChangeSpec.witness6 (enc := enc) (C := Try.checked) false ⟨#[], #[.slice none 0 0], []⟩ 8 (by kernel_rfl) (by kernel_rfl) (by kernel_rfl) (by kernel_rfl)) ?_
  intro W base args ds gs before hval0 hW hcnd _
  have hval : ∀ (j : Nat) t v, Try.f13.params[j]? = some t → args[j]? = some v → Value.okWide Try.prog W .any base t v := hval0
  have hW' := hW
  obtain ⟨p, q, hA0, hV, rfl, hfz, hnd⟩ := hW
  have hA : DataW.TrodAll enc Try.prog W 0 (fun _ => true) true Try.f13.params.toList args.toList ds p := hA0
  rw [Try.params13] at hA hval
  obtain ⟨v0, vs0, d0, ds0, p0, q0, hargs, rfl, rfl, h0, r0⟩ := trodAll_cons hA
  obtain ⟨rfl, rfl, rfl⟩ := trodAll_nil r0
  obtain rfl : args = #[v0] := by cases args; simp_all
  obtain ⟨rfl, rfl⟩ := trodVars_none hV
  have k0 := h0
  have lt0 : ∀ x ∈ p0, x.block < W.heap.size := by obtain ⟨m, hm⟩ := k0; exact DataW.trod_lt m _ _ _ hm
  obtain ⟨a0, len0, cap0, z0, rfl, w0, l0, m0⟩ := open_code (hval 0 22 v0 rfl rfl) h0
  clear hA0 hval0
  refine (walk a0 len0 cap0 z0 W w0 l0 m0).mono fun e W' ⟨he, bel⟩ => ?_
  subst he
  exact ⟨_, rfl, _, _, _, [], _, [], hW', trodAll_mk1 (shut_bool Try.underlying4 _), (trodAll_cons_mk (Below.trod laidOut (by kernel_rfl) (of_decide_eq_true (by kernel_rfl)) k0 bel lt0) trodAll_mk0), rfl, bel.frame _, fun h => by cases h⟩

theorem closed : joinedFacts Try.prog 13 Try.f13 Rows.fnCellAllSpec Rows.fnCellAllRow = true := by
  simp only [joinedFacts, Bool.and_eq_true]
  repeat' apply And.intro
  all_goals first | with_reducible exact mayEnterOk | (with_reducible rw [liftsFinalOk]; kernel_rfl) | (with_reducible rw [makeOk]; kernel_rfl) | kernel_rfl

theorem over : Rows.fnCellAllRow.holds Try.pinned (OpenSpec.ofChange Rows.fnCellAllSpec) :=
  OpenClaim.holds_of_wide 13 Try.f13 rfl rfl rfl rfl rfl rfl rfl ⟨rfl, rfl, rfl, rfl, rfl⟩ rfl rfl rfl rfl rfl (by kernel_rfl) Try.func13 closed
    (of_decide_eq_true (by kernel_rfl)) (by unfold Func.isWrapper; first | (rw [if_pos (by decide +kernel)]; kernel_rfl) | (rw [if_neg (by decide +kernel)]; exact ⟨rfl, rfl⟩))
    (fun os started H enc _ => lifted os started H enc)

theorem proved : Rows.FnCellAllSaid := over
#print axioms proved
end Go.Proofs.Ytmfncheimmcobaa.LFCellAll

