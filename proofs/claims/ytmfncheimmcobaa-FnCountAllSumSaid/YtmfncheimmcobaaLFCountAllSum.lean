/-
  For every slice of bytes the law FnCountAllSum answers true: the images of all column sums are all images with the row sums; nothing that was there is written; no condition.
-/
import Derived.Test.YtmfncheimmcobaaO
import Derived.Test.YtmfncheimmcobaaK
import Derived.Deep.RegionLaw
import Derived.Test.YtmfncheimmcobaaYa
import Derived.Test.YtmfncheimmcobaaYc
import Derived.Test.YtmfncheimmcobaaJp
import Derived.Test.YtmfncheimmcobaaJf
namespace Go.Proofs.Ytmfncheimmcobaa.LFCountAllSum
open Go.ChangeShapes Go.WideShapes Go.ChangeAt Go.RowKit Go.Joins

theorem sumI_bd36 {f : Nat → Int} (h : ∀ k, 0 ≤ f k ∧ f k ≤ 68719476736) : ∀ n : Nat, 0 ≤ sumI f n ∧ sumI f n ≤ (n : Int) * 68719476736
  | 0 => ⟨Int.le_refl _, by simp [sumI]⟩
  | n + 1 => by
    have h1 := sumI_bd36 h n
    have h2 := h n
    have h3 : sumI f (n + 1) = sumI f n + f n := rfl
    rw [h3]
    omega
theorem mul36 {a N : Int} (h0 : 0 ≤ a) (h6 : a ≤ 36) (n0 : 0 ≤ N) (n1 : N ≤ 68719476736) : wrap64 (a * N) = a * N := by
  have h1 : 0 ≤ a * N := Int.mul_nonneg h0 n0
  have h2 : a * N ≤ 36 * N := Int.mul_le_mul_of_nonneg_right h6 n0
  exact IntWalk.wrap64_in _ ⟨by omega, by omega⟩

theorem sumI_bdq {f : Nat → Int} (h : ∀ k, 0 ≤ f k ∧ f k ≤ 412316860416) : ∀ n : Nat, 0 ≤ sumI f n ∧ sumI f n ≤ (n : Int) * 412316860416
  | 0 => ⟨Int.le_refl _, by simp [sumI]⟩
  | n + 1 => by
    have h1 := sumI_bdq h n
    have h2 := h n
    have h3 : sumI f (n + 1) = sumI f n + f n := rfl
    rw [h3]
    omega

theorem allC_pos {W : Nat} (hW : W < 7) : ∀ rows : List Int, (∀ r, r ∈ rows → 0 ≤ r ∧ r ≤ W) → 1 ≤ allC W rows
  | [], _ => Int.le_refl _
  | r :: rows, h => by
    have h0 := h r (List.mem_cons_self ..)
    have h1 := (cho_few W hW r.toNat (by omega)).2.1
    have h2 := allC_pos hW rows fun q hq => h q (List.mem_cons_of_mem _ hq)
    show 1 ≤ choI W r.toNat * allC W rows
    have h3 := Int.mul_le_mul h1 h2 (by omega) (by omega)
    omega

set_option maxHeartbeats 2000000 in
set_option maxRecDepth 100000 in
theorem walk (a : Option Addr) (len cap : Nat) (zs : List Int) (w : World) (h : Bys w a len zs) (hl : len ≤ cap) (hm : cap ≤ 9223372036854775807) :
    Calls Try.prog 10 #[.slice a len cap] w fun e w' => e = .returned (.bool true) ∧ Below w.heap.size w w' := by
  by_cases hbig : 1048576 < len
  · clear h
    go_enter Try.func10, Try.ntmps10
    go_wp2_with fail
    go_ret
    exact ⟨rfl, Below.refl _ _⟩
  go_enter Try.func10, Try.ntmps10
  go_wp2_with fail
  refine (draw_DrawCountAll a len cap zs _ h hl hm).mono ?_
  rintro e w1 ⟨aR, n, cR, xs, v, rfl, hR, hn, hcap, hv0, hb1⟩
  clear h hl hm
  have bb := Lib.hid hb1
  have p := Lib.hid hR.row
  have lx := hR.len
  have hn13 : n ≤ 13 := by omega
  clear hR hb1
  obtain ⟨N, hN⟩ : ∃ N, caO xs v = N := ⟨_, rfl⟩
  go_wp2_with fail
  refine (ca_ok hN _ _ _ p.out hn13).mono ?_
  rintro e w2 ⟨rfl, hb⟩
  have szw2 := hb.size
  replace p := Lib.hid (p.out.bel hb)
  replace bb := Lib.hid (bb.out.trans (hb.mono bb.out.size))
  clear hb
  go_wp2_with fail
  refine (ca_sok hN _ _ _ p.out hn13).mono ?_
  rintro e w3 ⟨rfl, hb⟩
  have szw3 := hb.size
  replace p := Lib.hid (p.out.bel hb)
  replace bb := Lib.hid (bb.out.trans (hb.mono bb.out.size))
  clear hb
  by_cases hne : nestB xs v = true
  case neg =>
    obtain rfl : N = -1 := by rw [← hN]; exact if_neg hne
    replace hne := Lib.hid hne
    go_wp2_with fail
    go_ret
    exact ⟨rfl, bb.out⟩
  obtain ⟨W, rfl⟩ := Int.eq_ofNat_of_zero_le hv0.1
  have hp := nestB_parts hne
  rw [lx] at hp
  have hn1 := hp.1.1
  have hn6 := hp.1.2
  have hW1 := hp.2.1.1
  have hW6 := hp.2.1.2
  have hx := hp.2.2
  have hmem : ∀ r, r ∈ xs → 0 ≤ r ∧ r ≤ W := fun r hr => by
    obtain ⟨i, hi, rfl⟩ := List.getElem_of_mem hr
    have := hx i (by omega)
    rw [getD_elem hi] at this
    exact this
  have hNc : allC W xs = N := (if_pos hne).symm.trans hN
  have hN1 := allC_pos (by omega) xs hmem
  rw [hNc] at hN1
  have hN0 : ¬ N < 0 := by omega
  have g0 : decide (0 < N) = true := decide_eq_true (by omega)
  clear hp hv0
  replace hN := Lib.hid hN
  replace hne := Lib.hid hne
  rcases Nat.lt_or_ge 2 W with h2 | h2
  case inl =>
    clear hmem hx hNc
    go_wp2_with fail
    go_ret
    exact ⟨rfl, bb.out⟩
  rcases Nat.lt_or_ge 4 n with h4 | h4
  case inl =>
    clear hmem hx hNc
    go_wp2_with fail
    go_ret
    exact ⟨rfl, bb.out⟩
  have hW12 : W = 1 ∨ W = 2 := by omega
  rcases hW12 with rfl | rfl
  case inl =>
    have hsv : ∀ i : Nat, i ≤ n → sumsB xs [(i : Int)] = true := fun i hi => by
      unfold sumsB
      rw [Bool.and_eq_true, Bool.and_eq_true, Bool.and_eq_true]
      refine ⟨inB_yes (by omega) (by omega), inB_yes (by simp) (by simp), allIn_iff.2 fun j hj => ?_, allIn_iff.2 fun j hj => ?_⟩
      · have := hx j (by omega); simpa using this
      · obtain rfl : j = 0 := by simpa using hj
        simp; omega
    obtain ⟨F, hF⟩ : ∃ f : Nat → Int, (fun i : Nat => cntS xs [(i : Int)]) = f := ⟨_, rfl⟩
    have hFb : Hid (∀ k, 0 ≤ F k ∧ F k ≤ 68719476736) := Lib.hid fun k => by
      rw [← hF]
      have := cnt_16 (rows := xs) (cols := [(k : Int)]) (by simp; omega)
      exact (show 0 ≤ cntS xs [(k : Int)] ∧ cntS xs [(k : Int)] ≤ 68719476736 from ⟨this.1, by omega⟩)
    have hFs : Hid (∀ k, 0 ≤ sumI F k ∧ sumI F k ≤ (k : Int) * 68719476736) := Lib.hid (sumI_bd36 hFb.out)
    have hFc : Hid (∀ k : Nat, k < n + 1 → scO xs [(k : Int)] = F k) := Lib.hid fun k hk => by rw [← hF]; exact sco_yes (ctdB_of (hsv k (by omega)) (by simp; omega))
    have eF : Hid (sumI F (n + 1) = N) := Lib.hid (by rw [← hF, ← hNc, ← lx]; exact cnt_sum1 rfl hmem)
    replace hF := Lib.hid hF
    clear hsv hmem hx hNc
    go_wp2_with fail
    go_loopw [7, 8] (fun x v wr => ∃ v' : Nat, v' ≤ n + 1 ∧ v = .int .i64 v' ∧ x = .int .i64 (sumI F v') ∧ Hid (Row wr aR n xs) ∧ Hid (Below w.heap.size w wr)) (fun _ v _ => n + 1 - (intOf v).toNat)
    case atStart => exact ⟨0, Nat.zero_le _, rfl, rfl, p, bb⟩
    case round =>
      clear p bb
      obtain ⟨k, hk, rfl, rfl, p, bb⟩ := hrel
      obtain ⟨wok, rfl⟩ : ∃ wo : World, wo = wr := ⟨_, rfl⟩
      have bz := bb.out.size
      by_cases hlt : k < n + 1
      case pos =>
        have hfc := hFc.out k hlt
        have b1 := hFs.out k
        have b2 := hFb.out k
        have hs1 : sumI F (k + 1) = sumI F k + F k := rfl
        obtain ⟨S, hS⟩ : ∃ S, sumI F k = S := ⟨_, rfl⟩
        obtain ⟨V, hV⟩ : ∃ V, F k = V := ⟨_, rfl⟩
        rw [hS, hV] at hs1
        rw [hS] at b1
        rw [hV] at b2 hfc
        rw [hS]
        have iw : IntKind.i64.wrap (S + V) = S + V := IntWalk.i64_in _ ⟨by omega, by omega⟩
        have hkn : k ≤ n := by omega
        replace hs1 := Lib.hid hs1
        replace hS := Lib.hid hS
        replace hV := Lib.hid hV
        replace hfc := Lib.hid hfc
        have ho1 : OwnI (wok.alloc (.cells #[.int .i64 (k : Int)] 3)) wok.heap.size (some ⟨wok.heap.size, 0, none⟩) 1 1 [(k : Int)] := World.ownsRow_lit wok #[.int .i64 (k : Int)] 1 (Nat.le_refl _) (by decide) rfl
        have lit := Lib.hid ho1.row
        clear ho1
        go_wp2_with fail
        refine (sc_ok hfc.out _ _ _ _ _ (p.out.alloc _) lit.out (by omega) (by omega)).mono ?_
        rintro e w4 ⟨rfl, hb0⟩
        have hb : Below wok.heap.size wok w4 := ((Below.refl _ _).alloc (Nat.le_refl _) _).trans (hb0.mono (by simp))
        clear hb0 lit
        have szw4 := hb.size
        replace p := Lib.hid (p.out.bel hb)
        replace bb := Lib.hid (bb.out.trans (hb.mono bb.out.size))
        clear hb
        go_wp2_with fail
        go_loopw [7, 9] (fun x t wr => x = .int .i64 (S + V) ∧ t = .int .i64 0 ∧ Hid (w4 = wr)) (fun _ _ _ => 0)
        case atStart => exact ⟨rfl, rfl, Lib.hid rfl⟩
        case round =>
          obtain ⟨rfl, rfl, hwr⟩ := hrel
          obtain rfl := hwr.out
          clear hwr
          go_wp2_with fail
          exact ⟨⟨k + 1, by omega, by go_num, by rw [hs1.out], p, bb⟩, by simp [intOf]; omega⟩
      obtain rfl : k = n + 1 := by omega
      rw [eF.out]
      clear hlt hk
      go_wp2_with fail
      go_ret
      exact ⟨rfl, bb.out⟩
  have hsv : ∀ i k : Nat, i ≤ n → k ≤ n → sumsB xs [(i : Int), (k : Int)] = true := fun i k hi hk => by
    unfold sumsB
    rw [Bool.and_eq_true, Bool.and_eq_true, Bool.and_eq_true]
    refine ⟨inB_yes (by omega) (by omega), inB_yes (by simp) (by simp), allIn_iff.2 fun j hj => ?_, allIn_iff.2 fun j hj => ?_⟩
    · have := hx j (by omega); simpa using this
    · have hj2 : j = 0 ∨ j = 1 := by simp at hj; omega
      rcases hj2 with rfl | rfl <;> simp <;> omega
  obtain ⟨F, hF⟩ : ∃ f : Nat → Nat → Int, (fun i k : Nat => cntS xs [(i : Int), (k : Int)]) = f := ⟨_, rfl⟩
  have hFb : Hid (∀ i k, 0 ≤ F i k ∧ F i k ≤ 68719476736) := Lib.hid fun i k => by
    rw [← hF]
    have := cnt_16 (rows := xs) (cols := [(i : Int), (k : Int)]) (by simp; omega)
    exact (show 0 ≤ cntS xs [(i : Int), (k : Int)] ∧ cntS xs [(i : Int), (k : Int)] ≤ 68719476736 from ⟨this.1, by omega⟩)
  have hFc : Hid (∀ i k : Nat, i < n + 1 → k < n + 1 → scO xs [(i : Int), (k : Int)] = F i k) := Lib.hid fun i k hi hk => by rw [← hF]; exact sco_yes (ctdB_of (hsv i k (by omega) (by omega)) (by simp; omega))
  obtain ⟨G, hG⟩ : ∃ g : Nat → Int, (fun i => sumI (F i) (n + 1)) = g := ⟨_, rfl⟩
  have hGr : Hid (∀ i, sumI (F i) (n + 1) = G i) := Lib.hid fun i => by rw [← hG]
  have hGb : Hid (∀ i, 0 ≤ G i ∧ G i ≤ 412316860416) := Lib.hid fun i => by
    have := sumI_bd36 (hFb.out i) (n + 1)
    rw [hGr.out i] at this
    exact ⟨by omega, by omega⟩
  have hGs : Hid (∀ i, 0 ≤ sumI G i ∧ sumI G i ≤ (i : Int) * 412316860416) := Lib.hid (sumI_bdq hGb.out)
  have eG : Hid (sumI G (n + 1) = N) := Lib.hid (by rw [← hG, ← hF, ← hNc, ← lx]; exact cnt_sum2 rfl hmem)
  replace hF := Lib.hid hF
  replace hG := Lib.hid hG
  clear hsv hmem hx hNc
  go_wp2_with fail
  go_loopw [7, 8] (fun x v wr => ∃ v' : Nat, v' ≤ n + 1 ∧ v = .int .i64 v' ∧ x = .int .i64 (sumI G v') ∧ Hid (Row wr aR n xs) ∧ Hid (Below w.heap.size w wr)) (fun _ v _ => n + 1 - (intOf v).toNat)
  case atStart => exact ⟨0, Nat.zero_le _, rfl, rfl, p, bb⟩
  case round =>
    clear p bb
    obtain ⟨k, hk, rfl, rfl, p, bb⟩ := hrel
    obtain ⟨wok, rfl⟩ : ∃ wo : World, wo = wr := ⟨_, rfl⟩
    have bz := bb.out.size
    by_cases hlt : k < n + 1
    case pos =>
      have c1 := hGs.out k
      have c2 := hGb.out k
      have c3 := hGr.out k
      have c4 : sumI G (k + 1) = sumI G k + G k := rfl
      obtain ⟨S, hS⟩ : ∃ S, sumI G k = S := ⟨_, rfl⟩
      rw [hS] at c1 c4
      rw [hS]
      obtain ⟨g, hg⟩ : ∃ g, G k = g := ⟨_, rfl⟩
      rw [hg] at c2 c3 c4
      obtain ⟨f, hf⟩ : ∃ f, F k = f := ⟨_, rfl⟩
      rw [hf] at c3
      have hfb : Hid (∀ l, 0 ≤ f l ∧ f l ≤ 68719476736) := Lib.hid (hf ▸ hFb.out k)
      have hfs : Hid (∀ l, 0 ≤ sumI f l ∧ sumI f l ≤ (l : Int) * 68719476736) := Lib.hid (sumI_bd36 hfb.out)
      have hfc : Hid (∀ l : Nat, l < n + 1 → scO xs [(k : Int), (l : Int)] = f l) := Lib.hid (fun l hl => hf ▸ hFc.out k l hlt hl)
      have hkn : k ≤ n := by omega
      replace c3 := Lib.hid c3
      replace c4 := Lib.hid c4
      replace hS := Lib.hid hS
      replace hf := Lib.hid hf
      replace hg := Lib.hid hg
      go_wp2_with fail
      go_loopw [7, 9] (fun x v wr => ∃ v' : Nat, v' ≤ n + 1 ∧ v = .int .i64 v' ∧ x = .int .i64 (S + sumI f v') ∧ Hid (Row wr aR n xs) ∧ Hid (Below w.heap.size w wr)) (fun _ v _ => n + 1 - (intOf v).toNat)
      case atStart => exact ⟨0, Nat.zero_le _, rfl, by show Value.int .i64 S = .int .i64 (S + 0); rw [Int.add_zero], p, bb⟩
      case round =>
        clear p bb
        obtain ⟨l, hl, rfl, rfl, p, bb⟩ := hrel
        obtain ⟨wol, rfl⟩ : ∃ wo : World, wo = wr := ⟨_, rfl⟩
        have bz2 := bb.out.size
        by_cases hll : l < n + 1
        case pos =>
          have d0 := hfc.out l hll
          have d1 := hfs.out l
          have d2 := hfb.out l
          have d3 : sumI f (l + 1) = sumI f l + f l := rfl
          obtain ⟨U, hU⟩ : ∃ U, sumI f l = U := ⟨_, rfl⟩
          obtain ⟨V, hV⟩ : ∃ V, f l = V := ⟨_, rfl⟩
          rw [hU, hV] at d3
          rw [hU] at d1
          rw [hV] at d0 d2
          rw [hU]
          have iw : IntKind.i64.wrap (S + U + V) = S + U + V := IntWalk.i64_in _ ⟨by omega, by omega⟩
          have e4 : S + sumI f (l + 1) = S + U + V := by rw [d3, Int.add_assoc]
          have hln : l ≤ n := by omega
          replace d0 := Lib.hid d0
          replace d3 := Lib.hid d3
          replace hU := Lib.hid hU
          replace hV := Lib.hid hV
          replace e4 := Lib.hid e4
          have ho1 : OwnI (wol.alloc (.cells #[.int .i64 (k : Int), .int .i64 (l : Int)] 3)) wol.heap.size (some ⟨wol.heap.size, 0, none⟩) 2 2 [(k : Int), (l : Int)] := World.ownsRow_lit wol #[.int .i64 (k : Int), .int .i64 (l : Int)] 2 (Nat.le_refl _) (by decide) rfl
          have lit := Lib.hid ho1.row
          clear ho1
          go_wp2_with fail
          refine (sc_ok d0.out _ _ _ _ _ (p.out.alloc _) lit.out (by omega) (by omega)).mono ?_
          rintro e w5 ⟨rfl, hb0⟩
          have hb : Below wol.heap.size wol w5 := ((Below.refl _ _).alloc (Nat.le_refl _) _).trans (hb0.mono (by simp))
          clear hb0 lit
          have szw5 := hb.size
          replace p := Lib.hid (p.out.bel hb)
          replace bb := Lib.hid (bb.out.trans (hb.mono bb.out.size))
          clear hb
          go_wp2_with fail
          exact ⟨⟨l + 1, by omega, by go_num, by rw [e4.out], p, bb⟩, by simp [intOf]; omega⟩
        obtain rfl : l = n + 1 := by omega
        rw [c3.out]
        clear hll hl
        go_wp2_with fail
        exact ⟨⟨k + 1, by omega, by go_num, by rw [c4.out], p, bb⟩, by simp [intOf]; omega⟩
    obtain rfl : k = n + 1 := by omega
    rw [eG.out]
    clear hlt hk
    go_wp2_with fail
    go_ret
    exact ⟨rfl, bb.out⟩

set_option maxRecDepth 100000 in
theorem lifted (os : Os) (started : os.Started) (H : Type) (enc : TypeId × Value → H) :
    ReturnsInHanded {} Try.checked os 10 .any (Rows.fnCountAllSumSpec.pre6 enc Try.prog Try.f10 Rows.fnCountAllSumRow.domain false) (Rows.fnCountAllSumSpec.post enc Try.prog Try.f10 false true false false) := by
  refine returnsInHanded_of_change (C := Try.checked) own started (by kernel_rfl) Try.func10
    (ChangeSpec.witness6 (enc := enc) (C := Try.checked) false ⟨#[], #[.slice none 0 0], []⟩ 8 (by kernel_rfl) (by kernel_rfl) (by kernel_rfl) (by kernel_rfl)) ?_
  intro W base args ds gs before hval0 hW hcnd _
  have hval : ∀ (j : Nat) t v, Try.f10.params[j]? = some t → args[j]? = some v → Value.okWide Try.prog W .any base t v := hval0
  have hW' := hW
  obtain ⟨p, q, hA0, hV, rfl, hfz, hnd⟩ := hW
  have hA : DataW.TrodAll enc Try.prog W 0 (fun _ => true) true Try.f10.params.toList args.toList ds p := hA0
  rw [Try.params10] at hA hval
  obtain ⟨v0, vs0, d0, ds0, p0, q0, hargs, rfl, rfl, h0, r0⟩ := trodAll_cons hA
  obtain ⟨rfl, rfl, rfl⟩ := trodAll_nil r0
  obtain rfl : args = #[v0] := by cases args; simp_all
  obtain ⟨rfl, rfl⟩ := trodVars_none hV
  have k0 := h0
  have lt0 : ∀ x ∈ p0, x.block < W.heap.size := by obtain ⟨m, hm⟩ := k0; exact DataW.trod_lt m _ _ _ hm
  obtain ⟨a0, len0, cap0, z0, rfl, w0, l0, m0⟩ := open_code (hval 0 22 v0 rfl rfl) h0
  clear hA0 hval0
  refine (walk a0 len0 cap0 z0 W w0 l0 m0).mono fun e W' ⟨he, bel⟩ => ?_
  subst he
  exact ⟨_, rfl, _, _, _, [], _, [], hW', trodAll_mk1 (shut_bool Try.underlying4 _), (trodAll_cons_mk (Below.trod laidOut (by kernel_rfl) (of_decide_eq_true (by kernel_rfl)) k0 bel lt0) trodAll_mk0), rfl, bel.frame _, fun h => by cases h⟩

theorem closed : joinedFacts Try.prog 10 Try.f10 Rows.fnCountAllSumSpec Rows.fnCountAllSumRow = true := by
  simp only [joinedFacts, Bool.and_eq_true]
  repeat' apply And.intro
  all_goals first | with_reducible exact mayEnterOk | (with_reducible rw [liftsFinalOk]; kernel_rfl) | (with_reducible rw [makeOk]; kernel_rfl) | kernel_rfl

theorem over : Rows.fnCountAllSumRow.holds Try.pinned (OpenSpec.ofChange Rows.fnCountAllSumSpec) :=
  OpenClaim.holds_of_wide 10 Try.f10 rfl rfl rfl rfl rfl rfl rfl ⟨rfl, rfl, rfl, rfl, rfl⟩ rfl rfl rfl rfl rfl (by kernel_rfl) Try.func10 closed
    (of_decide_eq_true (by kernel_rfl)) (by unfold Func.isWrapper; first | (rw [if_pos (by decide +kernel)]; kernel_rfl) | (rw [if_neg (by decide +kernel)]; exact ⟨rfl, rfl⟩))
    (fun os started H enc _ => lifted os started H enc)

theorem proved : Rows.FnCountAllSumSaid := over
#print axioms proved
end Go.Proofs.Ytmfncheimmcobaa.LFCountAllSum

