/-
  For every slice of bytes the law FnCountOnes answers true: rows of one cell are chosen freely; nothing that was there is written; no condition.
-/
import Derived.Test.YtnfkafaolelkbaaO
import Derived.Test.YtnfkafaolelkbaaK
import Derived.Deep.RegionLaw
import Derived.Test.YtnfkafaolelkbaaYa
import Derived.Test.YtnfkafaolelkbaaJn
import Derived.Test.YtnfkafaolelkbaaJf
import Derived.Test.YtnfkafaolelkbaaEp
namespace Go.Proofs.Ytnfkafaolelkbaa.LFCountOnes
open Go.ChangeShapes Go.WideShapes Go.ChangeAt Go.RowKit Go.Joins

theorem fac_720 : ∀ k : Nat, k < 7 → 1 ≤ fac k ∧ fac k ≤ 720 := by decide +kernel
theorem fac_pos : ∀ k : Nat, 1 ≤ fac k
  | 0 => Int.le_refl _
  | k + 1 => by
    have h := fac_pos k
    show 1 ≤ fac k * ((k : Int) + 1)
    have : fac k * 1 ≤ fac k * ((k : Int) + 1) := Int.mul_le_mul_of_nonneg_left (by omega) (by omega)
    omega
theorem dv_bd {A : Int} (h0 : 0 ≤ A) (h1 : A ≤ 720) : ∀ k : Nat, 0 ≤ dvI A k ∧ dvI A k ≤ 720
  | 0 => ⟨h0, h1⟩
  | k + 1 => by
    have h := dv_bd h0 h1 k
    show 0 ≤ dvI A k / ((k : Int) + 1) ∧ dvI A k / ((k : Int) + 1) ≤ 720
    exact ⟨Int.ediv_nonneg h.1 (by omega), Int.le_trans (Int.ediv_le_self _ h.1) h.2⟩
theorem ones_chain {xs ys : List Int} {N : Int} {n m : Nat} (h0 : 0 ≤ N) (h : cntS xs ys * facP ys = fac xs.length) (lx : xs.length = n) (ly : ys.length = m) (hn : n ≤ 6) (hNc : cntS xs ys = N) :
    ∃ Af : Nat → Int, fac n = Af 0 ∧ Af m = N ∧ (∀ j, j < m → Af j = Af (j + 1) * fac (ys.getD j 0).toNat) ∧ ∀ j, j ≤ m → 0 ≤ Af j ∧ Af j ≤ 720 := by
  rw [hNc, lx] at h
  obtain ⟨Q, hQ⟩ : ∃ Q : Nat → Int, (fun j => prodI (fun q => fac (ys.getD (j + q) 0).toNat) (m - j)) = Q := ⟨_, rfl⟩
  have q0 : Q 0 = facP ys := by rw [← hQ]; unfold facP; rw [ly]; exact prod_ext fun i _ => by rw [Nat.zero_add]
  have qm : Q m = 1 := by rw [← hQ]; show prodI _ (m - m) = 1; rw [Nat.sub_self]; rfl
  have qs : ∀ j, j < m → Q j = fac (ys.getD j 0).toNat * Q (j + 1) := fun j hj => by
    rw [← hQ]
    show prodI _ (m - j) = _ * prodI _ (m - (j + 1))
    rw [show m - j = (m - (j + 1)) + 1 by omega, prod_shift]
    rw [Nat.add_zero]
    congr 1
    exact prod_ext fun i _ => by rw [show j + (i + 1) = j + 1 + i by omega]
  have hs : ∀ j, j < m → N * Q j = N * Q (j + 1) * fac (ys.getD j 0).toNat := fun j hj => by
    rw [qs j hj, Int.mul_assoc, Int.mul_comm (Q (j + 1))]
  have hnn : ∀ d j, m - j = d → j ≤ m → 0 ≤ N * Q j := fun d => by
    induction d with
    | zero => intro j h1 h2; obtain rfl : j = m := by omega
              rw [qm, Int.mul_one]; exact h0
    | succ d ih =>
      intro j h1 h2
      have h3 := ih (j + 1) (by omega) (by omega)
      rw [hs j (by omega)]
      exact Int.mul_nonneg h3 (by have := fac_pos (ys.getD j 0).toNat; omega)
  have hle : ∀ j, j ≤ m → N * Q j ≤ 720 := fun j => by
    induction j with
    | zero => intro _; rw [q0, h]; exact (fac_720 n (by omega)).2
    | succ j ih =>
      intro hj
      have h1 := ih (by omega)
      rw [hs j (by omega)] at h1
      have h2 := hnn _ (j + 1) rfl hj
      have h3 := fac_pos (ys.getD j 0).toNat
      have h4 : N * Q (j + 1) * 1 ≤ N * Q (j + 1) * fac (ys.getD j 0).toNat := Int.mul_le_mul_of_nonneg_left h3 h2
      omega
  exact ⟨fun j => N * Q j, by show fac n = N * Q 0; rw [q0, h], by show N * Q m = N; rw [qm, Int.mul_one], hs, fun j hj => ⟨hnn _ j rfl hj, hle j hj⟩⟩

set_option maxHeartbeats 4000000 in
set_option maxRecDepth 100000 in
theorem walk (a : Option Addr) (len cap : Nat) (zs : List Int) (w : World) (h : Bys w a len zs) (hl : len ≤ cap) (hm : cap ≤ 9223372036854775807) :
    Calls Try.prog 3 #[.slice a len cap] w fun e w' => e = .returned (.bool true) ∧ Below w.heap.size w w' := by
  by_cases hbig : 1048576 < len
  · clear h
    go_enter Try.func3, Try.ntmps3
    go_wp2_with fail
    go_ret
    exact ⟨rfl, Below.refl _ _⟩
  go_enter Try.func3, Try.ntmps3
  go_wp2_with fail
  refine (draw_DrawSumsCount a len cap zs _ h hl hm).mono ?_
  rintro e w1 ⟨aR, n, cR, xs, aC, m, cC, ys, rfl, hR, hC, hnm, hcap, hb1⟩
  clear h hl hm
  have bb := Lib.hid hb1
  have p := Lib.hid hR.row
  have q := Lib.hid hC.row
  have lx := hR.len
  have ly := hC.len
  have hn13 : n ≤ 13 := by omega
  have hm13 : m ≤ 13 := by omega
  clear hR hC hb1
  obtain ⟨N, hN⟩ : ∃ N, scO xs ys = N := ⟨_, rfl⟩
  go_wp2_with fail
  refine (sc_ok hN _ _ _ _ _ p.out q.out hn13 hm13).mono ?_
  rintro e w2 ⟨rfl, hb⟩
  have szw2 := hb.size
  replace p := Lib.hid (p.out.bel hb)
  replace q := Lib.hid (q.out.bel hb)
  replace bb := Lib.hid (bb.out.trans (hb.mono bb.out.size))
  clear hb
  go_wp2_with fail
  refine (sc_sok hN _ _ _ _ _ p.out q.out hn13 hm13 hcap.1).mono ?_
  rintro e w3 ⟨rfl, hb⟩
  have szw3 := hb.size
  replace p := Lib.hid (p.out.bel hb)
  replace q := Lib.hid (q.out.bel hb)
  replace bb := Lib.hid (bb.out.trans (hb.mono bb.out.size))
  clear hb
  by_cases hct : ctdB xs ys = true
  case neg =>
    obtain rfl : N = -1 := by rw [← hN]; exact if_neg hct
    replace hct := Lib.hid hct
    go_wp2_with fail
    go_ret
    exact ⟨rfl, bb.out⟩
  have hv := (ctdB_parts hct).1
  have h16 := (ctdB_parts hct).2
  rw [lx, ly] at h16
  have hp := sumsB_parts hv
  rw [lx, ly] at hp
  have hn1 := hp.1.1
  have hn6 := hp.1.2
  have hm1 := hp.2.1.1
  have hm6 := hp.2.1.2
  have bx := Lib.hid hp.2.2.1
  have by' := Lib.hid hp.2.2.2
  have hex := Lib.hid (sums_el hv).1
  have hey := Lib.hid (sums_el hv).2
  clear hp
  have hNc : cntS xs ys = N := (sco_yes hct).symm.trans hN
  have hNb := sco_bd hct
  rw [hNc] at hNb
  have hN0 : ¬ N < 0 := by omega
  have hps : ∀ k : Nat, psum ys k = sumI (fun i => ys.getD i 0) k := fun k => by
    induction k with
    | zero => rfl
    | succ k ih => show psum ys k + ys.getD k 0 = sumI _ k + ys.getD k 0; rw [ih]
  obtain ⟨T, hT⟩ : ∃ T, sumI (fun i => ys.getD i 0) m = T := ⟨_, rfl⟩
  have hLT : lsum ys = T := by rw [← psum_all ys, ly, hps, hT]
  have hone := Lib.hid (fun (h1 : ∀ i, i < n → xs.getD i 0 = 1) (h2 : T = n) => ones_chain (N := N) hNb.1 (cnt_ones hv (by rw [lx]; exact h1) (by rw [hLT, lx]; exact h2)) lx ly hn6 hNc)
  have b6 : Hid (∀ k, k < m → 0 ≤ ys.getD k 0 ∧ ys.getD k 0 ≤ 6) := Lib.hid fun k hk => by
    have := by'.out k hk
    exact ⟨by omega, by omega⟩
  have g0 : decide (0 ≤ N) = true := decide_eq_true hNb.1
  have hfb := Lib.hid fac_720
  replace hT := Lib.hid hT
  replace hLT := Lib.hid hLT
  have lxh := Lib.hid lx
  have lyh := Lib.hid ly
  clear hps
  replace hv := Lib.hid hv
  replace hN := Lib.hid hN
  replace hNc := Lib.hid hNc
  replace hct := Lib.hid hct
  go_wp2_with fail
  have hst : Hid (∀ j, j < 0 → xs.getD j 0 = 1) := Lib.hid fun j hj => absurd hj (Nat.not_lt_zero j)
  go_loopw [7, 8] (fun a t wr => ∃ i : Nat, i ≤ n ∧ t = .int .i64 i ∧ a = .int .i64 (fac i) ∧ Hid (∀ j, j < i → xs.getD j 0 = 1) ∧ Hid (i = 0 ∨ T = n) ∧ Hid (Row wr aR n xs) ∧ Hid (Row wr aC m ys) ∧ Hid (Below w.heap.size w wr)) (fun _ t _ => n - (intOf t).toNat)
  case atStart => exact ⟨0, Nat.zero_le _, rfl, rfl, hst, Lib.hid (.inl rfl), p, q, bb⟩
  case round =>
    clear p q bb
    obtain ⟨i, hi, rfl, rfl, hpre, hor, p, q, bb⟩ := hrel
    obtain ⟨w4, rfl⟩ : ∃ w4 : World, w4 = wr := ⟨_, rfl⟩
    clear hst
    by_cases hlt : i < n
    case pos =>
      obtain ⟨pb, po, ep, pc⟩ := row_at p.out hlt
      subst ep
      obtain ⟨x, hx⟩ : ∃ x, xs.getD i 0 = x := ⟨_, rfl⟩
      rw [hx] at pc
      have hfi := hfb.out i (by omega)
      have hfi2 := hfb.out (i + 1) (by omega)
      have hfs : fac (i + 1) = fac i * ((i : Int) + 1) := rfl
      obtain ⟨F, hF⟩ : ∃ F, fac i = F := ⟨_, rfl⟩
      rw [hF] at hfs hfi ⊢
      obtain ⟨F2, hF2⟩ : ∃ F2, fac (i + 1) = F2 := ⟨_, rfl⟩
      rw [hF2] at hfs hfi2
      have i1 : IntKind.i64.wrap ((i : Int) + 1) = (i : Int) + 1 := IntWalk.i64_in _ ⟨by omega, by omega⟩
      have i2 : IntKind.i64.wrap (F * ((i : Int) + 1)) = F2 := by rw [← hfs]; exact IntWalk.i64_in _ ⟨by omega, by omega⟩
      have i3 : wrap64 (F * ((i : Int) + 1)) = F2 := by rw [← hfs]; exact IntWalk.wrap64_in _ ⟨by omega, by omega⟩
      replace hfs := Lib.hid hfs
      replace hF := Lib.hid hF
      replace hF2 := Lib.hid hF2
      by_cases h1 : x = 1
      case neg =>
        have g1 : (x != 1) = true := by simpa using h1
        replace hx := Lib.hid hx
        clear h1
        go_wp2_with fail
        go_ret
        exact ⟨rfl, bb.out⟩
      have g1 : (x != 1) = false := by simpa using h1
      by_cases h2 : T = n
      case neg =>
        have g2 : (T != (n : Int)) = true := by simpa using h2
        replace hx := Lib.hid hx
        clear h1 h2
        go_wp2_with fail
        refine (sumOf_bel _ _ _ _ _ q.out (by omega) b6.out _ hT.out).mono ?_
        rintro e w5 ⟨rfl, hb⟩
        have szw5 := hb.size
        replace p := Lib.hid (p.out.bel hb)
        replace q := Lib.hid (q.out.bel hb)
        replace bb := Lib.hid (bb.out.trans (hb.mono bb.out.size))
        clear hb
        go_wp2_with fail
        go_ret
        exact ⟨rfl, bb.out⟩
      have g2 : (T != (n : Int)) = false := by simpa using h2
      have hpre2 : Hid (∀ j, j < i + 1 → xs.getD j 0 = 1) := Lib.hid fun j hj => by
        by_cases e : j = i
        · subst e; rw [hx, h1]
        · exact hpre.out j (by omega)
      have hor2 : Hid (i + 1 = 0 ∨ T = n) := Lib.hid (.inr h2)
      replace hx := Lib.hid hx
      clear h1 h2
      go_wp2_with fail
      refine (sumOf_bel _ _ _ _ _ q.out (by omega) b6.out _ hT.out).mono ?_
      rintro e w6 ⟨rfl, hb⟩
      have szw6 := hb.size
      replace p := Lib.hid (p.out.bel hb)
      replace q := Lib.hid (q.out.bel hb)
      replace bb := Lib.hid (bb.out.trans (hb.mono bb.out.size))
      clear hb
      go_wp2_with fail
      exact ⟨⟨i + 1, by omega, by go_num, by rw [hF2.out], hpre2, hor2, p, q, bb⟩, by simp [intOf]; omega⟩
    obtain rfl : n = i := by omega
    have hTn : T = n := by
      rcases hor.out with h | h
      · omega
      · exact h
    obtain ⟨Af, hA0, hAm, hAs, hAb⟩ := hone.out hpre.out hTn
    rw [hA0]
    replace hA0 := Lib.hid hA0
    replace hAm := Lib.hid hAm
    replace hAs := Lib.hid hAs
    replace hAb := Lib.hid hAb
    clear hlt hi
    go_wp2_with fail
    go_loopw [7, 9] (fun a t wr => ∃ j : Nat, j ≤ m ∧ t = .int .i64 j ∧ a = .int .i64 (Af j) ∧ Hid (Row wr aR n xs) ∧ Hid (Row wr aC m ys) ∧ Hid (Below w.heap.size w wr)) (fun _ t _ => m - (intOf t).toNat)
    case atStart => exact ⟨0, Nat.zero_le _, rfl, rfl, p, q, bb⟩
    case round =>
      clear p q bb
      obtain ⟨j, hj, rfl, rfl, p, q, bb⟩ := hrel
      obtain ⟨w7, rfl⟩ : ∃ w7 : World, w7 = wr := ⟨_, rfl⟩
      by_cases hlt : j < m
      case pos =>
        have hcb := b6.out j hlt
        have hs := hAs.out j hlt
        have hb1 := hAb.out j (by omega)
        have hb2 := hAb.out (j + 1) (by omega)
        obtain ⟨c, hc⟩ := Int.eq_ofNat_of_zero_le hcb.1
        rw [hc, Int.toNat_natCast] at hs
        rw [hc] at hcb
        have hdv := dv_fac (Af (j + 1)) c
        rw [← hs] at hdv
        obtain ⟨A, hA⟩ : ∃ A, Af j = A := ⟨_, rfl⟩
        obtain ⟨A2, hA2⟩ : ∃ A, Af (j + 1) = A := ⟨_, rfl⟩
        rw [hA] at hb1 hdv hs ⊢
        rw [hA2] at hb2 hdv
        have hdb := Lib.hid (dv_bd hb1.1 hb1.2)
        have hd1 : Hid (dvI A 1 = A) := Lib.hid (by show A / ((0 : Nat) + 1 : Int) = A; simp)
        replace hc := Lib.hid hc
        replace hA := Lib.hid hA
        replace hA2 := Lib.hid hA2
        replace hdv := Lib.hid hdv
        clear hs
        go_wp2_with fail
        go_loopw [7, 10] (fun a t wr => ∃ e : Nat, 2 ≤ e ∧ e ≤ max c 1 + 1 ∧ t = .int .i64 e ∧ a = .int .i64 (dvI A (e - 1)) ∧ Hid (Row wr aR n xs) ∧ Hid (Row wr aC m ys) ∧ Hid (Below w.heap.size w wr)) (fun _ t _ => 8 - (intOf t).toNat)
        case atStart => exact ⟨2, Nat.le_refl _, by omega, rfl, by rw [hd1.out], p, q, bb⟩
        case round =>
          clear p q bb
          obtain ⟨e, he2, he, rfl, rfl, p, q, bb⟩ := hrel
          obtain ⟨w8, rfl⟩ : ∃ w8 : World, w8 = wr := ⟨_, rfl⟩
          obtain ⟨qb, qo, eq, qc⟩ := row_at q.out hlt
          subst eq
          rw [hc.out] at qc
          have hd := hdb.out (e - 1)
          by_cases hec : e ≤ c
          case pos =>
            have g1 : decide ((e : Int) ≤ (c : Int)) = true := decide_eq_true (by omega)
            have hd2 := hdb.out e
            have hds : dvI A e = dvI A (e - 1) / (e : Int) := by
              obtain ⟨d, rfl⟩ : ∃ d, e = d + 1 := ⟨e - 1, by omega⟩
              rfl
            obtain ⟨V, hV⟩ : ∃ V, dvI A (e - 1) = V := ⟨_, rfl⟩
            rw [hV] at hds hd ⊢
            obtain ⟨V2, hV2⟩ : ∃ V, dvI A e = V := ⟨_, rfl⟩
            rw [hV2] at hds hd2
            have hne : ((e : Int) == 0) = false := by rw [beq_eq_false_iff_ne]; omega
            have hne2 : ¬ (e : Int) = 0 := by omega
            have i1 : V.tdiv (e : Int) = V2 := by rw [Int.tdiv_eq_ediv_of_nonneg hd.1, ← hds]
            have i2 : IntKind.i64.wrap V2 = V2 := IntWalk.i64_in _ ⟨by omega, by omega⟩
            have i2b : wrap64 V2 = V2 := IntWalk.wrap64_in _ ⟨by omega, by omega⟩
            have i3 : IntKind.i64.wrap ((e : Int) + 1) = (e : Int) + 1 := IntWalk.i64_in _ ⟨by omega, by omega⟩
            replace hds := Lib.hid hds
            replace hV := Lib.hid hV
            replace hV2 := Lib.hid hV2
            go_wp2_with fail
            exact ⟨⟨e + 1, by omega, by omega, by go_num, by rw [show e + 1 - 1 = e by omega, hV2.out], p, q, bb⟩, by simp [intOf]; omega⟩
          have g1 : decide ((e : Int) ≤ (c : Int)) = false := decide_eq_false (by omega)
          have g1b : decide (e ≤ c) = false := decide_eq_false hec
          have hfin : dvI A (e - 1) = A2 := by
            by_cases h0 : c = 0
            · subst h0
              obtain rfl : e = 2 := by omega
              exact hd1.out.trans hdv.out
            · obtain rfl : e = c + 1 := by omega
              exact hdv.out
          rw [hfin]
          clear hfin hd
          go_wp2_with fail
          exact ⟨⟨j + 1, by omega, by go_num, by rw [hA2.out], p, q, bb⟩, by simp [intOf]; omega⟩
      obtain rfl : m = j := by omega
      rw [hAm.out]
      have hfin : (N == N) = true := by simp
      go_wp2_with fail
      go_ret
      exact ⟨rfl, bb.out⟩

set_option maxRecDepth 100000 in
theorem lifted (os : Os) (started : os.Started) (H : Type) (enc : TypeId × Value → H) :
    ReturnsInHanded {} Try.checked os 3 .any (Rows.fnCountOnesSpec.pre6 enc Try.prog Try.f3 Rows.fnCountOnesRow.domain false) (Rows.fnCountOnesSpec.post enc Try.prog Try.f3 false true false false) := by
  refine returnsInHanded_of_change (C := Try.checked) own started (by kernel_rfl) Try.func3
    (ChangeSpec.witness6 (enc := enc) (C := Try.checked) false ⟨#[], #[.slice none 0 0], []⟩ 8 (by kernel_rfl) (by kernel_rfl) (by kernel_rfl) (by kernel_rfl)) ?_
  intro W base args ds gs before hval0 hW hcnd _
  have hval : ∀ (j : Nat) t v, Try.f3.params[j]? = some t → args[j]? = some v → Value.okWide Try.prog W .any base t v := hval0
  have hW' := hW
  obtain ⟨p, q, hA0, hV, rfl, hfz, hnd⟩ := hW
  have hA : DataW.TrodAll enc Try.prog W 0 (fun _ => true) true Try.f3.params.toList args.toList ds p := hA0
  rw [Try.params3] at hA hval
  obtain ⟨v0, vs0, d0, ds0, p0, q0, hargs, rfl, rfl, h0, r0⟩ := trodAll_cons hA
  obtain ⟨rfl, rfl, rfl⟩ := trodAll_nil r0
  obtain rfl : args = #[v0] := by cases args; simp_all
  obtain ⟨rfl, rfl⟩ := trodVars_none hV
  have k0 := h0
  have lt0 : ∀ x ∈ p0, x.block < W.heap.size := by obtain ⟨m, hm⟩ := k0; exact DataW.trod_lt m _ _ _ hm
  obtain ⟨a0, len0, cap0, z0, rfl, w0, l0, m0⟩ := open_code (hval 0 22 v0 rfl rfl) h0
  clear hA0 hval0
  refine (walk a0 len0 cap0 z0 W w0 l0 m0).mono fun e W' ⟨he, bel⟩ => ?_
  subst he
  exact ⟨_, rfl, _, _, _, [], _, [], hW', trodAll_mk1 (shut_bool Try.underlying4 _), (trodAll_cons_mk (Below.trod laidOut (by kernel_rfl) (of_decide_eq_true (by kernel_rfl)) k0 bel lt0) trodAll_mk0), rfl, bel.frame _, fun h => by cases h⟩

theorem closed : joinedFacts Try.prog 3 Try.f3 Rows.fnCountOnesSpec Rows.fnCountOnesRow = true := by
  simp only [joinedFacts, Bool.and_eq_true]
  repeat' apply And.intro
  all_goals first | with_reducible exact mayEnterOk | (with_reducible rw [liftsFinalOk]; kernel_rfl) | (with_reducible rw [makeOk]; kernel_rfl) | kernel_rfl

theorem over : Rows.fnCountOnesRow.holds Try.pinned (OpenSpec.ofChange Rows.fnCountOnesSpec) :=
  OpenClaim.holds_of_wide 3 Try.f3 rfl rfl rfl rfl rfl rfl rfl ⟨rfl, rfl, rfl, rfl, rfl⟩ rfl rfl rfl rfl rfl (by kernel_rfl) Try.func3 closed
    (of_decide_eq_true (by kernel_rfl)) (by unfold Func.isWrapper; first | (rw [if_pos (by decide +kernel)]; kernel_rfl) | (rw [if_neg (by decide +kernel)]; exact ⟨rfl, rfl⟩))
    (fun os started H enc _ => lifted os started H enc)

theorem proved : Rows.FnCountOnesSaid := over
#print axioms proved
end Go.Proofs.Ytnfkafaolelkbaa.LFCountOnes

