/-
  The contract of countChosen: a map of counts, a row list at a time.
-/
import Derived.Test.YtnfkafaolelkbaaJo
import Derived.Test.YtnfkafaolelkbaaJq
import Derived.Deep.RegionLaw
namespace Go.Proofs.Ytnfkafaolelkbaa
set_option maxRecDepth 100000
open Go.RowKit Go.Maps

theorem laidJ : laidOutB Try.prog = true := by kernel_rfl
theorem keyLaw : WideMaps.KeyLaw Try.prog 88 := deep_law_laid laidJ (m := 2) (by omega) (of_decide_eq_true (by kernel_rfl)) (by kernel_rfl) (by rw [Try.underlying88])
theorem typesN : Try.prog.types.size = (Try.prog.types.size - 1) + 1 := by kernel_rfl
theorem sixKey : SixKey Try.prog 88 :=
  ⟨Keyed.of_law keyLaw, fun kv h => keyOf_six Try.underlying88 Try.underlying3 (by kernel_rfl) (by kernel_rfl) (by kernel_rfl) typesN h.1 h.wf⟩
/-- A map of counts at column sums. -/
abbrev CntAt (w : World) (b n i : Nat) (N : List Int → Int) : Prop := MapAt w Try.prog 88 3 b n i N
abbrev CntRange (w : World) (b r n i : Nat) (N : List Int → Int) (ks : List (List Int)) (lf : List Int → Bool) (cnt : Nat) : Prop := RangeAt w Try.prog 88 3 b r n i N ks lf cnt
theorem zeroInt (w : World) : (zeroValue 3).run Try.prog w = .ok (.int .i64 0) w := by kernel_rfl
theorem pn_six (k : Nat) : pn (6 * (k + 1)) = pn (6 * k) * 64 := by
  have h5 : pw (6 * (k + 1)) = pw (6 * k) * 64 := by
    rw [show 6 * (k + 1) = 6 * k + 1 + 1 + 1 + 1 + 1 + 1 by omega]
    simp only [pw_succ]; omega
  have h1 := pn_int (6 * k)
  have h2 := pn_int (6 * (k + 1))
  omega
theorem pn_36 {k : Nat} (h : k ≤ 6) : pn (6 * k) ≤ 68719476736 := by
  have h1 := pn_int (6 * k)
  have h2 := pw_le (6 * k) 36 (by omega)
  have h3 : pw 36 = 68719476736 := by decide
  omega
theorem zer_good (i : Nat) : Gd6 i zerV := ⟨zer_len, fun j hj => by rw [zer_get hj]; omega⟩
/-- A box of an array, made and filled. -/
theorem arr_made (w : World) (a0 a1 a2 a3 a4 a5 : Int) : ∃ W', W' = w.alloc (.cells #[.int .i64 a0, .int .i64 a1, .int .i64 a2, .int .i64 a3, .int .i64 a4, .int .i64 a5] 88) ∧
    Arr W' w.heap.size [a0, a1, a2, a3, a4, a5] ∧ Below w.heap.size w W' := by
  refine ⟨_, rfl, ⟨rfl, fun i hi => ?_, fun o => by go_simp⟩, (Below.refl _ _).alloc (Nat.le_refl _) _⟩
  match i, hi with
  | 0, _ => go_simp
  | 1, _ => go_simp
  | 2, _ => go_simp
  | 3, _ => go_simp
  | 4, _ => go_simp
  | 5, _ => go_simp
theorem six_of {kv : List Int} (h : kv.length = 6) : ∃ a0 a1 a2 a3 a4 a5 : Int, kv = [a0, a1, a2, a3, a4, a5] := by
  match kv, h with
  | [a0, a1, a2, a3, a4, a5], _ => exact ⟨a0, a1, a2, a3, a4, a5, rfl⟩

set_option maxHeartbeats 4000000 in
theorem chosen_any (a : Option Addr) (n cap : Nat) (C : List (List Int)) (b : Option Addr) (m cb : Nat) (cols : List Int) (w : World) (h : RowsAt w a n C) (hc : Row w b m cols) (hn : n ≤ 6) (h1 : 1 ≤ m) (h6 : m ≤ 6)
    (hcb : ∀ j, j < m → 0 ≤ cols.getD j 0 ∧ cols.getD j 0 ≤ 7) (hC : ∀ L, L ∈ C → L.length ≤ 64 ∧ ∀ x, x ∈ L → 0 ≤ x ∧ x ≤ 63) :
    Calls Try.prog 56 #[.slice a n cap, .slice b m cb] w fun e w' => e = .returned (.int .i64 (ckr C (padL cols))) ∧ Below w.heap.size w w' := by
  have hl := h.1
  have hR := Lib.hid h
  have hcR := Lib.hid hc
  have hC0 : Hid (∀ k, k < n → ∃ L, C[k]? = some L ∧ L.length ≤ 64 ∧ (∀ x, x ∈ L → 0 ≤ x ∧ x ≤ 63) ∧ C.take (k + 1) = C.take k ++ [L]) := fun k hk => by
    have h2 := hC _ (List.getElem_mem (show k < C.length by omega))
    exact ⟨C[k], by rw [List.getElem?_eq_getElem], h2.1, h2.2, by rw [List.take_add_one, List.getElem?_eq_getElem (show k < C.length by omega)]; rfl⟩
  have hbd : Hid (∀ k x, 0 ≤ ckr (C.take k) x ∧ (k ≤ 6 → ckr (C.take k) x ≤ 68719476736)) := fun k x => ⟨ckr_nn _ _, fun hk => by
    have e1 := ckr_bd (C := C.take k) x fun L hL => (hC L (List.mem_of_mem_take hL)).1
    have e2 := pw_le (6 * (C.take k).length) 36 (by rw [List.length_take]; omega)
    have h3 : pw 36 = 68719476736 := by decide
    omega⟩
  have hgood : Hid (Gd6 7 (padL cols)) := ⟨pad_len _, fun j hj => by
    rw [pad_get _ hj]
    by_cases e : j < m
    · exact hcb j e
    · rw [List.getD_eq_getElem?_getD, List.getElem?_eq_none (by have := hc.1; omega)]; simp⟩
  have hkn : Hid (∀ k (x : List Int), x.length = 6 → ckr (C.take k) x ≠ 0 → Gd6 k x) := fun k x hx hne => ⟨hx, fun j hj => by
    have := ckr_good hne j hj
    rw [List.length_take] at this
    omega⟩
  have hmm := @run_makeMap Try.prog
  clear h hc hC hcb
  go_enter Try.func56, Try.ntmps56
  have M0 : CntAt (w.alloc (.map #[] 0)) w.heap.size 0 0 fun _ => 0 := MapAt.made _ _ _ _ _
  go_wp2_with (refine wpList_insert_at sixKey Try.underlying89 Try.underlying3 rfl _ _ _ rfl rfl M0 (by unfold maxLen; omega) (by omega) zerV 1 rfl rfl (zer_good 0) (by decide) ?_)
  intro w1 M1 g1
  have hb1 : Hid (Below w.heap.size w w1) := ((Below.refl _ _).alloc (Nat.le_refl _) _).grown g1 (by simp) (fun k hk => by cases hk; exact Nat.le_refl _)
  have M2 : Hid (CntAt w1 w.heap.size (pn (6 * 0)) 0 (ckr (C.take 0))) := (M1.ext fun kv _ => rfl).mono (by decide)
  clear M0 M1 g1
  go_wp2_with fail
  go_loopw [5, 18] (fun o i wr => ∃ k mb : Nat, k ≤ n ∧ i = .int .i64 k ∧ o = .map (some mb) ∧ w.heap.size ≤ mb ∧ Hid (CntAt wr mb (pn (6 * k)) k (ckr (C.take k))) ∧ Hid (Below w.heap.size w wr)) (fun _ i _ => n - (intOf i).toNat)
  case atStart => exact ⟨0, w.heap.size, Nat.zero_le _, rfl, rfl, Nat.le_refl _, M2, hb1⟩
  case round =>
    clear M2 hb1
    obtain ⟨k, mb, hk, rfl, rfl, hmb, M, hB⟩ := hrel
    obtain ⟨wo, rfl⟩ : ∃ wo : World, wo = wr := ⟨_, rfl⟩
    have hBs := hB.out.size
    by_cases hlt : k < n
    case neg =>
      obtain rfl : k = n := by omega
      rw [List.take_of_length_le (by omega)] at M
      have hr2 := hcR.out.bel hB.out
      go_wp2_with fail
      refine (colSums_any b m cb cols wo hr2 h1 h6).mono ?_
      rintro e w2 ⟨rfl, hb⟩
      have M2 := M.out.kept (below_grown hb none) (by simp)
      have hB2 := Lib.hid (hB.out.trans (hb.mono hBs))
      clear hb hr2 M hB
      go_wp2_with (refine wpList_lookup_at sixKey Try.underlying89 Try.underlying3 (zeroInt _) rfl _ _ rfl rfl M2 (padL cols) rfl hgood.out ?_)
      go_wp2_with fail
      go_ret
      exact ⟨rfl, hB2.out⟩
    obtain ⟨L, hL, hL64, hLx, htk⟩ := hC0.out k hlt
    obtain ⟨ba, bo, rfl, hcell⟩ := hR.out.2.resolve_left (by omega)
    have hkC : k < C.length := by omega
    have hLe : C[k] = L := by rw [List.getElem?_eq_getElem hkC] at hL; exact Option.some.inj hL
    obtain ⟨a', c', hc1, hrow⟩ := hcell k hkC
    rw [hLe] at hc1 hrow
    replace hc1 := kept hB.out (block_lt hc1) hc1
    have hk7 : k + 1 ≤ 7 := by omega
    have hpn := pn_six k
    have hp36 := pn_36 (k := k) (by omega)
    have hNb := Lib.hid (hbd.out k)
    have hNf := Lib.hid (hbd.out (k + 1))
    have hkn1 := Lib.hid (hkn.out k)
    have hfull : Hid (∀ x : List Int, ckr (C.take (k + 1)) x = ckr (C.take k ++ [L]) x) := fun x => by rw [htk]
    obtain ⟨N, hN⟩ : ∃ N, ckr (C.take k) = N := ⟨_, rfl⟩
    rw [hN] at M hNb hkn1
    have hNL : Hid (∀ (ks : List (List Int)) (lf : List Int → Bool), ks.Nodup → (∀ kv, kv ∈ ks → kv.length = 6) → (∀ kv : List Int, kv.length = 6 → N kv ≠ 0 → kv ∈ ks) → (∀ kv, kv ∈ ks → lf kv = false) → ∀ x : List Int, x.length = 6 → nxS ks N L lf x = ckr (C.take (k + 1)) x) := by
      subst hN
      intro ks lf d1 d2 d3 d4 x d5
      rw [hfull.out]; exact nx_full d1 d2 d3 d4 d5
    obtain ⟨N2, hN2⟩ : ∃ N2, ckr (C.take (k + 1)) = N2 := ⟨_, rfl⟩
    rw [hN2] at hNL hNf
    obtain ⟨P0, hP0⟩ : ∃ P0, pn (6 * k) = P0 := ⟨_, rfl⟩
    rw [hP0] at M hpn hp36
    obtain ⟨P1, hP1⟩ : ∃ P1, pn (6 * (k + 1)) = P1 := ⟨_, rfl⟩
    rw [hP1] at hpn
    replace hN := Lib.hid hN
    replace hN2 := Lib.hid hN2
    replace hP0 := Lib.hid hP0
    replace hP1 := Lib.hid hP1
    replace hrow := Lib.hid hrow
    obtain ⟨len, hlen⟩ : ∃ len, L.length = len := ⟨_, rfl⟩
    rw [hlen] at hc1 hrow hL64
    replace hlen := Lib.hid hlen
    clear hL hLe hcell htk hfull hkC
    have e1 : (wo.alloc (.map #[] 0)).heap.size = wo.heap.size + 1 := by simp
    have Mz : Hid (CntAt (wo.alloc (.map #[] 0)) wo.heap.size 0 (k + 1) fun _ => 0) := MapAt.made _ _ _ _ _
    have Ma := M.out.kept (World.grownBy_alloc wo (.map #[] 0) none) (by simp)
    have hmlt := M.out.lt
    go_wp2_with (first
      | (at_range; refine wpList_range_at sixKey Try.underlying89 rfl _ rfl rfl Ma (by omega) ?_; intro w2 ks hd hG hall hksn hR2 g2 s2)
      | go_in)
    go_frame
    rw [e1] at hR2 s2 ⊢
    obtain ⟨r, hr⟩ : ∃ r, wo.heap.size + 1 = r := ⟨_, rfl⟩
    obtain ⟨nb, hnb⟩ : ∃ nb, wo.heap.size = nb := ⟨_, rfl⟩
    rw [hr] at hR2 ⊢
    have Mn := Mz.out.kept g2 (by simp)
    have hB2 : Hid (Below w.heap.size w w2) := (hB.out.alloc hBs _).grown g2 (by simp; omega) (fun k hk => by cases hk)
    rw [hnb] at Mn ⊢
    have hne : r ≠ nb ∧ mb ≠ nb ∧ mb ≠ r ∧ w.heap.size ≤ nb ∧ w.heap.size ≤ r := by omega
    have hall2 : Hid (∀ kv : List Int, kv.length = 6 → N kv ≠ 0 → kv ∈ ks) := fun kv h6 h0 => by
      apply Classical.byContradiction
      intro hn
      exact h0 (hall kv ((hkn1.out kv h6 h0).mono (by omega)) hn)
    have hG6 : Hid (∀ kv, kv ∈ ks → kv.length = 6) := fun kv hk => (hG kv hk).1
    have Mn2 : Hid (CntAt w2 nb 0 (k + 1) (nxS ks N L fun _ => true)) := Mn.ext fun kv _ => nx_start (fun _ _ => rfl) kv
    obtain ⟨K0, hK0⟩ : ∃ K0, ks.length = K0 := ⟨_, rfl⟩
    rw [hK0] at hksn hR2
    replace hR2 := Lib.hid hR2
    replace hd := Lib.hid hd
    replace hG := Lib.hid hG
    replace hr := Lib.hid hr
    replace hnb := Lib.hid hnb
    clear Mz Ma Mn M hB g2 s2 e1 hall hkn1 hc1 hmlt
    go_loopw [9] (fun _ wr => ∃ (lf : List Int → Bool) (cnt n2 : Nat), Hid (CntRange wr mb r P0 k N ks lf cnt) ∧ cnt ≤ K0 ∧ Hid (CntAt wr nb n2 (k + 1) (nxS ks N L lf)) ∧ n2 ≤ (K0 - cnt) * 64 ∧ Hid (Below w.heap.size w wr)) (fun _ wr => wr.rangeLeft mb r)
    case atStart => exact ⟨_, K0, 0, hR2, Nat.le_refl _, Mn2, by omega, hB2⟩
    case round =>
      clear hR2 Mn2 hB2
      obtain ⟨lf, cnt, n2, hR2, hcs, Mn, hn2, hB⟩ := hrel
      obtain ⟨wp, rfl⟩ : ∃ wp : World, wp = wr := ⟨_, rfl⟩
      have hBs := hB.out.size
      go_wp2_with (first
        | (at_next; refine wpList_next_at sixKey Try.underlying3 rfl _ rfl rfl hR2.out (by omega) ?_ ?_)
        | go_in)
      · intro hc0 hl0
        have hq := hNL.out ks lf hd.out hG6.out hall2.out hl0
        have M3 : Hid (CntAt wp nb P1 (k + 1) N2) := (Mn.out.ext fun kv hkv => (hq kv hkv.1).symm).mono (by omega)
        clear hq Mn hR2 hl0
        go_wp2_with fail
        refine ⟨⟨k + 1, nb, by omega, by go_num, rfl, hne.2.2.2.1, ?_, hB⟩, by simp [intOf]; omega⟩
        rw [hP1.out, hN2.out]; exact M3
      · intro kv w3 cnt2 hkv hlf hR3 hlt2 g3 s3 hen
        replace s3 := Lib.hid s3
        have hkg := hG.out kv hkv
        obtain ⟨a0, a1, a2, a3, a4, a5, rfl⟩ := six_of hkg.1
        have Mn3 := Mn.out.kept g3 (by intro e; have := Option.some.inj e; omega)
        have hB3 := hB.out.grown g3 hBs (fun j hj => by cases hj; exact hne.2.2.2.2)
        have hrl := hR2.out.left_eq
        have hle := nx_le (ks := ks) (N := N) (L := L) (lf := lf) (kv := [a0, a1, a2, a3, a4, a5])
        have hlef : Hid (∀ (x : List Int) (t : Nat), x.length = 6 → nxS ks N L lf x + rowT N [a0, a1, a2, a3, a4, a5] x (L.take t) ≤ N2 x) := fun x t hx => by
          rw [← hNL.out ks (fun _ => false) hd.out hG6.out hall2.out (fun _ _ => rfl) x hx]
          exact hle x (fun y _ => (hNb.out y).1) hd.out hkv hlf t
        have hnx0 : Hid (∀ x t, 0 ≤ nxS ks N L lf x + rowT N [a0, a1, a2, a3, a4, a5] x (L.take t)) := fun x t => by
          have i1 := nx_nn (ks := ks) (N := N) (fun y _ => (hNb.out y).1) L lf x
          have i2 := row_nn (N := N) (kv := [a0, a1, a2, a3, a4, a5]) (hNb.out _).1 x (L.take t)
          omega
        have hstep : Hid (∀ x, nxS ks N L (fun y => lf y && !decide (y = [a0, a1, a2, a3, a4, a5])) x = nxS ks N L lf x + rowT N [a0, a1, a2, a3, a4, a5] x L) := fun x => nx_step x hd.out hkv hlf fun _ _ => rfl
        rw [show aggV [a0, a1, a2, a3, a4, a5] = .agg #[.int .i64 a0, .int .i64 a1, .int .i64 a2, .int .i64 a3, .int .i64 a4, .int .i64 a5] from rfl] at hen ⊢
        obtain ⟨W4, eW, A, bW⟩ := arr_made w3 a0 a1 a2 a3 a4 a5
        obtain ⟨c0, hc0⟩ : ∃ c0, N [a0, a1, a2, a3, a4, a5] = c0 := ⟨_, rfl⟩
        have hc0b := hNb.out [a0, a1, a2, a3, a4, a5]
        rw [hc0] at hen hc0b ⊢
        have hk6 : k ≤ 6 := by omega
        replace hc0b : 0 ≤ c0 ∧ c0 ≤ 68719476736 := ⟨hc0b.1, hc0b.2 hk6⟩
        go_upto_region 9 with fail
        rw [← eW]
        have R4 := Lib.hid (hR3.kept (below_grown bW none) (by simp) (by simp))
        have M4 := Mn3.kept (below_grown bW none) (by simp)
        have B4 := Lib.hid (hB3.trans (bW.mono hB3.size))
        replace A := Lib.hid A
        obtain ⟨q, hq⟩ : ∃ q, w3.heap.size = q := ⟨_, rfl⟩
        rw [hq] at A ⊢
        have hqne : q ≠ nb := by have := Mn3.lt; omega
        have hqw : w.heap.size ≤ q := by have := hB3.size; omega
        have M5 : Hid (CntAt W4 nb n2 (k + 1) fun x => nxS ks N L lf x + rowT N [a0, a1, a2, a3, a4, a5] x (L.take 0)) := M4.ext fun kv _ => by simp [rowT, sumL]
        replace hq := Lib.hid hq
        replace hc0 := Lib.hid hc0
        replace hkv := Lib.hid hkv
        replace hkg := Lib.hid hkg
        clear eW bW hR3 Mn3 hB3 g3 s3 hen hle M4 Mn hR2 hB
        go_wp2_with fail
        go_loopw [32] (fun i wr => ∃ t n3 : Nat, t ≤ len ∧ i = .int .i64 t ∧ Hid (CntRange wr mb r P0 k N ks (fun y => lf y && !decide (y = [a0, a1, a2, a3, a4, a5])) cnt2) ∧ Hid (CntAt wr nb n3 (k + 1) fun x => nxS ks N L lf x + rowT N [a0, a1, a2, a3, a4, a5] x (L.take t)) ∧ n3 ≤ n2 + t ∧ Hid (Arr wr q [a0, a1, a2, a3, a4, a5]) ∧ Hid (Below w.heap.size w wr)) (fun i _ => len - (intOf i).toNat)
        case atStart => exact ⟨0, n2, Nat.zero_le _, rfl, R4, M5, by omega, A, B4⟩
        case round =>
          clear R4 M5 A B4
          obtain ⟨t, n3, ht, rfl, R4, M5, hn3, A, B4⟩ := hrel
          obtain ⟨wi, rfl⟩ : ∃ wi : World, wi = wr := ⟨_, rfl⟩
          by_cases hlt3 : t < len
          case neg =>
            obtain rfl : t = len := by omega
            rw [List.take_of_length_le (by rw [hlen.out]; exact Nat.le_refl _)] at M5
            have M6 : Hid (CntAt wi nb n3 (k + 1) (nxS ks N L (fun y => lf y && !decide (y = [a0, a1, a2, a3, a4, a5])))) := M5.out.ext fun kv _ => hstep.out kv
            go_wp2_with fail
            refine ⟨⟨_, cnt2, n3, R4, by omega, M6, by omega, B4⟩, ?_⟩
            rw [R4.out.left_eq, hrl]; exact hlt2
          obtain ⟨rb, ro, rfl, hcr⟩ := row_at (hrow.out.bel B4.out) hlt3
          have hxm := hLx _ (List.getElem_mem (show t < L.length by rw [hlen.out]; exact hlt3))
          have hxe : L.getD t 0 = L[t]'(by rw [hlen.out]; exact hlt3) := getD_elem _
          rw [← hxe] at hxm
          have htk := Lib.hid (fun x => row_take (N := N) (kv := [a0, a1, a2, a3, a4, a5]) x (show t < L.length by rw [hlen.out]; exact hlt3))
          obtain ⟨x, hx⟩ : ∃ x, L.getD t 0 = x := ⟨_, rfl⟩
          rw [hx] at hcr hxm htk
          have hkj := hkg.out.2
          obtain ⟨kv2, hkv2⟩ : ∃ kv2, addV [a0, a1, a2, a3, a4, a5] x = kv2 := ⟨_, rfl⟩
          have hg2 : Gd6 (k + 1) kv2 := by rw [← hkv2]; exact ⟨add_len _ _, add_good x hkj⟩
          have hcall := Lib.hid (fun wx => withRow_any a0 a1 a2 a3 a4 a5 x wx hxm.1 hxm.2 (fun j hj => ⟨(hkj j hj).1, by have := (hkj j hj).2; omega⟩))
          rw [hkv2] at hcall htk
          obtain ⟨v0, hv0⟩ : ∃ v0, nxS ks N L lf kv2 + rowT N [a0, a1, a2, a3, a4, a5] kv2 (L.take t) = v0 := ⟨_, rfl⟩
          have hsum : 0 ≤ v0 ∧ v0 + c0 ≤ 68719476736 := by
            have i1 := hnx0.out kv2 t
            have i2 := hlef.out kv2 (t + 1) hg2.1
            have i3 := htk.out kv2
            rw [if_pos rfl, hc0.out] at i3
            have i4 := (hNf.out kv2).2 (by omega)
            omega
          have hwf := WalkArith.wf_i64 (by omega : -9223372036854775808 ≤ v0 + c0 ∧ v0 + c0 ≤ 9223372036854775807)
          have hw1 : IntKind.i64.wrap (v0 + c0) = v0 + c0 := IntWalk.i64_in _ ⟨by omega, by omega⟩
          replace hx := Lib.hid hx
          replace hkv2 := Lib.hid hkv2
          replace hv0 := Lib.hid hv0
          replace hg2 := Lib.hid hg2
          replace hkj := Lib.hid hkj
          obtain ⟨NN, hNN⟩ : ∃ NN : List Int → Int, (fun y => nxS ks N L lf y + rowT N [a0, a1, a2, a3, a4, a5] y (L.take t)) = NN := ⟨_, rfl⟩
          have hnxt : Hid (∀ y, nxS ks N L lf y + rowT N [a0, a1, a2, a3, a4, a5] y (L.take (t + 1)) = if y = kv2 then v0 + c0 else NN y) := fun y => by
            have hy : NN y = nxS ks N L lf y + rowT N [a0, a1, a2, a3, a4, a5] y (L.take t) := by rw [← hNN]
            rw [htk.out y, hc0.out, hy]
            by_cases e : y = kv2
            · subst e; rw [if_pos rfl, if_pos rfl, ← hv0.out]; omega
            · rw [if_neg e, if_neg (fun e2 => e e2.symm)]; omega
          have hNv : NN kv2 = v0 := by rw [← hNN]; exact hv0.out
          rw [hNN] at M5
          have hdr : Below wi.heap.size wi wi.drew := (Below.refl _ _).drew
          have R5 := Lib.hid (R4.out.kept (below_grown hdr none) (by simp) (by simp))
          have M6 := Lib.hid (M5.out.kept (below_grown hdr none) (by simp))
          have A5 := Lib.hid (A.out.bel hdr)
          have B5 := Lib.hid (B4.out.trans (hdr.mono B4.out.size))
          have k0 : wi.cell? ⟨q, 0, none⟩ = some (.int .i64 a0) := A.out.c 0 (by omega)
          have k1 : wi.cell? ⟨q, 1, none⟩ = some (.int .i64 a1) := A.out.c 1 (by omega)
          have k2 : wi.cell? ⟨q, 2, none⟩ = some (.int .i64 a2) := A.out.c 2 (by omega)
          have k3 : wi.cell? ⟨q, 3, none⟩ = some (.int .i64 a3) := A.out.c 3 (by omega)
          have k4 : wi.cell? ⟨q, 4, none⟩ = some (.int .i64 a4) := A.out.c 4 (by omega)
          have k5 : wi.cell? ⟨q, 5, none⟩ = some (.int .i64 a5) := A.out.c 5 (by omega)
          have hn3m : n3 < maxLen := by unfold maxLen; omega
          replace hNN := Lib.hid hNN
          replace hNv := Lib.hid hNv
          replace hsum := Lib.hid hsum
          replace hc0b := Lib.hid hc0b
          clear hdr R4 M5 A B4 hxm hxe
          go_wp2_with fail
          go_region_law (first | ((go_simp; go_at_call 89; (with_reducible refine (hcall.out _).mono ?_); rintro e w5 ⟨rfl, hb⟩; have M7 := M6.out.kept (below_grown hb none) (by simp); have R6 := R5.out.kept (below_grown hb none) (by simp) (by simp); have A6 := A5.out.bel hb; have B6 := B5.out.trans (hb.mono B5.out.size); obtain ⟨st, w6, w7, l1, l2, l3, l4, M8, g7⟩ := M7.bump sixKey keyLaw Try.underlying89 Try.underlying3 zeroInt hn3m hk7 hg2.out (v0 + c0) hwf; rw [hNv.out] at l1 l2 l3; have M9 := Lib.hid (M8.ext fun y _ => hnxt.out y); have R7 := Lib.hid (R6.kept g7 (by intro e; have := Option.some.inj e; omega) (by intro e; have := Option.some.inj e; omega)); have A7 := Lib.hid (A6.grown g7 (by intro e; have := Option.some.inj e; omega)); have B7 := Lib.hid (B6.grown g7 B6.size (fun j hj => by cases hj; exact hne.2.2.2.1)); clear hb M7 R6 A6 B6 M8 g7 M6 R5 A5 B5 k0 k1 k2 k3 k4 k5)))
          all_goals
            go_wp2_with fail
            exact ⟨⟨t + 1, n3 + 1, by omega, by go_num, R7, M9, by omega, A7, B7⟩, by simp [intOf]; omega⟩
end Go.Proofs.Ytnfkafaolelkbaa

