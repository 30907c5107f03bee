/-
  For any two slices of bytes the law FnCountColumn answers true: a column without cells changes nothing, wherever it stands; nothing that was there is written; no condition.
-/
import Derived.Test.YtmfncheimmcobaaO
import Derived.Test.YtmfncheimmcobaaK
import Derived.Deep.RegionLaw
import Derived.Test.YtmfncheimmcobaaYa
import Derived.Test.YtmfncheimmcobaaJd
import Derived.Test.YtmfncheimmcobaaPa
import Derived.Test.YtmfncheimmcobaaJn
import Derived.Test.YtmfncheimmcobaaMd
namespace Go.Proofs.Ytmfncheimmcobaa.LFCountColumn
open Go.ChangeShapes Go.WideShapes Go.ChangeAt Go.RowKit Go.Joins

theorem take_some {α β : Type} {f : α → β} {L : List α} {k j : Nat} {u : β} (h : ((L.take k).map f)[j]? = some u) : (L.map f)[j]? = some u := by
  rw [List.map_take, List.getElem?_take] at h
  split at h
  · exact h
  · cases h
theorem drop_some {w : World} {b o k j : Nat} {L : List Int} {u : Value} (hn : ∀ j u, (L.map (Value.int .i64))[j]? = some u → w.cell? ((⟨b, o, none⟩ : Addr).add j) = some u) (h : ((L.drop k).map (Value.int .i64))[j]? = some u) : w.cell? ((⟨b, o + k, none⟩ : Addr).add j) = some u := by
  rw [List.map_drop, List.getElem?_drop] at h
  have h2 := hn (k + j) u h
  rw [show (⟨b, o + k, none⟩ : Addr).add j = (⟨b, o, none⟩ : Addr).add (k + j) by
    by_cases e : j = 0
    · subst e; by_cases e2 : k = 0
      · subst e2; simp [Addr.add]
      · simp [Addr.add, e2]
    · simp [Addr.add, e, Nat.add_assoc]]
  exact h2
theorem sums_zero_col {xs ys : List Int} (h : sumsB xs ys = true) (h6 : ys.length < 6) : sumsB xs (ys ++ [0]) = true := by
  have hp := sumsB_parts h
  unfold sumsB
  rw [Bool.and_eq_true, Bool.and_eq_true, Bool.and_eq_true]
  refine ⟨inB_yes (by omega) (by omega), inB_yes (by simp; omega) (by simp; omega), allIn_iff.2 fun i hi => ?_, allIn_iff.2 fun i hi => ?_⟩
  · have := hp.2.2.1 i hi
    rw [List.length_append, List.length_singleton]; omega
  · rw [List.length_append, List.length_singleton] at hi
    by_cases e : i < ys.length
    · have := hp.2.2.2 i e
      have e9 : (ys ++ [0]).getD i 0 = ys.getD i 0 := by simp [List.getD_eq_getElem?_getD, List.getElem?_append_left e]
      rw [e9]; exact this
    · obtain rfl : i = ys.length := by omega
      simp

set_option maxHeartbeats 2000000 in
set_option maxRecDepth 100000 in
theorem walk (a : Option Addr) (len cap : Nat) (zs : List Int) (a2 : Option Addr) (len2 cap2 : Nat) (zs2 : List Int) (w : World) (h : Bys w a len zs) (hl : len ≤ cap) (hm : cap ≤ 9223372036854775807) (_ : Bys w a2 len2 zs2) (_ : len2 ≤ cap2) (_ : cap2 ≤ 9223372036854775807) :
    Calls Try.prog 12 #[.slice a len cap, .slice a2 len2 cap2] w fun e w' => e = .returned (.bool true) ∧ Below w.heap.size w w' := by
  by_cases hbig : 1048576 < len
  · clear h
    go_enter Try.func12, Try.ntmps12
    go_wp2_with fail
    go_ret
    exact ⟨rfl, Below.refl _ _⟩
  by_cases hbig2 : 1048576 < len2
  · clear h
    go_enter Try.func12, Try.ntmps12
    go_wp2_with fail
    go_ret
    exact ⟨rfl, Below.refl _ _⟩
  go_enter Try.func12, Try.ntmps12
  go_wp2_with fail
  refine (draw_DrawSumsCount a len cap zs _ h hl hm).mono ?_
  rintro e w1 ⟨aR, n, cR, xs, aC, m, cC, ys, rfl, hR, hC, hnm, hcap, hb1⟩
  clear h hl hm
  have bb := Lib.hid hb1
  have p := Lib.hid hR.row
  have q := Lib.hid hC.row
  have lx := hR.len
  have ly := hC.len
  have hn13 : n ≤ 13 := by omega
  have hm13 : m ≤ 13 := by omega
  clear hR hC hb1
  obtain ⟨N, hN⟩ : ∃ N, scO xs ys = N := ⟨_, rfl⟩
  go_wp2_with fail
  refine (sc_ok hN _ _ _ _ _ p.out q.out hn13 hm13).mono ?_
  rintro e w2 ⟨rfl, hb⟩
  have szw2 := hb.size
  replace p := Lib.hid (p.out.bel hb)
  replace q := Lib.hid (q.out.bel hb)
  replace bb := Lib.hid (bb.out.trans (hb.mono bb.out.size))
  clear hb
  go_wp2_with fail
  refine (sc_sok hN _ _ _ _ _ p.out q.out hn13 hm13 hcap.1).mono ?_
  rintro e w3 ⟨rfl, hb⟩
  have szw3 := hb.size
  replace p := Lib.hid (p.out.bel hb)
  replace q := Lib.hid (q.out.bel hb)
  replace bb := Lib.hid (bb.out.trans (hb.mono bb.out.size))
  clear hb
  by_cases hct : ctdB xs ys = true
  case neg =>
    obtain rfl : N = -1 := by rw [← hN]; exact if_neg hct
    replace hct := Lib.hid hct
    go_wp2_with fail
    go_ret
    exact ⟨rfl, bb.out⟩
  have hv := (ctdB_parts hct).1
  have h16 := (ctdB_parts hct).2
  rw [lx, ly] at h16
  have hp := sumsB_parts hv
  rw [lx, ly] at hp
  have hn1 := hp.1.1
  have hn6 := hp.1.2
  have hm1 := hp.2.1.1
  have hm6 := hp.2.1.2
  have bx := Lib.hid hp.2.2.1
  have by' := Lib.hid hp.2.2.2
  have hex := Lib.hid (sums_el hv).1
  have hey := Lib.hid (sums_el hv).2
  clear hp
  have hNc : cntS xs ys = N := (sco_yes hct).symm.trans hN
  have hNb := sco_bd hct
  rw [hNc] at hNb
  have hN0 : ¬ N < 0 := by omega
  obtain ⟨P, hP⟩ : ∃ P, n * (m + 1) = P := ⟨_, rfl⟩
  have g0 : decide (0 ≤ N) = true := decide_eq_true hNb.1
  replace hP := Lib.hid hP
  obtain ⟨B, hB⟩ : ∃ B : Bool, (decide (16 < P) || decide (m = 6)) = B := ⟨_, rfl⟩
  replace hB := Lib.hid hB
  replace hv := Lib.hid hv
  replace hN := Lib.hid hN
  replace hNc := Lib.hid hNc
  replace hct := Lib.hid hct
  replace h16 := Lib.hid h16
  go_upto_region 8 with fail
  go_cut [51] (fun s51 wx => s51 = .bool B ∧ Hid (w3 = wx))
  case first =>
    have hside : m = 1 ∨ m = 2 ∨ m = 3 ∨ m = 4 ∨ m = 5 ∨ m = 6 := by omega
    have hoth : 1 ≤ n ∧ n ≤ 6 := by omega
    clear hN0 hNb g0
    rcases hside with rfl | rfl | rfl | rfl | rfl | rfl
    · by_cases hq : 16 < P
      · have hq2 : (16 : Int) < (n : Int) * 2 := by have := hP.out; omega
        have hB1 : B = true := by rw [← hB.out, decide_eq_true hq]; rfl
        replace hq := Lib.hid hq
        replace hB1 := Lib.hid hB1
        go_wp2_with fail
        go_meet
        exact ⟨by rw [hB1.out], Lib.hid rfl⟩
      · have hq2 : ¬ (16 : Int) < (n : Int) * 2 := by have := hP.out; omega
        have hB1 : B = false := by rw [← hB.out, decide_eq_false hq]; rfl
        replace hq := Lib.hid hq
        replace hB1 := Lib.hid hB1
        go_wp2_with fail
        go_meet
        exact ⟨by rw [hB1.out], Lib.hid rfl⟩
    · by_cases hq : 16 < P
      · have hq2 : (16 : Int) < (n : Int) * 3 := by have := hP.out; omega
        have hB1 : B = true := by rw [← hB.out, decide_eq_true hq]; rfl
        replace hq := Lib.hid hq
        replace hB1 := Lib.hid hB1
        go_wp2_with fail
        go_meet
        exact ⟨by rw [hB1.out], Lib.hid rfl⟩
      · have hq2 : ¬ (16 : Int) < (n : Int) * 3 := by have := hP.out; omega
        have hB1 : B = false := by rw [← hB.out, decide_eq_false hq]; rfl
        replace hq := Lib.hid hq
        replace hB1 := Lib.hid hB1
        go_wp2_with fail
        go_meet
        exact ⟨by rw [hB1.out], Lib.hid rfl⟩
    · by_cases hq : 16 < P
      · have hq2 : (16 : Int) < (n : Int) * 4 := by have := hP.out; omega
        have hB1 : B = true := by rw [← hB.out, decide_eq_true hq]; rfl
        replace hq := Lib.hid hq
        replace hB1 := Lib.hid hB1
        go_wp2_with fail
        go_meet
        exact ⟨by rw [hB1.out], Lib.hid rfl⟩
      · have hq2 : ¬ (16 : Int) < (n : Int) * 4 := by have := hP.out; omega
        have hB1 : B = false := by rw [← hB.out, decide_eq_false hq]; rfl
        replace hq := Lib.hid hq
        replace hB1 := Lib.hid hB1
        go_wp2_with fail
        go_meet
        exact ⟨by rw [hB1.out], Lib.hid rfl⟩
    · by_cases hq : 16 < P
      · have hq2 : (16 : Int) < (n : Int) * 5 := by have := hP.out; omega
        have hB1 : B = true := by rw [← hB.out, decide_eq_true hq]; rfl
        replace hq := Lib.hid hq
        replace hB1 := Lib.hid hB1
        go_wp2_with fail
        go_meet
        exact ⟨by rw [hB1.out], Lib.hid rfl⟩
      · have hq2 : ¬ (16 : Int) < (n : Int) * 5 := by have := hP.out; omega
        have hB1 : B = false := by rw [← hB.out, decide_eq_false hq]; rfl
        replace hq := Lib.hid hq
        replace hB1 := Lib.hid hB1
        go_wp2_with fail
        go_meet
        exact ⟨by rw [hB1.out], Lib.hid rfl⟩
    · by_cases hq : 16 < P
      · have hq2 : (16 : Int) < (n : Int) * 6 := by have := hP.out; omega
        have hB1 : B = true := by rw [← hB.out, decide_eq_true hq]; rfl
        replace hq := Lib.hid hq
        replace hB1 := Lib.hid hB1
        go_wp2_with fail
        go_meet
        exact ⟨by rw [hB1.out], Lib.hid rfl⟩
      · have hq2 : ¬ (16 : Int) < (n : Int) * 6 := by have := hP.out; omega
        have hB1 : B = false := by rw [← hB.out, decide_eq_false hq]; rfl
        replace hq := Lib.hid hq
        replace hB1 := Lib.hid hB1
        go_wp2_with fail
        go_meet
        exact ⟨by rw [hB1.out], Lib.hid rfl⟩
    · by_cases hq : 16 < P
      · have hq2 : (16 : Int) < (n : Int) * 7 := by have := hP.out; omega
        have hB1 : B = true := by rw [← hB.out, decide_eq_true hq]; rfl
        replace hq := Lib.hid hq
        replace hB1 := Lib.hid hB1
        go_wp2_with fail
        go_meet
        exact ⟨by rw [hB1.out], Lib.hid rfl⟩
      · have hq2 : ¬ (16 : Int) < (n : Int) * 7 := by have := hP.out; omega
        have hB1 : B = true := by rw [← hB.out, decide_eq_false hq]; rfl
        replace hq := Lib.hid hq
        replace hB1 := Lib.hid hB1
        go_wp2_with fail
        go_meet
        exact ⟨by rw [hB1.out], Lib.hid rfl⟩
  case rest =>
    obtain ⟨rfl, hwx⟩ := hcut
    obtain rfl := hwx.out
    clear hwx
    cases B with
    | true =>
      go_wp2_with fail
      go_ret
      exact ⟨rfl, bb.out⟩
    | false =>
      have hr1' : ¬ 16 < P ∧ ¬ m = 6 := by
        have h := hB.out
        rw [Bool.or_eq_false_iff] at h
        exact ⟨of_decide_eq_false h.1, of_decide_eq_false h.2⟩
      have hr1 := Nat.le_of_not_lt hr1'.1
      have hr2 := Nat.lt_of_le_of_ne hm6 hr1'.2
      clear hr1'
      replace hv := hv.out
      replace hN := hN.out
      replace hNc := hNc.out
      replace hct := hct.out
      go_upto_region 10 with fail
      have k0 : len2 % (m + 1) < m + 1 := Nat.mod_lt _ (by omega)
      have hmod : ((len2 : Int) % ((m : Int) + 1)) = ((len2 % (m + 1) : Nat) : Int) := by rw [Int.natCast_emod]; rfl
      generalize len2 % (m + 1) = k at k0 hmod
      have hmod3 : (len2 : Int).tmod ((m : Int) + 1) = (k : Int) := by rw [Int.tmod_eq_emod_of_nonneg (by omega)]; exact hmod
      have hm0 : ((m : Int) + 1 == 0) = false := by rw [beq_eq_false_iff_ne]; omega
      have hco : Hid (scO xs (insL k 0 ys) = N) := Lib.hid (by
        have hs2 : sumsB xs (insL k 0 ys) = true := by
          have hpm : (insL k 0 ys).Perm (ys ++ [0]) := by
            unfold insL
            have h9 : (ys.take k ++ 0 :: ys.drop k).Perm (0 :: (ys.take k ++ ys.drop k)) := List.perm_middle
            rw [List.take_append_drop] at h9
            exact h9.trans (List.perm_append_singleton _ _).symm
          rw [sumsB_perm (List.Perm.refl xs) hpm]
          exact sums_zero_col hv (by omega)
        have h2 := cnt_col0 hv (k := k) (by omega) hs2
        rw [hNc] at h2
        rw [sco_yes (ctdB_of hs2 (by rw [ins_len 0 (by omega), lx, ly, hP.out]; exact hr1)), h2])
      have hkm : k ≤ m := by omega
      have hkc2 : k ≤ cC := by omega
      replace hmod := Lib.hid hmod
      replace hmod3 := Lib.hid hmod3
      replace hv := Lib.hid hv
      replace hN := Lib.hid hN
      replace hNc := Lib.hid hNc
      replace hct := Lib.hid hct
      go_upto_region 11 with fail
      rw [hmod.out]
      obtain ⟨q_b, q_o, rfl, q_h⟩ := row_at q.out (show 0 < m by omega)
      have q_n := Lib.hid (row_news q.out (by omega))
      clear q_h
      have lt_u_p := row_lt p.out
      have lt_u_q := row_lt q.out
      have u_s := bb.out.size
      have tk : (ys.take k).length = k := by rw [List.length_take]; omega
      obtain ⟨i0, i1, i2, i3, i4⟩ := info_parts infoInt
      go_wp2_with (at_builtin; refine wpList_append_own _ rfl _ _ 23 rfl w3.heap.size 3 i0 (.int .i64 0) 1 8 Try.underlying23 i1 i2 i3 i4 rfl (by decide) _ 0 [] rfl (World.ownsRow_lit w3 #[] 0 (Nat.le_refl _) (by decide) rfl) ⟨q_b, q_o, none⟩ k cC ((ys.take k).map (Value.int .i64)) rfl (by rw [List.length_map, tk]; omega) (fun j u hj => World.cell?_alloc_some (q_n.out j u (take_some hj))) (ints_oneCell _ _) (by unfold maxLen; omega) (by omega) (by simp) ?_)
      intro v' w4 hown hgr hnil
      obtain ⟨au, cu, rfl, ho⟩ := own_of (xs := ys.take k) (n := k) (by simpa using hown)
      have hb : Below w3.heap.size w3 w4 := ((Below.refl _ _).alloc (Nat.le_refl _) _).grown hgr (by simp) (fun k hk => by simp [Value.ownBlock] at hk; omega)
      obtain ⟨gu, rfl⟩ : ∃ g, au = some ⟨g, 0, none⟩ := by
        rcases ho.cases with ⟨h1, h2, h3⟩ | ⟨g, h, _⟩
        · subst h1
          exact (hnil (by rw [h2, h3])).elim
        · exact ⟨g, h⟩
      clear hown hgr hnil q_n
      have u := Lib.hid ho
      have rg_u := rng_own ho
      clear ho
      have szw4 := hb.size
      replace p := Lib.hid (p.out.bel hb)
      replace q := Lib.hid (q.out.bel hb)
      replace bb := Lib.hid (bb.out.trans (hb.mono bb.out.size))
      clear hb
      have zz_z : w3.heap.size ≤ w4.heap.size := by omega
      go_wp2_with (at_builtin; refine wpList_append_int rfl _ _ rfl w3.heap.size gu k cu ((ys.take k)) rfl (World.ownsRow.alloc u.out _) w4.heap.size rfl (0) (by simp) (by omega) (by simp; omega) ?_)
      intro gz cz w5 hown hgr hlies
      have ho : OwnI w5 w3.heap.size (some ⟨gz, 0, none⟩) (k + 1) cz ((ys.take k) ++ [0]) := by unfold OwnI; simpa using hown
      have hg5 : (w4.alloc (.cells #[.int .i64 (0)] 3)).grownBy w5 (rowOf (some ⟨gu, 0, none⟩)) := hgr
      have hb : Below w3.heap.size w4 w5 := ((Below.refl _ _).alloc zz_z _).grown hgr (by simp; omega) (fun k hk => by cases hk; exact (rg_u _ rfl).1)
      replace p := Lib.hid ((p.out.alloc _).apart hg5 (fun b o e hn => ne_rowOf rg_u (.inl (lt_u_p b o e hn))))
      replace q := Lib.hid ((q.out.alloc _).apart hg5 (fun b o e hn => ne_rowOf rg_u (.inl (lt_u_q b o e hn))))
      have bz_z : w.heap.size ≤ w3.heap.size := by omega
      replace bb := Lib.hid (bb.out.trans (hb.mono bz_z))
      have szw5 := hb.size
      have z := Lib.hid ho
      have rg_z := rng_own ho
      clear hown hgr hg5 hb ho hlies u rg_u zz_z bz_z
      have q_n := Lib.hid (row_news q.out (by omega))
      have z_s := bb.out.size
      have tk2 : (ys.drop k).length = m - k := by rw [List.length_drop, ly]
      have wz : w3.heap.size ≤ w5.heap.size := by omega
      by_cases hkc : cC = k
      case pos =>
        obtain rfl : m = k := by omega
        obtain rfl : m = cC := by omega
        have ez : ys.take m ++ [0] = insL m 0 ys := by unfold insL; rw [List.drop_of_length_le (by omega)]
        have hz := z.out.row
        have hz9 := own_cap z.out
        rw [ez] at hz
        have s := Lib.hid hz
        clear hz ez z rg_z q_n
        go_wp2_with fail
        refine (sc_ok hco.out _ _ _ _ _ p.out s.out hn13 (by omega)).mono ?_
        rintro e w6 ⟨rfl, hb⟩
        have szw6 := hb.size
        replace p := Lib.hid (p.out.bel hb)
        replace q := Lib.hid (q.out.bel hb)
        replace s := Lib.hid (s.out.bel hb)
        replace bb := Lib.hid (bb.out.trans (hb.mono bb.out.size))
        clear hb
        go_wp2_with fail
        go_ret
        exact ⟨rfl, bb.out⟩
      have zo : w5.ownsRow w3.heap.size 3 1 (.slice (some ⟨gz, 0, none⟩) (k + 1) cz) (k + 1) ((ys.take k ++ [0]).map (Value.int .i64)) := z.out
      go_wp2_with (at_builtin; refine wpList_append_own _ rfl _ _ 23 rfl w3.heap.size 3 i0 (.int .i64 0) 1 8 Try.underlying23 i1 i2 i3 i4 rfl (by decide) (.slice (some ⟨gz, 0, none⟩) (k + 1) cz) (k + 1) ((ys.take k ++ [0]).map (Value.int .i64)) rfl zo ⟨q_b, q_o + k, none⟩ (m - k) (cC - k) ((ys.drop k).map (Value.int .i64)) rfl (by rw [List.length_map, tk2]; omega) (fun j u hj => drop_some q_n.out hj) (ints_oneCell _ _) (by unfold maxLen; omega) (by omega) (by omega) ?_)
      intro v' w7 hown hgr hnil
      obtain ⟨az, cs, rfl, ho⟩ := own_of (xs := insL k 0 ys) (n := k + 1 + (m - k)) (by simpa [insL] using hown)
      have hg5 : w5.grownBy w7 (rowOf (some ⟨gz, 0, none⟩)) := hgr
      have hb : Below w3.heap.size w5 w7 := (Below.refl _ _).grown hgr (by omega) (fun k hk => by cases hk; exact (rg_z _ rfl).1)
      replace p := Lib.hid (p.out.apart hg5 (fun b o e hn => ne_rowOf rg_z (.inl (lt_u_p b o e hn))))
      replace q := Lib.hid (q.out.apart hg5 (fun b o e hn => ne_rowOf rg_z (.inl (lt_u_q b o e hn))))
      have bz_s : w.heap.size ≤ w3.heap.size := by omega
      replace bb := Lib.hid (bb.out.trans (hb.mono bz_s))
      have sz_s := hb.size
      have s := Lib.hid ho.row
      clear hown hgr hg5 hb ho hnil z rg_z q_n zo
      go_wp2_with fail
      refine (sc_ok hco.out _ _ _ _ _ p.out s.out hn13 (by omega)).mono ?_
      rintro e w8 ⟨rfl, hb⟩
      have szw8 := hb.size
      replace p := Lib.hid (p.out.bel hb)
      replace q := Lib.hid (q.out.bel hb)
      replace s := Lib.hid (s.out.bel hb)
      replace bb := Lib.hid (bb.out.trans (hb.mono bb.out.size))
      clear hb
      go_wp2_with fail
      go_ret
      exact ⟨rfl, bb.out⟩

set_option maxRecDepth 100000 in
theorem lifted (os : Os) (started : os.Started) (H : Type) (enc : TypeId × Value → H) :
    ReturnsInHanded {} Try.checked os 12 .any (Rows.fnCountColumnSpec.pre6 enc Try.prog Try.f12 Rows.fnCountColumnRow.domain false) (Rows.fnCountColumnSpec.post enc Try.prog Try.f12 false true false false) := by
  refine returnsInHanded_of_change (C := Try.checked) own started (by kernel_rfl) Try.func12
    (ChangeSpec.witness6 (enc := enc) (C := Try.checked) false ⟨#[], #[.slice none 0 0, .slice none 0 0], []⟩ 8 (by kernel_rfl) (by kernel_rfl) (by kernel_rfl) (by kernel_rfl)) ?_
  intro W base args ds gs before hval0 hW hcnd _
  have hval : ∀ (j : Nat) t v, Try.f12.params[j]? = some t → args[j]? = some v → Value.okWide Try.prog W .any base t v := hval0
  have hW' := hW
  obtain ⟨p, q, hA0, hV, rfl, hfz, hnd⟩ := hW
  have hA : DataW.TrodAll enc Try.prog W 0 (fun _ => true) true Try.f12.params.toList args.toList ds p := hA0
  rw [Try.params12] at hA hval
  obtain ⟨v0, vs0, d0, ds0, p0, q0, hargs, rfl, rfl, h0, r0⟩ := trodAll_cons hA
  obtain ⟨v1, vs1, d1, ds1, p1, q1, rfl, rfl, rfl, h1, r1⟩ := trodAll_cons r0
  obtain ⟨rfl, rfl, rfl⟩ := trodAll_nil r1
  obtain rfl : args = #[v0, v1] := by cases args; simp_all
  obtain ⟨rfl, rfl⟩ := trodVars_none hV
  have k0 := h0
  have lt0 : ∀ x ∈ p0, x.block < W.heap.size := by obtain ⟨m, hm⟩ := k0; exact DataW.trod_lt m _ _ _ hm
  obtain ⟨a0, len0, cap0, z0, rfl, w0, l0, m0⟩ := open_code (hval 0 22 v0 rfl rfl) h0
  have k1 := h1
  have lt1 : ∀ x ∈ p1, x.block < W.heap.size := by obtain ⟨m, hm⟩ := k1; exact DataW.trod_lt m _ _ _ hm
  obtain ⟨a1, len1, cap1, z1, rfl, w1, l1, m1⟩ := open_code (hval 1 22 v1 rfl rfl) h1
  clear hA0 hval0
  refine (walk a0 len0 cap0 z0 a1 len1 cap1 z1 W w0 l0 m0 w1 l1 m1).mono fun e W' ⟨he, bel⟩ => ?_
  subst he
  exact ⟨_, rfl, _, _, _, [], _, [], hW', trodAll_mk1 (shut_bool Try.underlying4 _), (trodAll_cons_mk (Below.trod laidOut (by kernel_rfl) (of_decide_eq_true (by kernel_rfl)) k0 bel lt0) (trodAll_cons_mk (Below.trod laidOut (by kernel_rfl) (of_decide_eq_true (by kernel_rfl)) k1 bel lt1) trodAll_mk0)), rfl, bel.frame _, fun h => by cases h⟩

theorem closed : joinedFacts Try.prog 12 Try.f12 Rows.fnCountColumnSpec Rows.fnCountColumnRow = true := by
  simp only [joinedFacts, Bool.and_eq_true]
  repeat' apply And.intro
  all_goals first | with_reducible exact mayEnterOk | (with_reducible rw [liftsFinalOk]; kernel_rfl) | (with_reducible rw [makeOk]; kernel_rfl) | kernel_rfl

theorem over : Rows.fnCountColumnRow.holds Try.pinned (OpenSpec.ofChange Rows.fnCountColumnSpec) :=
  OpenClaim.holds_of_wide 12 Try.f12 rfl rfl rfl rfl rfl rfl rfl ⟨rfl, rfl, rfl, rfl, rfl⟩ rfl rfl rfl rfl rfl (by kernel_rfl) Try.func12 closed
    (of_decide_eq_true (by kernel_rfl)) (by unfold Func.isWrapper; first | (rw [if_pos (by decide +kernel)]; kernel_rfl) | (rw [if_neg (by decide +kernel)]; exact ⟨rfl, rfl⟩))
    (fun os started H enc _ => lifted os started H enc)

theorem proved : Rows.FnCountColumnSaid := over
#print axioms proved
end Go.Proofs.Ytmfncheimmcobaa.LFCountColumn

