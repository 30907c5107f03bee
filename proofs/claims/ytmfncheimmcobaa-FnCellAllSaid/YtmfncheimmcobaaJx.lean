/-
  The model's CellCount.
-/
import Derived.Test.YtmfncheimmcobaaJw
import Derived.Test.YtmfncheimmcobaaJt
import Derived.Test.YtmfncheimmcobaaPa
namespace Go.Proofs.Ytmfncheimmcobaa
set_option maxRecDepth 100000
open Go.RowKit

/-- The cells of a part of a list that can be read. -/
theorem rowpart_news {w : World} {b off n k m : Nat} {xs : List Int} (h : Row w (some ⟨b, off, none⟩) n xs) (hk : k + m ≤ n) :
    ∀ j u, (((xs.drop k).take m).map (Value.int .i64))[j]? = some u → w.cell? ((⟨b, off + k, none⟩ : Addr).add j) = some u := by
  intro j u hj
  have hjm : j < m := by have := (List.getElem?_eq_some_iff.1 hj).1; simp at this; omega
  have hl := h.1
  obtain ⟨b', off', e', hc0⟩ := h.2.resolve_left (by omega)
  cases e'
  have hc := hc0 (k + j) (by omega)
  have e : (((xs.drop k).take m).map (Value.int .i64))[j]? = some (.int .i64 (xs.getD (k + j) 0)) := by
    rw [List.getElem?_map, List.getElem?_take_of_lt hjm, List.getElem?_drop, List.getElem?_eq_getElem (by omega), getD_elem (by omega)]; rfl
  rw [e] at hj
  cases hj
  rw [show off + (k + j) = off + k + j by omega] at hc
  by_cases e0 : j = 0
  · subst e0; simpa [Addr.add] using hc
  · simpa [Addr.add, e0] using hc
theorem rowdrop_news {w : World} {b off n k : Nat} {xs : List Int} (h : Row w (some ⟨b, off, none⟩) n xs) (hk : k ≤ n) :
    ∀ j u, ((xs.drop k).map (Value.int .i64))[j]? = some u → w.cell? ((⟨b, off + k, none⟩ : Addr).add j) = some u := by
  have := rowpart_news (k := k) (m := n - k) h (by omega)
  rwa [List.take_of_length_le (by rw [List.length_drop]; have := h.1; omega)] at this
theorem rowtake_news {w : World} {b off n k : Nat} {xs : List Int} (h : Row w (some ⟨b, off, none⟩) n xs) (hk : k ≤ n) :
    ∀ j u, ((xs.take k).map (Value.int .i64))[j]? = some u → w.cell? ((⟨b, off, none⟩ : Addr).add j) = some u := by
  have := rowpart_news (k := 0) (m := k) h (by omega)
  rwa [List.drop_zero] at this
set_option maxHeartbeats 6400000 in
theorem cc_spec (a : Option Addr) (n cap : Nat) (a' : Option Addr) (m cap' : Nat) (xs ys : List Int) (i j : Int) (w : World) (h : Row w a n xs) (h' : Row w a' m ys) (hn : n ≤ 1048576) (hm : m ≤ 1048576) (hcap : n ≤ cap) :
    Calls Try.prog 30 #[.slice a n cap, .slice a' m cap', .int .i64 i, .int .i64 j] w fun e w' => e = .returned (.int .i64 (ccO xs ys i j)) ∧ Below w.heap.size w w' := by
  have l1 := h.1
  have l2 := h'.1
  have hR := Lib.hid h
  have hR' := Lib.hid h'
  have hc := okc_spec a n cap a' m cap' xs ys w h h' hn hm
  unfold ccO
  rw [l1, l2]
  clear h h'
  by_cases hs : ctdB xs ys = true ∧ (0 ≤ i ∧ i < n) ∧ (0 ≤ j ∧ j < m)
  case neg =>
    rw [if_neg hs]
    by_cases e : ctdB xs ys = true
    case neg =>
      have e : ctdB xs ys = false := by simpa using e
      rw [e] at hc
      go_enter Try.func30, Try.ntmps30
      go_wp2_with fail
      refine hc.mono ?_
      rintro e w2 ⟨rfl, hb⟩
      replace hb := Lib.hid hb
      go_wp2_with fail
      go_ret
      exact ⟨rfl, hb.out⟩
    rw [e] at hc
    have hx := fun wx => in_any i 0 ((n : Int) - 1) wx
    have hy := fun wx => in_any j 0 ((m : Int) - 1) wx
    have i1 : IntKind.i64.wrap ((n : Int) - 1) = (n : Int) - 1 := IntWalk.i64_in _ ⟨by omega, by omega⟩
    have i2 : IntKind.i64.wrap ((m : Int) - 1) = (m : Int) - 1 := IntWalk.i64_in _ ⟨by omega, by omega⟩
    by_cases e1 : 0 ≤ i ∧ i < n
    case neg =>
      have ex : inB i 0 ((n : Int) - 1) = false := inB_no (by omega)
      rw [ex] at hx
      go_enter Try.func30, Try.ntmps30
      go_wp2_with fail
      refine hc.mono ?_
      rintro e w2 ⟨rfl, hb⟩
      replace hb := Lib.hid hb
      go_wp2_with fail
      refine (hx _).mono ?_
      rintro e w3 ⟨rfl, rfl⟩
      go_wp2_with fail
      go_ret
      exact ⟨rfl, hb.out⟩
    have ex : inB i 0 ((n : Int) - 1) = true := inB_yes (by omega) (by omega)
    have ey : inB j 0 ((m : Int) - 1) = false := inB_no (by have h9 : ¬ (0 ≤ j ∧ j < m) := fun h => hs ⟨e, e1, h⟩; omega)
    rw [ex] at hx
    rw [ey] at hy
    go_enter Try.func30, Try.ntmps30
    go_wp2_with fail
    refine hc.mono ?_
    rintro e w2 ⟨rfl, hb⟩
    replace hb := Lib.hid hb
    go_wp2_with fail
    refine (hx _).mono ?_
    rintro e w3 ⟨rfl, rfl⟩
    go_wp2_with fail
    refine (hy _).mono ?_
    rintro e w3 ⟨rfl, rfl⟩
    go_wp2_with fail
    go_ret
    exact ⟨rfl, hb.out⟩
  obtain ⟨hs, ⟨hi0, hi1⟩, hj0, hj1⟩ := hs
  rw [if_pos ⟨hs, ⟨hi0, hi1⟩, hj0, hj1⟩]
  obtain ⟨i, rfl⟩ := Int.eq_ofNat_of_zero_le hi0
  obtain ⟨j, rfl⟩ := Int.eq_ofNat_of_zero_le hj0
  have hi : i < n := by omega
  have hj : j < m := by omega
  rw [Int.toNat_natCast, Int.toNat_natCast]
  rw [hs] at hc
  have hs2 := (ctdB_parts hs).1
  have hp := sumsB_parts hs2
  have hq := cell_way (rows := xs) (cols := ys) (i := i) j (by omega)
  rw [l1, l2] at hp
  rw [l2] at hq
  rw [← hq]
  have hbd := hp.2.2.2
  have hn6 := hp.1.2
  have hm1 := hp.2.1.1
  have hm6 := hp.2.1.2
  have hx := fun wx => in_yes (i : Int) 0 ((n : Int) - 1) wx (by omega) (by omega)
  have hy := fun wx => in_yes (j : Int) 0 ((m : Int) - 1) wx (by omega) (by omega)
  have i1 : IntKind.i64.wrap ((n : Int) - 1) = (n : Int) - 1 := IntWalk.i64_in _ ⟨by omega, by omega⟩
  have i2 : IntKind.i64.wrap ((m : Int) - 1) = (m : Int) - 1 := IntWalk.i64_in _ ⟨by omega, by omega⟩
  have i3 : IntKind.i64.wrap ((i : Int) + 1) = (i : Int) + 1 := IntWalk.i64_in _ ⟨by omega, by omega⟩
  obtain ⟨ba, bo, rfl, hri⟩ := row_at hR.out hi
  obtain ⟨r, hr⟩ : ∃ r, xs.getD i 0 = r := ⟨_, rfl⟩
  rw [hr] at hri ⊢
  replace hr := Lib.hid hr
  replace hbd := Lib.hid hbd
  clear hp hs2 hs hi0 hj0 hq
  obtain ⟨i0, hi', hz0, hz1, hz2⟩ := info_parts infoInt
  go_enter Try.func30, Try.ntmps30
  go_wp2_with fail
  refine hc.mono ?_
  rintro e w2 ⟨rfl, hb⟩
  replace hri := kept hb (block_lt hri) hri
  replace hR := Lib.hid (hR.out.bel hb)
  replace hR' := Lib.hid (hR'.out.bel hb)
  replace hb := Lib.hid hb
  clear hc
  go_wp2_with fail
  refine (hx _).mono ?_
  rintro e w3 ⟨rfl, rfl⟩
  go_wp2_with fail
  refine (hy _).mono ?_
  rintro e w3 ⟨rfl, rfl⟩
  clear hx hy i1 i2
  go_upto_region 3 with fail
  have hRd := Lib.hid ((hR.out.bel ((Below.refl _ _).alloc (Nat.le_refl _) (.cells #[] 3))).bel ((Below.refl _ _).drew))
  go_cut [9] (fun s9 wx => ∃ (aO : Option Addr) (cO : Nat), s9 = .slice aO (n - 1) cO ∧ n - 1 ≤ cO ∧ Hid (Row wx aO (n - 1) (delL i xs)) ∧ Hid (Below w2.heap.size w2 wx))
  case first =>
    have hic : i ≤ cap := by omega
    have hi1' : i + 1 ≤ n := by omega
    have hi2 : 0 ≤ (i : Int) + 1 := by omega
    have hi3 : (i : Int) + 1 ≤ (n : Int) := by omega
    by_cases hcp : cap = i + 1
    · have hcp' : (cap = i + 1) = True := eq_true hcp
      have hin : Hid (n = i + 1) := Lib.hid (by omega)
      clear hcp
      go_wp2_with fail
      go_region_law (first | ((refine step_append_any rfl (.tmp 34) (.tmp 37) 23 rfl w2.heap.size 3 i0 (.int .i64 0) 1 8 Try.underlying23 hi' hz0 hz1 hz2 rfl (by decide) _ 0 [] rfl (own_drew_lit w2) ⟨ba, bo, none⟩ i cap ((xs.take i).map (Value.int .i64)) rfl (by simp only [List.length_map, List.length_take]; omega) (rowtake_news hRd.out (by omega)) (ints_oneCell _ _) (by unfold maxLen; omega) (by omega) (by simp) ?_); intro v1 w9 ho1 hg1; obtain ⟨ax, cx, rfl, ho1x, hb1⟩ := app_first ho1 hg1; clear ho1 hg1; replace ho1x := Lib.hid ho1x; replace hb1 := Lib.hid hb1; have hR9 := Lib.hid (hR.out.bel hb1.out)) | ((refine step_append_any rfl (.tmp 38) (.tmp 42) 23 rfl w2.heap.size 3 i0 (.int .i64 0) 1 8 Try.underlying23 hi' hz0 hz1 hz2 rfl (by decide) _ i ((xs.take i).map (Value.int .i64)) rfl ho1x.out ⟨ba, bo, none⟩ (n - (i + 1)) (cap - (i + 1)) ((xs.drop (i + 1)).map (Value.int .i64)) rfl (by simp only [List.length_map, List.length_drop]; omega) (no_news (i + 1) (by have := hin.out; omega)) (ints_oneCell _ _) (by unfold maxLen; omega) (by omega) hb1.out.size ?_); intro v2 w10 ho2 hg2; obtain ⟨ay, cy, rfl, ho2x, hb2⟩ := app_second ho1x.out hb1.out (show i + (n - (i + 1)) = n - 1 by omega) ho2 hg2; clear ho2 hg2 ho1x hb1; replace ho2x := Lib.hid ho2x; replace hb2 := Lib.hid hb2))
      all_goals
        go_wp2_with fail
        go_meet
        exact ⟨ay, cy, rfl, own_cap ho2x.out, ho2x.out.row, hb2⟩
    · go_wp2_with fail
      go_region_law (first | ((refine step_append_any rfl (.tmp 34) (.tmp 37) 23 rfl w2.heap.size 3 i0 (.int .i64 0) 1 8 Try.underlying23 hi' hz0 hz1 hz2 rfl (by decide) _ 0 [] rfl (own_drew_lit w2) ⟨ba, bo, none⟩ i cap ((xs.take i).map (Value.int .i64)) rfl (by simp only [List.length_map, List.length_take]; omega) (rowtake_news hRd.out (by omega)) (ints_oneCell _ _) (by unfold maxLen; omega) (by omega) (by simp) ?_); intro v1 w9 ho1 hg1; obtain ⟨ax, cx, rfl, ho1x, hb1⟩ := app_first ho1 hg1; clear ho1 hg1; replace ho1x := Lib.hid ho1x; replace hb1 := Lib.hid hb1; have hR9 := Lib.hid (hR.out.bel hb1.out)) | ((refine step_append_any rfl (.tmp 38) (.tmp 42) 23 rfl w2.heap.size 3 i0 (.int .i64 0) 1 8 Try.underlying23 hi' hz0 hz1 hz2 rfl (by decide) _ i ((xs.take i).map (Value.int .i64)) rfl ho1x.out ⟨ba, bo + (i + 1), none⟩ (n - (i + 1)) (cap - (i + 1)) ((xs.drop (i + 1)).map (Value.int .i64)) rfl (by simp only [List.length_map, List.length_drop]; omega) (rowdrop_news hR9.out (by omega)) (ints_oneCell _ _) (by unfold maxLen; omega) (by omega) hb1.out.size ?_); intro v2 w10 ho2 hg2; obtain ⟨ay, cy, rfl, ho2x, hb2⟩ := app_second ho1x.out hb1.out (show i + (n - (i + 1)) = n - 1 by omega) ho2 hg2; clear ho2 hg2 ho1x hb1; replace ho2x := Lib.hid ho2x; replace hb2 := Lib.hid hb2))
      all_goals
        go_wp2_with fail
        go_meet
        exact ⟨ay, cy, rfl, own_cap ho2x.out, ho2x.out.row, hb2⟩
  case rest =>
    clear hRd
    obtain ⟨aO, cO, rfl, hcO, hO, hB⟩ := hcut
    have hws := hb.out.size
    have hRx := Lib.hid (hR.out.bel hB.out)
    replace hR' := Lib.hid (hR'.out.bel hB.out)
    replace hb := Lib.hid (hb.out.trans (hB.out.mono hws))
    clear hB hws hri hR
    obtain ⟨O, hOe⟩ : ∃ O, delL i xs = O := ⟨_, rfl⟩
    rw [hOe] at hO
    have hol : O.length = n - 1 := hO.out.1
    obtain ⟨P, hP⟩ : ∃ P, pn m = P := ⟨_, rfl⟩
    have hPi := pn_int m
    rw [hP] at hPi
    have hP64 : P ≤ 64 := by rw [← hP]; exact pn_64 hm6
    have hlow := Lib.hid (fun (x : Nat) (hx : x < P) => cnt_low m (by omega) x (by omega))
    have cp := Lib.hid (fun wx => power_any m wx (by omega))
    rw [← hPi] at cp
    have hbd6 : Hid (∀ q, q < m → 0 ≤ ys.getD q 0 ∧ ys.getD q 0 ≤ 6) := fun q hq => ⟨(hbd.out q hq).1, by have := (hbd.out q hq).2; omega⟩
    have hF0 : Hid (∀ x : Nat, takeB ys (x : Nat) = true → 0 ≤ wayI m O (takeI ys (x : Nat)) ∧ wayI m O (takeI ys (x : Nat)) ≤ 68719476736) := fun x ht =>
      way_bd hm6 (by rw [took_len]; exact l2) (fun q hq => taken_nn ht q (by omega)) (by omega)
    have htot : wayI m (r :: O) ys ≤ 68719476736 := (way_bd hm6 l2 (fun q hq => (hbd.out q hq).1) (by simp; omega)).2
    obtain ⟨F, hFe⟩ : ∃ F : Nat → Int, (fun x : Nat => if (cntI (x : Nat) m = r ∧ bitI (x : Nat) j = 1) ∧ takeB ys (x : Nat) = true then wayI m O (takeI ys (x : Nat)) else 0) = F := ⟨_, rfl⟩
    have hFm : Hid (∀ x : Nat, F x = if (cntI (x : Nat) m = r ∧ bitI (x : Nat) j = 1) ∧ takeB ys (x : Nat) = true then wayI m O (takeI ys (x : Nat)) else 0) := fun x => by rw [← hFe]
    have hF1 : ∀ x : Nat, 0 ≤ F x ∧ F x ≤ (if cntI (x : Nat) m = r ∧ takeB ys (x : Nat) = true then wayI m O (takeI ys (x : Nat)) else 0) := fun x => by
      rw [hFm.out]
      by_cases hA : (cntI (x : Nat) m = r ∧ bitI (x : Nat) j = 1) ∧ takeB ys (x : Nat) = true
      · have h0 := hF0.out x hA.2
        rw [if_pos hA, if_pos ⟨hA.1.1, hA.2⟩]; omega
      · rw [if_neg hA]
        by_cases hB : cntI (x : Nat) m = r ∧ takeB ys (x : Nat) = true
        · have h0 := hF0.out x hB.2
          rw [if_pos hB]; omega
        · rw [if_neg hB]; omega
    have hFt : sumI F P ≤ wayI m (r :: O) ys := by
      rw [wayI, hP]
      have hle : ∀ (f g : Nat → Int) (k : Nat), (∀ x, f x ≤ g x) → sumI f k ≤ sumI g k := fun f g k h => by
        induction k with
        | zero => exact Int.le_refl _
        | succ k ih => have := h k; simp only [sumI]; omega
      exact hle _ _ _ fun x => (hF1 x).2
    have hsp := Lib.hid (fun kk (hk : kk ≤ P) => sum_part (f := F) (K := P) (fun x _ => (hF1 x).1) hk)
    have hsn := Lib.hid (fun kk => show sumI F (kk + 1) = sumI F kk + F kk from rfl)
    have htk := Lib.hid (fun (x : Nat) (hx : x < P) wx hx2 => take_spec a' m cap' ys (x : Nat) wx hx2 hm1 hm6 hbd6.out (by omega) (by omega))
    have hih := Lib.hid (fun (x : Nat) (ht : takeB ys (x : Nat) = true) (g c2 : Nat) (wx : World) (h1 : Row wx aO (n - 1) O) (h2 : Row wx (some ⟨g, 0, none⟩) m (takeI ys (x : Nat))) =>
      ways_spec m hm1 hm6 O aO (n - 1) cO (some ⟨g, 0, none⟩) c2 (takeI ys (x : Nat)) wx h1 h2 (by omega) hcO (fun q hq => ⟨taken_nn ht q (by omega), by rw [took_get _ (by omega)]; have := bit_01 (x : Nat) q; have := hbd6.out q hq; omega⟩))
    have hcl := Lib.hid (fun (x : Nat) (hx : x < P) wx => count_any (x : Int) wx (by omega) (by omega))
    have hbt := Lib.hid (fun (x : Nat) (hx : x < P) wx => bit_any (x : Int) j wx (by omega) (by omega) (by omega))
    have hce : Hid (cellW m r j O ys = sumI F P) := Lib.hid (by
      unfold cellW
      rw [hP, show (fun x : Nat => if (cntI (x : Nat) m = r ∧ bitI (x : Nat) j = 1) ∧ takeB ys (x : Nat) = true then wayI m O (takeI ys (x : Nat)) else 0) = F from hFe])
    replace hFe := Lib.hid hFe
    replace hP := Lib.hid hP
    replace hPi := Lib.hid hPi
    replace hOe := Lib.hid hOe
    clear hF1 hF0 hbd6
    go_wp2_with fail
    go_loopw [10, 11] (fun o v wr => ∃ x : Nat, x ≤ P ∧ v = .int .i64 x ∧ o = .int .i64 (sumI F x) ∧ Hid (Row wr (some ⟨ba, bo, none⟩) n xs) ∧ Hid (Row wr a' m ys) ∧ Hid (Row wr aO (n - 1) O) ∧ Hid (Below w.heap.size w wr)) (fun _ v _ => P - (intOf v).toNat)
    case atStart => exact ⟨0, Nat.zero_le _, rfl, rfl, hRx, hR', hO, hb⟩
    case round =>
      clear hRx hR' hO hb
      obtain ⟨x, hx, rfl, rfl, hR, hR', hO, hb⟩ := hrel
      obtain ⟨wo, rfl⟩ : ∃ wo : World, wo = wr := ⟨_, rfl⟩
      have hBs := hb.out.size
      have s1 := hsp.out x hx
      obtain ⟨V, hV⟩ : ∃ V, sumI F x = V := ⟨_, rfl⟩
      rw [hV] at s1 ⊢
      by_cases hlt : x < P
      case neg =>
        obtain rfl : x = P := by omega
        go_wp2_with fail
        refine (cp.out _).mono ?_
        rintro e w1 ⟨rfl, rfl⟩
        go_wp2_with fail
        go_ret
        exact ⟨by rw [hOe.out, hce.out, hV]; rfl, hb.out⟩
      have s2 := hsp.out (x + 1) (by omega)
      have hn1 := hsn.out x
      have hFx := hFm.out x
      have clx := Lib.hid (hcl.out x hlt)
      have btx := Lib.hid (hbt.out x hlt)
      have hlw := hlow.out x hlt
      rw [hlw] at clx
      obtain ⟨cc, hcc⟩ : ∃ cc, cntI (x : Nat) m = cc := ⟨_, rfl⟩
      rw [hcc] at clx hFx
      obtain ⟨bb, hbb⟩ : ∃ bb, bitI (x : Nat) j = bb := ⟨_, rfl⟩
      have hb01 := bit_two (x : Nat) j
      rw [hbb] at btx hFx hb01
      rw [hV] at hn1
      obtain ⟨ba', bo', ebo, hri⟩ := row_at hR.out hi
      cases ebo
      rw [hr.out] at hri
      have hix := Lib.hid (hih.out x)
      replace hV := Lib.hid hV
      replace hcc := Lib.hid hcc
      replace hbb := Lib.hid hbb
      clear hlw
      go_wp2_with fail
      refine (cp.out _).mono ?_
      rintro e w1 ⟨rfl, rfl⟩
      by_cases hgo : cc = r ∧ bb = 1
      case neg =>
        rw [if_neg (fun h => hgo h.1), ] at hFx
        rw [hFx, Int.add_zero] at hn1
        replace hn1 := Lib.hid hn1
        have hcase : (cc != r) = true ∨ ((cc != r) = false ∧ bb = 0) := by
          by_cases h : cc = r
          · right; exact ⟨by simpa using h, by rcases hb01 with h2 | h2; exact h2; exact absurd ⟨h, h2⟩ hgo⟩
          · left; simpa using h
        clear hgo hb01
        rcases hcase with hne | ⟨hne, rfl⟩
        all_goals
          go_wp2_with fail
          go_quiet (first | (go_at_call 61; exact qd (clx.out _)) | (go_at_call 51; exact qd (btx.out _)))
          have hbq := below_drewN (Below.refl wo.heap.size wo) nq
          have hB2 := Lib.hid (hb.out.trans (hbq.mono hBs))
          have hR2 := Lib.hid (hR.out.bel hbq)
          have hR2' := Lib.hid (hR'.out.bel hbq)
          have hO2 := Lib.hid (hO.out.bel hbq)
          clear hbq
          go_wp2_with fail
          exact ⟨⟨x + 1, by omega, by go_num, by rw [hn1.out], hR2, hR2', hO2, hB2⟩, by simp [intOf]; omega⟩
      obtain ⟨hcr, rfl⟩ := hgo
      have hne : (cc != r) = false := by simpa using hcr
      replace hcr := Lib.hid hcr
      clear hb01
      go_wp2_with fail
      go_quiet (first | (go_at_call 61; exact qd (clx.out _)) | (go_at_call 51; exact qd (btx.out _)))
      have hbq := below_drewN (Below.refl wo.heap.size wo) nq
      obtain ⟨wq, hwq⟩ : ∃ wq, wo.drewN nq = wq := ⟨_, rfl⟩
      rw [hwq] at hbq ⊢
      have hBq := hb.out.trans (hbq.mono hBs)
      replace hR := Lib.hid (hR.out.bel hbq)
      replace hR' := Lib.hid (hR'.out.bel hbq)
      replace hO := Lib.hid (hO.out.bel hbq)
      have htq := Lib.hid (htk.out x hlt wq hR'.out)
      have hBqs := hBq.size
      replace hBq := Lib.hid hBq
      clear hwq hbq hb hri
      go_wp2_with fail
      refine htq.out.mono ?_
      rintro e w3 ⟨hres, hb3⟩
      have hB3 := Lib.hid (hBq.out.trans (hb3.mono hBqs))
      replace hR := Lib.hid (hR.out.bel hb3)
      replace hR' := Lib.hid (hR'.out.bel hb3)
      replace hO := Lib.hid (hO.out.bel hb3)
      rcases hres with ⟨ht, g, c2, rfl, ho⟩ | ⟨ht, g, c2, rfl⟩
      · rw [if_pos ⟨⟨hcr.out, by first | rfl | trivial⟩, ht⟩] at hFx
        have ho3 := Lib.hid ho.row
        obtain ⟨U, hU⟩ : ∃ U, wayI m O (takeI ys (x : Nat)) = U := ⟨_, rfl⟩
        have hcall := hix.out ht
        rw [hU] at hFx hcall
        rw [hFx] at hn1
        have hw1 : IntKind.i64.wrap (V + U) = V + U := by rw [← hn1]; exact IntWalk.i64_in _ ⟨by omega, by omega⟩
        have hw2 : wrap64 (V + U) = V + U := by rw [← hn1]; exact IntWalk.wrap64_in _ ⟨by omega, by omega⟩
        replace hU := Lib.hid hU
        replace hn1 := Lib.hid hn1
        replace hcall := Lib.hid hcall
        clear ho hb3 hix htq hBq
        go_wp2_with fail
        refine (hcall.out g c2 w3 hO.out ho3.out).mono ?_
        rintro e w4 ⟨rfl, hb4⟩
        have hB4 := Lib.hid (hB3.out.trans (hb4.mono hB3.out.size))
        replace hR := Lib.hid (hR.out.bel hb4)
        replace hR' := Lib.hid (hR'.out.bel hb4)
        replace hO := Lib.hid (hO.out.bel hb4)
        clear hb4
        go_wp2_with fail
        exact ⟨⟨x + 1, by omega, by go_num, by rw [hn1.out], hR, hR', hO, hB4⟩, by simp [intOf]; omega⟩
      · rw [if_neg (fun h => by rw [h.2] at ht; cases ht)] at hFx
        rw [hFx, Int.add_zero] at hn1
        replace hn1 := Lib.hid hn1
        clear hb3 hix htq hBq
        go_wp2_with fail
        exact ⟨⟨x + 1, by omega, by go_num, by rw [hn1.out], hR, hR', hO, hB3⟩, by simp [intOf]; omega⟩
end Go.Proofs.Ytmfncheimmcobaa

