/-
  Plain facts on lists of choices, and the contract of the program's ImageRank.
-/
import Derived.Test.YtnfkafaolelkbaaBd
import Derived.Test.YtnfkafaolelkbaaJl
import Derived.Test.YtnfkafaolelkbaaJf
import Derived.Test.YtnfkafaolelkbaaEp
import Derived.Deep.RegionLaw
import Derived.Deep.DeepCutAuto
namespace Go.Proofs.Ytnfkafaolelkbaa
set_option maxRecDepth 100000
open Go.RowKit

variable {W i : Nat} {ys R : List Int}
theorem cho_drop (hi : i < R.length) : choC W (R.drop i) = withL W (R.getD i 0) (pn W) :: choC W (R.drop (i + 1)) := by
  rw [drop_hd hi]; rfl
theorem one_length (ys : List Int) : (oneL ys).length = ys.length := by simp [oneL]
theorem one_at (hy : ys.length = i) (hi : i < R.length) : (oneL ys ++ choC W (R.drop i))[i]? = some (withL W (R.getD i 0) (pn W)) := by
  rw [cho_drop hi, List.getElem?_append_right (by rw [one_length]; omega), one_length, hy, Nat.sub_self]; rfl
theorem one_set (hy : ys.length = i) (hi : i < R.length) (M : List Int) : (oneL ys ++ choC W (R.drop i)).set i M = oneL ys ++ M :: choC W (R.drop (i + 1)) := by
  rw [cho_drop hi, List.set_append_right _ _ (by rw [one_length]; omega), one_length, hy, Nat.sub_self]; rfl
theorem one_next (ys : List Int) (x : Int) (C : List (List Int)) : oneL ys ++ [x] :: C = oneL (ys ++ [x]) ++ C := by simp [oneL]
theorem one_len (hy : ys.length = i) (hi : i ≤ R.length) : (oneL ys ++ choC W (R.drop i)).length = R.length := by
  rw [List.length_append, one_length, cho_len, List.length_drop]; omega
theorem one_small (_ : W ≤ 6) (h : ∀ y, y ∈ ys → 0 ≤ y ∧ y ≤ 63) (hP : pn W ≤ 64) (S : List Int) : ∀ L, L ∈ oneL ys ++ choC W S → L.length ≤ 64 ∧ ∀ x, x ∈ L → 0 ≤ x ∧ x ≤ 63 := fun L hL => by
  rcases List.mem_append.1 hL with h1 | h1
  · obtain ⟨y, hy, rfl⟩ := List.mem_map.1 h1
    refine ⟨by simp, fun x hx => ?_⟩
    rw [List.mem_singleton] at hx; subst hx; exact h _ hy
  · obtain ⟨r, _, rfl⟩ := List.mem_map.1 h1
    have h2 := with_len W r (pn W)
    exact ⟨by omega, fun x hx => by have := with_mem hx; omega⟩
theorem with_some : ∀ W, W < 7 → ∀ r : Nat, r < W + 1 → 1 ≤ (withL W (r : Int) (pn W)).length := by decide +kernel
theorem cho_some (hW : W ≤ 6) (h : ∀ i, i < R.length → 0 ≤ R.getD i 0 ∧ R.getD i 0 ≤ W) : ∀ L, L ∈ choC W R → 1 ≤ L.length := fun L hL => by
  obtain ⟨r, hr, rfl⟩ := List.mem_map.1 hL
  obtain ⟨k, hk, e⟩ := List.getElem_of_mem hr
  have h2 := h k hk
  rw [List.getD_eq_getElem?_getD, List.getElem?_eq_getElem hk, Option.getD_some, e] at h2
  obtain ⟨q, hq⟩ := Int.eq_ofNat_of_zero_le h2.1
  subst hq
  exact with_some W (by omega) q (by omega)
theorem with_lo {r : Int} {x K q : Nat} (hx : x < K) (hr : cntI (x : Nat) W = r) (hq : q < (withL W r x).length) : (withL W r K).getD q 0 < (x : Int) := by
  obtain ⟨T, h⟩ := with_at hx hr
  rw [h, List.getD_eq_getElem?_getD, List.getElem?_append_left hq, List.getElem?_eq_getElem hq, Option.getD_some]
  exact (with_mem (List.getElem_mem hq)).2
theorem with_hi {r : Int} {x K q : Nat} (hx : x < K) (hr : cntI (x : Nat) W = r) (h1 : (withL W r x).length ≤ q) (h2 : q < (withL W r K).length) : (x : Int) ≤ (withL W r K).getD q 0 := by
  obtain ⟨a, b, c⟩ := with_take hx hr
  rcases Nat.eq_or_lt_of_le h1 with e | e
  · rw [← e, c]; omega
  · have hs := List.pairwise_iff_getElem.1 (with_sorted W r K) _ _ b h2 e
    rw [List.getD_eq_getElem?_getD, List.getElem?_eq_getElem b, Option.getD_some] at c
    rw [List.getD_eq_getElem?_getD, List.getElem?_eq_getElem h2, Option.getD_some]
    omega
theorem with_part {r : Int} {K t : Nat} (ht : t ≤ (withL W r K).length) : ∃ k : Nat, k ≤ K ∧ (withL W r K).take t = withL W r k := by
  by_cases h : t < (withL W r K).length
  · obtain ⟨x, h1, h2, h3, h4⟩ := with_index h
    refine ⟨x, by omega, ?_⟩
    have := (with_take h2 h3).1
    rwa [h4] at this
  · exact ⟨K, Nat.le_refl _, List.take_of_length_le (by omega)⟩
theorem with_one {r : Int} {x K : Nat} (hx : x < K) (hr : cntI (x : Nat) W = r) : (withL W r K).take ((withL W r x).length + 1) = withL W r (x + 1) := by
  obtain ⟨T, h⟩ := with_at hx hr
  rw [h, withL, if_pos hr, List.take_append]
  simp
  exact List.take_of_length_le (by omega)
/-- What is counted at a place, with a part of the list there. -/
theorem ckr_part (hW : W ≤ 6) {r : Int} {rest cols cols' : List Int} (hl : cols'.length = W) (h0 : ∀ j, j < W → 0 ≤ cols'.getD j 0) (hv : subsV ys (padL cols) = padL cols') {k : Nat} (hk : k ≤ pn W) :
    ckr (oneL ys ++ withL W r k :: choC W rest) (padL cols) = befI W r rest cols' k := by
  rw [ckr_one, hv, ckr_bef hW r hl h0 hk]
theorem bef_le {r : Int} {rest cols' : List Int} (hl : cols'.length = W) {k : Nat} (hk : k ≤ pn W) : 0 ≤ befI W r rest cols' k ∧ befI W r rest cols' k ≤ wayI W (r :: rest) cols' := by
  have hn : ∀ m : Nat, takeB cols' (m : Nat) = true → 0 ≤ wayI W rest (takeI cols' (m : Nat)) := fun m ht => by
    rw [way_num W _ _ (by rw [took_len, hl]) fun j hj => taken_ge ht j (by omega)]
    exact nOf_nn ..
  refine ⟨bef_nn _ _ _ hn k, ?_⟩
  rw [way_bef]
  have key : ∀ d, befI W r rest cols' k ≤ befI W r rest cols' (k + d) := by
    intro d
    induction d with
    | zero => exact Int.le_refl _
    | succ d ih =>
      have e : befI W r rest cols' (k + (d + 1)) = befI W r rest cols' (k + d) + if cntI ((k + d : Nat) : Int) W = r ∧ takeB cols' ((k + d : Nat) : Int) = true then wayI W rest (takeI cols' ((k + d : Nat) : Int)) else 0 := rfl
      rw [e]
      split
      · rename_i h; have := hn _ h.2; omega
      · omega
  have := key (pn W - k)
  rwa [show k + (pn W - k) = pn W by omega] at this
/-- The place that is searched for, and what has been chosen then. -/
theorem nth_pick {W i : Nat} {ys R C cs : List Int} {N nv : Int} {p : Nat} {f : Nat → Int} (h : Pre W R C N i ys cs nv) (hW : W ≤ 6) (hi : i < R.length)
    (hf : ∀ t, f t = ckr ((oneL ys ++ choC W (R.drop i)).set i ((withL W (R.getD i 0) (pn W)).take t)) (padL C)) (hp : p ≤ (withL W (R.getD i 0) (pn W)).length)
    (h1 : p = 0 ∨ decide (nv < f (p - 1 + 1)) = false) (h2 : p = (withL W (R.getD i 0) (pn W)).length ∨ decide (nv < f (p + 1)) = true) :
    p < (withL W (R.getD i 0) (pn W)).length ∧ ∃ x : Nat, (withL W (R.getD i 0) (pn W)).getD p 0 = (x : Int) ∧ x < pn W ∧ 0 ≤ f p ∧ f p ≤ nv ∧ Pre W R C N (i + 1) (ys ++ [(x : Int)]) (takeI cs (x : Nat)) (nv - f p) := by
  have hfe : ∀ {t k : Nat}, k ≤ pn W → (withL W (R.getD i 0) (pn W)).take t = withL W (R.getD i 0) k → f t = befI W (R.getD i 0) (R.drop (i + 1)) cs k := fun {t k} hk e => by
    rw [hf, one_set h.hy hi, e]
    exact ckr_part hW h.hl (fun j hj => (h.hb j hj).1) h.hv hk
  have hle : f p ≤ nv := by
    rcases h1 with h1 | h1
    · subst h1
      rw [hfe (t := 0) (k := 0) (Nat.zero_le _) rfl]
      exact h.h0
    · by_cases e : p = 0
      · subst e
        rw [hfe (t := 0) (k := 0) (Nat.zero_le _) rfl]
        exact h.h0
      · rw [show p - 1 + 1 = p by omega] at h1
        have := of_decide_eq_false h1
        omega
  have hpl : p < (withL W (R.getD i 0) (pn W)).length := by
    rcases Nat.eq_or_lt_of_le hp with e | e
    · rw [hfe (t := p) (k := pn W) (Nat.le_refl _) (List.take_of_length_le (by omega))] at hle
      have := h.h1
      rw [drop_hd hi, way_bef] at this
      omega
    · exact e
  obtain ⟨x, q1, q2, q3, q4⟩ := with_index hpl
  have t1 := (with_take q2 q3).1
  have t2 := with_one q2 q3
  rw [q4] at t1 t2
  have e1 := hfe (by omega) t1
  have e2 := hfe (by omega) t2
  have hlt : nv < f (p + 1) := by
    rcases h2 with e | e
    · omega
    · exact of_decide_eq_true e
  have hst := h.step hW hi q2 (by omega) (by omega)
  refine ⟨hpl, x, q1, q2, ?_, hle, ?_⟩
  · rw [e1]; exact (bef_le h.hl (by omega)).1
  · rw [e1]; exact hst.2.2
/-- What ImageRank answers. -/
def rkO (V : Int) (xs : List Int) : Int := if validB V xs = true ∧ (xs.length : Int) * V ≤ 16 then rnkS (rsL xs V.toNat xs.length) (csL xs xs.length V.toNat) xs else -1
theorem rko_no {V : Int} {xs : List Int} (h : ctdB (rsOut V xs) (csOut V xs) = false) : rkO V xs = -1 := by
  refine if_neg ?_
  rintro ⟨hv, h16⟩
  have hW := validB_W hv
  obtain ⟨W, rfl⟩ := Int.eq_ofNat_of_zero_le (by omega : 0 ≤ V)
  have hI : Im W xs.length xs := Im.of hv rfl
  rw [hI.rs, hI.cs] at h
  have : ctdB (rsL xs W xs.length) (csL xs xs.length W) = true := by
    unfold ctdB
    rw [hI.sumsV, rs_len, cs_len, decide_eq_true (by rw [← Int.natCast_mul] at h16; omega)]; rfl
  rw [this] at h; cases h
theorem rko_yes {V : Int} {n : Nat} {xs : List Int} (hl : xs.length = n) (h : ctdB (rsOut V xs) (csOut V xs) = true) : ∃ W : Nat, V = W ∧ Im W n xs ∧ rsOut V xs = rsL xs W n ∧ csOut V xs = csL xs n W ∧ n * W ≤ 16 ∧ rkO V xs = rnkS (rsL xs W n) (csL xs n W) xs := by
  by_cases hv : validB V xs = true
  · have hW := validB_W hv
    obtain ⟨W, rfl⟩ := Int.eq_ofNat_of_zero_le (by omega : 0 ≤ V)
    have hI : Im W n xs := Im.of hv hl
    rw [hI.rs, hI.cs] at h
    have h16 := (ctdB_parts h).2
    rw [rs_len, cs_len] at h16
    refine ⟨W, rfl, hI, hI.rs, hI.cs, h16, ?_⟩
    unfold rkO
    rw [if_pos ⟨hv, by rw [hl, ← Int.natCast_mul]; omega⟩, Int.toNat_natCast, hl]
  · have hv : validB V xs = false := by simpa using hv
    rw [show rsOut V xs = [] by rw [rsOut, hv]; rfl] at h
    have := (sumsB_parts (ctdB_parts h).1).1
    simp at this
theorem rsout_len (V : Int) (xs : List Int) (h : xs.length ≤ 1048576) : (rsOut V xs).length ≤ 1048576 ∧ (csOut V xs).length ≤ 1048576 := by
  by_cases hv : validB V xs = true
  · have hW := validB_W hv
    rw [rsOut, csOut, if_pos hv, if_pos hv, rs_len, cs_len]
    exact ⟨h, by omega⟩
  · rw [rsOut, csOut, if_neg hv, if_neg hv]; exact ⟨by simp, by simp⟩
theorem valid_len {V : Int} {xs : List Int} (h : validB V xs = true) : xs.length ≤ 6 := by
  have hW := validB_W h
  obtain ⟨W, rfl⟩ := Int.eq_ofNat_of_zero_le (by omega : 0 ≤ V)
  exact (Im.of h rfl).l6
theorem rsout_len2 (V : Int) (xs : List Int) : (rsOut V xs).length ≤ 1048576 ∧ (csOut V xs).length ≤ 1048576 := by
  by_cases hv : validB V xs = true
  · exact rsout_len V xs (by have := valid_len hv; omega)
  · rw [rsOut, csOut, if_neg hv, if_neg hv]; exact ⟨by simp, by simp⟩
set_option maxHeartbeats 4000000 in
theorem rank_impl (V : Int) (a : Option Addr) (n cap : Nat) (xs : List Int) (w : World) (h : Row w a n xs) (hm : n ≤ 9223372036854775807) :
    Calls Try.prog 25 #[.agg #[.int .i64 V, .slice a n cap]] w fun e w' => e = .returned (.int .i64 (rkO V xs)) ∧ Below w.heap.size w w' := by
  have hl := h.1
  obtain ⟨W0, hW0⟩ : ∃ W0, W0 = (w.alloc (.cells #[.int .i64 V, .slice a n cap] 30)) := ⟨_, rfl⟩
  have bb : Hid (Below w.heap.size w W0) := by subst hW0; exact (Below.refl _ _).alloc (Nat.le_refl _) _
  have x0 : W0.cell? ⟨w.heap.size, 0, none⟩ = some (.int .i64 V) := by subst hW0; go_simp
  have x1 : W0.cell? ⟨w.heap.size, 1, none⟩ = some (.slice a n cap) := by subst hW0; go_simp
  have r := Lib.hid (h.bel bb.out)
  have r0 := Lib.hid (r.out.bel (w' := W0.drew) ((Below.refl _ _).drew))
  obtain ⟨R, hR⟩ : ∃ R, rsOut V xs = R := ⟨_, rfl⟩
  obtain ⟨C, hC⟩ : ∃ C, csOut V xs = C := ⟨_, rfl⟩
  have hlen := rsout_len2 V xs
  have c1 := Lib.hid (fun (wx : World) (hx : Row wx a n xs) => rsums_impl V a n cap xs wx hx hm)
  have c2 := Lib.hid (fun (wx : World) (hx : Row wx a n xs) => csums_impl V a n cap xs wx hx hm)
  rw [hR] at c1 hlen
  rw [hC] at c2 hlen
  obtain ⟨NR, hNR⟩ : ∃ k, R.length = k := ⟨_, rfl⟩
  obtain ⟨NC, hNC⟩ : ∃ k, C.length = k := ⟨_, rfl⟩
  unfold GivesL at c1 c2
  rw [hNR] at c1 hlen
  rw [hNC] at c2 hlen
  replace hNR := Lib.hid hNR
  replace hNC := Lib.hid hNC
  replace hR := Lib.hid hR
  replace hC := Lib.hid hC
  have hl := Lib.hid hl
  clear h
  obtain ⟨RK, hRK⟩ : ∃ v, rkO V xs = v := ⟨_, rfl⟩
  rw [hRK]
  replace hRK := Lib.hid hRK
  go_enter Try.func25, Try.ntmps25
  go_upto_region 1 with fail
  rw [← hW0]
  clear hW0
  go_cut [3, 4] (fun s3 s4 wx => ∃ (aR : Option Addr) (cR : Nat) (aC : Option Addr) (cC : Nat), s3 = .slice aR NR cR ∧ s4 = .slice aC NC cC ∧ wx.cell? ⟨w.heap.size, 0, none⟩ = some (.int .i64 V) ∧ wx.cell? ⟨w.heap.size, 1, none⟩ = some (.slice a n cap) ∧ Hid (Row wx a n xs) ∧ Hid (Row wx aR NR R) ∧ Hid (Row wx aC NC C) ∧ Hid (Below w.heap.size w wx))
  case first =>
    go_wp2_with fail
    go_region_law (first | ((go_simp; go_at_call 27; (with_reducible refine (c1.out _ r0.out).mono ?_); rintro e w2 ⟨⟨aR, cR, rfl, hoR⟩, hb2⟩; have hb : Below W0.heap.size W0 w2 := (((Below.refl _ _).drew).trans (hb2.mono (Nat.le_refl _))); have x0 := kept hb (block_lt x0) x0; have x1 := kept hb (block_lt x1) x1; have r2 := Lib.hid (r.out.bel hb); have rR := Lib.hid hoR.row; have bb := Lib.hid (bb.out.trans (hb.mono bb.out.size)); clear hb hb2 hoR)) | ((go_simp; go_at_call 28; (with_reducible refine (c2.out _ r2.out).mono ?_); rintro e w3 ⟨⟨aC, cC, rfl, hoC⟩, hb⟩; have x0 := kept hb (block_lt x0) x0; have x1 := kept hb (block_lt x1) x1; have r3 := Lib.hid (r2.out.bel hb); have rR2 := Lib.hid (rR.out.bel hb); have rC := Lib.hid hoC.row; have bb := Lib.hid (bb.out.trans (hb.mono bb.out.size)); clear hb hoC)))
    all_goals
      go_wp2_with fail
      go_meet
      exact ⟨aR, cR, aC, cC, rfl, rfl, x0, x1, r3, rR2, rC, bb⟩
  case rest =>
    clear r r0 x0 x1 bb c1 c2
    obtain ⟨aR, cR, aC, cC, rfl, rfl, x0, x1, r, rR, rC, bb⟩ := hcut
    have hct := counted_any aR NR cR aC NC cC R C wc rR.out rC.out hlen.1 hlen.2
    by_cases hb0 : ctdB R C = true
    case neg =>
      have hb0 : ctdB R C = false := by simpa using hb0
      obtain rfl : RK = -1 := hRK.out.symm.trans (rko_no (by rw [hR.out, hC.out]; exact hb0))
      rw [hb0] at hct
      go_wp2_with fail
      refine hct.mono ?_
      rintro e w2 ⟨rfl, hb⟩
      replace bb := Lib.hid (bb.out.trans (hb.mono bb.out.size))
      clear hb
      go_wp2_with fail
      go_ret
      exact ⟨rfl, bb.out⟩
    rw [hb0] at hct
    obtain ⟨W, rfl, hI, e1, e2, h16, e3⟩ := rko_yes hl.out (by rw [hR.out, hC.out]; exact hb0)
    rw [hR.out] at e1
    rw [hC.out] at e2
    have hRn : R.length = n := by rw [e1, rs_len]
    have hCn : C.length = W := by rw [e2, cs_len]
    obtain rfl : NR = n := by have := hNR.out; omega
    obtain rfl : NC = W := by have := hNC.out; omega
    rw [← e1, ← e2] at e3
    have hK : rnkS R C xs = RK := e3.symm.trans hRK.out
    have hw6 := hI.w6
    have hn6 := hI.l6
    have hw1 := hI.w1
    have hn1 := hI.l1
    have hsv := (ctdB_parts hb0).1
    obtain ⟨_, _, hbR, hbC⟩ := sumsB_parts hsv
    rw [hRn, hCn] at hbR
    rw [hRn, hCn] at hbC
    have hall : xs ∈ allS R C := by have := im_alls hI; rwa [← e1, ← e2] at this
    obtain ⟨a1, a2⟩ := alls_mem.1 hall
    rw [hRn, hCn] at a1 a2
    have hst : Hid (RkSt NC R C xs 0 C 0) := rk_start hCn (fun j hj => ⟨(hbC j hj).1, by have := (hbC j hj).2; omega⟩) (by rw [hRn]; exact a1) (by rw [hRn]; exact a2)
    have hrk : rnkI NC R C xs = rnkS R C xs := by have := rnk_rec hsv hall; rwa [hCn] at this
    have hrb := rnk_bd hall
    have hc16 := cnt_16 (rows := R) (cols := C) (by rw [hRn, hCn]; exact h16)
    rw [hK] at hrk hrb
    have hKb : RK ≤ 65536 := by omega
    have hx63 : Hid (∀ y, y ∈ xs → 0 ≤ y ∧ y ≤ 63) := fun y hy => by
      obtain ⟨k, hk, e⟩ := List.getElem_of_mem hy
      have := hI.row k (by have := hl.out; omega)
      rw [List.getD_eq_getElem?_getD, List.getElem?_eq_getElem hk, Option.getD_some, e] at this
      have := pw_63 hw6
      omega
    have hsome : Hid (∀ L, L ∈ choC NC R → 1 ≤ L.length) := cho_some hw6 (fun i hi => hbR i (by omega))
    replace hbC := Lib.hid (fun j (hj : j < NC) => show 0 ≤ C.getD j 0 ∧ C.getD j 0 ≤ 7 from ⟨(hbC j hj).1, by have := (hbC j hj).2; omega⟩)
    replace hRn := Lib.hid hRn
    replace hCn := Lib.hid hCn
    replace hrk := Lib.hid hrk
    replace hK := Lib.hid hK
    clear e1 e2 e3 hI hsv hbR hall a1 a2 hrb hc16 hb0
    go_wp2_with fail
    refine hct.mono ?_
    rintro e w2 ⟨rfl, hb⟩
    replace x0 := kept hb (block_lt x0) x0
    replace x1 := kept hb (block_lt x1) x1
    replace r := Lib.hid (r.out.bel hb)
    replace rR := Lib.hid (rR.out.bel hb)
    replace rC := Lib.hid (rC.out.bel hb)
    replace bb := Lib.hid (bb.out.trans (hb.mono bb.out.size))
    clear hb hct
    go_wp2_with fail
    refine (choices_any NC hw6 aR NR cR R w2 rR.out hn6).mono ?_
    rintro e w3 ⟨⟨g, rfl, hA⟩, hb⟩
    have hA2 : Hid (ChR w2.heap.size w3 g NR (oneL (xs.take 0) ++ choC NC (R.drop 0))) := ChR.of (C := choC NC R) hA (by rw [cho_len, hRn.out]) hsome.out
    have hwB : w.heap.size ≤ w2.heap.size := bb.out.size
    replace x0 := kept hb (block_lt x0) x0
    replace x1 := kept hb (block_lt x1) x1
    have bB : Hid (Below w2.heap.size w2 w3) := hb
    clear hb hA rR hsome
    go_wp2_with fail
    go_loopw [5, 26] (fun o i wr => ∃ (k : Nat) (cs : List Int) (acc : Int), k ≤ NR ∧ i = .int .i64 k ∧ o = .int .i64 acc ∧ Hid (RkSt NC R C xs k cs acc) ∧ Hid (ChR w2.heap.size wr g NR (oneL (xs.take k) ++ choC NC (R.drop k))) ∧ Hid (Below w2.heap.size w2 wr)) (fun _ i _ => NR - (intOf i).toNat)
    case atStart => exact ⟨0, C, 0, Nat.zero_le _, rfl, rfl, hst, hA2, bB⟩
    case round =>
      clear hst hA2 bB x0 x1
      obtain ⟨k, cs, acc, hk, rfl, rfl, hst, hA, bB⟩ := hrel
      obtain ⟨wo, rfl⟩ : ∃ wo : World, wo = wr := ⟨_, rfl⟩
      replace r := Lib.hid (r.out.bel bB.out)
      replace rC := Lib.hid (rC.out.bel bB.out)
      replace bb := Lib.hid (bb.out.trans (bB.out.mono bb.out.size))
      by_cases hlt : k < NR
      case neg =>
        obtain rfl : k = NR := by omega
        have hd : RK = acc := by
          have h1 := hst.out
          rw [← hRn.out] at h1
          have := h1.done
          have := hrk.out
          omega
        subst hd
        go_wp2_with fail
        go_ret
        exact ⟨rfl, bb.out⟩
      have hkR : k < R.length := by have := hRn.out; omega
      have hxl := hl.out
      obtain ⟨x, q1, q2, q3, q4, q5, q6, q7⟩ := hst.out.step hw6 hkR (by rw [hxl, hRn.out])
      rw [hrk.out] at q6
      have q8 := hst.out.h0
      have hyl : (xs.take k).length = k := by rw [List.length_take]; omega
      obtain ⟨t1, t2, t3⟩ := with_take q2 q3
      have hat := one_at (W := NC) hyl hkR
      have hset := one_set (W := NC) hyl hkR (withL NC (R.getD k 0) x)
      have hset2 := one_set (W := NC) hyl hkR [(x : Int)]
      rw [one_next, ← q1, show xs.take k ++ [xs.getD k 0] = xs.take (k + 1) by rw [List.take_add_one, List.getElem?_eq_getElem (show k < xs.length by omega), List.getD_eq_getElem?_getD, List.getElem?_eq_getElem (show k < xs.length by omega)]; rfl, q1] at hset2
      have hck := ckr_part (rest := R.drop (k + 1)) hw6 hst.out.hl (fun j hj => (hst.out.hb j hj).1) hst.out.hv (r := R.getD k 0) (k := x) (by omega)
      rw [← hset] at hck
      have hlo := fun q hq => with_lo (K := pn NC) q2 q3 (q := q) hq
      have hhi := fun q h1 h2 => with_hi (K := pn NC) q2 q3 (q := q) h1 h2
      have hsm := one_small (ys := xs.take k) hw6 (fun y hy => hx63.out y (List.mem_of_mem_take hy)) (pn_64 hw6) (R.drop k)
      obtain ⟨p, hp⟩ : ∃ p, (withL NC (R.getD k 0) x).length = p := ⟨_, rfl⟩
      rw [hp] at t1 t2 t3 hlo hhi
      rw [← t1] at hck
      obtain ⟨L, hL⟩ : ∃ L, withL NC (R.getD k 0) (pn NC) = L := ⟨_, rfl⟩
      rw [hL] at t1 t2 t3 hat hck hlo hhi
      have hLm : L ∈ oneL (xs.take k) ++ choC NC (R.drop k) := List.mem_of_getElem? hat
      have hL64 := (hsm L hLm).1
      obtain ⟨b, o, c, d1, d2, d3, d4, d5⟩ := hA.out.cut hlt hat
      have hat2 := Lib.hid hat
      have t22 := Lib.hid t2
      have t32 := Lib.hid t3
      replace hset2 := Lib.hid hset2
      obtain ⟨bef, hbef⟩ : ∃ v, befI NC (R.getD k 0) (R.drop (k + 1)) cs x = v := ⟨_, rfl⟩
      rw [hbef] at q5 q6 q7 hck
      obtain ⟨ra, ro, rfl, rc⟩ := row_at r.out hlt
      rw [q1] at rc
      have cbs := Lib.hid (fun wx hx => bsearch_any (some ⟨b, o, none⟩) L.length c L (x : Int) p wx hx hL64 t2 t3 hlo (fun q h1 h2 => hhi q h1 h2))
      have cbf := Lib.hid (before_any g 0 NR NR _ aC NC cC C k p wo hA.out.read rC.out hn6 hw1 hw6 hbC.out hsm hlt L hat (by omega))
      rw [hck] at cbf
      have hiw : IntKind.i64.wrap (acc + bef) = acc + bef := IntWalk.i64_in _ ⟨by omega, by omega⟩
      have hip : IntKind.i64.wrap ((p : Int) + 1) = (p : Int) + 1 := IntWalk.i64_in _ ⟨by omega, by omega⟩
      have hgf := hA.out.far
      obtain ⟨len, hlen2⟩ : ∃ len, L.length = len := ⟨_, rfl⟩
      rw [hlen2] at cbs d1 d2 d3 t2 hL64
      replace d3 := Lib.hid d3
      replace q7 := Lib.hid q7
      replace hp := Lib.hid hp
      replace hL := Lib.hid hL
      replace hlen2 := Lib.hid hlen2
      replace hbef := Lib.hid hbef
      have hbef0 : 0 ≤ bef := q5
      clear q1 q3 q4 q6 q8 hat hset hck hlo hhi hsm hLm d5 t1 t3 hst hyl d2
      go_wp2_with fail
      refine (cbs.out _ d3.out).mono ?_
      rintro e w5 ⟨rfl, rfl⟩
      go_wp2_with fail
      refine cbf.out.mono ?_
      rintro e w6 ⟨rfl, hb⟩
      obtain ⟨b2, o2, c2, k1, k2, k3, k4, k5⟩ := (hA.out.bel hb).cut hlt hat2.out
      have k6 := k5 p t22.out
      rw [t32.out, hset2.out] at k6
      rw [hlen2.out] at k1 k2
      have hpc : p + 1 ≤ c2 := by omega
      have hpc2 : p ≤ c2 := by omega
      have hpcn : ¬ c2 = p := by omega
      have hp1 : p + 1 - p = 1 := by omega
      have hfar := hA.out.far
      have bB2 := Lib.hid ((bB.out.trans (hb.mono bB.out.size)).setCell (show w2.heap.size ≤ (⟨g, k, none⟩ : Addr).block from hfar.1) (.slice (some ⟨b2, o2 + p, none⟩) 1 (c2 - p)))
      replace k6 := Lib.hid k6
      clear k5 k3 bB bb r rC rc d1 d3 cbf hA hb
      go_wp2_with fail
      exact ⟨⟨k + 1, _, _, by omega, by go_num, rfl, q7, k6, bB2⟩, by simp [intOf]; omega⟩
end Go.Proofs.Ytnfkafaolelkbaa

