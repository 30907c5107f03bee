/-
  The contracts of the model's l16Before and ImageRank.
-/
import Derived.Test.YtnfkafaolelkbaaJv
import Derived.Test.YtnfkafaolelkbaaBe
import Derived.Test.YtnfkafaolelkbaaK
namespace Go.Proofs.Ytnfkafaolelkbaa
set_option maxRecDepth 100000
open Go.RowKit

theorem row_dropR {w : World} {b off n : Nat} {R : List Int} {k : Nat} (h : Row w (some ⟨b, off, none⟩) n R) (hk : k < n) : Row w (some ⟨b, off + k, none⟩) (n - k) (R.getD k 0 :: R.drop (k + 1)) := by
  have hl := h.1
  rw [← drop_hd (by omega)]
  refine ⟨by rw [List.length_drop, hl], .inr ⟨b, off + k, rfl, fun i hi => ?_⟩⟩
  obtain ⟨b', o', e, hc⟩ := row_at h (show k + i < n by omega)
  cases e
  rw [Nat.add_assoc, hc]
  simp [List.getD_eq_getElem?_getD]
set_option maxHeartbeats 3200000 in
theorem before_spec (W : Nat) (hW1 : 1 ≤ W) (hW : W ≤ 6) (r : Int) (rows : List Int) (ba bo k cap : Nat) (b : Option Addr) (cb : Nat) (cols : List Int) (X : Nat) (w : World) (h : Row w (some ⟨ba, bo, none⟩) (k + 1) (r :: rows)) (hc : Row w b W cols)
    (hn : k + 1 ≤ 6) (hcap : k + 1 ≤ cap) (hb : ∀ j, j < W → 0 ≤ cols.getD j 0 ∧ cols.getD j 0 ≤ 6) (hX : X ≤ pn W) :
    Calls Try.prog 66 #[.slice (some ⟨ba, bo, none⟩) (k + 1) cap, .slice b W cb, .int .i64 X] w fun e w' => e = .returned (.int .i64 (befI W r rows cols X)) ∧ Below w.heap.size w w' := by
  obtain ⟨_, _, eba, hr0⟩ := row_at h (show 0 < k + 1 by omega)
  cases eba
  have hl := hc.1
  have hrl : rows.length = k := by have := h.1; simpa using this
  rw [show (r :: rows).getD 0 0 = r from rfl, Nat.add_zero] at hr0
  have hP64 := pn_64 hW
  have hlow := Lib.hid (fun (m : Nat) (hm : m < X) => cnt_low W (by omega) m (by omega))
  have hF : ∀ m : Nat, (takeB cols (m : Nat) = true → 0 ≤ wayI W rows (takeI cols (m : Nat)) ∧ wayI W rows (takeI cols (m : Nat)) ≤ 68719476736) := fun m ht =>
    way_bd hW (by rw [took_len]; exact hl) (fun j hj => taken_nn ht j (by omega)) (by omega)
  have htot := way_bd hW (rows := r :: rows) hl (fun j hj => (hb j hj).1) (by simp; omega)
  obtain ⟨F, hFe⟩ : ∃ F : Nat → Int, befI W r rows cols = F := ⟨_, rfl⟩
  have hsp : Hid (∀ x, x ≤ X → 0 ≤ F x ∧ F x ≤ 68719476736) := fun x hx => by
    have := bef_le (W := W) (r := r) (rest := rows) hl (k := x) (by omega)
    rw [hFe] at this
    omega
  have hsn : Hid (∀ x : Nat, F (x + 1) = F x + if cntI (x : Nat) W = r ∧ takeB cols (x : Nat) = true then wayI W rows (takeI cols (x : Nat)) else 0) := fun x => by rw [← hFe]; rfl
  have hF0 : F 0 = 0 := by rw [← hFe]; rfl
  rw [hFe]
  have htk := Lib.hid (fun (m : Nat) (hm : m < X) wx hx => take_spec b W cb cols (m : Nat) wx hx hW1 hW hb (by omega) (by omega))
  have hih := Lib.hid (fun (m : Nat) (ht : takeB cols (m : Nat) = true) (a' : Option Addr) (c' : Nat) (g c2 : Nat) (wx : World) (h1 : Row wx a' k rows) (h2 : Row wx (some ⟨g, 0, none⟩) W (takeI cols (m : Nat))) (h3 : k ≤ c') =>
    ways_spec W hW1 hW rows a' k c' (some ⟨g, 0, none⟩) c2 (takeI cols (m : Nat)) wx h1 h2 (by omega) h3 (fun j hj => ⟨taken_nn ht j (by omega), by rw [took_get _ (by omega)]; have := bit_01 (m : Nat) j; have := hb j hj; omega⟩))
  have hcl := Lib.hid (fun (x : Nat) (hx : x < X) wx => count_any (x : Int) wx (by omega) (by omega))
  have hR := Lib.hid h
  have hC := Lib.hid hc
  replace hFe := Lib.hid hFe
  have hk1 : ((k : Int) + 1 == 0) = false := by rw [beq_eq_false_iff_ne]; omega
  clear h hc hb hF htot
  go_enter Try.func66, Try.ntmps66
  go_wp2_with fail
  go_loopw [7, 8] (fun o i wr => ∃ x : Nat, x ≤ X ∧ i = .int .i64 x ∧ o = .int .i64 (F x) ∧ Hid (Below w.heap.size w wr)) (fun _ i _ => X - (intOf i).toNat)
  case atStart => exact ⟨0, Nat.zero_le _, rfl, by rw [hF0], Below.refl _ _⟩
  case round =>
    obtain ⟨x, hx, rfl, rfl, hB⟩ := hrel
    obtain ⟨wo, rfl⟩ : ∃ wo : World, wo = wr := ⟨_, rfl⟩
    have hBs := hB.out.size
    have s1 := hsp.out x hx
    obtain ⟨V, hV⟩ : ∃ V, F x = V := ⟨_, rfl⟩
    rw [hV] at s1 ⊢
    by_cases hlt : x < X
    case neg =>
      obtain rfl : x = X := by omega
      go_wp2_with fail
      go_ret
      exact ⟨by rw [hV]; rfl, hB.out⟩
    have s2 := hsp.out (x + 1) (by omega)
    have hn1 := hsn.out x
    have clx := Lib.hid (hcl.out x hlt)
    have hlw := hlow.out x hlt
    rw [hlw] at clx
    obtain ⟨cc, hcc⟩ : ∃ cc, cntI (x : Nat) W = cc := ⟨_, rfl⟩
    rw [hcc] at clx hn1
    have hr1 := kept hB.out (block_lt hr0) hr0
    rw [hV] at hn1
    have hix := Lib.hid (hih.out x)
    replace hV := Lib.hid hV
    replace hcc := Lib.hid hcc
    clear hlw
    by_cases hcr : cc = r
    case neg =>
      have hne : (cc != r) = true := by simpa using hcr
      rw [if_neg (fun h => hcr h.1), Int.add_zero] at hn1
      replace hn1 := Lib.hid hn1
      go_wp2_with fail
      go_quiet (((go_at_call 95; exact qd (clx.out _))))
      have hB2 := Lib.hid (hB.out.trans ((below_drewN (Below.refl wo.heap.size wo) nq).mono hBs))
      go_wp2_with fail
      exact ⟨⟨x + 1, by omega, by go_num, by rw [hn1.out], hB2⟩, by simp [intOf]; omega⟩
    have hne : (cc != r) = false := by simpa using hcr
    have hcr2 := Lib.hid hcr
    go_wp2_with fail
    go_quiet (((go_at_call 95; exact qd (clx.out _))))
    have hbq := below_drewN (Below.refl wo.heap.size wo) nq
    obtain ⟨wq, hwq⟩ : ∃ wq, wo.drewN nq = wq := ⟨_, rfl⟩
    rw [hwq] at hbq ⊢
    have hBq := hB.out.trans (hbq.mono hBs)
    have htq := Lib.hid (htk.out x hlt wq (hC.out.bel hBq))
    have hBqs := hBq.size
    replace hBq := Lib.hid hBq
    clear hwq hbq
    go_wp2_with fail
    refine htq.out.mono ?_
    rintro e w3 ⟨hres, hb3⟩
    have hB3 := Lib.hid (hBq.out.trans (hb3.mono hBqs))
    rcases hres with ⟨ht, g, c2, rfl, ho⟩ | ⟨ht, g, c2, rfl⟩
    · rw [if_pos ⟨hcr2.out, ht⟩] at hn1
      have ho3 := Lib.hid ho.row
      have hR3 := Lib.hid (hR.out.bel hB3.out)
      obtain ⟨U, hU⟩ : ∃ U, wayI W rows (takeI cols (x : Nat)) = U := ⟨_, rfl⟩
      have hcall := hix.out ht
      rw [hU] at hn1 hcall
      have hw1 : IntKind.i64.wrap (V + U) = V + U := by rw [← hn1]; exact IntWalk.i64_in _ ⟨by omega, by omega⟩
      have hw2 : wrap64 (V + U) = V + U := by rw [← hn1]; exact IntWalk.wrap64_in _ ⟨by omega, by omega⟩
      replace hU := Lib.hid hU
      replace hn1 := Lib.hid hn1
      replace hcall := Lib.hid hcall
      clear ho hb3 hix htq
      by_cases hc1 : cap = 1
      · have hk0 : Hid (k = 0) := Lib.hid (by omega)
        have hcm1 : Hid (k ≤ cap - 1) := Lib.hid (by omega)
        have hc1' : (cap = 1) = True := eq_true hc1
        clear hc1
        go_wp2_with fail
        refine (hcall.out _ _ g c2 w3 (row_tail hR3.out rfl _ (.inl hk0.out)) ho3.out (by first | exact hcm1.out | (have := hk0.out; omega))).mono ?_
        rintro e w4 ⟨rfl, hb4⟩
        have hB4 := Lib.hid (hB3.out.trans (hb4.mono hB3.out.size))
        clear hb4
        go_wp2_with fail
        exact ⟨⟨x + 1, by omega, by go_num, by rw [hn1.out], hB4⟩, by simp [intOf]; omega⟩
      · have hc2 : ¬ (cap : Nat) = 1 := hc1
        go_wp2_with fail
        refine (hcall.out _ _ g c2 w3 (row_tail hR3.out rfl _ (.inr rfl)) ho3.out (by omega)).mono ?_
        rintro e w4 ⟨rfl, hb4⟩
        have hB4 := Lib.hid (hB3.out.trans (hb4.mono hB3.out.size))
        clear hb4
        go_wp2_with fail
        exact ⟨⟨x + 1, by omega, by go_num, by rw [hn1.out], hB4⟩, by simp [intOf]; omega⟩
    · rw [if_neg (fun h => by rw [h.2] at ht; cases ht), Int.add_zero] at hn1
      replace hn1 := Lib.hid hn1
      clear hb3 hix htq
      go_wp2_with fail
      exact ⟨⟨x + 1, by omega, by go_num, by rw [hn1.out], hB3⟩, by simp [intOf]; omega⟩
set_option maxHeartbeats 4000000 in
theorem rank_spec (V : Int) (a : Option Addr) (n cap : Nat) (xs : List Int) (w : World) (h : Row w a n xs) (hm : n ≤ 9223372036854775807) :
    Calls Try.prog 26 #[.agg #[.int .i64 V, .slice a n cap]] w fun e w' => e = .returned (.int .i64 (rkO V xs)) ∧ Below w.heap.size w w' := by
  have hl := h.1
  obtain ⟨W0, hW0⟩ : ∃ W0, W0 = (w.alloc (.cells #[.int .i64 V, .slice a n cap] 30)) := ⟨_, rfl⟩
  have bb : Hid (Below w.heap.size w W0) := by subst hW0; exact (Below.refl _ _).alloc (Nat.le_refl _) _
  have x0 : W0.cell? ⟨w.heap.size, 0, none⟩ = some (.int .i64 V) := by subst hW0; go_simp
  have x1 : W0.cell? ⟨w.heap.size, 1, none⟩ = some (.slice a n cap) := by subst hW0; go_simp
  have r := Lib.hid (h.bel bb.out)
  clear h
  obtain ⟨RK, hRK⟩ : ∃ v, rkO V xs = v := ⟨_, rfl⟩
  rw [hRK]
  by_cases hv : validB V xs = true
  case neg =>
    obtain rfl : RK = -1 := by rw [← hRK]; exact if_neg (fun h => hv h.1)
    have hv : validB V xs = false := by simpa using hv
    clear hRK
    go_enter Try.func26, Try.ntmps26
    go_wp2_with fail
    rw [← hW0]
    clear hW0
    refine (valid_spec V a n cap xs _ r.out hm).mono ?_
    rintro e v1 ⟨rfl, hb⟩
    replace x0 := kept hb (block_lt x0) x0
    replace x1 := kept hb (block_lt x1) x1
    replace bb := Lib.hid (bb.out.trans (hb.mono bb.out.size))
    rw [hv]
    clear hb
    go_wp2_with fail
    go_ret
    exact ⟨rfl, bb.out⟩
  have hW := validB_W hv
  obtain ⟨W, rfl⟩ := Int.eq_ofNat_of_zero_le (by omega : 0 ≤ V)
  have hI : Im W n xs := Im.of hv hl
  have hw6 := hI.w6
  have hn6 := hI.l6
  have hw1 := hI.w1
  have hn1 := hI.l1
  obtain ⟨N, hN⟩ : ∃ N, n * W = N := ⟨_, rfl⟩
  have ek : (n : Int) * (W : Int) = (N : Int) := by rw [← hN, Int.natCast_mul]
  have hN36 : N ≤ 36 := by rw [← hN]; exact Nat.mul_le_mul hn6 hw6
  have ewN : wrap64 (N : Int) = (N : Int) := IntWalk.wrap64_in _ ⟨by omega, by omega⟩
  have ewN2 : IntKind.i64.wrap (N : Int) = (N : Int) := IntWalk.i64_in _ ⟨by omega, by omega⟩
  by_cases h16 : N ≤ 16
  case neg =>
    obtain rfl : RK = -1 := by
      rw [← hRK]
      refine if_neg (fun h => ?_)
      have := h.2
      rw [hl, ek] at this
      omega
    have h16i : (16 : Int) < (N : Int) := by omega
    replace hN := Lib.hid hN
    replace hI := Lib.hid hI
    clear hRK
    go_enter Try.func26, Try.ntmps26
    go_wp2_with fail
    rw [← hW0]
    clear hW0
    refine (valid_spec (W : Int) a n cap xs _ r.out hm).mono ?_
    rintro e v2 ⟨rfl, hb⟩
    replace x0 := kept hb (block_lt x0) x0
    replace x1 := kept hb (block_lt x1) x1
    replace bb := Lib.hid (bb.out.trans (hb.mono bb.out.size))
    rw [hv]
    clear hb
    go_wp2_with fail
    go_ret
    exact ⟨rfl, bb.out⟩
  have h16i : ¬ (16 : Int) < (N : Int) := by omega
  have hK : rnkS (rsL xs W n) (csL xs n W) xs = RK := by
    rw [← hRK]
    unfold rkO
    rw [if_pos ⟨hv, by rw [hl, ek]; omega⟩, Int.toNat_natCast, hl]
  have c1 := Lib.hid (fun (wx : World) (hx : Row wx a n xs) => rs_sok hI a cap wx hx)
  have c2 := Lib.hid (fun (wx : World) (hx : Row wx a n xs) => cs_sok hI a cap wx hx)
  have hsv := hI.sumsV
  have hall := im_alls hI
  have hRn := rs_len xs W n
  have hCn := cs_len xs n W
  have hx63 : Hid (∀ i, i < n → 0 ≤ xs.getD i 0 ∧ xs.getD i 0 ≤ 63) := fun i hi => by
    have := hI.row i hi
    have := pw_63 hw6
    omega
  obtain ⟨R, hR⟩ : ∃ R, rsL xs W n = R := ⟨_, rfl⟩
  obtain ⟨C, hC⟩ : ∃ C, csL xs n W = C := ⟨_, rfl⟩
  rw [hR] at c1 hsv hall hRn hK
  rw [hC] at c2 hsv hall hCn hK
  obtain ⟨_, _, hbR, hbC⟩ := sumsB_parts hsv
  rw [hRn, hCn] at hbR
  rw [hRn, hCn] at hbC
  obtain ⟨a1, a2⟩ := alls_mem.1 hall
  rw [hRn, hCn] at a1 a2
  have hst : Hid (RkSt W R C xs 0 C 0) := rk_start hCn (fun j hj => ⟨(hbC j hj).1, by have := (hbC j hj).2; omega⟩) (by rw [hRn]; exact a1) (by rw [hRn]; exact a2)
  have hrk : rnkI W R C xs = rnkS R C xs := by have := rnk_rec hsv hall; rwa [hCn] at this
  have hrb := rnk_bd hall
  have hc16 := cnt_16 (rows := R) (cols := C) (by rw [hRn, hCn]; omega)
  rw [hK] at hrk hrb
  have hKb : RK ≤ 65536 := by omega
  replace hRn := Lib.hid hRn
  replace hCn := Lib.hid hCn
  replace hrk := Lib.hid hrk
  replace hK := Lib.hid hK
  replace hR := Lib.hid hR
  replace hC := Lib.hid hC
  replace hRK := Lib.hid hRK
  replace hN := Lib.hid hN
  replace hI := Lib.hid hI
  replace hl := Lib.hid hl
  clear hbR hbC a1 a2 hall hsv hrb hc16 hW
  go_enter Try.func26, Try.ntmps26
  go_wp2_with fail
  rw [← hW0]
  clear hW0
  refine (valid_spec (W : Int) a n cap xs _ r.out hm).mono ?_
  rintro e v3 ⟨rfl, hb⟩
  replace x0 := kept hb (block_lt x0) x0
  replace x1 := kept hb (block_lt x1) x1
  replace r := Lib.hid (r.out.bel hb)
  replace bb := Lib.hid (bb.out.trans (hb.mono bb.out.size))
  rw [hv]
  clear hb
  go_wp2_with fail
  refine (c1.out _ r.out).mono ?_
  rintro e v4 ⟨⟨aR, cR, rfl, hoR⟩, hb⟩
  replace x0 := kept hb (block_lt x0) x0
  replace x1 := kept hb (block_lt x1) x1
  replace r := Lib.hid (r.out.bel hb)
  replace bb := Lib.hid (bb.out.trans (hb.mono bb.out.size))
  have hcR := own_cap hoR
  have rR := Lib.hid hoR.row
  obtain ⟨ra, ro, rfl, _⟩ := row_at hoR.row (show 0 < n by omega)
  clear hb hoR
  go_wp2_with fail
  refine (c2.out _ r.out).mono ?_
  rintro e v5 ⟨⟨aC, cC, rfl, hoC⟩, hb⟩
  replace x0 := kept hb (block_lt x0) x0
  replace x1 := kept hb (block_lt x1) x1
  replace r := Lib.hid (r.out.bel hb)
  replace rR := Lib.hid (rR.out.bel hb)
  replace bb := Lib.hid (bb.out.trans (hb.mono bb.out.size))
  have rC := Lib.hid hoC.row
  clear hb hoC c1 c2
  have rC0 : Hid (Row v5 aC W C) := rC
  have bB0 : Hid (Below v5.heap.size v5 v5) := Below.refl _ _
  go_wp2_with fail
  go_loopw [4, 5, 6] (fun cs' o i wr => ∃ (k : Nat) (cs : List Int) (acc : Int) (aK : Option Addr) (cK : Nat), k ≤ n ∧ i = .int .i64 k ∧ o = .int .i64 acc ∧ cs' = .slice aK W cK ∧ Hid (RkSt W R C xs k cs acc) ∧ Hid (Row wr aK W cs) ∧ Hid (Below v5.heap.size v5 wr)) (fun _ _ i _ => n - (intOf i).toNat)
  case atStart => exact ⟨0, C, 0, aC, cC, Nat.zero_le _, rfl, rfl, rfl, hst, rC0, bB0⟩
  case round =>
    clear hst rC rC0 bB0
    obtain ⟨k, cs, acc, aK, cK, hk, rfl, rfl, rfl, hst, rC, bB⟩ := hrel
    obtain ⟨wo, rfl⟩ : ∃ wo : World, wo = wr := ⟨_, rfl⟩
    replace x0 := kept bB.out (block_lt x0) x0
    replace x1 := kept bB.out (block_lt x1) x1
    replace r := Lib.hid (r.out.bel bB.out)
    replace rR := Lib.hid (rR.out.bel bB.out)
    by_cases hlt : k < n
    case neg =>
      obtain rfl : k = n := by omega
      have hd : RK = acc := by
        have h1 := hst.out
        rw [← hRn.out] at h1
        have := h1.done
        have := hrk.out
        omega
      subst hd
      replace bb := Lib.hid (bb.out.trans (bB.out.mono bb.out.size))
      go_wp2_with fail
      go_ret
      exact ⟨rfl, bb.out⟩
    have hkR : k < R.length := by have := hRn.out; omega
    obtain ⟨x, q1, q2, q3, q4, q5, q6, q7⟩ := hst.out.step hw6 hkR (by rw [hl.out, hRn.out])
    rw [hrk.out] at q6
    have q8 := hst.out.h0
    have hb6 : ∀ j, j < W → 0 ≤ cs.getD j 0 ∧ cs.getD j 0 ≤ 6 := hst.out.hb
    obtain ⟨d, hd⟩ : ∃ d, n - k = d + 1 := ⟨n - k - 1, by omega⟩
    have rR2 := row_dropR rR.out hlt
    rw [hd] at rR2
    obtain ⟨xa, xo, rfl, rc⟩ := row_at r.out hlt
    rw [q1] at rc
    obtain ⟨bef, hbef⟩ : ∃ v, befI W (R.getD k 0) (R.drop (k + 1)) cs x = v := ⟨_, rfl⟩
    rw [hbef] at q5 q6 q7
    have hcb : ∀ p : Bw wo, Calls Try.prog 66 #[.slice (some ⟨ra, ro + k, none⟩) (n - k) (cR - k), .slice aK W cK, .int .i64 x] p.v (fun e w' => e = .returned (.int .i64 bef) ∧ ∃ q : Bw wo, w' = q.v) := fun p => by
      have := before_spec W hw1 hw6 (R.getD k 0) (R.drop (k + 1)) ra (ro + k) d (cR - k) aK cK cs x p.v (rR2.bel p.h) (rC.out.bel p.h) (by omega) (by omega) hb6 (by omega)
      rw [hbef, ← hd] at this
      exact bw_of this
    have hx63k := hx63.out k hlt
    rw [q1] at hx63k
    have htk := Lib.hid (fun wx hx => take_spec aK W cK cs (x : Int) wx hx hw1 hw6 hb6 hx63k.1 hx63k.2)
    have hiw : IntKind.i64.wrap (acc + bef) = acc + bef := IntWalk.i64_in _ ⟨by omega, by omega⟩
    have hkc : ¬ cR = k := by omega
    have hkc2 : k ≤ cR := by omega
    have hkn2 : k ≤ n := by omega
    have gx1 := fun p : Bw wo => bw_cell x1 p
    have grc := fun p : Bw wo => bw_cell rc p
    replace hcb := Lib.hid hcb
    replace q7 := Lib.hid q7
    replace q4 := Lib.hid q4
    replace hd := Lib.hid hd
    replace hbef := Lib.hid hbef
    clear q1 q3 q5 q6 q8 rR2 hst hb6 hx63k
    go_wp2_with fail
    refine wp_region_bw (by kernel_rfl) (by kernel_rfl) ?_
    repeat (go_big_quiet_step (first | (with_reducible exact hcb.out _)))
    refine wpQuiet_nil ?_
    intro _ hw'
    obtain ⟨pq, rfl⟩ := hw'
    have hb := pq.h
    clear gx1 grc hcb
    generalize pq.v = w2 at hb ⊢
    clear pq
    replace x0 := kept hb (block_lt x0) x0
    replace x1 := kept hb (block_lt x1) x1
    replace rc := kept hb (block_lt rc) rc
    replace rC := Lib.hid (rC.out.bel hb)
    replace bB := Lib.hid (bB.out.trans (hb.mono bB.out.size))
    clear hb r rR
    go_wp2_with fail
    refine (htk.out _ rC.out).mono ?_
    rintro e w3 ⟨hres, hb⟩
    replace bB := Lib.hid (bB.out.trans (hb.mono bB.out.size))
    clear hb
    rcases hres with ⟨ht, g, c2, rfl, ho⟩ | ⟨ht, g, c2, rfl⟩
    · have ho3 := Lib.hid ho.row
      clear ho ht htk
      go_wp2_with fail
      exact ⟨⟨k + 1, _, _, _, _, by omega, by go_num, rfl, rfl, q7, ho3, bB⟩, by simp [intOf]; omega⟩
    · have := q4.out
      rw [this] at ht; cases ht
end Go.Proofs.Ytnfkafaolelkbaa

