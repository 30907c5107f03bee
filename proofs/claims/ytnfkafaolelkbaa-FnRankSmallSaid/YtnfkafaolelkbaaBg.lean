/-
  The contract of the program's ImageNext.
-/
import Derived.Test.YtnfkafaolelkbaaBf
namespace Go.Proofs.Ytnfkafaolelkbaa
set_option maxRecDepth 100000
open Go.RowKit

/-- What ImageNext answers. -/
def nxO (V : Int) (xs : List Int) : Out := nthO (rsOut V xs) (csOut V xs) (rkO V xs + 1)
theorem rko_bd (V : Int) (xs : List Int) : -1 ≤ rkO V xs ∧ rkO V xs ≤ 65536 := by
  by_cases h : ctdB (rsOut V xs) (csOut V xs) = true
  · obtain ⟨W, rfl, hI, e1, e2, h16, e3⟩ := rko_yes rfl h
    rw [e3]
    have h1 := rnk_bd (im_alls hI)
    have h2 := cnt_16 (rows := rsL xs W xs.length) (cols := csL xs xs.length W) (by rw [rs_len, cs_len]; exact h16)
    omega
  · rw [rko_no (by simpa using h)]; omega
theorem rko_neg {V : Int} {xs : List Int} (h : rkO V xs < 0) : ctdB (rsOut V xs) (csOut V xs) = false := by
  apply Bool.eq_false_iff.2
  intro hc
  obtain ⟨W, rfl, hI, e1, e2, h16, e3⟩ := rko_yes rfl hc
  rw [e3] at h
  have := (rnk_bd (im_alls hI)).1
  omega
theorem nxo_neg {V : Int} {xs : List Int} (h : rkO V xs < 0) : nxO V xs = .no := by
  have hc := rko_neg h
  have e := rko_no hc
  unfold nxO
  refine nto_no (.inr ?_)
  rw [e, scO, if_neg (by rw [hc]; simp)]; omega
set_option maxHeartbeats 4000000 in
theorem next_impl (V : Int) (a : Option Addr) (n cap : Nat) (xs : List Int) (w : World) (h : Row w a n xs) (hm : n ≤ 9223372036854775807) :
    Calls Try.prog 36 #[.agg #[.int .i64 V, .slice a n cap]] w (Gives w (nxO V xs)) := by
  obtain ⟨W0, hW0⟩ : ∃ W0, W0 = ((w.alloc (.cells #[.int .i64 V, .slice a n cap] 30)).alloc (.cells #[.int .i64 0, .slice none 0 0] 30)) := ⟨_, rfl⟩
  have bb : Hid (Below w.heap.size w W0) := by subst hW0; exact ((Below.refl _ _).alloc (Nat.le_refl _) _).alloc (by simp) _
  have x0 : W0.cell? ⟨w.heap.size, 0, none⟩ = some (.int .i64 V) := by subst hW0; go_simp
  have x1 : W0.cell? ⟨w.heap.size, 1, none⟩ = some (.slice a n cap) := by subst hW0; go_simp
  have y0 : W0.cell? ⟨w.heap.size + 1, 0, none⟩ = some (.int .i64 0) := by subst hW0; go_simp
  have y1 : W0.cell? ⟨w.heap.size + 1, 1, none⟩ = some (.slice none 0 0) := by subst hW0; go_simp
  have yf : ∀ o, W0.frozen? ⟨w.heap.size + 1, o, none⟩ = false := fun o => by subst hW0; go_simp
  have hz : w.heap.size + 1 < W0.heap.size := block_lt y0
  have r := Lib.hid (h.bel bb.out)
  have r0 := Lib.hid (r.out.bel (w' := W0.drew) ((Below.refl _ _).drew))
  have hlen := rsout_len2 V xs
  have hrb := rko_bd V xs
  unfold nxO
  obtain ⟨R, hR⟩ : ∃ R, rsOut V xs = R := ⟨_, rfl⟩
  obtain ⟨C, hC⟩ : ∃ C, csOut V xs = C := ⟨_, rfl⟩
  obtain ⟨K, hK⟩ : ∃ K, rkO V xs = K := ⟨_, rfl⟩
  have c1 := Lib.hid (fun (wx : World) (hx : Row wx a n xs) => rsums_impl V a n cap xs wx hx hm)
  have c2 := Lib.hid (fun (wx : World) (hx : Row wx a n xs) => csums_impl V a n cap xs wx hx hm)
  have c3 := Lib.hid (fun (wx : World) (hx : Row wx a n xs) => rank_impl V a n cap xs wx hx hm)
  rw [hR] at c1 hlen ⊢
  rw [hC] at c2 hlen ⊢
  rw [hK] at c3 hrb ⊢
  obtain ⟨NR, hNR⟩ : ∃ k, R.length = k := ⟨_, rfl⟩
  obtain ⟨NC, hNC⟩ : ∃ k, C.length = k := ⟨_, rfl⟩
  unfold GivesL at c1 c2
  rw [hNR] at c1 hlen
  rw [hNC] at c2 hlen
  have c4 := Lib.hid (fun (aR : Option Addr) (cR : Nat) (aC : Option Addr) (cC : Nat) (wx : World) (h1 : Row wx aR NR R) (h2 : Row wx aC NC C) => nth_impl aR NR cR aC NC cC R C (K + 1) wx h1 h2 hlen.1 hlen.2)
  obtain ⟨O, hO⟩ : ∃ O, nthO R C (K + 1) = O := ⟨_, rfl⟩
  rw [hO] at c4 ⊢
  obtain ⟨ok, OW, OL⟩ := O
  unfold Gives at c4 ⊢
  simp only at c4 ⊢
  obtain ⟨ln, hln⟩ : ∃ k, OL.length = k := ⟨_, rfl⟩
  rw [hln] at c4 ⊢
  have hiw : IntKind.i64.wrap (K + 1) = K + 1 := IntWalk.i64_in _ ⟨by omega, by omega⟩
  clear h hNR hNC hR hC hK hO hln
  go_enter Try.func36, Try.ntmps36
  go_upto_region 1 with fail
  rw [← hW0]
  clear hW0
  go_cut [3] (fun s3 wx => ∃ (aO : Option Addr) (cO : Nat), s3 = .bool ok ∧ wx.cell? ⟨w.heap.size + 1, 0, none⟩ = some (.int .i64 OW) ∧ wx.cell? ⟨w.heap.size + 1, 1, none⟩ = some (.slice aO ln cO) ∧ Hid (OwnI wx w.heap.size aO ln cO OL) ∧ Hid (Below w.heap.size w wx))
  case first =>
    go_wp2_with fail
    go_region_law (first
      | ((go_simp; go_at_call 27; (with_reducible refine (c1.out _ r0.out).mono ?_); rintro e w2 ⟨⟨aR, cR, rfl, hoR⟩, hb2⟩; have hb : Below W0.heap.size W0 w2 := (((Below.refl _ _).drew).trans (hb2.mono (Nat.le_refl _))); have x0 := kept hb (block_lt x0) x0; have x1 := kept hb (block_lt x1) x1; have yf : (∀ o, w2.frozen? ⟨w.heap.size + 1, o, none⟩ = false) := (fun o => (hb.frozen (p := ⟨w.heap.size + 1, o, none⟩) hz).trans (yf o)); have y0 := kept hb (block_lt y0) y0; have y1 := kept hb (block_lt y1) y1; have r2 := Lib.hid (r.out.bel hb); have rR := Lib.hid hoR.row; have bb := Lib.hid (bb.out.trans (hb.mono bb.out.size)); have hz2 : w.heap.size + 1 < w2.heap.size := block_lt y0; clear hb hb2 hoR))
      | ((go_simp; go_at_call 28; (with_reducible refine (c2.out _ r2.out).mono ?_); rintro e w3 ⟨⟨aC, cC, rfl, hoC⟩, hb⟩; have x0 := kept hb (block_lt x0) x0; have x1 := kept hb (block_lt x1) x1; have yf : (∀ o, w3.frozen? ⟨w.heap.size + 1, o, none⟩ = false) := (fun o => (hb.frozen (p := ⟨w.heap.size + 1, o, none⟩) hz2).trans (yf o)); have y0 := kept hb (block_lt y0) y0; have y1 := kept hb (block_lt y1) y1; have r3 := Lib.hid (r2.out.bel hb); have rR2 := Lib.hid (rR.out.bel hb); have rC := Lib.hid hoC.row; have bb := Lib.hid (bb.out.trans (hb.mono bb.out.size)); have hz3 : w.heap.size + 1 < w3.heap.size := block_lt y0; clear hb hoC))
      | ((go_simp; go_at_call 25; (with_reducible refine (c3.out _ r3.out).mono ?_); rintro e w4 ⟨rfl, hb⟩; have x0 := kept hb (block_lt x0) x0; have x1 := kept hb (block_lt x1) x1; have yf : (∀ o, w4.frozen? ⟨w.heap.size + 1, o, none⟩ = false) := (fun o => (hb.frozen (p := ⟨w.heap.size + 1, o, none⟩) hz3).trans (yf o)); have y0 := kept hb (block_lt y0) y0; have y1 := kept hb (block_lt y1) y1; have rR4 := Lib.hid (rR2.out.bel hb); have rC4 := Lib.hid (rC.out.bel hb); have bb := Lib.hid (bb.out.trans (hb.mono bb.out.size)); have hz4 : w.heap.size + 1 < w4.heap.size := block_lt y0; clear hb))
      | ((go_simp; go_at_call 29; (with_reducible refine (c4.out _ _ _ _ _ rR4.out rC4.out).mono ?_); rintro e w5 ⟨⟨aO, cO, rfl, hoO⟩, hb⟩; have yf : (∀ o, w5.frozen? ⟨w.heap.size + 1, o, none⟩ = false) := (fun o => (hb.frozen (p := ⟨w.heap.size + 1, o, none⟩) hz4).trans (yf o)); have y0 := kept hb (block_lt y0) y0; have y1 := kept hb (block_lt y1) y1; have hoO := Lib.hid hoO; have bw4 := bb.out.size; have bb := Lib.hid (bb.out.trans (hb.mono bb.out.size)); clear hb)))
    all_goals
      go_wp2_with fail
      go_meet
      exact ⟨aO, cO, rfl, by go_simp, by go_simp, Lib.hid (((hoO.out.store hz4 _).store hz4 _).mono (by omega)), Lib.hid ((bb.out.setCell (by simp) _).setCell (by simp) _)⟩
  case rest =>
    obtain ⟨aO, cO, rfl, z0, z1, hoO, bB⟩ := hcut
    clear x0 x1 y0 y1 yf r r0 bb
    go_wp2_with fail
    refine bodyPost_ret (v := .tuple #[.agg #[.int .i64 OW, .slice aO ln cO], .bool ok]) (by simp [results, Try.results36, go_sem, z0, z1]) rfl ?_
    exact ⟨⟨aO, cO, rfl, hoO.out⟩, bB.out⟩
end Go.Proofs.Ytnfkafaolelkbaa

