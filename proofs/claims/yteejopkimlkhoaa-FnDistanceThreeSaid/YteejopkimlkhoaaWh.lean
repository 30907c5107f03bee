/-
  The contracts of the functions that do switches one after the other, of the program and the model.
-/
import Derived.Test.YteejopkimlkhoaaQl
import Derived.Test.YteejopkimlkhoaaHc
import Derived.Test.YteejopkimlkhoaaRg
import Derived.Deep.RegionLaw
namespace Go.Proofs.Yteejopkimlkhoaa
set_option maxRecDepth 100000
open Go.RowKit

/-- What SwitchRun gives. -/
def runOut (V : Int) (xs : List Int) (L : List SwQ) : Out := if validB V xs = true then (match runL V xs L with
  | some ys => ⟨true, V, ys⟩
  | none => .no) else .no
theorem runOut_no {V : Int} {xs : List Int} {L : List SwQ} (h : validB V xs = false) : runOut V xs L = .no := if_neg (by rw [h]; simp)
theorem runOut_stop {K n : Nat} {xs : List Int} {L : List SwQ} (h : Im K n xs) (hr : runL K xs L = none) : runOut K xs L = .no := by
  unfold runOut; rw [if_pos h.valid, hr]
theorem runOut_yes {K n : Nat} {xs ys : List Int} {L : List SwQ} (h : Im K n xs) (hr : runL K xs L = some ys) : runOut K xs L = ⟨true, K, ys⟩ := by
  unfold runOut; rw [if_pos h.valid, hr]
theorem run_next {K n : Nat} {xs X : List Int} {L : List SwQ} {k : Nat} (hX : Im K n X) (h : runL K xs (L.take k) = some X) {A B C D : Int} (hk : k < L.length) (e : L[k]'hk = (A, B, C, D)) :
    runL K xs (L.take (k + 1)) = if okB K X A B C D = true then some (flL X K n A.toNat B.toNat C.toNat D.toNat) else none := by
  rw [List.take_succ_eq_append_getElem hk, e, run_snoc h, hX.hl, Int.toNat_natCast]
theorem run_end {K : Nat} {xs : List Int} {L : List SwQ} {k : Nat} (h : runL K xs (L.take k) = none) : runL K xs L = none := by
  rw [← List.take_append_drop k L]; exact run_stop h _

/-- Within a run: the boxes of the result and of the image so far, and the list. -/
structure RS (w wr : World) (K n kd : Nat) (sd : Option Addr) (cd : Nat) (X : List Int) (al : Option Addr) (N : Nat) (L : List SwQ) : Prop where
  z0 : wr.cell? ⟨w.heap.size + 1, 0, none⟩ = some (.int .i64 0)
  z1 : wr.cell? ⟨w.heap.size + 1, 1, none⟩ = some (.slice none 0 0)
  zf : ∀ o, wr.frozen? ⟨w.heap.size + 1, o, none⟩ = false
  d0 : wr.cell? ⟨kd, 0, none⟩ = some (.int .i64 K)
  d1 : wr.cell? ⟨kd, 1, none⟩ = some (.slice sd n cd)
  df : ∀ o, wr.frozen? ⟨kd, o, none⟩ = false
  pd : OwnI wr (w.heap.size + 2) sd n cd X
  q : QRow wr al N L
  bel : Below w.heap.size w wr
  hk : w.heap.size + 1 < kd
  nd : ∀ b off, sd = some ⟨b, off, none⟩ → 0 < n → b ≠ kd
  nl : ∀ b off, al = some ⟨b, off, none⟩ → 0 < N → b < w.heap.size
theorem RS.move {w wr w1 : World} {K n kd : Nat} {sd : Option Addr} {cd : Nat} {X : List Int} {al : Option Addr} {N : Nat} {L : List SwQ} (h : RS w wr K n kd sd cd X al N L) (hb : Below wr.heap.size wr w1) : RS w w1 K n kd sd cd X al N L :=
  ⟨kept hb (block_lt h.z0) h.z0, kept hb (block_lt h.z1) h.z1, fun o => (hb.frozen (p := ⟨w.heap.size + 1, o, none⟩) (show w.heap.size + 1 < wr.heap.size from block_lt h.z0)).trans (h.zf o), kept hb (block_lt h.d0) h.d0, kept hb (block_lt h.d1) h.d1, fun o => (hb.frozen (p := ⟨kd, o, none⟩) (show kd < wr.heap.size from block_lt h.d0)).trans (h.df o),
    h.pd.bel hb, h.q.bel hb, h.bel.trans (hb.mono h.bel.size), h.hk, h.nd, h.nl⟩
/-- The box takes another image. -/
theorem RS.setd {w wr w1 : World} {K n kd : Nat} {sd : Option Addr} {cd : Nat} {X : List Int} {al : Option Addr} {N : Nat} {L : List SwQ} (h : RS w wr K n kd sd cd X al N L) (hb : Below wr.heap.size wr w1) {s' : Option Addr} {c' : Nat} {X' : List Int} (ho : OwnI w1 wr.heap.size s' n c' X') :
    RS w ((w1.setCell ⟨kd, 0, none⟩ (.int .i64 K)).setCell ⟨kd, 1, none⟩ (.slice s' n c')) K n kd s' c' X' al N L := by
  have h' := h.move hb
  have lk : kd < wr.heap.size := block_lt h.d0
  have hg : w1.grownBy ((w1.setCell ⟨kd, 0, none⟩ (.int .i64 K)).setCell ⟨kd, 1, none⟩ (.slice s' n c')) (some kd) := grown_set (grown_set (World.grownBy.refl _ _))
  have e1 : (w1.setCell ⟨kd, 0, none⟩ (.int .i64 K)).cell? ⟨kd, 1, none⟩ = some (.slice sd n cd) := by rw [World.cell?_setCell_other _ _ _ _ (by simp)]; exact h'.d1
  have hk := h.hk
  have hz := h.bel.size
  refine ⟨hg.cell h'.z0 (by simp; omega), hg.cell h'.z1 (by simp; omega), fun o => ?_, ?_, World.cell?_setCell_same _ _ _ e1, fun o => ?_, ((ho.store (show kd < wr.heap.size from lk) _).store (show kd < wr.heap.size from lk) _).mono (by omega), h'.q.apart hg (fun b off e hn => by have := h.nl b off e hn; omega), (h'.bel.setCell (by simp; omega) _).setCell (by simp; omega) _, hk, fun b off e hn => ?_, h.nl⟩
  · rw [World.frozen?_setCell, World.frozen?_setCell]; exact h'.zf o
  · rw [World.cell?_setCell_other _ _ _ _ (by simp)]; exact World.cell?_setCell_same _ _ _ h'.d0
  · rw [World.frozen?_setCell, World.frozen?_setCell]; exact h'.df o
  · rcases ho.cases with ⟨e2, _⟩ | ⟨g, e2, hg2, _⟩
    · rw [e2] at e; cases e
    · rw [e2] at e; cases e; omega

set_option maxHeartbeats 4000000 in
theorem run_impl (V : Int) (a al : Option Addr) (n c N cl : Nat) (xs : List Int) (L : List SwQ) (w : World) (h : Row w a n xs) (hq : QRow w al N L) (hm : n ≤ 9223372036854775807) (hN : N ≤ 1048576) :
    Calls Try.prog 42 #[.agg #[.int .i64 V, .slice a n c], .slice al N cl] w (Gives w (runOut V xs L)) := by
  have hl := Lib.hid h.1
  have hql := Lib.hid hq.1
  have hnl : Hid (∀ b off, al = some ⟨b, off, none⟩ → 0 < N → b < w.heap.size) := Lib.hid (fun b off e hn => by
    obtain ⟨b', off', e', hc⟩ := hq.2.resolve_left (by omega)
    rw [e] at e'; cases e'
    exact block_lt (hc 0 (by have := hq.1; omega)).1)
  obtain ⟨W0, hW0⟩ : ∃ W0, W0 = (w.alloc (.cells #[.int .i64 V, .slice a n c] 25)).alloc (.cells #[.int .i64 0, .slice none 0 0] 25) := ⟨_, rfl⟩
  have bb : Hid (Below w.heap.size w W0) := by subst hW0; exact ((Below.refl _ _).alloc (Nat.le_refl _) _).alloc (by simp) _
  have x0 : W0.cell? ⟨w.heap.size, 0, none⟩ = some (.int .i64 V) := by subst hW0; go_simp
  have x1 : W0.cell? ⟨w.heap.size, 1, none⟩ = some (.slice a n c) := by subst hW0; go_simp
  have z0 : W0.cell? ⟨w.heap.size + 1, 0, none⟩ = some (.int .i64 0) := by subst hW0; go_simp
  have z1 : W0.cell? ⟨w.heap.size + 1, 1, none⟩ = some (.slice none 0 0) := by subst hW0; go_simp
  have zf : ∀ o, W0.frozen? ⟨w.heap.size + 1, o, none⟩ = false := fun o => by subst hW0; go_simp
  have hz : w.heap.size + 1 < W0.heap.size := block_lt z0
  have r := Lib.hid (h.bel bb.out)
  have q := Lib.hid (hq.bel bb.out)
  clear h hq
  by_cases hv : validB V xs = true
  case neg =>
    have hv : validB V xs = false := by simpa using hv
    rw [runOut_no hv]
    go_enter Try.func42, Try.ntmps42
    go_wp2_with fail
    rw [← hW0]
    clear hW0
    refine (valid_impl _ _ _ _ xs _ r.out hm).mono ?_
    rintro e w1 ⟨rfl, hb⟩
    rw [hv]
    replace zf : ∀ o, w1.frozen? ⟨w.heap.size + 1, o, none⟩ = false := fun o => (hb.frozen (p := ⟨w.heap.size + 1, o, none⟩) hz).trans (zf o)
    replace x0 := kept hb (block_lt x0) x0
    replace x1 := kept hb (block_lt x1) x1
    replace z0 := kept hb (block_lt z0) z0
    replace z1 := kept hb (block_lt z1) z1
    have szw1 := hb.size
    replace r := Lib.hid (r.out.bel hb)
    replace q := Lib.hid (q.out.bel hb)
    replace bb := Lib.hid (bb.out.trans (hb.mono bb.out.size))
    clear hb
    go_wp2_with fail
    refine bodyPost_ret (v := .tuple #[.agg #[.int .i64 0, .slice none 0 0], .bool false]) (by simp [results, Try.results42, go_sem, z0, z1]) rfl ?_
    exact ⟨⟨none, 0, rfl, own_nil _ _⟩, (bb.out.setCell (by simp) _).setCell (by simp) _⟩
  have hI0 := validB_W hv
  obtain ⟨K, rfl⟩ := Int.eq_ofNat_of_zero_le (by omega : 0 ≤ V)
  have hI : Im K n xs := Im.of hv hl.out
  have hn1 := hI.l1
  have hn6 := hI.l6
  replace hI := Lib.hid hI
  clear hI0
  go_enter Try.func42, Try.ntmps42
  go_wp2_with fail
  rw [← hW0]
  clear hW0
  refine (valid_impl _ _ _ _ xs _ r.out hm).mono ?_
  rintro e w1 ⟨rfl, hb⟩
  rw [hv]
  replace zf : ∀ o, w1.frozen? ⟨w.heap.size + 1, o, none⟩ = false := fun o => (hb.frozen (p := ⟨w.heap.size + 1, o, none⟩) hz).trans (zf o)
  replace x0 := kept hb (block_lt x0) x0
  replace x1 := kept hb (block_lt x1) x1
  replace z0 := kept hb (block_lt z0) z0
  replace z1 := kept hb (block_lt z1) z1
  have szw1 := hb.size
  replace r := Lib.hid (r.out.bel hb)
  replace q := Lib.hid (q.out.bel hb)
  replace bb := Lib.hid (bb.out.trans (hb.mono bb.out.size))
  clear hb
  clear hv
  go_wp2_with fail
  refine (icopy_any (K : Int) a n c xs _ r.out (by omega) (by omega)).mono ?_
  rintro e w2 ⟨⟨sd, cd, rfl, ho⟩, hb⟩
  have sz2 := hb.size
  have hbx : Below w1.heap.size w1 (w2.alloc (.cells #[.int .i64 K, .slice sd n cd] 25)) := hb.alloc sz2 _
  have hS : Hid (RS w (w2.alloc (.cells #[.int .i64 K, .slice sd n cd] 25)) K n w2.heap.size sd cd xs al N L) := by
    refine ⟨kept hbx (by simp; omega) z0, kept hbx (by simp; omega) z1, fun o => (hbx.frozen (p := ⟨w.heap.size + 1, o, none⟩) (by simp; omega)).trans (zf o), by simp, by simp, fun o => by simp, (ho.bel ((Below.refl _ _).alloc (Nat.le_refl _) _)).mono (by omega), q.out.bel hbx, bb.out.trans (hbx.mono bb.out.size), by omega, fun b off e hn => ?_, hnl.out⟩
    rcases ho.cases with ⟨e2, _⟩ | ⟨g, e2, _, hg⟩
    · rw [e2] at e; cases e
    · rw [e2] at e; cases e; omega
  clear x0 x1 z0 z1 zf r q bb hb hbx ho hnl sz2 szw1 hz
  go_wp2_with fail
  go_loopw [18] (fun i wr => ∃ (k : Nat) (sd : Option Addr) (cd : Nat) (X : List Int), k ≤ N ∧ i = .int .i64 k ∧ Hid (RS w wr K n w2.heap.size sd cd X al N L) ∧ Hid (runL K xs (L.take k) = some X) ∧ Hid (Im K n X)) (fun i _ => N - (intOf i).toNat)
  case atStart => exact ⟨0, sd, cd, xs, Nat.zero_le _, rfl, hS, Lib.hid rfl, hI⟩
  case round =>
    clear hS
    obtain ⟨k, sd, cd, X, hk, rfl, hS, hrun, hX⟩ := hrel
    obtain ⟨wi, rfl⟩ : ∃ wi : World, wi = wr := ⟨_, rfl⟩
    by_cases hlt : k < N
    · obtain ⟨⟨A, B, C, D⟩, he⟩ : ∃ t, L[k]'(by rw [hql.out]; exact hlt) = t := ⟨_, rfl⟩
      obtain ⟨bl, ol, rfl, c0, c1, c2, c3⟩ := hS.out.q.at hlt he
      have hnx := Lib.hid (run_next hX.out hrun.out (by rw [hql.out]; exact hlt) he)
      have k0 : (0 : Int) ≤ (k : Int) := Int.natCast_nonneg _
      have kn : (k : Int) < (N : Int) := by omega
      replace he := Lib.hid he
      have hbs : Below wi.heap.size wi (wi.alloc (.cells #[.int .i64 A, .int .i64 B, .int .i64 C, .int .i64 D] 37)) := (Below.refl _ _).alloc (Nat.le_refl _) _
      have hS1 := Lib.hid (hS.out.move hbs)
      have d0 := hS1.out.d0
      have d1 := hS1.out.d1
      have df := hS1.out.df
      by_cases ho : okB K X A B C D = true
      · rw [if_pos ho] at hnx
        have hc := swdo_impl (K : Int) sd n cd X A B C D _ hS1.out.pd.row (by omega)
        rw [show doOut K X A B C D = ⟨true, K, flL X K n A.toNat B.toNat C.toNat D.toNat⟩ by unfold doOut; rw [if_pos ho, hX.out.hl, Int.toNat_natCast]] at hc
        have hIR : Hid (Im K n (flL X K n A.toNat B.toNat C.toNat D.toNat)) := Lib.hid (fl_im hX.out _ _ _ _)
        obtain ⟨R, hR⟩ : ∃ R, flL X K n A.toNat B.toNat C.toNat D.toNat = R := ⟨_, rfl⟩
        rw [hR] at hc hIR hnx
        have hc2 := Lib.hid (hc.mono fun e w' hg => hg.ok hIR.out.hl)
        clear hc hR ho hbs
        go_wp2_with fail
        refine hc2.out.mono ?_
        rintro e w5 ⟨⟨ag, cg, rfl, hown⟩, hb⟩
        have hz5 : w2.heap.size < w5.heap.size := Nat.lt_of_lt_of_le (show w2.heap.size < _ from block_lt hS1.out.d0) hb.size
        have hS2 := Lib.hid (hS1.out.setd hb hown)
        have hS3 := hS1.out.move hb
        replace d0 := hS3.d0
        replace d1 := hS3.d1
        replace df := hS3.df
        clear hc2 hb hown hS hS1 hS3 c0 c1 c2 c3
        go_wp2_with fail
        exact ⟨⟨k + 1, ag, cg, R, by omega, by go_num, hS2, hnx, hIR⟩, by simp [intOf]; omega⟩
      · have ho : okB K X A B C D = false := by simpa using ho
        rw [if_neg (by rw [ho]; simp)] at hnx
        have hc := swdo_impl (K : Int) sd n cd X A B C D _ hS1.out.pd.row (by omega)
        rw [doOut_no ho] at hc
        replace hc := Lib.hid hc
        have hno := Lib.hid (runOut_stop hI.out (run_end hnx.out))
        clear ho hbs
        go_wp2_with fail
        refine hc.out.mono ?_
        rintro e w5 ⟨⟨ag, cg, rfl, hown⟩, hb⟩
        have hS3 := hS1.out.move hb
        have bb := Lib.hid hS3.bel
        have z0 := hS3.z0
        have z1 := hS3.z1
        have zf := hS3.zf
        replace d0 := hS3.d0
        replace d1 := hS3.d1
        replace df := hS3.df
        have hkd := hS3.hk
        have nk : w2.heap.size ≠ w.heap.size + 1 := by omega
        clear hc hb hown hS hS1 hS3 c0 c1 c2 c3
        go_wp2_with fail
        refine bodyPost_ret (v := .tuple #[.agg #[.int .i64 0, .slice none 0 0], .bool false]) (by simp [results, Try.results42, go_sem, z0, z1]) rfl ?_
        rw [hno.out]
        exact ⟨⟨none, 0, rfl, own_nil _ _⟩, (((bb.out.setCell (by simp; omega) _).setCell (by simp; omega) _).setCell (by simp) _).setCell (by simp) _⟩
    · have : k = N := by omega
      subst this
      have hyes := Lib.hid (runOut_yes hI.out (show runL K xs L = some X by have e := hrun.out; rwa [← hql.out, List.take_length] at e))
      have z0 := hS.out.z0
      have z1 := hS.out.z1
      have d0 := hS.out.d0
      have d1 := hS.out.d1
      have zf := hS.out.zf
      have df := hS.out.df
      have pd := Lib.hid hS.out.pd
      have bb := Lib.hid hS.out.bel
      have hkd := hS.out.hk
      clear hS
      go_wp2_with fail
      refine bodyPost_ret (v := .tuple #[.agg #[.int .i64 K, .slice sd n cd], .bool true]) (by simp [results, Try.results42, go_sem, z0, z1]) rfl ?_
      rw [hyes.out]
      refine ⟨⟨sd, cd, by rw [hX.out.hl], ?_⟩, (bb.out.setCell (by simp) _).setCell (by simp) _⟩
      show OwnI _ _ _ X.length _ X
      rw [hX.out.hl]
      exact ((pd.out.store (show w.heap.size + 1 < w.heap.size + 2 by omega) _).store (show w.heap.size + 1 < w.heap.size + 2 by omega) _).mono (by omega)

theorem okx_int (K : Nat) (a : Option Addr) (n cap : Nat) (xs : List Int) (A B C D : Int) (w : World) (h : Row w a n xs) (hv : Im K n xs) :
    Calls Try.prog 90 #[.agg #[.int .i64 K, .slice a n cap], .agg #[.int .i64 A, .int .i64 B, .int .i64 C, .int .i64 D]] w fun e w' => e = .returned (.bool (okB K xs A B C D)) ∧ Below w.heap.size w w' := by
  by_cases hp : placeB K n A B C D = true
  · have g := placeB_iff.1 hp
    obtain ⟨A, rfl⟩ := Int.eq_ofNat_of_zero_le (show 0 ≤ A by omega)
    obtain ⟨B, rfl⟩ := Int.eq_ofNat_of_zero_le (show 0 ≤ B by omega)
    obtain ⟨C, rfl⟩ := Int.eq_ofNat_of_zero_le (show 0 ≤ C by omega)
    obtain ⟨D, rfl⟩ := Int.eq_ofNat_of_zero_le (show 0 ≤ D by omega)
    rw [okB_yes hv (by omega) (by omega) (by omega) (by omega)]
    exact okx_any K a n cap xs A B C D w h hv (by omega) (by omega) (by omega) (by omega)
  · have hp : placeB K n A B C D = false := by simpa using hp
    rw [okB_no2 (by rw [hv.hl]; exact hp)]
    exact okx_no K a n cap xs A B C D w h hv hp

set_option maxHeartbeats 4000000 in
theorem run_spec (V : Int) (a al : Option Addr) (n c N cl : Nat) (xs : List Int) (L : List SwQ) (w : World) (h : Row w a n xs) (hq : QRow w al N L) (hm : n ≤ 9223372036854775807) (hN : N ≤ 1048576) :
    Calls Try.prog 44 #[.agg #[.int .i64 V, .slice a n c], .slice al N cl] w (Gives w (runOut V xs L)) := by
  have hl := Lib.hid h.1
  have hql := Lib.hid hq.1
  have hnl : Hid (∀ b off, al = some ⟨b, off, none⟩ → 0 < N → b < w.heap.size) := Lib.hid (fun b off e hn => by
    obtain ⟨b', off', e', hc⟩ := hq.2.resolve_left (by omega)
    rw [e] at e'; cases e'
    exact block_lt (hc 0 (by have := hq.1; omega)).1)
  obtain ⟨W0, hW0⟩ : ∃ W0, W0 = (w.alloc (.cells #[.int .i64 V, .slice a n c] 25)).alloc (.cells #[.int .i64 0, .slice none 0 0] 25) := ⟨_, rfl⟩
  have bb : Hid (Below w.heap.size w W0) := by subst hW0; exact ((Below.refl _ _).alloc (Nat.le_refl _) _).alloc (by simp) _
  have x0 : W0.cell? ⟨w.heap.size, 0, none⟩ = some (.int .i64 V) := by subst hW0; go_simp
  have x1 : W0.cell? ⟨w.heap.size, 1, none⟩ = some (.slice a n c) := by subst hW0; go_simp
  have z0 : W0.cell? ⟨w.heap.size + 1, 0, none⟩ = some (.int .i64 0) := by subst hW0; go_simp
  have z1 : W0.cell? ⟨w.heap.size + 1, 1, none⟩ = some (.slice none 0 0) := by subst hW0; go_simp
  have zf : ∀ o, W0.frozen? ⟨w.heap.size + 1, o, none⟩ = false := fun o => by subst hW0; go_simp
  have hz : w.heap.size + 1 < W0.heap.size := block_lt z0
  have r := Lib.hid (h.bel bb.out)
  have q := Lib.hid (hq.bel bb.out)
  clear h hq
  by_cases hv : validB V xs = true
  case neg =>
    have hv : validB V xs = false := by simpa using hv
    rw [runOut_no hv]
    go_enter Try.func44, Try.ntmps44
    go_wp2_with fail
    rw [← hW0]
    clear hW0
    refine (valid_spec _ _ _ _ xs _ r.out hm).mono ?_
    rintro e w1 ⟨rfl, hb⟩
    rw [hv]
    replace zf : ∀ o, w1.frozen? ⟨w.heap.size + 1, o, none⟩ = false := fun o => (hb.frozen (p := ⟨w.heap.size + 1, o, none⟩) hz).trans (zf o)
    replace x0 := kept hb (block_lt x0) x0
    replace x1 := kept hb (block_lt x1) x1
    replace z0 := kept hb (block_lt z0) z0
    replace z1 := kept hb (block_lt z1) z1
    have szw1 := hb.size
    replace r := Lib.hid (r.out.bel hb)
    replace q := Lib.hid (q.out.bel hb)
    replace bb := Lib.hid (bb.out.trans (hb.mono bb.out.size))
    clear hb
    go_wp2_with fail
    refine bodyPost_ret (v := .tuple #[.agg #[.int .i64 0, .slice none 0 0], .bool false]) (by simp [results, Try.results44, go_sem, z0, z1]) rfl ?_
    exact ⟨⟨none, 0, rfl, own_nil _ _⟩, (bb.out.setCell (by simp) _).setCell (by simp) _⟩
  have hI0 := validB_W hv
  obtain ⟨K, rfl⟩ := Int.eq_ofNat_of_zero_le (by omega : 0 ≤ V)
  have hI : Im K n xs := Im.of hv hl.out
  have hn1 := hI.l1
  have hn6 := hI.l6
  replace hI := Lib.hid hI
  clear hI0
  obtain ⟨ba, oa, rfl, _⟩ := r.out.2.resolve_left (by omega)
  have cp := Lib.hid fun (wx : World) (hr : Row wx (some ⟨ba, oa, none⟩) n xs) => copy_spec (K : Int) ba oa n c xs wx hr.1 (by obtain ⟨_, _, e, hc⟩ := hr.2.resolve_left (by omega); cases e; exact hc) (by omega) (by omega)
  go_enter Try.func44, Try.ntmps44
  go_wp2_with fail
  rw [← hW0]
  clear hW0
  refine (valid_spec _ _ _ _ xs _ r.out hm).mono ?_
  rintro e w1 ⟨rfl, hb⟩
  rw [hv]
  replace zf : ∀ o, w1.frozen? ⟨w.heap.size + 1, o, none⟩ = false := fun o => (hb.frozen (p := ⟨w.heap.size + 1, o, none⟩) hz).trans (zf o)
  replace x0 := kept hb (block_lt x0) x0
  replace x1 := kept hb (block_lt x1) x1
  replace z0 := kept hb (block_lt z0) z0
  replace z1 := kept hb (block_lt z1) z1
  have szw1 := hb.size
  replace r := Lib.hid (r.out.bel hb)
  replace q := Lib.hid (q.out.bel hb)
  replace bb := Lib.hid (bb.out.trans (hb.mono bb.out.size))
  clear hb
  clear hv
  go_wp2_with fail
  refine (cp.out _ r.out).mono ?_
  rintro e w2 ⟨⟨sd, cd, rfl, ho⟩, hb⟩
  have sz2 := hb.size
  have hbx : Below w1.heap.size w1 (w2.alloc (.cells #[.int .i64 K, .slice sd n cd] 25)) := hb.alloc sz2 _
  have hS : Hid (RS w (w2.alloc (.cells #[.int .i64 K, .slice sd n cd] 25)) K n w2.heap.size sd cd xs al N L) := by
    refine ⟨kept hbx (by simp; omega) z0, kept hbx (by simp; omega) z1, fun o => (hbx.frozen (p := ⟨w.heap.size + 1, o, none⟩) (by simp; omega)).trans (zf o), by simp, by simp, fun o => by simp, (ho.bel ((Below.refl _ _).alloc (Nat.le_refl _) _)).mono (by omega), q.out.bel hbx, bb.out.trans (hbx.mono bb.out.size), by omega, fun b off e hn => ?_, hnl.out⟩
    rcases ho.cases with ⟨e2, _⟩ | ⟨g, e2, _, hg⟩
    · rw [e2] at e; cases e
    · rw [e2] at e; cases e; omega
  clear x0 x1 z0 z1 zf r q bb hb hbx ho hnl sz2 szw1 hz cp
  go_wp2_with fail
  go_loopw [7] (fun i wr => ∃ (k : Nat) (sd : Option Addr) (cd : Nat) (X : List Int), k ≤ N ∧ i = .int .i64 k ∧ Hid (RS w wr K n w2.heap.size sd cd X al N L) ∧ Hid (runL K xs (L.take k) = some X) ∧ Hid (Im K n X)) (fun i _ => N - (intOf i).toNat)
  case atStart => exact ⟨0, sd, cd, xs, Nat.zero_le _, rfl, hS, Lib.hid rfl, hI⟩
  case round =>
    clear hS
    obtain ⟨k, sd, cd, X, hk, rfl, hS, hrun, hX⟩ := hrel
    obtain ⟨wi, rfl⟩ : ∃ wi : World, wi = wr := ⟨_, rfl⟩
    by_cases hlt : k < N
    · obtain ⟨⟨A, B, C, D⟩, he⟩ : ∃ t, L[k]'(by rw [hql.out]; exact hlt) = t := ⟨_, rfl⟩
      obtain ⟨bl, ol, rfl, c0, c1, c2, c3⟩ := hS.out.q.at hlt he
      have hnx := Lib.hid (run_next hX.out hrun.out (by rw [hql.out]; exact hlt) he)
      have k0 : (0 : Int) ≤ (k : Int) := Int.natCast_nonneg _
      have kn : (k : Int) < (N : Int) := by omega
      replace he := Lib.hid he
      have d0 := hS.out.d0
      have d1 := hS.out.d1
      have df := hS.out.df
      have g0 := fun p : Bw wi => bw_cell d0 p
      have g1 := fun p : Bw wi => bw_cell d1 p
      have e0 := fun p : Bw wi => bw_cell c0 p
      have e1 := fun p : Bw wi => bw_cell c1 p
      have e2 := fun p : Bw wi => bw_cell c2 p
      have e3 := fun p : Bw wi => bw_cell c3 p
      obtain ⟨bo, hbo⟩ : ∃ bo, okB K X A B C D = bo := ⟨_, rfl⟩
      have cc : ∀ p : Bw wi, Calls Try.prog 90 #[.agg #[.int .i64 K, .slice sd n cd], .agg #[.int .i64 A, .int .i64 B, .int .i64 C, .int .i64 D]] p.v (fun e w' => e = .returned (.bool bo) ∧ ∃ q : Bw wi, w' = q.v) := fun p =>
        bw_of (hbo ▸ okx_int K sd n cd X A B C D p.v (hS.out.pd.row.bel p.h) hX.out)
      replace cc := Lib.hid cc
      go_wp2_with fail
      refine wp_region_bw (by kernel_rfl) (by kernel_rfl) ?_
      repeat (go_big_quiet_step (with_reducible exact cc.out _))
      refine wpQuiet_nil ?_
      intro _ hw'
      obtain ⟨pq, rfl⟩ := hw'
      have hS1 := Lib.hid (hS.out.move pq.h)
      clear g0 g1 e0 e1 e2 e3 cc hS d0 d1 df c0 c1 c2 c3
      generalize pq.v = we at hS1 ⊢
      clear pq
      obtain ⟨bl', ol', e', c0, c1, c2, c3⟩ := hS1.out.q.at hlt he.out
      cases e'
      have d0 := hS1.out.d0
      have d1 := hS1.out.d1
      have df := hS1.out.df
      cases bo with
      | true =>
        rw [if_pos hbo] at hnx
        obtain ⟨A, B, C, D, rfl, rfl, rfl, rfl, h1, h2, h3, h4, hsw⟩ := okB_im hX.out hbo
        simp only [Int.toNat_natCast] at hnx
        have hIR : Hid (Im K n (flL X K n A B C D)) := Lib.hid (fl_im hX.out _ _ _ _)
        have hS1d := Lib.hid (hS1.out.move (w1 := we.drew) ((Below.refl _ _).drew))
        have hd := dox_any K sd n cd X A B C D we.drew hS1d.out.pd.row hX.out h1 h2 h3 h4 hsw
        obtain ⟨R, hR⟩ : ∃ R, flL X K n A B C D = R := ⟨_, rfl⟩
        rw [hR] at hd hIR hnx
        replace hd := Lib.hid hd
        clear hR hbo hsw
        have lk : w2.heap.size < we.heap.size := block_lt d0
        go_wp2_with fail
        go_region_law (first | ((go_simp; go_at_call 74; (with_reducible refine hd.out.mono ?_); rintro e w5 ⟨⟨ag, cg, rfl, hown⟩, hb⟩; have hS2 := Lib.hid (hS1d.out.setd hb hown); have hS3 := hS1d.out.move hb; have d0 := hS3.d0; have d1 := hS3.d1; have df := hS3.df; clear hS3 hb hown)))
        all_goals clear hd hS1 hS1d c0 c1 c2 c3
        all_goals go_wp2_with fail
        all_goals exact ⟨⟨k + 1, ag, cg, R, by omega, by go_num, hS2, hnx, hIR⟩, by simp [intOf]; omega⟩
      | false =>
        rw [if_neg (by rw [hbo]; simp)] at hnx
        have hno := Lib.hid (runOut_stop hI.out (run_end hnx.out))
        have bb := Lib.hid hS1.out.bel
        have z0 := hS1.out.z0
        have z1 := hS1.out.z1
        have zf := hS1.out.zf
        clear hS1 c0 c1 c2 c3 d0 d1 df hbo
        go_wp2_with fail
        refine bodyPost_ret (v := .tuple #[.agg #[.int .i64 0, .slice none 0 0], .bool false]) (by simp [results, Try.results44, go_sem, z0, z1]) rfl ?_
        rw [hno.out]
        exact ⟨⟨none, 0, rfl, own_nil _ _⟩, (bb.out.setCell (by simp) _).setCell (by simp) _⟩
    · have : k = N := by omega
      subst this
      have hyes := Lib.hid (runOut_yes hI.out (show runL K xs L = some X by have e := hrun.out; rwa [← hql.out, List.take_length] at e))
      have z0 := hS.out.z0
      have z1 := hS.out.z1
      have d0 := hS.out.d0
      have d1 := hS.out.d1
      have zf := hS.out.zf
      have df := hS.out.df
      have pd := Lib.hid hS.out.pd
      have bb := Lib.hid hS.out.bel
      have hkd := hS.out.hk
      clear hS
      go_wp2_with fail
      refine bodyPost_ret (v := .tuple #[.agg #[.int .i64 K, .slice sd n cd], .bool true]) (by simp [results, Try.results44, go_sem, z0, z1]) rfl ?_
      rw [hyes.out]
      refine ⟨⟨sd, cd, by rw [hX.out.hl], ?_⟩, (bb.out.setCell (by simp) _).setCell (by simp) _⟩
      show OwnI _ _ _ X.length _ X
      rw [hX.out.hl]
      exact ((pd.out.store (show w.heap.size + 1 < w.heap.size + 2 by omega) _).store (show w.heap.size + 1 < w.heap.size + 2 by omega) _).mono (by omega)
end Go.Proofs.Yteejopkimlkhoaa

