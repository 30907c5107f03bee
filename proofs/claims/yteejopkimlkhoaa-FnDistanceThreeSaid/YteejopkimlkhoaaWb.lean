/-
  The contract of the model's SwitchToward.
-/
import Derived.Test.YteejopkimlkhoaaWa
import Derived.Test.YteejopkimlkhoaaKh
import Derived.Deep.RegionHeld3
namespace Go.Proofs.Yteejopkimlkhoaa
set_option maxRecDepth 100000
open Go.RowKit

/-- What SwitchToward gives. -/
def towOut (V : Int) (xs : List Int) (W : Int) (ys : List Int) : Option SwT := if shapeB V xs W ys = true then towL xs ys V.toNat xs.length else none
theorem towOut_no {V W : Int} {xs ys : List Int} (h : shapeB V xs W ys = false) : towOut V xs W ys = none := if_neg (by rw [h]; simp)
theorem towOut_yes {K n : Nat} {xs ys : List Int} (h : Im K n xs) (h' : Im K n ys) : towOut K xs K ys = towL xs ys K n := by
  unfold towOut; rw [if_pos (h.shape h'), h.hl, Int.toNat_natCast]
def swV : Option SwT → Value
  | some s => .tuple #[.agg #[.int .i64 s.1, .int .i64 s.2.1, .int .i64 s.2.2.1, .int .i64 s.2.2.2], .bool true]
  | none => .tuple #[.agg #[.int .i64 0, .int .i64 0, .int .i64 0, .int .i64 0], .bool false]

/-- The boxes of two images and of a switch to be given. -/
structure B3 (w wr : World) (V : Int) (a : Option Addr) (n c : Nat) (xs : List Int) (W : Int) (b : Option Addr) (m d : Nat) (ys : List Int) : Prop where
  b2 : B2 w wr V a n c xs W b m d ys
  z0 : wr.cell? ⟨w.heap.size + 1 + 1, 0, none⟩ = some (.int .i64 0)
  z1 : wr.cell? ⟨w.heap.size + 1 + 1, 1, none⟩ = some (.int .i64 0)
  z2 : wr.cell? ⟨w.heap.size + 1 + 1, 2, none⟩ = some (.int .i64 0)
  z3 : wr.cell? ⟨w.heap.size + 1 + 1, 3, none⟩ = some (.int .i64 0)
  zf : ∀ o, wr.frozen? ⟨w.heap.size + 1 + 1, o, none⟩ = false
theorem B3.move {w wr w1 : World} {V : Int} {a : Option Addr} {n c : Nat} {xs : List Int} {W : Int} {b : Option Addr} {m d : Nat} {ys : List Int} (h : B3 w wr V a n c xs W b m d ys) (hb : Below wr.heap.size wr w1) : B3 w w1 V a n c xs W b m d ys :=
  ⟨h.b2.move hb, kept hb (block_lt h.z0) h.z0, kept hb (block_lt h.z1) h.z1, kept hb (block_lt h.z2) h.z2, kept hb (block_lt h.z3) h.z3, fun o => (hb.frozen (p := ⟨w.heap.size + 1 + 1, o, none⟩) (show w.heap.size + 1 + 1 < wr.heap.size from block_lt h.z0)).trans (h.zf o)⟩
theorem B3.start {w : World} {V : Int} {a : Option Addr} {n c : Nat} {xs : List Int} {W : Int} {b : Option Addr} {m d : Nat} {ys : List Int} (h : Row w a n xs) (h' : Row w b m ys) :
    B3 w (((w.alloc (.cells #[.int .i64 V, .slice a n c] 25)).alloc (.cells #[.int .i64 W, .slice b m d] 25)).alloc (.cells #[.int .i64 0, .int .i64 0, .int .i64 0, .int .i64 0] 37)) V a n c xs W b m d ys := by
  exact ⟨(B2.start h h').move ((Below.refl _ _).alloc (Nat.le_refl _) _), by go_simp, by go_simp, by go_simp, by go_simp, fun o => by go_simp⟩
theorem heldT {w W W' : World} {p0 p1 q0 q1 c0 c1 c2 c3 : Addr} {u0 u1 v0 v1 t0 t1 t2 t3 : Value} {V : Int} {a : Option Addr} {n c : Nat} {xs : List Int} {U : Int} {b : Option Addr} {m d : Nat} {ys : List Int} {al : Option Addr} {N : Nat} {L : List SwT}
    (h : W.cell? p0 = some u0 ∧ W.cell? p1 = some u1 ∧ W.cell? q0 = some v0 ∧ W.cell? q1 = some v1 ∧ W.cell? c0 = some t0 ∧ W.cell? c1 = some t1 ∧ W.cell? c2 = some t2 ∧ W.cell? c3 = some t3 ∧ Hid (B3 w W V a n c xs U b m d ys) ∧ Hid (SRow W al N L)) (hb : Below W.heap.size W W') :
    W'.cell? p0 = some u0 ∧ W'.cell? p1 = some u1 ∧ W'.cell? q0 = some v0 ∧ W'.cell? q1 = some v1 ∧ W'.cell? c0 = some t0 ∧ W'.cell? c1 = some t1 ∧ W'.cell? c2 = some t2 ∧ W'.cell? c3 = some t3 ∧ Hid (B3 w W' V a n c xs U b m d ys) ∧ Hid (SRow W' al N L) :=
  ⟨kept hb (block_lt h.1) h.1, kept hb (block_lt h.2.1) h.2.1, kept hb (block_lt h.2.2.1) h.2.2.1, kept hb (block_lt h.2.2.2.1) h.2.2.2.1, kept hb (block_lt h.2.2.2.2.1) h.2.2.2.2.1, kept hb (block_lt h.2.2.2.2.2.1) h.2.2.2.2.2.1, kept hb (block_lt h.2.2.2.2.2.2.1) h.2.2.2.2.2.2.1, kept hb (block_lt h.2.2.2.2.2.2.2.1) h.2.2.2.2.2.2.2.1, Lib.hid (h.2.2.2.2.2.2.2.2.1.out.move hb), Lib.hid (h.2.2.2.2.2.2.2.2.2.out.bel hb)⟩
theorem setQ4 {u : World} {k : Nat} {u0 u1 u2 u3 : Value} (v0 v1 v2 v3 : Value) (h0 : u.cell? ⟨k, 0, none⟩ = some u0) (h1 : u.cell? ⟨k, 1, none⟩ = some u1) (h2 : u.cell? ⟨k, 2, none⟩ = some u2) (h3 : u.cell? ⟨k, 3, none⟩ = some u3) :
    ((((u.setCell ⟨k, 0, none⟩ v0).setCell ⟨k, 1, none⟩ v1).setCell ⟨k, 2, none⟩ v2).setCell ⟨k, 3, none⟩ v3).cell? ⟨k, 0, none⟩ = some v0 ∧ ((((u.setCell ⟨k, 0, none⟩ v0).setCell ⟨k, 1, none⟩ v1).setCell ⟨k, 2, none⟩ v2).setCell ⟨k, 3, none⟩ v3).cell? ⟨k, 1, none⟩ = some v1 ∧
    ((((u.setCell ⟨k, 0, none⟩ v0).setCell ⟨k, 1, none⟩ v1).setCell ⟨k, 2, none⟩ v2).setCell ⟨k, 3, none⟩ v3).cell? ⟨k, 2, none⟩ = some v2 ∧ ((((u.setCell ⟨k, 0, none⟩ v0).setCell ⟨k, 1, none⟩ v1).setCell ⟨k, 2, none⟩ v2).setCell ⟨k, 3, none⟩ v3).cell? ⟨k, 3, none⟩ = some v3 := by
  have o : ∀ (U : World) (v x : Value) (i j : Nat), i ≠ j → U.cell? ⟨k, i, none⟩ = some v → (U.setCell ⟨k, j, none⟩ x).cell? ⟨k, i, none⟩ = some v := fun U v x i j hne h => by rw [World.cell?_setCell_other _ _ _ _ (by simp)]; exact h
  have s : ∀ (U : World) (v x : Value) (i : Nat), U.cell? ⟨k, i, none⟩ = some v → (U.setCell ⟨k, i, none⟩ x).cell? ⟨k, i, none⟩ = some x := fun U v x i h => World.cell?_setCell_same _ _ _ h
  have a1 := o _ _ v0 1 0 (by omega) h1
  have a2 := o _ _ v1 2 1 (by omega) (o _ _ v0 2 0 (by omega) h2)
  have a3 := o _ _ v2 3 2 (by omega) (o _ _ v1 3 1 (by omega) (o _ _ v0 3 0 (by omega) h3))
  exact ⟨o _ _ v3 0 3 (by omega) (o _ _ v2 0 2 (by omega) (o _ _ v1 0 1 (by omega) (s _ _ v0 0 h0))), o _ _ v3 1 3 (by omega) (o _ _ v2 1 2 (by omega) (s _ _ v1 1 a1)), o _ _ v3 2 3 (by omega) (s _ _ v2 2 a2), s _ _ v3 3 a3⟩
theorem belQ4 {w V : World} {k : Nat} {v0 v1 v2 v3 : Value} (h : Below w.heap.size w V) (hk : w.heap.size ≤ k) : Below w.heap.size w ((((V.setCell ⟨k, 0, none⟩ v0).setCell ⟨k, 1, none⟩ v1).setCell ⟨k, 2, none⟩ v2).setCell ⟨k, 3, none⟩ v3) :=
  (((h.setCell hk _).setCell hk _).setCell hk _).setCell hk _

set_option maxHeartbeats 4000000 in
theorem tow_spec (V W : Int) (a b : Option Addr) (n m c d : Nat) (xs ys : List Int) (w : World) (h : Row w a n xs) (h' : Row w b m ys) (hm : n ≤ 9223372036854775807) (hm' : m ≤ 9223372036854775807) :
    Calls Try.prog 33 #[.agg #[.int .i64 V, .slice a n c], .agg #[.int .i64 W, .slice b m d]] w fun e w' => e = .returned (swV (towOut V xs W ys)) ∧ Below w.heap.size w w' := by
  have hlx := Lib.hid h.1
  have hly := Lib.hid h'.1
  obtain ⟨W0, hW0⟩ : ∃ W0, W0 = ((w.alloc (.cells #[.int .i64 V, .slice a n c] 25)).alloc (.cells #[.int .i64 W, .slice b m d] 25)).alloc (.cells #[.int .i64 0, .int .i64 0, .int .i64 0, .int .i64 0] 37) := ⟨_, rfl⟩
  have hB : Hid (B3 w W0 V a n c xs W b m d ys) := by subst hW0; exact B3.start h h'
  clear h h'
  have x0 := hB.out.b2.x0
  have x1 := hB.out.b2.x1
  have y0 := hB.out.b2.y0
  have y1 := hB.out.b2.y1
  have z0 := hB.out.z0
  have z1 := hB.out.z1
  have z2 := hB.out.z2
  have z3 := hB.out.z3
  have zf := hB.out.zf
  by_cases hv : shapeB V xs W ys = true
  case neg =>
    have hv : shapeB V xs W ys = false := by simpa using hv
    go_enter Try.func33, Try.ntmps33
    go_wp2_with fail
    rw [← hW0]
    clear hW0
    refine (shape_spec _ _ _ _ _ _ _ _ xs ys _ hB.out.b2.p hB.out.b2.q hm hm').mono ?_
    rintro e w1 ⟨rfl, hb⟩
    replace hB := Lib.hid (hB.out.move hb)
    clear x0 x1 y0 y1 z0 z1 z2 z3 zf hb
    have x0 := hB.out.b2.x0
    have x1 := hB.out.b2.x1
    have y0 := hB.out.b2.y0
    have y1 := hB.out.b2.y1
    have z0 := hB.out.z0
    have z1 := hB.out.z1
    have z2 := hB.out.z2
    have z3 := hB.out.z3
    have zf := hB.out.zf
    rw [hv]
    go_wp2_with fail
    refine bodyPost_ret (v := .tuple #[.agg #[.int .i64 0, .int .i64 0, .int .i64 0, .int .i64 0], .bool false]) (by simp [results, Try.results33, go_sem, z0, z1, z2, z3]) rfl ?_
    exact ⟨by rw [towOut_no hv]; first | done | rfl, belQ4 hB.out.b2.bel (by omega)⟩
  obtain ⟨K, rfl, rfl, rfl, hI, hJ⟩ := shape_im hlx.out hly.out hv
  have hK6 := hI.w6
  have hn6 := hI.l6
  rw [towOut_yes hI hJ]
  obtain ⟨L, hL⟩ : ∃ L, swL (cellOf xs) K n = L := ⟨_, rfl⟩
  obtain ⟨N, hN⟩ : ∃ N, L.length = N := ⟨_, rfl⟩
  have hN9 : N ≤ 135 := by rw [← hN, ← hL]; exact swl_135 _ (by omega) (by omega)
  have hlist := fun (wx : World) (hr : Row wx a n xs) => (swlist_spec (K : Int) a n c xs wx hr (by omega))
  simp only [list_im hI, hL] at hlist
  replace hlist := Lib.hid hlist
  replace hI := Lib.hid hI
  replace hJ := Lib.hid hJ
  go_enter Try.func33, Try.ntmps33
  go_wp2_with fail
  rw [← hW0]
  clear hW0
  refine (shape_spec _ _ _ _ _ _ _ _ xs ys _ hB.out.b2.p hB.out.b2.q hm hm').mono ?_
  rintro e w2 ⟨rfl, hb⟩
  replace hB := Lib.hid (hB.out.move hb)
  clear x0 x1 y0 y1 z0 z1 z2 z3 zf hb
  have x0 := hB.out.b2.x0
  have x1 := hB.out.b2.x1
  have y0 := hB.out.b2.y0
  have y1 := hB.out.b2.y1
  have z0 := hB.out.z0
  have z1 := hB.out.z1
  have z2 := hB.out.z2
  have z3 := hB.out.z3
  have zf := hB.out.zf
  rw [hv]
  clear hv
  go_wp2_with fail
  refine (hlist.out _ hB.out.b2.p).mono ?_
  rintro e w3 ⟨⟨al, cl, rfl, ho⟩, hb⟩
  replace hB := Lib.hid (hB.out.move hb)
  clear x0 x1 y0 y1 z0 z1 z2 z3 zf hb
  have x0 := hB.out.b2.x0
  have x1 := hB.out.b2.x1
  have y0 := hB.out.b2.y0
  have y1 := hB.out.b2.y1
  have z0 := hB.out.z0
  have z1 := hB.out.z1
  have z2 := hB.out.z2
  have z3 := hB.out.z3
  have zf := hB.out.zf
  have hr := Lib.hid ho.row
  clear ho
  rw [hN] at hr ⊢
  replace hN := Lib.hid hN
  replace hL := Lib.hid hL
  clear hlist
  go_wp2_with fail
  go_loopw [7] (fun i wr => ∃ k : Nat, k ≤ N ∧ i = .int .i64 k ∧ Hid (B3 w wr K a n c xs K b n d ys) ∧ Hid (SRow wr al N L) ∧ Hid (∀ t ∈ L.take k, towP xs ys K n t = false)) (fun i _ => N - (intOf i).toNat)
  case atStart => exact ⟨0, Nat.zero_le _, rfl, hB, hr, Lib.hid (by simp)⟩
  case round =>
    clear hB hr x0 x1 y0 y1 z0 z1 z2 z3 zf
    obtain ⟨k, hk, rfl, hB, hr, hno⟩ := hrel
    have x0 := hB.out.b2.x0
    have x1 := hB.out.b2.x1
    have y0 := hB.out.b2.y0
    have y1 := hB.out.b2.y1
    have z0 := hB.out.z0
    have z1 := hB.out.z1
    have z2 := hB.out.z2
    have z3 := hB.out.z3
    have zf := hB.out.zf
    by_cases hlt : k < N
    · obtain ⟨A, B, C, D, hz, hAB, hBn, hCD, hDK, hsw⟩ : ∃ A B C D : Nat, L[k]'(by rw [hN.out]; exact hlt) = (A, B, C, D) ∧ A < B ∧ B < n ∧ C < D ∧ D < K ∧ swC (cellOf xs) A B C D = true := by
        obtain ⟨⟨A, B, C, D⟩, e⟩ : ∃ t, L[k]'(by rw [hN.out]; exact hlt) = t := ⟨_, rfl⟩
        have hmem : (A, B, C, D) ∈ L := e ▸ List.getElem_mem _
        rw [← hL.out] at hmem
        exact ⟨A, B, C, D, e, swl_mem.1 hmem⟩
      have hsp : Hid (L = L.take k ++ (A, B, C, D) :: L.drop (k + 1)) := by
        have h1 := (List.take_append_drop k L).symm
        rwa [List.drop_eq_getElem_cons (by rw [hN.out]; exact hlt), hz] at h1
      have htk : Hid (L.take (k + 1) = L.take k ++ [(A, B, C, D)]) := by rw [List.take_succ_eq_append_getElem (by rw [hN.out]; exact hlt), hz]; rfl
      obtain ⟨gl, rfl, c0, c1, c2, c3⟩ := srow_at hr.out hlt hz
      have hIR : Hid (Im K n (flL xs K n A B C D)) := fl_im hI.out A B C D
      obtain ⟨R, hR⟩ : ∃ R, flL xs K n A B C D = R := ⟨_, rfl⟩
      obtain ⟨f1, hf1⟩ : ∃ f1, farL R ys K n = f1 := ⟨_, rfl⟩
      obtain ⟨f0, hf0⟩ : ∃ f0, farL xs ys K n = f0 := ⟨_, rfl⟩
      have htp : Hid (towP xs ys K n (A, B, C, D) = decide (f1 < f0)) := by rw [← hf1, ← hf0, ← hR]; rfl
      have hd := Lib.hid fun (wx : World) (hrx : Row wx a n xs) => dox_any K a n c xs A B C D wx hrx hI.out hAB hBn hCD hDK hsw
      have hc1 := Lib.hid fun (s : Option Addr) (e : Nat) (wx : World) (h1 : Row wx s n R) (h2 : Row wx b n ys) => farx_any K s b n e d R ys wx h1 h2 (hR ▸ hIR.out) hJ.out
      have hc0 := Lib.hid fun (wx : World) (h1 : Row wx a n xs) (h2 : Row wx b n ys) => farx_any K a b n c d xs ys wx h1 h2 hI.out hJ.out
      rw [hR] at hd
      rw [hf1] at hc1
      rw [hf0] at hc0
      replace hR := Lib.hid hR
      replace hsw := Lib.hid hsw
      replace hz := Lib.hid hz
      clear hf1 hf0 hIR
      have k0 : (0 : Int) ≤ (k : Int) := Int.natCast_nonneg _
      have kn : (k : Int) < (N : Int) := by omega
      have tok0 : True := trivial
      obtain ⟨q, hq⟩ : ∃ q, decide (f1 < f0) = q := ⟨_, rfl⟩
      rw [hq] at htp
      go_wp2_with fail
      go_region_held3 (fun U => U.cell? ⟨w.heap.size, 0, none⟩ = some (.int .i64 K) ∧ U.cell? ⟨w.heap.size, 1, none⟩ = some (.slice a n c) ∧ U.cell? ⟨w.heap.size + 1, 0, none⟩ = some (.int .i64 K) ∧ U.cell? ⟨w.heap.size + 1, 1, none⟩ = some (.slice b n d) ∧ U.cell? ⟨gl, k * 4, none⟩ = some (.int .i64 A) ∧ U.cell? ⟨gl, k * 4 + 1, none⟩ = some (.int .i64 B) ∧ U.cell? ⟨gl, k * 4 + 2, none⟩ = some (.int .i64 C) ∧ U.cell? ⟨gl, k * 4 + 3, none⟩ = some (.int .i64 D) ∧ Hid (B3 w U K a n c xs K b n d ys) ∧ Hid (SRow U (some ⟨gl, 0, none⟩) N L))
        (first | exact heldT ⟨x0, x1, y0, y1, c0, c1, c2, c3, hB, hr⟩ ((Below.refl _ _).drew) | (refine heldT ?_ (by assumption); assumption))
        (first | (go_at_call 74; have _t := tok0; have hS := ‹_ ∧ _ ∧ _ ∧ _ ∧ _ ∧ _ ∧ _ ∧ _ ∧ Hid (B3 _ _ _ _ _ _ _ _ _ _ _ _) ∧ _›; (refine (hd.out _ hS.2.2.2.2.2.2.2.2.1.out.b2.p).mono ?_); rintro e w4 ⟨⟨ax, cx, rfl, ho⟩, hb⟩; have o := Lib.hid ho.row; clear hS tok0 _t ho; have tok1 : True := trivial) | (go_at_call 63; have _t := tok1; have hS := ‹_ ∧ _ ∧ _ ∧ _ ∧ _ ∧ _ ∧ _ ∧ _ ∧ Hid (B3 _ _ _ _ _ _ _ _ _ _ _ _) ∧ _›; (refine (hc1.out _ _ _ o.out hS.2.2.2.2.2.2.2.2.1.out.b2.q).mono ?_); rintro e w5 ⟨rfl, hb⟩; clear hS tok1 _t o; have tok2 : True := trivial) | (go_at_call 63; have _t := tok2; have hS := ‹_ ∧ _ ∧ _ ∧ _ ∧ _ ∧ _ ∧ _ ∧ _ ∧ Hid (B3 _ _ _ _ _ _ _ _ _ _ _ _) ∧ _›; (refine (hc0.out _ hS.2.2.2.2.2.2.2.2.1.out.b2.p hS.2.2.2.2.2.2.2.2.1.out.b2.q).mono ?_); rintro e w6 ⟨rfl, hb⟩; clear hS tok2 _t))
      clear x0 x1 y0 y1 c0 c1 c2 c3 z0 z1 z2 z3 zf hB hr hd hc1 hc0
      obtain ⟨x0, x1, y0, y1, c0, c1, c2, c3, hB, hr⟩ := ‹_ ∧ _ ∧ _ ∧ _ ∧ _ ∧ _ ∧ _ ∧ _ ∧ Hid (B3 _ _ _ _ _ _ _ _ _ _ _ _) ∧ _›
      have z0 := hB.out.z0
      have z1 := hB.out.z1
      have z2 := hB.out.z2
      have z3 := hB.out.z3
      have zf := hB.out.zf
      cases q with
      | false =>
        go_wp2_with fail
        exact ⟨⟨k + 1, by omega, by go_num, hB, hr, Lib.hid (by rw [htk.out]; intro t ht; rcases List.mem_append.1 ht with h | h; exact hno.out t h; rw [List.mem_singleton] at h; rw [h]; exact htp.out)⟩, by simp [intOf]; omega⟩
      | true =>
        have hF := Lib.hid (tow_here (hL.out.trans hsp.out) hno.out htp.out)
        go_wp2_with fail
        refine bodyPost_ret (v := .tuple #[.agg #[.int .i64 A, .int .i64 B, .int .i64 C, .int .i64 D], .bool true]) (by simp [results, Try.results33, go_sem, z0, z1, z2, z3]) rfl ?_
        exact ⟨by rw [hF.out]; first | done | rfl, belQ4 hB.out.b2.bel (by omega)⟩
    · have : k = N := by omega
      subst this
      have hF : Hid (towL xs ys K n = none) := tow_no fun t ht => hno.out t (by rw [← hN.out, List.take_length, ← hL.out]; exact ht)
      go_wp2_with fail
      refine bodyPost_ret (v := .tuple #[.agg #[.int .i64 0, .int .i64 0, .int .i64 0, .int .i64 0], .bool false]) (by simp [results, Try.results33, go_sem, z0, z1, z2, z3]) rfl ?_
      exact ⟨by rw [hF.out]; first | done | rfl, belQ4 hB.out.b2.bel (by omega)⟩
end Go.Proofs.Yteejopkimlkhoaa

