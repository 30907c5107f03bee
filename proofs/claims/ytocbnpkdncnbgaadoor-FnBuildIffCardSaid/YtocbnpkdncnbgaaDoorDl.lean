/-
  The contracts of the canvases' set and of build.
-/
import Derived.Test.YtocbnpkdncnbgaaDoorDk
namespace Go.Proofs.YtocbnpkdncnbgaaDoor
set_option maxRecDepth 100000
open Go.RowKit

theorem sm_cols (s : Option Addr) (n cap : Nat) (w : World) : (Go.method 275 60 (.slice s n cap) "loop.example/discretetomography/impl.set").run Tryd.prog w = .ok (120, .slice s n cap) w := by kernel_rfl
theorem sn_cols (s : Option Addr) (n cap : Nat) (w : World) : (nilAhead 275 60 (.slice s n cap) "loop.example/discretetomography/impl.set").run Tryd.prog w = .ok (some false) w := by kernel_rfl
theorem sm_rows (s : Option Addr) (n cap : Nat) (w : World) : (Go.method 275 65 (.slice s n cap) "loop.example/discretetomography/impl.set").run Tryd.prog w = .ok (121, .slice s n cap) w := by kernel_rfl
theorem sn_rows (s : Option Addr) (n cap : Nat) (w : World) : (nilAhead 275 65 (.slice s n cap) "loop.example/discretetomography/impl.set").run Tryd.prog w = .ok (some false) w := by kernel_rfl

set_option maxHeartbeats 1600000 in
theorem set_cols (B k n cap : Nat) (xs : List Int) (i j : Nat) (w : World) (h : OwnI w B (some ⟨k, 0, none⟩) n cap xs) (hi : i < n) (hj : j < 6) (h0 : 0 ≤ xs.getD i 0) (h1 : xs.getD i 0 ≤ 63) :
    Calls Tryd.prog 120 #[.slice (some ⟨k, 0, none⟩) n cap, .int .i64 j, .int .i64 i] w fun e w' => e = .returned (.tuple #[]) ∧ w.grownBy w' (some k) ∧ OwnI w' B (some ⟨k, 0, none⟩) n cap (putL xs i j true) := by
  have hc := own_cell h hi
  have hf := h.frozen
  have hp := (orput hj h0 h1).1
  have ew := (wrap_pow j hj).1
  have ev := (wrap_pow j hj).2
  have hO := Lib.hid ((h.bel ((Below.refl _ _).drew)).set i (putI (xs.getD i 0) j true))
  have hg := Lib.hid (grown_set (w := w) (j := i) (v := .int .i64 (putI (xs.getD i 0) j true)) (grown_drewN (World.grownBy.refl w (some k)) 1))
  have hj0 : (0 : Int) ≤ (j : Int) := Int.natCast_nonneg _
  have hj7 : (j : Int) < 64 := by omega
  unfold putL
  generalize xs.getD i 0 = x at *
  clear h
  go_enter Tryd.func120, Tryd.ntmps120
  go_wp2_with fail
  go_region
  all_goals
    go_wp2_with fail
    go_end0
    exact ⟨rfl, hg.out, hO.out⟩
set_option maxHeartbeats 1600000 in
theorem set_rows (B k n cap : Nat) (xs : List Int) (i j : Nat) (w : World) (h : OwnI w B (some ⟨k, 0, none⟩) n cap xs) (hi : i < n) (hj : j < 6) (h0 : 0 ≤ xs.getD i 0) (h1 : xs.getD i 0 ≤ 63) :
    Calls Tryd.prog 121 #[.slice (some ⟨k, 0, none⟩) n cap, .int .i64 i, .int .i64 j] w fun e w' => e = .returned (.tuple #[]) ∧ w.grownBy w' (some k) ∧ OwnI w' B (some ⟨k, 0, none⟩) n cap (putL xs i j true) := by
  have hc := own_cell h hi
  have hf := h.frozen
  have hp := (orput hj h0 h1).1
  have ew := (wrap_pow j hj).1
  have ev := (wrap_pow j hj).2
  have hO := Lib.hid ((h.bel ((Below.refl _ _).drew)).set i (putI (xs.getD i 0) j true))
  have hg := Lib.hid (grown_set (w := w) (j := i) (v := .int .i64 (putI (xs.getD i 0) j true)) (grown_drewN (World.grownBy.refl w (some k)) 1))
  have hj0 : (0 : Int) ≤ (j : Int) := Int.natCast_nonneg _
  have hj7 : (j : Int) < 64 := by omega
  unfold putL
  generalize xs.getD i 0 = x at *
  clear h
  go_enter Tryd.func121, Tryd.ntmps121
  go_wp2_with fail
  go_region
  all_goals
    go_wp2_with fail
    go_end0
    exact ⟨rfl, hg.out, hO.out⟩

/-- A canvas: its type, its method, the rows that its cells make. -/
structure Cnv (T : TypeId) (F : FuncId) (X : (Nat → Nat → Bool) → List Int) (len nl nk : Nat) : Prop where
  me : ∀ (s : Option Addr) (n cap : Nat) (w : World), (Go.method 275 T (.slice s n cap) "loop.example/discretetomography/impl.set").run Tryd.prog w = .ok (F, .slice s n cap) w
  na : ∀ (s : Option Addr) (n cap : Nat) (w : World), (nilAhead 275 T (.slice s n cap) "loop.example/discretetomography/impl.set").run Tryd.prog w = .ok (some false) w
  set : ∀ (B k cap : Nat) (c : Nat → Nat → Bool) (l a : Nat) (w : World), l < nl → a < nk → OwnI w B (some ⟨k, 0, none⟩) len cap (X c) →
    Calls Tryd.prog F #[.slice (some ⟨k, 0, none⟩) len cap, .int .i64 l, .int .i64 a] w fun e w' => e = .returned (.tuple #[]) ∧ w.grownBy w' (some k) ∧ OwnI w' B (some ⟨k, 0, none⟩) len cap (X fun p q => c p q || (decide (p = l) && decide (q = a)))
  ext : ∀ c d : Nat → Nat → Bool, (∀ p q, p < nl → q < nk → c p q = d p q) → X c = X d
theorem grown_ch {b g : Nat} {w wr w' : World} {row : Option Nat} (h : w.grownBy wr row) (hc : Ch b g wr w') (hb : w.heap.size ≤ b) (hg : w.heap.size ≤ g) : w.grownBy w' row :=
  ⟨hc.os.trans h.os, hc.tape.trans h.tape, hc.output.trans h.output, Nat.le_trans h.size hc.size, fun k hk hn => (hc.block k (Nat.lt_of_lt_of_le hk h.size) (by omega) (by omega)).trans (h.block k hk hn)⟩
theorem grown_bel {w wr w' : World} {row : Option Nat} (h : w.grownBy wr row) (hb : Below wr.heap.size wr w') : w.grownBy w' row := grown_trans h (below_grown hb _)
theorem lns_congr {f g : Nat → Int} {n : Nat} (h : ∀ i, i < n → f i = g i) : lns f n = lns g n := List.map_congr_left fun i hi => by
  rw [List.mem_range] at hi; unfold pr; rw [h i hi]
theorem left_bd {f : Nat → Int} {n j : Nat} {ys : List Int} (i : Nat) : f i - j ≤ leftI f n ys j i ∧ leftI f n ys j i ≤ f i := by
  rw [left_sum]
  have := sum_bd (f := fun k => if bcB f n ys i k = true then (1 : Int) else 0) (fun k => by (try dsimp only); split <;> omega) j
  omega
/-- The cells of the first lines. -/
def upto (f : Nat → Int) (n : Nat) (ys : List Int) (j : Nat) (p q : Nat) : Bool := decide (p < j) && bcB f n ys q p
/-- .. and of the line j those across that are told. -/
def upto2 (f : Nat → Int) (n : Nat) (ys : List Int) (j : Nat) (I : List Nat) (p q : Nat) : Bool := upto f n ys j p q || (decide (p = j) && decide (q ∈ I))
theorem upto2_nil {f : Nat → Int} {n : Nat} {ys : List Int} {j : Nat} : upto2 f n ys j [] = upto f n ys j := by
  funext p q; unfold upto2; simp
theorem upto2_next {f : Nat → Int} {n : Nat} {ys : List Int} {j r : Nat} {I : List Nat} (hr : r < I.length) : (fun p q => upto2 f n ys j (I.take r) p q || (decide (p = j) && decide (q = I.getD r 0))) = upto2 f n ys j (I.take (r + 1)) := by
  funext p q
  have e : I.getD r 0 = I[r] := by simp [hr]
  unfold upto2
  rw [e, List.take_succ_eq_append_getElem hr]
  rw [Bool.eq_iff_iff]
  simp only [Bool.or_eq_true, Bool.and_eq_true, decide_eq_true_eq, List.mem_append, List.mem_singleton]
  constructor
  · rintro ((h | h) | h)
    · exact .inl h
    · exact .inr ⟨h.1, .inl h.2⟩
    · exact .inr ⟨h.1, .inr h.2⟩
  · rintro (h | ⟨h1, h2 | h2⟩)
    · exact .inl (.inl h)
    · exact .inl (.inr ⟨h1, h2⟩)
    · exact .inr ⟨h1, h2⟩
theorem upto2_full {f : Nat → Int} {n : Nat} {ys : List Int} {j : Nat} {I : List Nat} (h : ∀ k, k < n → (k ∈ I ↔ chB (leftI f n ys j) n (ys.getD j 0) k = true)) {p q : Nat} (hq : q < n) : upto2 f n ys j I p q = upto f n ys (j + 1) p q := by
  unfold upto2 upto
  rw [Bool.eq_iff_iff]
  simp only [Bool.or_eq_true, Bool.and_eq_true, decide_eq_true_eq]
  constructor
  · rintro (hh | hh)
    · exact ⟨by omega, hh.2⟩
    · obtain ⟨rfl, h2⟩ := hh; exact ⟨by omega, (h q hq).1 h2⟩
  · rintro ⟨h1, h2⟩
    by_cases e : p < j
    · exact .inl ⟨e, h2⟩
    · have : p = j := by omega
      subst this; exact .inr ⟨rfl, (h q hq).2 h2⟩

set_option maxHeartbeats 4000000 in
theorem build_byColumns {X : (Nat → Nat → Bool) → List Int} {len nl nk : Nat} (C : Cnv 60 120 X len nl nk) (a a' : Option Addr) (c1 c2 : Nat) (ss zs : List Int) (B k0 cap : Nat) (w : World) (h : Row w a nl ss) (h' : Row w a' nk zs)
    (ho : OwnI w B (some ⟨k0, 0, none⟩) len cap (X fun _ _ => false)) (hfar : ∀ q off, a = some ⟨q, off, none⟩ → 0 < nl → q ≠ k0) (hk : nk ≤ 6) (hl : nl ≤ 6) (hs : ∀ j, j < nl → 0 ≤ ss.getD j 0 ∧ ss.getD j 0 ≤ nk) (hb : ∀ i, i < nk → 0 ≤ zs.getD i 0 ∧ zs.getD i 0 ≤ 6) :
    Calls Tryd.prog 45 #[.slice a nl c1, .slice a' nk c2, .iface 60 (.slice (some ⟨k0, 0, none⟩) len cap)] w fun e w' => e = .returned (.tuple #[]) ∧ w.grownBy w' (some k0) ∧ OwnI w' B (some ⟨k0, 0, none⟩) len cap (X fun p q => bcB (fun i => zs.getD i 0) nk ss q p) := by
  have hk0 := own_lt ho
  have cL := Lib.hid (lines_of a' nk c2 zs w h' (by omega))
  obtain ⟨f, hf⟩ : ∃ f : Nat → Int, (fun i => zs.getD i 0) = f := ⟨_, rfl⟩
  have hfb : Hid (∀ i, i < nk → 0 ≤ f i ∧ f i ≤ 6) := fun i hi => by rw [← hf]; exact hb i hi
  rw [hf] at cL ⊢
  have ho := Lib.hid ho
  have h := Lib.hid h
  have hfar := Lib.hid hfar
  have hs := Lib.hid hs
  have C := Lib.hid C
  clear hb hf h'
  go_enter Tryd.func45, Tryd.ntmps45
  go_wp2_with fail
  refine cL.out.mono ?_
  rintro e w1 ⟨b, g, L, rfl, hb1, hb2, hg1, hg2, hS, hP, hH, hB⟩
  have ho1 := Lib.hid (ho.out.bel hB)
  have hG1 := Lib.hid (below_grown hB (some k0))
  have hkb : k0 ≠ b := by omega
  have hkg : k0 ≠ g := by omega
  have hX0 : X (fun _ _ => false) = X (upto f nk ss 0) := C.out.ext _ _ fun p q _ _ => by unfold upto; simp
  rw [hX0] at ho1
  replace hS := Lib.hid hS
  replace hP := Lib.hid hP
  replace hH := Lib.hid hH
  clear ho hB cL hb2 hg2 hX0
  go_wp2_with fail
  go_loopw [15] (fun i wr => ∃ (j : Nat) (L : PL), j ≤ nl ∧ i = .int .i64 j ∧ Hid (HS wr b g nk L) ∧ Hid (L.Perm (lns (leftI f nk ss j) nk)) ∧ Hid (HP L nk 0) ∧ Hid (OwnI wr B (some ⟨k0, 0, none⟩) len cap (X (upto f nk ss j))) ∧ Hid (w.grownBy wr (some k0))) (fun i _ => nl - (intOf i).toNat)
  case atStart => exact ⟨0, L, Nat.zero_le _, rfl, hS, hP, hH, ho1, hG1⟩
  case round =>
    clear hS hP hH ho1 hG1
    obtain ⟨j, L, hj, rfl, hS, hP, hH, hO, hG⟩ := hrel
    by_cases hlt : j < nl
    · have hR := h.out.apart hG.out (fun q off e hn => by have := hfar.out q off e hn; simpa using this)
      obtain ⟨qb, qo, rfl, hc⟩ := row_at hR hlt
      have hsj := hs.out j hlt
      obtain ⟨c, hcc⟩ := Int.eq_ofNat_of_zero_le hsj.1
      rw [hcc] at hc hsj
      have cT := Lib.hid (take_lib (c := c) hS.out hP.out hH.out (by omega) hk (Nat.le_refl _) (fun i hi => by have := hfb.out i hi; have := left_bd (f := f) (n := nk) (j := j) (ys := ss) i; omega))
      replace hcc := Lib.hid hcc
      clear hS hP hH hR
      go_wp2_with fail
      refine cT.out.mono ?_
      rintro e w2 ⟨q, I, L2, rfl, hI, lI, hIn, hIch, hS2, hP2, hH2, hC2⟩
      have hwz := hG.out.size
      have hqw : wr.heap.size ≤ q ∧ q < w2.heap.size := World.ownsRow.lt hI q rfl
      have hO2 := Lib.hid (hC2.own hO.out (fun p e => by cases e; exact ⟨hkb, hkg⟩))
      have hG2 := Lib.hid (grown_ch hG.out hC2 (by omega) (by omega))
      have hqk : q ≠ k0 := by have := hqw.1; omega
      rw [← hcc.out] at hIch
      have hIch' : Hid (∀ k, k < nk → (k ∈ I ↔ chB (leftI f nk ss j) nk (ss.getD j 0) k = true)) := hIch
      rw [← hcc.out] at hP2
      have hP3 : Hid (L2.Perm (lns (leftI f nk ss (j + 1)) nk)) := hP2
      have hO3 : Hid (OwnI w2 B (some ⟨k0, 0, none⟩) len cap (X (upto2 f nk ss j (I.take 0)))) := by
        show OwnI w2 B (some ⟨k0, 0, none⟩) len cap (X (upto2 f nk ss j []))
        rw [upto2_nil]; exact hO2.out
      replace hI := Lib.hid hI
      replace lI := Lib.hid lI
      replace hIn := Lib.hid hIn
      replace hS2 := Lib.hid hS2
      replace hH2 := Lib.hid hH2
      obtain ⟨BI, hBI⟩ : ∃ BI, wr.heap.size = BI := ⟨_, rfl⟩
      rw [hBI] at hI
      clear cT hC2 hO hG hc hqw hO2 hIch hP2 hwz hBI
      go_wp2_with fail
      go_loopw [24] (fun i wq => ∃ r : Nat, r ≤ c ∧ i = .int .i64 r ∧ Hid (HS wq b g nk L2) ∧ Hid (OwnI wq BI (some ⟨q, 0, none⟩) c c (ix I c)) ∧ Hid (OwnI wq B (some ⟨k0, 0, none⟩) len cap (X (upto2 f nk ss j (I.take r)))) ∧ Hid (w.grownBy wq (some k0))) (fun i _ => c - (intOf i).toNat)
      case atStart => exact ⟨0, Nat.zero_le _, rfl, hS2, hI, hO3, hG2⟩
      case round =>
        clear hS2 hI hO3 hG2
        obtain ⟨r, hr, rfl, hS, hI, hO, hG⟩ := hrel
        by_cases hlr : r < c
        · have d0 := own_cell hI.out (i := r) (by omega)
          rw [ix_get hlr] at d0
          have lI' := lI.out
          have hmem : I.getD r 0 ∈ I := by
            rw [List.getD_eq_getElem?_getD, List.getElem?_eq_getElem (by omega)]; exact List.getElem_mem _
          have hin := hIn.out _ hmem
          have hnx := upto2_next (f := f) (n := nk) (ys := ss) (j := j) (r := r) (I := I) (by omega)
          have cS := C.out.set B k0 cap (upto2 f nk ss j (I.take r)) j (I.getD r 0) wr hlt hin hO.out
          rw [hnx] at cS
          replace cS := Lib.hid cS
          have sm := C.out.me (some ⟨k0, 0, none⟩) len cap
          have sn := C.out.na (some ⟨k0, 0, none⟩) len cap
          generalize I.getD r 0 = i at *
          clear lI' hmem hnx
          go_wp2_with fail
          refine cS.out.mono ?_
          rintro e w5 ⟨rfl, hg5, hO5⟩
          have hS5 := Lib.hid (hS.out.stored_far hg5 hkb hkg)
          have hI5 : Hid (OwnI w5 BI (some ⟨q, 0, none⟩) c c (ix I c)) := World.ownsRow.kept hI.out hg5 (.inr (by simpa [Value.ownBlock] using hqk))
          have hG5 := Lib.hid (grown_trans hG.out hg5)
          replace hO5 := Lib.hid hO5
          clear cS hg5 hS hI hO hG d0 sm sn
          go_wp2_with fail
          exact ⟨⟨r + 1, by omega, by go_num, hS5, hI5, hO5, hG5⟩, by simp [intOf]; omega⟩
        · have hrc : r = c := by omega
          have hX2 : X (upto2 f nk ss j (I.take r)) = X (upto f nk ss (j + 1)) := C.out.ext _ _ fun p q' hp hq => by
            rw [List.take_of_length_le (by have := lI.out; omega)]; exact upto2_full hIch'.out hq
          rw [hX2] at hO
          clear hX2 hI
          go_wp2_with fail
          exact ⟨⟨j + 1, L2, by omega, by go_num, hS, hP3, hH2, hO, hG⟩, by simp [intOf]; omega⟩
    · have hjl : j = nl := by omega
      have hX2 : X (upto f nk ss j) = X (fun p q => bcB f nk ss q p) := C.out.ext _ _ fun p q hp hq => by
        unfold upto; rw [decide_eq_true (by omega), Bool.true_and]
      rw [hX2] at hO
      clear hX2 hS hP hH
      go_wp2_with fail
      go_end0
      exact ⟨rfl, hG.out, hO.out⟩
set_option maxHeartbeats 4000000 in
theorem build_byRows {X : (Nat → Nat → Bool) → List Int} {len nl nk : Nat} (C : Cnv 65 121 X len nl nk) (a a' : Option Addr) (c1 c2 : Nat) (ss zs : List Int) (B k0 cap : Nat) (w : World) (h : Row w a nl ss) (h' : Row w a' nk zs)
    (ho : OwnI w B (some ⟨k0, 0, none⟩) len cap (X fun _ _ => false)) (hfar : ∀ q off, a = some ⟨q, off, none⟩ → 0 < nl → q ≠ k0) (hk : nk ≤ 6) (hl : nl ≤ 6) (hs : ∀ j, j < nl → 0 ≤ ss.getD j 0 ∧ ss.getD j 0 ≤ nk) (hb : ∀ i, i < nk → 0 ≤ zs.getD i 0 ∧ zs.getD i 0 ≤ 6) :
    Calls Tryd.prog 45 #[.slice a nl c1, .slice a' nk c2, .iface 65 (.slice (some ⟨k0, 0, none⟩) len cap)] w fun e w' => e = .returned (.tuple #[]) ∧ w.grownBy w' (some k0) ∧ OwnI w' B (some ⟨k0, 0, none⟩) len cap (X fun p q => bcB (fun i => zs.getD i 0) nk ss q p) := by
  have hk0 := own_lt ho
  have cL := Lib.hid (lines_of a' nk c2 zs w h' (by omega))
  obtain ⟨f, hf⟩ : ∃ f : Nat → Int, (fun i => zs.getD i 0) = f := ⟨_, rfl⟩
  have hfb : Hid (∀ i, i < nk → 0 ≤ f i ∧ f i ≤ 6) := fun i hi => by rw [← hf]; exact hb i hi
  rw [hf] at cL ⊢
  have ho := Lib.hid ho
  have h := Lib.hid h
  have hfar := Lib.hid hfar
  have hs := Lib.hid hs
  have C := Lib.hid C
  clear hb hf h'
  go_enter Tryd.func45, Tryd.ntmps45
  go_wp2_with fail
  refine cL.out.mono ?_
  rintro e w1 ⟨b, g, L, rfl, hb1, hb2, hg1, hg2, hS, hP, hH, hB⟩
  have ho1 := Lib.hid (ho.out.bel hB)
  have hG1 := Lib.hid (below_grown hB (some k0))
  have hkb : k0 ≠ b := by omega
  have hkg : k0 ≠ g := by omega
  have hX0 : X (fun _ _ => false) = X (upto f nk ss 0) := C.out.ext _ _ fun p q _ _ => by unfold upto; simp
  rw [hX0] at ho1
  replace hS := Lib.hid hS
  replace hP := Lib.hid hP
  replace hH := Lib.hid hH
  clear ho hB cL hb2 hg2 hX0
  go_wp2_with fail
  go_loopw [15] (fun i wr => ∃ (j : Nat) (L : PL), j ≤ nl ∧ i = .int .i64 j ∧ Hid (HS wr b g nk L) ∧ Hid (L.Perm (lns (leftI f nk ss j) nk)) ∧ Hid (HP L nk 0) ∧ Hid (OwnI wr B (some ⟨k0, 0, none⟩) len cap (X (upto f nk ss j))) ∧ Hid (w.grownBy wr (some k0))) (fun i _ => nl - (intOf i).toNat)
  case atStart => exact ⟨0, L, Nat.zero_le _, rfl, hS, hP, hH, ho1, hG1⟩
  case round =>
    clear hS hP hH ho1 hG1
    obtain ⟨j, L, hj, rfl, hS, hP, hH, hO, hG⟩ := hrel
    by_cases hlt : j < nl
    · have hR := h.out.apart hG.out (fun q off e hn => by have := hfar.out q off e hn; simpa using this)
      obtain ⟨qb, qo, rfl, hc⟩ := row_at hR hlt
      have hsj := hs.out j hlt
      obtain ⟨c, hcc⟩ := Int.eq_ofNat_of_zero_le hsj.1
      rw [hcc] at hc hsj
      have cT := Lib.hid (take_lib (c := c) hS.out hP.out hH.out (by omega) hk (Nat.le_refl _) (fun i hi => by have := hfb.out i hi; have := left_bd (f := f) (n := nk) (j := j) (ys := ss) i; omega))
      replace hcc := Lib.hid hcc
      clear hS hP hH hR
      go_wp2_with fail
      refine cT.out.mono ?_
      rintro e w2 ⟨q, I, L2, rfl, hI, lI, hIn, hIch, hS2, hP2, hH2, hC2⟩
      have hwz := hG.out.size
      have hqw : wr.heap.size ≤ q ∧ q < w2.heap.size := World.ownsRow.lt hI q rfl
      have hO2 := Lib.hid (hC2.own hO.out (fun p e => by cases e; exact ⟨hkb, hkg⟩))
      have hG2 := Lib.hid (grown_ch hG.out hC2 (by omega) (by omega))
      have hqk : q ≠ k0 := by have := hqw.1; omega
      rw [← hcc.out] at hIch
      have hIch' : Hid (∀ k, k < nk → (k ∈ I ↔ chB (leftI f nk ss j) nk (ss.getD j 0) k = true)) := hIch
      rw [← hcc.out] at hP2
      have hP3 : Hid (L2.Perm (lns (leftI f nk ss (j + 1)) nk)) := hP2
      have hO3 : Hid (OwnI w2 B (some ⟨k0, 0, none⟩) len cap (X (upto2 f nk ss j (I.take 0)))) := by
        show OwnI w2 B (some ⟨k0, 0, none⟩) len cap (X (upto2 f nk ss j []))
        rw [upto2_nil]; exact hO2.out
      replace hI := Lib.hid hI
      replace lI := Lib.hid lI
      replace hIn := Lib.hid hIn
      replace hS2 := Lib.hid hS2
      replace hH2 := Lib.hid hH2
      obtain ⟨BI, hBI⟩ : ∃ BI, wr.heap.size = BI := ⟨_, rfl⟩
      rw [hBI] at hI
      clear cT hC2 hO hG hc hqw hO2 hIch hP2 hwz hBI
      go_wp2_with fail
      go_loopw [24] (fun i wq => ∃ r : Nat, r ≤ c ∧ i = .int .i64 r ∧ Hid (HS wq b g nk L2) ∧ Hid (OwnI wq BI (some ⟨q, 0, none⟩) c c (ix I c)) ∧ Hid (OwnI wq B (some ⟨k0, 0, none⟩) len cap (X (upto2 f nk ss j (I.take r)))) ∧ Hid (w.grownBy wq (some k0))) (fun i _ => c - (intOf i).toNat)
      case atStart => exact ⟨0, Nat.zero_le _, rfl, hS2, hI, hO3, hG2⟩
      case round =>
        clear hS2 hI hO3 hG2
        obtain ⟨r, hr, rfl, hS, hI, hO, hG⟩ := hrel
        by_cases hlr : r < c
        · have d0 := own_cell hI.out (i := r) (by omega)
          rw [ix_get hlr] at d0
          have lI' := lI.out
          have hmem : I.getD r 0 ∈ I := by
            rw [List.getD_eq_getElem?_getD, List.getElem?_eq_getElem (by omega)]; exact List.getElem_mem _
          have hin := hIn.out _ hmem
          have hnx := upto2_next (f := f) (n := nk) (ys := ss) (j := j) (r := r) (I := I) (by omega)
          have cS := C.out.set B k0 cap (upto2 f nk ss j (I.take r)) j (I.getD r 0) wr hlt hin hO.out
          rw [hnx] at cS
          replace cS := Lib.hid cS
          have sm := C.out.me (some ⟨k0, 0, none⟩) len cap
          have sn := C.out.na (some ⟨k0, 0, none⟩) len cap
          generalize I.getD r 0 = i at *
          clear lI' hmem hnx
          go_wp2_with fail
          refine cS.out.mono ?_
          rintro e w5 ⟨rfl, hg5, hO5⟩
          have hS5 := Lib.hid (hS.out.stored_far hg5 hkb hkg)
          have hI5 : Hid (OwnI w5 BI (some ⟨q, 0, none⟩) c c (ix I c)) := World.ownsRow.kept hI.out hg5 (.inr (by simpa [Value.ownBlock] using hqk))
          have hG5 := Lib.hid (grown_trans hG.out hg5)
          replace hO5 := Lib.hid hO5
          clear cS hg5 hS hI hO hG d0 sm sn
          go_wp2_with fail
          exact ⟨⟨r + 1, by omega, by go_num, hS5, hI5, hO5, hG5⟩, by simp [intOf]; omega⟩
        · have hrc : r = c := by omega
          have hX2 : X (upto2 f nk ss j (I.take r)) = X (upto f nk ss (j + 1)) := C.out.ext _ _ fun p q' hp hq => by
            rw [List.take_of_length_le (by have := lI.out; omega)]; exact upto2_full hIch'.out hq
          rw [hX2] at hO
          clear hX2 hI
          go_wp2_with fail
          exact ⟨⟨j + 1, L2, by omega, by go_num, hS, hP3, hH2, hO, hG⟩, by simp [intOf]; omega⟩
    · have hjl : j = nl := by omega
      have hX2 : X (upto f nk ss j) = X (fun p q => bcB f nk ss q p) := C.out.ext _ _ fun p q hp hq => by
        unfold upto; rw [decide_eq_true (by omega), Bool.true_and]
      rw [hX2] at hO
      clear hX2 hS hP hH
      go_wp2_with fail
      go_end0
      exact ⟨rfl, hG.out, hO.out⟩
end Go.Proofs.YtocbnpkdncnbgaaDoor

