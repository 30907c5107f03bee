/-
  Plain facts: some image just if consistent, one just if unique; switches lead to other images.
-/
import Derived.Test.YtnfkafaolelkbaaGreatDoorJa
import Derived.Test.YtnfkafaolelkbaaGreatDoorNd
namespace Go.Proofs.YtnfkafaolelkbaaGreatDoor
set_option maxRecDepth 100000

/-- Some image just if the sums are consistent. -/
theorem cnt_con {rows cols : List Int} (hs : sumsB rows cols = true) : 0 < cntS rows cols ↔ conB rows cols = true := by
  unfold cntS
  rw [nOf_pos]
  constructor
  · rintro ⟨xs, hx, hp⟩
    have hI := im_fit hs hx
    obtain ⟨h1, h2⟩ := fitP_iff.1 hp
    have := hI.con
    rwa [h1, h2] at this
  · intro hc
    have := fit_im (build_im hs) (build_rs hc) (build_cs hs)
    exact ⟨_, this.1, this.2⟩
theorem cnt_two {rows cols : List Int} {xs : List Int} {W n : Nat} (hI : Im W n xs) (h1 : rsL xs W n = rows) (h2 : csL xs n W = cols) : 1 < cntS rows cols ↔ swL (cellOf xs) W n ≠ [] := by
  have hs : sumsB rows cols = true := by have := hI.sumsV; rwa [h1, h2] at this
  have e1 : rows.length = n := by rw [← h1, rs_len]
  have e2 : cols.length = W := by rw [← h2, cs_len]
  subst e1; subst e2
  unfold cntS
  rw [nOf_two]
  constructor
  · rintro ⟨a, b, ha, hb, hp, hq, hne⟩ hu
    have hall := (uniq_iff hI).1 hu
    obtain ⟨a1, a2⟩ := fitP_iff.1 hp
    obtain ⟨b1, b2⟩ := fitP_iff.1 hq
    have ea := hall a (im_fit hs ha) ⟨h1.trans a1.symm, h2.trans a2.symm⟩
    have eb := hall b (im_fit hs hb) ⟨h1.trans b1.symm, h2.trans b2.symm⟩
    exact hne (ea.trans eb.symm)
  · intro hne
    have hx := fit_im hI h1 h2
    rcases Classical.em (∀ ys, Im cols.length rows.length ys → SumE xs ys cols.length rows.length → ys = xs) with h | h
    · exact absurd ((uniq_iff hI).2 h) hne
    · obtain ⟨ys, hy⟩ := Classical.not_forall.1 h
      have hIy : Im cols.length rows.length ys := Classical.byContradiction fun hc => hy fun a => absurd a hc
      have hS : SumE xs ys cols.length rows.length := Classical.byContradiction fun hc => hy fun _ a => absurd a hc
      have hn : ys ≠ xs := fun e => hy fun _ _ => e
      have hy' := fit_im hIy (hS.1.symm.trans h1) (hS.2.symm.trans h2)
      exact ⟨xs, ys, hx.1, hy'.1, hx.2, hy'.2, fun e => hn e.symm⟩
/-- One image just if the sums are unique. -/
theorem cnt_one {rows cols : List Int} (hs : sumsB rows cols = true) : cntS rows cols = 1 ↔ uniqS rows cols = true := by
  constructor
  · intro h
    have hc := (cnt_con hs).1 (by omega)
    refine (uniqs_build hc).2 (Classical.byContradiction fun hn => ?_)
    have := (cnt_two (build_im hs) (build_rs hc) (build_cs hs)).2 hn
    omega
  · intro hu
    have hc := uniqs_con hu
    have h0 := (cnt_con hs).2 hc
    have h1 := (uniqs_build hc).1 hu
    have : ¬ 1 < cntS rows cols := fun h => (cnt_two (build_im hs) (build_rs hc) (build_cs hs)).1 h h1
    omega
/-- Several images just if there are switches: these lead to other images. -/
theorem fl_inj {xs : List Int} {W n : Nat} (hI : Im W n xs) {A B C D A' B' C' D' : Nat} (h1 : A < B) (h2 : B < n) (h3 : C < D) (h4 : D < W) (k1 : A' < B') (k2 : B' < n) (k3 : C' < D') (k4 : D' < W)
    (he : flL xs W n A B C D = flL xs W n A' B' C' D') : A = A' ∧ B = B' ∧ C = C' ∧ D = D' := by
  have key : ∀ i j, i < n → j < W → (((i = A ∨ i = B) ∧ (j = C ∨ j = D)) ↔ ((i = A' ∨ i = B') ∧ (j = C' ∨ j = D'))) := by
    intro i j hi hj
    have a := fl_cell hI (A := A) (B := B) (C := C) (D := D) hi hj
    have b := fl_cell hI (A := A') (B := B') (C := C') (D := D') hi hj
    rw [he, b] at a
    by_cases p : (i = A ∨ i = B) ∧ (j = C ∨ j = D) <;> by_cases q : (i = A' ∨ i = B') ∧ (j = C' ∨ j = D')
    · exact ⟨fun _ => q, fun _ => p⟩
    · rw [fl_corner p, fl_other q] at a; cases e : cellOf xs i j <;> rw [e] at a <;> cases a
    · rw [fl_other p, fl_corner q] at a; cases e : cellOf xs i j <;> rw [e] at a <;> cases a
    · exact ⟨fun h => absurd h p, fun h => absurd h q⟩
  have p1 := (key A C (by omega) (by omega)).1 ⟨.inl rfl, .inl rfl⟩
  have p2 := (key B D (by omega) (by omega)).1 ⟨.inr rfl, .inr rfl⟩
  have p3 := (key A' C' (by omega) (by omega)).2 ⟨.inl rfl, .inl rfl⟩
  have p4 := (key B' D' (by omega) (by omega)).2 ⟨.inr rfl, .inr rfl⟩
  omega
theorem fl_ne {xs : List Int} {W n : Nat} (hI : Im W n xs) {A B C D : Nat} (h2 : A < n) (h4 : C < W) : flL xs W n A B C D ≠ xs := by
  intro he
  have a := fl_cell hI (A := A) (B := B) (C := C) (D := D) h2 h4
  rw [he, fl_corner ⟨.inl rfl, .inl rfl⟩] at a
  cases e : cellOf xs A C <;> rw [e] at a <;> cases a

theorem swl_nodup (c : Nat → Nat → Bool) (W n : Nat) : (swL c W n).Nodup := by
  refine (swl_sorted c W n).imp ?_
  intro a b h e
  subst e
  unfold ltS at h
  omega
/-- At most as many switches as there are other images. -/
theorem cnt_switch {rows cols : List Int} {xs : List Int} {W n : Nat} (hI : Im W n xs) (h1 : rsL xs W n = rows) (h2 : csL xs n W = cols) : manyC (cellOf xs) W n < cntS rows cols := by
  have e1 : rows.length = n := by rw [← h1, rs_len]
  have e2 : cols.length = W := by rw [← h2, cs_len]
  subst e1; subst e2
  have hn : (xs :: (swL (cellOf xs) cols.length rows.length).map (flS xs cols.length rows.length)).Nodup := by
    refine List.nodup_cons.2 ⟨fun hm => ?_, nodup_inj (swl_nodup ..) fun s t hs ht e => ?_⟩
    · obtain ⟨s, hs, e⟩ := List.mem_map.1 hm
      obtain ⟨a, b, c, d, _⟩ := sw_at hs
      exact fl_ne hI (by omega) (by omega) e
    · obtain ⟨a, b, c, d, _⟩ := sw_at hs
      obtain ⟨a', b', c', d', _⟩ := sw_at ht
      obtain ⟨p, q, r, u⟩ := fl_inj hI a b c d a' b' c' d' e
      exact Prod.ext p (Prod.ext q (Prod.ext r u))
  have := nodup_sub (M := (imgs cols.length rows.length).filter (fitP rows cols cols.length rows.length)) hn fun y hy => by
    refine List.mem_filter.2 ?_
    rcases List.mem_cons.1 hy with e | hm
    · subst e; exact fit_im hI h1 h2
    · obtain ⟨s, hs, e⟩ := List.mem_map.1 hm
      subst e
      have hS := fls_sum hI hs
      exact fit_im (fl_im hI ..) (hS.1.trans h1) (hS.2.trans h2)
  unfold cntS
  rw [nOf_len]
  rw [List.length_cons, List.length_map] at this
  have e := swl_len (cellOf xs) cols.length rows.length
  omega

end Go.Proofs.YtnfkafaolelkbaaGreatDoor

