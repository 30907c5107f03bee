/-
  Maps whose keys are six small numbers: how they read, range, look-up and store, at the operations.
-/
import Derived.Test.YtnfkafaolelkbaaA
import Derived.Maps.RangeWalk
import Derived.Maps.OwnOps
import Derived.DeepKeys4
import Derived.WideKeyEntry
namespace Go.Proofs.Ytnfkafaolelkbaa
set_option maxRecDepth 100000
open Go.RowKit Go.Maps

/-- A key that is six numbers. -/
def keyL (kv : List Int) : Lit := .string (keyBytes (kv.map (Lit.int .i64)))
def aggV (kv : List Int) : Value := .agg (kv.map (Value.int .i64)).toArray
def Gd6 (i : Nat) (kv : List Int) : Prop := kv.length = 6 ∧ ∀ j, j < 6 → 0 ≤ kv.getD j 0 ∧ kv.getD j 0 ≤ (i : Int)
theorem Gd6.mono {i i' : Nat} {kv : List Int} (h : Gd6 i kv) (hi : i ≤ i') : Gd6 i' kv := ⟨h.1, fun j hj => ⟨(h.2 j hj).1, by have := (h.2 j hj).2; omega⟩⟩
theorem Gd6.wf {kv : List Int} (h : Gd6 7 kv) : ∀ x, x ∈ kv → (Lit.int .i64 x).wf = true := fun x hx => by
  obtain ⟨j, hj, rfl⟩ := List.getElem_of_mem hx
  have := h.2 j (by have := h.1; omega)
  rw [show kv.getD j 0 = kv[j] by simp [hj]] at this
  exact WalkArith.wf_i64 (by omega)
theorem keyOf_six {P : Program} {k e : TypeId} {n : Nat} (hk : P.underlying k = some (.array 6 e)) (he : P.underlying e = some (.int .i64)) (hkt : P.keyType k = true) (hc : P.cellsOf k = 6) (hce : P.cellsOf e = 1) (hn : P.types.size = n + 1) {kv : List Int} (h6 : kv.length = 6) (hw : ∀ x, x ∈ kv → (Lit.int .i64 x).wf = true) :
    keyOf P k (aggV kv) = some (keyL kv) := by
  match kv, h6 with
  | [a0, a1, a2, a3, a4, a5], _ =>
    have w0 := hw a0 (by simp)
    have w1 := hw a1 (by simp)
    have w2 := hw a2 (by simp)
    have w3 := hw a3 (by simp)
    have w4 := hw a4 (by simp)
    have w5 := hw a5 (by simp)
    have hf : (aggV [a0, a1, a2, a3, a4, a5]).formed P k = true := by simp [aggV, Value.formed, hk, hc]
    have h1 : ∀ x : Int, (Lit.int .i64 x).wf = true → P.keyLits (n + 1) e [Value.int .i64 x] = some [Lit.int .i64 x] := fun x hx => by
      unfold Program.keyLits; rw [he]; simp [hx]
    have h2 : P.keyLits (n + 2) k [Value.int .i64 a0, .int .i64 a1, .int .i64 a2, .int .i64 a3, .int .i64 a4, .int .i64 a5] = some [Lit.int .i64 a0, .int .i64 a1, .int .i64 a2, .int .i64 a3, .int .i64 a4, .int .i64 a5] := by
      unfold Program.keyLits
      rw [hk]
      simp [hc, hce, List.range, List.range.loop, h1, w0, w1, w2, w3, w4, w5]
    unfold keyOf
    rw [hk]
    simp only
    rw [hkt, hf, hn]
    simp only [aggV, Value.cells, List.map, Bool.and_self, if_true]
    rw [h2]
    rfl
theorem aggV_inj {kv kv' : List Int} (h : aggV kv = aggV kv') : kv = kv' := by
  unfold aggV at h
  injection h with h
  have h2 := congrArg Array.toList h
  simp only at h2
  exact (List.map_inj_right (fun a b e => by injection e)).1 h2
structure SixKey (P : Program) (k : TypeId) : Prop where
  K : Keyed P k
  six : ∀ kv, Gd6 7 kv → keyOf P k (aggV kv) = some (keyL kv)
section
variable {P : Program} {k e : TypeId} {D : DataW Unit} {i : Nat} {N : List Int → Int} {kv : List Int}
theorem SixKey.inj (S : SixKey P k) {kv kv' : List Int} (h : Gd6 7 kv) (h' : Gd6 7 kv') (e : keyL kv = keyL kv') : kv = kv' :=
  aggV_inj (S.K.inj (S.six kv h) (by rw [e]; exact S.six kv' h'))
theorem SixKey.lit (S : SixKey P k) {kv : List Int} (h : Gd6 7 kv) : WideAt.IsKeyLit (keyL kv) := S.K.key (S.six kv h)
theorem SixKey.same (S : SixKey P k) {kv kv' : List Int} (h : Gd6 7 kv) (h' : Gd6 7 kv') : (keyL kv).sameKey (keyL kv') = decide (kv = kv') := by
  by_cases e : kv = kv'
  · subst e; rw [WideAt.sameKey_self (S.lit h)]; simp
  · rw [Maps.sameKey_ne fun e2 => e (S.inj h h' e2)]; simp [e]
/-- A map that reads as numbers at keys of six small numbers. -/
structure MapN (D : DataW Unit) (i : Nat) (N : List Int → Int) : Prop where
  ism : Maps.IsMap D
  keys : ∀ kl, Maps.has D kl = true → ∃ kv, Gd6 i kv ∧ kl = keyL kv
  at_ : ∀ kv, Gd6 7 kv → D.atKey (keyL kv) (.lit (.int .i64 0)) = .lit (.int .i64 (N kv))
theorem MapN.made (i : Nat) : MapN (.map []) i fun _ => 0 := ⟨Maps.isMap_empty, fun kl h => (by cases h), fun kv _ => rfl⟩
theorem MapN.ext {N' : List Int → Int} (h : MapN D i N) (e : ∀ kv, Gd6 7 kv → N' kv = N kv) : MapN D i N' := ⟨h.ism, h.keys, fun kv hk => by rw [e kv hk]; exact h.at_ kv hk⟩
theorem MapN.put (S : SixKey P k) (h : MapN D i N) (hk : Gd6 i kv) (hi : i ≤ 7) (c : Int) : MapN (D.put (keyL kv) (.lit (.int .i64 c))) i fun x => if x = kv then c else N x :=
by
  refine ⟨h.ism.put _ _, fun kl hh => ?_, fun x hx => ?_⟩
  · by_cases e : kl = keyL kv
    · exact ⟨kv, hk, e⟩
    · rw [Maps.has_put_other e] at hh; exact h.keys kl hh
  · by_cases e : x = kv
    · subst e; rw [if_pos rfl, Maps.atKey_put_same h.ism (S.lit hx)]
    · rw [if_neg e, Maps.atKey_put_other fun e2 => e (S.inj hx (hk.mono hi) e2)]; exact h.at_ x hx
/-- The keys, listed. -/
structure KeysL (D : DataW Unit) (i : Nat) (N : List Int → Int) (ks : List (List Int)) : Prop where
  nd : ks.Nodup
  good : ∀ kv, kv ∈ ks → Gd6 i kv
  all : ∀ kv, Gd6 7 kv → kv ∉ ks → N kv = 0
  has : ∀ kl, Maps.has D kl = true → ∃ kv, kv ∈ ks ∧ kl = keyL kv
  yes : ∀ kv, kv ∈ ks → Maps.has D (keyL kv) = true
  size : ks.length = Maps.size D
theorem keys_of {es : List (Lit × DataW Unit)} : (∀ p, p ∈ es → ∃ kv, Gd6 i kv ∧ p.1 = keyL kv) → ∃ ks : List (List Int), ks.map keyL = es.map (·.1) ∧ ∀ kv, kv ∈ ks → Gd6 i kv := by
  induction es with
  | nil => exact fun _ => ⟨[], rfl, fun _ h => by cases h⟩
  | cons p es ih =>
    intro h
    obtain ⟨ks, h1, h2⟩ := ih fun q hq => h q (List.mem_cons_of_mem _ hq)
    obtain ⟨kv, g, e⟩ := h p (List.mem_cons_self ..)
    exact ⟨kv :: ks, by rw [List.map_cons, List.map_cons, h1, e], fun x hx => by
      rcases List.mem_cons.1 hx with rfl | hx
      · exact g
      · exact h2 x hx⟩
theorem MapN.list (S : SixKey P k) (h : MapN D i N) (hi : i ≤ 7) {es : List (Lit × DataW Unit)} (hD : D = .map es) (hp : es.Pairwise fun p q => p.1 ≠ q.1) (hl : ∀ p, p ∈ es → WideAt.IsKeyLit p.1) : ∃ ks, KeysL D i N ks := by
  subst hD
  have hm : ∀ p, p ∈ es → Maps.has (DataW.map es) p.1 = true := fun p hp => List.any_eq_true.2 ⟨p, hp, WideAt.sameKey_self (hl p hp)⟩
  obtain ⟨ks, e, g⟩ := keys_of fun p hp => h.keys p.1 (hm p hp)
  have mem : ∀ kv, kv ∈ ks → ∃ p, p ∈ es ∧ p.1 = keyL kv := fun kv hk => by
    have : keyL kv ∈ es.map (·.1) := by rw [← e]; exact List.mem_map_of_mem hk
    obtain ⟨p, h1, h2⟩ := List.mem_map.1 this
    exact ⟨p, h1, h2⟩
  have hasK : ∀ kl, Maps.has (DataW.map es) kl = true → ∃ kv, kv ∈ ks ∧ kl = keyL kv := fun kl hh => by
    obtain ⟨p, h1, h2⟩ := List.any_eq_true.1 hh
    have : p.1 ∈ ks.map keyL := by rw [e]; exact List.mem_map_of_mem h1
    obtain ⟨kv, h3, h4⟩ := List.mem_map.1 this
    exact ⟨kv, h3, by rw [h4]; exact (WideAt.sameKey_eq h2).symm⟩
  refine ⟨ks, ?_, g, fun kv hg hn => ?_, hasK, fun kv hk => ?_, ?_⟩
  · have : (ks.map keyL).Pairwise (· ≠ ·) := by rw [e]; exact List.pairwise_map.2 hp
    exact (List.pairwise_map.1 this).imp fun h e => h (by rw [e])
  · have h0 : Maps.has (DataW.map es) (keyL kv) = false := by
      cases hh : Maps.has (DataW.map es) (keyL kv)
      · rfl
      · obtain ⟨kv', h1, h2⟩ := hasK _ hh
        exact absurd (S.inj hg ((g kv' h1).mono hi) h2 ▸ h1) hn
    have h1 := h.at_ kv hg
    rw [Maps.atKey_of_not_has h0] at h1
    injection h1 with h1
    injection h1 with _ h1
    exact h1.symm
  · obtain ⟨p, h1, h2⟩ := mem kv hk
    rw [← h2]; exact hm p h1
  · have := congrArg List.length e
    simpa [Maps.size] using this

/-- A block that is such a map. -/
def MapAt (w : World) (P : Program) (k e : TypeId) (b n i : Nat) (N : List Int → Int) : Prop := ∃ D : DataW Unit, w.ownsMap P k (plainElem P e) b n D ∧ MapN D i N
variable {w w' : World} {b n r cnt : Nat} {ks : List (List Int)} {lf : List Int → Bool}
theorem MapAt.made (w : World) (P : Program) (k e : TypeId) (i : Nat) : MapAt (w.alloc (.map #[] 0)) P k e w.heap.size 0 i fun _ => 0 := ⟨_, World.ownsMap_made _ _ _ _, MapN.made i⟩
theorem MapAt.kept {row : Option Nat} (h : MapAt w P k e b n i N) (hg : w.grownBy w' row) (hne : some b ≠ row) : MapAt w' P k e b n i N := by
  obtain ⟨D, h1, h2⟩ := h; exact ⟨D, h1.kept hg hne, h2⟩
theorem MapAt.lt (h : MapAt w P k e b n i N) : b < w.heap.size := by obtain ⟨D, h1, _⟩ := h; exact h1.lt
theorem MapAt.ext {N' : List Int → Int} (h : MapAt w P k e b n i N) (e' : ∀ kv, Gd6 7 kv → N' kv = N kv) : MapAt w P k e b n i N' := by
  obtain ⟨D, h1, h2⟩ := h; exact ⟨D, h1, h2.ext e'⟩
theorem MapAt.mono {n' : Nat} (h : MapAt w P k e b n i N) (hn : n ≤ n') : MapAt w P k e b n' i N := by
  obtain ⟨D, h1, h2⟩ := h; exact ⟨D, h1.mono hn, h2⟩
/-- Such a map, ranged over. -/
def RangeAt (w : World) (P : Program) (k e : TypeId) (b r n i : Nat) (N : List Int → Int) (ks : List (List Int)) (lf : List Int → Bool) (cnt : Nat) : Prop :=
  ∃ (D : DataW Unit) (left : Lit → Bool), w.ranges P k (plainElem P e) b r n D left cnt ∧ MapN D i N ∧ KeysL D i N ks ∧ ∀ kv, kv ∈ ks → lf kv = left (keyL kv)
theorem RangeAt.kept {row : Option Nat} (h : RangeAt w P k e b r n i N ks lf cnt) (hg : w.grownBy w' row) (h1 : some b ≠ row) (h2 : some r ≠ row) : RangeAt w' P k e b r n i N ks lf cnt := by
  obtain ⟨D, left, a1, a2⟩ := h; exact ⟨D, left, a1.kept hg h1 h2, a2⟩
theorem RangeAt.left_eq (h : RangeAt w P k e b r n i N ks lf cnt) : w.rangeLeft b r = cnt := by obtain ⟨D, left, a1, _⟩ := h; exact a1.left_eq
theorem RangeAt.lt (h : RangeAt w P k e b r n i N ks lf cnt) : r < w.heap.size ∧ b < w.heap.size ∧ r ≠ b := by obtain ⟨D, left, a1, _⟩ := h; exact ⟨a1.lt, a1.owns.lt, a1.ne⟩
end
section
variable {P : Program} {k e : TypeId} {i : Nat} {N : List Int → Int} {b n r cnt : Nat} {ks : List (List Int)} {lf : List Int → Bool} {w : World} {ops : Array Oper} {rest : List Oper} {o : Oper} {a : Act} {Q : Exit → Act → World → Prop}
theorem wpList_range_at (S : SixKey P k) {t : TypeId} (ht : P.underlying t = some (.map k e)) (hg : o.guard = none) (m : Operand) (hop : o.op = Op.range t m) (hm : a.eval m = .map (some b)) (h : MapAt w P k e b n i N) (hi : i ≤ 7)
    (hK : ∀ w' ks, ks.Nodup → (∀ kv, kv ∈ ks → Gd6 i kv) → (∀ kv, Gd6 7 kv → kv ∉ ks → N kv = 0) → ks.length ≤ n → RangeAt w' P k e b w.heap.size n i N ks (fun _ => true) ks.length → w.grownBy w' none → w'.heap.size = w.heap.size + 1 → wpList P ops Q rest (a.put o.dst (.pointer (some ⟨w.heap.size, 0, none⟩))) w') :
    wpList P ops Q (o :: rest) a w := by
  obtain ⟨D, h1, h2⟩ := h
  refine wpList_range_own w hg m t hop k e S.K ht (plainElem P e) b n D hm h1 fun w' hr hg' hs => ?_
  obtain ⟨es, hD, hp, hl⟩ := h1.entries S.K
  obtain ⟨ks, hk⟩ := h2.list S hi hD hp hl
  have hsz : ks.length ≤ n := by
    obtain ⟨es2, clock, hb, F, hs2, hD2⟩ := h1
    rw [hk.size, hD2, Maps.size_eq, length_sorted]; simpa using hs2
  refine hK w' ks hk.nd hk.good hk.all hsz ⟨D, _, by rw [hk.size]; exact hr, h2, hk, fun kv hkv => (hk.yes kv hkv).symm⟩ hg' hs
theorem wpList_next_at (S : SixKey P k) (he : P.underlying e = some (.int .i64)) (hg : o.guard = none) (it : Operand) (hop : o.op = Op.next it false) (hit : a.eval it = .pointer (some ⟨r, 0, none⟩)) (h : RangeAt w P k e b r n i N ks lf cnt) (hi : i ≤ 7)
    (hDone : cnt = 0 → (∀ kv, kv ∈ ks → lf kv = false) → wpList P ops Q rest (a.put o.dst (.tuple #[.bool false])) w)
    (hMore : ∀ kv w' cnt', kv ∈ ks → lf kv = true → RangeAt w' P k e b r n i N ks (fun x => lf x && !decide (x = kv)) cnt' → cnt' < cnt → w.grownBy w' (some r) → w'.heap.size = w.heap.size →
      (Instr.entry (.pointer (some ⟨r, 0, none⟩))).run P w' = .ok (.tuple #[aggV kv, .int .i64 (N kv)]) w' → wpList P ops Q rest (a.put o.dst (.tuple #[.bool true, aggV kv, .int .i64 (N kv)])) w') :
    wpList P ops Q (o :: rest) a w := by
  obtain ⟨D, left, h1, h2, h3, h4⟩ := h
  refine wpList_next_ranges w hg it hop k S.K (plainElem P e) (fun v : Value => v) (fun v : Value => v) (fun key _ _ => ⟨key, rfl⟩) (fun v _ _ => ⟨v, rfl⟩) b r n D left cnt hit h1 (fun hc hl => hDone hc fun kv hk => by rw [h4 kv hk]; exact hl _) ?_
  intro key v kl y w' cnt' hkey hlk hv hat hrg hlt hgr hsz hen
  obtain ⟨kv, hk, rfl⟩ := h3.has kl (Maps.has_true_of_atKey hat)
  have hgd := (h3.good kv hk).mono hi
  obtain rfl : key = aggV kv := S.K.inj hkey (S.six kv hgd)
  obtain ⟨c, rfl, rfl, _⟩ := plainElem_int_inv he hv
  have h5 := h2.at_ kv hgd
  rw [hat] at h5
  injection h5 with h5
  injection h5 with _ h5
  subst h5
  refine hMore kv w' cnt' hk (by rw [h4 kv hk]; exact hlk) ⟨D, _, hrg, h2, h3, fun x hx => ?_⟩ hlt hgr hsz hen
  simp only
  rw [h4 x hx, S.same ((h3.good x hx).mono hi) hgd]
theorem wpList_lookup_at (S : SixKey P k) {t : TypeId} (ht : P.underlying t = some (.map k e)) (he : P.underlying e = some (.int .i64)) (hz : (zeroValue e).run P w = .ok (.int .i64 0) w) (hg : o.guard = none) (m x : Operand) (hop : o.op = Op.lookup t m x false)
    (hm : a.eval m = .map (some b)) (h : MapAt w P k e b n i N) (kv : List Int) (hx : a.eval x = aggV kv) (hk : Gd6 7 kv) (hK : wpList P ops Q rest (a.put o.dst (.int .i64 (N kv))) w) : wpList P ops Q (o :: rest) a w := by
  obtain ⟨D, h1, h2⟩ := h
  refine wpList_lookup_own_int w hg m x t hop k e .i64 S.K ht he hz b n D hm h1 _ _ hx (S.six kv hk) fun c hat _ => ?_
  have h5 := h2.at_ kv hk
  rw [hat] at h5
  injection h5 with h5
  injection h5 with _ h5
  subst h5
  exact hK
theorem wpList_update_at (S : SixKey P k) {t : TypeId} (ht : P.underlying t = some (.map k e)) (he : P.underlying e = some (.int .i64)) (hg : o.guard = none) (m x v : Operand) (hop : o.op = Op.mapUpdate t m x v)
    (hm : a.eval m = .map (some b)) (h : MapAt w P k e b n i N) (hn : n < maxLen) (hi : i ≤ 7) (kv : List Int) (c : Int) (hx : a.eval x = aggV kv) (hv : a.eval v = .int .i64 c) (hk : Gd6 i kv) (hc : (Lit.int .i64 c).wf = true)
    (hK : ∀ w', MapAt w' P k e b (n + 1) i (fun x => if x = kv then c else N x) → w.grownBy w' (some b) → wpList P ops Q rest (a.put o.dst undef) w') : wpList P ops Q (o :: rest) a w := by
  obtain ⟨D, h1, h2⟩ := h
  exact wpList_mapUpdate_own w hg m x v t hop k e S.K ht (plainElem P e) b n D hm h1 hn _ _ _ hx hv (S.six kv (hk.mono hi)) _ [] (plainElem_int he hc) fun w' o2 g2 => hK w' ⟨_, o2, h2.put S hk hi c⟩ g2
end
theorem setBlock_twice (w : World) (b : Nat) (o o' : Obj) : Go.ChangeMaps.setBlock (Go.ChangeMaps.setBlock w b o) b o' = Go.ChangeMaps.setBlock w b o' := by
  simp [Go.ChangeMaps.setBlock]
theorem modify_at {es : Array MapEntry} {j : Nat} {e0 : MapEntry} (h : es.toList[j]? = some e0) {f g : MapEntry → MapEntry} (hfg : f e0 = g e0) : es.modify j f = es.modify j g := by
  apply Array.ext'
  rw [Array.toList_modify, Array.toList_modify, Go.ChangeMaps.modify_eq_set _ _ _ _ h, Go.ChangeMaps.modify_eq_set _ _ _ _ h, hfg]
/-- 'm[k] += c': the entry made ahead of the look-up or behind it, then the store. -/
theorem MapAt.bump {P : Program} {k e t : TypeId} {b n i : Nat} {N : List Int → Int} {w : World} (S : SixKey P k) (KL : WideMaps.KeyLaw P k) (ht : P.underlying t = some (.map k e)) (he : P.underlying e = some (.int .i64)) (hz : ∀ u : World, (zeroValue e).run P u = .ok (.int .i64 0) u)
    (h : MapAt w P k e b n i N) (hn : n < maxLen) (hi : i ≤ 7) {kv : List Int} (hk : Gd6 i kv) (c : Int) (hc : (Lit.int .i64 c).wf = true) :
    ∃ (st : Int) (w2 w3 : World), (Instr.lookup t (.map (some b)) (aggV kv) false).run P w = .ok (.int .i64 (N kv)) w ∧ (Instr.mapEntry t (.map (some b)) (aggV kv)).run P w = .ok (.tuple #[.int .i64 (N kv), .int .i64 st]) w2 ∧
      (Instr.lookup t (.map (some b)) (aggV kv) false).run P w2 = .ok (.int .i64 (N kv)) w2 ∧ (Instr.entryStore t (.map (some b)) (.int .i64 st) (.int .i64 c)).run P w2 = .ok () w3 ∧
      MapAt w3 P k e b (n + 1) i (fun x => if x = kv then c else N x) ∧ w.grownBy w3 (some b) := by
  obtain ⟨D, ho, hN⟩ := h
  have hk7 := hk.mono hi
  have hkey := S.six kv hk7
  obtain ⟨c0, hlook, hat, hw0⟩ := ho.lookup_int S.K ht he (hz w) hkey
  have h5 := hN.at_ kv hk7
  rw [hat] at h5
  injection h5 with h5
  injection h5 with _ h5
  subst h5
  obtain ⟨w', hup, ho', hg'⟩ := ho.update S.K ht hn hkey (plainElem_int he hc)
  obtain ⟨w0', hup0, ho0', _⟩ := ho.update S.K ht hn hkey (plainElem_int he hw0)
  obtain ⟨es, clock, hb, F, hs, hD⟩ := ho
  obtain ⟨v0, st, es1, clock1, hent, _, hst⟩ := WideElems.entry_then_store KL ht hz hb F hkey
  have both : (Instr.mapUpdate t (.map (some b)) (aggV kv) (.int .i64 (N kv))).run P w = .ok () (Go.ChangeMaps.setBlock w b (.map es1 clock1)) ∧ v0 = .int .i64 (N kv) := by
    rcases S.K.find w hkey es.toList F.keys with ⟨h1, h2⟩ | ⟨j, e0, h1, h2, h3⟩
    · have e1 : (Instr.mapEntry t (.map (some b)) (aggV kv)).run P w = .ok (.tuple #[.int .i64 0, goInt clock]) (Go.ChangeMaps.setBlock w b (.map (es.push ⟨aggV kv, .int .i64 0, clock⟩) (clock + 1))) := by
        simp [Instr.mapEntry, run_underlying ht, MapKept.run_getObj_map hb, S.K.check w false hkey, h1, hz, MapKept.run_setObj_map _ hb, Result.andThen, Go.ChangeMaps.setBlock]
      have e2 : (Instr.lookup t (.map (some b)) (aggV kv) false).run P w = .ok (.int .i64 0) w := by
        simp [Instr.lookup, run_underlying ht, MapKept.run_getObj_map hb, S.K.check w _ hkey, h1, hz, Result.andThen]
      rw [hlook] at e2
      injection e2 with e2
      rw [hent] at e1
      injection e1 with e1 e3
      injection e1 with e1
      have e4 : v0 = .int .i64 0 := by
        have h9 := congrArg Array.toList e1
        injection h9
      refine ⟨?_, by rw [e4, e2]⟩
      rw [e3, e2]
      simp [Instr.mapUpdate, run_underlying ht, MapKept.run_getObj_map hb, S.K.check w false hkey, h1, MapKept.run_setObj_map _ hb, Result.andThen, Go.ChangeMaps.setBlock]
    · have hj : es[j]? = some e0 := by simpa using h2
      have e1 : (Instr.mapEntry t (.map (some b)) (aggV kv)).run P w = .ok (.tuple #[e0.val, goInt e0.born]) (Go.ChangeMaps.setBlock w b (.map (es.modify j fun e => { e with key := aggV kv }) clock)) := by
        simp [Instr.mapEntry, run_underlying ht, MapKept.run_getObj_map hb, S.K.check w false hkey, h1, hj, h3, S.K.stays w hkey, MapKept.run_setObj_map _ hb, Result.andThen, Go.ChangeMaps.setBlock]
      have e2 : (Instr.lookup t (.map (some b)) (aggV kv) false).run P w = .ok e0.val w := by
        simp [Instr.lookup, run_underlying ht, MapKept.run_getObj_map hb, S.K.check w _ hkey, h1, Result.andThen]
      rw [hlook] at e2
      injection e2 with e2
      rw [hent] at e1
      injection e1 with e1 e3
      injection e1 with e1
      have e4 : v0 = e0.val := by
        have h9 := congrArg Array.toList e1
        injection h9
      refine ⟨?_, by rw [e4, e2]⟩
      rw [e3, e2]
      have e5 : (es.modify j fun e => { e with key := aggV kv }) = es.modify j fun e' => { e' with key := aggV kv, val := e0.val } := modify_at h2 rfl
      rw [e5]
      simp [Instr.mapUpdate, run_underlying ht, MapKept.run_getObj_map hb, S.K.check w false hkey, h1, hj, h3, S.K.stays w hkey, MapKept.run_setObj_map _ hb, Result.andThen, Go.ChangeMaps.setBlock]
  obtain ⟨hup1, rfl⟩ := both
  rw [hup1] at hup0
  injection hup0 with _ hw2
  obtain ⟨c2, hlook2, hat2, _⟩ := ho0'.lookup_int S.K ht he (hz w0') hkey
  rw [Maps.atKey_put_same hN.ism (S.lit hk7)] at hat2
  injection hat2 with hat2
  injection hat2 with _ hat2
  subst hat2
  have hb1 : (Go.ChangeMaps.setBlock w b (.map es1 clock1)).heap[b]? = some (.map es1 clock1) := Go.ChangeMaps.heap_setBlock_same hb _
  obtain ⟨es', clock', hs1, hs2⟩ := hst _ (.int .i64 c) hb1
  rw [hup] at hs2
  injection hs2 with _ hs2
  rw [setBlock_twice, ← hs2] at hs1
  exact ⟨st, _, _, hlook, hent, by rw [hw2]; exact hlook2, hs1, ⟨_, ho', hN.put S hk hi c⟩, hg'⟩
section
variable {P : Program} {k e : TypeId} {i : Nat} {N : List Int → Int} {b n : Nat} {w : World} {ops : Array Oper} {rest : List Oper} {o : Oper} {a : Act} {Q : Exit → Act → World → Prop}
theorem wpList_insert_at (S : SixKey P k) {t : TypeId} (ht : P.underlying t = some (.map k e)) (he : P.underlying e = some (.int .i64)) (hg : o.guard = none) (m x v : Operand) (hop : o.op = Op.insert t m x v)
    (hm : a.eval m = .map (some b)) (h : MapAt w P k e b n i N) (hn : n < maxLen) (hi : i ≤ 7) (kv : List Int) (c : Int) (hx : a.eval x = aggV kv) (hv : a.eval v = .int .i64 c) (hk : Gd6 i kv) (hc : (Lit.int .i64 c).wf = true)
    (hK : ∀ w', MapAt w' P k e b (n + 1) i (fun x => if x = kv then c else N x) → w.grownBy w' (some b) → wpList P ops Q rest (a.put o.dst undef) w') : wpList P ops Q (o :: rest) a w := by
  obtain ⟨D, h1, h2⟩ := h
  refine wpList_plain hg fun K' hK' => ?_
  obtain ⟨w', hrun, r1, r2⟩ := h1.update S.K ht hn (S.six kv (hk.mono hi)) (plainElem_int he hc)
  unfold Oper.wp
  simp [execOp, hop, hm, hx, hv, hrun, Result.andThen]
  exact hK' _ _ (hK w' ⟨_, r1, h2.put S hk hi c⟩ r2)
end
end Go.Proofs.Ytnfkafaolelkbaa

