/-
  Maps whose keys are six small numbers: how they read, range, look-up and store, at the operations.
  Six numbers in an array: the contracts of withRow and columnSumsOf.
  The contracts of rowsWith and choicesOf: all rows of a width with a number of set cells; one such list for each row sum.
  The contract of countChosen: a map of counts, a row list at a time.
  The contract of the program's SumsCount.
-/
import Derived.Test.YtnfkafaolelkbaaA
import Derived.Maps.RangeWalk
import Derived.Maps.OwnOps
import Derived.DeepKeys4
import Derived.WideKeyEntry
import Derived.Test.YtnfkafaolelkbaaJa
import Derived.Laws.CopyOwn
import Derived.Test.YtnfkafaolelkbaaK
import Derived.Test.YtnfkafaolelkbaaMd
import Derived.Deep.RegionLaw
import Derived.Test.YtnfkafaolelkbaaEp

namespace Go.Proofs.Ytnfkafaolelkbaa
set_option maxRecDepth 100000
open Go.RowKit Go.Maps

/-- A key that is six numbers. -/
def keyL (kv : List Int) : Lit := .string (keyBytes (kv.map (Lit.int .i64)))
def aggV (kv : List Int) : Value := .agg (kv.map (Value.int .i64)).toArray
def Gd6 (i : Nat) (kv : List Int) : Prop := kv.length = 6 ∧ ∀ j, j < 6 → 0 ≤ kv.getD j 0 ∧ kv.getD j 0 ≤ (i : Int)
theorem Gd6.mono {i i' : Nat} {kv : List Int} (h : Gd6 i kv) (hi : i ≤ i') : Gd6 i' kv := ⟨h.1, fun j hj => ⟨(h.2 j hj).1, by have := (h.2 j hj).2; omega⟩⟩
theorem Gd6.wf {kv : List Int} (h : Gd6 7 kv) : ∀ x, x ∈ kv → (Lit.int .i64 x).wf = true := fun x hx => by
  obtain ⟨j, hj, rfl⟩ := List.getElem_of_mem hx
  have := h.2 j (by have := h.1; omega)
  rw [show kv.getD j 0 = kv[j] by simp [hj]] at this
  exact WalkArith.wf_i64 (by omega)
theorem keyOf_six {P : Program} {k e : TypeId} {n : Nat} (hk : P.underlying k = some (.array 6 e)) (he : P.underlying e = some (.int .i64)) (hkt : P.keyType k = true) (hc : P.cellsOf k = 6) (hce : P.cellsOf e = 1) (hn : P.types.size = n + 1) {kv : List Int} (h6 : kv.length = 6) (hw : ∀ x, x ∈ kv → (Lit.int .i64 x).wf = true) :
    keyOf P k (aggV kv) = some (keyL kv) := by
  match kv, h6 with
  | [a0, a1, a2, a3, a4, a5], _ =>
    have w0 := hw a0 (by simp)
    have w1 := hw a1 (by simp)
    have w2 := hw a2 (by simp)
    have w3 := hw a3 (by simp)
    have w4 := hw a4 (by simp)
    have w5 := hw a5 (by simp)
    have hf : (aggV [a0, a1, a2, a3, a4, a5]).formed P k = true := by simp [aggV, Value.formed, hk, hc]
    have h1 : ∀ x : Int, (Lit.int .i64 x).wf = true → P.keyLits (n + 1) e [Value.int .i64 x] = some [Lit.int .i64 x] := fun x hx => by
      unfold Program.keyLits; rw [he]; simp [hx]
    have h2 : P.keyLits (n + 2) k [Value.int .i64 a0, .int .i64 a1, .int .i64 a2, .int .i64 a3, .int .i64 a4, .int .i64 a5] = some [Lit.int .i64 a0, .int .i64 a1, .int .i64 a2, .int .i64 a3, .int .i64 a4, .int .i64 a5] := by
      unfold Program.keyLits
      rw [hk]
      simp [hc, hce, List.range, List.range.loop, h1, w0, w1, w2, w3, w4, w5]
    unfold keyOf
    rw [hk]
    simp only
    rw [hkt, hf, hn]
    simp only [aggV, Value.cells, List.map, Bool.and_self, if_true]
    rw [h2]
    rfl
theorem aggV_inj {kv kv' : List Int} (h : aggV kv = aggV kv') : kv = kv' := by
  unfold aggV at h
  injection h with h
  have h2 := congrArg Array.toList h
  simp only at h2
  exact (List.map_inj_right (fun a b e => by injection e)).1 h2
structure SixKey (P : Program) (k : TypeId) : Prop where
  K : Keyed P k
  six : ∀ kv, Gd6 7 kv → keyOf P k (aggV kv) = some (keyL kv)
section
variable {P : Program} {k e : TypeId} {D : DataW Unit} {i : Nat} {N : List Int → Int} {kv : List Int}
theorem SixKey.inj (S : SixKey P k) {kv kv' : List Int} (h : Gd6 7 kv) (h' : Gd6 7 kv') (e : keyL kv = keyL kv') : kv = kv' :=
  aggV_inj (S.K.inj (S.six kv h) (by rw [e]; exact S.six kv' h'))
theorem SixKey.lit (S : SixKey P k) {kv : List Int} (h : Gd6 7 kv) : WideAt.IsKeyLit (keyL kv) := S.K.key (S.six kv h)
theorem SixKey.same (S : SixKey P k) {kv kv' : List Int} (h : Gd6 7 kv) (h' : Gd6 7 kv') : (keyL kv).sameKey (keyL kv') = decide (kv = kv') := by
  by_cases e : kv = kv'
  · subst e; rw [WideAt.sameKey_self (S.lit h)]; simp
  · rw [Maps.sameKey_ne fun e2 => e (S.inj h h' e2)]; simp [e]
/-- A map that reads as numbers at keys of six small numbers. -/
structure MapN (D : DataW Unit) (i : Nat) (N : List Int → Int) : Prop where
  ism : Maps.IsMap D
  keys : ∀ kl, Maps.has D kl = true → ∃ kv, Gd6 i kv ∧ kl = keyL kv
  at_ : ∀ kv, Gd6 7 kv → D.atKey (keyL kv) (.lit (.int .i64 0)) = .lit (.int .i64 (N kv))
theorem MapN.made (i : Nat) : MapN (.map []) i fun _ => 0 := ⟨Maps.isMap_empty, fun kl h => (by cases h), fun kv _ => rfl⟩
theorem MapN.ext {N' : List Int → Int} (h : MapN D i N) (e : ∀ kv, Gd6 7 kv → N' kv = N kv) : MapN D i N' := ⟨h.ism, h.keys, fun kv hk => by rw [e kv hk]; exact h.at_ kv hk⟩
theorem MapN.put (S : SixKey P k) (h : MapN D i N) (hk : Gd6 i kv) (hi : i ≤ 7) (c : Int) : MapN (D.put (keyL kv) (.lit (.int .i64 c))) i fun x => if x = kv then c else N x :=
by
  refine ⟨h.ism.put _ _, fun kl hh => ?_, fun x hx => ?_⟩
  · by_cases e : kl = keyL kv
    · exact ⟨kv, hk, e⟩
    · rw [Maps.has_put_other e] at hh; exact h.keys kl hh
  · by_cases e : x = kv
    · subst e; rw [if_pos rfl, Maps.atKey_put_same h.ism (S.lit hx)]
    · rw [if_neg e, Maps.atKey_put_other fun e2 => e (S.inj hx (hk.mono hi) e2)]; exact h.at_ x hx
/-- The keys, listed. -/
structure KeysL (D : DataW Unit) (i : Nat) (N : List Int → Int) (ks : List (List Int)) : Prop where
  nd : ks.Nodup
  good : ∀ kv, kv ∈ ks → Gd6 i kv
  all : ∀ kv, Gd6 7 kv → kv ∉ ks → N kv = 0
  has : ∀ kl, Maps.has D kl = true → ∃ kv, kv ∈ ks ∧ kl = keyL kv
  yes : ∀ kv, kv ∈ ks → Maps.has D (keyL kv) = true
  size : ks.length = Maps.size D
theorem keys_of {es : List (Lit × DataW Unit)} : (∀ p, p ∈ es → ∃ kv, Gd6 i kv ∧ p.1 = keyL kv) → ∃ ks : List (List Int), ks.map keyL = es.map (·.1) ∧ ∀ kv, kv ∈ ks → Gd6 i kv := by
  induction es with
  | nil => exact fun _ => ⟨[], rfl, fun _ h => by cases h⟩
  | cons p es ih =>
    intro h
    obtain ⟨ks, h1, h2⟩ := ih fun q hq => h q (List.mem_cons_of_mem _ hq)
    obtain ⟨kv, g, e⟩ := h p (List.mem_cons_self ..)
    exact ⟨kv :: ks, by rw [List.map_cons, List.map_cons, h1, e], fun x hx => by
      rcases List.mem_cons.1 hx with rfl | hx
      · exact g
      · exact h2 x hx⟩
theorem MapN.list (S : SixKey P k) (h : MapN D i N) (hi : i ≤ 7) {es : List (Lit × DataW Unit)} (hD : D = .map es) (hp : es.Pairwise fun p q => p.1 ≠ q.1) (hl : ∀ p, p ∈ es → WideAt.IsKeyLit p.1) : ∃ ks, KeysL D i N ks := by
  subst hD
  have hm : ∀ p, p ∈ es → Maps.has (DataW.map es) p.1 = true := fun p hp => List.any_eq_true.2 ⟨p, hp, WideAt.sameKey_self (hl p hp)⟩
  obtain ⟨ks, e, g⟩ := keys_of fun p hp => h.keys p.1 (hm p hp)
  have mem : ∀ kv, kv ∈ ks → ∃ p, p ∈ es ∧ p.1 = keyL kv := fun kv hk => by
    have : keyL kv ∈ es.map (·.1) := by rw [← e]; exact List.mem_map_of_mem hk
    obtain ⟨p, h1, h2⟩ := List.mem_map.1 this
    exact ⟨p, h1, h2⟩
  have hasK : ∀ kl, Maps.has (DataW.map es) kl = true → ∃ kv, kv ∈ ks ∧ kl = keyL kv := fun kl hh => by
    obtain ⟨p, h1, h2⟩ := List.any_eq_true.1 hh
    have : p.1 ∈ ks.map keyL := by rw [e]; exact List.mem_map_of_mem h1
    obtain ⟨kv, h3, h4⟩ := List.mem_map.1 this
    exact ⟨kv, h3, by rw [h4]; exact (WideAt.sameKey_eq h2).symm⟩
  refine ⟨ks, ?_, g, fun kv hg hn => ?_, hasK, fun kv hk => ?_, ?_⟩
  · have : (ks.map keyL).Pairwise (· ≠ ·) := by rw [e]; exact List.pairwise_map.2 hp
    exact (List.pairwise_map.1 this).imp fun h e => h (by rw [e])
  · have h0 : Maps.has (DataW.map es) (keyL kv) = false := by
      cases hh : Maps.has (DataW.map es) (keyL kv)
      · rfl
      · obtain ⟨kv', h1, h2⟩ := hasK _ hh
        exact absurd (S.inj hg ((g kv' h1).mono hi) h2 ▸ h1) hn
    have h1 := h.at_ kv hg
    rw [Maps.atKey_of_not_has h0] at h1
    injection h1 with h1
    injection h1 with _ h1
    exact h1.symm
  · obtain ⟨p, h1, h2⟩ := mem kv hk
    rw [← h2]; exact hm p h1
  · have := congrArg List.length e
    simpa [Maps.size] using this

/-- A block that is such a map. -/
def MapAt (w : World) (P : Program) (k e : TypeId) (b n i : Nat) (N : List Int → Int) : Prop := ∃ D : DataW Unit, w.ownsMap P k (plainElem P e) b n D ∧ MapN D i N
variable {w w' : World} {b n r cnt : Nat} {ks : List (List Int)} {lf : List Int → Bool}
theorem MapAt.made (w : World) (P : Program) (k e : TypeId) (i : Nat) : MapAt (w.alloc (.map #[] 0)) P k e w.heap.size 0 i fun _ => 0 := ⟨_, World.ownsMap_made _ _ _ _, MapN.made i⟩
theorem MapAt.kept {row : Option Nat} (h : MapAt w P k e b n i N) (hg : w.grownBy w' row) (hne : some b ≠ row) : MapAt w' P k e b n i N := by
  obtain ⟨D, h1, h2⟩ := h; exact ⟨D, h1.kept hg hne, h2⟩
theorem MapAt.lt (h : MapAt w P k e b n i N) : b < w.heap.size := by obtain ⟨D, h1, _⟩ := h; exact h1.lt
theorem MapAt.ext {N' : List Int → Int} (h : MapAt w P k e b n i N) (e' : ∀ kv, Gd6 7 kv → N' kv = N kv) : MapAt w P k e b n i N' := by
  obtain ⟨D, h1, h2⟩ := h; exact ⟨D, h1, h2.ext e'⟩
theorem MapAt.mono {n' : Nat} (h : MapAt w P k e b n i N) (hn : n ≤ n') : MapAt w P k e b n' i N := by
  obtain ⟨D, h1, h2⟩ := h; exact ⟨D, h1.mono hn, h2⟩
/-- Such a map, ranged over. -/
def RangeAt (w : World) (P : Program) (k e : TypeId) (b r n i : Nat) (N : List Int → Int) (ks : List (List Int)) (lf : List Int → Bool) (cnt : Nat) : Prop :=
  ∃ (D : DataW Unit) (left : Lit → Bool), w.ranges P k (plainElem P e) b r n D left cnt ∧ MapN D i N ∧ KeysL D i N ks ∧ ∀ kv, kv ∈ ks → lf kv = left (keyL kv)
theorem RangeAt.kept {row : Option Nat} (h : RangeAt w P k e b r n i N ks lf cnt) (hg : w.grownBy w' row) (h1 : some b ≠ row) (h2 : some r ≠ row) : RangeAt w' P k e b r n i N ks lf cnt := by
  obtain ⟨D, left, a1, a2⟩ := h; exact ⟨D, left, a1.kept hg h1 h2, a2⟩
theorem RangeAt.left_eq (h : RangeAt w P k e b r n i N ks lf cnt) : w.rangeLeft b r = cnt := by obtain ⟨D, left, a1, _⟩ := h; exact a1.left_eq
theorem RangeAt.lt (h : RangeAt w P k e b r n i N ks lf cnt) : r < w.heap.size ∧ b < w.heap.size ∧ r ≠ b := by obtain ⟨D, left, a1, _⟩ := h; exact ⟨a1.lt, a1.owns.lt, a1.ne⟩
end
section
variable {P : Program} {k e : TypeId} {i : Nat} {N : List Int → Int} {b n r cnt : Nat} {ks : List (List Int)} {lf : List Int → Bool} {w : World} {ops : Array Oper} {rest : List Oper} {o : Oper} {a : Act} {Q : Exit → Act → World → Prop}
theorem wpList_range_at (S : SixKey P k) {t : TypeId} (ht : P.underlying t = some (.map k e)) (hg : o.guard = none) (m : Operand) (hop : o.op = Op.range t m) (hm : a.eval m = .map (some b)) (h : MapAt w P k e b n i N) (hi : i ≤ 7)
    (hK : ∀ w' ks, ks.Nodup → (∀ kv, kv ∈ ks → Gd6 i kv) → (∀ kv, Gd6 7 kv → kv ∉ ks → N kv = 0) → ks.length ≤ n → RangeAt w' P k e b w.heap.size n i N ks (fun _ => true) ks.length → w.grownBy w' none → w'.heap.size = w.heap.size + 1 → wpList P ops Q rest (a.put o.dst (.pointer (some ⟨w.heap.size, 0, none⟩))) w') :
    wpList P ops Q (o :: rest) a w := by
  obtain ⟨D, h1, h2⟩ := h
  refine wpList_range_own w hg m t hop k e S.K ht (plainElem P e) b n D hm h1 fun w' hr hg' hs => ?_
  obtain ⟨es, hD, hp, hl⟩ := h1.entries S.K
  obtain ⟨ks, hk⟩ := h2.list S hi hD hp hl
  have hsz : ks.length ≤ n := by
    obtain ⟨es2, clock, hb, F, hs2, hD2⟩ := h1
    rw [hk.size, hD2, Maps.size_eq, length_sorted]; simpa using hs2
  refine hK w' ks hk.nd hk.good hk.all hsz ⟨D, _, by rw [hk.size]; exact hr, h2, hk, fun kv hkv => (hk.yes kv hkv).symm⟩ hg' hs
theorem wpList_next_at (S : SixKey P k) (he : P.underlying e = some (.int .i64)) (hg : o.guard = none) (it : Operand) (hop : o.op = Op.next it false) (hit : a.eval it = .pointer (some ⟨r, 0, none⟩)) (h : RangeAt w P k e b r n i N ks lf cnt) (hi : i ≤ 7)
    (hDone : cnt = 0 → (∀ kv, kv ∈ ks → lf kv = false) → wpList P ops Q rest (a.put o.dst (.tuple #[.bool false])) w)
    (hMore : ∀ kv w' cnt', kv ∈ ks → lf kv = true → RangeAt w' P k e b r n i N ks (fun x => lf x && !decide (x = kv)) cnt' → cnt' < cnt → w.grownBy w' (some r) → w'.heap.size = w.heap.size →
      (Instr.entry (.pointer (some ⟨r, 0, none⟩))).run P w' = .ok (.tuple #[aggV kv, .int .i64 (N kv)]) w' → wpList P ops Q rest (a.put o.dst (.tuple #[.bool true, aggV kv, .int .i64 (N kv)])) w') :
    wpList P ops Q (o :: rest) a w := by
  obtain ⟨D, left, h1, h2, h3, h4⟩ := h
  refine wpList_next_ranges w hg it hop k S.K (plainElem P e) (fun v : Value => v) (fun v : Value => v) (fun key _ _ => ⟨key, rfl⟩) (fun v _ _ => ⟨v, rfl⟩) b r n D left cnt hit h1 (fun hc hl => hDone hc fun kv hk => by rw [h4 kv hk]; exact hl _) ?_
  intro key v kl y w' cnt' hkey hlk hv hat hrg hlt hgr hsz hen
  obtain ⟨kv, hk, rfl⟩ := h3.has kl (Maps.has_true_of_atKey hat)
  have hgd := (h3.good kv hk).mono hi
  obtain rfl : key = aggV kv := S.K.inj hkey (S.six kv hgd)
  obtain ⟨c, rfl, rfl, _⟩ := plainElem_int_inv he hv
  have h5 := h2.at_ kv hgd
  rw [hat] at h5
  injection h5 with h5
  injection h5 with _ h5
  subst h5
  refine hMore kv w' cnt' hk (by rw [h4 kv hk]; exact hlk) ⟨D, _, hrg, h2, h3, fun x hx => ?_⟩ hlt hgr hsz hen
  simp only
  rw [h4 x hx, S.same ((h3.good x hx).mono hi) hgd]
theorem wpList_lookup_at (S : SixKey P k) {t : TypeId} (ht : P.underlying t = some (.map k e)) (he : P.underlying e = some (.int .i64)) (hz : (zeroValue e).run P w = .ok (.int .i64 0) w) (hg : o.guard = none) (m x : Operand) (hop : o.op = Op.lookup t m x false)
    (hm : a.eval m = .map (some b)) (h : MapAt w P k e b n i N) (kv : List Int) (hx : a.eval x = aggV kv) (hk : Gd6 7 kv) (hK : wpList P ops Q rest (a.put o.dst (.int .i64 (N kv))) w) : wpList P ops Q (o :: rest) a w := by
  obtain ⟨D, h1, h2⟩ := h
  refine wpList_lookup_own_int w hg m x t hop k e .i64 S.K ht he hz b n D hm h1 _ _ hx (S.six kv hk) fun c hat _ => ?_
  have h5 := h2.at_ kv hk
  rw [hat] at h5
  injection h5 with h5
  injection h5 with _ h5
  subst h5
  exact hK
theorem wpList_update_at (S : SixKey P k) {t : TypeId} (ht : P.underlying t = some (.map k e)) (he : P.underlying e = some (.int .i64)) (hg : o.guard = none) (m x v : Operand) (hop : o.op = Op.mapUpdate t m x v)
    (hm : a.eval m = .map (some b)) (h : MapAt w P k e b n i N) (hn : n < maxLen) (hi : i ≤ 7) (kv : List Int) (c : Int) (hx : a.eval x = aggV kv) (hv : a.eval v = .int .i64 c) (hk : Gd6 i kv) (hc : (Lit.int .i64 c).wf = true)
    (hK : ∀ w', MapAt w' P k e b (n + 1) i (fun x => if x = kv then c else N x) → w.grownBy w' (some b) → wpList P ops Q rest (a.put o.dst undef) w') : wpList P ops Q (o :: rest) a w := by
  obtain ⟨D, h1, h2⟩ := h
  exact wpList_mapUpdate_own w hg m x v t hop k e S.K ht (plainElem P e) b n D hm h1 hn _ _ _ hx hv (S.six kv (hk.mono hi)) _ [] (plainElem_int he hc) fun w' o2 g2 => hK w' ⟨_, o2, h2.put S hk hi c⟩ g2
end
theorem setBlock_twice (w : World) (b : Nat) (o o' : Obj) : Go.ChangeMaps.setBlock (Go.ChangeMaps.setBlock w b o) b o' = Go.ChangeMaps.setBlock w b o' := by
  simp [Go.ChangeMaps.setBlock]
theorem modify_at {es : Array MapEntry} {j : Nat} {e0 : MapEntry} (h : es.toList[j]? = some e0) {f g : MapEntry → MapEntry} (hfg : f e0 = g e0) : es.modify j f = es.modify j g := by
  apply Array.ext'
  rw [Array.toList_modify, Array.toList_modify, Go.ChangeMaps.modify_eq_set _ _ _ _ h, Go.ChangeMaps.modify_eq_set _ _ _ _ h, hfg]
/-- 'm[k] += c': the entry made ahead of the look-up or behind it, then the store. -/
theorem MapAt.bump {P : Program} {k e t : TypeId} {b n i : Nat} {N : List Int → Int} {w : World} (S : SixKey P k) (KL : WideMaps.KeyLaw P k) (ht : P.underlying t = some (.map k e)) (he : P.underlying e = some (.int .i64)) (hz : ∀ u : World, (zeroValue e).run P u = .ok (.int .i64 0) u)
    (h : MapAt w P k e b n i N) (hn : n < maxLen) (hi : i ≤ 7) {kv : List Int} (hk : Gd6 i kv) (c : Int) (hc : (Lit.int .i64 c).wf = true) :
    ∃ (st : Int) (w2 w3 : World), (Instr.lookup t (.map (some b)) (aggV kv) false).run P w = .ok (.int .i64 (N kv)) w ∧ (Instr.mapEntry t (.map (some b)) (aggV kv)).run P w = .ok (.tuple #[.int .i64 (N kv), .int .i64 st]) w2 ∧
      (Instr.lookup t (.map (some b)) (aggV kv) false).run P w2 = .ok (.int .i64 (N kv)) w2 ∧ (Instr.entryStore t (.map (some b)) (.int .i64 st) (.int .i64 c)).run P w2 = .ok () w3 ∧
      MapAt w3 P k e b (n + 1) i (fun x => if x = kv then c else N x) ∧ w.grownBy w3 (some b) := by
  obtain ⟨D, ho, hN⟩ := h
  have hk7 := hk.mono hi
  have hkey := S.six kv hk7
  obtain ⟨c0, hlook, hat, hw0⟩ := ho.lookup_int S.K ht he (hz w) hkey
  have h5 := hN.at_ kv hk7
  rw [hat] at h5
  injection h5 with h5
  injection h5 with _ h5
  subst h5
  obtain ⟨w', hup, ho', hg'⟩ := ho.update S.K ht hn hkey (plainElem_int he hc)
  obtain ⟨w0', hup0, ho0', _⟩ := ho.update S.K ht hn hkey (plainElem_int he hw0)
  obtain ⟨es, clock, hb, F, hs, hD⟩ := ho
  obtain ⟨v0, st, es1, clock1, hent, _, hst⟩ := WideElems.entry_then_store KL ht hz hb F hkey
  have both : (Instr.mapUpdate t (.map (some b)) (aggV kv) (.int .i64 (N kv))).run P w = .ok () (Go.ChangeMaps.setBlock w b (.map es1 clock1)) ∧ v0 = .int .i64 (N kv) := by
    rcases S.K.find w hkey es.toList F.keys with ⟨h1, h2⟩ | ⟨j, e0, h1, h2, h3⟩
    · have e1 : (Instr.mapEntry t (.map (some b)) (aggV kv)).run P w = .ok (.tuple #[.int .i64 0, goInt clock]) (Go.ChangeMaps.setBlock w b (.map (es.push ⟨aggV kv, .int .i64 0, clock⟩) (clock + 1))) := by
        simp [Instr.mapEntry, run_underlying ht, MapKept.run_getObj_map hb, S.K.check w false hkey, h1, hz, MapKept.run_setObj_map _ hb, Result.andThen, Go.ChangeMaps.setBlock]
      have e2 : (Instr.lookup t (.map (some b)) (aggV kv) false).run P w = .ok (.int .i64 0) w := by
        simp [Instr.lookup, run_underlying ht, MapKept.run_getObj_map hb, S.K.check w _ hkey, h1, hz, Result.andThen]
      rw [hlook] at e2
      injection e2 with e2
      rw [hent] at e1
      injection e1 with e1 e3
      injection e1 with e1
      have e4 : v0 = .int .i64 0 := by
        have h9 := congrArg Array.toList e1
        injection h9
      refine ⟨?_, by rw [e4, e2]⟩
      rw [e3, e2]
      simp [Instr.mapUpdate, run_underlying ht, MapKept.run_getObj_map hb, S.K.check w false hkey, h1, MapKept.run_setObj_map _ hb, Result.andThen, Go.ChangeMaps.setBlock]
    · have hj : es[j]? = some e0 := by simpa using h2
      have e1 : (Instr.mapEntry t (.map (some b)) (aggV kv)).run P w = .ok (.tuple #[e0.val, goInt e0.born]) (Go.ChangeMaps.setBlock w b (.map (es.modify j fun e => { e with key := aggV kv }) clock)) := by
        simp [Instr.mapEntry, run_underlying ht, MapKept.run_getObj_map hb, S.K.check w false hkey, h1, hj, h3, S.K.stays w hkey, MapKept.run_setObj_map _ hb, Result.andThen, Go.ChangeMaps.setBlock]
      have e2 : (Instr.lookup t (.map (some b)) (aggV kv) false).run P w = .ok e0.val w := by
        simp [Instr.lookup, run_underlying ht, MapKept.run_getObj_map hb, S.K.check w _ hkey, h1, Result.andThen]
      rw [hlook] at e2
      injection e2 with e2
      rw [hent] at e1
      injection e1 with e1 e3
      injection e1 with e1
      have e4 : v0 = e0.val := by
        have h9 := congrArg Array.toList e1
        injection h9
      refine ⟨?_, by rw [e4, e2]⟩
      rw [e3, e2]
      have e5 : (es.modify j fun e => { e with key := aggV kv }) = es.modify j fun e' => { e' with key := aggV kv, val := e0.val } := modify_at h2 rfl
      rw [e5]
      simp [Instr.mapUpdate, run_underlying ht, MapKept.run_getObj_map hb, S.K.check w false hkey, h1, hj, h3, S.K.stays w hkey, MapKept.run_setObj_map _ hb, Result.andThen, Go.ChangeMaps.setBlock]
  obtain ⟨hup1, rfl⟩ := both
  rw [hup1] at hup0
  injection hup0 with _ hw2
  obtain ⟨c2, hlook2, hat2, _⟩ := ho0'.lookup_int S.K ht he (hz w0') hkey
  rw [Maps.atKey_put_same hN.ism (S.lit hk7)] at hat2
  injection hat2 with hat2
  injection hat2 with _ hat2
  subst hat2
  have hb1 : (Go.ChangeMaps.setBlock w b (.map es1 clock1)).heap[b]? = some (.map es1 clock1) := Go.ChangeMaps.heap_setBlock_same hb _
  obtain ⟨es', clock', hs1, hs2⟩ := hst _ (.int .i64 c) hb1
  rw [hup] at hs2
  injection hs2 with _ hs2
  rw [setBlock_twice, ← hs2] at hs1
  exact ⟨st, _, _, hlook, hent, by rw [hw2]; exact hlook2, hs1, ⟨_, ho', hN.put S hk hi c⟩, hg'⟩
section
variable {P : Program} {k e : TypeId} {i : Nat} {N : List Int → Int} {b n : Nat} {w : World} {ops : Array Oper} {rest : List Oper} {o : Oper} {a : Act} {Q : Exit → Act → World → Prop}
theorem wpList_insert_at (S : SixKey P k) {t : TypeId} (ht : P.underlying t = some (.map k e)) (he : P.underlying e = some (.int .i64)) (hg : o.guard = none) (m x v : Operand) (hop : o.op = Op.insert t m x v)
    (hm : a.eval m = .map (some b)) (h : MapAt w P k e b n i N) (hn : n < maxLen) (hi : i ≤ 7) (kv : List Int) (c : Int) (hx : a.eval x = aggV kv) (hv : a.eval v = .int .i64 c) (hk : Gd6 i kv) (hc : (Lit.int .i64 c).wf = true)
    (hK : ∀ w', MapAt w' P k e b (n + 1) i (fun x => if x = kv then c else N x) → w.grownBy w' (some b) → wpList P ops Q rest (a.put o.dst undef) w') : wpList P ops Q (o :: rest) a w := by
  obtain ⟨D, h1, h2⟩ := h
  refine wpList_plain hg fun K' hK' => ?_
  obtain ⟨w', hrun, r1, r2⟩ := h1.update S.K ht hn (S.six kv (hk.mono hi)) (plainElem_int he hc)
  unfold Oper.wp
  simp [execOp, hop, hm, hx, hv, hrun, Result.andThen]
  exact hK' _ _ (hK w' ⟨_, r1, h2.put S hk hi c⟩ r2)
end
end Go.Proofs.Ytnfkafaolelkbaa

namespace Go.Proofs.Ytnfkafaolelkbaa
set_option maxRecDepth 100000
open Go.RowKit

/-- An array of six numbers in a block. -/
structure Arr (w : World) (b : Nat) (L : List Int) : Prop where
  len : L.length = 6
  c : ∀ i, i < 6 → w.cell? ⟨b, i, none⟩ = some (.int .i64 (L.getD i 0))
  fz : ∀ o, w.frozen? ⟨b, o, none⟩ = false
theorem Arr.lt {w : World} {b : Nat} {L : List Int} (h : Arr w b L) : b < w.heap.size := block_lt (h.c 0 (by omega))
theorem Arr.bel {w w' : World} {b : Nat} {L : List Int} (h : Arr w b L) (hb : Below w.heap.size w w') : Arr w' b L :=
  ⟨h.len, fun i hi => kept hb (block_lt (h.c i hi)) (h.c i hi), fun o => (hb.frozen (p := ⟨b, o, none⟩) h.lt).trans (h.fz o)⟩
theorem Arr.bel' {w w' : World} {b B : Nat} {L : List Int} (h : Arr w b L) (hb : Below B w w') (hB : b < B) : Arr w' b L :=
  ⟨h.len, fun i hi => kept hb hB (h.c i hi), fun o => (hb.frozen (p := ⟨b, o, none⟩) hB).trans (h.fz o)⟩
theorem Arr.grown {w w' : World} {b : Nat} {row : Option Nat} {L : List Int} (h : Arr w b L) (hg : w.grownBy w' row) (hne : some b ≠ row) : Arr w' b L :=
  ⟨h.len, fun i hi => hg.cell (h.c i hi) hne, fun o => (World.frozen?_of_block (hg.block b h.lt hne)).trans (h.fz o)⟩
theorem Arr.set {w : World} {b : Nat} {L : List Int} (h : Arr w b L) {j : Nat} (hj : j < 6) (v : Int) : Arr (w.setCell ⟨b, j, none⟩ (.int .i64 v)) b (L.set j v) := by
  refine ⟨by simpa using h.len, fun i hi => ?_, fun o => by rw [World.frozen?_setCell]; exact h.fz o⟩
  have hl := h.len
  by_cases e : i = j
  · subst e
    rw [World.cell?_setCell_same _ _ _ (h.c i hi)]
    simp [hl, hi]
  · rw [World.cell?_setCell_other _ _ _ _ (by intro e2; exact e (by injection e2 with _ e3; exact e3.symm)), h.c i hi]
    simp [List.getD_eq_getElem?_getD, List.getElem?_set_ne (fun e2 : j = i => e e2.symm)]
theorem agg_six {L : List Int} (h : L.length = 6) : aggV L = .agg #[.int .i64 (L.getD 0 0), .int .i64 (L.getD 1 0), .int .i64 (L.getD 2 0), .int .i64 (L.getD 3 0), .int .i64 (L.getD 4 0), .int .i64 (L.getD 5 0)] := by
  match L, h with
  | [a0, a1, a2, a3, a4, a5], _ => rfl
/-- The first cells have one more at each bit. -/
def addK (k : List Int) (m : Int) (j : Nat) : List Int := rowsL (fun q => k.getD q 0 + if q < j then bitI m q else 0) 6
theorem addk_zero {k : List Int} (m : Int) (h : k.length = 6) : addK k m 0 = k :=
  six_ext (rows_len ..) h fun j hj => by rw [show (addK k m 0).getD j 0 = _ from rows_get _ hj]; simp
theorem addk_all (k : List Int) (m : Int) : addK k m 6 = addV k m := rows_ext fun i hi => by rw [if_pos hi]
theorem addk_get (k : List Int) (m : Int) (j : Nat) (hj : j < 6) : (addK k m j).getD j 0 = k.getD j 0 := by
  rw [show (addK k m j).getD j 0 = _ from rows_get _ hj]; simp
theorem addk_set (k : List Int) (m : Int) {j : Nat} (hj : j < 6) : (addK k m j).set j (k.getD j 0 + bitI m j) = addK k m (j + 1) := by
  have hl : (addK k m j).length = 6 := rows_len ..
  refine six_ext (by rw [List.length_set]; exact hl) (rows_len ..) fun i hi => ?_
  rw [show (addK k m (j + 1)).getD i 0 = _ from rows_get _ hi]
  by_cases e : i = j
  · subst e; simp [hl, hi]
  · have h1 : ((addK k m j).set j (k.getD j 0 + bitI m j)).getD i 0 = (addK k m j).getD i 0 := by
      simp [List.getD_eq_getElem?_getD, List.getElem?_set_ne (fun e2 : j = i => e e2.symm)]
    rw [h1, show (addK k m j).getD i 0 = _ from rows_get _ hi]
    by_cases e2 : i < j
    · rw [if_pos e2, if_pos (by omega)]
    · rw [if_neg e2, if_neg (by omega)]

set_option maxHeartbeats 1600000 in
theorem withRow_any (a0 a1 a2 a3 a4 a5 m : Int) (w : World) (hm0 : 0 ≤ m) (hm : m ≤ 63) (hk : ∀ j, j < 6 → 0 ≤ [a0, a1, a2, a3, a4, a5].getD j 0 ∧ [a0, a1, a2, a3, a4, a5].getD j 0 ≤ 100) :
    Calls Try.prog 89 #[.agg #[.int .i64 a0, .int .i64 a1, .int .i64 a2, .int .i64 a3, .int .i64 a4, .int .i64 a5], .int .i64 m] w fun e w' => e = .returned (aggV (addV [a0, a1, a2, a3, a4, a5] m)) ∧ Below w.heap.size w w' := by
  obtain ⟨k, hkk⟩ : ∃ k, [a0, a1, a2, a3, a4, a5] = k := ⟨_, rfl⟩
  obtain ⟨W0, hW0⟩ : ∃ W0, W0 = (w.alloc (.cells #[.int .i64 a0, .int .i64 a1, .int .i64 a2, .int .i64 a3, .int .i64 a4, .int .i64 a5] 88)).alloc (.cells #[.int .i64 0, .int .i64 0, .int .i64 0, .int .i64 0, .int .i64 0, .int .i64 0] 88) := ⟨_, rfl⟩
  have bb : Hid (Below w.heap.size w W0) := by subst hW0; exact ((Below.refl _ _).alloc (Nat.le_refl _) _).alloc (by simp) _
  have hl : k.length = 6 := by rw [← hkk]; rfl
  have A : Hid (Arr W0 w.heap.size (addK k m 0)) := by
    rw [addk_zero m hl]
    subst hW0; subst hkk
    refine ⟨rfl, fun i hi => ?_, fun o => by go_simp⟩
    match i, hi with
    | 0, _ => go_simp
    | 1, _ => go_simp
    | 2, _ => go_simp
    | 3, _ => go_simp
    | 4, _ => go_simp
    | 5, _ => go_simp
  have Z : Hid (Arr W0 (w.heap.size + 1) zerV) := by
    subst hW0
    refine ⟨zer_len, fun i hi => ?_, fun o => by go_simp⟩
    match i, hi with
    | 0, _ => go_simp; rfl
    | 1, _ => go_simp; rfl
    | 2, _ => go_simp; rfl
    | 3, _ => go_simp; rfl
    | 4, _ => go_simp; rfl
    | 5, _ => go_simp; rfl
  rw [hkk] at hk ⊢
  have hset := Lib.hid (fun j (hj : j < 6) => addk_set k m hj)
  have hget := Lib.hid (fun j (hj : j < 6) => addk_get k m j hj)
  have hsb := Lib.hid (fun j => shr_bit (j := j) hm0 hm)
  have hb1 := Lib.hid (fun j => bit_01 m j)
  replace hk := Lib.hid hk
  clear hkk hl
  go_enter Try.func89, Try.ntmps89
  go_upto_region 1 with fail
  rw [← hW0]
  clear hW0
  go_wp2_with fail
  go_loopw [6] (fun i wr => ∃ j : Nat, j ≤ 6 ∧ i = .int .i64 j ∧ Hid (Arr wr w.heap.size (addK k m j)) ∧ Hid (Arr wr (w.heap.size + 1) zerV) ∧ Hid (Below w.heap.size w wr)) (fun i _ => 6 - (intOf i).toNat)
  case atStart => exact ⟨0, by omega, rfl, A, Z, bb⟩
  case round =>
    clear A Z bb
    obtain ⟨j, hj, rfl, A, Z, bb⟩ := hrel
    obtain ⟨wo, rfl⟩ : ∃ wo : World, wo = wr := ⟨_, rfl⟩
    by_cases hlt : j < 6
    · have hs := hset.out j hlt
      obtain ⟨W2, hW2⟩ : ∃ W2, wo.drew = W2 := ⟨_, rfl⟩
      have hb2 : Below wo.heap.size wo W2 := by rw [← hW2]; exact (Below.refl _ _).drew
      have A2 := A.out.bel hb2
      have hc := A2.c j hlt
      have hf := A2.fz
      rw [hget.out j hlt] at hc
      have hkj := hk.out j hlt
      have hb := hb1.out j
      have hsh := hsb.out j
      obtain ⟨v, hv⟩ : ∃ v, k.getD j 0 = v := ⟨_, rfl⟩
      obtain ⟨u, hu⟩ : ∃ u, bitI m j = u := ⟨_, rfl⟩
      rw [hv] at hc hkj hs
      rw [hu] at hb hsh hs
      have hA := A2.set hlt (v + u)
      rw [hs] at hA
      have hZ := (Z.out.bel hb2).grown (grown_set (g := w.heap.size) (j := j) (v := .int .i64 (v + u)) (World.grownBy.refl _ _)) (by simp)
      have hB := (bb.out.trans (hb2.mono bb.out.size)).setCell (show w.heap.size ≤ (⟨w.heap.size, j, none⟩ : Addr).block from Nat.le_refl _) (.int .i64 (v + u))
      replace hA := Lib.hid hA
      replace hZ := Lib.hid hZ
      replace hB := Lib.hid hB
      clear A2 hb2 A Z bb
      replace hs := Lib.hid hs
      replace hv := Lib.hid hv
      replace hu := Lib.hid hu
      have hw1 : IntKind.i64.wrap (v + u) = v + u := IntWalk.i64_in _ ⟨by omega, by omega⟩
      go_wp2_with fail
      refine region_tail 9 (by kernel_rfl) (by kernel_rfl) W2 hW2 ?_
      simp only [List.take_succ_cons, List.take_zero, List.drop_succ_cons, List.drop_zero]
      clear hW2
      repeat still_step
      refine wpStill_nil ?_
      go_wp2_with fail
      exact ⟨⟨j + 1, by omega, by go_num, hA, hZ, hB⟩, by simp [intOf]; omega⟩
    · obtain rfl : j = 6 := by omega
      rw [addk_all] at A
      have ha := agg_six A.out.len
      have c0 := A.out.c 0 (by omega)
      have c1 := A.out.c 1 (by omega)
      have c2 := A.out.c 2 (by omega)
      have c3 := A.out.c 3 (by omega)
      have c4 := A.out.c 4 (by omega)
      have c5 := A.out.c 5 (by omega)
      have z0 := Z.out.c 0 (by omega)
      have z1 := Z.out.c 1 (by omega)
      have z2 := Z.out.c 2 (by omega)
      have z3 := Z.out.c 3 (by omega)
      have z4 := Z.out.c 4 (by omega)
      have z5 := Z.out.c 5 (by omega)
      have zf := Z.out.fz
      replace ha := Lib.hid ha
      go_wp2_with fail
      refine bodyPost_ret (v := .agg #[.int .i64 ((addV k m).getD 0 0), .int .i64 ((addV k m).getD 1 0), .int .i64 ((addV k m).getD 2 0), .int .i64 ((addV k m).getD 3 0), .int .i64 ((addV k m).getD 4 0), .int .i64 ((addV k m).getD 5 0)]) (by simp [results, Try.results89, go_sem, z0, z1, z2, z3, z4, z5]) rfl ?_
      exact ⟨by rw [ha.out], (((((bb.out.setCell (by simp) _).setCell (by simp) _).setCell (by simp) _).setCell (by simp) _).setCell (by simp) _).setCell (by simp) _⟩
theorem Arr.block {w : World} {g : Nat} {t : TypeId} {L : List Int} (h : w.heap[g]? = some (.cells (L.map (Value.int .i64)).toArray t (0, 0))) (hl : L.length = 6) : Arr w g L :=
  ⟨hl, fun i hi => by simp [World.cell?, h, hl, hi], fun o => by simp [World.frozen?, h]⟩
theorem pad_list {cols : List Int} {m : Nat} (hl : cols.length = m) (h6 : m ≤ 6) : splice ((List.replicate 6 (0 : Int)).map (Value.int .i64)) 0 (cols.map (Value.int .i64)) = (padL cols).map (Value.int .i64) := by
  have e : (List.replicate 6 (0 : Int)).take 0 ++ cols ++ (List.replicate 6 (0 : Int)).drop (0 + cols.length) = padL cols := by
    refine six_ext (by simp; omega) (pad_len _) fun j hj => ?_
    rw [pad_get _ hj]
    by_cases h : j < cols.length
    · simp [List.getD_eq_getElem?_getD, List.getElem?_append_left h]
    · simp only [List.take_zero, List.nil_append, List.getD_eq_getElem?_getD]
      rw [List.getElem?_append_right (by omega), List.getElem?_eq_none (by omega : cols.length ≤ j)]
      have h2 : cols.length + (j - cols.length) = j := by omega
      simp only [Nat.zero_add, List.getElem?_drop, h2, List.getElem?_replicate]
      rw [if_pos hj]; rfl
  rw [← e]
  simp [splice]

set_option maxHeartbeats 1600000 in
theorem colSums_any (b : Option Addr) (m cb : Nat) (cols : List Int) (w : World) (h : Row w b m cols) (h1 : 1 ≤ m) (h6 : m ≤ 6) :
    Calls Try.prog 90 #[.slice b m cb] w fun e w' => e = .returned (aggV (padL cols)) ∧ Below w.heap.size w w' := by
  have hl := h.1
  obtain ⟨W0, hW0⟩ : ∃ W0, W0 = (w.alloc (.cells #[.int .i64 0, .int .i64 0, .int .i64 0, .int .i64 0, .int .i64 0, .int .i64 0] 88)).alloc (.cells #[.int .i64 0, .int .i64 0, .int .i64 0, .int .i64 0, .int .i64 0, .int .i64 0] 88) := ⟨_, rfl⟩
  have bb : Hid (Below w.heap.size w W0) := by subst hW0; exact ((Below.refl _ _).alloc (Nat.le_refl _) _).alloc (by simp) _
  have hg : Hid (W0.heap[w.heap.size + 1]? = some (.cells ((List.replicate 6 (0 : Int)).map (Value.int .i64)).toArray 88 (0, 0))) := by
    subst hW0
    have := (MapKept.heap_alloc (w.alloc (.cells #[.int .i64 0, .int .i64 0, .int .i64 0, .int .i64 0, .int .i64 0, .int .i64 0] 88)) (.cells #[.int .i64 0, .int .i64 0, .int .i64 0, .int .i64 0, .int .i64 0, .int .i64 0] 88)).1
    exact Lib.hid (by simpa using this)
  have Z : Arr W0 w.heap.size zerV := by
    subst hW0
    refine ⟨zer_len, fun i hi => ?_, fun o => by go_simp⟩
    match i, hi with
    | 0, _ => go_simp; rfl
    | 1, _ => go_simp; rfl
    | 2, _ => go_simp; rfl
    | 3, _ => go_simp; rfl
    | 4, _ => go_simp; rfl
    | 5, _ => go_simp; rfl
  replace Z := Lib.hid Z
  have hR := Lib.hid (h.bel bb.out)
  have hp := Lib.hid (pad_list hl h6)
  clear h
  obtain ⟨ba, bo, rfl, _⟩ := row_at hR.out (show 0 < m by omega)
  have hn := Lib.hid (row_news hR.out (by omega))
  go_enter Try.func90, Try.ntmps90
  go_upto_region 2 with fail
  rw [← hW0]
  clear hW0
  have hsz : (Try.prog.info? 3).map (·.size) = some 1 := by kernel_rfl
  go_wp2_with (refine wpList_copy_splice rfl _ _ 23 23 rfl 3 Try.underlying23 hsz _ _ 6 6 m cb rfl rfl (w.heap.size + 1) 0 ((List.replicate 6 (0 : Int)).map (Value.int .i64)) 88 hg.out (cols.map (Value.int .i64)) ?c1 (fun _ => ⟨rfl, _, rfl, ?c2⟩) ?c3 ?c4 (w.heap.size + 1) W0 (Below.refl _ _) (Nat.le_refl _) ?_)
  case c1 => rw [List.length_map, hl]; show m = min m 6; omega
  case c2 => exact hn.out
  case c3 => rw [List.length_map, List.length_map, List.length_replicate]; omega
  case c4 => exact ints_oneCell _ _
  intro w3 hh hb
  have hq : w3.heap[w.heap.size + 1]? = some (.cells ((padL cols).map (Value.int .i64)).toArray 88 (0, 0)) := by rw [← hp.out]; exact hh.out
  have A := Arr.block hq (pad_len _)
  have Z3 := Z.out.bel' (hb.mono (Nat.le_refl _)) (by omega)
  replace bb := Lib.hid (bb.out.trans (hb.mono (by omega)))
  have ha := agg_six A.len
  have c0 := A.c 0 (by omega)
  have c1 := A.c 1 (by omega)
  have c2 := A.c 2 (by omega)
  have c3 := A.c 3 (by omega)
  have c4 := A.c 4 (by omega)
  have c5 := A.c 5 (by omega)
  have z0 := Z3.c 0 (by omega)
  have z1 := Z3.c 1 (by omega)
  have z2 := Z3.c 2 (by omega)
  have z3 := Z3.c 3 (by omega)
  have z4 := Z3.c 4 (by omega)
  have z5 := Z3.c 5 (by omega)
  have zf := Z3.fz
  replace ha := Lib.hid ha
  clear hh hb hq A Z3 Z hg hn hR hp
  go_wp2_with fail
  refine bodyPost_ret (v := .agg #[.int .i64 ((padL cols).getD 0 0), .int .i64 ((padL cols).getD 1 0), .int .i64 ((padL cols).getD 2 0), .int .i64 ((padL cols).getD 3 0), .int .i64 ((padL cols).getD 4 0), .int .i64 ((padL cols).getD 5 0)]) (by simp [results, Try.results90, go_sem, z0, z1, z2, z3, z4, z5]) rfl ?_
  exact ⟨by rw [ha.out], (((((bb.out.setCell (by simp) _).setCell (by simp) _).setCell (by simp) _).setCell (by simp) _).setCell (by simp) _).setCell (by simp) _⟩
end Go.Proofs.Ytnfkafaolelkbaa

namespace Go.Proofs.Ytnfkafaolelkbaa
set_option maxRecDepth 100000
open Go.RowKit

theorem cnt_low : ∀ W, W < 7 → ∀ m : Nat, m < pn W → cntI (m : Nat) 6 = cntI (m : Nat) W := by decide +kernel
theorem pn_64 {W : Nat} (h : W ≤ 6) : pn W ≤ 64 := by
  have := pn_int W
  have := pw_63 h
  omega
set_option maxHeartbeats 1600000 in
theorem rowsWith_any (W : Nat) (hW : W ≤ 6) (r : Int) (w : World) :
    Calls Try.prog 91 #[.int .i64 W, .int .i64 r] w fun e w' => (∃ g c, e = .returned (.slice (some ⟨g, 0, none⟩) (withL W r (pn W)).length c) ∧ OwnI w' w.heap.size (some ⟨g, 0, none⟩) (withL W r (pn W)).length c (withL W r (pn W))) ∧ Below w.heap.size w w' := by
  obtain ⟨P, hP⟩ : ∃ P, pn W = P := ⟨_, rfl⟩
  have hPi := pn_int W
  rw [hP] at hPi
  have hP64 : P ≤ 64 := by rw [← hP]; exact pn_64 hW
  have hlow := Lib.hid (fun (m : Nat) (hm : m < P) => cnt_low W (by omega) m (by omega))
  have hlen := Lib.hid (fun K => with_len W r K)
  have hnx := Lib.hid (fun K => show withL W r (K + 1) = withL W r K ++ if cntI (K : Nat) W = r then [(K : Int)] else [] from rfl)
  have cf := fun wx => full_any W wx (by omega)
  rw [← hPi] at cf
  have i1 : IntKind.i64.wrap ((P : Int) - 1 + 1) = (P : Int) := by rw [IntKind.wrap_i64]; omega
  have i2 : wrap64 ((P : Int) - 1 + 1) = (P : Int) := by unfold wrap64; omega
  rw [hP]
  replace hPi := Lib.hid hPi
  replace hP := Lib.hid hP
  have ho0 : Hid (OwnI (w.alloc (.cells #[] 3)) w.heap.size (some ⟨w.heap.size, 0, none⟩) 0 0 []) := own_empty w w.heap.size w.heap.size rfl (Nat.le_refl _)
  have hb0 : Hid (Below w.heap.size w (w.alloc (.cells #[] 3))) := (Below.refl _ _).alloc (Nat.le_refl _) _
  obtain ⟨W0, hW0⟩ : ∃ W0, W0 = w.alloc (.cells #[] 3) := ⟨_, rfl⟩
  rw [← hW0] at ho0 hb0
  go_enter Try.func91, Try.ntmps91
  go_upto_region 2 with fail
  rw [← hW0]
  clear hW0
  go_wp2_with fail
  refine (cf _).mono ?_
  rintro e w1 ⟨rfl, rfl⟩
  clear cf
  go_wp2_with fail
  go_loopw [5, 11] (fun o i wr => ∃ (k g c : Nat), k ≤ P ∧ i = .int .i64 k ∧ o = .slice (some ⟨g, 0, none⟩) (withL W r k).length c ∧ Hid (OwnI wr w.heap.size (some ⟨g, 0, none⟩) (withL W r k).length c (withL W r k)) ∧ Hid (Below w.heap.size w wr)) (fun _ i _ => P - (intOf i).toNat)
  case atStart => exact ⟨0, _, 0, Nat.zero_le _, rfl, rfl, ho0, hb0⟩
  case round =>
    clear ho0 hb0
    obtain ⟨k, g, c, hk, rfl, rfl, hO, hB⟩ := hrel
    obtain ⟨wo, rfl⟩ : ∃ wo : World, wo = wr := ⟨_, rfl⟩
    have hBs := hB.out.size
    have hl := hlen.out k
    have hx := hnx.out k
    obtain ⟨L, hL⟩ : ∃ L, withL W r k = L := ⟨_, rfl⟩
    rw [hL] at hO hl hx ⊢
    obtain ⟨N, hN⟩ : ∃ N, L.length = N := ⟨_, rfl⟩
    rw [hN] at hO hl ⊢
    replace hL := Lib.hid hL
    replace hN := Lib.hid hN
    by_cases hlt : k < P
    · have hc := hlow.out k hlt
      have cm := rmany_any (k : Int) wo (by omega) (by omega)
      rw [hc] at cm
      obtain ⟨C, hC⟩ : ∃ C, cntI (k : Nat) W = C := ⟨_, rfl⟩
      rw [hC] at cm hx
      clear hc hC
      by_cases e : C = r
      · subst e
        rw [if_pos rfl] at hx
        replace hx := Lib.hid hx
        go_wp2_with fail
        refine cm.mono ?_
        rintro e w1 ⟨rfl, rfl⟩
        go_wp2_with (at_builtin; refine wpList_append_int rfl _ _ rfl w.heap.size g N c L rfl (World.ownsRow.alloc hO.out _) wo.heap.size rfl (k : Int) (by simp) (by omega) (by simp; omega) ?_)
        intro g' c' w3 hown hgr hlies
        have hown : OwnI w3 w.heap.size (some ⟨g', 0, none⟩) (N + 1) c' (L ++ [(k : Int)]) := by unfold OwnI; simpa using hown
        have hgg : w.heap.size ≤ g ∧ g < wo.heap.size := rng_own hO.out _ rfl
        have hB3 := Lib.hid ((hB.out.alloc hBs (.cells #[.int .i64 (k : Int)] 3)).grown hgr (by simp; omega) (fun q hq => by cases hq; exact hgg.1))
        replace hown := Lib.hid hown
        clear hgr hlies hO hB hgg
        go_wp2_with fail
        refine ⟨⟨k + 1, g', c', by omega, by go_num, ?_, ?_, hB3⟩, by simp [intOf]; omega⟩
        · rw [hx.out, List.length_append, hN.out]; rfl
        · rw [hx.out, List.length_append, hN.out]; exact hown
      · rw [if_neg e, List.append_nil] at hx
        replace hx := Lib.hid hx
        have e2 : (C == r) = false := by simpa using e
        go_wp2_with fail
        refine cm.mono ?_
        rintro e w1 ⟨rfl, rfl⟩
        go_wp2_with fail
        refine ⟨⟨k + 1, g, c, by omega, by go_num, ?_, ?_, hB⟩, by simp [intOf]; omega⟩
        · rw [hx.out, hN.out]
        · rw [hx.out, hN.out]; exact hO
    · obtain rfl : k = P := by omega
      go_wp2_with fail
      go_ret
      exact ⟨⟨g, c, by rw [hL.out, hN.out]; rfl, by rw [hL.out, hN.out]; exact hO.out⟩, hB.out⟩
/-- A list of lists that can be read. -/
def RowsAt (w : World) (a : Option Addr) (n : Nat) (C : List (List Int)) : Prop :=
  C.length = n ∧ (n = 0 ∨ ∃ b off, a = some ⟨b, off, none⟩ ∧ ∀ i (h : i < C.length), ∃ a' c, w.cell? ⟨b, off + i, none⟩ = some (.slice a' C[i].length c) ∧ Row w a' C[i].length C[i])
theorem RowsAt.bel {w w' : World} {a : Option Addr} {n : Nat} {C : List (List Int)} (h : RowsAt w a n C) (hb : Below w.heap.size w w') : RowsAt w' a n C := by
  refine ⟨h.1, h.2.imp id ?_⟩
  rintro ⟨b, off, e, hc⟩
  exact ⟨b, off, e, fun i hi => by
    obtain ⟨a', c, h1, h2⟩ := hc i hi
    exact ⟨a', c, kept hb (block_lt h1) h1, h2.bel hb⟩⟩
/-- Such a list of the call's own, as far as it is filled; each of its lists lies in a block of its own. -/
def ChAt (B : Nat) (wr : World) (g n : Nat) (C : List (List Int)) : Prop :=
  ∃ (vals : List Value) (bs : List Nat), wr.ownsRow B 23 1 (.slice (some ⟨g, 0, none⟩) n n) n vals ∧ bs.length = C.length ∧ C.length ≤ n ∧ (g :: bs).Nodup ∧ ∀ q (h : q < C.length), ∃ c, vals[q]? = some (.slice (some ⟨bs.getD q 0, 0, none⟩) C[q].length c) ∧ OwnI wr B (some ⟨bs.getD q 0, 0, none⟩) C[q].length c C[q]
theorem own_ltI {w : World} {B g n c : Nat} {xs : List Int} (h : OwnI w B (some ⟨g, 0, none⟩) n c xs) : g < w.heap.size := (rng_own h _ rfl).2
variable {B g n : Nat} {wr w1 : World} {C : List (List Int)}
theorem own_ltR {e : TypeId} {sz c : Nat} {vals : List Value} (h : wr.ownsRow B e sz (.slice (some ⟨g, 0, none⟩) n c) n vals) : B ≤ g ∧ g < wr.heap.size := by
  rcases h.2 with ⟨e, _⟩ | ⟨q, c, cur, e, hB, hh, _⟩
  · cases e
  · cases e; exact ⟨hB, (Array.getElem?_eq_some_iff.1 hh).1⟩
theorem ChAt.bel (h : ChAt B wr g n C) (hb : Below wr.heap.size wr w1) : ChAt B w1 g n C := by
  obtain ⟨vals, bs, h1, h2, h3, h4, h5⟩ := h
  refine ⟨vals, bs, World.ownsRow.kept h1 (below_grown hb none) (.inr (by simp [Value.ownBlock])), h2, h3, h4, fun q hq => ?_⟩
  obtain ⟨c, e1, e2⟩ := h5 q hq
  exact ⟨c, e1, e2.bel hb⟩
theorem ChAt.far (h : ChAt B wr g n C) : B ≤ g ∧ g < wr.heap.size := by
  obtain ⟨vals, bs, h1, _⟩ := h
  exact own_ltR h1
theorem ChAt.read (h : ChAt B wr g n C) (hn : C.length = n) : RowsAt wr (some ⟨g, 0, none⟩) n C := by
  obtain ⟨vals, bs, h1, h2, h3, h4, h5⟩ := h
  refine ⟨hn, .inr ⟨g, 0, rfl, fun i hi => ?_⟩⟩
  obtain ⟨c, e1, e2⟩ := h5 i hi
  exact ⟨_, c, by rw [Nat.zero_add, World.ownsRow.cellAt h1 _ (by omega), e1], e2.row⟩
/-- One list more is stored. -/
theorem ChAt.push (h : ChAt B wr g n C) {b c : Nat} {L : List Int} (hq : C.length < n) (hb : Below wr.heap.size wr w1) (hL : OwnI w1 wr.heap.size (some ⟨b, 0, none⟩) L.length c L) (hB : B ≤ wr.heap.size) :
    ChAt B (w1.setCell ⟨g, C.length, none⟩ (.slice (some ⟨b, 0, none⟩) L.length c)) g n (C ++ [L]) := by
  have hf := h.far
  have hbr : wr.heap.size ≤ b ∧ b < w1.heap.size := rng_own hL _ rfl
  obtain ⟨vals, bs, h1, h2, h3, h4, h5⟩ := h
  have h1' := World.ownsRow.kept h1 (below_grown hb none) (.inr (by simp [Value.ownBlock]))
  have hv : vals.length = n := by have := h1.1; omega
  have hg : w1.grownBy (w1.setCell ⟨g, C.length, none⟩ (.slice (some ⟨b, 0, none⟩) L.length c)) (some g) := grown_set (World.grownBy.refl _ _)
  have hlt : ∀ q, q < C.length → bs.getD q 0 < wr.heap.size := fun q hq => by
    obtain ⟨c, _, e2⟩ := h5 q hq
    exact own_ltI e2
  refine ⟨vals.set C.length (.slice (some ⟨b, 0, none⟩) L.length c), bs ++ [b], (World.ownsRow.stored h1' C.length _).1, by simp [h2], by rw [List.length_append, List.length_singleton]; omega, ?_, fun q hq => ?_⟩
  · have hnb : b ∉ bs := fun hm => by
      obtain ⟨q, hq, e⟩ := List.getElem_of_mem hm
      have := hlt q (by omega)
      rw [show bs.getD q 0 = bs[q] by simp [hq]] at this
      omega
    obtain ⟨d1, d2⟩ := List.nodup_cons.1 h4
    refine List.nodup_cons.2 ⟨fun hm => ?_, List.nodup_append.2 ⟨d2, by simp, fun x hx y hy e => ?_⟩⟩
    · rcases List.mem_append.1 hm with hm | hm
      · exact d1 hm
      · rw [List.mem_singleton] at hm; omega
    · rw [List.mem_singleton] at hy; subst hy; subst e; exact hnb hx
  · rw [List.length_append, List.length_singleton] at hq
    by_cases e : q < C.length
    · obtain ⟨c2, e1, e2⟩ := h5 q e
      have hne : bs.getD q 0 ≠ g := fun e => by
        refine (List.nodup_cons.1 h4).1 ?_
        rw [← e, show bs.getD q 0 = bs[q] by simp [show q < bs.length by omega]]
        exact List.getElem_mem _
      refine ⟨c2, ?_, ?_⟩
      · rw [List.getElem?_set_ne (by omega), e1, List.getElem_append_left e]
        simp [List.getElem?_append_left (show q < bs.length by omega)]
      · rw [List.getElem_append_left e, show (bs ++ [b]).getD q 0 = bs.getD q 0 by simp [List.getElem?_append_left (show q < bs.length by omega)]]
        exact World.ownsRow.kept (e2.bel hb) hg (.inr (fun e3 => by first | exact hne (Option.some.inj e3) | exact hne (Option.some.inj e3).symm))
    · obtain rfl : q = C.length := by omega
      have eb : (bs ++ [b]).getD C.length 0 = b := by simp [← h2]
      refine ⟨c, ?_, ?_⟩
      · rw [List.getElem?_set_self (by omega), eb]; simp
      · rw [eb]
        simp only [List.getElem_append_right (Nat.le_refl _), Nat.sub_self, List.getElem_cons_zero]
        exact World.ownsRow.kept (hL.mono hB) hg (.inr (fun e3 => by have e4 := Option.some.inj e3; simp only at e4; omega))

theorem infoSl : (Try.prog.info? 23).map (fun i => (i.zero, i.size, i.bytes)) = some (some (.slice none 0 0), 1, 24) := by kernel_rfl
set_option maxHeartbeats 1600000 in
theorem choices_any (W : Nat) (hW : W ≤ 6) (a : Option Addr) (n cap : Nat) (rows : List Int) (w : World) (h : Row w a n rows) (hn : n ≤ 6) :
    Calls Try.prog 57 #[.slice a n cap, .int .i64 W] w fun e w' => (∃ g, e = .returned (.slice (some ⟨g, 0, none⟩) n n) ∧ ChAt w.heap.size w' g n (choC W rows)) ∧ Below w.heap.size w w' := by
  have hl := h.1
  have hR := Lib.hid h
  clear h
  obtain ⟨i0, hi, hz0, hz1, hz2⟩ := info_parts infoSl
  go_enter Try.func57, Try.ntmps57
  go_wp2_with ((refine wpList_make_full w rfl _ _ 64 rfl w.heap.size 23 i0 (.slice none 0 0) 1 Try.underlying64 hi hz0 hz1 .i64 .i64 n n n rfl rfl rfl rfl ?_ ?_ (Nat.le_refl _) ?_))
  all_goals first | (rw [hz2]; omega) | (unfold maxLen; omega) | skip
  intro w1 ho hg
  have hb1 : Below w.heap.size w w1 := (Below.refl _ _).grown hg (Nat.le_refl _) (fun k hk => by cases hk)
  have hA0 : Hid (ChAt w.heap.size w1 w.heap.size n (choC W (rows.take 0))) := ⟨_, [], ho, rfl, Nat.zero_le _, by simp, fun q hq => by simp [choC] at hq⟩
  replace hb1 := Lib.hid hb1
  clear ho hg hi hz0 hz1 hz2
  go_wp2_with fail
  go_loopw [13] (fun i wr => ∃ k : Nat, k ≤ n ∧ i = .int .i64 k ∧ Hid (ChAt w.heap.size wr w.heap.size n (choC W (rows.take k))) ∧ Hid (Below w.heap.size w wr)) (fun i _ => n - (intOf i).toNat)
  case atStart => exact ⟨0, Nat.zero_le _, rfl, hA0, hb1⟩
  case round =>
    clear hA0 hb1
    obtain ⟨k, hk, rfl, hA, hB⟩ := hrel
    obtain ⟨wo, rfl⟩ : ∃ wo : World, wo = wr := ⟨_, rfl⟩
    have hBs := hB.out.size
    by_cases hlt : k < n
    · obtain ⟨ab, ao, rfl, hc⟩ := row_at (hR.out.bel hB.out) hlt
      have hstep : choC W (rows.take (k + 1)) = choC W (rows.take k) ++ [withL W (rows.getD k 0) (pn W)] := by
        unfold choC; rw [List.take_add_one, List.map_append]
        simp [List.getElem?_eq_getElem (show k < rows.length by omega), List.getD_eq_getElem?_getD]
      have hcl : (choC W (rows.take k)).length = k := by rw [cho_len, List.length_take]; omega
      obtain ⟨r, hr⟩ : ∃ r, rows.getD k 0 = r := ⟨_, rfl⟩
      rw [hr] at hc hstep
      replace hr := Lib.hid hr
      replace hstep := Lib.hid hstep
      replace hcl := Lib.hid hcl
      go_wp2_with fail
      refine (rowsWith_any W hW r wo).mono ?_
      rintro e w2 ⟨⟨g2, c2, rfl, ho⟩, hb⟩
      have hA2 := hA.out.push (by rw [hcl.out]; exact hlt) hb ho hBs
      rw [hcl.out, ← hstep.out] at hA2
      have hx := hA.out.bel hb
      obtain ⟨vals, bs, hv1, _⟩ := hx
      have hvl := hv1.1
      have hcell := World.ownsRow.cellAt hv1 k (by omega)
      have hfz := World.ownsRow.frozenAt hv1
      obtain ⟨v, hv⟩ : ∃ v, vals[k]? = some v := ⟨_, List.getElem?_eq_getElem (by omega)⟩
      rw [hv] at hcell
      have hB2 := (hB.out.trans (hb.mono hBs)).setCell (show w.heap.size ≤ (⟨w.heap.size, k, none⟩ : Addr).block from Nat.le_refl _) (.slice (some ⟨g2, 0, none⟩) (withL W r (pn W)).length c2)
      replace hA2 := Lib.hid hA2
      replace hB2 := Lib.hid hB2
      clear hv1 hvl hv hA hB ho hb
      obtain ⟨N, hN⟩ : ∃ N, (withL W r (pn W)).length = N := ⟨_, rfl⟩
      rw [hN] at hA2 hB2 ⊢
      replace hN := Lib.hid hN
      go_wp2_with fail
      exact ⟨⟨k + 1, by omega, by go_num, hA2, hB2⟩, by simp [intOf]; omega⟩
    · obtain rfl : k = n := by omega
      rw [List.take_of_length_le (by omega)] at hA
      go_wp2_with fail
      go_ret
      exact ⟨⟨_, rfl, hA.out⟩, hB.out⟩
end Go.Proofs.Ytnfkafaolelkbaa

namespace Go.Proofs.Ytnfkafaolelkbaa
set_option maxRecDepth 100000
open Go.RowKit Go.Maps

theorem laidJ : laidOutB Try.prog = true := by kernel_rfl
theorem keyLaw : WideMaps.KeyLaw Try.prog 88 := deep_law_laid laidJ (m := 2) (by omega) (of_decide_eq_true (by kernel_rfl)) (by kernel_rfl) (by rw [Try.underlying88])
theorem typesN : Try.prog.types.size = (Try.prog.types.size - 1) + 1 := by kernel_rfl
theorem sixKey : SixKey Try.prog 88 :=
  ⟨Keyed.of_law keyLaw, fun kv h => keyOf_six Try.underlying88 Try.underlying3 (by kernel_rfl) (by kernel_rfl) (by kernel_rfl) typesN h.1 h.wf⟩
/-- A map of counts at column sums. -/
abbrev CntAt (w : World) (b n i : Nat) (N : List Int → Int) : Prop := MapAt w Try.prog 88 3 b n i N
abbrev CntRange (w : World) (b r n i : Nat) (N : List Int → Int) (ks : List (List Int)) (lf : List Int → Bool) (cnt : Nat) : Prop := RangeAt w Try.prog 88 3 b r n i N ks lf cnt
theorem zeroInt (w : World) : (zeroValue 3).run Try.prog w = .ok (.int .i64 0) w := by kernel_rfl
theorem pn_six (k : Nat) : pn (6 * (k + 1)) = pn (6 * k) * 64 := by
  have h5 : pw (6 * (k + 1)) = pw (6 * k) * 64 := by
    rw [show 6 * (k + 1) = 6 * k + 1 + 1 + 1 + 1 + 1 + 1 by omega]
    simp only [pw_succ]; omega
  have h1 := pn_int (6 * k)
  have h2 := pn_int (6 * (k + 1))
  omega
theorem pn_36 {k : Nat} (h : k ≤ 6) : pn (6 * k) ≤ 68719476736 := by
  have h1 := pn_int (6 * k)
  have h2 := pw_le (6 * k) 36 (by omega)
  have h3 : pw 36 = 68719476736 := by decide
  omega
theorem zer_good (i : Nat) : Gd6 i zerV := ⟨zer_len, fun j hj => by rw [zer_get hj]; omega⟩
/-- A box of an array, made and filled. -/
theorem arr_made (w : World) (a0 a1 a2 a3 a4 a5 : Int) : ∃ W', W' = w.alloc (.cells #[.int .i64 a0, .int .i64 a1, .int .i64 a2, .int .i64 a3, .int .i64 a4, .int .i64 a5] 88) ∧
    Arr W' w.heap.size [a0, a1, a2, a3, a4, a5] ∧ Below w.heap.size w W' := by
  refine ⟨_, rfl, ⟨rfl, fun i hi => ?_, fun o => by go_simp⟩, (Below.refl _ _).alloc (Nat.le_refl _) _⟩
  match i, hi with
  | 0, _ => go_simp
  | 1, _ => go_simp
  | 2, _ => go_simp
  | 3, _ => go_simp
  | 4, _ => go_simp
  | 5, _ => go_simp
theorem six_of {kv : List Int} (h : kv.length = 6) : ∃ a0 a1 a2 a3 a4 a5 : Int, kv = [a0, a1, a2, a3, a4, a5] := by
  match kv, h with
  | [a0, a1, a2, a3, a4, a5], _ => exact ⟨a0, a1, a2, a3, a4, a5, rfl⟩

set_option maxHeartbeats 4000000 in
theorem chosen_any (a : Option Addr) (n cap : Nat) (C : List (List Int)) (b : Option Addr) (m cb : Nat) (cols : List Int) (w : World) (h : RowsAt w a n C) (hc : Row w b m cols) (hn : n ≤ 6) (h1 : 1 ≤ m) (h6 : m ≤ 6)
    (hcb : ∀ j, j < m → 0 ≤ cols.getD j 0 ∧ cols.getD j 0 ≤ 7) (hC : ∀ L, L ∈ C → L.length ≤ 64 ∧ ∀ x, x ∈ L → 0 ≤ x ∧ x ≤ 63) :
    Calls Try.prog 56 #[.slice a n cap, .slice b m cb] w fun e w' => e = .returned (.int .i64 (ckr C (padL cols))) ∧ Below w.heap.size w w' := by
  have hl := h.1
  have hR := Lib.hid h
  have hcR := Lib.hid hc
  have hC0 : Hid (∀ k, k < n → ∃ L, C[k]? = some L ∧ L.length ≤ 64 ∧ (∀ x, x ∈ L → 0 ≤ x ∧ x ≤ 63) ∧ C.take (k + 1) = C.take k ++ [L]) := fun k hk => by
    have h2 := hC _ (List.getElem_mem (show k < C.length by omega))
    exact ⟨C[k], by rw [List.getElem?_eq_getElem], h2.1, h2.2, by rw [List.take_add_one, List.getElem?_eq_getElem (show k < C.length by omega)]; rfl⟩
  have hbd : Hid (∀ k x, 0 ≤ ckr (C.take k) x ∧ (k ≤ 6 → ckr (C.take k) x ≤ 68719476736)) := fun k x => ⟨ckr_nn _ _, fun hk => by
    have e1 := ckr_bd (C := C.take k) x fun L hL => (hC L (List.mem_of_mem_take hL)).1
    have e2 := pw_le (6 * (C.take k).length) 36 (by rw [List.length_take]; omega)
    have h3 : pw 36 = 68719476736 := by decide
    omega⟩
  have hgood : Hid (Gd6 7 (padL cols)) := ⟨pad_len _, fun j hj => by
    rw [pad_get _ hj]
    by_cases e : j < m
    · exact hcb j e
    · rw [List.getD_eq_getElem?_getD, List.getElem?_eq_none (by have := hc.1; omega)]; simp⟩
  have hkn : Hid (∀ k (x : List Int), x.length = 6 → ckr (C.take k) x ≠ 0 → Gd6 k x) := fun k x hx hne => ⟨hx, fun j hj => by
    have := ckr_good hne j hj
    rw [List.length_take] at this
    omega⟩
  have hmm := @run_makeMap Try.prog
  clear h hc hC hcb
  go_enter Try.func56, Try.ntmps56
  have M0 : CntAt (w.alloc (.map #[] 0)) w.heap.size 0 0 fun _ => 0 := MapAt.made _ _ _ _ _
  go_wp2_with (refine wpList_insert_at sixKey Try.underlying89 Try.underlying3 rfl _ _ _ rfl rfl M0 (by unfold maxLen; omega) (by omega) zerV 1 rfl rfl (zer_good 0) (by decide) ?_)
  intro w1 M1 g1
  have hb1 : Hid (Below w.heap.size w w1) := ((Below.refl _ _).alloc (Nat.le_refl _) _).grown g1 (by simp) (fun k hk => by cases hk; exact Nat.le_refl _)
  have M2 : Hid (CntAt w1 w.heap.size (pn (6 * 0)) 0 (ckr (C.take 0))) := (M1.ext fun kv _ => rfl).mono (by decide)
  clear M0 M1 g1
  go_wp2_with fail
  go_loopw [5, 18] (fun o i wr => ∃ k mb : Nat, k ≤ n ∧ i = .int .i64 k ∧ o = .map (some mb) ∧ w.heap.size ≤ mb ∧ Hid (CntAt wr mb (pn (6 * k)) k (ckr (C.take k))) ∧ Hid (Below w.heap.size w wr)) (fun _ i _ => n - (intOf i).toNat)
  case atStart => exact ⟨0, w.heap.size, Nat.zero_le _, rfl, rfl, Nat.le_refl _, M2, hb1⟩
  case round =>
    clear M2 hb1
    obtain ⟨k, mb, hk, rfl, rfl, hmb, M, hB⟩ := hrel
    obtain ⟨wo, rfl⟩ : ∃ wo : World, wo = wr := ⟨_, rfl⟩
    have hBs := hB.out.size
    by_cases hlt : k < n
    case neg =>
      obtain rfl : k = n := by omega
      rw [List.take_of_length_le (by omega)] at M
      have hr2 := hcR.out.bel hB.out
      go_wp2_with fail
      refine (colSums_any b m cb cols wo hr2 h1 h6).mono ?_
      rintro e w2 ⟨rfl, hb⟩
      have M2 := M.out.kept (below_grown hb none) (by simp)
      have hB2 := Lib.hid (hB.out.trans (hb.mono hBs))
      clear hb hr2 M hB
      go_wp2_with (refine wpList_lookup_at sixKey Try.underlying89 Try.underlying3 (zeroInt _) rfl _ _ rfl rfl M2 (padL cols) rfl hgood.out ?_)
      go_wp2_with fail
      go_ret
      exact ⟨rfl, hB2.out⟩
    obtain ⟨L, hL, hL64, hLx, htk⟩ := hC0.out k hlt
    obtain ⟨ba, bo, rfl, hcell⟩ := hR.out.2.resolve_left (by omega)
    have hkC : k < C.length := by omega
    have hLe : C[k] = L := by rw [List.getElem?_eq_getElem hkC] at hL; exact Option.some.inj hL
    obtain ⟨a', c', hc1, hrow⟩ := hcell k hkC
    rw [hLe] at hc1 hrow
    replace hc1 := kept hB.out (block_lt hc1) hc1
    have hk7 : k + 1 ≤ 7 := by omega
    have hpn := pn_six k
    have hp36 := pn_36 (k := k) (by omega)
    have hNb := Lib.hid (hbd.out k)
    have hNf := Lib.hid (hbd.out (k + 1))
    have hkn1 := Lib.hid (hkn.out k)
    have hfull : Hid (∀ x : List Int, ckr (C.take (k + 1)) x = ckr (C.take k ++ [L]) x) := fun x => by rw [htk]
    obtain ⟨N, hN⟩ : ∃ N, ckr (C.take k) = N := ⟨_, rfl⟩
    rw [hN] at M hNb hkn1
    have hNL : Hid (∀ (ks : List (List Int)) (lf : List Int → Bool), ks.Nodup → (∀ kv, kv ∈ ks → kv.length = 6) → (∀ kv : List Int, kv.length = 6 → N kv ≠ 0 → kv ∈ ks) → (∀ kv, kv ∈ ks → lf kv = false) → ∀ x : List Int, x.length = 6 → nxS ks N L lf x = ckr (C.take (k + 1)) x) := by
      subst hN
      intro ks lf d1 d2 d3 d4 x d5
      rw [hfull.out]; exact nx_full d1 d2 d3 d4 d5
    obtain ⟨N2, hN2⟩ : ∃ N2, ckr (C.take (k + 1)) = N2 := ⟨_, rfl⟩
    rw [hN2] at hNL hNf
    obtain ⟨P0, hP0⟩ : ∃ P0, pn (6 * k) = P0 := ⟨_, rfl⟩
    rw [hP0] at M hpn hp36
    obtain ⟨P1, hP1⟩ : ∃ P1, pn (6 * (k + 1)) = P1 := ⟨_, rfl⟩
    rw [hP1] at hpn
    replace hN := Lib.hid hN
    replace hN2 := Lib.hid hN2
    replace hP0 := Lib.hid hP0
    replace hP1 := Lib.hid hP1
    replace hrow := Lib.hid hrow
    obtain ⟨len, hlen⟩ : ∃ len, L.length = len := ⟨_, rfl⟩
    rw [hlen] at hc1 hrow hL64
    replace hlen := Lib.hid hlen
    clear hL hLe hcell htk hfull hkC
    have e1 : (wo.alloc (.map #[] 0)).heap.size = wo.heap.size + 1 := by simp
    have Mz : Hid (CntAt (wo.alloc (.map #[] 0)) wo.heap.size 0 (k + 1) fun _ => 0) := MapAt.made _ _ _ _ _
    have Ma := M.out.kept (World.grownBy_alloc wo (.map #[] 0) none) (by simp)
    have hmlt := M.out.lt
    go_wp2_with (first
      | (at_range; refine wpList_range_at sixKey Try.underlying89 rfl _ rfl rfl Ma (by omega) ?_; intro w2 ks hd hG hall hksn hR2 g2 s2)
      | go_in)
    go_frame
    rw [e1] at hR2 s2 ⊢
    obtain ⟨r, hr⟩ : ∃ r, wo.heap.size + 1 = r := ⟨_, rfl⟩
    obtain ⟨nb, hnb⟩ : ∃ nb, wo.heap.size = nb := ⟨_, rfl⟩
    rw [hr] at hR2 ⊢
    have Mn := Mz.out.kept g2 (by simp)
    have hB2 : Hid (Below w.heap.size w w2) := (hB.out.alloc hBs _).grown g2 (by simp; omega) (fun k hk => by cases hk)
    rw [hnb] at Mn ⊢
    have hne : r ≠ nb ∧ mb ≠ nb ∧ mb ≠ r ∧ w.heap.size ≤ nb ∧ w.heap.size ≤ r := by omega
    have hall2 : Hid (∀ kv : List Int, kv.length = 6 → N kv ≠ 0 → kv ∈ ks) := fun kv h6 h0 => by
      apply Classical.byContradiction
      intro hn
      exact h0 (hall kv ((hkn1.out kv h6 h0).mono (by omega)) hn)
    have hG6 : Hid (∀ kv, kv ∈ ks → kv.length = 6) := fun kv hk => (hG kv hk).1
    have Mn2 : Hid (CntAt w2 nb 0 (k + 1) (nxS ks N L fun _ => true)) := Mn.ext fun kv _ => nx_start (fun _ _ => rfl) kv
    obtain ⟨K0, hK0⟩ : ∃ K0, ks.length = K0 := ⟨_, rfl⟩
    rw [hK0] at hksn hR2
    replace hR2 := Lib.hid hR2
    replace hd := Lib.hid hd
    replace hG := Lib.hid hG
    replace hr := Lib.hid hr
    replace hnb := Lib.hid hnb
    clear Mz Ma Mn M hB g2 s2 e1 hall hkn1 hc1 hmlt
    go_loopw [9] (fun _ wr => ∃ (lf : List Int → Bool) (cnt n2 : Nat), Hid (CntRange wr mb r P0 k N ks lf cnt) ∧ cnt ≤ K0 ∧ Hid (CntAt wr nb n2 (k + 1) (nxS ks N L lf)) ∧ n2 ≤ (K0 - cnt) * 64 ∧ Hid (Below w.heap.size w wr)) (fun _ wr => wr.rangeLeft mb r)
    case atStart => exact ⟨_, K0, 0, hR2, Nat.le_refl _, Mn2, by omega, hB2⟩
    case round =>
      clear hR2 Mn2 hB2
      obtain ⟨lf, cnt, n2, hR2, hcs, Mn, hn2, hB⟩ := hrel
      obtain ⟨wp, rfl⟩ : ∃ wp : World, wp = wr := ⟨_, rfl⟩
      have hBs := hB.out.size
      go_wp2_with (first
        | (at_next; refine wpList_next_at sixKey Try.underlying3 rfl _ rfl rfl hR2.out (by omega) ?_ ?_)
        | go_in)
      · intro hc0 hl0
        have hq := hNL.out ks lf hd.out hG6.out hall2.out hl0
        have M3 : Hid (CntAt wp nb P1 (k + 1) N2) := (Mn.out.ext fun kv hkv => (hq kv hkv.1).symm).mono (by omega)
        clear hq Mn hR2 hl0
        go_wp2_with fail
        refine ⟨⟨k + 1, nb, by omega, by go_num, rfl, hne.2.2.2.1, ?_, hB⟩, by simp [intOf]; omega⟩
        rw [hP1.out, hN2.out]; exact M3
      · intro kv w3 cnt2 hkv hlf hR3 hlt2 g3 s3 hen
        replace s3 := Lib.hid s3
        have hkg := hG.out kv hkv
        obtain ⟨a0, a1, a2, a3, a4, a5, rfl⟩ := six_of hkg.1
        have Mn3 := Mn.out.kept g3 (by intro e; have := Option.some.inj e; omega)
        have hB3 := hB.out.grown g3 hBs (fun j hj => by cases hj; exact hne.2.2.2.2)
        have hrl := hR2.out.left_eq
        have hle := nx_le (ks := ks) (N := N) (L := L) (lf := lf) (kv := [a0, a1, a2, a3, a4, a5])
        have hlef : Hid (∀ (x : List Int) (t : Nat), x.length = 6 → nxS ks N L lf x + rowT N [a0, a1, a2, a3, a4, a5] x (L.take t) ≤ N2 x) := fun x t hx => by
          rw [← hNL.out ks (fun _ => false) hd.out hG6.out hall2.out (fun _ _ => rfl) x hx]
          exact hle x (fun y _ => (hNb.out y).1) hd.out hkv hlf t
        have hnx0 : Hid (∀ x t, 0 ≤ nxS ks N L lf x + rowT N [a0, a1, a2, a3, a4, a5] x (L.take t)) := fun x t => by
          have i1 := nx_nn (ks := ks) (N := N) (fun y _ => (hNb.out y).1) L lf x
          have i2 := row_nn (N := N) (kv := [a0, a1, a2, a3, a4, a5]) (hNb.out _).1 x (L.take t)
          omega
        have hstep : Hid (∀ x, nxS ks N L (fun y => lf y && !decide (y = [a0, a1, a2, a3, a4, a5])) x = nxS ks N L lf x + rowT N [a0, a1, a2, a3, a4, a5] x L) := fun x => nx_step x hd.out hkv hlf fun _ _ => rfl
        rw [show aggV [a0, a1, a2, a3, a4, a5] = .agg #[.int .i64 a0, .int .i64 a1, .int .i64 a2, .int .i64 a3, .int .i64 a4, .int .i64 a5] from rfl] at hen ⊢
        obtain ⟨W4, eW, A, bW⟩ := arr_made w3 a0 a1 a2 a3 a4 a5
        obtain ⟨c0, hc0⟩ : ∃ c0, N [a0, a1, a2, a3, a4, a5] = c0 := ⟨_, rfl⟩
        have hc0b := hNb.out [a0, a1, a2, a3, a4, a5]
        rw [hc0] at hen hc0b ⊢
        have hk6 : k ≤ 6 := by omega
        replace hc0b : 0 ≤ c0 ∧ c0 ≤ 68719476736 := ⟨hc0b.1, hc0b.2 hk6⟩
        go_upto_region 9 with fail
        rw [← eW]
        have R4 := Lib.hid (hR3.kept (below_grown bW none) (by simp) (by simp))
        have M4 := Mn3.kept (below_grown bW none) (by simp)
        have B4 := Lib.hid (hB3.trans (bW.mono hB3.size))
        replace A := Lib.hid A
        obtain ⟨q, hq⟩ : ∃ q, w3.heap.size = q := ⟨_, rfl⟩
        rw [hq] at A ⊢
        have hqne : q ≠ nb := by have := Mn3.lt; omega
        have hqw : w.heap.size ≤ q := by have := hB3.size; omega
        have M5 : Hid (CntAt W4 nb n2 (k + 1) fun x => nxS ks N L lf x + rowT N [a0, a1, a2, a3, a4, a5] x (L.take 0)) := M4.ext fun kv _ => by simp [rowT, sumL]
        replace hq := Lib.hid hq
        replace hc0 := Lib.hid hc0
        replace hkv := Lib.hid hkv
        replace hkg := Lib.hid hkg
        clear eW bW hR3 Mn3 hB3 g3 s3 hen hle M4 Mn hR2 hB
        go_wp2_with fail
        go_loopw [32] (fun i wr => ∃ t n3 : Nat, t ≤ len ∧ i = .int .i64 t ∧ Hid (CntRange wr mb r P0 k N ks (fun y => lf y && !decide (y = [a0, a1, a2, a3, a4, a5])) cnt2) ∧ Hid (CntAt wr nb n3 (k + 1) fun x => nxS ks N L lf x + rowT N [a0, a1, a2, a3, a4, a5] x (L.take t)) ∧ n3 ≤ n2 + t ∧ Hid (Arr wr q [a0, a1, a2, a3, a4, a5]) ∧ Hid (Below w.heap.size w wr)) (fun i _ => len - (intOf i).toNat)
        case atStart => exact ⟨0, n2, Nat.zero_le _, rfl, R4, M5, by omega, A, B4⟩
        case round =>
          clear R4 M5 A B4
          obtain ⟨t, n3, ht, rfl, R4, M5, hn3, A, B4⟩ := hrel
          obtain ⟨wi, rfl⟩ : ∃ wi : World, wi = wr := ⟨_, rfl⟩
          by_cases hlt3 : t < len
          case neg =>
            obtain rfl : t = len := by omega
            rw [List.take_of_length_le (by rw [hlen.out]; exact Nat.le_refl _)] at M5
            have M6 : Hid (CntAt wi nb n3 (k + 1) (nxS ks N L (fun y => lf y && !decide (y = [a0, a1, a2, a3, a4, a5])))) := M5.out.ext fun kv _ => hstep.out kv
            go_wp2_with fail
            refine ⟨⟨_, cnt2, n3, R4, by omega, M6, by omega, B4⟩, ?_⟩
            rw [R4.out.left_eq, hrl]; exact hlt2
          obtain ⟨rb, ro, rfl, hcr⟩ := row_at (hrow.out.bel B4.out) hlt3
          have hxm := hLx _ (List.getElem_mem (show t < L.length by rw [hlen.out]; exact hlt3))
          have hxe : L.getD t 0 = L[t]'(by rw [hlen.out]; exact hlt3) := getD_elem _
          rw [← hxe] at hxm
          have htk := Lib.hid (fun x => row_take (N := N) (kv := [a0, a1, a2, a3, a4, a5]) x (show t < L.length by rw [hlen.out]; exact hlt3))
          obtain ⟨x, hx⟩ : ∃ x, L.getD t 0 = x := ⟨_, rfl⟩
          rw [hx] at hcr hxm htk
          have hkj := hkg.out.2
          obtain ⟨kv2, hkv2⟩ : ∃ kv2, addV [a0, a1, a2, a3, a4, a5] x = kv2 := ⟨_, rfl⟩
          have hg2 : Gd6 (k + 1) kv2 := by rw [← hkv2]; exact ⟨add_len _ _, add_good x hkj⟩
          have hcall := Lib.hid (fun wx => withRow_any a0 a1 a2 a3 a4 a5 x wx hxm.1 hxm.2 (fun j hj => ⟨(hkj j hj).1, by have := (hkj j hj).2; omega⟩))
          rw [hkv2] at hcall htk
          obtain ⟨v0, hv0⟩ : ∃ v0, nxS ks N L lf kv2 + rowT N [a0, a1, a2, a3, a4, a5] kv2 (L.take t) = v0 := ⟨_, rfl⟩
          have hsum : 0 ≤ v0 ∧ v0 + c0 ≤ 68719476736 := by
            have i1 := hnx0.out kv2 t
            have i2 := hlef.out kv2 (t + 1) hg2.1
            have i3 := htk.out kv2
            rw [if_pos rfl, hc0.out] at i3
            have i4 := (hNf.out kv2).2 (by omega)
            omega
          have hwf := WalkArith.wf_i64 (by omega : -9223372036854775808 ≤ v0 + c0 ∧ v0 + c0 ≤ 9223372036854775807)
          have hw1 : IntKind.i64.wrap (v0 + c0) = v0 + c0 := IntWalk.i64_in _ ⟨by omega, by omega⟩
          replace hx := Lib.hid hx
          replace hkv2 := Lib.hid hkv2
          replace hv0 := Lib.hid hv0
          replace hg2 := Lib.hid hg2
          replace hkj := Lib.hid hkj
          obtain ⟨NN, hNN⟩ : ∃ NN : List Int → Int, (fun y => nxS ks N L lf y + rowT N [a0, a1, a2, a3, a4, a5] y (L.take t)) = NN := ⟨_, rfl⟩
          have hnxt : Hid (∀ y, nxS ks N L lf y + rowT N [a0, a1, a2, a3, a4, a5] y (L.take (t + 1)) = if y = kv2 then v0 + c0 else NN y) := fun y => by
            have hy : NN y = nxS ks N L lf y + rowT N [a0, a1, a2, a3, a4, a5] y (L.take t) := by rw [← hNN]
            rw [htk.out y, hc0.out, hy]
            by_cases e : y = kv2
            · subst e; rw [if_pos rfl, if_pos rfl, ← hv0.out]; omega
            · rw [if_neg e, if_neg (fun e2 => e e2.symm)]; omega
          have hNv : NN kv2 = v0 := by rw [← hNN]; exact hv0.out
          rw [hNN] at M5
          have hdr : Below wi.heap.size wi wi.drew := (Below.refl _ _).drew
          have R5 := Lib.hid (R4.out.kept (below_grown hdr none) (by simp) (by simp))
          have M6 := Lib.hid (M5.out.kept (below_grown hdr none) (by simp))
          have A5 := Lib.hid (A.out.bel hdr)
          have B5 := Lib.hid (B4.out.trans (hdr.mono B4.out.size))
          have k0 : wi.cell? ⟨q, 0, none⟩ = some (.int .i64 a0) := A.out.c 0 (by omega)
          have k1 : wi.cell? ⟨q, 1, none⟩ = some (.int .i64 a1) := A.out.c 1 (by omega)
          have k2 : wi.cell? ⟨q, 2, none⟩ = some (.int .i64 a2) := A.out.c 2 (by omega)
          have k3 : wi.cell? ⟨q, 3, none⟩ = some (.int .i64 a3) := A.out.c 3 (by omega)
          have k4 : wi.cell? ⟨q, 4, none⟩ = some (.int .i64 a4) := A.out.c 4 (by omega)
          have k5 : wi.cell? ⟨q, 5, none⟩ = some (.int .i64 a5) := A.out.c 5 (by omega)
          have hn3m : n3 < maxLen := by unfold maxLen; omega
          replace hNN := Lib.hid hNN
          replace hNv := Lib.hid hNv
          replace hsum := Lib.hid hsum
          replace hc0b := Lib.hid hc0b
          clear hdr R4 M5 A B4 hxm hxe
          go_wp2_with fail
          go_region_law (first | ((go_simp; go_at_call 89; (with_reducible refine (hcall.out _).mono ?_); rintro e w5 ⟨rfl, hb⟩; have M7 := M6.out.kept (below_grown hb none) (by simp); have R6 := R5.out.kept (below_grown hb none) (by simp) (by simp); have A6 := A5.out.bel hb; have B6 := B5.out.trans (hb.mono B5.out.size); obtain ⟨st, w6, w7, l1, l2, l3, l4, M8, g7⟩ := M7.bump sixKey keyLaw Try.underlying89 Try.underlying3 zeroInt hn3m hk7 hg2.out (v0 + c0) hwf; rw [hNv.out] at l1 l2 l3; have M9 := Lib.hid (M8.ext fun y _ => hnxt.out y); have R7 := Lib.hid (R6.kept g7 (by intro e; have := Option.some.inj e; omega) (by intro e; have := Option.some.inj e; omega)); have A7 := Lib.hid (A6.grown g7 (by intro e; have := Option.some.inj e; omega)); have B7 := Lib.hid (B6.grown g7 B6.size (fun j hj => by cases hj; exact hne.2.2.2.1)); clear hb M7 R6 A6 B6 M8 g7 M6 R5 A5 B5 k0 k1 k2 k3 k4 k5)))
          all_goals
            go_wp2_with fail
            exact ⟨⟨t + 1, n3 + 1, by omega, by go_num, R7, M9, by omega, A7, B7⟩, by simp [intOf]; omega⟩
end Go.Proofs.Ytnfkafaolelkbaa

namespace Go.Proofs.Ytnfkafaolelkbaa
set_option maxRecDepth 100000
open Go.RowKit

/-- Sums that are counted. -/
def ctdB (rows cols : List Int) : Bool := sumsB rows cols && decide (rows.length * cols.length ≤ 16)
theorem ctdB_parts {rows cols : List Int} (h : ctdB rows cols = true) : sumsB rows cols = true ∧ rows.length * cols.length ≤ 16 := by
  unfold ctdB at h
  rw [Bool.and_eq_true] at h
  exact ⟨h.1, of_decide_eq_true h.2⟩
def scO (rows cols : List Int) : Int := if ctdB rows cols = true then cntS rows cols else -1
set_option maxHeartbeats 800000 in
theorem counted_any (a : Option Addr) (n cap : Nat) (a' : Option Addr) (m cap' : Nat) (xs ys : List Int) (w : World) (h : Row w a n xs) (h' : Row w a' m ys) (hn : n ≤ 1048576) (hm : m ≤ 1048576) :
    Calls Try.prog 55 #[.slice a n cap, .slice a' m cap'] w fun e w' => e = .returned (.bool (ctdB xs ys)) ∧ Below w.heap.size w w' := by
  have l1 := h.1
  have l2 := h'.1
  have cv := sumsV_impl a a' n m cap cap' xs ys w h h' (by omega) (by omega)
  unfold ctdB
  rw [l1, l2]
  clear h h'
  by_cases hs : sumsB xs ys = true
  · rw [hs] at cv ⊢
    have hp := sumsB_parts hs
    rw [l1, l2] at hp
    have hmul : n * m ≤ 36 := Nat.le_trans (Nat.mul_le_mul hp.1.2 hp.2.1.2) (by decide)
    have e1 : (n : Int) * (m : Int) = ((n * m : Nat) : Int) := (Int.natCast_mul ..).symm
    obtain ⟨P, hP⟩ : ∃ P, n * m = P := ⟨_, rfl⟩
    rw [hP] at e1 hmul ⊢
    have e2 : IntKind.i64.wrap ((n : Int) * (m : Int)) = (P : Int) := by rw [e1]; exact IntWalk.i64_in _ ⟨by omega, by omega⟩
    have e3 : wrap64 ((n : Int) * (m : Int)) = (P : Int) := by rw [e1]; exact IntWalk.wrap64_in _ ⟨by omega, by omega⟩
    replace e1 := Lib.hid e1
    replace hP := Lib.hid hP
    clear hp
    go_enter Try.func55, Try.ntmps55
    go_wp2_with fail
    refine cv.mono ?_
    rintro e w2 ⟨rfl, hb⟩
    replace hb := Lib.hid hb
    go_wp2_with fail
    go_ret
    exact ⟨by simp; omega, hb.out⟩
  · have hs : sumsB xs ys = false := by simpa using hs
    rw [hs] at cv ⊢
    go_enter Try.func55, Try.ntmps55
    go_wp2_with fail
    refine cv.mono ?_
    rintro e w2 ⟨rfl, hb⟩
    replace hb := Lib.hid hb
    go_wp2_with fail
    go_ret
    exact ⟨rfl, hb.out⟩
theorem cho_small {W : Nat} (hW : W ≤ 6) {rows : List Int} : ∀ L, L ∈ choC W rows → L.length ≤ 64 ∧ ∀ x, x ∈ L → 0 ≤ x ∧ x ≤ 63 := fun L hL => by
  obtain ⟨r, _, rfl⟩ := List.mem_map.1 hL
  have h1 := with_len W r (pn W)
  have h2 := pn_64 hW
  exact ⟨by omega, fun x hx => by have := with_mem hx; omega⟩
set_option maxHeartbeats 800000 in
theorem sc_impl (a : Option Addr) (n cap : Nat) (a' : Option Addr) (m cap' : Nat) (xs ys : List Int) (w : World) (h : Row w a n xs) (h' : Row w a' m ys) (hn : n ≤ 1048576) (hm : m ≤ 1048576) :
    Calls Try.prog 21 #[.slice a n cap, .slice a' m cap'] w fun e w' => e = .returned (.int .i64 (scO xs ys)) ∧ Below w.heap.size w w' := by
  have l1 := h.1
  have l2 := h'.1
  have hc := counted_any a n cap a' m cap' xs ys w h h' hn hm
  have hR := Lib.hid h
  have hR' := Lib.hid h'
  unfold scO
  clear h h'
  by_cases hs : ctdB xs ys = true
  · rw [hs] at hc
    rw [if_pos hs]
    have hs2 := (ctdB_parts hs).1
    have hp := sumsB_parts hs2
    have hq := Lib.hid (cnt_ckr hs2)
    rw [l1, l2] at hp
    rw [l2] at hq
    have hbd := Lib.hid hp.2.2.2
    have hn6 := hp.1.2
    have hm1 := hp.2.1.1
    have hm6 := hp.2.1.2
    clear hp hs2
    go_enter Try.func21, Try.ntmps21
    go_wp2_with fail
    refine hc.mono ?_
    rintro e w2 ⟨rfl, hb⟩
    replace hR := Lib.hid (hR.out.bel hb)
    replace hR' := Lib.hid (hR'.out.bel hb)
    replace hb := Lib.hid hb
    go_wp2_with fail
    refine (choices_any m hm6 a n cap xs w2 hR.out hn6).mono ?_
    rintro e w3 ⟨⟨g, rfl, hA⟩, hb3⟩
    replace hR' := Lib.hid (hR'.out.bel hb3)
    replace hb := Lib.hid (hb.out.trans (hb3.mono hb.out.size))
    have hA2 := Lib.hid (hA.read (by rw [cho_len]; exact l1))
    clear hA hb3
    go_wp2_with fail
    refine (chosen_any _ n n (choC m xs) a' m cap' ys w3 hA2.out hR'.out hn6 hm1 hm6 (fun j hj => ⟨(hbd.out j hj).1, by have := (hbd.out j hj).2; omega⟩) (cho_small hm6)).mono ?_
    rintro e w4 ⟨rfl, hb4⟩
    rw [hq.out]
    replace hb := Lib.hid (hb.out.trans (hb4.mono hb.out.size))
    clear hb4
    go_wp2_with fail
    go_ret
    exact ⟨rfl, hb.out⟩
  · rw [if_neg hs]
    have hs : ctdB xs ys = false := by simpa using hs
    rw [hs] at hc
    go_enter Try.func21, Try.ntmps21
    go_wp2_with fail
    refine hc.mono ?_
    rintro e w2 ⟨rfl, hb⟩
    replace hb := Lib.hid hb
    go_wp2_with fail
    go_ret
    exact ⟨rfl, hb.out⟩
end Go.Proofs.Ytnfkafaolelkbaa
