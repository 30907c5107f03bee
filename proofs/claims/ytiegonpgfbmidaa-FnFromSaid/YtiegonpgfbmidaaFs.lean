/-
  The contract of the model's function that reads an image from a text.
-/
import Derived.Test.YtiegonpgfbmidaaTm
import Derived.Test.YtiegonpgfbmidaaTy
import Derived.Test.YtiegonpgfbmidaaFr
import Derived.Deep.AppendLies
import Derived.Deep.RegionLaw
namespace Go.Proofs.Ytiegonpgfbmidaa
open Go.RowKit

set_option maxHeartbeats 400000 in
theorem row_spec (s : ByteArray) (w : World) (hs : s.size ≤ 140737488355328) :
    Calls Try.prog 56 #[.string s] w fun e w' => e = .returned (.int .i64 (rowV s.data.toList (min s.size 6))) ∧ w = w' := by
  go_enter Try.func56, Try.ntmps56
  go_wp2
  go_loop [3, 4] (fun r i => ∃ k : Nat, k ≤ s.size ∧ k ≤ 6 ∧ i = .int .i64 k ∧ r = .int .i64 (rowV s.data.toList k)) (fun _ i => s.size - (intOf i).toNat)
  case atStart => exact ⟨0, Nat.zero_le _, by omega, rfl, rfl⟩
  case round =>
    obtain ⟨k, hk, hk6, rfl, rfl⟩ := hrel
    have hbd := rowV_bd s.data.toList k
    have hp := pw_63 hk6
    by_cases hlt : k < s.size
    · by_cases h6 : k < 6
      · have hg := Lib.hid (byte_get hlt)
        by_cases h35 : s[k] = 35
        · have hb : ((s[k].toNat : Int) == 35) = true := by rw [h35]; rfl
          have hn : Hid (rowV s.data.toList (k + 1) = rowV s.data.toList k + pw k) := by show rowV _ (k + 1) = _; simp only [rowV]; rw [hg.out, if_pos h35]
          clear h35
          have hpk := pw_63 (show k + 1 ≤ 6 by omega)
          rw [pw_succ] at hpk
          have hpp := pw_pos k
          go_wp2_with (go_at_call 41; refine (power_any k _ (by omega)).mono ?_; rintro e w1 ⟨rfl, rfl⟩)
          refine ⟨⟨k + 1, by omega, by omega, by go_num, by rw [hn.out]⟩, by simp [intOf]; omega⟩
        · have hb' : ¬ (s[k].toNat : Int) = 35 := fun e => h35 (UInt8.toNat_inj.1 (by have : (35 : UInt8).toNat = 35 := rfl; omega))
          have hb : ((s[k].toNat : Int) == 35) = false := by rw [beq_eq_false_iff_ne]; exact hb'
          have hn : Hid (rowV s.data.toList (k + 1) = rowV s.data.toList k) := by show rowV _ (k + 1) = _; simp only [rowV]; rw [hg.out, if_neg h35, Int.add_zero]
          clear h35 hb'
          go_wp2_with (fail)
          refine ⟨⟨k + 1, by omega, by omega, by go_num, by rw [hn.out]⟩, by simp [intOf]; omega⟩
      · have e6 := Lib.hid (show min s.size 6 = k by omega)
        go_wp2
        go_ret
        exact ⟨by rw [e6.out]; rfl, rfl⟩
    · have e6 := Lib.hid (show min s.size 6 = k by omega)
      go_wp2
      go_ret
      exact ⟨by rw [e6.out]; rfl, rfl⟩

theorem wpList_append_lies {P : Program} {w : World} {ops : Array Oper} {rest : List Oper} {o : Oper} {a : Act} {Q : Exit → Act → World → Prop} (hgd : o.guard = none) (s x : Operand) (t : TypeId)
    (ho : o.op = .call { callee := .builtin .append, args := #[s, x], argTypes := #[t, t] })
    (base : Nat) (e : TypeId) (i : TypeInfo) (z : Value) (size bytes : Nat) (ht : P.underlying t = some (.slice e)) (hi : P.info? e = some i) (hz : i.zero = some z)
    (hsize : i.size = size) (hby : i.bytes = bytes) (hzs : z.cells.size = size) (hsz : 0 < size)
    (v : Value) (n : Nat) (xs : List Value) (hs : a.eval s = v) (hown : w.ownsRow base e size v n xs)
    (ad : Addr) (m c : Nat) (news : List Value) (hx : a.eval x = .slice (some ad) m c) (hl : news.length = m * size) (hnews : ∀ j u, news[j]? = some u → w.cell? (ad.add j) = some u) (h1 : ∀ u ∈ news, u.oneCell' = true)
    (hm : 0 < m) (h63 : n + m ≤ maxLen) (hbytes : (n + m) * bytes ≤ 140737488355328) (hbase : base ≤ w.heap.size)
    (h : ∀ g cap w', w'.ownsRow base e size (.slice (some ⟨g, 0, none⟩) (n + m) cap) (n + m) (xs ++ news) → w.grownBy w' v.ownBlock → (v.ownBlock = some g ∨ g = w.heap.size) → wpList P ops Q rest (a.put o.dst (.slice (some ⟨g, 0, none⟩) (n + m) cap)) w') : wpList P ops Q (o :: rest) a w :=
  wpList_plain hgd fun _ hK => wp_append_lies w s x t ho base e i z size bytes ht hi hz hsize hby hzs hsz v n xs hs hown ad m c news hx hl hnews h1 hm h63 hbytes hbase w.heap.size rfl fun g cap w' h2 h3 h4 _ => hK _ _ (h g cap w' h2 h3 h4)

/-- The middle of the walk: the result's box, the image's box with the rows so far. -/
structure Fq (B : Nat) (w wr : World) (W : Int) (g k cap : Nat) (xs : List Int) : Prop where
  c0 : wr.cell? ⟨B, 0, none⟩ = some (.int .i64 0)
  c1 : wr.cell? ⟨B, 1, none⟩ = some (.slice none 0 0)
  cf : ∀ o, wr.frozen? ⟨B, o, none⟩ = false
  d0 : wr.cell? ⟨B + 2, 0, none⟩ = some (.int .i64 W)
  d1 : wr.cell? ⟨B + 2, 1, none⟩ = some (.slice (some ⟨g, 0, none⟩) k cap)
  df : ∀ o, wr.frozen? ⟨B + 2, o, none⟩ = false
  own : OwnI wr (B + 1) (some ⟨g, 0, none⟩) k cap xs
  ne : g ≠ B + 2
  bel : Below B w wr
theorem Fq.ge {B : Nat} {w wr : World} {W : Int} {g k cap : Nat} {xs : List Int} (h : Fq B w wr W g k cap xs) : B + 1 ≤ g := by
  rcases h.own.cases with ⟨e, _⟩ | ⟨g', e, h2, _⟩
  · cases e
  · simp only [Option.some.injEq, Addr.mk.injEq, and_true] at e; omega
theorem Fq.same {B : Nat} {w wr w1 : World} {W : Int} {g k cap : Nat} {xs : List Int} (h : Fq B w wr W g k cap xs) (hg : wr.grownBy w1 (some g)) {b : Nat} (hb : b = B ∨ b = B + 2) : (∀ i v, wr.cell? ⟨b, i, none⟩ = some v → w1.cell? ⟨b, i, none⟩ = some v) ∧ ∀ i, wr.frozen? ⟨b, i, none⟩ = false → w1.frozen? ⟨b, i, none⟩ = false := by
  have hs : b < wr.heap.size := by
    have h1 : B < wr.heap.size := block_lt h.c0
    have h2 : B + 2 < wr.heap.size := block_lt h.d0
    omega
  have hge := h.ge
  have hne := h.ne
  have e : w1.heap[b]? = wr.heap[b]? := hg.block b hs (by simp; omega)
  exact ⟨fun i v hv => by rw [World.cell?_of_block e]; exact hv, fun i hv => by rw [World.frozen?_of_block e]; exact hv⟩
theorem Fq.app {B : Nat} {w wr w1 : World} {W : Int} {g g' k cap cap' : Nat} {xs ys : List Int} (h : Fq B w wr W g k cap xs) (hg : wr.grownBy w1 (some g)) (ho : OwnI w1 (B + 1) (some ⟨g', 0, none⟩) (k + 1) cap' ys) (hn : g' ≠ B + 2) :
    Fq B w (w1.setCell ⟨B + 2, 1, none⟩ (.slice (some ⟨g', 0, none⟩) (k + 1) cap')) W g' (k + 1) cap' ys := by
  have c0 := (h.same hg (.inl rfl)).1 _ _ h.c0
  have c1 := (h.same hg (.inl rfl)).1 _ _ h.c1
  have d0 := (h.same hg (.inr rfl)).1 _ _ h.d0
  have d1 := (h.same hg (.inr rfl)).1 _ _ h.d1
  have cf := fun i => (h.same hg (.inl rfl)).2 i (h.cf i)
  have df := fun i => (h.same hg (.inr rfl)).2 i (h.df i)
  have hge := h.ge
  have hs : B + 2 < wr.heap.size := block_lt h.d0
  have hb : Below B w w1 := h.bel.grown hg (by omega) (fun k hk => by cases hk; omega)
  refine ⟨?_, ?_, fun i => by rw [World.frozen?_setCell]; exact cf i, ?_, ?_, fun i => by rw [World.frozen?_setCell]; exact df i, ?_, hn, hb.setCell (by simp) _⟩
  · rw [World.cell?_setCell_other _ _ _ _ (by simp)]; exact c0
  · rw [World.cell?_setCell_other _ _ _ _ (by simp)]; exact c1
  · rw [World.cell?_setCell_other _ _ _ _ (by simp)]; exact d0
  · exact World.cell?_setCell_same _ _ _ d1
  · refine World.ownsRow.kept ho (row := some (B + 2)) ⟨rfl, rfl, rfl, by simp [World.setCell], fun k _ hk => Below.heap_setCell _ _ _ _ (fun e => hk (by rw [e]))⟩ ?_
    right; simp [Value.ownBlock]; exact hn
theorem Fq.setW {B : Nat} {w wr : World} {W : Int} {g k cap : Nat} {xs : List Int} (h : Fq B w wr W g k cap xs) (W' : Int) : Fq B w (wr.setCell ⟨B + 2, 0, none⟩ (.int .i64 W')) W' g k cap xs := by
  refine ⟨?_, ?_, fun i => by rw [World.frozen?_setCell]; exact h.cf i, ?_, ?_, fun i => by rw [World.frozen?_setCell]; exact h.df i, ?_, h.ne, h.bel.setCell (by simp) _⟩
  · rw [World.cell?_setCell_other _ _ _ _ (by simp)]; exact h.c0
  · rw [World.cell?_setCell_other _ _ _ _ (by simp)]; exact h.c1
  · exact World.cell?_setCell_same _ _ _ h.d0
  · rw [World.cell?_setCell_other _ _ _ _ (by simp)]; exact h.d1
  · refine World.ownsRow.kept h.own (row := some (B + 2)) ⟨rfl, rfl, rfl, by simp [World.setCell], fun k _ hk => Below.heap_setCell _ _ _ _ (fun e => hk (by rw [e]))⟩ ?_
    right; simp [Value.ownBlock]; exact h.ne
theorem Fq.move {B : Nat} {w wr w1 : World} {W : Int} {g k cap : Nat} {xs : List Int} (h : Fq B w wr W g k cap xs) (hb : Below wr.heap.size wr w1) : Fq B w w1 W g k cap xs := by
  have hg := below_grown hb (some g)
  have hs : B + 2 < wr.heap.size := block_lt h.d0
  exact ⟨(h.same hg (.inl rfl)).1 _ _ h.c0, (h.same hg (.inl rfl)).1 _ _ h.c1, fun i => (h.same hg (.inl rfl)).2 i (h.cf i), (h.same hg (.inr rfl)).1 _ _ h.d0, (h.same hg (.inr rfl)).1 _ _ h.d1, fun i => (h.same hg (.inr rfl)).2 i (h.df i), h.own.bel hb, h.ne, h.bel.trans (hb.mono (by omega))⟩

theorem news_one (w : World) (v : Value) (N : Nat) (hN : w.heap.size = N) : ∀ j u, [v][j]? = some u → (w.alloc (.cells #[v] 3)).cell? ((⟨N, 0, none⟩ : Addr).add j) = some u := by
  intro j u hj
  subst hN
  cases j with
  | zero => simp at hj; subst hj; simp [Addr.add]
  | succ j => simp at hj

theorem one_int (x : Int) : ∀ u ∈ [Value.int .i64 x], u.oneCell' = true := by intro u hu; simp at hu; subst hu; rfl
theorem ext_list (s : ByteArray) (q k : Nat) : (s.extract q k).data.toList = (s.data.toList.drop q).take (k - q) := by
  rw [ByteArray.data_extract, Array.toList_extract]
theorem Fq.behind {B : Nat} {w W0 w1 : World} {W x : Int} {g g' k cap cap' : Nat} {xs : List Int} {o : Obj} (h : Fq B w W0 W g k cap xs) (hown1 : w1.ownsRow (B + 1) 3 1 (.slice (some ⟨g', 0, none⟩) (k + 1) cap') (k + 1) (xs.map (Value.int .i64) ++ [.int .i64 x]))
    (hgrow : (W0.drew.alloc o).grownBy w1 (Value.slice (some ⟨g, 0, none⟩) k cap).ownBlock) (hat : (Value.slice (some ⟨g, 0, none⟩) k cap).ownBlock = some g' ∨ g' = W0.heap.size + 1) :
    w1.cell? ⟨B + 2, 1, none⟩ = some (.slice (some ⟨g, 0, none⟩) k cap) ∧ (∀ o, w1.frozen? ⟨B + 2, o, none⟩ = false) ∧ Hid (Fq B w (w1.setCell ⟨B + 2, 1, none⟩ (.slice (some ⟨g', 0, none⟩) (k + 1) cap')) W g' (k + 1) cap' (xs ++ [x])) := by
  have hm := h.move ((Below.refl _ _).drew.alloc (by simp) o)
  have hs : B + 2 < W0.heap.size := block_lt h.d0
  have hne := h.ne
  refine ⟨(hm.same hgrow (.inr rfl)).1 _ _ hm.d1, fun i => (hm.same hgrow (.inr rfl)).2 i (hm.df i), hm.app hgrow ?_ ?_⟩
  · show w1.ownsRow _ _ _ _ _ ((xs ++ [x]).map _); rw [List.map_append]; exact hown1
  · rcases hat with e | e
    · simp only [Value.ownBlock, Option.some.injEq] at e; omega
    · omega

theorem from_yes {l : List UInt8} {n p1 p2 : Nat} {p3 : List Int} (hn : l.length = n) (hp : parseS l n = (p1, p2, p3)) (he : l ≠ []) (ht : textOf p1 p3 = l) : fromOut l = ⟨true, p1, p3⟩ := by
  subst hn; simp [fromOut, fromB, hp, he, ht]
theorem from_not {l : List UInt8} {n p1 p2 : Nat} {p3 : List Int} (hn : l.length = n) (hp : parseS l n = (p1, p2, p3)) (ht : textOf p1 p3 ≠ l) : fromOut l = Out.no := by
  subst hn; simp [fromOut, fromB, hp, ht]

set_option maxHeartbeats 800000 in
theorem from_spec (s : ByteArray) (w : World) (hs : s.size ≤ 1048576) :
    Calls Try.prog 33 #[.string s] w (Gives w (fromOut s.data.toList)) := by
  obtain ⟨l, hl0⟩ : ∃ l, s.data.toList = l := ⟨_, rfl⟩
  rw [hl0]
  have hl := Lib.hid hl0
  have hll := Lib.hid (show l.length = s.size by rw [← hl0]; simp)
  clear hl0
  go_enter Try.func33, Try.ntmps33
  go_wp2_with fail
  go_loopw [5, 6] (fun f i wr => ∃ (k g cap : Nat), k ≤ s.size ∧ i = .int .i64 k ∧ f = .int .i64 (parseS l k).2.1 ∧ Fq w.heap.size w wr (parseS l k).1 g (parseS l k).2.2.length cap (parseS l k).2.2) (fun _ i _ => s.size - (intOf i).toNat)
  case atStart =>
    refine ⟨0, w.heap.size + 1, 0, Nat.zero_le _, rfl, rfl, ⟨by go_simp, by go_simp, fun o => by go_simp, by go_simp; rfl, by go_simp; simp [parseS], fun o => by go_simp, ?_, by omega, (((Below.refl _ _).alloc (Nat.le_refl _) _).alloc (by simp) _).alloc (by simp; omega) _⟩⟩
    exact World.ownsRow.alloc (own_empty _ _ _ (by simp) (Nat.le_refl _)) _
  case round =>
    obtain ⟨k, g, cap, hk, rfl, rfl, hF⟩ := hrel
    have hpb := parse_bd l k
    by_cases hlt : k < s.size
    · have hF' := Lib.hid hF
      have c0 := hF.c0
      have c1 := hF.c1
      have d0 := hF.d0
      have d1 := hF.d1
      have df := hF.df
      clear hF
      have hbyte := Lib.hid (byte_get hlt)
      by_cases h10 : s[k] = 10
      · have hb : ((s[k].toNat : Int) == 10) = true := by rw [h10]; rfl
        have hp : Hid (parseS l (k + 1) = (k - (parseS l k).2.1, k + 1, (parseS l k).2.2 ++ [rowV ((l.drop (parseS l k).2.1).take (k - (parseS l k).2.1)) (min (k - (parseS l k).2.1) 6)])) := by
          show parseS l (k + 1) = _
          rw [parseS, if_pos (by rw [← hl.out, hbyte.out]; exact h10)]
        clear h10
        generalize parseS l k = p at *
        obtain ⟨p1, p2, p3⟩ := p
        simp only at *
        obtain ⟨i0, hi, hz0, hz1, hz2⟩ := info_parts infoInt
        have hF2 := Lib.hid (hF'.out.setW ((k : Int) - p2))
        have hrs := row_spec (s.extract p2 k) ((wr.setCell ⟨w.heap.size + 2, 0, none⟩ (.int .i64 ((k : Int) - p2))).drew) (by rw [ByteArray.size_extract]; omega)
        rw [ext_list, hl.out, ByteArray.size_extract, show min k s.size - p2 = k - p2 by omega] at hrs
        have hp2 : p2 ≤ k := by omega
        go_wp2_with fail
        generalize wr.setCell ⟨w.heap.size + 2, 0, none⟩ (.int .i64 ((k : Int) - p2)) = W0 at hF2 hrs ⊢
        generalize rowV (List.take (k - p2) (List.drop p2 l)) (min (k - p2) 6) = x at hrs hp
        have hrs := Lib.hid hrs
        have k1 := hF2.out.d1
        have hsz : w.heap.size + 2 < W0.heap.size := block_lt hF2.out.d0
        have hown := Lib.hid (fun o => World.ownsRow.alloc (hF2.out.own.bel (Below.refl _ _).drew) o)
        have hmove := Lib.hid (fun (o : Obj) => hF2.out.move ((Below.refl _ _).drew.alloc (by simp) o))
        clear c0 c1 d0 d1 df hF'
        go_region_law (first | ((go_simp; go_at_call 56; refine hrs.out.mono ?_; rintro e w1 ⟨rfl, rfl⟩)) | ((refine step_append_lies _ (by rfl) _ _ _ (by rfl) (w.heap.size + 1) 3 i0 (.int .i64 0) 1 8 Try.underlying23 hi hz0 hz1 hz2 rfl (by decide) (.slice (some ⟨g, 0, none⟩) p3.length cap) p3.length (p3.map (Value.int .i64)) (by rfl) (hown.out _) ⟨W0.heap.size, 0, none⟩ 1 1 [.int .i64 x] (by rfl) rfl (news_one _ _ _ (by simp)) (one_int _) (by omega) (by unfold maxLen; omega) (by omega) (by simp; omega) W0.heap.size.succ (by simp) ?_; intro g' cap' w1 hown1 hgrow hat hlt2; obtain ⟨q1, qf, qF⟩ := hF2.out.behind hown1 hgrow hat; clear hown1 hgrow hat hlt2)))
        all_goals go_wp2_with fail
        all_goals
          refine ⟨⟨k + 1, g', cap', by omega, by go_num, by rw [hp.out]; go_num, ?_⟩, by simp [intOf]; omega⟩
          rw [hp.out]
          simp only [List.length_append, List.length_singleton, Int.natCast_sub hp2]
          exact qF.out
      · have hb' : ¬ (s[k].toNat : Int) = 10 := fun e => h10 (UInt8.toNat_inj.1 (by have : (10 : UInt8).toNat = 10 := rfl; omega))
        have hb : ((s[k].toNat : Int) == 10) = false := by rw [beq_eq_false_iff_ne]; exact hb'
        have hp : Hid (parseS l (k + 1) = parseS l k) := by
          show parseS l (k + 1) = _
          rw [parseS, if_neg (by rw [← hl.out, hbyte.out]; exact h10)]
        clear h10 hb' c0 c1 d0 d1 df
        go_wp2_with fail
        exact ⟨⟨k + 1, g, cap, by omega, by go_num, by rw [hp.out], by rw [hp.out]; exact hF'.out⟩, by simp [intOf]; omega⟩
    · have : k = s.size := by omega
      subst this
      obtain ⟨⟨p1, p2, p3⟩, hp⟩ : ∃ p, parseS l s.size = p := ⟨_, rfl⟩
      rw [hp] at hF hpb
      simp only at hF hpb
      have hp' := Lib.hid hp
      have hF' := Lib.hid hF
      have c0 := hF.c0
      have c1 := hF.c1
      have d0 := hF.d0
      have d1 := hF.d1
      have cf := hF.cf
      rw [hp]
      clear hF hp
      by_cases he : l = []
      · have hs1 : s.toList = [] := by rw [Lib.toList_data, hl.out, he]
        have hno := Lib.hid (show fromOut l = Out.no by rw [he]; simp [fromOut, fromB])
        clear he
        go_wp2_with fail
        refine bodyPost_ret (v := .tuple #[.agg #[.int .i64 0, .slice none 0 0], .bool false]) (by simp [results, Try.results33, go_sem, c0, c1]) rfl ?_
        rw [hno.out]
        exact ⟨⟨none, 0, rfl, own_nil _ _⟩, (hF'.out.bel.setCell (by simp) _).setCell (by simp) _⟩
      · have hs1 : (s.toList = []) = False := by rw [Lib.toList_data, hl.out, eq_iff_iff, iff_false]; exact he
        have hs2 : s.toList.isEmpty = false := by rw [Lib.toList_data, hl.out]; simpa using he
        have hlen := Lib.hid (show l.length = s.size from hll.out)
        have he' := Lib.hid he
        clear he
        go_wp2_with fail
        refine (text_spec _ _ _ _ p3 _ hF'.out.own.row (by omega)).mono ?_
        rintro e w2 ⟨rfl, hb⟩
        have hF2 := Lib.hid (hF'.out.move hb)
        clear hF' c0 c1 cf d0 d1 hb
        have c0 := hF2.out.c0
        have c1 := hF2.out.c1
        have d0 := hF2.out.d0
        have d1 := hF2.out.d1
        have cf := hF2.out.cf
        generalize hT : textOf p1 p3 = T
        have hT := Lib.hid hT
        go_wp2_with fail
        · rename_i h
          have hno : fromOut l = Out.no := from_not hlen.out hp'.out (fun e => by rw [Lib.toList_data, hl.out, ← hT.out, e] at h; simp at h)
          refine bodyPost_ret (v := .tuple #[.agg #[.int .i64 0, .slice none 0 0], .bool false]) (by simp [results, Try.results33, go_sem, c0, c1]) rfl ?_
          rw [hno]
          exact ⟨⟨none, 0, rfl, own_nil _ _⟩, (hF2.out.bel.setCell (by simp) _).setCell (by simp) _⟩
        · rename_i h
          have hyes : fromOut l = ⟨true, p1, p3⟩ := from_yes hlen.out hp'.out he'.out (by rw [hT.out]; rw [Lib.toList_data, hl.out] at h; simpa using h)
          refine bodyPost_ret (v := .tuple #[.agg #[.int .i64 p1, .slice (some ⟨g, 0, none⟩) p3.length cap], .bool true]) (by simp [results, Try.results33, go_sem, c0, c1]) rfl ?_
          rw [hyes]
          exact ⟨⟨_, cap, rfl, ((hF2.out.own.store (by simp) _).store (by simp) _).mono (by omega)⟩, (hF2.out.bel.setCell (by simp) _).setCell (by simp) _⟩
end Go.Proofs.Ytiegonpgfbmidaa

