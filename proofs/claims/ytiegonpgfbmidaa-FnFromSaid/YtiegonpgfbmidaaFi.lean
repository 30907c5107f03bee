/-
  The contract of the program's function that reads an image from a text.
-/
import Derived.Test.YtiegonpgfbmidaaFr
namespace Go.Proofs.Ytiegonpgfbmidaa
open Go.RowKit

theorem len_of (s : ByteArray) : s.data.toList.length = s.size := by simp
theorem txt_div {l : List UInt8} {W n : Nat} {xs : List Int} (h : Txt l W n xs) : Lib.indexByte l 10 = W ∧ 1 ≤ W ∧ W ≤ 6 ∧ l.length = n * (W + 1) ∧ 1 ≤ n ∧ n ≤ 6 := ⟨h.index, h.1.w1, h.1.w6, h.len, h.1.l1, h.1.l6⟩

set_option maxHeartbeats 400000 in
theorem from_no1 (s : ByteArray) (w : World) (h : inB (Lib.indexByte s.data.toList 10) 1 6 = false) :
    Calls Try.prog 32 #[.string s] w (Gives w (fromOut s.data.toList)) := by
  have hno : fromOut s.data.toList = Out.no := from_no fun W n xs hT => by
    have := txt_div hT
    rw [this.1, inB_yes (by omega) (by omega)] at h; cases h
  rw [hno]
  have h := Lib.hid h
  have hi := Lib.hid (Lib.indexByte_ge s.data.toList 10)
  clear hno
  go_enter Try.func32, Try.ntmps32
  go_wp2_with fail
  refine (index_any s 10 _).mono ?_
  rintro e w1 ⟨rfl, rfl⟩
  generalize hI : Lib.indexByte s.data.toList (Int.toNat 10).toUInt8 = I
  rw [show (Int.toNat 10).toUInt8 = 10 from rfl] at hI
  rw [hI] at h hi
  clear hI
  go_wp2_with fail
  refine (side_any _ _).mono ?_
  rintro e w1 ⟨rfl, rfl⟩
  rw [h.out]
  go_wp2_with fail
  refine bodyPost_ret (v := .tuple #[.agg #[.int .i64 0, .slice none 0 0], .bool false]) (by simp [results, Try.results32, go_sem]) rfl ?_
  exact ⟨⟨none, 0, rfl, own_nil _ _⟩, (Below.refl _ _).alloc (Nat.le_refl _) _⟩

set_option maxHeartbeats 400000 in
theorem from_no2 (s : ByteArray) (w : World) (hs : s.size ≤ 140737488355328) (W : Nat) (hI : Lib.indexByte s.data.toList 10 = W) (h1 : 1 ≤ W) (h6 : W ≤ 6) (h : s.size % (W + 1) ≠ 0) :
    Calls Try.prog 32 #[.string s] w (Gives w (fromOut s.data.toList)) := by
  have hno : fromOut s.data.toList = Out.no := from_no fun V n xs hT => by
    have := txt_div hT
    have e : V = W := by omega
    subst e
    rw [len_of] at this
    rw [this.2.2.2.1, Nat.mul_mod_left] at h
    exact h rfl
  rw [hno]
  have hI := Lib.hid hI
  have hin := Lib.hid (inB_yes (n := W) (lo := 1) (hi := 6) (by omega) (by omega))
  have hc : ((s.size : Int) % ((W : Int) + 1)) ≠ 0 := fun e => h (by have := Int.natCast_emod s.size (W + 1); rw [Int.natCast_add, Int.natCast_one, e] at this; omega)
  have hA : (((s.size : Int) % ((W : Int) + 1)) != 0) = true := by rw [bne_iff_ne]; exact hc
  have hB : ((s.size : Int) % ((W : Int) + 1) = 0) = False := by rw [eq_iff_iff, iff_false]; exact hc
  clear hc h
  clear hno
  go_enter Try.func32, Try.ntmps32
  go_wp2_with fail
  refine (index_any s 10 _).mono ?_
  rintro e w1 ⟨rfl, rfl⟩
  rw [show (Int.toNat 10).toUInt8 = 10 from rfl, hI.out]
  go_wp2_with fail
  refine (side_any _ _).mono ?_
  rintro e w1 ⟨rfl, rfl⟩
  rw [hin.out]
  go_wp2_with fail
  refine bodyPost_ret (v := .tuple #[.agg #[.int .i64 0, .slice none 0 0], .bool false]) (by simp [results, Try.results32, go_sem]) rfl ?_
  exact ⟨⟨none, 0, rfl, own_nil _ _⟩, (Below.refl _ _).alloc (Nat.le_refl _) _⟩

set_option maxHeartbeats 400000 in
theorem from_no3 (s : ByteArray) (w : World) (hs : s.size ≤ 140737488355328) (W n : Nat) (hI : Lib.indexByte s.data.toList 10 = W) (h1 : 1 ≤ W) (h6 : W ≤ 6) (h : s.size = n * (W + 1)) (hn : inB n 1 6 = false) :
    Calls Try.prog 32 #[.string s] w (Gives w (fromOut s.data.toList)) := by
  have hno : fromOut s.data.toList = Out.no := from_no fun V m xs hT => by
    have := txt_div hT
    have e : V = W := by omega
    subst e
    rw [len_of, h] at this
    have e := Nat.eq_of_mul_eq_mul_right (by omega) this.2.2.2.1
    subst e
    rw [inB_yes (by omega) (by omega)] at hn; cases hn
  rw [hno]
  have hI := Lib.hid hI
  have hn := Lib.hid hn
  have hin := Lib.hid (inB_yes (n := W) (lo := 1) (hi := 6) (by omega) (by omega))
  have hsz : (s.size : Int) = n * ((W : Int) + 1) := by rw [h]; simp
  have hdv : (s.size : Int) / ((W : Int) + 1) = n := by rw [hsz]; exact Int.mul_ediv_cancel _ (by omega)
  have hA : (((s.size : Int) % ((W : Int) + 1)) != 0) = false := by rw [hsz, Int.mul_emod_left]; rfl
  have hB : ((s.size : Int) % ((W : Int) + 1) = 0) = True := by rw [hsz, Int.mul_emod_left]; simp
  have hle : n ≤ s.size := by rw [h]; exact Nat.le_mul_of_pos_right _ (by omega)
  have hQ : wrap64 ((s.size : Int) / ((W : Int) + 1)) = n := by rw [hdv]; unfold wrap64; omega
  clear hno hsz hdv h
  go_enter Try.func32, Try.ntmps32
  go_wp2_with fail
  refine (index_any s 10 _).mono ?_
  rintro e w1 ⟨rfl, rfl⟩
  rw [show (Int.toNat 10).toUInt8 = 10 from rfl, hI.out]
  go_wp2_with fail
  refine (side_any _ _).mono ?_
  rintro e w1 ⟨rfl, rfl⟩
  rw [hin.out]
  go_wp2_with fail
  refine (side_any _ _).mono ?_
  rintro e w1 ⟨rfl, rfl⟩
  rw [hn.out]
  go_wp2_with fail
  refine bodyPost_ret (v := .tuple #[.agg #[.int .i64 0, .slice none 0 0], .bool false]) (by simp [results, Try.results32, go_sem]) rfl ?_
  exact ⟨⟨none, 0, rfl, own_nil _ _⟩, (Below.refl _ _).alloc (Nat.le_refl _) _⟩

theorem ext_line (s : ByteArray) (q w : Nat) : (s.extract q (q + w)).data.toList = (s.data.toList.drop q).take w := by
  rw [ByteArray.data_extract, Array.toList_extract]
  simp [List.extract_eq_take_drop]
theorem ext_size {s : ByteArray} {q w : Nat} (h : q + w ≤ s.size) : (s.extract q (q + w)).size = w := by rw [ByteArray.size_extract]; omega
theorem good_step {l : List UInt8} {w k q : Nat} (hq : k * (w + 1) = q) (hg : goodL l w k) (ho : okL (lineL l w k) w = true) (hn : l.getD (q + w) 0 = 10) : goodL l w (k + 1) := by
  intro i hi
  by_cases e : i = k
  · subst e; rw [hq]; exact ⟨fun j hj => by have := okL_iff.1 ho j hj; rwa [line_get hj, hq] at this, hn⟩
  · exact hg i (by omega)
theorem good_bad {l : List UInt8} {w k n q : Nat} (hq : k * (w + 1) = q) (hk : k < n) (h : okL (lineL l w k) w = false ∨ l.getD (q + w) 0 ≠ 10) : ¬ goodL l w n := by
  intro hg
  have hg := hg k hk
  rcases h with h | h
  · have : okL (lineL l w k) w = true := okL_iff.2 fun j hj => by rw [line_get hj]; exact hg.1 j hj
    rw [this] at h; cases h
  · rw [hq] at hg; exact h hg.2
theorem read_snoc (l : List UInt8) (w k : Nat) : readL l w (k + 1) = readL l w k ++ [rowV (lineL l w k) w] := by
  simp [readL, rowsL, List.range_succ]

/-- The middle of the walk: the result's box, the image's box with the rows so far. -/
structure Fs (B : Nat) (w wr : World) (W : Int) (a : Option Addr) (k cap : Nat) (xs : List Int) : Prop where
  c0 : wr.cell? ⟨B, 0, none⟩ = some (.int .i64 0)
  c1 : wr.cell? ⟨B, 1, none⟩ = some (.slice none 0 0)
  cf : ∀ o, wr.frozen? ⟨B, o, none⟩ = false
  d0 : wr.cell? ⟨B + 1, 0, none⟩ = some (.int .i64 W)
  d1 : wr.cell? ⟨B + 1, 1, none⟩ = some (.slice a k cap)
  df : ∀ o, wr.frozen? ⟨B + 1, o, none⟩ = false
  own : OwnI wr (B + 2) a k cap xs
  bel : Below B w wr

theorem Fs.blk {B : Nat} {w wr w1 : World} {W : Int} {a : Option Addr} {k cap : Nat} {xs : List Int} {o : Obj} (h : Fs B w wr W a k cap xs) (hg : (wr.alloc o).grownBy w1 (Value.slice a k cap).ownBlock) {b : Nat} (hb : b < B + 2) (hs : b < wr.heap.size) : w1.heap[b]? = wr.heap[b]? := by
  rw [hg.block b (by simp; omega) ?_, ((Below.refl _ _).alloc (Nat.le_refl _) o).block b hs]
  rcases h.own.cases with ⟨rfl, _, _⟩ | ⟨g, rfl, h2, _⟩
  · simp [Value.ownBlock]
  · simp [Value.ownBlock]; omega
theorem Fs.cell {B : Nat} {w wr w1 : World} {W : Int} {a : Option Addr} {k cap : Nat} {xs : List Int} {o : Obj} (h : Fs B w wr W a k cap xs) (hg : (wr.alloc o).grownBy w1 (Value.slice a k cap).ownBlock) {b i : Nat} {v : Value} (hb : b < B + 2) (hv : wr.cell? ⟨b, i, none⟩ = some v) : w1.cell? ⟨b, i, none⟩ = some v := by
  rw [World.cell?_of_block (h.blk hg hb (block_lt hv))]; exact hv
theorem Fs.froz {B : Nat} {w wr w1 : World} {W : Int} {a : Option Addr} {k cap : Nat} {xs : List Int} {o : Obj} (h : Fs B w wr W a k cap xs) (hg : (wr.alloc o).grownBy w1 (Value.slice a k cap).ownBlock) {b : Nat} (hb : b < B + 2) (hs : b < wr.heap.size) (hv : ∀ i, wr.frozen? ⟨b, i, none⟩ = false) : ∀ i, w1.frozen? ⟨b, i, none⟩ = false := fun i => by
  rw [World.frozen?_of_block (h.blk hg hb hs)]; exact hv i
theorem Fs.app {B : Nat} {w wr w1 : World} {W : Int} {a a' : Option Addr} {k cap cap' : Nat} {xs ys : List Int} {o : Obj} (h : Fs B w wr W a k cap xs) (hg : (wr.alloc o).grownBy w1 (Value.slice a k cap).ownBlock) (ho : OwnI w1 (B + 2) a' (k + 1) cap' ys) :
    Fs B w (w1.setCell ⟨B + 1, 1, none⟩ (.slice a' (k + 1) cap')) W a' (k + 1) cap' ys := by
  have hs1 : B + 1 < wr.heap.size := block_lt h.d0
  have hs0 : B < wr.heap.size := by omega
  have c0 := h.cell hg (by omega) h.c0
  have c1 := h.cell hg (by omega) h.c1
  have d0 := h.cell hg (by omega) h.d0
  have d1 := h.cell hg (by omega) h.d1
  have cf := h.froz hg (b := B) (by omega) hs0 h.cf
  have df := h.froz hg (b := B + 1) (by omega) hs1 h.df
  have hb : Below B w w1 := (h.bel.alloc (by omega) o).grown hg (by simp; omega) (fun g hg => by
    rcases h.own.cases with ⟨rfl, _, _⟩ | ⟨g', rfl, h2, _⟩
    · cases hg
    · simp [Value.ownBlock] at hg; omega)
  exact ⟨by go_simp, by go_simp, fun i => by rw [World.frozen?_setCell]; exact cf i, by go_simp, by go_simp, fun i => by rw [World.frozen?_setCell]; exact df i, ho.store (by simp) _, hb.setCell (by simp) _⟩

set_option maxHeartbeats 800000 in
theorem from_run (s : ByteArray) (w : World) (hs : s.size ≤ 140737488355328) (W n : Nat) (hI : Lib.indexByte s.data.toList 10 = W) (h1 : 1 ≤ W) (h6 : W ≤ 6) (h : s.size = n * (W + 1)) (hn1 : 1 ≤ n) (hn6 : n ≤ 6) :
    Calls Try.prog 32 #[.string s] w (Gives w (fromOut s.data.toList)) := by
  obtain ⟨R, hR⟩ : ∃ R, fromOut s.data.toList = R := ⟨_, rfl⟩
  have hbad : Hid (¬ goodL s.data.toList W n → R = Out.no) := fun hg => by
    rw [← hR]
    refine from_no fun V m xs hT => hg ?_
    have := txt_div hT
    have e : V = W := by omega
    subst e
    rw [len_of, h] at this
    have e := Nat.eq_of_mul_eq_mul_right (by omega) this.2.2.2.1
    subst e
    exact hT.good
  have hgood : Hid (goodL s.data.toList W n → R = ⟨true, W, readL s.data.toList W n⟩) := fun hg => by
    rw [← hR]; exact (read_txt h1 h6 hn1 hn6 (by rw [len_of]; exact h) hg).out
  rw [hR]
  clear hR
  have hI := Lib.hid hI
  have hin := Lib.hid (inB_yes (n := W) (lo := 1) (hi := 6) (by omega) (by omega))
  have hinn := Lib.hid (inB_yes (n := n) (lo := 1) (hi := 6) (by omega) (by omega))
  have hsz : (s.size : Int) = n * ((W : Int) + 1) := by rw [h]; simp
  have hdv : (s.size : Int) / ((W : Int) + 1) = n := by rw [hsz]; exact Int.mul_ediv_cancel _ (by omega)
  have hA : (((s.size : Int) % ((W : Int) + 1)) != 0) = false := by rw [hsz, Int.mul_emod_left]; rfl
  have hB : ((s.size : Int) % ((W : Int) + 1) = 0) = True := by rw [hsz, Int.mul_emod_left]; simp
  have hQ : wrap64 ((s.size : Int) / ((W : Int) + 1)) = n := by rw [hdv]; unfold wrap64; omega
  have h' := Lib.hid h
  clear hsz hdv h
  go_enter Try.func32, Try.ntmps32
  go_wp2_with fail
  refine (index_any s 10 _).mono ?_
  rintro e w1 ⟨rfl, rfl⟩
  rw [show (Int.toNat 10).toUInt8 = 10 from rfl, hI.out]
  go_wp2_with fail
  refine (side_any _ _).mono ?_
  rintro e w1 ⟨rfl, rfl⟩
  rw [hin.out]
  go_wp2_with fail
  refine (side_any _ _).mono ?_
  rintro e w1 ⟨rfl, rfl⟩
  rw [hinn.out]
  clear hA hB hQ
  go_wp2_with fail
  go_loopw [6] (fun i wr => ∃ (k : Nat) (a : Option Addr) (cap : Nat), k ≤ n ∧ i = .int .i64 (k * (W + 1) : Nat) ∧ Hid (goodL s.data.toList W k) ∧ Fs w.heap.size w wr W a k cap (readL s.data.toList W k)) (fun i _ => s.size - (intOf i).toNat)
  case atStart => exact ⟨0, none, 0, Nat.zero_le _, by simp, fun i hi => absurd hi (by omega), ⟨by go_simp, by go_simp, fun o => by go_simp, by go_simp, by go_simp, fun o => by go_simp, own_nil _ _, ((Below.refl _ _).alloc (Nat.le_refl _) _).alloc (by simp) _⟩⟩
  case round =>
    obtain ⟨k, a, cap, hk, rfl, hg, hF⟩ := hrel
    have hF := Lib.hid hF
    by_cases hlt : k < n
    · have hnext : (k + 1) * (W + 1) ≤ n * (W + 1) := Nat.mul_le_mul_right _ (by omega)
      rw [← h'.out, Nat.add_mul, Nat.one_mul] at hnext
      obtain ⟨q, hq⟩ : ∃ q, k * (W + 1) = q := ⟨_, rfl⟩
      rw [hq] at hnext ⊢
      have hq := Lib.hid hq
      have hbyte := Lib.hid (byte_get (s := s) (k := q + W) (by omega))
      have hl1 := ext_line s q W
      have hl2 := ext_size (s := s) (q := q) (w := W) (by omega)
      have hl3 : (s.data.toList.drop q).take W = lineL s.data.toList W k := by rw [← hq.out]; rfl
      have hrf := row_from (s.extract q (q + W)) wr (by omega)
      rw [hl1, hl2, hl3] at hrf
      clear hl1 hl2 hl3
      go_wp2_with fail
      refine hrf.mono ?_
      rintro e w1 ⟨rfl, rfl⟩
      clear hrf
      have c0 := hF.out.c0
      have c1 := hF.out.c1
      have cf := hF.out.cf
      have d0 := hF.out.d0
      have d1 := hF.out.d1
      have df := hF.out.df
      by_cases hok : okL (lineL s.data.toList W k) W = true
      · rw [rowRes, if_pos hok, hok]
        have hok' := Lib.hid hok
        clear hok
        obtain ⟨i0, hi, hz0, hz1, hz2⟩ := info_parts infoInt
        have hbd := rowV_bd (lineL s.data.toList W k) W
        by_cases h10 : s[q + W] = 10
        · have hb1 : ((s[q + W].toNat : Int) != 10) = false := by rw [h10]; rfl
          have hg' : Hid (goodL s.data.toList W (k + 1)) := good_step hq.out hg.out hok'.out (by rw [hbyte.out]; exact h10)
          clear h10 hg
          go_wp2_with (at_builtin; refine wpList_append_own _ rfl _ _ 23 rfl (w.heap.size + 2) 3 i0 (.int .i64 0) 1 8 Try.underlying23 hi hz0 hz1 hz2 rfl (by decide) _ k ((readL s.data.toList W k).map (Value.int .i64)) rfl (World.ownsRow.alloc hF.out.own _) ⟨wr.heap.size, 0, none⟩ 1 1 [.int .i64 (rowV (lineL s.data.toList W k) W)] rfl rfl ?c1 ?c2 ?c3 ?c4 ?c5 ?_)
          case c1 => intro j u hj; cases j with | zero => simp at hj; subst hj; simp [Addr.add] | succ j => simp at hj
          case c2 => intro u hu; simp at hu; subst hu; rfl
          case c3 => unfold maxLen; omega
          case c4 => omega
          case c5 => simp; have := hF.out.bel.size; have := block_lt d0; simp at this; omega
          intro v' w1 hown1 hgrow _
          obtain ⟨a', cap', rfl, ho⟩ := own_of (xs := readL s.data.toList W (k + 1)) (by rw [read_snoc, List.map_append]; exact hown1)
          have hF2 := Lib.hid (hF.out.app hgrow ho)
          have e0 := hF.out.cell hgrow (by omega) c0
          have e1 := hF.out.cell hgrow (by omega) c1
          have g0 := hF.out.cell hgrow (by omega) d0
          have g1 := hF.out.cell hgrow (by omega) d1
          have gf := hF.out.froz hgrow (b := w.heap.size + 1) (by omega) (by simpa using block_lt d0) df
          clear hown1 hgrow ho c0 c1 cf d0 d1 df hF hb1
          go_wp2
          have hqs : q + (W + 1) = (k + 1) * (W + 1) := by rw [Nat.add_mul, Nat.one_mul, hq.out]
          refine ⟨⟨k + 1, a', cap', by omega, by rw [← hqs]; simp, hg', hF2.out⟩, by simp [intOf]; omega⟩
        · have h10' : ¬ (s[q + W].toNat : Int) = 10 := fun e => h10 (UInt8.toNat_inj.1 (by have : (10 : UInt8).toNat = 10 := rfl; omega))
          have hb1 : ((s[q + W].toNat : Int) != 10) = true := by rw [bne_iff_ne]; exact h10'
          have hno := Lib.hid (hbad.out (good_bad hq.out hlt (.inr (by rw [hbyte.out]; exact h10))))
          clear h10 h10' hg d0 d1 df
          go_wp2_with fail
          refine bodyPost_ret (v := .tuple #[.agg #[.int .i64 0, .slice none 0 0], .bool false]) (by simp [results, Try.results32, go_sem, c0, c1]) rfl ?_
          rw [hno.out]
          exact ⟨⟨none, 0, rfl, own_nil _ _⟩, (hF.out.bel.setCell (by simp) _).setCell (by simp) _⟩
      · have hok : okL (lineL s.data.toList W k) W = false := by simpa using hok
        have hno := Lib.hid (hbad.out (good_bad hq.out hlt (.inl hok)))
        rw [rowRes_no hok, hok]
        clear hok hg d0 d1 df
        go_wp2_with fail
        refine bodyPost_ret (v := .tuple #[.agg #[.int .i64 0, .slice none 0 0], .bool false]) (by simp [results, Try.results32, go_sem, c0, c1]) rfl ?_
        rw [hno.out]
        exact ⟨⟨none, 0, rfl, own_nil _ _⟩, (hF.out.bel.setCell (by simp) _).setCell (by simp) _⟩
    · have : k = n := by omega
      subst this
      rw [← h'.out]
      have hyes := Lib.hid (hgood.out hg.out)
      have hrl : (readL s.data.toList W k).length = k := by simp [readL, rowsL]
      have hrl := Lib.hid hrl
      have c0 := hF.out.c0
      have c1 := hF.out.c1
      have cf := hF.out.cf
      have d0 := hF.out.d0
      have d1 := hF.out.d1
      have df := hF.out.df
      clear hg
      go_wp2_with fail
      refine bodyPost_ret (v := .tuple #[.agg #[.int .i64 W, .slice a k cap], .bool true]) (by simp [results, Try.results32, go_sem, c0, c1]) rfl ?_
      rw [hyes.out]
      refine ⟨⟨a, cap, by simp only [hrl.out], ?_⟩, (hF.out.bel.setCell (by simp) _).setCell (by simp) _⟩
      simp only [hrl.out]
      exact ((hF.out.own.store (by simp) _).store (by simp) _).mono (by omega)

theorem from_impl (s : ByteArray) (w : World) (hs : s.size ≤ 140737488355328) :
    Calls Try.prog 32 #[.string s] w (Gives w (fromOut s.data.toList)) := by
  by_cases h : inB (Lib.indexByte s.data.toList 10) 1 6 = true
  case neg => exact from_no1 s w (by simpa using h)
  have hI := inB_iff.1 h
  obtain ⟨W, hW⟩ := Int.eq_ofNat_of_zero_le (show 0 ≤ Lib.indexByte s.data.toList 10 by omega)
  by_cases hm : s.size % (W + 1) = 0
  case neg => exact from_no2 s w hs W hW (by omega) (by omega) hm
  obtain ⟨n, hn⟩ : ∃ n, s.size = n * (W + 1) := ⟨s.size / (W + 1), (Nat.div_mul_cancel (Nat.dvd_of_mod_eq_zero hm)).symm⟩
  by_cases h2 : inB n 1 6 = true
  case neg => exact from_no3 s w hs W n hW (by omega) (by omega) hn (by simpa using h2)
  have hN := inB_iff.1 h2
  exact from_run s w hs W n hW (by omega) (by omega) hn (by omega) (by omega)
end Go.Proofs.Ytiegonpgfbmidaa

