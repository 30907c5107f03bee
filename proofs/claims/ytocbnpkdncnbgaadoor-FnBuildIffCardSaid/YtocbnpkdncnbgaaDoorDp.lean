/-
  The contract of the model's BuildRow.
-/
import Derived.Test.YtocbnpkdncnbgaaDoorDo
import Derived.Test.YtocbnpkdncnbgaaDoorK
namespace Go.Proofs.YtocbnpkdncnbgaaDoor
set_option maxRecDepth 100000
open Go.RowKit

theorem conB_comm (xs ys : List Int) : conB ys xs = conB xs ys := bool_iff ⟨conB_flip, conB_flip⟩
set_option maxHeartbeats 2000000 in
theorem br_spec (a a' : Option Addr) (n m cap cap' : Nat) (xs ys : List Int) (w : World) (h : Row w a n xs) (h' : Row w a' m ys) (hm : n ≤ 9223372036854775807) (hm' : m ≤ 9223372036854775807) :
    Calls Tryd.prog 25 #[.slice a n cap, .slice a' m cap'] w (Gives w (brOut xs ys)) := by
  have hW0 : Below w.heap.size w (w.alloc (.cells #[.int .i64 0, .slice none 0 0] 27)) := (Below.refl _ _).alloc (Nat.le_refl _) _
  have cB := bi_spec a' a m n cap' cap ys xs (w.alloc (.cells #[.int .i64 0, .slice none 0 0] 27)) (h'.alloc _) (h.alloc _) hm' hm
  unfold biOut at cB
  unfold brOut
  rw [conB_comm] at cB
  by_cases hc : conB xs ys = true
  case neg =>
    rw [if_neg hc]
    rw [if_neg hc] at cB
    replace cB := Lib.hid cB
    clear h h'
    go_enter Tryd.func25, Tryd.ntmps25
    go_wp2_with fail
    refine cB.out.mono ?_
    rintro e w1 ⟨⟨ab, cb, rfl, ho⟩, hb⟩
    obtain ⟨hc1, hf1⟩ := bcell hb
    have hz : w.heap.size < w1.heap.size := by have := hb.size; simp at this; omega
    have y0 : w1.cell? ⟨w.heap.size, 0, none⟩ = some (.int .i64 0) := by rw [hc1 _ _ (by simp)]; go_simp
    have y1 : w1.cell? ⟨w.heap.size, 1, none⟩ = some (.slice none 0 0) := by rw [hc1 _ _ (by simp)]; go_simp
    have yf : ∀ o, w1.frozen? ⟨w.heap.size, o, none⟩ = false := fun o => by rw [hf1 _ _ (by simp)]; go_simp
    have bb1 := Lib.hid (hW0.trans (hb.mono (by simp)))
    clear hb hc1 hf1 ho hW0
    unfold Out.no
    go_wp2_with fail
    have q0 := World.cell?_alloc_some (o := .cells #[.int .i64 0, .slice ab 0 cb] 27) (set2_c0 (u0 := .int .i64 0) (u1 := .slice none 0 0) y0)
    have q1 := World.cell?_alloc_some (o := .cells #[.int .i64 0, .slice ab 0 cb] 27) (set2_c1 (u0 := .int .i64 0) (u1 := .slice none 0 0) y1)
    refine bodyPost_ret (v := .tuple #[.agg #[.int .i64 0, .slice none 0 0], .bool false]) (by simp [results, Tryd.results25, go_sem, q0, q1]) rfl ?_
    exact ⟨⟨none, 0, rfl, own_nil _ _⟩, by first | exact ((bb1.out.alloc bb1.out.size _).setCell (by simp) _).setCell (by simp) _ | exact ((bb1.out.setCell (by simp) _).setCell (by simp) _).alloc (by simpa [World.setCell] using bb1.out.size) _⟩
  rw [if_pos hc]
  rw [if_pos hc] at cB
  have hv := conB_valid hc
  have hI := build_im (sumsB_flip hv)
  have hT := buildR_turn hv
  have hp := sumsB_parts hv
  have lx := h.1
  have ly := h'.1
  rw [lx, ly] at hp hI hT
  have hl : (buildL ys xs).length = m := (build_len ys xs).trans ly
  have cT : ∀ (wx : World) (s : Option Addr) (c : Nat), Row wx s m (buildL ys xs) → Calls Tryd.prog 51 #[.agg #[.int .i64 n, .slice s m c]] wx (Gives wx ⟨true, m, buildR xs ys⟩) := fun wx s c hR => by
    have := turn_spec n s m c (buildL ys xs) wx hR (by have := hI.l6; omega)
    rw [if_pos hI.valid, Int.toNat_natCast, hT] at this
    exact this
  unfold Gives at cB
  dsimp only at cB
  rw [hl, lx] at cB
  have hRl : (buildR xs ys).length = n := (buildR_len xs ys).trans lx
  replace cB := Lib.hid cB
  replace cT := Lib.hid cT
  replace hRl := Lib.hid hRl
  have lyH := Lib.hid ly
  clear h h' hc hv hI hT lx ly hl
  go_enter Tryd.func25, Tryd.ntmps25
  go_wp2_with fail
  refine cB.out.mono ?_
  rintro e w1 ⟨⟨ab, cb, rfl, ho⟩, hb⟩
  have hz : w.heap.size < w1.heap.size := by have := hb.size; simp at this; omega
  have y0 : w1.cell? ⟨w.heap.size, 0, none⟩ = some (.int .i64 0) := by rw [(bcell hb).1 _ _ (by simp)]; go_simp
  have y1 : w1.cell? ⟨w.heap.size, 1, none⟩ = some (.slice none 0 0) := by rw [(bcell hb).1 _ _ (by simp)]; go_simp
  have yf : ∀ o, w1.frozen? ⟨w.heap.size, o, none⟩ = false := fun o => by rw [(bcell hb).2 _ _ (by simp)]; go_simp
  have bb1 := Lib.hid (hW0.trans (hb.mono (by simp)))
  have hR := Lib.hid ho.row
  clear hb ho hW0 cB
  obtain ⟨w2, hw2⟩ : ∃ w2, w1.alloc (.cells #[.int .i64 n, .slice ab m cb] 27) = w2 := ⟨_, rfl⟩
  have hb2 : Below w1.heap.size w1 w2 := by rw [← hw2]; exact (Below.refl _ _).alloc (Nat.le_refl _) _
  have a0 : w2.cell? ⟨w1.heap.size, 0, none⟩ = some (.int .i64 n) := by rw [← hw2]; simp
  have a1 : w2.cell? ⟨w1.heap.size, 1, none⟩ = some (.slice ab m cb) := by rw [← hw2]; simp
  replace y0 := kept hb2 (block_lt y0) y0
  replace y1 := kept hb2 (block_lt y1) y1
  replace yf : ∀ o, w2.frozen? ⟨w.heap.size, o, none⟩ = false := fun o => (hb2.frozen (p := ⟨w.heap.size, o, none⟩) hz).trans (yf o)
  replace bb1 := Lib.hid (bb1.out.trans (hb2.mono bb1.out.size))
  replace hR := Lib.hid (hR.out.bel hb2)
  have hz2 : w.heap.size < w2.heap.size := by have := hb2.size; omega
  clear hb2
  go_upto_region 4 with fail
  (try rw [hw2])
  clear hw2
  generalize w1.heap.size = k1 at *
  go_wp2_with fail
  refine (cT.out w2 ab cb hR.out).mono ?_
  rintro e w3 ⟨⟨ag, cg, rfl, ho⟩, hb3⟩
  replace y0 := kept hb3 (block_lt y0) y0
  replace y1 := kept hb3 (block_lt y1) y1
  replace yf : ∀ o, w3.frozen? ⟨w.heap.size, o, none⟩ = false := fun o => (hb3.frozen (p := ⟨w.heap.size, o, none⟩) hz2).trans (yf o)
  have hz3 : w.heap.size < w3.heap.size := by have := hb3.size; omega
  have ho3 := Lib.hid (ho.mono (show w.heap.size ≤ w2.heap.size by omega))
  have ho4 : Hid (OwnI w3 (w.heap.size + 1) ag (buildR xs ys).length cg (buildR xs ys)) := ho.mono (show w.heap.size + 1 ≤ w2.heap.size by omega)
  replace bb1 := Lib.hid (bb1.out.trans (hb3.mono bb1.out.size))
  clear hb3 ho hR a0 a1 cT ho3
  dsimp only
  rw [hRl.out] at ho4 ⊢
  go_wp2_with fail
  have q0 := World.cell?_alloc_some (o := .cells #[.int .i64 m, .slice ag n cg] 27) (set2_c0 (u0 := .int .i64 m) (u1 := .slice ag n cg) y0)
  have q1 := World.cell?_alloc_some (o := .cells #[.int .i64 m, .slice ag n cg] 27) (set2_c1 (u0 := .int .i64 m) (u1 := .slice ag n cg) y1)
  refine bodyPost_ret (v := .tuple #[.agg #[.int .i64 m, .slice ag n cg], .bool true]) (by simp [results, Tryd.results25, go_sem, q0, q1]) rfl ?_
  refine ⟨⟨ag, cg, by rw [hRl.out, lyH.out], ?_⟩, by first | exact ((bb1.out.alloc bb1.out.size _).setCell (by simp) _).setCell (by simp) _ | exact ((bb1.out.setCell (by simp) _).setCell (by simp) _).alloc (by simpa [World.setCell] using bb1.out.size) _⟩
  show OwnI _ _ _ (buildR xs ys).length _ _
  rw [hRl.out]
  first | exact (((ho4.out.bel ((Below.refl _ _).alloc (Nat.le_refl _) _)).store (by simp) _).store (by simp) _).mono (by omega) | exact (((ho4.out.store (by simp) _).store (by simp) _).bel ((Below.refl _ _).alloc (Nat.le_refl _) _)).mono (by omega)
end Go.Proofs.YtocbnpkdncnbgaaDoor

