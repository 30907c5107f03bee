/-
  The contract of the program's SumsCount.
-/
import Derived.Test.YtnfkafaolelkbaaJr
import Derived.Test.YtnfkafaolelkbaaEp
namespace Go.Proofs.Ytnfkafaolelkbaa
set_option maxRecDepth 100000
open Go.RowKit

/-- Sums that are counted. -/
def ctdB (rows cols : List Int) : Bool := sumsB rows cols && decide (rows.length * cols.length ≤ 16)
theorem ctdB_parts {rows cols : List Int} (h : ctdB rows cols = true) : sumsB rows cols = true ∧ rows.length * cols.length ≤ 16 := by
  unfold ctdB at h
  rw [Bool.and_eq_true] at h
  exact ⟨h.1, of_decide_eq_true h.2⟩
def scO (rows cols : List Int) : Int := if ctdB rows cols = true then cntS rows cols else -1
set_option maxHeartbeats 800000 in
theorem counted_any (a : Option Addr) (n cap : Nat) (a' : Option Addr) (m cap' : Nat) (xs ys : List Int) (w : World) (h : Row w a n xs) (h' : Row w a' m ys) (hn : n ≤ 1048576) (hm : m ≤ 1048576) :
    Calls Try.prog 55 #[.slice a n cap, .slice a' m cap'] w fun e w' => e = .returned (.bool (ctdB xs ys)) ∧ Below w.heap.size w w' := by
  have l1 := h.1
  have l2 := h'.1
  have cv := sumsV_impl a a' n m cap cap' xs ys w h h' (by omega) (by omega)
  unfold ctdB
  rw [l1, l2]
  clear h h'
  by_cases hs : sumsB xs ys = true
  · rw [hs] at cv ⊢
    have hp := sumsB_parts hs
    rw [l1, l2] at hp
    have hmul : n * m ≤ 36 := Nat.le_trans (Nat.mul_le_mul hp.1.2 hp.2.1.2) (by decide)
    have e1 : (n : Int) * (m : Int) = ((n * m : Nat) : Int) := (Int.natCast_mul ..).symm
    obtain ⟨P, hP⟩ : ∃ P, n * m = P := ⟨_, rfl⟩
    rw [hP] at e1 hmul ⊢
    have e2 : IntKind.i64.wrap ((n : Int) * (m : Int)) = (P : Int) := by rw [e1]; exact IntWalk.i64_in _ ⟨by omega, by omega⟩
    have e3 : wrap64 ((n : Int) * (m : Int)) = (P : Int) := by rw [e1]; exact IntWalk.wrap64_in _ ⟨by omega, by omega⟩
    replace e1 := Lib.hid e1
    replace hP := Lib.hid hP
    clear hp
    go_enter Try.func55, Try.ntmps55
    go_wp2_with fail
    refine cv.mono ?_
    rintro e w2 ⟨rfl, hb⟩
    replace hb := Lib.hid hb
    go_wp2_with fail
    go_ret
    exact ⟨by simp; omega, hb.out⟩
  · have hs : sumsB xs ys = false := by simpa using hs
    rw [hs] at cv ⊢
    go_enter Try.func55, Try.ntmps55
    go_wp2_with fail
    refine cv.mono ?_
    rintro e w2 ⟨rfl, hb⟩
    replace hb := Lib.hid hb
    go_wp2_with fail
    go_ret
    exact ⟨rfl, hb.out⟩
theorem cho_small {W : Nat} (hW : W ≤ 6) {rows : List Int} : ∀ L, L ∈ choC W rows → L.length ≤ 64 ∧ ∀ x, x ∈ L → 0 ≤ x ∧ x ≤ 63 := fun L hL => by
  obtain ⟨r, _, rfl⟩ := List.mem_map.1 hL
  have h1 := with_len W r (pn W)
  have h2 := pn_64 hW
  exact ⟨by omega, fun x hx => by have := with_mem hx; omega⟩
set_option maxHeartbeats 800000 in
theorem sc_impl (a : Option Addr) (n cap : Nat) (a' : Option Addr) (m cap' : Nat) (xs ys : List Int) (w : World) (h : Row w a n xs) (h' : Row w a' m ys) (hn : n ≤ 1048576) (hm : m ≤ 1048576) :
    Calls Try.prog 21 #[.slice a n cap, .slice a' m cap'] w fun e w' => e = .returned (.int .i64 (scO xs ys)) ∧ Below w.heap.size w w' := by
  have l1 := h.1
  have l2 := h'.1
  have hc := counted_any a n cap a' m cap' xs ys w h h' hn hm
  have hR := Lib.hid h
  have hR' := Lib.hid h'
  unfold scO
  clear h h'
  by_cases hs : ctdB xs ys = true
  · rw [hs] at hc
    rw [if_pos hs]
    have hs2 := (ctdB_parts hs).1
    have hp := sumsB_parts hs2
    have hq := Lib.hid (cnt_ckr hs2)
    rw [l1, l2] at hp
    rw [l2] at hq
    have hbd := Lib.hid hp.2.2.2
    have hn6 := hp.1.2
    have hm1 := hp.2.1.1
    have hm6 := hp.2.1.2
    clear hp hs2
    go_enter Try.func21, Try.ntmps21
    go_wp2_with fail
    refine hc.mono ?_
    rintro e w2 ⟨rfl, hb⟩
    replace hR := Lib.hid (hR.out.bel hb)
    replace hR' := Lib.hid (hR'.out.bel hb)
    replace hb := Lib.hid hb
    go_wp2_with fail
    refine (choices_any m hm6 a n cap xs w2 hR.out hn6).mono ?_
    rintro e w3 ⟨⟨g, rfl, hA⟩, hb3⟩
    replace hR' := Lib.hid (hR'.out.bel hb3)
    replace hb := Lib.hid (hb.out.trans (hb3.mono hb.out.size))
    have hA2 := Lib.hid (hA.read (by rw [cho_len]; exact l1))
    clear hA hb3
    go_wp2_with fail
    refine (chosen_any _ n n (choC m xs) a' m cap' ys w3 hA2.out hR'.out hn6 hm1 hm6 (fun j hj => ⟨(hbd.out j hj).1, by have := (hbd.out j hj).2; omega⟩) (cho_small hm6)).mono ?_
    rintro e w4 ⟨rfl, hb4⟩
    rw [hq.out]
    replace hb := Lib.hid (hb.out.trans (hb4.mono hb.out.size))
    clear hb4
    go_wp2_with fail
    go_ret
    exact ⟨rfl, hb.out⟩
  · rw [if_neg hs]
    have hs : ctdB xs ys = false := by simpa using hs
    rw [hs] at hc
    go_enter Try.func21, Try.ntmps21
    go_wp2_with fail
    refine hc.mono ?_
    rintro e w2 ⟨rfl, hb⟩
    replace hb := Lib.hid hb
    go_wp2_with fail
    go_ret
    exact ⟨rfl, hb.out⟩
end Go.Proofs.Ytnfkafaolelkbaa

