/-
  The contracts of errors.Is at this package's error value, of imageError and of SumsConsistent.
-/
import Derived.Test.YtnfkafaolelkbaaGreatDoorCa
import Derived.Test.YtnfkafaolelkbaaGreatDoorPa
import Derived.Test.YtnfkafaolelkbaaGreatDoorK
import Derived.LaidEql
import Derived.Stop.Asserts
namespace Go.Proofs.YtnfkafaolelkbaaGreatDoor
set_option maxRecDepth 100000
open Go.RowKit Go.Extern.Stop Go.Stop Go.Extern

/-- The error value of this package. -/
abbrev errV (p : Addr) : Value := .iface 161 (.pointer (some p))

theorem esTypeOf (v : Value) (w : World) : (Extern.ReflectliteType.typeOf #[.iface 161 v]).run Tryz.prog w = .ok (.iface 114 (.agg #[.pointer (some ⟨1, 161, none⟩)])) w := by kernel_rfl
def cmpFn : Array Value → Sem Value := Extern.ReflectliteType.method fun t => do Extern.Rtype.noPackHeld "Comparable" t; pure (.bool (← typeInfo t).comparable)
theorem esComparable (w : World) : (cmpFn #[.agg #[.pointer (some ⟨1, 161, none⟩)]]).run Tryz.prog w = .ok (.bool true) w := by kernel_rfl
theorem esComp : (Tryz.prog.info? 161).map (·.comparable) = some true := by kernel_rfl
theorem esSize : (Tryz.prog.info? 185).map (·.size) = some 1 := by kernel_rfl

/-- errors.Is of the error value and itself. -/
theorem is_same (a : Addr) (w : World) :
    Calls Tryz.prog 47 #[errV a, errV a] w fun e w' => e = .returned (.bool true) ∧ w' = w := by
  obtain ⟨i, hi, hcmp⟩ := Option.map_eq_some_iff.1 esComp
  obtain ⟨j, hj, hjs⟩ := Option.map_eq_some_iff.1 esSize
  have h8 := @run_callFunc_extern Tryz.prog 64 _ Extern.ReflectliteType.typeOf Tryz.func64 (by kernel_rfl) (by kernel_rfl) (by kernel_rfl) (by kernel_rfl)
  have h32 := @run_callFunc_extern Tryz.prog 136 _ cmpFn Tryz.func136 (by kernel_rfl) (by kernel_rfl) (by kernel_rfl) (by kernel_rfl)
  have tT := esTypeOf
  have cT := esComparable
  have mR : ∀ (v : Value) (w : World), (Go.method 297 114 v "Comparable").run Tryz.prog w = .ok (136, v) w := fun v w => by kernel_rfl
  have heq := run_eql_iface_ptr_same (P := Tryz.prog) w a Tryz.underlying72 Tryz.underlying161 hi hcmp hj
  go_enter Tryz.func47, Tryz.ntmps47
  go_wp2
  refine wp_loop_rounds 1 ?_
  rw [rounds_succ]
  go_wp2
  go_ret
  exact ⟨rfl, rfl⟩

/-- errors.Is of no error. -/
theorem is_nil (b : Addr) (w : World) :
    Calls Tryz.prog 47 #[.nilIface, errV b] w fun e w' => e = .returned (.bool false) ∧ w' = w := by
  have hn := run_eql_iface_nil_left (P := Tryz.prog) w 161 (.pointer (some b)) Tryz.underlying72
  go_enter Tryz.func47, Tryz.ntmps47
  go_wp2
  go_ret
  exact ⟨rfl, rfl⟩

/-- The package's variable holds its error value. -/
def Sent (w : World) (p : Addr) : Prop := w.cell? ⟨0, 0, none⟩ = some (errV p)
/-- What imageError gives. -/
def errOf (b : Bool) (p : Addr) : Value := if b = true then .nilIface else errV p

set_option maxHeartbeats 1600000 in
theorem imageError_impl (a a' : Option Addr) (n m cap cap' : Nat) (xs ys : List Int) (p : Addr) (w : World) (h : Row w a n xs) (h' : Row w a' m ys) (hE : w.cell? ⟨0, 0, none⟩ = some (errV p)) (hv : sumsB xs ys = true) :
    Calls Tryz.prog 48 #[.slice a n cap, .slice a' m cap'] w fun e w' => e = .returned (errOf (conB xs ys) p) ∧ Below w.heap.size w w' := by
  obtain ⟨hx, hy⟩ := sums_el hv
  have hp := sumsB_parts hv
  rw [h.1, h'.1] at hp
  obtain ⟨⟨hn1, hn6⟩, ⟨hm1, hm6⟩, hbx, _⟩ := hp
  have hcon := conB_in hv
  rw [h'.1] at hcon
  have hP := Lib.hid (sort_par hx)
  have hQ := Lib.hid (sort_par hy)
  have lx := h.1
  have hb : Hid (∀ i, i < (sortL xs).length → (sortL xs).getD i 0 ≤ m) := fun i hi => by
    rw [getD_elem hi]
    have hm := (sort_perm hx).mem_iff.1 (List.getElem_mem hi)
    obtain ⟨j, hj, e⟩ := List.getElem_of_mem hm
    have := (hbx j (by omega)).2
    rw [getD_elem hj] at this; omega
  have hC := Lib.hid (hP.out.conj hm6)
  have hx := Lib.hid hx
  have hy := Lib.hid hy
  have h := Lib.hid h
  have h' := Lib.hid h'
  obtain ⟨B, hB⟩ : ∃ B, conB xs ys = B := ⟨_, rfl⟩
  rw [hB] at hcon ⊢
  replace hcon := Lib.hid hcon
  clear hv hB hbx
  go_enter Tryz.func48, Tryz.ntmps48
  go_wp2_with fail
  refine (ptOf_impl a n cap xs w h.out hx.out).mono ?_
  rintro e w1 ⟨⟨a1, c1, rfl, ho⟩, hb1⟩
  have z1 := hb1.size
  have es1 := kept hb1 (block_lt hE) hE
  have hR1 := Lib.hid ho.row
  replace h' := Lib.hid (h'.out.bel hb1)
  replace hb1 := Lib.hid hb1
  clear ho hE
  go_wp2_with fail
  refine (mconj_impl a1 n c1 (sortL xs) m w1 hR1.out hP.out hm6 hb.out).mono ?_
  rintro e w2 ⟨⟨a2, c2, rfl, ho⟩, hb2⟩
  have z2 := hb2.size
  have es2 := kept hb2 (block_lt es1) es1
  have k2 := ho.cap
  have hR2 := Lib.hid ho.row
  replace h' := Lib.hid (h'.out.bel hb2)
  replace hb1 := Lib.hid (hb1.out.trans (hb2.mono z1))
  clear ho es1 hb2 hR1
  go_wp2_with fail
  refine (ptOf_impl a' m cap' ys w2 h'.out hy.out).mono ?_
  rintro e w3 ⟨⟨a3, c3, rfl, ho⟩, hb3⟩
  have es3 := kept hb3 (block_lt es2) es2
  have k3 := ho.cap
  have hR3 := Lib.hid ho.row
  replace hR2 := Lib.hid (hR2.out.bel hb3)
  replace hb1 := Lib.hid (hb1.out.trans (hb3.mono (by omega)))
  clear ho es2 hb3
  have hc := mbelow_impl a3 a2 m m c3 c2 (sortL ys) (conjL (sortL xs) m) w3 hR3.out hR2.out k3 k2 hQ.out hC.out
  rw [← hcon.out] at hc
  go_wp2_with fail
  refine hc.mono ?_
  rintro e w4 ⟨rfl, rfl⟩
  clear hc
  cases B with
  | true =>
    go_wp2_with fail
    go_ret
    exact ⟨rfl, hb1.out⟩
  | false =>
    go_wp2_with fail
    go_ret
    exact ⟨rfl, hb1.out⟩

set_option maxHeartbeats 1600000 in
theorem con_impl (a a' : Option Addr) (n m cap cap' : Nat) (xs ys : List Int) (p : Addr) (w : World) (h : Row w a n xs) (h' : Row w a' m ys) (hE : w.cell? ⟨0, 0, none⟩ = some (errV p)) (hm : n ≤ 9223372036854775807) (hm' : m ≤ 9223372036854775807) :
    Calls Tryz.prog 25 #[.slice a n cap, .slice a' m cap'] w fun e w' => e = .returned (.bool (conB xs ys)) ∧ Below w.heap.size w w' := by
  by_cases hv : sumsB xs ys = true
  case neg =>
    have hv : sumsB xs ys = false := by simpa using hv
    have c1 : ∀ q : Bw w, Calls Tryz.prog 41 #[.slice a n cap, .slice a' m cap'] q.v (fun e w' => e = .returned (.bool false) ∧ ∃ r : Bw w, w' = r.v) := fun q =>
      bw_of ((sumsV_impl a a' n m cap cap' xs ys q.v (bw_row h q) (bw_row h' q) hm hm').mono fun e w' hh => ⟨by rw [hh.1, hv], hh.2⟩)
    rw [conB_no hv]
    have c1 := Lib.hid c1
    clear hv h h' hE
    go_enter Tryz.func25, Tryz.ntmps25
    go_wp2_with fail
    refine wp_region_bw (by kernel_rfl) (by kernel_rfl) ?_
    repeat (go_big_quiet_step (with_reducible exact c1.out _))
    refine wpQuiet_nil ?_
    intro _ hw'
    obtain ⟨pq, rfl⟩ := hw'
    go_wp2_with fail
    go_ret
    exact ⟨rfl, pq.h⟩
  have c1 : ∀ q : Bw w, Calls Tryz.prog 41 #[.slice a n cap, .slice a' m cap'] q.v (fun e w' => e = .returned (.bool true) ∧ ∃ r : Bw w, w' = r.v) := fun q =>
    bw_of ((sumsV_impl a a' n m cap cap' xs ys q.v (bw_row h q) (bw_row h' q) hm hm').mono fun e w' hh => ⟨by rw [hh.1, hv], hh.2⟩)
  have es := fun q : Bw w => bw_cell hE q
  obtain ⟨B, hB⟩ : ∃ B, conB xs ys = B := ⟨_, rfl⟩
  have c2 : ∀ q : Bw w, Calls Tryz.prog 48 #[.slice a n cap, .slice a' m cap'] q.v (fun e w' => e = .returned (errOf B p) ∧ ∃ r : Bw w, w' = r.v) := fun q =>
    bw_of ((imageError_impl a a' n m cap cap' xs ys p q.v (bw_row h q) (bw_row h' q) (es q) hv).mono fun e w' hh => ⟨by rw [hh.1, hB], hh.2⟩)
  rw [hB]
  have c1 := Lib.hid c1
  have c2 := Lib.hid c2
  clear hv h h' hE hB
  cases B with
  | true =>
    have c3 : Hid (∀ q : Bw w, Calls Tryz.prog 47 #[.nilIface, errV p] q.v (fun e w' => e = .returned (.bool false) ∧ ∃ r : Bw w, w' = r.v)) := fun q =>
      (is_nil p q.v).mono fun e w' hh => ⟨hh.1, q, hh.2⟩
    have c2 : Hid (∀ q : Bw w, Calls Tryz.prog 48 #[.slice a n cap, .slice a' m cap'] q.v (fun e w' => e = .returned .nilIface ∧ ∃ r : Bw w, w' = r.v)) := c2.out
    go_enter Tryz.func25, Tryz.ntmps25
    go_wp2_with fail
    refine wp_region_bw (by kernel_rfl) (by kernel_rfl) ?_
    repeat (go_big_quiet_step (first | (with_reducible exact c1.out _) | (with_reducible exact c2.out _) | (with_reducible exact c3.out _)))
    refine wpQuiet_nil ?_
    intro _ hw'
    obtain ⟨pq, rfl⟩ := hw'
    go_wp2_with fail
    go_ret
    exact ⟨rfl, pq.h⟩
  | false =>
    have c3 : Hid (∀ q : Bw w, Calls Tryz.prog 47 #[errV p, errV p] q.v (fun e w' => e = .returned (.bool true) ∧ ∃ r : Bw w, w' = r.v)) := fun q =>
      (is_same p q.v).mono fun e w' hh => ⟨hh.1, q, hh.2⟩
    have c2 : Hid (∀ q : Bw w, Calls Tryz.prog 48 #[.slice a n cap, .slice a' m cap'] q.v (fun e w' => e = .returned (errV p) ∧ ∃ r : Bw w, w' = r.v)) := c2.out
    go_enter Tryz.func25, Tryz.ntmps25
    go_wp2_with fail
    refine wp_region_bw (by kernel_rfl) (by kernel_rfl) ?_
    repeat (go_big_quiet_step (first | (with_reducible exact c1.out _) | (with_reducible exact c2.out _) | (with_reducible exact c3.out _)))
    refine wpQuiet_nil ?_
    intro _ hw'
    obtain ⟨pq, rfl⟩ := hw'
    go_wp2_with fail
    go_ret
    exact ⟨rfl, pq.h⟩

theorem con_ok {xs ys : List Int} {B : Bool} (hB : conB xs ys = B) (s s' : Option Addr) (n c m c' : Nat) (p : Addr) (w : World) (hR : Row w s n xs) (hR' : Row w s' m ys) (hE : w.cell? ⟨0, 0, none⟩ = some (errV p)) (hn : n ≤ 13) (hm : m ≤ 13) :
    Calls Tryz.prog 25 #[.slice s n c, .slice s' m c'] w fun e w' => e = .returned (.bool B) ∧ Below w.heap.size w w' := by
  subst hB; exact con_impl s s' n m c c' xs ys p w hR hR' hE (by omega) (by omega)
end Go.Proofs.YtnfkafaolelkbaaGreatDoor

