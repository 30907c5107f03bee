/-
  The closed facts on the translation's head: its first words are read off its letters, once; the rest of its letters is never looked into.
-/
import Derived.Test.YtemmfnlnhekclaaRows
import Derived.JoinedOf
namespace Go.Proofs.Ytemmfnlnhekclaa
set_option maxRecDepth 100000

theorem words_split : ∀ (a r : List Char), a.all (fun c => c != Char.ofNat 32) = true → wordsSigns (a ++ Char.ofNat 32 :: r) = a :: wordsSigns r
  | [], r, _ => by
    show wordsSigns (Char.ofNat 32 :: r) = [] :: wordsSigns r
    rw [show Char.ofNat 32 = (Char.ofNat 32 : Char) from rfl]
    exact wordsSigns.eq_2 r
  | c :: a, r, h => by
    simp only [List.all_cons, Bool.and_eq_true, bne_iff_ne] at h
    have ih := words_split a r h.2
    show wordsSigns (c :: (a ++ Char.ofNat 32 :: r)) = (c :: a) :: wordsSigns r
    rw [wordsSigns.eq_3 _ _ (fun e => h.1 e), ih]

def head1 : List Char := [104, 97, 114, 110, 101, 115, 115].map Char.ofNat
def head2 : List Char := [49, 53, 54, 100, 54, 48, 53, 97, 48, 55, 52, 57, 100, 48, 97, 48, 99, 55, 55, 49, 54, 101, 52, 56, 54, 101, 102, 54, 54, 100, 53, 57, 54, 55, 56, 56, 100, 52, 56, 53, 53, 57, 53, 50, 97, 48, 98, 97, 98, 51, 101, 57, 97, 49, 52, 50, 52, 49, 52, 49, 102, 97, 99, 54].map Char.ofNat
def head3 : List Char := [99, 117, 116].map Char.ofNat
def head4 : List Char := [97, 116, 32, 108, 111, 111, 112, 46, 101, 120, 97, 109, 112, 108, 101, 47, 100, 105, 115, 99, 114, 101, 116, 101, 116, 111, 109, 111, 103, 114, 97, 112, 104, 121, 47, 108, 97, 119, 115, 46, 70, 110, 83, 116, 101, 112, 32, 108, 111, 111, 112, 46, 101, 120, 97, 109, 112, 108, 101, 47, 100, 105, 115, 99, 114, 101, 116, 101, 116, 111, 109, 111, 103, 114, 97, 112, 104, 121, 47, 108, 97, 119, 115, 46, 70, 110, 76, 105, 110, 101, 32, 108, 111, 111, 112, 46, 101, 120, 97, 109, 112, 108, 101, 47, 100, 105, 115, 99, 114, 101, 116, 101, 116, 111, 109, 111, 103, 114, 97, 112, 104, 121, 47, 108, 97, 119, 115, 46, 70, 110, 68, 105, 114, 83, 117, 109, 115, 32, 108, 111, 111, 112, 46, 101, 120, 97, 109, 112, 108, 101, 47, 100, 105, 115, 99, 114, 101, 116, 101, 116, 111, 109, 111, 103, 114, 97, 112, 104, 121, 47, 108, 97, 119, 115, 46, 70, 110, 68, 105, 114, 82, 111, 119, 115, 32, 108, 111, 111, 112, 46, 101, 120, 97, 109, 112, 108, 101, 47, 100, 105, 115, 99, 114, 101, 116, 101, 116, 111, 109, 111, 103, 114, 97, 112, 104, 121, 47, 108, 97, 119, 115, 46, 70, 110, 68, 105, 114, 80, 117, 116, 32, 108, 111, 111, 112, 46, 101, 120, 97, 109, 112, 108, 101, 47, 100, 105, 115, 99, 114, 101, 116, 101, 116, 111, 109, 111, 103, 114, 97, 112, 104, 121, 47, 108, 97, 119, 115, 46, 70, 110, 68, 105, 114, 77, 105, 114, 114, 111, 114, 32, 108, 111, 111, 112, 46, 101, 120, 97, 109, 112, 108, 101, 47, 100, 105, 115, 99, 114, 101, 116, 101, 116, 111, 109, 111, 103, 114, 97, 112, 104, 121, 47, 108, 97, 119, 115, 46, 70, 110, 68, 105, 114, 84, 117, 114, 110, 32, 108, 111, 111, 112, 46, 101, 120, 97, 109, 112, 108, 101, 47, 100, 105, 115, 99, 114, 101, 116, 101, 116, 111, 109, 111, 103, 114, 97, 112, 104, 121, 47, 108, 97, 119, 115, 46, 70, 110, 68, 105, 114, 79, 116, 104, 101, 114, 32, 108, 111, 111, 112, 46, 101, 120, 97, 109, 112, 108, 101, 47, 100, 105, 115, 99, 114, 101, 116, 101, 116, 111, 109, 111, 103, 114, 97, 112, 104, 121, 47, 108, 97, 119, 115, 46, 70, 110, 76, 105, 110, 101, 78, 101, 120, 116, 32, 108, 111, 111, 112, 46, 101, 120, 97, 109, 112, 108, 101, 47, 100, 105, 115, 99, 114, 101, 116, 101, 116, 111, 109, 111, 103, 114, 97, 112, 104, 121, 47, 108, 97, 119, 115, 46, 70, 110, 68, 105, 114, 72, 97, 108, 102, 32, 108, 111, 111, 112, 46, 101, 120, 97, 109, 112, 108, 101, 47, 100, 105, 115, 99, 114, 101, 116, 101, 116, 111, 109, 111, 103, 114, 97, 112, 104, 121, 47, 108, 97, 119, 115, 46, 70, 110, 68, 105, 114, 83, 104, 111, 114, 116, 32, 108, 111, 111, 112, 46, 101, 120, 97, 109, 112, 108, 101, 47, 100, 105, 115, 99, 114, 101, 116, 101, 116, 111, 109, 111, 103, 114, 97, 112, 104, 121, 47, 108, 97, 119, 115, 46, 70, 110, 83, 119, 105, 116, 99, 104, 68, 105, 97, 103, 111, 110, 97, 108, 32, 108, 111, 111, 112, 46, 101, 120, 97, 109, 112, 108, 101, 47, 100, 105, 115, 99, 114, 101, 116, 101, 116, 111, 109, 111, 103, 114, 97, 112, 104, 121, 47, 108, 97, 119, 115, 46, 70, 110, 69, 120, 97, 99, 116, 68, 105, 114, 83, 116, 101, 112, 32, 108, 111, 111, 112, 46, 101, 120, 97, 109, 112, 108, 101, 47, 100, 105, 115, 99, 114, 101, 116, 101, 116, 111, 109, 111, 103, 114, 97, 112, 104, 121, 47, 108, 97, 119, 115, 46, 70, 110, 69, 120, 97, 99, 116, 68, 105, 114, 76, 105, 110, 101, 32, 108, 111, 111, 112, 46, 101, 120, 97, 109, 112, 108, 101, 47, 100, 105, 115, 99, 114, 101, 116, 101, 116, 111, 109, 111, 103, 114, 97, 112, 104, 121, 47, 108, 97, 119, 115, 46, 70, 110, 69, 120, 97, 99, 116, 68, 105, 114, 76, 105, 110, 101, 115, 32, 108, 111, 111, 112, 46, 101, 120, 97, 109, 112, 108, 101, 47, 100, 105, 115, 99, 114, 101, 116, 101, 116, 111, 109, 111, 103, 114, 97, 112, 104, 121, 47, 108, 97, 119, 115, 46, 70, 110, 69, 120, 97, 99, 116, 68, 105, 114, 83, 117, 109, 115].map Char.ofNat
theorem headIs : Try.prog.initOrder = String.ofList (head1 ++ Char.ofNat 32 :: (head2 ++ Char.ofNat 32 :: (head3 ++ Char.ofNat 32 :: head4))) := by kernel_rfl
theorem headBehind (r : List (List Char)) : behindMainWord (head1 :: head2 :: r) = r := by
  have e : ((head1 == "harness".toList || head1 == "ownmain".toList) && isSumSigns head2) = true := by kernel_rfl
  show (if ((head1 == "harness".toList || head1 == "ownmain".toList) && isSumSigns head2) = true then r else head1 :: head2 :: r) = r
  rw [if_pos e]
theorem plain1 : head1.all (fun c => c != Char.ofNat 32) = true := by kernel_rfl
theorem plain2 : head2.all (fun c => c != Char.ofNat 32) = true := by kernel_rfl
theorem plain3 : head3.all (fun c => c != Char.ofNat 32) = true := by kernel_rfl
theorem words3 (h4 : List Char) : wordsSigns (head1 ++ Char.ofNat 32 :: (head2 ++ Char.ofNat 32 :: (head3 ++ Char.ofNat 32 :: h4))) = head1 :: head2 :: head3 :: wordsSigns h4 := by
  rw [words_split _ _ plain1, words_split _ _ plain2, words_split _ _ plain3]
theorem split_of (s : String) (h4 : List Char) (h : s = String.ofList (head1 ++ Char.ofNat 32 :: (head2 ++ Char.ofNat 32 :: (head3 ++ Char.ofNat 32 :: h4)))) :
    ∃ rest, behindMainWord (wordsSigns s.toList) = head3 :: rest :=
  ⟨wordsSigns h4, by rw [h, String.toList_ofList, words3, headBehind]⟩
theorem headSplit : ∃ rest, behindMainWord (wordsSigns Try.prog.initOrder.toList) = head3 :: rest := split_of _ head4 headIs
def later (fn : Func) : Bool := fn.body.isNone && (fn.name == "runtime.SetFinalizer" || fn.name == "runtime.AddCleanup" || fn.origin == "runtime.AddCleanup")
theorem later1 : Try.prog.funcs.toList.any later = false := by kernel_rfl
theorem later2 : Try.prog.laysLater = Try.prog.funcs.toList.any later := by unfold Program.laysLater; rw [Array.any_toList]; rfl
theorem laysLaterOk : Try.prog.laysLater = false := later2.trans later1
theorem bearsReflectOk : Try.prog.bearsReflect = false := by kernel_rfl
theorem doorRowsOk : Try.prog.doorRows = [] := by kernel_rfl
theorem doorFitsOk : Try.prog.doorFits [] = true := by
  unfold Program.doorFits
  rw [doorRowsOk]
  kernel_rfl
def cutWord : List Char := [99, 117, 116].map Char.ofNat
theorem stripOk (rest : List (List Char)) : stripLifts liftWords (cutWord :: rest) = ([], cutWord :: rest) := by kernel_rfl
theorem mayEnterOf (P : Program) (rest : List (List Char)) (h : behindMainWord (wordsSigns P.initOrder.toList) = cutWord :: rest) (h1 : P.laysLater = false) (h2 : P.bearsReflect = false) (h3 : P.doorFits [] = true) : P.mayEnter = true := by
  unfold Program.mayEnter
  rw [h]
  simp only [stripOk, h1, h2, h3]
  kernel_rfl
theorem headLiftsOf (P : Program) (rest : List (List Char)) (h : behindMainWord (wordsSigns P.initOrder.toList) = cutWord :: rest) : P.headLifts = [] := by
  unfold Program.headLifts
  rw [h, stripOk]
  kernel_rfl
theorem liftsFinalOf (P : Program) (rest : List (List Char)) (h : behindMainWord (wordsSigns P.initOrder.toList) = cutWord :: rest) : P.liftsFinal = false := by
  unfold Program.liftsFinal
  rw [headLiftsOf P rest h, h]
  kernel_rfl
theorem makeOf (P : Program) (rest : List (List Char)) (h : behindMainWord (wordsSigns P.initOrder.toList) = cutWord :: rest) : P.make = some .cut := by
  have e1 : (cutWord == "gc".toList || cutWord == "spec".toList) = false := by kernel_rfl
  have e2 : (cutWord == "cut".toList || (cutWord == "finals".toList && rest.head? == some "cut".toList)) = true := by kernel_rfl
  unfold Program.make
  rw [h]
  show (if (cutWord == "gc".toList || cutWord == "spec".toList) = true then _ else if (cutWord == "cut".toList || (cutWord == "finals".toList && rest.head? == some "cut".toList)) = true then _ else _) = _
  rw [e1, e2]
  rfl
theorem mayEnterOk : Try.prog.mayEnter = true := by
  obtain ⟨rest, h⟩ := headSplit
  exact mayEnterOf _ rest h laysLaterOk bearsReflectOk doorFitsOk
theorem liftsFinalOk : Try.prog.liftsFinal = false := by
  obtain ⟨rest, h⟩ := headSplit
  exact liftsFinalOf _ rest h
theorem makeOk : Try.prog.make = some .cut := by
  obtain ⟨rest, h⟩ := headSplit
  exact makeOf _ rest h
end Go.Proofs.Ytemmfnlnhekclaa

