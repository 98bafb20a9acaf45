/- The head words of the program, reckoned once: what each law's closed facts ask of them. -/
import Derived.Test.YtmdcpigobfhckaaOC
namespace Go.Proofs.Ytmdcpigobfhckaa
open Go.ChangeShapes Go.WideShapes Go.ChangeAt Go.RowKit

theorem toList_lit (l : List Char) (s : String) (h : s = String.ofList l) : s.toList = l := by subst h; exact String.toList_ofList
set_option maxRecDepth 1000000 in
set_option maxHeartbeats 4000000 in
/-- The head's signs, one by one. -/
def ioList : {l : List Char // Try.prog.initOrder.toList = l} := ⟨_, toList_lit _ _ rfl⟩
/-- Words between blanks, with the word at hand kept aside. -/
def splW : List Char → List Char → List (List Char)
  | [], acc => [acc.reverse]
  | c :: r, acc => bif c.toNat == 32 then acc.reverse :: splW r [] else splW r (c :: acc)
theorem char_sp {c : Char} (h : c.toNat = 32) : c = Char.ofNat 32 := by
  have := Char.ofNat_toNat c
  rw [h] at this
  exact this.symm
theorem words_some (l : List Char) : wordsSigns l ≠ [] := by
  intro hw
  cases l with
  | nil => cases hw
  | cons d s =>
    unfold wordsSigns at hw
    split at hw
    · cases hw
    · cases hw
    · split at hw <;> cases hw
theorem splW_eq : ∀ (l acc : List Char), splW l acc = match wordsSigns l with | w :: ws => (acc.reverse ++ w) :: ws | [] => [acc.reverse]
  | [], acc => by simp [splW, wordsSigns]
  | c :: r, acc => by
    by_cases h : c.toNat = 32
    · have e := char_sp h
      subst e
      have e2 : wordsSigns (Char.ofNat 32 :: r) = [] :: wordsSigns r := rfl
      rw [e2]
      have ih := splW_eq r []
      unfold splW
      rw [h, ih]
      cases hw : wordsSigns r with
      | nil => exact absurd hw (words_some r)
      | cons w ws => simp
    · have h2 : wordsSigns (c :: r) = match wordsSigns r with | w :: ws => (c :: w) :: ws | [] => [[c]] := by
        conv => lhs; unfold wordsSigns
        split
        · rename_i e; cases e
        · rename_i e; injection e with e1 e2; exfalso; apply h; rw [e1]; rfl
        · rename_i e; injection e with e1 e2; subst e1 e2; rfl
      have ih := splW_eq r (c :: acc)
      unfold splW
      rw [show (c.toNat == 32) = false by simpa using h, cond_false, ih, h2]
      cases hw : wordsSigns r with
      | nil => exact absurd hw (words_some r)
      | cons w ws => simp
theorem words_spl (l : List Char) : wordsSigns l = splW l [] := by
  rw [splW_eq]
  cases hw : wordsSigns l with
  | nil => exact absurd hw (words_some l)
  | cons w ws => simp
theorem ioWords : wordsSigns Try.prog.initOrder.toList = splW ioList.1 [] := (congrArg wordsSigns ioList.2).trans (words_spl _)

set_option maxRecDepth 1000000 in
theorem may_gen (P : Program) (hf : P.funcs = Try.prog.funcs) (h : wordsSigns P.initOrder.toList = splW ioList.1 []) : P.mayEnter = true := by
  unfold Program.mayEnter Program.laysLater Program.bearsReflect Program.doorFits Program.doorRows
  rewrite [h, hf]
  clear h hf
  kernel_rfl
theorem mayE : Try.prog.mayEnter = true := may_gen _ rfl ioWords
set_option maxRecDepth 1000000 in
theorem lift_gen (P : Program) (h : wordsSigns P.initOrder.toList = splW ioList.1 []) : P.liftsFinal = false := by
  unfold Program.liftsFinal Program.headLifts
  rewrite [h]
  clear h
  kernel_rfl
theorem liftE {x : Bool} (hx : x = false) : (x == Try.prog.liftsFinal) = true := by rw [lift_gen _ ioWords, hx]; rfl
set_option maxRecDepth 1000000 in
theorem make_gen (P : Program) (h : wordsSigns P.initOrder.toList = splW ioList.1 []) : P.make = some .cut := by
  unfold Program.make Program.headLifts
  rewrite [h]
  clear h
  kernel_rfl
theorem makeE {m : Make} (hm : m = .cut) : (Try.prog.make == some m) = true := by rw [make_gen _ ioWords, hm]; rfl
theorem and_t {a b : Bool} (ha : a = true) (hb : b = true) : (a && b) = true := by rw [ha, hb]; rfl

end Go.Proofs.Ytmdcpigobfhckaa
