/-
  rostellumlaw10.SealMerges (Check, Merge and Liars of seal return what the chapter says, for any two lists of notes) answers true whatever the two lists are, and they read behind the call as before.
  Conditions: those of the given row alone (its listed variables of the library and of the program hold what their initialisers lay; the card ties them to the text of the program).
  How: a machine of its own (the texts Sh) is proved to say of each call what the model does, whatever order is drawn; arguments that come in are laid into its memory; the library's sorting (pattern-defeating quicksort) is proved for any comparison (PQ, ZN, ZW); that both merges leave the same rising row of notes, and both ways to find liars the same names, is arithmetic (ZD6, ZEC).
-/
import Derived.Test.YtnjknghdpobcmaaGreatDoorZG5
set_option linter.all false
namespace Go.Proofs.YtnjknghdpobcmaaGreatDoor.walk
open Go.ChangeShapes Go.WideShapes Go.ChangeAt Go.RowKit Go.Sh
theorem plain (f:FuncId) (fn:Func) (hf:Tryz.pinned.checked.prog.funcNamed "rostellum/rostellumlaw10.SealMerges"=some f) (hfn:Tryz.pinned.checked.prog.funcs[f]?=some fn) :
  true=Tryz.pinned.checked.prog.looks []∧∀ (j:Nat) t,fn.params[j]?=some t→Tryz.pinned.checked.prog.wantsStandIn t=false:=by
 obtain rfl:f=3:=Option.some.inj ((show Tryz.prog.funcNamed "rostellum/rostellumlaw10.SealMerges"=some 3 by kernel_rfl).symm.trans hf) |>.symm
 obtain rfl:fn=Tryz.f3:=(Option.some.inj (Tryz.func3.symm.trans hfn)).symm
 refine ⟨by kernel_rfl,fun j t ht=>?_⟩
 have h1:t ∈ Tryz.f3.params.toList:=by
  rw [← Array.getElem?_toList] at ht
  exact List.mem_of_getElem? ht
 rw [params3] at h1
 have k22:Tryz.prog.wantsStandIn 22=false:=by kernel_rfl
 rcases mem_all h1 with rfl | rfl
 ·exact k22
 ·exact k22
set_option maxRecDepth 100000 in
theorem card:Rows.SealMergesCardSaid :=
 Claim7.holds_tied_plain_at .later [] _ _ _ _ said (fun _ h=>by cases h) (by kernel_rfl) (fun _ h=>by cases h) sealMerges_row_tie rfl ⟨rfl,rfl⟩ (by kernel_rfl) rfl plain (by kernel_rfl)
end Go.Proofs.YtnjknghdpobcmaaGreatDoor.walk
