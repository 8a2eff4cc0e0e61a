/- Part of a proof by a machine of ones own: see the text with the theorem. -/
import Derived.Test.YtlkklcbjjompbaaDoorShF
import Derived.Test.YtlkklcbjjompbaaDoorCT6
import Derived.KernelRfl
import Derived.Test.YtlkklcbjjompbaaDoorProg
namespace Go.Proofs.YtlkklcbjjompbaaDoor.walk
open Go Go.Sh
set_option maxRecDepth 100000
noncomputable def mc43_l0:MC:=.seq (.seq (.ops [⟨false,none,some 6,3,.move (.tmp 5)⟩,⟨false,none,some 7,28,.move (.tmp 0)⟩,⟨false,none,some 8,3,.call ⟨.builtin .len,#[.tmp 7],#[28]⟩⟩,⟨false,none,some 9,28,.move (.tmp 1)⟩,⟨false,none,some 10,3,.call ⟨.builtin .len,#[.tmp 9],#[28]⟩⟩,⟨false,none,some 11,3,.call ⟨.builtin .min,#[.tmp 8,.tmp 10],#[3,3]⟩⟩,⟨false,none,some 12,4,.binOp .lss 3 (.tmp 6) (.tmp 11) 3⟩]) (.cond (.tmp 12) (.skip) (.exit 0))) (.seq (.block 1 (.seq (.ops [⟨true,none,some 15,28,.move (.tmp 0)⟩,⟨true,none,some 16,3,.move (.tmp 5)⟩,⟨true,none,some 17,0,.indexAddr 28 (.tmp 15) (.tmp 16)⟩,⟨true,none,some 18,3,.load 3 (.tmp 17)⟩,⟨true,none,some 19,28,.move (.tmp 1)⟩,⟨true,none,some 20,3,.move (.tmp 5)⟩,⟨true,none,some 21,0,.indexAddr 28 (.tmp 19) (.tmp 20)⟩,⟨true,none,some 22,3,.load 3 (.tmp 21)⟩,⟨true,none,some 23,4,.binOp .neq 3 (.tmp 18) (.tmp 22) 3⟩]) (.cond (.tmp 23) (.seq (.ops [⟨true,none,some 24,28,.move (.tmp 0)⟩,⟨true,none,some 25,3,.move (.tmp 5)⟩,⟨true,none,some 26,0,.indexAddr 28 (.tmp 24) (.tmp 25)⟩,⟨true,none,some 27,3,.load 3 (.tmp 26)⟩,⟨true,none,some 28,28,.move (.tmp 1)⟩,⟨true,none,some 29,3,.move (.tmp 5)⟩,⟨true,none,some 30,0,.indexAddr 28 (.tmp 28) (.tmp 29)⟩,⟨true,none,some 31,3,.load 3 (.tmp 30)⟩,⟨true,none,some 32,4,.binOp .lss 3 (.tmp 27) (.tmp 31) 3⟩,⟨true,none,some 4,4,.assign (.tmp 32)⟩]) (.ret)) (.skip)))) (.ops [⟨false,none,some 13,3,.move (.tmp 5)⟩,⟨false,none,some 14,3,.binOp .add 3 (.tmp 13) (.const (.int .i64 1)) 3⟩,⟨false,none,some 5,3,.assign (.tmp 14)⟩]))
noncomputable def mc43:MC:=.seq (.ops [⟨false,none,some 4,4,.assign (.const (.bool false))⟩]) (.seq (.seq (.ops [⟨false,none,some 5,3,.assign (.const (.int .i64 0))⟩]) (.block 0 (.loop mc43_l0))) (.seq (.ops [⟨false,none,some 33,28,.move (.tmp 0)⟩,⟨false,none,some 34,3,.call ⟨.builtin .len,#[.tmp 33],#[28]⟩⟩,⟨false,none,some 35,28,.move (.tmp 1)⟩,⟨false,none,some 36,3,.call ⟨.builtin .len,#[.tmp 35],#[28]⟩⟩,⟨false,none,some 37,4,.binOp .lss 3 (.tmp 34) (.tmp 36) 3⟩,⟨false,none,some 4,4,.assign (.tmp 37)⟩]) (.ret)))
theorem text43:textF Tryd.prog 43=some (38,[.tmp 4],mc43):=by kernel_rfl
@[simp] theorem cf43 (w:AW) (l:List Value):callFn Tryd.prog w 43 l=.enter 43 l w:=callFn_enter text43 l
end Go.Proofs.YtlkklcbjjompbaaDoor.walk
