/- Part of a proof: see the text with the theorem. -/
import Derived.Test.YtnmamelclmfplaaDoorShF
import Derived.Test.YtnmamelclmfplaaDoorTd
import Derived.Test.YtnmamelclmfplaaDoorTj
import Derived.KernelRfl
import Derived.Test.YtnmamelclmfplaaDoorProg
import Derived.Test.YtnmamelclmfplaaDoorTf
set_option linter.all false
namespace Go.Proofs.YtnmamelclmfplaaDoor.walk
open Go Go.Sh
set_option maxRecDepth 100000
@[simp] theorem bd124_0_1_2_3_4_5 (w:AW) (x0a:Option Addr) (x0l x0c:Nat) (x1a:Option Addr) (x1l x1c:Nat) (x2_0 x2_1 x2_2 x2_3:Value) (x3_0 x3_1:Value) (x4:Int) (x5:Option Nat):buildA Tryd.prog w 124 [(0,.slice x0a x0l x0c),(1,.slice x1a x1l x1c),(2,.agg ⟨[x2_0,x2_1,x2_2,x2_3]⟩),(3,.agg ⟨[x3_0,x3_1]⟩),(4,.int .i64 x4),(5,.map x5)]=.val (.agg ⟨[.slice x0a x0l x0c,.slice x1a x1l x1c,x2_0,x2_1,x2_2,x2_3,x3_0,x3_1,.int .i64 x4,.map x5]⟩) w:=by kernel_rfl
@[simp] theorem fa124_4 (w:AW) (a:Addr):fieldAddrA Tryd.prog w 124 4 (.pointer (some a))=.val (.pointer (some (a.add 8))) w:=by kernel_rfl
@[simp] theorem fa124_0 (w:AW) (a:Addr):fieldAddrA Tryd.prog w 124 0 (.pointer (some a))=.val (.pointer (some (a.add 0))) w:=by kernel_rfl
@[simp] theorem fa124_2 (w:AW) (a:Addr):fieldAddrA Tryd.prog w 124 2 (.pointer (some a))=.val (.pointer (some (a.add 2))) w:=by kernel_rfl
@[simp] theorem fa124_3 (w:AW) (a:Addr):fieldAddrA Tryd.prog w 124 3 (.pointer (some a))=.val (.pointer (some (a.add 6))) w:=by kernel_rfl
@[simp] theorem fa124_5 (w:AW) (a:Addr):fieldAddrA Tryd.prog w 124 5 (.pointer (some a))=.val (.pointer (some (a.add 9))) w:=by kernel_rfl
@[simp] theorem ld122 (w:AW) (a:Addr):loadA Tryd.prog w 122 (.pointer (some a))=vR w (rd1 w a.block a.off):=load_one (by kernel_rfl) a
@[simp] theorem fa124_1 (w:AW) (a:Addr):fieldAddrA Tryd.prog w 124 1 (.pointer (some a))=.val (.pointer (some (a.add 1))) w:=by kernel_rfl
@[simp] theorem bd28_n0 (w:AW) :buildSliceA Tryd.prog w 28 0 []=.val (.slice (some ⟨w.next,0,none⟩) 0 0) ⟨w.heap.put w.next (some (.cells [] 3 false)),w.next + 1,w.lim⟩:=by kernel_rfl
noncomputable def mc5:MC:=.seq (.ops [⟨false,none,some 2,0,.box 30 (.tmp 0)⟩,⟨false,none,some 3,0,.box 25 (.tmp 1)⟩,⟨false,none,some 4,4,.assign (.const (.bool false))⟩]) (.seq (.ops [⟨false,none,some 12,0,.fieldAddr 30 (.tmp 2) 0⟩,⟨false,none,some 13,22,.load 22 (.tmp 12)⟩,⟨false,none,some 14,0,.fieldAddr 30 (.tmp 2) 1⟩,⟨false,none,some 15,23,.load 23 (.tmp 14)⟩,⟨false,none,some 16,0,.fieldAddr 30 (.tmp 2) 2⟩,⟨false,none,some 17,27,.load 27 (.tmp 16)⟩,⟨false,none,some 18,0,.fieldAddr 30 (.tmp 2) 3⟩,⟨false,none,some 19,28,.load 28 (.tmp 18)⟩,⟨false,none,some 20,25,.load 25 (.tmp 3)⟩,⟨false,none,some 21,34,.call ⟨.value (.func 29),#[.tmp 13,.tmp 15,.tmp 17,.tmp 19,.tmp 20],#[22,23,27,28,25]⟩⟩,⟨false,none,some 11,34,.move (.tmp 21)⟩,⟨false,none,some 22,4,.extract (.tmp 11) 0⟩,⟨false,none,some 23,33,.extract (.tmp 11) 1⟩,⟨false,none,some 5,4,.assign (.tmp 22)⟩,⟨false,none,some 6,33,.assign (.tmp 23)⟩]) (.seq (.ops [⟨false,none,some 25,0,.fieldAddr 30 (.tmp 2) 0⟩,⟨false,none,some 26,22,.load 22 (.tmp 25)⟩,⟨false,none,some 27,0,.fieldAddr 30 (.tmp 2) 1⟩,⟨false,none,some 28,23,.load 23 (.tmp 27)⟩,⟨false,none,some 29,0,.fieldAddr 30 (.tmp 2) 2⟩,⟨false,none,some 30,27,.load 27 (.tmp 29)⟩,⟨false,none,some 31,0,.fieldAddr 30 (.tmp 2) 3⟩,⟨false,none,some 32,28,.load 28 (.tmp 31)⟩,⟨false,none,some 33,25,.load 25 (.tmp 3)⟩,⟨false,none,some 34,34,.call ⟨.value (.func 30),#[.tmp 26,.tmp 28,.tmp 30,.tmp 32,.tmp 33],#[22,23,27,28,25]⟩⟩,⟨false,none,some 24,34,.move (.tmp 34)⟩,⟨false,none,some 35,4,.extract (.tmp 24) 0⟩,⟨false,none,some 36,33,.extract (.tmp 24) 1⟩,⟨false,none,some 7,4,.assign (.tmp 35)⟩,⟨false,none,some 8,33,.assign (.tmp 36)⟩]) (.seq (.seq (.ops [⟨false,none,some 37,4,.move (.tmp 5)⟩,⟨false,none,some 38,4,.move (.tmp 7)⟩,⟨false,none,some 39,4,.binOp .neq 4 (.tmp 37) (.tmp 38) 4⟩,⟨false,none,some 40,4,.move (.tmp 39)⟩,⟨false,some (40,false),some 41,33,.move (.tmp 6)⟩,⟨false,some (40,false),some 42,33,.move (.tmp 8)⟩,⟨false,some (40,false),some 43,4,.binOp .neq 33 (.tmp 41) (.tmp 42) 33⟩,⟨false,none,some 44,4,.pick (.tmp 40) (.const (.bool true)) (.tmp 43)⟩]) (.cond (.tmp 44) (.seq (.ops [⟨false,none,some 4,4,.assign (.const (.bool false))⟩]) (.ret)) (.skip))) (.seq (.ops [⟨false,none,some 46,0,.fieldAddr 30 (.tmp 2) 0⟩,⟨false,none,some 47,22,.load 22 (.tmp 46)⟩,⟨false,none,some 48,0,.fieldAddr 30 (.tmp 2) 1⟩,⟨false,none,some 49,23,.load 23 (.tmp 48)⟩,⟨false,none,some 50,0,.fieldAddr 30 (.tmp 2) 2⟩,⟨false,none,some 51,27,.load 27 (.tmp 50)⟩,⟨false,none,some 52,25,.load 25 (.tmp 3)⟩,⟨false,none,some 53,49,.call ⟨.value (.func 31),#[.tmp 47,.tmp 49,.tmp 51,.tmp 52],#[22,23,27,25]⟩⟩,⟨false,none,some 45,49,.move (.tmp 53)⟩,⟨false,none,some 54,28,.extract (.tmp 45) 0⟩,⟨false,none,some 55,33,.extract (.tmp 45) 1⟩,⟨false,none,some 9,28,.assign (.tmp 54)⟩,⟨false,none,some 6,33,.assign (.tmp 55)⟩]) (.seq (.ops [⟨false,none,some 57,0,.fieldAddr 30 (.tmp 2) 0⟩,⟨false,none,some 58,22,.load 22 (.tmp 57)⟩,⟨false,none,some 59,0,.fieldAddr 30 (.tmp 2) 1⟩,⟨false,none,some 60,23,.load 23 (.tmp 59)⟩,⟨false,none,some 61,0,.fieldAddr 30 (.tmp 2) 2⟩,⟨false,none,some 62,27,.load 27 (.tmp 61)⟩,⟨false,none,some 63,25,.load 25 (.tmp 3)⟩,⟨false,none,some 64,49,.call ⟨.value (.func 32),#[.tmp 58,.tmp 60,.tmp 62,.tmp 63],#[22,23,27,25]⟩⟩,⟨false,none,some 56,49,.move (.tmp 64)⟩,⟨false,none,some 65,28,.extract (.tmp 56) 0⟩,⟨false,none,some 66,33,.extract (.tmp 56) 1⟩,⟨false,none,some 10,28,.assign (.tmp 65)⟩,⟨false,none,some 8,33,.assign (.tmp 66)⟩]) (.seq (.ops [⟨false,none,some 67,28,.move (.tmp 9)⟩,⟨false,none,some 68,28,.move (.tmp 10)⟩,⟨false,none,some 69,4,.call ⟨.value (.func 18),#[.tmp 67,.tmp 68],#[28,28]⟩⟩,⟨false,none,some 70,4,.move (.tmp 69)⟩,⟨false,some (70,true),some 71,33,.move (.tmp 6)⟩,⟨false,some (70,true),some 72,33,.move (.tmp 8)⟩,⟨false,some (70,true),some 73,4,.binOp .eql 33 (.tmp 71) (.tmp 72) 33⟩,⟨false,none,some 74,4,.pick (.tmp 70) (.tmp 73) (.const (.bool false))⟩,⟨false,none,some 75,4,.move (.tmp 74)⟩,⟨false,some (75,true),some 76,4,.call ⟨.value (.func 19),#[],#[]⟩⟩,⟨false,none,some 77,4,.pick (.tmp 75) (.tmp 76) (.const (.bool false))⟩,⟨false,none,some 4,4,.assign (.tmp 77)⟩]) (.ret)))))))
theorem text5:textF Tryd.prog 5=some (78,[.tmp 4],mc5):=by kernel_rfl
noncomputable def mc30:MC:=.seq (.ops [⟨false,none,some 7,0,.box 27 (.tmp 2)⟩,⟨false,none,some 9,0,.box 25 (.tmp 4)⟩,⟨false,none,some 10,4,.assign (.const (.bool false))⟩,⟨false,none,some 11,33,.assign (.const (.int .i64 0))⟩]) (.seq (.seq (.ops [⟨false,none,some 13,22,.move (.tmp 0)⟩,⟨false,none,some 14,23,.move (.tmp 1)⟩,⟨false,none,some 15,27,.load 27 (.tmp 7)⟩,⟨false,none,some 16,28,.move (.tmp 3)⟩,⟨false,none,some 17,33,.call ⟨.value (.func 60),#[.tmp 13,.tmp 14,.tmp 15,.tmp 16,.const (.slice none 0 0)],#[22,23,27,28,42]⟩⟩,⟨false,none,some 12,33,.assign (.tmp 17)⟩]) (.seq (.ops [⟨false,none,some 18,33,.move (.tmp 12)⟩,⟨false,none,some 19,4,.binOp .neq 33 (.tmp 18) (.const (.int .i64 0)) 33⟩]) (.cond (.tmp 19) (.seq (.ops [⟨false,none,some 20,33,.move (.tmp 12)⟩,⟨false,none,some 10,4,.assign (.const (.bool false))⟩,⟨false,none,some 11,33,.assign (.tmp 20)⟩]) (.ret)) (.skip)))) (.seq (.seq (.ops [⟨false,none,some 21,25,.load 25 (.tmp 9)⟩,⟨false,none,some 22,4,.call ⟨.value (.func 55),#[.tmp 21,.const (.int .i64 0),.const (.int .i64 1000)],#[25,3,3]⟩⟩,⟨false,none,some 23,4,.unOp .not 4 (.tmp 22)⟩]) (.cond (.tmp 23) (.seq (.ops [⟨false,none,some 10,4,.assign (.const (.bool false))⟩,⟨false,none,some 11,33,.assign (.const (.int .i64 7))⟩]) (.ret)) (.skip))) (.seq (.ops [⟨false,none,some 24,22,.move (.tmp 0)⟩,⟨false,none,some 25,27,.load 27 (.tmp 7)⟩,⟨false,none,some 26,28,.move (.tmp 3)⟩,⟨false,none,some 27,25,.load 25 (.tmp 9)⟩,⟨false,none,some 28,4,.call ⟨.value (.func 72),#[.tmp 24,.tmp 25,.tmp 26,.tmp 27],#[22,27,28,25]⟩⟩,⟨false,none,some 10,4,.assign (.tmp 28)⟩,⟨false,none,some 11,33,.assign (.const (.int .i64 0))⟩]) (.ret))))
theorem text30:textF Tryd.prog 30=some (29,[.tmp 10,.tmp 11],mc30):=by kernel_rfl
noncomputable def mc32_l0:MC:=.seq (.seq (.ops [⟨false,none,some 25,3,.move (.tmp 11)⟩,⟨false,none,some 26,23,.move (.tmp 1)⟩,⟨false,none,some 27,3,.call ⟨.builtin .len,#[.tmp 26],#[23]⟩⟩,⟨false,none,some 28,4,.binOp .leq 3 (.tmp 25) (.tmp 27) 3⟩]) (.cond (.tmp 28) (.skip) (.exit 0))) (.seq (.block 1 (.seq (.ops [⟨false,none,some 31,22,.move (.tmp 0)⟩,⟨false,none,some 32,23,.move (.tmp 1)⟩,⟨false,none,some 33,27,.load 27 (.tmp 6)⟩,⟨false,none,some 34,25,.load 25 (.tmp 7)⟩,⟨false,none,some 35,3,.move (.tmp 11)⟩,⟨false,none,some 36,122,.makeMap 122 none⟩,⟨false,none,some 37,124,.build 124 #[(0,.tmp 31),(1,.tmp 32),(2,.tmp 33),(3,.tmp 34),(4,.tmp 35),(5,.tmp 36)]⟩,⟨false,none,some 38,121,.box 124 (.tmp 37)⟩,⟨false,none,some 12,121,.assign (.tmp 38)⟩]) (.seq (.ops [⟨false,none,some 40,121,.move (.tmp 12)⟩,⟨false,none,some 41,64,.call ⟨.value (.func 77),#[.tmp 40,.const (.slice none 0 0)],#[121,28]⟩⟩,⟨false,none,some 39,64,.move (.tmp 41)⟩,⟨false,none,some 42,28,.extract (.tmp 39) 0⟩,⟨false,none,some 43,4,.extract (.tmp 39) 1⟩,⟨false,none,some 13,28,.assign (.tmp 42)⟩,⟨false,none,some 14,4,.assign (.tmp 43)⟩]) (.seq (.ops [⟨false,none,some 44,4,.move (.tmp 14)⟩]) (.cond (.tmp 44) (.seq (.ops [⟨false,none,some 45,28,.move (.tmp 13)⟩,⟨false,none,some 8,28,.assign (.tmp 45)⟩,⟨false,none,some 9,33,.assign (.const (.int .i64 0))⟩]) (.ret)) (.skip)))))) (.ops [⟨false,none,some 29,3,.move (.tmp 11)⟩,⟨false,none,some 30,3,.binOp .add 3 (.tmp 29) (.const (.int .i64 1)) 3⟩,⟨false,none,some 11,3,.assign (.tmp 30)⟩]))
noncomputable def mc32:MC:=.seq (.ops [⟨false,none,some 6,0,.box 27 (.tmp 2)⟩,⟨false,none,some 7,0,.box 25 (.tmp 3)⟩,⟨false,none,some 8,28,.assign (.const (.slice none 0 0))⟩,⟨false,none,some 9,33,.assign (.const (.int .i64 0))⟩]) (.seq (.seq (.ops [⟨false,none,some 15,22,.move (.tmp 0)⟩,⟨false,none,some 16,23,.move (.tmp 1)⟩,⟨false,none,some 17,27,.load 27 (.tmp 6)⟩,⟨false,none,some 18,33,.call ⟨.value (.func 76),#[.tmp 15,.tmp 16,.tmp 17],#[22,23,27]⟩⟩,⟨false,none,some 10,33,.assign (.tmp 18)⟩]) (.seq (.ops [⟨false,none,some 19,33,.move (.tmp 10)⟩,⟨false,none,some 20,4,.binOp .neq 33 (.tmp 19) (.const (.int .i64 0)) 33⟩]) (.cond (.tmp 20) (.seq (.ops [⟨false,none,some 21,33,.move (.tmp 10)⟩,⟨false,none,some 8,28,.assign (.const (.slice none 0 0))⟩,⟨false,none,some 9,33,.assign (.tmp 21)⟩]) (.ret)) (.skip)))) (.seq (.seq (.ops [⟨false,none,some 22,25,.load 25 (.tmp 7)⟩,⟨false,none,some 23,4,.call ⟨.value (.func 55),#[.tmp 22,.const (.int .i64 0),.const (.int .i64 1000)],#[25,3,3]⟩⟩,⟨false,none,some 24,4,.unOp .not 4 (.tmp 23)⟩]) (.cond (.tmp 24) (.seq (.ops [⟨false,none,some 8,28,.assign (.const (.slice none 0 0))⟩,⟨false,none,some 9,33,.assign (.const (.int .i64 7))⟩]) (.ret)) (.skip))) (.seq (.seq (.ops [⟨false,none,some 11,3,.assign (.const (.int .i64 0))⟩]) (.block 0 (.loop mc32_l0))) (.seq (.ops [⟨false,none,some 8,28,.assign (.const (.slice none 0 0))⟩,⟨false,none,some 9,33,.assign (.const (.int .i64 4))⟩]) (.ret)))))
theorem text32:textF Tryd.prog 32=some (46,[.tmp 8,.tmp 9],mc32):=by kernel_rfl
noncomputable def mc72:MC:=.seq (.ops [⟨false,none,some 5,0,.box 27 (.tmp 1)⟩,⟨false,none,some 7,0,.box 25 (.tmp 3)⟩,⟨false,none,some 8,4,.assign (.const (.bool false))⟩]) (.seq (.ops [⟨false,none,some 12,22,.move (.tmp 0)⟩,⟨false,none,some 13,27,.load 27 (.tmp 5)⟩,⟨false,none,some 14,28,.move (.tmp 2)⟩,⟨false,none,some 15,112,.call ⟨.value (.func 67),#[.tmp 12,.tmp 13,.tmp 14,.const (.slice none 0 0)],#[22,27,28,42]⟩⟩,⟨false,none,some 11,112,.move (.tmp 15)⟩,⟨false,none,some 16,43,.extract (.tmp 11) 0⟩,⟨false,none,some 17,4,.extract (.tmp 11) 1⟩,⟨false,none,some 9,43,.assign (.tmp 16)⟩,⟨false,none,some 10,4,.assign (.tmp 17)⟩]) (.seq (.ops [⟨true,none,some 18,4,.move (.tmp 10)⟩,⟨true,none,some 19,4,.move (.tmp 18)⟩,⟨true,some (19,true),some 20,43,.move (.tmp 9)⟩,⟨true,some (19,true),some 21,28,.move (.tmp 2)⟩,⟨true,some (19,true),some 22,3,.call ⟨.builtin .len,#[.tmp 21],#[28]⟩⟩,⟨true,some (19,true),some 23,0,.indexAddr 43 (.tmp 20) (.tmp 22)⟩,⟨true,some (19,true),some 24,0,.fieldAddr 25 (.tmp 23) 0⟩,⟨true,some (19,true),some 25,3,.load 3 (.tmp 24)⟩,⟨true,some (19,true),some 26,0,.fieldAddr 25 (.tmp 7) 0⟩,⟨true,some (19,true),some 27,3,.load 3 (.tmp 26)⟩,⟨true,some (19,true),some 28,4,.binOp .geq 3 (.tmp 25) (.tmp 27) 3⟩,⟨true,none,some 29,4,.pick (.tmp 19) (.tmp 28) (.const (.bool false))⟩,⟨true,none,some 30,4,.move (.tmp 29)⟩,⟨true,some (30,true),some 31,43,.move (.tmp 9)⟩,⟨true,some (30,true),some 32,28,.move (.tmp 2)⟩,⟨true,some (30,true),some 33,3,.call ⟨.builtin .len,#[.tmp 32],#[28]⟩⟩,⟨true,some (30,true),some 34,0,.indexAddr 43 (.tmp 31) (.tmp 33)⟩,⟨true,some (30,true),some 35,0,.fieldAddr 25 (.tmp 34) 1⟩,⟨true,some (30,true),some 36,3,.load 3 (.tmp 35)⟩,⟨true,some (30,true),some 37,0,.fieldAddr 25 (.tmp 7) 1⟩,⟨true,some (30,true),some 38,3,.load 3 (.tmp 37)⟩,⟨true,some (30,true),some 39,4,.binOp .leq 3 (.tmp 36) (.tmp 38) 3⟩,⟨true,none,some 40,4,.pick (.tmp 30) (.tmp 39) (.const (.bool false))⟩,⟨true,none,some 8,4,.assign (.tmp 40)⟩]) (.ret)))
theorem text72:textF Tryd.prog 72=some (41,[.tmp 8],mc72):=by kernel_rfl
noncomputable def mc77_l0:MC:=.seq (.seq (.ops [⟨false,none,some 40,3,.move (.tmp 7)⟩,⟨false,none,some 41,121,.move (.tmp 0)⟩,⟨false,none,some 42,0,.nilCheck (.tmp 41)⟩,⟨false,none,some 43,0,.fieldAddr 124 (.tmp 42) 0⟩,⟨false,none,some 44,22,.load 22 (.tmp 43)⟩,⟨false,none,some 45,3,.call ⟨.builtin .len,#[.tmp 44],#[22]⟩⟩,⟨false,none,some 46,4,.binOp .lss 3 (.tmp 40) (.tmp 45) 3⟩]) (.cond (.tmp 46) (.skip) (.exit 0))) (.seq (.block 1 (.seq (.ops [⟨true,none,some 49,121,.move (.tmp 0)⟩,⟨true,none,some 50,0,.nilCheck (.tmp 49)⟩,⟨true,none,some 51,0,.fieldAddr 124 (.tmp 50) 0⟩,⟨true,none,some 52,22,.load 22 (.tmp 51)⟩,⟨true,none,some 53,121,.move (.tmp 0)⟩,⟨true,none,some 54,0,.nilCheck (.tmp 53)⟩,⟨true,none,some 55,0,.fieldAddr 124 (.tmp 54) 1⟩,⟨true,none,some 56,23,.load 23 (.tmp 55)⟩,⟨true,none,some 57,28,.move (.tmp 1)⟩,⟨true,none,some 58,3,.move (.tmp 7)⟩,⟨false,none,some 59,4,.call ⟨.value (.func 80),#[.tmp 52,.tmp 56,.tmp 57,.tmp 58],#[22,23,28,3]⟩⟩]) (.cond (.tmp 59) (.seq (.ops [⟨false,none,some 61,121,.move (.tmp 0)⟩,⟨false,none,some 62,28,.move (.tmp 1)⟩,⟨false,none,some 63,3,.move (.tmp 7)⟩,⟨false,none,some 64,28,.call ⟨.value (.func 97),#[.tmp 62,.tmp 63],#[28,3]⟩⟩,⟨false,none,some 65,64,.call ⟨.value (.func 77),#[.tmp 61,.tmp 64],#[121,28]⟩⟩,⟨false,none,some 60,64,.move (.tmp 65)⟩,⟨false,none,some 66,28,.extract (.tmp 60) 0⟩,⟨false,none,some 67,4,.extract (.tmp 60) 1⟩,⟨false,none,some 8,28,.assign (.tmp 66)⟩,⟨false,none,some 9,4,.assign (.tmp 67)⟩]) (.seq (.ops [⟨false,none,some 68,4,.move (.tmp 9)⟩]) (.cond (.tmp 68) (.seq (.ops [⟨false,none,some 69,28,.move (.tmp 8)⟩,⟨false,none,some 4,28,.assign (.tmp 69)⟩,⟨false,none,some 5,4,.assign (.const (.bool true))⟩]) (.ret)) (.skip)))) (.skip)))) (.ops [⟨false,none,some 47,3,.move (.tmp 7)⟩,⟨false,none,some 48,3,.binOp .add 3 (.tmp 47) (.const (.int .i64 1)) 3⟩,⟨false,none,some 7,3,.assign (.tmp 48)⟩]))
noncomputable def mc77:MC:=.seq (.ops [⟨false,none,some 4,28,.assign (.const (.slice none 0 0))⟩,⟨false,none,some 5,4,.assign (.const (.bool false))⟩]) (.seq (.seq (.ops [⟨false,none,some 10,28,.move (.tmp 1)⟩,⟨false,none,some 11,3,.call ⟨.builtin .len,#[.tmp 10],#[28]⟩⟩,⟨false,none,some 12,121,.move (.tmp 0)⟩,⟨false,none,some 13,0,.nilCheck (.tmp 12)⟩,⟨false,none,some 14,0,.fieldAddr 124 (.tmp 13) 4⟩,⟨false,none,some 15,3,.load 3 (.tmp 14)⟩,⟨false,none,some 16,4,.binOp .eql 3 (.tmp 11) (.tmp 15) 3⟩]) (.cond (.tmp 16) (.seq (.ops [⟨true,none,some 17,28,.move (.tmp 1)⟩,⟨true,none,some 18,121,.move (.tmp 0)⟩,⟨true,none,some 19,0,.nilCheck (.tmp 18)⟩,⟨true,none,some 20,0,.fieldAddr 124 (.tmp 19) 0⟩,⟨true,none,some 21,22,.load 22 (.tmp 20)⟩,⟨true,none,some 22,121,.move (.tmp 0)⟩,⟨true,none,some 23,0,.nilCheck (.tmp 22)⟩,⟨true,none,some 24,0,.fieldAddr 124 (.tmp 23) 2⟩,⟨true,none,some 25,27,.load 27 (.tmp 24)⟩,⟨true,none,some 26,28,.move (.tmp 1)⟩,⟨true,none,some 27,121,.move (.tmp 0)⟩,⟨true,none,some 28,0,.nilCheck (.tmp 27)⟩,⟨true,none,some 29,0,.fieldAddr 124 (.tmp 28) 3⟩,⟨true,none,some 30,25,.load 25 (.tmp 29)⟩,⟨false,none,some 31,4,.call ⟨.value (.func 72),#[.tmp 21,.tmp 25,.tmp 26,.tmp 30],#[22,27,28,25]⟩⟩,⟨true,none,some 4,28,.assign (.tmp 17)⟩,⟨true,none,some 5,4,.assign (.tmp 31)⟩]) (.ret)) (.skip))) (.seq (.ops [⟨false,none,some 32,121,.move (.tmp 0)⟩,⟨false,none,some 33,0,.nilCheck (.tmp 32)⟩,⟨false,none,some 34,0,.fieldAddr 124 (.tmp 33) 5⟩,⟨false,none,some 35,122,.load 122 (.tmp 34)⟩,⟨false,none,some 6,122,.assign (.tmp 35)⟩]) (.seq (.seq (.ops [⟨false,none,some 36,122,.move (.tmp 6)⟩,⟨false,none,some 37,28,.move (.tmp 1)⟩,⟨false,none,some 38,9,.call ⟨.value (.func 96),#[.tmp 37],#[28]⟩⟩,⟨false,none,some 39,4,.lookup 122 (.tmp 36) (.tmp 38) false⟩]) (.cond (.tmp 39) (.seq (.ops [⟨false,none,some 4,28,.assign (.const (.slice none 0 0))⟩,⟨false,none,some 5,4,.assign (.const (.bool false))⟩]) (.ret)) (.skip))) (.seq (.seq (.ops [⟨false,none,some 7,3,.assign (.const (.int .i64 0))⟩]) (.block 0 (.loop mc77_l0))) (.seq (.ops [⟨false,none,some 70,122,.move (.tmp 6)⟩,⟨false,none,some 71,28,.move (.tmp 1)⟩,⟨false,none,some 72,9,.call ⟨.value (.func 96),#[.tmp 71],#[28]⟩⟩,⟨false,none,none,0,.mapUpdate 122 (.tmp 70) (.tmp 72) (.const (.bool true))⟩]) (.seq (.ops [⟨false,none,some 4,28,.assign (.const (.slice none 0 0))⟩,⟨false,none,some 5,4,.assign (.const (.bool false))⟩]) (.ret)))))))
theorem text77:textF Tryd.prog 77=some (73,[.tmp 4,.tmp 5],mc77):=by kernel_rfl
noncomputable def mc96_l1:MC:=.seq (.seq (.ops [⟨false,none,some 15,3,.move (.tmp 6)⟩,⟨false,none,some 16,28,.move (.tmp 0)⟩,⟨false,none,some 17,3,.call ⟨.builtin .len,#[.tmp 16],#[28]⟩⟩,⟨false,none,some 18,4,.binOp .lss 3 (.tmp 15) (.tmp 17) 3⟩]) (.cond (.tmp 18) (.skip) (.exit 2))) (.seq (.block 3 (.seq (.ops [⟨false,none,some 21,28,.move (.tmp 0)⟩,⟨false,none,some 22,3,.move (.tmp 6)⟩,⟨false,none,some 23,0,.indexAddr 28 (.tmp 21) (.tmp 22)⟩,⟨false,none,some 24,3,.load 3 (.tmp 23)⟩,⟨false,none,some 25,3,.move (.tmp 4)⟩,⟨false,none,some 26,4,.binOp .eql 3 (.tmp 24) (.tmp 25) 3⟩]) (.cond (.tmp 26) (.ops [⟨false,none,some 27,3,.move (.tmp 5)⟩,⟨false,none,some 28,3,.binOp .add 3 (.tmp 27) (.const (.int .i64 1)) 3⟩,⟨false,none,some 5,3,.assign (.tmp 28)⟩]) (.skip)))) (.ops [⟨false,none,some 19,3,.move (.tmp 6)⟩,⟨false,none,some 20,3,.binOp .add 3 (.tmp 19) (.const (.int .i64 1)) 3⟩,⟨false,none,some 6,3,.assign (.tmp 20)⟩]))
noncomputable def mc96_l0:MC:=.seq (.seq (.ops [⟨false,none,some 11,3,.move (.tmp 4)⟩,⟨false,none,some 12,4,.binOp .lss 3 (.tmp 11) (.const (.int .i64 5)) 3⟩]) (.cond (.tmp 12) (.skip) (.exit 0))) (.seq (.block 1 (.seq (.ops [⟨false,none,some 5,3,.assign (.const (.int .i64 0))⟩]) (.seq (.seq (.ops [⟨false,none,some 6,3,.assign (.const (.int .i64 0))⟩]) (.block 2 (.loop mc96_l1))) (.ops [⟨false,none,some 29,9,.move (.tmp 3)⟩,⟨false,none,some 30,3,.move (.tmp 5)⟩,⟨false,none,some 31,9,.call ⟨.value (.func 106),#[.tmp 30],#[3]⟩⟩,⟨false,none,some 32,9,.binOp .add 9 (.const (.string ⟨⟨[32]⟩⟩)) (.tmp 31) 9⟩,⟨false,none,some 33,9,.binOp .add 9 (.tmp 29) (.tmp 32) 9⟩,⟨false,none,some 3,9,.assign (.tmp 33)⟩])))) (.ops [⟨false,none,some 13,3,.move (.tmp 4)⟩,⟨false,none,some 14,3,.binOp .add 3 (.tmp 13) (.const (.int .i64 1)) 3⟩,⟨false,none,some 4,3,.assign (.tmp 14)⟩]))
noncomputable def mc96_l2:MC:=.seq (.seq (.ops [⟨true,none,some 34,3,.move (.tmp 7)⟩,⟨true,none,some 35,28,.move (.tmp 0)⟩,⟨true,none,some 36,3,.call ⟨.builtin .len,#[.tmp 35],#[28]⟩⟩,⟨true,none,some 37,4,.binOp .lss 3 (.tmp 34) (.tmp 36) 3⟩,⟨true,none,some 38,4,.move (.tmp 37)⟩,⟨true,some (38,true),some 39,28,.move (.tmp 0)⟩,⟨true,some (38,true),some 40,28,.move (.tmp 0)⟩,⟨true,some (38,true),some 41,3,.call ⟨.builtin .len,#[.tmp 40],#[28]⟩⟩,⟨true,some (38,true),some 42,3,.binOp .sub 3 (.tmp 41) (.const (.int .i64 1)) 3⟩,⟨true,some (38,true),some 43,3,.move (.tmp 7)⟩,⟨true,some (38,true),some 44,3,.binOp .sub 3 (.tmp 42) (.tmp 43) 3⟩,⟨true,some (38,true),some 45,0,.indexAddr 28 (.tmp 39) (.tmp 44)⟩,⟨true,some (38,true),some 46,3,.load 3 (.tmp 45)⟩,⟨true,some (38,true),some 47,28,.move (.tmp 0)⟩,⟨true,some (38,true),some 48,28,.move (.tmp 0)⟩,⟨true,some (38,true),some 49,3,.call ⟨.builtin .len,#[.tmp 48],#[28]⟩⟩,⟨true,some (38,true),some 50,3,.binOp .sub 3 (.tmp 49) (.const (.int .i64 1)) 3⟩,⟨true,some (38,true),some 51,0,.indexAddr 28 (.tmp 47) (.tmp 50)⟩,⟨true,some (38,true),some 52,3,.load 3 (.tmp 51)⟩,⟨true,some (38,true),some 53,4,.binOp .eql 3 (.tmp 46) (.tmp 52) 3⟩,⟨true,none,some 54,4,.pick (.tmp 38) (.tmp 53) (.const (.bool false))⟩]) (.cond (.tmp 54) (.skip) (.exit 4))) (.block 5 (.ops [⟨false,none,some 55,3,.move (.tmp 7)⟩,⟨false,none,some 56,3,.binOp .add 3 (.tmp 55) (.const (.int .i64 1)) 3⟩,⟨false,none,some 7,3,.assign (.tmp 56)⟩]))
noncomputable def mc96:MC:=.seq (.ops [⟨false,none,some 2,9,.assign (.const (.string ⟨⟨[]⟩⟩))⟩]) (.seq (.ops [⟨false,none,some 8,28,.move (.tmp 0)⟩,⟨false,none,some 9,3,.call ⟨.builtin .len,#[.tmp 8],#[28]⟩⟩,⟨false,none,some 10,9,.call ⟨.value (.func 106),#[.tmp 9],#[3]⟩⟩,⟨false,none,some 3,9,.assign (.tmp 10)⟩]) (.seq (.seq (.ops [⟨false,none,some 4,3,.assign (.const (.int .i64 0))⟩]) (.block 0 (.loop mc96_l0))) (.seq (.ops [⟨false,none,some 7,3,.assign (.const (.int .i64 0))⟩]) (.seq (.block 4 (.loop mc96_l2)) (.seq (.seq (.ops [⟨false,none,some 57,28,.move (.tmp 0)⟩,⟨false,none,some 58,3,.call ⟨.builtin .len,#[.tmp 57],#[28]⟩⟩,⟨false,none,some 59,4,.binOp .gtr 3 (.tmp 58) (.const (.int .i64 0)) 3⟩]) (.cond (.tmp 59) (.ops [⟨false,none,some 60,9,.move (.tmp 3)⟩,⟨false,none,some 61,28,.move (.tmp 0)⟩,⟨false,none,some 62,28,.move (.tmp 0)⟩,⟨false,none,some 63,3,.call ⟨.builtin .len,#[.tmp 62],#[28]⟩⟩,⟨false,none,some 64,3,.binOp .sub 3 (.tmp 63) (.const (.int .i64 1)) 3⟩,⟨false,none,some 65,0,.indexAddr 28 (.tmp 61) (.tmp 64)⟩,⟨false,none,some 66,3,.load 3 (.tmp 65)⟩,⟨false,none,some 67,9,.call ⟨.value (.func 106),#[.tmp 66],#[3]⟩⟩,⟨false,none,some 68,9,.binOp .add 9 (.const (.string ⟨⟨[32]⟩⟩)) (.tmp 67) 9⟩,⟨false,none,some 69,9,.binOp .add 9 (.tmp 60) (.tmp 68) 9⟩,⟨false,none,some 3,9,.assign (.tmp 69)⟩]) (.skip))) (.seq (.ops [⟨false,none,some 70,9,.move (.tmp 3)⟩,⟨false,none,some 71,9,.binOp .add 9 (.tmp 70) (.const (.string ⟨⟨[32]⟩⟩)) 9⟩,⟨false,none,some 72,3,.move (.tmp 7)⟩,⟨false,none,some 73,9,.call ⟨.value (.func 106),#[.tmp 72],#[3]⟩⟩,⟨false,none,some 74,9,.binOp .add 9 (.tmp 71) (.tmp 73) 9⟩,⟨false,none,some 2,9,.assign (.tmp 74)⟩]) (.ret)))))))
theorem text96:textF Tryd.prog 96=some (75,[.tmp 2],mc96):=by kernel_rfl
noncomputable def mc97:MC:=.seq (.ops [⟨false,none,some 4,28,.assign (.const (.slice none 0 0))⟩]) (.seq (.ops [⟨false,none,some 5,28,.buildSlice 28 0 #[]⟩,⟨false,none,some 6,28,.move (.tmp 0)⟩,⟨false,none,some 7,28,.call ⟨.builtin .append,#[.tmp 5,.tmp 6],#[28,28]⟩⟩,⟨false,none,some 8,3,.move (.tmp 1)⟩,⟨false,none,some 9,28,.buildSlice 28 1 #[(0,.tmp 8)]⟩,⟨false,none,some 10,28,.call ⟨.builtin .append,#[.tmp 7,.tmp 9],#[28,28]⟩⟩,⟨false,none,some 4,28,.assign (.tmp 10)⟩]) (.ret))
theorem text97:textF Tryd.prog 97=some (11,[.tmp 4],mc97):=by kernel_rfl
noncomputable def mc106:MC:=.seq (.ops [⟨false,none,some 2,9,.assign (.const (.string ⟨⟨[]⟩⟩))⟩]) (.block 0 (.seq (.ops [⟨false,none,some 8,3,.move (.tmp 0)⟩,⟨false,none,some 9,4,.binOp .lss 3 (.tmp 8) (.const (.int .i64 0)) 3⟩,⟨false,none,some 7,4,.assign (.tmp 9)⟩]) (.cond (.tmp 7) (.seq (.ops [⟨false,none,some 10,3,.move (.tmp 0)⟩,⟨false,none,some 11,3,.unOp .neg 3 (.tmp 10)⟩,⟨false,none,some 12,9,.call ⟨.value (.func 106),#[.tmp 11],#[3]⟩⟩,⟨false,none,some 13,9,.binOp .add 9 (.const (.string ⟨⟨[45]⟩⟩)) (.tmp 12) 9⟩,⟨false,none,some 2,9,.assign (.tmp 13)⟩]) (.ret)) (.seq (.ops [⟨false,none,some 15,3,.move (.tmp 0)⟩,⟨false,none,some 16,4,.binOp .gtr 3 (.tmp 15) (.const (.int .i64 9)) 3⟩,⟨false,none,some 14,4,.assign (.tmp 16)⟩]) (.cond (.tmp 14) (.seq (.ops [⟨false,none,some 17,3,.move (.tmp 0)⟩,⟨false,none,some 18,3,.binOp .quo 3 (.tmp 17) (.const (.int .i64 10)) 3⟩,⟨false,none,some 19,9,.call ⟨.value (.func 106),#[.tmp 18],#[3]⟩⟩,⟨false,none,some 20,3,.move (.tmp 0)⟩,⟨false,none,some 21,3,.binOp .rem 3 (.tmp 20) (.const (.int .i64 10)) 3⟩,⟨false,none,some 22,9,.call ⟨.value (.func 106),#[.tmp 21],#[3]⟩⟩,⟨false,none,some 23,9,.binOp .add 9 (.tmp 19) (.tmp 22) 9⟩,⟨false,none,some 2,9,.assign (.tmp 23)⟩]) (.ret)) (.seq (.ops [⟨false,none,some 3,3,.move (.tmp 0)⟩,⟨false,none,some 4,3,.move (.tmp 0)⟩,⟨false,none,some 5,3,.binOp .add 3 (.tmp 4) (.const (.int .i64 1)) 3⟩,⟨false,none,some 6,9,.slice 9 (.const (.string ⟨⟨[48,49,50,51,52,53,54,55,56,57]⟩⟩)) (some (.tmp 3)) (some (.tmp 5)) none⟩,⟨false,none,some 2,9,.assign (.tmp 6)⟩]) (.ret)))))))
theorem text106:textF Tryd.prog 106=some (24,[.tmp 2],mc106):=by kernel_rfl
@[simp] theorem cf30 (w:AW) (l:List Value):callFn Tryd.prog w 30 l=.enter 30 l w:=callFn_enter text30 l
@[simp] theorem cf32 (w:AW) (l:List Value):callFn Tryd.prog w 32 l=.enter 32 l w:=callFn_enter text32 l
@[simp] theorem cf72 (w:AW) (l:List Value):callFn Tryd.prog w 72 l=.enter 72 l w:=callFn_enter text72 l
@[simp] theorem cf77 (w:AW) (l:List Value):callFn Tryd.prog w 77 l=.enter 77 l w:=callFn_enter text77 l
@[simp] theorem cf96 (w:AW) (l:List Value):callFn Tryd.prog w 96 l=.enter 96 l w:=callFn_enter text96 l
@[simp] theorem cf97 (w:AW) (l:List Value):callFn Tryd.prog w 97 l=.enter 97 l w:=callFn_enter text97 l
@[simp] theorem cf106 (w:AW) (l:List Value):callFn Tryd.prog w 106 l=.enter 106 l w:=callFn_enter text106 l
noncomputable def mc95_r2:MY:=.seq (.seq (.mc (.ops [⟨false,none,some 24,89,.load 89 (.tmp 3)⟩,⟨false,none,some 25,86,.load 86 (.tmp 5)⟩,⟨false,none,some 26,128,.call ⟨.value (.func 79),#[.tmp 24,.tmp 25],#[89,86]⟩⟩])) (.block 0 (.rf 38 (.tmp 26) [27] (rfOf Tryd.prog 95 0).1 (rfOf Tryd.prog 95 0).2))) (.mc (.seq (.ops [⟨false,none,some 34,143,.load 143 (.tmp 1)⟩,⟨false,none,some 35,86,.load 86 (.tmp 5)⟩,⟨false,none,some 36,3,.load 3 (.tmp 9)⟩,⟨false,none,none,0,.mapUpdate 143 (.tmp 34) (.tmp 35) (.tmp 36)⟩]) (.seq (.ops [⟨false,none,some 37,3,.load 3 (.tmp 9)⟩,⟨false,none,some 6,3,.assign (.tmp 37)⟩]) (.ret))))
noncomputable def mc95_r1:MY:=.seq (.mc (.ops [⟨false,none,some 9,0,.alloc 3⟩,⟨false,none,none,0,.store 3 (.tmp 9) (.const (.int .i64 15))⟩])) mc95_r2
theorem mc95_eq:mc95=.seq (.mc (.ops [⟨false,none,some 5,0,.box 86 (.tmp 0)⟩,⟨false,none,some 6,3,.assign (.const (.int .i64 0))⟩])) (.seq (.mc (.seq (.ops [⟨false,none,some 12,143,.load 143 (.tmp 1)⟩,⟨false,none,some 13,86,.load 86 (.tmp 5)⟩,⟨false,none,some 14,145,.lookup 143 (.tmp 12) (.tmp 13) true⟩,⟨false,none,some 11,145,.move (.tmp 14)⟩,⟨false,none,some 15,3,.extract (.tmp 11) 0⟩,⟨false,none,some 16,4,.extract (.tmp 11) 1⟩,⟨false,none,some 7,3,.assign (.tmp 15)⟩,⟨false,none,some 8,4,.assign (.tmp 16)⟩]) (.seq (.ops [⟨false,none,some 17,4,.move (.tmp 8)⟩]) (.cond (.tmp 17) (.seq (.ops [⟨false,none,some 18,3,.move (.tmp 7)⟩,⟨false,none,some 6,3,.assign (.tmp 18)⟩]) (.ret)) (.skip))))) (.seq (.seq (.opy [⟨false,none,some 19,120,.load 120 (.tmp 2)⟩,⟨false,none,some 20,86,.load 86 (.tmp 5)⟩,⟨false,none,some 21,4,.call ⟨.value (.tmp 19),#[.tmp 20],#[86]⟩⟩]) (.mc (.cond (.tmp 21) (.seq (.ops [⟨false,none,some 22,143,.load 143 (.tmp 1)⟩,⟨false,none,some 23,86,.load 86 (.tmp 5)⟩,⟨false,none,none,0,.mapUpdate 143 (.tmp 22) (.tmp 23) (.const (.int .i64 0))⟩]) (.seq (.ops [⟨false,none,some 6,3,.assign (.const (.int .i64 0))⟩]) (.ret))) (.skip)))) mc95_r1)):=rfl
structure HasL (ov:Ov):Prop where
 o75:∀ args w,ov 75 args w=none
 o79:∀ args w,ov 79 args w=none
 o95:∀ args w,ov 95 args w=none
 o98:∀ args w,ov 98 args w=none
 o99:∀ args w,ov 99 args w=none
 h71:HasP ov 71 S71.F
 h78:HasP ov 78 S78.F
 h100:HasP ov 100 S100.F
 h107:HasP ov 107 S107.F
 h108:HasP ov 108 S108.F
 h109:HasP ov 109 S109.F
 h110:HasP ov 110 S110.F
section
variable {ov:Ov} {r:List CAct} {d:List CDay} {b:CBox} {lim:Sp} {w0:AW} {rv dv:Value} {b6 b7 c2 c3 c6 c7 km be:Nat}
set_option maxHeartbeats 1000000 in
theorem tail95 (m n:Nat) (h:HasL ov) (hR:ruleB r=true) (hD:daysB d=true) (H:∀ n',n=n' + 1→H95 ov r d b lim w0 rv dv b6 b7 c2 c3 c6 c7 km be m n') (s:Stg) (hS:OkS r d s) (hdn:s.done + (n:Int)=(d.length:Int)) (hso:soB b lim s=false) (w:AW) (hT:TrP r d b lim w0 rv dv b6 b7 c2 c3 c6 c7 km be w) (hl0:w0.lim≤w0.next) (hrv:RowsV actC w0 rv r) (hdv:RowsV cdayC w0 dv d) (sb c9:Nat) (hsb:be≤sb∧sb < w.next) (h9:be≤c9∧c9 < w.next) (h9s:c9 ≠ sb) (g5:w.heap.get sb=some (.cells (stgC s) 86 false)) (g9:w.heap.get c9=some (.cells [.int .i64 15] 3 false)) (Q:Ex→Tm→AW→Prop) (t:Tm) (t1:tget t 1=ptB c6) (t3:tget t 3=ptB c2) (t4:tget t 4=ptB c7) (t5:tget t 5=ptB sb) (t9:tget t 9=ptB c9)
  (hQ:∀ t w',TrP r d b lim w0 rv dv b6 b7 c2 c3 c6 c7 km be w'→Kp (fun x=>x=km∨x=c9) w w'→tget t 6=.int .i64 (leftG r d (soB b lim) n s)→Q .ret t w'):wp (exY Tryd.prog (run Tryd.prog ov (m + 2)) mc95_r2 t w) Q:=by
 have hS':=hS
 obtain ⟨⟨so,hst,hsl⟩,hlh⟩:=hS'
 have hdl:=days_len hD
 have hf:FineS s:=fine_of hst (by omega)
 have hle:=hT.le
 have hwl:=hT.wl
 obtain ⟨l1,l2,l3,l4,l5,l6,hkm⟩:=hT.lt
 have hk0:=hT.ne.2.2.2.2.2.2
 have g2:=hT.m2
 obtain ⟨_,_,c79,rfl,rfl⟩:=call79 (ov:=ov) (m + 1) h.o79 rv dv s w
 simp only [ptB] at t1 t3 t4 t5 t9
 have g5':=g5
 simp only [stgC] at g5' c79
 simp [mc95_r2,t3,t5,g2,g5',c79]
 obtain ⟨Hh,hH⟩:∃ Hh,Hh=(w.heap.put w.next (some (.cells [rv,dv] 89 false))).put (w.next + 1) (some (.cells [.int .i64 s.done,.int .i64 s.last,.int .i64 s.row,.int .i64 s.lo,.int .i64 s.hi] 86 false)):=⟨_,rfl⟩
 rw [← hH]
 have kH:∀ x,x < w.next→Hh.get x=w.heap.get x:=fun x hx=>by rw [hH,get_put,if_neg (by omega),get_put,if_neg (by omega)]
 have gH1:Hh.get (w.next + 1)=some (.cells (stgC s) 86 false):=by rw [hH,get_put,if_pos rfl]; rfl
 have gH2:Hh.get w.next=some (.cells [rv,dv] 89 false):=by rw [hH,get_put,if_neg (by omega),get_put,if_pos rfl]
 clear hH
 refine wp_seqX (wp_blockX (rf_wp (g:=98) (gargs:=[.func (.yield (w.next + 2)) ⟨[]⟩ ⟨[]⟩,.pointer (some ⟨w.next + 1,0,none⟩),.pointer (some ⟨w.next,0,none⟩)]) ?_ ?_))
 ·simp [fun98,callV_func]
 ·generalize hTT:tset _ 26 _=TT
  have v1:tget TT 1=.pointer (some ⟨c6,0,none⟩):=by rw [← hTT]; simp [t1]
  have v4:tget TT 4=ptB c7:=by rw [← hTT]; simp [t4,ptB]
  have v5:tget TT 5=.pointer (some ⟨sb,0,none⟩):=by rw [← hTT]; simp [t5]
  have v9:tget TT 9=.pointer (some ⟨c9,0,none⟩):=by rw [← hTT]; simp [t9]
  clear hTT
  obtain ⟨lp,hlp⟩:∃ lp:ALoop,lp=⟨38,TT,[27],(rfOf Tryd.prog 95 0).1,(rfOf Tryd.prog 95 0).2,none,.ready⟩:=⟨_,rfl⟩
  rw [← hlp]
  obtain ⟨we,hwe⟩:∃ we:AW,we=⟨Hh.put (w.next + 2) (some (.loop lp)),w.next + 2 + 1,w.lim⟩:=⟨_,rfl⟩
  have ne:we.next=w.next + 3:=by rw [hwe]
  have le:we.lim=w.lim:=by rw [hwe]
  have kE:∀ x,x < w.next + 2→we.heap.get x=Hh.get x:=fun x hx=>by rw [hwe]; show (Hh.put _ _).get x=_; rw [get_put,if_neg (by omega)]
  have gLe:we.heap.get (w.next + 2)=some (.loop lp):=by rw [hwe]; show (Hh.put _ _).get _=_; rw [get_put,if_pos rfl]
  have hTe:TrP r d b lim w0 rv dv b6 b7 c2 c3 c6 c7 km be we:=hT.keep (fun x hx=>by rw [kE x (by omega),kH x (by omega)]) (by omega) le
  have ue:Up w0 we:=⟨fun x hx=>hTe.old x hx,by omega,hTe.wl⟩
  have hkk:s.done=(so.length:Nat):=hst.done
  have hnx:∀ n',n=n' + 1→leftG r d (soB b lim) n s=minA r d (leftG r d (soB b lim) (n - 1)) s r.length:=fun n' e=>by subst e; exact leftG_not hso
  obtain ⟨v9',w2,hc98,hK2,hA,hB⟩:=call98g (G:=fun i w'=>w'.heap.get (w.next + 2)=some (.loop lp)∧w'.heap.get c9=some (.cells [.int .i64 (minA r d (leftG r d (soB b lim) (n - 1)) s i)] 3 false)∧TrP r d b lim w0 rv dv b6 b7 c2 c3 c6 c7 km be w'∧w.next + 2 < w'.next) (Post:=fun _=>False) (Xc:=fun x=>x=km∨x=w.next + 2∨x=c9) m (w.next + 2) h.o98 h.o99 h.h100 h.h107 h.h108 h.h109 h.h110 hR hf so.length hkk hsl we rv dv (hdv.up ue) (w.next + 1) w.next (by omega) (by omega) (fun x hx=>by omega) (by omega) (by rw [kE _ (by omega)]; exact gH1) (by rw [kE _ (by omega)]; exact gH2) (by omega)
   (fun w' hK=>hrv.up ⟨fun x hx=>by rw [hK.keep x (by omega) (by omega)]; exact hTe.old x hx,by have:=hK.next; omega,by have:=hK.lim; omega⟩)
   (fun i w1 w1' hG u=>⟨by rw [u.at hG.2.2.2]; exact hG.1,by rw [u.at (by have:=hG.2.2.2; omega)]; exact hG.2.1,hG.2.2.1.up u,Nat.lt_of_lt_of_le hG.2.2.2 u.next⟩)
   (fun i w1 hi hn hG=>⟨hG.1,by rw [minA_none hn]; exact hG.2.1,hG.2.2⟩)
   (fun i s' w1 hlt hi hn hK hG=>by
    obtain ⟨n',hn'⟩:∃ n',n=n' + 1:=⟨n - 1,by omega⟩
    obtain ⟨hS2,hd2⟩:=hS.next hR hn
    obtain ⟨w',y1,y2,y3,y4,y5⟩:=steps95 m n' (H n' hn') s' hS2 (by omega) w1 hG.2.2.1 hl0 (w.next + 2) c9 ⟨by omega,hG.2.2.2⟩ ⟨h9.1,by have:=hG.2.2.2; omega⟩ (by omega) _ hG.2.1 TT v4 (by rw [v9]; rfl) lp hlp hG.1
    exact ⟨true,w',y1,y3,fun _=>⟨y4,by rw [minA_some hn,show n - 1=n' by omega]; rw [show n - 1=n' by omega] at y5; exact y5,y2,by have:=y3.next; have:=hG.2.2.2; omega⟩,fun hh=>by cases hh⟩)
   ⟨gLe,by rw [kE _ (by omega),kH _ h9.2]; exact g9,hTe,by omega⟩
  have fin:w2.heap.get (w.next + 2)=some (.loop lp)∧w2.heap.get c9=some (.cells [.int .i64 (leftG r d (soB b lim) n s)] 3 false)∧TrP r d b lim w0 rv dv b6 b7 c2 c3 c6 c7 km be w2∧w.next + 2 < w2.next:=by
   by_cases hlt:so.length < d.length
   ·have hG:=(hA hlt).resolve_right id
    refine ⟨hG.1,?_,hG.2.2⟩
    rw [hnx (n - 1) (by omega)]
    exact hG.2.1
   ·have hG:=hB hlt
    refine ⟨hG.1,?_,hG.2.2⟩
    have:n=0:=by omega
    subst this
    rw [leftG_end hso]
    exact hG.2.1
  obtain ⟨f1,f2,f3,f4⟩:=fin
  have l2':=hK2.lim
  subst hwe
  have l2q:w2.lim=w.lim:=l2'
  refine ⟨v9',w2,hc98,lp,f1,by rw [hlp]; rfl,by show w2.lim≤w.next + 2; omega,?_⟩
  have hp:lp.pending=none:=by rw [hlp]
  rw [hp]
  simp only
  generalize hH2:w2.heap.put (w.next + 2) _=H2
  have kZ:∀ x,x ≠ w.next + 2→H2.get x=w2.heap.get x:=fun x hx=>by rw [← hH2,get_put,if_neg hx]
  have hT6:TrP r d b lim w0 rv dv b6 b7 c2 c3 c6 c7 km be ⟨H2,w2.next,w2.lim⟩:=f3.keep (fun x hx=>kZ x (by omega)) (Nat.le_refl _) rfl
  obtain ⟨Lm,hLm,hKm⟩:=hT6.map
  have hup:=update_k (P:=Tryd.prog) (s:=143) map143 sg_ok hLm (by show w2.lim≤km; omega) s (leftG r d (soB b lim) n s)
  have hup:mapUpdateA Tryd.prog ⟨H2,w2.next,w2.lim⟩ 143 (.map (some km)) (.agg ⟨[.int .i64 s.done,.int .i64 s.last,.int .i64 s.row,.int .i64 s.lo,.int .i64 s.hi]⟩) (.int .i64 (leftG r d (soB b lim) n s))=_:=hup
  have q6:H2.get c6=some (.cells [.map (some km)] 143 false):=hT6.m6
  have q5:H2.get sb=some (.cells [.int .i64 s.done,.int .i64 s.last,.int .i64 s.row,.int .i64 s.lo,.int .i64 s.hi] 86 false):=by
   rw [kZ _ (by omega),hK2.keep sb (by show sb < w.next + 2 + 1; omega) (by omega)]
   show (Hh.put _ _).get sb=_
   rw [get_put,if_neg (by omega),kH _ hsb.2]; exact g5
  have q9:H2.get c9=some (.cells [.int .i64 (leftG r d (soB b lim) n s)] 3 false):=by rw [kZ _ (by omega)]; exact f2
  have n9:¬ c9=km:=by omega
  simp [v1,v5,v9,q6,q5,q9,hup,n9]
  refine hQ _ _ (hT6.upd hLm hKm s (by omega)) ⟨fun x hx hne=>?_,?_,l2'⟩ (by simp)
  ·show (H2.put km _).get x=_
   rw [get_put,if_neg (by omega),kZ _ (by omega),hK2.keep x (by show x < w.next + 2 + 1; omega) (by omega)]
   show (Hh.put _ _).get x=_
   rw [get_put,if_neg (by omega),kH _ hx]
  ·have:=hK2.next
   show w.next≤w2.next
   have e:(⟨Hh.put (w.next + 2) (some (.loop lp)),w.next + 2 + 1,w.lim⟩:AW).next=w.next + 2 + 1:=rfl
   omega
set_option maxHeartbeats 1000000 in
theorem step95 (m n:Nat) (h:HasL ov) (hR:ruleB r=true) (hD:daysB d=true) (hb:boxB b=true) (hl0:w0.lim≤w0.next) (hLim:LimW w0) (hrv:RowsV actC w0 rv r) (hdv:RowsV cdayC w0 dv d) (H:∀ n',n=n' + 1→H95 ov r d b lim w0 rv dv b6 b7 c2 c3 c6 c7 km be m n'):H95 ov r d b lim w0 rv dv b6 b7 c2 c3 c6 c7 km be (m + 3) n:=by
 intro s w hS hdn hT
 have hS':=hS
 obtain ⟨⟨so,hst,hsl⟩,hlh⟩:=hS'
 have hdl:=days_len hD
 have hf:FineS s:=fine_of hst (by omega)
 have hle:=hT.le
 have hwl:=hT.wl
 obtain ⟨l1,l2,l3,l4,l5,l6,hkm⟩:=hT.lt
 have hk0:=hT.ne.2.2.2.2.2.2
 obtain ⟨w1,hw1⟩:∃ w1:AW,w1=⟨w.heap.put w.next (some (.cells [.int .i64 s.done,.int .i64 s.last,.int .i64 s.row,.int .i64 s.lo,.int .i64 s.hi] 86 false)),w.next + 1,w.lim⟩:=⟨_,rfl⟩
 have u1:Up w w1:=by rw [hw1]; exact (Up.refl w).add _
 have n1:w1.next=w.next + 1:=by rw [hw1]
 have lm1:w1.lim=w.lim:=by rw [hw1]
 have gs1:w1.heap.get w.next=some (.cells (stgC s) 86 false):=by rw [hw1]; show (w.heap.put _ _).get _=_; rw [get_put,if_pos rfl]; rfl
 have hT1:=hT.up u1
 have uw:Up w0 w1:=⟨fun x hx=>hT1.old x hx,by omega,hT1.wl⟩
 obtain ⟨L,hL,hK⟩:=hT1.map
 have hlk:=lookup_k (P:=Tryd.prog) (s:=143) map143 sg_ok zero3 hL s true
 have g6:=hT.m6
 have g3:=hT.m3
 have m6:¬ c6=w.next:=by omega
 have m3:¬ c3=w.next:=by omega
 have hdt:d.length - s.done.toNat=n:=by rw [hst.done]; have:=hst.done; omega
 have goal:∃ v w',(run Tryd.prog ov (m + 3)).call 95 [.agg ⟨stgC s⟩,ptB c6,ptB c3,ptB c2,ptB c7] w .none=.ok (.ret v) w' .none∧v=.int .i64 (leftG r d (soB b lim) n s)∧AfP r d b lim w0 rv dv b6 b7 c2 c3 c6 c7 km be w w':=by
  refine call_wpY text95 (by simp) (h.o95 _ _) ?_
  cases hv:lookK L s with
  | some v =>
   have e:=hK s v hv
   rw [hdt] at e
   rw [hv,e] at hlk
   have hlk:lookupA Tryd.prog w1 143 (.map (some km)) (.agg ⟨[.int .i64 s.done,.int .i64 s.last,.int .i64 s.row,.int .i64 s.lo,.int .i64 s.hi]⟩) true=.val (.tuple ⟨[.int .i64 (leftG r d (soB b lim) n s),.bool true]⟩) w1:=hlk
   rw [hw1] at hlk
   simp [mc95_eq,ptB,stgC,g6,m6,hlk,tupV]
   rw [← hw1]
   exact ⟨hT1,(Kp.refl _ _).up u1⟩
  | none =>
   rw [hv] at hlk
   have hlk:lookupA Tryd.prog w1 143 (.map (some km)) (.agg ⟨[.int .i64 s.done,.int .i64 s.last,.int .i64 s.row,.int .i64 s.lo,.int .i64 s.hi]⟩) true=.val (.tuple ⟨[.int .i64 0,.bool false]⟩) w1:=hlk
   obtain ⟨_,w2,c75,rfl,u2⟩:=call75 (lim:=lim) m h.o75 h.h71 hb s hf hlh w1 (by omega) (hLim.up uw) hT1.bx hT1.lm (by omega) (by omega)
   have u12:=u1.trans u2
   have hT2:=hT.up u12
   have n2:=u2.next
   have lm2:=u2.lim
   have gs2:w2.heap.get w.next=some (.cells [.int .i64 s.done,.int .i64 s.last,.int .i64 s.row,.int .i64 s.lo,.int .i64 s.hi] 86 false):=(u2.at (by omega)).trans gs1
   have g62:=hT2.m6
   simp only [stgC,ptB] at c75
   simp only [fn75] at g3
   rw [hw1] at hlk c75
   cases hso:soB b lim s with
   | true =>
    rw [hso] at c75
    obtain ⟨L2,hL2,hK2⟩:=hT2.map
    have hup:=update_k (P:=Tryd.prog) (s:=143) map143 sg_ok hL2 (by omega) s (leftG r d (soB b lim) n s)
    have h0:leftG r d (soB b lim) n s=0:=leftG_so hso
    have hT3:=hT2.upd hL2 hK2 s hdt
    rw [h0] at hup hT3 ⊢
    have hup:mapUpdateA Tryd.prog w2 143 (.map (some km)) (.agg ⟨[.int .i64 s.done,.int .i64 s.last,.int .i64 s.row,.int .i64 s.lo,.int .i64 s.hi]⟩) (.int .i64 0)=_:=hup
    simp [mc95_eq,ptB,stgC,g6,g3,m6,m3,hlk,callV_func,c75,g62,gs2,hup,tupV]
    refine ⟨hT3,⟨fun x hx hne=>?_,?_,?_⟩⟩
    ·show (w2.heap.put km _).get x=_
     rw [get_put,if_neg hne]; exact u12.at hx
    ·exact u12.next
    ·exact u12.lim
   | false =>
    rw [hso] at c75
    have lw2:w2.lim≤w2.next:=by omega
    obtain ⟨w3,hw3⟩:∃ w3:AW,w3=⟨(w2.heap.put w2.next (some (.cells [.int .i64 0] 3 false))).put w2.next (some (.cells [.int .i64 15] 3 false)),w2.next + 1,w2.lim⟩:=⟨_,rfl⟩
    have u3:Up w2 w3:=by rw [hw3]; exact ((Up.refl w2).add _).put (Nat.le_refl _) (Nat.le_refl _)
    have n3:w3.next=w2.next + 1:=by rw [hw3]
    have g93:w3.heap.get w2.next=some (.cells [.int .i64 15] 3 false):=by rw [hw3]; show ((w2.heap.put _ _).put _ _).get _=_; rw [get_put,if_pos rfl]
    have u13:=u12.trans u3
    simp [mc95_eq,mc95_r1,ptB,stgC,g6,g3,m6,m3,hlk,callV_func,c75,lw2]
    rw [← hw3]
    refine tail95 m n h hR hD H s hS hdn hso w3 (hT.up u13) hl0 hrv hdv w.next w2.next ⟨by omega,by omega⟩ ⟨by omega,by omega⟩ (by omega) (by rw [u3.at (by omega)]; exact gs2) g93 _ _ ?_ ?_ ?_ ?_ ?_ ?_
    ·simp [ptB]
    ·simp [ptB]
    ·simp [ptB]
    ·simp [ptB]
    ·simp [ptB]
    ·intro t w' hT' hK' t6
     simp [t6,tupV]
     refine ⟨hT',⟨fun x hx hne=>?_,?_,?_⟩⟩
     ·have:=u13.next
      rw [hK'.keep x (by omega) (by have:=u12.next; omega)]; exact u13.at hx
     ·have:=u13.next; have:=hK'.next; omega
     ·have:=u13.lim; have:=hK'.lim; omega
 obtain ⟨_,w',h1,rfl,h2⟩:=goal
 exact ⟨w',h1,h2⟩
theorem call95 (h:HasL ov) (hR:ruleB r=true) (hD:daysB d=true) (hb:boxB b=true) (hl0:w0.lim≤w0.next) (hLim:LimW w0) (hrv:RowsV actC w0 rv r) (hdv:RowsV cdayC w0 dv d):∀ n m,H95 ov r d b lim w0 rv dv b6 b7 c2 c3 c6 c7 km be (m + 3 * n + 3) n
 | 0,m=>step95 m 0 h hR hD hb hl0 hLim hrv hdv fun n' e=>by omega
 | n + 1,m=>by
  have e:m + 3 * (n + 1) + 3=(m + 3 * n + 3) + 3:=by omega
  rw [e]
  refine step95 (m + 3 * n + 3) (n + 1) h hR hD hb hl0 hLim hrv hdv fun n' e=>?_
  have e:n'=n:=by omega
  subst e
  exact call95 h hR hD hb hl0 hLim hrv hdv n' m
end
theorem st_i3 {w:AW} {B k:Nat} {L:List Int} {v:Int} (hk:k < L.length) (hl:w.lim≤B):wrO w B k [.int .i64 v] (some (.cells (L.flatMap intC) 3 false))=some ⟨w.heap.put B (some (.cells ((L.set k v).flatMap intC) 3 false)),w.next,w.lim⟩:=by
 have hlen:(L.flatMap intC).length=L.length * 1:=flat_length intC_length L
 have:=flat_set intC_length L k v hk
 simp only [Nat.mul_one] at this
 rw [wrO_cells (by simp) hl (by simp [hlen]; omega),← this]
 rfl
theorem next_last {r:List CAct} {d:List CDay} {s s':Stg} {i:Nat} (h:nextS r d s ((i:Nat):Int)=some s'):s'.last=(i:Int):=by
 obtain ⟨j,hj,hjr⟩:=next_nat h
 have:j=i:=by omega
 subst this
 obtain ⟨x,hx⟩:∃ x,r[j]?=some x:=⟨_,List.getElem?_eq_getElem hjr⟩
 cases hd:d[s.done.toNat]? with
 | none=>unfold nextS at h; rw [hd] at h; cases h
 | some y =>
  rw [next_at hd hx] at h
  split at h
  ·cases Option.some.inj h; rfl
  ·cases h
structure D74 (r:List CAct) (d:List CDay) (b:CBox) (lim:Sp) (w0:AW) (rv dv:Value) (b6 b7 c2 c3 c6 c7 km be c8 c9 cA c10 k:Nat) (s:Stg) (l:List Int) (w:AW):Prop where
 tr:TrP r d b lim w0 rv dv b6 b7 c2 c3 c6 c7 km be w
 g8:w.heap.get c8=some (.cells (stgC s) 86 false)
 g9:w.heap.get c9=some (.cells [.int .i64 (k:Int)] 3 false)
 gA:w.heap.get cA=some (.cells (l.flatMap intC) 3 false)
 g10:w.heap.get c10=some (.cells [.slice (some ⟨cA,0,none⟩) k k] 28 false)
 len:l.length=k
 ord:be≤c8∧c8 < c9∧c9 < cA∧cA < c10∧c10 < w.next
section
variable {ov:Ov} {r:List CAct} {d:List CDay} {b:CBox} {lim:Sp} {w0:AW} {rv dv:Value} {b6 b7 c2 c3 c6 c7 km be c8 c9 cA c10 k:Nat}
theorem D74.keep {s:Stg} {l:List Int} {w w':AW} (h:D74 r d b lim w0 rv dv b6 b7 c2 c3 c6 c7 km be c8 c9 cA c10 k s l w) (q:∀ x,x≤c10→w'.heap.get x=w.heap.get x) (hn:w.next≤w'.next) (hl:w'.lim=w.lim):D74 r d b lim w0 rv dv b6 b7 c2 c3 c6 c7 km be c8 c9 cA c10 k s l w':=by
 obtain ⟨o1,o2,o3,o4,o5⟩:=h.ord
 exact ⟨h.tr.keep (fun x hx=>q x (by omega)) hn hl,by rw [q _ (by omega)]; exact h.g8,by rw [q _ (by omega)]; exact h.g9,by rw [q _ (by omega)]; exact h.gA,by rw [q _ (by omega)]; exact h.g10,h.len,o1,o2,o3,o4,by omega⟩
theorem D74.after {s:Stg} {l:List Int} {w w':AW} (h:D74 r d b lim w0 rv dv b6 b7 c2 c3 c6 c7 km be c8 c9 cA c10 k s l w) (hA:AfP r d b lim w0 rv dv b6 b7 c2 c3 c6 c7 km be w w'):D74 r d b lim w0 rv dv b6 b7 c2 c3 c6 c7 km be c8 c9 cA c10 k s l w':=by
 obtain ⟨o1,o2,o3,o4,o5⟩:=h.ord
 have hkm:=h.tr.lt.2.2.2.2.2.2
 have q:∀ x,x < w.next→be≤x→w'.heap.get x=w.heap.get x:=fun x h1 h2=>hA.2.keep x h1 (by omega)
 exact ⟨hA.1,by rw [q _ (by omega) (by omega)]; exact h.g8,by rw [q _ (by omega) (by omega)]; exact h.g9,by rw [q _ (by omega) (by omega)]; exact h.gA,by rw [q _ (by omega) (by omega)]; exact h.g10,h.len,o1,o2,o3,o4,by have:=hA.2.next; omega⟩
theorem D74.take {s s':Stg} {l:List Int} {w:AW} (h:D74 r d b lim w0 rv dv b6 b7 c2 c3 c6 c7 km be c8 c9 cA c10 k s l w) (i:Nat) (a:Int):D74 r d b lim w0 rv dv b6 b7 c2 c3 c6 c7 km be c8 c9 cA c10 k s' (l.set i a) ⟨(w.heap.put cA (some (.cells ((l.set i a).flatMap intC) 3 false))).put c8 (some (.cells (stgC s') 86 false)),w.next,w.lim⟩:=by
 obtain ⟨o1,o2,o3,o4,o5⟩:=h.ord
 have q:∀ x,x ≠ cA→x ≠ c8→(⟨(w.heap.put cA (some (.cells ((l.set i a).flatMap intC) 3 false))).put c8 (some (.cells (stgC s') 86 false)),w.next,w.lim⟩:AW).heap.get x=w.heap.get x:=fun x h1 h2=>by
  show ((w.heap.put _ _).put _ _).get x=_
  rw [get_put,if_neg h2,get_put,if_neg h1]
 refine ⟨h.tr.keep (fun x hx=>q x (by omega) (by omega)) (Nat.le_refl _) rfl,?_,by rw [q _ (by omega) (by omega)]; exact h.g9,?_,by rw [q _ (by omega) (by omega)]; exact h.g10,by rw [List.length_set]; exact h.len,o1,o2,o3,o4,o5⟩
 ·show ((w.heap.put _ _).put _ _).get _=_
  rw [get_put,if_pos rfl]
 ·show ((w.heap.put _ _).put _ _).get _=_
  rw [get_put,if_neg (by omega),get_put,if_pos rfl]
theorem body74 (m n:Nat) (H:H95 ov r d b lim w0 rv dv b6 b7 c2 c3 c6 c7 km be m n) (s s':Stg) (l:List Int) (hS:OkS r d s') (hdn:s'.done + (n:Int)=(d.length:Int)) (w:AW) (hD:D74 r d b lim w0 rv dv b6 b7 c2 c3 c6 c7 km be c8 c9 cA c10 k s l w) (hl0:w0.lim≤w0.next) (hk:k≤100) (i:Nat) (hi:i < k) (c11 c12:Nat) (h11:c10 < c11∧c11 < w.next) (h12:c10 < c12∧c12 < w.next) (g11:w.heap.get c11=some (.cells [.int .i64 (i:Int)] 3 false)) (g12:w.heap.get c12=some (.cells (stgC s') 86 false)) (Q:Ex→Tm→AW→Prop) (t:Tm) (t7:tget t 7=ptB c7) (t8:tget t 8=ptB c8) (t9:tget t 9=ptB c9) (t10:tget t 10=ptB c10) (t11:tget t 11=ptB c11) (t12:tget t 12=ptB c12)
  (hno:leftG r d (soB b lim) n s' ≠ (k:Int) - (i:Int) - 1→∀ t w5,AfP r d b lim w0 rv dv b6 b7 c2 c3 c6 c7 km be w w5→Q .normal t w5)
  (hyes:leftG r d (soB b lim) n s'=(k:Int) - (i:Int) - 1→∀ t w5,AfP r d b lim w0 rv dv b6 b7 c2 c3 c6 c7 km be w w5→Q (.exit 2) t ⟨(w5.heap.put cA (some (.cells ((l.set i s'.last).flatMap intC) 3 false))).put c8 (some (.cells (stgC s') 86 false)),w5.next,w5.lim⟩):wp (exY Tryd.prog (run Tryd.prog ov m) mc74_b0 t w) Q:=by
 obtain ⟨w5,c95,hA⟩:=H s' w hS hdn hD.tr
 have hD5:=hD.after hA
 obtain ⟨o1,o2,o3,o4,o5⟩:=hD.ord
 have hkm:=hD.tr.lt.2.2.2.2.2.2
 have hk0:=hD.tr.ne.2.2.2.2.2.2
 have q5:∀ x,x < w.next→be≤x→w5.heap.get x=w.heap.get x:=fun x h1 h2=>hA.2.keep x h1 (by omega)
 have g115:w5.heap.get c11=some (.cells [.int .i64 (i:Int)] 3 false):=by rw [q5 _ (by omega) (by omega)]; exact g11
 have g125:w5.heap.get c12=some (.cells (stgC s') 86 false):=by rw [q5 _ (by omega) (by omega)]; exact g12
 have g9:=hD.g9
 have g95:=hD5.g9
 have gA5:=hD5.gA
 have g105:=hD5.g10
 have g85:=hD5.g8
 have g7:=hD.tr.m7
 have w1':IntKind.wrap .i64 ((k:Int) - (i:Int))=(k:Int) - (i:Int):=wrap64_in (by omega) (by omega)
 have w2':IntKind.wrap .i64 ((k:Int) - (i:Int) - 1)=(k:Int) - (i:Int) - 1:=wrap64_in (by omega) (by omega)
 have hwl:=hA.1.wl
 have lA:w5.lim≤cA:=by omega
 have l8:w5.lim≤c8:=by omega
 have hia:∀ w',indexAddrA Tryd.prog w' 28 (.slice (some ⟨cA,0,none⟩) k k) (.int .i64 (i:Int))=.val (.pointer (some ⟨cA,i,none⟩)) w':=fun w'=>by
  have e:(⟨cA,0,none⟩:Addr).add (i * 1)=⟨cA,i,none⟩:=by
   by_cases h:i=0
   ·subst h; rfl
   ·simp [Addr.add,h]
  rw [← e]; exact ia28 w' ⟨cA,0,none⟩ k k .i64 i hi
 have hst:=st_i3 (w:=w5) (B:=cA) (k:=i) (L:=l) (v:=s'.last) (by rw [hD.len]; exact hi) lA
 simp only [fn95] at g7
 simp only [ptB] at t7 t8 t9 t10 t11 t12 c95 g7
 have n8A:¬ c8=cA:=by omega
 have n12A:¬ c12=cA:=by omega
 have sm:sameVal 5 (.agg ⟨[.int .i64 s'.done,.int .i64 s'.last,.int .i64 s'.row,.int .i64 s'.lo,.int .i64 s'.hi]⟩) (.agg ⟨[.int .i64 s'.done,.int .i64 s'.last,.int .i64 s'.row,.int .i64 s'.lo,.int .i64 s'.hi]⟩)=true:=same_agg _ (by
   intro v hv
   simp only [List.mem_cons,List.not_mem_nil,or_false] at hv
   rcases hv with rfl | rfl | rfl | rfl | rfl <;> exact sameN_int _ _ _)
 by_cases he:leftG r d (soB b lim) n s'=(k:Int) - (i:Int) - 1
 ·have fin:=hyes he
  rw [he] at c95
  simp only [stgC] at g12 c95 g125 g85 fin
  simp [mc74_b0,t7,t8,t9,t10,t11,t12,g9,g11,g7,g12,callV_func,c95,w1',w2',g95,g115,g125,g105,hia,gA5,hst,g85,n8A,n12A,l8,cellsOf_agg,sm]
  exact fin _ w5 hA
 ·simp only [stgC] at g12 c95 g125
  simp [mc74_b0,t7,t8,t9,t10,t11,t12,g9,g11,g7,g12,callV_func,c95,w1',w2',g95,g115,he]
  exact hno he _ w5 hA
theorem steps74 (m n:Nat) (H:H95 ov r d b lim w0 rv dv b6 b7 c2 c3 c6 c7 km be m n) (s s':Stg) (l:List Int) (hS:OkS r d s') (hdn:s'.done + (n:Int)=(d.length:Int)) (w:AW) (hD:D74 r d b lim w0 rv dv b6 b7 c2 c3 c6 c7 km be c8 c9 cA c10 k s l w) (hl0:w0.lim≤w0.next) (hk:k≤100) (i:Nat) (hi:i < k) (L c11:Nat) (hL:c10 < L∧L < w.next) (h11:c10 < c11∧c11 < w.next) (h11L:c11 ≠ L) (g11:w.heap.get c11=some (.cells [.int .i64 (i:Int)] 3 false)) (TT:Tm) (t7:tget TT 7=ptB c7) (t8:tget TT 8=ptB c8) (t9:tget TT 9=ptB c9) (t10:tget TT 10=ptB c10) (t11:tget TT 11=ptB c11)
  (lp:ALoop) (hlp:lp=⟨47,TT,[30],(rfOf Tryd.prog 74 0).1,(rfOf Tryd.prog 74 0).2,none,.ready⟩) (gL:w.heap.get L=some (.loop lp)) :
  ∃ go w',yieldA (run Tryd.prog ov (m + 1)) L [.agg ⟨stgC s'⟩] w=.val go w'∧Kp (fun x=>x=km∨x=L∨x=c8∨x=cA) w w'∧(go=true→leftG r d (soB b lim) n s' ≠ (k:Int) - (i:Int) - 1∧D74 r d b lim w0 rv dv b6 b7 c2 c3 c6 c7 km be c8 c9 cA c10 k s l w'∧w'.heap.get L=some (.loop lp))∧(go=false→leftG r d (soB b lim) n s'=(k:Int) - (i:Int) - 1∧D74 r d b lim w0 rv dv b6 b7 c2 c3 c6 c7 km be c8 c9 cA c10 k s' (l.set i s'.last) w'∧w'.heap.get L=some (.loop ⟨47,TT,[30],(rfOf Tryd.prog 74 0).1,(rfOf Tryd.prog 74 0).2,some (.exit 2),.done⟩)):=by
 obtain ⟨o1,o2,o3,o4,o5⟩:=hD.ord
 have hle:=hD.tr.le
 have hwl:=hD.tr.wl
 have hkm:=hD.tr.lt.2.2.2.2.2.2
 have hk0:=hD.tr.ne.2.2.2.2.2.2
 have lw:w.lim≤w.next:=by omega
 have eL:¬ L=w.next:=by omega
 have lL:w.lim≤L:=by omega
 subst hlp
 obtain ⟨C,hC⟩:∃ C:AObj,C=.cells [.int .i64 s'.done,.int .i64 s'.last,.int .i64 s'.row,.int .i64 s'.lo,.int .i64 s'.hi] 86 false:=⟨_,rfl⟩
 obtain ⟨wB,hwB⟩:∃ wB:AW,wB=⟨((w.heap.put w.next (some (.cells [.int .i64 0,.int .i64 0,.int .i64 0,.int .i64 0,.int .i64 0] 86 false))).put w.next (some C)).put L (some (.loop ⟨47,TT,[30],(rfOf Tryd.prog 74 0).1,(rfOf Tryd.prog 74 0).2,none,.busy⟩)),w.next + 1,w.lim⟩:=⟨_,rfl⟩
 have nB:wB.next=w.next + 1:=by rw [hwB]
 have lB:wB.lim=w.lim:=by rw [hwB]
 have kB:∀ x,x < w.next→x ≠ L→wB.heap.get x=w.heap.get x:=fun x h1 h2=>by
  rw [hwB]
  show (((w.heap.put _ _).put _ _).put _ _).get x=_
  rw [get_put,if_neg h2,get_put,if_neg (by omega),get_put,if_neg (by omega)]
 have gB:wB.heap.get w.next=some C:=by
  rw [hwB]
  show (((w.heap.put _ _).put _ _).put _ _).get _=_
  rw [get_put,if_neg (by omega),get_put,if_pos rfl]
 have gLB:wB.heap.get L=some (.loop ⟨47,TT,[30],(rfOf Tryd.prog 74 0).1,(rfOf Tryd.prog 74 0).2,none,.busy⟩):=by
  rw [hwB]
  show (((w.heap.put _ _).put _ _).put _ _).get _=_
  rw [get_put,if_pos rfl]
 have hDB:D74 r d b lim w0 rv dv b6 b7 c2 c3 c6 c7 km be c8 c9 cA c10 k s l wB:=hD.keep (fun x hx=>kB x (by omega) (by omega)) (by omega) lB
 obtain ⟨j,w',hy,hQ⟩:=yield_wp (P:=Tryd.prog) (ov:=ov) (m:=m) (l:=L) (args:=[.agg ⟨stgC s'⟩]) (w:=w) (Q:=fun j w'=>∃ w5,AfP r d b lim w0 rv dv b6 b7 c2 c3 c6 c7 km be wB w5∧((leftG r d (soB b lim) n s' ≠ (k:Int) - (i:Int) - 1∧j=none∧w'=⟨w5.heap.put L (some (.loop ⟨47,TT,[30],(rfOf Tryd.prog 74 0).1,(rfOf Tryd.prog 74 0).2,none,.ready⟩)),w5.next,w5.lim⟩)∨(leftG r d (soB b lim) n s'=(k:Int) - (i:Int) - 1∧j=some (.exit 2)∧w'=⟨((w5.heap.put cA (some (.cells ((l.set i s'.last).flatMap intC) 3 false))).put c8 (some (.cells (stgC s') 86 false))).put L (some (.loop ⟨47,TT,[30],(rfOf Tryd.prog 74 0).1,(rfOf Tryd.prog 74 0).2,some (.exit 2),.done⟩)),w5.next,w5.lim⟩))) gL rfl rfl ta74_0 tb74_0 (by
  simp [mc74_a0,stgC,cellsOf_agg,lw,lL,eL,gL]
  rw [← hC,← hwB]
  refine body74 m n H s s' l hS hdn wB hDB hl0 hk i hi c11 w.next ⟨h11.1,by omega⟩ ⟨by omega,by omega⟩ (by rw [kB c11 h11.2 h11L]; exact g11) (by rw [gB,hC]; rfl) _ _ ?_ ?_ ?_ ?_ ?_ ?_ ?_ ?_
  ·simp [t7]
  ·simp [t8]
  ·simp [t9]
  ·simp [t10]
  ·simp [t11]
  ·simp [ptB]
  ·intro hne t w5 hA
   have gL5:w5.heap.get L=some (.loop ⟨47,TT,[30],(rfOf Tryd.prog 74 0).1,(rfOf Tryd.prog 74 0).2,none,.busy⟩):=by rw [hA.2.keep L (by omega) (by omega)]; exact gLB
   have l5:=hA.2.lim
   exact ⟨none,rfl,⟨47,TT,[30],(rfOf Tryd.prog 74 0).1,(rfOf Tryd.prog 74 0).2,none,.busy⟩,gL5,⟨rfl,rfl,rfl,rfl,rfl⟩,by omega,w5,hA,.inl ⟨hne,rfl,rfl,rfl,rfl⟩⟩
  ·intro heq t w5 hA
   have gL5:w5.heap.get L=some (.loop ⟨47,TT,[30],(rfOf Tryd.prog 74 0).1,(rfOf Tryd.prog 74 0).2,none,.busy⟩):=by rw [hA.2.keep L (by omega) (by omega)]; exact gLB
   have l5:=hA.2.lim
   refine ⟨some (.exit 2),rfl,⟨47,TT,[30],(rfOf Tryd.prog 74 0).1,(rfOf Tryd.prog 74 0).2,none,.busy⟩,?_,⟨rfl,rfl,rfl,rfl,rfl⟩,by show w5.lim≤L; omega,w5,hA,.inr ⟨heq,rfl,by rw [hC]; rfl,rfl,rfl⟩⟩
   show ((w5.heap.put _ _).put _ _).get L=_
   rw [get_put,if_neg (by omega),get_put,if_neg (by omega)]; exact gL5)
 obtain ⟨w5,hA,hor⟩:=hQ
 have hD5:=hDB.after hA
 have n5:=hA.2.next
 have l5:=hA.2.lim
 rcases hor with ⟨hne,rfl,hw'⟩ | ⟨heq,rfl,hw'⟩
 ·refine ⟨true,w',hy,⟨fun x hx hx2=>?_,?_,?_⟩,fun _=>⟨hne,?_,?_⟩,fun hh=>by cases hh⟩
  ·rw [hw']
   show (w5.heap.put _ _).get x=_
   rw [get_put,if_neg (by omega),hA.2.keep x (by omega) (by omega),kB x hx (by omega)]
  ·rw [hw']; show w.next≤w5.next; omega
  ·rw [hw']; show w5.lim=w.lim; omega
  ·rw [hw']
   refine hD5.keep (fun x hx=>?_) (Nat.le_refl _) rfl
   show (w5.heap.put _ _).get x=_
   rw [get_put,if_neg (by omega)]
  ·rw [hw']
   show (w5.heap.put _ _).get L=_
   rw [get_put,if_pos rfl]
 ·refine ⟨false,w',hy,⟨fun x hx hx2=>?_,?_,?_⟩,(fun hh=>by cases hh),fun _=>⟨heq,?_,?_⟩⟩
  ·rw [hw']
   show (((w5.heap.put _ _).put _ _).put _ _).get x=_
   rw [get_put,if_neg (by omega),get_put,if_neg (by omega),get_put,if_neg (by omega),hA.2.keep x (by omega) (by omega),kB x hx (by omega)]
  ·rw [hw']; show w.next≤w5.next; omega
  ·rw [hw']; show w5.lim=w.lim; omega
  ·rw [hw']
   refine (hD5.take (s':=s') i s'.last).keep (fun x hx=>?_) (Nat.le_refl _) rfl
   show (((w5.heap.put _ _).put _ _).put _ _).get x=((w5.heap.put _ _).put _ _).get x
   rw [get_put,if_neg (by omega)]
  ·rw [hw']
   show (((w5.heap.put _ _).put _ _).put _ _).get L=_
   rw [get_put,if_pos rfl]
end
noncomputable def mc74_r2:MY:=.seq (.mc (.seq (.ops [⟨false,none,some 19,3,.load 3 (.tmp 9)⟩,⟨false,none,some 20,4,.binOp .eql 3 (.tmp 19) (.const (.int .i64 15)) 3⟩]) (.cond (.tmp 20) (.seq (.ops [⟨false,none,some 4,28,.assign (.const (.slice none 0 0))⟩,⟨false,none,some 5,4,.assign (.const (.bool false))⟩]) (.ret)) (.skip)))) (.seq (.mc (.ops [⟨false,none,some 21,3,.load 3 (.tmp 9)⟩,⟨false,none,some 22,28,.makeSlice 28 (.tmp 21) (.tmp 21)⟩,⟨false,none,some 10,0,.alloc 28⟩,⟨false,none,none,0,.store 28 (.tmp 10) (.tmp 22)⟩])) (.seq (.seq (.mc (.ops [⟨false,none,some 23,3,.load 3 (.tmp 9)⟩,⟨false,none,some 24,3,.move (.const (.int .i64 0))⟩])) (.block 0 (.loop mc74_l0))) (.mc (.seq (.ops [⟨false,none,some 46,28,.load 28 (.tmp 10)⟩,⟨false,none,some 4,28,.assign (.tmp 46)⟩,⟨false,none,some 5,4,.assign (.const (.bool true))⟩]) (.ret)))))
noncomputable def mc74_r1:MY:=.seq (.opy [⟨false,none,some 16,144,.load 144 (.tmp 7)⟩,⟨false,none,some 17,86,.load 86 (.tmp 8)⟩,⟨false,none,some 18,3,.call ⟨.value (.tmp 16),#[.tmp 17],#[86]⟩⟩,⟨false,none,some 9,0,.alloc 3⟩,⟨false,none,none,0,.store 3 (.tmp 9) (.tmp 18)⟩]) mc74_r2
theorem mc74_eq:mc74=.seq (.mc (.ops [⟨false,none,some 2,0,.box 89 (.tmp 0)⟩,⟨false,none,some 3,0,.box 120 (.tmp 1)⟩,⟨false,none,some 4,28,.assign (.const (.slice none 0 0))⟩,⟨false,none,some 5,4,.assign (.const (.bool false))⟩])) (.seq (.mc (.ops [⟨false,none,some 13,143,.makeMap 143 none⟩,⟨false,none,some 6,0,.alloc 143⟩,⟨false,none,none,0,.store 143 (.tmp 6) (.tmp 13)⟩])) (.seq (.mc (.ops [⟨false,none,some 7,0,.alloc 144⟩])) (.seq (.mc (.ops [⟨false,none,some 14,144,.makeFunc (.func 95) #[] #[.tmp 6,.tmp 3,.tmp 2,.tmp 7]⟩,⟨false,none,none,0,.store 144 (.tmp 7) (.tmp 14)⟩])) (.seq (.mc (.ops [⟨false,none,some 15,86,.call ⟨.value (.func 78),#[],#[]⟩⟩,⟨false,none,some 8,0,.alloc 86⟩,⟨false,none,none,0,.store 86 (.tmp 8) (.tmp 15)⟩])) mc74_r1)))):=rfl
theorem Pre.ok {r:List CAct} {d:List CDay} {so:Stg→Bool} {n k:Nat} (hR:ruleB r=true) {p:List Int} {s:Stg} (h:Pre r d so n k p s):OkS r d s∧s.done=(p.length:Int):=by
 induction h with
 | nil=>exact ⟨OkS.start r d,rfl⟩
 | snoc h1 h2 h3 h4 h5 ih =>
  obtain ⟨q1,q2⟩:=ih.1.next hR h3
  refine ⟨q1,?_⟩
  rw [q2,ih.2,List.length_append,List.length_singleton]
  omega
section
variable {ov:Ov} {r:List CAct} {d:List CDay} {b:CBox} {lim:Sp} {w0:AW} {rv dv:Value} {b6 b7 c2 c3 c6 c7 km be c8 c9 cA c10:Nat}
set_option maxHeartbeats 1000000 in
theorem loop74 (m:Nat) (h:HasL ov) (hR:ruleB r=true) (hD:daysB d=true) (hb:boxB b=true) (hl0:w0.lim≤w0.next) (hLim:LimW w0) (hrv:RowsV actC w0 rv r) (hdv:RowsV cdayC w0 dv d) (k:Nat) (h15:k < 15) (h0:leftG r d (soB b lim) d.length startS=(k:Int)) (l0:List Int) (w:AW) (hw:D74 r d b lim w0 rv dv b6 b7 c2 c3 c6 c7 km be c8 c9 cA c10 k startS l0 w) (Q:Ex→Tm→AW→Prop) (t:Tm) (t2:tget t 2=ptB c2) (t7:tget t 7=ptB c7) (t8:tget t 8=ptB c8) (t9:tget t 9=ptB c9) (t10:tget t 10=ptB c10) (t23:tget t 23=.int .i64 (k:Int)) (t24:tget t 24=.int .i64 0)
  (hQ:∀ t w p s,Pre r d (soB b lim) d.length k p s→p.length=k→D74 r d b lim w0 rv dv b6 b7 c2 c3 c6 c7 km be c8 c9 cA c10 k s p w→tget t 10=ptB c10→Q (.exit 0) t w):wp (exY Tryd.prog (run Tryd.prog ov (m + 3 * d.length + 3)) (.loop mc74_l0) t w) Q:=by
 have hdl:=days_len hD
 refine wp_roundsY (fun i t w=>∃ p s l,Pre r d (soB b lim) d.length k p s∧p.length=i∧i≤k∧D74 r d b lim w0 rv dv b6 b7 c2 c3 c6 c7 km be c8 c9 cA c10 k s l w∧l.take i=p∧tget t 2=ptB c2∧tget t 7=ptB c7∧tget t 8=ptB c8∧tget t 9=ptB c9∧tget t 10=ptB c10∧tget t 23=.int .i64 (k:Int)∧tget t 24=.int .i64 (i:Int)) 20 (by decide) ⟨[],startS,l0,Pre.nil,rfl,Nat.zero_le _,hw,rfl,t2,t7,t8,t9,t10,t23,by simpa using t24⟩ ?_
 clear t2 t7 t8 t9 t10 t23 t24 hw t w
 rintro i t w ⟨p,s,l,hP,hpl,hik,hw,hlt,t2,t7,t8,t9,t10,t23,t24⟩
 simp only [ptB] at t2 t7 t8 t9 t10
 by_cases hlt2:i < k
 ·have hlti:(i:Int) < (k:Int):=by omega
  obtain ⟨hS,hdn⟩:=hP.ok hR
  have hS':=hS
  obtain ⟨⟨so,hst,hsl⟩,hlh⟩:=hS'
  have hf:FineS s:=fine_of hst (by omega)
  have hso:s.done=(so.length:Nat):=hst.done
  have hsi:so.length=i:=by omega
  obtain ⟨hmn,i1,s1,hi1,hn1,hl1⟩:=hP.more h15 h0 (by omega)
  obtain ⟨n',hn'⟩:∃ n',n'=d.length - p.length - 1:=⟨_,rfl⟩
  rw [← hn'] at hl1
  obtain ⟨o1,o2,o3,o4,o5⟩:=hw.ord
  have hle:=hw.tr.le
  have hwl:=hw.tr.wl
  obtain ⟨z1,z2,z3,z4,z5,z6,hkm⟩:=hw.tr.lt
  have hk0:=hw.tr.ne.2.2.2.2.2.2
  have H:H95 ov r d b lim w0 rv dv b6 b7 c2 c3 c6 c7 km be (m + 3 * d.length + 1) n':=by
   have e:m + 3 * d.length + 1=(m + 3 * i + 1) + 3 * n' + 3:=by omega
   rw [e]
   exact call95 h hR hD hb hl0 hLim hrv hdv n' (m + 3 * i + 1)
  have lw:w.lim≤w.next:=by omega
  have g2:=hw.tr.m2
  have g8:=hw.g8
  have m2:¬ c2=w.next:=by omega
  have m8:¬ c8=w.next:=by omega
  have hw1:IntKind.wrap .i64 ((i:Int) + 1)=(i:Int) + 1:=wrap64_in (by omega) (by omega)
  obtain ⟨_,_,c79,rfl,rfl⟩:=call79 (ov:=ov) (m + 3 * d.length + 2) h.o79 rv dv s ⟨(w.heap.put w.next (some (.cells [.int .i64 0] 3 false))).put w.next (some (.cells [.int .i64 (i:Int)] 3 false)),w.next + 1,w.lim⟩
  have g8':=g8
  simp only [stgC] at g8' c79
  simp [mc74_l0,t2,t8,t23,t24,hlti,hlt2,lw,g2,g8',m2,m8,c79]
  obtain ⟨Hh,hH⟩:∃ Hh,Hh=(((w.heap.put w.next (some (.cells [.int .i64 0] 3 false))).put w.next (some (.cells [.int .i64 (i:Int)] 3 false))).put (w.next + 1) (some (.cells [rv,dv] 89 false))).put (w.next + 1 + 1) (some (.cells [.int .i64 s.done,.int .i64 s.last,.int .i64 s.row,.int .i64 s.lo,.int .i64 s.hi] 86 false)):=⟨_,rfl⟩
  rw [← hH]
  have kH:∀ x,x < w.next→Hh.get x=w.heap.get x:=fun x hx=>by rw [hH,get_put,if_neg (by omega),get_put,if_neg (by omega),get_put,if_neg (by omega),get_put,if_neg (by omega)]
  have gH1:Hh.get (w.next + 1 + 1)=some (.cells (stgC s) 86 false):=by rw [hH,get_put,if_pos rfl]; rfl
  have gH2:Hh.get (w.next + 1)=some (.cells [rv,dv] 89 false):=by rw [hH,get_put,if_neg (by omega),get_put,if_pos rfl]
  have gH3:Hh.get w.next=some (.cells [.int .i64 (i:Int)] 3 false):=by rw [hH,get_put,if_neg (by omega),get_put,if_neg (by omega),get_put,if_pos rfl]
  clear hH
  refine wp_seqX (wp_blockX (wp_blockX (rf_wp (g:=98) (gargs:=[.func (.yield (w.next + 1 + 2)) ⟨[]⟩ ⟨[]⟩,.pointer (some ⟨w.next + 1 + 1,0,none⟩),.pointer (some ⟨w.next + 1,0,none⟩)]) ?_ ?_)))
  ·simp [fun98,callV_func]
  ·generalize hTT:tset _ 29 _=TT
   have v2:tget TT 2=ptB c2:=by rw [← hTT]; simp [t2,ptB]
   have v7:tget TT 7=ptB c7:=by rw [← hTT]; simp [t7,ptB]
   have v8:tget TT 8=ptB c8:=by rw [← hTT]; simp [t8,ptB]
   have v9:tget TT 9=ptB c9:=by rw [← hTT]; simp [t9,ptB]
   have v10:tget TT 10=ptB c10:=by rw [← hTT]; simp [t10,ptB]
   have v11:tget TT 11=ptB w.next:=by rw [← hTT]; simp [ptB]
   have v23:tget TT 23=.int .i64 (k:Int):=by rw [← hTT]; simp [t23]
   have v24:tget TT 24=.int .i64 (i:Int):=by rw [← hTT]; simp [t24]
   clear hTT
   obtain ⟨lp,hlp⟩:∃ lp:ALoop,lp=⟨47,TT,[30],(rfOf Tryd.prog 74 0).1,(rfOf Tryd.prog 74 0).2,none,.ready⟩:=⟨_,rfl⟩
   obtain ⟨lq,hlq⟩:∃ lp:ALoop,lp=⟨47,TT,[30],(rfOf Tryd.prog 74 0).1,(rfOf Tryd.prog 74 0).2,some (.exit 2),.done⟩:=⟨_,rfl⟩
   rw [← hlp]
   obtain ⟨L,hL⟩:∃ L,L=w.next + 1 + 2:=⟨_,rfl⟩
   obtain ⟨we,hwe⟩:∃ we:AW,we=⟨Hh.put (w.next + 1 + 2) (some (.loop lp)),w.next + 1 + 2 + 1,w.lim⟩:=⟨_,rfl⟩
   have ne:we.next=w.next + 4:=by rw [hwe]
   have le:we.lim=w.lim:=by rw [hwe]
   have kE:∀ x,x < w.next + 3→we.heap.get x=Hh.get x:=fun x hx=>by rw [hwe]; show (Hh.put _ _).get x=_; rw [get_put,if_neg (by omega)]
   have gLe:we.heap.get L=some (.loop lp):=by rw [hwe,hL]; show (Hh.put _ _).get _=_; rw [get_put,if_pos rfl]
   have hDe:D74 r d b lim w0 rv dv b6 b7 c2 c3 c6 c7 km be c8 c9 cA c10 k s l we:=hw.keep (fun x hx=>by rw [kE x (by omega),kH x (by omega)]) (by omega) le
   have ue:Up w0 we:=⟨fun x hx=>hDe.tr.old x hx,by omega,hDe.tr.wl⟩
   obtain ⟨v9',w2,hc98,hK2,hA,hB⟩:=call98g (G:=fun j w'=>w'.heap.get L=some (.loop lp)∧D74 r d b lim w0 rv dv b6 b7 c2 c3 c6 c7 km be c8 c9 cA c10 k s l w'∧w'.heap.get w.next=some (.cells [.int .i64 (i:Int)] 3 false)∧L < w'.next∧∀ j':Nat,j' < j→∀ s2,nextS r d s ((j':Nat):Int)=some s2→leftG r d (soB b lim) n' s2 ≠ (k:Int) - (i:Int) - 1) (Post:=fun w'=>w'.heap.get L=some (.loop lq)∧L < w'.next∧∃ (j:Nat) (s':Stg),nextS r d s ((j:Nat):Int)=some s'∧leftG r d (soB b lim) n' s'=(k:Int) - (i:Int) - 1∧(∀ j':Nat,j' < j→∀ s2,nextS r d s ((j':Nat):Int)=some s2→leftG r d (soB b lim) n' s2 ≠ (k:Int) - (i:Int) - 1)∧D74 r d b lim w0 rv dv b6 b7 c2 c3 c6 c7 km be c8 c9 cA c10 k s' (l.set i (j:Int)) w') (Xc:=fun x=>x=km∨x=L∨x=c8∨x=cA) (m + 3 * d.length + 1) L h.o98 h.o99 h.h100 h.h107 h.h108 h.h109 h.h110 hR hf so.length hso hsl we rv dv (hdv.up ue) (w.next + 1 + 1) (w.next + 1) (by omega) (by omega) (fun x hx=>by omega) (by omega) (by rw [kE _ (by omega)]; exact gH1) (by rw [kE _ (by omega)]; exact gH2) (by omega)
    (fun w' hK=>hrv.up ⟨fun x hx=>by rw [hK.keep x (by omega) (by omega)]; exact hDe.tr.old x hx,by have:=hK.next; omega,by have:=hK.lim; omega⟩)
    (fun j w1 w1' hG u=>⟨by rw [u.at hG.2.2.2.1]; exact hG.1,hG.2.1.keep (fun x hx=>u.at (by have:=hG.2.2.2.1; omega)) u.next u.lim,by rw [u.at (by have:=hG.2.2.2.1; omega)]; exact hG.2.2.1,Nat.lt_of_lt_of_le hG.2.2.2.1 u.next,hG.2.2.2.2⟩)
    (fun j w1 hj hn hG=>⟨hG.1,hG.2.1,hG.2.2.1,hG.2.2.2.1,fun j' hj' s2 h2=>by
     by_cases e:j'=j
     ·subst e; rw [hn] at h2; cases h2
     ·exact hG.2.2.2.2 j' (by omega) s2 h2⟩)
    (fun j s' w1 hlt hj hn hK hG=>by
     obtain ⟨hS2,hd2⟩:=hS.next hR hn
     obtain ⟨go,w',y1,y2,y3,y4⟩:=steps74 (m + 3 * d.length + 1) n' H s s' l hS2 (by omega) w1 hG.2.1 hl0 (by omega) i hlt2 L w.next ⟨by omega,hG.2.2.2.1⟩ ⟨by omega,by have:=hG.2.2.2.1; omega⟩ (by omega) hG.2.2.1 TT v7 v8 v9 v10 v11 lp hlp hG.1
     refine ⟨go,w',y1,y2,fun e=>?_,fun e=>?_⟩
     ·obtain ⟨q1,q2,q3⟩:=y3 e
      refine ⟨q3,q2,by rw [y2.keep w.next (by have:=hG.2.2.2.1; omega) (by omega)]; exact hG.2.2.1,by have:=y2.next; have:=hG.2.2.2.1; omega,fun j' hj' s2 h2=>?_⟩
      by_cases e:j'=j
      ·subst e; rw [hn] at h2; cases Option.some.inj h2; exact q1
      ·exact hG.2.2.2.2 j' (by omega) s2 h2
     ·obtain ⟨q1,q2,q3⟩:=y4 e
      rw [next_last hn] at q2
      exact ⟨by rw [hlq]; exact q3,by have:=y2.next; have:=hG.2.2.2.1; omega,j,s',hn,q1,hG.2.2.2.2,q2⟩)
    ⟨gLe,hDe,by rw [kE _ (by omega)]; exact gH3,by omega,fun j' hj'=>absurd hj' (Nat.not_lt_zero _)⟩
   have hPost:w2.heap.get L=some (.loop lq)∧L < w2.next∧∃ (j:Nat) (s':Stg),nextS r d s ((j:Nat):Int)=some s'∧leftG r d (soB b lim) n' s'=(k:Int) - (i:Int) - 1∧(∀ j':Nat,j' < j→∀ s2,nextS r d s ((j':Nat):Int)=some s2→leftG r d (soB b lim) n' s2 ≠ (k:Int) - (i:Int) - 1)∧D74 r d b lim w0 rv dv b6 b7 c2 c3 c6 c7 km be c8 c9 cA c10 k s' (l.set i (j:Int)) w2:=by
    rcases hA (by omega) with hG | hG
    ·exfalso
     exact hG.2.2.2.2 i1 hi1 s1 hn1 (by omega)
    ·exact hG
   obtain ⟨f1,f2,j,s',f3,f4,f5,f6⟩:=hPost
   have l2q:w2.lim=w.lim:=hK2.lim.trans le
   subst hwe
   subst hL
   refine ⟨v9',w2,hc98,lq,f1,by rw [hlq]; rfl,by show w2.lim≤w.next + 1 + 2; omega,?_⟩
   have hp:lq.pending=some (.exit 2):=by rw [hlq]
   rw [hp]
   simp only
   generalize hH2:w2.heap.put (w.next + 1 + 2) _=H2
   have kZ:∀ x,x ≠ w.next + 1 + 2→H2.get x=w2.heap.get x:=fun x hx=>by rw [← hH2,get_put,if_neg hx]
   have hD6:D74 r d b lim w0 rv dv b6 b7 c2 c3 c6 c7 km be c8 c9 cA c10 k s' (l.set i (j:Int)) ⟨H2,w2.next,w2.lim⟩:=f6.keep (fun x hx=>kZ x (by omega)) (Nat.le_refl _) rfl
   simp [v24,hw1]
   have hlen:=hw.len
   refine ⟨by omega,p++[((j:Nat):Int)],s',?_,by rw [List.length_append,List.length_singleton,hpl],hlt2,l.set i (j:Int),hD6,?_,by simp [v2],by simp [v7],by simp [v8],by simp [v9],by simp [v10],by simp [v23]⟩
   ·rw [hn',hpl] at f4 f5
    exact Pre.snoc hP (by omega) f3 (by rw [hpl]; exact f4) (by rw [hpl]; exact f5)
   ·rw [List.take_add_one,List.getElem?_set_self (by omega),List.take_set_of_le (by omega),hlt]; rfl
 ·have hi':i=k:=by omega
  subst hi'
  have hlk:l=p:=by rw [← hlt,List.take_of_length_le (by rw [hw.len]; exact Nat.le_refl _)]
  rw [hlk] at hw
  simp [mc74_l0,t23,t24]
  exact hQ _ _ p s hP hpl hw (by simp [t10,ptB])
end
section
variable {ov:Ov} {r:List CAct} {d:List CDay} {b:CBox} {lim:Sp} {w0:AW} {rv dv:Value} {b6 b7 c2 c3 c6 c7 km be:Nat}
def PlanV (r:List CAct) (d:List CDay) (b:CBox) (lim:Sp) (w0 w:AW) (v:Value):Prop :=
 (leftG r d (soB b lim) d.length startS=15∧v=.tuple ⟨[.slice none 0 0,.bool false]⟩∧Up w0 w)∨∃ (k:Nat) (p:List Int) (s:Stg) (A:Nat),leftG r d (soB b lim) d.length startS=(k:Int)∧k < 15∧Pre r d (soB b lim) d.length k p s∧p.length=k∧w.heap.get A=some (.cells (p.flatMap intC) 3 false)∧A < w.next∧v=.tuple ⟨[.slice (some ⟨A,0,none⟩) k k,.bool true]⟩∧Up w0 w
theorem TrP.base {w:AW} (h:TrP r d b lim w0 rv dv b6 b7 c2 c3 c6 c7 km be w):Up w0 w:=⟨h.old,by have:=h.ne.2.2.2.2.2.2; have:=h.lt.2.2.2.2.2.2; have:=h.le; omega,h.wl⟩
theorem tail74 (m:Nat) (h:HasL ov) (hR:ruleB r=true) (hD:daysB d=true) (hb:boxB b=true) (hl0:w0.lim≤w0.next) (hLim:LimW w0) (hrv:RowsV actC w0 rv r) (hdv:RowsV cdayC w0 dv d) (w:AW) (hT:TrP r d b lim w0 rv dv b6 b7 c2 c3 c6 c7 km be w) (c8 c9:Nat) (h8:be≤c8∧c8 < c9) (h9:c9 < w.next) (g8:w.heap.get c8=some (.cells (stgC startS) 86 false)) (g9:w.heap.get c9=some (.cells [.int .i64 (leftG r d (soB b lim) d.length startS)] 3 false)) (Q:Ex→Tm→AW→Prop) (t:Tm) (t2:tget t 2=ptB c2) (t7:tget t 7=ptB c7) (t8:tget t 8=ptB c8) (t9:tget t 9=ptB c9)
  (hQ:∀ t w v4 v5,tget t 4=v4→tget t 5=v5→PlanV r d b lim w0 w (.tuple ⟨[v4,v5]⟩)→notJunk v4=some v4→notJunk v5=some v5→Q .ret t w):wp (exY Tryd.prog (run Tryd.prog ov (m + 3 * d.length + 3)) mc74_r2 t w) Q:=by
 have hbd:=leftG_bd (r:=r) (d:=d) (so:=soB b lim) d.length startS
 have hle:=hT.le
 have hwl:=hT.wl
 have hk0:=hT.ne.2.2.2.2.2.2
 have hkm:=hT.lt.2.2.2.2.2.2
 by_cases hq:leftG r d (soB b lim) d.length startS=15
 ·rw [hq] at g9
  simp only [ptB] at t9
  simp [mc74_r2,t9,g9]
  exact hQ _ _ (.slice none 0 0) (.bool false) (by simp) (by simp) (.inl ⟨hq,rfl,hT.base⟩) rfl rfl
 ·obtain ⟨k,hk⟩:∃ k:Nat,leftG r d (soB b lim) d.length startS=(k:Int):=⟨(leftG r d (soB b lim) d.length startS).toNat,by omega⟩
  have h15:k < 15:=by omega
  have hk15:¬ (k:Int)=15:=by omega
  have hk15':¬ k=15:=by omega
  rw [hk] at g9
  have lw1:w.lim≤w.next + 1:=by omega
  obtain ⟨cs,hcs⟩:∃ cs,cs=(List.replicate k (0:Int)).flatMap intC:=⟨_,rfl⟩
  have hmk:makeSliceA Tryd.prog w 28 (.int .i64 (k:Int)) (.int .i64 (k:Int))=.val (.slice (some ⟨w.next,0,none⟩) k k) ⟨w.heap.put w.next (some (.cells cs 3 false)),w.next + 1,w.lim⟩:=by rw [hcs]; exact mk28 k (by omega) w
  have t9':=t9
  simp only [ptB] at t9'
  have m9:¬ c9=w.next:=by omega
  have m9':¬ c9=w.next + 1:=by omega
  obtain ⟨w2,hw2⟩:∃ w2:AW,w2=⟨((w.heap.put w.next (some (.cells cs 3 false))).put (w.next + 1) (some (.cells [.slice none 0 0] 28 false))).put (w.next + 1) (some (.cells [.slice (some ⟨w.next,0,none⟩) k k] 28 false)),w.next + 1 + 1,w.lim⟩:=⟨_,rfl⟩
  have q2:∀ x,x < w.next→w2.heap.get x=w.heap.get x:=fun x hx=>by
   rw [hw2]
   show (((w.heap.put _ _).put _ _).put _ _).get x=_
   rw [get_put,if_neg (by omega),get_put,if_neg (by omega),get_put,if_neg (by omega)]
  have n2:w2.next=w.next + 2:=by rw [hw2]
  have hD2:D74 r d b lim w0 rv dv b6 b7 c2 c3 c6 c7 km be c8 c9 w.next (w.next + 1) k startS (List.replicate k 0) w2:=by
   refine ⟨hT.keep (fun x hx=>q2 x (by omega)) (by omega) (by rw [hw2]),by rw [q2 _ (by omega)]; exact g8,by rw [q2 _ h9]; exact g9,?_,?_,List.length_replicate,⟨h8.1,h8.2,h9,Nat.lt_succ_self _,by omega⟩⟩
   ·rw [hw2,← hcs]
    show (((w.heap.put _ _).put _ _).put _ _).get _=_
    rw [get_put,if_neg (by omega),get_put,if_neg (by omega),get_put,if_pos rfl]
   ·rw [hw2]
    show (((w.heap.put _ _).put _ _).put _ _).get _=_
    rw [get_put,if_pos rfl]
  simp [mc74_r2,t9',g9,hk15,hk15',hmk,lw1,m9,m9']
  rw [← hw2]
  refine wp_seqX (wp_blockX (loop74 m h hR hD hb hl0 hLim hrv hdv k h15 hk (List.replicate k 0) w2 hD2 _ _ ?_ ?_ ?_ ?_ ?_ ?_ ?_ ?_))
  ·simp [t2]
  ·simp [t7]
  ·simp [t8]
  ·simp [t9]
  ·simp [ptB]
  ·simp
  ·simp
  ·intro t w' p s hP hpl hD' t10
   have g10:=hD'.g10
   simp only [ptB] at t10
   simp [t10,g10]
   exact hQ _ _ _ _ (by simp) (by simp) (.inr ⟨k,p,s,w.next,hk,h15,hP,hpl,hD'.gA,by have:=hD'.ord.2.2.2.2; omega,rfl,hD'.tr.base⟩) rfl rfl
set_option maxHeartbeats 1000000 in
theorem call74 (m:Nat) (ho:∀ args w,ov 74 args w=none) (h:HasL ov) (hR:ruleB r=true) (hD:daysB d=true) (hb:boxB b=true) (w:AW) (hl:w.lim≤w.next) (hLim:LimW w) (hrv:RowsV actC w rv r) (hdv:RowsV cdayC w dv d) (g6:w.heap.get b6=some (.cells (boxC b) 27 false)) (g7:w.heap.get b7=some (.cells (spC lim) 25 false)) (l6:b6 < w.next) (l7:b7 < w.next) :
  ∃ v w',(run Tryd.prog ov (m + 3 * d.length + 4)).call 74 [.agg ⟨[rv,dv]⟩,fn75 b6 b7] w .none=.ok (.ret v) w' .none∧PlanV r d b lim w w' v:=by
 refine call_wpY text74 (by simp) (ho _ _) ?_
 obtain ⟨w5,hw5⟩:∃ w5:AW,w5=⟨((((((((w.heap.put w.next (some (.cells [rv,dv] 89 false))).put (w.next + 1) (some (.cells [fn75 b6 b7] 120 false))).put (w.next + 1 + 1) (some (.map [] 0))).put (w.next + 1 + 1 + 1) (some (.cells [.map none] 143 false))).put (w.next + 1 + 1 + 1) (some (.cells [.map (some (w.next + 1 + 1))] 143 false))).put (w.next + 1 + 1 + 1 + 1) (some (.cells [.nilFunc] 144 false))).put (w.next + 1 + 1 + 1 + 1) (some (.cells [fn95 (w.next + 1 + 1 + 1) (w.next + 1) w.next (w.next + 1 + 1 + 1 + 1)] 144 false))).put (w.next + 1 + 1 + 1 + 1 + 1) (some (.cells [.int .i64 0,.int .i64 0,.int .i64 0,.int .i64 0,.int .i64 0] 86 false))).put (w.next + 1 + 1 + 1 + 1 + 1) (some (.cells (stgC startS) 86 false)),w.next + 1 + 1 + 1 + 1 + 1 + 1,w.lim⟩:=⟨_,rfl⟩
 have n5:w5.next=w.next + 6:=by rw [hw5]
 have q5:∀ x,w5.heap.get x=if x=w.next + 5 then some (.cells (stgC startS) 86 false) else if x=w.next + 4 then some (.cells [fn95 (w.next + 1 + 1 + 1) (w.next + 1) w.next (w.next + 1 + 1 + 1 + 1)] 144 false) else if x=w.next + 3 then some (.cells [.map (some (w.next + 1 + 1))] 143 false) else if x=w.next + 2 then some (.map [] 0) else if x=w.next + 1 then some (.cells [fn75 b6 b7] 120 false) else if x=w.next then some (.cells [rv,dv] 89 false) else w.heap.get x:=fun x=>by
  rw [hw5]
  show (((((((((w.heap.put _ _).put _ _).put _ _).put _ _).put _ _).put _ _).put _ _).put _ _).put _ _).get x=_
  rw [get_put]
  by_cases e5:x=w.next + 1 + 1 + 1 + 1 + 1
  ·rw [if_pos e5,if_pos e5]
  ·rw [if_neg e5,if_neg e5,get_put,if_neg e5,get_put]
   by_cases e4:x=w.next + 1 + 1 + 1 + 1
   ·rw [if_pos e4,if_pos e4]
   ·rw [if_neg e4,if_neg e4,get_put,if_neg e4,get_put]
    by_cases e3:x=w.next + 1 + 1 + 1
    ·rw [if_pos e3,if_pos e3]
    ·rw [if_neg e3,if_neg e3,get_put,if_neg e3,get_put,get_put,get_put]
 have hT:TrP r d b lim w rv dv b6 b7 w.next (w.next + 1) (w.next + 1 + 1 + 1) (w.next + 1 + 1 + 1 + 1) (w.next + 1 + 1) (w.next + 5) w5:=by
  refine ⟨fun x hx=>?_,?_,?_,?_,?_,?_,?_,⟨[],?_,fun s v hv=>?_⟩,⟨by omega,by omega,by omega,by omega,by omega,by omega,by omega⟩,⟨by omega,by omega,by omega,by omega,by omega,by omega,by omega⟩,by omega,by rw [hw5]⟩
  ·rw [q5,if_neg (by omega),if_neg (by omega),if_neg (by omega),if_neg (by omega),if_neg (by omega),if_neg (by omega)]
  ·rw [q5,if_neg (by omega),if_neg (by omega),if_neg (by omega),if_neg (by omega),if_neg (by omega),if_neg (by omega)]; exact g6
  ·rw [q5,if_neg (by omega),if_neg (by omega),if_neg (by omega),if_neg (by omega),if_neg (by omega),if_neg (by omega)]; exact g7
  ·rw [q5,if_neg (by omega),if_neg (by omega),if_neg (by omega),if_neg (by omega),if_neg (by omega),if_pos rfl]
  ·rw [q5,if_neg (by omega),if_neg (by omega),if_neg (by omega),if_neg (by omega),if_pos rfl]
  ·rw [q5,if_neg (by omega),if_neg (by omega),if_pos rfl]
  ·rw [q5,if_neg (by omega),if_pos rfl]
  ·unfold MapAt
   rw [q5,if_neg (by omega),if_neg (by omega),if_neg (by omega),if_pos rfl]; rfl
  ·rw [lookK_nil] at hv; cases hv
 have g8:w5.heap.get (w.next + 5)=some (.cells (stgC startS) 86 false):=by rw [q5,if_pos rfl]
 have hdl:=days_len hD
 obtain ⟨w6,c95,hA⟩:=call95 h hR hD hb hl hLim hrv hdv d.length m startS w5 (OkS.start r d) (by show (0:Int) + _=_; omega) hT
 have lw5:w.lim≤w.next + 1 + 1 + 1 + 1 + 1:=by omega
 have lw4:w.lim≤w.next + 1 + 1 + 1 + 1:=by omega
 have lw3:w.lim≤w.next + 1 + 1 + 1:=by omega
 have r78:=S78.call (P:=Tryd.prog) h.h78 (m:=m + 3 * d.length + 2) (w:=⟨((((((w.heap.put w.next (some (.cells [rv,dv] 89 false))).put (w.next + 1) (some (.cells [fn75 b6 b7] 120 false))).put (w.next + 1 + 1) (some (.map [] 0))).put (w.next + 1 + 1 + 1) (some (.cells [.map none] 143 false))).put (w.next + 1 + 1 + 1) (some (.cells [.map (some (w.next + 1 + 1))] 143 false))).put (w.next + 1 + 1 + 1 + 1) (some (.cells [.nilFunc] 144 false))).put (w.next + 1 + 1 + 1 + 1) (some (.cells [fn95 (w.next + 1 + 1 + 1) (w.next + 1) w.next (w.next + 1 + 1 + 1 + 1)] 144 false)),w.next + 1 + 1 + 1 + 1 + 1,w.lim⟩) ⟨rfl,lw5,rfl⟩
 have n6:=hA.2.next
 have l6':=hA.2.lim
 have hw6:w6.lim≤w6.next:=by rw [hw5] at l6'; have e:w6.lim=w.lim:=l6'; omega
 simp only [fn95,fn75,ptB,stgC,startS] at hw5 c95 r78
 rw [hw5] at c95
 have cfn:∀ f a b,cellsOf (Value.func f a b)=[.func f a b]:=fun _ _ _=>rfl
 have sgf:∀ f a b,singles [Value.func f a b]=true:=fun _ _ _=>rfl
 simp [mc74_eq,fn75,ptB,lw3,lw4,lw5,r78,cellsOf_agg,cfn,sgf]
 simp [mc74_r1,callV_func,c95,hw6]
 obtain ⟨w7,hw7⟩:∃ w7:AW,w7=⟨(w6.heap.put w6.next (some (.cells [.int .i64 0] 3 false))).put w6.next (some (.cells [.int .i64 (leftG r d (soB b lim) d.length { done:=0,last := -1,row:=0,lo:=0,hi:=0 })] 3 false)),w6.next + 1,w6.lim⟩:=⟨_,rfl⟩
 have u7:Up w6 w7:=by rw [hw7]; exact ((Up.refl w6).add _).put (Nat.le_refl _) (Nat.le_refl _)
 have n7:w7.next=w6.next + 1:=by rw [hw7]
 have g97:w7.heap.get w6.next=some (.cells [.int .i64 (leftG r d (soB b lim) d.length startS)] 3 false):=by rw [hw7]; show ((w6.heap.put _ _).put _ _).get _=_; rw [get_put,if_pos rfl]; rfl
 have n5':w5.next=w.next + 6:=n5
 have g87:w7.heap.get (w.next + 5)=some (.cells (stgC startS) 86 false):=by rw [u7.at (by omega),hA.2.keep _ (by omega) (by omega)]; exact g8
 rw [← hw7]
 refine tail74 m h hR hD hb hl hLim hrv hdv w7 (hA.1.up u7) (w.next + 5) w6.next ⟨Nat.le_refl _,by omega⟩ (by omega) g87 g97 _ _ ?_ ?_ ?_ ?_ ?_
 ·simp [ptB]
 ·simp [ptB]
 ·simp [ptB]
 ·simp [ptB]
 ·intro t w' v4 v5 e4 e5 hP j4 j5
  simp [e4,e5,j4,j5,tupV]
  exact hP
def PlanE (r:List CAct) (d:List CDay) (b:CBox) (lim:Sp) (w:AW) (pv:Value) (e:Int):Prop :=
 (bxE r d b ≠ 0∧e=bxE r d b∧pv=.slice none 0 0)∨(bxE r d b=0∧spanI lim.1 lim.2 0 1000=false∧e=7∧pv=.slice none 0 0)∨(bxE r d b=0∧spanI lim.1 lim.2 0 1000=true∧leftG r d (soB b lim) d.length startS=15∧e=4∧pv=.slice none 0 0)∨(bxE r d b=0∧spanI lim.1 lim.2 0 1000=true∧e=0∧∃ (k:Nat) (p:List Int) (s:Stg) (A:Nat),leftG r d (soB b lim) d.length startS=(k:Int)∧k < 15∧Pre r d (soB b lim) d.length k p s∧p.length=k∧w.heap.get A=some (.cells (p.flatMap intC) 3 false)∧A < w.next∧pv=.slice (some ⟨A,0,none⟩) k k)
theorem bx_all {r:List CAct} {d:List CDay} {b:CBox} (h:bxE r d b=0):ruleB r=true∧daysB d=true∧boxB b=true:=by
 unfold bxE chkE at h
 by_cases h1:ruleB r=true
 ·by_cases h2:daysB d=true
  ·by_cases h3:boxB b=true
   ·exact ⟨h1,h2,h3⟩
   ·simp [h1,h2,h3] at h
  ·simp [h1,h2] at h
 ·simp [h1] at h
set_option maxHeartbeats 1000000 in
theorem call31 (M:Nat) (ho:∀ args w,ov 31 args w=none) (ho74:∀ args w,ov 74 args w=none) (h73:HasP ov 73 S73.F) (h70:HasP ov 70 S70.F) (h:HasL ov) (w:AW) (hl:w.lim≤w.next) (hLim:LimW w) (hrv:RowsV actC w rv r) (hdv:RowsV cdayC w dv d) :
  ∃ v w',(run Tryd.prog ov (M + 47)).call 31 [rv,dv,.agg ⟨boxC b⟩,.agg ⟨spC lim⟩] w .none=.ok (.ret v) w' .none∧∃ pv e,v=.tuple ⟨[pv,.int .i64 e]⟩∧Up w w'∧notJunk pv=some pv∧PlanE r d b lim w' pv e:=by
 refine call_wp text31 (by simp) (ho _ _) ?_
 obtain ⟨w1,hw1⟩:∃ w1:AW,w1=⟨(w.heap.put w.next (some (.cells [.int .i64 b.wl,.int .i64 b.wh,.int .i64 b.sl,.int .i64 b.sh] 27 false))).put (w.next + 1) (some (.cells [.int .i64 lim.1,.int .i64 lim.2] 25 false)),w.next + 1 + 1,w.lim⟩:=⟨_,rfl⟩
 have u1:Up w w1:=by rw [hw1]; exact ((Up.refl w).add _).put (Nat.le_succ _) (Nat.le_succ _)
 have n1:w1.next=w.next + 2:=by rw [hw1]
 have l1:w1.lim=w.lim:=u1.lim
 have g7:w1.heap.get (w.next + 1)=some (.cells (spC lim) 25 false):=by rw [hw1]; show ((w.heap.put _ _).put _ _).get _=_; rw [get_put,if_pos rfl]; rfl
 have g6:w1.heap.get w.next=some (.cells (boxC b) 27 false):=by rw [hw1]; show ((w.heap.put _ _).put _ _).get _=_; rw [get_put,if_neg (by omega),get_put,if_pos rfl]; rfl
 have r73:=S73.call (P:=Tryd.prog) h73 (m:=M + 45) (w:=w1) ⟨rv,dv,r,d,b,rfl,hrv.up u1,hdv.up u1,hLim.up u1,rfl⟩
 have r70:=S70.call (P:=Tryd.prog) h70 (m:=M + 45) (w:=w1) ⟨6,lim.1,lim.2,(0,1000),rfl,rfl,hLim.up u1,rfl⟩
 have rj:notJunk rv=some rv:=by obtain ⟨x,y,rfl⟩:=hrv.len; rfl
 have dj:notJunk dv=some dv:=by obtain ⟨x,y,rfl⟩:=hdv.len; rfl
 have hrv1:=hrv.up u1
 have hdv1:=hdv.up u1
 obtain ⟨ra,rc,erv⟩:=hrv.len
 obtain ⟨da,dc,edv⟩:=hdv.len
 by_cases hE:bxE r d b=0
 ·obtain ⟨hR,hD,hB⟩:=bx_all hE
  have hdl:=days_len hD
  rw [hE] at r73
  cases hS:spanI lim.1 lim.2 0 1000 with
  | false =>
   rw [hS] at r70
   rw [hw1] at r73 r70
   simp only [boxC,spC] at r73 r70
   simp [mc31,boxC,spC,cellsOf_agg,rj,dj,r73,r70,tupV]
   rw [← hw1]
   exact ⟨_,_,⟨rfl,rfl⟩,u1,rfl,.inr (.inl ⟨hE,hS,rfl,rfl⟩)⟩
  | true =>
   rw [hS] at r70
   obtain ⟨m,hm⟩:∃ m,M + 46=m + 3 * d.length + 4:=⟨M + 42 - 3 * d.length,by omega⟩
   obtain ⟨v,w2,c74,hP⟩:=call74 (lim:=lim) m ho74 h hR hD hB w1 (by omega) (hLim.up u1) hrv1 hdv1 g6 g7 (by omega) (by omega)
   rw [← hm] at c74
   have hup:Up w1 w2:=by
    rcases hP with ⟨_,_,hu⟩ | ⟨_,_,_,_,_,_,_,_,_,_,_,hu⟩ <;> exact hu
   have u2:=u1.trans hup
   rw [hw1] at r73 r70 c74
   simp only [boxC,spC,fn75,ptB] at r73 r70 c74
   subst erv edv
   rcases hP with ⟨p1,rfl,_⟩ | ⟨k,p,s,A,p1,p2,p3,p4,p5,p6,rfl,_⟩
   ·simp [mc31,boxC,spC,cellsOf_agg,rj,dj,r73,r70,c74,tupV]
    exact ⟨_,_,⟨rfl,rfl⟩,u2,rfl,.inr (.inr (.inl ⟨hE,hS,p1,rfl,rfl⟩))⟩
   ·have nj:∀ (a:Addr) n c,notJunk (.slice (some a) n c)=some (.slice (some a) n c):=fun _ _ _=>rfl
    simp [mc31,boxC,spC,cellsOf_agg,rj,dj,r73,r70,c74,nj,tupV]
    exact ⟨_,_,⟨rfl,rfl⟩,u2,rfl,.inr (.inr (.inr ⟨hE,hS,rfl,k,p,s,A,p1,p2,p3,p4,p5,p6,rfl⟩))⟩
 ·rw [hw1] at r73
  simp only [boxC] at r73
  simp [mc31,boxC,spC,cellsOf_agg,rj,dj,r73,hE,tupV]
  rw [← hw1]
  exact ⟨_,_,⟨rfl,rfl⟩,u1,rfl,.inl ⟨hE,rfl,rfl⟩⟩
end
theorem OutV.push {base:Nat} {w:AW} {uv:Value} {out:List Int} (h:OutV base w uv out) (hl:w.lim≤base) (hb:base≤w.next) (hlen:out.length≤1000) (y:Int) :
  ∃ v' w',append1 Tryd.prog ⟨w.heap.put w.next (some (.cells [.int .i64 y] 3 false)),w.next + 1,w.lim⟩ [28,28] [uv,.slice (some ⟨w.next,0,none⟩) 1 1]=.val v' w'∧OutV base w' v' (out++[y])∧(∀ x,x < base→w'.heap.get x=w.heap.get x)∧w.next≤w'.next∧w'.lim=w.lim:=by
 have hsrc:srcCells ⟨w.heap.put w.next (some (.cells [.int .i64 y] 3 false)),w.next + 1,w.lim⟩ 1 (.slice (some ⟨w.next,0,none⟩) 1 1)=some [.int .i64 y]:=src_row (e':=3) (ro:=false) (k:=1) (by simp) (by simp) (by decide) (by decide)
 rcases h with ⟨rfl,rfl⟩ | ⟨B,cs,rfl,hB,k1,k2,ho⟩
 ·refine ⟨_,_,append_nil list28 elem28 sz3 small3 (m:=1) rfl hsrc (by simp) (by decide) (by decide),.inr ⟨_,[y],rfl,?_,?_,?_,by simp⟩,fun x hx=>?_,?_,rfl⟩
  ·simp [intC]
  ·show base≤w.next + 1; omega
  ·exact Nat.lt_succ_self _
  ·show ((w.heap.put w.next _).put (w.next + 1) _).get x=_
   rw [get_put,if_neg (by omega),get_put,if_neg (by omega)]
  ·show w.next≤w.next + 1 + 1; omega
 ·have hB':(w.heap.put w.next (some (.cells [.int .i64 y] 3 false))).get B=some (.cells (cs.flatMap intC) 3 false):=by rw [get_put,if_neg (by omega)]; exact hB
  have hn:out.length≤cs.length:=by
   have:=congrArg List.length ho
   rw [List.length_take] at this; omega
  have hfl:(cs.flatMap intC).length=cs.length:=by rw [flat_length (m:=1) intC_length]; omega
  by_cases hfull:out.length=cs.length
  ·have hoc:out=cs:=by rw [ho,hfull,List.take_length]
   have e:(Value.slice (some ⟨B,0,none⟩) out.length cs.length)=.slice (some ⟨B,0,none⟩) cs.length cs.length:=by rw [hfull]
   rw [e]
   refine ⟨_,_,append_full list28 elem28 sz3 small3 (n:=cs.length) (m:=1) (c:=cs.flatMap intC) rfl hsrc (by simp) (by simp) (by decide) (by omega) hB' (by rw [hfl]; omega) (by show w.lim≤B; omega),.inr ⟨w.next + 1,cs++[y],?_,?_,?_,?_,?_⟩,fun x hx=>?_,?_,rfl⟩
   ·simp [hoc]
   ·show (((w.heap.put w.next _).put B none).put (w.next + 1) _).get (w.next + 1)=_
    rw [get_put,if_pos rfl]; simp [intC]
   ·show base≤w.next + 1; omega
   ·exact Nat.lt_succ_self _
   ·rw [hoc,List.take_of_length_le (Nat.le_refl _)]
   ·show (((w.heap.put w.next _).put B none).put (w.next + 1) _).get x=_
    rw [get_put,if_neg (by omega),get_put,if_neg (by omega),get_put,if_neg (by omega)]
   ·show w.next≤w.next + 1 + 1; omega
  ·have hlt:out.length < cs.length:=by omega
   have e1:Nat.ble (out.length + 1) 1000000=true:=Nat.ble_eq_true_of_le (by omega)
   have e2:Nat.ble (out.length + 1) cs.length=true:=Nat.ble_eq_true_of_le (by omega)
   refine ⟨_,⟨(w.heap.put w.next (some (.cells [.int .i64 y] 3 false))).put B (some (.cells ((cs.set out.length y).flatMap intC) 3 false)),w.next + 1,w.lim⟩,?_,.inr ⟨B,cs.set out.length y,rfl,?_,k1,?_,?_⟩,fun x hx=>?_,?_,rfl⟩
   ·rw [append_eq list28 elem28 sz3 small3,hsrc]
    have hlB:w.lim≤B:=by omega
    have hs:=flat_set (f:=intC) (m:=1) intC_length cs out.length y hlt
    simp only [Nat.mul_one,intC] at hs
    simp [lenA,e1,appendB,e2,hB',hlB,hfl,hlt,Nat.succ_le_of_lt hlt]
    rw [← hs]
    rfl
   ·show ((w.heap.put w.next _).put B _).get B=_
    rw [get_put,if_pos rfl]
   ·show B < w.next + 1; omega
   ·rw [List.length_append,List.length_singleton]
    conv=>lhs; rw [ho]
    apply List.ext_getElem?
    intro i
    rw [List.getElem?_append,List.getElem?_take,List.length_take,Nat.min_eq_left hn]
    by_cases h1:i < out.length
    ·rw [if_pos h1,if_pos h1,List.getElem?_take,if_pos (by omega),List.getElem?_set,if_neg (by omega)]
    ·by_cases h2:i=out.length
     ·subst h2; simp [hlt]
     ·rw [if_neg h1,List.getElem?_take,if_neg (by omega),List.getElem?_eq_none (by simp; omega)]
   ·show ((w.heap.put w.next _).put B _).get x=_
    rw [get_put,if_neg (by omega),get_put,if_neg (by omega)]
   ·show w.next≤w.next + 1; omega
theorem OutV.cut {base:Nat} {w:AW} {uv:Value} {out:List Int} {y:Int} (h:OutV base w uv (out++[y])) :
  ∃ uv',sliceA Tryd.prog w 28 uv none (some (.int .i64 (out.length:Int))) none=.val uv' w∧OutV base w uv' out:=by
 rcases h with ⟨_,h⟩ | ⟨B,cs,rfl,hB,k1,k2,ho⟩
 ·simp at h
 ·have hn:out.length + 1≤cs.length:=by
   have:=congrArg List.length ho
   simp only [List.length_append,List.length_singleton,List.length_take] at this; omega
  have hb:Nat.ble out.length cs.length=true:=Nat.ble_eq_true_of_le (by omega)
  refine ⟨.slice (some ⟨B,0,none⟩) out.length cs.length,?_,.inr ⟨B,cs,rfl,hB,k1,k2,?_⟩⟩
  ·show sliceA Tryd.prog w 28 (.slice (some ⟨B,0,none⟩) (out++[y]).length cs.length) none (some (.int .i64 (Int.ofNat out.length))) none=_
   simp [sliceA,sliceB1,elem28,sz3,sliceRow,boundA,hb,cutR,cutAddr,rowElem,hB]
  ·have:=congrArg (List.take out.length) ho
   rw [List.take_left,List.take_take,List.length_append,List.length_singleton,Nat.min_eq_left (by omega)] at this
   exact this
theorem OutV.len {base:Nat} {w:AW} {uv:Value} {out:List Int} (h:OutV base w uv out):∃ a c,uv=.slice a out.length c:=h.rows.len
structure EnvL (b:CBox) (L:List Sp) (l:List CRead) (pv lv:Value) (B2 B3 B4 B5 base:Nat) (w0 we:AW):Prop where
 u0:Up w0 we
 g2:we.heap.get B2=some (.cells (procC b pv) 97 false)
 g3:we.heap.get B3=some (.cells [lv] 42 false)
 g5:we.heap.get B5=some (.cells [.func (.func 90) ⟨[]⟩ ⟨[.pointer (some ⟨B2,0,none⟩),.pointer (some ⟨B3,0,none⟩),.pointer (some ⟨B4,0,none⟩),.pointer (some ⟨B5,0,none⟩)]⟩] 73 false)
 hb:base≤we.next
theorem EnvL.keep {b:CBox} {L:List Sp} {l:List CRead} {pv lv:Value} {B2 B3 B4 B5 base:Nat} {w0 we w:AW} (h:EnvL b L l pv lv B2 B3 B4 B5 base w0 we) (k:KpB base B4 we w) (d0:w0.next≤B4) (d1:w0.next≤base) (d2:B2 < base∧B2 ≠ B4) (d3:B3 < base∧B3 ≠ B4) (d5:B5 < base∧B5 ≠ B4):EnvL b L l pv lv B2 B3 B4 B5 base w0 w :=
 ⟨⟨fun q hq=>(k.old q (by omega) (by omega)).trans (h.u0.old q hq),Nat.le_trans h.u0.next k.next,k.lim.trans h.u0.lim⟩,(k.old _ d2.1 d2.2).trans h.g2,(k.old _ d3.1 d3.2).trans h.g3,(k.old _ d5.1 d5.2).trans h.g5,Nat.le_trans h.hb k.next⟩
end Go.Proofs.YtnmamelclmfplaaDoor.walk
