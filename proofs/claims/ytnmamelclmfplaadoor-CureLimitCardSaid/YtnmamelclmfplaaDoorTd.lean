/- Part of a proof: see the text with the theorem. -/
import Derived.Test.YtnmamelclmfplaaDoorShF
import Derived.Test.YtnmamelclmfplaaDoorTc
import Derived.KernelRfl
import Derived.Test.YtnmamelclmfplaaDoorProg
import Derived.Test.YtnmamelclmfplaaDoorShE
import Derived.Test.YtnmamelclmfplaaDoorTa
set_option linter.all false
namespace Go.Proofs.YtnmamelclmfplaaDoor.walk
open Go Go.Sh
set_option maxRecDepth 100000
@[simp] theorem al143 (w:AW):allocA Tryd.prog w 143=.val (.pointer (some ⟨w.next,0,none⟩)) ⟨w.heap.put w.next (some (.cells [.map none] 143 false)),w.next + 1,w.lim⟩:=alloc_eq (z:=.map none) (by kernel_rfl)
@[simp] theorem st143 (w:AW) (a:Addr) (x:Value) (hx:(cellsOf x).length=1):storeA Tryd.prog w 143 (.pointer (some a)) x=wR (wr w a.block a.off (cellsOf x)) undef:=store_eq (by kernel_rfl) a x hx
@[simp] theorem al144 (w:AW):allocA Tryd.prog w 144=.val (.pointer (some ⟨w.next,0,none⟩)) ⟨w.heap.put w.next (some (.cells [.nilFunc] 144 false)),w.next + 1,w.lim⟩:=alloc_eq (z:=.nilFunc) (by kernel_rfl)
@[simp] theorem st144 (w:AW) (a:Addr) (x:Value) (hx:(cellsOf x).length=1):storeA Tryd.prog w 144 (.pointer (some a)) x=wR (wr w a.block a.off (cellsOf x)) undef:=store_eq (by kernel_rfl) a x hx
@[simp] theorem ld144 (w:AW) (a:Addr):loadA Tryd.prog w 144 (.pointer (some a))=vR w (rd1 w a.block a.off):=load_one (by kernel_rfl) a
@[simp] theorem ld143 (w:AW) (a:Addr):loadA Tryd.prog w 143 (.pointer (some a))=vR w (rd1 w a.block a.off):=load_one (by kernel_rfl) a
@[simp] theorem ld120 (w:AW) (a:Addr):loadA Tryd.prog w 120 (.pointer (some a))=vR w (rd1 w a.block a.off):=load_one (by kernel_rfl) a
noncomputable def mc8:MC:=.seq (.ops [⟨false,none,some 3,0,.box 30 (.tmp 0)⟩,⟨false,none,some 4,0,.box 25 (.tmp 1)⟩,⟨false,none,some 6,4,.assign (.const (.bool false))⟩]) (.seq (.ops [⟨false,none,some 16,0,.fieldAddr 30 (.tmp 3) 0⟩,⟨false,none,some 17,22,.load 22 (.tmp 16)⟩,⟨false,none,some 18,0,.fieldAddr 30 (.tmp 3) 1⟩,⟨false,none,some 19,23,.load 23 (.tmp 18)⟩,⟨false,none,some 20,0,.fieldAddr 30 (.tmp 3) 2⟩,⟨false,none,some 21,27,.load 27 (.tmp 20)⟩,⟨false,none,some 22,25,.load 25 (.tmp 4)⟩,⟨false,none,some 23,49,.call ⟨.value (.func 31),#[.tmp 17,.tmp 19,.tmp 21,.tmp 22],#[22,23,27,25]⟩⟩,⟨false,none,some 15,49,.move (.tmp 23)⟩,⟨false,none,some 24,28,.extract (.tmp 15) 0⟩,⟨false,none,some 25,33,.extract (.tmp 15) 1⟩,⟨false,none,some 7,28,.assign (.tmp 24)⟩,⟨false,none,some 8,33,.assign (.tmp 25)⟩]) (.seq (.ops [⟨false,none,some 27,0,.fieldAddr 30 (.tmp 3) 0⟩,⟨false,none,some 28,22,.load 22 (.tmp 27)⟩,⟨false,none,some 29,0,.fieldAddr 30 (.tmp 3) 1⟩,⟨false,none,some 30,23,.load 23 (.tmp 29)⟩,⟨false,none,some 31,0,.fieldAddr 30 (.tmp 3) 2⟩,⟨false,none,some 32,27,.load 27 (.tmp 31)⟩,⟨false,none,some 33,0,.fieldAddr 30 (.tmp 3) 3⟩,⟨false,none,some 34,28,.load 28 (.tmp 33)⟩,⟨false,none,some 35,25,.load 25 (.tmp 4)⟩,⟨false,none,some 36,34,.call ⟨.value (.func 29),#[.tmp 28,.tmp 30,.tmp 32,.tmp 34,.tmp 35],#[22,23,27,28,25]⟩⟩,⟨false,none,some 26,34,.move (.tmp 36)⟩,⟨false,none,some 37,4,.extract (.tmp 26) 0⟩,⟨false,none,some 38,33,.extract (.tmp 26) 1⟩,⟨false,none,some 9,4,.assign (.tmp 37)⟩,⟨false,none,some 10,33,.assign (.tmp 38)⟩]) (.seq (.seq (.ops [⟨false,none,some 39,33,.move (.tmp 8)⟩,⟨false,none,some 40,4,.binOp .neq 33 (.tmp 39) (.const (.int .i64 0)) 33⟩,⟨false,none,some 41,4,.move (.tmp 40)⟩,⟨false,some (41,true),some 42,33,.move (.tmp 8)⟩,⟨false,some (41,true),some 43,4,.binOp .neq 33 (.tmp 42) (.const (.int .i64 4)) 33⟩,⟨false,none,some 44,4,.pick (.tmp 41) (.tmp 43) (.const (.bool false))⟩]) (.cond (.tmp 44) (.seq (.ops [⟨false,none,some 45,28,.move (.tmp 7)⟩,⟨false,none,some 46,3,.call ⟨.builtin .len,#[.tmp 45],#[28]⟩⟩,⟨false,none,some 47,4,.binOp .eql 3 (.tmp 46) (.const (.int .i64 0)) 3⟩,⟨false,none,some 48,4,.move (.tmp 47)⟩,⟨false,some (48,true),some 49,33,.move (.tmp 10)⟩,⟨false,some (48,true),some 50,4,.binOp .neq 33 (.tmp 49) (.const (.int .i64 0)) 33⟩,⟨false,none,some 51,4,.pick (.tmp 48) (.tmp 50) (.const (.bool false))⟩,⟨false,none,some 52,4,.move (.tmp 51)⟩,⟨false,some (52,true),some 53,4,.call ⟨.value (.func 19),#[],#[]⟩⟩,⟨false,none,some 54,4,.pick (.tmp 52) (.tmp 53) (.const (.bool false))⟩,⟨false,none,some 6,4,.assign (.tmp 54)⟩]) (.ret)) (.skip))) (.seq (.seq (.ops [⟨false,none,some 55,33,.move (.tmp 10)⟩,⟨false,none,some 56,4,.binOp .eql 33 (.tmp 55) (.const (.int .i64 0)) 33⟩,⟨false,none,some 57,4,.move (.tmp 56)⟩,⟨false,some (57,true),some 58,4,.move (.tmp 9)⟩,⟨false,none,some 59,4,.pick (.tmp 57) (.tmp 58) (.const (.bool false))⟩,⟨false,none,some 60,4,.move (.tmp 59)⟩,⟨false,some (60,true),some 61,33,.move (.tmp 8)⟩,⟨false,some (60,true),some 62,4,.binOp .neq 33 (.tmp 61) (.const (.int .i64 0)) 33⟩,⟨false,some (60,true),some 63,4,.move (.tmp 62)⟩,⟨false,some (63,false),some 64,0,.fieldAddr 30 (.tmp 3) 3⟩,⟨false,some (63,false),some 65,28,.load 28 (.tmp 64)⟩,⟨false,some (63,false),some 66,3,.call ⟨.builtin .len,#[.tmp 65],#[28]⟩⟩,⟨false,some (63,false),some 67,28,.move (.tmp 7)⟩,⟨false,some (63,false),some 68,3,.call ⟨.builtin .len,#[.tmp 67],#[28]⟩⟩,⟨false,some (63,false),some 69,4,.binOp .lss 3 (.tmp 66) (.tmp 68) 3⟩,⟨false,some (60,true),some 70,4,.pick (.tmp 63) (.const (.bool true)) (.tmp 69)⟩,⟨false,some (60,true),some 71,4,.move (.tmp 70)⟩,⟨false,some (71,false),some 72,0,.fieldAddr 30 (.tmp 3) 3⟩,⟨false,some (71,false),some 73,28,.load 28 (.tmp 72)⟩,⟨false,some (71,false),some 74,3,.call ⟨.builtin .len,#[.tmp 73],#[28]⟩⟩,⟨false,some (71,false),some 75,28,.move (.tmp 7)⟩,⟨false,some (71,false),some 76,3,.call ⟨.builtin .len,#[.tmp 75],#[28]⟩⟩,⟨false,some (71,false),some 77,4,.binOp .eql 3 (.tmp 74) (.tmp 76) 3⟩,⟨false,some (71,false),some 78,4,.move (.tmp 77)⟩,⟨false,some (78,true),some 79,0,.fieldAddr 30 (.tmp 3) 3⟩,⟨false,some (78,true),some 80,28,.load 28 (.tmp 79)⟩,⟨false,some (78,true),some 81,28,.move (.tmp 7)⟩,⟨false,some (78,true),some 82,4,.call ⟨.value (.func 43),#[.tmp 80,.tmp 81],#[28,28]⟩⟩,⟨false,some (71,false),some 83,4,.pick (.tmp 78) (.tmp 82) (.const (.bool false))⟩,⟨false,some (60,true),some 84,4,.pick (.tmp 71) (.const (.bool true)) (.tmp 83)⟩,⟨false,none,some 85,4,.pick (.tmp 60) (.tmp 84) (.const (.bool false))⟩]) (.cond (.tmp 85) (.seq (.ops [⟨false,none,some 6,4,.assign (.const (.bool false))⟩]) (.ret)) (.skip))) (.seq (.seq (.ops [⟨false,none,some 86,33,.move (.tmp 8)⟩,⟨false,none,some 87,4,.binOp .neq 33 (.tmp 86) (.const (.int .i64 0)) 33⟩]) (.cond (.tmp 87) (.seq (.ops [⟨false,none,some 88,28,.move (.tmp 7)⟩,⟨false,none,some 89,3,.call ⟨.builtin .len,#[.tmp 88],#[28]⟩⟩,⟨false,none,some 90,4,.binOp .eql 3 (.tmp 89) (.const (.int .i64 0)) 3⟩,⟨false,none,some 91,4,.move (.tmp 90)⟩,⟨false,some (91,true),some 92,4,.call ⟨.value (.func 19),#[],#[]⟩⟩,⟨false,none,some 93,4,.pick (.tmp 91) (.tmp 92) (.const (.bool false))⟩,⟨false,none,some 6,4,.assign (.tmp 93)⟩]) (.ret)) (.skip))) (.seq (.ops [⟨false,none,some 94,30,.load 30 (.tmp 3)⟩,⟨false,none,some 11,0,.alloc 30⟩,⟨false,none,none,0,.store 30 (.tmp 11) (.tmp 94)⟩]) (.seq (.ops [⟨false,none,some 95,28,.move (.tmp 7)⟩,⟨false,none,some 96,0,.fieldAddr 30 (.tmp 11) 3⟩,⟨false,none,none,0,.store 28 (.tmp 96) (.tmp 95)⟩]) (.seq (.ops [⟨false,none,some 98,0,.fieldAddr 30 (.tmp 3) 0⟩,⟨false,none,some 99,22,.load 22 (.tmp 98)⟩,⟨false,none,some 100,0,.fieldAddr 30 (.tmp 3) 1⟩,⟨false,none,some 101,23,.load 23 (.tmp 100)⟩,⟨false,none,some 102,0,.fieldAddr 30 (.tmp 3) 2⟩,⟨false,none,some 103,27,.load 27 (.tmp 102)⟩,⟨false,none,some 104,28,.move (.tmp 7)⟩,⟨false,none,some 105,25,.load 25 (.tmp 4)⟩,⟨false,none,some 106,34,.call ⟨.value (.func 29),#[.tmp 99,.tmp 101,.tmp 103,.tmp 104,.tmp 105],#[22,23,27,28,25]⟩⟩,⟨false,none,some 97,34,.move (.tmp 106)⟩,⟨false,none,some 107,4,.extract (.tmp 97) 0⟩,⟨false,none,some 108,33,.extract (.tmp 97) 1⟩,⟨false,none,some 12,4,.assign (.tmp 107)⟩,⟨false,none,some 10,33,.assign (.tmp 108)⟩]) (.seq (.seq (.ops [⟨false,none,some 109,33,.move (.tmp 10)⟩,⟨false,none,some 110,4,.binOp .neq 33 (.tmp 109) (.const (.int .i64 0)) 33⟩,⟨false,none,some 111,4,.move (.tmp 110)⟩,⟨false,some (111,false),some 112,4,.move (.tmp 12)⟩,⟨false,some (111,false),some 113,4,.unOp .not 4 (.tmp 112)⟩,⟨false,none,some 114,4,.pick (.tmp 111) (.const (.bool true)) (.tmp 113)⟩,⟨false,none,some 115,4,.move (.tmp 114)⟩,⟨false,some (115,false),some 116,30,.load 30 (.tmp 11)⟩,⟨false,some (115,false),some 117,4,.call ⟨.value (.func 33),#[.tmp 116],#[30]⟩⟩,⟨false,some (115,false),some 118,4,.unOp .not 4 (.tmp 117)⟩,⟨false,none,some 119,4,.pick (.tmp 115) (.const (.bool true)) (.tmp 118)⟩]) (.cond (.tmp 119) (.seq (.ops [⟨false,none,some 6,4,.assign (.const (.bool false))⟩]) (.ret)) (.skip))) (.seq (.seq (.ops [⟨true,none,some 121,0,.fieldAddr 30 (.tmp 11) 0⟩]) (.seq (.ops [⟨true,none,some 122,22,.load 22 (.tmp 121)⟩]) (.seq (.ops [⟨true,none,some 123,0,.fieldAddr 30 (.tmp 11) 1⟩]) (.seq (.ops [⟨true,none,some 124,23,.load 23 (.tmp 123)⟩]) (.seq (.ops [⟨true,none,some 125,0,.fieldAddr 30 (.tmp 11) 2⟩]) (.seq (.ops [⟨true,none,some 126,27,.load 27 (.tmp 125)⟩]) (.seq (.ops [⟨true,none,some 127,0,.fieldAddr 30 (.tmp 11) 3⟩]) (.seq (.ops [⟨true,none,some 128,28,.load 28 (.tmp 127)⟩]) (.seq (.ops [⟨true,none,some 129,30,.load 30 (.tmp 11)⟩]) (.seq (.ops [⟨true,none,some 130,28,.move (.tmp 2)⟩]) (.seq (.ops [⟨false,none,some 131,32,.call ⟨.value (.func 34),#[.tmp 129,.tmp 130],#[30,28]⟩⟩]) (.seq (.chk [⟨true,none,some 128,28,.load 28 (.tmp 127)⟩,⟨true,none,some 126,27,.load 27 (.tmp 125)⟩,⟨true,none,some 124,23,.load 23 (.tmp 123)⟩,⟨true,none,some 122,22,.load 22 (.tmp 121)⟩]) (.seq (.ops [⟨false,none,some 132,37,.call ⟨.value (.func 16),#[.tmp 122,.tmp 124,.tmp 126,.tmp 128,.tmp 131],#[22,23,27,28,32]⟩⟩]) (.seq (.ops [⟨true,none,some 120,37,.move (.tmp 132)⟩]) (.seq (.ops [⟨true,none,some 133,28,.extract (.tmp 120) 0⟩]) (.seq (.ops [⟨true,none,some 134,28,.extract (.tmp 120) 1⟩]) (.seq (.ops [⟨true,none,some 135,33,.extract (.tmp 120) 2⟩]) (.seq (.ops [⟨true,none,some 13,28,.assign (.tmp 133)⟩]) (.seq (.ops [⟨true,none,some 14,28,.assign (.tmp 134)⟩]) (.seq (.ops [⟨true,none,some 10,33,.assign (.tmp 135)⟩]) (.chk []))))))))))))))))))))) (.seq (.seq (.ops [⟨false,none,some 136,33,.move (.tmp 10)⟩,⟨false,none,some 137,4,.binOp .neq 33 (.tmp 136) (.const (.int .i64 0)) 33⟩]) (.cond (.tmp 137) (.seq (.ops [⟨false,none,some 138,33,.move (.tmp 10)⟩,⟨false,none,some 139,4,.binOp .eql 33 (.tmp 138) (.const (.int .i64 66)) 33⟩,⟨false,none,some 140,4,.move (.tmp 139)⟩,⟨false,some (140,true),some 141,4,.call ⟨.value (.func 19),#[],#[]⟩⟩,⟨false,none,some 142,4,.pick (.tmp 140) (.tmp 141) (.const (.bool false))⟩,⟨false,none,some 6,4,.assign (.tmp 142)⟩]) (.ret)) (.skip))) (.seq (.ops [⟨true,none,some 143,28,.move (.tmp 14)⟩,⟨true,none,some 144,3,.call ⟨.builtin .len,#[.tmp 143],#[28]⟩⟩,⟨true,none,some 145,28,.move (.tmp 7)⟩,⟨true,none,some 146,3,.call ⟨.builtin .len,#[.tmp 145],#[28]⟩⟩,⟨true,none,some 147,3,.binOp .add 3 (.tmp 146) (.const (.int .i64 1)) 3⟩,⟨true,none,some 148,4,.binOp .eql 3 (.tmp 144) (.tmp 147) 3⟩,⟨true,none,some 149,4,.move (.tmp 148)⟩,⟨true,some (149,true),some 150,28,.move (.tmp 14)⟩,⟨true,some (149,true),some 151,28,.move (.tmp 7)⟩,⟨true,some (149,true),some 152,3,.call ⟨.builtin .len,#[.tmp 151],#[28]⟩⟩,⟨true,some (149,true),some 153,0,.indexAddr 28 (.tmp 150) (.tmp 152)⟩,⟨true,some (149,true),some 154,3,.load 3 (.tmp 153)⟩,⟨true,some (149,true),some 155,0,.fieldAddr 25 (.tmp 4) 0⟩,⟨true,some (149,true),some 156,3,.load 3 (.tmp 155)⟩,⟨true,some (149,true),some 157,0,.fieldAddr 25 (.tmp 4) 1⟩,⟨true,some (149,true),some 158,3,.load 3 (.tmp 157)⟩,⟨false,some (149,true),some 159,4,.call ⟨.value (.func 39),#[.tmp 154,.tmp 156,.tmp 158],#[3,3,3]⟩⟩,⟨true,none,some 160,4,.pick (.tmp 149) (.tmp 159) (.const (.bool false))⟩,⟨true,none,some 161,4,.move (.tmp 160)⟩,⟨false,some (161,true),some 162,4,.call ⟨.value (.func 19),#[],#[]⟩⟩,⟨true,none,some 163,4,.pick (.tmp 161) (.tmp 162) (.const (.bool false))⟩,⟨true,none,some 6,4,.assign (.tmp 163)⟩]) (.ret)))))))))))))
theorem text8:textF Tryd.prog 8=some (164,[.tmp 6],mc8):=by kernel_rfl
noncomputable def mc31:MC:=.seq (.ops [⟨false,none,some 6,0,.box 27 (.tmp 2)⟩,⟨false,none,some 7,0,.box 25 (.tmp 3)⟩,⟨false,none,some 8,28,.assign (.const (.slice none 0 0))⟩,⟨false,none,some 9,33,.assign (.const (.int .i64 0))⟩]) (.seq (.seq (.ops [⟨false,none,some 13,22,.move (.tmp 0)⟩,⟨false,none,some 14,23,.move (.tmp 1)⟩,⟨false,none,some 15,27,.load 27 (.tmp 6)⟩,⟨false,none,some 16,33,.call ⟨.value (.func 73),#[.tmp 13,.tmp 14,.tmp 15],#[22,23,27]⟩⟩,⟨false,none,some 10,33,.assign (.tmp 16)⟩]) (.seq (.ops [⟨false,none,some 17,33,.move (.tmp 10)⟩,⟨false,none,some 18,4,.binOp .neq 33 (.tmp 17) (.const (.int .i64 0)) 33⟩]) (.cond (.tmp 18) (.seq (.ops [⟨false,none,some 19,33,.move (.tmp 10)⟩,⟨false,none,some 8,28,.assign (.const (.slice none 0 0))⟩,⟨false,none,some 9,33,.assign (.tmp 19)⟩]) (.ret)) (.skip)))) (.seq (.seq (.ops [⟨false,none,some 20,25,.load 25 (.tmp 7)⟩,⟨false,none,some 21,4,.call ⟨.value (.func 70),#[.const (.int .i64 6),.tmp 20],#[115,25]⟩⟩,⟨false,none,some 22,4,.unOp .not 4 (.tmp 21)⟩]) (.cond (.tmp 22) (.seq (.ops [⟨false,none,some 8,28,.assign (.const (.slice none 0 0))⟩,⟨false,none,some 9,33,.assign (.const (.int .i64 7))⟩]) (.ret)) (.skip))) (.seq (.ops [⟨false,none,some 24,22,.move (.tmp 0)⟩,⟨false,none,some 25,23,.move (.tmp 1)⟩,⟨false,none,some 26,89,.build 89 #[(0,.tmp 24),(1,.tmp 25)]⟩,⟨false,none,some 27,120,.makeFunc (.func 75) #[] #[.tmp 6,.tmp 7]⟩,⟨false,none,some 28,64,.call ⟨.value (.func 74),#[.tmp 26,.tmp 27],#[89,120]⟩⟩,⟨false,none,some 23,64,.move (.tmp 28)⟩,⟨false,none,some 29,28,.extract (.tmp 23) 0⟩,⟨false,none,some 30,4,.extract (.tmp 23) 1⟩,⟨false,none,some 11,28,.assign (.tmp 29)⟩,⟨false,none,some 12,4,.assign (.tmp 30)⟩]) (.seq (.seq (.ops [⟨false,none,some 31,4,.move (.tmp 12)⟩,⟨false,none,some 32,4,.unOp .not 4 (.tmp 31)⟩]) (.cond (.tmp 32) (.seq (.ops [⟨false,none,some 8,28,.assign (.const (.slice none 0 0))⟩,⟨false,none,some 9,33,.assign (.const (.int .i64 4))⟩]) (.ret)) (.skip))) (.seq (.ops [⟨false,none,some 33,28,.move (.tmp 11)⟩,⟨false,none,some 8,28,.assign (.tmp 33)⟩,⟨false,none,some 9,33,.assign (.const (.int .i64 0))⟩]) (.ret))))))
theorem text31:textF Tryd.prog 31=some (34,[.tmp 8,.tmp 9],mc31):=by kernel_rfl
noncomputable def mc74_l0:MY:=.seq (.mc (.ops [⟨false,none,some 25,4,.binOp .lss 3 (.tmp 24) (.tmp 23) 3⟩])) (.seq (.mc (.cond (.tmp 25) (.skip) (.exit 0))) (.seq (.block 1 (.seq (.mc (.ops [⟨false,none,some 26,3,.move (.tmp 24)⟩,⟨false,none,some 11,0,.alloc 3⟩,⟨false,none,none,0,.store 3 (.tmp 11) (.tmp 26)⟩])) (.seq (.mc (.ops [⟨false,none,some 27,89,.load 89 (.tmp 2)⟩,⟨false,none,some 28,86,.load 86 (.tmp 8)⟩,⟨false,none,some 29,128,.call ⟨.value (.func 79),#[.tmp 27,.tmp 28],#[89,86]⟩⟩])) (.block 2 (.rf 47 (.tmp 29) [30] (rfOf Tryd.prog 74 0).1 (rfOf Tryd.prog 74 0).2))))) (.mc (.ops [⟨false,none,some 45,3,.binOp .add 3 (.tmp 24) (.const (.int .i64 1)) 3⟩,⟨false,none,some 24,3,.move (.tmp 45)⟩]))))
noncomputable def mc74:MY:=.seq (.mc (.ops [⟨false,none,some 2,0,.box 89 (.tmp 0)⟩,⟨false,none,some 3,0,.box 120 (.tmp 1)⟩,⟨false,none,some 4,28,.assign (.const (.slice none 0 0))⟩,⟨false,none,some 5,4,.assign (.const (.bool false))⟩])) (.seq (.mc (.ops [⟨false,none,some 13,143,.makeMap 143 none⟩,⟨false,none,some 6,0,.alloc 143⟩,⟨false,none,none,0,.store 143 (.tmp 6) (.tmp 13)⟩])) (.seq (.mc (.ops [⟨false,none,some 7,0,.alloc 144⟩])) (.seq (.mc (.ops [⟨false,none,some 14,144,.makeFunc (.func 95) #[] #[.tmp 6,.tmp 3,.tmp 2,.tmp 7]⟩,⟨false,none,none,0,.store 144 (.tmp 7) (.tmp 14)⟩])) (.seq (.mc (.ops [⟨false,none,some 15,86,.call ⟨.value (.func 78),#[],#[]⟩⟩,⟨false,none,some 8,0,.alloc 86⟩,⟨false,none,none,0,.store 86 (.tmp 8) (.tmp 15)⟩])) (.seq (.opy [⟨false,none,some 16,144,.load 144 (.tmp 7)⟩,⟨false,none,some 17,86,.load 86 (.tmp 8)⟩,⟨false,none,some 18,3,.call ⟨.value (.tmp 16),#[.tmp 17],#[86]⟩⟩,⟨false,none,some 9,0,.alloc 3⟩,⟨false,none,none,0,.store 3 (.tmp 9) (.tmp 18)⟩]) (.seq (.mc (.seq (.ops [⟨false,none,some 19,3,.load 3 (.tmp 9)⟩,⟨false,none,some 20,4,.binOp .eql 3 (.tmp 19) (.const (.int .i64 15)) 3⟩]) (.cond (.tmp 20) (.seq (.ops [⟨false,none,some 4,28,.assign (.const (.slice none 0 0))⟩,⟨false,none,some 5,4,.assign (.const (.bool false))⟩]) (.ret)) (.skip)))) (.seq (.mc (.ops [⟨false,none,some 21,3,.load 3 (.tmp 9)⟩,⟨false,none,some 22,28,.makeSlice 28 (.tmp 21) (.tmp 21)⟩,⟨false,none,some 10,0,.alloc 28⟩,⟨false,none,none,0,.store 28 (.tmp 10) (.tmp 22)⟩])) (.seq (.seq (.mc (.ops [⟨false,none,some 23,3,.load 3 (.tmp 9)⟩,⟨false,none,some 24,3,.move (.const (.int .i64 0))⟩])) (.block 0 (.loop mc74_l0))) (.mc (.seq (.ops [⟨false,none,some 46,28,.load 28 (.tmp 10)⟩,⟨false,none,some 4,28,.assign (.tmp 46)⟩,⟨false,none,some 5,4,.assign (.const (.bool true))⟩]) (.ret)))))))))))
theorem text74:textY Tryd.prog 74=some (47,[.tmp 4,.tmp 5],mc74):=by kernel_rfl
noncomputable def mc74_a0:MY:=.mc (.ops [⟨false,none,some 12,0,.alloc 86⟩,⟨false,none,none,0,.store 86 (.tmp 12) (.tmp 30)⟩])
theorem ta74_0:flatY Tryd.prog true 47 (rfOf Tryd.prog 74 0).1=some mc74_a0:=by kernel_rfl
noncomputable def mc74_b0:MY:=.mc (.block 3 (.seq (.seq (.ops [⟨true,none,some 31,144,.load 144 (.tmp 7)⟩]) (.seq (.ops [⟨true,none,some 32,86,.load 86 (.tmp 12)⟩]) (.seq (.ops [⟨true,none,some 34,3,.load 3 (.tmp 9)⟩]) (.seq (.ops [⟨true,none,some 35,3,.load 3 (.tmp 11)⟩]) (.seq (.ops [⟨true,none,some 36,3,.binOp .sub 3 (.tmp 34) (.tmp 35) 3⟩]) (.seq (.ops [⟨true,none,some 37,3,.binOp .sub 3 (.tmp 36) (.const (.int .i64 1)) 3⟩]) (.seq (.ops [⟨false,none,some 33,3,.call ⟨.value (.tmp 31),#[.tmp 32],#[86]⟩⟩]) (.seq (.ops [⟨true,none,some 38,4,.binOp .eql 3 (.tmp 33) (.tmp 37) 3⟩]) (.chk [⟨true,none,some 35,3,.load 3 (.tmp 11)⟩,⟨true,none,some 34,3,.load 3 (.tmp 9)⟩]))))))))) (.cond (.tmp 38) (.seq (.seq (.ops [⟨true,none,some 39,28,.load 28 (.tmp 10)⟩]) (.seq (.ops [⟨true,none,some 40,3,.load 3 (.tmp 11)⟩]) (.seq (.ops [⟨true,none,some 41,0,.fieldAddr 86 (.tmp 12) 1⟩]) (.seq (.ops [⟨true,none,some 42,3,.load 3 (.tmp 41)⟩]) (.seq (.ops [⟨true,none,some 43,86,.load 86 (.tmp 12)⟩]) (.seq (.ops [⟨true,none,some 44,0,.indexAddr 28 (.tmp 39) (.tmp 40)⟩]) (.seq (.ops [⟨false,none,none,0,.store 3 (.tmp 44) (.tmp 42)⟩]) (.seq (.chk [⟨true,none,some 43,86,.load 86 (.tmp 12)⟩]) (.seq (.ops [⟨false,none,none,0,.store 86 (.tmp 8) (.tmp 43)⟩]) (.chk [])))))))))) (.exit 2)) (.skip))))
theorem tb74_0:flatY Tryd.prog true 47 (rfOf Tryd.prog 74 0).2=some mc74_b0:=by kernel_rfl
noncomputable def mc75:MC:=.seq (.ops [⟨false,none,some 3,0,.box 86 (.tmp 0)⟩,⟨false,none,some 4,4,.assign (.const (.bool false))⟩]) (.seq (.ops [⟨false,none,some 5,27,.load 27 (.tmp 1)⟩,⟨false,none,some 6,0,.fieldAddr 86 (.tmp 3) 3⟩,⟨false,none,some 7,25,.load 25 (.tmp 6)⟩,⟨false,none,some 8,43,.buildSlice 43 1 #[(0,.tmp 7)]⟩,⟨false,none,some 9,97,.build 97 #[(0,.tmp 5),(1,.tmp 8)]⟩,⟨false,none,some 10,25,.load 25 (.tmp 2)⟩,⟨false,none,some 11,4,.call ⟨.value (.func 71),#[.tmp 9,.tmp 10],#[97,25]⟩⟩,⟨false,none,some 4,4,.assign (.tmp 11)⟩]) (.ret))
theorem text75:textF Tryd.prog 75=some (12,[.tmp 4],mc75):=by kernel_rfl
noncomputable def mc95:MY:=.seq (.mc (.ops [⟨false,none,some 5,0,.box 86 (.tmp 0)⟩,⟨false,none,some 6,3,.assign (.const (.int .i64 0))⟩])) (.seq (.mc (.seq (.ops [⟨false,none,some 12,143,.load 143 (.tmp 1)⟩,⟨false,none,some 13,86,.load 86 (.tmp 5)⟩,⟨false,none,some 14,145,.lookup 143 (.tmp 12) (.tmp 13) true⟩,⟨false,none,some 11,145,.move (.tmp 14)⟩,⟨false,none,some 15,3,.extract (.tmp 11) 0⟩,⟨false,none,some 16,4,.extract (.tmp 11) 1⟩,⟨false,none,some 7,3,.assign (.tmp 15)⟩,⟨false,none,some 8,4,.assign (.tmp 16)⟩]) (.seq (.ops [⟨false,none,some 17,4,.move (.tmp 8)⟩]) (.cond (.tmp 17) (.seq (.ops [⟨false,none,some 18,3,.move (.tmp 7)⟩,⟨false,none,some 6,3,.assign (.tmp 18)⟩]) (.ret)) (.skip))))) (.seq (.seq (.opy [⟨false,none,some 19,120,.load 120 (.tmp 2)⟩,⟨false,none,some 20,86,.load 86 (.tmp 5)⟩,⟨false,none,some 21,4,.call ⟨.value (.tmp 19),#[.tmp 20],#[86]⟩⟩]) (.mc (.cond (.tmp 21) (.seq (.ops [⟨false,none,some 22,143,.load 143 (.tmp 1)⟩,⟨false,none,some 23,86,.load 86 (.tmp 5)⟩,⟨false,none,none,0,.mapUpdate 143 (.tmp 22) (.tmp 23) (.const (.int .i64 0))⟩]) (.seq (.ops [⟨false,none,some 6,3,.assign (.const (.int .i64 0))⟩]) (.ret))) (.skip)))) (.seq (.mc (.ops [⟨false,none,some 9,0,.alloc 3⟩,⟨false,none,none,0,.store 3 (.tmp 9) (.const (.int .i64 15))⟩])) (.seq (.seq (.mc (.ops [⟨false,none,some 24,89,.load 89 (.tmp 3)⟩,⟨false,none,some 25,86,.load 86 (.tmp 5)⟩,⟨false,none,some 26,128,.call ⟨.value (.func 79),#[.tmp 24,.tmp 25],#[89,86]⟩⟩])) (.block 0 (.rf 38 (.tmp 26) [27] (rfOf Tryd.prog 95 0).1 (rfOf Tryd.prog 95 0).2))) (.mc (.seq (.ops [⟨false,none,some 34,143,.load 143 (.tmp 1)⟩,⟨false,none,some 35,86,.load 86 (.tmp 5)⟩,⟨false,none,some 36,3,.load 3 (.tmp 9)⟩,⟨false,none,none,0,.mapUpdate 143 (.tmp 34) (.tmp 35) (.tmp 36)⟩]) (.seq (.ops [⟨false,none,some 37,3,.load 3 (.tmp 9)⟩,⟨false,none,some 6,3,.assign (.tmp 37)⟩]) (.ret))))))))
theorem text95:textY Tryd.prog 95=some (38,[.tmp 6],mc95):=by kernel_rfl
noncomputable def mc95_a0:MY:=.mc (.ops [⟨false,none,some 10,0,.alloc 86⟩,⟨false,none,none,0,.store 86 (.tmp 10) (.tmp 27)⟩])
theorem ta95_0:flatY Tryd.prog true 38 (rfOf Tryd.prog 95 0).1=some mc95_a0:=by kernel_rfl
noncomputable def mc95_b0:MY:=.mc (.block 1 (.seq (.ops [⟨true,none,some 28,3,.load 3 (.tmp 9)⟩]) (.seq (.ops [⟨true,none,some 29,144,.load 144 (.tmp 4)⟩]) (.seq (.ops [⟨true,none,some 30,86,.load 86 (.tmp 10)⟩]) (.seq (.ops [⟨false,none,some 31,3,.call ⟨.value (.tmp 29),#[.tmp 30],#[86]⟩⟩]) (.seq (.ops [⟨true,none,some 32,3,.binOp .add 3 (.const (.int .i64 1)) (.tmp 31) 3⟩]) (.seq (.ops [⟨true,none,some 33,3,.call ⟨.builtin .min,#[.tmp 28,.tmp 32],#[3,3]⟩⟩]) (.seq (.chk [⟨true,none,some 28,3,.load 3 (.tmp 9)⟩]) (.seq (.ops [⟨false,none,none,0,.store 3 (.tmp 9) (.tmp 33)⟩]) (.chk []))))))))))
theorem tb95_0:flatY Tryd.prog true 38 (rfOf Tryd.prog 95 0).2=some mc95_b0:=by kernel_rfl
@[simp] theorem cf31 (w:AW) (l:List Value):callFn Tryd.prog w 31 l=.enter 31 l w:=callFn_enter text31 l
@[simp] theorem cf74 (w:AW) (l:List Value):callFn Tryd.prog w 74 l=.enter 74 l w:=callFn_of (by kernel_rfl) l
noncomputable def noOv:Ov:=fun _ _ _=>none
def limI:List Int:=[0,60,1,14,0,10000,1,1000000,0,1010000,0,10000,0,1000]
noncomputable def limC:List Value:=limI.map fun z=>Value.int .i64 z
noncomputable def laidL:List LaidV:=[(0,limC,141)]
abbrev Sp:=Int × Int
def inn (x:Int) (s:Sp):Prop:=s.1≤x∧x≤s.2
def bothS (a b:Sp):Sp:=(max a.1 b.1,min a.2 b.2)
def restS (u l:Sp):Sp:=(u.1 - l.2,u.2 - l.1)
def wholeS (u l:Sp):Sp:=(u.1 + l.1,u.2 + l.2)
def empS (a:Sp):Bool:=decide (a.2 < a.1)
def updS (U:Nat→Sp) (i:Nat) (s:Sp):Nat→Sp:=fun k=>if k=i then s else U k
def lowS (L:Nat→Sp) (d:Nat) (U:Nat→Sp):Nat→Sp:=updS U (d + 1) (bothS (U (d + 1)) (restS (U d) (L d)))
def stepS (L:Nat→Sp) (d:Nat) (U:Nat→Sp):Nat→Sp:=updS (lowS L d U) d (bothS (lowS L d U d) (wholeS (lowS L d U (d + 1)) (L d)))
def passS (L:Nat→Sp) (U:Nat→Sp):Nat→Nat→Sp
 | 0=>U
 | d + 1=>stepS L d (passS L U d)
def SolS (N:Nat) (L U:Nat→Sp) (x:Nat→Int):Prop:=(∀ i,i≤N→inn (x i) (U i))∧∀ i,i < N→inn (x i - x (i + 1)) (L i)
theorem stepS_at (L U:Nat→Sp) (d k:Nat):stepS L d U k=if k=d then bothS (U d) (wholeS (bothS (U (d + 1)) (restS (U d) (L d))) (L d)) else if k=d + 1 then bothS (U (d + 1)) (restS (U d) (L d)) else U k:=by
 have h1:lowS L d U d=U d:=by unfold lowS updS; rw [if_neg (by omega)]
 have h2:lowS L d U (d + 1)=bothS (U (d + 1)) (restS (U d) (L d)):=by unfold lowS updS; rw [if_pos rfl]
 unfold stepS
 rw [h1,h2]
 unfold updS
 by_cases e:k=d
 ·rw [if_pos e,if_pos e]
 ·rw [if_neg e,if_neg e]; rfl
theorem stepS_sol {N:Nat} {L U:Nat→Sp} {d:Nat} {x:Nat→Int} (hd:d < N):SolS N L (stepS L d U) x ↔ SolS N L U x:=by
 constructor
 ·rintro ⟨h1,h2⟩
  refine ⟨fun i hi=>?_,h2⟩
  have h:=h1 i hi
  rw [stepS_at] at h
  by_cases e:i=d
  ·subst e
   rw [if_pos rfl] at h
   unfold inn at h ⊢
   unfold bothS at h
   simp only at h
   omega
  ·rw [if_neg e] at h
   by_cases e2:i=d + 1
   ·subst e2
    rw [if_pos rfl] at h
    unfold inn at h ⊢
    unfold bothS at h
    simp only at h
    omega
   ·rw [if_neg e2] at h; exact h
 ·rintro ⟨h1,h2⟩
  refine ⟨fun i hi=>?_,h2⟩
  have k1:=h1 d (by omega)
  have k2:=h1 (d + 1) (by omega)
  have k3:=h2 d hd
  rw [stepS_at]
  unfold inn at k1 k2 k3
  by_cases e:i=d
  ·subst e
   rw [if_pos rfl]
   unfold inn bothS wholeS restS
   simp only
   omega
  ·rw [if_neg e]
   by_cases e2:i=d + 1
   ·subst e2
    rw [if_pos rfl]
    unfold inn bothS restS
    simp only
    omega
   ·rw [if_neg e2]; exact h1 i hi
theorem passS_sol {N:Nat} {L U:Nat→Sp} {x:Nat→Int}:∀ d,d≤N→(SolS N L (passS L U d) x ↔ SolS N L U x)
 | 0,_=>Iff.rfl
 | d + 1,h=>(stepS_sol (by omega)).trans (passS_sol d (by omega))
def Tight (N:Nat) (L U:Nat→Sp):Prop:=∀ d,d < N→((U d).1 - (L d).2≤(U (d + 1)).1∧(U (d + 1)).2≤(U d).2 - (L d).1)∧((U (d + 1)).1 + (L d).1≤(U d).1∧(U d).2≤(U (d + 1)).2 + (L d).2)
def subS (a b:Sp):Prop:=b.1≤a.1∧a.2≤b.2
theorem subS.refl (a:Sp):subS a a:=⟨Int.le_refl _,Int.le_refl _⟩
theorem subS.trans {a b c:Sp} (h:subS a b) (k:subS b c):subS a c:=⟨Int.le_trans k.1 h.1,Int.le_trans h.2 k.2⟩
theorem subS.eq {a b:Sp} (h:subS a b) (k:subS b a):a=b:=Prod.ext (Int.le_antisymm k.1 h.1) (Int.le_antisymm h.2 k.2)
theorem stepS_sub (L U:Nat→Sp) (d k:Nat):subS (stepS L d U k) (U k):=by
 rw [stepS_at]
 split
 ·rename_i e; subst e; unfold subS bothS; simp only; omega
 ·split
  ·rename_i e; subst e; unfold subS bothS; simp only; omega
  ·exact subS.refl _
theorem passS_sub (L U:Nat→Sp) (k:Nat):∀ d e,subS (passS L U (d + e) k) (passS L U d k)
 | d,0=>subS.refl _
 | d,e + 1=>(stepS_sub L _ _ k).trans (passS_sub L U k d e)
theorem fix_tight {N:Nat} {L U:Nat→Sp} (h:∀ k,k≤N→passS L U N k=U k):Tight N L U:=by
 have same:∀ d,d≤N→∀ k,k≤N→passS L U d k=U k:=fun d hd k hk=>by
  have h1:=passS_sub L U k 0 d
  have h2:=passS_sub L U k d (N - d)
  rw [show d + (N - d)=N by omega,h k hk] at h2
  rw [Nat.zero_add] at h1
  exact h1.eq h2
 intro d hd
 have a0:=same d (by omega) d (by omega)
 have a1:=same d (by omega) (d + 1) (by omega)
 have b0:=same (d + 1) (by omega) d (by omega)
 have b1:=same (d + 1) (by omega) (d + 1) (by omega)
 have s0:=stepS_at L (passS L U d) d d
 have s1:=stepS_at L (passS L U d) d (d + 1)
 rw [if_pos rfl,a0,a1] at s0
 rw [if_neg (by omega),if_pos rfl,a0,a1] at s1
 have c0:U d=bothS (U d) (wholeS (bothS (U (d + 1)) (restS (U d) (L d))) (L d)):=b0.symm.trans s0
 have c1:U (d + 1)=bothS (U (d + 1)) (restS (U d) (L d)):=b1.symm.trans s1
 rw [← c1] at c0
 have e1:=congrArg Prod.fst c0
 have e2:=congrArg Prod.snd c0
 have e3:=congrArg Prod.fst c1
 have e4:=congrArg Prod.snd c1
 unfold bothS wholeS at e1 e2
 unfold bothS restS at e3 e4
 simp only at e1 e2 e3 e4
 omega
def fwdS (L U:Nat→Sp) (a:Nat) (v:Int):Nat→Int
 | 0=>v
 | k + 1=>min (U (a + k + 1)).2 (fwdS L U a v k - (L (a + k)).1)
def bwdS (L U:Nat→Sp) (a:Nat) (v:Int):Nat→Int
 | 0=>v
 | k + 1=>min (U (a - k - 1)).2 (bwdS L U a v k + (L (a - k - 1)).2)
def chainS (L U:Nat→Sp) (a:Nat) (v:Int) (i:Nat):Int:=if a≤i then fwdS L U a v (i - a) else bwdS L U a v (a - i)
theorem fwdS_in {N:Nat} {L U:Nat→Sp} (hT:Tight N L U) (hL:∀ i,i < N→(L i).1≤(L i).2) (hU:∀ i,i≤N→(U i).1≤(U i).2) {a:Nat} {v:Int} (hv:inn v (U a)):∀ k,a + k≤N→inn (fwdS L U a v k) (U (a + k))∧(∀ j,k=j + 1→inn (fwdS L U a v j - fwdS L U a v (j + 1)) (L (a + j)))
 | 0,_=>⟨hv,fun j h=>by omega⟩
 | k + 1,hk=>by
  have h1:=(fwdS_in hT hL hU hv k (by omega)).1
  have h2:=(hT (a + k) (by omega))
  have h3:=hL (a + k) (by omega)
  have h4:=hU (a + k + 1) (by omega)
  have e:fwdS L U a v (k + 1)=min (U (a + k + 1)).2 (fwdS L U a v k - (L (a + k)).1):=rfl
  obtain ⟨z,hz⟩:∃ z,z=fwdS L U a v k:=⟨_,rfl⟩
  rw [← hz] at h1 e
  unfold inn at h1
  refine ⟨?_,fun j hj=>?_⟩
  ·rw [e]; show (U (a + k + 1)).1≤_∧_≤(U (a + k + 1)).2; omega
  ·obtain rfl:j=k:=by omega
   rw [e,← hz]; unfold inn; omega
theorem bwdS_in {N:Nat} {L U:Nat→Sp} (hT:Tight N L U) (hL:∀ i,i < N→(L i).1≤(L i).2) (hU:∀ i,i≤N→(U i).1≤(U i).2) {a:Nat} (ha:a≤N) {v:Int} (hv:inn v (U a)):∀ k,k≤a→inn (bwdS L U a v k) (U (a - k))∧(∀ j,k=j + 1→inn (bwdS L U a v (j + 1) - bwdS L U a v j) (L (a - j - 1)))
 | 0,_=>⟨hv,fun j h=>by omega⟩
 | k + 1,hk=>by
  have h1:=(bwdS_in hT hL hU ha hv k (by omega)).1
  have h2:=(hT (a - k - 1) (by omega))
  have h3:=hL (a - k - 1) (by omega)
  have h4:=hU (a - k - 1) (by omega)
  rw [show a - k - 1 + 1=a - k by omega] at h2
  have e:bwdS L U a v (k + 1)=min (U (a - k - 1)).2 (bwdS L U a v k + (L (a - k - 1)).2):=rfl
  obtain ⟨z,hz⟩:∃ z,z=bwdS L U a v k:=⟨_,rfl⟩
  rw [← hz] at h1 e
  unfold inn at h1
  refine ⟨?_,fun j hj=>?_⟩
  ·rw [e,show a - (k + 1)=a - k - 1 by omega]; unfold inn; omega
  ·obtain rfl:j=k:=by omega
   rw [e,← hz]; unfold inn; omega
theorem chainS_sol {N:Nat} {L U:Nat→Sp} (hT:Tight N L U) (hL:∀ i,i < N→(L i).1≤(L i).2) (hU:∀ i,i≤N→(U i).1≤(U i).2) {a:Nat} (ha:a≤N) {v:Int} (hv:inn v (U a)):SolS N L U (chainS L U a v)∧chainS L U a v a=v:=by
 refine ⟨⟨fun i hi=>?_,fun i hi=>?_⟩,?_⟩
 ·unfold chainS
  by_cases h:a≤i
  ·rw [if_pos h]
   have:=(fwdS_in hT hL hU hv (i - a) (by omega)).1
   rwa [show a + (i - a)=i by omega] at this
  ·rw [if_neg h]
   have:=(bwdS_in hT hL hU ha hv (a - i) (by omega)).1
   rwa [show a - (a - i)=i by omega] at this
 ·unfold chainS
  by_cases h:a≤i
  ·rw [if_pos h,if_pos (by omega)]
   have:=(fwdS_in hT hL hU hv (i - a + 1) (by omega)).2 (i - a) rfl
   rwa [show a + (i - a)=i by omega,show i - a + 1=i + 1 - a by omega] at this
  ·rw [if_neg h]
   have:=(bwdS_in hT hL hU ha hv (a - i) (by omega)).2 (a - i - 1) (by omega)
   rw [show a - (a - i - 1) - 1=i by omega,show a - i - 1 + 1=a - i by omega] at this
   by_cases h2:a≤i + 1
   ·rw [if_pos h2,show i + 1 - a=0 by omega]
    rw [show a - i - 1=0 by omega] at this
    exact this
   ·rw [if_neg h2]
    rwa [show a - i - 1=a - (i + 1) by omega] at this
 ·unfold chainS
  rw [if_pos (Nat.le_refl _),Nat.sub_self]; rfl
def FwdT (N:Nat) (L U:Nat→Sp):Prop:=∀ d,d < N→(U d).1 - (L d).2≤(U (d + 1)).1∧(U (d + 1)).2≤(U d).2 - (L d).1
def BackT (N:Nat) (L U:Nat→Sp) (k:Nat):Prop:=∀ d,d < N→N≤d + k→(U (d + 1)).1 + (L d).1≤(U d).1∧(U d).2≤(U (d + 1)).2 + (L d).2
theorem pass_fwd {N:Nat} {L U:Nat→Sp} (hL:∀ i,i < N→(L i).1≤(L i).2):∀ d,d≤N→(∀ e,e < d→(passS L U d e).1 - (L e).2≤(passS L U d (e + 1)).1∧(passS L U d (e + 1)).2≤(passS L U d e).2 - (L e).1)∧(∀ e,d < e→passS L U d e=U e)∧(0 < d→(passS L U d d).1 + (L (d - 1)).1≤(passS L U d (d - 1)).1∧(passS L U d (d - 1)).2≤(passS L U d d).2 + (L (d - 1)).2)
 | 0,_=>⟨fun e h=>by omega,fun e _=>rfl,fun h=>by omega⟩
 | d + 1,hd=>by
  obtain ⟨h1,h2,_⟩:=pass_fwd hL d (by omega)
  have hl:=hL d (by omega)
  have hs:∀ k,passS L U (d + 1) k=_:=fun k=>stepS_at L (passS L U d) d k
  obtain ⟨V,hV⟩:∃ V,V=passS L U d:=⟨_,rfl⟩
  rw [← hV] at h1 h2 hs
  refine ⟨fun e he=>?_,fun e he=>?_,fun _=>?_⟩
  ·have s0:=hs e
   have s1:=hs (e + 1)
   by_cases e1:e=d
   ·subst e1
    rw [if_pos rfl] at s0
    rw [if_neg (by omega),if_pos rfl] at s1
    rw [s0,s1]
    unfold bothS wholeS restS
    simp only
    omega
   ·have q:=h1 e (by omega)
    rw [if_neg e1,if_neg (by omega)] at s0
    rw [s0]
    by_cases e2:e + 1=d
    ·rw [if_pos e2] at s1
     rw [s1]
     subst e2
     unfold bothS
     simp only
     omega
    ·rw [if_neg e2,if_neg (by omega)] at s1
     rw [s1]; exact q
  ·rw [hs e,if_neg (by omega),if_neg (by omega),h2 e (by omega)]
  ·have s0:=hs d
   have s1:=hs (d + 1)
   rw [if_pos rfl] at s0
   rw [if_neg (by omega),if_pos rfl] at s1
   rw [Nat.add_sub_cancel,s0,s1]
   unfold bothS wholeS restS
   simp only
   omega
theorem pass_back {N:Nat} {L U:Nat→Sp} (hL:∀ i,i < N→(L i).1≤(L i).2) (hF:FwdT N L U):∀ d,d≤N→(∀ e,e < d→passS L U d e=bothS (U e) (wholeS (U (e + 1)) (L e)))∧(∀ e,d≤e→passS L U d e=U e)
 | 0,_=>⟨fun e h=>by omega,fun e _=>rfl⟩
 | d + 1,hd=>by
  obtain ⟨h1,h2⟩:=pass_back hL hF d (by omega)
  have hs:∀ k,passS L U (d + 1) k=_:=fun k=>stepS_at L (passS L U d) d k
  have q:=hF d (by omega)
  have u0:=h2 d (Nat.le_refl _)
  have u1:=h2 (d + 1) (by omega)
  have e0:bothS (U (d + 1)) (restS (U d) (L d))=U (d + 1):=by
   refine Prod.ext ?_ ?_
   ·show max _ _=_; unfold restS; simp only; omega
   ·show min _ _=_; unfold restS; simp only; omega
  rw [u0,u1,e0] at hs
  refine ⟨fun e he=>?_,fun e he=>?_⟩
  ·rw [hs e]
   by_cases e1:e=d
   ·subst e1; rw [if_pos rfl]
   ·rw [if_neg e1,if_neg (by omega),h1 e (by omega)]
  ·rw [hs e,if_neg (by omega)]
   by_cases e1:e=d + 1
   ·rw [if_pos e1,e1]
   ·rw [if_neg e1,h2 e (by omega)]
theorem pass_one {N:Nat} {L U:Nat→Sp} (hL:∀ i,i < N→(L i).1≤(L i).2):FwdT N L (passS L U N)∧BackT N L (passS L U N) 1:=by
 obtain ⟨h1,h2,h3⟩:=pass_fwd (U:=U) hL N (Nat.le_refl _)
 refine ⟨h1,fun d hd hk=>?_⟩
 have:=h3 (by omega)
 rw [show N - 1=d by omega,show passS L U N N=passS L U N (d + 1) by rw [show N=d + 1 by omega]] at this
 exact this
theorem pass_more {N:Nat} {L U:Nat→Sp} (hL:∀ i,i < N→(L i).1≤(L i).2) {k:Nat} (hF:FwdT N L U) (hB:BackT N L U k):FwdT N L (passS L U N)∧BackT N L (passS L U N) (k + 1):=by
 refine ⟨(pass_one hL).1,fun d hd hk=>?_⟩
 obtain ⟨h1,h2⟩:=pass_back hL hF N (Nat.le_refl _)
 have e0:=h1 d hd
 have e1:passS L U N (d + 1)=U (d + 1):=by
  by_cases e:d + 1=N
  ·exact h2 _ (by omega)
  ·rw [h1 (d + 1) (by omega)]
   have q:=hB (d + 1) (by omega) (by omega)
   refine Prod.ext ?_ ?_
   ·show max _ _=_; unfold wholeS; simp only; omega
   ·show min _ _=_; unfold wholeS; simp only; omega
 rw [e0,e1]
 unfold bothS wholeS
 simp only
 omega
theorem pass_last {N:Nat} {L U:Nat→Sp} (hL:∀ i,i < N→(L i).1≤(L i).2) (hF:FwdT N L U) (hB:BackT N L U N):∀ k,passS L U N k=U k:=by
 intro k
 obtain ⟨h1,h2⟩:=pass_back hL hF N (Nat.le_refl _)
 by_cases e:k < N
 ·rw [h1 k e]
  have q:=hB k e (by omega)
  refine Prod.ext ?_ ?_
  ·show max _ _=_; unfold wholeS; simp only; omega
  ·show min _ _=_; unfold wholeS; simp only; omega
 ·exact h2 k (by omega)
def moI (x s:Int):Int:=(1000 * (x - s) + x - 1) / x
theorem moI_le {x s q:Int} (hx:0 < x):moI x s≤q ↔ 1000 * (x - s)≤q * x:=by
 unfold moI
 constructor
 ·intro h
  have h1:=Int.lt_ediv_add_one_mul_self (1000 * (x - s) + x - 1) hx
  have h2:((1000 * (x - s) + x - 1) / x + 1) * x≤(q + 1) * x:=Int.mul_le_mul_of_nonneg_right (by omega) (by omega)
  have h3:(q + 1) * x=q * x + x:=by rw [Int.add_mul,Int.one_mul]
  omega
 ·intro h
  have h3:(q + 1) * x=q * x + x:=by rw [Int.add_mul,Int.one_mul]
  have h4:(1000 * (x - s) + x - 1) / x < q + 1:=Int.ediv_lt_of_lt_mul hx (by omega)
  omega
theorem moI_nonneg {x s:Int} (hx:0 < x) (h:s≤x):0≤moI x s:=Int.ediv_nonneg (by omega) (by omega)
theorem moI_mono {x y s:Int} (hx:0 < x) (h:x≤y) (hs:0≤s):moI x s≤moI y s:=by
 rw [moI_le hx]
 have hy:0 < y:=by omega
 have h1:=(moI_le hy).1 (Int.le_refl (moI y s))
 obtain ⟨q,hq⟩:∃ q,q=moI y s:=⟨_,rfl⟩
 rw [← hq] at h1 ⊢
 have h2:1000 * (y - s) * x≤q * y * x:=Int.mul_le_mul_of_nonneg_right h1 (by omega)
 have h3:s * x≤s * y:=Int.mul_le_mul_of_nonneg_left h hs
 have e1:1000 * (x - s) * y=1000 * (y - s) * x + 1000 * (s * x - s * y):=by
  rw [Int.mul_assoc,Int.mul_assoc,Int.sub_mul,Int.sub_mul,Int.mul_comm x y]; omega
 have e2:q * y * x=q * x * y:=by rw [Int.mul_assoc,Int.mul_comm y x,← Int.mul_assoc]
 refine Int.le_of_mul_le_mul_right (a:=y) ?_ hy
 omega
theorem moI_anti {x s r:Int} (hx:0 < x) (h:s≤r):moI x r≤moI x s:=Int.ediv_le_ediv hx (by omega)
theorem moI_shift {x s c:Int} (hx:0 < x) (h:s≤x) (hc:0≤c):moI (x + c) (s + c)≤moI x s:=by
 rw [moI_le (by omega)]
 have h1:=(moI_le hx).1 (Int.le_refl (moI x s))
 have h0:=moI_nonneg hx h
 obtain ⟨q,hq⟩:∃ q,q=moI x s:=⟨_,rfl⟩
 rw [← hq] at h1 h0 ⊢
 have h2:q * (x + c)=q * x + q * c:=Int.mul_add _ _ _
 have h3:0≤q * c:=Int.mul_nonneg h0 hc
 omega
def dryS (N:Nat) (U:Nat→Sp):Nat→Sp:=updS U N ((U N).2,(U N).2)
theorem sol_min {N:Nat} {L U:Nat→Sp} {x y:Nat→Int} (hx:SolS N L U x) (hy:SolS N L U y) (hyN:y N=(U N).2):SolS N L (dryS N U) (fun i=>min (y i) (x i + ((U N).2 - x N))):=by
 have hN:=(hx.1 N (Nat.le_refl _))
 unfold inn at hN
 refine ⟨fun i hi=>?_,fun i hi=>?_⟩
 ·unfold dryS updS
  by_cases e:i=N
  ·subst e
   rw [if_pos rfl]
   unfold inn
   simp only
   omega
  ·rw [if_neg e]
   have h1:=hx.1 i hi
   have h2:=hy.1 i hi
   unfold inn at h1 h2 ⊢
   simp only
   omega
 ·have h1:=hx.2 i hi
  have h2:=hy.2 i hi
  unfold inn at h1 h2 ⊢
  simp only
  omega
structure ExactS (N:Nat) (L U0 U:Nat→Sp):Prop where
 tight:Tight N L U
 ne:∀ i,i≤N→(U i).1≤(U i).2
 sol:∀ x,SolS N L U x ↔ SolS N L U0 x
theorem ExactS.low {N:Nat} {L U0 U:Nat→Sp} (h:ExactS N L U0 U) (hL:∀ i,i < N→(L i).1≤(L i).2) {a:Nat} (ha:a≤N) {v:Int} (hv:inn v (U a)):SolS N L U0 (chainS L U a v)∧chainS L U a v a=v:=by
 obtain ⟨h1,h2⟩:=chainS_sol h.tight hL h.ne ha hv
 exact ⟨(h.sol _).1 h1,h2⟩
theorem ExactS.mono {N:Nat} {L L' U0 U V0 V:Nat→Sp} (h:ExactS N L U0 U) (k:ExactS N L' V0 V) (hL':∀ i,i < N→(L' i).1≤(L' i).2) (hs:∀ x,SolS N L' V0 x→SolS N L U0 x):∀ i,i≤N→subS (V i) (U i):=by
 intro i hi
 have hne:=k.ne i hi
 obtain ⟨a1,a2⟩:=k.low hL' hi (v:=(V i).1) ⟨Int.le_refl _,hne⟩
 obtain ⟨b1,b2⟩:=k.low hL' hi (v:=(V i).2) ⟨hne,Int.le_refl _⟩
 have c1:=((h.sol _).2 (hs _ a1)).1 i hi
 have c2:=((h.sol _).2 (hs _ b1)).1 i hi
 rw [a2] at c1
 rw [b2] at c2
 exact ⟨c1.1,c2.2⟩
theorem ExactS.uniq {N:Nat} {L U0 U V:Nat→Sp} (h:ExactS N L U0 U) (k:ExactS N L U0 V) (hL:∀ i,i < N→(L i).1≤(L i).2):∀ i,i≤N→V i=U i:=fun i hi =>
 (h.mono k hL (fun _ h=>h) i hi).eq (k.mono h hL (fun _ h=>h) i hi)
theorem moist_low {N:Nat} {L U0 U D:Nat→Sp} (h:ExactS N L U0 U) (hd:ExactS N L (dryS N U) D) (hL:∀ i,i < N→(L i).1≤(L i).2) {x:Nat→Int} (hx:SolS N L U0 x) {a:Nat} (ha:a≤N) (hpos:0 < (D a).1) (hxa:0 < x a) (hge:x N≤x a) (hDs:0≤(U N).2):moI (D a).1 (U N).2≤moI (x a) (x N):=by
 have hxU:=(h.sol x).2 hx
 have hN:=h.ne N (Nat.le_refl _)
 obtain ⟨y1,y2⟩:=chainS_sol h.tight hL h.ne (Nat.le_refl N) (v:=(U N).2) ⟨hN,Int.le_refl _⟩
 have hm:=(hd.sol _).2 (sol_min hxU y1 y2)
 have h1:=hm.1 a ha
 have h2:=hxU.1 N (Nat.le_refl _)
 unfold inn at h1 h2
 simp only at h1
 have h3:moI (D a).1 (U N).2≤moI (x a + ((U N).2 - x N)) (U N).2:=moI_mono hpos (by omega) hDs
 have h4:moI (x a + ((U N).2 - x N)) (x N + ((U N).2 - x N))≤moI (x a) (x N):=moI_shift hxa hge (by omega)
 rw [show x N + ((U N).2 - x N)=(U N).2 by omega] at h4
 omega
end Go.Proofs.YtnmamelclmfplaaDoor.walk
namespace Go.Sh
open Go
variable {P:Program}
structure PSpec where
 R:List Value→AW→Value→Prop
 uniq:∀ {args w v v'},R args w v→R args w v'→v=v'
 shut:∀ {args w v},R args w v→R args (shutA w) v
open Classical in
noncomputable def PSpec.F (S:PSpec):PureF:=fun args w=>if h:∃ v,S.R args w v then some h.choose else none
theorem PSpec.F_eq (S:PSpec) {args:List Value} {w:AW} {v:Value} (h:S.R args w v):S.F args w=some v:=by
 have hx:∃ v,S.R args w v:=⟨v,h⟩
 unfold PSpec.F
 rw [dif_pos hx]
 exact congrArg some (S.uniq hx.choose_spec h)
theorem PSpec.of_F (S:PSpec) {args:List Value} {w:AW} {v:Value} (h:S.F args w=some v):S.R args w v:=by
 unfold PSpec.F at h
 by_cases hx:∃ v,S.R args w v
 ·rw [dif_pos hx] at h
  cases h
  exact hx.choose_spec
 ·rw [dif_neg hx] at h; cases h
theorem PSpec.call (S:PSpec) {ov:Ov} {f:FuncId} (k:HasP ov f S.F) {m:Nat} {args:List Value} {w:AW} {v:Value} (h:S.R args w v):(run P ov (m + 1)).call f args w .none=.ok (.ret v) w .none:=k.call (S.F_eq h)
theorem PSpec.call1 (S:PSpec) {ov:Ov} {f:FuncId} (k:HasP ov f S.F) {args:List Value} {w:AW} {v:Value} (h:S.R args w v):(run P ov 1).call f args w .none=.ok (.ret v) w .none:=k.call (m:=0) (S.F_eq h)
theorem PSpec.ok (S:PSpec) (hP:NoCount P) (hm:P.follows .mixedOrders=true) {rest:Ov} (hO:OvOk P rest) {f:FuncId}
  (fact:∀ args w v,w.lim=w.next→S.R args w v→groundC 3 v=true∧∃ m v' w' x',(run P rest m).call f args w .none=.ok (.ret v') w' x'∧v'=v):OvOk P (ovP f S.F rest) :=
 pure_ok hP hm hO (fun args w v h=>S.F_eq (S.shut (S.of_F h))) fun args w v hl h=>by
  obtain ⟨h1,m,v',w',x',h2,rfl⟩:=fact args w v hl (S.of_F h)
  exact ⟨h1,m,w',x',h2⟩
structure Up (we w:AW):Prop where
 old:Old we.next we.heap w.heap
 next:we.next≤w.next
 lim:w.lim=we.lim
theorem Up.refl (w:AW):Up w w:=⟨Old.refl _ _,Nat.le_refl _,rfl⟩
theorem Up.trans {a b c:AW} (h:Up a b) (k:Up b c):Up a c:=⟨h.old.trans k.old h.next,Nat.le_trans h.next k.next,k.lim.trans h.lim⟩
theorem Up.put {we:AW} {H:T AObj} {n n' l k:Nat} {o:Option AObj} (h:Up we ⟨H,n,l⟩) (hk:we.next≤k) (hn:n≤n'):Up we ⟨H.put k o,n',l⟩:=⟨h.old.put hk,Nat.le_trans h.next hn,h.lim⟩
theorem Up.add {we w:AW} (h:Up we w) (o:Option AObj):Up we ⟨w.heap.put w.next o,w.next + 1,w.lim⟩:=⟨h.old.put h.next,Nat.le_trans h.next (Nat.le_succ _),h.lim⟩
theorem Up.at {we w:AW} (h:Up we w) {b:Nat} (hb:b < we.next):w.heap.get b=we.heap.get b:=h.old b hb
theorem RowsV.up {α:Type} {f:α→List Value} {we w:AW} {v:Value} {l:List α} (h:RowsV f we v l) (k:Up we w):RowsV f w v l:=h.old k.old k.next
def shV (a b:Int):Int:=a.fdiv (2 ^ (min b.toNat IntKind.i64.bits))
def anV (a b:Int):Int:=wrapA .i64 (BitVec.ofInt IntKind.i64.bits a &&& BitVec.ofInt IntKind.i64.bits b).toNat
def bitB (x k:Int):Bool:=decide (anV (shV x k) 1=1)
variable {w:AW}
theorem bin_shr (s:TypeId) (c:Bool) (a b:Int) (h:0≤b):(binW P .shr s c).val (.int .i64 a) (.int .i64 b) w=.val (.int .i64 (shV a b)) w:=by
 show vR w (shiftV shrA (.int .i64 a) (.int .i64 b))=_
 have:¬ b < 0:=by omega
 simp [shiftV,shrA,vR,intLt_eq,this,shV]
@[simp] theorem bin_and (s:TypeId) (c:Bool) (a b:Int):(binW P .and s c).val (.int .i64 a) (.int .i64 b) w=.val (.int .i64 (anV a b)) w:=by
 show vR w (arithA andA (.int .i64 a) (.int .i64 b))=_
 simp [arithA,andA,sameK_refl,vR,anV]
theorem bin_shl1 (s:TypeId) (c:Bool) (n:Nat) (h:n≤5):(binW P .shl s c).val (.int .i64 1) (.int .i64 (n:Int)) w=.val (.int .i64 (2 ^ n)) w:=by
 show vR w (shiftV shlA (.int .i64 1) (.int .i64 (n:Int)))=_
 have:¬ (n:Int) < 0:=by omega
 have e:wrapA .i64 (1 * 2 ^ (min (n:Int).toNat IntKind.i64.bits))=2 ^ n:=by
  rcases n with _ | _ | _ | _ | _ | _ | n
  ·decide
  ·decide
  ·decide
  ·decide
  ·decide
  ·decide
  ·omega
 simp only [shiftV,shlA,intLt_eq,decide_eq_false this,cond_false,vR]
 rw [e]
end Go.Sh
namespace Go.Proofs.YtnmamelclmfplaaDoor.walk
open Go Go.Sh
set_option maxRecDepth 100000
structure CAct where
 warm:Int
 behind:Int
 dry:Bool
 first:Bool
 most:Int
 ll:Int
 lh:Int
structure CDay where
 wl:Int
 wh:Int
 rain:Bool
structure CBox where
 wl:Int
 wh:Int
 sl:Int
 sh:Int
structure Stg where
 done:Int
 last:Int
 row:Int
 lo:Int
 hi:Int
def actC (a:CAct):List Value:=[.int .i64 a.warm,.int .i64 a.behind,.bool a.dry,.bool a.first,.int .i64 a.most,.int .i64 a.ll,.int .i64 a.lh]
def cdayC (d:CDay):List Value:=[.int .i64 d.wl,.int .i64 d.wh,.bool d.rain]
def boxC (b:CBox):List Value:=[.int .i64 b.wl,.int .i64 b.wh,.int .i64 b.sl,.int .i64 b.sh]
def stgC (s:Stg):List Value:=[.int .i64 s.done,.int .i64 s.last,.int .i64 s.row,.int .i64 s.lo,.int .i64 s.hi]
@[simp] theorem actC_length (a:CAct):(actC a).length=7:=rfl
@[simp] theorem cdayC_length (a:CDay):(cdayC a).length=3:=rfl
@[simp] theorem stgC_length (a:Stg):(stgC a).length=5:=rfl
theorem actC_inj (a b:CAct) (h:actC a=actC b):a=b:=by
 cases a; cases b; simpa [actC] using h
theorem cdayC_inj (a b:CDay) (h:cdayC a=cdayC b):a=b:=by
 cases a; cases b; simpa [cdayC] using h
def inI (a n b:Int):Bool:=decide (a≤n) && decide (n≤b)
def spanI (lo hi a b:Int):Bool:=decide (a≤lo) && (decide (lo≤hi) && decide (hi≤b))
def actB (n:Nat) (a:CAct):Bool:=inI 0 a.warm 60 && (inI 1 a.most 14 && (spanI a.ll a.lh 0 10000 && inI 0 a.behind (2 ^ n - 1)))
def ruleB (r:List CAct):Bool:=inI 1 (r.length:Nat) 5 && r.all (actB r.length)
def cdayB (d:CDay):Bool:=spanI d.wl d.wh 0 60
def daysB (l:List CDay):Bool:=inI 1 (l.length:Nat) 14 && l.all cdayB
def boxB (b:CBox):Bool:=spanI b.wl b.wh 1 1000000 && spanI b.sl b.sh 1 1000000
def chkE (r:List CAct) (d:List CDay):Int:=if ruleB r=true then (if daysB d=true then 0 else 61) else 60
def bxE (r:List CAct) (d:List CDay) (b:CBox):Int:=if chkE r d=0 then (if boxB b=true then 0 else 62) else chkE r d
def fitB (x:CAct) (num:Int) (y:CDay) (s:Stg):Bool:=decide (x.warm≤y.wl) && (!(x.dry && y.rain) && ((if s.last = -1 then x.first else decide (s.last=num) || bitB x.behind s.last) && (decide (s.last ≠ num) || decide (s.row < x.most))))
def withS (s:Stg) (x:CAct) (num:Int):Stg:=⟨s.done + 1,num,(if num=s.last then 1 + s.row else 1),s.lo + x.ll,s.hi + x.lh⟩
def startS:Stg:=⟨0, -1,0,0,0⟩
def nextS (r:List CAct) (d:List CDay) (s:Stg) (a:Int):Option Stg :=
 match d[s.done.toNat]?,(if 0≤a then r[a.toNat]? else none) with
 | some y,some x=>if fitB x a y s=true then some (withS s x a) else none
 | _,_=>none
def stgF (r:List CAct) (d:List CDay):Stg→List Int→Option Stg
 | s,[]=>some s
 | s,a::xs=>match nextS r d s a with | some s'=>stgF r d s' xs | none=>none
theorem stgF_snoc {r:List CAct} {d:List CDay} {a:Int}:∀ (xs:List Int) (s:Stg),stgF r d s (xs++[a])=match stgF r d s xs with | some s'=>nextS r d s' a | none=>none
 | [],s=>by
  show (match nextS r d s a with | some s'=>stgF r d s' [] | none=>none)=nextS r d s a
  cases nextS r d s a <;> rfl
 | b::xs,s=>by
  show (match nextS r d s b with | some s'=>stgF r d s' (xs++[a]) | none=>none)=match (match nextS r d s b with | some s'=>stgF r d s' xs | none=>none) with | some s'=>nextS r d s' a | none=>none
  cases nextS r d s b with
  | none=>rfl
  | some s'=>exact stgF_snoc xs s'
theorem stgF_none {r:List CAct} {d:List CDay} {xs bs:List Int} {s:Stg} (h:stgF r d s xs=none):stgF r d s (xs++bs)=none:=by
 induction xs generalizing s with
 | nil=>cases h
 | cons a xs ih =>
  have h':(match nextS r d s a with | some s'=>stgF r d s' xs | none=>none)=none:=h
  show (match nextS r d s a with | some s'=>stgF r d s' (xs++bs) | none=>none)=none
  cases hn:nextS r d s a with
  | none=>rfl
  | some s'=>rw [hn] at h'; exact ih h'
def runL (a:Int):List Int→Nat
 | []=>0
 | b::l=>if b=a then runL a l + 1 else 0
def folB (r:List CAct) (d:List CDay) (so:List Int) (a:Int):Bool :=
 match d[so.length]?,(if 0≤a then r[a.toNat]? else none) with
 | some y,some x=>!(decide (y.wl < x.warm) || (x.dry && y.rain)) && (match so.getLast? with
  | none=>x.first
  | some z=>decide ((runL a so.reverse:Int) < x.most) && (decide (z=a) || bitB x.behind z))
 | _,_=>false
def canL (r:List CAct) (d:List CDay):Nat→List Int→Bool
 | 0,_=>true
 | n + 1,acts=>canL r d n acts && folB r d (acts.take n) (acts.getD n 0)
structure StOk (r:List CAct) (so:List Int) (s:Stg):Prop where
 done:s.done=(so.length:Nat)
 last:(so=[]∧s.last = -1)∨(∃ z,so.getLast?=some z∧s.last=z∧0≤z∧z.toNat < r.length)
 row:s.row=(runL s.last so.reverse:Nat)
 lo:0≤s.lo∧s.lo≤10000 * (so.length:Nat)
 hi:0≤s.hi∧s.hi≤10000 * (so.length:Nat)
theorem act_of {r:List CAct} (h:ruleB r=true) {i:Nat} {x:CAct} (hx:r[i]?=some x):inI 0 x.warm 60=true∧inI 1 x.most 14=true∧spanI x.ll x.lh 0 10000=true∧inI 0 x.behind (2 ^ r.length - 1)=true:=by
 simp only [ruleB,Bool.and_eq_true] at h
 have:=List.all_eq_true.1 h.2 x (List.mem_of_getElem? hx)
 simpa only [actB,Bool.and_eq_true] using this
theorem runL_le (a:Int):∀ l:List Int,runL a l≤l.length
 | []=>Nat.le_refl _
 | b::l=>by
  unfold runL
  split
  ·have:=runL_le a l; simp; omega
  ·simp
theorem next_fol {r:List CAct} {d:List CDay} {so:List Int} {s:Stg} (hR:ruleB r=true) (h:StOk r so s) (a:Int):(nextS r d s a=none∧folB r d so a=false)∨∃ s',nextS r d s a=some s'∧folB r d so a=true∧StOk r (so++[a]) s':=by
 unfold nextS folB
 have e0:s.done.toNat=so.length:=by rw [h.done]; simp
 rw [e0]
 cases hd:d[so.length]? with
 | none=>exact .inl ⟨rfl,rfl⟩
 | some y =>
  cases hx:(if 0≤a then r[a.toNat]? else none) with
  | none=>exact .inl ⟨rfl,rfl⟩
  | some x =>
   by_cases ha:0≤a
   ·rw [if_pos ha] at hx
    obtain ⟨k1,k2,k3,k4⟩:=act_of hR hx
    simp only [inI,spanI,Bool.and_eq_true,decide_eq_true_eq] at k1 k2 k3 k4
    have hal:a.toNat < r.length:=(List.getElem?_eq_some_iff.1 hx).1
    simp only
    have key:(fitB x a y s=true) ↔ ((!(decide (y.wl < x.warm) || (x.dry && y.rain)) && (match so.getLast? with
      | none=>x.first
      | some z=>decide ((runL a so.reverse:Int) < x.most) && (decide (z=a) || bitB x.behind z)))=true):=by
     rcases h.last with ⟨e1,e2⟩ | ⟨z,e1,e2,e3,e4⟩
     ·have hl:¬ s.last=a:=by omega
      have hr:s.row=0:=by rw [h.row,e1]; rfl
      rw [e1]
      simp only [fitB,e2,if_pos,Bool.and_eq_true,decide_eq_true_eq,Bool.or_eq_true,Bool.not_eq_true',Bool.or_eq_false_iff,decide_eq_false_iff_not,List.getLast?_nil]
      constructor
      ·rintro ⟨h1,h2,h3,h4⟩; exact ⟨⟨by omega,h2⟩,h3⟩
      ·rintro ⟨⟨h1,h2⟩,h3⟩; exact ⟨by omega,h2,h3,.inl (by omega)⟩
     ·rw [e1]
      have hl:¬ s.last = -1:=by omega
      simp only [fitB,if_neg hl,Bool.and_eq_true,decide_eq_true_eq,Bool.or_eq_true,Bool.not_eq_true',Bool.or_eq_false_iff,decide_eq_false_iff_not]
      have hrow:s.last=a→s.row=(runL a so.reverse:Nat):=fun e=>by rw [h.row,e]
      have hrow2:¬ s.last=a→runL a so.reverse=0:=fun e=>by
       rw [List.getLast?_eq_head?_reverse] at e1
       cases hq:so.reverse with
       | nil=>rfl
       | cons q l =>
        rw [hq] at e1
        have:q=z:=by simpa using e1
        show (if q=a then runL a l + 1 else 0)=0
        rw [if_neg (by omega)]
      rw [e2] at hrow hrow2 ⊢
      by_cases hz:z=a
      ·have:=hrow hz
       constructor
       ·rintro ⟨h1,h2,h3,h4⟩
        refine ⟨⟨by omega,h2⟩,?_,.inl hz⟩
        rcases h4 with h4 | h4
        ·exact absurd hz h4
        ·omega
       ·rintro ⟨⟨h1,h2⟩,h3,h4⟩
        exact ⟨by omega,h2,.inl hz,.inr (by omega)⟩
      ·have:=hrow2 hz
       constructor
       ·rintro ⟨h1,h2,h3,h4⟩
        exact ⟨⟨by omega,h2⟩,by omega,h3⟩
       ·rintro ⟨⟨h1,h2⟩,h3,h4⟩
        exact ⟨by omega,h2,h4,.inl hz⟩
    by_cases hf:fitB x a y s=true
    ·rw [if_pos hf]
     refine .inr ⟨_,rfl,key.1 hf,?_⟩
     have h1:=h.done; have h2:=h.lo; have h3:=h.hi; have h4:=h.row
     refine ⟨by simp [withS]; omega,.inr ⟨a,by simp,rfl,ha,hal⟩,?_,?_,?_⟩
     ·simp only [withS,List.reverse_append,List.reverse_cons,List.reverse_nil,List.nil_append,List.singleton_append]
      show _=(((if a=a then runL a so.reverse + 1 else 0:Nat)):Int)
      rw [if_pos rfl]
      by_cases e:a=s.last
      ·rw [if_pos e,h4,e]; omega
      ·rw [if_neg e]
       have:runL a so.reverse=0:=by
        rcases h.last with ⟨e1,_⟩ | ⟨z,e1,e2,_,_⟩
        ·rw [e1]; rfl
        ·rw [List.getLast?_eq_head?_reverse] at e1
         cases hq:so.reverse with
         | nil=>rfl
         | cons q l =>
          rw [hq] at e1
          have:q=z:=by simpa using e1
          show (if q=a then runL a l + 1 else 0)=0
          rw [if_neg (by omega)]
       omega
     ·simp only [withS,List.length_append,List.length_singleton]; omega
     ·simp only [withS,List.length_append,List.length_singleton]; omega
    ·rw [if_neg hf]
     refine .inl ⟨rfl,?_⟩
     cases hb:(!(decide (y.wl < x.warm) || (x.dry && y.rain)) && (match so.getLast? with
      | none=>x.first
      | some z=>decide ((runL a so.reverse:Int) < x.most) && (decide (z=a) || bitB x.behind z))) with
     | false=>rfl
     | true=>exact absurd (key.2 hb) hf
   ·rw [if_neg ha] at hx; cases hx
theorem start_ok (r:List CAct):StOk r [] startS:=⟨rfl,.inl ⟨rfl,rfl⟩,rfl,by simp [startS],by simp [startS]⟩
theorem take_snoc {α:Type} {l:List α} {n:Nat} {a:α} (h:l[n]?=some a):l.take (n + 1)=l.take n++[a]:=by
 rw [List.take_add_one,h]; rfl
theorem stg_can {r:List CAct} {d:List CDay} (hR:ruleB r=true) (acts:List Int):∀ n,n≤acts.length→(stgF r d startS (acts.take n)=none∧canL r d n acts=false)∨∃ s,stgF r d startS (acts.take n)=some s∧canL r d n acts=true∧StOk r (acts.take n) s
 | 0,_=>.inr ⟨startS,by simp [stgF],rfl,by simpa using start_ok r⟩
 | n + 1,hn=>by
  have ha:acts[n]?=some acts[n]:=List.getElem?_eq_getElem (by omega)
  have hg:acts.getD n 0=acts[n]:=by rw [List.getD_eq_getElem?_getD,ha]; rfl
  rw [take_snoc ha,stgF_snoc]
  show (_∧(canL r d n acts && folB r d (acts.take n) (acts.getD n 0))=false)∨_
  rcases stg_can hR acts n (by omega) with ⟨h1,h2⟩ | ⟨s,h1,h2,h3⟩
  ·exact .inl ⟨by rw [h1],by rw [h2]; rfl⟩
  ·rw [h1]
   simp only
   rw [hg]
   rcases next_fol (d:=d) hR h3 acts[n] with ⟨k1,k2⟩ | ⟨s',k1,k2,k3⟩
   ·exact .inl ⟨k1,by rw [k2,Bool.and_false]⟩
   ·refine .inr ⟨s',k1,?_,k3⟩
    show (canL r d n acts && folB r d (acts.take n) (acts.getD n 0))=true
    rw [h2,hg,k2]; rfl
def wtsL (w:Int):List Int→List Int
 | []=>[w]
 | x::l=>w::wtsL (w - x) l
theorem wtsL_length (l:List Int):∀ w,(wtsL w l).length=l.length + 1:=by
 induction l with
 | nil=>intro w; rfl
 | cons x l ih=>intro w; show (wtsL (w - x) l).length + 1=_; rw [ih]; rfl
theorem wtsL_snoc (x:Int):∀ (l:List Int) (w:Int),wtsL w (l++[x])=wtsL w l++[w - l.sum - x]
 | [],w=>by simp [wtsL]
 | y::l,w=>by
  show w::wtsL (w - y) (l++[x])=w::wtsL (w - y) l++[w - (y + l.sum) - x]
  rw [wtsL_snoc x l]
  rw [show w - y - l.sum - x=w - (y + l.sum) - x by omega]; rfl
theorem wtsL_at:∀ (l:List Int) (w:Int) (i:Nat),i≤l.length→(wtsL w l)[i]?=some (w - (l.take i).sum)
 | [],w,i,h=>by
  have:i=0:=by simpa using h
  subst this; simp [wtsL]
 | y::l,w,0,_=>by simp [wtsL]
 | y::l,w,i + 1,h=>by
  show (wtsL (w - y) l)[i]?=_
  rw [wtsL_at l (w - y) i (by simpa using h)]
  simp only [List.take_succ_cons,List.sum_cons]
  rw [show w - y - (l.take i).sum=w - (y + (l.take i).sum) by omega]
def lossL (r:List CAct) (acts:List Int):List Sp:=acts.map fun a=>match r[a.toNat]? with | some x=>(x.ll,x.lh) | none=>(0,0)
def allIn:List Int→List Sp→Bool
 | [],_=>true
 | _::_,[]=>true
 | x::l,s::m=>inI s.1 x s.2 && allIn l m
theorem allIn_take {l:List Int} {m:List Sp} {i:Nat} {x:Int} {s:Sp} (h1:l[i]?=some x) (h2:m[i]?=some s):allIn (l.take (i + 1)) m=(allIn (l.take i) m && inI s.1 x s.2):=by
 induction l generalizing m i with
 | nil=>cases h1
 | cons y l ih =>
  cases m with
  | nil=>cases h2
  | cons q m =>
   cases i with
   | zero =>
    simp only [List.getElem?_cons_zero,Option.some.injEq] at h1 h2
    subst h1; subst h2
    simp [allIn]
   | succ i =>
    simp only [List.getElem?_cons_succ] at h1 h2
    show (inI q.1 y q.2 && allIn (l.take (i + 1)) m)=((inI q.1 y q.2 && allIn (l.take i) m) && inI s.1 x s.2)
    rw [ih h1 h2,Bool.and_assoc]
theorem allIn_pre {l:List Int} {m:List Sp} {i:Nat} (h:allIn (l.take i) m=false):allIn l m=false:=by
 induction l generalizing m i with
 | nil=>simpa using h
 | cons y l ih =>
  cases i with
  | zero=>simp [allIn] at h
  | succ i =>
   cases m with
   | nil=>simp [allIn] at h
   | cons q m =>
    have h':(inI q.1 y q.2 && allIn (l.take i) m)=false:=h
    show (inI q.1 y q.2 && allIn l m)=false
    cases hq:inI q.1 y q.2 with
    | false=>rfl
    | true=>rw [hq] at h'; rw [ih h']; rfl
def truB (b:CBox) (L:List Sp) (w s:Int) (ls:List Int):Bool:=inI b.wl w b.wh && (inI b.sl s b.sh && (decide (ls.length=L.length) && (allIn ls L && decide (s≤w - ls.sum))))
theorem lossL_at {r:List CAct} {acts:List Int} {i:Nat} {a:Int} {x:CAct} (h1:acts[i]?=some a) (h2:r[a.toNat]?=some x):(lossL r acts)[i]?=some (x.ll,x.lh):=by
 unfold lossL
 rw [List.getElem?_map,h1]
 simp only [Option.map_some,h2]
theorem lossL_length (r:List CAct) (acts:List Int):(lossL r acts).length=acts.length:=by simp [lossL]
theorem stg_acts {r:List CAct} {d:List CDay}:∀ (acts:List Int) (s s':Stg),stgF r d s acts=some s'→∀ a ∈ acts,0≤a∧∃ x,r[a.toNat]?=some x
 | [],_,_,_,a,h=>absurd h (by simp)
 | b::acts,s,s',hs,a,h=>by
  have h':(match nextS r d s b with | some s'=>stgF r d s' acts | none=>none)=some s':=hs
  cases hn:nextS r d s b with
  | none=>rw [hn] at h'; cases h'
  | some s1 =>
   rw [hn] at h'
   rcases List.mem_cons.1 h with rfl | h
   ·unfold nextS at hn
    split at hn
    ·rename_i y x _ hx
     by_cases ha:0≤a
     ·rw [if_pos ha] at hx; exact ⟨ha,x,hx⟩
     ·rw [if_neg ha] at hx; cases hx
    ·cases hn
   ·exact stg_acts acts s1 s' h' a h
theorem stg_len {r:List CAct} {d:List CDay} (hR:ruleB r=true) {acts:List Int} {s:Stg} (h:stgF r d startS acts=some s):acts.length≤d.length:=by
 rcases Nat.lt_or_ge d.length acts.length with hlt | hge
 ·exfalso
  have hp:=stg_can (d:=d) hR acts (d.length + 1) (by omega)
  rcases hp with ⟨h1,_⟩ | ⟨s',h1,_,_⟩
  ·have:=stgF_none (bs:=acts.drop (d.length + 1)) h1
   rw [List.take_append_drop,h] at this; cases this
  ·have ha:acts[d.length]?=some acts[d.length]:=List.getElem?_eq_getElem hlt
   rw [take_snoc ha,stgF_snoc] at h1
   rcases stg_can (d:=d) hR acts d.length (by omega) with ⟨k1,_⟩ | ⟨s1,k1,_,k3⟩
   ·rw [k1] at h1; cases h1
   ·rw [k1] at h1
    have h2:nextS r d s1 acts[d.length]=some s':=h1
    unfold nextS at h2
    have e:d[s1.done.toNat]?=none:=by
     rw [k3.done]
     simp only [Int.toNat_natCast,List.length_take,List.getElem?_eq_none_iff]
     omega
    rw [e] at h2
    cases h2
 ·exact hge
def actE (r:List CAct) (d:List CDay) (b:CBox) (acts:List Int):Int:=if bxE r d b=0 then (match stgF r d startS acts with | some _=>0 | none=>63) else bxE r d b
theorem chk_of {r:List CAct} {d:List CDay} (h:chkE r d=0):ruleB r=true∧daysB d=true:=by
 unfold chkE at h
 by_cases h1:ruleB r=true
 ·rw [if_pos h1] at h
  by_cases h2:daysB d=true
  ·exact ⟨h1,h2⟩
  ·rw [if_neg h2] at h; cases h
 ·rw [if_neg h1] at h; cases h
theorem bx_of {r:List CAct} {d:List CDay} {b:CBox} (h:bxE r d b=0):ruleB r=true∧daysB d=true∧boxB b=true:=by
 unfold bxE at h
 by_cases h1:chkE r d=0
 ·rw [if_pos h1] at h
  by_cases h2:boxB b=true
  ·exact ⟨(chk_of h1).1,(chk_of h1).2,h2⟩
  ·rw [if_neg h2] at h; cases h
 ·rw [if_neg h1] at h; exact absurd h h1
theorem act_ofE {r:List CAct} {d:List CDay} {b:CBox} {acts:List Int} (h:actE r d b acts=0):ruleB r=true∧daysB d=true∧boxB b=true∧∃ s,stgF r d startS acts=some s:=by
 unfold actE at h
 by_cases h1:bxE r d b=0
 ·rw [if_pos h1] at h
  obtain ⟨k1,k2,k3⟩:=bx_of h1
  cases hs:stgF r d startS acts with
  | none=>rw [hs] at h; cases h
  | some s=>exact ⟨k1,k2,k3,s,rfl⟩
 ·rw [if_neg h1] at h; exact absurd h h1
theorem rule_len {r:List CAct} (h:ruleB r=true):1≤r.length∧r.length≤5:=by
 simp only [ruleB,inI,Bool.and_eq_true,decide_eq_true_eq] at h; omega
theorem days_len {d:List CDay} (h:daysB d=true):1≤d.length∧d.length≤14:=by
 simp only [daysB,inI,Bool.and_eq_true,decide_eq_true_eq] at h; omega
def LimAt (w:AW):Prop:=∃ ro,w.heap.get 0=some (.cells limC 141 ro)
def LimW (w:AW):Prop:=LimAt w∧0 < w.next
theorem LimW.up {we w:AW} (h:LimW we) (k:Up we w):LimW w:=by
 obtain ⟨⟨ro,h1⟩,h2⟩:=h
 exact ⟨⟨ro,by rw [k.at h2]; exact h1⟩,by have:=k.next; omega⟩
theorem len22V {w w':AW} {v:Value} {l:List CAct} (h:RowsV actC w v l):lenB Tryd.prog w' 22 v=.val (.int .i64 (l.length:Nat)) w':=by
 obtain ⟨a,c,rfl⟩:=h.len; simp
theorem len23V {w w':AW} {v:Value} {l:List CDay} (h:RowsV cdayC w v l):lenB Tryd.prog w' 23 v=.val (.int .i64 (l.length:Nat)) w':=by
 obtain ⟨a,c,rfl⟩:=h.len; simp
theorem len28V {w w':AW} {v:Value} {l:List Int} (h:RowsV intC w v l):lenB Tryd.prog w' 28 v=.val (.int .i64 (l.length:Nat)) w':=by
 obtain ⟨a,c,rfl⟩:=h.len; simp
@[simp] theorem ia141_0 (w:AW) (a:Addr):indexAddrA Tryd.prog w 141 (.pointer (some a)) (.int .i64 0)=.val (.pointer (some (a.add 0))) w:=by kernel_rfl
@[simp] theorem ia141_1 (w:AW) (a:Addr):indexAddrA Tryd.prog w 141 (.pointer (some a)) (.int .i64 1)=.val (.pointer (some (a.add 2))) w:=by kernel_rfl
@[simp] theorem ia141_2 (w:AW) (a:Addr):indexAddrA Tryd.prog w 141 (.pointer (some a)) (.int .i64 2)=.val (.pointer (some (a.add 4))) w:=by kernel_rfl
@[simp] theorem ia141_3 (w:AW) (a:Addr):indexAddrA Tryd.prog w 141 (.pointer (some a)) (.int .i64 3)=.val (.pointer (some (a.add 6))) w:=by kernel_rfl
@[simp] theorem ia141_4 (w:AW) (a:Addr):indexAddrA Tryd.prog w 141 (.pointer (some a)) (.int .i64 4)=.val (.pointer (some (a.add 8))) w:=by kernel_rfl
@[simp] theorem ia141_5 (w:AW) (a:Addr):indexAddrA Tryd.prog w 141 (.pointer (some a)) (.int .i64 5)=.val (.pointer (some (a.add 10))) w:=by kernel_rfl
@[simp] theorem ia141_6 (w:AW) (a:Addr):indexAddrA Tryd.prog w 141 (.pointer (some a)) (.int .i64 6)=.val (.pointer (some (a.add 12))) w:=by kernel_rfl
def limQ (q:Int):Option Sp:=if q=0 then some (0,60) else if q=1 then some (1,14) else if q=2 then some (0,10000) else if q=3 then some (1,1000000) else if q=4 then some (0,1010000) else if q=5 then some (0,10000) else if q=6 then some (0,1000) else none
theorem limQ_cases {q:Int} {s:Sp} (h:limQ q=some s):(q=0∧s=(0,60))∨(q=1∧s=(1,14))∨(q=2∧s=(0,10000))∨(q=3∧s=(1,1000000))∨(q=4∧s=(0,1010000))∨(q=5∧s=(0,10000))∨(q=6∧s=(0,1000)):=by
 unfold limQ at h
 repeat' split at h
 all_goals simp_all
theorem lim_at {w:AW} (h:LimW w):∃ ro,w.heap.get 0=some (.cells [.int .i64 0,.int .i64 60,.int .i64 1,.int .i64 14,.int .i64 0,.int .i64 10000,.int .i64 1,.int .i64 1000000,.int .i64 0,.int .i64 1010000,.int .i64 0,.int .i64 10000,.int .i64 0,.int .i64 1000] 141 ro):=h.1
def S39:PSpec where
 R args _ v:=∃ n a b:Int,args=[.int .i64 n,.int .i64 a,.int .i64 b]∧v=.bool (inI a n b)
 uniq:=by rintro _ _ _ _ ⟨n,a,b,rfl,rfl⟩ ⟨_,_,_,h,rfl⟩; cases h; rfl
 shut h:=h
theorem run39 {ov:Ov} (ho:∀ args w,ov 39 args w=none) (n a b:Int) (w:AW):∃ v w',(run Tryd.prog ov 2).call 39 [.int .i64 n,.int .i64 a,.int .i64 b] w .none=.ok (.ret v) w' .none∧v=.bool (inI a n b):=by
 refine call_wp text39 (by simp) (ho _ _) ?_
 by_cases h1:a≤n <;> simp [mc39,h1,tupV,inI]
def S82:PSpec where
 R args _ v:=∃ n a b:Int,args=[.int .i64 n,.agg ⟨[.int .i64 a,.int .i64 b]⟩]∧v=.bool (inI a n b)
 uniq:=by rintro _ _ _ _ ⟨n,a,b,rfl,rfl⟩ ⟨_,_,_,h,rfl⟩; cases h; rfl
 shut h:=h
theorem run82 {ov:Ov} (ho:∀ args w,ov 82 args w=none) (n a b:Int) (w:AW):∃ v w',(run Tryd.prog ov 2).call 82 [.int .i64 n,.agg ⟨[.int .i64 a,.int .i64 b]⟩] w .none=.ok (.ret v) w' .none∧v=.bool (inI a n b):=by
 refine call_wp text82 (by simp) (ho _ _) ?_
 by_cases h1:a≤n <;> simp [mc82,h1,tupV,inI,cellsOf_agg]
def S92:PSpec where
 R args _ v:=∃ a b:Int,args=[.agg ⟨[.int .i64 a,.int .i64 b]⟩]∧v=.bool (decide (b < a))
 uniq:=by rintro _ _ _ _ ⟨a,b,rfl,rfl⟩ ⟨_,_,h,rfl⟩; cases h; rfl
 shut h:=h
theorem run92 {ov:Ov} (ho:∀ args w,ov 92 args w=none) (a b:Int) (w:AW):∃ v w',(run Tryd.prog ov 2).call 92 [.agg ⟨[.int .i64 a,.int .i64 b]⟩] w .none=.ok (.ret v) w' .none∧v=.bool (decide (b < a)):=by
 refine call_wp text92 (by simp) (ho _ _) ?_
 simp [mc92,tupV,cellsOf_agg]
def S93:PSpec where
 R args _ v:=∃ a b c d:Int,args=[.agg ⟨[.int .i64 a,.int .i64 b]⟩,.agg ⟨[.int .i64 c,.int .i64 d]⟩]∧v=.bool (decide (c≤a) && decide (b≤d))
 uniq:=by rintro _ _ _ _ ⟨a,b,c,d,rfl,rfl⟩ ⟨_,_,_,_,h,rfl⟩; cases h; rfl
 shut h:=h
theorem run93 {ov:Ov} (ho:∀ args w,ov 93 args w=none) (a b c d:Int) (w:AW):∃ v w',(run Tryd.prog ov 2).call 93 [.agg ⟨[.int .i64 a,.int .i64 b]⟩,.agg ⟨[.int .i64 c,.int .i64 d]⟩] w .none=.ok (.ret v) w' .none∧v=.bool (decide (c≤a) && decide (b≤d)):=by
 refine call_wp text93 (by simp) (ho _ _) ?_
 by_cases h1:c≤a <;> simp [mc93,h1,tupV,cellsOf_agg]
def S81:PSpec where
 R args w v:=∃ (q n:Int) (s:Sp),args=[.int .i64 q,.int .i64 n]∧limQ q=some s∧LimW w∧v=.bool (inI s.1 n s.2)
 uniq:=by rintro _ _ _ _ ⟨q,n,s,rfl,h1,_,rfl⟩ ⟨_,_,s',h,h2,_,rfl⟩; cases h; rw [h1] at h2; cases h2; rfl
 shut h:=h
theorem run81 {ov:Ov} (ho:∀ args w,ov 81 args w=none) (h82:HasP ov 82 S82.F) (q n:Int) (s:Sp) (hq:limQ q=some s) (w:AW) (hL:LimW w):∃ v w',(run Tryd.prog ov 2).call 81 [.int .i64 q,.int .i64 n] w .none=.ok (.ret v) w' .none∧v=.bool (inI s.1 n s.2):=by
 refine call_wp text81 (by simp) (ho _ _) ?_
 have r82:=fun a b w=>S82.call1 (P:=Tryd.prog) h82 (w:=w) ⟨n,a,b,rfl,rfl⟩
 obtain ⟨ro,hg⟩:=lim_at hL
 rcases limQ_cases hq with ⟨rfl,rfl⟩ | ⟨rfl,rfl⟩ | ⟨rfl,rfl⟩ | ⟨rfl,rfl⟩ | ⟨rfl,rfl⟩ | ⟨rfl,rfl⟩ | ⟨rfl,rfl⟩ <;> simp [mc81,hg,r82,tupV]
def S70:PSpec where
 R args w v:=∃ (q a b:Int) (s:Sp),args=[.int .i64 q,.agg ⟨[.int .i64 a,.int .i64 b]⟩]∧limQ q=some s∧LimW w∧v=.bool (spanI a b s.1 s.2)
 uniq:=by rintro _ _ _ _ ⟨q,a,b,s,rfl,h1,_,rfl⟩ ⟨_,_,_,s',h,h2,_,rfl⟩; cases h; rw [h1] at h2; cases h2; rfl
 shut h:=h
theorem span_bool (a b c d:Int):spanI a b c d=(!decide (b < a) && (decide (c≤a) && decide (b≤d))):=by
 unfold spanI
 by_cases h1:c≤a <;> by_cases h2:b < a <;> by_cases h3:b≤d
 all_goals simp [h1,h2,h3]
 all_goals omega
theorem run70 {ov:Ov} (ho:∀ args w,ov 70 args w=none) (h92:HasP ov 92 S92.F) (h93:HasP ov 93 S93.F) (q a b:Int) (s:Sp) (hq:limQ q=some s) (w:AW) (hl:w.lim=w.next) (hL:LimW w):∃ v w',(run Tryd.prog ov 2).call 70 [.int .i64 q,.agg ⟨[.int .i64 a,.int .i64 b]⟩] w .none=.ok (.ret v) w' .none∧v=.bool (spanI a b s.1 s.2):=by
 refine call_wp text70 (by simp) (ho _ _) ?_
 have r92:=fun w=>S92.call1 (P:=Tryd.prog) h92 (w:=w) ⟨a,b,rfl,rfl⟩
 have r93:=fun c d w=>S93.call1 (P:=Tryd.prog) h93 (w:=w) ⟨a,b,c,d,rfl,rfl⟩
 obtain ⟨ro,hg⟩:=lim_at hL
 have hp:=hL.2
 have e0:¬ 0=w.next:=by omega
 have lw:w.lim≤w.next:=by omega
 by_cases h1:b < a
 ·rcases limQ_cases hq with ⟨rfl,rfl⟩ | ⟨rfl,rfl⟩ | ⟨rfl,rfl⟩ | ⟨rfl,rfl⟩ | ⟨rfl,rfl⟩ | ⟨rfl,rfl⟩ | ⟨rfl,rfl⟩ <;> simp [mc70,hg,r92,r93,tupV,cellsOf_agg,span_bool,h1,e0]
 ·rcases limQ_cases hq with ⟨rfl,rfl⟩ | ⟨rfl,rfl⟩ | ⟨rfl,rfl⟩ | ⟨rfl,rfl⟩ | ⟨rfl,rfl⟩ | ⟨rfl,rfl⟩ | ⟨rfl,rfl⟩ <;> simp [mc70,hg,r92,r93,tupV,cellsOf_agg,span_bool,h1,e0]
def S94:PSpec where
 R args w v:=∃ b:CBox,args=[.agg ⟨boxC b⟩]∧LimW w∧v=.bool (boxB b)
 uniq:=by rintro _ _ _ _ ⟨⟨a,b,c,d⟩,rfl,_,rfl⟩ ⟨⟨a',b',c',d'⟩,h,_,rfl⟩; cases h; rfl
 shut h:=h
theorem run94 {ov:Ov} (ho:∀ args w,ov 94 args w=none) (h70:HasP ov 70 S70.F) (b:CBox) (w:AW) (hl:w.lim=w.next) (hL:LimW w):∃ v w',(run Tryd.prog ov 2).call 94 [.agg ⟨boxC b⟩] w .none=.ok (.ret v) w' .none∧v=.bool (boxB b):=by
 refine call_wp text94 (by simp) (ho _ _) ?_
 have u1:Up w ⟨w.heap.put w.next (some (.cells (boxC b) 27 false)),w.next + 1,w.lim⟩:=(Up.refl w).add _
 have r70:=fun x y=>S70.call1 (P:=Tryd.prog) h70 (w:=⟨w.heap.put w.next (some (.cells (boxC b) 27 false)),w.next + 1,w.lim⟩) ⟨3,x,y,(1,1000000),rfl,rfl,hL.up u1,rfl⟩
 unfold boxC at r70 ⊢
 by_cases h1:spanI b.wl b.wh 1 1000000=true
 ·simp [mc94,r70,tupV,cellsOf_agg,boxB,h1]
 ·simp [mc94,r70,tupV,cellsOf_agg,boxB,h1]
theorem all_take {α:Type} {p:α→Bool} {l:List α} {i:Nat} {a:α} (ha:l[i]?=some a):(l.take (i + 1)).all p=((l.take i).all p && p a):=by
 rw [take_snoc ha,List.all_append]; simp
theorem all_bad {α:Type} {p:α→Bool} {l:List α} {i:Nat} {a:α} (ha:l[i]?=some a) (h:p a=false):l.all p=false:=by
 cases hq:l.all p with
 | false=>rfl
 | true =>
  have:=List.all_eq_true.1 hq a (List.mem_of_getElem? ha)
  rw [h] at this; cases this
theorem all_full {α:Type} {p:α→Bool} {l:List α} (h:(l.take l.length).all p=true):l.all p=true:=by rwa [List.take_length] at h
def S53:PSpec where
 R args w v:=∃ (x:Value) (r:List CAct),args=[x]∧RowsV actC w x r∧LimW w∧v=.bool (ruleB r)
 uniq:=by
  rintro _ _ _ _ ⟨x,r,rfl,h1,_,rfl⟩ ⟨_,r',h,h2,_,rfl⟩
  cases h
  rw [h1.uniq (m:=7) actC_length actC_inj h2]
 shut h:=h
theorem run53 {ov:Ov} (ho:∀ args w,ov 53 args w=none) (h81:HasP ov 81 S81.F) (h70:HasP ov 70 S70.F) (r:List CAct) (v:Value) (w:AW) (hl:w.lim=w.next) (hv:RowsV actC w v r) (hL:LimW w):∃ x w',(run Tryd.prog ov 2).call 53 [v] w .none=.ok (.ret x) w' .none∧x=.bool (ruleB r):=by
 refine call_wp text53 (by simp) (ho _ _) ?_
 have hl1:=fun w2=>len22V (w':=w2) hv
 by_cases h1:r.length < 1
 ·have h1':(r.length:Int) < 1:=by omega
  have e:ruleB r=false:=by simp [ruleB,inI]; intro h; omega
  simp [mc53,hl1,h1',e,tupV]
 have h1':¬ (r.length:Int) < 1:=by omega
 by_cases h2:5 < r.length
 ·have h2':(5:Int) < (r.length:Int):=by omega
  have e:ruleB r=false:=by simp [ruleB,inI]; intro _ h; omega
  simp [mc53,hl1,h1',h2',e,tupV]
 have h2':¬ (5:Int) < (r.length:Int):=by omega
 have eI:inI 1 (r.length:Nat) 5=true:=by simp [inI]; omega
 have hll:=hl
 simp [mc53,hl1,h1',h2']
 refine wp_seqX (wp_blockX (wp_rounds (fun i t w'=>Up w w'∧w'.lim≤w'.next∧tget t 0=v∧tget t 13=v∧tget t 14=.int .i64 (r.length:Nat)∧tget t 15=.int .i64 (i:Nat)∧i≤r.length∧(r.take i).all (actB r.length)=true) 20 (by decide) ?_ ?_))
 ·refine ⟨Up.refl w,by omega,by simp,by simp,by simp,by simp,by omega,by simp⟩
 ·clear hl1
  rintro i t w' ⟨hu,hle,t0,t13,t14,t15,hi,ha⟩
  by_cases hlt:i < r.length
  ·obtain ⟨x,hx⟩:∃ p,r[i]?=some p:=⟨_,List.getElem?_eq_getElem hlt⟩
   have hv1:=hv.up hu
   have hl1:=fun w2=>len22V (w':=w2) hv1
   obtain ⟨b,off,sq,c,rfl,hra⟩:=hv1.at_ i hlt
   have hld:=hra.rd actC_length hx
   have hia:=fun w=>ia22 w ⟨b,off,sq⟩ r.length c .i64 i hlt
   have hw1:IntKind.wrap .i64 ((i:Int) + 1)=(i:Int) + 1:=wrap64_in (by omega) (by omega)
   have hsh:=fun w s c=>bin_shl1 (P:=Tryd.prog) (w:=w) s c r.length (by omega)
   have hpow:(1:Int)≤2 ^ r.length:=by exact_mod_cast Nat.one_le_two_pow
   have has:=all_take (p:=actB r.length) hx
   obtain ⟨a1,a2,a3,a4,a5,a6,a7⟩:=x
   have u1:Up w ⟨(w'.heap.put w'.next (some (.cells [.int .i64 0,.int .i64 0,.bool false,.bool false,.int .i64 0,.int .i64 0,.int .i64 0] 78 false))).put w'.next (some (.cells [.int .i64 a1,.int .i64 a2,.bool a3,.bool a4,.int .i64 a5,.int .i64 a6,.int .i64 a7] 78 false)),w'.next + 1,w'.lim⟩:=(hu.add _).put hu.next (Nat.le_refl _)
   have L1:=hL.up u1
   have r81a:=S81.call1 (P:=Tryd.prog) h81 ⟨0,a1,_,rfl,rfl,L1,rfl⟩
   have r81b:=S81.call1 (P:=Tryd.prog) h81 ⟨1,a5,_,rfl,rfl,L1,rfl⟩
   have r70:=S70.call1 (P:=Tryd.prog) h70 ⟨2,a6,a7,_,rfl,rfl,L1,rfl⟩
   have hbad:actB r.length ⟨a1,a2,a3,a4,a5,a6,a7⟩=false→ruleB r=false:=fun h=>by
    simp only [ruleB,all_bad hx h,Bool.and_false]
   simp only [actC] at hld
   cases k1:inI 0 a1 60 with
   | false =>
    have e:=hbad (by simp [actB,k1])
    rw [k1] at r81a
    simp [mc53_l0,t0,t13,t14,t15,hlt,hia,hld,hle,r81a,e,tupV]
   | true =>
    rw [k1] at r81a
    cases k2:inI 1 a5 14 with
    | false =>
     have e:=hbad (by simp [actB,k2])
     rw [k2] at r81b
     simp [mc53_l0,t0,t13,t14,t15,hlt,hia,hld,hle,r81a,r81b,e,tupV]
    | true =>
     rw [k2] at r81b
     cases k3:spanI a6 a7 0 10000 with
     | false =>
      have e:=hbad (by simp [actB,k3])
      rw [k3] at r70
      simp [mc53_l0,t0,t13,t14,t15,hlt,hia,hld,hle,r81a,r81b,r70,e,tupV]
     | true =>
      rw [k3] at r70
      by_cases k4:a2 < 0
      ·have e:=hbad (by simp only [actB,inI]; simp; intro _ _ _; omega)
       simp [mc53_l0,t0,t13,t14,t15,hlt,hia,hld,hle,r81a,r81b,r70,k4,e,tupV]
      ·by_cases k5:(2:Int) ^ r.length≤a2
       ·have e:=hbad (by simp only [actB,inI]; simp; intro _ _ _; omega)
        simp [mc53_l0,t0,t13,t14,t15,hlt,hia,hld,hle,r81a,r81b,r70,k4,k5,hl1,hsh,e,tupV]
       ·have e:actB r.length ⟨a1,a2,a3,a4,a5,a6,a7⟩=true:=by
         simp only [actB,k1,k2,k3,Bool.true_and]
         simp [inI]; omega
        rw [ha,e] at has
        simp [mc53_l0,t0,t13,t14,t15,hlt,hia,hld,hle,r81a,r81b,r70,k4,k5,hl1,hsh,hw1]
        exact ⟨by omega,u1,hlt,by simpa using has⟩
  ·have hi':i=r.length:=by omega
   subst hi'
   have e:ruleB r=true:=by simp only [ruleB,eI,all_full ha,Bool.and_self]
   simp [mc53_l0,t14,t15,e,tupV]
def S54:PSpec where
 R args w v:=∃ (x:Value) (d:List CDay),args=[x]∧RowsV cdayC w x d∧LimW w∧v=.bool (daysB d)
 uniq:=by
  rintro _ _ _ _ ⟨x,r,rfl,h1,_,rfl⟩ ⟨_,r',h,h2,_,rfl⟩
  cases h
  rw [h1.uniq (m:=3) cdayC_length cdayC_inj h2]
 shut h:=h
theorem run54 {ov:Ov} (ho:∀ args w,ov 54 args w=none) (h70:HasP ov 70 S70.F) (r:List CDay) (v:Value) (w:AW) (hl:w.lim=w.next) (hv:RowsV cdayC w v r) (hL:LimW w):∃ x w',(run Tryd.prog ov 2).call 54 [v] w .none=.ok (.ret x) w' .none∧x=.bool (daysB r):=by
 refine call_wp text54 (by simp) (ho _ _) ?_
 have hl1:=fun w2=>len23V (w':=w2) hv
 by_cases h1:r.length < 1
 ·have h1':(r.length:Int) < 1:=by omega
  have e:daysB r=false:=by simp [daysB,inI]; intro h; omega
  simp [mc54,hl1,h1',e,tupV]
 have h1':¬ (r.length:Int) < 1:=by omega
 by_cases h2:14 < r.length
 ·have h2':(14:Int) < (r.length:Int):=by omega
  have e:daysB r=false:=by simp [daysB,inI]; intro _ h; omega
  simp [mc54,hl1,h1',h2',e,tupV]
 have h2':¬ (14:Int) < (r.length:Int):=by omega
 have eI:inI 1 (r.length:Nat) 14=true:=by simp [inI]; omega
 simp [mc54,hl1,h1',h2']
 refine wp_seqX (wp_blockX (wp_rounds (fun i t w'=>Up w w'∧w'.lim≤w'.next∧tget t 13=v∧tget t 14=.int .i64 (r.length:Nat)∧tget t 15=.int .i64 (i:Nat)∧i≤r.length∧(r.take i).all cdayB=true) 20 (by decide) ?_ ?_))
 ·refine ⟨Up.refl w,by omega,by simp,by simp,by simp,by omega,by simp⟩
 ·clear hl1
  rintro i t w' ⟨hu,hle,t13,t14,t15,hi,ha⟩
  by_cases hlt:i < r.length
  ·obtain ⟨x,hx⟩:∃ p,r[i]?=some p:=⟨_,List.getElem?_eq_getElem hlt⟩
   have hv1:=hv.up hu
   obtain ⟨b,off,sq,c,rfl,hra⟩:=hv1.at_ i hlt
   have hld:=hra.rd cdayC_length hx
   have hia:=fun w=>ia23 w ⟨b,off,sq⟩ r.length c .i64 i hlt
   have hw1:IntKind.wrap .i64 ((i:Int) + 1)=(i:Int) + 1:=wrap64_in (by omega) (by omega)
   have has:=all_take (p:=cdayB) hx
   obtain ⟨a1,a2,a3⟩:=x
   have u1:Up w ⟨(w'.heap.put w'.next (some (.cells [.int .i64 0,.int .i64 0,.bool false] 83 false))).put w'.next (some (.cells [.int .i64 a1,.int .i64 a2,.bool a3] 83 false)),w'.next + 1,w'.lim⟩:=(hu.add _).put hu.next (Nat.le_refl _)
   have L1:=hL.up u1
   have r70:=S70.call1 (P:=Tryd.prog) h70 ⟨0,a1,a2,_,rfl,rfl,L1,rfl⟩
   simp only [cdayC] at hld
   cases k3:spanI a1 a2 0 60 with
   | false =>
    have e:daysB r=false:=by simp only [daysB,all_bad hx (p:=cdayB) k3,Bool.and_false]
    rw [k3] at r70
    simp [mc54_l0,t13,t14,t15,hlt,hia,hld,hle,r70,e,tupV]
   | true =>
    rw [k3] at r70
    have e:cdayB ⟨a1,a2,a3⟩=true:=k3
    rw [ha,e] at has
    simp [mc54_l0,t13,t14,t15,hlt,hia,hld,hle,r70,hw1]
    exact ⟨by omega,u1,hlt,by simpa using has⟩
  ·have hi':i=r.length:=by omega
   subst hi'
   have e:daysB r=true:=by simp only [daysB,eI,all_full ha,Bool.and_self]
   simp [mc54_l0,t14,t15,e,tupV]
def S14:PSpec where
 R args w v:=∃ (x y:Value) (r:List CAct) (d:List CDay),args=[x,y]∧RowsV actC w x r∧RowsV cdayC w y d∧LimW w∧v=.int .i64 (chkE r d)
 uniq:=by
  rintro _ _ _ _ ⟨x,y,r,d,rfl,h1,h2,_,rfl⟩ ⟨_,_,r',d',h,k1,k2,_,rfl⟩
  cases h
  rw [h1.uniq (m:=7) actC_length actC_inj k1,h2.uniq (m:=3) cdayC_length cdayC_inj k2]
 shut h:=h
theorem run14 {ov:Ov} (ho:∀ args w,ov 14 args w=none) (h53:HasP ov 53 S53.F) (h54:HasP ov 54 S54.F) (r:List CAct) (d:List CDay) (v y:Value) (w:AW) (hv:RowsV actC w v r) (hd:RowsV cdayC w y d) (hL:LimW w):∃ x w',(run Tryd.prog ov 2).call 14 [v,y] w .none=.ok (.ret x) w' .none∧x=.int .i64 (chkE r d):=by
 refine call_wp text14 (by simp) (ho _ _) ?_
 have r53:=S53.call1 (P:=Tryd.prog) h53 ⟨v,r,rfl,hv,hL,rfl⟩
 have r54:=S54.call1 (P:=Tryd.prog) h54 ⟨y,d,rfl,hd,hL,rfl⟩
 cases k1:ruleB r with
 | false=>rw [k1] at r53; simp [mc14,r53,chkE,k1,tupV]
 | true =>
  rw [k1] at r53
  cases k2:daysB d <;> rw [k2] at r54 <;> simp [mc14,r53,r54,chkE,k1,k2,tupV]
theorem rdO_sub {o:Option AObj} {off m j k:Nat} {c:List Value} (h:rdO o off m=some c) (hjk:j + k≤m):rdO o (off + j) k=some ((c.drop j).take k):=by
 unfold rdO at *
 cases hc:cellsO o with
 | none=>simp [hc] at h
 | some cs =>
  simp only [hc,Option.bind_some] at h ⊢
  split at h
  ·rename_i hle
   cases h
   rw [if_pos (by omega),List.drop_take,List.drop_drop,List.take_take,Nat.min_eq_left (by omega)]
  ·cases h
end Go.Proofs.YtnmamelclmfplaaDoor.walk
