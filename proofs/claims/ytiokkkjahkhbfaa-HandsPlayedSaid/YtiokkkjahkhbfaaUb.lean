/- Part of a proof: see the text with the theorem. -/
import Derived.Test.YtiokkkjahkhbfaaSiF
import Derived.Test.YtiokkkjahkhbfaaUa
import Derived.KernelRfl
import Derived.Test.YtiokkkjahkhbfaaProg
set_option linter.all false
namespace Go.Proofs.Ytiokkkjahkhbfaa.walk
open Go Go.Sh
set_option maxRecDepth 100000
@[simp] theorem eq4 (c:Bool) (x y:Value) (w:AW):(binW Try.prog .eql 4 c).val x y w=vR w ((eqFlat false [1] x y).map .bool):=bin_eql (by kernel_rfl) c x y
@[simp] theorem bd27_0_n1 (w:AW) (x0a:Option Addr) (x0l x0c:Nat):buildSliceA Try.prog w 27 1 [(0,.slice x0a x0l x0c)]=.val (.slice (some ⟨w.next,0,some 2⟩) 1 1) ⟨w.heap.put w.next (some (.cells [.slice x0a x0l x0c] 42 false)),w.next + 1,w.lim⟩:=by kernel_rfl
@[simp] theorem bd122_0_1_2 (w:AW) (x0:Int) (x1:Int) (x2:Int):buildA Try.prog w 122 [(0,.int .i64 x0),(1,.int .i64 x1),(2,.int .i64 x2)]=.val (.agg ⟨[.int .i64 x0,.int .i64 x1,.int .i64 x2]⟩) w:=by kernel_rfl
@[simp] theorem bd123_0_1 (w:AW) (x0:Int) (x1:Int):buildA Try.prog w 123 [(0,.int .i64 x0),(1,.int .i64 x1)]=.val (.agg ⟨[.int .i64 x0,.int .i64 x1]⟩) w:=by kernel_rfl
noncomputable def mc8_l1:MC:=.seq (.seq (.ops [⟨false,none,some 75,3,.move (.tmp 18)⟩,⟨false,none,some 76,27,.move (.tmp 7)⟩,⟨false,none,some 77,3,.call ⟨.builtin .len,#[.tmp 76],#[27]⟩⟩,⟨false,none,some 78,4,.binOp .lss 3 (.tmp 75) (.tmp 77) 3⟩]) (.cond (.tmp 78) (.skip) (.exit 2))) (.seq (.block 3 (.ops [⟨false,none,some 81,3,.move (.tmp 17)⟩,⟨false,none,some 82,27,.move (.tmp 7)⟩,⟨false,none,some 83,3,.move (.tmp 18)⟩,⟨false,none,some 84,0,.indexAddr 27 (.tmp 82) (.tmp 83)⟩,⟨false,none,some 85,42,.load 42 (.tmp 84)⟩,⟨false,none,some 86,3,.move (.tmp 16)⟩,⟨false,none,some 87,0,.indexAddr 42 (.tmp 85) (.tmp 86)⟩,⟨false,none,some 88,3,.load 3 (.tmp 87)⟩,⟨false,none,some 89,3,.binOp .add 3 (.tmp 81) (.tmp 88) 3⟩,⟨false,none,some 17,3,.assign (.tmp 89)⟩])) (.ops [⟨false,none,some 79,3,.move (.tmp 18)⟩,⟨false,none,some 80,3,.binOp .add 3 (.tmp 79) (.const (.int .i64 1)) 3⟩,⟨false,none,some 18,3,.assign (.tmp 80)⟩]))
noncomputable def mc8_l0:MC:=.seq (.seq (.ops [⟨false,none,some 69,3,.move (.tmp 16)⟩,⟨false,none,some 70,42,.move (.tmp 8)⟩,⟨false,none,some 71,3,.call ⟨.builtin .len,#[.tmp 70],#[42]⟩⟩,⟨false,none,some 72,4,.binOp .lss 3 (.tmp 69) (.tmp 71) 3⟩]) (.cond (.tmp 72) (.skip) (.exit 0))) (.seq (.block 1 (.seq (.ops [⟨false,none,some 17,3,.assign (.const (.int .i64 0))⟩]) (.seq (.seq (.ops [⟨false,none,some 18,3,.assign (.const (.int .i64 0))⟩]) (.block 2 (.loop mc8_l1))) (.seq (.ops [⟨false,none,some 90,3,.move (.tmp 15)⟩,⟨false,none,some 91,3,.move (.tmp 17)⟩,⟨false,none,some 92,3,.binOp .add 3 (.tmp 90) (.tmp 91) 3⟩,⟨false,none,some 15,3,.assign (.tmp 92)⟩]) (.seq (.ops [⟨true,none,some 93,42,.move (.tmp 8)⟩,⟨true,none,some 94,3,.move (.tmp 16)⟩,⟨true,none,some 95,0,.indexAddr 42 (.tmp 93) (.tmp 94)⟩,⟨true,none,some 96,3,.load 3 (.tmp 95)⟩,⟨true,none,some 97,42,.move (.tmp 12)⟩,⟨true,none,some 98,3,.move (.tmp 16)⟩,⟨true,none,some 99,0,.indexAddr 42 (.tmp 97) (.tmp 98)⟩,⟨true,none,some 100,3,.load 3 (.tmp 99)⟩,⟨true,none,some 101,3,.move (.tmp 17)⟩,⟨true,none,some 102,0,.fieldAddr 26 (.tmp 3) 0⟩,⟨true,none,some 103,22,.load 22 (.tmp 102)⟩,⟨true,none,some 104,3,.move (.tmp 16)⟩,⟨true,none,some 105,0,.indexAddr 22 (.tmp 103) (.tmp 104)⟩,⟨true,none,some 106,0,.fieldAddr 65 (.tmp 105) 2⟩,⟨true,none,some 107,3,.load 3 (.tmp 106)⟩,⟨true,none,some 108,3,.call ⟨.builtin .min,#[.tmp 100,.tmp 101,.tmp 107],#[3,3,3]⟩⟩,⟨false,none,some 109,4,.call ⟨.value (.func 38),#[.tmp 96,.const (.int .i64 0),.tmp 108],#[3,3,3]⟩⟩,⟨true,none,some 110,4,.unOp .not 4 (.tmp 109)⟩]) (.cond (.tmp 110) (.seq (.ops [⟨false,none,some 6,4,.assign (.const (.bool false))⟩]) (.ret)) (.skip))))))) (.ops [⟨false,none,some 73,3,.move (.tmp 16)⟩,⟨false,none,some 74,3,.binOp .add 3 (.tmp 73) (.const (.int .i64 1)) 3⟩,⟨false,none,some 16,3,.assign (.tmp 74)⟩]))
noncomputable def mc8:MC:=.seq (.ops [⟨false,none,some 3,0,.box 26 (.tmp 0)⟩,⟨false,none,some 6,4,.assign (.const (.bool false))⟩]) (.seq (.seq (.ops [⟨false,none,some 20,26,.load 26 (.tmp 3)⟩,⟨false,none,some 21,4,.call ⟨.value (.func 34),#[.tmp 20],#[26]⟩⟩,⟨false,none,some 22,4,.unOp .not 4 (.tmp 21)⟩]) (.cond (.tmp 22) (.seq (.ops [⟨false,none,some 23,4,.call ⟨.value (.func 18),#[],#[]⟩⟩,⟨false,none,some 6,4,.assign (.tmp 23)⟩]) (.ret)) (.skip))) (.seq (.ops [⟨false,none,some 24,26,.load 26 (.tmp 3)⟩,⟨false,none,some 25,42,.move (.tmp 2)⟩,⟨false,none,some 26,27,.call ⟨.value (.func 35),#[.tmp 24,.tmp 25],#[26,42]⟩⟩,⟨false,none,some 7,27,.assign (.tmp 26)⟩]) (.seq (.ops [⟨false,none,some 28,26,.load 26 (.tmp 3)⟩,⟨false,none,some 29,27,.move (.tmp 7)⟩,⟨false,none,some 30,39,.move (.tmp 1)⟩,⟨false,none,some 31,43,.call ⟨.value (.func 21),#[.tmp 28,.tmp 29,.tmp 30],#[26,27,39]⟩⟩,⟨false,none,some 27,43,.move (.tmp 31)⟩,⟨false,none,some 32,42,.extract (.tmp 27) 0⟩,⟨false,none,some 33,3,.extract (.tmp 27) 1⟩,⟨false,none,some 34,28,.extract (.tmp 27) 2⟩,⟨false,none,some 8,42,.assign (.tmp 32)⟩,⟨false,none,some 9,3,.assign (.tmp 33)⟩,⟨false,none,some 10,28,.assign (.tmp 34)⟩]) (.seq (.ops [⟨false,none,some 36,26,.load 26 (.tmp 3)⟩,⟨false,none,some 37,39,.move (.tmp 1)⟩,⟨false,none,some 38,62,.call ⟨.value (.func 36),#[.tmp 36,.tmp 37],#[26,39]⟩⟩,⟨false,none,some 35,62,.move (.tmp 38)⟩,⟨false,none,some 39,3,.extract (.tmp 35) 0⟩,⟨false,none,some 40,42,.extract (.tmp 35) 1⟩,⟨false,none,some 41,27,.extract (.tmp 35) 2⟩,⟨false,none,some 42,4,.extract (.tmp 35) 3⟩,⟨false,none,some 11,3,.assign (.tmp 39)⟩,⟨false,none,some 12,42,.assign (.tmp 40)⟩,⟨false,none,some 13,27,.assign (.tmp 41)⟩,⟨false,none,some 14,4,.assign (.tmp 42)⟩]) (.seq (.seq (.ops [⟨false,none,some 43,28,.move (.tmp 10)⟩,⟨false,none,some 44,4,.binOp .neq 28 (.tmp 43) (.const (.int .i64 0)) 28⟩]) (.cond (.tmp 44) (.seq (.ops [⟨false,none,some 45,42,.move (.tmp 8)⟩,⟨false,none,some 46,3,.call ⟨.builtin .len,#[.tmp 45],#[42]⟩⟩,⟨false,none,some 47,4,.binOp .eql 3 (.tmp 46) (.const (.int .i64 0)) 3⟩,⟨false,none,some 48,4,.move (.tmp 47)⟩,⟨false,some (48,true),some 49,3,.move (.tmp 9)⟩,⟨false,some (48,true),some 50,4,.binOp .eql 3 (.tmp 49) (.const (.int .i64 0)) 3⟩,⟨false,none,some 51,4,.pick (.tmp 48) (.tmp 50) (.const (.bool false))⟩,⟨false,none,some 52,4,.move (.tmp 51)⟩,⟨false,some (52,true),some 53,28,.move (.tmp 10)⟩,⟨false,some (52,true),some 54,4,.binOp .eql 28 (.tmp 53) (.const (.int .i64 22)) 28⟩,⟨false,none,some 55,4,.pick (.tmp 52) (.tmp 54) (.const (.bool false))⟩,⟨false,none,some 56,4,.move (.tmp 55)⟩,⟨false,some (56,true),some 57,4,.call ⟨.value (.func 18),#[],#[]⟩⟩,⟨false,none,some 58,4,.pick (.tmp 56) (.tmp 57) (.const (.bool false))⟩,⟨false,none,some 6,4,.assign (.tmp 58)⟩]) (.ret)) (.skip))) (.seq (.seq (.ops [⟨false,none,some 59,4,.move (.tmp 14)⟩,⟨false,none,some 60,4,.unOp .not 4 (.tmp 59)⟩,⟨false,none,some 61,4,.move (.tmp 60)⟩,⟨false,some (61,false),some 62,42,.move (.tmp 8)⟩,⟨false,some (61,false),some 63,3,.call ⟨.builtin .len,#[.tmp 62],#[42]⟩⟩,⟨false,some (61,false),some 64,0,.fieldAddr 26 (.tmp 3) 0⟩,⟨false,some (61,false),some 65,22,.load 22 (.tmp 64)⟩,⟨false,some (61,false),some 66,3,.call ⟨.builtin .len,#[.tmp 65],#[22]⟩⟩,⟨false,some (61,false),some 67,4,.binOp .neq 3 (.tmp 63) (.tmp 66) 3⟩,⟨false,none,some 68,4,.pick (.tmp 61) (.const (.bool true)) (.tmp 67)⟩]) (.cond (.tmp 68) (.seq (.ops [⟨false,none,some 6,4,.assign (.const (.bool false))⟩]) (.ret)) (.skip))) (.seq (.ops [⟨false,none,some 15,3,.assign (.const (.int .i64 0))⟩]) (.seq (.seq (.ops [⟨false,none,some 16,3,.assign (.const (.int .i64 0))⟩]) (.block 0 (.loop mc8_l0))) (.seq (.ops [⟨false,none,some 112,26,.load 26 (.tmp 3)⟩,⟨false,none,some 113,27,.move (.tmp 7)⟩,⟨false,none,some 114,39,.move (.tmp 1)⟩,⟨false,none,some 115,40,.call ⟨.value (.func 19),#[.tmp 112,.tmp 113,.tmp 114],#[26,27,39]⟩⟩,⟨false,none,some 111,40,.move (.tmp 115)⟩,⟨false,none,some 116,4,.extract (.tmp 111) 0⟩,⟨false,none,some 117,28,.extract (.tmp 111) 1⟩,⟨false,none,some 19,4,.assign (.tmp 116)⟩,⟨false,none,some 10,28,.assign (.tmp 117)⟩]) (.seq (.ops [⟨false,none,some 118,28,.move (.tmp 10)⟩,⟨false,none,some 119,4,.binOp .eql 28 (.tmp 118) (.const (.int .i64 0)) 28⟩,⟨false,none,some 120,4,.move (.tmp 119)⟩,⟨false,some (120,true),some 121,4,.move (.tmp 19)⟩,⟨false,some (120,true),some 122,42,.move (.tmp 8)⟩,⟨false,some (120,true),some 123,3,.call ⟨.value (.func 37),#[.tmp 122],#[42]⟩⟩,⟨false,some (120,true),some 124,3,.move (.tmp 11)⟩,⟨false,some (120,true),some 125,4,.binOp .eql 3 (.tmp 123) (.tmp 124) 3⟩,⟨false,some (120,true),some 126,4,.binOp .eql 4 (.tmp 121) (.tmp 125) 4⟩,⟨false,none,some 127,4,.pick (.tmp 120) (.tmp 126) (.const (.bool false))⟩,⟨false,none,some 128,4,.move (.tmp 127)⟩,⟨false,some (128,true),some 129,3,.move (.tmp 9)⟩,⟨false,some (128,true),some 130,3,.move (.tmp 15)⟩,⟨false,some (128,true),some 131,42,.move (.tmp 8)⟩,⟨false,some (128,true),some 132,3,.call ⟨.value (.func 37),#[.tmp 131],#[42]⟩⟩,⟨false,some (128,true),some 133,3,.binOp .sub 3 (.tmp 130) (.tmp 132) 3⟩,⟨false,some (128,true),some 134,4,.binOp .eql 3 (.tmp 129) (.tmp 133) 3⟩,⟨false,none,some 135,4,.pick (.tmp 128) (.tmp 134) (.const (.bool false))⟩,⟨false,none,some 136,4,.move (.tmp 135)⟩,⟨false,some (136,true),some 137,4,.call ⟨.value (.func 18),#[],#[]⟩⟩,⟨false,none,some 138,4,.pick (.tmp 136) (.tmp 137) (.const (.bool false))⟩,⟨false,none,some 6,4,.assign (.tmp 138)⟩]) (.ret)))))))))))
theorem text8:textF Try.prog 8=some (139,[.tmp 6],mc8):=by kernel_rfl
noncomputable def mc34_l0:MC:=.seq (.seq (.ops [⟨false,none,some 26,4,.move (.tmp 3)⟩,⟨false,none,some 27,4,.move (.tmp 26)⟩,⟨false,some (27,true),some 28,3,.move (.tmp 4)⟩,⟨false,some (27,true),some 29,0,.fieldAddr 26 (.tmp 1) 2⟩,⟨false,some (27,true),some 30,24,.load 24 (.tmp 29)⟩,⟨false,some (27,true),some 31,3,.call ⟨.builtin .len,#[.tmp 30],#[24]⟩⟩,⟨false,some (27,true),some 32,4,.binOp .lss 3 (.tmp 28) (.tmp 31) 3⟩,⟨false,none,some 33,4,.pick (.tmp 27) (.tmp 32) (.const (.bool false))⟩]) (.cond (.tmp 33) (.skip) (.exit 0))) (.seq (.block 1 (.ops [⟨true,none,some 36,0,.fieldAddr 26 (.tmp 1) 2⟩,⟨true,none,some 37,24,.load 24 (.tmp 36)⟩,⟨true,none,some 38,3,.move (.tmp 4)⟩,⟨true,none,some 39,0,.indexAddr 24 (.tmp 37) (.tmp 38)⟩,⟨true,none,some 40,69,.load 69 (.tmp 39)⟩,⟨true,none,some 41,3,.call ⟨.builtin .len,#[.tmp 40],#[69]⟩⟩,⟨true,none,some 42,0,.fieldAddr 26 (.tmp 1) 0⟩,⟨true,none,some 43,22,.load 22 (.tmp 42)⟩,⟨true,none,some 44,3,.call ⟨.builtin .len,#[.tmp 43],#[22]⟩⟩,⟨true,none,some 45,4,.binOp .eql 3 (.tmp 41) (.tmp 44) 3⟩,⟨true,none,some 3,4,.assign (.tmp 45)⟩])) (.ops [⟨false,none,some 34,3,.move (.tmp 4)⟩,⟨false,none,some 35,3,.binOp .add 3 (.tmp 34) (.const (.int .i64 1)) 3⟩,⟨false,none,some 4,3,.assign (.tmp 35)⟩]))
noncomputable def mc34:MC:=.seq (.ops [⟨false,none,some 1,0,.box 26 (.tmp 0)⟩,⟨false,none,some 2,4,.assign (.const (.bool false))⟩]) (.seq (.ops [⟨false,none,some 5,26,.load 26 (.tmp 1)⟩,⟨false,none,some 6,28,.call ⟨.value (.func 14),#[.tmp 5],#[26]⟩⟩,⟨false,none,some 7,4,.binOp .eql 28 (.tmp 6) (.const (.int .i64 0)) 28⟩,⟨false,none,some 8,4,.move (.tmp 7)⟩,⟨false,some (8,true),some 9,0,.fieldAddr 26 (.tmp 1) 0⟩,⟨false,some (8,true),some 10,22,.load 22 (.tmp 9)⟩,⟨false,some (8,true),some 11,3,.call ⟨.builtin .len,#[.tmp 10],#[22]⟩⟩,⟨false,some (8,true),some 12,4,.call ⟨.value (.func 38),#[.tmp 11,.const (.int .i64 1),.const (.int .i64 6)],#[3,3,3]⟩⟩,⟨false,none,some 13,4,.pick (.tmp 8) (.tmp 12) (.const (.bool false))⟩,⟨false,none,some 14,4,.move (.tmp 13)⟩,⟨false,some (14,true),some 15,0,.fieldAddr 26 (.tmp 1) 1⟩,⟨false,some (14,true),some 16,23,.load 23 (.tmp 15)⟩,⟨false,some (14,true),some 17,3,.call ⟨.builtin .len,#[.tmp 16],#[23]⟩⟩,⟨false,some (14,true),some 18,4,.binOp .leq 3 (.tmp 17) (.const (.int .i64 4)) 3⟩,⟨false,none,some 19,4,.pick (.tmp 14) (.tmp 18) (.const (.bool false))⟩,⟨false,none,some 20,4,.move (.tmp 19)⟩,⟨false,some (20,true),some 21,0,.fieldAddr 26 (.tmp 1) 2⟩,⟨false,some (20,true),some 22,24,.load 24 (.tmp 21)⟩,⟨false,some (20,true),some 23,3,.call ⟨.builtin .len,#[.tmp 22],#[24]⟩⟩,⟨false,some (20,true),some 24,4,.call ⟨.value (.func 38),#[.tmp 23,.const (.int .i64 1),.const (.int .i64 6)],#[3,3,3]⟩⟩,⟨false,none,some 25,4,.pick (.tmp 20) (.tmp 24) (.const (.bool false))⟩,⟨false,none,some 3,4,.assign (.tmp 25)⟩]) (.seq (.seq (.ops [⟨false,none,some 4,3,.assign (.const (.int .i64 0))⟩]) (.block 0 (.loop mc34_l0))) (.seq (.ops [⟨false,none,some 46,4,.move (.tmp 3)⟩,⟨false,none,some 2,4,.assign (.tmp 46)⟩]) (.ret))))
theorem text34:textF Try.prog 34=some (47,[.tmp 2],mc34):=by kernel_rfl
noncomputable def mc35_l1:MC:=.seq (.seq (.ops [⟨false,none,some 16,3,.move (.tmp 8)⟩,⟨false,none,some 17,0,.fieldAddr 26 (.tmp 2) 2⟩,⟨false,none,some 18,24,.load 24 (.tmp 17)⟩,⟨false,none,some 19,3,.move (.tmp 6)⟩,⟨false,none,some 20,0,.indexAddr 24 (.tmp 18) (.tmp 19)⟩,⟨false,none,some 21,69,.load 69 (.tmp 20)⟩,⟨false,none,some 22,3,.call ⟨.builtin .len,#[.tmp 21],#[69]⟩⟩,⟨false,none,some 23,4,.binOp .lss 3 (.tmp 16) (.tmp 22) 3⟩]) (.cond (.tmp 23) (.skip) (.exit 2))) (.seq (.block 3 (.seq (.ops [⟨true,none,some 26,42,.move (.tmp 7)⟩]) (.seq (.ops [⟨true,none,some 27,0,.fieldAddr 26 (.tmp 2) 2⟩]) (.seq (.ops [⟨true,none,some 28,24,.load 24 (.tmp 27)⟩]) (.seq (.ops [⟨true,none,some 29,3,.move (.tmp 6)⟩]) (.seq (.ops [⟨true,none,some 30,0,.indexAddr 24 (.tmp 28) (.tmp 29)⟩]) (.seq (.ops [⟨true,none,some 31,69,.load 69 (.tmp 30)⟩]) (.seq (.ops [⟨true,none,some 32,3,.move (.tmp 8)⟩]) (.seq (.ops [⟨true,none,some 33,0,.indexAddr 69 (.tmp 31) (.tmp 32)⟩]) (.seq (.ops [⟨true,none,some 34,0,.fieldAddr 34 (.tmp 33) 0⟩]) (.seq (.ops [⟨true,none,some 35,3,.load 3 (.tmp 34)⟩]) (.seq (.ops [⟨true,none,some 36,0,.fieldAddr 26 (.tmp 2) 2⟩]) (.seq (.ops [⟨true,none,some 37,24,.load 24 (.tmp 36)⟩]) (.seq (.ops [⟨true,none,some 38,3,.move (.tmp 6)⟩]) (.seq (.ops [⟨true,none,some 39,0,.indexAddr 24 (.tmp 37) (.tmp 38)⟩]) (.seq (.ops [⟨true,none,some 40,69,.load 69 (.tmp 39)⟩]) (.seq (.ops [⟨true,none,some 41,3,.move (.tmp 8)⟩]) (.seq (.ops [⟨true,none,some 42,0,.indexAddr 69 (.tmp 40) (.tmp 41)⟩]) (.seq (.ops [⟨true,none,some 43,0,.fieldAddr 34 (.tmp 42) 1⟩]) (.seq (.ops [⟨true,none,some 44,3,.load 3 (.tmp 43)⟩]) (.seq (.ops [⟨true,none,some 45,42,.move (.tmp 1)⟩]) (.seq (.ops [⟨true,none,some 46,3,.move (.tmp 6)⟩]) (.seq (.ops [⟨true,none,some 47,3,.binOp .mul 3 (.const (.int .i64 7)) (.tmp 46) 3⟩]) (.seq (.ops [⟨true,none,some 48,3,.move (.tmp 8)⟩]) (.seq (.ops [⟨true,none,some 49,3,.binOp .add 3 (.tmp 47) (.tmp 48) 3⟩]) (.seq (.ops [⟨false,none,some 50,3,.call ⟨.value (.func 69),#[.tmp 45,.tmp 49],#[42,3]⟩⟩]) (.seq (.chk [⟨true,none,some 44,3,.load 3 (.tmp 43)⟩,⟨true,none,some 40,69,.load 69 (.tmp 39)⟩,⟨true,none,some 37,24,.load 24 (.tmp 36)⟩,⟨true,none,some 35,3,.load 3 (.tmp 34)⟩,⟨true,none,some 31,69,.load 69 (.tmp 30)⟩,⟨true,none,some 28,24,.load 24 (.tmp 27)⟩]) (.seq (.ops [⟨false,none,some 51,3,.call ⟨.value (.func 68),#[.tmp 35,.tmp 44,.tmp 50],#[3,3,3]⟩⟩]) (.seq (.ops [⟨true,none,some 52,42,.buildSlice 42 1 #[(0,.tmp 51)]⟩]) (.seq (.ops [⟨false,none,some 53,42,.call ⟨.builtin .append,#[.tmp 26,.tmp 52],#[42,42]⟩⟩]) (.seq (.ops [⟨true,none,some 7,42,.assign (.tmp 53)⟩]) (.chk [])))))))))))))))))))))))))))))))) (.ops [⟨false,none,some 24,3,.move (.tmp 8)⟩,⟨false,none,some 25,3,.binOp .add 3 (.tmp 24) (.const (.int .i64 1)) 3⟩,⟨false,none,some 8,3,.assign (.tmp 25)⟩]))
noncomputable def mc35_l0:MC:=.seq (.seq (.ops [⟨false,none,some 9,3,.move (.tmp 6)⟩,⟨false,none,some 10,0,.fieldAddr 26 (.tmp 2) 2⟩,⟨false,none,some 11,24,.load 24 (.tmp 10)⟩,⟨false,none,some 12,3,.call ⟨.builtin .len,#[.tmp 11],#[24]⟩⟩,⟨false,none,some 13,4,.binOp .lss 3 (.tmp 9) (.tmp 12) 3⟩]) (.cond (.tmp 13) (.skip) (.exit 0))) (.seq (.block 1 (.seq (.ops [⟨false,none,some 7,42,.assign (.const (.slice none 0 0))⟩]) (.seq (.seq (.ops [⟨false,none,some 8,3,.assign (.const (.int .i64 0))⟩]) (.block 2 (.loop mc35_l1))) (.ops [⟨false,none,some 54,27,.move (.tmp 5)⟩,⟨false,none,some 55,42,.move (.tmp 7)⟩,⟨false,none,some 56,27,.buildSlice 27 1 #[(0,.tmp 55)]⟩,⟨false,none,some 57,27,.call ⟨.builtin .append,#[.tmp 54,.tmp 56],#[27,27]⟩⟩,⟨false,none,some 5,27,.assign (.tmp 57)⟩])))) (.ops [⟨false,none,some 14,3,.move (.tmp 6)⟩,⟨false,none,some 15,3,.binOp .add 3 (.tmp 14) (.const (.int .i64 1)) 3⟩,⟨false,none,some 6,3,.assign (.tmp 15)⟩]))
noncomputable def mc35:MC:=.seq (.ops [⟨false,none,some 2,0,.box 26 (.tmp 0)⟩,⟨false,none,some 4,27,.assign (.const (.slice none 0 0))⟩]) (.seq (.ops [⟨false,none,some 5,27,.assign (.const (.slice none 0 0))⟩]) (.seq (.seq (.ops [⟨false,none,some 6,3,.assign (.const (.int .i64 0))⟩]) (.block 0 (.loop mc35_l0))) (.seq (.ops [⟨false,none,some 58,27,.move (.tmp 5)⟩,⟨false,none,some 4,27,.assign (.tmp 58)⟩]) (.ret))))
theorem text35:textF Try.prog 35=some (59,[.tmp 4],mc35):=by kernel_rfl
noncomputable def mc36_l0:MC:=.seq (.seq (.ops [⟨false,none,some 29,3,.move (.tmp 13)⟩,⟨false,none,some 30,27,.move (.tmp 10)⟩,⟨false,none,some 31,3,.call ⟨.builtin .len,#[.tmp 30],#[27]⟩⟩,⟨false,none,some 32,4,.binOp .lss 3 (.tmp 29) (.tmp 31) 3⟩]) (.cond (.tmp 32) (.skip) (.exit 0))) (.seq (.block 1 (.ops [⟨false,none,some 35,27,.move (.tmp 10)⟩,⟨false,none,some 36,3,.move (.tmp 13)⟩,⟨false,none,some 37,0,.fieldAddr 26 (.tmp 2) 0⟩,⟨false,none,some 38,22,.load 22 (.tmp 37)⟩,⟨false,none,some 39,3,.call ⟨.builtin .len,#[.tmp 38],#[22]⟩⟩,⟨false,none,some 40,42,.makeSlice 42 (.tmp 39) (.tmp 39)⟩,⟨false,none,some 41,0,.indexAddr 27 (.tmp 35) (.tmp 36)⟩,⟨false,none,none,0,.store 42 (.tmp 41) (.tmp 40)⟩])) (.ops [⟨false,none,some 33,3,.move (.tmp 13)⟩,⟨false,none,some 34,3,.binOp .add 3 (.tmp 33) (.const (.int .i64 1)) 3⟩,⟨false,none,some 13,3,.assign (.tmp 34)⟩]))
noncomputable def mc36_l1:MC:=.seq (.seq (.ops [⟨false,none,some 42,3,.move (.tmp 14)⟩,⟨false,none,some 43,39,.move (.tmp 1)⟩,⟨false,none,some 44,3,.call ⟨.builtin .len,#[.tmp 43],#[39]⟩⟩,⟨false,none,some 45,4,.binOp .lss 3 (.tmp 42) (.tmp 44) 3⟩]) (.cond (.tmp 45) (.skip) (.exit 2))) (.seq (.block 3 (.seq (.ops [⟨false,none,some 48,39,.move (.tmp 1)⟩,⟨false,none,some 49,3,.move (.tmp 14)⟩,⟨false,none,some 50,0,.indexAddr 39 (.tmp 48) (.tmp 49)⟩,⟨false,none,some 51,67,.load 67 (.tmp 50)⟩,⟨false,none,some 15,0,.alloc 67⟩,⟨false,none,none,0,.store 67 (.tmp 15) (.tmp 51)⟩]) (.seq (.seq (.ops [⟨false,none,some 52,0,.fieldAddr 67 (.tmp 15) 0⟩,⟨false,none,some 53,3,.load 3 (.tmp 52)⟩,⟨false,none,some 54,27,.move (.tmp 10)⟩,⟨false,none,some 55,3,.call ⟨.builtin .len,#[.tmp 54],#[27]⟩⟩,⟨false,none,some 56,3,.binOp .sub 3 (.tmp 55) (.const (.int .i64 1)) 3⟩,⟨false,none,some 57,4,.call ⟨.value (.func 38),#[.tmp 53,.const (.int .i64 0),.tmp 56],#[3,3,3]⟩⟩,⟨false,none,some 58,4,.unOp .not 4 (.tmp 57)⟩,⟨false,none,some 59,4,.move (.tmp 58)⟩,⟨false,some (59,false),some 60,0,.fieldAddr 67 (.tmp 15) 3⟩,⟨false,some (59,false),some 61,3,.load 3 (.tmp 60)⟩,⟨false,some (59,false),some 62,42,.move (.tmp 9)⟩,⟨false,some (59,false),some 63,3,.call ⟨.builtin .len,#[.tmp 62],#[42]⟩⟩,⟨false,some (59,false),some 64,3,.binOp .sub 3 (.tmp 63) (.const (.int .i64 1)) 3⟩,⟨false,some (59,false),some 65,4,.call ⟨.value (.func 38),#[.tmp 61,.const (.int .i64 0),.tmp 64],#[3,3,3]⟩⟩,⟨false,some (59,false),some 66,4,.unOp .not 4 (.tmp 65)⟩,⟨false,none,some 67,4,.pick (.tmp 59) (.const (.bool true)) (.tmp 66)⟩,⟨false,none,some 68,4,.move (.tmp 67)⟩,⟨false,some (68,false),some 69,0,.fieldAddr 67 (.tmp 15) 2⟩,⟨false,some (68,false),some 70,3,.load 3 (.tmp 69)⟩,⟨false,some (68,false),some 71,0,.fieldAddr 26 (.tmp 2) 1⟩,⟨false,some (68,false),some 72,23,.load 23 (.tmp 71)⟩,⟨false,some (68,false),some 73,3,.call ⟨.builtin .len,#[.tmp 72],#[23]⟩⟩,⟨false,some (68,false),some 74,3,.binOp .sub 3 (.tmp 73) (.const (.int .i64 1)) 3⟩,⟨false,some (68,false),some 75,4,.call ⟨.value (.func 38),#[.tmp 70,.const (.int .i64 0),.tmp 74],#[3,3,3]⟩⟩,⟨false,some (68,false),some 76,4,.unOp .not 4 (.tmp 75)⟩,⟨false,none,some 77,4,.pick (.tmp 68) (.const (.bool true)) (.tmp 76)⟩,⟨false,none,some 78,4,.move (.tmp 77)⟩,⟨false,some (78,false),some 79,0,.fieldAddr 67 (.tmp 15) 4⟩,⟨false,some (78,false),some 80,3,.load 3 (.tmp 79)⟩,⟨false,some (78,false),some 81,4,.call ⟨.value (.func 38),#[.tmp 80,.const (.int .i64 1),.const (.int .i64 1000)],#[3,3,3]⟩⟩,⟨false,some (78,false),some 82,4,.unOp .not 4 (.tmp 81)⟩,⟨false,none,some 83,4,.pick (.tmp 78) (.const (.bool true)) (.tmp 82)⟩]) (.cond (.tmp 83) (.seq (.ops [⟨false,none,some 4,3,.assign (.const (.int .i64 0))⟩,⟨false,none,some 5,42,.assign (.const (.slice none 0 0))⟩,⟨false,none,some 6,27,.assign (.const (.slice none 0 0))⟩,⟨false,none,some 7,4,.assign (.const (.bool false))⟩]) (.ret)) (.skip))) (.seq (.seq (.ops [⟨true,none,some 84,0,.fieldAddr 26 (.tmp 2) 1⟩]) (.seq (.ops [⟨true,none,some 85,23,.load 23 (.tmp 84)⟩]) (.seq (.ops [⟨true,none,some 86,0,.fieldAddr 67 (.tmp 15) 2⟩]) (.seq (.ops [⟨true,none,some 87,3,.load 3 (.tmp 86)⟩]) (.seq (.ops [⟨true,none,some 88,0,.indexAddr 23 (.tmp 85) (.tmp 87)⟩]) (.seq (.ops [⟨true,none,some 89,77,.load 77 (.tmp 88)⟩]) (.seq (.ops [⟨true,none,some 90,0,.fieldAddr 26 (.tmp 2) 0⟩]) (.seq (.ops [⟨true,none,some 91,22,.load 22 (.tmp 90)⟩]) (.seq (.ops [⟨true,none,some 92,0,.fieldAddr 67 (.tmp 15) 3⟩]) (.seq (.ops [⟨true,none,some 93,3,.load 3 (.tmp 92)⟩]) (.seq (.ops [⟨true,none,some 94,0,.indexAddr 22 (.tmp 91) (.tmp 93)⟩]) (.seq (.ops [⟨true,none,some 95,65,.load 65 (.tmp 94)⟩]) (.seq (.ops [⟨true,none,some 16,0,.alloc 77⟩]) (.seq (.ops [⟨true,none,some 17,0,.alloc 65⟩]) (.seq (.chk [⟨true,none,some 95,65,.load 65 (.tmp 94)⟩,⟨true,none,some 93,3,.load 3 (.tmp 92)⟩,⟨true,none,some 91,22,.load 22 (.tmp 90)⟩,⟨true,none,some 89,77,.load 77 (.tmp 88)⟩,⟨true,none,some 87,3,.load 3 (.tmp 86)⟩,⟨true,none,some 85,23,.load 23 (.tmp 84)⟩]) (.seq (.ops [⟨false,none,none,0,.store 77 (.tmp 16) (.tmp 89)⟩]) (.seq (.chk [⟨true,none,some 95,65,.load 65 (.tmp 94)⟩,⟨true,none,some 93,3,.load 3 (.tmp 92)⟩,⟨true,none,some 91,22,.load 22 (.tmp 90)⟩]) (.seq (.ops [⟨false,none,none,0,.store 65 (.tmp 17) (.tmp 95)⟩]) (.chk []))))))))))))))))))) (.seq (.seq (.ops [⟨false,none,some 96,0,.fieldAddr 77 (.tmp 16) 0⟩,⟨false,none,some 97,3,.load 3 (.tmp 96)⟩,⟨false,none,some 98,0,.fieldAddr 67 (.tmp 15) 3⟩,⟨false,none,some 99,3,.load 3 (.tmp 98)⟩,⟨false,none,some 100,4,.call ⟨.value (.func 70),#[.tmp 97,.tmp 99],#[3,3]⟩⟩,⟨false,none,some 101,4,.unOp .not 4 (.tmp 100)⟩,⟨false,none,some 102,4,.move (.tmp 101)⟩,⟨false,some (102,false),some 103,0,.fieldAddr 67 (.tmp 15) 1⟩,⟨false,some (102,false),some 104,3,.load 3 (.tmp 103)⟩,⟨false,some (102,false),some 105,0,.fieldAddr 77 (.tmp 16) 1⟩,⟨false,some (102,false),some 106,3,.load 3 (.tmp 105)⟩,⟨false,some (102,false),some 107,0,.fieldAddr 65 (.tmp 17) 0⟩,⟨false,some (102,false),some 108,3,.load 3 (.tmp 107)⟩,⟨false,some (102,false),some 109,3,.call ⟨.builtin .max,#[.tmp 106,.tmp 108],#[3,3]⟩⟩,⟨false,some (102,false),some 110,0,.fieldAddr 77 (.tmp 16) 2⟩,⟨false,some (102,false),some 111,3,.load 3 (.tmp 110)⟩,⟨false,some (102,false),some 112,0,.fieldAddr 65 (.tmp 17) 1⟩,⟨false,some (102,false),some 113,3,.load 3 (.tmp 112)⟩,⟨false,some (102,false),some 114,3,.call ⟨.builtin .min,#[.tmp 111,.tmp 113],#[3,3]⟩⟩,⟨false,some (102,false),some 115,4,.call ⟨.value (.func 38),#[.tmp 104,.tmp 109,.tmp 114],#[3,3,3]⟩⟩,⟨false,some (102,false),some 116,4,.unOp .not 4 (.tmp 115)⟩,⟨false,none,some 117,4,.pick (.tmp 102) (.const (.bool true)) (.tmp 116)⟩]) (.cond (.tmp 117) (.seq (.ops [⟨false,none,some 4,3,.assign (.const (.int .i64 0))⟩,⟨false,none,some 5,42,.assign (.const (.slice none 0 0))⟩,⟨false,none,some 6,27,.assign (.const (.slice none 0 0))⟩,⟨false,none,some 7,4,.assign (.const (.bool false))⟩]) (.ret)) (.skip))) (.seq (.ops [⟨false,none,some 118,27,.move (.tmp 10)⟩,⟨false,none,some 119,0,.fieldAddr 67 (.tmp 15) 0⟩,⟨false,none,some 120,3,.load 3 (.tmp 119)⟩,⟨false,none,some 121,0,.indexAddr 27 (.tmp 118) (.tmp 120)⟩,⟨false,none,some 122,42,.load 42 (.tmp 121)⟩,⟨false,none,some 18,42,.assign (.tmp 122)⟩]) (.seq (.seq (.ops [⟨true,none,some 123,120,.move (.tmp 11)⟩]) (.seq (.ops [⟨true,none,some 124,0,.fieldAddr 67 (.tmp 15) 0⟩]) (.seq (.ops [⟨true,none,some 125,3,.load 3 (.tmp 124)⟩]) (.seq (.ops [⟨true,none,some 126,0,.fieldAddr 67 (.tmp 15) 1⟩]) (.seq (.ops [⟨true,none,some 127,3,.load 3 (.tmp 126)⟩]) (.seq (.ops [⟨true,none,some 128,0,.fieldAddr 67 (.tmp 15) 2⟩]) (.seq (.ops [⟨true,none,some 129,3,.load 3 (.tmp 128)⟩]) (.seq (.ops [⟨true,none,some 130,122,.build 122 #[(0,.tmp 125),(1,.tmp 127),(2,.tmp 129)]⟩]) (.seq (.ops [⟨true,none,some 131,3,.lookup 120 (.tmp 123) (.tmp 130) false⟩]) (.seq (.ops [⟨true,none,some 132,0,.fieldAddr 67 (.tmp 15) 4⟩]) (.seq (.ops [⟨true,none,some 133,3,.load 3 (.tmp 132)⟩]) (.seq (.ops [⟨true,none,some 134,3,.binOp .add 3 (.tmp 131) (.tmp 133) 3⟩]) (.seq (.ops [⟨false,none,some 135,0,.mapEntry 120 (.tmp 123) (.tmp 130)⟩]) (.seq (.ops [⟨true,none,some 136,3,.extract (.tmp 135) 1⟩]) (.seq (.chk [⟨true,none,some 131,3,.lookup 120 (.tmp 123) (.tmp 130) false⟩]) (.seq (.ops [⟨false,none,none,0,.entryStore 120 (.tmp 123) (.tmp 136) (.tmp 134)⟩]) (.chk []))))))))))))))))) (.seq (.seq (.ops [⟨true,none,some 137,121,.move (.tmp 12)⟩]) (.seq (.ops [⟨true,none,some 138,0,.fieldAddr 67 (.tmp 15) 0⟩]) (.seq (.ops [⟨true,none,some 139,3,.load 3 (.tmp 138)⟩]) (.seq (.ops [⟨true,none,some 140,0,.fieldAddr 67 (.tmp 15) 2⟩]) (.seq (.ops [⟨true,none,some 141,3,.load 3 (.tmp 140)⟩]) (.seq (.ops [⟨true,none,some 142,123,.build 123 #[(0,.tmp 139),(1,.tmp 141)]⟩]) (.seq (.ops [⟨true,none,some 143,3,.lookup 121 (.tmp 137) (.tmp 142) false⟩]) (.seq (.ops [⟨true,none,some 144,0,.fieldAddr 67 (.tmp 15) 4⟩]) (.seq (.ops [⟨true,none,some 145,3,.load 3 (.tmp 144)⟩]) (.seq (.ops [⟨true,none,some 146,3,.binOp .add 3 (.tmp 143) (.tmp 145) 3⟩]) (.seq (.ops [⟨false,none,some 147,0,.mapEntry 121 (.tmp 137) (.tmp 142)⟩]) (.seq (.ops [⟨true,none,some 148,3,.extract (.tmp 147) 1⟩]) (.seq (.chk [⟨true,none,some 143,3,.lookup 121 (.tmp 137) (.tmp 142) false⟩]) (.seq (.ops [⟨false,none,none,0,.entryStore 121 (.tmp 137) (.tmp 148) (.tmp 146)⟩]) (.chk []))))))))))))))) (.seq (.ops [⟨false,none,some 149,3,.move (.tmp 8)⟩,⟨false,none,some 150,0,.fieldAddr 67 (.tmp 15) 4⟩,⟨false,none,some 151,3,.load 3 (.tmp 150)⟩,⟨false,none,some 152,3,.binOp .add 3 (.tmp 149) (.tmp 151) 3⟩,⟨false,none,some 8,3,.assign (.tmp 152)⟩]) (.seq (.ops [⟨true,none,some 153,42,.move (.tmp 9)⟩,⟨true,none,some 154,0,.fieldAddr 67 (.tmp 15) 3⟩,⟨true,none,some 155,3,.load 3 (.tmp 154)⟩,⟨true,none,some 156,0,.indexAddr 42 (.tmp 153) (.tmp 155)⟩,⟨true,none,some 157,3,.load 3 (.tmp 156)⟩,⟨true,none,some 158,0,.fieldAddr 67 (.tmp 15) 4⟩,⟨true,none,some 159,3,.load 3 (.tmp 158)⟩,⟨true,none,some 160,3,.binOp .add 3 (.tmp 157) (.tmp 159) 3⟩,⟨true,none,some 161,0,.indexAddr 42 (.tmp 153) (.tmp 155)⟩,⟨false,none,none,0,.store 3 (.tmp 161) (.tmp 160)⟩]) (.seq (.ops [⟨true,none,some 162,42,.move (.tmp 18)⟩,⟨true,none,some 163,0,.fieldAddr 67 (.tmp 15) 3⟩,⟨true,none,some 164,3,.load 3 (.tmp 163)⟩,⟨true,none,some 165,0,.indexAddr 42 (.tmp 162) (.tmp 164)⟩,⟨true,none,some 166,3,.load 3 (.tmp 165)⟩,⟨true,none,some 167,0,.fieldAddr 67 (.tmp 15) 4⟩,⟨true,none,some 168,3,.load 3 (.tmp 167)⟩,⟨true,none,some 169,3,.binOp .add 3 (.tmp 166) (.tmp 168) 3⟩,⟨true,none,some 170,0,.indexAddr 42 (.tmp 162) (.tmp 164)⟩,⟨false,none,none,0,.store 3 (.tmp 170) (.tmp 169)⟩]) (.seq (.ops [⟨true,none,some 171,120,.move (.tmp 11)⟩,⟨true,none,some 172,0,.fieldAddr 67 (.tmp 15) 0⟩,⟨true,none,some 173,3,.load 3 (.tmp 172)⟩,⟨true,none,some 174,0,.fieldAddr 67 (.tmp 15) 1⟩,⟨true,none,some 175,3,.load 3 (.tmp 174)⟩,⟨true,none,some 176,0,.fieldAddr 67 (.tmp 15) 2⟩,⟨true,none,some 177,3,.load 3 (.tmp 176)⟩,⟨true,none,some 178,122,.build 122 #[(0,.tmp 173),(1,.tmp 175),(2,.tmp 177)]⟩,⟨true,none,some 179,3,.lookup 120 (.tmp 171) (.tmp 178) false⟩,⟨true,none,some 180,0,.fieldAddr 77 (.tmp 16) 3⟩,⟨true,none,some 181,3,.load 3 (.tmp 180)⟩,⟨true,none,some 182,4,.binOp .gtr 3 (.tmp 179) (.tmp 181) 3⟩,⟨true,none,some 183,4,.move (.tmp 182)⟩,⟨true,some (183,false),some 184,121,.move (.tmp 12)⟩,⟨true,some (183,false),some 185,0,.fieldAddr 67 (.tmp 15) 0⟩,⟨true,some (183,false),some 186,3,.load 3 (.tmp 185)⟩,⟨true,some (183,false),some 187,0,.fieldAddr 67 (.tmp 15) 2⟩,⟨true,some (183,false),some 188,3,.load 3 (.tmp 187)⟩,⟨true,some (183,false),some 189,123,.build 123 #[(0,.tmp 186),(1,.tmp 188)]⟩,⟨true,some (183,false),some 190,3,.lookup 121 (.tmp 184) (.tmp 189) false⟩,⟨true,some (183,false),some 191,0,.fieldAddr 77 (.tmp 16) 4⟩,⟨true,some (183,false),some 192,3,.load 3 (.tmp 191)⟩,⟨true,some (183,false),some 193,4,.binOp .gtr 3 (.tmp 190) (.tmp 192) 3⟩,⟨true,none,some 194,4,.pick (.tmp 183) (.const (.bool true)) (.tmp 193)⟩]) (.cond (.tmp 194) (.seq (.ops [⟨false,none,some 4,3,.assign (.const (.int .i64 0))⟩,⟨false,none,some 5,42,.assign (.const (.slice none 0 0))⟩,⟨false,none,some 6,27,.assign (.const (.slice none 0 0))⟩,⟨false,none,some 7,4,.assign (.const (.bool false))⟩]) (.ret)) (.skip)))))))))))))) (.ops [⟨false,none,some 46,3,.move (.tmp 14)⟩,⟨false,none,some 47,3,.binOp .add 3 (.tmp 46) (.const (.int .i64 1)) 3⟩,⟨false,none,some 14,3,.assign (.tmp 47)⟩]))
noncomputable def mc36:MC:=.seq (.ops [⟨false,none,some 2,0,.box 26 (.tmp 0)⟩,⟨false,none,some 4,3,.assign (.const (.int .i64 0))⟩,⟨false,none,some 5,42,.assign (.const (.slice none 0 0))⟩,⟨false,none,some 6,27,.assign (.const (.slice none 0 0))⟩,⟨false,none,some 7,4,.assign (.const (.bool false))⟩]) (.seq (.seq (.ops [⟨true,none,some 19,0,.fieldAddr 26 (.tmp 2) 0⟩]) (.seq (.ops [⟨true,none,some 20,22,.load 22 (.tmp 19)⟩]) (.seq (.ops [⟨true,none,some 21,3,.call ⟨.builtin .len,#[.tmp 20],#[22]⟩⟩]) (.seq (.ops [⟨true,none,some 22,42,.makeSlice 42 (.tmp 21) (.tmp 21)⟩]) (.seq (.ops [⟨true,none,some 23,0,.fieldAddr 26 (.tmp 2) 2⟩]) (.seq (.ops [⟨true,none,some 24,24,.load 24 (.tmp 23)⟩]) (.seq (.ops [⟨true,none,some 25,3,.call ⟨.builtin .len,#[.tmp 24],#[24]⟩⟩]) (.seq (.ops [⟨true,none,some 26,27,.makeSlice 27 (.tmp 25) (.tmp 25)⟩]) (.seq (.ops [⟨true,none,some 8,3,.assign (.const (.int .i64 0))⟩]) (.seq (.ops [⟨true,none,some 9,42,.assign (.tmp 22)⟩]) (.seq (.ops [⟨true,none,some 10,27,.assign (.tmp 26)⟩]) (.chk [⟨true,none,some 25,3,.call ⟨.builtin .len,#[.tmp 24],#[24]⟩⟩,⟨true,none,some 24,24,.load 24 (.tmp 23)⟩,⟨true,none,some 21,3,.call ⟨.builtin .len,#[.tmp 20],#[22]⟩⟩,⟨true,none,some 20,22,.load 22 (.tmp 19)⟩])))))))))))) (.seq (.ops [⟨false,none,some 27,120,.makeMap 120 none⟩,⟨false,none,some 28,121,.makeMap 121 none⟩,⟨false,none,some 11,120,.assign (.tmp 27)⟩,⟨false,none,some 12,121,.assign (.tmp 28)⟩]) (.seq (.seq (.ops [⟨false,none,some 13,3,.assign (.const (.int .i64 0))⟩]) (.block 0 (.loop mc36_l0))) (.seq (.seq (.ops [⟨false,none,some 14,3,.assign (.const (.int .i64 0))⟩]) (.block 2 (.loop mc36_l1))) (.seq (.ops [⟨false,none,some 195,3,.move (.tmp 8)⟩,⟨false,none,some 196,42,.move (.tmp 9)⟩,⟨false,none,some 197,27,.move (.tmp 10)⟩,⟨false,none,some 4,3,.assign (.tmp 195)⟩,⟨false,none,some 5,42,.assign (.tmp 196)⟩,⟨false,none,some 6,27,.assign (.tmp 197)⟩,⟨false,none,some 7,4,.assign (.const (.bool true))⟩]) (.ret))))))
theorem text36:textF Try.prog 36=some (198,[.tmp 4,.tmp 5,.tmp 6,.tmp 7],mc36):=by kernel_rfl
noncomputable def mc39:MC:=.seq (.ops [⟨false,none,some 4,3,.assign (.const (.int .i64 0))⟩]) (.seq (.seq (.ops [⟨false,none,some 5,3,.move (.tmp 1)⟩,⟨false,none,some 6,4,.binOp .lss 3 (.tmp 5) (.const (.int .i64 1)) 3⟩]) (.cond (.tmp 6) (.seq (.ops [⟨false,none,some 4,3,.assign (.const (.int .i64 0))⟩]) (.ret)) (.skip))) (.seq (.ops [⟨false,none,some 7,3,.move (.tmp 0)⟩,⟨false,none,some 8,3,.move (.tmp 1)⟩,⟨false,none,some 9,3,.binOp .rem 3 (.tmp 7) (.tmp 8) 3⟩,⟨false,none,some 10,3,.move (.tmp 1)⟩,⟨false,none,some 11,3,.binOp .add 3 (.tmp 9) (.tmp 10) 3⟩,⟨false,none,some 12,3,.move (.tmp 1)⟩,⟨false,none,some 13,3,.binOp .rem 3 (.tmp 11) (.tmp 12) 3⟩,⟨false,none,some 4,3,.assign (.tmp 13)⟩]) (.ret)))
theorem text39:textF Try.prog 39=some (14,[.tmp 4],mc39):=by kernel_rfl
noncomputable def mc68:MC:=.seq (.ops [⟨false,none,some 6,3,.assign (.const (.int .i64 0))⟩]) (.seq (.ops [⟨false,none,some 7,3,.move (.tmp 0)⟩,⟨false,none,some 8,3,.move (.tmp 2)⟩,⟨false,none,some 9,3,.move (.tmp 1)⟩,⟨false,none,some 10,3,.move (.tmp 0)⟩,⟨false,none,some 11,3,.binOp .sub 3 (.tmp 9) (.tmp 10) 3⟩,⟨false,none,some 12,3,.binOp .add 3 (.tmp 11) (.const (.int .i64 1)) 3⟩,⟨false,none,some 13,3,.call ⟨.value (.func 39),#[.tmp 8,.tmp 12],#[3,3]⟩⟩,⟨false,none,some 14,3,.binOp .add 3 (.tmp 7) (.tmp 13) 3⟩,⟨false,none,some 6,3,.assign (.tmp 14)⟩]) (.ret))
theorem text68:textF Try.prog 68=some (15,[.tmp 6],mc68):=by kernel_rfl
noncomputable def mc69:MC:=.seq (.ops [⟨false,none,some 4,3,.assign (.const (.int .i64 0))⟩]) (.seq (.seq (.ops [⟨false,none,some 5,42,.move (.tmp 0)⟩,⟨false,none,some 6,3,.call ⟨.builtin .len,#[.tmp 5],#[42]⟩⟩,⟨false,none,some 7,4,.binOp .eql 3 (.tmp 6) (.const (.int .i64 0)) 3⟩]) (.cond (.tmp 7) (.seq (.ops [⟨false,none,some 4,3,.assign (.const (.int .i64 0))⟩]) (.ret)) (.skip))) (.seq (.ops [⟨false,none,some 8,42,.move (.tmp 0)⟩,⟨false,none,some 9,3,.move (.tmp 1)⟩,⟨false,none,some 10,42,.move (.tmp 0)⟩,⟨false,none,some 11,3,.call ⟨.builtin .len,#[.tmp 10],#[42]⟩⟩,⟨false,none,some 12,3,.call ⟨.value (.func 39),#[.tmp 9,.tmp 11],#[3,3]⟩⟩,⟨false,none,some 13,0,.indexAddr 42 (.tmp 8) (.tmp 12)⟩,⟨false,none,some 14,3,.load 3 (.tmp 13)⟩,⟨false,none,some 4,3,.assign (.tmp 14)⟩]) (.ret)))
theorem text69:textF Try.prog 69=some (15,[.tmp 4],mc69):=by kernel_rfl
@[simp] theorem cf34 (w:AW) (l:List Value):callFn Try.prog w 34 l=.enter 34 l w:=callFn_enter text34 l
@[simp] theorem cf35 (w:AW) (l:List Value):callFn Try.prog w 35 l=.enter 35 l w:=callFn_enter text35 l
@[simp] theorem cf36 (w:AW) (l:List Value):callFn Try.prog w 36 l=.enter 36 l w:=callFn_enter text36 l
@[simp] theorem cf69 (w:AW) (l:List Value):callFn Try.prog w 69 l=.enter 69 l w:=callFn_enter text69 l
@[simp] theorem cf68 (w:AW) (l:List Value):callFn Try.prog w 68 l=.enter 68 l w:=callFn_enter text68 l
@[simp] theorem cf39 (w:AW) (l:List Value):callFn Try.prog w 39 l=.enter 39 l w:=callFn_enter text39 l
end Go.Proofs.Ytiokkkjahkhbfaa.walk
namespace Go.Sh
open Go
variable {P:Program}
structure PSpec where
 R:List Value→AW→Value→Prop
 uniq:∀ {args w v v'},R args w v→R args w v'→v=v'
 shut:∀ {args w v},R args w v→R args (shutA w) v
open Classical in
noncomputable def PSpec.F (S:PSpec):PureF:=fun args w=>if h:∃ v,S.R args w v then some h.choose else none
theorem PSpec.F_eq (S:PSpec) {args:List Value} {w:AW} {v:Value} (h:S.R args w v):S.F args w=some v:=by
 have hx:∃ v,S.R args w v:=⟨v,h⟩
 unfold PSpec.F
 rw [dif_pos hx]
 exact congrArg some (S.uniq hx.choose_spec h)
theorem PSpec.of_F (S:PSpec) {args:List Value} {w:AW} {v:Value} (h:S.F args w=some v):S.R args w v:=by
 unfold PSpec.F at h
 by_cases hx:∃ v,S.R args w v
 ·rw [dif_pos hx] at h
  cases h
  exact hx.choose_spec
 ·rw [dif_neg hx] at h; cases h
theorem PSpec.call (S:PSpec) {ov:Ov} {f:FuncId} (k:HasP ov f S.F) {m:Nat} {args:List Value} {w:AW} {v:Value} (h:S.R args w v):(run P ov (m + 1)).call f args w .none=.ok (.ret v) w .none:=k.call (S.F_eq h)
theorem PSpec.call1 (S:PSpec) {ov:Ov} {f:FuncId} (k:HasP ov f S.F) {args:List Value} {w:AW} {v:Value} (h:S.R args w v):(run P ov 1).call f args w .none=.ok (.ret v) w .none:=k.call (m:=0) (S.F_eq h)
theorem PSpec.ok (S:PSpec) (hP:NoCount P) (hm:P.follows .mixedOrders=true) {rest:Ov} (hO:OvOk P rest) {f:FuncId}
  (fact:∀ args w v,w.lim=w.next→S.R args w v→groundC 3 v=true∧∃ m v' w' x',(run P rest m).call f args w .none=.ok (.ret v') w' x'∧v'=v):OvOk P (ovP f S.F rest) :=
 pure_ok hP hm hO (fun args w v h=>S.F_eq (S.shut (S.of_F h))) fun args w v hl h=>by
  obtain ⟨h1,m,v',w',x',h2,rfl⟩:=fact args w v hl (S.of_F h)
  exact ⟨h1,m,w',x',h2⟩
structure Up (we w:AW):Prop where
 old:Old we.next we.heap w.heap
 next:we.next≤w.next
 lim:w.lim=we.lim
theorem Up.refl (w:AW):Up w w:=⟨Old.refl _ _,Nat.le_refl _,rfl⟩
theorem Up.trans {a b c:AW} (h:Up a b) (k:Up b c):Up a c:=⟨h.old.trans k.old h.next,Nat.le_trans h.next k.next,k.lim.trans h.lim⟩
theorem Up.put {we:AW} {H:T AObj} {n n' l k:Nat} {o:Option AObj} (h:Up we ⟨H,n,l⟩) (hk:we.next≤k) (hn:n≤n'):Up we ⟨H.put k o,n',l⟩:=⟨h.old.put hk,Nat.le_trans h.next hn,h.lim⟩
theorem Up.add {we w:AW} (h:Up we w) (o:Option AObj):Up we ⟨w.heap.put w.next o,w.next + 1,w.lim⟩:=⟨h.old.put h.next,Nat.le_trans h.next (Nat.le_succ _),h.lim⟩
theorem Up.at {we w:AW} (h:Up we w) {b:Nat} (hb:b < we.next):w.heap.get b=we.heap.get b:=h.old b hb
theorem RowsV.up {α:Type} {f:α→List Value} {we w:AW} {v:Value} {l:List α} (h:RowsV f we v l) (k:Up we w):RowsV f w v l:=h.old k.old k.next
def shV (a b:Int):Int:=a.fdiv (2 ^ (min b.toNat IntKind.i64.bits))
def anV (a b:Int):Int:=wrapA .i64 (BitVec.ofInt IntKind.i64.bits a &&& BitVec.ofInt IntKind.i64.bits b).toNat
def bitB (x k:Int):Bool:=decide (anV (shV x k) 1=1)
variable {w:AW}
theorem bin_shr (s:TypeId) (c:Bool) (a b:Int) (h:0≤b):(binW P .shr s c).val (.int .i64 a) (.int .i64 b) w=.val (.int .i64 (shV a b)) w:=by
 show vR w (shiftV shrA (.int .i64 a) (.int .i64 b))=_
 have:¬ b < 0:=by omega
 simp [shiftV,shrA,vR,intLt_eq,this,shV]
@[simp] theorem bin_and (s:TypeId) (c:Bool) (a b:Int):(binW P .and s c).val (.int .i64 a) (.int .i64 b) w=.val (.int .i64 (anV a b)) w:=by
 show vR w (arithA andA (.int .i64 a) (.int .i64 b))=_
 simp [arithA,andA,sameK_refl,vR,anV]
end Go.Sh
namespace Go.Sh
structure HVn where
 fr:Int
 to:Int
 be:Int
structure HHd where
 vs:Int
 fr:Int
 to:Int
 ra:Int
 da:Int
structure HJb where
 mo:Int
 ho:Int
 ha:Int
 vi:Int
 ma:Int
def ltJ (a b:HJb):Bool:=decide (a.mo < b.mo) || (decide (a.mo=b.mo) && (decide (a.ho < b.ho) || (decide (a.ho=b.ho) && (decide (a.ha < b.ha) || (decide (a.ha=b.ha) && decide (a.vi < b.vi))))))
def dayS (p:List HJb) (m h:Int):Int:=(p.map fun j=>if j.mo=m∧j.ha=h then j.ma else 0).sum
def hrS (p:List HJb) (m h o:Int):Int:=(p.map fun j=>if j.mo=m∧j.ha=h∧j.ho=o then j.ma else 0).sum
theorem dayS_push (p:List HJb) (j:HJb) (m h:Int):dayS (p++[j]) m h=dayS p m h + if j.mo=m∧j.ha=h then j.ma else 0:=by simp [dayS]
theorem hrS_push (p:List HJb) (j:HJb) (m h o:Int):hrS (p++[j]) m h o=hrS p m h o + if j.mo=m∧j.ha=h∧j.ho=o then j.ma else 0:=by simp [hrS]
def canH (h:HHd) (v:HVn) (ho vi:Int):Bool:=bitB h.vs vi && (decide (h.fr≤ho) && (decide (ho≤h.to) && (decide (v.fr≤ho) && decide (ho≤v.to))))
def ordB (p:List HJb) (j:HJb):Bool:=match p.getLast? with
 | none=>true
 | some i=>ltJ i j
def jobB (nv nh M:Nat) (j:HJb):Bool:=decide (0≤j.mo∧j.mo < M∧0≤j.ha∧j.ha < nh∧0≤j.vi∧j.vi < nv)
def jstB (vs:List HVn) (hs:List HHd) (M:Nat) (p:List HJb) (j:HJb):Bool :=
 ordB p j && (jobB vs.length hs.length M j && match hs[j.ha.toNat]?,vs[j.vi.toNat]? with
  | some h,some v=>canH h v j.ho j.vi && (decide (1≤j.ma) && (decide (j.ma≤h.da - dayS p j.mo j.ha) && decide (j.ma≤h.ra - hrS p j.mo j.ha j.ho)))
  | _,_=>false)
def planG (vs:List HVn) (hs:List HHd) (M:Nat):List HJb→List HJb→Bool
 | _,[]=>true
 | p,j::l=>jstB vs hs M p j && planG vs hs M (p++[j]) l
def planB (vs:List HVn) (hs:List HHd) (M:Nat) (l:List HJb):Bool:=decide (l.length≤2048) && planG vs hs M [] l
structure UseOk (hs:List HHd) (p:List HJb):Prop where
 pos:∀ j ∈ p,1≤j.ma∧0≤j.ha
 day:∀ m h x,hs[h]?=some x→dayS p m (h:Nat)≤x.da
 hr:∀ m h o x,hs[h]?=some x→hrS p m (h:Nat) o≤x.ra
theorem sum_pos {l:List Int} (h:∀ x ∈ l,0≤x):0≤l.sum:=by
 induction l with
 | nil=>simp
 | cons a l ih =>
  rw [List.sum_cons]
  have:=h a (by simp)
  have:=ih fun x hx=>h x (by simp [hx])
  omega
theorem UseOk.dayPos {hs:List HHd} {p:List HJb} (h:UseOk hs p) (m x:Int):0≤dayS p m x:=by
 refine sum_pos fun y hy=>?_
 obtain ⟨j,hj,rfl⟩:=List.mem_map.1 hy
 have:=h.pos j hj
 split <;> omega
theorem UseOk.hrPos {hs:List HHd} {p:List HJb} (h:UseOk hs p) (m x o:Int):0≤hrS p m x o:=by
 refine sum_pos fun y hy=>?_
 obtain ⟨j,hj,rfl⟩:=List.mem_map.1 hy
 have:=h.pos j hj
 split <;> omega
theorem UseOk.nil {hs:List HHd} (h:∀ x ∈ hs,0≤x.da∧0≤x.ra):UseOk hs []:=⟨by simp,fun m i x hx=>by have:=h x (List.mem_of_getElem? hx); simp [dayS]; omega,fun m i o x hx=>by have:=h x (List.mem_of_getElem? hx); simp [hrS]; omega⟩
theorem step_parts {vs:List HVn} {hs:List HHd} {M:Nat} {p:List HJb} {j:HJb} (h:jstB vs hs M p j=true):ordB p j=true∧jobB vs.length hs.length M j=true∧∃ x v,hs[j.ha.toNat]?=some x∧vs[j.vi.toNat]?=some v∧canH x v j.ho j.vi=true∧1≤j.ma∧j.ma≤x.da - dayS p j.mo j.ha∧j.ma≤x.ra - hrS p j.mo j.ha j.ho:=by
 simp only [jstB,Bool.and_eq_true] at h
 obtain ⟨h1,h2,h3⟩:=h
 refine ⟨h1,h2,?_⟩
 cases hx:hs[j.ha.toNat]? with
 | none=>rw [hx] at h3; simp at h3
 | some x =>
  cases hv:vs[j.vi.toNat]? with
  | none=>rw [hx,hv] at h3; simp at h3
  | some v =>
   rw [hx,hv] at h3
   simp only [Bool.and_eq_true,decide_eq_true_eq] at h3
   exact ⟨x,v,rfl,rfl,h3.1,h3.2.1,h3.2.2.1,h3.2.2.2⟩
theorem UseOk.push {vs:List HVn} {hs:List HHd} {M:Nat} {p:List HJb} {j:HJb} (h:UseOk hs p) (hj:jstB vs hs M p j=true):UseOk hs (p++[j]):=by
 obtain ⟨_,h2,x,v,hx,hv,_,h1,hd,hr⟩:=step_parts hj
 simp only [jobB,decide_eq_true_eq] at h2
 refine ⟨fun k hk=>?_,fun m i y hy=>?_,fun m i o y hy=>?_⟩
 ·rcases List.mem_append.1 hk with hk | hk
  ·exact h.pos k hk
  ·rw [List.mem_singleton] at hk; subst hk; omega
 ·rw [dayS_push]
  have:=h.day m i y hy
  split
  ·rename_i e
   have e2:j.ha.toNat=i:=by omega
   rw [e2,hy] at hx
   cases hx
   rw [← e.1,← e.2]
   omega
  ·omega
 ·rw [hrS_push]
  have:=h.hr m i o y hy
  split
  ·rename_i e
   have e2:j.ha.toNat=i:=by omega
   rw [e2,hy] at hx
   cases hx
   rw [← e.1,← e.2.1,← e.2.2]
   omega
  ·omega
theorem planG_parts {vs:List HVn} {hs:List HHd} {M:Nat}:∀ {l p:List HJb},planG vs hs M p l=true→∀ j ∈ l,jobB vs.length hs.length M j=true∧1≤j.ma∧∃ x,hs[j.ha.toNat]?=some x∧∃ p,j.ma≤x.da - dayS p j.mo j.ha
 | [],_,_,_,h=>by simp at h
 | i::l,p,h,j,hj=>by
  simp only [planG,Bool.and_eq_true] at h
  rcases List.mem_cons.1 hj with rfl | hj
  ·obtain ⟨_,h2,x,v,hx,_,_,h1,hd,_⟩:=step_parts h.1
   exact ⟨h2,h1,x,hx,p,hd⟩
  ·exact planG_parts h.2 j hj
def g2 (G:List (List Int)) (m v:Int):Int:=(G.getD m.toNat []).getD v.toNat 0
def beV (vs:List HVn) (v:Int):Int:=(vs[v.toNat]?.map (·.be)).getD 0
def stN (vs:List HVn) (G:List (List Int)) (P:List Int) (j:HJb):Int:=min (min j.ma (g2 G j.mo j.vi)) (beV vs j.vi - P.getD j.vi.toNat 0)
def stG (G:List (List Int)) (j:HJb) (n:Int):List (List Int):=G.set j.mo.toNat ((G.getD j.mo.toNat []).set j.vi.toNat (g2 G j.mo j.vi - n))
def stP (P:List Int) (j:HJb) (n:Int):List Int:=P.set j.vi.toNat (P.getD j.vi.toNat 0 + n)
def plS (vs:List HVn):List (List Int)→List Int→List HJb→List (List Int) × List Int
 | G,P,[]=>(G,P)
 | G,P,j::l=>plS vs (stG G j (stN vs G P j)) (stP P j (stN vs G P j)) l
theorem sum_set:∀ (l:List Int) (i:Nat) (x:Int),i < l.length→(l.set i x).sum=l.sum - l.getD i 0 + x
 | [],_,_,h=>by simp at h
 | a::l,0,x,_=>by simp; omega
 | a::l,i + 1,x,h=>by
  have:=sum_set l i x (by simpa using h)
  simp only [List.set_cons_succ,List.sum_cons,List.getD_cons_succ,this]
  omega
theorem getD_set (l:List Int) (i k:Nat) (x:Int) (h:i < l.length):(l.set i x).getD k 0=if k=i then x else l.getD k 0:=by
 simp only [List.getD_eq_getElem?_getD,List.getElem?_set]
 by_cases e:i=k
 ·subst e; simp [h]
 ·simp [e,Ne.symm e]
theorem getD_setL (l:List (List Int)) (i k:Nat) (x:List Int) (h:i < l.length):(l.set i x).getD k []=if k=i then x else l.getD k []:=by
 simp only [List.getD_eq_getElem?_getD,List.getElem?_set]
 by_cases e:i=k
 ·subst e; simp [h]
 ·simp [e,Ne.symm e]
def sumG (G:List (List Int)):Int:=(G.map List.sum).sum
theorem sumG_set:∀ (G:List (List Int)) (i:Nat) (r:List Int),i < G.length→sumG (G.set i r)=sumG G - (G.getD i []).sum + r.sum
 | [],_,_,h=>by simp at h
 | a::l,0,x,_=>by simp [sumG]; omega
 | a::l,i + 1,x,h=>by
  have:=sumG_set l i x (by simpa using h)
  simp only [sumG,List.set_cons_succ,List.map_cons,List.sum_cons,List.getD_cons_succ] at this ⊢
  omega
structure GrOk (M V:Nat) (vs:List HVn) (G:List (List Int)) (P:List Int):Prop where
 nv:vs.length=V
 lenG:G.length=M
 lenR:∀ m,m < M→(G.getD m []).length=V
 lenP:P.length=V
 pos:∀ m v:Nat,m < M→v < V→0≤g2 G m v
 podP:∀ v:Nat,v < V→0≤P.getD v 0∧P.getD v 0≤beV vs v
theorem stN_le {vs:List HVn} {G:List (List Int)} {P:List Int} {j:HJb}:stN vs G P j≤j.ma∧stN vs G P j≤g2 G j.mo j.vi∧stN vs G P j≤beV vs j.vi - P.getD j.vi.toNat 0:=by
 unfold stN
 simp only [Int.min_def]
 split <;> split <;> omega
theorem stN_pos {M V:Nat} {vs:List HVn} {G:List (List Int)} {P:List Int} (h:GrOk M V vs G P) {j:HJb} {nh:Nat} (hj:jobB V nh M j=true) (h1:1≤j.ma):0≤stN vs G P j:=by
 simp only [jobB,decide_eq_true_eq] at hj
 have a:=h.pos j.mo.toNat j.vi.toNat (by omega) (by omega)
 have b:=h.podP j.vi.toNat (by omega)
 rw [show ((j.mo.toNat:Nat):Int)=j.mo by omega,show ((j.vi.toNat:Nat):Int)=j.vi by omega] at a
 rw [show ((j.vi.toNat:Nat):Int)=j.vi by omega] at b
 unfold stN
 simp only [Int.min_def]
 split <;> split <;> omega
theorem g2_st {M V:Nat} {vs:List HVn} {G:List (List Int)} {P:List Int} (h:GrOk M V vs G P) {j:HJb} {nh:Nat} (hj:jobB V nh M j=true) (n:Int) (m v:Nat):g2 (stG G j n) m v=if (m:Int)=j.mo∧(v:Int)=j.vi then g2 G m v - n else g2 G m v:=by
 simp only [jobB,decide_eq_true_eq] at hj
 have hl:=h.lenR j.mo.toNat (by omega)
 unfold stG
 rw [g2,getD_setL _ _ _ _ (by rw [h.lenG]; omega)]
 by_cases e:m=j.mo.toNat
 ·rw [if_pos (by simpa using e),getD_set _ _ _ _ (by omega)]
  by_cases e2:v=j.vi.toNat
  ·rw [if_pos (by simpa using e2),if_pos (by omega)]
   rw [show j.mo=(m:Int) by omega,show j.vi=(v:Int) by omega]
  ·rw [if_neg (by simpa using e2),if_neg (by omega),g2,← e]
   simp
 ·rw [if_neg (by simpa using e),if_neg (by omega),g2]
theorem pod_st {M V:Nat} {vs:List HVn} {G:List (List Int)} {P:List Int} (h:GrOk M V vs G P) {j:HJb} {nh:Nat} (hj:jobB V nh M j=true) (n:Int) (v:Nat):(stP P j n).getD v 0=if (v:Int)=j.vi then P.getD v 0 + n else P.getD v 0:=by
 simp only [jobB,decide_eq_true_eq] at hj
 unfold stP
 rw [getD_set _ _ _ _ (by rw [h.lenP]; omega)]
 by_cases e2:v=j.vi.toNat
 ·rw [if_pos (by simpa using e2),if_pos (by omega),← e2]
 ·rw [if_neg (by simpa using e2),if_neg (by omega)]
theorem GrOk.step {M V:Nat} {vs:List HVn} {G:List (List Int)} {P:List Int} (h:GrOk M V vs G P) {j:HJb} {nh:Nat} (hj:jobB V nh M j=true) (h1:1≤j.ma):GrOk M V vs (stG G j (stN vs G P j)) (stP P j (stN vs G P j)):=by
 have hp:=stN_pos h hj h1
 obtain ⟨l1,l2,l3⟩:=stN_le (vs:=vs) (G:=G) (P:=P) (j:=j)
 have hj':=hj
 simp only [jobB,decide_eq_true_eq] at hj'
 refine ⟨h.nv,by simp [stG,h.lenG],fun m hm=>?_,by simp [stP,h.lenP],fun m v hm hv=>?_,fun v hv=>?_⟩
 ·unfold stG
  rw [getD_setL _ _ _ _ (by rw [h.lenG]; omega)]
  split
  ·rw [List.length_set]; exact h.lenR _ (by omega)
  ·exact h.lenR m hm
 ·rw [g2_st h hj]
  have:=h.pos m v hm hv
  split
  ·rename_i e; rw [← e.1,← e.2] at l2; omega
  ·exact this
 ·rw [pod_st h hj]
  have:=h.podP v hv
  split
  ·rename_i e
   rw [← e] at l3
   simp only [Int.toNat_natCast] at l3
   omega
  ·exact this
theorem sumP_st {M V:Nat} {vs:List HVn} {G:List (List Int)} {P:List Int} (h:GrOk M V vs G P) {j:HJb} {nh:Nat} (hj:jobB V nh M j=true) (n:Int):(stP P j n).sum=P.sum + n:=by
 simp only [jobB,decide_eq_true_eq] at hj
 unfold stP
 rw [sum_set _ _ _ (by rw [h.lenP]; omega)]
 omega
theorem sumG_st {M V:Nat} {vs:List HVn} {G:List (List Int)} {P:List Int} (h:GrOk M V vs G P) {j:HJb} {nh:Nat} (hj:jobB V nh M j=true) (n:Int):sumG (stG G j n)=sumG G - n:=by
 simp only [jobB,decide_eq_true_eq] at hj
 unfold stG
 rw [sumG_set _ _ _ (by rw [h.lenG]; omega),sum_set _ _ _ (by rw [h.lenR _ (by omega)]; omega),g2]
 omega
theorem plS_ok {M V nh:Nat} {vs:List HVn}:∀ {l:List HJb} {G:List (List Int)} {P:List Int},GrOk M V vs G P→(∀ j ∈ l,jobB V nh M j=true∧1≤j.ma)→GrOk M V vs (plS vs G P l).1 (plS vs G P l).2∧(plS vs G P l).2.sum≤P.sum + (l.map (·.ma)).sum∧sumG (plS vs G P l).1 + (plS vs G P l).2.sum=sumG G + P.sum
 | [],_,_,h,_=>⟨h,by simp [plS],rfl⟩
 | j::l,G,P,h,hj=>by
  obtain ⟨j1,j2⟩:=hj j (by simp)
  obtain ⟨a,b,c⟩:=plS_ok (l:=l) (h.step j1 j2) fun k hk=>hj k (List.mem_cons_of_mem _ hk)
  rw [sumP_st h j1] at b c
  rw [sumG_st h j1] at c
  have:=(stN_le (vs:=vs) (G:=G) (P:=P) (j:=j)).1
  refine ⟨a,?_,?_⟩
  ·simp only [plS,List.map_cons,List.sum_cons]; omega
  ·simp only [plS]; omega
def hadF (p:List HJb) (m v:Int):Int:=(p.map fun j=>if j.mo=m∧j.vi=v then j.ma else 0).sum
def podF (p:List HJb) (v:Int):Int:=(p.map fun j=>if j.vi=v then j.ma else 0).sum
theorem hadF_push (p:List HJb) (j:HJb) (m v:Int):hadF (p++[j]) m v=hadF p m v + if j.mo=m∧j.vi=v then j.ma else 0:=by simp [hadF]
theorem podF_push (p:List HJb) (j:HJb) (v:Int):podF (p++[j]) v=podF p v + if j.vi=v then j.ma else 0:=by simp [podF]
def fitG (tr:List (List Int)) (vs:List HVn):List HJb→List HJb→Bool
 | _,[]=>true
 | p,j::l=>decide (hadF (p++[j]) j.mo j.vi≤g2 tr j.mo j.vi) && (decide (podF (p++[j]) j.vi≤beV vs j.vi) && fitG tr vs (p++[j]) l)
theorem fit_iff {M V nh:Nat} {vs:List HVn} {tr:List (List Int)}:∀ {l p:List HJb} {G:List (List Int)} {P:List Int},GrOk M V vs G P→(∀ j ∈ l,jobB V nh M j=true∧1≤j.ma)→(∀ m v:Nat,m < M→v < V→g2 G m v=g2 tr m v - hadF p m v)→(∀ v:Nat,v < V→P.getD v 0=podF p v) →
  fitG tr vs p l=decide ((plS vs G P l).2.sum=P.sum + (l.map (·.ma)).sum)
 | [],p,G,P,h,_,_,_=>by simp [fitG,plS]
 | j::l,p,G,P,h,hj,hG,hP=>by
  obtain ⟨j1,j2⟩:=hj j (by simp)
  have hs:=h.step j1 j2
  have hr:∀ k ∈ l,jobB V nh M k=true∧1≤k.ma:=fun k hk=>hj k (by simp [hk])
  have hb:=(plS_ok (nh:=nh) hs hr).2.1
  rw [sumP_st h j1] at hb
  have hj':=j1
  simp only [jobB,decide_eq_true_eq] at hj'
  have gG:=hG j.mo.toNat j.vi.toNat (by omega) (by omega)
  have gP:=hP j.vi.toNat (by omega)
  rw [show ((j.mo.toNat:Nat):Int)=j.mo by omega,show ((j.vi.toNat:Nat):Int)=j.vi by omega] at gG
  rw [show ((j.vi.toNat:Nat):Int)=j.vi by omega] at gP
  by_cases hf:hadF (p++[j]) j.mo j.vi≤g2 tr j.mo j.vi∧podF (p++[j]) j.vi≤beV vs j.vi
  ·have hn:stN vs G P j=j.ma:=by
    have h1:=hf.1
    have h2:=hf.2
    rw [hadF_push,if_pos ⟨rfl,rfl⟩] at h1
    rw [podF_push,if_pos rfl] at h2
    unfold stN
    simp only [Int.min_def]
    split <;> split <;> omega
   have ih:=fit_iff (nh:=nh) (l:=l) (p:=p++[j]) (tr:=tr) hs hr (fun m v hm hv=>by
    rw [g2_st h j1,hadF_push,hn,hG m v hm hv]
    by_cases e:(m:Int)=j.mo∧(v:Int)=j.vi
    ·rw [if_pos e,if_pos ⟨e.1.symm,e.2.symm⟩]; omega
    ·rw [if_neg e,if_neg (fun e'=>e ⟨e'.1.symm,e'.2.symm⟩)]; omega) (fun v hv=>by
    rw [pod_st h j1,podF_push,hn,hP v hv]
    by_cases e:(v:Int)=j.vi
    ·rw [if_pos e,if_pos e.symm]
    ·rw [if_neg e,if_neg (Ne.symm e)]; omega)
   simp only [fitG,plS]
   rw [ih]
   simp only [hf.1,hf.2,decide_true,Bool.true_and,List.map_cons,List.sum_cons,sumP_st h j1,hn,Int.add_assoc]
  ·have hn:stN vs G P j < j.ma:=by
    rw [hadF_push,if_pos ⟨rfl,rfl⟩,podF_push,if_pos rfl] at hf
    obtain ⟨l1,l2,l3⟩:=stN_le (vs:=vs) (G:=G) (P:=P) (j:=j)
    omega
   have e1:fitG tr vs p (j::l)=false:=by
    simp only [fitG]
    by_cases a:hadF (p++[j]) j.mo j.vi≤g2 tr j.mo j.vi
    ·have:¬ podF (p++[j]) j.vi≤beV vs j.vi:=fun b=>hf ⟨a,b⟩
     simp [this]
    ·simp [a]
   rw [e1]
   symm
   simp only [plS,List.map_cons,List.sum_cons,decide_eq_false_iff_not]
   omega
section
variable {α:Type} {lt:α→α→Prop}
structure Wk (lt:α→α→Prop):Prop where
 asym:∀ {x y},lt x y→¬ lt y x
 trans:∀ {x y z},¬ lt y x→¬ lt z y→¬ lt z x
theorem Wk.irr (h:Wk lt) (x:α):¬ lt x x:=fun k=>h.asym k k
def swp (L:List α) (i j:Nat) (x y:α):List α:=(L.set i y).set j x
theorem swp_at {L:List α} {i j:Nat} (hi:i < L.length) (hj:j < L.length) (x y:α) (k:Nat):(swp L i j x y)[k]?=if k=j then some x else if k=i then some y else L[k]?:=by
 unfold swp
 by_cases h1:k=j
 ·subst h1; rw [if_pos rfl,List.getElem?_set_self (by rw [List.length_set]; exact hj)]
 ·rw [if_neg h1,List.getElem?_set_ne (Ne.symm h1)]
  by_cases h2:k=i
  ·subst h2; rw [if_pos rfl,List.getElem?_set_self hi]
  ·rw [if_neg h2,List.getElem?_set_ne (Ne.symm h2)]
theorem at_lt {L:List α} {i:Nat} {x:α} (h:L[i]?=some x):i < L.length:=(List.getElem?_eq_some_iff.1 h).1
theorem at_get {L:List α} {i:Nat} (h:i < L.length):∃ x,L[i]?=some x:=⟨_,List.getElem?_eq_getElem h⟩
structure Mv (a b:Nat) (L L':List α):Prop where
 perm:L'.Perm L
 out:∀ k,k < a∨b≤k→L'[k]?=L[k]?
 fro:∀ k,a≤k→k < b→∃ j,a≤j∧j < b∧L'[k]?=L[j]?
theorem Mv.refl (a b:Nat) (L:List α):Mv a b L L:=⟨List.Perm.refl _,fun _ _=>rfl,fun k h1 h2=>⟨k,h1,h2,rfl⟩⟩
theorem Mv.len {a b:Nat} {L L':List α} (h:Mv a b L L'):L'.length=L.length:=h.perm.length_eq
theorem Mv.trans {a b:Nat} {L L' L'':List α} (h:Mv a b L L') (h':Mv a b L' L''):Mv a b L L'' :=
 ⟨h'.perm.trans h.perm,fun k hk=>(h'.out k hk).trans (h.out k hk),fun k h1 h2=>by
  obtain ⟨j,j1,j2,e⟩:=h'.fro k h1 h2
  obtain ⟨i,i1,i2,e'⟩:=h.fro j j1 j2
  exact ⟨i,i1,i2,e.trans e'⟩⟩
theorem Mv.widen {a b a' b':Nat} {L L':List α} (h:Mv a b L L') (ha:a'≤a) (hb:b≤b'):Mv a' b' L L' :=
 ⟨h.perm,fun k hk=>h.out k (by omega),fun k h1 h2=>by
  by_cases hk:a≤k∧k < b
  ·obtain ⟨j,j1,j2,e⟩:=h.fro k hk.1 hk.2
   exact ⟨j,by omega,by omega,e⟩
  ·exact ⟨k,h1,h2,h.out k (by omega)⟩⟩
def All (P:α→Prop) (L:List α) (a b:Nat):Prop:=∀ k x,a≤k→k < b→L[k]?=some x→P x
theorem All.mv {P:α→Prop} {L L':List α} {a b:Nat} (h:All P L a b) (m:Mv a b L L'):All P L' a b:=fun k x h1 h2 hx=>by
 obtain ⟨j,j1,j2,e⟩:=m.fro k h1 h2
 exact h j x j1 j2 (by rw [← e]; exact hx)
theorem All.out {P:α→Prop} {L L':List α} {a b c d:Nat} (h:All P L c d) (m:Mv a b L L') (hd:d≤a∨b≤c):All P L' c d:=fun k x h1 h2 hx=>h k x h1 h2 (by rw [← m.out k (by omega)]; exact hx)
theorem All.part {P:α→Prop} {L:List α} {a b c d:Nat} (h:All P L a b) (h1:a≤c) (h2:d≤b):All P L c d:=fun k x k1 k2 hx=>h k x (by omega) (by omega) hx
def Srt (lt:α→α→Prop) (L:List α) (a b:Nat):Prop:=∀ p q x y,a≤p→p < q→q < b→L[p]?=some x→L[q]?=some y→¬ lt y x
theorem Srt.one (L:List α) {a b:Nat} (h:b≤a + 1):Srt lt L a b:=fun p q _ _ h1 h2 h3=>by omega
theorem Srt.out {L L':List α} {a b c d:Nat} (h:Srt lt L c d) (m:Mv a b L L') (hd:d≤a∨b≤c):Srt lt L' c d:=fun p q x y h1 h2 h3 hx hy=>h p q x y h1 h2 h3 (by rw [← m.out p (by omega)]; exact hx) (by rw [← m.out q (by omega)]; exact hy)
theorem Srt.part {L:List α} {a b c d:Nat} (h:Srt lt L a b) (h1:a≤c) (h2:d≤b):Srt lt L c d:=fun p q x y k1 k2 k3 hx hy=>h p q x y (by omega) k2 (by omega) hx hy
theorem Srt.cons {lt:α→α→Prop} {L:List α} {k b:Nat} {p:α} (h:Srt lt L (k + 1) b) (hp:L[k]?=some p) (hg:All (fun z=>¬ lt z p) L (k + 1) b):Srt lt L k b:=fun i j x y h1 h2 h3 hx hy=>by
 by_cases hi:i=k
 ·subst hi; rw [hp] at hx; cases hx; exact hg j y (by omega) h3 hy
 ·exact h i j x y (by omega) h2 h3 hx hy
theorem Srt.step (w:Wk lt) {L:List α} {a b:Nat} (h:Srt lt L a b) (hn:∀ x y,a < b→L[b - 1]?=some x→L[b]?=some y→¬ lt y x) (hb:b≤L.length):Srt lt L a (b + 1):=fun p q x y h1 h2 h3 hx hy=>by
 by_cases hq:q < b
 ·exact h p q x y h1 h2 hq hx hy
 ·obtain rfl:q=b:=by omega
  obtain ⟨z,hz⟩:=at_get (L:=L) (i:=q - 1) (by omega)
  have k:=hn z y (by omega) hz hy
  by_cases hp:p=q - 1
  ·subst hp; rw [hx] at hz; cases hz; exact k
  ·exact w.trans (h p (q - 1) x z h1 (by omega) (by omega) hx hz) k
def InsX (lt:α→α→Prop) (L:List α) (a n j:Nat):Prop:=∀ p q x y,a≤p→p < q→q < n→q ≠ j→L[p]?=some x→L[q]?=some y→¬ lt y x
theorem InsX.start {L:List α} {a i:Nat} (h:Srt lt L a i):InsX lt L a (i + 1) i:=fun p q x y h1 h2 h3 h4=>h p q x y h1 h2 (by omega)
theorem InsX.step (w:Wk lt) {L:List α} {a n j:Nat} {x y:α} (h:InsX lt L a n j) (ha:a < j) (hy:L[j]?=some y) (hx:L[j - 1]?=some x) (hc:lt y x):InsX lt (swp L j (j - 1) y x) a n (j - 1):=fun p q u v h1 h2 h3 h4 hu hv=>by
 rw [swp_at (at_lt hy) (at_lt hx)] at hu hv
 rw [if_neg h4] at hv
 by_cases hq:q=j
 ·rw [if_pos hq] at hv
  cases hv
  by_cases hp:p=j - 1
  ·rw [if_pos hp] at hu; cases hu
   exact w.asym hc
  ·rw [if_neg hp,if_neg (by omega)] at hu
   exact h p (j - 1) u x h1 (by omega) (by omega) (by omega) hu hx
 ·rw [if_neg hq] at hv
  by_cases hp:p=j - 1
  ·rw [if_pos hp] at hu; cases hu
   exact h j q y v (by omega) (by omega) h3 hq hy hv
  ·rw [if_neg hp] at hu
   by_cases hp2:p=j
   ·rw [if_pos hp2] at hu; cases hu
    exact h (j - 1) q x v (by omega) (by omega) h3 hq hx hv
   ·rw [if_neg hp2] at hu
    exact h p q u v h1 h2 h3 hq hu hv
theorem InsX.stop (w:Wk lt) {L:List α} {a n j:Nat} (h:InsX lt L a n j) (hj:j < L.length) (hs:∀ x y,a < j→L[j - 1]?=some x→L[j]?=some y→¬ lt y x):Srt lt L a n:=fun p q x y h1 h2 h3 hx hy=>by
 by_cases hq:q=j
 ·subst hq
  obtain ⟨z,hz⟩:=at_get (L:=L) (i:=q - 1) (by omega)
  have k:=hs z y (by omega) hz hy
  by_cases hp:p=q - 1
  ·subst hp; rw [hx] at hz; cases hz; exact k
  ·exact w.trans (h p (q - 1) x z h1 (by omega) (by omega) (by omega) hx hz) k
 ·exact h p q x y h1 h2 h3 hq hx hy
def Hp (lt:α→α→Prop) (L:List α) (f lo hi r:Nat):Prop:=(∀ k c x y,lo≤k→k ≠ r→(c=2 * k + 1∨c=2 * k + 2)→c < hi→L[f + k]?=some x→L[f + c]?=some y→¬ lt x y) ∧
 (∀ k c x y,lo≤k→(r=2 * k + 1∨r=2 * k + 2)→(c=2 * r + 1∨c=2 * r + 2)→c < hi→L[f + k]?=some x→L[f + c]?=some y→¬ lt x y)
def Heap (lt:α→α→Prop) (L:List α) (f lo hi:Nat):Prop:=∀ k c x y,lo≤k→(c=2 * k + 1∨c=2 * k + 2)→c < hi→L[f + k]?=some x→L[f + c]?=some y→¬ lt x y
theorem Hp.start {L:List α} {f lo hi:Nat} (h:Heap lt L f (lo + 1) hi):Hp lt L f lo hi lo :=
 ⟨fun k c x y h1 h2 h3 h4 hx hy=>h k c x y (by omega) h3 h4 hx hy,fun k c x y h1 h2=>by omega⟩
theorem Hp.down (w:Wk lt) {L:List α} {f lo hi r c:Nat} {x y:α} (h:Hp lt L f lo hi r) (hl:lo≤r) (hx:L[f + r]?=some x) (hy:L[f + c]?=some y) (hc:c=2 * r + 1∨c=2 * r + 2) (hh:c < hi) (hlt:lt x y)
  (hg:∀ d z,(d=2 * r + 1∨d=2 * r + 2)→d < hi→L[f + d]?=some z→¬ lt y z):Hp lt (swp L (f + r) (f + c) x y) f lo hi c:=by
 refine ⟨fun k d u v h1 h2 h3 h4 hu hv=>?_,fun k d u v h1 h2 h3 h4 hu hv=>?_⟩
 ·rw [swp_at (at_lt hx) (at_lt hy)] at hu hv
  rw [if_neg (by omega)] at hu
  by_cases hk:k=r
  ·subst hk
   rw [if_pos rfl] at hu; cases hu
   by_cases hd:d=c
   ·subst hd; rw [if_pos rfl] at hv; cases hv
    exact w.asym hlt
   ·rw [if_neg (by omega),if_neg (by omega)] at hv
    exact hg d v h3 h4 hv
  ·rw [if_neg (by omega)] at hu
   rw [if_neg (by omega)] at hv
   by_cases hd:d=r
   ·subst hd
    rw [if_pos rfl] at hv; cases hv
    exact h.2 k c u y h1 h3 hc hh hu hy
   ·rw [if_neg (by omega)] at hv
    exact h.1 k d u v h1 hk h3 h4 hu hv
 ·rw [swp_at (at_lt hx) (at_lt hy)] at hu hv
  obtain rfl:k=r:=by omega
  rw [if_neg (by omega),if_pos rfl] at hu; cases hu
  rw [if_neg (by omega),if_neg (by omega)] at hv
  exact h.1 c d y v (by omega) (by omega) h3 h4 hy hv
theorem Hp.stop {L:List α} {f lo hi r:Nat} (h:Hp lt L f lo hi r) (hs:∀ d x z,(d=2 * r + 1∨d=2 * r + 2)→d < hi→L[f + r]?=some x→L[f + d]?=some z→¬ lt x z):Heap lt L f lo hi:=fun k c x y h1 h2 h3 hx hy=>by
 by_cases hk:k=r
 ·subst hk; exact hs c x y h2 h3 hx hy
 ·exact h.1 k c x y h1 hk h2 h3 hx hy
theorem Heap.top (w:Wk lt) {L:List α} {f hi:Nat} (h:Heap lt L f 0 hi) {x:α} (hx:L[f]?=some x) (hl:f + hi≤L.length):∀ k y,k < hi→L[f + k]?=some y→¬ lt x y:=by
 intro k
 induction k using Nat.strongRecOn with
 | ind k ih =>
  intro y hk hy
  by_cases h0:k=0
  ·subst h0; rw [Nat.add_zero,hx] at hy; cases hy; exact w.irr _
  ·obtain ⟨z,hz⟩:=at_get (L:=L) (i:=f + (k - 1) / 2) (by omega)
   have h1:=ih ((k - 1) / 2) (by omega) z (by omega) hz
   have h2:=h ((k - 1) / 2) k z y (by omega) (by omega) hk hz hy
   exact w.trans h2 h1
theorem Heap.take (w:Wk lt) {L:List α} {f i n:Nat} {x y:α} (h:Heap lt L f 0 (i + 1)) (hx:L[f]?=some x) (hy:L[f + i]?=some y) (hn:f + n≤L.length) (hi:i < n) (hs:Srt lt L (f + i + 1) (f + n)) (hg:∀ p q u v,f≤p→p≤f + i→f + i < q→q < f + n→L[p]?=some u→L[q]?=some v→¬ lt v u) :
  Heap lt (swp L f (f + i) x y) f 1 i∧Srt lt (swp L f (f + i) x y) (f + i) (f + n)∧(∀ p q u v,f≤p→p < f + i→f + i≤q→q < f + n→(swp L f (f + i) x y)[p]?=some u→(swp L f (f + i) x y)[q]?=some v→¬ lt v u):=by
 have e:=swp_at (at_lt hx) (at_lt hy) x y
 have htop:=h.top w hx (by omega)
 refine ⟨fun k c u v h1 h2 h3 hu hv=>?_,fun p q u v h1 h2 h3 hu hv=>?_,fun p q u v h1 h2 h3 h4 hu hv=>?_⟩
 ·rw [e,if_neg (by omega),if_neg (by omega)] at hu hv
  exact h k c u v (by omega) h2 (by omega) hu hv
 ·rw [e] at hu hv
  rw [if_neg (by omega),if_neg (by omega)] at hv
  by_cases hp:p=f + i
  ·rw [if_pos hp] at hu; cases hu
   exact hg f q x v (by omega) (by omega) (by omega) h3 hx hv
  ·rw [if_neg hp,if_neg (by omega)] at hu
   exact hs p q u v (by omega) h2 h3 hu hv
 ·rw [e] at hu hv
  rw [if_neg (by omega)] at hu
  have key:∀ k z,f≤k→k≤f + i→L[k]?=some z→¬ lt x z:=fun k z k1 k2 hz=>htop (k - f) z (by omega) (by rw [show f + (k - f)=k by omega]; exact hz)
  have hu':∃ k,f≤k∧k≤f + i∧L[k]?=some u:=by
   by_cases hp:p=f
   ·rw [if_pos hp] at hu; cases hu; exact ⟨f + i,by omega,by omega,hy⟩
   ·rw [if_neg hp] at hu; exact ⟨p,by omega,by omega,hu⟩
  obtain ⟨k,k1,k2,k3⟩:=hu'
  by_cases hq:q=f + i
  ·rw [if_pos hq] at hv; cases hv
   exact key k u k1 k2 k3
  ·rw [if_neg hq,if_neg (by omega)] at hv
   exact hg k q u v k1 k2 (by omega) h4 k3 hv
structure Pdq (lt:α→α→Prop) (a0 b0 a b:Nat) (L0 L:List α):Prop where
 mv:Mv a0 b0 L0 L
 a1:a0≤a
 ab:a≤b
 b1:b≤b0
 bl:b0≤L0.length
 out:∀ p q x y,a0≤p→p < q→q < b0→(p < a∨b≤q)→L[p]?=some x→L[q]?=some y→¬ lt y x
 low:∀ x,0 < a→L[a - 1]?=some x→All (fun z=>¬ lt z x) L a b
theorem Pdq.start {L:List α} {a b:Nat} (hab:a≤b) (hl:b≤L.length) (low:∀ x,0 < a→L[a - 1]?=some x→All (fun z=>¬ lt z x) L a b):Pdq lt a b a b L L :=
 ⟨Mv.refl _ _ _,Nat.le_refl _,hab,Nat.le_refl _,hl,fun p q x y h1 h2 h3 h4=>by omega,low⟩
theorem Pdq.move {a0 b0 a b:Nat} {L0 L L':List α} (h:Pdq lt a0 b0 a b L0 L) (m:Mv a b L L'):Pdq lt a0 b0 a b L0 L':=by
 have hl:∀ k,a≤k→k < b→∀ z,L'[k]?=some z→∃ j,a≤j∧j < b∧L[j]?=some z:=fun k h1 h2 z hz=>by
  obtain ⟨j,j1,j2,e⟩:=m.fro k h1 h2
  exact ⟨j,j1,j2,by rw [← e]; exact hz⟩
 refine ⟨h.mv.trans (m.widen h.a1 h.b1),h.a1,h.ab,h.b1,h.bl,fun p q x y h1 h2 h3 h4 hx hy=>?_,fun x h0 hx=>?_⟩
 ·by_cases hp:a≤p∧p < b
  ·obtain ⟨j,j1,j2,e⟩:=hl p hp.1 hp.2 x hx
   rw [m.out q (by omega)] at hy
   exact h.out j q x y (by have:=h.a1; omega) (by omega) h3 (by omega) e hy
  ·rw [m.out p (by omega)] at hx
   by_cases hq:a≤q∧q < b
   ·obtain ⟨j,j1,j2,e⟩:=hl q hq.1 hq.2 y hy
    exact h.out p j x y h1 (by omega) (by have:=h.b1; omega) (by omega) hx e
   ·rw [m.out q (by omega)] at hy
    exact h.out p q x y h1 h2 h3 (by omega) hx hy
 ·rw [m.out (a - 1) (by omega)] at hx
  exact (h.low x h0 hx).mv m
theorem Pdq.done {a0 b0 a b:Nat} {L0 L:List α} (h:Pdq lt a0 b0 a b L0 L) (hs:Srt lt L a b):Srt lt L a0 b0:=fun p q x y h1 h2 h3 hx hy=>by
 by_cases hc:p < a∨b≤q
 ·exact h.out p q x y h1 h2 h3 hc hx hy
 ·exact hs p q x y (by omega) h2 (by omega) hx hy
theorem Pdq.left {a0 b0 a b m:Nat} {L0 L:List α} (h:Pdq lt a0 b0 a b L0 L) (h1:a≤m) (h2:m≤b) (hs:Srt lt L m b) (hg:∀ p q x y,a≤p→p < m→m≤q→q < b→L[p]?=some x→L[q]?=some y→¬ lt y x):Pdq lt a0 b0 a m L0 L :=
 ⟨h.mv,h.a1,h1,by have:=h.b1; omega,h.bl,fun p q x y k1 k2 k3 k4 hx hy=>by
  by_cases hc:p < a∨b≤q
  ·exact h.out p q x y k1 k2 k3 hc hx hy
  ·by_cases hq:m≤p
   ·exact hs p q x y hq k2 (by omega) hx hy
   ·exact hg p q x y (by omega) (by omega) (by omega) (by omega) hx hy,fun x k0 hx=>(h.low x k0 hx).part (Nat.le_refl _) h2⟩
def LtP (cI:α→α→Int) (p x:α):Prop:=cI x p < 0
def GeP (cI:α→α→Int) (p x:α):Prop:=¬ cI x p < 0
structure Part (cI:α→α→Int) (L:List α) (a b m:Nat) (p:α):Prop where
 am:a≤m
 mb:m < b
 at_:L[m]?=some p
 low:All (LtP cI p) L a m
 high:All (GeP cI p) L (m + 1) b
end
open Go
@[simp] theorem op_nilCheck {P:Program} {t:Tm} {w:AW} (ty:TypeId) (x:Operand):(opS P ty (.nilCheck x)).val t w=nilCheckA P w ((evS x).val t):=rfl
@[simp] theorem nilCheck_ptr {P:Program} {w:AW} (a:Addr):nilCheckA P w (.pointer (some a))=.val (.pointer (some a)) w:=rfl
section
variable {α:Type}
structure InS (C:α→List Value) (e:TypeId) (w0:AW) (B:Nat) (L:List α) (w:AW):Prop where
 row:w.heap.get B=some (.cells (L.flatMap C) e false)
 old:∀ x,x < w0.next→x ≠ B→w.heap.get x=w0.heap.get x
 next:w0.next≤w.next
 lim:w.lim=w0.lim
theorem InS.refl {C:α→List Value} {e:TypeId} {w:AW} {B:Nat} {L:List α} (h:w.heap.get B=some (.cells (L.flatMap C) e false)):InS C e w B L w:=⟨h,fun _ _ _=>rfl,Nat.le_refl _,rfl⟩
theorem InS.trans {C:α→List Value} {e:TypeId} {w0 w w':AW} {B:Nat} {L L':List α} (h:InS C e w0 B L w) (h':InS C e w B L' w'):InS C e w0 B L' w' :=
 ⟨h'.row,fun x hx hb=>(h'.old x (by have:=h.next; omega) hb).trans (h.old x hx hb),Nat.le_trans h.next h'.next,h'.lim.trans h.lim⟩
structure SortT (P:Program) (st e:TypeId) (sz:Nat) (C:α→List Value) (V:α→Value):Prop where
 ix:∀ (w:AW) (B n c k:Nat),k < n→indexAddrA P w st (.slice (some ⟨B,0,none⟩) n c) (.int .i64 (k:Int))=.val (.pointer (some ⟨B,k * sz,none⟩)) w
 ld:∀ (w:AW) (B k:Nat) (L:List α) (x:α),w.heap.get B=some (.cells (L.flatMap C) e false)→L[k]?=some x→loadA P w e (.pointer (some ⟨B,k * sz,none⟩))=.val (V x) w
 st:∀ (w:AW) (B k:Nat) (L:List α) (x:α),w.heap.get B=some (.cells (L.flatMap C) e false)→k < L.length→w.lim≤B→storeA P w e (.pointer (some ⟨B,k * sz,none⟩)) (V x)=.val undef ⟨w.heap.put B (some (.cells ((L.set k x).flatMap C) e false)),w.next,w.lim⟩
theorem SortT.agg {P:Program} {st e:TypeId} {sz:Nat} {C:α→List Value} (h1:P.underlying st=some (.slice e)) (h2:szOf P e=some sz) (h3:aggOf P e=some true) (hC:∀ a,(C a).length=sz) (hs:∀ a,singles (C a)=true):SortT P st e sz C (fun x=>.agg ⟨C x⟩):=by
 refine ⟨fun w B n c k hk=>?_,fun w B k L x hr hx=>?_,fun w B k L x hr hk hl=>?_⟩
 ·rw [indexAddr_slice h1 h2 ⟨B,0,none⟩ n c .i64 k hk]; simp
 ·rw [load_agg h3 h2]
  have:=flat_at hC L k x [] hx
  rw [List.append_nil] at this
  rw [rd_eq,hr,rdO_cells,if_pos this.2,this.1]
  rfl
 ·rw [store_eq h2 _ _ (by simp [hC])]
  have hf:=flat_length hC L
  simp only [wr_eq,cellsOf_agg,hr]
  rw [wrO_cells (hs x) hl (by rw [hC,hf]; have:=Nat.mul_le_mul_right sz (show k + 1≤L.length from hk); rw [Nat.add_mul] at this; omega),hC,flat_set hC L k x hk]
  rfl
theorem SortT.one {P:Program} {st e:TypeId} {V:α→Value} (h1:P.underlying st=some (.slice e)) (h2:szOf P e=some 1) (h3:aggOf P e=some false) (hs:∀ a,cellsOf (V a)=[V a]∧singles [V a]=true):SortT P st e 1 (fun x=>[V x]) V:=by
 have hC:∀ a,((fun x=>[V x]) a).length=1:=fun a=>rfl
 refine ⟨fun w B n c k hk=>?_,fun w B k L x hr hx=>?_,fun w B k L x hr hk hl=>?_⟩
 ·rw [indexAddr_slice h1 h2 ⟨B,0,none⟩ n c .i64 k hk]; simp
 ·rw [load_one h3]
  have:=(flat_at hC L k x [] hx).1
  rw [List.append_nil] at this
  have h0:(L.flatMap fun x=>[V x])[k * 1]?=some (V x):=by
   have e:((List.drop (k * 1) (L.flatMap fun x=>[V x])).take 1)[0]?=some (V x):=by rw [this]; rfl
   rw [List.getElem?_take_of_lt (by omega),List.getElem?_drop] at e
   exact e
  rw [rd1_eq,hr,rd1O_cells,h0]
  rfl
 ·rw [store_eq h2 _ _ (by rw [(hs x).1]; rfl)]
  have hf:=flat_length hC L
  simp only [wr_eq,(hs x).1,hr]
  rw [wrO_cells (hs x).2 hl (by simp only [List.length_singleton]; rw [hf]; omega)]
  have:=flat_set hC L k x hk
  simp only [List.length_singleton]
  rw [this]
  rfl
end
end Go.Sh
namespace Go.Sh
open Go
variable {P:Program}
theorem src_rows {α:Type} {f:α→List Value} {m:Nat} (hf:∀ a,(f a).length=m) (hm:0 < m) {w:AW} {v:Value} {l:List α} (h:RowsV f w v l) (hl:l ≠ []):srcCells w m v=some (l.flatMap f)∧lenA v=some l.length:=by
 rcases h with ⟨h,_⟩ | ⟨b,off,sq,c,rfl,⟨pre,rest,e,ro,h1,h2⟩,h3⟩
 ·exact absurd h hl
 ·refine ⟨?_,rfl⟩
  have hlen:(l.flatMap f).length=l.length * m:=flat_length hf l
  have hpos:0 < l.length:=List.length_pos_iff.2 hl
  have hp:0 < l.length * m:=Nat.mul_pos hpos hm
  show (bif Nat.beq (l.length * m) 0 then some [] else rd w b off (l.length * m))=_
  have e1:Nat.beq (l.length * m) 0=false:=by rw [← Bool.not_eq_true]; intro h; have:=Nat.eq_of_beq_eq_true h; omega
  rw [e1,cond_false,rd_eq,h1,rdO_cells,if_pos (by rw [List.length_append,List.length_append,hlen]; omega)]
  rw [← h2,List.drop_left,← hlen,List.take_left]
theorem append_lit {st e:TypeId} {sz:Nat} (h0:isList P st=true) (h1:elemA P st=some e) (h2:szOf P e=some sz) (h3:smallT P e=true) {w:AW} {B m:Nat} {new:List Value} {x:Value} (h4:lenA x=some m) (h5:srcCells w sz x=some new) (hl:new.length=m * sz) (hm:0 < m) (hnm:m≤100000) :
  append1 P w [st,st] [.slice (some ⟨B,0,some 2⟩) 0 0,x]=.val (.slice (some ⟨w.next,0,none⟩) m m) ⟨w.heap.put w.next (some (.cells new e false)),w.next + 1,w.lim⟩:=by
 rw [append_eq h0 h1 h2 h3,h4,h5]
 have e1:Nat.ble (0 + m) 1000000=true:=Nat.ble_eq_true_of_le (by omega)
 have e2:Nat.beq (lenL new 0) (m * sz)=true:=by rw [lenL0,hl]; exact Nat.beq_refl _
 have e3:Nat.beq m 0=false:=by rw [← Bool.not_eq_true]; intro h; have:=Nat.eq_of_beq_eq_true h; omega
 have e4:Nat.ble (0 + m) 0=false:=by rw [← Bool.not_eq_true]; intro h; have:=Nat.le_of_ble_eq_true h; omega
 have e5:srcCells w sz (.slice (some ⟨B,0,some 2⟩) 0 0)=some []:=by
  show (bif Nat.beq (0 * sz) 0 then some [] else rd w B 0 (0 * sz))=_
  rw [Nat.zero_mul]; rfl
 have e6:isExact (some 2)=true:=rfl
 simp only [e1,e2,Bool.and_self,cond_true,appendB,e3,cond_false,e4,e5,e6,appendCopy]
 have e7:Nat.beq (lenL ([]:List Value) 0) 0=true:=rfl
 simp [e7,newR,AW.add,rowV,appL_eq]
section
variable {α:Type} [DecidableEq α]
end
end Go.Sh
namespace Go.Sh
open Go
def vnC (v:HVn):List Value:=[.int .i64 v.fr,.int .i64 v.to,.int .i64 v.be]
def hhC (h:HHd):List Value:=[.int .i64 h.vs,.int .i64 h.fr,.int .i64 h.to,.int .i64 h.ra,.int .i64 h.da]
def jbC (j:HJb):List Value:=[.int .i64 j.mo,.int .i64 j.ho,.int .i64 j.ha,.int .i64 j.vi,.int .i64 j.ma]
def hsC (s:Int × Int):List Value:=[.int .i64 s.1,.int .i64 s.2]
@[simp] theorem vnC_length (v:HVn):(vnC v).length=3:=rfl
@[simp] theorem hhC_length (v:HHd):(hhC v).length=5:=rfl
@[simp] theorem jbC_length (v:HJb):(jbC v).length=5:=rfl
@[simp] theorem hsC_length (v:Int × Int):(hsC v).length=2:=rfl
theorem vnC_inj (a b:HVn) (h:vnC a=vnC b):a=b:=by cases a; cases b; simpa [vnC] using h
theorem hhC_inj (a b:HHd) (h:hhC a=hhC b):a=b:=by cases a; cases b; simpa [hhC] using h
theorem jbC_inj (a b:HJb) (h:jbC a=jbC b):a=b:=by cases a; cases b; simpa [jbC] using h
theorem hsC_inj (a b:Int × Int) (h:hsC a=hsC b):a=b:=by cases a; cases b; simpa [hsC] using h
def rwC {α:Type} (p:Value × List α):List Value:=[p.1]
@[simp] theorem rwC_length {α:Type} (p:Value × List α):(rwC p).length=1:=rfl
def Rows2 {α:Type} (f:α→List Value) (w:AW) (v:Value) (L:List (List α)):Prop:=∃ ps:List (Value × List α),L=ps.map (·.2)∧RowsV rwC w v ps∧∀ p ∈ ps,RowsV f w p.1 p.2
theorem Rows2.up {α:Type} {f:α→List Value} {we w:AW} {v:Value} {L:List (List α)} (h:Rows2 f we v L) (k:Up we w):Rows2 f w v L:=by
 obtain ⟨ps,e,h1,h2⟩:=h
 exact ⟨ps,e,h1.old k.old k.next,fun p hp=>(h2 p hp).old k.old k.next⟩
theorem Rows2.len {α:Type} {f:α→List Value} {w:AW} {v:Value} {L:List (List α)} (h:Rows2 f w v L):∃ a c,v=.slice a L.length c:=by
 obtain ⟨ps,rfl,h1,h2⟩:=h
 obtain ⟨a,c,e⟩:=h1.len
 exact ⟨a,c,by rw [List.length_map]; exact e⟩
theorem ia_arr {P:Program} {t e:TypeId} {sz n:Nat} (h:arrN P t=some (n,e)) (hs:szOf P e=some sz) (h1:Nat.ble n 1=false) (w:AW) (a:Addr) (k:IntKind) {i:Nat} (hi:i < n):indexAddrA P w t (.pointer (some a)) (.int k (i:Int))=.val (.pointer (some (a.add (i * sz)))) w:=by
 show indexAddrC P w t (.pointer (some a)) (Int.ofNat i)=_
 have h1':Nat.blt i n=true:=by simpa [Nat.blt_eq] using hi
 unfold indexAddrC
 simp only [h]
 show (bif Nat.ble n 1 then R.fail else indexAddrB P w a n e (Int.ofNat i))=_
 rw [h1]
 simp [indexAddrB,idxIn,h1',hs]
theorem bin_shl6 {P:Program} {w:AW} (s:TypeId) (c:Bool) (n:Nat) (h:n≤6):(binW P .shl s c).val (.int .i64 1) (.int .i64 (n:Int)) w=.val (.int .i64 (2 ^ n)) w:=by
 show vR w (shiftV shlA (.int .i64 1) (.int .i64 (n:Int)))=_
 have:¬ (n:Int) < 0:=by omega
 have e:wrapA .i64 (1 * 2 ^ (min (n:Int).toNat IntKind.i64.bits))=2 ^ n:=by
  rcases n with _ | _ | _ | _ | _ | _ | _ | n
  ·decide
  ·decide
  ·decide
  ·decide
  ·decide
  ·decide
  ·decide
  ·omega
 simp only [shiftV,shlA,intLt_eq,decide_eq_false this,cond_false,vR]
 rw [e]
theorem rw_fst {α:Type} {w:AW} {v:Value} {ps:List (Value × List α)} (h:RowsV rwC w v ps):RowsV (fun x:Value=>[x]) w v (ps.map (·.1)):=by
 have e:∀ ps:List (Value × List α),ps.flatMap rwC=(ps.map (·.1)).flatMap fun x=>[x]:=fun ps=>by
  induction ps with
  | nil=>rfl
  | cons p ps ih=>rw [List.flatMap_cons,ih]; rfl
 rcases h with ⟨rfl,h⟩ | ⟨b,off,sq,c,h,h2⟩
 ·exact .inl ⟨rfl,h⟩
 ·refine .inr ⟨b,off,sq,c,by rw [List.length_map]; exact h,?_⟩
  unfold RowsA at h2 ⊢
  rwa [e] at h2
theorem snd_uniq {α:Type} {f:α→List Value} {m:Nat} (hf:∀ a,(f a).length=m) (hi:∀ a b,f a=f b→a=b) {w:AW}:∀ {ps qs:List (Value × List α)},ps.map (·.1)=qs.map (·.1)→(∀ p ∈ ps,RowsV f w p.1 p.2)→(∀ p ∈ qs,RowsV f w p.1 p.2)→ps.map (·.2)=qs.map (·.2)
 | [],[],_,_,_=>rfl
 | [],_::_,h,_,_=>by simp at h
 | _::_,[],h,_,_=>by simp at h
 | p::ps,q::qs,h,h1,h2=>by
  simp only [List.map_cons,List.cons.injEq] at h ⊢
  have a:=h1 p (by simp)
  rw [h.1] at a
  exact ⟨a.uniq hf hi (h2 q (by simp)),snd_uniq hf hi h.2 (fun r hr=>h1 r (by simp [hr])) fun r hr=>h2 r (by simp [hr])⟩
theorem Rows2.uniq {α:Type} {f:α→List Value} {m:Nat} (hf:∀ a,(f a).length=m) (hi:∀ a b,f a=f b→a=b) {w:AW} {v:Value} {L L':List (List α)} (h:Rows2 f w v L) (k:Rows2 f w v L'):L=L':=by
 obtain ⟨ps,rfl,h1,h2⟩:=h
 obtain ⟨qs,rfl,k1,k2⟩:=k
 exact snd_uniq hf hi ((rw_fst h1).uniq (m:=1) (fun _=>rfl) (fun a b e=>by simpa using e) (rw_fst k1)) h2 k2
theorem getR {P:Program} {T e:TypeId} {sz:Nat} (hT:P.underlying T=some (.slice e)) (hz:szOf P e=some sz) {α:Type} {f:α→List Value} (hf:∀ a,(f a).length=sz) {w:AW} {v:Value} {l:List α} (h:RowsV f w v l) {z:Int} {i:Nat} (hzi:z=(i:Int)) {a:α} (ha:l[i]?=some a) :
  ∃ p:Addr,(∀ w',indexAddrA P w' T v (.int .i64 z)=.val (.pointer (some p)) w')∧rdO (w.heap.get p.block) p.off sz=some (f a)∧(∀ j x,(f a)[j]?=some x→rd1O (w.heap.get p.block) (p.off + j)=some x)∧p.block < w.next:=by
 have hn:=(List.getElem?_eq_some_iff.1 ha).1
 obtain ⟨b,off,sq,c,rfl,hr⟩:=h.at_ i hn
 refine ⟨Addr.add ⟨b,off,sq⟩ (i * sz),fun w'=>by rw [hzi]; exact indexAddr_slice hT hz ⟨b,off,sq⟩ l.length c .i64 i hn,?_,fun j x hx=>?_,by simpa using hr.2⟩
 ·simpa using hr.rd hf ha
 ·simpa using hr.rd1 hf ha hx
theorem Rows2.get {P:Program} {T e:TypeId} (hT:P.underlying T=some (.slice e)) (hz:szOf P e=some 1) {α:Type} {f:α→List Value} {w:AW} {v:Value} {L:List (List α)} (h:Rows2 f w v L) {z:Int} {i:Nat} (hzi:z=(i:Int)) {r:List α} (hr:L[i]?=some r) :
  ∃ p:Addr,∃ a c,(∀ w',indexAddrA P w' T v (.int .i64 z)=.val (.pointer (some p)) w')∧rd1O (w.heap.get p.block) p.off=some (.slice a r.length c)∧p.block < w.next∧RowsV f w (.slice a r.length c) r:=by
 obtain ⟨ps,rfl,h1,h2⟩:=h
 rw [List.getElem?_map] at hr
 cases hp:ps[i]? with
 | none=>rw [hp] at hr; cases hr
 | some q =>
  rw [hp] at hr
  cases hr
  obtain ⟨p,g1,g2,g3,g4⟩:=getR hT hz (f:=rwC) rwC_length h1 hzi hp
  have hq:=h2 q (List.mem_of_getElem? hp)
  obtain ⟨a,c,e⟩:=hq.len
  have:=g3 0 q.1 rfl
  rw [e] at this hq
  exact ⟨p,a,c,g1,by simpa using this,g4,hq⟩
theorem lt_get {α:Type} {l:List α} {i:Nat} (h:i < l.length):∃ a,l[i]?=some a:=⟨_,List.getElem?_eq_getElem h⟩
theorem all_tk {α:Type} {p:α→Bool} {l:List α} {i:Nat} {a:α} (ha:l[i]?=some a):(l.take (i + 1)).all p=((l.take i).all p && p a):=by
 rw [List.take_add_one,ha,List.all_append]; simp
theorem all_bd {α:Type} {p:α→Bool} {l:List α} {i:Nat} {a:α} (ha:l[i]?=some a) (h:p a=false):l.all p=false:=by
 cases hq:l.all p with
 | false=>rfl
 | true =>
  have:=List.all_eq_true.1 hq a (List.mem_of_getElem? ha)
  rw [h] at this; cases this
theorem all_fl {α:Type} {p:α→Bool} {l:List α} (h:(l.take l.length).all p=true):l.all p=true:=by rwa [List.take_length] at h
def inH (a n b:Int):Bool:=decide (a≤n) && decide (n≤b)
def hrsB (f t:Int):Bool:=inH 0 f t && decide (t≤11)
def vnB (v:HVn):Bool:=hrsB v.fr v.to && inH 0 v.be 1000
def hhB (n:Nat) (h:HHd):Bool:=inH 0 h.vs (2 ^ n - 1) && (hrsB h.fr h.to && (inH 0 h.ra 100 && inH 0 h.da 1000))
def spB (s:Int × Int):Bool:=inH 0 s.1 s.2 && decide (s.2≤1000)
def rowB (n:Nat) (r:List (Int × Int)):Bool:=decide (r.length=n) && r.all spB
def vnsB (vs:List HVn):Bool:=decide (1≤vs.length∧vs.length≤6) && vs.all vnB
def hhsB (n:Nat) (hs:List HHd):Bool:=decide (hs.length≤4) && hs.all (hhB n)
def mosB (n:Nat) (fs:List (List (Int × Int))):Bool:=decide (1≤fs.length∧fs.length≤6) && fs.all (rowB n)
def seaB (vs:List HVn) (hs:List HHd) (fs:List (List (Int × Int))):Bool:=vnsB vs && (hhsB vs.length hs && mosB vs.length fs)
def chkH (vs:List HVn) (hs:List HHd) (fs:List (List (Int × Int))):Int:=if seaB vs hs fs=true then 0 else 20
end Go.Sh
namespace Go.Proofs.Ytiokkkjahkhbfaa.walk
open Go Go.Sh
set_option maxRecDepth 100000
theorem un22:Try.prog.underlying 22=some (.slice 65):=by kernel_rfl
theorem un23:Try.prog.underlying 23=some (.slice 77):=by kernel_rfl
theorem un24:Try.prog.underlying 24=some (.slice 69):=by kernel_rfl
theorem un27:Try.prog.underlying 27=some (.slice 42):=by kernel_rfl
theorem un39:Try.prog.underlying 39=some (.slice 67):=by kernel_rfl
theorem un42:Try.prog.underlying 42=some (.slice 3):=by kernel_rfl
theorem un69:Try.prog.underlying 69=some (.slice 34):=by kernel_rfl
theorem un84:Try.prog.underlying 84=some (.slice 87):=by kernel_rfl
theorem sz65:szOf Try.prog 65=some 3:=by kernel_rfl
theorem sz77:szOf Try.prog 77=some 5:=by kernel_rfl
theorem sz69:szOf Try.prog 69=some 1:=by kernel_rfl
theorem sz42:szOf Try.prog 42=some 1:=by kernel_rfl
theorem sz67:szOf Try.prog 67=some 5:=by kernel_rfl
theorem sz3:szOf Try.prog 3=some 1:=by kernel_rfl
theorem sz34:szOf Try.prog 34=some 2:=by kernel_rfl
theorem sz87:szOf Try.prog 87=some 6:=by kernel_rfl
theorem len22V {w w':AW} {v:Value} {l:List HVn} (h:RowsV vnC w v l):lenB Try.prog w' 22 v=.val (.int .i64 (l.length:Nat)) w':=by
 obtain ⟨a,c,rfl⟩:=h.len; simp
theorem len23V {w w':AW} {v:Value} {l:List HHd} (h:RowsV hhC w v l):lenB Try.prog w' 23 v=.val (.int .i64 (l.length:Nat)) w':=by
 obtain ⟨a,c,rfl⟩:=h.len; simp
theorem len39V {w w':AW} {v:Value} {l:List HJb} (h:RowsV jbC w v l):lenB Try.prog w' 39 v=.val (.int .i64 (l.length:Nat)) w':=by
 obtain ⟨a,c,rfl⟩:=h.len; simp
theorem len42V {w w':AW} {v:Value} {l:List Int} (h:RowsV intC w v l):lenB Try.prog w' 42 v=.val (.int .i64 (l.length:Nat)) w':=by
 obtain ⟨a,c,rfl⟩:=h.len; simp
theorem len24V {w w':AW} {v:Value} {l:List (List (Int × Int))} (h:Rows2 hsC w v l):lenB Try.prog w' 24 v=.val (.int .i64 (l.length:Nat)) w':=by
 obtain ⟨a,c,rfl⟩:=h.len; simp
theorem len27V {w w':AW} {v:Value} {l:List (List Int)} (h:Rows2 intC w v l):lenB Try.prog w' 27 v=.val (.int .i64 (l.length:Nat)) w':=by
 obtain ⟨a,c,rfl⟩:=h.len; simp
def S38:PSpec where
 R args _ v:=∃ n a b:Int,args=[.int .i64 n,.int .i64 a,.int .i64 b]∧v=.bool (inH a n b)
 uniq:=by rintro _ _ _ _ ⟨n,a,b,rfl,rfl⟩ ⟨_,_,_,h,rfl⟩; cases h; rfl
 shut h:=h
theorem run38 {ov:Ov} (ho:∀ args w,ov 38 args w=none) (n a b:Int) (w:AW):∃ v w',(run Try.prog ov 2).call 38 [.int .i64 n,.int .i64 a,.int .i64 b] w .none=.ok (.ret v) w' .none∧v=.bool (inH a n b):=by
 refine call_wp text38 (by simp) (ho _ _) ?_
 by_cases h1:a≤n <;> simp [mc38,h1,tupV,inH]
def S70:PSpec where
 R args _ v:=∃ s k:Int,args=[.int .i64 s,.int .i64 k]∧0≤k∧v=.bool (bitB s k)
 uniq:=by rintro _ _ _ _ ⟨n,a,rfl,_,rfl⟩ ⟨_,_,h,_,rfl⟩; cases h; rfl
 shut h:=h
theorem run70 {ov:Ov} (ho:∀ args w,ov 70 args w=none) (s k:Int) (hk:0≤k) (w:AW):∃ v w',(run Try.prog ov 2).call 70 [.int .i64 s,.int .i64 k] w .none=.ok (.ret v) w' .none∧v=.bool (bitB s k):=by
 refine call_wp text70 (by simp) (ho _ _) ?_
 simp [mc70,bin_shr (h:=hk),tupV,bitB]
theorem run87 {ov:Ov} (ho:∀ args w,ov 87 args w=none) (s k:Int) (hk:0≤k) (w:AW):∃ v w',(run Try.prog ov 2).call 87 [.int .i64 s,.int .i64 k] w .none=.ok (.ret v) w' .none∧v=.bool (bitB s k):=by
 refine call_wp text87 (by simp) (ho _ _) ?_
 simp [mc87,bin_shr (h:=hk),tupV,bitB]
def S74:PSpec where
 R args _ v:=∃ n a:Int,args=[.int .i64 n,.int .i64 a]∧v=.bool (inH 0 n a)
 uniq:=by rintro _ _ _ _ ⟨n,a,rfl,rfl⟩ ⟨_,_,h,rfl⟩; cases h; rfl
 shut h:=h
theorem run74 {ov:Ov} (ho:∀ args w,ov 74 args w=none) (n a:Int) (w:AW):∃ v w',(run Try.prog ov 2).call 74 [.int .i64 n,.int .i64 a] w .none=.ok (.ret v) w' .none∧v=.bool (inH 0 n a):=by
 refine call_wp text74 (by simp) (ho _ _) ?_
 by_cases h1:0≤n <;> simp [mc74,h1,tupV,inH]
def S73:PSpec where
 R args _ v:=∃ n a:Int,args=[.int .i64 n,.int .i64 a]∧v=.bool (hrsB n a)
 uniq:=by rintro _ _ _ _ ⟨n,a,rfl,rfl⟩ ⟨_,_,h,rfl⟩; cases h; rfl
 shut h:=h
theorem run73 {ov:Ov} (ho:∀ args w,ov 73 args w=none) (n a:Int) (w:AW):∃ v w',(run Try.prog ov 2).call 73 [.int .i64 n,.int .i64 a] w .none=.ok (.ret v) w' .none∧v=.bool (hrsB n a):=by
 refine call_wp text73 (by simp) (ho _ _) ?_
 have e:decide (a≤11)=decide (a < 12):=by simp only [decide_eq_decide]; omega
 by_cases h1:0≤n <;> by_cases h2:n≤a <;> simp [mc73,h1,h2,tupV,inH,hrsB,e]
def S75:PSpec where
 R args _ v:=∃ (n:Int) (k:Nat),args=[.int .i64 n,.int .i64 (k:Nat)]∧k≤6∧v=.bool (inH 0 n (2 ^ k - 1))
 uniq:=by
  rintro _ _ _ _ ⟨n,a,rfl,_,rfl⟩ ⟨_,_,h,_,rfl⟩
  simp only [List.cons.injEq,Value.int.injEq,true_and,and_true] at h
  obtain ⟨rfl,h⟩:=h
  rw [show a=_ from Int.ofNat.inj h]
 shut h:=h
theorem run75 {ov:Ov} (ho:∀ args w,ov 75 args w=none) (n:Int) (k:Nat) (hk:k≤6) (w:AW):∃ v w',(run Try.prog ov 2).call 75 [.int .i64 n,.int .i64 (k:Nat)] w .none=.ok (.ret v) w' .none∧v=.bool (inH 0 n (2 ^ k - 1)):=by
 refine call_wp text75 (by simp) (ho _ _) ?_
 have hs:=fun (w:AW) s c=>bin_shl6 (P:=Try.prog) (w:=w) s c k hk
 have e:decide (n≤2 ^ k - 1)=decide (n < 2 ^ k):=by simp only [decide_eq_decide]; omega
 by_cases h1:0≤n <;> simp [mc75,h1,hs,tupV,inH,e]
def cmpH (a b:Int):Int:=if a < b then -1 else if b < a then 1 else 0
def S102:PSpec where
 R args _ v:=∃ n a:Int,args=[.int .i64 n,.int .i64 a]∧v=.int .i64 (cmpH n a)
 uniq:=by rintro _ _ _ _ ⟨n,a,rfl,rfl⟩ ⟨_,_,h,rfl⟩; cases h; rfl
 shut h:=h
theorem run113 {ov:Ov} (ho:∀ args w,ov 113 args w=none) (m:Nat) (n:Int) (w:AW):(run Try.prog ov (m + 1)).call 113 [.int .i64 n] w .none=.ok (.ret (.bool false)) w .none:=by
 have key:∃ r w',(run Try.prog ov (m + 1)).call 113 [.int .i64 n] w .none=.ok (.ret r) w' .none∧r=.bool false∧w'=w:=by
  refine call_wp text113 (by simp) (ho _ _) ?_
  simp [mc113,tupV]
 obtain ⟨v,w',h,rfl,rfl⟩:=key
 exact h
theorem run102 {ov:Ov} (ho:∀ args w,ov 102 args w=none) (h113:∀ args w,ov 113 args w=none) (n a:Int) (w:AW):∃ v w',(run Try.prog ov 2).call 102 [.int .i64 n,.int .i64 a] w .none=.ok (.ret v) w' .none∧v=.int .i64 (cmpH n a):=by
 refine call_wp text102 (by simp) (ho _ _) ?_
 have r:=fun n w=>run113 h113 0 n w
 simp only [Nat.zero_add] at r
 by_cases h1:n < a
 ·simp [mc102,r,h1,tupV,cmpH]
 ·by_cases h2:a < n <;> simp [mc102,r,h1,h2,tupV,cmpH]
end Go.Proofs.Ytiokkkjahkhbfaa.walk
