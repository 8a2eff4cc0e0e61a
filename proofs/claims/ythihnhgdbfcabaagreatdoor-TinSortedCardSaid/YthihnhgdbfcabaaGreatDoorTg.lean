/- Part of a proof: see the text with the theorem. -/
import Derived.Test.YthihnhgdbfcabaaGreatDoorShF
import Derived.Test.YthihnhgdbfcabaaGreatDoorTf
import Derived.KernelRfl
import Derived.Test.YthihnhgdbfcabaaGreatDoorProg
import Derived.Test.YthihnhgdbfcabaaGreatDoorTb
set_option linter.all false
namespace Go.Proofs.YthihnhgdbfcabaaGreatDoor.walk
open Go Go.Sh
set_option maxRecDepth 100000
noncomputable def mc108:MC:=.seq (.ops [⟨false,none,some 3,33,.move (.tmp 0)⟩,⟨false,none,some 4,3,.call ⟨.builtin .len,#[.tmp 3],#[33]⟩⟩,⟨false,none,some 2,3,.assign (.tmp 4)⟩]) (.ops [⟨false,none,some 5,33,.move (.tmp 0)⟩,⟨false,none,some 6,3,.move (.tmp 2)⟩,⟨false,none,some 7,3,.move (.tmp 2)⟩,⟨false,none,some 8,102,.convert 3 102 (.tmp 7)⟩,⟨false,none,some 9,3,.call ⟨.value (.func 65),#[.tmp 8],#[102]⟩⟩,⟨false,none,some 10,0,.call ⟨.value (.func 133),#[.tmp 5,.const (.int .i64 0),.tmp 6,.tmp 9],#[33,3,3,3]⟩⟩])
theorem text108:textF Tryz.prog 108=some (11,[],mc108):=by kernel_rfl
noncomputable def mc133_l0:MC:=.block 1 (.seq (.ops [⟨false,none,some 19,3,.move (.tmp 2)⟩,⟨false,none,some 20,3,.move (.tmp 1)⟩,⟨false,none,some 21,3,.binOp .sub 3 (.tmp 19) (.tmp 20) 3⟩,⟨false,none,some 10,3,.assign (.tmp 21)⟩]) (.seq (.seq (.ops [⟨false,none,some 22,3,.move (.tmp 10)⟩,⟨false,none,some 23,4,.binOp .leq 3 (.tmp 22) (.const (.int .i64 12)) 3⟩]) (.cond (.tmp 23) (.seq (.ops [⟨false,none,some 24,33,.move (.tmp 0)⟩,⟨false,none,some 25,3,.move (.tmp 1)⟩,⟨false,none,some 26,3,.move (.tmp 2)⟩,⟨false,none,some 27,0,.call ⟨.value (.func 153),#[.tmp 24,.tmp 25,.tmp 26],#[33,3,3]⟩⟩]) (.ret)) (.skip))) (.seq (.seq (.ops [⟨false,none,some 28,3,.move (.tmp 3)⟩,⟨false,none,some 29,4,.binOp .eql 3 (.tmp 28) (.const (.int .i64 0)) 3⟩]) (.cond (.tmp 29) (.seq (.ops [⟨false,none,some 30,33,.move (.tmp 0)⟩,⟨false,none,some 31,3,.move (.tmp 1)⟩,⟨false,none,some 32,3,.move (.tmp 2)⟩,⟨false,none,some 33,0,.call ⟨.value (.func 154),#[.tmp 30,.tmp 31,.tmp 32],#[33,3,3]⟩⟩]) (.ret)) (.skip))) (.seq (.seq (.ops [⟨false,none,some 34,4,.move (.tmp 8)⟩,⟨false,none,some 35,4,.unOp .not 4 (.tmp 34)⟩]) (.cond (.tmp 35) (.seq (.ops [⟨false,none,some 36,33,.move (.tmp 0)⟩,⟨false,none,some 37,3,.move (.tmp 1)⟩,⟨false,none,some 38,3,.move (.tmp 2)⟩,⟨false,none,some 39,0,.call ⟨.value (.func 155),#[.tmp 36,.tmp 37,.tmp 38],#[33,3,3]⟩⟩]) (.ops [⟨false,none,some 40,3,.move (.tmp 3)⟩,⟨false,none,some 41,3,.binOp .sub 3 (.tmp 40) (.const (.int .i64 1)) 3⟩,⟨false,none,some 3,3,.assign (.tmp 41)⟩])) (.skip))) (.seq (.ops [⟨false,none,some 43,33,.move (.tmp 0)⟩,⟨false,none,some 44,3,.move (.tmp 1)⟩,⟨false,none,some 45,3,.move (.tmp 2)⟩,⟨false,none,some 46,137,.call ⟨.value (.func 156),#[.tmp 43,.tmp 44,.tmp 45],#[33,3,3]⟩⟩,⟨false,none,some 42,137,.move (.tmp 46)⟩,⟨false,none,some 47,3,.extract (.tmp 42) 0⟩,⟨false,none,some 48,136,.extract (.tmp 42) 1⟩,⟨false,none,some 11,3,.assign (.tmp 47)⟩,⟨false,none,some 12,136,.assign (.tmp 48)⟩]) (.seq (.seq (.ops [⟨false,none,some 49,136,.move (.tmp 12)⟩,⟨false,none,some 50,4,.binOp .eql 136 (.tmp 49) (.const (.int .i64 2)) 136⟩]) (.cond (.tmp 50) (.seq (.ops [⟨false,none,some 51,33,.move (.tmp 0)⟩,⟨false,none,some 52,3,.move (.tmp 1)⟩,⟨false,none,some 53,3,.move (.tmp 2)⟩,⟨false,none,some 54,0,.call ⟨.value (.func 157),#[.tmp 51,.tmp 52,.tmp 53],#[33,3,3]⟩⟩]) (.seq (.ops [⟨false,none,some 55,3,.move (.tmp 2)⟩,⟨false,none,some 56,3,.binOp .sub 3 (.tmp 55) (.const (.int .i64 1)) 3⟩,⟨false,none,some 57,3,.move (.tmp 11)⟩,⟨false,none,some 58,3,.move (.tmp 1)⟩,⟨false,none,some 59,3,.binOp .sub 3 (.tmp 57) (.tmp 58) 3⟩,⟨false,none,some 60,3,.binOp .sub 3 (.tmp 56) (.tmp 59) 3⟩,⟨false,none,some 11,3,.assign (.tmp 60)⟩]) (.ops [⟨false,none,some 12,136,.assign (.const (.int .i64 1))⟩]))) (.skip))) (.seq (.seq (.ops [⟨false,none,some 61,4,.move (.tmp 8)⟩,⟨false,none,some 62,4,.move (.tmp 61)⟩,⟨false,some (62,true),some 63,4,.move (.tmp 9)⟩,⟨false,none,some 64,4,.pick (.tmp 62) (.tmp 63) (.const (.bool false))⟩,⟨false,none,some 65,4,.move (.tmp 64)⟩,⟨false,some (65,true),some 66,136,.move (.tmp 12)⟩,⟨false,some (65,true),some 67,4,.binOp .eql 136 (.tmp 66) (.const (.int .i64 1)) 136⟩,⟨false,none,some 68,4,.pick (.tmp 65) (.tmp 67) (.const (.bool false))⟩]) (.cond (.tmp 68) (.seq (.ops [⟨false,none,some 69,33,.move (.tmp 0)⟩,⟨false,none,some 70,3,.move (.tmp 1)⟩,⟨false,none,some 71,3,.move (.tmp 2)⟩,⟨false,none,some 72,4,.call ⟨.value (.func 158),#[.tmp 69,.tmp 70,.tmp 71],#[33,3,3]⟩⟩]) (.cond (.tmp 72) (.ret) (.skip))) (.skip))) (.seq (.seq (.ops [⟨true,none,some 73,3,.move (.tmp 1)⟩,⟨true,none,some 74,4,.binOp .gtr 3 (.tmp 73) (.const (.int .i64 0)) 3⟩,⟨true,none,some 75,4,.move (.tmp 74)⟩,⟨true,some (75,true),some 76,33,.move (.tmp 0)⟩,⟨true,some (75,true),some 77,3,.move (.tmp 1)⟩,⟨true,some (75,true),some 78,3,.binOp .sub 3 (.tmp 77) (.const (.int .i64 1)) 3⟩,⟨true,some (75,true),some 79,0,.indexAddr 33 (.tmp 76) (.tmp 78)⟩,⟨true,some (75,true),some 80,3,.load 3 (.tmp 79)⟩,⟨true,some (75,true),some 81,33,.move (.tmp 0)⟩,⟨true,some (75,true),some 82,3,.move (.tmp 11)⟩,⟨true,some (75,true),some 83,0,.indexAddr 33 (.tmp 81) (.tmp 82)⟩,⟨true,some (75,true),some 84,3,.load 3 (.tmp 83)⟩,⟨false,some (75,true),some 85,4,.call ⟨.value (.func 159),#[.tmp 80,.tmp 84],#[3,3]⟩⟩,⟨true,some (75,true),some 86,4,.unOp .not 4 (.tmp 85)⟩,⟨true,none,some 87,4,.pick (.tmp 75) (.tmp 86) (.const (.bool false))⟩]) (.cond (.tmp 87) (.seq (.ops [⟨false,none,some 88,33,.move (.tmp 0)⟩,⟨false,none,some 89,3,.move (.tmp 1)⟩,⟨false,none,some 90,3,.move (.tmp 2)⟩,⟨false,none,some 91,3,.move (.tmp 11)⟩,⟨false,none,some 92,3,.call ⟨.value (.func 160),#[.tmp 88,.tmp 89,.tmp 90,.tmp 91],#[33,3,3,3]⟩⟩,⟨false,none,some 13,3,.assign (.tmp 92)⟩]) (.seq (.ops [⟨false,none,some 93,3,.move (.tmp 13)⟩,⟨false,none,some 1,3,.assign (.tmp 93)⟩]) (.exit 1))) (.skip))) (.seq (.ops [⟨false,none,some 95,33,.move (.tmp 0)⟩,⟨false,none,some 96,3,.move (.tmp 1)⟩,⟨false,none,some 97,3,.move (.tmp 2)⟩,⟨false,none,some 98,3,.move (.tmp 11)⟩,⟨false,none,some 99,94,.call ⟨.value (.func 161),#[.tmp 95,.tmp 96,.tmp 97,.tmp 98],#[33,3,3,3]⟩⟩,⟨false,none,some 94,94,.move (.tmp 99)⟩,⟨false,none,some 100,3,.extract (.tmp 94) 0⟩,⟨false,none,some 101,4,.extract (.tmp 94) 1⟩,⟨false,none,some 14,3,.assign (.tmp 100)⟩,⟨false,none,some 15,4,.assign (.tmp 101)⟩]) (.seq (.ops [⟨false,none,some 102,4,.move (.tmp 15)⟩,⟨false,none,some 9,4,.assign (.tmp 102)⟩]) (.seq (.ops [⟨false,none,some 103,3,.move (.tmp 14)⟩,⟨false,none,some 104,3,.move (.tmp 1)⟩,⟨false,none,some 105,3,.binOp .sub 3 (.tmp 103) (.tmp 104) 3⟩,⟨false,none,some 106,3,.move (.tmp 2)⟩,⟨false,none,some 107,3,.move (.tmp 14)⟩,⟨false,none,some 108,3,.binOp .sub 3 (.tmp 106) (.tmp 107) 3⟩,⟨false,none,some 16,3,.assign (.tmp 105)⟩,⟨false,none,some 17,3,.assign (.tmp 108)⟩]) (.seq (.ops [⟨false,none,some 109,3,.move (.tmp 10)⟩,⟨false,none,some 110,3,.binOp .quo 3 (.tmp 109) (.const (.int .i64 8)) 3⟩,⟨false,none,some 18,3,.assign (.tmp 110)⟩]) (.seq (.ops [⟨false,none,some 111,3,.move (.tmp 16)⟩,⟨false,none,some 112,3,.move (.tmp 17)⟩,⟨false,none,some 113,4,.binOp .lss 3 (.tmp 111) (.tmp 112) 3⟩]) (.cond (.tmp 113) (.seq (.ops [⟨false,none,some 114,3,.move (.tmp 16)⟩,⟨false,none,some 115,3,.move (.tmp 18)⟩,⟨false,none,some 116,4,.binOp .geq 3 (.tmp 114) (.tmp 115) 3⟩,⟨false,none,some 8,4,.assign (.tmp 116)⟩]) (.seq (.ops [⟨false,none,some 117,33,.move (.tmp 0)⟩,⟨false,none,some 118,3,.move (.tmp 1)⟩,⟨false,none,some 119,3,.move (.tmp 14)⟩,⟨false,none,some 120,3,.move (.tmp 3)⟩,⟨false,none,some 121,0,.call ⟨.value (.func 133),#[.tmp 117,.tmp 118,.tmp 119,.tmp 120],#[33,3,3,3]⟩⟩]) (.ops [⟨false,none,some 122,3,.move (.tmp 14)⟩,⟨false,none,some 123,3,.binOp .add 3 (.tmp 122) (.const (.int .i64 1)) 3⟩,⟨false,none,some 1,3,.assign (.tmp 123)⟩]))) (.seq (.ops [⟨false,none,some 124,3,.move (.tmp 17)⟩,⟨false,none,some 125,3,.move (.tmp 18)⟩,⟨false,none,some 126,4,.binOp .geq 3 (.tmp 124) (.tmp 125) 3⟩,⟨false,none,some 8,4,.assign (.tmp 126)⟩]) (.seq (.ops [⟨false,none,some 127,33,.move (.tmp 0)⟩,⟨false,none,some 128,3,.move (.tmp 14)⟩,⟨false,none,some 129,3,.binOp .add 3 (.tmp 128) (.const (.int .i64 1)) 3⟩,⟨false,none,some 130,3,.move (.tmp 2)⟩,⟨false,none,some 131,3,.move (.tmp 3)⟩,⟨false,none,some 132,0,.call ⟨.value (.func 133),#[.tmp 127,.tmp 129,.tmp 130,.tmp 131],#[33,3,3,3]⟩⟩]) (.ops [⟨false,none,some 133,3,.move (.tmp 14)⟩,⟨false,none,some 2,3,.assign (.tmp 133)⟩])))))))))))))))))
noncomputable def mc133:MC:=.seq (.ops [⟨false,none,some 8,4,.assign (.const (.bool true))⟩]) (.seq (.ops [⟨false,none,some 9,4,.assign (.const (.bool true))⟩]) (.block 0 (.loop mc133_l0)))
theorem text133:textF Tryz.prog 133=some (134,[],mc133):=by kernel_rfl
noncomputable def mc142:MC:=.seq (.ops [⟨false,none,some 2,4,.assign (.const (.bool false))⟩]) (.seq (.ops [⟨false,none,some 3,3,.move (.tmp 0)⟩,⟨false,none,some 4,3,.move (.tmp 0)⟩,⟨false,none,some 5,4,.binOp .neq 3 (.tmp 3) (.tmp 4) 3⟩,⟨false,none,some 2,4,.assign (.tmp 5)⟩]) (.ret))
theorem text142:textF Tryz.prog 142=some (6,[.tmp 2],mc142):=by kernel_rfl
noncomputable def mc153_l1:MC:=.seq (.seq (.ops [⟨true,none,some 16,3,.move (.tmp 7)⟩,⟨true,none,some 17,3,.move (.tmp 1)⟩,⟨true,none,some 18,4,.binOp .gtr 3 (.tmp 16) (.tmp 17) 3⟩,⟨true,none,some 19,4,.move (.tmp 18)⟩,⟨true,some (19,true),some 20,33,.move (.tmp 0)⟩,⟨true,some (19,true),some 21,3,.move (.tmp 7)⟩,⟨true,some (19,true),some 22,0,.indexAddr 33 (.tmp 20) (.tmp 21)⟩,⟨true,some (19,true),some 23,3,.load 3 (.tmp 22)⟩,⟨true,some (19,true),some 24,33,.move (.tmp 0)⟩,⟨true,some (19,true),some 25,3,.move (.tmp 7)⟩,⟨true,some (19,true),some 26,3,.binOp .sub 3 (.tmp 25) (.const (.int .i64 1)) 3⟩,⟨true,some (19,true),some 27,0,.indexAddr 33 (.tmp 24) (.tmp 26)⟩,⟨true,some (19,true),some 28,3,.load 3 (.tmp 27)⟩,⟨false,some (19,true),some 29,4,.call ⟨.value (.func 159),#[.tmp 23,.tmp 28],#[3,3]⟩⟩,⟨true,none,some 30,4,.pick (.tmp 19) (.tmp 29) (.const (.bool false))⟩]) (.cond (.tmp 30) (.skip) (.exit 2))) (.seq (.block 3 (.ops [⟨true,none,some 33,33,.move (.tmp 0)⟩,⟨true,none,some 34,3,.move (.tmp 7)⟩,⟨true,none,some 35,33,.move (.tmp 0)⟩,⟨true,none,some 36,3,.move (.tmp 7)⟩,⟨true,none,some 37,3,.binOp .sub 3 (.tmp 36) (.const (.int .i64 1)) 3⟩,⟨true,none,some 38,33,.move (.tmp 0)⟩,⟨true,none,some 39,3,.move (.tmp 7)⟩,⟨true,none,some 40,3,.binOp .sub 3 (.tmp 39) (.const (.int .i64 1)) 3⟩,⟨true,none,some 41,0,.indexAddr 33 (.tmp 38) (.tmp 40)⟩,⟨true,none,some 42,3,.load 3 (.tmp 41)⟩,⟨true,none,some 43,33,.move (.tmp 0)⟩,⟨true,none,some 44,3,.move (.tmp 7)⟩,⟨true,none,some 45,0,.indexAddr 33 (.tmp 43) (.tmp 44)⟩,⟨true,none,some 46,3,.load 3 (.tmp 45)⟩,⟨true,none,some 47,0,.indexAddr 33 (.tmp 33) (.tmp 34)⟩,⟨false,none,none,0,.store 3 (.tmp 47) (.tmp 42)⟩,⟨true,none,some 48,0,.indexAddr 33 (.tmp 35) (.tmp 37)⟩,⟨false,none,none,0,.store 3 (.tmp 48) (.tmp 46)⟩])) (.ops [⟨false,none,some 31,3,.move (.tmp 7)⟩,⟨false,none,some 32,3,.binOp .sub 3 (.tmp 31) (.const (.int .i64 1)) 3⟩,⟨false,none,some 7,3,.assign (.tmp 32)⟩]))
noncomputable def mc153_l0:MC:=.seq (.seq (.ops [⟨false,none,some 10,3,.move (.tmp 6)⟩,⟨false,none,some 11,3,.move (.tmp 2)⟩,⟨false,none,some 12,4,.binOp .lss 3 (.tmp 10) (.tmp 11) 3⟩]) (.cond (.tmp 12) (.skip) (.exit 0))) (.seq (.block 1 (.seq (.ops [⟨false,none,some 15,3,.move (.tmp 6)⟩,⟨false,none,some 7,3,.assign (.tmp 15)⟩]) (.block 2 (.loop mc153_l1)))) (.ops [⟨false,none,some 13,3,.move (.tmp 6)⟩,⟨false,none,some 14,3,.binOp .add 3 (.tmp 13) (.const (.int .i64 1)) 3⟩,⟨false,none,some 6,3,.assign (.tmp 14)⟩]))
noncomputable def mc153:MC:=.seq (.ops [⟨false,none,some 8,3,.move (.tmp 1)⟩,⟨false,none,some 9,3,.binOp .add 3 (.tmp 8) (.const (.int .i64 1)) 3⟩,⟨false,none,some 6,3,.assign (.tmp 9)⟩]) (.block 0 (.loop mc153_l0))
theorem text153:textF Tryz.prog 153=some (49,[],mc153):=by kernel_rfl
noncomputable def mc154_l0:MC:=.seq (.seq (.ops [⟨false,none,some 18,3,.move (.tmp 9)⟩,⟨false,none,some 19,4,.binOp .geq 3 (.tmp 18) (.const (.int .i64 0)) 3⟩]) (.cond (.tmp 19) (.skip) (.exit 0))) (.seq (.block 1 (.ops [⟨false,none,some 22,33,.move (.tmp 0)⟩,⟨false,none,some 23,3,.move (.tmp 9)⟩,⟨false,none,some 24,3,.move (.tmp 8)⟩,⟨false,none,some 25,3,.move (.tmp 6)⟩,⟨false,none,some 26,0,.call ⟨.value (.func 179),#[.tmp 22,.tmp 23,.tmp 24,.tmp 25],#[33,3,3,3]⟩⟩])) (.ops [⟨false,none,some 20,3,.move (.tmp 9)⟩,⟨false,none,some 21,3,.binOp .sub 3 (.tmp 20) (.const (.int .i64 1)) 3⟩,⟨false,none,some 9,3,.assign (.tmp 21)⟩]))
noncomputable def mc154_l1:MC:=.seq (.seq (.ops [⟨false,none,some 29,3,.move (.tmp 10)⟩,⟨false,none,some 30,4,.binOp .geq 3 (.tmp 29) (.const (.int .i64 0)) 3⟩]) (.cond (.tmp 30) (.skip) (.exit 2))) (.seq (.block 3 (.seq (.ops [⟨true,none,some 33,33,.move (.tmp 0)⟩,⟨true,none,some 34,3,.move (.tmp 6)⟩,⟨true,none,some 35,33,.move (.tmp 0)⟩,⟨true,none,some 36,3,.move (.tmp 6)⟩,⟨true,none,some 37,3,.move (.tmp 10)⟩,⟨true,none,some 38,3,.binOp .add 3 (.tmp 36) (.tmp 37) 3⟩,⟨true,none,some 39,33,.move (.tmp 0)⟩,⟨true,none,some 40,3,.move (.tmp 6)⟩,⟨true,none,some 41,3,.move (.tmp 10)⟩,⟨true,none,some 42,3,.binOp .add 3 (.tmp 40) (.tmp 41) 3⟩,⟨true,none,some 43,0,.indexAddr 33 (.tmp 39) (.tmp 42)⟩,⟨true,none,some 44,3,.load 3 (.tmp 43)⟩,⟨true,none,some 45,33,.move (.tmp 0)⟩,⟨true,none,some 46,3,.move (.tmp 6)⟩,⟨true,none,some 47,0,.indexAddr 33 (.tmp 45) (.tmp 46)⟩,⟨true,none,some 48,3,.load 3 (.tmp 47)⟩,⟨true,none,some 49,0,.indexAddr 33 (.tmp 33) (.tmp 34)⟩,⟨false,none,none,0,.store 3 (.tmp 49) (.tmp 44)⟩,⟨true,none,some 50,0,.indexAddr 33 (.tmp 35) (.tmp 38)⟩,⟨false,none,none,0,.store 3 (.tmp 50) (.tmp 48)⟩]) (.ops [⟨false,none,some 51,33,.move (.tmp 0)⟩,⟨false,none,some 52,3,.move (.tmp 7)⟩,⟨false,none,some 53,3,.move (.tmp 10)⟩,⟨false,none,some 54,3,.move (.tmp 6)⟩,⟨false,none,some 55,0,.call ⟨.value (.func 179),#[.tmp 51,.tmp 52,.tmp 53,.tmp 54],#[33,3,3,3]⟩⟩]))) (.ops [⟨false,none,some 31,3,.move (.tmp 10)⟩,⟨false,none,some 32,3,.binOp .sub 3 (.tmp 31) (.const (.int .i64 1)) 3⟩,⟨false,none,some 10,3,.assign (.tmp 32)⟩]))
noncomputable def mc154:MC:=.seq (.ops [⟨false,none,some 11,3,.move (.tmp 1)⟩,⟨false,none,some 6,3,.assign (.tmp 11)⟩]) (.seq (.ops [⟨false,none,some 7,3,.assign (.const (.int .i64 0))⟩]) (.seq (.ops [⟨false,none,some 12,3,.move (.tmp 2)⟩,⟨false,none,some 13,3,.move (.tmp 1)⟩,⟨false,none,some 14,3,.binOp .sub 3 (.tmp 12) (.tmp 13) 3⟩,⟨false,none,some 8,3,.assign (.tmp 14)⟩]) (.seq (.seq (.ops [⟨false,none,some 15,3,.move (.tmp 8)⟩,⟨false,none,some 16,3,.binOp .sub 3 (.tmp 15) (.const (.int .i64 1)) 3⟩,⟨false,none,some 17,3,.binOp .quo 3 (.tmp 16) (.const (.int .i64 2)) 3⟩,⟨false,none,some 9,3,.assign (.tmp 17)⟩]) (.block 0 (.loop mc154_l0))) (.seq (.ops [⟨false,none,some 27,3,.move (.tmp 8)⟩,⟨false,none,some 28,3,.binOp .sub 3 (.tmp 27) (.const (.int .i64 1)) 3⟩,⟨false,none,some 10,3,.assign (.tmp 28)⟩]) (.block 2 (.loop mc154_l1))))))
theorem text154:textF Tryz.prog 154=some (56,[],mc154):=by kernel_rfl
noncomputable def mc155_l0:MC:=.seq (.seq (.ops [⟨false,none,some 26,3,.move (.tmp 9)⟩,⟨false,none,some 27,3,.move (.tmp 1)⟩,⟨false,none,some 28,3,.move (.tmp 6)⟩,⟨false,none,some 29,3,.binOp .quo 3 (.tmp 28) (.const (.int .i64 4)) 3⟩,⟨false,none,some 30,3,.binOp .mul 3 (.tmp 29) (.const (.int .i64 2)) 3⟩,⟨false,none,some 31,3,.binOp .add 3 (.tmp 27) (.tmp 30) 3⟩,⟨false,none,some 32,3,.binOp .add 3 (.tmp 31) (.const (.int .i64 1)) 3⟩,⟨false,none,some 33,4,.binOp .leq 3 (.tmp 26) (.tmp 32) 3⟩]) (.cond (.tmp 33) (.skip) (.exit 0))) (.seq (.block 1 (.seq (.ops [⟨false,none,some 36,146,.call ⟨.value (.func 114),#[.tmp 7],#[173]⟩⟩,⟨false,none,some 37,102,.move (.tmp 8)⟩,⟨false,none,some 38,102,.binOp .sub 102 (.tmp 37) (.const (.int .u64 1)) 102⟩,⟨false,none,some 39,102,.binOp .and 102 (.tmp 36) (.tmp 38) 102⟩,⟨false,none,some 40,3,.convert 102 3 (.tmp 39)⟩,⟨false,none,some 10,3,.assign (.tmp 40)⟩]) (.seq (.seq (.ops [⟨false,none,some 41,3,.move (.tmp 10)⟩,⟨false,none,some 42,3,.move (.tmp 6)⟩,⟨false,none,some 43,4,.binOp .geq 3 (.tmp 41) (.tmp 42) 3⟩]) (.cond (.tmp 43) (.ops [⟨false,none,some 44,3,.move (.tmp 10)⟩,⟨false,none,some 45,3,.move (.tmp 6)⟩,⟨false,none,some 46,3,.binOp .sub 3 (.tmp 44) (.tmp 45) 3⟩,⟨false,none,some 10,3,.assign (.tmp 46)⟩]) (.skip))) (.ops [⟨true,none,some 47,33,.move (.tmp 0)⟩,⟨true,none,some 48,3,.move (.tmp 9)⟩,⟨true,none,some 49,33,.move (.tmp 0)⟩,⟨true,none,some 50,3,.move (.tmp 1)⟩,⟨true,none,some 51,3,.move (.tmp 10)⟩,⟨true,none,some 52,3,.binOp .add 3 (.tmp 50) (.tmp 51) 3⟩,⟨true,none,some 53,33,.move (.tmp 0)⟩,⟨true,none,some 54,3,.move (.tmp 1)⟩,⟨true,none,some 55,3,.move (.tmp 10)⟩,⟨true,none,some 56,3,.binOp .add 3 (.tmp 54) (.tmp 55) 3⟩,⟨true,none,some 57,0,.indexAddr 33 (.tmp 53) (.tmp 56)⟩,⟨true,none,some 58,3,.load 3 (.tmp 57)⟩,⟨true,none,some 59,33,.move (.tmp 0)⟩,⟨true,none,some 60,3,.move (.tmp 9)⟩,⟨true,none,some 61,0,.indexAddr 33 (.tmp 59) (.tmp 60)⟩,⟨true,none,some 62,3,.load 3 (.tmp 61)⟩,⟨true,none,some 63,0,.indexAddr 33 (.tmp 47) (.tmp 48)⟩,⟨false,none,none,0,.store 3 (.tmp 63) (.tmp 58)⟩,⟨true,none,some 64,0,.indexAddr 33 (.tmp 49) (.tmp 52)⟩,⟨false,none,none,0,.store 3 (.tmp 64) (.tmp 62)⟩])))) (.ops [⟨false,none,some 34,3,.move (.tmp 9)⟩,⟨false,none,some 35,3,.binOp .add 3 (.tmp 34) (.const (.int .i64 1)) 3⟩,⟨false,none,some 9,3,.assign (.tmp 35)⟩]))
noncomputable def mc155:MC:=.seq (.ops [⟨false,none,some 11,3,.move (.tmp 2)⟩,⟨false,none,some 12,3,.move (.tmp 1)⟩,⟨false,none,some 13,3,.binOp .sub 3 (.tmp 11) (.tmp 12) 3⟩,⟨false,none,some 6,3,.assign (.tmp 13)⟩]) (.seq (.ops [⟨false,none,some 14,3,.move (.tmp 6)⟩,⟨false,none,some 15,4,.binOp .geq 3 (.tmp 14) (.const (.int .i64 8)) 3⟩]) (.cond (.tmp 15) (.seq (.ops [⟨false,none,some 16,3,.move (.tmp 6)⟩,⟨false,none,some 17,173,.convert 3 173 (.tmp 16)⟩,⟨false,none,some 7,0,.alloc 173⟩,⟨false,none,none,0,.store 173 (.tmp 7) (.tmp 17)⟩]) (.seq (.ops [⟨false,none,some 18,3,.move (.tmp 6)⟩,⟨false,none,some 19,102,.call ⟨.value (.func 113),#[.tmp 18],#[3]⟩⟩,⟨false,none,some 8,102,.assign (.tmp 19)⟩]) (.seq (.ops [⟨false,none,some 20,3,.move (.tmp 1)⟩,⟨false,none,some 21,3,.move (.tmp 6)⟩,⟨false,none,some 22,3,.binOp .quo 3 (.tmp 21) (.const (.int .i64 4)) 3⟩,⟨false,none,some 23,3,.binOp .mul 3 (.tmp 22) (.const (.int .i64 2)) 3⟩,⟨false,none,some 24,3,.binOp .add 3 (.tmp 20) (.tmp 23) 3⟩,⟨false,none,some 25,3,.binOp .sub 3 (.tmp 24) (.const (.int .i64 1)) 3⟩,⟨false,none,some 9,3,.assign (.tmp 25)⟩]) (.block 0 (.loop mc155_l0))))) (.skip)))
theorem text155:textF Tryz.prog 155=some (65,[],mc155):=by kernel_rfl
noncomputable def mc156:MC:=.seq (.ops [⟨false,none,some 6,3,.assign (.const (.int .i64 0))⟩,⟨false,none,some 7,136,.assign (.const (.int .i64 0))⟩]) (.seq (.ops [⟨false,none,some 13,3,.move (.tmp 2)⟩,⟨false,none,some 14,3,.move (.tmp 1)⟩,⟨false,none,some 15,3,.binOp .sub 3 (.tmp 13) (.tmp 14) 3⟩,⟨false,none,some 8,3,.assign (.tmp 15)⟩]) (.seq (.ops [⟨false,none,some 9,0,.alloc 3⟩]) (.seq (.ops [⟨false,none,some 16,3,.move (.tmp 1)⟩,⟨false,none,some 17,3,.move (.tmp 8)⟩,⟨false,none,some 18,3,.binOp .quo 3 (.tmp 17) (.const (.int .i64 4)) 3⟩,⟨false,none,some 19,3,.binOp .mul 3 (.tmp 18) (.const (.int .i64 1)) 3⟩,⟨false,none,some 20,3,.binOp .add 3 (.tmp 16) (.tmp 19) 3⟩,⟨false,none,some 10,3,.assign (.tmp 20)⟩]) (.seq (.ops [⟨false,none,some 21,3,.move (.tmp 1)⟩,⟨false,none,some 22,3,.move (.tmp 8)⟩,⟨false,none,some 23,3,.binOp .quo 3 (.tmp 22) (.const (.int .i64 4)) 3⟩,⟨false,none,some 24,3,.binOp .mul 3 (.tmp 23) (.const (.int .i64 2)) 3⟩,⟨false,none,some 25,3,.binOp .add 3 (.tmp 21) (.tmp 24) 3⟩,⟨false,none,some 11,3,.assign (.tmp 25)⟩]) (.seq (.ops [⟨false,none,some 26,3,.move (.tmp 1)⟩,⟨false,none,some 27,3,.move (.tmp 8)⟩,⟨false,none,some 28,3,.binOp .quo 3 (.tmp 27) (.const (.int .i64 4)) 3⟩,⟨false,none,some 29,3,.binOp .mul 3 (.tmp 28) (.const (.int .i64 3)) 3⟩,⟨false,none,some 30,3,.binOp .add 3 (.tmp 26) (.tmp 29) 3⟩,⟨false,none,some 12,3,.assign (.tmp 30)⟩]) (.seq (.seq (.ops [⟨false,none,some 31,3,.move (.tmp 8)⟩,⟨false,none,some 32,4,.binOp .geq 3 (.tmp 31) (.const (.int .i64 8)) 3⟩]) (.cond (.tmp 32) (.seq (.seq (.ops [⟨false,none,some 33,3,.move (.tmp 8)⟩,⟨false,none,some 34,4,.binOp .geq 3 (.tmp 33) (.const (.int .i64 50)) 3⟩]) (.cond (.tmp 34) (.seq (.ops [⟨false,none,some 35,33,.move (.tmp 0)⟩,⟨false,none,some 36,3,.move (.tmp 10)⟩,⟨false,none,some 37,3,.call ⟨.value (.func 180),#[.tmp 35,.tmp 36,.tmp 9],#[33,3,177]⟩⟩,⟨false,none,some 10,3,.assign (.tmp 37)⟩]) (.seq (.ops [⟨false,none,some 38,33,.move (.tmp 0)⟩,⟨false,none,some 39,3,.move (.tmp 11)⟩,⟨false,none,some 40,3,.call ⟨.value (.func 180),#[.tmp 38,.tmp 39,.tmp 9],#[33,3,177]⟩⟩,⟨false,none,some 11,3,.assign (.tmp 40)⟩]) (.ops [⟨false,none,some 41,33,.move (.tmp 0)⟩,⟨false,none,some 42,3,.move (.tmp 12)⟩,⟨false,none,some 43,3,.call ⟨.value (.func 180),#[.tmp 41,.tmp 42,.tmp 9],#[33,3,177]⟩⟩,⟨false,none,some 12,3,.assign (.tmp 43)⟩]))) (.skip))) (.ops [⟨false,none,some 44,33,.move (.tmp 0)⟩,⟨false,none,some 45,3,.move (.tmp 10)⟩,⟨false,none,some 46,3,.move (.tmp 11)⟩,⟨false,none,some 47,3,.move (.tmp 12)⟩,⟨false,none,some 48,3,.call ⟨.value (.func 181),#[.tmp 44,.tmp 45,.tmp 46,.tmp 47,.tmp 9],#[33,3,3,3,177]⟩⟩,⟨false,none,some 11,3,.assign (.tmp 48)⟩])) (.skip))) (.seq (.ops [⟨false,none,some 49,3,.load 3 (.tmp 9)⟩]) (.block 0 (.seq (.ops [⟨false,none,some 52,4,.binOp .eql 3 (.tmp 49) (.const (.int .i64 0)) 3⟩,⟨false,none,some 51,4,.assign (.tmp 52)⟩]) (.cond (.tmp 51) (.seq (.ops [⟨false,none,some 53,3,.move (.tmp 11)⟩,⟨false,none,some 6,3,.assign (.tmp 53)⟩,⟨false,none,some 7,136,.assign (.const (.int .i64 1))⟩]) (.ret)) (.seq (.ops [⟨false,none,some 55,4,.binOp .eql 3 (.tmp 49) (.const (.int .i64 12)) 3⟩,⟨false,none,some 54,4,.assign (.tmp 55)⟩]) (.cond (.tmp 54) (.seq (.ops [⟨false,none,some 56,3,.move (.tmp 11)⟩,⟨false,none,some 6,3,.assign (.tmp 56)⟩,⟨false,none,some 7,136,.assign (.const (.int .i64 2))⟩]) (.ret)) (.seq (.ops [⟨false,none,some 50,3,.move (.tmp 11)⟩,⟨false,none,some 6,3,.assign (.tmp 50)⟩,⟨false,none,some 7,136,.assign (.const (.int .i64 0))⟩]) (.ret))))))))))))))
theorem text156:textF Tryz.prog 156=some (57,[.tmp 6,.tmp 7],mc156):=by kernel_rfl
noncomputable def mc157_l0:MC:=.seq (.seq (.ops [⟨false,none,some 11,3,.move (.tmp 6)⟩,⟨false,none,some 12,3,.move (.tmp 7)⟩,⟨false,none,some 13,4,.binOp .lss 3 (.tmp 11) (.tmp 12) 3⟩]) (.cond (.tmp 13) (.skip) (.exit 0))) (.block 1 (.seq (.ops [⟨true,none,some 14,33,.move (.tmp 0)⟩,⟨true,none,some 15,3,.move (.tmp 6)⟩,⟨true,none,some 16,33,.move (.tmp 0)⟩,⟨true,none,some 17,3,.move (.tmp 7)⟩,⟨true,none,some 18,33,.move (.tmp 0)⟩,⟨true,none,some 19,3,.move (.tmp 7)⟩,⟨true,none,some 20,0,.indexAddr 33 (.tmp 18) (.tmp 19)⟩,⟨true,none,some 21,3,.load 3 (.tmp 20)⟩,⟨true,none,some 22,33,.move (.tmp 0)⟩,⟨true,none,some 23,3,.move (.tmp 6)⟩,⟨true,none,some 24,0,.indexAddr 33 (.tmp 22) (.tmp 23)⟩,⟨true,none,some 25,3,.load 3 (.tmp 24)⟩,⟨true,none,some 26,0,.indexAddr 33 (.tmp 14) (.tmp 15)⟩,⟨false,none,none,0,.store 3 (.tmp 26) (.tmp 21)⟩,⟨true,none,some 27,0,.indexAddr 33 (.tmp 16) (.tmp 17)⟩,⟨false,none,none,0,.store 3 (.tmp 27) (.tmp 25)⟩]) (.seq (.ops [⟨false,none,some 28,3,.move (.tmp 6)⟩,⟨false,none,some 29,3,.binOp .add 3 (.tmp 28) (.const (.int .i64 1)) 3⟩,⟨false,none,some 6,3,.assign (.tmp 29)⟩]) (.ops [⟨false,none,some 30,3,.move (.tmp 7)⟩,⟨false,none,some 31,3,.binOp .sub 3 (.tmp 30) (.const (.int .i64 1)) 3⟩,⟨false,none,some 7,3,.assign (.tmp 31)⟩]))))
noncomputable def mc157:MC:=.seq (.ops [⟨false,none,some 8,3,.move (.tmp 1)⟩,⟨false,none,some 6,3,.assign (.tmp 8)⟩]) (.seq (.ops [⟨false,none,some 9,3,.move (.tmp 2)⟩,⟨false,none,some 10,3,.binOp .sub 3 (.tmp 9) (.const (.int .i64 1)) 3⟩,⟨false,none,some 7,3,.assign (.tmp 10)⟩]) (.block 0 (.loop mc157_l0)))
theorem text157:textF Tryz.prog 157=some (32,[],mc157):=by kernel_rfl
noncomputable def mc158_l1:MC:=.seq (.seq (.ops [⟨true,none,some 17,3,.move (.tmp 7)⟩,⟨true,none,some 18,3,.move (.tmp 2)⟩,⟨true,none,some 19,4,.binOp .lss 3 (.tmp 17) (.tmp 18) 3⟩,⟨true,none,some 20,4,.move (.tmp 19)⟩,⟨true,some (20,true),some 21,33,.move (.tmp 0)⟩,⟨true,some (20,true),some 22,3,.move (.tmp 7)⟩,⟨true,some (20,true),some 23,0,.indexAddr 33 (.tmp 21) (.tmp 22)⟩,⟨true,some (20,true),some 24,3,.load 3 (.tmp 23)⟩,⟨true,some (20,true),some 25,33,.move (.tmp 0)⟩,⟨true,some (20,true),some 26,3,.move (.tmp 7)⟩,⟨true,some (20,true),some 27,3,.binOp .sub 3 (.tmp 26) (.const (.int .i64 1)) 3⟩,⟨true,some (20,true),some 28,0,.indexAddr 33 (.tmp 25) (.tmp 27)⟩,⟨true,some (20,true),some 29,3,.load 3 (.tmp 28)⟩,⟨false,some (20,true),some 30,4,.call ⟨.value (.func 159),#[.tmp 24,.tmp 29],#[3,3]⟩⟩,⟨true,some (20,true),some 31,4,.unOp .not 4 (.tmp 30)⟩,⟨true,none,some 32,4,.pick (.tmp 20) (.tmp 31) (.const (.bool false))⟩]) (.cond (.tmp 32) (.skip) (.exit 2))) (.block 3 (.ops [⟨false,none,some 33,3,.move (.tmp 7)⟩,⟨false,none,some 34,3,.binOp .add 3 (.tmp 33) (.const (.int .i64 1)) 3⟩,⟨false,none,some 7,3,.assign (.tmp 34)⟩]))
noncomputable def mc158_l2:MC:=.seq (.seq (.ops [⟨false,none,some 64,3,.move (.tmp 9)⟩,⟨false,none,some 65,4,.binOp .geq 3 (.tmp 64) (.const (.int .i64 1)) 3⟩]) (.cond (.tmp 65) (.skip) (.exit 4))) (.seq (.block 5 (.seq (.seq (.ops [⟨true,none,some 68,33,.move (.tmp 0)⟩,⟨true,none,some 69,3,.move (.tmp 9)⟩,⟨true,none,some 70,0,.indexAddr 33 (.tmp 68) (.tmp 69)⟩,⟨true,none,some 71,3,.load 3 (.tmp 70)⟩,⟨true,none,some 72,33,.move (.tmp 0)⟩,⟨true,none,some 73,3,.move (.tmp 9)⟩,⟨true,none,some 74,3,.binOp .sub 3 (.tmp 73) (.const (.int .i64 1)) 3⟩,⟨true,none,some 75,0,.indexAddr 33 (.tmp 72) (.tmp 74)⟩,⟨true,none,some 76,3,.load 3 (.tmp 75)⟩,⟨false,none,some 77,4,.call ⟨.value (.func 159),#[.tmp 71,.tmp 76],#[3,3]⟩⟩,⟨true,none,some 78,4,.unOp .not 4 (.tmp 77)⟩]) (.cond (.tmp 78) (.exit 4) (.skip))) (.ops [⟨true,none,some 79,33,.move (.tmp 0)⟩,⟨true,none,some 80,3,.move (.tmp 9)⟩,⟨true,none,some 81,33,.move (.tmp 0)⟩,⟨true,none,some 82,3,.move (.tmp 9)⟩,⟨true,none,some 83,3,.binOp .sub 3 (.tmp 82) (.const (.int .i64 1)) 3⟩,⟨true,none,some 84,33,.move (.tmp 0)⟩,⟨true,none,some 85,3,.move (.tmp 9)⟩,⟨true,none,some 86,3,.binOp .sub 3 (.tmp 85) (.const (.int .i64 1)) 3⟩,⟨true,none,some 87,0,.indexAddr 33 (.tmp 84) (.tmp 86)⟩,⟨true,none,some 88,3,.load 3 (.tmp 87)⟩,⟨true,none,some 89,33,.move (.tmp 0)⟩,⟨true,none,some 90,3,.move (.tmp 9)⟩,⟨true,none,some 91,0,.indexAddr 33 (.tmp 89) (.tmp 90)⟩,⟨true,none,some 92,3,.load 3 (.tmp 91)⟩,⟨true,none,some 93,0,.indexAddr 33 (.tmp 79) (.tmp 80)⟩,⟨false,none,none,0,.store 3 (.tmp 93) (.tmp 88)⟩,⟨true,none,some 94,0,.indexAddr 33 (.tmp 81) (.tmp 83)⟩,⟨false,none,none,0,.store 3 (.tmp 94) (.tmp 92)⟩]))) (.ops [⟨false,none,some 66,3,.move (.tmp 9)⟩,⟨false,none,some 67,3,.binOp .sub 3 (.tmp 66) (.const (.int .i64 1)) 3⟩,⟨false,none,some 9,3,.assign (.tmp 67)⟩]))
noncomputable def mc158_l3:MC:=.seq (.seq (.ops [⟨false,none,some 101,3,.move (.tmp 10)⟩,⟨false,none,some 102,3,.move (.tmp 2)⟩,⟨false,none,some 103,4,.binOp .lss 3 (.tmp 101) (.tmp 102) 3⟩]) (.cond (.tmp 103) (.skip) (.exit 6))) (.seq (.block 7 (.seq (.seq (.ops [⟨true,none,some 106,33,.move (.tmp 0)⟩,⟨true,none,some 107,3,.move (.tmp 10)⟩,⟨true,none,some 108,0,.indexAddr 33 (.tmp 106) (.tmp 107)⟩,⟨true,none,some 109,3,.load 3 (.tmp 108)⟩,⟨true,none,some 110,33,.move (.tmp 0)⟩,⟨true,none,some 111,3,.move (.tmp 10)⟩,⟨true,none,some 112,3,.binOp .sub 3 (.tmp 111) (.const (.int .i64 1)) 3⟩,⟨true,none,some 113,0,.indexAddr 33 (.tmp 110) (.tmp 112)⟩,⟨true,none,some 114,3,.load 3 (.tmp 113)⟩,⟨false,none,some 115,4,.call ⟨.value (.func 159),#[.tmp 109,.tmp 114],#[3,3]⟩⟩,⟨true,none,some 116,4,.unOp .not 4 (.tmp 115)⟩]) (.cond (.tmp 116) (.exit 6) (.skip))) (.ops [⟨true,none,some 117,33,.move (.tmp 0)⟩,⟨true,none,some 118,3,.move (.tmp 10)⟩,⟨true,none,some 119,33,.move (.tmp 0)⟩,⟨true,none,some 120,3,.move (.tmp 10)⟩,⟨true,none,some 121,3,.binOp .sub 3 (.tmp 120) (.const (.int .i64 1)) 3⟩,⟨true,none,some 122,33,.move (.tmp 0)⟩,⟨true,none,some 123,3,.move (.tmp 10)⟩,⟨true,none,some 124,3,.binOp .sub 3 (.tmp 123) (.const (.int .i64 1)) 3⟩,⟨true,none,some 125,0,.indexAddr 33 (.tmp 122) (.tmp 124)⟩,⟨true,none,some 126,3,.load 3 (.tmp 125)⟩,⟨true,none,some 127,33,.move (.tmp 0)⟩,⟨true,none,some 128,3,.move (.tmp 10)⟩,⟨true,none,some 129,0,.indexAddr 33 (.tmp 127) (.tmp 128)⟩,⟨true,none,some 130,3,.load 3 (.tmp 129)⟩,⟨true,none,some 131,0,.indexAddr 33 (.tmp 117) (.tmp 118)⟩,⟨false,none,none,0,.store 3 (.tmp 131) (.tmp 126)⟩,⟨true,none,some 132,0,.indexAddr 33 (.tmp 119) (.tmp 121)⟩,⟨false,none,none,0,.store 3 (.tmp 132) (.tmp 130)⟩]))) (.ops [⟨false,none,some 104,3,.move (.tmp 10)⟩,⟨false,none,some 105,3,.binOp .add 3 (.tmp 104) (.const (.int .i64 1)) 3⟩,⟨false,none,some 10,3,.assign (.tmp 105)⟩]))
noncomputable def mc158_l0:MC:=.seq (.seq (.ops [⟨false,none,some 13,3,.move (.tmp 8)⟩,⟨false,none,some 14,4,.binOp .lss 3 (.tmp 13) (.const (.int .i64 5)) 3⟩]) (.cond (.tmp 14) (.skip) (.exit 0))) (.seq (.block 1 (.seq (.block 2 (.loop mc158_l1)) (.seq (.seq (.ops [⟨false,none,some 35,3,.move (.tmp 7)⟩,⟨false,none,some 36,3,.move (.tmp 2)⟩,⟨false,none,some 37,4,.binOp .eql 3 (.tmp 35) (.tmp 36) 3⟩]) (.cond (.tmp 37) (.seq (.ops [⟨false,none,some 6,4,.assign (.const (.bool true))⟩]) (.ret)) (.skip))) (.seq (.seq (.ops [⟨false,none,some 38,3,.move (.tmp 2)⟩,⟨false,none,some 39,3,.move (.tmp 1)⟩,⟨false,none,some 40,3,.binOp .sub 3 (.tmp 38) (.tmp 39) 3⟩,⟨false,none,some 41,4,.binOp .lss 3 (.tmp 40) (.const (.int .i64 50)) 3⟩]) (.cond (.tmp 41) (.seq (.ops [⟨false,none,some 6,4,.assign (.const (.bool false))⟩]) (.ret)) (.skip))) (.seq (.ops [⟨true,none,some 42,33,.move (.tmp 0)⟩,⟨true,none,some 43,3,.move (.tmp 7)⟩,⟨true,none,some 44,33,.move (.tmp 0)⟩,⟨true,none,some 45,3,.move (.tmp 7)⟩,⟨true,none,some 46,3,.binOp .sub 3 (.tmp 45) (.const (.int .i64 1)) 3⟩,⟨true,none,some 47,33,.move (.tmp 0)⟩,⟨true,none,some 48,3,.move (.tmp 7)⟩,⟨true,none,some 49,3,.binOp .sub 3 (.tmp 48) (.const (.int .i64 1)) 3⟩,⟨true,none,some 50,0,.indexAddr 33 (.tmp 47) (.tmp 49)⟩,⟨true,none,some 51,3,.load 3 (.tmp 50)⟩,⟨true,none,some 52,33,.move (.tmp 0)⟩,⟨true,none,some 53,3,.move (.tmp 7)⟩,⟨true,none,some 54,0,.indexAddr 33 (.tmp 52) (.tmp 53)⟩,⟨true,none,some 55,3,.load 3 (.tmp 54)⟩,⟨true,none,some 56,0,.indexAddr 33 (.tmp 42) (.tmp 43)⟩,⟨false,none,none,0,.store 3 (.tmp 56) (.tmp 51)⟩,⟨true,none,some 57,0,.indexAddr 33 (.tmp 44) (.tmp 46)⟩,⟨false,none,none,0,.store 3 (.tmp 57) (.tmp 55)⟩]) (.seq (.seq (.ops [⟨false,none,some 58,3,.move (.tmp 7)⟩,⟨false,none,some 59,3,.move (.tmp 1)⟩,⟨false,none,some 60,3,.binOp .sub 3 (.tmp 58) (.tmp 59) 3⟩,⟨false,none,some 61,4,.binOp .geq 3 (.tmp 60) (.const (.int .i64 2)) 3⟩]) (.cond (.tmp 61) (.seq (.ops [⟨false,none,some 62,3,.move (.tmp 7)⟩,⟨false,none,some 63,3,.binOp .sub 3 (.tmp 62) (.const (.int .i64 1)) 3⟩,⟨false,none,some 9,3,.assign (.tmp 63)⟩]) (.block 4 (.loop mc158_l2))) (.skip))) (.seq (.ops [⟨false,none,some 95,3,.move (.tmp 2)⟩,⟨false,none,some 96,3,.move (.tmp 7)⟩,⟨false,none,some 97,3,.binOp .sub 3 (.tmp 95) (.tmp 96) 3⟩,⟨false,none,some 98,4,.binOp .geq 3 (.tmp 97) (.const (.int .i64 2)) 3⟩]) (.cond (.tmp 98) (.seq (.ops [⟨false,none,some 99,3,.move (.tmp 7)⟩,⟨false,none,some 100,3,.binOp .add 3 (.tmp 99) (.const (.int .i64 1)) 3⟩,⟨false,none,some 10,3,.assign (.tmp 100)⟩]) (.block 6 (.loop mc158_l3))) (.skip))))))))) (.ops [⟨false,none,some 15,3,.move (.tmp 8)⟩,⟨false,none,some 16,3,.binOp .add 3 (.tmp 15) (.const (.int .i64 1)) 3⟩,⟨false,none,some 8,3,.assign (.tmp 16)⟩]))
noncomputable def mc158:MC:=.seq (.ops [⟨false,none,some 6,4,.assign (.const (.bool false))⟩]) (.seq (.ops [⟨false,none,some 11,3,.move (.tmp 1)⟩,⟨false,none,some 12,3,.binOp .add 3 (.tmp 11) (.const (.int .i64 1)) 3⟩,⟨false,none,some 7,3,.assign (.tmp 12)⟩]) (.seq (.seq (.ops [⟨false,none,some 8,3,.assign (.const (.int .i64 0))⟩]) (.block 0 (.loop mc158_l0))) (.seq (.ops [⟨false,none,some 6,4,.assign (.const (.bool false))⟩]) (.ret))))
theorem text158:textF Tryz.prog 158=some (133,[.tmp 6],mc158):=by kernel_rfl
noncomputable def mc159:MC:=.seq (.ops [⟨false,none,some 4,4,.assign (.const (.bool false))⟩]) (.seq (.ops [⟨false,none,some 5,3,.move (.tmp 0)⟩,⟨false,none,some 6,4,.call ⟨.value (.func 142),#[.tmp 5],#[3]⟩⟩,⟨false,none,some 7,4,.move (.tmp 6)⟩,⟨false,some (7,true),some 8,3,.move (.tmp 1)⟩,⟨false,some (7,true),some 9,4,.call ⟨.value (.func 142),#[.tmp 8],#[3]⟩⟩,⟨false,some (7,true),some 10,4,.unOp .not 4 (.tmp 9)⟩,⟨false,none,some 11,4,.pick (.tmp 7) (.tmp 10) (.const (.bool false))⟩,⟨false,none,some 12,4,.move (.tmp 11)⟩,⟨false,some (12,false),some 13,3,.move (.tmp 0)⟩,⟨false,some (12,false),some 14,3,.move (.tmp 1)⟩,⟨false,some (12,false),some 15,4,.binOp .lss 3 (.tmp 13) (.tmp 14) 3⟩,⟨false,none,some 16,4,.pick (.tmp 12) (.const (.bool true)) (.tmp 15)⟩,⟨false,none,some 4,4,.assign (.tmp 16)⟩]) (.ret))
theorem text159:textF Tryz.prog 159=some (17,[.tmp 4],mc159):=by kernel_rfl
noncomputable def mc160_l1:MC:=.seq (.seq (.ops [⟨true,none,some 29,3,.move (.tmp 9)⟩,⟨true,none,some 30,3,.move (.tmp 10)⟩,⟨true,none,some 31,4,.binOp .leq 3 (.tmp 29) (.tmp 30) 3⟩,⟨true,none,some 32,4,.move (.tmp 31)⟩,⟨true,some (32,true),some 33,33,.move (.tmp 0)⟩,⟨true,some (32,true),some 34,3,.move (.tmp 1)⟩,⟨true,some (32,true),some 35,0,.indexAddr 33 (.tmp 33) (.tmp 34)⟩,⟨true,some (32,true),some 36,3,.load 3 (.tmp 35)⟩,⟨true,some (32,true),some 37,33,.move (.tmp 0)⟩,⟨true,some (32,true),some 38,3,.move (.tmp 9)⟩,⟨true,some (32,true),some 39,0,.indexAddr 33 (.tmp 37) (.tmp 38)⟩,⟨true,some (32,true),some 40,3,.load 3 (.tmp 39)⟩,⟨false,some (32,true),some 41,4,.call ⟨.value (.func 159),#[.tmp 36,.tmp 40],#[3,3]⟩⟩,⟨true,some (32,true),some 42,4,.unOp .not 4 (.tmp 41)⟩,⟨true,none,some 43,4,.pick (.tmp 32) (.tmp 42) (.const (.bool false))⟩]) (.cond (.tmp 43) (.skip) (.exit 2))) (.block 3 (.ops [⟨false,none,some 44,3,.move (.tmp 9)⟩,⟨false,none,some 45,3,.binOp .add 3 (.tmp 44) (.const (.int .i64 1)) 3⟩,⟨false,none,some 9,3,.assign (.tmp 45)⟩]))
noncomputable def mc160_l2:MC:=.seq (.seq (.ops [⟨true,none,some 46,3,.move (.tmp 9)⟩,⟨true,none,some 47,3,.move (.tmp 10)⟩,⟨true,none,some 48,4,.binOp .leq 3 (.tmp 46) (.tmp 47) 3⟩,⟨true,none,some 49,4,.move (.tmp 48)⟩,⟨true,some (49,true),some 50,33,.move (.tmp 0)⟩,⟨true,some (49,true),some 51,3,.move (.tmp 1)⟩,⟨true,some (49,true),some 52,0,.indexAddr 33 (.tmp 50) (.tmp 51)⟩,⟨true,some (49,true),some 53,3,.load 3 (.tmp 52)⟩,⟨true,some (49,true),some 54,33,.move (.tmp 0)⟩,⟨true,some (49,true),some 55,3,.move (.tmp 10)⟩,⟨true,some (49,true),some 56,0,.indexAddr 33 (.tmp 54) (.tmp 55)⟩,⟨true,some (49,true),some 57,3,.load 3 (.tmp 56)⟩,⟨false,some (49,true),some 58,4,.call ⟨.value (.func 159),#[.tmp 53,.tmp 57],#[3,3]⟩⟩,⟨true,none,some 59,4,.pick (.tmp 49) (.tmp 58) (.const (.bool false))⟩]) (.cond (.tmp 59) (.skip) (.exit 4))) (.block 5 (.ops [⟨false,none,some 60,3,.move (.tmp 10)⟩,⟨false,none,some 61,3,.binOp .sub 3 (.tmp 60) (.const (.int .i64 1)) 3⟩,⟨false,none,some 10,3,.assign (.tmp 61)⟩]))
noncomputable def mc160_l0:MC:=.block 1 (.seq (.block 2 (.loop mc160_l1)) (.seq (.block 4 (.loop mc160_l2)) (.seq (.seq (.ops [⟨false,none,some 62,3,.move (.tmp 9)⟩,⟨false,none,some 63,3,.move (.tmp 10)⟩,⟨false,none,some 64,4,.binOp .gtr 3 (.tmp 62) (.tmp 63) 3⟩]) (.cond (.tmp 64) (.exit 0) (.skip))) (.seq (.ops [⟨true,none,some 65,33,.move (.tmp 0)⟩,⟨true,none,some 66,3,.move (.tmp 9)⟩,⟨true,none,some 67,33,.move (.tmp 0)⟩,⟨true,none,some 68,3,.move (.tmp 10)⟩,⟨true,none,some 69,33,.move (.tmp 0)⟩,⟨true,none,some 70,3,.move (.tmp 10)⟩,⟨true,none,some 71,0,.indexAddr 33 (.tmp 69) (.tmp 70)⟩,⟨true,none,some 72,3,.load 3 (.tmp 71)⟩,⟨true,none,some 73,33,.move (.tmp 0)⟩,⟨true,none,some 74,3,.move (.tmp 9)⟩,⟨true,none,some 75,0,.indexAddr 33 (.tmp 73) (.tmp 74)⟩,⟨true,none,some 76,3,.load 3 (.tmp 75)⟩,⟨true,none,some 77,0,.indexAddr 33 (.tmp 65) (.tmp 66)⟩,⟨false,none,none,0,.store 3 (.tmp 77) (.tmp 72)⟩,⟨true,none,some 78,0,.indexAddr 33 (.tmp 67) (.tmp 68)⟩,⟨false,none,none,0,.store 3 (.tmp 78) (.tmp 76)⟩]) (.seq (.ops [⟨false,none,some 79,3,.move (.tmp 9)⟩,⟨false,none,some 80,3,.binOp .add 3 (.tmp 79) (.const (.int .i64 1)) 3⟩,⟨false,none,some 9,3,.assign (.tmp 80)⟩]) (.ops [⟨false,none,some 81,3,.move (.tmp 10)⟩,⟨false,none,some 82,3,.binOp .sub 3 (.tmp 81) (.const (.int .i64 1)) 3⟩,⟨false,none,some 10,3,.assign (.tmp 82)⟩]))))))
noncomputable def mc160:MC:=.seq (.ops [⟨false,none,some 8,3,.assign (.const (.int .i64 0))⟩]) (.seq (.ops [⟨true,none,some 11,33,.move (.tmp 0)⟩,⟨true,none,some 12,3,.move (.tmp 1)⟩,⟨true,none,some 13,33,.move (.tmp 0)⟩,⟨true,none,some 14,3,.move (.tmp 3)⟩,⟨true,none,some 15,33,.move (.tmp 0)⟩,⟨true,none,some 16,3,.move (.tmp 3)⟩,⟨true,none,some 17,0,.indexAddr 33 (.tmp 15) (.tmp 16)⟩,⟨true,none,some 18,3,.load 3 (.tmp 17)⟩,⟨true,none,some 19,33,.move (.tmp 0)⟩,⟨true,none,some 20,3,.move (.tmp 1)⟩,⟨true,none,some 21,0,.indexAddr 33 (.tmp 19) (.tmp 20)⟩,⟨true,none,some 22,3,.load 3 (.tmp 21)⟩,⟨true,none,some 23,0,.indexAddr 33 (.tmp 11) (.tmp 12)⟩,⟨false,none,none,0,.store 3 (.tmp 23) (.tmp 18)⟩,⟨true,none,some 24,0,.indexAddr 33 (.tmp 13) (.tmp 14)⟩,⟨false,none,none,0,.store 3 (.tmp 24) (.tmp 22)⟩]) (.seq (.ops [⟨false,none,some 25,3,.move (.tmp 1)⟩,⟨false,none,some 26,3,.binOp .add 3 (.tmp 25) (.const (.int .i64 1)) 3⟩,⟨false,none,some 27,3,.move (.tmp 2)⟩,⟨false,none,some 28,3,.binOp .sub 3 (.tmp 27) (.const (.int .i64 1)) 3⟩,⟨false,none,some 9,3,.assign (.tmp 26)⟩,⟨false,none,some 10,3,.assign (.tmp 28)⟩]) (.seq (.block 0 (.loop mc160_l0)) (.seq (.ops [⟨false,none,some 83,3,.move (.tmp 9)⟩,⟨false,none,some 8,3,.assign (.tmp 83)⟩]) (.ret)))))
theorem text160:textF Tryz.prog 160=some (84,[.tmp 8],mc160):=by kernel_rfl
noncomputable def mc161_l0:MC:=.seq (.seq (.ops [⟨true,none,some 30,3,.move (.tmp 10)⟩,⟨true,none,some 31,3,.move (.tmp 11)⟩,⟨true,none,some 32,4,.binOp .leq 3 (.tmp 30) (.tmp 31) 3⟩,⟨true,none,some 33,4,.move (.tmp 32)⟩,⟨true,some (33,true),some 34,33,.move (.tmp 0)⟩,⟨true,some (33,true),some 35,3,.move (.tmp 10)⟩,⟨true,some (33,true),some 36,0,.indexAddr 33 (.tmp 34) (.tmp 35)⟩,⟨true,some (33,true),some 37,3,.load 3 (.tmp 36)⟩,⟨true,some (33,true),some 38,33,.move (.tmp 0)⟩,⟨true,some (33,true),some 39,3,.move (.tmp 1)⟩,⟨true,some (33,true),some 40,0,.indexAddr 33 (.tmp 38) (.tmp 39)⟩,⟨true,some (33,true),some 41,3,.load 3 (.tmp 40)⟩,⟨false,some (33,true),some 42,4,.call ⟨.value (.func 159),#[.tmp 37,.tmp 41],#[3,3]⟩⟩,⟨true,none,some 43,4,.pick (.tmp 33) (.tmp 42) (.const (.bool false))⟩]) (.cond (.tmp 43) (.skip) (.exit 0))) (.block 1 (.ops [⟨false,none,some 44,3,.move (.tmp 10)⟩,⟨false,none,some 45,3,.binOp .add 3 (.tmp 44) (.const (.int .i64 1)) 3⟩,⟨false,none,some 10,3,.assign (.tmp 45)⟩]))
noncomputable def mc161_l1:MC:=.seq (.seq (.ops [⟨true,none,some 46,3,.move (.tmp 10)⟩,⟨true,none,some 47,3,.move (.tmp 11)⟩,⟨true,none,some 48,4,.binOp .leq 3 (.tmp 46) (.tmp 47) 3⟩,⟨true,none,some 49,4,.move (.tmp 48)⟩,⟨true,some (49,true),some 50,33,.move (.tmp 0)⟩,⟨true,some (49,true),some 51,3,.move (.tmp 11)⟩,⟨true,some (49,true),some 52,0,.indexAddr 33 (.tmp 50) (.tmp 51)⟩,⟨true,some (49,true),some 53,3,.load 3 (.tmp 52)⟩,⟨true,some (49,true),some 54,33,.move (.tmp 0)⟩,⟨true,some (49,true),some 55,3,.move (.tmp 1)⟩,⟨true,some (49,true),some 56,0,.indexAddr 33 (.tmp 54) (.tmp 55)⟩,⟨true,some (49,true),some 57,3,.load 3 (.tmp 56)⟩,⟨false,some (49,true),some 58,4,.call ⟨.value (.func 159),#[.tmp 53,.tmp 57],#[3,3]⟩⟩,⟨true,some (49,true),some 59,4,.unOp .not 4 (.tmp 58)⟩,⟨true,none,some 60,4,.pick (.tmp 49) (.tmp 59) (.const (.bool false))⟩]) (.cond (.tmp 60) (.skip) (.exit 2))) (.block 3 (.ops [⟨false,none,some 61,3,.move (.tmp 11)⟩,⟨false,none,some 62,3,.binOp .sub 3 (.tmp 61) (.const (.int .i64 1)) 3⟩,⟨false,none,some 11,3,.assign (.tmp 62)⟩]))
noncomputable def mc161_l3:MC:=.seq (.seq (.ops [⟨true,none,some 99,3,.move (.tmp 10)⟩,⟨true,none,some 100,3,.move (.tmp 11)⟩,⟨true,none,some 101,4,.binOp .leq 3 (.tmp 99) (.tmp 100) 3⟩,⟨true,none,some 102,4,.move (.tmp 101)⟩,⟨true,some (102,true),some 103,33,.move (.tmp 0)⟩,⟨true,some (102,true),some 104,3,.move (.tmp 10)⟩,⟨true,some (102,true),some 105,0,.indexAddr 33 (.tmp 103) (.tmp 104)⟩,⟨true,some (102,true),some 106,3,.load 3 (.tmp 105)⟩,⟨true,some (102,true),some 107,33,.move (.tmp 0)⟩,⟨true,some (102,true),some 108,3,.move (.tmp 1)⟩,⟨true,some (102,true),some 109,0,.indexAddr 33 (.tmp 107) (.tmp 108)⟩,⟨true,some (102,true),some 110,3,.load 3 (.tmp 109)⟩,⟨false,some (102,true),some 111,4,.call ⟨.value (.func 159),#[.tmp 106,.tmp 110],#[3,3]⟩⟩,⟨true,none,some 112,4,.pick (.tmp 102) (.tmp 111) (.const (.bool false))⟩]) (.cond (.tmp 112) (.skip) (.exit 6))) (.block 7 (.ops [⟨false,none,some 113,3,.move (.tmp 10)⟩,⟨false,none,some 114,3,.binOp .add 3 (.tmp 113) (.const (.int .i64 1)) 3⟩,⟨false,none,some 10,3,.assign (.tmp 114)⟩]))
noncomputable def mc161_l4:MC:=.seq (.seq (.ops [⟨true,none,some 115,3,.move (.tmp 10)⟩,⟨true,none,some 116,3,.move (.tmp 11)⟩,⟨true,none,some 117,4,.binOp .leq 3 (.tmp 115) (.tmp 116) 3⟩,⟨true,none,some 118,4,.move (.tmp 117)⟩,⟨true,some (118,true),some 119,33,.move (.tmp 0)⟩,⟨true,some (118,true),some 120,3,.move (.tmp 11)⟩,⟨true,some (118,true),some 121,0,.indexAddr 33 (.tmp 119) (.tmp 120)⟩,⟨true,some (118,true),some 122,3,.load 3 (.tmp 121)⟩,⟨true,some (118,true),some 123,33,.move (.tmp 0)⟩,⟨true,some (118,true),some 124,3,.move (.tmp 1)⟩,⟨true,some (118,true),some 125,0,.indexAddr 33 (.tmp 123) (.tmp 124)⟩,⟨true,some (118,true),some 126,3,.load 3 (.tmp 125)⟩,⟨false,some (118,true),some 127,4,.call ⟨.value (.func 159),#[.tmp 122,.tmp 126],#[3,3]⟩⟩,⟨true,some (118,true),some 128,4,.unOp .not 4 (.tmp 127)⟩,⟨true,none,some 129,4,.pick (.tmp 118) (.tmp 128) (.const (.bool false))⟩]) (.cond (.tmp 129) (.skip) (.exit 8))) (.block 9 (.ops [⟨false,none,some 130,3,.move (.tmp 11)⟩,⟨false,none,some 131,3,.binOp .sub 3 (.tmp 130) (.const (.int .i64 1)) 3⟩,⟨false,none,some 11,3,.assign (.tmp 131)⟩]))
noncomputable def mc161_l2:MC:=.block 5 (.seq (.block 6 (.loop mc161_l3)) (.seq (.block 8 (.loop mc161_l4)) (.seq (.seq (.ops [⟨false,none,some 132,3,.move (.tmp 10)⟩,⟨false,none,some 133,3,.move (.tmp 11)⟩,⟨false,none,some 134,4,.binOp .gtr 3 (.tmp 132) (.tmp 133) 3⟩]) (.cond (.tmp 134) (.exit 4) (.skip))) (.seq (.ops [⟨true,none,some 135,33,.move (.tmp 0)⟩,⟨true,none,some 136,3,.move (.tmp 10)⟩,⟨true,none,some 137,33,.move (.tmp 0)⟩,⟨true,none,some 138,3,.move (.tmp 11)⟩,⟨true,none,some 139,33,.move (.tmp 0)⟩,⟨true,none,some 140,3,.move (.tmp 11)⟩,⟨true,none,some 141,0,.indexAddr 33 (.tmp 139) (.tmp 140)⟩,⟨true,none,some 142,3,.load 3 (.tmp 141)⟩,⟨true,none,some 143,33,.move (.tmp 0)⟩,⟨true,none,some 144,3,.move (.tmp 10)⟩,⟨true,none,some 145,0,.indexAddr 33 (.tmp 143) (.tmp 144)⟩,⟨true,none,some 146,3,.load 3 (.tmp 145)⟩,⟨true,none,some 147,0,.indexAddr 33 (.tmp 135) (.tmp 136)⟩,⟨false,none,none,0,.store 3 (.tmp 147) (.tmp 142)⟩,⟨true,none,some 148,0,.indexAddr 33 (.tmp 137) (.tmp 138)⟩,⟨false,none,none,0,.store 3 (.tmp 148) (.tmp 146)⟩]) (.seq (.ops [⟨false,none,some 149,3,.move (.tmp 10)⟩,⟨false,none,some 150,3,.binOp .add 3 (.tmp 149) (.const (.int .i64 1)) 3⟩,⟨false,none,some 10,3,.assign (.tmp 150)⟩]) (.ops [⟨false,none,some 151,3,.move (.tmp 11)⟩,⟨false,none,some 152,3,.binOp .sub 3 (.tmp 151) (.const (.int .i64 1)) 3⟩,⟨false,none,some 11,3,.assign (.tmp 152)⟩]))))))
noncomputable def mc161:MC:=.seq (.ops [⟨false,none,some 8,3,.assign (.const (.int .i64 0))⟩,⟨false,none,some 9,4,.assign (.const (.bool false))⟩]) (.seq (.ops [⟨true,none,some 12,33,.move (.tmp 0)⟩,⟨true,none,some 13,3,.move (.tmp 1)⟩,⟨true,none,some 14,33,.move (.tmp 0)⟩,⟨true,none,some 15,3,.move (.tmp 3)⟩,⟨true,none,some 16,33,.move (.tmp 0)⟩,⟨true,none,some 17,3,.move (.tmp 3)⟩,⟨true,none,some 18,0,.indexAddr 33 (.tmp 16) (.tmp 17)⟩,⟨true,none,some 19,3,.load 3 (.tmp 18)⟩,⟨true,none,some 20,33,.move (.tmp 0)⟩,⟨true,none,some 21,3,.move (.tmp 1)⟩,⟨true,none,some 22,0,.indexAddr 33 (.tmp 20) (.tmp 21)⟩,⟨true,none,some 23,3,.load 3 (.tmp 22)⟩,⟨true,none,some 24,0,.indexAddr 33 (.tmp 12) (.tmp 13)⟩,⟨false,none,none,0,.store 3 (.tmp 24) (.tmp 19)⟩,⟨true,none,some 25,0,.indexAddr 33 (.tmp 14) (.tmp 15)⟩,⟨false,none,none,0,.store 3 (.tmp 25) (.tmp 23)⟩]) (.seq (.ops [⟨false,none,some 26,3,.move (.tmp 1)⟩,⟨false,none,some 27,3,.binOp .add 3 (.tmp 26) (.const (.int .i64 1)) 3⟩,⟨false,none,some 28,3,.move (.tmp 2)⟩,⟨false,none,some 29,3,.binOp .sub 3 (.tmp 28) (.const (.int .i64 1)) 3⟩,⟨false,none,some 10,3,.assign (.tmp 27)⟩,⟨false,none,some 11,3,.assign (.tmp 29)⟩]) (.seq (.block 0 (.loop mc161_l0)) (.seq (.block 2 (.loop mc161_l1)) (.seq (.seq (.ops [⟨false,none,some 63,3,.move (.tmp 10)⟩,⟨false,none,some 64,3,.move (.tmp 11)⟩,⟨false,none,some 65,4,.binOp .gtr 3 (.tmp 63) (.tmp 64) 3⟩]) (.cond (.tmp 65) (.seq (.ops [⟨true,none,some 66,33,.move (.tmp 0)⟩,⟨true,none,some 67,3,.move (.tmp 11)⟩,⟨true,none,some 68,33,.move (.tmp 0)⟩,⟨true,none,some 69,3,.move (.tmp 1)⟩,⟨true,none,some 70,33,.move (.tmp 0)⟩,⟨true,none,some 71,3,.move (.tmp 1)⟩,⟨true,none,some 72,0,.indexAddr 33 (.tmp 70) (.tmp 71)⟩,⟨true,none,some 73,3,.load 3 (.tmp 72)⟩,⟨true,none,some 74,33,.move (.tmp 0)⟩,⟨true,none,some 75,3,.move (.tmp 11)⟩,⟨true,none,some 76,0,.indexAddr 33 (.tmp 74) (.tmp 75)⟩,⟨true,none,some 77,3,.load 3 (.tmp 76)⟩,⟨true,none,some 78,0,.indexAddr 33 (.tmp 66) (.tmp 67)⟩,⟨false,none,none,0,.store 3 (.tmp 78) (.tmp 73)⟩,⟨true,none,some 79,0,.indexAddr 33 (.tmp 68) (.tmp 69)⟩,⟨false,none,none,0,.store 3 (.tmp 79) (.tmp 77)⟩]) (.seq (.ops [⟨false,none,some 80,3,.move (.tmp 11)⟩,⟨false,none,some 8,3,.assign (.tmp 80)⟩,⟨false,none,some 9,4,.assign (.const (.bool true))⟩]) (.ret))) (.skip))) (.seq (.ops [⟨true,none,some 81,33,.move (.tmp 0)⟩,⟨true,none,some 82,3,.move (.tmp 10)⟩,⟨true,none,some 83,33,.move (.tmp 0)⟩,⟨true,none,some 84,3,.move (.tmp 11)⟩,⟨true,none,some 85,33,.move (.tmp 0)⟩,⟨true,none,some 86,3,.move (.tmp 11)⟩,⟨true,none,some 87,0,.indexAddr 33 (.tmp 85) (.tmp 86)⟩,⟨true,none,some 88,3,.load 3 (.tmp 87)⟩,⟨true,none,some 89,33,.move (.tmp 0)⟩,⟨true,none,some 90,3,.move (.tmp 10)⟩,⟨true,none,some 91,0,.indexAddr 33 (.tmp 89) (.tmp 90)⟩,⟨true,none,some 92,3,.load 3 (.tmp 91)⟩,⟨true,none,some 93,0,.indexAddr 33 (.tmp 81) (.tmp 82)⟩,⟨false,none,none,0,.store 3 (.tmp 93) (.tmp 88)⟩,⟨true,none,some 94,0,.indexAddr 33 (.tmp 83) (.tmp 84)⟩,⟨false,none,none,0,.store 3 (.tmp 94) (.tmp 92)⟩]) (.seq (.ops [⟨false,none,some 95,3,.move (.tmp 10)⟩,⟨false,none,some 96,3,.binOp .add 3 (.tmp 95) (.const (.int .i64 1)) 3⟩,⟨false,none,some 10,3,.assign (.tmp 96)⟩]) (.seq (.ops [⟨false,none,some 97,3,.move (.tmp 11)⟩,⟨false,none,some 98,3,.binOp .sub 3 (.tmp 97) (.const (.int .i64 1)) 3⟩,⟨false,none,some 11,3,.assign (.tmp 98)⟩]) (.seq (.block 4 (.loop mc161_l2)) (.seq (.ops [⟨true,none,some 153,33,.move (.tmp 0)⟩,⟨true,none,some 154,3,.move (.tmp 11)⟩,⟨true,none,some 155,33,.move (.tmp 0)⟩,⟨true,none,some 156,3,.move (.tmp 1)⟩,⟨true,none,some 157,33,.move (.tmp 0)⟩,⟨true,none,some 158,3,.move (.tmp 1)⟩,⟨true,none,some 159,0,.indexAddr 33 (.tmp 157) (.tmp 158)⟩,⟨true,none,some 160,3,.load 3 (.tmp 159)⟩,⟨true,none,some 161,33,.move (.tmp 0)⟩,⟨true,none,some 162,3,.move (.tmp 11)⟩,⟨true,none,some 163,0,.indexAddr 33 (.tmp 161) (.tmp 162)⟩,⟨true,none,some 164,3,.load 3 (.tmp 163)⟩,⟨true,none,some 165,0,.indexAddr 33 (.tmp 153) (.tmp 154)⟩,⟨false,none,none,0,.store 3 (.tmp 165) (.tmp 160)⟩,⟨true,none,some 166,0,.indexAddr 33 (.tmp 155) (.tmp 156)⟩,⟨false,none,none,0,.store 3 (.tmp 166) (.tmp 164)⟩]) (.seq (.ops [⟨false,none,some 167,3,.move (.tmp 11)⟩,⟨false,none,some 8,3,.assign (.tmp 167)⟩,⟨false,none,some 9,4,.assign (.const (.bool false))⟩]) (.ret))))))))))))
theorem text161:textF Tryz.prog 161=some (168,[.tmp 8,.tmp 9],mc161):=by kernel_rfl
noncomputable def mc179_l0:MC:=.block 1 (.seq (.ops [⟨false,none,some 11,3,.move (.tmp 8)⟩,⟨false,none,some 12,3,.binOp .mul 3 (.const (.int .i64 2)) (.tmp 11) 3⟩,⟨false,none,some 13,3,.binOp .add 3 (.tmp 12) (.const (.int .i64 1)) 3⟩,⟨false,none,some 9,3,.assign (.tmp 13)⟩]) (.seq (.seq (.ops [⟨false,none,some 14,3,.move (.tmp 9)⟩,⟨false,none,some 15,3,.move (.tmp 2)⟩,⟨false,none,some 16,4,.binOp .geq 3 (.tmp 14) (.tmp 15) 3⟩]) (.cond (.tmp 16) (.exit 0) (.skip))) (.seq (.seq (.ops [⟨true,none,some 17,3,.move (.tmp 9)⟩,⟨true,none,some 18,3,.binOp .add 3 (.tmp 17) (.const (.int .i64 1)) 3⟩,⟨true,none,some 19,3,.move (.tmp 2)⟩,⟨true,none,some 20,4,.binOp .lss 3 (.tmp 18) (.tmp 19) 3⟩,⟨true,none,some 21,4,.move (.tmp 20)⟩,⟨true,some (21,true),some 22,33,.move (.tmp 0)⟩,⟨true,some (21,true),some 23,3,.move (.tmp 3)⟩,⟨true,some (21,true),some 24,3,.move (.tmp 9)⟩,⟨true,some (21,true),some 25,3,.binOp .add 3 (.tmp 23) (.tmp 24) 3⟩,⟨true,some (21,true),some 26,0,.indexAddr 33 (.tmp 22) (.tmp 25)⟩,⟨true,some (21,true),some 27,3,.load 3 (.tmp 26)⟩,⟨true,some (21,true),some 28,33,.move (.tmp 0)⟩,⟨true,some (21,true),some 29,3,.move (.tmp 3)⟩,⟨true,some (21,true),some 30,3,.move (.tmp 9)⟩,⟨true,some (21,true),some 31,3,.binOp .add 3 (.tmp 29) (.tmp 30) 3⟩,⟨true,some (21,true),some 32,3,.binOp .add 3 (.tmp 31) (.const (.int .i64 1)) 3⟩,⟨true,some (21,true),some 33,0,.indexAddr 33 (.tmp 28) (.tmp 32)⟩,⟨true,some (21,true),some 34,3,.load 3 (.tmp 33)⟩,⟨false,some (21,true),some 35,4,.call ⟨.value (.func 159),#[.tmp 27,.tmp 34],#[3,3]⟩⟩,⟨true,none,some 36,4,.pick (.tmp 21) (.tmp 35) (.const (.bool false))⟩]) (.cond (.tmp 36) (.ops [⟨false,none,some 37,3,.move (.tmp 9)⟩,⟨false,none,some 38,3,.binOp .add 3 (.tmp 37) (.const (.int .i64 1)) 3⟩,⟨false,none,some 9,3,.assign (.tmp 38)⟩]) (.skip))) (.seq (.seq (.ops [⟨true,none,some 39,33,.move (.tmp 0)⟩,⟨true,none,some 40,3,.move (.tmp 3)⟩,⟨true,none,some 41,3,.move (.tmp 8)⟩,⟨true,none,some 42,3,.binOp .add 3 (.tmp 40) (.tmp 41) 3⟩,⟨true,none,some 43,0,.indexAddr 33 (.tmp 39) (.tmp 42)⟩,⟨true,none,some 44,3,.load 3 (.tmp 43)⟩,⟨true,none,some 45,33,.move (.tmp 0)⟩,⟨true,none,some 46,3,.move (.tmp 3)⟩,⟨true,none,some 47,3,.move (.tmp 9)⟩,⟨true,none,some 48,3,.binOp .add 3 (.tmp 46) (.tmp 47) 3⟩,⟨true,none,some 49,0,.indexAddr 33 (.tmp 45) (.tmp 48)⟩,⟨true,none,some 50,3,.load 3 (.tmp 49)⟩,⟨false,none,some 51,4,.call ⟨.value (.func 159),#[.tmp 44,.tmp 50],#[3,3]⟩⟩,⟨true,none,some 52,4,.unOp .not 4 (.tmp 51)⟩]) (.cond (.tmp 52) (.ret) (.skip))) (.seq (.ops [⟨true,none,some 53,33,.move (.tmp 0)⟩,⟨true,none,some 54,3,.move (.tmp 3)⟩,⟨true,none,some 55,3,.move (.tmp 8)⟩,⟨true,none,some 56,3,.binOp .add 3 (.tmp 54) (.tmp 55) 3⟩,⟨true,none,some 57,33,.move (.tmp 0)⟩,⟨true,none,some 58,3,.move (.tmp 3)⟩,⟨true,none,some 59,3,.move (.tmp 9)⟩,⟨true,none,some 60,3,.binOp .add 3 (.tmp 58) (.tmp 59) 3⟩,⟨true,none,some 61,33,.move (.tmp 0)⟩,⟨true,none,some 62,3,.move (.tmp 3)⟩,⟨true,none,some 63,3,.move (.tmp 9)⟩,⟨true,none,some 64,3,.binOp .add 3 (.tmp 62) (.tmp 63) 3⟩,⟨true,none,some 65,0,.indexAddr 33 (.tmp 61) (.tmp 64)⟩,⟨true,none,some 66,3,.load 3 (.tmp 65)⟩,⟨true,none,some 67,33,.move (.tmp 0)⟩,⟨true,none,some 68,3,.move (.tmp 3)⟩,⟨true,none,some 69,3,.move (.tmp 8)⟩,⟨true,none,some 70,3,.binOp .add 3 (.tmp 68) (.tmp 69) 3⟩,⟨true,none,some 71,0,.indexAddr 33 (.tmp 67) (.tmp 70)⟩,⟨true,none,some 72,3,.load 3 (.tmp 71)⟩,⟨true,none,some 73,0,.indexAddr 33 (.tmp 53) (.tmp 56)⟩,⟨false,none,none,0,.store 3 (.tmp 73) (.tmp 66)⟩,⟨true,none,some 74,0,.indexAddr 33 (.tmp 57) (.tmp 60)⟩,⟨false,none,none,0,.store 3 (.tmp 74) (.tmp 72)⟩]) (.ops [⟨false,none,some 75,3,.move (.tmp 9)⟩,⟨false,none,some 8,3,.assign (.tmp 75)⟩]))))))
noncomputable def mc179:MC:=.seq (.ops [⟨false,none,some 10,3,.move (.tmp 1)⟩,⟨false,none,some 8,3,.assign (.tmp 10)⟩]) (.block 0 (.loop mc179_l0))
theorem text179:textF Tryz.prog 179=some (76,[],mc179):=by kernel_rfl
noncomputable def mc180:MC:=.seq (.ops [⟨false,none,some 6,3,.assign (.const (.int .i64 0))⟩]) (.seq (.ops [⟨false,none,some 7,33,.move (.tmp 0)⟩,⟨false,none,some 8,3,.move (.tmp 1)⟩,⟨false,none,some 9,3,.binOp .sub 3 (.tmp 8) (.const (.int .i64 1)) 3⟩,⟨false,none,some 10,3,.move (.tmp 1)⟩,⟨false,none,some 11,3,.move (.tmp 1)⟩,⟨false,none,some 12,3,.binOp .add 3 (.tmp 11) (.const (.int .i64 1)) 3⟩,⟨false,none,some 13,177,.move (.tmp 2)⟩,⟨false,none,some 14,3,.call ⟨.value (.func 181),#[.tmp 7,.tmp 9,.tmp 10,.tmp 12,.tmp 13],#[33,3,3,3,177]⟩⟩,⟨false,none,some 6,3,.assign (.tmp 14)⟩]) (.ret))
theorem text180:textF Tryz.prog 180=some (15,[.tmp 6],mc180):=by kernel_rfl
noncomputable def mc181:MC:=.seq (.ops [⟨false,none,some 10,3,.assign (.const (.int .i64 0))⟩]) (.seq (.ops [⟨false,none,some 12,33,.move (.tmp 0)⟩,⟨false,none,some 13,3,.move (.tmp 1)⟩,⟨false,none,some 14,3,.move (.tmp 2)⟩,⟨false,none,some 15,177,.move (.tmp 4)⟩,⟨false,none,some 16,198,.call ⟨.value (.func 196),#[.tmp 12,.tmp 13,.tmp 14,.tmp 15],#[33,3,3,177]⟩⟩,⟨false,none,some 11,198,.move (.tmp 16)⟩,⟨false,none,some 17,3,.extract (.tmp 11) 0⟩,⟨false,none,some 18,3,.extract (.tmp 11) 1⟩,⟨false,none,some 1,3,.assign (.tmp 17)⟩,⟨false,none,some 2,3,.assign (.tmp 18)⟩]) (.seq (.ops [⟨false,none,some 20,33,.move (.tmp 0)⟩,⟨false,none,some 21,3,.move (.tmp 2)⟩,⟨false,none,some 22,3,.move (.tmp 3)⟩,⟨false,none,some 23,177,.move (.tmp 4)⟩,⟨false,none,some 24,198,.call ⟨.value (.func 196),#[.tmp 20,.tmp 21,.tmp 22,.tmp 23],#[33,3,3,177]⟩⟩,⟨false,none,some 19,198,.move (.tmp 24)⟩,⟨false,none,some 25,3,.extract (.tmp 19) 0⟩,⟨false,none,some 26,3,.extract (.tmp 19) 1⟩,⟨false,none,some 2,3,.assign (.tmp 25)⟩,⟨false,none,some 3,3,.assign (.tmp 26)⟩]) (.seq (.ops [⟨false,none,some 28,33,.move (.tmp 0)⟩,⟨false,none,some 29,3,.move (.tmp 1)⟩,⟨false,none,some 30,3,.move (.tmp 2)⟩,⟨false,none,some 31,177,.move (.tmp 4)⟩,⟨false,none,some 32,198,.call ⟨.value (.func 196),#[.tmp 28,.tmp 29,.tmp 30,.tmp 31],#[33,3,3,177]⟩⟩,⟨false,none,some 27,198,.move (.tmp 32)⟩,⟨false,none,some 33,3,.extract (.tmp 27) 0⟩,⟨false,none,some 34,3,.extract (.tmp 27) 1⟩,⟨false,none,some 1,3,.assign (.tmp 33)⟩,⟨false,none,some 2,3,.assign (.tmp 34)⟩]) (.seq (.ops [⟨false,none,some 35,3,.move (.tmp 2)⟩,⟨false,none,some 10,3,.assign (.tmp 35)⟩]) (.ret)))))
theorem text181:textF Tryz.prog 181=some (36,[.tmp 10],mc181):=by kernel_rfl
noncomputable def mc196:MC:=.seq (.ops [⟨false,none,some 8,3,.assign (.const (.int .i64 0))⟩,⟨false,none,some 9,3,.assign (.const (.int .i64 0))⟩]) (.seq (.seq (.ops [⟨true,none,some 10,33,.move (.tmp 0)⟩,⟨true,none,some 11,3,.move (.tmp 2)⟩,⟨true,none,some 12,0,.indexAddr 33 (.tmp 10) (.tmp 11)⟩,⟨true,none,some 13,3,.load 3 (.tmp 12)⟩,⟨true,none,some 14,33,.move (.tmp 0)⟩,⟨true,none,some 15,3,.move (.tmp 1)⟩,⟨true,none,some 16,0,.indexAddr 33 (.tmp 14) (.tmp 15)⟩,⟨true,none,some 17,3,.load 3 (.tmp 16)⟩,⟨false,none,some 18,4,.call ⟨.value (.func 159),#[.tmp 13,.tmp 17],#[3,3]⟩⟩]) (.cond (.tmp 18) (.seq (.ops [⟨false,none,some 19,177,.move (.tmp 3)⟩,⟨false,none,some 20,0,.nilCheck (.tmp 19)⟩,⟨false,none,some 21,3,.load 3 (.tmp 20)⟩,⟨false,none,some 22,3,.binOp .add 3 (.tmp 21) (.const (.int .i64 1)) 3⟩,⟨false,none,some 23,0,.nilCheck (.tmp 19)⟩,⟨false,none,none,0,.store 3 (.tmp 23) (.tmp 22)⟩]) (.seq (.ops [⟨false,none,some 24,3,.move (.tmp 2)⟩,⟨false,none,some 25,3,.move (.tmp 1)⟩,⟨false,none,some 8,3,.assign (.tmp 24)⟩,⟨false,none,some 9,3,.assign (.tmp 25)⟩]) (.ret))) (.skip))) (.seq (.ops [⟨false,none,some 26,3,.move (.tmp 1)⟩,⟨false,none,some 27,3,.move (.tmp 2)⟩,⟨false,none,some 8,3,.assign (.tmp 26)⟩,⟨false,none,some 9,3,.assign (.tmp 27)⟩]) (.ret)))
theorem text196:textF Tryz.prog 196=some (28,[.tmp 8,.tmp 9],mc196):=by kernel_rfl
@[simp] theorem cf133 (w:AW) (l:List Value):callFn Tryz.prog w 133 l=.enter 133 l w:=callFn_enter text133 l
@[simp] theorem cf153 (w:AW) (l:List Value):callFn Tryz.prog w 153 l=.enter 153 l w:=callFn_enter text153 l
@[simp] theorem cf154 (w:AW) (l:List Value):callFn Tryz.prog w 154 l=.enter 154 l w:=callFn_enter text154 l
@[simp] theorem cf155 (w:AW) (l:List Value):callFn Tryz.prog w 155 l=.enter 155 l w:=callFn_enter text155 l
@[simp] theorem cf156 (w:AW) (l:List Value):callFn Tryz.prog w 156 l=.enter 156 l w:=callFn_enter text156 l
@[simp] theorem cf157 (w:AW) (l:List Value):callFn Tryz.prog w 157 l=.enter 157 l w:=callFn_enter text157 l
@[simp] theorem cf158 (w:AW) (l:List Value):callFn Tryz.prog w 158 l=.enter 158 l w:=callFn_enter text158 l
@[simp] theorem cf159 (w:AW) (l:List Value):callFn Tryz.prog w 159 l=.enter 159 l w:=callFn_enter text159 l
@[simp] theorem cf160 (w:AW) (l:List Value):callFn Tryz.prog w 160 l=.enter 160 l w:=callFn_enter text160 l
@[simp] theorem cf161 (w:AW) (l:List Value):callFn Tryz.prog w 161 l=.enter 161 l w:=callFn_enter text161 l
@[simp] theorem cf179 (w:AW) (l:List Value):callFn Tryz.prog w 179 l=.enter 179 l w:=callFn_enter text179 l
@[simp] theorem cf180 (w:AW) (l:List Value):callFn Tryz.prog w 180 l=.enter 180 l w:=callFn_enter text180 l
@[simp] theorem cf181 (w:AW) (l:List Value):callFn Tryz.prog w 181 l=.enter 181 l w:=callFn_enter text181 l
@[simp] theorem cf142 (w:AW) (l:List Value):callFn Tryz.prog w 142 l=.enter 142 l w:=callFn_enter text142 l
@[simp] theorem cf196 (w:AW) (l:List Value):callFn Tryz.prog w 196 l=.enter 196 l w:=callFn_enter text196 l
section
variable {α:Type} {C:α→List Value} {V:α→Value} {sz:Nat} {cI:α→α→Int} {fv:Value} {fc:FuncId} {ov:Ov}
structure SI (ov:Ov) (C:α→List Value) (V:α→Value) (sz:Nat) (cI:α→α→Int) (fv:Value) (fc:FuncId):Prop where
 T:SortT Tryz.prog 33 3 sz C V
 cm:∀ k w x y,(run Tryz.prog ov (k + 1)).call 159 [V x,V y] w .none=.ok (.ret (.bool (decide (cI x y < 0)))) w .none
 wk:Wk fun x y=>cI x y < 0
abbrev InI (C:α→List Value) (w0:AW) (B:Nat) (L:List α) (w:AW):Prop:=InS C 3 w0 B L w
theorem SI.ix (h:SI ov C V sz cI fv fc) {k n:Nat} (hk:k < n) {z:Int} (hz:z=(k:Int)) (B c:Nat) (w:AW):indexAddrA Tryz.prog w 33 (.slice (some ⟨B,0,none⟩) n c) (.int .i64 z)=.val (.pointer (some ⟨B,k * sz,none⟩)) w:=by
 subst hz; exact h.T.ix w B n c k hk
theorem SI.ld (h:SI ov C V sz cI fv fc) {w0 w:AW} {B k:Nat} {L:List α} {x:α} (hw:InI C w0 B L w) (hx:L[k]?=some x):loadA Tryz.prog w 3 (.pointer (some ⟨B,k * sz,none⟩))=.val (V x) w:=h.T.ld w B k L x hw.row hx
set_option maxHeartbeats 2000000 in
theorem insI_in (m:Nat) (h:SI ov C V sz cI fv fc) (n c:Nat) (hn:n≤200) (a i b:Nat) (hai:a≤i) (hib:i < b) (hbn:b≤n) (B:Nat) (w0:AW) (hl:w0.lim≤B) (L0:List α) (hL0:L0.length=n) (hs:Srt (fun x y=>cI x y < 0) L0 a i)
  (Q:Ex→Tm→AW→Prop) (t:Tm) (w:AW) (hw:InI C w0 B L0 w)
  (t0:tget t 0=.slice (some ⟨B,0,none⟩) n c) (t1:tget t 1=.int .i64 (a:Nat)) (t2:tget t 2=.int .i64 (b:Nat)) (t3:True) (t8:tget t 6=.int .i64 (i:Nat)) (t9:tget t 7=.int .i64 (i:Nat))
  (hQ:∀ t w L,InI C w0 B L w→Mv a b L0 L→Srt (fun x y=>cI x y < 0) L a (i + 1)→tget t 0=.slice (some ⟨B,0,none⟩) n c→tget t 1=.int .i64 (a:Nat)→tget t 2=.int .i64 (b:Nat)→True→tget t 6=.int .i64 (i:Nat)→Q (.exit 2) t w) :
  wp (exM Tryz.prog (run Tryz.prog ov (m + 1)) (.loop mc153_l1) t w) Q:=by
 refine wp_rounds (fun r t w=>∃ j L,j + r=i∧a≤j∧InI C w0 B L w∧Mv a b L0 L∧InsX (fun x y=>cI x y < 0) L a (i + 1) j∧tget t 0=.slice (some ⟨B,0,none⟩) n c∧tget t 1=.int .i64 (a:Nat)∧tget t 2=.int .i64 (b:Nat)∧True∧tget t 6=.int .i64 (i:Nat)∧tget t 7=.int .i64 (j:Nat)) 300 (by decide) ⟨i,L0,rfl,hai,hw,Mv.refl _ _ _,InsX.start hs,t0,t1,t2,t3,t8,t9⟩ ?_
 clear t0 t1 t2 t3 t8 t9 hw hs
 rintro r t w ⟨j,L,hj,haj,hw,hp,hs,t0,t1,t2,t3,t8,t9⟩
 have hlen:L.length=n:=by rw [hp.len,hL0]
 obtain ⟨za,hza⟩:∃ k:Int,k=(a:Int):=⟨_,rfl⟩
 obtain ⟨zb,hzb⟩:∃ k:Int,k=(b:Int):=⟨_,rfl⟩
 obtain ⟨zi,hzi⟩:∃ k:Int,k=(i:Int):=⟨_,rfl⟩
 obtain ⟨zj,hzj⟩:∃ k:Int,k=(j:Int):=⟨_,rfl⟩
 rw [← hza] at t1 hQ
 rw [← hzb] at t2 hQ
 rw [← hzi] at t8 hQ
 rw [← hzj] at t9
 by_cases hpos:a < j
 ·have hp0:za < zj:=by omega
  obtain ⟨x,hx⟩:=at_get (L:=L) (i:=j - 1) (by omega)
  obtain ⟨y,hy⟩:=at_get (L:=L) (i:=j) (by omega)
  have ixj:=h.ix (k:=j) (n:=n) (by omega) hzj B c
  obtain ⟨zk,hzk⟩:∃ k:Int,k=((j - 1:Nat):Int):=⟨_,rfl⟩
  have w3:IntKind.wrap .i64 (zj - 1)=zk:=by rw [wrap64_in (by omega) (by omega)]; omega
  have ixk:=h.ix (k:=j - 1) (n:=n) (by omega) hzk B c
  have ldj:=h.ld hw hy
  have ldk:=h.ld hw hx
  have cm:=h.cm m w y x
  by_cases hc:cI y x < 0
  ·obtain ⟨w1,w2,s1,s2,hw2⟩:=InS.swap h.T hw hl hy hx
   simp [mc153_l1,t0,t1,t2,t3,t8,t9,hp0,w3,ixj,ixk,ldj,ldk,cm,hc,s1,s2, -ld3, -st3]
   refine ⟨by omega,j - 1,by omega,by omega,_,hw2,hp.trans (Mv.swap hy hx (by omega) (by omega) (by omega) (by omega)),hs.step h.wk hpos hy hx hc,?_⟩
   simp [hza,hzb,hzi,hzk]
  ·simp [mc153_l1,t0,t1,t2,t3,t8,t9,hp0,w3,ixj,ixk,ldj,ldk,cm,hc, -ld3, -st3]
   exact hQ _ _ L hw hp (hs.stop h.wk (by omega) (fun x' y' _ h1 h2=>by rw [hx] at h1; rw [hy] at h2; cases h1; cases h2; exact hc)) (by simp [t0]) (by simp [t1]) (by simp [t2]) (by simp [t3]) (by simp [t8])
 ·have hp0:¬ za < zj:=by omega
  simp [mc153_l1,t0,t1,t2,t3,t8,t9,hp0]
  exact hQ _ _ L hw hp (hs.stop h.wk (by omega) (fun _ _ h0=>absurd h0 hpos)) (by simp [t0]) (by simp [t1]) (by simp [t2]) (by simp [t3]) (by simp [t8])
set_option maxHeartbeats 2000000 in
theorem insI_out (m:Nat) (h:SI ov C V sz cI fv fc) (n c:Nat) (hn:n≤200) (a b:Nat) (hab:a≤b) (hbn:b≤n) (B:Nat) (w0:AW) (hl:w0.lim≤B) (L0:List α) (hL0:L0.length=n)
  (Q:Ex→Tm→AW→Prop) (t:Tm) (w:AW) (hw:InI C w0 B L0 w)
  (t0:tget t 0=.slice (some ⟨B,0,none⟩) n c) (t1:tget t 1=.int .i64 (a:Nat)) (t2:tget t 2=.int .i64 (b:Nat)) (t3:True) (t8:tget t 6=.int .i64 ((a + 1:Nat):Int))
  (hQ:∀ t w L,InI C w0 B L w→Mv a b L0 L→Srt (fun x y=>cI x y < 0) L a b→Q (.exit 0) t w) :
  wp (exM Tryz.prog (run Tryz.prog ov (m + 1)) (.loop mc153_l0) t w) Q:=by
 refine wp_rounds (fun r t w=>∃ L,a + r≤b∧InI C w0 B L w∧Mv a b L0 L∧Srt (fun x y=>cI x y < 0) L a (a + r + 1)∧tget t 0=.slice (some ⟨B,0,none⟩) n c∧tget t 1=.int .i64 (a:Nat)∧tget t 2=.int .i64 (b:Nat)∧True∧tget t 6=.int .i64 ((a + r + 1:Nat):Int)) 300 (by decide) ⟨L0,by omega,hw,Mv.refl _ _ _,Srt.one _ (by omega),t0,t1,t2,t3,t8⟩ ?_
 clear t0 t1 t2 t3 t8 hw
 rintro r t w ⟨L,har,hw,hp,hs,t0,t1,t2,t3,t8⟩
 obtain ⟨zb,hzb⟩:∃ k:Int,k=(b:Int):=⟨_,rfl⟩
 obtain ⟨zi,hzi⟩:∃ k:Int,k=((a + r + 1:Nat):Int):=⟨_,rfl⟩
 have hlen:L.length=n:=by rw [hp.len,hL0]
 by_cases hlt:a + r + 1 < b
 ·have hlt':zi < zb:=by omega
  obtain ⟨zk,hzk⟩:∃ k:Int,k=((a + (r + 1) + 1:Nat):Int):=⟨_,rfl⟩
  have w1:IntKind.wrap .i64 (zi + 1)=zk:=by rw [wrap64_in (by omega) (by omega)]; omega
  rw [← hzi] at t8
  rw [← hzb] at t2
  simp [mc153_l0,t2,t8,hlt']
  refine wp_seqX (wp_blockX (wp_blockX (insI_in m h n c hn a (a + r + 1) b (by omega) hlt hbn B w0 hl L hlen hs _ _ _ hw ?_ ?_ ?_ ?_ ?_ ?_ ?_)))
  case _=>simp [t0]
  case _=>simp [t1]
  case _=>simp [t2,hzb]
  case _=>simp [t3]
  case _=>rw [← hzi]; simp [t8]
  case _=>rw [← hzi]; simp
  case _ =>
   intro t w L' hw' hp' hs' s0 s1 s2 s3 s8
   rw [← hzi] at s8
   simp [s0,s1,s2,s3,s8,w1]
   refine ⟨by omega,by omega,L',hw',hp.trans hp',hs',hzk⟩
 ·have hge:¬ zi < zb:=by omega
  rw [← hzi] at t8
  rw [← hzb] at t2
  simp [mc153_l0,t2,t8,hge]
  exact hQ _ _ L hw hp (hs.part (Nat.le_refl _) (by omega))
def LeftI (C:α→List Value) (w w':AW) (B a b:Nat) (L L':List α):Prop:=InI C w B L' w'∧Mv a b L L'
theorem call153 (m:Nat) (ho:∀ args w,ov 153 args w=none) (h:SI ov C V sz cI fv fc) (n c:Nat) (hn:n≤200) (a b:Nat) (hab:a≤b) (hbn:b≤n) (B:Nat) (L:List α) (hL:L.length=n) (w:AW) (hl:w.lim≤B) (hB:w.heap.get B=some (.cells (L.flatMap C) 3 false)) :
  ∃ x w',(run Tryz.prog ov (m + 2)).call 153 [.slice (some ⟨B,0,none⟩) n c,.int .i64 (a:Int),.int .i64 (b:Int)] w .none=.ok (.ret x) w' .none∧x=.tuple ⟨[]⟩∧∃ L',LeftI C w w' B a b L L'∧Srt (fun x y=>cI x y < 0) L' a b:=by
 refine call_wp text153 (by simp) (ho _ _) ?_
 obtain ⟨za,hza⟩:∃ k:Int,k=(a:Int):=⟨_,rfl⟩
 have w1:IntKind.wrap .i64 (za + 1)=((a + 1:Nat):Int):=by rw [wrap64_in (by omega) (by omega)]; omega
 rw [← hza]
 simp [mc153]
 refine wp_blockX (insI_out m h n c hn a b hab hbn B w hl L hL _ _ _ (InS.refl hB) ?_ ?_ ?_ ?_ ?_ ?_)
 case _=>simp
 case _=>simp [hza]
 case _=>simp
 case _=>simp
 case _=>simp [w1]
 case _ =>
  intro t w' L' hw hp hs
  simp [tupV]
  exact ⟨L',⟨hw,hp⟩,hs⟩
end
section
variable {α:Type} {C:α→List Value} {V:α→Value} {sz:Nat} {cI:α→α→Int} {fv:Value} {fc:FuncId} {ov:Ov}
set_option maxHeartbeats 2000000 in
theorem revI (m:Nat) (h:SI ov C V sz cI fv fc) (n c:Nat) (hn:n≤200) (a b:Nat) (hab:a≤b) (hbn:b≤n) (B:Nat) (w0:AW) (hl:w0.lim≤B) (L0:List α) (hL0:L0.length=n)
  (Q:Ex→Tm→AW→Prop) (t:Tm) (w:AW) (hw:InI C w0 B L0 w)
  (t0:tget t 0=.slice (some ⟨B,0,none⟩) n c) (t8:tget t 6=.int .i64 (a:Nat)) (t9:tget t 7=.int .i64 ((b:Int) - 1))
  (hQ:∀ t w L,InI C w0 B L w→Mv a b L0 L→Q (.exit 0) t w) :
  wp (exM Tryz.prog (run Tryz.prog ov (m + 1)) (.loop mc157_l0) t w) Q:=by
 refine wp_rounds (fun r t w=>∃ L,InI C w0 B L w∧Mv a b L0 L∧tget t 0=.slice (some ⟨B,0,none⟩) n c∧tget t 6=.int .i64 ((a + r:Nat):Int)∧tget t 7=.int .i64 ((b:Int) - 1 - (r:Int))∧a + r≤b) 300 (by decide) ⟨L0,hw,Mv.refl _ _ _,t0,t8,by simpa using t9,by omega⟩ ?_
 clear t0 t8 t9 hw
 rintro r t w ⟨L,hw,hp,t0,t8,t9,hr⟩
 have hlen:L.length=n:=by rw [hp.len,hL0]
 obtain ⟨z8,hz8⟩:∃ k:Int,k=((a + r:Nat):Int):=⟨_,rfl⟩
 obtain ⟨z9,hz9⟩:∃ k:Int,k=(b:Int) - 1 - (r:Int):=⟨_,rfl⟩
 rw [← hz8] at t8
 rw [← hz9] at t9
 by_cases hlt:z8 < z9
 ·obtain ⟨x,hx⟩:=at_get (L:=L) (i:=a + r) (by omega)
  obtain ⟨y,hy⟩:=at_get (L:=L) (i:=b - 1 - r) (by omega)
  have hz9':z9=((b - 1 - r:Nat):Int):=by omega
  have ixi:=h.ix (k:=a + r) (n:=n) (by omega) hz8 B c
  have ixj:=h.ix (k:=b - 1 - r) (n:=n) (by omega) hz9' B c
  have ldi:=h.ld hw hx
  have ldj:=h.ld hw hy
  have w1:IntKind.wrap .i64 (z8 + 1)=((a + (r + 1):Nat):Int):=by rw [wrap64_in (by omega) (by omega)]; omega
  have w2:IntKind.wrap .i64 (z9 - 1)=(b:Int) - 1 - ((r + 1:Nat):Int):=by rw [wrap64_in (by omega) (by omega)]; omega
  obtain ⟨w1',w2',s1,s2,hw2⟩:=InS.swap h.T hw hl hx hy
  simp [mc157_l0,t0,t8,t9,hlt,ixi,ixj,ldi,ldj,s1,s2,w1,w2, -ld3, -st3]
  exact ⟨by omega,_,hw2,hp.trans (Mv.swap hx hy (by omega) (by omega) (by omega) (by omega)),by omega⟩
 ·simp [mc157_l0,t0,t8,t9,hlt]
  exact hQ _ _ L hw hp
theorem call157 (m:Nat) (ho:∀ args w,ov 157 args w=none) (h:SI ov C V sz cI fv fc) (n c:Nat) (hn:n≤200) (a b:Nat) (hab:a≤b) (hbn:b≤n) (B:Nat) (L:List α) (hL:L.length=n) (w:AW) (hl:w.lim≤B) (hB:w.heap.get B=some (.cells (L.flatMap C) 3 false)) :
  ∃ x w',(run Tryz.prog ov (m + 2)).call 157 [.slice (some ⟨B,0,none⟩) n c,.int .i64 (a:Int),.int .i64 (b:Int)] w .none=.ok (.ret x) w' .none∧x=.tuple ⟨[]⟩∧∃ L',LeftI C w w' B a b L L':=by
 refine call_wp text157 (by simp) (ho _ _) ?_
 obtain ⟨za,hza⟩:∃ k:Int,k=(a:Int):=⟨_,rfl⟩
 obtain ⟨zb,hzb⟩:∃ k:Int,k=(b:Int):=⟨_,rfl⟩
 have w1:IntKind.wrap .i64 (zb - 1)=(b:Int) - 1:=by rw [wrap64_in (by omega) (by omega)]; omega
 rw [← hza,← hzb]
 simp [mc157]
 refine wp_blockX (revI m h n c hn a b hab hbn B w hl L hL _ _ _ (InS.refl hB) ?_ ?_ ?_ ?_)
 case _=>simp
 case _=>simp [hza]
 case _=>simp [w1]
 case _ =>
  intro t w' L' hw hp
  simp [tupV]
  exact ⟨L',hw,hp⟩
set_option maxHeartbeats 4000000 in
theorem siftI (m:Nat) (h:SI ov C V sz cI fv fc) (n c:Nat) (hn:n≤200) (f lo hi:Nat) (hf:f + hi≤n) (hlo:lo≤200) (B:Nat) (w0:AW) (hl:w0.lim≤B) (L0:List α) (hL0:L0.length=n) (hH:Heap (fun x y=>cI x y < 0) L0 f (lo + 1) hi)
  (Q:Ex→Tm→AW→Prop) (t:Tm) (w:AW) (hw:InI C w0 B L0 w)
  (t0:tget t 0=.slice (some ⟨B,0,none⟩) n c) (t2:tget t 2=.int .i64 (hi:Nat)) (t3:tget t 3=.int .i64 (f:Nat)) (t4:True) (t10:tget t 8=.int .i64 (lo:Nat))
  (hQ:∀ t w L,InI C w0 B L w→Mv f (f + hi) L0 L→Heap (fun x y=>cI x y < 0) L f lo hi→Q (.exit 0) t w∧Q .ret t w) :
  wp (exM Tryz.prog (run Tryz.prog ov (m + 1)) (.loop mc179_l0) t w) Q:=by
 refine wp_rounds (fun r t w=>∃ L q,InI C w0 B L w∧Mv f (f + hi) L0 L∧Hp (fun x y=>cI x y < 0) L f lo hi q∧lo + r≤q∧q≤200∧tget t 0=.slice (some ⟨B,0,none⟩) n c∧tget t 2=.int .i64 (hi:Nat)∧tget t 3=.int .i64 (f:Nat)∧True∧tget t 8=.int .i64 (q:Nat)) 300 (by decide) ⟨L0,lo,hw,Mv.refl _ _ _,Hp.start hH,by omega,hlo,t0,t2,t3,t4,t10⟩ ?_
 clear t0 t2 t3 t4 t10 hw
 rintro r t w ⟨L,q,hw,hp,hH,hq,hq2,t0,t2,t3,t4,t10⟩
 have hlen:L.length=n:=by rw [hp.len,hL0]
 obtain ⟨zh,hzh⟩:∃ k:Int,k=(hi:Int):=⟨_,rfl⟩
 obtain ⟨zf,hzf⟩:∃ k:Int,k=(f:Int):=⟨_,rfl⟩
 obtain ⟨zq,hzq⟩:∃ k:Int,k=(q:Int):=⟨_,rfl⟩
 obtain ⟨zc,hzc⟩:∃ k:Int,k=((2 * q + 1:Nat):Int):=⟨_,rfl⟩
 obtain ⟨zd,hzd⟩:∃ k:Int,k=((2 * q + 2:Nat):Int):=⟨_,rfl⟩
 obtain ⟨ze,hze⟩:∃ k:Int,k=((f + (2 * q + 1):Nat):Int):=⟨_,rfl⟩
 obtain ⟨zg,hzg⟩:∃ k:Int,k=((f + (2 * q + 2):Nat):Int):=⟨_,rfl⟩
 obtain ⟨zr,hzr⟩:∃ k:Int,k=((f + q:Nat):Int):=⟨_,rfl⟩
 rw [← hzh] at t2
 rw [← hzf] at t3
 rw [← hzq] at t10
 have e0:IntKind.wrap .i64 (2 * zq)=2 * zq:=wrap64_in (by omega) (by omega)
 have e1:IntKind.wrap .i64 (2 * zq + 1)=zc:=by rw [wrap64_in (by omega) (by omega)]; omega
 have e2:IntKind.wrap .i64 (zc + 1)=zd:=by rw [wrap64_in (by omega) (by omega)]; omega
 have e3:IntKind.wrap .i64 (zf + zc)=ze:=by rw [wrap64_in (by omega) (by omega)]; omega
 have e4:IntKind.wrap .i64 (ze + 1)=zg:=by rw [wrap64_in (by omega) (by omega)]; omega
 have e5:IntKind.wrap .i64 (zf + zd)=zg:=by rw [wrap64_in (by omega) (by omega)]; omega
 have e6:IntKind.wrap .i64 (zf + zq)=zr:=by rw [wrap64_in (by omega) (by omega)]; omega
 by_cases hc:2 * q + 1 < hi
 ·have hc':¬ zh≤zc:=by omega
  obtain ⟨x,hx⟩:=at_get (L:=L) (i:=f + q) (by omega)
  obtain ⟨y,hy⟩:=at_get (L:=L) (i:=f + (2 * q + 1)) (by omega)
  have ixr:=h.ix (k:=f + q) (n:=n) (by omega) hzr B c
  have ixe:=h.ix (k:=f + (2 * q + 1)) (n:=n) (by omega) hze B c
  have ldr:=h.ld hw hx
  have lde:=h.ld hw hy
  by_cases hd:2 * q + 2 < hi
  ·have hd':zd < zh:=by omega
   obtain ⟨z,hz⟩:=at_get (L:=L) (i:=f + (2 * q + 2)) (by omega)
   have ixg:=h.ix (k:=f + (2 * q + 2)) (n:=n) (by omega) hzg B c
   have ldg:=h.ld hw hz
   have cm1:=h.cm m w y z
   by_cases hyz:cI y z < 0
   ·have cm2:=h.cm m w x z
    by_cases hxz:cI x z < 0
    ·obtain ⟨w1,w2,s1,s2,hw2⟩:=InS.swap h.T hw hl hx hz
     simp [mc179_l0,t0,t2,t3,t4,t10,e0,e1,e2,e3,e4,e5,e6,hc',hd',ixr,ixe,ixg,ldr,lde,ldg,cm1,cm2,hyz,hxz,s1,s2, -ld3, -st3]
     refine ⟨by omega,_,hw2,hp.trans (Mv.swap hx hz (by omega) (by omega) (by omega) (by omega)),2 * q + 2,hH.down h.wk (by omega) hx hz (.inr rfl) hd hxz (fun d u h1 h2 h3=>?_),by omega,by omega,by omega⟩
     rcases h1 with rfl | rfl
     ·rw [hy] at h3; cases h3; exact h.wk.asym hyz
     ·rw [hz] at h3; cases h3; exact h.wk.irr _
    ·simp [mc179_l0,t0,t2,t3,t4,t10,e0,e1,e2,e3,e4,e5,e6,hc',hd',ixr,ixe,ixg,ldr,lde,ldg,cm1,cm2,hyz,hxz, -ld3, -st3]
     refine (hQ _ _ L hw hp (hH.stop fun d u v h1 h2 h3 h4=>?_)).2
     rw [hx] at h3; cases h3
     rcases h1 with rfl | rfl
     ·rw [hy] at h4; cases h4; exact fun k=>hxz (h.wk.lt_le k (h.wk.asym hyz))
     ·rw [hz] at h4; cases h4; exact hxz
   ·have cm2:=h.cm m w x y
    by_cases hxy:cI x y < 0
    ·obtain ⟨w1,w2,s1,s2,hw2⟩:=InS.swap h.T hw hl hx hy
     simp [mc179_l0,t0,t2,t3,t4,t10,e0,e1,e2,e3,e4,e5,e6,hc',hd',ixr,ixe,ixg,ldr,lde,ldg,cm1,cm2,hyz,hxy,s1,s2, -ld3, -st3]
     refine ⟨by omega,_,hw2,hp.trans (Mv.swap hx hy (by omega) (by omega) (by omega) (by omega)),2 * q + 1,hH.down h.wk (by omega) hx hy (.inl rfl) hc hxy (fun d u h1 h2 h3=>?_),by omega,by omega,by omega⟩
     rcases h1 with rfl | rfl
     ·rw [hy] at h3; cases h3; exact h.wk.irr _
     ·rw [hz] at h3; cases h3; exact hyz
    ·simp [mc179_l0,t0,t2,t3,t4,t10,e0,e1,e2,e3,e4,e5,e6,hc',hd',ixr,ixe,ixg,ldr,lde,ldg,cm1,cm2,hyz,hxy, -ld3, -st3]
     refine (hQ _ _ L hw hp (hH.stop fun d u v h1 h2 h3 h4=>?_)).2
     rw [hx] at h3; cases h3
     rcases h1 with rfl | rfl
     ·rw [hy] at h4; cases h4; exact hxy
     ·rw [hz] at h4; cases h4; exact fun k=>hxy (h.wk.lt_le k hyz)
  ·have hd':¬ zd < zh:=by omega
   have cm2:=h.cm m w x y
   by_cases hxy:cI x y < 0
   ·obtain ⟨w1,w2,s1,s2,hw2⟩:=InS.swap h.T hw hl hx hy
    simp [mc179_l0,t0,t2,t3,t4,t10,e0,e1,e2,e3,e4,e5,e6,hc',hd',ixr,ixe,ldr,lde,cm2,hxy,s1,s2, -ld3, -st3]
    refine ⟨by omega,_,hw2,hp.trans (Mv.swap hx hy (by omega) (by omega) (by omega) (by omega)),2 * q + 1,hH.down h.wk (by omega) hx hy (.inl rfl) hc hxy (fun d u h1 h2 h3=>?_),by omega,by omega,by omega⟩
    rcases h1 with rfl | rfl
    ·rw [hy] at h3; cases h3; exact h.wk.irr _
    ·omega
   ·simp [mc179_l0,t0,t2,t3,t4,t10,e0,e1,e2,e3,e4,e5,e6,hc',hd',ixr,ixe,ldr,lde,cm2,hxy, -ld3, -st3]
    refine (hQ _ _ L hw hp (hH.stop fun d u v h1 h2 h3 h4=>?_)).2
    rw [hx] at h3; cases h3
    rcases h1 with rfl | rfl
    ·rw [hy] at h4; cases h4; exact hxy
    ·omega
 ·have hc':zh≤zc:=by omega
  simp [mc179_l0,t0,t2,t3,t4,t10,e0,e1,hc']
  exact (hQ _ _ L hw hp (hH.stop fun d u v h1 h2=>by omega)).1
theorem call179 (m:Nat) (ho:∀ args w,ov 179 args w=none) (h:SI ov C V sz cI fv fc) (n c:Nat) (hn:n≤200) (f lo hi:Nat) (hf:f + hi≤n) (hlo:lo≤200) (B:Nat) (L:List α) (hL:L.length=n) (hH:Heap (fun x y=>cI x y < 0) L f (lo + 1) hi) (w:AW) (hl:w.lim≤B) (hB:w.heap.get B=some (.cells (L.flatMap C) 3 false)) :
  ∃ x w',(run Tryz.prog ov (m + 2)).call 179 [.slice (some ⟨B,0,none⟩) n c,.int .i64 (lo:Int),.int .i64 (hi:Int),.int .i64 (f:Int)] w .none=.ok (.ret x) w' .none∧x=.tuple ⟨[]⟩∧∃ L',LeftI C w w' B f (f + hi) L L'∧Heap (fun x y=>cI x y < 0) L' f lo hi:=by
 refine call_wp text179 (by simp) (ho _ _) ?_
 obtain ⟨za,hza⟩:∃ k:Int,k=(lo:Int):=⟨_,rfl⟩
 rw [← hza]
 simp [mc179]
 refine wp_blockX (siftI m h n c hn f lo hi hf hlo B w hl L hL hH _ _ _ (InS.refl hB) ?_ ?_ ?_ ?_ ?_ ?_)
 case _=>simp
 case _=>simp
 case _=>simp
 case _=>simp
 case _=>simp [hza]
 case _ =>
  intro t w' L' hw hp hh
  simp [tupV]
  exact ⟨L',⟨hw,hp⟩,hh⟩
end
section
variable {α:Type} {C:α→List Value} {V:α→Value} {sz:Nat} {cI:α→α→Int} {fv:Value} {fc:FuncId} {ov:Ov}
set_option maxHeartbeats 2000000 in
theorem heap1I (m:Nat) (h:SI ov C V sz cI fv fc) (n c:Nat) (hn:n≤200) (a b:Nat) (hab:a < b) (hbn:b≤n) (B:Nat) (w0:AW) (hl:w0.lim≤B) (L0:List α) (hL0:L0.length=n) (ho:∀ args w,ov 179 args w=none)
  (Q:Ex→Tm→AW→Prop) (t:Tm) (w:AW) (hw:InI C w0 B L0 w)
  (t0:tget t 0=.slice (some ⟨B,0,none⟩) n c) (t3:True) (t8:tget t 6=.int .i64 (a:Nat)) (t9:tget t 7=.int .i64 0) (t10:tget t 8=.int .i64 ((b - a:Nat):Int)) (k0:Nat) (hk0:k0≤b - a) (hK:Heap (fun x y=>cI x y < 0) L0 a k0 (b - a)) (t11:tget t 9=.int .i64 ((k0:Int) - 1))
  (hQ:∀ t w L,InI C w0 B L w→Mv a b L0 L→Heap (fun x y=>cI x y < 0) L a 0 (b - a)→tget t 0=.slice (some ⟨B,0,none⟩) n c→True→tget t 6=.int .i64 (a:Nat)→tget t 7=.int .i64 0→tget t 8=.int .i64 ((b - a:Nat):Int)→Q (.exit 0) t w) :
  wp (exM Tryz.prog (run Tryz.prog ov (m + 2)) (.loop mc154_l0) t w) Q:=by
 refine wp_rounds (fun r t w=>∃ L k,InI C w0 B L w∧Mv a b L0 L∧k + r=k0∧Heap (fun x y=>cI x y < 0) L a k (b - a)∧tget t 0=.slice (some ⟨B,0,none⟩) n c∧True∧tget t 6=.int .i64 (a:Nat)∧tget t 7=.int .i64 0∧tget t 8=.int .i64 ((b - a:Nat):Int)∧tget t 9=.int .i64 ((k:Int) - 1)) 300 (by decide) ⟨L0,k0,hw,Mv.refl _ _ _,rfl,hK,t0,t3,t8,t9,t10,t11⟩ ?_
 clear t0 t3 t8 t9 t10 t11 hw
 rintro r t w ⟨L,k,hw,hp,hk,hH,t0,t3,t8,t9,t10,t11⟩
 have hlen:L.length=n:=by rw [hp.len,hL0]
 have hlm:=hw.lim
 obtain ⟨za,hza⟩:∃ k:Int,k=(a:Int):=⟨_,rfl⟩
 obtain ⟨zh,hzh⟩:∃ k:Int,k=((b - a:Nat):Int):=⟨_,rfl⟩
 rw [← hza] at t8
 rw [← hzh] at t10
 rcases Nat.eq_zero_or_pos k with rfl | hpos
 ·have e:((0:Nat):Int) - 1 = -1:=rfl
  rw [e] at t11
  simp [mc154_l0,t11]
  exact hQ _ _ L hw hp hH (by simp [t0]) (by simp [t3]) (by simp [t8,hza]) (by simp [t9]) (by simp [t10,hzh])
 ·obtain ⟨zk,hzk⟩:∃ z:Int,z=((k - 1:Nat):Int):=⟨_,rfl⟩
  have e1:(k:Int) - 1=zk:=by omega
  rw [e1] at t11
  have hge:0≤zk:=by omega
  have e2:IntKind.wrap .i64 (zk - 1)=((k - 1:Nat):Int) - 1:=by rw [wrap64_in (by omega) (by omega)]; omega
  obtain ⟨_,w',hc,rfl,L',⟨hi,hm⟩,hh⟩:=call179 m ho h n c hn a (k - 1) (b - a) (by omega) (by omega) B L hlen (by rw [show k - 1 + 1=k by omega]; exact hH) w (by omega) hw.row
  rw [← hzk,← hzh,← hza] at hc
  simp [mc154_l0,t0,t3,t8,t10,t11,hge,hc,e2]
  exact ⟨by omega,L',hw.trans hi,hp.trans (hm.widen (Nat.le_refl _) (by omega)),k - 1,by omega,hh,by simp [t9,hza,hzh]⟩
set_option maxHeartbeats 2000000 in
theorem heap2I (m:Nat) (h:SI ov C V sz cI fv fc) (n c:Nat) (hn:n≤200) (a b:Nat) (hab:a < b) (hbn:b≤n) (B:Nat) (w0:AW) (hl:w0.lim≤B) (L0:List α) (hL0:L0.length=n) (ho:∀ args w,ov 179 args w=none) (hH:Heap (fun x y=>cI x y < 0) L0 a 0 (b - a))
  (Q:Ex→Tm→AW→Prop) (t:Tm) (w:AW) (hw:InI C w0 B L0 w)
  (t0:tget t 0=.slice (some ⟨B,0,none⟩) n c) (t3:True) (t8:tget t 6=.int .i64 (a:Nat)) (t9:tget t 7=.int .i64 0) (t12:tget t 10=.int .i64 (((b - a:Nat):Int) - 1))
  (hQ:∀ t w L,InI C w0 B L w→Mv a b L0 L→Srt (fun x y=>cI x y < 0) L a b→Q (.exit 2) t w) :
  wp (exM Tryz.prog (run Tryz.prog ov (m + 2)) (.loop mc154_l1) t w) Q:=by
 refine wp_rounds (fun r t w=>∃ L k,InI C w0 B L w∧Mv a b L0 L∧k + r=b - a∧Heap (fun x y=>cI x y < 0) L a 0 k∧Srt (fun x y=>cI x y < 0) L (a + k) b∧Crs cI L a (a + k) b∧tget t 0=.slice (some ⟨B,0,none⟩) n c∧True∧tget t 6=.int .i64 (a:Nat)∧tget t 7=.int .i64 0∧tget t 10=.int .i64 ((k:Int) - 1)) 300 (by decide) ⟨L0,b - a,hw,Mv.refl _ _ _,rfl,hH,Srt.one _ (by omega),fun p q x y h1 h2 h3 h4=>by omega,t0,t3,t8,t9,t12⟩ ?_
 clear t0 t3 t8 t9 t12 hw
 rintro r t w ⟨L,k,hw,hp,hk,hH,hS,hC,t0,t3,t8,t9,t12⟩
 have hlen:L.length=n:=by rw [hp.len,hL0]
 have hlm:=hw.lim
 obtain ⟨za,hza⟩:∃ k:Int,k=(a:Int):=⟨_,rfl⟩
 rw [← hza] at t8
 rcases Nat.eq_zero_or_pos k with rfl | hpos
 ·have e:((0:Nat):Int) - 1 = -1:=rfl
  rw [e] at t12
  simp [mc154_l1,t12]
  exact hQ _ _ L hw hp hS
 ·obtain ⟨i,rfl⟩:∃ i,k=i + 1:=⟨k - 1,by omega⟩
  obtain ⟨zk,hzk⟩:∃ z:Int,z=(i:Int):=⟨_,rfl⟩
  obtain ⟨zm,hzm⟩:∃ z:Int,z=((a + i:Nat):Int):=⟨_,rfl⟩
  have e1:((i + 1:Nat):Int) - 1=zk:=by omega
  rw [e1] at t12
  have hge:0≤zk:=by omega
  have e2:IntKind.wrap .i64 (zk - 1)=(i:Int) - 1:=by rw [wrap64_in (by omega) (by omega)]; omega
  have e3:IntKind.wrap .i64 (za + zk)=zm:=by rw [wrap64_in (by omega) (by omega)]; omega
  obtain ⟨x,hx⟩:=at_get (L:=L) (i:=a) (by omega)
  obtain ⟨y,hy⟩:=at_get (L:=L) (i:=a + i) (by omega)
  have ixa:=h.ix (k:=a) (n:=n) (by omega) hza B c
  have ixm:=h.ix (k:=a + i) (n:=n) (by omega) hzm B c
  have lda:=h.ld hw hx
  have ldm:=h.ld hw hy
  obtain ⟨w1,w2,s1,s2,hw2⟩:=InS.swap h.T hw hl hx hy
  have hlm2:=hw2.lim
  obtain ⟨g1,g2,g3⟩:=Heap.take h.wk (f:=a) (i:=i) (n:=b - a) hH hx hy (by omega) (by omega) (by rw [show a + i + 1=a + (i + 1) by omega,show a + (b - a)=b by omega]; exact hS) (fun p q u v h1 h2 h3 h4 hu hv=>hC p q u v h1 (by omega) (by omega) (by omega) hu hv)
  obtain ⟨_,w',hc,rfl,L',⟨hi,hm⟩,hh⟩:=call179 m ho h n c hn a 0 i (by omega) (by omega) B (swp L a (a + i) x y) (by simp [hlen]) g1 w2 (by omega) hw2.row
  rw [← hzk,← hza] at hc
  rw [show a + (b - a)=b by omega] at g2 g3
  simp only [Int.natCast_zero] at hc
  simp [mc154_l1,t0,t3,t8,t9,t12,hge,hc,e2,e3,ixa,ixm,lda,ldm,s1,s2, -ld3, -st3]
  exact ⟨by omega,L',hw2.trans hi,(hp.trans (Mv.swap hx hy (by omega) (by omega) (by omega) (by omega))).trans (hm.widen (Nat.le_refl _) (by omega)),i,by omega,hh,g2.out hm (.inr (Nat.le_refl _)),(show Crs cI (swp L a (a + i) x y) a (a + i) b from g3).mv_left hm,by simp [t9,hza]⟩
theorem call154 (m:Nat) (ho:∀ args w,ov 154 args w=none) (ho2:∀ args w,ov 179 args w=none) (h:SI ov C V sz cI fv fc) (n c:Nat) (hn:n≤200) (a b:Nat) (hab:a < b) (hbn:b≤n) (B:Nat) (L:List α) (hL:L.length=n) (w:AW) (hl:w.lim≤B) (hB:w.heap.get B=some (.cells (L.flatMap C) 3 false)) :
  ∃ x w',(run Tryz.prog ov (m + 3)).call 154 [.slice (some ⟨B,0,none⟩) n c,.int .i64 (a:Int),.int .i64 (b:Int)] w .none=.ok (.ret x) w' .none∧x=.tuple ⟨[]⟩∧∃ L',LeftI C w w' B a b L L'∧Srt (fun x y=>cI x y < 0) L' a b:=by
 refine call_wp text154 (by simp) (ho _ _) ?_
 obtain ⟨za,hza⟩:∃ k:Int,k=(a:Int):=⟨_,rfl⟩
 obtain ⟨zb,hzb⟩:∃ k:Int,k=(b:Int):=⟨_,rfl⟩
 obtain ⟨zh,hzh⟩:∃ k:Int,k=((b - a:Nat):Int):=⟨_,rfl⟩
 have w1:IntKind.wrap .i64 (zb - za)=zh:=by rw [wrap64_in (by omega) (by omega)]; omega
 have w2:IntKind.wrap .i64 (zh - 1)=zh - 1:=wrap64_in (by omega) (by omega)
 have w3:IntKind.wrap .i64 ((zh - 1).tdiv 2)=(((b - a - 1) / 2 + 1:Nat):Int) - 1:=by
  rw [Int.tdiv_eq_ediv_of_nonneg (by omega),wrap64_in (by omega) (by omega)]
  omega
 rw [← hza,← hzb]
 simp [mc154,w1,w2,w3,bin_quo]
 refine wp_seqX (wp_blockX (heap1I m h n c hn a b hab hbn B w hl L hL ho2 _ _ _ (InS.refl hB) ?_ ?_ ?_ ?_ ?_ ((b - a - 1) / 2 + 1) (by omega) (Heap.half _ (by omega)) ?_ ?_))
 case _=>simp
 case _=>simp
 case _=>simp [hza]
 case _=>simp
 case _=>simp [hzh]
 case _=>simp
 case _ =>
  intro t w' L' hw hp hh s0 s3 s8 s9 s10
  rw [← hzh] at s10
  simp [s10,w2]
  have hlm:=hw.lim
  refine wp_blockX (heap2I m h n c hn a b hab hbn B w hl L' (by rw [hp.len,hL]) ho2 hh _ _ _ hw ?_ ?_ ?_ ?_ ?_ ?_)
  case _=>simp [s0]
  case _=>simp [s3]
  case _=>simp [s8]
  case _=>simp [s9]
  case _=>simp [hzh]
  case _ =>
   intro t w'' L'' hw'' hp'' hs
   simp [tupV]
   exact ⟨L'',⟨hw'',hp.trans hp''⟩,hs⟩
end
end Go.Proofs.YthihnhgdbfcabaaGreatDoor.walk
