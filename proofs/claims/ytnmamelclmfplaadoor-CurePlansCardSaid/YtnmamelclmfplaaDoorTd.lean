/- Part of a proof: see the text with the theorem. -/
import Derived.Test.YtnmamelclmfplaaDoorShF
import Derived.Test.YtnmamelclmfplaaDoorTc
import Derived.KernelRfl
import Derived.Test.YtnmamelclmfplaaDoorProg
import Derived.Test.YtnmamelclmfplaaDoorShE
set_option linter.all false
namespace Go.Proofs.YtnmamelclmfplaaDoor.walk
open Go Go.Sh
set_option maxRecDepth 100000
@[simp] theorem al27 (w:AW):allocA Tryd.prog w 27=.val (.pointer (some ⟨w.next,0,none⟩)) ⟨w.heap.put w.next (some (.cells [.int .i64 0,.int .i64 0,.int .i64 0,.int .i64 0] 27 false)),w.next + 1,w.lim⟩:=alloc_eq (z:=.agg ⟨[.int .i64 0,.int .i64 0,.int .i64 0,.int .i64 0]⟩) (by kernel_rfl)
noncomputable def mc65_l0:MC:=.seq (.seq (.ops [⟨false,none,some 26,3,.move (.tmp 13)⟩,⟨false,none,some 27,3,.move (.tmp 11)⟩,⟨false,none,some 28,4,.binOp .leq 3 (.tmp 26) (.tmp 27) 3⟩]) (.cond (.tmp 28) (.skip) (.exit 0))) (.seq (.block 1 (.ops [⟨false,none,some 31,43,.move (.tmp 12)⟩,⟨false,none,some 32,3,.move (.tmp 13)⟩,⟨false,none,some 33,25,.build 25 #[(0,.const (.int .i64 1)),(1,.const (.int .i64 1000000))]⟩,⟨false,none,some 34,0,.indexAddr 43 (.tmp 31) (.tmp 32)⟩,⟨false,none,none,0,.store 25 (.tmp 34) (.tmp 33)⟩])) (.ops [⟨false,none,some 29,3,.move (.tmp 13)⟩,⟨false,none,some 30,3,.binOp .add 3 (.tmp 29) (.const (.int .i64 1)) 3⟩,⟨false,none,some 13,3,.assign (.tmp 30)⟩]))
noncomputable def mc65_l1:MC:=.seq (.seq (.ops [⟨false,none,some 39,3,.move (.tmp 14)⟩,⟨false,none,some 40,42,.move (.tmp 3)⟩,⟨false,none,some 41,3,.call ⟨.builtin .len,#[.tmp 40],#[42]⟩⟩,⟨false,none,some 42,4,.binOp .lss 3 (.tmp 39) (.tmp 41) 3⟩]) (.cond (.tmp 42) (.skip) (.exit 2))) (.seq (.block 3 (.seq (.ops [⟨true,none,some 45,43,.move (.tmp 12)⟩]) (.seq (.ops [⟨true,none,some 46,42,.move (.tmp 3)⟩]) (.seq (.ops [⟨true,none,some 47,3,.move (.tmp 14)⟩]) (.seq (.ops [⟨true,none,some 48,0,.indexAddr 42 (.tmp 46) (.tmp 47)⟩]) (.seq (.ops [⟨true,none,some 49,0,.fieldAddr 72 (.tmp 48) 0⟩]) (.seq (.ops [⟨true,none,some 50,3,.load 3 (.tmp 49)⟩]) (.seq (.ops [⟨true,none,some 51,43,.move (.tmp 12)⟩]) (.seq (.ops [⟨true,none,some 52,42,.move (.tmp 3)⟩]) (.seq (.ops [⟨true,none,some 53,3,.move (.tmp 14)⟩]) (.seq (.ops [⟨true,none,some 54,0,.indexAddr 42 (.tmp 52) (.tmp 53)⟩]) (.seq (.ops [⟨true,none,some 55,0,.fieldAddr 72 (.tmp 54) 0⟩]) (.seq (.ops [⟨true,none,some 56,3,.load 3 (.tmp 55)⟩]) (.seq (.ops [⟨true,none,some 57,0,.indexAddr 43 (.tmp 51) (.tmp 56)⟩]) (.seq (.ops [⟨true,none,some 58,25,.load 25 (.tmp 57)⟩]) (.seq (.ops [⟨true,none,some 59,42,.move (.tmp 3)⟩]) (.seq (.ops [⟨true,none,some 60,3,.move (.tmp 14)⟩]) (.seq (.ops [⟨true,none,some 61,0,.indexAddr 42 (.tmp 59) (.tmp 60)⟩]) (.seq (.ops [⟨true,none,some 62,0,.fieldAddr 72 (.tmp 61) 1⟩]) (.seq (.ops [⟨true,none,some 63,3,.load 3 (.tmp 62)⟩]) (.seq (.ops [⟨true,none,some 64,42,.move (.tmp 3)⟩]) (.seq (.ops [⟨true,none,some 65,3,.move (.tmp 14)⟩]) (.seq (.ops [⟨true,none,some 66,0,.indexAddr 42 (.tmp 64) (.tmp 65)⟩]) (.seq (.ops [⟨true,none,some 67,0,.fieldAddr 72 (.tmp 66) 2⟩]) (.seq (.ops [⟨true,none,some 68,3,.load 3 (.tmp 67)⟩]) (.seq (.ops [⟨true,none,some 69,3,.binOp .sub 3 (.tmp 63) (.tmp 68) 3⟩]) (.seq (.ops [⟨true,none,some 70,42,.move (.tmp 3)⟩]) (.seq (.ops [⟨true,none,some 71,3,.move (.tmp 14)⟩]) (.seq (.ops [⟨true,none,some 72,0,.indexAddr 42 (.tmp 70) (.tmp 71)⟩]) (.seq (.ops [⟨true,none,some 73,0,.fieldAddr 72 (.tmp 72) 1⟩]) (.seq (.ops [⟨true,none,some 74,3,.load 3 (.tmp 73)⟩]) (.seq (.ops [⟨true,none,some 75,42,.move (.tmp 3)⟩]) (.seq (.ops [⟨true,none,some 76,3,.move (.tmp 14)⟩]) (.seq (.ops [⟨true,none,some 77,0,.indexAddr 42 (.tmp 75) (.tmp 76)⟩]) (.seq (.ops [⟨true,none,some 78,0,.fieldAddr 72 (.tmp 77) 2⟩]) (.seq (.ops [⟨true,none,some 79,3,.load 3 (.tmp 78)⟩]) (.seq (.ops [⟨true,none,some 80,3,.binOp .add 3 (.tmp 74) (.tmp 79) 3⟩]) (.seq (.ops [⟨true,none,some 81,25,.build 25 #[(0,.tmp 69),(1,.tmp 80)]⟩]) (.seq (.ops [⟨false,none,some 82,25,.call ⟨.value (.func 87),#[.tmp 58,.tmp 81],#[25,25]⟩⟩]) (.seq (.ops [⟨true,none,some 83,0,.indexAddr 43 (.tmp 45) (.tmp 50)⟩]) (.seq (.chk [⟨true,none,some 50,3,.load 3 (.tmp 49)⟩]) (.seq (.ops [⟨false,none,none,0,.store 25 (.tmp 83) (.tmp 82)⟩]) (.chk []))))))))))))))))))))))))))))))))))))))))))) (.ops [⟨false,none,some 43,3,.move (.tmp 14)⟩,⟨false,none,some 44,3,.binOp .add 3 (.tmp 43) (.const (.int .i64 1)) 3⟩,⟨false,none,some 14,3,.assign (.tmp 44)⟩]))
noncomputable def mc65_l2:MC:=.seq (.seq (.ops [⟨false,none,some 96,3,.move (.tmp 15)⟩,⟨false,none,some 97,3,.move (.tmp 11)⟩,⟨false,none,some 98,4,.binOp .lss 3 (.tmp 96) (.tmp 97) 3⟩]) (.cond (.tmp 98) (.skip) (.exit 4))) (.seq (.block 5 (.seq (.ops [⟨false,none,some 101,22,.move (.tmp 0)⟩,⟨false,none,some 102,28,.move (.tmp 2)⟩,⟨false,none,some 103,3,.move (.tmp 15)⟩,⟨false,none,some 104,0,.indexAddr 28 (.tmp 102) (.tmp 103)⟩,⟨false,none,some 105,3,.load 3 (.tmp 104)⟩,⟨false,none,some 106,0,.indexAddr 22 (.tmp 101) (.tmp 105)⟩,⟨false,none,some 107,0,.fieldAddr 78 (.tmp 106) 5⟩,⟨false,none,some 108,25,.load 25 (.tmp 107)⟩,⟨false,none,some 16,0,.alloc 25⟩,⟨false,none,none,0,.store 25 (.tmp 16) (.tmp 108)⟩]) (.ops [⟨true,none,some 109,43,.move (.tmp 12)⟩,⟨true,none,some 110,3,.move (.tmp 15)⟩,⟨true,none,some 111,3,.binOp .add 3 (.tmp 110) (.const (.int .i64 1)) 3⟩,⟨true,none,some 112,43,.move (.tmp 12)⟩,⟨true,none,some 113,3,.move (.tmp 15)⟩,⟨true,none,some 114,3,.binOp .add 3 (.tmp 113) (.const (.int .i64 1)) 3⟩,⟨true,none,some 115,0,.indexAddr 43 (.tmp 112) (.tmp 114)⟩,⟨true,none,some 116,25,.load 25 (.tmp 115)⟩,⟨true,none,some 117,43,.move (.tmp 12)⟩,⟨true,none,some 118,3,.move (.tmp 15)⟩,⟨true,none,some 119,0,.indexAddr 43 (.tmp 117) (.tmp 118)⟩,⟨true,none,some 120,0,.fieldAddr 25 (.tmp 119) 0⟩,⟨true,none,some 121,3,.load 3 (.tmp 120)⟩,⟨true,none,some 122,0,.fieldAddr 25 (.tmp 16) 1⟩,⟨true,none,some 123,3,.load 3 (.tmp 122)⟩,⟨true,none,some 124,3,.binOp .sub 3 (.tmp 121) (.tmp 123) 3⟩,⟨true,none,some 125,43,.move (.tmp 12)⟩,⟨true,none,some 126,3,.move (.tmp 15)⟩,⟨true,none,some 127,0,.indexAddr 43 (.tmp 125) (.tmp 126)⟩,⟨true,none,some 128,0,.fieldAddr 25 (.tmp 127) 1⟩,⟨true,none,some 129,3,.load 3 (.tmp 128)⟩,⟨true,none,some 130,0,.fieldAddr 25 (.tmp 16) 0⟩,⟨true,none,some 131,3,.load 3 (.tmp 130)⟩,⟨true,none,some 132,3,.binOp .sub 3 (.tmp 129) (.tmp 131) 3⟩,⟨true,none,some 133,25,.build 25 #[(0,.tmp 124),(1,.tmp 132)]⟩,⟨false,none,some 134,25,.call ⟨.value (.func 87),#[.tmp 116,.tmp 133],#[25,25]⟩⟩,⟨true,none,some 135,0,.indexAddr 43 (.tmp 109) (.tmp 111)⟩,⟨false,none,none,0,.store 25 (.tmp 135) (.tmp 134)⟩]))) (.ops [⟨false,none,some 99,3,.move (.tmp 15)⟩,⟨false,none,some 100,3,.binOp .add 3 (.tmp 99) (.const (.int .i64 1)) 3⟩,⟨false,none,some 15,3,.assign (.tmp 100)⟩]))
noncomputable def mc65_l3:MC:=.seq (.seq (.ops [⟨false,none,some 138,3,.move (.tmp 17)⟩,⟨false,none,some 139,4,.binOp .geq 3 (.tmp 138) (.const (.int .i64 0)) 3⟩]) (.cond (.tmp 139) (.skip) (.exit 6))) (.seq (.block 7 (.seq (.ops [⟨false,none,some 142,22,.move (.tmp 0)⟩,⟨false,none,some 143,28,.move (.tmp 2)⟩,⟨false,none,some 144,3,.move (.tmp 17)⟩,⟨false,none,some 145,0,.indexAddr 28 (.tmp 143) (.tmp 144)⟩,⟨false,none,some 146,3,.load 3 (.tmp 145)⟩,⟨false,none,some 147,0,.indexAddr 22 (.tmp 142) (.tmp 146)⟩,⟨false,none,some 148,0,.fieldAddr 78 (.tmp 147) 5⟩,⟨false,none,some 149,25,.load 25 (.tmp 148)⟩,⟨false,none,some 18,0,.alloc 25⟩,⟨false,none,none,0,.store 25 (.tmp 18) (.tmp 149)⟩]) (.ops [⟨true,none,some 150,43,.move (.tmp 12)⟩,⟨true,none,some 151,3,.move (.tmp 17)⟩,⟨true,none,some 152,43,.move (.tmp 12)⟩,⟨true,none,some 153,3,.move (.tmp 17)⟩,⟨true,none,some 154,0,.indexAddr 43 (.tmp 152) (.tmp 153)⟩,⟨true,none,some 155,25,.load 25 (.tmp 154)⟩,⟨true,none,some 156,43,.move (.tmp 12)⟩,⟨true,none,some 157,3,.move (.tmp 17)⟩,⟨true,none,some 158,3,.binOp .add 3 (.tmp 157) (.const (.int .i64 1)) 3⟩,⟨true,none,some 159,0,.indexAddr 43 (.tmp 156) (.tmp 158)⟩,⟨true,none,some 160,0,.fieldAddr 25 (.tmp 159) 0⟩,⟨true,none,some 161,3,.load 3 (.tmp 160)⟩,⟨true,none,some 162,0,.fieldAddr 25 (.tmp 18) 0⟩,⟨true,none,some 163,3,.load 3 (.tmp 162)⟩,⟨true,none,some 164,3,.binOp .add 3 (.tmp 161) (.tmp 163) 3⟩,⟨true,none,some 165,43,.move (.tmp 12)⟩,⟨true,none,some 166,3,.move (.tmp 17)⟩,⟨true,none,some 167,3,.binOp .add 3 (.tmp 166) (.const (.int .i64 1)) 3⟩,⟨true,none,some 168,0,.indexAddr 43 (.tmp 165) (.tmp 167)⟩,⟨true,none,some 169,0,.fieldAddr 25 (.tmp 168) 1⟩,⟨true,none,some 170,3,.load 3 (.tmp 169)⟩,⟨true,none,some 171,0,.fieldAddr 25 (.tmp 18) 1⟩,⟨true,none,some 172,3,.load 3 (.tmp 171)⟩,⟨true,none,some 173,3,.binOp .add 3 (.tmp 170) (.tmp 172) 3⟩,⟨true,none,some 174,25,.build 25 #[(0,.tmp 164),(1,.tmp 173)]⟩,⟨false,none,some 175,25,.call ⟨.value (.func 87),#[.tmp 155,.tmp 174],#[25,25]⟩⟩,⟨true,none,some 176,0,.indexAddr 43 (.tmp 150) (.tmp 151)⟩,⟨false,none,none,0,.store 25 (.tmp 176) (.tmp 175)⟩]))) (.ops [⟨false,none,some 140,3,.move (.tmp 17)⟩,⟨false,none,some 141,3,.binOp .sub 3 (.tmp 140) (.const (.int .i64 1)) 3⟩,⟨false,none,some 17,3,.assign (.tmp 141)⟩]))
noncomputable def mc65_l4:MC:=.seq (.seq (.ops [⟨false,none,some 177,3,.move (.tmp 20)⟩,⟨false,none,some 178,3,.move (.tmp 11)⟩,⟨false,none,some 179,4,.binOp .leq 3 (.tmp 177) (.tmp 178) 3⟩]) (.cond (.tmp 179) (.skip) (.exit 8))) (.seq (.block 9 (.ops [⟨true,none,some 182,4,.move (.tmp 19)⟩,⟨true,none,some 183,4,.move (.tmp 182)⟩,⟨true,some (183,true),some 184,43,.move (.tmp 12)⟩,⟨true,some (183,true),some 185,3,.move (.tmp 20)⟩,⟨true,some (183,true),some 186,0,.indexAddr 43 (.tmp 184) (.tmp 185)⟩,⟨true,some (183,true),some 187,0,.fieldAddr 25 (.tmp 186) 0⟩,⟨true,some (183,true),some 188,3,.load 3 (.tmp 187)⟩,⟨true,some (183,true),some 189,43,.move (.tmp 12)⟩,⟨true,some (183,true),some 190,3,.move (.tmp 20)⟩,⟨true,some (183,true),some 191,0,.indexAddr 43 (.tmp 189) (.tmp 190)⟩,⟨true,some (183,true),some 192,0,.fieldAddr 25 (.tmp 191) 1⟩,⟨true,some (183,true),some 193,3,.load 3 (.tmp 192)⟩,⟨true,some (183,true),some 194,4,.binOp .leq 3 (.tmp 188) (.tmp 193) 3⟩,⟨true,none,some 195,4,.pick (.tmp 183) (.tmp 194) (.const (.bool false))⟩,⟨true,none,some 19,4,.assign (.tmp 195)⟩])) (.ops [⟨false,none,some 180,3,.move (.tmp 20)⟩,⟨false,none,some 181,3,.binOp .add 3 (.tmp 180) (.const (.int .i64 1)) 3⟩,⟨false,none,some 20,3,.assign (.tmp 181)⟩]))
noncomputable def mc65:MC:=.seq (.ops [⟨false,none,some 5,0,.box 27 (.tmp 1)⟩,⟨false,none,some 8,43,.assign (.const (.slice none 0 0))⟩,⟨false,none,some 9,0,.alloc 25⟩,⟨false,none,some 10,4,.assign (.const (.bool false))⟩]) (.seq (.ops [⟨false,none,some 21,28,.move (.tmp 2)⟩,⟨false,none,some 22,3,.call ⟨.builtin .len,#[.tmp 21],#[28]⟩⟩,⟨false,none,some 11,3,.assign (.tmp 22)⟩]) (.seq (.ops [⟨false,none,some 23,3,.move (.tmp 11)⟩,⟨false,none,some 24,3,.binOp .add 3 (.tmp 23) (.const (.int .i64 1)) 3⟩,⟨false,none,some 25,43,.makeSlice 43 (.tmp 24) (.tmp 24)⟩,⟨false,none,some 12,43,.assign (.tmp 25)⟩]) (.seq (.seq (.ops [⟨false,none,some 13,3,.assign (.const (.int .i64 0))⟩]) (.block 0 (.loop mc65_l0))) (.seq (.ops [⟨false,none,some 35,43,.move (.tmp 12)⟩,⟨false,none,some 36,0,.fieldAddr 27 (.tmp 5) 0⟩,⟨false,none,some 37,25,.load 25 (.tmp 36)⟩,⟨false,none,some 38,0,.indexAddr 43 (.tmp 35) (.const (.int .i64 0))⟩,⟨false,none,none,0,.store 25 (.tmp 38) (.tmp 37)⟩]) (.seq (.seq (.ops [⟨false,none,some 14,3,.assign (.const (.int .i64 0))⟩]) (.block 2 (.loop mc65_l1))) (.seq (.ops [⟨true,none,some 84,43,.move (.tmp 12)⟩,⟨true,none,some 85,3,.move (.tmp 11)⟩,⟨true,none,some 86,43,.move (.tmp 12)⟩,⟨true,none,some 87,3,.move (.tmp 11)⟩,⟨true,none,some 88,0,.indexAddr 43 (.tmp 86) (.tmp 87)⟩,⟨true,none,some 89,25,.load 25 (.tmp 88)⟩,⟨true,none,some 90,0,.fieldAddr 27 (.tmp 5) 1⟩,⟨true,none,some 91,0,.fieldAddr 25 (.tmp 90) 0⟩,⟨true,none,some 92,3,.load 3 (.tmp 91)⟩,⟨true,none,some 93,25,.build 25 #[(0,.tmp 92),(1,.const (.int .i64 1000000))]⟩,⟨false,none,some 94,25,.call ⟨.value (.func 87),#[.tmp 89,.tmp 93],#[25,25]⟩⟩,⟨true,none,some 95,0,.indexAddr 43 (.tmp 84) (.tmp 85)⟩,⟨false,none,none,0,.store 25 (.tmp 95) (.tmp 94)⟩]) (.seq (.seq (.ops [⟨false,none,some 15,3,.assign (.const (.int .i64 0))⟩]) (.block 4 (.loop mc65_l2))) (.seq (.seq (.ops [⟨false,none,some 136,3,.move (.tmp 11)⟩,⟨false,none,some 137,3,.binOp .sub 3 (.tmp 136) (.const (.int .i64 1)) 3⟩,⟨false,none,some 17,3,.assign (.tmp 137)⟩]) (.block 6 (.loop mc65_l3))) (.seq (.ops [⟨false,none,some 19,4,.assign (.const (.bool true))⟩]) (.seq (.seq (.ops [⟨false,none,some 20,3,.assign (.const (.int .i64 0))⟩]) (.block 8 (.loop mc65_l4))) (.seq (.ops [⟨true,none,some 196,43,.move (.tmp 12)⟩,⟨true,none,some 197,0,.fieldAddr 27 (.tmp 5) 1⟩,⟨true,none,some 198,0,.fieldAddr 25 (.tmp 197) 0⟩,⟨true,none,some 199,3,.load 3 (.tmp 198)⟩,⟨true,none,some 200,0,.fieldAddr 27 (.tmp 5) 1⟩,⟨true,none,some 201,0,.fieldAddr 25 (.tmp 200) 1⟩,⟨true,none,some 202,3,.load 3 (.tmp 201)⟩,⟨true,none,some 203,43,.move (.tmp 12)⟩,⟨true,none,some 204,3,.move (.tmp 11)⟩,⟨true,none,some 205,0,.indexAddr 43 (.tmp 203) (.tmp 204)⟩,⟨true,none,some 206,0,.fieldAddr 25 (.tmp 205) 1⟩,⟨true,none,some 207,3,.load 3 (.tmp 206)⟩,⟨true,none,some 208,3,.call ⟨.builtin .min,#[.tmp 202,.tmp 207],#[3,3]⟩⟩,⟨true,none,some 209,25,.build 25 #[(0,.tmp 199),(1,.tmp 208)]⟩,⟨true,none,some 210,4,.move (.tmp 19)⟩,⟨true,none,some 8,43,.assign (.tmp 196)⟩,⟨false,none,none,0,.store 25 (.tmp 9) (.tmp 209)⟩,⟨true,none,some 10,4,.assign (.tmp 210)⟩]) (.ret))))))))))))
theorem text65:textF Tryd.prog 65=some (211,[.tmp 8,.cell 9 25,.tmp 10],mc65):=by kernel_rfl
noncomputable def mc67_l0:MC:=.seq (.seq (.ops [⟨false,none,some 46,3,.move (.tmp 18)⟩,⟨false,none,some 47,43,.move (.tmp 10)⟩,⟨false,none,some 48,3,.call ⟨.builtin .len,#[.tmp 47],#[43]⟩⟩,⟨false,none,some 49,4,.binOp .lss 3 (.tmp 46) (.tmp 48) 3⟩]) (.cond (.tmp 49) (.skip) (.exit 0))) (.seq (.block 1 (.seq (.ops [⟨true,none,some 52,43,.move (.tmp 17)⟩]) (.seq (.ops [⟨true,none,some 53,43,.move (.tmp 14)⟩]) (.seq (.ops [⟨true,none,some 54,3,.move (.tmp 18)⟩]) (.seq (.ops [⟨true,none,some 55,0,.indexAddr 43 (.tmp 53) (.tmp 54)⟩]) (.seq (.ops [⟨true,none,some 56,0,.fieldAddr 25 (.tmp 55) 0⟩]) (.seq (.ops [⟨true,none,some 57,3,.load 3 (.tmp 56)⟩]) (.seq (.ops [⟨true,none,some 58,0,.fieldAddr 25 (.tmp 11) 1⟩]) (.seq (.ops [⟨true,none,some 59,3,.load 3 (.tmp 58)⟩]) (.seq (.ops [⟨true,none,some 61,43,.move (.tmp 10)⟩]) (.seq (.ops [⟨true,none,some 62,3,.move (.tmp 18)⟩]) (.seq (.ops [⟨true,none,some 63,0,.indexAddr 43 (.tmp 61) (.tmp 62)⟩]) (.seq (.ops [⟨true,none,some 64,0,.fieldAddr 25 (.tmp 63) 1⟩]) (.seq (.ops [⟨true,none,some 65,3,.load 3 (.tmp 64)⟩]) (.seq (.ops [⟨true,none,some 66,0,.fieldAddr 25 (.tmp 11) 0⟩]) (.seq (.ops [⟨true,none,some 67,3,.load 3 (.tmp 66)⟩]) (.seq (.ops [⟨false,none,some 60,3,.call ⟨.value (.func 61),#[.tmp 57,.tmp 59],#[3,3]⟩⟩]) (.seq (.chk [⟨true,none,some 67,3,.load 3 (.tmp 66)⟩,⟨true,none,some 65,3,.load 3 (.tmp 64)⟩]) (.seq (.ops [⟨false,none,some 68,3,.call ⟨.value (.func 61),#[.tmp 65,.tmp 67],#[3,3]⟩⟩]) (.seq (.ops [⟨true,none,some 69,25,.build 25 #[(0,.tmp 60),(1,.tmp 68)]⟩]) (.seq (.ops [⟨true,none,some 70,43,.buildSlice 43 1 #[(0,.tmp 69)]⟩]) (.seq (.ops [⟨false,none,some 71,43,.call ⟨.builtin .append,#[.tmp 52,.tmp 70],#[43,43]⟩⟩]) (.seq (.ops [⟨true,none,some 17,43,.assign (.tmp 71)⟩]) (.chk [])))))))))))))))))))))))) (.ops [⟨false,none,some 50,3,.move (.tmp 18)⟩,⟨false,none,some 51,3,.binOp .add 3 (.tmp 50) (.const (.int .i64 1)) 3⟩,⟨false,none,some 18,3,.assign (.tmp 51)⟩]))
noncomputable def mc67:MC:=.seq (.ops [⟨false,none,some 5,0,.box 27 (.tmp 1)⟩,⟨false,none,some 8,43,.assign (.const (.slice none 0 0))⟩,⟨false,none,some 9,4,.assign (.const (.bool false))⟩]) (.seq (.ops [⟨false,none,some 20,22,.move (.tmp 0)⟩,⟨false,none,some 21,27,.load 27 (.tmp 5)⟩,⟨false,none,some 22,28,.move (.tmp 2)⟩,⟨false,none,some 23,42,.move (.tmp 3)⟩,⟨false,none,some 24,109,.call ⟨.value (.func 65),#[.tmp 20,.tmp 21,.tmp 22,.tmp 23],#[22,27,28,42]⟩⟩,⟨false,none,some 19,109,.move (.tmp 24)⟩,⟨false,none,some 25,43,.extract (.tmp 19) 0⟩,⟨false,none,some 26,25,.extract (.tmp 19) 1⟩,⟨false,none,some 27,4,.extract (.tmp 19) 2⟩,⟨false,none,some 11,0,.alloc 25⟩,⟨false,none,some 10,43,.assign (.tmp 25)⟩,⟨false,none,none,0,.store 25 (.tmp 11) (.tmp 26)⟩,⟨false,none,some 12,4,.assign (.tmp 27)⟩]) (.seq (.seq (.ops [⟨false,none,some 28,4,.move (.tmp 12)⟩,⟨false,none,some 29,4,.unOp .not 4 (.tmp 28)⟩]) (.cond (.tmp 29) (.seq (.ops [⟨false,none,some 8,43,.assign (.const (.slice none 0 0))⟩,⟨false,none,some 9,4,.assign (.const (.bool false))⟩]) (.ret)) (.skip))) (.seq (.ops [⟨false,none,some 30,27,.load 27 (.tmp 5)⟩,⟨false,none,some 13,0,.alloc 27⟩,⟨false,none,none,0,.store 27 (.tmp 13) (.tmp 30)⟩]) (.seq (.ops [⟨false,none,some 31,0,.fieldAddr 25 (.tmp 11) 1⟩,⟨false,none,some 32,3,.load 3 (.tmp 31)⟩,⟨false,none,some 33,0,.fieldAddr 25 (.tmp 11) 1⟩,⟨false,none,some 34,3,.load 3 (.tmp 33)⟩,⟨false,none,some 35,25,.build 25 #[(0,.tmp 32),(1,.tmp 34)]⟩,⟨false,none,some 36,0,.fieldAddr 27 (.tmp 13) 1⟩,⟨false,none,none,0,.store 25 (.tmp 36) (.tmp 35)⟩]) (.seq (.ops [⟨false,none,some 38,22,.move (.tmp 0)⟩,⟨false,none,some 39,27,.load 27 (.tmp 13)⟩,⟨false,none,some 40,28,.move (.tmp 2)⟩,⟨false,none,some 41,42,.move (.tmp 3)⟩,⟨false,none,some 42,109,.call ⟨.value (.func 65),#[.tmp 38,.tmp 39,.tmp 40,.tmp 41],#[22,27,28,42]⟩⟩,⟨false,none,some 37,109,.move (.tmp 42)⟩,⟨false,none,some 43,43,.extract (.tmp 37) 0⟩,⟨false,none,some 44,25,.extract (.tmp 37) 1⟩,⟨false,none,some 45,4,.extract (.tmp 37) 2⟩,⟨false,none,some 15,0,.alloc 25⟩,⟨false,none,some 14,43,.assign (.tmp 43)⟩,⟨false,none,none,0,.store 25 (.tmp 15) (.tmp 44)⟩,⟨false,none,some 16,4,.assign (.tmp 45)⟩]) (.seq (.ops [⟨false,none,some 17,43,.assign (.const (.slice none 0 0))⟩]) (.seq (.seq (.ops [⟨false,none,some 18,3,.assign (.const (.int .i64 0))⟩]) (.block 0 (.loop mc67_l0))) (.seq (.ops [⟨false,none,some 72,43,.move (.tmp 17)⟩,⟨false,none,some 8,43,.assign (.tmp 72)⟩,⟨false,none,some 9,4,.assign (.const (.bool true))⟩]) (.ret)))))))))
theorem text67:textF Tryd.prog 67=some (73,[.tmp 8,.tmp 9],mc67):=by kernel_rfl
noncomputable def mc87:MC:=.seq (.ops [⟨false,none,some 2,0,.box 25 (.tmp 0)⟩,⟨false,none,some 3,0,.box 25 (.tmp 1)⟩,⟨false,none,some 4,0,.alloc 25⟩]) (.seq (.ops [⟨false,none,some 5,0,.fieldAddr 25 (.tmp 2) 0⟩,⟨false,none,some 6,3,.load 3 (.tmp 5)⟩,⟨false,none,some 7,0,.fieldAddr 25 (.tmp 3) 0⟩,⟨false,none,some 8,3,.load 3 (.tmp 7)⟩,⟨false,none,some 9,3,.call ⟨.builtin .max,#[.tmp 6,.tmp 8],#[3,3]⟩⟩,⟨false,none,some 10,0,.fieldAddr 25 (.tmp 2) 1⟩,⟨false,none,some 11,3,.load 3 (.tmp 10)⟩,⟨false,none,some 12,0,.fieldAddr 25 (.tmp 3) 1⟩,⟨false,none,some 13,3,.load 3 (.tmp 12)⟩,⟨false,none,some 14,3,.call ⟨.builtin .min,#[.tmp 11,.tmp 13],#[3,3]⟩⟩,⟨false,none,some 15,25,.build 25 #[(0,.tmp 9),(1,.tmp 14)]⟩,⟨false,none,none,0,.store 25 (.tmp 4) (.tmp 15)⟩]) (.ret))
theorem text87:textF Tryd.prog 87=some (16,[.cell 4 25],mc87):=by kernel_rfl
@[simp] theorem cf65 (w:AW) (l:List Value):callFn Tryd.prog w 65 l=.enter 65 l w:=callFn_enter text65 l
@[simp] theorem cf67 (w:AW) (l:List Value):callFn Tryd.prog w 67 l=.enter 67 l w:=callFn_enter text67 l
@[simp] theorem cf87 (w:AW) (l:List Value):callFn Tryd.prog w 87 l=.enter 87 l w:=callFn_enter text87 l
@[simp] theorem al143 (w:AW):allocA Tryd.prog w 143=.val (.pointer (some ⟨w.next,0,none⟩)) ⟨w.heap.put w.next (some (.cells [.map none] 143 false)),w.next + 1,w.lim⟩:=alloc_eq (z:=.map none) (by kernel_rfl)
@[simp] theorem st143 (w:AW) (a:Addr) (x:Value) (hx:(cellsOf x).length=1):storeA Tryd.prog w 143 (.pointer (some a)) x=wR (wr w a.block a.off (cellsOf x)) undef:=store_eq (by kernel_rfl) a x hx
@[simp] theorem al144 (w:AW):allocA Tryd.prog w 144=.val (.pointer (some ⟨w.next,0,none⟩)) ⟨w.heap.put w.next (some (.cells [.nilFunc] 144 false)),w.next + 1,w.lim⟩:=alloc_eq (z:=.nilFunc) (by kernel_rfl)
@[simp] theorem st144 (w:AW) (a:Addr) (x:Value) (hx:(cellsOf x).length=1):storeA Tryd.prog w 144 (.pointer (some a)) x=wR (wr w a.block a.off (cellsOf x)) undef:=store_eq (by kernel_rfl) a x hx
@[simp] theorem ld144 (w:AW) (a:Addr):loadA Tryd.prog w 144 (.pointer (some a))=vR w (rd1 w a.block a.off):=load_one (by kernel_rfl) a
@[simp] theorem ld143 (w:AW) (a:Addr):loadA Tryd.prog w 143 (.pointer (some a))=vR w (rd1 w a.block a.off):=load_one (by kernel_rfl) a
@[simp] theorem ld120 (w:AW) (a:Addr):loadA Tryd.prog w 120 (.pointer (some a))=vR w (rd1 w a.block a.off):=load_one (by kernel_rfl) a
noncomputable def mc31:MC:=.seq (.ops [⟨false,none,some 6,0,.box 27 (.tmp 2)⟩,⟨false,none,some 7,0,.box 25 (.tmp 3)⟩,⟨false,none,some 8,28,.assign (.const (.slice none 0 0))⟩,⟨false,none,some 9,33,.assign (.const (.int .i64 0))⟩]) (.seq (.seq (.ops [⟨false,none,some 13,22,.move (.tmp 0)⟩,⟨false,none,some 14,23,.move (.tmp 1)⟩,⟨false,none,some 15,27,.load 27 (.tmp 6)⟩,⟨false,none,some 16,33,.call ⟨.value (.func 73),#[.tmp 13,.tmp 14,.tmp 15],#[22,23,27]⟩⟩,⟨false,none,some 10,33,.assign (.tmp 16)⟩]) (.seq (.ops [⟨false,none,some 17,33,.move (.tmp 10)⟩,⟨false,none,some 18,4,.binOp .neq 33 (.tmp 17) (.const (.int .i64 0)) 33⟩]) (.cond (.tmp 18) (.seq (.ops [⟨false,none,some 19,33,.move (.tmp 10)⟩,⟨false,none,some 8,28,.assign (.const (.slice none 0 0))⟩,⟨false,none,some 9,33,.assign (.tmp 19)⟩]) (.ret)) (.skip)))) (.seq (.seq (.ops [⟨false,none,some 20,25,.load 25 (.tmp 7)⟩,⟨false,none,some 21,4,.call ⟨.value (.func 70),#[.const (.int .i64 6),.tmp 20],#[115,25]⟩⟩,⟨false,none,some 22,4,.unOp .not 4 (.tmp 21)⟩]) (.cond (.tmp 22) (.seq (.ops [⟨false,none,some 8,28,.assign (.const (.slice none 0 0))⟩,⟨false,none,some 9,33,.assign (.const (.int .i64 7))⟩]) (.ret)) (.skip))) (.seq (.ops [⟨false,none,some 24,22,.move (.tmp 0)⟩,⟨false,none,some 25,23,.move (.tmp 1)⟩,⟨false,none,some 26,89,.build 89 #[(0,.tmp 24),(1,.tmp 25)]⟩,⟨false,none,some 27,120,.makeFunc (.func 75) #[] #[.tmp 6,.tmp 7]⟩,⟨false,none,some 28,64,.call ⟨.value (.func 74),#[.tmp 26,.tmp 27],#[89,120]⟩⟩,⟨false,none,some 23,64,.move (.tmp 28)⟩,⟨false,none,some 29,28,.extract (.tmp 23) 0⟩,⟨false,none,some 30,4,.extract (.tmp 23) 1⟩,⟨false,none,some 11,28,.assign (.tmp 29)⟩,⟨false,none,some 12,4,.assign (.tmp 30)⟩]) (.seq (.seq (.ops [⟨false,none,some 31,4,.move (.tmp 12)⟩,⟨false,none,some 32,4,.unOp .not 4 (.tmp 31)⟩]) (.cond (.tmp 32) (.seq (.ops [⟨false,none,some 8,28,.assign (.const (.slice none 0 0))⟩,⟨false,none,some 9,33,.assign (.const (.int .i64 4))⟩]) (.ret)) (.skip))) (.seq (.ops [⟨false,none,some 33,28,.move (.tmp 11)⟩,⟨false,none,some 8,28,.assign (.tmp 33)⟩,⟨false,none,some 9,33,.assign (.const (.int .i64 0))⟩]) (.ret))))))
theorem text31:textF Tryd.prog 31=some (34,[.tmp 8,.tmp 9],mc31):=by kernel_rfl
noncomputable def mc74_l0:MY:=.seq (.mc (.ops [⟨false,none,some 25,4,.binOp .lss 3 (.tmp 24) (.tmp 23) 3⟩])) (.seq (.mc (.cond (.tmp 25) (.skip) (.exit 0))) (.seq (.block 1 (.seq (.mc (.ops [⟨false,none,some 26,3,.move (.tmp 24)⟩,⟨false,none,some 11,0,.alloc 3⟩,⟨false,none,none,0,.store 3 (.tmp 11) (.tmp 26)⟩])) (.seq (.mc (.ops [⟨false,none,some 27,89,.load 89 (.tmp 2)⟩,⟨false,none,some 28,86,.load 86 (.tmp 8)⟩,⟨false,none,some 29,128,.call ⟨.value (.func 79),#[.tmp 27,.tmp 28],#[89,86]⟩⟩])) (.block 2 (.rf 47 (.tmp 29) [30] (rfOf Tryd.prog 74 0).1 (rfOf Tryd.prog 74 0).2))))) (.mc (.ops [⟨false,none,some 45,3,.binOp .add 3 (.tmp 24) (.const (.int .i64 1)) 3⟩,⟨false,none,some 24,3,.move (.tmp 45)⟩]))))
noncomputable def mc74:MY:=.seq (.mc (.ops [⟨false,none,some 2,0,.box 89 (.tmp 0)⟩,⟨false,none,some 3,0,.box 120 (.tmp 1)⟩,⟨false,none,some 4,28,.assign (.const (.slice none 0 0))⟩,⟨false,none,some 5,4,.assign (.const (.bool false))⟩])) (.seq (.mc (.ops [⟨false,none,some 13,143,.makeMap 143 none⟩,⟨false,none,some 6,0,.alloc 143⟩,⟨false,none,none,0,.store 143 (.tmp 6) (.tmp 13)⟩])) (.seq (.mc (.ops [⟨false,none,some 7,0,.alloc 144⟩])) (.seq (.mc (.ops [⟨false,none,some 14,144,.makeFunc (.func 95) #[] #[.tmp 6,.tmp 3,.tmp 2,.tmp 7]⟩,⟨false,none,none,0,.store 144 (.tmp 7) (.tmp 14)⟩])) (.seq (.mc (.ops [⟨false,none,some 15,86,.call ⟨.value (.func 78),#[],#[]⟩⟩,⟨false,none,some 8,0,.alloc 86⟩,⟨false,none,none,0,.store 86 (.tmp 8) (.tmp 15)⟩])) (.seq (.opy [⟨false,none,some 16,144,.load 144 (.tmp 7)⟩,⟨false,none,some 17,86,.load 86 (.tmp 8)⟩,⟨false,none,some 18,3,.call ⟨.value (.tmp 16),#[.tmp 17],#[86]⟩⟩,⟨false,none,some 9,0,.alloc 3⟩,⟨false,none,none,0,.store 3 (.tmp 9) (.tmp 18)⟩]) (.seq (.mc (.seq (.ops [⟨false,none,some 19,3,.load 3 (.tmp 9)⟩,⟨false,none,some 20,4,.binOp .eql 3 (.tmp 19) (.const (.int .i64 15)) 3⟩]) (.cond (.tmp 20) (.seq (.ops [⟨false,none,some 4,28,.assign (.const (.slice none 0 0))⟩,⟨false,none,some 5,4,.assign (.const (.bool false))⟩]) (.ret)) (.skip)))) (.seq (.mc (.ops [⟨false,none,some 21,3,.load 3 (.tmp 9)⟩,⟨false,none,some 22,28,.makeSlice 28 (.tmp 21) (.tmp 21)⟩,⟨false,none,some 10,0,.alloc 28⟩,⟨false,none,none,0,.store 28 (.tmp 10) (.tmp 22)⟩])) (.seq (.seq (.mc (.ops [⟨false,none,some 23,3,.load 3 (.tmp 9)⟩,⟨false,none,some 24,3,.move (.const (.int .i64 0))⟩])) (.block 0 (.loop mc74_l0))) (.mc (.seq (.ops [⟨false,none,some 46,28,.load 28 (.tmp 10)⟩,⟨false,none,some 4,28,.assign (.tmp 46)⟩,⟨false,none,some 5,4,.assign (.const (.bool true))⟩]) (.ret)))))))))))
theorem text74:textY Tryd.prog 74=some (47,[.tmp 4,.tmp 5],mc74):=by kernel_rfl
noncomputable def mc74_a0:MY:=.mc (.ops [⟨false,none,some 12,0,.alloc 86⟩,⟨false,none,none,0,.store 86 (.tmp 12) (.tmp 30)⟩])
theorem ta74_0:flatY Tryd.prog true 47 (rfOf Tryd.prog 74 0).1=some mc74_a0:=by kernel_rfl
noncomputable def mc74_b0:MY:=.mc (.block 3 (.seq (.seq (.ops [⟨true,none,some 31,144,.load 144 (.tmp 7)⟩]) (.seq (.ops [⟨true,none,some 32,86,.load 86 (.tmp 12)⟩]) (.seq (.ops [⟨true,none,some 34,3,.load 3 (.tmp 9)⟩]) (.seq (.ops [⟨true,none,some 35,3,.load 3 (.tmp 11)⟩]) (.seq (.ops [⟨true,none,some 36,3,.binOp .sub 3 (.tmp 34) (.tmp 35) 3⟩]) (.seq (.ops [⟨true,none,some 37,3,.binOp .sub 3 (.tmp 36) (.const (.int .i64 1)) 3⟩]) (.seq (.ops [⟨false,none,some 33,3,.call ⟨.value (.tmp 31),#[.tmp 32],#[86]⟩⟩]) (.seq (.ops [⟨true,none,some 38,4,.binOp .eql 3 (.tmp 33) (.tmp 37) 3⟩]) (.chk [⟨true,none,some 35,3,.load 3 (.tmp 11)⟩,⟨true,none,some 34,3,.load 3 (.tmp 9)⟩]))))))))) (.cond (.tmp 38) (.seq (.seq (.ops [⟨true,none,some 39,28,.load 28 (.tmp 10)⟩]) (.seq (.ops [⟨true,none,some 40,3,.load 3 (.tmp 11)⟩]) (.seq (.ops [⟨true,none,some 41,0,.fieldAddr 86 (.tmp 12) 1⟩]) (.seq (.ops [⟨true,none,some 42,3,.load 3 (.tmp 41)⟩]) (.seq (.ops [⟨true,none,some 43,86,.load 86 (.tmp 12)⟩]) (.seq (.ops [⟨true,none,some 44,0,.indexAddr 28 (.tmp 39) (.tmp 40)⟩]) (.seq (.ops [⟨false,none,none,0,.store 3 (.tmp 44) (.tmp 42)⟩]) (.seq (.chk [⟨true,none,some 43,86,.load 86 (.tmp 12)⟩]) (.seq (.ops [⟨false,none,none,0,.store 86 (.tmp 8) (.tmp 43)⟩]) (.chk [])))))))))) (.exit 2)) (.skip))))
theorem tb74_0:flatY Tryd.prog true 47 (rfOf Tryd.prog 74 0).2=some mc74_b0:=by kernel_rfl
noncomputable def mc75:MC:=.seq (.ops [⟨false,none,some 3,0,.box 86 (.tmp 0)⟩,⟨false,none,some 4,4,.assign (.const (.bool false))⟩]) (.seq (.ops [⟨false,none,some 5,27,.load 27 (.tmp 1)⟩,⟨false,none,some 6,0,.fieldAddr 86 (.tmp 3) 3⟩,⟨false,none,some 7,25,.load 25 (.tmp 6)⟩,⟨false,none,some 8,43,.buildSlice 43 1 #[(0,.tmp 7)]⟩,⟨false,none,some 9,97,.build 97 #[(0,.tmp 5),(1,.tmp 8)]⟩,⟨false,none,some 10,25,.load 25 (.tmp 2)⟩,⟨false,none,some 11,4,.call ⟨.value (.func 71),#[.tmp 9,.tmp 10],#[97,25]⟩⟩,⟨false,none,some 4,4,.assign (.tmp 11)⟩]) (.ret))
theorem text75:textF Tryd.prog 75=some (12,[.tmp 4],mc75):=by kernel_rfl
noncomputable def mc95:MY:=.seq (.mc (.ops [⟨false,none,some 5,0,.box 86 (.tmp 0)⟩,⟨false,none,some 6,3,.assign (.const (.int .i64 0))⟩])) (.seq (.mc (.seq (.ops [⟨false,none,some 12,143,.load 143 (.tmp 1)⟩,⟨false,none,some 13,86,.load 86 (.tmp 5)⟩,⟨false,none,some 14,145,.lookup 143 (.tmp 12) (.tmp 13) true⟩,⟨false,none,some 11,145,.move (.tmp 14)⟩,⟨false,none,some 15,3,.extract (.tmp 11) 0⟩,⟨false,none,some 16,4,.extract (.tmp 11) 1⟩,⟨false,none,some 7,3,.assign (.tmp 15)⟩,⟨false,none,some 8,4,.assign (.tmp 16)⟩]) (.seq (.ops [⟨false,none,some 17,4,.move (.tmp 8)⟩]) (.cond (.tmp 17) (.seq (.ops [⟨false,none,some 18,3,.move (.tmp 7)⟩,⟨false,none,some 6,3,.assign (.tmp 18)⟩]) (.ret)) (.skip))))) (.seq (.seq (.opy [⟨false,none,some 19,120,.load 120 (.tmp 2)⟩,⟨false,none,some 20,86,.load 86 (.tmp 5)⟩,⟨false,none,some 21,4,.call ⟨.value (.tmp 19),#[.tmp 20],#[86]⟩⟩]) (.mc (.cond (.tmp 21) (.seq (.ops [⟨false,none,some 22,143,.load 143 (.tmp 1)⟩,⟨false,none,some 23,86,.load 86 (.tmp 5)⟩,⟨false,none,none,0,.mapUpdate 143 (.tmp 22) (.tmp 23) (.const (.int .i64 0))⟩]) (.seq (.ops [⟨false,none,some 6,3,.assign (.const (.int .i64 0))⟩]) (.ret))) (.skip)))) (.seq (.mc (.ops [⟨false,none,some 9,0,.alloc 3⟩,⟨false,none,none,0,.store 3 (.tmp 9) (.const (.int .i64 15))⟩])) (.seq (.seq (.mc (.ops [⟨false,none,some 24,89,.load 89 (.tmp 3)⟩,⟨false,none,some 25,86,.load 86 (.tmp 5)⟩,⟨false,none,some 26,128,.call ⟨.value (.func 79),#[.tmp 24,.tmp 25],#[89,86]⟩⟩])) (.block 0 (.rf 38 (.tmp 26) [27] (rfOf Tryd.prog 95 0).1 (rfOf Tryd.prog 95 0).2))) (.mc (.seq (.ops [⟨false,none,some 34,143,.load 143 (.tmp 1)⟩,⟨false,none,some 35,86,.load 86 (.tmp 5)⟩,⟨false,none,some 36,3,.load 3 (.tmp 9)⟩,⟨false,none,none,0,.mapUpdate 143 (.tmp 34) (.tmp 35) (.tmp 36)⟩]) (.seq (.ops [⟨false,none,some 37,3,.load 3 (.tmp 9)⟩,⟨false,none,some 6,3,.assign (.tmp 37)⟩]) (.ret))))))))
theorem text95:textY Tryd.prog 95=some (38,[.tmp 6],mc95):=by kernel_rfl
noncomputable def mc95_a0:MY:=.mc (.ops [⟨false,none,some 10,0,.alloc 86⟩,⟨false,none,none,0,.store 86 (.tmp 10) (.tmp 27)⟩])
theorem ta95_0:flatY Tryd.prog true 38 (rfOf Tryd.prog 95 0).1=some mc95_a0:=by kernel_rfl
noncomputable def mc95_b0:MY:=.mc (.block 1 (.seq (.ops [⟨true,none,some 28,3,.load 3 (.tmp 9)⟩]) (.seq (.ops [⟨true,none,some 29,144,.load 144 (.tmp 4)⟩]) (.seq (.ops [⟨true,none,some 30,86,.load 86 (.tmp 10)⟩]) (.seq (.ops [⟨false,none,some 31,3,.call ⟨.value (.tmp 29),#[.tmp 30],#[86]⟩⟩]) (.seq (.ops [⟨true,none,some 32,3,.binOp .add 3 (.const (.int .i64 1)) (.tmp 31) 3⟩]) (.seq (.ops [⟨true,none,some 33,3,.call ⟨.builtin .min,#[.tmp 28,.tmp 32],#[3,3]⟩⟩]) (.seq (.chk [⟨true,none,some 28,3,.load 3 (.tmp 9)⟩]) (.seq (.ops [⟨false,none,none,0,.store 3 (.tmp 9) (.tmp 33)⟩]) (.chk []))))))))))
theorem tb95_0:flatY Tryd.prog true 38 (rfOf Tryd.prog 95 0).2=some mc95_b0:=by kernel_rfl
@[simp] theorem cf31 (w:AW) (l:List Value):callFn Tryd.prog w 31 l=.enter 31 l w:=callFn_enter text31 l
@[simp] theorem cf74 (w:AW) (l:List Value):callFn Tryd.prog w 74 l=.enter 74 l w:=callFn_of (by kernel_rfl) l
noncomputable def noOv:Ov:=fun _ _ _=>none
def limI:List Int:=[0,60,1,14,0,10000,1,1000000,0,1010000,0,10000,0,1000]
noncomputable def limC:List Value:=limI.map fun z=>Value.int .i64 z
noncomputable def laidL:List LaidV:=[(0,limC,141)]
abbrev Sp:=Int × Int
def inn (x:Int) (s:Sp):Prop:=s.1≤x∧x≤s.2
def bothS (a b:Sp):Sp:=(max a.1 b.1,min a.2 b.2)
def restS (u l:Sp):Sp:=(u.1 - l.2,u.2 - l.1)
def wholeS (u l:Sp):Sp:=(u.1 + l.1,u.2 + l.2)
def empS (a:Sp):Bool:=decide (a.2 < a.1)
def updS (U:Nat→Sp) (i:Nat) (s:Sp):Nat→Sp:=fun k=>if k=i then s else U k
def lowS (L:Nat→Sp) (d:Nat) (U:Nat→Sp):Nat→Sp:=updS U (d + 1) (bothS (U (d + 1)) (restS (U d) (L d)))
def stepS (L:Nat→Sp) (d:Nat) (U:Nat→Sp):Nat→Sp:=updS (lowS L d U) d (bothS (lowS L d U d) (wholeS (lowS L d U (d + 1)) (L d)))
def passS (L:Nat→Sp) (U:Nat→Sp):Nat→Nat→Sp
 | 0=>U
 | d + 1=>stepS L d (passS L U d)
def SolS (N:Nat) (L U:Nat→Sp) (x:Nat→Int):Prop:=(∀ i,i≤N→inn (x i) (U i))∧∀ i,i < N→inn (x i - x (i + 1)) (L i)
theorem stepS_at (L U:Nat→Sp) (d k:Nat):stepS L d U k=if k=d then bothS (U d) (wholeS (bothS (U (d + 1)) (restS (U d) (L d))) (L d)) else if k=d + 1 then bothS (U (d + 1)) (restS (U d) (L d)) else U k:=by
 have h1:lowS L d U d=U d:=by unfold lowS updS; rw [if_neg (by omega)]
 have h2:lowS L d U (d + 1)=bothS (U (d + 1)) (restS (U d) (L d)):=by unfold lowS updS; rw [if_pos rfl]
 unfold stepS
 rw [h1,h2]
 unfold updS
 by_cases e:k=d
 ·rw [if_pos e,if_pos e]
 ·rw [if_neg e,if_neg e]; rfl
theorem stepS_sol {N:Nat} {L U:Nat→Sp} {d:Nat} {x:Nat→Int} (hd:d < N):SolS N L (stepS L d U) x ↔ SolS N L U x:=by
 constructor
 ·rintro ⟨h1,h2⟩
  refine ⟨fun i hi=>?_,h2⟩
  have h:=h1 i hi
  rw [stepS_at] at h
  by_cases e:i=d
  ·subst e
   rw [if_pos rfl] at h
   unfold inn at h ⊢
   unfold bothS at h
   simp only at h
   omega
  ·rw [if_neg e] at h
   by_cases e2:i=d + 1
   ·subst e2
    rw [if_pos rfl] at h
    unfold inn at h ⊢
    unfold bothS at h
    simp only at h
    omega
   ·rw [if_neg e2] at h; exact h
 ·rintro ⟨h1,h2⟩
  refine ⟨fun i hi=>?_,h2⟩
  have k1:=h1 d (by omega)
  have k2:=h1 (d + 1) (by omega)
  have k3:=h2 d hd
  rw [stepS_at]
  unfold inn at k1 k2 k3
  by_cases e:i=d
  ·subst e
   rw [if_pos rfl]
   unfold inn bothS wholeS restS
   simp only
   omega
  ·rw [if_neg e]
   by_cases e2:i=d + 1
   ·subst e2
    rw [if_pos rfl]
    unfold inn bothS restS
    simp only
    omega
   ·rw [if_neg e2]; exact h1 i hi
theorem passS_sol {N:Nat} {L U:Nat→Sp} {x:Nat→Int}:∀ d,d≤N→(SolS N L (passS L U d) x ↔ SolS N L U x)
 | 0,_=>Iff.rfl
 | d + 1,h=>(stepS_sol (by omega)).trans (passS_sol d (by omega))
def Tight (N:Nat) (L U:Nat→Sp):Prop:=∀ d,d < N→((U d).1 - (L d).2≤(U (d + 1)).1∧(U (d + 1)).2≤(U d).2 - (L d).1)∧((U (d + 1)).1 + (L d).1≤(U d).1∧(U d).2≤(U (d + 1)).2 + (L d).2)
def subS (a b:Sp):Prop:=b.1≤a.1∧a.2≤b.2
theorem subS.refl (a:Sp):subS a a:=⟨Int.le_refl _,Int.le_refl _⟩
theorem subS.trans {a b c:Sp} (h:subS a b) (k:subS b c):subS a c:=⟨Int.le_trans k.1 h.1,Int.le_trans h.2 k.2⟩
theorem subS.eq {a b:Sp} (h:subS a b) (k:subS b a):a=b:=Prod.ext (Int.le_antisymm k.1 h.1) (Int.le_antisymm h.2 k.2)
theorem stepS_sub (L U:Nat→Sp) (d k:Nat):subS (stepS L d U k) (U k):=by
 rw [stepS_at]
 split
 ·rename_i e; subst e; unfold subS bothS; simp only; omega
 ·split
  ·rename_i e; subst e; unfold subS bothS; simp only; omega
  ·exact subS.refl _
theorem passS_sub (L U:Nat→Sp) (k:Nat):∀ d e,subS (passS L U (d + e) k) (passS L U d k)
 | d,0=>subS.refl _
 | d,e + 1=>(stepS_sub L _ _ k).trans (passS_sub L U k d e)
theorem fix_tight {N:Nat} {L U:Nat→Sp} (h:∀ k,k≤N→passS L U N k=U k):Tight N L U:=by
 have same:∀ d,d≤N→∀ k,k≤N→passS L U d k=U k:=fun d hd k hk=>by
  have h1:=passS_sub L U k 0 d
  have h2:=passS_sub L U k d (N - d)
  rw [show d + (N - d)=N by omega,h k hk] at h2
  rw [Nat.zero_add] at h1
  exact h1.eq h2
 intro d hd
 have a0:=same d (by omega) d (by omega)
 have a1:=same d (by omega) (d + 1) (by omega)
 have b0:=same (d + 1) (by omega) d (by omega)
 have b1:=same (d + 1) (by omega) (d + 1) (by omega)
 have s0:=stepS_at L (passS L U d) d d
 have s1:=stepS_at L (passS L U d) d (d + 1)
 rw [if_pos rfl,a0,a1] at s0
 rw [if_neg (by omega),if_pos rfl,a0,a1] at s1
 have c0:U d=bothS (U d) (wholeS (bothS (U (d + 1)) (restS (U d) (L d))) (L d)):=b0.symm.trans s0
 have c1:U (d + 1)=bothS (U (d + 1)) (restS (U d) (L d)):=b1.symm.trans s1
 rw [← c1] at c0
 have e1:=congrArg Prod.fst c0
 have e2:=congrArg Prod.snd c0
 have e3:=congrArg Prod.fst c1
 have e4:=congrArg Prod.snd c1
 unfold bothS wholeS at e1 e2
 unfold bothS restS at e3 e4
 simp only at e1 e2 e3 e4
 omega
def fwdS (L U:Nat→Sp) (a:Nat) (v:Int):Nat→Int
 | 0=>v
 | k + 1=>min (U (a + k + 1)).2 (fwdS L U a v k - (L (a + k)).1)
def bwdS (L U:Nat→Sp) (a:Nat) (v:Int):Nat→Int
 | 0=>v
 | k + 1=>min (U (a - k - 1)).2 (bwdS L U a v k + (L (a - k - 1)).2)
def chainS (L U:Nat→Sp) (a:Nat) (v:Int) (i:Nat):Int:=if a≤i then fwdS L U a v (i - a) else bwdS L U a v (a - i)
theorem fwdS_in {N:Nat} {L U:Nat→Sp} (hT:Tight N L U) (hL:∀ i,i < N→(L i).1≤(L i).2) (hU:∀ i,i≤N→(U i).1≤(U i).2) {a:Nat} {v:Int} (hv:inn v (U a)):∀ k,a + k≤N→inn (fwdS L U a v k) (U (a + k))∧(∀ j,k=j + 1→inn (fwdS L U a v j - fwdS L U a v (j + 1)) (L (a + j)))
 | 0,_=>⟨hv,fun j h=>by omega⟩
 | k + 1,hk=>by
  have h1:=(fwdS_in hT hL hU hv k (by omega)).1
  have h2:=(hT (a + k) (by omega))
  have h3:=hL (a + k) (by omega)
  have h4:=hU (a + k + 1) (by omega)
  have e:fwdS L U a v (k + 1)=min (U (a + k + 1)).2 (fwdS L U a v k - (L (a + k)).1):=rfl
  obtain ⟨z,hz⟩:∃ z,z=fwdS L U a v k:=⟨_,rfl⟩
  rw [← hz] at h1 e
  unfold inn at h1
  refine ⟨?_,fun j hj=>?_⟩
  ·rw [e]; show (U (a + k + 1)).1≤_∧_≤(U (a + k + 1)).2; omega
  ·obtain rfl:j=k:=by omega
   rw [e,← hz]; unfold inn; omega
theorem bwdS_in {N:Nat} {L U:Nat→Sp} (hT:Tight N L U) (hL:∀ i,i < N→(L i).1≤(L i).2) (hU:∀ i,i≤N→(U i).1≤(U i).2) {a:Nat} (ha:a≤N) {v:Int} (hv:inn v (U a)):∀ k,k≤a→inn (bwdS L U a v k) (U (a - k))∧(∀ j,k=j + 1→inn (bwdS L U a v (j + 1) - bwdS L U a v j) (L (a - j - 1)))
 | 0,_=>⟨hv,fun j h=>by omega⟩
 | k + 1,hk=>by
  have h1:=(bwdS_in hT hL hU ha hv k (by omega)).1
  have h2:=(hT (a - k - 1) (by omega))
  have h3:=hL (a - k - 1) (by omega)
  have h4:=hU (a - k - 1) (by omega)
  rw [show a - k - 1 + 1=a - k by omega] at h2
  have e:bwdS L U a v (k + 1)=min (U (a - k - 1)).2 (bwdS L U a v k + (L (a - k - 1)).2):=rfl
  obtain ⟨z,hz⟩:∃ z,z=bwdS L U a v k:=⟨_,rfl⟩
  rw [← hz] at h1 e
  unfold inn at h1
  refine ⟨?_,fun j hj=>?_⟩
  ·rw [e,show a - (k + 1)=a - k - 1 by omega]; unfold inn; omega
  ·obtain rfl:j=k:=by omega
   rw [e,← hz]; unfold inn; omega
theorem chainS_sol {N:Nat} {L U:Nat→Sp} (hT:Tight N L U) (hL:∀ i,i < N→(L i).1≤(L i).2) (hU:∀ i,i≤N→(U i).1≤(U i).2) {a:Nat} (ha:a≤N) {v:Int} (hv:inn v (U a)):SolS N L U (chainS L U a v)∧chainS L U a v a=v:=by
 refine ⟨⟨fun i hi=>?_,fun i hi=>?_⟩,?_⟩
 ·unfold chainS
  by_cases h:a≤i
  ·rw [if_pos h]
   have:=(fwdS_in hT hL hU hv (i - a) (by omega)).1
   rwa [show a + (i - a)=i by omega] at this
  ·rw [if_neg h]
   have:=(bwdS_in hT hL hU ha hv (a - i) (by omega)).1
   rwa [show a - (a - i)=i by omega] at this
 ·unfold chainS
  by_cases h:a≤i
  ·rw [if_pos h,if_pos (by omega)]
   have:=(fwdS_in hT hL hU hv (i - a + 1) (by omega)).2 (i - a) rfl
   rwa [show a + (i - a)=i by omega,show i - a + 1=i + 1 - a by omega] at this
  ·rw [if_neg h]
   have:=(bwdS_in hT hL hU ha hv (a - i) (by omega)).2 (a - i - 1) (by omega)
   rw [show a - (a - i - 1) - 1=i by omega,show a - i - 1 + 1=a - i by omega] at this
   by_cases h2:a≤i + 1
   ·rw [if_pos h2,show i + 1 - a=0 by omega]
    rw [show a - i - 1=0 by omega] at this
    exact this
   ·rw [if_neg h2]
    rwa [show a - i - 1=a - (i + 1) by omega] at this
 ·unfold chainS
  rw [if_pos (Nat.le_refl _),Nat.sub_self]; rfl
def FwdT (N:Nat) (L U:Nat→Sp):Prop:=∀ d,d < N→(U d).1 - (L d).2≤(U (d + 1)).1∧(U (d + 1)).2≤(U d).2 - (L d).1
def BackT (N:Nat) (L U:Nat→Sp) (k:Nat):Prop:=∀ d,d < N→N≤d + k→(U (d + 1)).1 + (L d).1≤(U d).1∧(U d).2≤(U (d + 1)).2 + (L d).2
theorem pass_fwd {N:Nat} {L U:Nat→Sp} (hL:∀ i,i < N→(L i).1≤(L i).2):∀ d,d≤N→(∀ e,e < d→(passS L U d e).1 - (L e).2≤(passS L U d (e + 1)).1∧(passS L U d (e + 1)).2≤(passS L U d e).2 - (L e).1)∧(∀ e,d < e→passS L U d e=U e)∧(0 < d→(passS L U d d).1 + (L (d - 1)).1≤(passS L U d (d - 1)).1∧(passS L U d (d - 1)).2≤(passS L U d d).2 + (L (d - 1)).2)
 | 0,_=>⟨fun e h=>by omega,fun e _=>rfl,fun h=>by omega⟩
 | d + 1,hd=>by
  obtain ⟨h1,h2,_⟩:=pass_fwd hL d (by omega)
  have hl:=hL d (by omega)
  have hs:∀ k,passS L U (d + 1) k=_:=fun k=>stepS_at L (passS L U d) d k
  obtain ⟨V,hV⟩:∃ V,V=passS L U d:=⟨_,rfl⟩
  rw [← hV] at h1 h2 hs
  refine ⟨fun e he=>?_,fun e he=>?_,fun _=>?_⟩
  ·have s0:=hs e
   have s1:=hs (e + 1)
   by_cases e1:e=d
   ·subst e1
    rw [if_pos rfl] at s0
    rw [if_neg (by omega),if_pos rfl] at s1
    rw [s0,s1]
    unfold bothS wholeS restS
    simp only
    omega
   ·have q:=h1 e (by omega)
    rw [if_neg e1,if_neg (by omega)] at s0
    rw [s0]
    by_cases e2:e + 1=d
    ·rw [if_pos e2] at s1
     rw [s1]
     subst e2
     unfold bothS
     simp only
     omega
    ·rw [if_neg e2,if_neg (by omega)] at s1
     rw [s1]; exact q
  ·rw [hs e,if_neg (by omega),if_neg (by omega),h2 e (by omega)]
  ·have s0:=hs d
   have s1:=hs (d + 1)
   rw [if_pos rfl] at s0
   rw [if_neg (by omega),if_pos rfl] at s1
   rw [Nat.add_sub_cancel,s0,s1]
   unfold bothS wholeS restS
   simp only
   omega
theorem pass_back {N:Nat} {L U:Nat→Sp} (hL:∀ i,i < N→(L i).1≤(L i).2) (hF:FwdT N L U):∀ d,d≤N→(∀ e,e < d→passS L U d e=bothS (U e) (wholeS (U (e + 1)) (L e)))∧(∀ e,d≤e→passS L U d e=U e)
 | 0,_=>⟨fun e h=>by omega,fun e _=>rfl⟩
 | d + 1,hd=>by
  obtain ⟨h1,h2⟩:=pass_back hL hF d (by omega)
  have hs:∀ k,passS L U (d + 1) k=_:=fun k=>stepS_at L (passS L U d) d k
  have q:=hF d (by omega)
  have u0:=h2 d (Nat.le_refl _)
  have u1:=h2 (d + 1) (by omega)
  have e0:bothS (U (d + 1)) (restS (U d) (L d))=U (d + 1):=by
   refine Prod.ext ?_ ?_
   ·show max _ _=_; unfold restS; simp only; omega
   ·show min _ _=_; unfold restS; simp only; omega
  rw [u0,u1,e0] at hs
  refine ⟨fun e he=>?_,fun e he=>?_⟩
  ·rw [hs e]
   by_cases e1:e=d
   ·subst e1; rw [if_pos rfl]
   ·rw [if_neg e1,if_neg (by omega),h1 e (by omega)]
  ·rw [hs e,if_neg (by omega)]
   by_cases e1:e=d + 1
   ·rw [if_pos e1,e1]
   ·rw [if_neg e1,h2 e (by omega)]
theorem pass_one {N:Nat} {L U:Nat→Sp} (hL:∀ i,i < N→(L i).1≤(L i).2):FwdT N L (passS L U N)∧BackT N L (passS L U N) 1:=by
 obtain ⟨h1,h2,h3⟩:=pass_fwd (U:=U) hL N (Nat.le_refl _)
 refine ⟨h1,fun d hd hk=>?_⟩
 have:=h3 (by omega)
 rw [show N - 1=d by omega,show passS L U N N=passS L U N (d + 1) by rw [show N=d + 1 by omega]] at this
 exact this
theorem pass_more {N:Nat} {L U:Nat→Sp} (hL:∀ i,i < N→(L i).1≤(L i).2) {k:Nat} (hF:FwdT N L U) (hB:BackT N L U k):FwdT N L (passS L U N)∧BackT N L (passS L U N) (k + 1):=by
 refine ⟨(pass_one hL).1,fun d hd hk=>?_⟩
 obtain ⟨h1,h2⟩:=pass_back hL hF N (Nat.le_refl _)
 have e0:=h1 d hd
 have e1:passS L U N (d + 1)=U (d + 1):=by
  by_cases e:d + 1=N
  ·exact h2 _ (by omega)
  ·rw [h1 (d + 1) (by omega)]
   have q:=hB (d + 1) (by omega) (by omega)
   refine Prod.ext ?_ ?_
   ·show max _ _=_; unfold wholeS; simp only; omega
   ·show min _ _=_; unfold wholeS; simp only; omega
 rw [e0,e1]
 unfold bothS wholeS
 simp only
 omega
theorem pass_last {N:Nat} {L U:Nat→Sp} (hL:∀ i,i < N→(L i).1≤(L i).2) (hF:FwdT N L U) (hB:BackT N L U N):∀ k,passS L U N k=U k:=by
 intro k
 obtain ⟨h1,h2⟩:=pass_back hL hF N (Nat.le_refl _)
 by_cases e:k < N
 ·rw [h1 k e]
  have q:=hB k e (by omega)
  refine Prod.ext ?_ ?_
  ·show max _ _=_; unfold wholeS; simp only; omega
  ·show min _ _=_; unfold wholeS; simp only; omega
 ·exact h2 k (by omega)
def moI (x s:Int):Int:=(1000 * (x - s) + x - 1) / x
def dryS (N:Nat) (U:Nat→Sp):Nat→Sp:=updS U N ((U N).2,(U N).2)
theorem sol_dry {N:Nat} {L U:Nat→Sp} {x:Nat→Int} (h:SolS N L (dryS N U) x) (hne:(U N).1≤(U N).2):SolS N L U x∧x N=(U N).2:=by
 have hN:=h.1 N (Nat.le_refl _)
 have e:dryS N U N=((U N).2,(U N).2):=by unfold dryS updS; rw [if_pos rfl]
 rw [e] at hN
 unfold inn at hN
 simp only at hN
 refine ⟨⟨fun i hi=>?_,h.2⟩,by omega⟩
 by_cases e:i=N
 ·subst e; unfold inn; omega
 ·have:=h.1 i hi
  unfold dryS updS at this
  rwa [if_neg e] at this
structure ExactS (N:Nat) (L U0 U:Nat→Sp):Prop where
 tight:Tight N L U
 ne:∀ i,i≤N→(U i).1≤(U i).2
 sol:∀ x,SolS N L U x ↔ SolS N L U0 x
theorem ExactS.low {N:Nat} {L U0 U:Nat→Sp} (h:ExactS N L U0 U) (hL:∀ i,i < N→(L i).1≤(L i).2) {a:Nat} (ha:a≤N) {v:Int} (hv:inn v (U a)):SolS N L U0 (chainS L U a v)∧chainS L U a v a=v:=by
 obtain ⟨h1,h2⟩:=chainS_sol h.tight hL h.ne ha hv
 exact ⟨(h.sol _).1 h1,h2⟩
theorem ExactS.mono {N:Nat} {L L' U0 U V0 V:Nat→Sp} (h:ExactS N L U0 U) (k:ExactS N L' V0 V) (hL':∀ i,i < N→(L' i).1≤(L' i).2) (hs:∀ x,SolS N L' V0 x→SolS N L U0 x):∀ i,i≤N→subS (V i) (U i):=by
 intro i hi
 have hne:=k.ne i hi
 obtain ⟨a1,a2⟩:=k.low hL' hi (v:=(V i).1) ⟨Int.le_refl _,hne⟩
 obtain ⟨b1,b2⟩:=k.low hL' hi (v:=(V i).2) ⟨hne,Int.le_refl _⟩
 have c1:=((h.sol _).2 (hs _ a1)).1 i hi
 have c2:=((h.sol _).2 (hs _ b1)).1 i hi
 rw [a2] at c1
 rw [b2] at c2
 exact ⟨c1.1,c2.2⟩
theorem ExactS.uniq {N:Nat} {L U0 U V:Nat→Sp} (h:ExactS N L U0 U) (k:ExactS N L U0 V) (hL:∀ i,i < N→(L i).1≤(L i).2):∀ i,i≤N→V i=U i:=fun i hi =>
 (h.mono k hL (fun _ h=>h) i hi).eq (k.mono h hL (fun _ h=>h) i hi)
end Go.Proofs.YtnmamelclmfplaaDoor.walk
namespace Go.Sh
open Go
variable {P:Program}
structure PSpec where
 R:List Value→AW→Value→Prop
 uniq:∀ {args w v v'},R args w v→R args w v'→v=v'
 shut:∀ {args w v},R args w v→R args (shutA w) v
open Classical in
noncomputable def PSpec.F (S:PSpec):PureF:=fun args w=>if h:∃ v,S.R args w v then some h.choose else none
theorem PSpec.F_eq (S:PSpec) {args:List Value} {w:AW} {v:Value} (h:S.R args w v):S.F args w=some v:=by
 have hx:∃ v,S.R args w v:=⟨v,h⟩
 unfold PSpec.F
 rw [dif_pos hx]
 exact congrArg some (S.uniq hx.choose_spec h)
theorem PSpec.of_F (S:PSpec) {args:List Value} {w:AW} {v:Value} (h:S.F args w=some v):S.R args w v:=by
 unfold PSpec.F at h
 by_cases hx:∃ v,S.R args w v
 ·rw [dif_pos hx] at h
  cases h
  exact hx.choose_spec
 ·rw [dif_neg hx] at h; cases h
theorem PSpec.call (S:PSpec) {ov:Ov} {f:FuncId} (k:HasP ov f S.F) {m:Nat} {args:List Value} {w:AW} {v:Value} (h:S.R args w v):(run P ov (m + 1)).call f args w .none=.ok (.ret v) w .none:=k.call (S.F_eq h)
theorem PSpec.call1 (S:PSpec) {ov:Ov} {f:FuncId} (k:HasP ov f S.F) {args:List Value} {w:AW} {v:Value} (h:S.R args w v):(run P ov 1).call f args w .none=.ok (.ret v) w .none:=k.call (m:=0) (S.F_eq h)
theorem PSpec.ok (S:PSpec) (hP:NoCount P) (hm:P.follows .mixedOrders=true) {rest:Ov} (hO:OvOk P rest) {f:FuncId}
  (fact:∀ args w v,w.lim=w.next→S.R args w v→groundC 3 v=true∧∃ m v' w' x',(run P rest m).call f args w .none=.ok (.ret v') w' x'∧v'=v):OvOk P (ovP f S.F rest) :=
 pure_ok hP hm hO (fun args w v h=>S.F_eq (S.shut (S.of_F h))) fun args w v hl h=>by
  obtain ⟨h1,m,v',w',x',h2,rfl⟩:=fact args w v hl (S.of_F h)
  exact ⟨h1,m,w',x',h2⟩
structure Up (we w:AW):Prop where
 old:Old we.next we.heap w.heap
 next:we.next≤w.next
 lim:w.lim=we.lim
theorem Up.refl (w:AW):Up w w:=⟨Old.refl _ _,Nat.le_refl _,rfl⟩
theorem Up.trans {a b c:AW} (h:Up a b) (k:Up b c):Up a c:=⟨h.old.trans k.old h.next,Nat.le_trans h.next k.next,k.lim.trans h.lim⟩
theorem Up.put {we:AW} {H:T AObj} {n n' l k:Nat} {o:Option AObj} (h:Up we ⟨H,n,l⟩) (hk:we.next≤k) (hn:n≤n'):Up we ⟨H.put k o,n',l⟩:=⟨h.old.put hk,Nat.le_trans h.next hn,h.lim⟩
theorem Up.add {we w:AW} (h:Up we w) (o:Option AObj):Up we ⟨w.heap.put w.next o,w.next + 1,w.lim⟩:=⟨h.old.put h.next,Nat.le_trans h.next (Nat.le_succ _),h.lim⟩
theorem Up.at {we w:AW} (h:Up we w) {b:Nat} (hb:b < we.next):w.heap.get b=we.heap.get b:=h.old b hb
theorem RowsV.up {α:Type} {f:α→List Value} {we w:AW} {v:Value} {l:List α} (h:RowsV f we v l) (k:Up we w):RowsV f w v l:=h.old k.old k.next
def shV (a b:Int):Int:=a.fdiv (2 ^ (min b.toNat IntKind.i64.bits))
def anV (a b:Int):Int:=wrapA .i64 (BitVec.ofInt IntKind.i64.bits a &&& BitVec.ofInt IntKind.i64.bits b).toNat
def bitB (x k:Int):Bool:=decide (anV (shV x k) 1=1)
variable {w:AW}
theorem bin_shr (s:TypeId) (c:Bool) (a b:Int) (h:0≤b):(binW P .shr s c).val (.int .i64 a) (.int .i64 b) w=.val (.int .i64 (shV a b)) w:=by
 show vR w (shiftV shrA (.int .i64 a) (.int .i64 b))=_
 have:¬ b < 0:=by omega
 simp [shiftV,shrA,vR,intLt_eq,this,shV]
@[simp] theorem bin_and (s:TypeId) (c:Bool) (a b:Int):(binW P .and s c).val (.int .i64 a) (.int .i64 b) w=.val (.int .i64 (anV a b)) w:=by
 show vR w (arithA andA (.int .i64 a) (.int .i64 b))=_
 simp [arithA,andA,sameK_refl,vR,anV]
theorem bin_shl1 (s:TypeId) (c:Bool) (n:Nat) (h:n≤5):(binW P .shl s c).val (.int .i64 1) (.int .i64 (n:Int)) w=.val (.int .i64 (2 ^ n)) w:=by
 show vR w (shiftV shlA (.int .i64 1) (.int .i64 (n:Int)))=_
 have:¬ (n:Int) < 0:=by omega
 have e:wrapA .i64 (1 * 2 ^ (min (n:Int).toNat IntKind.i64.bits))=2 ^ n:=by
  rcases n with _ | _ | _ | _ | _ | _ | n
  ·decide
  ·decide
  ·decide
  ·decide
  ·decide
  ·decide
  ·omega
 simp only [shiftV,shlA,intLt_eq,decide_eq_false this,cond_false,vR]
 rw [e]
end Go.Sh
