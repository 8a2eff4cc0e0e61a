/- Part of a proof: see the text with the theorem. -/
import Derived.Test.YtdgllbepplldoaaGreatDoorTe
import Derived.Test.YtdgllbepplldoaaGreatDoorShF
import Derived.Test.YtdgllbepplldoaaGreatDoorTc
import Derived.KernelRfl
import Derived.Test.YtdgllbepplldoaaGreatDoorProg
set_option linter.all false
namespace Go.Proofs.YtdgllbepplldoaaGreatDoor.walk
open Go Go.Sh
set_option maxRecDepth 100000
section
variable {ov:Ov}
end
theorem sg_cut:∀ k:Fin 37,(sgL.take (k.1 + 1)).drop k.1=[sgL.getD k.1 0]:=by decide +kernel
theorem sl_sg (w:AW) {v:Nat} (h:v < 37):sliceA Tryz.prog w 9 (.string ⟨⟨sgL⟩⟩) (some (.int .i64 (v:Int))) (some (.int .i64 ((v:Int) + 1))) none=.val (.string ⟨⟨[sgL.getD v 0]⟩⟩) w:=by
 have:=slM w sgL (k:=v) (n:=v + 1) (Nat.le_succ v) (by rw [sgL_len]; exact h)
 rw [sg_cut ⟨v,h⟩] at this
 exact this
theorem set_cut (C:List UInt8) {i:Nat} (c:UInt8) (h:i < C.length):C.take i++[c]++C.drop (i + 1)=C.set i c:=by
 rw [List.set_eq_take_append_cons_drop,if_pos h,List.append_assoc]; rfl
structure Has5 (ov:Ov):Prop where
 nr:Nr ov
 o8:∀ args w,ov 8 args w=none
 o20:∀ args w,ov 20 args w=none
 o22:∀ args w,ov 22 args w=none
 h21:HasP ov 21 S21.F
 h30:HasP ov 30 S30.F
 hq:HasQ ov
section
variable {ov:Ov}
end
@[simp] theorem ne4 (c:Bool) (x y:Value) (w:AW):(binW Tryz.prog .neq 4 c).val x y w=vR w ((eqFlat false [1] x y).map fun b=>.bool (!b)):=bin_neq (by kernel_rfl) c x y
@[simp] theorem eq22 (c:Bool) (x y:Value) (w:AW):(binW Tryz.prog .eql 22 c).val x y w=vR w ((eqFlat false [0] x y).map .bool):=bin_eql (by kernel_rfl) c x y
@[simp] theorem bd26_n0 (w:AW) :buildSliceA Tryz.prog w 26 0 []=.val (.slice (some ⟨w.next,0,some 2⟩) 0 0) ⟨w.heap.put w.next (some (.cells [] 9 false)),w.next + 1,w.lim⟩:=by kernel_rfl
noncomputable def mc3:MC:=.seq (.ops [⟨false,none,some 2,4,.assign (.const (.bool false))⟩]) (.seq (.ops [⟨false,none,some 10,9,.move (.tmp 0)⟩,⟨false,none,some 11,23,.call ⟨.value (.func 8),#[.tmp 10],#[9]⟩⟩,⟨false,none,some 9,23,.move (.tmp 11)⟩,⟨false,none,some 12,9,.extract (.tmp 9) 0⟩,⟨false,none,some 13,22,.extract (.tmp 9) 1⟩,⟨false,none,some 3,9,.assign (.tmp 12)⟩,⟨false,none,some 4,22,.assign (.tmp 13)⟩]) (.seq (.ops [⟨false,none,some 15,9,.move (.tmp 0)⟩,⟨false,none,some 16,23,.call ⟨.value (.func 9),#[.tmp 15],#[9]⟩⟩,⟨false,none,some 14,23,.move (.tmp 16)⟩,⟨false,none,some 17,9,.extract (.tmp 14) 0⟩,⟨false,none,some 18,22,.extract (.tmp 14) 1⟩,⟨false,none,some 5,9,.assign (.tmp 17)⟩,⟨false,none,some 6,22,.assign (.tmp 18)⟩]) (.seq (.seq (.ops [⟨false,none,some 19,9,.move (.tmp 3)⟩,⟨false,none,some 20,9,.move (.tmp 5)⟩,⟨false,none,some 21,4,.binOp .neq 9 (.tmp 19) (.tmp 20) 9⟩,⟨false,none,some 22,4,.move (.tmp 21)⟩,⟨false,some (22,false),some 23,22,.move (.tmp 4)⟩,⟨false,some (22,false),some 24,22,.move (.tmp 6)⟩,⟨false,some (22,false),some 25,4,.binOp .neq 22 (.tmp 23) (.tmp 24) 22⟩,⟨false,none,some 26,4,.pick (.tmp 22) (.const (.bool true)) (.tmp 25)⟩,⟨false,none,some 27,4,.move (.tmp 26)⟩,⟨false,some (27,false),some 28,9,.move (.tmp 0)⟩,⟨false,some (27,false),some 29,4,.call ⟨.value (.func 10),#[.tmp 28],#[9]⟩⟩,⟨false,some (27,false),some 30,9,.move (.tmp 0)⟩,⟨false,some (27,false),some 31,4,.call ⟨.value (.func 11),#[.tmp 30],#[9]⟩⟩,⟨false,some (27,false),some 32,4,.binOp .neq 4 (.tmp 29) (.tmp 31) 4⟩,⟨false,none,some 33,4,.pick (.tmp 27) (.const (.bool true)) (.tmp 32)⟩]) (.cond (.tmp 33) (.seq (.ops [⟨false,none,some 2,4,.assign (.const (.bool false))⟩]) (.ret)) (.skip))) (.seq (.ops [⟨false,none,some 35,9,.move (.tmp 0)⟩,⟨false,none,some 36,27,.call ⟨.value (.func 12),#[.tmp 35],#[9]⟩⟩,⟨false,none,some 34,27,.move (.tmp 36)⟩,⟨false,none,some 37,26,.extract (.tmp 34) 0⟩,⟨false,none,some 38,22,.extract (.tmp 34) 1⟩,⟨false,none,some 7,26,.assign (.tmp 37)⟩,⟨false,none,some 4,22,.assign (.tmp 38)⟩]) (.seq (.ops [⟨false,none,some 40,9,.move (.tmp 0)⟩,⟨false,none,some 41,27,.call ⟨.value (.func 13),#[.tmp 40],#[9]⟩⟩,⟨false,none,some 39,27,.move (.tmp 41)⟩,⟨false,none,some 42,26,.extract (.tmp 39) 0⟩,⟨false,none,some 43,22,.extract (.tmp 39) 1⟩,⟨false,none,some 8,26,.assign (.tmp 42)⟩,⟨false,none,some 6,22,.assign (.tmp 43)⟩]) (.seq (.ops [⟨false,none,some 44,26,.move (.tmp 7)⟩,⟨false,none,some 45,26,.move (.tmp 8)⟩,⟨false,none,some 46,4,.call ⟨.value (.func 14),#[.tmp 44,.tmp 45],#[26,26]⟩⟩,⟨false,none,some 47,4,.move (.tmp 46)⟩,⟨false,some (47,true),some 48,22,.move (.tmp 4)⟩,⟨false,some (47,true),some 49,22,.move (.tmp 6)⟩,⟨false,some (47,true),some 50,4,.binOp .eql 22 (.tmp 48) (.tmp 49) 22⟩,⟨false,none,some 51,4,.pick (.tmp 47) (.tmp 50) (.const (.bool false))⟩,⟨false,none,some 52,4,.move (.tmp 51)⟩,⟨false,some (52,true),some 53,4,.call ⟨.value (.func 15),#[],#[]⟩⟩,⟨false,none,some 54,4,.pick (.tmp 52) (.tmp 53) (.const (.bool false))⟩,⟨false,none,some 2,4,.assign (.tmp 54)⟩]) (.ret)))))))
theorem text3:textF Tryz.prog 3=some (55,[.tmp 2],mc3):=by kernel_rfl
noncomputable def mc9 : MC := .seq (.ops [⟨false, none, some 2, 9, .assign (.const (.string ⟨⟨[]⟩⟩))⟩, ⟨false, none, some 3, 22, .assign (.const (.int .i64 0))⟩]) (.seq (.seq (.ops [⟨false, none, some 5, 9, .move (.tmp 0)⟩, ⟨false, none, some 6, 4, .call ⟨.value (.func 31), #[.tmp 5, .const (.int .i64 1), .const (.int .i64 16)], #[9, 3, 3]⟩⟩, ⟨false, none, some 7, 4, .unOp .not 4 (.tmp 6)⟩]) (.cond (.tmp 7) (.seq (.ops [⟨false, none, some 2, 9, .assign (.const (.string ⟨⟨[]⟩⟩))⟩, ⟨false, none, some 3, 22, .assign (.const (.int .i64 80))⟩]) (.ret)) (.skip))) (.seq (.ops [⟨false, none, some 8, 9, .move (.tmp 0)⟩, ⟨false, none, some 9, 3, .call ⟨.value (.func 32), #[.tmp 8], #[9]⟩⟩, ⟨false, none, some 4, 3, .assign (.tmp 9)⟩]) (.seq (.ops [⟨false, none, some 10, 3, .move (.tmp 4)⟩, ⟨false, none, some 11, 3, .move (.tmp 4)⟩, ⟨false, none, some 12, 3, .binOp .add 3 (.tmp 11) (.const (.int .i64 1)) 3⟩, ⟨false, none, some 13, 9, .slice 9 (.const (.string ⟨⟨[97, 98, 99, 100, 101, 102, 103, 104, 105, 106, 107, 108, 109, 110, 111, 112, 113, 114, 115, 116, 117, 118, 119, 120,
 121, 122, 48, 49, 50, 51, 52, 53, 54, 55, 56, 57, 45]⟩⟩)) (some (.tmp 10)) (some (.tmp 12)) none⟩, ⟨false, none, some 2, 9, .assign (.tmp 13)⟩, ⟨false, none, some 3, 22, .assign (.const (.int .i64 0))⟩]) (.ret))))
theorem text9:textF Tryz.prog 9=some (14,[.tmp 2,.tmp 3],mc9):=by kernel_rfl
noncomputable def mc11:MC:=.seq (.ops [⟨false,none,some 2,4,.assign (.const (.bool false))⟩]) (.seq (.seq (.ops [⟨true,none,some 3,9,.move (.tmp 0)⟩]) (.seq (.ops [⟨false,none,some 4,4,.call ⟨.value (.func 31),#[.tmp 3,.const (.int .i64 2),.const (.int .i64 17)],#[9,3,3]⟩⟩]) (.seq (.ops [⟨true,none,some 5,4,.move (.tmp 4)⟩]) (.seq (.ops [⟨true,some (5,true),some 6,9,.move (.tmp 0)⟩]) (.seq (.ops [⟨true,some (5,true),some 7,9,.move (.tmp 0)⟩]) (.seq (.ops [⟨true,some (5,true),some 8,3,.call ⟨.builtin .len,#[.tmp 7],#[9]⟩⟩]) (.seq (.ops [⟨true,some (5,true),some 9,3,.binOp .sub 3 (.tmp 8) (.const (.int .i64 1)) 3⟩]) (.seq (.ops [⟨true,some (5,true),some 10,9,.slice 9 (.tmp 6) none (some (.tmp 9)) none⟩]) (.seq (.ops [⟨true,some (5,true),some 12,9,.move (.tmp 0)⟩]) (.seq (.ops [⟨true,some (5,true),some 13,9,.move (.tmp 0)⟩]) (.seq (.ops [⟨true,some (5,true),some 14,3,.call ⟨.builtin .len,#[.tmp 13],#[9]⟩⟩]) (.seq (.ops [⟨true,some (5,true),some 15,3,.binOp .sub 3 (.tmp 14) (.const (.int .i64 1)) 3⟩]) (.seq (.ops [⟨true,some (5,true),some 16,5,.index 9 (.tmp 12) (.tmp 15)⟩]) (.seq (.ops [⟨false,some (5,true),some 11,3,.call ⟨.value (.func 32),#[.tmp 10],#[9]⟩⟩]) (.seq (.chk [⟨true,some (5,true),some 14,3,.call ⟨.builtin .len,#[.tmp 13],#[9]⟩⟩]) (.seq (.ops [⟨false,some (5,true),some 17,3,.call ⟨.value (.func 34),#[.tmp 16],#[5]⟩⟩]) (.seq (.ops [⟨true,some (5,true),some 18,4,.binOp .eql 3 (.tmp 11) (.tmp 17) 3⟩]) (.seq (.ops [⟨true,none,some 19,4,.pick (.tmp 5) (.tmp 18) (.const (.bool false))⟩]) (.seq (.ops [⟨true,none,some 2,4,.assign (.tmp 19)⟩]) (.chk [])))))))))))))))))))) (.ret))
theorem text11:textF Tryz.prog 11=some (20,[.tmp 2],mc11):=by kernel_rfl
noncomputable def mc13_l1 : MC := .seq (.seq (.ops [⟨false, none, some 18, 3, .move (.tmp 6)⟩, ⟨false, none, some 19, 4, .binOp .lss 3 (.tmp 18) (.const (.int .i64 37)) 3⟩]) (.cond (.tmp 19) (.skip) (.exit 2))) (.seq (.block 3 (.seq (.ops [⟨true, none, some 22, 3, .move (.tmp 6)⟩, ⟨true, none, some 23, 5, .index 9 (.const (.string ⟨⟨[97, 98, 99, 100, 101, 102, 103, 104, 105, 106, 107, 108, 109, 110, 111, 112, 113, 114, 115, 116, 117, 118, 119, 120,
 121, 122, 48, 49, 50, 51, 52, 53, 54, 55, 56, 57, 45]⟩⟩)) (.tmp 22)⟩, ⟨true, none, some 24, 9, .move (.tmp 0)⟩, ⟨true, none, some 25, 3, .move (.tmp 5)⟩, ⟨true, none, some 26, 5, .index 9 (.tmp 24) (.tmp 25)⟩, ⟨true, none, some 27, 4, .binOp .neq 5 (.tmp 23) (.tmp 26) 5⟩]) (.cond (.tmp 27) (.ops [⟨true, none, some 28, 26, .move (.tmp 4)⟩, ⟨true, none, some 29, 9, .move (.tmp 0)⟩, ⟨true, none, some 30, 3, .move (.tmp 5)⟩, ⟨true, none, some 31, 9, .slice 9 (.tmp 29) none (some (.tmp 30)) none⟩, ⟨true, none, some 32, 3, .move (.tmp 6)⟩, ⟨true, none, some 33, 3, .move (.tmp 6)⟩, ⟨true, none, some 34, 3, .binOp .add 3 (.tmp 33) (.const (.int .i64 1)) 3⟩, ⟨true, none, some 35, 9, .slice 9 (.const (.string ⟨⟨[97, 98, 99, 100, 101, 102, 103, 104, 105, 106, 107, 108, 109, 110, 111, 112, 113, 114, 115, 116, 117, 118, 119, 120,
 121, 122, 48, 49, 50, 51, 52, 53, 54, 55, 56, 57, 45]⟩⟩)) (some (.tmp 32)) (some (.tmp 34)) none⟩, ⟨true, none, some 36, 9, .binOp .add 9 (.tmp 31) (.tmp 35) 9⟩, ⟨true, none, some 37, 9, .move (.tmp 0)⟩, ⟨true, none, some 38, 3, .move (.tmp 5)⟩, ⟨true, none, some 39, 3, .binOp .add 3 (.tmp 38) (.const (.int .i64 1)) 3⟩, ⟨true, none, some 40, 9, .slice 9 (.tmp 37) (some (.tmp 39)) none none⟩, ⟨true, none, some 41, 9, .binOp .add 9 (.tmp 36) (.tmp 40) 9⟩, ⟨false, none, some 42, 26, .call ⟨.value (.func 37), #[.tmp 28, .tmp 41], #[26, 9]⟩⟩, ⟨true, none, some 4, 26, .assign (.tmp 42)⟩]) (.skip)))) (.ops [⟨false, none, some 20, 3, .move (.tmp 6)⟩, ⟨false, none, some 21, 3, .binOp .add 3 (.tmp 20) (.const (.int .i64 1)) 3⟩, ⟨false, none, some 6, 3, .assign (.tmp 21)⟩]))
noncomputable def mc13_l0:MC:=.seq (.seq (.ops [⟨false,none,some 12,3,.move (.tmp 5)⟩,⟨false,none,some 13,9,.move (.tmp 0)⟩,⟨false,none,some 14,3,.call ⟨.builtin .len,#[.tmp 13],#[9]⟩⟩,⟨false,none,some 15,4,.binOp .lss 3 (.tmp 12) (.tmp 14) 3⟩]) (.cond (.tmp 15) (.skip) (.exit 0))) (.seq (.block 1 (.seq (.seq (.ops [⟨false,none,some 6,3,.assign (.const (.int .i64 0))⟩]) (.block 2 (.loop mc13_l1))) (.seq (.ops [⟨true,none,some 43,3,.move (.tmp 5)⟩,⟨true,none,some 44,3,.binOp .add 3 (.tmp 43) (.const (.int .i64 1)) 3⟩,⟨true,none,some 45,9,.move (.tmp 0)⟩,⟨true,none,some 46,3,.call ⟨.builtin .len,#[.tmp 45],#[9]⟩⟩,⟨true,none,some 47,4,.binOp .lss 3 (.tmp 44) (.tmp 46) 3⟩,⟨true,none,some 48,4,.move (.tmp 47)⟩,⟨true,some (48,true),some 49,9,.move (.tmp 0)⟩,⟨true,some (48,true),some 50,3,.move (.tmp 5)⟩,⟨true,some (48,true),some 51,5,.index 9 (.tmp 49) (.tmp 50)⟩,⟨true,some (48,true),some 52,9,.move (.tmp 0)⟩,⟨true,some (48,true),some 53,3,.move (.tmp 5)⟩,⟨true,some (48,true),some 54,3,.binOp .add 3 (.tmp 53) (.const (.int .i64 1)) 3⟩,⟨true,some (48,true),some 55,5,.index 9 (.tmp 52) (.tmp 54)⟩,⟨true,some (48,true),some 56,4,.binOp .neq 5 (.tmp 51) (.tmp 55) 5⟩,⟨true,none,some 57,4,.pick (.tmp 48) (.tmp 56) (.const (.bool false))⟩]) (.cond (.tmp 57) (.ops [⟨true,none,some 58,26,.move (.tmp 4)⟩,⟨true,none,some 59,9,.move (.tmp 0)⟩,⟨true,none,some 60,3,.move (.tmp 5)⟩,⟨true,none,some 61,9,.slice 9 (.tmp 59) none (some (.tmp 60)) none⟩,⟨true,none,some 62,9,.move (.tmp 0)⟩,⟨true,none,some 63,3,.move (.tmp 5)⟩,⟨true,none,some 64,3,.binOp .add 3 (.tmp 63) (.const (.int .i64 1)) 3⟩,⟨true,none,some 65,3,.move (.tmp 5)⟩,⟨true,none,some 66,3,.binOp .add 3 (.tmp 65) (.const (.int .i64 2)) 3⟩,⟨true,none,some 67,9,.slice 9 (.tmp 62) (some (.tmp 64)) (some (.tmp 66)) none⟩,⟨true,none,some 68,9,.binOp .add 9 (.tmp 61) (.tmp 67) 9⟩,⟨true,none,some 69,9,.move (.tmp 0)⟩,⟨true,none,some 70,3,.move (.tmp 5)⟩,⟨true,none,some 71,3,.move (.tmp 5)⟩,⟨true,none,some 72,3,.binOp .add 3 (.tmp 71) (.const (.int .i64 1)) 3⟩,⟨true,none,some 73,9,.slice 9 (.tmp 69) (some (.tmp 70)) (some (.tmp 72)) none⟩,⟨true,none,some 74,9,.binOp .add 9 (.tmp 68) (.tmp 73) 9⟩,⟨true,none,some 75,9,.move (.tmp 0)⟩,⟨true,none,some 76,3,.move (.tmp 5)⟩,⟨true,none,some 77,3,.binOp .add 3 (.tmp 76) (.const (.int .i64 2)) 3⟩,⟨true,none,some 78,9,.slice 9 (.tmp 75) (some (.tmp 77)) none none⟩,⟨true,none,some 79,9,.binOp .add 9 (.tmp 74) (.tmp 78) 9⟩,⟨false,none,some 80,26,.call ⟨.value (.func 37),#[.tmp 58,.tmp 79],#[26,9]⟩⟩,⟨true,none,some 4,26,.assign (.tmp 80)⟩]) (.skip))))) (.ops [⟨false,none,some 16,3,.move (.tmp 5)⟩,⟨false,none,some 17,3,.binOp .add 3 (.tmp 16) (.const (.int .i64 1)) 3⟩,⟨false,none,some 5,3,.assign (.tmp 17)⟩]))
noncomputable def mc13:MC:=.seq (.ops [⟨false,none,some 2,26,.assign (.const (.slice none 0 0))⟩,⟨false,none,some 3,22,.assign (.const (.int .i64 0))⟩]) (.seq (.seq (.ops [⟨false,none,some 7,9,.move (.tmp 0)⟩,⟨false,none,some 8,4,.call ⟨.value (.func 31),#[.tmp 7,.const (.int .i64 2),.const (.int .i64 17)],#[9,3,3]⟩⟩,⟨false,none,some 9,4,.unOp .not 4 (.tmp 8)⟩]) (.cond (.tmp 9) (.seq (.ops [⟨false,none,some 2,26,.assign (.const (.slice none 0 0))⟩,⟨false,none,some 3,22,.assign (.const (.int .i64 80))⟩]) (.ret)) (.skip))) (.seq (.seq (.ops [⟨false,none,some 10,9,.move (.tmp 0)⟩,⟨false,none,some 11,4,.call ⟨.value (.func 11),#[.tmp 10],#[9]⟩⟩]) (.cond (.tmp 11) (.seq (.ops [⟨false,none,some 2,26,.assign (.const (.slice none 0 0))⟩,⟨false,none,some 3,22,.assign (.const (.int .i64 0))⟩]) (.ret)) (.skip))) (.seq (.ops [⟨false,none,some 4,26,.assign (.const (.slice none 0 0))⟩]) (.seq (.seq (.ops [⟨false,none,some 5,3,.assign (.const (.int .i64 0))⟩]) (.block 0 (.loop mc13_l0))) (.seq (.ops [⟨false,none,some 81,26,.move (.tmp 4)⟩,⟨false,none,some 2,26,.assign (.tmp 81)⟩,⟨false,none,some 3,22,.assign (.const (.int .i64 0))⟩]) (.ret))))))
theorem text13:textF Tryz.prog 13=some (82,[.tmp 2,.tmp 3],mc13):=by kernel_rfl
noncomputable def mc14_l0:MC:=.seq (.seq (.ops [⟨false,none,some 12,4,.move (.tmp 5)⟩,⟨false,none,some 13,4,.move (.tmp 12)⟩,⟨false,some (13,true),some 14,3,.move (.tmp 6)⟩,⟨false,some (13,true),some 15,26,.move (.tmp 0)⟩,⟨false,some (13,true),some 16,3,.call ⟨.builtin .len,#[.tmp 15],#[26]⟩⟩,⟨false,some (13,true),some 17,4,.binOp .lss 3 (.tmp 14) (.tmp 16) 3⟩,⟨false,none,some 18,4,.pick (.tmp 13) (.tmp 17) (.const (.bool false))⟩]) (.cond (.tmp 18) (.skip) (.exit 0))) (.seq (.block 1 (.ops [⟨true,none,some 21,26,.move (.tmp 0)⟩,⟨true,none,some 22,3,.move (.tmp 6)⟩,⟨true,none,some 23,0,.indexAddr 26 (.tmp 21) (.tmp 22)⟩,⟨true,none,some 24,9,.load 9 (.tmp 23)⟩,⟨true,none,some 25,26,.move (.tmp 1)⟩,⟨true,none,some 26,3,.move (.tmp 6)⟩,⟨true,none,some 27,0,.indexAddr 26 (.tmp 25) (.tmp 26)⟩,⟨true,none,some 28,9,.load 9 (.tmp 27)⟩,⟨true,none,some 29,4,.binOp .eql 9 (.tmp 24) (.tmp 28) 9⟩,⟨true,none,some 5,4,.assign (.tmp 29)⟩])) (.ops [⟨false,none,some 19,3,.move (.tmp 6)⟩,⟨false,none,some 20,3,.binOp .add 3 (.tmp 19) (.const (.int .i64 1)) 3⟩,⟨false,none,some 6,3,.assign (.tmp 20)⟩]))
noncomputable def mc14:MC:=.seq (.ops [⟨false,none,some 4,4,.assign (.const (.bool false))⟩]) (.seq (.ops [⟨false,none,some 7,26,.move (.tmp 0)⟩,⟨false,none,some 8,3,.call ⟨.builtin .len,#[.tmp 7],#[26]⟩⟩,⟨false,none,some 9,26,.move (.tmp 1)⟩,⟨false,none,some 10,3,.call ⟨.builtin .len,#[.tmp 9],#[26]⟩⟩,⟨false,none,some 11,4,.binOp .eql 3 (.tmp 8) (.tmp 10) 3⟩,⟨false,none,some 5,4,.assign (.tmp 11)⟩]) (.seq (.seq (.ops [⟨false,none,some 6,3,.assign (.const (.int .i64 0))⟩]) (.block 0 (.loop mc14_l0))) (.seq (.ops [⟨false,none,some 30,4,.move (.tmp 5)⟩,⟨false,none,some 4,4,.assign (.tmp 30)⟩]) (.ret))))
theorem text14:textF Tryz.prog 14=some (31,[.tmp 4],mc14):=by kernel_rfl
noncomputable def mc31_l0:MC:=.seq (.seq (.ops [⟨false,none,some 14,4,.move (.tmp 7)⟩,⟨false,none,some 15,4,.move (.tmp 14)⟩,⟨false,some (15,true),some 16,3,.move (.tmp 8)⟩,⟨false,some (15,true),some 17,9,.move (.tmp 0)⟩,⟨false,some (15,true),some 18,3,.call ⟨.builtin .len,#[.tmp 17],#[9]⟩⟩,⟨false,some (15,true),some 19,4,.binOp .lss 3 (.tmp 16) (.tmp 18) 3⟩,⟨false,none,some 20,4,.pick (.tmp 15) (.tmp 19) (.const (.bool false))⟩]) (.cond (.tmp 20) (.skip) (.exit 0))) (.seq (.block 1 (.ops [⟨false,none,some 23,9,.move (.tmp 0)⟩,⟨false,none,some 24,3,.move (.tmp 8)⟩,⟨false,none,some 25,5,.index 9 (.tmp 23) (.tmp 24)⟩,⟨false,none,some 26,3,.call ⟨.value (.func 34),#[.tmp 25],#[5]⟩⟩,⟨false,none,some 27,4,.binOp .geq 3 (.tmp 26) (.const (.int .i64 0)) 3⟩,⟨false,none,some 7,4,.assign (.tmp 27)⟩])) (.ops [⟨false,none,some 21,3,.move (.tmp 8)⟩,⟨false,none,some 22,3,.binOp .add 3 (.tmp 21) (.const (.int .i64 1)) 3⟩,⟨false,none,some 8,3,.assign (.tmp 22)⟩]))
noncomputable def mc31:MC:=.seq (.ops [⟨false,none,some 6,4,.assign (.const (.bool false))⟩]) (.seq (.ops [⟨false,none,some 9,9,.move (.tmp 0)⟩,⟨false,none,some 10,3,.call ⟨.builtin .len,#[.tmp 9],#[9]⟩⟩,⟨false,none,some 11,3,.move (.tmp 1)⟩,⟨false,none,some 12,3,.move (.tmp 2)⟩,⟨false,none,some 13,4,.call ⟨.value (.func 23),#[.tmp 10,.tmp 11,.tmp 12],#[3,3,3]⟩⟩,⟨false,none,some 7,4,.assign (.tmp 13)⟩]) (.seq (.seq (.ops [⟨false,none,some 8,3,.assign (.const (.int .i64 0))⟩]) (.block 0 (.loop mc31_l0))) (.seq (.ops [⟨false,none,some 28,4,.move (.tmp 7)⟩,⟨false,none,some 6,4,.assign (.tmp 28)⟩]) (.ret))))
theorem text31:textF Tryz.prog 31=some (29,[.tmp 6],mc31):=by kernel_rfl
noncomputable def mc32_l0:MC:=.seq (.seq (.ops [⟨false,none,some 6,3,.move (.tmp 5)⟩,⟨false,none,some 7,9,.move (.tmp 0)⟩,⟨false,none,some 8,3,.call ⟨.builtin .len,#[.tmp 7],#[9]⟩⟩,⟨false,none,some 9,4,.binOp .lss 3 (.tmp 6) (.tmp 8) 3⟩]) (.cond (.tmp 9) (.skip) (.exit 0))) (.seq (.block 1 (.seq (.ops [⟨false,none,some 12,3,.move (.tmp 4)⟩,⟨false,none,some 13,3,.binOp .mul 3 (.const (.int .i64 2)) (.tmp 12) 3⟩,⟨false,none,some 14,3,.binOp .rem 3 (.tmp 13) (.const (.int .i64 37)) 3⟩,⟨false,none,some 4,3,.assign (.tmp 14)⟩]) (.ops [⟨false,none,some 15,3,.move (.tmp 3)⟩,⟨false,none,some 16,9,.move (.tmp 0)⟩,⟨false,none,some 17,3,.move (.tmp 5)⟩,⟨false,none,some 18,5,.index 9 (.tmp 16) (.tmp 17)⟩,⟨false,none,some 19,3,.call ⟨.value (.func 34),#[.tmp 18],#[5]⟩⟩,⟨false,none,some 20,3,.move (.tmp 4)⟩,⟨false,none,some 21,3,.binOp .mul 3 (.tmp 19) (.tmp 20) 3⟩,⟨false,none,some 22,3,.binOp .add 3 (.tmp 15) (.tmp 21) 3⟩,⟨false,none,some 23,3,.binOp .rem 3 (.tmp 22) (.const (.int .i64 37)) 3⟩,⟨false,none,some 3,3,.assign (.tmp 23)⟩]))) (.ops [⟨false,none,some 10,3,.move (.tmp 5)⟩,⟨false,none,some 11,3,.binOp .add 3 (.tmp 10) (.const (.int .i64 1)) 3⟩,⟨false,none,some 5,3,.assign (.tmp 11)⟩]))
noncomputable def mc32:MC:=.seq (.ops [⟨false,none,some 2,3,.assign (.const (.int .i64 0))⟩]) (.seq (.ops [⟨false,none,some 3,3,.assign (.const (.int .i64 0))⟩,⟨false,none,some 4,3,.assign (.const (.int .i64 1))⟩]) (.seq (.seq (.ops [⟨false,none,some 5,3,.assign (.const (.int .i64 0))⟩]) (.block 0 (.loop mc32_l0))) (.seq (.ops [⟨false,none,some 24,3,.move (.tmp 3)⟩,⟨false,none,some 2,3,.assign (.tmp 24)⟩]) (.ret))))
theorem text32:textF Tryz.prog 32=some (25,[.tmp 2],mc32):=by kernel_rfl
noncomputable def mc34_l0 : MC := .seq (.seq (.ops [⟨false, none, some 4, 3, .move (.tmp 3)⟩, ⟨false, none, some 5, 4, .binOp .lss 3 (.tmp 4) (.const (.int .i64 37)) 3⟩]) (.cond (.tmp 5) (.skip) (.exit 0))) (.seq (.block 1 (.seq (.ops [⟨false, none, some 8, 3, .move (.tmp 3)⟩, ⟨false, none, some 9, 5, .index 9 (.const (.string ⟨⟨[97, 98, 99, 100, 101, 102, 103, 104, 105, 106, 107, 108, 109, 110, 111, 112, 113, 114, 115, 116, 117, 118, 119, 120,
 121, 122, 48, 49, 50, 51, 52, 53, 54, 55, 56, 57, 45]⟩⟩)) (.tmp 8)⟩, ⟨false, none, some 10, 5, .move (.tmp 0)⟩, ⟨false, none, some 11, 4, .binOp .eql 5 (.tmp 9) (.tmp 10) 5⟩]) (.cond (.tmp 11) (.seq (.ops [⟨false, none, some 12, 3, .move (.tmp 3)⟩, ⟨false, none, some 2, 3, .assign (.tmp 12)⟩]) (.ret)) (.skip)))) (.ops [⟨false, none, some 6, 3, .move (.tmp 3)⟩, ⟨false, none, some 7, 3, .binOp .add 3 (.tmp 6) (.const (.int .i64 1)) 3⟩, ⟨false, none, some 3, 3, .assign (.tmp 7)⟩]))
noncomputable def mc34:MC:=.seq (.ops [⟨false,none,some 2,3,.assign (.const (.int .i64 0))⟩]) (.seq (.seq (.ops [⟨false,none,some 3,3,.assign (.const (.int .i64 0))⟩]) (.block 0 (.loop mc34_l0))) (.seq (.ops [⟨false,none,some 2,3,.assign (.const (.int .i64 (-1)))⟩]) (.ret)))
theorem text34:textF Tryz.prog 34=some (13,[.tmp 2],mc34):=by kernel_rfl
noncomputable def mc37_l0:MC:=.seq (.seq (.ops [⟨false,none,some 16,3,.move (.tmp 5)⟩,⟨false,none,some 17,26,.move (.tmp 0)⟩,⟨false,none,some 18,3,.call ⟨.builtin .len,#[.tmp 17],#[26]⟩⟩,⟨false,none,some 19,4,.binOp .lss 3 (.tmp 16) (.tmp 18) 3⟩,⟨false,none,some 20,4,.move (.tmp 19)⟩,⟨false,some (20,true),some 21,26,.move (.tmp 0)⟩,⟨false,some (20,true),some 22,3,.move (.tmp 5)⟩,⟨false,some (20,true),some 23,0,.indexAddr 26 (.tmp 21) (.tmp 22)⟩,⟨false,some (20,true),some 24,9,.load 9 (.tmp 23)⟩,⟨false,some (20,true),some 25,9,.move (.tmp 1)⟩,⟨false,some (20,true),some 26,4,.binOp .lss 9 (.tmp 24) (.tmp 25) 9⟩,⟨false,none,some 27,4,.pick (.tmp 20) (.tmp 26) (.const (.bool false))⟩]) (.cond (.tmp 27) (.skip) (.exit 0))) (.block 1 (.ops [⟨false,none,some 28,3,.move (.tmp 5)⟩,⟨false,none,some 29,3,.binOp .add 3 (.tmp 28) (.const (.int .i64 1)) 3⟩,⟨false,none,some 5,3,.assign (.tmp 29)⟩]))
noncomputable def mc37:MC:=.seq (.ops [⟨false,none,some 4,26,.assign (.const (.slice none 0 0))⟩]) (.seq (.seq (.ops [⟨false,none,some 6,9,.move (.tmp 1)⟩,⟨false,none,some 7,4,.call ⟨.value (.func 11),#[.tmp 6],#[9]⟩⟩,⟨false,none,some 8,4,.unOp .not 4 (.tmp 7)⟩,⟨false,none,some 9,4,.move (.tmp 8)⟩,⟨false,some (9,false),some 10,26,.move (.tmp 0)⟩,⟨false,some (9,false),some 11,9,.move (.tmp 1)⟩,⟨false,some (9,false),some 12,3,.call ⟨.value (.func 22),#[.tmp 10,.tmp 11],#[26,9]⟩⟩,⟨false,some (9,false),some 13,4,.binOp .geq 3 (.tmp 12) (.const (.int .i64 0)) 3⟩,⟨false,none,some 14,4,.pick (.tmp 9) (.const (.bool true)) (.tmp 13)⟩]) (.cond (.tmp 14) (.seq (.ops [⟨false,none,some 15,26,.move (.tmp 0)⟩,⟨false,none,some 4,26,.assign (.tmp 15)⟩]) (.ret)) (.skip))) (.seq (.ops [⟨false,none,some 5,3,.assign (.const (.int .i64 0))⟩]) (.seq (.block 0 (.loop mc37_l0)) (.seq (.seq (.ops [⟨true,none,some 30,26,.buildSlice 26 0 #[]⟩]) (.seq (.ops [⟨true,none,some 31,26,.move (.tmp 0)⟩]) (.seq (.ops [⟨true,none,some 32,3,.move (.tmp 5)⟩]) (.seq (.ops [⟨true,none,some 33,26,.slice 26 (.tmp 31) none (some (.tmp 32)) none⟩]) (.seq (.ops [⟨true,none,some 35,9,.move (.tmp 1)⟩]) (.seq (.ops [⟨true,none,some 36,26,.buildSlice 26 1 #[(0,.tmp 35)]⟩]) (.seq (.ops [⟨true,none,some 38,26,.move (.tmp 0)⟩]) (.seq (.ops [⟨true,none,some 39,3,.move (.tmp 5)⟩]) (.seq (.ops [⟨true,none,some 40,26,.slice 26 (.tmp 38) (some (.tmp 39)) none none⟩]) (.seq (.chk [⟨true,none,some 33,26,.slice 26 (.tmp 31) none (some (.tmp 32)) none⟩]) (.seq (.ops [⟨false,none,some 34,26,.call ⟨.builtin .append,#[.tmp 30,.tmp 33],#[26,26]⟩⟩]) (.seq (.chk [⟨true,none,some 40,26,.slice 26 (.tmp 38) (some (.tmp 39)) none none⟩]) (.seq (.ops [⟨false,none,some 37,26,.call ⟨.builtin .append,#[.tmp 34,.tmp 36],#[26,26]⟩⟩]) (.seq (.chk [⟨true,none,some 40,26,.slice 26 (.tmp 38) (some (.tmp 39)) none none⟩]) (.seq (.ops [⟨false,none,some 41,26,.call ⟨.builtin .append,#[.tmp 37,.tmp 40],#[26,26]⟩⟩]) (.seq (.ops [⟨true,none,some 4,26,.assign (.tmp 41)⟩]) (.chk []))))))))))))))))) (.ret)))))
theorem text37:textF Tryz.prog 37=some (42,[.tmp 4],mc37):=by kernel_rfl
@[simp] theorem cf9 (w:AW) (l:List Value):callFn Tryz.prog w 9 l=.enter 9 l w:=callFn_enter text9 l
@[simp] theorem cf11 (w:AW) (l:List Value):callFn Tryz.prog w 11 l=.enter 11 l w:=callFn_enter text11 l
@[simp] theorem cf13 (w:AW) (l:List Value):callFn Tryz.prog w 13 l=.enter 13 l w:=callFn_enter text13 l
@[simp] theorem cf14 (w:AW) (l:List Value):callFn Tryz.prog w 14 l=.enter 14 l w:=callFn_enter text14 l
@[simp] theorem cf31 (w:AW) (l:List Value):callFn Tryz.prog w 31 l=.enter 31 l w:=callFn_enter text31 l
@[simp] theorem cf32 (w:AW) (l:List Value):callFn Tryz.prog w 32 l=.enter 32 l w:=callFn_enter text32 l
@[simp] theorem cf34 (w:AW) (l:List Value):callFn Tryz.prog w 34 l=.enter 34 l w:=callFn_enter text34 l
@[simp] theorem cf37 (w:AW) (l:List Value):callFn Tryz.prog w 37 l=.enter 37 l w:=callFn_enter text37 l
@[simp] theorem cf23 (w:AW) (l:List Value):callFn Tryz.prog w 23 l=.enter 23 l w:=callFn_of (by kernel_rfl) l
theorem ixL (w:AW) (k:IntKind) {i:Nat} {c:UInt8} (h:sgL[i]?=some c):indexA Tryz.prog w 9 (.string ⟨⟨sgL⟩⟩) (.int k (i:Int))=.val (.int .u8 (c.toNat:Int)) w:=ix9 w ⟨⟨sgL⟩⟩ k i c h
def vI (c:UInt8):Int:=if sgB c then (sgV c:Int) else -1
theorem run34 {ov:Ov} (ho:∀ args w,ov 34 args w=none) (m:Nat) (c:UInt8) (w:AW):(run Tryz.prog ov (m + 1)).call 34 [.int .u8 (c.toNat:Int)] w .none=.ok (.ret (.int .i64 (vI c))) w .none:=by
 have key:∃ v w',(run Tryz.prog ov (m + 1)).call 34 [.int .u8 (c.toNat:Int)] w .none=.ok (.ret v) w' .none∧v=.int .i64 (vI c)∧w'=w:=by
  refine call_wp text34 (by simp) (ho _ _) ?_
  simp [mc34]
  refine wp_seqX (wp_blockX (wp_rounds (fun i t w'=>w'=w∧tget t 0=.int .u8 (c.toNat:Int)∧tget t 3=.int .i64 (i:Nat)∧i≤37∧∀ j,j < i→sgL[j]? ≠ some c) 100 (by decide) ?_ ?_))
  ·simp
  ·rintro i t w' ⟨rfl,t0,t3,hi,hno⟩
   by_cases hlt:i < 37
   ·obtain ⟨d,hd⟩:∃ d,sgL[i]?=some d:=⟨_,List.getElem?_eq_getElem hlt⟩
    have hlt':(i:Int) < 37:=by omega
    have hix:=fun w=>ixL w .i64 hd
    simp only [sgL] at hix
    have hw1:IntKind.wrap .i64 ((i:Int) + 1)=(i:Int) + 1:=wrap64_in (by omega) (by omega)
    by_cases he:d=c
    ·subst he
     have hv:vI d=(i:Int):=by unfold vI; rw [sg_in hd,sg_at hd]; rfl
     simp [mc34_l0,t0,t3,hlt',hix,tupV,hv]
    ·have he':¬ ((d.toNat:Int)=(c.toNat:Int)):=fun h=>he (byte_eq.1 h)
     simp [mc34_l0,t0,t3,hlt',hix,he',hw1]
     refine ⟨by omega,by omega,fun j hj=>?_⟩
     by_cases e:j=i
     ·subst e
      rw [hd]
      intro e; exact he (Option.some.inj e)
     ·exact hno j (by omega)
   ·have hlt':¬ (i:Int) < 37:=by omega
    have hv:vI c = -1:=by
     unfold vI
     rw [sg_none (c:=c) (fun k hk=>hno k (by have:=(List.getElem?_eq_some_iff.1 hk).1; rw [sgL_len] at this; omega) hk)]; rfl
    simp [mc34_l0,t0,t3,hlt',tupV,hv]
 obtain ⟨v,w',h,rfl,rfl⟩:=key
 exact h
theorem run23 {ov:Ov} (ho:∀ args w,ov 23 args w=none) (m:Nat) (n a b:Int) (w:AW):(run Tryz.prog ov (m + 1)).call 23 [.int .i64 n,.int .i64 a,.int .i64 b] w .none=.ok (.ret (.bool (decide (a≤n) && decide (n≤b)))) w .none:=by
 have key:∃ v w',(run Tryz.prog ov (m + 1)).call 23 [.int .i64 n,.int .i64 a,.int .i64 b] w .none=.ok (.ret v) w' .none∧v=.bool (decide (a≤n) && decide (n≤b))∧w'=w:=by
  refine call_wp text23 (by simp) (ho _ _) ?_
  by_cases h1:a≤n <;> simp [mc23,h1,tupV]
 obtain ⟨v,w',h,rfl,rfl⟩:=key
 exact h
theorem vI_neg (c:UInt8):decide (vI c < 0)=!sgB c:=by
 unfold vI
 cases sgB c with
 | true=>simp
 | false=>simp
theorem run31 {ov:Ov} (ho:∀ args w,ov 31 args w=none) (h34:∀ args w,ov 34 args w=none) (h23:∀ args w,ov 23 args w=none) (m:Nat) (L:List UInt8) (lo hi:Nat) (hh:hi≤1000) (w:AW):(run Tryz.prog ov (m + 2)).call 31 [.string ⟨⟨L⟩⟩,.int .i64 (lo:Int),.int .i64 (hi:Int)] w .none=.ok (.ret (.bool (areB L lo hi))) w .none:=by
 have key:∃ v w',(run Tryz.prog ov (m + 2)).call 31 [.string ⟨⟨L⟩⟩,.int .i64 (lo:Int),.int .i64 (hi:Int)] w .none=.ok (.ret v) w' .none∧v=.bool (areB L lo hi)∧w'=w:=by
  refine call_wp text31 (by simp) (ho _ _) ?_
  have r23:=fun w=>run23 h23 m (L.length:Int) lo hi w
  simp [mc31,r23]
  refine wp_seqX (wp_blockX (wp_rounds (fun i t w'=>w'=w∧tget t 0=.string ⟨⟨L⟩⟩∧tget t 7=.bool ((decide (lo≤L.length) && decide (L.length≤hi)) && (L.take i).all sgB)∧tget t 8=.int .i64 (i:Nat)∧i≤L.length∧(0 < i→L.length≤hi)) 2000 (by decide) ?_ ?_))
  ·simp
  ·rintro i t w' ⟨rfl,t0,t7,t8,hi1,hi2⟩
   cases hb:((decide (lo≤L.length) && decide (L.length≤hi)) && (L.take i).all sgB) with
   | false =>
    rw [hb] at t7
    have hf:areB L lo hi=false:=by
     unfold areB
     rw [← Bool.not_eq_true] at hb ⊢
     intro h
     apply hb
     simp only [Bool.and_eq_true,List.all_eq_true] at h ⊢
     exact ⟨h.1,fun x hx=>h.2 x (List.mem_of_mem_take hx)⟩
    simp [mc31_l0,t0,t7,t8,tupV,hf]
   | true =>
    rw [hb] at t7
    simp only [Bool.and_eq_true,decide_eq_true_eq] at hb
    by_cases hlt:i < L.length
    ·obtain ⟨c,hc⟩:∃ c,L[i]?=some c:=⟨_,List.getElem?_eq_getElem hlt⟩
     have hlt':(i:Int) < (L.length:Int):=by omega
     have hix:=fun w=>ix9 w ⟨⟨L⟩⟩ .i64 i c hc
     have r34:=fun w=>run34 h34 m c w
     have hw1:IntKind.wrap .i64 ((i:Int) + 1)=(i:Int) + 1:=wrap64_in (by omega) (by omega)
     have hn:=vI_neg c
     have e:((decide (lo≤L.length) && decide (L.length≤hi)) && (L.take (i + 1)).all sgB)=sgB c:=by
      rw [List.take_add_one,hc,List.all_append,hb.2,decide_eq_true hb.1.1,decide_eq_true hb.1.2]; simp
     simp [mc31_l0,t0,t7,t8,hlt',hix,r34,hw1]
     refine ⟨by omega,?_,by omega,by omega⟩
     rw [List.take_add_one,hc,List.all_append,hb.2,decide_eq_true hb.1.1,decide_eq_true hb.1.2]
     simp
     unfold vI
     cases sgB c <;> simp
    ·have hlt':¬ (i:Int) < (L.length:Int):=by omega
     have hf:areB L lo hi=true:=by
      unfold areB
      rw [decide_eq_true hb.1.1,decide_eq_true hb.1.2,Bool.true_and,Bool.true_and]
      rw [List.take_of_length_le (by omega)] at hb
      exact hb.2
     simp [mc31_l0,t0,t7,t8,hlt',tupV,hf]
 obtain ⟨v,w',h,rfl,rfl⟩:=key
 exact h
def twI (i:Nat):Int:=2 ^ i % 37
theorem twI_bd (i:Nat):0≤twI i∧twI i < 37:=⟨Int.emod_nonneg _ (by decide),Int.emod_lt_of_pos _ (by decide)⟩
theorem twI_succ (i:Nat):(2 * twI i) % 37=twI (i + 1):=by
 unfold twI
 rw [Int.pow_succ]
 omega
theorem run32 {ov:Ov} (ho:∀ args w,ov 32 args w=none) (h34:∀ args w,ov 34 args w=none) (m:Nat) (L:List UInt8) (hll:L.length≤1000) (hL:∀ (j:Nat) (c:UInt8),L[j]?=some c→sgB c=true) (w:AW):(run Tryz.prog ov (m + 2)).call 32 [.string ⟨⟨L⟩⟩] w .none=.ok (.ret (.int .i64 (chkN L:Int))) w .none:=by
 have key:∃ v w',(run Tryz.prog ov (m + 2)).call 32 [.string ⟨⟨L⟩⟩] w .none=.ok (.ret v) w' .none∧v=.int .i64 (chkN L:Int)∧w'=w:=by
  refine call_wp text32 (by simp) (ho _ _) ?_
  simp [mc32]
  refine wp_seqX (wp_blockX (wp_rounds (fun i t w'=>w'=w∧tget t 0=.string ⟨⟨L⟩⟩∧tget t 3=.int .i64 (sumW (vfI L) pwI i % 37)∧tget t 4=.int .i64 (twI i)∧tget t 5=.int .i64 (i:Nat)∧i≤L.length) 2000 (by decide) ?_ ?_))
  ·simp [sumW,twI]
  ·rintro i t w' ⟨rfl,t0,t3,t4,t5,hi⟩
   by_cases hlt:i < L.length
   ·obtain ⟨c,hc⟩:∃ c,L[i]?=some c:=⟨_,List.getElem?_eq_getElem hlt⟩
    have hlt':(i:Int) < (L.length:Int):=by omega
    have hix:=fun w=>ix9 w ⟨⟨L⟩⟩ .i64 i c hc
    have r34:=fun w=>run34 h34 m c w
    have hs:=hL i c hc
    have hv:vI c=vfI L i:=by rw [vf_at hc]; unfold vI; rw [hs]; rfl
    have hvb:0≤vfI L i∧vfI L i≤36:=by
     rw [vf_at hc]
     have:=of_decide_eq_true hs
     omega
    rw [hv] at r34
    obtain ⟨x,hx⟩:∃ x,x=vfI L i:=⟨_,rfl⟩
    obtain ⟨y,hy⟩:∃ y,y=twI (i + 1):=⟨_,rfl⟩
    obtain ⟨z,hz⟩:∃ z,z=sumW (vfI L) pwI i % 37:=⟨_,rfl⟩
    have hzb:0≤z∧z < 37:=by rw [hz]; exact ⟨Int.emod_nonneg _ (by decide),Int.emod_lt_of_pos _ (by decide)⟩
    obtain ⟨b0,b1⟩:=twI_bd i
    have htw:=twI_succ i
    obtain ⟨q,hq⟩:∃ q,q=twI i:=⟨_,rfl⟩
    rw [← hq] at b0 b1 htw t4
    have hyb:=twI_bd (i + 1)
    rw [← hy] at hyb htw
    rw [← hx] at r34 hvb
    rw [← hz] at t3
    have hxy:0≤x * y∧x * y≤36 * 36:=⟨Int.mul_nonneg hvb.1 hyb.1,Int.mul_le_mul hvb.2 (by omega) hyb.1 (by decide)⟩
    have hnext:(z + x * y) % 37=sumW (vfI L) pwI (i + 1) % 37:=by
     rw [← sumW_mod,hz,hx,hy]; rfl
    have hr:=fun (a:Int) (c:Bool) w=>bin_rem (P:=Tryz.prog) (w:=w) 3 c .i64 a 37 (by omega)
    have w1:IntKind.wrap .i64 (2 * q)=2 * q:=wrap64_in (by omega) (by omega)
    have w2:IntKind.wrap .i64 (x * y)=x * y:=wrap64_in (by omega) (by omega)
    have w3:IntKind.wrap .i64 (z + x * y)=z + x * y:=wrap64_in (by omega) (by omega)
    have w4:IntKind.wrap .i64 ((i:Int) + 1)=(i:Int) + 1:=wrap64_in (by omega) (by omega)
    have e1:(2 * q).tmod 37=y:=by rw [Int.tmod_eq_emod_of_nonneg (by omega)]; exact htw
    have e2:(z + x * y).tmod 37=sumW (vfI L) pwI (i + 1) % 37:=by rw [Int.tmod_eq_emod_of_nonneg (by omega)]; exact hnext
    simp [mc32_l0,t0,t3,t4,t5,hlt',hix,r34,hr,w1,w2,w3,w4,e1,e2]
    exact ⟨by omega,hy,by omega⟩
   ·have hlt':¬ (i:Int) < (L.length:Int):=by omega
    have e:i=L.length:=by omega
    subst e
    have hv:sumW (vfI L) pwI L.length % 37=(chkN L:Int):=by
     unfold chkN
     exact (Int.toNat_of_nonneg (Int.emod_nonneg _ (by decide))).symm
    rw [hv] at t3
    simp [mc32_l0,t0,t3,t4,t5,tupV]
 obtain ⟨v,w',h,rfl,rfl⟩:=key
 exact h
theorem run9 {ov:Ov} (ho:∀ args w,ov 9 args w=none) (h31:∀ args w,ov 31 args w=none) (h32:∀ args w,ov 32 args w=none) (h34:∀ args w,ov 34 args w=none) (h23:∀ args w,ov 23 args w=none) (m:Nat) (s:List UInt8) (w:AW) :
  (run Tryz.prog ov (m + 3)).call 9 [.string ⟨⟨s⟩⟩] w .none=.ok (.ret (.tuple ⟨[.string ⟨⟨sigS s⟩⟩,.int .i64 (sigE s)]⟩)) w .none:=by
 have key:∃ v w',(run Tryz.prog ov (m + 3)).call 9 [.string ⟨⟨s⟩⟩] w .none=.ok (.ret v) w' .none∧v=.tuple ⟨[.string ⟨⟨sigS s⟩⟩,.int .i64 (sigE s)]⟩∧w'=w:=by
  refine call_wp text9 (by simp) (ho _ _) ?_
  have r:(run Tryz.prog ov (m + 2)).call 31 [.string ⟨⟨s⟩⟩,.int .i64 1,.int .i64 16] w .none=.ok (.ret (.bool (areB s 1 16))) w .none:=run31 h31 h34 h23 m s 1 16 (by decide) w
  cases ha:areB s 1 16 with
  | false =>
   rw [ha] at r
   simp [mc9,r,tupV,sigS,sigE,ha]
  | true =>
   rw [ha] at r
   obtain ⟨l1,l2,h3⟩:=are_all ha
   have r32:=run32 h32 h34 m s (by omega) h3 w
   have hc:=fun w=>sl_sg w (chk_lt s)
   have e:sgL.getD (chkN s) 0=chkS s:=rfl
   rw [e] at hc
   simp only [sgL] at hc
   have hb:=chk_lt s
   have w1:IntKind.wrap .i64 ((chkN s:Int) + 1)=(chkN s:Int) + 1:=wrap64_in (by omega) (by omega)
   simp [mc9,r,r32,w1,hc,tupV,sigS,sigE,ha]
 obtain ⟨v,w',h,rfl,rfl⟩:=key
 exact h
theorem run11 {ov:Ov} (ho:∀ args w,ov 11 args w=none) (h31:∀ args w,ov 31 args w=none) (h32:∀ args w,ov 32 args w=none) (h34:∀ args w,ov 34 args w=none) (h23:∀ args w,ov 23 args w=none) (m:Nat) (s:List UInt8) (w:AW) :
  (run Tryz.prog ov (m + 3)).call 11 [.string ⟨⟨s⟩⟩] w .none=.ok (.ret (.bool (codeB s))) w .none:=by
 have key:∃ v w',(run Tryz.prog ov (m + 3)).call 11 [.string ⟨⟨s⟩⟩] w .none=.ok (.ret v) w' .none∧v=.bool (codeB s)∧w'=w:=by
  refine call_wp text11 (by simp) (ho _ _) ?_
  have r:(run Tryz.prog ov (m + 2)).call 31 [.string ⟨⟨s⟩⟩,.int .i64 2,.int .i64 17] w .none=.ok (.ret (.bool (areB s 2 17))) w .none:=run31 h31 h34 h23 m s 2 17 (by decide) w
  cases ha:areB s 2 17 with
  | false =>
   rw [ha] at r
   have hc:codeB s=false:=by unfold codeB; rw [ha]; rfl
   simp [mc11,r,tupV,hc]
  | true =>
   rw [ha] at r
   obtain ⟨l1,l2,h3⟩:=are_all ha
   obtain ⟨n,hn⟩:∃ n,s.length=n + 1:=⟨s.length - 1,by omega⟩
   have hnl:n < s.length:=by omega
   obtain ⟨c,hc⟩:∃ c,s[n]?=some c:=⟨_,List.getElem?_eq_getElem hnl⟩
   have hs:=sl9 (w:=w) s (k:=n) (by omega)
   have hix:=ix9 w ⟨⟨s⟩⟩ .i64 n c hc
   have hd:s.take n=s.dropLast:=by rw [List.dropLast_eq_take,hn]; rfl
   have r32:=run32 h32 h34 m (s.take n) (by rw [List.length_take]; omega) (fun j d hj=>by
    rw [List.getElem?_take] at hj
    split at hj
    ·exact h3 j d hj
    ·cases hj) w
   have r34:=run34 h34 (m + 1) c w
   have hv:vI c=(sgV c:Int):=by unfold vI; rw [h3 n c hc]; rfl
   rw [hv] at r34
   have w1:IntKind.wrap .i64 ((s.length:Int) - 1)=(n:Int):=by
    rw [hn]; exact (wrap64_in (by omega) (by omega)).trans (by omega)
   have hcode:codeB s=decide ((chkN (s.take n):Int)=(sgV c:Int)):=by
    unfold codeB
    rw [ha,Bool.true_and,List.getLast?_eq_getElem?,hn,Nat.add_sub_cancel,hc,hd,decide_eq_decide,Option.some.injEq]
    have h1:=chk_at s.dropLast
    have h2:=sg_of (h3 n c hc)
    constructor
    ·intro e
     rw [← e] at h1
     have:=sg_at h1
     omega
    ·intro e
     rw [show chkN s.dropLast=sgV c by omega,h2] at h1
     exact Option.some.inj h1
   simp [mc11,r,w1,hs,hix,r32,r34,tupV,hcode]
 obtain ⟨v,w',h,rfl,rfl⟩:=key
 exact h
def Tow (n0:Nat) (w:AW) (v:Value) (acc:List (List UInt8)):Prop:=(acc=[]∧∃ B,v=.slice (some ⟨B,0,some 2⟩) 0 0)∨∃ B,v=.slice (some ⟨B,0,none⟩) acc.length acc.length∧w.heap.get B=some (.cells (acc.flatMap stC) 9 false)∧n0≤B∧B < w.next∧acc ≠ []
theorem app_tow {n0:Nat} {w:AW} {v:Value} {acc:List (List UInt8)} (h:Tow n0 w v acc) (hl:w.lim≤n0) (hn:n0≤w.next) (hlen:acc.length≤40000) {x:Value} {ys:List (List UInt8)} (h4:lenA x=some ys.length) (h5:srcCells w 1 x=some (ys.flatMap stC)) (hy:ys.length≤40000) :
  ∃ v' w',append1 Tryz.prog w [26,26] [v,x]=.val v' w'∧Tow n0 w' v' (acc++ys)∧(∀ b,b < n0→w'.heap.get b=w.heap.get b)∧w.next≤w'.next∧w'.lim=w.lim:=by
 have hfl:(ys.flatMap stC).length=ys.length * 1:=flat_length stC_length ys
 by_cases hy0:ys=[]
 ·subst hy0
  have key:∀ b n c,append1 Tryz.prog w [26,26] [.slice b n c,x]=(bif (Nat.ble (n + 0) 1000000 && Nat.beq (lenL (([]:List (List UInt8)).flatMap stC) 0) (0 * 1)) then appendB w 9 b n c 0 1 (([]:List (List UInt8)).flatMap stC) else .fail):=fun b n c=>by
   rw [append_eq list26 elem26 size9 small9,h4,h5]; rfl
  have e1:Nat.ble (acc.length + 0) 1000000=true:=Nat.ble_eq_true_of_le (by omega)
  rw [List.append_nil]
  rcases h with ⟨rfl,B,rfl⟩ | ⟨B,rfl,hB,b1,b2,b3⟩
  ·exact ⟨_,w,by rw [key]; rfl,.inl ⟨rfl,B,rfl⟩,fun _ _=>rfl,Nat.le_refl _,rfl⟩
  ·exact ⟨_,w,by rw [key,e1]; rfl,.inr ⟨B,rfl,hB,b1,b2,b3⟩,fun _ _=>rfl,Nat.le_refl _,rfl⟩
 ·have hm:0 < ys.length:=List.length_pos_iff.2 hy0
  rcases h with ⟨rfl,B,rfl⟩ | ⟨B,rfl,hB,b1,b2,b3⟩
  ·have e1:Nat.ble (0 + ys.length) 1000000=true:=Nat.ble_eq_true_of_le (by omega)
   have e2:Nat.beq (lenL (ys.flatMap stC) 0) (ys.length * 1)=true:=by rw [lenL0,hfl]; exact Nat.beq_refl _
   have e3:Nat.beq ys.length 0=false:=by rw [← Bool.not_eq_true]; intro h; have:=Nat.eq_of_beq_eq_true h; omega
   have e4:Nat.ble (0 + ys.length) 0=false:=by rw [← Bool.not_eq_true]; intro h; have:=Nat.le_of_ble_eq_true h; omega
   refine ⟨.slice (some ⟨w.next,0,none⟩) ys.length ys.length,⟨w.heap.put w.next (some (.cells (ys.flatMap stC) 9 false)),w.next + 1,w.lim⟩,?_,.inr ⟨w.next,by simp,by simp,hn,Nat.lt_succ_self _,by simpa using hy0⟩,fun b hb=>?_,Nat.le_succ _,rfl⟩
   ·rw [append_eq list26 elem26 size9 small9,h4,h5]
    simp only [e1,e2,Bool.and_self,cond_true,appendB,e3,cond_false,e4,isExact,Nat.beq_refl]
    have hs:srcCells w 1 (.slice (some ⟨B,0,some 2⟩) 0 0)=some []:=rfl
    rw [hs]
    simp [appendCopy,newR,AW.add,rowV,appL_eq,lenL0]
   ·show (w.heap.put w.next _).get b=_
    rw [get_put,if_neg (by omega)]
  ·refine ⟨_,_,append_full list26 elem26 size9 small9 (n:=acc.length) (m:=ys.length) (c:=acc.flatMap stC) h4 h5 hfl (flat_singles stC_single ys) hm (by omega) hB (flat_length stC_length acc) (by omega),.inr ⟨w.next,by simp,?_,hn,Nat.lt_succ_self _,by simp [b3]⟩,fun b hb=>?_,Nat.le_succ _,rfl⟩
   ·show ((w.heap.put B none).put w.next _).get w.next=_
    rw [get_put,if_pos rfl,List.flatMap_append]
   ·show ((w.heap.put B none).put w.next _).get b=_
    rw [get_put,if_neg (by omega),get_put,if_neg (by omega)]
theorem slice_headI {w:AW} {B n c k:Nat} {cs:List Value} {ro:Bool} (hg:w.heap.get B=some (.cells cs 9 ro)) (hk:k≤n) (hn:n≤c) :
  sliceA Tryz.prog w 26 (.slice (some ⟨B,0,none⟩) n c) none (some (.int .i64 (k:Int))) none=.val (.slice (some ⟨B,0,none⟩) k c) w:=by
 show sliceA Tryz.prog w 26 (.slice (some ⟨B,0,none⟩) n c) none (some (.int .i64 (Int.ofNat k))) none=_
 have hb:Nat.ble k n=true:=Nat.ble_eq_true_of_le hk
 have hb':Nat.ble k c=true:=Nat.ble_eq_true_of_le (Nat.le_trans hk hn)
 have e:Nat.beq 9 9=true:=rfl
 simp [sliceA,sliceB1,elem26,size9,sliceRow,boundA,hb,hb',cutR,cutAddr,rowElem,hg]
theorem slice_nilI (w:AW) (lo hi:Option Value) (h1:boundA hi 0 0=some 0) (h2:boundA lo 0 0=some 0):sliceA Tryz.prog w 26 (.slice none 0 0) lo hi none=.val (.slice none 0 0) w:=by
 have e:sliceB1 hi none=true:=by cases hi <;> rfl
 have e0:boundA none 0 0=some 0:=rfl
 simp [sliceA,e,elem26,size9,sliceRow,e0,h1,h2]
def Into (l:List (List UInt8)) (x:List UInt8) (l':List (List UInt8)):Prop:=(¬ (codeB x=true∧x ∉ l)∧l'=l)∨(codeB x=true∧x ∉ l∧∃ k,k≤l.length∧(∀ j y,j < k→l[j]?=some y→cmpB y x < 0)∧(∀ y,l[k]?=some y→¬ cmpB y x < 0)∧l'=l.take k++[x]++l.drop k)
theorem run22g {ov:Ov} (ho:∀ args w,ov 22 args w=none) (m:Nat) (v:Value) (l:List (List UInt8)) (x:List UInt8) (hll:l.length≤1000) (w:AW) (hr:RowsV stC w v l):∃ z:Int,(run Tryz.prog ov (m + 1)).call 22 [v,.string ⟨⟨x⟩⟩] w .none=.ok (.ret (.int .i64 z)) w .none∧(0≤z ↔ x ∈ l):=by
 by_cases hm:x ∈ l
 ·obtain ⟨z,h⟩:=run22 ho m v l x hll hm w hr
  exact ⟨z,h,by simp [hm]⟩
 have key:∃ r w',(run Tryz.prog ov (m + 1)).call 22 [v,.string ⟨⟨x⟩⟩] w .none=.ok (.ret r) w' .none∧r=.int .i64 (-1)∧w'=w:=by
  refine call_wp text22 (by simp) (ho _ _) ?_
  simp [mc22]
  refine wp_seqX (wp_blockX (wp_rounds (fun k t w'=>w'=w∧tget t 0=v∧tget t 1=.string ⟨⟨x⟩⟩∧tget t 5=.int .i64 (k:Nat)∧k≤l.length) 2000 (by decide) ?_ ?_))
  ·simp
  ·rintro k t w' ⟨rfl,t0,t1,t5,hk⟩
   have hln:=len26V (w':=w') hr
   by_cases hlt:k < l.length
   ·obtain ⟨y,hy⟩:∃ y,l[k]?=some y:=⟨_,List.getElem?_eq_getElem hlt⟩
    obtain ⟨b,off,sq,cp,e3,hra⟩:=hr.at_ k hlt
    have hia:=fun w=>ia26 w ⟨b,off,sq⟩ l.length cp .i64 k hlt
    have hrd:=row_str hra hy
    have hlt':(k:Int) < (l.length:Int):=by omega
    have hw1:IntKind.wrap .i64 ((k:Int) + 1)=(k:Int) + 1:=wrap64_in (by omega) (by omega)
    have he:¬ y=x:=fun e=>hm (e ▸ List.mem_of_getElem? hy)
    subst e3
    simp [mc22_l0,t0,t1,t5,hln,hlt',hia,hrd,he,hw1]
    omega
   ·have hlt':¬ (k:Int) < (l.length:Int):=by omega
    simp [mc22_l0,t0,t1,t5,hln,hlt',tupV]
 obtain ⟨v,w',h,rfl,rfl⟩:=key
 exact ⟨-1,h,by simp [hm]⟩
structure Hos (ov:Ov):Prop where
 o9:∀ args w,ov 9 args w=none
 o11:∀ args w,ov 11 args w=none
 o13:∀ args w,ov 13 args w=none
 o14:∀ args w,ov 14 args w=none
 o22:∀ args w,ov 22 args w=none
 o23:∀ args w,ov 23 args w=none
 o31:∀ args w,ov 31 args w=none
 o32:∀ args w,ov 32 args w=none
 o34:∀ args w,ov 34 args w=none
 o37:∀ args w,ov 37 args w=none
theorem Tow.form {n0:Nat} {w:AW} {v:Value} {acc:List (List UInt8)} (h:Tow n0 w v acc):∃ a n c,v=.slice a n c:=by
 rcases h with ⟨_,B,rfl⟩ | ⟨B,rfl,_⟩
 ·exact ⟨_,_,_,rfl⟩
 ·exact ⟨_,_,_,rfl⟩
theorem cut26 {n1:Nat} {w:AW} {v:Value} {l:List (List UInt8)} (h:AccR stC 9 n1 w v l) {k:Nat} (hk:k≤l.length) :
  ∃ a3 c3 a4 c4,lenA (.slice a3 k c3)=some k∧lenA (.slice a4 (l.length - k) c4)=some (l.length - k)∧∀ w':AW,(∀ b,b < w.next→w'.heap.get b=w.heap.get b)→sliceA Tryz.prog w' 26 v none (some (.int .i64 (k:Int))) none=.val (.slice a3 k c3) w'∧sliceA Tryz.prog w' 26 v (some (.int .i64 (k:Int))) none none=.val (.slice a4 (l.length - k) c4) w'∧srcCells w' 1 (.slice a3 k c3)=some ((l.take k).flatMap stC)∧srcCells w' 1 (.slice a4 (l.length - k) c4)=some ((l.drop k).flatMap stC):=by
 rcases h with ⟨rfl,rfl⟩ | ⟨B,rfl,hB,k1,k2,_⟩
 ·have hk0:k=0:=by simpa using hk
  subst hk0
  refine ⟨none,0,none,0,rfl,rfl,fun w' _=>⟨slice_nilI w' _ _ rfl rfl,slice_nilI w' _ _ rfl rfl,rfl,rfl⟩⟩
 ·refine ⟨some ⟨B,0,none⟩,l.length,some ⟨B,0 + k * 1,none⟩,l.length - k,rfl,rfl,fun w' hw=>?_⟩
  have hB':w'.heap.get B=some (.cells (l.flatMap stC) 9 false):=by rw [hw B k2]; exact hB
  have hln:(l.flatMap stC).length=l.length:=by rw [flat_length stC_length]; omega
  have tk:∀ (l:List (List UInt8)) (k:Nat),(l.flatMap stC).take k=(l.take k).flatMap stC:=fun l=>by
   induction l with
   | nil=>intro k; simp
   | cons a l ih=>intro k; cases k with
    | zero=>simp
    | succ k=>simp [stC,ih]
  have dk:∀ (l:List (List UInt8)) (k:Nat),(l.flatMap stC).drop k=(l.drop k).flatMap stC:=fun l=>by
   induction l with
   | nil=>intro k; simp
   | cons a l ih=>intro k; cases k with
    | zero=>simp
    | succ k=>simp [stC,ih]
  refine ⟨slice_headI hB' hk (Nat.le_refl _),slice_tail elem26 size9 (a:=⟨B,0,none⟩) hB' hk,?_,?_⟩
  ·show (bif Nat.beq (k * 1) 0 then some [] else rd w' B 0 (k * 1))=_
   by_cases h0:k=0
   ·subst h0; simp
   ·have:Nat.beq (k * 1) 0=false:=by rw [← Bool.not_eq_true]; intro h; have:=Nat.eq_of_beq_eq_true h; omega
    rw [this,cond_false,rd_eq,hB',rdO_cells,if_pos (by omega),List.drop_zero,Nat.mul_one,tk]
  ·show (bif Nat.beq ((l.length - k) * 1) 0 then some [] else rd w' B (0 + k * 1) ((l.length - k) * 1))=_
   by_cases h0:l.length - k=0
   ·have e:l.drop k=[]:=List.drop_eq_nil_of_le (by omega)
    rw [h0,e]; rfl
   ·have:Nat.beq ((l.length - k) * 1) 0=false:=by rw [← Bool.not_eq_true]; intro h; have:=Nat.eq_of_beq_eq_true h; omega
    rw [this,cond_false,rd_eq,hB',rdO_cells,if_pos (by omega),Nat.zero_add,Nat.mul_one,Nat.mul_one,dk,List.take_of_length_le (by rw [flat_length stC_length,List.length_drop]; omega)]
noncomputable def mc37_r:MC:=.seq (.seq (.ops [⟨true,none,some 30,26,.buildSlice 26 0 #[]⟩]) (.seq (.ops [⟨true,none,some 31,26,.move (.tmp 0)⟩]) (.seq (.ops [⟨true,none,some 32,3,.move (.tmp 5)⟩]) (.seq (.ops [⟨true,none,some 33,26,.slice 26 (.tmp 31) none (some (.tmp 32)) none⟩]) (.seq (.ops [⟨true,none,some 35,9,.move (.tmp 1)⟩]) (.seq (.ops [⟨true,none,some 36,26,.buildSlice 26 1 #[(0,.tmp 35)]⟩]) (.seq (.ops [⟨true,none,some 38,26,.move (.tmp 0)⟩]) (.seq (.ops [⟨true,none,some 39,3,.move (.tmp 5)⟩]) (.seq (.ops [⟨true,none,some 40,26,.slice 26 (.tmp 38) (some (.tmp 39)) none none⟩]) (.seq (.chk [⟨true,none,some 33,26,.slice 26 (.tmp 31) none (some (.tmp 32)) none⟩]) (.seq (.ops [⟨false,none,some 34,26,.call ⟨.builtin .append,#[.tmp 30,.tmp 33],#[26,26]⟩⟩]) (.seq (.chk [⟨true,none,some 40,26,.slice 26 (.tmp 38) (some (.tmp 39)) none none⟩]) (.seq (.ops [⟨false,none,some 37,26,.call ⟨.builtin .append,#[.tmp 34,.tmp 36],#[26,26]⟩⟩]) (.seq (.chk [⟨true,none,some 40,26,.slice 26 (.tmp 38) (some (.tmp 39)) none none⟩]) (.seq (.ops [⟨false,none,some 41,26,.call ⟨.builtin .append,#[.tmp 37,.tmp 40],#[26,26]⟩⟩]) (.seq (.ops [⟨true,none,some 4,26,.assign (.tmp 41)⟩]) (.chk []))))))))))))))))) (.ret)
theorem mc37_eq:mc37=.seq (.ops [⟨false,none,some 4,26,.assign (.const (.slice none 0 0))⟩]) (.seq (.seq (.ops [⟨false,none,some 6,9,.move (.tmp 1)⟩,⟨false,none,some 7,4,.call ⟨.value (.func 11),#[.tmp 6],#[9]⟩⟩,⟨false,none,some 8,4,.unOp .not 4 (.tmp 7)⟩,⟨false,none,some 9,4,.move (.tmp 8)⟩,⟨false,some (9,false),some 10,26,.move (.tmp 0)⟩,⟨false,some (9,false),some 11,9,.move (.tmp 1)⟩,⟨false,some (9,false),some 12,3,.call ⟨.value (.func 22),#[.tmp 10,.tmp 11],#[26,9]⟩⟩,⟨false,some (9,false),some 13,4,.binOp .geq 3 (.tmp 12) (.const (.int .i64 0)) 3⟩,⟨false,none,some 14,4,.pick (.tmp 9) (.const (.bool true)) (.tmp 13)⟩]) (.cond (.tmp 14) (.seq (.ops [⟨false,none,some 15,26,.move (.tmp 0)⟩,⟨false,none,some 4,26,.assign (.tmp 15)⟩]) (.ret)) (.skip))) (.seq (.ops [⟨false,none,some 5,3,.assign (.const (.int .i64 0))⟩]) (.seq (.block 0 (.loop mc37_l0)) mc37_r))):=rfl
theorem tail37 {ov:Ov} (m:Nat) (v:Value) (l:List (List UInt8)) (x:List UInt8) (hll:l.length≤900) (n1:Nat) (w:AW) (hl:w.lim≤w.next) (hn1:n1≤w.next) (hr:AccR stC 9 n1 w v l) (k:Nat) (hk:k≤l.length) (Q:Ex→Tm→AW→Prop) (t:Tm) (t0:tget t 0=v) (t1:tget t 1=.string ⟨⟨x⟩⟩) (t5:tget t 5=.int .i64 (k:Nat))
  (hQ:∀ t w',AccR stC 9 n1 w' (tget t 4) (l.take k++[x]++l.drop k)→Up w w'→Q .ret t w'):wp (exM Tryz.prog (run Tryz.prog ov m) mc37_r t w) Q:=by
 obtain ⟨a3,c3,a4,c4,ln3,ln4,hcut⟩:=cut26 hr hk
 obtain ⟨wA,hwA⟩:∃ wA:AW,wA=⟨w.heap.put w.next (some (.cells [] 9 false)),w.next + 1,w.lim⟩:=⟨_,rfl⟩
 obtain ⟨wB,hwB⟩:∃ wB:AW,wB=⟨wA.heap.put wA.next (some (.cells [.string ⟨⟨x⟩⟩] 9 false)),wA.next + 1,wA.lim⟩:=⟨_,rfl⟩
 have nA:wA.next=w.next + 1:=by rw [hwA]
 have nB:wB.next=w.next + 2:=by rw [hwB,nA]
 have lB:wB.lim=w.lim:=by rw [hwB,hwA]
 have gA:∀ b,b < w.next→wA.heap.get b=w.heap.get b:=fun b hb=>by rw [hwA]; show (w.heap.put _ _).get b=_; rw [get_put,if_neg (by omega)]
 have gB:∀ b,b < w.next→wB.heap.get b=w.heap.get b:=fun b hb=>by rw [hwB]; show (wA.heap.put _ _).get b=_; rw [get_put,if_neg (by omega)]; exact gA b hb
 have gx:wB.heap.get (w.next + 1)=some (.cells [.string ⟨⟨x⟩⟩] 9 false):=by rw [hwB]; show (wA.heap.put _ _).get _=_; rw [nA,get_put,if_pos rfl]
 have b0:buildSliceA Tryz.prog w 26 0 []=.val (.slice (some ⟨w.next,0,some 2⟩) 0 0) wA:=by rw [hwA]; exact bd26_n0 w
 have b1:buildSliceA Tryz.prog wA 26 1 [(0,.string ⟨⟨x⟩⟩)]=.val (.slice (some ⟨w.next + 1,0,some 2⟩) 1 1) wB:=by rw [hwB,bd26_0_n1,nA]
 obtain ⟨s3A,_,_,_⟩:=hcut wA gA
 obtain ⟨s3B,s4B,q3,_⟩:=hcut wB gB
 obtain ⟨v34,w1,a1,T1,g1,n1',l1⟩:=app_tow (n0:=w.next + 2) (w:=wB) (v:=.slice (some ⟨w.next,0,some 2⟩) 0 0) (acc:=[]) (.inl ⟨rfl,_,rfl⟩) (by omega) (by omega) (by simp) (x:=.slice a3 k c3) (ys:=l.take k) (by rw [ln3,List.length_take]; congr 1; omega) q3 (by rw [List.length_take]; omega)
 have g1':∀ b,b < w.next→w1.heap.get b=w.heap.get b:=fun b hb=>(g1 b (by omega)).trans (gB b hb)
 obtain ⟨_,s41,_,_⟩:=hcut w1 g1'
 have gx1:w1.heap.get (w.next + 1)=some (.cells [.string ⟨⟨x⟩⟩] 9 false):=(g1 _ (by omega)).trans gx
 obtain ⟨v37,w2,a2,T2,g2,n2',l2⟩:=app_tow (n0:=w.next + 2) (w:=w1) T1 (by omega) (by omega) (by rw [List.nil_append,List.length_take]; omega) (x:=.slice (some ⟨w.next + 1,0,some 2⟩) 1 1) (ys:=[x]) rfl (by
  show (bif Nat.beq (1 * 1) 0 then some [] else rd w1 (w.next + 1) 0 (1 * 1))=_
  rw [show Nat.beq (1 * 1) 0=false from rfl,cond_false,rd_eq,gx1,rdO_cells]; rfl) (by simp)
 have g2':∀ b,b < w.next→w2.heap.get b=w.heap.get b:=fun b hb=>(g2 b (by omega)).trans (g1' b hb)
 obtain ⟨_,s42,_,q4⟩:=hcut w2 g2'
 obtain ⟨v41,w3,a3',T3,g3,n3',l3⟩:=app_tow (n0:=w.next + 2) (w:=w2) T2 (by omega) (by omega) (by simp [List.length_take]; omega) (x:=.slice a4 (l.length - k) c4) (ys:=l.drop k) (by rw [ln4,List.length_drop]) q4 (by rw [List.length_drop]; omega)
 obtain ⟨x34,y34,z34,e34⟩:=T1.form
 obtain ⟨x37,y37,z37,e37⟩:=T2.form
 obtain ⟨x41,y41,z41,e41⟩:=T3.form
 subst e34 e37 e41
 have hok:=hr.ok
 simp [mc37_r,t0,t1,t5,hok,b0,b1,s3A,s3B,s4B,s41,s42,a1,a2,a3']
 refine hQ _ _ ?_ ⟨fun b hb=>(g3 b (by omega)).trans (g2' b hb),by omega,by omega⟩
 simp
 rcases T3 with ⟨e,_⟩ | ⟨B,e,hB,k1,k2,k3⟩
 ·simp at e
 ·rw [e]
  refine .inr ⟨B,by simp,by simpa using hB,by omega,k2,by simp⟩
theorem call37 {ov:Ov} (m:Nat) (h:Hos ov) (v:Value) (l:List (List UInt8)) (x:List UInt8) (hll:l.length≤900) (n1:Nat) (w:AW) (hl:w.lim≤w.next) (hn1:n1≤w.next) (hr:AccR stC 9 n1 w v l) :
  ∃ v' w',(run Tryz.prog ov (m + 4)).call 37 [v,.string ⟨⟨x⟩⟩] w .none=.ok (.ret v') w' .none∧∃ l',AccR stC 9 n1 w' v' l'∧Into l x l'∧Up w w':=by
 refine call_wp text37 (by simp) (h.o37 _ _) ?_
 have r11:=run11 h.o11 h.o31 h.o32 h.o34 h.o23 m x w
 obtain ⟨z,r22,hz⟩:=run22g h.o22 (m + 2) v l x (by omega) w hr.rows
 have hok:=hr.ok
 cases hc:codeB x with
 | false =>
  rw [hc] at r11
  simp [mc37_eq,r11,hok,tupV]
  exact ⟨l,hr,.inl ⟨by simp [hc],rfl⟩,Up.refl _⟩
 | true =>
  rw [hc] at r11
  by_cases hm:x ∈ l
  ·have hz':0≤z:=hz.2 hm
   simp [mc37_eq,r11,hok,r22,hz',tupV]
   exact ⟨l,hr,.inl ⟨by simp [hm],rfl⟩,Up.refl _⟩
  ·have hz':¬ 0≤z:=fun e=>hm (hz.1 e)
   simp [mc37_eq,r11,hok,r22,hz']
   refine wp_seqX (wp_blockX (wp_rounds (fun k t w'=>w'=w∧tget t 0=v∧tget t 1=.string ⟨⟨x⟩⟩∧tget t 5=.int .i64 (k:Nat)∧k≤l.length∧∀ j y,j < k→l[j]?=some y→cmpB y x < 0) 2000 (by decide) ?_ ?_))
   ·simp
   ·rintro k t w' ⟨rfl,t0,t1,t5,hk,hlo⟩
    have hln:=len26V (w':=w') hr.rows
    by_cases hlt:k < l.length
    ·obtain ⟨y,hy⟩:∃ y,l[k]?=some y:=⟨_,List.getElem?_eq_getElem hlt⟩
     obtain ⟨b,off,sq,cp,e3,hra⟩:=hr.rows.at_ k hlt
     have hia:=fun w=>ia26 w ⟨b,off,sq⟩ l.length cp .i64 k hlt
     have hrd:=row_str hra hy
     have hlt':(k:Int) < (l.length:Int):=by omega
     have hw1:IntKind.wrap .i64 ((k:Int) + 1)=(k:Int) + 1:=wrap64_in (by omega) (by omega)
     have hls:=fun c w=>bin_lssS (P:=Tryz.prog) (w:=w) 9 c y x
     subst e3
     by_cases hyx:cmpB y x < 0
     ·simp [mc37_l0,t0,t1,t5,hln,hlt',hia,hrd,hls,hyx,hw1]
      refine ⟨by omega,by omega,fun j y' hj hy'=>?_⟩
      by_cases e:j=k
      ·subst e
       rw [hy] at hy'
       cases hy'; exact hyx
      ·exact hlo j y' (by omega) hy'
     ·simp [mc37_l0,t0,t1,t5,hln,hlt',hia,hrd,hls,hyx]
      refine tail37 (m + 3) _ l x hll n1 w' hl hn1 hr k hk _ _ ?_ ?_ ?_ (fun t w2 hacc hup=>?_)
      ·simp [t0]
      ·simp [t1]
      ·simp [t5]
      ·simp [hacc.ok,tupV]
       exact ⟨_,hacc,.inr ⟨hc,hm,k,hk,hlo,fun y' hy'=>by rw [hy] at hy'; cases hy'; exact hyx,rfl⟩,hup⟩
    ·have hlt':¬ (k:Int) < (l.length:Int):=by omega
     simp [mc37_l0,t0,t1,t5,hln,hlt']
     refine tail37 (m + 3) _ l x hll n1 w' hl hn1 hr k hk _ _ ?_ ?_ ?_ (fun t w2 hacc hup=>?_)
     ·simp [t0]
     ·simp [t1]
     ·simp [t5]
     ·simp [hacc.ok,tupV]
      exact ⟨_,hacc,.inr ⟨hc,hm,k,hk,hlo,fun y' hy'=>by have:=(List.getElem?_eq_some_iff.1 hy').1; omega,rfl⟩,hup⟩
structure Ins (D l:List (List UInt8)):Prop where
 srt:l.Pairwise fun a b=>cmpB a b < 0
 mem:∀ y,y ∈ l ↔ y ∈ D∧codeB y=true
 len:l.length≤D.length
theorem Ins.nil:Ins [] []:=⟨List.Pairwise.nil,by simp,Nat.le_refl _⟩
theorem cmp_tri {x y:List UInt8} (h:¬ cmpB y x < 0) (hne:y ≠ x):cmpB x y < 0:=by
 have h2:=cmpB_cmp.neg x y
 have h3:cmpB y x ≠ 0:=fun e=>hne (cmpB_eq0.1 e)
 omega
theorem cmp_trans {x y z:List UInt8} (h1:cmpB x y < 0) (h2:cmpB y z < 0):cmpB x z < 0 :=
 (cmpB_cmp.wk).lt_le h1 ((cmpB_cmp.wk).asym h2)
theorem Ins.step {D l l':List (List UInt8)} {x:List UInt8} (h:Ins D l) (hi:Into l x l'):Ins (D++[x]) l':=by
 rcases hi with ⟨hn,rfl⟩ | ⟨hc,hx,k,hk,hlo,hhi,rfl⟩
 ·refine ⟨h.srt,fun y=>?_,by rw [List.length_append]; have:=h.len; omega⟩
  rw [h.mem y,List.mem_append,List.mem_singleton]
  constructor
  ·rintro ⟨a,b⟩; exact ⟨.inl a,b⟩
  ·rintro ⟨a | rfl,b⟩
   ·exact ⟨a,b⟩
   ·have:y ∈ l':=Classical.byContradiction fun e=>hn ⟨b,e⟩
    exact (h.mem y).1 this
 ·have hmem:∀ y,y ∈ l.take k++[x]++l.drop k ↔ y ∈ l∨y=x:=fun y=>by
   have:y ∈ l ↔ y ∈ l.take k∨y ∈ l.drop k:=by
    rw [← List.mem_append,List.take_append_drop]
   rw [this,List.mem_append,List.mem_append,List.mem_singleton]
   constructor
   ·rintro ((a | a) | a)
    ·exact .inl (.inl a)
    ·exact .inr a
    ·exact .inl (.inr a)
   ·rintro ((a | a) | a)
    ·exact .inl (.inl a)
    ·exact .inr a
    ·exact .inl (.inr a)
  refine ⟨?_,fun y=>?_,by simp [List.length_take]; have:=h.len; omega⟩
  ·have hp:=h.srt
   have hp':(l.take k++l.drop k).Pairwise fun a b=>cmpB a b < 0:=by rw [List.take_append_drop]; exact hp
   obtain ⟨p1,p2,p3⟩:=List.pairwise_append.1 hp'
   have lo:∀ a ∈ l.take k,cmpB a x < 0:=fun a ha=>by
    obtain ⟨j,hj⟩:=List.getElem?_of_mem ha
    rw [List.getElem?_take] at hj
    split at hj
    ·exact hlo j a (by assumption) hj
    ·cases hj
   have hi:∀ b ∈ l.drop k,cmpB x b < 0:=by
    cases hd:l.drop k with
    | nil=>intro b hb; cases hb
    | cons c rest =>
     have hck:l[k]?=some c:=by
      have:(l.drop k)[0]?=some c:=by rw [hd]; rfl
      rwa [List.getElem?_drop,Nat.add_zero] at this
     have hxc:cmpB x c < 0:=cmp_tri (hhi c hck) (fun e=>hx (e ▸ List.mem_of_getElem? hck))
     rw [hd] at p2
     obtain ⟨q1,_⟩:=List.pairwise_cons.1 p2
     intro b hb
     rcases List.mem_cons.1 hb with rfl | hb
     ·exact hxc
     ·exact cmp_trans hxc (q1 b hb)
   rw [List.append_assoc]
   refine List.pairwise_append.2 ⟨p1,?_,?_⟩
   ·exact List.pairwise_cons.2 ⟨hi,p2⟩
   ·intro a ha b hb
    rcases List.mem_cons.1 hb with rfl | hb
    ·exact lo a ha
    ·exact p3 a ha b hb
  ·rw [hmem,List.mem_append,List.mem_singleton,h.mem]
   constructor
   ·rintro (⟨a,b⟩ | rfl)
    ·exact ⟨.inl a,b⟩
    ·exact ⟨.inr rfl,hc⟩
   ·rintro ⟨a | rfl,b⟩
    ·exact .inl ⟨a,b⟩
    ·exact .inr rfl
theorem rise_eq:∀ {l l':List (List UInt8)},(l.Pairwise fun a b=>cmpB a b < 0)→(l'.Pairwise fun a b=>cmpB a b < 0)→(∀ y,y ∈ l ↔ y ∈ l')→l=l'
 | [],[],_,_,_=>rfl
 | [],b::l',_,_,h=>by have:=(h b).2 (.head _); cases this
 | a::l,[],_,_,h=>by have:=(h a).1 (.head _); cases this
 | a::l,b::l',h1,h2,h=>by
  obtain ⟨p1,p2⟩:=List.pairwise_cons.1 h1
  obtain ⟨q1,q2⟩:=List.pairwise_cons.1 h2
  have irr:∀ x,¬ cmpB x x < 0:=fun x=>(cmpB_cmp.wk).irr x
  have e:a=b:=by
   rcases List.mem_cons.1 ((h a).1 (.head _)) with e | e
   ·exact e
   ·rcases List.mem_cons.1 ((h b).2 (.head _)) with e' | e'
    ·exact e'.symm
    ·exact absurd (q1 a e) ((cmpB_cmp.wk).asym (p1 b e'))
  subst e
  congr 1
  refine rise_eq p2 q2 fun y=>?_
  constructor
  ·intro hy
   rcases List.mem_cons.1 ((h y).1 (.tail _ hy)) with e | e
   ·subst e; exact absurd (p1 y hy) (irr y)
   ·exact e
  ·intro hy
   rcases List.mem_cons.1 ((h y).2 (.tail _ hy)) with e | e
   ·subst e; exact absurd (q1 y hy) (irr y)
   ·exact e
theorem near_pair {s:List UInt8} {l:List (List UInt8)} (h:NearOf s l):l.Pairwise fun a b=>cmpB a b < 0:=by
 rw [List.pairwise_iff_getElem]
 intro i j hi hj hij
 induction j with
 | zero=>omega
 | succ j ih =>
  have hlt:=near_lt h (i:=j) (List.getElem?_eq_getElem (by omega)) (List.getElem?_eq_getElem hj)
  by_cases e:i=j
  ·subst e; exact hlt
  ·exact cmp_trans (ih (by omega) (by omega)) hlt
theorem near_same {s:List UInt8} {D l l':List (List UInt8)} (h:NearOf s l) (hi:Ins D l') (hD:∀ x,x ∈ D ↔ (∃ j,Rep s j x)∨∃ j,Exc s j x):l=l':=by
 refine rise_eq (near_pair h) hi.srt fun y=>?_
 rw [h.perm.mem_iff,hi.mem,hD,← flt_mem]
 exact List.mem_filter
noncomputable def mc13_x:MC:=.seq (.ops [⟨true,none,some 43,3,.move (.tmp 5)⟩,⟨true,none,some 44,3,.binOp .add 3 (.tmp 43) (.const (.int .i64 1)) 3⟩,⟨true,none,some 45,9,.move (.tmp 0)⟩,⟨true,none,some 46,3,.call ⟨.builtin .len,#[.tmp 45],#[9]⟩⟩,⟨true,none,some 47,4,.binOp .lss 3 (.tmp 44) (.tmp 46) 3⟩,⟨true,none,some 48,4,.move (.tmp 47)⟩,⟨true,some (48,true),some 49,9,.move (.tmp 0)⟩,⟨true,some (48,true),some 50,3,.move (.tmp 5)⟩,⟨true,some (48,true),some 51,5,.index 9 (.tmp 49) (.tmp 50)⟩,⟨true,some (48,true),some 52,9,.move (.tmp 0)⟩,⟨true,some (48,true),some 53,3,.move (.tmp 5)⟩,⟨true,some (48,true),some 54,3,.binOp .add 3 (.tmp 53) (.const (.int .i64 1)) 3⟩,⟨true,some (48,true),some 55,5,.index 9 (.tmp 52) (.tmp 54)⟩,⟨true,some (48,true),some 56,4,.binOp .neq 5 (.tmp 51) (.tmp 55) 5⟩,⟨true,none,some 57,4,.pick (.tmp 48) (.tmp 56) (.const (.bool false))⟩]) (.cond (.tmp 57) (.ops [⟨true,none,some 58,26,.move (.tmp 4)⟩,⟨true,none,some 59,9,.move (.tmp 0)⟩,⟨true,none,some 60,3,.move (.tmp 5)⟩,⟨true,none,some 61,9,.slice 9 (.tmp 59) none (some (.tmp 60)) none⟩,⟨true,none,some 62,9,.move (.tmp 0)⟩,⟨true,none,some 63,3,.move (.tmp 5)⟩,⟨true,none,some 64,3,.binOp .add 3 (.tmp 63) (.const (.int .i64 1)) 3⟩,⟨true,none,some 65,3,.move (.tmp 5)⟩,⟨true,none,some 66,3,.binOp .add 3 (.tmp 65) (.const (.int .i64 2)) 3⟩,⟨true,none,some 67,9,.slice 9 (.tmp 62) (some (.tmp 64)) (some (.tmp 66)) none⟩,⟨true,none,some 68,9,.binOp .add 9 (.tmp 61) (.tmp 67) 9⟩,⟨true,none,some 69,9,.move (.tmp 0)⟩,⟨true,none,some 70,3,.move (.tmp 5)⟩,⟨true,none,some 71,3,.move (.tmp 5)⟩,⟨true,none,some 72,3,.binOp .add 3 (.tmp 71) (.const (.int .i64 1)) 3⟩,⟨true,none,some 73,9,.slice 9 (.tmp 69) (some (.tmp 70)) (some (.tmp 72)) none⟩,⟨true,none,some 74,9,.binOp .add 9 (.tmp 68) (.tmp 73) 9⟩,⟨true,none,some 75,9,.move (.tmp 0)⟩,⟨true,none,some 76,3,.move (.tmp 5)⟩,⟨true,none,some 77,3,.binOp .add 3 (.tmp 76) (.const (.int .i64 2)) 3⟩,⟨true,none,some 78,9,.slice 9 (.tmp 75) (some (.tmp 77)) none none⟩,⟨true,none,some 79,9,.binOp .add 9 (.tmp 74) (.tmp 78) 9⟩,⟨false,none,some 80,26,.call ⟨.value (.func 37),#[.tmp 58,.tmp 79],#[26,9]⟩⟩,⟨true,none,some 4,26,.assign (.tmp 80)⟩]) (.skip))
theorem mc13_l0_eq:mc13_l0=.seq (.seq (.ops [⟨false,none,some 12,3,.move (.tmp 5)⟩,⟨false,none,some 13,9,.move (.tmp 0)⟩,⟨false,none,some 14,3,.call ⟨.builtin .len,#[.tmp 13],#[9]⟩⟩,⟨false,none,some 15,4,.binOp .lss 3 (.tmp 12) (.tmp 14) 3⟩]) (.cond (.tmp 15) (.skip) (.exit 0))) (.seq (.block 1 (.seq (.seq (.ops [⟨false,none,some 6,3,.assign (.const (.int .i64 0))⟩]) (.block 2 (.loop mc13_l1))) mc13_x)) (.ops [⟨false,none,some 16,3,.move (.tmp 5)⟩,⟨false,none,some 17,3,.binOp .add 3 (.tmp 16) (.const (.int .i64 1)) 3⟩,⟨false,none,some 5,3,.assign (.tmp 17)⟩])):=rfl
theorem one_cut {s:List UInt8} {k:Nat} {c:UInt8} (h:s[k]?=some c):(s.take (k + 1)).drop k=[c]:=by
 have hk:=(List.getElem?_eq_some_iff.1 h).1
 have e:(s.take k).length=k:=by rw [List.length_take]; omega
 rw [List.take_add_one,h]
 show (s.take k++[c]).drop k=[c]
 rw [List.drop_append,e,Nat.sub_self,List.drop_of_length_le (by omega)]; rfl
theorem two_cut {s:List UInt8} {i:Nat} {a b:UInt8} (ha:s[i]?=some a) (hb:s[i + 1]?=some b):s.take i++[b]++[a]++s.drop (i + 2)=(s.set i b).set (i + 1) a:=by
 have hi:=(List.getElem?_eq_some_iff.1 hb).1
 have e:=set_cut (s.set i b) (i:=i + 1) a (by rw [List.length_set]; exact hi)
 rw [← e,List.take_add_one,List.getElem?_set_self (by omega),List.take_set_of_le (Nat.le_refl _),List.drop_set_of_lt (by omega)]
 rfl
def Don (s:List UInt8) (i:Nat) (x:List UInt8):Prop:=∃ j,j < i∧(Rep s j x∨Exc s j x)
def Pre (s:List UInt8) (i k:Nat) (x:List UInt8):Prop:=∃ j c,j < k∧sgL[j]?=some c∧s[i]? ≠ some c∧x=s.set i c
theorem pre_yes {s:List UInt8} {i k:Nat} {c:UInt8} (hc:sgL[k]?=some c) (h:s[i]? ≠ some c) (x:List UInt8):Pre s i (k + 1) x ↔ Pre s i k x∨x=s.set i c:=by
 constructor
 ·rintro ⟨j,d,h1,h2,h3,h4⟩
  by_cases e:j=k
  ·subst e
   rw [hc] at h2
   cases h2; exact .inr h4
  ·exact .inl ⟨j,d,by omega,h2,h3,h4⟩
 ·rintro (⟨j,d,h1,h2⟩ | e)
  ·exact ⟨j,d,by omega,h2⟩
  ·exact ⟨k,c,by omega,hc,h,e⟩
theorem pre_no {s:List UInt8} {i k:Nat} {c:UInt8} (hc:sgL[k]?=some c) (h:s[i]?=some c) (x:List UInt8):Pre s i (k + 1) x ↔ Pre s i k x:=by
 constructor
 ·rintro ⟨j,d,h1,h2,h3,h4⟩
  by_cases e:j=k
  ·subst e
   rw [hc] at h2
   cases h2; exact absurd h h3
  ·exact ⟨j,d,by omega,h2,h3,h4⟩
 ·rintro ⟨j,d,h1,h2⟩
  exact ⟨j,d,by omega,h2⟩
theorem pre_all {s:List UInt8} {i:Nat} (hi:i < s.length) (x:List UInt8):Pre s i 37 x ↔ Rep s i x:=by
 constructor
 ·rintro ⟨j,d,h1,h2,h3,h4⟩
  exact ⟨hi,d,sg_in h2,h3,h4⟩
 ·rintro ⟨_,c,h1,h2,h3⟩
  exact ⟨sgV c,c,of_decide_eq_true h1,sg_of h1,h2,h3⟩
structure InN (s:List UInt8) (n1:Nat) (w0:AW) (i k:Nat) (v:Value) (w:AW):Prop where
 up:Up w0 w
 acc:∃ D l,AccR stC 9 n1 w v l∧Ins D l∧D.length≤40 * i + k∧∀ x,x ∈ D ↔ Don s i x∨Pre s i k x
section
variable {ov:Ov} {w0:AW} {s:List UInt8} {n1:Nat}
theorem loop13b (m:Nat) (h:Hos ov) (hl:w0.lim≤w0.next) (hn1:n1≤w0.next) (hlen:s.length≤17) (i:Nat) (hi:i < s.length) (w:AW) (Q:Ex→Tm→AW→Prop) (t:Tm)
  (t0:tget t 0=.string ⟨⟨s⟩⟩) (t5:tget t 5=.int .i64 (i:Nat)) (t6:tget t 6=.int .i64 0) (hI:InN s n1 w0 i 0 (tget t 4) w)
  (hQ:∀ t w,InN s n1 w0 i 37 (tget t 4) w→tget t 0=.string ⟨⟨s⟩⟩→tget t 5=.int .i64 (i:Nat)→Q (.exit 2) t w):wp (exM Tryz.prog (run Tryz.prog ov (m + 4)) (.loop mc13_l1) t w) Q:=by
 refine wp_rounds (fun k t w=>InN s n1 w0 i k (tget t 4) w∧tget t 0=.string ⟨⟨s⟩⟩∧tget t 5=.int .i64 (i:Nat)∧tget t 6=.int .i64 (k:Nat)∧k≤37) 200 (by decide) ⟨hI,t0,t5,by simpa using t6,Nat.zero_le _⟩ ?_
 clear t0 t5 t6 hI
 rintro k t w ⟨⟨hu,D,l,hacc,hin,hDl,hD⟩,t0,t5,t6,hk⟩
 have hn:=hu.next
 have hlm:=hu.lim
 obtain ⟨a,ha⟩:∃ a,s[i]?=some a:=⟨_,List.getElem?_eq_getElem hi⟩
 by_cases hlt:k < 37
 ·obtain ⟨c,hc⟩:∃ c,sgL[k]?=some c:=⟨_,List.getElem?_eq_getElem hlt⟩
  have hlt':(k:Int) < 37:=by omega
  have hix:=fun w=>ixL w .i64 hc
  have s2:=fun w=>sl_sg w hlt
  have ec:sgL.getD k 0=c:=by rw [List.getD_eq_getElem?_getD,hc]; rfl
  rw [ec] at s2
  simp only [sgL] at hix s2
  have hx:∀ w k,indexA Tryz.prog w 9 (.string ⟨⟨s⟩⟩) (.int k (i:Int))=.val (.int .u8 (a.toNat:Int)) w:=fun w k=>ix9 w _ k i a ha
  have hw1:IntKind.wrap .i64 ((k:Int) + 1)=(k:Int) + 1:=wrap64_in (by omega) (by omega)
  by_cases hca:c=a
  ·subst hca
   simp [mc13_l1,t0,t5,t6,hlt',hix,hx,hw1]
   exact ⟨by omega,⟨hu,D,l,hacc,hin,by omega,fun x=>by rw [hD,pre_no hc ha]⟩,by omega⟩
  ·have hne:¬ ((c.toNat:Int)=(a.toNat:Int)):=fun h=>hca (byte_eq.1 h)
   have hsc:s[i]? ≠ some c:=by rw [ha]; intro e; exact hca (Option.some.inj e).symm
   have s1:=fun w=>sl9 w s (k:=i) (by omega)
   have s3:∀ w,sliceA Tryz.prog w 9 (.string ⟨⟨s⟩⟩) (some (.int .i64 ((i:Int) + 1))) none none=.val (.string ⟨⟨s.drop (i + 1)⟩⟩) w:=fun w=>slF w s (k:=i + 1) (by omega)
   have k1:=fun c' w=>catS (w:=w) c' (s.take i) [c] (by rw [List.length_take]; omega) (by simp)
   have k2:=fun c' w=>catS (w:=w) c' (s.take i++[c]) (s.drop (i + 1)) (by rw [List.length_append,List.length_take]; simp; omega) (by rw [List.length_drop]; omega)
   rw [set_cut s c hi] at k2
   have hw2:IntKind.wrap .i64 ((i:Int) + 1)=(i:Int) + 1:=wrap64_in (by omega) (by omega)
   obtain ⟨v',w',hcall,l',hacc',hinto,hup⟩:=call37 m h (tget t 4) l (s.set i c) (by have:=hin.len; omega) n1 w (by omega) (by omega) hacc
   have hok:=hacc.ok
   have hok':=hacc'.ok
   simp [mc13_l1,t0,t5,t6,hlt',hix,hx,hne,hw1,hw2,s1,s2,s3,k1,k2,hok,hcall,hok']
   refine ⟨by omega,⟨hu.trans hup,D++[s.set i c],l',hacc',hin.step hinto,by rw [List.length_append]; simp; omega,fun x=>?_⟩,by omega⟩
   rw [List.mem_append,hD,List.mem_singleton,pre_yes hc hsc,or_assoc]
 ·have hk':k=37:=by omega
  subst hk'
  simp [mc13_l1,t6]
  exact hQ _ _ ⟨hu,D,l,by simpa using hacc,hin,hDl,hD⟩ (by simp [t0]) (by simp [t5])
theorem part13 (m:Nat) (h:Hos ov) (hl:w0.lim≤w0.next) (hn1:n1≤w0.next) (hlen:s.length≤17) (i:Nat) (hi:i < s.length) (w:AW) (Q:Ex→Tm→AW→Prop) (t:Tm)
  (t0:tget t 0=.string ⟨⟨s⟩⟩) (t5:tget t 5=.int .i64 (i:Nat)) (hI:InN s n1 w0 i 37 (tget t 4) w)
  (hQ:∀ t w,InN s n1 w0 (i + 1) 0 (tget t 4) w→tget t 0=.string ⟨⟨s⟩⟩→tget t 5=.int .i64 (i:Nat)→Q .normal t w):wp (exM Tryz.prog (run Tryz.prog ov (m + 4)) mc13_x t w) Q:=by
 obtain ⟨hu,D,l,hacc,hin,hDl,hD⟩:=hI
 have hn:=hu.next
 have hlm:=hu.lim
 have don:∀ x,Don s (i + 1) x ↔ (Don s i x∨Pre s i 37 x)∨Exc s i x:=fun x=>by
  rw [pre_all hi]
  constructor
  ·rintro ⟨j,hj,h⟩
   by_cases e:j=i
   ·subst e
    rcases h with h | h
    ·exact .inl (.inr h)
    ·exact .inr h
   ·exact .inl (.inl ⟨j,by omega,h⟩)
  ·rintro ((⟨j,hj,h⟩ | h) | h)
   ·exact ⟨j,by omega,h⟩
   ·exact ⟨i,by omega,.inl h⟩
   ·exact ⟨i,by omega,.inr h⟩
 have pre0:∀ x,¬ Pre s (i + 1) 0 x:=fun x ⟨j,_,h,_⟩=>by omega
 obtain ⟨a,ha⟩:∃ a,s[i]?=some a:=⟨_,List.getElem?_eq_getElem hi⟩
 have hx:∀ w k,indexA Tryz.prog w 9 (.string ⟨⟨s⟩⟩) (.int k (i:Int))=.val (.int .u8 (a.toNat:Int)) w:=fun w k=>ix9 w _ k i a ha
 have hw1:IntKind.wrap .i64 ((i:Int) + 1)=(i:Int) + 1:=wrap64_in (by omega) (by omega)
 have hw2:IntKind.wrap .i64 ((i:Int) + 2)=(i:Int) + 2:=wrap64_in (by omega) (by omega)
 by_cases hlt:i + 1 < s.length
 ·obtain ⟨b,hb⟩:∃ b,s[i + 1]?=some b:=⟨_,List.getElem?_eq_getElem hlt⟩
  have hlt':(i:Int) + 1 < (s.length:Int):=by omega
  have hx2:∀ w k,indexA Tryz.prog w 9 (.string ⟨⟨s⟩⟩) (.int k ((i:Int) + 1))=.val (.int .u8 (b.toNat:Int)) w:=fun w k=>ix9 w _ k (i + 1) b hb
  by_cases hab:a=b
  ·subst hab
   simp [mc13_x,t0,t5,hw1,hlt',hx,hx2]
   refine hQ _ _ ⟨hu,D,l,by simpa using hacc,hin,by omega,fun x=>?_⟩ (by simp [t0]) (by simp [t5])
   rw [hD,don]
   have:¬ Exc s i x:=by
    rintro ⟨_,a',b',h1,h2,h3,_⟩
    rw [ha] at h1; rw [hb] at h2
    cases h1; cases h2; exact h3 rfl
   simp [this,pre0]
  ·have hne:¬ ((a.toNat:Int)=(b.toNat:Int)):=fun h=>hab (byte_eq.1 h)
   have s1:=fun w=>sl9 w s (k:=i) (by omega)
   have s2:∀ w,sliceA Tryz.prog w 9 (.string ⟨⟨s⟩⟩) (some (.int .i64 ((i:Int) + 1))) (some (.int .i64 ((i:Int) + 2))) none=.val (.string ⟨⟨[b]⟩⟩) w:=fun w=>by
    rw [← one_cut hb]; exact slM w s (k:=i + 1) (n:=i + 2) (by omega) (by omega)
   have s3:∀ w,sliceA Tryz.prog w 9 (.string ⟨⟨s⟩⟩) (some (.int .i64 (i:Int))) (some (.int .i64 ((i:Int) + 1))) none=.val (.string ⟨⟨[a]⟩⟩) w:=fun w=>by
    rw [← one_cut ha]; exact slM w s (k:=i) (n:=i + 1) (by omega) (by omega)
   have s4:∀ w,sliceA Tryz.prog w 9 (.string ⟨⟨s⟩⟩) (some (.int .i64 ((i:Int) + 2))) none none=.val (.string ⟨⟨s.drop (i + 2)⟩⟩) w:=fun w=>slF w s (k:=i + 2) (by omega)
   have k1:=fun c' w=>catS (w:=w) c' (s.take i) [b] (by rw [List.length_take]; omega) (by simp)
   have k2:=fun c' w=>catS (w:=w) c' (s.take i++[b]) [a] (by rw [List.length_append,List.length_take]; simp; omega) (by simp)
   have k3:=fun c' w=>catS (w:=w) c' (s.take i++[b]++[a]) (s.drop (i + 2)) (by rw [List.length_append,List.length_append,List.length_take]; simp; omega) (by rw [List.length_drop]; omega)
   rw [two_cut ha hb] at k3
   obtain ⟨v',w',hcall,l',hacc',hinto,hup⟩:=call37 m h (tget t 4) l ((s.set i b).set (i + 1) a) (by have:=hin.len; omega) n1 w (by omega) (by omega) hacc
   have hok:=hacc.ok
   have hok':=hacc'.ok
   have hexc:Exc s i ((s.set i b).set (i + 1) a):=⟨hlt,a,b,ha,hb,hab,rfl⟩
   generalize (s.set i b).set (i + 1) a=y at k3 hcall hinto hexc
   generalize hA:s.take i++[b]=A1 at k1 k2 k3
   generalize hA2:A1++[a]=A2 at k2 k3
   simp [mc13_x,t0,t5,hw1,hw2,hlt',hx,hx2,hne,s1,s2,s3,s4,k1,k2,k3,hok,hcall,hok']
   refine hQ _ _ ⟨hu.trans hup,D++[y],l',by simpa using hacc',hin.step hinto,by rw [List.length_append]; simp; omega,fun x=>?_⟩ (by simp [t0]) (by simp [t5])
   rw [List.mem_append,hD,List.mem_singleton,don]
   have:Exc s i x ↔ x=y:=by
    constructor
    ·rintro ⟨_,a1,b1,h1,h2,h3,rfl⟩
     obtain ⟨_,a2,b2,g1,g2,g3,rfl⟩:=hexc
     rw [g1] at h1; rw [g2] at h2
     cases h1; cases h2; rfl
    ·rintro rfl; exact hexc
   rw [this]
   simp [pre0]
 ·have hlt':¬ (i:Int) + 1 < (s.length:Int):=by omega
  simp [mc13_x,t0,t5,hw1,hlt']
  refine hQ _ _ ⟨hu,D,l,by simpa using hacc,hin,by omega,fun x=>?_⟩ (by simp [t0]) (by simp [t5])
  rw [hD,don]
  have:¬ Exc s i x:=fun h=>hlt h.lt
  simp [this,pre0]
theorem loop13a (m:Nat) (h:Hos ov) (hl:w0.lim≤w0.next) (hn1:n1≤w0.next) (hlen:s.length≤17) (Q:Ex→Tm→AW→Prop) (t:Tm)
  (t0:tget t 0=.string ⟨⟨s⟩⟩) (t4:tget t 4=.slice none 0 0) (t5:tget t 5=.int .i64 0)
  (hQ:∀ t w,InN s n1 w0 s.length 0 (tget t 4) w→Q (.exit 0) t w):wp (exM Tryz.prog (run Tryz.prog ov (m + 4)) (.loop mc13_l0) t w0) Q:=by
 refine wp_rounds (fun i t w=>InN s n1 w0 i 0 (tget t 4) w∧tget t 0=.string ⟨⟨s⟩⟩∧tget t 5=.int .i64 (i:Nat)∧i≤s.length) 200 (by decide) ⟨⟨Up.refl _,[],[],by rw [t4]; exact AccR.nil,Ins.nil,by simp,fun x=>?_⟩,t0,by simpa using t5,Nat.zero_le _⟩ ?_
 ·constructor
  ·intro h; cases h
  ·rintro (⟨j,h,_⟩ | ⟨j,_,h,_⟩) <;> omega
 clear t0 t4 t5
 rintro i t w ⟨hI,t0,t5,hi⟩
 by_cases hlt:i < s.length
 ·have hlt':(i:Int) < (s.length:Int):=by omega
  have hw1:IntKind.wrap .i64 ((i:Int) + 1)=(i:Int) + 1:=wrap64_in (by omega) (by omega)
  simp [mc13_l0_eq,t0,t5,hlt']
  refine wp_seqX (wp_blockX (wp_seqX (wp_blockX (loop13b m h hl hn1 hlen i hlt w _ _ ?_ ?_ ?_ ?_ ?_))))
  ·simp [t0]
  ·simp [t5]
  ·simp
  ·simpa using hI
  ·intro t w hI2 s0 s5
   simp
   refine part13 m h hl hn1 hlen i hlt w _ t s0 s5 hI2 fun t w hI3 q0 q5=>?_
   simp [q5,hw1]
   exact ⟨by omega,hI3,q0,by omega⟩
 ·have hi':i=s.length:=by omega
  subst hi'
  simp [mc13_l0_eq,t0,t5]
  exact hQ _ _ (by simpa using hI)
end
end Go.Proofs.YtdgllbepplldoaaGreatDoor.walk
