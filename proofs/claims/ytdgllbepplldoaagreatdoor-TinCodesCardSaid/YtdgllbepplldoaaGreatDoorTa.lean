/- Part of a proof: see the text with the theorem. -/
import Derived.Test.YtdgllbepplldoaaGreatDoorShF
import Derived.KernelRfl
import Derived.Test.YtdgllbepplldoaaGreatDoorProg
set_option linter.all false
namespace Go.Proofs.YtdgllbepplldoaaGreatDoor.walk
open Go Go.Sh
set_option maxRecDepth 100000
@[simp] theorem ne22 (c:Bool) (x y:Value) (w:AW):(binW Tryz.prog .neq 22 c).val x y w=vR w ((eqFlat false [0] x y).map fun b=>.bool (!b)):=bin_neq (by kernel_rfl) c x y
@[simp] theorem len9 (w:AW) (a:ByteArray):lenB Tryz.prog w 9 (.string a)=.val (.int .i64 (a.data.toList.length:Nat)) w:=len_string (by kernel_rfl) a
@[simp] theorem eq9 (c:Bool) (x y:Value) (w:AW):(binW Tryz.prog .eql 9 c).val x y w=vR w ((eqFlat false [2] x y).map .bool):=bin_eql (by kernel_rfl) c x y
@[simp] theorem ld3 (w:AW) (a:Addr):loadA Tryz.prog w 3 (.pointer (some a))=vR w (rd1 w a.block a.off):=load_one (by kernel_rfl) a
@[simp] theorem eq3 (c:Bool) (x y:Value) (w:AW):(binW Tryz.prog .eql 3 c).val x y w=vR w ((eqFlat false [0] x y).map .bool):=bin_eql (by kernel_rfl) c x y
@[simp] theorem len26 (w:AW) (a:Option Addr) (n c:Nat):lenB Tryz.prog w 26 (.slice a n c)=.val (.int .i64 n) w:=len_slice (e:=9) (by kernel_rfl) a n c
@[simp] theorem ia26 (w:AW) (a:Addr) (n c:Nat) (k:IntKind) (i:Nat) (hi:i < n):indexAddrA Tryz.prog w 26 (.slice (some a) n c) (.int k (i:Int))=.val (.pointer (some (a.add (i * 1)))) w:=indexAddr_slice (e:=9) (by kernel_rfl) (by kernel_rfl) a n c k i hi
@[simp] theorem ld9 (w:AW) (a:Addr):loadA Tryz.prog w 9 (.pointer (some a))=vR w (rd1 w a.block a.off):=load_one (by kernel_rfl) a
@[simp] theorem ix9 (w:AW) (a:ByteArray) (k:IntKind) (i:Nat) (b:UInt8) (hb:a.data.toList[i]?=some b):indexA Tryz.prog w 9 (.string a) (.int k (i:Int))=.val (.int .u8 (b.toNat:Int)) w:=index_string (by kernel_rfl) a k i b hb
@[simp] theorem ne5 (c:Bool) (x y:Value) (w:AW):(binW Tryz.prog .neq 5 c).val x y w=vR w ((eqFlat false [0] x y).map fun b=>.bool (!b)):=bin_neq (by kernel_rfl) c x y
@[simp] theorem bd33_0_n1 (w:AW) (x0:Int):buildSliceA Tryz.prog w 33 1 [(0,.int .i64 x0)]=.val (.slice (some ⟨w.next,0,some 2⟩) 1 1) ⟨w.heap.put w.next (some (.cells [.int .i64 x0] 3 false)),w.next + 1,w.lim⟩:=by kernel_rfl
@[simp] theorem len33 (w:AW) (a:Option Addr) (n c:Nat):lenB Tryz.prog w 33 (.slice a n c)=.val (.int .i64 n) w:=len_slice (e:=3) (by kernel_rfl) a n c
@[simp] theorem ia33 (w:AW) (a:Addr) (n c:Nat) (k:IntKind) (i:Nat) (hi:i < n):indexAddrA Tryz.prog w 33 (.slice (some a) n c) (.int k (i:Int))=.val (.pointer (some (a.add (i * 1)))) w:=indexAddr_slice (e:=3) (by kernel_rfl) (by kernel_rfl) a n c k i hi
@[simp] theorem eq5 (c:Bool) (x y:Value) (w:AW):(binW Tryz.prog .eql 5 c).val x y w=vR w ((eqFlat false [0] x y).map .bool):=bin_eql (by kernel_rfl) c x y
@[simp] theorem al26 (w:AW):allocA Tryz.prog w 26=.val (.pointer (some ⟨w.next,0,none⟩)) ⟨w.heap.put w.next (some (.cells [.slice none 0 0] 26 false)),w.next + 1,w.lim⟩:=alloc_eq (z:=.slice none 0 0) (by kernel_rfl)
@[simp] theorem ld26 (w:AW) (a:Addr):loadA Tryz.prog w 26 (.pointer (some a))=vR w (rd1 w a.block a.off):=load_one (by kernel_rfl) a
@[simp] theorem bd26_0_n1 (w:AW) (x0:ByteArray):buildSliceA Tryz.prog w 26 1 [(0,.string x0)]=.val (.slice (some ⟨w.next,0,some 2⟩) 1 1) ⟨w.heap.put w.next (some (.cells [.string x0] 9 false)),w.next + 1,w.lim⟩:=by kernel_rfl
@[simp] theorem st26 (w:AW) (a:Addr) (x:Value) (hx:(cellsOf x).length=1):storeA Tryz.prog w 26 (.pointer (some a)) x=wR (wr w a.block a.off (cellsOf x)) undef:=store_eq (by kernel_rfl) a x hx
@[simp] theorem ia92 (w:AW) (a:Addr) (n c:Nat) (k:IntKind) (i:Nat) (hi:i < n):indexAddrA Tryz.prog w 92 (.slice (some a) n c) (.int k (i:Int))=.val (.pointer (some (a.add (i * 1)))) w:=indexAddr_slice (e:=5) (by kernel_rfl) (by kernel_rfl) a n c k i hi
@[simp] theorem ld5 (w:AW) (a:Addr):loadA Tryz.prog w 5 (.pointer (some a))=vR w (rd1 w a.block a.off):=load_one (by kernel_rfl) a
@[simp] theorem st5 (w:AW) (a:Addr) (x:Value) (hx:(cellsOf x).length=1):storeA Tryz.prog w 5 (.pointer (some a)) x=wR (wr w a.block a.off (cellsOf x)) undef:=store_eq (by kernel_rfl) a x hx
@[simp] theorem ld96 (w:AW) (a:Addr):loadA Tryz.prog w 96 (.pointer (some a))=vR w (aggM (rd w a.block a.off 37)):=load_agg (by kernel_rfl) (by kernel_rfl) a
noncomputable def mc8:MC:=.seq (.ops [⟨false,none,some 2,9,.assign (.const (.string ⟨⟨[]⟩⟩))⟩,⟨false,none,some 3,22,.assign (.const (.int .i64 0))⟩]) (.seq (.seq (.ops [⟨false,none,some 4,9,.move (.tmp 0)⟩,⟨false,none,some 5,4,.call ⟨.value (.func 29),#[.tmp 4,.const (.int .i64 1),.const (.int .i64 16)],#[9,3,3]⟩⟩,⟨false,none,some 6,4,.unOp .not 4 (.tmp 5)⟩]) (.cond (.tmp 6) (.seq (.ops [⟨false,none,some 2,9,.assign (.const (.string ⟨⟨[]⟩⟩))⟩,⟨false,none,some 3,22,.assign (.const (.int .i64 80))⟩]) (.ret)) (.skip))) (.seq (.ops [⟨false,none,some 7,9,.move (.tmp 0)⟩,⟨false,none,some 8,5,.call ⟨.value (.func 30),#[.tmp 7],#[9]⟩⟩,⟨false,none,some 9,9,.convert 5 9 (.tmp 8)⟩,⟨false,none,some 2,9,.assign (.tmp 9)⟩,⟨false,none,some 3,22,.assign (.const (.int .i64 0))⟩]) (.ret)))
theorem text8:textF Tryz.prog 8=some (10,[.tmp 2,.tmp 3],mc8):=by kernel_rfl
noncomputable def mc10:MC:=.seq (.ops [⟨false,none,some 2,4,.assign (.const (.bool false))⟩]) (.seq (.ops [⟨false,none,some 4,9,.move (.tmp 0)⟩,⟨false,none,some 5,3,.call ⟨.builtin .len,#[.tmp 4],#[9]⟩⟩,⟨false,none,some 6,3,.binOp .sub 3 (.tmp 5) (.const (.int .i64 1)) 3⟩,⟨false,none,some 3,3,.assign (.tmp 6)⟩]) (.seq (.ops [⟨true,none,some 7,9,.move (.tmp 0)⟩,⟨false,none,some 8,4,.call ⟨.value (.func 33),#[.tmp 7],#[9]⟩⟩,⟨true,none,some 9,4,.move (.tmp 8)⟩,⟨true,some (9,true),some 10,9,.move (.tmp 0)⟩,⟨true,some (9,true),some 11,3,.move (.tmp 3)⟩,⟨true,some (9,true),some 12,5,.index 9 (.tmp 10) (.tmp 11)⟩,⟨true,some (9,true),some 13,9,.move (.tmp 0)⟩,⟨true,some (9,true),some 14,3,.move (.tmp 3)⟩,⟨true,some (9,true),some 15,9,.slice 9 (.tmp 13) none (some (.tmp 14)) none⟩,⟨false,some (9,true),some 16,5,.call ⟨.value (.func 30),#[.tmp 15],#[9]⟩⟩,⟨true,some (9,true),some 17,4,.binOp .eql 5 (.tmp 12) (.tmp 16) 5⟩,⟨true,none,some 18,4,.pick (.tmp 9) (.tmp 17) (.const (.bool false))⟩,⟨true,none,some 2,4,.assign (.tmp 18)⟩]) (.ret)))
theorem text10:textF Tryz.prog 10=some (19,[.tmp 2],mc10):=by kernel_rfl
noncomputable def mc12:MY:=.seq (.mc (.ops [⟨false,none,some 2,26,.assign (.const (.slice none 0 0))⟩,⟨false,none,some 3,22,.assign (.const (.int .i64 0))⟩])) (.seq (.mc (.seq (.ops [⟨false,none,some 6,9,.move (.tmp 0)⟩,⟨false,none,some 7,4,.call ⟨.value (.func 33),#[.tmp 6],#[9]⟩⟩,⟨false,none,some 8,4,.unOp .not 4 (.tmp 7)⟩]) (.cond (.tmp 8) (.seq (.ops [⟨false,none,some 2,26,.assign (.const (.slice none 0 0))⟩,⟨false,none,some 3,22,.assign (.const (.int .i64 80))⟩]) (.ret)) (.skip)))) (.seq (.mc (.ops [⟨false,none,some 4,0,.alloc 26⟩])) (.seq (.seq (.mc (.ops [⟨false,none,some 9,9,.move (.tmp 0)⟩,⟨false,none,some 10,57,.call ⟨.value (.func 35),#[.tmp 9],#[9]⟩⟩])) (.block 0 (.rf 21 (.tmp 10) [11] (rfOf Tryz.prog 12 0).1 (rfOf Tryz.prog 12 0).2))) (.mc (.seq (.ops [⟨false,none,some 18,26,.load 26 (.tmp 4)⟩,⟨false,none,some 19,0,.call ⟨.value (.func 36),#[.tmp 18],#[26]⟩⟩]) (.seq (.ops [⟨false,none,some 20,26,.load 26 (.tmp 4)⟩,⟨false,none,some 2,26,.assign (.tmp 20)⟩,⟨false,none,some 3,22,.assign (.const (.int .i64 0))⟩]) (.ret)))))))
theorem text12:textY Tryz.prog 12=some (21,[.tmp 2,.tmp 3],mc12):=by kernel_rfl
noncomputable def mc12_a0:MY:=.mc (.ops [⟨false,none,some 5,9,.assign (.tmp 11)⟩])
theorem ta12_0:flatY Tryz.prog true 21 (rfOf Tryz.prog 12 0).1=some mc12_a0:=by kernel_rfl
noncomputable def mc12_b0:MY:=.mc (.block 1 (.seq (.ops [⟨false,none,some 12,9,.move (.tmp 5)⟩,⟨false,none,some 13,4,.call ⟨.value (.func 10),#[.tmp 12],#[9]⟩⟩]) (.cond (.tmp 13) (.ops [⟨false,none,some 14,26,.load 26 (.tmp 4)⟩,⟨false,none,some 15,9,.move (.tmp 5)⟩,⟨false,none,some 16,26,.buildSlice 26 1 #[(0,.tmp 15)]⟩,⟨false,none,some 17,26,.call ⟨.builtin .append,#[.tmp 14,.tmp 16],#[26,26]⟩⟩,⟨false,none,none,0,.store 26 (.tmp 4) (.tmp 17)⟩]) (.skip))))
theorem tb12_0:flatY Tryz.prog true 21 (rfOf Tryz.prog 12 0).2=some mc12_b0:=by kernel_rfl
noncomputable def mc21:MC:=.seq (.ops [⟨false,none,some 6,9,.assign (.const (.string ⟨⟨[]⟩⟩))⟩]) (.seq (.ops [⟨false,none,some 8,9,.move (.tmp 0)⟩,⟨false,none,some 9,92,.convert 9 92 (.tmp 8)⟩,⟨false,none,some 7,92,.assign (.tmp 9)⟩]) (.seq (.ops [⟨true,none,some 10,92,.move (.tmp 7)⟩,⟨true,none,some 11,3,.move (.tmp 1)⟩,⟨true,none,some 12,92,.move (.tmp 7)⟩,⟨true,none,some 13,3,.move (.tmp 2)⟩,⟨true,none,some 14,92,.move (.tmp 7)⟩,⟨true,none,some 15,3,.move (.tmp 2)⟩,⟨true,none,some 16,0,.indexAddr 92 (.tmp 14) (.tmp 15)⟩,⟨true,none,some 17,5,.load 5 (.tmp 16)⟩,⟨true,none,some 18,92,.move (.tmp 7)⟩,⟨true,none,some 19,3,.move (.tmp 1)⟩,⟨true,none,some 20,0,.indexAddr 92 (.tmp 18) (.tmp 19)⟩,⟨true,none,some 21,5,.load 5 (.tmp 20)⟩,⟨true,none,some 22,0,.indexAddr 92 (.tmp 10) (.tmp 11)⟩,⟨false,none,none,0,.store 5 (.tmp 22) (.tmp 17)⟩,⟨true,none,some 23,0,.indexAddr 92 (.tmp 12) (.tmp 13)⟩,⟨false,none,none,0,.store 5 (.tmp 23) (.tmp 21)⟩]) (.seq (.ops [⟨false,none,some 24,92,.move (.tmp 7)⟩,⟨false,none,some 25,9,.convert 92 9 (.tmp 24)⟩,⟨false,none,some 6,9,.assign (.tmp 25)⟩]) (.ret))))
theorem text21:textF Tryz.prog 21=some (26,[.tmp 6],mc21):=by kernel_rfl
noncomputable def mc22_l0:MC:=.seq (.seq (.ops [⟨false,none,some 6,3,.move (.tmp 5)⟩,⟨false,none,some 7,26,.move (.tmp 0)⟩,⟨false,none,some 8,3,.call ⟨.builtin .len,#[.tmp 7],#[26]⟩⟩,⟨false,none,some 9,4,.binOp .lss 3 (.tmp 6) (.tmp 8) 3⟩]) (.cond (.tmp 9) (.skip) (.exit 0))) (.seq (.block 1 (.seq (.ops [⟨false,none,some 12,26,.move (.tmp 0)⟩,⟨false,none,some 13,3,.move (.tmp 5)⟩,⟨false,none,some 14,0,.indexAddr 26 (.tmp 12) (.tmp 13)⟩,⟨false,none,some 15,9,.load 9 (.tmp 14)⟩,⟨false,none,some 16,9,.move (.tmp 1)⟩,⟨false,none,some 17,4,.binOp .eql 9 (.tmp 15) (.tmp 16) 9⟩]) (.cond (.tmp 17) (.seq (.ops [⟨false,none,some 18,3,.move (.tmp 5)⟩,⟨false,none,some 4,3,.assign (.tmp 18)⟩]) (.ret)) (.skip)))) (.ops [⟨false,none,some 10,3,.move (.tmp 5)⟩,⟨false,none,some 11,3,.binOp .add 3 (.tmp 10) (.const (.int .i64 1)) 3⟩,⟨false,none,some 5,3,.assign (.tmp 11)⟩]))
noncomputable def mc22:MC:=.seq (.ops [⟨false,none,some 4,3,.assign (.const (.int .i64 0))⟩]) (.seq (.seq (.ops [⟨false,none,some 5,3,.assign (.const (.int .i64 0))⟩]) (.block 0 (.loop mc22_l0))) (.seq (.ops [⟨false,none,some 4,3,.assign (.const (.int .i64 (-1)))⟩]) (.ret)))
theorem text22:textF Tryz.prog 22=some (19,[.tmp 4],mc22):=by kernel_rfl
noncomputable def mc23:MC:=.seq (.ops [⟨false,none,some 6,4,.assign (.const (.bool false))⟩]) (.seq (.ops [⟨false,none,some 7,3,.move (.tmp 1)⟩,⟨false,none,some 8,3,.move (.tmp 0)⟩,⟨false,none,some 9,4,.binOp .leq 3 (.tmp 7) (.tmp 8) 3⟩,⟨false,none,some 10,4,.move (.tmp 9)⟩,⟨false,some (10,true),some 11,3,.move (.tmp 0)⟩,⟨false,some (10,true),some 12,3,.move (.tmp 2)⟩,⟨false,some (10,true),some 13,4,.binOp .leq 3 (.tmp 11) (.tmp 12) 3⟩,⟨false,none,some 14,4,.pick (.tmp 10) (.tmp 13) (.const (.bool false))⟩,⟨false,none,some 6,4,.assign (.tmp 14)⟩]) (.ret))
theorem text23:textF Tryz.prog 23=some (15,[.tmp 6],mc23):=by kernel_rfl
noncomputable def mc29_l0:MC:=.seq (.ops [⟨false,none,some 19,4,.binOp .lss 3 (.tmp 18) (.tmp 17) 3⟩]) (.seq (.cond (.tmp 19) (.skip) (.exit 0)) (.seq (.block 1 (.seq (.ops [⟨false,none,some 20,3,.move (.tmp 18)⟩,⟨false,none,some 7,3,.assign (.tmp 20)⟩]) (.seq (.ops [⟨false,none,some 22,9,.move (.tmp 0)⟩,⟨false,none,some 23,3,.move (.tmp 7)⟩,⟨false,none,some 24,5,.index 9 (.tmp 22) (.tmp 23)⟩,⟨false,none,some 25,94,.call ⟨.value (.func 59),#[.tmp 24],#[5]⟩⟩,⟨false,none,some 21,94,.move (.tmp 25)⟩,⟨false,none,some 26,3,.extract (.tmp 21) 0⟩,⟨false,none,some 27,4,.extract (.tmp 21) 1⟩,⟨false,none,some 8,3,.assign (.tmp 26)⟩,⟨false,none,some 9,4,.assign (.tmp 27)⟩]) (.seq (.ops [⟨false,none,some 28,4,.move (.tmp 9)⟩,⟨false,none,some 29,4,.unOp .not 4 (.tmp 28)⟩]) (.cond (.tmp 29) (.seq (.ops [⟨false,none,some 6,4,.assign (.const (.bool false))⟩]) (.ret)) (.skip)))))) (.ops [⟨false,none,some 30,3,.binOp .add 3 (.tmp 18) (.const (.int .i64 1)) 3⟩,⟨false,none,some 18,3,.move (.tmp 30)⟩])))
noncomputable def mc29:MC:=.seq (.ops [⟨false,none,some 6,4,.assign (.const (.bool false))⟩]) (.seq (.seq (.ops [⟨false,none,some 10,9,.move (.tmp 0)⟩,⟨false,none,some 11,3,.call ⟨.builtin .len,#[.tmp 10],#[9]⟩⟩,⟨false,none,some 12,3,.move (.tmp 1)⟩,⟨false,none,some 13,3,.move (.tmp 2)⟩,⟨false,none,some 14,4,.call ⟨.value (.func 58),#[.tmp 11,.tmp 12,.tmp 13],#[3,3,3]⟩⟩,⟨false,none,some 15,4,.unOp .not 4 (.tmp 14)⟩]) (.cond (.tmp 15) (.seq (.ops [⟨false,none,some 6,4,.assign (.const (.bool false))⟩]) (.ret)) (.skip))) (.seq (.seq (.ops [⟨false,none,some 16,9,.move (.tmp 0)⟩,⟨false,none,some 17,3,.call ⟨.builtin .len,#[.tmp 16],#[9]⟩⟩,⟨false,none,some 18,3,.move (.const (.int .i64 0))⟩]) (.block 0 (.loop mc29_l0))) (.seq (.ops [⟨false,none,some 6,4,.assign (.const (.bool true))⟩]) (.ret))))
theorem text29:textF Tryz.prog 29=some (31,[.tmp 6],mc29):=by kernel_rfl
noncomputable def mc30_l0:MC:=.seq (.ops [⟨false,none,some 10,4,.binOp .lss 3 (.tmp 9) (.tmp 8) 3⟩]) (.seq (.cond (.tmp 10) (.skip) (.exit 0)) (.seq (.block 1 (.seq (.ops [⟨false,none,some 11,3,.move (.tmp 9)⟩,⟨false,none,some 4,3,.assign (.tmp 11)⟩]) (.seq (.ops [⟨false,none,some 13,9,.move (.tmp 0)⟩,⟨false,none,some 14,3,.move (.tmp 4)⟩,⟨false,none,some 15,5,.index 9 (.tmp 13) (.tmp 14)⟩,⟨false,none,some 16,94,.call ⟨.value (.func 59),#[.tmp 15],#[5]⟩⟩,⟨false,none,some 12,94,.move (.tmp 16)⟩,⟨false,none,some 17,3,.extract (.tmp 12) 0⟩,⟨false,none,some 18,4,.extract (.tmp 12) 1⟩,⟨false,none,some 5,3,.assign (.tmp 17)⟩,⟨false,none,some 6,4,.assign (.tmp 18)⟩]) (.ops [⟨false,none,some 19,33,.move (.tmp 3)⟩,⟨false,none,some 20,3,.move (.tmp 5)⟩,⟨false,none,some 21,3,.move (.tmp 4)⟩,⟨false,none,some 22,3,.binOp .add 3 (.tmp 21) (.const (.int .i64 1)) 3⟩,⟨false,none,some 23,3,.binOp .shl 3 (.tmp 20) (.tmp 22) 3⟩,⟨false,none,some 24,33,.buildSlice 33 1 #[(0,.tmp 23)]⟩,⟨false,none,some 25,33,.call ⟨.builtin .append,#[.tmp 19,.tmp 24],#[33,33]⟩⟩,⟨false,none,some 3,33,.assign (.tmp 25)⟩])))) (.ops [⟨false,none,some 26,3,.binOp .add 3 (.tmp 9) (.const (.int .i64 1)) 3⟩,⟨false,none,some 9,3,.move (.tmp 26)⟩])))
noncomputable def mc30:MC:=.seq (.ops [⟨false,none,some 2,5,.assign (.const (.int .u8 0))⟩]) (.seq (.ops [⟨false,none,some 3,33,.assign (.const (.slice none 0 0))⟩]) (.seq (.seq (.ops [⟨false,none,some 7,9,.move (.tmp 0)⟩,⟨false,none,some 8,3,.call ⟨.builtin .len,#[.tmp 7],#[9]⟩⟩,⟨false,none,some 9,3,.move (.const (.int .i64 0))⟩]) (.block 0 (.loop mc30_l0))) (.seq (.ops [⟨false,none,some 27,33,.move (.tmp 3)⟩,⟨false,none,some 28,3,.call ⟨.value (.func 60),#[.tmp 27],#[33]⟩⟩,⟨false,none,some 29,3,.binOp .rem 3 (.tmp 28) (.const (.int .i64 37)) 3⟩,⟨false,none,some 30,0,.indexAddr 96 (.global 0) (.tmp 29)⟩,⟨false,none,some 31,5,.load 5 (.tmp 30)⟩,⟨false,none,some 2,5,.assign (.tmp 31)⟩]) (.ret))))
theorem text30:textF Tryz.prog 30=some (32,[.tmp 2],mc30):=by kernel_rfl
noncomputable def mc33:MC:=.seq (.ops [⟨false,none,some 2,4,.assign (.const (.bool false))⟩]) (.seq (.ops [⟨false,none,some 3,9,.move (.tmp 0)⟩,⟨false,none,some 4,4,.call ⟨.value (.func 29),#[.tmp 3,.const (.int .i64 2),.const (.int .i64 17)],#[9,3,3]⟩⟩,⟨false,none,some 2,4,.assign (.tmp 4)⟩]) (.ret))
theorem text33:textF Tryz.prog 33=some (5,[.tmp 2],mc33):=by kernel_rfl
noncomputable def mc35:MC:=.seq (.ops [⟨false,none,some 1,0,.box 9 (.tmp 0)⟩,⟨false,none,some 2,57,.assign (.const (.nilFunc))⟩]) (.seq (.ops [⟨false,none,some 3,56,.makeFunc (.func 61) #[] #[.tmp 1]⟩,⟨false,none,some 2,57,.assign (.tmp 3)⟩]) (.ret))
theorem text35:textF Tryz.prog 35=some (4,[.tmp 2],mc35):=by kernel_rfl
noncomputable def mc58:MC:=.seq (.ops [⟨false,none,some 6,4,.assign (.const (.bool false))⟩]) (.seq (.ops [⟨false,none,some 7,3,.move (.tmp 1)⟩,⟨false,none,some 8,3,.move (.tmp 0)⟩,⟨false,none,some 9,4,.binOp .leq 3 (.tmp 7) (.tmp 8) 3⟩,⟨false,none,some 10,4,.move (.tmp 9)⟩,⟨false,some (10,true),some 11,3,.move (.tmp 0)⟩,⟨false,some (10,true),some 12,3,.move (.tmp 2)⟩,⟨false,some (10,true),some 13,4,.binOp .leq 3 (.tmp 11) (.tmp 12) 3⟩,⟨false,none,some 14,4,.pick (.tmp 10) (.tmp 13) (.const (.bool false))⟩,⟨false,none,some 6,4,.assign (.tmp 14)⟩]) (.ret))
theorem text58:textF Tryz.prog 58=some (15,[.tmp 6],mc58):=by kernel_rfl
noncomputable def mc59_l0:MC:=.seq (.ops [⟨false,none,some 8,0,.binOp .lss 3 (.tmp 7) (.const (.int .i64 37)) 3⟩]) (.seq (.cond (.tmp 8) (.skip) (.exit 0)) (.seq (.block 1 (.seq (.ops [⟨false,none,some 9,3,.move (.tmp 7)⟩,⟨false,none,some 10,5,.index 96 (.tmp 6) (.tmp 7)⟩,⟨false,none,some 4,3,.assign (.tmp 9)⟩,⟨false,none,some 5,5,.assign (.tmp 10)⟩]) (.seq (.ops [⟨false,none,some 11,5,.move (.tmp 5)⟩,⟨false,none,some 12,5,.move (.tmp 0)⟩,⟨false,none,some 13,4,.binOp .eql 5 (.tmp 11) (.tmp 12) 5⟩]) (.cond (.tmp 13) (.seq (.ops [⟨false,none,some 14,3,.move (.tmp 4)⟩,⟨false,none,some 2,3,.assign (.tmp 14)⟩,⟨false,none,some 3,4,.assign (.const (.bool true))⟩]) (.ret)) (.skip))))) (.ops [⟨false,none,some 15,3,.binOp .add 3 (.tmp 7) (.const (.int .i64 1)) 3⟩,⟨false,none,some 7,3,.move (.tmp 15)⟩])))
noncomputable def mc59:MC:=.seq (.ops [⟨false,none,some 2,3,.assign (.const (.int .i64 0))⟩,⟨false,none,some 3,4,.assign (.const (.bool false))⟩]) (.seq (.seq (.ops [⟨false,none,some 6,96,.load 96 (.global 0)⟩,⟨false,none,some 7,3,.move (.const (.int .i64 0))⟩]) (.block 0 (.loop mc59_l0))) (.seq (.ops [⟨false,none,some 2,3,.assign (.const (.int .i64 0))⟩,⟨false,none,some 3,4,.assign (.const (.bool false))⟩]) (.ret)))
theorem text59:textF Tryz.prog 59=some (16,[.tmp 2,.tmp 3],mc59):=by kernel_rfl
noncomputable def mc60_l0:MC:=.seq (.ops [⟨false,none,some 9,0,.binOp .lss 3 (.tmp 8) (.tmp 7) 3⟩]) (.seq (.cond (.tmp 9) (.skip) (.exit 0)) (.seq (.block 1 (.seq (.ops [⟨false,none,some 10,0,.indexAddr 33 (.tmp 6) (.tmp 8)⟩,⟨false,none,some 11,3,.load 3 (.tmp 10)⟩,⟨false,none,some 5,3,.assign (.tmp 11)⟩]) (.ops [⟨false,none,some 12,3,.move (.tmp 3)⟩,⟨false,none,some 13,3,.move (.tmp 5)⟩,⟨false,none,some 14,3,.binOp .add 3 (.tmp 12) (.tmp 13) 3⟩,⟨false,none,some 3,3,.assign (.tmp 14)⟩]))) (.ops [⟨false,none,some 15,3,.binOp .add 3 (.tmp 8) (.const (.int .i64 1)) 3⟩,⟨false,none,some 8,3,.move (.tmp 15)⟩])))
noncomputable def mc60:MC:=.seq (.ops [⟨false,none,some 2,3,.assign (.const (.int .i64 0))⟩]) (.seq (.ops [⟨false,none,some 3,3,.assign (.const (.int .i64 0))⟩]) (.seq (.seq (.ops [⟨false,none,some 6,33,.move (.tmp 0)⟩,⟨false,none,some 7,3,.call ⟨.builtin .len,#[.tmp 6],#[33]⟩⟩,⟨false,none,some 8,3,.move (.const (.int .i64 0))⟩]) (.block 0 (.loop mc60_l0))) (.seq (.ops [⟨false,none,some 16,3,.move (.tmp 3)⟩,⟨false,none,some 2,3,.assign (.tmp 16)⟩]) (.ret))))
theorem text60:textF Tryz.prog 60=some (17,[.tmp 2],mc60):=by kernel_rfl
noncomputable def mc61_l1:MY:=.seq (.mc (.ops [⟨false,none,some 14,0,.binOp .lss 3 (.tmp 13) (.const (.int .i64 37)) 3⟩])) (.seq (.mc (.cond (.tmp 14) (.skip) (.exit 2))) (.seq (.block 3 (.seq (.mc (.ops [⟨false,none,some 15,5,.index 96 (.tmp 12) (.tmp 13)⟩,⟨false,none,some 5,5,.assign (.tmp 15)⟩])) (.seq (.opy [⟨false,none,some 16,5,.move (.tmp 5)⟩,⟨false,none,some 17,9,.load 9 (.tmp 1)⟩,⟨false,none,some 18,3,.move (.tmp 3)⟩,⟨false,none,some 19,5,.index 9 (.tmp 17) (.tmp 18)⟩,⟨false,none,some 20,4,.binOp .neq 5 (.tmp 16) (.tmp 19) 5⟩,⟨false,none,some 21,4,.move (.tmp 20)⟩,⟨false,some (21,true),some 22,25,.move (.tmp 0)⟩,⟨false,some (21,true),some 23,9,.load 9 (.tmp 1)⟩,⟨false,some (21,true),some 24,3,.move (.tmp 3)⟩,⟨false,some (21,true),some 25,5,.move (.tmp 5)⟩,⟨false,some (21,true),some 26,9,.call ⟨.value (.func 62),#[.tmp 23,.tmp 24,.tmp 25],#[9,3,5]⟩⟩,⟨false,some (21,true),some 27,4,.call ⟨.value (.tmp 22),#[.tmp 26],#[9]⟩⟩,⟨false,some (21,true),some 28,4,.unOp .not 4 (.tmp 27)⟩,⟨false,none,some 29,4,.pick (.tmp 21) (.tmp 28) (.const (.bool false))⟩]) (.mc (.cond (.tmp 29) (.ret) (.skip)))))) (.mc (.ops [⟨false,none,some 30,3,.binOp .add 3 (.tmp 13) (.const (.int .i64 1)) 3⟩,⟨false,none,some 13,3,.move (.tmp 30)⟩]))))
noncomputable def mc61_l0:MY:=.seq (.mc (.ops [⟨false,none,some 10,4,.binOp .lss 3 (.tmp 9) (.tmp 8) 3⟩])) (.seq (.mc (.cond (.tmp 10) (.skip) (.exit 0))) (.seq (.block 1 (.seq (.mc (.ops [⟨false,none,some 11,3,.move (.tmp 9)⟩,⟨false,none,some 3,3,.assign (.tmp 11)⟩])) (.seq (.mc (.ops [⟨false,none,some 12,96,.load 96 (.global 0)⟩,⟨false,none,some 13,3,.move (.const (.int .i64 0))⟩])) (.block 2 (.loop mc61_l1))))) (.mc (.ops [⟨false,none,some 31,3,.binOp .add 3 (.tmp 9) (.const (.int .i64 1)) 3⟩,⟨false,none,some 9,3,.move (.tmp 31)⟩]))))
noncomputable def mc61_l2:MC:=.seq (.ops [⟨false,none,some 36,4,.binOp .lss 3 (.tmp 35) (.tmp 34) 3⟩]) (.seq (.cond (.tmp 36) (.skip) (.exit 4)) (.seq (.block 5 (.seq (.ops [⟨false,none,some 37,3,.move (.tmp 35)⟩,⟨false,none,some 6,3,.assign (.tmp 37)⟩]) (.seq (.ops [⟨true,none,some 38,9,.load 9 (.tmp 1)⟩,⟨true,none,some 39,3,.move (.tmp 6)⟩,⟨true,none,some 40,5,.index 9 (.tmp 38) (.tmp 39)⟩,⟨true,none,some 41,9,.load 9 (.tmp 1)⟩,⟨true,none,some 42,3,.move (.tmp 6)⟩,⟨true,none,some 43,3,.binOp .add 3 (.tmp 42) (.const (.int .i64 1)) 3⟩,⟨true,none,some 44,5,.index 9 (.tmp 41) (.tmp 43)⟩,⟨true,none,some 45,4,.binOp .neq 5 (.tmp 40) (.tmp 44) 5⟩,⟨true,none,some 46,4,.move (.tmp 45)⟩,⟨true,some (46,true),some 47,25,.move (.tmp 0)⟩,⟨true,some (46,true),some 48,9,.load 9 (.tmp 1)⟩,⟨true,some (46,true),some 49,3,.move (.tmp 6)⟩,⟨false,some (46,true),some 50,9,.call ⟨.value (.func 63),#[.tmp 48,.tmp 49],#[9,3]⟩⟩,⟨false,some (46,true),some 51,4,.call ⟨.value (.tmp 47),#[.tmp 50],#[9]⟩⟩,⟨true,some (46,true),some 52,4,.unOp .not 4 (.tmp 51)⟩,⟨true,none,some 53,4,.pick (.tmp 46) (.tmp 52) (.const (.bool false))⟩]) (.cond (.tmp 53) (.ret) (.skip))))) (.ops [⟨false,none,some 54,3,.binOp .add 3 (.tmp 35) (.const (.int .i64 1)) 3⟩,⟨false,none,some 35,3,.move (.tmp 54)⟩])))
noncomputable def mc61:MY:=.seq (.seq (.mc (.ops [⟨false,none,some 7,9,.load 9 (.tmp 1)⟩,⟨false,none,some 8,3,.call ⟨.builtin .len,#[.tmp 7],#[9]⟩⟩,⟨false,none,some 9,3,.move (.const (.int .i64 0))⟩])) (.block 0 (.loop mc61_l0))) (.mc (.seq (.ops [⟨false,none,some 32,9,.load 9 (.tmp 1)⟩,⟨false,none,some 33,3,.call ⟨.builtin .len,#[.tmp 32],#[9]⟩⟩,⟨false,none,some 34,3,.binOp .sub 3 (.tmp 33) (.const (.int .i64 1)) 3⟩,⟨false,none,some 35,3,.move (.const (.int .i64 0))⟩]) (.block 4 (.loop mc61_l2))))
theorem text61:textY Tryz.prog 61=some (55,[],mc61):=by kernel_rfl
noncomputable def mc62:MC:=.seq (.ops [⟨false,none,some 6,9,.assign (.const (.string ⟨⟨[]⟩⟩))⟩]) (.seq (.ops [⟨false,none,some 8,9,.move (.tmp 0)⟩,⟨false,none,some 9,92,.convert 9 92 (.tmp 8)⟩,⟨false,none,some 7,92,.assign (.tmp 9)⟩]) (.seq (.ops [⟨false,none,some 10,92,.move (.tmp 7)⟩,⟨false,none,some 11,3,.move (.tmp 1)⟩,⟨false,none,some 12,5,.move (.tmp 2)⟩,⟨false,none,some 13,0,.indexAddr 92 (.tmp 10) (.tmp 11)⟩,⟨false,none,none,0,.store 5 (.tmp 13) (.tmp 12)⟩]) (.seq (.ops [⟨false,none,some 14,92,.move (.tmp 7)⟩,⟨false,none,some 15,9,.convert 92 9 (.tmp 14)⟩,⟨false,none,some 6,9,.assign (.tmp 15)⟩]) (.ret))))
theorem text62:textF Tryz.prog 62=some (16,[.tmp 6],mc62):=by kernel_rfl
noncomputable def mc63:MC:=.seq (.ops [⟨false,none,some 4,9,.assign (.const (.string ⟨⟨[]⟩⟩))⟩]) (.seq (.ops [⟨false,none,some 6,9,.move (.tmp 0)⟩,⟨false,none,some 7,92,.convert 9 92 (.tmp 6)⟩,⟨false,none,some 5,92,.assign (.tmp 7)⟩]) (.seq (.ops [⟨true,none,some 8,92,.move (.tmp 5)⟩,⟨true,none,some 9,3,.move (.tmp 1)⟩,⟨true,none,some 10,92,.move (.tmp 5)⟩,⟨true,none,some 11,3,.move (.tmp 1)⟩,⟨true,none,some 12,3,.binOp .add 3 (.tmp 11) (.const (.int .i64 1)) 3⟩,⟨true,none,some 13,92,.move (.tmp 5)⟩,⟨true,none,some 14,3,.move (.tmp 1)⟩,⟨true,none,some 15,3,.binOp .add 3 (.tmp 14) (.const (.int .i64 1)) 3⟩,⟨true,none,some 16,0,.indexAddr 92 (.tmp 13) (.tmp 15)⟩,⟨true,none,some 17,5,.load 5 (.tmp 16)⟩,⟨true,none,some 18,92,.move (.tmp 5)⟩,⟨true,none,some 19,3,.move (.tmp 1)⟩,⟨true,none,some 20,0,.indexAddr 92 (.tmp 18) (.tmp 19)⟩,⟨true,none,some 21,5,.load 5 (.tmp 20)⟩,⟨true,none,some 22,0,.indexAddr 92 (.tmp 8) (.tmp 9)⟩,⟨false,none,none,0,.store 5 (.tmp 22) (.tmp 17)⟩,⟨true,none,some 23,0,.indexAddr 92 (.tmp 10) (.tmp 12)⟩,⟨false,none,none,0,.store 5 (.tmp 23) (.tmp 21)⟩]) (.seq (.ops [⟨false,none,some 24,92,.move (.tmp 5)⟩,⟨false,none,some 25,9,.convert 92 9 (.tmp 24)⟩,⟨false,none,some 4,9,.assign (.tmp 25)⟩]) (.ret))))
theorem text63:textF Tryz.prog 63=some (26,[.tmp 4],mc63):=by kernel_rfl
@[simp] theorem cf8 (w:AW) (l:List Value):callFn Tryz.prog w 8 l=.enter 8 l w:=callFn_enter text8 l
@[simp] theorem cf15 (w:AW) (l:List Value):callFn Tryz.prog w 15 l=.enter 15 l w:=callFn_of (by kernel_rfl) l
@[simp] theorem cf10 (w:AW) (l:List Value):callFn Tryz.prog w 10 l=.enter 10 l w:=callFn_enter text10 l
@[simp] theorem cf12 (w:AW) (l:List Value):callFn Tryz.prog w 12 l=.enter 12 l w:=callFn_of (by kernel_rfl) l
@[simp] theorem cf22 (w:AW) (l:List Value):callFn Tryz.prog w 22 l=.enter 22 l w:=callFn_enter text22 l
@[simp] theorem cf29 (w:AW) (l:List Value):callFn Tryz.prog w 29 l=.enter 29 l w:=callFn_enter text29 l
@[simp] theorem cf30 (w:AW) (l:List Value):callFn Tryz.prog w 30 l=.enter 30 l w:=callFn_enter text30 l
@[simp] theorem cf33 (w:AW) (l:List Value):callFn Tryz.prog w 33 l=.enter 33 l w:=callFn_enter text33 l
@[simp] theorem cf35 (w:AW) (l:List Value):callFn Tryz.prog w 35 l=.enter 35 l w:=callFn_enter text35 l
@[simp] theorem cf36 (w:AW) (l:List Value):callFn Tryz.prog w 36 l=.enter 36 l w:=callFn_of (by kernel_rfl) l
@[simp] theorem cf58 (w:AW) (l:List Value):callFn Tryz.prog w 58 l=.enter 58 l w:=callFn_enter text58 l
@[simp] theorem cf59 (w:AW) (l:List Value):callFn Tryz.prog w 59 l=.enter 59 l w:=callFn_enter text59 l
@[simp] theorem cf60 (w:AW) (l:List Value):callFn Tryz.prog w 60 l=.enter 60 l w:=callFn_enter text60 l
@[simp] theorem cf62 (w:AW) (l:List Value):callFn Tryz.prog w 62 l=.enter 62 l w:=callFn_enter text62 l
@[simp] theorem cf63 (w:AW) (l:List Value):callFn Tryz.prog w 63 l=.enter 63 l w:=callFn_enter text63 l
end Go.Proofs.YtdgllbepplldoaaGreatDoor.walk
namespace Go.Sh
def sumW (f w:Nat→Int):Nat→Int
 | 0=>0
 | n + 1=>sumW f w n + f n * w n
theorem sumW_congr {f g w:Nat→Int}:∀ {n:Nat},(∀ j,j < n→f j=g j)→sumW f w n=sumW g w n
 | 0,_=>rfl
 | n + 1,h=>by
  unfold sumW
  rw [sumW_congr (n:=n) fun j hj=>h j (by omega),h n (by omega)]
theorem sumW_one {f g w:Nat→Int} {i:Nat} (hne:∀ j,j ≠ i→f j=g j):∀ {n:Nat},i < n→sumW f w n=sumW g w n + (f i - g i) * w i
 | 0,h=>absurd h (by omega)
 | n + 1,h=>by
  unfold sumW
  by_cases e:i=n
  ·subst e
   rw [sumW_congr (f:=f) (g:=g) (n:=i) fun j hj=>hne j (by omega),Int.sub_mul]
   omega
  ·rw [sumW_one hne (n:=n) (by omega),hne n (by omega)]
   omega
def pwI (i:Nat):Int:=2 ^ (i + 1)
def cwI (m i:Nat):Int:=if i=m then 36 else pwI i
def codeT (f:Nat→Int) (m:Nat):Int:=sumW f (cwI m) (m + 1)
theorem codeT_eq (f:Nat→Int) (m:Nat):codeT f m=sumW f pwI m + f m * 36:=by
 unfold codeT
 show sumW f (cwI m) m + f m * cwI m m=_
 have:∀ n,n≤m→sumW f (cwI m) n=sumW f pwI n:=by
  intro n
  induction n with
  | zero=>intro _; rfl
  | succ n ih =>
   intro h
   unfold sumW
   rw [ih (by omega)]
   have:cwI m n=pwI n:=by unfold cwI; rw [if_neg (by omega)]
   rw [this]
 rw [this m (Nat.le_refl m)]
 simp [cwI]
theorem code_iff {f:Nat→Int} {m:Nat} (h0:0≤f m) (h1:f m < 37):sumW f pwI m % 37=f m ↔ codeT f m % 37=0:=by
 rw [codeT_eq]
 omega
theorem prime37:∀ a:Fin 37,∀ b:Fin 37,(a.1 * b.1) % 37=0→a.1=0∨b.1=0:=by decide +kernel
theorem prime_mul {d e:Int} (h:(d * e) % 37=0) (he:e % 37 ≠ 0):d % 37=0:=by
 have h1:=Int.emod_nonneg d (show (37:Int) ≠ 0 by decide)
 have h2:=Int.emod_lt_of_pos d (show (0:Int) < 37 by decide)
 have h3:=Int.emod_nonneg e (show (37:Int) ≠ 0 by decide)
 have h4:=Int.emod_lt_of_pos e (show (0:Int) < 37 by decide)
 rw [Int.mul_emod] at h
 obtain ⟨a,ha⟩:=Int.eq_ofNat_of_zero_le h1
 obtain ⟨b,hb⟩:=Int.eq_ofNat_of_zero_le h3
 rw [ha] at h h2 ⊢
 rw [hb] at h h4 he
 have:=prime37 ⟨a,by omega⟩ ⟨b,by omega⟩ (by
  show (a * b) % 37=0
  have:((a * b:Nat):Int) % 37=0:=by rw [Int.natCast_mul]; exact h
  omega)
 rcases this with h | h
 ·simp only at h; omega
 ·simp only at h; omega
theorem cw_ne0:∀ m:Fin 17,∀ i:Fin 17,i.1≤m.1→cwI m.1 i.1 % 37 ≠ 0:=by decide +kernel
theorem cw_ne:∀ m:Fin 17,∀ i:Fin 17,∀ k:Fin 17,i.1≤m.1→k.1≤m.1→i.1 ≠ k.1→(cwI m.1 i.1 - cwI m.1 k.1) % 37 ≠ 0:=by decide +kernel
theorem wrong_one {f g:Nat→Int} {m i:Nat} (hm:m≤16) (hi:i≤m) (hne:∀ j,j ≠ i→f j=g j) (hf0:0≤f i) (hf1:f i < 37) (hg0:0≤g i) (hg1:g i < 37) (h1:codeT f m % 37=0) (h2:codeT g m % 37=0):f i=g i:=by
 have e:=sumW_one (w:=cwI m) hne (n:=m + 1) (by omega)
 unfold codeT at h1 h2
 have:=prime_mul (d:=f i - g i) (e:=cwI m i) (by omega) (cw_ne0 ⟨m,by omega⟩ ⟨i,by omega⟩ hi)
 omega
theorem wrong_two {f g:Nat→Int} {m i k:Nat} (hm:m≤16) (hi:i≤m) (hk:k≤m) (hik:i ≠ k) (hne:∀ j,j ≠ i→j ≠ k→f j=g j) (e1:g i=f k) (e2:g k=f i) (hf0:0≤f i) (hf1:f i < 37) (hg0:0≤f k) (hg1:f k < 37) (h1:codeT f m % 37=0) (h2:codeT g m % 37=0):f i=f k:=by
 have s1:=sumW_one (f:=f) (g:=fun j=>if j=i then g i else f j) (w:=cwI m) (i:=i) (fun j hj=>by simp [hj]) (n:=m + 1) (by omega)
 have s2:=sumW_one (f:=fun j=>if j=i then g i else f j) (g:=g) (w:=cwI m) (i:=k) (fun j hj=>by
  by_cases h:j=i
  ·simp [h]
  ·simp only [h,if_false]; exact hne j h hj) (n:=m + 1) (by omega)
 simp only [if_true,if_neg (Ne.symm hik),e1,e2] at s1 s2
 unfold codeT at h1 h2
 have e:(f i - f k) * (cwI m i - cwI m k)=(f i - f k) * cwI m i + (f k - f i) * cwI m k:=by
  rw [Int.mul_sub,← Int.neg_sub (f i) (f k),Int.neg_mul]; omega
 have:=prime_mul (d:=f i - f k) (e:=cwI m i - cwI m k) (by rw [e]; omega) (cw_ne ⟨m,by omega⟩ ⟨i,by omega⟩ ⟨k,by omega⟩ hi hk hik)
 omega
theorem sumW_mod (f w:Nat→Int) (n:Nat):(sumW f w n % 37 + f n * (w n % 37)) % 37=sumW f w (n + 1) % 37:=by
 show _=(sumW f w n + f n * w n) % 37
 rw [Int.add_emod,Int.emod_emod_of_dvd _ (by decide),Int.mul_emod,Int.emod_emod_of_dvd _ (by decide),← Int.mul_emod,← Int.add_emod]
end Go.Sh
namespace Go.Sh
def sgL:List UInt8:=[97,98,99,100,101,102,103,104,105,106,107,108,109,110,111,112,113,114,115,116,117,118,119,120,121,122,48,49,50,51,52,53,54,55,56,57,45]
def sgV (c:UInt8):Nat:=sgL.idxOf c
def sgB (c:UInt8):Bool:=decide (sgV c < 37)
theorem sgL_len:sgL.length=37:=rfl
theorem sg_at {k:Nat} {c:UInt8} (h:sgL[k]?=some c):sgV c=k:=by
 have key:∀ k:Fin 37,sgV (sgL.getD k.1 0)=k.1:=by decide +kernel
 obtain ⟨hk,e⟩:=List.getElem?_eq_some_iff.1 h
 have:=key ⟨k,hk⟩
 rwa [List.getD_eq_getElem?_getD,h,Option.getD_some] at this
theorem sg_of {c:UInt8} (h:sgB c=true):sgL[sgV c]?=some c:=by
 have hl:sgL.idxOf c < sgL.length:=of_decide_eq_true h
 show sgL[sgL.idxOf c]?=some c
 rw [List.getElem?_eq_getElem hl,List.getElem_idxOf hl]
theorem sg_in {k:Nat} {c:UInt8} (h:sgL[k]?=some c):sgB c=true:=by
 have e:=sg_at h
 have:=(List.getElem?_eq_some_iff.1 h).1
 exact decide_eq_true (by rw [e]; exact this)
theorem sg_none {c:UInt8} (h:∀ k:Nat,sgL[k]? ≠ some c):sgB c=false:=by
 cases hb:sgB c with
 | false=>rfl
 | true=>exact absurd (sg_of hb) (h _)
def vfI (s:List UInt8) (j:Nat):Int:=match s[j]? with | some c=>(sgV c:Int) | none=>0
theorem vf_at {s:List UInt8} {j:Nat} {c:UInt8} (h:s[j]?=some c):vfI s j=(sgV c:Int):=by unfold vfI; rw [h]
def areB (s:List UInt8) (lo hi:Nat):Bool:=(decide (lo≤s.length) && decide (s.length≤hi)) && s.all sgB
def chkN (s:List UInt8):Nat:=(sumW (vfI s) pwI s.length % 37).toNat
def chkS (s:List UInt8):UInt8:=sgL.getD (chkN s) 0
theorem chk_lt (s:List UInt8):chkN s < 37:=by
 have h1:=Int.emod_nonneg (sumW (vfI s) pwI s.length) (show (37:Int) ≠ 0 by decide)
 have h2:=Int.emod_lt_of_pos (sumW (vfI s) pwI s.length) (show (0:Int) < 37 by decide)
 unfold chkN
 omega
theorem chk_at (s:List UInt8):sgL[chkN s]?=some (chkS s):=by
 have:=chk_lt s
 unfold chkS
 rw [List.getD_eq_getElem?_getD,List.getElem?_eq_getElem (by rw [sgL_len]; exact this),Option.getD_some]
def codeB (s:List UInt8):Bool:=areB s 2 17 && decide (s.getLast?=some (chkS s.dropLast))
theorem are_all {s:List UInt8} {lo hi:Nat} (h:areB s lo hi=true):lo≤s.length∧s.length≤hi∧∀ (j:Nat) (c:UInt8),s[j]?=some c→sgB c=true:=by
 simp only [areB,Bool.and_eq_true,decide_eq_true_eq,List.all_eq_true] at h
 exact ⟨h.1.1,h.1.2,fun j c hc=>h.2 c (List.mem_of_getElem? hc)⟩
theorem vf_bd {s:List UInt8} {lo hi:Nat} (h:areB s lo hi=true) {j:Nat} (hj:j < s.length):0≤vfI s j∧vfI s j < 37:=by
 have:=(are_all h).2.2 j _ (List.getElem?_eq_getElem hj)
 rw [vf_at (List.getElem?_eq_getElem hj)]
 have:=of_decide_eq_true this
 omega
theorem code_B {s:List UInt8} (h:areB s 2 17=true):codeB s=true ↔ codeT (vfI s) (s.length - 1) % 37=0:=by
 obtain ⟨h1,h2,h3⟩:=are_all h
 have hm:s.length - 1 < s.length:=by omega
 have hc:=List.getElem?_eq_getElem hm
 obtain ⟨c,hc0⟩:∃ c,c=s[s.length - 1]:=⟨_,rfl⟩
 rw [← hc0] at hc
 have hsc:=h3 _ _ hc
 have hv:vfI s (s.length - 1)=(sgV c:Int):=vf_at hc
 have hb:=vf_bd h hm
 have hd:chkN s.dropLast=(sumW (vfI s) pwI (s.length - 1) % 37).toNat:=by
  unfold chkN
  rw [List.length_dropLast]
  congr 2
  refine sumW_congr fun j hj=>?_
  unfold vfI
  rw [List.getElem?_dropLast,if_pos hj]
 have hn:=Int.emod_nonneg (sumW (vfI s) pwI (s.length - 1)) (show (37:Int) ≠ 0 by decide)
 rw [← code_iff (f:=vfI s) (m:=s.length - 1) hb.1 hb.2,hv]
 unfold codeB
 rw [h,Bool.true_and,decide_eq_true_eq,List.getLast?_eq_getElem?,hc,Option.some.injEq]
 have ha:=chk_at s.dropLast
 constructor
 ·intro e
  rw [← e] at ha
  have:=sg_at ha
  omega
 ·intro e
  have:chkN s.dropLast=sgV c:=by omega
  rw [this,sg_of hsc] at ha
  exact Option.some.inj ha
def repL (s:List UInt8) (i:Nat):List (List UInt8):=(sgL.filter fun c=>decide (s[i]? ≠ some c)).map fun c=>s.set i c
def excL (s:List UInt8) (i:Nat):List (List UInt8):=match s[i]?,s[i + 1]? with
 | some a,some b=>if a=b then [] else [(s.set i b).set (i + 1) a]
 | _,_=>[]
def fltL (s:List UInt8):List (List UInt8):=(List.range s.length).flatMap (repL s)++(List.range (s.length - 1)).flatMap (excL s)
def nearU (s:List UInt8):List (List UInt8):=(fltL s).filter codeB
structure Rep (s:List UInt8) (i:Nat) (x:List UInt8):Prop where
 lt:i < s.length
 ex:∃ c,sgB c=true∧s[i]? ≠ some c∧x=s.set i c
structure Exc (s:List UInt8) (i:Nat) (x:List UInt8):Prop where
 lt:i + 1 < s.length
 ex:∃ a b,s[i]?=some a∧s[i + 1]?=some b∧a ≠ b∧x=(s.set i b).set (i + 1) a
theorem rep_mem {s:List UInt8} {i:Nat} {x:List UInt8} (hi:i < s.length):x ∈ repL s i ↔ Rep s i x:=by
 unfold repL
 rw [List.mem_map]
 constructor
 ·rintro ⟨c,hc,rfl⟩
  obtain ⟨h1,h2⟩:=List.mem_filter.1 hc
  obtain ⟨k,hk⟩:=List.getElem?_of_mem h1
  exact ⟨hi,c,sg_in hk,of_decide_eq_true h2,rfl⟩
 ·rintro ⟨_,c,h1,h2,rfl⟩
  exact ⟨c,List.mem_filter.2 ⟨List.mem_of_getElem? (sg_of h1),decide_eq_true h2⟩,rfl⟩
theorem exc_mem {s:List UInt8} {i:Nat} {x:List UInt8} (hi:i + 1 < s.length):x ∈ excL s i ↔ Exc s i x:=by
 unfold excL
 rw [List.getElem?_eq_getElem (show i < s.length by omega),List.getElem?_eq_getElem hi]
 simp only
 by_cases e:s[i]=s[i + 1]
 ·rw [if_pos e]
  constructor
  ·intro h; cases h
  ·rintro ⟨_,a,b,h1,h2,h3,_⟩
   rw [List.getElem?_eq_getElem (show i < s.length by omega)] at h1
   rw [List.getElem?_eq_getElem hi] at h2
   cases h1; cases h2
   exact absurd e h3
 ·rw [if_neg e,List.mem_singleton]
  constructor
  ·rintro rfl
   exact ⟨hi,_,_,List.getElem?_eq_getElem _,List.getElem?_eq_getElem _,e,rfl⟩
  ·rintro ⟨_,a,b,h1,h2,h3,rfl⟩
   rw [List.getElem?_eq_getElem (show i < s.length by omega)] at h1
   rw [List.getElem?_eq_getElem hi] at h2
   cases h1; cases h2
   rfl
theorem flt_mem {s x:List UInt8}:x ∈ fltL s ↔ (∃ i,Rep s i x)∨∃ i,Exc s i x:=by
 unfold fltL
 rw [List.mem_append,List.mem_flatMap,List.mem_flatMap]
 constructor
 ·rintro (⟨i,hi,h⟩ | ⟨i,hi,h⟩)
  ·have hi:=List.mem_range.1 hi
   exact .inl ⟨i,(rep_mem hi).1 h⟩
  ·have hi:=List.mem_range.1 hi
   exact .inr ⟨i,(exc_mem (by omega)).1 h⟩
 ·rintro (⟨i,h⟩ | ⟨i,h⟩)
  ·exact .inl ⟨i,List.mem_range.2 h.lt,(rep_mem h.lt).2 h⟩
  ·exact .inr ⟨i,List.mem_range.2 (by have:=h.lt; omega),(exc_mem h.lt).2 h⟩
theorem Rep.at_ {s x:List UInt8} {i:Nat} (h:Rep s i x):x.length=s.length∧x[i]? ≠ s[i]?∧∀ k:Nat,k ≠ i→x[k]?=s[k]?:=by
 obtain ⟨hi,c,_,h2,rfl⟩:=h
 refine ⟨List.length_set,?_,fun k hk=>List.getElem?_set_ne (Ne.symm hk)⟩
 rw [List.getElem?_set_self hi]
 exact Ne.symm h2
theorem Exc.at_ {s x:List UInt8} {i:Nat} (h:Exc s i x):x.length=s.length∧x[i]?=s[i + 1]?∧x[i + 1]?=s[i]?∧x[i]? ≠ s[i]?∧x[i + 1]? ≠ s[i + 1]?∧∀ k:Nat,k ≠ i→k ≠ i + 1→x[k]?=s[k]?:=by
 obtain ⟨hi,a,b,h1,h2,h3,rfl⟩:=h
 have e1:((s.set i b).set (i + 1) a)[i]?=some b:=by
  rw [List.getElem?_set_ne (by omega),List.getElem?_set_self (by omega)]
 have e2:((s.set i b).set (i + 1) a)[i + 1]?=some a:=by
  rw [List.getElem?_set_self (by rw [List.length_set]; exact hi)]
 refine ⟨by rw [List.length_set,List.length_set],by rw [e1,h2],by rw [e2,h1],?_,?_,fun k hk hk'=>?_⟩
 ·rw [e1,h1]; intro e; exact h3 (Option.some.inj e).symm
 ·rw [e2,h2]; intro e; exact h3 (Option.some.inj e)
 ·rw [List.getElem?_set_ne (Ne.symm hk'),List.getElem?_set_ne (Ne.symm hk)]
theorem near_code {s:List UInt8} (h:codeB s=true):nearU s=[]:=by
 have hs:areB s 2 17=true:=by unfold codeB at h; exact (Bool.and_eq_true _ _ ▸ h).1
 obtain ⟨l1,l2,_⟩:=are_all hs
 have hc:=(code_B hs).1 h
 unfold nearU
 rw [List.filter_eq_nil_iff]
 intro x hx hxc
 have hxs:areB x 2 17=true:=by unfold codeB at hxc; exact (Bool.and_eq_true _ _ ▸ hxc).1
 have hxt:=(code_B hxs).1 hxc
 rcases flt_mem.1 hx with ⟨i,hr⟩ | ⟨i,he⟩
 ·obtain ⟨e0,e1,e2⟩:=hr.at_
  have hi:=hr.lt
  rw [e0] at hxt
  have:=wrong_one (f:=vfI s) (g:=vfI x) (m:=s.length - 1) (i:=i) (by omega) (by omega) (fun j hj=>by unfold vfI; rw [e2 j hj]) (vf_bd hs hi).1 (vf_bd hs hi).2 (vf_bd hxs (by omega)).1 (vf_bd hxs (by omega)).2 hc hxt
  have c1:=List.getElem?_eq_getElem hi
  have c2:=List.getElem?_eq_getElem (l:=x) (i:=i) (by omega)
  rw [vf_at c1,vf_at c2] at this
  have k1:=sg_of ((are_all hs).2.2 _ _ c1)
  have k2:=sg_of ((are_all hxs).2.2 _ _ c2)
  have e3:sgV s[i]=sgV x[i]:=by omega
  rw [e3,k2] at k1
  rw [c1,c2] at e1
  exact e1 k1
 ·obtain ⟨e0,e1,e2,e3,e4,e5⟩:=he.at_
  have hi:=he.lt
  rw [e0] at hxt
  have:=wrong_two (f:=vfI s) (g:=vfI x) (m:=s.length - 1) (i:=i) (k:=i + 1) (by omega) (by omega) (by omega) (by omega) (fun j hj hj'=>by unfold vfI; rw [e5 j hj hj']) (by unfold vfI; rw [e1]) (by unfold vfI; rw [e2]) (vf_bd hs (by omega)).1 (vf_bd hs (by omega)).2 (vf_bd hs hi).1 (vf_bd hs hi).2 hc hxt
  have c1:=List.getElem?_eq_getElem (l:=s) (i:=i) (by omega)
  have c2:=List.getElem?_eq_getElem hi
  rw [vf_at c1,vf_at c2] at this
  have k1:=sg_of ((are_all hs).2.2 _ _ c1)
  have k2:=sg_of ((are_all hs).2.2 _ _ c2)
  have e6:sgV s[i]=sgV s[i + 1]:=by omega
  rw [e6,k2] at k1
  rw [e1,c1,c2] at e3
  exact e3 k1
theorem pair_flat {α β:Type} {R:β→β→Prop} {f:α→List β}:∀ {l:List α},(∀ a ∈ l,(f a).Pairwise R)→l.Pairwise (fun a b=>∀ x ∈ f a,∀ y ∈ f b,R x y)→(l.flatMap f).Pairwise R
 | [],_,_=>.nil
 | a::l,h1,h2=>by
  obtain ⟨h3,h4⟩:=List.pairwise_cons.1 h2
  rw [List.flatMap_cons,List.pairwise_append]
  refine ⟨h1 a (.head _),pair_flat (fun b hb=>h1 b (.tail _ hb)) h4,fun x hx y hy=>?_⟩
  obtain ⟨b,hb,hy⟩:=List.mem_flatMap.1 hy
  exact h3 b hb x hx y hy
theorem flt_nodup (s:List UInt8):(fltL s).Nodup:=by
 have hr:∀ n,(List.range n).Pairwise (· < ·):=fun n=>List.pairwise_lt_range
 have hsg:sgL.Pairwise (· ≠ ·):=by decide +kernel
 unfold fltL
 rw [List.Nodup,List.pairwise_append]
 refine ⟨pair_flat (fun i hi=>?_) ?_,pair_flat (fun i hi=>?_) ?_,?_⟩
 ·have hi:=List.mem_range.1 hi
  unfold repL
  rw [List.pairwise_map]
  refine (hsg.filter _).imp fun {a b} hab e=>hab ?_
  have h1:=congrArg (fun l:List UInt8=>l[i]?) e
  simp only [List.getElem?_set_self hi,Option.some.injEq] at h1
  exact h1
 ·refine (List.Pairwise.and_mem.1 (hr _)).imp fun {i j} h=>?_
  obtain ⟨hi,hj,hij⟩:=h
  have hi:=List.mem_range.1 hi
  have hj:=List.mem_range.1 hj
  intro x hx y hy e
  subst e
  have a:=((rep_mem hi).1 hx).at_
  have b:=((rep_mem hj).1 hy).at_
  exact a.2.1 (b.2.2 i (by omega))
 ·have hi:=List.mem_range.1 hi
  unfold excL
  split
  ·split
   ·exact .nil
   ·exact List.pairwise_singleton _ _
  ·exact .nil
 ·refine (List.Pairwise.and_mem.1 (hr _)).imp fun {i j} h=>?_
  obtain ⟨hi,hj,hij⟩:=h
  have hi:=List.mem_range.1 hi
  have hj:=List.mem_range.1 hj
  intro x hx y hy e
  subst e
  have a:=((exc_mem (show i + 1 < s.length by omega)).1 hx).at_
  have b:=((exc_mem (show j + 1 < s.length by omega)).1 hy).at_
  exact a.2.2.2.1 (b.2.2.2.2.2 i (by omega) (by omega))
 ·intro x hx y hy e
  subst e
  obtain ⟨i,hi,hx⟩:=List.mem_flatMap.1 hx
  obtain ⟨j,hj,hy⟩:=List.mem_flatMap.1 hy
  have hi:=List.mem_range.1 hi
  have hj:=List.mem_range.1 hj
  have a:=((rep_mem hi).1 hx).at_
  have b:=((exc_mem (show j + 1 < s.length by omega)).1 hy).at_
  by_cases e:i=j
  ·exact b.2.2.2.2.1 (a.2.2 (j + 1) (by omega))
  ·exact b.2.2.2.1 (a.2.2 j (by omega))
end Go.Sh
namespace Go.Sh
open Go
variable {P:Program}
structure PSpec where
 R:List Value→AW→Value→Prop
 uniq:∀ {args w v v'},R args w v→R args w v'→v=v'
 shut:∀ {args w v},R args w v→R args (shutA w) v
open Classical in
noncomputable def PSpec.F (S:PSpec):PureF:=fun args w=>if h:∃ v,S.R args w v then some h.choose else none
theorem PSpec.F_eq (S:PSpec) {args:List Value} {w:AW} {v:Value} (h:S.R args w v):S.F args w=some v:=by
 have hx:∃ v,S.R args w v:=⟨v,h⟩
 unfold PSpec.F
 rw [dif_pos hx]
 exact congrArg some (S.uniq hx.choose_spec h)
theorem PSpec.of_F (S:PSpec) {args:List Value} {w:AW} {v:Value} (h:S.F args w=some v):S.R args w v:=by
 unfold PSpec.F at h
 by_cases hx:∃ v,S.R args w v
 ·rw [dif_pos hx] at h
  cases h
  exact hx.choose_spec
 ·rw [dif_neg hx] at h; cases h
theorem PSpec.call (S:PSpec) {ov:Ov} {f:FuncId} (k:HasP ov f S.F) {m:Nat} {args:List Value} {w:AW} {v:Value} (h:S.R args w v):(run P ov (m + 1)).call f args w .none=.ok (.ret v) w .none:=k.call (S.F_eq h)
theorem PSpec.ok (S:PSpec) (hP:NoCount P) (hm:P.follows .mixedOrders=true) {rest:Ov} (hO:OvOk P rest) {f:FuncId}
  (fact:∀ args w v,w.lim=w.next→S.R args w v→groundC 3 v=true∧∃ m v' w' x',(run P rest m).call f args w .none=.ok (.ret v') w' x'∧v'=v):OvOk P (ovP f S.F rest) :=
 pure_ok hP hm hO (fun args w v h=>S.F_eq (S.shut (S.of_F h))) fun args w v hl h=>by
  obtain ⟨h1,m,v',w',x',h2,rfl⟩:=fact args w v hl (S.of_F h)
  exact ⟨h1,m,w',x',h2⟩
structure Up (we w:AW):Prop where
 old:Old we.next we.heap w.heap
 next:we.next≤w.next
 lim:w.lim=we.lim
theorem Up.refl (w:AW):Up w w:=⟨Old.refl _ _,Nat.le_refl _,rfl⟩
theorem Up.trans {a b c:AW} (h:Up a b) (k:Up b c):Up a c:=⟨h.old.trans k.old h.next,Nat.le_trans h.next k.next,k.lim.trans h.lim⟩
theorem Up.put {we:AW} {H:T AObj} {n n' l k:Nat} {o:Option AObj} (h:Up we ⟨H,n,l⟩) (hk:we.next≤k) (hn:n≤n'):Up we ⟨H.put k o,n',l⟩:=⟨h.old.put hk,Nat.le_trans h.next hn,h.lim⟩
theorem Up.add {we w:AW} (h:Up we w) (o:Option AObj):Up we ⟨w.heap.put w.next o,w.next + 1,w.lim⟩:=⟨h.old.put h.next,Nat.le_trans h.next (Nat.le_succ _),h.lim⟩
theorem Up.at {we w:AW} (h:Up we w) {b:Nat} (hb:b < we.next):w.heap.get b=we.heap.get b:=h.old b hb
theorem RowsV.up {α:Type} {f:α→List Value} {we w:AW} {v:Value} {l:List α} (h:RowsV f we v l) (k:Up we w):RowsV f w v l:=h.old k.old k.next
variable {w:AW}
end Go.Sh
namespace Go.Sh
open Go
variable {α:Type}
theorem AccR.push2 {P:Program} {st e:TypeId} {sz:Nat} {f:α→List Value} (h0:isList P st=true) (h1:elemA P st=some e) (h2:szOf P e=some sz) (h3:smallT P e=true) (hf:∀ a,(f a).length=sz) (hs:∀ a,singles (f a)=true) (hz:0 < sz)
  {n0:Nat} {w:AW} {v:Value} {acc:List α} (h:AccR f e n0 w v acc) (hl:w.lim≤n0) (hn:n0 < w.next) (hlen:acc.length≤90000) (y:α) :
  ∃ v' w',append1 P ⟨w.heap.put w.next (some (.cells (f y) e false)),w.next + 1,w.lim⟩ [st,st] [v,.slice (some ⟨w.next,0,some 2⟩) 1 1]=.val v' w'∧AccR f e n0 w' v' (acc++[y])∧(∀ x,x≤n0→w'.heap.get x=w.heap.get x)∧w.next≤w'.next∧w'.lim=w.lim:=by
 have hsrc:srcCells ⟨w.heap.put w.next (some (.cells (f y) e false)),w.next + 1,w.lim⟩ sz (.slice (some ⟨w.next,0,some 2⟩) 1 1)=some (f y):=src_row (e':=e) (ro:=false) (k:=1) (by simp) (by simp [hf]) (by decide) hz
 rcases h with ⟨rfl,rfl⟩ | ⟨B,rfl,hB,k1,k2,_⟩
 ·refine ⟨_,_,append_nil h0 h1 h2 h3 (m:=1) rfl hsrc (by simp [hf]) (by decide) (by decide),.inr ⟨_,rfl,?_,?_,?_,by simp⟩,fun x hx=>?_,?_,rfl⟩
  ·simp
  ·show n0 < w.next + 1; omega
  ·exact Nat.lt_succ_self _
  ·show ((w.heap.put w.next _).put (w.next + 1) _).get x=_
   rw [get_put,if_neg (by omega),get_put,if_neg (by omega)]
  ·show w.next≤w.next + 1 + 1; omega
 ·have hB':(w.heap.put w.next (some (.cells (f y) e false))).get B=some (.cells (acc.flatMap f) e false):=by rw [get_put,if_neg (by omega)]; exact hB
  refine ⟨_,_,append_full h0 h1 h2 h3 (n:=acc.length) (m:=1) (c:=acc.flatMap f) rfl hsrc (by simp [hf]) (hs y) (by decide) (by omega) hB' (flat_length hf acc) (by show w.lim≤B; omega),.inr ⟨w.next + 1,?_,?_,?_,?_,by simp⟩,fun x hx=>?_,?_,rfl⟩
  ·simp
  ·show (((w.heap.put w.next _).put B none).put (w.next + 1) _).get (w.next + 1)=_
   rw [get_put,if_pos rfl]; simp
  ·omega
  ·exact Nat.lt_succ_self _
  ·show (((w.heap.put w.next _).put B none).put (w.next + 1) _).get x=_
   rw [get_put,if_neg (by omega),get_put,if_neg (by omega),get_put,if_neg (by omega)]
  ·show w.next≤w.next + 1 + 1; omega
theorem AccQ.push2 {P:Program} {st e:TypeId} {sz:Nat} {f:α→List Value} (h0:isList P st=true) (h1:elemA P st=some e) (h2:szOf P e=some sz) (h3:smallT P e=true) (hf:∀ a,(f a).length=sz) (hs:∀ a,singles (f a)=true) (hz:0 < sz)
  {n0:Nat} {w:AW} {v:Value} {acc:List α} {B:Nat} (h:AccQ f e n0 w v acc B) (hl:w.lim≤n0) (hn:n0 < w.next) (hlen:acc.length≤90000) (y:α) :
  ∃ v' w',append1 P ⟨w.heap.put w.next (some (.cells (f y) e false)),w.next + 1,w.lim⟩ [st,st] [v,.slice (some ⟨w.next,0,some 2⟩) 1 1]=.val v' w'∧(∃ B',w.next≤B'∧AccQ f e n0 w' v' (acc++[y]) B')∧(∀ x,x < w.next→(acc ≠ []→x ≠ B)→w'.heap.get x=w.heap.get x)∧w.next≤w'.next∧w'.lim=w.lim:=by
 have hsrc:srcCells ⟨w.heap.put w.next (some (.cells (f y) e false)),w.next + 1,w.lim⟩ sz (.slice (some ⟨w.next,0,some 2⟩) 1 1)=some (f y):=src_row (e':=e) (ro:=false) (k:=1) (by simp) (by simp [hf]) (by decide) hz
 rcases h with ⟨rfl,rfl⟩ | ⟨rfl,hB,k1,k2,k3⟩
 ·refine ⟨_,_,append_nil h0 h1 h2 h3 (m:=1) rfl hsrc (by simp [hf]) (by decide) (by decide),⟨w.next + 1,Nat.le_succ _,.inr ⟨rfl,?_,?_,?_,by simp⟩⟩,fun x hx _=>?_,?_,rfl⟩
  ·simp
  ·show n0 < w.next + 1; omega
  ·exact Nat.lt_succ_self _
  ·show ((w.heap.put w.next _).put (w.next + 1) _).get x=_
   rw [get_put,if_neg (by omega),get_put,if_neg (by omega)]
  ·show w.next≤w.next + 1 + 1; omega
 ·have hB':(w.heap.put w.next (some (.cells (f y) e false))).get B=some (.cells (acc.flatMap f) e false):=by rw [get_put,if_neg (by omega)]; exact hB
  refine ⟨_,_,append_full h0 h1 h2 h3 (n:=acc.length) (m:=1) (c:=acc.flatMap f) rfl hsrc (by simp [hf]) (hs y) (by decide) (by omega) hB' (flat_length hf acc) (by show w.lim≤B; omega),⟨w.next + 1,Nat.le_succ _,.inr ⟨?_,?_,?_,?_,by simp⟩⟩,fun x hx hne=>?_,?_,rfl⟩
  ·simp
  ·show (((w.heap.put w.next _).put B none).put (w.next + 1) _).get (w.next + 1)=_
   rw [get_put,if_pos rfl]; simp
  ·show n0 < w.next + 1; omega
  ·exact Nat.lt_succ_self _
  ·have:=hne k3
   show (((w.heap.put w.next _).put B none).put (w.next + 1) _).get x=_
   rw [get_put,if_neg (by omega),get_put,if_neg (by omega),get_put,if_neg (by omega)]
  ·show w.next≤w.next + 1 + 1; omega
section
variable {P:Program}
end
end Go.Sh
namespace Go.Sh
open Go
section
variable {P:Program}
theorem append_copy {st e:TypeId} {sz:Nat} (h0:isList P st=true) (h1:elemA P st=some e) (h2:szOf P e=some sz) (h3:smallT P e=true) {w:AW} {B n m:Nat} {c new:List Value} {x:Value} (h4:lenA x=some m) (h5:srcCells w sz x=some new) (hl:new.length=m * sz) (hm:0 < m) (hnm:n + m≤100000)
  (hg:srcCells w sz (.slice (some ⟨B,0,some 2⟩) n n)=some c) (hc:c.length=n * sz) :
  append1 P w [st,st] [.slice (some ⟨B,0,some 2⟩) n n,x]=.val (.slice (some ⟨w.next,0,none⟩) (n + m) (n + m)) ⟨w.heap.put w.next (some (.cells (c++new) e false)),w.next + 1,w.lim⟩:=by
 rw [append_eq h0 h1 h2 h3,h4,h5]
 have e1:Nat.ble (n + m) 1000000=true:=Nat.ble_eq_true_of_le (by omega)
 have e2:Nat.beq (lenL new 0) (m * sz)=true:=by rw [lenL0,hl]; exact Nat.beq_refl _
 have e3:Nat.beq m 0=false:=by rw [← Bool.not_eq_true]; intro h; have:=Nat.eq_of_beq_eq_true h; omega
 have e4:Nat.ble (n + m) n=false:=by rw [← Bool.not_eq_true]; intro h; have:=Nat.le_of_ble_eq_true h; omega
 have e6:isExact (some 2)=true:=rfl
 simp only [e1,e2,Bool.and_self,cond_true,appendB,e3,cond_false,e4,hg,e6,appendCopy]
 have e7:Nat.beq (lenL c 0) (n * sz)=true:=by rw [lenL0,hc]; exact Nat.beq_refl _
 simp [e7,newR,AW.add,rowV,appL_eq]
end
variable {α:Type}
def LitQ (f:α→List Value) (e:TypeId) (n0:Nat) (w:AW) (v:Value) (acc:List α) (B:Nat):Prop :=
 acc ≠ []∧w.heap.get B=some (.cells (acc.flatMap f) e false)∧B < w.next∧(v=.slice (some ⟨B,0,some 2⟩) acc.length acc.length∨(v=.slice (some ⟨B,0,none⟩) acc.length acc.length∧n0 < B))
theorem LitQ.keep {f:α→List Value} {e:TypeId} {n0:Nat} {w w':AW} {v:Value} {acc:List α} {B:Nat} (h:LitQ f e n0 w v acc B) (k:w'.heap.get B=w.heap.get B) (hn:w.next≤w'.next):LitQ f e n0 w' v acc B:=by
 obtain ⟨h1,h2,h3,h4⟩:=h
 exact ⟨h1,by rw [k]; exact h2,by omega,h4⟩
theorem LitQ.rows {f:α→List Value} {e:TypeId} {n0:Nat} {w:AW} {v:Value} {acc:List α} {B:Nat} (h:LitQ f e n0 w v acc B):RowsV f w v acc:=by
 obtain ⟨h1,h2,h3,h4⟩:=h
 rcases h4 with rfl | ⟨rfl,_⟩
 ·exact .inr ⟨B,0,_,_,rfl,⟨[],[],e,false,by simpa using h2,rfl⟩,h3⟩
 ·exact .inr ⟨B,0,_,_,rfl,⟨[],[],e,false,by simpa using h2,rfl⟩,h3⟩
theorem LitQ.ok {f:α→List Value} {e:TypeId} {n0:Nat} {w:AW} {v:Value} {acc:List α} {B:Nat} (h:LitQ f e n0 w v acc B):notJunk v=some v:=by
 obtain ⟨_,_,_,rfl | ⟨rfl,_⟩⟩:=h <;> rfl
theorem LitQ.slice {f:α→List Value} {e:TypeId} {n0:Nat} {w:AW} {v:Value} {acc:List α} {B:Nat} (h:LitQ f e n0 w v acc B):∃ sq,v=.slice (some ⟨B,0,sq⟩) acc.length acc.length:=by
 obtain ⟨_,_,_,rfl | ⟨rfl,_⟩⟩:=h <;> exact ⟨_,rfl⟩
theorem LitQ.push2 {P:Program} {st e:TypeId} {sz:Nat} {f:α→List Value} (h0:isList P st=true) (h1:elemA P st=some e) (h2:szOf P e=some sz) (h3:smallT P e=true) (hf:∀ a,(f a).length=sz) (hs:∀ a,singles (f a)=true) (hz:0 < sz)
  {n0:Nat} {w:AW} {v:Value} {acc:List α} {B:Nat} (h:LitQ f e n0 w v acc B) (hl:w.lim≤n0) (hn:n0 < w.next) (hlen:acc.length≤90000) (y:α) :
  ∃ v' w',append1 P ⟨w.heap.put w.next (some (.cells (f y) e false)),w.next + 1,w.lim⟩ [st,st] [v,.slice (some ⟨w.next,0,some 2⟩) 1 1]=.val v' w'∧(∃ B',w.next≤B'∧LitQ f e n0 w' v' (acc++[y]) B')∧(∀ x,x < w.next→(n0 < B→x ≠ B)→w'.heap.get x=w.heap.get x)∧w.next≤w'.next∧w'.lim=w.lim:=by
 have hsrc:srcCells ⟨w.heap.put w.next (some (.cells (f y) e false)),w.next + 1,w.lim⟩ sz (.slice (some ⟨w.next,0,some 2⟩) 1 1)=some (f y):=src_row (e':=e) (ro:=false) (k:=1) (by simp) (by simp [hf]) (by decide) hz
 obtain ⟨k1,k2,k3,k4⟩:=h
 have hp:0 < acc.length:=List.length_pos_iff.2 k1
 have hB':(w.heap.put w.next (some (.cells (f y) e false))).get B=some (.cells (acc.flatMap f) e false):=by rw [get_put,if_neg (by omega)]; exact k2
 rcases k4 with rfl | ⟨rfl,k4⟩
 ·have hg:srcCells ⟨w.heap.put w.next (some (.cells (f y) e false)),w.next + 1,w.lim⟩ sz (.slice (some ⟨B,0,some 2⟩) acc.length acc.length)=some (acc.flatMap f):=src_row (e':=e) (ro:=false) (k:=acc.length) hB' (flat_length hf acc) hp hz
  refine ⟨_,_,append_copy h0 h1 h2 h3 (n:=acc.length) (m:=1) (c:=acc.flatMap f) rfl hsrc (by simp [hf]) (by decide) (by omega) hg (flat_length hf acc),⟨w.next + 1,Nat.le_succ _,by simp,?_,Nat.lt_succ_self _,.inr ⟨by simp,by show n0 < w.next + 1; omega⟩⟩,fun x hx _=>?_,?_,rfl⟩
  ·simp
  ·show ((w.heap.put w.next _).put (w.next + 1) _).get x=_
   rw [get_put,if_neg (by omega),get_put,if_neg (by omega)]
  ·show w.next≤w.next + 1 + 1; omega
 ·refine ⟨_,_,append_full h0 h1 h2 h3 (n:=acc.length) (m:=1) (c:=acc.flatMap f) rfl hsrc (by simp [hf]) (hs y) (by decide) (by omega) hB' (flat_length hf acc) (by show w.lim≤B; omega),⟨w.next + 1,Nat.le_succ _,by simp,?_,Nat.lt_succ_self _,.inr ⟨by simp,by show n0 < w.next + 1; omega⟩⟩,fun x hx hne=>?_,?_,rfl⟩
  ·simp
  ·have:=hne k4
   show (((w.heap.put w.next _).put B none).put (w.next + 1) _).get x=_
   rw [get_put,if_neg (by omega),get_put,if_neg (by omega),get_put,if_neg (by omega)]
  ·show w.next≤w.next + 1 + 1; omega
end Go.Sh
namespace Go.Proofs.YtdgllbepplldoaaGreatDoor.walk
open Go Go.Sh
set_option maxRecDepth 100000
def bV (c:UInt8):Value:=.int .u8 (c.toNat:Int)
def sgC:List Value:=sgL.map bV
theorem sgC_len:sgC.length=37:=rfl
theorem sgC_at {i:Nat} {c:UInt8} (h:sgL[i]?=some c):sgC[i]?=some (bV c):=by unfold sgC; rw [List.getElem?_map,h]; rfl
def SgAt (w:AW):Prop:=∃ ty ro,w.heap.get 0=some (.cells sgC ty ro)
theorem SgAt.up {w w':AW} (h:SgAt w) (u:Up w w') (h0:0 < w.next):SgAt w':=by
 obtain ⟨ty,ro,g⟩:=h
 exact ⟨ty,ro,by rw [u.at h0]; exact g⟩
theorem arr96:arrN Tryz.prog 96=some (37,5):=by kernel_rfl
theorem size5:szOf Tryz.prog 5=some 1:=by kernel_rfl
theorem ia96 (w:AW) (a:Addr) (k:IntKind) {i:Nat} (h:i < 37):indexAddrA Tryz.prog w 96 (.pointer (some a)) (.int k (i:Int))=.val (.pointer (some (a.add i))) w:=by
 show indexAddrC Tryz.prog w 96 (.pointer (some a)) (Int.ofNat i)=_
 have h1:Nat.blt i 37=true:=by simpa [Nat.blt_eq] using h
 unfold indexAddrC
 simp only [arr96]
 show (bif Nat.ble 37 1 then R.fail else indexAddrB Tryz.prog w a 37 5 (Int.ofNat i))=_
 have h2:Nat.ble 37 1=false:=rfl
 rw [h2]
 simp [indexAddrB,idxIn,h1,size5]
theorem arrp5 (cs:List Value) (i:Nat) (v:Value) (h:cs[i]?=some v):partA Tryz.prog 5 cs i=some v:=by
 have h1:aggOf Tryz.prog 5=some false:=by kernel_rfl
 unfold partA
 simp [h1,nth_eq,h]
theorem ix96 (w:AW) (k:IntKind) {i:Nat} {c:UInt8} (h:sgL[i]?=some c):indexA Tryz.prog w 96 (.agg ⟨sgC⟩) (.int k (i:Int))=.val (bV c) w:=by
 show indexArr Tryz.prog w 96 sgC (Int.ofNat i)=_
 have hi:i < 37:=(List.getElem?_eq_some_iff.1 h).1
 have h1:Nat.blt i 37=true:=by simpa [Nat.blt_eq] using hi
 unfold indexArr
 simp [arr96,idxIn,h1,size5,arrp5 _ _ _ (sgC_at h)]
theorem ld_sg {w:AW} (h:SgAt w):aggM (rdO (w.heap.get 0) 0 37)=some (.agg ⟨sgC⟩):=by
 obtain ⟨ty,ro,g⟩:=h
 rw [g,rdO_cells,if_pos (by rw [sgC_len]; omega)]
 rfl
theorem byte_eq {c d:UInt8}:((c.toNat:Int)=(d.toNat:Int)) ↔ c=d:=⟨fun h=>UInt8.toNat_inj.1 (by omega),fun h=>by rw [h]⟩
def vN (c:UInt8):Nat:=if sgB c then sgV c else 0
theorem run58 {ov:Ov} (ho:∀ args w,ov 58 args w=none) (m:Nat) (n a b:Int) (w:AW):(run Tryz.prog ov (m + 1)).call 58 [.int .i64 n,.int .i64 a,.int .i64 b] w .none=.ok (.ret (.bool (decide (a≤n) && decide (n≤b)))) w .none:=by
 have key:∃ v w',(run Tryz.prog ov (m + 1)).call 58 [.int .i64 n,.int .i64 a,.int .i64 b] w .none=.ok (.ret v) w' .none∧v=.bool (decide (a≤n) && decide (n≤b))∧w'=w:=by
  refine call_wp text58 (by simp) (ho _ _) ?_
  by_cases h1:a≤n <;> simp [mc58,h1,tupV]
 obtain ⟨v,w',h,rfl,rfl⟩:=key
 exact h
theorem run59 {ov:Ov} (ho:∀ args w,ov 59 args w=none) (m:Nat) (c:UInt8) (w:AW) (hs:SgAt w):(run Tryz.prog ov (m + 1)).call 59 [.int .u8 (c.toNat:Int)] w .none=.ok (.ret (.tuple ⟨[.int .i64 (vN c:Int),.bool (sgB c)]⟩)) w .none:=by
 have key:∃ v w',(run Tryz.prog ov (m + 1)).call 59 [.int .u8 (c.toNat:Int)] w .none=.ok (.ret v) w' .none∧v=.tuple ⟨[.int .i64 (vN c:Int),.bool (sgB c)]⟩∧w'=w:=by
  refine call_wp text59 (by simp) (ho _ _) ?_
  have hg:=ld_sg hs
  simp [mc59,hg]
  refine wp_seqX (wp_blockX (wp_rounds (fun i t w'=>w'=w∧tget t 0=.int .u8 (c.toNat:Int)∧tget t 6=.agg ⟨sgC⟩∧tget t 7=.int .i64 (i:Nat)∧i≤37∧∀ j,j < i→sgL[j]? ≠ some c) 100 (by decide) ?_ ?_))
  ·simp
  ·rintro i t w' ⟨rfl,t0,t6,t7,hi,hno⟩
   by_cases hlt:i < 37
   ·obtain ⟨d,hd⟩:∃ d,sgL[i]?=some d:=⟨_,List.getElem?_eq_getElem hlt⟩
    have hix:=fun w k=>ix96 w k hd
    have hlt':(i:Int) < 37:=by omega
    have hw:IntKind.wrap .i64 ((i:Int) + 1)=(i:Int) + 1:=wrap64_in (by omega) (by omega)
    by_cases hc:d=c
    ·subst hc
     have e1:vN d=i:=by unfold vN; rw [if_pos (sg_in hd),sg_at hd]
     have e2:=sg_in hd
     simp [mc59_l0,t0,t6,t7,hlt',hix,bV,tupV,e1,e2]
    ·have hne:¬ ((d.toNat:Int)=(c.toNat:Int)):=fun h=>hc (byte_eq.1 h)
     simp [mc59_l0,t0,t6,t7,hlt',hix,bV,hne,hw]
     refine ⟨by omega,by omega,fun j hj=>?_⟩
     by_cases e:j=i
     ·subst e; rw [hd]; intro h; exact hc (Option.some.inj h)
     ·exact hno j (by omega)
   ·have hi':i=37:=by omega
    subst hi'
    have e2:sgB c=false:=sg_none fun k=>by
     by_cases hk:k < 37
     ·exact hno k hk
     ·rw [List.getElem?_eq_none (by rw [sgL_len]; omega)]; intro h; cases h
    have e1:vN c=0:=by unfold vN; rw [e2]; rfl
    simp [mc59_l0,t0,t6,t7,tupV,e1,e2]
 obtain ⟨v,w',h,rfl,rfl⟩:=key
 exact h
theorem all_take {p:UInt8→Bool} {L:List UInt8} {i:Nat} {c:UInt8} (hc:L[i]?=some c):(L.take (i + 1)).all p=((L.take i).all p && p c):=by
 rw [List.take_add_one,hc]; simp
theorem run29 {ov:Ov} (h58:∀ args w,ov 58 args w=none) (h59:∀ args w,ov 59 args w=none) (ho:∀ args w,ov 29 args w=none) (m:Nat) (s:ByteArray) (lo hi:Nat) (hh:hi≤1000) (w:AW) (hs:SgAt w):(run Tryz.prog ov (m + 2)).call 29 [.string s,.int .i64 (lo:Int),.int .i64 (hi:Int)] w .none=.ok (.ret (.bool (areB s.data.toList lo hi))) w .none:=by
 have key:∃ v w',(run Tryz.prog ov (m + 2)).call 29 [.string s,.int .i64 (lo:Int),.int .i64 (hi:Int)] w .none=.ok (.ret v) w' .none∧v=.bool (areB s.data.toList lo hi)∧w'=w:=by
  refine call_wp text29 (by simp) (ho _ _) ?_
  obtain ⟨⟨L⟩⟩:=s
  have r58:=fun w=>run58 h58 m (L.length:Int) lo hi w
  by_cases hb:lo≤L.length∧L.length≤hi
  ·have e1:decide ((lo:Int)≤(L.length:Int))=true:=decide_eq_true (by omega)
   have e2:decide ((L.length:Int)≤(hi:Int))=true:=decide_eq_true (by omega)
   rw [e1,e2] at r58
   have e3:areB L lo hi=L.all sgB:=by unfold areB; rw [decide_eq_true hb.1,decide_eq_true hb.2]; rfl
   simp [mc29,r58]
   refine wp_seqX (wp_blockX (wp_rounds (fun i t w'=>w'=w∧tget t 0=.string ⟨⟨L⟩⟩∧tget t 17=.int .i64 (L.length:Nat)∧tget t 18=.int .i64 (i:Nat)∧i≤L.length∧(L.take i).all sgB=true) 2000 (by decide) ?_ ?_))
   ·simp
   ·rintro i t w' ⟨rfl,t0,t17,t18,hi',hall⟩
    by_cases hlt:i < L.length
    ·obtain ⟨c,hc⟩:∃ c,L[i]?=some c:=⟨_,List.getElem?_eq_getElem hlt⟩
     have hx:∀ w k,indexA Tryz.prog w 9 (.string ⟨⟨L⟩⟩) (.int k (i:Int))=.val (.int .u8 (c.toNat:Int)) w:=fun w k=>ix9 w _ k i c hc
     have r59:=run59 h59 m c w' hs
     have hw:IntKind.wrap .i64 ((i:Int) + 1)=(i:Int) + 1:=wrap64_in (by omega) (by omega)
     have hal:=all_take (p:=sgB) hc
     rw [hall,Bool.true_and] at hal
     cases hb:sgB c with
     | true =>
      rw [hb] at r59 hal
      simp [mc29_l0,t0,t17,t18,hlt,hx,r59,hw]
      exact ⟨by omega,by omega,List.all_eq_true.1 hal⟩
     | false =>
      rw [hb] at r59
      have e4:L.all sgB=false:=by
       rw [Bool.eq_false_iff]
       intro h
       have:=List.all_eq_true.1 h c (List.mem_of_getElem? hc)
       rw [hb] at this; cases this
      simp [mc29_l0,t0,t17,t18,hlt,hx,r59,tupV,e3,e4]
    ·have hi'':i=L.length:=by omega
     subst hi''
     rw [List.take_length] at hall
     simp [mc29_l0,t0,t17,t18,tupV,e3,hall]
  ·have e3:areB L lo hi=false:=by
    unfold areB
    by_cases h1:lo≤L.length
    ·have h2:¬ L.length≤hi:=fun h=>hb ⟨h1,h⟩
     rw [decide_eq_false h2,Bool.and_false]; rfl
    ·rw [decide_eq_false h1]; rfl
   have e4:(decide ((lo:Int)≤(L.length:Int)) && decide ((L.length:Int)≤(hi:Int)))=false:=by
    by_cases h1:lo≤L.length
    ·have h2:¬ L.length≤hi:=fun h=>hb ⟨h1,h⟩
     rw [decide_eq_false (show ¬ (L.length:Int)≤(hi:Int) by omega),Bool.and_false]
    ·rw [decide_eq_false (show ¬ (lo:Int)≤(L.length:Int) by omega),Bool.false_and]
   rw [e4] at r58
   simp [mc29,r58,tupV,e3]
 obtain ⟨v,w',h,rfl,rfl⟩:=key
 exact h
theorem run33 {ov:Ov} (h58:∀ args w,ov 58 args w=none) (h59:∀ args w,ov 59 args w=none) (h29:∀ args w,ov 29 args w=none) (ho:∀ args w,ov 33 args w=none) (m:Nat) (s:ByteArray) (w:AW) (hs:SgAt w):(run Tryz.prog ov (m + 3)).call 33 [.string s] w .none=.ok (.ret (.bool (areB s.data.toList 2 17))) w .none:=by
 have key:∃ v w',(run Tryz.prog ov (m + 3)).call 33 [.string s] w .none=.ok (.ret v) w' .none∧v=.bool (areB s.data.toList 2 17)∧w'=w:=by
  refine call_wp text33 (by simp) (ho _ _) ?_
  have r:(run Tryz.prog ov (m + 2)).call 29 [.string s,.int .i64 2,.int .i64 17] w .none=.ok (.ret (.bool (areB s.data.toList 2 17))) w .none:=run29 h58 h59 h29 m s 2 17 (by decide) w hs
  simp [mc33,r,tupV]
 obtain ⟨v,w',h,rfl,rfl⟩:=key
 exact h
end Go.Proofs.YtdgllbepplldoaaGreatDoor.walk
namespace Go.Sh
open Go
variable {α:Type}
theorem AccR.push3 {P:Program} {st e:TypeId} {sz:Nat} {f:α→List Value} (h0:isList P st=true) (h1:elemA P st=some e) (h2:szOf P e=some sz) (h3:smallT P e=true) (hf:∀ a,(f a).length=sz) (hs:∀ a,singles (f a)=true) (hz:0 < sz)
  {n0:Nat} {w:AW} {v:Value} {acc:List α} (h:AccR f e n0 w v acc) (hl:w.lim≤n0) (hn:n0≤w.next) (hlen:acc.length≤90000) (y:α) :
  ∃ v' w',append1 P ⟨w.heap.put w.next (some (.cells (f y) e false)),w.next + 1,w.lim⟩ [st,st] [v,.slice (some ⟨w.next,0,some 2⟩) 1 1]=.val v' w'∧AccR f e n0 w' v' (acc++[y])∧(∀ x,x < n0→w'.heap.get x=w.heap.get x)∧w.next≤w'.next∧w'.lim=w.lim:=by
 have hsrc:srcCells ⟨w.heap.put w.next (some (.cells (f y) e false)),w.next + 1,w.lim⟩ sz (.slice (some ⟨w.next,0,some 2⟩) 1 1)=some (f y):=src_row (e':=e) (ro:=false) (k:=1) (by simp) (by simp [hf]) (by decide) hz
 rcases h with ⟨rfl,rfl⟩ | ⟨B,rfl,hB,k1,k2,_⟩
 ·refine ⟨_,_,append_nil h0 h1 h2 h3 (m:=1) rfl hsrc (by simp [hf]) (by decide) (by decide),.inr ⟨_,rfl,?_,?_,?_,by simp⟩,fun x hx=>?_,?_,rfl⟩
  ·simp
  ·show n0 < w.next + 1; omega
  ·exact Nat.lt_succ_self _
  ·show ((w.heap.put w.next _).put (w.next + 1) _).get x=_
   rw [get_put,if_neg (by omega),get_put,if_neg (by omega)]
  ·show w.next≤w.next + 1 + 1; omega
 ·have hB':(w.heap.put w.next (some (.cells (f y) e false))).get B=some (.cells (acc.flatMap f) e false):=by rw [get_put,if_neg (by omega)]; exact hB
  refine ⟨_,_,append_full h0 h1 h2 h3 (n:=acc.length) (m:=1) (c:=acc.flatMap f) rfl hsrc (by simp [hf]) (hs y) (by decide) (by omega) hB' (flat_length hf acc) (by show w.lim≤B; omega),.inr ⟨w.next + 1,?_,?_,?_,?_,by simp⟩,fun x hx=>?_,?_,rfl⟩
  ·simp
  ·show (((w.heap.put w.next _).put B none).put (w.next + 1) _).get (w.next + 1)=_
   rw [get_put,if_pos rfl]; simp
  ·omega
  ·exact Nat.lt_succ_self _
  ·show (((w.heap.put w.next _).put B none).put (w.next + 1) _).get x=_
   rw [get_put,if_neg (by omega),get_put,if_neg (by omega),get_put,if_neg (by omega)]
  ·show w.next≤w.next + 1 + 1; omega
end Go.Sh
