/- Part of a proof: see the text with the theorem. -/
import Derived.Test.YthihnhgdbfcabaaGreatDoorTa
import Derived.KernelRfl
import Derived.Test.YthihnhgdbfcabaaGreatDoorProg
import Derived.Test.YthihnhgdbfcabaaGreatDoorTb
set_option linter.all false
namespace Go.Proofs.YthihnhgdbfcabaaGreatDoor.walk
open Go Go.Sh
set_option maxRecDepth 100000
@[simp] theorem cv3_102 (w:AW) (j:IntKind) (a:Int):convertA Tryz.prog w 3 102 (.int j a)=.val (.int .u64 (IntKind.wrap .u64 a)) w:=convert_int (sd:=.int .i64) (by kernel_rfl) (by kernel_rfl) j a
@[simp] theorem eq136 (c:Bool) (x y:Value) (w:AW):(binW Tryz.prog .eql 136 c).val x y w=vR w ((eqFlat false [0] x y).map .bool):=bin_eql (by kernel_rfl) c x y
@[simp] theorem cv3_173 (w:AW) (j:IntKind) (a:Int):convertA Tryz.prog w 3 173 (.int j a)=.val (.int .u64 (IntKind.wrap .u64 a)) w:=convert_int (sd:=.int .i64) (by kernel_rfl) (by kernel_rfl) j a
@[simp] theorem al173 (w:AW):allocA Tryz.prog w 173=.val (.pointer (some ⟨w.next,0,none⟩)) ⟨w.heap.put w.next (some (.cells [.int .u64 0] 173 false)),w.next + 1,w.lim⟩:=alloc_eq (z:=.int .u64 0) (by kernel_rfl)
@[simp] theorem st173 (w:AW) (a:Addr) (x:Value) (hx:(cellsOf x).length=1):storeA Tryz.prog w 173 (.pointer (some a)) x=wR (wr w a.block a.off (cellsOf x)) undef:=store_eq (by kernel_rfl) a x hx
@[simp] theorem cv102_3 (w:AW) (j:IntKind) (a:Int):convertA Tryz.prog w 102 3 (.int j a)=.val (.int .i64 (IntKind.wrap .i64 a)) w:=convert_int (sd:=.int .u64) (by kernel_rfl) (by kernel_rfl) j a
@[simp] theorem al3 (w:AW):allocA Tryz.prog w 3=.val (.pointer (some ⟨w.next,0,none⟩)) ⟨w.heap.put w.next (some (.cells [.int .i64 0] 3 false)),w.next + 1,w.lim⟩:=alloc_eq (z:=.int .i64 0) (by kernel_rfl)
@[simp] theorem ld173 (w:AW) (a:Addr):loadA Tryz.prog w 173 (.pointer (some a))=vR w (rd1 w a.block a.off):=load_one (by kernel_rfl) a
@[simp] theorem st3 (w:AW) (a:Addr) (x:Value) (hx:(cellsOf x).length=1):storeA Tryz.prog w 3 (.pointer (some a)) x=wR (wr w a.block a.off (cellsOf x)) undef:=store_eq (by kernel_rfl) a x hx
@[simp] theorem cv146_5 (w:AW) (j:IntKind) (a:Int):convertA Tryz.prog w 146 5 (.int j a)=.val (.int .u8 (IntKind.wrap .u8 a)) w:=convert_int (sd:=.int .u64) (by kernel_rfl) (by kernel_rfl) j a
@[simp] theorem cv5_3 (w:AW) (j:IntKind) (a:Int):convertA Tryz.prog w 5 3 (.int j a)=.val (.int .i64 (IntKind.wrap .i64 a)) w:=convert_int (sd:=.int .u8) (by kernel_rfl) (by kernel_rfl) j a
noncomputable def mc65:MC:=.seq (.ops [⟨false,none,some 2,3,.assign (.const (.int .i64 0))⟩]) (.seq (.cond (.const (.bool false)) (.seq (.ops [⟨false,none,some 3,102,.move (.tmp 0)⟩,⟨false,none,some 4,144,.convert 102 144 (.tmp 3)⟩,⟨false,none,some 5,3,.call ⟨.value (.func 90),#[.tmp 4],#[144]⟩⟩,⟨false,none,some 2,3,.assign (.tmp 5)⟩]) (.ret)) (.skip)) (.seq (.ops [⟨false,none,some 6,102,.move (.tmp 0)⟩,⟨false,none,some 7,3,.call ⟨.value (.func 91),#[.tmp 6],#[146]⟩⟩,⟨false,none,some 2,3,.assign (.tmp 7)⟩]) (.ret)))
theorem text65:textF Tryz.prog 65=some (8,[.tmp 2],mc65):=by kernel_rfl
noncomputable def mc113:MC:=.seq (.ops [⟨false,none,some 2,102,.assign (.const (.int .u64 0))⟩]) (.seq (.ops [⟨false,none,some 3,3,.move (.tmp 0)⟩,⟨false,none,some 4,102,.convert 3 102 (.tmp 3)⟩,⟨false,none,some 5,3,.call ⟨.value (.func 65),#[.tmp 4],#[102]⟩⟩,⟨false,none,some 6,102,.binOp .shl 102 (.const (.int .u64 1)) (.tmp 5) 3⟩,⟨false,none,some 2,102,.assign (.tmp 6)⟩]) (.ret))
theorem text113:textF Tryz.prog 113=some (7,[.tmp 2],mc113):=by kernel_rfl
noncomputable def mc114:MC:=.seq (.ops [⟨false,none,some 2,146,.assign (.const (.int .u64 0))⟩]) (.seq (.ops [⟨true,none,some 3,197,.move (.tmp 0)⟩,⟨true,none,some 4,0,.nilCheck (.tmp 3)⟩,⟨true,none,some 5,173,.load 173 (.tmp 4)⟩,⟨true,none,some 6,197,.move (.tmp 0)⟩,⟨true,none,some 7,0,.nilCheck (.tmp 6)⟩,⟨true,none,some 8,173,.load 173 (.tmp 7)⟩,⟨true,none,some 9,173,.binOp .shl 173 (.tmp 8) (.const (.int .u64 13)) 102⟩,⟨true,none,some 10,173,.binOp .xor 173 (.tmp 5) (.tmp 9) 173⟩,⟨true,none,some 11,0,.nilCheck (.tmp 3)⟩,⟨false,none,none,0,.store 173 (.tmp 11) (.tmp 10)⟩]) (.seq (.ops [⟨true,none,some 12,197,.move (.tmp 0)⟩,⟨true,none,some 13,0,.nilCheck (.tmp 12)⟩,⟨true,none,some 14,173,.load 173 (.tmp 13)⟩,⟨true,none,some 15,197,.move (.tmp 0)⟩,⟨true,none,some 16,0,.nilCheck (.tmp 15)⟩,⟨true,none,some 17,173,.load 173 (.tmp 16)⟩,⟨true,none,some 18,173,.binOp .shr 173 (.tmp 17) (.const (.int .u64 7)) 102⟩,⟨true,none,some 19,173,.binOp .xor 173 (.tmp 14) (.tmp 18) 173⟩,⟨true,none,some 20,0,.nilCheck (.tmp 12)⟩,⟨false,none,none,0,.store 173 (.tmp 20) (.tmp 19)⟩]) (.seq (.ops [⟨true,none,some 21,197,.move (.tmp 0)⟩,⟨true,none,some 22,0,.nilCheck (.tmp 21)⟩,⟨true,none,some 23,173,.load 173 (.tmp 22)⟩,⟨true,none,some 24,197,.move (.tmp 0)⟩,⟨true,none,some 25,0,.nilCheck (.tmp 24)⟩,⟨true,none,some 26,173,.load 173 (.tmp 25)⟩,⟨true,none,some 27,173,.binOp .shl 173 (.tmp 26) (.const (.int .u64 17)) 102⟩,⟨true,none,some 28,173,.binOp .xor 173 (.tmp 23) (.tmp 27) 173⟩,⟨true,none,some 29,0,.nilCheck (.tmp 21)⟩,⟨false,none,none,0,.store 173 (.tmp 29) (.tmp 28)⟩]) (.seq (.ops [⟨false,none,some 30,197,.move (.tmp 0)⟩,⟨false,none,some 31,0,.nilCheck (.tmp 30)⟩,⟨false,none,some 32,173,.load 173 (.tmp 31)⟩,⟨false,none,some 2,146,.assign (.tmp 32)⟩]) (.ret)))))
theorem text114:textF Tryz.prog 114=some (33,[.tmp 2],mc114):=by kernel_rfl
noncomputable def mc91 : MC := .seq (.ops [⟨false, none, some 2, 3, .assign (.const (.int .i64 0))⟩]) (.seq (.seq (.ops [⟨false, none, some 3, 146, .move (.tmp 0)⟩, ⟨false, none, some 4, 4, .binOp .geq 146 (.tmp 3) (.const (.int .u64 4294967296)) 146⟩]) (.cond (.tmp 4) (.seq (.ops [⟨false, none, some 5, 146, .move (.tmp 0)⟩, ⟨false, none, some 6, 146, .binOp .shr 146 (.tmp 5) (.const (.int .u64 32)) 102⟩, ⟨false, none, some 0, 146, .assign (.tmp 6)⟩]) (.ops [⟨false, none, some 2, 3, .assign (.const (.int .i64 32))⟩])) (.skip))) (.seq (.seq (.ops [⟨false, none, some 7, 146, .move (.tmp 0)⟩, ⟨false, none, some 8, 4, .binOp .geq 146 (.tmp 7) (.const (.int .u64 65536)) 146⟩]) (.cond (.tmp 8) (.seq (.ops [⟨false, none, some 9, 146, .move (.tmp 0)⟩, ⟨false, none, some 10, 146, .binOp .shr 146 (.tmp 9) (.const (.int .u64 16)) 102⟩, ⟨false, none, some 0, 146, .assign (.tmp 10)⟩]) (.ops [⟨false, none, some 11, 3, .move (.tmp 2)⟩, ⟨false, none, some 12, 3, .binOp .add 3 (.tmp 11) (.const (.int .i64 16)) 3⟩, ⟨false, none, some 2, 3, .assign (.tmp 12)⟩])) (.skip))) (.seq (.seq (.ops [⟨false, none, some 13, 146, .move (.tmp 0)⟩, ⟨false, none, some 14, 4, .binOp .geq 146 (.tmp 13) (.const (.int .u64 256)) 146⟩]) (.cond (.tmp 14) (.seq (.ops [⟨false, none, some 15, 146, .move (.tmp 0)⟩, ⟨false, none, some 16, 146, .binOp .shr 146 (.tmp 15) (.const (.int .u64 8)) 102⟩, ⟨false, none, some 0, 146, .assign (.tmp 16)⟩]) (.ops [⟨false, none, some 17, 3, .move (.tmp 2)⟩, ⟨false, none, some 18, 3, .binOp .add 3 (.tmp 17) (.const (.int .i64 8)) 3⟩, ⟨false, none, some 2, 3, .assign (.tmp 18)⟩])) (.skip))) (.seq (.ops [⟨false, none, some 19, 3, .move (.tmp 2)⟩, ⟨false, none, some 20, 146, .move (.tmp 0)⟩, ⟨false, none, some 21, 5, .convert 146 5 (.tmp 20)⟩, ⟨false, none, some 22, 5, .index 9 (.const (.string ⟨⟨[0, 1, 2, 2, 3, 3, 3, 3, 4, 4, 4, 4, 4, 4, 4, 4, 5, 5, 5, 5, 5, 5, 5, 5, 5, 5, 5, 5, 5, 5, 5, 5, 6, 6, 6, 6, 6, 6, 6, 6,
 6, 6, 6, 6, 6, 6, 6, 6, 6, 6, 6, 6, 6, 6, 6, 6, 6, 6, 6, 6, 6, 6, 6, 6, 7, 7, 7, 7, 7, 7, 7, 7, 7, 7, 7, 7, 7, 7, 7, 7,
 7, 7, 7, 7, 7, 7, 7, 7, 7, 7, 7, 7, 7, 7, 7, 7, 7, 7, 7, 7, 7, 7, 7, 7, 7, 7, 7, 7, 7, 7, 7, 7, 7, 7, 7, 7, 7, 7, 7, 7,
 7, 7, 7, 7, 7, 7, 7, 7, 8, 8, 8, 8, 8, 8, 8, 8, 8, 8, 8, 8, 8, 8, 8, 8, 8, 8, 8, 8, 8, 8, 8, 8, 8, 8, 8, 8, 8, 8, 8, 8,
 8, 8, 8, 8, 8, 8, 8, 8, 8, 8, 8, 8, 8, 8, 8, 8, 8, 8, 8, 8, 8, 8, 8, 8, 8, 8, 8, 8, 8, 8, 8, 8, 8, 8, 8, 8, 8, 8, 8, 8,
 8, 8, 8, 8, 8, 8, 8, 8, 8, 8, 8, 8, 8, 8, 8, 8, 8, 8, 8, 8, 8, 8, 8, 8, 8, 8, 8, 8, 8, 8, 8, 8, 8, 8, 8, 8, 8, 8, 8, 8,
 8, 8, 8, 8, 8, 8, 8, 8, 8, 8, 8, 8, 8, 8, 8, 8]⟩⟩)) (.tmp 21)⟩, ⟨false, none, some 23, 3, .convert 5 3 (.tmp 22)⟩, ⟨false, none, some 24, 3, .binOp .add 3 (.tmp 19) (.tmp 23) 3⟩, ⟨false, none, some 2, 3, .assign (.tmp 24)⟩]) (.ret)))))
theorem text91:textF Tryz.prog 91=some (25,[.tmp 2],mc91):=by kernel_rfl
@[simp] theorem cf65 (w:AW) (l:List Value):callFn Tryz.prog w 65 l=.enter 65 l w:=callFn_enter text65 l
@[simp] theorem cf91 (w:AW) (l:List Value):callFn Tryz.prog w 91 l=.enter 91 l w:=callFn_enter text91 l
@[simp] theorem cf113 (w:AW) (l:List Value):callFn Tryz.prog w 113 l=.enter 113 l w:=callFn_enter text113 l
@[simp] theorem cf114 (w:AW) (l:List Value):callFn Tryz.prog w 114 l=.enter 114 l w:=callFn_enter text114 l
section
variable {α:Type} {C:α→List Value} {V:α→Value} {sz:Nat} {cI:α→α→Int} {fv:Value} {fc:FuncId} {ov:Ov}
structure SO (ov:Ov) (C:α→List Value) (V:α→Value) (sz:Nat) (cI:α→α→Int) (fv:Value) (fc:FuncId):Prop where
 T:SortT Tryz.prog 26 9 sz C V
 cm:∀ k w x y,(run Tryz.prog ov (k + 1)).call 87 [V x,V y] w .none=.ok (.ret (.bool (decide (cI x y < 0)))) w .none
 wk:Wk fun x y=>cI x y < 0
abbrev InO (C:α→List Value) (w0:AW) (B:Nat) (L:List α) (w:AW):Prop:=InS C 9 w0 B L w
theorem SO.ix (h:SO ov C V sz cI fv fc) {k n:Nat} (hk:k < n) {z:Int} (hz:z=(k:Int)) (B c:Nat) (w:AW):indexAddrA Tryz.prog w 26 (.slice (some ⟨B,0,none⟩) n c) (.int .i64 z)=.val (.pointer (some ⟨B,k * sz,none⟩)) w:=by
 subst hz; exact h.T.ix w B n c k hk
theorem SO.ld (h:SO ov C V sz cI fv fc) {w0 w:AW} {B k:Nat} {L:List α} {x:α} (hw:InO C w0 B L w) (hx:L[k]?=some x):loadA Tryz.prog w 9 (.pointer (some ⟨B,k * sz,none⟩))=.val (V x) w:=h.T.ld w B k L x hw.row hx
end
section
variable {α:Type} {C:α→List Value} {V:α→Value} {sz:Nat} {cI:α→α→Int} {fv:Value} {fc:FuncId} {ov:Ov}
end
section
variable {α:Type} {C:α→List Value} {V:α→Value} {sz:Nat} {cI:α→α→Int} {fv:Value} {fc:FuncId} {ov:Ov}
end
end Go.Proofs.YthihnhgdbfcabaaGreatDoor.walk
