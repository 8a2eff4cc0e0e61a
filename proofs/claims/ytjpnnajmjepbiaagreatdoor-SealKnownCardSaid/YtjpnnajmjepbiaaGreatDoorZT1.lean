/- Part of a proof by a machine of ones own: see the text with the theorem. -/
import Derived.Test.YtjpnnajmjepbiaaGreatDoorShF
import Derived.KernelRfl
import Derived.Test.YtjpnnajmjepbiaaGreatDoorProg
namespace Go.Proofs.YtjpnnajmjepbiaaGreatDoor.walk
open Go Go.Sh
set_option maxRecDepth 100000
/-! what is asked of types -/
@[simp] theorem len22 (w : AW) (a : Option Addr) (n c : Nat) : lenB Tryz.prog w 22 (.slice a n c) = .val (.int .i64 n) w := len_slice (e := 62) (by kernel_rfl) a n c
@[simp] theorem cv3_164 (w : AW) (j : IntKind) (a : Int) : convertA Tryz.prog w 3 164 (.int j a) = .val (.int .u64 (IntKind.wrap .u64 a)) w := convert_int (sd := .int .i64) (by kernel_rfl) (by kernel_rfl) j a
@[simp] theorem eq3 (c : Bool) (x y : Value) (w : AW) : (binW Tryz.prog .eql 3 c).val x y w = vR w ((eqFlat false [0] x y).map .bool) := bin_eql (by kernel_rfl) c x y
@[simp] theorem eq178 (c : Bool) (x y : Value) (w : AW) : (binW Tryz.prog .eql 178 c).val x y w = vR w ((eqFlat false [0] x y).map .bool) := bin_eql (by kernel_rfl) c x y
@[simp] theorem ia22 (w : AW) (a : Addr) (n c : Nat) (k : IntKind) (i : Nat) (hi : i < n) : indexAddrA Tryz.prog w 22 (.slice (some a) n c) (.int k (i : Int)) = .val (.pointer (some (a.add (i * 9)))) w := indexAddr_slice (e := 62) (by kernel_rfl) (by kernel_rfl) a n c k i hi
@[simp] theorem ld62 (w : AW) (a : Addr) : loadA Tryz.prog w 62 (.pointer (some a)) = vR w (aggM (rd w a.block a.off 9)) := load_agg (by kernel_rfl) (by kernel_rfl) a
@[simp] theorem cv164_185 (w : AW) (j : IntKind) (a : Int) : convertA Tryz.prog w 164 185 (.int j a) = .val (.int .u32 (IntKind.wrap .u32 a)) w := convert_int (sd := .int .u64) (by kernel_rfl) (by kernel_rfl) j a
@[simp] theorem st62 (w : AW) (a : Addr) (x : Value) (hx : (cellsOf x).length = 9) : storeA Tryz.prog w 62 (.pointer (some a)) x = wR (wr w a.block a.off (cellsOf x)) undef := store_eq (by kernel_rfl) a x hx
@[simp] theorem cv3_194 (w : AW) (j : IntKind) (a : Int) : convertA Tryz.prog w 3 194 (.int j a) = .val (.int .u64 (IntKind.wrap .u64 a)) w := convert_int (sd := .int .i64) (by kernel_rfl) (by kernel_rfl) j a
@[simp] theorem al194 (w : AW) : allocA Tryz.prog w 194 = .val (.pointer (some ⟨w.next, 0, none⟩)) ⟨w.heap.put w.next (some (.cells [.int .u64 0] 194 false)), w.next + 1, w.lim⟩ := alloc_eq (z := .int .u64 0) (by kernel_rfl)
@[simp] theorem st194 (w : AW) (a : Addr) (x : Value) (hx : (cellsOf x).length = 1) : storeA Tryz.prog w 194 (.pointer (some a)) x = wR (wr w a.block a.off (cellsOf x)) undef := store_eq (by kernel_rfl) a x hx
@[simp] theorem cv164_3 (w : AW) (j : IntKind) (a : Int) : convertA Tryz.prog w 164 3 (.int j a) = .val (.int .i64 (IntKind.wrap .i64 a)) w := convert_int (sd := .int .u64) (by kernel_rfl) (by kernel_rfl) j a
@[simp] theorem al3 (w : AW) : allocA Tryz.prog w 3 = .val (.pointer (some ⟨w.next, 0, none⟩)) ⟨w.heap.put w.next (some (.cells [.int .i64 0] 3 false)), w.next + 1, w.lim⟩ := alloc_eq (z := .int .i64 0) (by kernel_rfl)
@[simp] theorem ld3 (w : AW) (a : Addr) : loadA Tryz.prog w 3 (.pointer (some a)) = vR w (rd1 w a.block a.off) := load_one (by kernel_rfl) a
@[simp] theorem cv187_5 (w : AW) (j : IntKind) (a : Int) : convertA Tryz.prog w 187 5 (.int j a) = .val (.int .u8 (IntKind.wrap .u8 a)) w := convert_int (sd := .int .u64) (by kernel_rfl) (by kernel_rfl) j a
@[simp] theorem ix9 (w : AW) (a : ByteArray) (k : IntKind) (i : Nat) (b : UInt8) (hb : a.data.toList[i]? = some b) : indexA Tryz.prog w 9 (.string a) (.int k (i : Int)) = .val (.int .u8 (b.toNat : Int)) w := index_string (by kernel_rfl) a k i b hb
@[simp] theorem cv5_3 (w : AW) (j : IntKind) (a : Int) : convertA Tryz.prog w 5 3 (.int j a) = .val (.int .i64 (IntKind.wrap .i64 a)) w := convert_int (sd := .int .u8) (by kernel_rfl) (by kernel_rfl) j a
@[simp] theorem ld194 (w : AW) (a : Addr) : loadA Tryz.prog w 194 (.pointer (some a)) = vR w (rd1 w a.block a.off) := load_one (by kernel_rfl) a
@[simp] theorem st3 (w : AW) (a : Addr) (x : Value) (hx : (cellsOf x).length = 1) : storeA Tryz.prog w 3 (.pointer (some a)) x = wR (wr w a.block a.off (cellsOf x)) undef := store_eq (by kernel_rfl) a x hx
/-! the texts, made flat -/
end Go.Proofs.YtjpnnajmjepbiaaGreatDoor.walk
