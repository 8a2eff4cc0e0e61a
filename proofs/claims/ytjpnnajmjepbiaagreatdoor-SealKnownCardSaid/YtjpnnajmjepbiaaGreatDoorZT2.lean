/- Part of a proof by a machine of ones own: see the text with the theorem. -/
import Derived.Test.YtjpnnajmjepbiaaGreatDoorZT1
import Derived.KernelRfl
import Derived.Test.YtjpnnajmjepbiaaGreatDoorProg
namespace Go.Proofs.YtjpnnajmjepbiaaGreatDoor.walk
open Go Go.Sh
set_option maxRecDepth 100000
/-! what is asked of types -/
@[simp] theorem len28 (w : AW) (a : Option Addr) (n c : Nat) : lenB Tryz.prog w 28 (.slice a n c) = .val (.int .i64 n) w := len_slice (e := 9) (by kernel_rfl) a n c
@[simp] theorem ia28 (w : AW) (a : Addr) (n c : Nat) (k : IntKind) (i : Nat) (hi : i < n) : indexAddrA Tryz.prog w 28 (.slice (some a) n c) (.int k (i : Int)) = .val (.pointer (some (a.add (i * 1)))) w := indexAddr_slice (e := 9) (by kernel_rfl) (by kernel_rfl) a n c k i hi
@[simp] theorem ld9 (w : AW) (a : Addr) : loadA Tryz.prog w 9 (.pointer (some a)) = vR w (rd1 w a.block a.off) := load_one (by kernel_rfl) a
@[simp] theorem st9 (w : AW) (a : Addr) (x : Value) (hx : (cellsOf x).length = 1) : storeA Tryz.prog w 9 (.pointer (some a)) x = wR (wr w a.block a.off (cellsOf x)) undef := store_eq (by kernel_rfl) a x hx
/-! the texts, made flat -/
end Go.Proofs.YtjpnnajmjepbiaaGreatDoor.walk
