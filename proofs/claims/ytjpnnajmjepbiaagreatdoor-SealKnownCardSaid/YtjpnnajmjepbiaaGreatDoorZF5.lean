/- Part of a proof by a machine of ones own: see the text with the theorem. -/
import Derived.Test.YtjpnnajmjepbiaaGreatDoorZK2
namespace Go.Proofs.YtjpnnajmjepbiaaGreatDoor.walk
open Go Go.Sh
set_option maxRecDepth 1000000 in
theorem tx0_none : resIs noneR ((run Tryz.prog pureOv 1000).call 37 tx0 (startA 9 laidL) .none) = true := by kernel_rfl
set_option maxRecDepth 1000000 in
theorem tx3_none : resIs noneR ((run Tryz.prog pureOv 1000).call 37 tx3 (startA 9 laidL) .none) = true := by kernel_rfl
set_option maxRecDepth 1000000 in
theorem tx4_none : resIs noneR ((run Tryz.prog pureOv 1000).call 37 tx4 (startA 9 laidL) .none) = true := by kernel_rfl
set_option maxRecDepth 1000000 in
theorem tx5_none : resIs noneR ((run Tryz.prog pureOv 1000).call 37 tx5 (startA 9 laidL) .none) = true := by kernel_rfl
set_option maxRecDepth 1000000 in
theorem tx6_none : resIs noneR ((run Tryz.prog pureOv 1000).call 37 tx6 (startA 9 laidL) .none) = true := by kernel_rfl
set_option maxRecDepth 1000000 in
theorem tx7_none : resIs noneR ((run Tryz.prog pureOv 1000).call 37 tx7 (startA 9 laidL) .none) = true := by kernel_rfl
set_option maxRecDepth 1000000 in
theorem tx8_none : resIs noneR ((run Tryz.prog pureOv 1000).call 37 tx8 (startA 9 laidL) .none) = true := by kernel_rfl
end Go.Proofs.YtjpnnajmjepbiaaGreatDoor.walk
