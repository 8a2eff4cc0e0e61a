/- Part of a proof by a machine of ones own: see the text with the theorem. -/
import Derived.Test.YtgnhcmjbhfjnfaaGreatDoorShE
import Derived.KernelRfl
import Derived.Test.YtgnhcmjbhfjnfaaGreatDoorProg
namespace Go.Proofs.YtgnhcmjbhfjnfaaGreatDoor.walk
open Go Go.Sh
noncomputable def pow10 : List Int := [1, 10, 100, 1000, 10000, 100000, 1000000, 10000000, 100000000, 1000000000, 10000000000, 100000000000, 1000000000000, 10000000000000, 100000000000000, 1000000000000000, 10000000000000000, 100000000000000000, 1000000000000000000, 10000000000000000000]
noncomputable def signL : List Int := [97, 98, 99, 100, 101, 102, 103, 104, 105, 106, 107, 108, 109, 110, 111, 112, 113, 114, 115, 116, 117, 118, 119, 120, 121, 122, 48, 49, 50, 51, 52, 53, 54, 55, 56, 57, 45]
/-- the variables that the program reads -/
noncomputable def laidL : List LaidV := [(0, signL.map fun z => Value.int .u8 z, 137), (1, pow10.map fun z => Value.int .u64 z, 239), (3, [unk], 123)]
noncomputable def noOv : Ov := fun _ _ _ => none
noncomputable def nearA : List Value := [.string ⟨⟨[97, 98, 101]⟩⟩]
noncomputable def nearR : Value := .tuple ⟨[.slice none 0 0, .int .i64 0]⟩
noncomputable def knownOv : Ov := memoOv 17 nearA laidL nearR (memoOv 20 [] laidL (.bool true) (memoOv 56 [] laidL (.bool true) noOv))
end Go.Proofs.YtgnhcmjbhfjnfaaGreatDoor.walk
