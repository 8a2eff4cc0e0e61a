/- Part of a proof by a machine of ones own: see the text with the theorem. -/
import Derived.Test.YtjpnnajmjepbiaaGreatDoorCards
import Derived.Test.YtjpnnajmjepbiaaGreatDoorTie
import Derived.Test.YtjpnnajmjepbiaaGreatDoorZF1
import Derived.Test.YtjpnnajmjepbiaaGreatDoorZF2
import Derived.Test.YtjpnnajmjepbiaaGreatDoorZF3
import Derived.Test.YtjpnnajmjepbiaaGreatDoorZF4
import Derived.Test.YtjpnnajmjepbiaaGreatDoorZF5
import Derived.Test.YtjpnnajmjepbiaaGreatDoorZF6
import Derived.Test.YtjpnnajmjepbiaaGreatDoorZF7
import Derived.Test.YtjpnnajmjepbiaaGreatDoorZK1
import Derived.WalkKit
import Derived.ProofKit
import Derived.OpenShut
import Derived.Deep.DeepHandedRow
import Derived.Deep.DeepWitnessRowRef
namespace Go.Proofs.YtjpnnajmjepbiaaGreatDoor.walk
open Go.ChangeShapes Go.WideShapes Go.ChangeAt Go.RowKit Go.Sh
/-! ## what every statement of this seat needs -/
theorem own : ownKnob Tryz.prog.godebug = none := by kernel_rfl
theorem row0 : RowOf Tryz.prog 0 3 170 := .of (by kernel_rfl)
theorem row2 : RowOf Tryz.prog 2 20 227 := .of (by kernel_rfl)
theorem g0 : Tryz.prog.globalNamed "rostellum/seal.kindWords" = some 0 := by kernel_rfl
theorem g2 : Tryz.prog.globalNamed "internal/strconv.uint64pow10" = some 2 := by kernel_rfl
theorem t0 : (Tryz.prog.globals[0]?).map (·.type) = some 170 := by kernel_rfl
theorem t2 : (Tryz.prog.globals[2]?).map (·.type) = some 227 := by kernel_rfl
theorem size_le {g : Nat} (h : g < 9) : g < Tryz.prog.globals.size := by rw [globals9]; exact h
theorem u227 : Tryz.prog.underlying 227 = some (.array 20 187) := by kernel_rfl
theorem u187 : Tryz.prog.underlying 187 = some (.int .u64) := by kernel_rfl
theorem c187 : Tryz.prog.cellsOf 187 = 1 := by kernel_rfl
theorem c227 : Tryz.prog.cellsOf 227 = 20 := by kernel_rfl
theorem words_dat : datC Tryz.prog 5 170 Rows.laid_rostellum_seal_kindWords = some wordsL := by kernel_rfl
def laidRow : List (String × DataW Unit) := [("math/bits.deBruijn32tab", Rows.laid_math_bits_deBruijn32tab), ("math/bits.deBruijn64tab", Rows.laid_math_bits_deBruijn64tab), ("internal/strconv.uint64pow10", Rows.laid_internal_strconv_uint64pow10), ("unicode/utf8.acceptRanges", Rows.laid_unicode_utf8_acceptRanges), ("strconv.ErrRange", Rows.laid_strconv_ErrRange), ("strconv.ErrSyntax", Rows.laid_strconv_ErrSyntax), ("rostellum/seal.kindWords", Rows.laid_rostellum_seal_kindWords), ("unicode/utf8.first", Rows.laid_unicode_utf8_first)]
theorem laid_ok {W : World} (hs : W.ShapedOpen Tryz.prog) (hL : laidMet Tryz.prog laidRow W) : LaidOk Tryz.prog W laidL := by
  intro x hx
  unfold laidL at hx
  rcases List.mem_cons.1 hx with rfl | hx
  · exact laid_plain hs hL (.tail _ (.tail _ (.tail _ (.tail _ (.tail _ (.tail _ (.head _))))))) g0 (size_le (by decide)) t0 words_dat (by kernel_rfl) row0
  rcases List.mem_cons.1 hx with rfl | hx
  · exact laid_tab hs hL (zs := pow10) (.tail _ (.tail _ (.head _))) g2 (size_le (by decide)) t2 u227 u187 c187 c227 row2
  · cases hx
theorem sz_le : Tryz.prog.globals.size ≤ 9 := by rw [globals9]; exact Nat.le_refl _
theorem text_ov : OvOk Tryz.prog textOv :=
  (memo_ok no_count mixed pure_okZ tx0_none (by kernel_rfl) (by kernel_rfl) sz_le (by kernel_rfl) (memo_ok no_count mixed pure_okZ tx1_none (by kernel_rfl) (by kernel_rfl) sz_le (by kernel_rfl) (memo_ok no_count mixed pure_okZ tx2_none (by kernel_rfl) (by kernel_rfl) sz_le (by kernel_rfl) (memo_ok no_count mixed pure_okZ tx3_none (by kernel_rfl) (by kernel_rfl) sz_le (by kernel_rfl) (memo_ok no_count mixed pure_okZ tx4_none (by kernel_rfl) (by kernel_rfl) sz_le (by kernel_rfl) (memo_ok no_count mixed pure_okZ tx5_none (by kernel_rfl) (by kernel_rfl) sz_le (by kernel_rfl) (memo_ok no_count mixed pure_okZ tx6_none (by kernel_rfl) (by kernel_rfl) sz_le (by kernel_rfl) (memo_ok no_count mixed pure_okZ tx7_none (by kernel_rfl) (by kernel_rfl) sz_le (by kernel_rfl) (memo_ok no_count mixed pure_okZ tx8_none (by kernel_rfl) (by kernel_rfl) sz_le (by kernel_rfl) (memo_ok no_count mixed pure_okZ tx9_none (by kernel_rfl) (by kernel_rfl) sz_le (by kernel_rfl) (memo_ok no_count mixed pure_okZ tx10_none (by kernel_rfl) (by kernel_rfl) sz_le (by kernel_rfl) (memo_ok no_count mixed pure_okZ tx11_none (by kernel_rfl) (by kernel_rfl) sz_le (by kernel_rfl) pure_okZ))))))))))))
theorem known_ov : OvOk Tryz.prog knownOv :=
  (memo_ok no_count mixed pure_okZ works_true (by kernel_rfl) (by kernel_rfl) sz_le (by kernel_rfl) (memo_ok no_count mixed pure_okZ handed_true (by kernel_rfl) (by kernel_rfl) sz_le (by kernel_rfl) text_ov))
end Go.Proofs.YtjpnnajmjepbiaaGreatDoor.walk
