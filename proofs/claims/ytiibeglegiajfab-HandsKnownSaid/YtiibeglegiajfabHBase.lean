/- Part of a proof by a machine of ones own: see the text with the theorem. -/
import Derived.Test.YtiibeglegiajfabSh41
import Derived.Test.YtiibeglegiajfabProg
import Derived.KernelRfl
namespace Go.Proofs.Ytiibeglegiajfab.known
open Go Go.Sh
noncomputable def noOv : Ov := fun _ _ _ => none
/-- a call of Most with the season of the chapter -/
def seasonA : List Value := [.agg ⟨[.slice (some ⟨147, 0, none⟩) 2 2, .slice (some ⟨148, 0, none⟩) 2 2, .slice (some ⟨155, 0, none⟩) 2 2]⟩]
def seasonL : List LaidV := [(147, [.int .i64 0, .int .i64 2, .int .i64 10, .int .i64 1, .int .i64 3, .int .i64 6], 65), (148, [.int .i64 3, .int .i64 0, .int .i64 3, .int .i64 3, .int .i64 8, .int .i64 2, .int .i64 2, .int .i64 2, .int .i64 4, .int .i64 10], 77), (151, [.int .i64 4, .int .i64 6, .int .i64 5, .int .i64 5], 34), (154, [.int .i64 5, .int .i64 8, .int .i64 3, .int .i64 4], 34), (155, [.slice (some ⟨151, 0, none⟩) 2 2, .slice (some ⟨154, 0, none⟩) 2 2], 69)]
def mostV : Value := .tuple ⟨[.agg ⟨[.int .i64 15, .int .i64 16]⟩, .int .i64 0]⟩
end Go.Proofs.Ytiibeglegiajfab.known
