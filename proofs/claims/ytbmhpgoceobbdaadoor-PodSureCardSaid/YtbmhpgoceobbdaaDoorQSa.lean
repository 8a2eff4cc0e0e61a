/- Part of a proof by a machine of ones own: see the text with the theorem. -/
import Derived.Test.YtbmhpgoceobbdaaDoorQBb
namespace Go.Proofs.YtbmhpgoceobbdaaDoor.walk
open Go Go.Sh
open known (partsC laidL noOv)
set_option maxRecDepth 100000
set_option linter.unusedSimpArgs false
/-! law 7 -/
theorem har_1 {p : Pod} {d r h g : Int} (hp : podsB [p] = true) (hd : planB [p] [d] = true) (ht : truthOk p r h g = true) : harE [p] [d] [r] [h] [g] = 0 ∧ harY [p] [d] [r] [h] [g] = ylI p.born d r h g := by
  have hT : truthB [p] [r] [h] [g] = true := by simp [truthB, truthTo, ht]
  have e : harE [p] [d] [r] [h] [g] = 0 := by simp [harE, chkE, hp, hd, hT]
  refine ⟨e, ?_⟩
  unfold harY
  rw [if_pos e]
  show sumYl [ylI p.born d r h g] = _
  simp [sumYl, sY]
theorem wg_1 (p : Pod) (d : Int) : wgC [p] [d] = sixC (endsY (podS p d)) := by
  simp [wgC, loS, hiS, esH, sumYl, sY, sixC]
@[simp] theorem bs22_1 (w : AW) (p : Pod) : buildSliceA Tryd.prog w 22 1 [(0, .agg ⟨podC p⟩)] = .val (.slice (some ⟨w.next, 0, none⟩) 1 1) ⟨w.heap.put w.next (some (.cells (podC p) 30 false)), w.next + 1, w.lim⟩ := bd22_0_n1 w _ _ _ _ _ _ _ _
noncomputable def mc7_r7 : MC := .seq (.seq (.ops [⟨false, none, some 132, 23, .move (.tmp 11)⟩, ⟨false, none, some 133, 4, .binOp .neq 23 (.tmp 132) (.const (.int .i64 0)) 23⟩, ⟨false, none, some 134, 4, .move (.tmp 133)⟩, ⟨false, some (134, false), some 135, 23, .move (.tmp 16)⟩, ⟨false, some (134, false), some 136, 4, .binOp .neq 23 (.tmp 135) (.const (.int .i64 0)) 23⟩, ⟨false, none, some 137, 4, .pick (.tmp 134) (.const (.bool true)) (.tmp 136)⟩, ⟨false, none, some 138, 4, .move (.tmp 137)⟩, ⟨false, some (138, false), some 139, 23, .move (.tmp 18)⟩, ⟨false, some (138, false), some 140, 4, .binOp .neq 23 (.tmp 139) (.const (.int .i64 0)) 23⟩, ⟨false, none, some 141, 4, .pick (.tmp 138) (.const (.bool true)) (.tmp 140)⟩]) (.cond (.tmp 141) (.seq (.ops [⟨false, none, some 6, 4, .assign (.const (.bool false))⟩]) (.ret)) (.skip))) (.seq (.ops [⟨false, none, some 142, 3, .move (.tmp 1)⟩, ⟨false, none, some 143, 0, .fieldAddr 30 (.tmp 3) 1⟩, ⟨false, none, some 144, 3, .load 3 (.tmp 143)⟩, ⟨false, none, some 145, 0, .fieldAddr 30 (.tmp 3) 2⟩, ⟨false, none, some 146, 0, .fieldAddr 26 (.tmp 145) 1⟩, ⟨false, none, some 147, 3, .load 3 (.tmp 146)⟩, ⟨false, none, some 148, 3, .binOp .add 3 (.tmp 144) (.tmp 147) 3⟩, ⟨false, none, some 149, 4, .binOp .lss 3 (.tmp 142) (.tmp 148) 3⟩, ⟨false, none, some 19, 4, .assign (.tmp 149)⟩]) (.seq (.ops [⟨false, none, some 150, 3, .move (.tmp 1)⟩, ⟨false, none, some 151, 0, .fieldAddr 30 (.tmp 3) 1⟩, ⟨false, none, some 152, 3, .load 3 (.tmp 151)⟩, ⟨false, none, some 153, 0, .fieldAddr 30 (.tmp 3) 2⟩, ⟨false, none, some 154, 0, .fieldAddr 26 (.tmp 153) 0⟩, ⟨false, none, some 155, 3, .load 3 (.tmp 154)⟩, ⟨false, none, some 156, 3, .binOp .add 3 (.tmp 152) (.tmp 155) 3⟩, ⟨false, none, some 157, 0, .fieldAddr 30 (.tmp 3) 3⟩, ⟨false, none, some 158, 0, .fieldAddr 26 (.tmp 157) 0⟩, ⟨false, none, some 159, 3, .load 3 (.tmp 158)⟩, ⟨false, none, some 160, 3, .binOp .add 3 (.tmp 156) (.tmp 159) 3⟩, ⟨false, none, some 161, 4, .binOp .geq 3 (.tmp 150) (.tmp 160) 3⟩, ⟨false, none, some 20, 4, .assign (.tmp 161)⟩]) (.seq (.ops [⟨false, none, some 162, 4, .move (.tmp 19)⟩, ⟨false, none, some 163, 4, .move (.tmp 162)⟩, ⟨false, some (163, false), some 164, 4, .move (.tmp 20)⟩, ⟨false, none, some 165, 4, .pick (.tmp 163) (.const (.bool true)) (.tmp 164)⟩, ⟨false, none, some 166, 4, .move (.tmp 165)⟩, ⟨false, some (166, true), some 167, 4, .move (.tmp 19)⟩, ⟨false, some (166, true), some 168, 4, .unOp .not 4 (.tmp 167)⟩, ⟨false, some (166, true), some 169, 4, .move (.tmp 168)⟩, ⟨false, some (169, false), some 170, 0, .fieldAddr 37 (.tmp 15) 0⟩, ⟨false, some (169, false), some 171, 3, .load 3 (.tmp 170)⟩, ⟨false, some (169, false), some 172, 4, .binOp .eql 3 (.tmp 171) (.const (.int .i64 0)) 3⟩, ⟨false, some (169, false), some 173, 4, .move (.tmp 172)⟩, ⟨false, some (173, true), some 174, 0, .fieldAddr 37 (.tmp 15) 2⟩, ⟨false, some (173, true), some 175, 3, .load 3 (.tmp 174)⟩, ⟨false, some (173, true), some 176, 4, .binOp .eql 3 (.tmp 175) (.const (.int .i64 0)) 3⟩, ⟨false, some (169, false), some 177, 4, .pick (.tmp 173) (.tmp 176) (.const (.bool false))⟩, ⟨false, some (166, true), some 178, 4, .pick (.tmp 169) (.const (.bool true)) (.tmp 177)⟩, ⟨false, none, some 179, 4, .pick (.tmp 166) (.tmp 178) (.const (.bool false))⟩, ⟨false, none, some 180, 4, .move (.tmp 179)⟩, ⟨false, some (180, true), some 181, 4, .move (.tmp 20)⟩, ⟨false, some (180, true), some 182, 4, .unOp .not 4 (.tmp 181)⟩, ⟨false, some (180, true), some 183, 4, .move (.tmp 182)⟩, ⟨false, some (183, false), some 184, 0, .fieldAddr 37 (.tmp 17) 2⟩, ⟨false, some (183, false), some 185, 3, .load 3 (.tmp 184)⟩, ⟨false, some (183, false), some 186, 4, .binOp .eql 3 (.tmp 185) (.const (.int .i64 1)) 3⟩, ⟨false, some (183, false), some 187, 4, .move (.tmp 186)⟩, ⟨false, some (187, true), some 188, 0, .fieldAddr 37 (.tmp 17) 0⟩, ⟨false, some (187, true), some 189, 3, .load 3 (.tmp 188)⟩, ⟨false, some (187, true), some 190, 4, .binOp .eql 3 (.tmp 189) (.const (.int .i64 0)) 3⟩, ⟨false, some (183, false), some 191, 4, .pick (.tmp 187) (.tmp 190) (.const (.bool false))⟩, ⟨false, some (180, true), some 192, 4, .pick (.tmp 183) (.const (.bool true)) (.tmp 191)⟩, ⟨false, none, some 193, 4, .pick (.tmp 180) (.tmp 192) (.const (.bool false))⟩, ⟨false, none, some 194, 4, .move (.tmp 193)⟩, ⟨false, some (194, true), some 195, 0, .fieldAddr 41 (.tmp 12) 0⟩, ⟨false, some (194, true), some 196, 0, .fieldAddr 26 (.tmp 195) 0⟩, ⟨false, some (194, true), some 197, 3, .load 3 (.tmp 196)⟩, ⟨false, some (194, true), some 198, 4, .binOp .eql 3 (.tmp 197) (.const (.int .i64 0)) 3⟩, ⟨false, none, some 199, 4, .pick (.tmp 194) (.tmp 198) (.const (.bool false))⟩, ⟨false, none, some 200, 4, .move (.tmp 199)⟩, ⟨false, some (200, true), some 201, 4, .call ⟨.value (.func 18), #[], #[]⟩⟩, ⟨false, none, some 202, 4, .pick (.tmp 200) (.tmp 201) (.const (.bool false))⟩, ⟨false, none, some 6, 4, .assign (.tmp 202)⟩]) (.ret))))
noncomputable def mc7_r6 : MC := .seq (.ops [⟨false, none, some 117, 22, .move (.tmp 7)⟩, ⟨false, none, some 118, 3, .move (.tmp 1)⟩, ⟨false, none, some 119, 33, .buildSlice 33 1 #[(0, .tmp 118)]⟩, ⟨false, none, some 120, 35, .load 35 (.tmp 13)⟩, ⟨false, none, some 121, 38, .call ⟨.value (.func 19), #[.tmp 117, .tmp 119, .tmp 120], #[22, 33, 35]⟩⟩, ⟨false, none, some 116, 38, .move (.tmp 121)⟩, ⟨false, none, some 122, 37, .extract (.tmp 116) 0⟩, ⟨false, none, some 123, 23, .extract (.tmp 116) 1⟩, ⟨false, none, some 15, 0, .alloc 37⟩, ⟨false, none, none, 0, .store 37 (.tmp 15) (.tmp 122)⟩, ⟨false, none, some 16, 23, .assign (.tmp 123)⟩]) (.seq (.ops [⟨false, none, some 125, 22, .move (.tmp 7)⟩, ⟨false, none, some 126, 3, .move (.tmp 1)⟩, ⟨false, none, some 127, 33, .buildSlice 33 1 #[(0, .tmp 126)]⟩, ⟨false, none, some 128, 35, .load 35 (.tmp 14)⟩, ⟨false, none, some 129, 38, .call ⟨.value (.func 19), #[.tmp 125, .tmp 127, .tmp 128], #[22, 33, 35]⟩⟩, ⟨false, none, some 124, 38, .move (.tmp 129)⟩, ⟨false, none, some 130, 37, .extract (.tmp 124) 0⟩, ⟨false, none, some 131, 23, .extract (.tmp 124) 1⟩, ⟨false, none, some 17, 0, .alloc 37⟩, ⟨false, none, none, 0, .store 37 (.tmp 17) (.tmp 130)⟩, ⟨false, none, some 18, 23, .assign (.tmp 131)⟩]) mc7_r7)
noncomputable def mc7_r5 : MC := .seq (.ops [⟨false, none, some 90, 0, .fieldAddr 30 (.tmp 3) 2⟩, ⟨false, none, some 91, 0, .fieldAddr 26 (.tmp 90) 1⟩, ⟨false, none, some 92, 3, .load 3 (.tmp 91)⟩, ⟨false, none, some 93, 33, .buildSlice 33 1 #[(0, .tmp 92)]⟩, ⟨false, none, some 94, 0, .fieldAddr 30 (.tmp 3) 3⟩, ⟨false, none, some 95, 0, .fieldAddr 26 (.tmp 94) 0⟩, ⟨false, none, some 96, 3, .load 3 (.tmp 95)⟩, ⟨false, none, some 97, 33, .buildSlice 33 1 #[(0, .tmp 96)]⟩, ⟨false, none, some 98, 0, .fieldAddr 30 (.tmp 3) 4⟩, ⟨false, none, some 99, 0, .fieldAddr 26 (.tmp 98) 1⟩, ⟨false, none, some 100, 3, .load 3 (.tmp 99)⟩, ⟨false, none, some 101, 33, .buildSlice 33 1 #[(0, .tmp 100)]⟩, ⟨false, none, some 102, 35, .build 35 #[(0, .tmp 93), (1, .tmp 97), (2, .tmp 101)]⟩, ⟨false, none, some 13, 0, .alloc 35⟩, ⟨false, none, none, 0, .store 35 (.tmp 13) (.tmp 102)⟩]) (.seq (.ops [⟨false, none, some 103, 0, .fieldAddr 30 (.tmp 3) 2⟩, ⟨false, none, some 104, 0, .fieldAddr 26 (.tmp 103) 0⟩, ⟨false, none, some 105, 3, .load 3 (.tmp 104)⟩, ⟨false, none, some 106, 33, .buildSlice 33 1 #[(0, .tmp 105)]⟩, ⟨false, none, some 107, 0, .fieldAddr 30 (.tmp 3) 3⟩, ⟨false, none, some 108, 0, .fieldAddr 26 (.tmp 107) 0⟩, ⟨false, none, some 109, 3, .load 3 (.tmp 108)⟩, ⟨false, none, some 110, 33, .buildSlice 33 1 #[(0, .tmp 109)]⟩, ⟨false, none, some 111, 0, .fieldAddr 30 (.tmp 3) 4⟩, ⟨false, none, some 112, 0, .fieldAddr 26 (.tmp 111) 1⟩, ⟨false, none, some 113, 3, .load 3 (.tmp 112)⟩, ⟨false, none, some 114, 33, .buildSlice 33 1 #[(0, .tmp 113)]⟩, ⟨false, none, some 115, 35, .build 35 #[(0, .tmp 106), (1, .tmp 110), (2, .tmp 114)]⟩, ⟨false, none, some 14, 0, .alloc 35⟩, ⟨false, none, none, 0, .store 35 (.tmp 14) (.tmp 115)⟩]) mc7_r6)
noncomputable def mc7_r4 : MC := .seq (.ops [⟨false, none, some 84, 22, .move (.tmp 7)⟩, ⟨false, none, some 85, 3, .move (.tmp 1)⟩, ⟨false, none, some 86, 33, .buildSlice 33 1 #[(0, .tmp 85)]⟩, ⟨false, none, some 87, 42, .call ⟨.value (.func 21), #[.tmp 84, .tmp 86], #[22, 33]⟩⟩, ⟨false, none, some 83, 42, .move (.tmp 87)⟩, ⟨false, none, some 88, 41, .extract (.tmp 83) 0⟩, ⟨false, none, some 89, 23, .extract (.tmp 83) 1⟩, ⟨false, none, some 12, 0, .alloc 41⟩, ⟨false, none, none, 0, .store 41 (.tmp 12) (.tmp 88)⟩, ⟨false, none, some 11, 23, .assign (.tmp 89)⟩]) mc7_r5
noncomputable def mc7_r3 : MC := .seq (.seq (.ops [⟨false, none, some 57, 23, .move (.tmp 9)⟩, ⟨false, none, some 58, 4, .binOp .eql 23 (.tmp 57) (.const (.int .i64 0)) 23⟩, ⟨false, none, some 59, 4, .move (.tmp 58)⟩, ⟨false, some (59, true), some 60, 3, .move (.tmp 1)⟩, ⟨false, some (59, true), some 61, 0, .fieldAddr 26 (.tmp 8) 0⟩, ⟨false, some (59, true), some 62, 3, .load 3 (.tmp 61)⟩, ⟨false, some (59, true), some 63, 0, .fieldAddr 26 (.tmp 8) 1⟩, ⟨false, some (59, true), some 64, 3, .load 3 (.tmp 63)⟩, ⟨false, some (59, true), some 65, 4, .call ⟨.value (.func 33), #[.tmp 60, .tmp 62, .tmp 64], #[3, 3, 3]⟩⟩, ⟨false, none, some 66, 4, .pick (.tmp 59) (.tmp 65) (.const (.bool false))⟩]) (.cond (.tmp 66) (.seq (.ops [⟨false, none, some 67, 0, .fieldAddr 37 (.tmp 10) 1⟩, ⟨false, none, some 68, 3, .load 3 (.tmp 67)⟩, ⟨false, none, some 69, 4, .binOp .eql 3 (.tmp 68) (.const (.int .i64 0)) 3⟩, ⟨false, none, some 70, 4, .move (.tmp 69)⟩, ⟨false, some (70, true), some 71, 0, .fieldAddr 37 (.tmp 10) 2⟩, ⟨false, some (70, true), some 72, 3, .load 3 (.tmp 71)⟩, ⟨false, some (70, true), some 73, 4, .binOp .eql 3 (.tmp 72) (.const (.int .i64 0)) 3⟩, ⟨false, none, some 74, 4, .pick (.tmp 70) (.tmp 73) (.const (.bool false))⟩, ⟨false, none, some 75, 4, .move (.tmp 74)⟩, ⟨false, some (75, true), some 76, 0, .fieldAddr 37 (.tmp 10) 3⟩, ⟨false, some (75, true), some 77, 3, .load 3 (.tmp 76)⟩, ⟨false, some (75, true), some 78, 4, .binOp .eql 3 (.tmp 77) (.const (.int .i64 0)) 3⟩, ⟨false, none, some 79, 4, .pick (.tmp 75) (.tmp 78) (.const (.bool false))⟩, ⟨false, none, some 80, 4, .move (.tmp 79)⟩, ⟨false, some (80, true), some 81, 4, .call ⟨.value (.func 18), #[], #[]⟩⟩, ⟨false, none, some 82, 4, .pick (.tmp 80) (.tmp 81) (.const (.bool false))⟩, ⟨false, none, some 6, 4, .assign (.tmp 82)⟩]) (.ret)) (.skip))) mc7_r4
noncomputable def mc7_r2 : MC := .seq (.ops [⟨false, none, some 46, 22, .move (.tmp 7)⟩, ⟨false, none, some 47, 3, .move (.tmp 1)⟩, ⟨false, none, some 48, 33, .buildSlice 33 1 #[(0, .tmp 47)]⟩, ⟨false, none, some 49, 22, .move (.tmp 7)⟩, ⟨false, none, some 50, 33, .move (.tmp 2)⟩, ⟨false, none, some 51, 35, .call ⟨.value (.func 34), #[.tmp 49, .tmp 50], #[22, 33]⟩⟩, ⟨false, none, some 52, 38, .call ⟨.value (.func 19), #[.tmp 46, .tmp 48, .tmp 51], #[22, 33, 35]⟩⟩, ⟨false, none, some 45, 38, .move (.tmp 52)⟩, ⟨false, none, some 53, 37, .extract (.tmp 45) 0⟩, ⟨false, none, some 54, 23, .extract (.tmp 45) 1⟩, ⟨false, none, some 10, 0, .alloc 37⟩, ⟨false, none, none, 0, .store 37 (.tmp 10) (.tmp 53)⟩, ⟨false, none, some 11, 23, .assign (.tmp 54)⟩]) (.seq (.seq (.ops [⟨false, none, some 55, 23, .move (.tmp 11)⟩, ⟨false, none, some 56, 4, .binOp .neq 23 (.tmp 55) (.const (.int .i64 0)) 23⟩]) (.cond (.tmp 56) (.seq (.ops [⟨false, none, some 6, 4, .assign (.const (.bool false))⟩]) (.ret)) (.skip))) mc7_r3)
noncomputable def mc7_r1 : MC := .seq (.ops [⟨false, none, some 35, 30, .load 30 (.tmp 3)⟩, ⟨false, none, some 36, 27, .call ⟨.value (.func 16), #[.tmp 35], #[30]⟩⟩, ⟨false, none, some 34, 27, .move (.tmp 36)⟩, ⟨false, none, some 37, 26, .extract (.tmp 34) 0⟩, ⟨false, none, some 38, 23, .extract (.tmp 34) 1⟩, ⟨false, none, some 8, 0, .alloc 26⟩, ⟨false, none, none, 0, .store 26 (.tmp 8) (.tmp 37)⟩, ⟨false, none, some 9, 23, .assign (.tmp 38)⟩]) (.seq (.seq (.ops [⟨false, none, some 39, 23, .move (.tmp 9)⟩, ⟨false, none, some 40, 4, .binOp .neq 23 (.tmp 39) (.const (.int .i64 0)) 23⟩, ⟨false, none, some 41, 4, .move (.tmp 40)⟩, ⟨false, some (41, true), some 42, 23, .move (.tmp 9)⟩, ⟨false, some (41, true), some 43, 4, .binOp .neq 23 (.tmp 42) (.const (.int .i64 4)) 23⟩, ⟨false, none, some 44, 4, .pick (.tmp 41) (.tmp 43) (.const (.bool false))⟩]) (.cond (.tmp 44) (.seq (.ops [⟨false, none, some 6, 4, .assign (.const (.bool false))⟩]) (.ret)) (.skip))) mc7_r2)
theorem mc7_eq : mc7 = .seq (.ops [⟨false, none, some 3, 0, .box 30 (.tmp 0)⟩, ⟨false, none, some 6, 4, .assign (.const (.bool false))⟩]) (.seq (.ops [⟨false, none, some 21, 30, .load 30 (.tmp 3)⟩, ⟨false, none, some 22, 22, .buildSlice 22 1 #[(0, .tmp 21)]⟩, ⟨false, none, some 7, 22, .assign (.tmp 22)⟩]) (.seq (.seq (.ops [⟨false, none, some 23, 22, .move (.tmp 7)⟩, ⟨false, none, some 24, 23, .call ⟨.value (.func 14), #[.tmp 23], #[22]⟩⟩, ⟨false, none, some 25, 4, .binOp .neq 23 (.tmp 24) (.const (.int .i64 0)) 23⟩, ⟨false, none, some 26, 4, .move (.tmp 25)⟩, ⟨false, some (26, false), some 27, 3, .move (.tmp 1)⟩, ⟨false, some (26, false), some 28, 0, .fieldAddr 30 (.tmp 3) 1⟩, ⟨false, some (26, false), some 29, 3, .load 3 (.tmp 28)⟩, ⟨false, some (26, false), some 30, 4, .call ⟨.value (.func 33), #[.tmp 27, .tmp 29, .const (.int .i64 2000)], #[3, 3, 3]⟩⟩, ⟨false, some (26, false), some 31, 4, .unOp .not 4 (.tmp 30)⟩, ⟨false, none, some 32, 4, .pick (.tmp 26) (.const (.bool true)) (.tmp 31)⟩]) (.cond (.tmp 32) (.seq (.ops [⟨false, none, some 33, 4, .call ⟨.value (.func 18), #[], #[]⟩⟩, ⟨false, none, some 6, 4, .assign (.tmp 33)⟩]) (.ret)) (.skip))) mc7_r1)) := rfl
structure B7 (p : Pod) (n3 n7 : Nat) (w : AW) : Prop where
  pod : w.heap.get n3 = some (.cells (podC p) 30 false)
  l3 : n3 < w.next
  pods : PodsV w (.slice (some ⟨n7, 0, none⟩) 1 1) [p]
  parts : PartsW w
  lim : w.lim ≤ w.next
theorem B7.old {p : Pod} {n3 n7 : Nat} {w w' : AW} (h : B7 p n3 n7 w) (ho : Old w.next w.heap w'.heap) (hn : w.next ≤ w'.next) (hl : w'.lim = w.lim) : B7 p n3 n7 w' := by
  have hx := h.l3
  have hy := h.lim
  exact ⟨by rw [ho _ hx]; exact h.pod, by omega, h.pods.old ho hn, h.parts.old ho hn, by omega⟩
theorem one_row (w : AW) (z : Int) (H : T AObj) (n lim : Nat) (ho : H.get w.next = some (.cells [.int .i64 z] 3 false)) (hn : w.next < n) : RowsV intC ⟨H, n, lim⟩ (.slice (some ⟨w.next, 0, none⟩) 1 1) [z] :=
  .inr ⟨w.next, 0, none, 1, rfl, ⟨[], [], 3, false, by show H.get _ = _; rw [ho]; rfl, rfl⟩, hn⟩
set_option maxHeartbeats 2000000 in
theorem last7 {ov : Ov} (hW : HasW ov) (p : Pod) (hp : podB p = true) (day : Int) (n3 n7 : Nat) (w : AW) (hw : B7 p n3 n7 w) (a b : Yl) (y1 y2 y3 y4 y5 : Int)
    (n12 n15 n17 : Nat) (k12 : w.heap.get n12 = some (.cells [.int .i64 0, .int .i64 y1, .int .i64 y2, .int .i64 y3, .int .i64 y4, .int .i64 y5] 41 false)) (k15 : w.heap.get n15 = some (.cells (ylC a) 37 false)) (k17 : w.heap.get n17 = some (.cells (ylC b) 37 false))
    (hor : day < p.born + p.rh ∨ p.born + p.rl + p.hl ≤ day) (ha : day < p.born + p.rh → a.ripe = 0 ∧ a.split = 0) (hb : p.born + p.rl + p.hl ≤ day → b.split = 1 ∧ b.ripe = 0)
    (Q : Ex → Tm → AW → Prop) (t : Tm) (t1 : tget t 1 = .int .i64 day) (t3 : tget t 3 = .pointer (some ⟨n3, 0, none⟩)) (t11 : tget t 11 = .int .i64 0) (t12 : tget t 12 = .pointer (some ⟨n12, 0, none⟩)) (t15 : tget t 15 = .pointer (some ⟨n15, 0, none⟩)) (t16 : tget t 16 = .int .i64 0) (t17 : tget t 17 = .pointer (some ⟨n17, 0, none⟩)) (t18 : tget t 18 = .int .i64 0)
    (hQ : ∀ t w, tget t 6 = .bool true → Q .ret t w) :
    wp (exM Tryd.prog (run Tryd.prog ov 2) mc7_r7 t w) Q := by
  have k := pod_ok hp
  have kb := k.born0; have kb1 := k.born1; have kr0 := k.r0; have kr1 := k.r1; have kr2 := k.r2; have kh0 := k.h0; have kh1 := k.h1; have kh2 := k.h2
  have c1 : ∀ h, (podC p)[1]'h = .int .i64 p.born := fun _ => rfl
  have c2 : ∀ h, (podC p)[2]'h = .int .i64 p.rl := fun _ => rfl
  have c3 : ∀ h, (podC p)[3]'h = .int .i64 p.rh := fun _ => rfl
  have c4 : ∀ h, (podC p)[4]'h = .int .i64 p.hl := fun _ => rfl
  have w1 : IntKind.wrap .i64 (p.born + p.rh) = p.born + p.rh := wrap64_in (by omega) (by omega)
  have w2 : IntKind.wrap .i64 (p.born + p.rl) = p.born + p.rl := wrap64_in (by omega) (by omega)
  have w3 : IntKind.wrap .i64 (p.born + p.rl + p.hl) = p.born + p.rl + p.hl := wrap64_in (by omega) (by omega)
  have hbox := hw.pod
  have rW : (run Tryd.prog ov 2).call 18 [] w .none = .ok (.ret (.bool true)) w .none := later2W hW hw.parts w.heap w.next w.lim (Old.refl _ _) (Nat.le_refl _)
  by_cases g : day < p.born + p.rh
  · obtain ⟨a1, a2⟩ := ha g
    by_cases s : p.born + p.rl + p.hl ≤ day
    · obtain ⟨b1, b2⟩ := hb s
      simp [mc7_r7, t1, t3, t11, t12, t15, t16, t17, t18, hbox, c1, c2, c3, c4, w1, w2, w3, k12, k15, k17, g, s, ylC, a1, a2, b1, b2, rW]
      exact hQ _ _ (by simp)
    · simp [mc7_r7, t1, t3, t11, t12, t15, t16, t17, t18, hbox, c1, c2, c3, c4, w1, w2, w3, k12, k15, k17, g, s, ylC, a1, a2, rW]
      exact hQ _ _ (by simp)
  · have s : p.born + p.rl + p.hl ≤ day := by omega
    obtain ⟨b1, b2⟩ := hb s
    simp [mc7_r7, t1, t3, t11, t12, t15, t16, t17, t18, hbox, c1, c2, c3, c4, w1, w2, w3, k12, k15, k17, g, s, ylC, b1, b2, rW]
    exact hQ _ _ (by simp)
/-- a harvest of the one pod, on a day that has just been laid -/
theorem day19 {ov : Ov} (h19 : HasP ov 19 F19) {p : Pod} {n3 n7 : Nat} {w : AW} (hw : B7 p n3 n7 w) {day r h g : Int} (hB : podsB [p] = true) (hP : planB [p] [day] = true) (ht : truthOk p r h g = true) {vr vh vg : Value} (hr : RowsV intC w vr [r]) (hh : RowsV intC w vh [h]) (hg : RowsV intC w vg [g]) (Hp : T AObj) (n lim B : Nat) (ho : Old w.next w.heap Hp) (hn : w.next ≤ n) (hB' : Hp.get B = some (.cells [.int .i64 day] 3 false)) (hlt : B < n) :
    (run Tryd.prog ov 2).call 19 [.slice (some ⟨n7, 0, none⟩) 1 1, .slice (some ⟨B, 0, none⟩) 1 1, .agg ⟨[vr, vh, vg]⟩] ⟨Hp, n, lim⟩ .none = .ok (.ret (.tuple ⟨[.agg ⟨ylC (ylI p.born day r h g)⟩, .int .i64 0]⟩)) ⟨Hp, n, lim⟩ .none := by
  have hu : RowsV intC ⟨Hp, n, lim⟩ (.slice (some ⟨B, 0, none⟩) 1 1) [day] := .inr ⟨B, 0, none, 1, rfl, ⟨[], [], 3, false, by show Hp.get _ = _; rw [hB']; rfl, rfl⟩, hlt⟩
  have := rule19 h19 (w := ⟨Hp, n, lim⟩) (hw.parts.old ho hn) (hw.pods.old (w' := ⟨Hp, n, lim⟩) ho hn).podsIn hu (hr.old ho hn) (hh.old ho hn) (hg.old ho hn) 1
  obtain ⟨e1, e2⟩ := har_1 hB hP ht
  rw [e1, e2] at this
  exact this
theorem day21 {ov : Ov} (h21 : HasP ov 21 F21) {p : Pod} {n3 n7 : Nat} {w : AW} (hw : B7 p n3 n7 w) {day : Int} (hB : podsB [p] = true) (hP : planB [p] [day] = true) (Hp : T AObj) (n lim B : Nat) (ho : Old w.next w.heap Hp) (hn : w.next ≤ n) (hB' : Hp.get B = some (.cells [.int .i64 day] 3 false)) (hlt : B < n) :
    (run Tryd.prog ov 2).call 21 [.slice (some ⟨n7, 0, none⟩) 1 1, .slice (some ⟨B, 0, none⟩) 1 1] ⟨Hp, n, lim⟩ .none = .ok (.ret (.tuple ⟨[.agg ⟨sixC (endsY (podS p day))⟩, .int .i64 0]⟩)) ⟨Hp, n, lim⟩ .none := by
  have hu : RowsV intC ⟨Hp, n, lim⟩ (.slice (some ⟨B, 0, none⟩) 1 1) [day] := .inr ⟨B, 0, none, 1, rfl, ⟨[], [], 3, false, by show Hp.get _ = _; rw [hB']; rfl, rfl⟩, hlt⟩
  have := rule21 h21 (w := ⟨Hp, n, lim⟩) (hw.parts.old ho hn) (hw.pods.old (w' := ⟨Hp, n, lim⟩) ho hn).podsIn hu 1
  have e : chkE [p] [day] = 0 := by simp [chkE, hB, hP]
  unfold weiV at this
  rw [weiC, if_pos e, e, wg_1] at this
  exact this
theorem planB_1 {p : Pod} {day : Int} (h1 : p.born ≤ day) (h2 : day ≤ 2000) : planB [p] [day] = true := by
  simp [planB, planTo, planOk, h1, h2]
theorem low_zero {p : Pod} (hp : podB p = true) {day : Int} (h1 : p.born ≤ day) (h2 : day ≤ 2000) (hor : day < p.born + p.rh ∨ p.born + p.rl + p.hl ≤ day) : (endsY (podS p day)).1.ripe = 0 := by
  have k := pod_ok hp
  have kb := k.born0; have kr0 := k.r0; have kr1 := k.r1; have kh0 := k.h0; have kh1 := k.h1; have kg1 := k.g1
  have hpl : planOk p day = true := by simp [planOk, h1, h2]
  have hs := (ends_small (p := p) (d := day) ⟨hp, hpl⟩).1.1
  have hd := plan_day hpl
  have n0 : ¬ day = -1 := by omega
  rcases hor with h | h
  · have := (in_ripe k hd (r := p.rh) (h := p.hl) (g := p.gh) kr1 (Int.le_refl _) (Int.le_refl _) kh1 kg1 (Int.le_refl _)).1
    have e : (ylI p.born day p.rh p.hl p.gh).ripe = 0 := by simp [ylI, n0, show day - p.born < p.rh by omega]
    rw [e] at this
    show (endsY (sampY _ _ _ _ _ _ _ _)).1.ripe = 0
    unfold podS at hs
    omega
  · have := (in_ripe k hd (r := p.rl) (h := p.hl) (g := p.gh) (Int.le_refl _) kr1 (Int.le_refl _) kh1 kg1 (Int.le_refl _)).1
    have e : (ylI p.born day p.rl p.hl p.gh).ripe = 0 := by simp [ylI, n0, show ¬ day - p.born < p.rl by omega, show ¬ day - p.born < p.rl + p.hl by omega]
    rw [e] at this
    show (endsY (sampY _ _ _ _ _ _ _ _)).1.ripe = 0
    unfold podS at hs
    omega
set_option maxHeartbeats 4000000 in
theorem six7 {ov : Ov} (h19 : HasP ov 19 F19) (hW : HasW ov) (p : Pod) (hp : podB p = true) (hB : podsB [p] = true) (day : Int) (h1 : p.born ≤ day) (h2 : day ≤ 2000) (n3 n7 : Nat) (w : AW) (hw : B7 p n3 n7 w) (y1 y2 y3 y4 y5 : Int)
    (n12 : Nat) (k12 : w.heap.get n12 = some (.cells [.int .i64 0, .int .i64 y1, .int .i64 y2, .int .i64 y3, .int .i64 y4, .int .i64 y5] 41 false)) (l12 : n12 < w.next)
    (n13 n14 : Nat) (vr vh vg ur uh ug : Value) (k13 : w.heap.get n13 = some (.cells [vr, vh, vg] 35 false)) (k14 : w.heap.get n14 = some (.cells [ur, uh, ug] 35 false)) (l13 : n13 < w.next) (l14 : n14 < w.next)
    (q1 : RowsV intC w vr [p.rh]) (q2 : RowsV intC w vh [p.hl]) (q3 : RowsV intC w vg [p.gh]) (q4 : RowsV intC w ur [p.rl]) (q5 : RowsV intC w uh [p.hl]) (q6 : RowsV intC w ug [p.gh])
    (hor : day < p.born + p.rh ∨ p.born + p.rl + p.hl ≤ day)
    (Q : Ex → Tm → AW → Prop) (t : Tm) (t1 : tget t 1 = .int .i64 day) (t3 : tget t 3 = .pointer (some ⟨n3, 0, none⟩)) (t7 : tget t 7 = .slice (some ⟨n7, 0, none⟩) 1 1) (t11 : tget t 11 = .int .i64 0) (t12 : tget t 12 = .pointer (some ⟨n12, 0, none⟩)) (t13 : tget t 13 = .pointer (some ⟨n13, 0, none⟩)) (t14 : tget t 14 = .pointer (some ⟨n14, 0, none⟩))
    (hQ : ∀ t w, tget t 6 = .bool true → Q .ret t w) :
    wp (exM Tryd.prog (run Tryd.prog ov 2) mc7_r6 t w) Q := by
  have k := pod_ok hp
  have kb := k.born0; have kr0 := k.r0; have kr1 := k.r1; have kh0 := k.h0; have kh1 := k.h1; have kg1 := k.g1
  have hP := planB_1 h1 h2
  have r1 := day19 h19 hw hB hP (r := p.rh) (h := p.hl) (g := p.gh) (by simp [truthOk, inI, kr1, kh1, kg1]) q1 q2 q3
  have r2 := day19 h19 hw hB hP (r := p.rl) (h := p.hl) (g := p.gh) (by simp [truthOk, inI, kr1, kh1, kg1]) q4 q5 q6
  have m13 : ¬ n13 = w.next := by omega
  have m13' : ¬ n13 = w.next + 1 := by omega
  have m14 : ¬ n14 = w.next := by omega
  have m14a : ¬ n14 = w.next + 1 := by omega
  have m14b : ¬ n14 = w.next + 1 + 1 := by omega
  have ll := hw.lim
  have l1 : w.lim ≤ w.next + 1 := by omega
  have l3 : w.lim ≤ w.next + 3 := by omega
  obtain ⟨A, hA⟩ : ∃ A, A = ylI p.born day p.rh p.hl p.gh := ⟨_, rfl⟩
  obtain ⟨C, hC⟩ : ∃ C, C = ylI p.born day p.rl p.hl p.gh := ⟨_, rfl⟩
  rw [← hA] at r1
  rw [← hC] at r2
  simp (maxDischargeDepth := 40) [mc7_r6, t1, t7, t13, t14, k13, k14, m13, m13', m14, m14a, m14b, r1, r2, l1, l3, cellsOf_agg]
  refine last7 hW p hp day n3 n7 _ (hw.old ?_ ?_ ?_) A C y1 y2 y3 y4 y5 n12 (w.next + 1) (w.next + 3) ?_ ?_ ?_ hor ?_ ?_ _ _ ?_ ?_ ?_ ?_ ?_ ?_ ?_ ?_ hQ
  case _ => simp (maxDischargeDepth := 40)
  case _ => show w.next ≤ w.next + 4; omega
  case _ => rfl
  case _ => simp [k12, show ¬ n12 = w.next by omega, show ¬ n12 = w.next + 1 by omega, show ¬ n12 = w.next + 2 by omega, show ¬ n12 = w.next + 3 by omega]
  case _ => simp
  case _ => simp
  case _ =>
    intro h
    rw [hA]
    simp [ylI, show ¬ day = -1 by omega, show day - p.born < p.rh by omega]
  case _ =>
    intro h
    rw [hC]
    simp [ylI, show ¬ day = -1 by omega, show ¬ day - p.born < p.rl by omega, show ¬ day - p.born < p.rl + p.hl by omega]
  case _ => simp [t1]
  case _ => simp [t3]
  case _ => simp [t11]
  case _ => simp [t12]
  case _ => simp
  case _ => simp
  case _ => simp
  case _ => simp
end Go.Proofs.YtbmhpgoceobbdaaDoor.walk

namespace Go.Proofs.YtbmhpgoceobbdaaDoor.walk
open Go Go.Sh
open known (partsC laidL noOv)
set_option maxRecDepth 100000
set_option linter.unusedSimpArgs false
/-! law 7 -/
theorem row_at {H : T AObj} {n lim B : Nat} {z : Int} (h : H.get B = some (.cells [.int .i64 z] 3 false)) (hlt : B < n) : RowsV intC ⟨H, n, lim⟩ (.slice (some ⟨B, 0, none⟩) 1 1) [z] :=
  .inr ⟨B, 0, none, 1, rfl, ⟨[], [], 3, false, by show H.get _ = _; rw [h]; rfl, rfl⟩, hlt⟩
set_option maxHeartbeats 4000000 in
theorem five7 {ov : Ov} (h19 : HasP ov 19 F19) (hW : HasW ov) (p : Pod) (hp : podB p = true) (hB : podsB [p] = true) (day : Int) (h1 : p.born ≤ day) (h2 : day ≤ 2000) (n3 n7 : Nat) (w : AW) (hw : B7 p n3 n7 w) (y1 y2 y3 y4 y5 : Int)
    (n12 : Nat) (k12 : w.heap.get n12 = some (.cells [.int .i64 0, .int .i64 y1, .int .i64 y2, .int .i64 y3, .int .i64 y4, .int .i64 y5] 41 false)) (l12 : n12 < w.next)
    (hor : day < p.born + p.rh ∨ p.born + p.rl + p.hl ≤ day)
    (Q : Ex → Tm → AW → Prop) (t : Tm) (t1 : tget t 1 = .int .i64 day) (t3 : tget t 3 = .pointer (some ⟨n3, 0, none⟩)) (t7 : tget t 7 = .slice (some ⟨n7, 0, none⟩) 1 1) (t11 : tget t 11 = .int .i64 0) (t12 : tget t 12 = .pointer (some ⟨n12, 0, none⟩))
    (hQ : ∀ t w, tget t 6 = .bool true → Q .ret t w) :
    wp (exM Tryd.prog (run Tryd.prog ov 2) mc7_r5 t w) Q := by
  have c2 : ∀ h, (podC p)[2]'h = .int .i64 p.rl := fun _ => rfl
  have c3 : ∀ h, (podC p)[3]'h = .int .i64 p.rh := fun _ => rfl
  have c4 : ∀ h, (podC p)[4]'h = .int .i64 p.hl := fun _ => rfl
  have c7 : ∀ h, (podC p)[7]'h = .int .i64 p.gh := fun _ => rfl
  have hbox := hw.pod
  have ll := hw.lim
  have l3 := hw.l3
  have m0 : ¬ n3 = w.next := by omega
  have m1 : ¬ n3 = w.next + 1 := by omega
  have m2 : ¬ n3 = w.next + 1 + 1 := by omega
  have m3 : ¬ n3 = w.next + 1 + 1 + 1 := by omega
  have m4 : ¬ n3 = w.next + 1 + 1 + 1 + 1 := by omega
  have m5 : ¬ n3 = w.next + 1 + 1 + 1 + 1 + 1 := by omega
  have q0 : ¬ n12 = w.next := by omega
  have q1 : ¬ n12 = w.next + 1 := by omega
  have q2 : ¬ n12 = w.next + 1 + 1 := by omega
  have q3 : ¬ n12 = w.next + 1 + 1 + 1 := by omega
  have q4 : ¬ n12 = w.next + 1 + 1 + 1 + 1 := by omega
  have q5 : ¬ n12 = w.next + 1 + 1 + 1 + 1 + 1 := by omega
  have q6 : ¬ n12 = w.next + 1 + 1 + 1 + 1 + 1 + 1 := by omega
  have q7 : ¬ n12 = w.next + 1 + 1 + 1 + 1 + 1 + 1 + 1 := by omega
  have la : w.lim ≤ w.next + 1 + 1 + 1 := by omega
  have lb : w.lim ≤ w.next + 1 + 1 + 1 + 1 + 1 + 1 + 1 := by omega
  simp [mc7_r5, t1, t3, hbox, c2, c3, c4, c7, m0, m1, m2, m3, m4, m5, la, lb, cellsOf_agg]
  refine six7 h19 hW p hp hB day h1 h2 n3 n7 _ (hw.old ?_ ?_ ?_) y1 y2 y3 y4 y5 n12 ?_ ?_ (w.next + 1 + 1 + 1) (w.next + 1 + 1 + 1 + 1 + 1 + 1 + 1) _ _ _ _ _ _ ?_ ?_ ?_ ?_ (row_at (B := w.next) ?_ ?_) (row_at (B := w.next + 1) ?_ ?_) (row_at (B := w.next + 1 + 1) ?_ ?_) (row_at (B := w.next + 1 + 1 + 1 + 1) ?_ ?_) (row_at (B := w.next + 1 + 1 + 1 + 1 + 1) ?_ ?_) (row_at (B := w.next + 1 + 1 + 1 + 1 + 1 + 1) ?_ ?_) hor _ _ ?_ ?_ ?_ ?_ ?_ ?_ ?_ hQ
  case _ => simp (maxDischargeDepth := 40)
  case _ => show w.next ≤ w.next + 8; omega
  case _ => rfl
  case _ => simp [k12, q0, q1, q2, q3, q4, q5, q6, q7]
  case _ => show n12 < w.next + 8; omega
  case _ => simp
  case _ => simp
  case _ => show w.next + 3 < w.next + 8; omega
  case _ => show w.next + 7 < w.next + 8; omega
  case _ => simp
  case _ => omega
  case _ => simp
  case _ => omega
  case _ => simp
  case _ => omega
  case _ => simp
  case _ => omega
  case _ => simp
  case _ => omega
  case _ => simp
  case _ => omega
  case _ => simp [t1]
  case _ => simp [t3]
  case _ => simp [t7]
  case _ => simp [t11]
  case _ => simp [t12]
  case _ => simp
  case _ => simp
set_option maxHeartbeats 4000000 in
theorem four7 {ov : Ov} (h19 : HasP ov 19 F19) (h21 : HasP ov 21 F21) (hW : HasW ov) (p : Pod) (hp : podB p = true) (hB : podsB [p] = true) (day : Int) (h1 : p.born ≤ day) (h2 : day ≤ 2000) (n3 n7 : Nat) (w : AW) (hw : B7 p n3 n7 w)
    (hor : day < p.born + p.rh ∨ p.born + p.rl + p.hl ≤ day)
    (Q : Ex → Tm → AW → Prop) (t : Tm) (t1 : tget t 1 = .int .i64 day) (t3 : tget t 3 = .pointer (some ⟨n3, 0, none⟩)) (t7 : tget t 7 = .slice (some ⟨n7, 0, none⟩) 1 1)
    (hQ : ∀ t w, tget t 6 = .bool true → Q .ret t w) :
    wp (exM Tryd.prog (run Tryd.prog ov 2) mc7_r4 t w) Q := by
  have r21 := day21 h21 hw hB (planB_1 h1 h2)
  have hlo := low_zero hp h1 h2 hor
  unfold sixC at r21
  rw [hlo] at r21
  have ll := hw.lim
  have la : w.lim ≤ w.next + 1 := by omega
  simp (maxDischargeDepth := 40) [mc7_r4, t1, t7, r21, la, cellsOf_agg]
  refine five7 h19 hW p hp hB day h1 h2 n3 n7 _ (hw.old ?_ ?_ ?_) (endsY (podS p day)).2.ripe (endsY (podS p day)).1.green (endsY (podS p day)).2.green (endsY (podS p day)).1.split (endsY (podS p day)).2.split (w.next + 1) ?_ ?_ hor _ _ ?_ ?_ ?_ ?_ ?_ hQ
  case _ => simp (maxDischargeDepth := 40)
  case _ => show w.next ≤ w.next + 2; omega
  case _ => rfl
  case _ => simp
  case _ => show w.next + 1 < w.next + 2; omega
  case _ => simp [t1]
  case _ => simp [t3]
  case _ => simp [t7]
  case _ => simp
  case _ => simp
end Go.Proofs.YtbmhpgoceobbdaaDoor.walk

namespace Go.Proofs.YtbmhpgoceobbdaaDoor.walk
open Go Go.Sh
open known (partsC laidL noOv)
set_option maxRecDepth 100000
set_option linter.unusedSimpArgs false
/-! law 7 -/
theorem win_1 {p : Pod} (hp : podB p = true) : winL p = p.born + p.rh ∧ winH p = p.born + p.rl + p.hl - 1 := by
  have k := pod_ok hp
  have kb := k.born0; have kb1 := k.born1; have kr0 := k.r0; have kr1 := k.r1; have kr2 := k.r2; have kh0 := k.h0; have kh1 := k.h1; have kh2 := k.h2
  refine ⟨wrap64_in (by omega) (by omega), ?_⟩
  unfold winH
  rw [show IntKind.wrap .i64 (p.born + p.rl) = p.born + p.rl from wrap64_in (by omega) (by omega), show IntKind.wrap .i64 (p.born + p.rl + p.hl) = p.born + p.rl + p.hl from wrap64_in (by omega) (by omega)]
  exact wrap64_in (by omega) (by omega)
set_option maxHeartbeats 400000 in
theorem three7 {ov : Ov} (h19 : HasP ov 19 F19) (h21 : HasP ov 21 F21) (h33 : HasP ov 33 F33) (hW : HasW ov) (p : Pod) (hp : podB p = true) (hB : podsB [p] = true) (day : Int) (h1 : p.born ≤ day) (h2 : day ≤ 2000) (n3 n7 : Nat) (w : AW) (hw : B7 p n3 n7 w)
    (n8 n10 : Nat) (r h g : Int) (ht : truthOk p r h g = true) (k8 : w.heap.get n8 = some (.cells [.int .i64 (wA p), .int .i64 (wB p)] 26 false)) (k10 : w.heap.get n10 = some (.cells (ylC (ylI p.born day r h g)) 37 false))
    (Q : Ex → Tm → AW → Prop) (t : Tm) (t1 : tget t 1 = .int .i64 day) (t3 : tget t 3 = .pointer (some ⟨n3, 0, none⟩)) (t7 : tget t 7 = .slice (some ⟨n7, 0, none⟩) 1 1) (t8 : tget t 8 = .pointer (some ⟨n8, 0, none⟩)) (t9 : tget t 9 = .int .i64 (wE p)) (t10 : tget t 10 = .pointer (some ⟨n10, 0, none⟩))
    (hQ : ∀ t w, tget t 6 = .bool true → Q .ret t w) :
    wp (exM Tryd.prog (run Tryd.prog ov 2) mc7_r3 t w) Q := by
  have k := pod_ok hp
  have kb := k.born0; have kr0 := k.r0; have kr1 := k.r1; have kh0 := k.h0; have kh1 := k.h1; have kg1 := k.g1
  obtain ⟨e1, e2⟩ := win_1 hp
  have r33 : ∀ (n a b : Int) w, (run Tryd.prog ov 2).call 33 [.int .i64 n, .int .i64 a, .int .i64 b] w .none = .ok (.ret (.bool (inI a n b))) w .none := fun n a b w => h33.call rfl
  have rW : (run Tryd.prog ov 2).call 18 [] w .none = .ok (.ret (.bool true)) w .none := later2W hW hw.parts w.heap w.next w.lim (Old.refl _ _) (Nat.le_refl _)
  simp only [truthOk, inI, Bool.and_eq_true, decide_eq_true_eq] at ht
  by_cases hE : wE p = 0
  · have eA : wA p = p.born + p.rh := by rw [wA, if_pos hE, e1]
    have eB : wB p = p.born + p.rl + p.hl - 1 := by rw [wB, if_pos hE, e2]
    cases hI : inI (wA p) day (wB p) with
    | true =>
      have hI' := hI
      simp only [inI, eA, eB, Bool.and_eq_true, decide_eq_true_eq] at hI'
      have ey : ylI p.born day r h g = ⟨gramI p.born day r g, 0, 0, 0⟩ := by
        unfold ylI
        rw [if_neg (by omega), if_neg (by omega), if_pos (by omega)]
      rw [ey] at k10
      simp [mc7_r3, t1, t8, t9, t10, hE, k8, k10, r33, hI, ylC, rW]
      exact hQ _ _ (by simp)
    | false =>
      have hor : day < p.born + p.rh ∨ p.born + p.rl + p.hl ≤ day := by
        simp only [inI, eA, eB, Bool.and_eq_false_iff, decide_eq_false_iff_not] at hI
        omega
      simp [mc7_r3, t1, t8, t9, t10, hE, k8, r33, hI]
      exact four7 h19 h21 hW p hp hB day h1 h2 n3 n7 w hw hor _ _ (by simp [t1]) (by simp [t3]) (by simp [t7]) hQ
  · have hor : day < p.born + p.rh ∨ p.born + p.rl + p.hl ≤ day := by
      unfold wE at hE
      rw [hB, e1, e2] at hE
      by_cases c : p.born + p.rl + p.hl - 1 < p.born + p.rh
      · omega
      · rw [if_neg c] at hE
        exact absurd rfl hE
    simp [mc7_r3, t1, t8, t9, t10, hE]
    exact four7 h19 h21 hW p hp hB day h1 h2 n3 n7 w hw hor _ _ (by simp [t1]) (by simp [t3]) (by simp [t7]) hQ
theorem pk_one (f : Nat → Pod → Int) (p : Pod) : pk f [p] [p].length = [f 0 p] := rfl
set_option maxHeartbeats 1000000 in
theorem two7 {ov : Ov} (h34 : ∀ args w, ov 34 args w = none) (h41 : HasP ov 41 F41) (h38 : HasP ov 38 F38) (h19 : HasP ov 19 F19) (h21 : HasP ov 21 F21) (h33 : HasP ov 33 F33) (hW : HasW ov) (p : Pod) (hp : podB p = true) (hB : podsB [p] = true) (day : Int) (h1 : p.born ≤ day) (h2 : day ≤ 2000) (n3 n7 : Nat) (w : AW) (hw : B7 p n3 n7 w)
    (n8 : Nat) (k8 : w.heap.get n8 = some (.cells [.int .i64 (wA p), .int .i64 (wB p)] 26 false)) (l8 : n8 < w.next) (bv : Value) (bits : List Int) (hb : RowsV intC w bv bits) (hbl : bits.length ≤ 2 ^ 60)
    (Q : Ex → Tm → AW → Prop) (t : Tm) (t1 : tget t 1 = .int .i64 day) (t2 : tget t 2 = bv) (t3 : tget t 3 = .pointer (some ⟨n3, 0, none⟩)) (t7 : tget t 7 = .slice (some ⟨n7, 0, none⟩) 1 1) (t8 : tget t 8 = .pointer (some ⟨n8, 0, none⟩)) (t9 : tget t 9 = .int .i64 (wE p))
    (hQ : ∀ t w, tget t 6 = .bool true → Q .ret t w) :
    wp (exM Tryd.prog (run Tryd.prog ov 2) mc7_r2 t w) Q := by
  have ll := hw.lim
  have o1 : Old w.next w.heap (w.heap.put w.next (some (.cells [.int .i64 day] 3 false))) := (Old.refl _ _).put (Nat.le_refl _)
  obtain ⟨x, w', hc, vr, vh, vg, rfl, k1, k2, k3, ho, hn, hlm⟩ := call34 h34 h41 h38 bv (.slice (some ⟨n7, 0, none⟩) 1 1) bits [p] ⟨w.heap.put w.next (some (.cells [.int .i64 day] 3 false)), w.next + 1, w.lim⟩ (by show w.lim ≤ w.next + 1; omega) (hw.pods.old o1 (Nat.le_succ _)) (hb.old o1 (Nat.le_succ _)) hbl hB
  have hn' : w.next + 1 ≤ w'.next := hn
  have hlm' : w'.lim = w.lim := hlm
  have ho' : Old (w.next + 1) (w.heap.put w.next (some (.cells [.int .i64 day] 3 false))) w'.heap := ho
  rw [pk_one] at k1 k2 k3
  have ow : Old w.next w.heap w'.heap := o1.trans ho' (Nat.le_succ _)
  have hw' : B7 p n3 n7 w' := hw.old ow (by omega) hlm'
  have hd : w'.heap.get w.next = some (.cells [.int .i64 day] 3 false) := by rw [ho' _ (Nat.lt_succ_self _)]; simp
  have r19 : (run Tryd.prog ov 2).call 19 [.slice (some ⟨n7, 0, none⟩) 1 1, .slice (some ⟨w.next, 0, none⟩) 1 1, .agg ⟨[vr, vh, vg]⟩] w' .none = .ok (.ret (.tuple ⟨[.agg ⟨ylC (ylI p.born day (fR bits 0 p) (fH bits 0 p) (fG bits 0 p))⟩, .int .i64 0]⟩)) w' .none :=
    day19 h19 hw' hB (planB_1 h1 h2) (choose_ok hp bits 0) k1 k2 k3 w'.heap w'.next w'.lim w.next (Old.refl _ _) (Nat.le_refl _) hd (by omega)
  have la : w'.lim ≤ w'.next := hw'.lim
  have k8' : w'.heap.get n8 = some (.cells [.int .i64 (wA p), .int .i64 (wB p)] 26 false) := by rw [ow _ l8, k8]
  have m8 : ¬ n8 = w'.next := by omega
  obtain ⟨Y, hY⟩ : ∃ Y, Y = ylI p.born day (fR bits 0 p) (fH bits 0 p) (fG bits 0 p) := ⟨_, rfl⟩
  rw [← hY] at r19
  simp [mc7_r2, t1, t2, t7, hc, r19, la, cellsOf_agg]
  refine three7 h19 h21 h33 hW p hp hB day h1 h2 n3 n7 _ (hw'.old ?_ ?_ ?_) n8 w'.next (fR bits 0 p) (fH bits 0 p) (fG bits 0 p) (choose_ok hp bits 0) ?_ ?_ _ _ ?_ ?_ ?_ ?_ ?_ ?_ hQ
  case _ => simp (maxDischargeDepth := 40)
  case _ => exact Nat.le_succ _
  case _ => rfl
  case _ => simp [m8, k8']
  case _ => simp [hY]
  case _ => simp [t1]
  case _ => simp [t3]
  case _ => simp [t7]
  case _ => simp [t8]
  case _ => simp [t9]
  case _ => simp
set_option maxHeartbeats 1000000 in
theorem one7 {ov : Ov} (h34 : ∀ args w, ov 34 args w = none) (h16 : HasP ov 16 F16) (h41 : HasP ov 41 F41) (h38 : HasP ov 38 F38) (h19 : HasP ov 19 F19) (h21 : HasP ov 21 F21) (h33 : HasP ov 33 F33) (hW : HasW ov) (p : Pod) (hp : podB p = true) (hB : podsB [p] = true) (day : Int) (h1 : p.born ≤ day) (h2 : day ≤ 2000) (n3 n7 : Nat) (w : AW) (hw : B7 p n3 n7 w)
    (bv : Value) (bits : List Int) (hb : RowsV intC w bv bits) (hbl : bits.length ≤ 2 ^ 60)
    (Q : Ex → Tm → AW → Prop) (t : Tm) (t1 : tget t 1 = .int .i64 day) (t2 : tget t 2 = bv) (t3 : tget t 3 = .pointer (some ⟨n3, 0, none⟩)) (t7 : tget t 7 = .slice (some ⟨n7, 0, none⟩) 1 1)
    (hQ : ∀ t w, tget t 6 = .bool true → Q .ret t w) :
    wp (exM Tryd.prog (run Tryd.prog ov 2) mc7_r1 t w) Q := by
  have ll := hw.lim
  have hbox := hw.pod
  have r16 : (run Tryd.prog ov 2).call 16 [.agg ⟨podC p⟩] w .none = .ok (.ret (.tuple ⟨[.agg ⟨[.int .i64 (wA p), .int .i64 (wB p)]⟩, .int .i64 (wE p)]⟩)) w .none := h16.call rfl
  have hE : wE p = 0 ∨ wE p = 4 := by
    unfold wE
    rw [hB]
    by_cases c : winH p < winL p
    · exact .inr (if_pos c)
    · exact .inl (if_neg c)
  have key : ∀ t', tget t' 1 = .int .i64 day → tget t' 2 = bv → tget t' 3 = .pointer (some ⟨n3, 0, none⟩) → tget t' 7 = .slice (some ⟨n7, 0, none⟩) 1 1 → tget t' 8 = .pointer (some ⟨w.next, 0, none⟩) → tget t' 9 = .int .i64 (wE p) → ∀ z, wp (exM Tryd.prog (run Tryd.prog ov 2) mc7_r2 t' ⟨(w.heap.put w.next z).put w.next (some (.cells [.int .i64 (wA p), .int .i64 (wB p)] 26 false)), w.next + 1, w.lim⟩) Q := by
    intro t' u1 u2 u3 u7 u8 u9 z
    have o1 : ∀ c, Old w.next w.heap ((w.heap.put w.next z).put w.next c) := fun c => ((Old.refl _ _).put (Nat.le_refl _)).put (Nat.le_refl _)
    exact two7 h34 h41 h38 h19 h21 h33 hW p hp hB day h1 h2 n3 n7 ⟨(w.heap.put w.next z).put w.next (some (.cells [.int .i64 (wA p), .int .i64 (wB p)] 26 false)), w.next + 1, w.lim⟩ (hw.old (o1 _) (Nat.le_succ _) rfl) w.next (by simp) (Nat.lt_succ_self _) bv bits (hb.old (o1 _) (Nat.le_succ _)) hbl Q t' u1 u2 u3 u7 u8 u9 hQ
  rcases hE with hE | hE
  · rw [hE] at r16
    simp [mc7_r1, t3, hbox, r16, ll, cellsOf_agg]
    exact key _ (by simp [t1]) (by simp [t2]) (by simp [t3]) (by simp [t7]) (by simp) (by simp [hE]) _
  · rw [hE] at r16
    simp [mc7_r1, t3, hbox, r16, ll, cellsOf_agg]
    exact key _ (by simp [t1]) (by simp [t2]) (by simp [t3]) (by simp [t7]) (by simp) (by simp [hE]) _
set_option maxHeartbeats 1000000 in
theorem run7 {ov : Ov} (ho : ∀ args w, ov 7 args w = none) (h34 : ∀ args w, ov 34 args w = none) (h14 : HasP ov 14 F14) (h16 : HasP ov 16 F16) (h41 : HasP ov 41 F41) (h38 : HasP ov 38 F38) (h19 : HasP ov 19 F19) (h21 : HasP ov 21 F21) (h33 : HasP ov 33 F33) (hW : HasW ov) (p : Pod) (day : Int) (bits : List Int) (bv : Value) (w : AW) (hl : w.lim = w.next) (hPW : PartsW w) (hb : RowsV intC w bv bits) (hbl : bits.length ≤ 2 ^ 60) :
    ∃ x w', (run Tryd.prog ov 3).call 7 [.agg ⟨podC p⟩, .int .i64 day, bv] w .none = .ok (.ret x) w' .none ∧ x = .bool true := by
  refine call_wp text7 (by simp) (ho _ _) ?_
  have c1 : ∀ h, (podC p)[1]'h = .int .i64 p.born := fun _ => rfl
  have r33 : ∀ (n a b : Int) w, (run Tryd.prog ov 2).call 33 [.int .i64 n, .int .i64 a, .int .i64 b] w .none = .ok (.ret (.bool (inI a n b))) w .none := fun n a b w => h33.call rfl
  obtain ⟨W, hWd⟩ : ∃ W : AW, W = ⟨(w.heap.put w.next (some (.cells (podC p) 30 false))).put (w.next + 1) (some (.cells (podC p) 30 false)), w.next + 1 + 1, w.lim⟩ := ⟨_, rfl⟩
  have o1 : Old w.next w.heap W.heap := by rw [hWd]; exact ((Old.refl _ _).put (Nat.le_refl _)).put (Nat.le_succ _)
  have hn : w.next ≤ W.next := by rw [hWd]; show w.next ≤ w.next + 1 + 1; omega
  have b7 : B7 p w.next (w.next + 1) W := by
    refine ⟨by rw [hWd]; simp, by rw [hWd]; show w.next < w.next + 1 + 1; omega, .inr ⟨w.next + 1, none, 1, rfl, ⟨[], 30, false, ?_⟩, ?_⟩, hPW.old o1 hn, by rw [hWd]; show w.lim ≤ w.next + 1 + 1; omega⟩
    · rw [hWd]; simp [podsC]
    · rw [hWd]; exact Nat.lt_succ_self _
  have r14 : (run Tryd.prog ov 2).call 14 [.slice (some ⟨w.next + 1, 0, none⟩) 1 1] W .none = .ok (.ret (errB (podsB [p]) 30)) W .none := h14.call (by simp [F14, b7.pods.podsIn])
  have rW : (run Tryd.prog ov 2).call 18 [] W .none = .ok (.ret (.bool true)) W .none := later2W hW b7.parts W.heap W.next W.lim (Old.refl _ _) (Nat.le_refl _)
  have hbW := hb.old o1 hn
  rw [mc7_eq]
  cases hB : podsB [p] with
  | false =>
    rw [hB] at r14
    simp only [hWd] at r14 rW
    simp [r14, errB, rW, tupV]
  | true =>
    rw [hB] at r14
    have hp := pods_all hB (i := 0) (p := p) rfl
    cases hI : inI p.born day 2000 with
    | false =>
      simp only [hWd] at r14 rW
      simp [r14, errB, rW, c1, r33, hI, tupV]
    | true =>
      have hI' := hI
      simp only [inI, Bool.and_eq_true, decide_eq_true_eq] at hI'
      simp only [hWd] at r14
      simp [r14, errB, c1, r33, hI]
      rw [← hWd]
      refine one7 h34 h16 h41 h38 h19 h21 h33 hW p hp hB day hI'.1 hI'.2 w.next (w.next + 1) W b7 bv bits hbW hbl _ _ ?_ ?_ ?_ ?_ ?_
      case _ => simp
      case _ => simp
      case _ => simp
      case _ => simp
      case _ => intro t w t6; simp [t6, tupV]
end Go.Proofs.YtbmhpgoceobbdaaDoor.walk
