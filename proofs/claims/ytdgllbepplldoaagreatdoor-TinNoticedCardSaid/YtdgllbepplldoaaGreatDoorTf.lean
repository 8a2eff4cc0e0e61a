/-
  rostellumlaw08.TinNoticed (a text and its check sign are a code; a code in which one sign was replaced, or in which two signs changed places, is none, and Near names the code again where one sign was replaced or two neighbours changed places) answers true whatever the text and the numbers are, and they read behind the call as before.
  Conditions: those of the given row alone (its listed variables of the library and of the program hold what their initialisers lay; the card ties them to the text of the program).
  How: a machine of its own (the texts Sh) is proved to say of each call what the model does, whatever order is drawn; a sum modulo 37 notices each single fault and each exchange (TN1 to TN3), Near's list is the true codes among the faults of the text (IA), and the library's sort of texts is proved to order (IO).
-/
import Derived.Test.YtdgllbepplldoaaGreatDoorTe
import Derived.Test.YtdgllbepplldoaaGreatDoorShF
import Derived.Test.YtdgllbepplldoaaGreatDoorCards
import Derived.Test.YtdgllbepplldoaaGreatDoorTie
import Derived.WalkKit
import Derived.ProofKit
import Derived.OpenShut
import Derived.Deep.DeepHandedRow
import Derived.Deep.DeepWitnessRowRef
set_option linter.all false
namespace Go.Proofs.YtdgllbepplldoaaGreatDoor.walk
open Go Go.Sh
set_option maxRecDepth 100000
/-! TinNoticed: its text in pieces -/
noncomputable def mc5_r2:MC:=.seq (.ops [⟨false,none,some 84,9,.move (.tmp 11)⟩,⟨false,none,some 85,27,.call ⟨.value (.func 12),#[.tmp 84],#[9]⟩⟩,⟨false,none,some 83,27,.move (.tmp 85)⟩,⟨false,none,some 86,26,.extract (.tmp 83) 0⟩,⟨false,none,some 87,22,.extract (.tmp 83) 1⟩,⟨false,none,some 12,26,.assign (.tmp 86)⟩,⟨false,none,some 6,22,.assign (.tmp 87)⟩]) (.seq (.seq (.ops [⟨false,none,some 88,22,.move (.tmp 6)⟩,⟨false,none,some 89,4,.binOp .neq 22 (.tmp 88) (.const (.int .i64 0)) 22⟩,⟨false,none,some 90,4,.move (.tmp 89)⟩,⟨false,some (90,false),some 91,9,.move (.tmp 11)⟩,⟨false,some (90,false),some 92,4,.call ⟨.value (.func 10),#[.tmp 91],#[9]⟩⟩,⟨false,none,some 93,4,.pick (.tmp 90) (.const (.bool true)) (.tmp 92)⟩]) (.cond (.tmp 93) (.seq (.ops [⟨false,none,some 4,4,.assign (.const (.bool false))⟩]) (.ret)) (.skip))) (.seq (.ops [⟨false,none,some 94,0,.indexAddr 41 (.tmp 3) (.const (.int .i64 3))⟩,⟨false,none,some 95,3,.load 3 (.tmp 94)⟩,⟨false,none,some 96,3,.call ⟨.value (.func 20),#[.tmp 95,.const (.int .i64 2)],#[3,3]⟩⟩,⟨false,none,some 97,4,.binOp .eql 3 (.tmp 96) (.const (.int .i64 1)) 3⟩,⟨false,none,some 98,4,.move (.tmp 97)⟩,⟨false,some (98,true),some 99,3,.move (.tmp 8)⟩,⟨false,some (98,true),some 100,3,.move (.tmp 9)⟩,⟨false,some (98,true),some 101,3,.binOp .sub 3 (.tmp 99) (.tmp 100) 3⟩,⟨false,some (98,true),some 102,3,.move (.tmp 9)⟩,⟨false,some (98,true),some 103,3,.move (.tmp 8)⟩,⟨false,some (98,true),some 104,3,.binOp .sub 3 (.tmp 102) (.tmp 103) 3⟩,⟨false,some (98,true),some 105,3,.call ⟨.builtin .max,#[.tmp 101,.tmp 104],#[3,3]⟩⟩,⟨false,some (98,true),some 106,4,.binOp .neq 3 (.tmp 105) (.const (.int .i64 1)) 3⟩,⟨false,none,some 107,4,.pick (.tmp 98) (.tmp 106) (.const (.bool false))⟩,⟨false,none,some 108,4,.move (.tmp 107)⟩,⟨false,some (108,false),some 109,26,.move (.tmp 12)⟩,⟨false,some (108,false),some 110,9,.move (.tmp 7)⟩,⟨false,some (108,false),some 111,3,.call ⟨.value (.func 22),#[.tmp 109,.tmp 110],#[26,9]⟩⟩,⟨false,some (108,false),some 112,4,.binOp .geq 3 (.tmp 111) (.const (.int .i64 0)) 3⟩,⟨false,none,some 113,4,.pick (.tmp 108) (.const (.bool true)) (.tmp 112)⟩,⟨false,none,some 114,4,.move (.tmp 113)⟩,⟨false,some (114,true),some 115,4,.call ⟨.value (.func 15),#[],#[]⟩⟩,⟨false,none,some 116,4,.pick (.tmp 114) (.tmp 115) (.const (.bool false))⟩,⟨false,none,some 4,4,.assign (.tmp 116)⟩]) (.ret)))
noncomputable def mc5_r1:MC:=.seq (.seq (.ops [⟨false,none,some 79,9,.move (.tmp 11)⟩,⟨false,none,some 80,9,.move (.tmp 7)⟩,⟨false,none,some 81,4,.binOp .eql 9 (.tmp 79) (.tmp 80) 9⟩]) (.cond (.tmp 81) (.seq (.ops [⟨false,none,some 82,4,.call ⟨.value (.func 15),#[],#[]⟩⟩,⟨false,none,some 4,4,.assign (.tmp 82)⟩]) (.ret)) (.skip))) mc5_r2
noncomputable def mc5_r0:MC:=.seq (.ops [⟨true,none,some 58,9,.move (.tmp 7)⟩,⟨true,none,some 59,3,.move (.tmp 8)⟩,⟨true,none,some 60,9,.slice 9 (.tmp 58) none (some (.tmp 59)) none⟩,⟨true,none,some 61,3,.move (.tmp 10)⟩,⟨true,none,some 62,3,.move (.tmp 10)⟩,⟨true,none,some 63,3,.binOp .add 3 (.tmp 62) (.const (.int .i64 1)) 3⟩,⟨true,none,some 64,9,.slice 9 (.const (.string ⟨⟨[97,98,99,100,101,102,103,104,105,106,107,108,109,110,111,112,113,114,115,116,117,118,119,120,121,122,48,49,50,51,52,53,54,55,56,57,45]⟩⟩)) (some (.tmp 61)) (some (.tmp 63)) none⟩,⟨true,none,some 65,9,.binOp .add 9 (.tmp 60) (.tmp 64) 9⟩,⟨true,none,some 66,9,.move (.tmp 7)⟩,⟨true,none,some 67,3,.move (.tmp 8)⟩,⟨true,none,some 68,3,.binOp .add 3 (.tmp 67) (.const (.int .i64 1)) 3⟩,⟨true,none,some 69,9,.slice 9 (.tmp 66) (some (.tmp 68)) none none⟩,⟨true,none,some 70,9,.binOp .add 9 (.tmp 65) (.tmp 69) 9⟩,⟨true,none,some 11,9,.assign (.tmp 70)⟩]) (.seq (.seq (.ops [⟨false,none,some 71,0,.indexAddr 41 (.tmp 3) (.const (.int .i64 3))⟩,⟨false,none,some 72,3,.load 3 (.tmp 71)⟩,⟨false,none,some 73,3,.call ⟨.value (.func 20),#[.tmp 72,.const (.int .i64 2)],#[3,3]⟩⟩,⟨false,none,some 74,4,.binOp .eql 3 (.tmp 73) (.const (.int .i64 1)) 3⟩]) (.cond (.tmp 74) (.ops [⟨false,none,some 75,9,.move (.tmp 7)⟩,⟨false,none,some 76,3,.move (.tmp 8)⟩,⟨false,none,some 77,3,.move (.tmp 9)⟩,⟨false,none,some 78,9,.call ⟨.value (.func 21),#[.tmp 75,.tmp 76,.tmp 77],#[9,3,3]⟩⟩,⟨false,none,some 11,9,.assign (.tmp 78)⟩]) (.skip))) mc5_r1)
noncomputable def mc5_rA:MC:=.seq (.seq (.ops [⟨true,none,some 45,0,.indexAddr 41 (.tmp 3) (.const (.int .i64 0))⟩]) (.seq (.ops [⟨true,none,some 46,3,.load 3 (.tmp 45)⟩]) (.seq (.ops [⟨true,none,some 47,9,.move (.tmp 7)⟩]) (.seq (.ops [⟨true,none,some 48,3,.call ⟨.builtin .len,#[.tmp 47],#[9]⟩⟩]) (.seq (.ops [⟨true,none,some 50,0,.indexAddr 41 (.tmp 3) (.const (.int .i64 1))⟩]) (.seq (.ops [⟨true,none,some 51,3,.load 3 (.tmp 50)⟩]) (.seq (.ops [⟨true,none,some 52,9,.move (.tmp 7)⟩]) (.seq (.ops [⟨true,none,some 53,3,.call ⟨.builtin .len,#[.tmp 52],#[9]⟩⟩]) (.seq (.ops [⟨true,none,some 55,0,.indexAddr 41 (.tmp 3) (.const (.int .i64 2))⟩]) (.seq (.ops [⟨true,none,some 56,3,.load 3 (.tmp 55)⟩]) (.seq (.ops [⟨false,none,some 49,3,.call ⟨.value (.func 20),#[.tmp 46,.tmp 48],#[3,3]⟩⟩]) (.seq (.chk [⟨true,none,some 56,3,.load 3 (.tmp 55)⟩,⟨true,none,some 53,3,.call ⟨.builtin .len,#[.tmp 52],#[9]⟩⟩,⟨true,none,some 51,3,.load 3 (.tmp 50)⟩]) (.seq (.ops [⟨false,none,some 54,3,.call ⟨.value (.func 20),#[.tmp 51,.tmp 53],#[3,3]⟩⟩]) (.seq (.chk [⟨true,none,some 56,3,.load 3 (.tmp 55)⟩]) (.seq (.ops [⟨false,none,some 57,3,.call ⟨.value (.func 20),#[.tmp 56,.const (.int .i64 37)],#[3,3]⟩⟩]) (.seq (.ops [⟨true,none,some 8,3,.assign (.tmp 49)⟩]) (.seq (.ops [⟨true,none,some 9,3,.assign (.tmp 54)⟩]) (.seq (.ops [⟨true,none,some 10,3,.assign (.tmp 57)⟩]) (.chk []))))))))))))))))))) mc5_r0
theorem mc5_eq:mc5=.seq (.ops [⟨false,none,some 3,0,.box 41 (.tmp 1)⟩,⟨false,none,some 4,4,.assign (.const (.bool false))⟩]) (.seq (.ops [⟨false,none,some 14,9,.move (.tmp 0)⟩,⟨false,none,some 15,23,.call ⟨.value (.func 8),#[.tmp 14],#[9]⟩⟩,⟨false,none,some 13,23,.move (.tmp 15)⟩,⟨false,none,some 16,9,.extract (.tmp 13) 0⟩,⟨false,none,some 17,22,.extract (.tmp 13) 1⟩,⟨false,none,some 5,9,.assign (.tmp 16)⟩,⟨false,none,some 6,22,.assign (.tmp 17)⟩]) (.seq (.seq (.ops [⟨false,none,some 18,22,.move (.tmp 6)⟩,⟨false,none,some 19,4,.binOp .neq 22 (.tmp 18) (.const (.int .i64 0)) 22⟩,⟨false,none,some 20,4,.move (.tmp 19)⟩,⟨false,some (20,false),some 21,9,.move (.tmp 0)⟩,⟨false,some (20,false),some 22,3,.call ⟨.builtin .len,#[.tmp 21],#[9]⟩⟩,⟨false,some (20,false),some 23,4,.binOp .gtr 3 (.tmp 22) (.const (.int .i64 16)) 3⟩,⟨false,none,some 24,4,.pick (.tmp 20) (.const (.bool true)) (.tmp 23)⟩]) (.cond (.tmp 24) (.seq (.ops [⟨false,none,some 25,22,.move (.tmp 6)⟩,⟨false,none,some 26,4,.binOp .neq 22 (.tmp 25) (.const (.int .i64 0)) 22⟩,⟨false,none,some 27,4,.move (.tmp 26)⟩,⟨false,some (27,true),some 28,9,.move (.tmp 5)⟩,⟨false,some (27,true),some 29,4,.binOp .eql 9 (.tmp 28) (.const (.string ⟨⟨[]⟩⟩)) 9⟩,⟨false,none,some 30,4,.pick (.tmp 27) (.tmp 29) (.const (.bool false))⟩,⟨false,none,some 31,4,.move (.tmp 30)⟩,⟨false,some (31,true),some 32,4,.call ⟨.value (.func 15),#[],#[]⟩⟩,⟨false,none,some 33,4,.pick (.tmp 31) (.tmp 32) (.const (.bool false))⟩,⟨false,none,some 4,4,.assign (.tmp 33)⟩]) (.ret)) (.skip))) (.seq (.ops [⟨false,none,some 34,9,.move (.tmp 0)⟩,⟨false,none,some 35,9,.move (.tmp 5)⟩,⟨false,none,some 36,9,.binOp .add 9 (.tmp 34) (.tmp 35) 9⟩,⟨false,none,some 7,9,.assign (.tmp 36)⟩]) (.seq (.seq (.ops [⟨false,none,some 37,9,.move (.tmp 5)⟩,⟨false,none,some 38,3,.call ⟨.builtin .len,#[.tmp 37],#[9]⟩⟩,⟨false,none,some 39,4,.binOp .neq 3 (.tmp 38) (.const (.int .i64 1)) 3⟩,⟨false,none,some 40,4,.move (.tmp 39)⟩,⟨false,some (40,false),some 41,9,.move (.tmp 7)⟩,⟨false,some (40,false),some 42,4,.call ⟨.value (.func 10),#[.tmp 41],#[9]⟩⟩,⟨false,some (40,false),some 43,4,.unOp .not 4 (.tmp 42)⟩,⟨false,none,some 44,4,.pick (.tmp 40) (.const (.bool true)) (.tmp 43)⟩]) (.cond (.tmp 44) (.seq (.ops [⟨false,none,some 4,4,.assign (.const (.bool false))⟩]) (.ret)) (.skip))) mc5_rA)))):=rfl
section
variable {ov:Ov}
theorem tail5 (m:Nat) (h:Nr ov) (o20:∀ args w,ov 20 args w=none) (o22:∀ args w,ov 22 args w=none) (hq:HasQ ov) (C x:List UInt8) (i k:Nat) (a0 a1 a2 a3:Int) (B:Nat) (w:AW) (hl:w.lim≤w.next) (hL:LaidW w)
  (hB:w.heap.get B=some (.cells [.int .i64 a0,.int .i64 a1,.int .i64 a2,.int .i64 a3] 41 false)) (hBn:B < w.next) (hC:codeB C=true) (hi:i < 100) (hk:k < 100)
  (hx:x ≠ C→Odd C x∧((wrapI a3 2=1→(i=k + 1∨k=i + 1))→C ∈ nearU x))
  (Q:Ex→Tm→AW→Prop) (t:Tm) (t3:tget t 3=.pointer (some ⟨B,0,none⟩)) (t7:tget t 7=.string ⟨⟨C⟩⟩) (t8:tget t 8=.int .i64 (i:Int)) (t9:tget t 9=.int .i64 (k:Int)) (t11:tget t 11=.string ⟨⟨x⟩⟩)
  (hQ:∀ t w',tget t 4=.bool true→Q .ret t w'):wp (exM Tryz.prog (run Tryz.prog ov (m + 208)) mc5_r1 t w) Q:=by
 have h0:0 < w.next:=by have:=hL.n; omega
 by_cases hxe:x=C
 ·subst hxe
  have r15:=ruleQ hq hL (m + 207)
  simp [mc5_r1,t7,t11,r15]
  exact hQ _ _ (by simp)
 ·obtain ⟨ho,hmem⟩:=hx hxe
  obtain ⟨_,w2,c12,v1,l,rfl,hr,hN,hE,hj,u1⟩:=call12 m h x (near_few x) w hl hL.sg h0
  have he:nearE x=0:=by unfold nearE; rw [ho.are]; rfl
  rw [he] at c12
  have hN:=hN ho.are
  have hL2:=hL.up u1
  have r15:=ruleQ hq hL2 (m + 207)
  have hn2:0 < w2.next:=by have:=u1.next; omega
  have r10:=S10.call (P:=Tryz.prog) h.h10 (m:=m + 207) (w:=w2) ⟨⟨⟨x⟩⟩,rfl,⟨hL2.sg,hn2⟩,rfl⟩
  have e10:codeB (⟨⟨x⟩⟩:ByteArray).data.toList=false:=ho.no
  rw [e10] at r10
  have hB2:w2.heap.get B=some (.cells [.int .i64 a0,.int .i64 a1,.int .i64 a2,.int .i64 a3] 41 false):=by rw [u1.at hBn]; exact hB
  have hia:indexAddrA Tryz.prog w2 41 (.pointer (some ⟨B,0,none⟩)) (.int .i64 3)=.val (.pointer (some (Addr.add ⟨B,0,none⟩ 3))) w2:=ia41 w2 ⟨B,0,none⟩ .i64 (i:=3) (by decide)
  have r20:=run20 o20 (m + 207) a3 2 (by decide) w2
  have w1:IntKind.wrap .i64 ((i:Int) - (k:Int))=(i:Int) - (k:Int):=wrap64_in (by omega) (by omega)
  have w3:IntKind.wrap .i64 ((k:Int) - (i:Int))=(k:Int) - (i:Int):=wrap64_in (by omega) (by omega)
  have hll:l.length≤1000:=by rw [hN.perm.length_eq]; have:=near_few x ho.are; omega
  by_cases hnear:wrapI a3 2=1→(i=k + 1∨k=i + 1)
  ·have hCl:C ∈ l:=hN.perm.mem_iff.2 (hmem hnear)
   obtain ⟨z,r22⟩:=run22 o22 (m + 207) v1 l C hll hCl w2 hr
   have hz:¬ (z:Int) < 0:=by omega
   by_cases h1:wrapI a3 2=1
   ·have hmx:max ((i:Int) - (k:Int)) ((k:Int) - (i:Int))=1:=by
     have:=hnear h1
     rw [Int.max_def]
     split <;> omega
    simp [mc5_r1,mc5_r2,t3,t7,t8,t9,t11,hxe,c12,hj,r10,hia,hB2,r20,h1,w1,w3,hmx,r22,hz,r15]
    exact hQ _ _ (by simp)
   ·simp [mc5_r1,mc5_r2,t3,t7,t8,t9,t11,hxe,c12,hj,r10,hia,hB2,r20,h1,r22,hz,r15]
    exact hQ _ _ (by simp)
  ·have h1:wrapI a3 2=1:=Classical.byContradiction fun e=>hnear fun e2=>absurd e2 e
   have hmx:¬ max ((i:Int) - (k:Int)) ((k:Int) - (i:Int))=1:=by
    intro e
    apply hnear
    intro _
    rw [Int.max_def] at e
    split at e <;> omega
   simp [mc5_r1,mc5_r2,t3,t7,t8,t9,t11,hxe,c12,hj,r10,hia,hB2,r20,h1,w1,w3,hmx,r15]
   exact hQ _ _ (by simp)
end
theorem sg_cut:∀ k:Fin 37,(sgL.take (k.1 + 1)).drop k.1=[sgL.getD k.1 0]:=by decide +kernel
theorem sl_sg (w:AW) {v:Nat} (h:v < 37):sliceA Tryz.prog w 9 (.string ⟨⟨sgL⟩⟩) (some (.int .i64 (v:Int))) (some (.int .i64 ((v:Int) + 1))) none=.val (.string ⟨⟨[sgL.getD v 0]⟩⟩) w:=by
 have:=slM w sgL (k:=v) (n:=v + 1) (Nat.le_succ v) (by rw [sgL_len]; exact h)
 rw [sg_cut ⟨v,h⟩] at this
 exact this
theorem sg_getD {v:Nat} (h:v < 37):sgB (sgL.getD v 0)=true:=by
 have e:sgL[v]?=some (sgL.getD v 0):=by
  rw [List.getD_eq_getElem?_getD,List.getElem?_eq_getElem (by rw [sgL_len]; exact h),Option.getD_some]
 exact sg_in e
theorem set_cut (C:List UInt8) {i:Nat} (c:UInt8) (h:i < C.length):C.take i++[c]++C.drop (i + 1)=C.set i c:=by
 rw [List.set_eq_take_append_cons_drop,if_pos h,List.append_assoc]; rfl
structure Has5 (ov:Ov):Prop where
 nr:Nr ov
 o8:∀ args w,ov 8 args w=none
 o20:∀ args w,ov 20 args w=none
 o22:∀ args w,ov 22 args w=none
 h21:HasP ov 21 S21.F
 h30:HasP ov 30 S30.F
 hq:HasQ ov
section
variable {ov:Ov}
theorem mid5 (m:Nat) (h:Has5 ov) (C:List UInt8) (i k v:Nat) (a0 a1 a2 a3:Int) (B:Nat) (w:AW) (hl:w.lim≤w.next) (hL:LaidW w)
  (hB:w.heap.get B=some (.cells [.int .i64 a0,.int .i64 a1,.int .i64 a2,.int .i64 a3] 41 false)) (hBn:B < w.next) (hC:codeB C=true) (hi:i < C.length) (hk:k < C.length) (hv:v < 37)
  (Q:Ex→Tm→AW→Prop) (t:Tm) (t3:tget t 3=.pointer (some ⟨B,0,none⟩)) (t7:tget t 7=.string ⟨⟨C⟩⟩) (t8:tget t 8=.int .i64 (i:Int)) (t9:tget t 9=.int .i64 (k:Int)) (t10:tget t 10=.int .i64 (v:Int))
  (hQ:∀ t w',tget t 4=.bool true→Q .ret t w'):wp (exM Tryz.prog (run Tryz.prog ov (m + 208)) mc5_r0 t w) Q:=by
 obtain ⟨l1,l2,h3⟩:=are_all (code_are hC)
 obtain ⟨c,hc⟩:∃ c,c=sgL.getD v 0:=⟨_,rfl⟩
 have hcs:sgB c=true:=by rw [hc]; exact sg_getD hv
 obtain ⟨a,ha⟩:∃ a,C[i]?=some a:=⟨_,List.getElem?_eq_getElem hi⟩
 obtain ⟨b,hb⟩:∃ b,C[k]?=some b:=⟨_,List.getElem?_eq_getElem hk⟩
 have s1:=fun w=>sl9 w C (k:=i) (by omega)
 have s2:=fun w=>sl_sg w hv
 rw [← hc] at s2
 simp only [sgL] at s2
 have s3:∀ w,sliceA Tryz.prog w 9 (.string ⟨⟨C⟩⟩) (some (.int .i64 ((i:Int) + 1))) none none=.val (.string ⟨⟨C.drop (i + 1)⟩⟩) w:=fun w=>slF w C (k:=i + 1) (by omega)
 have k1:=fun c' w=>catS (w:=w) c' (C.take i) [c] (by rw [List.length_take]; omega) (by simp)
 have k2:=fun c' w=>catS (w:=w) c' (C.take i++[c]) (C.drop (i + 1)) (by rw [List.length_append,List.length_take]; simp; omega) (by rw [List.length_drop]; omega)
 rw [set_cut C c hi] at k2
 have w1:IntKind.wrap .i64 ((v:Int) + 1)=(v:Int) + 1:=wrap64_in (by omega) (by omega)
 have w2:IntKind.wrap .i64 ((i:Int) + 1)=(i:Int) + 1:=wrap64_in (by omega) (by omega)
 have hia:indexAddrA Tryz.prog w 41 (.pointer (some ⟨B,0,none⟩)) (.int .i64 3)=.val (.pointer (some (Addr.add ⟨B,0,none⟩ 3))) w:=ia41 w ⟨B,0,none⟩ .i64 (i:=3) (by decide)
 have r20:=run20 h.o20 (m + 207) a3 2 (by decide) w
 have r21:=S21.call (P:=Tryz.prog) h.h21 (m:=m + 207) (w:=w) ⟨C,i,k,a,b,rfl,ha,hb,rfl⟩
 by_cases h1:wrapI a3 2=1
 ·simp [mc5_r0,t3,t7,t8,t9,t10,s1,s2,s3,k1,k2,w1,w2,hia,hB,r20,h1,r21]
  refine tail5 m h.nr h.o20 h.o22 h.hq C (swpL C i k a b) i k a0 a1 a2 a3 B w hl hL hB hBn hC (by omega) (by omega) (fun hne=>?_) Q _ ?_ ?_ ?_ ?_ ?_ hQ
  ·obtain ⟨q1,q2⟩:=odd_swp hC ha hb hne
   exact ⟨q1,fun hn=>q2 (hn h1)⟩
  ·simp [t3]
  ·simp [t7]
  ·simp [t8]
  ·simp [t9]
  ·simp [swpL]
 ·simp [mc5_r0,t3,t7,t8,t9,t10,s1,s2,s3,k1,k2,w1,w2,hia,hB,r20,h1]
  refine tail5 m h.nr h.o20 h.o22 h.hq C (C.set i c) i k a0 a1 a2 a3 B w hl hL hB hBn hC (by omega) (by omega) (fun hne=>?_) Q _ ?_ ?_ ?_ ?_ ?_ hQ
  ·obtain ⟨q1,q2⟩:=odd_rep hC hi hcs hne
   exact ⟨q1,fun _=>q2⟩
  ·simp [t3]
  ·simp [t7]
  ·simp [t8]
  ·simp [t9]
  ·simp
theorem whole5 (m:Nat) (h:Has5 ov) (s:List UInt8) (a0 a1 a2 a3:Int) (w:AW) (hl:w.lim≤w.next) (hL:LaidW w) (Q:Ex→Tm→AW→Prop) (t:Tm) (t0:tget t 0=.string ⟨⟨s⟩⟩) (t1:tget t 1=.agg ⟨[.int .i64 a0,.int .i64 a1,.int .i64 a2,.int .i64 a3]⟩)
  (hQ:∀ t w',tget t 4=.bool true→Q .ret t w'):wp (exM Tryz.prog (run Tryz.prog ov (m + 208)) mc5 t w) Q:=by
 have hn:=hL.n
 have gg:∀ b,b < w.next→(w.heap.put w.next (some (.cells [.int .i64 a0,.int .i64 a1,.int .i64 a2,.int .i64 a3] 41 false))).get b=w.heap.get b:=fun b hb=>by rw [get_put,if_neg (by omega)]
 have hL1:LaidW ⟨w.heap.put w.next (some (.cells [.int .i64 a0,.int .i64 a1,.int .i64 a2,.int .i64 a3] 41 false)),w.next + 1,w.lim⟩:=by
  obtain ⟨⟨r0,h0⟩,⟨r1,h1⟩,⟨r3,h3⟩,_⟩:=hL
  exact ⟨⟨r0,(gg 0 (by omega)).trans h0⟩,⟨r1,(gg 1 (by omega)).trans h1⟩,⟨r3,(gg 3 (by omega)).trans h3⟩,Nat.le_succ_of_le hn⟩
 have hB:(w.heap.put w.next (some (.cells [.int .i64 a0,.int .i64 a1,.int .i64 a2,.int .i64 a3] 41 false))).get w.next=some (.cells [.int .i64 a0,.int .i64 a1,.int .i64 a2,.int .i64 a3] 41 false):=by rw [get_put,if_pos rfl]
 have r8:=run8 h.o8 h.nr.o29 h.nr.o58 h.nr.o59 h.h30 (m + 205) s _ hL1.sg (Nat.succ_pos _)
 have r15:=ruleQ h.hq hL1 (m + 207)
 cases ha:areB s 1 16 with
 | false =>
  simp only [sigS,sigE,ha] at r8
  simp [mc5_eq,t0,t1,r8,r15]
  exact hQ _ _ (by simp)
 | true =>
  simp only [sigS,sigE,ha] at r8
  obtain ⟨l1,l2,_⟩:=are_all ha
  have hC:=code_of ha
  obtain ⟨C,hCe⟩:∃ C,C=s++[chkS s]:=⟨_,rfl⟩
  rw [← hCe] at hC
  have hCl:C.length=s.length + 1:=by rw [hCe]; simp
  have k1:=fun c' w=>catS (w:=w) c' s [chkS s] (by omega) (by simp)
  rw [← hCe] at k1
  have r10:=S10.call (P:=Tryz.prog) h.nr.h10 (m:=m + 207) (w:=⟨w.heap.put w.next (some (.cells [.int .i64 a0,.int .i64 a1,.int .i64 a2,.int .i64 a3] 41 false)),w.next + 1,w.lim⟩) ⟨⟨⟨C⟩⟩,rfl,⟨hL1.sg,Nat.succ_pos _⟩,rfl⟩
  have e10:codeB (⟨⟨C⟩⟩:ByteArray).data.toList=true:=hC
  rw [e10] at r10
  have i0:∀ w':AW,indexAddrA Tryz.prog w' 41 (.pointer (some ⟨w.next,0,none⟩)) (.int .i64 0)=.val (.pointer (some (Addr.add ⟨w.next,0,none⟩ 0))) w':=fun w'=>ia41 w' ⟨w.next,0,none⟩ .i64 (i:=0) (by decide)
  have i1:∀ w':AW,indexAddrA Tryz.prog w' 41 (.pointer (some ⟨w.next,0,none⟩)) (.int .i64 1)=.val (.pointer (some (Addr.add ⟨w.next,0,none⟩ 1))) w':=fun w'=>ia41 w' ⟨w.next,0,none⟩ .i64 (i:=1) (by decide)
  have i2:∀ w':AW,indexAddrA Tryz.prog w' 41 (.pointer (some ⟨w.next,0,none⟩)) (.int .i64 2)=.val (.pointer (some (Addr.add ⟨w.next,0,none⟩ 2))) w':=fun w'=>ia41 w' ⟨w.next,0,none⟩ .i64 (i:=2) (by decide)
  have q0:=fun w'=>run20 h.o20 (m + 207) a0 C.length (by omega) w'
  have q1:=fun w'=>run20 h.o20 (m + 207) a1 C.length (by omega) w'
  have q2:=fun w'=>run20 h.o20 (m + 207) a2 37 (by omega) w'
  obtain ⟨b0,b1⟩:=wrapI_bd (n:=a0) (s:=(C.length:Int)) (by omega)
  obtain ⟨d0,d1⟩:=wrapI_bd (n:=a1) (s:=(C.length:Int)) (by omega)
  obtain ⟨f0,f1⟩:=wrapI_bd (n:=a2) (s:=37) (by omega)
  obtain ⟨i,hi⟩:∃ i:Nat,wrapI a0 C.length=(i:Int):=⟨_,(Int.toNat_of_nonneg b0).symm⟩
  obtain ⟨k,hk⟩:∃ k:Nat,wrapI a1 C.length=(k:Int):=⟨_,(Int.toNat_of_nonneg d0).symm⟩
  obtain ⟨v,hv⟩:∃ v:Nat,wrapI a2 37=(v:Int):=⟨_,(Int.toNat_of_nonneg f0).symm⟩
  rw [hi] at q0 b1
  rw [hk] at q1 d1
  rw [hv] at q2 f1
  have hle:¬ (16:Int) < (s.length:Int):=by omega
  have fin:∀ t:Tm,tget t 3=.pointer (some ⟨w.next,0,none⟩)→tget t 7=.string ⟨⟨C⟩⟩→tget t 8=.int .i64 (i:Int)→tget t 9=.int .i64 (k:Int)→tget t 10=.int .i64 (v:Int)→wp (exM Tryz.prog (run Tryz.prog ov (m + 208)) mc5_r0 t ⟨w.heap.put w.next (some (.cells [.int .i64 a0,.int .i64 a1,.int .i64 a2,.int .i64 a3] 41 false)),w.next + 1,w.lim⟩) Q:=fun t t3 t7 t8 t9 t10 =>
   mid5 m h C i k v a0 a1 a2 a3 w.next _ (Nat.le_succ_of_le hl) hL1 hB (Nat.lt_succ_self _) hC (by omega) (by omega) (by omega) Q t t3 t7 t8 t9 t10 hQ
  simp [mc5_eq,mc5_rA,t0,t1,r8,hle,k1,r10,i0,i1,i2,hB,q0,q1,q2]
  refine fin _ ?_ ?_ ?_ ?_ ?_
  ·simp
  ·simp
  ·simp
  ·simp
  ·simp
theorem run5 (m:Nat) (ho:∀ args w,ov 5 args w=none) (h:Has5 ov) (s:List UInt8) (a0 a1 a2 a3:Int) (w:AW) (hl:w.lim≤w.next) (hL:LaidW w) :
  ∃ x w',(run Tryz.prog ov (m + 209)).call 5 [.string ⟨⟨s⟩⟩,.agg ⟨[.int .i64 a0,.int .i64 a1,.int .i64 a2,.int .i64 a3]⟩] w .none=.ok (.ret x) w' .none∧x=.bool true:=by
 refine call_wp text5 (by simp) (ho _ _) (whole5 m h s a0 a1 a2 a3 w hl hL _ _ (by simp) (by simp) (fun t w' h=>?_))
 simp [h,tupV]
end
open Go Go.Sh Go.ChangeShapes
theorem ty9:tyOk Tryz.prog 6 9=true:=by kernel_rfl
theorem c9:Tryz.prog.cellsOf 9=1:=by kernel_rfl
theorem str_arg {A:AW} {m:Value} (h:ArgT Tryz.prog A.heap A.next 9 m):∃ s:ByteArray,m=.string s:=by
 unfold ArgT at h
 rw [u9] at h
 obtain ⟨s,e,_⟩:=WT.toStr u9 h
 cases e
 exact ⟨s,rfl⟩
theorem start0:(startH laidL).get 0=some (.cells (signL.map fun z=>Value.int .u8 z) 96 true):=by
 show ((((startH []).put 3 (some (.cells [unk] 119 true))).put 1 (some (.cells (pow10.map fun z=>Value.int .u64 z) 225 true))).put 0 (some (.cells (signL.map fun z=>Value.int .u8 z) 96 true))).get 0=_
 rw [get_put,if_pos rfl]
theorem start1:(startH laidL).get 1=some (.cells (pow10.map fun z=>Value.int .u64 z) 225 true):=by
 show ((((startH []).put 3 (some (.cells [unk] 119 true))).put 1 (some (.cells (pow10.map fun z=>Value.int .u64 z) 225 true))).put 0 (some (.cells (signL.map fun z=>Value.int .u8 z) 96 true))).get 1=_
 rw [get_put,if_neg (by decide),get_put,if_pos rfl]
theorem start3:(startH laidL).get 3=some (.cells [unk] 119 true):=by
 show ((((startH []).put 3 (some (.cells [unk] 119 true))).put 1 (some (.cells (pow10.map fun z=>Value.int .u64 z) 225 true))).put 0 (some (.cells (signL.map fun z=>Value.int .u8 z) 96 true))).get 3=_
 rw [get_put,if_neg (by decide),get_put,if_neg (by decide),get_put,if_pos rfl]
theorem ty41:tyOk Tryz.prog 6 41=true:=by kernel_rfl
theorem u3:Tryz.prog.underlying 3=some (.int .i64):=by kernel_rfl
theorem u41:Tryz.prog.underlying 41=some (.array 4 3):=by kernel_rfl
theorem c3:Tryz.prog.cellsOf 3=1:=by kernel_rfl
theorem c41:Tryz.prog.cellsOf 41=4:=by kernel_rfl
theorem four_arg {A:AW} {m:Value} (h:ArgT Tryz.prog A.heap A.next 41 m):∃ a0 a1 a2 a3:Int,m=.agg ⟨[.int .i64 a0,.int .i64 a1,.int .i64 a2,.int .i64 a3]⟩:=by
 unfold ArgT at h
 rw [u41] at h
 obtain ⟨c,rfl,h⟩:=h
 obtain ⟨hl,hf⟩:=h.toArray u41
 rw [c41] at hl
 rw [c3] at hf
 match c,hl with
 | [x0,x1,x2,x3],_ =>
  obtain ⟨a0,e0,_⟩:=(hf 0 (by decide)).toInt u3
  obtain ⟨a1,e1,_⟩:=(hf 1 (by decide)).toInt u3
  obtain ⟨a2,e2,_⟩:=(hf 2 (by decide)).toInt u3
  obtain ⟨a3,e3,_⟩:=(hf 3 (by decide)).toInt u3
  simp at e0 e1 e2 e3
  exact ⟨a0,a1,a2,a3,by rw [e0,e1,e2,e3]⟩
theorem topHas5:Has5 o21:=⟨topNr,chN rfl,chN rfl,chN rfl,chH rfl,chH rfl,chW rfl⟩
theorem start_true (A:AW) (ms:List Value) (hl:A.lim=A.next) (hG:Tryz.prog.globals.size≤A.next) (hs:∀ b,b < Tryz.prog.globals.size→A.heap.get b=(startH laidL).get b) (hms:ArgsT Tryz.prog A.heap A.next [9,41] ms) (hz:∀ (j:Nat) t e a k c,([9,41]:List TypeId)[j]?=some t→Tryz.prog.underlying t=some (.slice e)→ms[j]?=some (.slice a k c)→k * Tryz.prog.bytesOf e≤reachBytes) :
  ∃ A' x',(run Tryz.prog o21 209).call 5 ms A .none=.ok (.ret (.bool true)) A' x':=by
 rw [globals9] at hG hs
 match ms,hms with
 | [m,u],hm =>
  obtain ⟨⟨⟨s⟩⟩,rfl⟩:=str_arg hm.1
  obtain ⟨a0,a1,a2,a3,rfl⟩:=four_arg hm.2.1
  obtain ⟨_,w',hc,rfl⟩:=run5 0 (chN rfl) topHas5 s a0 a1 a2 a3 A (Nat.le_of_eq hl) ⟨⟨true,by rw [hs 0 (by decide),start0]⟩,⟨true,by rw [hs 1 (by decide),start1]⟩,⟨true,by rw [hs 3 (by decide),start3]⟩,hG⟩
  exact ⟨w',_,hc⟩
open Go.ChangeShapes Go.WideShapes Go.ChangeAt Go.RowKit Go.Sh
theorem own:ownKnob Tryz.prog.godebug=none:=by kernel_rfl
theorem row0:RowOf Tryz.prog 0 37 96:=.of (by kernel_rfl)
theorem row1:RowOf Tryz.prog 1 20 225:=.of (by kernel_rfl)
theorem row3:RowOf Tryz.prog 3 1 119:=.of (by kernel_rfl)
theorem g0:Tryz.prog.globalNamed "rostellum/tin.signs"=some 0:=by kernel_rfl
theorem g1:Tryz.prog.globalNamed "internal/strconv.uint64pow10"=some 1:=by kernel_rfl
theorem g3:Tryz.prog.globalNamed "strconv.ErrSyntax"=some 3:=by kernel_rfl
theorem t0:(Tryz.prog.globals[0]?).map (·.type)=some 96:=by kernel_rfl
theorem t1:(Tryz.prog.globals[1]?).map (·.type)=some 225:=by kernel_rfl
theorem t3:(Tryz.prog.globals[3]?).map (·.type)=some 119:=by kernel_rfl
theorem size_le {g:Nat} (h:g < 9):g < Tryz.prog.globals.size:=by rw [globals9]; exact h
theorem u96:Tryz.prog.underlying 96=some (.array 37 5):=by kernel_rfl
theorem u225:Tryz.prog.underlying 225=some (.array 20 146):=by kernel_rfl
theorem u146:Tryz.prog.underlying 146=some (.int .u64):=by kernel_rfl
theorem u5:Tryz.prog.underlying 5=some (.int .u8):=by kernel_rfl
theorem u119:Tryz.prog.underlying 119=some (.interface #[("Error",123)]):=by kernel_rfl
theorem c5:Tryz.prog.cellsOf 5=1:=by kernel_rfl
theorem c96:Tryz.prog.cellsOf 96=37:=by kernel_rfl
theorem c146:Tryz.prog.cellsOf 146=1:=by kernel_rfl
theorem c225:Tryz.prog.cellsOf 225=20:=by kernel_rfl
def laidRow:List (String × DataW Unit):=[("math/bits.deBruijn32tab",Rows.laid_math_bits_deBruijn32tab),("math/bits.deBruijn64tab",Rows.laid_math_bits_deBruijn64tab),("internal/strconv.uint64pow10",Rows.laid_internal_strconv_uint64pow10),("unicode/utf8.acceptRanges",Rows.laid_unicode_utf8_acceptRanges),("strconv.ErrRange",Rows.laid_strconv_ErrRange),("strconv.ErrSyntax",Rows.laid_strconv_ErrSyntax),("rostellum/tin.signs",Rows.laid_rostellum_tin_signs),("unicode/utf8.first",Rows.laid_unicode_utf8_first)]
theorem laid_ok {W:World} (hs:W.ShapedOpen Tryz.prog) (hL:laidMet Tryz.prog laidRow W):LaidOk Tryz.prog W laidL:=by
 intro x hx
 unfold laidL at hx
 rcases List.mem_cons.1 hx with rfl | hx
 ·exact laid_tab hs hL (zs:=signL) (.tail _ (.tail _ (.tail _ (.tail _ (.tail _ (.tail _ (.head _))))))) g0 (size_le (by decide)) t0 u96 u5 c5 c96 row0
 rcases List.mem_cons.1 hx with rfl | hx
 ·exact laid_tab hs hL (zs:=pow10) (.tail _ (.tail _ (.head _))) g1 (size_le (by decide)) t1 u225 u146 c146 c225 row1
 rcases List.mem_cons.1 hx with rfl | hx
 ·exact laid_iface hs hL (.tail _ (.tail _ (.tail _ (.tail _ (.tail _ (.head _)))))) g3 (size_le (by decide)) t3 u119 row3
 ·cases hx
theorem kids:Kids Tryz.prog (· < Tryz.prog.types.size):=kids_rows (by kernel_rfl) (by kernel_rfl)
theorem wide:slicesWide Tryz.prog=true:=by kernel_rfl
noncomputable def laidWorld (os:Os):World :=
 let w0:=World.holding Tryz.prog os ⟨#[],#[],[]⟩
 let put (h:Array Obj) (g:Nat) (cs:Array Value):Array Obj:=h.modify g fun
  | .cells _ t frozen=>.cells cs t frozen
  | o=>o
 let ints (k:IntKind) (zs:List Int):Array Value:=(zs.map fun z=>Value.int k z).toArray
 let h:=put w0.heap 0 (ints .u8 signL)
 let h:=put h 1 (ints .u64 pow10)
 let h:=put h 3 #[.iface 250 (.pointer (some ⟨14,0,none⟩))]
 let h:=put h 4 #[.iface 250 (.pointer (some ⟨15,0,none⟩))]
 let h:=put h 5 (ints .u8 [0,1,28,2,29,14,24,3,30,22,20,15,25,17,4,8,31,27,13,23,21,19,16,7,26,12,18,6,11,5,10,9])
 let h:=put h 6 (ints .u8 [0,1,56,2,57,49,28,3,61,58,42,50,38,29,17,4,62,47,59,36,45,43,51,22,53,39,33,30,24,18,12,5,63,55,48,27,60,41,37,16,46,35,44,21,52,32,23,11,54,26,40,15,34,20,31,10,25,14,19,9,13,8,7,6])
 let h:=put h 7 (ints .u8 [240,240,240,240,240,240,240,240,240,240,240,240,240,240,240,240,240,240,240,240,240,240,240,240,240,240,240,240,240,240,240,240,240,240,240,240,240,240,240,240,240,240,240,240,240,240,240,240,240,240,240,240,240,240,240,240,240,240,240,240,240,240,240,240,240,240,240,240,240,240,240,240,240,240,240,240,240,240,240,240,240,240,240,240,240,240,240,240,240,240,240,240,240,240,240,240,240,240,240,240,240,240,240,240,240,240,240,240,240,240,240,240,240,240,240,240,240,240,240,240,240,240,240,240,240,240,240,240,241,241,241,241,241,241,241,241,241,241,241,241,241,241,241,241,241,241,241,241,241,241,241,241,241,241,241,241,241,241,241,241,241,241,241,241,241,241,241,241,241,241,241,241,241,241,241,241,241,241,241,241,241,241,241,241,241,241,241,241,241,241,241,241,241,241,2,2,2,2,2,2,2,2,2,2,2,2,2,2,2,2,2,2,2,2,2,2,2,2,2,2,2,2,2,2,19,3,3,3,3,3,3,3,3,3,3,3,3,35,3,3,52,4,4,4,68,241,241,241,241,241,241,241,241,241,241,241])
 let h:=put h 8 (ints .u8 [128,191,160,191,128,159,144,191,128,143,0,0,0,0,0,0,0,0,0,0,0,0,0,0,0,0,0,0,0,0,0,0])
 { w0 with heap:=(h.push (.cells #[.string ⟨#[105,110,118,97,108,105,100,32,115,121,110,116,97,120]⟩] 252)).push (.cells #[.string ⟨#[118,97,108,117,101,32,111,117,116,32,111,102,32,114,97,110,103,101]⟩] 252) }
theorem laid_met (os:Os) (args:Array Value):laidMet Tryz.prog laidRow ((laidWorld os).forCall (fun _ _=>0) ⟨#[],args,[]⟩).memory :=
 laidMet_of_run' 8 (by kernel_rfl) (by kernel_rfl)
theorem reads (os:Os) {H:Type} (enc:TypeId × Value→H):∃ places,DataW.whole enc Tryz.prog ((laidWorld os).forCall (fun _ _=>0) ⟨#[],#[.string ⟨⟨[]⟩⟩,.agg ⟨[.int .i64 0,.int .i64 0,.int .i64 0,.int .i64 0]⟩],[]⟩).memory Tryz.f5.params.toList Rows.tinNoticedSpec.vars false (#[Value.string ⟨⟨[]⟩⟩,.agg ⟨[.int .i64 0,.int .i64 0,.int .i64 0,.int .i64 0]⟩]:Array Value).toList 8=some ([.lit (.string []),.agg [.lit (.int .i64 0),.lit (.int .i64 0),.lit (.int .i64 0),.lit (.int .i64 0)]],[],places) :=
 ⟨[],by kernel_rfl⟩
theorem mem_all {t a b:Nat} (h:t ∈ [a,b]):t=a∨t=b:=by simpa using h
theorem params5:Tryz.f5.params.toList=[9,41]:=by kernel_rfl
set_option maxRecDepth 100000 in
theorem contract (H:Type) (enc:TypeId × Value→H) (W:World) (base:Nat) (args:Array Value) (ds gs:List (DataW H)) (before:List MemPlace)
  (hval:∀ (j:Nat) t v,Tryz.f5.params[j]?=some t→args[j]?=some v→Value.okWide Tryz.prog W .any base t v)
  (hW:DataW.Whole enc Tryz.prog Tryz.f5.params.toList Rows.tinNoticedSpec.vars false W args.toList ds gs before) {tw:List TypeId} (hz:(DataW.weightsEach Tryz.prog (Tryz.f5.params.toList++tw) (ds++gs)).all (·≤reachBytes)=true) (hL:laidMet Tryz.prog laidRow W) (hs:W.ShapedOpen Tryz.prog) :
  Calls Tryz.prog 5 args W fun e W'=>∃ v,e=.returned v∧Rows.tinNoticedSpec.post enc Tryz.prog Tryz.f5 false true false false W args v W':=by
 have hW':=hW
 obtain ⟨vs⟩:=args
 obtain ⟨p,q,hA,hV,rfl,hfz,hnd⟩:=hW
 obtain ⟨rfl,rfl⟩:=trodVars_none hV
 have hA':=hA
 rw [params5] at hA'
 rw [params5] at hz
 obtain ⟨_,hlen⟩:=trodAll_length _ _ _ _ hA'
 have key:=input_sized no_count mixed ok21 (laid_ok hs hL) (d:=6) (ts:=[9,41]) (f:=5) (m:=209) (fun t ht=>by rcases mem_all ht with rfl | rfl; exact ty9; exact ty41) (fun j t v h1 h2=>hval j t v (by rw [← Array.getElem?_toList,params5]; exact h1) (by simpa using h2)) hA' hlen hz start_true
 match ds,hlen with
 | [d1,d2],_ =>
  refine key.mono fun e W' ⟨he,hk⟩=>?_
  subst he
  exact ⟨_,rfl,post_stays (pa:=p) (pv:=[]) hW' (fun _ _ _=>trodAll_cons_mk (shut_bool Tryz.underlying4 _) trodAll_mk0)
   (fun sp hsp=>by
    show DataW.TrodAll enc Tryz.prog W' 0 sp true Tryz.f5.params.toList vs [d1,d2] p
    rw [params5]
    exact args_again kids wide hk [9,41] vs [d1,d2] p (fun t ht=>by rcases mem_all ht with rfl | rfl <;> decide +kernel) hA' (fun x hx=>hW'.lt x (by simpa using hx)) (fun x hx=>hsp x (by simpa using hx)))
   (fun _ _=>rfl) rfl hk (ok_one (by kernel_rfl) rfl (okWide_bool_mk Tryz.underlying4 _))⟩
set_option maxRecDepth 100000 in
theorem lifted (os:Os) (started:os.Started) (H:Type) (enc:TypeId × Value→H) (F:Stop.Interp) :
  ReturnsInHanded {} Tryz.checked os 5 .any ((OpenSpec.ofChange Rows.tinNoticedSpec).preRow enc Tryz.prog Tryz.f5 Rows.tinNoticedRow.domain false Rows.tinNoticedRow.laid) (((OpenSpec.ofChange Rows.tinNoticedSpec).at F).post enc Tryz.prog Tryz.f5 false true false false):=by
 obtain ⟨places,hx⟩:=reads os enc
 refine returnsInHanded_of_row (C:=Tryz.checked) (s:=OpenSpec.ofChange Rows.tinNoticedSpec) own started (by kernel_rfl) Tryz.func5
  (witness_row_atRef (enc:=enc) (C:=Tryz.checked) false (laidWorld os) #[.string ⟨⟨[]⟩⟩,.agg ⟨[.int .i64 0,.int .i64 0,.int .i64 0,.int .i64 0]⟩] rfl (by kernel_rfl) (by kernel_rfl) (by kernel_rfl)
   (OpenSpec.preRow_of_cond 8 hx (by kernel_rfl) (fun k hk=>by cases hk) (by kernel_rfl) (laid_met os _))) ?_
 intro W base args ds gs before hval hW _ _ hz hL hs _
 exact contract H enc W base args ds gs before hval hW hz hL hs
theorem said:Rows.TinNoticedSaid :=
 OpenClaim.holds_of_cond 5 Tryz.f5 rfl rfl rfl rfl rfl rfl rfl ⟨rfl,rfl,rfl,rfl,rfl⟩ rfl rfl rfl rfl rfl (by kernel_rfl) Tryz.func5 (by kernel_rfl)
  (of_decide_eq_true (by kernel_rfl)) (by unfold Func.isWrapper; first | (rw [if_pos (by decide +kernel)]; kernel_rfl) | (rw [if_neg (by decide +kernel)]; exact ⟨rfl,rfl⟩))
  (fun os started H enc _ F=>by rw [OpenClaim.pre_eq_preRow]; exact lifted os started H enc F)
theorem plain (f:FuncId) (fn:Func) (hf:Tryz.pinned.checked.prog.funcNamed "rostellum/rostellumlaw08.TinNoticed"=some f) (hfn:Tryz.pinned.checked.prog.funcs[f]?=some fn) :
  true=Tryz.pinned.checked.prog.looks []∧∀ (j:Nat) t,fn.params[j]?=some t→Tryz.pinned.checked.prog.wantsStandIn t=false:=by
 obtain rfl:f=5:=Option.some.inj ((show Tryz.prog.funcNamed "rostellum/rostellumlaw08.TinNoticed"=some 5 by kernel_rfl).symm.trans hf) |>.symm
 obtain rfl:fn=Tryz.f5:=(Option.some.inj (Tryz.func5.symm.trans hfn)).symm
 refine ⟨by kernel_rfl,fun j t ht=>?_⟩
 have h1:t ∈ Tryz.f5.params.toList:=by
  rw [← Array.getElem?_toList] at ht
  exact List.mem_of_getElem? ht
 rw [params5] at h1
 have k9:Tryz.prog.wantsStandIn 9=false:=by kernel_rfl
 have k41:Tryz.prog.wantsStandIn 41=false:=by kernel_rfl
 rcases mem_all h1 with rfl | rfl
 ·exact k9
 ·exact k41
set_option maxRecDepth 100000 in
theorem card:Rows.TinNoticedCardSaid :=
 Claim7.holds_tied_plain_at .later [] _ _ _ _ said (fun _ h=>by cases h) (by kernel_rfl) (fun _ h=>by cases h) tinNoticed_row_tie rfl ⟨rfl,rfl⟩ (by kernel_rfl) rfl plain (by kernel_rfl)
end Go.Proofs.YtdgllbepplldoaaGreatDoor.walk
