/- Part of a proof: see the text with the theorem. -/
import Derived.Test.YtnjknghdpobcmaaGreatDoorZWb
set_option linter.all false
namespace Go.Proofs.YtnjknghdpobcmaaGreatDoor.walk
open Go Go.Sh
set_option maxRecDepth 100000
section
variable {α:Type} {C:α→List Value} {V:α→Value} {sz:Nat} {cI:α→α→Int} {fv:Value} {fc:FuncId} {ov:Ov}
noncomputable def mc166_r4:MC:=.seq (.ops [⟨false,none,some 106,28,.move (.tmp 0)⟩,⟨false,none,some 107,3,.move (.tmp 1)⟩,⟨false,none,some 108,3,.move (.tmp 2)⟩,⟨false,none,some 109,3,.move (.tmp 13)⟩,⟨false,none,some 110,121,.move (.tmp 4)⟩,⟨false,none,some 111,160,.call ⟨.value (.func 192),#[.tmp 106,.tmp 107,.tmp 108,.tmp 109,.tmp 110],#[28,3,3,3,121]⟩⟩,⟨false,none,some 105,160,.move (.tmp 111)⟩,⟨false,none,some 112,3,.extract (.tmp 105) 0⟩,⟨false,none,some 113,4,.extract (.tmp 105) 1⟩,⟨false,none,some 16,3,.assign (.tmp 112)⟩,⟨false,none,some 17,4,.assign (.tmp 113)⟩]) (.seq (.ops [⟨false,none,some 114,4,.move (.tmp 17)⟩,⟨false,none,some 11,4,.assign (.tmp 114)⟩]) (.seq (.ops [⟨false,none,some 115,3,.move (.tmp 16)⟩,⟨false,none,some 116,3,.move (.tmp 1)⟩,⟨false,none,some 117,3,.binOp .sub 3 (.tmp 115) (.tmp 116) 3⟩,⟨false,none,some 118,3,.move (.tmp 2)⟩,⟨false,none,some 119,3,.move (.tmp 16)⟩,⟨false,none,some 120,3,.binOp .sub 3 (.tmp 118) (.tmp 119) 3⟩,⟨false,none,some 18,3,.assign (.tmp 117)⟩,⟨false,none,some 19,3,.assign (.tmp 120)⟩]) (.seq (.ops [⟨false,none,some 121,3,.move (.tmp 12)⟩,⟨false,none,some 122,3,.binOp .quo 3 (.tmp 121) (.const (.int .i64 8)) 3⟩,⟨false,none,some 20,3,.assign (.tmp 122)⟩]) (.seq (.ops [⟨false,none,some 123,3,.move (.tmp 18)⟩,⟨false,none,some 124,3,.move (.tmp 19)⟩,⟨false,none,some 125,4,.binOp .lss 3 (.tmp 123) (.tmp 124) 3⟩]) (.cond (.tmp 125) (.seq (.ops [⟨false,none,some 126,3,.move (.tmp 18)⟩,⟨false,none,some 127,3,.move (.tmp 20)⟩,⟨false,none,some 128,4,.binOp .geq 3 (.tmp 126) (.tmp 127) 3⟩,⟨false,none,some 10,4,.assign (.tmp 128)⟩]) (.seq (.ops [⟨false,none,some 129,28,.move (.tmp 0)⟩,⟨false,none,some 130,3,.move (.tmp 1)⟩,⟨false,none,some 131,3,.move (.tmp 16)⟩,⟨false,none,some 132,3,.move (.tmp 3)⟩,⟨false,none,some 133,121,.move (.tmp 4)⟩,⟨false,none,some 134,0,.call ⟨.value (.func 166),#[.tmp 129,.tmp 130,.tmp 131,.tmp 132,.tmp 133],#[28,3,3,3,121]⟩⟩]) (.ops [⟨false,none,some 135,3,.move (.tmp 16)⟩,⟨false,none,some 136,3,.binOp .add 3 (.tmp 135) (.const (.int .i64 1)) 3⟩,⟨false,none,some 1,3,.assign (.tmp 136)⟩]))) (.seq (.ops [⟨false,none,some 137,3,.move (.tmp 19)⟩,⟨false,none,some 138,3,.move (.tmp 20)⟩,⟨false,none,some 139,4,.binOp .geq 3 (.tmp 137) (.tmp 138) 3⟩,⟨false,none,some 10,4,.assign (.tmp 139)⟩]) (.seq (.ops [⟨false,none,some 140,28,.move (.tmp 0)⟩,⟨false,none,some 141,3,.move (.tmp 16)⟩,⟨false,none,some 142,3,.binOp .add 3 (.tmp 141) (.const (.int .i64 1)) 3⟩,⟨false,none,some 143,3,.move (.tmp 2)⟩,⟨false,none,some 144,3,.move (.tmp 3)⟩,⟨false,none,some 145,121,.move (.tmp 4)⟩,⟨false,none,some 146,0,.call ⟨.value (.func 166),#[.tmp 140,.tmp 142,.tmp 143,.tmp 144,.tmp 145],#[28,3,3,3,121]⟩⟩]) (.ops [⟨false,none,some 147,3,.move (.tmp 16)⟩,⟨false,none,some 2,3,.assign (.tmp 147)⟩]))))))))
noncomputable def mc166_r3:MC:=.seq (.seq (.ops [⟨true,none,some 81,3,.move (.tmp 1)⟩,⟨true,none,some 82,4,.binOp .gtr 3 (.tmp 81) (.const (.int .i64 0)) 3⟩,⟨true,none,some 83,4,.move (.tmp 82)⟩,⟨true,some (83,true),some 84,121,.move (.tmp 4)⟩,⟨true,some (83,true),some 85,28,.move (.tmp 0)⟩,⟨true,some (83,true),some 86,3,.move (.tmp 1)⟩,⟨true,some (83,true),some 87,3,.binOp .sub 3 (.tmp 86) (.const (.int .i64 1)) 3⟩,⟨true,some (83,true),some 88,0,.indexAddr 28 (.tmp 85) (.tmp 87)⟩,⟨true,some (83,true),some 89,9,.load 9 (.tmp 88)⟩,⟨true,some (83,true),some 90,28,.move (.tmp 0)⟩,⟨true,some (83,true),some 91,3,.move (.tmp 13)⟩,⟨true,some (83,true),some 92,0,.indexAddr 28 (.tmp 90) (.tmp 91)⟩,⟨true,some (83,true),some 93,9,.load 9 (.tmp 92)⟩,⟨false,some (83,true),some 94,3,.call ⟨.value (.tmp 84),#[.tmp 89,.tmp 93],#[9,9]⟩⟩,⟨true,some (83,true),some 95,4,.binOp .lss 3 (.tmp 94) (.const (.int .i64 0)) 3⟩,⟨true,some (83,true),some 96,4,.unOp .not 4 (.tmp 95)⟩,⟨true,none,some 97,4,.pick (.tmp 83) (.tmp 96) (.const (.bool false))⟩]) (.cond (.tmp 97) (.seq (.ops [⟨false,none,some 98,28,.move (.tmp 0)⟩,⟨false,none,some 99,3,.move (.tmp 1)⟩,⟨false,none,some 100,3,.move (.tmp 2)⟩,⟨false,none,some 101,3,.move (.tmp 13)⟩,⟨false,none,some 102,121,.move (.tmp 4)⟩,⟨false,none,some 103,3,.call ⟨.value (.func 191),#[.tmp 98,.tmp 99,.tmp 100,.tmp 101,.tmp 102],#[28,3,3,3,121]⟩⟩,⟨false,none,some 15,3,.assign (.tmp 103)⟩]) (.seq (.ops [⟨false,none,some 104,3,.move (.tmp 15)⟩,⟨false,none,some 1,3,.assign (.tmp 104)⟩]) (.exit 1))) (.skip))) mc166_r4
noncomputable def mc166_r2:MC:=.seq (.seq (.ops [⟨false,none,some 68,4,.move (.tmp 10)⟩,⟨false,none,some 69,4,.move (.tmp 68)⟩,⟨false,some (69,true),some 70,4,.move (.tmp 11)⟩,⟨false,none,some 71,4,.pick (.tmp 69) (.tmp 70) (.const (.bool false))⟩,⟨false,none,some 72,4,.move (.tmp 71)⟩,⟨false,some (72,true),some 73,178,.move (.tmp 14)⟩,⟨false,some (72,true),some 74,4,.binOp .eql 178 (.tmp 73) (.const (.int .i64 1)) 178⟩,⟨false,none,some 75,4,.pick (.tmp 72) (.tmp 74) (.const (.bool false))⟩]) (.cond (.tmp 75) (.seq (.ops [⟨false,none,some 76,28,.move (.tmp 0)⟩,⟨false,none,some 77,3,.move (.tmp 1)⟩,⟨false,none,some 78,3,.move (.tmp 2)⟩,⟨false,none,some 79,121,.move (.tmp 4)⟩,⟨false,none,some 80,4,.call ⟨.value (.func 190),#[.tmp 76,.tmp 77,.tmp 78,.tmp 79],#[28,3,3,121]⟩⟩]) (.cond (.tmp 80) (.ret) (.skip))) (.skip))) mc166_r3
noncomputable def mc166_r1:MC:=.seq (.ops [⟨false,none,some 48,28,.move (.tmp 0)⟩,⟨false,none,some 49,3,.move (.tmp 1)⟩,⟨false,none,some 50,3,.move (.tmp 2)⟩,⟨false,none,some 51,121,.move (.tmp 4)⟩,⟨false,none,some 52,179,.call ⟨.value (.func 188),#[.tmp 48,.tmp 49,.tmp 50,.tmp 51],#[28,3,3,121]⟩⟩,⟨false,none,some 47,179,.move (.tmp 52)⟩,⟨false,none,some 53,3,.extract (.tmp 47) 0⟩,⟨false,none,some 54,178,.extract (.tmp 47) 1⟩,⟨false,none,some 13,3,.assign (.tmp 53)⟩,⟨false,none,some 14,178,.assign (.tmp 54)⟩]) (.seq (.seq (.ops [⟨false,none,some 55,178,.move (.tmp 14)⟩,⟨false,none,some 56,4,.binOp .eql 178 (.tmp 55) (.const (.int .i64 2)) 178⟩]) (.cond (.tmp 56) (.seq (.ops [⟨false,none,some 57,28,.move (.tmp 0)⟩,⟨false,none,some 58,3,.move (.tmp 1)⟩,⟨false,none,some 59,3,.move (.tmp 2)⟩,⟨false,none,some 60,121,.move (.tmp 4)⟩,⟨false,none,some 61,0,.call ⟨.value (.func 189),#[.tmp 57,.tmp 58,.tmp 59,.tmp 60],#[28,3,3,121]⟩⟩]) (.seq (.ops [⟨false,none,some 62,3,.move (.tmp 2)⟩,⟨false,none,some 63,3,.binOp .sub 3 (.tmp 62) (.const (.int .i64 1)) 3⟩,⟨false,none,some 64,3,.move (.tmp 13)⟩,⟨false,none,some 65,3,.move (.tmp 1)⟩,⟨false,none,some 66,3,.binOp .sub 3 (.tmp 64) (.tmp 65) 3⟩,⟨false,none,some 67,3,.binOp .sub 3 (.tmp 63) (.tmp 66) 3⟩,⟨false,none,some 13,3,.assign (.tmp 67)⟩]) (.ops [⟨false,none,some 14,178,.assign (.const (.int .i64 1))⟩]))) (.skip))) mc166_r2)
theorem mc166_l0_eq:mc166_l0=.block 1 (.seq (.ops [⟨false,none,some 21,3,.move (.tmp 2)⟩,⟨false,none,some 22,3,.move (.tmp 1)⟩,⟨false,none,some 23,3,.binOp .sub 3 (.tmp 21) (.tmp 22) 3⟩,⟨false,none,some 12,3,.assign (.tmp 23)⟩]) (.seq (.seq (.ops [⟨false,none,some 24,3,.move (.tmp 12)⟩,⟨false,none,some 25,4,.binOp .leq 3 (.tmp 24) (.const (.int .i64 12)) 3⟩]) (.cond (.tmp 25) (.seq (.ops [⟨false,none,some 26,28,.move (.tmp 0)⟩,⟨false,none,some 27,3,.move (.tmp 1)⟩,⟨false,none,some 28,3,.move (.tmp 2)⟩,⟨false,none,some 29,121,.move (.tmp 4)⟩,⟨false,none,some 30,0,.call ⟨.value (.func 185),#[.tmp 26,.tmp 27,.tmp 28,.tmp 29],#[28,3,3,121]⟩⟩]) (.ret)) (.skip))) (.seq (.seq (.ops [⟨false,none,some 31,3,.move (.tmp 3)⟩,⟨false,none,some 32,4,.binOp .eql 3 (.tmp 31) (.const (.int .i64 0)) 3⟩]) (.cond (.tmp 32) (.seq (.ops [⟨false,none,some 33,28,.move (.tmp 0)⟩,⟨false,none,some 34,3,.move (.tmp 1)⟩,⟨false,none,some 35,3,.move (.tmp 2)⟩,⟨false,none,some 36,121,.move (.tmp 4)⟩,⟨false,none,some 37,0,.call ⟨.value (.func 186),#[.tmp 33,.tmp 34,.tmp 35,.tmp 36],#[28,3,3,121]⟩⟩]) (.ret)) (.skip))) (.seq (.seq (.ops [⟨false,none,some 38,4,.move (.tmp 10)⟩,⟨false,none,some 39,4,.unOp .not 4 (.tmp 38)⟩]) (.cond (.tmp 39) (.seq (.ops [⟨false,none,some 40,28,.move (.tmp 0)⟩,⟨false,none,some 41,3,.move (.tmp 1)⟩,⟨false,none,some 42,3,.move (.tmp 2)⟩,⟨false,none,some 43,121,.move (.tmp 4)⟩,⟨false,none,some 44,0,.call ⟨.value (.func 187),#[.tmp 40,.tmp 41,.tmp 42,.tmp 43],#[28,3,3,121]⟩⟩]) (.ops [⟨false,none,some 45,3,.move (.tmp 3)⟩,⟨false,none,some 46,3,.binOp .sub 3 (.tmp 45) (.const (.int .i64 1)) 3⟩,⟨false,none,some 3,3,.assign (.tmp 46)⟩])) (.skip))) mc166_r1)))):=rfl
def RecW (ov:Ov) (C:α→List Value) (cI:α→α→Int) (fv:Value) (g n c B d:Nat):Prop:=∀ (a b:Nat) (lim:Int) (L:List α) (w:AW),a≤b→b≤n→b - a < d→L.length=n→(∀ x,0 < a→L[a - 1]?=some x→All (fun z=>¬ cI z x < 0) L a b)→w.lim≤B→w.lim≤w.next→B < w.next→w.heap.get B=some (.cells (L.flatMap C) 9 false) →
  ∃ x w',(run Tryz.prog ov (g + 5)).call 166 [.slice (some ⟨B,0,none⟩) n c,.int .i64 (a:Int),.int .i64 (b:Int),.int .i64 lim,fv] w .none=.ok (.ret x) w' .none∧x=.tuple ⟨[]⟩∧∃ L',LeftW C w w' B a b L L'∧Srt (fun x y=>cI x y < 0) L' a b
structure OsW (ov:Ov):Prop where
 oPDQ:∀ args w,ov 166 args w=none
 oINS:∀ args w,ov 185 args w=none
 oHEAP:∀ args w,ov 186 args w=none
 oSIF:∀ args w,ov 203 args w=none
 oBRK:∀ args w,ov 187 args w=none
 oCHO:∀ args w,ov 188 args w=none
 oREV:∀ args w,ov 189 args w=none
 oPIN:∀ args w,ov 190 args w=none
 oPEQ:∀ args w,ov 191 args w=none
 oPAR:∀ args w,ov 192 args w=none
 oNPT:∀ args w,ov 179 args w=none
 oNXT:∀ args w,ov 180 args w=none
 oMDA:∀ args w,ov 204 args w=none
 oMED:∀ args w,ov 205 args w=none
 oORD:∀ args w,ov 220 args w=none
 oLEN:∀ args w,ov 124 args w=none
 oL64:∀ args w,ov 163 args w=none
set_option maxHeartbeats 2000000 in
theorem pdq4W (g:Nat) (h:SW ov C V sz cI fv fc) (o:OsW ov) (n c:Nat) (hn:n≤200) (a b:Nat) (hbn:b≤n) (B:Nat) (w0:AW) (hl:w0.lim≤B) (hl0:w0.lim≤w0.next) (hBn:B < w0.next) (L0:List α) (hL0:L0.length=n) (a1 b1:Nat) (hd:a1 + 12 < b1) (hrec:RecW ov C cI fv g n c B (b1 - a1)) (L:List α) (hP:Pdq (fun x y=>cI x y < 0) a b a1 b1 L0 L) (Q:Ex→Tm→AW→Prop) (t:Tm) (w:AW) (hw:InW C w0 B L w) (lim:Int) (t0:tget t 0=.slice (some ⟨B,0,none⟩) n c) (t1:tget t 1=.int .i64 (a1:Nat)) (t2:tget t 2=.int .i64 (b1:Nat)) (t3:tget t 3=.int .i64 lim) (t4:tget t 4=fv) (t12:tget t 12=.int .i64 ((b1 - a1:Nat):Int)) (pv:Nat) (hpa:a1≤pv) (hpb:pv < b1) (t13:tget t 13=.int .i64 (pv:Nat)) (hN:∀ t w L a2 b2,Pdq (fun x y=>cI x y < 0) a b a2 b2 L0 L→b2 - a2 < b1 - a1→InW C w0 B L w→tget t 0=.slice (some ⟨B,0,none⟩) n c→tget t 1=.int .i64 (a2:Nat)→tget t 2=.int .i64 (b2:Nat)→tget t 3=.int .i64 lim→tget t 4=fv→(∃ wb,tget t 10=.bool wb)→(∃ wp,tget t 11=.bool wp)→Q .normal t w) :
  wp (exM Tryz.prog (run Tryz.prog ov (g + 5)) mc166_r4 t w) Q:=by
 have hlen:L.length=n:=by rw [hP.mv.len,hL0]
 have hlm:=hw.lim
 have hnx:=hw.next
 have hb0:=hP.b1
 obtain ⟨za,hza⟩:∃ k:Int,k=(a1:Int):=⟨_,rfl⟩
 obtain ⟨zb,hzb⟩:∃ k:Int,k=(b1:Int):=⟨_,rfl⟩
 obtain ⟨zl,hzl⟩:∃ k:Int,k=((b1 - a1:Nat):Int):=⟨_,rfl⟩
 rw [← hza] at t1
 rw [← hzb] at t2
 rw [← hzl] at t12
 obtain ⟨_,w1,c1,L1,k,p,bb,rfl,⟨i1,m1⟩,pt⟩:=call192 (g + 3) o.oPAR h n c hn a1 b1 pv (by omega) (by omega) hpa hpb B L hlen w (by omega) hw.row
 have hP1:=hP.move m1
 have hlen1:L1.length=n:=by rw [m1.len,hlen]
 have hw1:=hw.trans i1
 have hlm1:=hw1.lim
 have hnx1:=hw1.next
 obtain ⟨p1,p2,p3,p4,p5⟩:=pt
 obtain ⟨zp,hzp⟩:∃ k:Int,k=(pv:Int):=⟨_,rfl⟩
 obtain ⟨zk,hzk⟩:∃ z:Int,z=(k:Int):=⟨_,rfl⟩
 obtain ⟨zm,hzm⟩:∃ z:Int,z=((k + 1:Nat):Int):=⟨_,rfl⟩
 rw [← hza,← hzb,← hzp,← hzk] at c1
 rw [← hzp] at t13
 have e1:IntKind.wrap .i64 (zk - za)=zk - za:=w6i (by omega) (by omega)
 have e2:IntKind.wrap .i64 (zb - zk)=zb - zk:=w6i (by omega) (by omega)
 have e3:IntKind.wrap .i64 (zk + 1)=zm:=by rw [w6i (by omega) (by omega)]; omega
 obtain ⟨z8,hz8⟩:∃ z:Int,IntKind.wrap .i64 (zl.tdiv 8)=z:=⟨_,rfl⟩
 have low1:=hP1.low
 have hcr:∀ (L2:List α),L2[k]?=some p→All (LtP cI p) L2 a1 k→All (GeP cI p) L2 (k + 1) b1→∀ i j x y,a1≤i→i < k + 1→k≤j→i < j→j < b1→L2[i]?=some x→L2[j]?=some y→¬ cI y x < 0:=fun L2 q0 q1 q2 i j x y h1 h2 h3 h4 h5 hx hy=>by
  have hx':¬ cI p x < 0:=by
   by_cases hi:i=k
   ·subst hi; rw [q0] at hx; cases hx; exact h.wk.irr _
   ·exact h.wk.asym (q1 i x h1 (by omega) hx)
  have hy':¬ cI y p < 0:=by
   by_cases hj:j=k
   ·subst hj; rw [q0] at hy; cases hy; exact h.wk.irr _
   ·exact q2 j y (by omega) h5 hy
  exact h.wk.trans hx' hy'
 by_cases hlt:zk - za < zb - zk
 ·obtain ⟨_,w2,c2,rfl,L2,⟨i2,m2⟩,s2⟩:=hrec a1 k lim L1 w1 p1 (by omega) (by omega) hlen1 (fun x h0 hx=>(low1 x h0 hx).part (Nat.le_refl _) (by omega)) (by omega) (by omega) (by omega) hw1.row
  rw [← hza,← hzk] at c2
  have q0:L2[k]?=some p:=by rw [m2.out k (.inr (Nat.le_refl _))]; exact p3
  have q1:=p4.mv m2
  have q2:All (GeP cI p) L2 (k + 1) b1:=p5.out m2 (.inr (by omega))
  have hP2:=hP1.move (m2.widen (Nat.le_refl _) (by omega))
  have hS:Srt (fun x y=>cI x y < 0) L2 a1 (k + 1):=fun i j x y h1 h2 h3 hx hy=>by
   by_cases hj:j=k
   ·exact hcr L2 q0 q1 q2 i j x y h1 (by omega) (by omega) h2 (by omega) hx hy
   ·exact s2 i j x y h1 h2 (by omega) hx hy
  have hP3:=hP2.right (m:=k + 1) (by omega) (by omega) hS (fun i j x y h1 h2 h3 h4 hx hy=>hcr L2 q0 q1 q2 i j x y h1 h2 (by omega) (by omega) h4 hx hy) (by omega)
  simp [mc166_r4,t0,t1,t2,t3,t4,t12,t13,c1,e1,e2,hlt,c2,e3,bin_quo,hz8]
  exact hN _ w2 L2 (k + 1) b1 hP3 (by omega) (hw1.trans i2) (by simp [t0]) (by simp [hzm]) (by simp [t2,hzb]) (by simp [t3]) (by simp [t4]) ⟨_,by simp; rfl⟩ ⟨_,by simp; rfl⟩
 ·obtain ⟨_,w2,c2,rfl,L2,⟨i2,m2⟩,s2⟩:=hrec (k + 1) b1 lim L1 w1 (by omega) (by omega) (by omega) hlen1 (fun x h0 hx=>by
   rw [show k + 1 - 1=k by omega,p3] at hx; cases hx; exact p5) (by omega) (by omega) (by omega) hw1.row
  rw [← hzb,← hzm] at c2
  have q0:L2[k]?=some p:=by rw [m2.out k (.inl (by omega))]; exact p3
  have q1:All (LtP cI p) L2 a1 k:=p4.out m2 (.inl (by omega))
  have q2:=p5.mv m2
  have hP2:=hP1.move (m2.widen (by omega) (Nat.le_refl _))
  have hS:Srt (fun x y=>cI x y < 0) L2 k b1:=s2.cons q0 q2
  have hP3:=hP2.left (m:=k) p1 (by omega) hS (fun i j x y h1 h2 h3 h4 hx hy=>hcr L2 q0 q1 q2 i j x y h1 (by omega) h3 (by omega) h4 hx hy)
  simp [mc166_r4,t0,t1,t2,t3,t4,t12,t13,c1,e1,e2,hlt,c2,e3,bin_quo,hz8]
  exact hN _ w2 L2 a1 k hP3 (by omega) (hw1.trans i2) (by simp [t0]) (by simp [t1,hza]) (by simp [hzk]) (by simp [t3]) (by simp [t4]) ⟨_,by simp; rfl⟩ ⟨_,by simp; rfl⟩
end
section
variable {α:Type} {C:α→List Value} {V:α→Value} {sz:Nat} {cI:α→α→Int} {fv:Value} {fc:FuncId} {ov:Ov}
set_option maxHeartbeats 2000000 in
theorem pdq3W (g:Nat) (h:SW ov C V sz cI fv fc) (o:OsW ov) (n c:Nat) (hn:n≤200) (a b:Nat) (hbn:b≤n) (B:Nat) (w0:AW) (hl:w0.lim≤B) (hl0:w0.lim≤w0.next) (hBn:B < w0.next) (L0:List α) (hL0:L0.length=n) (a1 b1:Nat) (hd:a1 + 12 < b1) (hrec:RecW ov C cI fv g n c B (b1 - a1)) (L:List α) (hP:Pdq (fun x y=>cI x y < 0) a b a1 b1 L0 L) (Q:Ex→Tm→AW→Prop) (t:Tm) (w:AW) (hw:InW C w0 B L w) (lim:Int) (t0:tget t 0=.slice (some ⟨B,0,none⟩) n c) (t1:tget t 1=.int .i64 (a1:Nat)) (t2:tget t 2=.int .i64 (b1:Nat)) (t3:tget t 3=.int .i64 lim) (t4:tget t 4=fv) (t12:tget t 12=.int .i64 ((b1 - a1:Nat):Int)) (wb wq:Bool) (t10:tget t 10=.bool wb) (t11:tget t 11=.bool wq) (pv:Nat) (hpa:a1≤pv) (hpb:pv < b1) (t13:tget t 13=.int .i64 (pv:Nat)) (hN:∀ t w L a2 b2,Pdq (fun x y=>cI x y < 0) a b a2 b2 L0 L→b2 - a2 < b1 - a1→InW C w0 B L w→tget t 0=.slice (some ⟨B,0,none⟩) n c→tget t 1=.int .i64 (a2:Nat)→tget t 2=.int .i64 (b2:Nat)→tget t 3=.int .i64 lim→tget t 4=fv→(∃ wb,tget t 10=.bool wb)→(∃ wp,tget t 11=.bool wp)→Q .normal t w) (hE:∀ t w L a2 b2,Pdq (fun x y=>cI x y < 0) a b a2 b2 L0 L→b2 - a2 < b1 - a1→InW C w0 B L w→tget t 0=.slice (some ⟨B,0,none⟩) n c→tget t 1=.int .i64 (a2:Nat)→tget t 2=.int .i64 (b2:Nat)→tget t 3=.int .i64 lim→tget t 4=fv→(∃ wb,tget t 10=.bool wb)→(∃ wp,tget t 11=.bool wp)→Q (.exit 1) t w) :
  wp (exM Tryz.prog (run Tryz.prog ov (g + 5)) mc166_r3 t w) Q:=by
 have key:∀ t',tget t' 0=.slice (some ⟨B,0,none⟩) n c→tget t' 1=.int .i64 (a1:Nat)→tget t' 2=.int .i64 (b1:Nat)→tget t' 3=.int .i64 lim→tget t' 4=fv→tget t' 12=.int .i64 ((b1 - a1:Nat):Int)→tget t' 13=.int .i64 (pv:Nat)→wp (exM Tryz.prog (run Tryz.prog ov (g + 5)) mc166_r4 t' w) Q:=fun t' s0 s1 s2 s3 s4 s12 s13=>pdq4W g h o n c hn a b hbn B w0 hl hl0 hBn L0 hL0 a1 b1 hd hrec L hP Q t' w hw lim s0 s1 s2 s3 s4 s12 pv hpa hpb s13 hN
 have hlen:L.length=n:=by rw [hP.mv.len,hL0]
 have hlm:=hw.lim
 have hnx:=hw.next
 have hb0:=hP.b1
 obtain ⟨za,hza⟩:∃ k:Int,k=(a1:Int):=⟨_,rfl⟩
 obtain ⟨zb,hzb⟩:∃ k:Int,k=(b1:Int):=⟨_,rfl⟩
 obtain ⟨zl,hzl⟩:∃ k:Int,k=((b1 - a1:Nat):Int):=⟨_,rfl⟩
 rw [← hza] at t1
 rw [← hzb] at t2
 rw [← hzl] at t12
 obtain ⟨zp,hzp⟩:∃ k:Int,k=(pv:Int):=⟨_,rfl⟩
 rw [← hzp] at t13
 by_cases h0:0 < a1
 ·have h0':0 < za:=by omega
  obtain ⟨zx,hzx⟩:∃ k:Int,k=((a1 - 1:Nat):Int):=⟨_,rfl⟩
  have e1:IntKind.wrap .i64 (za - 1)=zx:=by rw [w6i (by omega) (by omega)]; omega
  obtain ⟨x,hx⟩:=at_get (L:=L) (i:=a1 - 1) (by omega)
  obtain ⟨p,hp⟩:=at_get (L:=L) (i:=pv) (by omega)
  have ixx:=h.ix (k:=a1 - 1) (n:=n) (by omega) hzx B c
  have ixp:=h.ix (k:=pv) (n:=n) (by omega) hzp B c
  have ldx:=h.ld hw hx
  have ldp:=h.ld hw hp
  have cm:=h.cm (g + 4) w x p
  by_cases hc:cI x p < 0
  ·simp [mc166_r3,t0,t1,t2,t3,t4,t12,t13,h0',e1,ixx,ixp,ldx,ldp,h.cv,cm,hc, -ld9, -st9]
   exact key _ (by simp [t0]) (by simp [t1,hza]) (by simp [t2,hzb]) (by simp [t3]) (by simp [t4]) (by simp [t12,hzl]) (by simp [t13,hzp])
  ·obtain ⟨_,w1,c1,L1,k,rfl,⟨i1,m1⟩,k1,k2,g1,g2⟩:=call191 (g + 3) o.oPEQ h n c hn a1 b1 pv (by omega) (by omega) hpa hpb B L p hp hlen w (by omega) hw.row
   have hP1:=hP.move m1
   have hlx:L1[a1 - 1]?=some x:=by rw [m1.out _ (.inl (by omega))]; exact hx
   have low1:=hP1.low x h0 hlx
   have hS:Srt (fun x y=>cI x y < 0) L1 a1 k:=fun i j u v h1 h2 h3 hu hv=>h.wk.trans (h.wk.trans (g1 i u h1 (by omega) hu) hc) (low1 j v (by omega) (by omega) hv)
   have hP2:=hP1.right (m:=k) (by omega) k2 hS (fun i j u v h1 h2 h3 h4 hu hv=>fun hh=>h.wk.asym (g2 j v h3 h4 hv) (h.wk.lt_le hh (g1 i u h1 h2 hu))) k1
   rw [← hza,← hzb,← hzp] at c1
   obtain ⟨zk,hzk⟩:∃ z:Int,z=(k:Int):=⟨_,rfl⟩
   rw [← hzk] at c1
   simp [mc166_r3,t0,t1,t2,t3,t4,t12,t13,h0',e1,ixx,ixp,ldx,ldp,h.cv,cm,hc,c1, -ld9, -st9]
   exact hE _ w1 L1 k b1 hP2 (by omega) (hw.trans i1) (by simp [t0]) (by simp [hzk]) (by simp [t2,hzb]) (by simp [t3]) (by simp [t4]) ⟨wb,by simp [t10]⟩ ⟨wq,by simp [t11]⟩
 ·have h0':¬ 0 < za:=by omega
  simp [mc166_r3,t0,t1,t2,t3,t4,t12,t13,h0']
  exact key _ (by simp [t0]) (by simp [t1,hza]) (by simp [t2,hzb]) (by simp [t3]) (by simp [t4]) (by simp [t12,hzl]) (by simp [t13,hzp])
end
section
variable {α:Type} {C:α→List Value} {V:α→Value} {sz:Nat} {cI:α→α→Int} {fv:Value} {fc:FuncId} {ov:Ov}
set_option maxHeartbeats 2000000 in
theorem pdq2W (g:Nat) (h:SW ov C V sz cI fv fc) (o:OsW ov) (n c:Nat) (hn:n≤200) (a b:Nat) (hbn:b≤n) (B:Nat) (w0:AW) (hl:w0.lim≤B) (hl0:w0.lim≤w0.next) (hBn:B < w0.next) (L0:List α) (hL0:L0.length=n) (a1 b1:Nat) (hd:a1 + 12 < b1) (hrec:RecW ov C cI fv g n c B (b1 - a1)) (L:List α) (hP:Pdq (fun x y=>cI x y < 0) a b a1 b1 L0 L) (Q:Ex→Tm→AW→Prop) (t:Tm) (w:AW) (hw:InW C w0 B L w) (lim:Int) (t0:tget t 0=.slice (some ⟨B,0,none⟩) n c) (t1:tget t 1=.int .i64 (a1:Nat)) (t2:tget t 2=.int .i64 (b1:Nat)) (t3:tget t 3=.int .i64 lim) (t4:tget t 4=fv) (t12:tget t 12=.int .i64 ((b1 - a1:Nat):Int)) (wb wq:Bool) (t10:tget t 10=.bool wb) (t11:tget t 11=.bool wq) (pv:Nat) (hpa:a1≤pv) (hpb:pv < b1) (t13:tget t 13=.int .i64 (pv:Nat)) (hint:Int) (t14:tget t 14=.int .i64 hint) (hN:∀ t w L a2 b2,Pdq (fun x y=>cI x y < 0) a b a2 b2 L0 L→b2 - a2 < b1 - a1→InW C w0 B L w→tget t 0=.slice (some ⟨B,0,none⟩) n c→tget t 1=.int .i64 (a2:Nat)→tget t 2=.int .i64 (b2:Nat)→tget t 3=.int .i64 lim→tget t 4=fv→(∃ wb,tget t 10=.bool wb)→(∃ wp,tget t 11=.bool wp)→Q .normal t w) (hE:∀ t w L a2 b2,Pdq (fun x y=>cI x y < 0) a b a2 b2 L0 L→b2 - a2 < b1 - a1→InW C w0 B L w→tget t 0=.slice (some ⟨B,0,none⟩) n c→tget t 1=.int .i64 (a2:Nat)→tget t 2=.int .i64 (b2:Nat)→tget t 3=.int .i64 lim→tget t 4=fv→(∃ wb,tget t 10=.bool wb)→(∃ wp,tget t 11=.bool wp)→Q (.exit 1) t w) (hR:∀ t w L,InW C w0 B L w→Mv a b L0 L→Srt (fun x y=>cI x y < 0) L a b→Q .ret t w) :
  wp (exM Tryz.prog (run Tryz.prog ov (g + 5)) mc166_r2 t w) Q:=by
 have key:∀ t' w' L',Pdq (fun x y=>cI x y < 0) a b a1 b1 L0 L'→InW C w0 B L' w'→tget t' 0=.slice (some ⟨B,0,none⟩) n c→tget t' 1=.int .i64 (a1:Nat)→tget t' 2=.int .i64 (b1:Nat)→tget t' 3=.int .i64 lim→tget t' 4=fv→tget t' 12=.int .i64 ((b1 - a1:Nat):Int)→tget t' 10=.bool wb→tget t' 11=.bool wq→tget t' 13=.int .i64 (pv:Nat)→wp (exM Tryz.prog (run Tryz.prog ov (g + 5)) mc166_r3 t' w') Q:=fun t' w' L' hP' hw' s0 s1 s2 s3 s4 s12 s10 s11 s13=>pdq3W g h o n c hn a b hbn B w0 hl hl0 hBn L0 hL0 a1 b1 hd hrec L' hP' Q t' w' hw' lim s0 s1 s2 s3 s4 s12 wb wq s10 s11 pv hpa hpb s13 hN hE
 have hlen:L.length=n:=by rw [hP.mv.len,hL0]
 have hlm:=hw.lim
 have hnx:=hw.next
 have hb0:=hP.b1
 obtain ⟨za,hza⟩:∃ k:Int,k=(a1:Int):=⟨_,rfl⟩
 obtain ⟨zb,hzb⟩:∃ k:Int,k=(b1:Int):=⟨_,rfl⟩
 obtain ⟨zl,hzl⟩:∃ k:Int,k=((b1 - a1:Nat):Int):=⟨_,rfl⟩
 rw [← hza] at t1
 rw [← hzb] at t2
 rw [← hzl] at t12
 by_cases hcond:wb=true∧wq=true∧hint=1
 ·obtain ⟨rfl,rfl,rfl⟩:=hcond
  obtain ⟨_,w1,c1,L1,bb,rfl,⟨i1,m1⟩,hs⟩:=call190 (g + 3) o.oPIN h n c hn a1 b1 (by omega) (by omega) B L hlen hP.low w (by omega) hw.row
  rw [← hza,← hzb] at c1
  cases bb with
  | true =>
   simp [mc166_r2,t0,t1,t2,t3,t4,t10,t11,t14,c1]
   exact hR _ w1 L1 (hw.trans i1) (hP.move m1).mv ((hP.move m1).done (hs rfl))
  | false =>
   simp [mc166_r2,t0,t1,t2,t3,t4,t10,t11,t14,c1]
   exact key _ w1 L1 (hP.move m1) (hw.trans i1) (by simp [t0]) (by simp [t1,hza]) (by simp [t2,hzb]) (by simp [t3]) (by simp [t4]) (by simp [t12,hzl]) (by simp [t10]) (by simp [t11]) (by simp [t13])
 ·have fin:wp (exM Tryz.prog (run Tryz.prog ov (g + 5)) mc166_r2 t w) Q:=by
   by_cases h1:hint=1
   ·subst h1
    cases wb <;> cases wq <;> first
     | exact absurd ⟨rfl,rfl,rfl⟩ hcond
     | (simp [mc166_r2,t10,t11,t14]; exact key _ w L hP hw (by simp [t0]) (by simp [t1,hza]) (by simp [t2,hzb]) (by simp [t3]) (by simp [t4]) (by simp [t12,hzl]) (by simp [t10]) (by simp [t11]) (by simp [t13]))
   ·cases wb <;> cases wq <;> (simp [mc166_r2,t10,t11,t14,h1]; exact key _ w L hP hw (by simp [t0]) (by simp [t1,hza]) (by simp [t2,hzb]) (by simp [t3]) (by simp [t4]) (by simp [t12,hzl]) (by simp [t10]) (by simp [t11]) (by simp [t13]))
  exact fin
end
section
variable {α:Type} {C:α→List Value} {V:α→Value} {sz:Nat} {cI:α→α→Int} {fv:Value} {fc:FuncId} {ov:Ov}
set_option maxHeartbeats 2000000 in
theorem pdq1W (g:Nat) (h:SW ov C V sz cI fv fc) (o:OsW ov) (n c:Nat) (hn:n≤200) (a b:Nat) (hbn:b≤n) (B:Nat) (w0:AW) (hl:w0.lim≤B) (hl0:w0.lim≤w0.next) (hBn:B < w0.next) (L0:List α) (hL0:L0.length=n) (a1 b1:Nat) (hd:a1 + 12 < b1) (hrec:RecW ov C cI fv g n c B (b1 - a1)) (L:List α) (hP:Pdq (fun x y=>cI x y < 0) a b a1 b1 L0 L) (Q:Ex→Tm→AW→Prop) (t:Tm) (w:AW) (hw:InW C w0 B L w) (lim:Int) (t0:tget t 0=.slice (some ⟨B,0,none⟩) n c) (t1:tget t 1=.int .i64 (a1:Nat)) (t2:tget t 2=.int .i64 (b1:Nat)) (t3:tget t 3=.int .i64 lim) (t4:tget t 4=fv) (t12:tget t 12=.int .i64 ((b1 - a1:Nat):Int)) (wb wq:Bool) (t10:tget t 10=.bool wb) (t11:tget t 11=.bool wq) (hN:∀ t w L a2 b2,Pdq (fun x y=>cI x y < 0) a b a2 b2 L0 L→b2 - a2 < b1 - a1→InW C w0 B L w→tget t 0=.slice (some ⟨B,0,none⟩) n c→tget t 1=.int .i64 (a2:Nat)→tget t 2=.int .i64 (b2:Nat)→tget t 3=.int .i64 lim→tget t 4=fv→(∃ wb,tget t 10=.bool wb)→(∃ wp,tget t 11=.bool wp)→Q .normal t w) (hE:∀ t w L a2 b2,Pdq (fun x y=>cI x y < 0) a b a2 b2 L0 L→b2 - a2 < b1 - a1→InW C w0 B L w→tget t 0=.slice (some ⟨B,0,none⟩) n c→tget t 1=.int .i64 (a2:Nat)→tget t 2=.int .i64 (b2:Nat)→tget t 3=.int .i64 lim→tget t 4=fv→(∃ wb,tget t 10=.bool wb)→(∃ wp,tget t 11=.bool wp)→Q (.exit 1) t w) (hR:∀ t w L,InW C w0 B L w→Mv a b L0 L→Srt (fun x y=>cI x y < 0) L a b→Q .ret t w) :
  wp (exM Tryz.prog (run Tryz.prog ov (g + 5)) mc166_r1 t w) Q:=by
 have key:∀ t' w' L' (pv:Nat) (hint:Int),a1≤pv→pv < b1→Pdq (fun x y=>cI x y < 0) a b a1 b1 L0 L'→InW C w0 B L' w'→tget t' 0=.slice (some ⟨B,0,none⟩) n c→tget t' 1=.int .i64 (a1:Nat)→tget t' 2=.int .i64 (b1:Nat)→tget t' 3=.int .i64 lim→tget t' 4=fv→tget t' 12=.int .i64 ((b1 - a1:Nat):Int)→tget t' 10=.bool wb→tget t' 11=.bool wq→tget t' 13=.int .i64 (pv:Nat)→tget t' 14=.int .i64 hint→wp (exM Tryz.prog (run Tryz.prog ov (g + 5)) mc166_r2 t' w') Q:=fun t' w' L' pv hint hpa hpb hP' hw' s0 s1 s2 s3 s4 s12 s10 s11 s13 s14=>pdq2W g h o n c hn a b hbn B w0 hl hl0 hBn L0 hL0 a1 b1 hd hrec L' hP' Q t' w' hw' lim s0 s1 s2 s3 s4 s12 wb wq s10 s11 pv hpa hpb s13 hint s14 hN hE hR
 have hlen:L.length=n:=by rw [hP.mv.len,hL0]
 have hlm:=hw.lim
 have hnx:=hw.next
 have hb0:=hP.b1
 obtain ⟨za,hza⟩:∃ k:Int,k=(a1:Int):=⟨_,rfl⟩
 obtain ⟨zb,hzb⟩:∃ k:Int,k=(b1:Int):=⟨_,rfl⟩
 obtain ⟨zl,hzl⟩:∃ k:Int,k=((b1 - a1:Nat):Int):=⟨_,rfl⟩
 rw [← hza] at t1
 rw [← hzb] at t2
 rw [← hzl] at t12
 obtain ⟨_,w1,c1,⟨k,hint,rfl,k1,k2⟩,i1⟩:=call188 g o.oCHO o.oMDA o.oMED o.oORD h n c hn a1 b1 hd (by omega) B L hlen w (by omega) (by omega) hw.row
 have hw1:=hw.trans i1
 have hlm1:=hw1.lim
 rw [← hza,← hzb] at c1
 by_cases h2:hint=2
 ·subst h2
  obtain ⟨_,w2,c2,rfl,L2,i2,m2⟩:=call189 (g + 3) o.oREV h n c hn a1 b1 (by omega) (by omega) B L hlen w1 (by omega) hw1.row
  rw [← hza,← hzb] at c2
  obtain ⟨zk,hzk⟩:∃ z:Int,z=(k:Int):=⟨_,rfl⟩
  rw [← hzk] at c1
  have e1:IntKind.wrap .i64 (zb - 1)=zb - 1:=w6i (by omega) (by omega)
  have e2:IntKind.wrap .i64 (zk - za)=zk - za:=w6i (by omega) (by omega)
  have e3:IntKind.wrap .i64 (zb - 1 - (zk - za))=((b1 - 1 - (k - a1):Nat):Int):=by rw [w6i (by omega) (by omega)]; omega
  simp [mc166_r1,t0,t1,t2,t3,t4,t10,t11,t12,c1,c2,e1,e2,e3]
  exact key _ w2 L2 (b1 - 1 - (k - a1)) 1 (by omega) (by omega) (hP.move m2) (hw1.trans i2) (by simp [t0]) (by simp [t1,hza]) (by simp [t2,hzb]) (by simp [t3]) (by simp [t4]) (by simp [t12,hzl]) (by simp [t10]) (by simp [t11]) (by simp) (by simp)
 ·simp [mc166_r1,t0,t1,t2,t3,t4,t10,t11,t12,c1,h2]
  exact key _ w1 L k hint k1 k2 hP hw1 (by simp [t0]) (by simp [t1,hza]) (by simp [t2,hzb]) (by simp [t3]) (by simp [t4]) (by simp [t12,hzl]) (by simp [t10]) (by simp [t11]) (by simp) (by simp)
end
section
variable {α:Type} {C:α→List Value} {V:α→Value} {sz:Nat} {cI:α→α→Int} {fv:Value} {fc:FuncId} {ov:Ov}
def PdqIW (C:α→List Value) (cI:α→α→Int) (fv:Value) (n c B a b:Nat) (L0:List α) (w0:AW) (r:Nat) (t:Tm) (w:AW):Prop:=∃ L a1 b1 lim,Pdq (fun x y=>cI x y < 0) a b a1 b1 L0 L∧(b1 - a1) + r≤b - a∧InW C w0 B L w∧tget t 0=.slice (some ⟨B,0,none⟩) n c∧tget t 1=.int .i64 (a1:Nat)∧tget t 2=.int .i64 (b1:Nat)∧tget t 3=.int .i64 lim∧tget t 4=fv∧(∃ wb,tget t 10=.bool wb)∧(∃ wq,tget t 11=.bool wq)
set_option maxHeartbeats 4000000 in
theorem pdq0W (g:Nat) (h:SW ov C V sz cI fv fc) (o:OsW ov) (n c:Nat) (hn:n≤200) (a b:Nat) (hab:a≤b) (hbn:b≤n) (B:Nat) (w0:AW) (hl:w0.lim≤B) (hl0:w0.lim≤w0.next) (hBn:B < w0.next) (L0:List α) (hL0:L0.length=n) (hrec:RecW ov C cI fv g n c B (b - a)) (low:∀ x,0 < a→L0[a - 1]?=some x→All (fun z=>¬ cI z x < 0) L0 a b) (Q:Ex→Tm→AW→Prop) (t:Tm) (w:AW) (hw:InW C w0 B L0 w) (lim:Int)
  (t0:tget t 0=.slice (some ⟨B,0,none⟩) n c) (t1:tget t 1=.int .i64 (a:Nat)) (t2:tget t 2=.int .i64 (b:Nat)) (t3:tget t 3=.int .i64 lim) (t4:tget t 4=fv) (t10:tget t 10=.bool true) (t11:tget t 11=.bool true)
  (hR:∀ t w L,InW C w0 B L w→Mv a b L0 L→Srt (fun x y=>cI x y < 0) L a b→Q .ret t w):wp (exM Tryz.prog (run Tryz.prog ov (g + 5)) (.loop mc166_l0) t w) Q:=by
 refine wp_rounds (fun r t w=>PdqIW C cI fv n c B a b L0 w0 r t w) 300 (by decide) ⟨L0,a,b,lim,Pdq.start hab (by omega) low,by omega,hw,t0,t1,t2,t3,t4,⟨_,t10⟩,⟨_,t11⟩⟩ ?_
 clear t0 t1 t2 t3 t4 t10 t11 hw lim
 rintro r t w ⟨L,a1,b1,lim,hP,hr,hw,t0,t1,t2,t3,t4,⟨wb,t10⟩,⟨wq,t11⟩⟩
 have hlen:L.length=n:=by rw [hP.mv.len,hL0]
 have hlm:=hw.lim
 have hnx:=hw.next
 have hb0:=hP.b1
 have hab1:=hP.ab
 rw [mc166_l0_eq]
 obtain ⟨za,hza⟩:∃ k:Int,k=(a1:Int):=⟨_,rfl⟩
 obtain ⟨zb,hzb⟩:∃ k:Int,k=(b1:Int):=⟨_,rfl⟩
 obtain ⟨zl,hzl⟩:∃ k:Int,k=((b1 - a1:Nat):Int):=⟨_,rfl⟩
 rw [← hza] at t1
 rw [← hzb] at t2
 have e1:IntKind.wrap .i64 (zb - za)=zl:=by rw [w6i (by omega) (by omega)]; omega
 by_cases h12:b1 - a1≤12
 ·have h12':zl≤12:=by omega
  obtain ⟨_,w1,c1,rfl,L1,⟨i1,m1⟩,s1⟩:=call185 (g + 3) o.oINS h n c hn a1 b1 hab1 (by omega) B L hlen w (by omega) hw.row
  rw [← hza,← hzb] at c1
  simp [t0,t1,t2,t3,t4,t10,t11,e1,h12',c1]
  exact hR _ w1 L1 (hw.trans i1) (hP.move m1).mv ((hP.move m1).done s1)
 ·have h12':¬ zl≤12:=by omega
  by_cases h0:lim=0
  ·subst h0
   obtain ⟨_,w1,c1,rfl,L1,⟨i1,m1⟩,s1⟩:=call186 (g + 2) o.oHEAP o.oSIF h n c hn a1 b1 (by omega) (by omega) B L hlen w (by omega) hw.row
   rw [← hza,← hzb] at c1
   simp [t0,t1,t2,t3,t4,t10,t11,e1,h12',c1]
   exact hR _ w1 L1 (hw.trans i1) (hP.move m1).mv ((hP.move m1).done s1)
  ·have hrec':RecW ov C cI fv g n c B (b1 - a1):=fun a' b' l' L' w' e1 e2 e3=>hrec a' b' l' L' w' e1 e2 (by omega)
   have go:∀ (lim':Int) t' w',(∃ L a2 b2,Pdq (fun x y=>cI x y < 0) a b a2 b2 L0 L∧b2 - a2 < b1 - a1∧InW C w0 B L w'∧tget t' 0=.slice (some ⟨B,0,none⟩) n c∧tget t' 1=.int .i64 (a2:Nat)∧tget t' 2=.int .i64 (b2:Nat)∧tget t' 3=.int .i64 lim'∧tget t' 4=fv∧(∃ wb,tget t' 10=.bool wb)∧(∃ wp,tget t' 11=.bool wp))→r < 300∧PdqIW C cI fv n c B a b L0 w0 (r + 1) t' w':=fun lim' t' w' ⟨L,a2,b2,q1,q2,q3,q4,q5,q6,q7,q8,q9,q10⟩=>⟨by omega,L,a2,b2,lim',q1,by omega,q3,q4,q5,q6,q7,q8,q9,q10⟩
   cases wb with
   | true =>
    simp [t0,t1,t2,t3,t4,t10,t11,e1,h12',h0]
    refine wp_blockX (pdq1W g h o n c hn a b hbn B w0 hl hl0 hBn L0 hL0 a1 b1 (by omega) hrec' L hP _ _ _ hw lim ?_ ?_ ?_ ?_ ?_ ?_ true wq ?_ ?_ ?_ ?_ ?_)
    case _=>simp [t0]
    case _=>simp [t1,hza]
    case _=>simp [t2,hzb]
    case _=>simp [t3]
    case _=>simp [t4]
    case _=>simp [hzl]
    case _=>simp [t10]
    case _=>simp [t11]
    case _=>exact fun t' w' L' a2 b2 q1 q2 q3 q4 q5 q6 q7 q8 q9 q10=>go lim t' w' ⟨L',a2,b2,q1,q2,q3,q4,q5,q6,q7,q8,q9,q10⟩
    case _=>exact fun t' w' L' a2 b2 q1 q2 q3 q4 q5 q6 q7 q8 q9 q10=>go lim t' w' ⟨L',a2,b2,q1,q2,q3,q4,q5,q6,q7,q8,q9,q10⟩
    case _=>exact fun t' w' L' q1 q2 q3=>hR t' w' L' q1 q2 q3
   | false =>
    obtain ⟨_,w1,c1,rfl,L1,i1,m1⟩:=call187 (g + 1) o.oBRK o.oNXT o.oNPT o.oLEN o.oL64 h n c hn a1 b1 (by omega) (by omega) B L hlen w (by omega) (by omega) (by omega) hw.row
    rw [← hza,← hzb] at c1
    simp [t0,t1,t2,t3,t4,t10,t11,e1,h12',h0,c1]
    refine wp_blockX (pdq1W g h o n c hn a b hbn B w0 hl hl0 hBn L0 hL0 a1 b1 (by omega) hrec' L1 (hP.move m1) _ _ _ (hw.trans i1) (IntKind.wrap .i64 (lim - 1)) ?_ ?_ ?_ ?_ ?_ ?_ false wq ?_ ?_ ?_ ?_ ?_)
    case _=>simp [t0]
    case _=>simp [t1,hza]
    case _=>simp [t2,hzb]
    case _=>simp
    case _=>simp [t4]
    case _=>simp [hzl]
    case _=>simp [t10]
    case _=>simp [t11]
    case _=>exact fun t' w' L' a2 b2 q1 q2 q3 q4 q5 q6 q7 q8 q9 q10=>go (IntKind.wrap .i64 (lim - 1)) t' w' ⟨L',a2,b2,q1,q2,q3,q4,q5,q6,q7,q8,q9,q10⟩
    case _=>exact fun t' w' L' a2 b2 q1 q2 q3 q4 q5 q6 q7 q8 q9 q10=>go (IntKind.wrap .i64 (lim - 1)) t' w' ⟨L',a2,b2,q1,q2,q3,q4,q5,q6,q7,q8,q9,q10⟩
    case _=>exact fun t' w' L' q1 q2 q3=>hR t' w' L' q1 q2 q3
theorem pdqW (m:Nat) (h:SW ov C V sz cI fv fc) (o:OsW ov) (n c:Nat) (hn:n≤200) (B:Nat):∀ d,RecW ov C cI fv (m + d + 1) n c B (d + 1):=by
 intro d
 induction d with
 | zero =>
  intro a b lim L w hab hbn hd hL low hl hl0 hBn hB
  refine call_wp text166 (by simp) (o.oPDQ _ _) ?_
  simp [mc166]
  refine wp_blockX (pdq0W m h o n c hn a b hab hbn B w hl hl0 hBn L hL (fun a' b' l' L' w' e1 e2 e3=>by omega) low _ _ _ (InS.refl hB) lim ?_ ?_ ?_ ?_ ?_ ?_ ?_ ?_)
  all_goals first | (intro t w' L' hw hp hs; simp [tupV]; exact ⟨L',⟨hw,hp⟩,hs⟩) | simp
 | succ d ih =>
  intro a b lim L w hab hbn hd hL low hl hl0 hBn hB
  refine call_wp text166 (by simp) (o.oPDQ _ _) ?_
  simp [mc166]
  refine wp_blockX (pdq0W (m + d + 1) h o n c hn a b hab hbn B w hl hl0 hBn L hL (fun a' b' l' L' w' e1 e2 e3=>ih a' b' l' L' w' e1 e2 (by omega)) low _ _ _ (InS.refl hB) lim ?_ ?_ ?_ ?_ ?_ ?_ ?_ ?_)
  all_goals first | (intro t w' L' hw hp hs; simp [tupV]; exact ⟨L',⟨hw,hp⟩,hs⟩) | simp
theorem call134 (m:Nat) (h:SW ov C V sz cI fv fc) (o:OsW ov) (ho:∀ args w,ov 134 args w=none) (n c:Nat) (hn:n≤200) (B:Nat) (L:List α) (hL:L.length=n) (w:AW) (hl:w.lim≤B) (hl0:w.lim≤w.next) (hBn:B < w.next) (hB:w.heap.get B=some (.cells (L.flatMap C) 9 false)) :
  ∃ x w',(run Tryz.prog ov (m + 207)).call 134 [.slice (some ⟨B,0,none⟩) n c,fv] w .none=.ok (.ret x) w' .none∧x=.tuple ⟨[]⟩∧∃ L',LeftW C w w' B 0 n L L'∧Srt (fun x y=>cI x y < 0) L' 0 n:=by
 refine call_wp text134 (by simp) (ho _ _) ?_
 obtain ⟨_,w1,c1,rfl,rfl⟩:=call124 (m + 204) o.oLEN o.oL64 n hn w
 have e1:IntKind.wrap .u64 (n:Int)=(n:Int):=IntWalk.u64_in _ ⟨by omega,by omega⟩
 obtain ⟨_,w2,c2,rfl,L',hL',hs⟩:=pdqW m h o n c hn B 200 0 n (bl n:Nat) L w1 (by omega) (Nat.le_refl _) (by omega) hL (fun x h0=>by omega) hl hl0 hBn hB
 simp only [Int.natCast_zero] at c2
 simp [mc134,e1,c1,c2,tupV]
 exact ⟨L',hL',hs⟩
end
end Go.Proofs.YtnjknghdpobcmaaGreatDoor.walk
