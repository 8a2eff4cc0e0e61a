/- Part of a proof: see the text with the theorem. -/
import Derived.Test.YthihnhgdbfcabaaGreatDoorTh
import Derived.Test.YthihnhgdbfcabaaGreatDoorShF
import Derived.Test.YthihnhgdbfcabaaGreatDoorTg
import Derived.KernelRfl
import Derived.Test.YthihnhgdbfcabaaGreatDoorProg
import Derived.Test.YthihnhgdbfcabaaGreatDoorTb
set_option linter.all false
namespace Go.Proofs.YthihnhgdbfcabaaGreatDoor.walk
open Go Go.Sh
set_option maxRecDepth 100000
section
variable {α:Type} {C:α→List Value} {V:α→Value} {sz:Nat} {cI:α→α→Int} {fv:Value} {fc:FuncId} {ov:Ov}
def PdqII (C:α→List Value) (cI:α→α→Int) (fv:Value) (n c B a b:Nat) (L0:List α) (w0:AW) (r:Nat) (t:Tm) (w:AW):Prop:=∃ L a1 b1 lim,Pdq (fun x y=>cI x y < 0) a b a1 b1 L0 L∧(b1 - a1) + r≤b - a∧InI C w0 B L w∧tget t 0=.slice (some ⟨B,0,none⟩) n c∧tget t 1=.int .i64 (a1:Nat)∧tget t 2=.int .i64 (b1:Nat)∧tget t 3=.int .i64 lim∧True∧(∃ wb,tget t 8=.bool wb)∧(∃ wq,tget t 9=.bool wq)
set_option maxHeartbeats 4000000 in
theorem pdq0I (g:Nat) (h:SI ov C V sz cI fv fc) (o:OsI ov) (n c:Nat) (hn:n≤200) (a b:Nat) (hab:a≤b) (hbn:b≤n) (B:Nat) (w0:AW) (hl:w0.lim≤B) (hl0:w0.lim≤w0.next) (hBn:B < w0.next) (L0:List α) (hL0:L0.length=n) (hrec:RecI ov C cI fv g n c B (b - a)) (low:∀ x,0 < a→L0[a - 1]?=some x→All (fun z=>¬ cI z x < 0) L0 a b) (Q:Ex→Tm→AW→Prop) (t:Tm) (w:AW) (hw:InI C w0 B L0 w) (lim:Int)
  (t0:tget t 0=.slice (some ⟨B,0,none⟩) n c) (t1:tget t 1=.int .i64 (a:Nat)) (t2:tget t 2=.int .i64 (b:Nat)) (t3:tget t 3=.int .i64 lim) (t4:True) (t10:tget t 8=.bool true) (t11:tget t 9=.bool true)
  (hR:∀ t w L,InI C w0 B L w→Mv a b L0 L→Srt (fun x y=>cI x y < 0) L a b→Q .ret t w):wp (exM Tryz.prog (run Tryz.prog ov (g + 5)) (.loop mc133_l0) t w) Q:=by
 refine wp_rounds (fun r t w=>PdqII C cI fv n c B a b L0 w0 r t w) 300 (by decide) ⟨L0,a,b,lim,Pdq.start hab (by omega) low,by omega,hw,t0,t1,t2,t3,t4,⟨_,t10⟩,⟨_,t11⟩⟩ ?_
 clear t0 t1 t2 t3 t4 t10 t11 hw lim
 rintro r t w ⟨L,a1,b1,lim,hP,hr,hw,t0,t1,t2,t3,t4,⟨wb,t10⟩,⟨wq,t11⟩⟩
 have hlen:L.length=n:=by rw [hP.mv.len,hL0]
 have hlm:=hw.lim
 have hnx:=hw.next
 have hb0:=hP.b1
 have hab1:=hP.ab
 rw [mc133_l0_eq]
 obtain ⟨za,hza⟩:∃ k:Int,k=(a1:Int):=⟨_,rfl⟩
 obtain ⟨zb,hzb⟩:∃ k:Int,k=(b1:Int):=⟨_,rfl⟩
 obtain ⟨zl,hzl⟩:∃ k:Int,k=((b1 - a1:Nat):Int):=⟨_,rfl⟩
 rw [← hza] at t1
 rw [← hzb] at t2
 have e1:IntKind.wrap .i64 (zb - za)=zl:=by rw [wrap64_in (by omega) (by omega)]; omega
 by_cases h12:b1 - a1≤12
 ·have h12':zl≤12:=by omega
  obtain ⟨_,w1,c1,rfl,L1,⟨i1,m1⟩,s1⟩:=call153 (g + 3) o.oINS h n c hn a1 b1 hab1 (by omega) B L hlen w (by omega) hw.row
  rw [← hza,← hzb] at c1
  simp [t0,t1,t2,t3,t4,t10,t11,e1,h12',c1]
  exact hR _ w1 L1 (hw.trans i1) (hP.move m1).mv ((hP.move m1).done s1)
 ·have h12':¬ zl≤12:=by omega
  by_cases h0:lim=0
  ·subst h0
   obtain ⟨_,w1,c1,rfl,L1,⟨i1,m1⟩,s1⟩:=call154 (g + 2) o.oHEAP o.oSIF h n c hn a1 b1 (by omega) (by omega) B L hlen w (by omega) hw.row
   rw [← hza,← hzb] at c1
   simp [t0,t1,t2,t3,t4,t10,t11,e1,h12',c1]
   exact hR _ w1 L1 (hw.trans i1) (hP.move m1).mv ((hP.move m1).done s1)
  ·have hrec':RecI ov C cI fv g n c B (b1 - a1):=fun a' b' l' L' w' e1 e2 e3=>hrec a' b' l' L' w' e1 e2 (by omega)
   have go:∀ (lim':Int) t' w',(∃ L a2 b2,Pdq (fun x y=>cI x y < 0) a b a2 b2 L0 L∧b2 - a2 < b1 - a1∧InI C w0 B L w'∧tget t' 0=.slice (some ⟨B,0,none⟩) n c∧tget t' 1=.int .i64 (a2:Nat)∧tget t' 2=.int .i64 (b2:Nat)∧tget t' 3=.int .i64 lim'∧True∧(∃ wb,tget t' 8=.bool wb)∧(∃ wp,tget t' 9=.bool wp))→r < 300∧PdqII C cI fv n c B a b L0 w0 (r + 1) t' w':=fun lim' t' w' ⟨L,a2,b2,q1,q2,q3,q4,q5,q6,q7,q8,q9,q10⟩=>⟨by omega,L,a2,b2,lim',q1,by omega,q3,q4,q5,q6,q7,q8,q9,q10⟩
   cases wb with
   | true =>
    simp [t0,t1,t2,t3,t4,t10,t11,e1,h12',h0]
    refine wp_blockX (pdq1I g h o n c hn a b hbn B w0 hl hl0 hBn L0 hL0 a1 b1 (by omega) hrec' L hP _ _ _ hw lim ?_ ?_ ?_ ?_ ?_ ?_ true wq ?_ ?_ ?_ ?_ ?_)
    case _=>simp [t0]
    case _=>simp [t1,hza]
    case _=>simp [t2,hzb]
    case _=>simp [t3]
    case _=>simp [t4]
    case _=>simp [hzl]
    case _=>simp [t10]
    case _=>simp [t11]
    case _=>exact fun t' w' L' a2 b2 q1 q2 q3 q4 q5 q6 q7 q8 q9 q10=>go lim t' w' ⟨L',a2,b2,q1,q2,q3,q4,q5,q6,q7,q8,q9,q10⟩
    case _=>exact fun t' w' L' a2 b2 q1 q2 q3 q4 q5 q6 q7 q8 q9 q10=>go lim t' w' ⟨L',a2,b2,q1,q2,q3,q4,q5,q6,q7,q8,q9,q10⟩
    case _=>exact fun t' w' L' q1 q2 q3=>hR t' w' L' q1 q2 q3
   | false =>
    obtain ⟨_,w1,c1,rfl,L1,i1,m1⟩:=call155 (g + 1) o.oBRK o.oNXT o.oNPT o.oLEN o.oL64 h n c hn a1 b1 (by omega) (by omega) B L hlen w (by omega) (by omega) (by omega) hw.row
    rw [← hza,← hzb] at c1
    simp [t0,t1,t2,t3,t4,t10,t11,e1,h12',h0,c1]
    refine wp_blockX (pdq1I g h o n c hn a b hbn B w0 hl hl0 hBn L0 hL0 a1 b1 (by omega) hrec' L1 (hP.move m1) _ _ _ (hw.trans i1) (IntKind.wrap .i64 (lim - 1)) ?_ ?_ ?_ ?_ ?_ ?_ false wq ?_ ?_ ?_ ?_ ?_)
    case _=>simp [t0]
    case _=>simp [t1,hza]
    case _=>simp [t2,hzb]
    case _=>simp
    case _=>simp [t4]
    case _=>simp [hzl]
    case _=>simp [t10]
    case _=>simp [t11]
    case _=>exact fun t' w' L' a2 b2 q1 q2 q3 q4 q5 q6 q7 q8 q9 q10=>go (IntKind.wrap .i64 (lim - 1)) t' w' ⟨L',a2,b2,q1,q2,q3,q4,q5,q6,q7,q8,q9,q10⟩
    case _=>exact fun t' w' L' a2 b2 q1 q2 q3 q4 q5 q6 q7 q8 q9 q10=>go (IntKind.wrap .i64 (lim - 1)) t' w' ⟨L',a2,b2,q1,q2,q3,q4,q5,q6,q7,q8,q9,q10⟩
    case _=>exact fun t' w' L' q1 q2 q3=>hR t' w' L' q1 q2 q3
theorem pdqI (m:Nat) (h:SI ov C V sz cI fv fc) (o:OsI ov) (n c:Nat) (hn:n≤200) (B:Nat):∀ d,RecI ov C cI fv (m + d + 1) n c B (d + 1):=by
 intro d
 induction d with
 | zero =>
  intro a b lim L w hab hbn hd hL low hl hl0 hBn hB
  refine call_wp text133 (by simp) (o.oPDQ _ _) ?_
  simp [mc133]
  refine wp_blockX (pdq0I m h o n c hn a b hab hbn B w hl hl0 hBn L hL (fun a' b' l' L' w' e1 e2 e3=>by omega) low _ _ _ (InS.refl hB) lim ?_ ?_ ?_ ?_ ?_ ?_ ?_ ?_)
  all_goals first | (intro t w' L' hw hp hs; simp [tupV]; exact ⟨L',⟨hw,hp⟩,hs⟩) | simp
 | succ d ih =>
  intro a b lim L w hab hbn hd hL low hl hl0 hBn hB
  refine call_wp text133 (by simp) (o.oPDQ _ _) ?_
  simp [mc133]
  refine wp_blockX (pdq0I (m + d + 1) h o n c hn a b hab hbn B w hl hl0 hBn L hL (fun a' b' l' L' w' e1 e2 e3=>ih a' b' l' L' w' e1 e2 (by omega)) low _ _ _ (InS.refl hB) lim ?_ ?_ ?_ ?_ ?_ ?_ ?_ ?_)
  all_goals first | (intro t w' L' hw hp hs; simp [tupV]; exact ⟨L',⟨hw,hp⟩,hs⟩) | simp
theorem call108 (m:Nat) (h:SI ov C V sz cI fv fc) (o:OsI ov) (ho:∀ args w,ov 108 args w=none) (n c:Nat) (hn:n≤200) (B:Nat) (L:List α) (hL:L.length=n) (w:AW) (hl:w.lim≤B) (hl0:w.lim≤w.next) (hBn:B < w.next) (hB:w.heap.get B=some (.cells (L.flatMap C) 3 false)) :
  ∃ x w',(run Tryz.prog ov (m + 207)).call 108 [.slice (some ⟨B,0,none⟩) n c] w .none=.ok (.ret x) w' .none∧x=.tuple ⟨[]⟩∧∃ L',LeftI C w w' B 0 n L L'∧Srt (fun x y=>cI x y < 0) L' 0 n:=by
 refine call_wp text108 (by simp) (ho _ _) ?_
 obtain ⟨_,w1,c1,rfl,rfl⟩:=call65 (m + 204) o.oLEN o.oL64 n hn w
 have e1:IntKind.wrap .u64 (n:Int)=(n:Int):=IntWalk.u64_in _ ⟨by omega,by omega⟩
 obtain ⟨_,w2,c2,rfl,L',hL',hs⟩:=pdqI m h o n c hn B 200 0 n (bl n:Nat) L w1 (by omega) (Nat.le_refl _) (by omega) hL (fun x h0=>by omega) hl hl0 hBn hB
 simp only [Int.natCast_zero] at c2
 simp [mc108,e1,c1,c2,tupV]
 exact ⟨L',hL',hs⟩
end
noncomputable def mc109_l0:MC:=.block 1 (.seq (.ops [⟨false,none,some 21,3,.move (.tmp 2)⟩,⟨false,none,some 22,3,.move (.tmp 1)⟩,⟨false,none,some 23,3,.binOp .sub 3 (.tmp 21) (.tmp 22) 3⟩,⟨false,none,some 12,3,.assign (.tmp 23)⟩]) (.seq (.seq (.ops [⟨false,none,some 24,3,.move (.tmp 12)⟩,⟨false,none,some 25,4,.binOp .leq 3 (.tmp 24) (.const (.int .i64 12)) 3⟩]) (.cond (.tmp 25) (.seq (.ops [⟨false,none,some 26,89,.move (.tmp 0)⟩,⟨false,none,some 27,3,.move (.tmp 1)⟩,⟨false,none,some 28,3,.move (.tmp 2)⟩,⟨false,none,some 29,133,.move (.tmp 4)⟩,⟨false,none,some 30,0,.call ⟨.value (.func 134),#[.tmp 26,.tmp 27,.tmp 28,.tmp 29],#[89,3,3,133]⟩⟩]) (.ret)) (.skip))) (.seq (.seq (.ops [⟨false,none,some 31,3,.move (.tmp 3)⟩,⟨false,none,some 32,4,.binOp .eql 3 (.tmp 31) (.const (.int .i64 0)) 3⟩]) (.cond (.tmp 32) (.seq (.ops [⟨false,none,some 33,89,.move (.tmp 0)⟩,⟨false,none,some 34,3,.move (.tmp 1)⟩,⟨false,none,some 35,3,.move (.tmp 2)⟩,⟨false,none,some 36,133,.move (.tmp 4)⟩,⟨false,none,some 37,0,.call ⟨.value (.func 135),#[.tmp 33,.tmp 34,.tmp 35,.tmp 36],#[89,3,3,133]⟩⟩]) (.ret)) (.skip))) (.seq (.seq (.ops [⟨false,none,some 38,4,.move (.tmp 10)⟩,⟨false,none,some 39,4,.unOp .not 4 (.tmp 38)⟩]) (.cond (.tmp 39) (.seq (.ops [⟨false,none,some 40,89,.move (.tmp 0)⟩,⟨false,none,some 41,3,.move (.tmp 1)⟩,⟨false,none,some 42,3,.move (.tmp 2)⟩,⟨false,none,some 43,133,.move (.tmp 4)⟩,⟨false,none,some 44,0,.call ⟨.value (.func 136),#[.tmp 40,.tmp 41,.tmp 42,.tmp 43],#[89,3,3,133]⟩⟩]) (.ops [⟨false,none,some 45,3,.move (.tmp 3)⟩,⟨false,none,some 46,3,.binOp .sub 3 (.tmp 45) (.const (.int .i64 1)) 3⟩,⟨false,none,some 3,3,.assign (.tmp 46)⟩])) (.skip))) (.seq (.ops [⟨false,none,some 48,89,.move (.tmp 0)⟩,⟨false,none,some 49,3,.move (.tmp 1)⟩,⟨false,none,some 50,3,.move (.tmp 2)⟩,⟨false,none,some 51,133,.move (.tmp 4)⟩,⟨false,none,some 52,137,.call ⟨.value (.func 137),#[.tmp 48,.tmp 49,.tmp 50,.tmp 51],#[89,3,3,133]⟩⟩,⟨false,none,some 47,137,.move (.tmp 52)⟩,⟨false,none,some 53,3,.extract (.tmp 47) 0⟩,⟨false,none,some 54,136,.extract (.tmp 47) 1⟩,⟨false,none,some 13,3,.assign (.tmp 53)⟩,⟨false,none,some 14,136,.assign (.tmp 54)⟩]) (.seq (.seq (.ops [⟨false,none,some 55,136,.move (.tmp 14)⟩,⟨false,none,some 56,4,.binOp .eql 136 (.tmp 55) (.const (.int .i64 2)) 136⟩]) (.cond (.tmp 56) (.seq (.ops [⟨false,none,some 57,89,.move (.tmp 0)⟩,⟨false,none,some 58,3,.move (.tmp 1)⟩,⟨false,none,some 59,3,.move (.tmp 2)⟩,⟨false,none,some 60,133,.move (.tmp 4)⟩,⟨false,none,some 61,0,.call ⟨.value (.func 138),#[.tmp 57,.tmp 58,.tmp 59,.tmp 60],#[89,3,3,133]⟩⟩]) (.seq (.ops [⟨false,none,some 62,3,.move (.tmp 2)⟩,⟨false,none,some 63,3,.binOp .sub 3 (.tmp 62) (.const (.int .i64 1)) 3⟩,⟨false,none,some 64,3,.move (.tmp 13)⟩,⟨false,none,some 65,3,.move (.tmp 1)⟩,⟨false,none,some 66,3,.binOp .sub 3 (.tmp 64) (.tmp 65) 3⟩,⟨false,none,some 67,3,.binOp .sub 3 (.tmp 63) (.tmp 66) 3⟩,⟨false,none,some 13,3,.assign (.tmp 67)⟩]) (.ops [⟨false,none,some 14,136,.assign (.const (.int .i64 1))⟩]))) (.skip))) (.seq (.seq (.ops [⟨false,none,some 68,4,.move (.tmp 10)⟩,⟨false,none,some 69,4,.move (.tmp 68)⟩,⟨false,some (69,true),some 70,4,.move (.tmp 11)⟩,⟨false,none,some 71,4,.pick (.tmp 69) (.tmp 70) (.const (.bool false))⟩,⟨false,none,some 72,4,.move (.tmp 71)⟩,⟨false,some (72,true),some 73,136,.move (.tmp 14)⟩,⟨false,some (72,true),some 74,4,.binOp .eql 136 (.tmp 73) (.const (.int .i64 1)) 136⟩,⟨false,none,some 75,4,.pick (.tmp 72) (.tmp 74) (.const (.bool false))⟩]) (.cond (.tmp 75) (.seq (.ops [⟨false,none,some 76,89,.move (.tmp 0)⟩,⟨false,none,some 77,3,.move (.tmp 1)⟩,⟨false,none,some 78,3,.move (.tmp 2)⟩,⟨false,none,some 79,133,.move (.tmp 4)⟩,⟨false,none,some 80,4,.call ⟨.value (.func 139),#[.tmp 76,.tmp 77,.tmp 78,.tmp 79],#[89,3,3,133]⟩⟩]) (.cond (.tmp 80) (.ret) (.skip))) (.skip))) (.seq (.seq (.ops [⟨true,none,some 81,3,.move (.tmp 1)⟩,⟨true,none,some 82,4,.binOp .gtr 3 (.tmp 81) (.const (.int .i64 0)) 3⟩,⟨true,none,some 83,4,.move (.tmp 82)⟩,⟨true,some (83,true),some 84,133,.move (.tmp 4)⟩,⟨true,some (83,true),some 85,89,.move (.tmp 0)⟩,⟨true,some (83,true),some 86,3,.move (.tmp 1)⟩,⟨true,some (83,true),some 87,3,.binOp .sub 3 (.tmp 86) (.const (.int .i64 1)) 3⟩,⟨true,some (83,true),some 88,0,.indexAddr 89 (.tmp 85) (.tmp 87)⟩,⟨true,some (83,true),some 89,131,.load 131 (.tmp 88)⟩,⟨true,some (83,true),some 90,89,.move (.tmp 0)⟩,⟨true,some (83,true),some 91,3,.move (.tmp 13)⟩,⟨true,some (83,true),some 92,0,.indexAddr 89 (.tmp 90) (.tmp 91)⟩,⟨true,some (83,true),some 93,131,.load 131 (.tmp 92)⟩,⟨false,some (83,true),some 94,3,.call ⟨.value (.tmp 84),#[.tmp 89,.tmp 93],#[131,131]⟩⟩,⟨true,some (83,true),some 95,4,.binOp .lss 3 (.tmp 94) (.const (.int .i64 0)) 3⟩,⟨true,some (83,true),some 96,4,.unOp .not 4 (.tmp 95)⟩,⟨true,none,some 97,4,.pick (.tmp 83) (.tmp 96) (.const (.bool false))⟩]) (.cond (.tmp 97) (.seq (.ops [⟨false,none,some 98,89,.move (.tmp 0)⟩,⟨false,none,some 99,3,.move (.tmp 1)⟩,⟨false,none,some 100,3,.move (.tmp 2)⟩,⟨false,none,some 101,3,.move (.tmp 13)⟩,⟨false,none,some 102,133,.move (.tmp 4)⟩,⟨false,none,some 103,3,.call ⟨.value (.func 140),#[.tmp 98,.tmp 99,.tmp 100,.tmp 101,.tmp 102],#[89,3,3,3,133]⟩⟩,⟨false,none,some 15,3,.assign (.tmp 103)⟩]) (.seq (.ops [⟨false,none,some 104,3,.move (.tmp 15)⟩,⟨false,none,some 1,3,.assign (.tmp 104)⟩]) (.exit 1))) (.skip))) (.seq (.ops [⟨false,none,some 106,89,.move (.tmp 0)⟩,⟨false,none,some 107,3,.move (.tmp 1)⟩,⟨false,none,some 108,3,.move (.tmp 2)⟩,⟨false,none,some 109,3,.move (.tmp 13)⟩,⟨false,none,some 110,133,.move (.tmp 4)⟩,⟨false,none,some 111,94,.call ⟨.value (.func 141),#[.tmp 106,.tmp 107,.tmp 108,.tmp 109,.tmp 110],#[89,3,3,3,133]⟩⟩,⟨false,none,some 105,94,.move (.tmp 111)⟩,⟨false,none,some 112,3,.extract (.tmp 105) 0⟩,⟨false,none,some 113,4,.extract (.tmp 105) 1⟩,⟨false,none,some 16,3,.assign (.tmp 112)⟩,⟨false,none,some 17,4,.assign (.tmp 113)⟩]) (.seq (.ops [⟨false,none,some 114,4,.move (.tmp 17)⟩,⟨false,none,some 11,4,.assign (.tmp 114)⟩]) (.seq (.ops [⟨false,none,some 115,3,.move (.tmp 16)⟩,⟨false,none,some 116,3,.move (.tmp 1)⟩,⟨false,none,some 117,3,.binOp .sub 3 (.tmp 115) (.tmp 116) 3⟩,⟨false,none,some 118,3,.move (.tmp 2)⟩,⟨false,none,some 119,3,.move (.tmp 16)⟩,⟨false,none,some 120,3,.binOp .sub 3 (.tmp 118) (.tmp 119) 3⟩,⟨false,none,some 18,3,.assign (.tmp 117)⟩,⟨false,none,some 19,3,.assign (.tmp 120)⟩]) (.seq (.ops [⟨false,none,some 121,3,.move (.tmp 12)⟩,⟨false,none,some 122,3,.binOp .quo 3 (.tmp 121) (.const (.int .i64 8)) 3⟩,⟨false,none,some 20,3,.assign (.tmp 122)⟩]) (.seq (.ops [⟨false,none,some 123,3,.move (.tmp 18)⟩,⟨false,none,some 124,3,.move (.tmp 19)⟩,⟨false,none,some 125,4,.binOp .lss 3 (.tmp 123) (.tmp 124) 3⟩]) (.cond (.tmp 125) (.seq (.ops [⟨false,none,some 126,3,.move (.tmp 18)⟩,⟨false,none,some 127,3,.move (.tmp 20)⟩,⟨false,none,some 128,4,.binOp .geq 3 (.tmp 126) (.tmp 127) 3⟩,⟨false,none,some 10,4,.assign (.tmp 128)⟩]) (.seq (.ops [⟨false,none,some 129,89,.move (.tmp 0)⟩,⟨false,none,some 130,3,.move (.tmp 1)⟩,⟨false,none,some 131,3,.move (.tmp 16)⟩,⟨false,none,some 132,3,.move (.tmp 3)⟩,⟨false,none,some 133,133,.move (.tmp 4)⟩,⟨false,none,some 134,0,.call ⟨.value (.func 109),#[.tmp 129,.tmp 130,.tmp 131,.tmp 132,.tmp 133],#[89,3,3,3,133]⟩⟩]) (.ops [⟨false,none,some 135,3,.move (.tmp 16)⟩,⟨false,none,some 136,3,.binOp .add 3 (.tmp 135) (.const (.int .i64 1)) 3⟩,⟨false,none,some 1,3,.assign (.tmp 136)⟩]))) (.seq (.ops [⟨false,none,some 137,3,.move (.tmp 19)⟩,⟨false,none,some 138,3,.move (.tmp 20)⟩,⟨false,none,some 139,4,.binOp .geq 3 (.tmp 137) (.tmp 138) 3⟩,⟨false,none,some 10,4,.assign (.tmp 139)⟩]) (.seq (.ops [⟨false,none,some 140,89,.move (.tmp 0)⟩,⟨false,none,some 141,3,.move (.tmp 16)⟩,⟨false,none,some 142,3,.binOp .add 3 (.tmp 141) (.const (.int .i64 1)) 3⟩,⟨false,none,some 143,3,.move (.tmp 2)⟩,⟨false,none,some 144,3,.move (.tmp 3)⟩,⟨false,none,some 145,133,.move (.tmp 4)⟩,⟨false,none,some 146,0,.call ⟨.value (.func 109),#[.tmp 140,.tmp 142,.tmp 143,.tmp 144,.tmp 145],#[89,3,3,3,133]⟩⟩]) (.ops [⟨false,none,some 147,3,.move (.tmp 16)⟩,⟨false,none,some 2,3,.assign (.tmp 147)⟩])))))))))))))))))
noncomputable def mc109:MC:=.seq (.ops [⟨false,none,some 10,4,.assign (.const (.bool true))⟩]) (.seq (.ops [⟨false,none,some 11,4,.assign (.const (.bool true))⟩]) (.block 0 (.loop mc109_l0)))
theorem text109:textF Tryz.prog 109=some (148,[],mc109):=by kernel_rfl
noncomputable def mc110_l0:MC:=.seq (.ops [⟨false,none,some 9,0,.binOp .lss 3 (.tmp 8) (.tmp 7) 3⟩]) (.seq (.cond (.tmp 9) (.skip) (.exit 0)) (.seq (.block 1 (.seq (.ops [⟨false,none,some 10,0,.indexAddr 33 (.tmp 6) (.tmp 8)⟩,⟨false,none,some 11,3,.load 3 (.tmp 10)⟩,⟨false,none,some 5,3,.assign (.tmp 11)⟩]) (.seq (.ops [⟨false,none,some 12,3,.move (.tmp 5)⟩,⟨false,none,some 13,3,.move (.tmp 3)⟩,⟨false,none,some 14,4,.binOp .neq 3 (.tmp 12) (.tmp 13) 3⟩]) (.cond (.tmp 14) (.seq (.ops [⟨false,none,some 15,3,.move (.tmp 5)⟩,⟨false,none,some 2,3,.assign (.tmp 15)⟩]) (.ret)) (.skip))))) (.ops [⟨false,none,some 16,3,.binOp .add 3 (.tmp 8) (.const (.int .i64 1)) 3⟩,⟨false,none,some 8,3,.move (.tmp 16)⟩])))
noncomputable def mc110:MC:=.seq (.ops [⟨false,none,some 2,3,.assign (.const (.int .i64 0))⟩]) (.seq (.ops [⟨false,none,some 3,3,.assign (.const (.int .i64 0))⟩]) (.seq (.seq (.ops [⟨false,none,some 6,33,.move (.tmp 0)⟩,⟨false,none,some 7,3,.call ⟨.builtin .len,#[.tmp 6],#[33]⟩⟩,⟨false,none,some 8,3,.move (.const (.int .i64 0))⟩]) (.block 0 (.loop mc110_l0))) (.seq (.ops [⟨false,none,some 17,3,.move (.tmp 3)⟩,⟨false,none,some 2,3,.assign (.tmp 17)⟩]) (.ret))))
theorem text110:textF Tryz.prog 110=some (18,[.tmp 2],mc110):=by kernel_rfl
noncomputable def mc111:MC:=.seq (.ops [⟨false,none,some 4,3,.assign (.const (.int .i64 0))⟩]) (.seq (.ops [⟨false,none,some 7,3,.move (.tmp 0)⟩,⟨false,none,some 8,4,.call ⟨.value (.func 142),#[.tmp 7],#[3]⟩⟩,⟨false,none,some 5,4,.assign (.tmp 8)⟩]) (.seq (.ops [⟨false,none,some 9,3,.move (.tmp 1)⟩,⟨false,none,some 10,4,.call ⟨.value (.func 142),#[.tmp 9],#[3]⟩⟩,⟨false,none,some 6,4,.assign (.tmp 10)⟩]) (.seq (.seq (.ops [⟨false,none,some 11,4,.move (.tmp 5)⟩]) (.cond (.tmp 11) (.seq (.seq (.ops [⟨false,none,some 12,4,.move (.tmp 6)⟩]) (.cond (.tmp 12) (.seq (.ops [⟨false,none,some 4,3,.assign (.const (.int .i64 0))⟩]) (.ret)) (.skip))) (.seq (.ops [⟨false,none,some 4,3,.assign (.const (.int .i64 (-1)))⟩]) (.ret))) (.skip))) (.seq (.seq (.ops [⟨false,none,some 13,4,.move (.tmp 6)⟩]) (.cond (.tmp 13) (.seq (.ops [⟨false,none,some 4,3,.assign (.const (.int .i64 1))⟩]) (.ret)) (.skip))) (.seq (.seq (.ops [⟨false,none,some 14,3,.move (.tmp 0)⟩,⟨false,none,some 15,3,.move (.tmp 1)⟩,⟨false,none,some 16,4,.binOp .lss 3 (.tmp 14) (.tmp 15) 3⟩]) (.cond (.tmp 16) (.seq (.ops [⟨false,none,some 4,3,.assign (.const (.int .i64 (-1)))⟩]) (.ret)) (.skip))) (.seq (.seq (.ops [⟨false,none,some 17,3,.move (.tmp 0)⟩,⟨false,none,some 18,3,.move (.tmp 1)⟩,⟨false,none,some 19,4,.binOp .gtr 3 (.tmp 17) (.tmp 18) 3⟩]) (.cond (.tmp 19) (.seq (.ops [⟨false,none,some 4,3,.assign (.const (.int .i64 1))⟩]) (.ret)) (.skip))) (.seq (.ops [⟨false,none,some 4,3,.assign (.const (.int .i64 0))⟩]) (.ret))))))))
theorem text111:textF Tryz.prog 111=some (20,[.tmp 4],mc111):=by kernel_rfl
noncomputable def mc134_l1:MC:=.seq (.seq (.ops [⟨true,none,some 18,3,.move (.tmp 9)⟩,⟨true,none,some 19,3,.move (.tmp 1)⟩,⟨true,none,some 20,4,.binOp .gtr 3 (.tmp 18) (.tmp 19) 3⟩,⟨true,none,some 21,4,.move (.tmp 20)⟩,⟨true,some (21,true),some 22,133,.move (.tmp 3)⟩,⟨true,some (21,true),some 23,89,.move (.tmp 0)⟩,⟨true,some (21,true),some 24,3,.move (.tmp 9)⟩,⟨true,some (21,true),some 25,0,.indexAddr 89 (.tmp 23) (.tmp 24)⟩,⟨true,some (21,true),some 26,131,.load 131 (.tmp 25)⟩,⟨true,some (21,true),some 27,89,.move (.tmp 0)⟩,⟨true,some (21,true),some 28,3,.move (.tmp 9)⟩,⟨true,some (21,true),some 29,3,.binOp .sub 3 (.tmp 28) (.const (.int .i64 1)) 3⟩,⟨true,some (21,true),some 30,0,.indexAddr 89 (.tmp 27) (.tmp 29)⟩,⟨true,some (21,true),some 31,131,.load 131 (.tmp 30)⟩,⟨false,some (21,true),some 32,3,.call ⟨.value (.tmp 22),#[.tmp 26,.tmp 31],#[131,131]⟩⟩,⟨true,some (21,true),some 33,4,.binOp .lss 3 (.tmp 32) (.const (.int .i64 0)) 3⟩,⟨true,none,some 34,4,.pick (.tmp 21) (.tmp 33) (.const (.bool false))⟩]) (.cond (.tmp 34) (.skip) (.exit 2))) (.seq (.block 3 (.ops [⟨true,none,some 37,89,.move (.tmp 0)⟩,⟨true,none,some 38,3,.move (.tmp 9)⟩,⟨true,none,some 39,89,.move (.tmp 0)⟩,⟨true,none,some 40,3,.move (.tmp 9)⟩,⟨true,none,some 41,3,.binOp .sub 3 (.tmp 40) (.const (.int .i64 1)) 3⟩,⟨true,none,some 42,89,.move (.tmp 0)⟩,⟨true,none,some 43,3,.move (.tmp 9)⟩,⟨true,none,some 44,3,.binOp .sub 3 (.tmp 43) (.const (.int .i64 1)) 3⟩,⟨true,none,some 45,0,.indexAddr 89 (.tmp 42) (.tmp 44)⟩,⟨true,none,some 46,131,.load 131 (.tmp 45)⟩,⟨true,none,some 47,89,.move (.tmp 0)⟩,⟨true,none,some 48,3,.move (.tmp 9)⟩,⟨true,none,some 49,0,.indexAddr 89 (.tmp 47) (.tmp 48)⟩,⟨true,none,some 50,131,.load 131 (.tmp 49)⟩,⟨true,none,some 51,0,.indexAddr 89 (.tmp 37) (.tmp 38)⟩,⟨false,none,none,0,.store 131 (.tmp 51) (.tmp 46)⟩,⟨true,none,some 52,0,.indexAddr 89 (.tmp 39) (.tmp 41)⟩,⟨false,none,none,0,.store 131 (.tmp 52) (.tmp 50)⟩])) (.ops [⟨false,none,some 35,3,.move (.tmp 9)⟩,⟨false,none,some 36,3,.binOp .sub 3 (.tmp 35) (.const (.int .i64 1)) 3⟩,⟨false,none,some 9,3,.assign (.tmp 36)⟩]))
noncomputable def mc134_l0:MC:=.seq (.seq (.ops [⟨false,none,some 12,3,.move (.tmp 8)⟩,⟨false,none,some 13,3,.move (.tmp 2)⟩,⟨false,none,some 14,4,.binOp .lss 3 (.tmp 12) (.tmp 13) 3⟩]) (.cond (.tmp 14) (.skip) (.exit 0))) (.seq (.block 1 (.seq (.ops [⟨false,none,some 17,3,.move (.tmp 8)⟩,⟨false,none,some 9,3,.assign (.tmp 17)⟩]) (.block 2 (.loop mc134_l1)))) (.ops [⟨false,none,some 15,3,.move (.tmp 8)⟩,⟨false,none,some 16,3,.binOp .add 3 (.tmp 15) (.const (.int .i64 1)) 3⟩,⟨false,none,some 8,3,.assign (.tmp 16)⟩]))
noncomputable def mc134:MC:=.seq (.ops [⟨false,none,some 10,3,.move (.tmp 1)⟩,⟨false,none,some 11,3,.binOp .add 3 (.tmp 10) (.const (.int .i64 1)) 3⟩,⟨false,none,some 8,3,.assign (.tmp 11)⟩]) (.block 0 (.loop mc134_l0))
theorem text134:textF Tryz.prog 134=some (53,[],mc134):=by kernel_rfl
noncomputable def mc135_l0:MC:=.seq (.seq (.ops [⟨false,none,some 20,3,.move (.tmp 11)⟩,⟨false,none,some 21,4,.binOp .geq 3 (.tmp 20) (.const (.int .i64 0)) 3⟩]) (.cond (.tmp 21) (.skip) (.exit 0))) (.seq (.block 1 (.ops [⟨false,none,some 24,89,.move (.tmp 0)⟩,⟨false,none,some 25,3,.move (.tmp 11)⟩,⟨false,none,some 26,3,.move (.tmp 10)⟩,⟨false,none,some 27,3,.move (.tmp 8)⟩,⟨false,none,some 28,133,.move (.tmp 3)⟩,⟨false,none,some 29,0,.call ⟨.value (.func 162),#[.tmp 24,.tmp 25,.tmp 26,.tmp 27,.tmp 28],#[89,3,3,3,133]⟩⟩])) (.ops [⟨false,none,some 22,3,.move (.tmp 11)⟩,⟨false,none,some 23,3,.binOp .sub 3 (.tmp 22) (.const (.int .i64 1)) 3⟩,⟨false,none,some 11,3,.assign (.tmp 23)⟩]))
noncomputable def mc135_l1:MC:=.seq (.seq (.ops [⟨false,none,some 32,3,.move (.tmp 12)⟩,⟨false,none,some 33,4,.binOp .geq 3 (.tmp 32) (.const (.int .i64 0)) 3⟩]) (.cond (.tmp 33) (.skip) (.exit 2))) (.seq (.block 3 (.seq (.ops [⟨true,none,some 36,89,.move (.tmp 0)⟩,⟨true,none,some 37,3,.move (.tmp 8)⟩,⟨true,none,some 38,89,.move (.tmp 0)⟩,⟨true,none,some 39,3,.move (.tmp 8)⟩,⟨true,none,some 40,3,.move (.tmp 12)⟩,⟨true,none,some 41,3,.binOp .add 3 (.tmp 39) (.tmp 40) 3⟩,⟨true,none,some 42,89,.move (.tmp 0)⟩,⟨true,none,some 43,3,.move (.tmp 8)⟩,⟨true,none,some 44,3,.move (.tmp 12)⟩,⟨true,none,some 45,3,.binOp .add 3 (.tmp 43) (.tmp 44) 3⟩,⟨true,none,some 46,0,.indexAddr 89 (.tmp 42) (.tmp 45)⟩,⟨true,none,some 47,131,.load 131 (.tmp 46)⟩,⟨true,none,some 48,89,.move (.tmp 0)⟩,⟨true,none,some 49,3,.move (.tmp 8)⟩,⟨true,none,some 50,0,.indexAddr 89 (.tmp 48) (.tmp 49)⟩,⟨true,none,some 51,131,.load 131 (.tmp 50)⟩,⟨true,none,some 52,0,.indexAddr 89 (.tmp 36) (.tmp 37)⟩,⟨false,none,none,0,.store 131 (.tmp 52) (.tmp 47)⟩,⟨true,none,some 53,0,.indexAddr 89 (.tmp 38) (.tmp 41)⟩,⟨false,none,none,0,.store 131 (.tmp 53) (.tmp 51)⟩]) (.ops [⟨false,none,some 54,89,.move (.tmp 0)⟩,⟨false,none,some 55,3,.move (.tmp 9)⟩,⟨false,none,some 56,3,.move (.tmp 12)⟩,⟨false,none,some 57,3,.move (.tmp 8)⟩,⟨false,none,some 58,133,.move (.tmp 3)⟩,⟨false,none,some 59,0,.call ⟨.value (.func 162),#[.tmp 54,.tmp 55,.tmp 56,.tmp 57,.tmp 58],#[89,3,3,3,133]⟩⟩]))) (.ops [⟨false,none,some 34,3,.move (.tmp 12)⟩,⟨false,none,some 35,3,.binOp .sub 3 (.tmp 34) (.const (.int .i64 1)) 3⟩,⟨false,none,some 12,3,.assign (.tmp 35)⟩]))
noncomputable def mc135:MC:=.seq (.ops [⟨false,none,some 13,3,.move (.tmp 1)⟩,⟨false,none,some 8,3,.assign (.tmp 13)⟩]) (.seq (.ops [⟨false,none,some 9,3,.assign (.const (.int .i64 0))⟩]) (.seq (.ops [⟨false,none,some 14,3,.move (.tmp 2)⟩,⟨false,none,some 15,3,.move (.tmp 1)⟩,⟨false,none,some 16,3,.binOp .sub 3 (.tmp 14) (.tmp 15) 3⟩,⟨false,none,some 10,3,.assign (.tmp 16)⟩]) (.seq (.seq (.ops [⟨false,none,some 17,3,.move (.tmp 10)⟩,⟨false,none,some 18,3,.binOp .sub 3 (.tmp 17) (.const (.int .i64 1)) 3⟩,⟨false,none,some 19,3,.binOp .quo 3 (.tmp 18) (.const (.int .i64 2)) 3⟩,⟨false,none,some 11,3,.assign (.tmp 19)⟩]) (.block 0 (.loop mc135_l0))) (.seq (.ops [⟨false,none,some 30,3,.move (.tmp 10)⟩,⟨false,none,some 31,3,.binOp .sub 3 (.tmp 30) (.const (.int .i64 1)) 3⟩,⟨false,none,some 12,3,.assign (.tmp 31)⟩]) (.block 2 (.loop mc135_l1))))))
theorem text135:textF Tryz.prog 135=some (60,[],mc135):=by kernel_rfl
noncomputable def mc136_l0:MC:=.seq (.seq (.ops [⟨false,none,some 28,3,.move (.tmp 11)⟩,⟨false,none,some 29,3,.move (.tmp 1)⟩,⟨false,none,some 30,3,.move (.tmp 8)⟩,⟨false,none,some 31,3,.binOp .quo 3 (.tmp 30) (.const (.int .i64 4)) 3⟩,⟨false,none,some 32,3,.binOp .mul 3 (.tmp 31) (.const (.int .i64 2)) 3⟩,⟨false,none,some 33,3,.binOp .add 3 (.tmp 29) (.tmp 32) 3⟩,⟨false,none,some 34,3,.binOp .add 3 (.tmp 33) (.const (.int .i64 1)) 3⟩,⟨false,none,some 35,4,.binOp .leq 3 (.tmp 28) (.tmp 34) 3⟩]) (.cond (.tmp 35) (.skip) (.exit 0))) (.seq (.block 1 (.seq (.ops [⟨false,none,some 38,146,.call ⟨.value (.func 114),#[.tmp 9],#[173]⟩⟩,⟨false,none,some 39,102,.move (.tmp 10)⟩,⟨false,none,some 40,102,.binOp .sub 102 (.tmp 39) (.const (.int .u64 1)) 102⟩,⟨false,none,some 41,102,.binOp .and 102 (.tmp 38) (.tmp 40) 102⟩,⟨false,none,some 42,3,.convert 102 3 (.tmp 41)⟩,⟨false,none,some 12,3,.assign (.tmp 42)⟩]) (.seq (.seq (.ops [⟨false,none,some 43,3,.move (.tmp 12)⟩,⟨false,none,some 44,3,.move (.tmp 8)⟩,⟨false,none,some 45,4,.binOp .geq 3 (.tmp 43) (.tmp 44) 3⟩]) (.cond (.tmp 45) (.ops [⟨false,none,some 46,3,.move (.tmp 12)⟩,⟨false,none,some 47,3,.move (.tmp 8)⟩,⟨false,none,some 48,3,.binOp .sub 3 (.tmp 46) (.tmp 47) 3⟩,⟨false,none,some 12,3,.assign (.tmp 48)⟩]) (.skip))) (.ops [⟨true,none,some 49,89,.move (.tmp 0)⟩,⟨true,none,some 50,3,.move (.tmp 11)⟩,⟨true,none,some 51,89,.move (.tmp 0)⟩,⟨true,none,some 52,3,.move (.tmp 1)⟩,⟨true,none,some 53,3,.move (.tmp 12)⟩,⟨true,none,some 54,3,.binOp .add 3 (.tmp 52) (.tmp 53) 3⟩,⟨true,none,some 55,89,.move (.tmp 0)⟩,⟨true,none,some 56,3,.move (.tmp 1)⟩,⟨true,none,some 57,3,.move (.tmp 12)⟩,⟨true,none,some 58,3,.binOp .add 3 (.tmp 56) (.tmp 57) 3⟩,⟨true,none,some 59,0,.indexAddr 89 (.tmp 55) (.tmp 58)⟩,⟨true,none,some 60,131,.load 131 (.tmp 59)⟩,⟨true,none,some 61,89,.move (.tmp 0)⟩,⟨true,none,some 62,3,.move (.tmp 11)⟩,⟨true,none,some 63,0,.indexAddr 89 (.tmp 61) (.tmp 62)⟩,⟨true,none,some 64,131,.load 131 (.tmp 63)⟩,⟨true,none,some 65,0,.indexAddr 89 (.tmp 49) (.tmp 50)⟩,⟨false,none,none,0,.store 131 (.tmp 65) (.tmp 60)⟩,⟨true,none,some 66,0,.indexAddr 89 (.tmp 51) (.tmp 54)⟩,⟨false,none,none,0,.store 131 (.tmp 66) (.tmp 64)⟩])))) (.ops [⟨false,none,some 36,3,.move (.tmp 11)⟩,⟨false,none,some 37,3,.binOp .add 3 (.tmp 36) (.const (.int .i64 1)) 3⟩,⟨false,none,some 11,3,.assign (.tmp 37)⟩]))
noncomputable def mc136:MC:=.seq (.ops [⟨false,none,some 13,3,.move (.tmp 2)⟩,⟨false,none,some 14,3,.move (.tmp 1)⟩,⟨false,none,some 15,3,.binOp .sub 3 (.tmp 13) (.tmp 14) 3⟩,⟨false,none,some 8,3,.assign (.tmp 15)⟩]) (.seq (.ops [⟨false,none,some 16,3,.move (.tmp 8)⟩,⟨false,none,some 17,4,.binOp .geq 3 (.tmp 16) (.const (.int .i64 8)) 3⟩]) (.cond (.tmp 17) (.seq (.ops [⟨false,none,some 18,3,.move (.tmp 8)⟩,⟨false,none,some 19,173,.convert 3 173 (.tmp 18)⟩,⟨false,none,some 9,0,.alloc 173⟩,⟨false,none,none,0,.store 173 (.tmp 9) (.tmp 19)⟩]) (.seq (.ops [⟨false,none,some 20,3,.move (.tmp 8)⟩,⟨false,none,some 21,102,.call ⟨.value (.func 113),#[.tmp 20],#[3]⟩⟩,⟨false,none,some 10,102,.assign (.tmp 21)⟩]) (.seq (.ops [⟨false,none,some 22,3,.move (.tmp 1)⟩,⟨false,none,some 23,3,.move (.tmp 8)⟩,⟨false,none,some 24,3,.binOp .quo 3 (.tmp 23) (.const (.int .i64 4)) 3⟩,⟨false,none,some 25,3,.binOp .mul 3 (.tmp 24) (.const (.int .i64 2)) 3⟩,⟨false,none,some 26,3,.binOp .add 3 (.tmp 22) (.tmp 25) 3⟩,⟨false,none,some 27,3,.binOp .sub 3 (.tmp 26) (.const (.int .i64 1)) 3⟩,⟨false,none,some 11,3,.assign (.tmp 27)⟩]) (.block 0 (.loop mc136_l0))))) (.skip)))
theorem text136:textF Tryz.prog 136=some (67,[],mc136):=by kernel_rfl
noncomputable def mc137:MC:=.seq (.ops [⟨false,none,some 8,3,.assign (.const (.int .i64 0))⟩,⟨false,none,some 9,136,.assign (.const (.int .i64 0))⟩]) (.seq (.ops [⟨false,none,some 15,3,.move (.tmp 2)⟩,⟨false,none,some 16,3,.move (.tmp 1)⟩,⟨false,none,some 17,3,.binOp .sub 3 (.tmp 15) (.tmp 16) 3⟩,⟨false,none,some 10,3,.assign (.tmp 17)⟩]) (.seq (.ops [⟨false,none,some 11,0,.alloc 3⟩]) (.seq (.ops [⟨false,none,some 18,3,.move (.tmp 1)⟩,⟨false,none,some 19,3,.move (.tmp 10)⟩,⟨false,none,some 20,3,.binOp .quo 3 (.tmp 19) (.const (.int .i64 4)) 3⟩,⟨false,none,some 21,3,.binOp .mul 3 (.tmp 20) (.const (.int .i64 1)) 3⟩,⟨false,none,some 22,3,.binOp .add 3 (.tmp 18) (.tmp 21) 3⟩,⟨false,none,some 12,3,.assign (.tmp 22)⟩]) (.seq (.ops [⟨false,none,some 23,3,.move (.tmp 1)⟩,⟨false,none,some 24,3,.move (.tmp 10)⟩,⟨false,none,some 25,3,.binOp .quo 3 (.tmp 24) (.const (.int .i64 4)) 3⟩,⟨false,none,some 26,3,.binOp .mul 3 (.tmp 25) (.const (.int .i64 2)) 3⟩,⟨false,none,some 27,3,.binOp .add 3 (.tmp 23) (.tmp 26) 3⟩,⟨false,none,some 13,3,.assign (.tmp 27)⟩]) (.seq (.ops [⟨false,none,some 28,3,.move (.tmp 1)⟩,⟨false,none,some 29,3,.move (.tmp 10)⟩,⟨false,none,some 30,3,.binOp .quo 3 (.tmp 29) (.const (.int .i64 4)) 3⟩,⟨false,none,some 31,3,.binOp .mul 3 (.tmp 30) (.const (.int .i64 3)) 3⟩,⟨false,none,some 32,3,.binOp .add 3 (.tmp 28) (.tmp 31) 3⟩,⟨false,none,some 14,3,.assign (.tmp 32)⟩]) (.seq (.seq (.ops [⟨false,none,some 33,3,.move (.tmp 10)⟩,⟨false,none,some 34,4,.binOp .geq 3 (.tmp 33) (.const (.int .i64 8)) 3⟩]) (.cond (.tmp 34) (.seq (.seq (.ops [⟨false,none,some 35,3,.move (.tmp 10)⟩,⟨false,none,some 36,4,.binOp .geq 3 (.tmp 35) (.const (.int .i64 50)) 3⟩]) (.cond (.tmp 36) (.seq (.ops [⟨false,none,some 37,89,.move (.tmp 0)⟩,⟨false,none,some 38,3,.move (.tmp 12)⟩,⟨false,none,some 39,133,.move (.tmp 3)⟩,⟨false,none,some 40,3,.call ⟨.value (.func 163),#[.tmp 37,.tmp 38,.tmp 11,.tmp 39],#[89,3,177,133]⟩⟩,⟨false,none,some 12,3,.assign (.tmp 40)⟩]) (.seq (.ops [⟨false,none,some 41,89,.move (.tmp 0)⟩,⟨false,none,some 42,3,.move (.tmp 13)⟩,⟨false,none,some 43,133,.move (.tmp 3)⟩,⟨false,none,some 44,3,.call ⟨.value (.func 163),#[.tmp 41,.tmp 42,.tmp 11,.tmp 43],#[89,3,177,133]⟩⟩,⟨false,none,some 13,3,.assign (.tmp 44)⟩]) (.ops [⟨false,none,some 45,89,.move (.tmp 0)⟩,⟨false,none,some 46,3,.move (.tmp 14)⟩,⟨false,none,some 47,133,.move (.tmp 3)⟩,⟨false,none,some 48,3,.call ⟨.value (.func 163),#[.tmp 45,.tmp 46,.tmp 11,.tmp 47],#[89,3,177,133]⟩⟩,⟨false,none,some 14,3,.assign (.tmp 48)⟩]))) (.skip))) (.ops [⟨false,none,some 49,89,.move (.tmp 0)⟩,⟨false,none,some 50,3,.move (.tmp 12)⟩,⟨false,none,some 51,3,.move (.tmp 13)⟩,⟨false,none,some 52,3,.move (.tmp 14)⟩,⟨false,none,some 53,133,.move (.tmp 3)⟩,⟨false,none,some 54,3,.call ⟨.value (.func 164),#[.tmp 49,.tmp 50,.tmp 51,.tmp 52,.tmp 11,.tmp 53],#[89,3,3,3,177,133]⟩⟩,⟨false,none,some 13,3,.assign (.tmp 54)⟩])) (.skip))) (.seq (.ops [⟨false,none,some 55,3,.load 3 (.tmp 11)⟩]) (.block 0 (.seq (.ops [⟨false,none,some 58,4,.binOp .eql 3 (.tmp 55) (.const (.int .i64 0)) 3⟩,⟨false,none,some 57,4,.assign (.tmp 58)⟩]) (.cond (.tmp 57) (.seq (.ops [⟨false,none,some 59,3,.move (.tmp 13)⟩,⟨false,none,some 8,3,.assign (.tmp 59)⟩,⟨false,none,some 9,136,.assign (.const (.int .i64 1))⟩]) (.ret)) (.seq (.ops [⟨false,none,some 61,4,.binOp .eql 3 (.tmp 55) (.const (.int .i64 12)) 3⟩,⟨false,none,some 60,4,.assign (.tmp 61)⟩]) (.cond (.tmp 60) (.seq (.ops [⟨false,none,some 62,3,.move (.tmp 13)⟩,⟨false,none,some 8,3,.assign (.tmp 62)⟩,⟨false,none,some 9,136,.assign (.const (.int .i64 2))⟩]) (.ret)) (.seq (.ops [⟨false,none,some 56,3,.move (.tmp 13)⟩,⟨false,none,some 8,3,.assign (.tmp 56)⟩,⟨false,none,some 9,136,.assign (.const (.int .i64 0))⟩]) (.ret))))))))))))))
theorem text137:textF Tryz.prog 137=some (63,[.tmp 8,.tmp 9],mc137):=by kernel_rfl
noncomputable def mc138_l0:MC:=.seq (.seq (.ops [⟨false,none,some 13,3,.move (.tmp 8)⟩,⟨false,none,some 14,3,.move (.tmp 9)⟩,⟨false,none,some 15,4,.binOp .lss 3 (.tmp 13) (.tmp 14) 3⟩]) (.cond (.tmp 15) (.skip) (.exit 0))) (.block 1 (.seq (.ops [⟨true,none,some 16,89,.move (.tmp 0)⟩,⟨true,none,some 17,3,.move (.tmp 8)⟩,⟨true,none,some 18,89,.move (.tmp 0)⟩,⟨true,none,some 19,3,.move (.tmp 9)⟩,⟨true,none,some 20,89,.move (.tmp 0)⟩,⟨true,none,some 21,3,.move (.tmp 9)⟩,⟨true,none,some 22,0,.indexAddr 89 (.tmp 20) (.tmp 21)⟩,⟨true,none,some 23,131,.load 131 (.tmp 22)⟩,⟨true,none,some 24,89,.move (.tmp 0)⟩,⟨true,none,some 25,3,.move (.tmp 8)⟩,⟨true,none,some 26,0,.indexAddr 89 (.tmp 24) (.tmp 25)⟩,⟨true,none,some 27,131,.load 131 (.tmp 26)⟩,⟨true,none,some 28,0,.indexAddr 89 (.tmp 16) (.tmp 17)⟩,⟨false,none,none,0,.store 131 (.tmp 28) (.tmp 23)⟩,⟨true,none,some 29,0,.indexAddr 89 (.tmp 18) (.tmp 19)⟩,⟨false,none,none,0,.store 131 (.tmp 29) (.tmp 27)⟩]) (.seq (.ops [⟨false,none,some 30,3,.move (.tmp 8)⟩,⟨false,none,some 31,3,.binOp .add 3 (.tmp 30) (.const (.int .i64 1)) 3⟩,⟨false,none,some 8,3,.assign (.tmp 31)⟩]) (.ops [⟨false,none,some 32,3,.move (.tmp 9)⟩,⟨false,none,some 33,3,.binOp .sub 3 (.tmp 32) (.const (.int .i64 1)) 3⟩,⟨false,none,some 9,3,.assign (.tmp 33)⟩]))))
noncomputable def mc138:MC:=.seq (.ops [⟨false,none,some 10,3,.move (.tmp 1)⟩,⟨false,none,some 8,3,.assign (.tmp 10)⟩]) (.seq (.ops [⟨false,none,some 11,3,.move (.tmp 2)⟩,⟨false,none,some 12,3,.binOp .sub 3 (.tmp 11) (.const (.int .i64 1)) 3⟩,⟨false,none,some 9,3,.assign (.tmp 12)⟩]) (.block 0 (.loop mc138_l0)))
theorem text138:textF Tryz.prog 138=some (34,[],mc138):=by kernel_rfl
noncomputable def mc139_l1:MC:=.seq (.seq (.ops [⟨true,none,some 19,3,.move (.tmp 9)⟩,⟨true,none,some 20,3,.move (.tmp 2)⟩,⟨true,none,some 21,4,.binOp .lss 3 (.tmp 19) (.tmp 20) 3⟩,⟨true,none,some 22,4,.move (.tmp 21)⟩,⟨true,some (22,true),some 23,133,.move (.tmp 3)⟩,⟨true,some (22,true),some 24,89,.move (.tmp 0)⟩,⟨true,some (22,true),some 25,3,.move (.tmp 9)⟩,⟨true,some (22,true),some 26,0,.indexAddr 89 (.tmp 24) (.tmp 25)⟩,⟨true,some (22,true),some 27,131,.load 131 (.tmp 26)⟩,⟨true,some (22,true),some 28,89,.move (.tmp 0)⟩,⟨true,some (22,true),some 29,3,.move (.tmp 9)⟩,⟨true,some (22,true),some 30,3,.binOp .sub 3 (.tmp 29) (.const (.int .i64 1)) 3⟩,⟨true,some (22,true),some 31,0,.indexAddr 89 (.tmp 28) (.tmp 30)⟩,⟨true,some (22,true),some 32,131,.load 131 (.tmp 31)⟩,⟨false,some (22,true),some 33,3,.call ⟨.value (.tmp 23),#[.tmp 27,.tmp 32],#[131,131]⟩⟩,⟨true,some (22,true),some 34,4,.binOp .lss 3 (.tmp 33) (.const (.int .i64 0)) 3⟩,⟨true,some (22,true),some 35,4,.unOp .not 4 (.tmp 34)⟩,⟨true,none,some 36,4,.pick (.tmp 22) (.tmp 35) (.const (.bool false))⟩]) (.cond (.tmp 36) (.skip) (.exit 2))) (.block 3 (.ops [⟨false,none,some 37,3,.move (.tmp 9)⟩,⟨false,none,some 38,3,.binOp .add 3 (.tmp 37) (.const (.int .i64 1)) 3⟩,⟨false,none,some 9,3,.assign (.tmp 38)⟩]))
noncomputable def mc139_l2:MC:=.seq (.seq (.ops [⟨false,none,some 68,3,.move (.tmp 11)⟩,⟨false,none,some 69,4,.binOp .geq 3 (.tmp 68) (.const (.int .i64 1)) 3⟩]) (.cond (.tmp 69) (.skip) (.exit 4))) (.seq (.block 5 (.seq (.seq (.ops [⟨true,none,some 72,133,.move (.tmp 3)⟩,⟨true,none,some 73,89,.move (.tmp 0)⟩,⟨true,none,some 74,3,.move (.tmp 11)⟩,⟨true,none,some 75,0,.indexAddr 89 (.tmp 73) (.tmp 74)⟩,⟨true,none,some 76,131,.load 131 (.tmp 75)⟩,⟨true,none,some 77,89,.move (.tmp 0)⟩,⟨true,none,some 78,3,.move (.tmp 11)⟩,⟨true,none,some 79,3,.binOp .sub 3 (.tmp 78) (.const (.int .i64 1)) 3⟩,⟨true,none,some 80,0,.indexAddr 89 (.tmp 77) (.tmp 79)⟩,⟨true,none,some 81,131,.load 131 (.tmp 80)⟩,⟨false,none,some 82,3,.call ⟨.value (.tmp 72),#[.tmp 76,.tmp 81],#[131,131]⟩⟩,⟨true,none,some 83,4,.binOp .lss 3 (.tmp 82) (.const (.int .i64 0)) 3⟩,⟨true,none,some 84,4,.unOp .not 4 (.tmp 83)⟩]) (.cond (.tmp 84) (.exit 4) (.skip))) (.ops [⟨true,none,some 85,89,.move (.tmp 0)⟩,⟨true,none,some 86,3,.move (.tmp 11)⟩,⟨true,none,some 87,89,.move (.tmp 0)⟩,⟨true,none,some 88,3,.move (.tmp 11)⟩,⟨true,none,some 89,3,.binOp .sub 3 (.tmp 88) (.const (.int .i64 1)) 3⟩,⟨true,none,some 90,89,.move (.tmp 0)⟩,⟨true,none,some 91,3,.move (.tmp 11)⟩,⟨true,none,some 92,3,.binOp .sub 3 (.tmp 91) (.const (.int .i64 1)) 3⟩,⟨true,none,some 93,0,.indexAddr 89 (.tmp 90) (.tmp 92)⟩,⟨true,none,some 94,131,.load 131 (.tmp 93)⟩,⟨true,none,some 95,89,.move (.tmp 0)⟩,⟨true,none,some 96,3,.move (.tmp 11)⟩,⟨true,none,some 97,0,.indexAddr 89 (.tmp 95) (.tmp 96)⟩,⟨true,none,some 98,131,.load 131 (.tmp 97)⟩,⟨true,none,some 99,0,.indexAddr 89 (.tmp 85) (.tmp 86)⟩,⟨false,none,none,0,.store 131 (.tmp 99) (.tmp 94)⟩,⟨true,none,some 100,0,.indexAddr 89 (.tmp 87) (.tmp 89)⟩,⟨false,none,none,0,.store 131 (.tmp 100) (.tmp 98)⟩]))) (.ops [⟨false,none,some 70,3,.move (.tmp 11)⟩,⟨false,none,some 71,3,.binOp .sub 3 (.tmp 70) (.const (.int .i64 1)) 3⟩,⟨false,none,some 11,3,.assign (.tmp 71)⟩]))
noncomputable def mc139_l3:MC:=.seq (.seq (.ops [⟨false,none,some 107,3,.move (.tmp 12)⟩,⟨false,none,some 108,3,.move (.tmp 2)⟩,⟨false,none,some 109,4,.binOp .lss 3 (.tmp 107) (.tmp 108) 3⟩]) (.cond (.tmp 109) (.skip) (.exit 6))) (.seq (.block 7 (.seq (.seq (.ops [⟨true,none,some 112,133,.move (.tmp 3)⟩,⟨true,none,some 113,89,.move (.tmp 0)⟩,⟨true,none,some 114,3,.move (.tmp 12)⟩,⟨true,none,some 115,0,.indexAddr 89 (.tmp 113) (.tmp 114)⟩,⟨true,none,some 116,131,.load 131 (.tmp 115)⟩,⟨true,none,some 117,89,.move (.tmp 0)⟩,⟨true,none,some 118,3,.move (.tmp 12)⟩,⟨true,none,some 119,3,.binOp .sub 3 (.tmp 118) (.const (.int .i64 1)) 3⟩,⟨true,none,some 120,0,.indexAddr 89 (.tmp 117) (.tmp 119)⟩,⟨true,none,some 121,131,.load 131 (.tmp 120)⟩,⟨false,none,some 122,3,.call ⟨.value (.tmp 112),#[.tmp 116,.tmp 121],#[131,131]⟩⟩,⟨true,none,some 123,4,.binOp .lss 3 (.tmp 122) (.const (.int .i64 0)) 3⟩,⟨true,none,some 124,4,.unOp .not 4 (.tmp 123)⟩]) (.cond (.tmp 124) (.exit 6) (.skip))) (.ops [⟨true,none,some 125,89,.move (.tmp 0)⟩,⟨true,none,some 126,3,.move (.tmp 12)⟩,⟨true,none,some 127,89,.move (.tmp 0)⟩,⟨true,none,some 128,3,.move (.tmp 12)⟩,⟨true,none,some 129,3,.binOp .sub 3 (.tmp 128) (.const (.int .i64 1)) 3⟩,⟨true,none,some 130,89,.move (.tmp 0)⟩,⟨true,none,some 131,3,.move (.tmp 12)⟩,⟨true,none,some 132,3,.binOp .sub 3 (.tmp 131) (.const (.int .i64 1)) 3⟩,⟨true,none,some 133,0,.indexAddr 89 (.tmp 130) (.tmp 132)⟩,⟨true,none,some 134,131,.load 131 (.tmp 133)⟩,⟨true,none,some 135,89,.move (.tmp 0)⟩,⟨true,none,some 136,3,.move (.tmp 12)⟩,⟨true,none,some 137,0,.indexAddr 89 (.tmp 135) (.tmp 136)⟩,⟨true,none,some 138,131,.load 131 (.tmp 137)⟩,⟨true,none,some 139,0,.indexAddr 89 (.tmp 125) (.tmp 126)⟩,⟨false,none,none,0,.store 131 (.tmp 139) (.tmp 134)⟩,⟨true,none,some 140,0,.indexAddr 89 (.tmp 127) (.tmp 129)⟩,⟨false,none,none,0,.store 131 (.tmp 140) (.tmp 138)⟩]))) (.ops [⟨false,none,some 110,3,.move (.tmp 12)⟩,⟨false,none,some 111,3,.binOp .add 3 (.tmp 110) (.const (.int .i64 1)) 3⟩,⟨false,none,some 12,3,.assign (.tmp 111)⟩]))
noncomputable def mc139_l0:MC:=.seq (.seq (.ops [⟨false,none,some 15,3,.move (.tmp 10)⟩,⟨false,none,some 16,4,.binOp .lss 3 (.tmp 15) (.const (.int .i64 5)) 3⟩]) (.cond (.tmp 16) (.skip) (.exit 0))) (.seq (.block 1 (.seq (.block 2 (.loop mc139_l1)) (.seq (.seq (.ops [⟨false,none,some 39,3,.move (.tmp 9)⟩,⟨false,none,some 40,3,.move (.tmp 2)⟩,⟨false,none,some 41,4,.binOp .eql 3 (.tmp 39) (.tmp 40) 3⟩]) (.cond (.tmp 41) (.seq (.ops [⟨false,none,some 8,4,.assign (.const (.bool true))⟩]) (.ret)) (.skip))) (.seq (.seq (.ops [⟨false,none,some 42,3,.move (.tmp 2)⟩,⟨false,none,some 43,3,.move (.tmp 1)⟩,⟨false,none,some 44,3,.binOp .sub 3 (.tmp 42) (.tmp 43) 3⟩,⟨false,none,some 45,4,.binOp .lss 3 (.tmp 44) (.const (.int .i64 50)) 3⟩]) (.cond (.tmp 45) (.seq (.ops [⟨false,none,some 8,4,.assign (.const (.bool false))⟩]) (.ret)) (.skip))) (.seq (.ops [⟨true,none,some 46,89,.move (.tmp 0)⟩,⟨true,none,some 47,3,.move (.tmp 9)⟩,⟨true,none,some 48,89,.move (.tmp 0)⟩,⟨true,none,some 49,3,.move (.tmp 9)⟩,⟨true,none,some 50,3,.binOp .sub 3 (.tmp 49) (.const (.int .i64 1)) 3⟩,⟨true,none,some 51,89,.move (.tmp 0)⟩,⟨true,none,some 52,3,.move (.tmp 9)⟩,⟨true,none,some 53,3,.binOp .sub 3 (.tmp 52) (.const (.int .i64 1)) 3⟩,⟨true,none,some 54,0,.indexAddr 89 (.tmp 51) (.tmp 53)⟩,⟨true,none,some 55,131,.load 131 (.tmp 54)⟩,⟨true,none,some 56,89,.move (.tmp 0)⟩,⟨true,none,some 57,3,.move (.tmp 9)⟩,⟨true,none,some 58,0,.indexAddr 89 (.tmp 56) (.tmp 57)⟩,⟨true,none,some 59,131,.load 131 (.tmp 58)⟩,⟨true,none,some 60,0,.indexAddr 89 (.tmp 46) (.tmp 47)⟩,⟨false,none,none,0,.store 131 (.tmp 60) (.tmp 55)⟩,⟨true,none,some 61,0,.indexAddr 89 (.tmp 48) (.tmp 50)⟩,⟨false,none,none,0,.store 131 (.tmp 61) (.tmp 59)⟩]) (.seq (.seq (.ops [⟨false,none,some 62,3,.move (.tmp 9)⟩,⟨false,none,some 63,3,.move (.tmp 1)⟩,⟨false,none,some 64,3,.binOp .sub 3 (.tmp 62) (.tmp 63) 3⟩,⟨false,none,some 65,4,.binOp .geq 3 (.tmp 64) (.const (.int .i64 2)) 3⟩]) (.cond (.tmp 65) (.seq (.ops [⟨false,none,some 66,3,.move (.tmp 9)⟩,⟨false,none,some 67,3,.binOp .sub 3 (.tmp 66) (.const (.int .i64 1)) 3⟩,⟨false,none,some 11,3,.assign (.tmp 67)⟩]) (.block 4 (.loop mc139_l2))) (.skip))) (.seq (.ops [⟨false,none,some 101,3,.move (.tmp 2)⟩,⟨false,none,some 102,3,.move (.tmp 9)⟩,⟨false,none,some 103,3,.binOp .sub 3 (.tmp 101) (.tmp 102) 3⟩,⟨false,none,some 104,4,.binOp .geq 3 (.tmp 103) (.const (.int .i64 2)) 3⟩]) (.cond (.tmp 104) (.seq (.ops [⟨false,none,some 105,3,.move (.tmp 9)⟩,⟨false,none,some 106,3,.binOp .add 3 (.tmp 105) (.const (.int .i64 1)) 3⟩,⟨false,none,some 12,3,.assign (.tmp 106)⟩]) (.block 6 (.loop mc139_l3))) (.skip))))))))) (.ops [⟨false,none,some 17,3,.move (.tmp 10)⟩,⟨false,none,some 18,3,.binOp .add 3 (.tmp 17) (.const (.int .i64 1)) 3⟩,⟨false,none,some 10,3,.assign (.tmp 18)⟩]))
noncomputable def mc139:MC:=.seq (.ops [⟨false,none,some 8,4,.assign (.const (.bool false))⟩]) (.seq (.ops [⟨false,none,some 13,3,.move (.tmp 1)⟩,⟨false,none,some 14,3,.binOp .add 3 (.tmp 13) (.const (.int .i64 1)) 3⟩,⟨false,none,some 9,3,.assign (.tmp 14)⟩]) (.seq (.seq (.ops [⟨false,none,some 10,3,.assign (.const (.int .i64 0))⟩]) (.block 0 (.loop mc139_l0))) (.seq (.ops [⟨false,none,some 8,4,.assign (.const (.bool false))⟩]) (.ret))))
theorem text139:textF Tryz.prog 139=some (141,[.tmp 8],mc139):=by kernel_rfl
noncomputable def mc140_l1:MC:=.seq (.seq (.ops [⟨true,none,some 31,3,.move (.tmp 11)⟩,⟨true,none,some 32,3,.move (.tmp 12)⟩,⟨true,none,some 33,4,.binOp .leq 3 (.tmp 31) (.tmp 32) 3⟩,⟨true,none,some 34,4,.move (.tmp 33)⟩,⟨true,some (34,true),some 35,133,.move (.tmp 4)⟩,⟨true,some (34,true),some 36,89,.move (.tmp 0)⟩,⟨true,some (34,true),some 37,3,.move (.tmp 1)⟩,⟨true,some (34,true),some 38,0,.indexAddr 89 (.tmp 36) (.tmp 37)⟩,⟨true,some (34,true),some 39,131,.load 131 (.tmp 38)⟩,⟨true,some (34,true),some 40,89,.move (.tmp 0)⟩,⟨true,some (34,true),some 41,3,.move (.tmp 11)⟩,⟨true,some (34,true),some 42,0,.indexAddr 89 (.tmp 40) (.tmp 41)⟩,⟨true,some (34,true),some 43,131,.load 131 (.tmp 42)⟩,⟨false,some (34,true),some 44,3,.call ⟨.value (.tmp 35),#[.tmp 39,.tmp 43],#[131,131]⟩⟩,⟨true,some (34,true),some 45,4,.binOp .lss 3 (.tmp 44) (.const (.int .i64 0)) 3⟩,⟨true,some (34,true),some 46,4,.unOp .not 4 (.tmp 45)⟩,⟨true,none,some 47,4,.pick (.tmp 34) (.tmp 46) (.const (.bool false))⟩]) (.cond (.tmp 47) (.skip) (.exit 2))) (.block 3 (.ops [⟨false,none,some 48,3,.move (.tmp 11)⟩,⟨false,none,some 49,3,.binOp .add 3 (.tmp 48) (.const (.int .i64 1)) 3⟩,⟨false,none,some 11,3,.assign (.tmp 49)⟩]))
noncomputable def mc140_l2:MC:=.seq (.seq (.ops [⟨true,none,some 50,3,.move (.tmp 11)⟩,⟨true,none,some 51,3,.move (.tmp 12)⟩,⟨true,none,some 52,4,.binOp .leq 3 (.tmp 50) (.tmp 51) 3⟩,⟨true,none,some 53,4,.move (.tmp 52)⟩,⟨true,some (53,true),some 54,133,.move (.tmp 4)⟩,⟨true,some (53,true),some 55,89,.move (.tmp 0)⟩,⟨true,some (53,true),some 56,3,.move (.tmp 1)⟩,⟨true,some (53,true),some 57,0,.indexAddr 89 (.tmp 55) (.tmp 56)⟩,⟨true,some (53,true),some 58,131,.load 131 (.tmp 57)⟩,⟨true,some (53,true),some 59,89,.move (.tmp 0)⟩,⟨true,some (53,true),some 60,3,.move (.tmp 12)⟩,⟨true,some (53,true),some 61,0,.indexAddr 89 (.tmp 59) (.tmp 60)⟩,⟨true,some (53,true),some 62,131,.load 131 (.tmp 61)⟩,⟨false,some (53,true),some 63,3,.call ⟨.value (.tmp 54),#[.tmp 58,.tmp 62],#[131,131]⟩⟩,⟨true,some (53,true),some 64,4,.binOp .lss 3 (.tmp 63) (.const (.int .i64 0)) 3⟩,⟨true,none,some 65,4,.pick (.tmp 53) (.tmp 64) (.const (.bool false))⟩]) (.cond (.tmp 65) (.skip) (.exit 4))) (.block 5 (.ops [⟨false,none,some 66,3,.move (.tmp 12)⟩,⟨false,none,some 67,3,.binOp .sub 3 (.tmp 66) (.const (.int .i64 1)) 3⟩,⟨false,none,some 12,3,.assign (.tmp 67)⟩]))
noncomputable def mc140_l0:MC:=.block 1 (.seq (.block 2 (.loop mc140_l1)) (.seq (.block 4 (.loop mc140_l2)) (.seq (.seq (.ops [⟨false,none,some 68,3,.move (.tmp 11)⟩,⟨false,none,some 69,3,.move (.tmp 12)⟩,⟨false,none,some 70,4,.binOp .gtr 3 (.tmp 68) (.tmp 69) 3⟩]) (.cond (.tmp 70) (.exit 0) (.skip))) (.seq (.ops [⟨true,none,some 71,89,.move (.tmp 0)⟩,⟨true,none,some 72,3,.move (.tmp 11)⟩,⟨true,none,some 73,89,.move (.tmp 0)⟩,⟨true,none,some 74,3,.move (.tmp 12)⟩,⟨true,none,some 75,89,.move (.tmp 0)⟩,⟨true,none,some 76,3,.move (.tmp 12)⟩,⟨true,none,some 77,0,.indexAddr 89 (.tmp 75) (.tmp 76)⟩,⟨true,none,some 78,131,.load 131 (.tmp 77)⟩,⟨true,none,some 79,89,.move (.tmp 0)⟩,⟨true,none,some 80,3,.move (.tmp 11)⟩,⟨true,none,some 81,0,.indexAddr 89 (.tmp 79) (.tmp 80)⟩,⟨true,none,some 82,131,.load 131 (.tmp 81)⟩,⟨true,none,some 83,0,.indexAddr 89 (.tmp 71) (.tmp 72)⟩,⟨false,none,none,0,.store 131 (.tmp 83) (.tmp 78)⟩,⟨true,none,some 84,0,.indexAddr 89 (.tmp 73) (.tmp 74)⟩,⟨false,none,none,0,.store 131 (.tmp 84) (.tmp 82)⟩]) (.seq (.ops [⟨false,none,some 85,3,.move (.tmp 11)⟩,⟨false,none,some 86,3,.binOp .add 3 (.tmp 85) (.const (.int .i64 1)) 3⟩,⟨false,none,some 11,3,.assign (.tmp 86)⟩]) (.ops [⟨false,none,some 87,3,.move (.tmp 12)⟩,⟨false,none,some 88,3,.binOp .sub 3 (.tmp 87) (.const (.int .i64 1)) 3⟩,⟨false,none,some 12,3,.assign (.tmp 88)⟩]))))))
noncomputable def mc140:MC:=.seq (.ops [⟨false,none,some 10,3,.assign (.const (.int .i64 0))⟩]) (.seq (.ops [⟨true,none,some 13,89,.move (.tmp 0)⟩,⟨true,none,some 14,3,.move (.tmp 1)⟩,⟨true,none,some 15,89,.move (.tmp 0)⟩,⟨true,none,some 16,3,.move (.tmp 3)⟩,⟨true,none,some 17,89,.move (.tmp 0)⟩,⟨true,none,some 18,3,.move (.tmp 3)⟩,⟨true,none,some 19,0,.indexAddr 89 (.tmp 17) (.tmp 18)⟩,⟨true,none,some 20,131,.load 131 (.tmp 19)⟩,⟨true,none,some 21,89,.move (.tmp 0)⟩,⟨true,none,some 22,3,.move (.tmp 1)⟩,⟨true,none,some 23,0,.indexAddr 89 (.tmp 21) (.tmp 22)⟩,⟨true,none,some 24,131,.load 131 (.tmp 23)⟩,⟨true,none,some 25,0,.indexAddr 89 (.tmp 13) (.tmp 14)⟩,⟨false,none,none,0,.store 131 (.tmp 25) (.tmp 20)⟩,⟨true,none,some 26,0,.indexAddr 89 (.tmp 15) (.tmp 16)⟩,⟨false,none,none,0,.store 131 (.tmp 26) (.tmp 24)⟩]) (.seq (.ops [⟨false,none,some 27,3,.move (.tmp 1)⟩,⟨false,none,some 28,3,.binOp .add 3 (.tmp 27) (.const (.int .i64 1)) 3⟩,⟨false,none,some 29,3,.move (.tmp 2)⟩,⟨false,none,some 30,3,.binOp .sub 3 (.tmp 29) (.const (.int .i64 1)) 3⟩,⟨false,none,some 11,3,.assign (.tmp 28)⟩,⟨false,none,some 12,3,.assign (.tmp 30)⟩]) (.seq (.block 0 (.loop mc140_l0)) (.seq (.ops [⟨false,none,some 89,3,.move (.tmp 11)⟩,⟨false,none,some 10,3,.assign (.tmp 89)⟩]) (.ret)))))
theorem text140:textF Tryz.prog 140=some (90,[.tmp 10],mc140):=by kernel_rfl
noncomputable def mc141_l0:MC:=.seq (.seq (.ops [⟨true,none,some 32,3,.move (.tmp 12)⟩,⟨true,none,some 33,3,.move (.tmp 13)⟩,⟨true,none,some 34,4,.binOp .leq 3 (.tmp 32) (.tmp 33) 3⟩,⟨true,none,some 35,4,.move (.tmp 34)⟩,⟨true,some (35,true),some 36,133,.move (.tmp 4)⟩,⟨true,some (35,true),some 37,89,.move (.tmp 0)⟩,⟨true,some (35,true),some 38,3,.move (.tmp 12)⟩,⟨true,some (35,true),some 39,0,.indexAddr 89 (.tmp 37) (.tmp 38)⟩,⟨true,some (35,true),some 40,131,.load 131 (.tmp 39)⟩,⟨true,some (35,true),some 41,89,.move (.tmp 0)⟩,⟨true,some (35,true),some 42,3,.move (.tmp 1)⟩,⟨true,some (35,true),some 43,0,.indexAddr 89 (.tmp 41) (.tmp 42)⟩,⟨true,some (35,true),some 44,131,.load 131 (.tmp 43)⟩,⟨false,some (35,true),some 45,3,.call ⟨.value (.tmp 36),#[.tmp 40,.tmp 44],#[131,131]⟩⟩,⟨true,some (35,true),some 46,4,.binOp .lss 3 (.tmp 45) (.const (.int .i64 0)) 3⟩,⟨true,none,some 47,4,.pick (.tmp 35) (.tmp 46) (.const (.bool false))⟩]) (.cond (.tmp 47) (.skip) (.exit 0))) (.block 1 (.ops [⟨false,none,some 48,3,.move (.tmp 12)⟩,⟨false,none,some 49,3,.binOp .add 3 (.tmp 48) (.const (.int .i64 1)) 3⟩,⟨false,none,some 12,3,.assign (.tmp 49)⟩]))
noncomputable def mc141_l1:MC:=.seq (.seq (.ops [⟨true,none,some 50,3,.move (.tmp 12)⟩,⟨true,none,some 51,3,.move (.tmp 13)⟩,⟨true,none,some 52,4,.binOp .leq 3 (.tmp 50) (.tmp 51) 3⟩,⟨true,none,some 53,4,.move (.tmp 52)⟩,⟨true,some (53,true),some 54,133,.move (.tmp 4)⟩,⟨true,some (53,true),some 55,89,.move (.tmp 0)⟩,⟨true,some (53,true),some 56,3,.move (.tmp 13)⟩,⟨true,some (53,true),some 57,0,.indexAddr 89 (.tmp 55) (.tmp 56)⟩,⟨true,some (53,true),some 58,131,.load 131 (.tmp 57)⟩,⟨true,some (53,true),some 59,89,.move (.tmp 0)⟩,⟨true,some (53,true),some 60,3,.move (.tmp 1)⟩,⟨true,some (53,true),some 61,0,.indexAddr 89 (.tmp 59) (.tmp 60)⟩,⟨true,some (53,true),some 62,131,.load 131 (.tmp 61)⟩,⟨false,some (53,true),some 63,3,.call ⟨.value (.tmp 54),#[.tmp 58,.tmp 62],#[131,131]⟩⟩,⟨true,some (53,true),some 64,4,.binOp .lss 3 (.tmp 63) (.const (.int .i64 0)) 3⟩,⟨true,some (53,true),some 65,4,.unOp .not 4 (.tmp 64)⟩,⟨true,none,some 66,4,.pick (.tmp 53) (.tmp 65) (.const (.bool false))⟩]) (.cond (.tmp 66) (.skip) (.exit 2))) (.block 3 (.ops [⟨false,none,some 67,3,.move (.tmp 13)⟩,⟨false,none,some 68,3,.binOp .sub 3 (.tmp 67) (.const (.int .i64 1)) 3⟩,⟨false,none,some 13,3,.assign (.tmp 68)⟩]))
noncomputable def mc141_l3:MC:=.seq (.seq (.ops [⟨true,none,some 105,3,.move (.tmp 12)⟩,⟨true,none,some 106,3,.move (.tmp 13)⟩,⟨true,none,some 107,4,.binOp .leq 3 (.tmp 105) (.tmp 106) 3⟩,⟨true,none,some 108,4,.move (.tmp 107)⟩,⟨true,some (108,true),some 109,133,.move (.tmp 4)⟩,⟨true,some (108,true),some 110,89,.move (.tmp 0)⟩,⟨true,some (108,true),some 111,3,.move (.tmp 12)⟩,⟨true,some (108,true),some 112,0,.indexAddr 89 (.tmp 110) (.tmp 111)⟩,⟨true,some (108,true),some 113,131,.load 131 (.tmp 112)⟩,⟨true,some (108,true),some 114,89,.move (.tmp 0)⟩,⟨true,some (108,true),some 115,3,.move (.tmp 1)⟩,⟨true,some (108,true),some 116,0,.indexAddr 89 (.tmp 114) (.tmp 115)⟩,⟨true,some (108,true),some 117,131,.load 131 (.tmp 116)⟩,⟨false,some (108,true),some 118,3,.call ⟨.value (.tmp 109),#[.tmp 113,.tmp 117],#[131,131]⟩⟩,⟨true,some (108,true),some 119,4,.binOp .lss 3 (.tmp 118) (.const (.int .i64 0)) 3⟩,⟨true,none,some 120,4,.pick (.tmp 108) (.tmp 119) (.const (.bool false))⟩]) (.cond (.tmp 120) (.skip) (.exit 6))) (.block 7 (.ops [⟨false,none,some 121,3,.move (.tmp 12)⟩,⟨false,none,some 122,3,.binOp .add 3 (.tmp 121) (.const (.int .i64 1)) 3⟩,⟨false,none,some 12,3,.assign (.tmp 122)⟩]))
noncomputable def mc141_l4:MC:=.seq (.seq (.ops [⟨true,none,some 123,3,.move (.tmp 12)⟩,⟨true,none,some 124,3,.move (.tmp 13)⟩,⟨true,none,some 125,4,.binOp .leq 3 (.tmp 123) (.tmp 124) 3⟩,⟨true,none,some 126,4,.move (.tmp 125)⟩,⟨true,some (126,true),some 127,133,.move (.tmp 4)⟩,⟨true,some (126,true),some 128,89,.move (.tmp 0)⟩,⟨true,some (126,true),some 129,3,.move (.tmp 13)⟩,⟨true,some (126,true),some 130,0,.indexAddr 89 (.tmp 128) (.tmp 129)⟩,⟨true,some (126,true),some 131,131,.load 131 (.tmp 130)⟩,⟨true,some (126,true),some 132,89,.move (.tmp 0)⟩,⟨true,some (126,true),some 133,3,.move (.tmp 1)⟩,⟨true,some (126,true),some 134,0,.indexAddr 89 (.tmp 132) (.tmp 133)⟩,⟨true,some (126,true),some 135,131,.load 131 (.tmp 134)⟩,⟨false,some (126,true),some 136,3,.call ⟨.value (.tmp 127),#[.tmp 131,.tmp 135],#[131,131]⟩⟩,⟨true,some (126,true),some 137,4,.binOp .lss 3 (.tmp 136) (.const (.int .i64 0)) 3⟩,⟨true,some (126,true),some 138,4,.unOp .not 4 (.tmp 137)⟩,⟨true,none,some 139,4,.pick (.tmp 126) (.tmp 138) (.const (.bool false))⟩]) (.cond (.tmp 139) (.skip) (.exit 8))) (.block 9 (.ops [⟨false,none,some 140,3,.move (.tmp 13)⟩,⟨false,none,some 141,3,.binOp .sub 3 (.tmp 140) (.const (.int .i64 1)) 3⟩,⟨false,none,some 13,3,.assign (.tmp 141)⟩]))
noncomputable def mc141_l2:MC:=.block 5 (.seq (.block 6 (.loop mc141_l3)) (.seq (.block 8 (.loop mc141_l4)) (.seq (.seq (.ops [⟨false,none,some 142,3,.move (.tmp 12)⟩,⟨false,none,some 143,3,.move (.tmp 13)⟩,⟨false,none,some 144,4,.binOp .gtr 3 (.tmp 142) (.tmp 143) 3⟩]) (.cond (.tmp 144) (.exit 4) (.skip))) (.seq (.ops [⟨true,none,some 145,89,.move (.tmp 0)⟩,⟨true,none,some 146,3,.move (.tmp 12)⟩,⟨true,none,some 147,89,.move (.tmp 0)⟩,⟨true,none,some 148,3,.move (.tmp 13)⟩,⟨true,none,some 149,89,.move (.tmp 0)⟩,⟨true,none,some 150,3,.move (.tmp 13)⟩,⟨true,none,some 151,0,.indexAddr 89 (.tmp 149) (.tmp 150)⟩,⟨true,none,some 152,131,.load 131 (.tmp 151)⟩,⟨true,none,some 153,89,.move (.tmp 0)⟩,⟨true,none,some 154,3,.move (.tmp 12)⟩,⟨true,none,some 155,0,.indexAddr 89 (.tmp 153) (.tmp 154)⟩,⟨true,none,some 156,131,.load 131 (.tmp 155)⟩,⟨true,none,some 157,0,.indexAddr 89 (.tmp 145) (.tmp 146)⟩,⟨false,none,none,0,.store 131 (.tmp 157) (.tmp 152)⟩,⟨true,none,some 158,0,.indexAddr 89 (.tmp 147) (.tmp 148)⟩,⟨false,none,none,0,.store 131 (.tmp 158) (.tmp 156)⟩]) (.seq (.ops [⟨false,none,some 159,3,.move (.tmp 12)⟩,⟨false,none,some 160,3,.binOp .add 3 (.tmp 159) (.const (.int .i64 1)) 3⟩,⟨false,none,some 12,3,.assign (.tmp 160)⟩]) (.ops [⟨false,none,some 161,3,.move (.tmp 13)⟩,⟨false,none,some 162,3,.binOp .sub 3 (.tmp 161) (.const (.int .i64 1)) 3⟩,⟨false,none,some 13,3,.assign (.tmp 162)⟩]))))))
noncomputable def mc141:MC:=.seq (.ops [⟨false,none,some 10,3,.assign (.const (.int .i64 0))⟩,⟨false,none,some 11,4,.assign (.const (.bool false))⟩]) (.seq (.ops [⟨true,none,some 14,89,.move (.tmp 0)⟩,⟨true,none,some 15,3,.move (.tmp 1)⟩,⟨true,none,some 16,89,.move (.tmp 0)⟩,⟨true,none,some 17,3,.move (.tmp 3)⟩,⟨true,none,some 18,89,.move (.tmp 0)⟩,⟨true,none,some 19,3,.move (.tmp 3)⟩,⟨true,none,some 20,0,.indexAddr 89 (.tmp 18) (.tmp 19)⟩,⟨true,none,some 21,131,.load 131 (.tmp 20)⟩,⟨true,none,some 22,89,.move (.tmp 0)⟩,⟨true,none,some 23,3,.move (.tmp 1)⟩,⟨true,none,some 24,0,.indexAddr 89 (.tmp 22) (.tmp 23)⟩,⟨true,none,some 25,131,.load 131 (.tmp 24)⟩,⟨true,none,some 26,0,.indexAddr 89 (.tmp 14) (.tmp 15)⟩,⟨false,none,none,0,.store 131 (.tmp 26) (.tmp 21)⟩,⟨true,none,some 27,0,.indexAddr 89 (.tmp 16) (.tmp 17)⟩,⟨false,none,none,0,.store 131 (.tmp 27) (.tmp 25)⟩]) (.seq (.ops [⟨false,none,some 28,3,.move (.tmp 1)⟩,⟨false,none,some 29,3,.binOp .add 3 (.tmp 28) (.const (.int .i64 1)) 3⟩,⟨false,none,some 30,3,.move (.tmp 2)⟩,⟨false,none,some 31,3,.binOp .sub 3 (.tmp 30) (.const (.int .i64 1)) 3⟩,⟨false,none,some 12,3,.assign (.tmp 29)⟩,⟨false,none,some 13,3,.assign (.tmp 31)⟩]) (.seq (.block 0 (.loop mc141_l0)) (.seq (.block 2 (.loop mc141_l1)) (.seq (.seq (.ops [⟨false,none,some 69,3,.move (.tmp 12)⟩,⟨false,none,some 70,3,.move (.tmp 13)⟩,⟨false,none,some 71,4,.binOp .gtr 3 (.tmp 69) (.tmp 70) 3⟩]) (.cond (.tmp 71) (.seq (.ops [⟨true,none,some 72,89,.move (.tmp 0)⟩,⟨true,none,some 73,3,.move (.tmp 13)⟩,⟨true,none,some 74,89,.move (.tmp 0)⟩,⟨true,none,some 75,3,.move (.tmp 1)⟩,⟨true,none,some 76,89,.move (.tmp 0)⟩,⟨true,none,some 77,3,.move (.tmp 1)⟩,⟨true,none,some 78,0,.indexAddr 89 (.tmp 76) (.tmp 77)⟩,⟨true,none,some 79,131,.load 131 (.tmp 78)⟩,⟨true,none,some 80,89,.move (.tmp 0)⟩,⟨true,none,some 81,3,.move (.tmp 13)⟩,⟨true,none,some 82,0,.indexAddr 89 (.tmp 80) (.tmp 81)⟩,⟨true,none,some 83,131,.load 131 (.tmp 82)⟩,⟨true,none,some 84,0,.indexAddr 89 (.tmp 72) (.tmp 73)⟩,⟨false,none,none,0,.store 131 (.tmp 84) (.tmp 79)⟩,⟨true,none,some 85,0,.indexAddr 89 (.tmp 74) (.tmp 75)⟩,⟨false,none,none,0,.store 131 (.tmp 85) (.tmp 83)⟩]) (.seq (.ops [⟨false,none,some 86,3,.move (.tmp 13)⟩,⟨false,none,some 10,3,.assign (.tmp 86)⟩,⟨false,none,some 11,4,.assign (.const (.bool true))⟩]) (.ret))) (.skip))) (.seq (.ops [⟨true,none,some 87,89,.move (.tmp 0)⟩,⟨true,none,some 88,3,.move (.tmp 12)⟩,⟨true,none,some 89,89,.move (.tmp 0)⟩,⟨true,none,some 90,3,.move (.tmp 13)⟩,⟨true,none,some 91,89,.move (.tmp 0)⟩,⟨true,none,some 92,3,.move (.tmp 13)⟩,⟨true,none,some 93,0,.indexAddr 89 (.tmp 91) (.tmp 92)⟩,⟨true,none,some 94,131,.load 131 (.tmp 93)⟩,⟨true,none,some 95,89,.move (.tmp 0)⟩,⟨true,none,some 96,3,.move (.tmp 12)⟩,⟨true,none,some 97,0,.indexAddr 89 (.tmp 95) (.tmp 96)⟩,⟨true,none,some 98,131,.load 131 (.tmp 97)⟩,⟨true,none,some 99,0,.indexAddr 89 (.tmp 87) (.tmp 88)⟩,⟨false,none,none,0,.store 131 (.tmp 99) (.tmp 94)⟩,⟨true,none,some 100,0,.indexAddr 89 (.tmp 89) (.tmp 90)⟩,⟨false,none,none,0,.store 131 (.tmp 100) (.tmp 98)⟩]) (.seq (.ops [⟨false,none,some 101,3,.move (.tmp 12)⟩,⟨false,none,some 102,3,.binOp .add 3 (.tmp 101) (.const (.int .i64 1)) 3⟩,⟨false,none,some 12,3,.assign (.tmp 102)⟩]) (.seq (.ops [⟨false,none,some 103,3,.move (.tmp 13)⟩,⟨false,none,some 104,3,.binOp .sub 3 (.tmp 103) (.const (.int .i64 1)) 3⟩,⟨false,none,some 13,3,.assign (.tmp 104)⟩]) (.seq (.block 4 (.loop mc141_l2)) (.seq (.ops [⟨true,none,some 163,89,.move (.tmp 0)⟩,⟨true,none,some 164,3,.move (.tmp 13)⟩,⟨true,none,some 165,89,.move (.tmp 0)⟩,⟨true,none,some 166,3,.move (.tmp 1)⟩,⟨true,none,some 167,89,.move (.tmp 0)⟩,⟨true,none,some 168,3,.move (.tmp 1)⟩,⟨true,none,some 169,0,.indexAddr 89 (.tmp 167) (.tmp 168)⟩,⟨true,none,some 170,131,.load 131 (.tmp 169)⟩,⟨true,none,some 171,89,.move (.tmp 0)⟩,⟨true,none,some 172,3,.move (.tmp 13)⟩,⟨true,none,some 173,0,.indexAddr 89 (.tmp 171) (.tmp 172)⟩,⟨true,none,some 174,131,.load 131 (.tmp 173)⟩,⟨true,none,some 175,0,.indexAddr 89 (.tmp 163) (.tmp 164)⟩,⟨false,none,none,0,.store 131 (.tmp 175) (.tmp 170)⟩,⟨true,none,some 176,0,.indexAddr 89 (.tmp 165) (.tmp 166)⟩,⟨false,none,none,0,.store 131 (.tmp 176) (.tmp 174)⟩]) (.seq (.ops [⟨false,none,some 177,3,.move (.tmp 13)⟩,⟨false,none,some 10,3,.assign (.tmp 177)⟩,⟨false,none,some 11,4,.assign (.const (.bool false))⟩]) (.ret))))))))))))
theorem text141:textF Tryz.prog 141=some (178,[.tmp 10,.tmp 11],mc141):=by kernel_rfl
noncomputable def mc162_l0:MC:=.block 1 (.seq (.ops [⟨false,none,some 13,3,.move (.tmp 10)⟩,⟨false,none,some 14,3,.binOp .mul 3 (.const (.int .i64 2)) (.tmp 13) 3⟩,⟨false,none,some 15,3,.binOp .add 3 (.tmp 14) (.const (.int .i64 1)) 3⟩,⟨false,none,some 11,3,.assign (.tmp 15)⟩]) (.seq (.seq (.ops [⟨false,none,some 16,3,.move (.tmp 11)⟩,⟨false,none,some 17,3,.move (.tmp 2)⟩,⟨false,none,some 18,4,.binOp .geq 3 (.tmp 16) (.tmp 17) 3⟩]) (.cond (.tmp 18) (.exit 0) (.skip))) (.seq (.seq (.ops [⟨true,none,some 19,3,.move (.tmp 11)⟩,⟨true,none,some 20,3,.binOp .add 3 (.tmp 19) (.const (.int .i64 1)) 3⟩,⟨true,none,some 21,3,.move (.tmp 2)⟩,⟨true,none,some 22,4,.binOp .lss 3 (.tmp 20) (.tmp 21) 3⟩,⟨true,none,some 23,4,.move (.tmp 22)⟩,⟨true,some (23,true),some 24,133,.move (.tmp 4)⟩,⟨true,some (23,true),some 25,89,.move (.tmp 0)⟩,⟨true,some (23,true),some 26,3,.move (.tmp 3)⟩,⟨true,some (23,true),some 27,3,.move (.tmp 11)⟩,⟨true,some (23,true),some 28,3,.binOp .add 3 (.tmp 26) (.tmp 27) 3⟩,⟨true,some (23,true),some 29,0,.indexAddr 89 (.tmp 25) (.tmp 28)⟩,⟨true,some (23,true),some 30,131,.load 131 (.tmp 29)⟩,⟨true,some (23,true),some 31,89,.move (.tmp 0)⟩,⟨true,some (23,true),some 32,3,.move (.tmp 3)⟩,⟨true,some (23,true),some 33,3,.move (.tmp 11)⟩,⟨true,some (23,true),some 34,3,.binOp .add 3 (.tmp 32) (.tmp 33) 3⟩,⟨true,some (23,true),some 35,3,.binOp .add 3 (.tmp 34) (.const (.int .i64 1)) 3⟩,⟨true,some (23,true),some 36,0,.indexAddr 89 (.tmp 31) (.tmp 35)⟩,⟨true,some (23,true),some 37,131,.load 131 (.tmp 36)⟩,⟨false,some (23,true),some 38,3,.call ⟨.value (.tmp 24),#[.tmp 30,.tmp 37],#[131,131]⟩⟩,⟨true,some (23,true),some 39,4,.binOp .lss 3 (.tmp 38) (.const (.int .i64 0)) 3⟩,⟨true,none,some 40,4,.pick (.tmp 23) (.tmp 39) (.const (.bool false))⟩]) (.cond (.tmp 40) (.ops [⟨false,none,some 41,3,.move (.tmp 11)⟩,⟨false,none,some 42,3,.binOp .add 3 (.tmp 41) (.const (.int .i64 1)) 3⟩,⟨false,none,some 11,3,.assign (.tmp 42)⟩]) (.skip))) (.seq (.seq (.ops [⟨true,none,some 43,133,.move (.tmp 4)⟩,⟨true,none,some 44,89,.move (.tmp 0)⟩,⟨true,none,some 45,3,.move (.tmp 3)⟩,⟨true,none,some 46,3,.move (.tmp 10)⟩,⟨true,none,some 47,3,.binOp .add 3 (.tmp 45) (.tmp 46) 3⟩,⟨true,none,some 48,0,.indexAddr 89 (.tmp 44) (.tmp 47)⟩,⟨true,none,some 49,131,.load 131 (.tmp 48)⟩,⟨true,none,some 50,89,.move (.tmp 0)⟩,⟨true,none,some 51,3,.move (.tmp 3)⟩,⟨true,none,some 52,3,.move (.tmp 11)⟩,⟨true,none,some 53,3,.binOp .add 3 (.tmp 51) (.tmp 52) 3⟩,⟨true,none,some 54,0,.indexAddr 89 (.tmp 50) (.tmp 53)⟩,⟨true,none,some 55,131,.load 131 (.tmp 54)⟩,⟨false,none,some 56,3,.call ⟨.value (.tmp 43),#[.tmp 49,.tmp 55],#[131,131]⟩⟩,⟨true,none,some 57,4,.binOp .lss 3 (.tmp 56) (.const (.int .i64 0)) 3⟩,⟨true,none,some 58,4,.unOp .not 4 (.tmp 57)⟩]) (.cond (.tmp 58) (.ret) (.skip))) (.seq (.ops [⟨true,none,some 59,89,.move (.tmp 0)⟩,⟨true,none,some 60,3,.move (.tmp 3)⟩,⟨true,none,some 61,3,.move (.tmp 10)⟩,⟨true,none,some 62,3,.binOp .add 3 (.tmp 60) (.tmp 61) 3⟩,⟨true,none,some 63,89,.move (.tmp 0)⟩,⟨true,none,some 64,3,.move (.tmp 3)⟩,⟨true,none,some 65,3,.move (.tmp 11)⟩,⟨true,none,some 66,3,.binOp .add 3 (.tmp 64) (.tmp 65) 3⟩,⟨true,none,some 67,89,.move (.tmp 0)⟩,⟨true,none,some 68,3,.move (.tmp 3)⟩,⟨true,none,some 69,3,.move (.tmp 11)⟩,⟨true,none,some 70,3,.binOp .add 3 (.tmp 68) (.tmp 69) 3⟩,⟨true,none,some 71,0,.indexAddr 89 (.tmp 67) (.tmp 70)⟩,⟨true,none,some 72,131,.load 131 (.tmp 71)⟩,⟨true,none,some 73,89,.move (.tmp 0)⟩,⟨true,none,some 74,3,.move (.tmp 3)⟩,⟨true,none,some 75,3,.move (.tmp 10)⟩,⟨true,none,some 76,3,.binOp .add 3 (.tmp 74) (.tmp 75) 3⟩,⟨true,none,some 77,0,.indexAddr 89 (.tmp 73) (.tmp 76)⟩,⟨true,none,some 78,131,.load 131 (.tmp 77)⟩,⟨true,none,some 79,0,.indexAddr 89 (.tmp 59) (.tmp 62)⟩,⟨false,none,none,0,.store 131 (.tmp 79) (.tmp 72)⟩,⟨true,none,some 80,0,.indexAddr 89 (.tmp 63) (.tmp 66)⟩,⟨false,none,none,0,.store 131 (.tmp 80) (.tmp 78)⟩]) (.ops [⟨false,none,some 81,3,.move (.tmp 11)⟩,⟨false,none,some 10,3,.assign (.tmp 81)⟩]))))))
noncomputable def mc162:MC:=.seq (.ops [⟨false,none,some 12,3,.move (.tmp 1)⟩,⟨false,none,some 10,3,.assign (.tmp 12)⟩]) (.block 0 (.loop mc162_l0))
theorem text162:textF Tryz.prog 162=some (82,[],mc162):=by kernel_rfl
noncomputable def mc163:MC:=.seq (.ops [⟨false,none,some 8,3,.assign (.const (.int .i64 0))⟩]) (.seq (.ops [⟨false,none,some 9,89,.move (.tmp 0)⟩,⟨false,none,some 10,3,.move (.tmp 1)⟩,⟨false,none,some 11,3,.binOp .sub 3 (.tmp 10) (.const (.int .i64 1)) 3⟩,⟨false,none,some 12,3,.move (.tmp 1)⟩,⟨false,none,some 13,3,.move (.tmp 1)⟩,⟨false,none,some 14,3,.binOp .add 3 (.tmp 13) (.const (.int .i64 1)) 3⟩,⟨false,none,some 15,177,.move (.tmp 2)⟩,⟨false,none,some 16,133,.move (.tmp 3)⟩,⟨false,none,some 17,3,.call ⟨.value (.func 164),#[.tmp 9,.tmp 11,.tmp 12,.tmp 14,.tmp 15,.tmp 16],#[89,3,3,3,177,133]⟩⟩,⟨false,none,some 8,3,.assign (.tmp 17)⟩]) (.ret))
theorem text163:textF Tryz.prog 163=some (18,[.tmp 8],mc163):=by kernel_rfl
noncomputable def mc164:MC:=.seq (.ops [⟨false,none,some 12,3,.assign (.const (.int .i64 0))⟩]) (.seq (.ops [⟨false,none,some 14,89,.move (.tmp 0)⟩,⟨false,none,some 15,3,.move (.tmp 1)⟩,⟨false,none,some 16,3,.move (.tmp 2)⟩,⟨false,none,some 17,177,.move (.tmp 4)⟩,⟨false,none,some 18,133,.move (.tmp 5)⟩,⟨false,none,some 19,198,.call ⟨.value (.func 182),#[.tmp 14,.tmp 15,.tmp 16,.tmp 17,.tmp 18],#[89,3,3,177,133]⟩⟩,⟨false,none,some 13,198,.move (.tmp 19)⟩,⟨false,none,some 20,3,.extract (.tmp 13) 0⟩,⟨false,none,some 21,3,.extract (.tmp 13) 1⟩,⟨false,none,some 1,3,.assign (.tmp 20)⟩,⟨false,none,some 2,3,.assign (.tmp 21)⟩]) (.seq (.ops [⟨false,none,some 23,89,.move (.tmp 0)⟩,⟨false,none,some 24,3,.move (.tmp 2)⟩,⟨false,none,some 25,3,.move (.tmp 3)⟩,⟨false,none,some 26,177,.move (.tmp 4)⟩,⟨false,none,some 27,133,.move (.tmp 5)⟩,⟨false,none,some 28,198,.call ⟨.value (.func 182),#[.tmp 23,.tmp 24,.tmp 25,.tmp 26,.tmp 27],#[89,3,3,177,133]⟩⟩,⟨false,none,some 22,198,.move (.tmp 28)⟩,⟨false,none,some 29,3,.extract (.tmp 22) 0⟩,⟨false,none,some 30,3,.extract (.tmp 22) 1⟩,⟨false,none,some 2,3,.assign (.tmp 29)⟩,⟨false,none,some 3,3,.assign (.tmp 30)⟩]) (.seq (.ops [⟨false,none,some 32,89,.move (.tmp 0)⟩,⟨false,none,some 33,3,.move (.tmp 1)⟩,⟨false,none,some 34,3,.move (.tmp 2)⟩,⟨false,none,some 35,177,.move (.tmp 4)⟩,⟨false,none,some 36,133,.move (.tmp 5)⟩,⟨false,none,some 37,198,.call ⟨.value (.func 182),#[.tmp 32,.tmp 33,.tmp 34,.tmp 35,.tmp 36],#[89,3,3,177,133]⟩⟩,⟨false,none,some 31,198,.move (.tmp 37)⟩,⟨false,none,some 38,3,.extract (.tmp 31) 0⟩,⟨false,none,some 39,3,.extract (.tmp 31) 1⟩,⟨false,none,some 1,3,.assign (.tmp 38)⟩,⟨false,none,some 2,3,.assign (.tmp 39)⟩]) (.seq (.ops [⟨false,none,some 40,3,.move (.tmp 2)⟩,⟨false,none,some 12,3,.assign (.tmp 40)⟩]) (.ret)))))
theorem text164:textF Tryz.prog 164=some (41,[.tmp 12],mc164):=by kernel_rfl
noncomputable def mc182:MC:=.seq (.ops [⟨false,none,some 10,3,.assign (.const (.int .i64 0))⟩,⟨false,none,some 11,3,.assign (.const (.int .i64 0))⟩]) (.seq (.seq (.ops [⟨true,none,some 12,133,.move (.tmp 4)⟩,⟨true,none,some 13,89,.move (.tmp 0)⟩,⟨true,none,some 14,3,.move (.tmp 2)⟩,⟨true,none,some 15,0,.indexAddr 89 (.tmp 13) (.tmp 14)⟩,⟨true,none,some 16,131,.load 131 (.tmp 15)⟩,⟨true,none,some 17,89,.move (.tmp 0)⟩,⟨true,none,some 18,3,.move (.tmp 1)⟩,⟨true,none,some 19,0,.indexAddr 89 (.tmp 17) (.tmp 18)⟩,⟨true,none,some 20,131,.load 131 (.tmp 19)⟩,⟨false,none,some 21,3,.call ⟨.value (.tmp 12),#[.tmp 16,.tmp 20],#[131,131]⟩⟩,⟨true,none,some 22,4,.binOp .lss 3 (.tmp 21) (.const (.int .i64 0)) 3⟩]) (.cond (.tmp 22) (.seq (.ops [⟨false,none,some 23,177,.move (.tmp 3)⟩,⟨false,none,some 24,0,.nilCheck (.tmp 23)⟩,⟨false,none,some 25,3,.load 3 (.tmp 24)⟩,⟨false,none,some 26,3,.binOp .add 3 (.tmp 25) (.const (.int .i64 1)) 3⟩,⟨false,none,some 27,0,.nilCheck (.tmp 23)⟩,⟨false,none,none,0,.store 3 (.tmp 27) (.tmp 26)⟩]) (.seq (.ops [⟨false,none,some 28,3,.move (.tmp 2)⟩,⟨false,none,some 29,3,.move (.tmp 1)⟩,⟨false,none,some 10,3,.assign (.tmp 28)⟩,⟨false,none,some 11,3,.assign (.tmp 29)⟩]) (.ret))) (.skip))) (.seq (.ops [⟨false,none,some 30,3,.move (.tmp 1)⟩,⟨false,none,some 31,3,.move (.tmp 2)⟩,⟨false,none,some 10,3,.assign (.tmp 30)⟩,⟨false,none,some 11,3,.assign (.tmp 31)⟩]) (.ret)))
theorem text182:textF Tryz.prog 182=some (32,[.tmp 10,.tmp 11],mc182):=by kernel_rfl
@[simp] theorem cf134 (w:AW) (l:List Value):callFn Tryz.prog w 134 l=.enter 134 l w:=callFn_enter text134 l
@[simp] theorem cf135 (w:AW) (l:List Value):callFn Tryz.prog w 135 l=.enter 135 l w:=callFn_enter text135 l
@[simp] theorem cf136 (w:AW) (l:List Value):callFn Tryz.prog w 136 l=.enter 136 l w:=callFn_enter text136 l
@[simp] theorem cf137 (w:AW) (l:List Value):callFn Tryz.prog w 137 l=.enter 137 l w:=callFn_enter text137 l
@[simp] theorem cf138 (w:AW) (l:List Value):callFn Tryz.prog w 138 l=.enter 138 l w:=callFn_enter text138 l
@[simp] theorem cf139 (w:AW) (l:List Value):callFn Tryz.prog w 139 l=.enter 139 l w:=callFn_enter text139 l
@[simp] theorem cf140 (w:AW) (l:List Value):callFn Tryz.prog w 140 l=.enter 140 l w:=callFn_enter text140 l
@[simp] theorem cf141 (w:AW) (l:List Value):callFn Tryz.prog w 141 l=.enter 141 l w:=callFn_enter text141 l
@[simp] theorem cf162 (w:AW) (l:List Value):callFn Tryz.prog w 162 l=.enter 162 l w:=callFn_enter text162 l
@[simp] theorem cf163 (w:AW) (l:List Value):callFn Tryz.prog w 163 l=.enter 163 l w:=callFn_enter text163 l
@[simp] theorem cf164 (w:AW) (l:List Value):callFn Tryz.prog w 164 l=.enter 164 l w:=callFn_enter text164 l
@[simp] theorem cf182 (w:AW) (l:List Value):callFn Tryz.prog w 182 l=.enter 182 l w:=callFn_enter text182 l
section
variable {α:Type} {C:α→List Value} {V:α→Value} {sz:Nat} {cI:α→α→Int} {fv:Value} {fc:FuncId} {ov:Ov}
structure SD (ov:Ov) (C:α→List Value) (V:α→Value) (sz:Nat) (cI:α→α→Int) (fv:Value) (fc:FuncId):Prop where
 T:SortT Tryz.prog 89 131 sz C V
 cv:∀ w args,callV Tryz.prog w fv args=.enter fc args w
 cm:∀ k w x y,(run Tryz.prog ov (k + 1)).call fc [V x,V y] w .none=.ok (.ret (.int .i64 (cI x y))) w .none
 wk:Wk fun x y=>cI x y < 0
abbrev InD (C:α→List Value) (w0:AW) (B:Nat) (L:List α) (w:AW):Prop:=InS C 131 w0 B L w
theorem SD.ix (h:SD ov C V sz cI fv fc) {k n:Nat} (hk:k < n) {z:Int} (hz:z=(k:Int)) (B c:Nat) (w:AW):indexAddrA Tryz.prog w 89 (.slice (some ⟨B,0,none⟩) n c) (.int .i64 z)=.val (.pointer (some ⟨B,k * sz,none⟩)) w:=by
 subst hz; exact h.T.ix w B n c k hk
theorem SD.ld (h:SD ov C V sz cI fv fc) {w0 w:AW} {B k:Nat} {L:List α} {x:α} (hw:InD C w0 B L w) (hx:L[k]?=some x):loadA Tryz.prog w 131 (.pointer (some ⟨B,k * sz,none⟩))=.val (V x) w:=h.T.ld w B k L x hw.row hx
set_option maxHeartbeats 2000000 in
theorem insD_in (m:Nat) (h:SD ov C V sz cI fv fc) (n c:Nat) (hn:n≤200) (a i b:Nat) (hai:a≤i) (hib:i < b) (hbn:b≤n) (B:Nat) (w0:AW) (hl:w0.lim≤B) (L0:List α) (hL0:L0.length=n) (hs:Srt (fun x y=>cI x y < 0) L0 a i)
  (Q:Ex→Tm→AW→Prop) (t:Tm) (w:AW) (hw:InD C w0 B L0 w)
  (t0:tget t 0=.slice (some ⟨B,0,none⟩) n c) (t1:tget t 1=.int .i64 (a:Nat)) (t2:tget t 2=.int .i64 (b:Nat)) (t3:tget t 3=fv) (t8:tget t 8=.int .i64 (i:Nat)) (t9:tget t 9=.int .i64 (i:Nat))
  (hQ:∀ t w L,InD C w0 B L w→Mv a b L0 L→Srt (fun x y=>cI x y < 0) L a (i + 1)→tget t 0=.slice (some ⟨B,0,none⟩) n c→tget t 1=.int .i64 (a:Nat)→tget t 2=.int .i64 (b:Nat)→tget t 3=fv→tget t 8=.int .i64 (i:Nat)→Q (.exit 2) t w) :
  wp (exM Tryz.prog (run Tryz.prog ov (m + 1)) (.loop mc134_l1) t w) Q:=by
 refine wp_rounds (fun r t w=>∃ j L,j + r=i∧a≤j∧InD C w0 B L w∧Mv a b L0 L∧InsX (fun x y=>cI x y < 0) L a (i + 1) j∧tget t 0=.slice (some ⟨B,0,none⟩) n c∧tget t 1=.int .i64 (a:Nat)∧tget t 2=.int .i64 (b:Nat)∧tget t 3=fv∧tget t 8=.int .i64 (i:Nat)∧tget t 9=.int .i64 (j:Nat)) 300 (by decide) ⟨i,L0,rfl,hai,hw,Mv.refl _ _ _,InsX.start hs,t0,t1,t2,t3,t8,t9⟩ ?_
 clear t0 t1 t2 t3 t8 t9 hw hs
 rintro r t w ⟨j,L,hj,haj,hw,hp,hs,t0,t1,t2,t3,t8,t9⟩
 have hlen:L.length=n:=by rw [hp.len,hL0]
 obtain ⟨za,hza⟩:∃ k:Int,k=(a:Int):=⟨_,rfl⟩
 obtain ⟨zb,hzb⟩:∃ k:Int,k=(b:Int):=⟨_,rfl⟩
 obtain ⟨zi,hzi⟩:∃ k:Int,k=(i:Int):=⟨_,rfl⟩
 obtain ⟨zj,hzj⟩:∃ k:Int,k=(j:Int):=⟨_,rfl⟩
 rw [← hza] at t1 hQ
 rw [← hzb] at t2 hQ
 rw [← hzi] at t8 hQ
 rw [← hzj] at t9
 by_cases hpos:a < j
 ·have hp0:za < zj:=by omega
  obtain ⟨x,hx⟩:=at_get (L:=L) (i:=j - 1) (by omega)
  obtain ⟨y,hy⟩:=at_get (L:=L) (i:=j) (by omega)
  have ixj:=h.ix (k:=j) (n:=n) (by omega) hzj B c
  obtain ⟨zk,hzk⟩:∃ k:Int,k=((j - 1:Nat):Int):=⟨_,rfl⟩
  have w3:IntKind.wrap .i64 (zj - 1)=zk:=by rw [wrap64_in (by omega) (by omega)]; omega
  have ixk:=h.ix (k:=j - 1) (n:=n) (by omega) hzk B c
  have ldj:=h.ld hw hy
  have ldk:=h.ld hw hx
  have cm:=h.cm m w y x
  by_cases hc:cI y x < 0
  ·obtain ⟨w1,w2,s1,s2,hw2⟩:=InS.swap h.T hw hl hy hx
   simp [mc134_l1,t0,t1,t2,t3,t8,t9,hp0,w3,ixj,ixk,ldj,ldk,h.cv,cm,hc,s1,s2, -ld131, -st131]
   refine ⟨by omega,j - 1,by omega,by omega,_,hw2,hp.trans (Mv.swap hy hx (by omega) (by omega) (by omega) (by omega)),hs.step h.wk hpos hy hx hc,?_⟩
   simp [hza,hzb,hzi,hzk]
  ·simp [mc134_l1,t0,t1,t2,t3,t8,t9,hp0,w3,ixj,ixk,ldj,ldk,h.cv,cm,hc, -ld131, -st131]
   exact hQ _ _ L hw hp (hs.stop h.wk (by omega) (fun x' y' _ h1 h2=>by rw [hx] at h1; rw [hy] at h2; cases h1; cases h2; exact hc)) (by simp [t0]) (by simp [t1]) (by simp [t2]) (by simp [t3]) (by simp [t8])
 ·have hp0:¬ za < zj:=by omega
  simp [mc134_l1,t0,t1,t2,t3,t8,t9,hp0]
  exact hQ _ _ L hw hp (hs.stop h.wk (by omega) (fun _ _ h0=>absurd h0 hpos)) (by simp [t0]) (by simp [t1]) (by simp [t2]) (by simp [t3]) (by simp [t8])
set_option maxHeartbeats 2000000 in
theorem insD_out (m:Nat) (h:SD ov C V sz cI fv fc) (n c:Nat) (hn:n≤200) (a b:Nat) (hab:a≤b) (hbn:b≤n) (B:Nat) (w0:AW) (hl:w0.lim≤B) (L0:List α) (hL0:L0.length=n)
  (Q:Ex→Tm→AW→Prop) (t:Tm) (w:AW) (hw:InD C w0 B L0 w)
  (t0:tget t 0=.slice (some ⟨B,0,none⟩) n c) (t1:tget t 1=.int .i64 (a:Nat)) (t2:tget t 2=.int .i64 (b:Nat)) (t3:tget t 3=fv) (t8:tget t 8=.int .i64 ((a + 1:Nat):Int))
  (hQ:∀ t w L,InD C w0 B L w→Mv a b L0 L→Srt (fun x y=>cI x y < 0) L a b→Q (.exit 0) t w) :
  wp (exM Tryz.prog (run Tryz.prog ov (m + 1)) (.loop mc134_l0) t w) Q:=by
 refine wp_rounds (fun r t w=>∃ L,a + r≤b∧InD C w0 B L w∧Mv a b L0 L∧Srt (fun x y=>cI x y < 0) L a (a + r + 1)∧tget t 0=.slice (some ⟨B,0,none⟩) n c∧tget t 1=.int .i64 (a:Nat)∧tget t 2=.int .i64 (b:Nat)∧tget t 3=fv∧tget t 8=.int .i64 ((a + r + 1:Nat):Int)) 300 (by decide) ⟨L0,by omega,hw,Mv.refl _ _ _,Srt.one _ (by omega),t0,t1,t2,t3,t8⟩ ?_
 clear t0 t1 t2 t3 t8 hw
 rintro r t w ⟨L,har,hw,hp,hs,t0,t1,t2,t3,t8⟩
 obtain ⟨zb,hzb⟩:∃ k:Int,k=(b:Int):=⟨_,rfl⟩
 obtain ⟨zi,hzi⟩:∃ k:Int,k=((a + r + 1:Nat):Int):=⟨_,rfl⟩
 have hlen:L.length=n:=by rw [hp.len,hL0]
 by_cases hlt:a + r + 1 < b
 ·have hlt':zi < zb:=by omega
  obtain ⟨zk,hzk⟩:∃ k:Int,k=((a + (r + 1) + 1:Nat):Int):=⟨_,rfl⟩
  have w1:IntKind.wrap .i64 (zi + 1)=zk:=by rw [wrap64_in (by omega) (by omega)]; omega
  rw [← hzi] at t8
  rw [← hzb] at t2
  simp [mc134_l0,t2,t8,hlt']
  refine wp_seqX (wp_blockX (wp_blockX (insD_in m h n c hn a (a + r + 1) b (by omega) hlt hbn B w0 hl L hlen hs _ _ _ hw ?_ ?_ ?_ ?_ ?_ ?_ ?_)))
  case _=>simp [t0]
  case _=>simp [t1]
  case _=>simp [t2,hzb]
  case _=>simp [t3]
  case _=>rw [← hzi]; simp [t8]
  case _=>rw [← hzi]; simp
  case _ =>
   intro t w L' hw' hp' hs' s0 s1 s2 s3 s8
   rw [← hzi] at s8
   simp [s0,s1,s2,s3,s8,w1]
   refine ⟨by omega,by omega,L',hw',hp.trans hp',hs',hzk⟩
 ·have hge:¬ zi < zb:=by omega
  rw [← hzi] at t8
  rw [← hzb] at t2
  simp [mc134_l0,t2,t8,hge]
  exact hQ _ _ L hw hp (hs.part (Nat.le_refl _) (by omega))
def LeftD (C:α→List Value) (w w':AW) (B a b:Nat) (L L':List α):Prop:=InD C w B L' w'∧Mv a b L L'
theorem call134 (m:Nat) (ho:∀ args w,ov 134 args w=none) (h:SD ov C V sz cI fv fc) (n c:Nat) (hn:n≤200) (a b:Nat) (hab:a≤b) (hbn:b≤n) (B:Nat) (L:List α) (hL:L.length=n) (w:AW) (hl:w.lim≤B) (hB:w.heap.get B=some (.cells (L.flatMap C) 131 false)) :
  ∃ x w',(run Tryz.prog ov (m + 2)).call 134 [.slice (some ⟨B,0,none⟩) n c,.int .i64 (a:Int),.int .i64 (b:Int),fv] w .none=.ok (.ret x) w' .none∧x=.tuple ⟨[]⟩∧∃ L',LeftD C w w' B a b L L'∧Srt (fun x y=>cI x y < 0) L' a b:=by
 refine call_wp text134 (by simp) (ho _ _) ?_
 obtain ⟨za,hza⟩:∃ k:Int,k=(a:Int):=⟨_,rfl⟩
 have w1:IntKind.wrap .i64 (za + 1)=((a + 1:Nat):Int):=by rw [wrap64_in (by omega) (by omega)]; omega
 rw [← hza]
 simp [mc134]
 refine wp_blockX (insD_out m h n c hn a b hab hbn B w hl L hL _ _ _ (InS.refl hB) ?_ ?_ ?_ ?_ ?_ ?_)
 case _=>simp
 case _=>simp [hza]
 case _=>simp
 case _=>simp
 case _=>simp [w1]
 case _ =>
  intro t w' L' hw hp hs
  simp [tupV]
  exact ⟨L',⟨hw,hp⟩,hs⟩
end
section
variable {α:Type} {C:α→List Value} {V:α→Value} {sz:Nat} {cI:α→α→Int} {fv:Value} {fc:FuncId} {ov:Ov}
set_option maxHeartbeats 2000000 in
theorem revD (m:Nat) (h:SD ov C V sz cI fv fc) (n c:Nat) (hn:n≤200) (a b:Nat) (hab:a≤b) (hbn:b≤n) (B:Nat) (w0:AW) (hl:w0.lim≤B) (L0:List α) (hL0:L0.length=n)
  (Q:Ex→Tm→AW→Prop) (t:Tm) (w:AW) (hw:InD C w0 B L0 w)
  (t0:tget t 0=.slice (some ⟨B,0,none⟩) n c) (t8:tget t 8=.int .i64 (a:Nat)) (t9:tget t 9=.int .i64 ((b:Int) - 1))
  (hQ:∀ t w L,InD C w0 B L w→Mv a b L0 L→Q (.exit 0) t w) :
  wp (exM Tryz.prog (run Tryz.prog ov (m + 1)) (.loop mc138_l0) t w) Q:=by
 refine wp_rounds (fun r t w=>∃ L,InD C w0 B L w∧Mv a b L0 L∧tget t 0=.slice (some ⟨B,0,none⟩) n c∧tget t 8=.int .i64 ((a + r:Nat):Int)∧tget t 9=.int .i64 ((b:Int) - 1 - (r:Int))∧a + r≤b) 300 (by decide) ⟨L0,hw,Mv.refl _ _ _,t0,t8,by simpa using t9,by omega⟩ ?_
 clear t0 t8 t9 hw
 rintro r t w ⟨L,hw,hp,t0,t8,t9,hr⟩
 have hlen:L.length=n:=by rw [hp.len,hL0]
 obtain ⟨z8,hz8⟩:∃ k:Int,k=((a + r:Nat):Int):=⟨_,rfl⟩
 obtain ⟨z9,hz9⟩:∃ k:Int,k=(b:Int) - 1 - (r:Int):=⟨_,rfl⟩
 rw [← hz8] at t8
 rw [← hz9] at t9
 by_cases hlt:z8 < z9
 ·obtain ⟨x,hx⟩:=at_get (L:=L) (i:=a + r) (by omega)
  obtain ⟨y,hy⟩:=at_get (L:=L) (i:=b - 1 - r) (by omega)
  have hz9':z9=((b - 1 - r:Nat):Int):=by omega
  have ixi:=h.ix (k:=a + r) (n:=n) (by omega) hz8 B c
  have ixj:=h.ix (k:=b - 1 - r) (n:=n) (by omega) hz9' B c
  have ldi:=h.ld hw hx
  have ldj:=h.ld hw hy
  have w1:IntKind.wrap .i64 (z8 + 1)=((a + (r + 1):Nat):Int):=by rw [wrap64_in (by omega) (by omega)]; omega
  have w2:IntKind.wrap .i64 (z9 - 1)=(b:Int) - 1 - ((r + 1:Nat):Int):=by rw [wrap64_in (by omega) (by omega)]; omega
  obtain ⟨w1',w2',s1,s2,hw2⟩:=InS.swap h.T hw hl hx hy
  simp [mc138_l0,t0,t8,t9,hlt,ixi,ixj,ldi,ldj,s1,s2,w1,w2, -ld131, -st131]
  exact ⟨by omega,_,hw2,hp.trans (Mv.swap hx hy (by omega) (by omega) (by omega) (by omega)),by omega⟩
 ·simp [mc138_l0,t0,t8,t9,hlt]
  exact hQ _ _ L hw hp
theorem call138 (m:Nat) (ho:∀ args w,ov 138 args w=none) (h:SD ov C V sz cI fv fc) (n c:Nat) (hn:n≤200) (a b:Nat) (hab:a≤b) (hbn:b≤n) (B:Nat) (L:List α) (hL:L.length=n) (w:AW) (hl:w.lim≤B) (hB:w.heap.get B=some (.cells (L.flatMap C) 131 false)) :
  ∃ x w',(run Tryz.prog ov (m + 2)).call 138 [.slice (some ⟨B,0,none⟩) n c,.int .i64 (a:Int),.int .i64 (b:Int),fv] w .none=.ok (.ret x) w' .none∧x=.tuple ⟨[]⟩∧∃ L',LeftD C w w' B a b L L':=by
 refine call_wp text138 (by simp) (ho _ _) ?_
 obtain ⟨za,hza⟩:∃ k:Int,k=(a:Int):=⟨_,rfl⟩
 obtain ⟨zb,hzb⟩:∃ k:Int,k=(b:Int):=⟨_,rfl⟩
 have w1:IntKind.wrap .i64 (zb - 1)=(b:Int) - 1:=by rw [wrap64_in (by omega) (by omega)]; omega
 rw [← hza,← hzb]
 simp [mc138]
 refine wp_blockX (revD m h n c hn a b hab hbn B w hl L hL _ _ _ (InS.refl hB) ?_ ?_ ?_ ?_)
 case _=>simp
 case _=>simp [hza]
 case _=>simp [w1]
 case _ =>
  intro t w' L' hw hp
  simp [tupV]
  exact ⟨L',hw,hp⟩
set_option maxHeartbeats 4000000 in
theorem siftD (m:Nat) (h:SD ov C V sz cI fv fc) (n c:Nat) (hn:n≤200) (f lo hi:Nat) (hf:f + hi≤n) (hlo:lo≤200) (B:Nat) (w0:AW) (hl:w0.lim≤B) (L0:List α) (hL0:L0.length=n) (hH:Heap (fun x y=>cI x y < 0) L0 f (lo + 1) hi)
  (Q:Ex→Tm→AW→Prop) (t:Tm) (w:AW) (hw:InD C w0 B L0 w)
  (t0:tget t 0=.slice (some ⟨B,0,none⟩) n c) (t2:tget t 2=.int .i64 (hi:Nat)) (t3:tget t 3=.int .i64 (f:Nat)) (t4:tget t 4=fv) (t10:tget t 10=.int .i64 (lo:Nat))
  (hQ:∀ t w L,InD C w0 B L w→Mv f (f + hi) L0 L→Heap (fun x y=>cI x y < 0) L f lo hi→Q (.exit 0) t w∧Q .ret t w) :
  wp (exM Tryz.prog (run Tryz.prog ov (m + 1)) (.loop mc162_l0) t w) Q:=by
 refine wp_rounds (fun r t w=>∃ L q,InD C w0 B L w∧Mv f (f + hi) L0 L∧Hp (fun x y=>cI x y < 0) L f lo hi q∧lo + r≤q∧q≤200∧tget t 0=.slice (some ⟨B,0,none⟩) n c∧tget t 2=.int .i64 (hi:Nat)∧tget t 3=.int .i64 (f:Nat)∧tget t 4=fv∧tget t 10=.int .i64 (q:Nat)) 300 (by decide) ⟨L0,lo,hw,Mv.refl _ _ _,Hp.start hH,by omega,hlo,t0,t2,t3,t4,t10⟩ ?_
 clear t0 t2 t3 t4 t10 hw
 rintro r t w ⟨L,q,hw,hp,hH,hq,hq2,t0,t2,t3,t4,t10⟩
 have hlen:L.length=n:=by rw [hp.len,hL0]
 obtain ⟨zh,hzh⟩:∃ k:Int,k=(hi:Int):=⟨_,rfl⟩
 obtain ⟨zf,hzf⟩:∃ k:Int,k=(f:Int):=⟨_,rfl⟩
 obtain ⟨zq,hzq⟩:∃ k:Int,k=(q:Int):=⟨_,rfl⟩
 obtain ⟨zc,hzc⟩:∃ k:Int,k=((2 * q + 1:Nat):Int):=⟨_,rfl⟩
 obtain ⟨zd,hzd⟩:∃ k:Int,k=((2 * q + 2:Nat):Int):=⟨_,rfl⟩
 obtain ⟨ze,hze⟩:∃ k:Int,k=((f + (2 * q + 1):Nat):Int):=⟨_,rfl⟩
 obtain ⟨zg,hzg⟩:∃ k:Int,k=((f + (2 * q + 2):Nat):Int):=⟨_,rfl⟩
 obtain ⟨zr,hzr⟩:∃ k:Int,k=((f + q:Nat):Int):=⟨_,rfl⟩
 rw [← hzh] at t2
 rw [← hzf] at t3
 rw [← hzq] at t10
 have e0:IntKind.wrap .i64 (2 * zq)=2 * zq:=wrap64_in (by omega) (by omega)
 have e1:IntKind.wrap .i64 (2 * zq + 1)=zc:=by rw [wrap64_in (by omega) (by omega)]; omega
 have e2:IntKind.wrap .i64 (zc + 1)=zd:=by rw [wrap64_in (by omega) (by omega)]; omega
 have e3:IntKind.wrap .i64 (zf + zc)=ze:=by rw [wrap64_in (by omega) (by omega)]; omega
 have e4:IntKind.wrap .i64 (ze + 1)=zg:=by rw [wrap64_in (by omega) (by omega)]; omega
 have e5:IntKind.wrap .i64 (zf + zd)=zg:=by rw [wrap64_in (by omega) (by omega)]; omega
 have e6:IntKind.wrap .i64 (zf + zq)=zr:=by rw [wrap64_in (by omega) (by omega)]; omega
 by_cases hc:2 * q + 1 < hi
 ·have hc':¬ zh≤zc:=by omega
  obtain ⟨x,hx⟩:=at_get (L:=L) (i:=f + q) (by omega)
  obtain ⟨y,hy⟩:=at_get (L:=L) (i:=f + (2 * q + 1)) (by omega)
  have ixr:=h.ix (k:=f + q) (n:=n) (by omega) hzr B c
  have ixe:=h.ix (k:=f + (2 * q + 1)) (n:=n) (by omega) hze B c
  have ldr:=h.ld hw hx
  have lde:=h.ld hw hy
  by_cases hd:2 * q + 2 < hi
  ·have hd':zd < zh:=by omega
   obtain ⟨z,hz⟩:=at_get (L:=L) (i:=f + (2 * q + 2)) (by omega)
   have ixg:=h.ix (k:=f + (2 * q + 2)) (n:=n) (by omega) hzg B c
   have ldg:=h.ld hw hz
   have cm1:=h.cm m w y z
   by_cases hyz:cI y z < 0
   ·have cm2:=h.cm m w x z
    by_cases hxz:cI x z < 0
    ·obtain ⟨w1,w2,s1,s2,hw2⟩:=InS.swap h.T hw hl hx hz
     simp [mc162_l0,t0,t2,t3,t4,t10,e0,e1,e2,e3,e4,e5,e6,hc',hd',ixr,ixe,ixg,ldr,lde,ldg,h.cv,cm1,cm2,hyz,hxz,s1,s2, -ld131, -st131]
     refine ⟨by omega,_,hw2,hp.trans (Mv.swap hx hz (by omega) (by omega) (by omega) (by omega)),2 * q + 2,hH.down h.wk (by omega) hx hz (.inr rfl) hd hxz (fun d u h1 h2 h3=>?_),by omega,by omega,by omega⟩
     rcases h1 with rfl | rfl
     ·rw [hy] at h3; cases h3; exact h.wk.asym hyz
     ·rw [hz] at h3; cases h3; exact h.wk.irr _
    ·simp [mc162_l0,t0,t2,t3,t4,t10,e0,e1,e2,e3,e4,e5,e6,hc',hd',ixr,ixe,ixg,ldr,lde,ldg,h.cv,cm1,cm2,hyz,hxz, -ld131, -st131]
     refine (hQ _ _ L hw hp (hH.stop fun d u v h1 h2 h3 h4=>?_)).2
     rw [hx] at h3; cases h3
     rcases h1 with rfl | rfl
     ·rw [hy] at h4; cases h4; exact fun k=>hxz (h.wk.lt_le k (h.wk.asym hyz))
     ·rw [hz] at h4; cases h4; exact hxz
   ·have cm2:=h.cm m w x y
    by_cases hxy:cI x y < 0
    ·obtain ⟨w1,w2,s1,s2,hw2⟩:=InS.swap h.T hw hl hx hy
     simp [mc162_l0,t0,t2,t3,t4,t10,e0,e1,e2,e3,e4,e5,e6,hc',hd',ixr,ixe,ixg,ldr,lde,ldg,h.cv,cm1,cm2,hyz,hxy,s1,s2, -ld131, -st131]
     refine ⟨by omega,_,hw2,hp.trans (Mv.swap hx hy (by omega) (by omega) (by omega) (by omega)),2 * q + 1,hH.down h.wk (by omega) hx hy (.inl rfl) hc hxy (fun d u h1 h2 h3=>?_),by omega,by omega,by omega⟩
     rcases h1 with rfl | rfl
     ·rw [hy] at h3; cases h3; exact h.wk.irr _
     ·rw [hz] at h3; cases h3; exact hyz
    ·simp [mc162_l0,t0,t2,t3,t4,t10,e0,e1,e2,e3,e4,e5,e6,hc',hd',ixr,ixe,ixg,ldr,lde,ldg,h.cv,cm1,cm2,hyz,hxy, -ld131, -st131]
     refine (hQ _ _ L hw hp (hH.stop fun d u v h1 h2 h3 h4=>?_)).2
     rw [hx] at h3; cases h3
     rcases h1 with rfl | rfl
     ·rw [hy] at h4; cases h4; exact hxy
     ·rw [hz] at h4; cases h4; exact fun k=>hxy (h.wk.lt_le k hyz)
  ·have hd':¬ zd < zh:=by omega
   have cm2:=h.cm m w x y
   by_cases hxy:cI x y < 0
   ·obtain ⟨w1,w2,s1,s2,hw2⟩:=InS.swap h.T hw hl hx hy
    simp [mc162_l0,t0,t2,t3,t4,t10,e0,e1,e2,e3,e4,e5,e6,hc',hd',ixr,ixe,ldr,lde,h.cv,cm2,hxy,s1,s2, -ld131, -st131]
    refine ⟨by omega,_,hw2,hp.trans (Mv.swap hx hy (by omega) (by omega) (by omega) (by omega)),2 * q + 1,hH.down h.wk (by omega) hx hy (.inl rfl) hc hxy (fun d u h1 h2 h3=>?_),by omega,by omega,by omega⟩
    rcases h1 with rfl | rfl
    ·rw [hy] at h3; cases h3; exact h.wk.irr _
    ·omega
   ·simp [mc162_l0,t0,t2,t3,t4,t10,e0,e1,e2,e3,e4,e5,e6,hc',hd',ixr,ixe,ldr,lde,h.cv,cm2,hxy, -ld131, -st131]
    refine (hQ _ _ L hw hp (hH.stop fun d u v h1 h2 h3 h4=>?_)).2
    rw [hx] at h3; cases h3
    rcases h1 with rfl | rfl
    ·rw [hy] at h4; cases h4; exact hxy
    ·omega
 ·have hc':zh≤zc:=by omega
  simp [mc162_l0,t0,t2,t3,t4,t10,e0,e1,hc']
  exact (hQ _ _ L hw hp (hH.stop fun d u v h1 h2=>by omega)).1
theorem call162 (m:Nat) (ho:∀ args w,ov 162 args w=none) (h:SD ov C V sz cI fv fc) (n c:Nat) (hn:n≤200) (f lo hi:Nat) (hf:f + hi≤n) (hlo:lo≤200) (B:Nat) (L:List α) (hL:L.length=n) (hH:Heap (fun x y=>cI x y < 0) L f (lo + 1) hi) (w:AW) (hl:w.lim≤B) (hB:w.heap.get B=some (.cells (L.flatMap C) 131 false)) :
  ∃ x w',(run Tryz.prog ov (m + 2)).call 162 [.slice (some ⟨B,0,none⟩) n c,.int .i64 (lo:Int),.int .i64 (hi:Int),.int .i64 (f:Int),fv] w .none=.ok (.ret x) w' .none∧x=.tuple ⟨[]⟩∧∃ L',LeftD C w w' B f (f + hi) L L'∧Heap (fun x y=>cI x y < 0) L' f lo hi:=by
 refine call_wp text162 (by simp) (ho _ _) ?_
 obtain ⟨za,hza⟩:∃ k:Int,k=(lo:Int):=⟨_,rfl⟩
 rw [← hza]
 simp [mc162]
 refine wp_blockX (siftD m h n c hn f lo hi hf hlo B w hl L hL hH _ _ _ (InS.refl hB) ?_ ?_ ?_ ?_ ?_ ?_)
 case _=>simp
 case _=>simp
 case _=>simp
 case _=>simp
 case _=>simp [hza]
 case _ =>
  intro t w' L' hw hp hh
  simp [tupV]
  exact ⟨L',⟨hw,hp⟩,hh⟩
end
section
variable {α:Type} {C:α→List Value} {V:α→Value} {sz:Nat} {cI:α→α→Int} {fv:Value} {fc:FuncId} {ov:Ov}
set_option maxHeartbeats 2000000 in
theorem heap1D (m:Nat) (h:SD ov C V sz cI fv fc) (n c:Nat) (hn:n≤200) (a b:Nat) (hab:a < b) (hbn:b≤n) (B:Nat) (w0:AW) (hl:w0.lim≤B) (L0:List α) (hL0:L0.length=n) (ho:∀ args w,ov 162 args w=none)
  (Q:Ex→Tm→AW→Prop) (t:Tm) (w:AW) (hw:InD C w0 B L0 w)
  (t0:tget t 0=.slice (some ⟨B,0,none⟩) n c) (t3:tget t 3=fv) (t8:tget t 8=.int .i64 (a:Nat)) (t9:tget t 9=.int .i64 0) (t10:tget t 10=.int .i64 ((b - a:Nat):Int)) (k0:Nat) (hk0:k0≤b - a) (hK:Heap (fun x y=>cI x y < 0) L0 a k0 (b - a)) (t11:tget t 11=.int .i64 ((k0:Int) - 1))
  (hQ:∀ t w L,InD C w0 B L w→Mv a b L0 L→Heap (fun x y=>cI x y < 0) L a 0 (b - a)→tget t 0=.slice (some ⟨B,0,none⟩) n c→tget t 3=fv→tget t 8=.int .i64 (a:Nat)→tget t 9=.int .i64 0→tget t 10=.int .i64 ((b - a:Nat):Int)→Q (.exit 0) t w) :
  wp (exM Tryz.prog (run Tryz.prog ov (m + 2)) (.loop mc135_l0) t w) Q:=by
 refine wp_rounds (fun r t w=>∃ L k,InD C w0 B L w∧Mv a b L0 L∧k + r=k0∧Heap (fun x y=>cI x y < 0) L a k (b - a)∧tget t 0=.slice (some ⟨B,0,none⟩) n c∧tget t 3=fv∧tget t 8=.int .i64 (a:Nat)∧tget t 9=.int .i64 0∧tget t 10=.int .i64 ((b - a:Nat):Int)∧tget t 11=.int .i64 ((k:Int) - 1)) 300 (by decide) ⟨L0,k0,hw,Mv.refl _ _ _,rfl,hK,t0,t3,t8,t9,t10,t11⟩ ?_
 clear t0 t3 t8 t9 t10 t11 hw
 rintro r t w ⟨L,k,hw,hp,hk,hH,t0,t3,t8,t9,t10,t11⟩
 have hlen:L.length=n:=by rw [hp.len,hL0]
 have hlm:=hw.lim
 obtain ⟨za,hza⟩:∃ k:Int,k=(a:Int):=⟨_,rfl⟩
 obtain ⟨zh,hzh⟩:∃ k:Int,k=((b - a:Nat):Int):=⟨_,rfl⟩
 rw [← hza] at t8
 rw [← hzh] at t10
 rcases Nat.eq_zero_or_pos k with rfl | hpos
 ·have e:((0:Nat):Int) - 1 = -1:=rfl
  rw [e] at t11
  simp [mc135_l0,t11]
  exact hQ _ _ L hw hp hH (by simp [t0]) (by simp [t3]) (by simp [t8,hza]) (by simp [t9]) (by simp [t10,hzh])
 ·obtain ⟨zk,hzk⟩:∃ z:Int,z=((k - 1:Nat):Int):=⟨_,rfl⟩
  have e1:(k:Int) - 1=zk:=by omega
  rw [e1] at t11
  have hge:0≤zk:=by omega
  have e2:IntKind.wrap .i64 (zk - 1)=((k - 1:Nat):Int) - 1:=by rw [wrap64_in (by omega) (by omega)]; omega
  obtain ⟨_,w',hc,rfl,L',⟨hi,hm⟩,hh⟩:=call162 m ho h n c hn a (k - 1) (b - a) (by omega) (by omega) B L hlen (by rw [show k - 1 + 1=k by omega]; exact hH) w (by omega) hw.row
  rw [← hzk,← hzh,← hza] at hc
  simp [mc135_l0,t0,t3,t8,t10,t11,hge,hc,e2]
  exact ⟨by omega,L',hw.trans hi,hp.trans (hm.widen (Nat.le_refl _) (by omega)),k - 1,by omega,hh,by simp [t9,hza,hzh]⟩
set_option maxHeartbeats 2000000 in
theorem heap2D (m:Nat) (h:SD ov C V sz cI fv fc) (n c:Nat) (hn:n≤200) (a b:Nat) (hab:a < b) (hbn:b≤n) (B:Nat) (w0:AW) (hl:w0.lim≤B) (L0:List α) (hL0:L0.length=n) (ho:∀ args w,ov 162 args w=none) (hH:Heap (fun x y=>cI x y < 0) L0 a 0 (b - a))
  (Q:Ex→Tm→AW→Prop) (t:Tm) (w:AW) (hw:InD C w0 B L0 w)
  (t0:tget t 0=.slice (some ⟨B,0,none⟩) n c) (t3:tget t 3=fv) (t8:tget t 8=.int .i64 (a:Nat)) (t9:tget t 9=.int .i64 0) (t12:tget t 12=.int .i64 (((b - a:Nat):Int) - 1))
  (hQ:∀ t w L,InD C w0 B L w→Mv a b L0 L→Srt (fun x y=>cI x y < 0) L a b→Q (.exit 2) t w) :
  wp (exM Tryz.prog (run Tryz.prog ov (m + 2)) (.loop mc135_l1) t w) Q:=by
 refine wp_rounds (fun r t w=>∃ L k,InD C w0 B L w∧Mv a b L0 L∧k + r=b - a∧Heap (fun x y=>cI x y < 0) L a 0 k∧Srt (fun x y=>cI x y < 0) L (a + k) b∧Crs cI L a (a + k) b∧tget t 0=.slice (some ⟨B,0,none⟩) n c∧tget t 3=fv∧tget t 8=.int .i64 (a:Nat)∧tget t 9=.int .i64 0∧tget t 12=.int .i64 ((k:Int) - 1)) 300 (by decide) ⟨L0,b - a,hw,Mv.refl _ _ _,rfl,hH,Srt.one _ (by omega),fun p q x y h1 h2 h3 h4=>by omega,t0,t3,t8,t9,t12⟩ ?_
 clear t0 t3 t8 t9 t12 hw
 rintro r t w ⟨L,k,hw,hp,hk,hH,hS,hC,t0,t3,t8,t9,t12⟩
 have hlen:L.length=n:=by rw [hp.len,hL0]
 have hlm:=hw.lim
 obtain ⟨za,hza⟩:∃ k:Int,k=(a:Int):=⟨_,rfl⟩
 rw [← hza] at t8
 rcases Nat.eq_zero_or_pos k with rfl | hpos
 ·have e:((0:Nat):Int) - 1 = -1:=rfl
  rw [e] at t12
  simp [mc135_l1,t12]
  exact hQ _ _ L hw hp hS
 ·obtain ⟨i,rfl⟩:∃ i,k=i + 1:=⟨k - 1,by omega⟩
  obtain ⟨zk,hzk⟩:∃ z:Int,z=(i:Int):=⟨_,rfl⟩
  obtain ⟨zm,hzm⟩:∃ z:Int,z=((a + i:Nat):Int):=⟨_,rfl⟩
  have e1:((i + 1:Nat):Int) - 1=zk:=by omega
  rw [e1] at t12
  have hge:0≤zk:=by omega
  have e2:IntKind.wrap .i64 (zk - 1)=(i:Int) - 1:=by rw [wrap64_in (by omega) (by omega)]; omega
  have e3:IntKind.wrap .i64 (za + zk)=zm:=by rw [wrap64_in (by omega) (by omega)]; omega
  obtain ⟨x,hx⟩:=at_get (L:=L) (i:=a) (by omega)
  obtain ⟨y,hy⟩:=at_get (L:=L) (i:=a + i) (by omega)
  have ixa:=h.ix (k:=a) (n:=n) (by omega) hza B c
  have ixm:=h.ix (k:=a + i) (n:=n) (by omega) hzm B c
  have lda:=h.ld hw hx
  have ldm:=h.ld hw hy
  obtain ⟨w1,w2,s1,s2,hw2⟩:=InS.swap h.T hw hl hx hy
  have hlm2:=hw2.lim
  obtain ⟨g1,g2,g3⟩:=Heap.take h.wk (f:=a) (i:=i) (n:=b - a) hH hx hy (by omega) (by omega) (by rw [show a + i + 1=a + (i + 1) by omega,show a + (b - a)=b by omega]; exact hS) (fun p q u v h1 h2 h3 h4 hu hv=>hC p q u v h1 (by omega) (by omega) (by omega) hu hv)
  obtain ⟨_,w',hc,rfl,L',⟨hi,hm⟩,hh⟩:=call162 m ho h n c hn a 0 i (by omega) (by omega) B (swp L a (a + i) x y) (by simp [hlen]) g1 w2 (by omega) hw2.row
  rw [← hzk,← hza] at hc
  rw [show a + (b - a)=b by omega] at g2 g3
  simp only [Int.natCast_zero] at hc
  simp [mc135_l1,t0,t3,t8,t9,t12,hge,hc,e2,e3,ixa,ixm,lda,ldm,s1,s2, -ld131, -st131]
  exact ⟨by omega,L',hw2.trans hi,(hp.trans (Mv.swap hx hy (by omega) (by omega) (by omega) (by omega))).trans (hm.widen (Nat.le_refl _) (by omega)),i,by omega,hh,g2.out hm (.inr (Nat.le_refl _)),(show Crs cI (swp L a (a + i) x y) a (a + i) b from g3).mv_left hm,by simp [t9,hza]⟩
theorem call135 (m:Nat) (ho:∀ args w,ov 135 args w=none) (ho2:∀ args w,ov 162 args w=none) (h:SD ov C V sz cI fv fc) (n c:Nat) (hn:n≤200) (a b:Nat) (hab:a < b) (hbn:b≤n) (B:Nat) (L:List α) (hL:L.length=n) (w:AW) (hl:w.lim≤B) (hB:w.heap.get B=some (.cells (L.flatMap C) 131 false)) :
  ∃ x w',(run Tryz.prog ov (m + 3)).call 135 [.slice (some ⟨B,0,none⟩) n c,.int .i64 (a:Int),.int .i64 (b:Int),fv] w .none=.ok (.ret x) w' .none∧x=.tuple ⟨[]⟩∧∃ L',LeftD C w w' B a b L L'∧Srt (fun x y=>cI x y < 0) L' a b:=by
 refine call_wp text135 (by simp) (ho _ _) ?_
 obtain ⟨za,hza⟩:∃ k:Int,k=(a:Int):=⟨_,rfl⟩
 obtain ⟨zb,hzb⟩:∃ k:Int,k=(b:Int):=⟨_,rfl⟩
 obtain ⟨zh,hzh⟩:∃ k:Int,k=((b - a:Nat):Int):=⟨_,rfl⟩
 have w1:IntKind.wrap .i64 (zb - za)=zh:=by rw [wrap64_in (by omega) (by omega)]; omega
 have w2:IntKind.wrap .i64 (zh - 1)=zh - 1:=wrap64_in (by omega) (by omega)
 have w3:IntKind.wrap .i64 ((zh - 1).tdiv 2)=(((b - a - 1) / 2 + 1:Nat):Int) - 1:=by
  rw [Int.tdiv_eq_ediv_of_nonneg (by omega),wrap64_in (by omega) (by omega)]
  omega
 rw [← hza,← hzb]
 simp [mc135,w1,w2,w3,bin_quo]
 refine wp_seqX (wp_blockX (heap1D m h n c hn a b hab hbn B w hl L hL ho2 _ _ _ (InS.refl hB) ?_ ?_ ?_ ?_ ?_ ((b - a - 1) / 2 + 1) (by omega) (Heap.half _ (by omega)) ?_ ?_))
 case _=>simp
 case _=>simp
 case _=>simp [hza]
 case _=>simp
 case _=>simp [hzh]
 case _=>simp
 case _ =>
  intro t w' L' hw hp hh s0 s3 s8 s9 s10
  rw [← hzh] at s10
  simp [s10,w2]
  have hlm:=hw.lim
  refine wp_blockX (heap2D m h n c hn a b hab hbn B w hl L' (by rw [hp.len,hL]) ho2 hh _ _ _ hw ?_ ?_ ?_ ?_ ?_ ?_)
  case _=>simp [s0]
  case _=>simp [s3]
  case _=>simp [s8]
  case _=>simp [s9]
  case _=>simp [hzh]
  case _ =>
   intro t w'' L'' hw'' hp'' hs
   simp [tupV]
   exact ⟨L'',⟨hw'',hp.trans hp''⟩,hs⟩
end
end Go.Proofs.YthihnhgdbfcabaaGreatDoor.walk
