/-
  rostellumtop.TopCured (ripe pods of a harvest, cured by acts that surely reach a limit with a box whose weight is all that the harvest can weigh, have a moisture within the limit, whatever pods truly weighed and lost) answers true whatever the batch and the numbers are, and they read behind the call as before.
  Conditions: those of the given row alone (its listed variables of the program hold what their initialisers lay; the card ties them to the text of the program).
  How: a machine of its own (the texts Sh) is proved to say of each call what the model does, whatever order is drawn; each function of the pods and of the cure is said by a function or a relation (TPW, TQW, TCW), and these are put together (TGW). That the yield that a truth gives lies within what Weigh says is arithmetic (TQY, TGN), that a truth of weights lies within the spans of Weights too (TCM, TCC).
-/
import Derived.Test.YtabiiddijccmdaaDoorTg
import Derived.Test.YtabiiddijccmdaaDoorTc
import Derived.KernelRfl
import Derived.Test.YtabiiddijccmdaaDoorShF
import Derived.Test.YtabiiddijccmdaaDoorCards
import Derived.Test.YtabiiddijccmdaaDoorTie
import Derived.WalkKit
import Derived.ProofKit
import Derived.OpenShut
import Derived.Deep.DeepHandedRow
import Derived.Deep.DeepWitnessRowRef
set_option linter.all false
namespace Go.Proofs.YtabiiddijccmdaaDoor.walk
open Go Go.Sh
set_option maxRecDepth 100000
/-! TopCured: from the truth on -/
section
variable {ov:Ov} {b0:Nat} {lv pv rv dv av bv:Value} {l:List Pod} {pl:List Int} {r:List CAct} {d:List CDay} {acts bits:List Int} {so li:Sp} {w w':AW}
theorem rest4 (m:Nat) (hn:No5 ov) (h39:HasP ov 39 S39.F) (h46:HasP ov 46 S46.F) (h82:HasP ov 82 S82.F) (h10:HasP ov 10 F10) (h11:HasP ov 11 F11w) (h12:HasP ov 12 F12) (hq:HasQ ov) (hB:Bt b0 lv pv rv dv av bv l pl r d acts bits so li w) (hlw:w.lim≤w.next) (hbits:bits.length≤2 ^ 60) (is:Bool) (b:CBox) (v10:Value) (ws y1 y2 y3:Int) (n7 n8:Nat) (hn7:n7 < w.next) (hn8:n8 < w.next)
  (hso:b.sl=so.1∧b.sh=so.2) (hA:actE r d b acts=0) (g7:w.heap.get n7=some (.cells [.int .i64 ws,.int .i64 y1,.int .i64 y2,.int .i64 y3] 53 false)) (g8:w.heap.get n8=some (.cells (boxC b) 68 false))
  (hwe:weiE r d b acts []=0→∃ V,weighF b (lossL r acts) []=some V∧ProcV w v10 (V.take ((lossL r acts).length + 1))) (hsu:is=true→surB b (lossL r acts) li=true) (Q:Ex→Tm→AW→Prop) (t:Tm)
  (t1:tget t 1=bv) (t2:tget t 2=.pointer (some ⟨b0,0,none⟩)) (t7:tget t 7=.pointer (some ⟨n7,0,none⟩)) (t8:tget t 8=.pointer (some ⟨n8,0,none⟩)) (t9:tget t 9=.bool is) (t10:tget t 10=v10) (t11:tget t 11=.int .i64 (weiE r d b acts []))
  (hQ:∀ t w',tget t 4=.bool true→Q .ret t w'):wp (exM Tryd.prog (run Tryd.prog ov (m + 3)) mc4_r4 t w) Q:=by
 obtain ⟨_,_,hbb,_⟩:=act_ofE hA
 simp only [boxB,spanI,Bool.and_eq_true,decide_eq_true_eq] at hbb
 have hbox:=hB.box
 have hlt:=hB.lt
 have hbl:=hB.hl
 have wz:IntKind.wrap .i64 0=0:=by decide
 have r12:=rule12m (fm:=m + 2) h12 0 (hB.bt.up ((Up.refl w).add (some (.cells [.int .i64 0,.int .i64 0,.slice none 0 0] 75 false)))) hbits
 have r11:=fun w=>r11w h11 (lo:=so.1) (hi:=so.2) (nthI bits 0) (by omega) (by omega) (m + 2) w
 have m1:¬ n7=w.next:=by omega
 have m2:¬ b0=w.next:=by omega
 have m3:¬ n8=w.next:=by omega
 obtain ⟨w2,hw2⟩:∃ w2:AW,w2=⟨(w.heap.put w.next (some (.cells [.int .i64 0,.int .i64 0,.slice none 0 0] 75 false))).put w.next (some (.cells [.int .i64 ws,.int .i64 (withI so.1 so.2 (nthI bits 0)),.slice none 0 0] 75 false)),w.next + 1,w.lim⟩:=⟨_,rfl⟩
 have u2:Up w w2:=by rw [hw2]; exact ((Up.refl w).add _).put (Nat.le_refl _) (Nat.le_refl _)
 have n2:w2.next=w.next + 1:=by rw [hw2]
 have g2:w2.heap.get w.next=some (.cells [.int .i64 ws,.int .i64 (withI so.1 so.2 (nthI bits 0)),.slice none 0 0] 75 false):=by rw [hw2]; simp
 have key:=fun Q t=>loop4a (ov:=ov) (m + 2) h10 h11 h12 hB hlw hbits hA ws (withI so.1 so.2 (nthI bits 0)) (.pointer (some ⟨n8,0,none⟩)) (.bool is) v10 (.int .i64 (weiE r d b acts [])) Q t w2 u2 (by omega) g2
 simp only [hw2] at key
 simp [mc4_r4,t1,t2,t7,hbox,g7,r12,r11,m1,m2,m3,hlw,sameN_int]
 refine wp_seqX (wp_blockX (key _ _ (by simp [t1]) (by simp [t2]) (by simp [t8]) (by simp [t9]) (by simp [t10]) (by simp [t11]) (by simp) (by simp) ?_))
 intro t w3 v ls hu hnx g12 hls t2 t8 t9 t10 t11 t12
 refine rest5 m hn h39 h46 h82 h10 hq (hB.up hu) (by have:=hu.lim; have:=hu.next; omega) is b v10 ws _ ls v n8 w.next hA (by rw [hu.at hn8]; exact g8) g12 hls (fun h0=>?_) hsu Q t t2 t8 t9 t10 t11 t12 hQ
 obtain ⟨V,h1,B,h2,h3,h4⟩:=hwe h0
 exact ⟨V,h1,B,h2,by rw [hu.at h4]; exact h3,Nat.lt_of_lt_of_le h4 hu.next⟩
end
def S17:PSpec where
 R args w v:=∃ (rv dv av:Value) (r:List CAct) (d:List CDay) (b:CBox) (acts:List Int) (lim:Sp),args=[rv,dv,.agg ⟨boxC b⟩,av,.agg ⟨spC lim⟩]∧RowsV actC w rv r∧RowsV cdayC w dv d∧RowsV intC w av acts∧LimW w∧w.lim≤w.next∧v=reachR r d b acts lim
 uniq:=by
  rintro _ _ _ _ ⟨_,_,_,r,d,⟨_,_,_,_⟩,acts,⟨_,_⟩,rfl,h1,h2,h3,_,_,rfl⟩ ⟨_,_,_,r',d',⟨_,_,_,_⟩,acts',⟨_,_⟩,h,k1,k2,k3,_,_,rfl⟩
  cases h
  rw [h1.uniq (m:=7) actC_length actC_inj k1,h2.uniq (m:=3) cdayC_length cdayC_inj k2,h3.uniq (m:=1) intC_length intC_inj k3]
 shut:=fun ⟨a1,a2,a3,a4,a5,a6,a7,a8,h1,h2,h3,h4,h5,_,h6⟩=>⟨a1,a2,a3,a4,a5,a6,a7,a8,h1,h2,h3,h4,h5,Nat.le_refl _,h6⟩
structure No2 (ov:Ov):Prop where
 n5:No5 ov
 o18:∀ args w,ov 18 args w=none
 o43:∀ args w,ov 43 args w=none
 o44:∀ args w,ov 44 args w=none
structure Has2 (ov:Ov):Prop where
 h39:HasP ov 39 S39.F
 h46:HasP ov 46 S46.F
 h82:HasP ov 82 S82.F
 h45:HasP ov 45 S45.F
 h79:HasP ov 79 S79.F
 h77:HasP ov 77 S77.F
 h17:HasP ov 17 S17.F
 h10:HasP ov 10 F10
 h11:HasP ov 11 F11w
 h12:HasP ov 12 F12
 hq:HasQ ov
section
variable {ov:Ov} {b0:Nat} {lv pv rv dv av bv:Value} {l:List Pod} {pl:List Int} {r:List CAct} {d:List CDay} {acts bits:List Int} {so li:Sp} {w w':AW}
theorem rest3 (m:Nat) (hn:No2 ov) (hh:Has2 ov) (hB:Bt b0 lv pv rv dv av bv l pl r d acts bits so li w) (hlw:w.lim≤w.next) (hbits:bits.length≤2 ^ 60) (is:Bool) (e:Int) (b:CBox) (v10:Value) (ws y1 y2 y3:Int) (n7 n8:Nat) (hn7:n7 < w.next) (hn8:n8 < w.next)
  (hso:b.sl=so.1∧b.sh=so.2) (hA:e=0→actE r d b acts=0) (g7:w.heap.get n7=some (.cells [.int .i64 ws,.int .i64 y1,.int .i64 y2,.int .i64 y3] 53 false)) (g8:w.heap.get n8=some (.cells (boxC b) 68 false))
  (hwe:weiE r d b acts []=0→∃ V,weighF b (lossL r acts) []=some V∧ProcV w v10 (V.take ((lossL r acts).length + 1))) (hsu:is=true→surB b (lossL r acts) li=true) (Q:Ex→Tm→AW→Prop) (t:Tm)
  (t1:tget t 1=bv) (t2:tget t 2=.pointer (some ⟨b0,0,none⟩)) (t6:tget t 6=.int .i64 e) (t7:tget t 7=.pointer (some ⟨n7,0,none⟩)) (t8:tget t 8=.pointer (some ⟨n8,0,none⟩)) (t9:tget t 9=.bool is) (t10:tget t 10=v10) (t11:tget t 11=.int .i64 (weiE r d b acts []))
  (hQ:∀ t w',tget t 4=.bool true→Q .ret t w'):wp (exM Tryd.prog (run Tryd.prog ov (m + 3)) mc4_r3 t w) Q:=by
 have hbox:=hB.box
 have r15:=ruleQ hh.hq hB.lim.1 hB.parts.1 (m + 2)
 have hla:=fun w'=>len27V hB.a w'
 obtain ⟨za,hza⟩:∃ z:Int,z=(acts.length:Int):=⟨_,rfl⟩
 rw [← hza] at hla
 by_cases he:e=0
 ·by_cases hgt:14 < za
  ·simp [mc4_r3,t2,t6,he,hbox,hla,hgt,r15]
   exact hQ _ _ (by simp)
  ·simp [mc4_r3,t2,t6,he,hbox,hla,hgt]
   exact rest4 m hn.n5 hh.h39 hh.h46 hh.h82 hh.h10 hh.h11 hh.h12 hh.hq hB hlw hbits is b v10 ws y1 y2 y3 n7 n8 hn7 hn8 hso (hA he) g7 g8 hwe hsu Q _ (by simp [t1]) (by simp [t2]) (by simp [t7]) (by simp [t8]) (by simp [t9]) (by simp [t10]) (by simp [t11]) hQ
 ·simp [mc4_r3,t2,t6,he,r15]
  exact hQ _ _ (by simp)
theorem rest2 (m:Nat) (hn:No2 ov) (hh:Has2 ov) (hB:Bt b0 lv pv rv dv av bv l pl r d acts bits so li w) (hlw:w.lim≤w.next) (hbits:bits.length≤2 ^ 60) (lo hi p2 p3 p4 p5 ws y1 y2 y3:Int) (n5 n7:Nat) (hn5:n5 < w.next) (hn7:n7 < w.next)
  (g5:w.heap.get n5=some (.cells [.int .i64 lo,.int .i64 hi,.int .i64 p2,.int .i64 p3,.int .i64 p4,.int .i64 p5] 63 false)) (g7:w.heap.get n7=some (.cells [.int .i64 ws,.int .i64 y1,.int .i64 y2,.int .i64 y3] 53 false)) (Q:Ex→Tm→AW→Prop) (t:Tm)
  (t1:tget t 1=bv) (t2:tget t 2=.pointer (some ⟨b0,0,none⟩)) (t5:tget t 5=.pointer (some ⟨n5,0,none⟩)) (t7:tget t 7=.pointer (some ⟨n7,0,none⟩))
  (hQ:∀ t w',tget t 4=.bool true→Q .ret t w'):wp (exM Tryd.prog (run Tryd.prog ov (m + 3)) mc4_r2 t w) Q:=by
 have hbox:=hB.box
 have hlt:=hB.lt
 have hbl:=hB.hl
 obtain ⟨b,hb⟩:∃ b:CBox,b=⟨lo,hi,so.1,so.2⟩:=⟨_,rfl⟩
 have hbC:boxC b=[.int .i64 lo,.int .i64 hi,.int .i64 so.1,.int .i64 so.2]:=by rw [hb]; rfl
 obtain ⟨w1,hw1⟩:∃ w1:AW,w1=⟨(w.heap.put w.next (some (.cells [.int .i64 0,.int .i64 0,.int .i64 0,.int .i64 0] 68 false))).put w.next (some (.cells [.int .i64 lo,.int .i64 hi,.int .i64 so.1,.int .i64 so.2] 68 false)),w.next + 1,w.lim⟩:=⟨_,rfl⟩
 have u1:Up w w1:=by rw [hw1]; exact ((Up.refl w).add _).put (Nat.le_refl _) (Nat.le_refl _)
 have n1:w1.next=w.next + 1:=by rw [hw1]
 have l1:w1.lim=w.lim:=by rw [hw1]
 have g8:w1.heap.get w.next=some (.cells (boxC b) 68 false):=by rw [hbC,hw1]; simp
 have hB1:=hB.up u1
 have c17:=S17.call (P:=Tryd.prog) (m:=m + 2) hh.h17 (args:=[rv,dv,.agg ⟨boxC b⟩,av,.agg ⟨spC li⟩]) (w:=w1) ⟨rv,dv,av,r,d,b,acts,li,rfl,hB1.r,hB1.d,hB1.a,hB1.lim,by omega,rfl⟩
 obtain ⟨x,w2,c18,⟨v1,rfl,hne,hwe⟩,u2⟩:=call18 (ov:=ov) m hn.o18 hn.n5.o41 hn.o43 hn.o44 hh.h45 hh.h79 hh.h77 r d b acts [] rv dv av (.slice none 0 0) w1 (by omega) hB1.lim hB1.r hB1.d hB1.a (.inl ⟨rfl,none,0,rfl⟩)
 have nj:notJunk v1=some v1:=by
  by_cases h0:weiE r d b acts []=0
  ·obtain ⟨V,_,B,rfl,_⟩:=hwe h0
   rfl
  ·rw [hne h0]; rfl
 have m1:¬ b0=w.next:=by omega
 have m2:¬ n5=w.next:=by omega
 have u02:=u1.trans u2
 have fin:∀ (is:Bool) (e:Int) (t:Tm),(e=0→actE r d b acts=0)→(is=true→surB b (lossL r acts) li=true)→tget t 1=bv→tget t 2=.pointer (some ⟨b0,0,none⟩)→tget t 6=.int .i64 e→tget t 7=.pointer (some ⟨n7,0,none⟩)→tget t 8=.pointer (some ⟨w.next,0,none⟩)→tget t 9=.bool is→tget t 10=v1→tget t 11=.int .i64 (weiE r d b acts [])→wp (exM Tryd.prog (run Tryd.prog ov (m + 3)) mc4_r3 t w2) Q:=fun is e t hA hS t1 t2 t6 t7 t8 t9 t10 t11 =>
  rest3 m hn hh (hB.up u02) (by have:=u02.lim; have:=u02.next; omega) hbits is e b v1 ws y1 y2 y3 n7 w.next (Nat.lt_of_lt_of_le hn7 u02.next) (by have:=u2.next; omega) (by rw [hb]; exact ⟨rfl,rfl⟩) hA (by rw [u02.at hn7]; exact g7) (by rw [u2.at (by omega)]; exact g8) hwe hS Q t t1 t2 t6 t7 t8 t9 t10 t11 hQ
 rw [hbC] at c17 c18
 simp only [spC] at c17
 rw [hw1] at c17 c18
 unfold reachR at c17
 by_cases hA:actE r d b acts=0
 ·rw [if_pos hA] at c17
  by_cases hs:spanI li.1 li.2 0 1000=true
  ·rw [if_pos hs] at c17
   obtain ⟨is,his⟩:∃ is,is=surB b (lossL r acts) li:=⟨_,rfl⟩
   rw [← his] at c17
   simp [mc4_r2,t2,t5,hbox,g5,m1,m2,hlw,c17,c18,nj]
   exact fin is 0 _ (fun _=>hA) (fun h=>by rw [← his]; exact h) (by simp [t1]) (by simp [t2]) (by simp) (by simp [t7]) (by simp) (by simp) (by simp) (by simp)
  ·rw [if_neg hs] at c17
   simp [mc4_r2,t2,t5,hbox,g5,m1,m2,hlw,c17,c18,nj]
   exact fin false 7 _ (fun h=>by omega) (fun h=>by cases h) (by simp [t1]) (by simp [t2]) (by simp) (by simp [t7]) (by simp) (by simp) (by simp) (by simp)
 ·rw [if_neg hA] at c17
  simp [mc4_r2,t2,t5,hbox,g5,m1,m2,hlw,c17,c18,nj]
  exact fin false (actE r d b acts) _ (fun h=>h) (fun h=>by cases h) (by simp [t1]) (by simp [t2]) (by simp) (by simp [t7]) (by simp) (by simp) (by simp) (by simp)
end
section
variable {ov:Ov} {b0:Nat} {lv pv rv dv av bv:Value} {l:List Pod} {pl:List Int} {r:List CAct} {d:List CDay} {acts bits:List Int} {so li:Sp} {w w':AW}
theorem rest1 (m:Nat) (hn:No2 ov) (o16:∀ args w,ov 16 args w=none) (hh:Has2 ov) (h13:HasP ov 13 F13) (hB:Bt b0 lv pv rv dv av bv l pl r d acts bits so li w) (hlw:w.lim≤w.next) (hbits:bits.length≤2 ^ 60) (hc:chkE l pl=0) (n5:Nat) (hn5:n5 < w.next)
  (g5:w.heap.get n5=some (.cells (wgC l pl) 63 false)) (Q:Ex→Tm→AW→Prop) (t:Tm)
  (t1:tget t 1=bv) (t2:tget t 2=.pointer (some ⟨b0,0,none⟩)) (t5:tget t 5=.pointer (some ⟨n5,0,none⟩))
  (hQ:∀ t w',tget t 4=.bool true→Q .ret t w'):wp (exM Tryd.prog (run Tryd.prog ov (m + 3)) mc4_r1 t w) Q:=by
 have hbox:=hB.box
 have hlt:=hB.lt
 have hbl:=hB.hl
 obtain ⟨hpB,hpP⟩:=chk_zero hc
 obtain ⟨w1,hw1⟩:∃ w1:AW,w1=⟨w.heap.put w.next (some (.cells [.int .i64 0,.int .i64 0,.int .i64 0,.int .i64 0] 53 false)),w.next + 1,w.lim⟩:=⟨_,rfl⟩
 have u1:Up w w1:=by rw [hw1]; exact (Up.refl w).add _
 have n1:w1.next=w.next + 1:=by rw [hw1]
 have l1:w1.lim=w.lim:=by rw [hw1]
 have hB1:=hB.up u1
 obtain ⟨x,w2,c16,vr,vh,vg,rfl,hr,hhh,hg,ho2,nx2,lm2⟩:=call16 (ov:=ov) (fm:=m + 1) o16 hh.h12 (weak11 hh.h11) bv lv bits l w1 (by omega) hB1.l hB1.bt hbits hpB
 have u2:Up w1 w2:=⟨ho2,nx2,lm2⟩
 have u02:=u1.trans u2
 have hB2:=hB.up u02
 have hbox2:=hB2.box
 have c13:=rule13 h13 hB2.parts hB2.l.podsIn hB2.p hr hhh hg (m + 2)
 have hT:=choose_truth hpB bits
 have e0:harE l pl (pk (fR bits) l l.length) (pk (fH bits) l l.length) (pk (fG bits) l l.length)=0:=by unfold harE; rw [if_pos hc,hT]; rfl
 have ey:harY l pl (pk (fR bits) l l.length) (pk (fH bits) l l.length) (pk (fG bits) l l.length)=sumYl (ysH l pl (pk (fR bits) l l.length) (pk (fH bits) l l.length) (pk (fG bits) l l.length)):=by unfold harY; rw [if_pos e0]
 have hlies:=lies hpB hpP hT
 rw [e0,ey] at c13
 obtain ⟨y,hy⟩:∃ y,y=sumYl (ysH l pl (pk (fR bits) l l.length) (pk (fH bits) l l.length) (pk (fG bits) l l.length)):=⟨_,rfl⟩
 rw [← hy] at c13 hlies
 obtain ⟨w3,hw3⟩:∃ w3:AW,w3=⟨w2.heap.put w.next (some (.cells (ylC y) 53 false)),w2.next,w2.lim⟩:=⟨_,rfl⟩
 have u3:Up w w3:=by
  rw [hw3]
  exact ⟨fun b hb=>by show (w2.heap.put _ _).get b=_; rw [get_put,if_neg (by omega)]; exact u02.at hb,u02.next,u02.lim⟩
 have hB3:=hB.up u3
 have g7:w3.heap.get w.next=some (.cells (ylC y) 53 false):=by rw [hw3]; simp
 have g53:=u3.at hn5
 rw [g5] at g53
 have g72:w2.heap.get w.next=some (.cells [.int .i64 0,.int .i64 0,.int .i64 0,.int .i64 0] 53 false):=by rw [u2.at (by omega),hw1]; simp
 obtain ⟨a1,k1,e1⟩:=hB.l.len
 obtain ⟨a2,k2,e2⟩:=hB.p.len
 have sl:sameVal 5 lv lv=true:=by rw [e1]; exact sameN_slice 4 _ _ _
 have sp:sameVal 5 pv pv=true:=by rw [e2]; exact sameN_slice 4 _ _ _
 have m1:¬ b0=w.next:=by omega
 have l2:w2.lim≤w.next:=by omega
 have n3:w3.next=w2.next:=by rw [hw3]
 have l3:w3.lim=w2.lim:=by rw [hw3]
 have hI:inI (loS l pl).ripe y.ripe (hiS l pl).ripe=true:=by simp only [inI,Bool.and_eq_true,decide_eq_true_eq]; exact hlies.1
 have r10:=fun w=>r10m hh.h10 (m + 2) y.ripe (loS l pl).ripe (hiS l pl).ripe w
 rw [hI] at r10
 have fin:∀ t:Tm,tget t 1=bv→tget t 2=.pointer (some ⟨b0,0,none⟩)→tget t 5=.pointer (some ⟨n5,0,none⟩)→tget t 7=.pointer (some ⟨w.next,0,none⟩)→wp (exM Tryd.prog (run Tryd.prog ov (m + 3)) mc4_r2 t w3) Q:=fun t t1 t2 t5 t7 =>
  rest2 m hn hh hB3 (by omega) hbits (loS l pl).ripe (hiS l pl).ripe _ _ _ _ y.ripe y.green y.split y.left n5 w.next (Nat.lt_of_lt_of_le hn5 u3.next) (by omega) g53 g7 Q t t1 t2 t5 t7 hQ
 simp only [wgC] at g53
 simp only [ylC] at c13 fin hw3
 rw [hw3] at g53 fin
 simp only at g53
 rw [hw1] at c16
 simp [mc4_r1,t1,t2,t5,hbox,m1,sl,sp,c16,hbox2,c13,g72,l2,g53,r10]
 exact fin _ (by simp [t1]) (by simp [t2]) (by simp [t5]) (by simp)
end
section
variable {ov:Ov} {lv pv rv dv av bv:Value} {l:List Pod} {pl:List Int} {r:List CAct} {d:List CDay} {acts bits:List Int} {so li:Sp} {w:AW}
theorem whole4 (m:Nat) (hn:No2 ov) (o16:∀ args w,ov 16 args w=none) (hh:Has2 ov) (h13:HasP ov 13 F13) (h14:HasP ov 14 F14) (hl:w.lim≤w.next) (hn4:4≤w.next) (hLi:LimAt w) (hPa:PartsAt w) (hbits:bits.length≤2 ^ 60)
  (h1:PodsV w lv l) (h2:RowsV intC w pv pl) (h3:RowsV actC w rv r) (h4:RowsV cdayC w dv d) (h5:RowsV intC w av acts) (h6:RowsV intC w bv bits) (Q:Ex→Tm→AW→Prop) (t:Tm)
  (t0:tget t 0=.agg ⟨[lv,pv,rv,dv,.int .i64 so.1,.int .i64 so.2,av,.int .i64 li.1,.int .i64 li.2]⟩) (t1:tget t 1=bv) (hQ:∀ t w',tget t 4=.bool true→Q .ret t w') :
  wp (exM Tryd.prog (run Tryd.prog ov (m + 3)) mc4 t w) Q:=by
 obtain ⟨w1,hw1⟩:∃ w1:AW,w1=⟨w.heap.put w.next (some (.cells [lv,pv,rv,dv,.int .i64 so.1,.int .i64 so.2,av,.int .i64 li.1,.int .i64 li.2] 61 false)),w.next + 1,w.lim⟩:=⟨_,rfl⟩
 have u1:Up w w1:=by rw [hw1]; exact (Up.refl w).add _
 have n1:w1.next=w.next + 1:=by rw [hw1]
 have l1:w1.lim=w.lim:=by rw [hw1]
 have hb1:w1.heap.get w.next=some (.cells [lv,pv,rv,dv,.int .i64 so.1,.int .i64 so.2,av,.int .i64 li.1,.int .i64 li.2] 61 false):=by rw [hw1]; simp
 have hPW:PartsW w:=⟨hPa,by omega⟩
 have hLW:LimW w:=⟨hLi,by omega⟩
 have hB1:Bt w.next lv pv rv dv av bv l pl r d acts bits so li w1:=⟨hb1,by omega,h1.old u1.old u1.next,h2.up u1,h3.up u1,h4.up u1,h5.up u1,h6.up u1,hPW.old u1.old u1.next,hLW.up u1,by omega⟩
 have c14:=rule14 h14 hB1.parts hB1.l.podsIn hB1.p (m + 2)
 obtain ⟨w2,hw2⟩:∃ w2:AW,w2=⟨(w1.heap.put w1.next (some (.cells [.int .i64 0,.int .i64 0,.int .i64 0,.int .i64 0,.int .i64 0,.int .i64 0] 63 false))).put w1.next (some (.cells (weiC l pl) 63 false)),w1.next + 1,w1.lim⟩:=⟨_,rfl⟩
 have u2:Up w1 w2:=by rw [hw2]; exact ((Up.refl w1).add _).put (Nat.le_refl _) (Nat.le_refl _)
 have n2:w2.next=w1.next + 1:=by rw [hw2]
 have l2:w2.lim=w1.lim:=by rw [hw2]
 have hB2:=hB1.up u2
 have hbox2:=hB2.box
 have g5:w2.heap.get w1.next=some (.cells (weiC l pl) 63 false):=by rw [hw2]; simp
 have r15:=ruleQ hh.hq hB2.lim.1 hB2.parts.1 (m + 2)
 obtain ⟨e,he⟩:∃ e,e=chkE l pl:=⟨_,rfl⟩
 unfold weiV at c14
 rw [← he] at c14
 have hll:=fun w'=>len56V hB2.l w'
 obtain ⟨zl,hzl⟩:∃ z:Int,z=(l.length:Int):=⟨_,rfl⟩
 rw [← hzl] at hll
 have hlw1:w1.lim≤w1.next:=by omega
 by_cases h0:e=0
 ·have hc:chkE l pl=0:=by rw [← he]; exact h0
  have hwc:weiC l pl=wgC l pl:=by unfold weiC; rw [if_pos hc]
  have h12:=podsB_len (chk_zero hc).1
  have hgt:¬ 12 < zl:=by omega
  have fin:∀ t:Tm,tget t 1=bv→tget t 2=.pointer (some ⟨w.next,0,none⟩)→tget t 5=.pointer (some ⟨w1.next,0,none⟩)→wp (exM Tryd.prog (run Tryd.prog ov (m + 3)) mc4_r1 t w2) Q:=fun t t1 t2 t5 =>
   rest1 m hn o16 hh h13 hB2 (by omega) hbits hc w1.next (by omega) (by rw [g5,hwc]) Q t t1 t2 t5 hQ
  rw [hwc] at c14 hw2
  simp only [wgC] at c14 hw2
  rw [hw2] at fin
  simp only [hw1] at c14 fin
  rw [h0] at c14
  simp [mc4_eq,t0,t1,c14,hll,hgt,hl]
  exact fin _ (by simp [t1]) (by simp) (by simp)
 ·have hz:weiC l pl=zero6:=by unfold weiC; rw [if_neg (by rw [← he]; exact h0)]
  rw [hz] at c14 hw2
  simp only [zero6] at c14 hw2
  rw [hw2] at r15
  simp only [hw1] at c14 r15
  simp [mc4_eq,t0,c14,h0,r15,hl]
  exact hQ _ _ (by simp)
theorem run4 (m:Nat) (ho:∀ args w,ov 4 args w=none) (hn:No2 ov) (o16:∀ args w,ov 16 args w=none) (hh:Has2 ov) (h13:HasP ov 13 F13) (h14:HasP ov 14 F14) (hl:w.lim≤w.next) (hn4:4≤w.next) (hLi:LimAt w) (hPa:PartsAt w) (hbits:bits.length≤2 ^ 60)
  (h1:PodsV w lv l) (h2:RowsV intC w pv pl) (h3:RowsV actC w rv r) (h4:RowsV cdayC w dv d) (h5:RowsV intC w av acts) (h6:RowsV intC w bv bits) :
  ∃ x w',(run Tryd.prog ov (m + 4)).call 4 [.agg ⟨[lv,pv,rv,dv,.int .i64 so.1,.int .i64 so.2,av,.int .i64 li.1,.int .i64 li.2]⟩,bv] w .none=.ok (.ret x) w' .none∧x=.bool true:=by
 refine call_wp text4 (by simp) (ho _ _) (whole4 (so:=so) (li:=li) (bits:=bits) (acts:=acts) (l:=l) (pl:=pl) (r:=r) (d:=d) (w:=w) (lv:=lv) (pv:=pv) (rv:=rv) (dv:=dv) (av:=av) (bv:=bv) m hn o16 hh h13 h14 hl hn4 hLi hPa hbits h1 h2 h3 h4 h5 h6 _ _ (by simp) (by simp) (fun t w' h=>?_))
 simp [h,tupV]
end
set_option maxRecDepth 1000000 in
theorem cured_true:resIs (.bool true) ((run Tryd.prog noOv 1000).call 15 [] (startA 4 laidL) .none)=true:=by kernel_rfl
theorem mixed:Tryd.prog.follows .mixedOrders=true:=by kernel_rfl
theorem globals4:Tryd.prog.globals.size=4:=by kernel_rfl
theorem no_count:NoCount Tryd.prog:=NoCount.of (by kernel_rfl)
theorem weiC_six (l:List Pod) (pl:List Int):∃ a b c d e f:Int,weiC l pl=[.int .i64 a,.int .i64 b,.int .i64 c,.int .i64 d,.int .i64 e,.int .i64 f]:=by
 unfold weiC
 split
 ·exact ⟨_,_,_,_,_,_,rfl⟩
 ·exact ⟨_,_,_,_,_,_,rfl⟩
noncomputable def oW:Ov:=memoOv 15 [] laidL (.bool true) noOv
theorem okW':OvOk Tryd.prog oW:=memo_ok no_count mixed ov_none cured_true (by kernel_rfl) (by kernel_rfl) (by rw [globals4]; exact Nat.le_refl _) (by kernel_rfl) ov_none
theorem oW_none {f:Nat} (hf:f ≠ 15) (args:List Value) (w:AW):oW f args w=none:=by
 have:Nat.beq f 15=false:=by rw [← Bool.not_eq_true]; intro h; exact hf (Nat.eq_of_beq_eq_true h)
 simp [oW,memoOv,this,noOv]
theorem oW_has:HasQ oW:=fun w hw=>by
 simp [oW,memoOv,hw,sameL5,sameVal.sameVals]
theorem HasQ.skip {f:Nat} {F:PureF} {rest:Ov} (hf:15 ≠ f) (h:HasQ rest):HasQ (ovP f F rest):=fun w hw=>by simp [ovP,hf,h w hw]
theorem ovP_none {f g:Nat} {F:PureF} {rest:Ov} (hne:g ≠ f) (h:∀ args w,rest g args w=none) (args:List Value) (w:AW):ovP f F rest g args w=none:=by simp [ovP,hne,h]
theorem F10_some {args:List Value} {w:AW} {v:Value} (h:F10 args w=some v):∃ n a b,args=[.int .i64 n,.int .i64 a,.int .i64 b]∧v=.bool (inI a n b):=by
 unfold F10 at h
 split at h
 ·cases h; exact ⟨_,_,_,rfl,rfl⟩
 ·cases h
theorem F46_some {args:List Value} {w:AW} {v:Value} (h:F46 args w=some v):∃ lo hi a b,args=[.agg ⟨[.int .i64 lo,.int .i64 hi]⟩,.int .i64 a,.int .i64 b]∧v=.bool (spanI lo hi a b):=by
 unfold F46 at h
 split at h
 ·cases h; exact ⟨_,_,_,_,rfl,rfl⟩
 ·cases h
theorem F136_some {args:List Value} {w:AW} {v:Value} (h:F136 args w=some v):∃ c,args=[.int .u8 c]∧v=.bool (inI 97 c 122):=by
 unfold F136 at h
 split at h
 ·cases h; exact ⟨_,rfl,rfl⟩
 ·cases h
theorem F137_some {args:List Value} {w:AW} {v:Value} (h:F137 args w=some v):∃ c,args=[.int .u8 c]∧v=.bool (inI 48 c 57):=by
 unfold F137 at h
 split at h
 ·cases h; exact ⟨_,rfl,rfl⟩
 ·cases h
theorem F120_some {args:List Value} {w:AW} {v:Value} (h:F120 args w=some v):∃ s,args=[.string s]∧v=.bool (wordB s.data.toList):=by
 unfold F120 at h
 split at h
 ·cases h; exact ⟨_,rfl,rfl⟩
 ·cases h
theorem F99_some {args:List Value} {w:AW} {v:Value} (h:F99 args w=some v):∃ p,args=[.agg ⟨podC p⟩]∧v=.bool (podB p):=by
 unfold F99 at h
 split at h
 ·obtain ⟨p,h1,h2⟩:=Option.map_eq_some_iff.1 h
  exact ⟨p,by rw [podOf_some h1],h2.symm⟩
 ·cases h
theorem F62_some {args:List Value} {w:AW} {v:Value} (h:F62 args w=some v):∃ u l,args=[u]∧podsIn w u=some l∧v=.bool (podsB l):=by
 unfold F62 at h
 split at h
 ·obtain ⟨l,h1,h2⟩:=Option.map_eq_some_iff.1 h
  exact ⟨_,l,rfl,h1,h2.symm⟩
 ·cases h
theorem F27_some {args:List Value} {w:AW} {v:Value} (h:F27 args w=some v):∃ u l,args=[u]∧podsIn w u=some l∧v=errB (podsB l) 30:=by
 unfold F27 at h
 split at h
 ·obtain ⟨l,h1,h2⟩:=Option.map_eq_some_iff.1 h
  exact ⟨_,l,rfl,h1,h2.symm⟩
 ·cases h
theorem F66_some {args:List Value} {w:AW} {v:Value} (h:F66 args w=some v):∃ n a b,args=[.int .i64 n,.agg ⟨[.int .i64 a,.int .i64 b]⟩]∧v=.bool (inI a n b):=by
 unfold F66 at h
 split at h
 ·cases h; exact ⟨_,_,_,rfl,rfl⟩
 ·cases h
theorem bif_some {α:Type} {b:Bool} {x y:α} (h:(bif b then some x else none)=some y):b=true∧y=x:=by
 cases b with
 | true=>cases h; exact ⟨rfl,rfl⟩
 | false=>cases h
theorem if_some' {α:Type} {c:Prop} {inst:Decidable c} {x y:α} (h:(@ite _ c inst (some x) none)=some y):c∧y=x:=by
 by_cases k:c
 ·rw [if_pos k] at h; cases h; exact ⟨k,rfl⟩
 ·rw [if_neg k] at h; cases h
theorem F100_some {args:List Value} {w:AW} {v:Value} (h:F100 args w=some v):∃ p day r h g,args=[.agg ⟨podC p⟩,.int .i64 day,.agg ⟨[.int .i64 r,.int .i64 h,.int .i64 g]⟩]∧numB p day r h g=true∧v=.int .i64 (onI p.born day r h):=by
 unfold F100 at h
 split at h
 ·obtain ⟨p,h1,h2⟩:=Option.bind_eq_some_iff.1 h
  obtain ⟨h3,rfl⟩:=bif_some h2
  exact ⟨p,_,_,_,_,by rw [podOf_some h1],h3,rfl⟩
 ·cases h
theorem F101_some {args:List Value} {w:AW} {v:Value} (h:F101 args w=some v):∃ p day r h g,args=[.agg ⟨podC p⟩,.int .i64 day,.agg ⟨[.int .i64 r,.int .i64 h,.int .i64 g]⟩]∧numB p day r h g=true∧v=.int .i64 (gramI p.born day r g):=by
 unfold F101 at h
 split at h
 ·obtain ⟨p,h1,h2⟩:=Option.bind_eq_some_iff.1 h
  obtain ⟨h3,rfl⟩:=bif_some h2
  exact ⟨p,_,_,_,_,by rw [podOf_some h1],h3,rfl⟩
 ·cases h
theorem F67_some {args:List Value} {w:AW} {v:Value} (h:F67 args w=some v):∃ p day r h g,args=[.agg ⟨podC p⟩,.int .i64 day,.agg ⟨[.int .i64 r,.int .i64 h,.int .i64 g]⟩]∧numB p day r h g=true∧PartsW w∧v=.agg ⟨ylC (ylI p.born day r h g)⟩:=by
 unfold F67 at h
 split at h
 ·obtain ⟨p,h1,h2⟩:=Option.bind_eq_some_iff.1 h
  obtain ⟨⟨h3,h4⟩,rfl⟩:=if_some' h2
  exact ⟨p,_,_,_,_,by rw [podOf_some h1],h3,h4,rfl⟩
 ·cases h
theorem F68_some {args:List Value} {w:AW} {v:Value} (h:F68 args w=some v):∃ u ys,args=[u]∧RowsV ylC w u ys∧(∀ y ∈ ys,smallY y)∧ys.length≤100∧v=.agg ⟨ylC (sumYl ys)⟩:=by
 unfold F68 at h
 split at h
 ·obtain ⟨ys,h1,h2⟩:=Option.bind_eq_some_iff.1 h
  obtain ⟨⟨h3,h4⟩,rfl⟩:=if_some' h2
  exact ⟨_,ys,rfl,rowsIn_some h1,h3,h4,rfl⟩
 ·cases h
theorem F65_some {args:List Value} {w:AW} {x:Value} (h:F65 args w=some x):∃ v u l pl,args=[v,u]∧podsIn w v=some l∧RowsV intC w u pl∧l.length≤100∧x=.bool (planB l pl):=by
 unfold F65 at h
 split at h
 ·obtain ⟨l,h1,h⟩:=Option.bind_eq_some_iff.1 h
  obtain ⟨pl,h2,h⟩:=Option.bind_eq_some_iff.1 h
  obtain ⟨h3,rfl⟩:=bif_some h
  exact ⟨_,_,l,pl,rfl,h1,rowsIn_some h2,of_decide_eq_true h3,rfl⟩
 ·cases h
theorem F34_some {args:List Value} {w:AW} {x:Value} (h:F34 args w=some x):∃ v u l pl,args=[v,u]∧podsIn w v=some l∧RowsV intC w u pl∧x=.int .i64 (chkE l pl):=by
 unfold F34 at h
 split at h
 ·obtain ⟨l,h1,h⟩:=Option.bind_eq_some_iff.1 h
  obtain ⟨pl,h2,h⟩:=Option.bind_eq_some_iff.1 h
  cases h
  exact ⟨_,_,l,pl,rfl,h1,rowsIn_some h2,rfl⟩
 ·cases h
theorem F35_some {args:List Value} {w:AW} {x:Value} (h:F35 args w=some x):∃ v vr vh vg l R H G,args=[v,.agg ⟨[vr,vh,vg]⟩]∧podsIn w v=some l∧RowsV intC w vr R∧RowsV intC w vh H∧RowsV intC w vg G∧l.length≤100∧x=.bool (truthB l R H G):=by
 unfold F35 at h
 split at h
 ·obtain ⟨l,h1,h⟩:=Option.bind_eq_some_iff.1 h
  obtain ⟨R,h2,h⟩:=Option.bind_eq_some_iff.1 h
  obtain ⟨H,h3,h⟩:=Option.bind_eq_some_iff.1 h
  obtain ⟨G,h4,h⟩:=Option.bind_eq_some_iff.1 h
  obtain ⟨h5,rfl⟩:=bif_some h
  exact ⟨_,_,_,_,l,R,H,G,rfl,h1,rowsIn_some h2,rowsIn_some h3,rowsIn_some h4,of_decide_eq_true h5,rfl⟩
 ·cases h
theorem F36_some {args:List Value} {w:AW} {x:Value} (h:F36 args w=some x):∃ v u vr vh vg l pl R H G,args=[v,u,.agg ⟨[vr,vh,vg]⟩]∧podsIn w v=some l∧RowsV intC w u pl∧RowsV intC w vr R∧RowsV intC w vh H∧RowsV intC w vg G∧podsB l=true∧planB l pl=true∧truthB l R H G=true∧PartsW w∧x=.agg ⟨ylC (sumYl (ysH l pl R H G))⟩:=by
 unfold F36 at h
 split at h
 ·obtain ⟨l,h1,h⟩:=Option.bind_eq_some_iff.1 h
  obtain ⟨pl,h0,h⟩:=Option.bind_eq_some_iff.1 h
  obtain ⟨R,h2,h⟩:=Option.bind_eq_some_iff.1 h
  obtain ⟨H,h3,h⟩:=Option.bind_eq_some_iff.1 h
  obtain ⟨G,h4,h⟩:=Option.bind_eq_some_iff.1 h
  obtain ⟨⟨h5,h6,h7,h8⟩,rfl⟩:=if_some' h
  exact ⟨_,_,_,_,_,l,pl,R,H,G,rfl,h1,rowsIn_some h0,rowsIn_some h2,rowsIn_some h3,rowsIn_some h4,h5,h6,h7,h8,rfl⟩
 ·cases h
theorem F13_some {args:List Value} {w:AW} {x:Value} (h:F13 args w=some x):∃ v u vr vh vg l pl R H G,args=[v,u,.agg ⟨[vr,vh,vg]⟩]∧podsIn w v=some l∧RowsV intC w u pl∧RowsV intC w vr R∧RowsV intC w vh H∧RowsV intC w vg G∧PartsW w∧x=.tuple ⟨[.agg ⟨ylC (harY l pl R H G)⟩,.int .i64 (harE l pl R H G)]⟩:=by
 unfold F13 at h
 split at h
 ·obtain ⟨l,h1,h⟩:=Option.bind_eq_some_iff.1 h
  obtain ⟨pl,h0,h⟩:=Option.bind_eq_some_iff.1 h
  obtain ⟨R,h2,h⟩:=Option.bind_eq_some_iff.1 h
  obtain ⟨H,h3,h⟩:=Option.bind_eq_some_iff.1 h
  obtain ⟨G,h4,h⟩:=Option.bind_eq_some_iff.1 h
  obtain ⟨h8,rfl⟩:=if_some' h
  exact ⟨_,_,_,_,_,l,pl,R,H,G,rfl,h1,rowsIn_some h0,rowsIn_some h2,rowsIn_some h3,rowsIn_some h4,h8,rfl⟩
 ·cases h
theorem F70_some {args:List Value} {w:AW} {x:Value} (h:F70 args w=some x):∃ y v ys,args=[.agg ⟨ylC y⟩,v]∧RowsV ylC w v ys∧ys.length≤10000∧x=endsV (ys.foldl stepE (y,y)):=by
 unfold F70 at h
 split at h
 ·obtain ⟨ys,h1,h⟩:=Option.bind_eq_some_iff.1 h
  obtain ⟨h2,rfl⟩:=if_some' h
  exact ⟨⟨_,_,_,_⟩,_,ys,rfl,rowsIn_some h1,h2,rfl⟩
 ·cases h
theorem F37_some {args:List Value} {w:AW} {x:Value} (h:F37 args w=some x):∃ v u l pl,args=[v,u]∧podsIn w v=some l∧RowsV intC w u pl∧podsB l=true∧planB l pl=true∧PartsW w∧x=.agg ⟨wgC l pl⟩:=by
 unfold F37 at h
 split at h
 ·obtain ⟨l,h1,h⟩:=Option.bind_eq_some_iff.1 h
  obtain ⟨pl,h2,h⟩:=Option.bind_eq_some_iff.1 h
  obtain ⟨⟨h3,h4,h5⟩,rfl⟩:=if_some' h
  exact ⟨_,_,l,pl,rfl,h1,rowsIn_some h2,h3,h4,h5,rfl⟩
 ·cases h
theorem F14_some {args:List Value} {w:AW} {x:Value} (h:F14 args w=some x):∃ v u l pl,args=[v,u]∧podsIn w v=some l∧RowsV intC w u pl∧PartsW w∧x=weiV l pl:=by
 unfold F14 at h
 split at h
 ·obtain ⟨l,h1,h⟩:=Option.bind_eq_some_iff.1 h
  obtain ⟨pl,h2,h⟩:=Option.bind_eq_some_iff.1 h
  obtain ⟨h5,rfl⟩:=if_some' h
  exact ⟨_,_,l,pl,rfl,h1,rowsIn_some h2,h5,rfl⟩
 ·cases h
theorem ground_wei (l:List Pod) (pl:List Int):groundC 3 (weiV l pl)=true:=by
 obtain ⟨a,b,c,d,e,f,h⟩:=weiC_six l pl
 unfold weiV
 rw [h]; rfl
theorem F33_some {args:List Value} {w:AW} {v:Value} (h:F33 args w=some v):∃ n s,args=[.int .i64 n,.int .i64 s]∧s≤2 ^ 60∧v=.int .i64 (wrapI n s):=by
 unfold F33 at h
 split at h
 ·obtain ⟨h1,rfl⟩:=bif_some h
  exact ⟨_,_,rfl,of_decide_eq_true h1,rfl⟩
 ·cases h
theorem F12_some {args:List Value} {w:AW} {v:Value} (h:F12 args w=some v):∃ u L i,args=[u,.int .i64 i]∧RowsV intC w u L∧L.length≤2 ^ 60∧v=.int .i64 (nthI L i):=by
 unfold F12 at h
 split at h
 ·obtain ⟨L,h1,h2⟩:=Option.bind_eq_some_iff.1 h
  obtain ⟨h3,rfl⟩:=bif_some h2
  exact ⟨_,_,_,rfl,rowsIn_some h1,of_decide_eq_true h3,rfl⟩
 ·cases h
theorem F11w_some {args:List Value} {w:AW} {v:Value} (h:F11w args w=some v):∃ lo hi n,args=[.int .i64 lo,.int .i64 hi,.int .i64 n]∧((0≤lo∧lo≤10000000)∧0≤hi∧hi≤10000000)∧v=.int .i64 (withI lo hi n):=by
 unfold F11w at h
 split at h
 ·obtain ⟨h1,rfl⟩:=bif_some h
  refine ⟨_,_,_,rfl,?_,rfl⟩
  simpa [inI] using h1
 ·cases h
theorem stgR_ground (o:Option Stg):groundC 3 (stgR o)=true:=by cases o <;> rfl
theorem all_ground (n:Nat):∀ l:List Sp,groundC.allC (groundC (n + 1)) (l.flatMap spC)=true
 | []=>rfl
 | _::l=>by
  rw [List.flatMap_cons]
  exact all_ground n l
theorem rows_ground (l:List Sp):groundC 3 (.agg ⟨l.flatMap spC⟩)=true:=all_ground 1 l
theorem narR_ground (o:Option (List Sp)):groundC 3 (narR o)=true:=by
 cases o with
 | none=>rfl
 | some V =>
  show (bif groundC 2 (.agg ⟨V.flatMap spC⟩) then (bif true then true else false) else false)=true
  rw [show groundC 2 (.agg ⟨V.flatMap spC⟩)=true from all_ground 0 V]
  rfl
theorem reachR_ground (r:List CAct) (d:List CDay) (b:CBox) (acts:List Int) (lim:Sp):groundC 3 (reachR r d b acts lim)=true:=by unfold reachR; split <;> (try split) <;> rfl
noncomputable def ovL:List (Nat × PureF)→Ov
 | []=>oW
 | x::l=>ovP x.1 x.2 (ovL l)
def keyB (g:Nat):List (Nat × PureF)→Bool
 | []=>Nat.beq g 15
 | x::l=>Nat.beq g x.1 || keyB g l
def lookF (g:Nat):List (Nat × PureF)→Option PureF
 | []=>none
 | x::l=>bif Nat.beq g x.1 then some x.2 else lookF g l
theorem beq_no {a b:Nat} (h:Nat.beq a b=false):a ≠ b:=fun e=>by rw [e,Nat.beq_refl] at h; cases h
theorem chN {g:Nat}:∀ {l:List (Nat × PureF)},keyB g l=false→∀ args w,ovL l g args w=none
 | [],h=>oW_none (beq_no h)
 | x::l,h=>by
  simp only [keyB,Bool.or_eq_false_iff] at h
  exact ovP_none (beq_no h.1) (chN h.2)
theorem chH {g:Nat} {F:PureF}:∀ {l:List (Nat × PureF)},lookF g l=some F→HasP (ovL l) g F
 | [],h=>by cases h
 | x::l,h=>by
  simp only [lookF] at h
  cases hb:Nat.beq g x.1 with
  | true =>
   rw [hb] at h
   cases h
   have e:=Nat.eq_of_beq_eq_true hb
   subst e
   exact .here
  | false =>
   rw [hb] at h
   exact HasP.skip (beq_no hb) (chH h)
def memB (g:Nat):List (Nat × PureF)→Bool
 | []=>false
 | x::l=>Nat.beq g x.1 || memB g l
theorem chW:∀ {l:List (Nat × PureF)},memB 15 l=false→HasQ (ovL l)
 | [],_=>oW_has
 | x::l,h=>by
  simp only [memB,Bool.or_eq_false_iff] at h
  exact HasQ.skip (beq_no h.1) (chW h.2)
noncomputable def l10:List (Nat × PureF):=(10,F10)::[]
noncomputable def o10:Ov:=ovL l10
theorem ok10:OvOk Tryd.prog (ovP 10 F10 (ovL [])):=pure_ok no_count mixed okW' (fun _ _ _ h=>h) fun args w res hl hres=>by
 obtain ⟨n,a,b,rfl,rfl⟩:=F10_some hres
 obtain ⟨_,w',h1,rfl⟩:=run10 (ov:=(ovL [])) (chN rfl)  n a b w
 exact ⟨rfl,2,w',_,h1⟩
noncomputable def l124:List (Nat × PureF):=(124,F46)::l10
noncomputable def o124:Ov:=ovL l124
theorem ok124:OvOk Tryd.prog (ovP 124 F46 o10):=pure_ok no_count mixed ok10 (fun _ _ _ h=>h) fun args w res hl hres=>by
 obtain ⟨lo,hi,a,b,rfl,rfl⟩:=F46_some hres
 obtain ⟨_,w',h1,rfl⟩:=run124 (ov:=o10) (chN rfl)  lo hi a b w
 exact ⟨rfl,2,w',_,h1⟩
noncomputable def l136:List (Nat × PureF):=(136,F136)::l124
noncomputable def o136:Ov:=ovL l136
theorem ok136:OvOk Tryd.prog (ovP 136 F136 o124):=pure_ok no_count mixed ok124 (fun _ _ _ h=>h) fun args w res hl hres=>by
 obtain ⟨c,rfl,rfl⟩:=F136_some hres
 obtain ⟨_,w',h1,rfl⟩:=run136 (ov:=o124) (chN rfl)  c w
 exact ⟨rfl,2,w',_,h1⟩
noncomputable def l137:List (Nat × PureF):=(137,F137)::l136
noncomputable def o137:Ov:=ovL l137
theorem ok137:OvOk Tryd.prog (ovP 137 F137 o136):=pure_ok no_count mixed ok136 (fun _ _ _ h=>h) fun args w res hl hres=>by
 obtain ⟨c,rfl,rfl⟩:=F137_some hres
 obtain ⟨_,w',h1,rfl⟩:=run137 (ov:=o136) (chN rfl)  c w
 exact ⟨rfl,2,w',_,h1⟩
noncomputable def l120:List (Nat × PureF):=(120,F120)::l137
noncomputable def o120:Ov:=ovL l120
theorem ok120:OvOk Tryd.prog (ovP 120 F120 o137):=pure_ok no_count mixed ok137 (fun _ _ _ h=>h) fun args w res hl hres=>by
 obtain ⟨s,rfl,rfl⟩:=F120_some hres
 obtain ⟨_,w',h1,rfl⟩:=run120 (ov:=o137) (chN rfl) (chH rfl) (chH rfl) s w
 exact ⟨rfl,2,w',_,h1⟩
noncomputable def l99:List (Nat × PureF):=(99,F99)::l120
noncomputable def o99:Ov:=ovL l99
theorem ok99:OvOk Tryd.prog (ovP 99 F99 o120):=pure_ok no_count mixed ok120 (fun _ _ _ h=>h) fun args w res hl hres=>by
 obtain ⟨p,rfl,rfl⟩:=F99_some hres
 obtain ⟨_,w',h1,rfl⟩:=run99 (ov:=o120) (chN rfl) (chH rfl) (chH rfl) p w
 exact ⟨rfl,2,w',_,h1⟩
noncomputable def l62:List (Nat × PureF):=(62,F62)::l99
noncomputable def o62:Ov:=ovL l62
theorem ok62:OvOk Tryd.prog (ovP 62 F62 o99):=pure_ok no_count mixed ok99 (fun _ _ _ h=>h) fun args w res hl hres=>by
 obtain ⟨u,l,rfl,hin,rfl⟩:=F62_some hres
 obtain ⟨_,w',h1,rfl⟩:=run62 (ov:=o99) (chN rfl) (chH rfl) u l w hl (podsIn_some hin)
 exact ⟨rfl,2,w',_,h1⟩
noncomputable def l27:List (Nat × PureF):=(27,F27)::l62
noncomputable def o27:Ov:=ovL l27
theorem ok27:OvOk Tryd.prog (ovP 27 F27 o62):=pure_ok no_count mixed ok62 (fun _ _ _ h=>h) fun args w res hl hres=>by
 obtain ⟨u,l,rfl,hin,rfl⟩:=F27_some hres
 obtain ⟨_,w',h1,rfl⟩:=run27 (ov:=o62) (chN rfl) (chH rfl) u l w hin
 exact ⟨rfl,2,w',_,h1⟩
noncomputable def l66:List (Nat × PureF):=(66,F66)::l27
noncomputable def o66:Ov:=ovL l66
theorem ok66:OvOk Tryd.prog (ovP 66 F66 o27):=pure_ok no_count mixed ok27 (fun _ _ _ h=>h) fun args w res hl hres=>by
 obtain ⟨n,a,b,rfl,rfl⟩:=F66_some hres
 obtain ⟨_,w',h1,rfl⟩:=run66 (ov:=o27) (chN rfl)  n a b w
 exact ⟨rfl,2,w',_,h1⟩
noncomputable def l65:List (Nat × PureF):=(65,F65)::l66
noncomputable def o65:Ov:=ovL l65
theorem ok65:OvOk Tryd.prog (ovP 65 F65 o66):=pure_ok no_count mixed ok66 (fun _ _ _ h=>h) fun args w res hl hres=>by
 obtain ⟨v,u,l,pl,rfl,hv,hu,hlen,rfl⟩:=F65_some hres
 obtain ⟨_,w',h1,rfl⟩:=run65 (ov:=o66) (chN rfl)  l pl v u w (podsIn_some hv) hu hlen
 exact ⟨rfl,2,w',_,h1⟩
noncomputable def l34:List (Nat × PureF):=(34,F34)::l65
noncomputable def o34:Ov:=ovL l34
theorem ok34:OvOk Tryd.prog (ovP 34 F34 o65):=pure_ok no_count mixed ok65 (fun _ _ _ h=>h) fun args w res hl hres=>by
 obtain ⟨v,u,l,pl,rfl,hv,hu,rfl⟩:=F34_some hres
 obtain ⟨_,w',h1,rfl⟩:=run34 (ov:=o65) (chN rfl) (chH rfl) (chH rfl) l pl v u w hv hu
 exact ⟨rfl,2,w',_,h1⟩
noncomputable def l35:List (Nat × PureF):=(35,F35)::l34
noncomputable def o35:Ov:=ovL l35
theorem ok35:OvOk Tryd.prog (ovP 35 F35 o34):=pure_ok no_count mixed ok34 (fun _ _ _ h=>h) fun args w res hl hres=>by
 obtain ⟨v,vr,vh,vg,l,R,H,G,rfl,hv,hr,hh,hg,hlen,rfl⟩:=F35_some hres
 obtain ⟨_,w',h1,rfl⟩:=run35 (ov:=o34) (chN rfl) (chH rfl) l R H G v vr vh vg w hl (podsIn_some hv) hr hh hg hlen
 exact ⟨rfl,2,w',_,h1⟩
noncomputable def l100:List (Nat × PureF):=(100,F100)::l35
noncomputable def o100:Ov:=ovL l100
theorem ok100:OvOk Tryd.prog (ovP 100 F100 o35):=pure_ok no_count mixed ok35 (fun _ _ _ h=>h) fun args w res hl hres=>by
 obtain ⟨p,day,r,h,g,rfl,hn,rfl⟩:=F100_some hres
 obtain ⟨_,w',h1,rfl⟩:=run100 (ov:=o35) (chN rfl)  p day r h g hn w
 exact ⟨rfl,2,w',_,h1⟩
noncomputable def l101:List (Nat × PureF):=(101,F101)::l100
noncomputable def o101:Ov:=ovL l101
theorem ok101:OvOk Tryd.prog (ovP 101 F101 o100):=pure_ok no_count mixed ok100 (fun _ _ _ h=>h) fun args w res hl hres=>by
 obtain ⟨p,day,r,h,g,rfl,hn,rfl⟩:=F101_some hres
 obtain ⟨_,w',h1,rfl⟩:=run101 (ov:=o100) (chN rfl)  p day r h g hn w
 exact ⟨rfl,2,w',_,h1⟩
noncomputable def l67:List (Nat × PureF):=(67,F67)::l101
noncomputable def o67:Ov:=ovL l67
theorem ok67:OvOk Tryd.prog (ovP 67 F67 o101):=pure_ok no_count mixed ok101 (fun _ _ _ h=>h) fun args w res hl hres=>by
 obtain ⟨p,day,r,h,g,rfl,hn,hPW,rfl⟩:=F67_some hres
 obtain ⟨_,w',h1,rfl⟩:=run67 (ov:=o101) (chN rfl) (chH rfl) (chH rfl) p day r h g hn w (Nat.le_of_eq hl) hPW
 exact ⟨rfl,2,w',_,h1⟩
noncomputable def l68:List (Nat × PureF):=(68,F68)::l67
noncomputable def o68:Ov:=ovL l68
theorem ok68:OvOk Tryd.prog (ovP 68 F68 o67):=pure_ok no_count mixed ok67 (fun _ _ _ h=>h) fun args w res hl hres=>by
 obtain ⟨v,ys,rfl,hv,hy,hlen,rfl⟩:=F68_some hres
 obtain ⟨_,w',h1,rfl⟩:=run68 (ov:=o67) (chN rfl) (chN rfl) v ys hy hlen w hl hv 0
 exact ⟨rfl,2,w',_,h1⟩
noncomputable def l36:List (Nat × PureF):=(36,F36)::l68
noncomputable def o36:Ov:=ovL l36
theorem ok36:OvOk Tryd.prog (ovP 36 F36 o68):=pure_ok no_count mixed ok68 (fun _ _ _ h=>h) fun args w res hl hres=>by
 obtain ⟨v,u,vr,vh,vg,l,pl,R,H,G,rfl,hv,hu,hr,hh,hg,hB,hP,hT,hPW,rfl⟩:=F36_some hres
 obtain ⟨_,w',h1,rfl⟩:=run36 (ov:=o68) (chN rfl) (chH rfl) (chH rfl) l pl R H G v u vr vh vg w hl hPW (podsIn_some hv) hu hr hh hg hB hP hT
 exact ⟨rfl,2,w',_,h1⟩
noncomputable def l13:List (Nat × PureF):=(13,F13)::l36
noncomputable def o13:Ov:=ovL l13
theorem ok13:OvOk Tryd.prog (ovP 13 F13 o36):=pure_ok no_count mixed ok36 (fun _ _ _ h=>h) fun args w res hl hres=>by
 obtain ⟨v,u,vr,vh,vg,l,pl,R,H,G,rfl,hv,hu,hr,hh,hg,hPW,rfl⟩:=F13_some hres
 obtain ⟨_,w',h1,rfl⟩:=run13 (ov:=o36) (chN rfl) (chH rfl) (chH rfl) (chH rfl) l pl R H G v u vr vh vg w hl hPW hv hu hr hh hg
 exact ⟨rfl,2,w',_,h1⟩
noncomputable def l70:List (Nat × PureF):=(70,F70)::l13
noncomputable def o70:Ov:=ovL l70
theorem ok70:OvOk Tryd.prog (ovP 70 F70 o13):=pure_ok no_count mixed ok13 (fun _ _ _ h=>h) fun args w res hl hres=>by
 obtain ⟨y,v,ys,rfl,hv,hlen,rfl⟩:=F70_some hres
 obtain ⟨_,w',h1,rfl⟩:=run70 (ov:=o13) (chN rfl)  y ys hlen v w hl hv
 exact ⟨rfl,2,w',_,h1⟩
noncomputable def l37:List (Nat × PureF):=(37,F37)::l70
noncomputable def o37:Ov:=ovL l37
theorem ok37:OvOk Tryd.prog (ovP 37 F37 o70):=pure_ok no_count mixed ok70 (fun _ _ _ h=>h) fun args w res hl hres=>by
 obtain ⟨v,u,l,pl,rfl,hv,hu,hB,hP,hPW,rfl⟩:=F37_some hres
 obtain ⟨_,w',h1,rfl⟩:=run37 (ov:=o70) (chN rfl) (chN rfl) (chH rfl) (chH rfl) (chH rfl) l pl v u w hl hPW (podsIn_some hv) hu hB hP
 exact ⟨rfl,3,w',_,h1⟩
noncomputable def l14:List (Nat × PureF):=(14,F14)::l37
noncomputable def o14:Ov:=ovL l14
theorem ok14:OvOk Tryd.prog (ovP 14 F14 o37):=pure_ok no_count mixed ok37 (fun _ _ _ h=>h) fun args w res hl hres=>by
 obtain ⟨v,u,l,pl,rfl,hv,hu,hPW,rfl⟩:=F14_some hres
 obtain ⟨_,w',h1,rfl⟩:=run14 (ov:=o37) (chN rfl) (chH rfl) (chH rfl) l pl v u w hl hPW hv hu
 exact ⟨ground_wei _ _,2,w',_,h1⟩
noncomputable def l33:List (Nat × PureF):=(33,F33)::l14
noncomputable def o33:Ov:=ovL l33
theorem ok33:OvOk Tryd.prog (ovP 33 F33 o14):=pure_ok no_count mixed ok14 (fun _ _ _ h=>h) fun args w res hl hres=>by
 obtain ⟨n,s,rfl,hs,rfl⟩:=F33_some hres
 obtain ⟨_,w',h1,rfl⟩:=run33 (ov:=o14) (chN rfl)  n s hs w
 exact ⟨rfl,2,w',_,h1⟩
noncomputable def l12:List (Nat × PureF):=(12,F12)::l33
noncomputable def o12:Ov:=ovL l12
theorem ok12:OvOk Tryd.prog (ovP 12 F12 o33):=pure_ok no_count mixed ok33 (fun _ _ _ h=>h) fun args w res hl hres=>by
 obtain ⟨v,L,i,rfl,hv,hlen,rfl⟩:=F12_some hres
 obtain ⟨_,w',h1,rfl⟩:=run12 (ov:=o33) (chN rfl) (chH rfl) v L i w hv hlen
 exact ⟨rfl,2,w',_,h1⟩
noncomputable def l11:List (Nat × PureF):=(11,F11w)::l12
noncomputable def o11:Ov:=ovL l11
theorem ok11:OvOk Tryd.prog (ovP 11 F11w o12):=pure_ok no_count mixed ok12 (fun _ _ _ h=>h) fun args w res hl hres=>by
 obtain ⟨lo,hi,n,rfl,hb,rfl⟩:=F11w_some hres
 obtain ⟨_,w',h1,rfl⟩:=run11w (ov:=o12) (chN rfl) (chH rfl) lo hi n hb w
 exact ⟨rfl,2,w',_,h1⟩
noncomputable def l80:List (Nat × PureF):=(80,S80.F)::l11
noncomputable def o80:Ov:=ovL l80
theorem ok80:OvOk Tryd.prog (ovP 80 S80.F o11):=S80.ok no_count mixed ok11 fun args w v hl h=>by
 obtain ⟨n,a,b,rfl,rfl⟩:=h
 obtain ⟨v',w',hc,e⟩:=run80 (ov:=o11) (chN rfl) n a b w
 exact ⟨rfl,2,v',w',_,hc,e⟩
noncomputable def l75:List (Nat × PureF):=(75,S75.F)::l80
noncomputable def o75:Ov:=ovL l75
theorem ok75:OvOk Tryd.prog (ovP 75 S75.F o80):=S75.ok no_count mixed ok80 fun args w v hl h=>by
 obtain ⟨a,b,rfl,rfl⟩:=h
 obtain ⟨v',w',hc,e⟩:=run75 (ov:=o80) (chN rfl) a b w
 exact ⟨rfl,2,v',w',_,hc,e⟩
noncomputable def l76:List (Nat × PureF):=(76,S76.F)::l75
noncomputable def o76:Ov:=ovL l76
theorem ok76:OvOk Tryd.prog (ovP 76 S76.F o75):=S76.ok no_count mixed ok75 fun args w v hl h=>by
 obtain ⟨a,b,c,d,rfl,rfl⟩:=h
 obtain ⟨v',w',hc,e⟩:=run76 (ov:=o75) (chN rfl) a b c d w
 exact ⟨rfl,2,v',w',_,hc,e⟩
noncomputable def l132:List (Nat × PureF):=(132,S132.F)::l76
noncomputable def o132:Ov:=ovL l132
theorem ok132:OvOk Tryd.prog (ovP 132 S132.F o76):=S132.ok no_count mixed ok76 fun args w v hl h=>by
 obtain ⟨q,n,s,rfl,hq,hL,rfl⟩:=h
 obtain ⟨v',w',hc,e⟩:=run132 (ov:=o76) (chN rfl) (chH rfl) q n s hq w hL
 exact ⟨rfl,2,v',w',_,hc,e⟩
noncomputable def l40:List (Nat × PureF):=(40,S40.F)::l132
noncomputable def o40:Ov:=ovL l40
theorem ok40:OvOk Tryd.prog (ovP 40 S40.F o132):=S40.ok no_count mixed ok132 fun args w v hl h=>by
 obtain ⟨q,a,b,s,rfl,hq,hL,rfl⟩:=h
 obtain ⟨v',w',hc,e⟩:=run40 (ov:=o132) (chN rfl) (chH rfl) (chH rfl) q a b s hq w hl hL
 exact ⟨rfl,2,v',w',_,hc,e⟩
noncomputable def l104:List (Nat × PureF):=(104,S104.F)::l40
noncomputable def o104:Ov:=ovL l104
theorem ok104:OvOk Tryd.prog (ovP 104 S104.F o40):=S104.ok no_count mixed ok40 fun args w v hl h=>by
 obtain ⟨b,rfl,hL,rfl⟩:=h
 obtain ⟨v',w',hc,e⟩:=run104 (ov:=o40) (chN rfl) (chH rfl) b w hl hL
 exact ⟨rfl,2,v',w',_,hc,e⟩
noncomputable def l125:List (Nat × PureF):=(125,S125.F)::l104
noncomputable def o125:Ov:=ovL l125
theorem ok125:OvOk Tryd.prog (ovP 125 S125.F o104):=S125.ok no_count mixed ok104 fun args w v hl h=>by
 obtain ⟨x,r,rfl,hv,hL,rfl⟩:=h
 obtain ⟨v',w',hc,e⟩:=run125 (ov:=o104) (chN rfl) (chH rfl) (chH rfl) r x w hl hv hL
 exact ⟨rfl,2,v',w',_,hc,e⟩
noncomputable def l126:List (Nat × PureF):=(126,S126.F)::l125
noncomputable def o126:Ov:=ovL l126
theorem ok126:OvOk Tryd.prog (ovP 126 S126.F o125):=S126.ok no_count mixed ok125 fun args w v hl h=>by
 obtain ⟨x,d,rfl,hv,hL,rfl⟩:=h
 obtain ⟨v',w',hc,e⟩:=run126 (ov:=o125) (chN rfl) (chH rfl) d x w hl hv hL
 exact ⟨rfl,2,v',w',_,hc,e⟩
noncomputable def l103:List (Nat × PureF):=(103,S103.F)::l126
noncomputable def o103:Ov:=ovL l103
theorem ok103:OvOk Tryd.prog (ovP 103 S103.F o126):=S103.ok no_count mixed ok126 fun args w v hl h=>by
 obtain ⟨x,y,r,d,rfl,hv,hd,hL,rfl⟩:=h
 obtain ⟨v',w',hc,e⟩:=run103 (ov:=o126) (chN rfl) (chH rfl) (chH rfl) r d x y w hv hd hL
 exact ⟨rfl,2,v',w',_,hc,e⟩
noncomputable def l129:List (Nat × PureF):=(129,S129.F)::l103
noncomputable def o129:Ov:=ovL l129
theorem ok129:OvOk Tryd.prog (ovP 129 S129.F o103):=S129.ok no_count mixed ok103 fun args w v hl h=>by
 obtain ⟨s,a,n,rfl,hs,ha,_,rfl⟩:=h
 obtain ⟨v',w',hc,e⟩:=run129 (ov:=o103) (chN rfl) s a n hs ha w hl
 exact ⟨rfl,2,v',w',_,hc,e⟩
noncomputable def l107:List (Nat × PureF):=(107,S107.F)::l129
noncomputable def o107:Ov:=ovL l107
theorem ok107:OvOk Tryd.prog (ovP 107 S107.F o129):=S107.ok no_count mixed ok129 fun args w v hl h=>by
 obtain ⟨rfl,_,rfl⟩:=h
 obtain ⟨v',w',hc,e⟩:=run107 (ov:=o129) (chN rfl) w hl
 exact ⟨rfl,2,v',w',_,hc,e⟩
noncomputable def l142:List (Nat × PureF):=(142,S142.F)::l107
noncomputable def o142:Ov:=ovL l142
theorem ok142:OvOk Tryd.prog (ovP 142 S142.F o107):=S142.ok no_count mixed ok107 fun args w v hl h=>by
 obtain ⟨x,n,y,s,rfl,hs,rfl⟩:=h
 obtain ⟨v',w',hc,e⟩:=run142 (ov:=o107) (chN rfl) x n y s w
 exact ⟨rfl,2,v',w',_,hc,e⟩
noncomputable def l143:List (Nat × PureF):=(143,S143.F)::l142
noncomputable def o143:Ov:=ovL l143
theorem ok143:OvOk Tryd.prog (ovP 143 S143.F o142):=S143.ok no_count mixed ok142 fun args w v hl h=>by
 obtain ⟨x,n,y,s,rfl,hs,rfl⟩:=h
 obtain ⟨v',w',hc,e⟩:=run143 (ov:=o142) (chN rfl) x n y s w
 exact ⟨rfl,2,v',w',_,hc,e⟩
noncomputable def l144:List (Nat × PureF):=(144,S144.F)::l143
noncomputable def o144:Ov:=ovL l144
theorem ok144:OvOk Tryd.prog (ovP 144 S144.F o143):=S144.ok no_count mixed ok143 fun args w v hl h=>by
 obtain ⟨x,n,y,s,rfl,hs,rfl⟩:=h
 obtain ⟨v',w',hc,e⟩:=run144 (ov:=o143) (chN rfl) x n y s hs w
 exact ⟨rfl,2,v',w',_,hc,e⟩
noncomputable def l145:List (Nat × PureF):=(145,S145.F)::l144
noncomputable def o145:Ov:=ovL l145
theorem ok145:OvOk Tryd.prog (ovP 145 S145.F o144):=S145.ok no_count mixed ok144 fun args w v hl h=>by
 obtain ⟨x,n,y,s,rfl,hs,rfl⟩:=h
 obtain ⟨v',w',hc,e⟩:=run145 (ov:=o144) (chN rfl) x n y s w
 exact ⟨rfl,2,v',w',_,hc,e⟩
noncomputable def l74:List (Nat × PureF):=(74,S74.F)::l145
noncomputable def o74:Ov:=ovL l74
theorem ok74:OvOk Tryd.prog (ovP 74 S74.F o145):=S74.ok no_count mixed ok145 fun args w v hl h=>by
 obtain ⟨rv,dv,av,r,d,acts,rfl,h1,h2,h3,hR,hD,rfl⟩:=h
 obtain ⟨v',w',hc,e⟩:=run74 (ov:=o145) (chN rfl) (chN rfl) (chN rfl) (chN rfl) (chH rfl) (chH rfl) (chH rfl) (chH rfl) (chH rfl) (chH rfl) r d hR hD acts rv dv av w hl h1 h2 h3
 exact ⟨(stgR_ground _),4,v',w',_,hc,e⟩
noncomputable def l71:List (Nat × PureF):=(71,S71.F)::l74
noncomputable def o71:Ov:=ovL l71
theorem ok71:OvOk Tryd.prog (ovP 71 S71.F o74):=S71.ok no_count mixed ok74 fun args w v hl h=>by
 obtain ⟨rv,dv,r,d,b,rfl,h1,h2,hL,rfl⟩:=h
 obtain ⟨v',w',hc,e⟩:=run71 (ov:=o74) (chN rfl) (chH rfl) (chH rfl) r d b rv dv w h1 h2 hL
 exact ⟨rfl,2,v',w',_,hc,e⟩
noncomputable def l39:List (Nat × PureF):=(39,S39.F)::l71
noncomputable def o39:Ov:=ovL l39
theorem ok39:OvOk Tryd.prog (ovP 39 S39.F o71):=S39.ok no_count mixed ok71 fun args w v hl h=>by
 obtain ⟨rv,dv,av,r,d,b,acts,rfl,h1,h2,h3,hL,_,rfl⟩:=h
 obtain ⟨v',w',hc,e⟩:=run39 (ov:=o71) (chN rfl) (chH rfl) (chH rfl) r d b acts rv dv av w hl h1 h2 h3 hL
 exact ⟨rfl,2,v',w',_,hc,e⟩
noncomputable def l82:List (Nat × PureF):=(82,S82.F)::l39
noncomputable def o82:Ov:=ovL l82
theorem ok82:OvOk Tryd.prog (ovP 82 S82.F o39):=S82.ok no_count mixed ok39 fun args w v hl h=>by
 obtain ⟨x,s,rfl,h,rfl⟩:=h
 obtain ⟨v',w',hc,e⟩:=run82 (ov:=o39) (chN rfl) x s h w
 exact ⟨rfl,2,v',w',_,hc,e⟩
noncomputable def l46:List (Nat × PureF):=(46,S46.F)::l82
noncomputable def o46:Ov:=ovL l46
theorem ok46:OvOk Tryd.prog (ovP 46 S46.F o82):=S46.ok no_count mixed ok82 fun args w v hl h=>by
 obtain ⟨pv,lv,b,L,ws,s,ls,rfl,h1,h2,hT,_,rfl⟩:=h
 obtain ⟨v',w',hc,e⟩:=run46 (ov:=o82) (chN rfl) (chN rfl) (chH rfl) b L ws s ls hT pv lv w hl h1 h2
 exact ⟨rfl,3,v',w',_,hc,e⟩
noncomputable def l164:List (Nat × PureF):=(164,S164.F)::l46
noncomputable def o164:Ov:=ovL l164
theorem ok164:OvOk Tryd.prog (ovP 164 S164.F o46):=S164.ok no_count mixed ok46 fun args w v hl h=>by
 obtain ⟨p,rfl,h1,_,rfl⟩:=h
 obtain ⟨v',w',hc,e⟩:=run164 (ov:=o46) (chN rfl) p h1 w hl
 exact ⟨rfl,2,v',w',_,hc,e⟩
noncomputable def l166:List (Nat × PureF):=(166,S166.F)::l164
noncomputable def o166:Ov:=ovL l166
theorem ok166:OvOk Tryd.prog (ovP 166 S166.F o164):=S166.ok no_count mixed ok164 fun args w v hl h=>by
 obtain ⟨p,rfl,h1,h2,_,rfl⟩:=h
 obtain ⟨v',w',hc,e⟩:=run166 (ov:=o164) (chN rfl) p h1 h2 w hl
 exact ⟨rfl,2,v',w',_,hc,e⟩
noncomputable def l167:List (Nat × PureF):=(167,S167.F)::l166
noncomputable def o167:Ov:=ovL l167
theorem ok167:OvOk Tryd.prog (ovP 167 S167.F o166):=S167.ok no_count mixed ok166 fun args w v hl h=>by
 obtain ⟨p,rfl,h1,h2,_,rfl⟩:=h
 obtain ⟨v',w',hc,e⟩:=run167 (ov:=o166) (chN rfl) p h1 h2 w hl
 exact ⟨rfl,2,v',w',_,hc,e⟩
noncomputable def l130:List (Nat × PureF):=(130,S130.F)::l167
noncomputable def o130:Ov:=ovL l130
theorem ok130:OvOk Tryd.prog (ovP 130 S130.F o167):=S130.ok no_count mixed ok167 fun args w v hl h=>by
 obtain ⟨s,p,lv,rfl,hv,h1,h2,_,rfl⟩:=h
 obtain ⟨v',w',hc,e⟩:=run130 (ov:=o167) (chN rfl) (chH rfl) s p lv h1 h2 w hl hv
 exact ⟨rfl,2,v',w',_,hc,e⟩
noncomputable def l131:List (Nat × PureF):=(131,S131.F)::l130
noncomputable def o131:Ov:=ovL l131
theorem ok131:OvOk Tryd.prog (ovP 131 S131.F o130):=S131.ok no_count mixed ok130 fun args w v hl h=>by
 obtain ⟨s,p,lv,rfl,hv,h1,h2,_,rfl⟩:=h
 obtain ⟨v',w',hc,e⟩:=run131 (ov:=o130) (chN rfl) (chH rfl) s p lv h1 h2 w hl hv
 exact ⟨rfl,2,v',w',_,hc,e⟩
noncomputable def l108:List (Nat × PureF):=(108,S108.F)::l131
noncomputable def o108:Ov:=ovL l108
theorem ok108:OvOk Tryd.prog (ovP 108 S108.F o131):=S108.ok no_count mixed ok131 fun args w v hl h=>by
 obtain ⟨s,l,lv,rfl,hv,h1,h2,_,rfl⟩:=h
 obtain ⟨v',w',hc,e⟩:=run108 (ov:=o131) (chN rfl) (chH rfl) s l lv h1 h2 w hl hv
 exact ⟨rfl,2,v',w',_,hc,e⟩
noncomputable def l110:List (Nat × PureF):=(110,S110.F)::l108
noncomputable def o110:Ov:=ovL l110
theorem ok110:OvOk Tryd.prog (ovP 110 S110.F o108):=S110.ok no_count mixed ok108 fun args w v hl h=>by
 obtain ⟨b,pv,L,W,rfl,hv,h1,hL,h2,h3,_,rfl⟩:=h
 obtain ⟨v',w',hc,e⟩:=run110 (ov:=o108) (chN rfl) (chN rfl) (chH rfl) (chH rfl) (chH rfl) b pv L W h1 hL h2 h3 w hl hv
 exact ⟨(narR_ground _),3,v',w',_,hc,e⟩
noncomputable def l45:List (Nat × PureF):=(45,S45.F)::l110
noncomputable def o45:Ov:=ovL l45
theorem ok45:OvOk Tryd.prog (ovP 45 S45.F o110):=S45.ok no_count mixed ok110 fun args w v hl h=>by
 obtain ⟨b,p,n,c,rfl,hn,rfl⟩:=h
 obtain ⟨v',w',hc,e⟩:=run45 (ov:=o110) (chN rfl) b p n c hn w
 exact ⟨rfl,2,v',w',_,hc,e⟩
noncomputable def l77:List (Nat × PureF):=(77,S77.F)::l45
noncomputable def o77:Ov:=ovL l77
theorem ok77:OvOk Tryd.prog (ovP 77 S77.F o45):=S77.ok no_count mixed ok45 fun args w v hl h=>by
 obtain ⟨b,pv,lv,L,l,rfl,hpv,hlen,hL,hb,hlv,h10,hR,hLim,_,rfl⟩:=h
 obtain ⟨v',w',hc,e⟩:=run77 (ov:=o45) (chN rfl) (chN rfl) (chH rfl) (chH rfl) (chH rfl) b hb L hlen hL l h10 hR pv lv w hl hLim hpv hlv
 exact ⟨(narR_ground _),3,v',w',_,hc,e⟩
noncomputable def l111:List (Nat × PureF):=(111,S111.F)::l77
noncomputable def o111:Ov:=ovL l111
theorem ok111:OvOk Tryd.prog (ovP 111 S111.F o77):=S111.ok no_count mixed ok77 fun args w v hl h=>by
 obtain ⟨b,pv,L,V,D,rfl,hpv,hlen,hL,hV,hVb,hD,_,rfl⟩:=h
 obtain ⟨v',w',hc,e⟩:=run111 (ov:=o77) (chN rfl) (chH rfl) (chH rfl) b pv L V D hlen hL hV hVb hD w hl hpv
 exact ⟨(rows_ground _),2,v',w',_,hc,e⟩
noncomputable def l42:List (Nat × PureF):=(42,S42.F)::l111
noncomputable def o42:Ov:=ovL l42
theorem ok42:OvOk Tryd.prog (ovP 42 S42.F o111):=S42.ok no_count mixed ok111 fun args w v hl h=>by
 obtain ⟨b,pv,L,lim,rfl,hpv,hlen,hL,hb,hLim,_,rfl⟩:=h
 obtain ⟨v',w',hc,e⟩:=run42 (ov:=o111) (chN rfl) (chN rfl) (chH rfl) (chH rfl) (chH rfl) (chH rfl) (chH rfl) b hb pv L lim hlen hL w hl hLim hpv
 exact ⟨rfl,4,v',w',_,hc,e⟩
noncomputable def l17:List (Nat × PureF):=(17,S17.F)::l42
noncomputable def o17:Ov:=ovL l17
theorem ok17:OvOk Tryd.prog (ovP 17 S17.F o42):=S17.ok no_count mixed ok42 fun args w v hl h=>by
 obtain ⟨rv,dv,av,r,d,b,acts,lim,rfl,h1,h2,h3,hL,_,rfl⟩:=h
 obtain ⟨v',w',hc,e⟩:=run17 (ov:=o42) (chN rfl) (chN rfl) (chH rfl) (chH rfl) (chH rfl) r d b acts lim rv dv av w hl hL h1 h2 h3
 exact ⟨(reachR_ground _ _ _ _ _),3,v',w',_,hc,e⟩
noncomputable def l112:List (Nat × PureF):=(112,S112.F)::l17
noncomputable def o112:Ov:=ovL l112
theorem ok112:OvOk Tryd.prog (ovP 112 S112.F o17):=S112.ok no_count mixed ok17 fun args w v hl h=>by
 obtain ⟨lv,l,n,rfl,hv,hL,_,rfl⟩:=h
 obtain ⟨v',w',hc,e⟩:=run112 (ov:=o17) (chN rfl) (chH rfl) l n lv w hl hL hv
 exact ⟨rfl,2,v',w',_,hc,e⟩
noncomputable def l79:List (Nat × PureF):=(79,S79.F)::l112
noncomputable def o79:Ov:=ovL l79
theorem ok79:OvOk Tryd.prog (ovP 79 S79.F o112):=S79.ok no_count mixed ok112 fun args w v hl h=>by
 obtain ⟨rv,dv,av,lv,r,d,b,acts,l,rfl,h1,h2,h3,h4,hL,_,rfl⟩:=h
 obtain ⟨v',w',hc,e⟩:=run79 (ov:=o112) (chN rfl) (chH rfl) (chH rfl) r d b acts l rv dv av lv w hl hL h1 h2 h3 h4
 exact ⟨rfl,2,v',w',_,hc,e⟩
theorem topNo:No2 o79:=⟨⟨chN rfl,chN rfl,chN rfl,chN rfl⟩,chN rfl,chN rfl,chN rfl⟩
theorem topHas:Has2 o79:=⟨chH rfl,chH rfl,chH rfl,chH rfl,chH rfl,chH rfl,chH rfl,chH rfl,chH rfl,chH rfl,chW rfl⟩
theorem top4 {lv pv rv dv av bv:Value} {l:List Pod} {pl:List Int} {r:List CAct} {d:List CDay} {acts bits:List Int} {so li:Sp} {w:AW} (hl:w.lim≤w.next) (hn4:4≤w.next) (hLi:LimAt w) (hPa:PartsAt w) (hbits:bits.length≤2 ^ 60)
  (h1:PodsV w lv l) (h2:RowsV intC w pv pl) (h3:RowsV actC w rv r) (h4:RowsV cdayC w dv d) (h5:RowsV intC w av acts) (h6:RowsV intC w bv bits) :
  ∃ w' x',(run Tryd.prog o79 4).call 4 [.agg ⟨[lv,pv,rv,dv,.int .i64 so.1,.int .i64 so.2,av,.int .i64 li.1,.int .i64 li.2]⟩,bv] w .none=.ok (.ret (.bool true)) w' x':=by
 obtain ⟨_,w',hc,rfl⟩:=run4 (ov:=o79) (so:=so) (li:=li) 0 (chN rfl) topNo (chN rfl) topHas (chH rfl) (chH rfl) hl hn4 hLi hPa hbits h1 h2 h3 h4 h5 h6
 exact ⟨w',_,hc⟩
open Go Go.Sh Go.ChangeShapes
theorem ty61:tyOk Tryd.prog 8 61=true:=by kernel_rfl
theorem ty27:tyOk Tryd.prog 8 27=true:=by kernel_rfl
theorem u3:Tryd.prog.underlying 3=some (.int .i64):=by kernel_rfl
theorem u4:Tryd.prog.underlying 4=some .bool:=by kernel_rfl
theorem u9:Tryd.prog.underlying 9=some .string:=by kernel_rfl
theorem u27:Tryd.prog.underlying 27=some (.slice 3):=by kernel_rfl
theorem u56:Tryd.prog.underlying 56=some (.slice 33):=by kernel_rfl
theorem u58:Tryd.prog.underlying 58=some (.slice 77):=by kernel_rfl
theorem u59:Tryd.prog.underlying 59=some (.slice 118):=by kernel_rfl
theorem u24:Tryd.prog.underlying 24=some (.struct (fieldsOf Tryd.prog 24)):=by kernel_rfl
theorem u33:Tryd.prog.underlying 33=some (.struct (fieldsOf Tryd.prog 33)):=by kernel_rfl
theorem u61:Tryd.prog.underlying 61=some (.struct (fieldsOf Tryd.prog 61)):=by kernel_rfl
theorem u77:Tryd.prog.underlying 77=some (.struct (fieldsOf Tryd.prog 77)):=by kernel_rfl
theorem u118:Tryd.prog.underlying 118=some (.struct (fieldsOf Tryd.prog 118)):=by kernel_rfl
theorem f24:(fieldsOf Tryd.prog 24).toList.map (fun f=>(f.type,f.offset))=[(3,0),(3,1)]:=by kernel_rfl
theorem f33:(fieldsOf Tryd.prog 33).toList.map (fun f=>(f.type,f.offset))=[(9,0),(3,1),(24,2),(24,4),(24,6)]:=by kernel_rfl
theorem f61:(fieldsOf Tryd.prog 61).toList.map (fun f=>(f.type,f.offset))=[(56,0),(27,1),(58,2),(59,3),(24,4),(27,6),(24,7)]:=by kernel_rfl
theorem f77:(fieldsOf Tryd.prog 77).toList.map (fun f=>(f.type,f.offset))=[(3,0),(3,1),(4,2),(4,3),(3,4),(24,5)]:=by kernel_rfl
theorem f118:(fieldsOf Tryd.prog 118).toList.map (fun f=>(f.type,f.offset))=[(24,0),(4,2)]:=by kernel_rfl
theorem c3:Tryd.prog.cellsOf 3=1:=by kernel_rfl
theorem c4:Tryd.prog.cellsOf 4=1:=by kernel_rfl
theorem c9:Tryd.prog.cellsOf 9=1:=by kernel_rfl
theorem c24:Tryd.prog.cellsOf 24=2:=by kernel_rfl
theorem c27:Tryd.prog.cellsOf 27=1:=by kernel_rfl
theorem c33:Tryd.prog.cellsOf 33=8:=by kernel_rfl
theorem c56:Tryd.prog.cellsOf 56=1:=by kernel_rfl
theorem c58:Tryd.prog.cellsOf 58=1:=by kernel_rfl
theorem c59:Tryd.prog.cellsOf 59=1:=by kernel_rfl
theorem c61:Tryd.prog.cellsOf 61=9:=by kernel_rfl
theorem c77:Tryd.prog.cellsOf 77=7:=by kernel_rfl
theorem c118:Tryd.prog.cellsOf 118=3:=by kernel_rfl
theorem b3:Tryd.prog.bytesOf 3=8:=by kernel_rfl
theorem toBoolW {H:T AObj} {n:Nat} {cs:List Value} (h:WT Tryd.prog H n 4 cs):∃ b,cs=[.bool b]:=by
 cases h with
 | bool hu=>exact ⟨_,rfl⟩
 | int hu _=>rw [u4] at hu; cases hu
 | string hu _=>rw [u4] at hu; cases hu
 | slNil hu=>rw [u4] at hu; cases hu
 | sl0 hu=>rw [u4] at hu; cases hu
 | sl hu _ _ _ _ _ _=>rw [u4] at hu; cases hu
 | struct hu _ _=>rw [u4] at hu; cases hu
 | array hu _ _=>rw [u4] at hu; cases hu
theorem span_of {H:T AObj} {n:Nat} {cs:List Value} (h:WT Tryd.prog H n 24 cs):∃ a b,cs=[.int .i64 a,.int .i64 b]:=by
 obtain ⟨hl,hf⟩:=h.toStruct u24
 rw [f24] at hf
 rw [c24] at hl
 obtain ⟨a,ha,_⟩:=(hf (3,0) (by simp)).toInt u3
 obtain ⟨b,hb,_⟩:=(hf (3,1) (by simp)).toInt u3
 rw [c3] at ha hb
 match cs,hl with
 | [x,y],_ =>
  simp at ha hb
  exact ⟨a,b,by rw [ha,hb]⟩
theorem act_ofW {H:T AObj} {n:Nat} {cs:List Value} (h:WT Tryd.prog H n 77 cs):∃ a,cs=actC a:=by
 obtain ⟨hl,hf⟩:=h.toStruct u77
 rw [f77] at hf
 rw [c77] at hl
 obtain ⟨a,ha,_⟩:=(hf (3,0) (by simp)).toInt u3
 obtain ⟨b,hb,_⟩:=(hf (3,1) (by simp)).toInt u3
 obtain ⟨c,hc⟩:=toBoolW (hf (4,2) (by simp))
 obtain ⟨d,hd⟩:=toBoolW (hf (4,3) (by simp))
 obtain ⟨e,he,_⟩:=(hf (3,4) (by simp)).toInt u3
 obtain ⟨p,q,hp⟩:=span_of (hf (24,5) (by simp))
 rw [c3] at ha hb he
 rw [c4] at hc hd
 rw [c24] at hp
 match cs,hl with
 | [x0,x1,x2,x3,x4,x5,x6],_ =>
  simp at ha hb hc hd he hp
  exact ⟨⟨a,b,c,d,e,p,q⟩,by rw [ha,hb,hc,hd,he,hp.1,hp.2]; rfl⟩
theorem day_ofW {H:T AObj} {n:Nat} {cs:List Value} (h:WT Tryd.prog H n 118 cs):∃ a,cs=cdayC a:=by
 obtain ⟨hl,hf⟩:=h.toStruct u118
 rw [f118] at hf
 rw [c118] at hl
 obtain ⟨p,q,hp⟩:=span_of (hf (24,0) (by simp))
 obtain ⟨c,hc⟩:=toBoolW (hf (4,2) (by simp))
 rw [c4] at hc
 rw [c24] at hp
 match cs,hl with
 | [x0,x1,x2],_ =>
  simp at hc hp
  exact ⟨⟨p,q,c⟩,by rw [hc,hp.1,hp.2]; rfl⟩
theorem pod_of {H:T AObj} {n:Nat} {cs:List Value} (h:WT Tryd.prog H n 33 cs):∃ p,cs=podC p:=by
 obtain ⟨hl,hf⟩:=h.toStruct u33
 rw [f33] at hf
 rw [c33] at hl
 obtain ⟨s,hs,_⟩:=(hf (9,0) (by simp)).toStr u9
 obtain ⟨b,hb,_⟩:=(hf (3,1) (by simp)).toInt u3
 obtain ⟨rl,rh,hr⟩:=span_of (hf (24,2) (by simp))
 obtain ⟨hl',hh,hh'⟩:=span_of (hf (24,4) (by simp))
 obtain ⟨gl,gh,hg⟩:=span_of (hf (24,6) (by simp))
 rw [c9] at hs
 rw [c3] at hb
 rw [c24] at hr hh' hg
 match cs,hl with
 | [x0,x1,x2,x3,x4,x5,x6,x7],_ =>
  simp at hs hb hr hh' hg
  exact ⟨⟨s,b,rl,rh,hl',hh,gl,gh⟩,by rw [hs,hb,hr.1,hr.2,hh'.1,hh'.2,hg.1,hg.2]; rfl⟩
theorem podsW_of {H:T AObj} {n lim:Nat} {cs:List Value} (h:WT Tryd.prog H n 56 cs):∃ v l,cs=[v]∧PodsV ⟨H,n,lim⟩ v l:=by
 rcases WT.toSlice u56 h with ⟨a,ha⟩ | ⟨b,k,c,ty,ro,ha,hb,hg,hk,_,hc,he⟩
 ·exact ⟨_,[],ha,.inl ⟨a,0,rfl,rfl⟩⟩
 ·rw [c33] at hc he
  obtain ⟨l,h1,h2⟩:=chunks (f:=podC) podC_length k c hc fun i hi=>pod_of (he i hi)
  subst h1
  refine ⟨_,l,ha,.inr ⟨b,some 1,l.length,rfl,⟨[],ty,ro,?_⟩,hb⟩⟩
  rw [hg,List.append_nil,h2]; rfl
theorem ints_of {H:T AObj} {n lim:Nat} {cs:List Value} (h:WT Tryd.prog H n 27 cs):∃ v l,cs=[v]∧RowsV intC ⟨H,n,lim⟩ v l :=
 rows_of_WT u27 c3 intC_length (fun cs h=>by
  obtain ⟨z,hz,_⟩:=h.toInt u3
  exact ⟨z,hz⟩) h
theorem batch_arg {A:AW} {m:Value} (h:ArgT Tryd.prog A.heap A.next 61 m):∃ lv pv rv dv av l pl r d acts,∃ so li:Sp,m=.agg ⟨[lv,pv,rv,dv,.int .i64 so.1,.int .i64 so.2,av,.int .i64 li.1,.int .i64 li.2]⟩∧PodsV A lv l∧RowsV intC A pv pl∧RowsV actC A rv r∧RowsV cdayC A dv d∧RowsV intC A av acts:=by
 unfold ArgT at h
 rw [u61] at h
 obtain ⟨c,rfl,h⟩:=h
 obtain ⟨hl,hf⟩:=h.toStruct u61
 rw [f61] at hf
 rw [c61] at hl
 obtain ⟨lv,l,h1,hL⟩:=podsW_of (lim:=A.lim) (hf (56,0) (by simp))
 obtain ⟨pv,pl,h2,hP⟩:=ints_of (lim:=A.lim) (hf (27,1) (by simp))
 obtain ⟨rv,r,h3,hR⟩:=rows_of_WT (lim:=A.lim) u58 c77 actC_length (fun cs h=>act_ofW h) (hf (58,2) (by simp))
 obtain ⟨dv,d,h4,hD⟩:=rows_of_WT (lim:=A.lim) u59 c118 cdayC_length (fun cs h=>day_ofW h) (hf (59,3) (by simp))
 obtain ⟨s1,s2,h5⟩:=span_of (hf (24,4) (by simp))
 obtain ⟨av,acts,h6,hA⟩:=ints_of (lim:=A.lim) (hf (27,6) (by simp))
 obtain ⟨l1,l2,h7⟩:=span_of (hf (24,7) (by simp))
 rw [c56] at h1
 rw [c27] at h2 h6
 rw [c58] at h3
 rw [c59] at h4
 rw [c24] at h5 h7
 match c,hl with
 | [x0,x1,x2,x3,x4,x5,x6,x7,x8],_ =>
  simp at h1 h2 h3 h4 h5 h6 h7
  exact ⟨lv,pv,rv,dv,av,l,pl,r,d,acts,(s1,s2),(l1,l2),by rw [h1,h2,h3,h4,h5.1,h5.2,h6,h7.1,h7.2],hL,hP,hR,hD,hA⟩
theorem ints_arg {A:AW} {m:Value} (h:ArgT Tryd.prog A.heap A.next 27 m):∃ l,RowsV intC A m l:=by
 unfold ArgT at h
 rw [u27] at h
 obtain ⟨v,l,hv,hr⟩:=ints_of (lim:=A.lim) h
 cases hv
 exact ⟨l,hr⟩
theorem short_of {A:AW} {m:Value} {L:List Int} (h:RowsV intC A m L) (k:∀ (a:Option Addr) (n c:Nat),m=.slice a n c→n * Tryd.prog.bytesOf 3≤reachBytes):L.length≤2 ^ 60:=by
 obtain ⟨a,c,e⟩:=h.len
 have:=k a _ c e
 rw [b3] at this
 unfold reachBytes at this
 omega
theorem lim_start:(startH laidL).get 0=some (.cells limC 179 true):=by
 show (((startH []).put 1 (some (.cells partsC 200 true))).put 0 (some (.cells limC 179 true))).get 0=_
 rw [get_put,if_pos rfl]
theorem parts_start:(startH laidL).get 1=some (.cells partsC 200 true):=by
 show (((startH []).put 1 (some (.cells partsC 200 true))).put 0 (some (.cells limC 179 true))).get 1=_
 rw [get_put,if_neg (by decide),get_put,if_pos rfl]
theorem start_true (A:AW) (ms:List Value) (hl:A.lim=A.next) (hG:Tryd.prog.globals.size≤A.next) (hs:∀ b,b < Tryd.prog.globals.size→A.heap.get b=(startH laidL).get b) (hms:ArgsT Tryd.prog A.heap A.next [61,27] ms) (hz:∀ (j:Nat) t e a k c,([61,27]:List TypeId)[j]?=some t→Tryd.prog.underlying t=some (.slice e)→ms[j]?=some (.slice a k c)→k * Tryd.prog.bytesOf e≤reachBytes) :
  ∃ A' x',(run Tryd.prog o79 4).call 4 ms A .none=.ok (.ret (.bool true)) A' x':=by
 rw [globals4] at hG hs
 match ms,hms,hz with
 | [m,u],hm,hz =>
  obtain ⟨lv,pv,rv,dv,av,l,pl,r,d,acts,so,li,rfl,h1,h2,h3,h4,h5⟩:=batch_arg hm.1
  obtain ⟨bits,h6⟩:=ints_arg hm.2.1
  exact top4 (Nat.le_of_eq hl) hG ⟨true,by rw [hs 0 (by decide),lim_start]⟩ ⟨true,by rw [hs 1 (by decide),parts_start]⟩ (short_of h6 fun a n c e=>hz 1 27 3 a n c rfl u27 (by rw [e]; rfl)) h1 h2 h3 h4 h5 h6
open Go.ChangeShapes Go.WideShapes Go.ChangeAt Go.RowKit Go.Sh
theorem own:ownKnob Tryd.prog.godebug=none:=by kernel_rfl
theorem row0:RowOf Tryd.prog 0 14 179:=.of (by kernel_rfl)
theorem row1:RowOf Tryd.prog 1 16 200:=.of (by kernel_rfl)
theorem g0:Tryd.prog.globalNamed "rostellum/cure.limits"=some 0:=by kernel_rfl
theorem g1:Tryd.prog.globalNamed "rostellum/pod.parts"=some 1:=by kernel_rfl
theorem t0:(Tryd.prog.globals[0]?).map (·.type)=some 179:=by kernel_rfl
theorem t1:(Tryd.prog.globals[1]?).map (·.type)=some 200:=by kernel_rfl
theorem lim_dat:datC Tryd.prog 5 179 Rows.laid_rostellum_cure_limits=some limC:=by kernel_rfl
theorem parts_dat:datC Tryd.prog 5 200 Rows.laid_rostellum_pod_parts=some partsC:=by kernel_rfl
def laidRow:List (String × DataW Unit):=[("rostellum/cure.limits",Rows.laid_rostellum_cure_limits),("rostellum/pod.parts",Rows.laid_rostellum_pod_parts)]
theorem laid_ok {W:World} (hs:W.ShapedOpen Tryd.prog) (hL:laidMet Tryd.prog laidRow W):LaidOk Tryd.prog W laidL:=by
 intro x hx
 unfold laidL at hx
 rcases List.mem_cons.1 hx with rfl | hx
 ·exact laid_plain hs hL (.head _) g0 (by rw [globals4]; decide) t0 lim_dat (by kernel_rfl) row0
 rcases List.mem_cons.1 hx with rfl | hx
 ·exact laid_plain hs hL (.tail _ (.head _)) g1 (by rw [globals4]; decide) t1 parts_dat (by kernel_rfl) row1
 ·cases hx
theorem kids:Kids Tryd.prog (· < Tryd.prog.types.size):=kids_rows (by kernel_rfl) (by kernel_rfl)
theorem wide:slicesWide Tryd.prog=true:=by kernel_rfl
noncomputable def laidWorld (os:Os):World :=
 let w0:=World.holding Tryd.prog os ⟨#[],#[],[]⟩
 let put (h:Array Obj) (g:Nat) (cs:Array Value):Array Obj:=h.modify g fun
  | .cells _ t frozen=>.cells cs t frozen
  | o=>o
 { w0 with heap:=put (put w0.heap 0 limC.toArray) 1 partsC.toArray }
theorem laid_met (os:Os) (args:Array Value):laidMet Tryd.prog laidRow ((laidWorld os).forCall (fun _ _=>0) ⟨#[],args,[]⟩).memory :=
 laidMet_of_run' 8 (by kernel_rfl) (by kernel_rfl)
theorem reads (os:Os) {H:Type} (enc:TypeId × Value→H):∃ places,DataW.whole enc Tryd.prog ((laidWorld os).forCall (fun _ _=>0) ⟨#[],#[.agg ⟨[.slice none 0 0,.slice none 0 0,.slice none 0 0,.slice none 0 0,.int .i64 0,.int .i64 0,.slice none 0 0,.int .i64 0,.int .i64 0]⟩,.slice none 0 0],[]⟩).memory Tryd.f4.params.toList Rows.topCuredSpec.vars false (#[Value.agg ⟨[.slice none 0 0,.slice none 0 0,.slice none 0 0,.slice none 0 0,.int .i64 0,.int .i64 0,.slice none 0 0,.int .i64 0,.int .i64 0]⟩,.slice none 0 0]:Array Value).toList 8=some ([.agg [.nil,.nil,.nil,.nil,.agg [.lit (.int .i64 0),.lit (.int .i64 0)],.nil,.agg [.lit (.int .i64 0),.lit (.int .i64 0)]],.nil],[],places) :=
 ⟨[],by kernel_rfl⟩
theorem mem_all {t a b:Nat} (h:t ∈ [a,b]):t=a∨t=b:=by simpa using h
theorem params4:Tryd.f4.params.toList=[61,27]:=by kernel_rfl
set_option maxRecDepth 100000 in
theorem contract (H:Type) (enc:TypeId × Value→H) (W:World) (base:Nat) (args:Array Value) (ds gs:List (DataW H)) (before:List MemPlace)
  (hval:∀ (j:Nat) t v,Tryd.f4.params[j]?=some t→args[j]?=some v→Value.okWide Tryd.prog W .any base t v)
  (hW:DataW.Whole enc Tryd.prog Tryd.f4.params.toList Rows.topCuredSpec.vars false W args.toList ds gs before) {tw:List TypeId} (hz:(DataW.weightsEach Tryd.prog (Tryd.f4.params.toList++tw) (ds++gs)).all (·≤reachBytes)=true) (hL:laidMet Tryd.prog laidRow W) (hs:W.ShapedOpen Tryd.prog) :
  Calls Tryd.prog 4 args W fun e W'=>∃ v,e=.returned v∧Rows.topCuredSpec.post enc Tryd.prog Tryd.f4 false true false false W args v W':=by
 have hW':=hW
 obtain ⟨vs⟩:=args
 obtain ⟨p,q,hA,hV,rfl,hfz,hnd⟩:=hW
 obtain ⟨rfl,rfl⟩:=trodVars_none hV
 have hA':=hA
 rw [params4] at hA'
 rw [params4] at hz
 obtain ⟨_,hlen⟩:=trodAll_length _ _ _ _ hA'
 have key:=input_sized no_count mixed ok79 (laid_ok hs hL) (d:=8) (ts:=[61,27]) (f:=4) (m:=4) (fun t ht=>by rcases mem_all ht with rfl | rfl; exact ty61; exact ty27) (fun j t v h1 h2=>hval j t v (by rw [← Array.getElem?_toList,params4]; exact h1) (by simpa using h2)) hA' hlen hz start_true
 match ds,hlen with
 | [d1,d2],_ =>
  refine key.mono fun e W' ⟨he,hk⟩=>?_
  subst he
  exact ⟨_,rfl,post_stays (pa:=p) (pv:=[]) hW' (fun _ _ _=>trodAll_cons_mk (shut_bool Tryd.underlying4 _) trodAll_mk0)
   (fun sp hsp=>by
    show DataW.TrodAll enc Tryd.prog W' 0 sp true Tryd.f4.params.toList vs [d1,d2] p
    rw [params4]
    exact args_again kids wide hk [61,27] vs [d1,d2] p (fun t ht=>by rcases mem_all ht with rfl | rfl <;> decide +kernel) hA' (fun x hx=>hW'.lt x (by simpa using hx)) (fun x hx=>hsp x (by simpa using hx)))
   (fun _ _=>rfl) rfl hk (ok_one (by kernel_rfl) rfl (okWide_bool_mk Tryd.underlying4 _))⟩
set_option maxRecDepth 100000 in
theorem lifted (os:Os) (started:os.Started) (H:Type) (enc:TypeId × Value→H) (F:Stop.Interp) :
  ReturnsInHanded {} Tryd.checked os 4 .any ((OpenSpec.ofChange Rows.topCuredSpec).preRow enc Tryd.prog Tryd.f4 Rows.topCuredRow.domain false Rows.topCuredRow.laid) (((OpenSpec.ofChange Rows.topCuredSpec).at F).post enc Tryd.prog Tryd.f4 false true false false):=by
 obtain ⟨places,hx⟩:=reads os enc
 refine returnsInHanded_of_row (C:=Tryd.checked) (s:=OpenSpec.ofChange Rows.topCuredSpec) own started (by kernel_rfl) Tryd.func4
  (witness_row_atRef (enc:=enc) (C:=Tryd.checked) false (laidWorld os) #[.agg ⟨[.slice none 0 0,.slice none 0 0,.slice none 0 0,.slice none 0 0,.int .i64 0,.int .i64 0,.slice none 0 0,.int .i64 0,.int .i64 0]⟩,.slice none 0 0] rfl (by kernel_rfl) (by kernel_rfl) (by kernel_rfl)
   (OpenSpec.preRow_of_cond 8 hx (by kernel_rfl) (fun k hk=>by cases hk) (by kernel_rfl) (laid_met os _))) ?_
 intro W base args ds gs before hval hW _ _ hz hL hs _
 exact contract H enc W base args ds gs before hval hW hz hL hs
theorem said:Rows.TopCuredSaid :=
 OpenClaim.holds_of_cond 4 Tryd.f4 rfl rfl rfl rfl rfl rfl rfl ⟨rfl,rfl,rfl,rfl,rfl⟩ rfl rfl rfl rfl rfl (by kernel_rfl) Tryd.func4 (by kernel_rfl)
  (of_decide_eq_true (by kernel_rfl)) (by unfold Func.isWrapper; first | (rw [if_pos (by decide +kernel)]; kernel_rfl) | (rw [if_neg (by decide +kernel)]; exact ⟨rfl,rfl⟩))
  (fun os started H enc _ F=>by rw [OpenClaim.pre_eq_preRow]; exact lifted os started H enc F)
theorem plain (f:FuncId) (fn:Func) (hf:Tryd.pinned.checked.prog.funcNamed "rostellum/rostellumtop.TopCured"=some f) (hfn:Tryd.pinned.checked.prog.funcs[f]?=some fn) :
  false=Tryd.pinned.checked.prog.looks []∧∀ (j:Nat) t,fn.params[j]?=some t→Tryd.pinned.checked.prog.wantsStandIn t=false:=by
 obtain rfl:f=4:=Option.some.inj ((show Tryd.prog.funcNamed "rostellum/rostellumtop.TopCured"=some 4 by kernel_rfl).symm.trans hf) |>.symm
 obtain rfl:fn=Tryd.f4:=(Option.some.inj (Tryd.func4.symm.trans hfn)).symm
 refine ⟨by kernel_rfl,fun j t ht=>?_⟩
 have h1:t ∈ Tryd.f4.params.toList:=by
  rw [← Array.getElem?_toList] at ht
  exact List.mem_of_getElem? ht
 rw [params4] at h1
 have k27:Tryd.prog.wantsStandIn 27=false:=by kernel_rfl
 have k61:Tryd.prog.wantsStandIn 61=false:=by kernel_rfl
 rcases mem_all h1 with rfl | rfl
 ·exact k61
 ·exact k27
set_option maxRecDepth 100000 in
theorem card:Rows.TopCuredCardSaid :=
 Claim7.holds_tied_plain_at .later [] _ _ _ _ said (fun _ h=>by cases h) (by kernel_rfl) (fun _ h=>by cases h) topCured_row_tie rfl ⟨rfl,rfl⟩ (by kernel_rfl) rfl plain (by kernel_rfl)
end Go.Proofs.YtabiiddijccmdaaDoor.walk
