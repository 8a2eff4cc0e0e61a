/- Part of a proof by a machine of ones own: see the text with the theorem. -/
import Derived.Test.YtaiiampennkhiaaDoorVT
import Derived.Test.YtaiiampennkhiaaDoorQBc
namespace Go.Proofs.YtaiiampennkhiaaDoor.walk
open Go Go.Sh
open known (partsC laidL noOv)
set_option maxRecDepth 100000
set_option linter.unusedSimpArgs false
def plM (l:List Pod) (a b:Int):List Int:=l.map fun p=>cutI p (refL l a b)
theorem plM_at {l:List Pod} {a b:Int} {j:Nat} {p:Pod} (hp:l[j]?=some p):(plM l a b)[j]?=some (cutI p (refL l a b)):=by
 unfold plM; rw [List.getElem?_map,hp]; rfl
theorem plan_each {l:List Pod} {a b:Int} (hE:mkErr l a b=0) {j:Nat} {p:Pod} (hp:l[j]?=some p) :
  podDay p (cutI p (refL l a b))∧(endsY (podS p (cutI p (refL l a b)))).1.green=0∧(endsY (podS p (cutI p (refL l a b)))).2.green=0∧(endsY (podS p (cutI p (refL l a b)))).1.split=0∧(endsY (podS p (cutI p (refL l a b)))).2.split=0:=by
 have hB:=pods_all (mk_span hE).1 hp
 rcases plan_cut hE hp with ⟨_,w1,w2,_⟩ | ⟨_,hc⟩
 ·obtain ⟨h1,_,h2⟩:=win_ends hB w1 w2
  exact ⟨h1,h2⟩
 ·rw [hc]
  obtain ⟨h1,_,h2⟩:=no_ends hB
  exact ⟨h1,h2⟩
theorem plan_okB {l:List Pod} {a b:Int} (hE:mkErr l a b=0):planB l (plM l a b)=true:=by
 have key:∀ n,n≤l.length→planTo l (plM l a b) n=true:=by
  intro n
  induction n with
  | zero=>intro _; rfl
  | succ n ih =>
   intro h
   obtain ⟨p,hp⟩:∃ p,l[n]?=some p:=⟨_,List.getElem?_eq_getElem (by omega)⟩
   rw [plan_snoc hp (plM_at hp),ih (by omega),(plan_each hE hp).1.2]; rfl
 have hl:(plM l a b).length=l.length:=by unfold plM; simp
 simp [planB,hl,key l.length (Nat.le_refl _)]
theorem es_zero {l:List Pod} {a b:Int} (hE:mkErr l a b=0) {e:Yl × Yl} (he:e ∈ esH l (plM l a b)):e.1.green=0∧e.2.green=0∧e.1.split=0∧e.2.split=0:=by
 obtain ⟨i,hi⟩:=List.getElem?_of_mem he
 have hl:(plM l a b).length=l.length:=by unfold plM; simp
 have hlt:=(List.getElem?_eq_some_iff.1 hi).1
 rw [esH_length l _ hl] at hlt
 obtain ⟨p,hp⟩:∃ p,l[i]?=some p:=⟨_,List.getElem?_eq_getElem hlt⟩
 rw [esH_at l _ i p _ hp (plM_at hp)] at hi
 cases hi
 exact (plan_each hE hp).2
theorem plan_nums {l:List Pod} {a b:Int} (hE:mkErr l a b=0):(loS l (plM l a b)).green=0∧(hiS l (plM l a b)).green=0∧(loS l (plM l a b)).split=0∧(hiS l (plM l a b)).split=0∧(loS l (plM l a b)).ripe=(sureY l a b).ripe:=by
 refine ⟨sY_zero fun y hy=>?_,sY_zero fun y hy=>?_,sY_zero fun y hy=>?_,sY_zero fun y hy=>?_,?_⟩
 ·obtain ⟨e,he,rfl⟩:=List.mem_map.1 hy; exact (es_zero hE he).1
 ·obtain ⟨e,he,rfl⟩:=List.mem_map.1 hy; exact (es_zero hE he).2.1
 ·obtain ⟨e,he,rfl⟩:=List.mem_map.1 hy; exact (es_zero hE he).2.2.1
 ·obtain ⟨e,he,rfl⟩:=List.mem_map.1 hy; exact (es_zero hE he).2.2.2
 ·have h:=plan_sum hE l.length (Nat.le_refl _)
  rw [List.take_of_length_le (by
   have hl:(plM l a b).length=l.length:=by unfold plM; simp
   have:=esH_length l _ hl
   unfold plM at this
   rw [List.length_map,this]; exact Nat.le_refl _)] at h
  exact h
def cntI (l:List Pod) (a b:Int):Nat→Int
 | 0=>0
 | i + 1=>cntI l a b i + (match l[i]? with | some p=>if 0≤cutI p (refL l a b) then 1 else 0 | none=>0)
theorem cnt_snoc {l:List Pod} {a b:Int} {i:Nat} {p:Pod} (hp:l[i]?=some p):cntI l a b (i + 1)=cntI l a b i + (if 0≤cutI p (refL l a b) then 1 else 0):=by
 show cntI l a b i + _=_
 rw [hp]
theorem cnt_bd (l:List Pod) (a b:Int):∀ i:Nat,0≤cntI l a b i∧cntI l a b i≤i
 | 0=>⟨Int.le_refl _,Int.le_refl _⟩
 | i + 1=>by
  have h:=cnt_bd l a b i
  show 0≤cntI l a b i + _∧cntI l a b i + _≤((i + 1:Nat):Int)
  cases l[i]? with
  | none=>simp only; omega
  | some p=>simp only; split <;> omega
theorem left_sum {l:List Pod} {a b:Int} (hE:mkErr l a b=0) {R H G:List Int} (hT:truthB l R H G=true):∀ k,k≤l.length→sY Yl.left ((ysH l (plM l a b) R H G).take k) + cntI l a b k=k
 | 0,_=>rfl
 | k + 1,hk=>by
  obtain ⟨e1,e2,e3⟩:=truth_lens hT
  obtain ⟨p,hp⟩:∃ p,l[k]?=some p:=⟨_,List.getElem?_eq_getElem (by omega)⟩
  obtain ⟨r,hr⟩:∃ r,R[k]?=some r:=⟨_,List.getElem?_eq_getElem (by omega)⟩
  obtain ⟨h,hh⟩:∃ h,H[k]?=some h:=⟨_,List.getElem?_eq_getElem (by omega)⟩
  obtain ⟨g,hg⟩:∃ g,G[k]?=some g:=⟨_,List.getElem?_eq_getElem (by omega)⟩
  have hy:=ysH_at l (plM l a b) R H G k p _ r h g hp (plM_at hp) hr hh hg
  have ih:=left_sum hE hT k (by omega)
  rw [sY_snoc hy,cnt_snoc hp]
  obtain ⟨d,hd⟩:∃ d,d=cutI p (refL l a b):=⟨_,rfl⟩
  rw [← hd]
  have hc:d = -1∨0≤d:=by
   rw [hd]
   rcases plan_cut hE hp with ⟨_,_,_,_,_,h⟩ | ⟨_,h⟩
   ·exact .inr h
   ·exact .inl h
  have hleft:(ylI p.born d r h g).left=if d = -1 then 1 else 0:=by
   unfold ylI
   split
   ·rfl
   ·split
    ·rfl
    ·split <;> rfl
  rw [hleft]
  rcases hc with h1 | h1
  ·rw [if_pos h1,if_neg (by omega)]; omega
  ·rw [if_neg (by omega),if_pos h1]; omega
theorem left_all {l:List Pod} {a b:Int} (hE:mkErr l a b=0) {R H G:List Int} (hT:truthB l R H G=true):(sumYl (ysH l (plM l a b) R H G)).left=l.length - cntI l a b l.length:=by
 have h:=left_sum hE hT l.length (Nat.le_refl _)
 obtain ⟨e1,e2,e3⟩:=truth_lens hT
 rw [List.take_of_length_le (by rw [ysH_length l _ R H G (by unfold plM; simp) e1 e2 e3]; exact Nat.le_refl _)] at h
 show sY Yl.left _=_
 omega
end Go.Proofs.YtaiiampennkhiaaDoor.walk
namespace Go.Proofs.YtaiiampennkhiaaDoor.walk
open Go Go.Sh
open known (partsC laidL noOv)
set_option maxRecDepth 100000
set_option linter.unusedSimpArgs false
set_option maxHeartbeats 4000000 in
theorem loop11b {ov:Ov} (m:Nat) (h33:HasP ov 33 F33) (h37:HasP ov 37 F37) (l:List Pod) (a b:Int) (hE:mkErr l a b=0) (v y:Value) (c4:Nat) (w1:AW) (hlim:w1.lim≤w1.next) (hc4:c4 < w1.next) (hbox:w1.heap.get c4=some (.cells [.int .i64 a,.int .i64 b] 26 false)) (hv:PodsV w1 v l) (hy:RowsV intC w1 y (plM l a b))
  (p2 p9 p10 p12 p13 p20 p21:Value) (Q:Ex→Tm→AW→Prop) (t:Tm) (w:AW) (hw:In28 w1 w)
  (t0:tget t 0=v) (t2:tget t 2=p2) (t9:tget t 9=p9) (t10:tget t 10=p10) (t12:tget t 12=p12) (t13:tget t 13=p13) (t14:tget t 14=.pointer (some ⟨c4,0,none⟩)) (t18:tget t 18=y) (t20:tget t 20=p20) (t21:tget t 21=p21) (t22:tget t 22=.int .i64 0) (t23:tget t 23=.int .i64 0)
  (x3 x5:Value) (t3:tget t 3=x3) (t5:tget t 5=x5)
  (hQ:∀ t w,In28 w1 w→tget t 0=v→tget t 2=p2→tget t 3=x3→tget t 5=x5→tget t 9=p9→tget t 10=p10→tget t 12=p12→tget t 13=p13→tget t 20=p20→tget t 21=p21→tget t 22=.int .i64 (cntI l a b l.length)→Q (.exit 2) t w) :
  wp (exM Tryd.prog (run Tryd.prog ov (m + 1)) (.loop mc11_l1) t w) Q:=by
 have hlB:=(mk_span hE).1
 have h12:=podsB_len hlB
 have hlv:=len22V hv
 have hpl:(plM l a b).length=l.length:=by unfold plM; simp
 refine wp_rounds (fun i t w=>In28 w1 w∧tget t 0=v∧tget t 2=p2∧tget t 3=x3∧tget t 5=x5∧tget t 9=p9∧tget t 10=p10∧tget t 12=p12∧tget t 13=p13∧tget t 14=.pointer (some ⟨c4,0,none⟩)∧tget t 18=y∧tget t 20=p20∧tget t 21=p21∧tget t 22=.int .i64 (cntI l a b i)∧tget t 23=.int .i64 (i:Nat)∧i≤l.length) 200 (by decide) ⟨hw,t0,t2,t3,t5,t9,t10,t12,t13,t14,t18,t20,t21,t22,t23,Nat.zero_le _⟩ ?_
 clear t0 t2 t3 t5 t9 t10 t12 t13 t14 t18 t20 t21 t22 t23 hw
 rintro i t w ⟨hw,t0,t2,t3,t5,t9,t10,t12,t13,t14,t18,t20,t21,t22,t23,hi⟩
 by_cases hlt:i < l.length
 ·obtain ⟨p,hp⟩:∃ p,l[i]?=some p:=⟨_,List.getElem?_eq_getElem hlt⟩
  have hpB:=pods_all hlB hp
  obtain ⟨pb,psq,pc,rfl,hpa⟩:=hv.at_ i hlt
  have hld:=load_pod' hpa hp
  rw [← hw.old _ hpa.lt] at hld
  obtain ⟨yb,yoff,ysq,yc,rfl,hya⟩:=hy.at_ i (by omega)
  have hyl:=hya.int (plM_at (a:=a) (b:=b) hp)
  rw [← hw.old _ hya.2] at hyl
  have hbx:=hbox
  rw [← hw.old _ hc4] at hbx
  have hnx:=hw.next
  have hlm:=hw.lim
  have lw:w.lim≤w.next:=by omega
  have e1:¬ pb=w.next:=by have:=hpa.lt; omega
  have e2:¬ yb=w.next:=by have:=hya.2; omega
  have e5:¬ c4=w.next:=by omega
  have hia:=fun w=>ia22 w ⟨pb,0,psq⟩ l.length pc .i64 i hlt
  have hia2:=fun w=>ia33 w ⟨yb,yoff,ysq⟩ (plM l a b).length yc .i64 i (by omega)
  have hw1:IntKind.wrap .i64 ((i:Int) + 1)=(i:Int) + 1:=wrap64_in (by omega) (by omega)
  have hcb:=cnt_bd l a b i
  have hw2:IntKind.wrap .i64 (cntI l a b i + 1)=cntI l a b i + 1:=wrap64_in (by omega) (by omega)
  have r2:=fun w=>rule37 h37 p a b m w
  have r33:=fun n a b w=>rule33m h33 n a b m w
  obtain ⟨x1,x2⟩:=wi_of hpB a b
  have sp:=fun p=>same_pod p
  have sv:=fun x y=>same_ints [x,y]
  simp only [List.map_cons,List.map_nil] at sv
  have hs:=cnt_snoc (a:=a) (b:=b) hp
  have hcut:=plan_cut hE hp
  obtain ⟨d,hd⟩:∃ d,d=cutI p (refL l a b):=⟨_,rfl⟩
  rw [← hd] at hs hcut hyl
  obtain ⟨g,hg⟩:∃ g,g=cntI l a b i:=⟨_,rfl⟩
  rw [← hg] at hs t22 hw2
  have hI:∀ c:List Value,In28 w1 ⟨(w.heap.put w.next (some (.cells [.int .i64 0,.int .i64 0] 26 false))).put w.next (some (.cells c 26 false)),w.next + 1,w.lim⟩:=fun c=>⟨fun x hx=>by show ((w.heap.put w.next _).put w.next _).get x=_; rw [get_put,if_neg (by omega),get_put,if_neg (by omega)]; exact hw.old x hx,by show w1.next≤w.next + 1; omega,hlm⟩
  rcases hcut with ⟨hne,q1,q2,q3,q4,q5⟩ | ⟨hne,q1⟩
  ·have x3':wiB p a b=true:=by rw [x1]; simp [hne]
   obtain ⟨x4,x5'⟩:=x2 x3'
   simp only [x3',x4,x5'] at r2
   have hin:inI a d b=true:=by simp [inI,q3,q4]
   have hs':cntI l a b (i + 1)=g + 1:=by rw [hs,if_pos q5]
   simp [mc11_l1,t0,t14,t18,t22,t23,hlt,hlv,hia,hia2,hld,hyl,hbx,lw,e1,e2,e5,r2,sp,sv,cellsOf_agg,q5,r33,hin,hw1,hw2,t2,t3,t5,t9,t10,t12,t13,t20,t21]
   rw [hs']
   exact ⟨by omega,hI _,rfl,hlt⟩
  ·have x3':wiB p a b=false:=by rw [x1]; simp [hne]
   simp only [x3'] at r2
   subst q1
   have hs':cntI l a b (i + 1)=g:=by rw [hs,if_neg (by omega)]; omega
   simp [mc11_l1,t0,t14,t18,t22,t23,hlt,hlv,hia,hia2,hld,hyl,hbx,lw,e1,e2,e5,r2,sp,sv,cellsOf_agg,r33,hw1,hw2,t2,t3,t5,t9,t10,t12,t13,t20,t21]
   rw [hs']
   exact ⟨by omega,hI _,rfl,hlt⟩
 ·have hi':i=l.length:=by omega
  subst hi'
  simp [mc11_l1,t0,t23,hlv]
  exact hQ _ _ hw (by simp [t0]) (by simp [t2]) (by simp [t3]) (by simp [t5]) (by simp [t9]) (by simp [t10]) (by simp [t12]) (by simp [t13]) (by simp [t20]) (by simp [t21]) (by simp [t22])
end Go.Proofs.YtaiiampennkhiaaDoor.walk
namespace Go.Proofs.YtaiiampennkhiaaDoor.walk
open Go Go.Sh
open known (partsC laidL noOv)
set_option maxRecDepth 100000
set_option linter.unusedSimpArgs false
noncomputable def mc11_b4:MC:=.seq (.seq (.ops [⟨false,none,some 226,0,.fieldAddr 37 (.tmp 21) 3⟩,⟨false,none,some 227,3,.load 3 (.tmp 226)⟩,⟨false,none,some 228,22,.move (.tmp 0)⟩,⟨false,none,some 229,3,.call ⟨.builtin .len,#[.tmp 228],#[22]⟩⟩,⟨false,none,some 230,3,.move (.tmp 22)⟩,⟨false,none,some 231,3,.binOp .sub 3 (.tmp 229) (.tmp 230) 3⟩,⟨false,none,some 232,4,.binOp .neq 3 (.tmp 227) (.tmp 231) 3⟩,⟨false,none,some 233,4,.move (.tmp 232)⟩,⟨false,some (233,false),some 234,3,.move (.tmp 13)⟩,⟨false,some (233,false),some 235,4,.binOp .eql 3 (.tmp 234) (.const (.int .i64 0)) 3⟩,⟨false,some (233,false),some 236,4,.move (.tmp 235)⟩,⟨false,some (236,true),some 237,0,.fieldAddr 41 (.tmp 20) 0⟩,⟨false,some (236,true),some 238,0,.fieldAddr 26 (.tmp 237) 0⟩,⟨false,some (236,true),some 239,3,.load 3 (.tmp 238)⟩,⟨false,some (236,true),some 240,3,.move (.tmp 10)⟩,⟨false,some (236,true),some 241,4,.binOp .neq 3 (.tmp 239) (.tmp 240) 3⟩,⟨false,some (233,false),some 242,4,.pick (.tmp 236) (.tmp 241) (.const (.bool false))⟩,⟨false,none,some 243,4,.pick (.tmp 233) (.const (.bool true)) (.tmp 242)⟩]) (.cond (.tmp 243) (.seq (.ops [⟨false,none,some 8,4,.assign (.const (.bool false))⟩]) (.ret)) (.skip))) (.ops [⟨false,none,some 244,33,.move (.tmp 12)⟩,⟨false,none,some 245,3,.move (.tmp 13)⟩,⟨false,none,some 246,0,.fieldAddr 41 (.tmp 20) 0⟩,⟨false,none,some 247,0,.fieldAddr 26 (.tmp 246) 0⟩,⟨false,none,some 248,3,.load 3 (.tmp 247)⟩,⟨false,none,some 249,0,.indexAddr 33 (.tmp 244) (.tmp 245)⟩,⟨false,none,none,0,.store 3 (.tmp 249) (.tmp 248)⟩])
noncomputable def mc11_b3:MC:=.seq (.ops [⟨false,none,some 22,3,.assign (.const (.int .i64 0))⟩]) (.seq (.seq (.ops [⟨false,none,some 23,3,.assign (.const (.int .i64 0))⟩]) (.block 2 (.loop mc11_l1))) mc11_b4)
noncomputable def mc11_b2:MC:=.seq (.ops [⟨false,none,some 132,22,.move (.tmp 0)⟩,⟨false,none,some 133,33,.move (.tmp 18)⟩,⟨false,none,some 134,42,.call ⟨.value (.func 21),#[.tmp 132,.tmp 133],#[22,33]⟩⟩,⟨false,none,some 131,42,.move (.tmp 134)⟩,⟨false,none,some 135,41,.extract (.tmp 131) 0⟩,⟨false,none,some 136,23,.extract (.tmp 131) 1⟩,⟨false,none,some 20,0,.alloc 41⟩,⟨false,none,none,0,.store 41 (.tmp 20) (.tmp 135)⟩,⟨false,none,some 17,23,.assign (.tmp 136)⟩]) (.seq (.ops [⟨false,none,some 138,22,.move (.tmp 0)⟩,⟨false,none,some 139,33,.move (.tmp 18)⟩,⟨false,none,some 140,22,.move (.tmp 0)⟩,⟨false,none,some 141,33,.move (.tmp 3)⟩,⟨false,none,some 142,35,.call ⟨.value (.func 34),#[.tmp 140,.tmp 141],#[22,33]⟩⟩,⟨false,none,some 143,38,.call ⟨.value (.func 19),#[.tmp 138,.tmp 139,.tmp 142],#[22,33,35]⟩⟩,⟨false,none,some 137,38,.move (.tmp 143)⟩,⟨false,none,some 144,37,.extract (.tmp 137) 0⟩,⟨false,none,some 145,23,.extract (.tmp 137) 1⟩,⟨false,none,some 21,0,.alloc 37⟩,⟨false,none,none,0,.store 37 (.tmp 21) (.tmp 144)⟩,⟨false,none,some 19,23,.assign (.tmp 145)⟩]) (.seq (.seq (.seq (.ops [⟨true,none,some 146,23,.move (.tmp 17)⟩]) (.seq (.ops [⟨true,none,some 147,4,.binOp .neq 23 (.tmp 146) (.const (.int .i64 0)) 23⟩]) (.seq (.ops [⟨true,none,some 148,4,.move (.tmp 147)⟩]) (.seq (.ops [⟨true,some (148,false),some 149,23,.move (.tmp 19)⟩]) (.seq (.ops [⟨true,some (148,false),some 150,4,.binOp .neq 23 (.tmp 149) (.const (.int .i64 0)) 23⟩]) (.seq (.ops [⟨true,none,some 151,4,.pick (.tmp 148) (.const (.bool true)) (.tmp 150)⟩]) (.seq (.ops [⟨true,none,some 152,4,.move (.tmp 151)⟩]) (.seq (.ops [⟨true,some (152,false),some 153,0,.fieldAddr 41 (.tmp 20) 1⟩]) (.seq (.ops [⟨true,some (152,false),some 154,26,.load 26 (.tmp 153)⟩]) (.seq (.ops [⟨false,some (152,false),some 155,26,.call ⟨.value (.func 35),#[.const (.int .i64 0),.const (.int .i64 0)],#[3,3]⟩⟩]) (.seq (.ops [⟨true,some (152,false),some 156,4,.binOp .neq 26 (.tmp 154) (.tmp 155) 26⟩]) (.seq (.ops [⟨true,none,some 157,4,.pick (.tmp 152) (.const (.bool true)) (.tmp 156)⟩]) (.seq (.ops [⟨true,none,some 158,4,.move (.tmp 157)⟩]) (.seq (.ops [⟨true,some (158,false),some 159,0,.fieldAddr 41 (.tmp 20) 2⟩]) (.seq (.ops [⟨true,some (158,false),some 160,26,.load 26 (.tmp 159)⟩]) (.seq (.chk [⟨true,some (152,false),some 154,26,.load 26 (.tmp 153)⟩]) (.seq (.ops [⟨false,some (158,false),some 161,26,.call ⟨.value (.func 35),#[.const (.int .i64 0),.const (.int .i64 0)],#[3,3]⟩⟩]) (.seq (.ops [⟨true,some (158,false),some 162,4,.binOp .neq 26 (.tmp 160) (.tmp 161) 26⟩]) (.seq (.ops [⟨true,none,some 163,4,.pick (.tmp 158) (.const (.bool true)) (.tmp 162)⟩]) (.seq (.ops [⟨true,none,some 164,4,.move (.tmp 163)⟩]) (.seq (.ops [⟨true,some (164,false),some 165,0,.fieldAddr 37 (.tmp 21) 1⟩]) (.seq (.ops [⟨true,some (164,false),some 166,3,.load 3 (.tmp 165)⟩]) (.seq (.ops [⟨true,some (164,false),some 167,4,.binOp .neq 3 (.tmp 166) (.const (.int .i64 0)) 3⟩]) (.seq (.ops [⟨true,none,some 168,4,.pick (.tmp 164) (.const (.bool true)) (.tmp 167)⟩]) (.seq (.ops [⟨true,none,some 169,4,.move (.tmp 168)⟩]) (.seq (.ops [⟨true,some (169,false),some 170,0,.fieldAddr 37 (.tmp 21) 2⟩]) (.seq (.ops [⟨true,some (169,false),some 171,3,.load 3 (.tmp 170)⟩]) (.seq (.ops [⟨true,some (169,false),some 172,4,.binOp .neq 3 (.tmp 171) (.const (.int .i64 0)) 3⟩]) (.seq (.ops [⟨true,none,some 173,4,.pick (.tmp 169) (.const (.bool true)) (.tmp 172)⟩]) (.seq (.ops [⟨true,none,some 174,4,.move (.tmp 173)⟩]) (.seq (.ops [⟨true,some (174,false),some 175,0,.fieldAddr 37 (.tmp 21) 0⟩]) (.seq (.ops [⟨true,some (174,false),some 176,3,.load 3 (.tmp 175)⟩]) (.seq (.ops [⟨true,some (174,false),some 177,0,.fieldAddr 41 (.tmp 20) 0⟩]) (.seq (.ops [⟨true,some (174,false),some 178,0,.fieldAddr 26 (.tmp 177) 0⟩]) (.seq (.ops [⟨true,some (174,false),some 179,3,.load 3 (.tmp 178)⟩]) (.seq (.ops [⟨true,some (174,false),some 180,4,.binOp .lss 3 (.tmp 176) (.tmp 179) 3⟩]) (.seq (.ops [⟨true,none,some 181,4,.pick (.tmp 174) (.const (.bool true)) (.tmp 180)⟩]) (.chk [⟨true,some (158,false),some 160,26,.load 26 (.tmp 159)⟩])))))))))))))))))))))))))))))))))))))) (.cond (.tmp 181) (.seq (.ops [⟨false,none,some 8,4,.assign (.const (.bool false))⟩]) (.ret)) (.skip))) mc11_b3))
noncomputable def mc11_b1:MC:=.seq (.ops [⟨false,none,some 107,22,.move (.tmp 0)⟩,⟨false,none,some 108,26,.load 26 (.tmp 14)⟩,⟨false,none,some 109,45,.call ⟨.value (.func 23),#[.tmp 107,.tmp 108],#[22,26]⟩⟩,⟨false,none,some 106,45,.move (.tmp 109)⟩,⟨false,none,some 110,33,.extract (.tmp 106) 0⟩,⟨false,none,some 111,23,.extract (.tmp 106) 1⟩,⟨false,none,some 16,33,.assign (.tmp 110)⟩,⟨false,none,some 17,23,.assign (.tmp 111)⟩]) (.seq (.ops [⟨false,none,some 113,22,.move (.tmp 0)⟩,⟨false,none,some 114,33,.move (.tmp 16)⟩,⟨false,none,some 115,45,.call ⟨.value (.func 29),#[.tmp 113,.tmp 114],#[22,33]⟩⟩,⟨false,none,some 112,45,.move (.tmp 115)⟩,⟨false,none,some 116,33,.extract (.tmp 112) 0⟩,⟨false,none,some 117,23,.extract (.tmp 112) 1⟩,⟨false,none,some 18,33,.assign (.tmp 116)⟩,⟨false,none,some 19,23,.assign (.tmp 117)⟩]) (.seq (.seq (.ops [⟨false,none,some 118,23,.move (.tmp 17)⟩,⟨false,none,some 119,4,.binOp .neq 23 (.tmp 118) (.const (.int .i64 0)) 23⟩,⟨false,none,some 120,4,.move (.tmp 119)⟩,⟨false,some (120,false),some 121,23,.move (.tmp 19)⟩,⟨false,some (120,false),some 122,4,.binOp .neq 23 (.tmp 121) (.const (.int .i64 0)) 23⟩,⟨false,none,some 123,4,.pick (.tmp 120) (.const (.bool true)) (.tmp 122)⟩,⟨false,none,some 124,4,.move (.tmp 123)⟩,⟨false,some (124,false),some 125,33,.move (.tmp 18)⟩,⟨false,some (124,false),some 126,3,.call ⟨.builtin .len,#[.tmp 125],#[33]⟩⟩,⟨false,some (124,false),some 127,22,.move (.tmp 0)⟩,⟨false,some (124,false),some 128,3,.call ⟨.builtin .len,#[.tmp 127],#[22]⟩⟩,⟨false,some (124,false),some 129,4,.binOp .neq 3 (.tmp 126) (.tmp 128) 3⟩,⟨false,none,some 130,4,.pick (.tmp 124) (.const (.bool true)) (.tmp 129)⟩]) (.cond (.tmp 130) (.seq (.ops [⟨false,none,some 8,4,.assign (.const (.bool false))⟩]) (.ret)) (.skip))) mc11_b2))
noncomputable def mc11_b0:MC:=.seq (.ops [⟨false,none,some 91,3,.move (.tmp 13)⟩,⟨false,none,some 92,4,.binOp .eql 3 (.tmp 91) (.const (.int .i64 1)) 3⟩]) (.cond (.tmp 92) (.seq (.seq (.ops [⟨true,none,some 93,0,.fieldAddr 26 (.tmp 5) 0⟩]) (.seq (.ops [⟨true,none,some 94,3,.load 3 (.tmp 93)⟩]) (.seq (.ops [⟨true,none,some 95,0,.fieldAddr 26 (.tmp 5) 1⟩]) (.seq (.ops [⟨true,none,some 96,3,.load 3 (.tmp 95)⟩]) (.seq (.ops [⟨true,none,some 97,33,.move (.tmp 3)⟩]) (.seq (.ops [⟨false,none,some 98,3,.call ⟨.value (.func 41),#[.tmp 97,.const (.int .i64 7)],#[33,3]⟩⟩]) (.seq (.chk [⟨true,none,some 96,3,.load 3 (.tmp 95)⟩,⟨true,none,some 94,3,.load 3 (.tmp 93)⟩]) (.seq (.ops [⟨false,none,some 99,3,.call ⟨.value (.func 38),#[.tmp 94,.tmp 96,.tmp 98],#[3,3,3]⟩⟩]) (.seq (.ops [⟨true,none,some 15,3,.assign (.tmp 99)⟩]) (.chk [])))))))))) (.ops [⟨false,none,some 100,3,.move (.tmp 15)⟩,⟨false,none,some 101,3,.move (.tmp 15)⟩,⟨false,none,some 102,3,.move (.tmp 2)⟩,⟨false,none,some 103,3,.binOp .add 3 (.tmp 101) (.tmp 102) 3⟩,⟨false,none,some 104,3,.binOp .sub 3 (.tmp 103) (.const (.int .i64 1)) 3⟩,⟨false,none,some 105,26,.call ⟨.value (.func 35),#[.tmp 100,.tmp 104],#[3,3]⟩⟩,⟨false,none,none,0,.store 26 (.tmp 14) (.tmp 105)⟩])) (.skip))
theorem mc11_l0_eq:mc11_l0=.seq (.seq (.ops [⟨false,none,some 81,3,.move (.tmp 13)⟩,⟨false,none,some 82,4,.binOp .lss 3 (.tmp 81) (.const (.int .i64 2)) 3⟩]) (.cond (.tmp 82) (.skip) (.exit 0))) (.seq (.block 1 (.seq (.ops [⟨false,none,some 85,3,.move (.tmp 9)⟩,⟨false,none,some 86,3,.move (.tmp 9)⟩,⟨false,none,some 87,3,.move (.tmp 2)⟩,⟨false,none,some 88,3,.binOp .add 3 (.tmp 86) (.tmp 87) 3⟩,⟨false,none,some 89,3,.binOp .sub 3 (.tmp 88) (.const (.int .i64 1)) 3⟩,⟨false,none,some 90,26,.call ⟨.value (.func 35),#[.tmp 85,.tmp 89],#[3,3]⟩⟩,⟨false,none,some 14,0,.alloc 26⟩,⟨false,none,none,0,.store 26 (.tmp 14) (.tmp 90)⟩]) (.seq mc11_b0 mc11_b1))) (.ops [⟨false,none,some 83,3,.move (.tmp 13)⟩,⟨false,none,some 84,3,.binOp .add 3 (.tmp 83) (.const (.int .i64 1)) 3⟩,⟨false,none,some 13,3,.assign (.tmp 84)⟩])):=rfl
structure In11 (wE:AW) (a b g s1:Int) (w:AW):Prop where
 old:Old wE.next wE.heap w.heap
 box:w.heap.get wE.next=some (.cells [.int .i64 a,.int .i64 b] 26 false)
 sums:w.heap.get (wE.next + 1)=some (.cells [.int .i64 g,.int .i64 s1] 3 false)
 next:wE.next + 2≤w.next
 lim:w.lim=wE.lim
theorem In11.ext {wE:AW} {a b g s1:Int} {w w':AW} (h:In11 wE a b g s1 w) (k:Old w.next w.heap w'.heap) (hn:w.next≤w'.next) (hl:w'.lim=w.lim):In11 wE a b g s1 w':=by
 have hx:=h.next
 exact ⟨fun z hz=>by rw [k z (by omega)]; exact h.old z hz,by rw [k _ (by omega)]; exact h.box,by rw [k _ (by omega)]; exact h.sums,by omega,by rw [hl]; exact h.lim⟩
set_option maxHeartbeats 4000000 in
theorem tail11 {ov:Ov} (l:List Pod) (a b g s1 x1 x2:Int) (Y:Yl) (hleft:Y.left=l.length - cntI l x1 x2 l.length) (v p2 p3 p5 p9:Value) (i:Nat) (hi:i < 2) (hg:i=0→(loS l (plM l x1 x2)).ripe=g) (hB:podsB l=true) (wE w:AW) (hI:In11 wE a b g s1 w) (hlim:wE.lim≤wE.next) (hv:PodsV wE v l)
  (c20 c21:Nat) (b20:w.heap.get c20=some (.cells (wgC l (plM l x1 x2)) 41 false)) (b21:w.heap.get c21=some (.cells (ylC Y) 37 false))
  (t:Tm) (t0:tget t 0=v) (t2:tget t 2=p2) (t3:tget t 3=p3) (t5:tget t 5=p5) (t9:tget t 9=p9) (t10:tget t 10=.int .i64 g) (t12:tget t 12=.slice (some ⟨wE.next + 1,0,none⟩) 2 2) (t13:tget t 13=.int .i64 (i:Nat)) (t20:tget t 20=.pointer (some ⟨c20,0,none⟩)) (t21:tget t 21=.pointer (some ⟨c21,0,none⟩)) (t22:tget t 22=.int .i64 (cntI l x1 x2 l.length))
  (Q:Ex→Tm→AW→Prop) (hQ:∀ t w',w'=⟨w.heap.put (wE.next + 1) (some (.cells (([.int .i64 g,.int .i64 s1]:List Value).take i++(.int .i64 (loS l (plM l x1 x2)).ripe::([.int .i64 g,.int .i64 s1]:List Value).drop (i + 1))) 3 false)),w.next,w.lim⟩→tget t 0=v→tget t 2=p2→tget t 3=p3→tget t 5=p5→tget t 9=p9→tget t 10=.int .i64 g→tget t 12=.slice (some ⟨wE.next + 1,0,none⟩) 2 2→tget t 13=.int .i64 (i:Nat)→Q .normal t w') :
  wp (exM Tryd.prog (run Tryd.prog ov 7) mc11_b4 t w) Q:=by
 have hlv:=len22V hv
 have h12:=podsB_len hB
 have hcb:=cnt_bd l x1 x2 l.length
 have hx:=hI.sums
 have hlm:=hI.lim
 have l1:w.lim≤wE.next + 1:=by omega
 have hia0:∀ w,indexAddrA Tryd.prog w 33 (.slice (some ⟨wE.next + 1,0,none⟩) 2 2) (.int .i64 0)=.val (.pointer (some ((⟨wE.next + 1,0,none⟩:Addr).add (0 * 1)))) w:=fun w=>ia33 w ⟨wE.next + 1,0,none⟩ 2 2 .i64 0 (by decide)
 have hia1:∀ w,indexAddrA Tryd.prog w 33 (.slice (some ⟨wE.next + 1,0,none⟩) 2 2) (.int .i64 1)=.val (.pointer (some ((⟨wE.next + 1,0,none⟩:Addr).add (1 * 1)))) w:=fun w=>ia33 w ⟨wE.next + 1,0,none⟩ 2 2 .i64 1 (by decide)
 have w1:IntKind.wrap .i64 ((l.length:Int) - cntI l x1 x2 l.length)=(l.length:Int) - cntI l x1 x2 l.length:=wrap64_in (by omega) (by omega)
 unfold wgC at b20
 have hf:i + 1≤2:=hi
 by_cases h0:i=0
 ·have hg':=hg h0
  subst h0
  simp [mc11_b4,t0,t2,t3,t5,t9,t10,t12,t13,t20,t21,t22,b20,b21,ylC,hleft,hlv,w1,hx,hia0,l1,hg']
  refine hQ _ _ ?_ ?_ ?_ ?_ ?_ ?_ ?_ ?_ ?_
  all_goals simp [t0,t2,t3,t5,t9,t10,t12,t13,hg']
 ·obtain rfl:i=1:=by omega
  simp [mc11_b4,t0,t2,t3,t5,t9,t10,t12,t13,t20,t21,t22,b20,b21,ylC,hleft,hlv,w1,hx,hia1,l1]
  refine hQ _ _ ?_ ?_ ?_ ?_ ?_ ?_ ?_ ?_ ?_
  all_goals simp [t0,t2,t3,t5,t9,t10,t12,t13]
end Go.Proofs.YtaiiampennkhiaaDoor.walk
namespace Go.Proofs.YtaiiampennkhiaaDoor.walk
open Go Go.Sh
open known (partsC laidL noOv)
set_option maxRecDepth 100000
set_option linter.unusedSimpArgs false
def OutQ (wE:AW) (a b g s1 r:Int) (i:Nat) (v p2 p3 p5 p9:Value) (t:Tm) (w:AW):Prop :=
 In11 wE a b (if i=0 then r else g) (if i=0 then s1 else r) w∧tget t 0=v∧tget t 2=p2∧tget t 3=p3∧tget t 5=p5∧tget t 9=p9∧tget t 10=.int .i64 g∧tget t 12=.slice (some ⟨wE.next + 1,0,none⟩) 2 2∧tget t 13=.int .i64 (i:Nat)
theorem In11.put {wE:AW} {a b g s1 r:Int} {w:AW} (h:In11 wE a b g s1 w) {i:Nat} (hi:i < 2):In11 wE a b (if i=0 then r else g) (if i=0 then s1 else r) ⟨w.heap.put (wE.next + 1) (some (.cells (([.int .i64 g,.int .i64 s1]:List Value).take i++(.int .i64 r::([.int .i64 g,.int .i64 s1]:List Value).drop (i + 1))) 3 false)),w.next,w.lim⟩:=by
 refine ⟨fun z hz=>?_,?_,?_,h.next,h.lim⟩
 ·show (w.heap.put _ _).get z=_
  rw [get_put,if_neg (by omega)]; exact h.old z hz
 ·show (w.heap.put _ _).get _=_
  rw [get_put,if_neg (by omega)]; exact h.box
 ·show (w.heap.put _ _).get _=_
  rw [get_put,if_pos rfl]
  by_cases h0:i=0
  ·subst h0; simp
  ·obtain rfl:i=1:=by omega
   simp
set_option maxHeartbeats 4000000 in
theorem b3_11 {ov:Ov} (h33:HasP ov 33 F33) (h37:HasP ov 37 F37) (l:List Pod) (a b g s1 x1 x2:Int) (hE:mkErr l x1 x2=0) (Y:Yl) (hleft:Y.left=l.length - cntI l x1 x2 l.length) (v p2 p3 p5 p9 y:Value) (i:Nat) (hi:i < 2) (hg:i=0→(loS l (plM l x1 x2)).ripe=g) (wE w:AW) (hI:In11 wE a b g s1 w) (hlim:wE.lim≤wE.next) (hv:PodsV wE v l)
  (c14 c20 c21:Nat) (m14:c14 < w.next) (m20:c20 < w.next) (m21:c21 < w.next) (b14:w.heap.get c14=some (.cells [.int .i64 x1,.int .i64 x2] 26 false)) (b20:w.heap.get c20=some (.cells (wgC l (plM l x1 x2)) 41 false)) (b21:w.heap.get c21=some (.cells (ylC Y) 37 false)) (hy:RowsV intC w y (plM l x1 x2))
  (t:Tm) (t0:tget t 0=v) (t2:tget t 2=p2) (t3:tget t 3=p3) (t5:tget t 5=p5) (t9:tget t 9=p9) (t10:tget t 10=.int .i64 g) (t12:tget t 12=.slice (some ⟨wE.next + 1,0,none⟩) 2 2) (t13:tget t 13=.int .i64 (i:Nat)) (t14:tget t 14=.pointer (some ⟨c14,0,none⟩)) (t18:tget t 18=y) (t20:tget t 20=.pointer (some ⟨c20,0,none⟩)) (t21:tget t 21=.pointer (some ⟨c21,0,none⟩))
  (Q:Ex→Tm→AW→Prop) (hQ:∀ t w,OutQ wE a b g s1 (loS l (plM l x1 x2)).ripe i v p2 p3 p5 p9 t w→Q .normal t w) :
  wp (exM Tryd.prog (run Tryd.prog ov 7) mc11_b3 t w) Q:=by
 have hx:=hI.next
 have hl:=hI.lim
 simp [mc11_b3]
 refine wp_seqX (wp_blockX (loop11b 6 h33 h37 l x1 x2 hE v y c14 w (by omega) m14 b14 (hv.old hI.old (by omega)) hy p2 p9 (.int .i64 g) (.slice (some ⟨wE.next + 1,0,none⟩) 2 2) (.int .i64 (i:Nat)) (.pointer (some ⟨c20,0,none⟩)) (.pointer (some ⟨c21,0,none⟩)) _ _ _ ⟨fun _ _=>rfl,Nat.le_refl _,rfl⟩ ?_ ?_ ?_ ?_ ?_ ?_ ?_ ?_ ?_ ?_ ?_ ?_ p3 p5 ?_ ?_ ?_))
 case _=>simp [t0]
 case _=>simp [t2]
 case _=>simp [t9]
 case _=>simp [t10]
 case _=>simp [t12]
 case _=>simp [t13]
 case _=>simp [t14]
 case _=>simp [t18]
 case _=>simp [t20]
 case _=>simp [t21]
 case _=>simp
 case _=>simp
 case _=>simp [t3]
 case _=>simp [t5]
 case _ =>
  intro t w' hw r0 r2 r3 r5 r9 r10 r12 r13 r20 r21 r22
  simp
  refine tail11 l a b g s1 x1 x2 Y hleft v p2 p3 p5 p9 i hi hg (mk_span hE).1 wE w' (hI.ext hw.old hw.next hw.lim) hlim hv c20 c21 (by rw [hw.old _ m20]; exact b20) (by rw [hw.old _ m21]; exact b21) t r0 r2 r3 r5 r9 r10 r12 r13 r20 r21 r22 Q ?_
  rintro t w2 rfl q0 q2 q3 q5 q9 q10 q12 q13
  exact hQ _ _ ⟨(hI.ext hw.old hw.next hw.lim).put hi,q0,q2,q3,q5,q9,q10,q12,q13⟩
set_option maxHeartbeats 8000000 in
theorem b2_11 {ov:Ov} (ho34:∀ args w,ov 34 args w=none) (h19:HasP ov 19 F19) (h21:HasP ov 21 F21) (h35:HasP ov 35 F35) (h38:HasP ov 38 F38) (h41:HasP ov 41 F41) (h33:HasP ov 33 F33) (h37:HasP ov 37 F37) (l:List Pod) (bits:List Int) (hbl:bits.length≤2 ^ 60) (a b g s1 x1 x2:Int) (hE:mkErr l x1 x2=0) (v p2 p5 p9 y bv:Value) (i:Nat) (hi:i < 2) (hg:i=0→(loS l (plM l x1 x2)).ripe=g) (wE w:AW) (hI:In11 wE a b g s1 w) (hlim:wE.lim≤wE.next) (hPW:PartsW wE) (hv:PodsV wE v l) (hb:RowsV intC wE bv bits)
  (c14:Nat) (m14:c14 < w.next) (b14:w.heap.get c14=some (.cells [.int .i64 x1,.int .i64 x2] 26 false)) (hy:RowsV intC w y (plM l x1 x2))
  (t:Tm) (t0:tget t 0=v) (t2:tget t 2=p2) (t3:tget t 3=bv) (t5:tget t 5=p5) (t9:tget t 9=p9) (t10:tget t 10=.int .i64 g) (t12:tget t 12=.slice (some ⟨wE.next + 1,0,none⟩) 2 2) (t13:tget t 13=.int .i64 (i:Nat)) (t14:tget t 14=.pointer (some ⟨c14,0,none⟩)) (t18:tget t 18=y)
  (Q:Ex→Tm→AW→Prop) (hQ:∀ t w,OutQ wE a b g s1 (loS l (plM l x1 x2)).ripe i v p2 bv p5 p9 t w→Q .normal t w) :
  wp (exM Tryd.prog (run Tryd.prog ov 7) mc11_b2 t w) Q:=by
 have hB:=(mk_span hE).1
 have hx:=hI.next
 have hl:=hI.lim
 have hvw:PodsV w v l:=hv.old hI.old (by omega)
 have hPWw:PartsW w:=hPW.old hI.old (by omega)
 have hbw:RowsV intC w bv bits:=hb.old hI.old (by omega)
 have hP:=plan_okB hE
 have hck:chkE l (plM l x1 x2)=0:=by simp [chkE,hB,hP]
 have r21:=rule21 h21 hPWw hvw.podsIn hy 6
 have hwe:weiV l (plM l x1 x2)=.tuple ⟨[.agg ⟨wgC l (plM l x1 x2)⟩,.int .i64 0]⟩:=by unfold weiV weiC; rw [hck,if_pos rfl]
 rw [hwe] at r21
 obtain ⟨n1,n2,n3,n4,n5⟩:=plan_nums hE
 -- behind Weigh: a block with what it says
 obtain ⟨w1,hw1⟩:∃ w1:AW,w1=⟨(w.heap.put w.next (some (.cells [.int .i64 0,.int .i64 0,.int .i64 0,.int .i64 0,.int .i64 0,.int .i64 0] 41 false))).put w.next (some (.cells (wgC l (plM l x1 x2)) 41 false)),w.next + 1,w.lim⟩:=⟨_,rfl⟩
 have o1:Old w.next w.heap w1.heap:=by rw [hw1]; exact ((Old.refl _ _).put (Nat.le_refl _)).put (Nat.le_refl _)
 have x1n:w1.next=w.next + 1:=by rw [hw1]
 have x1l:w1.lim=w.lim:=by rw [hw1]
 have g1:w1.heap.get w.next=some (.cells (wgC l (plM l x1 x2)) 41 false):=by rw [hw1]; simp
 obtain ⟨x,w2,c34,vr,vh,vg,rfl,k1,k2,k3,o2,n2',l2⟩:=call34 (fm:=5) ho34 h41 h38 bv v bits l w1 (by omega) (hvw.old o1 (by omega)) (hbw.old o1 (by omega)) hbl hB
 have oo:Old w.next w.heap w2.heap:=fun z hz=>by rw [o2 z (by omega)]; exact o1 z hz
 have hT:=choose_truth hB bits
 have r19:=rule19 h19 (hPWw.old oo (by omega)) (hvw.old oo (by omega)).podsIn (hy.old oo (by omega)) k1 k2 k3 6
 obtain ⟨R,hR⟩:∃ R,R=pk (fR bits) l l.length:=⟨_,rfl⟩
 obtain ⟨Hh,hHh⟩:∃ R,R=pk (fH bits) l l.length:=⟨_,rfl⟩
 obtain ⟨G,hG⟩:∃ R,R=pk (fG bits) l l.length:=⟨_,rfl⟩
 rw [← hR,← hHh,← hG] at r19 hT
 have e1:harE l (plM l x1 x2) R Hh G=0:=by simp [harE,hT,hck]
 have e2:harY l (plM l x1 x2) R Hh G=sumYl (ysH l (plM l x1 x2) R Hh G):=by simp [harY,e1]
 rw [e1,e2] at r19
 obtain ⟨⟨i1,i2⟩,⟨i3,i4⟩,i5,i6⟩:=lies hB hP hT
 have hleft:=left_all hE hT
 obtain ⟨Y,hY⟩:∃ Y,Y=sumYl (ysH l (plM l x1 x2) R Hh G):=⟨_,rfl⟩
 rw [← hY] at r19 i1 i2 i3 i4 i5 i6 hleft
 have y1:Y.green=0:=by omega
 have y2:Y.split=0:=by omega
 have y3:¬ Y.ripe < (loS l (plM l x1 x2)).ripe:=by omega
 have r35:=fun w=>rule35m h35 0 0 6 w
 have lw:w.lim≤w.next:=by omega
 have lw2:w2.lim≤w2.next:=by omega
 have g2:w2.heap.get w.next=some (.cells (wgC l (plM l x1 x2)) 41 false):=by rw [o2 _ (by omega)]; exact g1
 have e0:¬ w.next=w2.next:=by omega
 have sv:=fun x y=>same_ints [x,y]
 simp only [List.map_cons,List.map_nil] at sv
 have hw41:(wgC l (plM l x1 x2)).length=6:=rfl
 have hwg:wgC l (plM l x1 x2)=[.int .i64 (loS l (plM l x1 x2)).ripe,.int .i64 (hiS l (plM l x1 x2)).ripe,.int .i64 0,.int .i64 0,.int .i64 0,.int .i64 0]:=by unfold wgC; rw [n1,n2,n3,n4]
 obtain ⟨ro,hro⟩:∃ r,r=(loS l (plM l x1 x2)).ripe:=⟨_,rfl⟩
 obtain ⟨rh,hrh⟩:∃ r,r=(hiS l (plM l x1 x2)).ripe:=⟨_,rfl⟩
 obtain ⟨WG,hWG⟩:∃ W,W=wgC l (plM l x1 x2):=⟨_,rfl⟩
 have hWG':=hWG
 rw [hwg,← hro,← hrh] at hWG
 rw [← hWG',hWG] at r21 hw1 g2
 rw [← hro] at y3
 have hfin:∀ t w3,w3=(⟨(w2.heap.put w2.next (some (.cells [.int .i64 0,.int .i64 0,.int .i64 0,.int .i64 0] 37 false))).put w2.next (some (.cells (ylC Y) 37 false)),w2.next + 1,w2.lim⟩:AW)→tget t 0=v→tget t 2=p2→tget t 3=bv→tget t 5=p5→tget t 9=p9→tget t 10=.int .i64 g→tget t 12=.slice (some ⟨wE.next + 1,0,none⟩) 2 2→tget t 13=.int .i64 (i:Nat)→tget t 14=.pointer (some ⟨c14,0,none⟩)→tget t 18=y→tget t 20=.pointer (some ⟨w.next,0,none⟩)→tget t 21=.pointer (some ⟨w2.next,0,none⟩)→wp (exM Tryd.prog (run Tryd.prog ov 7) mc11_b3 t w3) Q:=by
  intro t w3 hw3 q0 q2 q3 q5 q9 q10 q12 q13 q14 q18 q20 q21
  have o3:Old w2.next w2.heap w3.heap:=by rw [hw3]; exact ((Old.refl _ _).put (Nat.le_refl _)).put (Nat.le_refl _)
  have x3n:w3.next=w2.next + 1:=by rw [hw3]
  have x3l:w3.lim=w2.lim:=by rw [hw3]
  have o03:Old w.next w.heap w3.heap:=fun z hz=>by rw [o3 z (by omega)]; exact oo z hz
  refine b3_11 h33 h37 l a b g s1 x1 x2 hE Y hleft v p2 bv p5 p9 y i hi hg wE w3 (hI.ext o03 (by omega) (by omega)) hlim hv c14 w.next w2.next (by omega) (by omega) (by omega) (by rw [o03 _ m14]; exact b14) (by rw [o3 _ (by omega),g2,← hWG,hWG']) (by rw [hw3]; simp) (hy.old o03 (by omega)) t q0 q2 q3 q5 q9 q10 q12 q13 q14 q18 q20 q21 Q hQ
 rw [hw1] at c34
 obtain ⟨yr,hyr⟩:∃ r,r=Y.ripe:=⟨_,rfl⟩
 have hyc:ylC Y=[.int .i64 yr,.int .i64 0,.int .i64 0,.int .i64 Y.left]:=by unfold ylC; rw [y1,y2,hyr]
 rw [← hyr] at y3
 rw [hyc] at r19 hfin
 simp [mc11_b2,t0,t2,t3,t5,t9,t10,t12,t13,t14,t18,r21,lw,lw2,cellsOf_agg,c34,r19,g2,e0,r35,sv,y3]
 refine hfin _ _ rfl ?_ ?_ ?_ ?_ ?_ ?_ ?_ ?_ ?_ ?_ ?_ ?_
 all_goals simp [t0,t2,t3,t5,t9,t10,t12,t13,t14,t18]
end Go.Proofs.YtaiiampennkhiaaDoor.walk
namespace Go.Proofs.YtaiiampennkhiaaDoor.walk
open Go Go.Sh
open known (partsC laidL noOv)
set_option maxRecDepth 100000
set_option linter.unusedSimpArgs false
set_option maxHeartbeats 8000000 in
theorem b1_11 {ov:Ov} (ho23:∀ args w,ov 23 args w=none) (ho29:∀ args w,ov 29 args w=none) (ho34:∀ args w,ov 34 args w=none) (H:Ho60 ov) (h14:HasP ov 14 F14) (h65:HasP ov 65 F65) (h66:HasP ov 66 F66) (h19:HasP ov 19 F19) (h21:HasP ov 21 F21) (h35:HasP ov 35 F35) (h38:HasP ov 38 F38) (h41:HasP ov 41 F41) (h33:HasP ov 33 F33) (h37:HasP ov 37 F37) (l:List Pod) (bits:List Int) (hbl:bits.length≤2 ^ 60) (a b g s1 x1 x2:Int) (hE:mkErr l x1 x2=0) (v p2 p5 p9 bv:Value) (i:Nat) (hi:i < 2) (hg:i=0→(sureY l x1 x2).ripe=g) (wE w:AW) (hI:In11 wE a b g s1 w) (hlim:wE.lim≤wE.next) (hPW:PartsW wE) (hv:PodsV wE v l) (hb:RowsV intC wE bv bits)
  (c14:Nat) (m14:c14 < w.next) (b14:w.heap.get c14=some (.cells [.int .i64 x1,.int .i64 x2] 26 false))
  (t:Tm) (t0:tget t 0=v) (t2:tget t 2=p2) (t3:tget t 3=bv) (t5:tget t 5=p5) (t9:tget t 9=p9) (t10:tget t 10=.int .i64 g) (t12:tget t 12=.slice (some ⟨wE.next + 1,0,none⟩) 2 2) (t13:tget t 13=.int .i64 (i:Nat)) (t14:tget t 14=.pointer (some ⟨c14,0,none⟩))
  (Q:Ex→Tm→AW→Prop) (hQ:∀ t w,OutQ wE a b g s1 (sureY l x1 x2).ripe i v p2 bv p5 p9 t w→Q .normal t w) :
  wp (exM Tryd.prog (run Tryd.prog ov 7) mc11_b1 t w) Q:=by
 have hx:=hI.next
 have hl:=hI.lim
 obtain ⟨n1,n2,n3,n4,n5⟩:=plan_nums hE
 rw [← n5] at hg hQ
 have hvw:PodsV w v l:=hv.old hI.old (by omega)
 obtain ⟨_,w1,c23,y1,rfl,q1,q2,q3,q4⟩:=call23 0 ho23 H l x1 x2 v w (by omega) hvw
 obtain ⟨_,w2,c29,y2,rfl,r1,r2,r3,r4⟩:=call29 5 ho29 h14 h65 h66 l (refL l x1 x2) v y1 w1 (by omega) (hvw.old q2 q3) q1
 obtain ⟨e1,e2⟩:=ref_plan hE
 rw [e2] at r1
 have oo:Old w.next w.heap w2.heap:=fun z hz=>by rw [r2 z (by omega)]; exact q2 z hz
 have nj1:notJunk y1=some y1:=by obtain ⟨x,y,e⟩:=q1.len; rw [e]; rfl
 have nj2:notJunk y2=some y2:=by obtain ⟨x,y,e⟩:=r1.len; rw [e]; rfl
 have hlv:=len22V hv
 have hly:=len33V (l:=plM l x1 x2) r1
 have hpl:((plM l x1 x2).length:Int)=l.length:=by unfold plM; simp
 rw [hpl] at hly
 rw [hE] at c23
 rw [e1] at c29
 simp [mc11_b1,t0,t2,t3,t5,t9,t10,t12,t13,t14,b14,c23,c29,nj1,nj2,hlv,hly]
 refine b2_11 ho34 h19 h21 h35 h38 h41 h33 h37 l bits hbl a b g s1 x1 x2 hE v p2 p5 p9 y2 bv i hi hg wE w2 (hI.ext oo (by omega) (by omega)) hlim hPW hv hb c14 (by omega) (by rw [oo _ m14]; exact b14) r1 _ ?_ ?_ ?_ ?_ ?_ ?_ ?_ ?_ ?_ ?_ Q hQ
 all_goals simp [t0,t2,t3,t5,t9,t10,t12,t13,t14]
theorem mkE_of {l:List Pod} {a b n:Int} (h:mkE l a b n=0):podsB l=true∧mkB a b n=true:=by
 unfold mkE at h
 cases h1:podsB l with
 | false=>rw [h1] at h; simp at h
 | true =>
  cases h2:mkB a b n with
  | false=>rw [h1,h2] at h; simp at h
  | true=>exact ⟨rfl,rfl⟩
theorem mk_at {l:List Pod} {a b n x:Int} (hB:podsB l=true) (hM:mkB a b n=true) (h1:a≤x) (h2:x≤b):mkErr l x (x + n - 1)=0:=by
 obtain ⟨m1,m2,m3,m4,m5⟩:=mkB_of hM
 have:spanI x (x + n - 1) 0 2000=true:=by simp only [spanI,Bool.and_eq_true,decide_eq_true_eq]; omega
 simp [mkErr,hB,this]
set_option maxHeartbeats 8000000 in
theorem loop11a {ov:Ov} (ho23:∀ args w,ov 23 args w=none) (ho29:∀ args w,ov 29 args w=none) (ho34:∀ args w,ov 34 args w=none) (H:Ho60 ov) (h14:HasP ov 14 F14) (h65:HasP ov 65 F65) (h66:HasP ov 66 F66) (h19:HasP ov 19 F19) (h21:HasP ov 21 F21) (h35:HasP ov 35 F35) (h38:HasP ov 38 F38) (h41:HasP ov 41 F41) (h33:HasP ov 33 F33) (h37:HasP ov 37 F37) (l:List Pod) (bits:List Int) (hbl:bits.length≤2 ^ 60) (a b n x:Int) (hB:podsB l=true) (hM:mkB a b n=true) (hx1:a≤x) (hx2:x≤b) (hbest:∀ z,a≤z→z≤b→(sureY l z (z + n - 1)).ripe≤(sureY l x (x + n - 1)).ripe) (hg0:0≤(sureY l x (x + n - 1)).ripe) (v bv:Value) (wE:AW) (hlim:wE.lim≤wE.next) (hPW:PartsW wE) (hv:PodsV wE v l) (hb:RowsV intC wE bv bits)
  (t:Tm) (w:AW) (hI:In11 wE a b (sureY l x (x + n - 1)).ripe 0 w) (t0:tget t 0=v) (t2:tget t 2=.int .i64 n) (t3:tget t 3=bv) (t5:tget t 5=.pointer (some ⟨wE.next,0,none⟩)) (t9:tget t 9=.int .i64 x) (t10:tget t 10=.int .i64 (sureY l x (x + n - 1)).ripe) (t12:tget t 12=.slice (some ⟨wE.next + 1,0,none⟩) 2 2) (t13:tget t 13=.int .i64 0)
  (Q:Ex→Tm→AW→Prop) (hQ:∀ t w s1,s1≤(sureY l x (x + n - 1)).ripe→In11 wE a b (sureY l x (x + n - 1)).ripe s1 w→tget t 12=.slice (some ⟨wE.next + 1,0,none⟩) 2 2→Q (.exit 0) t w) :
  wp (exM Tryd.prog (run Tryd.prog ov 7) (.loop mc11_l0) t w) Q:=by
 obtain ⟨m1,m2,m3,m4,m5⟩:=mkB_of hM
 obtain ⟨g,hg⟩:∃ g,g=(sureY l x (x + n - 1)).ripe:=⟨_,rfl⟩
 rw [← hg] at hI t10 hQ hbest hg0
 refine wp_rounds (fun i t w=>(∃ s1,s1≤g∧In11 wE a b g s1 w)∧tget t 0=v∧tget t 2=.int .i64 n∧tget t 3=bv∧tget t 5=.pointer (some ⟨wE.next,0,none⟩)∧tget t 9=.int .i64 x∧tget t 10=.int .i64 g∧tget t 12=.slice (some ⟨wE.next + 1,0,none⟩) 2 2∧tget t 13=.int .i64 (i:Nat)∧i≤2) 10 (by decide) ⟨⟨0,hg0,hI⟩,t0,t2,t3,t5,t9,t10,t12,t13,Nat.zero_le _⟩ ?_
 clear t0 t2 t3 t5 t9 t10 t12 t13 hI
 rintro i t w ⟨⟨s1,hs1,hI⟩,t0,t2,t3,t5,t9,t10,t12,t13,hi⟩
 by_cases hlt:i < 2
 ·have hx:=hI.next
  have hl:=hI.lim
  have hbx:=hI.box
  have lw:w.lim≤w.next:=by omega
  have e1:¬ wE.next=w.next:=by omega
  have w1:IntKind.wrap .i64 (x + n)=x + n:=wrap64_in (by omega) (by omega)
  have w2:IntKind.wrap .i64 (x + n - 1)=x + n - 1:=wrap64_in (by omega) (by omega)
  have r35:=fun a b w=>rule35m h35 a b 6 w
  have fin:∀ (r:Int) t' w',r≤g→(i=0→r=g)→OutQ wE a b g s1 r i v (.int .i64 n) bv (.pointer (some ⟨wE.next,0,none⟩)) (.int .i64 x) t' w'→wp (exM Tryd.prog (run Tryd.prog ov 7) (.ops [⟨false,none,some 83,3,.move (.tmp 13)⟩,⟨false,none,some 84,3,.binOp .add 3 (.tmp 83) (.const (.int .i64 1)) 3⟩,⟨false,none,some 13,3,.assign (.tmp 84)⟩]) t' w') (roundQ 10 i (fun i t w=>(∃ s1,s1≤g∧In11 wE a b g s1 w)∧tget t 0=v∧tget t 2=.int .i64 n∧tget t 3=bv∧tget t 5=.pointer (some ⟨wE.next,0,none⟩)∧tget t 9=.int .i64 x∧tget t 10=.int .i64 g∧tget t 12=.slice (some ⟨wE.next + 1,0,none⟩) 2 2∧tget t 13=.int .i64 (i:Nat)∧i≤2) Q):=by
   rintro r t' w' hr hr0 ⟨hO,q0,q2,q3,q5,q9,q10,q12,q13⟩
   have hw1:IntKind.wrap .i64 ((i:Int) + 1)=(i:Int) + 1:=wrap64_in (by omega) (by omega)
   simp [q13,hw1,q0,q2,q3,q5,q9,q10,q12]
   refine ⟨by omega,?_,by omega⟩
   by_cases h0:i=0
   ·rw [if_pos h0,if_pos h0,hr0 h0] at hO; exact ⟨s1,hs1,hO⟩
   ·rw [if_neg h0,if_neg h0] at hO; exact ⟨r,hr,hO⟩
  by_cases h0:i=0
  ·subst h0
   rw [mc11_l0_eq]
   have hI1:In11 wE a b g s1 ⟨(w.heap.put w.next (some (.cells [.int .i64 0,.int .i64 0] 26 false))).put w.next (some (.cells [.int .i64 x,.int .i64 (x + n - 1)] 26 false)),w.next + 1,w.lim⟩:=hI.ext (((Old.refl _ _).put (Nat.le_refl _)).put (Nat.le_refl _)) (Nat.le_succ _) rfl
   simp [mc11_b0,t0,t2,t3,t5,t9,t10,t12,t13,w1,w2,r35,lw,cellsOf_agg]
   refine wp_seqX (wp_blockX (b1_11 ho23 ho29 ho34 H h14 h65 h66 h19 h21 h35 h38 h41 h33 h37 l bits hbl a b g s1 x (x + n - 1) (mk_at hB hM hx1 hx2) v (.int .i64 n) (.pointer (some ⟨wE.next,0,none⟩)) (.int .i64 x) bv 0 (by decide) (fun _=>hg.symm) wE _ hI1 hlim hPW hv hb w.next (Nat.lt_succ_self _) (by simp) _ ?_ ?_ ?_ ?_ ?_ ?_ ?_ ?_ ?_ _ ?_))
   case _=>simp [t0]
   case _=>simp [t2]
   case _=>simp [t3]
   case _=>simp [t5]
   case _=>simp [t9]
   case _=>simp [t10]
   case _=>simp [t12]
   case _=>simp [t13]
   case _=>simp
   case _ =>
    intro t' w' hO
    exact fin _ t' w' (by omega) (fun _=>hg.symm) hO
  ·obtain rfl:i=1:=by omega
   have h41':=rule41m (fm:=6) h41 7 (hb.old (w':=⟨(w.heap.put w.next (some (.cells [.int .i64 0,.int .i64 0] 26 false))).put w.next (some (.cells [.int .i64 x,.int .i64 (x + n - 1)] 26 false)),w.next + 1,w.lim⟩) (fun z hz=>by show ((w.heap.put _ _).put _ _).get z=_; rw [get_put,if_neg (by omega),get_put,if_neg (by omega)]; exact hI.old z hz) (by show wE.next≤w.next + 1; omega)) hbl
   have h38':=fun w=>rule38m h38 (lo:=a) (hi:=b) (nthI bits 7) (by omega) (by omega) 6 w
   have hin:=with_in (n:=nthI bits 7) (show a≤b by omega)
   obtain ⟨z,hz⟩:∃ z,z=withI a b (nthI bits 7):=⟨_,rfl⟩
   rw [← hz] at h38' hin
   simp only [inI,Bool.and_eq_true,decide_eq_true_eq] at hin
   have w3:IntKind.wrap .i64 (z + n)=z + n:=wrap64_in (by omega) (by omega)
   have w4:IntKind.wrap .i64 (z + n - 1)=z + n - 1:=wrap64_in (by omega) (by omega)
   rw [mc11_l0_eq]
   have hI1:In11 wE a b g s1 ⟨((w.heap.put w.next (some (.cells [.int .i64 0,.int .i64 0] 26 false))).put w.next (some (.cells [.int .i64 x,.int .i64 (x + n - 1)] 26 false))).put w.next (some (.cells [.int .i64 z,.int .i64 (z + n - 1)] 26 false)),w.next + 1,w.lim⟩:=hI.ext ((((Old.refl _ _).put (Nat.le_refl _)).put (Nat.le_refl _)).put (Nat.le_refl _)) (Nat.le_succ _) rfl
   simp [mc11_b0,t0,t2,t3,t5,t9,t10,t12,t13,w1,w2,r35,lw,cellsOf_agg,hbx,e1,h41',h38',w3,w4]
   refine wp_seqX (wp_blockX (b1_11 ho23 ho29 ho34 H h14 h65 h66 h19 h21 h35 h38 h41 h33 h37 l bits hbl a b g s1 z (z + n - 1) (mk_at hB hM hin.1 hin.2) v (.int .i64 n) (.pointer (some ⟨wE.next,0,none⟩)) (.int .i64 x) bv 1 (by decide) (fun h=>absurd h (by decide)) wE _ hI1 hlim hPW hv hb w.next (Nat.lt_succ_self _) (by simp) _ ?_ ?_ ?_ ?_ ?_ ?_ ?_ ?_ ?_ _ ?_))
   case _=>simp [t0]
   case _=>simp [t2]
   case _=>simp [t3]
   case _=>simp [t5]
   case _=>simp [t9]
   case _=>simp [t10]
   case _=>simp [t12]
   case _=>simp [t13]
   case _=>simp
   case _ =>
    intro t' w' hO
    exact fin _ t' w' (hbest z hin.1 hin.2) (fun h=>absurd h (by decide)) hO
 ·obtain rfl:i=2:=by omega
  rw [mc11_l0_eq]
  simp [t13]
  exact hQ _ _ s1 hs1 hI (by simp [t12])
end Go.Proofs.YtaiiampennkhiaaDoor.walk
namespace Go.Proofs.YtaiiampennkhiaaDoor.walk
open Go Go.Sh
open known (partsC laidL noOv)
set_option maxRecDepth 100000
set_option linter.unusedSimpArgs false
theorem mst_bestK {l:List Pod} {a n:Int}:∀ k:Nat,(∀ i,i < k→0≤sg l a n i)→(∀ i,i < k→sg l a n i≤(mst l a n k).2)∧(0 < k→∃ j,j < k∧mst l a n k=(a + (j:Nat),sg l a n j))
 | 0,_=>⟨fun i hi=>absurd hi (by omega),fun hk=>absurd hk (by omega)⟩
 | k + 1,h=>by
  obtain ⟨h1,h2⟩:=mst_bestK k fun i hi=>h i (by omega)
  have e:mst l a n (k + 1)=if (mst l a n k).2 < sg l a n k then (a + (k:Nat),sg l a n k) else mst l a n k:=rfl
  by_cases hc:(mst l a n k).2 < sg l a n k
  ·rw [if_pos hc] at e
   rw [e]
   refine ⟨fun i hi=>?_,fun _=>⟨k,by omega,rfl⟩⟩
   dsimp only
   rcases Nat.lt_or_ge i k with h3 | h3
   ·have:=h1 i h3; omega
   ·have:i=k:=by omega
    subst this; omega
  ·rw [if_neg hc] at e
   rw [e]
   refine ⟨fun i hi=>?_,fun _=>?_⟩
   ·rcases Nat.lt_or_ge i k with h3 | h3
    ·exact h1 i h3
    ·have:i=k:=by omega
     subst this; omega
   ·rcases Nat.eq_zero_or_pos k with rfl | hp
    ·have:=h 0 (by omega)
     have e0:(mst l a n 0).2 = -1:=rfl
     omega
    ·obtain ⟨j,j1,j2⟩:=h2 hp
     exact ⟨j,by omega,j2⟩
set_option maxHeartbeats 8000000 in
theorem run11 {ov:Ov} (ho:∀ args w,ov 11 args w=none) (ho23:∀ args w,ov 23 args w=none) (ho29:∀ args w,ov 29 args w=none) (ho34:∀ args w,ov 34 args w=none) (H:Ho60 ov) (h14:HasP ov 14 F14) (h19:HasP ov 19 F19) (h21:HasP ov 21 F21) (h31:HasP ov 31 F31) (h33:HasP ov 33 F33) (h35:HasP ov 35 F35) (h37:HasP ov 37 F37) (h38:HasP ov 38 F38) (h41:HasP ov 41 F41) (h65:HasP ov 65 F65) (h66:HasP ov 66 F66) (hW:HasW ov)
  (l:List Pod) (a b n:Int) (bits:List Int) (hbl:bits.length≤2 ^ 60) (v bv:Value) (w:AW) (hl:w.lim=w.next) (hPW:PartsW w) (hv:PodsV w v l) (hb:RowsV intC w bv bits) :
  ∃ x w',(run Tryd.prog ov 8).call 11 [v,.agg ⟨[.int .i64 a,.int .i64 b]⟩,.int .i64 n,bv] w .none=.ok (.ret x) w' .none∧x=.bool true:=by
 refine call_wp text11 (by simp) (ho _ _) ?_
 obtain ⟨H1,hH1⟩:∃ H1,H1=w.heap.put w.next (some (.cells [.int .i64 a,.int .i64 b] 26 false)):=⟨_,rfl⟩
 have o1:Old w.next w.heap H1:=by rw [hH1]; exact (Old.refl _ _).put (Nat.le_refl _)
 have g1:H1.get w.next=some (.cells [.int .i64 a,.int .i64 b] 26 false):=by rw [hH1,get_put,if_pos rfl]
 have hv1:PodsV ⟨H1,w.next + 1,w.lim⟩ v l:=hv.old o1 (Nat.le_succ _)
 have hPW1:PartsW ⟨H1,w.next + 1,w.lim⟩:=hPW.old o1 (Nat.le_succ _)
 have r31:=rule31 h31 a b n 6 hPW1 hv1.podsIn
 have r14:=rule14m h14 hv1.podsIn 6
 have kW:=ruleWn hW hPW1.parts 6
 have r33:=fun n a b w=>rule33m h33 n a b 6 w
 have hlv:=len22V hv
 unfold mkV at r31
 rw [hH1] at r31 r14 kW
 by_cases hE:mkE l a b n=0
 ·obtain ⟨hB,hM⟩:=mkE_of hE
  obtain ⟨m1,m2,m3,m4,m5⟩:=mkB_of hM
  have h12:=podsB_len hB
  have hll:¬ (12:Int) < (l.length:Int):=by omega
  obtain ⟨K,hK⟩:∃ K:Nat,K=(b - a + 1).toNat:=⟨_,rfl⟩
  have hsg:∀ i:Nat,a + i≤b→0≤sg l a n i:=fun i hi=>(sure_bd hB (lo:=a + i) (hi:=a + i + n - 1) (by omega)).1
  have hS:mkS l a b n=mst l a n K:=by rw [hK]; unfold mkS; rw [if_pos hE]
  have hbest:(∀ i,i < K→sg l a n i≤(mst l a n K).2)∧∃ j,j < K∧mst l a n K=(a + (j:Nat),sg l a n j):=by
   have:=mst_bestK (l:=l) (a:=a) (n:=n) K (fun i hi=>hsg i (by omega))
   exact ⟨this.1,this.2 (by omega)⟩
  obtain ⟨hb1,j,hj,hb2⟩:=hbest
  rw [hb2] at hb1 hS
  rw [hS,hE] at r31
  obtain ⟨x,hx⟩:∃ x:Int,x=a + (j:Nat):=⟨_,rfl⟩
  have hsx:sg l a n j=(sureY l x (x + n - 1)).ripe:=by rw [hx]; rfl
  rw [← hx,hsx] at r31
  have hg0:0≤(sureY l x (x + n - 1)).ripe:=by rw [← hsx]; exact hsg j (by omega)
  have hz:∀ z,a≤z→z≤b→(sureY l z (z + n - 1)).ripe≤(sureY l x (x + n - 1)).ripe:=by
   intro z z1 z2
   have:=hb1 (z - a).toNat (by omega)
   rw [hsx] at this
   have e:sg l a n (z - a).toNat=(sureY l z (z + n - 1)).ripe:=by
    unfold sg
    rw [show a + ((z - a).toNat:Int)=z by omega]
   rw [e] at this
   exact this
  obtain ⟨g,hg⟩:∃ g,g=(sureY l x (x + n - 1)).ripe:=⟨_,rfl⟩
  have i1:inI 1 n 400=true:=by simp [inI,m1,m2]
  have i2:inI 0 a b=true:=by simp [inI,m3,m4]
  have i3:inI a x b=true:=by simp only [inI,Bool.and_eq_true,decide_eq_true_eq]; omega
  have hlw:w.lim≤w.next:=by omega
  have e1:¬ w.next=w.next + 1:=by omega
  rw [hB] at r14
  rw [← hg] at r31
  simp [mc11,r31,r14,errB,hlv,hll,r33,i1,i2,i3]
  have hI:In11 w a b g 0 ⟨(w.heap.put w.next (some (.cells [.int .i64 a,.int .i64 b] 26 false))).put (w.next + 1) (some (.cells [.int .i64 g,.int .i64 0] 3 false)),w.next + 2,w.lim⟩:=by
   refine ⟨fun z hz=>?_,?_,?_,Nat.le_refl _,rfl⟩
   ·show ((w.heap.put _ _).put _ _).get z=_
    rw [get_put,if_neg (by omega),get_put,if_neg (by omega)]
   ·show ((w.heap.put _ _).put _ _).get _=_
    rw [get_put,if_neg e1,get_put,if_pos rfl]
   ·show ((w.heap.put _ _).put _ _).get _=_
    rw [get_put,if_pos rfl]
  rw [hg] at hI
  refine wp_seqX (wp_blockX (loop11a ho23 ho29 ho34 H h14 h65 h66 h19 h21 h35 h38 h41 h33 h37 l bits hbl a b n x hB hM (by omega) (by omega) hz hg0 v bv w hlw hPW hv hb _ _ ?_ ?_ ?_ ?_ ?_ ?_ ?_ ?_ ?_ _ ?_))
  case _=>rw [← hg] at hI ⊢; exact hI
  case _=>simp
  case _=>simp
  case _=>simp
  case _=>simp
  case _=>simp
  case _=>simp [hg]
  case _=>simp
  case _=>simp
  case _ =>
   intro t w' s1 hs1 hI' t12
   rw [← hg] at hs1 hI'
   have hsm:=hI'.sums
   have hnx:=hI'.next
   have kW':=ruleWn hW (hPW.old hI'.old (by omega)).parts 6
   have hia0:∀ w',indexAddrA Tryd.prog w' 33 (.slice (some ⟨w.next + 1,0,none⟩) 2 2) (.int .i64 0)=.val (.pointer (some ((⟨w.next + 1,0,none⟩:Addr).add (0 * 1)))) w':=fun w'=>ia33 w' ⟨w.next + 1,0,none⟩ 2 2 .i64 0 (by decide)
   have hia1:∀ w',indexAddrA Tryd.prog w' 33 (.slice (some ⟨w.next + 1,0,none⟩) 2 2) (.int .i64 1)=.val (.pointer (some ((⟨w.next + 1,0,none⟩:Addr).add (1 * 1)))) w':=fun w'=>ia33 w' ⟨w.next + 1,0,none⟩ 2 2 .i64 1 (by decide)
   simp [t12,hia0,hia1,hsm,hs1,kW',tupV]
 ·have e:mkS l a b n=(0,0):=by unfold mkS; rw [if_neg hE]
  rw [e] at r31
  simp [mc11,r31,hE,kW,tupV]
end Go.Proofs.YtaiiampennkhiaaDoor.walk
