/- Part of a proof: see the text with the theorem. -/
import Derived.Test.YtnmamelclmfplaaDoorTd
import Derived.Test.YtnmamelclmfplaaDoorShF
set_option linter.all false
namespace Go.Proofs.YtnmamelclmfplaaDoor.walk
open Go Go.Sh
set_option maxRecDepth 100000
structure FineS (s:Stg):Prop where
 last:s.last = -1∨0≤s.last
 done:0≤s.done∧s.done≤20
 row:0≤s.row∧s.row≤20
 lo:0≤s.lo∧s.lo≤1000000
 hi:0≤s.hi∧s.hi≤1000000
def FineA (a:CAct):Prop:=0≤a.ll∧a.ll≤10000∧0≤a.lh∧a.lh≤10000
theorem fine_of {r:List CAct} {so:List Int} {s:Stg} (h:StOk r so s) (hn:so.length≤14):FineS s:=by
 have h1:=h.done; have h2:=h.lo; have h3:=h.hi; have h4:=h.row
 have h5:=runL_le s.last so.reverse
 rw [List.length_reverse] at h5
 refine ⟨?_,by omega,by omega,by omega,by omega⟩
 rcases h.last with ⟨_,e⟩ | ⟨z,_,e,h0,_⟩ <;> omega
theorem fineA_of {r:List CAct} (h:ruleB r=true) {i:Nat} {x:CAct} (hx:r[i]?=some x):FineA x:=by
 obtain ⟨_,_,k,_⟩:=act_of h hx
 simp only [spanI,Bool.and_eq_true,decide_eq_true_eq] at k
 unfold FineA; omega
def dayC (y:CDay) (s:Stg):List Value:=[.int .i64 y.wl,.int .i64 y.wh,.bool y.rain,.int .i64 s.done,.int .i64 s.last,.int .i64 s.row,.int .i64 s.lo,.int .i64 s.hi]
def numC (a:CAct) (n:Int):List Value:=[.int .i64 a.warm,.int .i64 a.behind,.bool a.dry,.bool a.first,.int .i64 a.most,.int .i64 a.ll,.int .i64 a.lh,.int .i64 n]
def S100:PSpec where
 R args w v:=∃ (s:Stg) (a:CAct) (n:Int),args=[.agg ⟨stgC s⟩,.agg ⟨numC a n⟩]∧FineS s∧FineA a∧w.lim≤w.next∧v=.agg ⟨stgC (withS s a n)⟩
 uniq:=by
  rintro _ _ _ _ ⟨⟨_,_,_,_,_⟩,⟨_,_,_,_,_,_,_⟩,n,rfl,_,_,_,rfl⟩ ⟨⟨_,_,_,_,_⟩,⟨_,_,_,_,_,_,_⟩,n',h,_,_,_,rfl⟩
  simp only [stgC,numC,List.cons.injEq,Value.agg.injEq,Array.mk.injEq,Value.int.injEq,Value.bool.injEq,true_and,and_true] at h
  obtain ⟨⟨rfl,rfl,rfl,rfl,rfl⟩,rfl,rfl,rfl,rfl,rfl,rfl,rfl,rfl⟩:=h
  rfl
 shut:=fun ⟨s,a,n,h1,h2,h3,_,h4⟩=>⟨s,a,n,h1,h2,h3,Nat.le_refl _,h4⟩
theorem run100 {ov:Ov} (ho:∀ args w,ov 100 args w=none) (s:Stg) (a:CAct) (n:Int) (hs:FineS s) (ha:FineA a) (w:AW) (hl:w.lim=w.next):∃ x w',(run Tryd.prog ov 2).call 100 [.agg ⟨stgC s⟩,.agg ⟨numC a n⟩] w .none=.ok (.ret x) w' .none∧x=.agg ⟨stgC (withS s a n)⟩:=by
 refine call_wp text100 (by simp) (ho _ _) ?_
 have h1:=hs.done; have h2:=hs.row; have h3:=hs.lo; have h4:=hs.hi
 unfold FineA at ha
 have w1:IntKind.wrap .i64 (s.done + 1)=s.done + 1:=wrap64_in (by omega) (by omega)
 have w2:IntKind.wrap .i64 (1 + s.row)=1 + s.row:=wrap64_in (by omega) (by omega)
 have w3:IntKind.wrap .i64 (s.lo + a.ll)=s.lo + a.ll:=wrap64_in (by omega) (by omega)
 have w4:IntKind.wrap .i64 (s.hi + a.lh)=s.hi + a.lh:=wrap64_in (by omega) (by omega)
 have lw:w.lim≤w.next:=by omega
 have lw2:w.lim≤w.next + 1 + 1:=by omega
 have lw3:w.lim≤w.next + 1 + 1 + 1:=by omega
 by_cases e:n=s.last
 ·simp [mc100,stgC,numC,cellsOf_agg,e,w1,w2,w3,w4,lw,lw2,lw3,tupV,withS]
 ·simp [mc100,stgC,numC,cellsOf_agg,e,w1,w2,w3,w4,lw,lw2,lw3,tupV,withS]
def S78:PSpec where
 R args w v:=args=[]∧w.lim≤w.next∧v=.agg ⟨stgC startS⟩
 uniq:=by rintro _ _ _ _ ⟨rfl,_,rfl⟩ ⟨_,_,rfl⟩; rfl
 shut:=fun ⟨h1,_,h2⟩=>⟨h1,Nat.le_refl _,h2⟩
theorem run78 {ov:Ov} (ho:∀ args w,ov 78 args w=none) (w:AW) (hl:w.lim=w.next):∃ x w',(run Tryd.prog ov 2).call 78 [] w .none=.ok (.ret x) w' .none∧x=.agg ⟨stgC startS⟩:=by
 refine call_wp text78 (by simp) (ho _ _) ?_
 have lw:w.lim≤w.next:=by omega
 simp [mc78,stgC,startS,cellsOf_agg,lw,tupV]
def q0 (x:CAct) (y:CDay):Bool:=decide (x.warm≤y.wl)
def q1 (x:CAct) (y:CDay):Bool:=!(x.dry && y.rain)
def q2 (x:CAct) (num:Int) (s:Stg):Bool:=if s.last = -1 then x.first else decide (s.last=num) || bitB x.behind s.last
def q3 (x:CAct) (num:Int) (s:Stg):Bool:=decide (s.last ≠ num) || decide (s.row < x.most)
theorem fit_q (x:CAct) (num:Int) (y:CDay) (s:Stg):fitB x num y s=(q0 x y && (q1 x y && (q2 x num s && q3 x num s))):=rfl
def SQ (q:CAct→Int→CDay→Stg→Bool):PSpec where
 R args _ v:=∃ (x:CAct) (n:Int) (y:CDay) (s:Stg),args=[.agg ⟨dayC y s⟩,.agg ⟨numC x n⟩]∧FineS s∧v=.bool (q x n y s)
 uniq:=by
  rintro _ _ _ _ ⟨⟨_,_,_,_,_,_,_⟩,n,⟨_,_,_⟩,⟨_,_,_,_,_⟩,rfl,_,rfl⟩ ⟨⟨_,_,_,_,_,_,_⟩,n',⟨_,_,_⟩,⟨_,_,_,_,_⟩,h,_,rfl⟩
  simp only [dayC,numC,List.cons.injEq,Value.agg.injEq,Array.mk.injEq,Value.int.injEq,Value.bool.injEq,true_and,and_true] at h
  obtain ⟨⟨rfl,rfl,rfl,rfl,rfl,rfl,rfl,rfl⟩,rfl,rfl,rfl,rfl,rfl,rfl,rfl,rfl⟩:=h
  rfl
 shut h:=h
def S107:PSpec:=SQ fun x _ y _=>q0 x y
def S108:PSpec:=SQ fun x _ y _=>q1 x y
def S109:PSpec:=SQ fun x n _ s=>q2 x n s
def S110:PSpec:=SQ fun x n _ s=>q3 x n s
theorem run107 {ov:Ov} (ho:∀ args w,ov 107 args w=none) (x:CAct) (n:Int) (y:CDay) (s:Stg) (w:AW):∃ v w',(run Tryd.prog ov 2).call 107 [.agg ⟨dayC y s⟩,.agg ⟨numC x n⟩] w .none=.ok (.ret v) w' .none∧v=.bool (q0 x y):=by
 refine call_wp text107 (by simp) (ho _ _) ?_
 simp [mc107,dayC,numC,cellsOf_agg,tupV,q0]
theorem run108 {ov:Ov} (ho:∀ args w,ov 108 args w=none) (x:CAct) (n:Int) (y:CDay) (s:Stg) (w:AW):∃ v w',(run Tryd.prog ov 2).call 108 [.agg ⟨dayC y s⟩,.agg ⟨numC x n⟩] w .none=.ok (.ret v) w' .none∧v=.bool (q1 x y):=by
 refine call_wp text108 (by simp) (ho _ _) ?_
 cases hd:x.dry <;> simp [mc108,dayC,numC,cellsOf_agg,tupV,q1,hd]
theorem run109 {ov:Ov} (ho:∀ args w,ov 109 args w=none) (x:CAct) (n:Int) (y:CDay) (s:Stg) (hs:FineS s) (w:AW):∃ v w',(run Tryd.prog ov 2).call 109 [.agg ⟨dayC y s⟩,.agg ⟨numC x n⟩] w .none=.ok (.ret v) w' .none∧v=.bool (q2 x n s):=by
 refine call_wp text109 (by simp) (ho _ _) ?_
 by_cases h1:s.last = -1
 ·simp [mc109,dayC,numC,cellsOf_agg,tupV,q2,h1]
 ·have h0:0≤s.last:=by have:=hs.last; omega
  by_cases h2:s.last=n
  ·have h3:¬ n = -1:=by omega
   simp [mc109,dayC,numC,cellsOf_agg,tupV,q2,h1,h2,h3]
  ·simp [mc109,dayC,numC,cellsOf_agg,tupV,q2,h1,h2,bin_shr (h:=h0),bitB]
theorem run110 {ov:Ov} (ho:∀ args w,ov 110 args w=none) (x:CAct) (n:Int) (y:CDay) (s:Stg) (w:AW):∃ v w',(run Tryd.prog ov 2).call 110 [.agg ⟨dayC y s⟩,.agg ⟨numC x n⟩] w .none=.ok (.ret v) w' .none∧v=.bool (q3 x n s):=by
 refine call_wp text110 (by simp) (ho _ _) ?_
 by_cases h2:s.last=n <;> simp [mc110,dayC,numC,cellsOf_agg,tupV,q3,h2]
def fun98 (c2 c3:Nat):Value:=.func (.func 98) ⟨[]⟩ ⟨[.pointer (some ⟨c3,0,none⟩),.pointer (some ⟨c2,0,none⟩)]⟩
theorem call79 {ov:Ov} (m:Nat) (ho:∀ args w,ov 79 args w=none) (rv dv:Value) (s:Stg) (w:AW):∃ v w',(run Tryd.prog ov (m + 1)).call 79 [.agg ⟨[rv,dv]⟩,.agg ⟨stgC s⟩] w .none=.ok (.ret v) w' .none∧v=fun98 w.next (w.next + 1)∧w'=⟨(w.heap.put w.next (some (.cells [rv,dv] 89 false))).put (w.next + 1) (some (.cells [.int .i64 s.done,.int .i64 s.last,.int .i64 s.row,.int .i64 s.lo,.int .i64 s.hi] 86 false)),w.next + 2,w.lim⟩:=by
 refine call_wp text79 (by simp) (ho _ _) ?_
 simp [mc79,tupV,fun98,notJunk,cellsOf_agg,stgC]
def funQ (k:Nat):Value:=.func (.func k) ⟨[]⟩ ⟨[]⟩
@[simp] theorem bd153 (w:AW):buildA Tryd.prog w 153 [(0,.func (.func 107) #[] #[]),(1,.func (.func 108) #[] #[]),(2,.func (.func 109) #[] #[]),(3,.func (.func 110) #[] #[])]=.val (.agg ⟨[funQ 107,funQ 108,funQ 109,funQ 110]⟩) w:=by kernel_rfl
@[simp] theorem ix153_0 (w:AW):indexA Tryd.prog w 153 (.agg ⟨[funQ 107,funQ 108,funQ 109,funQ 110]⟩) (.int .i64 0)=.val (funQ 107) w:=by kernel_rfl
@[simp] theorem ix153_1 (w:AW):indexA Tryd.prog w 153 (.agg ⟨[funQ 107,funQ 108,funQ 109,funQ 110]⟩) (.int .i64 1)=.val (funQ 108) w:=by kernel_rfl
@[simp] theorem ix153_2 (w:AW):indexA Tryd.prog w 153 (.agg ⟨[funQ 107,funQ 108,funQ 109,funQ 110]⟩) (.int .i64 2)=.val (funQ 109) w:=by kernel_rfl
@[simp] theorem ix153_3 (w:AW):indexA Tryd.prog w 153 (.agg ⟨[funQ 107,funQ 108,funQ 109,funQ 110]⟩) (.int .i64 3)=.val (funQ 110) w:=by kernel_rfl
theorem call99 {ov:Ov} (m:Nat) (ho:∀ args w,ov 99 args w=none) (w:AW) (hl:w.lim≤w.next):∃ v w',(run Tryd.prog ov (m + 1)).call 99 [] w .none=.ok (.ret v) w' .none∧v=.agg ⟨[funQ 107,funQ 108,funQ 109,funQ 110]⟩∧Up w w':=by
 refine call_wp text99 (by simp) (ho _ _) ?_
 have u:=((Up.refl w).add (some (.cells [.nilFunc,.nilFunc,.nilFunc,.nilFunc] 153 false))).put (o:=some (.cells [funQ 107,funQ 108,funQ 109,funQ 110] 153 false)) (Nat.le_refl _) (Nat.le_refl _)
 have sg:singles [funQ 107,funQ 108,funQ 109,funQ 110]=true:=rfl
 simp [mc99,tupV,cellsOf_agg,hl,sg]
 exact u
theorem cvQ {k:Nat} (h:hasBody Tryd.prog k=true) (w:AW) (args:List Value):callV Tryd.prog w (funQ k) args=.enter k args w:=by
 show callV Tryd.prog w (.func (.func k) ⟨[]⟩ ⟨[]⟩) args=_
 rw [callV_func,callFn_of h]; simp
@[simp] theorem cv107 (w:AW) (args:List Value):callV Tryd.prog w (funQ 107) args=.enter 107 args w:=cvQ (by kernel_rfl) w args
@[simp] theorem cv108 (w:AW) (args:List Value):callV Tryd.prog w (funQ 108) args=.enter 108 args w:=cvQ (by kernel_rfl) w args
@[simp] theorem cv109 (w:AW) (args:List Value):callV Tryd.prog w (funQ 109) args=.enter 109 args w:=cvQ (by kernel_rfl) w args
@[simp] theorem cv110 (w:AW) (args:List Value):callV Tryd.prog w (funQ 110) args=.enter 110 args w:=cvQ (by kernel_rfl) w args
structure KeepT (t t':Tm):Prop where
 k0:tget t' 0=tget t 0
 k1:tget t' 1=tget t 1
 k4:tget t' 4=tget t 4
 k7:tget t' 7=tget t 7
 k25:tget t' 25=tget t 25
 k26:tget t' 26=tget t 26
 k27:tget t' 27=tget t 27
def qk (x:CAct) (n:Int) (y:CDay) (s:Stg) (j:Nat):Prop:=(1≤j→q0 x y=true)∧(2≤j→q1 x y=true)∧(3≤j→q2 x n s=true)∧(4≤j→q3 x n s=true)
theorem inner98 {ov:Ov} (m:Nat) (h107:HasP ov 107 S107.F) (h108:HasP ov 108 S108.F) (h109:HasP ov 109 S109.F) (h110:HasP ov 110 S110.F) (x:CAct) (n:Int) (y:CDay) (s:Stg) (hs:FineS s) (n4 n7:Nat) (Q:Ex→Tm→AW→Prop) (t:Tm) (w:AW)
  (g4:w.heap.get n4=some (.cells (dayC y s) 149 false)) (g7:w.heap.get n7=some (.cells (numC x n) 151 false)) (t4:tget t 4=.pointer (some ⟨n4,0,none⟩)) (t7:tget t 7=.pointer (some ⟨n7,0,none⟩)) (t35:tget t 35=.agg ⟨[funQ 107,funQ 108,funQ 109,funQ 110]⟩) (t36:tget t 36=.int .i64 0)
  (hQ0:fitB x n y s=false→∀ t',KeepT t t'→Q (.exit 1) t' w) (hQ1:fitB x n y s=true→∀ t',KeepT t t'→Q (.exit 2) t' w):wp (exY Tryd.prog (run Tryd.prog ov (m + 1)) (.loop mc98_l1) t w) Q:=by
 have r107:=S107.call (P:=Tryd.prog) h107 (m:=m) (w:=w) ⟨x,n,y,s,rfl,hs,rfl⟩
 have r108:=S108.call (P:=Tryd.prog) h108 (m:=m) (w:=w) ⟨x,n,y,s,rfl,hs,rfl⟩
 have r109:=S109.call (P:=Tryd.prog) h109 (m:=m) (w:=w) ⟨x,n,y,s,rfl,hs,rfl⟩
 have r110:=S110.call (P:=Tryd.prog) h110 (m:=m) (w:=w) ⟨x,n,y,s,rfl,hs,rfl⟩
 simp only [dayC,numC] at g4 g7 r107 r108 r109 r110
 refine wp_roundsY (fun j t' w'=>w'=w∧KeepT t t'∧tget t' 35=.agg ⟨[funQ 107,funQ 108,funQ 109,funQ 110]⟩∧tget t' 36=.int .i64 (j:Nat)∧j≤4∧qk x n y s j) 20 (by decide) ⟨rfl,⟨rfl,rfl,rfl,rfl,rfl,rfl,rfl⟩,t35,by simpa using t36,by omega,by unfold qk; omega⟩ ?_
 clear t35 t36
 rintro j t' w' ⟨rfl,hk,t35,t36,hj,hq⟩
 have u4:tget t' 4=.pointer (some ⟨n4,0,none⟩):=by rw [hk.k4,t4]
 have u7:tget t' 7=.pointer (some ⟨n7,0,none⟩):=by rw [hk.k7,t7]
 have wr (k:Int) (h:0≤k∧k≤4):IntKind.wrap .i64 (k + 1)=k + 1:=wrap64_in (by omega) (by omega)
 obtain ⟨z1,z2,z3,z4⟩:=hq
 rcases j with _ | _ | _ | _ | _ | j
 ·have t36:tget t' 36=.int .i64 0:=by simpa using t36
  cases hb:q0 x y with
  | false =>
   rw [hb] at r107
   simp [mc98_l1,t35,t36,u4,u7,g4,g7,r107]
   exact hQ0 (by simp [fit_q,hb]) _ ⟨by simp [hk.k0],by simp [hk.k1],by simp [hk.k4],by simp [hk.k7],by simp [hk.k25],by simp [hk.k26],by simp [hk.k27]⟩
  | true =>
   rw [hb] at r107
   have e:=wr 0 (by omega)
   simp [mc98_l1,t35,t36,u4,u7,g4,g7,r107]
   exact ⟨⟨by simp [hk.k0],by simp [hk.k1],by simp [hk.k4],by simp [hk.k7],by simp [hk.k25],by simp [hk.k26],by simp [hk.k27]⟩,by decide,fun _=>hb,fun h=>by omega,fun h=>by omega,fun h=>by omega⟩
 ·have t36:tget t' 36=.int .i64 1:=by simpa using t36
  cases hb:q1 x y with
  | false =>
   rw [hb] at r108
   simp [mc98_l1,t35,t36,u4,u7,g4,g7,r108]
   exact hQ0 (by simp [fit_q,hb]) _ ⟨by simp [hk.k0],by simp [hk.k1],by simp [hk.k4],by simp [hk.k7],by simp [hk.k25],by simp [hk.k26],by simp [hk.k27]⟩
  | true =>
   rw [hb] at r108
   simp [mc98_l1,t35,t36,u4,u7,g4,g7,r108]
   exact ⟨⟨by simp [hk.k0],by simp [hk.k1],by simp [hk.k4],by simp [hk.k7],by simp [hk.k25],by simp [hk.k26],by simp [hk.k27]⟩,by decide,fun _=>z1 (by omega),fun _=>hb,fun h=>by omega,fun h=>by omega⟩
 ·have t36:tget t' 36=.int .i64 2:=by simpa using t36
  cases hb:q2 x n s with
  | false =>
   rw [hb] at r109
   simp [mc98_l1,t35,t36,u4,u7,g4,g7,r109]
   exact hQ0 (by simp [fit_q,hb]) _ ⟨by simp [hk.k0],by simp [hk.k1],by simp [hk.k4],by simp [hk.k7],by simp [hk.k25],by simp [hk.k26],by simp [hk.k27]⟩
  | true =>
   rw [hb] at r109
   simp [mc98_l1,t35,t36,u4,u7,g4,g7,r109]
   exact ⟨⟨by simp [hk.k0],by simp [hk.k1],by simp [hk.k4],by simp [hk.k7],by simp [hk.k25],by simp [hk.k26],by simp [hk.k27]⟩,by decide,fun _=>z1 (by omega),fun _=>z2 (by omega),fun _=>hb,fun h=>by omega⟩
 ·have t36:tget t' 36=.int .i64 3:=by simpa using t36
  cases hb:q3 x n s with
  | false =>
   rw [hb] at r110
   simp [mc98_l1,t35,t36,u4,u7,g4,g7,r110]
   exact hQ0 (by simp [fit_q,hb]) _ ⟨by simp [hk.k0],by simp [hk.k1],by simp [hk.k4],by simp [hk.k7],by simp [hk.k25],by simp [hk.k26],by simp [hk.k27]⟩
  | true =>
   rw [hb] at r110
   simp [mc98_l1,t35,t36,u4,u7,g4,g7,r110]
   exact ⟨⟨by simp [hk.k0],by simp [hk.k1],by simp [hk.k4],by simp [hk.k7],by simp [hk.k25],by simp [hk.k26],by simp [hk.k27]⟩,by decide,fun _=>z1 (by omega),fun _=>z2 (by omega),fun _=>z3 (by omega),fun _=>hb⟩
 ·have t36:tget t' 36=.int .i64 4:=by simpa using t36
  have hf:fitB x n y s=true:=by rw [fit_q,z1 (by omega),z2 (by omega),z3 (by omega),z4 (by omega)]; rfl
  simp [mc98_l1,t35,t36]
  exact hQ1 hf _ ⟨by simp [hk.k0],by simp [hk.k1],by simp [hk.k4],by simp [hk.k7],by simp [hk.k25],by simp [hk.k26],by simp [hk.k27]⟩
 ·omega
structure In98 (we:AW) (L c6:Nat) (lp:ALoop) (s:Stg) (w:AW):Prop where
 lo:w.heap.get L=some (.loop lp)
 cur:w.heap.get c6=some (.cells (stgC s) 86 false)
 old:∀ x,x < we.next→x ≠ L→x ≠ c6→w.heap.get x=we.heap.get x
 next:we.next≤w.next
 lim:w.lim=we.lim
theorem In98.up {we:AW} {L c6:Nat} {lp:ALoop} {s:Stg} {w w':AW} (h:In98 we L c6 lp s w) (hL:L < we.next) (hc:c6 < we.next) (u:Up w w'):In98 we L c6 lp s w' :=
 ⟨by rw [u.at (by have:=h.next; omega)]; exact h.lo,by rw [u.at (by have:=h.next; omega)]; exact h.cur,fun x h1 h2 h3=>by rw [u.at (by have:=h.next; omega)]; exact h.old x h1 h2 h3,Nat.le_trans h.next u.next,by rw [u.lim,h.lim]⟩
def StepA (ov:Ov) (m L c6:Nat) (we:AW) (a:Int) (s:Stg) (lp lq:ALoop):Prop :=
 ∀ (s':Stg) (w:AW),In98 we L c6 lp s w→∃ w',yieldA (run Tryd.prog ov m) L [.agg ⟨stgC s'⟩] w=.val (!decide (s'.last=a)) w'∧In98 we L c6 (if s'.last=a then lq else lp) (if s'.last=a then s' else s) w'
def actAt (r:List CAct) (a:Int):Option CAct:=if 0≤a then r[a.toNat]? else none
set_option maxHeartbeats 1000000 in
theorem loop98 {ov:Ov} (m L c6:Nat) (ho99:∀ args w,ov 99 args w=none) (h100:HasP ov 100 S100.F) (h107:HasP ov 107 S107.F) (h108:HasP ov 108 S108.F) (h109:HasP ov 109 S109.F) (h110:HasP ov 110 S110.F) (r:List CAct) (hR:ruleB r=true) (y:CDay) (s:Stg) (hs:FineS s) (a:Int) (w0 we:AW) (u0:Up w0 we) (hL:w0.next≤L∧L < we.next) (hc6:w0.next≤c6∧c6 < we.next) (rv:Value) (hrv:RowsV actC w0 rv r)
  (n1 n4:Nat) (hn1:n1 < we.next∧n1 ≠ L∧n1 ≠ c6) (hn4:n4 < we.next∧n4 ≠ L∧n4 ≠ c6) (g1:we.heap.get n1=some (.cells (stgC s) 86 false)) (g4:we.heap.get n4=some (.cells (dayC y s) 149 false)) (hlim:we.lim≤we.next) (sc:Stg) (lp lq:ALoop) (hst:StepA ov (m + 1) L c6 we a sc lp lq)
  (Q:Ex→Tm→AW→Prop) (t:Tm) (w:AW) (hw:In98 we L c6 lp sc w) (t0:tget t 0=.func (.yield L) ⟨[]⟩ ⟨[]⟩) (t1:tget t 1=.pointer (some ⟨n1,0,none⟩)) (t4:tget t 4=.pointer (some ⟨n4,0,none⟩)) (t25:tget t 25=rv) (t26:tget t 26=.int .i64 (r.length:Nat)) (t27:tget t 27=.int .i64 0)
  (hno:∀ t w,In98 we L c6 lp sc w→(∀ x,actAt r a=some x→fitB x a y s=false)→Q (.exit 0) t w)
  (hyes:∀ t w x,actAt r a=some x→fitB x a y s=true→In98 we L c6 lq (withS s x a) w→Q .ret t w):wp (exY Tryd.prog (run Tryd.prog ov (m + 1)) (.loop mc98_l0) t w) Q:=by
 have hrl:=rule_len hR
 refine wp_roundsY (fun i t w=>In98 we L c6 lp sc w∧tget t 0=.func (.yield L) ⟨[]⟩ ⟨[]⟩∧tget t 1=.pointer (some ⟨n1,0,none⟩)∧tget t 4=.pointer (some ⟨n4,0,none⟩)∧tget t 25=rv∧tget t 26=.int .i64 (r.length:Nat)∧tget t 27=.int .i64 (i:Nat)∧i≤r.length∧∀ j x,j < i→r[j]?=some x→(j:Int)=a→fitB x a y s=false) 20 (by decide) ⟨hw,t0,t1,t4,t25,t26,by simpa using t27,by omega,fun j x h=>by omega⟩ ?_
 clear t0 t1 t4 t25 t26 t27 hw
 rintro i t w ⟨hw,t0,t1,t4,t25,t26,t27,hi,hnf⟩
 by_cases hlt:i < r.length
 ·obtain ⟨x,hx⟩:∃ p,r[i]?=some p:=⟨_,List.getElem?_eq_getElem hlt⟩
  have hfa:=fineA_of hR hx
  obtain ⟨b,off,sq,c,rfl,hra⟩:=hrv.at_ i hlt
  have hb:=hra.2
  have hnx:=hw.next
  have hun:=u0.next
  have hlm:=hw.lim
  have hld:=hra.rd actC_length hx
  rw [← u0.at hb,← hw.old b (by omega) (by omega) (by omega)] at hld
  have hia:=fun w=>ia22 w ⟨b,off,sq⟩ r.length c .i64 i hlt
  have hw1:IntKind.wrap .i64 ((i:Int) + 1)=(i:Int) + 1:=wrap64_in (by omega) (by omega)
  obtain ⟨x,rfl⟩:∃ x',x=x':=⟨_,rfl⟩
  have lw:w.lim≤w.next:=by omega
  have lw1:w.lim≤w.next + 1:=by omega
  obtain ⟨cs,hcs⟩:∃ cs,cs=actC x:=⟨_,rfl⟩
  simp only [actC] at hld
  obtain ⟨_,w3,c99,rfl,u3⟩:=call99 (ov:=ov) m ho99 ⟨(((w.heap.put w.next (some (.cells [.int .i64 0,.int .i64 0,.bool false,.bool false,.int .i64 0,.int .i64 0,.int .i64 0] 78 false))).put w.next (some (.cells [.int .i64 x.warm,.int .i64 x.behind,.bool x.dry,.bool x.first,.int .i64 x.most,.int .i64 x.ll,.int .i64 x.lh] 78 false))).put (w.next + 1) (some (.cells [.int .i64 0,.int .i64 0,.bool false,.bool false,.int .i64 0,.int .i64 0,.int .i64 0,.int .i64 0] 151 false))).put (w.next + 1) (some (.cells [.int .i64 x.warm,.int .i64 x.behind,.bool x.dry,.bool x.first,.int .i64 x.most,.int .i64 x.ll,.int .i64 x.lh,.int .i64 (i:Nat)] 151 false)),w.next + 1 + 1,w.lim⟩ (by show w.lim≤w.next + 1 + 1; omega)
  have u2:Up w w3:=Up.trans (((((Up.refl w).add _).put (Nat.le_refl _) (Nat.le_refl _)).add _).put (by show w.next≤w.next + 1; omega) (Nat.le_refl _)) u3
  have hI3:=hw.up hL.2 hc6.2 u2
  have g7:w3.heap.get (w.next + 1)=some (.cells (numC x i) 151 false):=by
   rw [u3.at (by show w.next + 1 < w.next + 1 + 1; omega)]
   show (((((w.heap.put _ _).put _ _).put _ _).put _ _).get _)=_
   rw [get_put,if_pos rfl]; rfl
  have hn3:=hI3.next
  have hl3:=hI3.lim
  have g43:w3.heap.get n4=some (.cells (dayC y s) 149 false):=by rw [hI3.old n4 hn4.1 hn4.2.1 hn4.2.2]; exact g4
  have g13:w3.heap.get n1=some (.cells (stgC s) 86 false):=by rw [hI3.old n1 hn1.1 hn1.2.1 hn1.2.2]; exact g1
  simp [mc98_l0,t0,t1,t4,t25,t26,t27,hlt,hia,hld,lw,lw1,c99]
  generalize hTT:tset _ 36 _=TT
  have v0:tget TT 0=.func (.yield L) ⟨[]⟩ ⟨[]⟩:=by rw [← hTT]; simp [t0]
  have v1:tget TT 1=.pointer (some ⟨n1,0,none⟩):=by rw [← hTT]; simp [t1]
  have v4:tget TT 4=.pointer (some ⟨n4,0,none⟩):=by rw [← hTT]; simp [t4]
  have v7:tget TT 7=.pointer (some ⟨w.next + 1,0,none⟩):=by rw [← hTT]; simp
  have v25:tget TT 25=.slice (some ⟨b,off,sq⟩) r.length c:=by rw [← hTT]; simp [t25]
  have v26:tget TT 26=.int .i64 (r.length:Nat):=by rw [← hTT]; simp [t26]
  have v27:tget TT 27=.int .i64 (i:Nat):=by rw [← hTT]; simp [t27]
  have v35:tget TT 35=.agg ⟨[funQ 107,funQ 108,funQ 109,funQ 110]⟩:=by rw [← hTT]; simp
  have v36:tget TT 36=.int .i64 0:=by rw [← hTT]; simp
  clear hTT
  refine wp_seqX (wp_blockX (wp_seqX (wp_blockX (inner98 m h107 h108 h109 h110 x (i:Nat) y s hs n4 (w.next + 1) _ TT w3 g43 g7 v4 v7 v35 v36 ?_ ?_))))
  ·intro hf t' hk
   simp [hk.k0,hk.k1,hk.k4,hk.k25,hk.k26,hk.k27,v0,v1,v4,v25,v26,v27,hw1]
   refine ⟨by omega,hI3,hlt,fun j z hj hz e=>?_⟩
   by_cases hji:j=i
   ·subst hji
    rw [hx] at hz; cases hz
    rw [← e]; exact hf
   ·exact hnf j z (by omega) hz e
  ·intro hf t' hk
   have r100:=S100.call (P:=Tryd.prog) h100 (m:=m) (w:=w3) ⟨s,x,(i:Nat),rfl,hs,hfa,by omega,rfl⟩
   obtain ⟨w4,hy,hI4⟩:=hst (withS s x (i:Nat)) w3 hI3
   have e:(withS s x (i:Nat)).last=(i:Int):=rfl
   rw [e] at hy hI4
   have k0:=hk.k0; have k1:=hk.k1; have k7:=hk.k7
   rw [v0] at k0; rw [v1] at k1; rw [v7] at k7
   have g73:=g7
   simp only [numC] at g73 r100
   have g13':=g13
   generalize hS:stgC (withS s x (i:Nat))=SS at r100 hy
   simp only [stgC] at g13' r100
   by_cases ha:(i:Int)=a
   ·simp only [ha,if_true] at hI4
    have e2:actAt r a=some x:=by
     unfold actAt; rw [if_pos (by omega),show a.toNat=i by omega]; exact hx
    simp only [decide_eq_true ha] at hy
    simp [k0,k1,k7,g13',g73,r100,hy]
    exact hyes _ _ x e2 (by rw [← ha]; exact hf) (by rw [← ha] at hI4 ⊢; exact hI4)
   ·rw [if_neg ha,if_neg ha] at hI4
    simp only [decide_eq_false ha] at hy
    simp [k0,k1,k7,g13',g73,r100,hy,hk.k4,hk.k25,hk.k26,hk.k27,v4,v25,v26,v27,hw1]
    refine ⟨by omega,hI4,hlt,fun j z hj hz e3=>?_⟩
    by_cases hji:j=i
    ·subst hji; exact absurd e3 ha
    ·exact hnf j z (by omega) hz e3
 ·have hi':i=r.length:=by omega
  subst hi'
  simp [mc98_l0,t26,t27]
  refine hno _ _ hw fun x hx=>?_
  unfold actAt at hx
  by_cases h0:0≤a
  ·rw [if_pos h0] at hx
   exact hnf a.toNat x (List.getElem?_eq_some_iff.1 hx).1 hx (by omega)
  ·rw [if_neg h0] at hx; cases hx
theorem In98.down {we we1:AW} {L c6:Nat} {lp:ALoop} {s:Stg} {w:AW} (h:In98 we1 L c6 lp s w) (u:Up we we1):In98 we L c6 lp s w :=
 ⟨h.lo,h.cur,fun x h1 h2 h3=>by rw [h.old x (by have:=u.next; omega) h2 h3,u.at h1],Nat.le_trans u.next h.next,by rw [h.lim,u.lim]⟩
theorem next_some {r:List CAct} {d:List CDay} {s:Stg} {a:Int} {x:CAct} {y:CDay} (hd:d[s.done.toNat]?=some y) (hx:actAt r a=some x) (hf:fitB x a y s=true):nextS r d s a=some (withS s x a):=by
 unfold actAt at hx
 unfold nextS
 rw [hd,hx]; simp [hf]
theorem next_none {r:List CAct} {d:List CDay} {s:Stg} {a:Int} {y:CDay} (hd:d[s.done.toNat]?=some y) (h:∀ x,actAt r a=some x→fitB x a y s=false):nextS r d s a=none:=by
 unfold nextS
 rw [hd]
 unfold actAt at h
 cases hx:(if 0≤a then r[a.toNat]? else none) with
 | none=>rfl
 | some x=>simp [h x hx]
set_option maxHeartbeats 1000000 in
theorem call98 {ov:Ov} (m L c6:Nat) (ho:∀ args w,ov 98 args w=none) (ho99:∀ args w,ov 99 args w=none) (h100:HasP ov 100 S100.F) (h107:HasP ov 107 S107.F) (h108:HasP ov 108 S108.F) (h109:HasP ov 109 S109.F) (h110:HasP ov 110 S110.F) (r:List CAct) (d:List CDay) (hR:ruleB r=true) (s:Stg) (hs:FineS s) (k:Nat) (hk:s.done=(k:Nat)) (hkd:k≤d.length) (a:Int) (w0 we:AW) (u0:Up w0 we) (hL:w0.next≤L∧L < we.next) (hc6:w0.next≤c6∧c6 < we.next) (rv dv:Value) (hrv:RowsV actC w0 rv r) (hdv:RowsV cdayC w0 dv d)
  (n1 n2:Nat) (hn1:n1 < we.next∧n1 ≠ L∧n1 ≠ c6) (hn2:n2 < we.next∧n2 ≠ L∧n2 ≠ c6) (g1:we.heap.get n1=some (.cells (stgC s) 86 false)) (g2:we.heap.get n2=some (.cells [rv,dv] 89 false)) (hlim:we.lim≤we.next) (sc:Stg) (lp lq:ALoop) (hlo:we.heap.get L=some (.loop lp)) (hcur:we.heap.get c6=some (.cells (stgC sc) 86 false)) (hst:∀ w1,Up we w1→StepA ov (m + 1) L c6 w1 a sc lp lq) :
  ∃ v w',(run Tryd.prog ov (m + 2)).call 98 [.func (.yield L) ⟨[]⟩ ⟨[]⟩,.pointer (some ⟨n1,0,none⟩),.pointer (some ⟨n2,0,none⟩)] we .none=.ok (.ret v) w' .none∧(match nextS r d s a with | some s'=>In98 we L c6 lq s' w' | none=>In98 we L c6 lp sc w'):=by
 refine call_wpY text98 (by simp) (ho _ _) ?_
 have hl1:=fun w2=>len22V (w':=w2) hrv
 have hl2:=fun w2=>len23V (w':=w2) hdv
 have hIe:In98 we L c6 lp sc we:=⟨hlo,hcur,fun _ _ _ _=>rfl,Nat.le_refl _,rfl⟩
 have g1':=g1
 simp only [stgC,hk] at g1'
 by_cases hlt:k < d.length
 ·obtain ⟨y,hy⟩:∃ p,d[k]?=some p:=⟨_,List.getElem?_eq_getElem hlt⟩
  have hy':d[s.done.toNat]?=some y:=by rw [hk]; simpa using hy
  obtain ⟨b,off,sq,c,rfl,hra⟩:=hdv.at_ k hlt
  have hb:=hra.2
  have hun:=u0.next
  have hld:=hra.rd cdayC_length hy
  rw [← u0.at hb] at hld
  have hia:=fun w=>ia23 w ⟨b,off,sq⟩ d.length c .i64 k hlt
  have e1:¬ (k:Int)=d.length:=by omega
  have e2:¬ k=d.length:=by omega
  have ne1:¬ n1=we.next:=by omega
  have ne2:¬ n2=we.next:=by omega
  have neb:¬ b=we.next:=by omega
  have nj:sameVal 5 rv rv=true∧notJunk rv=some rv:=by
   obtain ⟨p,q,rfl⟩:=hrv.len
   exact ⟨same_slice _ _ _,rfl⟩
  have sm1:sameVal 5 (.agg ⟨[.int .i64 (k:Nat),.int .i64 s.last,.int .i64 s.row,.int .i64 s.lo,.int .i64 s.hi]⟩) (.agg ⟨[.int .i64 (k:Nat),.int .i64 s.last,.int .i64 s.row,.int .i64 s.lo,.int .i64 s.hi]⟩)=true:=same_agg _ (by
   intro v hv
   simp only [List.mem_cons,List.not_mem_nil,or_false] at hv
   rcases hv with rfl | rfl | rfl | rfl | rfl <;> exact sameN_int _ _ _)
  have sm2:sameVal 5 (.agg ⟨[.int .i64 y.wl,.int .i64 y.wh,.bool y.rain]⟩) (.agg ⟨[.int .i64 y.wl,.int .i64 y.wh,.bool y.rain]⟩)=true:=same_agg _ (by
   intro v hv
   simp only [List.mem_cons,List.not_mem_nil,or_false] at hv
   rcases hv with rfl | rfl | rfl
   ·exact sameN_int _ _ _
   ·exact sameN_int _ _ _
   ·cases y.rain <;> rfl)
  simp only [cdayC] at hld
  have u1:Up we ⟨(we.heap.put we.next (some (.cells [.int .i64 0,.int .i64 0,.bool false,.int .i64 0,.int .i64 0,.int .i64 0,.int .i64 0,.int .i64 0] 149 false))).put we.next (some (.cells [.int .i64 y.wl,.int .i64 y.wh,.bool y.rain,.int .i64 (k:Nat),.int .i64 s.last,.int .i64 s.row,.int .i64 s.lo,.int .i64 s.hi] 149 false)),we.next + 1,we.lim⟩:=((Up.refl we).add _).put (Nat.le_refl _) (Nat.le_refl _)
  have gd:(⟨(we.heap.put we.next (some (.cells [.int .i64 0,.int .i64 0,.bool false,.int .i64 0,.int .i64 0,.int .i64 0,.int .i64 0,.int .i64 0] 149 false))).put we.next (some (.cells [.int .i64 y.wl,.int .i64 y.wh,.bool y.rain,.int .i64 (k:Nat),.int .i64 s.last,.int .i64 s.row,.int .i64 s.lo,.int .i64 s.hi] 149 false)),we.next + 1,we.lim⟩:AW).heap.get we.next=some (.cells (dayC y s) 149 false):=by
   show ((we.heap.put _ _).put _ _).get _=_
   rw [get_put,if_pos rfl,dayC,hk]
  have hIu:=hIe.up hL.2 hc6.2 u1
  have hIu':=hIu
  simp [mc98,g1',g2,hl1,hl2,e1,e2,hia,hld,ne1,ne2,neb,nj.1,sm1,sm2,hlim]
  refine wp_blockX (loop98 m L c6 ho99 h100 h107 h108 h109 h110 r hR y s hs a w0 _ (u0.trans u1) ⟨hL.1,by show L < we.next + 1; omega⟩ ⟨hc6.1,by show c6 < we.next + 1; omega⟩ rv hrv n1 we.next ⟨by show n1 < we.next + 1; omega,hn1.2⟩ ⟨Nat.lt_succ_self _,by omega,by omega⟩ (by rw [u1.at hn1.1]; exact g1) gd (by show we.lim≤we.next + 1; omega) sc lp lq (hst _ u1) _ _ _ ⟨hIu.lo,hIu.cur,fun _ _ _ _=>rfl,Nat.le_refl _,rfl⟩ ?_ ?_ ?_ ?_ ?_ ?_ ?_ ?_)
  case _=>simp
  case _=>simp
  case _=>simp
  case _=>simp
  case _=>simp
  case _=>simp
  case _ =>
   intro t w hw hn
   have e:=next_none hy' hn
   have hw':=hw.down u1
   simpa [tupV,e] using hw'
  case _ =>
   intro t w x hx hf hw
   have e:=next_some hy' hx hf
   have hw':=hw.down u1
   simpa [tupV,e] using hw'
 ·have hkl:k=d.length:=by omega
  have e:nextS r d s a=none:=by
   unfold nextS
   rw [hk]; simp [hkl]
  simp [mc98,g1',g2,hl1,hl2,hkl,e,tupV]
  exact hIe
@[simp] theorem setParC_cons (p:Tmp) (ps:List Tmp) (a:Value) (l:List Value) (t:Tm):setParams (p::ps) (a::l) t=setParams ps l (tset t p a):=rfl
@[simp] theorem setParC_nil (t:Tm):setParams [] [] t=t:=rfl
theorem steps51 {ov:Ov} (m L c6 c8:Nat) (TT:Tm) (t6:tget TT 6=.pointer (some ⟨c6,0,none⟩)) (t8:tget TT 8=.pointer (some ⟨c8,0,none⟩)) (a:Int) (s:Stg) (we:AW) (hL:L < we.next) (hc6:c6 < we.next) (hc8:c8 < we.next) (n1:c6 ≠ L) (n2:c8 ≠ L) (n3:c8 ≠ c6) (g8:we.heap.get c8=some (.cells [.int .i64 a] 3 false)) (l1:we.lim≤c6) (l2:we.lim≤L) :
  StepA ov (m + 1) L c6 we a s ⟨29,TT,[20],(rfOf Tryd.prog 51 0).1,(rfOf Tryd.prog 51 0).2,none,.ready⟩ ⟨29,TT,[20],(rfOf Tryd.prog 51 0).1,(rfOf Tryd.prog 51 0).2,some (.exit 1),.done⟩:=by
 intro s' w hw
 have hlo:=hw.lo
 have hnx:=hw.next
 have hlm:=hw.lim
 have g8w:w.heap.get c8=some (.cells [.int .i64 a] 3 false):=by rw [hw.old c8 hc8 n2 n3]; exact g8
 have hcur:=hw.cur
 have e1:¬ L=w.next:=by omega
 have e2:¬ c6=w.next:=by omega
 have e3:¬ c8=w.next:=by omega
 have e1':¬ w.next=L:=by omega
 have e2':¬ w.next=c6:=by omega
 have l1':w.lim≤c6:=by omega
 have l2':w.lim≤L:=by omega
 have l3:w.lim≤w.next:=by omega
 have n1':=Ne.symm n1
 have n2':=Ne.symm n2
 simp only [stgC] at hcur
 obtain ⟨C,hC⟩:∃ C:AObj,C=.cells [.int .i64 s'.done,.int .i64 s'.last,.int .i64 s'.row,.int .i64 s'.lo,.int .i64 s'.hi] 86 false:=⟨_,rfl⟩
 obtain ⟨j,w',hy,hQ⟩:=yield_wp (P:=Tryd.prog) (ov:=ov) (m:=m) (l:=L) (args:=[.agg ⟨stgC s'⟩]) (w:=w) (Q:=fun j w'=>j=(if s'.last=a then some (.exit 1) else none)∧w'=if s'.last=a then ⟨((((w.heap.put w.next (some (.cells [.int .i64 0,.int .i64 0,.int .i64 0,.int .i64 0,.int .i64 0] 86 false))).put w.next (some C)).put L (some (.loop ⟨29,TT,[20],(rfOf Tryd.prog 51 0).1,(rfOf Tryd.prog 51 0).2,none,.busy⟩))).put c6 (some C)).put L (some (.loop ⟨29,TT,[20],(rfOf Tryd.prog 51 0).1,(rfOf Tryd.prog 51 0).2,some (.exit 1),.done⟩)),w.next + 1,w.lim⟩ else ⟨(((w.heap.put w.next (some (.cells [.int .i64 0,.int .i64 0,.int .i64 0,.int .i64 0,.int .i64 0] 86 false))).put w.next (some C)).put L (some (.loop ⟨29,TT,[20],(rfOf Tryd.prog 51 0).1,(rfOf Tryd.prog 51 0).2,none,.busy⟩))).put L (some (.loop ⟨29,TT,[20],(rfOf Tryd.prog 51 0).1,(rfOf Tryd.prog 51 0).2,none,.ready⟩)),w.next + 1,w.lim⟩) hlo rfl rfl ta51_0 tb51_0 (by
  rw [hC]
  simp only [stgC]
  by_cases hm:s'.last=a
  ·simp [mc51_a0,mc51_b0,hlo,jumpOf,t6,t8,g8w,hcur,e1,e2,e3,e1',e2',l1',l2',l3,n1,n2,n3,n1',n2',hm]
  ·simp [mc51_a0,mc51_b0,hlo,jumpOf,t6,t8,g8w,hcur,e1,e2,e3,e1',e2',l1',l2',l3,n1,n2,n3,n1',n2',hm])
 obtain ⟨rfl,hw'⟩:=hQ
 have hd:(if s'.last=a then some (Code.exit 1) else none).isNone=!decide (s'.last=a):=by by_cases hm:s'.last=a <;> simp [hm]
 rw [hd] at hy
 refine ⟨w',hy,?_⟩
 subst hw'
 by_cases hm:s'.last=a
 ·simp only [if_pos hm]
  refine ⟨?_,?_,fun x h1 h2 h3=>?_,by show we.next≤w.next + 1; omega,hlm⟩
  ·show (((((w.heap.put _ _).put _ _).put _ _).put _ _).put _ _).get L=_
   rw [get_put,if_pos rfl]
  ·show (((((w.heap.put _ _).put _ _).put _ _).put _ _).put _ _).get c6=_
   rw [get_put,if_neg n1,get_put,if_pos rfl,hC]; rfl
  ·show (((((w.heap.put _ _).put _ _).put _ _).put _ _).put _ _).get x=_
   rw [get_put,if_neg h2,get_put,if_neg h3,get_put,if_neg h2,get_put,if_neg (by omega),get_put,if_neg (by omega)]
   exact hw.old x h1 h2 h3
 ·simp only [if_neg hm]
  refine ⟨?_,?_,fun x h1 h2 h3=>?_,by show we.next≤w.next + 1; omega,hlm⟩
  ·show ((((w.heap.put _ _).put _ _).put _ _).put _ _).get L=_
   rw [get_put,if_pos rfl]
  ·show ((((w.heap.put _ _).put _ _).put _ _).put _ _).get c6=_
   rw [get_put,if_neg n1,get_put,if_neg n1,get_put,if_neg e2,get_put,if_neg e2]
   exact hw.cur
  ·show ((((w.heap.put _ _).put _ _).put _ _).put _ _).get x=_
   rw [get_put,if_neg h2,get_put,if_neg h2,get_put,if_neg (by omega),get_put,if_neg (by omega)]
   exact hw.old x h1 h2 h3
structure In51 (w0:AW) (rv dv:Value) (s:Stg) (w:AW):Prop where
 up:Up w0 w
 b2:w.heap.get w0.next=some (.cells [rv,dv] 89 false)
 b4:w.heap.get (w0.next + 1)=some (.cells [.int .i64 0,.int .i64 0,.int .i64 0,.int .i64 0,.int .i64 0] 86 false)
 b6:w.heap.get (w0.next + 1 + 1)=some (.cells (stgC s) 86 false)
 next:w0.next + 3≤w.next
def stgR:Option Stg→Value
 | some s=>.tuple ⟨[.agg ⟨stgC s⟩,.bool true]⟩
 | none=>.tuple ⟨[.agg ⟨stgC ⟨0,0,0,0,0⟩⟩,.bool false]⟩
@[simp] theorem cfn98 (w:AW) (l:List Value):callFn Tryd.prog w 98 l=.enter 98 l w:=callFn_of (by kernel_rfl) l
set_option maxHeartbeats 1000000 in
theorem run51 {ov:Ov} (ho:∀ args w,ov 51 args w=none) (ho79:∀ args w,ov 79 args w=none) (ho98:∀ args w,ov 98 args w=none) (ho99:∀ args w,ov 99 args w=none) (h78:HasP ov 78 S78.F) (h100:HasP ov 100 S100.F) (h107:HasP ov 107 S107.F) (h108:HasP ov 108 S108.F) (h109:HasP ov 109 S109.F) (h110:HasP ov 110 S110.F) (r:List CAct) (d:List CDay) (hR:ruleB r=true) (hD:daysB d=true) (acts:List Int) (rv dv av:Value) (w0:AW) (hl:w0.lim=w0.next) (hrv:RowsV actC w0 rv r) (hdv:RowsV cdayC w0 dv d) (hav:RowsV intC w0 av acts) :
  ∃ x w',(run Tryd.prog ov 4).call 51 [.agg ⟨[rv,dv]⟩,av] w0 .none=.ok (.ret x) w' .none∧x=stgR (stgF r d startS acts):=by
 refine call_wpY text51 (by simp) (ho _ _) ?_
 have hl1:=fun w2=>len28V (w':=w2) hav
 have hdl:=days_len hD
 have lw:w0.lim≤w0.next:=by omega
 have lw2:w0.lim≤w0.next + 1 + 1:=by omega
 have r78:=fun w hw=>S78.call (P:=Tryd.prog) h78 (m:=2) (w:=w) ⟨rfl,hw,rfl⟩
 have r78':=r78 ⟨(w0.heap.put w0.next (some (.cells [rv,dv] 89 false))).put (w0.next + 1) (some (.cells [.int .i64 0,.int .i64 0,.int .i64 0,.int .i64 0,.int .i64 0] 86 false)),w0.next + 1 + 1,w0.lim⟩ lw2
 simp only [stgC,startS] at r78'
 simp [mc51,cellsOf_agg,r78',lw2,hl1]
 refine wp_seqX (wp_blockX (wp_roundsY (fun i t w=>∃ s,In51 w0 rv dv s w∧stgF r d startS (acts.take i)=some s∧tget t 2=.pointer (some ⟨w0.next,0,none⟩)∧tget t 4=.pointer (some ⟨w0.next + 1,0,none⟩)∧tget t 6=.pointer (some ⟨w0.next + 1 + 1,0,none⟩)∧tget t 11=av∧tget t 12=.int .i64 (acts.length:Nat)∧tget t 13=.int .i64 (i:Nat)∧i≤acts.length) 20 (by decide) ?_ ?_))
 ·refine ⟨startS,⟨((((Up.refl w0).add _).put (by omega) (Nat.le_succ _)).put (by omega) (Nat.le_succ _)).put (by omega) (Nat.le_refl _),by simp,by simp,by simp [stgC,startS],by show w0.next + 3≤w0.next + 1 + 1 + 1; omega⟩,by simp [stgF],by simp,by simp,by simp,by simp,by simp,by simp,by omega⟩
 ·rintro i t w ⟨s,hw,hs,t2,t4,t6,t11,t12,t13,hi⟩
  have hsn:=stg_can (d:=d) hR acts i hi
  obtain ⟨hok⟩:Nonempty (StOk r (acts.take i) s):=by
   rcases hsn with ⟨h1,_⟩ | ⟨s',h1,_,h3⟩
   ·rw [hs] at h1; cases h1
   ·rw [hs] at h1; cases h1; exact ⟨h3⟩
  have hid:i≤d.length:=by
   have:=stg_len hR hs
   rw [List.length_take,Nat.min_eq_left hi] at this; exact this
  have hf:FineS s:=fine_of hok (by rw [List.length_take]; omega)
  have hdone:s.done=(i:Nat):=by rw [hok.done,List.length_take,Nat.min_eq_left hi]
  have hup:=hw.up
  have hnx:=hw.next
  have hlm:w.lim=w0.lim:=hup.lim
  have hb2:=hw.b2; have hb4:=hw.b4; have hb6:=hw.b6
  by_cases hlt:i < acts.length
  ·obtain ⟨a,ha⟩:∃ p,acts[i]?=some p:=⟨_,List.getElem?_eq_getElem hlt⟩
   obtain ⟨b,off,sq,c,rfl,hra⟩:=hav.at_ i hlt
   have hld:=hra.int ha
   rw [← hup.at hra.2] at hld
   have hia:=fun w=>ia28 w ⟨b,off,sq⟩ acts.length c .i64 i hlt
   simp only [Nat.mul_one] at hia
   have hw1:IntKind.wrap .i64 ((i:Int) + 1)=(i:Int) + 1:=wrap64_in (by omega) (by omega)
   have q1:w.lim≤w.next:=by omega
   have q2:¬ w0.next=w.next:=by omega
   have q3:¬ w0.next + 1=w.next:=by omega
   have q4:¬ w0.next + 1 + 1=w.next:=by omega
   obtain ⟨_,_,c79,rfl,rfl⟩:=call79 (ov:=ov) 2 ho79 rv dv s ⟨(w.heap.put w.next (some (.cells [.int .i64 0] 3 false))).put w.next (some (.cells [.int .i64 a] 3 false)),w.next + 1,w.lim⟩
   have hts:acts.take (i + 1)=acts.take i++[a]:=take_snoc ha
   have hstep:stgF r d startS (acts.take (i + 1))=nextS r d s a:=by rw [hts,stgF_snoc,hs]
   simp only [stgC] at hb6 c79
   simp only [Nat.reduceAdd] at c79
   simp [mc51_l0,t2,t4,t6,t11,t12,t13,hlt,hia,hld,q1,q2,q3,q4,hb2,hb6,c79]
   obtain ⟨H,hH⟩:∃ H,H=(((w.heap.put w.next (some (.cells [.int .i64 0] 3 false))).put w.next (some (.cells [.int .i64 a] 3 false))).put (w.next + 1) (some (.cells [rv,dv] 89 false))).put (w.next + 1 + 1) (some (.cells [.int .i64 s.done,.int .i64 s.last,.int .i64 s.row,.int .i64 s.lo,.int .i64 s.hi] 86 false)):=⟨_,rfl⟩
   rw [← hH]
   have u2:Up w ⟨H,w.next + 1 + 2,w.lim⟩:=by
    rw [hH]
    exact ((((Up.refl w).add _).put (Nat.le_refl _) (Nat.le_refl _)).put (n':=w.next + 1 + 1) (Nat.le_succ _) (Nat.le_succ _)).put (by show w.next≤w.next + 1 + 1; omega) (Nat.le_succ _)
   have gH8:H.get w.next=some (.cells [.int .i64 a] 3 false):=by rw [hH,get_put,if_neg (by omega),get_put,if_neg (by omega),get_put,if_pos rfl]
   have gH1:H.get (w.next + 1 + 1)=some (.cells (stgC s) 86 false):=by rw [hH,get_put,if_pos rfl]; rfl
   have gH2:H.get (w.next + 1)=some (.cells [rv,dv] 89 false):=by rw [hH,get_put,if_neg (by omega),get_put,if_pos rfl]
   clear hH
   refine wp_seqX (wp_blockX (wp_seqX (wp_blockX (rf_wp (g:=98) (gargs:=[.func (.yield (w.next + 1 + 2)) ⟨[]⟩ ⟨[]⟩,.pointer (some ⟨w.next + 1 + 1,0,none⟩),.pointer (some ⟨w.next + 1,0,none⟩)]) ?_ ?_))))
   ·simp [fun98,callV_func]
   ·generalize hTT:tset _ 19 _=TT
    have v2:tget TT 2=.pointer (some ⟨w0.next,0,none⟩):=by rw [← hTT]; simp [t2]
    have v4:tget TT 4=.pointer (some ⟨w0.next + 1,0,none⟩):=by rw [← hTT]; simp [t4]
    have v6:tget TT 6=.pointer (some ⟨w0.next + 1 + 1,0,none⟩):=by rw [← hTT]; simp [t6]
    have v8:tget TT 8=.pointer (some ⟨w.next,0,none⟩):=by rw [← hTT]; simp
    have v11:tget TT 11=.slice (some ⟨b,off,sq⟩) acts.length c:=by rw [← hTT]; simp [t11]
    have v12:tget TT 12=.int .i64 (acts.length:Nat):=by rw [← hTT]; simp [t12]
    have v13:tget TT 13=.int .i64 (i:Nat):=by rw [← hTT]; simp [t13]
    clear hTT
    obtain ⟨lp,hlp⟩:∃ lp:ALoop,lp=⟨29,TT,[20],(rfOf Tryd.prog 51 0).1,(rfOf Tryd.prog 51 0).2,none,.ready⟩:=⟨_,rfl⟩
    obtain ⟨lq,hlq⟩:∃ lp:ALoop,lp=⟨29,TT,[20],(rfOf Tryd.prog 51 0).1,(rfOf Tryd.prog 51 0).2,some (.exit 1),.done⟩:=⟨_,rfl⟩
    rw [← hlp]
    have hwe:∀ x,x < w.next + 1 + 2→(H.put (w.next + 1 + 2) (some (.loop lp))).get x=H.get x:=fun x hx=>by rw [get_put,if_neg (by omega)]
    have u3:Up w ⟨H.put (w.next + 1 + 2) (some (.loop lp)),w.next + 1 + 2 + 1,w.lim⟩:=u2.add _
    have hb6':w.heap.get (w0.next + 1 + 1)=some (.cells (stgC s) 86 false):=hw.b6
    obtain ⟨v9,w2,hc98,hI⟩:=call98 1 (w.next + 1 + 2) (w0.next + 1 + 1) ho98 ho99 h100 h107 h108 h109 h110 r d hR s hf i hdone hid a w0 _ (hup.trans u3) ⟨by omega,by show w.next + 1 + 2 < w.next + 1 + 2 + 1; omega⟩ ⟨by omega,by show w0.next + 1 + 1 < w.next + 1 + 2 + 1; omega⟩ rv dv hrv hdv (w.next + 1 + 1) (w.next + 1) ⟨by show w.next + 1 + 1 < w.next + 1 + 2 + 1; omega,by omega,by omega⟩ ⟨by show w.next + 1 < w.next + 1 + 2 + 1; omega,by omega,by omega⟩ (by show (H.put _ _).get _=_; rw [hwe _ (by omega)]; exact gH1) (by show (H.put _ _).get _=_; rw [hwe _ (by omega)]; exact gH2) (by show w.lim≤w.next + 1 + 2 + 1; omega) s lp lq (by show (H.put _ _).get _=_; rw [get_put,if_pos rfl]) (by rw [u3.at (by omega)]; exact hb6') (fun w1 u1=>by
     have h1:w.next + 1 + 2 + 1≤w1.next:=u1.next
     have h2:w1.lim=w.lim:=u1.lim
     rw [hlp,hlq]
     exact steps51 1 (w.next + 1 + 2) (w0.next + 1 + 1) w.next TT v6 v8 a s w1 (by omega) (by omega) (by omega) (by omega) (by omega) (by omega) (by rw [u1.at (by show w.next < w.next + 1 + 2 + 1; omega)]; show (H.put _ _).get _=_; rw [hwe _ (by omega)]; exact gH8) (by omega) (by omega))
    cases hns:nextS r d s a with
    | none =>
     rw [hns] at hI hstep
     have hn2:w.next + 1 + 2 + 1≤w2.next:=hI.next
     have hl2:w2.lim=w.lim:=hI.lim
     have hN:stgF r d startS acts=none:=by
      have:=stgF_none (bs:=acts.drop (i + 1)) hstep
      rwa [List.take_append_drop] at this
     refine ⟨v9,w2,hc98,lp,hI.lo,by rw [hlp]; rfl,by show w2.lim≤w.next + 1 + 2; omega,?_⟩
     have hp:lp.pending=none:=by rw [hlp]
     rw [hp]
     simp only
     generalize hH2:w2.heap.put (w.next + 1 + 2) _=H2
     have g4:H2.get (w0.next + 1)=some (.cells [.int .i64 0,.int .i64 0,.int .i64 0,.int .i64 0,.int .i64 0] 86 false):=by
      rw [← hH2,get_put,if_neg (by omega),hI.old _ (by show w0.next + 1 < w.next + 1 + 2 + 1; omega) (by omega) (by omega),u3.at (by omega)]; exact hb4
     have q5:w2.lim≤w0.next + 1:=by omega
     simp [v4,g4,q5,hN,stgR,stgC,tupV]
    | some s' =>
     rw [hns] at hI hstep
     have hn2:w.next + 1 + 2 + 1≤w2.next:=hI.next
     have hl2:w2.lim=w.lim:=hI.lim
     refine ⟨v9,w2,hc98,lq,hI.lo,by rw [hlq]; rfl,by show w2.lim≤w.next + 1 + 2; omega,?_⟩
     have hp:lq.pending=some (.exit 1):=by rw [hlq]
     rw [hp]
     simp only
     generalize hH2:w2.heap.put (w.next + 1 + 2) _=H2
     have hk:∀ x,x < w.next→x ≠ w0.next + 1 + 1→H2.get x=w.heap.get x:=fun x hx h=>by
      rw [← hH2,get_put,if_neg (by omega),hI.old _ (by show x < w.next + 1 + 2 + 1; omega) (by omega) h,u3.at hx]
     have g6:H2.get (w0.next + 1 + 1)=some (.cells (stgC s') 86 false):=by
      rw [← hH2,get_put,if_neg (by omega)]; exact hI.cur
     simp [v2,v4,v6,v11,v12,v13,hw1]
     refine ⟨by omega,s',⟨⟨fun x hx=>?_,by show w0.next≤w2.next; omega,by show w2.lim=w0.lim; omega⟩,?_,?_,g6,by show w0.next + 3≤w2.next; omega⟩,hstep,hlt⟩
     ·show H2.get x=_
      rw [hk x (by omega) (by omega)]; exact hup.old x hx
     ·show H2.get _=_
      rw [hk _ (by omega) (by omega)]; exact hb2
     ·show H2.get _=_
      rw [hk _ (by omega) (by omega)]; exact hb4
  ·have hi':i=acts.length:=by omega
   subst hi'
   rw [List.take_length] at hs
   have q5:w.lim≤w0.next + 1:=by omega
   have q6:¬ w0.next + 1=w0.next + 1 + 1:=by omega
   simp only [stgC] at hb6
   simp [mc51_l0,t2,t4,t6,t12,t13,hb4,hb6,q5,hs,stgR,stgC,tupV]
def S51:PSpec where
 R args w v:=∃ (rv dv av:Value) (r:List CAct) (d:List CDay) (acts:List Int),args=[.agg ⟨[rv,dv]⟩,av]∧RowsV actC w rv r∧RowsV cdayC w dv d∧RowsV intC w av acts∧ruleB r=true∧daysB d=true∧v=stgR (stgF r d startS acts)
 uniq:=by
  rintro _ _ _ _ ⟨_,_,_,r,d,acts,rfl,h1,h2,h3,_,_,rfl⟩ ⟨_,_,_,r',d',acts',h,k1,k2,k3,_,_,rfl⟩
  cases h
  rw [h1.uniq (m:=7) actC_length actC_inj k1,h2.uniq (m:=3) cdayC_length cdayC_inj k2,h3.uniq (m:=1) intC_length intC_inj k3]
 shut h:=h
def canB (r:List CAct) (d:List CDay) (acts:List Int):Bool:=(stgF r d startS acts).isSome
def canR (r:List CAct) (d:List CDay) (acts:List Int):Value:=if chkE r d=0 then .tuple ⟨[.bool (canB r d acts),.int .i64 0]⟩ else .tuple ⟨[.bool false,.int .i64 (chkE r d)]⟩
def S12:PSpec where
 R args w v:=∃ (rv dv av:Value) (r:List CAct) (d:List CDay) (acts:List Int),args=[rv,dv,av]∧RowsV actC w rv r∧RowsV cdayC w dv d∧RowsV intC w av acts∧LimW w∧v=canR r d acts
 uniq:=by
  rintro _ _ _ _ ⟨_,_,_,r,d,acts,rfl,h1,h2,h3,_,rfl⟩ ⟨_,_,_,r',d',acts',h,k1,k2,k3,_,rfl⟩
  cases h
  rw [h1.uniq (m:=7) actC_length actC_inj k1,h2.uniq (m:=3) cdayC_length cdayC_inj k2,h3.uniq (m:=1) intC_length intC_inj k3]
 shut h:=h
theorem run12 {ov:Ov} (ho:∀ args w,ov 12 args w=none) (h14:HasP ov 14 S14.F) (h51:HasP ov 51 S51.F) (r:List CAct) (d:List CDay) (acts:List Int) (rv dv av:Value) (w:AW) (hl:w.lim=w.next) (hrv:RowsV actC w rv r) (hdv:RowsV cdayC w dv d) (hav:RowsV intC w av acts) (hL:LimW w):∃ x w',(run Tryd.prog ov 2).call 12 [rv,dv,av] w .none=.ok (.ret x) w' .none∧x=canR r d acts:=by
 refine call_wp text12 (by simp) (ho _ _) ?_
 have r14:=S14.call1 (P:=Tryd.prog) h14 ⟨rv,dv,r,d,rfl,hrv,hdv,hL,rfl⟩
 have lw:w.lim≤w.next:=by omega
 by_cases hE:chkE r d=0
 ·obtain ⟨hR,hD⟩:=chk_of hE
  have r51:=S51.call1 (P:=Tryd.prog) h51 ⟨rv,dv,av,r,d,acts,rfl,hrv,hdv,hav,hR,hD,rfl⟩
  obtain ⟨p1,p2,rfl⟩:=hrv.len
  obtain ⟨p3,p4,rfl⟩:=hdv.len
  rw [hE] at r14
  cases hs:stgF r d startS acts with
  | none =>
   rw [hs] at r51
   simp only [stgR,stgC] at r51
   simp [mc12,r14,r51,canR,canB,hE,hs,lw,cellsOf_agg,tupV]
  | some s =>
   rw [hs] at r51
   simp only [stgR,stgC] at r51
   simp [mc12,r14,r51,canR,canB,hE,hs,lw,cellsOf_agg,tupV]
 ·simp [mc12,r14,canR,hE,tupV]
theorem elem28:elemA Tryd.prog 28=some 3:=by kernel_rfl
theorem sz3:szOf Tryd.prog 3=some 1:=by kernel_rfl
theorem RowsA.head {α:Type} {f:α→List Value} {w:AW} {b off:Nat} {l:List α} (h:RowsA f w.heap w.next b off l) {i:Nat} (hi:i≤l.length) (sq:Option Nat) (c:Nat):RowsV f w (.slice (some ⟨b,off,sq⟩) i c) (l.take i):=by
 obtain ⟨⟨pre,rest,e,ro,h1,h2⟩,h3⟩:=h
 refine .inr ⟨b,off,sq,c,by rw [List.length_take,Nat.min_eq_left hi],⟨pre,(l.drop i).flatMap f++rest,e,ro,?_,h2⟩,h3⟩
 rw [h1,← List.append_assoc ((l.take i).flatMap f),← List.flatMap_append,List.take_append_drop]
def CapV (v:Value):Prop:=∃ a n c,v=.slice a n c∧n≤c
def S73:PSpec where
 R args w v:=∃ (rv dv:Value) (r:List CAct) (d:List CDay) (b:CBox),args=[rv,dv,.agg ⟨boxC b⟩]∧RowsV actC w rv r∧RowsV cdayC w dv d∧LimW w∧v=.int .i64 (bxE r d b)
 uniq:=by
  rintro _ _ _ _ ⟨_,_,r,d,⟨_,_,_,_⟩,rfl,h1,h2,_,rfl⟩ ⟨_,_,r',d',⟨_,_,_,_⟩,h,k1,k2,_,rfl⟩
  cases h
  rw [h1.uniq (m:=7) actC_length actC_inj k1,h2.uniq (m:=3) cdayC_length cdayC_inj k2]
 shut h:=h
theorem run73 {ov:Ov} (ho:∀ args w,ov 73 args w=none) (h14:HasP ov 14 S14.F) (h94:HasP ov 94 S94.F) (r:List CAct) (d:List CDay) (b:CBox) (rv dv:Value) (w:AW) (hrv:RowsV actC w rv r) (hdv:RowsV cdayC w dv d) (hL:LimW w):∃ x w',(run Tryd.prog ov 2).call 73 [rv,dv,.agg ⟨boxC b⟩] w .none=.ok (.ret x) w' .none∧x=.int .i64 (bxE r d b):=by
 refine call_wp text73 (by simp) (ho _ _) ?_
 have u1:Up w ⟨w.heap.put w.next (some (.cells [.int .i64 b.wl,.int .i64 b.wh,.int .i64 b.sl,.int .i64 b.sh] 27 false)),w.next + 1,w.lim⟩:=(Up.refl w).add _
 have r14:=S14.call1 (P:=Tryd.prog) h14 ⟨rv,dv,r,d,rfl,hrv.up u1,hdv.up u1,hL.up u1,rfl⟩
 have r94:=S94.call1 (P:=Tryd.prog) h94 ⟨b,rfl,hL.up u1,rfl⟩
 simp only [boxC] at r94 ⊢
 by_cases hE:chkE r d=0
 ·rw [hE] at r14
  cases hB:boxB b <;> rw [hB] at r94 <;> simp [mc73,r14,r94,bxE,hE,hB,cellsOf_agg,tupV]
 ·simp [mc73,r14,bxE,hE,cellsOf_agg,tupV]
def S56:PSpec where
 R args w v:=∃ (rv dv av:Value) (r:List CAct) (d:List CDay) (b:CBox) (acts:List Int),args=[rv,dv,.agg ⟨boxC b⟩,av]∧RowsV actC w rv r∧RowsV cdayC w dv d∧RowsV intC w av acts∧LimW w∧w.lim≤w.next∧v=.int .i64 (actE r d b acts)
 uniq:=by
  rintro _ _ _ _ ⟨_,_,_,r,d,⟨_,_,_,_⟩,acts,rfl,h1,h2,h3,_,_,rfl⟩ ⟨_,_,_,r',d',⟨_,_,_,_⟩,acts',h,k1,k2,k3,_,_,rfl⟩
  cases h
  rw [h1.uniq (m:=7) actC_length actC_inj k1,h2.uniq (m:=3) cdayC_length cdayC_inj k2,h3.uniq (m:=1) intC_length intC_inj k3]
 shut:=fun ⟨rv,dv,av,r,d,b,acts,h1,h2,h3,h4,h5,_,h6⟩=>⟨rv,dv,av,r,d,b,acts,h1,h2,h3,h4,h5,Nat.le_refl _,h6⟩
theorem run56 {ov:Ov} (ho:∀ args w,ov 56 args w=none) (h73:HasP ov 73 S73.F) (h51:HasP ov 51 S51.F) (r:List CAct) (d:List CDay) (b:CBox) (acts:List Int) (rv dv av:Value) (w:AW) (hl:w.lim=w.next) (hrv:RowsV actC w rv r) (hdv:RowsV cdayC w dv d) (hav:RowsV intC w av acts) (hL:LimW w):∃ x w',(run Tryd.prog ov 2).call 56 [rv,dv,.agg ⟨boxC b⟩,av] w .none=.ok (.ret x) w' .none∧x=.int .i64 (actE r d b acts):=by
 refine call_wp text56 (by simp) (ho _ _) ?_
 have u1:Up w ⟨w.heap.put w.next (some (.cells [.int .i64 b.wl,.int .i64 b.wh,.int .i64 b.sl,.int .i64 b.sh] 27 false)),w.next + 1,w.lim⟩:=(Up.refl w).add _
 have r73:=S73.call1 (P:=Tryd.prog) h73 ⟨rv,dv,r,d,b,rfl,hrv.up u1,hdv.up u1,hL.up u1,rfl⟩
 have lw:w.lim≤w.next + 1:=by omega
 simp only [boxC] at r73 ⊢
 by_cases hE:bxE r d b=0
 ·obtain ⟨hR,hD,_⟩:=bx_of hE
  have r51:=S51.call1 (P:=Tryd.prog) h51 ⟨rv,dv,av,r,d,acts,rfl,hrv.up u1,hdv.up u1,hav.up u1,hR,hD,rfl⟩
  obtain ⟨p1,p2,rfl⟩:=hrv.len
  obtain ⟨p3,p4,rfl⟩:=hdv.len
  rw [hE] at r73
  cases hs:stgF r d startS acts with
  | none =>
   rw [hs] at r51
   simp only [stgR,stgC] at r51
   simp [mc56,r73,r51,actE,hE,hs,lw,cellsOf_agg,tupV]
  | some s =>
   rw [hs] at r51
   simp only [stgR,stgC] at r51
   simp [mc56,r73,r51,actE,hE,hs,lw,cellsOf_agg,tupV]
 ·simp [mc56,r73,actE,hE,cellsOf_agg,tupV]
theorem div_le {c b:Int} (hc:0≤c) (hb:0 < b):0≤c / b∧c / b≤c:=by
 refine ⟨Int.ediv_nonneg hc (by omega),?_⟩
 exact Int.ediv_le_self _ hc
def S61:PSpec where
 R args _ v:=∃ x s:Int,args=[.int .i64 x,.int .i64 s]∧(1≤s∧s≤x∧x≤1000000)∧v=.int .i64 (moI x s)
 uniq:=by rintro _ _ _ _ ⟨c,b,rfl,_,rfl⟩ ⟨c',b',h,_,rfl⟩; cases h; rfl
 shut h:=h
theorem mo_bd {x s:Int} (h:1≤s∧s≤x∧x≤1000000):0≤moI x s∧moI x s≤1001000000:=by
 have:=div_le (c:=1000 * (x - s) + x - 1) (b:=x) (by omega) (by omega)
 unfold moI; omega
theorem run84 {ov:Ov} (ho:∀ args w,ov 84 args w=none) (x s:Int) (h:1≤s∧s≤x∧x≤1000000) (w:AW):∃ v w',(run Tryd.prog ov 2).call 84 [.int .i64 x,.int .i64 s] w .none=.ok (.ret v) w' .none∧v=.int .i64 (moI x s):=by
 refine call_wp text84 (by simp) (ho _ _) ?_
 have w1:IntKind.wrap .i64 (x - s)=x - s:=wrap64_in (by omega) (by omega)
 have w2:IntKind.wrap .i64 (1000 * (x - s))=1000 * (x - s):=wrap64_in (by omega) (by omega)
 have w3:IntKind.wrap .i64 (1000 * (x - s) + x)=1000 * (x - s) + x:=wrap64_in (by omega) (by omega)
 have w4:IntKind.wrap .i64 (1000 * (x - s) + x - 1)=1000 * (x - s) + x - 1:=wrap64_in (by omega) (by omega)
 have hx:x ≠ 0:=by omega
 have hb:=mo_bd h
 have e:(1000 * (x - s) + x - 1).tdiv x=moI x s:=by rw [Int.tdiv_eq_ediv_of_nonneg (by omega)]; rfl
 have w5:IntKind.wrap .i64 (moI x s)=moI x s:=wrap64_in (by omega) (by omega)
 simp [mc84,bin_quo (h:=hx),w1,w2,w3,w4,w5,e,tupV]
theorem list28:isList Tryd.prog 28=true:=by kernel_rfl
theorem small3:smallT Tryd.prog 3=true:=by kernel_rfl
theorem sing_int (z:Int):singles (intC z)=true:=rfl
def LossOk (ls:List Int):Prop:=∀ x ∈ ls,0≤x∧x≤10000
theorem sum_bd {ls:List Int} (h:LossOk ls):0≤ls.sum∧ls.sum≤10000 * (ls.length:Int):=by
 induction ls with
 | nil=>simp
 | cons x l ih =>
  have h1:=h x List.mem_cons_self
  have h2:=ih fun y hy=>h y (List.mem_cons_of_mem _ hy)
  simp only [List.sum_cons,List.length_cons]; omega
theorem call83 {ov:Ov} (m:Nat) (ho:∀ args w,ov 83 args w=none) (ws s:Int) (ls:List Int) (hws:0≤ws∧ws≤1000000) (hls:LossOk ls) (hlen:ls.length≤14) (lv:Value) (we:AW) (hlim:we.lim≤we.next) (hlv:RowsV intC we lv ls) :
  ∃ v w',(run Tryd.prog ov (m + 1)).call 83 [.agg ⟨[.int .i64 ws,.int .i64 s,lv]⟩] we .none=.ok (.ret v) w' .none∧AccR intC 3 we.next w' v (wtsL ws ls)∧Up we w':=by
 refine call_wp text83 (by simp) (ho _ _) ?_
 have hl3:=fun w2=>len28V (w':=w2) hlv
 simp [mc83,cellsOf_agg,hl3]
 refine wp_seqX (wp_blockX (wp_rounds (fun i t w=>AccR intC 3 we.next w (tget t 3) (wtsL ws (ls.take i))∧Up we w∧we.next < w.next∧tget t 10=lv∧tget t 11=.int .i64 (ls.length:Nat)∧tget t 12=.int .i64 (i:Nat)∧i≤ls.length) 20 (by decide) ?_ ?_))
 ·refine ⟨.inr ⟨we.next + 1,?_,?_,?_,?_,?_⟩,((Up.refl we).add _).put (Nat.le_succ _) (Nat.le_succ _),?_,?_,?_,?_,Nat.zero_le _⟩
  ·simp [wtsL]
  ·simp [wtsL,intC]
  ·omega
  ·show we.next + 1 < we.next + 1 + 1; omega
  ·simp [wtsL]
  ·show we.next < we.next + 1 + 1; omega
  ·simp
  ·simp
  ·simp
 ·rintro i t w ⟨hacc,hup,hnx,t10,t11,t12,hi⟩
  by_cases hlt:i < ls.length
  ·obtain ⟨x,hx⟩:∃ p,ls[i]?=some p:=⟨_,List.getElem?_eq_getElem hlt⟩
   have hxb:=hls x (List.mem_of_getElem? hx)
   obtain ⟨b,off,sq,c,rfl,hra⟩:=hlv.at_ i hlt
   have hld:=hra.int hx
   rw [← hup.at hra.2] at hld
   have hia:=fun w=>ia28 w ⟨b,off,sq⟩ ls.length c .i64 i hlt
   simp only [Nat.mul_one] at hia
   have hll:(wtsL ws (ls.take i)).length=i + 1:=by rw [wtsL_length,List.length_take]; omega
   obtain ⟨B,off2,sq2,c2,hv3,hrb⟩:=hacc.rows.at_ i (by omega)
   have hat:(wtsL ws (ls.take i))[i]?=some (ws - (ls.take i).sum):=by
    rw [wtsL_at _ _ _ (by rw [List.length_take]; omega),List.take_take,Nat.min_self]
   have hlb:=hrb.int hat
   have hib:=fun w=>ia28 w ⟨B,off2,sq2⟩ (wtsL ws (ls.take i)).length c2 .i64 i (by omega)
   simp only [Nat.mul_one] at hib
   have hsb:=sum_bd (ls:=ls.take i) fun y hy=>hls y (List.mem_of_mem_take hy)
   have hsl:(ls.take i).length=i:=by rw [List.length_take]; omega
   rw [hsl] at hsb
   have hw1:IntKind.wrap .i64 ((i:Int) + 1)=(i:Int) + 1:=wrap64_in (by omega) (by omega)
   have hw2:IntKind.wrap .i64 (ws - (ls.take i).sum - x)=ws - (ls.take i).sum - x:=wrap64_in (by omega) (by omega)
   have hlm:w.lim≤we.next:=by have:=hup.lim; omega
   obtain ⟨v',w',ha,hacc',hkp,hn',hl'⟩:=AccR.push (P:=Tryd.prog) (st:=28) (sz:=1) list28 elem28 sz3 small3 intC_length sing_int (by decide) hacc hlm hnx (by omega) (ws - (ls.take i).sum - x)
   rw [hv3] at ha
   simp only [intC] at ha
   simp [mc83_l0,t10,t11,t12,hlt,hia,hld,hv3,hib,hlb,hw1,hw2,ha]
   have e:wtsL ws (ls.take (i + 1))=wtsL ws (ls.take i)++[ws - (ls.take i).sum - x]:=by rw [take_snoc hx,wtsL_snoc]
   refine ⟨by omega,by rw [e]; exact hacc',⟨fun y hy=>by rw [hkp y (by omega)]; exact hup.old y hy,by omega,by have:=hup.lim; omega⟩,by omega,hlt⟩
  ·have hi':i=ls.length:=by omega
   subst hi'
   rw [List.take_length] at hacc
   have nj:=hacc.ok
   simp [mc83_l0,t11,t12,nj,tupV]
   exact ⟨hacc,hup⟩
def spC (p:Sp):List Value:=[.int .i64 p.1,.int .i64 p.2]
@[simp] theorem spC_length (p:Sp):(spC p).length=2:=rfl
theorem spC_inj (a b:Sp) (h:spC a=spC b):a=b:=by
 cases a; cases b; simpa [spC] using h
theorem mk43 (n:Nat) (hn:n≤1000) (w:AW):makeSliceA Tryd.prog w 43 (.int .i64 (n:Int)) (.int .i64 (n:Int))=.val (.slice (some ⟨w.next,0,none⟩) n n) ⟨w.heap.put w.next (some (.cells ((List.replicate n ((0,0):Sp)).flatMap spC) 25 false)),w.next + 1,w.lim⟩:=by
 rw [make_eq (e:=25) (z:=.agg ⟨[.int .i64 0,.int .i64 0]⟩) (by kernel_rfl) (by kernel_rfl) (by kernel_rfl) n hn w,← repl_flat]; rfl
def partL (L:List Sp) (n i:Nat):List Sp:=L.take i++List.replicate (n - i) (0,0)
theorem part_zero (L:List Sp) (n:Nat):partL L n 0=List.replicate n (0,0):=by simp [partL]
theorem part_full (L:List Sp):partL L L.length L.length=L:=by simp [partL]
theorem part_length {L:List Sp} {i:Nat} (h:i≤L.length):(partL L L.length i).length=L.length:=by simp [partL]; omega
theorem part_set {L:List Sp} {i:Nat} {x:Sp} (h:L[i]?=some x):(partL L L.length i).set i x=partL L L.length (i + 1):=by
 have hi:=(List.getElem?_eq_some_iff.1 h).1
 unfold partL
 rw [take_snoc h]
 obtain ⟨k,hk⟩:∃ k,L.length - i=k + 1:=⟨L.length - i - 1,by omega⟩
 rw [hk,List.replicate_succ,List.set_append_right _ _ (by rw [List.length_take]; omega)]
 rw [show i - (L.take i).length=0 by rw [List.length_take]; omega,List.set_cons_zero,show L.length - (i + 1)=k by omega]
 simp
def ProcV (w:AW) (pv:Value) (L:List Sp):Prop:=∃ B,pv=.slice (some ⟨B,0,none⟩) L.length L.length∧w.heap.get B=some (.cells (L.flatMap spC) 25 false)∧B < w.next
theorem ProcV.rows {w:AW} {pv:Value} {L:List Sp} (h:ProcV w pv L):RowsV spC w pv L:=by
 obtain ⟨B,rfl,h1,h2⟩:=h
 exact .inr ⟨B,0,none,_,rfl,⟨[],[],25,false,by simpa using h1,rfl⟩,h2⟩
theorem ProcV.up {w w':AW} {pv:Value} {L:List Sp} (h:ProcV w pv L) (u:Up w w'):ProcV w' pv L:=by
 obtain ⟨B,rfl,h1,h2⟩:=h
 exact ⟨B,rfl,by rw [u.at h2]; exact h1,Nat.lt_of_lt_of_le h2 u.next⟩
def procC (b:CBox) (pv:Value):List Value:=[.int .i64 b.wl,.int .i64 b.wh,.int .i64 b.sl,.int .i64 b.sh,pv]
set_option maxHeartbeats 1000000 in
theorem call57 {ov:Ov} (m:Nat) (ho:∀ args w,ov 57 args w=none) (r:List CAct) (acts:List Int) (hact:∀ a ∈ acts,0≤a∧∃ x,r[a.toNat]?=some x) (hlen:acts.length≤14) (b:CBox) (rv av:Value) (we:AW) (hlim:we.lim≤we.next) (hrv:RowsV actC we rv r) (hav:RowsV intC we av acts) :
  ∃ v w',(run Tryd.prog ov (m + 1)).call 57 [rv,.agg ⟨boxC b⟩,av] we .none=.ok (.ret v) w' .none∧∃ pv,v=.agg ⟨procC b pv⟩∧ProcV w' pv (lossL r acts)∧Up we w':=by
 refine call_wp text57 (by simp) (ho _ _) ?_
 have hl3:=fun w2=>len28V (w':=w2) hav
 have hLl:(lossL r acts).length=acts.length:=by simp [lossL]
 have sm:sameVal 5 (.agg ⟨[.int .i64 b.wl,.int .i64 b.wh,.int .i64 b.sl,.int .i64 b.sh]⟩) (.agg ⟨[.int .i64 b.wl,.int .i64 b.wh,.int .i64 b.sl,.int .i64 b.sh]⟩)=true:=same_agg _ (by
  intro v hv
  simp only [List.mem_cons,List.not_mem_nil,or_false] at hv
  rcases hv with rfl | rfl | rfl | rfl <;> exact sameN_int _ _ _)
 have q1:we.lim≤we.next + 1 + 1 + 1:=by omega
 have hmk:=fun w=>mk43 acts.length (by omega) w
 simp only [boxC]
 simp [mc57,cellsOf_agg,hl3,hmk,sm,q1]
 refine wp_seqX (wp_blockX (wp_rounds (fun i t w=>w.heap.get (we.next + 1 + 1)=some (.cells ((partL (lossL r acts) (lossL r acts).length i).flatMap spC) 25 false)∧w.heap.get (we.next + 1 + 1 + 1)=some (.cells [.int .i64 b.wl,.int .i64 b.wh,.int .i64 b.sl,.int .i64 b.sh,.slice (some ⟨we.next + 1 + 1,0,none⟩) acts.length acts.length] 97 false)∧w.heap.get (we.next + 1)=some (.cells [.int .i64 0,.int .i64 0,.int .i64 0,.int .i64 0,.slice none 0 0] 97 false)∧Up we w∧we.next + 4≤w.next∧tget t 0=rv∧tget t 2=av∧tget t 6=.pointer (some ⟨we.next + 1,0,none⟩)∧tget t 7=.pointer (some ⟨we.next + 1 + 1 + 1,0,none⟩)∧tget t 15=.int .i64 (acts.length:Nat)∧tget t 16=.int .i64 (i:Nat)∧i≤acts.length) 20 (by decide) ?_ ?_))
 ·refine ⟨?_,?_,?_,?_,?_,?_,?_,?_,?_,?_,?_,Nat.zero_le _⟩
  ·rw [part_zero,hLl]; simp
  ·simp
  ·simp
  ·exact (((((Up.refl we).add _).put (Nat.le_succ _) (Nat.le_succ _)).put (by show we.next≤we.next + 1 + 1; omega) (Nat.le_succ _)).put (by show we.next≤we.next + 1 + 1 + 1; omega) (Nat.le_succ _)).put (by show we.next≤we.next + 1 + 1 + 1; omega) (Nat.le_refl _)
  ·show we.next + 4≤we.next + 1 + 1 + 1 + 1; omega
  all_goals simp
 ·rintro i t w ⟨hB,h7,h6,hup,hnx,t0,t2,t6,t7,t15,t16,hi⟩
  have hlm:w.lim=we.lim:=hup.lim
  by_cases hlt:i < acts.length
  ·obtain ⟨a,ha⟩:∃ p,acts[i]?=some p:=⟨_,List.getElem?_eq_getElem hlt⟩
   obtain ⟨ha0,x,hx⟩:=hact a (List.mem_of_getElem? ha)
   obtain ⟨n,rfl⟩:∃ n:Nat,a=(n:Int):=⟨a.toNat,by omega⟩
   simp only [Int.toNat_natCast] at hx
   have hn:=(List.getElem?_eq_some_iff.1 hx).1
   obtain ⟨bb,off,sq,c,rfl,hra⟩:=hav.at_ i hlt
   obtain ⟨b2,off2,sq2,c2,rfl,hrb⟩:=hrv.at_ n hn
   have hld:=hra.int ha
   have f5:rdO (we.heap.get b2) (off2 + n * 7 + 5) 2=some [.int .i64 x.ll,.int .i64 x.lh]:=rdO_sub (hrb.rd actC_length hx) (j:=5) (k:=2) (by decide)
   rw [← hup.at hra.2] at hld
   rw [← hup.at hrb.2] at f5
   have hia:=fun w=>ia28 w ⟨bb,off,sq⟩ acts.length c .i64 i hlt
   simp only [Nat.mul_one] at hia
   have hib:=fun w=>ia22 w ⟨b2,off2,sq2⟩ r.length c2 .i64 n hn
   have hic:=fun w=>ia43 w ⟨we.next + 1 + 1,0,none⟩ acts.length acts.length .i64 i hlt
   have hw1:IntKind.wrap .i64 ((i:Int) + 1)=(i:Int) + 1:=wrap64_in (by omega) (by omega)
   have hLi:(lossL r acts)[i]?=some (x.ll,x.lh):=by
    unfold lossL
    rw [List.getElem?_map,ha]
    simp [hx]
   have hps:=part_set hLi
   have hfs:=flat_set spC_length (partL (lossL r acts) (lossL r acts).length i) i (x.ll,x.lh) (by rw [part_length (by omega)]; omega)
   rw [hps] at hfs
   have hfl:((partL (lossL r acts) (lossL r acts).length i).flatMap spC).length=acts.length * 2:=by rw [flat_length spC_length,part_length (by omega),hLl]
   obtain ⟨cs,hcs⟩:∃ cs,cs=(partL (lossL r acts) (lossL r acts).length i).flatMap spC:=⟨_,rfl⟩
   rw [← hcs] at hB hfs hfl
   simp only [spC,List.cons_append,List.nil_append] at hfs
   have q2:w.lim≤we.next + 1 + 1:=by omega
   have q3:i * 2 + 2≤acts.length * 2:=by omega
   have n1:¬ we.next + 1 + 1 + 1=we.next + 1 + 1:=by omega
   have n2:¬ we.next + 1=we.next + 1 + 1:=by omega
   simp [mc57_l0,t0,t2,t6,t7,t15,t16,hlt,h7,hia,hld,hib,f5,hic,hB,hfl,q2,q3,hw1,hfs]
   exact ⟨by omega,h6,hup.put (by omega) (Nat.le_refl _),hnx,hlt⟩
  ·have hi':i=acts.length:=by omega
   subst hi'
   have q2:w.lim≤we.next + 1:=by omega
   rw [← hLl,part_full] at hB
   simp [mc57_l0,t6,t7,t15,t16,h7,h6,q2,tupV]
   refine ⟨_,rfl,⟨we.next + 1 + 1,by rw [hLl],?_,by show we.next + 1 + 1 < w.next; omega⟩,hup.put (by omega) (Nat.le_refl _)⟩
   show (w.heap.put (we.next + 1) _).get (we.next + 1 + 1)=_
   rw [get_put,if_neg (by omega),hB]
theorem len43V {w w':AW} {v:Value} {l:List Sp} (h:RowsV spC w v l):lenB Tryd.prog w' 43 v=.val (.int .i64 (l.length:Nat)) w':=by
 obtain ⟨a,c,rfl⟩:=h.len; simp
structure TruOk (b:CBox) (L:List Sp):Prop where
 box:boxB b=true
 len:L.length≤14
 sp:∀ p ∈ L,0≤p.1∧p.2≤10000
def S58:PSpec where
 R args w v:=∃ (pv lv:Value) (b:CBox) (L:List Sp) (ws s:Int) (ls:List Int),args=[.agg ⟨procC b pv⟩,.agg ⟨[.int .i64 ws,.int .i64 s,lv]⟩]∧RowsV spC w pv L∧RowsV intC w lv ls∧TruOk b L∧w.lim≤w.next∧v=.bool (truB b L ws s ls)
 uniq:=by
  rintro _ _ _ _ ⟨_,_,⟨_,_,_,_⟩,L,_,_,ls,rfl,h1,h2,_,_,rfl⟩ ⟨_,_,⟨_,_,_,_⟩,L',_,_,ls',h,k1,k2,_,_,rfl⟩
  simp only [procC,List.cons.injEq,Value.agg.injEq,Array.mk.injEq,Value.int.injEq,true_and,and_true] at h
  obtain ⟨⟨rfl,rfl,rfl,rfl,rfl⟩,rfl,rfl,rfl⟩:=h
  rw [h1.uniq (m:=2) spC_length spC_inj k1,h2.uniq (m:=1) intC_length intC_inj k2]
 shut:=fun ⟨a1,a2,a3,a4,a5,a6,a7,h1,h2,h3,h4,_,h5⟩=>⟨a1,a2,a3,a4,a5,a6,a7,h1,h2,h3,h4,Nat.le_refl _,h5⟩
theorem allIn_full {l:List Int} {m:List Sp} {i:Nat} (hi:i=l.length):allIn (l.take i) m=allIn l m:=by rw [hi,List.take_length]
theorem allIn_ok:∀ {l:List Int} {m:List Sp},l.length=m.length→(∀ p ∈ m,0≤p.1∧p.2≤10000)→allIn l m=true→LossOk l
 | [],_,_,_,_=>fun y hy=>by simp at hy
 | x::l,[],h,_,_=>by simp at h
 | x::l,p::m,h,hp,ha=>by
  have ha':(inI p.1 x p.2 && allIn l m)=true:=ha
  simp only [Bool.and_eq_true,inI,decide_eq_true_eq] at ha'
  have h1:=hp p List.mem_cons_self
  intro y hy
  rcases List.mem_cons.1 hy with rfl | hy
  ·omega
  ·exact allIn_ok (by simpa using h) (fun q hq=>hp q (List.mem_cons_of_mem _ hq)) ha'.2 y hy
theorem wts_last (ws:Int) (ls:List Int):(wtsL ws ls)[ls.length]?=some (ws - ls.sum):=by
 rw [wtsL_at ls ws ls.length (Nat.le_refl _),List.take_length]
set_option maxHeartbeats 1000000 in
theorem run58 {ov:Ov} (ho:∀ args w,ov 58 args w=none) (ho83:∀ args w,ov 83 args w=none) (h82:HasP ov 82 S82.F) (b:CBox) (L:List Sp) (ws s:Int) (ls:List Int) (hT:TruOk b L) (pv lv:Value) (w:AW) (hl:w.lim=w.next) (hpv:RowsV spC w pv L) (hlv:RowsV intC w lv ls):∃ x w',(run Tryd.prog ov 3).call 58 [.agg ⟨procC b pv⟩,.agg ⟨[.int .i64 ws,.int .i64 s,lv]⟩] w .none=.ok (.ret x) w' .none∧x=.bool (truB b L ws s ls):=by
 refine call_wp text58 (by simp) (ho _ _) ?_
 have hl1:=fun w2=>len43V (w':=w2) hpv
 have hl2:=fun w2=>len28V (w':=w2) hlv
 have r82:=fun n a b w=>S82.call (P:=Tryd.prog) h82 (m:=1) (w:=w) ⟨n,a,b,rfl,rfl⟩
 have hb:=hT.box
 simp only [boxB,spanI,Bool.and_eq_true,decide_eq_true_eq] at hb
 simp only [procC]
 cases k1:inI b.wl ws b.wh with
 | false =>
  have e:truB b L ws s ls=false:=by simp [truB,k1]
  simp [mc58,cellsOf_agg,r82,k1,e,tupV]
 | true =>
  cases k2:inI b.sl s b.sh with
  | false =>
   have e:truB b L ws s ls=false:=by simp [truB,k1,k2]
   simp [mc58,cellsOf_agg,r82,k1,k2,e,tupV]
  | true =>
   by_cases k3:ls.length=L.length
   case neg =>
    have k3':¬ (ls.length:Int)=L.length:=by omega
    have e:truB b L ws s ls=false:=by simp [truB,k1,k2,k3]
    simp [mc58,cellsOf_agg,r82,k1,k2,hl1,hl2,k3,k3',e,tupV]
   have eT:truB b L ws s ls=(allIn ls L && decide (s≤ws - ls.sum)):=by simp [truB,k1,k2,k3]
   obtain ⟨w1,hw1e⟩:∃ w1:AW,w1=⟨(w.heap.put w.next (some (.cells [.int .i64 b.wl,.int .i64 b.wh,.int .i64 b.sl,.int .i64 b.sh,pv] 97 false))).put (w.next + 1) (some (.cells [.int .i64 ws,.int .i64 s,lv] 32 false)),w.next + 1 + 1,w.lim⟩:=⟨_,rfl⟩
   have u1:Up w w1:=by rw [hw1e]; exact ((Up.refl w).add _).put (Nat.le_succ _) (Nat.le_succ _)
   have g2:w1.heap.get w.next=some (.cells [.int .i64 b.wl,.int .i64 b.wh,.int .i64 b.sl,.int .i64 b.sh,pv] 97 false):=by rw [hw1e]; simp
   have g3:w1.heap.get (w.next + 1)=some (.cells [.int .i64 ws,.int .i64 s,lv] 32 false):=by rw [hw1e]; simp
   have n1:w1.next=w.next + 1 + 1:=by rw [hw1e]
   have hlm1:w1.lim=w.lim:=u1.lim
   simp [mc58,cellsOf_agg,r82,k1,k2,hl1,hl2,k3]
   rw [← hw1e]
   refine wp_seqX (wp_blockX (wp_rounds (fun i t w'=>w'=w1∧tget t 2=.pointer (some ⟨w.next,0,none⟩)∧tget t 3=.pointer (some ⟨w.next + 1,0,none⟩)∧tget t 34=lv∧tget t 35=.int .i64 (L.length:Nat)∧tget t 36=.int .i64 (i:Nat)∧i≤L.length∧allIn (ls.take i) L=true) 20 (by decide) ⟨rfl,by simp,by simp,by simp,by simp,by simp,Nat.zero_le _,rfl⟩ ?_))
   rintro i t w' ⟨rfl,t2,t3,t34,t35,t36,hi,hall⟩
   by_cases hlt:i < L.length
   ·obtain ⟨p,hp⟩:∃ p,L[i]?=some p:=⟨_,List.getElem?_eq_getElem hlt⟩
    obtain ⟨x,hx⟩:∃ p,ls[i]?=some p:=⟨_,List.getElem?_eq_getElem (by omega)⟩
    obtain ⟨bb,off,sq,c,rfl,hra⟩:=hlv.at_ i (by omega)
    obtain ⟨b2,off2,sq2,c2,rfl,hrb⟩:=hpv.at_ i hlt
    have hld:=hra.int hx
    have hlp:=hrb.rd (m:=2) spC_length hp
    rw [← u1.at hra.2] at hld
    rw [← u1.at hrb.2] at hlp
    simp only [spC] at hlp
    have hia:=fun w=>ia28 w ⟨bb,off,sq⟩ ls.length c .i64 i (by omega)
    simp only [Nat.mul_one] at hia
    have hib:=fun w=>ia43 w ⟨b2,off2,sq2⟩ L.length c2 .i64 i hlt
    have h14:=hT.len
    have hw1:IntKind.wrap .i64 ((i:Int) + 1)=(i:Int) + 1:=wrap64_in (by omega) (by omega)
    have hsn:=allIn_take hx hp
    rw [hall,Bool.true_and] at hsn
    rw [← k3] at t35
    have hlt':i < ls.length:=by omega
    cases k4:inI p.1 x p.2 with
    | false =>
     rw [k4] at hsn
     have e:truB b L ws s ls=false:=by rw [eT,allIn_pre hsn,Bool.false_and]
     rw [e]
     simp [mc58_l0,t2,t3,t34,t35,t36,hlt',hia,hld,g2,hib,hlp,r82,k4,tupV]
    | true =>
     rw [k4] at hsn
     simp [mc58_l0,t2,t3,t34,t35,t36,hlt',hia,hld,g2,hib,hlp,r82,k4,hw1]
     exact ⟨by omega,by omega,hlt,hsn⟩
   ·have hi':i=L.length:=by omega
    subst hi'
    rw [← k3,allIn_full rfl] at hall
    have hls:=allIn_ok k3 hT.sp hall
    have h14:=hT.len
    simp only [inI,Bool.and_eq_true,decide_eq_true_eq] at k1
    obtain ⟨v83,w3,c83,hacc,hup⟩:=call83 (ov:=ov) 1 ho83 ws s ls (by omega) hls (by omega) lv w' (by omega) (hlv.up u1)
    have hwl:(wtsL ws ls).length=ls.length + 1:=wtsL_length ls ws
    obtain ⟨B,off2,sq2,c2,hv3,hrb⟩:=hacc.rows.at_ ls.length (by omega)
    have hlb:=hrb.int (wts_last ws ls)
    have hib:=fun w=>ia28 w ⟨B,off2,sq2⟩ (wtsL ws ls).length c2 .i64 ls.length (by omega)
    simp only [Nat.mul_one] at hib
    have hlv3:=fun w2=>len28V (w':=w2) hacc.rows
    rw [hv3] at c83 hlv3
    have g33:w3.heap.get (w.next + 1)=some (.cells [.int .i64 ws,.int .i64 s,lv] 32 false):=by rw [hup.at (by omega)]; exact g3
    have hwn:IntKind.wrap .i64 (((wtsL ws ls).length:Int) - 1)=(ls.length:Int):=by rw [wrap64_in (by omega) (by omega)]; omega
    simp only [Nat.reduceAdd] at c83
    rw [eT,hall,Bool.true_and]
    simp [mc58_l0,t2,t3,t35,t36,g3,c83,hlv3,hwn,hib,hlb,g33,tupV]
end Go.Proofs.YtnmamelclmfplaaDoor.walk
