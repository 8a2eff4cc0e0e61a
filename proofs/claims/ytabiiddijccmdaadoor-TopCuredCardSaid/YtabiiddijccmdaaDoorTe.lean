/- Part of a proof: see the text with the theorem. -/
import Derived.Test.YtabiiddijccmdaaDoorTd
import Derived.Test.YtabiiddijccmdaaDoorShF
set_option linter.all false
namespace Go.Proofs.YtabiiddijccmdaaDoor.walk
open Go Go.Sh
set_option maxRecDepth 100000
def LimAt (w:AW):Prop:=∃ ro,w.heap.get 0=some (.cells limC 179 ro)
def LimW (w:AW):Prop:=LimAt w∧0 < w.next
theorem LimW.up {we w:AW} (h:LimW we) (k:Up we w):LimW w:=by
 obtain ⟨⟨ro,h1⟩,h2⟩:=h
 exact ⟨⟨ro,by rw [k.at h2]; exact h1⟩,by have:=k.next; omega⟩
theorem len58V {w w':AW} {v:Value} {l:List CAct} (h:RowsV actC w v l):lenB Tryd.prog w' 58 v=.val (.int .i64 (l.length:Nat)) w':=by
 obtain ⟨a,c,rfl⟩:=h.len; simp
theorem len59V {w w':AW} {v:Value} {l:List CDay} (h:RowsV cdayC w v l):lenB Tryd.prog w' 59 v=.val (.int .i64 (l.length:Nat)) w':=by
 obtain ⟨a,c,rfl⟩:=h.len; simp
theorem len68V {w w':AW} {v:Value} {l:List Int} (h:RowsV intC w v l):lenB Tryd.prog w' 27 v=.val (.int .i64 (l.length:Nat)) w':=by
 obtain ⟨a,c,rfl⟩:=h.len; simp
@[simp] theorem ia179_0 (w:AW) (a:Addr):indexAddrA Tryd.prog w 179 (.pointer (some a)) (.int .i64 0)=.val (.pointer (some (a.add 0))) w:=by kernel_rfl
@[simp] theorem ia179_1 (w:AW) (a:Addr):indexAddrA Tryd.prog w 179 (.pointer (some a)) (.int .i64 1)=.val (.pointer (some (a.add 2))) w:=by kernel_rfl
@[simp] theorem ia179_2 (w:AW) (a:Addr):indexAddrA Tryd.prog w 179 (.pointer (some a)) (.int .i64 2)=.val (.pointer (some (a.add 4))) w:=by kernel_rfl
@[simp] theorem ia179_3 (w:AW) (a:Addr):indexAddrA Tryd.prog w 179 (.pointer (some a)) (.int .i64 3)=.val (.pointer (some (a.add 6))) w:=by kernel_rfl
@[simp] theorem ia179_4 (w:AW) (a:Addr):indexAddrA Tryd.prog w 179 (.pointer (some a)) (.int .i64 4)=.val (.pointer (some (a.add 8))) w:=by kernel_rfl
@[simp] theorem ia179_5 (w:AW) (a:Addr):indexAddrA Tryd.prog w 179 (.pointer (some a)) (.int .i64 5)=.val (.pointer (some (a.add 10))) w:=by kernel_rfl
@[simp] theorem ia179_6 (w:AW) (a:Addr):indexAddrA Tryd.prog w 179 (.pointer (some a)) (.int .i64 6)=.val (.pointer (some (a.add 12))) w:=by kernel_rfl
def limQ (q:Int):Option Sp:=if q=0 then some (0,60) else if q=1 then some (1,14) else if q=2 then some (0,10000) else if q=3 then some (1,1000000) else if q=4 then some (0,1010000) else if q=5 then some (0,10000) else if q=6 then some (0,1000) else none
theorem limQ_cases {q:Int} {s:Sp} (h:limQ q=some s):(q=0∧s=(0,60))∨(q=1∧s=(1,14))∨(q=2∧s=(0,10000))∨(q=3∧s=(1,1000000))∨(q=4∧s=(0,1010000))∨(q=5∧s=(0,10000))∨(q=6∧s=(0,1000)):=by
 unfold limQ at h
 repeat' split at h
 all_goals simp_all
theorem lim_at {w:AW} (h:LimW w):∃ ro,w.heap.get 0=some (.cells [.int .i64 0,.int .i64 60,.int .i64 1,.int .i64 14,.int .i64 0,.int .i64 10000,.int .i64 1,.int .i64 1000000,.int .i64 0,.int .i64 1010000,.int .i64 0,.int .i64 10000,.int .i64 0,.int .i64 1000] 179 ro):=h.1
def S80:PSpec where
 R args _ v:=∃ n a b:Int,args=[.int .i64 n,.agg ⟨[.int .i64 a,.int .i64 b]⟩]∧v=.bool (inI a n b)
 uniq:=by rintro _ _ _ _ ⟨n,a,b,rfl,rfl⟩ ⟨_,_,_,h,rfl⟩; cases h; rfl
 shut h:=h
theorem run80 {ov:Ov} (ho:∀ args w,ov 80 args w=none) (n a b:Int) (w:AW):∃ v w',(run Tryd.prog ov 2).call 80 [.int .i64 n,.agg ⟨[.int .i64 a,.int .i64 b]⟩] w .none=.ok (.ret v) w' .none∧v=.bool (inI a n b):=by
 refine call_wp text80 (by simp) (ho _ _) ?_
 by_cases h1:a≤n <;> simp [mc80,h1,tupV,inI,cellsOf_agg]
def S75:PSpec where
 R args _ v:=∃ a b:Int,args=[.agg ⟨[.int .i64 a,.int .i64 b]⟩]∧v=.bool (decide (b < a))
 uniq:=by rintro _ _ _ _ ⟨a,b,rfl,rfl⟩ ⟨_,_,h,rfl⟩; cases h; rfl
 shut h:=h
theorem run75 {ov:Ov} (ho:∀ args w,ov 75 args w=none) (a b:Int) (w:AW):∃ v w',(run Tryd.prog ov 2).call 75 [.agg ⟨[.int .i64 a,.int .i64 b]⟩] w .none=.ok (.ret v) w' .none∧v=.bool (decide (b < a)):=by
 refine call_wp text75 (by simp) (ho _ _) ?_
 simp [mc75,tupV,cellsOf_agg]
def S76:PSpec where
 R args _ v:=∃ a b c d:Int,args=[.agg ⟨[.int .i64 a,.int .i64 b]⟩,.agg ⟨[.int .i64 c,.int .i64 d]⟩]∧v=.bool (decide (c≤a) && decide (b≤d))
 uniq:=by rintro _ _ _ _ ⟨a,b,c,d,rfl,rfl⟩ ⟨_,_,_,_,h,rfl⟩; cases h; rfl
 shut h:=h
theorem run76 {ov:Ov} (ho:∀ args w,ov 76 args w=none) (a b c d:Int) (w:AW):∃ v w',(run Tryd.prog ov 2).call 76 [.agg ⟨[.int .i64 a,.int .i64 b]⟩,.agg ⟨[.int .i64 c,.int .i64 d]⟩] w .none=.ok (.ret v) w' .none∧v=.bool (decide (c≤a) && decide (b≤d)):=by
 refine call_wp text76 (by simp) (ho _ _) ?_
 by_cases h1:c≤a <;> simp [mc76,h1,tupV,cellsOf_agg]
def S132:PSpec where
 R args w v:=∃ (q n:Int) (s:Sp),args=[.int .i64 q,.int .i64 n]∧limQ q=some s∧LimW w∧v=.bool (inI s.1 n s.2)
 uniq:=by rintro _ _ _ _ ⟨q,n,s,rfl,h1,_,rfl⟩ ⟨_,_,s',h,h2,_,rfl⟩; cases h; rw [h1] at h2; cases h2; rfl
 shut h:=h
theorem run132 {ov:Ov} (ho:∀ args w,ov 132 args w=none) (h82:HasP ov 80 S80.F) (q n:Int) (s:Sp) (hq:limQ q=some s) (w:AW) (hL:LimW w):∃ v w',(run Tryd.prog ov 2).call 132 [.int .i64 q,.int .i64 n] w .none=.ok (.ret v) w' .none∧v=.bool (inI s.1 n s.2):=by
 refine call_wp text132 (by simp) (ho _ _) ?_
 have r82:=fun a b w=>S80.call1 (P:=Tryd.prog) h82 (w:=w) ⟨n,a,b,rfl,rfl⟩
 obtain ⟨ro,hg⟩:=lim_at hL
 rcases limQ_cases hq with ⟨rfl,rfl⟩ | ⟨rfl,rfl⟩ | ⟨rfl,rfl⟩ | ⟨rfl,rfl⟩ | ⟨rfl,rfl⟩ | ⟨rfl,rfl⟩ | ⟨rfl,rfl⟩ <;> simp [mc132,hg,r82,tupV]
def S40:PSpec where
 R args w v:=∃ (q a b:Int) (s:Sp),args=[.int .i64 q,.agg ⟨[.int .i64 a,.int .i64 b]⟩]∧limQ q=some s∧LimW w∧v=.bool (spanI a b s.1 s.2)
 uniq:=by rintro _ _ _ _ ⟨q,a,b,s,rfl,h1,_,rfl⟩ ⟨_,_,_,s',h,h2,_,rfl⟩; cases h; rw [h1] at h2; cases h2; rfl
 shut h:=h
theorem span_bool (a b c d:Int):spanI a b c d=(!decide (b < a) && (decide (c≤a) && decide (b≤d))):=by
 unfold spanI
 by_cases h1:c≤a <;> by_cases h2:b < a <;> by_cases h3:b≤d
 all_goals simp [h1,h2,h3]
 all_goals omega
theorem run40 {ov:Ov} (ho:∀ args w,ov 40 args w=none) (h92:HasP ov 75 S75.F) (h93:HasP ov 76 S76.F) (q a b:Int) (s:Sp) (hq:limQ q=some s) (w:AW) (hl:w.lim=w.next) (hL:LimW w):∃ v w',(run Tryd.prog ov 2).call 40 [.int .i64 q,.agg ⟨[.int .i64 a,.int .i64 b]⟩] w .none=.ok (.ret v) w' .none∧v=.bool (spanI a b s.1 s.2):=by
 refine call_wp text40 (by simp) (ho _ _) ?_
 have r92:=fun w=>S75.call1 (P:=Tryd.prog) h92 (w:=w) ⟨a,b,rfl,rfl⟩
 have r93:=fun c d w=>S76.call1 (P:=Tryd.prog) h93 (w:=w) ⟨a,b,c,d,rfl,rfl⟩
 obtain ⟨ro,hg⟩:=lim_at hL
 have hp:=hL.2
 have e0:¬ 0=w.next:=by omega
 have lw:w.lim≤w.next:=by omega
 by_cases h1:b < a
 ·rcases limQ_cases hq with ⟨rfl,rfl⟩ | ⟨rfl,rfl⟩ | ⟨rfl,rfl⟩ | ⟨rfl,rfl⟩ | ⟨rfl,rfl⟩ | ⟨rfl,rfl⟩ | ⟨rfl,rfl⟩ <;> simp [mc40,hg,r92,r93,tupV,cellsOf_agg,span_bool,h1,e0]
 ·rcases limQ_cases hq with ⟨rfl,rfl⟩ | ⟨rfl,rfl⟩ | ⟨rfl,rfl⟩ | ⟨rfl,rfl⟩ | ⟨rfl,rfl⟩ | ⟨rfl,rfl⟩ | ⟨rfl,rfl⟩ <;> simp [mc40,hg,r92,r93,tupV,cellsOf_agg,span_bool,h1,e0]
def S104:PSpec where
 R args w v:=∃ b:CBox,args=[.agg ⟨boxC b⟩]∧LimW w∧v=.bool (boxB b)
 uniq:=by rintro _ _ _ _ ⟨⟨a,b,c,d⟩,rfl,_,rfl⟩ ⟨⟨a',b',c',d'⟩,h,_,rfl⟩; cases h; rfl
 shut h:=h
theorem run104 {ov:Ov} (ho:∀ args w,ov 104 args w=none) (h70:HasP ov 40 S40.F) (b:CBox) (w:AW) (hl:w.lim=w.next) (hL:LimW w):∃ v w',(run Tryd.prog ov 2).call 104 [.agg ⟨boxC b⟩] w .none=.ok (.ret v) w' .none∧v=.bool (boxB b):=by
 refine call_wp text104 (by simp) (ho _ _) ?_
 have u1:Up w ⟨w.heap.put w.next (some (.cells (boxC b) 68 false)),w.next + 1,w.lim⟩:=(Up.refl w).add _
 have r70:=fun x y=>S40.call1 (P:=Tryd.prog) h70 (w:=⟨w.heap.put w.next (some (.cells (boxC b) 68 false)),w.next + 1,w.lim⟩) ⟨3,x,y,(1,1000000),rfl,rfl,hL.up u1,rfl⟩
 unfold boxC at r70 ⊢
 by_cases h1:spanI b.wl b.wh 1 1000000=true
 ·simp [mc104,r70,tupV,cellsOf_agg,boxB,h1]
 ·simp [mc104,r70,tupV,cellsOf_agg,boxB,h1]
theorem all_take {α:Type} {p:α→Bool} {l:List α} {i:Nat} {a:α} (ha:l[i]?=some a):(l.take (i + 1)).all p=((l.take i).all p && p a):=by
 rw [take_snoc ha,List.all_append]; simp
theorem all_bad {α:Type} {p:α→Bool} {l:List α} {i:Nat} {a:α} (ha:l[i]?=some a) (h:p a=false):l.all p=false:=by
 cases hq:l.all p with
 | false=>rfl
 | true =>
  have:=List.all_eq_true.1 hq a (List.mem_of_getElem? ha)
  rw [h] at this; cases this
theorem all_full {α:Type} {p:α→Bool} {l:List α} (h:(l.take l.length).all p=true):l.all p=true:=by rwa [List.take_length] at h
def S125:PSpec where
 R args w v:=∃ (x:Value) (r:List CAct),args=[x]∧RowsV actC w x r∧LimW w∧v=.bool (ruleB r)
 uniq:=by
  rintro _ _ _ _ ⟨x,r,rfl,h1,_,rfl⟩ ⟨_,r',h,h2,_,rfl⟩
  cases h
  rw [h1.uniq (m:=7) actC_length actC_inj h2]
 shut h:=h
theorem run125 {ov:Ov} (ho:∀ args w,ov 125 args w=none) (h81:HasP ov 132 S132.F) (h70:HasP ov 40 S40.F) (r:List CAct) (v:Value) (w:AW) (hl:w.lim=w.next) (hv:RowsV actC w v r) (hL:LimW w):∃ x w',(run Tryd.prog ov 2).call 125 [v] w .none=.ok (.ret x) w' .none∧x=.bool (ruleB r):=by
 refine call_wp text125 (by simp) (ho _ _) ?_
 have hl1:=fun w2=>len58V (w':=w2) hv
 by_cases h1:r.length < 1
 ·have h1':(r.length:Int) < 1:=by omega
  have e:ruleB r=false:=by simp [ruleB,inI]; intro h; omega
  simp [mc125,hl1,h1',e,tupV]
 have h1':¬ (r.length:Int) < 1:=by omega
 by_cases h2:5 < r.length
 ·have h2':(5:Int) < (r.length:Int):=by omega
  have e:ruleB r=false:=by simp [ruleB,inI]; intro _ h; omega
  simp [mc125,hl1,h1',h2',e,tupV]
 have h2':¬ (5:Int) < (r.length:Int):=by omega
 have eI:inI 1 (r.length:Nat) 5=true:=by simp [inI]; omega
 have hll:=hl
 simp [mc125,hl1,h1',h2']
 refine wp_seqX (wp_blockX (wp_rounds (fun i t w'=>Up w w'∧w'.lim≤w'.next∧tget t 0=v∧tget t 13=v∧tget t 14=.int .i64 (r.length:Nat)∧tget t 15=.int .i64 (i:Nat)∧i≤r.length∧(r.take i).all (actB r.length)=true) 20 (by decide) ?_ ?_))
 ·refine ⟨Up.refl w,by omega,by simp,by simp,by simp,by simp,by omega,by simp⟩
 ·clear hl1
  rintro i t w' ⟨hu,hle,t0,t13,t14,t15,hi,ha⟩
  by_cases hlt:i < r.length
  ·obtain ⟨x,hx⟩:∃ p,r[i]?=some p:=⟨_,List.getElem?_eq_getElem hlt⟩
   have hv1:=hv.up hu
   have hl1:=fun w2=>len58V (w':=w2) hv1
   obtain ⟨b,off,sq,c,rfl,hra⟩:=hv1.at_ i hlt
   have hld:=hra.rd actC_length hx
   have hia:=fun w=>ia58 w ⟨b,off,sq⟩ r.length c .i64 i hlt
   have hw1:IntKind.wrap .i64 ((i:Int) + 1)=(i:Int) + 1:=wrap64_in (by omega) (by omega)
   have hsh:=fun w s c=>bin_shl1 (P:=Tryd.prog) (w:=w) s c r.length (by omega)
   have hpow:(1:Int)≤2 ^ r.length:=by exact_mod_cast Nat.one_le_two_pow
   have has:=all_take (p:=actB r.length) hx
   obtain ⟨a1,a2,a3,a4,a5,a6,a7⟩:=x
   have u1:Up w ⟨(w'.heap.put w'.next (some (.cells [.int .i64 0,.int .i64 0,.bool false,.bool false,.int .i64 0,.int .i64 0,.int .i64 0] 77 false))).put w'.next (some (.cells [.int .i64 a1,.int .i64 a2,.bool a3,.bool a4,.int .i64 a5,.int .i64 a6,.int .i64 a7] 77 false)),w'.next + 1,w'.lim⟩:=(hu.add _).put hu.next (Nat.le_refl _)
   have L1:=hL.up u1
   have r81a:=S132.call1 (P:=Tryd.prog) h81 ⟨0,a1,_,rfl,rfl,L1,rfl⟩
   have r81b:=S132.call1 (P:=Tryd.prog) h81 ⟨1,a5,_,rfl,rfl,L1,rfl⟩
   have r70:=S40.call1 (P:=Tryd.prog) h70 ⟨2,a6,a7,_,rfl,rfl,L1,rfl⟩
   have hbad:actB r.length ⟨a1,a2,a3,a4,a5,a6,a7⟩=false→ruleB r=false:=fun h=>by
    simp only [ruleB,all_bad hx h,Bool.and_false]
   simp only [actC] at hld
   cases k1:inI 0 a1 60 with
   | false =>
    have e:=hbad (by simp [actB,k1])
    rw [k1] at r81a
    simp [mc125_l0,t0,t13,t14,t15,hlt,hia,hld,hle,r81a,e,tupV]
   | true =>
    rw [k1] at r81a
    cases k2:inI 1 a5 14 with
    | false =>
     have e:=hbad (by simp [actB,k2])
     rw [k2] at r81b
     simp [mc125_l0,t0,t13,t14,t15,hlt,hia,hld,hle,r81a,r81b,e,tupV]
    | true =>
     rw [k2] at r81b
     cases k3:spanI a6 a7 0 10000 with
     | false =>
      have e:=hbad (by simp [actB,k3])
      rw [k3] at r70
      simp [mc125_l0,t0,t13,t14,t15,hlt,hia,hld,hle,r81a,r81b,r70,e,tupV]
     | true =>
      rw [k3] at r70
      by_cases k4:a2 < 0
      ·have e:=hbad (by simp only [actB,inI]; simp; intro _ _ _; omega)
       simp [mc125_l0,t0,t13,t14,t15,hlt,hia,hld,hle,r81a,r81b,r70,k4,e,tupV]
      ·by_cases k5:(2:Int) ^ r.length≤a2
       ·have e:=hbad (by simp only [actB,inI]; simp; intro _ _ _; omega)
        simp [mc125_l0,t0,t13,t14,t15,hlt,hia,hld,hle,r81a,r81b,r70,k4,k5,hl1,hsh,e,tupV]
       ·have e:actB r.length ⟨a1,a2,a3,a4,a5,a6,a7⟩=true:=by
         simp only [actB,k1,k2,k3,Bool.true_and]
         simp [inI]; omega
        rw [ha,e] at has
        simp [mc125_l0,t0,t13,t14,t15,hlt,hia,hld,hle,r81a,r81b,r70,k4,k5,hl1,hsh,hw1]
        exact ⟨by omega,u1,hlt,by simpa using has⟩
  ·have hi':i=r.length:=by omega
   subst hi'
   have e:ruleB r=true:=by simp only [ruleB,eI,all_full ha,Bool.and_self]
   simp [mc125_l0,t14,t15,e,tupV]
def S126:PSpec where
 R args w v:=∃ (x:Value) (d:List CDay),args=[x]∧RowsV cdayC w x d∧LimW w∧v=.bool (daysB d)
 uniq:=by
  rintro _ _ _ _ ⟨x,r,rfl,h1,_,rfl⟩ ⟨_,r',h,h2,_,rfl⟩
  cases h
  rw [h1.uniq (m:=3) cdayC_length cdayC_inj h2]
 shut h:=h
theorem run126 {ov:Ov} (ho:∀ args w,ov 126 args w=none) (h70:HasP ov 40 S40.F) (r:List CDay) (v:Value) (w:AW) (hl:w.lim=w.next) (hv:RowsV cdayC w v r) (hL:LimW w):∃ x w',(run Tryd.prog ov 2).call 126 [v] w .none=.ok (.ret x) w' .none∧x=.bool (daysB r):=by
 refine call_wp text126 (by simp) (ho _ _) ?_
 have hl1:=fun w2=>len59V (w':=w2) hv
 by_cases h1:r.length < 1
 ·have h1':(r.length:Int) < 1:=by omega
  have e:daysB r=false:=by simp [daysB,inI]; intro h; omega
  simp [mc126,hl1,h1',e,tupV]
 have h1':¬ (r.length:Int) < 1:=by omega
 by_cases h2:14 < r.length
 ·have h2':(14:Int) < (r.length:Int):=by omega
  have e:daysB r=false:=by simp [daysB,inI]; intro _ h; omega
  simp [mc126,hl1,h1',h2',e,tupV]
 have h2':¬ (14:Int) < (r.length:Int):=by omega
 have eI:inI 1 (r.length:Nat) 14=true:=by simp [inI]; omega
 simp [mc126,hl1,h1',h2']
 refine wp_seqX (wp_blockX (wp_rounds (fun i t w'=>Up w w'∧w'.lim≤w'.next∧tget t 13=v∧tget t 14=.int .i64 (r.length:Nat)∧tget t 15=.int .i64 (i:Nat)∧i≤r.length∧(r.take i).all cdayB=true) 20 (by decide) ?_ ?_))
 ·refine ⟨Up.refl w,by omega,by simp,by simp,by simp,by omega,by simp⟩
 ·clear hl1
  rintro i t w' ⟨hu,hle,t13,t14,t15,hi,ha⟩
  by_cases hlt:i < r.length
  ·obtain ⟨x,hx⟩:∃ p,r[i]?=some p:=⟨_,List.getElem?_eq_getElem hlt⟩
   have hv1:=hv.up hu
   obtain ⟨b,off,sq,c,rfl,hra⟩:=hv1.at_ i hlt
   have hld:=hra.rd cdayC_length hx
   have hia:=fun w=>ia59 w ⟨b,off,sq⟩ r.length c .i64 i hlt
   have hw1:IntKind.wrap .i64 ((i:Int) + 1)=(i:Int) + 1:=wrap64_in (by omega) (by omega)
   have has:=all_take (p:=cdayB) hx
   obtain ⟨a1,a2,a3⟩:=x
   have u1:Up w ⟨(w'.heap.put w'.next (some (.cells [.int .i64 0,.int .i64 0,.bool false] 118 false))).put w'.next (some (.cells [.int .i64 a1,.int .i64 a2,.bool a3] 118 false)),w'.next + 1,w'.lim⟩:=(hu.add _).put hu.next (Nat.le_refl _)
   have L1:=hL.up u1
   have r70:=S40.call1 (P:=Tryd.prog) h70 ⟨0,a1,a2,_,rfl,rfl,L1,rfl⟩
   simp only [cdayC] at hld
   cases k3:spanI a1 a2 0 60 with
   | false =>
    have e:daysB r=false:=by simp only [daysB,all_bad hx (p:=cdayB) k3,Bool.and_false]
    rw [k3] at r70
    simp [mc126_l0,t13,t14,t15,hlt,hia,hld,hle,r70,e,tupV]
   | true =>
    rw [k3] at r70
    have e:cdayB ⟨a1,a2,a3⟩=true:=k3
    rw [ha,e] at has
    simp [mc126_l0,t13,t14,t15,hlt,hia,hld,hle,r70,hw1]
    exact ⟨by omega,u1,hlt,by simpa using has⟩
  ·have hi':i=r.length:=by omega
   subst hi'
   have e:daysB r=true:=by simp only [daysB,eI,all_full ha,Bool.and_self]
   simp [mc126_l0,t14,t15,e,tupV]
def S103:PSpec where
 R args w v:=∃ (x y:Value) (r:List CAct) (d:List CDay),args=[x,y]∧RowsV actC w x r∧RowsV cdayC w y d∧LimW w∧v=.int .i64 (chkC r d)
 uniq:=by
  rintro _ _ _ _ ⟨x,y,r,d,rfl,h1,h2,_,rfl⟩ ⟨_,_,r',d',h,k1,k2,_,rfl⟩
  cases h
  rw [h1.uniq (m:=7) actC_length actC_inj k1,h2.uniq (m:=3) cdayC_length cdayC_inj k2]
 shut h:=h
theorem run103 {ov:Ov} (ho:∀ args w,ov 103 args w=none) (h53:HasP ov 125 S125.F) (h54:HasP ov 126 S126.F) (r:List CAct) (d:List CDay) (v y:Value) (w:AW) (hv:RowsV actC w v r) (hd:RowsV cdayC w y d) (hL:LimW w):∃ x w',(run Tryd.prog ov 2).call 103 [v,y] w .none=.ok (.ret x) w' .none∧x=.int .i64 (chkC r d):=by
 refine call_wp text103 (by simp) (ho _ _) ?_
 have r53:=S125.call1 (P:=Tryd.prog) h53 ⟨v,r,rfl,hv,hL,rfl⟩
 have r54:=S126.call1 (P:=Tryd.prog) h54 ⟨y,d,rfl,hd,hL,rfl⟩
 cases k1:ruleB r with
 | false=>rw [k1] at r53; simp [mc103,r53,chkC,k1,tupV]
 | true =>
  rw [k1] at r53
  cases k2:daysB d <;> rw [k2] at r54 <;> simp [mc103,r53,r54,chkC,k1,k2,tupV]
theorem rdO_sub {o:Option AObj} {off m j k:Nat} {c:List Value} (h:rdO o off m=some c) (hjk:j + k≤m):rdO o (off + j) k=some ((c.drop j).take k):=by
 unfold rdO at *
 cases hc:cellsO o with
 | none=>simp [hc] at h
 | some cs =>
  simp only [hc,Option.bind_some] at h ⊢
  split at h
  ·rename_i hle
   cases h
   rw [if_pos (by omega),List.drop_take,List.drop_drop,List.take_take,Nat.min_eq_left (by omega)]
  ·cases h
structure FineS (s:Stg):Prop where
 last:s.last = -1∨0≤s.last
 done:0≤s.done∧s.done≤20
 row:0≤s.row∧s.row≤20
 lo:0≤s.lo∧s.lo≤1000000
 hi:0≤s.hi∧s.hi≤1000000
def FineA (a:CAct):Prop:=0≤a.ll∧a.ll≤10000∧0≤a.lh∧a.lh≤10000
theorem fine_of {r:List CAct} {so:List Int} {s:Stg} (h:StOk r so s) (hn:so.length≤14):FineS s:=by
 have h1:=h.done; have h2:=h.lo; have h3:=h.hi; have h4:=h.row
 have h5:=runL_le s.last so.reverse
 rw [List.length_reverse] at h5
 refine ⟨?_,by omega,by omega,by omega,by omega⟩
 rcases h.last with ⟨_,e⟩ | ⟨z,_,e,h0,_⟩ <;> omega
theorem fineA_of {r:List CAct} (h:ruleB r=true) {i:Nat} {x:CAct} (hx:r[i]?=some x):FineA x:=by
 obtain ⟨_,_,k,_⟩:=act_of h hx
 simp only [spanI,Bool.and_eq_true,decide_eq_true_eq] at k
 unfold FineA; omega
def dayC (y:CDay) (s:Stg):List Value:=[.int .i64 y.wl,.int .i64 y.wh,.bool y.rain,.int .i64 s.done,.int .i64 s.last,.int .i64 s.row,.int .i64 s.lo,.int .i64 s.hi]
def numC (a:CAct) (n:Int):List Value:=[.int .i64 a.warm,.int .i64 a.behind,.bool a.dry,.bool a.first,.int .i64 a.most,.int .i64 a.ll,.int .i64 a.lh,.int .i64 n]
def S129:PSpec where
 R args w v:=∃ (s:Stg) (a:CAct) (n:Int),args=[.agg ⟨stgC s⟩,.agg ⟨numC a n⟩]∧FineS s∧FineA a∧w.lim≤w.next∧v=.agg ⟨stgC (withS s a n)⟩
 uniq:=by
  rintro _ _ _ _ ⟨⟨_,_,_,_,_⟩,⟨_,_,_,_,_,_,_⟩,n,rfl,_,_,_,rfl⟩ ⟨⟨_,_,_,_,_⟩,⟨_,_,_,_,_,_,_⟩,n',h,_,_,_,rfl⟩
  simp only [stgC,numC,List.cons.injEq,Value.agg.injEq,Array.mk.injEq,Value.int.injEq,Value.bool.injEq,true_and,and_true] at h
  obtain ⟨⟨rfl,rfl,rfl,rfl,rfl⟩,rfl,rfl,rfl,rfl,rfl,rfl,rfl,rfl⟩:=h
  rfl
 shut:=fun ⟨s,a,n,h1,h2,h3,_,h4⟩=>⟨s,a,n,h1,h2,h3,Nat.le_refl _,h4⟩
theorem run129 {ov:Ov} (ho:∀ args w,ov 129 args w=none) (s:Stg) (a:CAct) (n:Int) (hs:FineS s) (ha:FineA a) (w:AW) (hl:w.lim=w.next):∃ x w',(run Tryd.prog ov 2).call 129 [.agg ⟨stgC s⟩,.agg ⟨numC a n⟩] w .none=.ok (.ret x) w' .none∧x=.agg ⟨stgC (withS s a n)⟩:=by
 refine call_wp text129 (by simp) (ho _ _) ?_
 have h1:=hs.done; have h2:=hs.row; have h3:=hs.lo; have h4:=hs.hi
 unfold FineA at ha
 have w1:IntKind.wrap .i64 (s.done + 1)=s.done + 1:=wrap64_in (by omega) (by omega)
 have w2:IntKind.wrap .i64 (1 + s.row)=1 + s.row:=wrap64_in (by omega) (by omega)
 have w3:IntKind.wrap .i64 (s.lo + a.ll)=s.lo + a.ll:=wrap64_in (by omega) (by omega)
 have w4:IntKind.wrap .i64 (s.hi + a.lh)=s.hi + a.lh:=wrap64_in (by omega) (by omega)
 have lw:w.lim≤w.next:=by omega
 have lw2:w.lim≤w.next + 1 + 1:=by omega
 have lw3:w.lim≤w.next + 1 + 1 + 1:=by omega
 by_cases e:n=s.last
 ·simp [mc129,stgC,numC,cellsOf_agg,e,w1,w2,w3,w4,lw,lw2,lw3,tupV,withS]
 ·simp [mc129,stgC,numC,cellsOf_agg,e,w1,w2,w3,w4,lw,lw2,lw3,tupV,withS]
def S107:PSpec where
 R args w v:=args=[]∧w.lim≤w.next∧v=.agg ⟨stgC startS⟩
 uniq:=by rintro _ _ _ _ ⟨rfl,_,rfl⟩ ⟨_,_,rfl⟩; rfl
 shut:=fun ⟨h1,_,h2⟩=>⟨h1,Nat.le_refl _,h2⟩
theorem run107 {ov:Ov} (ho:∀ args w,ov 107 args w=none) (w:AW) (hl:w.lim=w.next):∃ x w',(run Tryd.prog ov 2).call 107 [] w .none=.ok (.ret x) w' .none∧x=.agg ⟨stgC startS⟩:=by
 refine call_wp text107 (by simp) (ho _ _) ?_
 have lw:w.lim≤w.next:=by omega
 simp [mc107,stgC,startS,cellsOf_agg,lw,tupV]
def q0 (x:CAct) (y:CDay):Bool:=decide (x.warm≤y.wl)
def q1 (x:CAct) (y:CDay):Bool:=!(x.dry && y.rain)
def q2 (x:CAct) (num:Int) (s:Stg):Bool:=if s.last = -1 then x.first else decide (s.last=num) || bitB x.behind s.last
def q3 (x:CAct) (num:Int) (s:Stg):Bool:=decide (s.last ≠ num) || decide (s.row < x.most)
theorem fit_q (x:CAct) (num:Int) (y:CDay) (s:Stg):fitB x num y s=(q0 x y && (q1 x y && (q2 x num s && q3 x num s))):=rfl
def SQ (q:CAct→Int→CDay→Stg→Bool):PSpec where
 R args _ v:=∃ (x:CAct) (n:Int) (y:CDay) (s:Stg),args=[.agg ⟨dayC y s⟩,.agg ⟨numC x n⟩]∧FineS s∧v=.bool (q x n y s)
 uniq:=by
  rintro _ _ _ _ ⟨⟨_,_,_,_,_,_,_⟩,n,⟨_,_,_⟩,⟨_,_,_,_,_⟩,rfl,_,rfl⟩ ⟨⟨_,_,_,_,_,_,_⟩,n',⟨_,_,_⟩,⟨_,_,_,_,_⟩,h,_,rfl⟩
  simp only [dayC,numC,List.cons.injEq,Value.agg.injEq,Array.mk.injEq,Value.int.injEq,Value.bool.injEq,true_and,and_true] at h
  obtain ⟨⟨rfl,rfl,rfl,rfl,rfl,rfl,rfl,rfl⟩,rfl,rfl,rfl,rfl,rfl,rfl,rfl,rfl⟩:=h
  rfl
 shut h:=h
def S142:PSpec:=SQ fun x _ y _=>q0 x y
def S143:PSpec:=SQ fun x _ y _=>q1 x y
def S144:PSpec:=SQ fun x n _ s=>q2 x n s
def S145:PSpec:=SQ fun x n _ s=>q3 x n s
theorem run142 {ov:Ov} (ho:∀ args w,ov 142 args w=none) (x:CAct) (n:Int) (y:CDay) (s:Stg) (w:AW):∃ v w',(run Tryd.prog ov 2).call 142 [.agg ⟨dayC y s⟩,.agg ⟨numC x n⟩] w .none=.ok (.ret v) w' .none∧v=.bool (q0 x y):=by
 refine call_wp text142 (by simp) (ho _ _) ?_
 simp [mc142,dayC,numC,cellsOf_agg,tupV,q0]
theorem run143 {ov:Ov} (ho:∀ args w,ov 143 args w=none) (x:CAct) (n:Int) (y:CDay) (s:Stg) (w:AW):∃ v w',(run Tryd.prog ov 2).call 143 [.agg ⟨dayC y s⟩,.agg ⟨numC x n⟩] w .none=.ok (.ret v) w' .none∧v=.bool (q1 x y):=by
 refine call_wp text143 (by simp) (ho _ _) ?_
 cases hd:x.dry <;> simp [mc143,dayC,numC,cellsOf_agg,tupV,q1,hd]
theorem run144 {ov:Ov} (ho:∀ args w,ov 144 args w=none) (x:CAct) (n:Int) (y:CDay) (s:Stg) (hs:FineS s) (w:AW):∃ v w',(run Tryd.prog ov 2).call 144 [.agg ⟨dayC y s⟩,.agg ⟨numC x n⟩] w .none=.ok (.ret v) w' .none∧v=.bool (q2 x n s):=by
 refine call_wp text144 (by simp) (ho _ _) ?_
 by_cases h1:s.last = -1
 ·simp [mc144,dayC,numC,cellsOf_agg,tupV,q2,h1]
 ·have h0:0≤s.last:=by have:=hs.last; omega
  by_cases h2:s.last=n
  ·have h3:¬ n = -1:=by omega
   simp [mc144,dayC,numC,cellsOf_agg,tupV,q2,h1,h2,h3]
  ·simp [mc144,dayC,numC,cellsOf_agg,tupV,q2,h1,h2,bin_shr (h:=h0),bitB]
theorem run145 {ov:Ov} (ho:∀ args w,ov 145 args w=none) (x:CAct) (n:Int) (y:CDay) (s:Stg) (w:AW):∃ v w',(run Tryd.prog ov 2).call 145 [.agg ⟨dayC y s⟩,.agg ⟨numC x n⟩] w .none=.ok (.ret v) w' .none∧v=.bool (q3 x n s):=by
 refine call_wp text145 (by simp) (ho _ _) ?_
 by_cases h2:s.last=n <;> simp [mc145,dayC,numC,cellsOf_agg,tupV,q3,h2]
def fun98 (c2 c3:Nat):Value:=.func (.func 127) ⟨[]⟩ ⟨[.pointer (some ⟨c3,0,none⟩),.pointer (some ⟨c2,0,none⟩)]⟩
theorem call106 {ov:Ov} (m:Nat) (ho:∀ args w,ov 106 args w=none) (rv dv:Value) (s:Stg) (w:AW):∃ v w',(run Tryd.prog ov (m + 1)).call 106 [.agg ⟨[rv,dv]⟩,.agg ⟨stgC s⟩] w .none=.ok (.ret v) w' .none∧v=fun98 w.next (w.next + 1)∧w'=⟨(w.heap.put w.next (some (.cells [rv,dv] 171 false))).put (w.next + 1) (some (.cells [.int .i64 s.done,.int .i64 s.last,.int .i64 s.row,.int .i64 s.lo,.int .i64 s.hi] 174 false)),w.next + 2,w.lim⟩:=by
 refine call_wp text106 (by simp) (ho _ _) ?_
 simp [mc106,tupV,fun98,notJunk,cellsOf_agg,stgC]
def funQ (k:Nat):Value:=.func (.func k) ⟨[]⟩ ⟨[]⟩
@[simp] theorem bd243 (w:AW):buildA Tryd.prog w 243 [(0,.func (.func 142) #[] #[]),(1,.func (.func 143) #[] #[]),(2,.func (.func 144) #[] #[]),(3,.func (.func 145) #[] #[])]=.val (.agg ⟨[funQ 142,funQ 143,funQ 144,funQ 145]⟩) w:=by kernel_rfl
@[simp] theorem ix243_0 (w:AW):indexA Tryd.prog w 243 (.agg ⟨[funQ 142,funQ 143,funQ 144,funQ 145]⟩) (.int .i64 0)=.val (funQ 142) w:=by kernel_rfl
@[simp] theorem ix243_1 (w:AW):indexA Tryd.prog w 243 (.agg ⟨[funQ 142,funQ 143,funQ 144,funQ 145]⟩) (.int .i64 1)=.val (funQ 143) w:=by kernel_rfl
@[simp] theorem ix243_2 (w:AW):indexA Tryd.prog w 243 (.agg ⟨[funQ 142,funQ 143,funQ 144,funQ 145]⟩) (.int .i64 2)=.val (funQ 144) w:=by kernel_rfl
@[simp] theorem ix243_3 (w:AW):indexA Tryd.prog w 243 (.agg ⟨[funQ 142,funQ 143,funQ 144,funQ 145]⟩) (.int .i64 3)=.val (funQ 145) w:=by kernel_rfl
theorem call128 {ov:Ov} (m:Nat) (ho:∀ args w,ov 128 args w=none) (w:AW) (hl:w.lim≤w.next):∃ v w',(run Tryd.prog ov (m + 1)).call 128 [] w .none=.ok (.ret v) w' .none∧v=.agg ⟨[funQ 142,funQ 143,funQ 144,funQ 145]⟩∧Up w w':=by
 refine call_wp text128 (by simp) (ho _ _) ?_
 have u:=((Up.refl w).add (some (.cells [.nilFunc,.nilFunc,.nilFunc,.nilFunc] 243 false))).put (o:=some (.cells [funQ 142,funQ 143,funQ 144,funQ 145] 243 false)) (Nat.le_refl _) (Nat.le_refl _)
 have sg:singles [funQ 142,funQ 143,funQ 144,funQ 145]=true:=rfl
 simp [mc128,tupV,cellsOf_agg,hl,sg]
 exact u
theorem cvQ {k:Nat} (h:hasBody Tryd.prog k=true) (w:AW) (args:List Value):callV Tryd.prog w (funQ k) args=.enter k args w:=by
 show callV Tryd.prog w (.func (.func k) ⟨[]⟩ ⟨[]⟩) args=_
 rw [callV_func,callFn_of h]; simp
@[simp] theorem cv107 (w:AW) (args:List Value):callV Tryd.prog w (funQ 142) args=.enter 142 args w:=cvQ (by kernel_rfl) w args
@[simp] theorem cv108 (w:AW) (args:List Value):callV Tryd.prog w (funQ 143) args=.enter 143 args w:=cvQ (by kernel_rfl) w args
@[simp] theorem cv109 (w:AW) (args:List Value):callV Tryd.prog w (funQ 144) args=.enter 144 args w:=cvQ (by kernel_rfl) w args
@[simp] theorem cv110 (w:AW) (args:List Value):callV Tryd.prog w (funQ 145) args=.enter 145 args w:=cvQ (by kernel_rfl) w args
structure KeepT (t t':Tm):Prop where
 k0:tget t' 0=tget t 0
 k1:tget t' 1=tget t 1
 k4:tget t' 4=tget t 4
 k7:tget t' 7=tget t 7
 k25:tget t' 25=tget t 25
 k26:tget t' 26=tget t 26
 k27:tget t' 27=tget t 27
def qk (x:CAct) (n:Int) (y:CDay) (s:Stg) (j:Nat):Prop:=(1≤j→q0 x y=true)∧(2≤j→q1 x y=true)∧(3≤j→q2 x n s=true)∧(4≤j→q3 x n s=true)
theorem inner98 {ov:Ov} (m:Nat) (h107:HasP ov 142 S142.F) (h108:HasP ov 143 S143.F) (h109:HasP ov 144 S144.F) (h110:HasP ov 145 S145.F) (x:CAct) (n:Int) (y:CDay) (s:Stg) (hs:FineS s) (n4 n7:Nat) (Q:Ex→Tm→AW→Prop) (t:Tm) (w:AW)
  (g4:w.heap.get n4=some (.cells (dayC y s) 239 false)) (g7:w.heap.get n7=some (.cells (numC x n) 241 false)) (t4:tget t 4=.pointer (some ⟨n4,0,none⟩)) (t7:tget t 7=.pointer (some ⟨n7,0,none⟩)) (t35:tget t 35=.agg ⟨[funQ 142,funQ 143,funQ 144,funQ 145]⟩) (t36:tget t 36=.int .i64 0)
  (hQ0:fitB x n y s=false→∀ t',KeepT t t'→Q (.exit 1) t' w) (hQ1:fitB x n y s=true→∀ t',KeepT t t'→Q (.exit 2) t' w):wp (exY Tryd.prog (run Tryd.prog ov (m + 1)) (.loop mc127_l1) t w) Q:=by
 have r107:=S142.call (P:=Tryd.prog) h107 (m:=m) (w:=w) ⟨x,n,y,s,rfl,hs,rfl⟩
 have r108:=S143.call (P:=Tryd.prog) h108 (m:=m) (w:=w) ⟨x,n,y,s,rfl,hs,rfl⟩
 have r109:=S144.call (P:=Tryd.prog) h109 (m:=m) (w:=w) ⟨x,n,y,s,rfl,hs,rfl⟩
 have r110:=S145.call (P:=Tryd.prog) h110 (m:=m) (w:=w) ⟨x,n,y,s,rfl,hs,rfl⟩
 simp only [dayC,numC] at g4 g7 r107 r108 r109 r110
 refine wp_roundsY (fun j t' w'=>w'=w∧KeepT t t'∧tget t' 35=.agg ⟨[funQ 142,funQ 143,funQ 144,funQ 145]⟩∧tget t' 36=.int .i64 (j:Nat)∧j≤4∧qk x n y s j) 20 (by decide) ⟨rfl,⟨rfl,rfl,rfl,rfl,rfl,rfl,rfl⟩,t35,by simpa using t36,by omega,by unfold qk; omega⟩ ?_
 clear t35 t36
 rintro j t' w' ⟨rfl,hk,t35,t36,hj,hq⟩
 have u4:tget t' 4=.pointer (some ⟨n4,0,none⟩):=by rw [hk.k4,t4]
 have u7:tget t' 7=.pointer (some ⟨n7,0,none⟩):=by rw [hk.k7,t7]
 have wr (k:Int) (h:0≤k∧k≤4):IntKind.wrap .i64 (k + 1)=k + 1:=wrap64_in (by omega) (by omega)
 obtain ⟨z1,z2,z3,z4⟩:=hq
 rcases j with _ | _ | _ | _ | _ | j
 ·have t36:tget t' 36=.int .i64 0:=by simpa using t36
  cases hb:q0 x y with
  | false =>
   rw [hb] at r107
   simp [mc127_l1,t35,t36,u4,u7,g4,g7,r107]
   exact hQ0 (by simp [fit_q,hb]) _ ⟨by simp [hk.k0],by simp [hk.k1],by simp [hk.k4],by simp [hk.k7],by simp [hk.k25],by simp [hk.k26],by simp [hk.k27]⟩
  | true =>
   rw [hb] at r107
   have e:=wr 0 (by omega)
   simp [mc127_l1,t35,t36,u4,u7,g4,g7,r107]
   exact ⟨⟨by simp [hk.k0],by simp [hk.k1],by simp [hk.k4],by simp [hk.k7],by simp [hk.k25],by simp [hk.k26],by simp [hk.k27]⟩,by decide,fun _=>hb,fun h=>by omega,fun h=>by omega,fun h=>by omega⟩
 ·have t36:tget t' 36=.int .i64 1:=by simpa using t36
  cases hb:q1 x y with
  | false =>
   rw [hb] at r108
   simp [mc127_l1,t35,t36,u4,u7,g4,g7,r108]
   exact hQ0 (by simp [fit_q,hb]) _ ⟨by simp [hk.k0],by simp [hk.k1],by simp [hk.k4],by simp [hk.k7],by simp [hk.k25],by simp [hk.k26],by simp [hk.k27]⟩
  | true =>
   rw [hb] at r108
   simp [mc127_l1,t35,t36,u4,u7,g4,g7,r108]
   exact ⟨⟨by simp [hk.k0],by simp [hk.k1],by simp [hk.k4],by simp [hk.k7],by simp [hk.k25],by simp [hk.k26],by simp [hk.k27]⟩,by decide,fun _=>z1 (by omega),fun _=>hb,fun h=>by omega,fun h=>by omega⟩
 ·have t36:tget t' 36=.int .i64 2:=by simpa using t36
  cases hb:q2 x n s with
  | false =>
   rw [hb] at r109
   simp [mc127_l1,t35,t36,u4,u7,g4,g7,r109]
   exact hQ0 (by simp [fit_q,hb]) _ ⟨by simp [hk.k0],by simp [hk.k1],by simp [hk.k4],by simp [hk.k7],by simp [hk.k25],by simp [hk.k26],by simp [hk.k27]⟩
  | true =>
   rw [hb] at r109
   simp [mc127_l1,t35,t36,u4,u7,g4,g7,r109]
   exact ⟨⟨by simp [hk.k0],by simp [hk.k1],by simp [hk.k4],by simp [hk.k7],by simp [hk.k25],by simp [hk.k26],by simp [hk.k27]⟩,by decide,fun _=>z1 (by omega),fun _=>z2 (by omega),fun _=>hb,fun h=>by omega⟩
 ·have t36:tget t' 36=.int .i64 3:=by simpa using t36
  cases hb:q3 x n s with
  | false =>
   rw [hb] at r110
   simp [mc127_l1,t35,t36,u4,u7,g4,g7,r110]
   exact hQ0 (by simp [fit_q,hb]) _ ⟨by simp [hk.k0],by simp [hk.k1],by simp [hk.k4],by simp [hk.k7],by simp [hk.k25],by simp [hk.k26],by simp [hk.k27]⟩
  | true =>
   rw [hb] at r110
   simp [mc127_l1,t35,t36,u4,u7,g4,g7,r110]
   exact ⟨⟨by simp [hk.k0],by simp [hk.k1],by simp [hk.k4],by simp [hk.k7],by simp [hk.k25],by simp [hk.k26],by simp [hk.k27]⟩,by decide,fun _=>z1 (by omega),fun _=>z2 (by omega),fun _=>z3 (by omega),fun _=>hb⟩
 ·have t36:tget t' 36=.int .i64 4:=by simpa using t36
  have hf:fitB x n y s=true:=by rw [fit_q,z1 (by omega),z2 (by omega),z3 (by omega),z4 (by omega)]; rfl
  simp [mc127_l1,t35,t36]
  exact hQ1 hf _ ⟨by simp [hk.k0],by simp [hk.k1],by simp [hk.k4],by simp [hk.k7],by simp [hk.k25],by simp [hk.k26],by simp [hk.k27]⟩
 ·omega
structure In127 (we:AW) (L c6:Nat) (lp:ALoop) (s:Stg) (w:AW):Prop where
 lo:w.heap.get L=some (.loop lp)
 cur:w.heap.get c6=some (.cells (stgC s) 174 false)
 old:∀ x,x < we.next→x ≠ L→x ≠ c6→w.heap.get x=we.heap.get x
 next:we.next≤w.next
 lim:w.lim=we.lim
theorem In127.up {we:AW} {L c6:Nat} {lp:ALoop} {s:Stg} {w w':AW} (h:In127 we L c6 lp s w) (hL:L < we.next) (hc:c6 < we.next) (u:Up w w'):In127 we L c6 lp s w' :=
 ⟨by rw [u.at (by have:=h.next; omega)]; exact h.lo,by rw [u.at (by have:=h.next; omega)]; exact h.cur,fun x h1 h2 h3=>by rw [u.at (by have:=h.next; omega)]; exact h.old x h1 h2 h3,Nat.le_trans h.next u.next,by rw [u.lim,h.lim]⟩
def StepA (ov:Ov) (m L c6:Nat) (we:AW) (a:Int) (s:Stg) (lp lq:ALoop):Prop :=
 ∀ (s':Stg) (w:AW),In127 we L c6 lp s w→∃ w',yieldA (run Tryd.prog ov m) L [.agg ⟨stgC s'⟩] w=.val (!decide (s'.last=a)) w'∧In127 we L c6 (if s'.last=a then lq else lp) (if s'.last=a then s' else s) w'
def actAt (r:List CAct) (a:Int):Option CAct:=if 0≤a then r[a.toNat]? else none
set_option maxHeartbeats 1000000 in
theorem loop127 {ov:Ov} (m L c6:Nat) (ho99:∀ args w,ov 128 args w=none) (h100:HasP ov 129 S129.F) (h107:HasP ov 142 S142.F) (h108:HasP ov 143 S143.F) (h109:HasP ov 144 S144.F) (h110:HasP ov 145 S145.F) (r:List CAct) (hR:ruleB r=true) (y:CDay) (s:Stg) (hs:FineS s) (a:Int) (w0 we:AW) (u0:Up w0 we) (hL:w0.next≤L∧L < we.next) (hc6:w0.next≤c6∧c6 < we.next) (rv:Value) (hrv:RowsV actC w0 rv r)
  (n1 n4:Nat) (hn1:n1 < we.next∧n1 ≠ L∧n1 ≠ c6) (hn4:n4 < we.next∧n4 ≠ L∧n4 ≠ c6) (g1:we.heap.get n1=some (.cells (stgC s) 174 false)) (g4:we.heap.get n4=some (.cells (dayC y s) 239 false)) (hlim:we.lim≤we.next) (sc:Stg) (lp lq:ALoop) (hst:StepA ov (m + 1) L c6 we a sc lp lq)
  (Q:Ex→Tm→AW→Prop) (t:Tm) (w:AW) (hw:In127 we L c6 lp sc w) (t0:tget t 0=.func (.yield L) ⟨[]⟩ ⟨[]⟩) (t1:tget t 1=.pointer (some ⟨n1,0,none⟩)) (t4:tget t 4=.pointer (some ⟨n4,0,none⟩)) (t25:tget t 25=rv) (t26:tget t 26=.int .i64 (r.length:Nat)) (t27:tget t 27=.int .i64 0)
  (hno:∀ t w,In127 we L c6 lp sc w→(∀ x,actAt r a=some x→fitB x a y s=false)→Q (.exit 0) t w)
  (hyes:∀ t w x,actAt r a=some x→fitB x a y s=true→In127 we L c6 lq (withS s x a) w→Q .ret t w):wp (exY Tryd.prog (run Tryd.prog ov (m + 1)) (.loop mc127_l0) t w) Q:=by
 have hrl:=rule_len hR
 refine wp_roundsY (fun i t w=>In127 we L c6 lp sc w∧tget t 0=.func (.yield L) ⟨[]⟩ ⟨[]⟩∧tget t 1=.pointer (some ⟨n1,0,none⟩)∧tget t 4=.pointer (some ⟨n4,0,none⟩)∧tget t 25=rv∧tget t 26=.int .i64 (r.length:Nat)∧tget t 27=.int .i64 (i:Nat)∧i≤r.length∧∀ j x,j < i→r[j]?=some x→(j:Int)=a→fitB x a y s=false) 20 (by decide) ⟨hw,t0,t1,t4,t25,t26,by simpa using t27,by omega,fun j x h=>by omega⟩ ?_
 clear t0 t1 t4 t25 t26 t27 hw
 rintro i t w ⟨hw,t0,t1,t4,t25,t26,t27,hi,hnf⟩
 by_cases hlt:i < r.length
 ·obtain ⟨x,hx⟩:∃ p,r[i]?=some p:=⟨_,List.getElem?_eq_getElem hlt⟩
  have hfa:=fineA_of hR hx
  obtain ⟨b,off,sq,c,rfl,hra⟩:=hrv.at_ i hlt
  have hb:=hra.2
  have hnx:=hw.next
  have hun:=u0.next
  have hlm:=hw.lim
  have hld:=hra.rd actC_length hx
  rw [← u0.at hb,← hw.old b (by omega) (by omega) (by omega)] at hld
  have hia:=fun w=>ia58 w ⟨b,off,sq⟩ r.length c .i64 i hlt
  have hw1:IntKind.wrap .i64 ((i:Int) + 1)=(i:Int) + 1:=wrap64_in (by omega) (by omega)
  obtain ⟨x,rfl⟩:∃ x',x=x':=⟨_,rfl⟩
  have lw:w.lim≤w.next:=by omega
  have lw1:w.lim≤w.next + 1:=by omega
  obtain ⟨cs,hcs⟩:∃ cs,cs=actC x:=⟨_,rfl⟩
  simp only [actC] at hld
  obtain ⟨_,w3,c99,rfl,u3⟩:=call128 (ov:=ov) m ho99 ⟨(((w.heap.put w.next (some (.cells [.int .i64 0,.int .i64 0,.bool false,.bool false,.int .i64 0,.int .i64 0,.int .i64 0] 77 false))).put w.next (some (.cells [.int .i64 x.warm,.int .i64 x.behind,.bool x.dry,.bool x.first,.int .i64 x.most,.int .i64 x.ll,.int .i64 x.lh] 77 false))).put (w.next + 1) (some (.cells [.int .i64 0,.int .i64 0,.bool false,.bool false,.int .i64 0,.int .i64 0,.int .i64 0,.int .i64 0] 241 false))).put (w.next + 1) (some (.cells [.int .i64 x.warm,.int .i64 x.behind,.bool x.dry,.bool x.first,.int .i64 x.most,.int .i64 x.ll,.int .i64 x.lh,.int .i64 (i:Nat)] 241 false)),w.next + 1 + 1,w.lim⟩ (by show w.lim≤w.next + 1 + 1; omega)
  have u2:Up w w3:=Up.trans (((((Up.refl w).add _).put (Nat.le_refl _) (Nat.le_refl _)).add _).put (by show w.next≤w.next + 1; omega) (Nat.le_refl _)) u3
  have hI3:=hw.up hL.2 hc6.2 u2
  have g7:w3.heap.get (w.next + 1)=some (.cells (numC x i) 241 false):=by
   rw [u3.at (by show w.next + 1 < w.next + 1 + 1; omega)]
   show (((((w.heap.put _ _).put _ _).put _ _).put _ _).get _)=_
   rw [get_put,if_pos rfl]; rfl
  have hn3:=hI3.next
  have hl3:=hI3.lim
  have g43:w3.heap.get n4=some (.cells (dayC y s) 239 false):=by rw [hI3.old n4 hn4.1 hn4.2.1 hn4.2.2]; exact g4
  have g13:w3.heap.get n1=some (.cells (stgC s) 174 false):=by rw [hI3.old n1 hn1.1 hn1.2.1 hn1.2.2]; exact g1
  simp [mc127_l0,t0,t1,t4,t25,t26,t27,hlt,hia,hld,lw,lw1,c99]
  generalize hTT:tset _ 36 _=TT
  have v0:tget TT 0=.func (.yield L) ⟨[]⟩ ⟨[]⟩:=by rw [← hTT]; simp [t0]
  have v1:tget TT 1=.pointer (some ⟨n1,0,none⟩):=by rw [← hTT]; simp [t1]
  have v4:tget TT 4=.pointer (some ⟨n4,0,none⟩):=by rw [← hTT]; simp [t4]
  have v7:tget TT 7=.pointer (some ⟨w.next + 1,0,none⟩):=by rw [← hTT]; simp
  have v25:tget TT 25=.slice (some ⟨b,off,sq⟩) r.length c:=by rw [← hTT]; simp [t25]
  have v26:tget TT 26=.int .i64 (r.length:Nat):=by rw [← hTT]; simp [t26]
  have v27:tget TT 27=.int .i64 (i:Nat):=by rw [← hTT]; simp [t27]
  have v35:tget TT 35=.agg ⟨[funQ 142,funQ 143,funQ 144,funQ 145]⟩:=by rw [← hTT]; simp
  have v36:tget TT 36=.int .i64 0:=by rw [← hTT]; simp
  clear hTT
  refine wp_seqX (wp_blockX (wp_seqX (wp_blockX (inner98 m h107 h108 h109 h110 x (i:Nat) y s hs n4 (w.next + 1) _ TT w3 g43 g7 v4 v7 v35 v36 ?_ ?_))))
  ·intro hf t' hk
   simp [hk.k0,hk.k1,hk.k4,hk.k25,hk.k26,hk.k27,v0,v1,v4,v25,v26,v27,hw1]
   refine ⟨by omega,hI3,hlt,fun j z hj hz e=>?_⟩
   by_cases hji:j=i
   ·subst hji
    rw [hx] at hz; cases hz
    rw [← e]; exact hf
   ·exact hnf j z (by omega) hz e
  ·intro hf t' hk
   have r100:=S129.call (P:=Tryd.prog) h100 (m:=m) (w:=w3) ⟨s,x,(i:Nat),rfl,hs,hfa,by omega,rfl⟩
   obtain ⟨w4,hy,hI4⟩:=hst (withS s x (i:Nat)) w3 hI3
   have e:(withS s x (i:Nat)).last=(i:Int):=rfl
   rw [e] at hy hI4
   have k0:=hk.k0; have k1:=hk.k1; have k7:=hk.k7
   rw [v0] at k0; rw [v1] at k1; rw [v7] at k7
   have g73:=g7
   simp only [numC] at g73 r100
   have g13':=g13
   generalize hS:stgC (withS s x (i:Nat))=SS at r100 hy
   simp only [stgC] at g13' r100
   by_cases ha:(i:Int)=a
   ·simp only [ha,if_true] at hI4
    have e2:actAt r a=some x:=by
     unfold actAt; rw [if_pos (by omega),show a.toNat=i by omega]; exact hx
    simp only [decide_eq_true ha] at hy
    simp [k0,k1,k7,g13',g73,r100,hy]
    exact hyes _ _ x e2 (by rw [← ha]; exact hf) (by rw [← ha] at hI4 ⊢; exact hI4)
   ·rw [if_neg ha,if_neg ha] at hI4
    simp only [decide_eq_false ha] at hy
    simp [k0,k1,k7,g13',g73,r100,hy,hk.k4,hk.k25,hk.k26,hk.k27,v4,v25,v26,v27,hw1]
    refine ⟨by omega,hI4,hlt,fun j z hj hz e3=>?_⟩
    by_cases hji:j=i
    ·subst hji; exact absurd e3 ha
    ·exact hnf j z (by omega) hz e3
 ·have hi':i=r.length:=by omega
  subst hi'
  simp [mc127_l0,t26,t27]
  refine hno _ _ hw fun x hx=>?_
  unfold actAt at hx
  by_cases h0:0≤a
  ·rw [if_pos h0] at hx
   exact hnf a.toNat x (List.getElem?_eq_some_iff.1 hx).1 hx (by omega)
  ·rw [if_neg h0] at hx; cases hx
theorem In127.down {we we1:AW} {L c6:Nat} {lp:ALoop} {s:Stg} {w:AW} (h:In127 we1 L c6 lp s w) (u:Up we we1):In127 we L c6 lp s w :=
 ⟨h.lo,h.cur,fun x h1 h2 h3=>by rw [h.old x (by have:=u.next; omega) h2 h3,u.at h1],Nat.le_trans u.next h.next,by rw [h.lim,u.lim]⟩
theorem next_some {r:List CAct} {d:List CDay} {s:Stg} {a:Int} {x:CAct} {y:CDay} (hd:d[s.done.toNat]?=some y) (hx:actAt r a=some x) (hf:fitB x a y s=true):nextS r d s a=some (withS s x a):=by
 unfold actAt at hx
 unfold nextS
 rw [hd,hx]; simp [hf]
theorem next_none {r:List CAct} {d:List CDay} {s:Stg} {a:Int} {y:CDay} (hd:d[s.done.toNat]?=some y) (h:∀ x,actAt r a=some x→fitB x a y s=false):nextS r d s a=none:=by
 unfold nextS
 rw [hd]
 unfold actAt at h
 cases hx:(if 0≤a then r[a.toNat]? else none) with
 | none=>rfl
 | some x=>simp [h x hx]
set_option maxHeartbeats 1000000 in
theorem call127 {ov:Ov} (m L c6:Nat) (ho:∀ args w,ov 127 args w=none) (ho99:∀ args w,ov 128 args w=none) (h100:HasP ov 129 S129.F) (h107:HasP ov 142 S142.F) (h108:HasP ov 143 S143.F) (h109:HasP ov 144 S144.F) (h110:HasP ov 145 S145.F) (r:List CAct) (d:List CDay) (hR:ruleB r=true) (s:Stg) (hs:FineS s) (k:Nat) (hk:s.done=(k:Nat)) (hkd:k≤d.length) (a:Int) (w0 we:AW) (u0:Up w0 we) (hL:w0.next≤L∧L < we.next) (hc6:w0.next≤c6∧c6 < we.next) (rv dv:Value) (hrv:RowsV actC w0 rv r) (hdv:RowsV cdayC w0 dv d)
  (n1 n2:Nat) (hn1:n1 < we.next∧n1 ≠ L∧n1 ≠ c6) (hn2:n2 < we.next∧n2 ≠ L∧n2 ≠ c6) (g1:we.heap.get n1=some (.cells (stgC s) 174 false)) (g2:we.heap.get n2=some (.cells [rv,dv] 171 false)) (hlim:we.lim≤we.next) (sc:Stg) (lp lq:ALoop) (hlo:we.heap.get L=some (.loop lp)) (hcur:we.heap.get c6=some (.cells (stgC sc) 174 false)) (hst:∀ w1,Up we w1→StepA ov (m + 1) L c6 w1 a sc lp lq) :
  ∃ v w',(run Tryd.prog ov (m + 2)).call 127 [.func (.yield L) ⟨[]⟩ ⟨[]⟩,.pointer (some ⟨n1,0,none⟩),.pointer (some ⟨n2,0,none⟩)] we .none=.ok (.ret v) w' .none∧(match nextS r d s a with | some s'=>In127 we L c6 lq s' w' | none=>In127 we L c6 lp sc w'):=by
 refine call_wpY text127 (by simp) (ho _ _) ?_
 have hl1:=fun w2=>len58V (w':=w2) hrv
 have hl2:=fun w2=>len59V (w':=w2) hdv
 have hIe:In127 we L c6 lp sc we:=⟨hlo,hcur,fun _ _ _ _=>rfl,Nat.le_refl _,rfl⟩
 have g1':=g1
 simp only [stgC,hk] at g1'
 by_cases hlt:k < d.length
 ·obtain ⟨y,hy⟩:∃ p,d[k]?=some p:=⟨_,List.getElem?_eq_getElem hlt⟩
  have hy':d[s.done.toNat]?=some y:=by rw [hk]; simpa using hy
  obtain ⟨b,off,sq,c,rfl,hra⟩:=hdv.at_ k hlt
  have hb:=hra.2
  have hun:=u0.next
  have hld:=hra.rd cdayC_length hy
  rw [← u0.at hb] at hld
  have hia:=fun w=>ia59 w ⟨b,off,sq⟩ d.length c .i64 k hlt
  have e1:¬ (k:Int)=d.length:=by omega
  have e2:¬ k=d.length:=by omega
  have ne1:¬ n1=we.next:=by omega
  have ne2:¬ n2=we.next:=by omega
  have neb:¬ b=we.next:=by omega
  have nj:sameVal 5 rv rv=true∧notJunk rv=some rv:=by
   obtain ⟨p,q,rfl⟩:=hrv.len
   exact ⟨same_slice _ _ _,rfl⟩
  have sm1:sameVal 5 (.agg ⟨[.int .i64 (k:Nat),.int .i64 s.last,.int .i64 s.row,.int .i64 s.lo,.int .i64 s.hi]⟩) (.agg ⟨[.int .i64 (k:Nat),.int .i64 s.last,.int .i64 s.row,.int .i64 s.lo,.int .i64 s.hi]⟩)=true:=same_agg _ (by
   intro v hv
   simp only [List.mem_cons,List.not_mem_nil,or_false] at hv
   rcases hv with rfl | rfl | rfl | rfl | rfl <;> exact sameN_int _ _ _)
  have sm2:sameVal 5 (.agg ⟨[.int .i64 y.wl,.int .i64 y.wh,.bool y.rain]⟩) (.agg ⟨[.int .i64 y.wl,.int .i64 y.wh,.bool y.rain]⟩)=true:=same_agg _ (by
   intro v hv
   simp only [List.mem_cons,List.not_mem_nil,or_false] at hv
   rcases hv with rfl | rfl | rfl
   ·exact sameN_int _ _ _
   ·exact sameN_int _ _ _
   ·cases y.rain <;> rfl)
  simp only [cdayC] at hld
  have u1:Up we ⟨(we.heap.put we.next (some (.cells [.int .i64 0,.int .i64 0,.bool false,.int .i64 0,.int .i64 0,.int .i64 0,.int .i64 0,.int .i64 0] 239 false))).put we.next (some (.cells [.int .i64 y.wl,.int .i64 y.wh,.bool y.rain,.int .i64 (k:Nat),.int .i64 s.last,.int .i64 s.row,.int .i64 s.lo,.int .i64 s.hi] 239 false)),we.next + 1,we.lim⟩:=((Up.refl we).add _).put (Nat.le_refl _) (Nat.le_refl _)
  have gd:(⟨(we.heap.put we.next (some (.cells [.int .i64 0,.int .i64 0,.bool false,.int .i64 0,.int .i64 0,.int .i64 0,.int .i64 0,.int .i64 0] 239 false))).put we.next (some (.cells [.int .i64 y.wl,.int .i64 y.wh,.bool y.rain,.int .i64 (k:Nat),.int .i64 s.last,.int .i64 s.row,.int .i64 s.lo,.int .i64 s.hi] 239 false)),we.next + 1,we.lim⟩:AW).heap.get we.next=some (.cells (dayC y s) 239 false):=by
   show ((we.heap.put _ _).put _ _).get _=_
   rw [get_put,if_pos rfl,dayC,hk]
  have hIu:=hIe.up hL.2 hc6.2 u1
  have hIu':=hIu
  simp [mc127,g1',g2,hl1,hl2,e1,e2,hia,hld,ne1,ne2,neb,nj.1,sm1,sm2,hlim]
  refine wp_blockX (loop127 m L c6 ho99 h100 h107 h108 h109 h110 r hR y s hs a w0 _ (u0.trans u1) ⟨hL.1,by show L < we.next + 1; omega⟩ ⟨hc6.1,by show c6 < we.next + 1; omega⟩ rv hrv n1 we.next ⟨by show n1 < we.next + 1; omega,hn1.2⟩ ⟨Nat.lt_succ_self _,by omega,by omega⟩ (by rw [u1.at hn1.1]; exact g1) gd (by show we.lim≤we.next + 1; omega) sc lp lq (hst _ u1) _ _ _ ⟨hIu.lo,hIu.cur,fun _ _ _ _=>rfl,Nat.le_refl _,rfl⟩ ?_ ?_ ?_ ?_ ?_ ?_ ?_ ?_)
  case _=>simp
  case _=>simp
  case _=>simp
  case _=>simp
  case _=>simp
  case _=>simp
  case _ =>
   intro t w hw hn
   have e:=next_none hy' hn
   have hw':=hw.down u1
   simpa [tupV,e] using hw'
  case _ =>
   intro t w x hx hf hw
   have e:=next_some hy' hx hf
   have hw':=hw.down u1
   simpa [tupV,e] using hw'
 ·have hkl:k=d.length:=by omega
  have e:nextS r d s a=none:=by
   unfold nextS
   rw [hk]; simp [hkl]
  simp [mc127,g1',g2,hl1,hl2,hkl,e,tupV]
  exact hIe
@[simp] theorem setParC_cons (p:Tmp) (ps:List Tmp) (a:Value) (l:List Value) (t:Tm):setParams (p::ps) (a::l) t=setParams ps l (tset t p a):=rfl
@[simp] theorem setParC_nil (t:Tm):setParams [] [] t=t:=rfl
theorem steps74 {ov:Ov} (m L c6 c8:Nat) (TT:Tm) (t6:tget TT 6=.pointer (some ⟨c6,0,none⟩)) (t8:tget TT 8=.pointer (some ⟨c8,0,none⟩)) (a:Int) (s:Stg) (we:AW) (hL:L < we.next) (hc6:c6 < we.next) (hc8:c8 < we.next) (n1:c6 ≠ L) (n2:c8 ≠ L) (n3:c8 ≠ c6) (g8:we.heap.get c8=some (.cells [.int .i64 a] 3 false)) (l1:we.lim≤c6) (l2:we.lim≤L) :
  StepA ov (m + 1) L c6 we a s ⟨29,TT,[20],(rfOf Tryd.prog 74 0).1,(rfOf Tryd.prog 74 0).2,none,.ready⟩ ⟨29,TT,[20],(rfOf Tryd.prog 74 0).1,(rfOf Tryd.prog 74 0).2,some (.exit 1),.done⟩:=by
 intro s' w hw
 have hlo:=hw.lo
 have hnx:=hw.next
 have hlm:=hw.lim
 have g8w:w.heap.get c8=some (.cells [.int .i64 a] 3 false):=by rw [hw.old c8 hc8 n2 n3]; exact g8
 have hcur:=hw.cur
 have e1:¬ L=w.next:=by omega
 have e2:¬ c6=w.next:=by omega
 have e3:¬ c8=w.next:=by omega
 have e1':¬ w.next=L:=by omega
 have e2':¬ w.next=c6:=by omega
 have l1':w.lim≤c6:=by omega
 have l2':w.lim≤L:=by omega
 have l3:w.lim≤w.next:=by omega
 have n1':=Ne.symm n1
 have n2':=Ne.symm n2
 simp only [stgC] at hcur
 obtain ⟨C,hC⟩:∃ C:AObj,C=.cells [.int .i64 s'.done,.int .i64 s'.last,.int .i64 s'.row,.int .i64 s'.lo,.int .i64 s'.hi] 174 false:=⟨_,rfl⟩
 obtain ⟨j,w',hy,hQ⟩:=yield_wp (P:=Tryd.prog) (ov:=ov) (m:=m) (l:=L) (args:=[.agg ⟨stgC s'⟩]) (w:=w) (Q:=fun j w'=>j=(if s'.last=a then some (.exit 1) else none)∧w'=if s'.last=a then ⟨((((w.heap.put w.next (some (.cells [.int .i64 0,.int .i64 0,.int .i64 0,.int .i64 0,.int .i64 0] 174 false))).put w.next (some C)).put L (some (.loop ⟨29,TT,[20],(rfOf Tryd.prog 74 0).1,(rfOf Tryd.prog 74 0).2,none,.busy⟩))).put c6 (some C)).put L (some (.loop ⟨29,TT,[20],(rfOf Tryd.prog 74 0).1,(rfOf Tryd.prog 74 0).2,some (.exit 1),.done⟩)),w.next + 1,w.lim⟩ else ⟨(((w.heap.put w.next (some (.cells [.int .i64 0,.int .i64 0,.int .i64 0,.int .i64 0,.int .i64 0] 174 false))).put w.next (some C)).put L (some (.loop ⟨29,TT,[20],(rfOf Tryd.prog 74 0).1,(rfOf Tryd.prog 74 0).2,none,.busy⟩))).put L (some (.loop ⟨29,TT,[20],(rfOf Tryd.prog 74 0).1,(rfOf Tryd.prog 74 0).2,none,.ready⟩)),w.next + 1,w.lim⟩) hlo rfl rfl ta74_0 tb74_0 (by
  rw [hC]
  simp only [stgC]
  by_cases hm:s'.last=a
  ·simp [mc74_a0,mc74_b0,hlo,jumpOf,t6,t8,g8w,hcur,e1,e2,e3,e1',e2',l1',l2',l3,n1,n2,n3,n1',n2',hm]
  ·simp [mc74_a0,mc74_b0,hlo,jumpOf,t6,t8,g8w,hcur,e1,e2,e3,e1',e2',l1',l2',l3,n1,n2,n3,n1',n2',hm])
 obtain ⟨rfl,hw'⟩:=hQ
 have hd:(if s'.last=a then some (Code.exit 1) else none).isNone=!decide (s'.last=a):=by by_cases hm:s'.last=a <;> simp [hm]
 rw [hd] at hy
 refine ⟨w',hy,?_⟩
 subst hw'
 by_cases hm:s'.last=a
 ·simp only [if_pos hm]
  refine ⟨?_,?_,fun x h1 h2 h3=>?_,by show we.next≤w.next + 1; omega,hlm⟩
  ·show (((((w.heap.put _ _).put _ _).put _ _).put _ _).put _ _).get L=_
   rw [get_put,if_pos rfl]
  ·show (((((w.heap.put _ _).put _ _).put _ _).put _ _).put _ _).get c6=_
   rw [get_put,if_neg n1,get_put,if_pos rfl,hC]; rfl
  ·show (((((w.heap.put _ _).put _ _).put _ _).put _ _).put _ _).get x=_
   rw [get_put,if_neg h2,get_put,if_neg h3,get_put,if_neg h2,get_put,if_neg (by omega),get_put,if_neg (by omega)]
   exact hw.old x h1 h2 h3
 ·simp only [if_neg hm]
  refine ⟨?_,?_,fun x h1 h2 h3=>?_,by show we.next≤w.next + 1; omega,hlm⟩
  ·show ((((w.heap.put _ _).put _ _).put _ _).put _ _).get L=_
   rw [get_put,if_pos rfl]
  ·show ((((w.heap.put _ _).put _ _).put _ _).put _ _).get c6=_
   rw [get_put,if_neg n1,get_put,if_neg n1,get_put,if_neg e2,get_put,if_neg e2]
   exact hw.cur
  ·show ((((w.heap.put _ _).put _ _).put _ _).put _ _).get x=_
   rw [get_put,if_neg h2,get_put,if_neg h2,get_put,if_neg (by omega),get_put,if_neg (by omega)]
   exact hw.old x h1 h2 h3
structure In74 (w0:AW) (rv dv:Value) (s:Stg) (w:AW):Prop where
 up:Up w0 w
 b2:w.heap.get w0.next=some (.cells [rv,dv] 171 false)
 b4:w.heap.get (w0.next + 1)=some (.cells [.int .i64 0,.int .i64 0,.int .i64 0,.int .i64 0,.int .i64 0] 174 false)
 b6:w.heap.get (w0.next + 1 + 1)=some (.cells (stgC s) 174 false)
 next:w0.next + 3≤w.next
def stgR:Option Stg→Value
 | some s=>.tuple ⟨[.agg ⟨stgC s⟩,.bool true]⟩
 | none=>.tuple ⟨[.agg ⟨stgC ⟨0,0,0,0,0⟩⟩,.bool false]⟩
@[simp] theorem cfn98 (w:AW) (l:List Value):callFn Tryd.prog w 127 l=.enter 127 l w:=callFn_of (by kernel_rfl) l
set_option maxHeartbeats 1000000 in
theorem run74 {ov:Ov} (ho:∀ args w,ov 74 args w=none) (ho79:∀ args w,ov 106 args w=none) (ho98:∀ args w,ov 127 args w=none) (ho99:∀ args w,ov 128 args w=none) (h78:HasP ov 107 S107.F) (h100:HasP ov 129 S129.F) (h107:HasP ov 142 S142.F) (h108:HasP ov 143 S143.F) (h109:HasP ov 144 S144.F) (h110:HasP ov 145 S145.F) (r:List CAct) (d:List CDay) (hR:ruleB r=true) (hD:daysB d=true) (acts:List Int) (rv dv av:Value) (w0:AW) (hl:w0.lim=w0.next) (hrv:RowsV actC w0 rv r) (hdv:RowsV cdayC w0 dv d) (hav:RowsV intC w0 av acts) :
  ∃ x w',(run Tryd.prog ov 4).call 74 [.agg ⟨[rv,dv]⟩,av] w0 .none=.ok (.ret x) w' .none∧x=stgR (stgF r d startS acts):=by
 refine call_wpY text74 (by simp) (ho _ _) ?_
 have hl1:=fun w2=>len68V (w':=w2) hav
 have hdl:=days_len hD
 have lw:w0.lim≤w0.next:=by omega
 have lw2:w0.lim≤w0.next + 1 + 1:=by omega
 have r78:=fun w hw=>S107.call (P:=Tryd.prog) h78 (m:=2) (w:=w) ⟨rfl,hw,rfl⟩
 have r78':=r78 ⟨(w0.heap.put w0.next (some (.cells [rv,dv] 171 false))).put (w0.next + 1) (some (.cells [.int .i64 0,.int .i64 0,.int .i64 0,.int .i64 0,.int .i64 0] 174 false)),w0.next + 1 + 1,w0.lim⟩ lw2
 simp only [stgC,startS] at r78'
 simp [mc74,cellsOf_agg,r78',lw2,hl1]
 refine wp_seqX (wp_blockX (wp_roundsY (fun i t w=>∃ s,In74 w0 rv dv s w∧stgF r d startS (acts.take i)=some s∧tget t 2=.pointer (some ⟨w0.next,0,none⟩)∧tget t 4=.pointer (some ⟨w0.next + 1,0,none⟩)∧tget t 6=.pointer (some ⟨w0.next + 1 + 1,0,none⟩)∧tget t 11=av∧tget t 12=.int .i64 (acts.length:Nat)∧tget t 13=.int .i64 (i:Nat)∧i≤acts.length) 20 (by decide) ?_ ?_))
 ·refine ⟨startS,⟨((((Up.refl w0).add _).put (by omega) (Nat.le_succ _)).put (by omega) (Nat.le_succ _)).put (by omega) (Nat.le_refl _),by simp,by simp,by simp [stgC,startS],by show w0.next + 3≤w0.next + 1 + 1 + 1; omega⟩,by simp [stgF],by simp,by simp,by simp,by simp,by simp,by simp,by omega⟩
 ·rintro i t w ⟨s,hw,hs,t2,t4,t6,t11,t12,t13,hi⟩
  have hsn:=stg_can (d:=d) hR acts i hi
  obtain ⟨hok⟩:Nonempty (StOk r (acts.take i) s):=by
   rcases hsn with ⟨h1,_⟩ | ⟨s',h1,_,h3⟩
   ·rw [hs] at h1; cases h1
   ·rw [hs] at h1; cases h1; exact ⟨h3⟩
  have hid:i≤d.length:=by
   have:=stg_len hR hs
   rw [List.length_take,Nat.min_eq_left hi] at this; exact this
  have hf:FineS s:=fine_of hok (by rw [List.length_take]; omega)
  have hdone:s.done=(i:Nat):=by rw [hok.done,List.length_take,Nat.min_eq_left hi]
  have hup:=hw.up
  have hnx:=hw.next
  have hlm:w.lim=w0.lim:=hup.lim
  have hb2:=hw.b2; have hb4:=hw.b4; have hb6:=hw.b6
  by_cases hlt:i < acts.length
  ·obtain ⟨a,ha⟩:∃ p,acts[i]?=some p:=⟨_,List.getElem?_eq_getElem hlt⟩
   obtain ⟨b,off,sq,c,rfl,hra⟩:=hav.at_ i hlt
   have hld:=hra.int ha
   rw [← hup.at hra.2] at hld
   have hia:=fun w=>ia27 w ⟨b,off,sq⟩ acts.length c .i64 i hlt
   simp only [Nat.mul_one] at hia
   have hw1:IntKind.wrap .i64 ((i:Int) + 1)=(i:Int) + 1:=wrap64_in (by omega) (by omega)
   have q1:w.lim≤w.next:=by omega
   have q2:¬ w0.next=w.next:=by omega
   have q3:¬ w0.next + 1=w.next:=by omega
   have q4:¬ w0.next + 1 + 1=w.next:=by omega
   obtain ⟨_,_,c79,rfl,rfl⟩:=call106 (ov:=ov) 2 ho79 rv dv s ⟨(w.heap.put w.next (some (.cells [.int .i64 0] 3 false))).put w.next (some (.cells [.int .i64 a] 3 false)),w.next + 1,w.lim⟩
   have hts:acts.take (i + 1)=acts.take i++[a]:=take_snoc ha
   have hstep:stgF r d startS (acts.take (i + 1))=nextS r d s a:=by rw [hts,stgF_snoc,hs]
   simp only [stgC] at hb6 c79
   simp only [Nat.reduceAdd] at c79
   simp [mc74_l0,t2,t4,t6,t11,t12,t13,hlt,hia,hld,q1,q2,q3,q4,hb2,hb6,c79]
   obtain ⟨H,hH⟩:∃ H,H=(((w.heap.put w.next (some (.cells [.int .i64 0] 3 false))).put w.next (some (.cells [.int .i64 a] 3 false))).put (w.next + 1) (some (.cells [rv,dv] 171 false))).put (w.next + 1 + 1) (some (.cells [.int .i64 s.done,.int .i64 s.last,.int .i64 s.row,.int .i64 s.lo,.int .i64 s.hi] 174 false)):=⟨_,rfl⟩
   rw [← hH]
   have u2:Up w ⟨H,w.next + 1 + 2,w.lim⟩:=by
    rw [hH]
    exact ((((Up.refl w).add _).put (Nat.le_refl _) (Nat.le_refl _)).put (n':=w.next + 1 + 1) (Nat.le_succ _) (Nat.le_succ _)).put (by show w.next≤w.next + 1 + 1; omega) (Nat.le_succ _)
   have gH8:H.get w.next=some (.cells [.int .i64 a] 3 false):=by rw [hH,get_put,if_neg (by omega),get_put,if_neg (by omega),get_put,if_pos rfl]
   have gH1:H.get (w.next + 1 + 1)=some (.cells (stgC s) 174 false):=by rw [hH,get_put,if_pos rfl]; rfl
   have gH2:H.get (w.next + 1)=some (.cells [rv,dv] 171 false):=by rw [hH,get_put,if_neg (by omega),get_put,if_pos rfl]
   clear hH
   refine wp_seqX (wp_blockX (wp_seqX (wp_blockX (rf_wp (g:=127) (gargs:=[.func (.yield (w.next + 1 + 2)) ⟨[]⟩ ⟨[]⟩,.pointer (some ⟨w.next + 1 + 1,0,none⟩),.pointer (some ⟨w.next + 1,0,none⟩)]) ?_ ?_))))
   ·simp [fun98,callV_func]
   ·generalize hTT:tset _ 19 _=TT
    have v2:tget TT 2=.pointer (some ⟨w0.next,0,none⟩):=by rw [← hTT]; simp [t2]
    have v4:tget TT 4=.pointer (some ⟨w0.next + 1,0,none⟩):=by rw [← hTT]; simp [t4]
    have v6:tget TT 6=.pointer (some ⟨w0.next + 1 + 1,0,none⟩):=by rw [← hTT]; simp [t6]
    have v8:tget TT 8=.pointer (some ⟨w.next,0,none⟩):=by rw [← hTT]; simp
    have v11:tget TT 11=.slice (some ⟨b,off,sq⟩) acts.length c:=by rw [← hTT]; simp [t11]
    have v12:tget TT 12=.int .i64 (acts.length:Nat):=by rw [← hTT]; simp [t12]
    have v13:tget TT 13=.int .i64 (i:Nat):=by rw [← hTT]; simp [t13]
    clear hTT
    obtain ⟨lp,hlp⟩:∃ lp:ALoop,lp=⟨29,TT,[20],(rfOf Tryd.prog 74 0).1,(rfOf Tryd.prog 74 0).2,none,.ready⟩:=⟨_,rfl⟩
    obtain ⟨lq,hlq⟩:∃ lp:ALoop,lp=⟨29,TT,[20],(rfOf Tryd.prog 74 0).1,(rfOf Tryd.prog 74 0).2,some (.exit 1),.done⟩:=⟨_,rfl⟩
    rw [← hlp]
    have hwe:∀ x,x < w.next + 1 + 2→(H.put (w.next + 1 + 2) (some (.loop lp))).get x=H.get x:=fun x hx=>by rw [get_put,if_neg (by omega)]
    have u3:Up w ⟨H.put (w.next + 1 + 2) (some (.loop lp)),w.next + 1 + 2 + 1,w.lim⟩:=u2.add _
    have hb6':w.heap.get (w0.next + 1 + 1)=some (.cells (stgC s) 174 false):=hw.b6
    obtain ⟨v9,w2,hc98,hI⟩:=call127 1 (w.next + 1 + 2) (w0.next + 1 + 1) ho98 ho99 h100 h107 h108 h109 h110 r d hR s hf i hdone hid a w0 _ (hup.trans u3) ⟨by omega,by show w.next + 1 + 2 < w.next + 1 + 2 + 1; omega⟩ ⟨by omega,by show w0.next + 1 + 1 < w.next + 1 + 2 + 1; omega⟩ rv dv hrv hdv (w.next + 1 + 1) (w.next + 1) ⟨by show w.next + 1 + 1 < w.next + 1 + 2 + 1; omega,by omega,by omega⟩ ⟨by show w.next + 1 < w.next + 1 + 2 + 1; omega,by omega,by omega⟩ (by show (H.put _ _).get _=_; rw [hwe _ (by omega)]; exact gH1) (by show (H.put _ _).get _=_; rw [hwe _ (by omega)]; exact gH2) (by show w.lim≤w.next + 1 + 2 + 1; omega) s lp lq (by show (H.put _ _).get _=_; rw [get_put,if_pos rfl]) (by rw [u3.at (by omega)]; exact hb6') (fun w1 u1=>by
     have h1:w.next + 1 + 2 + 1≤w1.next:=u1.next
     have h2:w1.lim=w.lim:=u1.lim
     rw [hlp,hlq]
     exact steps74 1 (w.next + 1 + 2) (w0.next + 1 + 1) w.next TT v6 v8 a s w1 (by omega) (by omega) (by omega) (by omega) (by omega) (by omega) (by rw [u1.at (by show w.next < w.next + 1 + 2 + 1; omega)]; show (H.put _ _).get _=_; rw [hwe _ (by omega)]; exact gH8) (by omega) (by omega))
    cases hns:nextS r d s a with
    | none =>
     rw [hns] at hI hstep
     have hn2:w.next + 1 + 2 + 1≤w2.next:=hI.next
     have hl2:w2.lim=w.lim:=hI.lim
     have hN:stgF r d startS acts=none:=by
      have:=stgF_none (bs:=acts.drop (i + 1)) hstep
      rwa [List.take_append_drop] at this
     refine ⟨v9,w2,hc98,lp,hI.lo,by rw [hlp]; rfl,by show w2.lim≤w.next + 1 + 2; omega,?_⟩
     have hp:lp.pending=none:=by rw [hlp]
     rw [hp]
     simp only
     generalize hH2:w2.heap.put (w.next + 1 + 2) _=H2
     have g4:H2.get (w0.next + 1)=some (.cells [.int .i64 0,.int .i64 0,.int .i64 0,.int .i64 0,.int .i64 0] 174 false):=by
      rw [← hH2,get_put,if_neg (by omega),hI.old _ (by show w0.next + 1 < w.next + 1 + 2 + 1; omega) (by omega) (by omega),u3.at (by omega)]; exact hb4
     have q5:w2.lim≤w0.next + 1:=by omega
     simp [v4,g4,q5,hN,stgR,stgC,tupV]
    | some s' =>
     rw [hns] at hI hstep
     have hn2:w.next + 1 + 2 + 1≤w2.next:=hI.next
     have hl2:w2.lim=w.lim:=hI.lim
     refine ⟨v9,w2,hc98,lq,hI.lo,by rw [hlq]; rfl,by show w2.lim≤w.next + 1 + 2; omega,?_⟩
     have hp:lq.pending=some (.exit 1):=by rw [hlq]
     rw [hp]
     simp only
     generalize hH2:w2.heap.put (w.next + 1 + 2) _=H2
     have hk:∀ x,x < w.next→x ≠ w0.next + 1 + 1→H2.get x=w.heap.get x:=fun x hx h=>by
      rw [← hH2,get_put,if_neg (by omega),hI.old _ (by show x < w.next + 1 + 2 + 1; omega) (by omega) h,u3.at hx]
     have g6:H2.get (w0.next + 1 + 1)=some (.cells (stgC s') 174 false):=by
      rw [← hH2,get_put,if_neg (by omega)]; exact hI.cur
     simp [v2,v4,v6,v11,v12,v13,hw1]
     refine ⟨by omega,s',⟨⟨fun x hx=>?_,by show w0.next≤w2.next; omega,by show w2.lim=w0.lim; omega⟩,?_,?_,g6,by show w0.next + 3≤w2.next; omega⟩,hstep,hlt⟩
     ·show H2.get x=_
      rw [hk x (by omega) (by omega)]; exact hup.old x hx
     ·show H2.get _=_
      rw [hk _ (by omega) (by omega)]; exact hb2
     ·show H2.get _=_
      rw [hk _ (by omega) (by omega)]; exact hb4
  ·have hi':i=acts.length:=by omega
   subst hi'
   rw [List.take_length] at hs
   have q5:w.lim≤w0.next + 1:=by omega
   have q6:¬ w0.next + 1=w0.next + 1 + 1:=by omega
   simp only [stgC] at hb6
   simp [mc74_l0,t2,t4,t6,t12,t13,hb4,hb6,q5,hs,stgR,stgC,tupV]
def S74:PSpec where
 R args w v:=∃ (rv dv av:Value) (r:List CAct) (d:List CDay) (acts:List Int),args=[.agg ⟨[rv,dv]⟩,av]∧RowsV actC w rv r∧RowsV cdayC w dv d∧RowsV intC w av acts∧ruleB r=true∧daysB d=true∧v=stgR (stgF r d startS acts)
 uniq:=by
  rintro _ _ _ _ ⟨_,_,_,r,d,acts,rfl,h1,h2,h3,_,_,rfl⟩ ⟨_,_,_,r',d',acts',h,k1,k2,k3,_,_,rfl⟩
  cases h
  rw [h1.uniq (m:=7) actC_length actC_inj k1,h2.uniq (m:=3) cdayC_length cdayC_inj k2,h3.uniq (m:=1) intC_length intC_inj k3]
 shut h:=h
def S71:PSpec where
 R args w v:=∃ (rv dv:Value) (r:List CAct) (d:List CDay) (b:CBox),args=[rv,dv,.agg ⟨boxC b⟩]∧RowsV actC w rv r∧RowsV cdayC w dv d∧LimW w∧v=.int .i64 (bxE r d b)
 uniq:=by
  rintro _ _ _ _ ⟨_,_,r,d,⟨_,_,_,_⟩,rfl,h1,h2,_,rfl⟩ ⟨_,_,r',d',⟨_,_,_,_⟩,h,k1,k2,_,rfl⟩
  cases h
  rw [h1.uniq (m:=7) actC_length actC_inj k1,h2.uniq (m:=3) cdayC_length cdayC_inj k2]
 shut h:=h
theorem run71 {ov:Ov} (ho:∀ args w,ov 71 args w=none) (h14:HasP ov 103 S103.F) (h94:HasP ov 104 S104.F) (r:List CAct) (d:List CDay) (b:CBox) (rv dv:Value) (w:AW) (hrv:RowsV actC w rv r) (hdv:RowsV cdayC w dv d) (hL:LimW w):∃ x w',(run Tryd.prog ov 2).call 71 [rv,dv,.agg ⟨boxC b⟩] w .none=.ok (.ret x) w' .none∧x=.int .i64 (bxE r d b):=by
 refine call_wp text71 (by simp) (ho _ _) ?_
 have u1:Up w ⟨w.heap.put w.next (some (.cells [.int .i64 b.wl,.int .i64 b.wh,.int .i64 b.sl,.int .i64 b.sh] 68 false)),w.next + 1,w.lim⟩:=(Up.refl w).add _
 have r14:=S103.call1 (P:=Tryd.prog) h14 ⟨rv,dv,r,d,rfl,hrv.up u1,hdv.up u1,hL.up u1,rfl⟩
 have r94:=S104.call1 (P:=Tryd.prog) h94 ⟨b,rfl,hL.up u1,rfl⟩
 simp only [boxC] at r94 ⊢
 by_cases hE:chkC r d=0
 ·rw [hE] at r14
  cases hB:boxB b <;> rw [hB] at r94 <;> simp [mc71,r14,r94,bxE,hE,hB,cellsOf_agg,tupV]
 ·simp [mc71,r14,bxE,hE,cellsOf_agg,tupV]
def S39:PSpec where
 R args w v:=∃ (rv dv av:Value) (r:List CAct) (d:List CDay) (b:CBox) (acts:List Int),args=[rv,dv,.agg ⟨boxC b⟩,av]∧RowsV actC w rv r∧RowsV cdayC w dv d∧RowsV intC w av acts∧LimW w∧w.lim≤w.next∧v=.int .i64 (actE r d b acts)
 uniq:=by
  rintro _ _ _ _ ⟨_,_,_,r,d,⟨_,_,_,_⟩,acts,rfl,h1,h2,h3,_,_,rfl⟩ ⟨_,_,_,r',d',⟨_,_,_,_⟩,acts',h,k1,k2,k3,_,_,rfl⟩
  cases h
  rw [h1.uniq (m:=7) actC_length actC_inj k1,h2.uniq (m:=3) cdayC_length cdayC_inj k2,h3.uniq (m:=1) intC_length intC_inj k3]
 shut:=fun ⟨rv,dv,av,r,d,b,acts,h1,h2,h3,h4,h5,_,h6⟩=>⟨rv,dv,av,r,d,b,acts,h1,h2,h3,h4,h5,Nat.le_refl _,h6⟩
theorem run39 {ov:Ov} (ho:∀ args w,ov 39 args w=none) (h73:HasP ov 71 S71.F) (h51:HasP ov 74 S74.F) (r:List CAct) (d:List CDay) (b:CBox) (acts:List Int) (rv dv av:Value) (w:AW) (hl:w.lim=w.next) (hrv:RowsV actC w rv r) (hdv:RowsV cdayC w dv d) (hav:RowsV intC w av acts) (hL:LimW w):∃ x w',(run Tryd.prog ov 2).call 39 [rv,dv,.agg ⟨boxC b⟩,av] w .none=.ok (.ret x) w' .none∧x=.int .i64 (actE r d b acts):=by
 refine call_wp text39 (by simp) (ho _ _) ?_
 have u1:Up w ⟨w.heap.put w.next (some (.cells [.int .i64 b.wl,.int .i64 b.wh,.int .i64 b.sl,.int .i64 b.sh] 68 false)),w.next + 1,w.lim⟩:=(Up.refl w).add _
 have r73:=S71.call1 (P:=Tryd.prog) h73 ⟨rv,dv,r,d,b,rfl,hrv.up u1,hdv.up u1,hL.up u1,rfl⟩
 have lw:w.lim≤w.next + 1:=by omega
 simp only [boxC] at r73 ⊢
 by_cases hE:bxE r d b=0
 ·obtain ⟨hR,hD,_⟩:=bx_of hE
  have r51:=S74.call1 (P:=Tryd.prog) h51 ⟨rv,dv,av,r,d,acts,rfl,hrv.up u1,hdv.up u1,hav.up u1,hR,hD,rfl⟩
  obtain ⟨p1,p2,rfl⟩:=hrv.len
  obtain ⟨p3,p4,rfl⟩:=hdv.len
  rw [hE] at r73
  cases hs:stgF r d startS acts with
  | none =>
   rw [hs] at r51
   simp only [stgR,stgC] at r51
   simp [mc39,r73,r51,actE,hE,hs,lw,cellsOf_agg,tupV]
  | some s =>
   rw [hs] at r51
   simp only [stgR,stgC] at r51
   simp [mc39,r73,r51,actE,hE,hs,lw,cellsOf_agg,tupV]
 ·simp [mc39,r73,actE,hE,cellsOf_agg,tupV]
theorem div_le {c b:Int} (hc:0≤c) (hb:0 < b):0≤c / b∧c / b≤c:=by
 refine ⟨Int.ediv_nonneg hc (by omega),?_⟩
 exact Int.ediv_le_self _ hc
def S61:PSpec where
 R args _ v:=∃ x s:Int,args=[.int .i64 x,.int .i64 s]∧(1≤s∧s≤x∧x≤1000000)∧v=.int .i64 (moI x s)
 uniq:=by rintro _ _ _ _ ⟨c,b,rfl,_,rfl⟩ ⟨c',b',h,_,rfl⟩; cases h; rfl
 shut h:=h
theorem mo_bd {x s:Int} (h:1≤s∧s≤x∧x≤1000000):0≤moI x s∧moI x s≤1001000000:=by
 have:=div_le (c:=1000 * (x - s) + x - 1) (b:=x) (by omega) (by omega)
 unfold moI; omega
theorem run82 {ov:Ov} (ho:∀ args w,ov 82 args w=none) (x s:Int) (h:1≤s∧s≤x∧x≤1000000) (w:AW):∃ v w',(run Tryd.prog ov 2).call 82 [.int .i64 x,.int .i64 s] w .none=.ok (.ret v) w' .none∧v=.int .i64 (moI x s):=by
 refine call_wp text82 (by simp) (ho _ _) ?_
 have w1:IntKind.wrap .i64 (x - s)=x - s:=wrap64_in (by omega) (by omega)
 have w2:IntKind.wrap .i64 (1000 * (x - s))=1000 * (x - s):=wrap64_in (by omega) (by omega)
 have w3:IntKind.wrap .i64 (1000 * (x - s) + x)=1000 * (x - s) + x:=wrap64_in (by omega) (by omega)
 have w4:IntKind.wrap .i64 (1000 * (x - s) + x - 1)=1000 * (x - s) + x - 1:=wrap64_in (by omega) (by omega)
 have hx:x ≠ 0:=by omega
 have hb:=mo_bd h
 have e:(1000 * (x - s) + x - 1).tdiv x=moI x s:=by rw [Int.tdiv_eq_ediv_of_nonneg (by omega)]; rfl
 have w5:IntKind.wrap .i64 (moI x s)=moI x s:=wrap64_in (by omega) (by omega)
 simp [mc82,bin_quo (h:=hx),w1,w2,w3,w4,w5,e,tupV]
theorem list28:isList Tryd.prog 27=true:=by kernel_rfl
theorem sing_int (z:Int):singles (intC z)=true:=rfl
def LossOk (ls:List Int):Prop:=∀ x ∈ ls,0≤x∧x≤10000
theorem sum_bd {ls:List Int} (h:LossOk ls):0≤ls.sum∧ls.sum≤10000 * (ls.length:Int):=by
 induction ls with
 | nil=>simp
 | cons x l ih =>
  have h1:=h x List.mem_cons_self
  have h2:=ih fun y hy=>h y (List.mem_cons_of_mem _ hy)
  simp only [List.sum_cons,List.length_cons]; omega
theorem call81 {ov:Ov} (m:Nat) (ho:∀ args w,ov 81 args w=none) (ws s:Int) (ls:List Int) (hws:0≤ws∧ws≤1000000) (hls:LossOk ls) (hlen:ls.length≤14) (lv:Value) (we:AW) (hlim:we.lim≤we.next) (hlv:RowsV intC we lv ls) :
  ∃ v w',(run Tryd.prog ov (m + 1)).call 81 [.agg ⟨[.int .i64 ws,.int .i64 s,lv]⟩] we .none=.ok (.ret v) w' .none∧AccR intC 3 we.next w' v (wtsL ws ls)∧Up we w':=by
 refine call_wp text81 (by simp) (ho _ _) ?_
 have hl3:=fun w2=>len68V (w':=w2) hlv
 simp [mc81,cellsOf_agg,hl3]
 refine wp_seqX (wp_blockX (wp_rounds (fun i t w=>AccR intC 3 we.next w (tget t 3) (wtsL ws (ls.take i))∧Up we w∧we.next < w.next∧tget t 10=lv∧tget t 11=.int .i64 (ls.length:Nat)∧tget t 12=.int .i64 (i:Nat)∧i≤ls.length) 20 (by decide) ?_ ?_))
 ·refine ⟨.inr ⟨we.next + 1,?_,?_,?_,?_,?_⟩,((Up.refl we).add _).put (Nat.le_succ _) (Nat.le_succ _),?_,?_,?_,?_,Nat.zero_le _⟩
  ·simp [wtsL]
  ·simp [wtsL,intC]
  ·omega
  ·show we.next + 1 < we.next + 1 + 1; omega
  ·simp [wtsL]
  ·show we.next < we.next + 1 + 1; omega
  ·simp
  ·simp
  ·simp
 ·rintro i t w ⟨hacc,hup,hnx,t10,t11,t12,hi⟩
  by_cases hlt:i < ls.length
  ·obtain ⟨x,hx⟩:∃ p,ls[i]?=some p:=⟨_,List.getElem?_eq_getElem hlt⟩
   have hxb:=hls x (List.mem_of_getElem? hx)
   obtain ⟨b,off,sq,c,rfl,hra⟩:=hlv.at_ i hlt
   have hld:=hra.int hx
   rw [← hup.at hra.2] at hld
   have hia:=fun w=>ia27 w ⟨b,off,sq⟩ ls.length c .i64 i hlt
   simp only [Nat.mul_one] at hia
   have hll:(wtsL ws (ls.take i)).length=i + 1:=by rw [wtsL_length,List.length_take]; omega
   obtain ⟨B,off2,sq2,c2,hv3,hrb⟩:=hacc.rows.at_ i (by omega)
   have hat:(wtsL ws (ls.take i))[i]?=some (ws - (ls.take i).sum):=by
    rw [wtsL_at _ _ _ (by rw [List.length_take]; omega),List.take_take,Nat.min_self]
   have hlb:=hrb.int hat
   have hib:=fun w=>ia27 w ⟨B,off2,sq2⟩ (wtsL ws (ls.take i)).length c2 .i64 i (by omega)
   simp only [Nat.mul_one] at hib
   have hsb:=sum_bd (ls:=ls.take i) fun y hy=>hls y (List.mem_of_mem_take hy)
   have hsl:(ls.take i).length=i:=by rw [List.length_take]; omega
   rw [hsl] at hsb
   have hw1:IntKind.wrap .i64 ((i:Int) + 1)=(i:Int) + 1:=wrap64_in (by omega) (by omega)
   have hw2:IntKind.wrap .i64 (ws - (ls.take i).sum - x)=ws - (ls.take i).sum - x:=wrap64_in (by omega) (by omega)
   have hlm:w.lim≤we.next:=by have:=hup.lim; omega
   obtain ⟨v',w',ha,hacc',hkp,hn',hl'⟩:=AccR.push (P:=Tryd.prog) (st:=27) (sz:=1) list28 elem27 sz3 small3 intC_length sing_int (by decide) hacc hlm hnx (by omega) (ws - (ls.take i).sum - x)
   rw [hv3] at ha
   simp only [intC] at ha
   simp [mc81_l0,t10,t11,t12,hlt,hia,hld,hv3,hib,hlb,hw1,hw2,ha]
   have e:wtsL ws (ls.take (i + 1))=wtsL ws (ls.take i)++[ws - (ls.take i).sum - x]:=by rw [take_snoc hx,wtsL_snoc]
   refine ⟨by omega,by rw [e]; exact hacc',⟨fun y hy=>by rw [hkp y (by omega)]; exact hup.old y hy,by omega,by have:=hup.lim; omega⟩,by omega,hlt⟩
  ·have hi':i=ls.length:=by omega
   subst hi'
   rw [List.take_length] at hacc
   have nj:=hacc.ok
   simp [mc81_l0,t11,t12,nj,tupV]
   exact ⟨hacc,hup⟩
def spC (p:Sp):List Value:=[.int .i64 p.1,.int .i64 p.2]
@[simp] theorem spC_length (p:Sp):(spC p).length=2:=rfl
theorem spC_inj (a b:Sp) (h:spC a=spC b):a=b:=by
 cases a; cases b; simpa [spC] using h
theorem mk71 (n:Nat) (hn:n≤1000) (w:AW):makeSliceA Tryd.prog w 71 (.int .i64 (n:Int)) (.int .i64 (n:Int))=.val (.slice (some ⟨w.next,0,none⟩) n n) ⟨w.heap.put w.next (some (.cells ((List.replicate n ((0,0):Sp)).flatMap spC) 24 false)),w.next + 1,w.lim⟩:=by
 rw [make_eq (e:=24) (z:=.agg ⟨[.int .i64 0,.int .i64 0]⟩) (by kernel_rfl) (by kernel_rfl) (by kernel_rfl) n hn w,← repl_flat]; rfl
def partL (L:List Sp) (n i:Nat):List Sp:=L.take i++List.replicate (n - i) (0,0)
theorem part_zero (L:List Sp) (n:Nat):partL L n 0=List.replicate n (0,0):=by simp [partL]
theorem part_full (L:List Sp):partL L L.length L.length=L:=by simp [partL]
theorem part_length {L:List Sp} {i:Nat} (h:i≤L.length):(partL L L.length i).length=L.length:=by simp [partL]; omega
theorem part_set {L:List Sp} {i:Nat} {x:Sp} (h:L[i]?=some x):(partL L L.length i).set i x=partL L L.length (i + 1):=by
 have hi:=(List.getElem?_eq_some_iff.1 h).1
 unfold partL
 rw [take_snoc h]
 obtain ⟨k,hk⟩:∃ k,L.length - i=k + 1:=⟨L.length - i - 1,by omega⟩
 rw [hk,List.replicate_succ,List.set_append_right _ _ (by rw [List.length_take]; omega)]
 rw [show i - (L.take i).length=0 by rw [List.length_take]; omega,List.set_cons_zero,show L.length - (i + 1)=k by omega]
 simp
def ProcV (w:AW) (pv:Value) (L:List Sp):Prop:=∃ B,pv=.slice (some ⟨B,0,none⟩) L.length L.length∧w.heap.get B=some (.cells (L.flatMap spC) 24 false)∧B < w.next
theorem ProcV.rows {w:AW} {pv:Value} {L:List Sp} (h:ProcV w pv L):RowsV spC w pv L:=by
 obtain ⟨B,rfl,h1,h2⟩:=h
 exact .inr ⟨B,0,none,_,rfl,⟨[],[],24,false,by simpa using h1,rfl⟩,h2⟩
theorem ProcV.up {w w':AW} {pv:Value} {L:List Sp} (h:ProcV w pv L) (u:Up w w'):ProcV w' pv L:=by
 obtain ⟨B,rfl,h1,h2⟩:=h
 exact ⟨B,rfl,by rw [u.at h2]; exact h1,Nat.lt_of_lt_of_le h2 u.next⟩
def procC (b:CBox) (pv:Value):List Value:=[.int .i64 b.wl,.int .i64 b.wh,.int .i64 b.sl,.int .i64 b.sh,pv]
set_option maxHeartbeats 1000000 in
theorem call41 {ov:Ov} (m:Nat) (ho:∀ args w,ov 41 args w=none) (r:List CAct) (acts:List Int) (hact:∀ a ∈ acts,0≤a∧∃ x,r[a.toNat]?=some x) (hlen:acts.length≤14) (b:CBox) (rv av:Value) (we:AW) (hlim:we.lim≤we.next) (hrv:RowsV actC we rv r) (hav:RowsV intC we av acts) :
  ∃ v w',(run Tryd.prog ov (m + 1)).call 41 [rv,.agg ⟨boxC b⟩,av] we .none=.ok (.ret v) w' .none∧∃ pv,v=.agg ⟨procC b pv⟩∧ProcV w' pv (lossL r acts)∧Up we w':=by
 refine call_wp text41 (by simp) (ho _ _) ?_
 have hl3:=fun w2=>len68V (w':=w2) hav
 have hLl:(lossL r acts).length=acts.length:=by simp [lossL]
 have sm:sameVal 5 (.agg ⟨[.int .i64 b.wl,.int .i64 b.wh,.int .i64 b.sl,.int .i64 b.sh]⟩) (.agg ⟨[.int .i64 b.wl,.int .i64 b.wh,.int .i64 b.sl,.int .i64 b.sh]⟩)=true:=same_agg _ (by
  intro v hv
  simp only [List.mem_cons,List.not_mem_nil,or_false] at hv
  rcases hv with rfl | rfl | rfl | rfl <;> exact sameN_int _ _ _)
 have q1:we.lim≤we.next + 1 + 1 + 1:=by omega
 have hmk:=fun w=>mk71 acts.length (by omega) w
 simp only [boxC]
 simp [mc41,cellsOf_agg,hl3,hmk,sm,q1]
 refine wp_seqX (wp_blockX (wp_rounds (fun i t w=>w.heap.get (we.next + 1 + 1)=some (.cells ((partL (lossL r acts) (lossL r acts).length i).flatMap spC) 24 false)∧w.heap.get (we.next + 1 + 1 + 1)=some (.cells [.int .i64 b.wl,.int .i64 b.wh,.int .i64 b.sl,.int .i64 b.sh,.slice (some ⟨we.next + 1 + 1,0,none⟩) acts.length acts.length] 122 false)∧w.heap.get (we.next + 1)=some (.cells [.int .i64 0,.int .i64 0,.int .i64 0,.int .i64 0,.slice none 0 0] 122 false)∧Up we w∧we.next + 4≤w.next∧tget t 0=rv∧tget t 2=av∧tget t 6=.pointer (some ⟨we.next + 1,0,none⟩)∧tget t 7=.pointer (some ⟨we.next + 1 + 1 + 1,0,none⟩)∧tget t 15=.int .i64 (acts.length:Nat)∧tget t 16=.int .i64 (i:Nat)∧i≤acts.length) 20 (by decide) ?_ ?_))
 ·refine ⟨?_,?_,?_,?_,?_,?_,?_,?_,?_,?_,?_,Nat.zero_le _⟩
  ·rw [part_zero,hLl]; simp
  ·simp
  ·simp
  ·exact (((((Up.refl we).add _).put (Nat.le_succ _) (Nat.le_succ _)).put (by show we.next≤we.next + 1 + 1; omega) (Nat.le_succ _)).put (by show we.next≤we.next + 1 + 1 + 1; omega) (Nat.le_succ _)).put (by show we.next≤we.next + 1 + 1 + 1; omega) (Nat.le_refl _)
  ·show we.next + 4≤we.next + 1 + 1 + 1 + 1; omega
  all_goals simp
 ·rintro i t w ⟨hB,h7,h6,hup,hnx,t0,t2,t6,t7,t15,t16,hi⟩
  have hlm:w.lim=we.lim:=hup.lim
  by_cases hlt:i < acts.length
  ·obtain ⟨a,ha⟩:∃ p,acts[i]?=some p:=⟨_,List.getElem?_eq_getElem hlt⟩
   obtain ⟨ha0,x,hx⟩:=hact a (List.mem_of_getElem? ha)
   obtain ⟨n,rfl⟩:∃ n:Nat,a=(n:Int):=⟨a.toNat,by omega⟩
   simp only [Int.toNat_natCast] at hx
   have hn:=(List.getElem?_eq_some_iff.1 hx).1
   obtain ⟨bb,off,sq,c,rfl,hra⟩:=hav.at_ i hlt
   obtain ⟨b2,off2,sq2,c2,rfl,hrb⟩:=hrv.at_ n hn
   have hld:=hra.int ha
   have f5:rdO (we.heap.get b2) (off2 + n * 7 + 5) 2=some [.int .i64 x.ll,.int .i64 x.lh]:=rdO_sub (hrb.rd actC_length hx) (j:=5) (k:=2) (by decide)
   rw [← hup.at hra.2] at hld
   rw [← hup.at hrb.2] at f5
   have hia:=fun w=>ia27 w ⟨bb,off,sq⟩ acts.length c .i64 i hlt
   simp only [Nat.mul_one] at hia
   have hib:=fun w=>ia58 w ⟨b2,off2,sq2⟩ r.length c2 .i64 n hn
   have hic:=fun w=>ia71 w ⟨we.next + 1 + 1,0,none⟩ acts.length acts.length .i64 i hlt
   have hw1:IntKind.wrap .i64 ((i:Int) + 1)=(i:Int) + 1:=wrap64_in (by omega) (by omega)
   have hLi:(lossL r acts)[i]?=some (x.ll,x.lh):=by
    unfold lossL
    rw [List.getElem?_map,ha]
    simp [hx]
   have hps:=part_set hLi
   have hfs:=flat_set spC_length (partL (lossL r acts) (lossL r acts).length i) i (x.ll,x.lh) (by rw [part_length (by omega)]; omega)
   rw [hps] at hfs
   have hfl:((partL (lossL r acts) (lossL r acts).length i).flatMap spC).length=acts.length * 2:=by rw [flat_length spC_length,part_length (by omega),hLl]
   obtain ⟨cs,hcs⟩:∃ cs,cs=(partL (lossL r acts) (lossL r acts).length i).flatMap spC:=⟨_,rfl⟩
   rw [← hcs] at hB hfs hfl
   simp only [spC,List.cons_append,List.nil_append] at hfs
   have q2:w.lim≤we.next + 1 + 1:=by omega
   have q3:i * 2 + 2≤acts.length * 2:=by omega
   have n1:¬ we.next + 1 + 1 + 1=we.next + 1 + 1:=by omega
   have n2:¬ we.next + 1=we.next + 1 + 1:=by omega
   simp [mc41_l0,t0,t2,t6,t7,t15,t16,hlt,h7,hia,hld,hib,f5,hic,hB,hfl,q2,q3,hw1,hfs]
   exact ⟨by omega,h6,hup.put (by omega) (Nat.le_refl _),hnx,hlt⟩
  ·have hi':i=acts.length:=by omega
   subst hi'
   have q2:w.lim≤we.next + 1:=by omega
   rw [← hLl,part_full] at hB
   simp [mc41_l0,t6,t7,t15,t16,h7,h6,q2,tupV]
   refine ⟨_,rfl,⟨we.next + 1 + 1,by rw [hLl],?_,by show we.next + 1 + 1 < w.next; omega⟩,hup.put (by omega) (Nat.le_refl _)⟩
   show (w.heap.put (we.next + 1) _).get (we.next + 1 + 1)=_
   rw [get_put,if_neg (by omega),hB]
theorem len71V {w w':AW} {v:Value} {l:List Sp} (h:RowsV spC w v l):lenB Tryd.prog w' 71 v=.val (.int .i64 (l.length:Nat)) w':=by
 obtain ⟨a,c,rfl⟩:=h.len; simp
structure TruOk (b:CBox) (L:List Sp):Prop where
 box:boxB b=true
 len:L.length≤14
 sp:∀ p ∈ L,0≤p.1∧p.2≤10000
def S46:PSpec where
 R args w v:=∃ (pv lv:Value) (b:CBox) (L:List Sp) (ws s:Int) (ls:List Int),args=[.agg ⟨procC b pv⟩,.agg ⟨[.int .i64 ws,.int .i64 s,lv]⟩]∧RowsV spC w pv L∧RowsV intC w lv ls∧TruOk b L∧w.lim≤w.next∧v=.bool (truB b L ws s ls)
 uniq:=by
  rintro _ _ _ _ ⟨_,_,⟨_,_,_,_⟩,L,_,_,ls,rfl,h1,h2,_,_,rfl⟩ ⟨_,_,⟨_,_,_,_⟩,L',_,_,ls',h,k1,k2,_,_,rfl⟩
  simp only [procC,List.cons.injEq,Value.agg.injEq,Array.mk.injEq,Value.int.injEq,true_and,and_true] at h
  obtain ⟨⟨rfl,rfl,rfl,rfl,rfl⟩,rfl,rfl,rfl⟩:=h
  rw [h1.uniq (m:=2) spC_length spC_inj k1,h2.uniq (m:=1) intC_length intC_inj k2]
 shut:=fun ⟨a1,a2,a3,a4,a5,a6,a7,h1,h2,h3,h4,_,h5⟩=>⟨a1,a2,a3,a4,a5,a6,a7,h1,h2,h3,h4,Nat.le_refl _,h5⟩
theorem allIn_full {l:List Int} {m:List Sp} {i:Nat} (hi:i=l.length):allIn (l.take i) m=allIn l m:=by rw [hi,List.take_length]
theorem allIn_ok:∀ {l:List Int} {m:List Sp},l.length=m.length→(∀ p ∈ m,0≤p.1∧p.2≤10000)→allIn l m=true→LossOk l
 | [],_,_,_,_=>fun y hy=>by simp at hy
 | x::l,[],h,_,_=>by simp at h
 | x::l,p::m,h,hp,ha=>by
  have ha':(inI p.1 x p.2 && allIn l m)=true:=ha
  simp only [Bool.and_eq_true,inI,decide_eq_true_eq] at ha'
  have h1:=hp p List.mem_cons_self
  intro y hy
  rcases List.mem_cons.1 hy with rfl | hy
  ·omega
  ·exact allIn_ok (by simpa using h) (fun q hq=>hp q (List.mem_cons_of_mem _ hq)) ha'.2 y hy
theorem wts_last (ws:Int) (ls:List Int):(wtsL ws ls)[ls.length]?=some (ws - ls.sum):=by
 rw [wtsL_at ls ws ls.length (Nat.le_refl _),List.take_length]
set_option maxHeartbeats 1000000 in
theorem run46 {ov:Ov} (ho:∀ args w,ov 46 args w=none) (ho83:∀ args w,ov 81 args w=none) (h82:HasP ov 80 S80.F) (b:CBox) (L:List Sp) (ws s:Int) (ls:List Int) (hT:TruOk b L) (pv lv:Value) (w:AW) (hl:w.lim=w.next) (hpv:RowsV spC w pv L) (hlv:RowsV intC w lv ls):∃ x w',(run Tryd.prog ov 3).call 46 [.agg ⟨procC b pv⟩,.agg ⟨[.int .i64 ws,.int .i64 s,lv]⟩] w .none=.ok (.ret x) w' .none∧x=.bool (truB b L ws s ls):=by
 refine call_wp text46 (by simp) (ho _ _) ?_
 have hl1:=fun w2=>len71V (w':=w2) hpv
 have hl2:=fun w2=>len68V (w':=w2) hlv
 have r82:=fun n a b w=>S80.call (P:=Tryd.prog) h82 (m:=1) (w:=w) ⟨n,a,b,rfl,rfl⟩
 have hb:=hT.box
 simp only [boxB,spanI,Bool.and_eq_true,decide_eq_true_eq] at hb
 simp only [procC]
 cases k1:inI b.wl ws b.wh with
 | false =>
  have e:truB b L ws s ls=false:=by simp [truB,k1]
  simp [mc46,cellsOf_agg,r82,k1,e,tupV]
 | true =>
  cases k2:inI b.sl s b.sh with
  | false =>
   have e:truB b L ws s ls=false:=by simp [truB,k1,k2]
   simp [mc46,cellsOf_agg,r82,k1,k2,e,tupV]
  | true =>
   by_cases k3:ls.length=L.length
   case neg =>
    have k3':¬ (ls.length:Int)=L.length:=by omega
    have e:truB b L ws s ls=false:=by simp [truB,k1,k2,k3]
    simp [mc46,cellsOf_agg,r82,k1,k2,hl1,hl2,k3,k3',e,tupV]
   have eT:truB b L ws s ls=(allIn ls L && decide (s≤ws - ls.sum)):=by simp [truB,k1,k2,k3]
   obtain ⟨w1,hw1e⟩:∃ w1:AW,w1=⟨(w.heap.put w.next (some (.cells [.int .i64 b.wl,.int .i64 b.wh,.int .i64 b.sl,.int .i64 b.sh,pv] 122 false))).put (w.next + 1) (some (.cells [.int .i64 ws,.int .i64 s,lv] 75 false)),w.next + 1 + 1,w.lim⟩:=⟨_,rfl⟩
   have u1:Up w w1:=by rw [hw1e]; exact ((Up.refl w).add _).put (Nat.le_succ _) (Nat.le_succ _)
   have g2:w1.heap.get w.next=some (.cells [.int .i64 b.wl,.int .i64 b.wh,.int .i64 b.sl,.int .i64 b.sh,pv] 122 false):=by rw [hw1e]; simp
   have g3:w1.heap.get (w.next + 1)=some (.cells [.int .i64 ws,.int .i64 s,lv] 75 false):=by rw [hw1e]; simp
   have n1:w1.next=w.next + 1 + 1:=by rw [hw1e]
   have hlm1:w1.lim=w.lim:=u1.lim
   simp [mc46,cellsOf_agg,r82,k1,k2,hl1,hl2,k3]
   rw [← hw1e]
   refine wp_seqX (wp_blockX (wp_rounds (fun i t w'=>w'=w1∧tget t 2=.pointer (some ⟨w.next,0,none⟩)∧tget t 3=.pointer (some ⟨w.next + 1,0,none⟩)∧tget t 34=lv∧tget t 35=.int .i64 (L.length:Nat)∧tget t 36=.int .i64 (i:Nat)∧i≤L.length∧allIn (ls.take i) L=true) 20 (by decide) ⟨rfl,by simp,by simp,by simp,by simp,by simp,Nat.zero_le _,rfl⟩ ?_))
   rintro i t w' ⟨rfl,t2,t3,t34,t35,t36,hi,hall⟩
   by_cases hlt:i < L.length
   ·obtain ⟨p,hp⟩:∃ p,L[i]?=some p:=⟨_,List.getElem?_eq_getElem hlt⟩
    obtain ⟨x,hx⟩:∃ p,ls[i]?=some p:=⟨_,List.getElem?_eq_getElem (by omega)⟩
    obtain ⟨bb,off,sq,c,rfl,hra⟩:=hlv.at_ i (by omega)
    obtain ⟨b2,off2,sq2,c2,rfl,hrb⟩:=hpv.at_ i hlt
    have hld:=hra.int hx
    have hlp:=hrb.rd (m:=2) spC_length hp
    rw [← u1.at hra.2] at hld
    rw [← u1.at hrb.2] at hlp
    simp only [spC] at hlp
    have hia:=fun w=>ia27 w ⟨bb,off,sq⟩ ls.length c .i64 i (by omega)
    simp only [Nat.mul_one] at hia
    have hib:=fun w=>ia71 w ⟨b2,off2,sq2⟩ L.length c2 .i64 i hlt
    have h14:=hT.len
    have hw1:IntKind.wrap .i64 ((i:Int) + 1)=(i:Int) + 1:=wrap64_in (by omega) (by omega)
    have hsn:=allIn_take hx hp
    rw [hall,Bool.true_and] at hsn
    rw [← k3] at t35
    have hlt':i < ls.length:=by omega
    cases k4:inI p.1 x p.2 with
    | false =>
     rw [k4] at hsn
     have e:truB b L ws s ls=false:=by rw [eT,allIn_pre hsn,Bool.false_and]
     rw [e]
     simp [mc46_l0,t2,t3,t34,t35,t36,hlt',hia,hld,g2,hib,hlp,r82,k4,tupV]
    | true =>
     rw [k4] at hsn
     simp [mc46_l0,t2,t3,t34,t35,t36,hlt',hia,hld,g2,hib,hlp,r82,k4,hw1]
     exact ⟨by omega,by omega,hlt,hsn⟩
   ·have hi':i=L.length:=by omega
    subst hi'
    rw [← k3,allIn_full rfl] at hall
    have hls:=allIn_ok k3 hT.sp hall
    have h14:=hT.len
    simp only [inI,Bool.and_eq_true,decide_eq_true_eq] at k1
    obtain ⟨v83,w3,c83,hacc,hup⟩:=call81 (ov:=ov) 1 ho83 ws s ls (by omega) hls (by omega) lv w' (by omega) (hlv.up u1)
    have hwl:(wtsL ws ls).length=ls.length + 1:=wtsL_length ls ws
    obtain ⟨B,off2,sq2,c2,hv3,hrb⟩:=hacc.rows.at_ ls.length (by omega)
    have hlb:=hrb.int (wts_last ws ls)
    have hib:=fun w=>ia27 w ⟨B,off2,sq2⟩ (wtsL ws ls).length c2 .i64 ls.length (by omega)
    simp only [Nat.mul_one] at hib
    have hlv3:=fun w2=>len68V (w':=w2) hacc.rows
    rw [hv3] at c83 hlv3
    have g33:w3.heap.get (w.next + 1)=some (.cells [.int .i64 ws,.int .i64 s,lv] 75 false):=by rw [hup.at (by omega)]; exact g3
    have hwn:IntKind.wrap .i64 (((wtsL ws ls).length:Int) - 1)=(ls.length:Int):=by rw [wrap64_in (by omega) (by omega)]; omega
    simp only [Nat.reduceAdd] at c83
    rw [eT,hall,Bool.true_and]
    simp [mc46_l0,t2,t3,t35,t36,g3,c83,hlv3,hwn,hib,hlb,g33,tupV]
def S82:PSpec:=S61
theorem mk27 (n:Nat) (hn:n≤1000) (w:AW):makeSliceA Tryd.prog w 27 (.int .i64 (n:Int)) (.int .i64 (n:Int))=.val (.slice (some ⟨w.next,0,none⟩) n n) ⟨w.heap.put w.next (some (.cells ((List.replicate n (0:Int)).flatMap intC) 3 false)),w.next + 1,w.lim⟩:=by
 rw [make_eq (e:=3) (z:=.int .i64 0) (by kernel_rfl) (by kernel_rfl) (by kernel_rfl) n hn w,← repl_flat]; rfl
def partI (L:List Int) (n i:Nat):List Int:=L.take i++List.replicate (n - i) 0
theorem partI_zero (L:List Int) (n:Nat):partI L n 0=List.replicate n 0:=by simp [partI]
theorem partI_full (L:List Int):partI L L.length L.length=L:=by simp [partI]
theorem partI_length {L:List Int} {i:Nat} (h:i≤L.length):(partI L L.length i).length=L.length:=by simp [partI]; omega
theorem partI_set {L:List Int} {i:Nat} {x:Int} (h:L[i]?=some x):(partI L L.length i).set i x=partI L L.length (i + 1):=by
 have hi:=(List.getElem?_eq_some_iff.1 h).1
 unfold partI
 rw [take_snoc h]
 obtain ⟨k,hk⟩:∃ k,L.length - i=k + 1:=⟨L.length - i - 1,by omega⟩
 rw [hk,List.replicate_succ,List.set_append_right _ _ (by rw [List.length_take]; omega)]
 rw [show i - (L.take i).length=0 by rw [List.length_take]; omega,List.set_cons_zero,show L.length - (i + 1)=k by omega]
 simp
theorem wts_bd {ws s:Int} {ls:List Int} (hls:LossOk ls) (hle:s≤ws - ls.sum) {i:Nat} {x:Int} (h:(wtsL ws ls)[i]?=some x):s≤x∧x≤ws:=by
 have hi:i≤ls.length:=by
  have:=(List.getElem?_eq_some_iff.1 h).1
  rw [wtsL_length] at this; omega
 rw [wtsL_at ls ws i hi] at h
 cases h
 have h1:=sum_bd (ls:=ls.take i) fun y hy=>hls y (List.mem_of_mem_take hy)
 have h2:=sum_bd (ls:=ls.drop i) fun y hy=>hls y (List.mem_of_mem_drop hy)
 have h3:ls.sum=(ls.take i).sum + (ls.drop i).sum:=by rw [← List.sum_append,List.take_append_drop]
 omega
def mosL (ws s:Int) (ls:List Int):List Int:=(wtsL ws ls).map fun x=>moI x s
set_option maxHeartbeats 1000000 in
theorem call47 {ov:Ov} (m:Nat) (ho:∀ args w,ov 47 args w=none) (ho83:∀ args w,ov 81 args w=none) (h84:HasP ov 82 S82.F) (ws s:Int) (ls:List Int) (hs:1≤s) (hws:ws≤1000000) (hle:s≤ws - ls.sum) (hls:LossOk ls) (hlen:ls.length≤14) (lv:Value) (we:AW) (hlim:we.lim≤we.next) (hlv:RowsV intC we lv ls) :
  ∃ v w',(run Tryd.prog ov (m + 2)).call 47 [.agg ⟨[.int .i64 ws,.int .i64 s,lv]⟩] we .none=.ok (.ret v) w' .none∧∃ v1 v2,v=.tuple ⟨[v1,v2]⟩∧RowsV intC w' v1 (wtsL ws ls)∧RowsV intC w' v2 (mosL ws s ls)∧Up we w'∧notJunk v1=some v1∧notJunk v2=some v2:=by
 refine call_wp text47 (by simp) (ho _ _) ?_
 have hsb:=sum_bd hls
 obtain ⟨w1,hw1e⟩:∃ w1:AW,w1=⟨we.heap.put we.next (some (.cells [.int .i64 ws,.int .i64 s,lv] 75 false)),we.next + 1,we.lim⟩:=⟨_,rfl⟩
 have u1:Up we w1:=by rw [hw1e]; exact (Up.refl we).add _
 have n1:w1.next=we.next + 1:=by rw [hw1e]
 have l1:w1.lim=we.lim:=u1.lim
 have g1:w1.heap.get we.next=some (.cells [.int .i64 ws,.int .i64 s,lv] 75 false):=by rw [hw1e]; simp
 obtain ⟨v83,w3,c83,hacc,hup⟩:=call81 (ov:=ov) m ho83 ws s ls (by omega) hls hlen lv w1 (by omega) (hlv.up u1)
 have hwl:(wtsL ws ls).length=ls.length + 1:=wtsL_length ls ws
 have nj:=hacc.ok
 have n3:we.next + 1≤w3.next:=by have:=hup.next; omega
 have l3:w3.lim=we.lim:=by rw [hup.lim,l1]
 have g3:w3.heap.get we.next=some (.cells [.int .i64 ws,.int .i64 s,lv] 75 false):=by rw [hup.at (by omega)]; exact g1
 obtain ⟨B,off2,sq2,c2,hv3,hrb⟩:=hacc.rows.at_ 0 (by omega)
 have hb3:=hrb.2
 have hlv3:=fun w2=>len68V (w':=w2) hacc.rows
 have hmk:=fun w=>mk27 (wtsL ws ls).length (by omega) w
 rw [hw1e] at c83
 simp [mc47,cellsOf_agg,c83,hlv3,hmk]
 refine wp_seqX (wp_blockX (wp_rounds (fun i t w=>w.heap.get w3.next=some (.cells ((partI (mosL ws s ls) (mosL ws s ls).length i).flatMap intC) 3 false)∧(∀ x,x < w3.next→w.heap.get x=w3.heap.get x)∧w3.next < w.next∧w.lim=we.lim∧tget t 1=.pointer (some ⟨we.next,0,none⟩)∧tget t 2=v83∧tget t 3=.slice (some ⟨w3.next,0,none⟩) (wtsL ws ls).length (wtsL ws ls).length∧tget t 11=v83∧tget t 12=.int .i64 ((wtsL ws ls).length:Nat)∧tget t 13=.int .i64 (i:Nat)∧i≤(wtsL ws ls).length) 20 (by decide) ?_ ?_))
 ·refine ⟨?_,?_,?_,?_,?_,?_,?_,?_,?_,?_,Nat.zero_le _⟩
  ·rw [partI_zero]; simp [mosL]
  ·intro x hx
   show (w3.heap.put w3.next _).get x=_
   rw [get_put,if_neg (by omega)]
  ·exact Nat.lt_succ_self _
  ·exact l3
  all_goals simp
 ·rintro i t w ⟨hB,hold,hnx,hlm,t1,t2,t3,t11,t12,t13,hi⟩
  have hml:(mosL ws s ls).length=(wtsL ws ls).length:=by simp [mosL]
  by_cases hlt:i < (wtsL ws ls).length
  ·obtain ⟨x,hx⟩:∃ p,(wtsL ws ls)[i]?=some p:=⟨_,List.getElem?_eq_getElem hlt⟩
   have hxb:=wts_bd hls hle hx
   have hmx:(mosL ws s ls)[i]?=some (moI x s):=by unfold mosL; rw [List.getElem?_map,hx]; rfl
   have r84:=fun w=>S61.call (P:=Tryd.prog) h84 (m:=m) (w:=w) ⟨x,s,rfl,by omega,rfl⟩
   have hld:=hrb.int hx
   rw [← hold B hb3] at hld
   have hia:=fun w=>ia27 w ⟨B,off2,sq2⟩ (wtsL ws ls).length c2 .i64 i hlt
   have hib:=fun w=>ia27 w ⟨w3.next,0,none⟩ (wtsL ws ls).length (wtsL ws ls).length .i64 i hlt
   simp only [Nat.mul_one] at hia hib
   have g1w:w.heap.get we.next=some (.cells [.int .i64 ws,.int .i64 s,lv] 75 false):=by rw [hold _ (by omega)]; exact g3
   have hw1:IntKind.wrap .i64 ((i:Int) + 1)=(i:Int) + 1:=wrap64_in (by omega) (by omega)
   have hps:=partI_set hmx
   have hfs:=flat_set intC_length (partI (mosL ws s ls) (mosL ws s ls).length i) i (moI x s) (by rw [partI_length (by omega)]; omega)
   rw [hps] at hfs
   have hfl:((partI (mosL ws s ls) (mosL ws s ls).length i).flatMap intC).length=(wtsL ws ls).length:=by rw [flat_length intC_length,partI_length (by omega),hml]; omega
   obtain ⟨cs,hcs⟩:∃ cs,cs=(partI (mosL ws s ls) (mosL ws s ls).length i).flatMap intC:=⟨_,rfl⟩
   rw [← hcs] at hB hfs hfl
   simp only [intC,List.cons_append,List.nil_append,Nat.mul_one] at hfs
   have q2:w.lim≤w3.next:=by omega
   have q3:i + 1≤(wtsL ws ls).length:=hlt
   rw [hv3] at t11
   simp [mc47_l0,t1,t2,t3,t11,t12,t13,hlt,g1w,hia,hld,r84,hib,hB,hfl,q2,q3,hw1,hfs]
   exact ⟨by omega,fun x hx=>by rw [if_neg (by omega)]; exact hold x hx,hnx,hlm,hv3.symm⟩
  ·have hi':i=(wtsL ws ls).length:=by omega
   subst hi'
   rw [← hml,partI_full] at hB
   have nj2:notJunk (.slice (some ⟨w3.next,0,none⟩) (wtsL ws ls).length (wtsL ws ls).length)=some (.slice (some ⟨w3.next,0,none⟩) (wtsL ws ls).length (wtsL ws ls).length):=rfl
   have u4:Up w3 w:=⟨hold,Nat.le_of_lt hnx,by rw [hlm,l3]⟩
   simp [mc47_l0,t2,t3,t11,t12,t13,nj,nj2,tupV]
   refine ⟨_,_,⟨rfl,rfl⟩,hacc.rows.up u4,.inr ⟨w3.next,0,none,_,by rw [hml],⟨[],[],3,false,by simpa using hB,rfl⟩,hnx⟩,(u1.trans hup).trans u4,nj,nj2⟩
def folE (r:List CAct) (d:List CDay) (b:CBox) (acts:List Int) (ws s:Int) (ls:List Int):Int:=if actE r d b acts=0 then (if truB b (lossL r acts) ws s ls=true then 0 else 66) else actE r d b acts
def folW (r:List CAct) (d:List CDay) (b:CBox) (acts:List Int) (ws s:Int) (ls:List Int):List Int:=if folE r d b acts ws s ls=0 then wtsL ws ls else []
def folM (r:List CAct) (d:List CDay) (b:CBox) (acts:List Int) (ws s:Int) (ls:List Int):List Int:=if folE r d b acts ws s ls=0 then mosL ws s ls else []
theorem tru_ok {r:List CAct} {d:List CDay} {b:CBox} {acts:List Int} (h:actE r d b acts=0):TruOk b (lossL r acts)∧acts.length≤14∧∀ a ∈ acts,0≤a∧∃ x,r[a.toNat]?=some x:=by
 obtain ⟨hR,hD,hB,s,hs⟩:=act_ofE h
 have hl:=stg_len hR hs
 have hd:=days_len hD
 have ha:=stg_acts _ _ _ hs
 refine ⟨⟨hB,by simp [lossL]; omega,fun p hp=>?_⟩,by omega,ha⟩
 simp only [lossL,List.mem_map] at hp
 obtain ⟨a,ham,rfl⟩:=hp
 obtain ⟨_,x,hx⟩:=ha a ham
 rw [hx]
 obtain ⟨_,_,k,_⟩:=act_of hR hx
 simp only [spanI,Bool.and_eq_true,decide_eq_true_eq] at k
 simp only; omega
theorem tru_of {b:CBox} {L:List Sp} {ws s:Int} {ls:List Int} (hT:TruOk b L) (h:truB b L ws s ls=true):1≤s∧ws≤1000000∧s≤ws - ls.sum∧LossOk ls∧ls.length=L.length:=by
 have hb:=hT.box
 simp only [boxB,spanI,Bool.and_eq_true,decide_eq_true_eq] at hb
 simp only [truB,inI,Bool.and_eq_true,decide_eq_true_eq] at h
 obtain ⟨h1,h2,h3,h4,h5⟩:=h
 exact ⟨by omega,by omega,h5,allIn_ok h3 hT.sp h4,h3⟩
set_option maxHeartbeats 1000000 in
theorem call19 {ov:Ov} (m:Nat) (ho:∀ args w,ov 19 args w=none) (ho57:∀ args w,ov 41 args w=none) (ho59:∀ args w,ov 47 args w=none) (ho83:∀ args w,ov 81 args w=none) (h56:HasP ov 39 S39.F) (h58:HasP ov 46 S46.F) (h84:HasP ov 82 S82.F) (r:List CAct) (d:List CDay) (b:CBox) (acts:List Int) (ws s:Int) (ls:List Int) (rv dv av lv:Value) (we:AW) (hlim:we.lim≤we.next) (hL:LimW we) (hrv:RowsV actC we rv r) (hdv:RowsV cdayC we dv d) (hav:RowsV intC we av acts) (hlv:RowsV intC we lv ls) :
  ∃ v w',(run Tryd.prog ov (m + 3)).call 19 [rv,dv,.agg ⟨boxC b⟩,av,.agg ⟨[.int .i64 ws,.int .i64 s,lv]⟩] we .none=.ok (.ret v) w' .none∧∃ v1 v2,v=.tuple ⟨[v1,v2,.int .i64 (folE r d b acts ws s ls)]⟩∧RowsV intC w' v1 (folW r d b acts ws s ls)∧RowsV intC w' v2 (folM r d b acts ws s ls)∧Up we w':=by
 refine call_wp text19 (by simp) (ho _ _) ?_
 obtain ⟨w1,hw1e⟩:∃ w1:AW,w1=⟨(we.heap.put we.next (some (.cells [.int .i64 b.wl,.int .i64 b.wh,.int .i64 b.sl,.int .i64 b.sh] 68 false))).put (we.next + 1) (some (.cells [.int .i64 ws,.int .i64 s,lv] 75 false)),we.next + 1 + 1,we.lim⟩:=⟨_,rfl⟩
 have u1:Up we w1:=by rw [hw1e]; exact ((Up.refl we).add _).put (Nat.le_succ _) (Nat.le_succ _)
 have g7:w1.heap.get we.next=some (.cells [.int .i64 b.wl,.int .i64 b.wh,.int .i64 b.sl,.int .i64 b.sh] 68 false):=by rw [hw1e]; simp
 have g9:w1.heap.get (we.next + 1)=some (.cells [.int .i64 ws,.int .i64 s,lv] 75 false):=by rw [hw1e]; simp
 have n1:w1.next=we.next + 1 + 1:=by rw [hw1e]
 have l1:w1.lim=we.lim:=u1.lim
 have r56:=S39.call (P:=Tryd.prog) h56 (m:=m + 1) ⟨rv,dv,av,r,d,b,acts,rfl,hrv.up u1,hdv.up u1,hav.up u1,hL.up u1,by omega,rfl⟩
 have nn:notJunk (.slice none 0 0)=some (.slice none 0 0):=rfl
 simp only [boxC] at r56 ⊢
 by_cases hA:actE r d b acts=0
 ·obtain ⟨hT,h14,hact⟩:=tru_ok hA
  rw [hA,hw1e] at r56
  obtain ⟨_,w2,c57,pv,rfl,hproc,u2⟩:=call41 (ov:=ov) (m + 1) ho57 r acts hact h14 b rv av w1 (by omega) (hrv.up u1) (hav.up u1)
  have hpv:=hproc.rows
  obtain ⟨p1,rfl,_,_⟩:=hproc
  have g92:w2.heap.get (we.next + 1)=some (.cells [.int .i64 ws,.int .i64 s,lv] 75 false):=by rw [u2.at (by omega)]; exact g9
  have hn2:=u2.next
  have hl2:=u2.lim
  have r58:=S46.call (P:=Tryd.prog) h58 (m:=m + 1) ⟨_,lv,b,lossL r acts,ws,s,ls,rfl,hpv,hlv.up (u1.trans u2),hT,by omega,rfl⟩
  obtain ⟨q1,q2,rfl⟩:=hlv.len
  have sm:sameVal 5 (.agg ⟨[.int .i64 ws,.int .i64 s,.slice q1 ls.length q2]⟩) (.agg ⟨[.int .i64 ws,.int .i64 s,.slice q1 ls.length q2]⟩)=true:=same_agg _ (by
   intro v hv
   simp only [List.mem_cons,List.not_mem_nil,or_false] at hv
   rcases hv with rfl | rfl | rfl
   ·exact sameN_int _ _ _
   ·exact sameN_int _ _ _
   ·exact sameN_slice _ _ _ _)
  simp only [procC,boxC,hw1e] at c57 r58
  cases hB:truB b (lossL r acts) ws s ls with
  | false =>
   have e1:folE r d b acts ws s ls=66:=by simp [folE,hA,hB]
   have e2:folW r d b acts ws s ls=[]:=by simp [folW,e1]
   have e3:folM r d b acts ws s ls=[]:=by simp [folM,e1]
   rw [hB] at r58
   simp [mc19,cellsOf_agg,r56,c57,g92,sm,r58,nn,tupV,e1,e2,e3]
   exact ⟨_,_,⟨rfl,rfl⟩,.inl ⟨rfl,_,_,rfl⟩,.inl ⟨rfl,_,_,rfl⟩,u1.trans u2⟩
  | true =>
   obtain ⟨k1,k2,k3,k4,k5⟩:=tru_of hT hB
   have hLl:(lossL r acts).length=acts.length:=by simp [lossL]
   obtain ⟨_,w4,c59,v1,v2,rfl,hv1,hv2,u4,j1,j2⟩:=call47 (ov:=ov) m ho59 ho83 h84 ws s ls k1 k2 k3 k4 (by omega) _ w2 (by omega) (hlv.up (u1.trans u2))
   have e1:folE r d b acts ws s ls=0:=by simp [folE,hA,hB]
   have e2:folW r d b acts ws s ls=wtsL ws ls:=by simp [folW,e1]
   have e3:folM r d b acts ws s ls=mosL ws s ls:=by simp [folM,e1]
   rw [hB] at r58
   simp [mc19,cellsOf_agg,r56,c57,g92,sm,r58,c59,j1,j2,tupV,e1,e2,e3]
   exact ⟨_,_,⟨rfl,rfl⟩,hv1,hv2,(u1.trans u2).trans u4⟩
 ·rw [hw1e] at r56
  have e1:folE r d b acts ws s ls=actE r d b acts:=by simp [folE,hA]
  have e2:folW r d b acts ws s ls=[]:=by simp [folW,e1,hA]
  have e3:folM r d b acts ws s ls=[]:=by simp [folM,e1,hA]
  simp [mc19,cellsOf_agg,r56,hA,nn,tupV,e1,e2,e3]
  rw [hw1e] at u1
  exact ⟨_,_,⟨rfl,rfl⟩,.inl ⟨rfl,_,_,rfl⟩,.inl ⟨rfl,_,_,rfl⟩,u1⟩
end Go.Proofs.YtabiiddijccmdaaDoor.walk
