/- Part of a proof by a machine of ones own: see the text with the theorem. -/
import Derived.Test.YtlkklcbjjompbaaDoorCT
import Derived.Test.YtlkklcbjjompbaaDoorCBase
import Derived.Test.YtlkklcbjjompbaaDoorCCa
namespace Go.Proofs.YtlkklcbjjompbaaDoor.walk
open Go Go.Sh
set_option maxRecDepth 100000
set_option linter.unusedSimpArgs false
def LimAt (w:AW):Prop:=∃ ro,w.heap.get 0=some (.cells limC 141 ro)
def LimW (w:AW):Prop:=LimAt w∧0 < w.next
theorem LimW.up {we w:AW} (h:LimW we) (k:Up we w):LimW w:=by
 obtain ⟨⟨ro,h1⟩,h2⟩:=h
 exact ⟨⟨ro,by rw [k.at h2]; exact h1⟩,by have:=k.next; omega⟩
theorem len22V {w w':AW} {v:Value} {l:List CAct} (h:RowsV actC w v l):lenB Tryd.prog w' 22 v=.val (.int .i64 (l.length:Nat)) w':=by
 obtain ⟨a,c,rfl⟩:=h.len; simp
theorem len23V {w w':AW} {v:Value} {l:List CDay} (h:RowsV cdayC w v l):lenB Tryd.prog w' 23 v=.val (.int .i64 (l.length:Nat)) w':=by
 obtain ⟨a,c,rfl⟩:=h.len; simp
theorem len28V {w w':AW} {v:Value} {l:List Int} (h:RowsV intC w v l):lenB Tryd.prog w' 28 v=.val (.int .i64 (l.length:Nat)) w':=by
 obtain ⟨a,c,rfl⟩:=h.len; simp
@[simp] theorem ia141_0 (w:AW) (a:Addr):indexAddrA Tryd.prog w 141 (.pointer (some a)) (.int .i64 0)=.val (.pointer (some (a.add 0))) w:=by kernel_rfl
@[simp] theorem ia141_1 (w:AW) (a:Addr):indexAddrA Tryd.prog w 141 (.pointer (some a)) (.int .i64 1)=.val (.pointer (some (a.add 2))) w:=by kernel_rfl
@[simp] theorem ia141_2 (w:AW) (a:Addr):indexAddrA Tryd.prog w 141 (.pointer (some a)) (.int .i64 2)=.val (.pointer (some (a.add 4))) w:=by kernel_rfl
@[simp] theorem ia141_3 (w:AW) (a:Addr):indexAddrA Tryd.prog w 141 (.pointer (some a)) (.int .i64 3)=.val (.pointer (some (a.add 6))) w:=by kernel_rfl
@[simp] theorem ia141_4 (w:AW) (a:Addr):indexAddrA Tryd.prog w 141 (.pointer (some a)) (.int .i64 4)=.val (.pointer (some (a.add 8))) w:=by kernel_rfl
@[simp] theorem ia141_5 (w:AW) (a:Addr):indexAddrA Tryd.prog w 141 (.pointer (some a)) (.int .i64 5)=.val (.pointer (some (a.add 10))) w:=by kernel_rfl
@[simp] theorem ia141_6 (w:AW) (a:Addr):indexAddrA Tryd.prog w 141 (.pointer (some a)) (.int .i64 6)=.val (.pointer (some (a.add 12))) w:=by kernel_rfl
def limQ (q:Int):Option Sp:=if q=0 then some (0,60) else if q=1 then some (1,14) else if q=2 then some (0,10000) else if q=3 then some (1,1000000) else if q=4 then some (0,1010000) else if q=5 then some (0,10000) else if q=6 then some (0,1000) else none
theorem limQ_cases {q:Int} {s:Sp} (h:limQ q=some s):(q=0∧s=(0,60))∨(q=1∧s=(1,14))∨(q=2∧s=(0,10000))∨(q=3∧s=(1,1000000))∨(q=4∧s=(0,1010000))∨(q=5∧s=(0,10000))∨(q=6∧s=(0,1000)):=by
 unfold limQ at h
 repeat' split at h
 all_goals simp_all
theorem lim_at {w:AW} (h:LimW w):∃ ro,w.heap.get 0=some (.cells [.int .i64 0,.int .i64 60,.int .i64 1,.int .i64 14,.int .i64 0,.int .i64 10000,.int .i64 1,.int .i64 1000000,.int .i64 0,.int .i64 1010000,.int .i64 0,.int .i64 10000,.int .i64 0,.int .i64 1000] 141 ro):=h.1
def S39:PSpec where
 R args _ v:=∃ n a b:Int,args=[.int .i64 n,.int .i64 a,.int .i64 b]∧v=.bool (inI a n b)
 uniq:=by rintro _ _ _ _ ⟨n,a,b,rfl,rfl⟩ ⟨_,_,_,h,rfl⟩; cases h; rfl
 shut h:=h
theorem run39 {ov:Ov} (ho:∀ args w,ov 39 args w=none) (n a b:Int) (w:AW):∃ v w',(run Tryd.prog ov 2).call 39 [.int .i64 n,.int .i64 a,.int .i64 b] w .none=.ok (.ret v) w' .none∧v=.bool (inI a n b):=by
 refine call_wp text39 (by simp) (ho _ _) ?_
 by_cases h1:a≤n <;> simp [mc39,h1,tupV,inI]
def S46:PSpec where
 R args _ v:=∃ s k:Int,args=[.int .i64 s,.int .i64 k]∧0≤k∧v=.bool (bitB s k)
 uniq:=by rintro _ _ _ _ ⟨n,a,rfl,_,rfl⟩ ⟨_,_,h,_,rfl⟩; cases h; rfl
 shut h:=h
theorem run46 {ov:Ov} (ho:∀ args w,ov 46 args w=none) (s k:Int) (hk:0≤k) (w:AW):∃ v w',(run Tryd.prog ov 2).call 46 [.int .i64 s,.int .i64 k] w .none=.ok (.ret v) w' .none∧v=.bool (bitB s k):=by
 refine call_wp text46 (by simp) (ho _ _) ?_
 have e:=fun (w:AW) a=>bin_shr (P:=Tryd.prog) (w:=w) 3 false a k hk
 simp [mc46,bin_shr (h:=hk),tupV,bitB]
def S82:PSpec where
 R args _ v:=∃ n a b:Int,args=[.int .i64 n,.agg ⟨[.int .i64 a,.int .i64 b]⟩]∧v=.bool (inI a n b)
 uniq:=by rintro _ _ _ _ ⟨n,a,b,rfl,rfl⟩ ⟨_,_,_,h,rfl⟩; cases h; rfl
 shut h:=h
theorem run82 {ov:Ov} (ho:∀ args w,ov 82 args w=none) (n a b:Int) (w:AW):∃ v w',(run Tryd.prog ov 2).call 82 [.int .i64 n,.agg ⟨[.int .i64 a,.int .i64 b]⟩] w .none=.ok (.ret v) w' .none∧v=.bool (inI a n b):=by
 refine call_wp text82 (by simp) (ho _ _) ?_
 by_cases h1:a≤n <;> simp [mc82,h1,tupV,inI,cellsOf_agg]
def S92:PSpec where
 R args _ v:=∃ a b:Int,args=[.agg ⟨[.int .i64 a,.int .i64 b]⟩]∧v=.bool (decide (b < a))
 uniq:=by rintro _ _ _ _ ⟨a,b,rfl,rfl⟩ ⟨_,_,h,rfl⟩; cases h; rfl
 shut h:=h
theorem run92 {ov:Ov} (ho:∀ args w,ov 92 args w=none) (a b:Int) (w:AW):∃ v w',(run Tryd.prog ov 2).call 92 [.agg ⟨[.int .i64 a,.int .i64 b]⟩] w .none=.ok (.ret v) w' .none∧v=.bool (decide (b < a)):=by
 refine call_wp text92 (by simp) (ho _ _) ?_
 simp [mc92,tupV,cellsOf_agg]
def S93:PSpec where
 R args _ v:=∃ a b c d:Int,args=[.agg ⟨[.int .i64 a,.int .i64 b]⟩,.agg ⟨[.int .i64 c,.int .i64 d]⟩]∧v=.bool (decide (c≤a) && decide (b≤d))
 uniq:=by rintro _ _ _ _ ⟨a,b,c,d,rfl,rfl⟩ ⟨_,_,_,_,h,rfl⟩; cases h; rfl
 shut h:=h
theorem run93 {ov:Ov} (ho:∀ args w,ov 93 args w=none) (a b c d:Int) (w:AW):∃ v w',(run Tryd.prog ov 2).call 93 [.agg ⟨[.int .i64 a,.int .i64 b]⟩,.agg ⟨[.int .i64 c,.int .i64 d]⟩] w .none=.ok (.ret v) w' .none∧v=.bool (decide (c≤a) && decide (b≤d)):=by
 refine call_wp text93 (by simp) (ho _ _) ?_
 by_cases h1:c≤a <;> simp [mc93,h1,tupV,cellsOf_agg]
def S81:PSpec where
 R args w v:=∃ (q n:Int) (s:Sp),args=[.int .i64 q,.int .i64 n]∧limQ q=some s∧LimW w∧v=.bool (inI s.1 n s.2)
 uniq:=by rintro _ _ _ _ ⟨q,n,s,rfl,h1,_,rfl⟩ ⟨_,_,s',h,h2,_,rfl⟩; cases h; rw [h1] at h2; cases h2; rfl
 shut h:=h
theorem run81 {ov:Ov} (ho:∀ args w,ov 81 args w=none) (h82:HasP ov 82 S82.F) (q n:Int) (s:Sp) (hq:limQ q=some s) (w:AW) (hL:LimW w):∃ v w',(run Tryd.prog ov 2).call 81 [.int .i64 q,.int .i64 n] w .none=.ok (.ret v) w' .none∧v=.bool (inI s.1 n s.2):=by
 refine call_wp text81 (by simp) (ho _ _) ?_
 have r82:=fun a b w=>S82.call1 (P:=Tryd.prog) h82 (w:=w) ⟨n,a,b,rfl,rfl⟩
 obtain ⟨ro,hg⟩:=lim_at hL
 rcases limQ_cases hq with ⟨rfl,rfl⟩ | ⟨rfl,rfl⟩ | ⟨rfl,rfl⟩ | ⟨rfl,rfl⟩ | ⟨rfl,rfl⟩ | ⟨rfl,rfl⟩ | ⟨rfl,rfl⟩ <;> simp [mc81,hg,r82,tupV]
def S70:PSpec where
 R args w v:=∃ (q a b:Int) (s:Sp),args=[.int .i64 q,.agg ⟨[.int .i64 a,.int .i64 b]⟩]∧limQ q=some s∧LimW w∧v=.bool (spanI a b s.1 s.2)
 uniq:=by rintro _ _ _ _ ⟨q,a,b,s,rfl,h1,_,rfl⟩ ⟨_,_,_,s',h,h2,_,rfl⟩; cases h; rw [h1] at h2; cases h2; rfl
 shut h:=h
theorem span_bool (a b c d:Int):spanI a b c d=(!decide (b < a) && (decide (c≤a) && decide (b≤d))):=by
 unfold spanI
 by_cases h1:c≤a <;> by_cases h2:b < a <;> by_cases h3:b≤d
 all_goals simp [h1,h2,h3]
 all_goals omega
theorem run70 {ov:Ov} (ho:∀ args w,ov 70 args w=none) (h92:HasP ov 92 S92.F) (h93:HasP ov 93 S93.F) (q a b:Int) (s:Sp) (hq:limQ q=some s) (w:AW) (hl:w.lim=w.next) (hL:LimW w):∃ v w',(run Tryd.prog ov 2).call 70 [.int .i64 q,.agg ⟨[.int .i64 a,.int .i64 b]⟩] w .none=.ok (.ret v) w' .none∧v=.bool (spanI a b s.1 s.2):=by
 refine call_wp text70 (by simp) (ho _ _) ?_
 have r92:=fun w=>S92.call1 (P:=Tryd.prog) h92 (w:=w) ⟨a,b,rfl,rfl⟩
 have r93:=fun c d w=>S93.call1 (P:=Tryd.prog) h93 (w:=w) ⟨a,b,c,d,rfl,rfl⟩
 obtain ⟨ro,hg⟩:=lim_at hL
 have hp:=hL.2
 have e0:¬ 0=w.next:=by omega
 have lw:w.lim≤w.next:=by omega
 by_cases h1:b < a
 ·rcases limQ_cases hq with ⟨rfl,rfl⟩ | ⟨rfl,rfl⟩ | ⟨rfl,rfl⟩ | ⟨rfl,rfl⟩ | ⟨rfl,rfl⟩ | ⟨rfl,rfl⟩ | ⟨rfl,rfl⟩ <;> simp [mc70,hg,r92,r93,tupV,cellsOf_agg,span_bool,h1,e0]
 ·rcases limQ_cases hq with ⟨rfl,rfl⟩ | ⟨rfl,rfl⟩ | ⟨rfl,rfl⟩ | ⟨rfl,rfl⟩ | ⟨rfl,rfl⟩ | ⟨rfl,rfl⟩ | ⟨rfl,rfl⟩ <;> simp [mc70,hg,r92,r93,tupV,cellsOf_agg,span_bool,h1,e0]
def S94:PSpec where
 R args w v:=∃ b:CBox,args=[.agg ⟨boxC b⟩]∧LimW w∧v=.bool (boxB b)
 uniq:=by rintro _ _ _ _ ⟨⟨a,b,c,d⟩,rfl,_,rfl⟩ ⟨⟨a',b',c',d'⟩,h,_,rfl⟩; cases h; rfl
 shut h:=h
theorem run94 {ov:Ov} (ho:∀ args w,ov 94 args w=none) (h70:HasP ov 70 S70.F) (b:CBox) (w:AW) (hl:w.lim=w.next) (hL:LimW w):∃ v w',(run Tryd.prog ov 2).call 94 [.agg ⟨boxC b⟩] w .none=.ok (.ret v) w' .none∧v=.bool (boxB b):=by
 refine call_wp text94 (by simp) (ho _ _) ?_
 have u1:Up w ⟨w.heap.put w.next (some (.cells (boxC b) 27 false)),w.next + 1,w.lim⟩:=(Up.refl w).add _
 have r70:=fun x y=>S70.call1 (P:=Tryd.prog) h70 (w:=⟨w.heap.put w.next (some (.cells (boxC b) 27 false)),w.next + 1,w.lim⟩) ⟨3,x,y,(1,1000000),rfl,rfl,hL.up u1,rfl⟩
 unfold boxC at r70 ⊢
 by_cases h1:spanI b.wl b.wh 1 1000000=true
 ·simp [mc94,r70,tupV,cellsOf_agg,boxB,h1]
 ·simp [mc94,r70,tupV,cellsOf_agg,boxB,h1]
def S55:PSpec where
 R args _ v:=∃ lo hi a b:Int,args=[.agg ⟨[.int .i64 lo,.int .i64 hi]⟩,.int .i64 a,.int .i64 b]∧v=.bool (spanI lo hi a b)
 uniq:=by rintro _ _ _ _ ⟨a,b,c,d,rfl,rfl⟩ ⟨_,_,_,_,h,rfl⟩; cases h; rfl
 shut h:=h
theorem run55 {ov:Ov} (ho:∀ args w,ov 55 args w=none) (lo hi a b:Int) (w:AW):∃ v w',(run Tryd.prog ov 2).call 55 [.agg ⟨[.int .i64 lo,.int .i64 hi]⟩,.int .i64 a,.int .i64 b] w .none=.ok (.ret v) w' .none∧v=.bool (spanI lo hi a b):=by
 refine call_wp text55 (by simp) (ho _ _) ?_
 by_cases h1:a≤lo <;> by_cases h2:lo≤hi <;> simp [mc55,h1,h2,tupV,spanI,cellsOf_agg]
end Go.Proofs.YtlkklcbjjompbaaDoor.walk
namespace Go.Proofs.YtlkklcbjjompbaaDoor.walk
open Go Go.Sh
set_option maxRecDepth 100000
set_option linter.unusedSimpArgs false
theorem all_take {α:Type} {p:α→Bool} {l:List α} {i:Nat} {a:α} (ha:l[i]?=some a):(l.take (i + 1)).all p=((l.take i).all p && p a):=by
 rw [take_snoc ha,List.all_append]; simp
theorem all_bad {α:Type} {p:α→Bool} {l:List α} {i:Nat} {a:α} (ha:l[i]?=some a) (h:p a=false):l.all p=false:=by
 cases hq:l.all p with
 | false=>rfl
 | true =>
  have:=List.all_eq_true.1 hq a (List.mem_of_getElem? ha)
  rw [h] at this; cases this
theorem all_full {α:Type} {p:α→Bool} {l:List α} (h:(l.take l.length).all p=true):l.all p=true:=by rwa [List.take_length] at h
def S53:PSpec where
 R args w v:=∃ (x:Value) (r:List CAct),args=[x]∧RowsV actC w x r∧LimW w∧v=.bool (ruleB r)
 uniq:=by
  rintro _ _ _ _ ⟨x,r,rfl,h1,_,rfl⟩ ⟨_,r',h,h2,_,rfl⟩
  cases h
  rw [h1.uniq (m:=7) actC_length actC_inj h2]
 shut h:=h
theorem run53 {ov:Ov} (ho:∀ args w,ov 53 args w=none) (h81:HasP ov 81 S81.F) (h70:HasP ov 70 S70.F) (r:List CAct) (v:Value) (w:AW) (hl:w.lim=w.next) (hv:RowsV actC w v r) (hL:LimW w):∃ x w',(run Tryd.prog ov 2).call 53 [v] w .none=.ok (.ret x) w' .none∧x=.bool (ruleB r):=by
 refine call_wp text53 (by simp) (ho _ _) ?_
 have hl1:=fun w2=>len22V (w':=w2) hv
 by_cases h1:r.length < 1
 ·have h1':(r.length:Int) < 1:=by omega
  have e:ruleB r=false:=by simp [ruleB,inI]; intro h; omega
  simp [mc53,hl1,h1',e,tupV]
 have h1':¬ (r.length:Int) < 1:=by omega
 by_cases h2:5 < r.length
 ·have h2':(5:Int) < (r.length:Int):=by omega
  have e:ruleB r=false:=by simp [ruleB,inI]; intro _ h; omega
  simp [mc53,hl1,h1',h2',e,tupV]
 have h2':¬ (5:Int) < (r.length:Int):=by omega
 have eI:inI 1 (r.length:Nat) 5=true:=by simp [inI]; omega
 have hll:=hl
 simp [mc53,hl1,h1',h2']
 refine wp_seqX (wp_blockX (wp_rounds (fun i t w'=>Up w w'∧w'.lim≤w'.next∧tget t 0=v∧tget t 13=v∧tget t 14=.int .i64 (r.length:Nat)∧tget t 15=.int .i64 (i:Nat)∧i≤r.length∧(r.take i).all (actB r.length)=true) 20 (by decide) ?_ ?_))
 ·refine ⟨Up.refl w,by omega,by simp,by simp,by simp,by simp,by omega,by simp⟩
 ·clear hl1
  rintro i t w' ⟨hu,hle,t0,t13,t14,t15,hi,ha⟩
  by_cases hlt:i < r.length
  ·obtain ⟨x,hx⟩:∃ p,r[i]?=some p:=⟨_,List.getElem?_eq_getElem hlt⟩
   have hv1:=hv.up hu
   have hl1:=fun w2=>len22V (w':=w2) hv1
   obtain ⟨b,off,sq,c,rfl,hra⟩:=hv1.at_ i hlt
   have hld:=hra.rd actC_length hx
   have hia:=fun w=>ia22 w ⟨b,off,sq⟩ r.length c .i64 i hlt
   have hw1:IntKind.wrap .i64 ((i:Int) + 1)=(i:Int) + 1:=wrap64_in (by omega) (by omega)
   have hsh:=fun w s c=>bin_shl1 (P:=Tryd.prog) (w:=w) s c r.length (by omega)
   have hpow:(1:Int)≤2 ^ r.length:=by exact_mod_cast Nat.one_le_two_pow
   have has:=all_take (p:=actB r.length) hx
   obtain ⟨a1,a2,a3,a4,a5,a6,a7⟩:=x
   have u1:Up w ⟨(w'.heap.put w'.next (some (.cells [.int .i64 0,.int .i64 0,.bool false,.bool false,.int .i64 0,.int .i64 0,.int .i64 0] 78 false))).put w'.next (some (.cells [.int .i64 a1,.int .i64 a2,.bool a3,.bool a4,.int .i64 a5,.int .i64 a6,.int .i64 a7] 78 false)),w'.next + 1,w'.lim⟩:=(hu.add _).put hu.next (Nat.le_refl _)
   have L1:=hL.up u1
   have r81a:=S81.call1 (P:=Tryd.prog) h81 ⟨0,a1,_,rfl,rfl,L1,rfl⟩
   have r81b:=S81.call1 (P:=Tryd.prog) h81 ⟨1,a5,_,rfl,rfl,L1,rfl⟩
   have r70:=S70.call1 (P:=Tryd.prog) h70 ⟨2,a6,a7,_,rfl,rfl,L1,rfl⟩
   have hbad:actB r.length ⟨a1,a2,a3,a4,a5,a6,a7⟩=false→ruleB r=false:=fun h=>by
    simp only [ruleB,all_bad hx h,Bool.and_false]
   simp only [actC] at hld
   cases k1:inI 0 a1 60 with
   | false =>
    have e:=hbad (by simp [actB,k1])
    rw [k1] at r81a
    simp [mc53_l0,t0,t13,t14,t15,hlt,hia,hld,hle,r81a,e,tupV]
   | true =>
    rw [k1] at r81a
    cases k2:inI 1 a5 14 with
    | false =>
     have e:=hbad (by simp [actB,k2])
     rw [k2] at r81b
     simp [mc53_l0,t0,t13,t14,t15,hlt,hia,hld,hle,r81a,r81b,e,tupV]
    | true =>
     rw [k2] at r81b
     cases k3:spanI a6 a7 0 10000 with
     | false =>
      have e:=hbad (by simp [actB,k3])
      rw [k3] at r70
      simp [mc53_l0,t0,t13,t14,t15,hlt,hia,hld,hle,r81a,r81b,r70,e,tupV]
     | true =>
      rw [k3] at r70
      by_cases k4:a2 < 0
      ·have e:=hbad (by simp only [actB,inI]; simp; intro _ _ _; omega)
       simp [mc53_l0,t0,t13,t14,t15,hlt,hia,hld,hle,r81a,r81b,r70,k4,e,tupV]
      ·by_cases k5:(2:Int) ^ r.length≤a2
       ·have e:=hbad (by simp only [actB,inI]; simp; intro _ _ _; omega)
        simp [mc53_l0,t0,t13,t14,t15,hlt,hia,hld,hle,r81a,r81b,r70,k4,k5,hl1,hsh,e,tupV]
       ·have e:actB r.length ⟨a1,a2,a3,a4,a5,a6,a7⟩=true:=by
         simp only [actB,k1,k2,k3,Bool.true_and]
         simp [inI]; omega
        rw [ha,e] at has
        simp [mc53_l0,t0,t13,t14,t15,hlt,hia,hld,hle,r81a,r81b,r70,k4,k5,hl1,hsh,hw1]
        exact ⟨by omega,u1,hlt,by simpa using has⟩
  ·have hi':i=r.length:=by omega
   subst hi'
   have e:ruleB r=true:=by simp only [ruleB,eI,all_full ha,Bool.and_self]
   simp [mc53_l0,t14,t15,e,tupV]
def S54:PSpec where
 R args w v:=∃ (x:Value) (d:List CDay),args=[x]∧RowsV cdayC w x d∧LimW w∧v=.bool (daysB d)
 uniq:=by
  rintro _ _ _ _ ⟨x,r,rfl,h1,_,rfl⟩ ⟨_,r',h,h2,_,rfl⟩
  cases h
  rw [h1.uniq (m:=3) cdayC_length cdayC_inj h2]
 shut h:=h
theorem run54 {ov:Ov} (ho:∀ args w,ov 54 args w=none) (h70:HasP ov 70 S70.F) (r:List CDay) (v:Value) (w:AW) (hl:w.lim=w.next) (hv:RowsV cdayC w v r) (hL:LimW w):∃ x w',(run Tryd.prog ov 2).call 54 [v] w .none=.ok (.ret x) w' .none∧x=.bool (daysB r):=by
 refine call_wp text54 (by simp) (ho _ _) ?_
 have hl1:=fun w2=>len23V (w':=w2) hv
 by_cases h1:r.length < 1
 ·have h1':(r.length:Int) < 1:=by omega
  have e:daysB r=false:=by simp [daysB,inI]; intro h; omega
  simp [mc54,hl1,h1',e,tupV]
 have h1':¬ (r.length:Int) < 1:=by omega
 by_cases h2:14 < r.length
 ·have h2':(14:Int) < (r.length:Int):=by omega
  have e:daysB r=false:=by simp [daysB,inI]; intro _ h; omega
  simp [mc54,hl1,h1',h2',e,tupV]
 have h2':¬ (14:Int) < (r.length:Int):=by omega
 have eI:inI 1 (r.length:Nat) 14=true:=by simp [inI]; omega
 simp [mc54,hl1,h1',h2']
 refine wp_seqX (wp_blockX (wp_rounds (fun i t w'=>Up w w'∧w'.lim≤w'.next∧tget t 13=v∧tget t 14=.int .i64 (r.length:Nat)∧tget t 15=.int .i64 (i:Nat)∧i≤r.length∧(r.take i).all cdayB=true) 20 (by decide) ?_ ?_))
 ·refine ⟨Up.refl w,by omega,by simp,by simp,by simp,by omega,by simp⟩
 ·clear hl1
  rintro i t w' ⟨hu,hle,t13,t14,t15,hi,ha⟩
  by_cases hlt:i < r.length
  ·obtain ⟨x,hx⟩:∃ p,r[i]?=some p:=⟨_,List.getElem?_eq_getElem hlt⟩
   have hv1:=hv.up hu
   obtain ⟨b,off,sq,c,rfl,hra⟩:=hv1.at_ i hlt
   have hld:=hra.rd cdayC_length hx
   have hia:=fun w=>ia23 w ⟨b,off,sq⟩ r.length c .i64 i hlt
   have hw1:IntKind.wrap .i64 ((i:Int) + 1)=(i:Int) + 1:=wrap64_in (by omega) (by omega)
   have has:=all_take (p:=cdayB) hx
   obtain ⟨a1,a2,a3⟩:=x
   have u1:Up w ⟨(w'.heap.put w'.next (some (.cells [.int .i64 0,.int .i64 0,.bool false] 83 false))).put w'.next (some (.cells [.int .i64 a1,.int .i64 a2,.bool a3] 83 false)),w'.next + 1,w'.lim⟩:=(hu.add _).put hu.next (Nat.le_refl _)
   have L1:=hL.up u1
   have r70:=S70.call1 (P:=Tryd.prog) h70 ⟨0,a1,a2,_,rfl,rfl,L1,rfl⟩
   simp only [cdayC] at hld
   cases k3:spanI a1 a2 0 60 with
   | false =>
    have e:daysB r=false:=by simp only [daysB,all_bad hx (p:=cdayB) k3,Bool.and_false]
    rw [k3] at r70
    simp [mc54_l0,t13,t14,t15,hlt,hia,hld,hle,r70,e,tupV]
   | true =>
    rw [k3] at r70
    have e:cdayB ⟨a1,a2,a3⟩=true:=k3
    rw [ha,e] at has
    simp [mc54_l0,t13,t14,t15,hlt,hia,hld,hle,r70,hw1]
    exact ⟨by omega,u1,hlt,by simpa using has⟩
  ·have hi':i=r.length:=by omega
   subst hi'
   have e:daysB r=true:=by simp only [daysB,eI,all_full ha,Bool.and_self]
   simp [mc54_l0,t14,t15,e,tupV]
def S14:PSpec where
 R args w v:=∃ (x y:Value) (r:List CAct) (d:List CDay),args=[x,y]∧RowsV actC w x r∧RowsV cdayC w y d∧LimW w∧v=.int .i64 (chkE r d)
 uniq:=by
  rintro _ _ _ _ ⟨x,y,r,d,rfl,h1,h2,_,rfl⟩ ⟨_,_,r',d',h,k1,k2,_,rfl⟩
  cases h
  rw [h1.uniq (m:=7) actC_length actC_inj k1,h2.uniq (m:=3) cdayC_length cdayC_inj k2]
 shut h:=h
theorem run14 {ov:Ov} (ho:∀ args w,ov 14 args w=none) (h53:HasP ov 53 S53.F) (h54:HasP ov 54 S54.F) (r:List CAct) (d:List CDay) (v y:Value) (w:AW) (hv:RowsV actC w v r) (hd:RowsV cdayC w y d) (hL:LimW w):∃ x w',(run Tryd.prog ov 2).call 14 [v,y] w .none=.ok (.ret x) w' .none∧x=.int .i64 (chkE r d):=by
 refine call_wp text14 (by simp) (ho _ _) ?_
 have r53:=S53.call1 (P:=Tryd.prog) h53 ⟨v,r,rfl,hv,hL,rfl⟩
 have r54:=S54.call1 (P:=Tryd.prog) h54 ⟨y,d,rfl,hd,hL,rfl⟩
 cases k1:ruleB r with
 | false=>rw [k1] at r53; simp [mc14,r53,chkE,k1,tupV]
 | true =>
  rw [k1] at r53
  cases k2:daysB d <;> rw [k2] at r54 <;> simp [mc14,r53,r54,chkE,k1,k2,tupV]
end Go.Proofs.YtlkklcbjjompbaaDoor.walk
namespace Go.Proofs.YtlkklcbjjompbaaDoor.walk
open Go Go.Sh
set_option maxRecDepth 100000
set_option linter.unusedSimpArgs false
theorem rdO_sub {o:Option AObj} {off m j k:Nat} {c:List Value} (h:rdO o off m=some c) (hjk:j + k≤m):rdO o (off + j) k=some ((c.drop j).take k):=by
 unfold rdO at *
 cases hc:cellsO o with
 | none=>simp [hc] at h
 | some cs =>
  simp only [hc,Option.bind_some] at h ⊢
  split at h
  ·rename_i hle
   cases h
   rw [if_pos (by omega),List.drop_take,List.drop_drop,List.take_take,Nat.min_eq_left (by omega)]
  ·cases h
theorem run15 {ov:Ov} (ho:∀ args w,ov 15 args w=none) (h39:HasP ov 39 S39.F) (h55:HasP ov 55 S55.F) (r:List CAct) (d:List CDay) (v y:Value) (w:AW) (hv:RowsV actC w v r) (hd:RowsV cdayC w y d):∃ x w',(run Tryd.prog ov 2).call 15 [v,y] w .none=.ok (.ret x) w' .none∧x=.int .i64 (chkE r d):=by
 refine call_wp text15 (by simp) (ho _ _) ?_
 have hl1:=fun w2=>len22V (w':=w2) hv
 have hl2:=fun w2=>len23V (w':=w2) hd
 have r39:=fun n a b w=>S39.call1 (P:=Tryd.prog) h39 (w:=w) ⟨n,a,b,rfl,rfl⟩
 have r55:=fun lo hi a b w=>S55.call1 (P:=Tryd.prog) h55 (w:=w) ⟨lo,hi,a,b,rfl,rfl⟩
 simp [mc15,hl1,r39]
 refine wp_seqX (wp_blockX (wp_rounds (fun i t w'=>w'=w∧tget t 0=v∧tget t 1=y∧tget t 6=.int .i64 (i:Nat)∧∃ ok,tget t 5=.bool ok∧(ok=true→i≤r.length∧inI 1 (r.length:Nat) 5=true∧(r.take i).all (actB r.length)=true)∧(ok=false→ruleB r=false)) 20 (by decide) ?_ ?_))
 ·refine ⟨rfl,by simp,by simp,by simp,inI 1 (r.length:Nat) 5,by simp,fun h=>⟨Nat.zero_le _,h,by simp⟩,fun h=>by simp only [ruleB,h,Bool.false_and]⟩
 ·rintro i t w' ⟨rfl,t0,t1,t6,ok,t5,hy,hn⟩
  cases ok with
  | false =>
   have:=hn rfl
   have e:chkE r d=60:=by simp [chkE,this]
   simp [mc15_l0,t5,e,tupV]
  | true =>
   obtain ⟨hi,hI,ha⟩:=hy rfl
   have hI':1≤r.length∧r.length≤5:=by simp only [inI,Bool.and_eq_true,decide_eq_true_eq] at hI; omega
   by_cases hlt:i < r.length
   ·obtain ⟨x,hx⟩:∃ p,r[i]?=some p:=⟨_,List.getElem?_eq_getElem hlt⟩
    obtain ⟨b,off,sq,c,rfl,hra⟩:=hv.at_ i hlt
    have f0:=hra.rd1 actC_length hx (j:=0) (x:=.int .i64 x.warm) rfl
    have f1:=hra.rd1 actC_length hx (j:=1) (x:=.int .i64 x.behind) rfl
    have f4:=hra.rd1 actC_length hx (j:=4) (x:=.int .i64 x.most) rfl
    have f5:rdO (w'.heap.get b) (off + i * 7 + 5) 2=some [.int .i64 x.ll,.int .i64 x.lh]:=rdO_sub (hra.rd actC_length hx) (j:=5) (k:=2) (by decide)
    simp only [Nat.add_zero] at f0
    have hia:=fun w=>ia22 w ⟨b,off,sq⟩ r.length c .i64 i hlt
    have hw1:IntKind.wrap .i64 ((i:Int) + 1)=(i:Int) + 1:=wrap64_in (by omega) (by omega)
    have hsh:=fun w s c=>bin_shl1 (P:=Tryd.prog) (w:=w) s c r.length (by omega)
    have hpow:(2:Int) ^ r.length≤32∧1≤(2:Int) ^ r.length:=by
     have:r.length=1∨r.length=2∨r.length=3∨r.length=4∨r.length=5:=by omega
     rcases this with h | h | h | h | h <;> rw [h] <;> decide
    have hw2:IntKind.wrap .i64 ((2:Int) ^ r.length - 1)=2 ^ r.length - 1:=wrap64_in (by omega) (by omega)
    have has:=all_take (p:=actB r.length) hx
    have hbad:actB r.length x=false→ruleB r=false:=fun h=>by
     simp only [ruleB,all_bad hx h,Bool.and_false]
    cases k1:inI 0 x.warm 60 with
    | false =>
     have e:=hbad (by simp [actB,k1])
     simp [mc15_l0,t0,t1,t5,t6,hlt,hl1,hia,f0,r39,k1,hw1]
     exact ⟨by omega,e⟩
    | true =>
     cases k2:inI 0 x.behind (2 ^ r.length - 1) with
     | false =>
      have e:=hbad (by simp [actB,k2])
      simp [mc15_l0,t0,t1,t5,t6,hlt,hl1,hia,f0,f1,r39,k1,k2,hw1,hw2,hsh]
      exact ⟨by omega,e⟩
     | true =>
      cases k3:inI 1 x.most 14 with
      | false =>
       have e:=hbad (by simp [actB,k3])
       simp [mc15_l0,t0,t1,t5,t6,hlt,hl1,hia,f0,f1,f4,r39,k1,k2,k3,hw1,hw2,hsh]
       exact ⟨by omega,e⟩
      | true =>
       cases k4:spanI x.ll x.lh 0 10000 with
       | false =>
        have e:=hbad (by simp [actB,k4])
        simp [mc15_l0,t0,t1,t5,t6,hlt,hl1,hia,f0,f1,f4,f5,r39,r55,k1,k2,k3,k4,hw1,hw2,hsh]
        exact ⟨by omega,e⟩
       | true =>
        have e:actB r.length x=true:=by simp only [actB,k1,k2,k3,k4,Bool.and_self]
        rw [ha,e] at has
        simp [mc15_l0,t0,t1,t5,t6,hlt,hl1,hia,f0,f1,f4,f5,r39,r55,k1,k2,k3,k4,hw1,hw2,hsh]
        exact ⟨by omega,hlt,hI,by simpa using has⟩
   ·have hi':i=r.length:=by omega
    subst hi'
    have eR:ruleB r=true:=by simp only [ruleB,hI,all_full ha,Bool.and_self]
    have hcE:chkE r d=if daysB d=true then 0 else 61:=by simp only [chkE,eR,if_true]
    simp [mc15_l0,t0,t1,t5,t6,hl1,hl2,r39]
    refine wp_seqX (wp_blockX (wp_rounds (fun i t w2=>w2=w'∧tget t 1=y∧tget t 7=.int .i64 (i:Nat)∧∃ ok,tget t 5=.bool ok∧(ok=true→i≤d.length∧inI 1 (d.length:Nat) 14=true∧(d.take i).all cdayB=true)∧(ok=false→daysB d=false)) 20 (by decide) ?_ ?_))
    ·refine ⟨rfl,by simp [t1],by simp,inI 1 (d.length:Nat) 14,by simp,fun h=>⟨Nat.zero_le _,h,by simp⟩,fun h=>by simp only [daysB,h,Bool.false_and]⟩
    ·clear t0 t1 t5 t6 ha hi hy hn hlt
     rintro i t w2 ⟨rfl,t1,t7,ok,t5,hy,hn⟩
     cases ok with
     | false =>
      have:=hn rfl
      have e:chkE r d=61:=by simp [hcE,this]
      simp [mc15_l1,t5,e,tupV]
     | true =>
      obtain ⟨hi,hJ,ha⟩:=hy rfl
      have hJ':1≤d.length∧d.length≤14:=by simp only [inI,Bool.and_eq_true,decide_eq_true_eq] at hJ; omega
      by_cases hlt:i < d.length
      ·obtain ⟨x,hx⟩:∃ p,d[i]?=some p:=⟨_,List.getElem?_eq_getElem hlt⟩
       obtain ⟨b,off,sq,c,rfl,hra⟩:=hd.at_ i hlt
       have f0:rdO (w2.heap.get b) (off + i * 3 + 0) 2=some [.int .i64 x.wl,.int .i64 x.wh]:=rdO_sub (hra.rd cdayC_length hx) (j:=0) (k:=2) (by decide)
       simp only [Nat.add_zero] at f0
       have hia:=fun w=>ia23 w ⟨b,off,sq⟩ d.length c .i64 i hlt
       have hw1:IntKind.wrap .i64 ((i:Int) + 1)=(i:Int) + 1:=wrap64_in (by omega) (by omega)
       have has:=all_take (p:=cdayB) hx
       cases k1:spanI x.wl x.wh 0 60 with
       | false =>
        have e:daysB d=false:=by simp only [daysB,all_bad hx (p:=cdayB) k1,Bool.and_false]
        simp [mc15_l1,t1,t5,t7,hlt,hl2,hia,f0,r55,k1,hw1]
        exact ⟨by omega,e⟩
       | true =>
        have e:cdayB x=true:=k1
        rw [ha,e] at has
        simp [mc15_l1,t1,t5,t7,hlt,hl2,hia,f0,r55,k1,hw1]
        exact ⟨by omega,hlt,hJ,by simpa using has⟩
      ·have hi':i=d.length:=by omega
       subst hi'
       have eD:daysB d=true:=by simp only [daysB,hJ,all_full ha,Bool.and_self]
       simp [mc15_l1,t1,t5,t7,hl2,hcE,eD,tupV]
end Go.Proofs.YtlkklcbjjompbaaDoor.walk
namespace Go.Proofs.YtlkklcbjjompbaaDoor.walk
open Go Go.Sh
set_option maxRecDepth 100000
set_option linter.unusedSimpArgs false
structure FineS (s:Stg):Prop where
 last:s.last = -1∨0≤s.last
 done:0≤s.done∧s.done≤20
 row:0≤s.row∧s.row≤20
 lo:0≤s.lo∧s.lo≤1000000
 hi:0≤s.hi∧s.hi≤1000000
def FineA (a:CAct):Prop:=0≤a.ll∧a.ll≤10000∧0≤a.lh∧a.lh≤10000
theorem fine_of {r:List CAct} {so:List Int} {s:Stg} (h:StOk r so s) (hn:so.length≤14):FineS s:=by
 have h1:=h.done; have h2:=h.lo; have h3:=h.hi; have h4:=h.row
 have h5:=runL_le s.last so.reverse
 rw [List.length_reverse] at h5
 refine ⟨?_,by omega,by omega,by omega,by omega⟩
 rcases h.last with ⟨_,e⟩ | ⟨z,_,e,h0,_⟩ <;> omega
theorem fineA_of {r:List CAct} (h:ruleB r=true) {i:Nat} {x:CAct} (hx:r[i]?=some x):FineA x:=by
 obtain ⟨_,_,k,_⟩:=act_of h hx
 simp only [spanI,Bool.and_eq_true,decide_eq_true_eq] at k
 unfold FineA; omega
def dayC (y:CDay) (s:Stg):List Value:=[.int .i64 y.wl,.int .i64 y.wh,.bool y.rain,.int .i64 s.done,.int .i64 s.last,.int .i64 s.row,.int .i64 s.lo,.int .i64 s.hi]
def numC (a:CAct) (n:Int):List Value:=[.int .i64 a.warm,.int .i64 a.behind,.bool a.dry,.bool a.first,.int .i64 a.most,.int .i64 a.ll,.int .i64 a.lh,.int .i64 n]
def S100:PSpec where
 R args w v:=∃ (s:Stg) (a:CAct) (n:Int),args=[.agg ⟨stgC s⟩,.agg ⟨numC a n⟩]∧FineS s∧FineA a∧w.lim≤w.next∧v=.agg ⟨stgC (withS s a n)⟩
 uniq:=by
  rintro _ _ _ _ ⟨⟨_,_,_,_,_⟩,⟨_,_,_,_,_,_,_⟩,n,rfl,_,_,_,rfl⟩ ⟨⟨_,_,_,_,_⟩,⟨_,_,_,_,_,_,_⟩,n',h,_,_,_,rfl⟩
  simp only [stgC,numC,List.cons.injEq,Value.agg.injEq,Array.mk.injEq,Value.int.injEq,Value.bool.injEq,true_and,and_true] at h
  obtain ⟨⟨rfl,rfl,rfl,rfl,rfl⟩,rfl,rfl,rfl,rfl,rfl,rfl,rfl,rfl⟩:=h
  rfl
 shut:=fun ⟨s,a,n,h1,h2,h3,_,h4⟩=>⟨s,a,n,h1,h2,h3,Nat.le_refl _,h4⟩
theorem run100 {ov:Ov} (ho:∀ args w,ov 100 args w=none) (s:Stg) (a:CAct) (n:Int) (hs:FineS s) (ha:FineA a) (w:AW) (hl:w.lim=w.next):∃ x w',(run Tryd.prog ov 2).call 100 [.agg ⟨stgC s⟩,.agg ⟨numC a n⟩] w .none=.ok (.ret x) w' .none∧x=.agg ⟨stgC (withS s a n)⟩:=by
 refine call_wp text100 (by simp) (ho _ _) ?_
 have h1:=hs.done; have h2:=hs.row; have h3:=hs.lo; have h4:=hs.hi
 unfold FineA at ha
 have w1:IntKind.wrap .i64 (s.done + 1)=s.done + 1:=wrap64_in (by omega) (by omega)
 have w2:IntKind.wrap .i64 (1 + s.row)=1 + s.row:=wrap64_in (by omega) (by omega)
 have w3:IntKind.wrap .i64 (s.lo + a.ll)=s.lo + a.ll:=wrap64_in (by omega) (by omega)
 have w4:IntKind.wrap .i64 (s.hi + a.lh)=s.hi + a.lh:=wrap64_in (by omega) (by omega)
 have lw:w.lim≤w.next:=by omega
 have lw2:w.lim≤w.next + 1 + 1:=by omega
 have lw3:w.lim≤w.next + 1 + 1 + 1:=by omega
 by_cases e:n=s.last
 ·simp [mc100,stgC,numC,cellsOf_agg,e,w1,w2,w3,w4,lw,lw2,lw3,tupV,withS]
 ·simp [mc100,stgC,numC,cellsOf_agg,e,w1,w2,w3,w4,lw,lw2,lw3,tupV,withS]
def S78:PSpec where
 R args w v:=args=[]∧w.lim≤w.next∧v=.agg ⟨stgC startS⟩
 uniq:=by rintro _ _ _ _ ⟨rfl,_,rfl⟩ ⟨_,_,rfl⟩; rfl
 shut:=fun ⟨h1,_,h2⟩=>⟨h1,Nat.le_refl _,h2⟩
theorem run78 {ov:Ov} (ho:∀ args w,ov 78 args w=none) (w:AW) (hl:w.lim=w.next):∃ x w',(run Tryd.prog ov 2).call 78 [] w .none=.ok (.ret x) w' .none∧x=.agg ⟨stgC startS⟩:=by
 refine call_wp text78 (by simp) (ho _ _) ?_
 have lw:w.lim≤w.next:=by omega
 simp [mc78,stgC,startS,cellsOf_agg,lw,tupV]
def q0 (x:CAct) (y:CDay):Bool:=decide (x.warm≤y.wl)
def q1 (x:CAct) (y:CDay):Bool:=!(x.dry && y.rain)
def q2 (x:CAct) (num:Int) (s:Stg):Bool:=if s.last = -1 then x.first else decide (s.last=num) || bitB x.behind s.last
def q3 (x:CAct) (num:Int) (s:Stg):Bool:=decide (s.last ≠ num) || decide (s.row < x.most)
theorem fit_q (x:CAct) (num:Int) (y:CDay) (s:Stg):fitB x num y s=(q0 x y && (q1 x y && (q2 x num s && q3 x num s))):=rfl
def SQ (q:CAct→Int→CDay→Stg→Bool):PSpec where
 R args _ v:=∃ (x:CAct) (n:Int) (y:CDay) (s:Stg),args=[.agg ⟨dayC y s⟩,.agg ⟨numC x n⟩]∧FineS s∧v=.bool (q x n y s)
 uniq:=by
  rintro _ _ _ _ ⟨⟨_,_,_,_,_,_,_⟩,n,⟨_,_,_⟩,⟨_,_,_,_,_⟩,rfl,_,rfl⟩ ⟨⟨_,_,_,_,_,_,_⟩,n',⟨_,_,_⟩,⟨_,_,_,_,_⟩,h,_,rfl⟩
  simp only [dayC,numC,List.cons.injEq,Value.agg.injEq,Array.mk.injEq,Value.int.injEq,Value.bool.injEq,true_and,and_true] at h
  obtain ⟨⟨rfl,rfl,rfl,rfl,rfl,rfl,rfl,rfl⟩,rfl,rfl,rfl,rfl,rfl,rfl,rfl,rfl⟩:=h
  rfl
 shut h:=h
def S107:PSpec:=SQ fun x _ y _=>q0 x y
def S108:PSpec:=SQ fun x _ y _=>q1 x y
def S109:PSpec:=SQ fun x n _ s=>q2 x n s
def S110:PSpec:=SQ fun x n _ s=>q3 x n s
theorem run107 {ov:Ov} (ho:∀ args w,ov 107 args w=none) (x:CAct) (n:Int) (y:CDay) (s:Stg) (w:AW):∃ v w',(run Tryd.prog ov 2).call 107 [.agg ⟨dayC y s⟩,.agg ⟨numC x n⟩] w .none=.ok (.ret v) w' .none∧v=.bool (q0 x y):=by
 refine call_wp text107 (by simp) (ho _ _) ?_
 simp [mc107,dayC,numC,cellsOf_agg,tupV,q0]
theorem run108 {ov:Ov} (ho:∀ args w,ov 108 args w=none) (x:CAct) (n:Int) (y:CDay) (s:Stg) (w:AW):∃ v w',(run Tryd.prog ov 2).call 108 [.agg ⟨dayC y s⟩,.agg ⟨numC x n⟩] w .none=.ok (.ret v) w' .none∧v=.bool (q1 x y):=by
 refine call_wp text108 (by simp) (ho _ _) ?_
 cases hd:x.dry <;> simp [mc108,dayC,numC,cellsOf_agg,tupV,q1,hd]
theorem run109 {ov:Ov} (ho:∀ args w,ov 109 args w=none) (x:CAct) (n:Int) (y:CDay) (s:Stg) (hs:FineS s) (w:AW):∃ v w',(run Tryd.prog ov 2).call 109 [.agg ⟨dayC y s⟩,.agg ⟨numC x n⟩] w .none=.ok (.ret v) w' .none∧v=.bool (q2 x n s):=by
 refine call_wp text109 (by simp) (ho _ _) ?_
 by_cases h1:s.last = -1
 ·simp [mc109,dayC,numC,cellsOf_agg,tupV,q2,h1]
 ·have h0:0≤s.last:=by have:=hs.last; omega
  by_cases h2:s.last=n
  ·have h3:¬ n = -1:=by omega
   simp [mc109,dayC,numC,cellsOf_agg,tupV,q2,h1,h2,h3]
  ·simp [mc109,dayC,numC,cellsOf_agg,tupV,q2,h1,h2,bin_shr (h:=h0),bitB]
theorem run110 {ov:Ov} (ho:∀ args w,ov 110 args w=none) (x:CAct) (n:Int) (y:CDay) (s:Stg) (w:AW):∃ v w',(run Tryd.prog ov 2).call 110 [.agg ⟨dayC y s⟩,.agg ⟨numC x n⟩] w .none=.ok (.ret v) w' .none∧v=.bool (q3 x n s):=by
 refine call_wp text110 (by simp) (ho _ _) ?_
 by_cases h2:s.last=n <;> simp [mc110,dayC,numC,cellsOf_agg,tupV,q3,h2]
def fun98 (c2 c3:Nat):Value:=.func (.func 98) ⟨[]⟩ ⟨[.pointer (some ⟨c3,0,none⟩),.pointer (some ⟨c2,0,none⟩)]⟩
theorem call79 {ov:Ov} (m:Nat) (ho:∀ args w,ov 79 args w=none) (rv dv:Value) (s:Stg) (w:AW):∃ v w',(run Tryd.prog ov (m + 1)).call 79 [.agg ⟨[rv,dv]⟩,.agg ⟨stgC s⟩] w .none=.ok (.ret v) w' .none∧v=fun98 w.next (w.next + 1)∧w'=⟨(w.heap.put w.next (some (.cells [rv,dv] 89 false))).put (w.next + 1) (some (.cells [.int .i64 s.done,.int .i64 s.last,.int .i64 s.row,.int .i64 s.lo,.int .i64 s.hi] 86 false)),w.next + 2,w.lim⟩:=by
 refine call_wp text79 (by simp) (ho _ _) ?_
 simp [mc79,tupV,fun98,notJunk,cellsOf_agg,stgC]
def funQ (k:Nat):Value:=.func (.func k) ⟨[]⟩ ⟨[]⟩
@[simp] theorem bd153 (w:AW):buildA Tryd.prog w 153 [(0,.func (.func 107) #[] #[]),(1,.func (.func 108) #[] #[]),(2,.func (.func 109) #[] #[]),(3,.func (.func 110) #[] #[])]=.val (.agg ⟨[funQ 107,funQ 108,funQ 109,funQ 110]⟩) w:=by kernel_rfl
@[simp] theorem ix153_0 (w:AW):indexA Tryd.prog w 153 (.agg ⟨[funQ 107,funQ 108,funQ 109,funQ 110]⟩) (.int .i64 0)=.val (funQ 107) w:=by kernel_rfl
@[simp] theorem ix153_1 (w:AW):indexA Tryd.prog w 153 (.agg ⟨[funQ 107,funQ 108,funQ 109,funQ 110]⟩) (.int .i64 1)=.val (funQ 108) w:=by kernel_rfl
@[simp] theorem ix153_2 (w:AW):indexA Tryd.prog w 153 (.agg ⟨[funQ 107,funQ 108,funQ 109,funQ 110]⟩) (.int .i64 2)=.val (funQ 109) w:=by kernel_rfl
@[simp] theorem ix153_3 (w:AW):indexA Tryd.prog w 153 (.agg ⟨[funQ 107,funQ 108,funQ 109,funQ 110]⟩) (.int .i64 3)=.val (funQ 110) w:=by kernel_rfl
theorem call99 {ov:Ov} (m:Nat) (ho:∀ args w,ov 99 args w=none) (w:AW) (hl:w.lim≤w.next):∃ v w',(run Tryd.prog ov (m + 1)).call 99 [] w .none=.ok (.ret v) w' .none∧v=.agg ⟨[funQ 107,funQ 108,funQ 109,funQ 110]⟩∧Up w w':=by
 refine call_wp text99 (by simp) (ho _ _) ?_
 have u:=((Up.refl w).add (some (.cells [.nilFunc,.nilFunc,.nilFunc,.nilFunc] 153 false))).put (o:=some (.cells [funQ 107,funQ 108,funQ 109,funQ 110] 153 false)) (Nat.le_refl _) (Nat.le_refl _)
 have sg:singles [funQ 107,funQ 108,funQ 109,funQ 110]=true:=rfl
 simp [mc99,tupV,cellsOf_agg,hl,sg]
 exact u
end Go.Proofs.YtlkklcbjjompbaaDoor.walk
namespace Go.Proofs.YtlkklcbjjompbaaDoor.walk
open Go Go.Sh
set_option maxRecDepth 100000
set_option linter.unusedSimpArgs false
theorem cvQ {k:Nat} (h:hasBody Tryd.prog k=true) (w:AW) (args:List Value):callV Tryd.prog w (funQ k) args=.enter k args w:=by
 show callV Tryd.prog w (.func (.func k) ⟨[]⟩ ⟨[]⟩) args=_
 rw [callV_func,callFn_of h]; simp
@[simp] theorem cv107 (w:AW) (args:List Value):callV Tryd.prog w (funQ 107) args=.enter 107 args w:=cvQ (by kernel_rfl) w args
@[simp] theorem cv108 (w:AW) (args:List Value):callV Tryd.prog w (funQ 108) args=.enter 108 args w:=cvQ (by kernel_rfl) w args
@[simp] theorem cv109 (w:AW) (args:List Value):callV Tryd.prog w (funQ 109) args=.enter 109 args w:=cvQ (by kernel_rfl) w args
@[simp] theorem cv110 (w:AW) (args:List Value):callV Tryd.prog w (funQ 110) args=.enter 110 args w:=cvQ (by kernel_rfl) w args
structure KeepT (t t':Tm):Prop where
 k0:tget t' 0=tget t 0
 k1:tget t' 1=tget t 1
 k4:tget t' 4=tget t 4
 k7:tget t' 7=tget t 7
 k25:tget t' 25=tget t 25
 k26:tget t' 26=tget t 26
 k27:tget t' 27=tget t 27
def qk (x:CAct) (n:Int) (y:CDay) (s:Stg) (j:Nat):Prop:=(1≤j→q0 x y=true)∧(2≤j→q1 x y=true)∧(3≤j→q2 x n s=true)∧(4≤j→q3 x n s=true)
theorem inner98 {ov:Ov} (m:Nat) (h107:HasP ov 107 S107.F) (h108:HasP ov 108 S108.F) (h109:HasP ov 109 S109.F) (h110:HasP ov 110 S110.F) (x:CAct) (n:Int) (y:CDay) (s:Stg) (hs:FineS s) (n4 n7:Nat) (Q:Ex→Tm→AW→Prop) (t:Tm) (w:AW)
  (g4:w.heap.get n4=some (.cells (dayC y s) 149 false)) (g7:w.heap.get n7=some (.cells (numC x n) 151 false)) (t4:tget t 4=.pointer (some ⟨n4,0,none⟩)) (t7:tget t 7=.pointer (some ⟨n7,0,none⟩)) (t35:tget t 35=.agg ⟨[funQ 107,funQ 108,funQ 109,funQ 110]⟩) (t36:tget t 36=.int .i64 0)
  (hQ0:fitB x n y s=false→∀ t',KeepT t t'→Q (.exit 1) t' w) (hQ1:fitB x n y s=true→∀ t',KeepT t t'→Q (.exit 2) t' w):wp (exY Tryd.prog (run Tryd.prog ov (m + 1)) (.loop mc98_l1) t w) Q:=by
 have r107:=S107.call (P:=Tryd.prog) h107 (m:=m) (w:=w) ⟨x,n,y,s,rfl,hs,rfl⟩
 have r108:=S108.call (P:=Tryd.prog) h108 (m:=m) (w:=w) ⟨x,n,y,s,rfl,hs,rfl⟩
 have r109:=S109.call (P:=Tryd.prog) h109 (m:=m) (w:=w) ⟨x,n,y,s,rfl,hs,rfl⟩
 have r110:=S110.call (P:=Tryd.prog) h110 (m:=m) (w:=w) ⟨x,n,y,s,rfl,hs,rfl⟩
 simp only [dayC,numC] at g4 g7 r107 r108 r109 r110
 refine wp_roundsY (fun j t' w'=>w'=w∧KeepT t t'∧tget t' 35=.agg ⟨[funQ 107,funQ 108,funQ 109,funQ 110]⟩∧tget t' 36=.int .i64 (j:Nat)∧j≤4∧qk x n y s j) 20 (by decide) ⟨rfl,⟨rfl,rfl,rfl,rfl,rfl,rfl,rfl⟩,t35,by simpa using t36,by omega,by unfold qk; omega⟩ ?_
 clear t35 t36
 rintro j t' w' ⟨rfl,hk,t35,t36,hj,hq⟩
 have u4:tget t' 4=.pointer (some ⟨n4,0,none⟩):=by rw [hk.k4,t4]
 have u7:tget t' 7=.pointer (some ⟨n7,0,none⟩):=by rw [hk.k7,t7]
 have wr (k:Int) (h:0≤k∧k≤4):IntKind.wrap .i64 (k + 1)=k + 1:=wrap64_in (by omega) (by omega)
 obtain ⟨z1,z2,z3,z4⟩:=hq
 rcases j with _ | _ | _ | _ | _ | j
 ·have t36:tget t' 36=.int .i64 0:=by simpa using t36
  cases hb:q0 x y with
  | false =>
   rw [hb] at r107
   simp [mc98_l1,t35,t36,u4,u7,g4,g7,r107]
   exact hQ0 (by simp [fit_q,hb]) _ ⟨by simp [hk.k0],by simp [hk.k1],by simp [hk.k4],by simp [hk.k7],by simp [hk.k25],by simp [hk.k26],by simp [hk.k27]⟩
  | true =>
   rw [hb] at r107
   have e:=wr 0 (by omega)
   simp [mc98_l1,t35,t36,u4,u7,g4,g7,r107]
   exact ⟨⟨by simp [hk.k0],by simp [hk.k1],by simp [hk.k4],by simp [hk.k7],by simp [hk.k25],by simp [hk.k26],by simp [hk.k27]⟩,by decide,fun _=>hb,fun h=>by omega,fun h=>by omega,fun h=>by omega⟩
 ·have t36:tget t' 36=.int .i64 1:=by simpa using t36
  cases hb:q1 x y with
  | false =>
   rw [hb] at r108
   simp [mc98_l1,t35,t36,u4,u7,g4,g7,r108]
   exact hQ0 (by simp [fit_q,hb]) _ ⟨by simp [hk.k0],by simp [hk.k1],by simp [hk.k4],by simp [hk.k7],by simp [hk.k25],by simp [hk.k26],by simp [hk.k27]⟩
  | true =>
   rw [hb] at r108
   simp [mc98_l1,t35,t36,u4,u7,g4,g7,r108]
   exact ⟨⟨by simp [hk.k0],by simp [hk.k1],by simp [hk.k4],by simp [hk.k7],by simp [hk.k25],by simp [hk.k26],by simp [hk.k27]⟩,by decide,fun _=>z1 (by omega),fun _=>hb,fun h=>by omega,fun h=>by omega⟩
 ·have t36:tget t' 36=.int .i64 2:=by simpa using t36
  cases hb:q2 x n s with
  | false =>
   rw [hb] at r109
   simp [mc98_l1,t35,t36,u4,u7,g4,g7,r109]
   exact hQ0 (by simp [fit_q,hb]) _ ⟨by simp [hk.k0],by simp [hk.k1],by simp [hk.k4],by simp [hk.k7],by simp [hk.k25],by simp [hk.k26],by simp [hk.k27]⟩
  | true =>
   rw [hb] at r109
   simp [mc98_l1,t35,t36,u4,u7,g4,g7,r109]
   exact ⟨⟨by simp [hk.k0],by simp [hk.k1],by simp [hk.k4],by simp [hk.k7],by simp [hk.k25],by simp [hk.k26],by simp [hk.k27]⟩,by decide,fun _=>z1 (by omega),fun _=>z2 (by omega),fun _=>hb,fun h=>by omega⟩
 ·have t36:tget t' 36=.int .i64 3:=by simpa using t36
  cases hb:q3 x n s with
  | false =>
   rw [hb] at r110
   simp [mc98_l1,t35,t36,u4,u7,g4,g7,r110]
   exact hQ0 (by simp [fit_q,hb]) _ ⟨by simp [hk.k0],by simp [hk.k1],by simp [hk.k4],by simp [hk.k7],by simp [hk.k25],by simp [hk.k26],by simp [hk.k27]⟩
  | true =>
   rw [hb] at r110
   simp [mc98_l1,t35,t36,u4,u7,g4,g7,r110]
   exact ⟨⟨by simp [hk.k0],by simp [hk.k1],by simp [hk.k4],by simp [hk.k7],by simp [hk.k25],by simp [hk.k26],by simp [hk.k27]⟩,by decide,fun _=>z1 (by omega),fun _=>z2 (by omega),fun _=>z3 (by omega),fun _=>hb⟩
 ·have t36:tget t' 36=.int .i64 4:=by simpa using t36
  have hf:fitB x n y s=true:=by rw [fit_q,z1 (by omega),z2 (by omega),z3 (by omega),z4 (by omega)]; rfl
  simp [mc98_l1,t35,t36]
  exact hQ1 hf _ ⟨by simp [hk.k0],by simp [hk.k1],by simp [hk.k4],by simp [hk.k7],by simp [hk.k25],by simp [hk.k26],by simp [hk.k27]⟩
 ·omega
end Go.Proofs.YtlkklcbjjompbaaDoor.walk
