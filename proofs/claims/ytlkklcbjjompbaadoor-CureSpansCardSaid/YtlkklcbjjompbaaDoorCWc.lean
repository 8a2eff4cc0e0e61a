/- Part of a proof by a machine of ones own: see the text with the theorem. -/
import Derived.Test.YtlkklcbjjompbaaDoorCWb
import Derived.Test.YtlkklcbjjompbaaDoorShF
namespace Go.Proofs.YtlkklcbjjompbaaDoor.walk
open Go Go.Sh
set_option maxRecDepth 100000
set_option linter.unusedSimpArgs false
theorem un_neg (k:IntKind) (a:Int):unS .neg (.int k a)=some (.int k (k.wrap (-a))):=by
 simp [unS,negA,wrapA_eq]
def clI (c b:Int):Int:=(c + b - 1) / b
theorem cl_split {c b:Int} (hb:0 < b):clI c b=c / b + if c % b=0 then 0 else 1:=by
 unfold clI
 have h:=Int.emod_add_mul_ediv c b
 have h0:=Int.emod_nonneg c (by omega:b ≠ 0)
 have h1:=Int.emod_lt_of_pos c hb
 have e:c + b - 1=(c % b + b - 1) + (c / b) * b:=by rw [Int.mul_comm]; omega
 rw [e,Int.add_mul_ediv_right _ _ (by omega)]
 by_cases hm:c % b=0
 ·rw [if_pos hm,hm,show (0:Int) + b - 1=b - 1 by omega,Int.ediv_eq_zero_of_lt (by omega) (by omega)]; omega
 ·rw [if_neg hm,show c % b + b - 1=(c % b - 1) + 1 * b by omega,Int.add_mul_ediv_right _ _ (by omega),Int.ediv_eq_zero_of_lt (by omega) (by omega)]; omega
theorem div_le {c b:Int} (hc:0≤c) (hb:0 < b):0≤c / b∧c / b≤c:=by
 refine ⟨Int.ediv_nonneg hc (by omega),?_⟩
 exact Int.ediv_le_self _ hc
def S101:PSpec where
 R args _ v:=∃ c b:Int,args=[.int .i64 (-c),.int .i64 b]∧(0≤c∧c≤10000000000)∧0 < b∧v=.int .i64 (-(clI c b))
 uniq:=by
  rintro _ _ _ _ ⟨c,b,rfl,_,_,rfl⟩ ⟨c',b',h,_,_,rfl⟩
  simp only [List.cons.injEq,Value.int.injEq,true_and,and_true] at h
  obtain ⟨h1,rfl⟩:=h
  have:c=c':=by omega
  rw [this]
 shut h:=h
theorem run101 {ov:Ov} (ho:∀ args w,ov 101 args w=none) (c b:Int) (hc:0≤c∧c≤10000000000) (hb:0 < b) (w:AW):∃ x w',(run Tryd.prog ov 2).call 101 [.int .i64 (-c),.int .i64 b] w .none=.ok (.ret x) w' .none∧x=.int .i64 (-(clI c b)):=by
 refine call_wp text101 (by simp) (ho _ _) ?_
 have hb0:b ≠ 0:=by omega
 have hd:=div_le hc.1 hb
 have e1:(-c).tdiv b = -(c / b):=by rw [Int.neg_tdiv,Int.tdiv_eq_ediv_of_nonneg hc.1]
 have e2:(-c).tmod b = -(c % b):=by rw [Int.neg_tmod,Int.tmod_eq_emod_of_nonneg hc.1]
 have h0:=Int.emod_nonneg c hb0
 have hs:=cl_split (c:=c) hb
 have w1:IntKind.wrap .i64 (-(c / b)) = -(c / b):=wrap64_in (by omega) (by omega)
 have w2:IntKind.wrap .i64 (-(c / b) - 1) = -(c / b) - 1:=wrap64_in (by omega) (by omega)
 by_cases hm:c % b=0
 ·have h3:¬ -(c % b) < 0:=by omega
  rw [if_pos hm] at hs
  have e4 : -(c / b) = -(clI c b):=by omega
  simp [mc101,bin_quo (h:=hb0),bin_rem (h:=hb0),e1,e2,w1,hm,tupV]
  omega
 ·have h3 : -(c % b) < 0:=by omega
  have h4:0 < c % b:=by omega
  rw [if_neg hm] at hs
  simp [mc101,bin_quo (h:=hb0),bin_rem (h:=hb0),e1,e2,w1,w2,h4,tupV]
  omega
def S85:PSpec where
 R args _ v:=∃ c b:Int,args=[.int .i64 c,.int .i64 b]∧(0≤c∧c≤10000000000)∧0 < b∧v=.int .i64 (clI c b)
 uniq:=by rintro _ _ _ _ ⟨c,b,rfl,_,_,rfl⟩ ⟨c',b',h,_,_,rfl⟩; cases h; rfl
 shut h:=h
theorem cl_bd {c b:Int} (hc:0≤c) (hb:0 < b):0≤clI c b∧clI c b≤c + 1:=by
 have:=div_le hc hb
 rw [cl_split hb]
 split <;> omega
theorem run85 {ov:Ov} (ho:∀ args w,ov 85 args w=none) (h101:HasP ov 101 S101.F) (c b:Int) (hc:0≤c∧c≤10000000000) (hb:0 < b) (w:AW):∃ x w',(run Tryd.prog ov 2).call 85 [.int .i64 c,.int .i64 b] w .none=.ok (.ret x) w' .none∧x=.int .i64 (clI c b):=by
 refine call_wp text85 (by simp) (ho _ _) ?_
 have r101:=fun w=>S101.call1 (P:=Tryd.prog) h101 (w:=w) ⟨c,b,rfl,hc,hb,rfl⟩
 have hd:=cl_bd hc.1 hb
 have w1:IntKind.wrap .i64 (-c) = -c:=wrap64_in (by omega) (by omega)
 have w2:IntKind.wrap .i64 (clI c b)=clI c b:=wrap64_in (by omega) (by omega)
 simp [mc85,un_neg,r101,w1,w2,tupV]
def S61:PSpec where
 R args _ v:=∃ x s:Int,args=[.int .i64 x,.int .i64 s]∧(1≤s∧s≤x∧x≤1000000)∧v=.int .i64 (moI x s)
 uniq:=by rintro _ _ _ _ ⟨c,b,rfl,_,rfl⟩ ⟨c',b',h,_,rfl⟩; cases h; rfl
 shut h:=h
theorem run61 {ov:Ov} (ho:∀ args w,ov 61 args w=none) (h85:HasP ov 85 S85.F) (x s:Int) (h:1≤s∧s≤x∧x≤1000000) (w:AW):∃ v w',(run Tryd.prog ov 2).call 61 [.int .i64 x,.int .i64 s] w .none=.ok (.ret v) w' .none∧v=.int .i64 (moI x s):=by
 refine call_wp text61 (by simp) (ho _ _) ?_
 have r85:=fun w=>S85.call1 (P:=Tryd.prog) h85 (w:=w) ⟨1000 * (x - s),x,rfl,⟨by omega,by omega⟩,by omega,rfl⟩
 have w1:IntKind.wrap .i64 (x - s)=x - s:=wrap64_in (by omega) (by omega)
 have w2:IntKind.wrap .i64 (1000 * (x - s))=1000 * (x - s):=wrap64_in (by omega) (by omega)
 simp [mc61,r85,w1,w2,tupV,clI,moI]
theorem mo_bd {x s:Int} (h:1≤s∧s≤x∧x≤1000000):0≤moI x s∧moI x s≤1001000000:=by
 have:=div_le (c:=1000 * (x - s) + x - 1) (b:=x) (by omega) (by omega)
 unfold moI; omega
theorem run84 {ov:Ov} (ho:∀ args w,ov 84 args w=none) (x s:Int) (h:1≤s∧s≤x∧x≤1000000) (w:AW):∃ v w',(run Tryd.prog ov 2).call 84 [.int .i64 x,.int .i64 s] w .none=.ok (.ret v) w' .none∧v=.int .i64 (moI x s):=by
 refine call_wp text84 (by simp) (ho _ _) ?_
 have w1:IntKind.wrap .i64 (x - s)=x - s:=wrap64_in (by omega) (by omega)
 have w2:IntKind.wrap .i64 (1000 * (x - s))=1000 * (x - s):=wrap64_in (by omega) (by omega)
 have w3:IntKind.wrap .i64 (1000 * (x - s) + x)=1000 * (x - s) + x:=wrap64_in (by omega) (by omega)
 have w4:IntKind.wrap .i64 (1000 * (x - s) + x - 1)=1000 * (x - s) + x - 1:=wrap64_in (by omega) (by omega)
 have hx:x ≠ 0:=by omega
 have hb:=mo_bd h
 have e:(1000 * (x - s) + x - 1).tdiv x=moI x s:=by rw [Int.tdiv_eq_ediv_of_nonneg (by omega)]; rfl
 have w5:IntKind.wrap .i64 (moI x s)=moI x s:=wrap64_in (by omega) (by omega)
 simp [mc84,bin_quo (h:=hx),w1,w2,w3,w4,w5,e,tupV]
end Go.Proofs.YtlkklcbjjompbaaDoor.walk
namespace Go.Proofs.YtlkklcbjjompbaaDoor.walk
open Go Go.Sh
set_option maxRecDepth 100000
set_option linter.unusedSimpArgs false
theorem list28:isList Tryd.prog 28=true:=by kernel_rfl
theorem small3:smallT Tryd.prog 3=true:=by kernel_rfl
def spC (p:Sp):List Value:=[.int .i64 p.1,.int .i64 p.2]
@[simp] theorem spC_length (p:Sp):(spC p).length=2:=rfl
theorem spC_inj (a b:Sp) (h:spC a=spC b):a=b:=by
 cases a; cases b; simpa [spC] using h
end Go.Proofs.YtlkklcbjjompbaaDoor.walk
namespace Go.Proofs.YtlkklcbjjompbaaDoor.walk
open Go Go.Sh
set_option maxRecDepth 100000
set_option linter.unusedSimpArgs false
theorem mk43 (n:Nat) (hn:n≤1000) (w:AW):makeSliceA Tryd.prog w 43 (.int .i64 (n:Int)) (.int .i64 (n:Int))=.val (.slice (some ⟨w.next,0,none⟩) n n) ⟨w.heap.put w.next (some (.cells ((List.replicate n ((0,0):Sp)).flatMap spC) 25 false)),w.next + 1,w.lim⟩:=by
 rw [make_eq (e:=25) (z:=.agg ⟨[.int .i64 0,.int .i64 0]⟩) (by kernel_rfl) (by kernel_rfl) (by kernel_rfl) n hn w,← repl_flat]; rfl
def partL (L:List Sp) (n i:Nat):List Sp:=L.take i++List.replicate (n - i) (0,0)
theorem part_zero (L:List Sp) (n:Nat):partL L n 0=List.replicate n (0,0):=by simp [partL]
theorem part_full (L:List Sp):partL L L.length L.length=L:=by simp [partL]
theorem part_length {L:List Sp} {i:Nat} (h:i≤L.length):(partL L L.length i).length=L.length:=by simp [partL]; omega
theorem part_set {L:List Sp} {i:Nat} {x:Sp} (h:L[i]?=some x):(partL L L.length i).set i x=partL L L.length (i + 1):=by
 have hi:=(List.getElem?_eq_some_iff.1 h).1
 unfold partL
 rw [take_snoc h]
 obtain ⟨k,hk⟩:∃ k,L.length - i=k + 1:=⟨L.length - i - 1,by omega⟩
 rw [hk,List.replicate_succ,List.set_append_right _ _ (by rw [List.length_take]; omega)]
 rw [show i - (L.take i).length=0 by rw [List.length_take]; omega,List.set_cons_zero,show L.length - (i + 1)=k by omega]
 simp
def ProcV (w:AW) (pv:Value) (L:List Sp):Prop:=∃ B,pv=.slice (some ⟨B,0,none⟩) L.length L.length∧w.heap.get B=some (.cells (L.flatMap spC) 25 false)∧B < w.next
theorem ProcV.rows {w:AW} {pv:Value} {L:List Sp} (h:ProcV w pv L):RowsV spC w pv L:=by
 obtain ⟨B,rfl,h1,h2⟩:=h
 exact .inr ⟨B,0,none,_,rfl,⟨[],[],25,false,by simpa using h1,rfl⟩,h2⟩
theorem ProcV.up {w w':AW} {pv:Value} {L:List Sp} (h:ProcV w pv L) (u:Up w w'):ProcV w' pv L:=by
 obtain ⟨B,rfl,h1,h2⟩:=h
 exact ⟨B,rfl,by rw [u.at h2]; exact h1,Nat.lt_of_lt_of_le h2 u.next⟩
def procC (b:CBox) (pv:Value):List Value:=[.int .i64 b.wl,.int .i64 b.wh,.int .i64 b.sl,.int .i64 b.sh,pv]
set_option maxHeartbeats 1000000 in
theorem call57 {ov:Ov} (m:Nat) (ho:∀ args w,ov 57 args w=none) (r:List CAct) (acts:List Int) (hact:∀ a ∈ acts,0≤a∧∃ x,r[a.toNat]?=some x) (hlen:acts.length≤14) (b:CBox) (rv av:Value) (we:AW) (hlim:we.lim≤we.next) (hrv:RowsV actC we rv r) (hav:RowsV intC we av acts) :
  ∃ v w',(run Tryd.prog ov (m + 1)).call 57 [rv,.agg ⟨boxC b⟩,av] we .none=.ok (.ret v) w' .none∧∃ pv,v=.agg ⟨procC b pv⟩∧ProcV w' pv (lossL r acts)∧Up we w':=by
 refine call_wp text57 (by simp) (ho _ _) ?_
 have hl3:=fun w2=>len28V (w':=w2) hav
 have hLl:(lossL r acts).length=acts.length:=by simp [lossL]
 have sm:sameVal 5 (.agg ⟨[.int .i64 b.wl,.int .i64 b.wh,.int .i64 b.sl,.int .i64 b.sh]⟩) (.agg ⟨[.int .i64 b.wl,.int .i64 b.wh,.int .i64 b.sl,.int .i64 b.sh]⟩)=true:=same_agg _ (by
  intro v hv
  simp only [List.mem_cons,List.not_mem_nil,or_false] at hv
  rcases hv with rfl | rfl | rfl | rfl <;> exact sameN_int _ _ _)
 have q1:we.lim≤we.next + 1 + 1 + 1:=by omega
 have hmk:=fun w=>mk43 acts.length (by omega) w
 simp only [boxC]
 simp [mc57,cellsOf_agg,hl3,hmk,sm,q1]
 refine wp_seqX (wp_blockX (wp_rounds (fun i t w=>w.heap.get (we.next + 1 + 1)=some (.cells ((partL (lossL r acts) (lossL r acts).length i).flatMap spC) 25 false)∧w.heap.get (we.next + 1 + 1 + 1)=some (.cells [.int .i64 b.wl,.int .i64 b.wh,.int .i64 b.sl,.int .i64 b.sh,.slice (some ⟨we.next + 1 + 1,0,none⟩) acts.length acts.length] 97 false)∧w.heap.get (we.next + 1)=some (.cells [.int .i64 0,.int .i64 0,.int .i64 0,.int .i64 0,.slice none 0 0] 97 false)∧Up we w∧we.next + 4≤w.next∧tget t 0=rv∧tget t 2=av∧tget t 6=.pointer (some ⟨we.next + 1,0,none⟩)∧tget t 7=.pointer (some ⟨we.next + 1 + 1 + 1,0,none⟩)∧tget t 15=.int .i64 (acts.length:Nat)∧tget t 16=.int .i64 (i:Nat)∧i≤acts.length) 20 (by decide) ?_ ?_))
 ·refine ⟨?_,?_,?_,?_,?_,?_,?_,?_,?_,?_,?_,Nat.zero_le _⟩
  ·rw [part_zero,hLl]; simp
  ·simp
  ·simp
  ·exact (((((Up.refl we).add _).put (Nat.le_succ _) (Nat.le_succ _)).put (by show we.next≤we.next + 1 + 1; omega) (Nat.le_succ _)).put (by show we.next≤we.next + 1 + 1 + 1; omega) (Nat.le_succ _)).put (by show we.next≤we.next + 1 + 1 + 1; omega) (Nat.le_refl _)
  ·show we.next + 4≤we.next + 1 + 1 + 1 + 1; omega
  all_goals simp
 ·rintro i t w ⟨hB,h7,h6,hup,hnx,t0,t2,t6,t7,t15,t16,hi⟩
  have hlm:w.lim=we.lim:=hup.lim
  by_cases hlt:i < acts.length
  ·obtain ⟨a,ha⟩:∃ p,acts[i]?=some p:=⟨_,List.getElem?_eq_getElem hlt⟩
   obtain ⟨ha0,x,hx⟩:=hact a (List.mem_of_getElem? ha)
   obtain ⟨n,rfl⟩:∃ n:Nat,a=(n:Int):=⟨a.toNat,by omega⟩
   simp only [Int.toNat_natCast] at hx
   have hn:=(List.getElem?_eq_some_iff.1 hx).1
   obtain ⟨bb,off,sq,c,rfl,hra⟩:=hav.at_ i hlt
   obtain ⟨b2,off2,sq2,c2,rfl,hrb⟩:=hrv.at_ n hn
   have hld:=hra.int ha
   have f5:rdO (we.heap.get b2) (off2 + n * 7 + 5) 2=some [.int .i64 x.ll,.int .i64 x.lh]:=rdO_sub (hrb.rd actC_length hx) (j:=5) (k:=2) (by decide)
   rw [← hup.at hra.2] at hld
   rw [← hup.at hrb.2] at f5
   have hia:=fun w=>ia28 w ⟨bb,off,sq⟩ acts.length c .i64 i hlt
   simp only [Nat.mul_one] at hia
   have hib:=fun w=>ia22 w ⟨b2,off2,sq2⟩ r.length c2 .i64 n hn
   have hic:=fun w=>ia43 w ⟨we.next + 1 + 1,0,none⟩ acts.length acts.length .i64 i hlt
   have hw1:IntKind.wrap .i64 ((i:Int) + 1)=(i:Int) + 1:=wrap64_in (by omega) (by omega)
   have hLi:(lossL r acts)[i]?=some (x.ll,x.lh):=by
    unfold lossL
    rw [List.getElem?_map,ha]
    simp [hx]
   have hps:=part_set hLi
   have hfs:=flat_set spC_length (partL (lossL r acts) (lossL r acts).length i) i (x.ll,x.lh) (by rw [part_length (by omega)]; omega)
   rw [hps] at hfs
   have hfl:((partL (lossL r acts) (lossL r acts).length i).flatMap spC).length=acts.length * 2:=by rw [flat_length spC_length,part_length (by omega),hLl]
   obtain ⟨cs,hcs⟩:∃ cs,cs=(partL (lossL r acts) (lossL r acts).length i).flatMap spC:=⟨_,rfl⟩
   rw [← hcs] at hB hfs hfl
   simp only [spC,List.cons_append,List.nil_append] at hfs
   have q2:w.lim≤we.next + 1 + 1:=by omega
   have q3:i * 2 + 2≤acts.length * 2:=by omega
   have n1:¬ we.next + 1 + 1 + 1=we.next + 1 + 1:=by omega
   have n2:¬ we.next + 1=we.next + 1 + 1:=by omega
   simp [mc57_l0,t0,t2,t6,t7,t15,t16,hlt,h7,hia,hld,hib,f5,hic,hB,hfl,q2,q3,hw1,hfs]
   exact ⟨by omega,h6,hup.put (by omega) (Nat.le_refl _),hnx,hlt⟩
  ·have hi':i=acts.length:=by omega
   subst hi'
   have q2:w.lim≤we.next + 1:=by omega
   rw [← hLl,part_full] at hB
   simp [mc57_l0,t6,t7,t15,t16,h7,h6,q2,tupV]
   refine ⟨_,rfl,⟨we.next + 1 + 1,by rw [hLl],?_,by show we.next + 1 + 1 < w.next; omega⟩,hup.put (by omega) (Nat.le_refl _)⟩
   show (w.heap.put (we.next + 1) _).get (we.next + 1 + 1)=_
   rw [get_put,if_neg (by omega),hB]
end Go.Proofs.YtlkklcbjjompbaaDoor.walk
namespace Go.Proofs.YtlkklcbjjompbaaDoor.walk
open Go Go.Sh
set_option maxRecDepth 100000
set_option linter.unusedSimpArgs false
theorem len43V {w w':AW} {v:Value} {l:List Sp} (h:RowsV spC w v l):lenB Tryd.prog w' 43 v=.val (.int .i64 (l.length:Nat)) w':=by
 obtain ⟨a,c,rfl⟩:=h.len; simp
structure TruOk (b:CBox) (L:List Sp):Prop where
 box:boxB b=true
 len:L.length≤14
 sp:∀ p ∈ L,0≤p.1∧p.2≤10000
end Go.Proofs.YtlkklcbjjompbaaDoor.walk
namespace Go.Proofs.YtlkklcbjjompbaaDoor.walk
open Go Go.Sh
set_option maxRecDepth 100000
set_option linter.unusedSimpArgs false
def S84:PSpec:=S61
end Go.Proofs.YtlkklcbjjompbaaDoor.walk
namespace Go.Proofs.YtlkklcbjjompbaaDoor.walk
open Go Go.Sh
set_option maxRecDepth 100000
set_option linter.unusedSimpArgs false
def S18:PSpec where
 R args w v:=∃ (a b:Value) (L:List Int),args=[a,b]∧RowsV intC w a L∧RowsV intC w b L∧L.length≤1000∧v=.bool true
 uniq:=by rintro _ _ _ _ ⟨_,_,_,rfl,_,_,_,rfl⟩ ⟨_,_,_,_,_,_,_,rfl⟩; rfl
 shut h:=h
theorem run18 {ov:Ov} (ho:∀ args w,ov 18 args w=none) (L:List Int) (hlen:L.length≤1000) (u v:Value) (w:AW) (hu:RowsV intC w u L) (hv:RowsV intC w v L):∃ y w',(run Tryd.prog ov 2).call 18 [u,v] w .none=.ok (.ret y) w' .none∧y=.bool true:=by
 refine call_wp text18 (by simp) (ho _ _) ?_
 have hlu:=fun w2=>len28V (w':=w2) hu
 have hlv:=fun w2=>len28V (w':=w2) hv
 simp [mc18,hlu,hlv]
 refine wp_seqX (wp_blockX (wp_rounds (fun i t w'=>w'=w∧tget t 0=u∧tget t 1=v∧tget t 5=.bool true∧tget t 6=.int .i64 (i:Nat)∧i≤L.length) 2000 (by decide) ⟨rfl,by simp,by simp,by simp,by simp,Nat.zero_le _⟩ ?_))
 rintro i t w' ⟨rfl,t0,t1,t5,t6,hi⟩
 by_cases hlt:i < L.length
 ·obtain ⟨z,hz⟩:∃ z,L[i]?=some z:=⟨_,List.getElem?_eq_getElem hlt⟩
  obtain ⟨b,off,sq,cp,rfl,hr⟩:=hu.at_ i hlt
  obtain ⟨b',off',sq',cp',rfl,hr'⟩:=hv.at_ i hlt
  have hld:=hr.int hz
  have hld':=hr'.int hz
  have hia:=fun w=>ia28 w ⟨b,off,sq⟩ L.length cp .i64 i hlt
  have hia':=fun w=>ia28 w ⟨b',off',sq'⟩ L.length cp' .i64 i hlt
  simp only [Nat.mul_one] at hia hia'
  have hw1:IntKind.wrap .i64 ((i:Int) + 1)=(i:Int) + 1:=wrap64_in (by omega) (by omega)
  simp [mc18_l0,t0,t1,t5,t6,hlt,hia,hia',hld,hld',hlu,hw1]
  exact ⟨by omega,hlt⟩
 ·have hi':i=L.length:=by omega
  subst hi'
  simp [mc18_l0,t0,t5,t6,hlu,tupV]
theorem tru_ok {r:List CAct} {d:List CDay} {b:CBox} {acts:List Int} (h:actE r d b acts=0):TruOk b (lossL r acts)∧acts.length≤14∧∀ a ∈ acts,0≤a∧∃ x,r[a.toNat]?=some x:=by
 obtain ⟨hR,hD,hB,s,hs⟩:=act_ofE h
 have hl:=stg_len hR hs
 have hd:=days_len hD
 have ha:=stg_acts _ _ _ hs
 refine ⟨⟨hB,by simp [lossL]; omega,fun p hp=>?_⟩,by omega,ha⟩
 simp only [lossL,List.mem_map] at hp
 obtain ⟨a,ham,rfl⟩:=hp
 obtain ⟨_,x,hx⟩:=ha a ham
 rw [hx]
 obtain ⟨_,_,k,_⟩:=act_of hR hx
 simp only [spanI,Bool.and_eq_true,decide_eq_true_eq] at k
 simp only; omega
end Go.Proofs.YtlkklcbjjompbaaDoor.walk
namespace Go.Proofs.YtlkklcbjjompbaaDoor.walk
open Go Go.Sh
set_option maxRecDepth 100000
set_option linter.unusedSimpArgs false
end Go.Proofs.YtlkklcbjjompbaaDoor.walk
namespace Go.Proofs.YtlkklcbjjompbaaDoor.walk
open Go Go.Sh
set_option maxRecDepth 100000
set_option linter.unusedSimpArgs false
theorem lim_same:sameL5 limC limC=true:=by kernel_rfl
theorem hasAll_lim {w:AW} (h:LimAt w):hasAll w laidL=true:=by
 obtain ⟨ro,h⟩:=h
 have h1:hasB w (0,limC,141)=true:=by
  unfold hasB
  simp only [h,lim_same,Nat.beq_refl,Bool.and_self]
 show (bif hasB w (0,limC,141) then true else false)=true
 rw [h1]; rfl
def HasW (ov:Ov):Prop:=∀ w,LimAt w→ov 19 [] w=some (.ok (.ret (.bool true)) w .none)
theorem ruleW {ov:Ov} (h:HasW ov) (m:Nat) {w:AW} (hw:LimAt w):(run Tryd.prog ov (m + 1)).call 19 [] w .none=.ok (.ret (.bool true)) w .none:=by
 show stepO Tryd.prog (run Tryd.prog ov m) 19 [] w .none (ov 19 [] w)=_
 rw [h w hw]; rfl
def curC (rv dv:Value) (b:CBox) (av:Value):List Value:=[rv,dv,.int .i64 b.wl,.int .i64 b.wh,.int .i64 b.sl,.int .i64 b.sh,av]
end Go.Proofs.YtlkklcbjjompbaaDoor.walk
