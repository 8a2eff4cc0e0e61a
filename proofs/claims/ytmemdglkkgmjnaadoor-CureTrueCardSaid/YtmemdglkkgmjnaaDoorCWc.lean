/- Part of a proof by a machine of ones own: see the text with the theorem. -/
import Derived.Test.YtmemdglkkgmjnaaDoorCWb
import Derived.Test.YtmemdglkkgmjnaaDoorShF
namespace Go.Proofs.YtmemdglkkgmjnaaDoor.walk
open Go Go.Sh
set_option maxRecDepth 100000
set_option linter.unusedSimpArgs false
theorem div_le {c b:Int} (hc:0≤c) (hb:0 < b):0≤c / b∧c / b≤c:=by
 refine ⟨Int.ediv_nonneg hc (by omega),?_⟩
 exact Int.ediv_le_self _ hc
def S61:PSpec where
 R args _ v:=∃ x s:Int,args=[.int .i64 x,.int .i64 s]∧(1≤s∧s≤x∧x≤1000000)∧v=.int .i64 (moI x s)
 uniq:=by rintro _ _ _ _ ⟨c,b,rfl,_,rfl⟩ ⟨c',b',h,_,rfl⟩; cases h; rfl
 shut h:=h
theorem mo_bd {x s:Int} (h:1≤s∧s≤x∧x≤1000000):0≤moI x s∧moI x s≤1001000000:=by
 have:=div_le (c:=1000 * (x - s) + x - 1) (b:=x) (by omega) (by omega)
 unfold moI; omega
theorem run84 {ov:Ov} (ho:∀ args w,ov 84 args w=none) (x s:Int) (h:1≤s∧s≤x∧x≤1000000) (w:AW):∃ v w',(run Tryd.prog ov 2).call 84 [.int .i64 x,.int .i64 s] w .none=.ok (.ret v) w' .none∧v=.int .i64 (moI x s):=by
 refine call_wp text84 (by simp) (ho _ _) ?_
 have w1:IntKind.wrap .i64 (x - s)=x - s:=wrap64_in (by omega) (by omega)
 have w2:IntKind.wrap .i64 (1000 * (x - s))=1000 * (x - s):=wrap64_in (by omega) (by omega)
 have w3:IntKind.wrap .i64 (1000 * (x - s) + x)=1000 * (x - s) + x:=wrap64_in (by omega) (by omega)
 have w4:IntKind.wrap .i64 (1000 * (x - s) + x - 1)=1000 * (x - s) + x - 1:=wrap64_in (by omega) (by omega)
 have hx:x ≠ 0:=by omega
 have hb:=mo_bd h
 have e:(1000 * (x - s) + x - 1).tdiv x=moI x s:=by rw [Int.tdiv_eq_ediv_of_nonneg (by omega)]; rfl
 have w5:IntKind.wrap .i64 (moI x s)=moI x s:=wrap64_in (by omega) (by omega)
 simp [mc84,bin_quo (h:=hx),w1,w2,w3,w4,w5,e,tupV]
end Go.Proofs.YtmemdglkkgmjnaaDoor.walk
namespace Go.Proofs.YtmemdglkkgmjnaaDoor.walk
open Go Go.Sh
set_option maxRecDepth 100000
set_option linter.unusedSimpArgs false
theorem list28:isList Tryd.prog 28=true:=by kernel_rfl
theorem small3:smallT Tryd.prog 3=true:=by kernel_rfl
theorem sing_int (z:Int):singles (intC z)=true:=rfl
def LossOk (ls:List Int):Prop:=∀ x ∈ ls,0≤x∧x≤10000
theorem sum_bd {ls:List Int} (h:LossOk ls):0≤ls.sum∧ls.sum≤10000 * (ls.length:Int):=by
 induction ls with
 | nil=>simp
 | cons x l ih =>
  have h1:=h x List.mem_cons_self
  have h2:=ih fun y hy=>h y (List.mem_cons_of_mem _ hy)
  simp only [List.sum_cons,List.length_cons]; omega
theorem call83 {ov:Ov} (m:Nat) (ho:∀ args w,ov 83 args w=none) (ws s:Int) (ls:List Int) (hws:0≤ws∧ws≤1000000) (hls:LossOk ls) (hlen:ls.length≤14) (lv:Value) (we:AW) (hlim:we.lim≤we.next) (hlv:RowsV intC we lv ls) :
  ∃ v w',(run Tryd.prog ov (m + 1)).call 83 [.agg ⟨[.int .i64 ws,.int .i64 s,lv]⟩] we .none=.ok (.ret v) w' .none∧AccR intC 3 we.next w' v (wtsL ws ls)∧Up we w':=by
 refine call_wp text83 (by simp) (ho _ _) ?_
 have hl3:=fun w2=>len28V (w':=w2) hlv
 simp [mc83,cellsOf_agg,hl3]
 refine wp_seqX (wp_blockX (wp_rounds (fun i t w=>AccR intC 3 we.next w (tget t 3) (wtsL ws (ls.take i))∧Up we w∧we.next < w.next∧tget t 10=lv∧tget t 11=.int .i64 (ls.length:Nat)∧tget t 12=.int .i64 (i:Nat)∧i≤ls.length) 20 (by decide) ?_ ?_))
 ·refine ⟨.inr ⟨we.next + 1,?_,?_,?_,?_,?_⟩,((Up.refl we).add _).put (Nat.le_succ _) (Nat.le_succ _),?_,?_,?_,?_,Nat.zero_le _⟩
  ·simp [wtsL]
  ·simp [wtsL,intC]
  ·omega
  ·show we.next + 1 < we.next + 1 + 1; omega
  ·simp [wtsL]
  ·show we.next < we.next + 1 + 1; omega
  ·simp
  ·simp
  ·simp
 ·rintro i t w ⟨hacc,hup,hnx,t10,t11,t12,hi⟩
  by_cases hlt:i < ls.length
  ·obtain ⟨x,hx⟩:∃ p,ls[i]?=some p:=⟨_,List.getElem?_eq_getElem hlt⟩
   have hxb:=hls x (List.mem_of_getElem? hx)
   obtain ⟨b,off,sq,c,rfl,hra⟩:=hlv.at_ i hlt
   have hld:=hra.int hx
   rw [← hup.at hra.2] at hld
   have hia:=fun w=>ia28 w ⟨b,off,sq⟩ ls.length c .i64 i hlt
   simp only [Nat.mul_one] at hia
   have hll:(wtsL ws (ls.take i)).length=i + 1:=by rw [wtsL_length,List.length_take]; omega
   obtain ⟨B,off2,sq2,c2,hv3,hrb⟩:=hacc.rows.at_ i (by omega)
   have hat:(wtsL ws (ls.take i))[i]?=some (ws - (ls.take i).sum):=by
    rw [wtsL_at _ _ _ (by rw [List.length_take]; omega),List.take_take,Nat.min_self]
   have hlb:=hrb.int hat
   have hib:=fun w=>ia28 w ⟨B,off2,sq2⟩ (wtsL ws (ls.take i)).length c2 .i64 i (by omega)
   simp only [Nat.mul_one] at hib
   have hsb:=sum_bd (ls:=ls.take i) fun y hy=>hls y (List.mem_of_mem_take hy)
   have hsl:(ls.take i).length=i:=by rw [List.length_take]; omega
   rw [hsl] at hsb
   have hw1:IntKind.wrap .i64 ((i:Int) + 1)=(i:Int) + 1:=wrap64_in (by omega) (by omega)
   have hw2:IntKind.wrap .i64 (ws - (ls.take i).sum - x)=ws - (ls.take i).sum - x:=wrap64_in (by omega) (by omega)
   have hlm:w.lim≤we.next:=by have:=hup.lim; omega
   obtain ⟨v',w',ha,hacc',hkp,hn',hl'⟩:=AccR.push (P:=Tryd.prog) (st:=28) (sz:=1) list28 elem28 sz3 small3 intC_length sing_int (by decide) hacc hlm hnx (by omega) (ws - (ls.take i).sum - x)
   rw [hv3] at ha
   simp only [intC] at ha
   simp [mc83_l0,t10,t11,t12,hlt,hia,hld,hv3,hib,hlb,hw1,hw2,ha]
   have e:wtsL ws (ls.take (i + 1))=wtsL ws (ls.take i)++[ws - (ls.take i).sum - x]:=by rw [take_snoc hx,wtsL_snoc]
   refine ⟨by omega,by rw [e]; exact hacc',⟨fun y hy=>by rw [hkp y (by omega)]; exact hup.old y hy,by omega,by have:=hup.lim; omega⟩,by omega,hlt⟩
  ·have hi':i=ls.length:=by omega
   subst hi'
   rw [List.take_length] at hacc
   have nj:=hacc.ok
   simp [mc83_l0,t11,t12,nj,tupV]
   exact ⟨hacc,hup⟩
def spC (p:Sp):List Value:=[.int .i64 p.1,.int .i64 p.2]
@[simp] theorem spC_length (p:Sp):(spC p).length=2:=rfl
theorem spC_inj (a b:Sp) (h:spC a=spC b):a=b:=by
 cases a; cases b; simpa [spC] using h
end Go.Proofs.YtmemdglkkgmjnaaDoor.walk
namespace Go.Proofs.YtmemdglkkgmjnaaDoor.walk
open Go Go.Sh
set_option maxRecDepth 100000
set_option linter.unusedSimpArgs false
theorem mk43 (n:Nat) (hn:n≤1000) (w:AW):makeSliceA Tryd.prog w 43 (.int .i64 (n:Int)) (.int .i64 (n:Int))=.val (.slice (some ⟨w.next,0,none⟩) n n) ⟨w.heap.put w.next (some (.cells ((List.replicate n ((0,0):Sp)).flatMap spC) 25 false)),w.next + 1,w.lim⟩:=by
 rw [make_eq (e:=25) (z:=.agg ⟨[.int .i64 0,.int .i64 0]⟩) (by kernel_rfl) (by kernel_rfl) (by kernel_rfl) n hn w,← repl_flat]; rfl
def partL (L:List Sp) (n i:Nat):List Sp:=L.take i++List.replicate (n - i) (0,0)
theorem part_zero (L:List Sp) (n:Nat):partL L n 0=List.replicate n (0,0):=by simp [partL]
theorem part_full (L:List Sp):partL L L.length L.length=L:=by simp [partL]
theorem part_length {L:List Sp} {i:Nat} (h:i≤L.length):(partL L L.length i).length=L.length:=by simp [partL]; omega
theorem part_set {L:List Sp} {i:Nat} {x:Sp} (h:L[i]?=some x):(partL L L.length i).set i x=partL L L.length (i + 1):=by
 have hi:=(List.getElem?_eq_some_iff.1 h).1
 unfold partL
 rw [take_snoc h]
 obtain ⟨k,hk⟩:∃ k,L.length - i=k + 1:=⟨L.length - i - 1,by omega⟩
 rw [hk,List.replicate_succ,List.set_append_right _ _ (by rw [List.length_take]; omega)]
 rw [show i - (L.take i).length=0 by rw [List.length_take]; omega,List.set_cons_zero,show L.length - (i + 1)=k by omega]
 simp
def ProcV (w:AW) (pv:Value) (L:List Sp):Prop:=∃ B,pv=.slice (some ⟨B,0,none⟩) L.length L.length∧w.heap.get B=some (.cells (L.flatMap spC) 25 false)∧B < w.next
theorem ProcV.rows {w:AW} {pv:Value} {L:List Sp} (h:ProcV w pv L):RowsV spC w pv L:=by
 obtain ⟨B,rfl,h1,h2⟩:=h
 exact .inr ⟨B,0,none,_,rfl,⟨[],[],25,false,by simpa using h1,rfl⟩,h2⟩
theorem ProcV.up {w w':AW} {pv:Value} {L:List Sp} (h:ProcV w pv L) (u:Up w w'):ProcV w' pv L:=by
 obtain ⟨B,rfl,h1,h2⟩:=h
 exact ⟨B,rfl,by rw [u.at h2]; exact h1,Nat.lt_of_lt_of_le h2 u.next⟩
def procC (b:CBox) (pv:Value):List Value:=[.int .i64 b.wl,.int .i64 b.wh,.int .i64 b.sl,.int .i64 b.sh,pv]
set_option maxHeartbeats 1000000 in
theorem call57 {ov:Ov} (m:Nat) (ho:∀ args w,ov 57 args w=none) (r:List CAct) (acts:List Int) (hact:∀ a ∈ acts,0≤a∧∃ x,r[a.toNat]?=some x) (hlen:acts.length≤14) (b:CBox) (rv av:Value) (we:AW) (hlim:we.lim≤we.next) (hrv:RowsV actC we rv r) (hav:RowsV intC we av acts) :
  ∃ v w',(run Tryd.prog ov (m + 1)).call 57 [rv,.agg ⟨boxC b⟩,av] we .none=.ok (.ret v) w' .none∧∃ pv,v=.agg ⟨procC b pv⟩∧ProcV w' pv (lossL r acts)∧Up we w':=by
 refine call_wp text57 (by simp) (ho _ _) ?_
 have hl3:=fun w2=>len28V (w':=w2) hav
 have hLl:(lossL r acts).length=acts.length:=by simp [lossL]
 have sm:sameVal 5 (.agg ⟨[.int .i64 b.wl,.int .i64 b.wh,.int .i64 b.sl,.int .i64 b.sh]⟩) (.agg ⟨[.int .i64 b.wl,.int .i64 b.wh,.int .i64 b.sl,.int .i64 b.sh]⟩)=true:=same_agg _ (by
  intro v hv
  simp only [List.mem_cons,List.not_mem_nil,or_false] at hv
  rcases hv with rfl | rfl | rfl | rfl <;> exact sameN_int _ _ _)
 have q1:we.lim≤we.next + 1 + 1 + 1:=by omega
 have hmk:=fun w=>mk43 acts.length (by omega) w
 simp only [boxC]
 simp [mc57,cellsOf_agg,hl3,hmk,sm,q1]
 refine wp_seqX (wp_blockX (wp_rounds (fun i t w=>w.heap.get (we.next + 1 + 1)=some (.cells ((partL (lossL r acts) (lossL r acts).length i).flatMap spC) 25 false)∧w.heap.get (we.next + 1 + 1 + 1)=some (.cells [.int .i64 b.wl,.int .i64 b.wh,.int .i64 b.sl,.int .i64 b.sh,.slice (some ⟨we.next + 1 + 1,0,none⟩) acts.length acts.length] 97 false)∧w.heap.get (we.next + 1)=some (.cells [.int .i64 0,.int .i64 0,.int .i64 0,.int .i64 0,.slice none 0 0] 97 false)∧Up we w∧we.next + 4≤w.next∧tget t 0=rv∧tget t 2=av∧tget t 6=.pointer (some ⟨we.next + 1,0,none⟩)∧tget t 7=.pointer (some ⟨we.next + 1 + 1 + 1,0,none⟩)∧tget t 15=.int .i64 (acts.length:Nat)∧tget t 16=.int .i64 (i:Nat)∧i≤acts.length) 20 (by decide) ?_ ?_))
 ·refine ⟨?_,?_,?_,?_,?_,?_,?_,?_,?_,?_,?_,Nat.zero_le _⟩
  ·rw [part_zero,hLl]; simp
  ·simp
  ·simp
  ·exact (((((Up.refl we).add _).put (Nat.le_succ _) (Nat.le_succ _)).put (by show we.next≤we.next + 1 + 1; omega) (Nat.le_succ _)).put (by show we.next≤we.next + 1 + 1 + 1; omega) (Nat.le_succ _)).put (by show we.next≤we.next + 1 + 1 + 1; omega) (Nat.le_refl _)
  ·show we.next + 4≤we.next + 1 + 1 + 1 + 1; omega
  all_goals simp
 ·rintro i t w ⟨hB,h7,h6,hup,hnx,t0,t2,t6,t7,t15,t16,hi⟩
  have hlm:w.lim=we.lim:=hup.lim
  by_cases hlt:i < acts.length
  ·obtain ⟨a,ha⟩:∃ p,acts[i]?=some p:=⟨_,List.getElem?_eq_getElem hlt⟩
   obtain ⟨ha0,x,hx⟩:=hact a (List.mem_of_getElem? ha)
   obtain ⟨n,rfl⟩:∃ n:Nat,a=(n:Int):=⟨a.toNat,by omega⟩
   simp only [Int.toNat_natCast] at hx
   have hn:=(List.getElem?_eq_some_iff.1 hx).1
   obtain ⟨bb,off,sq,c,rfl,hra⟩:=hav.at_ i hlt
   obtain ⟨b2,off2,sq2,c2,rfl,hrb⟩:=hrv.at_ n hn
   have hld:=hra.int ha
   have f5:rdO (we.heap.get b2) (off2 + n * 7 + 5) 2=some [.int .i64 x.ll,.int .i64 x.lh]:=rdO_sub (hrb.rd actC_length hx) (j:=5) (k:=2) (by decide)
   rw [← hup.at hra.2] at hld
   rw [← hup.at hrb.2] at f5
   have hia:=fun w=>ia28 w ⟨bb,off,sq⟩ acts.length c .i64 i hlt
   simp only [Nat.mul_one] at hia
   have hib:=fun w=>ia22 w ⟨b2,off2,sq2⟩ r.length c2 .i64 n hn
   have hic:=fun w=>ia43 w ⟨we.next + 1 + 1,0,none⟩ acts.length acts.length .i64 i hlt
   have hw1:IntKind.wrap .i64 ((i:Int) + 1)=(i:Int) + 1:=wrap64_in (by omega) (by omega)
   have hLi:(lossL r acts)[i]?=some (x.ll,x.lh):=by
    unfold lossL
    rw [List.getElem?_map,ha]
    simp [hx]
   have hps:=part_set hLi
   have hfs:=flat_set spC_length (partL (lossL r acts) (lossL r acts).length i) i (x.ll,x.lh) (by rw [part_length (by omega)]; omega)
   rw [hps] at hfs
   have hfl:((partL (lossL r acts) (lossL r acts).length i).flatMap spC).length=acts.length * 2:=by rw [flat_length spC_length,part_length (by omega),hLl]
   obtain ⟨cs,hcs⟩:∃ cs,cs=(partL (lossL r acts) (lossL r acts).length i).flatMap spC:=⟨_,rfl⟩
   rw [← hcs] at hB hfs hfl
   simp only [spC,List.cons_append,List.nil_append] at hfs
   have q2:w.lim≤we.next + 1 + 1:=by omega
   have q3:i * 2 + 2≤acts.length * 2:=by omega
   have n1:¬ we.next + 1 + 1 + 1=we.next + 1 + 1:=by omega
   have n2:¬ we.next + 1=we.next + 1 + 1:=by omega
   simp [mc57_l0,t0,t2,t6,t7,t15,t16,hlt,h7,hia,hld,hib,f5,hic,hB,hfl,q2,q3,hw1,hfs]
   exact ⟨by omega,h6,hup.put (by omega) (Nat.le_refl _),hnx,hlt⟩
  ·have hi':i=acts.length:=by omega
   subst hi'
   have q2:w.lim≤we.next + 1:=by omega
   rw [← hLl,part_full] at hB
   simp [mc57_l0,t6,t7,t15,t16,h7,h6,q2,tupV]
   refine ⟨_,rfl,⟨we.next + 1 + 1,by rw [hLl],?_,by show we.next + 1 + 1 < w.next; omega⟩,hup.put (by omega) (Nat.le_refl _)⟩
   show (w.heap.put (we.next + 1) _).get (we.next + 1 + 1)=_
   rw [get_put,if_neg (by omega),hB]
end Go.Proofs.YtmemdglkkgmjnaaDoor.walk
namespace Go.Proofs.YtmemdglkkgmjnaaDoor.walk
open Go Go.Sh
set_option maxRecDepth 100000
set_option linter.unusedSimpArgs false
theorem len43V {w w':AW} {v:Value} {l:List Sp} (h:RowsV spC w v l):lenB Tryd.prog w' 43 v=.val (.int .i64 (l.length:Nat)) w':=by
 obtain ⟨a,c,rfl⟩:=h.len; simp
structure TruOk (b:CBox) (L:List Sp):Prop where
 box:boxB b=true
 len:L.length≤14
 sp:∀ p ∈ L,0≤p.1∧p.2≤10000
def S58:PSpec where
 R args w v:=∃ (pv lv:Value) (b:CBox) (L:List Sp) (ws s:Int) (ls:List Int),args=[.agg ⟨procC b pv⟩,.agg ⟨[.int .i64 ws,.int .i64 s,lv]⟩]∧RowsV spC w pv L∧RowsV intC w lv ls∧TruOk b L∧w.lim≤w.next∧v=.bool (truB b L ws s ls)
 uniq:=by
  rintro _ _ _ _ ⟨_,_,⟨_,_,_,_⟩,L,_,_,ls,rfl,h1,h2,_,_,rfl⟩ ⟨_,_,⟨_,_,_,_⟩,L',_,_,ls',h,k1,k2,_,_,rfl⟩
  simp only [procC,List.cons.injEq,Value.agg.injEq,Array.mk.injEq,Value.int.injEq,true_and,and_true] at h
  obtain ⟨⟨rfl,rfl,rfl,rfl,rfl⟩,rfl,rfl,rfl⟩:=h
  rw [h1.uniq (m:=2) spC_length spC_inj k1,h2.uniq (m:=1) intC_length intC_inj k2]
 shut:=fun ⟨a1,a2,a3,a4,a5,a6,a7,h1,h2,h3,h4,_,h5⟩=>⟨a1,a2,a3,a4,a5,a6,a7,h1,h2,h3,h4,Nat.le_refl _,h5⟩
theorem allIn_full {l:List Int} {m:List Sp} {i:Nat} (hi:i=l.length):allIn (l.take i) m=allIn l m:=by rw [hi,List.take_length]
theorem allIn_ok:∀ {l:List Int} {m:List Sp},l.length=m.length→(∀ p ∈ m,0≤p.1∧p.2≤10000)→allIn l m=true→LossOk l
 | [],_,_,_,_=>fun y hy=>by simp at hy
 | x::l,[],h,_,_=>by simp at h
 | x::l,p::m,h,hp,ha=>by
  have ha':(inI p.1 x p.2 && allIn l m)=true:=ha
  simp only [Bool.and_eq_true,inI,decide_eq_true_eq] at ha'
  have h1:=hp p List.mem_cons_self
  intro y hy
  rcases List.mem_cons.1 hy with rfl | hy
  ·omega
  ·exact allIn_ok (by simpa using h) (fun q hq=>hp q (List.mem_cons_of_mem _ hq)) ha'.2 y hy
theorem wts_last (ws:Int) (ls:List Int):(wtsL ws ls)[ls.length]?=some (ws - ls.sum):=by
 rw [wtsL_at ls ws ls.length (Nat.le_refl _),List.take_length]
set_option maxHeartbeats 1000000 in
theorem run58 {ov:Ov} (ho:∀ args w,ov 58 args w=none) (ho83:∀ args w,ov 83 args w=none) (h82:HasP ov 82 S82.F) (b:CBox) (L:List Sp) (ws s:Int) (ls:List Int) (hT:TruOk b L) (pv lv:Value) (w:AW) (hl:w.lim=w.next) (hpv:RowsV spC w pv L) (hlv:RowsV intC w lv ls):∃ x w',(run Tryd.prog ov 3).call 58 [.agg ⟨procC b pv⟩,.agg ⟨[.int .i64 ws,.int .i64 s,lv]⟩] w .none=.ok (.ret x) w' .none∧x=.bool (truB b L ws s ls):=by
 refine call_wp text58 (by simp) (ho _ _) ?_
 have hl1:=fun w2=>len43V (w':=w2) hpv
 have hl2:=fun w2=>len28V (w':=w2) hlv
 have r82:=fun n a b w=>S82.call (P:=Tryd.prog) h82 (m:=1) (w:=w) ⟨n,a,b,rfl,rfl⟩
 have hb:=hT.box
 simp only [boxB,spanI,Bool.and_eq_true,decide_eq_true_eq] at hb
 simp only [procC]
 cases k1:inI b.wl ws b.wh with
 | false =>
  have e:truB b L ws s ls=false:=by simp [truB,k1]
  simp [mc58,cellsOf_agg,r82,k1,e,tupV]
 | true =>
  cases k2:inI b.sl s b.sh with
  | false =>
   have e:truB b L ws s ls=false:=by simp [truB,k1,k2]
   simp [mc58,cellsOf_agg,r82,k1,k2,e,tupV]
  | true =>
   by_cases k3:ls.length=L.length
   case neg =>
    have k3':¬ (ls.length:Int)=L.length:=by omega
    have e:truB b L ws s ls=false:=by simp [truB,k1,k2,k3]
    simp [mc58,cellsOf_agg,r82,k1,k2,hl1,hl2,k3,k3',e,tupV]
   have eT:truB b L ws s ls=(allIn ls L && decide (s≤ws - ls.sum)):=by simp [truB,k1,k2,k3]
   obtain ⟨w1,hw1e⟩:∃ w1:AW,w1=⟨(w.heap.put w.next (some (.cells [.int .i64 b.wl,.int .i64 b.wh,.int .i64 b.sl,.int .i64 b.sh,pv] 97 false))).put (w.next + 1) (some (.cells [.int .i64 ws,.int .i64 s,lv] 32 false)),w.next + 1 + 1,w.lim⟩:=⟨_,rfl⟩
   have u1:Up w w1:=by rw [hw1e]; exact ((Up.refl w).add _).put (Nat.le_succ _) (Nat.le_succ _)
   have g2:w1.heap.get w.next=some (.cells [.int .i64 b.wl,.int .i64 b.wh,.int .i64 b.sl,.int .i64 b.sh,pv] 97 false):=by rw [hw1e]; simp
   have g3:w1.heap.get (w.next + 1)=some (.cells [.int .i64 ws,.int .i64 s,lv] 32 false):=by rw [hw1e]; simp
   have n1:w1.next=w.next + 1 + 1:=by rw [hw1e]
   have hlm1:w1.lim=w.lim:=u1.lim
   simp [mc58,cellsOf_agg,r82,k1,k2,hl1,hl2,k3]
   rw [← hw1e]
   refine wp_seqX (wp_blockX (wp_rounds (fun i t w'=>w'=w1∧tget t 2=.pointer (some ⟨w.next,0,none⟩)∧tget t 3=.pointer (some ⟨w.next + 1,0,none⟩)∧tget t 34=lv∧tget t 35=.int .i64 (L.length:Nat)∧tget t 36=.int .i64 (i:Nat)∧i≤L.length∧allIn (ls.take i) L=true) 20 (by decide) ⟨rfl,by simp,by simp,by simp,by simp,by simp,Nat.zero_le _,rfl⟩ ?_))
   rintro i t w' ⟨rfl,t2,t3,t34,t35,t36,hi,hall⟩
   by_cases hlt:i < L.length
   ·obtain ⟨p,hp⟩:∃ p,L[i]?=some p:=⟨_,List.getElem?_eq_getElem hlt⟩
    obtain ⟨x,hx⟩:∃ p,ls[i]?=some p:=⟨_,List.getElem?_eq_getElem (by omega)⟩
    obtain ⟨bb,off,sq,c,rfl,hra⟩:=hlv.at_ i (by omega)
    obtain ⟨b2,off2,sq2,c2,rfl,hrb⟩:=hpv.at_ i hlt
    have hld:=hra.int hx
    have hlp:=hrb.rd (m:=2) spC_length hp
    rw [← u1.at hra.2] at hld
    rw [← u1.at hrb.2] at hlp
    simp only [spC] at hlp
    have hia:=fun w=>ia28 w ⟨bb,off,sq⟩ ls.length c .i64 i (by omega)
    simp only [Nat.mul_one] at hia
    have hib:=fun w=>ia43 w ⟨b2,off2,sq2⟩ L.length c2 .i64 i hlt
    have h14:=hT.len
    have hw1:IntKind.wrap .i64 ((i:Int) + 1)=(i:Int) + 1:=wrap64_in (by omega) (by omega)
    have hsn:=allIn_take hx hp
    rw [hall,Bool.true_and] at hsn
    rw [← k3] at t35
    have hlt':i < ls.length:=by omega
    cases k4:inI p.1 x p.2 with
    | false =>
     rw [k4] at hsn
     have e:truB b L ws s ls=false:=by rw [eT,allIn_pre hsn,Bool.false_and]
     rw [e]
     simp [mc58_l0,t2,t3,t34,t35,t36,hlt',hia,hld,g2,hib,hlp,r82,k4,tupV]
    | true =>
     rw [k4] at hsn
     simp [mc58_l0,t2,t3,t34,t35,t36,hlt',hia,hld,g2,hib,hlp,r82,k4,hw1]
     exact ⟨by omega,by omega,hlt,hsn⟩
   ·have hi':i=L.length:=by omega
    subst hi'
    rw [← k3,allIn_full rfl] at hall
    have hls:=allIn_ok k3 hT.sp hall
    have h14:=hT.len
    simp only [inI,Bool.and_eq_true,decide_eq_true_eq] at k1
    obtain ⟨v83,w3,c83,hacc,hup⟩:=call83 (ov:=ov) 1 ho83 ws s ls (by omega) hls (by omega) lv w' (by omega) (hlv.up u1)
    have hwl:(wtsL ws ls).length=ls.length + 1:=wtsL_length ls ws
    obtain ⟨B,off2,sq2,c2,hv3,hrb⟩:=hacc.rows.at_ ls.length (by omega)
    have hlb:=hrb.int (wts_last ws ls)
    have hib:=fun w=>ia28 w ⟨B,off2,sq2⟩ (wtsL ws ls).length c2 .i64 ls.length (by omega)
    simp only [Nat.mul_one] at hib
    have hlv3:=fun w2=>len28V (w':=w2) hacc.rows
    rw [hv3] at c83 hlv3
    have g33:w3.heap.get (w.next + 1)=some (.cells [.int .i64 ws,.int .i64 s,lv] 32 false):=by rw [hup.at (by omega)]; exact g3
    have hwn:IntKind.wrap .i64 (((wtsL ws ls).length:Int) - 1)=(ls.length:Int):=by rw [wrap64_in (by omega) (by omega)]; omega
    simp only [Nat.reduceAdd] at c83
    rw [eT,hall,Bool.true_and]
    simp [mc58_l0,t2,t3,t35,t36,g3,c83,hlv3,hwn,hib,hlb,g33,tupV]
end Go.Proofs.YtmemdglkkgmjnaaDoor.walk
namespace Go.Proofs.YtmemdglkkgmjnaaDoor.walk
open Go Go.Sh
set_option maxRecDepth 100000
set_option linter.unusedSimpArgs false
def S84:PSpec:=S61
theorem mk28 (n:Nat) (hn:n≤1000) (w:AW):makeSliceA Tryd.prog w 28 (.int .i64 (n:Int)) (.int .i64 (n:Int))=.val (.slice (some ⟨w.next,0,none⟩) n n) ⟨w.heap.put w.next (some (.cells ((List.replicate n (0:Int)).flatMap intC) 3 false)),w.next + 1,w.lim⟩:=by
 rw [make_eq (e:=3) (z:=.int .i64 0) (by kernel_rfl) (by kernel_rfl) (by kernel_rfl) n hn w,← repl_flat]; rfl
def partI (L:List Int) (n i:Nat):List Int:=L.take i++List.replicate (n - i) 0
theorem partI_zero (L:List Int) (n:Nat):partI L n 0=List.replicate n 0:=by simp [partI]
theorem partI_full (L:List Int):partI L L.length L.length=L:=by simp [partI]
theorem partI_length {L:List Int} {i:Nat} (h:i≤L.length):(partI L L.length i).length=L.length:=by simp [partI]; omega
theorem partI_set {L:List Int} {i:Nat} {x:Int} (h:L[i]?=some x):(partI L L.length i).set i x=partI L L.length (i + 1):=by
 have hi:=(List.getElem?_eq_some_iff.1 h).1
 unfold partI
 rw [take_snoc h]
 obtain ⟨k,hk⟩:∃ k,L.length - i=k + 1:=⟨L.length - i - 1,by omega⟩
 rw [hk,List.replicate_succ,List.set_append_right _ _ (by rw [List.length_take]; omega)]
 rw [show i - (L.take i).length=0 by rw [List.length_take]; omega,List.set_cons_zero,show L.length - (i + 1)=k by omega]
 simp
theorem wts_bd {ws s:Int} {ls:List Int} (hls:LossOk ls) (hle:s≤ws - ls.sum) {i:Nat} {x:Int} (h:(wtsL ws ls)[i]?=some x):s≤x∧x≤ws:=by
 have hi:i≤ls.length:=by
  have:=(List.getElem?_eq_some_iff.1 h).1
  rw [wtsL_length] at this; omega
 rw [wtsL_at ls ws i hi] at h
 cases h
 have h1:=sum_bd (ls:=ls.take i) fun y hy=>hls y (List.mem_of_mem_take hy)
 have h2:=sum_bd (ls:=ls.drop i) fun y hy=>hls y (List.mem_of_mem_drop hy)
 have h3:ls.sum=(ls.take i).sum + (ls.drop i).sum:=by rw [← List.sum_append,List.take_append_drop]
 omega
def mosL (ws s:Int) (ls:List Int):List Int:=(wtsL ws ls).map fun x=>moI x s
set_option maxHeartbeats 1000000 in
theorem call59 {ov:Ov} (m:Nat) (ho:∀ args w,ov 59 args w=none) (ho83:∀ args w,ov 83 args w=none) (h84:HasP ov 84 S84.F) (ws s:Int) (ls:List Int) (hs:1≤s) (hws:ws≤1000000) (hle:s≤ws - ls.sum) (hls:LossOk ls) (hlen:ls.length≤14) (lv:Value) (we:AW) (hlim:we.lim≤we.next) (hlv:RowsV intC we lv ls) :
  ∃ v w',(run Tryd.prog ov (m + 2)).call 59 [.agg ⟨[.int .i64 ws,.int .i64 s,lv]⟩] we .none=.ok (.ret v) w' .none∧∃ v1 v2,v=.tuple ⟨[v1,v2]⟩∧RowsV intC w' v1 (wtsL ws ls)∧RowsV intC w' v2 (mosL ws s ls)∧Up we w'∧notJunk v1=some v1∧notJunk v2=some v2:=by
 refine call_wp text59 (by simp) (ho _ _) ?_
 have hsb:=sum_bd hls
 obtain ⟨w1,hw1e⟩:∃ w1:AW,w1=⟨we.heap.put we.next (some (.cells [.int .i64 ws,.int .i64 s,lv] 32 false)),we.next + 1,we.lim⟩:=⟨_,rfl⟩
 have u1:Up we w1:=by rw [hw1e]; exact (Up.refl we).add _
 have n1:w1.next=we.next + 1:=by rw [hw1e]
 have l1:w1.lim=we.lim:=u1.lim
 have g1:w1.heap.get we.next=some (.cells [.int .i64 ws,.int .i64 s,lv] 32 false):=by rw [hw1e]; simp
 obtain ⟨v83,w3,c83,hacc,hup⟩:=call83 (ov:=ov) m ho83 ws s ls (by omega) hls hlen lv w1 (by omega) (hlv.up u1)
 have hwl:(wtsL ws ls).length=ls.length + 1:=wtsL_length ls ws
 have nj:=hacc.ok
 have n3:we.next + 1≤w3.next:=by have:=hup.next; omega
 have l3:w3.lim=we.lim:=by rw [hup.lim,l1]
 have g3:w3.heap.get we.next=some (.cells [.int .i64 ws,.int .i64 s,lv] 32 false):=by rw [hup.at (by omega)]; exact g1
 obtain ⟨B,off2,sq2,c2,hv3,hrb⟩:=hacc.rows.at_ 0 (by omega)
 have hb3:=hrb.2
 have hlv3:=fun w2=>len28V (w':=w2) hacc.rows
 have hmk:=fun w=>mk28 (wtsL ws ls).length (by omega) w
 rw [hw1e] at c83
 simp [mc59,cellsOf_agg,c83,hlv3,hmk]
 refine wp_seqX (wp_blockX (wp_rounds (fun i t w=>w.heap.get w3.next=some (.cells ((partI (mosL ws s ls) (mosL ws s ls).length i).flatMap intC) 3 false)∧(∀ x,x < w3.next→w.heap.get x=w3.heap.get x)∧w3.next < w.next∧w.lim=we.lim∧tget t 1=.pointer (some ⟨we.next,0,none⟩)∧tget t 2=v83∧tget t 3=.slice (some ⟨w3.next,0,none⟩) (wtsL ws ls).length (wtsL ws ls).length∧tget t 11=v83∧tget t 12=.int .i64 ((wtsL ws ls).length:Nat)∧tget t 13=.int .i64 (i:Nat)∧i≤(wtsL ws ls).length) 20 (by decide) ?_ ?_))
 ·refine ⟨?_,?_,?_,?_,?_,?_,?_,?_,?_,?_,Nat.zero_le _⟩
  ·rw [partI_zero]; simp [mosL]
  ·intro x hx
   show (w3.heap.put w3.next _).get x=_
   rw [get_put,if_neg (by omega)]
  ·exact Nat.lt_succ_self _
  ·exact l3
  all_goals simp
 ·rintro i t w ⟨hB,hold,hnx,hlm,t1,t2,t3,t11,t12,t13,hi⟩
  have hml:(mosL ws s ls).length=(wtsL ws ls).length:=by simp [mosL]
  by_cases hlt:i < (wtsL ws ls).length
  ·obtain ⟨x,hx⟩:∃ p,(wtsL ws ls)[i]?=some p:=⟨_,List.getElem?_eq_getElem hlt⟩
   have hxb:=wts_bd hls hle hx
   have hmx:(mosL ws s ls)[i]?=some (moI x s):=by unfold mosL; rw [List.getElem?_map,hx]; rfl
   have r84:=fun w=>S61.call (P:=Tryd.prog) h84 (m:=m) (w:=w) ⟨x,s,rfl,by omega,rfl⟩
   have hld:=hrb.int hx
   rw [← hold B hb3] at hld
   have hia:=fun w=>ia28 w ⟨B,off2,sq2⟩ (wtsL ws ls).length c2 .i64 i hlt
   have hib:=fun w=>ia28 w ⟨w3.next,0,none⟩ (wtsL ws ls).length (wtsL ws ls).length .i64 i hlt
   simp only [Nat.mul_one] at hia hib
   have g1w:w.heap.get we.next=some (.cells [.int .i64 ws,.int .i64 s,lv] 32 false):=by rw [hold _ (by omega)]; exact g3
   have hw1:IntKind.wrap .i64 ((i:Int) + 1)=(i:Int) + 1:=wrap64_in (by omega) (by omega)
   have hps:=partI_set hmx
   have hfs:=flat_set intC_length (partI (mosL ws s ls) (mosL ws s ls).length i) i (moI x s) (by rw [partI_length (by omega)]; omega)
   rw [hps] at hfs
   have hfl:((partI (mosL ws s ls) (mosL ws s ls).length i).flatMap intC).length=(wtsL ws ls).length:=by rw [flat_length intC_length,partI_length (by omega),hml]; omega
   obtain ⟨cs,hcs⟩:∃ cs,cs=(partI (mosL ws s ls) (mosL ws s ls).length i).flatMap intC:=⟨_,rfl⟩
   rw [← hcs] at hB hfs hfl
   simp only [intC,List.cons_append,List.nil_append,Nat.mul_one] at hfs
   have q2:w.lim≤w3.next:=by omega
   have q3:i + 1≤(wtsL ws ls).length:=hlt
   rw [hv3] at t11
   simp [mc59_l0,t1,t2,t3,t11,t12,t13,hlt,g1w,hia,hld,r84,hib,hB,hfl,q2,q3,hw1,hfs]
   exact ⟨by omega,fun x hx=>by rw [if_neg (by omega)]; exact hold x hx,hnx,hlm,hv3.symm⟩
  ·have hi':i=(wtsL ws ls).length:=by omega
   subst hi'
   rw [← hml,partI_full] at hB
   have nj2:notJunk (.slice (some ⟨w3.next,0,none⟩) (wtsL ws ls).length (wtsL ws ls).length)=some (.slice (some ⟨w3.next,0,none⟩) (wtsL ws ls).length (wtsL ws ls).length):=rfl
   have u4:Up w3 w:=⟨hold,Nat.le_of_lt hnx,by rw [hlm,l3]⟩
   simp [mc59_l0,t2,t3,t11,t12,t13,nj,nj2,tupV]
   refine ⟨_,_,⟨rfl,rfl⟩,hacc.rows.up u4,.inr ⟨w3.next,0,none,_,by rw [hml],⟨[],[],3,false,by simpa using hB,rfl⟩,hnx⟩,(u1.trans hup).trans u4,nj,nj2⟩
end Go.Proofs.YtmemdglkkgmjnaaDoor.walk
namespace Go.Proofs.YtmemdglkkgmjnaaDoor.walk
open Go Go.Sh
set_option maxRecDepth 100000
set_option linter.unusedSimpArgs false
def folE (r:List CAct) (d:List CDay) (b:CBox) (acts:List Int) (ws s:Int) (ls:List Int):Int:=if actE r d b acts=0 then (if truB b (lossL r acts) ws s ls=true then 0 else 66) else actE r d b acts
def folW (r:List CAct) (d:List CDay) (b:CBox) (acts:List Int) (ws s:Int) (ls:List Int):List Int:=if folE r d b acts ws s ls=0 then wtsL ws ls else []
def folM (r:List CAct) (d:List CDay) (b:CBox) (acts:List Int) (ws s:Int) (ls:List Int):List Int:=if folE r d b acts ws s ls=0 then mosL ws s ls else []
theorem tru_ok {r:List CAct} {d:List CDay} {b:CBox} {acts:List Int} (h:actE r d b acts=0):TruOk b (lossL r acts)∧acts.length≤14∧∀ a ∈ acts,0≤a∧∃ x,r[a.toNat]?=some x:=by
 obtain ⟨hR,hD,hB,s,hs⟩:=act_ofE h
 have hl:=stg_len hR hs
 have hd:=days_len hD
 have ha:=stg_acts _ _ _ hs
 refine ⟨⟨hB,by simp [lossL]; omega,fun p hp=>?_⟩,by omega,ha⟩
 simp only [lossL,List.mem_map] at hp
 obtain ⟨a,ham,rfl⟩:=hp
 obtain ⟨_,x,hx⟩:=ha a ham
 rw [hx]
 obtain ⟨_,_,k,_⟩:=act_of hR hx
 simp only [spanI,Bool.and_eq_true,decide_eq_true_eq] at k
 simp only; omega
theorem tru_of {b:CBox} {L:List Sp} {ws s:Int} {ls:List Int} (hT:TruOk b L) (h:truB b L ws s ls=true):1≤s∧ws≤1000000∧s≤ws - ls.sum∧LossOk ls∧ls.length=L.length:=by
 have hb:=hT.box
 simp only [boxB,spanI,Bool.and_eq_true,decide_eq_true_eq] at hb
 simp only [truB,inI,Bool.and_eq_true,decide_eq_true_eq] at h
 obtain ⟨h1,h2,h3,h4,h5⟩:=h
 exact ⟨by omega,by omega,h5,allIn_ok h3 hT.sp h4,h3⟩
set_option maxHeartbeats 1000000 in
theorem call16 {ov:Ov} (m:Nat) (ho:∀ args w,ov 16 args w=none) (ho57:∀ args w,ov 57 args w=none) (ho59:∀ args w,ov 59 args w=none) (ho83:∀ args w,ov 83 args w=none) (h56:HasP ov 56 S56.F) (h58:HasP ov 58 S58.F) (h84:HasP ov 84 S84.F) (r:List CAct) (d:List CDay) (b:CBox) (acts:List Int) (ws s:Int) (ls:List Int) (rv dv av lv:Value) (we:AW) (hlim:we.lim≤we.next) (hL:LimW we) (hrv:RowsV actC we rv r) (hdv:RowsV cdayC we dv d) (hav:RowsV intC we av acts) (hlv:RowsV intC we lv ls) :
  ∃ v w',(run Tryd.prog ov (m + 3)).call 16 [rv,dv,.agg ⟨boxC b⟩,av,.agg ⟨[.int .i64 ws,.int .i64 s,lv]⟩] we .none=.ok (.ret v) w' .none∧∃ v1 v2,v=.tuple ⟨[v1,v2,.int .i64 (folE r d b acts ws s ls)]⟩∧RowsV intC w' v1 (folW r d b acts ws s ls)∧RowsV intC w' v2 (folM r d b acts ws s ls)∧Up we w':=by
 refine call_wp text16 (by simp) (ho _ _) ?_
 obtain ⟨w1,hw1e⟩:∃ w1:AW,w1=⟨(we.heap.put we.next (some (.cells [.int .i64 b.wl,.int .i64 b.wh,.int .i64 b.sl,.int .i64 b.sh] 27 false))).put (we.next + 1) (some (.cells [.int .i64 ws,.int .i64 s,lv] 32 false)),we.next + 1 + 1,we.lim⟩:=⟨_,rfl⟩
 have u1:Up we w1:=by rw [hw1e]; exact ((Up.refl we).add _).put (Nat.le_succ _) (Nat.le_succ _)
 have g7:w1.heap.get we.next=some (.cells [.int .i64 b.wl,.int .i64 b.wh,.int .i64 b.sl,.int .i64 b.sh] 27 false):=by rw [hw1e]; simp
 have g9:w1.heap.get (we.next + 1)=some (.cells [.int .i64 ws,.int .i64 s,lv] 32 false):=by rw [hw1e]; simp
 have n1:w1.next=we.next + 1 + 1:=by rw [hw1e]
 have l1:w1.lim=we.lim:=u1.lim
 have r56:=S56.call (P:=Tryd.prog) h56 (m:=m + 1) ⟨rv,dv,av,r,d,b,acts,rfl,hrv.up u1,hdv.up u1,hav.up u1,hL.up u1,by omega,rfl⟩
 have nn:notJunk (.slice none 0 0)=some (.slice none 0 0):=rfl
 simp only [boxC] at r56 ⊢
 by_cases hA:actE r d b acts=0
 ·obtain ⟨hT,h14,hact⟩:=tru_ok hA
  rw [hA,hw1e] at r56
  obtain ⟨_,w2,c57,pv,rfl,hproc,u2⟩:=call57 (ov:=ov) (m + 1) ho57 r acts hact h14 b rv av w1 (by omega) (hrv.up u1) (hav.up u1)
  have hpv:=hproc.rows
  obtain ⟨p1,rfl,_,_⟩:=hproc
  have g92:w2.heap.get (we.next + 1)=some (.cells [.int .i64 ws,.int .i64 s,lv] 32 false):=by rw [u2.at (by omega)]; exact g9
  have hn2:=u2.next
  have hl2:=u2.lim
  have r58:=S58.call (P:=Tryd.prog) h58 (m:=m + 1) ⟨_,lv,b,lossL r acts,ws,s,ls,rfl,hpv,hlv.up (u1.trans u2),hT,by omega,rfl⟩
  obtain ⟨q1,q2,rfl⟩:=hlv.len
  have sm:sameVal 5 (.agg ⟨[.int .i64 ws,.int .i64 s,.slice q1 ls.length q2]⟩) (.agg ⟨[.int .i64 ws,.int .i64 s,.slice q1 ls.length q2]⟩)=true:=same_agg _ (by
   intro v hv
   simp only [List.mem_cons,List.not_mem_nil,or_false] at hv
   rcases hv with rfl | rfl | rfl
   ·exact sameN_int _ _ _
   ·exact sameN_int _ _ _
   ·exact sameN_slice _ _ _ _)
  simp only [procC,boxC,hw1e] at c57 r58
  cases hB:truB b (lossL r acts) ws s ls with
  | false =>
   have e1:folE r d b acts ws s ls=66:=by simp [folE,hA,hB]
   have e2:folW r d b acts ws s ls=[]:=by simp [folW,e1]
   have e3:folM r d b acts ws s ls=[]:=by simp [folM,e1]
   rw [hB] at r58
   simp [mc16,cellsOf_agg,r56,c57,g92,sm,r58,nn,tupV,e1,e2,e3]
   exact ⟨_,_,⟨rfl,rfl⟩,.inl ⟨rfl,_,_,rfl⟩,.inl ⟨rfl,_,_,rfl⟩,u1.trans u2⟩
  | true =>
   obtain ⟨k1,k2,k3,k4,k5⟩:=tru_of hT hB
   have hLl:(lossL r acts).length=acts.length:=by simp [lossL]
   obtain ⟨_,w4,c59,v1,v2,rfl,hv1,hv2,u4,j1,j2⟩:=call59 (ov:=ov) m ho59 ho83 h84 ws s ls k1 k2 k3 k4 (by omega) _ w2 (by omega) (hlv.up (u1.trans u2))
   have e1:folE r d b acts ws s ls=0:=by simp [folE,hA,hB]
   have e2:folW r d b acts ws s ls=wtsL ws ls:=by simp [folW,e1]
   have e3:folM r d b acts ws s ls=mosL ws s ls:=by simp [folM,e1]
   rw [hB] at r58
   simp [mc16,cellsOf_agg,r56,c57,g92,sm,r58,c59,j1,j2,tupV,e1,e2,e3]
   exact ⟨_,_,⟨rfl,rfl⟩,hv1,hv2,(u1.trans u2).trans u4⟩
 ·rw [hw1e] at r56
  have e1:folE r d b acts ws s ls=actE r d b acts:=by simp [folE,hA]
  have e2:folW r d b acts ws s ls=[]:=by simp [folW,e1,hA]
  have e3:folM r d b acts ws s ls=[]:=by simp [folM,e1,hA]
  simp [mc16,cellsOf_agg,r56,hA,nn,tupV,e1,e2,e3]
  rw [hw1e] at u1
  exact ⟨_,_,⟨rfl,rfl⟩,.inl ⟨rfl,_,_,rfl⟩,.inl ⟨rfl,_,_,rfl⟩,u1⟩
end Go.Proofs.YtmemdglkkgmjnaaDoor.walk
namespace Go.Proofs.YtmemdglkkgmjnaaDoor.walk
open Go Go.Sh
set_option maxRecDepth 100000
set_option linter.unusedSimpArgs false
end Go.Proofs.YtmemdglkkgmjnaaDoor.walk
namespace Go.Proofs.YtmemdglkkgmjnaaDoor.walk
open Go Go.Sh
set_option maxRecDepth 100000
set_option linter.unusedSimpArgs false
theorem lim_same:sameL5 limC limC=true:=by kernel_rfl
theorem hasAll_lim {w:AW} (h:LimAt w):hasAll w laidL=true:=by
 obtain ⟨ro,h⟩:=h
 have h1:hasB w (0,limC,141)=true:=by
  unfold hasB
  simp only [h,lim_same,Nat.beq_refl,Bool.and_self]
 show (bif hasB w (0,limC,141) then true else false)=true
 rw [h1]; rfl
def HasW (ov:Ov):Prop:=∀ w,LimAt w→ov 19 [] w=some (.ok (.ret (.bool true)) w .none)
theorem ruleW {ov:Ov} (h:HasW ov) (m:Nat) {w:AW} (hw:LimAt w):(run Tryd.prog ov (m + 1)).call 19 [] w .none=.ok (.ret (.bool true)) w .none:=by
 show stepO Tryd.prog (run Tryd.prog ov m) 19 [] w .none (ov 19 [] w)=_
 rw [h w hw]; rfl
def curC (rv dv:Value) (b:CBox) (av:Value):List Value:=[rv,dv,.int .i64 b.wl,.int .i64 b.wh,.int .i64 b.sl,.int .i64 b.sh,av]
end Go.Proofs.YtmemdglkkgmjnaaDoor.walk
