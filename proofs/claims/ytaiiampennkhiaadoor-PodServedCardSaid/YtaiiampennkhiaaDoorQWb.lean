/- Part of a proof by a machine of ones own: see the text with the theorem. -/
import Derived.Test.YtaiiampennkhiaaDoorQWa
namespace Go.Proofs.YtaiiampennkhiaaDoor.walk
open Go Go.Sh
open known (partsC laidL noOv)
set_option maxRecDepth 100000
theorem same_yl (y:Yl):sameVal 5 (.agg ⟨ylC y⟩) (.agg ⟨ylC y⟩)=true:=same_ints [y.ripe,y.green,y.split,y.left]
structure In77 (H0:T AObj) (n0:Nat) (s:Yl × Yl) (w:AW):Prop where
 old:Old n0 H0 w.heap
 lo:w.heap.get (n0 + 1)=some (.cells (ylC s.1) 37 false)
 hi:w.heap.get (n0 + 2)=some (.cells (ylC s.2) 37 false)
 next:n0 + 2 < w.next
 lim:w.lim≤n0
theorem fold_snoc {l:List Yl} {i:Nat} {y:Yl} (h:l[i]?=some y) (s:Yl × Yl):(l.take (i + 1)).foldl stepE s=stepE ((l.take i).foldl stepE s) y:=by
 rw [List.take_add_one,h,List.foldl_append]
 rfl
set_option maxHeartbeats 1000000 in
theorem loop77 {ov:Ov} (ys:List Yl) (hlen:ys.length≤10000) (s0:Yl × Yl) (H0:T AObj) (n0:Nat) (v:Value) (hv:∀ i,i < ys.length→∃ b off sq c,v=.slice (some ⟨b,off,sq⟩) ys.length c∧RowsA ylC H0 n0 b off ys)
  (Q:Ex→Tm→AW→Prop) (t:Tm) (w:AW) (hw:In77 H0 n0 s0 w)
  (t4:tget t 4=.pointer (some ⟨n0 + 1,0,none⟩)) (t5:tget t 5=.pointer (some ⟨n0 + 2,0,none⟩)) (t10:tget t 10=v) (t11:tget t 11=.int .i64 (ys.length:Nat)) (t12:tget t 12=.int .i64 0)
  (hQ:∀ t w,tget t 4=.pointer (some ⟨n0 + 1,0,none⟩)→tget t 5=.pointer (some ⟨n0 + 2,0,none⟩)→In77 H0 n0 (ys.foldl stepE s0) w→Q (.exit 0) t w) (m:Nat):wp (exM Tryd.prog (run Tryd.prog ov m) (.loop mc77_l0) t w) Q:=by
 refine wp_rounds (fun i t w=>tget t 4=.pointer (some ⟨n0 + 1,0,none⟩)∧tget t 5=.pointer (some ⟨n0 + 2,0,none⟩)∧tget t 10=v∧tget t 11=.int .i64 (ys.length:Nat)∧tget t 12=.int .i64 (i:Nat)∧i≤ys.length∧In77 H0 n0 ((ys.take i).foldl stepE s0) w) 20000 (by decide) ⟨t4,t5,t10,t11,t12,Nat.zero_le _,hw⟩ ?_
 clear t4 t5 t10 t11 t12 hw
 rintro i t w ⟨t4,t5,t10,t11,t12,hi,hw⟩
 by_cases hlt:i < ys.length
 ·obtain ⟨y,hyi⟩:∃ y,ys[i]?=some y:=⟨_,List.getElem?_eq_getElem hlt⟩
  obtain ⟨b,off,sq,c,rfl,hr⟩:=hv i hlt
  have hb:=hr.2
  have hld:=hr.rd (m:=4) ylC_length hyi
  rw [← hw.old b hb] at hld
  have n2:=hw.next
  have hlim:=hw.lim
  have hl1:w.lim≤w.next:=by omega
  have hl2:w.lim≤n0 + 1:=by omega
  have hl3:w.lim≤n0 + 2:=by omega
  have m1:¬ n0 + 1=w.next:=by omega
  have m2:¬ n0 + 2=w.next:=by omega
  have m3:¬ w.next=n0 + 1:=by omega
  have m4:¬ w.next=n0 + 2:=by omega
  have m5:¬ b=w.next:=by omega
  have hia:=fun w=>ia103 w ⟨b,off,sq⟩ ys.length c .i64 i hlt
  have hw1:IntKind.wrap .i64 ((i:Int) + 1)=(i:Int) + 1:=wrap64_in (by omega) (by omega)
  obtain ⟨s,hs⟩:∃ s,s=(ys.take i).foldl stepE s0:=⟨_,rfl⟩
  have hsn:=fold_snoc hyi s0
  rw [← hs] at hsn
  have hlo:=hw.lo
  have hhi:=hw.hi
  rw [← hs] at hlo hhi
  simp [mc77_l0,t4,t5,t10,t11,t12,hlt,hia,hld,hl1,hl2,hl3,m1,m2,m3,m4,m5,cellsOf_agg,hlo,hhi,ylC,hw1]
  refine ⟨by omega,hlt,⟨fun x hx=>?_,?_,?_,?_,?_⟩⟩
  ·have q1:¬ x=w.next:=by omega
   have q2:¬ x=n0 + 1:=by omega
   have q3:¬ x=n0 + 2:=by omega
   simp [q1,q2,q3]
   exact hw.old x hx
  ·rw [hsn]; simp [stepE,ylC]
  ·rw [hsn]; simp [stepE,ylC]
  ·show n0 + 2 < w.next + 1; omega
  ·exact hlim
 ·have hi':i=ys.length:=by omega
  subst hi'
  simp [mc77_l0,t11,t12]
  rw [List.take_length] at hw
  exact hQ _ _ (by simp [t4]) (by simp [t5]) hw
def endsV (s:Yl × Yl):Value:=.tuple ⟨[.agg ⟨ylC s.1⟩,.agg ⟨ylC s.2⟩]⟩
theorem run77 {ov:Ov} (ho:∀ args w,ov 77 args w=none) (y:Yl) (ys:List Yl) (hlen:ys.length≤10000) (v:Value) (w:AW) (hl:w.lim=w.next) (hv:RowsV ylC w v ys) :
  ∃ x w',(run Tryd.prog ov 2).call 77 [.agg ⟨ylC y⟩,v] w .none=.ok (.ret x) w' .none∧x=endsV (ys.foldl stepE (y,y)):=by
 refine call_wp text77 (by simp) (ho _ _) ?_
 obtain ⟨a,c,hvl⟩:=hv.len
 have hln:∀ w,lenB Tryd.prog w 103 v=.val (.int .i64 (ys.length:Nat)) w:=fun w=>by rw [hvl]; simp
 have s1:=same_yl y
 have hl1:w.lim≤w.next + 1:=by omega
 have hl2:w.lim≤w.next + 2:=by omega
 simp [mc77,hln,cellsOf_agg,hl1,hl2,s1]
 refine wp_seqX (wp_blockX (loop77 ys hlen (y,y) w.heap w.next v hv.at_ _ _ _ ⟨?_,?_,?_,?_,?_⟩ ?_ ?_ ?_ ?_ ?_ ?_ 1))
 ·intro x hx
  have q1:¬ x=w.next:=by omega
  have q2:¬ x=w.next + 1:=by omega
  have q3:¬ x=w.next + 2:=by omega
  simp only [get_put]
  rw [if_neg q3,if_neg q2,if_neg q3,if_neg q2,if_neg q1]
 ·simp
 ·simp
 ·simp; try omega
 ·simp [hl]
 ·simp
 ·simp
 ·simp
 ·simp
 ·simp
 ·
  intro t w' s4 s5 hI
  have hlo:=hI.lo
  have hhi:=hI.hi
  have k1:w'.lim≤w.next + 1:=by have:=hI.lim; omega
  have k2:w'.lim≤w.next + 2:=by have:=hI.lim; omega
  have s2:=same_yl (ys.foldl stepE (y,y)).2
  simp [s4,s5,hlo,hhi,k1,k2,s2,cellsOf_agg,tupV,endsV]
open Classical in
noncomputable def F77:PureF:=fun args w=>match args with | [.agg ⟨[.int .i64 a,.int .i64 b,.int .i64 c,.int .i64 d]⟩,v]=>(rowsIn ylC w v).bind fun ys=>if ys.length≤10000 then some (endsV (ys.foldl stepE (⟨a,b,c,d⟩,⟨a,b,c,d⟩))) else none | _=>none
theorem rule77 {ov:Ov} (k:HasP ov 77 F77) (y:Yl) {v:Value} {ys:List Yl} (hlen:ys.length≤10000) (m:Nat) {w:AW} (hv:RowsV ylC w v ys):(run Tryd.prog ov (m + 1)).call 77 [.agg ⟨ylC y⟩,v] w .none=.ok (.ret (endsV (ys.foldl stepE (y,y)))) w .none:=k.call (by
 simp only [F77,ylC,hv.rowsIn (m:=4) ylC_length ylC_inj,Option.bind_some]
 rw [if_pos hlen])
end Go.Proofs.YtaiiampennkhiaaDoor.walk
namespace Go.Proofs.YtaiiampennkhiaaDoor.walk
open Go Go.Sh
open known (partsC laidL noOv)
set_option maxRecDepth 100000
theorem isList103:isList Tryd.prog 103=true:=by kernel_rfl
theorem elem103:elemA Tryd.prog 103=some 37:=by kernel_rfl
theorem sz37:szOf Tryd.prog 37=some 4:=by kernel_rfl
theorem small37:smallT Tryd.prog 37=true:=by kernel_rfl
@[simp] theorem bs103y (w:AW) (y:Yl):buildSliceA Tryd.prog w 103 1 [(0,.agg ⟨ylC y⟩)]=.val (.slice (some ⟨w.next,0,none⟩) 1 1) ⟨w.heap.put w.next (some (.cells (ylC y) 37 false)),w.next + 1,w.lim⟩:=bd103_0_n1 w _ _ _ _
@[simp] theorem ix69_0 (w:AW) (a b:Int):indexA Tryd.prog w 69 (.agg ⟨[.int .i64 a,.int .i64 b]⟩) (.int .i64 0)=.val (.int .i64 a) w:=by kernel_rfl
@[simp] theorem ix69_1 (w:AW) (a b:Int):indexA Tryd.prog w 69 (.agg ⟨[.int .i64 a,.int .i64 b]⟩) (.int .i64 1)=.val (.int .i64 b) w:=by kernel_rfl
def AccV (n0:Nat) (w:AW) (v:Value) (acc:List Yl):Prop:=(acc=[]∧v=.slice none 0 0)∨∃ B,v=.slice (some ⟨B,0,none⟩) acc.length acc.length∧w.heap.get B=some (.cells (acc.flatMap ylC) 37 false)∧n0 < B∧B < w.next
theorem acc_push {n0:Nat} {w:AW} {v:Value} {acc:List Yl} (h:AccV n0 w v acc) (hl:w.lim≤n0) (hn:n0 < w.next) (hlen:acc.length≤90000) (y:Yl) :
  ∃ v' w',append1 Tryd.prog ⟨w.heap.put w.next (some (.cells (ylC y) 37 false)),w.next + 1,w.lim⟩ [103,103] [v,.slice (some ⟨w.next,0,none⟩) 1 1]=.val v' w'∧AccV n0 w' v' (acc++[y])∧(∀ x,x≤n0→w'.heap.get x=w.heap.get x)∧w.next≤w'.next∧w'.lim=w.lim:=by
 have hsrc:srcCells ⟨w.heap.put w.next (some (.cells (ylC y) 37 false)),w.next + 1,w.lim⟩ 4 (.slice (some ⟨w.next,0,none⟩) 1 1)=some (ylC y):=src_row (e':=37) (ro:=false) (k:=1) (by simp) (by simp) (by decide) (by decide)
 rcases h with ⟨rfl,rfl⟩ | ⟨B,rfl,hB,h1,h2⟩
 ·refine ⟨_,_,append_nil isList103 elem103 sz37 small37 (m:=1) rfl hsrc (by simp) (by decide) (by decide),.inr ⟨_,rfl,?_,?_,?_⟩,fun x hx=>?_,?_,rfl⟩
  ·simp
  ·show n0 < w.next + 1; omega
  ·exact Nat.lt_succ_self _
  ·show ((w.heap.put w.next _).put (w.next + 1) _).get x=_
   rw [get_put,if_neg (by omega),get_put,if_neg (by omega)]
  ·show w.next≤w.next + 1 + 1; omega
 ·have hB':(w.heap.put w.next (some (.cells (ylC y) 37 false))).get B=some (.cells (acc.flatMap ylC) 37 false):=by rw [get_put,if_neg (by omega)]; exact hB
  refine ⟨_,_,append_full isList103 elem103 sz37 small37 (n:=acc.length) (m:=1) (c:=acc.flatMap ylC) rfl hsrc (by simp) (by simp) (by decide) (by omega) hB' (flat_length ylC_length acc) (by show w.lim≤B; omega),.inr ⟨w.next + 1,?_,?_,?_,?_⟩,fun x hx=>?_,?_,rfl⟩
  ·simp
  ·show (((w.heap.put w.next _).put B none).put (w.next + 1) _).get (w.next + 1)=_
   rw [get_put,if_pos rfl]; simp
  ·omega
  ·exact Nat.lt_succ_self _
  ·show (((w.heap.put w.next _).put B none).put (w.next + 1) _).get x=_
   rw [get_put,if_neg (by omega),get_put,if_neg (by omega),get_put,if_neg (by omega)]
  ·show w.next≤w.next + 1 + 1; omega
structure In76 (w0:AW) (p:Pod) (v:Value) (acc:List Yl) (w:AW):Prop where
 base:Base w0.heap w0.next (podC p) 77 w
 acc:AccV w0.next w v acc
 lm:w.lim=w0.lim
theorem In76.parts {w0 w:AW} {p:Pod} {v:Value} {acc:List Yl} (h:In76 w0 p v acc w) (hPW:PartsW w0):PartsW w:=hPW.old h.base.old (Nat.le_of_lt h.base.next)
def podDay (p:Pod) (day:Int):Prop:=podB p=true∧planOk p day=true
theorem num_at {p:Pod} {day r h g:Int} (hp:podDay p day) (h1:p.rl≤r) (h2:r≤p.rh) (h3:h=p.hl∨h=p.hh) (h4:g=p.gl∨g=p.gh):numB p day r h g=true:=by
 have k:=pod_ok hp.1
 refine num_of hp.1 hp.2 ?_
 have:=k.h1; have:=k.g1
 simp only [truthOk,inI,Bool.and_eq_true,decide_eq_true_eq]
 omega
theorem loop76c {ov:Ov} (h73:HasP ov 73 F73) (p:Pod) (day:Int) (hp:podDay p day) (w0:AW) (hPW:PartsW w0) (i:Nat) (hi:p.rl + i≤p.rh) (h:Int) (hh:h=p.hl∨h=p.hh) (acc:List Yl) (hacc:acc.length≤80000) (v20 v21 v32 v33:Value)
  (Q:Ex→Tm→AW→Prop) (t:Tm) (w:AW) (v:Value) (hw:In76 w0 p v acc w)
  (t1:tget t 1=.int .i64 day) (t2:tget t 2=.pointer (some ⟨w0.next,0,none⟩)) (t5:tget t 5=v) (t6:tget t 6=.int .i64 (i:Nat)) (t8:tget t 8=.int .i64 h) (t20:tget t 20=v20) (t21:tget t 21=v21) (t32:tget t 32=v32) (t33:tget t 33=v33)
  (t44:tget t 44=.agg ⟨[.int .i64 p.gl,.int .i64 p.gh]⟩) (t45:tget t 45=.int .i64 0)
  (hQ:∀ t w v,In76 w0 p v (acc++[ylI p.born day (p.rl + i) h p.gl,ylI p.born day (p.rl + i) h p.gh]) w→tget t 1=.int .i64 day→tget t 2=.pointer (some ⟨w0.next,0,none⟩)→tget t 5=v→tget t 6=.int .i64 (i:Nat)→tget t 20=v20→tget t 21=v21→tget t 32=v32→tget t 33=v33→Q (.exit 4) t w) :
  wp (exM Tryd.prog (run Tryd.prog ov 1) (.loop mc76_l2) t w) Q:=by
 obtain ⟨L2,hL2⟩:∃ L2,L2=[ylI p.born day (p.rl + i) h p.gl,ylI p.born day (p.rl + i) h p.gh]:=⟨_,rfl⟩
 rw [← hL2] at hQ
 have hl2:L2.length=2:=by rw [hL2]; rfl
 have k:=pod_ok hp.1
 refine wp_rounds (fun j t w=>∃ v,In76 w0 p v (acc++L2.take j) w∧tget t 1=.int .i64 day∧tget t 2=.pointer (some ⟨w0.next,0,none⟩)∧tget t 5=v∧tget t 6=.int .i64 (i:Nat)∧tget t 8=.int .i64 h∧tget t 20=v20∧tget t 21=v21∧tget t 32=v32∧tget t 33=v33∧tget t 44=.agg ⟨[.int .i64 p.gl,.int .i64 p.gh]⟩∧tget t 45=.int .i64 (j:Nat)∧j≤2) 20 (by decide)
  ⟨v,by simpa using hw,t1,t2,t5,t6,t8,t20,t21,t32,t33,t44,t45,by decide⟩ ?_
 clear t1 t2 t5 t6 t8 t20 t21 t32 t33 t44 t45 hw v
 rintro j t w ⟨v,hw,t1,t2,t5,t6,t8,t20,t21,t32,t33,t44,t45,hj⟩
 by_cases hj2:j=2
 ·subst hj2
  simp [mc76_l2,t45]
  exact hQ _ _ v (by rwa [List.take_of_length_le (by omega)] at hw) (by simp [t1]) (by simp [t2]) (by simp [t5]) (by simp [t6]) (by simp [t20]) (by simp [t21]) (by simp [t32]) (by simp [t33])
 ·obtain ⟨g,hg,hg',htk⟩:∃ g,(g=p.gl∨g=p.gh)∧(∀ w,indexA Tryd.prog w 69 (.agg ⟨[.int .i64 p.gl,.int .i64 p.gh]⟩) (.int .i64 (j:Nat))=.val (.int .i64 g) w)∧L2.take (j + 1)=L2.take j++[ylI p.born day (p.rl + i) h g]:=by
   have:j=0∨j=1:=by omega
   rcases this with rfl | rfl
   ·exact ⟨_,.inl rfl,fun w=>ix69_0 w _ _,by rw [hL2]; rfl⟩
   ·exact ⟨_,.inr rfl,fun w=>ix69_1 w _ _,by rw [hL2]; rfl⟩
  have hjlt:(j:Int) < 2:=by omega
  have hbox:=hw.base.box
  have hrl:=k.r0
  have hrh:=k.r2
  have w1:IntKind.wrap .i64 (p.rl + i)=p.rl + i:=wrap64_in (by omega) (by omega)
  have w2:IntKind.wrap .i64 ((j:Int) + 1)=(j:Int) + 1:=wrap64_in (by omega) (by omega)
  have hnum:=num_at (r:=p.rl + i) hp (by omega) hi hh hg
  have r73:=rule73 h73 hnum 0 (hw.parts hPW)
  simp only [Nat.zero_add] at r73
  have k2:(podC p)[2]?=some (.int .i64 p.rl):=rfl
  have k2':∀ h,(podC p)[2]'h=.int .i64 p.rl:=fun _=>rfl
  obtain ⟨v',w',ha,hacc',ho,hn,hl⟩:=acc_push hw.acc hw.base.lim hw.base.next (by rw [List.length_append,List.length_take]; omega) (ylI p.born day (p.rl + i) h g)
  have hbase:Base w0.heap w0.next (podC p) 77 w':=⟨fun x hx=>by rw [ho x (by omega),hw.base.old x hx],by rw [ho _ (Nat.le_refl _)]; exact hbox,by have:=hw.base.next; omega,by rw [hl]; exact hw.base.lim⟩
  simp [mc76_l2,t1,t2,t5,t6,t8,t44,t45,hjlt,hg',hbox,k2',w1,r73,ha,w2]
  refine ⟨by omega,v',⟨hbase,by rw [htk,← List.append_assoc]; exact hacc',by rw [hl]; exact hw.lm⟩,?_⟩
  simp [t20,t21,t32,t33]
  omega
theorem loop76b {ov:Ov} (h73:HasP ov 73 F73) (p:Pod) (day:Int) (hp:podDay p day) (w0:AW) (hPW:PartsW w0) (i:Nat) (hi:p.rl + i≤p.rh) (acc:List Yl) (hacc:acc.length≤70000) (v20 v21:Value)
  (Q:Ex→Tm→AW→Prop) (t:Tm) (w:AW) (v:Value) (hw:In76 w0 p v acc w)
  (t1:tget t 1=.int .i64 day) (t2:tget t 2=.pointer (some ⟨w0.next,0,none⟩)) (t5:tget t 5=v) (t6:tget t 6=.int .i64 (i:Nat)) (t20:tget t 20=v20) (t21:tget t 21=v21) (t32:tget t 32=.agg ⟨[.int .i64 p.hl,.int .i64 p.hh]⟩) (t33:tget t 33=.int .i64 0)
  (hQ:∀ t w v,In76 w0 p v (acc++four p.born day p.hl p.hh p.gl p.gh (p.rl + i)) w→tget t 1=.int .i64 day→tget t 2=.pointer (some ⟨w0.next,0,none⟩)→tget t 5=v→tget t 20=v20→tget t 21=v21→Q (.exit 2) t w) :
  wp (exM Tryd.prog (run Tryd.prog ov 1) (.loop mc76_l1) t w) Q:=by
 refine wp_rounds (fun j t w=>∃ v,In76 w0 p v (acc++(four p.born day p.hl p.hh p.gl p.gh (p.rl + i)).take (2 * j)) w∧tget t 1=.int .i64 day∧tget t 2=.pointer (some ⟨w0.next,0,none⟩)∧tget t 5=v∧tget t 6=.int .i64 (i:Nat)∧tget t 20=v20∧tget t 21=v21∧tget t 32=.agg ⟨[.int .i64 p.hl,.int .i64 p.hh]⟩∧tget t 33=.int .i64 (j:Nat)∧j≤2) 20 (by decide)
  ⟨v,by simpa using hw,t1,t2,t5,t6,t20,t21,t32,t33,by decide⟩ ?_
 clear t1 t2 t5 t6 t20 t21 t32 t33 hw v
 rintro j t w ⟨v,hw,t1,t2,t5,t6,t20,t21,t32,t33,hj⟩
 by_cases hj2:j=2
 ·subst hj2
  simp [mc76_l1,t33]
  exact hQ _ _ v (by simpa [four] using hw) (by simp [t1]) (by simp [t2]) (by simp [t5]) (by simp [t20]) (by simp [t21])
 ·obtain ⟨h,hh,hh',htk⟩:∃ h,(h=p.hl∨h=p.hh)∧(∀ w,indexA Tryd.prog w 69 (.agg ⟨[.int .i64 p.hl,.int .i64 p.hh]⟩) (.int .i64 (j:Nat))=.val (.int .i64 h) w)∧(four p.born day p.hl p.hh p.gl p.gh (p.rl + i)).take (2 * (j + 1))=(four p.born day p.hl p.hh p.gl p.gh (p.rl + i)).take (2 * j)++[ylI p.born day (p.rl + i) h p.gl,ylI p.born day (p.rl + i) h p.gh]:=by
   have:j=0∨j=1:=by omega
   rcases this with rfl | rfl
   ·exact ⟨_,.inl rfl,fun w=>ix69_0 w _ _,rfl⟩
   ·exact ⟨_,.inr rfl,fun w=>ix69_1 w _ _,rfl⟩
  have hjlt:(j:Int) < 2:=by omega
  have hbox:=hw.base.box
  have k6:∀ h,(podC p)[6]'h=.int .i64 p.gl:=fun _=>rfl
  have k7:∀ h,(podC p)[7]'h=.int .i64 p.gh:=fun _=>rfl
  have w2:IntKind.wrap .i64 ((j:Int) + 1)=(j:Int) + 1:=wrap64_in (by omega) (by omega)
  simp [mc76_l1,t1,t2,t5,t6,t32,t33,hjlt,hh',hbox,k6,k7]
  refine wp_seqX (wp_blockX (wp_blockX (loop76c h73 p day hp w0 hPW i hi h hh _ ?_ v20 v21 (.agg ⟨[.int .i64 p.hl,.int .i64 p.hh]⟩) (.int .i64 (j:Nat)) _ _ _ v hw ?_ ?_ ?_ ?_ ?_ ?_ ?_ ?_ ?_ ?_ ?_ ?_)))
  ·have:(four p.born day p.hl p.hh p.gl p.gh (p.rl + i)).length=4:=rfl
   rw [List.length_append,List.length_take]; omega
  ·simp [t1]
  ·simp [t2]
  ·simp [t5]
  ·simp [t6]
  ·simp
  ·simp [t20]
  ·simp [t21]
  ·simp [t32]
  ·simp [t33]
  ·simp
  ·simp
  ·intro t w v hI s1 s2 s5 s6 s20 s21 s32 s33
   simp [s1,s2,s5,s6,s20,s21,s32,s33,w2]
   refine ⟨by omega,v,by rw [htk,← List.append_assoc]; exact hI,?_⟩
   simp
   omega
theorem loop76a {ov:Ov} (h73:HasP ov 73 F73) (p:Pod) (day:Int) (hp:podDay p day) (w0:AW) (hPW:PartsW w0)
  (Q:Ex→Tm→AW→Prop) (t:Tm) (w:AW) (v:Value) (hw:In76 w0 p v [] w)
  (t1:tget t 1=.int .i64 day) (t2:tget t 2=.pointer (some ⟨w0.next,0,none⟩)) (t5:tget t 5=v) (t20:tget t 20=.int .i64 (p.rh - p.rl + 1)) (t21:tget t 21=.int .i64 0)
  (hQ:∀ t w v,In76 w0 p v (sampY p.born day p.rl p.rh p.hl p.hh p.gl p.gh) w→tget t 5=v→Q (.exit 0) t w) :
  wp (exM Tryd.prog (run Tryd.prog ov 1) (.loop mc76_l0) t w) Q:=by
 have k:=pod_ok hp.1
 have kr0:=k.r0
 have kr1:=k.r1
 have kr2:=k.r2
 obtain ⟨n,hn⟩:∃ n,n=(p.rh - p.rl + 1).toNat:=⟨_,rfl⟩
 have hnn:(n:Int)=p.rh - p.rl + 1:=by omega
 unfold sampY at hQ
 rw [← hn] at hQ
 rw [← hnn] at t20
 refine wp_rounds (fun i t w=>∃ v,In76 w0 p v (sampN p.born day p.rl p.hl p.hh p.gl p.gh i) w∧tget t 1=.int .i64 day∧tget t 2=.pointer (some ⟨w0.next,0,none⟩)∧tget t 5=v∧tget t 20=.int .i64 (n:Nat)∧tget t 21=.int .i64 (i:Nat)∧i≤n) 2000 (by decide)
  ⟨v,hw,t1,t2,t5,t20,t21,Nat.zero_le _⟩ ?_
 clear t1 t2 t5 t20 t21 hw v
 rintro i t w ⟨v,hw,t1,t2,t5,t20,t21,hi⟩
 by_cases hlt:i < n
 ·have hbox:=hw.base.box
  have k4:∀ h,(podC p)[4]'h=.int .i64 p.hl:=fun _=>rfl
  have k5:∀ h,(podC p)[5]'h=.int .i64 p.hh:=fun _=>rfl
  have w2:IntKind.wrap .i64 ((i:Int) + 1)=(i:Int) + 1:=wrap64_in (by omega) (by omega)
  simp [mc76_l0,t1,t2,t5,t20,t21,hlt,hbox,k4,k5]
  refine wp_seqX (wp_blockX (wp_blockX (loop76b h73 p day hp w0 hPW i (by omega) _ ?_ (.int .i64 (n:Nat)) (.int .i64 (i:Nat)) _ _ _ v hw ?_ ?_ ?_ ?_ ?_ ?_ ?_ ?_ ?_)))
  ·rw [samp_length]; omega
  ·simp [t1]
  ·simp [t2]
  ·simp [t5]
  ·simp
  ·simp [t20]
  ·simp [t21]
  ·simp
  ·simp
  ·intro t w v hI s1 s2 s5 s20 s21
   simp [s1,s2,s5,s20,s21,w2]
   refine ⟨by omega,v,hI,?_⟩
   simp
   omega
 ·have hi':i=n:=by omega
  subst hi'
  simp [mc76_l0,t20,t21]
  exact hQ _ _ v hw (by simp [t5])
theorem call76 {ov:Ov} (ho:∀ args w,ov 76 args w=none) (h73:HasP ov 73 F73) (p:Pod) (day:Int) (hp:podDay p day) (w:AW) (hPW:PartsW w) (hl:w.lim≤w.next) :
  ∃ v w',(run Tryd.prog ov 2).call 76 [.agg ⟨podC p⟩,.int .i64 day] w .none=.ok (.ret v) w' .none∧AccV w.next w' v (sampY p.born day p.rl p.rh p.hl p.hh p.gl p.gh)∧Old w.next w.heap w'.heap∧w.next≤w'.next∧w'.lim=w.lim:=by
 refine call_wp text76 (by simp) (ho _ _) ?_
 have k:=pod_ok hp.1
 have kr0:=k.r0
 have kr1:=k.r1
 have kr2:=k.r2
 have k2:∀ h,(podC p)[2]'h=.int .i64 p.rl:=fun _=>rfl
 have k3:∀ h,(podC p)[3]'h=.int .i64 p.rh:=fun _=>rfl
 have w1:IntKind.wrap .i64 (p.rh - p.rl)=p.rh - p.rl:=wrap64_in (by omega) (by omega)
 have w2:IntKind.wrap .i64 (p.rh - p.rl + 1)=p.rh - p.rl + 1:=wrap64_in (by omega) (by omega)
 simp [mc76,k2,k3,w1,w2]
 refine wp_seqX (wp_blockX (loop76a h73 p day hp w hPW _ _ _ (.slice none 0 0) ⟨⟨(Old.refl _ _).put (Nat.le_refl _),?_,?_,?_⟩,.inl ⟨rfl,rfl⟩,rfl⟩ ?_ ?_ ?_ ?_ ?_ ?_))
 ·simp
 ·simp
 ·exact hl
 ·simp
 ·simp
 ·simp
 ·simp
 ·simp
 ·intro t w' v hI s5
  rcases hI.acc with ⟨h1,h2⟩ | ⟨B,rfl,h3⟩
  ·exact absurd h1 (samp_ne k)
  ·simp [s5,tupV]
   exact ⟨.inr ⟨B,rfl,h3⟩,hI.base.old,Nat.le_of_lt hI.base.next,hI.lm⟩
end Go.Proofs.YtaiiampennkhiaaDoor.walk
namespace Go.Proofs.YtaiiampennkhiaaDoor.walk
open Go Go.Sh
open known (partsC laidL noOv)
set_option maxRecDepth 100000
def podS (p:Pod) (day:Int):List Yl:=sampY p.born day p.rl p.rh p.hl p.hh p.gl p.gh
def esH:List Pod→List Int→List (Yl × Yl)
 | p::l,d::pl=>endsY (podS p d)::esH l pl
 | _,_=>[]
theorem esH_length:∀ (l:List Pod) (pl:List Int),pl.length=l.length→(esH l pl).length=l.length
 | [],_,_=>rfl
 | p::l,d::pl,h=>by
  show (esH l pl).length + 1=l.length + 1
  rw [esH_length l pl (by simpa using h)]
 | _::_,[],h=>by simp at h
theorem esH_at:∀ (l:List Pod) (pl:List Int) (i:Nat) (p:Pod) (d:Int),l[i]?=some p→pl[i]?=some d→(esH l pl)[i]?=some (endsY (podS p d))
 | [],_,i,_,_,h,_=>by simp at h
 | _::_,[],i,_,_,_,h=>by simp at h
 | p::l,d::pl,0,p',d',h1,h2=>by
  simp only [List.getElem?_cons_zero,Option.some.injEq] at h1 h2
  subst h1 h2
  rfl
 | p::l,d::pl,i + 1,p',d',h1,h2=>by
  simp only [List.getElem?_cons_succ] at h1 h2
  exact esH_at l pl i p' d' h1 h2
theorem fold_left (l:List Yl):∀ s:Yl × Yl,(l.foldl stepE s).1.left=s.1.left∧(l.foldl stepE s).2.left=s.2.left:=by
 induction l with
 | nil=>intro s; exact ⟨rfl,rfl⟩
 | cons y l ih=>intro s; rw [List.foldl_cons]; exact ih _
theorem samp_small {p:Pod} {d:Int} (hp:podDay p d) {y:Yl} (hy:y ∈ podS p d):smallY y:=by
 obtain ⟨r,h,g,h1,h2,_,h4,rfl⟩:=samp_all hy
 have k:=pod_ok hp.1
 have:=k.g1
 exact yl_bd k (plan_day hp.2) h1 h2 (by omega) (by omega)
theorem ends_small {p:Pod} {d:Int} (hp:podDay p d):smallY (endsY (podS p d)).1∧smallY (endsY (podS p d)).2:=by
 have k:=pod_ok hp.1
 have hne:podS p d ≠ []:=samp_ne k
 obtain ⟨⟨y1,m1,e1⟩,⟨y2,m2,e2⟩,_⟩:=ends_ripe hne
 obtain ⟨⟨y3,m3,e3⟩,⟨y4,m4,e4⟩,_⟩:=ends_green hne
 obtain ⟨⟨y5,m5,e5⟩,⟨y6,m6,e6⟩,_⟩:=ends_split hne
 have s1:=samp_small hp m1
 have s2:=samp_small hp m2
 have s3:=samp_small hp m3
 have s4:=samp_small hp m4
 have s5:=samp_small hp m5
 have s6:=samp_small hp m6
 have hleft:∃ y ∈ podS p d,(endsY (podS p d)).1.left=y.left∧(endsY (podS p d)).2.left=y.left:=by
  cases hc:podS p d with
  | nil=>exact absurd hc hne
  | cons y l=>exact ⟨y,List.mem_cons_self ..,fold_left l (y,y)⟩
 obtain ⟨y7,m7,e7,e8⟩:=hleft
 have s7:=samp_small hp m7
 unfold smallY at *
 omega
@[simp] theorem ia103_0 (w:AW) (a:Addr) (n c:Nat) (hn:0 < n):indexAddrA Tryd.prog w 103 (.slice (some a) n c) (.int .i64 0)=.val (.pointer (some (a.add (0 * 4)))) w:=ia103 w a n c .i64 0 hn
structure In56 (w0:AW) (es:List (Yl × Yl)) (n i:Nat) (w:AW):Prop where
 old:Old w0.next w0.heap w.heap
 res:w.heap.get w0.next=some (.cells [.int .i64 0,.int .i64 0,.int .i64 0,.int .i64 0,.int .i64 0,.int .i64 0] 41 false)
 row:∃ Ls:List Yl,w.heap.get (w0.next + 1)=some (.cells (Ls.flatMap ylC) 37 false)∧Ls.length=2 * n∧∀ j,j < i→Ls[j]?=(es[j]?).map (·.1)∧Ls[n + j]?=(es[j]?).map (·.2)
 next:w0.next + 1 < w.next
 lim:w.lim=w0.lim
theorem In56.parts {w0 w:AW} {es:List (Yl × Yl)} {n i:Nat} (h:In56 w0 es n i w) (hPW:PartsW w0):PartsW w:=hPW.old h.old (by have:=h.next; omega)
set_option maxHeartbeats 2000000 in
theorem loop56 {ov:Ov} (h76:∀ args w,ov 76 args w=none) (h73:HasP ov 73 F73) (h77:HasP ov 77 F77) (l:List Pod) (pl:List Int) (v u:Value) (w0:AW) (hPW:PartsW w0) (hlim0:w0.lim≤w0.next) (hv:PodsV w0 v l) (hu:RowsV intC w0 u pl) (hB:podsB l=true) (hP:planB l pl=true)
  (Q:Ex→Tm→AW→Prop) (t:Tm) (w:AW) (hw:In56 w0 (esH l pl) l.length 0 w)
  (t1:tget t 1=u) (t4:tget t 4=.pointer (some ⟨w0.next,0,none⟩)) (t5:tget t 5=.int .i64 (l.length:Nat)) (t6:tget t 6=.slice (some ⟨w0.next + 1,0,none⟩) (2 * l.length) (2 * l.length)) (t17:tget t 17=v) (t18:tget t 18=.int .i64 (l.length:Nat)) (t19:tget t 19=.int .i64 0)
  (hQ:∀ t w,In56 w0 (esH l pl) l.length l.length w→tget t 4=.pointer (some ⟨w0.next,0,none⟩)→tget t 5=.int .i64 (l.length:Nat)→tget t 6=.slice (some ⟨w0.next + 1,0,none⟩) (2 * l.length) (2 * l.length)→Q (.exit 0) t w) :
  wp (exM Tryd.prog (run Tryd.prog ov 2) (.loop mc56_l0) t w) Q:=by
 have hlen:=podsB_len hB
 have e0:pl.length=l.length:=by simp only [planB,Bool.and_eq_true,decide_eq_true_eq] at hP; exact hP.1
 refine wp_rounds (fun i t w=>In56 w0 (esH l pl) l.length i w∧tget t 1=u∧tget t 4=.pointer (some ⟨w0.next,0,none⟩)∧tget t 5=.int .i64 (l.length:Nat)∧tget t 6=.slice (some ⟨w0.next + 1,0,none⟩) (2 * l.length) (2 * l.length)∧tget t 17=v∧tget t 18=.int .i64 (l.length:Nat)∧tget t 19=.int .i64 (i:Nat)∧i≤l.length) 200 (by decide)
  ⟨hw,t1,t4,t5,t6,t17,t18,t19,Nat.zero_le _⟩ ?_
 clear t1 t4 t5 t6 t17 t18 t19 hw
 rintro i t w ⟨hw,t1,t4,t5,t6,t17,t18,t19,hi⟩
 by_cases hlt:i < l.length
 ·obtain ⟨p,hp⟩:∃ p,l[i]?=some p:=⟨_,List.getElem?_eq_getElem hlt⟩
  obtain ⟨d,hdi⟩:∃ d,pl[i]?=some d:=⟨_,List.getElem?_eq_getElem (e0 ▸ hlt)⟩
  obtain ⟨b,sq,c,rfl,hpa⟩:=hv.at_ i hlt
  obtain ⟨b0,o0,q0,c0,rfl,hda⟩:=hu.at_ i (e0 ▸ hlt)
  have hpd:podDay p d:=⟨pods_all hB hp,plan_at hP hp hdi⟩
  have hes:=esH_at l pl i p d hp hdi
  have hld:=load_pod' hpa hp
  have hdd:=hda.int hdi
  rw [← hw.old _ hpa.lt] at hld
  have n1:=hw.next
  have hlm:=hw.lim
  have hl1:w.lim≤w.next:=by omega
  have m0:¬ b=w.next:=by have:=hpa.lt; omega
  -- the pod in its box, and what it can yield
  obtain ⟨W1,hW1⟩:∃ W1:AW,W1=⟨(w.heap.put w.next (some (.cells [.string ⟨⟨[]⟩⟩,.int .i64 0,.int .i64 0,.int .i64 0,.int .i64 0,.int .i64 0,.int .i64 0,.int .i64 0] 30 false))).put w.next (some (.cells (podC p) 30 false)),w.next + 1,w.lim⟩:=⟨_,rfl⟩
  have g1:∀ x,x < w.next→W1.heap.get x=w.heap.get x:=fun x hx=>by rw [hW1]; show ((w.heap.put w.next _).put w.next _).get x=_; rw [get_put,if_neg (by omega),get_put,if_neg (by omega)]
  have g2:W1.next=w.next + 1:=by rw [hW1]
  have g3:W1.lim=w.lim:=by rw [hW1]
  have hPW1:PartsW W1:=(hw.parts hPW).old g1 (by omega)
  obtain ⟨v',w',hcall,hacc,hold,hnx,hlim'⟩:=call76 h76 h73 p d hpd W1 hPW1 (by omega)
  have hne:podS p d ≠ []:=samp_ne (pod_ok hpd.1)
  obtain ⟨y0,ys,hys⟩:∃ y0 ys,podS p d=y0::ys:=by
   cases hc:podS p d with
   | nil=>exact absurd hc hne
   | cons y l=>exact ⟨y,l,rfl⟩
  obtain ⟨N,hN⟩:∃ N,N=(podS p d).length:=⟨_,rfl⟩
  have hN1:N=ys.length + 1:=by rw [hN,hys]; rfl
  have hNb:N≤2000:=by
   rw [hN]
   unfold podS sampY
   rw [samp_length]
   have:=(pod_ok hpd.1).r0; have:=(pod_ok hpd.1).r2
   omega
  rcases hacc with ⟨h1,_⟩ | ⟨B,rfl,hBc,hB1,hB2⟩
  case' inl=>exact absurd h1 hne
  change w'.heap.get B=some (.cells ((podS p d).flatMap ylC) 37 false) at hBc
  change (run Tryd.prog ov 2).call 76 [.agg ⟨podC p⟩,.int .i64 d] W1 .none=.ok (.ret (.slice (some ⟨B,0,none⟩) (podS p d).length (podS p d).length)) w' .none at hcall
  rw [← hN,hW1] at hcall
  have hRA:RowsA ylC w'.heap w'.next B 0 (podS p d):=⟨⟨[],[],37,false,by rw [List.nil_append,List.append_nil]; exact hBc,rfl⟩,hB2⟩
  have hy0:rdO (w'.heap.get B) 0 4=some (ylC y0):=by
   have:=hRA.rd (m:=4) ylC_length (i:=0) (a:=y0) (by rw [hys]; rfl)
   simpa using this
  have hTl:RowsV ylC w' (.slice (some ⟨B,4,none⟩) (N - 1) (N - 1)) ys:=by
   refine .inr ⟨B,4,none,N - 1,by rw [hN1]; rfl,⟨ylC y0,[],37,false,?_,by simp⟩,hB2⟩
   rw [hBc,hys,List.flatMap_cons,List.append_nil]
  have r77:=rule77 h77 y0 (by omega) 1 hTl
  have hends:ys.foldl stepE (y0,y0)=endsY (podS p d):=by rw [hys]; rfl
  rw [hends] at r77
  have hsl:sliceA Tryd.prog w' 103 (.slice (some ⟨B,0,none⟩) N N) (some (.int .i64 1)) none none=.val (.slice (some ⟨B,4,none⟩) (N - 1) (N - 1)) w':=by
   have:=slice_tail (st:=103) elem103 sz37 (a:=⟨B,0,none⟩) (n:=N) (c:=N) (lo:=1) hBc (by omega)
   simpa using this
  -- what stood before
  have hsame:∀ x,x < w.next→w'.heap.get x=w.heap.get x:=fun x hx=>by rw [hold x (by omega),g1 x hx]
  rw [← hw.old _ hda.2] at hdd
  have m6:¬ b0=w.next:=by have:=hda.2; omega
  obtain ⟨Ls,hrow,hLl,hLs⟩:=hw.row
  rw [← hsame _ n1] at hrow
  obtain ⟨cs,hcs⟩:∃ cs,cs=Ls.flatMap ylC:=⟨_,rfl⟩
  obtain ⟨cs2,hcs2⟩:∃ cs2,cs2=(Ls.set i (endsY (podS p d)).1).flatMap ylC:=⟨_,rfl⟩
  have hcl:cs.length=2 * l.length * 4:=by rw [hcs,flat_length ylC_length,hLl]
  have hcl2:cs2.length=2 * l.length * 4:=by rw [hcs2,flat_length ylC_length,List.length_set,hLl]
  rw [← hcs] at hrow
  have hset:=flat_set ylC_length Ls i (endsY (podS p d)).1 (by omega)
  have hset2:=flat_set ylC_length (Ls.set i (endsY (podS p d)).1) (l.length + i) (endsY (podS p d)).2 (by rw [List.length_set]; omega)
  rw [← hcs,← hcs2] at hset
  rw [← hcs2] at hset2
  have hfit:i * 4 + 4≤2 * l.length * 4:=by omega
  have hfit2:(l.length + i) * 4 + 4≤2 * l.length * 4:=by omega
  have hia:=fun w=>ia22 w ⟨b,0,sq⟩ l.length c .i64 i hlt
  have hi0:=fun w=>ia33 w ⟨b0,o0,q0⟩ pl.length c0 .i64 i (e0 ▸ hlt)
  have hi1:=fun w=>ia103 w ⟨w0.next + 1,0,none⟩ (2 * l.length) (2 * l.length) .i64 i (by omega)
  have hi2:∀ w,indexAddrA Tryd.prog w 103 (.slice (some ⟨w0.next + 1,0,none⟩) (2 * l.length) (2 * l.length)) (.int .i64 ((l.length:Int) + (i:Int)))=.val (.pointer (some (Addr.add ⟨w0.next + 1,0,none⟩ ((l.length + i) * 4)))) w:=fun w=>ia103 w ⟨w0.next + 1,0,none⟩ (2 * l.length) (2 * l.length) .i64 (l.length + i) (by omega)
  have hi3:=fun w=>ia103_0 w ⟨B,0,none⟩ N N (by omega)
  have hw1:IntKind.wrap .i64 ((i:Int) + 1)=(i:Int) + 1:=wrap64_in (by omega) (by omega)
  have hw2:IntKind.wrap .i64 ((l.length:Int) + (i:Int))=(l.length:Int) + (i:Int):=wrap64_in (by omega) (by omega)
  have hl3:w'.lim≤w0.next + 1:=by omega
  simp [mc56_l0,t1,t5,t6,t17,t18,t19,hlt,hia,hi0,hi1,hi2,hi3,hld,hdd,hl1,hl3,m0,m6,cellsOf_agg,hcall,hy0,hsl,r77,endsV,hw2,hrow,hcl,hcl2,hfit,hfit2,hset,hset2,hw1]
  refine ⟨by omega,⟨fun x hx=>?_,?_,⟨(Ls.set i (endsY (podS p d)).1).set (l.length + i) (endsY (podS p d)).2,?_,?_,?_⟩,?_,?_⟩,t4,by omega⟩
  ·show ((w'.heap.put (w0.next + 1) _).put (w0.next + 1) _).get x=_
   rw [get_put,if_neg (by omega),get_put,if_neg (by omega),hsame x (by omega),hw.old x hx]
  ·show ((w'.heap.put (w0.next + 1) _).put (w0.next + 1) _).get w0.next=_
   rw [get_put,if_neg (by omega),get_put,if_neg (by omega),hsame _ (by omega),hw.res]
  ·show ((w'.heap.put (w0.next + 1) _).put (w0.next + 1) _).get (w0.next + 1)=_
   rw [get_put,if_pos rfl]
  ·rw [List.length_set,List.length_set,hLl]
  ·intro j hj
   by_cases e:j=i
   ·subst e
    rw [hes]
    refine ⟨?_,?_⟩
    ·rw [List.getElem?_set_ne (by omega),List.getElem?_set_self (by omega)]; rfl
    ·rw [List.getElem?_set_self (by rw [List.length_set]; omega)]; rfl
   ·obtain ⟨q1,q2⟩:=hLs j (by omega)
    refine ⟨?_,?_⟩
    ·rw [List.getElem?_set_ne (by omega),List.getElem?_set_ne (by omega),q1]
    ·rw [List.getElem?_set_ne (by omega),List.getElem?_set_ne (by omega),q2]
  ·show w0.next + 1 < w'.next; omega
  ·show w'.lim=w0.lim; omega
 ·have hi':i=l.length:=by omega
  subst hi'
  simp [mc56_l0,t18,t19]
  exact hQ _ _ hw (by simp [t4]) (by simp [t5]) (by simp [t6])
def loS (l:List Pod) (pl:List Int):Yl:=sumYl ((esH l pl).map (·.1))
def hiS (l:List Pod) (pl:List Int):Yl:=sumYl ((esH l pl).map (·.2))
def wgC (l:List Pod) (pl:List Int):List Value:=[.int .i64 (loS l pl).ripe,.int .i64 (hiS l pl).ripe,.int .i64 (loS l pl).green,.int .i64 (hiS l pl).green,.int .i64 (loS l pl).split,.int .i64 (hiS l pl).split]
theorem es_small {l:List Pod} {pl:List Int} (hB:podsB l=true) (hP:planB l pl=true):(∀ y ∈ (esH l pl).map (·.1),smallY y)∧∀ y ∈ (esH l pl).map (·.2),smallY y:=by
 have e0:pl.length=l.length:=by simp only [planB,Bool.and_eq_true,decide_eq_true_eq] at hP; exact hP.1
 have key:∀ e ∈ esH l pl,smallY e.1∧smallY e.2:=fun e he=>by
  obtain ⟨i,hi⟩:=List.mem_iff_getElem?.1 he
  have hil:i < l.length:=by have:=(List.getElem?_eq_some_iff.1 hi).1; rw [esH_length l pl e0] at this; exact this
  obtain ⟨p,hp⟩:∃ p,l[i]?=some p:=⟨_,List.getElem?_eq_getElem hil⟩
  obtain ⟨d,hdi⟩:∃ d,pl[i]?=some d:=⟨_,List.getElem?_eq_getElem (e0 ▸ hil)⟩
  rw [esH_at l pl i p d hp hdi] at hi
  cases hi
  exact ends_small ⟨pods_all hB hp,plan_at hP hp hdi⟩
 exact ⟨fun y hy=>by obtain ⟨e,he,rfl⟩:=List.mem_map.1 hy; exact (key e he).1,fun y hy=>by obtain ⟨e,he,rfl⟩:=List.mem_map.1 hy; exact (key e he).2⟩
set_option maxHeartbeats 2000000 in
theorem run56 {ov:Ov} (ho:∀ args w,ov 56 args w=none) (h76:∀ args w,ov 76 args w=none) (h73:HasP ov 73 F73) (h77:HasP ov 77 F77) (h74:HasP ov 74 F74) (l:List Pod) (pl:List Int) (v u:Value) (w:AW) (hl:w.lim=w.next) (hPW:PartsW w) (hv:PodsV w v l) (hu:RowsV intC w u pl) (hB:podsB l=true) (hP:planB l pl=true) :
  ∃ x w',(run Tryd.prog ov 3).call 56 [v,u] w .none=.ok (.ret x) w' .none∧x=.agg ⟨wgC l pl⟩:=by
 have hlen:=podsB_len hB
 have e0:pl.length=l.length:=by simp only [planB,Bool.and_eq_true,decide_eq_true_eq] at hP; exact hP.1
 have hel:=esH_length l pl e0
 refine call_wp text56 (by simp) (ho _ _) ?_
 have hl0:=len22V hv
 have w1:IntKind.wrap .i64 (2 * (l.length:Int))=2 * (l.length:Int):=wrap64_in (by omega) (by omega)
 have hms:∀ w,makeSliceA Tryd.prog w 103 (.int .i64 (2 * (l.length:Int))) (.int .i64 (2 * (l.length:Int)))=_:=fun w=>ms103 (2 * l.length) (by omega) w
 simp [mc56,hl0,w1,hms]
 refine wp_seqX (wp_blockX (loop56 h76 h73 h77 l pl v u w hPW (Nat.le_of_eq hl) hv hu hB hP _ _ _ ⟨?_,?_,⟨List.replicate (2 * l.length) ⟨0,0,0,0⟩,?_,?_,fun j hj=>by omega⟩,?_,?_⟩ ?_ ?_ ?_ ?_ ?_ ?_ ?_ ?_))
 ·exact ((Old.refl _ _).put (Nat.le_refl _)).put (Nat.le_succ _)
 ·simp
 ·simp
 ·simp
 ·simp
 ·simp
 ·simp
 ·simp
 ·simp
 ·simp
 ·simp
 ·simp
 ·simp
 ·intro t w' hI s4 s5 s6
  obtain ⟨Ls,hrow,hLl,hLs⟩:=hI.row
  obtain ⟨A,hA⟩:∃ A,A=(esH l pl).map (·.1):=⟨_,rfl⟩
  obtain ⟨C,hC⟩:∃ C,C=(esH l pl).map (·.2):=⟨_,rfl⟩
  have hAl:A.length=l.length:=by rw [hA,List.length_map,hel]
  have hCl:C.length=l.length:=by rw [hC,List.length_map,hel]
  have heq:Ls=A++C:=List.ext_getElem? fun j=>by
   by_cases hj:j < l.length
   ·rw [List.getElem?_append_left (by omega),(hLs j hj).1,hA,List.getElem?_map]
   ·by_cases hj2:j < 2 * l.length
    ·obtain ⟨k,rfl⟩:∃ k,j=l.length + k:=⟨j - l.length,by omega⟩
     rw [(hLs k (by omega)).2,List.getElem?_append_right (by omega),hAl,Nat.add_sub_cancel_left,hC,List.getElem?_map]
    ·rw [List.getElem?_eq_none (by omega),List.getElem?_eq_none (by rw [List.length_append]; omega)]
  subst heq
  rw [List.flatMap_append] at hrow
  obtain ⟨hs1,hs2⟩:=es_small hB hP
  rw [← hA] at hs1
  rw [← hC] at hs2
  obtain ⟨n,hn⟩:∃ n,n=l.length:=⟨_,rfl⟩
  have n1:=hI.next
  -- the world when sums are asked for
  obtain ⟨W,hW⟩:∃ W:AW,W=⟨(w'.heap.put w'.next (some (.cells [.int .i64 0,.int .i64 0,.int .i64 0,.int .i64 0] 37 false))).put (w'.next + 1) (some (.cells [.int .i64 0,.int .i64 0,.int .i64 0,.int .i64 0] 37 false)),w'.next + 1 + 1,w'.lim⟩:=⟨_,rfl⟩
  have hWrow:W.heap.get (w.next + 1)=some (.cells (A.flatMap ylC++C.flatMap ylC) 37 false):=by
   rw [hW]
   show ((w'.heap.put _ _).put _ _).get _=_
   rw [get_put,if_neg (by omega),get_put,if_neg (by omega)]; exact hrow
  have hWn:w.next + 1 < W.next:=by rw [hW]; show w.next + 1 < w'.next + 1 + 1; omega
  have hR1:RowsV ylC W (.slice (some ⟨w.next + 1,0,none⟩) l.length l.length) A:=by
   rw [← hAl]
   exact .inr ⟨_,0,none,_,rfl,⟨[],C.flatMap ylC,37,false,by rw [List.nil_append]; exact hWrow,rfl⟩,hWn⟩
  have hR2:RowsV ylC W (.slice (some ⟨w.next + 1,l.length * 4,none⟩) l.length l.length) C:=by
   have:RowsV ylC W (.slice (some ⟨w.next + 1,l.length * 4,none⟩) C.length l.length) C:=.inr ⟨_,l.length * 4,none,_,rfl,⟨A.flatMap ylC,[],37,false,by rw [List.append_nil]; exact hWrow,by rw [flat_length ylC_length,hAl]⟩,hWn⟩
   rwa [hCl] at this
  have r74a:=rule74 h74 hs1 (by omega) 1 hR1
  have r74b:=rule74 h74 hs2 (by omega) 1 hR2
  rw [hW] at r74a r74b
  have z1:∀ H n lim,H.get (w.next + 1)=some (.cells (A.flatMap ylC++C.flatMap ylC) 37 false)→sliceA Tryd.prog ⟨H,n,lim⟩ 103 (.slice (some ⟨w.next + 1,0,none⟩) (2 * l.length) (2 * l.length)) none (some (.int .i64 (l.length:Nat))) (some (.int .i64 (l.length:Nat)))=.val (.slice (some ⟨w.next + 1,0,none⟩) l.length l.length) ⟨H,n,lim⟩:=fun H n lim hH=>by
   have:=slice_three (st:=103) elem103 sz37 (w:=⟨H,n,lim⟩) (a:=⟨w.next + 1,0,none⟩) (n:=2 * l.length) (c:=2 * l.length) (k:=l.length) (j:=l.length) hH (Nat.le_refl _) (by omega)
   simpa using this
  have z2:∀ H n lim,H.get (w.next + 1)=some (.cells (A.flatMap ylC++C.flatMap ylC) 37 false)→sliceA Tryd.prog ⟨H,n,lim⟩ 103 (.slice (some ⟨w.next + 1,0,none⟩) (2 * l.length) (2 * l.length)) (some (.int .i64 (l.length:Nat))) none none=.val (.slice (some ⟨w.next + 1,l.length * 4,none⟩) l.length l.length) ⟨H,n,lim⟩:=fun H n lim hH=>by
   have:=slice_tail (st:=103) elem103 sz37 (w:=⟨H,n,lim⟩) (a:=⟨w.next + 1,0,none⟩) (n:=2 * l.length) (c:=2 * l.length) (lo:=l.length) hH (by omega)
   have e:2 * l.length - l.length=l.length:=by omega
   rw [e] at this
   simpa using this
  have y1:=z1 w'.heap w'.next w'.lim hrow
  have y2:=z2 w'.heap w'.next w'.lim hrow
  have y3:=z1 W.heap W.next W.lim hWrow
  have y4:=z2 W.heap W.next W.lim hWrow
  rw [hW] at y3 y4
  have l1:w'.lim≤w'.next:=by have:=hI.lim; omega
  have l2:w'.lim≤w.next:=by have:=hI.lim; omega
  have m1:¬ w.next=w'.next:=by omega
  have m2:¬ w.next=w'.next + 1:=by omega
  have hres:=hI.res
  have v1:loS l pl=sumYl A:=by rw [hA]; rfl
  have v2:hiS l pl=sumYl C:=by rw [hC]; rfl
  simp [s4,s5,s6,y1,y2,y3,y4,r74a,r74b,l1,l2,m1,m2,hres,tupV,ylC,wgC,v1,v2]
end Go.Proofs.YtaiiampennkhiaaDoor.walk
namespace Go.Proofs.YtaiiampennkhiaaDoor.walk
open Go Go.Sh
open known (partsC laidL noOv)
set_option maxRecDepth 100000
open Classical in
noncomputable def F56:PureF:=fun args w=>match args with | [v,u]=>(podsIn w v).bind fun l=>(rowsIn intC w u).bind fun pl=>if podsB l=true∧planB l pl=true∧PartsW w then some (.agg ⟨wgC l pl⟩) else none | _=>none
theorem rule56 {ov:Ov} (k:HasP ov 56 F56) {v u:Value} {l:List Pod} {pl:List Int} {w:AW} (hPW:PartsW w) (hv:podsIn w v=some l) (hu:RowsV intC w u pl) (hB:podsB l=true) (hP:planB l pl=true) (m:Nat):(run Tryd.prog ov (m + 1)).call 56 [v,u] w .none=.ok (.ret (.agg ⟨wgC l pl⟩)) w .none:=k.call (by
 simp only [F56,hv,hu.rowsIn (m:=1) intC_length intC_inj,Option.bind_some]
 rw [if_pos ⟨hB,hP,hPW⟩])
def zero6:List Value:=[.int .i64 0,.int .i64 0,.int .i64 0,.int .i64 0,.int .i64 0,.int .i64 0]
def weiC (l:List Pod) (pl:List Int):List Value:=if chkE l pl=0 then wgC l pl else zero6
def weiV (l:List Pod) (pl:List Int):Value:=.tuple ⟨[.agg ⟨weiC l pl⟩,.int .i64 (chkE l pl)]⟩
@[simp] theorem wgC_length (l:List Pod) (pl:List Int):(wgC l pl).length=6:=by simp [wgC]
@[simp] theorem wgC_singles (l:List Pod) (pl:List Int):singles (wgC l pl)=true:=by simp [wgC]
@[simp] theorem wgC_take (l:List Pod) (pl:List Int):(wgC l pl).take 6=wgC l pl:=by simp [wgC]
@[simp] theorem wgC_drop (l:List Pod) (pl:List Int):(wgC l pl).drop 6=[]:=by simp [wgC]
theorem run21 {ov:Ov} (ho:∀ args w,ov 21 args w=none) (h50:HasP ov 50 F50) (h56:HasP ov 56 F56) (l:List Pod) (pl:List Int) (v u:Value) (w:AW) (hl:w.lim=w.next) (hPW:PartsW w) (hpin:podsIn w v=some l) (hu:RowsV intC w u pl) :
  ∃ x w',(run Tryd.prog ov 2).call 21 [v,u] w .none=.ok (.ret x) w' .none∧x=weiV l pl:=by
 refine call_wp text21 (by simp) (ho _ _) ?_
 have hv:=podsIn_some hpin
 obtain ⟨W1,hW1⟩:∃ W1:AW,W1=⟨w.heap.put w.next (some (.cells [.int .i64 0,.int .i64 0,.int .i64 0,.int .i64 0,.int .i64 0,.int .i64 0] 41 false)),w.next + 1,w.lim⟩:=⟨_,rfl⟩
 have o1:Old w.next w.heap W1.heap:=by rw [hW1]; exact (Old.refl _ _).put (Nat.le_refl _)
 have hn:w.next≤W1.next:=by rw [hW1]; show w.next≤w.next + 1; omega
 have a0:=(hv.old o1 hn).podsIn
 have a1:=hu.old o1 hn
 have a5:=hPW.old o1 hn
 have r50:=rule50 h50 a0 a1 0
 simp only [Nat.zero_add,hW1] at r50
 have hl1:w.lim≤w.next:=by omega
 by_cases hc:chkE l pl=0
 ·obtain ⟨hB,hP⟩:=chk_zero hc
  have r56:=rule56 h56 a5 a0 a1 hB hP 0
  simp only [Nat.zero_add,hW1] at r56
  simp [mc21,r50,hc,r56,hl1,tupV,weiV,weiC,cellsOf_agg]
 ·simp [mc21,r50,hc,hl1,tupV,weiV,weiC,zero6]
open Classical in
noncomputable def F21:PureF:=fun args w=>match args with | [v,u]=>(podsIn w v).bind fun l=>(rowsIn intC w u).bind fun pl=>if PartsW w then some (weiV l pl) else none | _=>none
theorem rule21 {ov:Ov} {f:FuncId} (k:HasP ov f F21) {v u:Value} {l:List Pod} {pl:List Int} {w:AW} (hPW:PartsW w) (hv:podsIn w v=some l) (hu:RowsV intC w u pl) (m:Nat):(run Tryd.prog ov (m + 1)).call f [v,u] w .none=.ok (.ret (weiV l pl)) w .none:=k.call (by
 simp only [F21,hv,hu.rowsIn (m:=1) intC_length intC_inj,Option.bind_some]
 rw [if_pos hPW])
end Go.Proofs.YtaiiampennkhiaaDoor.walk
