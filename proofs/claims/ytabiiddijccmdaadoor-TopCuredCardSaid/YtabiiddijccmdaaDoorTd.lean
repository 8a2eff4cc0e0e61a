/- Part of a proof: see the text with the theorem. -/
import Derived.Test.YtabiiddijccmdaaDoorTc
import Derived.Test.YtabiiddijccmdaaDoorShF
set_option linter.all false
namespace Go.Proofs.YtabiiddijccmdaaDoor.walk
open Go Go.Sh
set_option maxRecDepth 100000
theorem same_yl (y:Yl):sameVal 5 (.agg ⟨ylC y⟩) (.agg ⟨ylC y⟩)=true:=same_ints [y.ripe,y.green,y.split,y.left]
structure In70 (H0:T AObj) (n0:Nat) (s:Yl × Yl) (w:AW):Prop where
 old:Old n0 H0 w.heap
 lo:w.heap.get (n0 + 1)=some (.cells (ylC s.1) 53 false)
 hi:w.heap.get (n0 + 2)=some (.cells (ylC s.2) 53 false)
 next:n0 + 2 < w.next
 lim:w.lim≤n0
theorem fold_snoc {l:List Yl} {i:Nat} {y:Yl} (h:l[i]?=some y) (s:Yl × Yl):(l.take (i + 1)).foldl stepE s=stepE ((l.take i).foldl stepE s) y:=by
 rw [List.take_add_one,h,List.foldl_append]
 rfl
set_option maxHeartbeats 1000000 in
theorem loop70 {ov:Ov} (ys:List Yl) (hlen:ys.length≤10000) (s0:Yl × Yl) (H0:T AObj) (n0:Nat) (v:Value) (hv:∀ i,i < ys.length→∃ b off sq c,v=.slice (some ⟨b,off,sq⟩) ys.length c∧RowsA ylC H0 n0 b off ys)
  (Q:Ex→Tm→AW→Prop) (t:Tm) (w:AW) (hw:In70 H0 n0 s0 w)
  (t4:tget t 4=.pointer (some ⟨n0 + 1,0,none⟩)) (t5:tget t 5=.pointer (some ⟨n0 + 2,0,none⟩)) (t10:tget t 10=v) (t11:tget t 11=.int .i64 (ys.length:Nat)) (t12:tget t 12=.int .i64 0)
  (hQ:∀ t w,tget t 4=.pointer (some ⟨n0 + 1,0,none⟩)→tget t 5=.pointer (some ⟨n0 + 2,0,none⟩)→In70 H0 n0 (ys.foldl stepE s0) w→Q (.exit 0) t w) (m:Nat):wp (exM Tryd.prog (run Tryd.prog ov m) (.loop mc70_l0) t w) Q:=by
 refine wp_rounds (fun i t w=>tget t 4=.pointer (some ⟨n0 + 1,0,none⟩)∧tget t 5=.pointer (some ⟨n0 + 2,0,none⟩)∧tget t 10=v∧tget t 11=.int .i64 (ys.length:Nat)∧tget t 12=.int .i64 (i:Nat)∧i≤ys.length∧In70 H0 n0 ((ys.take i).foldl stepE s0) w) 20000 (by decide) ⟨t4,t5,t10,t11,t12,Nat.zero_le _,hw⟩ ?_
 clear t4 t5 t10 t11 t12 hw
 rintro i t w ⟨t4,t5,t10,t11,t12,hi,hw⟩
 by_cases hlt:i < ys.length
 ·obtain ⟨y,hyi⟩:∃ y,ys[i]?=some y:=⟨_,List.getElem?_eq_getElem hlt⟩
  obtain ⟨b,off,sq,c,rfl,hr⟩:=hv i hlt
  have hb:=hr.2
  have hld:=hr.rd (m:=4) ylC_length hyi
  rw [← hw.old b hb] at hld
  have n2:=hw.next
  have hlim:=hw.lim
  have hl1:w.lim≤w.next:=by omega
  have hl2:w.lim≤n0 + 1:=by omega
  have hl3:w.lim≤n0 + 2:=by omega
  have m1:¬ n0 + 1=w.next:=by omega
  have m2:¬ n0 + 2=w.next:=by omega
  have m3:¬ w.next=n0 + 1:=by omega
  have m4:¬ w.next=n0 + 2:=by omega
  have m5:¬ b=w.next:=by omega
  have hia:=fun w=>ia160 w ⟨b,off,sq⟩ ys.length c .i64 i hlt
  have hw1:IntKind.wrap .i64 ((i:Int) + 1)=(i:Int) + 1:=wrap64_in (by omega) (by omega)
  obtain ⟨s,hs⟩:∃ s,s=(ys.take i).foldl stepE s0:=⟨_,rfl⟩
  have hsn:=fold_snoc hyi s0
  rw [← hs] at hsn
  have hlo:=hw.lo
  have hhi:=hw.hi
  rw [← hs] at hlo hhi
  simp [mc70_l0,t4,t5,t10,t11,t12,hlt,hia,hld,hl1,hl2,hl3,m1,m2,m3,m4,m5,cellsOf_agg,hlo,hhi,ylC,hw1]
  refine ⟨by omega,hlt,⟨fun x hx=>?_,?_,?_,?_,?_⟩⟩
  ·have q1:¬ x=w.next:=by omega
   have q2:¬ x=n0 + 1:=by omega
   have q3:¬ x=n0 + 2:=by omega
   simp [q1,q2,q3]
   exact hw.old x hx
  ·rw [hsn]; simp [stepE,ylC]
  ·rw [hsn]; simp [stepE,ylC]
  ·show n0 + 2 < w.next + 1; omega
  ·exact hlim
 ·have hi':i=ys.length:=by omega
  subst hi'
  simp [mc70_l0,t11,t12]
  rw [List.take_length] at hw
  exact hQ _ _ (by simp [t4]) (by simp [t5]) hw
def endsV (s:Yl × Yl):Value:=.tuple ⟨[.agg ⟨ylC s.1⟩,.agg ⟨ylC s.2⟩]⟩
theorem run70 {ov:Ov} (ho:∀ args w,ov 70 args w=none) (y:Yl) (ys:List Yl) (hlen:ys.length≤10000) (v:Value) (w:AW) (hl:w.lim=w.next) (hv:RowsV ylC w v ys) :
  ∃ x w',(run Tryd.prog ov 2).call 70 [.agg ⟨ylC y⟩,v] w .none=.ok (.ret x) w' .none∧x=endsV (ys.foldl stepE (y,y)):=by
 refine call_wp text70 (by simp) (ho _ _) ?_
 obtain ⟨a,c,hvl⟩:=hv.len
 have hln:∀ w,lenB Tryd.prog w 160 v=.val (.int .i64 (ys.length:Nat)) w:=fun w=>by rw [hvl]; simp
 have s1:=same_yl y
 have hl1:w.lim≤w.next + 1:=by omega
 have hl2:w.lim≤w.next + 2:=by omega
 simp [mc70,hln,cellsOf_agg,hl1,hl2,s1]
 refine wp_seqX (wp_blockX (loop70 ys hlen (y,y) w.heap w.next v hv.at_ _ _ _ ⟨?_,?_,?_,?_,?_⟩ ?_ ?_ ?_ ?_ ?_ ?_ 1))
 ·intro x hx
  have q1:¬ x=w.next:=by omega
  have q2:¬ x=w.next + 1:=by omega
  have q3:¬ x=w.next + 2:=by omega
  simp only [get_put]
  rw [if_neg q3,if_neg q2,if_neg q3,if_neg q2,if_neg q1]
 ·simp
 ·simp
 ·simp; try omega
 ·simp [hl]
 ·simp
 ·simp
 ·simp
 ·simp
 ·simp
 ·
  intro t w' s4 s5 hI
  have hlo:=hI.lo
  have hhi:=hI.hi
  have k1:w'.lim≤w.next + 1:=by have:=hI.lim; omega
  have k2:w'.lim≤w.next + 2:=by have:=hI.lim; omega
  have s2:=same_yl (ys.foldl stepE (y,y)).2
  simp [s4,s5,hlo,hhi,k1,k2,s2,cellsOf_agg,tupV,endsV]
open Classical in
noncomputable def F70:PureF:=fun args w=>match args with | [.agg ⟨[.int .i64 a,.int .i64 b,.int .i64 c,.int .i64 d]⟩,v]=>(rowsIn ylC w v).bind fun ys=>if ys.length≤10000 then some (endsV (ys.foldl stepE (⟨a,b,c,d⟩,⟨a,b,c,d⟩))) else none | _=>none
theorem rule70 {ov:Ov} (k:HasP ov 70 F70) (y:Yl) {v:Value} {ys:List Yl} (hlen:ys.length≤10000) (m:Nat) {w:AW} (hv:RowsV ylC w v ys):(run Tryd.prog ov (m + 1)).call 70 [.agg ⟨ylC y⟩,v] w .none=.ok (.ret (endsV (ys.foldl stepE (y,y)))) w .none:=k.call (by
 simp only [F70,ylC,hv.rowsIn (m:=4) ylC_length ylC_inj,Option.bind_some]
 rw [if_pos hlen])
theorem isList160:isList Tryd.prog 160=true:=by kernel_rfl
theorem elem160:elemA Tryd.prog 160=some 53:=by kernel_rfl
theorem sz53:szOf Tryd.prog 53=some 4:=by kernel_rfl
theorem small53:smallT Tryd.prog 53=true:=by kernel_rfl
@[simp] theorem bs103y (w:AW) (y:Yl):buildSliceA Tryd.prog w 160 1 [(0,.agg ⟨ylC y⟩)]=.val (.slice (some ⟨w.next,0,none⟩) 1 1) ⟨w.heap.put w.next (some (.cells (ylC y) 53 false)),w.next + 1,w.lim⟩:=bd160_0_n1 w _ _ _ _
@[simp] theorem ix205_0 (w:AW) (a b:Int):indexA Tryd.prog w 205 (.agg ⟨[.int .i64 a,.int .i64 b]⟩) (.int .i64 0)=.val (.int .i64 a) w:=by kernel_rfl
@[simp] theorem ix205_1 (w:AW) (a b:Int):indexA Tryd.prog w 205 (.agg ⟨[.int .i64 a,.int .i64 b]⟩) (.int .i64 1)=.val (.int .i64 b) w:=by kernel_rfl
def AccV (n0:Nat) (w:AW) (v:Value) (acc:List Yl):Prop:=(acc=[]∧v=.slice none 0 0)∨∃ B,v=.slice (some ⟨B,0,none⟩) acc.length acc.length∧w.heap.get B=some (.cells (acc.flatMap ylC) 53 false)∧n0 < B∧B < w.next
theorem acc_push {n0:Nat} {w:AW} {v:Value} {acc:List Yl} (h:AccV n0 w v acc) (hl:w.lim≤n0) (hn:n0 < w.next) (hlen:acc.length≤90000) (y:Yl) :
  ∃ v' w',append1 Tryd.prog ⟨w.heap.put w.next (some (.cells (ylC y) 53 false)),w.next + 1,w.lim⟩ [160,160] [v,.slice (some ⟨w.next,0,none⟩) 1 1]=.val v' w'∧AccV n0 w' v' (acc++[y])∧(∀ x,x≤n0→w'.heap.get x=w.heap.get x)∧w.next≤w'.next∧w'.lim=w.lim:=by
 have hsrc:srcCells ⟨w.heap.put w.next (some (.cells (ylC y) 53 false)),w.next + 1,w.lim⟩ 4 (.slice (some ⟨w.next,0,none⟩) 1 1)=some (ylC y):=src_row (e':=53) (ro:=false) (k:=1) (by simp) (by simp) (by decide) (by decide)
 rcases h with ⟨rfl,rfl⟩ | ⟨B,rfl,hB,h1,h2⟩
 ·refine ⟨_,_,append_nil isList160 elem160 sz53 small53 (m:=1) rfl hsrc (by simp) (by decide) (by decide),.inr ⟨_,rfl,?_,?_,?_⟩,fun x hx=>?_,?_,rfl⟩
  ·simp
  ·show n0 < w.next + 1; omega
  ·exact Nat.lt_succ_self _
  ·show ((w.heap.put w.next _).put (w.next + 1) _).get x=_
   rw [get_put,if_neg (by omega),get_put,if_neg (by omega)]
  ·show w.next≤w.next + 1 + 1; omega
 ·have hB':(w.heap.put w.next (some (.cells (ylC y) 53 false))).get B=some (.cells (acc.flatMap ylC) 53 false):=by rw [get_put,if_neg (by omega)]; exact hB
  refine ⟨_,_,append_full isList160 elem160 sz53 small53 (n:=acc.length) (m:=1) (c:=acc.flatMap ylC) rfl hsrc (by simp) (by simp) (by decide) (by omega) hB' (flat_length ylC_length acc) (by show w.lim≤B; omega),.inr ⟨w.next + 1,?_,?_,?_,?_⟩,fun x hx=>?_,?_,rfl⟩
  ·simp
  ·show (((w.heap.put w.next _).put B none).put (w.next + 1) _).get (w.next + 1)=_
   rw [get_put,if_pos rfl]; simp
  ·omega
  ·exact Nat.lt_succ_self _
  ·show (((w.heap.put w.next _).put B none).put (w.next + 1) _).get x=_
   rw [get_put,if_neg (by omega),get_put,if_neg (by omega),get_put,if_neg (by omega)]
  ·show w.next≤w.next + 1 + 1; omega
structure In69 (w0:AW) (p:Pod) (v:Value) (acc:List Yl) (w:AW):Prop where
 base:Base w0.heap w0.next (podC p) 105 w
 acc:AccV w0.next w v acc
 lm:w.lim=w0.lim
theorem In69.parts {w0 w:AW} {p:Pod} {v:Value} {acc:List Yl} (h:In69 w0 p v acc w) (hPW:PartsW w0):PartsW w:=hPW.old h.base.old (Nat.le_of_lt h.base.next)
def podDay (p:Pod) (day:Int):Prop:=podB p=true∧planOk p day=true
theorem num_at {p:Pod} {day r h g:Int} (hp:podDay p day) (h1:p.rl≤r) (h2:r≤p.rh) (h3:h=p.hl∨h=p.hh) (h4:g=p.gl∨g=p.gh):numB p day r h g=true:=by
 have k:=pod_ok hp.1
 refine num_of hp.1 hp.2 ?_
 have:=k.h1; have:=k.g1
 simp only [truthOk,inI,Bool.and_eq_true,decide_eq_true_eq]
 omega
theorem loop69c {ov:Ov} (h73:HasP ov 67 F67) (p:Pod) (day:Int) (hp:podDay p day) (w0:AW) (hPW:PartsW w0) (i:Nat) (hi:p.rl + i≤p.rh) (h:Int) (hh:h=p.hl∨h=p.hh) (acc:List Yl) (hacc:acc.length≤80000) (v20 v21 v32 v33:Value)
  (Q:Ex→Tm→AW→Prop) (t:Tm) (w:AW) (v:Value) (hw:In69 w0 p v acc w)
  (t1:tget t 1=.int .i64 day) (t2:tget t 2=.pointer (some ⟨w0.next,0,none⟩)) (t5:tget t 5=v) (t6:tget t 6=.int .i64 (i:Nat)) (t8:tget t 8=.int .i64 h) (t20:tget t 20=v20) (t21:tget t 21=v21) (t32:tget t 32=v32) (t33:tget t 33=v33)
  (t44:tget t 44=.agg ⟨[.int .i64 p.gl,.int .i64 p.gh]⟩) (t45:tget t 45=.int .i64 0)
  (hQ:∀ t w v,In69 w0 p v (acc++[ylI p.born day (p.rl + i) h p.gl,ylI p.born day (p.rl + i) h p.gh]) w→tget t 1=.int .i64 day→tget t 2=.pointer (some ⟨w0.next,0,none⟩)→tget t 5=v→tget t 6=.int .i64 (i:Nat)→tget t 20=v20→tget t 21=v21→tget t 32=v32→tget t 33=v33→Q (.exit 4) t w) :
  wp (exM Tryd.prog (run Tryd.prog ov 1) (.loop mc69_l2) t w) Q:=by
 obtain ⟨L2,hL2⟩:∃ L2,L2=[ylI p.born day (p.rl + i) h p.gl,ylI p.born day (p.rl + i) h p.gh]:=⟨_,rfl⟩
 rw [← hL2] at hQ
 have hl2:L2.length=2:=by rw [hL2]; rfl
 have k:=pod_ok hp.1
 refine wp_rounds (fun j t w=>∃ v,In69 w0 p v (acc++L2.take j) w∧tget t 1=.int .i64 day∧tget t 2=.pointer (some ⟨w0.next,0,none⟩)∧tget t 5=v∧tget t 6=.int .i64 (i:Nat)∧tget t 8=.int .i64 h∧tget t 20=v20∧tget t 21=v21∧tget t 32=v32∧tget t 33=v33∧tget t 44=.agg ⟨[.int .i64 p.gl,.int .i64 p.gh]⟩∧tget t 45=.int .i64 (j:Nat)∧j≤2) 20 (by decide)
  ⟨v,by simpa using hw,t1,t2,t5,t6,t8,t20,t21,t32,t33,t44,t45,by decide⟩ ?_
 clear t1 t2 t5 t6 t8 t20 t21 t32 t33 t44 t45 hw v
 rintro j t w ⟨v,hw,t1,t2,t5,t6,t8,t20,t21,t32,t33,t44,t45,hj⟩
 by_cases hj2:j=2
 ·subst hj2
  simp [mc69_l2,t45]
  exact hQ _ _ v (by rwa [List.take_of_length_le (by omega)] at hw) (by simp [t1]) (by simp [t2]) (by simp [t5]) (by simp [t6]) (by simp [t20]) (by simp [t21]) (by simp [t32]) (by simp [t33])
 ·obtain ⟨g,hg,hg',htk⟩:∃ g,(g=p.gl∨g=p.gh)∧(∀ w,indexA Tryd.prog w 205 (.agg ⟨[.int .i64 p.gl,.int .i64 p.gh]⟩) (.int .i64 (j:Nat))=.val (.int .i64 g) w)∧L2.take (j + 1)=L2.take j++[ylI p.born day (p.rl + i) h g]:=by
   have:j=0∨j=1:=by omega
   rcases this with rfl | rfl
   ·exact ⟨_,.inl rfl,fun w=>ix205_0 w _ _,by rw [hL2]; rfl⟩
   ·exact ⟨_,.inr rfl,fun w=>ix205_1 w _ _,by rw [hL2]; rfl⟩
  have hjlt:(j:Int) < 2:=by omega
  have hbox:=hw.base.box
  have hrl:=k.r0
  have hrh:=k.r2
  have w1:IntKind.wrap .i64 (p.rl + i)=p.rl + i:=wrap64_in (by omega) (by omega)
  have w2:IntKind.wrap .i64 ((j:Int) + 1)=(j:Int) + 1:=wrap64_in (by omega) (by omega)
  have hnum:=num_at (r:=p.rl + i) hp (by omega) hi hh hg
  have r73:=rule67 h73 hnum 0 (hw.parts hPW)
  simp only [Nat.zero_add] at r73
  have k2:(podC p)[2]?=some (.int .i64 p.rl):=rfl
  have k2':∀ h,(podC p)[2]'h=.int .i64 p.rl:=fun _=>rfl
  obtain ⟨v',w',ha,hacc',ho,hn,hl⟩:=acc_push hw.acc hw.base.lim hw.base.next (by rw [List.length_append,List.length_take]; omega) (ylI p.born day (p.rl + i) h g)
  have hbase:Base w0.heap w0.next (podC p) 105 w':=⟨fun x hx=>by rw [ho x (by omega),hw.base.old x hx],by rw [ho _ (Nat.le_refl _)]; exact hbox,by have:=hw.base.next; omega,by rw [hl]; exact hw.base.lim⟩
  simp [mc69_l2,t1,t2,t5,t6,t8,t44,t45,hjlt,hg',hbox,k2',w1,r73,ha,w2]
  refine ⟨by omega,v',⟨hbase,by rw [htk,← List.append_assoc]; exact hacc',by rw [hl]; exact hw.lm⟩,?_⟩
  simp [t20,t21,t32,t33]
  omega
theorem loop69b {ov:Ov} (h73:HasP ov 67 F67) (p:Pod) (day:Int) (hp:podDay p day) (w0:AW) (hPW:PartsW w0) (i:Nat) (hi:p.rl + i≤p.rh) (acc:List Yl) (hacc:acc.length≤70000) (v20 v21:Value)
  (Q:Ex→Tm→AW→Prop) (t:Tm) (w:AW) (v:Value) (hw:In69 w0 p v acc w)
  (t1:tget t 1=.int .i64 day) (t2:tget t 2=.pointer (some ⟨w0.next,0,none⟩)) (t5:tget t 5=v) (t6:tget t 6=.int .i64 (i:Nat)) (t20:tget t 20=v20) (t21:tget t 21=v21) (t32:tget t 32=.agg ⟨[.int .i64 p.hl,.int .i64 p.hh]⟩) (t33:tget t 33=.int .i64 0)
  (hQ:∀ t w v,In69 w0 p v (acc++four p.born day p.hl p.hh p.gl p.gh (p.rl + i)) w→tget t 1=.int .i64 day→tget t 2=.pointer (some ⟨w0.next,0,none⟩)→tget t 5=v→tget t 20=v20→tget t 21=v21→Q (.exit 2) t w) :
  wp (exM Tryd.prog (run Tryd.prog ov 1) (.loop mc69_l1) t w) Q:=by
 refine wp_rounds (fun j t w=>∃ v,In69 w0 p v (acc++(four p.born day p.hl p.hh p.gl p.gh (p.rl + i)).take (2 * j)) w∧tget t 1=.int .i64 day∧tget t 2=.pointer (some ⟨w0.next,0,none⟩)∧tget t 5=v∧tget t 6=.int .i64 (i:Nat)∧tget t 20=v20∧tget t 21=v21∧tget t 32=.agg ⟨[.int .i64 p.hl,.int .i64 p.hh]⟩∧tget t 33=.int .i64 (j:Nat)∧j≤2) 20 (by decide)
  ⟨v,by simpa using hw,t1,t2,t5,t6,t20,t21,t32,t33,by decide⟩ ?_
 clear t1 t2 t5 t6 t20 t21 t32 t33 hw v
 rintro j t w ⟨v,hw,t1,t2,t5,t6,t20,t21,t32,t33,hj⟩
 by_cases hj2:j=2
 ·subst hj2
  simp [mc69_l1,t33]
  exact hQ _ _ v (by simpa [four] using hw) (by simp [t1]) (by simp [t2]) (by simp [t5]) (by simp [t20]) (by simp [t21])
 ·obtain ⟨h,hh,hh',htk⟩:∃ h,(h=p.hl∨h=p.hh)∧(∀ w,indexA Tryd.prog w 205 (.agg ⟨[.int .i64 p.hl,.int .i64 p.hh]⟩) (.int .i64 (j:Nat))=.val (.int .i64 h) w)∧(four p.born day p.hl p.hh p.gl p.gh (p.rl + i)).take (2 * (j + 1))=(four p.born day p.hl p.hh p.gl p.gh (p.rl + i)).take (2 * j)++[ylI p.born day (p.rl + i) h p.gl,ylI p.born day (p.rl + i) h p.gh]:=by
   have:j=0∨j=1:=by omega
   rcases this with rfl | rfl
   ·exact ⟨_,.inl rfl,fun w=>ix205_0 w _ _,rfl⟩
   ·exact ⟨_,.inr rfl,fun w=>ix205_1 w _ _,rfl⟩
  have hjlt:(j:Int) < 2:=by omega
  have hbox:=hw.base.box
  have k6:∀ h,(podC p)[6]'h=.int .i64 p.gl:=fun _=>rfl
  have k7:∀ h,(podC p)[7]'h=.int .i64 p.gh:=fun _=>rfl
  have w2:IntKind.wrap .i64 ((j:Int) + 1)=(j:Int) + 1:=wrap64_in (by omega) (by omega)
  simp [mc69_l1,t1,t2,t5,t6,t32,t33,hjlt,hh',hbox,k6,k7]
  refine wp_seqX (wp_blockX (wp_blockX (loop69c h73 p day hp w0 hPW i hi h hh _ ?_ v20 v21 (.agg ⟨[.int .i64 p.hl,.int .i64 p.hh]⟩) (.int .i64 (j:Nat)) _ _ _ v hw ?_ ?_ ?_ ?_ ?_ ?_ ?_ ?_ ?_ ?_ ?_ ?_)))
  ·have:(four p.born day p.hl p.hh p.gl p.gh (p.rl + i)).length=4:=rfl
   rw [List.length_append,List.length_take]; omega
  ·simp [t1]
  ·simp [t2]
  ·simp [t5]
  ·simp [t6]
  ·simp
  ·simp [t20]
  ·simp [t21]
  ·simp [t32]
  ·simp [t33]
  ·simp
  ·simp
  ·intro t w v hI s1 s2 s5 s6 s20 s21 s32 s33
   simp [s1,s2,s5,s6,s20,s21,s32,s33,w2]
   refine ⟨by omega,v,by rw [htk,← List.append_assoc]; exact hI,?_⟩
   simp
   omega
theorem loop69a {ov:Ov} (h73:HasP ov 67 F67) (p:Pod) (day:Int) (hp:podDay p day) (w0:AW) (hPW:PartsW w0)
  (Q:Ex→Tm→AW→Prop) (t:Tm) (w:AW) (v:Value) (hw:In69 w0 p v [] w)
  (t1:tget t 1=.int .i64 day) (t2:tget t 2=.pointer (some ⟨w0.next,0,none⟩)) (t5:tget t 5=v) (t20:tget t 20=.int .i64 (p.rh - p.rl + 1)) (t21:tget t 21=.int .i64 0)
  (hQ:∀ t w v,In69 w0 p v (sampY p.born day p.rl p.rh p.hl p.hh p.gl p.gh) w→tget t 5=v→Q (.exit 0) t w) :
  wp (exM Tryd.prog (run Tryd.prog ov 1) (.loop mc69_l0) t w) Q:=by
 have k:=pod_ok hp.1
 have kr0:=k.r0
 have kr1:=k.r1
 have kr2:=k.r2
 obtain ⟨n,hn⟩:∃ n,n=(p.rh - p.rl + 1).toNat:=⟨_,rfl⟩
 have hnn:(n:Int)=p.rh - p.rl + 1:=by omega
 unfold sampY at hQ
 rw [← hn] at hQ
 rw [← hnn] at t20
 refine wp_rounds (fun i t w=>∃ v,In69 w0 p v (sampN p.born day p.rl p.hl p.hh p.gl p.gh i) w∧tget t 1=.int .i64 day∧tget t 2=.pointer (some ⟨w0.next,0,none⟩)∧tget t 5=v∧tget t 20=.int .i64 (n:Nat)∧tget t 21=.int .i64 (i:Nat)∧i≤n) 2000 (by decide)
  ⟨v,hw,t1,t2,t5,t20,t21,Nat.zero_le _⟩ ?_
 clear t1 t2 t5 t20 t21 hw v
 rintro i t w ⟨v,hw,t1,t2,t5,t20,t21,hi⟩
 by_cases hlt:i < n
 ·have hbox:=hw.base.box
  have k4:∀ h,(podC p)[4]'h=.int .i64 p.hl:=fun _=>rfl
  have k5:∀ h,(podC p)[5]'h=.int .i64 p.hh:=fun _=>rfl
  have w2:IntKind.wrap .i64 ((i:Int) + 1)=(i:Int) + 1:=wrap64_in (by omega) (by omega)
  simp [mc69_l0,t1,t2,t5,t20,t21,hlt,hbox,k4,k5]
  refine wp_seqX (wp_blockX (wp_blockX (loop69b h73 p day hp w0 hPW i (by omega) _ ?_ (.int .i64 (n:Nat)) (.int .i64 (i:Nat)) _ _ _ v hw ?_ ?_ ?_ ?_ ?_ ?_ ?_ ?_ ?_)))
  ·rw [samp_length]; omega
  ·simp [t1]
  ·simp [t2]
  ·simp [t5]
  ·simp
  ·simp [t20]
  ·simp [t21]
  ·simp
  ·simp
  ·intro t w v hI s1 s2 s5 s20 s21
   simp [s1,s2,s5,s20,s21,w2]
   refine ⟨by omega,v,hI,?_⟩
   simp
   omega
 ·have hi':i=n:=by omega
  subst hi'
  simp [mc69_l0,t20,t21]
  exact hQ _ _ v hw (by simp [t5])
theorem call69 {ov:Ov} (ho:∀ args w,ov 69 args w=none) (h73:HasP ov 67 F67) (p:Pod) (day:Int) (hp:podDay p day) (w:AW) (hPW:PartsW w) (hl:w.lim≤w.next) :
  ∃ v w',(run Tryd.prog ov 2).call 69 [.agg ⟨podC p⟩,.int .i64 day] w .none=.ok (.ret v) w' .none∧AccV w.next w' v (sampY p.born day p.rl p.rh p.hl p.hh p.gl p.gh)∧Old w.next w.heap w'.heap∧w.next≤w'.next∧w'.lim=w.lim:=by
 refine call_wp text69 (by simp) (ho _ _) ?_
 have k:=pod_ok hp.1
 have kr0:=k.r0
 have kr1:=k.r1
 have kr2:=k.r2
 have k2:∀ h,(podC p)[2]'h=.int .i64 p.rl:=fun _=>rfl
 have k3:∀ h,(podC p)[3]'h=.int .i64 p.rh:=fun _=>rfl
 have w1:IntKind.wrap .i64 (p.rh - p.rl)=p.rh - p.rl:=wrap64_in (by omega) (by omega)
 have w2:IntKind.wrap .i64 (p.rh - p.rl + 1)=p.rh - p.rl + 1:=wrap64_in (by omega) (by omega)
 simp [mc69,k2,k3,w1,w2]
 refine wp_seqX (wp_blockX (loop69a h73 p day hp w hPW _ _ _ (.slice none 0 0) ⟨⟨(Old.refl _ _).put (Nat.le_refl _),?_,?_,?_⟩,.inl ⟨rfl,rfl⟩,rfl⟩ ?_ ?_ ?_ ?_ ?_ ?_))
 ·simp
 ·simp
 ·exact hl
 ·simp
 ·simp
 ·simp
 ·simp
 ·simp
 ·intro t w' v hI s5
  rcases hI.acc with ⟨h1,h2⟩ | ⟨B,rfl,h3⟩
  ·exact absurd h1 (samp_ne k)
  ·simp [s5,tupV]
   exact ⟨.inr ⟨B,rfl,h3⟩,hI.base.old,Nat.le_of_lt hI.base.next,hI.lm⟩
def podS (p:Pod) (day:Int):List Yl:=sampY p.born day p.rl p.rh p.hl p.hh p.gl p.gh
def esH:List Pod→List Int→List (Yl × Yl)
 | p::l,d::pl=>endsY (podS p d)::esH l pl
 | _,_=>[]
theorem esH_length:∀ (l:List Pod) (pl:List Int),pl.length=l.length→(esH l pl).length=l.length
 | [],_,_=>rfl
 | p::l,d::pl,h=>by
  show (esH l pl).length + 1=l.length + 1
  rw [esH_length l pl (by simpa using h)]
 | _::_,[],h=>by simp at h
theorem esH_at:∀ (l:List Pod) (pl:List Int) (i:Nat) (p:Pod) (d:Int),l[i]?=some p→pl[i]?=some d→(esH l pl)[i]?=some (endsY (podS p d))
 | [],_,i,_,_,h,_=>by simp at h
 | _::_,[],i,_,_,_,h=>by simp at h
 | p::l,d::pl,0,p',d',h1,h2=>by
  simp only [List.getElem?_cons_zero,Option.some.injEq] at h1 h2
  subst h1 h2
  rfl
 | p::l,d::pl,i + 1,p',d',h1,h2=>by
  simp only [List.getElem?_cons_succ] at h1 h2
  exact esH_at l pl i p' d' h1 h2
theorem fold_left (l:List Yl):∀ s:Yl × Yl,(l.foldl stepE s).1.left=s.1.left∧(l.foldl stepE s).2.left=s.2.left:=by
 induction l with
 | nil=>intro s; exact ⟨rfl,rfl⟩
 | cons y l ih=>intro s; rw [List.foldl_cons]; exact ih _
theorem samp_small {p:Pod} {d:Int} (hp:podDay p d) {y:Yl} (hy:y ∈ podS p d):smallY y:=by
 obtain ⟨r,h,g,h1,h2,_,h4,rfl⟩:=samp_all hy
 have k:=pod_ok hp.1
 have:=k.g1
 exact yl_bd k (plan_day hp.2) h1 h2 (by omega) (by omega)
theorem ends_small {p:Pod} {d:Int} (hp:podDay p d):smallY (endsY (podS p d)).1∧smallY (endsY (podS p d)).2:=by
 have k:=pod_ok hp.1
 have hne:podS p d ≠ []:=samp_ne k
 obtain ⟨⟨y1,m1,e1⟩,⟨y2,m2,e2⟩,_⟩:=ends_ripe hne
 obtain ⟨⟨y3,m3,e3⟩,⟨y4,m4,e4⟩,_⟩:=ends_green hne
 obtain ⟨⟨y5,m5,e5⟩,⟨y6,m6,e6⟩,_⟩:=ends_split hne
 have s1:=samp_small hp m1
 have s2:=samp_small hp m2
 have s3:=samp_small hp m3
 have s4:=samp_small hp m4
 have s5:=samp_small hp m5
 have s6:=samp_small hp m6
 have hleft:∃ y ∈ podS p d,(endsY (podS p d)).1.left=y.left∧(endsY (podS p d)).2.left=y.left:=by
  cases hc:podS p d with
  | nil=>exact absurd hc hne
  | cons y l=>exact ⟨y,List.mem_cons_self ..,fold_left l (y,y)⟩
 obtain ⟨y7,m7,e7,e8⟩:=hleft
 have s7:=samp_small hp m7
 unfold smallY at *
 omega
@[simp] theorem ia160_0 (w:AW) (a:Addr) (n c:Nat) (hn:0 < n):indexAddrA Tryd.prog w 160 (.slice (some a) n c) (.int .i64 0)=.val (.pointer (some (a.add (0 * 4)))) w:=ia160 w a n c .i64 0 hn
structure In37 (w0:AW) (es:List (Yl × Yl)) (n i:Nat) (w:AW):Prop where
 old:Old w0.next w0.heap w.heap
 res:w.heap.get w0.next=some (.cells [.int .i64 0,.int .i64 0,.int .i64 0,.int .i64 0,.int .i64 0,.int .i64 0] 63 false)
 row:∃ Ls:List Yl,w.heap.get (w0.next + 1)=some (.cells (Ls.flatMap ylC) 53 false)∧Ls.length=2 * n∧∀ j,j < i→Ls[j]?=(es[j]?).map (·.1)∧Ls[n + j]?=(es[j]?).map (·.2)
 next:w0.next + 1 < w.next
 lim:w.lim=w0.lim
theorem In37.parts {w0 w:AW} {es:List (Yl × Yl)} {n i:Nat} (h:In37 w0 es n i w) (hPW:PartsW w0):PartsW w:=hPW.old h.old (by have:=h.next; omega)
set_option maxHeartbeats 2000000 in
theorem loop37 {ov:Ov} (h76:∀ args w,ov 69 args w=none) (h73:HasP ov 67 F67) (h77:HasP ov 70 F70) (l:List Pod) (pl:List Int) (v u:Value) (w0:AW) (hPW:PartsW w0) (hlim0:w0.lim≤w0.next) (hv:PodsV w0 v l) (hu:RowsV intC w0 u pl) (hB:podsB l=true) (hP:planB l pl=true)
  (Q:Ex→Tm→AW→Prop) (t:Tm) (w:AW) (hw:In37 w0 (esH l pl) l.length 0 w)
  (t1:tget t 1=u) (t4:tget t 4=.pointer (some ⟨w0.next,0,none⟩)) (t5:tget t 5=.int .i64 (l.length:Nat)) (t6:tget t 6=.slice (some ⟨w0.next + 1,0,none⟩) (2 * l.length) (2 * l.length)) (t17:tget t 17=v) (t18:tget t 18=.int .i64 (l.length:Nat)) (t19:tget t 19=.int .i64 0)
  (hQ:∀ t w,In37 w0 (esH l pl) l.length l.length w→tget t 4=.pointer (some ⟨w0.next,0,none⟩)→tget t 5=.int .i64 (l.length:Nat)→tget t 6=.slice (some ⟨w0.next + 1,0,none⟩) (2 * l.length) (2 * l.length)→Q (.exit 0) t w) :
  wp (exM Tryd.prog (run Tryd.prog ov 2) (.loop mc37_l0) t w) Q:=by
 have hlen:=podsB_len hB
 have e0:pl.length=l.length:=by simp only [planB,Bool.and_eq_true,decide_eq_true_eq] at hP; exact hP.1
 refine wp_rounds (fun i t w=>In37 w0 (esH l pl) l.length i w∧tget t 1=u∧tget t 4=.pointer (some ⟨w0.next,0,none⟩)∧tget t 5=.int .i64 (l.length:Nat)∧tget t 6=.slice (some ⟨w0.next + 1,0,none⟩) (2 * l.length) (2 * l.length)∧tget t 17=v∧tget t 18=.int .i64 (l.length:Nat)∧tget t 19=.int .i64 (i:Nat)∧i≤l.length) 200 (by decide)
  ⟨hw,t1,t4,t5,t6,t17,t18,t19,Nat.zero_le _⟩ ?_
 clear t1 t4 t5 t6 t17 t18 t19 hw
 rintro i t w ⟨hw,t1,t4,t5,t6,t17,t18,t19,hi⟩
 by_cases hlt:i < l.length
 ·obtain ⟨p,hp⟩:∃ p,l[i]?=some p:=⟨_,List.getElem?_eq_getElem hlt⟩
  obtain ⟨d,hdi⟩:∃ d,pl[i]?=some d:=⟨_,List.getElem?_eq_getElem (e0 ▸ hlt)⟩
  obtain ⟨b,sq,c,rfl,hpa⟩:=hv.at_ i hlt
  obtain ⟨b0,o0,q0,c0,rfl,hda⟩:=hu.at_ i (e0 ▸ hlt)
  have hpd:podDay p d:=⟨pods_all hB hp,plan_at hP hp hdi⟩
  have hes:=esH_at l pl i p d hp hdi
  have hld:=load_pod' hpa hp
  have hdd:=hda.int hdi
  rw [← hw.old _ hpa.lt] at hld
  have n1:=hw.next
  have hlm:=hw.lim
  have hl1:w.lim≤w.next:=by omega
  have m0:¬ b=w.next:=by have:=hpa.lt; omega
  -- the pod in its box, and what it can yield
  obtain ⟨W1,hW1⟩:∃ W1:AW,W1=⟨(w.heap.put w.next (some (.cells [.string ⟨⟨[]⟩⟩,.int .i64 0,.int .i64 0,.int .i64 0,.int .i64 0,.int .i64 0,.int .i64 0,.int .i64 0] 33 false))).put w.next (some (.cells (podC p) 33 false)),w.next + 1,w.lim⟩:=⟨_,rfl⟩
  have g1:∀ x,x < w.next→W1.heap.get x=w.heap.get x:=fun x hx=>by rw [hW1]; show ((w.heap.put w.next _).put w.next _).get x=_; rw [get_put,if_neg (by omega),get_put,if_neg (by omega)]
  have g2:W1.next=w.next + 1:=by rw [hW1]
  have g3:W1.lim=w.lim:=by rw [hW1]
  have hPW1:PartsW W1:=(hw.parts hPW).old g1 (by omega)
  obtain ⟨v',w',hcall,hacc,hold,hnx,hlim'⟩:=call69 h76 h73 p d hpd W1 hPW1 (by omega)
  have hne:podS p d ≠ []:=samp_ne (pod_ok hpd.1)
  obtain ⟨y0,ys,hys⟩:∃ y0 ys,podS p d=y0::ys:=by
   cases hc:podS p d with
   | nil=>exact absurd hc hne
   | cons y l=>exact ⟨y,l,rfl⟩
  obtain ⟨N,hN⟩:∃ N,N=(podS p d).length:=⟨_,rfl⟩
  have hN1:N=ys.length + 1:=by rw [hN,hys]; rfl
  have hNb:N≤2000:=by
   rw [hN]
   unfold podS sampY
   rw [samp_length]
   have:=(pod_ok hpd.1).r0; have:=(pod_ok hpd.1).r2
   omega
  rcases hacc with ⟨h1,_⟩ | ⟨B,rfl,hBc,hB1,hB2⟩
  case' inl=>exact absurd h1 hne
  change w'.heap.get B=some (.cells ((podS p d).flatMap ylC) 53 false) at hBc
  change (run Tryd.prog ov 2).call 69 [.agg ⟨podC p⟩,.int .i64 d] W1 .none=.ok (.ret (.slice (some ⟨B,0,none⟩) (podS p d).length (podS p d).length)) w' .none at hcall
  rw [← hN,hW1] at hcall
  have hRA:RowsA ylC w'.heap w'.next B 0 (podS p d):=⟨⟨[],[],53,false,by rw [List.nil_append,List.append_nil]; exact hBc,rfl⟩,hB2⟩
  have hy0:rdO (w'.heap.get B) 0 4=some (ylC y0):=by
   have:=hRA.rd (m:=4) ylC_length (i:=0) (a:=y0) (by rw [hys]; rfl)
   simpa using this
  have hTl:RowsV ylC w' (.slice (some ⟨B,4,none⟩) (N - 1) (N - 1)) ys:=by
   refine .inr ⟨B,4,none,N - 1,by rw [hN1]; rfl,⟨ylC y0,[],53,false,?_,by simp⟩,hB2⟩
   rw [hBc,hys,List.flatMap_cons,List.append_nil]
  have r77:=rule70 h77 y0 (by omega) 1 hTl
  have hends:ys.foldl stepE (y0,y0)=endsY (podS p d):=by rw [hys]; rfl
  rw [hends] at r77
  have hsl:sliceA Tryd.prog w' 160 (.slice (some ⟨B,0,none⟩) N N) (some (.int .i64 1)) none none=.val (.slice (some ⟨B,4,none⟩) (N - 1) (N - 1)) w':=by
   have:=slice_tail (st:=160) elem160 sz53 (a:=⟨B,0,none⟩) (n:=N) (c:=N) (lo:=1) hBc (by omega)
   simpa using this
  -- what stood before
  have hsame:∀ x,x < w.next→w'.heap.get x=w.heap.get x:=fun x hx=>by rw [hold x (by omega),g1 x hx]
  rw [← hw.old _ hda.2] at hdd
  have m6:¬ b0=w.next:=by have:=hda.2; omega
  obtain ⟨Ls,hrow,hLl,hLs⟩:=hw.row
  rw [← hsame _ n1] at hrow
  obtain ⟨cs,hcs⟩:∃ cs,cs=Ls.flatMap ylC:=⟨_,rfl⟩
  obtain ⟨cs2,hcs2⟩:∃ cs2,cs2=(Ls.set i (endsY (podS p d)).1).flatMap ylC:=⟨_,rfl⟩
  have hcl:cs.length=2 * l.length * 4:=by rw [hcs,flat_length ylC_length,hLl]
  have hcl2:cs2.length=2 * l.length * 4:=by rw [hcs2,flat_length ylC_length,List.length_set,hLl]
  rw [← hcs] at hrow
  have hset:=flat_set ylC_length Ls i (endsY (podS p d)).1 (by omega)
  have hset2:=flat_set ylC_length (Ls.set i (endsY (podS p d)).1) (l.length + i) (endsY (podS p d)).2 (by rw [List.length_set]; omega)
  rw [← hcs,← hcs2] at hset
  rw [← hcs2] at hset2
  have hfit:i * 4 + 4≤2 * l.length * 4:=by omega
  have hfit2:(l.length + i) * 4 + 4≤2 * l.length * 4:=by omega
  have hia:=fun w=>ia56 w ⟨b,0,sq⟩ l.length c .i64 i hlt
  have hi0:=fun w=>ia27 w ⟨b0,o0,q0⟩ pl.length c0 .i64 i (e0 ▸ hlt)
  have hi1:=fun w=>ia160 w ⟨w0.next + 1,0,none⟩ (2 * l.length) (2 * l.length) .i64 i (by omega)
  have hi2:∀ w,indexAddrA Tryd.prog w 160 (.slice (some ⟨w0.next + 1,0,none⟩) (2 * l.length) (2 * l.length)) (.int .i64 ((l.length:Int) + (i:Int)))=.val (.pointer (some (Addr.add ⟨w0.next + 1,0,none⟩ ((l.length + i) * 4)))) w:=fun w=>ia160 w ⟨w0.next + 1,0,none⟩ (2 * l.length) (2 * l.length) .i64 (l.length + i) (by omega)
  have hi3:=fun w=>ia160_0 w ⟨B,0,none⟩ N N (by omega)
  have hw1:IntKind.wrap .i64 ((i:Int) + 1)=(i:Int) + 1:=wrap64_in (by omega) (by omega)
  have hw2:IntKind.wrap .i64 ((l.length:Int) + (i:Int))=(l.length:Int) + (i:Int):=wrap64_in (by omega) (by omega)
  have hl3:w'.lim≤w0.next + 1:=by omega
  simp [mc37_l0,t1,t5,t6,t17,t18,t19,hlt,hia,hi0,hi1,hi2,hi3,hld,hdd,hl1,hl3,m0,m6,cellsOf_agg,hcall,hy0,hsl,r77,endsV,hw2,hrow,hcl,hcl2,hfit,hfit2,hset,hset2,hw1]
  refine ⟨by omega,⟨fun x hx=>?_,?_,⟨(Ls.set i (endsY (podS p d)).1).set (l.length + i) (endsY (podS p d)).2,?_,?_,?_⟩,?_,?_⟩,t4,by omega⟩
  ·show ((w'.heap.put (w0.next + 1) _).put (w0.next + 1) _).get x=_
   rw [get_put,if_neg (by omega),get_put,if_neg (by omega),hsame x (by omega),hw.old x hx]
  ·show ((w'.heap.put (w0.next + 1) _).put (w0.next + 1) _).get w0.next=_
   rw [get_put,if_neg (by omega),get_put,if_neg (by omega),hsame _ (by omega),hw.res]
  ·show ((w'.heap.put (w0.next + 1) _).put (w0.next + 1) _).get (w0.next + 1)=_
   rw [get_put,if_pos rfl]
  ·rw [List.length_set,List.length_set,hLl]
  ·intro j hj
   by_cases e:j=i
   ·subst e
    rw [hes]
    refine ⟨?_,?_⟩
    ·rw [List.getElem?_set_ne (by omega),List.getElem?_set_self (by omega)]; rfl
    ·rw [List.getElem?_set_self (by rw [List.length_set]; omega)]; rfl
   ·obtain ⟨q1,q2⟩:=hLs j (by omega)
    refine ⟨?_,?_⟩
    ·rw [List.getElem?_set_ne (by omega),List.getElem?_set_ne (by omega),q1]
    ·rw [List.getElem?_set_ne (by omega),List.getElem?_set_ne (by omega),q2]
  ·show w0.next + 1 < w'.next; omega
  ·show w'.lim=w0.lim; omega
 ·have hi':i=l.length:=by omega
  subst hi'
  simp [mc37_l0,t18,t19]
  exact hQ _ _ hw (by simp [t4]) (by simp [t5]) (by simp [t6])
def loS (l:List Pod) (pl:List Int):Yl:=sumYl ((esH l pl).map (·.1))
def hiS (l:List Pod) (pl:List Int):Yl:=sumYl ((esH l pl).map (·.2))
def wgC (l:List Pod) (pl:List Int):List Value:=[.int .i64 (loS l pl).ripe,.int .i64 (hiS l pl).ripe,.int .i64 (loS l pl).green,.int .i64 (hiS l pl).green,.int .i64 (loS l pl).split,.int .i64 (hiS l pl).split]
theorem es_small {l:List Pod} {pl:List Int} (hB:podsB l=true) (hP:planB l pl=true):(∀ y ∈ (esH l pl).map (·.1),smallY y)∧∀ y ∈ (esH l pl).map (·.2),smallY y:=by
 have e0:pl.length=l.length:=by simp only [planB,Bool.and_eq_true,decide_eq_true_eq] at hP; exact hP.1
 have key:∀ e ∈ esH l pl,smallY e.1∧smallY e.2:=fun e he=>by
  obtain ⟨i,hi⟩:=List.mem_iff_getElem?.1 he
  have hil:i < l.length:=by have:=(List.getElem?_eq_some_iff.1 hi).1; rw [esH_length l pl e0] at this; exact this
  obtain ⟨p,hp⟩:∃ p,l[i]?=some p:=⟨_,List.getElem?_eq_getElem hil⟩
  obtain ⟨d,hdi⟩:∃ d,pl[i]?=some d:=⟨_,List.getElem?_eq_getElem (e0 ▸ hil)⟩
  rw [esH_at l pl i p d hp hdi] at hi
  cases hi
  exact ends_small ⟨pods_all hB hp,plan_at hP hp hdi⟩
 exact ⟨fun y hy=>by obtain ⟨e,he,rfl⟩:=List.mem_map.1 hy; exact (key e he).1,fun y hy=>by obtain ⟨e,he,rfl⟩:=List.mem_map.1 hy; exact (key e he).2⟩
set_option maxHeartbeats 2000000 in
theorem run37 {ov:Ov} (ho:∀ args w,ov 37 args w=none) (h76:∀ args w,ov 69 args w=none) (h73:HasP ov 67 F67) (h77:HasP ov 70 F70) (h74:HasP ov 68 F68) (l:List Pod) (pl:List Int) (v u:Value) (w:AW) (hl:w.lim=w.next) (hPW:PartsW w) (hv:PodsV w v l) (hu:RowsV intC w u pl) (hB:podsB l=true) (hP:planB l pl=true) :
  ∃ x w',(run Tryd.prog ov 3).call 37 [v,u] w .none=.ok (.ret x) w' .none∧x=.agg ⟨wgC l pl⟩:=by
 have hlen:=podsB_len hB
 have e0:pl.length=l.length:=by simp only [planB,Bool.and_eq_true,decide_eq_true_eq] at hP; exact hP.1
 have hel:=esH_length l pl e0
 refine call_wp text37 (by simp) (ho _ _) ?_
 have hl0:=len56V hv
 have w1:IntKind.wrap .i64 (2 * (l.length:Int))=2 * (l.length:Int):=wrap64_in (by omega) (by omega)
 have hms:∀ w,makeSliceA Tryd.prog w 160 (.int .i64 (2 * (l.length:Int))) (.int .i64 (2 * (l.length:Int)))=_:=fun w=>ms103 (2 * l.length) (by omega) w
 simp [mc37,hl0,w1,hms]
 refine wp_seqX (wp_blockX (loop37 h76 h73 h77 l pl v u w hPW (Nat.le_of_eq hl) hv hu hB hP _ _ _ ⟨?_,?_,⟨List.replicate (2 * l.length) ⟨0,0,0,0⟩,?_,?_,fun j hj=>by omega⟩,?_,?_⟩ ?_ ?_ ?_ ?_ ?_ ?_ ?_ ?_))
 ·exact ((Old.refl _ _).put (Nat.le_refl _)).put (Nat.le_succ _)
 ·simp
 ·simp
 ·simp
 ·simp
 ·simp
 ·simp
 ·simp
 ·simp
 ·simp
 ·simp
 ·simp
 ·simp
 ·intro t w' hI s4 s5 s6
  obtain ⟨Ls,hrow,hLl,hLs⟩:=hI.row
  obtain ⟨A,hA⟩:∃ A,A=(esH l pl).map (·.1):=⟨_,rfl⟩
  obtain ⟨C,hC⟩:∃ C,C=(esH l pl).map (·.2):=⟨_,rfl⟩
  have hAl:A.length=l.length:=by rw [hA,List.length_map,hel]
  have hCl:C.length=l.length:=by rw [hC,List.length_map,hel]
  have heq:Ls=A++C:=List.ext_getElem? fun j=>by
   by_cases hj:j < l.length
   ·rw [List.getElem?_append_left (by omega),(hLs j hj).1,hA,List.getElem?_map]
   ·by_cases hj2:j < 2 * l.length
    ·obtain ⟨k,rfl⟩:∃ k,j=l.length + k:=⟨j - l.length,by omega⟩
     rw [(hLs k (by omega)).2,List.getElem?_append_right (by omega),hAl,Nat.add_sub_cancel_left,hC,List.getElem?_map]
    ·rw [List.getElem?_eq_none (by omega),List.getElem?_eq_none (by rw [List.length_append]; omega)]
  subst heq
  rw [List.flatMap_append] at hrow
  obtain ⟨hs1,hs2⟩:=es_small hB hP
  rw [← hA] at hs1
  rw [← hC] at hs2
  obtain ⟨n,hn⟩:∃ n,n=l.length:=⟨_,rfl⟩
  have n1:=hI.next
  -- the world when sums are asked for
  obtain ⟨W,hW⟩:∃ W:AW,W=⟨(w'.heap.put w'.next (some (.cells [.int .i64 0,.int .i64 0,.int .i64 0,.int .i64 0] 53 false))).put (w'.next + 1) (some (.cells [.int .i64 0,.int .i64 0,.int .i64 0,.int .i64 0] 53 false)),w'.next + 1 + 1,w'.lim⟩:=⟨_,rfl⟩
  have hWrow:W.heap.get (w.next + 1)=some (.cells (A.flatMap ylC++C.flatMap ylC) 53 false):=by
   rw [hW]
   show ((w'.heap.put _ _).put _ _).get _=_
   rw [get_put,if_neg (by omega),get_put,if_neg (by omega)]; exact hrow
  have hWn:w.next + 1 < W.next:=by rw [hW]; show w.next + 1 < w'.next + 1 + 1; omega
  have hR1:RowsV ylC W (.slice (some ⟨w.next + 1,0,some 2⟩) l.length l.length) A:=by
   rw [← hAl]
   exact .inr ⟨_,0,some 2,_,rfl,⟨[],C.flatMap ylC,53,false,by rw [List.nil_append]; exact hWrow,rfl⟩,hWn⟩
  have hR2:RowsV ylC W (.slice (some ⟨w.next + 1,l.length * 4,none⟩) l.length l.length) C:=by
   have:RowsV ylC W (.slice (some ⟨w.next + 1,l.length * 4,none⟩) C.length l.length) C:=.inr ⟨_,l.length * 4,none,_,rfl,⟨A.flatMap ylC,[],53,false,by rw [List.append_nil]; exact hWrow,by rw [flat_length ylC_length,hAl]⟩,hWn⟩
   rwa [hCl] at this
  have r74a:=rule68 h74 hs1 (by omega) 1 hR1
  have r74b:=rule68 h74 hs2 (by omega) 1 hR2
  rw [hW] at r74a r74b
  have z1:∀ H n lim,H.get (w.next + 1)=some (.cells (A.flatMap ylC++C.flatMap ylC) 53 false)→sliceA Tryd.prog ⟨H,n,lim⟩ 160 (.slice (some ⟨w.next + 1,0,none⟩) (2 * l.length) (2 * l.length)) none (some (.int .i64 (l.length:Nat))) (some (.int .i64 (l.length:Nat)))=.val (.slice (some ⟨w.next + 1,0,some 2⟩) l.length l.length) ⟨H,n,lim⟩:=fun H n lim hH=>by
   have:=slice_three (st:=160) elem160 sz53 (w:=⟨H,n,lim⟩) (a:=⟨w.next + 1,0,none⟩) (n:=2 * l.length) (c:=2 * l.length) (k:=l.length) (j:=l.length) hH (Nat.le_refl _) (by omega)
   simpa using this
  have z2:∀ H n lim,H.get (w.next + 1)=some (.cells (A.flatMap ylC++C.flatMap ylC) 53 false)→sliceA Tryd.prog ⟨H,n,lim⟩ 160 (.slice (some ⟨w.next + 1,0,none⟩) (2 * l.length) (2 * l.length)) (some (.int .i64 (l.length:Nat))) none none=.val (.slice (some ⟨w.next + 1,l.length * 4,none⟩) l.length l.length) ⟨H,n,lim⟩:=fun H n lim hH=>by
   have:=slice_tail (st:=160) elem160 sz53 (w:=⟨H,n,lim⟩) (a:=⟨w.next + 1,0,none⟩) (n:=2 * l.length) (c:=2 * l.length) (lo:=l.length) hH (by omega)
   have e:2 * l.length - l.length=l.length:=by omega
   rw [e] at this
   simpa using this
  have y1:=z1 w'.heap w'.next w'.lim hrow
  have y2:=z2 w'.heap w'.next w'.lim hrow
  have y3:=z1 W.heap W.next W.lim hWrow
  have y4:=z2 W.heap W.next W.lim hWrow
  rw [hW] at y3 y4
  have l1:w'.lim≤w'.next:=by have:=hI.lim; omega
  have l2:w'.lim≤w.next:=by have:=hI.lim; omega
  have m1:¬ w.next=w'.next:=by omega
  have m2:¬ w.next=w'.next + 1:=by omega
  have hres:=hI.res
  have v1:loS l pl=sumYl A:=by rw [hA]; rfl
  have v2:hiS l pl=sumYl C:=by rw [hC]; rfl
  simp [s4,s5,s6,y1,y2,y3,y4,r74a,r74b,l1,l2,m1,m2,hres,tupV,ylC,wgC,v1,v2]
open Classical in
noncomputable def F37:PureF:=fun args w=>match args with | [v,u]=>(podsIn w v).bind fun l=>(rowsIn intC w u).bind fun pl=>if podsB l=true∧planB l pl=true∧PartsW w then some (.agg ⟨wgC l pl⟩) else none | _=>none
theorem rule37 {ov:Ov} (k:HasP ov 37 F37) {v u:Value} {l:List Pod} {pl:List Int} {w:AW} (hPW:PartsW w) (hv:podsIn w v=some l) (hu:RowsV intC w u pl) (hB:podsB l=true) (hP:planB l pl=true) (m:Nat):(run Tryd.prog ov (m + 1)).call 37 [v,u] w .none=.ok (.ret (.agg ⟨wgC l pl⟩)) w .none:=k.call (by
 simp only [F37,hv,hu.rowsIn (m:=1) intC_length intC_inj,Option.bind_some]
 rw [if_pos ⟨hB,hP,hPW⟩])
def zero6:List Value:=[.int .i64 0,.int .i64 0,.int .i64 0,.int .i64 0,.int .i64 0,.int .i64 0]
def weiC (l:List Pod) (pl:List Int):List Value:=if chkE l pl=0 then wgC l pl else zero6
def weiV (l:List Pod) (pl:List Int):Value:=.tuple ⟨[.agg ⟨weiC l pl⟩,.int .i64 (chkE l pl)]⟩
@[simp] theorem wgC_length (l:List Pod) (pl:List Int):(wgC l pl).length=6:=by simp [wgC]
@[simp] theorem wgC_singles (l:List Pod) (pl:List Int):singles (wgC l pl)=true:=by simp [wgC]
@[simp] theorem wgC_take (l:List Pod) (pl:List Int):(wgC l pl).take 6=wgC l pl:=by simp [wgC]
theorem run14 {ov:Ov} (ho:∀ args w,ov 14 args w=none) (h50:HasP ov 34 F34) (h56:HasP ov 37 F37) (l:List Pod) (pl:List Int) (v u:Value) (w:AW) (hl:w.lim=w.next) (hPW:PartsW w) (hpin:podsIn w v=some l) (hu:RowsV intC w u pl) :
  ∃ x w',(run Tryd.prog ov 2).call 14 [v,u] w .none=.ok (.ret x) w' .none∧x=weiV l pl:=by
 refine call_wp text14 (by simp) (ho _ _) ?_
 have hv:=podsIn_some hpin
 obtain ⟨W1,hW1⟩:∃ W1:AW,W1=⟨w.heap.put w.next (some (.cells [.int .i64 0,.int .i64 0,.int .i64 0,.int .i64 0,.int .i64 0,.int .i64 0] 63 false)),w.next + 1,w.lim⟩:=⟨_,rfl⟩
 have o1:Old w.next w.heap W1.heap:=by rw [hW1]; exact (Old.refl _ _).put (Nat.le_refl _)
 have hn:w.next≤W1.next:=by rw [hW1]; show w.next≤w.next + 1; omega
 have a0:=(hv.old o1 hn).podsIn
 have a1:=hu.old o1 hn
 have a5:=hPW.old o1 hn
 have r50:=rule34 h50 a0 a1 0
 simp only [Nat.zero_add,hW1] at r50
 have hl1:w.lim≤w.next:=by omega
 by_cases hc:chkE l pl=0
 ·obtain ⟨hB,hP⟩:=chk_zero hc
  have r56:=rule37 h56 a5 a0 a1 hB hP 0
  simp only [Nat.zero_add,hW1] at r56
  simp [mc14,r50,hc,r56,hl1,tupV,weiV,weiC,cellsOf_agg]
 ·simp [mc14,r50,hc,hl1,tupV,weiV,weiC,zero6]
open Classical in
noncomputable def F14:PureF:=fun args w=>match args with | [v,u]=>(podsIn w v).bind fun l=>(rowsIn intC w u).bind fun pl=>if PartsW w then some (weiV l pl) else none | _=>none
theorem rule14 {ov:Ov} {f:FuncId} (k:HasP ov f F14) {v u:Value} {l:List Pod} {pl:List Int} {w:AW} (hPW:PartsW w) (hv:podsIn w v=some l) (hu:RowsV intC w u pl) (m:Nat):(run Tryd.prog ov (m + 1)).call f [v,u] w .none=.ok (.ret (weiV l pl)) w .none:=k.call (by
 simp only [F14,hv,hu.rowsIn (m:=1) intC_length intC_inj,Option.bind_some]
 rw [if_pos hPW])
def wrapI (n s:Int):Int:=if s < 1 then 0 else (n.tmod s + s).tmod s
theorem wrapI_bd {n s:Int} (h:1≤s):0≤wrapI n s∧wrapI n s < s:=by
 have h2:=Int.lt_tmod_of_pos n (show 0 < s by omega)
 unfold wrapI
 rw [if_neg (by omega)]
 exact ⟨Int.tmod_nonneg _ (by omega),Int.tmod_lt_of_pos _ (by omega)⟩
noncomputable def F33:PureF:=fun args _=>match args with | [.int .i64 n,.int .i64 s]=>bif decide (s≤2 ^ 60) then some (.int .i64 (wrapI n s)) else none | _=>none
theorem rule33 {ov:Ov} (k:HasP ov 33 F33) (n:Int) {s:Int} (hs:s≤2 ^ 60) (w:AW):(run Tryd.prog ov 1).call 33 [.int .i64 n,.int .i64 s] w .none=.ok (.ret (.int .i64 (wrapI n s))) w .none:=k.call (by
 show (bif decide (s≤2 ^ 60) then some (Value.int .i64 (wrapI n s)) else none)=_
 rw [decide_eq_true hs]; rfl)
theorem run33 {ov:Ov} (ho:∀ args w,ov 33 args w=none) (n s:Int) (hs:s≤2 ^ 60) (w:AW):∃ v w',(run Tryd.prog ov 2).call 33 [.int .i64 n,.int .i64 s] w .none=.ok (.ret v) w' .none∧v=.int .i64 (wrapI n s):=by
 refine call_wp text33 (by simp) (ho _ _) ?_
 by_cases h1:s < 1
 ·simp [mc33,h1,tupV,wrapI]
 ·have hr:=fun (a:Int) (c:Bool) w=>bin_rem (P:=Tryd.prog) (w:=w) 3 c .i64 a s (by omega)
  have b1:=Int.lt_tmod_of_pos n (show 0 < s by omega)
  have b2:=Int.tmod_lt_of_pos n (show 0 < s by omega)
  have w1:IntKind.wrap .i64 (n.tmod s + s)=n.tmod s + s:=wrap64_in (by omega) (by omega)
  simp [mc33,h1,tupV,wrapI,hr,w1]
def nthI (L:List Int) (i:Int):Int:=match L[(wrapI i L.length).toNat]? with | some z=>z | none=>0
noncomputable def F12:PureF:=fun args w=>match args with | [v,.int .i64 i]=>(rowsIn intC w v).bind fun L=>bif decide (L.length≤2 ^ 60) then some (.int .i64 (nthI L i)) else none | _=>none
theorem run12 {ov:Ov} (ho:∀ args w,ov 12 args w=none) (h42:HasP ov 33 F33) (v:Value) (L:List Int) (i:Int) (w:AW) (hv:RowsV intC w v L) (hs:L.length≤2 ^ 60):∃ x w',(run Tryd.prog ov 2).call 12 [v,.int .i64 i] w .none=.ok (.ret x) w' .none∧x=.int .i64 (nthI L i):=by
 refine call_wp text12 (by simp) (ho _ _) ?_
 have hl:=len27V hv
 have r42:=rule33 h42 i (s:=L.length) (by omega)
 by_cases h0:L.length=0
 ·have:L=[]:=List.eq_nil_of_length_eq_zero h0
  subst this
  simp [mc12,hl,tupV,nthI]
 ·have hb:=wrapI_bd (n:=i) (s:=L.length) (by omega)
  obtain ⟨k,hk⟩:∃ k:Nat,(k:Int)=wrapI i L.length:=⟨(wrapI i L.length).toNat,by omega⟩
  have hkl:k < L.length:=by omega
  obtain ⟨z,hz⟩:∃ z,L[k]?=some z:=⟨_,List.getElem?_eq_getElem hkl⟩
  obtain ⟨b,off,sq,c,rfl,hr⟩:=hv.at_ k hkl
  have hld:=hr.int hz
  have hia:=fun w=>ia27 w ⟨b,off,sq⟩ L.length c .i64 k hkl
  rw [← hk] at r42
  have hn:nthI L i=z:=by
   unfold nthI
   rw [← hk,Int.toNat_natCast,hz]
  have h0':¬ (L.length:Int)=0:=by omega
  simp [mc12,hl,h0,h0',r42,hia,hld,tupV,hn]
def withI (lo hi n:Int):Int:=lo + wrapI n (hi - lo + 1)
theorem with_in {lo hi n:Int} (h:lo≤hi):inI lo (withI lo hi n) hi=true:=by
 obtain ⟨a,b⟩:=wrapI_bd (n:=n) (s:=hi - lo + 1) (by omega)
 obtain ⟨x,hx⟩:∃ x,x=wrapI n (hi - lo + 1):=⟨_,rfl⟩
 rw [← hx] at a b
 simp only [inI,withI,← hx,Bool.and_eq_true,decide_eq_true_eq]
 exact ⟨by omega,by omega⟩
noncomputable def F11:PureF:=fun args _=>match args with | [.int .i64 lo,.int .i64 hi,.int .i64 n]=>bif inI 0 lo 100000 && inI 0 hi 100000 then some (.int .i64 (withI lo hi n)) else none | _=>none
variable {fm:Nat}
theorem rule12m {ov:Ov} (k:HasP ov 12 F12) {v:Value} {L:List Int} (i:Int) {w:AW} (hv:RowsV intC w v L) (hs:L.length≤2 ^ 60):(run Tryd.prog ov (fm + 1)).call 12 [v,.int .i64 i] w .none=.ok (.ret (.int .i64 (nthI L i))) w .none:=k.call (by
 unfold F12
 simp only [hv.rowsIn (m:=1) intC_length intC_inj,Option.bind_some,decide_eq_true hs]; rfl)
theorem rule11g {ov:Ov} (k:HasP ov 11 F11) {lo hi:Int} (n:Int) (h1:0≤lo∧lo≤100000) (h2:0≤hi∧hi≤100000) (w:AW):(run Tryd.prog ov (fm + 1)).call 11 [.int .i64 lo,.int .i64 hi,.int .i64 n] w .none=.ok (.ret (.int .i64 (withI lo hi n))) w .none:=k.call (by simp [F11,inI,h1,h2])
theorem isList27:isList Tryd.prog 27=true:=by kernel_rfl
theorem elem27:elemA Tryd.prog 27=some 3:=by kernel_rfl
theorem sz3:szOf Tryd.prog 3=some 1:=by kernel_rfl
theorem small3:smallT Tryd.prog 3=true:=by kernel_rfl
def AccI (n1:Nat) (w:AW) (v:Value) (acc:List Int) (B:Nat):Prop:=(acc=[]∧v=.slice none 0 0∧B=0)∨(v=.slice (some ⟨B,0,none⟩) acc.length acc.length∧w.heap.get B=some (.cells (acc.flatMap intC) 3 false)∧n1 < B∧B < w.next)
theorem AccI.lt {n1:Nat} {w:AW} {v:Value} {acc:List Int} {B:Nat} (h:AccI n1 w v acc B) (hn:0 < w.next):B < w.next:=by
 rcases h with ⟨_,_,rfl⟩ | ⟨_,_,_,h⟩
 ·exact hn
 ·exact h
theorem int_push {n1:Nat} {w:AW} {v:Value} {acc:List Int} {B:Nat} (h:AccI n1 w v acc B) (hl:w.lim≤n1) (hn:n1 < w.next) (hlen:acc.length≤90000) (z:Int) :
  ∃ v' w' B',append1 Tryd.prog ⟨w.heap.put w.next (some (.cells [.int .i64 z] 3 false)),w.next + 1,w.lim⟩ [27,27] [v,.slice (some ⟨w.next,0,none⟩) 1 1]=.val v' w'∧AccI n1 w' v' (acc++[z]) B'∧(∀ x,x < w.next→(x=B→B=0)→w'.heap.get x=w.heap.get x)∧w.next≤B'∧w.next≤w'.next∧w'.lim=w.lim:=by
 have hsrc:srcCells ⟨w.heap.put w.next (some (.cells [.int .i64 z] 3 false)),w.next + 1,w.lim⟩ 1 (.slice (some ⟨w.next,0,none⟩) 1 1)=some [.int .i64 z]:=src_row (e':=3) (ro:=false) (k:=1) (by simp) (by simp) (by decide) (by decide)
 rcases h with ⟨rfl,rfl,rfl⟩ | ⟨rfl,hB,h1,h2⟩
 ·refine ⟨_,_,w.next + 1,append_nil isList27 elem27 sz3 small3 (m:=1) rfl hsrc (by simp) (by decide) (by decide),.inr ⟨rfl,?_,?_,?_⟩,fun x hx _=>?_,by omega,?_,rfl⟩
  ·simp [intC]
  ·omega
  ·exact Nat.lt_succ_self _
  ·show ((w.heap.put w.next _).put (w.next + 1) _).get x=_
   rw [get_put,if_neg (by omega),get_put,if_neg (by omega)]
  ·show w.next≤w.next + 1 + 1; omega
 ·have hB':(w.heap.put w.next (some (.cells [.int .i64 z] 3 false))).get B=some (.cells (acc.flatMap intC) 3 false):=by rw [get_put,if_neg (by omega)]; exact hB
  refine ⟨_,_,w.next + 1,append_full isList27 elem27 sz3 small3 (n:=acc.length) (m:=1) (c:=acc.flatMap intC) rfl hsrc (by simp) (by simp) (by decide) (by omega) hB' (flat_length intC_length acc) (by show w.lim≤B; omega),.inr ⟨?_,?_,?_,?_⟩,fun x hx hxB=>?_,by omega,?_,rfl⟩
  ·simp
  ·show (((w.heap.put w.next _).put B none).put (w.next + 1) _).get (w.next + 1)=_
   rw [get_put,if_pos rfl]; simp [intC]
  ·omega
  ·exact Nat.lt_succ_self _
  ·have:¬ x=B:=fun e=>by have:=hxB e; omega
   show (((w.heap.put w.next _).put B none).put (w.next + 1) _).get x=_
   rw [get_put,if_neg (by omega),get_put,if_neg this,get_put,if_neg (by omega)]
  ·show w.next≤w.next + 1 + 1; omega
end Go.Proofs.YtabiiddijccmdaaDoor.walk
namespace Go.Proofs.YtabiiddijccmdaaDoor.walk
open Go Go.Sh
set_option maxRecDepth 100000
variable {fm:Nat}
def pk (f:Nat→Pod→Int) (l:List Pod):Nat→List Int
 | 0=>[]
 | i + 1=>pk f l i++[match l[i]? with | some p=>f i p | none=>0]
theorem pk_length (f:Nat→Pod→Int) (l:List Pod):∀ n,(pk f l n).length=n
 | 0=>rfl
 | n + 1=>by simp [pk,pk_length f l n]
theorem pk_at (f:Nat→Pod→Int) (l:List Pod) {i:Nat} {p:Pod} (hp:l[i]?=some p):∀ n,i < n→(pk f l n)[i]?=some (f i p)
 | 0,h=>by omega
 | n + 1,h=>by
  show (pk f l n++_)[i]?=_
  by_cases e:i < n
  ·rw [List.getElem?_append_left (by rw [pk_length]; exact e),pk_at f l hp n e]
  ·have e':i=n:=by omega
   rw [List.getElem?_append_right (by rw [pk_length]; omega),pk_length,e',Nat.sub_self]
   subst e'
   simp [hp]
theorem pk_succ (f:Nat→Pod→Int) (l:List Pod) {i:Nat} {p:Pod} (hp:l[i]?=some p):pk f l i++[f i p]=pk f l (i + 1):=by
 show _=pk f l i++_
 rw [hp]
def fR (bits:List Int) (i:Nat) (p:Pod):Int:=withI p.rl p.rh (nthI bits (3 * (i:Int)))
def fH (bits:List Int) (i:Nat) (p:Pod):Int:=withI p.hl p.hh (nthI bits (3 * (i:Int) + 1))
def fG (bits:List Int) (i:Nat) (p:Pod):Int:=withI p.gl p.gh (nthI bits (3 * (i:Int) + 2))
theorem AccI.rows {n1:Nat} {w w':AW} {v:Value} {acc:List Int} {B:Nat} (h:AccI n1 w v acc B) (k:∀ x,n1 < x→x < w.next→w'.heap.get x=w.heap.get x) (hn:w.next≤w'.next):RowsV intC w' v acc:=by
 rcases h with ⟨h1,h2,_⟩ | ⟨h1,h2,h3,h4⟩
 ·exact .inl ⟨h1,_,_,h2⟩
 ·exact .inr ⟨B,0,none,_,h1,⟨[],[],3,false,by rw [k B h3 h4,h2]; simp,rfl⟩,by omega⟩
end Go.Proofs.YtabiiddijccmdaaDoor.walk
namespace Go.Proofs.YtabiiddijccmdaaDoor.walk
open Go Go.Sh
set_option maxRecDepth 100000
theorem choose_ok {p:Pod} (hp:podB p=true) (bits:List Int) (i:Nat):truthOk p (fR bits i p) (fH bits i p) (fG bits i p)=true:=by
 have k:=pod_ok hp
 have:=k.r1; have:=k.h1; have:=k.g1
 simp only [truthOk,Bool.and_eq_true]
 exact ⟨with_in (by assumption),with_in (by assumption),with_in (by assumption)⟩
theorem choose_to {l:List Pod} (hB:podsB l=true) (bits:List Int):∀ n,n≤l.length→truthTo l (pk (fR bits) l l.length) (pk (fH bits) l l.length) (pk (fG bits) l l.length) n=true
 | 0,_=>rfl
 | n + 1,h=>by
  obtain ⟨p,hp⟩:∃ p,l[n]?=some p:=⟨_,List.getElem?_eq_getElem (by omega)⟩
  rw [truth_snoc hp (pk_at _ l hp _ h) (pk_at _ l hp _ h) (pk_at _ l hp _ h),choose_to hB bits n (by omega),choose_ok (pods_all hB hp)]
  rfl
theorem choose_truth {l:List Pod} (hB:podsB l=true) (bits:List Int):truthB l (pk (fR bits) l l.length) (pk (fH bits) l l.length) (pk (fG bits) l l.length)=true:=by
 simp [truthB,pk_length,choose_to hB bits l.length (Nat.le_refl _)]
theorem sY_le {c:Yl→Int}:∀ A B:List Yl,A.length=B.length→(∀ (i:Nat) (a b:Yl),A[i]?=some a→B[i]?=some b→c a≤c b)→sY c A≤sY c B
 | [],[],_,_=>Int.le_refl _
 | [],_::_,h,_=>by simp at h
 | _::_,[],h,_=>by simp at h
 | a::A,b::B,h,k=>by
  show c a + sY c A≤c b + sY c B
  have h1:=k 0 a b rfl rfl
  have h2:=sY_le A B (by simpa using h) fun i a b e1 e2=>k (i + 1) a b (by simpa using e1) (by simpa using e2)
  omega
theorem truth_lens {l:List Pod} {R H G:List Int} (hT:truthB l R H G=true):R.length=l.length∧H.length=l.length∧G.length=l.length:=by
 simp only [truthB,Bool.and_eq_true,decide_eq_true_eq] at hT; exact ⟨hT.1,hT.2.1,hT.2.2.1⟩
theorem plan_len {l:List Pod} {pl:List Int} (hP:planB l pl=true):pl.length=l.length:=by simp only [planB,Bool.and_eq_true,decide_eq_true_eq] at hP; exact hP.1
theorem lies {l:List Pod} {pl R H G:List Int} (hB:podsB l=true) (hP:planB l pl=true) (hT:truthB l R H G=true) :
  ((loS l pl).ripe≤(sumYl (ysH l pl R H G)).ripe∧(sumYl (ysH l pl R H G)).ripe≤(hiS l pl).ripe)∧((loS l pl).green≤(sumYl (ysH l pl R H G)).green∧(sumYl (ysH l pl R H G)).green≤(hiS l pl).green)∧((loS l pl).split≤(sumYl (ysH l pl R H G)).split∧(sumYl (ysH l pl R H G)).split≤(hiS l pl).split):=by
 obtain ⟨e1,e2,e3⟩:=truth_lens hT
 have e0:=plan_len hP
 have hy:=ysH_length l pl R H G e0 e1 e2 e3
 have he:=esH_length l pl e0
 have key:∀ (i:Nat) (y:Yl) (e:Yl × Yl),(ysH l pl R H G)[i]?=some y→(esH l pl)[i]?=some e→(e.1.ripe≤y.ripe∧y.ripe≤e.2.ripe)∧(e.1.green≤y.green∧y.green≤e.2.green)∧(e.1.split≤y.split∧y.split≤e.2.split):=by
  intro i y e h1 h2
  have hlt:i < l.length:=by have:=(List.getElem?_eq_some_iff.1 h1).1; omega
  obtain ⟨p,hp⟩:∃ p,l[i]?=some p:=⟨_,List.getElem?_eq_getElem hlt⟩
  obtain ⟨d,hdi⟩:∃ d,pl[i]?=some d:=⟨_,List.getElem?_eq_getElem (e0 ▸ hlt)⟩
  obtain ⟨r,hri⟩:∃ d,R[i]?=some d:=⟨_,List.getElem?_eq_getElem (e1 ▸ hlt)⟩
  obtain ⟨h,hhi⟩:∃ d,H[i]?=some d:=⟨_,List.getElem?_eq_getElem (e2 ▸ hlt)⟩
  obtain ⟨g,hgi⟩:∃ d,G[i]?=some d:=⟨_,List.getElem?_eq_getElem (e3 ▸ hlt)⟩
  rw [ysH_at l pl R H G i p d r h g hp hdi hri hhi hgi] at h1
  rw [esH_at l pl i p d hp hdi] at h2
  cases h1
  cases h2
  have k:=pod_ok (pods_all hB hp)
  have hd:=plan_day (plan_at hP hp hdi)
  have ht:=truth_at hT hp hri hhi hgi
  simp only [truthOk,inI,Bool.and_eq_true,decide_eq_true_eq] at ht
  obtain ⟨⟨a1,a2⟩,⟨a3,a4⟩,a5,a6⟩:=ht
  exact ⟨in_ripe k hd a1 a2 a3 a4 a5 a6,in_green k hd a1 a2 a5 a6,in_split k a1 a2 a3 a4⟩
 have lo:∀ (i:Nat) (y e:Yl),((esH l pl).map (·.1))[i]?=some e→(ysH l pl R H G)[i]?=some y→∃ e',(esH l pl)[i]?=some e'∧e'.1=e:=fun i y e h1 h2=>by
  rw [List.getElem?_map] at h1
  cases hx:(esH l pl)[i]? with
  | none=>rw [hx] at h1; cases h1
  | some e'=>rw [hx] at h1; cases h1; exact ⟨_,rfl,rfl⟩
 have hi:∀ (i:Nat) (y e:Yl),((esH l pl).map (·.2))[i]?=some e→(ysH l pl R H G)[i]?=some y→∃ e',(esH l pl)[i]?=some e'∧e'.2=e:=fun i y e h1 h2=>by
  rw [List.getElem?_map] at h1
  cases hx:(esH l pl)[i]? with
  | none=>rw [hx] at h1; cases h1
  | some e'=>rw [hx] at h1; cases h1; exact ⟨_,rfl,rfl⟩
 refine ⟨⟨sY_le _ _ (by simp [hy,he]) fun i a b h1 h2=>?_,sY_le _ _ (by simp [hy,he]) fun i a b h1 h2=>?_⟩,⟨sY_le _ _ (by simp [hy,he]) fun i a b h1 h2=>?_,sY_le _ _ (by simp [hy,he]) fun i a b h1 h2=>?_⟩,sY_le _ _ (by simp [hy,he]) fun i a b h1 h2=>?_,sY_le _ _ (by simp [hy,he]) fun i a b h1 h2=>?_⟩
 ·obtain ⟨e',k1,rfl⟩:=lo i b a h1 h2; exact (key i b e' h2 k1).1.1
 ·obtain ⟨e',k1,rfl⟩:=hi i a b h2 h1; exact (key i a e' h1 k1).1.2
 ·obtain ⟨e',k1,rfl⟩:=lo i b a h1 h2; exact (key i b e' h2 k1).2.1.1
 ·obtain ⟨e',k1,rfl⟩:=hi i a b h2 h1; exact (key i a e' h1 k1).2.1.2
 ·obtain ⟨e',k1,rfl⟩:=lo i b a h1 h2; exact (key i b e' h2 k1).2.2.1
 ·obtain ⟨e',k1,rfl⟩:=hi i a b h2 h1; exact (key i a e' h1 k1).2.2.2
abbrev Sp:=Int × Int
def inn (x:Int) (s:Sp):Prop:=s.1≤x∧x≤s.2
def bothS (a b:Sp):Sp:=(max a.1 b.1,min a.2 b.2)
def restS (u l:Sp):Sp:=(u.1 - l.2,u.2 - l.1)
def wholeS (u l:Sp):Sp:=(u.1 + l.1,u.2 + l.2)
def empS (a:Sp):Bool:=decide (a.2 < a.1)
def updS (U:Nat→Sp) (i:Nat) (s:Sp):Nat→Sp:=fun k=>if k=i then s else U k
def lowS (L:Nat→Sp) (d:Nat) (U:Nat→Sp):Nat→Sp:=updS U (d + 1) (bothS (U (d + 1)) (restS (U d) (L d)))
def stepS (L:Nat→Sp) (d:Nat) (U:Nat→Sp):Nat→Sp:=updS (lowS L d U) d (bothS (lowS L d U d) (wholeS (lowS L d U (d + 1)) (L d)))
def passS (L:Nat→Sp) (U:Nat→Sp):Nat→Nat→Sp
 | 0=>U
 | d + 1=>stepS L d (passS L U d)
def SolS (N:Nat) (L U:Nat→Sp) (x:Nat→Int):Prop:=(∀ i,i≤N→inn (x i) (U i))∧∀ i,i < N→inn (x i - x (i + 1)) (L i)
theorem stepS_at (L U:Nat→Sp) (d k:Nat):stepS L d U k=if k=d then bothS (U d) (wholeS (bothS (U (d + 1)) (restS (U d) (L d))) (L d)) else if k=d + 1 then bothS (U (d + 1)) (restS (U d) (L d)) else U k:=by
 have h1:lowS L d U d=U d:=by unfold lowS updS; rw [if_neg (by omega)]
 have h2:lowS L d U (d + 1)=bothS (U (d + 1)) (restS (U d) (L d)):=by unfold lowS updS; rw [if_pos rfl]
 unfold stepS
 rw [h1,h2]
 unfold updS
 by_cases e:k=d
 ·rw [if_pos e,if_pos e]
 ·rw [if_neg e,if_neg e]; rfl
theorem stepS_sol {N:Nat} {L U:Nat→Sp} {d:Nat} {x:Nat→Int} (hd:d < N):SolS N L (stepS L d U) x ↔ SolS N L U x:=by
 constructor
 ·rintro ⟨h1,h2⟩
  refine ⟨fun i hi=>?_,h2⟩
  have h:=h1 i hi
  rw [stepS_at] at h
  by_cases e:i=d
  ·subst e
   rw [if_pos rfl] at h
   unfold inn at h ⊢
   unfold bothS at h
   simp only at h
   omega
  ·rw [if_neg e] at h
   by_cases e2:i=d + 1
   ·subst e2
    rw [if_pos rfl] at h
    unfold inn at h ⊢
    unfold bothS at h
    simp only at h
    omega
   ·rw [if_neg e2] at h; exact h
 ·rintro ⟨h1,h2⟩
  refine ⟨fun i hi=>?_,h2⟩
  have k1:=h1 d (by omega)
  have k2:=h1 (d + 1) (by omega)
  have k3:=h2 d hd
  rw [stepS_at]
  unfold inn at k1 k2 k3
  by_cases e:i=d
  ·subst e
   rw [if_pos rfl]
   unfold inn bothS wholeS restS
   simp only
   omega
  ·rw [if_neg e]
   by_cases e2:i=d + 1
   ·subst e2
    rw [if_pos rfl]
    unfold inn bothS restS
    simp only
    omega
   ·rw [if_neg e2]; exact h1 i hi
theorem passS_sol {N:Nat} {L U:Nat→Sp} {x:Nat→Int}:∀ d,d≤N→(SolS N L (passS L U d) x ↔ SolS N L U x)
 | 0,_=>Iff.rfl
 | d + 1,h=>(stepS_sol (by omega)).trans (passS_sol d (by omega))
def TightC (N:Nat) (L U:Nat→Sp):Prop:=∀ d,d < N→((U d).1 - (L d).2≤(U (d + 1)).1∧(U (d + 1)).2≤(U d).2 - (L d).1)∧((U (d + 1)).1 + (L d).1≤(U d).1∧(U d).2≤(U (d + 1)).2 + (L d).2)
def subS (a b:Sp):Prop:=b.1≤a.1∧a.2≤b.2
theorem subS.refl (a:Sp):subS a a:=⟨Int.le_refl _,Int.le_refl _⟩
theorem subS.trans {a b c:Sp} (h:subS a b) (k:subS b c):subS a c:=⟨Int.le_trans k.1 h.1,Int.le_trans h.2 k.2⟩
theorem subS.eq {a b:Sp} (h:subS a b) (k:subS b a):a=b:=Prod.ext (Int.le_antisymm k.1 h.1) (Int.le_antisymm h.2 k.2)
theorem stepS_sub (L U:Nat→Sp) (d k:Nat):subS (stepS L d U k) (U k):=by
 rw [stepS_at]
 split
 ·rename_i e; subst e; unfold subS bothS; simp only; omega
 ·split
  ·rename_i e; subst e; unfold subS bothS; simp only; omega
  ·exact subS.refl _
theorem passS_sub (L U:Nat→Sp) (k:Nat):∀ d e,subS (passS L U (d + e) k) (passS L U d k)
 | d,0=>subS.refl _
 | d,e + 1=>(stepS_sub L _ _ k).trans (passS_sub L U k d e)
theorem fix_tight {N:Nat} {L U:Nat→Sp} (h:∀ k,k≤N→passS L U N k=U k):TightC N L U:=by
 have same:∀ d,d≤N→∀ k,k≤N→passS L U d k=U k:=fun d hd k hk=>by
  have h1:=passS_sub L U k 0 d
  have h2:=passS_sub L U k d (N - d)
  rw [show d + (N - d)=N by omega,h k hk] at h2
  rw [Nat.zero_add] at h1
  exact h1.eq h2
 intro d hd
 have a0:=same d (by omega) d (by omega)
 have a1:=same d (by omega) (d + 1) (by omega)
 have b0:=same (d + 1) (by omega) d (by omega)
 have b1:=same (d + 1) (by omega) (d + 1) (by omega)
 have s0:=stepS_at L (passS L U d) d d
 have s1:=stepS_at L (passS L U d) d (d + 1)
 rw [if_pos rfl,a0,a1] at s0
 rw [if_neg (by omega),if_pos rfl,a0,a1] at s1
 have c0:U d=bothS (U d) (wholeS (bothS (U (d + 1)) (restS (U d) (L d))) (L d)):=b0.symm.trans s0
 have c1:U (d + 1)=bothS (U (d + 1)) (restS (U d) (L d)):=b1.symm.trans s1
 rw [← c1] at c0
 have e1:=congrArg Prod.fst c0
 have e2:=congrArg Prod.snd c0
 have e3:=congrArg Prod.fst c1
 have e4:=congrArg Prod.snd c1
 unfold bothS wholeS at e1 e2
 unfold bothS restS at e3 e4
 simp only at e1 e2 e3 e4
 omega
def fwdS (L U:Nat→Sp) (a:Nat) (v:Int):Nat→Int
 | 0=>v
 | k + 1=>min (U (a + k + 1)).2 (fwdS L U a v k - (L (a + k)).1)
def bwdS (L U:Nat→Sp) (a:Nat) (v:Int):Nat→Int
 | 0=>v
 | k + 1=>min (U (a - k - 1)).2 (bwdS L U a v k + (L (a - k - 1)).2)
def chainS (L U:Nat→Sp) (a:Nat) (v:Int) (i:Nat):Int:=if a≤i then fwdS L U a v (i - a) else bwdS L U a v (a - i)
theorem fwdS_in {N:Nat} {L U:Nat→Sp} (hT:TightC N L U) (hL:∀ i,i < N→(L i).1≤(L i).2) (hU:∀ i,i≤N→(U i).1≤(U i).2) {a:Nat} {v:Int} (hv:inn v (U a)):∀ k,a + k≤N→inn (fwdS L U a v k) (U (a + k))∧(∀ j,k=j + 1→inn (fwdS L U a v j - fwdS L U a v (j + 1)) (L (a + j)))
 | 0,_=>⟨hv,fun j h=>by omega⟩
 | k + 1,hk=>by
  have h1:=(fwdS_in hT hL hU hv k (by omega)).1
  have h2:=(hT (a + k) (by omega))
  have h3:=hL (a + k) (by omega)
  have h4:=hU (a + k + 1) (by omega)
  have e:fwdS L U a v (k + 1)=min (U (a + k + 1)).2 (fwdS L U a v k - (L (a + k)).1):=rfl
  obtain ⟨z,hz⟩:∃ z,z=fwdS L U a v k:=⟨_,rfl⟩
  rw [← hz] at h1 e
  unfold inn at h1
  refine ⟨?_,fun j hj=>?_⟩
  ·rw [e]; show (U (a + k + 1)).1≤_∧_≤(U (a + k + 1)).2; omega
  ·obtain rfl:j=k:=by omega
   rw [e,← hz]; unfold inn; omega
theorem bwdS_in {N:Nat} {L U:Nat→Sp} (hT:TightC N L U) (hL:∀ i,i < N→(L i).1≤(L i).2) (hU:∀ i,i≤N→(U i).1≤(U i).2) {a:Nat} (ha:a≤N) {v:Int} (hv:inn v (U a)):∀ k,k≤a→inn (bwdS L U a v k) (U (a - k))∧(∀ j,k=j + 1→inn (bwdS L U a v (j + 1) - bwdS L U a v j) (L (a - j - 1)))
 | 0,_=>⟨hv,fun j h=>by omega⟩
 | k + 1,hk=>by
  have h1:=(bwdS_in hT hL hU ha hv k (by omega)).1
  have h2:=(hT (a - k - 1) (by omega))
  have h3:=hL (a - k - 1) (by omega)
  have h4:=hU (a - k - 1) (by omega)
  rw [show a - k - 1 + 1=a - k by omega] at h2
  have e:bwdS L U a v (k + 1)=min (U (a - k - 1)).2 (bwdS L U a v k + (L (a - k - 1)).2):=rfl
  obtain ⟨z,hz⟩:∃ z,z=bwdS L U a v k:=⟨_,rfl⟩
  rw [← hz] at h1 e
  unfold inn at h1
  refine ⟨?_,fun j hj=>?_⟩
  ·rw [e,show a - (k + 1)=a - k - 1 by omega]; unfold inn; omega
  ·obtain rfl:j=k:=by omega
   rw [e,← hz]; unfold inn; omega
theorem chainS_sol {N:Nat} {L U:Nat→Sp} (hT:TightC N L U) (hL:∀ i,i < N→(L i).1≤(L i).2) (hU:∀ i,i≤N→(U i).1≤(U i).2) {a:Nat} (ha:a≤N) {v:Int} (hv:inn v (U a)):SolS N L U (chainS L U a v)∧chainS L U a v a=v:=by
 refine ⟨⟨fun i hi=>?_,fun i hi=>?_⟩,?_⟩
 ·unfold chainS
  by_cases h:a≤i
  ·rw [if_pos h]
   have:=(fwdS_in hT hL hU hv (i - a) (by omega)).1
   rwa [show a + (i - a)=i by omega] at this
  ·rw [if_neg h]
   have:=(bwdS_in hT hL hU ha hv (a - i) (by omega)).1
   rwa [show a - (a - i)=i by omega] at this
 ·unfold chainS
  by_cases h:a≤i
  ·rw [if_pos h,if_pos (by omega)]
   have:=(fwdS_in hT hL hU hv (i - a + 1) (by omega)).2 (i - a) rfl
   rwa [show a + (i - a)=i by omega,show i - a + 1=i + 1 - a by omega] at this
  ·rw [if_neg h]
   have:=(bwdS_in hT hL hU ha hv (a - i) (by omega)).2 (a - i - 1) (by omega)
   rw [show a - (a - i - 1) - 1=i by omega,show a - i - 1 + 1=a - i by omega] at this
   by_cases h2:a≤i + 1
   ·rw [if_pos h2,show i + 1 - a=0 by omega]
    rw [show a - i - 1=0 by omega] at this
    exact this
   ·rw [if_neg h2]
    rwa [show a - i - 1=a - (i + 1) by omega] at this
 ·unfold chainS
  rw [if_pos (Nat.le_refl _),Nat.sub_self]; rfl
def FwdT (N:Nat) (L U:Nat→Sp):Prop:=∀ d,d < N→(U d).1 - (L d).2≤(U (d + 1)).1∧(U (d + 1)).2≤(U d).2 - (L d).1
def BackT (N:Nat) (L U:Nat→Sp) (k:Nat):Prop:=∀ d,d < N→N≤d + k→(U (d + 1)).1 + (L d).1≤(U d).1∧(U d).2≤(U (d + 1)).2 + (L d).2
theorem pass_fwd {N:Nat} {L U:Nat→Sp} (hL:∀ i,i < N→(L i).1≤(L i).2):∀ d,d≤N→(∀ e,e < d→(passS L U d e).1 - (L e).2≤(passS L U d (e + 1)).1∧(passS L U d (e + 1)).2≤(passS L U d e).2 - (L e).1)∧(∀ e,d < e→passS L U d e=U e)∧(0 < d→(passS L U d d).1 + (L (d - 1)).1≤(passS L U d (d - 1)).1∧(passS L U d (d - 1)).2≤(passS L U d d).2 + (L (d - 1)).2)
 | 0,_=>⟨fun e h=>by omega,fun e _=>rfl,fun h=>by omega⟩
 | d + 1,hd=>by
  obtain ⟨h1,h2,_⟩:=pass_fwd hL d (by omega)
  have hl:=hL d (by omega)
  have hs:∀ k,passS L U (d + 1) k=_:=fun k=>stepS_at L (passS L U d) d k
  obtain ⟨V,hV⟩:∃ V,V=passS L U d:=⟨_,rfl⟩
  rw [← hV] at h1 h2 hs
  refine ⟨fun e he=>?_,fun e he=>?_,fun _=>?_⟩
  ·have s0:=hs e
   have s1:=hs (e + 1)
   by_cases e1:e=d
   ·subst e1
    rw [if_pos rfl] at s0
    rw [if_neg (by omega),if_pos rfl] at s1
    rw [s0,s1]
    unfold bothS wholeS restS
    simp only
    omega
   ·have q:=h1 e (by omega)
    rw [if_neg e1,if_neg (by omega)] at s0
    rw [s0]
    by_cases e2:e + 1=d
    ·rw [if_pos e2] at s1
     rw [s1]
     subst e2
     unfold bothS
     simp only
     omega
    ·rw [if_neg e2,if_neg (by omega)] at s1
     rw [s1]; exact q
  ·rw [hs e,if_neg (by omega),if_neg (by omega),h2 e (by omega)]
  ·have s0:=hs d
   have s1:=hs (d + 1)
   rw [if_pos rfl] at s0
   rw [if_neg (by omega),if_pos rfl] at s1
   rw [Nat.add_sub_cancel,s0,s1]
   unfold bothS wholeS restS
   simp only
   omega
theorem pass_back {N:Nat} {L U:Nat→Sp} (hL:∀ i,i < N→(L i).1≤(L i).2) (hF:FwdT N L U):∀ d,d≤N→(∀ e,e < d→passS L U d e=bothS (U e) (wholeS (U (e + 1)) (L e)))∧(∀ e,d≤e→passS L U d e=U e)
 | 0,_=>⟨fun e h=>by omega,fun e _=>rfl⟩
 | d + 1,hd=>by
  obtain ⟨h1,h2⟩:=pass_back hL hF d (by omega)
  have hs:∀ k,passS L U (d + 1) k=_:=fun k=>stepS_at L (passS L U d) d k
  have q:=hF d (by omega)
  have u0:=h2 d (Nat.le_refl _)
  have u1:=h2 (d + 1) (by omega)
  have e0:bothS (U (d + 1)) (restS (U d) (L d))=U (d + 1):=by
   refine Prod.ext ?_ ?_
   ·show max _ _=_; unfold restS; simp only; omega
   ·show min _ _=_; unfold restS; simp only; omega
  rw [u0,u1,e0] at hs
  refine ⟨fun e he=>?_,fun e he=>?_⟩
  ·rw [hs e]
   by_cases e1:e=d
   ·subst e1; rw [if_pos rfl]
   ·rw [if_neg e1,if_neg (by omega),h1 e (by omega)]
  ·rw [hs e,if_neg (by omega)]
   by_cases e1:e=d + 1
   ·rw [if_pos e1,e1]
   ·rw [if_neg e1,h2 e (by omega)]
theorem pass_one {N:Nat} {L U:Nat→Sp} (hL:∀ i,i < N→(L i).1≤(L i).2):FwdT N L (passS L U N)∧BackT N L (passS L U N) 1:=by
 obtain ⟨h1,h2,h3⟩:=pass_fwd (U:=U) hL N (Nat.le_refl _)
 refine ⟨h1,fun d hd hk=>?_⟩
 have:=h3 (by omega)
 rw [show N - 1=d by omega,show passS L U N N=passS L U N (d + 1) by rw [show N=d + 1 by omega]] at this
 exact this
theorem pass_more {N:Nat} {L U:Nat→Sp} (hL:∀ i,i < N→(L i).1≤(L i).2) {k:Nat} (hF:FwdT N L U) (hB:BackT N L U k):FwdT N L (passS L U N)∧BackT N L (passS L U N) (k + 1):=by
 refine ⟨(pass_one hL).1,fun d hd hk=>?_⟩
 obtain ⟨h1,h2⟩:=pass_back hL hF N (Nat.le_refl _)
 have e0:=h1 d hd
 have e1:passS L U N (d + 1)=U (d + 1):=by
  by_cases e:d + 1=N
  ·exact h2 _ (by omega)
  ·rw [h1 (d + 1) (by omega)]
   have q:=hB (d + 1) (by omega) (by omega)
   refine Prod.ext ?_ ?_
   ·show max _ _=_; unfold wholeS; simp only; omega
   ·show min _ _=_; unfold wholeS; simp only; omega
 rw [e0,e1]
 unfold bothS wholeS
 simp only
 omega
theorem pass_last {N:Nat} {L U:Nat→Sp} (hL:∀ i,i < N→(L i).1≤(L i).2) (hF:FwdT N L U) (hB:BackT N L U N):∀ k,passS L U N k=U k:=by
 intro k
 obtain ⟨h1,h2⟩:=pass_back hL hF N (Nat.le_refl _)
 by_cases e:k < N
 ·rw [h1 k e]
  have q:=hB k e (by omega)
  refine Prod.ext ?_ ?_
  ·show max _ _=_; unfold wholeS; simp only; omega
  ·show min _ _=_; unfold wholeS; simp only; omega
 ·exact h2 k (by omega)
def moI (x s:Int):Int:=(1000 * (x - s) + x - 1) / x
theorem moI_le {x s q:Int} (hx:0 < x):moI x s≤q ↔ 1000 * (x - s)≤q * x:=by
 unfold moI
 constructor
 ·intro h
  have h1:=Int.lt_ediv_add_one_mul_self (1000 * (x - s) + x - 1) hx
  have h2:((1000 * (x - s) + x - 1) / x + 1) * x≤(q + 1) * x:=Int.mul_le_mul_of_nonneg_right (by omega) (by omega)
  have h3:(q + 1) * x=q * x + x:=by rw [Int.add_mul,Int.one_mul]
  omega
 ·intro h
  have h3:(q + 1) * x=q * x + x:=by rw [Int.add_mul,Int.one_mul]
  have h4:(1000 * (x - s) + x - 1) / x < q + 1:=Int.ediv_lt_of_lt_mul hx (by omega)
  omega
theorem moI_nonneg {x s:Int} (hx:0 < x) (h:s≤x):0≤moI x s:=Int.ediv_nonneg (by omega) (by omega)
theorem moI_mono {x y s:Int} (hx:0 < x) (h:x≤y) (hs:0≤s):moI x s≤moI y s:=by
 rw [moI_le hx]
 have hy:0 < y:=by omega
 have h1:=(moI_le hy).1 (Int.le_refl (moI y s))
 obtain ⟨q,hq⟩:∃ q,q=moI y s:=⟨_,rfl⟩
 rw [← hq] at h1 ⊢
 have h2:1000 * (y - s) * x≤q * y * x:=Int.mul_le_mul_of_nonneg_right h1 (by omega)
 have h3:s * x≤s * y:=Int.mul_le_mul_of_nonneg_left h hs
 have e1:1000 * (x - s) * y=1000 * (y - s) * x + 1000 * (s * x - s * y):=by
  rw [Int.mul_assoc,Int.mul_assoc,Int.sub_mul,Int.sub_mul,Int.mul_comm x y]; omega
 have e2:q * y * x=q * x * y:=by rw [Int.mul_assoc,Int.mul_comm y x,← Int.mul_assoc]
 refine Int.le_of_mul_le_mul_right (a:=y) ?_ hy
 omega
theorem moI_anti {x s r:Int} (hx:0 < x) (h:s≤r):moI x r≤moI x s:=Int.ediv_le_ediv hx (by omega)
theorem moI_shift {x s c:Int} (hx:0 < x) (h:s≤x) (hc:0≤c):moI (x + c) (s + c)≤moI x s:=by
 rw [moI_le (by omega)]
 have h1:=(moI_le hx).1 (Int.le_refl (moI x s))
 have h0:=moI_nonneg hx h
 obtain ⟨q,hq⟩:∃ q,q=moI x s:=⟨_,rfl⟩
 rw [← hq] at h1 h0 ⊢
 have h2:q * (x + c)=q * x + q * c:=Int.mul_add _ _ _
 have h3:0≤q * c:=Int.mul_nonneg h0 hc
 omega
def dryS (N:Nat) (U:Nat→Sp):Nat→Sp:=updS U N ((U N).2,(U N).2)
theorem sol_min {N:Nat} {L U:Nat→Sp} {x y:Nat→Int} (hx:SolS N L U x) (hy:SolS N L U y) (hyN:y N=(U N).2):SolS N L (dryS N U) (fun i=>min (y i) (x i + ((U N).2 - x N))):=by
 have hN:=(hx.1 N (Nat.le_refl _))
 unfold inn at hN
 refine ⟨fun i hi=>?_,fun i hi=>?_⟩
 ·unfold dryS updS
  by_cases e:i=N
  ·subst e
   rw [if_pos rfl]
   unfold inn
   simp only
   omega
  ·rw [if_neg e]
   have h1:=hx.1 i hi
   have h2:=hy.1 i hi
   unfold inn at h1 h2 ⊢
   simp only
   omega
 ·have h1:=hx.2 i hi
  have h2:=hy.2 i hi
  unfold inn at h1 h2 ⊢
  simp only
  omega
structure ExactS (N:Nat) (L U0 U:Nat→Sp):Prop where
 tight:TightC N L U
 ne:∀ i,i≤N→(U i).1≤(U i).2
 sol:∀ x,SolS N L U x ↔ SolS N L U0 x
theorem ExactS.low {N:Nat} {L U0 U:Nat→Sp} (h:ExactS N L U0 U) (hL:∀ i,i < N→(L i).1≤(L i).2) {a:Nat} (ha:a≤N) {v:Int} (hv:inn v (U a)):SolS N L U0 (chainS L U a v)∧chainS L U a v a=v:=by
 obtain ⟨h1,h2⟩:=chainS_sol h.tight hL h.ne ha hv
 exact ⟨(h.sol _).1 h1,h2⟩
theorem ExactS.mono {N:Nat} {L L' U0 U V0 V:Nat→Sp} (h:ExactS N L U0 U) (k:ExactS N L' V0 V) (hL':∀ i,i < N→(L' i).1≤(L' i).2) (hs:∀ x,SolS N L' V0 x→SolS N L U0 x):∀ i,i≤N→subS (V i) (U i):=by
 intro i hi
 have hne:=k.ne i hi
 obtain ⟨a1,a2⟩:=k.low hL' hi (v:=(V i).1) ⟨Int.le_refl _,hne⟩
 obtain ⟨b1,b2⟩:=k.low hL' hi (v:=(V i).2) ⟨hne,Int.le_refl _⟩
 have c1:=((h.sol _).2 (hs _ a1)).1 i hi
 have c2:=((h.sol _).2 (hs _ b1)).1 i hi
 rw [a2] at c1
 rw [b2] at c2
 exact ⟨c1.1,c2.2⟩
theorem ExactS.uniq {N:Nat} {L U0 U V:Nat→Sp} (h:ExactS N L U0 U) (k:ExactS N L U0 V) (hL:∀ i,i < N→(L i).1≤(L i).2):∀ i,i≤N→V i=U i:=fun i hi =>
 (h.mono k hL (fun _ h=>h) i hi).eq (k.mono h hL (fun _ h=>h) i hi)
theorem moist_low {N:Nat} {L U0 U D:Nat→Sp} (h:ExactS N L U0 U) (hd:ExactS N L (dryS N U) D) (hL:∀ i,i < N→(L i).1≤(L i).2) {x:Nat→Int} (hx:SolS N L U0 x) {a:Nat} (ha:a≤N) (hpos:0 < (D a).1) (hxa:0 < x a) (hge:x N≤x a) (hDs:0≤(U N).2):moI (D a).1 (U N).2≤moI (x a) (x N):=by
 have hxU:=(h.sol x).2 hx
 have hN:=h.ne N (Nat.le_refl _)
 obtain ⟨y1,y2⟩:=chainS_sol h.tight hL h.ne (Nat.le_refl N) (v:=(U N).2) ⟨hN,Int.le_refl _⟩
 have hm:=(hd.sol _).2 (sol_min hxU y1 y2)
 have h1:=hm.1 a ha
 have h2:=hxU.1 N (Nat.le_refl _)
 unfold inn at h1 h2
 simp only at h1
 have h3:moI (D a).1 (U N).2≤moI (x a + ((U N).2 - x N)) (U N).2:=moI_mono hpos (by omega) hDs
 have h4:moI (x a + ((U N).2 - x N)) (x N + ((U N).2 - x N))≤moI (x a) (x N):=moI_shift hxa hge (by omega)
 rw [show x N + ((U N).2 - x N)=(U N).2 by omega] at h4
 omega
end Go.Proofs.YtabiiddijccmdaaDoor.walk
namespace Go.Sh
open Go
variable {P:Program}
structure PSpec where
 R:List Value→AW→Value→Prop
 uniq:∀ {args w v v'},R args w v→R args w v'→v=v'
 shut:∀ {args w v},R args w v→R args (shutA w) v
open Classical in
noncomputable def PSpec.F (S:PSpec):PureF:=fun args w=>if h:∃ v,S.R args w v then some h.choose else none
theorem PSpec.F_eq (S:PSpec) {args:List Value} {w:AW} {v:Value} (h:S.R args w v):S.F args w=some v:=by
 have hx:∃ v,S.R args w v:=⟨v,h⟩
 unfold PSpec.F
 rw [dif_pos hx]
 exact congrArg some (S.uniq hx.choose_spec h)
theorem PSpec.of_F (S:PSpec) {args:List Value} {w:AW} {v:Value} (h:S.F args w=some v):S.R args w v:=by
 unfold PSpec.F at h
 by_cases hx:∃ v,S.R args w v
 ·rw [dif_pos hx] at h
  cases h
  exact hx.choose_spec
 ·rw [dif_neg hx] at h; cases h
theorem PSpec.call (S:PSpec) {ov:Ov} {f:FuncId} (k:HasP ov f S.F) {m:Nat} {args:List Value} {w:AW} {v:Value} (h:S.R args w v):(run P ov (m + 1)).call f args w .none=.ok (.ret v) w .none:=k.call (S.F_eq h)
theorem PSpec.call1 (S:PSpec) {ov:Ov} {f:FuncId} (k:HasP ov f S.F) {args:List Value} {w:AW} {v:Value} (h:S.R args w v):(run P ov 1).call f args w .none=.ok (.ret v) w .none:=k.call (m:=0) (S.F_eq h)
theorem PSpec.ok (S:PSpec) (hP:NoCount P) (hm:P.follows .mixedOrders=true) {rest:Ov} (hO:OvOk P rest) {f:FuncId}
  (fact:∀ args w v,w.lim=w.next→S.R args w v→groundC 3 v=true∧∃ m v' w' x',(run P rest m).call f args w .none=.ok (.ret v') w' x'∧v'=v):OvOk P (ovP f S.F rest) :=
 pure_ok hP hm hO (fun args w v h=>S.F_eq (S.shut (S.of_F h))) fun args w v hl h=>by
  obtain ⟨h1,m,v',w',x',h2,rfl⟩:=fact args w v hl (S.of_F h)
  exact ⟨h1,m,w',x',h2⟩
structure Up (we w:AW):Prop where
 old:Old we.next we.heap w.heap
 next:we.next≤w.next
 lim:w.lim=we.lim
theorem Up.refl (w:AW):Up w w:=⟨Old.refl _ _,Nat.le_refl _,rfl⟩
theorem Up.trans {a b c:AW} (h:Up a b) (k:Up b c):Up a c:=⟨h.old.trans k.old h.next,Nat.le_trans h.next k.next,k.lim.trans h.lim⟩
theorem Up.put {we:AW} {H:T AObj} {n n' l k:Nat} {o:Option AObj} (h:Up we ⟨H,n,l⟩) (hk:we.next≤k) (hn:n≤n'):Up we ⟨H.put k o,n',l⟩:=⟨h.old.put hk,Nat.le_trans h.next hn,h.lim⟩
theorem Up.add {we w:AW} (h:Up we w) (o:Option AObj):Up we ⟨w.heap.put w.next o,w.next + 1,w.lim⟩:=⟨h.old.put h.next,Nat.le_trans h.next (Nat.le_succ _),h.lim⟩
theorem Up.at {we w:AW} (h:Up we w) {b:Nat} (hb:b < we.next):w.heap.get b=we.heap.get b:=h.old b hb
theorem RowsV.up {α:Type} {f:α→List Value} {we w:AW} {v:Value} {l:List α} (h:RowsV f we v l) (k:Up we w):RowsV f w v l:=h.old k.old k.next
def shV (a b:Int):Int:=a.fdiv (2 ^ (min b.toNat IntKind.i64.bits))
def anV (a b:Int):Int:=wrapA .i64 (BitVec.ofInt IntKind.i64.bits a &&& BitVec.ofInt IntKind.i64.bits b).toNat
def bitB (x k:Int):Bool:=decide (anV (shV x k) 1=1)
variable {w:AW}
theorem bin_shr (s:TypeId) (c:Bool) (a b:Int) (h:0≤b):(binW P .shr s c).val (.int .i64 a) (.int .i64 b) w=.val (.int .i64 (shV a b)) w:=by
 show vR w (shiftV shrA (.int .i64 a) (.int .i64 b))=_
 have:¬ b < 0:=by omega
 simp [shiftV,shrA,vR,intLt_eq,this,shV]
@[simp] theorem bin_and (s:TypeId) (c:Bool) (a b:Int):(binW P .and s c).val (.int .i64 a) (.int .i64 b) w=.val (.int .i64 (anV a b)) w:=by
 show vR w (arithA andA (.int .i64 a) (.int .i64 b))=_
 simp [arithA,andA,sameK_refl,vR,anV]
theorem bin_shl1 (s:TypeId) (c:Bool) (n:Nat) (h:n≤5):(binW P .shl s c).val (.int .i64 1) (.int .i64 (n:Int)) w=.val (.int .i64 (2 ^ n)) w:=by
 show vR w (shiftV shlA (.int .i64 1) (.int .i64 (n:Int)))=_
 have:¬ (n:Int) < 0:=by omega
 have e:wrapA .i64 (1 * 2 ^ (min (n:Int).toNat IntKind.i64.bits))=2 ^ n:=by
  rcases n with _ | _ | _ | _ | _ | _ | n
  ·decide
  ·decide
  ·decide
  ·decide
  ·decide
  ·decide
  ·omega
 simp only [shiftV,shlA,intLt_eq,decide_eq_false this,cond_false,vR]
 rw [e]
end Go.Sh
namespace Go.Proofs.YtabiiddijccmdaaDoor.walk
open Go Go.Sh
set_option maxRecDepth 100000
structure CAct where
 warm:Int
 behind:Int
 dry:Bool
 first:Bool
 most:Int
 ll:Int
 lh:Int
structure CDay where
 wl:Int
 wh:Int
 rain:Bool
structure CBox where
 wl:Int
 wh:Int
 sl:Int
 sh:Int
structure Stg where
 done:Int
 last:Int
 row:Int
 lo:Int
 hi:Int
def actC (a:CAct):List Value:=[.int .i64 a.warm,.int .i64 a.behind,.bool a.dry,.bool a.first,.int .i64 a.most,.int .i64 a.ll,.int .i64 a.lh]
def cdayC (d:CDay):List Value:=[.int .i64 d.wl,.int .i64 d.wh,.bool d.rain]
def boxC (b:CBox):List Value:=[.int .i64 b.wl,.int .i64 b.wh,.int .i64 b.sl,.int .i64 b.sh]
def stgC (s:Stg):List Value:=[.int .i64 s.done,.int .i64 s.last,.int .i64 s.row,.int .i64 s.lo,.int .i64 s.hi]
@[simp] theorem actC_length (a:CAct):(actC a).length=7:=rfl
@[simp] theorem cdayC_length (a:CDay):(cdayC a).length=3:=rfl
@[simp] theorem stgC_length (a:Stg):(stgC a).length=5:=rfl
theorem actC_inj (a b:CAct) (h:actC a=actC b):a=b:=by
 cases a; cases b; simpa [actC] using h
theorem cdayC_inj (a b:CDay) (h:cdayC a=cdayC b):a=b:=by
 cases a; cases b; simpa [cdayC] using h
def actB (n:Nat) (a:CAct):Bool:=inI 0 a.warm 60 && (inI 1 a.most 14 && (spanI a.ll a.lh 0 10000 && inI 0 a.behind (2 ^ n - 1)))
def ruleB (r:List CAct):Bool:=inI 1 (r.length:Nat) 5 && r.all (actB r.length)
def cdayB (d:CDay):Bool:=spanI d.wl d.wh 0 60
def daysB (l:List CDay):Bool:=inI 1 (l.length:Nat) 14 && l.all cdayB
def boxB (b:CBox):Bool:=spanI b.wl b.wh 1 1000000 && spanI b.sl b.sh 1 1000000
def chkC (r:List CAct) (d:List CDay):Int:=if ruleB r=true then (if daysB d=true then 0 else 61) else 60
def bxE (r:List CAct) (d:List CDay) (b:CBox):Int:=if chkC r d=0 then (if boxB b=true then 0 else 62) else chkC r d
def fitB (x:CAct) (num:Int) (y:CDay) (s:Stg):Bool:=decide (x.warm≤y.wl) && (!(x.dry && y.rain) && ((if s.last = -1 then x.first else decide (s.last=num) || bitB x.behind s.last) && (decide (s.last ≠ num) || decide (s.row < x.most))))
def withS (s:Stg) (x:CAct) (num:Int):Stg:=⟨s.done + 1,num,(if num=s.last then 1 + s.row else 1),s.lo + x.ll,s.hi + x.lh⟩
def startS:Stg:=⟨0, -1,0,0,0⟩
def nextS (r:List CAct) (d:List CDay) (s:Stg) (a:Int):Option Stg :=
 match d[s.done.toNat]?,(if 0≤a then r[a.toNat]? else none) with
 | some y,some x=>if fitB x a y s=true then some (withS s x a) else none
 | _,_=>none
def stgF (r:List CAct) (d:List CDay):Stg→List Int→Option Stg
 | s,[]=>some s
 | s,a::az=>match nextS r d s a with | some s'=>stgF r d s' az | none=>none
theorem stgF_snoc {r:List CAct} {d:List CDay} {a:Int}:∀ (az:List Int) (s:Stg),stgF r d s (az++[a])=match stgF r d s az with | some s'=>nextS r d s' a | none=>none
 | [],s=>by
  show (match nextS r d s a with | some s'=>stgF r d s' [] | none=>none)=nextS r d s a
  cases nextS r d s a <;> rfl
 | b::az,s=>by
  show (match nextS r d s b with | some s'=>stgF r d s' (az++[a]) | none=>none)=match (match nextS r d s b with | some s'=>stgF r d s' az | none=>none) with | some s'=>nextS r d s' a | none=>none
  cases nextS r d s b with
  | none=>rfl
  | some s'=>exact stgF_snoc az s'
theorem stgF_none {r:List CAct} {d:List CDay} {az bs:List Int} {s:Stg} (h:stgF r d s az=none):stgF r d s (az++bs)=none:=by
 induction az generalizing s with
 | nil=>cases h
 | cons a az ih =>
  have h':(match nextS r d s a with | some s'=>stgF r d s' az | none=>none)=none:=h
  show (match nextS r d s a with | some s'=>stgF r d s' (az++bs) | none=>none)=none
  cases hn:nextS r d s a with
  | none=>rfl
  | some s'=>rw [hn] at h'; exact ih h'
def runL (a:Int):List Int→Nat
 | []=>0
 | b::l=>if b=a then runL a l + 1 else 0
def folB (r:List CAct) (d:List CDay) (so:List Int) (a:Int):Bool :=
 match d[so.length]?,(if 0≤a then r[a.toNat]? else none) with
 | some y,some x=>!(decide (y.wl < x.warm) || (x.dry && y.rain)) && (match so.getLast? with
  | none=>x.first
  | some z=>decide ((runL a so.reverse:Int) < x.most) && (decide (z=a) || bitB x.behind z))
 | _,_=>false
def canL (r:List CAct) (d:List CDay):Nat→List Int→Bool
 | 0,_=>true
 | n + 1,acts=>canL r d n acts && folB r d (acts.take n) (acts.getD n 0)
structure StOk (r:List CAct) (so:List Int) (s:Stg):Prop where
 done:s.done=(so.length:Nat)
 last:(so=[]∧s.last = -1)∨(∃ z,so.getLast?=some z∧s.last=z∧0≤z∧z.toNat < r.length)
 row:s.row=(runL s.last so.reverse:Nat)
 lo:0≤s.lo∧s.lo≤10000 * (so.length:Nat)
 hi:0≤s.hi∧s.hi≤10000 * (so.length:Nat)
theorem act_of {r:List CAct} (h:ruleB r=true) {i:Nat} {x:CAct} (hx:r[i]?=some x):inI 0 x.warm 60=true∧inI 1 x.most 14=true∧spanI x.ll x.lh 0 10000=true∧inI 0 x.behind (2 ^ r.length - 1)=true:=by
 simp only [ruleB,Bool.and_eq_true] at h
 have:=List.all_eq_true.1 h.2 x (List.mem_of_getElem? hx)
 simpa only [actB,Bool.and_eq_true] using this
theorem runL_le (a:Int):∀ l:List Int,runL a l≤l.length
 | []=>Nat.le_refl _
 | b::l=>by
  unfold runL
  split
  ·have:=runL_le a l; simp; omega
  ·simp
theorem next_fol {r:List CAct} {d:List CDay} {so:List Int} {s:Stg} (hR:ruleB r=true) (h:StOk r so s) (a:Int):(nextS r d s a=none∧folB r d so a=false)∨∃ s',nextS r d s a=some s'∧folB r d so a=true∧StOk r (so++[a]) s':=by
 unfold nextS folB
 have e0:s.done.toNat=so.length:=by rw [h.done]; simp
 rw [e0]
 cases hd:d[so.length]? with
 | none=>exact .inl ⟨rfl,rfl⟩
 | some y =>
  cases hx:(if 0≤a then r[a.toNat]? else none) with
  | none=>exact .inl ⟨rfl,rfl⟩
  | some x =>
   by_cases ha:0≤a
   ·rw [if_pos ha] at hx
    obtain ⟨k1,k2,k3,k4⟩:=act_of hR hx
    simp only [inI,spanI,Bool.and_eq_true,decide_eq_true_eq] at k1 k2 k3 k4
    have hal:a.toNat < r.length:=(List.getElem?_eq_some_iff.1 hx).1
    simp only
    have key:(fitB x a y s=true) ↔ ((!(decide (y.wl < x.warm) || (x.dry && y.rain)) && (match so.getLast? with
      | none=>x.first
      | some z=>decide ((runL a so.reverse:Int) < x.most) && (decide (z=a) || bitB x.behind z)))=true):=by
     rcases h.last with ⟨e1,e2⟩ | ⟨z,e1,e2,e3,e4⟩
     ·have hl:¬ s.last=a:=by omega
      have hr:s.row=0:=by rw [h.row,e1]; rfl
      rw [e1]
      simp only [fitB,e2,if_pos,Bool.and_eq_true,decide_eq_true_eq,Bool.or_eq_true,Bool.not_eq_true',Bool.or_eq_false_iff,decide_eq_false_iff_not,List.getLast?_nil]
      constructor
      ·rintro ⟨h1,h2,h3,h4⟩; exact ⟨⟨by omega,h2⟩,h3⟩
      ·rintro ⟨⟨h1,h2⟩,h3⟩; exact ⟨by omega,h2,h3,.inl (by omega)⟩
     ·rw [e1]
      have hl:¬ s.last = -1:=by omega
      simp only [fitB,if_neg hl,Bool.and_eq_true,decide_eq_true_eq,Bool.or_eq_true,Bool.not_eq_true',Bool.or_eq_false_iff,decide_eq_false_iff_not]
      have hrow:s.last=a→s.row=(runL a so.reverse:Nat):=fun e=>by rw [h.row,e]
      have hrow2:¬ s.last=a→runL a so.reverse=0:=fun e=>by
       rw [List.getLast?_eq_head?_reverse] at e1
       cases hq:so.reverse with
       | nil=>rfl
       | cons q l =>
        rw [hq] at e1
        have:q=z:=by simpa using e1
        show (if q=a then runL a l + 1 else 0)=0
        rw [if_neg (by omega)]
      rw [e2] at hrow hrow2 ⊢
      by_cases hz:z=a
      ·have:=hrow hz
       constructor
       ·rintro ⟨h1,h2,h3,h4⟩
        refine ⟨⟨by omega,h2⟩,?_,.inl hz⟩
        rcases h4 with h4 | h4
        ·exact absurd hz h4
        ·omega
       ·rintro ⟨⟨h1,h2⟩,h3,h4⟩
        exact ⟨by omega,h2,.inl hz,.inr (by omega)⟩
      ·have:=hrow2 hz
       constructor
       ·rintro ⟨h1,h2,h3,h4⟩
        exact ⟨⟨by omega,h2⟩,by omega,h3⟩
       ·rintro ⟨⟨h1,h2⟩,h3,h4⟩
        exact ⟨by omega,h2,h4,.inl hz⟩
    by_cases hf:fitB x a y s=true
    ·rw [if_pos hf]
     refine .inr ⟨_,rfl,key.1 hf,?_⟩
     have h1:=h.done; have h2:=h.lo; have h3:=h.hi; have h4:=h.row
     refine ⟨by simp [withS]; omega,.inr ⟨a,by simp,rfl,ha,hal⟩,?_,?_,?_⟩
     ·simp only [withS,List.reverse_append,List.reverse_cons,List.reverse_nil,List.nil_append,List.singleton_append]
      show _=(((if a=a then runL a so.reverse + 1 else 0:Nat)):Int)
      rw [if_pos rfl]
      by_cases e:a=s.last
      ·rw [if_pos e,h4,e]; omega
      ·rw [if_neg e]
       have:runL a so.reverse=0:=by
        rcases h.last with ⟨e1,_⟩ | ⟨z,e1,e2,_,_⟩
        ·rw [e1]; rfl
        ·rw [List.getLast?_eq_head?_reverse] at e1
         cases hq:so.reverse with
         | nil=>rfl
         | cons q l =>
          rw [hq] at e1
          have:q=z:=by simpa using e1
          show (if q=a then runL a l + 1 else 0)=0
          rw [if_neg (by omega)]
       omega
     ·simp only [withS,List.length_append,List.length_singleton]; omega
     ·simp only [withS,List.length_append,List.length_singleton]; omega
    ·rw [if_neg hf]
     refine .inl ⟨rfl,?_⟩
     cases hb:(!(decide (y.wl < x.warm) || (x.dry && y.rain)) && (match so.getLast? with
      | none=>x.first
      | some z=>decide ((runL a so.reverse:Int) < x.most) && (decide (z=a) || bitB x.behind z))) with
     | false=>rfl
     | true=>exact absurd (key.2 hb) hf
   ·rw [if_neg ha] at hx; cases hx
theorem start_ok (r:List CAct):StOk r [] startS:=⟨rfl,.inl ⟨rfl,rfl⟩,rfl,by simp [startS],by simp [startS]⟩
theorem take_snoc {α:Type} {l:List α} {n:Nat} {a:α} (h:l[n]?=some a):l.take (n + 1)=l.take n++[a]:=by
 rw [List.take_add_one,h]; rfl
theorem stg_can {r:List CAct} {d:List CDay} (hR:ruleB r=true) (acts:List Int):∀ n,n≤acts.length→(stgF r d startS (acts.take n)=none∧canL r d n acts=false)∨∃ s,stgF r d startS (acts.take n)=some s∧canL r d n acts=true∧StOk r (acts.take n) s
 | 0,_=>.inr ⟨startS,by simp [stgF],rfl,by simpa using start_ok r⟩
 | n + 1,hn=>by
  have ha:acts[n]?=some acts[n]:=List.getElem?_eq_getElem (by omega)
  have hg:acts.getD n 0=acts[n]:=by rw [List.getD_eq_getElem?_getD,ha]; rfl
  rw [take_snoc ha,stgF_snoc]
  show (_∧(canL r d n acts && folB r d (acts.take n) (acts.getD n 0))=false)∨_
  rcases stg_can hR acts n (by omega) with ⟨h1,h2⟩ | ⟨s,h1,h2,h3⟩
  ·exact .inl ⟨by rw [h1],by rw [h2]; rfl⟩
  ·rw [h1]
   simp only
   rw [hg]
   rcases next_fol (d:=d) hR h3 acts[n] with ⟨k1,k2⟩ | ⟨s',k1,k2,k3⟩
   ·exact .inl ⟨k1,by rw [k2,Bool.and_false]⟩
   ·refine .inr ⟨s',k1,?_,k3⟩
    show (canL r d n acts && folB r d (acts.take n) (acts.getD n 0))=true
    rw [h2,hg,k2]; rfl
def wtsL (w:Int):List Int→List Int
 | []=>[w]
 | x::l=>w::wtsL (w - x) l
theorem wtsL_length (l:List Int):∀ w,(wtsL w l).length=l.length + 1:=by
 induction l with
 | nil=>intro w; rfl
 | cons x l ih=>intro w; show (wtsL (w - x) l).length + 1=_; rw [ih]; rfl
theorem wtsL_snoc (x:Int):∀ (l:List Int) (w:Int),wtsL w (l++[x])=wtsL w l++[w - l.sum - x]
 | [],w=>by simp [wtsL]
 | y::l,w=>by
  show w::wtsL (w - y) (l++[x])=w::wtsL (w - y) l++[w - (y + l.sum) - x]
  rw [wtsL_snoc x l]
  rw [show w - y - l.sum - x=w - (y + l.sum) - x by omega]; rfl
theorem wtsL_at:∀ (l:List Int) (w:Int) (i:Nat),i≤l.length→(wtsL w l)[i]?=some (w - (l.take i).sum)
 | [],w,i,h=>by
  have:i=0:=by simpa using h
  subst this; simp [wtsL]
 | y::l,w,0,_=>by simp [wtsL]
 | y::l,w,i + 1,h=>by
  show (wtsL (w - y) l)[i]?=_
  rw [wtsL_at l (w - y) i (by simpa using h)]
  simp only [List.take_succ_cons,List.sum_cons]
  rw [show w - y - (l.take i).sum=w - (y + (l.take i).sum) by omega]
def lossL (r:List CAct) (acts:List Int):List Sp:=acts.map fun a=>match r[a.toNat]? with | some x=>(x.ll,x.lh) | none=>(0,0)
def allIn:List Int→List Sp→Bool
 | [],_=>true
 | _::_,[]=>true
 | x::l,s::m=>inI s.1 x s.2 && allIn l m
theorem allIn_take {l:List Int} {m:List Sp} {i:Nat} {x:Int} {s:Sp} (h1:l[i]?=some x) (h2:m[i]?=some s):allIn (l.take (i + 1)) m=(allIn (l.take i) m && inI s.1 x s.2):=by
 induction l generalizing m i with
 | nil=>cases h1
 | cons y l ih =>
  cases m with
  | nil=>cases h2
  | cons q m =>
   cases i with
   | zero =>
    simp only [List.getElem?_cons_zero,Option.some.injEq] at h1 h2
    subst h1; subst h2
    simp [allIn]
   | succ i =>
    simp only [List.getElem?_cons_succ] at h1 h2
    show (inI q.1 y q.2 && allIn (l.take (i + 1)) m)=((inI q.1 y q.2 && allIn (l.take i) m) && inI s.1 x s.2)
    rw [ih h1 h2,Bool.and_assoc]
theorem allIn_pre {l:List Int} {m:List Sp} {i:Nat} (h:allIn (l.take i) m=false):allIn l m=false:=by
 induction l generalizing m i with
 | nil=>simpa using h
 | cons y l ih =>
  cases i with
  | zero=>simp [allIn] at h
  | succ i =>
   cases m with
   | nil=>simp [allIn] at h
   | cons q m =>
    have h':(inI q.1 y q.2 && allIn (l.take i) m)=false:=h
    show (inI q.1 y q.2 && allIn l m)=false
    cases hq:inI q.1 y q.2 with
    | false=>rfl
    | true=>rw [hq] at h'; rw [ih h']; rfl
def truB (b:CBox) (L:List Sp) (w s:Int) (ls:List Int):Bool:=inI b.wl w b.wh && (inI b.sl s b.sh && (decide (ls.length=L.length) && (allIn ls L && decide (s≤w - ls.sum))))
theorem stg_acts {r:List CAct} {d:List CDay}:∀ (acts:List Int) (s s':Stg),stgF r d s acts=some s'→∀ a ∈ acts,0≤a∧∃ x,r[a.toNat]?=some x
 | [],_,_,_,a,h=>absurd h (by simp)
 | b::acts,s,s',hs,a,h=>by
  have h':(match nextS r d s b with | some s'=>stgF r d s' acts | none=>none)=some s':=hs
  cases hn:nextS r d s b with
  | none=>rw [hn] at h'; cases h'
  | some s1 =>
   rw [hn] at h'
   rcases List.mem_cons.1 h with rfl | h
   ·unfold nextS at hn
    split at hn
    ·rename_i y x _ hx
     by_cases ha:0≤a
     ·rw [if_pos ha] at hx; exact ⟨ha,x,hx⟩
     ·rw [if_neg ha] at hx; cases hx
    ·cases hn
   ·exact stg_acts acts s1 s' h' a h
theorem stg_len {r:List CAct} {d:List CDay} (hR:ruleB r=true) {acts:List Int} {s:Stg} (h:stgF r d startS acts=some s):acts.length≤d.length:=by
 rcases Nat.lt_or_ge d.length acts.length with hlt | hge
 ·exfalso
  have hp:=stg_can (d:=d) hR acts (d.length + 1) (by omega)
  rcases hp with ⟨h1,_⟩ | ⟨s',h1,_,_⟩
  ·have:=stgF_none (bs:=acts.drop (d.length + 1)) h1
   rw [List.take_append_drop,h] at this; cases this
  ·have ha:acts[d.length]?=some acts[d.length]:=List.getElem?_eq_getElem hlt
   rw [take_snoc ha,stgF_snoc] at h1
   rcases stg_can (d:=d) hR acts d.length (by omega) with ⟨k1,_⟩ | ⟨s1,k1,_,k3⟩
   ·rw [k1] at h1; cases h1
   ·rw [k1] at h1
    have h2:nextS r d s1 acts[d.length]=some s':=h1
    unfold nextS at h2
    have e:d[s1.done.toNat]?=none:=by
     rw [k3.done]
     simp only [Int.toNat_natCast,List.length_take,List.getElem?_eq_none_iff]
     omega
    rw [e] at h2
    cases h2
 ·exact hge
def actE (r:List CAct) (d:List CDay) (b:CBox) (acts:List Int):Int:=if bxE r d b=0 then (match stgF r d startS acts with | some _=>0 | none=>63) else bxE r d b
theorem chk_of {r:List CAct} {d:List CDay} (h:chkC r d=0):ruleB r=true∧daysB d=true:=by
 unfold chkC at h
 by_cases h1:ruleB r=true
 ·rw [if_pos h1] at h
  by_cases h2:daysB d=true
  ·exact ⟨h1,h2⟩
  ·rw [if_neg h2] at h; cases h
 ·rw [if_neg h1] at h; cases h
theorem bx_of {r:List CAct} {d:List CDay} {b:CBox} (h:bxE r d b=0):ruleB r=true∧daysB d=true∧boxB b=true:=by
 unfold bxE at h
 by_cases h1:chkC r d=0
 ·rw [if_pos h1] at h
  by_cases h2:boxB b=true
  ·exact ⟨(chk_of h1).1,(chk_of h1).2,h2⟩
  ·rw [if_neg h2] at h; cases h
 ·rw [if_neg h1] at h; exact absurd h h1
theorem act_ofE {r:List CAct} {d:List CDay} {b:CBox} {acts:List Int} (h:actE r d b acts=0):ruleB r=true∧daysB d=true∧boxB b=true∧∃ s,stgF r d startS acts=some s:=by
 unfold actE at h
 by_cases h1:bxE r d b=0
 ·rw [if_pos h1] at h
  obtain ⟨k1,k2,k3⟩:=bx_of h1
  cases hs:stgF r d startS acts with
  | none=>rw [hs] at h; cases h
  | some s=>exact ⟨k1,k2,k3,s,rfl⟩
 ·rw [if_neg h1] at h; exact absurd h h1
theorem rule_len {r:List CAct} (h:ruleB r=true):1≤r.length∧r.length≤5:=by
 simp only [ruleB,inI,Bool.and_eq_true,decide_eq_true_eq] at h; omega
theorem days_len {d:List CDay} (h:daysB d=true):1≤d.length∧d.length≤14:=by
 simp only [daysB,inI,Bool.and_eq_true,decide_eq_true_eq] at h; omega
end Go.Proofs.YtabiiddijccmdaaDoor.walk
