/- Part of a proof: see the text with the theorem. -/
import Derived.Test.YtijlaopbnigkaaaGreatDoorTc
import Derived.Test.YtijlaopbnigkaaaGreatDoorShF
import Derived.Test.YtijlaopbnigkaaaGreatDoorTa
import Derived.Test.YtijlaopbnigkaaaGreatDoorTb
set_option linter.all false
namespace Go.Proofs.YtijlaopbnigkaaaGreatDoor.walk
open Go Go.Sh
set_option maxRecDepth 100000
theorem isList86:isList Tryz.prog 86=true:=by kernel_rfl
theorem elem86:elemA Tryz.prog 86=some 47:=by kernel_rfl
theorem sz47:szOf Tryz.prog 47=some 4:=by kernel_rfl
theorem small47:smallT Tryz.prog 47=true:=by kernel_rfl
@[simp] theorem bs103y (w:AW) (y:Yl):buildSliceA Tryz.prog w 86 1 [(0,.agg ⟨ylC y⟩)]=.val (.slice (some ⟨w.next,0,some 2⟩) 1 1) ⟨w.heap.put w.next (some (.cells (ylC y) 47 false)),w.next + 1,w.lim⟩:=bd86_0_n1 w _ _ _ _
@[simp] theorem ix113_0 (w:AW) (a b:Int):indexA Tryz.prog w 113 (.agg ⟨[.int .i64 a,.int .i64 b]⟩) (.int .i64 0)=.val (.int .i64 a) w:=by kernel_rfl
@[simp] theorem ix113_1 (w:AW) (a b:Int):indexA Tryz.prog w 113 (.agg ⟨[.int .i64 a,.int .i64 b]⟩) (.int .i64 1)=.val (.int .i64 b) w:=by kernel_rfl
def AccV (n0:Nat) (w:AW) (v:Value) (acc:List Yl):Prop:=(acc=[]∧v=.slice none 0 0)∨∃ B,v=.slice (some ⟨B,0,none⟩) acc.length acc.length∧w.heap.get B=some (.cells (acc.flatMap ylC) 47 false)∧n0 < B∧B < w.next
theorem acc_push {n0:Nat} {w:AW} {v:Value} {acc:List Yl} (h:AccV n0 w v acc) (hl:w.lim≤n0) (hn:n0 < w.next) (hlen:acc.length≤90000) (y:Yl) :
  ∃ v' w',append1 Tryz.prog ⟨w.heap.put w.next (some (.cells (ylC y) 47 false)),w.next + 1,w.lim⟩ [86,86] [v,.slice (some ⟨w.next,0,some 2⟩) 1 1]=.val v' w'∧AccV n0 w' v' (acc++[y])∧(∀ x,x≤n0→w'.heap.get x=w.heap.get x)∧w.next≤w'.next∧w'.lim=w.lim:=by
 have hsrc:srcCells ⟨w.heap.put w.next (some (.cells (ylC y) 47 false)),w.next + 1,w.lim⟩ 4 (.slice (some ⟨w.next,0,some 2⟩) 1 1)=some (ylC y):=src_row (e':=47) (ro:=false) (k:=1) (by simp) (by simp) (by decide) (by decide)
 rcases h with ⟨rfl,rfl⟩ | ⟨B,rfl,hB,h1,h2⟩
 ·refine ⟨_,_,append_nil isList86 elem86 sz47 small47 (m:=1) rfl hsrc (by simp) (by decide) (by decide),.inr ⟨_,rfl,?_,?_,?_⟩,fun x hx=>?_,?_,rfl⟩
  ·simp
  ·show n0 < w.next + 1; omega
  ·exact Nat.lt_succ_self _
  ·show ((w.heap.put w.next _).put (w.next + 1) _).get x=_
   rw [get_put,if_neg (by omega),get_put,if_neg (by omega)]
  ·show w.next≤w.next + 1 + 1; omega
 ·have hB':(w.heap.put w.next (some (.cells (ylC y) 47 false))).get B=some (.cells (acc.flatMap ylC) 47 false):=by rw [get_put,if_neg (by omega)]; exact hB
  refine ⟨_,_,append_full isList86 elem86 sz47 small47 (n:=acc.length) (m:=1) (c:=acc.flatMap ylC) rfl hsrc (by simp) (by simp) (by decide) (by omega) hB' (flat_length ylC_length acc) (by show w.lim≤B; omega),.inr ⟨w.next + 1,?_,?_,?_,?_⟩,fun x hx=>?_,?_,rfl⟩
  ·simp
  ·show (((w.heap.put w.next _).put B none).put (w.next + 1) _).get (w.next + 1)=_
   rw [get_put,if_pos rfl]; simp
  ·omega
  ·exact Nat.lt_succ_self _
  ·show (((w.heap.put w.next _).put B none).put (w.next + 1) _).get x=_
   rw [get_put,if_neg (by omega),get_put,if_neg (by omega),get_put,if_neg (by omega)]
  ·show w.next≤w.next + 1 + 1; omega
structure In33 (w0:AW) (p:Pod) (v:Value) (acc:List Yl) (w:AW):Prop where
 base:Base w0.heap w0.next (podC p) 88 w
 acc:AccV w0.next w v acc
 lm:w.lim=w0.lim
theorem In33.parts {w0 w:AW} {p:Pod} {v:Value} {acc:List Yl} (h:In33 w0 p v acc w) (hPW:PartsW w0):PartsW w:=hPW.old h.base.old (Nat.le_of_lt h.base.next)
def podDay (p:Pod) (day:Int):Prop:=podB p=true∧planOk p day=true
theorem num_at {p:Pod} {day r h g:Int} (hp:podDay p day) (h1:p.rl≤r) (h2:r≤p.rh) (h3:h=p.hl∨h=p.hh) (h4:g=p.gl∨g=p.gh):numB p day r h g=true:=by
 have k:=pod_ok hp.1
 refine num_of hp.1 hp.2 ?_
 have:=k.h1; have:=k.g1
 simp only [truthOk,inI,Bool.and_eq_true,decide_eq_true_eq]
 omega
theorem loop33c {ov:Ov} (h73:HasP ov 44 F44) (p:Pod) (day:Int) (hp:podDay p day) (w0:AW) (hPW:PartsW w0) (i:Nat) (hi:p.rl + i≤p.rh) (h:Int) (hh:h=p.hl∨h=p.hh) (acc:List Yl) (hacc:acc.length≤80000) (v20 v21 v32 v33:Value)
  (Q:Ex→Tm→AW→Prop) (t:Tm) (w:AW) (v:Value) (hw:In33 w0 p v acc w)
  (t1:tget t 1=.int .i64 day) (t2:tget t 2=.pointer (some ⟨w0.next,0,none⟩)) (t5:tget t 5=v) (t6:tget t 6=.int .i64 (i:Nat)) (t8:tget t 8=.int .i64 h) (t20:tget t 20=v20) (t21:tget t 21=v21) (t32:tget t 32=v32) (t33:tget t 33=v33)
  (t44:tget t 44=.agg ⟨[.int .i64 p.gl,.int .i64 p.gh]⟩) (t45:tget t 45=.int .i64 0)
  (hQ:∀ t w v,In33 w0 p v (acc++[ylI p.born day (p.rl + i) h p.gl,ylI p.born day (p.rl + i) h p.gh]) w→tget t 1=.int .i64 day→tget t 2=.pointer (some ⟨w0.next,0,none⟩)→tget t 5=v→tget t 6=.int .i64 (i:Nat)→tget t 20=v20→tget t 21=v21→tget t 32=v32→tget t 33=v33→Q (.exit 4) t w) :
  wp (exM Tryz.prog (run Tryz.prog ov 1) (.loop mc33_l2) t w) Q:=by
 obtain ⟨L2,hL2⟩:∃ L2,L2=[ylI p.born day (p.rl + i) h p.gl,ylI p.born day (p.rl + i) h p.gh]:=⟨_,rfl⟩
 rw [← hL2] at hQ
 have hl2:L2.length=2:=by rw [hL2]; rfl
 have k:=pod_ok hp.1
 refine wp_rounds (fun j t w=>∃ v,In33 w0 p v (acc++L2.take j) w∧tget t 1=.int .i64 day∧tget t 2=.pointer (some ⟨w0.next,0,none⟩)∧tget t 5=v∧tget t 6=.int .i64 (i:Nat)∧tget t 8=.int .i64 h∧tget t 20=v20∧tget t 21=v21∧tget t 32=v32∧tget t 33=v33∧tget t 44=.agg ⟨[.int .i64 p.gl,.int .i64 p.gh]⟩∧tget t 45=.int .i64 (j:Nat)∧j≤2) 20 (by decide)
  ⟨v,by simpa using hw,t1,t2,t5,t6,t8,t20,t21,t32,t33,t44,t45,by decide⟩ ?_
 clear t1 t2 t5 t6 t8 t20 t21 t32 t33 t44 t45 hw v
 rintro j t w ⟨v,hw,t1,t2,t5,t6,t8,t20,t21,t32,t33,t44,t45,hj⟩
 by_cases hj2:j=2
 ·subst hj2
  simp [mc33_l2,t45]
  exact hQ _ _ v (by rwa [List.take_of_length_le (by omega)] at hw) (by simp [t1]) (by simp [t2]) (by simp [t5]) (by simp [t6]) (by simp [t20]) (by simp [t21]) (by simp [t32]) (by simp [t33])
 ·obtain ⟨g,hg,hg',htk⟩:∃ g,(g=p.gl∨g=p.gh)∧(∀ w,indexA Tryz.prog w 113 (.agg ⟨[.int .i64 p.gl,.int .i64 p.gh]⟩) (.int .i64 (j:Nat))=.val (.int .i64 g) w)∧L2.take (j + 1)=L2.take j++[ylI p.born day (p.rl + i) h g]:=by
   have:j=0∨j=1:=by omega
   rcases this with rfl | rfl
   ·exact ⟨_,.inl rfl,fun w=>ix113_0 w _ _,by rw [hL2]; rfl⟩
   ·exact ⟨_,.inr rfl,fun w=>ix113_1 w _ _,by rw [hL2]; rfl⟩
  have hjlt:(j:Int) < 2:=by omega
  have hbox:=hw.base.box
  have hrl:=k.r0
  have hrh:=k.r2
  have w1:IntKind.wrap .i64 (p.rl + i)=p.rl + i:=wrap64_in (by omega) (by omega)
  have w2:IntKind.wrap .i64 ((j:Int) + 1)=(j:Int) + 1:=wrap64_in (by omega) (by omega)
  have hnum:=num_at (r:=p.rl + i) hp (by omega) hi hh hg
  have r73:=rule44 h73 hnum 0 (hw.parts hPW)
  simp only [Nat.zero_add] at r73
  have k2:(podC p)[2]?=some (.int .i64 p.rl):=rfl
  have k2':∀ h,(podC p)[2]'h=.int .i64 p.rl:=fun _=>rfl
  obtain ⟨v',w',ha,hacc',ho,hn,hl⟩:=acc_push hw.acc hw.base.lim hw.base.next (by rw [List.length_append,List.length_take]; omega) (ylI p.born day (p.rl + i) h g)
  have hbase:Base w0.heap w0.next (podC p) 88 w':=⟨fun x hx=>by rw [ho x (by omega),hw.base.old x hx],by rw [ho _ (Nat.le_refl _)]; exact hbox,by have:=hw.base.next; omega,by rw [hl]; exact hw.base.lim⟩
  simp [mc33_l2,t1,t2,t5,t6,t8,t44,t45,hjlt,hg',hbox,k2',w1,r73,ha,w2]
  refine ⟨by omega,v',⟨hbase,by rw [htk,← List.append_assoc]; exact hacc',by rw [hl]; exact hw.lm⟩,?_⟩
  simp [t20,t21,t32,t33]
  omega
theorem loop33b {ov:Ov} (h73:HasP ov 44 F44) (p:Pod) (day:Int) (hp:podDay p day) (w0:AW) (hPW:PartsW w0) (i:Nat) (hi:p.rl + i≤p.rh) (acc:List Yl) (hacc:acc.length≤70000) (v20 v21:Value)
  (Q:Ex→Tm→AW→Prop) (t:Tm) (w:AW) (v:Value) (hw:In33 w0 p v acc w)
  (t1:tget t 1=.int .i64 day) (t2:tget t 2=.pointer (some ⟨w0.next,0,none⟩)) (t5:tget t 5=v) (t6:tget t 6=.int .i64 (i:Nat)) (t20:tget t 20=v20) (t21:tget t 21=v21) (t32:tget t 32=.agg ⟨[.int .i64 p.hl,.int .i64 p.hh]⟩) (t33:tget t 33=.int .i64 0)
  (hQ:∀ t w v,In33 w0 p v (acc++four p.born day p.hl p.hh p.gl p.gh (p.rl + i)) w→tget t 1=.int .i64 day→tget t 2=.pointer (some ⟨w0.next,0,none⟩)→tget t 5=v→tget t 20=v20→tget t 21=v21→Q (.exit 2) t w) :
  wp (exM Tryz.prog (run Tryz.prog ov 1) (.loop mc33_l1) t w) Q:=by
 refine wp_rounds (fun j t w=>∃ v,In33 w0 p v (acc++(four p.born day p.hl p.hh p.gl p.gh (p.rl + i)).take (2 * j)) w∧tget t 1=.int .i64 day∧tget t 2=.pointer (some ⟨w0.next,0,none⟩)∧tget t 5=v∧tget t 6=.int .i64 (i:Nat)∧tget t 20=v20∧tget t 21=v21∧tget t 32=.agg ⟨[.int .i64 p.hl,.int .i64 p.hh]⟩∧tget t 33=.int .i64 (j:Nat)∧j≤2) 20 (by decide)
  ⟨v,by simpa using hw,t1,t2,t5,t6,t20,t21,t32,t33,by decide⟩ ?_
 clear t1 t2 t5 t6 t20 t21 t32 t33 hw v
 rintro j t w ⟨v,hw,t1,t2,t5,t6,t20,t21,t32,t33,hj⟩
 by_cases hj2:j=2
 ·subst hj2
  simp [mc33_l1,t33]
  exact hQ _ _ v (by simpa [four] using hw) (by simp [t1]) (by simp [t2]) (by simp [t5]) (by simp [t20]) (by simp [t21])
 ·obtain ⟨h,hh,hh',htk⟩:∃ h,(h=p.hl∨h=p.hh)∧(∀ w,indexA Tryz.prog w 113 (.agg ⟨[.int .i64 p.hl,.int .i64 p.hh]⟩) (.int .i64 (j:Nat))=.val (.int .i64 h) w)∧(four p.born day p.hl p.hh p.gl p.gh (p.rl + i)).take (2 * (j + 1))=(four p.born day p.hl p.hh p.gl p.gh (p.rl + i)).take (2 * j)++[ylI p.born day (p.rl + i) h p.gl,ylI p.born day (p.rl + i) h p.gh]:=by
   have:j=0∨j=1:=by omega
   rcases this with rfl | rfl
   ·exact ⟨_,.inl rfl,fun w=>ix113_0 w _ _,rfl⟩
   ·exact ⟨_,.inr rfl,fun w=>ix113_1 w _ _,rfl⟩
  have hjlt:(j:Int) < 2:=by omega
  have hbox:=hw.base.box
  have k6:∀ h,(podC p)[6]'h=.int .i64 p.gl:=fun _=>rfl
  have k7:∀ h,(podC p)[7]'h=.int .i64 p.gh:=fun _=>rfl
  have w2:IntKind.wrap .i64 ((j:Int) + 1)=(j:Int) + 1:=wrap64_in (by omega) (by omega)
  simp [mc33_l1,t1,t2,t5,t6,t32,t33,hjlt,hh',hbox,k6,k7]
  refine wp_seqX (wp_blockX (wp_blockX (loop33c h73 p day hp w0 hPW i hi h hh _ ?_ v20 v21 (.agg ⟨[.int .i64 p.hl,.int .i64 p.hh]⟩) (.int .i64 (j:Nat)) _ _ _ v hw ?_ ?_ ?_ ?_ ?_ ?_ ?_ ?_ ?_ ?_ ?_ ?_)))
  ·have:(four p.born day p.hl p.hh p.gl p.gh (p.rl + i)).length=4:=rfl
   rw [List.length_append,List.length_take]; omega
  ·simp [t1]
  ·simp [t2]
  ·simp [t5]
  ·simp [t6]
  ·simp
  ·simp [t20]
  ·simp [t21]
  ·simp [t32]
  ·simp [t33]
  ·simp
  ·simp
  ·intro t w v hI s1 s2 s5 s6 s20 s21 s32 s33
   simp [s1,s2,s5,s6,s20,s21,s32,s33,w2]
   refine ⟨by omega,v,by rw [htk,← List.append_assoc]; exact hI,?_⟩
   simp
   omega
theorem loop33a {ov:Ov} (h73:HasP ov 44 F44) (p:Pod) (day:Int) (hp:podDay p day) (w0:AW) (hPW:PartsW w0)
  (Q:Ex→Tm→AW→Prop) (t:Tm) (w:AW) (v:Value) (hw:In33 w0 p v [] w)
  (t1:tget t 1=.int .i64 day) (t2:tget t 2=.pointer (some ⟨w0.next,0,none⟩)) (t5:tget t 5=v) (t20:tget t 20=.int .i64 (p.rh - p.rl + 1)) (t21:tget t 21=.int .i64 0)
  (hQ:∀ t w v,In33 w0 p v (sampY p.born day p.rl p.rh p.hl p.hh p.gl p.gh) w→tget t 5=v→Q (.exit 0) t w) :
  wp (exM Tryz.prog (run Tryz.prog ov 1) (.loop mc33_l0) t w) Q:=by
 have k:=pod_ok hp.1
 have kr0:=k.r0
 have kr1:=k.r1
 have kr2:=k.r2
 obtain ⟨n,hn⟩:∃ n,n=(p.rh - p.rl + 1).toNat:=⟨_,rfl⟩
 have hnn:(n:Int)=p.rh - p.rl + 1:=by omega
 unfold sampY at hQ
 rw [← hn] at hQ
 rw [← hnn] at t20
 refine wp_rounds (fun i t w=>∃ v,In33 w0 p v (sampN p.born day p.rl p.hl p.hh p.gl p.gh i) w∧tget t 1=.int .i64 day∧tget t 2=.pointer (some ⟨w0.next,0,none⟩)∧tget t 5=v∧tget t 20=.int .i64 (n:Nat)∧tget t 21=.int .i64 (i:Nat)∧i≤n) 2000 (by decide)
  ⟨v,hw,t1,t2,t5,t20,t21,Nat.zero_le _⟩ ?_
 clear t1 t2 t5 t20 t21 hw v
 rintro i t w ⟨v,hw,t1,t2,t5,t20,t21,hi⟩
 by_cases hlt:i < n
 ·have hbox:=hw.base.box
  have k4:∀ h,(podC p)[4]'h=.int .i64 p.hl:=fun _=>rfl
  have k5:∀ h,(podC p)[5]'h=.int .i64 p.hh:=fun _=>rfl
  have w2:IntKind.wrap .i64 ((i:Int) + 1)=(i:Int) + 1:=wrap64_in (by omega) (by omega)
  simp [mc33_l0,t1,t2,t5,t20,t21,hlt,hbox,k4,k5]
  refine wp_seqX (wp_blockX (wp_blockX (loop33b h73 p day hp w0 hPW i (by omega) _ ?_ (.int .i64 (n:Nat)) (.int .i64 (i:Nat)) _ _ _ v hw ?_ ?_ ?_ ?_ ?_ ?_ ?_ ?_ ?_)))
  ·rw [samp_length]; omega
  ·simp [t1]
  ·simp [t2]
  ·simp [t5]
  ·simp
  ·simp [t20]
  ·simp [t21]
  ·simp
  ·simp
  ·intro t w v hI s1 s2 s5 s20 s21
   simp [s1,s2,s5,s20,s21,w2]
   refine ⟨by omega,v,hI,?_⟩
   simp
   omega
 ·have hi':i=n:=by omega
  subst hi'
  simp [mc33_l0,t20,t21]
  exact hQ _ _ v hw (by simp [t5])
theorem call33 {ov:Ov} (ho:∀ args w,ov 33 args w=none) (h73:HasP ov 44 F44) (p:Pod) (day:Int) (hp:podDay p day) (w:AW) (hPW:PartsW w) (hl:w.lim≤w.next) :
  ∃ v w',(run Tryz.prog ov 2).call 33 [.agg ⟨podC p⟩,.int .i64 day] w .none=.ok (.ret v) w' .none∧AccV w.next w' v (sampY p.born day p.rl p.rh p.hl p.hh p.gl p.gh)∧Old w.next w.heap w'.heap∧w.next≤w'.next∧w'.lim=w.lim:=by
 refine call_wp text33 (by simp) (ho _ _) ?_
 have k:=pod_ok hp.1
 have kr0:=k.r0
 have kr1:=k.r1
 have kr2:=k.r2
 have k2:∀ h,(podC p)[2]'h=.int .i64 p.rl:=fun _=>rfl
 have k3:∀ h,(podC p)[3]'h=.int .i64 p.rh:=fun _=>rfl
 have w1:IntKind.wrap .i64 (p.rh - p.rl)=p.rh - p.rl:=wrap64_in (by omega) (by omega)
 have w2:IntKind.wrap .i64 (p.rh - p.rl + 1)=p.rh - p.rl + 1:=wrap64_in (by omega) (by omega)
 simp [mc33,k2,k3,w1,w2]
 refine wp_seqX (wp_blockX (loop33a h73 p day hp w hPW _ _ _ (.slice none 0 0) ⟨⟨(Old.refl _ _).put (Nat.le_refl _),?_,?_,?_⟩,.inl ⟨rfl,rfl⟩,rfl⟩ ?_ ?_ ?_ ?_ ?_ ?_))
 ·simp
 ·simp
 ·exact hl
 ·simp
 ·simp
 ·simp
 ·simp
 ·simp
 ·intro t w' v hI s5
  rcases hI.acc with ⟨h1,h2⟩ | ⟨B,rfl,h3⟩
  ·exact absurd h1 (samp_ne k)
  ·simp [s5,tupV]
   exact ⟨.inr ⟨B,rfl,h3⟩,hI.base.old,Nat.le_of_lt hI.base.next,hI.lm⟩
def podS (p:Pod) (day:Int):List Yl:=sampY p.born day p.rl p.rh p.hl p.hh p.gl p.gh
def esH:List Pod→List Int→List (Yl × Yl)
 | p::l,d::pl=>endsY (podS p d)::esH l pl
 | _,_=>[]
theorem esH_length:∀ (l:List Pod) (pl:List Int),pl.length=l.length→(esH l pl).length=l.length
 | [],_,_=>rfl
 | p::l,d::pl,h=>by
  show (esH l pl).length + 1=l.length + 1
  rw [esH_length l pl (by simpa using h)]
 | _::_,[],h=>by simp at h
theorem esH_at:∀ (l:List Pod) (pl:List Int) (i:Nat) (p:Pod) (d:Int),l[i]?=some p→pl[i]?=some d→(esH l pl)[i]?=some (endsY (podS p d))
 | [],_,i,_,_,h,_=>by simp at h
 | _::_,[],i,_,_,_,h=>by simp at h
 | p::l,d::pl,0,p',d',h1,h2=>by
  simp only [List.getElem?_cons_zero,Option.some.injEq] at h1 h2
  subst h1 h2
  rfl
 | p::l,d::pl,i + 1,p',d',h1,h2=>by
  simp only [List.getElem?_cons_succ] at h1 h2
  exact esH_at l pl i p' d' h1 h2
theorem fold_left (l:List Yl):∀ s:Yl × Yl,(l.foldl stepE s).1.left=s.1.left∧(l.foldl stepE s).2.left=s.2.left:=by
 induction l with
 | nil=>intro s; exact ⟨rfl,rfl⟩
 | cons y l ih=>intro s; rw [List.foldl_cons]; exact ih _
theorem samp_small {p:Pod} {d:Int} (hp:podDay p d) {y:Yl} (hy:y ∈ podS p d):smallY y:=by
 obtain ⟨r,h,g,h1,h2,_,h4,rfl⟩:=samp_all hy
 have k:=pod_ok hp.1
 have:=k.g1
 exact yl_bd k (plan_day hp.2) h1 h2 (by omega) (by omega)
theorem ends_small {p:Pod} {d:Int} (hp:podDay p d):smallY (endsY (podS p d)).1∧smallY (endsY (podS p d)).2:=by
 have k:=pod_ok hp.1
 have hne:podS p d ≠ []:=samp_ne k
 obtain ⟨⟨y1,m1,e1⟩,⟨y2,m2,e2⟩,_⟩:=ends_ripe hne
 obtain ⟨⟨y3,m3,e3⟩,⟨y4,m4,e4⟩,_⟩:=ends_green hne
 obtain ⟨⟨y5,m5,e5⟩,⟨y6,m6,e6⟩,_⟩:=ends_split hne
 have s1:=samp_small hp m1
 have s2:=samp_small hp m2
 have s3:=samp_small hp m3
 have s4:=samp_small hp m4
 have s5:=samp_small hp m5
 have s6:=samp_small hp m6
 have hleft:∃ y ∈ podS p d,(endsY (podS p d)).1.left=y.left∧(endsY (podS p d)).2.left=y.left:=by
  cases hc:podS p d with
  | nil=>exact absurd hc hne
  | cons y l=>exact ⟨y,List.mem_cons_self ..,fold_left l (y,y)⟩
 obtain ⟨y7,m7,e7,e8⟩:=hleft
 have s7:=samp_small hp m7
 unfold smallY at *
 omega
@[simp] theorem ia86_0 (w:AW) (a:Addr) (n c:Nat) (hn:0 < n):indexAddrA Tryz.prog w 86 (.slice (some a) n c) (.int .i64 0)=.val (.pointer (some (a.add (0 * 4)))) w:=ia86 w a n c .i64 0 hn
structure In16 (w0:AW) (es:List (Yl × Yl)) (n i:Nat) (w:AW):Prop where
 old:Old w0.next w0.heap w.heap
 res:w.heap.get w0.next=some (.cells [.int .i64 0,.int .i64 0,.int .i64 0,.int .i64 0,.int .i64 0,.int .i64 0] 29 false)
 row:∃ Ls:List Yl,w.heap.get (w0.next + 1)=some (.cells (Ls.flatMap ylC) 47 false)∧Ls.length=2 * n∧∀ j,j < i→Ls[j]?=(es[j]?).map (·.1)∧Ls[n + j]?=(es[j]?).map (·.2)
 next:w0.next + 1 < w.next
 lim:w.lim=w0.lim
theorem In16.parts {w0 w:AW} {es:List (Yl × Yl)} {n i:Nat} (h:In16 w0 es n i w) (hPW:PartsW w0):PartsW w:=hPW.old h.old (by have:=h.next; omega)
set_option maxHeartbeats 2000000 in
theorem loop16 {ov:Ov} (h76:∀ args w,ov 33 args w=none) (h73:HasP ov 44 F44) (h77:HasP ov 34 F34) (l:List Pod) (pl:List Int) (v u:Value) (w0:AW) (hPW:PartsW w0) (hlim0:w0.lim≤w0.next) (hv:PodsV w0 v l) (hu:RowsV intC w0 u pl) (hB:podsB l=true) (hP:planB l pl=true)
  (Q:Ex→Tm→AW→Prop) (t:Tm) (w:AW) (hw:In16 w0 (esH l pl) l.length 0 w)
  (t1:tget t 1=u) (t4:tget t 4=.pointer (some ⟨w0.next,0,none⟩)) (t5:tget t 5=.int .i64 (l.length:Nat)) (t6:tget t 6=.slice (some ⟨w0.next + 1,0,none⟩) (2 * l.length) (2 * l.length)) (t17:tget t 17=v) (t18:tget t 18=.int .i64 (l.length:Nat)) (t19:tget t 19=.int .i64 0)
  (hQ:∀ t w,In16 w0 (esH l pl) l.length l.length w→tget t 4=.pointer (some ⟨w0.next,0,none⟩)→tget t 5=.int .i64 (l.length:Nat)→tget t 6=.slice (some ⟨w0.next + 1,0,none⟩) (2 * l.length) (2 * l.length)→Q (.exit 0) t w) :
  wp (exM Tryz.prog (run Tryz.prog ov 2) (.loop mc16_l0) t w) Q:=by
 have hlen:=podsB_len hB
 have e0:pl.length=l.length:=by simp only [planB,Bool.and_eq_true,decide_eq_true_eq] at hP; exact hP.1
 refine wp_rounds (fun i t w=>In16 w0 (esH l pl) l.length i w∧tget t 1=u∧tget t 4=.pointer (some ⟨w0.next,0,none⟩)∧tget t 5=.int .i64 (l.length:Nat)∧tget t 6=.slice (some ⟨w0.next + 1,0,none⟩) (2 * l.length) (2 * l.length)∧tget t 17=v∧tget t 18=.int .i64 (l.length:Nat)∧tget t 19=.int .i64 (i:Nat)∧i≤l.length) 200 (by decide)
  ⟨hw,t1,t4,t5,t6,t17,t18,t19,Nat.zero_le _⟩ ?_
 clear t1 t4 t5 t6 t17 t18 t19 hw
 rintro i t w ⟨hw,t1,t4,t5,t6,t17,t18,t19,hi⟩
 by_cases hlt:i < l.length
 ·obtain ⟨p,hp⟩:∃ p,l[i]?=some p:=⟨_,List.getElem?_eq_getElem hlt⟩
  obtain ⟨d,hdi⟩:∃ d,pl[i]?=some d:=⟨_,List.getElem?_eq_getElem (e0 ▸ hlt)⟩
  obtain ⟨b,sq,c,rfl,hpa⟩:=hv.at_ i hlt
  obtain ⟨b0,o0,q0,c0,rfl,hda⟩:=hu.at_ i (e0 ▸ hlt)
  have hpd:podDay p d:=⟨pods_all hB hp,plan_at hP hp hdi⟩
  have hes:=esH_at l pl i p d hp hdi
  have hld:=load_pod' hpa hp
  have hdd:=hda.int hdi
  rw [← hw.old _ hpa.lt] at hld
  have n1:=hw.next
  have hlm:=hw.lim
  have hl1:w.lim≤w.next:=by omega
  have m0:¬ b=w.next:=by have:=hpa.lt; omega
  -- the pod in its box, and what it can yield
  obtain ⟨W1,hW1⟩:∃ W1:AW,W1=⟨(w.heap.put w.next (some (.cells [.string ⟨⟨[]⟩⟩,.int .i64 0,.int .i64 0,.int .i64 0,.int .i64 0,.int .i64 0,.int .i64 0,.int .i64 0] 45 false))).put w.next (some (.cells (podC p) 45 false)),w.next + 1,w.lim⟩:=⟨_,rfl⟩
  have g1:∀ x,x < w.next→W1.heap.get x=w.heap.get x:=fun x hx=>by rw [hW1]; show ((w.heap.put w.next _).put w.next _).get x=_; rw [get_put,if_neg (by omega),get_put,if_neg (by omega)]
  have g2:W1.next=w.next + 1:=by rw [hW1]
  have g3:W1.lim=w.lim:=by rw [hW1]
  have hPW1:PartsW W1:=(hw.parts hPW).old g1 (by omega)
  obtain ⟨v',w',hcall,hacc,hold,hnx,hlim'⟩:=call33 h76 h73 p d hpd W1 hPW1 (by omega)
  have hne:podS p d ≠ []:=samp_ne (pod_ok hpd.1)
  obtain ⟨y0,ys,hys⟩:∃ y0 ys,podS p d=y0::ys:=by
   cases hc:podS p d with
   | nil=>exact absurd hc hne
   | cons y l=>exact ⟨y,l,rfl⟩
  obtain ⟨N,hN⟩:∃ N,N=(podS p d).length:=⟨_,rfl⟩
  have hN1:N=ys.length + 1:=by rw [hN,hys]; rfl
  have hNb:N≤2000:=by
   rw [hN]
   unfold podS sampY
   rw [samp_length]
   have:=(pod_ok hpd.1).r0; have:=(pod_ok hpd.1).r2
   omega
  rcases hacc with ⟨h1,_⟩ | ⟨B,rfl,hBc,hB1,hB2⟩
  case' inl=>exact absurd h1 hne
  change w'.heap.get B=some (.cells ((podS p d).flatMap ylC) 47 false) at hBc
  change (run Tryz.prog ov 2).call 33 [.agg ⟨podC p⟩,.int .i64 d] W1 .none=.ok (.ret (.slice (some ⟨B,0,none⟩) (podS p d).length (podS p d).length)) w' .none at hcall
  rw [← hN,hW1] at hcall
  have hRA:RowsA ylC w'.heap w'.next B 0 (podS p d):=⟨⟨[],[],47,false,by rw [List.nil_append,List.append_nil]; exact hBc,rfl⟩,hB2⟩
  have hy0:rdO (w'.heap.get B) 0 4=some (ylC y0):=by
   have:=hRA.rd (m:=4) ylC_length (i:=0) (a:=y0) (by rw [hys]; rfl)
   simpa using this
  have hTl:RowsV ylC w' (.slice (some ⟨B,4,none⟩) (N - 1) (N - 1)) ys:=by
   refine .inr ⟨B,4,none,N - 1,by rw [hN1]; rfl,⟨ylC y0,[],47,false,?_,by simp⟩,hB2⟩
   rw [hBc,hys,List.flatMap_cons,List.append_nil]
  have r77:=rule34 h77 y0 (by omega) 1 hTl
  have hends:ys.foldl stepE (y0,y0)=endsY (podS p d):=by rw [hys]; rfl
  rw [hends] at r77
  have hsl:sliceA Tryz.prog w' 86 (.slice (some ⟨B,0,none⟩) N N) (some (.int .i64 1)) none none=.val (.slice (some ⟨B,4,none⟩) (N - 1) (N - 1)) w':=by
   have:=slice_tail (st:=86) elem86 sz47 (a:=⟨B,0,none⟩) (n:=N) (c:=N) (lo:=1) hBc (by omega)
   simpa using this
  -- what stood before
  have hsame:∀ x,x < w.next→w'.heap.get x=w.heap.get x:=fun x hx=>by rw [hold x (by omega),g1 x hx]
  rw [← hw.old _ hda.2] at hdd
  have m6:¬ b0=w.next:=by have:=hda.2; omega
  obtain ⟨Ls,hrow,hLl,hLs⟩:=hw.row
  rw [← hsame _ n1] at hrow
  obtain ⟨cs,hcs⟩:∃ cs,cs=Ls.flatMap ylC:=⟨_,rfl⟩
  obtain ⟨cs2,hcs2⟩:∃ cs2,cs2=(Ls.set i (endsY (podS p d)).1).flatMap ylC:=⟨_,rfl⟩
  have hcl:cs.length=2 * l.length * 4:=by rw [hcs,flat_length ylC_length,hLl]
  have hcl2:cs2.length=2 * l.length * 4:=by rw [hcs2,flat_length ylC_length,List.length_set,hLl]
  rw [← hcs] at hrow
  have hset:=flat_set ylC_length Ls i (endsY (podS p d)).1 (by omega)
  have hset2:=flat_set ylC_length (Ls.set i (endsY (podS p d)).1) (l.length + i) (endsY (podS p d)).2 (by rw [List.length_set]; omega)
  rw [← hcs,← hcs2] at hset
  rw [← hcs2] at hset2
  have hfit:i * 4 + 4≤2 * l.length * 4:=by omega
  have hfit2:(l.length + i) * 4 + 4≤2 * l.length * 4:=by omega
  have hia:=fun w=>ia22 w ⟨b,0,sq⟩ l.length c .i64 i hlt
  have hi0:=fun w=>ia23 w ⟨b0,o0,q0⟩ pl.length c0 .i64 i (e0 ▸ hlt)
  have hi1:=fun w=>ia86 w ⟨w0.next + 1,0,none⟩ (2 * l.length) (2 * l.length) .i64 i (by omega)
  have hi2:∀ w,indexAddrA Tryz.prog w 86 (.slice (some ⟨w0.next + 1,0,none⟩) (2 * l.length) (2 * l.length)) (.int .i64 ((l.length:Int) + (i:Int)))=.val (.pointer (some (Addr.add ⟨w0.next + 1,0,none⟩ ((l.length + i) * 4)))) w:=fun w=>ia86 w ⟨w0.next + 1,0,none⟩ (2 * l.length) (2 * l.length) .i64 (l.length + i) (by omega)
  have hi3:=fun w=>ia86_0 w ⟨B,0,none⟩ N N (by omega)
  have hw1:IntKind.wrap .i64 ((i:Int) + 1)=(i:Int) + 1:=wrap64_in (by omega) (by omega)
  have hw2:IntKind.wrap .i64 ((l.length:Int) + (i:Int))=(l.length:Int) + (i:Int):=wrap64_in (by omega) (by omega)
  have hl3:w'.lim≤w0.next + 1:=by omega
  simp [mc16_l0,t1,t5,t6,t17,t18,t19,hlt,hia,hi0,hi1,hi2,hi3,hld,hdd,hl1,hl3,m0,m6,cellsOf_agg,hcall,hy0,hsl,r77,endsV,hw2,hrow,hcl,hcl2,hfit,hfit2,hset,hset2,hw1]
  refine ⟨by omega,⟨fun x hx=>?_,?_,⟨(Ls.set i (endsY (podS p d)).1).set (l.length + i) (endsY (podS p d)).2,?_,?_,?_⟩,?_,?_⟩,t4,by omega⟩
  ·show ((w'.heap.put (w0.next + 1) _).put (w0.next + 1) _).get x=_
   rw [get_put,if_neg (by omega),get_put,if_neg (by omega),hsame x (by omega),hw.old x hx]
  ·show ((w'.heap.put (w0.next + 1) _).put (w0.next + 1) _).get w0.next=_
   rw [get_put,if_neg (by omega),get_put,if_neg (by omega),hsame _ (by omega),hw.res]
  ·show ((w'.heap.put (w0.next + 1) _).put (w0.next + 1) _).get (w0.next + 1)=_
   rw [get_put,if_pos rfl]
  ·rw [List.length_set,List.length_set,hLl]
  ·intro j hj
   by_cases e:j=i
   ·subst e
    rw [hes]
    refine ⟨?_,?_⟩
    ·rw [List.getElem?_set_ne (by omega),List.getElem?_set_self (by omega)]; rfl
    ·rw [List.getElem?_set_self (by rw [List.length_set]; omega)]; rfl
   ·obtain ⟨q1,q2⟩:=hLs j (by omega)
    refine ⟨?_,?_⟩
    ·rw [List.getElem?_set_ne (by omega),List.getElem?_set_ne (by omega),q1]
    ·rw [List.getElem?_set_ne (by omega),List.getElem?_set_ne (by omega),q2]
  ·show w0.next + 1 < w'.next; omega
  ·show w'.lim=w0.lim; omega
 ·have hi':i=l.length:=by omega
  subst hi'
  simp [mc16_l0,t18,t19]
  exact hQ _ _ hw (by simp [t4]) (by simp [t5]) (by simp [t6])
def loS (l:List Pod) (pl:List Int):Yl:=sumYl ((esH l pl).map (·.1))
def hiS (l:List Pod) (pl:List Int):Yl:=sumYl ((esH l pl).map (·.2))
def wgC (l:List Pod) (pl:List Int):List Value:=[.int .i64 (loS l pl).ripe,.int .i64 (hiS l pl).ripe,.int .i64 (loS l pl).green,.int .i64 (hiS l pl).green,.int .i64 (loS l pl).split,.int .i64 (hiS l pl).split]
theorem es_small {l:List Pod} {pl:List Int} (hB:podsB l=true) (hP:planB l pl=true):(∀ y ∈ (esH l pl).map (·.1),smallY y)∧∀ y ∈ (esH l pl).map (·.2),smallY y:=by
 have e0:pl.length=l.length:=by simp only [planB,Bool.and_eq_true,decide_eq_true_eq] at hP; exact hP.1
 have key:∀ e ∈ esH l pl,smallY e.1∧smallY e.2:=fun e he=>by
  obtain ⟨i,hi⟩:=List.mem_iff_getElem?.1 he
  have hil:i < l.length:=by have:=(List.getElem?_eq_some_iff.1 hi).1; rw [esH_length l pl e0] at this; exact this
  obtain ⟨p,hp⟩:∃ p,l[i]?=some p:=⟨_,List.getElem?_eq_getElem hil⟩
  obtain ⟨d,hdi⟩:∃ d,pl[i]?=some d:=⟨_,List.getElem?_eq_getElem (e0 ▸ hil)⟩
  rw [esH_at l pl i p d hp hdi] at hi
  cases hi
  exact ends_small ⟨pods_all hB hp,plan_at hP hp hdi⟩
 exact ⟨fun y hy=>by obtain ⟨e,he,rfl⟩:=List.mem_map.1 hy; exact (key e he).1,fun y hy=>by obtain ⟨e,he,rfl⟩:=List.mem_map.1 hy; exact (key e he).2⟩
set_option maxHeartbeats 2000000 in
theorem run16 {ov:Ov} (ho:∀ args w,ov 16 args w=none) (h76:∀ args w,ov 33 args w=none) (h73:HasP ov 44 F44) (h77:HasP ov 34 F34) (h74:HasP ov 35 F35) (l:List Pod) (pl:List Int) (v u:Value) (w:AW) (hl:w.lim=w.next) (hPW:PartsW w) (hv:PodsV w v l) (hu:RowsV intC w u pl) (hB:podsB l=true) (hP:planB l pl=true) :
  ∃ x w',(run Tryz.prog ov 3).call 16 [v,u] w .none=.ok (.ret x) w' .none∧x=.agg ⟨wgC l pl⟩:=by
 have hlen:=podsB_len hB
 have e0:pl.length=l.length:=by simp only [planB,Bool.and_eq_true,decide_eq_true_eq] at hP; exact hP.1
 have hel:=esH_length l pl e0
 refine call_wp text16 (by simp) (ho _ _) ?_
 have hl0:=len22V hv
 have w1:IntKind.wrap .i64 (2 * (l.length:Int))=2 * (l.length:Int):=wrap64_in (by omega) (by omega)
 have hms:∀ w,makeSliceA Tryz.prog w 86 (.int .i64 (2 * (l.length:Int))) (.int .i64 (2 * (l.length:Int)))=_:=fun w=>ms103 (2 * l.length) (by omega) w
 simp [mc16,hl0,w1,hms]
 refine wp_seqX (wp_blockX (loop16 h76 h73 h77 l pl v u w hPW (Nat.le_of_eq hl) hv hu hB hP _ _ _ ⟨?_,?_,⟨List.replicate (2 * l.length) ⟨0,0,0,0⟩,?_,?_,fun j hj=>by omega⟩,?_,?_⟩ ?_ ?_ ?_ ?_ ?_ ?_ ?_ ?_))
 ·exact ((Old.refl _ _).put (Nat.le_refl _)).put (Nat.le_succ _)
 ·simp
 ·simp
 ·simp
 ·simp
 ·simp
 ·simp
 ·simp
 ·simp
 ·simp
 ·simp
 ·simp
 ·simp
 ·intro t w' hI s4 s5 s6
  obtain ⟨Ls,hrow,hLl,hLs⟩:=hI.row
  obtain ⟨A,hA⟩:∃ A,A=(esH l pl).map (·.1):=⟨_,rfl⟩
  obtain ⟨C,hC⟩:∃ C,C=(esH l pl).map (·.2):=⟨_,rfl⟩
  have hAl:A.length=l.length:=by rw [hA,List.length_map,hel]
  have hCl:C.length=l.length:=by rw [hC,List.length_map,hel]
  have heq:Ls=A++C:=List.ext_getElem? fun j=>by
   by_cases hj:j < l.length
   ·rw [List.getElem?_append_left (by omega),(hLs j hj).1,hA,List.getElem?_map]
   ·by_cases hj2:j < 2 * l.length
    ·obtain ⟨k,rfl⟩:∃ k,j=l.length + k:=⟨j - l.length,by omega⟩
     rw [(hLs k (by omega)).2,List.getElem?_append_right (by omega),hAl,Nat.add_sub_cancel_left,hC,List.getElem?_map]
    ·rw [List.getElem?_eq_none (by omega),List.getElem?_eq_none (by rw [List.length_append]; omega)]
  subst heq
  rw [List.flatMap_append] at hrow
  obtain ⟨hs1,hs2⟩:=es_small hB hP
  rw [← hA] at hs1
  rw [← hC] at hs2
  obtain ⟨n,hn⟩:∃ n,n=l.length:=⟨_,rfl⟩
  have n1:=hI.next
  -- the world when sums are asked for
  obtain ⟨W,hW⟩:∃ W:AW,W=⟨(w'.heap.put w'.next (some (.cells [.int .i64 0,.int .i64 0,.int .i64 0,.int .i64 0] 47 false))).put (w'.next + 1) (some (.cells [.int .i64 0,.int .i64 0,.int .i64 0,.int .i64 0] 47 false)),w'.next + 1 + 1,w'.lim⟩:=⟨_,rfl⟩
  have hWrow:W.heap.get (w.next + 1)=some (.cells (A.flatMap ylC++C.flatMap ylC) 47 false):=by
   rw [hW]
   show ((w'.heap.put _ _).put _ _).get _=_
   rw [get_put,if_neg (by omega),get_put,if_neg (by omega)]; exact hrow
  have hWn:w.next + 1 < W.next:=by rw [hW]; show w.next + 1 < w'.next + 1 + 1; omega
  have hR1:RowsV ylC W (.slice (some ⟨w.next + 1,0,some 2⟩) l.length l.length) A:=by
   rw [← hAl]
   exact .inr ⟨_,0,some 2,_,rfl,⟨[],C.flatMap ylC,47,false,by rw [List.nil_append]; exact hWrow,rfl⟩,hWn⟩
  have hR2:RowsV ylC W (.slice (some ⟨w.next + 1,l.length * 4,none⟩) l.length l.length) C:=by
   have:RowsV ylC W (.slice (some ⟨w.next + 1,l.length * 4,none⟩) C.length l.length) C:=.inr ⟨_,l.length * 4,none,_,rfl,⟨A.flatMap ylC,[],47,false,by rw [List.append_nil]; exact hWrow,by rw [flat_length ylC_length,hAl]⟩,hWn⟩
   rwa [hCl] at this
  have r74a:=rule35 h74 hs1 (by omega) 1 hR1
  have r74b:=rule35 h74 hs2 (by omega) 1 hR2
  rw [hW] at r74a r74b
  have z1:∀ H n lim,H.get (w.next + 1)=some (.cells (A.flatMap ylC++C.flatMap ylC) 47 false)→sliceA Tryz.prog ⟨H,n,lim⟩ 86 (.slice (some ⟨w.next + 1,0,none⟩) (2 * l.length) (2 * l.length)) none (some (.int .i64 (l.length:Nat))) (some (.int .i64 (l.length:Nat)))=.val (.slice (some ⟨w.next + 1,0,some 2⟩) l.length l.length) ⟨H,n,lim⟩:=fun H n lim hH=>by
   have:=slice_three (st:=86) elem86 sz47 (w:=⟨H,n,lim⟩) (a:=⟨w.next + 1,0,none⟩) (n:=2 * l.length) (c:=2 * l.length) (k:=l.length) (j:=l.length) hH (Nat.le_refl _) (by omega)
   simpa using this
  have z2:∀ H n lim,H.get (w.next + 1)=some (.cells (A.flatMap ylC++C.flatMap ylC) 47 false)→sliceA Tryz.prog ⟨H,n,lim⟩ 86 (.slice (some ⟨w.next + 1,0,none⟩) (2 * l.length) (2 * l.length)) (some (.int .i64 (l.length:Nat))) none none=.val (.slice (some ⟨w.next + 1,l.length * 4,none⟩) l.length l.length) ⟨H,n,lim⟩:=fun H n lim hH=>by
   have:=slice_tail (st:=86) elem86 sz47 (w:=⟨H,n,lim⟩) (a:=⟨w.next + 1,0,none⟩) (n:=2 * l.length) (c:=2 * l.length) (lo:=l.length) hH (by omega)
   have e:2 * l.length - l.length=l.length:=by omega
   rw [e] at this
   simpa using this
  have y1:=z1 w'.heap w'.next w'.lim hrow
  have y2:=z2 w'.heap w'.next w'.lim hrow
  have y3:=z1 W.heap W.next W.lim hWrow
  have y4:=z2 W.heap W.next W.lim hWrow
  rw [hW] at y3 y4
  have l1:w'.lim≤w'.next:=by have:=hI.lim; omega
  have l2:w'.lim≤w.next:=by have:=hI.lim; omega
  have m1:¬ w.next=w'.next:=by omega
  have m2:¬ w.next=w'.next + 1:=by omega
  have hres:=hI.res
  have v1:loS l pl=sumYl A:=by rw [hA]; rfl
  have v2:hiS l pl=sumYl C:=by rw [hC]; rfl
  simp [s4,s5,s6,y1,y2,y3,y4,r74a,r74b,l1,l2,m1,m2,hres,tupV,ylC,wgC,v1,v2]
open Classical in
noncomputable def F16:PureF:=fun args w=>match args with | [v,u]=>(podsIn w v).bind fun l=>(rowsIn intC w u).bind fun pl=>if podsB l=true∧planB l pl=true∧PartsW w then some (.agg ⟨wgC l pl⟩) else none | _=>none
theorem rule16 {ov:Ov} (k:HasP ov 16 F16) {v u:Value} {l:List Pod} {pl:List Int} {w:AW} (hPW:PartsW w) (hv:podsIn w v=some l) (hu:RowsV intC w u pl) (hB:podsB l=true) (hP:planB l pl=true) (m:Nat):(run Tryz.prog ov (m + 1)).call 16 [v,u] w .none=.ok (.ret (.agg ⟨wgC l pl⟩)) w .none:=k.call (by
 simp only [F16,hv,hu.rowsIn (m:=1) intC_length intC_inj,Option.bind_some]
 rw [if_pos ⟨hB,hP,hPW⟩])
def zero6:List Value:=[.int .i64 0,.int .i64 0,.int .i64 0,.int .i64 0,.int .i64 0,.int .i64 0]
def weiC (l:List Pod) (pl:List Int):List Value:=if chkE l pl=0 then wgC l pl else zero6
def weiV (l:List Pod) (pl:List Int):Value:=.tuple ⟨[.agg ⟨weiC l pl⟩,.int .i64 (chkE l pl)]⟩
@[simp] theorem wgC_length (l:List Pod) (pl:List Int):(wgC l pl).length=6:=by simp [wgC]
@[simp] theorem wgC_singles (l:List Pod) (pl:List Int):singles (wgC l pl)=true:=by simp [wgC]
@[simp] theorem wgC_take (l:List Pod) (pl:List Int):(wgC l pl).take 6=wgC l pl:=by simp [wgC]
theorem run4 {ov:Ov} (ho:∀ args w,ov 4 args w=none) (h50:HasP ov 15 F15) (h56:HasP ov 16 F16) (l:List Pod) (pl:List Int) (v u:Value) (w:AW) (hl:w.lim=w.next) (hPW:PartsW w) (hpin:podsIn w v=some l) (hu:RowsV intC w u pl) :
  ∃ x w',(run Tryz.prog ov 2).call 4 [v,u] w .none=.ok (.ret x) w' .none∧x=weiV l pl:=by
 refine call_wp text4 (by simp) (ho _ _) ?_
 have hv:=podsIn_some hpin
 obtain ⟨W1,hW1⟩:∃ W1:AW,W1=⟨w.heap.put w.next (some (.cells [.int .i64 0,.int .i64 0,.int .i64 0,.int .i64 0,.int .i64 0,.int .i64 0] 29 false)),w.next + 1,w.lim⟩:=⟨_,rfl⟩
 have o1:Old w.next w.heap W1.heap:=by rw [hW1]; exact (Old.refl _ _).put (Nat.le_refl _)
 have hn:w.next≤W1.next:=by rw [hW1]; show w.next≤w.next + 1; omega
 have a0:=(hv.old o1 hn).podsIn
 have a1:=hu.old o1 hn
 have a5:=hPW.old o1 hn
 have r50:=rule15 h50 a0 a1 0
 simp only [Nat.zero_add,hW1] at r50
 have hl1:w.lim≤w.next:=by omega
 by_cases hc:chkE l pl=0
 ·obtain ⟨hB,hP⟩:=chk_zero hc
  have r56:=rule16 h56 a5 a0 a1 hB hP 0
  simp only [Nat.zero_add,hW1] at r56
  simp [mc4,r50,hc,r56,hl1,tupV,weiV,weiC,cellsOf_agg]
 ·simp [mc4,r50,hc,hl1,tupV,weiV,weiC,zero6]
open Classical in
noncomputable def F4:PureF:=fun args w=>match args with | [v,u]=>(podsIn w v).bind fun l=>(rowsIn intC w u).bind fun pl=>if PartsW w then some (weiV l pl) else none | _=>none
theorem rule4 {ov:Ov} {f:FuncId} (k:HasP ov f F4) {v u:Value} {l:List Pod} {pl:List Int} {w:AW} (hPW:PartsW w) (hv:podsIn w v=some l) (hu:RowsV intC w u pl) (m:Nat):(run Tryz.prog ov (m + 1)).call f [v,u] w .none=.ok (.ret (weiV l pl)) w .none:=k.call (by
 simp only [F4,hv,hu.rowsIn (m:=1) intC_length intC_inj,Option.bind_some]
 rw [if_pos hPW])
def wrapI (n s:Int):Int:=if s < 1 then 0 else (n.tmod s + s).tmod s
theorem wrapI_bd {n s:Int} (h:1≤s):0≤wrapI n s∧wrapI n s < s:=by
 have h2:=Int.lt_tmod_of_pos n (show 0 < s by omega)
 unfold wrapI
 rw [if_neg (by omega)]
 exact ⟨Int.tmod_nonneg _ (by omega),Int.tmod_lt_of_pos _ (by omega)⟩
noncomputable def F6:PureF:=fun args _=>match args with | [.int .i64 n,.int .i64 s]=>bif decide (s≤2 ^ 60) then some (.int .i64 (wrapI n s)) else none | _=>none
theorem rule6 {ov:Ov} (k:HasP ov 6 F6) (n:Int) {s:Int} (hs:s≤2 ^ 60) (w:AW):(run Tryz.prog ov 1).call 6 [.int .i64 n,.int .i64 s] w .none=.ok (.ret (.int .i64 (wrapI n s))) w .none:=k.call (by
 show (bif decide (s≤2 ^ 60) then some (Value.int .i64 (wrapI n s)) else none)=_
 rw [decide_eq_true hs]; rfl)
theorem run6 {ov:Ov} (ho:∀ args w,ov 6 args w=none) (n s:Int) (hs:s≤2 ^ 60) (w:AW):∃ v w',(run Tryz.prog ov 2).call 6 [.int .i64 n,.int .i64 s] w .none=.ok (.ret v) w' .none∧v=.int .i64 (wrapI n s):=by
 refine call_wp text6 (by simp) (ho _ _) ?_
 by_cases h1:s < 1
 ·simp [mc6,h1,tupV,wrapI]
 ·have hr:=fun (a:Int) (c:Bool) w=>bin_rem (P:=Tryz.prog) (w:=w) 3 c .i64 a s (by omega)
  have b1:=Int.lt_tmod_of_pos n (show 0 < s by omega)
  have b2:=Int.tmod_lt_of_pos n (show 0 < s by omega)
  have w1:IntKind.wrap .i64 (n.tmod s + s)=n.tmod s + s:=wrap64_in (by omega) (by omega)
  simp [mc6,h1,tupV,wrapI,hr,w1]
def nthI (L:List Int) (i:Int):Int:=match L[(wrapI i L.length).toNat]? with | some z=>z | none=>0
noncomputable def F21:PureF:=fun args w=>match args with | [v,.int .i64 i]=>(rowsIn intC w v).bind fun L=>bif decide (L.length≤2 ^ 60) then some (.int .i64 (nthI L i)) else none | _=>none
theorem run21 {ov:Ov} (ho:∀ args w,ov 21 args w=none) (h42:HasP ov 6 F6) (v:Value) (L:List Int) (i:Int) (w:AW) (hv:RowsV intC w v L) (hs:L.length≤2 ^ 60):∃ x w',(run Tryz.prog ov 2).call 21 [v,.int .i64 i] w .none=.ok (.ret x) w' .none∧x=.int .i64 (nthI L i):=by
 refine call_wp text21 (by simp) (ho _ _) ?_
 have hl:=len23V hv
 have r42:=rule6 h42 i (s:=L.length) (by omega)
 by_cases h0:L.length=0
 ·have:L=[]:=List.eq_nil_of_length_eq_zero h0
  subst this
  simp [mc21,hl,tupV,nthI]
 ·have hb:=wrapI_bd (n:=i) (s:=L.length) (by omega)
  obtain ⟨k,hk⟩:∃ k:Nat,(k:Int)=wrapI i L.length:=⟨(wrapI i L.length).toNat,by omega⟩
  have hkl:k < L.length:=by omega
  obtain ⟨z,hz⟩:∃ z,L[k]?=some z:=⟨_,List.getElem?_eq_getElem hkl⟩
  obtain ⟨b,off,sq,c,rfl,hr⟩:=hv.at_ k hkl
  have hld:=hr.int hz
  have hia:=fun w=>ia23 w ⟨b,off,sq⟩ L.length c .i64 k hkl
  rw [← hk] at r42
  have hn:nthI L i=z:=by
   unfold nthI
   rw [← hk,Int.toNat_natCast,hz]
  have h0':¬ (L.length:Int)=0:=by omega
  simp [mc21,hl,h0,h0',r42,hia,hld,tupV,hn]
def withI (lo hi n:Int):Int:=lo + wrapI n (hi - lo + 1)
theorem with_in {lo hi n:Int} (h:lo≤hi):inI lo (withI lo hi n) hi=true:=by
 obtain ⟨a,b⟩:=wrapI_bd (n:=n) (s:=hi - lo + 1) (by omega)
 obtain ⟨x,hx⟩:∃ x,x=wrapI n (hi - lo + 1):=⟨_,rfl⟩
 rw [← hx] at a b
 simp only [inI,withI,← hx,Bool.and_eq_true,decide_eq_true_eq]
 exact ⟨by omega,by omega⟩
noncomputable def F20:PureF:=fun args _=>match args with | [.int .i64 lo,.int .i64 hi,.int .i64 n]=>bif inI 0 lo 100000 && inI 0 hi 100000 then some (.int .i64 (withI lo hi n)) else none | _=>none
theorem run20 {ov:Ov} (ho:∀ args w,ov 20 args w=none) (h42:HasP ov 6 F6) (lo hi n:Int) (hb:(0≤lo∧lo≤100000)∧0≤hi∧hi≤100000) (w:AW):∃ v w',(run Tryz.prog ov 2).call 20 [.int .i64 lo,.int .i64 hi,.int .i64 n] w .none=.ok (.ret v) w' .none∧v=.int .i64 (withI lo hi n):=by
 refine call_wp text20 (by simp) (ho _ _) ?_
 have w1:IntKind.wrap .i64 (hi - lo)=hi - lo:=wrap64_in (by omega) (by omega)
 have w2:IntKind.wrap .i64 (hi - lo + 1)=hi - lo + 1:=wrap64_in (by omega) (by omega)
 have r42:=rule6 h42 n (s:=hi - lo + 1) (by omega)
 have hbd : -1≤wrapI n (hi - lo + 1)∧wrapI n (hi - lo + 1)≤200001:=by
  by_cases h:1≤hi - lo + 1
  ·have:=wrapI_bd (n:=n) h; omega
  ·unfold wrapI; rw [if_pos (by omega)]; omega
 have w3:IntKind.wrap .i64 (lo + wrapI n (hi - lo + 1))=lo + wrapI n (hi - lo + 1):=wrap64_in (by omega) (by omega)
 simp [mc20,w1,w2,r42,w3,tupV,withI]
variable {fm:Nat}
theorem rule21m {ov:Ov} (k:HasP ov 21 F21) {v:Value} {L:List Int} (i:Int) {w:AW} (hv:RowsV intC w v L) (hs:L.length≤2 ^ 60):(run Tryz.prog ov (fm + 1)).call 21 [v,.int .i64 i] w .none=.ok (.ret (.int .i64 (nthI L i))) w .none:=k.call (by
 unfold F21
 simp only [hv.rowsIn (m:=1) intC_length intC_inj,Option.bind_some,decide_eq_true hs]; rfl)
theorem rule20g {ov:Ov} (k:HasP ov 20 F20) {lo hi:Int} (n:Int) (h1:0≤lo∧lo≤100000) (h2:0≤hi∧hi≤100000) (w:AW):(run Tryz.prog ov (fm + 1)).call 20 [.int .i64 lo,.int .i64 hi,.int .i64 n] w .none=.ok (.ret (.int .i64 (withI lo hi n))) w .none:=k.call (by simp [F20,inI,h1,h2])
theorem isList23:isList Tryz.prog 23=true:=by kernel_rfl
theorem elem23:elemA Tryz.prog 23=some 3:=by kernel_rfl
theorem sz3:szOf Tryz.prog 3=some 1:=by kernel_rfl
theorem small3:smallT Tryz.prog 3=true:=by kernel_rfl
def AccI (n1:Nat) (w:AW) (v:Value) (acc:List Int) (B:Nat):Prop:=(acc=[]∧v=.slice none 0 0∧B=0)∨(v=.slice (some ⟨B,0,none⟩) acc.length acc.length∧w.heap.get B=some (.cells (acc.flatMap intC) 3 false)∧n1 < B∧B < w.next)
theorem AccI.lt {n1:Nat} {w:AW} {v:Value} {acc:List Int} {B:Nat} (h:AccI n1 w v acc B) (hn:0 < w.next):B < w.next:=by
 rcases h with ⟨_,_,rfl⟩ | ⟨_,_,_,h⟩
 ·exact hn
 ·exact h
theorem int_push {n1:Nat} {w:AW} {v:Value} {acc:List Int} {B:Nat} (h:AccI n1 w v acc B) (hl:w.lim≤n1) (hn:n1 < w.next) (hlen:acc.length≤90000) (z:Int) :
  ∃ v' w' B',append1 Tryz.prog ⟨w.heap.put w.next (some (.cells [.int .i64 z] 3 false)),w.next + 1,w.lim⟩ [23,23] [v,.slice (some ⟨w.next,0,some 2⟩) 1 1]=.val v' w'∧AccI n1 w' v' (acc++[z]) B'∧(∀ x,x < w.next→(x=B→B=0)→w'.heap.get x=w.heap.get x)∧w.next≤B'∧w.next≤w'.next∧w'.lim=w.lim:=by
 have hsrc:srcCells ⟨w.heap.put w.next (some (.cells [.int .i64 z] 3 false)),w.next + 1,w.lim⟩ 1 (.slice (some ⟨w.next,0,some 2⟩) 1 1)=some [.int .i64 z]:=src_row (e':=3) (ro:=false) (k:=1) (by simp) (by simp) (by decide) (by decide)
 rcases h with ⟨rfl,rfl,rfl⟩ | ⟨rfl,hB,h1,h2⟩
 ·refine ⟨_,_,w.next + 1,append_nil isList23 elem23 sz3 small3 (m:=1) rfl hsrc (by simp) (by decide) (by decide),.inr ⟨rfl,?_,?_,?_⟩,fun x hx _=>?_,by omega,?_,rfl⟩
  ·simp [intC]
  ·omega
  ·exact Nat.lt_succ_self _
  ·show ((w.heap.put w.next _).put (w.next + 1) _).get x=_
   rw [get_put,if_neg (by omega),get_put,if_neg (by omega)]
  ·show w.next≤w.next + 1 + 1; omega
 ·have hB':(w.heap.put w.next (some (.cells [.int .i64 z] 3 false))).get B=some (.cells (acc.flatMap intC) 3 false):=by rw [get_put,if_neg (by omega)]; exact hB
  refine ⟨_,_,w.next + 1,append_full isList23 elem23 sz3 small3 (n:=acc.length) (m:=1) (c:=acc.flatMap intC) rfl hsrc (by simp) (by simp) (by decide) (by omega) hB' (flat_length intC_length acc) (by show w.lim≤B; omega),.inr ⟨?_,?_,?_,?_⟩,fun x hx hxB=>?_,by omega,?_,rfl⟩
  ·simp
  ·show (((w.heap.put w.next _).put B none).put (w.next + 1) _).get (w.next + 1)=_
   rw [get_put,if_pos rfl]; simp [intC]
  ·omega
  ·exact Nat.lt_succ_self _
  ·have:¬ x=B:=fun e=>by have:=hxB e; omega
   show (((w.heap.put w.next _).put B none).put (w.next + 1) _).get x=_
   rw [get_put,if_neg (by omega),get_put,if_neg this,get_put,if_neg (by omega)]
  ·show w.next≤w.next + 1 + 1; omega
end Go.Proofs.YtijlaopbnigkaaaGreatDoor.walk
namespace Go.Proofs.YtijlaopbnigkaaaGreatDoor.walk
open Go Go.Sh
set_option maxRecDepth 100000
variable {fm:Nat}
def pk (f:Nat→Pod→Int) (l:List Pod):Nat→List Int
 | 0=>[]
 | i + 1=>pk f l i++[match l[i]? with | some p=>f i p | none=>0]
theorem pk_length (f:Nat→Pod→Int) (l:List Pod):∀ n,(pk f l n).length=n
 | 0=>rfl
 | n + 1=>by simp [pk,pk_length f l n]
theorem pk_at (f:Nat→Pod→Int) (l:List Pod) {i:Nat} {p:Pod} (hp:l[i]?=some p):∀ n,i < n→(pk f l n)[i]?=some (f i p)
 | 0,h=>by omega
 | n + 1,h=>by
  show (pk f l n++_)[i]?=_
  by_cases e:i < n
  ·rw [List.getElem?_append_left (by rw [pk_length]; exact e),pk_at f l hp n e]
  ·have e':i=n:=by omega
   rw [List.getElem?_append_right (by rw [pk_length]; omega),pk_length,e',Nat.sub_self]
   subst e'
   simp [hp]
theorem pk_succ (f:Nat→Pod→Int) (l:List Pod) {i:Nat} {p:Pod} (hp:l[i]?=some p):pk f l i++[f i p]=pk f l (i + 1):=by
 show _=pk f l i++_
 rw [hp]
def fR (bits:List Int) (i:Nat) (p:Pod):Int:=withI p.rl p.rh (nthI bits (3 * (i:Int)))
def fH (bits:List Int) (i:Nat) (p:Pod):Int:=withI p.hl p.hh (nthI bits (3 * (i:Int) + 1))
def fG (bits:List Int) (i:Nat) (p:Pod):Int:=withI p.gl p.gh (nthI bits (3 * (i:Int) + 2))
theorem AccI.rows {n1:Nat} {w w':AW} {v:Value} {acc:List Int} {B:Nat} (h:AccI n1 w v acc B) (k:∀ x,n1 < x→x < w.next→w'.heap.get x=w.heap.get x) (hn:w.next≤w'.next):RowsV intC w' v acc:=by
 rcases h with ⟨h1,h2,_⟩ | ⟨h1,h2,h3,h4⟩
 ·exact .inl ⟨h1,_,_,h2⟩
 ·exact .inr ⟨B,0,none,_,h1,⟨[],[],3,false,by rw [k B h3 h4,h2]; simp,rfl⟩,by omega⟩
end Go.Proofs.YtijlaopbnigkaaaGreatDoor.walk
namespace Go.Proofs.YtijlaopbnigkaaaGreatDoor.walk
open Go Go.Sh
set_option maxRecDepth 100000
variable {fm:Nat}
noncomputable def mc7_p0:MC:=.seq (.ops [⟨true,none,some 18,0,.fieldAddr 42 (.tmp 5) 0⟩]) (.seq (.ops [⟨true,none,some 19,23,.load 23 (.tmp 18)⟩]) (.seq (.ops [⟨true,none,some 20,0,.fieldAddr 45 (.tmp 7) 2⟩]) (.seq (.ops [⟨true,none,some 21,0,.fieldAddr 27 (.tmp 20) 0⟩]) (.seq (.ops [⟨true,none,some 22,3,.load 3 (.tmp 21)⟩]) (.seq (.ops [⟨true,none,some 23,0,.fieldAddr 45 (.tmp 7) 2⟩]) (.seq (.ops [⟨true,none,some 24,0,.fieldAddr 27 (.tmp 23) 1⟩]) (.seq (.ops [⟨true,none,some 25,3,.load 3 (.tmp 24)⟩]) (.seq (.ops [⟨true,none,some 26,23,.move (.tmp 1)⟩]) (.seq (.ops [⟨true,none,some 27,3,.move (.tmp 6)⟩]) (.seq (.ops [⟨true,none,some 28,3,.binOp .mul 3 (.const (.int .i64 3)) (.tmp 27) 3⟩]) (.seq (.ops [⟨true,none,some 33,0,.fieldAddr 42 (.tmp 5) 1⟩]) (.seq (.ops [⟨true,none,some 34,23,.load 23 (.tmp 33)⟩]) (.seq (.ops [⟨true,none,some 35,0,.fieldAddr 45 (.tmp 7) 3⟩]) (.seq (.ops [⟨true,none,some 36,0,.fieldAddr 27 (.tmp 35) 0⟩]) (.seq (.ops [⟨true,none,some 37,3,.load 3 (.tmp 36)⟩]) (.seq (.ops [⟨true,none,some 38,0,.fieldAddr 45 (.tmp 7) 3⟩]) (.seq (.ops [⟨true,none,some 39,0,.fieldAddr 27 (.tmp 38) 1⟩]) (.seq (.ops [⟨true,none,some 40,3,.load 3 (.tmp 39)⟩]) (.seq (.ops [⟨true,none,some 41,23,.move (.tmp 1)⟩]) (.seq (.ops [⟨true,none,some 42,3,.move (.tmp 6)⟩]) (.seq (.ops [⟨true,none,some 43,3,.binOp .mul 3 (.const (.int .i64 3)) (.tmp 42) 3⟩]) (.seq (.ops [⟨true,none,some 44,3,.binOp .add 3 (.tmp 43) (.const (.int .i64 1)) 3⟩]) (.seq (.ops [⟨false,none,some 29,3,.call ⟨.value (.func 21),#[.tmp 26,.tmp 28],#[23,3]⟩⟩]) (.seq (.chk [⟨true,none,some 40,3,.load 3 (.tmp 39)⟩,⟨true,none,some 37,3,.load 3 (.tmp 36)⟩,⟨true,none,some 34,23,.load 23 (.tmp 33)⟩,⟨true,none,some 25,3,.load 3 (.tmp 24)⟩,⟨true,none,some 22,3,.load 3 (.tmp 21)⟩,⟨true,none,some 19,23,.load 23 (.tmp 18)⟩]) (.seq (.ops [⟨false,none,some 30,3,.call ⟨.value (.func 20),#[.tmp 22,.tmp 25,.tmp 29],#[3,3,3]⟩⟩]) (.seq (.ops [⟨true,none,some 31,23,.buildSlice 23 1 #[(0,.tmp 30)]⟩]) (.seq (.chk [⟨true,none,some 40,3,.load 3 (.tmp 39)⟩,⟨true,none,some 37,3,.load 3 (.tmp 36)⟩,⟨true,none,some 34,23,.load 23 (.tmp 33)⟩,⟨true,none,some 19,23,.load 23 (.tmp 18)⟩]) (.seq (.ops [⟨false,none,some 32,23,.call ⟨.builtin .append,#[.tmp 19,.tmp 31],#[23,23]⟩⟩]) (.seq (.ops [⟨true,none,some 49,0,.fieldAddr 42 (.tmp 5) 0⟩]) (.seq (.chk [⟨true,none,some 40,3,.load 3 (.tmp 39)⟩,⟨true,none,some 37,3,.load 3 (.tmp 36)⟩,⟨true,none,some 34,23,.load 23 (.tmp 33)⟩]) (.seq (.ops [⟨false,none,some 45,3,.call ⟨.value (.func 21),#[.tmp 41,.tmp 44],#[23,3]⟩⟩]) (.seq (.chk [⟨true,none,some 40,3,.load 3 (.tmp 39)⟩,⟨true,none,some 37,3,.load 3 (.tmp 36)⟩,⟨true,none,some 34,23,.load 23 (.tmp 33)⟩]) (.seq (.ops [⟨false,none,some 46,3,.call ⟨.value (.func 20),#[.tmp 37,.tmp 40,.tmp 45],#[3,3,3]⟩⟩]) (.seq (.ops [⟨true,none,some 47,23,.buildSlice 23 1 #[(0,.tmp 46)]⟩]) (.seq (.chk [⟨true,none,some 34,23,.load 23 (.tmp 33)⟩]) (.seq (.ops [⟨false,none,some 48,23,.call ⟨.builtin .append,#[.tmp 34,.tmp 47],#[23,23]⟩⟩]) (.seq (.ops [⟨false,none,none,0,.store 23 (.tmp 49) (.tmp 32)⟩]) (.seq (.ops [⟨true,none,some 50,0,.fieldAddr 42 (.tmp 5) 1⟩]) (.seq (.ops [⟨false,none,none,0,.store 23 (.tmp 50) (.tmp 48)⟩]) (.chk []))))))))))))))))))))))))))))))))))))))))
noncomputable def mc7_p1:MC:=.seq (.ops [⟨true,none,some 51,0,.fieldAddr 42 (.tmp 5) 2⟩]) (.seq (.ops [⟨true,none,some 52,23,.load 23 (.tmp 51)⟩]) (.seq (.ops [⟨true,none,some 53,0,.fieldAddr 45 (.tmp 7) 4⟩]) (.seq (.ops [⟨true,none,some 54,0,.fieldAddr 27 (.tmp 53) 0⟩]) (.seq (.ops [⟨true,none,some 55,3,.load 3 (.tmp 54)⟩]) (.seq (.ops [⟨true,none,some 56,0,.fieldAddr 45 (.tmp 7) 4⟩]) (.seq (.ops [⟨true,none,some 57,0,.fieldAddr 27 (.tmp 56) 1⟩]) (.seq (.ops [⟨true,none,some 58,3,.load 3 (.tmp 57)⟩]) (.seq (.ops [⟨true,none,some 59,23,.move (.tmp 1)⟩]) (.seq (.ops [⟨true,none,some 60,3,.move (.tmp 6)⟩]) (.seq (.ops [⟨true,none,some 61,3,.binOp .mul 3 (.const (.int .i64 3)) (.tmp 60) 3⟩]) (.seq (.ops [⟨true,none,some 62,3,.binOp .add 3 (.tmp 61) (.const (.int .i64 2)) 3⟩]) (.seq (.ops [⟨false,none,some 63,3,.call ⟨.value (.func 21),#[.tmp 59,.tmp 62],#[23,3]⟩⟩]) (.seq (.chk [⟨true,none,some 58,3,.load 3 (.tmp 57)⟩,⟨true,none,some 55,3,.load 3 (.tmp 54)⟩,⟨true,none,some 52,23,.load 23 (.tmp 51)⟩]) (.seq (.ops [⟨false,none,some 64,3,.call ⟨.value (.func 20),#[.tmp 55,.tmp 58,.tmp 63],#[3,3,3]⟩⟩]) (.seq (.ops [⟨true,none,some 65,23,.buildSlice 23 1 #[(0,.tmp 64)]⟩]) (.seq (.chk [⟨true,none,some 52,23,.load 23 (.tmp 51)⟩]) (.seq (.ops [⟨false,none,some 66,23,.call ⟨.builtin .append,#[.tmp 52,.tmp 65],#[23,23]⟩⟩]) (.seq (.ops [⟨true,none,some 67,0,.fieldAddr 42 (.tmp 5) 2⟩]) (.seq (.ops [⟨false,none,none,0,.store 23 (.tmp 67) (.tmp 66)⟩]) (.chk []))))))))))))))))))))
theorem mc7_eq:mc7_l0=.seq (.seq (.ops [⟨false,none,some 8,3,.move (.tmp 6)⟩,⟨false,none,some 9,22,.move (.tmp 0)⟩,⟨false,none,some 10,3,.call ⟨.builtin .len,#[.tmp 9],#[22]⟩⟩,⟨false,none,some 11,4,.binOp .lss 3 (.tmp 8) (.tmp 10) 3⟩]) (.cond (.tmp 11) (.skip) (.exit 0))) (.seq (.block 1 (.seq (.ops [⟨false,none,some 14,22,.move (.tmp 0)⟩,⟨false,none,some 15,3,.move (.tmp 6)⟩,⟨false,none,some 16,0,.indexAddr 22 (.tmp 14) (.tmp 15)⟩,⟨false,none,some 17,45,.load 45 (.tmp 16)⟩,⟨false,none,some 7,0,.alloc 45⟩,⟨false,none,none,0,.store 45 (.tmp 7) (.tmp 17)⟩]) (.seq mc7_p0 mc7_p1))) (.ops [⟨false,none,some 12,3,.move (.tmp 6)⟩,⟨false,none,some 13,3,.binOp .add 3 (.tmp 12) (.const (.int .i64 1)) 3⟩,⟨false,none,some 6,3,.assign (.tmp 13)⟩])):=rfl
theorem AccI.keep {n1:Nat} {w w':AW} {v:Value} {acc:List Int} {B B0:Nat} (h:AccI n1 w v acc B) (k:∀ x,x < w.next→(x=B0→B0=0)→n1 < x→w'.heap.get x=w.heap.get x) (hn:w.next≤w'.next) (hs:B=B0→B=0):AccI n1 w' v acc B:=by
 rcases h with h | ⟨h1,h2,h3,h4⟩
 ·exact .inl h
 ·refine .inr ⟨h1,?_,h3,by omega⟩
  rw [k B h4 (fun e=>by have:=hs e; omega) h3,h2]
theorem AccI.same {n1:Nat} {w:AW} {v:Value} {acc:List Int} {B:Nat} (h:AccI n1 w v acc B):sameVal 5 v v=true:=by
 rcases h with ⟨_,rfl,_⟩ | ⟨rfl,_⟩
 ·exact sameN_slice 4 _ _ _
 ·exact sameN_slice 4 _ _ _
theorem AccI.full {n1:Nat} {w:AW} {v:Value} {acc:List Int} {B:Nat} (h:AccI n1 w v acc B):∃ a n,v=.slice a n n:=by
 rcases h with ⟨_,rfl,_⟩ | ⟨rfl,_⟩
 ·exact ⟨_,_,rfl⟩
 ·exact ⟨_,_,rfl⟩
structure In7 (w0:AW) (vr vh vg:Value) (R H G:List Int) (Br Bh Bg:Nat) (w:AW):Prop where
 old:Old w0.next w0.heap w.heap
 res:w.heap.get w0.next=some (.cells [.slice none 0 0,.slice none 0 0,.slice none 0 0] 42 false)
 box:w.heap.get (w0.next + 1)=some (.cells [vr,vh,vg] 42 false)
 ar:AccI (w0.next + 1) w vr R Br
 ah:AccI (w0.next + 1) w vh H Bh
 ag:AccI (w0.next + 1) w vg G Bg
 rh:Br=Bh→Br=0
 rg:Br=Bg→Br=0
 hg:Bh=Bg→Bh=0
 next:w0.next + 1 < w.next
 lim:w.lim=w0.lim
structure Pd16 (n pb:Nat) (p:Pod) (Br Bh Bg:Nat) (w:AW):Prop where
 pod:w.heap.get pb=some (.cells (podC p) 45 false)
 lo:n + 1 < pb
 hi:pb < w.next
 sr:¬ pb=Br
 sh:¬ pb=Bh
 sg:¬ pb=Bg
set_option maxHeartbeats 2000000 in
theorem part16_0 {ov:Ov} (h41:HasP ov 21 F21) (h38:HasP ov 20 F20) (bv vl:Value) (bits:List Int) (w0:AW) (hl0:w0.lim≤w0.next) (hb:RowsV intC w0 bv bits) (hbl:bits.length≤2 ^ 60) (p:Pod) (hp:podB p=true) (i:Nat) (hi:i≤1000) (pb:Nat)
  (vr vh vg:Value) (R H G:List Int) (hR:R.length≤1000) (hH:H.length≤1000) (Br Bh Bg:Nat) (Q:Ex→Tm→AW→Prop) (t:Tm) (w:AW) (hw:In7 w0 vr vh vg R H G Br Bh Bg w) (hpd:Pd16 w0.next pb p Br Bh Bg w)
  (t0:tget t 0=vl) (t1:tget t 1=bv) (t4:tget t 4=.pointer (some ⟨w0.next,0,none⟩)) (t5:tget t 5=.pointer (some ⟨w0.next + 1,0,none⟩)) (t6:tget t 6=.int .i64 (i:Nat)) (t7:tget t 7=.pointer (some ⟨pb,0,none⟩))
  (hQ:∀ t w vr vh Br Bh,In7 w0 vr vh vg (R++[withI p.rl p.rh (nthI bits (3 * i))]) (H++[withI p.hl p.hh (nthI bits (3 * i + 1))]) G Br Bh Bg w→Pd16 w0.next pb p Br Bh Bg w→tget t 0=vl→tget t 1=bv→tget t 4=.pointer (some ⟨w0.next,0,none⟩)→tget t 5=.pointer (some ⟨w0.next + 1,0,none⟩)→tget t 6=.int .i64 (i:Nat)→tget t 7=.pointer (some ⟨pb,0,none⟩)→Q .normal t w) :
  wp (exM Tryz.prog (run Tryz.prog ov (fm + 1)) mc7_p0 t w) Q:=by
 have k:=pod_ok hp
 have kr0:=k.r0; have kr1:=k.r1; have kr2:=k.r2; have kh0:=k.h0; have kh1:=k.h1; have kh2:=k.h2; have kg0:=k.g0; have kg1:=k.g1; have kg2:=k.g2
 have hbox:=hw.box
 have hpod:=hpd.pod
 have lo:=hpd.lo; have hhi:=hpd.hi; have hnx:=hw.next; have hlm:=hw.lim
 have hbw:RowsV intC w bv bits:=hb.old hw.old (by omega)
 have r41:=rule21m (fm:=fm) h41 (3 * (i:Int)) hbw hbl
 have r38:=rule20g (fm:=fm) h38 (lo:=p.rl) (hi:=p.rh) (nthI bits (3 * (i:Int))) (by omega) (by omega) w
 obtain ⟨v',w1,B',ha,hacc,hk,hB',hn1,hl1⟩:=int_push hw.ar (by omega) hw.next (by omega) (withI p.rl p.rh (nthI bits (3 * (i:Int))))
 obtain ⟨n',hv'⟩:∃ n',v'=.slice (some ⟨B',0,none⟩) n' n':=by
  rcases hacc with ⟨h,_⟩ | ⟨h,_⟩
  ·exact absurd h (by simp)
  ·exact ⟨_,h⟩
 subst hv'
 have wm:IntKind.wrap .i64 (3 * (i:Int))=3 * (i:Int):=wrap64_in (by omega) (by omega)
 have wm1:IntKind.wrap .i64 (3 * (i:Int) + 1)=3 * (i:Int) + 1:=wrap64_in (by omega) (by omega)
 have sv:=hw.ar.same
 have svh:=hw.ah.same
 have nb:∀ {v:Value} {L:List Int} {B:Nat} (x:Nat),AccI (w0.next + 1) w v L B→x≤w0.next + 1→x=B→B=0:=fun x h hx e=>by
  rcases h with ⟨_,_,h⟩ | ⟨_,_,h,_⟩
  ·exact h
  ·omega
 have b1:=hw.ar.lt (by omega)
 have b2:=hw.ah.lt (by omega)
 have b3:=hw.ag.lt (by omega)
 have hbox1:w1.heap.get (w0.next + 1)=some (.cells [vr,vh,vg] 42 false):=by rw [hk _ hnx (nb _ hw.ar (Nat.le_refl _))]; exact hbox
 have hpod1:w1.heap.get pb=some (.cells (podC p) 45 false):=by rw [hk _ hhi fun e=>absurd e hpd.sr]; exact hpod
 have hold1:Old w0.next w0.heap w1.heap:=fun b hb=>by rw [hk b (by omega) (nb b hw.ar (by omega)),hw.old b hb]
 have hbw1:RowsV intC w1 bv bits:=hb.old hold1 (by omega)
 have r41':=rule21m (fm:=fm) h41 (3 * (i:Int) + 1) hbw1 hbl
 have r38':=rule20g (fm:=fm) h38 (lo:=p.hl) (hi:=p.hh) (nthI bits (3 * (i:Int) + 1)) (by omega) (by omega) w1
 have ah1:AccI (w0.next + 1) w1 vh H Bh:=hw.ah.keep (B0:=Br) (fun x h1 h2 h3=>hk x h1 h2) (by omega) (fun h=>by have:=hw.rh h.symm; omega)
 obtain ⟨v2,w2,B2,ha2,hacc2,hk2,hB2,hn2,hl2⟩:=int_push ah1 (by omega) (by omega) (by omega) (withI p.hl p.hh (nthI bits (3 * (i:Int) + 1)))
 obtain ⟨n2,hv2⟩:∃ n',v2=.slice (some ⟨B2,0,none⟩) n' n':=by
  rcases hacc2 with ⟨h,_⟩ | ⟨h,_⟩
  ·exact absurd h (by simp)
  ·exact ⟨_,h⟩
 subst hv2
 have b4:=hacc.lt (by omega)
 have b5:=hacc2.lt (by omega)
 have hbox2:w2.heap.get (w0.next + 1)=some (.cells [vr,vh,vg] 42 false):=by rw [hk2 _ (by omega) (nb _ hw.ah (Nat.le_refl _))]; exact hbox1
 have hpod2:w2.heap.get pb=some (.cells (podC p) 45 false):=by rw [hk2 _ (by omega) fun e=>absurd e hpd.sh]; exact hpod1
 have m1:¬ w0.next + 1=w.next:=by omega
 have m2:¬ pb=w.next:=by omega
 have m3:¬ w0.next + 1=w1.next:=by omega
 have m4:¬ pb=w1.next:=by omega
 have l1:w2.lim≤w0.next + 1:=by omega
 have c2:∀ h,(podC p)[2]'h=.int .i64 p.rl:=fun _=>rfl
 have c3:∀ h,(podC p)[3]'h=.int .i64 p.rh:=fun _=>rfl
 have c4:∀ h,(podC p)[4]'h=.int .i64 p.hl:=fun _=>rfl
 have c5:∀ h,(podC p)[5]'h=.int .i64 p.hh:=fun _=>rfl
 simp [mc7_p0,t1,t5,t6,t7,hbox,hpod,c2,c3,c4,c5,wm,wm1,r41,r38,r41',r38',m1,m2,m3,m4,sv,svh,ha,ha2,hbox1,hpod1,hbox2,l1,sameN_int]
 refine hQ _ _ (.slice (some ⟨B',0,none⟩) n' n') (.slice (some ⟨B2,0,none⟩) n2 n2) B' B2 ⟨fun b hb=>?_,?_,?_,?_,?_,?_,?_,?_,?_,?_,?_⟩ ⟨?_,lo,?_,?_,?_,hpd.sg⟩ ?_ ?_ ?_ ?_ ?_ ?_
 ·have q:¬ b=w0.next + 1:=by omega
  simp [q]
  rw [hk2 b (by omega) (nb b hw.ah (by omega)),hold1 b hb]
 ·simp
  rw [hk2 _ (by omega) (nb _ hw.ah (by omega)),hk _ (by omega) (nb _ hw.ar (by omega))]
  exact hw.res
 ·simp
 ·exact hacc.keep (B0:=Bh) (fun x h1 h2 h3=>by simp [show ¬ x=w0.next + 1 by omega]; exact hk2 x h1 h2) (by show w1.next≤w2.next; omega) (fun h=>by omega)
 ·exact hacc2.keep (B0:=0) (fun x _ _ h=>by simp [show ¬ x=w0.next + 1 by omega]) (Nat.le_refl _) (fun h=>h)
 ·exact (hw.ag.keep (w':=w1) (B0:=Br) (fun x h1 h2 h3=>hk x h1 h2) (by omega) (fun h=>by have:=hw.rg h.symm; omega)).keep (B0:=Bh) (fun x h1 h2 h3=>by simp [show ¬ x=w0.next + 1 by omega]; exact hk2 x h1 h2) (by show w1.next≤w2.next; omega) (fun h=>by have:=hw.hg h.symm; omega)
 ·intro h; omega
 ·intro h; omega
 ·intro h; omega
 ·show w0.next + 1 < w2.next; omega
 ·show w2.lim=w0.lim; omega
 ·simp [show ¬ pb=w0.next + 1 by omega,hpod2]
 ·show pb < w2.next; omega
 ·omega
 ·omega
 ·simp [t0]
 ·simp [t1]
 ·simp [t4]
 ·simp [t5]
 ·simp [t6]
 ·simp [t7]
set_option maxHeartbeats 1000000 in
theorem part16_1 {ov:Ov} (h41:HasP ov 21 F21) (h38:HasP ov 20 F20) (bv vl:Value) (bits:List Int) (w0:AW) (hl0:w0.lim≤w0.next) (hb:RowsV intC w0 bv bits) (hbl:bits.length≤2 ^ 60) (p:Pod) (hp:podB p=true) (i:Nat) (hi:i≤1000) (pb:Nat)
  (vr vh vg:Value) (R H G:List Int) (hG:G.length≤1000) (Br Bh Bg:Nat) (Q:Ex→Tm→AW→Prop) (t:Tm) (w:AW) (hw:In7 w0 vr vh vg R H G Br Bh Bg w) (hpd:Pd16 w0.next pb p Br Bh Bg w)
  (t0:tget t 0=vl) (t1:tget t 1=bv) (t4:tget t 4=.pointer (some ⟨w0.next,0,none⟩)) (t5:tget t 5=.pointer (some ⟨w0.next + 1,0,none⟩)) (t6:tget t 6=.int .i64 (i:Nat)) (t7:tget t 7=.pointer (some ⟨pb,0,none⟩))
  (hQ:∀ t w vg Bg,In7 w0 vr vh vg R H (G++[withI p.gl p.gh (nthI bits (3 * i + 2))]) Br Bh Bg w→Pd16 w0.next pb p Br Bh Bg w→tget t 0=vl→tget t 1=bv→tget t 4=.pointer (some ⟨w0.next,0,none⟩)→tget t 5=.pointer (some ⟨w0.next + 1,0,none⟩)→tget t 6=.int .i64 (i:Nat)→tget t 7=.pointer (some ⟨pb,0,none⟩)→Q .normal t w) :
  wp (exM Tryz.prog (run Tryz.prog ov (fm + 1)) mc7_p1 t w) Q:=by
 have k:=pod_ok hp
 have kr0:=k.r0; have kr1:=k.r1; have kr2:=k.r2; have kh0:=k.h0; have kh1:=k.h1; have kh2:=k.h2; have kg0:=k.g0; have kg1:=k.g1; have kg2:=k.g2
 have hbox:=hw.box
 have hpod:=hpd.pod
 have lo:=hpd.lo; have hhi:=hpd.hi; have hnx:=hw.next; have hlm:=hw.lim
 have hbw:RowsV intC w bv bits:=hb.old hw.old (by omega)
 have r41:=rule21m (fm:=fm) h41 (3 * (i:Int) + 2) hbw hbl
 have r38:=rule20g (fm:=fm) h38 (lo:=p.gl) (hi:=p.gh) (nthI bits (3 * (i:Int) + 2)) (by omega) (by omega) w
 obtain ⟨v',w1,B',ha,hacc,hk,hB',hn1,hl1⟩:=int_push hw.ag (by omega) hw.next (by omega) (withI p.gl p.gh (nthI bits (3 * (i:Int) + 2)))
 obtain ⟨n',hv'⟩:∃ n',v'=.slice (some ⟨B',0,none⟩) n' n':=by
  rcases hacc with ⟨h,_⟩ | ⟨h,_⟩
  ·exact absurd h (by simp)
  ·exact ⟨_,h⟩
 subst hv'
 have wm:IntKind.wrap .i64 (3 * (i:Int))=3 * (i:Int):=wrap64_in (by omega) (by omega)
 have wm2:IntKind.wrap .i64 (3 * (i:Int) + 2)=3 * (i:Int) + 2:=wrap64_in (by omega) (by omega)
 have sv:=hw.ag.same
 have hbr:w0.next + 1=Bg→Bg=0:=fun e=>by
  rcases hw.ag with ⟨_,_,h⟩ | ⟨_,_,h,_⟩
  ·exact h
  ·omega
 have hbr0:w0.next=Bg→Bg=0:=fun e=>by
  rcases hw.ag with ⟨_,_,h⟩ | ⟨_,_,h,_⟩
  ·exact h
  ·omega
 have hbox1:w1.heap.get (w0.next + 1)=some (.cells [vr,vh,vg] 42 false):=by rw [hk _ hnx hbr]; exact hbox
 have hpod1:w1.heap.get pb=some (.cells (podC p) 45 false):=by rw [hk _ hhi fun e=>absurd e hpd.sg]; exact hpod
 have m1:¬ w0.next + 1=w.next:=by omega
 have m2:¬ pb=w.next:=by omega
 have l1:w1.lim≤w0.next + 1:=by omega
 have c2:∀ h,(podC p)[6]'h=.int .i64 p.gl:=fun _=>rfl
 have c3:∀ h,(podC p)[7]'h=.int .i64 p.gh:=fun _=>rfl
 simp [mc7_p1,t1,t5,t6,t7,hbox,hpod,c2,c3,wm,wm2,r41,r38,m1,m2,sv,ha,hbox1,l1,sameN_int]
 refine hQ _ _ (.slice (some ⟨B',0,none⟩) n' n') B' ⟨fun b hb=>?_,?_,?_,?_,?_,?_,hw.rh,?_,?_,?_,?_⟩ ⟨?_,lo,?_,hpd.sr,hpd.sh,?_⟩ ?_ ?_ ?_ ?_ ?_ ?_
 ·have q:¬ b=w0.next + 1:=by omega
  rw [get_put,if_neg q,hk b (by omega) fun e=>?_,hw.old b hb]
  rcases hw.ag with ⟨_,_,h⟩ | ⟨_,_,h,_⟩
  ·exact h
  ·omega
 ·simp [hk _ (show w0.next < w.next by omega) hbr0,hw.res]
 ·simp
 ·exact hw.ar.keep (B0:=Bg) (fun x h1 h2 h3=>by simp [show ¬ x=w0.next + 1 by omega,hk x h1 h2]) hn1 (fun h=>by have:=hw.rg h; omega)
 ·exact hw.ah.keep (B0:=Bg) (fun x h1 h2 h3=>by simp [show ¬ x=w0.next + 1 by omega,hk x h1 h2]) hn1 (fun h=>by have:=hw.hg h; omega)
 ·exact hacc.keep (B0:=0) (fun x _ _ h=>by simp [show ¬ x=w0.next + 1 by omega]) (Nat.le_refl _) (fun h=>h)
 ·intro h; have:=hw.ar.lt (by omega); omega
 ·intro h; have:=hw.ah.lt (by omega); omega
 ·show w0.next + 1 < w1.next; omega
 ·show w1.lim=w0.lim; omega
 ·simp [show ¬ pb=w0.next + 1 by omega,hpod1]
 ·show pb < w1.next; omega
 ·omega
 ·simp [t0]
 ·simp [t1]
 ·simp [t4]
 ·simp [t5]
 ·simp [t6]
 ·simp [t7]
theorem In7.grow {w0 w w':AW} {vr vh vg:Value} {R H G:List Int} {Br Bh Bg:Nat} (h:In7 w0 vr vh vg R H G Br Bh Bg w) (k:∀ x,x < w.next→w'.heap.get x=w.heap.get x) (hn:w.next≤w'.next) (hl:w'.lim=w.lim):In7 w0 vr vh vg R H G Br Bh Bg w':=by
 have hx:=h.next
 exact ⟨fun b hb=>by rw [k b (by omega),h.old b hb],by rw [k _ (by omega)]; exact h.res,by rw [k _ hx]; exact h.box,h.ar.keep (B0:=0) (fun x a _ _=>k x a) hn fun e=>e,h.ah.keep (B0:=0) (fun x a _ _=>k x a) hn fun e=>e,h.ag.keep (B0:=0) (fun x a _ _=>k x a) hn fun e=>e,h.rh,h.rg,h.hg,by omega,by rw [hl]; exact h.lim⟩
theorem loop7 {ov:Ov} (h41:HasP ov 21 F21) (h38:HasP ov 20 F20) (bv v:Value) (bits:List Int) (l:List Pod) (w0:AW) (hl0:w0.lim≤w0.next) (hv:PodsV w0 v l) (hb:RowsV intC w0 bv bits) (hbl:bits.length≤2 ^ 60) (hB:podsB l=true)
  (Q:Ex→Tm→AW→Prop) (t:Tm) (w:AW) (hw:In7 w0 (.slice none 0 0) (.slice none 0 0) (.slice none 0 0) [] [] [] 0 0 0 w)
  (t0:tget t 0=v) (t1:tget t 1=bv) (t4:tget t 4=.pointer (some ⟨w0.next,0,none⟩)) (t5:tget t 5=.pointer (some ⟨w0.next + 1,0,none⟩)) (t6:tget t 6=.int .i64 0)
  (hQ:∀ t w vr vh vg Br Bh Bg,In7 w0 vr vh vg (pk (fR bits) l l.length) (pk (fH bits) l l.length) (pk (fG bits) l l.length) Br Bh Bg w→tget t 4=.pointer (some ⟨w0.next,0,none⟩)→tget t 5=.pointer (some ⟨w0.next + 1,0,none⟩)→Q (.exit 0) t w) :
  wp (exM Tryz.prog (run Tryz.prog ov (fm + 1)) (.loop mc7_l0) t w) Q:=by
 have hlen:=podsB_len hB
 refine wp_rounds (fun i t w=>(∃ vr vh vg Br Bh Bg,In7 w0 vr vh vg (pk (fR bits) l i) (pk (fH bits) l i) (pk (fG bits) l i) Br Bh Bg w)∧tget t 0=v∧tget t 1=bv∧tget t 4=.pointer (some ⟨w0.next,0,none⟩)∧tget t 5=.pointer (some ⟨w0.next + 1,0,none⟩)∧tget t 6=.int .i64 (i:Nat)∧i≤l.length) 200 (by decide)
  ⟨⟨_,_,_,_,_,_,hw⟩,t0,t1,t4,t5,by simpa using t6,Nat.zero_le _⟩ ?_
 clear t0 t1 t4 t5 t6 hw
 rintro i t w ⟨⟨vr,vh,vg,Br,Bh,Bg,hw⟩,t0,t1,t4,t5,t6,hi⟩
 have hln:=fun w=>len22V hv w
 by_cases hlt:i < l.length
 ·obtain ⟨p,hp⟩:∃ p,l[i]?=some p:=⟨_,List.getElem?_eq_getElem hlt⟩
  obtain ⟨b,sq,c,rfl,hpa⟩:=hv.at_ i hlt
  have hpb:=pods_all hB hp
  have hld:=load_pod' hpa hp
  rw [← hw.old _ hpa.lt] at hld
  have n2:=hw.next
  have hlim:=hw.lim
  have hl1:w.lim≤w.next:=by omega
  have m0:¬ b=w.next:=by have:=hpa.lt; omega
  have hia:=fun w=>ia22 w ⟨b,0,sq⟩ l.length c .i64 i hlt
  have hw1:IntKind.wrap .i64 ((i:Int) + 1)=(i:Int) + 1:=wrap64_in (by omega) (by omega)
  have hgr:∀ z:AObj,∀ x,x < w.next→((w.heap.put w.next (some z)).put w.next (some (.cells (podC p) 45 false))).get x=w.heap.get x:=fun z x hx=>by rw [get_put,if_neg (by omega),get_put,if_neg (by omega)]
  have e1:=pk_succ (fR bits) l hp
  have e2:=pk_succ (fH bits) l hp
  have e3:=pk_succ (fG bits) l hp
  have b1:=hw.ar.lt (by omega)
  have b2:=hw.ah.lt (by omega)
  have b3:=hw.ag.lt (by omega)
  simp [mc7_eq,t0,t1,t4,t5,t6,hlt,hia,hld,hl1,m0,cellsOf_agg]
  refine wp_seqX (wp_blockX (wp_seqX (part16_0 h41 h38 bv (.slice (some ⟨b,0,sq⟩) l.length c) bits w0 hl0 hb hbl p hpb i (by omega) w.next vr vh vg _ _ _ (by rw [pk_length]; omega) (by rw [pk_length]; omega) Br Bh Bg _ _ _ (hw.grow ?_ ?_ ?_) ⟨?_,?_,?_,?_,?_,?_⟩ ?_ ?_ ?_ ?_ ?_ ?_ ?_)))
  ·exact hgr _
  ·exact Nat.le_succ _
  ·rfl
  ·simp
  ·omega
  ·exact Nat.lt_succ_self _
  ·omega
  ·omega
  ·omega
  ·simp [t0]
  ·simp [t1]
  ·simp [t4]
  ·simp [t5]
  ·simp [t6]
  ·simp
  ·clear vr Br vh Bh hw b1 b2 b3
   intro t w1 vr vh Br Bh hw hpd t0 t1 t4 t5 t6 t7
   refine part16_1 h41 h38 bv (.slice (some ⟨b,0,sq⟩) l.length c) bits w0 hl0 hb hbl p hpb i (by omega) w.next vr vh vg _ _ _ (by rw [pk_length]; omega) Br Bh Bg _ _ _ hw hpd t0 t1 t4 t5 t6 t7 ?_
   clear vg Bg hw hpd t0 t1 t4 t5 t6 t7 t
   intro t w3 vg Bg hw hpd t0 t1 t4 t5 t6 t7
   have hw':In7 w0 vr vh vg (pk (fR bits) l (i + 1)) (pk (fH bits) l (i + 1)) (pk (fG bits) l (i + 1)) Br Bh Bg w3:=by rw [← e1,← e2,← e3]; exact hw
   simp [t0,t1,t4,t5,t6,t7,hw1]
   exact ⟨by omega,⟨_,_,_,_,_,_,hw'⟩,by omega⟩
 ·have hi':i=l.length:=by omega
  subst hi'
  simp [mc7_eq,t0,t1,t4,t5,t6,hln]
  exact hQ _ _ _ _ _ _ _ _ hw (by simp [t4]) (by simp [t5])
theorem AccI.rowsG {n1:Nat} {w w':AW} {v:Value} {acc:List Int} {B:Nat} (h:AccI n1 w v acc B) (k:∀ x,n1 < x→x < w.next→w'.heap.get x=w.heap.get x) (hn:w.next≤w'.next):RowsV intC w' v acc:=by
 rcases h with ⟨h1,h2,_⟩ | ⟨h1,h2,h3,h4⟩
 ·exact .inl ⟨h1,_,_,h2⟩
 ·exact .inr ⟨B,0,none,_,h1,⟨[],[],3,false,by rw [k B h3 h4,h2]; simp,rfl⟩,by omega⟩
theorem AccI.single {n1:Nat} {w:AW} {v:Value} {acc:List Int} {B:Nat} (h:AccI n1 w v acc B):Go.Sh.single v=true:=by
 rcases h with ⟨_,rfl,_⟩ | ⟨rfl,_⟩ <;> rfl
theorem call7 {ov:Ov} (ho:∀ args w,ov 7 args w=none) (h41:HasP ov 21 F21) (h38:HasP ov 20 F20) (bv v:Value) (bits:List Int) (l:List Pod) (w:AW) (hl:w.lim≤w.next) (hv:PodsV w v l) (hb:RowsV intC w bv bits) (hbl:bits.length≤2 ^ 60) (hB:podsB l=true) :
  ∃ x w',(run Tryz.prog ov (fm + 2)).call 7 [v,bv] w .none=.ok (.ret x) w' .none∧∃ vr vh vg,x=.agg ⟨[vr,vh,vg]⟩∧RowsV intC w' vr (pk (fR bits) l l.length)∧RowsV intC w' vh (pk (fH bits) l l.length)∧RowsV intC w' vg (pk (fG bits) l l.length)∧Old w.next w.heap w'.heap∧w.next≤w'.next∧w'.lim=w.lim∧(∃ a n,vr=.slice a n n)∧(∃ a n,vh=.slice a n n)∧∃ a n,vg=.slice a n n:=by
 refine call_wp text7 (by simp) (ho _ _) ?_
 simp [mc7]
 refine wp_seqX (wp_blockX (loop7 h41 h38 bv v bits l w hl hv hb hbl hB _ _ _ ⟨?_,?_,?_,.inl ⟨rfl,rfl,rfl⟩,.inl ⟨rfl,rfl,rfl⟩,.inl ⟨rfl,rfl,rfl⟩,fun h=>h,fun h=>h,fun h=>h,?_,?_⟩ ?_ ?_ ?_ ?_ ?_ ?_))
 ·intro b hb
  simp [show ¬ b=w.next by omega,show ¬ b=w.next + 1 by omega]
 ·simp
 ·simp
 ·simp
 ·simp
 ·simp
 ·simp
 ·simp
 ·simp
 ·simp
 ·intro t w' vr vh vg Br Bh Bg hw t4 t5
  have hbox:=hw.box
  have hres:=hw.res
  have hlm:=hw.lim
  have hnx:=hw.next
  have l1:w'.lim≤w.next:=by omega
  have hs:singles [vr,vh,vg]=true:=by simp [singles,hw.ar.single,hw.ah.single,hw.ag.single]
  simp [t4,t5,hbox,hres,l1,cellsOf_agg,hs,tupV]
  have hk:∀ x,w.next + 1 < x→x < w'.next→(w'.heap.put w.next (some (.cells [vr,vh,vg] 42 false))).get x=w'.heap.get x:=fun x h1 h2=>by rw [get_put,if_neg (by omega)]
  exact ⟨_,_,_,⟨rfl,rfl,rfl⟩,hw.ar.rowsG hk (Nat.le_refl _),hw.ah.rowsG hk (Nat.le_refl _),hw.ag.rowsG hk (Nat.le_refl _),hw.old.put (Nat.le_refl _),by omega,hlm,hw.ar.full,hw.ah.full,hw.ag.full⟩
end Go.Proofs.YtijlaopbnigkaaaGreatDoor.walk
namespace Go.Proofs.YtijlaopbnigkaaaGreatDoor.walk
open Go Go.Sh
set_option maxRecDepth 100000
theorem choose_ok {p:Pod} (hp:podB p=true) (bits:List Int) (i:Nat):truthOk p (fR bits i p) (fH bits i p) (fG bits i p)=true:=by
 have k:=pod_ok hp
 have:=k.r1; have:=k.h1; have:=k.g1
 simp only [truthOk,Bool.and_eq_true]
 exact ⟨with_in (by assumption),with_in (by assumption),with_in (by assumption)⟩
theorem choose_to {l:List Pod} (hB:podsB l=true) (bits:List Int):∀ n,n≤l.length→truthTo l (pk (fR bits) l l.length) (pk (fH bits) l l.length) (pk (fG bits) l l.length) n=true
 | 0,_=>rfl
 | n + 1,h=>by
  obtain ⟨p,hp⟩:∃ p,l[n]?=some p:=⟨_,List.getElem?_eq_getElem (by omega)⟩
  rw [truth_snoc hp (pk_at _ l hp _ h) (pk_at _ l hp _ h) (pk_at _ l hp _ h),choose_to hB bits n (by omega),choose_ok (pods_all hB hp)]
  rfl
theorem choose_truth {l:List Pod} (hB:podsB l=true) (bits:List Int):truthB l (pk (fR bits) l l.length) (pk (fH bits) l l.length) (pk (fG bits) l l.length)=true:=by
 simp [truthB,pk_length,choose_to hB bits l.length (Nat.le_refl _)]
theorem sY_le {c:Yl→Int}:∀ A B:List Yl,A.length=B.length→(∀ (i:Nat) (a b:Yl),A[i]?=some a→B[i]?=some b→c a≤c b)→sY c A≤sY c B
 | [],[],_,_=>Int.le_refl _
 | [],_::_,h,_=>by simp at h
 | _::_,[],h,_=>by simp at h
 | a::A,b::B,h,k=>by
  show c a + sY c A≤c b + sY c B
  have h1:=k 0 a b rfl rfl
  have h2:=sY_le A B (by simpa using h) fun i a b e1 e2=>k (i + 1) a b (by simpa using e1) (by simpa using e2)
  omega
theorem truth_lens {l:List Pod} {R H G:List Int} (hT:truthB l R H G=true):R.length=l.length∧H.length=l.length∧G.length=l.length:=by
 simp only [truthB,Bool.and_eq_true,decide_eq_true_eq] at hT; exact ⟨hT.1,hT.2.1,hT.2.2.1⟩
theorem plan_len {l:List Pod} {pl:List Int} (hP:planB l pl=true):pl.length=l.length:=by simp only [planB,Bool.and_eq_true,decide_eq_true_eq] at hP; exact hP.1
theorem lies {l:List Pod} {pl R H G:List Int} (hB:podsB l=true) (hP:planB l pl=true) (hT:truthB l R H G=true) :
  ((loS l pl).ripe≤(sumYl (ysH l pl R H G)).ripe∧(sumYl (ysH l pl R H G)).ripe≤(hiS l pl).ripe)∧((loS l pl).green≤(sumYl (ysH l pl R H G)).green∧(sumYl (ysH l pl R H G)).green≤(hiS l pl).green)∧((loS l pl).split≤(sumYl (ysH l pl R H G)).split∧(sumYl (ysH l pl R H G)).split≤(hiS l pl).split):=by
 obtain ⟨e1,e2,e3⟩:=truth_lens hT
 have e0:=plan_len hP
 have hy:=ysH_length l pl R H G e0 e1 e2 e3
 have he:=esH_length l pl e0
 have key:∀ (i:Nat) (y:Yl) (e:Yl × Yl),(ysH l pl R H G)[i]?=some y→(esH l pl)[i]?=some e→(e.1.ripe≤y.ripe∧y.ripe≤e.2.ripe)∧(e.1.green≤y.green∧y.green≤e.2.green)∧(e.1.split≤y.split∧y.split≤e.2.split):=by
  intro i y e h1 h2
  have hlt:i < l.length:=by have:=(List.getElem?_eq_some_iff.1 h1).1; omega
  obtain ⟨p,hp⟩:∃ p,l[i]?=some p:=⟨_,List.getElem?_eq_getElem hlt⟩
  obtain ⟨d,hdi⟩:∃ d,pl[i]?=some d:=⟨_,List.getElem?_eq_getElem (e0 ▸ hlt)⟩
  obtain ⟨r,hri⟩:∃ d,R[i]?=some d:=⟨_,List.getElem?_eq_getElem (e1 ▸ hlt)⟩
  obtain ⟨h,hhi⟩:∃ d,H[i]?=some d:=⟨_,List.getElem?_eq_getElem (e2 ▸ hlt)⟩
  obtain ⟨g,hgi⟩:∃ d,G[i]?=some d:=⟨_,List.getElem?_eq_getElem (e3 ▸ hlt)⟩
  rw [ysH_at l pl R H G i p d r h g hp hdi hri hhi hgi] at h1
  rw [esH_at l pl i p d hp hdi] at h2
  cases h1
  cases h2
  have k:=pod_ok (pods_all hB hp)
  have hd:=plan_day (plan_at hP hp hdi)
  have ht:=truth_at hT hp hri hhi hgi
  simp only [truthOk,inI,Bool.and_eq_true,decide_eq_true_eq] at ht
  obtain ⟨⟨a1,a2⟩,⟨a3,a4⟩,a5,a6⟩:=ht
  exact ⟨in_ripe k hd a1 a2 a3 a4 a5 a6,in_green k hd a1 a2 a5 a6,in_split k a1 a2 a3 a4⟩
 have lo:∀ (i:Nat) (y e:Yl),((esH l pl).map (·.1))[i]?=some e→(ysH l pl R H G)[i]?=some y→∃ e',(esH l pl)[i]?=some e'∧e'.1=e:=fun i y e h1 h2=>by
  rw [List.getElem?_map] at h1
  cases hx:(esH l pl)[i]? with
  | none=>rw [hx] at h1; cases h1
  | some e'=>rw [hx] at h1; cases h1; exact ⟨_,rfl,rfl⟩
 have hi:∀ (i:Nat) (y e:Yl),((esH l pl).map (·.2))[i]?=some e→(ysH l pl R H G)[i]?=some y→∃ e',(esH l pl)[i]?=some e'∧e'.2=e:=fun i y e h1 h2=>by
  rw [List.getElem?_map] at h1
  cases hx:(esH l pl)[i]? with
  | none=>rw [hx] at h1; cases h1
  | some e'=>rw [hx] at h1; cases h1; exact ⟨_,rfl,rfl⟩
 refine ⟨⟨sY_le _ _ (by simp [hy,he]) fun i a b h1 h2=>?_,sY_le _ _ (by simp [hy,he]) fun i a b h1 h2=>?_⟩,⟨sY_le _ _ (by simp [hy,he]) fun i a b h1 h2=>?_,sY_le _ _ (by simp [hy,he]) fun i a b h1 h2=>?_⟩,sY_le _ _ (by simp [hy,he]) fun i a b h1 h2=>?_,sY_le _ _ (by simp [hy,he]) fun i a b h1 h2=>?_⟩
 ·obtain ⟨e',k1,rfl⟩:=lo i b a h1 h2; exact (key i b e' h2 k1).1.1
 ·obtain ⟨e',k1,rfl⟩:=hi i a b h2 h1; exact (key i a e' h1 k1).1.2
 ·obtain ⟨e',k1,rfl⟩:=lo i b a h1 h2; exact (key i b e' h2 k1).2.1.1
 ·obtain ⟨e',k1,rfl⟩:=hi i a b h2 h1; exact (key i a e' h1 k1).2.1.2
 ·obtain ⟨e',k1,rfl⟩:=lo i b a h1 h2; exact (key i b e' h2 k1).2.2.1
 ·obtain ⟨e',k1,rfl⟩:=hi i a b h2 h1; exact (key i a e' h1 k1).2.2.2
def digS:Nat→ByteArray
 | 0=>⟨⟨[48]⟩⟩ | 1=>⟨⟨[49]⟩⟩ | 2=>⟨⟨[50]⟩⟩ | 3=>⟨⟨[51]⟩⟩ | 4=>⟨⟨[52]⟩⟩ | _=>⟨⟨[53]⟩⟩
theorem dig0 (w:AW):sliceA Tryz.prog w 9 (.string ⟨⟨[48,49,50,51,52,53,54,55,56,57]⟩⟩) (some (.int .i64 0)) (some (.int .i64 1)) none=.val (.string ⟨⟨[48]⟩⟩) w:=by kernel_rfl
theorem wr0:IntKind.i64.wrap 1=1:=by decide
theorem dig1 (w:AW):sliceA Tryz.prog w 9 (.string ⟨⟨[48,49,50,51,52,53,54,55,56,57]⟩⟩) (some (.int .i64 1)) (some (.int .i64 2)) none=.val (.string ⟨⟨[49]⟩⟩) w:=by kernel_rfl
theorem wr1:IntKind.i64.wrap 2=2:=by decide
theorem dig2 (w:AW):sliceA Tryz.prog w 9 (.string ⟨⟨[48,49,50,51,52,53,54,55,56,57]⟩⟩) (some (.int .i64 2)) (some (.int .i64 3)) none=.val (.string ⟨⟨[50]⟩⟩) w:=by kernel_rfl
theorem wr2:IntKind.i64.wrap 3=3:=by decide
theorem dig3 (w:AW):sliceA Tryz.prog w 9 (.string ⟨⟨[48,49,50,51,52,53,54,55,56,57]⟩⟩) (some (.int .i64 3)) (some (.int .i64 4)) none=.val (.string ⟨⟨[51]⟩⟩) w:=by kernel_rfl
theorem wr3:IntKind.i64.wrap 4=4:=by decide
theorem dig4 (w:AW):sliceA Tryz.prog w 9 (.string ⟨⟨[48,49,50,51,52,53,54,55,56,57]⟩⟩) (some (.int .i64 4)) (some (.int .i64 5)) none=.val (.string ⟨⟨[52]⟩⟩) w:=by kernel_rfl
theorem wr4:IntKind.i64.wrap 5=5:=by decide
theorem dig5 (w:AW):sliceA Tryz.prog w 9 (.string ⟨⟨[48,49,50,51,52,53,54,55,56,57]⟩⟩) (some (.int .i64 5)) (some (.int .i64 6)) none=.val (.string ⟨⟨[53]⟩⟩) w:=by kernel_rfl
theorem wr5:IntKind.i64.wrap 6=6:=by decide
theorem run10 {ov:Ov} (ho:∀ args w,ov 10 args w=none) (n:Nat) (hn:n≤5) (m:Nat) (w:AW):(run Tryz.prog ov (m + 1)).call 10 [.int .i64 (n:Int)] w .none=.ok (.ret (.string (digS n))) w .none:=by
 have key:∃ v w',(run Tryz.prog ov (m + 1)).call 10 [.int .i64 (n:Int)] w .none=.ok (.ret v) w' .none∧v=.string (digS n)∧w'=w:=by
  refine call_wp text10 (by simp) (ho _ _) ?_
  match n,hn with
  | 0,_=>simp [mc10,digS,tupV,dig0,wr0]
  | 1,_=>simp [mc10,digS,tupV,dig1,wr1]
  | 2,_=>simp [mc10,digS,tupV,dig2,wr2]
  | 3,_=>simp [mc10,digS,tupV,dig3,wr3]
  | 4,_=>simp [mc10,digS,tupV,dig4,wr4]
  | 5,_=>simp [mc10,digS,tupV,dig5,wr5]
 obtain ⟨v,w',h,rfl,rfl⟩:=key
 exact h
theorem one_pods {p:Pod} (h:podB p=true):podsB [p]=true:=by
 show (decide (1≤12) && (true && (podB p && !hasT (tagsTo [p] 0) p.tag)))=true
 rw [h]; rfl
theorem one_plan {p:Pod} {d:Int} (h:planOk p d=true):planB [p] [d]=true:=by
 show (decide (1=1) && (true && planOk p d))=true
 rw [h]; rfl
theorem one_truth {p:Pod} {r h g:Int} (k:truthOk p r h g=true):truthB [p] [r] [h] [g]=true:=by
 show (decide (1=1) && (decide (1=1) && (decide (1=1) && (true && truthOk p r h g))))=true
 rw [k]; rfl
theorem one_lies {p:Pod} {d r h g:Int} (h1:podB p=true) (h2:planOk p d=true) (h3:truthOk p r h g=true) :
  chkE [p] [d]=0∧harE [p] [d] [r] [h] [g]=0∧0≤(loS [p] [d]).ripe∧(loS [p] [d]).ripe≤(harY [p] [d] [r] [h] [g]).ripe∧(harY [p] [d] [r] [h] [g]).ripe≤(hiS [p] [d]).ripe∧(hiS [p] [d]).ripe≤400:=by
 have a:=one_pods h1
 have b:=one_plan h2
 have c:=one_truth h3
 have e0:chkE [p] [d]=0:=by unfold chkE; rw [a,b]; rfl
 have e1:harE [p] [d] [r] [h] [g]=0:=by unfold harE; rw [if_pos e0,c]; rfl
 have e2:harY [p] [d] [r] [h] [g]=sumYl (ysH [p] [d] [r] [h] [g]):=by unfold harY; rw [if_pos e1]
 obtain ⟨⟨k1,k2⟩,_⟩:=lies a b c
 obtain ⟨s1,s2⟩:=es_small a b
 have q1:(loS [p] [d]).ripe=(endsY (podS p d)).1.ripe + 0:=rfl
 have q2:(hiS [p] [d]).ripe=(endsY (podS p d)).2.ripe + 0:=rfl
 have t1:=s1 (endsY (podS p d)).1 (.head _)
 have t2:=s2 (endsY (podS p d)).2 (.head _)
 rw [e2]
 refine ⟨e0,e1,?_,k1,k2,?_⟩
 ·have:=t1.1; omega
 ·have:=t2.2.1; omega
end Go.Proofs.YtijlaopbnigkaaaGreatDoor.walk
namespace Go.Sh
open Go
theorem slice_mid {P:Program} {st e:TypeId} {sz:Nat} (h1:elemA P st=some e) (h2:szOf P e=some sz) {w:AW} {a:Addr} {n c lo k:Nat} {cs:List Value} {e':TypeId} {ro:Bool} (hg:w.heap.get a.block=some (.cells cs e' ro)) (hlo:lo≤k) (hk:k≤c) :
  sliceA P w st (.slice (some a) n c) (some (.int .i64 (lo:Int))) (some (.int .i64 (k:Int))) none=.val (.slice (some ⟨a.block,a.off + lo * sz,bif Nat.beq e e' && a.spot.isNone then none else some 1⟩) (k - lo) (c - lo)) w:=by
 show sliceA P w st (.slice (some a) n c) (some (.int .i64 (Int.ofNat lo))) (some (.int .i64 (Int.ofNat k))) none=_
 have hb:Nat.ble lo k=true:=Nat.ble_eq_true_of_le hlo
 have hb':Nat.ble k c=true:=Nat.ble_eq_true_of_le hk
 simp [sliceA,sliceB1,h1,h2,sliceRow,boundA,hb,hb',cutR,cutAddr,rowElem,hg]
section
variable {P:Program}
theorem append_copy {st e:TypeId} {sz:Nat} (h0:isList P st=true) (h1:elemA P st=some e) (h2:szOf P e=some sz) (h3:smallT P e=true) {w:AW} {B n m:Nat} {c new:List Value} {x:Value} (h4:lenA x=some m) (h5:srcCells w sz x=some new) (hl:new.length=m * sz) (hm:0 < m) (hnm:n + m≤100000)
  (hg:srcCells w sz (.slice (some ⟨B,0,some 2⟩) n n)=some c) (hc:c.length=n * sz) :
  append1 P w [st,st] [.slice (some ⟨B,0,some 2⟩) n n,x]=.val (.slice (some ⟨w.next,0,none⟩) (n + m) (n + m)) ⟨w.heap.put w.next (some (.cells (c++new) e false)),w.next + 1,w.lim⟩:=by
 rw [append_eq h0 h1 h2 h3,h4,h5]
 have e1:Nat.ble (n + m) 1000000=true:=Nat.ble_eq_true_of_le (by omega)
 have e2:Nat.beq (lenL new 0) (m * sz)=true:=by rw [lenL0,hl]; exact Nat.beq_refl _
 have e3:Nat.beq m 0=false:=by rw [← Bool.not_eq_true]; intro h; have:=Nat.eq_of_beq_eq_true h; omega
 have e4:Nat.ble (n + m) n=false:=by rw [← Bool.not_eq_true]; intro h; have:=Nat.le_of_ble_eq_true h; omega
 have e6:isExact (some 2)=true:=rfl
 simp only [e1,e2,Bool.and_self,cond_true,appendB,e3,cond_false,e4,hg,e6,appendCopy]
 have e7:Nat.beq (lenL c 0) (n * sz)=true:=by rw [lenL0,hc]; exact Nat.beq_refl _
 simp [e7,newR,AW.add,rowV,appL_eq]
end
variable {α:Type}
def LitQ (f:α→List Value) (e:TypeId) (n0:Nat) (w:AW) (v:Value) (acc:List α) (B:Nat):Prop :=
 acc ≠ []∧w.heap.get B=some (.cells (acc.flatMap f) e false)∧B < w.next∧(v=.slice (some ⟨B,0,some 2⟩) acc.length acc.length∨(v=.slice (some ⟨B,0,none⟩) acc.length acc.length∧n0 < B))
theorem LitQ.keep {f:α→List Value} {e:TypeId} {n0:Nat} {w w':AW} {v:Value} {acc:List α} {B:Nat} (h:LitQ f e n0 w v acc B) (k:w'.heap.get B=w.heap.get B) (hn:w.next≤w'.next):LitQ f e n0 w' v acc B:=by
 obtain ⟨h1,h2,h3,h4⟩:=h
 exact ⟨h1,by rw [k]; exact h2,by omega,h4⟩
theorem LitQ.rows {f:α→List Value} {e:TypeId} {n0:Nat} {w:AW} {v:Value} {acc:List α} {B:Nat} (h:LitQ f e n0 w v acc B):RowsV f w v acc:=by
 obtain ⟨h1,h2,h3,h4⟩:=h
 rcases h4 with rfl | ⟨rfl,_⟩
 ·exact .inr ⟨B,0,_,_,rfl,⟨[],[],e,false,by simpa using h2,rfl⟩,h3⟩
 ·exact .inr ⟨B,0,_,_,rfl,⟨[],[],e,false,by simpa using h2,rfl⟩,h3⟩
theorem LitQ.ok {f:α→List Value} {e:TypeId} {n0:Nat} {w:AW} {v:Value} {acc:List α} {B:Nat} (h:LitQ f e n0 w v acc B):notJunk v=some v:=by
 obtain ⟨_,_,_,rfl | ⟨rfl,_⟩⟩:=h <;> rfl
theorem LitQ.slice {f:α→List Value} {e:TypeId} {n0:Nat} {w:AW} {v:Value} {acc:List α} {B:Nat} (h:LitQ f e n0 w v acc B):∃ sq,v=.slice (some ⟨B,0,sq⟩) acc.length acc.length:=by
 obtain ⟨_,_,_,rfl | ⟨rfl,_⟩⟩:=h <;> exact ⟨_,rfl⟩
theorem LitQ.src {f:α→List Value} {e:TypeId} {n0 sz:Nat} {w:AW} {v:Value} {acc:List α} {B:Nat} (h:LitQ f e n0 w v acc B) (hf:∀ a,(f a).length=sz) (hz:0 < sz):lenA v=some acc.length∧srcCells w sz v=some (acc.flatMap f)∧0 < acc.length:=by
 obtain ⟨h1,h2,h3,h4⟩:=h
 have hp:0 < acc.length:=List.length_pos_iff.2 h1
 have:=src_row (w:=w) (B:=B) (k:=acc.length) (sz:=sz) h2 (flat_length hf acc) hp hz
 rcases h4 with rfl | ⟨rfl,_⟩
 ·exact ⟨rfl,this,hp⟩
 ·exact ⟨rfl,this,hp⟩
theorem LitQ.push2 {P:Program} {st e:TypeId} {sz:Nat} {f:α→List Value} (h0:isList P st=true) (h1:elemA P st=some e) (h2:szOf P e=some sz) (h3:smallT P e=true) (hf:∀ a,(f a).length=sz) (hs:∀ a,singles (f a)=true) (hz:0 < sz)
  {n0:Nat} {w:AW} {v:Value} {acc:List α} {B:Nat} (h:LitQ f e n0 w v acc B) (hl:w.lim≤n0) (hn:n0 < w.next) (hlen:acc.length≤90000) (y:α) :
  ∃ v' w',append1 P ⟨w.heap.put w.next (some (.cells (f y) e false)),w.next + 1,w.lim⟩ [st,st] [v,.slice (some ⟨w.next,0,some 2⟩) 1 1]=.val v' w'∧(∃ B',w.next≤B'∧LitQ f e n0 w' v' (acc++[y]) B')∧(∀ x,x < w.next→(n0 < B→x ≠ B)→w'.heap.get x=w.heap.get x)∧w.next≤w'.next∧w'.lim=w.lim:=by
 have hsrc:srcCells ⟨w.heap.put w.next (some (.cells (f y) e false)),w.next + 1,w.lim⟩ sz (.slice (some ⟨w.next,0,some 2⟩) 1 1)=some (f y):=src_row (e':=e) (ro:=false) (k:=1) (by simp) (by simp [hf]) (by decide) hz
 obtain ⟨k1,k2,k3,k4⟩:=h
 have hp:0 < acc.length:=List.length_pos_iff.2 k1
 have hB':(w.heap.put w.next (some (.cells (f y) e false))).get B=some (.cells (acc.flatMap f) e false):=by rw [get_put,if_neg (by omega)]; exact k2
 rcases k4 with rfl | ⟨rfl,k4⟩
 ·have hg:srcCells ⟨w.heap.put w.next (some (.cells (f y) e false)),w.next + 1,w.lim⟩ sz (.slice (some ⟨B,0,some 2⟩) acc.length acc.length)=some (acc.flatMap f):=src_row (e':=e) (ro:=false) (k:=acc.length) hB' (flat_length hf acc) hp hz
  refine ⟨_,_,append_copy h0 h1 h2 h3 (n:=acc.length) (m:=1) (c:=acc.flatMap f) rfl hsrc (by simp [hf]) (by decide) (by omega) hg (flat_length hf acc),⟨w.next + 1,Nat.le_succ _,by simp,?_,Nat.lt_succ_self _,.inr ⟨by simp,by show n0 < w.next + 1; omega⟩⟩,fun x hx _=>?_,?_,rfl⟩
  ·simp
  ·show ((w.heap.put w.next _).put (w.next + 1) _).get x=_
   rw [get_put,if_neg (by omega),get_put,if_neg (by omega)]
  ·show w.next≤w.next + 1 + 1; omega
 ·refine ⟨_,_,append_full h0 h1 h2 h3 (n:=acc.length) (m:=1) (c:=acc.flatMap f) rfl hsrc (by simp [hf]) (hs y) (by decide) (by omega) hB' (flat_length hf acc) (by show w.lim≤B; omega),⟨w.next + 1,Nat.le_succ _,by simp,?_,Nat.lt_succ_self _,.inr ⟨by simp,by show n0 < w.next + 1; omega⟩⟩,fun x hx hne=>?_,?_,rfl⟩
  ·simp
  ·have:=hne k4
   show (((w.heap.put w.next _).put B none).put (w.next + 1) _).get x=_
   rw [get_put,if_neg (by omega),get_put,if_neg (by omega),get_put,if_neg (by omega)]
  ·show w.next≤w.next + 1 + 1; omega
end Go.Sh
namespace Go.Sh
open Go
variable {P:Program}
structure PSpec where
 R:List Value→AW→Value→Prop
 uniq:∀ {args w v v'},R args w v→R args w v'→v=v'
 shut:∀ {args w v},R args w v→R args (shutA w) v
open Classical in
noncomputable def PSpec.F (S:PSpec):PureF:=fun args w=>if h:∃ v,S.R args w v then some h.choose else none
theorem PSpec.F_eq (S:PSpec) {args:List Value} {w:AW} {v:Value} (h:S.R args w v):S.F args w=some v:=by
 have hx:∃ v,S.R args w v:=⟨v,h⟩
 unfold PSpec.F
 rw [dif_pos hx]
 exact congrArg some (S.uniq hx.choose_spec h)
theorem PSpec.of_F (S:PSpec) {args:List Value} {w:AW} {v:Value} (h:S.F args w=some v):S.R args w v:=by
 unfold PSpec.F at h
 by_cases hx:∃ v,S.R args w v
 ·rw [dif_pos hx] at h
  cases h
  exact hx.choose_spec
 ·rw [dif_neg hx] at h; cases h
theorem PSpec.call (S:PSpec) {ov:Ov} {f:FuncId} (k:HasP ov f S.F) {m:Nat} {args:List Value} {w:AW} {v:Value} (h:S.R args w v):(run P ov (m + 1)).call f args w .none=.ok (.ret v) w .none:=k.call (S.F_eq h)
theorem PSpec.call1 (S:PSpec) {ov:Ov} {f:FuncId} (k:HasP ov f S.F) {args:List Value} {w:AW} {v:Value} (h:S.R args w v):(run P ov 1).call f args w .none=.ok (.ret v) w .none:=k.call (m:=0) (S.F_eq h)
theorem PSpec.ok (S:PSpec) (hP:NoCount P) (hm:P.follows .mixedOrders=true) {rest:Ov} (hO:OvOk P rest) {f:FuncId}
  (fact:∀ args w v,w.lim=w.next→S.R args w v→groundC 3 v=true∧∃ m v' w' x',(run P rest m).call f args w .none=.ok (.ret v') w' x'∧v'=v):OvOk P (ovP f S.F rest) :=
 pure_ok hP hm hO (fun args w v h=>S.F_eq (S.shut (S.of_F h))) fun args w v hl h=>by
  obtain ⟨h1,m,v',w',x',h2,rfl⟩:=fact args w v hl (S.of_F h)
  exact ⟨h1,m,w',x',h2⟩
structure Up (we w:AW):Prop where
 old:Old we.next we.heap w.heap
 next:we.next≤w.next
 lim:w.lim=we.lim
theorem Up.refl (w:AW):Up w w:=⟨Old.refl _ _,Nat.le_refl _,rfl⟩
theorem Up.trans {a b c:AW} (h:Up a b) (k:Up b c):Up a c:=⟨h.old.trans k.old h.next,Nat.le_trans h.next k.next,k.lim.trans h.lim⟩
theorem Up.put {we:AW} {H:T AObj} {n n' l k:Nat} {o:Option AObj} (h:Up we ⟨H,n,l⟩) (hk:we.next≤k) (hn:n≤n'):Up we ⟨H.put k o,n',l⟩:=⟨h.old.put hk,Nat.le_trans h.next hn,h.lim⟩
theorem Up.add {we w:AW} (h:Up we w) (o:Option AObj):Up we ⟨w.heap.put w.next o,w.next + 1,w.lim⟩:=⟨h.old.put h.next,Nat.le_trans h.next (Nat.le_succ _),h.lim⟩
theorem Up.at {we w:AW} (h:Up we w) {b:Nat} (hb:b < we.next):w.heap.get b=we.heap.get b:=h.old b hb
theorem RowsV.up {α:Type} {f:α→List Value} {we w:AW} {v:Value} {l:List α} (h:RowsV f we v l) (k:Up we w):RowsV f w v l:=h.old k.old k.next
variable {w:AW}
end Go.Sh
namespace Go.Proofs.YtijlaopbnigkaaaGreatDoor.walk
open Go Go.Sh
set_option maxRecDepth 100000
def S9:PSpec where
 R args _ v:=∃ n a b:Int,args=[.int .i64 n,.int .i64 a,.int .i64 b]∧v=.bool (inI a n b)
 uniq:=by rintro _ _ _ _ ⟨n,a,b,rfl,rfl⟩ ⟨_,_,_,h,rfl⟩; cases h; rfl
 shut h:=h
def S80:PSpec where
 R args _ v:=∃ s:ByteArray,args=[.string s]∧v=.bool (wordB s.data.toList)
 uniq:=by rintro _ _ _ _ ⟨n,rfl,rfl⟩ ⟨_,h,rfl⟩; cases h; rfl
 shut h:=h
theorem len37V {α:Type} {w w':AW} {v:Value} {l:List α} {f:α→List Value} (h:RowsV f w v l):lenB Tryz.prog w' 37 v=.val (.int .i64 (l.length:Nat)) w':=by
 obtain ⟨a,c,rfl⟩:=h.len; simp
theorem len38V {α:Type} {w w':AW} {v:Value} {l:List α} {f:α→List Value} (h:RowsV f w v l):lenB Tryz.prog w' 38 v=.val (.int .i64 (l.length:Nat)) w':=by
 obtain ⟨a,c,rfl⟩:=h.len; simp
def totW (l:List Int):Int:=l.foldl (fun s z=>IntKind.wrap .i64 (s + z)) 0
def totL:List Int→Int
 | []=>0
 | a::l=>a + totL l
theorem totL_app:∀ a b:List Int,totL (a++b)=totL a + totL b
 | [],b=>by simp [totL]
 | d::a,b=>by simp only [List.cons_append,totL,totL_app a b]; omega
theorem totL_in:∀ {l:List Int} {M:Int},(∀ z ∈ l,0≤z∧z≤M)→0≤totL l∧totL l≤M * l.length
 | [],M,_=>by simp [totL]
 | a::l,M,h=>by
  have h1:=h a (List.mem_cons_self ..)
  have h2:=totL_in (l:=l) fun z hz=>h z (List.mem_cons_of_mem _ hz)
  simp only [totL,List.length_cons]
  rw [Int.natCast_add,Int.mul_add]
  omega
theorem totW_app (l:List Int) (z:Int):totW (l++[z])=IntKind.wrap .i64 (totW l + z):=by simp [totW,List.foldl_append]
theorem snoc_ind {α:Type} {p:List α→Prop} (h0:p []) (h1:∀ l a,p l→p (l++[a])) (l:List α):p l:=by
 have:∀ n (l:List α),l.length=n→p l:=by
  intro n
  induction n with
  | zero=>intro l hl; rw [List.length_eq_zero_iff.1 hl]; exact h0
  | succ n ih =>
   intro l hl
   have hne:l ≠ []:=by intro e; rw [e] at hl; simp at hl
   have e:=List.dropLast_concat_getLast hne
   rw [← e]
   exact h1 _ _ (ih _ (by rw [List.length_dropLast]; omega))
 exact this _ l rfl
theorem totW_eq {l:List Int}:(∀ z ∈ l,0≤z∧z≤2 ^ 40)→l.length≤1000→totW l=totL l:=by
 induction l using snoc_ind with
 | h0=>intros; rfl
 | h1 l a ih =>
  intro h hl
  rw [List.length_append,List.length_singleton] at hl
  have h2:∀ z ∈ l,0≤z∧z≤2 ^ 40:=fun z hz=>h z (List.mem_append_left _ hz)
  have h1:=h a (by simp)
  have h3:=totL_in h2
  rw [totW_app,totL_app,ih h2 (by omega)]
  have:(2 ^ 40:Int) * l.length≤2 ^ 40 * 1000:=Int.mul_le_mul_of_nonneg_left (by omega) (by decide)
  rw [wrap64_in (by omega) (by omega)]
  simp [totL]
theorem totW_step {l:List Int} {i:Nat} {z:Int} (h:l[i]?=some z):totW (l.take (i + 1))=IntKind.wrap .i64 (totW (l.take i) + z):=by
 rw [List.take_add_one,h]; exact totW_app _ _
def S47:PSpec where
 R args w v:=∃ (a:Value) (U:List Int),args=[a]∧RowsV intC w a U∧U.length≤2 ^ 60∧v=.int .i64 (totW U)
 uniq:=by
  rintro _ _ _ _ ⟨a,U,rfl,h1,_,rfl⟩ ⟨a',U',e,k1,_,rfl⟩
  cases e
  rw [h1.uniq (m:=1) intC_length intC_inj k1]
 shut h:=h
theorem run47 {ov:Ov} (ho:∀ args w,ov 47 args w=none) (U:List Int) (hlen:U.length≤2 ^ 60) (u:Value) (w:AW) (hu:RowsV intC w u U):∃ y w',(run Tryz.prog ov 2).call 47 [u] w .none=.ok (.ret y) w' .none∧y=.int .i64 (totW U):=by
 refine call_wp text47 (by simp) (ho _ _) ?_
 have hlu:=fun w2=>len23V (w':=w2) hu
 simp [mc47,hlu]
 refine wp_seqX (wp_blockX (wp_rounds (fun i t w'=>w'=w∧tget t 6=u∧tget t 7=.int .i64 (U.length:Nat)∧tget t 8=.int .i64 (i:Nat)∧tget t 3=.int .i64 (totW (U.take i))∧i≤U.length) (2 ^ 60 + 1) (by decide) ⟨rfl,by simp,by simp,by simp,by simp [totW],Nat.zero_le _⟩ ?_))
 rintro i t w' ⟨rfl,t6,t7,t8,t3,hi⟩
 by_cases hlt:i < U.length
 ·obtain ⟨z,hz⟩:∃ z,U[i]?=some z:=⟨_,List.getElem?_eq_getElem hlt⟩
  obtain ⟨b,off,sq,cp,rfl,hr⟩:=hu.at_ i hlt
  have hld:=hr.int hz
  have hia:=fun w=>ia23 w ⟨b,off,sq⟩ U.length cp .i64 i hlt
  simp only [Nat.mul_one] at hia
  have hw1:IntKind.wrap .i64 ((i:Int) + 1)=(i:Int) + 1:=wrap64_in (by omega) (by omega)
  have hs:=totW_step hz
  simp [mc47_l0,t3,t6,t7,t8,hlt,hia,hld,hw1,hs]
  omega
 ·have hi':i=U.length:=by omega
  subst hi'
  simp [mc47_l0,t3,t6,t7,t8,tupV]
end Go.Proofs.YtijlaopbnigkaaaGreatDoor.walk
